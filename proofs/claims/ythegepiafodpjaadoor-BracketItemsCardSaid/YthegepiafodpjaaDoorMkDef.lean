/-
  A mark, plainly.
-/
import Derived.Below
namespace Go.Proofs.YthegepiafodpjaaDoor
/-- A mark: its byte, and whether it is plain. -/
abbrev Mk := Int × Bool
end Go.Proofs.YthegepiafodpjaaDoor
