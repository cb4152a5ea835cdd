/-
  What the model says of the machine of galleylaw08.works.
-/
import Derived.Test.YtfmcjmkdlldlhaaDoorLgM
namespace Go.Proofs.YtfmcjmkdlldlhaaDoor
open Go.RowKit

def aC : List Nat := [0, 8589934592, 0, 0]
def bC : List Nat := [0, 17179869184, 0, 0]
def zC : List Nat := [0, 0, 0, 0]
def workM : List Ins := [⟨5, zC, 1, 3⟩, ⟨1, aC, 0, 0⟩, ⟨4, zC, 0, 0⟩, ⟨1, bC, 0, 0⟩, ⟨6, zC, 0, 0⟩]
theorem work_find : (findM workM [99, 97, 97, 98, 97, 98] 0).1 = some (1, 4) := by decide +kernel
theorem work_steps : 0 < (findM workM [99, 97, 97, 98, 97, 98] 0).2 := by decide +kernel
theorem work_none : (findM workM [97, 97, 97] 0).1 = none := by decide +kernel
theorem work_ends : (endsM workM [97, 98] 1).1 = [false, false, true] := by decide +kernel
end Go.Proofs.YtfmcjmkdlldlhaaDoor
