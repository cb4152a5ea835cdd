/-
  fill.Long and galleyref16.Long: how many bytes come out, at most so many.
-/
import Derived.Test.YtdbkoephkdfbfaaDoorExpand
namespace Go.Proofs.YtdbkoephkdfbfaaDoor
open Go.RowKit
attribute [local go_sem] as_ww as_dw as_fw as_bw as_dd as_fd as_bd as_ff as_bf

theorem capN_le (n : Nat) : capN n ≤ 1099511627776 := by unfold capN; omega
theorem capN_add (a b : Nat) : capN (a + b) = min (capN a + capN b) 1099511627776 := by unfold capN; omega

end Go.Proofs.YtdbkoephkdfbfaaDoor
