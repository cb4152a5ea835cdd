/-
  Classes: Not by definition, Size.
-/
import Derived.Test.YtakimaceohfpcaaCops
import Derived.Lib.BitFns
namespace Go.Proofs.Ytakimaceohfpcaa
open Go.RowKit

/-- How many of the first k bytes the class has. -/
def cntL (a : List Nat) (k : Nat) : Nat := ((List.range k).filter (hasL a)).length
theorem cnt_step (a : List Nat) (k : Nat) : cntL a (k + 1) = cntL a k + if hasL a k = true then 1 else 0 := by
  unfold cntL
  rw [List.range_succ, List.filter_append, List.length_append]
  congr 1
  by_cases h : hasL a k = true <;> simp [h]
theorem cnt_le (a : List Nat) (k : Nat) : cntL a k ≤ k := by
  unfold cntL
  exact Nat.le_trans (List.length_filter_le _ _) (by simp)

end Go.Proofs.Ytakimaceohfpcaa
