/-
  galleyref00.Long: beyond the bound of the document?
-/
import Derived.Test.YtfmcjmkdlldlhaaBytes
namespace Go.Proofs.Ytfmcjmkdlldlhaa
open Go.RowKit

/-- galleyref00.Long: beyond the bound of the document? -/
theorem long_any (w : World) (n : Nat) (hn : n ≤ 140737488351232) : Calls Try.prog 9 #[.int .i64 n] w fun e w' => e = .returned (.bool (decide (2147483647 < n))) ∧ w = w' := by
  by_cases h : 2147483647 < n
  · have h1 : (2147483647 : Int) < (n : Int) := by omega
    have hd := Lib.hid (decide_eq_true h)
    clear h
    go_enter Try.func9, Try.ntmps9
    go_wp2
    go_ret
    exact ⟨ret_bool hd.out.symm, rfl⟩
  · have h1 : ¬ (2147483647 : Int) < (n : Int) := by omega
    have hd := Lib.hid (decide_eq_false h)
    clear h
    go_enter Try.func9, Try.ntmps9
    go_wp2
    go_ret
    exact ⟨ret_bool hd.out.symm, rfl⟩

end Go.Proofs.Ytfmcjmkdlldlhaa
