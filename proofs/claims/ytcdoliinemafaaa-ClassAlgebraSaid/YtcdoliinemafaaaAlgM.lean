/-
  The laws of sets, of classes.
-/
import Derived.Test.YtcdoliinemafaaaWorks
namespace Go.Proofs.Ytcdoliinemafaaa
open Go.RowKit

theorem set_morgan (a b : Cl) : notL (orL a.1 b.1) = andL (notL a.1) (notL b.1) :=
  ext_c _ _ (isC_not _ (isC_or _ _ a.2 b.2)) (isC_and _ _ (isC_not _ a.2) (isC_not _ b.2)) fun x hx => by
    rw [has_not _ (isC_or _ _ a.2 b.2) x hx, has_or _ _ x hx, has_and _ _ x hx, has_not _ a.2 x hx, has_not _ b.2 x hx, Bool.not_or]
theorem set_twice (a : Cl) : notL (notL a.1) = a.1 := ext_c _ _ (isC_not _ (isC_not _ a.2)) a.2 fun x hx => by rw [has_not _ (isC_not _ a.2) x hx, has_not _ a.2 x hx, Bool.not_not]
theorem set_part (a b c : Cl) : andL a.1 (orL b.1 c.1) = orL (andL a.1 b.1) (andL a.1 c.1) :=
  ext_c _ _ (isC_and _ _ a.2 (isC_or _ _ b.2 c.2)) (isC_or _ _ (isC_and _ _ a.2 b.2) (isC_and _ _ a.2 c.2)) fun x hx => by
    rw [has_and _ _ x hx, has_or _ _ x hx, has_or _ _ x hx, has_and _ _ x hx, has_and _ _ x hx, Bool.and_or_distrib_left]
theorem set_comm (a b : Cl) : orL b.1 a.1 = orL a.1 b.1 := ext_c _ _ (isC_or _ _ b.2 a.2) (isC_or _ _ a.2 b.2) fun x hx => by rw [has_or _ _ x hx, has_or _ _ x hx, Bool.or_comm]
theorem set_none (a : Cl) : orL a.1 noneL = a.1 := ext_c _ _ (isC_or _ _ a.2 isC_none) a.2 fun x hx => by rw [has_or _ _ x hx, has_none, Bool.or_false]
theorem has_range (x : Nat) (h : x < 256) : hasL (rangeL 0 255) x = true := by
  unfold rangeL
  rw [has_fromL _ _ _ (by omega)]
  exact decide_eq_true (by omega)
theorem set_all (a : Cl) : andL a.1 (rangeL 0 255) = a.1 := ext_c _ _ (isC_and _ _ a.2 (isC_fromL _ _)) a.2 fun x hx => by rw [has_and _ _ x hx, has_range x hx, Bool.and_true]
theorem set_gone (a : Cl) : andL a.1 (notL a.1) = noneL := ext_c _ _ (isC_and _ _ a.2 (isC_not _ a.2)) isC_none fun x hx => by rw [has_and _ _ x hx, has_not _ a.2 x hx, has_none, Bool.and_not_self]
theorem set_whole (a : Cl) : orL a.1 (notL a.1) = rangeL 0 255 := ext_c _ _ (isC_or _ _ a.2 (isC_not _ a.2)) (isC_fromL _ _) fun x hx => by rw [has_or _ _ x hx, has_not _ a.2 x hx, has_range x hx, Bool.or_not_self]
theorem cnt_both (a b : Cl) : ∀ k : Nat, k ≤ 256 → cntL (orL a.1 b.1) k + cntL (andL a.1 b.1) k = cntL a.1 k + cntL b.1 k
  | 0, _ => rfl
  | k + 1, h => by
    have ih := cnt_both a b k (by omega)
    rw [cnt_step, cnt_step, cnt_step, cnt_step, has_or _ _ k (by omega), has_and _ _ k (by omega)]
    cases hasL a.1 k <;> cases hasL b.1 k <;> simp <;> omega
theorem cnt_not (a : Cl) : ∀ k : Nat, k ≤ 256 → cntL a.1 k + cntL (notL a.1) k = k
  | 0, _ => rfl
  | k + 1, h => by
    have ih := cnt_not a k (by omega)
    rw [cnt_step, cnt_step, has_not _ a.2 k (by omega)]
    cases hasL a.1 k <;> simp <;> omega
end Go.Proofs.Ytcdoliinemafaaa
