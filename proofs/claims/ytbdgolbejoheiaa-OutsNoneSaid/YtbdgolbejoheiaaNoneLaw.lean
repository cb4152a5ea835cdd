/-
  OutsNone: of no output, and of one that New did not make.
-/
import Derived.Test.YtbdgolbejoheiaaWorks14
namespace Go.Proofs.Ytbdgolbejoheiaa
open Go.RowKit

/-- In W the output in block b is one that New did not make. -/
theorem zero_all {W : World} {b : Nat} (h : At W b TOut zeroCells) :
    (∀ v, Calls Try.prog 7 #[.pointer (some ⟨b, 0, none⟩), v] W fun e w' => e = .returned (.int .i64 1) ∧ W = w') ∧ Calls Try.prog 9 #[.pointer (some ⟨b, 0, none⟩)] W (fun e w' => e = .returned (.int .i64 1) ∧ W = w') ∧
    Calls Try.prog 10 #[.pointer (some ⟨b, 0, none⟩)] W (fun e w' => e = .returned (.int .i64 1) ∧ W = w') ∧ Calls Try.prog 11 #[.pointer (some ⟨b, 0, none⟩)] W (fun e w' => e = .returned (.int .i64 0) ∧ W = w') :=
  ⟨fun v => write_no W _ v (made_zero W b h), flush_no W _ (made_zero W b h), err_no W _ (made_zero W b h), count_no W _ (made_zero W b h)⟩
theorem nil_all (W : World) :
    (∀ v, Calls Try.prog 7 #[.pointer none, v] W fun e w' => e = .returned (.int .i64 1) ∧ W = w') ∧ Calls Try.prog 9 #[.pointer none] W (fun e w' => e = .returned (.int .i64 1) ∧ W = w') ∧
    Calls Try.prog 10 #[.pointer none] W (fun e w' => e = .returned (.int .i64 1) ∧ W = w') ∧ Calls Try.prog 11 #[.pointer none] W (fun e w' => e = .returned (.int .i64 0) ∧ W = w') :=
  ⟨fun v => write_no W _ v (made_nil W), flush_no W _ (made_nil W), err_no W _ (made_nil W), count_no W _ (made_nil W)⟩

set_option maxHeartbeats 1000000 in
theorem none_walk (W : World) (a : Option Addr) (n c : Nat) (R : List (List Int)) (hR : RB W (.slice a n c) R) : Calls Try.prog 3 #[.slice a n c] W fun e w' => e = .returned (.bool true) ∧ Below W.heap.size W w' := by
  have hb1 := (Below.refl W.heap.size W).alloc (Nat.le_refl _) (.cells zeroCells.toArray TOut)
  have hz1 : At (W.alloc (.cells zeroCells.toArray TOut)) W.heap.size TOut zeroCells := At.new W _ _
  have HC := Lib.hid (copyRows_any _ _ _ (hR.below hb1))
  have HZ := Lib.hid hz1
  have HB := Lib.hid hb1
  have HR := Lib.hid hR
  clear hb1 hz1 hR
  go_enter Try.func3, Try.ntmps3
  go_wp2_with fail
  refine HC.out.mono ?_
  rintro e w1 ⟨v1, vs1, rfl, -, hb1⟩
  have hz1 := HZ.out.below hb1
  have hs0 := HB.out.size
  have hB1 := HB.out.trans (hb1.mono hs0)
  have hs1 := hB1.size
  have HC := Lib.hid (copyRows_any _ _ _ (HR.out.below hB1))
  have HZ1 := Lib.hid hz1
  have HB1 := Lib.hid hB1
  clear HZ HB HR hb1 hz1 hB1
  go_wp2_with fail
  refine ((nil_all w1).1 _).mono ?_
  rintro e w' ⟨rfl, rfl⟩
  go_wp2_with fail
  refine HC.out.mono ?_
  rintro e w2 ⟨v2, vs2, rfl, -, hb2⟩
  have hz2 := HZ1.out.below hb2
  have hB2 := HB1.out.trans (hb2.mono hs1)
  have HN := Lib.hid (nil_all w2)
  have HA := Lib.hid (zero_all hz2)
  have HWk := Lib.hid (works_any w2)
  have HB2 := Lib.hid hB2
  clear HC HZ1 HB1 hb2 hz2 hB2
  go_wp2_with fail
  refine (HA.out.1 _).mono ?_
  rintro e w' ⟨rfl, rfl⟩
  go_wp2_with fail
  refine HN.out.2.1.mono ?_
  rintro e w' ⟨rfl, rfl⟩
  go_wp2_with fail
  refine HA.out.2.1.mono ?_
  rintro e w' ⟨rfl, rfl⟩
  go_wp2_with fail
  refine HN.out.2.2.1.mono ?_
  rintro e w' ⟨rfl, rfl⟩
  go_wp2_with fail
  refine HA.out.2.2.1.mono ?_
  rintro e w' ⟨rfl, rfl⟩
  go_wp2_with fail
  refine HN.out.2.2.2.mono ?_
  rintro e w' ⟨rfl, rfl⟩
  go_wp2_with fail
  refine HA.out.2.2.2.mono ?_
  rintro e w' ⟨rfl, rfl⟩
  go_wp2_with fail
  refine HWk.out.mono ?_
  rintro e w3 ⟨rfl, hb3⟩
  have HP := Lib.hid (HB2.out.trans (hb3.mono HB2.out.size))
  clear hb3
  go_wp2_with fail
  go_ret
  exact ⟨rfl, HP.out⟩
end Go.Proofs.Ytbdgolbejoheiaa
