/-
  galleylaw18.lives.
-/
import Derived.Test.YtkiiidhfjieknaaDoorBack
import Derived.Test.YtkiiidhfjieknaaDoorEq
namespace Go.Proofs.YtkiiidhfjieknaaDoor
open Go.RowKit

theorem wide69 : wideN 69 = 69 := by decide
theorem live_row : rowL 69 [97, 9, 98] = [97, 92, 116, 98, 36, 10] := by decide +kernel
theorem live_back : backL [97, 92, 116, 98, 36, 10] = some [97, 9, 98] := by decide +kernel
theorem live_no : backL [97, 10] = none := by decide +kernel

set_option maxHeartbeats 2000000 in
set_option maxRecDepth 100000 in
theorem lives_any (w : World) (hE : EnvW w) : Calls Tryd.prog 7 #[] w fun e w' => e = .returned (.bool true) ∧ Below w.heap.size w w' := by
  have hcv := fun (w : World) (C : Array Value) (n c g : Nat) (hg : g = w.heap.size) => Joins.run_convert_bytes_const_at (P := Tryd.prog) w 22 5 C n c g hg Tryd.underlying22 Tryd.underlying5
  have HE := Lib.hid hE
  have hb0 := (Below.refl w.heap.size w).alloc (Nat.le_refl _) (.cells #[.int .u8 97, .int .u8 9, .int .u8 98] 5 (3, 4))
  have hro := row_any _ _ [97, 9, 98] (lit_sbcf w [97, 9, 98] 3 (3, 4) rfl (by decide) (by omega)).1 (by decide) 69 (by omega) (by omega) (hE.below hb0).letw
  rw [wide69, live_row] at hro
  have HRO := Lib.hid hro
  clear hro hE
  go_enter Tryd.func7, Tryd.ntmps7
  go_wp2_with fail
  refine HRO.out.mono ?_
  rintro e w1 ⟨v1, rfl, ho1, hb1⟩
  have hbw := hb0.trans (hb1.mono hb0.size)
  obtain ⟨a1, c1, rfl, hs1⟩ := ho1.toSBC (isB_of _ (by decide)) (by decide)
  clear HRO hb0 hb1 ho1
  have hb2 := (Below.refl w1.heap.size w1).alloc (Nat.le_refl _) (.cells #[.int .u8 97, .int .u8 92, .int .u8 116, .int .u8 98, .int .u8 36, .int .u8 10] 5 (6, 7))
  have HB1 := Lib.hid (back_any _ _ 6 6 [97, 92, 116, 98, 36, 10] (lit_sbcf w1 [97, 92, 116, 98, 36, 10] 6 (6, 7) rfl (by decide) (by omega)) (by omega) ((HE.out.below hbw).below hb2))
  have hs2 := hs1.below hb2
  have hbw2 := hbw.trans (hb2.mono hbw.size)
  clear hs1 hbw
  go_wp2_with fail
  refine HB1.out.mono ?_
  rintro e w2 ⟨hb3, hq⟩
  rw [live_back] at hq
  obtain ⟨v2, rfl, ho2, -, -⟩ := hq
  have ho2 := OwnB.mono ho2 (hb2.size)
  obtain ⟨a2, c2, rfl, hs3⟩ := ho2.toSBC (isB_of _ (by decide)) (by decide)
  have hs2 := hs2.below hb3
  have hbw3 := hbw2.trans (hb3.mono hbw2.size)
  clear HB1 hb2 hb3 hbw2 ho2
  have hb4 := (Below.refl w2.heap.size w2).alloc (Nat.le_refl _) (.cells #[.int .u8 97, .int .u8 10] 5 (2, 3))
  have HB2 := Lib.hid (back_any _ _ 2 2 [97, 10] (lit_sbcf w2 [97, 10] 2 (2, 3) rfl (by decide) (by omega)) (by omega) ((HE.out.below hbw3).below hb4))
  have hs2 := hs2.below hb4
  have hs3 := hs3.below hb4
  have hbw4 := hbw3.trans (hb4.mono hbw3.size)
  clear hbw3
  go_wp2_with fail
  refine HB2.out.mono ?_
  rintro e w3 ⟨hb5, hq⟩
  rw [live_no] at hq
  subst hq
  have hs2 := hs2.below hb5
  have hs3 := hs3.below hb5
  have hbw5 := hbw4.trans (hb5.mono hbw4.size)
  clear HB2 hb4 hb5 hbw4
  have hb6 := (Below.refl w3.heap.size w3).alloc (Nat.le_refl _) (.cells #[.int .u8 97, .int .u8 92, .int .u8 116, .int .u8 98, .int .u8 36, .int .u8 10] 5 (6, 7))
  have heq := eqBytes_any _ _ _ _ _ (hs2.below hb6).1 (lit_sbcf w3 [97, 92, 116, 98, 36, 10] 6 (6, 7) rfl (by decide) (by omega)).1
  rw [decide_eq_true rfl] at heq
  have HEQ := Lib.hid heq
  have hs3 := hs3.below hb6
  have hbw6 := hbw5.trans (hb6.mono hbw5.size)
  clear heq hbw5 hb6 hs2
  go_wp2_with fail
  refine HEQ.out.mono ?_
  rintro e w4 ⟨rfl, q, rfl⟩
  have hs4 := hs3.drew q
  have hbw7 := below_drewN hbw6 q
  clear HEQ hs3 hbw6
  generalize (w3.alloc (.cells #[.int .u8 97, .int .u8 92, .int .u8 116, .int .u8 98, .int .u8 36, .int .u8 10] 5 (6, 7))).drewN q = w5 at hs4 hbw7 ⊢
  have hb8 := (Below.refl w5.heap.size w5).alloc (Nat.le_refl _) (.cells #[.int .u8 97, .int .u8 9, .int .u8 98] 5 (3, 4))
  have heq := eqBytes_any _ _ _ _ _ (hs4.below hb8).1 (lit_sbcf w5 [97, 9, 98] 3 (3, 4) rfl (by decide) (by omega)).1
  rw [decide_eq_true rfl] at heq
  have HEQ := Lib.hid heq
  have hbw8 := hbw7.trans (hb8.mono hbw7.size)
  clear heq hbw7 hb8 hs4
  go_wp2_with fail
  refine HEQ.out.mono ?_
  rintro e w6 ⟨rfl, q2, rfl⟩
  have hfin := below_drewN hbw8 q2
  clear HEQ hbw8
  go_wp2_with fail
  go_ret
  exact ⟨rfl, hfin⟩
end Go.Proofs.YtkiiidhfjieknaaDoor
