/-
  galleylaw04: within, enclosed, names.
-/
import Derived.Test.YthegepiafodpjaaDoorItM
import Derived.Test.YthegepiafodpjaaDoorBrR
import Derived.Test.YthegepiafodpjaaDoorWorks4
namespace Go.Proofs.YthegepiafodpjaaDoor
open Go.RowKit

set_option maxRecDepth 100000 in
theorem within5_any (w : World) (n : Int) (_h0 : -9223372036854775808 ≤ n) (_h1 : n ≤ 9223372036854775807) : Calls Tryd.prog 20 #[.int .i64 n, .int .i64 5] w fun e w' => e = .returned (.int .i64 (withinM n 5)) ∧ w' = w := by
  have HE : Hid (withinM n 5 = if n.tmod 5 < 0 then n.tmod 5 + 5 else n.tmod 5) := Lib.hid rfl
  have h2 := Int.tmod_lt_of_pos n (show (0 : Int) < 5 by omega)
  have h3 := Int.lt_tmod_of_pos n (show (0 : Int) < 5 by omega)
  go_enter Tryd.func20, Tryd.ntmps20
  generalize hr : n.tmod 5 = r at HE h2 h3
  by_cases hr0 : r < 0
  · go_wp2_with fail
    go_ret
    exact ⟨by rw [HE.out, if_pos hr0]; rfl, rfl⟩
  · have hr1 : 0 ≤ r := by omega
    go_wp2_with fail
    go_ret
    exact ⟨by rw [HE.out, if_neg (by omega)]; rfl, rfl⟩
set_option maxRecDepth 100000 in
theorem within12_any (w : World) (n : Int) (_h0 : -9223372036854775808 ≤ n) (_h1 : n ≤ 9223372036854775807) : Calls Tryd.prog 20 #[.int .i64 n, .int .i64 12] w fun e w' => e = .returned (.int .i64 (withinM n 12)) ∧ w' = w := by
  have HE : Hid (withinM n 12 = if n.tmod 12 < 0 then n.tmod 12 + 12 else n.tmod 12) := Lib.hid rfl
  have h2 := Int.tmod_lt_of_pos n (show (0 : Int) < 12 by omega)
  have h3 := Int.lt_tmod_of_pos n (show (0 : Int) < 12 by omega)
  go_enter Tryd.func20, Tryd.ntmps20
  generalize hr : n.tmod 12 = r at HE h2 h3
  by_cases hr0 : r < 0
  · go_wp2_with fail
    go_ret
    exact ⟨by rw [HE.out, if_pos hr0]; rfl, rfl⟩
  · have hr1 : 0 ≤ r := by omega
    go_wp2_with fail
    go_ret
    exact ⟨by rw [HE.out, if_neg (by omega)]; rfl, rfl⟩
theorem enclosed_any (w : World) (y x : Int) : Calls Tryd.prog 23 #[.int .u8 y, .int .u8 x] w fun e w' => ∃ ad, e = .returned (.slice (some ad) 5 5) ∧ OwnM w' w.heap.size (.slice (some ad) 5 5) (encM y x) ∧ Below w.heap.size w w' := by
  go_enter Tryd.func23, Tryd.ntmps23
  go_wp2_with fail
  go_ret
  exact ⟨_, rfl, OwnM.lit w (encM y x) _ 5 rfl rfl (by decide) w.heap.size (Nat.le_refl _), box1 _ _⟩
set_option maxRecDepth 100000 in
theorem names_any4 (w : World) : Calls Tryd.prog 25 #[] w fun e w' => ∃ g, e = .returned (.slice (some ⟨g, 0, none⟩) 12 12) ∧ (∀ k : Nat, k < 12 → w'.cell? ⟨g, k, none⟩ = some (.string (nmT k))) ∧ Below w.heap.size w w' := by
  go_enter Tryd.func25, Tryd.ntmps25
  go_wp2_with fail
  go_ret
  refine ⟨_, rfl, fun k hk => ?_, box1 _ _⟩
  have h : k = 0 ∨ k = 1 ∨ k = 2 ∨ k = 3 ∨ k = 4 ∨ k = 5 ∨ k = 6 ∨ k = 7 ∨ k = 8 ∨ k = 9 ∨ k = 10 ∨ k = 11 := by omega
  rcases h with rfl | rfl | rfl | rfl | rfl | rfl | rfl | rfl | rfl | rfl | rfl | rfl
  all_goals (rw [cell_of_row _ _ _ _ _ (0, 0) (heap_alloc_new w _)]; rfl)
end Go.Proofs.YthegepiafodpjaaDoor
