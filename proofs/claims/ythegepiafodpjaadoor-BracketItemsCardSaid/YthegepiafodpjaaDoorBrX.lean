/-
  bracket.Print: a class written as marks.
-/
import Derived.Test.YthegepiafodpjaaDoorBrX0
namespace Go.Proofs.YthegepiafodpjaaDoor
open Go.RowKit

set_option maxHeartbeats 4000000 in
set_option maxRecDepth 100000 in
theorem print_any (w : World) (hw : OddW w) (c : List Nat) (hc : IsC c) :
    Calls Tryd.prog 16 #[.agg (row64 c)] w fun e w' => ∃ v, e = .returned v ∧ OwnM w' w.heap.size v (sg (printI c)) ∧ Below w.heap.size w w' := by
  obtain ⟨u0, u1, u2, u3, rfl⟩ := isC_words c hc
  obtain ⟨w1, g, g1, e1, e2, e3, hN⟩ := PB.new w [u0, u1, u2, u3]
  have HN := Lib.hid hN
  have HC := Lib.hid hc
  have HW := Lib.hid hw
  have E := Lib.hid (And.intro e1 (And.intro e2 e3))
  clear hc hw hN e1 e2 e3
  rw [show row64 [u0, u1, u2, u3] = #[.int .u64 (u0 : Int), .int .u64 (u1 : Int), .int .u64 (u2 : Int), .int .u64 (u3 : Int)] from rfl] at E ⊢
  rw [show row64 noneL = #[.int .u64 0, .int .u64 0, .int .u64 0, .int .u64 0] from rfl] at E
  go_enter Tryd.func16, Tryd.ntmps16
  go_upto_region 2 with fail
  rw [E.out.2.2, E.out.1, E.out.2.1]
  have HG := Lib.hid E.out.2
  clear E
  go_cut [4] (fun v wx => v = .bool (notP [u0, u1, u2, u3]) ∧ PB w wx [u0, u1, u2, u3])
  case first =>
    have c0 : w1.cell? ⟨g, 0, none⟩ = some (.int .u64 (u0 : Int)) := by rw [cell_of_row _ _ _ _ _ (0, 0) (HG.out.1 ▸ HN.out.1)]; rfl
    have c1 : w1.cell? ⟨g, 1, none⟩ = some (.int .u64 (u1 : Int)) := by rw [cell_of_row _ _ _ _ _ (0, 0) (HG.out.1 ▸ HN.out.1)]; rfl
    have c2 : w1.cell? ⟨g, 2, none⟩ = some (.int .u64 (u2 : Int)) := by rw [cell_of_row _ _ _ _ _ (0, 0) (HG.out.1 ▸ HN.out.1)]; rfl
    have c3 : w1.cell? ⟨g, 3, none⟩ = some (.int .u64 (u3 : Int)) := by rw [cell_of_row _ _ _ _ _ (0, 0) (HG.out.1 ▸ HN.out.1)]; rfl
    have z0 : w1.cell? ⟨g1, 0, none⟩ = some (.int .u64 0) := by rw [cell_of_row _ _ _ _ _ (0, 0) (HG.out.2 ▸ HN.out.2.1)]; rfl
    have z1 : w1.cell? ⟨g1, 1, none⟩ = some (.int .u64 0) := by rw [cell_of_row _ _ _ _ _ (0, 0) (HG.out.2 ▸ HN.out.2.1)]; rfl
    have z2 : w1.cell? ⟨g1, 2, none⟩ = some (.int .u64 0) := by rw [cell_of_row _ _ _ _ _ (0, 0) (HG.out.2 ▸ HN.out.2.1)]; rfl
    have z3 : w1.cell? ⟨g1, 3, none⟩ = some (.int .u64 0) := by rw [cell_of_row _ _ _ _ _ (0, 0) (HG.out.2 ▸ HN.out.2.1)]; rfl
    by_cases hz : [u0, u1, u2, u3] = noneL
    · have h4 : u0 = 0 ∧ u1 = 0 ∧ u2 = 0 ∧ u3 = 0 := by simpa [noneL] using hz
      have HP : Hid (notP [u0, u1, u2, u3] = true) := Lib.hid (by unfold notP; rw [decide_eq_true hz, Bool.true_or])
      clear hz
      obtain ⟨rfl, rfl, rfl, rfl⟩ := h4
      have hE : ∀ w, Sem.run Tryd.prog (Op.equalIn 10000 28 (.agg #[.int .u64 0, .int .u64 0, .int .u64 0, .int .u64 0]) (.agg #[.int .u64 0, .int .u64 0, .int .u64 0, .int .u64 0])) w = .ok true w := fun w => run_equalIn_rowC w 9998 noneL noneL rfl rfl
      have hS : (w1.cell? ⟨g, 0, none⟩ = some (.int .u64 0) ∧ w1.cell? ⟨g, 1, none⟩ = some (.int .u64 0) ∧ w1.cell? ⟨g, 2, none⟩ = some (.int .u64 0) ∧ w1.cell? ⟨g, 3, none⟩ = some (.int .u64 0) ∧ w1.cell? ⟨g1, 0, none⟩ = some (.int .u64 0) ∧ w1.cell? ⟨g1, 1, none⟩ = some (.int .u64 0) ∧ w1.cell? ⟨g1, 2, none⟩ = some (.int .u64 0) ∧ w1.cell? ⟨g1, 3, none⟩ = some (.int .u64 0)) := ⟨c0, c1, c2, c3, z0, z1, z2, z3⟩
      clear c0 c1 c2 c3 z0 z1 z2 z3
      refine wp_region_held_drew (S := fun w' => PB w w' [0, 0, 0, 0] ∧ w'.cell? ⟨g, 0, none⟩ = some (.int .u64 0) ∧ w'.cell? ⟨g, 1, none⟩ = some (.int .u64 0) ∧ w'.cell? ⟨g, 2, none⟩ = some (.int .u64 0) ∧ w'.cell? ⟨g, 3, none⟩ = some (.int .u64 0) ∧ w'.cell? ⟨g1, 0, none⟩ = some (.int .u64 0) ∧ w'.cell? ⟨g1, 1, none⟩ = some (.int .u64 0) ∧ w'.cell? ⟨g1, 2, none⟩ = some (.int .u64 0) ∧ w'.cell? ⟨g1, 3, none⟩ = some (.int .u64 0)) (by kernel_rfl) ⟨HN.out.below (Below.refl _ _).drew, hS⟩ (fun hHeld => ?_)
      refine wpAnyH_take (i := 0) (v := .agg #[.int .u64 0, .int .u64 0, .int .u64 0, .int .u64 0]) rfl (by kernel_rfl) (by kernel_rfl) (by kernel_rfl) (fun _ _ _ h => h) (Or.inl ⟨by rfl, by intro w hSw; (try dsimp only at hSw); go_simp⟩) (by assumption) ?_
      simp only [Act.put, List.getElem_toArray, List.getElem_cons_zero, List.setIfInBounds_toArray, List.set_cons_zero, List.set_cons_succ]
      refine wpAnyH_take (i := 1) (v := .agg #[.int .u64 0, .int .u64 0, .int .u64 0, .int .u64 0]) rfl (by kernel_rfl) (by kernel_rfl) (by kernel_rfl) (fun _ _ _ h => h) (Or.inl ⟨by rfl, by intro w hSw; (try dsimp only at hSw); go_simp⟩) (by assumption) ?_
      simp only [Act.put, List.getElem_toArray, List.getElem_cons_zero, List.getElem_cons_succ, List.setIfInBounds_toArray, List.set_cons_zero, List.set_cons_succ]
      refine wpAnyH_take (i := 2) (v := .bool true) rfl (by kernel_rfl) (by kernel_rfl) (by kernel_rfl) (fun _ _ _ h => h) (Or.inl ⟨by rfl, by intro w hSw; (try dsimp only at hSw); go_simp⟩) (by assumption) ?_
      simp only [Act.put, List.getElem_toArray, List.getElem_cons_zero, List.getElem_cons_succ, List.setIfInBounds_toArray, List.set_cons_zero, List.set_cons_succ]
      refine wpAnyH_take (i := 3) (v := .bool true) rfl (by kernel_rfl) (by kernel_rfl) (by kernel_rfl) (fun _ _ _ h => h) (Or.inl ⟨by rfl, by intro w hSw; (try dsimp only at hSw); go_simp⟩) (by assumption) ?_
      simp only [Act.put, List.getElem_toArray, List.getElem_cons_zero, List.getElem_cons_succ, List.setIfInBounds_toArray, List.set_cons_zero, List.set_cons_succ]
      refine wpAnyH_take (i := 4) (v := undef) rfl (by kernel_rfl) (by kernel_rfl) (by kernel_rfl) (fun _ _ _ h => h) (Or.inr ⟨by rfl, rfl⟩) (by assumption) ?_
      simp only [Act.put, List.getElem_toArray, List.getElem_cons_zero, List.getElem_cons_succ, List.setIfInBounds_toArray, List.set_cons_zero, List.set_cons_succ]
      refine wpAnyH_take (i := 5) (v := undef) rfl (by kernel_rfl) (by kernel_rfl) (by kernel_rfl) (fun _ _ _ h => h) (Or.inr ⟨by rfl, rfl⟩) (by assumption) ?_
      simp only [Act.put, List.getElem_toArray, List.getElem_cons_zero, List.getElem_cons_succ, List.setIfInBounds_toArray, List.set_cons_zero, List.set_cons_succ]
      refine wpAnyH_take (i := 6) (v := undef) rfl (by kernel_rfl) (by kernel_rfl) (by kernel_rfl) (fun _ _ _ h => h) (Or.inr ⟨by rfl, rfl⟩) (by assumption) ?_
      simp only [Act.put, List.getElem_toArray, List.getElem_cons_zero, List.getElem_cons_succ, List.setIfInBounds_toArray, List.set_cons_zero, List.set_cons_succ]
      refine wpAnyH_take (i := 7) (v := undef) rfl (by kernel_rfl) (by kernel_rfl) (by kernel_rfl) (fun _ _ _ h => h) (Or.inr ⟨by rfl, rfl⟩) (by assumption) ?_
      simp only [Act.put, List.getElem_toArray, List.getElem_cons_zero, List.getElem_cons_succ, List.setIfInBounds_toArray, List.set_cons_zero, List.set_cons_succ]
      refine wpAnyH_take (i := 8) (v := undef) rfl (by kernel_rfl) (by kernel_rfl) (by kernel_rfl) (fun _ _ _ h => h) (Or.inr ⟨by rfl, rfl⟩) (by assumption) ?_
      simp only [Act.put, List.getElem_toArray, List.getElem_cons_zero, List.getElem_cons_succ, List.setIfInBounds_toArray, List.set_cons_zero, List.set_cons_succ]
      refine wpAnyH_take (i := 9) (v := undef) rfl (by kernel_rfl) (by kernel_rfl) (by kernel_rfl) (fun _ _ _ h => h) (Or.inr ⟨by rfl, rfl⟩) (by assumption) ?_
      simp only [Act.put, List.getElem_toArray, List.getElem_cons_zero, List.getElem_cons_succ, List.setIfInBounds_toArray, List.set_cons_zero, List.set_cons_succ]
      refine wpAnyH_take (i := 10) (v := undef) rfl (by kernel_rfl) (by kernel_rfl) (by kernel_rfl) (fun _ _ _ h => h) (Or.inr ⟨by rfl, rfl⟩) (by assumption) ?_
      simp only [Act.put, List.getElem_toArray, List.getElem_cons_zero, List.getElem_cons_succ, List.setIfInBounds_toArray, List.set_cons_zero, List.set_cons_succ]
      refine wpAnyH_take (i := 11) (v := undef) rfl (by kernel_rfl) (by kernel_rfl) (by kernel_rfl) (fun _ _ _ h => h) (Or.inr ⟨by rfl, rfl⟩) (by assumption) ?_
      simp only [Act.put, List.getElem_toArray, List.getElem_cons_zero, List.getElem_cons_succ, List.setIfInBounds_toArray, List.set_cons_zero, List.set_cons_succ]
      refine wpAnyH_take (i := 12) (v := .bool true) rfl (by kernel_rfl) (by kernel_rfl) (by kernel_rfl) (fun _ _ _ h => h) (Or.inl ⟨by rfl, by intro w hSw; (try dsimp only at hSw); go_simp⟩) (by assumption) ?_
      simp only [Act.put, List.getElem_toArray, List.getElem_cons_zero, List.getElem_cons_succ, List.setIfInBounds_toArray, List.set_cons_zero, List.set_cons_succ]
      refine wpAnyH_take (i := 13) (v := .bool true) rfl (by kernel_rfl) (by kernel_rfl) (by kernel_rfl) (fun _ _ _ h => h) (Or.inl ⟨by rfl, by intro w hSw; (try dsimp only at hSw); go_simp⟩) (by assumption) ?_
      simp only [Act.put, List.getElem_toArray, List.getElem_cons_zero, List.getElem_cons_succ, List.setIfInBounds_toArray, List.set_cons_zero, List.set_cons_succ]
      refine wpAnyH_done (by kernel_rfl) ?_ _
      go_wp2_with fail
      go_meet
      case rel => exact ⟨by rw [HP.out], hHeld.1⟩
    · have HZ := Lib.hid hz
      have hS : (w1.cell? ⟨g, 0, none⟩ = some (.int .u64 (u0 : Int)) ∧ w1.cell? ⟨g, 1, none⟩ = some (.int .u64 (u1 : Int)) ∧ w1.cell? ⟨g, 2, none⟩ = some (.int .u64 (u2 : Int)) ∧ w1.cell? ⟨g, 3, none⟩ = some (.int .u64 (u3 : Int)) ∧ w1.cell? ⟨g1, 0, none⟩ = some (.int .u64 0) ∧ w1.cell? ⟨g1, 1, none⟩ = some (.int .u64 0) ∧ w1.cell? ⟨g1, 2, none⟩ = some (.int .u64 0) ∧ w1.cell? ⟨g1, 3, none⟩ = some (.int .u64 0)) := ⟨c0, c1, c2, c3, z0, z1, z2, z3⟩
      have hE : ∀ w, Sem.run Tryd.prog (Op.equalIn 10000 28 (.agg #[.int .u64 (u0 : Int), .int .u64 (u1 : Int), .int .u64 (u2 : Int), .int .u64 (u3 : Int)]) (.agg #[.int .u64 0, .int .u64 0, .int .u64 0, .int .u64 0])) w = .ok false w := fun w => (run_equalIn_rowC w 9998 [u0, u1, u2, u3] noneL rfl rfl).trans (by rw [decide_eq_false hz])
      obtain ⟨nl, hnl⟩ : ∃ nl, notL [u0, u1, u2, u3] = nl := ⟨_, rfl⟩
      have hF : ∀ w, Sem.run Tryd.prog (Op.equalIn 10000 28 (.agg (row64 nl)) (.agg #[.int .u64 0, .int .u64 0, .int .u64 0, .int .u64 0])) w = .ok (decide (nl = noneL)) w := fun w => run_equalIn_rowC w 9998 nl noneL (by rw [← hnl]; exact (isC_not _ HC.out).1) rfl
      have HL := Lib.hid hnl
      clear hz hnl c0 c1 c2 c3 z0 z1 z2 z3
      cases hh : hasL [u0, u1, u2, u3] 10 with
      | false =>
        refine wp_region_held_drew (S := fun w' => PB w w' [u0, u1, u2, u3] ∧ w'.cell? ⟨g, 0, none⟩ = some (.int .u64 (u0 : Int)) ∧ w'.cell? ⟨g, 1, none⟩ = some (.int .u64 (u1 : Int)) ∧ w'.cell? ⟨g, 2, none⟩ = some (.int .u64 (u2 : Int)) ∧ w'.cell? ⟨g, 3, none⟩ = some (.int .u64 (u3 : Int)) ∧ w'.cell? ⟨g1, 0, none⟩ = some (.int .u64 0) ∧ w'.cell? ⟨g1, 1, none⟩ = some (.int .u64 0) ∧ w'.cell? ⟨g1, 2, none⟩ = some (.int .u64 0) ∧ w'.cell? ⟨g1, 3, none⟩ = some (.int .u64 0)) (by kernel_rfl) ⟨HN.out.below (Below.refl _ _).drew, hS⟩ (fun hHeld => ?_)
        refine wpAnyH_take (i := 0) (v := .agg #[.int .u64 (u0 : Int), .int .u64 (u1 : Int), .int .u64 (u2 : Int), .int .u64 (u3 : Int)]) rfl (by kernel_rfl) (by kernel_rfl) (by kernel_rfl) (fun _ _ _ h => h) (Or.inl ⟨by rfl, by intro w hSw; (try dsimp only at hSw); go_simp⟩) (by assumption) ?_
        simp only [Act.put, List.getElem_toArray, List.getElem_cons_zero, List.setIfInBounds_toArray, List.set_cons_zero, List.set_cons_succ]
        refine wpAnyH_take (i := 1) (v := .agg #[.int .u64 0, .int .u64 0, .int .u64 0, .int .u64 0]) rfl (by kernel_rfl) (by kernel_rfl) (by kernel_rfl) (fun _ _ _ h => h) (Or.inl ⟨by rfl, by intro w hSw; (try dsimp only at hSw); go_simp⟩) (by assumption) ?_
        simp only [Act.put, List.getElem_toArray, List.getElem_cons_zero, List.getElem_cons_succ, List.setIfInBounds_toArray, List.set_cons_zero, List.set_cons_succ]
        refine wpAnyH_take (i := 2) (v := .bool false) rfl (by kernel_rfl) (by kernel_rfl) (by kernel_rfl) (fun _ _ _ h => h) (Or.inl ⟨by rfl, by intro w hSw; (try dsimp only at hSw); go_simp⟩) (by assumption) ?_
        simp only [Act.put, List.getElem_toArray, List.getElem_cons_zero, List.getElem_cons_succ, List.setIfInBounds_toArray, List.set_cons_zero, List.set_cons_succ]
        refine wpAnyH_take (i := 3) (v := .bool false) rfl (by kernel_rfl) (by kernel_rfl) (by kernel_rfl) (fun _ _ _ h => h) (Or.inl ⟨by rfl, by intro w hSw; (try dsimp only at hSw); go_simp⟩) (by assumption) ?_
        simp only [Act.put, List.getElem_toArray, List.getElem_cons_zero, List.getElem_cons_succ, List.setIfInBounds_toArray, List.set_cons_zero, List.set_cons_succ]
        refine wpAnyH_take (i := 4) (v := .agg #[.int .u64 (u0 : Int), .int .u64 (u1 : Int), .int .u64 (u2 : Int), .int .u64 (u3 : Int)]) rfl (by kernel_rfl) (by kernel_rfl) (by kernel_rfl) (fun _ _ _ h => h) (Or.inl ⟨by rfl, by intro w hSw; (try dsimp only at hSw); go_simp⟩) (by assumption) ?_
        simp only [Act.put, List.getElem_toArray, List.getElem_cons_zero, List.getElem_cons_succ, List.setIfInBounds_toArray, List.set_cons_zero, List.set_cons_succ]
        refine wpAnyH_ready (rs := [5]) (by kernel_rfl) (by simp) ?_
        refine AllReadyH.cons rfl (fun K hK => ?_) AllReadyH.nil
        go_simp
        refine (has_any _ _ HC.out 10 (by omega)).mono ?_
        rintro e wn ⟨rfl, hbn⟩
        rw [hh]
        replace hHeld := And.intro (hHeld.1.below hbn) (And.intro (cell_b hbn hHeld.2.1) (And.intro (cell_b hbn hHeld.2.2.1) (And.intro (cell_b hbn hHeld.2.2.2.1) (And.intro (cell_b hbn hHeld.2.2.2.2.1) (And.intro (cell_b hbn hHeld.2.2.2.2.2.1) (And.intro (cell_b hbn hHeld.2.2.2.2.2.2.1) (And.intro (cell_b hbn hHeld.2.2.2.2.2.2.2.1) (cell_b hbn hHeld.2.2.2.2.2.2.2.2))))))))
        refine hK.out _ _ hHeld (fun hHeld => ?_)
        clear hK K hbn
        refine wpAnyH_take (i := 6) (v := .bool false) rfl (by kernel_rfl) (by kernel_rfl) (by kernel_rfl) (fun _ _ _ h => h) (Or.inl ⟨by rfl, by intro w hSw; (try dsimp only at hSw); go_simp⟩) (by assumption) ?_
        simp only [Act.put, List.getElem_toArray, List.getElem_cons_zero, List.getElem_cons_succ, List.setIfInBounds_toArray, List.set_cons_zero, List.set_cons_succ]
        refine wpAnyH_take (i := 7) (v := undef) rfl (by kernel_rfl) (by kernel_rfl) (by kernel_rfl) (fun _ _ _ h => h) (Or.inr ⟨by rfl, rfl⟩) (by assumption) ?_
        simp only [Act.put, List.getElem_toArray, List.getElem_cons_zero, List.getElem_cons_succ, List.setIfInBounds_toArray, List.set_cons_zero, List.set_cons_succ]
        refine wpAnyH_take (i := 8) (v := undef) rfl (by kernel_rfl) (by kernel_rfl) (by kernel_rfl) (fun _ _ _ h => h) (Or.inr ⟨by rfl, rfl⟩) (by assumption) ?_
        simp only [Act.put, List.getElem_toArray, List.getElem_cons_zero, List.getElem_cons_succ, List.setIfInBounds_toArray, List.set_cons_zero, List.set_cons_succ]
        refine wpAnyH_take (i := 9) (v := undef) rfl (by kernel_rfl) (by kernel_rfl) (by kernel_rfl) (fun _ _ _ h => h) (Or.inr ⟨by rfl, rfl⟩) (by assumption) ?_
        simp only [Act.put, List.getElem_toArray, List.getElem_cons_zero, List.getElem_cons_succ, List.setIfInBounds_toArray, List.set_cons_zero, List.set_cons_succ]
        refine wpAnyH_take (i := 10) (v := undef) rfl (by kernel_rfl) (by kernel_rfl) (by kernel_rfl) (fun _ _ _ h => h) (Or.inr ⟨by rfl, rfl⟩) (by assumption) ?_
        simp only [Act.put, List.getElem_toArray, List.getElem_cons_zero, List.getElem_cons_succ, List.setIfInBounds_toArray, List.set_cons_zero, List.set_cons_succ]
        refine wpAnyH_take (i := 11) (v := .bool false) rfl (by kernel_rfl) (by kernel_rfl) (by kernel_rfl) (fun _ _ _ h => h) (Or.inl ⟨by rfl, by intro w hSw; (try dsimp only at hSw); go_simp⟩) (by assumption) ?_
        simp only [Act.put, List.getElem_toArray, List.getElem_cons_zero, List.getElem_cons_succ, List.setIfInBounds_toArray, List.set_cons_zero, List.set_cons_succ]
        refine wpAnyH_take (i := 12) (v := .bool false) rfl (by kernel_rfl) (by kernel_rfl) (by kernel_rfl) (fun _ _ _ h => h) (Or.inl ⟨by rfl, by intro w hSw; (try dsimp only at hSw); go_simp⟩) (by assumption) ?_
        simp only [Act.put, List.getElem_toArray, List.getElem_cons_zero, List.getElem_cons_succ, List.setIfInBounds_toArray, List.set_cons_zero, List.set_cons_succ]
        refine wpAnyH_take (i := 13) (v := .bool false) rfl (by kernel_rfl) (by kernel_rfl) (by kernel_rfl) (fun _ _ _ h => h) (Or.inl ⟨by rfl, by intro w hSw; (try dsimp only at hSw); go_simp⟩) (by assumption) ?_
        simp only [Act.put, List.getElem_toArray, List.getElem_cons_zero, List.getElem_cons_succ, List.setIfInBounds_toArray, List.set_cons_zero, List.set_cons_succ]
        refine wpAnyH_done (by kernel_rfl) ?_ _
        go_wp2_with fail
        go_meet
        case rel => exact ⟨by unfold notP; rw [decide_eq_false HZ.out, hh]; rfl, hHeld.1⟩
      | true =>
        refine wp_region_held_drew (S := fun w' => PB w w' [u0, u1, u2, u3] ∧ w'.cell? ⟨g, 0, none⟩ = some (.int .u64 (u0 : Int)) ∧ w'.cell? ⟨g, 1, none⟩ = some (.int .u64 (u1 : Int)) ∧ w'.cell? ⟨g, 2, none⟩ = some (.int .u64 (u2 : Int)) ∧ w'.cell? ⟨g, 3, none⟩ = some (.int .u64 (u3 : Int)) ∧ w'.cell? ⟨g1, 0, none⟩ = some (.int .u64 0) ∧ w'.cell? ⟨g1, 1, none⟩ = some (.int .u64 0) ∧ w'.cell? ⟨g1, 2, none⟩ = some (.int .u64 0) ∧ w'.cell? ⟨g1, 3, none⟩ = some (.int .u64 0)) (by kernel_rfl) ⟨HN.out.below (Below.refl _ _).drew, hS⟩ (fun hHeld => ?_)
        refine wpAnyH_take (i := 0) (v := .agg #[.int .u64 (u0 : Int), .int .u64 (u1 : Int), .int .u64 (u2 : Int), .int .u64 (u3 : Int)]) rfl (by kernel_rfl) (by kernel_rfl) (by kernel_rfl) (fun _ _ _ h => h) (Or.inl ⟨by rfl, by intro w hSw; (try dsimp only at hSw); go_simp⟩) (by assumption) ?_
        simp only [Act.put, List.getElem_toArray, List.getElem_cons_zero, List.setIfInBounds_toArray, List.set_cons_zero, List.set_cons_succ]
        refine wpAnyH_take (i := 1) (v := .agg #[.int .u64 0, .int .u64 0, .int .u64 0, .int .u64 0]) rfl (by kernel_rfl) (by kernel_rfl) (by kernel_rfl) (fun _ _ _ h => h) (Or.inl ⟨by rfl, by intro w hSw; (try dsimp only at hSw); go_simp⟩) (by assumption) ?_
        simp only [Act.put, List.getElem_toArray, List.getElem_cons_zero, List.getElem_cons_succ, List.setIfInBounds_toArray, List.set_cons_zero, List.set_cons_succ]
        refine wpAnyH_take (i := 2) (v := .bool false) rfl (by kernel_rfl) (by kernel_rfl) (by kernel_rfl) (fun _ _ _ h => h) (Or.inl ⟨by rfl, by intro w hSw; (try dsimp only at hSw); go_simp⟩) (by assumption) ?_
        simp only [Act.put, List.getElem_toArray, List.getElem_cons_zero, List.getElem_cons_succ, List.setIfInBounds_toArray, List.set_cons_zero, List.set_cons_succ]
        refine wpAnyH_take (i := 3) (v := .bool false) rfl (by kernel_rfl) (by kernel_rfl) (by kernel_rfl) (fun _ _ _ h => h) (Or.inl ⟨by rfl, by intro w hSw; (try dsimp only at hSw); go_simp⟩) (by assumption) ?_
        simp only [Act.put, List.getElem_toArray, List.getElem_cons_zero, List.getElem_cons_succ, List.setIfInBounds_toArray, List.set_cons_zero, List.set_cons_succ]
        refine wpAnyH_take (i := 4) (v := .agg #[.int .u64 (u0 : Int), .int .u64 (u1 : Int), .int .u64 (u2 : Int), .int .u64 (u3 : Int)]) rfl (by kernel_rfl) (by kernel_rfl) (by kernel_rfl) (fun _ _ _ h => h) (Or.inl ⟨by rfl, by intro w hSw; (try dsimp only at hSw); go_simp⟩) (by assumption) ?_
        simp only [Act.put, List.getElem_toArray, List.getElem_cons_zero, List.getElem_cons_succ, List.setIfInBounds_toArray, List.set_cons_zero, List.set_cons_succ]
        refine wpAnyH_ready (rs := [5]) (by kernel_rfl) (by simp) ?_
        refine AllReadyH.cons rfl (fun K hK => ?_) AllReadyH.nil
        go_simp
        refine (has_any _ _ HC.out 10 (by omega)).mono ?_
        rintro e wn ⟨rfl, hbn⟩
        rw [hh]
        replace hHeld := And.intro (hHeld.1.below hbn) (And.intro (cell_b hbn hHeld.2.1) (And.intro (cell_b hbn hHeld.2.2.1) (And.intro (cell_b hbn hHeld.2.2.2.1) (And.intro (cell_b hbn hHeld.2.2.2.2.1) (And.intro (cell_b hbn hHeld.2.2.2.2.2.1) (And.intro (cell_b hbn hHeld.2.2.2.2.2.2.1) (And.intro (cell_b hbn hHeld.2.2.2.2.2.2.2.1) (cell_b hbn hHeld.2.2.2.2.2.2.2.2))))))))
        refine hK.out _ _ hHeld (fun hHeld => ?_)
        clear hK K hbn
        refine wpAnyH_take (i := 6) (v := .bool true) rfl (by kernel_rfl) (by kernel_rfl) (by kernel_rfl) (fun _ _ _ h => h) (Or.inl ⟨by rfl, by intro w hSw; (try dsimp only at hSw); go_simp⟩) (by assumption) ?_
        simp only [Act.put, List.getElem_toArray, List.getElem_cons_zero, List.getElem_cons_succ, List.setIfInBounds_toArray, List.set_cons_zero, List.set_cons_succ]
        refine wpAnyH_take (i := 7) (v := .agg #[.int .u64 (u0 : Int), .int .u64 (u1 : Int), .int .u64 (u2 : Int), .int .u64 (u3 : Int)]) rfl (by kernel_rfl) (by kernel_rfl) (by kernel_rfl) (fun _ _ _ h => h) (Or.inl ⟨by rfl, by intro w hSw; (try dsimp only at hSw); go_simp⟩) (by assumption) ?_
        simp only [Act.put, List.getElem_toArray, List.getElem_cons_zero, List.getElem_cons_succ, List.setIfInBounds_toArray, List.set_cons_zero, List.set_cons_succ]
        refine wpAnyH_take (i := 9) (v := .agg #[.int .u64 0, .int .u64 0, .int .u64 0, .int .u64 0]) rfl (by kernel_rfl) (by kernel_rfl) (by kernel_rfl) (fun _ _ _ h => h) (Or.inl ⟨by rfl, by intro w hSw; (try dsimp only at hSw); go_simp⟩) (by assumption) ?_
        simp only [Act.put, List.getElem_toArray, List.getElem_cons_zero, List.getElem_cons_succ, List.setIfInBounds_toArray, List.set_cons_zero, List.set_cons_succ]
        refine wpAnyH_ready (rs := [8]) (by kernel_rfl) (by simp) ?_
        refine AllReadyH.cons rfl (fun K hK => ?_) AllReadyH.nil
        go_simp
        refine (not_any _ _ HC.out).mono ?_
        rintro e wn ⟨rfl, hbn⟩
        rw [HL.out]
        replace hHeld := And.intro (hHeld.1.below hbn) (And.intro (cell_b hbn hHeld.2.1) (And.intro (cell_b hbn hHeld.2.2.1) (And.intro (cell_b hbn hHeld.2.2.2.1) (And.intro (cell_b hbn hHeld.2.2.2.2.1) (And.intro (cell_b hbn hHeld.2.2.2.2.2.1) (And.intro (cell_b hbn hHeld.2.2.2.2.2.2.1) (And.intro (cell_b hbn hHeld.2.2.2.2.2.2.2.1) (cell_b hbn hHeld.2.2.2.2.2.2.2.2))))))))
        refine hK.out _ _ hHeld (fun hHeld => ?_)
        clear hK K hbn
        refine wpAnyH_take (i := 10) (v := .bool (!decide (nl = noneL))) rfl (by kernel_rfl) (by kernel_rfl) (by kernel_rfl) (fun _ _ _ h => h) (Or.inl ⟨by rfl, by intro w hSw; (try dsimp only at hSw); go_simp⟩) (by assumption) ?_
        simp only [Act.put, List.getElem_toArray, List.getElem_cons_zero, List.getElem_cons_succ, List.setIfInBounds_toArray, List.set_cons_zero, List.set_cons_succ]
        refine wpAnyH_take (i := 11) (v := .bool (!decide (nl = noneL))) rfl (by kernel_rfl) (by kernel_rfl) (by kernel_rfl) (fun _ _ _ h => h) (Or.inl ⟨by rfl, by intro w hSw; (try dsimp only at hSw); go_simp⟩) (by assumption) ?_
        simp only [Act.put, List.getElem_toArray, List.getElem_cons_zero, List.getElem_cons_succ, List.setIfInBounds_toArray, List.set_cons_zero, List.set_cons_succ]
        refine wpAnyH_take (i := 12) (v := .bool (!decide (nl = noneL))) rfl (by kernel_rfl) (by kernel_rfl) (by kernel_rfl) (fun _ _ _ h => h) (Or.inl ⟨by rfl, by intro w hSw; (try dsimp only at hSw); go_simp⟩) (by assumption) ?_
        simp only [Act.put, List.getElem_toArray, List.getElem_cons_zero, List.getElem_cons_succ, List.setIfInBounds_toArray, List.set_cons_zero, List.set_cons_succ]
        refine wpAnyH_take (i := 13) (v := .bool (!decide (nl = noneL))) rfl (by kernel_rfl) (by kernel_rfl) (by kernel_rfl) (fun _ _ _ h => h) (Or.inl ⟨by rfl, by intro w hSw; (try dsimp only at hSw); go_simp⟩) (by assumption) ?_
        simp only [Act.put, List.getElem_toArray, List.getElem_cons_zero, List.getElem_cons_succ, List.setIfInBounds_toArray, List.set_cons_zero, List.set_cons_succ]
        refine wpAnyH_done (by kernel_rfl) ?_ _
        go_wp2_with fail
        go_meet
        case rel => exact ⟨by unfold notP; rw [decide_eq_false HZ.out, hh, HL.out]; rfl, hHeld.1⟩
  case rest =>
    obtain ⟨rfl, hN⟩ := hcut
    have hcv := fun (w : World) (C : Array Value) (n c g : Nat) (hg : g = w.heap.size) => Joins.run_convert_bytes_const_at (P := Tryd.prog) w 91 5 C n c g hg Tryd.underlying91 Tryd.underlying5
    have HP := Lib.hid hN
    clear hN HN
    go_upto_region 4 with fail
    clear hcv
    have hb := box1 wc (.cells #[.int .u8 91] 5 (1, 2))
    have HT : Hid (TX (wc.alloc (.cells #[.int .u8 91] 5 (1, 2))) (w.heap.size + 2) (.slice (some ⟨wc.heap.size, 0, none⟩) 1 1) [91]) := Lib.hid (.inr ⟨_, 1, rfl, SB.lit wc _ [91] _ (1, 2) 1 rfl (by decide) (by decide)⟩)
    have HP4 := Lib.hid (HP.out.below hb)
    generalize wc.alloc (.cells #[.int .u8 91] 5 (1, 2)) = w4 at HT HP4 ⊢
    generalize Value.slice (some ⟨wc.heap.size, 0, none⟩) 1 1 = v4 at HT ⊢
    clear hb HP
    obtain ⟨np, hnp⟩ : ∃ np, notP [u0, u1, u2, u3] = np := ⟨_, rfl⟩
    rw [hnp]
    have HNP := Lib.hid hnp
    clear hnp
    go_upto_if 27 with fail
    go_cut [5] (fun v wx => TX wx (w.heap.size + 2) v (hdP np) ∧ PB w wx (inP [u0, u1, u2, u3]))
    case first =>
      cases np with
      | false =>
        have HI : Hid (inP [u0, u1, u2, u3] = [u0, u1, u2, u3]) := Lib.hid (by unfold inP; rw [HNP.out]; rfl)
        go_wp2_with fail
        go_meet
        case rel => exact ⟨HT.out, by rw [HI.out]; exact HP4.out⟩
      | true =>
        have HI : Hid (inP [u0, u1, u2, u3] = notL [u0, u1, u2, u3]) := Lib.hid (by unfold inP; rw [HNP.out]; rfl)
        have HTa := Lib.hid (HT.out.below (box1 w4 (.cells #[.int .u8 94] 5)))
        have HSa := Lib.hid (SB.lit w4 5 [94] #[.int .u8 94] (0, 0) 1 rfl (by decide) (by decide))
        have HSz := Lib.hid HP4.out.size
        have HPa := Lib.hid (HP4.out.below (box1 w4 (.cells #[.int .u8 94] 5)))
        go_wp2_with (at_builtin; refine append_tx rfl (.tmp 28) (.tmp 29) rfl (w.heap.size + 2) _ [91] [94] _ 1 _ rfl HTa.out rfl HSa.out (by omega) (by simp) (by rw [World.size_alloc]; have := HSz.out; omega) ?_)
        intro v5 w5 h1 h2
        have HP5 := Lib.hid (HPa.out.keep h2)
        have HT5 : Hid (OwnB w5 (w.heap.size + 2) v5 [91, 94]) := Lib.hid h1
        clear h1 h2 HTa HSa HPa HP4 HT
        have c0 : w5.cell? ⟨g, 0, none⟩ = some (.int .u64 (u0 : Int)) := by rw [cell_of_row _ _ _ _ _ (0, 0) (HG.out.1 ▸ HP5.out.1)]; rfl
        have c1 : w5.cell? ⟨g, 1, none⟩ = some (.int .u64 (u1 : Int)) := by rw [cell_of_row _ _ _ _ _ (0, 0) (HG.out.1 ▸ HP5.out.1)]; rfl
        have c2 : w5.cell? ⟨g, 2, none⟩ = some (.int .u64 (u2 : Int)) := by rw [cell_of_row _ _ _ _ _ (0, 0) (HG.out.1 ▸ HP5.out.1)]; rfl
        have c3 : w5.cell? ⟨g, 3, none⟩ = some (.int .u64 (u3 : Int)) := by rw [cell_of_row _ _ _ _ _ (0, 0) (HG.out.1 ▸ HP5.out.1)]; rfl
        go_wp2_with fail
        refine (not_any w5 [u0, u1, u2, u3] HC.out).mono ?_
        rintro e w6 ⟨rfl, hb⟩
        have HP6 := Lib.hid (HP5.out.below hb)
        have HT6 := Lib.hid (HT5.out.below hb)
        clear c0 c1 c2 c3 hb HP5 HT5
        obtain ⟨x0, x1, x2, x3, hx⟩ := isC_words _ (isC_not _ HC.out)
        have HX := Lib.hid hx
        rw [show row64 (notL [u0, u1, u2, u3]) = #[.int .u64 (x0 : Int), .int .u64 (x1 : Int), .int .u64 (x2 : Int), .int .u64 (x3 : Int)] by rw [hx]; rfl]
        clear hx
        have HBX : Hid (w6.heap[g]? = some (.cells #[.int .u64 (u0 : Int), .int .u64 (u1 : Int), .int .u64 (u2 : Int), .int .u64 (u3 : Int)] 28 (0, 0))) := Lib.hid (HG.out.1 ▸ HP6.out.1)
        go_wp2_with (refine wpList_store_row rfl TCl (.tmp 1) (.tmp 32) rfl rfl g TCl #[.int .u64 (u0 : Int), .int .u64 (u1 : Int), .int .u64 (u2 : Int), .int .u64 (u3 : Int)] #[.int .u64 (x0 : Int), .int .u64 (x1 : Int), .int .u64 (x2 : Int), .int .u64 (x3 : Int)] rfl rfl HBX.out rfl infoCl (by simp [Value.oneCell']) ?_)
        go_meet
        case rel =>
          have hgs := HG.out.1
          refine ⟨.inl (own_setRow4 HT6.out g (by omega) _), ?_⟩
          rw [HI.out, HX.out, ← hgs]
          exact HP6.out.row [x0, x1, x2, x3]
    case rest =>
      obtain ⟨hT, hP⟩ := hcut
      clear HP4 HT
      generalize wc = w7 at hT hP
      obtain ⟨x0, x1, x2, x3, hx⟩ := isC_words _ (inP_isC _ HC.out)
      have HX := Lib.hid hx
      have HXC : Hid (IsC [x0, x1, x2, x3]) := Lib.hid (hx ▸ inP_isC _ HC.out)
      rw [hx] at hP
      have HT7 := Lib.hid hT
      have HP7 := Lib.hid hP
      clear hT hP hx
      have c0 : w7.cell? ⟨g, 0, none⟩ = some (.int .u64 (x0 : Int)) := by rw [cell_of_row _ _ _ _ _ (0, 0) (HG.out.1 ▸ HP7.out.1)]; rfl
      have c1 : w7.cell? ⟨g, 1, none⟩ = some (.int .u64 (x1 : Int)) := by rw [cell_of_row _ _ _ _ _ (0, 0) (HG.out.1 ▸ HP7.out.1)]; rfl
      have c2 : w7.cell? ⟨g, 2, none⟩ = some (.int .u64 (x2 : Int)) := by rw [cell_of_row _ _ _ _ _ (0, 0) (HG.out.1 ▸ HP7.out.1)]; rfl
      have c3 : w7.cell? ⟨g, 3, none⟩ = some (.int .u64 (x3 : Int)) := by rw [cell_of_row _ _ _ _ _ (0, 0) (HG.out.1 ▸ HP7.out.1)]; rfl
      go_wp2_with fail
      refine (runs_any w7 [x0, x1, x2, x3] HXC.out).mono ?_
      rintro e w8 ⟨vr, rfl, hO, hb⟩
      clear c0 c1 c2 c3
      have HRS : Hid (runsOf (elemsL [x0, x1, x2, x3]) = runsP [u0, u1, u2, u3]) := Lib.hid (by unfold runsP; rw [HX.out])
      rw [HRS.out] at hO
      have HPU := Lib.hid (printI_up [u0, u1, u2, u3])
      have hm256 := runsP_len [u0, u1, u2, u3]
      have hm0 : 0 < (runsP [u0, u1, u2, u3]).length := List.length_pos_iff.2 (runsP_ne _ HC.out)
      have HOK := Lib.hid (runsP_ok [u0, u1, u2, u3])
      rw [HNP.out] at HPU
      have HIB : Hid (∀ x ∈ printI [u0, u1, u2, u3], x ≠ 10 ∧ 0 ≤ x ∧ x ≤ 255) := Lib.hid (print_no10 _ HC.out)
      generalize runsP [u0, u1, u2, u3] = rs at hO HPU hm256 hm0 HOK
      have HRW : Hid (RW w (w.heap.size + 2) w7.heap.size vr rs w8 u5 (hdP np)) := Lib.hid ⟨HT7.out.below hb, hO, fun k e1 e2 => by
          have h1 := HT7.out.lt (by unfold hdP; simp) k e1
          have h2 := (World.ownsRow.lt hO k e2).1
          omega, HP7.out.2.2.trans (hb.mono HP7.out.2.2.size), by omega, Nat.le_trans HP7.out.size hb.size, by unfold hdP; simp⟩
      obtain ⟨g8, cap8, hvr, -⟩ := hO.at_ hm0
      clear HT7 HP7 HX HXC HRS hb hO
      obtain ⟨m, hm⟩ : ∃ m, rs.length = m := ⟨_, rfl⟩
      rw [hm] at hvr hm256 hm0
      have HM := Lib.hid hm
      subst hvr
      clear hm
      generalize w7.heap.size = B2 at HRW
      have HRS : Hid (∀ r, r ∈ rs → r.1 ≤ 255 ∧ r.2 ≤ 255) := Lib.hid (fun r hr => by have := HOK.out r hr; omega)
      clear HOK
      go_wp2_with fail
      go_loopw [5, 36] (fun v i wr => ∃ k : Nat, k ≤ m ∧ i = .int .i64 k ∧ RW w (w.heap.size + 2) B2 (.slice (some ⟨g8, 0, none⟩) m cap8) rs wr v (upP np rs k)) (fun _ i _ => m - (intOf i).toNat)
      case atStart => exact ⟨0, by omega, rfl, by rw [upP_zero]; exact HRW.out⟩
      case round =>
        clear HRW
        obtain ⟨k, hk, rfl, hR⟩ := hrel
        have hlen := (upP_len np rs k (by rw [HM.out]; exact hm256)).1
        by_cases hlt : k < m
        · have HST := Lib.hid (upP_step np rs k (by rw [HM.out]; exact hlt))
          have hok := HRS.out (rs[k]?.getD (0, 0)) (by rw [List.getElem?_eq_getElem (by rw [HM.out]; exact hlt)]; exact List.getElem_mem _)
          obtain ⟨r1, r2⟩ := RW.at_ hR HM.out k hlt
          have HR := Lib.hid hR
          generalize rs[k]?.getD (0, 0) = r at HST hok r1 r2
          obtain ⟨lo, hi⟩ := r
          dsimp only at r1 r2 hok
          obtain ⟨hlo, hhi⟩ := hok
          clear hR
          go_upto_region 10 with fail
          clear r1 r2
          obtain ⟨hR1, hB1⟩ := BoxR.new HR.out lo hi
          clear HR
          generalize wr.heap.size = gb at hB1 ⊢
          generalize wr.alloc (.cells #[.int .u8 (lo : Int), .int .u8 (hi : Int)] 95) = wa at hR1 hB1 ⊢
          have HR1 := Lib.hid hR1
          have HB1 := Lib.hid hB1
          obtain ⟨d0, d1⟩ := hB1.cells
          clear hR1 hB1
          go_wp2_with fail
          refine (written4_any wa (HW.out.below HR1.out.bel) lo hlo).mono ?_
          rintro e wb ⟨ad, rfl, hs, hb⟩
          have HR2 := Lib.hid (HR1.out.below hb)
          have HB2 := Lib.hid (HB1.out.below hb)
          have HSz := Lib.hid HR2.out.size
          have hw1 := wrI_len lo
          generalize hnl : (wrI lo).length = nl at hs hw1 ⊢
          have HS := Lib.hid hs
          have HNL := Lib.hid hnl
          clear d0 d1 hs hb HR1 HB1 hnl
          go_wp2_with (at_builtin; refine append_txp rfl (.tmp 40) (.tmp 43) rfl (w.heap.size + 2) _ (upP np rs k) (wrI lo) ad nl nl rfl HR2.out.tx rfl HS.out (by omega) (by omega) HSz.out ?_)
          intro v3 wd ho hA
          have HR3 := Lib.hid (HR2.out.app ho hA)
          have HB3 := Lib.hid (HB2.out.app hA)
          obtain ⟨d0, d1⟩ := HB3.out.cells
          clear ho hA HS HR2 HB2 HSz
          by_cases hne : lo = hi
          · have hd : ((lo : Int) != (hi : Int)) = false := by rw [bne_eq_false_iff_eq]; omega
            have HEQ : Hid (upP np rs (k + 1) = upP np rs k ++ wrI lo) := Lib.hid (by rw [HST.out]; unfold runI; rw [if_pos hne, List.append_nil])
            clear hne
            go_wp2_with fail
            go_roundw
            case rel => exact ⟨k + 1, by omega, by go_num, by rw [HEQ.out]; exact HR3.out⟩
            case measure => simp [intOf]; omega
          · have hd : ((lo : Int) != (hi : Int)) = true := by rw [bne_iff_ne]; omega
            have HEQ : Hid (upP np rs (k + 1) = ((upP np rs k ++ wrI lo) ++ [45]) ++ wrI hi) := Lib.hid (by rw [HST.out]; unfold runI; rw [if_neg hne]; simp)
            have hLa : (upP np rs k ++ wrI lo).length ≤ 3000 := by rw [List.length_append, HNL.out]; omega
            obtain ⟨T1, hT1⟩ : ∃ T1, upP np rs k ++ wrI lo = T1 := ⟨_, rfl⟩
            rw [hT1] at HEQ HR3 hLa
            obtain ⟨T2, hT2⟩ : ∃ T2, T1 ++ [45] = T2 := ⟨_, rfl⟩
            have hLb : T2.length ≤ 3001 := by rw [← hT2, List.length_append, List.length_singleton]; omega
            have HT2 := Lib.hid hT2
            clear hT1 hT2
            have HRa := Lib.hid (HR3.out.below (box1 wd (.cells #[.int .u8 45] 5)))
            have HBa := Lib.hid (HB3.out.below (box1 wd (.cells #[.int .u8 45] 5)))
            have HSa := Lib.hid (SB.lit wd 5 [45] #[.int .u8 45] (0, 0) 1 rfl (by decide) (by decide))
            clear hne
            go_wp2_with (at_builtin; refine append_txp rfl (.tmp 50) (.tmp 51) rfl (w.heap.size + 2) _ T1 [45] _ 1 1 rfl HRa.out.tx rfl HSa.out (by omega) (by omega) HRa.out.size ?_)
            intro v4 we ho hA
            have hR4 := HRa.out.app ho hA
            rw [HT2.out] at hR4 HEQ
            have HR4 := Lib.hid hR4
            clear hR4
            have HB4 := Lib.hid (HBa.out.app hA)
            obtain ⟨d0, d1⟩ := HB4.out.cells
            clear ho hA HRa HBa HSa HR3 HB3
            go_wp2_with fail
            refine (written4_any we (HW.out.below HR4.out.bel) hi hhi).mono ?_
            rintro e wf ⟨ad2, rfl, hs, hb⟩
            have HR5 := Lib.hid (HR4.out.below hb)
            have HSz := Lib.hid HR5.out.size
            have hw2 := wrI_len hi
            generalize hnl2 : (wrI hi).length = nl2 at hs hw2 ⊢
            have HS := Lib.hid hs
            clear d0 d1 hs hb HR4 HB4 hnl2
            go_wp2_with (at_builtin; refine append_txp rfl (.tmp 53) (.tmp 56) rfl (w.heap.size + 2) _ T2 (wrI hi) ad2 nl2 nl2 rfl HR5.out.tx rfl HS.out (by omega) (by omega) HSz.out ?_)
            intro v5 wg ho hA
            have HR6 := Lib.hid (HR5.out.app ho hA)
            clear ho hA HS HR5 HSz
            go_wp2_with fail
            go_roundw
            case rel => exact ⟨k + 1, by omega, by go_num, by rw [HEQ.out]; exact HR6.out⟩
            case measure => simp [intOf]; omega
        · obtain rfl : k = m := by omega
          have HR := Lib.hid hR
          clear hR
          obtain ⟨P, hP⟩ : ∃ P, printI [u0, u1, u2, u3] = P := ⟨_, rfl⟩
          have HPE : Hid (upP np rs k ++ [93] = P) := Lib.hid (by rw [← hP, HPU.out, HM.out])
          rw [hP] at HIB
          have HPP := Lib.hid hP
          have hPl : P.length ≤ 3000 := by rw [← HPE.out, List.length_append, List.length_singleton]; omega
          clear hP HPU
          have HRa := Lib.hid (HR.out.below (box1 wr (.cells #[.int .u8 93] 5)))
          have HSa := Lib.hid (SB.lit wr 5 [93] #[.int .u8 93] (0, 0) 1 rfl (by decide) (by decide))
          clear HR HW HRS
          go_wp2_with (at_builtin; refine append_txp rfl (.tmp 59) (.tmp 60) rfl (w.heap.size + 2) _ (upP np rs k) [93] _ 1 1 rfl HRa.out.tx rfl HSa.out (by omega) (by omega) HRa.out.size ?_; intro v3 wa ho hA; have hbel := hA.bel _ _ HRa.out.bel (by omega); rw [HPE.out] at ho; obtain ⟨at3, ct3, rfl, -, -, hsb⟩ := ho.sbn (fun i => by
              by_cases hi : i < P.length
              · have := HIB.out P[i] (List.getElem_mem hi)
                rw [List.getElem?_eq_getElem hi]
                exact this.2
              · rw [List.getElem?_eq_none (by omega)]; exact ⟨by decide, by decide⟩) (by omega); have HBL := Lib.hid hbel; have HSB := Lib.hid hsb; obtain ⟨n, hn⟩ : ∃ n, P.length = n := ⟨_, rfl⟩; rw [hn] at HSB ⊢; have HN := Lib.hid hn; clear ho hA hbel hsb hn)
          clear HRa HSa
          have hn3 : n ≤ 3000 := by rw [← HN.out]; exact hPl
          go_loopw [8, 63] (fun v i wx => ∃ k : Nat, k ≤ n ∧ i = .int .i64 k ∧ OwnM wx wa.heap.size v (sg (P.take k)) ∧ Below wa.heap.size wa wx) (fun _ i _ => n - (intOf i).toNat)
          case atStart => exact ⟨0, by omega, rfl, OwnM.nil _ _, Below.refl _ _⟩
          case round =>
            obtain ⟨j, hj, rfl, hO, hB⟩ := hrel
            have HO := Lib.hid hO
            have HB := Lib.hid hB
            clear hO hB
            by_cases hlt : j < n
            · obtain ⟨bb, oo, rfl, hc⟩ := (HSB.out.below HB.out).read j hlt
              have hcj := hc j hlt
              have HST := Lib.hid (sg_snoc P j (by rw [HN.out]; exact hlt))
              have hlj : (sg (P.take j)).length ≤ 3000 := by rw [sg_len, List.length_take]; omega
              clear hc
              generalize P[j]?.getD 0 = x at hcj HST
              generalize sg (P.take j) = ex at HO hlj HST
              have HSz := Lib.hid HB.out.size
              rename World => wx
              go_wp2_with (at_builtin; refine append_mk rfl (.tmp 67) (.tmp 70) rfl wa.heap.size _ ex [(x, false)] _ 1 rfl rfl rfl HO.out rfl (by omega) HSz.out ?_)
              intro v' w1 ho1 hA
              have HB1 := Lib.hid (hA.bel _ _ HB.out (Nat.le_refl _))
              rw [← HST.out] at ho1
              have HO1 := Lib.hid ho1
              clear ho1 hA HO HB hcj
              go_wp2_with fail
              go_roundw
              case rel => exact ⟨j + 1, by omega, by go_num, HO1.out, HB1.out⟩
              case measure => simp [intOf]; omega
            · obtain rfl : j = n := by omega
              have e : P.take j = P := List.take_of_length_le (by rw [HN.out]; omega)
              rw [e] at HO
              clear e
              go_wp2_with fail
              go_ret
              exact ⟨_, rfl, by rw [HPP.out]; exact HO.out.mono HBL.out.size, HBL.out.trans (HB.out.mono HBL.out.size)⟩
end Go.Proofs.YthegepiafodpjaaDoor
