/-
  SpareParts; WideOptions, SpareOptions.
-/
import Derived.Test.YtgepjjpcokbpjaaDoorWidePt
namespace Go.Proofs.YtgepjjpcokbpjaaDoor
open Go.RowKit

set_option maxHeartbeats 1000000 in
set_option maxRecDepth 100000 in
theorem sparePt_any (w : World) (hw : TabW w) (g n : Nat) (hn : n ≤ 5864062014634) (m : List Prt) (hm : m.length = n + 64) (hmj : ∀ j : Nat, n ≤ j → j < n + 64 → m[j]?.getD pt0 = (false, txt 9 j)) (h : ArrPt w g m) :
    Calls Tryd.prog 54 #[.slice (some ⟨g, 0, none⟩) n (n + 64)] w fun e w' => e = .returned (.bool true) ∧ Below w.heap.size w w' := by
  have HM := Lib.hid hm
  have HMJ := Lib.hid hmj
  have H := Lib.hid h
  clear hm hmj h
  go_enter Tryd.func54, Tryd.ntmps54
  go_wp2_with fail
  go_loopw [4] (fun i wr => ∃ k : Nat, n ≤ k ∧ k ≤ n + 64 ∧ i = .int .i64 k ∧ Below w.heap.size w wr) (fun i _ => n + 64 - (intOf i).toNat)
  case atStart => exact ⟨n, Nat.le_refl _, by omega, rfl, Below.refl _ _⟩
  case round =>
    obtain ⟨k, hk1, hk2, rfl, rb⟩ := hrel
    have HRB := Lib.hid rb
    clear rb
    by_cases hlt : k < n + 64
    · have hd : decide ((k : Int) < (n : Int) + 64) = true := by simp; omega
      have i0 : (0 : Int) ≤ (k : Int) := by omega
      have i1 : (k : Int) < (n : Int) + 64 := by omega
      have HS : Hid (∀ w' : World, Below w.heap.size w w' → w'.cell? ⟨g, k * 2, none⟩ = some (.bool false) ∧ w'.cell? ⟨g, k * 2 + 1, none⟩ = some (.string (txt 9 k))) := Lib.hid fun w' hb => by
        obtain ⟨h1, h2⟩ := H.out.cell k (by rw [HM.out]; exact hlt)
        rw [HMJ.out k hk1 hlt] at h1 h2
        exact ⟨by rw [hb.cell (World.block_lt_of_cell? w _ h1)]; exact h1, by rw [hb.cell (World.block_lt_of_cell? w _ h2)]; exact h2⟩
      have heq : (ByteArray.toList (txt 9 k) == ByteArray.toList (txt 9 k)) = true := by simp
      have HT : Hid (∀ w', Below w.heap.size w w' → Calls Tryd.prog 26 #[.int .i64 9, .int .i64 k] w' fun e w2 => e = .returned (.string (txt 9 k)) ∧ Below w'.heap.size w' w2) := Lib.hid fun w' hb => text9 w' (hw.below hb) k (by omega)
      have HBD : Hid (Below w.heap.size w wr.drew) := Lib.hid (below_drewN HRB.out 1)
      generalize txt 9 k = tx at HS HT heq
      have hst := HS.out _ HBD.out
      go_upto_region 5 with fail
      refine wp_region_held_drew (S := fun w' => w'.cell? ⟨g, k * 2, none⟩ = some (.bool false) ∧ w'.cell? ⟨g, k * 2 + 1, none⟩ = some (.string tx)) (by kernel_rfl) hst (fun hHeld => ?_)
      refine wpAnyH_take (i := 0) (v := .slice (some ⟨g, 0, none⟩) (n + 64) (n + 64)) rfl (by kernel_rfl) (by kernel_rfl) (by kernel_rfl) (fun _ _ _ h => h) (Or.inl ⟨by rfl, by intro w hSw; obtain ⟨d0, d1⟩ := hSw; go_simp⟩) (by assumption) ?_
      simp only [Act.put, List.getElem_toArray, List.getElem_cons_zero, List.setIfInBounds_toArray, List.set_cons_zero, List.set_cons_succ]
      refine wpAnyH_take (i := 1) (v := .int .i64 (k : Int)) rfl (by kernel_rfl) (by kernel_rfl) (by kernel_rfl) (fun _ _ _ h => h) (Or.inl ⟨by rfl, by intro w hSw; obtain ⟨d0, d1⟩ := hSw; go_simp⟩) (by assumption) ?_
      simp only [Act.put, List.getElem_toArray, List.getElem_cons_zero, List.getElem_cons_succ, List.setIfInBounds_toArray, List.set_cons_zero, List.set_cons_succ]
      refine wpAnyH_take (i := 2) (v := .pointer (some ⟨g, k * 2, none⟩)) rfl (by kernel_rfl) (by kernel_rfl) (by kernel_rfl) (fun _ _ _ h => h) (Or.inl ⟨by rfl, by intro w hSw; obtain ⟨d0, d1⟩ := hSw; go_simp⟩) (by assumption) ?_
      simp only [Act.put, List.getElem_toArray, List.getElem_cons_zero, List.getElem_cons_succ, List.setIfInBounds_toArray, List.set_cons_zero, List.set_cons_succ]
      refine wpAnyH_take (i := 3) (v := .agg #[.bool false, .string tx]) rfl (by kernel_rfl) (by kernel_rfl) (by kernel_rfl) (fun _ _ _ h => h) (Or.inl ⟨by rfl, by intro w hSw; obtain ⟨d0, d1⟩ := hSw; go_simp⟩) (by assumption) ?_
      simp only [Act.put, List.getElem_toArray, List.getElem_cons_zero, List.getElem_cons_succ, List.setIfInBounds_toArray, List.set_cons_zero, List.set_cons_succ]
      refine wpAnyH_take (i := 4) (v := .int .i64 (k : Int)) rfl (by kernel_rfl) (by kernel_rfl) (by kernel_rfl) (fun _ _ _ h => h) (Or.inl ⟨by rfl, by intro w hSw; obtain ⟨d0, d1⟩ := hSw; go_simp⟩) (by assumption) ?_
      simp only [Act.put, List.getElem_toArray, List.getElem_cons_zero, List.getElem_cons_succ, List.setIfInBounds_toArray, List.set_cons_zero, List.set_cons_succ]
      refine wpAnyH_ready (rs := [5]) (by kernel_rfl) (by simp) ?_
      refine AllReadyH.cons rfl (fun K hK => ?_) AllReadyH.nil
      go_simp
      refine (HT.out _ HBD.out).mono ?_
      rintro r wn ⟨rfl, hbn⟩
      have HBN : Hid (Below w.heap.size w wn) := Lib.hid (HBD.out.trans (hbn.mono HBD.out.size))
      replace hHeld := HS.out wn HBN.out
      refine hK.out _ _ hHeld (fun hHeld => ?_)
      clear hK K hbn
      refine wpAnyH_take (i := 6) (v := .agg #[.bool false, .string tx]) rfl (by kernel_rfl) (by kernel_rfl) (by kernel_rfl) (fun _ _ _ h => h) (Or.inl ⟨by rfl, by intro w hSw; obtain ⟨d0, d1⟩ := hSw; go_simp⟩) (by assumption) ?_
      simp only [Act.put, List.getElem_toArray, List.getElem_cons_zero, List.getElem_cons_succ, List.setIfInBounds_toArray, List.set_cons_zero, List.set_cons_succ]
      refine wpAnyH_take (i := 7) (v := .bool true) rfl (by kernel_rfl) (by kernel_rfl) (by kernel_rfl) (fun _ _ _ h => h) (Or.inl ⟨by rfl, by intro w hSw; obtain ⟨d0, d1⟩ := hSw; go_simp⟩) (by assumption) ?_
      simp only [Act.put, List.getElem_toArray, List.getElem_cons_zero, List.getElem_cons_succ, List.setIfInBounds_toArray, List.set_cons_zero, List.set_cons_succ]
      refine wpAnyH_take (i := 8) (v := .bool false) rfl (by kernel_rfl) (by kernel_rfl) (by kernel_rfl) (fun _ _ _ h => h) (Or.inl ⟨by rfl, by intro w hSw; obtain ⟨d0, d1⟩ := hSw; go_simp⟩) (by assumption) ?_
      simp only [Act.put, List.getElem_toArray, List.getElem_cons_zero, List.getElem_cons_succ, List.setIfInBounds_toArray, List.set_cons_zero, List.set_cons_succ]
      refine wpAnyH_done (by kernel_rfl) ?_ _
      go_wp2_with fail
      go_roundw
      case rel => exact ⟨k + 1, by omega, by omega, by go_num, HBN.out⟩
      case measure => simp [intOf]; omega
    · have hd : decide ((k : Int) < (n : Int) + 64) = false := by simp; omega
      go_wp2_with fail
      go_ret
      exact ⟨rfl, HRB.out⟩
end Go.Proofs.YtgepjjpcokbpjaaDoor
