/-
  QuoteLines: its walk.
-/
import Derived.Test.YtboikhalfffioaaDoorRl
import Derived.Test.YtboikhalfffioaaDoorWk2
import Derived.Deep.RegionHeld3
namespace Go.Proofs.YtboikhalfffioaaDoor
open Go.RowKit

/-- galleyref00.Long, of any number. -/
theorem long_nat (w : World) (n : Nat) : Calls Tryd.prog 9 #[.int .i64 n] w fun e w' => e = .returned (.bool (decide (2147483647 < n))) ∧ w = w' := by
  by_cases h : 2147483647 < n
  · have h1 : (2147483647 : Int) < (n : Int) := by omega
    have hd := Lib.hid (decide_eq_true h)
    clear h
    go_enter Tryd.func9, Tryd.ntmps9
    go_wp2
    go_ret
    exact ⟨ret_bool hd.out.symm, rfl⟩
  · have h1 : ¬ (2147483647 : Int) < (n : Int) := by omega
    have hd := Lib.hid (decide_eq_false h)
    clear h
    go_enter Tryd.func9, Tryd.ntmps9
    go_wp2
    go_ret
    exact ⟨ret_bool hd.out.symm, rfl⟩
/-- The box of a note. -/
def NoteAt (g : Nat) (e p : Int) (name : ByteArray) (w : World) : Prop := w.cell? ⟨g, 0, none⟩ = some (.int .i64 e) ∧ w.cell? ⟨g, 1, none⟩ = some (.int .i64 p) ∧ w.cell? ⟨g, 2, none⟩ = some (.string name)
theorem NoteAt.below {g : Nat} {e p : Int} {name : ByteArray} {w w' : World} (h : NoteAt g e p name w) (hb : Below w.heap.size w w') : NoteAt g e p name w' := ⟨cell_k hb h.1, cell_k hb h.2.1, cell_k hb h.2.2⟩

set_option maxHeartbeats 1000000 in
set_option maxRecDepth 100000 in
theorem lines_any (w : World) (hw : W2 w) (e p : Int) (h0 : -9223372036854775808 ≤ e) (h1 : e ≤ 9223372036854775807) (p0 : -9223372036854775808 ≤ p) (p1 : p ≤ 9223372036854775807) (name : ByteArray) :
    Calls Tryd.prog 5 #[.agg #[.int .i64 e, .int .i64 p, .string name]] w fun r w' => r = .returned (.bool true) ∧ Below w.heap.size w w' := by
  have HW := Lib.hid hw
  have HE := Lib.hid (And.intro h0 h1)
  have HP := Lib.hid (And.intro p0 p1)
  clear hw h0 h1 p0 p1
  go_enter Tryd.func5, Tryd.ntmps5
  have HB0 := Lib.hid (boxL w (.cells #[.int .i64 e, .int .i64 p, .string name] 55))
  have n0 := heap_alloc_new w (.cells #[.int .i64 e, .int .i64 p, .string name] 55)
  go_upto_region 1 with fail
  generalize w.heap.size = g at n0 ⊢
  generalize w.alloc (.cells #[.int .i64 e, .int .i64 p, .string name] 55) = w0 at HB0 n0 ⊢
  have HN : Hid (NoteAt g e p name w0) := Lib.hid ⟨Lib.cell_of_heap n0 0, Lib.cell_of_heap n0 1, Lib.cell_of_heap n0 2⟩
  clear n0
  have c2 := HN.out.2.2
  have HLO := Lib.hid (long_nat w0 name.size)
  by_cases hlo : 2147483647 < name.size
  · have hd : decide (2147483647 < name.size) = true := decide_eq_true hlo
    rw [hd] at HLO
    clear hd hlo
    go_wp2_with (go_at_call 9; refine HLO.out.mono ?_)
    rintro r w1 ⟨rfl, rfl⟩
    go_wp2_with fail
    go_ret
    exact ⟨rfl, HB0.out⟩
  · have hd : decide (2147483647 < name.size) = false := decide_eq_false hlo
    rw [hd] at HLO
    clear hd
    go_wp2_with (go_at_call 9; refine HLO.out.mono ?_)
    rintro r w1 ⟨rfl, rfl⟩
    go_upto_region 3 with fail
    have HL1 : Hid (∀ w1, Below w0.heap.size w0 w1 → Calls Tryd.prog 18 #[.agg #[.int .i64 e, .int .i64 p, .string name]] w1 fun r w' => r = .returned (.string (lineB e p name)) ∧ Below w1.heap.size w1 w') := Lib.hid fun w1 hb => line_any w1 ((HW.out.below HB0.out).below hb).wd e p HE.out.1 HE.out.2 HP.out.1 HP.out.2 name (by omega)
    have HL2 : Hid (∀ w1, Below w0.heap.size w0 w1 → Calls Tryd.prog 19 #[.agg #[.int .i64 e, .int .i64 p, .string name]] w1 fun r w' => r = .returned (.string (lineB e p name)) ∧ Below w1.heap.size w1 w') := Lib.hid fun w1 hb => refLine_any w1 ((HW.out.below HB0.out).below hb).wd e p HE.out.1 HE.out.2 HP.out.1 HP.out.2 name (by omega)
    have HWK : Hid (∀ w1, Below w0.heap.size w0 w1 → Calls Tryd.prog 15 #[] w1 fun r w' => r = .returned (.bool true) ∧ Below w1.heap.size w1 w') := Lib.hid fun w1 hb => works_any w1 ((HW.out.below HB0.out).below hb)
    have HSS : Hid (∀ w1 w2 : World, (w1.cell? ⟨g, 0, none⟩ = some (.int .i64 e) ∧ w1.cell? ⟨g, 1, none⟩ = some (.int .i64 p) ∧ w1.cell? ⟨g, 2, none⟩ = some (.string name) ∧ Hid (Below w0.heap.size w0 w1)) → Below w1.heap.size w1 w2 → (w2.cell? ⟨g, 0, none⟩ = some (.int .i64 e) ∧ w2.cell? ⟨g, 1, none⟩ = some (.int .i64 p) ∧ w2.cell? ⟨g, 2, none⟩ = some (.string name) ∧ Hid (Below w0.heap.size w0 w2))) := Lib.hid fun w1 w2 h hb => ⟨cell_k hb h.1, cell_k hb h.2.1, cell_k hb h.2.2.1, Lib.hid (h.2.2.2.out.trans (hb.mono h.2.2.2.out.size))⟩
    have hst : (w0.drew.cell? ⟨g, 0, none⟩ = some (.int .i64 e) ∧ w0.drew.cell? ⟨g, 1, none⟩ = some (.int .i64 p) ∧ w0.drew.cell? ⟨g, 2, none⟩ = some (.string name) ∧ Hid (Below w0.heap.size w0 w0.drew)) := ⟨HN.out.1, HN.out.2.1, HN.out.2.2, Lib.hid (below_drewN (Below.refl _ w0) 1)⟩
    generalize hLB : lineB e p name = L at HL1 HL2
    clear hLB c2
    have hLL : (L.toList == L.toList) = true := beq_self_eq_true _
    refine wp_region_held_drew (S := fun w' => w'.cell? ⟨g, 0, none⟩ = some (.int .i64 e) ∧ w'.cell? ⟨g, 1, none⟩ = some (.int .i64 p) ∧ w'.cell? ⟨g, 2, none⟩ = some (.string name) ∧ Hid (Below w0.heap.size w0 w')) (by kernel_rfl) hst (fun hHeld => ?_)
    refine wpAnyH_take (i := 0) (v := .agg #[.int .i64 e, .int .i64 p, .string name]) rfl (by kernel_rfl) (by kernel_rfl) (by kernel_rfl) (fun _ _ _ h => h) (Or.inl ⟨by rfl, by intro w hSw; obtain ⟨d0, d1, d2, -⟩ := hSw; go_simp⟩) (by assumption) ?_
    simp only [Act.put, List.getElem_toArray, List.getElem_cons_zero, List.setIfInBounds_toArray, List.set_cons_zero, List.set_cons_succ]
    refine wpAnyH_take (i := 2) (v := .agg #[.int .i64 e, .int .i64 p, .string name]) rfl (by kernel_rfl) (by kernel_rfl) (by kernel_rfl) (fun _ _ _ h => h) (Or.inl ⟨by rfl, by intro w hSw; obtain ⟨d0, d1, d2, -⟩ := hSw; go_simp⟩) (by assumption) ?_
    simp only [Act.put, List.getElem_toArray, List.getElem_cons_zero, List.getElem_cons_succ, List.setIfInBounds_toArray, List.set_cons_zero, List.set_cons_succ]
    refine wpAnyH_ready (rs := [1]) (by kernel_rfl) (by simp) ?_
    refine AllReadyH.cons rfl (fun K hK => ?_) AllReadyH.nil
    go_simp
    refine (HL1.out _ hHeld.2.2.2.out).mono ?_
    rintro r wn ⟨rfl, hbn⟩
    replace hHeld := HSS.out _ _ hHeld hbn
    refine hK.out _ _ hHeld (fun hHeld => ?_)
    clear hK K hbn
    refine wpAnyH_ready (rs := [3]) (by kernel_rfl) (by simp) ?_
    refine AllReadyH.cons rfl (fun K hK => ?_) AllReadyH.nil
    go_simp
    refine (HL2.out _ hHeld.2.2.2.out).mono ?_
    rintro r wn ⟨rfl, hbn⟩
    replace hHeld := HSS.out _ _ hHeld hbn
    refine hK.out _ _ hHeld (fun hHeld => ?_)
    clear hK K hbn
    refine wpAnyH_take (i := 4) (v := .bool true) rfl (by kernel_rfl) (by kernel_rfl) (by kernel_rfl) (fun _ _ _ h => h) (Or.inl ⟨by rfl, by intro w hSw; clear hSw; go_simp⟩) (by assumption) ?_
    simp only [Act.put, List.getElem_toArray, List.getElem_cons_zero, List.getElem_cons_succ, List.setIfInBounds_toArray, List.set_cons_zero, List.set_cons_succ]
    refine wpAnyH_take (i := 5) (v := .bool true) rfl (by kernel_rfl) (by kernel_rfl) (by kernel_rfl) (fun _ _ _ h => h) (Or.inl ⟨by rfl, by intro w hSw; clear hSw; go_simp⟩) (by assumption) ?_
    simp only [Act.put, List.getElem_toArray, List.getElem_cons_zero, List.getElem_cons_succ, List.setIfInBounds_toArray, List.set_cons_zero, List.set_cons_succ]
    refine wpAnyH_ready (rs := [6]) (by kernel_rfl) (by simp) ?_
    refine AllReadyH.cons rfl (fun K hK => ?_) AllReadyH.nil
    go_simp
    refine (HWK.out _ hHeld.2.2.2.out).mono ?_
    rintro r wn ⟨rfl, hbn⟩
    replace hHeld := HSS.out _ _ hHeld hbn
    refine hK.out _ _ hHeld (fun hHeld => ?_)
    clear hK K hbn
    refine wpAnyH_take (i := 7) (v := .bool true) rfl (by kernel_rfl) (by kernel_rfl) (by kernel_rfl) (fun _ _ _ h => h) (Or.inl ⟨by rfl, by intro w hSw; clear hSw; go_simp⟩) (by assumption) ?_
    simp only [Act.put, List.getElem_toArray, List.getElem_cons_zero, List.getElem_cons_succ, List.setIfInBounds_toArray, List.set_cons_zero, List.set_cons_succ]
    refine wpAnyH_take (i := 8) (v := .bool true) rfl (by kernel_rfl) (by kernel_rfl) (by kernel_rfl) (fun _ _ _ h => h) (Or.inl ⟨by rfl, by intro w hSw; clear hSw; go_simp⟩) (by assumption) ?_
    simp only [Act.put, List.getElem_toArray, List.getElem_cons_zero, List.getElem_cons_succ, List.setIfInBounds_toArray, List.set_cons_zero, List.set_cons_succ]
    refine wpAnyH_done (by kernel_rfl) ?_ _
    go_wp2_with fail
    go_ret
    exact ⟨rfl, HB0.out.trans (hHeld.2.2.2.out.mono HB0.out.size)⟩
end Go.Proofs.YtboikhalfffioaaDoor
