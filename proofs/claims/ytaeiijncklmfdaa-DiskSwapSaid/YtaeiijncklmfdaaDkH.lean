/-
  Layer 3: a change of the folder.
-/
import Derived.Test.YtaeiijncklmfdaaDkW
import Derived.StillTailTactics
namespace Go.Proofs.Ytaeiijncklmfdaa
open Go.RowKit

def changeM (s : DkS) (x : ChS) : DkS := { s with folder := applyM s.folder x, pending := s.pending ++ [x], done := inc64 s.done }
def DkPost (w : World) (base d : Nat) (c : Nat → Nat) (fo du : Nat) (r : Value) (s' : DkS) (e : Ending) (w' : World) : Prop :=
  e = .returned r ∧ ∃ c' pe' pl' bv', DkAt w' base d s' c' fo du pe' pl' bv' ∧ Stp w w' base c c'
theorem infoCh : (Try.prog.info? 108).map (fun i => (i.zero, i.size, i.bytes)) = some (some (.agg #[.string ByteArray.empty, .string ByteArray.empty, .pointer none]), 3, 40) := by kernel_rfl
theorem fv_one {a b : ByteArray} {f : Option Nat} {fv : Value} (h : ptV f = fv) : ∀ u ∈ [Value.string a, .string b, fv], u.oneCell' = true := by
  intro u hu
  simp only [List.mem_cons, List.not_mem_nil, or_false] at hu
  rcases hu with rfl | rfl | rfl
  · rfl
  · rfl
  · subst h; cases f <;> rfl
section
variable {w w' w1 : World} {base d : Nat} {s : DkS} {c : Nat → Nat} {fo du : Nat} {pe pl : Value} {bv : Nat → Value}
set_option maxHeartbeats 1000000 in
set_option maxRecDepth 100000 in
theorem change_any (h : DkAt w base d s c fo du pe pl bv) (x : ChS) (hx : x.to ≠ ByteArray.empty → x.file ≠ none) (hin : ∀ p, x.file = some p → p ∈ s.ps) (hlen : s.pending.length ≤ 1000000000000) :
    Calls Try.prog 65 #[ptD d, chV x] w fun e w' => DkPost w base d c fo du (.tuple #[]) (changeM s x) e w' := by
  have hA := (Below.refl w.heap.size w).alloc (Nat.le_refl _) (.cells #[.string x.gone, .string x.to, ptV x.file] 108)
  have h1 := h.below hA
  have s1 := Stp.below c hA h.base_le
  obtain ⟨-, -, c2, -⟩ := h1.cell
  have b0 : (w.alloc (.cells #[.string x.gone, .string x.to, ptV x.file] 108)).heap[w.heap.size]? = some (.cells #[.string x.gone, .string x.to, ptV x.file] 108 (0, 0)) := heap_alloc_new w _
  have hlt0 : w.heap.size < (w.alloc (.cells #[.string x.gone, .string x.to, ptV x.file] 108)).heap.size := by simp
  have hc0 : c w.heap.size = 0 := h.high _ (Nat.le_refl _)
  clear h
  unfold ptD
  unfold chV
  go_enter Try.func65, Try.ntmps65
  go_wp2_with fail
  generalize hW : w.alloc (.cells #[.string x.gone, .string x.to, ptV x.file] 108) = W at *
  -- REG1
  have h2 : DkAt W.drew base d s c fo du pe pl bv := h1.drewN 1
  have s2 : Stp w W.drew base c c := s1.drewN 1
  have b2 : W.drew.heap[w.heap.size]? = some (.cells #[.string x.gone, .string x.to, ptV x.file] 108 (0, 0)) := b0
  have c2' : W.drew.cell? ⟨d, 2, none⟩ = some (.map (some fo)) := c2
  have hlt2 : w.heap.size < W.drew.heap.size := hlt0
  have HA := apply_any W.drew fo base s.folder h2.fold (h2.low fo (by rw [h2.cf]; decide)) x hx
  have q0 : W.drew.cell? ⟨w.heap.size, 0, none⟩ = some (.string x.gone) := by rw [cell_of_row _ _ 0 _ _ _ b2]; rfl
  have q1 : W.drew.cell? ⟨w.heap.size, 1, none⟩ = some (.string x.to) := by rw [cell_of_row _ _ 1 _ _ _ b2]; rfl
  have q2 : W.drew.cell? ⟨w.heap.size, 2, none⟩ = some (ptV x.file) := by rw [cell_of_row _ _ 2 _ _ _ b2]; rfl
  have HSS : Hid (∀ wn, MapAt wn fo (applyM s.folder x) → Up W.drew wn base (· = fo) (· = fo) → wn.cell? ⟨d, 2, none⟩ = some (.map (some fo)) ∧ wn.cell? ⟨w.heap.size, 0, none⟩ = some (.string x.gone) ∧ wn.cell? ⟨w.heap.size, 1, none⟩ = some (.string x.to) ∧ wn.cell? ⟨w.heap.size, 2, none⟩ = some (ptV x.file)) := Lib.hid fun wn hm hu => by
    have k1 : wn.heap[w.heap.size]? = W.drew.heap[w.heap.size]? := hu.keep _ hlt2 fun e => by rw [e, h2.cf] at hc0; cases hc0
    have k2 : wn.heap[d]? = W.drew.heap[d]? := hu.keep _ h2.dlt fun e => by have := h2.cd; rw [e, h2.cf] at this; cases this
    exact ⟨(cell_heap k2 2).trans c2', (cell_heap k1 0).trans q0, (cell_heap k1 1).trans q1, (cell_heap k1 2).trans q2⟩
  have HH2 := Lib.hid h2
  have HS2 := Lib.hid s2
  have HB2 := Lib.hid b2
  clear h1 s1 c2 b0 hlt0 hW hA h2 s2 b2
  unfold chV at HA
  have HAP := Lib.hid HA
  clear HA
  generalize hfv : ptV x.file = fv at *
  refine wp_region_held_drew (S := fun w' => w'.cell? ⟨d, 2, none⟩ = some (.map (some fo)) ∧ w'.cell? ⟨w.heap.size, 0, none⟩ = some (.string x.gone) ∧ w'.cell? ⟨w.heap.size, 1, none⟩ = some (.string x.to) ∧ w'.cell? ⟨w.heap.size, 2, none⟩ = some (fv)) (by kernel_rfl) ⟨c2', q0, q1, q2⟩ (fun hHeld => ?_)
  generalize W.drew = W2 at *
  refine wpAnyH_take (i := 0) (v := .agg #[.string x.gone, .string x.to, fv]) rfl (by kernel_rfl) (by kernel_rfl) (by kernel_rfl) (fun _ _ _ h => h) (Or.inl ⟨by rfl, by intro w hSw; (try dsimp only at hSw); go_simp⟩) (by assumption) ?_
  simp only [Act.put, List.getElem_toArray, List.getElem_cons_zero, List.setIfInBounds_toArray, List.set_cons_zero, List.set_cons_succ]
  refine wpAnyH_take (i := 1) (v := .pointer (some ⟨d, 0, none⟩)) rfl (by kernel_rfl) (by kernel_rfl) (by kernel_rfl) (fun _ _ _ h => h) (Or.inl ⟨by rfl, by intro w hSw; (try dsimp only at hSw); go_simp⟩) (by assumption) ?_
  simp only [Act.put, List.getElem_toArray, List.getElem_cons_zero, List.getElem_cons_succ, List.setIfInBounds_toArray, List.set_cons_zero, List.set_cons_succ]
  refine wpAnyH_take (i := 2) (v := .pointer (some ⟨d, 0, none⟩)) rfl (by kernel_rfl) (by kernel_rfl) (by kernel_rfl) (fun _ _ _ h => h) (Or.inl ⟨by rfl, by intro w hSw; (try dsimp only at hSw); go_simp⟩) (by assumption) ?_
  simp only [Act.put, List.getElem_toArray, List.getElem_cons_zero, List.getElem_cons_succ, List.setIfInBounds_toArray, List.set_cons_zero, List.set_cons_succ]
  refine wpAnyH_take (i := 3) (v := .pointer (some ⟨d, 2, none⟩)) rfl (by kernel_rfl) (by kernel_rfl) (by kernel_rfl) (fun _ _ _ h => h) (Or.inl ⟨by rfl, by intro w hSw; (try dsimp only at hSw); go_simp⟩) (by assumption) ?_
  simp only [Act.put, List.getElem_toArray, List.getElem_cons_zero, List.getElem_cons_succ, List.setIfInBounds_toArray, List.set_cons_zero, List.set_cons_succ]
  refine wpAnyH_take (i := 4) (v := .map (some fo)) rfl (by kernel_rfl) (by kernel_rfl) (by kernel_rfl) (fun _ _ _ h => h) (Or.inl ⟨by rfl, by intro w hSw; (try dsimp only at hSw); go_simp⟩) (by assumption) ?_
  simp only [Act.put, List.getElem_toArray, List.getElem_cons_zero, List.getElem_cons_succ, List.setIfInBounds_toArray, List.set_cons_zero, List.set_cons_succ]
  refine wpAnyH_ready (rs := [5]) (by kernel_rfl) (by simp) ?_
  refine AllReadyH.cons rfl (fun K hK => ?_) AllReadyH.nil
  go_simp
  refine (HAP.out).mono ?_
  rintro e wn ⟨rfl, hm, hu⟩
  replace hHeld := HSS.out wn hm hu
  refine hK.out _ _ hHeld (fun hHeld => ?_)
  clear hK K
  refine wpAnyH_done (by kernel_rfl) ?_ _
  obtain ⟨h3, s3⟩ := HH2.out.setFolder _ hm hu (fun y hy => by
    rcases mem_apply hx hy with h | h
    · exact HH2.out.fin y h
    · exact hin _ h)
  have s3 := HS2.out.trans s3
  obtain ⟨-, -, -, -, r4, -⟩ := h3.cell
  have f4 := h3.frz 4
  obtain ⟨pa, pc, hpe, hpc, -⟩ := own_shp h3.pend
  obtain ⟨-, q0, q1, q2⟩ := hHeld
  have hlt3 : w.heap.size < wn.heap.size := Nat.lt_of_lt_of_le hlt2 hu.size
  clear HH2 HS2 HB2 HSS HAP hm hu c2' hlt2
  go_upto_region 2 with fail
  have h4 : DkAt wn.drew base d _ c fo du pe pl bv := h3.drewN 1
  have s4 : Stp w wn.drew base c c := s3.drewN 1
  have hlt4 : w.heap.size < wn.drew.heap.size := hlt3
  have q0' : wn.drew.cell? ⟨w.heap.size, 0, none⟩ = some (.string x.gone) := q0
  have q1' : wn.drew.cell? ⟨w.heap.size, 1, none⟩ = some (.string x.to) := q1
  have q2' : wn.drew.cell? ⟨w.heap.size, 2, none⟩ = some fv := q2
  have r4' : wn.drew.cell? ⟨d, 4, none⟩ = some pe := r4
  have r4a : ∀ o, (wn.alloc o).cell? ⟨d, 4, none⟩ = some pe := fun o => Lib.cell?_alloc_some o r4
  have hpo := h4.pend
  have hd4 := h4.disk
  have hdl := h4.dlt
  have hnd : pe.ownBlock ≠ some d := fun e => by have := h4.cp _ e; rw [h4.cd] at this; cases this
  have hbs := h4.base_le
  subst hpe
  have HPO := Lib.hid hpo
  have H4 := Lib.hid h4
  have S4 := Lib.hid s4
  have HND := Lib.hid hnd
  have HD4 := Lib.hid hd4
  clear h3 s3 hlt3 hpo h4 s4 hnd hd4
  obtain ⟨i0, hi, hz0, hz1, hz2⟩ := info_parts infoCh
  have hsm : s.pending.length + 1 ≤ maxLen := by unfold maxLen; omega
  have hsb : (s.pending.length + 1) * 40 ≤ 140737488355328 := by omega
  have HNEW : Hid (∀ u ∈ [Value.string x.gone, .string x.to, fv], u.oneCell' = true) := Lib.hid (fv_one hfv)
  go_region_law ((refine step_app (w := wn.drew) (by rfl) (.tmp 14) (.tmp 16) 67 108 (by rfl) i0 (.agg #[.string ByteArray.empty, .string ByteArray.empty, .pointer none]) 3 40 Try.underlying67 hi hz0 hz1 hz2 (by rfl) (by decide) base (.slice pa s.pending.length pc) s.pending.length 1 (s.pending.flatMap chCells) [.string x.gone, .string x.to, fv] _ (by rfl) (by rfl) (by rfl) HPO.out (by rfl) (by rfl) HNEW.out (by decide) hsm hsb hbs ?_; intro g cap w5 ho5 hp5; have hd5 := (hp5.block d hdl HND.out).trans HD4.out; have f45 := frozen_of_row w5 d 4 _ _ hd5; have c45 : w5.cell? ⟨d, 4, none⟩ = some (.slice pa s.pending.length pc) := (by rw [cell_of_row w5 d 4 _ _ _ hd5]; rfl)))
  all_goals
    clear HPO HNEW HD4 HND
    have hfl : w5.ownsRow base 108 3 (.slice (some ⟨g, 0, none⟩) (s.pending.length + 1) cap) (s.pending ++ [x]).length ((s.pending ++ [x]).flatMap chCells) := by
      rw [List.length_append, List.flatMap_append, show ([x] : List ChS).flatMap chCells = [.string x.gone, .string x.to, fv] by rw [← hfv]; rfl]
      exact ho5
    obtain ⟨c', h6, s6⟩ := H4.out.setPend _ (s.pending ++ [x]) hfl (fun k hk hn => hp5.block k hk hn) hp5.size hp5.new (hp5.bel base _ ((Below.refl _ _).mono hbs) (Nat.le_refl _)) (fun y hy p hp => by
      rcases List.mem_append.1 hy with hy | hy
      · exact H4.out.pin y hy p hp
      · rw [List.mem_singleton.1 hy] at hp; exact hin p hp)
    obtain ⟨-, -, -, -, -, -, -, d7, -⟩ := h6.cell
    have f7 := h6.frz 7
    have H7 := Lib.hid (h6.setDone (inc64 s.done))
    have S7 := Lib.hid ((S4.out.trans s6).trans (Stp.set h6 d 7 (by rw [h6.cd]; decide) (.int .i64 (inc64 s.done))))
    unfold inc64 at H7 S7
    simp only at d7
    clear h6 s6 hfl ho5 hp5 hd5 H4 S4 s3 hHeld f45 c45 hsm hsb
    generalize w5.setCell ⟨d, 4, none⟩ _ = w6 at *
    go_wp2_with fail
    go_end0
    exact ⟨rfl, c', _, _, _, H7.out, S7.out⟩
end
end Go.Proofs.Ytaeiijncklmfdaa
