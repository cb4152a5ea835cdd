/-
  Layer 3: Plan, of one fault at which the power goes.
-/
import Derived.Test.YtaeiijncklmfdaaDkX
namespace Go.Proofs.Ytaeiijncklmfdaa
open Go.RowKit

theorem infoFt : (Try.prog.info? 61).map (fun i => (i.zero, i.size, i.bytes)) = some (some (.agg #[.int .i64 0, .int .i64 0]), 2, 16) := by kernel_rfl
theorem eqlNilF (w : World) (b : Addr) (n c : Nat) : Sem.run Try.prog (binOp .eql 35 (.slice (some b) n c) (.slice none 0 0)) w = .ok (.bool false) w := by kernel_rfl
set_option maxRecDepth 100000 in
/-- slices.Clone of one fault. -/
theorem cloneF_one (w : World) (g : Nat) (x y : Int) (h0 : w.cell? ⟨g, 0, none⟩ = some (.int .i64 x)) (h1 : w.cell? ⟨g, 1, none⟩ = some (.int .i64 y)) :
    Calls Try.prog 59 #[.slice (some ⟨g, 0, none⟩) 1 1] w fun e w' => ∃ b cap, e = .returned (.slice (some ⟨b, 0, none⟩) 1 cap) ∧ 1 ≤ cap ∧ w.heap.size ≤ b ∧ b < w'.heap.size ∧ w'.cell? ⟨b, 0, none⟩ = some (.int .i64 x) ∧ w'.cell? ⟨b, 1, none⟩ = some (.int .i64 y) ∧ Below w.heap.size w w' := by
  obtain ⟨i0, hi, hz0, hz1, hz2⟩ := info_parts infoFt
  have heq := eqlNilF w ⟨g, 0, none⟩ 1 1
  have HZ : Hid ((w.alloc (.cells #[] 61)).ownsRow w.heap.size 61 2 (.slice (some ⟨w.heap.size, 0, none⟩) 0 0) 0 []) := Lib.hid (World.ownsRow_made w #[] 0 (Nat.le_refl _) (Nat.zero_le _) rfl)
  have hal := (Below.refl w.heap.size w).alloc (Nat.le_refl _) (.cells #[] 61)
  have HB1 : Hid (∀ j u, ([.int .i64 x, .int .i64 y] : List Value)[j]? = some u → (w.alloc (.cells #[] 61)).cell? ((⟨g, 0, none⟩ : Addr).add j) = some u) := Lib.hid fun j u hj => by
    match j, hj with
    | 0, hj => simp at hj; subst hj; exact (hal.cell (World.block_lt_of_cell? w _ h0)).trans h0
    | 1, hj => simp at hj; subst hj; exact (hal.cell (World.block_lt_of_cell? w _ h1)).trans h1
  have HONE : Hid (∀ u ∈ ([.int .i64 x, .int .i64 y] : List Value), u.oneCell' = true) := Lib.hid fun u hu => by
    simp only [List.mem_cons, List.not_mem_nil, or_false] at hu
    rcases hu with rfl | rfl <;> rfl
  have HAL := Lib.hid hal
  clear h0 h1 hal
  go_enter Try.func59, Try.ntmps59
  go_wp2_with (at_builtin; refine wpList_append_own_at _ rfl (.tmp 5) (.tmp 6) 35 rfl w.heap.size 61 i0 (.agg #[.int .i64 0, .int .i64 0]) 2 16 Try.underlying35 hi hz0 hz1 hz2 rfl (by decide) _ 0 [] rfl HZ.out ⟨g, 0, none⟩ 1 1 [.int .i64 x, .int .i64 y] rfl rfl HB1.out HONE.out (by unfold maxLen; omega) (by omega) (by simp) ?_)
  intro v' w1 hown hgrow _ hat
  have HB2 := Lib.hid (HAL.out.grown hgrow (by simp) (fun k h => by simp [Value.ownBlock] at h; omega))
  rcases hown.2 with ⟨-, hn⟩ | ⟨gg, cap, cur, rfl, hle, hg, hc, -, hs, htake⟩
  · exact absurd hn (by decide)
  · have hlt := (Array.getElem?_eq_some_iff.1 hg).1
    have c0 : w1.cell? ⟨gg, 0, none⟩ = some (.int .i64 x) := by
      rw [cell_of_row w1 gg 0 cur _ (0, 0) hg]
      have : (cur.toList.take (1 * 2))[0]? = some (.int .i64 x) := by rw [htake]; rfl
      rw [List.getElem?_take_of_lt (by omega)] at this
      simpa using this
    have c1 : w1.cell? ⟨gg, 1, none⟩ = some (.int .i64 y) := by
      rw [cell_of_row w1 gg 1 cur _ (0, 0) hg]
      have : (cur.toList.take (1 * 2))[1]? = some (.int .i64 y) := by rw [htake]; rfl
      rw [List.getElem?_take_of_lt (by omega)] at this
      simpa using this
    clear hown hgrow hat htake HZ HB1 HONE heq
    go_wp2_with fail
    go_ret
    exact ⟨gg, cap, rfl, hc, hle, hlt, c0, c1, HB2.out⟩

theorem DkAt.setPlanNew {w w1 : World} {base d : Nat} {s : DkS} {c : Nat → Nat} {fo du : Nat} {pe pl : Value} {bv : Nat → Value} (h : DkAt w base d s c fo du pe pl bv) (b cap : Nat) (x y : Int) (hcap : 1 ≤ cap) (hb0 : w.heap.size ≤ b) (hb1 : b < w1.heap.size)
    (h0 : w1.cell? ⟨b, 0, none⟩ = some (.int .i64 x)) (h1 : w1.cell? ⟨b, 1, none⟩ = some (.int .i64 y)) (hb : Below w.heap.size w w1) :
    ∃ c', DkAt (w1.setCell ⟨d, 5, none⟩ (.slice (some ⟨b, 0, none⟩) 1 cap)) base d { s with plan := [(x, y)] } c' fo du pe (.slice (some ⟨b, 0, none⟩) 1 cap) bv ∧ Stp w (w1.setCell ⟨d, 5, none⟩ (.slice (some ⟨b, 0, none⟩) 1 cap)) base c c' := by
  have hA := h.below hb
  have hsz : (w1.setCell ⟨d, 5, none⟩ (.slice (some ⟨b, 0, none⟩) 1 cap)).heap.size = w1.heap.size := by simp
  have hk : ∀ k, k ≠ d → (w1.setCell ⟨d, 5, none⟩ (.slice (some ⟨b, 0, none⟩) 1 cap)).heap[k]? = w1.heap[k]? := fun k e => heap_setCell_other w1 ⟨d, 5, none⟩ k _ e
  have hk2 : ∀ k, c k ≠ 1 → (w1.setCell ⟨d, 5, none⟩ (.slice (some ⟨b, 0, none⟩) 1 cap)).heap[k]? = w1.heap[k]? := fun k e => hk k fun e2 => e (by rw [e2]; exact h.cd)
  have hbd : b ≠ d := fun e => by have := h.dlt; omega
  let c' : Nat → Nat := fun k => if k = b then 5 else c k
  have hol : ∀ k, c k ≠ 0 → c' k = c k := fun k h0 => if_neg fun e => by have := h.col h0; omega
  refine ⟨c', ?_, ⟨fun k hlt h0 => (hk k (fun e => by rw [e, h.cd] at h0; cases h0)).trans (hb.block k hlt), fun k hlt => if_neg (by omega), (hb.mono h.base_le).setCell (h.low d (by rw [h.cd]; decide)) _, h.base_le⟩⟩
  exact {
    disk := by rw [heap_setCell_same w1 d 5 _ _ _ hA.disk]; rfl
    cd := (hol d (by rw [h.cd]; decide)).trans h.cd
    fold := hA.fold.keep (hk2 fo (by rw [h.cf]; decide))
    cf := (hol fo (by rw [h.cf]; decide)).trans h.cf
    dur := hA.dur.keep (hk2 du (by rw [h.cu]; decide))
    cu := (hol du (by rw [h.cu]; decide)).trans h.cu
    pend := own_blk hA.pend fun k e => hk2 k (by rw [h.cp k e]; decide)
    cp := fun k e => (hol k (by rw [h.cp k e]; decide)).trans (h.cp k e)
    plan := ⟨_, cap, rfl, by simp, by simpa using hcap, (fun e => by cases e), fun a ha => by
      cases ha
      refine ⟨b, 0, rfl, if_pos rfl, by rw [hsz]; exact hb1, fun i hi => ?_⟩
      have : i = 0 := by simp at hi; exact hi
      subst this
      rw [cell_heap (hk b hbd), cell_heap (hk b hbd)]
      exact ⟨h0, h1⟩⟩
    file := fun p hp => ⟨(hk2 p (by rw [(h.file p hp).2]; decide)).trans (hA.file p hp).1, (hol p (by rw [(h.file p hp).2]; decide)).trans (h.file p hp).2⟩
    byt := fun p hp => ⟨own_blk (hA.byt p hp).1 fun k e => hk2 k (by rw [h.cb p hp k e]; omega), (h.byt p hp).2⟩
    cb := fun p hp k e => (hol k (by rw [h.cb p hp k e]; omega)).trans (h.cb p hp k e)
    fin := h.fin
    din := h.din
    pin := h.pin
    high := fun k hk3 => by
      rw [hsz] at hk3
      exact (show c' k = c k from if_neg (by omega)).trans (hA.high k hk3)
    low := fun k hk3 => by
      by_cases e : k = b
      · have := h.base_le; omega
      · rw [show c' k = c k from if_neg e] at hk3; exact h.low k hk3
    base_le := by rw [hsz]; exact hA.base_le }
section
variable {w : World} {base d : Nat} {s : DkS} {c : Nat → Nat}
set_option maxRecDepth 100000 in
set_option maxHeartbeats 1000000 in
theorem plan_one (h0 : Dk w base d s c) (g : Nat) (N : Int) (hN : 1 ≤ N) (q0 : w.cell? ⟨g, 0, none⟩ = some (.int .i64 N)) (q1 : w.cell? ⟨g, 1, none⟩ = some (.int .i64 24)) :
    Calls Try.prog 25 #[ptD d, .slice (some ⟨g, 0, none⟩) 1 1] w (SyPost w base d c (0, { s with plan := [(N, 24)], tries := 0 })) := by
  obtain ⟨fo, du, pe, pl, bv, h⟩ := h0
  have hdis := isDisk_yes w h
  have hglt := World.block_lt_of_cell? w _ q0
  have hal := (Below.refl w.heap.size w).alloc (Nat.le_refl _) (.cells #[.int .i64 N, .int .i64 24] 61)
  have p0 := (hal.cell (p := ⟨g, 0, none⟩) hglt).trans q0
  have p1 := (hal.cell (p := ⟨g, 1, none⟩) hglt).trans q1
  have hcl := cloneF_one (w.alloc (.cells #[.int .i64 N, .int .i64 24] 61)) g N 24 p0 p1
  have HCL := Lib.hid hcl
  have HD := Lib.hid (h.below hal)
  have HS := Lib.hid (Stp.below c hal h.base_le)
  have hd1 : decide (N ≤ 0) = false := by simp; omega
  unfold ptD at *
  have HDIS := Lib.hid hdis
  clear h hdis hcl hal p0 p1 hN
  go_enter Try.func25, Try.ntmps25
  go_wp2_with fail
  refine HDIS.out.mono ?_
  rintro e w1 ⟨rfl, rfl⟩
  go_wp2_with fail
  refine wp_loop_rounds 2 ?_
  rw [rounds_succ]
  go_wp2_with fail
  rw [rounds_succ]
  go_wp2_with fail
  refine HCL.out.mono ?_
  rintro e w2 ⟨b, cap, rfl, hc1, hb0, hb1, e0, e1, hb2⟩
  have hD2 := HD.out.below hb2
  obtain ⟨-, -, -, -, -, z5, -⟩ := hD2.cell
  have f5 := hD2.frz 5
  obtain ⟨c5, h5, s5⟩ := HD.out.setPlanNew b cap N 24 hc1 hb0 hb1 e0 e1 hb2
  obtain ⟨-, -, -, -, -, -, z6, -⟩ := h5.cell
  have f6 := h5.frz 6
  obtain ⟨-, -, -, -, -, -, z6', -⟩ := hD2.cell
  have f6' := hD2.frz 6
  have HP : Hid (SyPost w1 base d c (0, { s with plan := [(N, 24)], tries := 0 }) (.returned (.int .i64 0)) ((w2.setCell ⟨d, 5, none⟩ (.slice (some ⟨b, 0, none⟩) 1 cap)).setCell ⟨d, 6, none⟩ (.int .i64 0))) := Lib.hid ⟨rfl, c5, ⟨_, _, _, _, _, h5.setTries 0⟩, (HS.out.trans s5).trans (Stp.set h5 d 6 (by rw [h5.cd]; decide) (.int .i64 0))⟩
  obtain ⟨pa, pc, hplv, -⟩ : ∃ pa pc, pl = .slice pa s.plan.length pc ∧ True := by obtain ⟨a, cap, e, _⟩ := HD.out.plan; exact ⟨a, cap, e, trivial⟩
  rw [hplv] at z5
  clear h5 s5 hD2 hb2 e0 e1 HCL
  go_wp2_with fail
  go_ret
  exact HP.out
end
end Go.Proofs.Ytaeiijncklmfdaa
