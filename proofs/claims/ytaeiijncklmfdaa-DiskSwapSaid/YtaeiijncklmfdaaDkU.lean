/-
  Layer 3: a file's own cells, written.
-/
import Derived.Test.YtaeiijncklmfdaaDkO
namespace Go.Proofs.Ytaeiijncklmfdaa
open Go.RowKit

section
variable {w w1 : World} {base d : Nat} {s : DkS} {c : Nat → Nat} {fo du : Nat} {pe pl : Value} {bv : Nat → Value}
theorem DkAt.setFile (h : DkAt w base d s c fo du pe pl bv) (p : Nat) (hp : p ∈ s.ps) (x : FileS) (v' u : Value) (i : Nat) (hcell : (flCells (bv p) (s.file p)).setIfInBounds i u = flCells v' x)
    (ho : OwnB w1 base v' x.bytes) (hB : IsB x.bytes) (hlen : x.bytes.length ≤ 140737488351232) (hk : ∀ k, k < w.heap.size → (bv p).ownBlock ≠ some k → w1.heap[k]? = w.heap[k]?)
    (hs : w.heap.size ≤ w1.heap.size) (hn : ∀ k, v'.ownBlock = some k → (bv p).ownBlock = some k ∨ w.heap.size ≤ k) (hb : Below base w w1) :
    ∃ c' bv', DkAt (w1.setCell ⟨p, i, none⟩ u) base d { s with file := updF s.file p x } c' fo du pe pl bv' ∧ Stp w (w1.setCell ⟨p, i, none⟩ u) base c c' := by
  have hsz : (w1.setCell ⟨p, i, none⟩ u).heap.size = w1.heap.size := by simp
  have hpc := (h.file p hp).2
  have hcb : ∀ k, c k ≠ 7 + p → (bv p).ownBlock ≠ some k := fun k hk e => hk (h.cb p hp k e)
  have hk1 : ∀ k, k < w.heap.size → c k ≠ 7 + p → k ≠ p → (w1.setCell ⟨p, i, none⟩ u).heap[k]? = w.heap[k]? := fun k hlt h4 hd => (heap_setCell_other w1 ⟨p, i, none⟩ k _ hd).trans (hk k hlt (hcb k h4))
  have hk2 : ∀ k, c k ≠ 0 → c k ≠ 7 + p → c k ≠ 6 → (w1.setCell ⟨p, i, none⟩ u).heap[k]? = w.heap[k]? := fun k h0 h4 h1 => hk1 k (h.col h0) h4 fun e => h1 (by rw [e]; exact hpc)
  have hp1 : w1.heap[p]? = some (.cells (flCells (bv p) (s.file p)) 100 (0, 0)) := (hk p (h.plt hp) (hcb p (by rw [hpc]; omega))).trans (h.file p hp).1
  let c' : Nat → Nat := fun k => if k < w.heap.size then c k else if v'.ownBlock = some k then 7 + p else 0
  have hold : ∀ k, k < w.heap.size → c' k = c k := fun k hlt => by show (if k < w.heap.size then c k else _) = _; rw [if_pos hlt]
  have hol : ∀ k, c k ≠ 0 → c' k = c k := fun k h0 => hold k (h.col h0)
  let bv' : Nat → Value := fun q => if q = p then v' else bv q
  have hbp : bv' p = v' := if_pos rfl
  have hbq : ∀ q, q ≠ p → bv' q = bv q := fun q e => if_neg e
  have hfp : updF s.file p x p = x := if_pos rfl
  have hfq : ∀ q, q ≠ p → updF s.file p x q = s.file q := fun q e => if_neg e
  refine ⟨c', bv', ?_, ⟨fun k hlt h0 => hk1 k hlt (by rw [h0]; omega) (fun e => by rw [e, hpc] at h0; cases h0), hold, hb.setCell (h.low p (by rw [hpc]; decide)) _, h.base_le⟩⟩
  exact {
    disk := (hk2 d (by rw [h.cd]; decide) (by rw [h.cd]; omega) (by rw [h.cd]; decide)).trans h.disk
    cd := (hol d (by rw [h.cd]; decide)).trans h.cd
    fold := h.fold.keep (hk2 fo (by rw [h.cf]; decide) (by rw [h.cf]; omega) (by rw [h.cf]; decide))
    cf := (hol fo (by rw [h.cf]; decide)).trans h.cf
    dur := h.dur.keep (hk2 du (by rw [h.cu]; decide) (by rw [h.cu]; omega) (by rw [h.cu]; decide))
    cu := (hol du (by rw [h.cu]; decide)).trans h.cu
    pend := own_blk h.pend fun k e => hk2 k (by rw [h.cp k e]; decide) (by rw [h.cp k e]; omega) (by rw [h.cp k e]; decide)
    cp := fun k e => (hol k (by rw [h.cp k e]; decide)).trans (h.cp k e)
    plan := h.plan.keep (by rw [hsz]; exact hs) fun g hg _ => ⟨hk2 g (by rw [hg]; decide) (by rw [hg]; omega) (by rw [hg]; decide), (hol g (by rw [hg]; decide)).trans hg⟩
    file := fun q hq => by
      by_cases e : q = p
      · subst e
        show (w1.setCell ⟨q, i, none⟩ u).heap[q]? = some (.cells (flCells (bv' q) (updF s.file q x q)) _ _) ∧ _
        rw [hbp, hfp]
        exact ⟨by rw [heap_setCell_same w1 q i _ _ _ hp1, hcell], (hol q (by rw [hpc]; decide)).trans hpc⟩
      · show (w1.setCell ⟨p, i, none⟩ u).heap[q]? = some (.cells (flCells (bv' q) (updF s.file p x q)) _ _) ∧ _
        rw [hbq q e, hfq q e]
        have h6 := (h.file q hq).2
        exact ⟨(hk1 q (h.plt hq) (by rw [h6]; omega) e).trans (h.file q hq).1, (hol q (by rw [h6]; decide)).trans h6⟩
    byt := fun q hq => by
      by_cases e : q = p
      · subst e
        show OwnB _ _ (bv' q) (updF s.file q x q).bytes ∧ IsB (updF s.file q x q).bytes ∧ (updF s.file q x q).bytes.length ≤ _
        rw [hbp, hfp]
        refine ⟨own_blk ho fun k e1 => heap_setCell_other w1 ⟨q, i, none⟩ k _ fun e2 => ?_, hB, hlen⟩
        simp only at e2
        subst e2
        rcases hn k e1 with e3 | e3
        · have := h.cb k hq k e3; rw [hpc] at this; omega
        · have := h.plt hq; omega
      · show OwnB _ _ (bv' q) (updF s.file p x q).bytes ∧ IsB (updF s.file p x q).bytes ∧ (updF s.file p x q).bytes.length ≤ _
        rw [hbq q e, hfq q e]
        exact ⟨own_blk (h.byt q hq).1 fun k e1 => by
          have h7 := h.cb q hq k e1
          exact hk2 k (by rw [h7]; omega) (by rw [h7]; omega) (by rw [h7]; omega), (h.byt q hq).2⟩
    cb := fun q hq k e1 => by
      by_cases e : q = p
      · subst e
        rw [hbp] at e1
        rcases hn k e1 with e3 | e3
        · exact (hol k (by rw [h.cb q hq k e3]; omega)).trans (h.cb q hq k e3)
        · show (if k < w.heap.size then c k else if v'.ownBlock = some k then 7 + q else 0) = 7 + q
          rw [if_neg (by omega), if_pos e1]
      · rw [hbq q e] at e1
        exact (hol k (by rw [h.cb q hq k e1]; omega)).trans (h.cb q hq k e1)
    fin := h.fin
    din := h.din
    pin := h.pin
    high := fun b hb2 => by
      rw [hsz] at hb2
      show (if b < w.heap.size then c b else if v'.ownBlock = some b then 7 + p else 0) = 0
      rw [if_neg (by omega), if_neg (fun e => by have := (World.ownsRow.lt ho b e).2; omega)]
    low := fun b hb2 => by
      by_cases hlt : b < w.heap.size
      · rw [hold b hlt] at hb2; exact h.low b hb2
      · have := h.base_le; omega
    base_le := by rw [hsz]; exact Nat.le_trans h.base_le hs }
theorem DkAt.fcell (h : DkAt w base d s c fo du pe pl bv) {p : Nat} (hp : p ∈ s.ps) : w.cell? ⟨p, 0, none⟩ = some (bv p) ∧ w.cell? ⟨p, 1, none⟩ = some (.int .i64 (s.file p).synced) ∧ w.cell? ⟨p, 2, none⟩ = some (.bool (s.file p).bad) ∧ ∀ i, w.frozen? ⟨p, i, none⟩ = false := by
  have := fun i => cell_of_row w p i _ _ _ (h.file p hp).1
  refine ⟨?_, ?_, ?_, fun i => frozen_of_row w p i _ _ (h.file p hp).1⟩ <;> (rw [this]; rfl)
theorem getK_mem : ∀ {L : List (ByteArray × Nat)} {k : ByteArray} {p : Nat}, getK L k = some p → ∃ x ∈ L, x.2 = p
  | [], k, p, h => by simp [getK] at h
  | x :: L, k, p, h => by
    unfold getK at h
    split at h
    · simp at h; exact ⟨x, List.mem_cons_self, h⟩
    · obtain ⟨y, hy, e⟩ := getK_mem h
      exact ⟨y, List.mem_cons_of_mem _ hy, e⟩
theorem find_ps (h : DkAt w base d s c fo du pe pl bv) {l : List ByteArray} {k : ByteArray} {p : Nat} {X : Int} (hf : findM s l k = (some p, X)) : p ∈ s.ps ∧ X = 0 := by
  unfold findM at hf
  split at hf
  · cases hf
  · split at hf
    · cases hf
    · next q hq =>
      simp only [Prod.mk.injEq, Option.some.injEq] at hf
      obtain ⟨rfl, rfl⟩ := hf
      obtain ⟨x, hx, rfl⟩ := getK_mem hq
      exact ⟨h.fin x hx, rfl⟩
theorem find_none {l : List ByteArray} {k : ByteArray} {X : Int} (hf : findM s l k = (none, X)) : X ≠ 0 := by
  unfold findM at hf
  split at hf
  · next h => simp only [Prod.mk.injEq] at hf; rw [← hf.2]; exact h
  · split at hf
    · simp only [Prod.mk.injEq] at hf; rw [← hf.2]; decide
    · cases hf
end
/-- A list that is read stands where the disk's blocks alone were written. -/
def Far (c : Nat → Nat) (a : Option Addr) : Prop := ∀ b, a = some b → c b.block = 0
theorem SB.stp {w w' : World} {base : Nat} {c c' : Nat → Nat} {a : Option Addr} {n cc : Nat} {l : List Int} (h : SB w (.slice a n cc) l) (hf : Far c a) (hs : Stp w w' base c c') : SB w' (.slice a n cc) l := by
  obtain ⟨hB, a', c0, he, hl, hr⟩ := h
  refine ⟨hB, a', c0, he, hl, ?_⟩
  rcases hr with hr | ⟨b, o, ha, hc⟩
  · exact .inl hr
  · refine .inr ⟨b, o, ha, fun i hi => ?_⟩
    have e : a = a' := by simp only [Value.slice.injEq] at he; exact he.1
    have hz : c b = 0 := hf ⟨b, o, none⟩ (by rw [e, ha])
    rw [cell_heap (hs.keep b (World.block_lt_of_cell? w _ (hc i hi)) hz)]
    exact hc i hi
end Go.Proofs.Ytaeiijncklmfdaa
