/-
  Layer 3: what a call lays anew for a disk: the folder, the pending changes, a file, its bytes.
-/
import Derived.Test.YtaeiijncklmfdaaDkG
import Derived.Test.YtaeiijncklmfdaaStepA
namespace Go.Proofs.Ytaeiijncklmfdaa
open Go.RowKit

section
variable {w w' w1 : World} {base d : Nat} {s : DkS} {c : Nat → Nat} {fo du : Nat} {pe pl : Value} {bv : Nat → Value}
theorem DkAt.setFolder (h : DkAt w base d s c fo du pe pl bv) (L : List (ByteArray × Nat)) (hm : MapAt w1 fo L) (hu : Up w w1 base (· = fo) (· = fo)) (hin : ∀ x ∈ L, x.2 ∈ s.ps) :
    DkAt w1 base d { s with folder := L } c fo du pe pl bv ∧ Stp w w1 base c c := by
  have hk : ∀ k, c k ≠ 0 → c k ≠ 2 → w1.heap[k]? = w.heap[k]? := fun k h0 hk => hu.keep k (h.col h0) fun e => hk (by rw [e]; exact h.cf)
  refine ⟨?_, ⟨fun k hk h0 => hu.keep k hk fun e => (by rw [e, h.cf] at h0; cases h0), fun _ _ => rfl, hu.bel base w ((Below.refl _ w).mono h.base_le) (Nat.le_refl _), h.base_le⟩⟩
  exact { h with
    disk := (hk d (by rw [h.cd]; decide) (by rw [h.cd]; decide)).trans h.disk
    fold := hm
    dur := h.dur.keep (hk du (by rw [h.cu]; decide) (by rw [h.cu]; decide))
    pend := own_blk h.pend fun k e => hk k (by rw [h.cp k e]; decide) (by rw [h.cp k e]; decide)
    plan := h.plan.keep hu.size fun g hg _ => ⟨hk g (by rw [hg]; decide) (by rw [hg]; decide), hg⟩
    file := fun p hp => ⟨(hk p (by rw [(h.file p hp).2]; decide) (by rw [(h.file p hp).2]; decide)).trans (h.file p hp).1, (h.file p hp).2⟩
    byt := fun p hp => ⟨own_blk (h.byt p hp).1 fun k e => hk k (by rw [h.cb p hp k e]; omega) (by rw [h.cb p hp k e]; omega), (h.byt p hp).2⟩
    fin := hin
    high := fun b hb => h.high b (Nat.le_trans hu.size hb)
    base_le := Nat.le_trans h.base_le hu.size }
theorem mem_put {k : ByteArray} {p : Nat} : ∀ {L : List (ByteArray × Nat)} {y : ByteArray × Nat}, y ∈ putK L k p → y ∈ L ∨ y.2 = p
  | [], y, h => by
    simp [putK] at h
    exact .inr (by rw [h])
  | x :: L, y, h => by
    unfold putK at h
    split at h
    · rcases List.mem_cons.1 h with e | h
      · exact .inr (by rw [e])
      · exact .inl (List.mem_cons_of_mem _ h)
    · rcases List.mem_cons.1 h with e | h
      · exact .inl (by rw [e]; exact List.mem_cons_self)
      · rcases mem_put h with h | h
        · exact .inl (List.mem_cons_of_mem _ h)
        · exact .inr h
theorem mem_del {k : ByteArray} : ∀ {L : List (ByteArray × Nat)} {y : ByteArray × Nat}, y ∈ delK L k → y ∈ L
  | [], y, h => by simp [delK] at h
  | x :: L, y, h => by
    unfold delK at h
    split at h
    · exact List.mem_cons_of_mem _ h
    · rcases List.mem_cons.1 h with e | h
      · rw [e]; exact List.mem_cons_self
      · exact List.mem_cons_of_mem _ (mem_del h)
theorem mem_apply {L : List (ByteArray × Nat)} {x : ChS} (hx : x.to ≠ ByteArray.empty → x.file ≠ none) {y : ByteArray × Nat} (h : y ∈ applyM L x) : y ∈ L ∨ x.file = some y.2 := by
  unfold applyM at h
  dsimp only at h
  have h1 : ∀ y, y ∈ (if (x.gone == ByteArray.empty) = true then L else delK L x.gone) → y ∈ L := fun y hy => by
    split at hy
    · exact hy
    · exact mem_del hy
  by_cases hn : (x.to == ByteArray.empty) = true
  · rw [if_pos hn] at h
    exact .inl (h1 y h)
  · rw [if_neg hn] at h
    have hne : x.to ≠ ByteArray.empty := fun e => hn ((MapKept.bytes_beq _ _).2 e)
    rcases mem_put h with h | h
    · exact .inl (h1 y h)
    · right
      cases hf : x.file with
      | none => exact absurd hf (hx hne)
      | some p => rw [hf] at h; rw [h]; rfl

/-- The pending changes, laid anew. -/
theorem DkAt.setPend (h : DkAt w base d s c fo du pe pl bv) (pe' : Value) (l : List ChS) (ho : w1.ownsRow base 108 3 pe' l.length (l.flatMap chCells)) (hk : ∀ k, k < w.heap.size → pe.ownBlock ≠ some k → w1.heap[k]? = w.heap[k]?)
    (hs : w.heap.size ≤ w1.heap.size) (hn : ∀ k, pe'.ownBlock = some k → pe.ownBlock = some k ∨ w.heap.size ≤ k) (hb : Below base w w1) (hin : ∀ x ∈ l, ∀ p, x.file = some p → p ∈ s.ps) :
    ∃ c', DkAt (w1.setCell ⟨d, 4, none⟩ pe') base d { s with pending := l } c' fo du pe' pl bv ∧ Stp w (w1.setCell ⟨d, 4, none⟩ pe') base c c' := by
  have hsz : (w1.setCell ⟨d, 4, none⟩ pe').heap.size = w1.heap.size := by simp
  have hcp : ∀ k, c k ≠ 4 → pe.ownBlock ≠ some k := fun k hk e => hk (h.cp k e)
  have hk1 : ∀ k, k < w.heap.size → c k ≠ 4 → k ≠ d → (w1.setCell ⟨d, 4, none⟩ pe').heap[k]? = w.heap[k]? := fun k hlt h4 hd => (heap_setCell_other w1 ⟨d, 4, none⟩ k _ hd).trans (hk k hlt (hcp k h4))
  have hk2 : ∀ k, c k ≠ 0 → c k ≠ 4 → c k ≠ 1 → (w1.setCell ⟨d, 4, none⟩ pe').heap[k]? = w.heap[k]? := fun k h0 h4 h1 => hk1 k (h.col h0) h4 fun e => h1 (by rw [e]; exact h.cd)
  have hd1 : w1.heap[d]? = some (.cells (dkCells s fo du pe pl) 71 (0, 0)) := (hk d h.dlt (hcp d (by rw [h.cd]; decide))).trans h.disk
  let c' : Nat → Nat := fun k => if k < w.heap.size then c k else if pe'.ownBlock = some k then 4 else 0
  have hold : ∀ k, k < w.heap.size → c' k = c k := fun k hlt => by show (if k < w.heap.size then c k else _) = _; rw [if_pos hlt]
  have hol : ∀ k, c k ≠ 0 → c' k = c k := fun k h0 => hold k (h.col h0)
  refine ⟨c', ?_, ⟨fun k hlt h0 => hk1 k hlt (by rw [h0]; decide) (fun e => by rw [e, h.cd] at h0; cases h0), hold, hb.setCell (h.low d (by rw [h.cd]; decide)) _, h.base_le⟩⟩
  exact { 
    disk := by rw [heap_setCell_same w1 d 4 _ _ _ hd1]; rfl
    cd := (hol d (by rw [h.cd]; decide)).trans h.cd
    fold := h.fold.keep (hk2 fo (by rw [h.cf]; decide) (by rw [h.cf]; decide) (by rw [h.cf]; decide))
    cf := (hol fo (by rw [h.cf]; decide)).trans h.cf
    dur := h.dur.keep (hk2 du (by rw [h.cu]; decide) (by rw [h.cu]; decide) (by rw [h.cu]; decide))
    cu := (hol du (by rw [h.cu]; decide)).trans h.cu
    pend := own_blk ho fun k e => heap_setCell_other w1 ⟨d, 4, none⟩ k _ fun e2 => by
      simp only at e2
      subst e2
      rcases hn k e with e3 | e3
      · have := h.cp k e3; rw [h.cd] at this; cases this
      · have := h.dlt; omega
    cp := fun k e => by
      rcases hn k e with e3 | e3
      · rw [hol k (by rw [h.cp k e3]; decide)]; exact h.cp k e3
      · show (if k < w.heap.size then c k else if pe'.ownBlock = some k then 4 else 0) = 4
        rw [if_neg (by omega), if_pos e]
    plan := h.plan.keep (by rw [hsz]; exact hs) fun g hg _ => ⟨hk2 g (by rw [hg]; decide) (by rw [hg]; decide) (by rw [hg]; decide), (hol g (by rw [hg]; decide)).trans hg⟩
    file := fun p hp => by
      have h6 := (h.file p hp).2
      exact ⟨(hk2 p (by rw [h6]; decide) (by rw [h6]; decide) (by rw [h6]; decide)).trans (h.file p hp).1, (hol p (by rw [h6]; decide)).trans h6⟩
    byt := fun p hp => ⟨own_blk (h.byt p hp).1 fun k e => hk2 k (by rw [h.cb p hp k e]; omega) (by rw [h.cb p hp k e]; omega) (by rw [h.cb p hp k e]; omega), (h.byt p hp).2⟩
    cb := fun p hp k e => (hol k (by rw [h.cb p hp k e]; omega)).trans (h.cb p hp k e)
    fin := h.fin
    din := h.din
    pin := hin
    high := fun b hb2 => by
      rw [hsz] at hb2
      show (if b < w.heap.size then c b else if pe'.ownBlock = some b then 4 else 0) = 0
      rw [if_neg (by omega), if_neg (fun e => by have := (World.ownsRow.lt ho b e).2; omega)]
    low := fun b hb2 => by
      by_cases hlt : b < w.heap.size
      · rw [hold b hlt] at hb2; exact h.low b hb2
      · have := h.base_le; omega
    base_le := by rw [hsz]; exact Nat.le_trans h.base_le hs }
end
end Go.Proofs.Ytaeiijncklmfdaa
