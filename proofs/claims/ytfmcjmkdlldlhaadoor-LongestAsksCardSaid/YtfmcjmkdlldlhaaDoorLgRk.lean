/-
  The inner loop of galleyref08.Search.Ends.
-/
import Derived.Test.YtfmcjmkdlldlhaaDoorLgReL
namespace Go.Proofs.YtfmcjmkdlldlhaaDoor
open Go.RowKit

theorem mem_take_succ {l : List Nat} {k : Nat} (hk : k < l.length) (y : Nat) : y ∈ l.take (k + 1) ↔ y ∈ l.take k ∨ y = l[k] := by
  rw [List.take_succ_eq_append_getElem hk, List.mem_append, List.mem_singleton]
/-- The inner loop: out is told of up to k1, next of up to k2. -/
structure EI (W wr : World) (lo : Nat) (M : List Ins) (tx : List Int) (f p : Nat) (l2 : List Nat) (v2 : Value) (go gi k1 k2 : Nat) (nv : Value) (nl : List Nat) (O I : List Bool) : Prop where
  bel : Below W.heap.size W wr
  l2o : wr.ownsRow lo 3 1 v2 l2.length (cellsN l2)
  no : wr.ownsRow lo 3 1 nv nl.length (cellsN nl)
  ap : Apart nv v2
  ou : At wr go 4 (cellsB O)
  ol : O.length = tx.length + 1
  oq : ∀ q, O[q]?.getD false = true ↔ (q < p ∧ IsEnd M tx f q) ∨ (q = p ∧ ∃ x ∈ l2.take k1, isDone M x = true)
  ii : At wr gi 4 (cellsB I)
  il : I.length = M.length
  iq : ∀ j, I[j]?.getD false = true ↔ j ∈ nl
  mem : ∀ j, j ∈ nl ↔ ∃ x ∈ l2.take k2, j = x + 1 ∧ takesB M tx p x = true
  cnt : nl.length + I.countP (fun b => !b) = M.length
  gne : go ≠ gi ∧ W.heap.size ≤ go ∧ W.heap.size ≤ gi ∧ lo ≤ W.heap.size ∧ W.heap.size ≤ lo
section
variable {W wr w2 : World} {lo : Nat} {M : List Ins} {tx : List Int} {f p : Nat} {l2 : List Nat} {v2 : Value} {go gi k1 k2 : Nat} {nv nv' : Value} {nl : List Nat} {O I : List Bool}
theorem EI.done_no (h : EI W wr lo M tx f p l2 v2 go gi k1 k2 nv nl O I) (hk : k1 < l2.length) (hd : isDone M l2[k1] = false) : EI W wr lo M tx f p l2 v2 go gi (k1 + 1) k2 nv nl O I :=
  { h with
    oq := fun q => by
      rw [h.oq q]
      refine or_congr Iff.rfl (and_congr Iff.rfl ⟨fun ⟨x, h1, h2⟩ => ⟨x, (mem_take_succ hk x).2 (.inl h1), h2⟩, fun ⟨x, h1, h2⟩ => ?_⟩)
      rcases (mem_take_succ hk x).1 h1 with h3 | rfl
      · exact ⟨x, h3, h2⟩
      · rw [hd] at h2; cases h2 }
theorem EI.done_yes (h : EI W wr lo M tx f p l2 v2 go gi k1 k2 nv nl O I) (hk : k1 < l2.length) (hd : isDone M l2[k1] = true) (hp : p ≤ tx.length) : EI W (wr.setCell ⟨go, p, none⟩ (.bool true)) lo M tx f p l2 v2 go gi (k1 + 1) k2 nv nl (O.set p true) I :=
  { h with
    bel := h.bel.setCell (by exact h.gne.2.1) _
    l2o := own_set_at h.ou h.l2o (by decide)
    no := own_set_at h.ou h.no (by decide)
    ou := by have := h.ou.set p (.bool true); rwa [cellsB_set] at this
    ol := by rw [List.length_set, h.ol]
    oq := fun q => by
      rw [List.getElem?_set]
      by_cases e : p = q
      · subst e
        rw [if_pos rfl, if_pos (by rw [h.ol]; omega)]
        simp only [Option.getD_some, true_iff]
        exact .inr ⟨by first | rfl | trivial, _, (mem_take_succ hk _).2 (.inr rfl), hd⟩
      · rw [if_neg e, h.oq q]
        exact or_congr Iff.rfl ⟨fun h => absurd h.1.symm e, fun h => absurd h.1.symm e⟩
    ii := h.ii.keep (heap_setCell_other wr ⟨go, p, none⟩ gi _ fun e => h.gne.1 e.symm) }
theorem EI.tk_no (h : EI W wr lo M tx f p l2 v2 go gi k1 k2 nv nl O I) (hk : k2 < l2.length) (hd : takesB M tx p l2[k2] = false) : EI W wr lo M tx f p l2 v2 go gi k1 (k2 + 1) nv nl O I :=
  { h with
    mem := fun j => by
      rw [h.mem j]
      refine ⟨fun ⟨x, h1, h2⟩ => ⟨x, (mem_take_succ hk x).2 (.inl h1), h2⟩, fun ⟨x, h1, h2⟩ => ?_⟩
      rcases (mem_take_succ hk x).1 h1 with h3 | rfl
      · exact ⟨x, h3, h2⟩
      · rw [hd] at h2; cases h2.2 }
theorem EI.tk_in (h : EI W wr lo M tx f p l2 v2 go gi k1 k2 nv nl O I) (hk : k2 < l2.length) (hi : I[l2[k2] + 1]?.getD false = true) : EI W wr lo M tx f p l2 v2 go gi k1 (k2 + 1) nv nl O I :=
  { h with
    mem := fun j => by
      refine ⟨fun hj => ?_, fun ⟨x, h1, h2, h3⟩ => ?_⟩
      · obtain ⟨x, h1, h2⟩ := (h.mem j).1 hj
        exact ⟨x, (mem_take_succ hk x).2 (.inl h1), h2⟩
      · rcases (mem_take_succ hk x).1 h1 with h4 | rfl
        · exact (h.mem j).2 ⟨x, h4, h2, h3⟩
        · rw [h2]; exact (h.iq _).1 hi }
theorem EI.tk_new (h : EI W wr lo M tx f p l2 v2 go gi k1 k2 nv nl O I) (hk : k2 < l2.length) (hd : takesB M tx p l2[k2] = true) (hi : I[l2[k2] + 1]?.getD false = false) (hm : l2[k2] + 1 < M.length)
    (ho : w2.ownsRow lo 3 1 nv' (nl.length + 1) (cellsN nl ++ cellsN [l2[k2] + 1])) (ha : AppPost (wr.setCell ⟨gi, l2[k2] + 1, none⟩ (.bool true)) w2 lo nv nv') : EI W w2 lo M tx f p l2 v2 go gi k1 (k2 + 1) nv' (nl ++ [l2[k2] + 1]) O (I.set (l2[k2] + 1) true) := by
  have hno : (wr.setCell ⟨gi, l2[k2] + 1, none⟩ (.bool true)).ownsRow lo 3 1 nv nl.length (cellsN nl) := own_set_at h.ii h.no (by decide)
  have hl2 : (wr.setCell ⟨gi, l2[k2] + 1, none⟩ (.bool true)).ownsRow lo 3 1 v2 l2.length (cellsN l2) := own_set_at h.ii h.l2o (by decide)
  have hou : At (wr.setCell ⟨gi, l2[k2] + 1, none⟩ (.bool true)) go 4 (cellsB O) := h.ou.keep (heap_setCell_other wr ⟨gi, l2[k2] + 1, none⟩ go _ fun e => h.gne.1 e)
  have hii := h.ii.set (l2[k2] + 1) (.bool true)
  rw [cellsB_set] at hii
  have hkt : KeepT 4 (wr.setCell ⟨gi, l2[k2] + 1, none⟩ (.bool true)) w2 := app_keepT hno ha (by decide)
  have hoth := ha.other lo _ _ _ v2 _ hl2 h.ap
  refine { h with
    bel := ha.bel _ _ (h.bel.setCell (by exact h.gne.2.2.1) _) h.gne.2.2.2.2
    l2o := hoth.1
    no := ?_
    ap := hoth.2
    ou := (hkt _ _ hou).trans hou
    ii := (hkt _ _ hii).trans hii
    il := by rw [List.length_set, h.il]
    iq := fun j => ?_
    mem := fun j => ?_
    cnt := ?_ }
  · rw [List.length_append, cellsN_append]
    exact ho
  · rw [List.getElem?_set, List.mem_append, List.mem_singleton, ← h.iq j]
    by_cases e : l2[k2] + 1 = j
    · subst e
      rw [if_pos rfl, if_pos (by rw [h.il]; exact hm)]
      simp
    · rw [if_neg e]
      exact ⟨.inl, fun h => h.elim id fun h => absurd h.symm e⟩
  · rw [List.mem_append, List.mem_singleton, h.mem j]
    constructor
    · rintro (⟨x, h1, h2⟩ | rfl)
      · exact ⟨x, (mem_take_succ hk x).2 (.inl h1), h2⟩
      · exact ⟨_, (mem_take_succ hk _).2 (.inr rfl), rfl, hd⟩
    · rintro ⟨x, h1, h2, h3⟩
      rcases (mem_take_succ hk x).1 h1 with h4 | rfl
      · exact .inl ⟨x, h4, h2, h3⟩
      · exact .inr h2
  · have := countP_set I (l2[k2] + 1) (by rw [h.il]; exact hm) hi
    have := h.cnt
    rw [List.length_append, List.length_singleton]
    omega
theorem EI.below (h : EI W wr lo M tx f p l2 v2 go gi k1 k2 nv nl O I) (hb : Below wr.heap.size wr w2) : EI W w2 lo M tx f p l2 v2 go gi k1 k2 nv nl O I :=
  { h with
    bel := h.bel.trans (hb.mono h.bel.size)
    l2o := own_blk h.l2o fun k hk => hb.block k (World.ownsRow.lt h.l2o k hk).2
    no := own_blk h.no fun k hk => hb.block k (World.ownsRow.lt h.no k hk).2
    ou := h.ou.below hb
    ii := h.ii.below hb }
/-- The next place's list. -/
theorem EI.ents (h : EI W wr lo M tx f p l2 v2 go gi k1 l2.length nv nl O I) (hfp : f ≤ p) (hr : ∀ i, i ∈ l2 ↔ Run M tx f i p) (j : Nat) : j ∈ nl ↔ Ent M tx f j (p + 1) := by
  rw [h.mem j, List.take_length]
  constructor
  · rintro ⟨x, h1, h2, h3⟩
    exact .inr ⟨x, p, rfl, h2, (hr x).1 h1, h3⟩
  · rintro (⟨_, h2⟩ | ⟨x, p', h2, h3, h4, h5⟩)
    · omega
    · obtain rfl : p = p' := by omega
      exact ⟨x, (hr x).2 h4, h3, h5⟩
theorem EI.outs (h : EI W wr lo M tx f p l2 v2 go gi l2.length k2 nv nl O I) (hr : ∀ i, i ∈ l2 ↔ Run M tx f i p) (q : Nat) : O[q]?.getD false = true ↔ q < p + 1 ∧ IsEnd M tx f q := by
  rw [h.oq q, List.take_length]
  constructor
  · rintro (⟨h1, h2⟩ | ⟨rfl, x, h1, h2⟩)
    · exact ⟨by omega, h2⟩
    · exact ⟨by omega, x, (hr x).1 h1, h2⟩
  · rintro ⟨h1, h2⟩
    rcases Nat.lt_succ_iff_lt_or_eq.1 h1 with h3 | rfl
    · exact .inl ⟨h3, h2⟩
    · obtain ⟨x, h4, h5⟩ := h2
      exact .inr ⟨rfl, x, (hr x).2 h4, h5⟩
end
end Go.Proofs.YtfmcjmkdlldlhaaDoor
