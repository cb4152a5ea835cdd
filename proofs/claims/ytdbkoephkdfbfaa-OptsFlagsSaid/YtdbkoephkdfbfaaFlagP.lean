/-
  What OptsFlags does behind its loop: the line's words, their sizes; the box at the end.
-/
import Derived.Test.YtdbkoephkdfbfaaFlagO
namespace Go.Proofs.Ytdbkoephkdfbfaa
open Go.RowKit

theorem step_sz (M : Nat) (s : FState) (k : Nat) (t : Str) (b : Bool) (ha : ∀ x ∈ s.args, x.size ≤ M) (ht : s.w.length + 2 + t.size ≤ M) : ∀ x ∈ (stepF s k t b).args, x.size ≤ M := by
  have hw1 : (if s.w = [] then [45] else s.w : List UInt8).length ≤ s.w.length + 1 := by split <;> simp
  have ht2 : t.data.toList.length = t.size := by rw [Array.length_toList]; rfl
  unfold stepF
  simp only
  split
  · split
    · exact ha
    · intro x hx
      rcases List.mem_append.1 hx with hx | hx
      · exact ha x hx
      · rw [List.mem_singleton.1 hx, str_size, List.length_append, List.length_singleton]; omega
  · split
    · intro x hx
      rcases List.mem_append.1 hx with hx | hx
      · exact ha x hx
      · rw [List.mem_singleton.1 hx, str_size, List.length_append, List.length_cons, ht2]; omega
    · intro x hx
      rcases List.mem_append.1 hx with hx | hx
      · exact ha x hx
      · simp only [List.mem_cons, List.not_mem_nil, or_false] at hx
        rcases hx with rfl | rfl
        · rw [str_size, List.length_append, List.length_singleton]; omega
        · omega
def lineD (s : FState) (da : Bool) : List Str := if da then lineF s ++ [str [45, 45]] else lineF s
theorem lineF_le (s : FState) : (lineF s).length ≤ s.args.length + 1 := by unfold lineF; split <;> simp
theorem lineD_le (s : FState) (da : Bool) : (lineD s da).length ≤ s.args.length + 2 := by
  have := lineF_le s
  unfold lineD
  split
  · rw [List.length_append, List.length_singleton]; omega
  · omega
theorem lineD_sz (M : Nat) (s : FState) (da : Bool) (hM : 2 ≤ M) (ha : ∀ x ∈ s.args, x.size ≤ M) (hw : s.w.length ≤ M) : ∀ x ∈ lineD s da, x.size ≤ M := by
  have h1 : ∀ x ∈ lineF s, x.size ≤ M := by
    unfold lineF
    split
    · exact ha
    · intro x hx
      rcases List.mem_append.1 hx with hx | hx
      · exact ha x hx
      · rw [List.mem_singleton.1 hx, str_size]; exact hw
  unfold lineD
  split
  · intro x hx
    rcases List.mem_append.1 hx with hx | hx
    · exact h1 x hx
    · rw [List.mem_singleton.1 hx, str_size]; exact hM
  · exact h1
theorem line_all {s : FState} (h : InvF s) (da : Bool) (l : List Str) (hl : l ≠ []) (hx : da = false → isOpt (l[0]?.getD ByteArray.empty) = false) : parF (lineD s da ++ l) opt0 = finish l s.want := by
  cases da with
  | true => exact line_end h l
  | false =>
    obtain ⟨x, r, rfl⟩ : ∃ x r, l = x :: r := by cases l with | nil => exact absurd rfl hl | cons x r => exact ⟨x, r, rfl⟩
    exact line_plain h x r (hx rfl)
/-- The options that the law wants. -/
def wantF (o : Opt) (l : List Str) : Opt := if o.parts = [] then { o with parts := [(false, l[0]?.getD ByteArray.empty)], files := l.drop 1 } else { o with files := l }
theorem fin_want (o : Opt) (l : List Str) (hl : l ≠ []) : finish l o = (wantF o l, 0, ByteArray.empty) := by
  obtain ⟨x, r, rfl⟩ : ∃ x r, l = x :: r := by cases l with | nil => exact absurd rfl hl | cons x r => exact ⟨x, r, rfl⟩
  unfold wantF
  by_cases h : o.parts = []
  · rw [if_pos h, fin_one x r o h]; rfl
  · rw [if_neg h, fin_many _ o h]
theorem ts_tail {w : World} {b o n c : Nat} {l : List Str} (h : TS w (.slice (some ⟨b, o, none⟩) n c) l) (h0 : 0 < n) (o' : Nat) (ho : o' = o + 1 ∨ n = 1) : TS w (.slice (some ⟨b, o', none⟩) (n - 1) (c - 1)) (l.drop 1) := by
  obtain ⟨hl, h1, h2, -⟩ := h.len
  obtain ⟨b', off, ha, hr⟩ := h.read 0 h0
  simp only [Option.some.injEq, Addr.mk.injEq, and_true] at ha
  obtain ⟨rfl, rfl⟩ := ha
  refine ⟨_, _, by rw [List.length_drop, hl], by rw [List.length_drop, hl]; omega, by rw [List.length_drop, hl]; omega, (fun e => by cases e), ?_⟩
  by_cases hn : n = 1
  · left
    apply List.eq_nil_of_length_eq_zero
    rw [List.length_drop, hl]; omega
  · right
    refine ⟨b, o', rfl, fun i hi => ?_⟩
    rw [List.length_drop, hl] at hi
    have := hr (i + 1) (by omega)
    rw [List.getElem?_drop, show 1 + i = i + 1 by omega]
    rw [show o' + i = o + (i + 1) by omega]
    exact this
section
variable {w wr w' : World} {b8 : Nat} {o : Opt} {pv av : Value} {l : List Str}
theorem FO.below (h : FO w wr b8 o pv av l) (hb : Below wr.heap.size wr w') : FO w w' b8 o pv av l :=
  ⟨below_to h.bel hb, h.hb, Nat.le_trans h.sz hb.size, box_below h.box hb, own_belowT h.own hb, own_belowT h.owa hb⟩
theorem FO.one (h : FO w wr b8 o pv av l) (x : Str) : FO w ((wr.alloc (.cells #[.bool false, .string x] 38)).setCell ⟨b8, 4, none⟩ (.slice (some ⟨wr.heap.size, 0, none⟩) 1 1)) b8 { o with parts := [(false, x)] } (.slice (some ⟨wr.heap.size, 0, none⟩) 1 1) av l ∧
    (wr.alloc (.cells #[.bool false, .string x] 38)).cell? ⟨b8, 4, none⟩ = some pv ∧ (wr.alloc (.cells #[.bool false, .string x] 38)).frozen? ⟨b8, 4, none⟩ = false := by
  have h2 := h.below ((Below.refl wr.heap.size wr).alloc (Nat.le_refl _) (.cells #[.bool false, .string x] 38))
  refine ⟨⟨h2.bel.setCell h.hb _, h.hb, by have := h.sz; simp [World.setCell]; omega, ?_, ?_, ?_⟩, by rw [h2.cell]; rfl, h2.frozen 4⟩
  · rw [heap_setCell_same _ b8 4 _ TOpt _ h2.box]; rfl
  · refine ownsRow_setCell_below ?_ (a := ⟨b8, 4, none⟩) (by simp) _
    exact ⟨rfl, .inr ⟨wr.heap.size, 1, _, rfl, h.sz, heap_alloc_new wr _, Nat.le_refl _, by unfold maxLen; omega, rfl, rfl⟩⟩
  · exact ownsRow_setCell_below h2.owa (a := ⟨b8, 4, none⟩) (by simp) _
theorem FO.fin (h : FO w wr b8 o pv av l) (fv : Value) : Below w.heap.size w (wr.setCell ⟨b8, 5, none⟩ fv) ∧ (wr.setCell ⟨b8, 5, none⟩ fv).heap[b8]? = some (.cells (fullO o pv fv) TOpt (0, 0)) ∧ OwnPt (wr.setCell ⟨b8, 5, none⟩ fv) (b8 + 1) pv o.parts ∧ OwnT (wr.setCell ⟨b8, 5, none⟩ fv) (b8 + 1) av l := by
  refine ⟨h.bel.setCell h.hb _, ?_, ownsRow_setCell_below h.own (a := ⟨b8, 5, none⟩) (by simp) _, ownsRow_setCell_below h.owa (a := ⟨b8, 5, none⟩) (by simp) _⟩
  rw [heap_setCell_same wr b8 5 _ TOpt fv h.box]; rfl
end
end Go.Proofs.Ytdbkoephkdfbfaa
