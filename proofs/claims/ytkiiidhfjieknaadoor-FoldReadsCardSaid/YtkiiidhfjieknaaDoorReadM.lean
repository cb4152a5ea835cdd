/-
  Reading what l shows by definition: plain mathematics.
-/
import Derived.Test.YtkiiidhfjieknaaDoorFoldM
namespace Go.Proofs.YtkiiidhfjieknaaDoor

/-- The least byte whose piece stands at the head of p. -/
def readAt (p : List Int) : Option Nat := (List.range 256).find? fun (c : Nat) => (pieceL (c : Int)).isPrefixOf p
theorem read_none {p : List Int} (h : ∀ c : Nat, c < 256 → (pieceL (c : Int)).isPrefixOf p = false) : readAt p = none := by
  unfold readAt
  rw [List.find?_eq_none]
  intro c hc
  rw [h c (List.mem_range.1 hc)]
  simp
theorem read_some {p : List Int} {c : Nat} (hc : c < 256) (h : (pieceL (c : Int)).isPrefixOf p = true) (hl : ∀ j : Nat, j < c → (pieceL (j : Int)).isPrefixOf p = false) : readAt p = some c := by
  unfold readAt
  rw [List.find?_range_eq_some]
  refine ⟨h, List.mem_range.2 hc, fun j hj => ?_⟩
  rw [hl j hj]; rfl
theorem read_is {p : List Int} {c : Nat} (h : readAt p = some c) : c < 256 ∧ ∃ t, p = pieceL (c : Int) ++ t := by
  unfold readAt at h
  have h1 := List.mem_of_find?_eq_some h
  have h2 := List.find?_some h
  obtain ⟨t, ht⟩ := List.isPrefixOf_iff_prefix.1 h2
  exact ⟨List.mem_range.1 h1, t, ht.symm⟩
theorem read_piece (b : Nat) (hb : b < 256) (t : List Int) : readAt (pieceL (b : Int) ++ t) = some b := by
  refine read_some hb (List.isPrefixOf_iff_prefix.2 (List.prefix_append _ _)) fun j hj => ?_
  cases h : (pieceL (j : Int)).isPrefixOf (pieceL (b : Int) ++ t) with
  | false => rfl
  | true =>
    obtain ⟨u, hu⟩ := List.isPrefixOf_iff_prefix.1 h
    have h1 := first_piece (j : Int) (by omega) (by omega) u
    have h2 := first_piece (b : Int) (by omega) (by omega) t
    rw [hu, h2] at h1
    simp only [Prod.mk.injEq] at h1
    omega
/-- A text is cut short by a piece that is too long. -/
theorem pre_short {p q : List Int} (h : q.length < p.length) : p.isPrefixOf q = false := by
  cases e : p.isPrefixOf q with
  | false => rfl
  | true => have := (List.isPrefixOf_iff_prefix.1 e).length_le; omega
theorem pre_take (p q : List Int) (h : p.length ≤ q.length) : p.isPrefixOf q = decide (q.take p.length = p) := by
  cases e : p.isPrefixOf q with
  | true =>
    obtain ⟨t, rfl⟩ := List.isPrefixOf_iff_prefix.1 e
    simp
  | false =>
    symm
    apply decide_eq_false
    intro h2
    have : p <+: q := ⟨q.drop p.length, by have := List.take_append_drop p.length q; rw [h2] at this; exact this⟩
    rw [List.isPrefixOf_iff_prefix.2 this] at e
    cases e

/-! ### Rows as breaks and pieces -/
def tok (t : Bool × Int) : List Int := (if t.1 then [92, 10] else []) ++ pieceL t.2
def toks (T : List (Bool × Int)) : List Int := T.flatMap tok
theorem toks_cons (t : Bool × Int) (T : List (Bool × Int)) : toks (t :: T) = tok t ++ toks T := rfl
theorem toks_snoc (T : List (Bool × Int)) (t : Bool × Int) : toks (T ++ [t]) = toks T ++ tok t := by unfold toks; rw [List.flatMap_append]; simp
theorem render_toks (W : Nat) (hW : 4 ≤ W) (x : List Int) : ∃ T, render (rowsR W x) = toks T ∧ T.map (·.2) = x ∧ ∀ t ∈ T.head?, t.1 = false := by
  induction x using list_snoc with
  | h0 => exact ⟨[], rfl, rfl, fun t ht => by simp at ht⟩
  | h1 l b ih =>
    obtain ⟨T, h1, h2, h3⟩ := ih
    have hp := piece_len b
    by_cases hc : W < (rowsR W l).2.length + (pieceL b).length
    · refine ⟨T ++ [(true, b)], ?_, by simp [h2], fun t ht => ?_⟩
      · rw [rowsR_snoc]
        unfold stepR
        rw [if_pos hc, render_new, toks_snoc, h1]
        simp [tok]
      · cases T with
        | nil =>
          have e : l = [] := by simpa using h2.symm
          subst e
          have e0 : (rowsR W ([] : List Int)).2.length = 0 := rfl
          omega
        | cons y U => exact h3 t (by simpa using ht)
    · refine ⟨T ++ [(false, b)], ?_, by simp [h2], fun t ht => ?_⟩
      · rw [rowsR_snoc]
        unfold stepR
        rw [if_neg hc, render_more, toks_snoc, h1]
        simp [tok]
      · cases T with
        | nil => simp at ht; subst ht; rfl
        | cons y U => exact h3 t (by simpa using ht)

/-- Where the reader stands, if the text is that of x: o is read, p is to come; the first time no break stands ahead. -/
def StandsAt (x o p : List Int) (first : Bool) : Prop := ∃ T, p = toks T ∧ x = o ++ T.map (·.2) ∧ (∀ t ∈ T, 0 ≤ t.2 ∧ t.2 ≤ 255) ∧ (first = true → ∀ t ∈ T.head?, t.1 = false)
theorem stands_start (W : Nat) (hW : 4 ≤ W) (x : List Int) (hx : InB x) : StandsAt x [] (render (rowsR W x)) true := by
  obtain ⟨T, h1, h2, h3⟩ := render_toks W hW x
  refine ⟨T, h1, by simpa using h2.symm, fun t ht => ?_, fun _ => h3⟩
  exact hx t.2 (by rw [← h2]; exact List.mem_map.2 ⟨t, ht, rfl⟩)
theorem stands_end {x o : List Int} {f : Bool} (h : StandsAt x o [] f) : x = o := by
  obtain ⟨T, h1, h2, -⟩ := h
  cases T with
  | nil => simpa using h2
  | cons t U =>
    have := piece_pos t.2
    have h3 := congrArg List.length h1
    rw [toks_cons, tok] at h3
    simp only [List.length_nil, List.length_append] at h3
    omega
theorem piece_no_break (b : Int) (h0 : 0 ≤ b) (t u : List Int) : pieceL b ++ t ≠ 92 :: 10 :: u := by
  intro h
  unfold pieceL at h
  split at h
  · rename_i hl
    rcases let_vals hl with rfl | rfl | rfl | rfl | rfl | rfl | rfl | rfl <;> simp [letL] at h
  · rename_i hl
    split at h
    · simp only [List.cons_append, List.nil_append, List.cons.injEq] at h
      rw [h.1] at hl
      exact hl rfl
    · simp only [List.cons_append, List.cons.injEq] at h
      omega
theorem stands_skip {x o u : List Int} {f : Bool} (h : StandsAt x o (92 :: 10 :: u) f) : StandsAt x o u false := by
  obtain ⟨T, h1, h2, h3, h4⟩ := h
  cases T with
  | nil => cases h1
  | cons t U =>
    obtain ⟨b, c⟩ := t
    cases b with
    | true =>
      refine ⟨(false, c) :: U, ?_, h2, fun t ht => ?_, fun e => by cases e⟩
      · rw [toks_cons] at h1 ⊢
        simp [tok] at h1 ⊢
        exact h1
      · rcases List.mem_cons.1 ht with rfl | ht
        · exact h3 (true, c) List.mem_cons_self
        · exact h3 t (List.mem_cons_of_mem _ ht)
    | false =>
      rw [toks_cons] at h1
      simp only [tok, Bool.false_eq_true, if_false, List.nil_append] at h1
      exact absurd h1.symm (piece_no_break _ (h3 (false, c) List.mem_cons_self).1 _ _)
/-- Without a break ahead a piece is read. -/
theorem stands_read {x o p : List Int} {f : Bool} (h : StandsAt x o p f) (hp : p ≠ []) (hn : f = true ∨ ∀ u, p ≠ 92 :: 10 :: u) :
    ∃ b : Nat, readAt p = some b ∧ StandsAt x (o ++ [(b : Int)]) (p.drop (pieceL (b : Int)).length) false := by
  obtain ⟨T, rfl, h2, h3, h4⟩ := h
  cases T with
  | nil => exact absurd rfl hp
  | cons t U =>
    obtain ⟨g, c⟩ := t
    have hc := h3 (g, c) List.mem_cons_self
    obtain ⟨b, hb⟩ : ∃ b : Nat, c = (b : Int) := ⟨c.toNat, by simp at hc; omega⟩
    subst hb
    have hg : g = false := by
      cases g with
      | false => rfl
      | true =>
        rcases hn with rfl | hn
        · exact h4 rfl (true, (b : Int)) rfl
        · exact absurd (by rw [toks_cons]; simp [tok]; rfl) (hn _)
    subst hg
    have e : toks ((false, (b : Int)) :: U) = pieceL (b : Int) ++ toks U := by rw [toks_cons]; simp [tok]
    rw [e]
    refine ⟨b, read_piece b (by simp at hc; omega) _, U, by rw [List.drop_left], by rw [h2]; simp, fun t ht => h3 t (List.mem_cons_of_mem _ ht), fun e => by cases e⟩
end Go.Proofs.YtkiiidhfjieknaaDoor
