/-
  galleyref02.guess in plain mathematics: of what Show writes it is the bytes.
-/
import Derived.Test.YtboikhalfffioaaDoorBkM
namespace Go.Proofs.YtboikhalfffioaaDoor
open Go.RowKit

/-- The number of a digit; -1: none. -/
def digitI (c : UInt8) : Int := if 48 ≤ c.toNat ∧ c.toNat ≤ 57 then (c.toNat : Int) - 48 else if 97 ≤ c.toNat ∧ c.toNat ≤ 102 then (c.toNat : Int) - 97 + 10 else -1
/-- What is guessed of the rest of a text, its last byte left out. -/
def guessF : Nat → List UInt8 → List UInt8
  | 0, _ => []
  | n + 1, u =>
    if 1 < u.length then
      (if u.getD 0 0 ≠ 92 ∨ u.length ≤ 2 then u.getD 0 0 :: guessF n (u.drop 1)
       else if u.getD 1 0 = 110 then 10 :: guessF n (u.drop 2)
       else if u.getD 1 0 = 116 then 9 :: guessF n (u.drop 2)
       else if u.getD 1 0 = 114 then 13 :: guessF n (u.drop 2)
       else if u.getD 1 0 = 120 then (if 3 < u.length ∧ 0 ≤ digitI (u.getD 2 0) ∧ 0 ≤ digitI (u.getD 3 0) then [UInt8.ofNat (16 * digitI (u.getD 2 0) + digitI (u.getD 3 0)).toNat] else []) ++ guessF n (u.drop 4)
       else u.getD 1 0 :: guessF n (u.drop 2))
    else []
def guessL (s : List UInt8) : List UInt8 := guessF s.length (s.drop 1)
def GsTo (t b : List UInt8) : Prop := ∀ n, t.length ≤ n → guessF n (t ++ [34]) = b
theorem gs_good (x : UInt8) (t b : List UInt8) (h : Good x) (ht : GsTo t b) : GsTo (x :: t) (x :: b) := by
  intro n hn
  obtain ⟨m, rfl⟩ : ∃ m, n = m + 1 := ⟨n - 1, by simp at hn; omega⟩
  unfold guessF
  rw [if_pos (by simp), if_pos (.inl (by simpa using good_ne h))]
  simp only [List.cons_append, List.getD_cons_zero, List.drop_succ_cons, List.drop_zero]
  rw [ht m (by simp at hn; omega)]
theorem gs_raw (c t b : List UInt8) (hc : ∀ x ∈ c, Good x) (h : GsTo t b) : GsTo (c ++ t) (c ++ b) := by
  induction c with
  | nil => exact h
  | cons x c ih => exact gs_good x _ _ (hc x (by simp)) (ih fun y hy => hc y (by simp [hy]))
theorem digit_back : ∀ k : Nat, k < 16 → digitI (hexB k) = (k : Int) := by decide +kernel
theorem gs_two (y x : UInt8) (h : (y = 34 ∧ x = 34) ∨ (y = 92 ∧ x = 92) ∨ (y = 110 ∧ x = 10) ∨ (y = 116 ∧ x = 9) ∨ (y = 114 ∧ x = 13)) (t b : List UInt8) (ht : GsTo t b) : GsTo ([92, y] ++ t) (x :: b) := by
  intro n hn
  obtain ⟨m, rfl⟩ : ∃ m, n = m + 1 := ⟨n - 1, by simp at hn; omega⟩
  have hm := ht m (by simp at hn; omega)
  have e0 : ([92, y] ++ t ++ [34]).getD 0 0 = 92 := rfl
  have e1 : ([92, y] ++ t ++ [34]).getD 1 0 = y := rfl
  have e2 : ([92, y] ++ t ++ [34]).drop 2 = t ++ [34] := rfl
  have e3 : ([92, y] ++ t ++ [34]).length = t.length + 3 := by simp
  generalize [92, y] ++ t ++ [34] = u at e0 e1 e2 e3 ⊢
  rw [guessF, if_pos (by omega), if_neg (by rw [e0, e3]; simp), e1, e2, hm]
  rcases h with ⟨rfl, rfl⟩ | ⟨rfl, rfl⟩ | ⟨rfl, rfl⟩ | ⟨rfl, rfl⟩ | ⟨rfl, rfl⟩ <;> rfl
theorem gs_hex (p q : Nat) (hp : p < 16) (hq : q < 16) (t b : List UInt8) (ht : GsTo t b) : GsTo ([92, 120, hexB p, hexB q] ++ t) (UInt8.ofNat (16 * p + q) :: b) := by
  intro n hn
  obtain ⟨m, rfl⟩ : ∃ m, n = m + 1 := ⟨n - 1, by simp at hn; omega⟩
  have hm := ht m (by simp at hn; omega)
  have e0 : ([92, 120, hexB p, hexB q] ++ t ++ [34]).getD 0 0 = 92 := rfl
  have e1 : ([92, 120, hexB p, hexB q] ++ t ++ [34]).getD 1 0 = 120 := rfl
  have d2 : ([92, 120, hexB p, hexB q] ++ t ++ [34]).getD 2 0 = hexB p := rfl
  have d3 : ([92, 120, hexB p, hexB q] ++ t ++ [34]).getD 3 0 = hexB q := rfl
  have e2 : ([92, 120, hexB p, hexB q] ++ t ++ [34]).drop 4 = t ++ [34] := rfl
  have e3 : ([92, 120, hexB p, hexB q] ++ t ++ [34]).length = t.length + 5 := by simp
  generalize [92, 120, hexB p, hexB q] ++ t ++ [34] = u at e0 e1 e2 e3 d2 d3 ⊢
  rw [guessF, if_pos (by omega), if_neg (by rw [e0, e3]; simp), e1, if_neg (by decide), if_neg (by decide), if_neg (by decide), if_pos rfl, e2, d2, d3, hm, digit_back p hp, digit_back q hq, if_pos ⟨by omega, by omega, by omega⟩]
  have : (16 * (p : Int) + (q : Int)).toNat = 16 * p + q := by omega
  rw [this]
  rfl
theorem gs_esc (x : UInt8) (t b : List UInt8) (ht : GsTo t b) : GsTo (escL x ++ t) (x :: b) := by
  by_cases h1 : x = 34
  · subst h1; exact gs_two 34 34 (by decide) t b ht
  by_cases h2 : x = 92
  · subst h2; exact gs_two 92 92 (by decide) t b ht
  by_cases h3 : x = 10
  · subst h3; exact gs_two 110 10 (by decide) t b ht
  by_cases h4 : x = 9
  · subst h4; exact gs_two 116 9 (by decide) t b ht
  by_cases h5 : x = 13
  · subst h5; exact gs_two 114 13 (by decide) t b ht
  have he : escL x = [92, 120, hexB (x.toNat / 16), hexB (x.toNat % 16)] := by rw [escL, if_neg h1, if_neg h2, if_neg h3, if_neg h4, if_neg h5]
  have hx := x.toNat_lt
  have := gs_hex (x.toNat / 16) (x.toNat % 16) (by omega) (by omega) t b ht
  rw [show 16 * (x.toNat / 16) + x.toNat % 16 = x.toNat by omega, UInt8.ofNat_toNat, ← he] at this
  exact this
theorem shown_guess {t b : List UInt8} (h : Shown t b) : GsTo t b := by
  induction h with
  | nil =>
    intro n _
    cases n with
    | zero => rfl
    | succ n => rw [guessF, if_neg (by simp)]
  | esc x t b _ ih => exact gs_esc x _ _ ih
  | raw c t b _ _ hg _ ih => exact gs_raw c t b hg ih
theorem guess_show (l : List UInt8) : guessL (showL l) = l := by
  have h := shown_guess (body_shown l.length l (Nat.le_refl _))
  unfold guessL
  have : (showL l).drop 1 = bodyL l.length l ++ [34] := rfl
  rw [this]
  exact h _ (by simp [showL]; omega)
/-- What is read is what is guessed, if that is shown so. -/
theorem read_guess (s : List UInt8) : readL s = if showL (guessL s) = s then some (guessL s) else none := by
  by_cases h : showL (guessL s) = s
  · rw [if_pos h]
    have := read_show (guessL s)
    rwa [h] at this
  · rw [if_neg h]
    cases hr : readL s with
    | none => rfl
    | some b =>
      exfalso
      have e := read_is hr
      apply h
      rw [← e, guess_show]
end Go.Proofs.YtboikhalfffioaaDoor
