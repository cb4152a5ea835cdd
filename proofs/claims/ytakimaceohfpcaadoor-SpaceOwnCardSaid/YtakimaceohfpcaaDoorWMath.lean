/-
  Words, plainly: digits and their number, parts, texts. Lists of numbers alone.
-/
import Derived.Test.YtakimaceohfpcaaDoorMkDef
namespace Go.Proofs.YtakimaceohfpcaaDoor

/-! ### numbers -/
def digB (x : Int) : Bool := decide (48 ≤ x ∧ x ≤ 57)
def blB (x : Int) : Bool := decide (x = 32 ∨ x = 9)
def valTo (v : Int) : List Int → Int
  | [] => v
  | c :: t => valTo (10 * v + (c - 48)) t
theorem valTo_append (v : Int) (a b : List Int) : valTo v (a ++ b) = valTo (valTo v a) b := by
  induction a generalizing v with
  | nil => rfl
  | cons c t ih => exact ih _
theorem valTo_ge (v : Int) (h : 0 ≤ v) (l : List Int) (hl : ∀ c ∈ l, 48 ≤ c) : v ≤ valTo v l := by
  induction l generalizing v with
  | nil => exact Int.le_refl _
  | cons c t ih =>
    have hc := hl c (by simp)
    have := ih (10 * v + (c - 48)) (by omega) (fun x hx => hl x (by simp [hx]))
    rw [valTo]; omega
theorem most_test (n d most : Int) (hn : 0 ≤ n) (_hd : 0 ≤ d) (_hd9 : d ≤ 9) (_hm : 0 ≤ most) : ((most - d).tdiv 10 < n ∨ most < d) ↔ most < 10 * n + d := by
  by_cases h : d ≤ most
  · rw [Int.tdiv_eq_ediv_of_nonneg (by omega)]; omega
  · have : (most - d).tdiv 10 = -((d - most).tdiv 10) := by
      rw [← Int.neg_tdiv]; congr 1; omega
    rw [Int.tdiv_eq_ediv_of_nonneg (by omega : 0 ≤ d - most)] at this
    omega

/-- How many bytes from place a on are taken. -/
def runL (p : Int → Bool) (l : List Int) (a : Nat) : List Int := (l.drop a).takeWhile p

/-- What Number answers: the number and how many digits, if it is one that most lets be. -/
def numL (most : Int) (l : List Int) (a : Nat) : Option (Int × Nat) :=
  if runL digB l a = [] ∨ most < valTo 0 (runL digB l a) then none else some (valTo 0 (runL digB l a), (runL digB l a).length)

/-! ### parts -/
def partL (d : Int) (e : Bool) : List Int → Option (List Mk × Nat)
  | [] => none
  | b :: t =>
    if b = d then some ([], 1)
    else if b = 10 then none
    else if b = 92 then
      match t with
      | [] => none
      | c :: t' => if c = 10 ∧ e = false then none else (partL d e t').map fun x => ((if c = d then [(d, true)] else [(92, false), (c, false)]) ++ x.1, x.2 + 2)
    else (partL d e t).map fun x => ((b, false) :: x.1, x.2 + 1)

def wrL : List Mk → List Int
  | [] => []
  | (b, true) :: t => 92 :: b :: wrL t
  | (b, false) :: t => b :: wrL t

def rightL (d : Int) (e : Bool) : List Mk → Bool
  | [] => true
  | (b, true) :: t => decide (b = d) && rightL d e t
  | (b, false) :: t =>
    if b = d ∨ b = 10 then false
    else if b = 92 then
      match t with
      | [] => false
      | (c, p) :: t' => if p = true ∨ c = d ∨ (c = 10 ∧ e = false) then false else rightL d e t'
    else rightL d e t
def okD (d : Int) : Bool := decide (d ≠ 92 ∧ d ≠ 10)

theorem partL_d (d : Int) (e : Bool) (t : List Int) : partL d e (d :: t) = some ([], 1) := by rw [partL.eq_def]; simp
theorem partL_nl (d : Int) (e : Bool) (t : List Int) (h : ¬ (10 : Int) = d) : partL d e (10 :: t) = none := by rw [partL.eq_def]; simp [h]
theorem partL_sl0 (d : Int) (e : Bool) (h : ¬ (92 : Int) = d) : partL d e [92] = none := by rw [partL.eq_def]; simp [h]
theorem partL_sl (d : Int) (e : Bool) (c : Int) (t : List Int) (h : ¬ (92 : Int) = d) (hc : ¬ (c = 10 ∧ e = false)) :
    partL d e (92 :: c :: t) = (partL d e t).map fun x => ((if c = d then [(d, true)] else [(92, false), (c, false)]) ++ x.1, x.2 + 2) := by
  rw [partL.eq_def]; simp only [if_neg h, if_neg hc]; simp
theorem partL_sln (d : Int) (e : Bool) (c : Int) (t : List Int) (h : ¬ (92 : Int) = d) (hc : c = 10 ∧ e = false) : partL d e (92 :: c :: t) = none := by
  rw [partL.eq_def]; simp only [if_neg h, if_pos hc]; simp
theorem partL_else (d : Int) (e : Bool) (b : Int) (t : List Int) (h1 : ¬ b = d) (h2 : ¬ b = 10) (h3 : ¬ b = 92) : partL d e (b :: t) = (partL d e t).map fun x => ((b, false) :: x.1, x.2 + 1) := by
  rw [partL.eq_def]; simp only [if_neg h1, if_neg h2, if_neg h3]
theorem rightL_true (d : Int) (e : Bool) (b : Int) (t : List Mk) : rightL d e ((b, true) :: t) = (decide (b = d) && rightL d e t) := by rw [rightL.eq_def]
theorem rightL_bad (d : Int) (e : Bool) (b : Int) (t : List Mk) (h : b = d ∨ b = 10) : rightL d e ((b, false) :: t) = false := by rw [rightL.eq_def]; simp only [if_pos h]
theorem rightL_sl0 (d : Int) (e : Bool) : rightL d e [(92, false)] = false := by rw [rightL.eq_def]; simp
theorem rightL_sl (d : Int) (e : Bool) (c : Int) (p : Bool) (t : List Mk) (h : ¬ (92 : Int) = d) : rightL d e ((92, false) :: (c, p) :: t) = (if p = true ∨ c = d ∨ (c = 10 ∧ e = false) then false else rightL d e t) := by
  rw [rightL.eq_def]; simp only; rw [if_neg (by simp [h])]; simp
theorem rightL_else (d : Int) (e : Bool) (b : Int) (t : List Mk) (h1 : ¬ b = d) (h2 : ¬ b = 10) (h3 : ¬ b = 92) : rightL d e ((b, false) :: t) = rightL d e t := by
  rw [rightL.eq_def]; simp only; rw [if_neg (by simp [h1, h2]), if_neg h3]

theorem part_written (d : Int) (e : Bool) (h92 : ¬ (92 : Int) = d) (h10 : ¬ (10 : Int) = d) (behind : List Int) : ∀ (n : Nat) (l : List Mk), l.length ≤ n → rightL d e l = true → partL d e (wrL l ++ d :: behind) = some (l, (wrL l).length + 1)
  | _, [], _, _ => by simp [wrL, partL_d]
  | 0, _ :: _, hn, _ => by simp at hn
  | n + 1, (b, true) :: t, hn, hr => by
    rw [rightL_true, Bool.and_eq_true, decide_eq_true_eq] at hr
    obtain ⟨rfl, hr⟩ := hr
    have ih := part_written b e h92 h10 behind n t (by simp at hn; omega) hr
    rw [wrL, List.cons_append, List.cons_append, partL_sl b e b _ h92 (fun h => h10 h.1.symm), ih]
    simp
  | n + 1, (b, false) :: t, hn, hr => by
    by_cases h1 : b = d ∨ b = 10
    · rw [rightL_bad d e b t h1] at hr; cases hr
    simp only [not_or] at h1
    by_cases h2 : b = 92
    · subst h2
      match t, hn, hr with
      | [], _, hr => rw [rightL_sl0] at hr; cases hr
      | (c, p) :: t', hn, hr =>
        rw [rightL_sl d e c p t' h92] at hr
        split at hr
        · cases hr
        rename_i h3
        simp only [not_or, Bool.not_eq_true] at h3
        obtain ⟨rfl, h3, h4⟩ := h3
        have ih := part_written d e h92 h10 behind n t' (by simp at hn; omega) hr
        rw [wrL, wrL, List.cons_append, List.cons_append, partL_sl d e c _ h92 h4, ih]
        simp [h3]
    · rw [rightL_else d e b t h1.1 h1.2 h2] at hr
      have ih := part_written d e h92 h10 behind n t (by simp at hn; omega) hr
      rw [wrL, List.cons_append, partL_else d e b _ h1.1 h1.2 h2, ih]
      simp

theorem part_read (d : Int) (e : Bool) (h92 : ¬ (92 : Int) = d) (h10 : ¬ (10 : Int) = d) : ∀ (n : Nat) (t : List Int) (m : List Mk) (k : Nat), t.length ≤ n → partL d e t = some (m, k) → ∃ r, t = wrL m ++ d :: r ∧ k = (wrL m).length + 1 ∧ rightL d e m = true
  | _, [], m, k, _, h => by simp [partL] at h
  | 0, _ :: _, _, _, hn, _ => by simp at hn
  | n + 1, b :: t, m, k, hn, h => by
    by_cases h1 : b = d
    · subst h1
      rw [partL_d] at h
      simp only [Option.some.injEq, Prod.mk.injEq] at h
      obtain ⟨rfl, rfl⟩ := h
      exact ⟨t, by simp [wrL], by simp [wrL], by rw [rightL.eq_def]⟩
    by_cases h2 : b = 10
    · subst h2
      rw [partL_nl d e t h10] at h; cases h
    by_cases h3 : b = 92
    · subst h3
      match t, hn, h with
      | [], _, h => rw [partL_sl0 d e h92] at h; cases h
      | c :: t', hn, h =>
        by_cases h4 : c = 10 ∧ e = false
        · rw [partL_sln d e c t' h92 h4] at h; cases h
        rw [partL_sl d e c t' h92 h4, Option.map_eq_some_iff] at h
        obtain ⟨⟨m', k'⟩, hp, he⟩ := h
        simp only [Prod.mk.injEq] at he
        obtain ⟨rfl, rfl⟩ := he
        obtain ⟨r, rfl, rfl, hr⟩ := part_read d e h92 h10 n t' m' k' (by simp at hn; omega) hp
        by_cases hc : c = d
        · subst hc
          exact ⟨r, by simp [wrL], by simp [wrL], by simp [rightL_true, hr]⟩
        · refine ⟨r, by simp [wrL, hc], by simp [wrL, hc], ?_⟩
          simp only [hc, if_false, List.cons_append, List.nil_append]
          rw [rightL_sl d e c false m' h92, if_neg (by simp only [not_or]; exact ⟨by simp, hc, h4⟩)]
          exact hr
    · rw [partL_else d e b t h1 h2 h3, Option.map_eq_some_iff] at h
      obtain ⟨⟨m', k'⟩, hp, he⟩ := h
      simp only [Prod.mk.injEq] at he
      obtain ⟨rfl, rfl⟩ := he
      obtain ⟨r, rfl, rfl, hr⟩ := part_read d e h92 h10 n t m' k' (by simp at hn; omega) hp
      exact ⟨r, by simp [wrL], by simp [wrL], by rw [rightL_else d e b m' h1 h2 h3]; exact hr⟩

/-! ### texts -/
/-- The bytes of a text, and how many bytes of the script it takes, up to its line end. -/
def txL : List Int → Option (List Int × Nat)
  | [] => some ([], 0)
  | b :: t =>
    if b = 10 then some ([], 0)
    else if b = 92 then
      match t with
      | [] => none
      | c :: t' => (txL t').map fun x => (c :: x.1, x.2 + 2)
    else (txL t).map fun x => (b :: x.1, x.2 + 1)

/-- A row, each byte of it that must be behind a backslash. -/
def escL : List Int → List Int
  | [] => []
  | b :: t => if b = 10 ∨ b = 92 ∨ b % 3 = 0 then 92 :: b :: escL t else b :: escL t
theorem txL_nl (t : List Int) : txL (10 :: t) = some ([], 0) := by rw [txL.eq_def]; simp
theorem txL_sl0 : txL [92] = none := by rw [txL.eq_def]; simp
theorem txL_sl (c : Int) (t : List Int) : txL (92 :: c :: t) = (txL t).map fun x => (c :: x.1, x.2 + 2) := by rw [txL.eq_def]; simp
theorem txL_else (b : Int) (t : List Int) (h1 : ¬ b = 10) (h2 : ¬ b = 92) : txL (b :: t) = (txL t).map fun x => (b :: x.1, x.2 + 1) := by rw [txL.eq_def]; simp only [if_neg h1, if_neg h2]
theorem txL_esc (r rest : List Int) : txL (escL r ++ rest) = (txL rest).map fun x => (r ++ x.1, x.2 + (escL r).length) := by
  induction r with
  | nil => simp [escL]
  | cons b t ih =>
    rw [escL]
    split
    · rw [List.cons_append, List.cons_append, txL_sl, ih, Option.map_map]
      congr 1
    · rename_i h
      simp only [not_or] at h
      rw [List.cons_append, txL_else b _ h.1 h.2.1, ih, Option.map_map]
      congr 1
end Go.Proofs.YtakimaceohfpcaaDoor
