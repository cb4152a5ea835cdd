/-
  Plain mathematics of layer 16, more: pieces as marks, and back.
-/
import Derived.Test.YtdbkoephkdfbfaaDoorFillM
namespace Go.Proofs.YtdbkoephkdfbfaaDoor

/-- A byte of a text as marks' bytes; a piece; pieces. -/
def wrB (b : Int) : List Int := if b = 38 ∨ b = 92 then [92, b] else if b = 10 then [92, 110] else [b]
def pieceB (p : Pc) : List Int := if p.1 = -1 then p.2.flatMap wrB else if p.1 = 0 then [38] else [92, 48 + p.1]
def printB (p : List Pc) : List Int := p.flatMap pieceB
def asMarks (l : List Int) : List Mk := l.map fun b => (b, false)

/-- Behind some pieces: was the last one a text? None: they are ill shaped. -/
def stepS (t : Bool) (p : Pc) : Option Bool := if p.1 = -1 then (if p.2 = [] ∨ t = true then none else some true) else if 0 ≤ p.1 ∧ p.1 ≤ 9 ∧ p.2 = [] then some false else none
def stR : Bool → List Pc → Option Bool
  | t, [] => some t
  | t, p :: r => match stepS t p with
    | none => none
    | some t' => stR t' r
def shapedL (p : List Pc) : Bool := (stR false p).isSome

theorem stR_append (a b : List Pc) : ∀ t, stR t (a ++ b) = match stR t a with | none => none | some t' => stR t' b := by
  induction a with
  | nil => intro t; rfl
  | cons x a ih =>
    intro t
    rw [List.cons_append, stR, stR]
    cases stepS t x with
    | none => rfl
    | some t' => exact ih t'

theorem asMarks_append (a b : List Int) : asMarks (a ++ b) = asMarks a ++ asMarks b := by unfold asMarks; rw [List.map_append]
theorem parse_wr (b : Int) (r : List Mk) (out : List Pc) (text : List Int) : parseR (asMarks (wrB b) ++ r) out text = parseR r out (text ++ [b]) := by
  unfold wrB asMarks
  by_cases h1 : b = 38 ∨ b = 92
  · rw [if_pos h1]
    show parseR ((92, false) :: (b, false) :: r) out text = _
    rw [parse_esc _ _ _ _ (by unfold isGrp; simp; omega)]
    unfold escB
    simp only [Bool.not_false, Bool.true_and]
    rw [if_neg (by simp; omega)]
  · rw [if_neg h1]
    by_cases h2 : b = 10
    · rw [if_pos h2]
      subst h2
      show parseR ((92, false) :: (110, false) :: r) out text = _
      rw [parse_esc _ _ _ _ (by decide)]
      rfl
    · rw [if_neg h2]
      show parseR ((b, false) :: r) out text = _
      rw [parse_byte _ _ _ _ (by intro e; simp at e; omega) (by intro e; simp at e; omega)]
theorem parse_text (tx : List Int) (r : List Mk) (out : List Pc) : ∀ text, parseR (asMarks (tx.flatMap wrB) ++ r) out text = parseR r out (text ++ tx) := by
  induction tx with
  | nil => intro text; simp [asMarks]
  | cons b tx ih =>
    intro text
    rw [List.flatMap_cons, asMarks_append, List.append_assoc, parse_wr, ih]
    simp
theorem parse_print : ∀ (p : List Pc) (out : List Pc) (text : List Int), (stR (decide (text ≠ [])) p).isSome = true → parseR (asMarks (printB p)) out text = some (flushL out text ++ p)
  | [], out, text, _ => by unfold printB; simp [asMarks, parse_nil]
  | x :: p, out, text, h => by
    rw [stR] at h
    unfold printB
    rw [List.flatMap_cons, asMarks_append]
    obtain ⟨g, tx⟩ := x
    unfold stepS at h
    by_cases hg : g = -1
    · subst hg
      simp only [if_true] at h
      by_cases hb : tx = [] ∨ decide (text ≠ []) = true
      · rw [if_pos hb] at h; simp at h
      · rw [if_neg hb] at h
        have h1 : tx ≠ [] := fun e => hb (.inl e)
        have h2 : text = [] := by
          by_cases e : text = []
          · exact e
          · exact absurd (.inr (by simpa using e)) hb
        subst h2
        show parseR (asMarks (tx.flatMap wrB) ++ asMarks (printB p)) out [] = _
        rw [parse_text, parse_print p out ([] ++ tx) (by simpa [h1] using h)]
        simp [flushL, h1]
    · simp only [hg, if_false] at h
      by_cases hb : 0 ≤ g ∧ g ≤ 9 ∧ tx = []
      · rw [if_pos hb] at h
        obtain ⟨h0, h9, rfl⟩ := hb
        unfold pieceB
        simp only [hg, if_false]
        by_cases hz : g = 0
        · subst hz
          show parseR ((38, false) :: asMarks (printB p)) out text = _
          rw [parse_amp, parse_print p _ [] (by simpa using h)]
          simp [flushL]
        · rw [if_neg hz]
          show parseR ((92, false) :: (48 + g, false) :: asMarks (printB p)) out text = _
          rw [parse_grp _ _ _ _ (by unfold isGrp; simp; omega), parse_print p _ [] (by simpa using h)]
          simp only [flushL, if_true, List.append_assoc]
          have : 48 + g - 48 = g := by omega
          rw [this]
          rfl
      · rw [if_neg hb] at h; simp at h

theorem print_back (p : List Pc) (h : shapedL p = true) : parseR (asMarks (printB p)) [] [] = some p := by
  rw [parse_print p [] [] (by simpa [shapedL] using h)]
  simp [flushL]

theorem flush_shaped (out : List Pc) (text : List Int) (h : stR false out = some false) : ∃ f', stR false (flushL out text) = some f' := by
  unfold flushL
  split
  · exact ⟨_, h⟩
  · rename_i hne
    rw [stR_append, h]
    refine ⟨true, ?_⟩
    show stR false [(-1, text)] = some true
    rw [stR]
    unfold stepS
    simp [hne, stR]
theorem group_shaped (out : List Pc) (g : Int) (f : Bool) (h : stR false out = some f) (h0 : 0 ≤ g) (h9 : g ≤ 9) : stR false (out ++ [(g, [])]) = some false := by
  rw [stR_append, h]
  show stR f [(g, [])] = some false
  rw [stR]
  unfold stepS
  have : ¬ g = -1 := by omega
  simp [this, h0, h9, stR]

theorem parse_shaped : ∀ (n : Nat) (l : List Mk) (out : List Pc) (text : List Int) (q : List Pc), l.length ≤ n → stR false out = some false → parseR l out text = some q → shapedL q = true
  | n, [], out, text, q, _, h, hq => by
    rw [parse_nil] at hq
    simp only [Option.some.injEq] at hq
    subst hq
    obtain ⟨f', h'⟩ := flush_shaped out text h
    simp [shapedL, h']
  | 0, _ :: _, _, _, _, hn, _, _ => by simp at hn
  | n + 1, m :: r, out, text, q, hn, h, hq => by
    have hr : r.length ≤ n := by simpa using hn
    by_cases h1 : m = (38, false)
    · subst h1
      rw [parse_amp] at hq
      obtain ⟨f', h'⟩ := flush_shaped out text h
      exact parse_shaped n r _ [] q hr (group_shaped _ 0 f' h' (by omega) (by omega)) hq
    · by_cases h2 : m = (92, false)
      · subst h2
        cases r with
        | nil => rw [parse_end] at hq; cases hq
        | cons y r =>
          have hr' : r.length ≤ n := by simp at hr; omega
          cases hg : isGrp y
          · rw [parse_esc _ _ _ _ hg] at hq
            exact parse_shaped n r out _ q hr' h hq
          · rw [parse_grp _ _ _ _ hg] at hq
            obtain ⟨f', h'⟩ := flush_shaped out text h
            unfold isGrp at hg
            simp at hg
            exact parse_shaped n r _ [] q hr' (group_shaped _ _ f' h' (by omega) (by omega)) hq
      · rw [parse_byte _ _ _ _ h1 h2] at hq
        exact parse_shaped n r out _ q hr h hq
theorem parse_none : ∀ (n : Nat) (l : List Mk) (out : List Pc) (text : List Int), l.length ≤ n → parseR l out text = none → ∃ l', l = l' ++ [(92, false)]
  | n, [], out, text, _, hq => by rw [parse_nil] at hq; cases hq
  | 0, _ :: _, _, _, hn, _ => by simp at hn
  | n + 1, m :: r, out, text, hn, hq => by
    have hr : r.length ≤ n := by simpa using hn
    by_cases h1 : m = (38, false)
    · subst h1
      rw [parse_amp] at hq
      obtain ⟨l', rfl⟩ := parse_none n r _ [] hr hq
      exact ⟨(38, false) :: l', rfl⟩
    · by_cases h2 : m = (92, false)
      · subst h2
        cases r with
        | nil => exact ⟨[], rfl⟩
        | cons y r =>
          have hr' : r.length ≤ n := by simp at hr; omega
          cases hg : isGrp y
          · rw [parse_esc _ _ _ _ hg] at hq
            obtain ⟨l', rfl⟩ := parse_none n r _ _ hr' hq
            exact ⟨(92, false) :: y :: l', rfl⟩
          · rw [parse_grp _ _ _ _ hg] at hq
            obtain ⟨l', rfl⟩ := parse_none n r _ [] hr' hq
            exact ⟨(92, false) :: y :: l', rfl⟩
      · rw [parse_byte _ _ _ _ h1 h2] at hq
        obtain ⟨l', rfl⟩ := parse_none n r _ _ hr hq
        exact ⟨m :: l', rfl⟩

/-! ### How much there is -/
theorem wrB_len (b : Int) : (wrB b).length ≤ 2 ∧ 1 ≤ (wrB b).length := by
  unfold wrB; split
  · simp
  · split <;> simp
theorem wr_len (tx : List Int) : (tx.flatMap wrB).length ≤ 2 * tx.length := by
  induction tx with
  | nil => simp
  | cons b tx ih =>
    rw [List.flatMap_cons, List.length_append, List.length_cons]
    have := wrB_len b
    omega
/-- All bytes of the pieces' texts. -/
def bytesP (p : List Pc) : Nat := (p.map fun x => x.2.length).sum
theorem bytesP_append (a b : List Pc) : bytesP (a ++ b) = bytesP a + bytesP b := by unfold bytesP; rw [List.map_append, List.sum_append]
theorem print_len (p : List Pc) : (printB p).length ≤ 2 * (p.length + bytesP p) := by
  unfold printB bytesP
  induction p with
  | nil => simp
  | cons x p ih =>
    rw [List.flatMap_cons, List.length_append, List.length_cons, List.map_cons, List.sum_cons]
    have : (pieceB x).length ≤ 2 * (1 + x.2.length) := by
      unfold pieceB
      split
      · have := wr_len x.2; omega
      · split <;> simp <;> omega
    omega
theorem print_snoc (p : List Pc) (d : Pc) (k : Nat) (h : k < p.length) : printB (p.take (k + 1)) = printB (p.take k) ++ pieceB (p[k]?.getD d) := by
  rw [take_snocG p d k h]
  unfold printB
  rw [List.flatMap_append]
  simp
theorem flush_len (out : List Pc) (text : List Int) : (flushL out text).length ≤ out.length + 1 := by
  unfold flushL; split
  · omega
  · simp
end Go.Proofs.YtdbkoephkdfbfaaDoor
