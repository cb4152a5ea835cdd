/-
  Bytes as the command l shows them: plain mathematics.
-/
namespace Go.Proofs.YtkiiidhfjieknaaDoor

/-- Is the byte shown by a letter? Which? -/
def isLet (b : Int) : Bool := decide (b = 92 ∨ (7 ≤ b ∧ b ≤ 13))
def letL (b : Int) : Int := if b = 92 then 92 else if b = 7 then 97 else if b = 8 then 98 else if b = 9 then 116 else if b = 10 then 110 else if b = 11 then 118 else if b = 12 then 102 else 114
/-- How a byte is shown. -/
def pieceL (b : Int) : List Int := if isLet b then [92, letL b] else if 32 ≤ b ∧ b ≤ 126 then [b] else [92, 48 + b / 64, 48 + b / 8 % 8, 48 + b % 8]

theorem piece_pos (b : Int) : 1 ≤ (pieceL b).length := by unfold pieceL; split; simp; split <;> simp
theorem piece_len (b : Int) : (pieceL b).length ≤ 4 := by unfold pieceL; split; simp; split <;> simp
theorem let_vals {b : Int} (h : isLet b = true) : b = 92 ∨ b = 7 ∨ b = 8 ∨ b = 9 ∨ b = 10 ∨ b = 11 ∨ b = 12 ∨ b = 13 := by
  unfold isLet at h; have := of_decide_eq_true h; omega
theorem piece_fair (b : Int) (h0 : 0 ≤ b) (h1 : b ≤ 255) : ∀ c ∈ pieceL b, 32 ≤ c ∧ c ≤ 126 := by
  intro c hc
  unfold pieceL at hc
  split at hc
  · rename_i h
    rcases let_vals h with rfl | rfl | rfl | rfl | rfl | rfl | rfl | rfl <;> simp [letL] at hc <;> omega
  · split at hc
    · simp at hc; omega
    · simp at hc; omega

/-! ### Rows -/
/-- The rows that are ended, and the row that is open. -/
abbrev RowSt := List (List Int) × List Int
def stepR (W : Nat) (s : RowSt) (b : Int) : RowSt := if W < s.2.length + (pieceL b).length then (s.1 ++ [s.2], pieceL b) else (s.1, s.2 ++ pieceL b)
def rowsR (W : Nat) (l : List Int) : RowSt := l.foldl (stepR W) ([], [])
def render (s : RowSt) : List Int := s.1.flatMap (fun r => r ++ [92, 10]) ++ s.2
/-- What Row answers. -/
def rowL (W : Nat) (l : List Int) : List Int := render (rowsR W l) ++ [36, 10]

theorem rowsR_snoc (W : Nat) (l : List Int) (b : Int) : rowsR W (l ++ [b]) = stepR W (rowsR W l) b := by unfold rowsR; rw [List.foldl_append]; rfl
theorem render_more (s : RowSt) (p : List Int) : render (s.1, s.2 ++ p) = render s ++ p := by unfold render; rw [List.append_assoc]
theorem render_new (s : RowSt) (p : List Int) : render (s.1 ++ [s.2], p) = render s ++ [92, 10] ++ p := by unfold render; simp
theorem list_snoc {α : Type} {C : List α → Prop} (h0 : C []) (h1 : ∀ l x, C l → C (l ++ [x])) (l : List α) : C l := by
  have : ∀ n (l : List α), l.length = n → C l := by
    intro n
    induction n with
    | zero => intro l hl; rw [List.eq_nil_of_length_eq_zero hl]; exact h0
    | succ n ih =>
      intro l hl
      rcases List.eq_nil_or_concat l with rfl | ⟨k, x, rfl⟩
      · cases hl
      · rw [List.concat_eq_append] at hl ⊢
        exact h1 _ _ (ih _ (by simp at hl; omega))
  exact this _ l rfl

/-- The bytes of a row can be seen. -/
def Fair (l : List Int) : Prop := ∀ c ∈ l, 32 ≤ c ∧ c ≤ 126
def InB (l : List Int) : Prop := ∀ c ∈ l, 0 ≤ c ∧ c ≤ 255
theorem fair_app {a b : List Int} (h : Fair a) (k : Fair b) : Fair (a ++ b) := fun c hc => (List.mem_append.1 hc).elim (h c) (k c)
/-- What the rows of l keep. -/
structure RowOk (W : Nat) (l : List Int) (s : RowSt) : Prop where
  all : s.1.flatten ++ s.2 = l.flatMap pieceL
  fair1 : ∀ r ∈ s.1, Fair r
  fair2 : Fair s.2
  len1 : ∀ r ∈ s.1, r.length ≤ W
  len2 : s.2.length ≤ W
theorem rows_ok (W : Nat) (hW : 4 ≤ W) (l : List Int) (hl : InB l) : RowOk W l (rowsR W l) := by
  induction l using list_snoc with
  | h0 => exact ⟨rfl, fun r hr => (by cases hr), fun c hc => (by cases hc), fun r hr => (by cases hr), Nat.zero_le _⟩
  | h1 l b ih =>
    have ih := ih fun c hc => hl c (List.mem_append.2 (.inl hc))
    have hb := hl b (by simp)
    have hp := piece_fair b hb.1 hb.2
    have hp4 := piece_len b
    obtain ⟨a, f1, f2, l1, l2⟩ := ih
    rw [rowsR_snoc]
    unfold stepR
    split
    · refine ⟨?_, fun r hr => ?_, hp, fun r hr => ?_, by show (pieceL b).length ≤ W; omega⟩
      · show (_ ++ [_]).flatten ++ pieceL b = _
        rw [List.flatten_append, List.flatMap_append, ← a]; simp
      · rcases List.mem_append.1 hr with hr | hr
        · exact f1 r hr
        · rw [List.mem_singleton.1 hr]; exact f2
      · rcases List.mem_append.1 hr with hr | hr
        · exact l1 r hr
        · rw [List.mem_singleton.1 hr]; exact l2
    · refine ⟨?_, f1, fair_app f2 hp, l1, by show ((rowsR W l).2 ++ pieceL b).length ≤ W; rw [List.length_append]; omega⟩
      show _ ++ (_ ++ _) = _
      rw [← List.append_assoc, a, List.flatMap_append]; simp
/-- A smaller width that all rows keep gives the same rows. -/
theorem rows_less (W V : Nat) (h : V ≤ W) (l : List Int) (h1 : ∀ r ∈ (rowsR W l).1, r.length ≤ V) (h2 : (rowsR W l).2.length ≤ V) : rowsR V l = rowsR W l := by
  induction l using list_snoc with
  | h0 => rfl
  | h1 l b ih =>
    rw [rowsR_snoc] at h1 h2 ⊢
    rw [rowsR_snoc]
    unfold stepR at h1 h2 ⊢
    by_cases hc : W < (rowsR W l).2.length + (pieceL b).length
    · rw [if_pos hc] at h1 h2 ⊢
      have ih := ih (fun r hr => h1 r (List.mem_append.2 (.inl hr))) (h1 _ (List.mem_append.2 (.inr (by simp))))
      rw [ih, if_pos (by omega)]
    · rw [if_neg hc] at h1 h2 ⊢
      have h2 : ((rowsR W l).2 ++ pieceL b).length ≤ V := h2
      rw [List.length_append] at h2
      have ih := ih h1 (by omega)
      rw [ih, if_neg (by omega)]
/-- In a width that is large enough there is one row. -/
theorem rows_one (W : Nat) (l : List Int) (h : (l.flatMap pieceL).length ≤ W) : rowsR W l = ([], l.flatMap pieceL) := by
  induction l using list_snoc with
  | h0 => rfl
  | h1 l b ih =>
    have e : (l ++ [b]).flatMap pieceL = l.flatMap pieceL ++ pieceL b := by rw [List.flatMap_append]; simp
    rw [e, List.length_append] at h
    rw [rowsR_snoc, ih (by omega), e]
    unfold stepR
    rw [if_neg (by show ¬ W < (l.flatMap pieceL).length + _; omega)]
theorem flat_len (l : List Int) : (l.flatMap pieceL).length ≤ 4 * l.length := by
  induction l with
  | nil => simp
  | cons b t ih => have := piece_len b; rw [List.flatMap_cons, List.length_append, List.length_cons]; omega
theorem flat_len1 (l : List Int) : l.length ≤ (l.flatMap pieceL).length := by
  induction l with
  | nil => simp
  | cons b t ih => have := piece_pos b; rw [List.flatMap_cons, List.length_append, List.length_cons]; omega
/-- How long a row can become. -/
theorem render_len (W : Nat) (l : List Int) : (render (rowsR W l)).length ≤ 6 * l.length := by
  induction l using list_snoc with
  | h0 => simp [rowsR, render]
  | h1 l b ih =>
    have hp := piece_len b
    rw [rowsR_snoc]
    unfold stepR
    split
    · rw [render_new]; simp only [List.length_append, List.length_cons, List.length_nil]; omega
    · rw [render_more]; simp only [List.length_append, List.length_cons, List.length_nil]; omega
theorem rowL_len (W : Nat) (l : List Int) : (rowL W l).length ≤ 6 * l.length + 2 := by
  have := render_len W l
  unfold rowL; simp only [List.length_append, List.length_cons, List.length_nil]; omega
theorem rowL_ends (W : Nat) (l : List Int) : 2 ≤ (rowL W l).length := by unfold rowL; simp

/-! ### Rows, cut -/
/-- Up to the first end of a row, and what stands behind it. -/
def cutL : List Int → Option (List Int × List Int)
  | [] => none
  | c :: t => if c = 92 ∧ t.head? = some 10 then some ([], t.tail) else (cutL t).map fun x => (c :: x.1, x.2)
theorem cut_at (r t : List Int) (h : ∀ c ∈ r, c ≠ 10) : cutL (r ++ 92 :: 10 :: t) = some (r, t) := by
  induction r with
  | nil => simp [cutL]
  | cons c r ih =>
    have ih := ih fun x hx => h x (List.mem_cons_of_mem _ hx)
    rw [List.cons_append, cutL, ih]
    have hn : ¬ (c = 92 ∧ (r ++ 92 :: 10 :: t).head? = some 10) := by
      rintro ⟨_, h2⟩
      cases r with
      | nil => simp at h2
      | cons d r => simp at h2; exact h d (by simp) h2
    rw [if_neg hn]; rfl
theorem cut_none (r : List Int) (h : ∀ c ∈ r, c ≠ 10) : cutL r = none := by
  induction r with
  | nil => rfl
  | cons c r ih =>
    have ih := ih fun x hx => h x (List.mem_cons_of_mem _ hx)
    have hn : ¬ (c = 92 ∧ r.head? = some 10) := by
      rintro ⟨_, h2⟩
      cases r with
      | nil => simp at h2
      | cons d r => simp at h2; exact h d (by simp) h2
    rw [cutL, ih, if_neg hn]; rfl
theorem cut_len {s r t : List Int} (h : cutL s = some (r, t)) : s = r ++ 92 :: 10 :: t := by
  induction s generalizing r t with
  | nil => cases h
  | cons c s ih =>
    rw [cutL] at h
    split at h
    · rename_i hc
      obtain ⟨rfl, h2⟩ := hc
      cases s with
      | nil => simp at h2
      | cons d s =>
        simp at h2 h
        obtain ⟨rfl, rfl⟩ := h
        rw [h2]; rfl
    · cases hk : cutL s with
      | none => rw [hk] at h; simp at h
      | some x =>
        rw [hk] at h
        simp at h
        obtain ⟨rfl, rfl⟩ := h
        rw [ih (r := x.1) (t := x.2) hk]; rfl
/-- The rows of a text. -/
def rowsOf : Nat → List Int → List (List Int)
  | 0, s => [s]
  | n + 1, s => match cutL s with
    | none => [s]
    | some x => x.1 :: rowsOf n x.2
theorem rowsOf_render (s : RowSt) (n : Nat) (hn : s.1.length ≤ n) (h1 : ∀ r ∈ s.1, Fair r) (h2 : Fair s.2) : rowsOf n (render s) = s.1 ++ [s.2] := by
  obtain ⟨d, c⟩ := s
  have no : ∀ r : List Int, Fair r → ∀ x ∈ r, x ≠ 10 := fun r hr x hx => by have := hr x hx; omega
  induction d generalizing n with
  | nil =>
    have e : render (([], c) : RowSt) = c := by simp [render]
    rw [e]
    cases n with
    | zero => rfl
    | succ n => rw [rowsOf, cut_none c (no c h2)]; rfl
  | cons r d ih =>
    have e : render ((r :: d, c) : RowSt) = r ++ 92 :: 10 :: render ((d, c) : RowSt) := by simp [render]
    cases n with
    | zero => simp at hn
    | succ n =>
      rw [e, rowsOf, cut_at r _ (no r (h1 r (by simp)))]
      show r :: rowsOf n (render (d, c)) = _
      rw [ih n (by simpa using hn) (fun x hx => h1 x (List.mem_cons_of_mem _ hx)) h2]
      rfl

/-! ### Pieces, read -/
def isOct (c : Int) : Bool := decide (48 ≤ c ∧ c ≤ 55)
/-- Is it a letter of a piece? Whose? -/
def isLtr (d : Int) : Bool := decide (d = 92 ∨ d = 97 ∨ d = 98 ∨ d = 116 ∨ d = 110 ∨ d = 118 ∨ d = 102 ∨ d = 114)
def ltrOf (d : Int) : Int := if d = 92 then 92 else if d = 97 then 7 else if d = 98 then 8 else if d = 116 then 9 else if d = 110 then 10 else if d = 118 then 11 else if d = 102 then 12 else 13
/-- The byte of the piece that stands first, and the piece's length. -/
def firstL : List Int → Int × Nat
  | [] => (0, 0)
  | c :: t => if c ≠ 92 then (c, 1) else match t with
    | [] => (0, 0)
    | d :: u => if isLtr d then (ltrOf d, 2) else match u with
      | e :: f :: _ => if isOct d && isOct e && isOct f then ((((d - 48) * 8 + (e - 48)) * 8 + (f - 48)) % 256, 4) else (0, 0)
      | _ => (0, 0)
theorem first_piece (b : Int) (h0 : 0 ≤ b) (h1 : b ≤ 255) (t : List Int) : firstL (pieceL b ++ t) = (b, (pieceL b).length) := by
  unfold pieceL
  split
  · rename_i h
    rcases let_vals h with rfl | rfl | rfl | rfl | rfl | rfl | rfl | rfl <;> simp [letL, firstL, isLtr, ltrOf]
  · rename_i h
    split
    · have : b ≠ 92 := fun e => h (by rw [e]; rfl)
      simp [firstL, this]
    · have h2 : isLtr (48 + b / 64) = false := by unfold isLtr; exact decide_eq_false (by omega)
      have o1 : isOct (48 + b / 64) = true := by unfold isOct; exact decide_eq_true (by omega)
      have o2 : isOct (48 + b / 8 % 8) = true := by unfold isOct; exact decide_eq_true (by omega)
      have o3 : isOct (48 + b % 8) = true := by unfold isOct; exact decide_eq_true (by omega)
      simp only [List.cons_append, List.nil_append, firstL, h2, o1, o2, o3, Bool.and_self, if_true, Bool.false_eq_true, if_false, ne_eq, not_true_eq_false, List.length_cons, List.length_nil]
      refine Prod.ext ?_ rfl
      show (((48 + b / 64 - 48) * 8 + (48 + b / 8 % 8 - 48)) * 8 + (48 + b % 8 - 48)) % 256 = b
      omega
theorem first_le (l : List Int) : (firstL l).2 ≤ l.length := by
  unfold firstL
  match l with
  | [] => simp
  | c :: t =>
    simp only
    split
    · simp
    · match t with
      | [] => simp
      | [d] => simp only; split <;> simp
      | [d, e] => simp only; split <;> simp
      | d :: e :: f :: u => simp only; split; simp; split <;> simp
/-- The bytes of pieces, one behind the other. -/
def shownL : Nat → List Int → Option (List Int)
  | 0, _ => some []
  | n + 1, l => if l = [] then some [] else if (firstL l).2 = 0 then none else (shownL n (l.drop (firstL l).2)).map fun o => (firstL l).1 :: o
theorem shown_pieces (l : List Int) (hl : InB l) (n : Nat) (hn : (l.flatMap pieceL).length ≤ n) : shownL n (l.flatMap pieceL) = some l := by
  induction l generalizing n with
  | nil => cases n <;> simp [shownL]
  | cons b t ih =>
    have hb := hl b (by simp)
    have hp := piece_pos b
    rw [List.flatMap_cons] at hn ⊢
    rw [List.length_append] at hn
    cases n with
    | zero => omega
    | succ n =>
      have hne : pieceL b ++ t.flatMap pieceL ≠ [] := fun e => by
        have := congrArg List.length e
        rw [List.length_append] at this
        simp only [List.length_nil] at this
        omega
      rw [shownL, if_neg hne, first_piece b hb.1 hb.2]
      simp only
      rw [if_neg (by omega), List.drop_left, ih (fun c hc => hl c (List.mem_cons_of_mem _ hc)) n (by omega)]
      rfl

/-! ### The least width -/
def leastGo : List Int → Nat → Nat → Nat
  | [], m, _ => m
  | c :: t, m, n => leastGo t (if m + 1 < (if c = 10 then 0 else n + 1) ∧ t.head? = some 10 then (if c = 10 then 0 else n + 1) - 1 else m) (if c = 10 then 0 else n + 1)
def leastL (l : List Int) : Nat := leastGo l 4 0
theorem least_row (r : List Int) (x : Int) (hx : x ≠ 10) (t : List Int) (m n : Nat) (h : ∀ c ∈ r, c ≠ 10) : leastGo (r ++ x :: 10 :: t) m n = leastGo t (max m (n + r.length)) 0 := by
  induction r generalizing n with
  | nil =>
    rw [List.nil_append, leastGo, leastGo]
    simp only [if_neg hx, List.head?_cons, and_true, List.length_nil, Nat.add_zero]
    have h1 : ∀ q : Nat, ¬ (q + 1 < 0 ∧ t.head? = some 10) := fun q h => by omega
    simp only [if_pos, h1, if_false]
    congr 1
    split <;> omega
  | cons c r ih =>
    have hc := h c (by simp)
    have ih := ih (n + 1) fun x hx => h x (List.mem_cons_of_mem _ hx)
    rw [List.cons_append, leastGo]
    have hn : ¬ (m + 1 < (if c = 10 then 0 else n + 1) ∧ (r ++ x :: 10 :: t).head? = some 10) := by
      rintro ⟨_, h2⟩
      cases r with
      | nil => simp at h2; exact hx h2
      | cons d r => simp at h2; exact h d (by simp) h2
    rw [if_neg hn, if_neg hc, ih, List.length_cons]
    congr 2
    omega
/-- The longest row, and at least m. -/
def mostR (m : Nat) (rs : List (List Int)) : Nat := rs.foldl (fun a r => max a r.length) m
theorem most_le (rs : List (List Int)) (m : Nat) : m ≤ mostR m rs ∧ ∀ r ∈ rs, r.length ≤ mostR m rs := by
  induction rs generalizing m with
  | nil => exact ⟨Nat.le_refl _, fun r hr => (by cases hr)⟩
  | cons x t ih =>
    obtain ⟨h1, h2⟩ := ih (max m x.length)
    refine ⟨Nat.le_trans (Nat.le_max_left _ _) h1, fun r hr => ?_⟩
    rcases List.mem_cons.1 hr with rfl | hr
    · exact Nat.le_trans (Nat.le_max_right _ _) h1
    · exact h2 r hr
theorem most_ge (rs : List (List Int)) (m W : Nat) (h : m ≤ W) (h1 : ∀ r ∈ rs, r.length ≤ W) : mostR m rs ≤ W := by
  induction rs generalizing m with
  | nil => exact h
  | cons x t ih => exact ih (max m x.length) (by have := h1 x (by simp); omega) fun r hr => h1 r (List.mem_cons_of_mem _ hr)
theorem least_render (s : RowSt) (h1 : ∀ r ∈ s.1, Fair r) (h2 : Fair s.2) (m : Nat) : leastGo (render s ++ [36, 10]) m 0 = mostR m (s.1 ++ [s.2]) := by
  obtain ⟨d, c⟩ := s
  have no : ∀ r : List Int, Fair r → ∀ x ∈ r, x ≠ 10 := fun r hr x hx => by have := hr x hx; omega
  induction d generalizing m with
  | nil =>
    have e : render (([], c) : RowSt) ++ [36, 10] = c ++ 36 :: 10 :: [] := by simp [render]
    rw [e, least_row c 36 (by omega) [] m 0 (no c h2)]
    simp [leastGo, mostR]
  | cons r d ih =>
    have e : render ((r :: d, c) : RowSt) ++ [36, 10] = r ++ 92 :: 10 :: (render ((d, c) : RowSt) ++ [36, 10]) := by simp [render]
    rw [e, least_row r 92 (by omega) _ m 0 (no r (h1 r (by simp))), ih _ (fun x hx => h1 x (List.mem_cons_of_mem _ hx)) h2, Nat.zero_add]
    rfl

theorem leastGo_le (l : List Int) : ∀ m n : Nat, m ≤ leastGo l m n ∧ leastGo l m n ≤ max m (n + l.length) := by
  induction l with
  | nil => intro m n; rw [leastGo]; omega
  | cons c t ih =>
    intro m n
    rw [leastGo, List.length_cons]
    have hn1 : (if c = 10 then 0 else n + 1) ≤ n + 1 := by split <;> omega
    generalize (if c = 10 then 0 else n + 1) = n1 at hn1 ⊢
    by_cases hc : m + 1 < n1 ∧ t.head? = some 10
    · rw [if_pos hc]
      have := ih (n1 - 1) n1
      have := hc.1
      omega
    · rw [if_neg hc]
      have := ih m n1
      omega
theorem least_le (l : List Int) : 4 ≤ leastL l ∧ leastL l ≤ 4 + l.length := by
  have := leastGo_le l 4 0
  unfold leastL
  omega

/-! ### There and back -/
/-- What Back answers of a text. -/
def backL (s : List Int) : Option (List Int) :=
  if s.length < 2 then none else if s.drop (s.length - 2) ≠ [36, 10] then none
  else
    let rs := rowsOf s.length (s.take (s.length - 2))
    match shownL rs.flatten.length rs.flatten with
    | none => none
    | some x => if rowL (mostR 4 rs) x = s then some x else none
theorem rows_cnt (W : Nat) (l : List Int) : (rowsR W l).1.length ≤ (render (rowsR W l)).length := by
  have : ∀ (d : List (List Int)) (c : List Int), d.length ≤ (render (d, c)).length := by
    intro d c
    induction d with
    | nil => simp
    | cons r d ih => simp [render] at ih ⊢; omega
  exact this _ _
theorem same_width (W : Nat) (hW : 4 ≤ W) (l : List Int) (hl : InB l) : rowL (mostR 4 ((rowsR W l).1 ++ [(rowsR W l).2])) l = rowL W l := by
  have ok := rows_ok W hW l hl
  have hle : ∀ r ∈ (rowsR W l).1 ++ [(rowsR W l).2], r.length ≤ W := fun r hr => by
    rcases List.mem_append.1 hr with hr | hr
    · exact ok.len1 r hr
    · rw [List.mem_singleton.1 hr]; exact ok.len2
  have h := (most_le ((rowsR W l).1 ++ [(rowsR W l).2]) 4).2
  unfold rowL
  rw [rows_less W _ (most_ge _ _ _ hW hle) l (fun r hr => h r (List.mem_append.2 (.inl hr))) (h _ (List.mem_append.2 (.inr (by simp))))]
theorem back_row (W : Nat) (hW : 4 ≤ W) (l : List Int) (hl : InB l) : backL (rowL W l) = some l := by
  have ok := rows_ok W hW l hl
  have hn : (rowL W l).length = (render (rowsR W l)).length + 2 := by unfold rowL; simp
  have ht : (rowL W l).take ((rowL W l).length - 2) = render (rowsR W l) := by rw [hn]; unfold rowL; simp
  have hd : (rowL W l).drop ((rowL W l).length - 2) = [36, 10] := by rw [hn]; unfold rowL; simp
  unfold backL
  rw [if_neg (by omega), hd, if_neg (by simp), ht, rowsOf_render _ _ (by have := rows_cnt W l; omega) ok.fair1 ok.fair2]
  have e : ((rowsR W l).1 ++ [(rowsR W l).2]).flatten = l.flatMap pieceL := by rw [List.flatten_append, ← ok.all]; simp
  simp only [e]
  rw [shown_pieces l hl _ (Nat.le_refl _)]
  simp only
  rw [same_width W hW l hl, if_pos rfl]
theorem shown_in (n : Nat) (p x : List Int) (hp : InB p) (h : shownL n p = some x) : InB x := by
  induction n generalizing p x with
  | zero => rw [shownL] at h; cases h; intro c hc; cases hc
  | succ n ih =>
    rw [shownL] at h
    split at h
    · cases h; intro c hc; cases hc
    · split at h
      · cases h
      · cases hk : shownL n (p.drop (firstL p).2) with
        | none => rw [hk] at h; cases h
        | some o =>
          rw [hk] at h
          simp at h
          subst h
          have io := ih _ _ (fun c hc => hp c (List.mem_of_mem_drop hc)) hk
          intro c hc
          rcases List.mem_cons.1 hc with rfl | hc
          · rename_i hz
            unfold firstL at hz ⊢
            match p, hp, hz with
            | c :: t, hp, hz =>
              simp only at hz ⊢
              split
              · exact hp c (by simp)
              · match t with
                | [] => exact ⟨by simp, by simp⟩
                | [d] => simp only; split; (unfold ltrOf; simp only; repeat' split) <;> omega; exact ⟨by simp, by simp⟩
                | [d, e] => simp only; split; (unfold ltrOf; simp only; repeat' split) <;> omega; exact ⟨by simp, by simp⟩
                | d :: e :: f :: u =>
                  simp only
                  split
                  · unfold ltrOf; simp only; (repeat' split) <;> omega
                  · split
                    · simp only; omega
                    · exact ⟨by simp, by simp⟩
          · exact io c hc
theorem rowsOf_sub (n : Nat) (s : List Int) : ∀ r ∈ rowsOf n s, ∀ c ∈ r, c ∈ s := by
  induction n generalizing s with
  | zero => intro r hr c hc; rw [rowsOf, List.mem_singleton] at hr; subst hr; exact hc
  | succ n ih =>
    intro r hr c hc
    rw [rowsOf] at hr
    cases hk : cutL s with
    | none => rw [hk] at hr; rw [List.mem_singleton.1 hr] at hc; exact hc
    | some x =>
      rw [hk] at hr
      have e := cut_len (r := x.1) (t := x.2) hk
      rw [e]
      rcases List.mem_cons.1 hr with rfl | hr
      · simp [hc]
      · have := ih x.2 r hr c hc; simp [this]
theorem rowsOf_len (n : Nat) (s : List Int) : (rowsOf n s).flatten.length ≤ s.length := by
  induction n generalizing s with
  | zero => simp [rowsOf]
  | succ n ih =>
    rw [rowsOf]
    cases hk : cutL s with
    | none => simp
    | some x =>
      have e := cut_len (r := x.1) (t := x.2) hk
      have := ih x.2
      rw [e, List.flatten_cons, List.length_append, List.length_append, List.length_cons, List.length_cons]
      omega
theorem back_in {s x : List Int} (hs : InB s) (h : backL s = some x) : InB x ∧ rowL (leastL s) x = s := by
  unfold backL at h
  split at h
  · cases h
  · split at h
    · cases h
    · simp only at h
      generalize hrs : rowsOf s.length (s.take (s.length - 2)) = rs at h
      cases hk : shownL rs.flatten.length rs.flatten with
      | none => rw [hk] at h; cases h
      | some y =>
        rw [hk] at h
        simp only at h
        split at h
        · rename_i he
          cases h
          have hin : InB rs.flatten := fun c hc => by
            obtain ⟨r, hr, hc⟩ := List.mem_flatten.1 hc
            exact hs c (List.mem_of_mem_take (rowsOf_sub _ _ r (by rw [hrs]; exact hr) c hc))
          have hx := shown_in _ _ _ hin hk
          refine ⟨hx, ?_⟩
          have h4 := (most_le rs 4).1
          have ok := rows_ok _ h4 x hx
          have e : leastL s = mostR 4 ((rowsR (mostR 4 rs) x).1 ++ [(rowsR (mostR 4 rs) x).2]) := by
            rw [← he]
            exact least_render _ ok.fair1 ok.fair2 4
          rw [e, same_width _ h4 x hx, he]
        · cases h

/-! ### The rows, looked through -/
/-- The bytes of the rows of a text, if none is longer than m and all can be seen. -/
def scanL (m : Nat) : List Int → Nat → Option (List Int)
  | [], _ => some []
  | [c], row => if m < row + 1 ∨ c < 32 ∨ 126 < c then none else some [c]
  | c :: d :: t, row => if c = 92 ∧ d = 10 then scanL m t 0 else if m < row + 1 ∨ c < 32 ∨ 126 < c then none else (scanL m (d :: t) (row + 1)).map (c :: ·)
theorem scan_row (m : Nat) (r t : List Int) (row : Nat) (h : Fair r) (hl : row + r.length ≤ m) : scanL m (r ++ 92 :: 10 :: t) row = (scanL m t 0).map (r ++ ·) := by
  induction r generalizing row with
  | nil => rw [List.nil_append, scanL, if_pos ⟨rfl, rfl⟩]; cases scanL m t 0 <;> rfl
  | cons c r ih =>
    have hc := h c (by simp)
    simp only [List.length_cons] at hl
    have ih := ih (row + 1) (fun x hx => h x (List.mem_cons_of_mem _ hx)) (by omega)
    have hok : ¬ (m < row + 1 ∨ c < 32 ∨ 126 < c) := by omega
    cases r with
    | nil =>
      rw [List.nil_append] at ih
      rw [List.cons_append, List.nil_append, scanL, if_neg (by omega), if_neg hok, ih]
      cases scanL m t 0 <;> rfl
    | cons d r =>
      have hd := h d (by simp)
      rw [List.cons_append] at ih
      rw [List.cons_append, List.cons_append, scanL, if_neg (by omega), if_neg hok, ih]
      cases scanL m t 0 <;> rfl
theorem scan_last (m : Nat) (r : List Int) (row : Nat) (h : Fair r) (hl : row + r.length ≤ m) : scanL m r row = some r := by
  induction r generalizing row with
  | nil => rfl
  | cons c r ih =>
    have hc := h c (by simp)
    simp only [List.length_cons] at hl
    have ih := ih (row + 1) (fun x hx => h x (List.mem_cons_of_mem _ hx)) (by omega)
    have hok : ¬ (m < row + 1 ∨ c < 32 ∨ 126 < c) := by omega
    cases r with
    | nil => rw [scanL, if_neg hok]
    | cons d r =>
      have hd := h d (by simp)
      rw [scanL, if_neg (by omega), if_neg hok, ih]; rfl
theorem scan_render (m : Nat) (s : RowSt) (h1 : ∀ r ∈ s.1, Fair r) (h2 : Fair s.2) (l1 : ∀ r ∈ s.1, r.length ≤ m) (l2 : s.2.length ≤ m) : scanL m (render s) 0 = some (s.1.flatten ++ s.2) := by
  obtain ⟨d, c⟩ := s
  induction d with
  | nil =>
    have e : render (([], c) : RowSt) = c := by simp [render]
    rw [e, scan_last m c 0 h2 (by simpa using l2)]; rfl
  | cons r d ih =>
    have e : render ((r :: d, c) : RowSt) = r ++ 92 :: 10 :: render ((d, c) : RowSt) := by simp [render]
    rw [e, scan_row m r _ 0 (h1 r (by simp)) (by simpa using l1 r (by simp)), ih (fun x hx => h1 x (List.mem_cons_of_mem _ hx)) h2 (fun x hx => l1 x (List.mem_cons_of_mem _ hx)) l2]
    simp
end Go.Proofs.YtkiiidhfjieknaaDoor
