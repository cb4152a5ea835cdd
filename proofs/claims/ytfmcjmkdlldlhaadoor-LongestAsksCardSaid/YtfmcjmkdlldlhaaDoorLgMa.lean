/-
  The laws of layer 8 in plain mathematics: the machine of some bytes; texts with bytes ahead and behind; a split into two machines.
-/
import Derived.Test.YtfmcjmkdlldlhaaDoorLgN
namespace Go.Proofs.YtfmcjmkdlldlhaaDoor
open Go.RowKit

/-! ### The match is the only one -/
theorem findF_in (M : List Ins) (tx : List Int) (hG : Good M) (f0 : Nat) : ∀ (k p : Nat) (L : List (Nat × Nat)) (b : Option (Nat × Nat)) (sp : Nat), k + p = tx.length + 1 → f0 ≤ p → Fnd M tx f0 p L b → ∀ b0 t0, (findF M tx k p L b sp).1 = some (b0, t0) → b0 ≤ tx.length := by
  intro k
  induction k with
  | zero =>
    intro p L b sp hk hfp h b0 t0 he
    have he : b = some (b0, t0) := he
    subst he
    obtain ⟨c1, c2, c3, _⟩ := h.bst
    have := isEnd_le M tx c2
    omega
  | succ k ih =>
    intro p L b sp hk hfp h b0 t0 he
    unfold findF at he
    split at he
    · have he : b = some (b0, t0) := he
      subst he
      obtain ⟨c1, c2, c3, _⟩ := h.bst
      have := isEnd_le M tx c2
      omega
    · exact ih _ _ _ _ (by omega) (by omega) (h.step M tx hG hfp sp) b0 t0 he
theorem find_in (M : List Ins) (tx : List Int) (hG : Good M) (f0 : Nat) (hf0 : f0 ≤ tx.length) (b0 t0 : Nat) (h : (findM M tx f0).1 = some (b0, t0)) : b0 ≤ tx.length := by
  unfold findM at h
  refine findF_in M tx hG f0 _ _ _ _ _ (by omega) (Nat.le_refl _) ⟨List.Pairwise.nil, fun t ht => (by cases ht), fun f hf hb j hj => ?_, fun f q hf hq he => ?_⟩ b0 t0 h
  · simp only [BTo] at hb; omega
  · have := isEnd_le M tx he
    omega
theorem find_some (M : List Ins) (tx : List Int) (hG : Good M) (f0 : Nat) (hf0 : f0 ≤ tx.length) (b t : Nat) (hb : f0 ≤ b) (hbl : b ≤ tx.length) (he : IsEnd M tx b t) (hno : ∀ f q, f0 ≤ f → f < b → ¬ IsEnd M tx f q) (hlast : ∀ q, t < q → ¬ IsEnd M tx b q) : (findM M tx f0).1 = some (b, t) := by
  have hs := find_spec M tx hG f0 hf0
  generalize (findM M tx f0).1 = o at hs ⊢
  cases o with
  | none => exact absurd he (hs b t hb hbl)
  | some bt =>
    obtain ⟨b0, t0⟩ := bt
    obtain ⟨c1, c2, c3, c4⟩ := hs
    have hbb : b0 = b := by
      rcases Nat.lt_trichotomy b0 b with h | h | h
      · exact absurd c2 (hno b0 t0 c1 h)
      · exact h
      · exact absurd he (c3 b t hb h)
    subst hbb
    have htt : t0 = t := by
      rcases Nat.lt_trichotomy t0 t with h | h | h
      · exact absurd he (c4 t h)
      · exact h
      · exact absurd c2 (hlast t0 h)
    rw [htt]
theorem find_nothing (M : List Ins) (tx : List Int) (hG : Good M) (f0 : Nat) (hf0 : f0 ≤ tx.length) (hno : ∀ f q, f0 ≤ f → f ≤ tx.length → ¬ IsEnd M tx f q) : (findM M tx f0).1 = none := by
  have hs := find_spec M tx hG f0 hf0
  have hi := find_in M tx hG f0 hf0
  generalize (findM M tx f0).1 = o at hs hi ⊢
  cases o with
  | none => rfl
  | some bt =>
    obtain ⟨b0, t0⟩ := bt
    obtain ⟨c1, c2, c3, c4⟩ := hs
    exact absurd c2 (hno b0 t0 c1 (hi b0 t0 rfl))
theorem bools_ext (l l' : List Bool) (hl : l.length = l'.length) (h : ∀ q : Nat, l[q]?.getD false = true ↔ l'[q]?.getD false = true) : l = l' := by
  apply List.ext_getElem hl
  intro i h1 h2
  have := h i
  rw [List.getElem?_eq_getElem h1, List.getElem?_eq_getElem h2] at this
  simp only [Option.getD_some] at this
  exact Bool.eq_iff_iff.2 this

/-! ### The machine of some bytes -/
def insB (x : Int) : Ins := ⟨1, withL noneL x.toNat, 0, 0⟩
def doneI : Ins := ⟨6, noneL, 0, 0⟩
def bytesM (b : List Int) : List Ins := b.map insB ++ [doneI]
theorem bytesM_len (b : List Int) : (bytesM b).length = b.length + 1 := by simp [bytesM]
theorem bytesM_get (b : List Int) (i : Nat) (h : i < b.length) : (bytesM b)[i]? = some (insB (b[i]?.getD 0)) := by
  unfold bytesM
  rw [List.getElem?_append_left (by simpa using h), List.getElem?_map, List.getElem?_eq_getElem h]
  rfl
theorem bytesM_end (b : List Int) : (bytesM b)[b.length]? = some doneI := by
  unfold bytesM
  rw [List.getElem?_append_right (by simp)]
  simp
theorem bytesM_out (b : List Int) (i : Nat) (h : b.length < i) : (bytesM b)[i]? = none := List.getElem?_eq_none (by rw [bytesM_len]; omega)
theorem bytesM_cases (b : List Int) (i : Nat) : (i < b.length ∧ (bytesM b)[i]? = some (insB (b[i]?.getD 0))) ∨ (i = b.length ∧ (bytesM b)[i]? = some doneI) ∨ (b.length < i ∧ (bytesM b)[i]? = none) := by
  rcases Nat.lt_trichotomy i b.length with h | h | h
  · exact .inl ⟨h, bytesM_get b i h⟩
  · subst h; exact .inr (.inl ⟨rfl, bytesM_end b⟩)
  · exact .inr (.inr ⟨h, bytesM_out b i h⟩)
theorem bytesM_push (b : List Int) (n p i : Nat) : pushes (bytesM b) n p i = [] := by
  unfold pushes
  rcases bytesM_cases b i with ⟨_, h⟩ | ⟨_, h⟩ | ⟨_, h⟩ <;> rw [h] <;> rfl
theorem bytesM_done (b : List Int) (i : Nat) : isDone (bytesM b) i = true ↔ i = b.length := by
  unfold isDone
  rcases bytesM_cases b i with ⟨h0, h⟩ | ⟨h0, h⟩ | ⟨h0, h⟩ <;> rw [h]
  · simp [insB]; omega
  · simp [doneI, h0]
  · simp; omega
theorem bytesM_takes (b tx : List Int) (hb : IsB b) (ht : IsB tx) (p i : Nat) : takesB (bytesM b) tx p i = true ↔ i < b.length ∧ p < tx.length ∧ tx[p]?.getD 0 = b[i]?.getD 0 := by
  unfold takesB
  rcases bytesM_cases b i with ⟨h0, h⟩ | ⟨h0, h⟩ | ⟨h0, h⟩ <;> rw [h]
  · have r1 : 0 ≤ b[i]?.getD 0 ∧ b[i]?.getD 0 ≤ 255 := hb i
    have r2 : 0 ≤ tx[p]?.getD 0 ∧ tx[p]?.getD 0 ≤ 255 := ht p
    simp only [insB, decide_true, Bool.true_and, Bool.and_eq_true, decide_eq_true_eq]
    rw [has_with noneL _ _ isC_none (by omega), has_none]
    simp only [Bool.false_or, decide_eq_true_eq]
    constructor
    · rintro ⟨h1, h2⟩; exact ⟨h0, h1, by omega⟩
    · rintro ⟨_, h1, h2⟩; exact ⟨h1, by omega⟩
  · simp [doneI]; omega
  · simp; omega
/-- The bytes b stand at f, as far as i. -/
def Sits (b tx : List Int) (f i : Nat) : Prop := ∀ k, k < i → f + k < tx.length ∧ tx[f + k]?.getD 0 = b[k]?.getD 0
theorem run_bytes (b tx : List Int) (hb : IsB b) (ht : IsB tx) {f i p : Nat} (h : Run (bytesM b) tx f i p) : p = f + i ∧ i ≤ b.length ∧ Sits b tx f i := by
  induction h with
  | start => exact ⟨rfl, Nat.zero_le _, fun k h => absurd h (Nat.not_lt_zero _)⟩
  | eps _ hj _ => rw [bytesM_push] at hj; cases hj
  | byte _ hj ih =>
    obtain ⟨rfl, h2, h3⟩ := ih
    obtain ⟨t1, t2, t3⟩ := (bytesM_takes b tx hb ht _ _).1 hj
    refine ⟨by omega, by omega, fun k hk => ?_⟩
    rcases Nat.lt_succ_iff_lt_or_eq.1 hk with h | rfl
    · exact h3 k h
    · exact ⟨t2, t3⟩
theorem bytes_run (b tx : List Int) (hb : IsB b) (ht : IsB tx) (f : Nat) : ∀ i, i ≤ b.length → Sits b tx f i → Run (bytesM b) tx f i (f + i)
  | 0, _, _ => .start
  | i + 1, h, hs => .byte (bytes_run b tx hb ht f i (by omega) fun k hk => hs k (by omega)) ((bytesM_takes b tx hb ht _ _).2 ⟨by omega, (hs i (by omega)).1, (hs i (by omega)).2⟩)
theorem isEnd_bytes (b tx : List Int) (hb : IsB b) (ht : IsB tx) (f q : Nat) : IsEnd (bytesM b) tx f q ↔ q = f + b.length ∧ Sits b tx f b.length := by
  constructor
  · rintro ⟨i, h1, h2⟩
    obtain rfl := (bytesM_done b i).1 h2
    obtain ⟨h3, _, h4⟩ := run_bytes b tx hb ht h1
    exact ⟨h3, h4⟩
  · rintro ⟨rfl, h⟩
    exact ⟨b.length, bytes_run b tx hb ht f _ (Nat.le_refl _) h, (bytesM_done b _).2 rfl⟩
theorem sits_iff (b tx : List Int) (f : Nat) (hf : f + b.length ≤ tx.length) : Sits b tx f b.length ↔ (tx.drop f).take b.length = b := by
  constructor
  · intro h
    apply List.ext_getElem (by simp; omega)
    intro i h1 h2
    have h := (h i h2).2
    rw [List.getElem?_eq_getElem (by omega), List.getElem?_eq_getElem h2] at h
    simpa using h
  · intro h k hk
    refine ⟨by omega, ?_⟩
    have h1 : ((tx.drop f).take b.length)[k]? = b[k]? := by rw [h]
    rw [List.getElem?_take_of_lt hk, List.getElem?_drop] at h1
    rw [h1]
theorem sits_in (b tx : List Int) (f : Nat) (hf : f ≤ tx.length) (h : Sits b tx f b.length) : f + b.length ≤ tx.length := by
  by_cases h0 : b.length = 0
  · omega
  · have := (h (b.length - 1) (by omega)).1; omega
theorem allOk_of {n : Nat} : ∀ (l : List Ins) (i : Nat), (∀ k a, l[k]? = some a → insOk n (i + k) a = true) → allOk n i l = true
  | [], _, _ => rfl
  | a :: l, i, h => by
    rw [allOk, Bool.and_eq_true]
    refine ⟨h 0 a rfl, allOk_of l (i + 1) fun k x hx => ?_⟩
    have := h (k + 1) x (by simpa using hx)
    rwa [show i + (k + 1) = i + 1 + k by omega] at this
theorem shapedM_of (M : List Ins) (h1 : 1 ≤ M.length) (h2 : M.length ≤ 65540) (h3 : ∀ k a, M[k]? = some a → insOk M.length k a = true) : shapedM M = true := by
  unfold shapedM
  rw [decide_eq_true h1, decide_eq_true h2, allOk_of M 0 fun k a h => by rw [Nat.zero_add]; exact h3 k a h]
  rfl
theorem bytesM_shaped (b : List Int) (h : b.length ≤ 65536) : shapedM (bytesM b) = true := by
  refine shapedM_of _ (by rw [bytesM_len]; omega) (by rw [bytesM_len]; omega) fun k a hk => ?_
  rw [bytesM_len]
  rcases bytesM_cases b k with ⟨h0, h⟩ | ⟨h0, h⟩ | ⟨h0, h⟩ <;> rw [h] at hk
  · simp only [Option.some.injEq] at hk
    subst hk
    simp [insOk, insB]; omega
  · simp only [Option.some.injEq] at hk
    subst hk
    simp [insOk, doneI]
  · cases hk
theorem bytesM_good (b : List Int) (h : b.length ≤ 65536) : Good (bytesM b) := (shp_of _ (bytesM_shaped b h)).good
theorem bytes_found (b tx : List Int) (hb : IsB b) (ht : IsB tx) (hl : b.length ≤ 65536) (f0 p : Nat) (hp : f0 ≤ p) (hin : p + b.length ≤ tx.length) (hs : (tx.drop p).take b.length = b) (hno : ∀ f, f0 ≤ f → f < p → (tx.drop f).take b.length ≠ b) : (findM (bytesM b) tx f0).1 = some (p, p + b.length) := by
  refine find_some _ tx (bytesM_good b hl) f0 (by omega) p _ hp (by omega) ((isEnd_bytes b tx hb ht _ _).2 ⟨rfl, (sits_iff b tx p hin).2 hs⟩) (fun f q h1 h2 h3 => ?_) (fun q h1 h2 => ?_)
  · obtain ⟨_, h4⟩ := (isEnd_bytes b tx hb ht _ _).1 h3
    exact hno f h1 h2 ((sits_iff b tx f (by omega)).1 h4)
  · obtain ⟨h4, _⟩ := (isEnd_bytes b tx hb ht _ _).1 h2
    omega
theorem bytes_none (b tx : List Int) (hb : IsB b) (ht : IsB tx) (hl : b.length ≤ 65536) (f0 : Nat) (hf : f0 ≤ tx.length) (hno : ∀ f, f0 ≤ f → f + b.length ≤ tx.length → (tx.drop f).take b.length ≠ b) : (findM (bytesM b) tx f0).1 = none := by
  refine find_nothing _ tx (bytesM_good b hl) f0 hf fun f q h1 h2 h3 => ?_
  obtain ⟨_, h4⟩ := (isEnd_bytes b tx hb ht _ _).1 h3
  have h5 := sits_in b tx f h2 h4
  exact hno f h1 h5 ((sits_iff b tx f h5).1 h4)

/-! ### Bytes ahead -/
theorem push_ahead (M : List Ins) (h2 : ∀ x ∈ M, x.op ≠ 2) (n p k i : Nat) : pushes M (n + k) (p + k) i = pushes M n p i := by
  unfold pushes
  cases h : M[i]? with
  | none => rfl
  | some a =>
    simp only [if_neg (h2 a (List.mem_of_getElem? h)), Nat.add_right_cancel_iff]
theorem takes_ahead (M : List Ins) (A T : List Int) (p i : Nat) : takesB M (A ++ T) (p + A.length) i = takesB M T p i := by
  unfold takesB
  cases M[i]? with
  | none => rfl
  | some a =>
    rw [List.getElem?_append_right (by omega), List.length_append, show p + A.length - A.length = p by omega, decide_eq_decide.2 (show p + A.length < A.length + T.length ↔ p < T.length by omega)]
theorem run_ahead (M : List Ins) (h2 : ∀ x ∈ M, x.op ≠ 2) (A T : List Int) {f i q : Nat} (h : Run M (A ++ T) (f + A.length) i q) : ∃ p, q = p + A.length ∧ Run M T f i p := by
  induction h with
  | start => exact ⟨f, rfl, .start⟩
  | eps _ hj ih =>
    obtain ⟨p, rfl, h⟩ := ih
    rw [List.length_append, Nat.add_comm A.length, push_ahead M h2] at hj
    exact ⟨p, rfl, .eps h hj⟩
  | byte _ hj ih =>
    obtain ⟨p, rfl, h⟩ := ih
    rw [takes_ahead] at hj
    exact ⟨p + 1, by omega, .byte h hj⟩
theorem ahead_run (M : List Ins) (h2 : ∀ x ∈ M, x.op ≠ 2) (A T : List Int) {f i p : Nat} (h : Run M T f i p) : Run M (A ++ T) (f + A.length) i (p + A.length) := by
  induction h with
  | start => exact .start
  | eps _ hj ih =>
    refine .eps ih ?_
    rw [List.length_append, Nat.add_comm A.length, push_ahead M h2]
    exact hj
  | byte _ hj ih =>
    rw [show ∀ p, p + 1 + A.length = p + A.length + 1 from fun p => by omega]
    refine .byte ih ?_
    rw [takes_ahead]
    exact hj
theorem ends_ahead (M : List Ins) (hG : Good M) (h2 : ∀ x ∈ M, x.op ≠ 2) (A T : List Int) : (endsM M (A ++ T) A.length).1.drop A.length = (endsM M T 0).1 := by
  obtain ⟨l1, s1⟩ := ends_spec M (A ++ T) hG A.length (by simp)
  obtain ⟨l2, s2⟩ := ends_spec M T hG 0 (Nat.zero_le _)
  refine bools_ext _ _ (by rw [List.length_drop, l1, l2, List.length_append]; omega) fun q => ?_
  rw [List.getElem?_drop, s1, s2]
  constructor
  · rintro ⟨i, h1, h3⟩
    rw [← Nat.zero_add A.length] at h1
    obtain ⟨p, hp, h4⟩ := run_ahead M h2 A T h1
    obtain rfl : q = p := by omega
    exact ⟨i, h4, h3⟩
  · rintro ⟨i, h1, h3⟩
    have := ahead_run M h2 A T h1
    rw [Nat.zero_add, Nat.add_comm q] at this
    exact ⟨i, this, h3⟩

/-! ### Bytes behind -/
theorem push_behind (M : List Ins) (h3 : ∀ x ∈ M, x.op ≠ 3) (n m p i : Nat) : pushes M n p i = pushes M m p i := by
  unfold pushes
  cases h : M[i]? with
  | none => rfl
  | some a => simp only [if_neg (h3 a (List.mem_of_getElem? h))]
theorem takes_behind (M : List Ins) (T B : List Int) (p i : Nat) (hp : p < T.length) : takesB M (T ++ B) p i = takesB M T p i := by
  unfold takesB
  cases M[i]? with
  | none => rfl
  | some a =>
    rw [List.getElem?_append_left hp, List.length_append, decide_eq_true hp, decide_eq_true (show p < T.length + B.length by omega)]
theorem run_behind (M : List Ins) (h3 : ∀ x ∈ M, x.op ≠ 3) (T B : List Int) {f i p : Nat} (h : Run M (T ++ B) f i p) : p ≤ T.length → Run M T f i p := by
  induction h with
  | start => intro _; exact .start
  | eps _ hj ih =>
    intro hp
    exact .eps (ih hp) (by rw [push_behind M h3 _ (T ++ B).length]; exact hj)
  | byte _ hj ih =>
    intro hp
    exact .byte (ih (by omega)) (by rw [← takes_behind M T B _ _ (by omega)]; exact hj)
theorem behind_run (M : List Ins) (h3 : ∀ x ∈ M, x.op ≠ 3) (T B : List Int) {f i p : Nat} (h : Run M T f i p) : Run M (T ++ B) f i p := by
  induction h with
  | start => exact .start
  | eps _ hj ih => exact .eps ih (by rw [push_behind M h3 _ T.length]; exact hj)
  | byte _ hj ih => exact .byte ih (by rw [takes_behind M T B _ _ (takes_lt M T hj)]; exact hj)
theorem ends_behind (M : List Ins) (hG : Good M) (h3 : ∀ x ∈ M, x.op ≠ 3) (T B : List Int) : (endsM M (T ++ B) 0).1.take (T.length + 1) = (endsM M T 0).1 := by
  obtain ⟨l1, s1⟩ := ends_spec M (T ++ B) hG 0 (Nat.zero_le _)
  obtain ⟨l2, s2⟩ := ends_spec M T hG 0 (Nat.zero_le _)
  refine bools_ext _ _ (by rw [List.length_take, l1, l2, List.length_append]; omega) fun q => ?_
  by_cases hq : q < T.length + 1
  · rw [List.getElem?_take_of_lt hq, s1, s2]
    constructor
    · rintro ⟨i, h1, h4⟩
      exact ⟨i, run_behind M h3 T B h1 (by omega), h4⟩
    · rintro ⟨i, h1, h4⟩
      exact ⟨i, behind_run M h3 T B h1, h4⟩
  · rw [List.getElem?_eq_none (by simp; omega), List.getElem?_eq_none (by omega)]

/-! ### A split into two machines -/
def placeI (k : Int) (a : Ins) : Ins := ⟨a.op, a.set, if a.op = 4 ∨ a.op = 5 then a.x + k else a.x, if a.op = 5 then a.y + k else a.y⟩
def placedM (k : Int) (M : List Ins) : List Ins := M.map (placeI k)
theorem placedM_len (k : Int) (M : List Ins) : (placedM k M).length = M.length := by simp [placedM]
theorem placedM_get (k : Int) (M : List Ins) (i : Nat) : (placedM k M)[i]? = M[i]?.map (placeI k) := by simp [placedM]
def bothM (A B : List Ins) : List Ins := ⟨5, noneL, 1, 1 + (A.length : Int)⟩ :: (placedM 1 A ++ placedM (1 + (A.length : Int)) B)
theorem bothM_len (A B : List Ins) : (bothM A B).length = A.length + B.length + 1 := by simp [bothM, placedM_len]
theorem bothM_a (A B : List Ins) (i : Nat) (h : i < A.length) : (bothM A B)[i + 1]? = A[i]?.map (placeI 1) := by
  rw [bothM, List.getElem?_cons_succ, List.getElem?_append_left (by rw [placedM_len]; exact h), placedM_get]
theorem bothM_b (A B : List Ins) (i : Nat) : (bothM A B)[i + (A.length + 1)]? = B[i]?.map (placeI (1 + (A.length : Int))) := by
  rw [bothM, ← Nat.add_assoc, List.getElem?_cons_succ, List.getElem?_append_right (by rw [placedM_len]; omega), placedM_get, placedM_len, Nat.add_sub_cancel]
theorem insOk_place (n i m k : Nat) (a : Ins) (h : insOk n i a = true) (hi : i < n) (hk : k + n ≤ m) (hl : i + 1 = n → a.op = 4 ∨ a.op = 5 ∨ a.op = 6 ∨ k + n < m ∨ True) : insOk m (i + k) (placeI k a) = true := by
  obtain ⟨op, set, x, y⟩ := a
  unfold placeI
  unfold insOk at h ⊢
  dsimp only at h ⊢
  by_cases o1 : op = 1
  · rw [if_pos o1] at h ⊢
    simp only [Bool.and_eq_true, decide_eq_true_eq] at h ⊢
    rw [if_neg (by omega), if_neg (by omega)]
    exact ⟨⟨by omega, h.1.2⟩, h.2⟩
  · rw [if_neg o1] at h ⊢
    by_cases o2 : op = 2 ∨ op = 3
    · rw [if_pos o2] at h ⊢
      simp only [Bool.and_eq_true, decide_eq_true_eq] at h ⊢
      rw [if_neg (by omega), if_neg (by omega)]
      exact ⟨⟨⟨by omega, h.1.1.2⟩, h.1.2⟩, h.2⟩
    · rw [if_neg o2] at h ⊢
      by_cases o4 : op = 4
      · rw [if_pos o4] at h ⊢
        simp only [Bool.and_eq_true, decide_eq_true_eq] at h ⊢
        rw [if_pos (.inl o4), if_neg (by omega)]
        exact ⟨⟨⟨by omega, by omega⟩, h.1.2⟩, h.2⟩
      · rw [if_neg o4] at h ⊢
        by_cases o5 : op = 5
        · rw [if_pos o5] at h ⊢
          simp only [Bool.and_eq_true, decide_eq_true_eq] at h ⊢
          rw [if_pos (.inr o5), if_pos o5]
          exact ⟨⟨⟨⟨by omega, by omega⟩, by omega⟩, by omega⟩, h.2⟩
        · rw [if_neg o5] at h ⊢
          simp only [Bool.and_eq_true, decide_eq_true_eq] at h ⊢
          rw [if_neg (by omega), if_neg o5]
          exact h
theorem shaped_parts {M : List Ins} (h : shapedM M = true) : 1 ≤ M.length ∧ M.length ≤ 65540 ∧ ∀ k a, M[k]? = some a → insOk M.length k a = true := by
  simp only [shapedM, Bool.and_eq_true, decide_eq_true_eq] at h
  exact ⟨h.1.1, h.1.2, fun k a hk => by have := allOk_at h.2 hk; rwa [Nat.zero_add] at this⟩
theorem bothM_shaped (A B : List Ins) (ha : shapedM A = true) (hb : shapedM B = true) (hl : A.length + B.length + 1 ≤ 65540) : shapedM (bothM A B) = true := by
  obtain ⟨a1, a2, a3⟩ := shaped_parts ha
  obtain ⟨b1, b2, b3⟩ := shaped_parts hb
  refine shapedM_of _ (by rw [bothM_len]; omega) (by rw [bothM_len]; omega) fun k x hk => ?_
  rw [bothM_len]
  match k with
  | 0 =>
    simp only [bothM, List.getElem?_cons_zero, Option.some.injEq] at hk
    subst hk
    simp [insOk]; omega
  | k + 1 =>
    by_cases h : k < A.length
    · rw [bothM_a A B k h] at hk
      obtain ⟨a, h1, rfl⟩ := Option.map_eq_some_iff.1 hk
      exact insOk_place A.length k _ 1 a (a3 k a h1) h (by omega) fun _ => .inr (.inr (.inr (.inr trivial)))
    · obtain ⟨j, rfl⟩ := Nat.exists_eq_add_of_le (Nat.le_of_not_lt h)
      rw [show A.length + j + 1 = j + (A.length + 1) by omega] at hk ⊢
      rw [bothM_b] at hk
      obtain ⟨a, h1, rfl⟩ := Option.map_eq_some_iff.1 hk
      have hj := (List.getElem?_eq_some_iff.1 h1).1
      have := insOk_place B.length j (A.length + B.length + 1) (A.length + 1) a (b3 j a h1) hj (by omega) fun _ => .inr (.inr (.inr (.inr trivial)))
      rwa [show ((A.length + 1 : Nat) : Int) = 1 + (A.length : Int) by omega] at this
theorem push_place (M N : List Ins) (k : Nat) (n p i : Nat) (a : Ins) (ha : M[i]? = some a) (hN : N[i + k]? = some (placeI k a)) (hx : (a.op = 4 ∨ a.op = 5 → 0 ≤ a.x) ∧ (a.op = 5 → 0 ≤ a.y)) : pushes N n p (i + k) = (pushes M n p i).map (· + k) := by
  unfold pushes
  rw [ha, hN]
  obtain ⟨op, set, x, y⟩ := a
  unfold placeI
  dsimp only at hx ⊢
  by_cases o2 : op = 2
  · rw [if_pos o2, if_pos o2]; split <;> simp; omega
  · rw [if_neg o2, if_neg o2]
    by_cases o3 : op = 3
    · rw [if_pos o3, if_pos o3]; split <;> simp; omega
    · rw [if_neg o3, if_neg o3]
      by_cases o4 : op = 4
      · have := hx.1 (.inl o4)
        rw [if_pos o4, if_pos o4, if_pos (.inl o4)]
        simp; omega
      · rw [if_neg o4, if_neg o4]
        by_cases o5 : op = 5
        · have := hx.1 (.inr o5)
          have := hx.2 o5
          rw [if_pos o5, if_pos o5, if_pos (.inr o5), if_pos o5]
          simp; omega
        · rw [if_neg o5, if_neg o5]; rfl
theorem takes_place (M N : List Ins) (k : Nat) (tx : List Int) (p i : Nat) (a : Ins) (ha : M[i]? = some a) (hN : N[i + k]? = some (placeI k a)) : takesB N tx p (i + k) = takesB M tx p i := by
  unfold takesB
  rw [ha, hN]
  rfl
theorem done_place (M N : List Ins) (k : Nat) (i : Nat) (a : Ins) (ha : M[i]? = some a) (hN : N[i + k]? = some (placeI k a)) : isDone N (i + k) = isDone M i := by
  unfold isDone
  rw [ha, hN]
  rfl
section
variable (A B : List Ins) (tx : List Int) (ha : shapedM A = true) (hb : shapedM B = true)
include ha hb
theorem run_both {f i p : Nat} (h : Run (bothM A B) tx f i p) : (i = 0 ∧ p = f) ∨ (∃ j, i = j + 1 ∧ Run A tx f j p) ∨ (∃ j, i = j + (A.length + 1) ∧ Run B tx f j p) := by
  have SA := shp_of A ha
  have SB := shp_of B hb
  induction h with
  | start => exact .inl ⟨rfl, rfl⟩
  | eps _ hj ih =>
    rcases ih with ⟨rfl, rfl⟩ | ⟨j, rfl, h⟩ | ⟨j, rfl, h⟩
    · simp only [pushes, bothM, List.getElem?_cons_zero] at hj
      simp at hj
      rcases hj with rfl | rfl
      · exact .inr (.inl ⟨0, rfl, .start⟩)
      · exact .inr (.inr ⟨0, by omega, .start⟩)
    · have hl := run_lt A tx SA.good h
      obtain ⟨a, h1⟩ : ∃ a, A[j]? = some a := ⟨_, List.getElem?_eq_getElem hl⟩
      rw [push_place A (bothM A B) 1 _ _ j a h1 (by rw [bothM_a A B j hl, h1]; rfl) (SA.xs a (List.mem_of_getElem? h1)), List.mem_map] at hj
      obtain ⟨y, hy, rfl⟩ := hj
      exact .inr (.inl ⟨y, rfl, .eps h hy⟩)
    · have hl := run_lt B tx SB.good h
      obtain ⟨a, h1⟩ : ∃ a, B[j]? = some a := ⟨_, List.getElem?_eq_getElem hl⟩
      rw [push_place B (bothM A B) (A.length + 1) _ _ j a h1 (by rw [bothM_b A B j, h1, Nat.add_comm A.length 1]; rfl) (SB.xs a (List.mem_of_getElem? h1)), List.mem_map] at hj
      obtain ⟨y, hy, rfl⟩ := hj
      exact .inr (.inr ⟨y, rfl, .eps h hy⟩)
  | byte _ hj ih =>
    rcases ih with ⟨rfl, rfl⟩ | ⟨j, rfl, h⟩ | ⟨j, rfl, h⟩
    · simp [takesB, bothM] at hj
    · have hl := run_lt A tx SA.good h
      obtain ⟨a, h1⟩ : ∃ a, A[j]? = some a := ⟨_, List.getElem?_eq_getElem hl⟩
      rw [takes_place A (bothM A B) 1 _ _ j a h1 (by rw [bothM_a A B j hl, h1]; rfl)] at hj
      exact .inr (.inl ⟨j + 1, rfl, .byte h hj⟩)
    · have hl := run_lt B tx SB.good h
      obtain ⟨a, h1⟩ : ∃ a, B[j]? = some a := ⟨_, List.getElem?_eq_getElem hl⟩
      rw [takes_place B (bothM A B) (A.length + 1) _ _ j a h1 (by rw [bothM_b A B j, h1, Nat.add_comm A.length 1]; rfl)] at hj
      exact .inr (.inr ⟨j + 1, by omega, .byte h hj⟩)
omit hb in
theorem both_a {f i p : Nat} (h : Run A tx f i p) : Run (bothM A B) tx f (i + 1) p := by
  have SA := shp_of A ha
  induction h with
  | start => exact .eps .start (by simp [pushes, bothM])
  | eps h0 hj ih =>
    have hl := run_lt A tx SA.good h0
    obtain ⟨a, h1⟩ : ∃ a, A[_]? = some a := ⟨_, List.getElem?_eq_getElem hl⟩
    refine .eps ih ?_
    rw [push_place A (bothM A B) 1 _ _ _ a h1 (by rw [bothM_a A B _ hl, h1]; rfl) (SA.xs a (List.mem_of_getElem? h1)), List.mem_map]
    exact ⟨_, hj, rfl⟩
  | byte h0 hj ih =>
    have hl := run_lt A tx SA.good h0
    obtain ⟨a, h1⟩ : ∃ a, A[_]? = some a := ⟨_, List.getElem?_eq_getElem hl⟩
    refine .byte ih ?_
    rw [takes_place A (bothM A B) 1 _ _ _ a h1 (by rw [bothM_a A B _ hl, h1]; rfl)]
    exact hj
omit ha in
theorem both_b {f i p : Nat} (h : Run B tx f i p) : Run (bothM A B) tx f (i + (A.length + 1)) p := by
  have SB := shp_of B hb
  induction h with
  | start => exact .eps .start (by simp [pushes, bothM]; omega)
  | eps h0 hj ih =>
    have hl := run_lt B tx SB.good h0
    obtain ⟨a, h1⟩ : ∃ a, B[_]? = some a := ⟨_, List.getElem?_eq_getElem hl⟩
    refine .eps ih ?_
    rw [push_place B (bothM A B) (A.length + 1) _ _ _ a h1 (by rw [bothM_b A B _, h1, Nat.add_comm A.length 1]; rfl) (SB.xs a (List.mem_of_getElem? h1)), List.mem_map]
    exact ⟨_, hj, rfl⟩
  | byte h0 hj ih =>
    have hl := run_lt B tx SB.good h0
    obtain ⟨a, h1⟩ : ∃ a, B[_]? = some a := ⟨_, List.getElem?_eq_getElem hl⟩
    rw [show ∀ i, i + 1 + (A.length + 1) = i + (A.length + 1) + 1 from fun i => by omega]
    refine .byte ih ?_
    rw [takes_place B (bothM A B) (A.length + 1) _ _ _ a h1 (by rw [bothM_b A B _, h1, Nat.add_comm A.length 1]; rfl)]
    exact hj
theorem isEnd_both (f q : Nat) : IsEnd (bothM A B) tx f q ↔ IsEnd A tx f q ∨ IsEnd B tx f q := by
  have SA := shp_of A ha
  have SB := shp_of B hb
  constructor
  · rintro ⟨i, h1, h2⟩
    rcases run_both A B tx ha hb h1 with ⟨rfl, rfl⟩ | ⟨j, rfl, h⟩ | ⟨j, rfl, h⟩
    · simp [isDone, bothM] at h2
    · have hl := run_lt A tx SA.good h
      obtain ⟨a, h3⟩ : ∃ a, A[j]? = some a := ⟨_, List.getElem?_eq_getElem hl⟩
      rw [done_place A (bothM A B) 1 j a h3 (by rw [bothM_a A B j hl, h3]; rfl)] at h2
      exact .inl ⟨j, h, h2⟩
    · have hl := run_lt B tx SB.good h
      obtain ⟨a, h3⟩ : ∃ a, B[j]? = some a := ⟨_, List.getElem?_eq_getElem hl⟩
      rw [done_place B (bothM A B) (A.length + 1) j a h3 (by rw [bothM_b A B j, h3, Nat.add_comm A.length 1]; rfl)] at h2
      exact .inr ⟨j, h, h2⟩
  · rintro (⟨i, h1, h2⟩ | ⟨i, h1, h2⟩)
    · have hl := run_lt A tx SA.good h1
      obtain ⟨a, h3⟩ : ∃ a, A[i]? = some a := ⟨_, List.getElem?_eq_getElem hl⟩
      refine ⟨i + 1, both_a A B tx ha h1, ?_⟩
      rw [done_place A (bothM A B) 1 i a h3 (by rw [bothM_a A B i hl, h3]; rfl)]
      exact h2
    · have hl := run_lt B tx SB.good h1
      obtain ⟨a, h3⟩ : ∃ a, B[i]? = some a := ⟨_, List.getElem?_eq_getElem hl⟩
      refine ⟨i + (A.length + 1), both_b A B tx hb h1, ?_⟩
      rw [done_place B (bothM A B) (A.length + 1) i a h3 (by rw [bothM_b A B i, h3, Nat.add_comm A.length 1]; rfl)]
      exact h2
theorem ends_both (hl : A.length + B.length + 1 ≤ 65540) (f : Nat) (hf : f ≤ tx.length) (q : Nat) : (endsM (bothM A B) tx f).1[q]?.getD false = ((endsM A tx f).1[q]?.getD false || (endsM B tx f).1[q]?.getD false) := by
  obtain ⟨_, s0⟩ := ends_spec _ tx (shp_of _ (bothM_shaped A B ha hb hl)).good f hf
  obtain ⟨_, s1⟩ := ends_spec A tx (shp_of A ha).good f hf
  obtain ⟨_, s2⟩ := ends_spec B tx (shp_of B hb).good f hf
  rw [Bool.eq_iff_iff, Bool.or_eq_true, s0, s1, s2]
  exact isEnd_both A B tx ha hb f q
end
end Go.Proofs.YtfmcjmkdlldlhaaDoor
