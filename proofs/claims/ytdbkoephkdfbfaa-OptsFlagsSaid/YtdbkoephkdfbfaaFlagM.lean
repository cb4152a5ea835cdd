/-
  Plain mathematics of OptsFlags: a line that is written flag by flag is read as what was meant.
-/
import Derived.Test.YtdbkoephkdfbfaaOptB
namespace Go.Proofs.Ytdbkoephkdfbfaa

def applyC (o : Opt) (c : UInt8) : Opt := if c = 110 then { o with q := true } else if c = 69 then { o with e := true } else if c = 105 then { o with i := true, a := true } else { o with a := true }
def applyL (o : Opt) (l : List UInt8) : Opt := l.foldl applyC o
def flagC (c : UInt8) : Prop := c = 110 ∨ c = 69 ∨ c = 115 ∨ c = 105
theorem str_size (l : List UInt8) : (str l).size = l.length := by show l.toArray.size = _; simp
theorem str_get (l : List UInt8) (i : Nat) (h : i < (str l).size) : (str l)[i]'h = l[i]'(by rw [str_size] at h; exact h) := by
  show (l.toArray)[i]'(by simpa [str_size] using h) = _
  simp
theorem str_inj {a b : List UInt8} (h : str a = str b) : a = b := by
  have : (str a).data = (str b).data := by rw [h]
  simpa [str] using this
theorem str_app (a b : List UInt8) : str a ++ str b = str (a ++ b) := by
  apply ByteArray.ext
  rw [ByteArray.data_append]
  simp [str]
theorem str_of (x : Str) : str x.data.toList = x := by cases x; simp [str]
theorem str_empty : str [] = ByteArray.empty := rfl
theorem str_drop (l : List UInt8) (k : Nat) : (str l).extract k (str l).size = str (l.drop k) := by
  apply ByteArray.ext
  rw [ByteArray.data_extract, str_size]
  simp [str, List.take_of_length_le]
theorem tail_str (c : UInt8) (l : List UInt8) : tailW (str (c :: l)) = str l := by unfold tailW; rw [str_drop]; rfl
theorem let_go (s : Str) : ∀ (letters pre rest : List UInt8) (fuel : Nat) (o : Opt), s = str (pre ++ letters ++ rest) → (∀ c ∈ letters, flagC c) → letF s (fuel + letters.length) pre.length o = letF s fuel (pre.length + letters.length) (applyL o letters)
  | [], pre, rest, fuel, o, _, _ => rfl
  | c :: letters, pre, rest, fuel, o, hs, hc => by
    have hlt : pre.length < s.size := by rw [hs, str_size]; simp
    have hb : s[pre.length]'hlt = c := by
      subst hs
      rw [str_get]
      simp
    have hcf := hc c (List.mem_cons_self ..)
    have hc128 : c.toNat < 128 := by rcases hcf with rfl | rfl | rfl | rfl <;> decide
    have hd := decode_ascii s pre.length hlt (by rw [hb]; exact hc128)
    rw [hb] at hd
    have ih := let_go s letters (pre ++ [c]) rest fuel (applyC o c) (by rw [hs]; simp) (fun x hx => hc x (List.mem_cons_of_mem _ hx))
    rw [List.length_append, List.length_singleton] at ih
    rw [List.length_cons, show fuel + (letters.length + 1) = (fuel + letters.length) + 1 by omega, letF, if_pos hlt, hd]
    have e : applyL o (c :: letters) = applyL (applyC o c) letters := rfl
    rw [e, show pre.length + (letters.length + 1) = pre.length + 1 + letters.length by omega]
    simp only
    rcases hcf with rfl | rfl | rfl | rfl
    · exact ih
    · exact ih
    · exact ih
    · exact ih
theorem opt_word (c : UInt8) (l : List UInt8) : isOpt (str (45 :: c :: l)) = true := by
  unfold isOpt
  refine decide_eq_true ⟨by rw [str_size]; simp, ?_⟩
  rw [get_at _ 0 (by rw [str_size]; simp), str_get]
  rfl
theorem not_dash (c : UInt8) (l : List UInt8) (h : c ≠ 45) : str (45 :: c :: l) ≠ str [45, 45] := fun e => by
  have := str_inj e
  simp at this
  exact h this.1
theorem flag_ne (c : UInt8) (h : flagC c) : c ≠ 45 := by rcases h with rfl | rfl | rfl | rfl <;> decide
/-- A word of letters alone. -/
theorem par_flags (letters : List UInt8) (hne : letters ≠ []) (hc : ∀ c ∈ letters, flagC c) (R : List Str) (o : Opt) : parF (str (45 :: letters) :: R) o = parF R (applyL o letters) := by
  obtain ⟨c, l, rfl⟩ : ∃ c l, letters = c :: l := by cases letters with | nil => exact absurd rfl hne | cons c l => exact ⟨c, l, rfl⟩
  refine par_done _ _ _ _ (opt_word c l) (not_dash c l (flag_ne c (hc c (List.mem_cons_self ..)))) ?_
  rw [tail_str, str_size]
  have := let_go (str (c :: l)) (c :: l) [] [] 0 o (by simp) hc
  rw [Nat.zero_add, List.length_nil] at this
  rw [this, letF]
def argC (f : Bool) : UInt8 := if f then 102 else 101
theorem let_arg (letters T : List UInt8) (hc : ∀ c ∈ letters, flagC c) (f : Bool) (o : Opt) : letF (str (letters ++ argC f :: T)) (str (letters ++ argC f :: T)).size 0 o = .arg (applyL o letters) f letters.length := by
  have h1 := let_go (str (letters ++ argC f :: T)) letters [] (argC f :: T) (T.length + 1) o (by simp) hc
  rw [List.length_nil, Nat.zero_add] at h1
  rw [str_size, show (letters ++ argC f :: T).length = T.length + 1 + letters.length by simp; omega, h1]
  have hlt : letters.length < (str (letters ++ argC f :: T)).size := by rw [str_size]; simp
  have hb : (str (letters ++ argC f :: T))[letters.length]'hlt = argC f := by rw [str_get]; simp
  have hd := decode_ascii _ letters.length hlt (by rw [hb]; cases f <;> decide)
  rw [hb] at hd
  rw [letF, if_pos hlt, hd]
  cases f <;> rfl
theorem arg_word (letters T : List UInt8) (hc : ∀ c ∈ letters, flagC c) (f : Bool) : isOpt (str (45 :: (letters ++ argC f :: T))) = true ∧ str (45 :: (letters ++ argC f :: T)) ≠ str [45, 45] := by
  cases letters with
  | nil => exact ⟨opt_word _ _, not_dash _ _ (by cases f <;> decide)⟩
  | cons c l => exact ⟨opt_word _ _, not_dash _ _ (flag_ne c (hc c (List.mem_cons_self ..)))⟩
/-- A word whose text is stuck to it. -/
theorem par_stuck (letters T : List UInt8) (hc : ∀ c ∈ letters, flagC c) (hT : T ≠ []) (f : Bool) (R : List Str) (o : Opt) : parF (str (45 :: (letters ++ argC f :: T)) :: R) o = parF R (push (applyL o letters) f (str T)) := by
  obtain ⟨h1, h2⟩ := arg_word letters T hc f
  have e : (str (45 :: (letters ++ argC f :: T))).extract (letters.length + 2) (str (45 :: (letters ++ argC f :: T))).size = str T := by
    rw [str_drop]
    congr 1
    simp
  have := par_arg _ R o (applyL o letters) f letters.length h1 h2 (by rw [tail_str]; exact let_arg letters T hc f o) (by rw [e]; intro e2; exact hT (str_inj (e2.trans str_empty.symm)))
  rw [e] at this
  exact this
/-- A word whose text is the next. -/
theorem par_loose (letters : List UInt8) (hc : ∀ c ∈ letters, flagC c) (f : Bool) (t : Str) (R : List Str) (o : Opt) : parF (str (45 :: (letters ++ [argC f])) :: t :: R) o = parF R (push (applyL o letters) f t) := by
  obtain ⟨h1, h2⟩ := arg_word letters [] hc f
  have e : (str (45 :: (letters ++ argC f :: []))).extract (letters.length + 2) (str (45 :: (letters ++ argC f :: []))).size = ByteArray.empty := by
    rw [str_drop, ← str_empty]
    congr 1
    simp
  exact par_need _ t R o (applyL o letters) f letters.length h1 h2 (by rw [tail_str]; exact let_arg letters [] hc f o) e

/-! ### What the law writes -/
structure Flg where
  kind : Nat
  text : Str
  stuck : Bool
structure FState where
  args : List Str
  w : List UInt8
  want : Opt
def letterK (k : Nat) : UInt8 := if k = 0 then 110 else if k = 1 then 69 else if k = 2 then 115 else 105
/-- k: the kind's low bits. -/
def stepF (s : FState) (k : Nat) (t : Str) (stuck : Bool) : FState :=
  let w1 := if s.w = [] then [45] else s.w
  if k < 4 then
    if stuck then ⟨s.args, w1 ++ [letterK k], applyC s.want (letterK k)⟩ else ⟨s.args ++ [str (w1 ++ [letterK k])], [], applyC s.want (letterK k)⟩
  else
    if stuck = true ∧ t ≠ ByteArray.empty then ⟨s.args ++ [str (w1 ++ argC (k % 2 == 1) :: t.data.toList)], [], push s.want (k % 2 == 1) t⟩
    else ⟨s.args ++ [str (w1 ++ [argC (k % 2 == 1)]), t], [], push s.want (k % 2 == 1) t⟩
def InvF (s : FState) : Prop := ∃ oA : Opt, (∀ R, parF (s.args ++ R) opt0 = parF R oA) ∧
  ((s.w = [] ∧ oA = s.want) ∨ ∃ letters, letters ≠ [] ∧ (∀ c ∈ letters, flagC c) ∧ s.w = 45 :: letters ∧ applyL oA letters = s.want)
theorem inv_zero : InvF ⟨[], [], opt0⟩ := ⟨opt0, fun _ => rfl, .inl ⟨rfl, rfl⟩⟩
theorem letterK_flag (k : Nat) : flagC (letterK k) := by
  unfold letterK
  split
  · exact .inl rfl
  · split
    · exact .inr (.inl rfl)
    · split
      · exact .inr (.inr (.inl rfl))
      · exact .inr (.inr (.inr rfl))
/-- Behind every flag a word with letters pends, or none. -/
theorem inv_word {s : FState} (h : InvF s) : ∃ oA letters, (∀ R, parF (s.args ++ R) opt0 = parF R oA) ∧ (∀ c ∈ letters, flagC c) ∧ (if s.w = [] then [45] else s.w) = 45 :: letters ∧ applyL oA letters = s.want := by
  obtain ⟨oA, hA, ⟨hw, ho⟩ | ⟨letters, hne, hc, hw, ho⟩⟩ := h
  · exact ⟨oA, [], hA, (fun _ h => by cases h), by rw [if_pos hw], ho⟩
  · exact ⟨oA, letters, hA, hc, by rw [if_neg (by rw [hw]; simp), hw], ho⟩
theorem inv_step {s : FState} (h : InvF s) (k : Nat) (t : Str) (stuck : Bool) : InvF (stepF s k t stuck) := by
  obtain ⟨oA, letters, hA, hc, hw, ho⟩ := inv_word h
  unfold stepF
  simp only [hw]
  have happ : applyL oA (letters ++ [letterK k]) = applyC s.want (letterK k) := by unfold applyL at ho ⊢; rw [List.foldl_append, ho]; rfl
  have hc2 : ∀ c ∈ letters ++ [letterK k], flagC c := fun c hm => by
    rcases List.mem_append.1 hm with hm | hm
    · exact hc c hm
    · rw [List.mem_singleton.1 hm]; exact letterK_flag k
  split
  · split
    · exact ⟨oA, hA, .inr ⟨letters ++ [letterK k], by simp, hc2, rfl, happ⟩⟩
    · refine ⟨applyC s.want (letterK k), fun R => ?_, .inl ⟨rfl, rfl⟩⟩
      rw [List.append_assoc, hA]
      show parF (str (45 :: (letters ++ [letterK k])) :: R) oA = _
      rw [par_flags _ (by simp) hc2, happ]
  · split
    · rename_i h4 hst
      refine ⟨push s.want (k % 2 == 1) t, fun R => ?_, .inl ⟨rfl, rfl⟩⟩
      rw [List.append_assoc, hA]
      show parF (str (45 :: (letters ++ argC (k % 2 == 1) :: t.data.toList)) :: R) oA = _
      rw [par_stuck letters _ hc (fun e => hst.2 (by rw [← str_of t, e]; rfl)), ho, str_of]
    · refine ⟨push s.want (k % 2 == 1) t, fun R => ?_, .inl ⟨rfl, rfl⟩⟩
      rw [List.append_assoc, hA]
      show parF (str (45 :: (letters ++ [argC (k % 2 == 1)])) :: t :: R) oA = _
      rw [par_loose letters hc, ho]
/-- The line, but for its files. -/
def lineF (s : FState) : List Str := if s.w = [] then s.args else s.args ++ [str s.w]
theorem inv_line {s : FState} (h : InvF s) (R : List Str) : parF (lineF s ++ R) opt0 = parF R s.want := by
  obtain ⟨oA, hA, ⟨hw, ho⟩ | ⟨letters, hne, hc, hw, ho⟩⟩ := h
  · unfold lineF; rw [if_pos hw, hA, ho]
  · unfold lineF
    rw [if_neg (by rw [hw]; simp), List.append_assoc, hA, hw]
    show parF (str (45 :: letters) :: R) oA = _
    rw [par_flags letters hne hc, ho]
theorem line_end {s : FState} (h : InvF s) (files : List Str) : parF (lineF s ++ [str [45, 45]] ++ files) opt0 = finish files s.want := by
  rw [List.append_assoc, inv_line h]
  exact par_end files s.want
theorem line_plain {s : FState} (h : InvF s) (x : Str) (r : List Str) (hx : isOpt x = false) : parF (lineF s ++ (x :: r)) opt0 = finish (x :: r) s.want := by
  rw [inv_line h]
  exact par_not x r s.want hx
end Go.Proofs.Ytdbkoephkdfbfaa
