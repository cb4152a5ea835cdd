/-
  Plain mathematics of layer 28: what was written is read back; what was read can be written.
-/
import Derived.Test.YtgepjjpcokbpjaaDoorOptM
namespace Go.Proofs.YtgepjjpcokbpjaaDoor

theorem let_one (s : Str) (r : Nat) (o : Opt) (hs : s.size = 1) (hd : Utf8.decode s 0 = (r, 1)) :
    letF s s.size 0 o = if r = 110 then .done { o with q := true } else if r = 69 then .done { o with e := true } else if r = 105 then .done { o with i := true, a := true } else if r = 115 then .done { o with a := true } else if r = 101 ∨ r = 102 then .arg o (decide (r = 102)) 0 else .bad r 0 := by
  rw [hs]
  rw [letF, if_pos (by omega), hd]
  simp only [letF]
theorem par_n (rest : List Str) (o : Opt) : parF (str [45, 110] :: rest) o = parF rest { o with q := true } :=
  par_done _ _ _ _ (by decide) (by decide) (by rw [let_one _ 110 o (by decide) (by decide +kernel)]; rfl)
theorem par_E (rest : List Str) (o : Opt) : parF (str [45, 69] :: rest) o = parF rest { o with e := true } :=
  par_done _ _ _ _ (by decide) (by decide) (by rw [let_one _ 69 o (by decide) (by decide +kernel)]; rfl)
theorem par_s (rest : List Str) (o : Opt) : parF (str [45, 115] :: rest) o = parF rest { o with a := true } :=
  par_done _ _ _ _ (by decide) (by decide) (by rw [let_one _ 115 o (by decide) (by decide +kernel)]; rfl)
theorem par_i (rest : List Str) (o : Opt) : parF (str [45, 105] :: rest) o = parF rest { o with i := true, a := true } :=
  par_done _ _ _ _ (by decide) (by decide) (by rw [let_one _ 105 o (by decide) (by decide +kernel)]; rfl)
theorem par_e (t : Str) (rest : List Str) (o : Opt) : parF (str [45, 101] :: t :: rest) o = parF rest (push o false t) :=
  par_need _ _ _ o _ _ 0 (by decide) (by decide) (by rw [let_one _ 101 o (by decide) (by decide +kernel)]; rfl) (by decide)
theorem par_f (t : Str) (rest : List Str) (o : Opt) : parF (str [45, 102] :: t :: rest) o = parF rest (push o true t) :=
  par_need _ _ _ o _ _ 0 (by decide) (by decide) (by rw [let_one _ 102 o (by decide) (by decide +kernel)]; rfl) (by decide)
theorem par_parts (ps : List Prt) (rest : List Str) : ∀ o : Opt, parF (ps.flatMap partW ++ rest) o = parF rest { o with parts := o.parts ++ ps } := by
  induction ps with
  | nil => intro o; simp
  | cons p ps ih =>
    intro o
    obtain ⟨f, t⟩ := p
    rw [List.flatMap_cons, List.append_assoc]
    cases f with
    | false =>
      show parF (str [45, 101] :: t :: (ps.flatMap partW ++ rest)) o = _
      rw [par_e, ih]
      simp [push]
    | true =>
      show parF (str [45, 102] :: t :: (ps.flatMap partW ++ rest)) o = _
      rw [par_f, ih]
      simp [push]
/-- What is written is read back. -/
theorem par_print (o : Opt) (h : printable o = true) : parF (printL o) opt0 = (o, 0, ByteArray.empty) := by
  obtain ⟨q, e, a, i, parts, files⟩ := o
  have hp : parts ≠ [] := by
    intro e2
    subst e2
    unfold printable at h
    simp at h
  have hai : i = true → a = true := by
    intro e1
    subst e1
    unfold printable at h
    cases a
    · simp at h
    · rfl
  have key : ∀ o : Opt, o.parts = [] → parF (parts.flatMap partW ++ [str [45, 45]] ++ files) o = ({ o with parts := parts, files := files }, 0, ByteArray.empty) := fun o ho => by
    rw [List.append_assoc, par_parts, ho, List.nil_append]
    show parF (str [45, 45] :: files) _ = _
    rw [par_end, fin_many _ _ hp]
  unfold printL
  simp only [List.append_assoc]
  have key2 : ∀ o : Opt, o.parts = [] → parF (parts.flatMap partW ++ ([str [45, 45]] ++ files)) o = ({ o with parts := parts, files := files }, 0, ByteArray.empty) := fun o ho => by
    rw [← List.append_assoc]; exact key o ho
  unfold flagW
  cases q <;> cases e <;> cases i <;> cases a <;> first
    | exact absurd (hai rfl) (by decide)
    | (simp only [Bool.not_true, Bool.not_false, Bool.and_true, Bool.and_false, if_true, if_false, List.nil_append, List.cons_append, Bool.false_eq_true, par_n, par_E, par_s, par_i]
       exact key2 _ rfl)

/-- i comes with a. -/
def IA (o : Opt) : Prop := o.i = true → o.a = true
def letterOk (r : Nat) : Prop := r ≠ 110 ∧ r ≠ 69 ∧ r ≠ 105 ∧ r ≠ 115 ∧ r ≠ 101 ∧ r ≠ 102
def LInv (s : Str) : LRes → Prop
  | .done o => IA o
  | .arg o _ _ => IA o
  | .bad r pos => pos < s.size ∧ r = (Utf8.decode s pos).1 ∧ letterOk r
theorem let_inv (s : Str) : ∀ (fuel pos : Nat) (o : Opt), IA o → LInv s (letF s fuel pos o)
  | 0, pos, o, h => by rw [letF]; exact h
  | fuel + 1, pos, o, h => by
    rw [letF]
    split
    · split
      · exact let_inv s fuel _ _ h
      · split
        · exact let_inv s fuel _ _ h
        · split
          · exact let_inv s fuel _ _ (fun _ => rfl)
          · split
            · exact let_inv s fuel _ _ (fun _ => rfl)
            · split
              · exact h
              · rename_i h1 h2 h3 h4 h5 h6
                exact ⟨h1, rfl, h2, h3, h4, h5, fun e => h6 (.inl e), fun e => h6 (.inr e)⟩
    · exact h
/-- No letter of an option, and not nothing. -/
def strange (s : Str) : Prop := s ≠ ByteArray.empty ∧ s ≠ str [110] ∧ s ≠ str [69] ∧ s ≠ str [115] ∧ s ≠ str [105] ∧ s ≠ str [101] ∧ s ≠ str [102]
def ResOk (r : PRes) : Prop := (r.2.1 = 0 ∧ r.2.2 = ByteArray.empty ∧ printable r.1 = true) ∨ (r.2.1 = 91 ∧ r.1 = opt0 ∧ (r.2.2 = ByteArray.empty ∨ r.2.2 = str [101] ∨ r.2.2 = str [102])) ∨ (r.2.1 = 90 ∧ r.1 = opt0 ∧ strange r.2.2)
theorem fin_ok (l : List Str) (o : Opt) (h : IA o) : ResOk (finish l o) := by
  have hpr : ∀ (p : List Prt) (f : List Str), p ≠ [] → printable { o with parts := p, files := f } = true := fun p f hp => by
    unfold printable
    unfold IA at h
    cases p with
    | nil => exact absurd rfl hp
    | cons x p =>
      cases hi : o.i <;> cases ha : o.a <;> simp_all
  by_cases hp : o.parts = []
  · cases l with
    | nil => rw [fin_none o hp]; exact .inr (.inl ⟨rfl, rfl, .inl rfl⟩)
    | cons x r => rw [fin_one x r o hp]; exact .inl ⟨rfl, rfl, hpr _ _ (by simp)⟩
  · rw [fin_many l o hp]; exact .inl ⟨rfl, rfl, hpr o.parts l hp⟩
theorem get_ext (w : Str) (i : Nat) (h : i < w.size - 1) : (tailW w).get! i = w.get! (i + 1) := by
  have h1 : i < (w.extract 1 w.size).size := by rw [ByteArray.size_extract]; omega
  have h2 : i + 1 < w.size := by omega
  have e1 : (w.extract 1 w.size).get! i = (w.extract 1 w.size)[i]'h1 := get_at (w.extract 1 w.size) i h1
  have e2 : w.get! (i + 1) = w[i + 1]'h2 := get_at w (i + 1) h2
  show (w.extract 1 w.size).get! i = _
  rw [e1, e2, ByteArray.getElem_extract]
  simp only [Nat.add_comm]
theorem get_drop (w : Str) (k : Nat) (h : k < w.size) : (w.extract k w.size).get! 0 = w.get! k := by
  have h1 : 0 < (w.extract k w.size).size := by rw [ByteArray.size_extract]; omega
  have e1 : (w.extract k w.size).get! 0 = (w.extract k w.size)[0]'h1 := get_at _ 0 h1
  have e2 : w.get! k = w[k]'h := get_at w k h
  rw [e1, e2, ByteArray.getElem_extract]
  rfl
theorem one_str (t : Str) (k : Nat) (c : UInt8) (h : t.extract 0 k = str [c]) (hk : 1 ≤ t.size) : k ≤ t.size → k = 1 ∧ t.get! 0 = c := fun hkt => by
  have hs : (t.extract 0 k).size = 1 := by rw [h]; rfl
  rw [ByteArray.size_extract] at hs
  have hk1 : k = 1 := by omega
  refine ⟨hk1, ?_⟩
  have h1 : 0 < (t.extract 0 k).size := by rw [ByteArray.size_extract]; omega
  have e1 : t.get! 0 = t[0]'hk := get_at t 0 hk
  have e2 : (t.extract 0 k)[0]'h1 = t[0]'hk := by rw [ByteArray.getElem_extract]
  rw [e1, ← e2]
  have : ∀ (x : Str) (hx : 0 < x.size), x = str [c] → x[0]'hx = c := fun x hx e => by subst e; rfl
  exact this _ h1 h
/-- What letterAt asks for. -/
theorem let_room (w : Str) (pos : Nat) (h1 : 1 < w.size) (h : pos < (tailW w).size) : 1 ≤ (w.extract (pos + 1) w.size).size ∧ (w.extract (pos + 1) w.size).size = w.size - (pos + 1) ∧
    (¬ (((Utf8.decode (tailW w) pos).1 : Int) = 65533 ∧ hasPre (w.extract (pos + 1) w.size) (str [239, 191, 189]) = false) → 0 ≤ Lib.runeLen (Utf8.decode (tailW w) pos).1 ∧ Lib.runeLen (Utf8.decode (tailW w) pos).1 ≤ (w.extract (pos + 1) w.size).size ∧ 1 ≤ Lib.runeLen (Utf8.decode (tailW w) pos).1) := by
  have hts := tail_size w h1
  have hsz : (w.extract (pos + 1) w.size).size = w.size - (pos + 1) := by rw [ByteArray.size_extract]; omega
  obtain ⟨d1, d2, d3⟩ := dec_fact (tailW w) pos h
  refine ⟨by omega, hsz, fun hno => ?_⟩
  rcases d3 with d3 | d3
  · rw [d3] at hno ⊢
    have hp : hasPre (w.extract (pos + 1) w.size) (str [239, 191, 189]) = true := by
      cases hh : hasPre (w.extract (pos + 1) w.size) (str [239, 191, 189]) with
      | true => rfl
      | false => exact absurd ⟨rfl, hh⟩ hno
    unfold hasPre at hp
    have hp := (of_decide_eq_true hp).1
    have h3 : (str [239, 191, 189]).size = 3 := rfl
    have hr : Lib.runeLen ((65533 : Nat) : Int) = 3 := by decide
    simp only at *
    rw [hr]
    omega
  · rw [d3]; omega
theorem bad_strange (w : Str) (pos : Nat) (h1 : 1 < w.size) (h : pos < (tailW w).size) (hr : letterOk (Utf8.decode (tailW w) pos).1) : strange (letOf (w.extract (pos + 1) w.size) (Utf8.decode (tailW w) pos).1) := by
  have hts := tail_size w h1
  obtain ⟨r1, r2, r3⟩ := let_room w pos h1 h
  have hget : (w.extract (pos + 1) w.size).get! 0 = (tailW w).get! pos := by rw [get_drop w (pos + 1) (by omega), get_ext w pos (by omega)]
  have hb : (tailW w).get! pos = (tailW w)[pos]'h := get_at _ pos h
  have key : ∀ c : UInt8, c.toNat < 128 → (w.extract (pos + 1) w.size).get! 0 = c → Utf8.decode (tailW w) pos = (c.toNat, 1) := fun c hc e => by
    have e2 : (tailW w)[pos]'h = c := by rw [← hb, ← hget]; exact e
    have := decode_ascii (tailW w) pos h (by rw [e2]; exact hc)
    rw [e2] at this
    exact this
  generalize w.extract (pos + 1) w.size = t at *
  generalize Utf8.decode (tailW w) pos = d at *
  obtain ⟨r, n⟩ := d
  simp only at *
  have hk : ∃ k, 1 ≤ k ∧ k ≤ t.size ∧ letOf t r = t.extract 0 k := by
    unfold letOf
    by_cases hc : (r : Int) = 65533 ∧ hasPre t (str [239, 191, 189]) = false
    · rw [if_pos hc]; exact ⟨1, Nat.le_refl _, r1, rfl⟩
    · rw [if_neg hc]
      have := r3 hc
      exact ⟨(Lib.runeLen r).toNat, by omega, by omega, rfl⟩
  obtain ⟨k, k1, k2, ek⟩ := hk
  rw [ek]
  unfold letterOk at hr
  have no : ∀ c : UInt8, c.toNat < 128 → r ≠ c.toNat → t.extract 0 k ≠ str [c] := fun c hc hne e => by
    obtain ⟨-, e0⟩ := one_str t k c e r1 k2
    have := key c hc e0
    simp only [Prod.mk.injEq] at this
    exact hne this.1
  refine ⟨fun e => ?_, no 110 (by decide) hr.1, no 69 (by decide) hr.2.1, no 115 (by decide) hr.2.2.2.1, no 105 (by decide) hr.2.2.1, no 101 (by decide) hr.2.2.2.2.1, no 102 (by decide) hr.2.2.2.2.2⟩
  have : (t.extract 0 k).size = 0 := by rw [e]; rfl
  rw [ByteArray.size_extract] at this
  omega
theorem par_ok : ∀ (n : Nat) (l : List Str) (o : Opt), l.length ≤ n → IA o → ResOk (parF l o)
  | n, [], o, _, h => by rw [par_nil]; exact fin_ok _ _ h
  | 0, _ :: _, _, hn, _ => by simp at hn
  | n + 1, w :: rest, o, hn, h => by
    have hr : rest.length ≤ n := by simpa using hn
    cases hi : isOpt w with
    | false => rw [par_not w rest o hi]; exact fin_ok _ _ h
    | true =>
      by_cases h2 : w = str [45, 45]
      · subst h2; rw [par_end]; exact fin_ok _ _ h
      · have h1 : 1 < w.size := by unfold isOpt at hi; exact (of_decide_eq_true hi).1
        have hinv := let_inv (tailW w) (tailW w).size 0 o h
        cases hl : letF (tailW w) (tailW w).size 0 o with
        | done o' =>
          rw [hl] at hinv
          rw [par_done w rest o o' hi h2 hl]
          exact par_ok n rest o' hr hinv
        | arg o' f pos =>
          rw [hl] at hinv
          by_cases ht : w.extract (pos + 2) w.size = ByteArray.empty
          · cases rest with
            | nil =>
              rw [par_use w o o' f pos hi h2 hl ht]
              cases f
              · exact .inr (.inl ⟨rfl, rfl, .inr (.inl rfl)⟩)
              · exact .inr (.inl ⟨rfl, rfl, .inr (.inr rfl)⟩)
            | cons t rest =>
              rw [par_need w t rest o o' f pos hi h2 hl ht]
              exact par_ok n rest (push o' f t) (by simp at hr; omega) hinv
          · rw [par_arg w rest o o' f pos hi h2 hl ht]
            exact par_ok n rest (push o' f _) hr hinv
        | bad r pos =>
          rw [hl] at hinv
          obtain ⟨i1, i2, i3⟩ := hinv
          subst i2
          have hb := bad_strange w pos h1 i1 i3
          rw [par_bad w rest o _ pos hi h2 hl]
          generalize letOf (w.extract (pos + 1) w.size) ((Utf8.decode (tailW w) pos).1 : Int) = x at hb ⊢
          exact Or.inr (Or.inr ⟨rfl, rfl, hb⟩)
end Go.Proofs.YtgepjjpcokbpjaaDoor
