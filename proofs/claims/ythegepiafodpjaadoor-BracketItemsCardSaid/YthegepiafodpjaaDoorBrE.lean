/-
  Plain mathematics of layer 4: the bracket by definition is read as the program reads it.
-/
import Derived.Test.YthegepiafodpjaaDoorBrC
namespace Go.Proofs.YthegepiafodpjaaDoor

/-- An item by definition. -/
def ritemM (l : List Mk) (op i : Nat) (first : Bool) : TR :=
  match thingM l op i with
  | .bad e a => .bad e a
  | .ok set fin value next =>
    if (sgn l i 45 && !first && !sgn l (i + 1) 93) = true then (if over l (i + 1) = true then .bad 32 op else .bad 30 i)
    else if (!sgn l next 45 || over l (next + 1) || sgn l (next + 1) 93) = true then .ok set fin value next
    else if fin = false then .bad 30 i
    else match thingM l op (next + 1) with
      | .bad e a => .bad e a
      | .ok _ fin2 value2 next2 => if fin2 = false ∨ value2 < value then .bad 30 i else .ok (rangeL value.toNat value2.toNat) false 0 next2
def ritemsM (l : List Mk) (op first : Nat) : Nat → Nat → List Nat → TR
  | 0, _, _ => .bad 32 op
  | f + 1, i, set =>
    if (!decide (i = first) && sgn l i 93) = true then .ok set false 0 i
    else match ritemM l op i (decide (i = first)) with
      | .bad e a => .bad e a
      | .ok s _ _ next => ritemsM l op first f next (orL set s)
theorem thing_dash {l : List Mk} {i : Nat} (op : Nat) (h : sgn l i 45 = true) : thingM l op i = .ok (ofL [45]) true 45 (i + 1) := by
  have hg := sgn_get h
  have hi := sgn_lt h
  have h91 : sgn l i 91 = false := by unfold sgn; rw [hg, decide_eq_true hi]; rfl
  have hk : kindM l i = 0 := by unfold kindM; rw [h91]; rfl
  have hb : byteM l i = 45 := by unfold byteM; rw [hg]
  unfold thingM
  rw [show over l i = false from decide_eq_false (by omega), hk, hb]
  rfl
theorem ritems_over (l : List Mk) (op fs : Nat) : ∀ (f i : Nat) (set : List Nat), l.length ≤ i → ritemsM l op fs f i set = .bad 32 op
  | 0, _, _, _ => rfl
  | f + 1, i, set, h => by
    have ho : over l i = true := decide_eq_true h
    unfold ritemsM ritemM thingM
    rw [sgn_over ho, ho]
    simp
theorem ritem_next (l : List Mk) (op i : Nat) (first : Bool) : NextIn l i (ritemM l op i first) := by
  have h1 := thing_next l op i
  unfold ritemM
  split
  · trivial
  · rename_i h
    rw [h] at h1
    split
    · split <;> trivial
    · split
      · exact h1
      · split
        · trivial
        · rename_i next _ _ _
          have h2 := thing_next l op (next + 1)
          split
          · trivial
          · rename_i h3
            rw [h3] at h2
            split
            · trivial
            · have := h1.1; have := h2.1; exact ⟨by omega, h2.2⟩
/-- Both ways of reading lead to the same. -/
theorem ritems_eq (l : List Mk) (op fs : Nat) : ∀ (f f' i : Nat) (set : List Nat), l.length < i + f → l.length < i + f' → fs ≤ i → ritemsM l op fs f' i set = itemsM l op fs f i set
  | 0, f', i, set, hf, _, _ => by rw [ritems_over l op fs f' i set (by omega)]; rfl
  | f + 1, 0, i, set, _, hf', _ => by rw [items_over l op fs (f + 1) i set (by omega)]; rfl
  | f + 1, f' + 1, i, set, hf, hf', hfs => by
    by_cases hi : l.length ≤ i
    · rw [ritems_over l op fs _ i set hi, items_over l op fs _ i set hi]
    · unfold ritemsM itemsM
      by_cases he : (!decide (i = fs) && sgn l i 93) = true
      · rw [if_pos he, if_pos he]
      · rw [if_neg he, if_neg he]
        have hn := thing_next l op i
        generalize decide (i = fs) = first
        cases hd : (sgn l i 45 && !first && !sgn l (i + 1) 93) with
        | true =>
          have h45 : sgn l i 45 = true := by simp only [Bool.and_eq_true] at hd; exact hd.1.1
          have hT := thing_dash op h45
          cases hov : over l (i + 1) with
          | false =>
            unfold ritemM itemM
            rw [hT]
            simp only
            simp only [Bool.and_eq_true, Bool.not_eq_true'] at hd
            rw [hd.1.1, hd.1.2, hd.2, hov]
            rfl
          | true =>
            have hle : l.length ≤ i + 1 := of_decide_eq_true hov
            have hI : itemM l op i first = .ok (ofL [45]) true 45 (i + 1) := by
              unfold itemM
              rw [hT, hov]
              simp [sgn_over hov]
            have hR : ritemM l op i first = .bad 32 op := by
              unfold ritemM
              rw [hT]
              simp only
              rw [if_pos hd, if_pos hov]
            rw [hR, hI]
            simp only
            rw [items_over l op fs f (i + 1) _ hle]
        | false =>
          have hc : (sgn l i 45 && !first && !over l (i + 1) && !sgn l (i + 1) 93) = false := by
            revert hd
            cases sgn l i 45 <;> cases first <;> cases sgn l (i + 1) 93 <;> cases over l (i + 1) <;> simp
          unfold ritemM itemM
          rw [hc]
          simp only [Bool.false_eq_true, if_false]
          cases hT : thingM l op i with
          | bad e a => rfl
          | ok s fn v next =>
            rw [hT] at hn
            simp only
            rw [hd]
            simp only [Bool.false_eq_true, if_false]
            cases h45 : sgn l next 45 with
            | false =>
              simp only [Bool.not_false, Bool.true_or, if_true]
              exact ritems_eq l op fs f f' next _ (by have := hn.1; omega) (by have := hn.1; omega) (by have := hn.1; omega)
            | true =>
              simp only [Bool.not_true, Bool.false_or]
              cases h93 : sgn l (next + 1) 93 with
              | true =>
                simp only [Bool.or_true, if_true]
                exact ritems_eq l op fs f f' next _ (by have := hn.1; omega) (by have := hn.1; omega) (by have := hn.1; omega)
              | false =>
                cases hov : over l (next + 1) with
                | true =>
                  simp only [Bool.true_or, if_true, Bool.false_eq_true, if_false]
                  have hlt := sgn_lt h45
                  obtain ⟨f2, rfl⟩ : ∃ k, f' = k + 1 := ⟨f' - 1, by have := hn.1; omega⟩
                  have h93' : sgn l next 93 = false := by unfold sgn; rw [sgn_get h45, decide_eq_true hlt]; rfl
                  have hne : decide (next = fs) = false := decide_eq_false (by have := hn.1; omega)
                  unfold ritemsM
                  rw [h93', hne]
                  simp only [Bool.and_false, Bool.false_eq_true, if_false]
                  unfold ritemM
                  rw [thing_dash op h45]
                  simp only
                  rw [h45, h93, hov]
                  rfl
                | false =>
                  simp only [Bool.or_self, Bool.false_eq_true, if_false]
                  by_cases hfn : fn = false
                  · rw [if_pos hfn, if_pos hfn]
                  · rw [if_neg hfn, if_neg hfn]
                    have hn2 := thing_next l op (next + 1)
                    cases hT2 : thingM l op (next + 1) with
                    | bad e a => rfl
                    | ok s2 fn2 v2 next2 =>
                      rw [hT2] at hn2
                      simp only
                      by_cases hx : fn2 = false ∨ v2 < v
                      · rw [if_pos hx]
                      · rw [if_neg hx]
                        simp only
                        exact ritems_eq l op fs f f' next2 _ (by have := hn.1; have := hn2.1; omega) (by have := hn.1; have := hn2.1; omega) (by have := hn.1; have := hn2.1; omega)
/-- What is not closed is told at the bracket's beginning. -/
def Op32 (op : Nat) : TR → Prop
  | .bad e p => e = 32 → p = op
  | .ok _ _ _ _ => True
theorem name_op (l : List Mk) (op i : Nat) : ∀ (f k : Nat) (text : List Int), Op32 op (nameM l op i f k text)
  | 0, _, _ => fun _ => rfl
  | f + 1, k, text => by
    unfold nameM
    split
    · exact fun _ => rfl
    · split
      · split
        · exact fun h => by cases h
        · trivial
      · exact name_op l op i f (k + 1) _
theorem thing_op (l : List Mk) (op i : Nat) : Op32 op (thingM l op i) := by
  unfold thingM
  split
  · exact fun _ => rfl
  · split
    · exact name_op l op i _ _ _
    · split
      · trivial
      · split
        · exact fun _ => rfl
        · split
          · exact fun h => by cases h
          · split
            · exact fun _ => rfl
            · split
              · exact fun h => by cases h
              · trivial
theorem ritem_op (l : List Mk) (op i : Nat) (first : Bool) : Op32 op (ritemM l op i first) := by
  have h1 := thing_op l op i
  unfold ritemM
  split
  · rename_i h
    rw [h] at h1
    exact h1
  · split
    · split
      · exact fun _ => rfl
      · exact fun h => by cases h
    · split
      · trivial
      · split
        · exact fun h => by cases h
        · rename_i next _ _ _ _
          have h2 := thing_op l op (next + 1)
          split
          · rename_i h3
            rw [h3] at h2
            exact h2
          · split
            · exact fun h => by cases h
            · trivial
theorem ritems_op (l : List Mk) (op fs : Nat) : ∀ (f i : Nat) (set : List Nat), Op32 op (ritemsM l op fs f i set)
  | 0, _, _ => fun _ => rfl
  | f + 1, i, set => by
    unfold ritemsM
    split
    · trivial
    · have h1 := ritem_op l op i (decide (i = fs))
      split
      · rename_i h
        rw [h] at h1
        exact h1
      · exact ritems_op l op fs f _ _
end Go.Proofs.YthegepiafodpjaaDoor
