/-
  Plain mathematics of layer 4: a bracket hangs on its own marks; what its beginnings are read as.
-/
import Derived.Test.YthegepiafodpjaaDoorBrM
namespace Go.Proofs.YthegepiafodpjaaDoor

/-- From d on l is as l' is from its beginning, for k marks. -/
def Ag (l : List Mk) (d : Nat) (l' : List Mk) (k : Nat) : Prop := ∀ j, j < k → d + j < l.length ∧ j < l'.length ∧ l[d + j]?.getD (0, false) = l'[j]?.getD (0, false)
theorem Ag.sgn {l l' : List Mk} {d k : Nat} (h : Ag l d l' k) {j : Nat} (hj : j < k) (b : Int) : sgn l (d + j) b = sgn l' j b := by
  obtain ⟨h1, h2, h3⟩ := h j hj
  unfold Go.Proofs.YthegepiafodpjaaDoor.sgn
  rw [decide_eq_true h1, decide_eq_true h2, h3]
theorem Ag.over {l l' : List Mk} {d k : Nat} (h : Ag l d l' k) {j : Nat} (hj : j < k) : over l (d + j) = false ∧ over l' j = false := by
  obtain ⟨h1, h2, _⟩ := h j hj
  exact ⟨decide_eq_false (by omega), decide_eq_false (by omega)⟩
theorem Ag.byte {l l' : List Mk} {d k : Nat} (h : Ag l d l' k) {j : Nat} (hj : j < k) : byteM l (d + j) = byteM l' j := by
  unfold byteM
  rw [(h j hj).2.2]
theorem Ag.kind {l l' : List Mk} {d k : Nat} (h : Ag l d l' k) {j : Nat} (hj : j + 1 < k) : kindM l (d + j) = kindM l' j := by
  unfold kindM
  rw [h.sgn (by omega : j < k), Nat.add_assoc, h.sgn hj, h.sgn hj, h.sgn hj]
theorem kind_sgn {l : List Mk} {i : Nat} (h : kindM l i ≠ 0) : sgn l i 91 = true := by
  unfold kindM at h
  split at h
  · assumption
  · exact absurd rfl h
theorem kind_none {l : List Mk} {i : Nat} (h : l.length ≤ i + 1) : kindM l i = 0 := by
  have ho : over l (i + 1) = true := decide_eq_true h
  unfold kindM
  rw [sgn_over ho, sgn_over ho, sgn_over ho]
  simp
theorem kind_zero {l l' : List Mk} {d k : Nat} (h : Ag l d l' k) {j : Nat} (hj : j < k) (h0 : kindM l (d + j) = 0) (hk : k = l'.length ∨ j + 1 < k ∨ sgn l' j 91 = false) : kindM l' j = 0 := by
  rcases hk with hk | hk | hk
  · by_cases h1 : j + 1 < k
    · rw [← h.kind h1]; exact h0
    · exact kind_none (by omega)
  · rw [← h.kind hk]; exact h0
  · unfold kindM; rw [hk]; rfl

/-! ### The name -/
theorem name_ge (l : List Mk) (op i : Nat) : ∀ (f j : Nat) (text : List Int) (s : List Nat) (fn : Bool) (v : Int) (t : Nat), nameM l op i f j text = .ok s fn v t → j + 2 ≤ t
  | 0, _, _, _, _, _, _, h => by unfold nameM at h; cases h
  | f + 1, j, text, s, fn, v, t, h => by
    unfold nameM at h
    split at h
    · cases h
    · split at h
      · split at h
        · cases h
        · simp only [TR.ok.injEq] at h
          omega
      · have := name_ge l op i f (j + 1) _ _ _ _ _ h
        omega
theorem name_same {l l' : List Mk} {d k : Nat} (ha : Ag l d l' k) (op op' i i' : Nat) : ∀ (f f' j : Nat) (text : List Int) (s : List Nat) (fn : Bool) (v : Int) (t : Nat), nameM l op i f (d + j) text = .ok s fn v (d + t) → t ≤ k → k < j + f' →
    nameM l' op' i' f' j text = .ok s fn v t
  | 0, _, _, _, _, _, _, _, h, _, _ => by unfold nameM at h; cases h
  | f + 1, f', j, text, s, fn, v, t, h, ht, hf => by
    have hg := name_ge l op i _ _ _ _ _ _ _ h
    obtain ⟨f', rfl⟩ : ∃ g, f' = g + 1 := ⟨f' - 1, by omega⟩
    obtain ⟨o1, o2⟩ := ha.over (show j < k by omega)
    unfold nameM at h ⊢
    rw [o1, ha.sgn (show j < k by omega), Nat.add_assoc, ha.sgn (show j + 1 < k by omega), ha.byte (show j < k by omega)] at h
    rw [o2]
    simp only [Bool.false_eq_true, if_false] at h ⊢
    split at h
    · rename_i hc
      rw [if_pos hc]
      split at h
      · cases h
      · rename_i hn
        rw [if_neg hn]
        simp only [TR.ok.injEq] at h ⊢
        exact ⟨h.1, h.2.1, h.2.2.1, by omega⟩
    · rename_i hc
      rw [if_neg hc]
      exact name_same ha op op' i i' f f' (j + 1) _ s fn v t h ht (by omega)
theorem name_none (l : List Mk) (op i : Nat) : ∀ (f j : Nat) (text : List Int) (s : List Nat) (fn : Bool) (v : Int) (t : Nat), nameM l op i f j text = .ok s fn v t → ∀ m, j ≤ m → m + 2 < t → (sgn l m 58 && sgn l (m + 1) 93) = false
  | 0, _, _, _, _, _, _, h => by unfold nameM at h; cases h
  | f + 1, j, text, s, fn, v, t, h => by
    intro m hm ht
    unfold nameM at h
    split at h
    · cases h
    · split at h
      · split at h
        · cases h
        · simp only [TR.ok.injEq] at h
          omega
      · rename_i hc
        by_cases e : m = j
        · subst e; simpa using hc
        · exact name_none l op i f (j + 1) _ _ _ _ _ h m (by omega) ht
theorem name_bad32 (l : List Mk) (op i : Nat) : ∀ (f j : Nat) (text : List Int), (∀ m, j ≤ m → m + 1 < l.length → (sgn l m 58 && sgn l (m + 1) 93) = false) → nameM l op i f j text = .bad 32 op
  | 0, _, _, _ => rfl
  | f + 1, j, text, h => by
    unfold nameM
    split
    · rfl
    · rw [if_neg]
      · exact name_bad32 l op i f (j + 1) _ fun m hm => h m (by omega)
      · intro hc
        by_cases hj : j + 1 < l.length
        · rw [h j (Nat.le_refl _) hj] at hc; cases hc
        · rw [Bool.and_eq_true] at hc
          have := sgn_lt hc.2
          omega

/-! ### The thing -/
theorem thing_same {l l' : List Mk} {d k : Nat} (ha : Ag l d l' k) (op op' i : Nat) (s : List Nat) (fn : Bool) (v : Int) (t : Nat) (h : thingM l op (d + i) = .ok s fn v (d + t)) (ht : t ≤ k) (hk : k = l'.length ∨ i + 1 < k ∨ sgn l' i 91 = false) : thingM l' op' i = .ok s fn v t := by
  have hn := thing_next l op (d + i)
  rw [h] at hn
  have hi : i < k := by have := hn.1; omega
  have hkl : k ≤ l'.length := by have := (ha (k - 1) (by omega)).2.1; omega
  obtain ⟨o1, o2⟩ := ha.over hi
  unfold thingM at h ⊢
  rw [o1] at h
  rw [o2]
  simp only [Bool.false_eq_true, if_false] at h ⊢
  split at h
  · rename_i h58
    have hg := name_ge l op _ _ _ _ _ _ _ _ h
    rw [← ha.kind (by omega : i + 1 < k), if_pos h58]
    exact name_same ha op op' _ i _ _ (i + 2) [] s fn v t (by rw [Nat.add_assoc] at h; exact h) ht (by omega)
  · rename_i h58
    split at h
    · rename_i h0
      have hk0 := kind_zero ha hi h0 hk
      simp only [TR.ok.injEq] at h
      rw [hk0, if_neg (by decide), if_pos rfl, ← ha.byte hi]
      simp only [TR.ok.injEq]
      exact ⟨h.1, h.2.1, h.2.2.1, by omega⟩
    · rename_i h0
      split at h
      · cases h
      · split at h
        · cases h
        · rename_i h3
          split at h
          · cases h
          · split at h
            · cases h
            · rename_i h4
              simp only [TR.ok.injEq] at h
              have hk5 : i + 4 < k := by omega
              have hkk := ha.kind (by omega : i + 1 < k)
              rw [Nat.add_assoc, ha.sgn (by omega : i + 3 < k)] at h3
              rw [Nat.add_assoc, ha.sgn hk5] at h4
              rw [Nat.add_assoc, ha.byte (by omega : i + 2 < k)] at h
              rw [hkk] at h58 h0 h3 h
              rw [if_neg h58, if_neg h0, (ha.over (by omega : i + 3 < k)).2, (ha.over hk5).2, if_neg (by decide), if_neg h3, if_neg (by decide), if_neg h4]
              simp only [TR.ok.injEq]
              exact ⟨h.1, h.2.1, h.2.2.1, by omega⟩
/-- A thing whose end is cut off. -/
theorem thing_cut {l l' : List Mk} {k : Nat} (ha : Ag l 0 l' k) (hk : l'.length = k) (op i : Nat) (s : List Nat) (fn : Bool) (v : Int) (t : Nat) (h : thingM l op i = .ok s fn v t) (hi : i < k) (ht : k < t) :
    thingM l' op i = .bad 32 op ∨ (i + 1 = k ∧ sgn l i 91 = true ∧ thingM l' op i = .ok (ofL [91]) true 91 k) := by
  have z : ∀ x, 0 + x = x := Nat.zero_add
  by_cases hs : i + 1 = k
  · by_cases h91 : sgn l i 91 = true
    · right
      refine ⟨hs, h91, ?_⟩
      have h91' : sgn l' i 91 = true := by rw [← ha.sgn hi, z]; exact h91
      have hb : byteM l' i = 91 := by unfold byteM; rw [sgn_get h91']
      unfold thingM
      rw [(ha.over hi).2, kind_none (by omega), hb, ← hs]
      rfl
    · exfalso
      have h0 : kindM l i = 0 := by unfold kindM; rw [if_neg h91]
      unfold thingM at h
      have := (ha.over hi).1
      rw [z] at this
      rw [this, h0] at h
      simp only [Bool.false_eq_true, if_false, show ((0 : Int) = 58) = False by simp, if_true, TR.ok.injEq] at h
      omega
  · left
    have hi1 : i + 1 < k := by omega
    have hkk := ha.kind hi1
    rw [z] at hkk
    unfold thingM at h ⊢
    have o1 := (ha.over hi).1
    rw [z] at o1
    rw [o1] at h
    rw [(ha.over hi).2]
    simp only [Bool.false_eq_true, if_false] at h ⊢
    split at h
    · rename_i h58
      rw [hkk] at h58
      rw [if_pos h58]
      have hnn := name_none l op i _ _ _ _ _ _ _ h
      refine name_bad32 l' op i _ _ _ fun m hm hml => ?_
      have := hnn m hm (by omega)
      have a1 := ha.sgn (by omega : m < k) 58
      have a2 := ha.sgn (by omega : m + 1 < k) 93
      rw [z] at a1 a2
      rw [a1, a2] at this
      exact this
    · rename_i h58
      split at h
      · simp only [TR.ok.injEq] at h
        omega
      · rename_i h0
        rw [hkk] at h58 h0
        rw [if_neg h58, if_neg h0]
        split at h
        · cases h
        · split at h
          · cases h
          · rename_i h3
            split at h
            · cases h
            · split at h
              · cases h
              · simp only [TR.ok.injEq] at h
                by_cases h3k : i + 3 < k
                · have a3 := ha.sgn h3k (kindM l i)
                  rw [z, hkk] at a3
                  rw [hkk, a3] at h3
                  rw [(ha.over h3k).2, if_neg (by decide), if_neg h3, if_pos (show over l' (i + 4) = true from decide_eq_true (by omega))]
                · rw [if_pos (show over l' (i + 3) = true from decide_eq_true (by omega))]

/-! ### The item -/
theorem item_same {l l' : List Mk} {d k : Nat} (ha : Ag l d l' k) (op op' i : Nat) (first : Bool) (s : List Nat) (fn : Bool) (v : Int) (t : Nat) (h : itemM l op (d + i) first = .ok s fn v (d + t)) (ht : t < k) (hx : t + 1 < k ∨ sgn l (d + t) 45 = false) : itemM l' op' i first = .ok s fn v t := by
  have hn := item_next l op (d + i) first
  rw [h] at hn
  have hi : i + 1 < k := by have := hn.1; omega
  unfold itemM at h ⊢
  rw [ha.sgn (by omega : i < k), Nat.add_assoc, (ha.over hi).1, ha.sgn hi] at h
  rw [(ha.over hi).2]
  split at h
  · cases h
  · rename_i hc
    rw [if_neg hc]
    have hn1 := thing_next l op (d + i)
    split at h
    · cases h
    · rename_i s1 f1 v1 n1 h1
      rw [h1] at hn1
      obtain ⟨m, rfl⟩ : ∃ m, n1 = d + m := ⟨n1 - d, by have := hn1.1; omega⟩
      split at h
      · rename_i hcc
        simp only [TR.ok.injEq] at h
        obtain ⟨e1, e2, e3, e4⟩ := h
        obtain rfl : m = t := by omega
        rw [thing_same ha op op' i s1 f1 v1 m h1 (by omega) (.inr (.inl hi))]
        simp only
        rw [if_pos]
        · subst e1 e2 e3; rfl
        · rw [← ha.sgn ht]
          rcases hx with hx | hx
          · rw [Nat.add_assoc, ha.sgn hx] at hcc
            exact hcc
          · rw [hx]; rfl
      · rename_i hcc
        split at h
        · cases h
        · rename_i hov
          split at h
          · cases h
          · rename_i hfin
            have hn2 := thing_next l op (d + m + 1)
            split at h
            · cases h
            · rename_i s2 f2 v2 n2 h2
              rw [h2] at hn2
              split at h
              · cases h
              · rename_i hle
                simp only [TR.ok.injEq] at h
                obtain ⟨e1, e2, e3, e4⟩ := h
                subst e4
                have hm : m + 1 < k := by have := hn2.1; omega
                rw [thing_same ha op op' i s1 f1 v1 m h1 (by omega) (.inr (.inl hi))]
                simp only
                rw [Nat.add_assoc, ha.sgn (by omega : m < k), ha.sgn hm] at hcc
                rw [if_neg hcc, (ha.over hm).2, if_neg (by decide), if_neg hfin]
                have hs93 : (!sgn l' m 45) = false ∧ sgn l' (m + 1) 93 = false := by simpa using hcc
                rw [thing_same ha op op' (m + 1) s2 f2 v2 t h2 (by omega) (by
                  have := hn2.1
                  exact .inr (by
                    by_cases h3 : m + 2 < k
                    · exact .inl h3
                    · omega))]
                simp only
                rw [if_neg hle, ← e1, ← e2, ← e3]
/-- What an item is read as whose end may be cut off. -/
theorem item_cut {l l' : List Mk} {k : Nat} (ha : Ag l 0 l' k) (hk : l'.length = k) (op i : Nat) (first : Bool) (s : List Nat) (fn : Bool) (v : Int) (n : Nat) (h : itemM l op i first = .ok s fn v n) (hi : i < k) :
    (itemM l' op i first = .ok s fn v n ∧ n < k) ∨ itemM l' op i first = .bad 32 op ∨ (∃ s' f' v', itemM l' op i first = .ok s' f' v' k) ∨ (itemM l' op i first = .bad 30 i ∧ i + 2 < k ∧ sgn l (k - 1) 91 = true ∧ sgn l (k - 2) 45 = true) := by
  have z : ∀ x, 0 + x = x := Nat.zero_add
  have hsg : ∀ x b, x < k → sgn l x b = sgn l' x b := fun x b hx => by have := ha.sgn hx b; rwa [z] at this
  have hov : ∀ x, x < k → over l x = false := fun x hx => by have := (ha.over hx).1; rwa [z] at this
  have hov' : ∀ x, x < k → over l' x = false := fun x hx => (ha.over hx).2
  have hout : ∀ x, k ≤ x → over l' x = true := fun x hx => decide_eq_true (by omega)
  unfold itemM at h ⊢
  split at h
  · cases h
  · rename_i hc
    rw [if_neg (show ¬ (sgn l' i 45 && !first && !over l' (i + 1) && !sgn l' (i + 1) 93) = true by
      by_cases h1 : i + 1 < k
      · rw [hsg i 45 hi, hov _ h1, hsg _ 93 h1] at hc
        rw [hov' _ h1]
        exact hc
      · rw [hout (i + 1) (by omega)]; simp)]
    have hn1 := thing_next l op i
    split at h
    · cases h
    · rename_i s1 f1 v1 n1 h1
      rw [h1] at hn1
      by_cases hnk : n1 ≤ k
      · have hT := thing_same ha op op i s1 f1 v1 n1 (by rw [z, z]; exact h1) hnk (.inl hk.symm)
        rw [hT]
        simp only
        by_cases hnk2 : n1 = k
        · subst hnk2
          rw [if_pos (by rw [sgn_over (hout n1 (Nat.le_refl _))]; rfl)]
          exact .inr (.inr (.inl ⟨_, _, _, rfl⟩))
        · have hlt : n1 < k := by omega
          rw [← hsg n1 45 hlt]
          cases h45 : sgn l n1 45 with
          | false =>
            rw [h45] at h
            simp only [Bool.not_false, Bool.true_or, if_true] at h ⊢
            simp only [TR.ok.injEq] at h
            obtain ⟨rfl, rfl, rfl, rfl⟩ := h
            exact .inl ⟨rfl, hlt⟩
          | true =>
            rw [h45] at h
            simp only [Bool.not_true, Bool.false_or] at h ⊢
            by_cases h1k : n1 + 1 < k
            · rw [hsg _ 93 h1k] at h
              rw [hov _ h1k] at h
              rw [hov' _ h1k]
              split at h
              · rename_i h93
                rw [if_pos h93]
                simp only [TR.ok.injEq] at h
                obtain ⟨rfl, rfl, rfl, rfl⟩ := h
                exact .inl ⟨rfl, hlt⟩
              · rename_i h93
                rw [if_neg h93]
                simp only [Bool.false_eq_true, if_false] at h ⊢
                split at h
                · cases h
                · rename_i hfin
                  rw [if_neg hfin]
                  split at h
                  · cases h
                  · rename_i s2 f2 v2 n2 h2
                    split at h
                    · cases h
                    · rename_i hle
                      simp only [TR.ok.injEq] at h
                      obtain ⟨e1, e2, e3, rfl⟩ := h
                      by_cases hn2 : n2 ≤ k
                      · rw [thing_same ha op op (n1 + 1) s2 f2 v2 n2 (by rw [z, z]; exact h2) hn2 (.inl hk.symm)]
                        simp only
                        rw [if_neg hle]
                        by_cases e : n2 = k
                        · subst e
                          exact .inr (.inr (.inl ⟨_, _, _, rfl⟩))
                        · subst e1 e2 e3
                          exact .inl ⟨rfl, by omega⟩
                      · rcases thing_cut ha hk op (n1 + 1) s2 f2 v2 n2 h2 h1k (by omega) with hb | ⟨he, h91, hb⟩
                        · rw [hb]
                          exact .inr (.inl rfl)
                        · rw [hb]
                          simp only
                          split
                          · refine .inr (.inr (.inr ⟨rfl, by have := hn1.1; omega, ?_, ?_⟩))
                            · rw [show k - 1 = n1 + 1 by omega]; exact h91
                            · rw [show k - 2 = n1 by omega]; exact h45
                          · exact .inr (.inr (.inl ⟨_, _, _, rfl⟩))
            · have ho := hout (n1 + 1) (by omega)
              rw [sgn_over ho, ho]
              exact .inr (.inl rfl)
      · rcases thing_cut ha hk op i s1 f1 v1 n1 h1 hi (by omega) with hb | ⟨he, h91, hb⟩
        · rw [hb]
          exact .inr (.inl rfl)
        · rw [hb]
          simp only
          rw [if_pos (by rw [sgn_over (hout k (Nat.le_refl _))]; rfl)]
          exact .inr (.inr (.inl ⟨_, _, _, rfl⟩))

/-! ### The items -/
theorem items_end (l : List Mk) (op fs : Nat) : ∀ (f i : Nat) (set s : List Nat) (fn : Bool) (v : Int) (t : Nat), itemsM l op fs f i set = .ok s fn v t → sgn l t 93 = true ∧ i ≤ t ∧ (i = fs → i < t)
  | 0, _, _, _, _, _, _, h => by unfold itemsM at h; cases h
  | f + 1, i, set, s, fn, v, t, h => by
    unfold itemsM at h
    split at h
    · rename_i hc
      simp only [TR.ok.injEq] at h
      obtain ⟨-, -, -, rfl⟩ := h
      rw [Bool.and_eq_true] at hc
      exact ⟨hc.2, Nat.le_refl _, fun e => by have := hc.1; simp [e] at this⟩
    · have hn := item_next l op i (decide (i = fs))
      split at h
      · cases h
      · rename_i h1
        rw [h1] at hn
        have h2 := items_end l op fs f _ _ _ _ _ _ h
        have := hn.1
        exact ⟨h2.1, by omega, fun _ => by omega⟩
theorem items_same {l l' : List Mk} {d k : Nat} (ha : Ag l d l' k) (op op' fs : Nat) : ∀ (f f' i : Nat) (set s : List Nat) (fn : Bool) (v : Int) (t : Nat), itemsM l op (d + fs) f (d + i) set = .ok s fn v (d + t) → t < k → k < i + f' →
    itemsM l' op' fs f' i set = .ok s fn v t
  | 0, _, _, _, _, _, _, _, h, _, _ => by unfold itemsM at h; cases h
  | f + 1, f', i, set, s, fn, v, t, h, ht, hf => by
    have he := items_end l op (d + fs) _ _ _ _ _ _ _ h
    obtain ⟨f', rfl⟩ : ∃ g, f' = g + 1 := ⟨f' - 1, by omega⟩
    have hdi : decide (d + i = d + fs) = decide (i = fs) := by simp
    unfold itemsM at h ⊢
    rw [hdi, ha.sgn (by omega : i < k)] at h
    split at h
    · rename_i hc
      rw [if_pos hc]
      simp only [TR.ok.injEq] at h ⊢
      exact ⟨h.1, h.2.1, h.2.2.1, by omega⟩
    · rename_i hc
      rw [if_neg hc]
      have hn := item_next l op (d + i) (decide (i = fs))
      split at h
      · cases h
      · rename_i s1 f1 v1 n1 h1
        rw [h1] at hn
        obtain ⟨m, rfl⟩ : ∃ m, n1 = d + m := ⟨n1 - d, by have := hn.1; omega⟩
        have he2 := items_end l op (d + fs) _ _ _ _ _ _ _ h
        rw [item_same ha op op' i _ s1 f1 v1 m h1 (by omega) (by
          by_cases e : m = t
          · right
            have h93 := sgn_get he.1
            subst e
            unfold Go.Proofs.YthegepiafodpjaaDoor.sgn
            rw [h93]
            simp
          · left; omega)]
        exact items_same ha op op' fs f f' m _ s fn v t h ht (by have := hn.1; omega)
theorem items_over (l : List Mk) (op fs : Nat) : ∀ (f i : Nat) (set : List Nat), l.length ≤ i → itemsM l op fs f i set = .bad 32 op
  | 0, _, _, _ => rfl
  | f + 1, i, set, h => by
    have ho : over l i = true := decide_eq_true h
    unfold itemsM itemM thingM
    rw [sgn_over ho, sgn_over ho, ho]
    simp
theorem items_cut {l l' : List Mk} {k : Nat} (ha : Ag l 0 l' k) (hk : l'.length = k) (op fs : Nat) : ∀ (f f' i : Nat) (set set' s : List Nat) (fn : Bool) (v : Int) (t : Nat), itemsM l op fs f i set = .ok s fn v t → k ≤ t →
    itemsM l' op fs f' i set' = .bad 32 op ∨ ∃ p, itemsM l' op fs f' i set' = .bad 30 p ∧ i ≤ p ∧ p + 2 < k ∧ sgn l (k - 1) 91 = true ∧ sgn l (k - 2) 45 = true
  | 0, _, _, _, _, _, _, _, _, h, _ => by unfold itemsM at h; cases h
  | f + 1, 0, i, set, set', s, fn, v, t, h, ht => .inl rfl
  | f + 1, f' + 1, i, set, set', s, fn, v, t, h, ht => by
    by_cases hi : i < k
    · unfold itemsM at h
      have hsg : sgn l i 93 = sgn l' i 93 := by have := ha.sgn hi 93; rwa [Nat.zero_add] at this
      split at h
      · simp only [TR.ok.injEq] at h
        omega
      · rename_i hc
        rw [hsg] at hc
        split at h
        · cases h
        · rename_i s1 f1 v1 n1 h1
          have hn := item_next l op i (decide (i = fs))
          rw [h1] at hn
          have hX : itemsM l' op fs (f' + 1) i set' = match itemM l' op i (decide (i = fs)) with
            | .bad e a => .bad e a
            | .ok s _ _ next => itemsM l' op fs f' next (orL set' s) := by
            conv => lhs; unfold itemsM
            rw [if_neg hc]
            rfl
          rw [hX]
          rcases item_cut ha hk op i _ s1 f1 v1 n1 h1 hi with ⟨hI, hlt⟩ | hI | ⟨s', f2, v', hI⟩ | ⟨hI, h2, h3, h4⟩
          · rw [hI]
            simp only
            rcases items_cut ha hk op fs f f' n1 _ (orL set' s1) s fn v t h ht with hR | ⟨p, hR, g1, g2, g3, g4⟩
            · exact .inl hR
            · exact .inr ⟨p, hR, by have := hn.1; omega, g2, g3, g4⟩
          · rw [hI]
            exact .inl rfl
          · rw [hI]
            simp only
            exact .inl (items_over l' op fs f' k _ (by omega))
          · rw [hI]
            exact .inr ⟨i, rfl, Nat.le_refl _, h2, h3, h4⟩
    · exact .inl (items_over l' op fs _ i _ (by omega))

/-! ### Where a fault is told -/
def PlaceIn (l : List Mk) (op i : Nat) : TR → Prop
  | .bad _ p => p = op ∨ (i ≤ p ∧ p < l.length)
  | .ok _ _ _ _ => True
theorem name_place (l : List Mk) (op i : Nat) (hi : i < l.length) : ∀ (f k : Nat) (text : List Int), PlaceIn l op i (nameM l op i f k text)
  | 0, _, _ => .inl rfl
  | f + 1, k, text => by
    unfold nameM
    split
    · exact .inl rfl
    · split
      · split
        · exact .inr ⟨Nat.le_refl _, hi⟩
        · trivial
      · exact name_place l op i hi f (k + 1) _
theorem thing_place (l : List Mk) (op i : Nat) : PlaceIn l op i (thingM l op i) := by
  unfold thingM
  split
  · exact .inl rfl
  · rename_i h0
    have hi : i < l.length := by
      have : ¬ l.length ≤ i := fun h => h0 (decide_eq_true h)
      omega
    split
    · exact name_place l op i hi _ _ _
    · split
      · trivial
      · split
        · exact .inl rfl
        · split
          · exact .inr ⟨Nat.le_refl _, hi⟩
          · split
            · exact .inl rfl
            · split
              · exact .inr ⟨Nat.le_refl _, hi⟩
              · trivial
theorem item_place (l : List Mk) (op i : Nat) (first : Bool) : PlaceIn l op i (itemM l op i first) := by
  have h1 := thing_place l op i
  have hn := thing_next l op i
  unfold itemM
  split
  · rename_i h
    simp only [Bool.and_eq_true] at h
    exact .inr ⟨Nat.le_refl _, sgn_lt h.1.1.1⟩
  · split
    · rename_i h
      rw [h] at h1
      exact h1
    · rename_i h
      rw [h] at hn
      have hi : i < l.length := by have := hn.1; have := hn.2; omega
      split
      · trivial
      · split
        · exact .inl rfl
        · split
          · exact .inr ⟨Nat.le_refl _, hi⟩
          · rename_i next _ _ _
            have h2 := thing_place l op (next + 1)
            split
            · rename_i h3
              rw [h3] at h2
              rcases h2 with h2 | ⟨h2, h4⟩
              · exact .inl h2
              · exact .inr ⟨by have := hn.1; omega, h4⟩
            · split
              · exact .inr ⟨Nat.le_refl _, hi⟩
              · trivial
theorem items_place (l : List Mk) (op fs : Nat) : ∀ (f i : Nat) (set : List Nat), PlaceIn l op i (itemsM l op fs f i set)
  | 0, _, _ => .inl rfl
  | f + 1, i, set => by
    unfold itemsM
    split
    · trivial
    · have h1 := item_place l op i (decide (i = fs))
      have hn := item_next l op i (decide (i = fs))
      split
      · rename_i h
        rw [h] at h1
        exact h1
      · rename_i h
        rw [h] at hn
        rename_i s1 f1 v1 n1
        have h2 := items_place l op fs f n1 (orL set s1)
        have hn1 := hn.1
        cases hr : itemsM l op fs f n1 (orL set s1) with
        | ok => trivial
        | bad e p =>
          rw [hr] at h2
          rcases h2 with h2 | ⟨h2, h4⟩
          · exact .inl h2
          · exact .inr ⟨by omega, h4⟩
end Go.Proofs.YthegepiafodpjaaDoor
