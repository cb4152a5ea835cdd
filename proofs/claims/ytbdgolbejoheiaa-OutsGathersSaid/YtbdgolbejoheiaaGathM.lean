/-
  OutsGathers in plain mathematics: what a step hands on, where a byte lies in what was handed on.
-/
import Derived.Test.YtbdgolbejoheiaaTwoM
namespace Go.Proofs.Ytbdgolbejoheiaa
open Go.RowKit

/-- The bytes that a step writes. -/
def bytesOf1 (s : Stp) : List Int := if s.1 = true then [] else s.2.flatten
def allB (r : List Stp) (k : Nat) : List Int := ((r.take k).map bytesOf1).flatten
theorem allB_succ (r : List Stp) (k : Nat) (h : k < r.length) : allB r (k + 1) = allB r k ++ bytesOf1 (r[k]?.getD (false, [])) := by
  unfold allB
  rw [List.take_add_one, List.getElem?_eq_getElem h, List.map_append, List.flatten_append]
  congr 1
  exact List.append_nil _
theorem allB_pre (r : List Stp) : ∀ k, k ≤ r.length → ∃ t, allB r r.length = allB r k ++ t := fun k hk => by
  refine ⟨((r.drop k).map bytesOf1).flatten, ?_⟩
  unfold allB
  rw [← List.flatten_append, ← List.map_append, List.take_append_drop, List.take_length]
theorem bytesOf1_le (s : Stp) : (bytesOf1 s).length ≤ tot1 s := by
  unfold bytesOf1 tot1
  split
  · simp
  · omega
theorem allB_le (r : List Stp) : ∀ k, k ≤ r.length → (allB r k).length ≤ totK r k
  | 0, _ => by simp [allB]
  | k + 1, h => by
    have := allB_le r k (by omega)
    have h2 := bytesOf1_le (r[k]?.getD (false, []))
    rw [allB_succ r k (by omega), totK_succ r k (by omega), List.length_append]
    omega

/-- Is something handed on? -/
def dueM (size : Int) (fl : Bool) (h : Nat) : Prop := 0 < h ∧ (fl = true ∨ size ≤ (h : Int))
/-- What a step leaves, where the sink answers OK. -/
theorem step_due {size : Int} {fl : Bool} {R : List (List Int)} {m M : OM} (he : m.2.2.1 = 0) (hM : M = if fl = true then flushM 0 0 m else writeM size 0 0 R m) (hd : dueM size fl (m.1 ++ bytesOf1 (fl, R)).length) :
    M = ([], m.2.1 ++ [m.1 ++ bytesOf1 (fl, R)], 0, m.2.2.2 + ((m.1 ++ bytesOf1 (fl, R)).length : Nat)) := by
  have hf : ¬ (((m.2.1.length : Nat) : Int) + 1 = 0) := by omega
  obtain ⟨h1, h2⟩ := hd
  subst hM
  cases fl with
  | true =>
    simp only [bytesOf1, if_true, List.append_nil] at h1 ⊢
    rw [flushM, if_neg (by simp [he]), handM, if_neg (by intro e; rw [e] at h1; simp at h1), if_neg hf, if_pos rfl]
  | false =>
    simp only [bytesOf1, Bool.false_eq_true, if_false, false_or] at h1 h2 ⊢
    rw [writeM_eq _ _ _ _ _ he, if_pos h2, handM, if_neg (by intro e; simp only at e; rw [e] at h1; simp at h1)]
    simp only
    rw [if_neg hf, if_pos rfl]
theorem step_not {size : Int} {fl : Bool} {R : List (List Int)} {m M : OM} (he : m.2.2.1 = 0) (hM : M = if fl = true then flushM 0 0 m else writeM size 0 0 R m) (hd : ¬ dueM size fl (m.1 ++ bytesOf1 (fl, R)).length) :
    M = (m.1 ++ bytesOf1 (fl, R), m.2.1, 0, m.2.2.2) := by
  subst hM
  obtain ⟨g, said, er, cnt⟩ := m
  simp only at he
  subst he
  cases fl with
  | true =>
    simp only [bytesOf1, if_true, List.append_nil, dueM, true_or, and_true] at hd ⊢
    have hg : g = [] := List.eq_nil_of_length_eq_zero (by omega)
    subst hg
    rw [flushM, if_neg (by simp), handM, if_pos rfl]
  | false =>
    simp only [bytesOf1, Bool.false_eq_true, if_false, false_or, dueM] at hd ⊢
    rw [writeM_eq _ _ _ _ _ rfl]
    by_cases hs : size ≤ (((g ++ R.flatten).length : Nat) : Int)
    · rw [if_pos hs]
      have h0 : (g ++ R.flatten).length = 0 := by
        have : ¬ 0 < (g ++ R.flatten).length := fun h => hd ⟨h, hs⟩
        omega
      have hg : g ++ R.flatten = [] := List.eq_nil_of_length_eq_zero h0
      rw [handM, if_pos hg]
    · rw [if_neg hs]

/-- Where a byte lies in what was handed on. -/
def posM (said : List (List Int)) (call at' : Nat) : Nat := (said.take call).flatten.length + at'
theorem flat_split (said : List (List Int)) (call : Nat) (h : call < said.length) : said.flatten = (said.take call).flatten ++ (said[call]?.getD [] ++ (said.drop (call + 1)).flatten) := by
  conv => lhs; rw [← List.take_append_drop call said]
  rw [List.flatten_append, List.drop_eq_getElem_cons h, List.flatten_cons, List.getElem?_eq_getElem h]
  rfl
theorem pos_byte (said : List (List Int)) (call at' : Nat) (h : call < said.length) (ha : at' < (said[call]?.getD []).length) : said.flatten[posM said call at']?.getD 0 = (said[call]?.getD [])[at']?.getD 0 := by
  rw [flat_split said call h, posM, List.getElem?_append_right (by omega)]
  rw [show (said.take call).flatten.length + at' - (said.take call).flatten.length = at' by omega, List.getElem?_append_left ha]
theorem pos_next (said : List (List Int)) (call : Nat) (h : call < said.length) : posM said (call + 1) 0 = posM said call (said[call]?.getD []).length := by
  unfold posM
  rw [takeF_len said call h]
  rfl
/-- While bytes are left there is a call that has them. -/
theorem pos_left (said : List (List Int)) (call : Nat) (h : call < said.length) (hp : posM said call (said[call]?.getD []).length < said.flatten.length) : call + 1 < said.length := by
  by_cases hc : call + 1 < said.length
  · exact hc
  · exfalso
    have hs := flat_split said call h
    have : said.drop (call + 1) = [] := List.drop_eq_nil_of_le (by omega)
    rw [this] at hs
    unfold posM at hp
    rw [hs] at hp
    simp at hp
/-- At the end nothing is left over. -/
theorem pos_end (said : List (List Int)) (call at' : Nat) (h : call < said.length) (ha : at' ≤ (said[call]?.getD []).length) (hne : ∀ i, i < said.length → said[i]?.getD [] ≠ []) (hp : posM said call at' = said.flatten.length) : call + 1 = said.length ∧ at' = (said[call]?.getD []).length := by
  have hs := congrArg List.length (flat_split said call h)
  rw [List.length_append, List.length_append] at hs
  unfold posM at hp
  have hd : (said.drop (call + 1)).flatten.length = 0 := by omega
  refine ⟨?_, by omega⟩
  by_cases hc : call + 1 < said.length
  · exfalso
    have h2 := flat_split said (call + 1) hc
    rw [List.drop_eq_getElem_cons hc, List.flatten_cons, List.length_append] at hd
    have h3 := hne (call + 1) hc
    rw [List.getElem?_eq_getElem hc] at h3
    exact h3 (List.eq_nil_of_length_eq_zero (by simp only [Option.getD_some]; omega))
  · omega
end Go.Proofs.Ytbdgolbejoheiaa
