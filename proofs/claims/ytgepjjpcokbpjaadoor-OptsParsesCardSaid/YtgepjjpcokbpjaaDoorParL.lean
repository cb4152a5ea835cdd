/-
  Plain mathematics of layer 28: no list grows beyond the line.
-/
import Derived.Test.YtgepjjpcokbpjaaDoorOptB
namespace Go.Proofs.YtgepjjpcokbpjaaDoor

def LPar (ps : List Prt) : LRes → Prop
  | .done o => o.parts = ps
  | .arg o _ _ => o.parts = ps
  | .bad _ _ => True
theorem let_keep (s : Str) : ∀ (fuel pos : Nat) (o : Opt), LPar o.parts (letF s fuel pos o)
  | 0, pos, o => by rw [letF]; exact rfl
  | fuel + 1, pos, o => by
    rw [letF]
    split
    · split
      · exact let_keep s fuel _ { o with q := true }
      · split
        · exact let_keep s fuel _ { o with e := true }
        · split
          · exact let_keep s fuel _ { o with i := true, a := true }
          · split
            · exact let_keep s fuel _ { o with a := true }
            · split
              · exact rfl
              · trivial
    · exact rfl
def LenOk (r : PRes) (n m : Nat) : Prop := r.1.parts.length ≤ n ∧ r.1.files.length ≤ m
theorem fin_len (l : List Str) (o : Opt) (n m : Nat) (hn : o.parts.length + l.length ≤ n) (hm : l.length ≤ m) : LenOk (finish l o) n m := by
  by_cases hp : o.parts = []
  · cases l with
    | nil => rw [fin_none o hp]; exact ⟨Nat.zero_le _, Nat.zero_le _⟩
    | cons x r => rw [fin_one x r o hp]; simp at hn hm; exact ⟨by simp; omega, by simp; omega⟩
  · rw [fin_many l o hp]; exact ⟨by simp; omega, hm⟩
theorem par_len : ∀ (k : Nat) (l : List Str) (o : Opt) (n m : Nat), l.length ≤ k → o.parts.length + l.length ≤ n → l.length ≤ m → LenOk (parF l o) n m
  | k, [], o, n, m, _, hn, hm => by rw [par_nil]; exact fin_len _ _ _ _ hn hm
  | 0, _ :: _, _, _, _, hk, _, _ => by simp at hk
  | k + 1, w :: rest, o, n, m, hk, hn, hm => by
    simp only [List.length_cons] at hk hn hm
    cases hi : isOpt w with
    | false => rw [par_not w rest o hi]; exact fin_len _ _ _ _ (by simp only [List.length_cons]; omega) (by simp only [List.length_cons]; omega)
    | true =>
      by_cases h2 : w = str [45, 45]
      · subst h2; rw [par_end]; exact fin_len _ _ _ _ (by omega) (by omega)
      · have hinv := let_keep (tailW w) (tailW w).size 0 o
        cases hl : letF (tailW w) (tailW w).size 0 o with
        | done o' =>
          rw [hl] at hinv
          have hinv : o'.parts = o.parts := hinv
          rw [par_done w rest o o' hi h2 hl]
          exact par_len k rest o' n m (by omega) (by rw [hinv]; omega) (by omega)
        | arg o' f pos =>
          rw [hl] at hinv
          have hinv : o'.parts = o.parts := hinv
          by_cases ht : w.extract (pos + 2) w.size = ByteArray.empty
          · cases rest with
            | nil => rw [par_use w o o' f pos hi h2 hl ht]; exact ⟨Nat.zero_le _, Nat.zero_le _⟩
            | cons t rest =>
              rw [par_need w t rest o o' f pos hi h2 hl ht]
              simp only [List.length_cons] at hk hn hm
              exact par_len k rest (push o' f t) n m (by omega) (by simp only [push, List.length_append, List.length_singleton, hinv]; omega) (by omega)
          · rw [par_arg w rest o o' f pos hi h2 hl ht]
            exact par_len k rest (push o' f _) n m (by omega) (by simp only [push, List.length_append, List.length_singleton, hinv]; omega) (by omega)
        | bad r pos => rw [par_bad w rest o _ pos hi h2 hl]; exact ⟨Nat.zero_le _, Nat.zero_le _⟩
end Go.Proofs.YtgepjjpcokbpjaaDoor
