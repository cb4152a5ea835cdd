/-
  The digits of a number, plainly.
-/
import Derived.Test.YtadjonggmbndmaaNumber
namespace Go.Proofs.Ytadjonggmbndmaa

theorem rv_step (x : Int) (ds : List Int) : valTo (x / 10) ((ds ++ [48 + x % 10]).reverse) = valTo x ds.reverse := by
  rw [List.reverse_append, List.reverse_singleton, List.singleton_append, valTo]
  congr 1
  omega
theorem val_zeros (k : Nat) : valTo 0 (List.replicate k 48) = 0 := by
  induction k with
  | zero => rfl
  | succ k ih => rw [List.replicate_succ, valTo]; exact ih
theorem val_text (k : Nat) (x : Int) (ds : List Int) : valTo 0 (List.replicate k 48 ++ (48 + x) :: ds.reverse) = valTo x ds.reverse := by
  rw [valTo_append, val_zeros, valTo]
  congr 1
  omega
theorem run_text (T b : List Int) (hT : ∀ c ∈ T, digB c = true) (hb : b = [] ∨ digB (b[0]?.getD 0) = false) : runL digB (T ++ b) 0 = T := by
  unfold runL
  rw [List.drop_zero, List.takeWhile_append_of_pos hT]
  cases b with
  | nil => simp
  | cons y t =>
    rcases hb with h | h
    · cases h
    · simp only [List.getElem?_cons_zero, Option.getD_some] at h
      rw [List.takeWhile_cons_of_neg (by simp [h]), List.append_nil]

/-- The loop that takes the digits off. -/
def DigInv (n x : Int) (ds : List Int) : Prop := 0 ≤ x ∧ valTo x ds.reverse = n ∧ (∀ c ∈ ds, digB c = true) ∧ ds.length ≤ 19 ∧ x.toNat < 10 ^ (19 - ds.length)
theorem dig_start (n : Int) (h0 : 0 ≤ n) (h1 : n ≤ 9223372036854775807) : DigInv n n [] := ⟨h0, rfl, by simp, by simp, by simp only [List.length_nil, Nat.sub_zero]; omega⟩
theorem dig_step (n x : Int) (ds : List Int) (h : DigInv n x ds) (hx : 9 < x) : DigInv n (x / 10) (ds ++ [48 + x % 10]) := by
  obtain ⟨h0, h1, h2, h3, h4⟩ := h
  have h5 : 2 ≤ 19 - ds.length := by
    rcases Nat.lt_or_ge (19 - ds.length) 2 with h | h
    · have : 10 ^ (19 - ds.length) ≤ 10 ^ 1 := Nat.pow_le_pow_right (by omega) (by omega)
      omega
    · exact h
  refine ⟨by omega, by rw [rv_step]; exact h1, ?_, by rw [List.length_append]; simp; omega, ?_⟩
  · intro c hc
    rw [List.mem_append, List.mem_singleton] at hc
    rcases hc with hc | rfl
    · exact h2 c hc
    · simp only [digB, decide_eq_true_eq]; omega
  · have e : 19 - ds.length = (19 - (ds ++ [48 + x % 10]).length) + 1 := by rw [List.length_append]; simp; omega
    rw [e, Nat.pow_succ] at h4
    have : (x / 10).toNat = x.toNat / 10 := by omega
    rw [this]
    exact Nat.div_lt_of_lt_mul (by omega)

/-- The text that is put together. -/
theorem num_text (k : Nat) (n x : Int) (ds b : List Int) (h : DigInv n x ds) (hx : x ≤ 9) (hb : b = [] ∨ digB (b[0]?.getD 0) = false) (most : Int) :
    numL most ((List.replicate k 48 ++ [48 + x] ++ ds.reverse) ++ b) 0 = if most < n then none else some (n, (List.replicate k 48 ++ [48 + x] ++ ds.reverse).length) := by
  obtain ⟨h0, h1, h2, h3, h4⟩ := h
  have hT : ∀ c ∈ List.replicate k 48 ++ [48 + x] ++ ds.reverse, digB c = true := by
    intro c hc
    rw [List.mem_append, List.mem_append, List.mem_replicate, List.mem_singleton, List.mem_reverse] at hc
    rcases hc with (⟨_, rfl⟩ | rfl) | hc
    · rfl
    · simp only [digB, decide_eq_true_eq]; omega
    · exact h2 c hc
  have hv : valTo 0 (List.replicate k 48 ++ [48 + x] ++ ds.reverse) = n := by
    rw [List.append_assoc, List.singleton_append, val_text, h1]
  unfold numL
  rw [run_text _ b hT hb, hv]
  simp
end Go.Proofs.Ytadjonggmbndmaa
