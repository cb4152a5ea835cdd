/-
  Rows put together, plainly.
-/
import Derived.Test.YtadjonggmbndmaaNumber
namespace Go.Proofs.Ytadjonggmbndmaa

def sepL (i : Nat) : List Int := if 0 < i then [10] else []
def jnTo (r : List (List Int)) : Nat → List Int
  | 0 => []
  | i + 1 => jnTo r i ++ sepL i ++ (r[i]?.getD [])
def sumTo (r : List (List Int)) : Nat → Nat
  | 0 => 0
  | i + 1 => sumTo r i + 1 + (r[i]?.getD []).length
theorem sepL_len (i : Nat) : (sepL i).length ≤ 1 := by unfold sepL; split <;> simp
theorem jnTo_len (r : List (List Int)) : ∀ i, (jnTo r i).length ≤ sumTo r i
  | 0 => by simp [jnTo]
  | i + 1 => by
    have := jnTo_len r i
    have := sepL_len i
    rw [jnTo, sumTo, List.length_append, List.length_append]
    omega
theorem sumTo_mono (r : List (List Int)) (i : Nat) : ∀ n, sumTo r i ≤ sumTo r (i + n)
  | 0 => Nat.le_refl _
  | n + 1 => by
    have := sumTo_mono r i n
    rw [show i + (n + 1) = i + n + 1 by omega, sumTo]
    omega

def escB (b : Int) : Bool := decide (b = 10 ∨ b = 92 ∨ b % 3 = 0)
theorem escL_append (a b : List Int) : escL (a ++ b) = escL a ++ escL b := by
  induction a with
  | nil => rfl
  | cons x t ih =>
    rw [List.cons_append, escL, escL]
    split <;> simp [ih]
theorem escL_one (b : Int) : escL [b] = (if escB b then [92] else []) ++ [b] := by
  rw [escL, escL]
  unfold escB
  by_cases h : b = 10 ∨ b = 92 ∨ b % 3 = 0
  · rw [if_pos h, decide_eq_true h]; rfl
  · rw [if_neg h, decide_eq_false h]; rfl
theorem escL_sep (i : Nat) : escL (sepL i) = if 0 < i then [92, 10] else [] := by
  unfold sepL
  split <;> rfl
theorem escL_len (l : List Int) : (escL l).length ≤ 2 * l.length := by
  induction l with
  | nil => simp [escL]
  | cons b t ih =>
    rw [escL]
    split <;> simp <;> omega

/-- The text that is put together is read as what is wanted. -/
theorem text_read (z u b : List Int) (hz : ∀ c ∈ z, blB c = true) :
    runL blB (z ++ 92 :: 10 :: (escL u ++ 10 :: b)) 0 = z ∧ (z ++ 92 :: 10 :: (escL u ++ 10 :: b)).drop (0 + z.length) = 92 :: 10 :: (escL u ++ 10 :: b) ∧ txL (escL u ++ 10 :: b) = some (u, (escL u).length) := by
  refine ⟨?_, by rw [Nat.zero_add]; exact List.drop_left, ?_⟩
  · unfold runL
    rw [List.drop_zero, List.takeWhile_append_of_pos hz, List.takeWhile_cons_of_neg (by decide), List.append_nil]
  · rw [txL_esc, txL_nl]
    simp
end Go.Proofs.Ytadjonggmbndmaa
