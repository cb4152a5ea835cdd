/-
  Lines joined at a line end: what the first is, what is left, the lines again.
-/
import Derived.Test.YtadjonggmbndmaaFirst
import Derived.Test.YtadjonggmbndmaaPlain
namespace Go.Proofs.Ytadjonggmbndmaa
open Go.RowKit

/-- A list of lines, never empty, joined. -/
def joinL : List (List Int) → List Int
  | [] => []
  | [x] => x
  | x :: y :: r => x ++ 10 :: joinL (y :: r)
/-- No line end in it. -/
def NoNl (x : List Int) : Prop := ∀ c ∈ x, c ≠ 10

theorem cutL_none_of : ∀ {x : List Int}, NoNl x → cutL x = none
  | [], _ => rfl
  | c :: t, h => by
    rw [cutL, if_neg (h c (List.mem_cons_self))]
    rw [cutL_none_of (fun d hd => h d (List.mem_cons_of_mem _ hd))]
    rfl
theorem cutL_some_of : ∀ {x : List Int} (y : List Int), NoNl x → cutL (x ++ 10 :: y) = some (x, y)
  | [], y, _ => by rw [List.nil_append, cutL, if_pos rfl]
  | c :: t, y, h => by
    rw [List.cons_append, cutL, if_neg (h c (List.mem_cons_self)), cutL_some_of y (fun d hd => h d (List.mem_cons_of_mem _ hd))]
    rfl
theorem plainL_noNl (l : List Int) : NoNl (plainL l) := fun c hc e => by
  have := (List.mem_filter.1 hc).2
  rw [e] at this
  simp at this
theorem joinL_snoc : ∀ (r : List (List Int)) (x : List Int), r ≠ [] → joinL (r ++ [x]) = joinL r ++ 10 :: x
  | [], _, h => absurd rfl h
  | [y], x, _ => rfl
  | y :: z :: r, x, _ => by
    show joinL (y :: z :: (r ++ [x])) = joinL (y :: z :: r) ++ 10 :: x
    rw [joinL, joinL]
    have := joinL_snoc (z :: r) x (by simp)
    rw [List.cons_append] at this
    rw [this]
    simp
theorem firstL_join (x : List Int) (r : List (List Int)) (h : NoNl x) : firstL (joinL (x :: r)) = x := by
  cases r with
  | nil => unfold firstL; rw [joinL, cutL_none_of h]
  | cons y r => unfold firstL; rw [joinL, cutL_some_of _ h]
theorem foundL_join (x : List Int) (r : List (List Int)) (h : NoNl x) : foundL (joinL (x :: r)) = decide (1 < (x :: r).length) := by
  cases r with
  | nil => unfold foundL; rw [joinL, cutL_none_of h]; rfl
  | cons y r => unfold foundL; rw [joinL, cutL_some_of _ h]; simp
theorem restL_join (x y : List Int) (r : List (List Int)) (h : NoNl x) : restL (joinL (x :: y :: r)) = joinL (y :: r) := by
  unfold restL; rw [joinL, cutL_some_of _ h]
theorem join_len (x y : List Int) (r : List (List Int)) : (joinL (x :: y :: r)).length = x.length + 1 + (joinL (y :: r)).length := by
  rw [joinL, List.length_append, List.length_cons]; omega

/-- The lines of a list of bytes. -/
def linesStep (r : List (List Int)) (c : Int) : List (List Int) := if c = 10 then r ++ [[]] else r.dropLast ++ [r.getLastD [] ++ [c]]
def linesL (l : List Int) : List (List Int) := l.foldl linesStep [[]]
theorem linesStep_ne (r : List (List Int)) (c : Int) : linesStep r c ≠ [] := by
  unfold linesStep; split <;> simp
theorem lines_run (x : List Int) (h : NoNl x) : ∀ (r : List (List Int)) (z : List Int), x.foldl linesStep (r ++ [z]) = r ++ [z ++ x] := by
  induction x with
  | nil => intro r z; simp
  | cons c t ih =>
    intro r z
    rw [List.foldl_cons]
    have e : linesStep (r ++ [z]) c = r ++ [z ++ [c]] := by
      unfold linesStep
      rw [if_neg (h c (List.mem_cons_self)), List.dropLast_concat]
      simp
    rw [e, ih (fun d hd => h d (List.mem_cons_of_mem _ hd))]
    simp
theorem lines_join : ∀ (r : List (List Int)) (x : List Int) (q : List (List Int)) (z : List Int), (∀ y ∈ x :: r, NoNl y) → (joinL (x :: r)).foldl linesStep (q ++ [z]) = q ++ (z ++ x) :: r
  | [], x, q, z, h => by rw [joinL, lines_run x (h x (List.mem_cons_self))]
  | y :: r, x, q, z, h => by
    rw [joinL, List.foldl_append, lines_run x (h x (List.mem_cons_self)), List.foldl_cons]
    have e : linesStep (q ++ [z ++ x]) 10 = (q ++ [z ++ x]) ++ [[]] := by unfold linesStep; rw [if_pos rfl]
    rw [e, lines_join r y _ [] (fun d hd => h d (List.mem_cons_of_mem _ hd))]
    simp
theorem linesL_join (x : List Int) (r : List (List Int)) (h : ∀ y ∈ x :: r, NoNl y) : linesL (joinL (x :: r)) = x :: r := by
  have := lines_join r x [] [] h
  simpa [linesL] using this
end Go.Proofs.Ytadjonggmbndmaa
