/-
  class.least: the least byte of a class; 256, if it has none.
-/
import Derived.Test.YthegepiafodpjaaDoorOnce
namespace Go.Proofs.YthegepiafodpjaaDoor
open Go.RowKit Go.Shelf

attribute [local go_sem] Oper.semAt_some

def leastOf (l : List Byt) : Nat := match l with
  | [] => 256
  | x :: _ => x.1
def leastL (c : List Nat) : Nat := leastOf (elemsL c)
theorem leastOf_pre {x : Byt} {l : List Byt} (h : [x] <+: l) : leastOf l = x.1 := by
  obtain ⟨t, rfl⟩ := h
  rfl

theorem Arr64.kept {W W' : World} {g : Nat} {T : TypeId} {l : List Nat} {row : Option Nat} (h : Arr64 W g T l) (hg : W.grownBy W' row) (hr : ∀ r, row = some r → ∃ o : Obj, W.heap[r]? = some o ∧ o.isCells = false) : Arr64 W' g T l := by
  refine (hg.block g h.lt fun e => ?_).trans h
  obtain ⟨o, ho, hc⟩ := hr g e.symm
  rw [show W.heap[g]? = _ from h] at ho
  cases ho; cases hc

theorem boxed_keptC {W W' : World} {g : Nat} {T : TypeId} {v : Value} {row : Option Nat} (h : Boxed W g T v) (hg : W.grownBy W' row) (hr : ∀ r, row = some r → ∃ o : Obj, W.heap[r]? = some o ∧ o.isCells = false) : Boxed W' g T v := by
  refine h.kept hg fun e => ?_
  obtain ⟨o, ho, hc⟩ := hr g e.symm
  rw [show W.heap[g]? = _ from h] at ho
  cases ho; cases hc

end Go.Proofs.YthegepiafodpjaaDoor
