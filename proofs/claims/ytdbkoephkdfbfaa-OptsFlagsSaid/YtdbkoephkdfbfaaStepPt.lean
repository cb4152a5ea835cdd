/-
  The append of one part to an owned list, at a step of a region that draws its order.
-/
import Derived.Test.YtdbkoephkdfbfaaStr
import Derived.Deep.RegionLaw
import Derived.Deep.AppendLies
namespace Go.Proofs.Ytdbkoephkdfbfaa
open Go.RowKit

theorem two_cell (w : World) (x y : Value) (e : TypeId) : ∀ (j : Nat) (u : Value), [x, y][j]? = some u → ((w.alloc (.cells #[x, y] e)).drew).cell? ((⟨w.heap.size, 0, none⟩ : Addr).add j) = some u := by
  intro j u h
  have e1 : (⟨w.heap.size, 0, none⟩ : Addr).add j = ⟨w.heap.size, j, none⟩ := by unfold Addr.add; by_cases hj : j = 0 <;> simp [hj]
  rw [e1]
  show (w.alloc (.cells #[x, y] e)).cell? _ = _
  rw [cell_of_row _ _ _ _ _ (0, 0) (heap_alloc_new w _)]
  simpa using h
theorem step_pt {ops : Array Oper} {o : Oper} {a : Act} {w : World} {K : Act → World → Prop} {Q : Exit → Act → World → Prop} {E : Prop} (hgd : o.guard = none) (s x : Operand)
    (ho : o.op = .call { callee := .builtin .append, args := #[s, x], argTypes := #[23, 23] })
    (base : Nat) (v : Value) (xs : List Prt) (f : Bool) (t : Str) (hs : a.eval s = v) (hown : OwnPt w base v xs) (hx : a.eval x = .slice (some ⟨w.heap.size, 0, none⟩) 1 1) (hsum : xs.length + 1 ≤ 5864062014805) (hbase : base ≤ w.heap.size)
    (h : ∀ g cap w', OwnPt w' base (.slice (some ⟨g, 0, none⟩) (xs.length + 1) cap) (xs ++ [(f, t)]) → AppPost w w' base v (.slice (some ⟨g, 0, none⟩) (xs.length + 1) cap) → K (a.put o.dst (.slice (some ⟨g, 0, none⟩) (xs.length + 1) cap)) w') :
    if Region.wanted o (yielded ops a.tmps) = true then Oper.wp Try.prog o a (w.alloc (.cells #[.bool f, .string t] 38)).drew K Q else E := by
  obtain ⟨i0, hi, hz0, hz1, hz2⟩ := info_parts infoPt
  refine step_append_lies _ hgd s x 23 ho base 38 i0 (.agg #[.bool false, .string ByteArray.empty]) 2 24 Try.underlying23 hi hz0 hz1 hz2 rfl (by decide) v xs.length (ptCells xs) hs (World.ownsRow.alloc hown _) ⟨w.heap.size, 0, none⟩ 1 1 [.bool f, .string t] hx rfl (two_cell w _ _ _) (pts_one [(f, t)]) (by decide) (by unfold maxLen; omega) (by omega) (by show base ≤ (w.alloc _).heap.size; rw [World.size_alloc]; omega) _ rfl ?_
  intro g cap w' hown' hgrow hat _
  refine h g cap w' ?_ (app_post hown (Nat.le_refl _) hbase ((Below.refl _ w).alloc (Nat.le_refl _) _).drew hgrow (hat.imp Eq.symm (congrArg some)))
  unfold OwnPt
  rw [List.length_append, ptCells_append]
  exact hown'
end Go.Proofs.Ytdbkoephkdfbfaa
