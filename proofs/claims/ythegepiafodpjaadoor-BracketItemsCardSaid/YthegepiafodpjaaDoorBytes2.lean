/-
  append(out, some bytes...): several bytes at once.
-/
import Derived.Test.YthegepiafodpjaaDoorBytes
namespace Go.Proofs.YthegepiafodpjaaDoor
open Go.RowKit

/-- append(out, y0, y1, ..): the bytes lie in a block of their own, just laid. -/
theorem append_bl {ops : Array Oper} {rest : List Oper} {o : Oper} {a : Act} {w : World} {Q : Exit → Act → World → Prop} (hgd : o.guard = none) (s x : Operand)
    (ho : o.op = .call { callee := .builtin .append, args := #[s, x], argTypes := #[91, 91] })
    (base : Nat) (v : Value) (xs ys : List Int) (cs : Array Value) (n : Nat) (hcs : cs = row ys) (hn : ys.length = n) (hs : a.eval s = v) (hown : OwnB w base v xs) (hx : a.eval x = .slice (some ⟨w.heap.size, 0, none⟩) n n)
    (hsum : xs.length + n ≤ 140737488355328) (hbase : base ≤ w.heap.size)
    (h : ∀ v' w', OwnB w' base v' (xs ++ ys) → AppPost w w' base v v' → wpList Tryd.prog ops Q rest (a.put o.dst v') w') :
    wpList Tryd.prog ops Q (o :: rest) a (w.alloc (.cells cs 5)) := by
  obtain ⟨i0, hi, hz0, hz1, hz2⟩ := info_parts infoB
  subst hcs hn
  have hnews : ∀ j u, (ys.map (Value.int .u8))[j]? = some u → (w.alloc (.cells (row ys) 5)).cell? ((⟨w.heap.size, 0, none⟩ : Addr).add j) = some u := by
    intro j u hj
    rw [show (⟨w.heap.size, 0, none⟩ : Addr).add j = ⟨w.heap.size, j, none⟩ by simp [Addr.add]; exact fun h => h.symm, cell_of_row _ w.heap.size j _ _ (0, 0) (heap_alloc_new w _)]
    simpa [row] using hj
  refine wpList_append_own_at _ hgd s x 91 ho base 5 i0 (.int .u8 0) 1 1 Tryd.underlying91 hi hz0 hz1 hz2 rfl (by decide) v xs.length (xs.map (Value.int .u8)) hs (World.ownsRow.alloc hown _) ⟨w.heap.size, 0, none⟩ ys.length ys.length (ys.map (Value.int .u8)) hx (by rw [List.length_map, Nat.mul_one]) hnews (bytes_one ys) (by unfold maxLen; omega) (by omega) (by rw [World.size_alloc]; omega) ?_
  intro v' w' hown' hgrow _ hat
  refine h v' w' ?_ (app_post hown (Nat.le_refl _) hbase ((Below.refl _ w).alloc (Nat.le_refl _) _) hgrow hat)
  unfold OwnB
  rw [List.length_append, List.map_append]
  exact hown'
end Go.Proofs.YthegepiafodpjaaDoor
