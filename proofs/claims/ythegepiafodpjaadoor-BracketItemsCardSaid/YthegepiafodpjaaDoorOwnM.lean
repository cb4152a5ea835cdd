/-
  Lists of marks that a call owns.
-/
import Derived.Test.YthegepiafodpjaaDoorMk
namespace Go.Proofs.YthegepiafodpjaaDoor
open Go.RowKit

theorem infoM : (Tryd.prog.info? 35).map (fun i => (i.zero, i.size, i.bytes)) = some (some (.agg #[.int .u8 0, .bool false]), 2, 2) := by kernel_rfl
/-- The cells of marks. -/
def mkCells (l : List Mk) : List Value := l.flatMap fun m => [Value.int .u8 m.1, Value.bool m.2]
theorem mkCells_len (l : List Mk) : (mkCells l).length = l.length * 2 := by
  unfold mkCells
  induction l with
  | nil => rfl
  | cons m l ih => simp at ih ⊢; omega
theorem mkCells_append (a b : List Mk) : mkCells (a ++ b) = mkCells a ++ mkCells b := by unfold mkCells; rw [List.flatMap_append]
theorem mkCells_get : ∀ (l : List Mk) (i : Nat), i < l.length → (mkCells l)[i * 2]? = some (.int .u8 (l[i]?.getD (0, false)).1) ∧ (mkCells l)[i * 2 + 1]? = some (.bool (l[i]?.getD (0, false)).2)
  | [], i, h => absurd h (Nat.not_lt_zero _)
  | m :: l, 0, _ => by simp [mkCells]
  | m :: l, i + 1, h => by
    have := mkCells_get l i (by simpa using h)
    unfold mkCells at this ⊢
    rw [List.flatMap_cons, show (i + 1) * 2 = i * 2 + 1 + 1 by omega]
    simpa using this
theorem mkCells_one (l : List Mk) : ∀ u ∈ mkCells l, u.oneCell' = true := by
  intro u hu
  unfold mkCells at hu
  rw [List.mem_flatMap] at hu
  obtain ⟨m, _, hm⟩ := hu
  simp at hm
  rcases hm with rfl | rfl <;> rfl

/-- The value v owns the marks l, in blocks from base on. -/
def OwnM (w : World) (base : Nat) (v : Value) (l : List Mk) : Prop := w.ownsRow base 35 2 v l.length (mkCells l)
theorem OwnM.nil (w : World) (base : Nat) : OwnM w base (.slice none 0 0) [] := World.ownsRow_nil _ _ _ _
theorem OwnM.sm {w : World} {base : Nat} {v : Value} {l : List Mk} (h : OwnM w base v l) (hB : IsM l) (hl : l.length ≤ 70368744175616) : SM w v l := by
  rcases h.2 with ⟨rfl, hn⟩ | ⟨g, cap, cur, rfl, _, hg, _, _, _, htake⟩
  · exact ⟨hB, none, 0, by rw [hn], hl, .inl (List.eq_nil_of_length_eq_zero hn)⟩
  · refine ⟨hB, _, cap, rfl, hl, .inr ⟨g, 0, rfl, fun i hi => ?_⟩⟩
    obtain ⟨h1, h2⟩ := mkCells_get l i hi
    rw [← htake, List.getElem?_take_of_lt (by omega)] at h1 h2
    rw [Nat.zero_add, cell_of_row w g _ cur _ (0, 0) hg, cell_of_row w g _ cur _ (0, 0) hg]
    exact ⟨by simpa using h1, by simpa using h2⟩
theorem ownm_step {w' : World} {base : Nat} {v' : Value} {l m : List Mk} {n : Nat} (hn : n = m.length) (h : w'.ownsRow base 35 2 v' (l.length + n) (mkCells l ++ mkCells m)) : OwnM w' base v' (l ++ m) := by
  subst hn
  unfold OwnM
  rw [List.length_append, mkCells_append]
  exact h
theorem OwnM.alloc {w : World} {base : Nat} {v : Value} {l : List Mk} (h : OwnM w base v l) (o : Obj) : OwnM (w.alloc o) base v l := World.ownsRow.alloc h o
theorem OwnM.drewN {w : World} {base : Nat} {v : Value} {l : List Mk} (h : OwnM w base v l) (n : Nat) : OwnM (w.drewN n) base v l := h
theorem OwnM.from {w : World} {base : Nat} {v : Value} {l : List Mk} (h : OwnM w base v l) {B : Nat} (hB : B ≤ base) : ∀ k, v.ownBlock = some k → B ≤ k := fun k hk => Nat.le_trans hB (World.ownsRow.lt h k hk).1
theorem OwnM.setBelow {w : World} {base : Nat} {v : Value} {l : List Mk} (h : OwnM w base v l) {a : Addr} (ha : a.block < base) (u : Value) : OwnM (w.setCell a u) base v l := ownsRow_setCell_below h ha u
/-- New cells of marks, just laid. -/
theorem new_marks (w : World) (m : List Mk) (cs : Array Value) (hcs : cs = (mkCells m).toArray) (T : TypeId) : ∀ j u, (mkCells m)[j]? = some u → (w.alloc (.cells cs T)).cell? ((⟨w.heap.size, 0, none⟩ : Addr).add j) = some u := by
  intro j u hj
  subst hcs
  rw [show (⟨w.heap.size, 0, none⟩ : Addr).add j = ⟨w.heap.size, j, none⟩ by simp [Addr.add]; exact fun h => h.symm, cell_of_row _ w.heap.size j _ T (0, 0) (heap_alloc_new w _)]
  simpa using hj
theorem isM_nil : IsM [] := fun i => by simp
theorem isM_append (a b : List Mk) (ha : IsM a) (hb : IsM b) : IsM (a ++ b) := by
  intro i
  rw [List.getElem?_append]
  split
  · exact ha i
  · exact hb _
theorem isM_one (x : Int) (p : Bool) (h0 : 0 ≤ x) (h1 : x ≤ 255) : IsM [(x, p)] := by
  intro i
  match i with
  | 0 => simp; omega
  | i + 1 => simp
end Go.Proofs.YthegepiafodpjaaDoor
