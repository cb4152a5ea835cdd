/-
  Runs of bytes, as pairs; lists of runs that a call owns.
-/
import Derived.Test.YthegepiafodpjaaDoorLeast
import Derived.Laws.OwnMore
import Derived.Test.YthegepiafodpjaaDoorEqC
namespace Go.Proofs.YthegepiafodpjaaDoor
open Go.RowKit

/-- The runs behind one more byte. -/
def runStep (rs : List (Nat × Nat)) (x : Nat) : List (Nat × Nat) := match rs.getLast? with
  | some r => if r.2 + 1 = x then rs.dropLast ++ [(r.1, x)] else rs ++ [(x, x)]
  | none => [(x, x)]
def runsOf (l : List Byt) : List (Nat × Nat) := l.foldl (fun r x => runStep r x.1) []
theorem runsOf_snoc (l : List Byt) (x : Byt) : runsOf (l ++ [x]) = runStep (runsOf l) x.1 := by unfold runsOf; rw [List.foldl_append]; rfl
theorem runStep_nil (x : Nat) : runStep [] x = [(x, x)] := rfl
theorem runStep_ext (rs : List (Nat × Nat)) (r : Nat × Nat) (x : Nat) (h : r.2 + 1 = x) : runStep (rs ++ [r]) x = rs ++ [(r.1, x)] := by
  unfold runStep; simp [h]
theorem runStep_new (rs : List (Nat × Nat)) (r : Nat × Nat) (x : Nat) (h : r.2 + 1 ≠ x) : runStep (rs ++ [r]) x = rs ++ [r] ++ [(x, x)] := by
  unfold runStep; simp [h]
theorem runStep_len (rs : List (Nat × Nat)) (x : Nat) : (runStep rs x).length ≤ rs.length + 1 := by
  rcases List.eq_nil_or_concat rs with rfl | ⟨L, b, rfl⟩
  · simp [runStep_nil]
  · by_cases h : b.2 + 1 = x
    · rw [List.concat_eq_append, runStep_ext _ _ _ h]; simp
    · rw [List.concat_eq_append, runStep_new _ _ _ h]; simp
theorem runsOf_len (l : List Byt) : (runsOf l).length ≤ l.length := by
  have : ∀ (l : List Byt) (r : List (Nat × Nat)), (l.foldl (fun r x => runStep r x.1) r).length ≤ r.length + l.length := by
    intro l
    induction l with
    | nil => intro r; simp
    | cons x t ih =>
      intro r
      rw [List.foldl_cons]
      have h1 := ih (runStep r x.1)
      have h2 := runStep_len r x.1
      simp only [List.length_cons]
      omega
  have h := this l []
  rw [List.length_nil, Nat.zero_add] at h
  exact h
/-- Every end of a run is a byte. -/
def IsR (rs : List (Nat × Nat)) : Prop := ∀ r ∈ rs, r.1 < 256 ∧ r.2 < 256
theorem isR_step (rs : List (Nat × Nat)) (x : Nat) (h : IsR rs) (hx : x < 256) : IsR (runStep rs x) := by
  rcases List.eq_nil_or_concat rs with rfl | ⟨L, b, rfl⟩
  · intro r hr; rw [runStep_nil] at hr; rw [List.mem_singleton.1 hr]; exact ⟨hx, hx⟩
  · rw [List.concat_eq_append] at h ⊢
    have hb := h b (List.mem_append.2 (.inr (by simp)))
    by_cases e : b.2 + 1 = x
    · rw [runStep_ext _ _ _ e]
      intro r hr
      rcases List.mem_append.1 hr with hr | hr
      · exact h r (List.mem_append.2 (.inl hr))
      · rw [List.mem_singleton.1 hr]; exact ⟨hb.1, hx⟩
    · rw [runStep_new _ _ _ e]
      intro r hr
      rcases List.mem_append.1 hr with hr | hr
      · exact h r hr
      · rw [List.mem_singleton.1 hr]; exact ⟨hx, hx⟩
theorem isR_of (l : List Byt) : IsR (runsOf l) := by
  have : ∀ (l : List Byt) (r : List (Nat × Nat)), IsR r → IsR (l.foldl (fun r x => runStep r x.1) r) := by
    intro l
    induction l with
    | nil => intro r h; exact h
    | cons x t ih => intro r h; exact ih _ (isR_step r x.1 h x.2)
  exact this l [] (fun r hr => by cases hr)

/-- The cells of runs. -/
def cellsR (rs : List (Nat × Nat)) : List Value := rs.flatMap fun r => [.int .u8 (r.1 : Int), .int .u8 (r.2 : Int)]
theorem cellsR_len (rs : List (Nat × Nat)) : (cellsR rs).length = rs.length * 2 := by
  induction rs with
  | nil => rfl
  | cons x t ih => rw [cellsR, List.flatMap_cons, List.length_append, ← cellsR, ih, List.length_cons]; simp; omega
theorem cellsR_append (a b : List (Nat × Nat)) : cellsR (a ++ b) = cellsR a ++ cellsR b := by simp [cellsR]
theorem cellsR_last (rs : List (Nat × Nat)) (r : Nat × Nat) : (cellsR (rs ++ [r]))[rs.length * 2 + 1]? = some (.int .u8 (r.2 : Int)) := by
  rw [cellsR_append, List.getElem?_append_right (by rw [cellsR_len]; omega), cellsR_len]
  simp [cellsR]
theorem cellsR_set (rs : List (Nat × Nat)) (r : Nat × Nat) (x : Nat) : (cellsR (rs ++ [r])).set (rs.length * 2 + 1) (.int .u8 (x : Int)) = cellsR (rs ++ [(r.1, x)]) := by
  rw [cellsR_append, List.set_append_right _ _ (by rw [cellsR_len]; omega), cellsR_len, cellsR_append]
  simp [cellsR]
theorem infoRun : (Tryd.prog.info? 95).map (fun i => (i.zero, i.size, i.bytes)) = some (some (.agg #[.int .u8 0, .int .u8 0]), 2, 2) := by kernel_rfl
/-- The value v owns the runs rs, in blocks from base on. -/
def OwnRn (w : World) (base : Nat) (v : Value) (rs : List (Nat × Nat)) : Prop := w.ownsRow base 95 2 v rs.length (cellsR rs)
theorem run_not_cls {W : World} {b n₀ k : Nat} {v : Value} {xs : List Value} {c : List Nat} (ha : Arr64 W b 28 c) (hrow : W.ownsRow n₀ 95 2 v k xs) : v.ownBlock ≠ some b := by
  rcases hrow.2 with ⟨rfl, _⟩ | ⟨g, cap, cur, rfl, _, hgb, _⟩
  · simp [Value.ownBlock]
  · intro e
    obtain rfl : g = b := by simpa [Value.ownBlock] using e
    rw [show W.heap[g]? = _ from ha] at hgb
    simp only [Option.some.injEq, Obj.cells.injEq] at hgb
    exact absurd hgb.2.1 (by decide)
theorem keep_append {W w1 : World} {b n₀ k B : Nat} {v : Value} {xs : List Value} {c : List Nat} {tmp : Obj} (ha : Arr64 W b 28 c) (hrow : W.ownsRow n₀ 95 2 v k xs) (hgrow : (W.alloc tmp).grownBy w1 v.ownBlock) (hne : b ≠ B) (u : Value) : KeepB b W (w1.setCell ⟨B, 0, none⟩ u) := by
  show (w1.setCell ⟨B, 0, none⟩ u).heap[b]? = W.heap[b]?
  rw [heap_setCell_other w1 ⟨B, 0, none⟩ b u hne, hgrow.block b (by rw [World.size_alloc]; exact Nat.lt_succ_of_lt ha.lt) (fun e => run_not_cls ha hrow e.symm), Below.heap_alloc W tmp b ha.lt]
theorem two_cells (W : World) (x y : Value) (T : TypeId) : ∀ j u, [x, y][j]? = some u → (W.alloc (.cells #[x, y] T)).cell? ((⟨W.heap.size, 0, none⟩ : Addr).add j) = some u := by
  intro j u hj
  rw [show (⟨W.heap.size, 0, none⟩ : Addr).add j = ⟨W.heap.size, j, none⟩ by simp [Addr.add]; exact fun h => h.symm, cell_of_row _ W.heap.size j _ _ (0, 0) (heap_alloc_new W _)]
  simpa using hj
end Go.Proofs.YthegepiafodpjaaDoor
