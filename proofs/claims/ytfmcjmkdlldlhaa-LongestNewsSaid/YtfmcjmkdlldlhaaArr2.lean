/-
  Blocks whose elements are pairs of cells; lists with marks behind them; the numbers of the marks.
-/
import Derived.Test.YtfmcjmkdlldlhaaBytes
namespace Go.Proofs.Ytfmcjmkdlldlhaa
open Go.RowKit

abbrev VV := Value × Value
def vv0 : VV := (undef, undef)
def row2 (l : List VV) : List Value := l.flatMap fun m => [m.1, m.2]
theorem row2_len (l : List VV) : (row2 l).length = l.length * 2 := by
  unfold row2
  induction l with
  | nil => rfl
  | cons m l ih => simp at ih ⊢; omega
theorem row2_get : ∀ (l : List VV) (i : Nat), i < l.length → (row2 l)[i * 2]? = some (l[i]?.getD vv0).1 ∧ (row2 l)[i * 2 + 1]? = some (l[i]?.getD vv0).2
  | [], i, h => absurd h (Nat.not_lt_zero _)
  | m :: l, 0, _ => by simp [row2]
  | m :: l, i + 1, h => by
    have := row2_get l i (by simpa using h)
    unfold row2 at this ⊢
    rw [List.flatMap_cons, show (i + 1) * 2 = i * 2 + 1 + 1 by omega]
    simpa using this
theorem row2_set : ∀ (l : List VV) (i : Nat) (x y : Value), ((row2 l).set (i * 2) x).set (i * 2 + 1) y = row2 (l.set i (x, y))
  | [], i, x, y => by simp [row2]
  | m :: l, 0, x, y => by simp [row2]
  | m :: l, i + 1, x, y => by
    have := row2_set l i x y
    unfold row2 at this ⊢
    rw [List.flatMap_cons, List.set_cons_succ, List.flatMap_cons, show (i + 1) * 2 = i * 2 + 1 + 1 by omega]
    simpa using this
theorem row2_append (a b : List VV) : row2 (a ++ b) = row2 a ++ row2 b := by unfold row2; rw [List.flatMap_append]

/-- Block g of w is just the pairs l. -/
def Arr2 (w : World) (g : Nat) (T : TypeId) (l : List VV) : Prop := w.heap[g]? = some (.cells (row2 l).toArray T (0, 0))
theorem Arr2.lt {w : World} {g : Nat} {T : TypeId} {l : List VV} (h : Arr2 w g T l) : g < w.heap.size := (Array.getElem?_eq_some_iff.1 h).1
theorem Arr2.cell {w : World} {g : Nat} {T : TypeId} {l : List VV} (h : Arr2 w g T l) (i : Nat) (hi : i < l.length) :
    w.cell? ⟨g, i * 2, none⟩ = some (l[i]?.getD vv0).1 ∧ w.cell? ⟨g, i * 2 + 1, none⟩ = some (l[i]?.getD vv0).2 := by
  have := row2_get l i hi
  rw [cell_of_row w g _ _ T (0, 0) h, cell_of_row w g _ _ T (0, 0) h]
  simpa using this
theorem Arr2.frozen {w : World} {g : Nat} {T : TypeId} {l : List VV} (h : Arr2 w g T l) (i : Nat) : w.frozen? ⟨g, i, none⟩ = false := frozen_of_row w g i _ T h
theorem Arr2.set {w : World} {g : Nat} {T : TypeId} {l : List VV} (h : Arr2 w g T l) (i : Nat) (x y : Value) : Arr2 ((w.setCell ⟨g, i * 2, none⟩ x).setCell ⟨g, i * 2 + 1, none⟩ y) g T (l.set i (x, y)) := by
  unfold Arr2
  have h1 := heap_setCell_same w g (i * 2) _ T x h
  rw [heap_setCell_same _ g (i * 2 + 1) _ T y h1]
  congr 2
  apply Array.ext'
  rw [← Array.toList_setIfInBounds] at *
  simp only [List.setIfInBounds_toArray]
  exact row2_set l i x y
theorem Arr2.keep {w w' : World} {g : Nat} {T : TypeId} {l : List VV} (h : Arr2 w g T l) (hk : w'.heap[g]? = w.heap[g]?) : Arr2 w' g T l := hk.trans h
theorem Arr2.below {w w' : World} {g : Nat} {T : TypeId} {l : List VV} (h : Arr2 w g T l) (hb : Below w.heap.size w w') : Arr2 w' g T l := h.keep (hb.block g h.lt)
theorem Arr2.new (w : World) (T : TypeId) (l : List VV) : Arr2 (w.alloc (.cells (row2 l).toArray T)) w.heap.size T l := heap_alloc_new w _

theorem pair_cells2 (c : Value → Value → Nat → Value) (a b : Value) (h0 : ∀ k, c a b (k * 2) = a) (h1 : ∀ k, c a b (k * 2 + 1) = b) : ∀ k, (List.range (k * 2)).map (c a b) = row2 (List.replicate k (a, b))
  | 0 => rfl
  | k + 1 => by
    rw [show (k + 1) * 2 = k * 2 + 1 + 1 by omega, List.range_succ, List.range_succ, List.map_append, List.map_append, pair_cells2 c a b h0 h1 k, List.replicate_succ', row2_append]
    simp [h0, h1, row2]
theorem made2 (w : World) (ts te : TypeId) (a b : Value) (n by_ : Nat) (ht : Try.prog.underlying ts = some (.slice te)) (hinfo : (Try.prog.info? te).map (fun i => (i.zero, i.size, i.bytes)) = some (some (.agg #[a, b]), 2, by_)) (hn : n ≤ 2147483647) (hby : by_ ≤ 4096) :
    (Instr.makeSlice ts (.int .i64 ((n : Int) + 64)) (.int .i64 ((n : Int) + 64))).run Try.prog w = .ok (.slice (some ⟨w.heap.size, 0, none⟩) (n + 64) (n + 64)) (w.alloc (.cells (row2 (List.replicate (n + 64) (a, b))).toArray te)) := by
  obtain ⟨i, hi, hz, hs, hb⟩ := info_parts hinfo
  have hb64 : (i.bytes : Int) * ((n : Int) + 64) ≤ 4096 * 2147483711 := Int.mul_le_mul (by omega) (by omega) (by omega) (by omega)
  have h := run_make (P := Try.prog) w ts te i _ ht hi hz .i64 .i64 ((n : Int) + 64) ((n : Int) + 64) (by omega) (by omega) (by first | omega | (rw [Int.mul_comm]; omega)) (by omega)
  rw [h, hs]
  have e1 : ((n : Int) + 64).toNat = n + 64 := by omega
  have e : madeCells (Value.cells (.agg #[a, b])) ((n + 64) * 2) = (row2 (List.replicate (n + 64) (a, b))).toArray := by
    generalize n + 64 = k
    apply Array.ext'
    have := pair_cells2 (fun a b j => #[a, b][j % 2]!) a b (fun k => by simp) (fun k => by simp [Nat.add_mod]) k
    simp only [madeCells, Value.cells, Array.toList_map, Array.toList_range]
    rw [show (#[a, b] : Array Value).size = 2 from rfl, this]
  rw [e1, e]

/-! ### Marks behind a list -/
def wideG {α : Type} (f : Nat → α) (l : List α) : List α := l ++ (List.range 64).map fun i => f (l.length + i)
theorem wideG_len {α : Type} (f : Nat → α) (l : List α) : (wideG f l).length = l.length + 64 := by simp [wideG]
theorem wideG_lo {α : Type} (d : α) (f : Nat → α) (l : List α) (j : Nat) (h : j < l.length) : (wideG f l)[j]?.getD d = l[j]?.getD d := by
  unfold wideG; rw [List.getElem?_append_left h]
theorem wideG_hi {α : Type} (d : α) (f : Nat → α) (l : List α) (j : Nat) (h : l.length ≤ j) (h2 : j < l.length + 64) : (wideG f l)[j]?.getD d = f j := by
  unfold wideG
  rw [List.getElem?_append_right h, List.getElem?_map, List.getElem?_range (by omega)]
  simp only [Option.map_some, Option.getD_some]
  congr 1
  omega
theorem ext_ofG {α : Type} (d : α) (l m : List α) (hl : l.length = m.length) (h : ∀ j : Nat, j < l.length → l[j]?.getD d = m[j]?.getD d) : l = m := by
  apply List.ext_getElem hl
  intro j h1 h2
  have := h j h1
  rwa [List.getElem?_eq_getElem h1, List.getElem?_eq_getElem h2, Option.getD_some, Option.getD_some] at this

/-! ### The numbers of the marks -/
theorem num_any (w : World) (n i : Nat) (hn : n ≤ 4294967296) (hi : i ≤ 1125899906842624) : Calls Try.prog 27 #[.int .i64 n, .int .i64 i] w fun e w' => e = .returned (.int .i64 (1048576 * (n : Int) + (i : Int) + 1)) ∧ w = w' := by
  go_enter Try.func27, Try.ntmps27
  go_wp2_with fail
  go_ret
  exact ⟨rfl, rfl⟩
theorem num9 (w : World) (i : Nat) (hi : i ≤ 1125899906842624) : Calls Try.prog 27 #[.int .i64 9, .int .i64 i] w fun e w' => e = .returned (.int .i64 (1048576 * 9 + (i : Int) + 1)) ∧ w = w' := num_any w 9 i (by omega) hi
theorem num9q (w : World) (i q : Nat) (hi : i ≤ 1125899906842624) : Calls Try.prog 27 #[.int .i64 9, .int .i64 i] (w.drewN q) fun e w' => e = .returned (.int .i64 (1048576 * 9 + (i : Int) + 1)) ∧ ∃ m, w' = w.drewN m :=
  (num9 _ i hi).mono fun _ _ ⟨e, h⟩ => ⟨e, q, h.symm⟩
end Go.Proofs.Ytfmcjmkdlldlhaa
