/-
  What a bound on the bulk of a reading gives.
-/
import Derived.Test.YtfmcjmkdlldlhaaRows
import Derived.Test.YtfmcjmkdlldlhaaOpen
import Derived.Deep.Slices
namespace Go.Proofs.Ytfmcjmkdlldlhaa
open Go.ChangeShapes Go.WideShapes Go.ChangeAt Go.RowKit

theorem bulk_all_cons {H : Type} (d : DataW H) (l : List (DataW H)) : Rows.uptoBulkAll (d :: l) = Rows.uptoBulk d + Rows.uptoBulkAll l := by rw [Rows.uptoBulkAll]
theorem bulk_all_nil {H : Type} : Rows.uptoBulkAll ([] : List (DataW H)) = 0 := by rw [Rows.uptoBulkAll]
theorem bulk_slice_eq {H : Type} (a b : List (DataW H)) : Rows.uptoBulk (.slice a b) = Rows.uptoBulkAll a + Rows.uptoBulkAll b + 1 := by rw [Rows.uptoBulk]
theorem bulk_agg_eq {H : Type} (a : List (DataW H)) : Rows.uptoBulk (.agg a) = Rows.uptoBulkAll a + 1 := by rw [Rows.uptoBulk]
theorem bulk_pos {H : Type} (d : DataW H) : 1 ≤ Rows.uptoBulk d := by
  cases d with
  | lit l => cases l <;> simp [Rows.uptoBulk]
  | nil => simp [Rows.uptoBulk]
  | ptr d => simp [Rows.uptoBulk]
  | slice elems spare => rw [bulk_slice_eq]; omega
  | agg parts => rw [bulk_agg_eq]; omega
  | iface t d => simp [Rows.uptoBulk]
  | map entries => simp [Rows.uptoBulk]
  | held h => simp [Rows.uptoBulk]
theorem bulk_all_app {H : Type} (l r : List (DataW H)) : Rows.uptoBulkAll (l ++ r) = Rows.uptoBulkAll l + Rows.uptoBulkAll r := by
  induction l with
  | nil => rw [bulk_all_nil, List.nil_append, Nat.zero_add]
  | cons x l ih => rw [List.cons_append, bulk_all_cons, bulk_all_cons, ih]; omega
theorem bulk_all_len {H : Type} (l : List (DataW H)) : l.length ≤ Rows.uptoBulkAll l := by
  induction l with
  | nil => exact Nat.zero_le _
  | cons x l ih => rw [bulk_all_cons, List.length_cons]; have := bulk_pos x; omega
theorem bulk_mem {H : Type} (l : List (DataW H)) (x : DataW H) (h : x ∈ l) : Rows.uptoBulk x ≤ Rows.uptoBulkAll l := by
  induction l with
  | nil => cases h
  | cons y l ih =>
    rw [bulk_all_cons]
    rcases List.mem_cons.1 h with rfl | h
    · omega
    · have := ih h; omega
/-- A part of a struct. -/
theorem bulk_at {H : Type} (l : List (DataW H)) (j : Nat) (x : DataW H) (h : l[j]? = some x) : Rows.uptoBulk x ≤ Rows.uptoBulk (.agg l) := by
  have := bulk_mem l x (List.mem_of_getElem? h)
  rw [bulk_agg_eq]; omega
/-- Sizes of parts, added up. -/
theorem bulk_sum {H : Type} {α : Type} (D : Nat → DataW H) (f : α → Nat) (z : α) (n : Nat) : ∀ (p : List α), p.length = n → (∀ i : Nat, i < n → f (p[i]?.getD z) ≤ Rows.uptoBulk (D i)) → (p.map f).sum ≤ Rows.uptoBulkAll ((List.range n).map D) := by
  induction n with
  | zero => intro p hp _; rw [List.eq_nil_of_length_eq_zero hp]; exact Nat.zero_le _
  | succ n ih =>
    intro p hp hf
    have hs : p = p.take n ++ [p[n]?.getD z] := by
      apply List.ext_getElem?
      intro i
      rcases Nat.lt_trichotomy i n with h | h | h
      · rw [List.getElem?_append_left (by simp; omega), List.getElem?_take_of_lt h]
      · subst h
        have e : (p.take i).length = i := by simp; omega
        rw [List.getElem?_append_right (by omega), e, Nat.sub_self, List.getElem?_eq_getElem (by omega)]
        rfl
      · rw [List.getElem?_eq_none (by omega), List.getElem?_eq_none (by simp; omega)]
    have h1 := ih (p.take n) (by simp [hp]) (fun i hi => by rw [List.getElem?_take_of_lt hi]; exact hf i (by omega))
    have h2 := hf n (by omega)
    rw [hs, List.map_append, List.sum_append, List.range_succ, List.map_append, bulk_all_app]
    simp only [List.map_cons, List.map_nil, List.sum_cons, List.sum_nil, bulk_all_cons, bulk_all_nil]
    omega

section
variable {H : Type} {enc : TypeId × Value → H} {P : Program} {w : World} {base : Nat} {spare : Nat → Bool} {held : Bool}
/-- A slice has no more elements than its bulk. -/
theorem bulk_len {t e : TypeId} {a : Option Addr} {len cap : Nat} {d : DataW H} {p : List MemPlace} (ht : P.underlying t = some (.slice e)) (h : DataW.Trod enc P w base spare held t (.slice a len cap) d p) : len + 1 ≤ Rows.uptoBulk d := by
  obtain ⟨fuel, hf⟩ := h
  rcases Go.Deep.open_slice ht hf with ⟨hcs, _⟩ | ⟨x, l, c, m, n, D, Pl, hcs, _, hl, hm, hmm, hx, hi⟩
  · simp [Value.cells] at hcs
    obtain ⟨rfl, rfl, rfl⟩ := hcs
    exact bulk_pos d
  · simp [Value.cells] at hcs
    obtain ⟨rfl, rfl, rfl⟩ := hcs
    simp only [Prod.mk.injEq] at hx
    rw [hx.1, bulk_slice_eq]
    have := bulk_all_len ((List.range len).map D)
    simp only [List.length_map, List.length_range] at this
    omega
/-- A slice is no longer than its room. -/
theorem trod_cap {t e : TypeId} {a : Option Addr} {len cap : Nat} {d : DataW H} {p : List MemPlace} (ht : P.underlying t = some (.slice e)) (h : DataW.Trod enc P w base spare held t (.slice a len cap) d p) : len ≤ cap := by
  obtain ⟨fuel, hf⟩ := h
  rcases Go.Deep.open_slice ht hf with ⟨hcs, _⟩ | ⟨x, l, c, m, n, D, Pl, hcs, _, hl, hm, hmm, hx, hi⟩
  · simp [Value.cells] at hcs
    obtain ⟨rfl, rfl, rfl⟩ := hcs
    exact Nat.le_refl _
  · simp [Value.cells] at hcs
    obtain ⟨rfl, rfl, rfl⟩ := hcs
    exact hl
end
end Go.Proofs.Ytfmcjmkdlldlhaa
