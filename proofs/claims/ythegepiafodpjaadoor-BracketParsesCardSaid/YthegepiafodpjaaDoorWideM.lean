/-
  Rows of marks in a block of their own; galleyref00.WideMarks, SpareMarks.
-/
import Derived.Test.YthegepiafodpjaaDoorMk
import Derived.Test.YthegepiafodpjaaDoorWide
import Derived.Test.YthegepiafodpjaaDoorOwnM
namespace Go.Proofs.YthegepiafodpjaaDoor
open Go.RowKit

/-- The cells of a row of marks: two each. -/
def rowm (l : List Mk) : Array Value := (l.flatMap fun m => [Value.int .u8 m.1, Value.bool m.2]).toArray
theorem rowm_size (l : List Mk) : (rowm l).size = 2 * l.length := by
  unfold rowm
  induction l with
  | nil => rfl
  | cons m l ih => simp at ih ⊢; omega

theorem rowm_get : ∀ (l : List Mk) (i : Nat), i < l.length →
    (l.flatMap fun m => [Value.int .u8 m.1, Value.bool m.2])[i * 2]? = some (.int .u8 (l[i]?.getD (0, false)).1) ∧ (l.flatMap fun m => [Value.int .u8 m.1, Value.bool m.2])[i * 2 + 1]? = some (.bool (l[i]?.getD (0, false)).2)
  | [], i, h => absurd h (Nat.not_lt_zero _)
  | m :: l, 0, _ => by simp
  | m :: l, i + 1, h => by
    have := rowm_get l i (by simpa using h)
    rw [List.flatMap_cons, show (i + 1) * 2 = i * 2 + 1 + 1 by omega]
    simpa using this

theorem rowm_set : ∀ (l : List Mk) (i : Nat) (x : Int) (p : Bool),
    ((l.flatMap fun m => [Value.int .u8 m.1, Value.bool m.2]).set (i * 2) (.int .u8 x)).set (i * 2 + 1) (.bool p) = (l.set i (x, p)).flatMap fun m => [Value.int .u8 m.1, Value.bool m.2]
  | [], i, x, p => by simp
  | m :: l, 0, x, p => by simp
  | m :: l, i + 1, x, p => by
    have := rowm_set l i x p
    rw [List.flatMap_cons, List.set_cons_succ, List.flatMap_cons, show (i + 1) * 2 = i * 2 + 1 + 1 by omega]
    simpa using this

/-- Block g of w is just the row l of marks. -/
def Arrm (w : World) (g : Nat) (T : TypeId) (l : List Mk) : Prop := w.heap[g]? = some (.cells (rowm l) T (0, 0))
theorem Arrm.lt {w : World} {g : Nat} {T : TypeId} {l : List Mk} (h : Arrm w g T l) : g < w.heap.size := (Array.getElem?_eq_some_iff.1 h).1
theorem Arrm.cell {w : World} {g : Nat} {T : TypeId} {l : List Mk} (h : Arrm w g T l) (i : Nat) (hi : i < l.length) :
    w.cell? ⟨g, i * 2, none⟩ = some (.int .u8 (l[i]?.getD (0, false)).1) ∧ w.cell? ⟨g, i * 2 + 1, none⟩ = some (.bool (l[i]?.getD (0, false)).2) := by
  have := rowm_get l i hi
  rw [cell_of_row w g _ _ T (0, 0) h, cell_of_row w g _ _ T (0, 0) h]
  simpa [rowm] using this
theorem Arrm.frozen {w : World} {g : Nat} {T : TypeId} {l : List Mk} (h : Arrm w g T l) (i : Nat) : w.frozen? ⟨g, i, none⟩ = false := frozen_of_row w g i _ T h
theorem Arrm.set {w : World} {g : Nat} {T : TypeId} {l : List Mk} (h : Arrm w g T l) (i : Nat) (x : Int) (p : Bool) : Arrm ((w.setCell ⟨g, i * 2, none⟩ (.int .u8 x)).setCell ⟨g, i * 2 + 1, none⟩ (.bool p)) g T (l.set i (x, p)) := by
  unfold Arrm
  have h1 := heap_setCell_same w g (i * 2) _ T (.int .u8 x) h
  rw [heap_setCell_same _ g (i * 2 + 1) _ T (.bool p) h1]
  congr 2
  apply Array.ext'
  rw [← Array.toList_setIfInBounds] at *
  simp only [rowm, List.setIfInBounds_toArray]
  exact rowm_set l i x p
theorem Arrm.below {w w' : World} {g : Nat} {T : TypeId} {l : List Mk} (h : Arrm w g T l) {B : Nat} (hb : Below B w w') (hg : g < B) : Arrm w' g T l := by
  unfold Arrm
  rw [hb.block g hg]
  exact h
theorem Arrm.new (w : World) (T : TypeId) (l : List Mk) : Arrm (w.alloc (.cells (rowm l) T)) w.heap.size T l := heap_alloc_new w _
theorem Arrm.drewN {w : World} {g : Nat} {T : TypeId} {l : List Mk} (h : Arrm w g T l) (n : Nat) : Arrm (w.drewN n) g T l := h
theorem Arrm.take_sm {w : World} {g n : Nat} {T : TypeId} {m : List Mk} (h : Arrm w g T m) (hB : IsM m) (hn : n ≤ m.length) (hl : n ≤ 70368744175616) (cap : Nat) : SM w (.slice (some ⟨g, 0, none⟩) n cap) (m.take n) := by
  have hlen : (m.take n).length = n := by simp; omega
  refine ⟨fun i => ?_, some ⟨g, 0, none⟩, cap, by rw [hlen], by omega, .inr ⟨g, 0, rfl, fun i hi => ?_⟩⟩
  · by_cases hi : i < n
    · rw [List.getElem?_take_of_lt hi]; exact hB i
    · rw [List.getElem?_eq_none (by omega)]; simp
  · rw [hlen] at hi
    rw [Nat.zero_add, List.getElem?_take_of_lt hi]
    exact h.cell i (by omega)

/-- A list of marks, and marks behind it. -/
def widem (l : List Mk) : List Mk := l ++ (List.range 64).map fun i => (markAt (l.length + i), true)
theorem widem_len (l : List Mk) : (widem l).length = l.length + 64 := by simp [widem]
theorem widem_lo (l : List Mk) (j : Nat) (h : j < l.length) : (widem l)[j]?.getD (0, false) = l[j]?.getD (0, false) := by
  unfold widem; rw [List.getElem?_append_left h]
theorem widem_hi (l : List Mk) (j : Nat) (h : l.length ≤ j) (h2 : j < l.length + 64) : (widem l)[j]?.getD (0, false) = (markAt j, true) := by
  unfold widem
  rw [List.getElem?_append_right h, List.getElem?_map, List.getElem?_range (by omega)]
  simp only [Option.map_some, Option.getD_some]
  congr 2
  omega
theorem widem_take (l : List Mk) : (widem l).take l.length = l := by unfold widem; exact List.take_left
theorem widem_isM (l : List Mk) (h : IsM l) : IsM (widem l) := by
  intro i
  by_cases hi : i < l.length
  · rw [widem_lo l i hi]; exact h i
  · by_cases h2 : i < l.length + 64
    · rw [widem_hi l i (by omega) h2]; exact markAt_b i
    · rw [List.getElem?_eq_none (by rw [widem_len]; omega)]; simp

def zm (n : Nat) : List Mk := List.replicate n (0, false)
theorem zm_len (n : Nat) : (zm n).length = n := List.length_replicate
theorem zm_cells (c : Value → Value → Nat → Value) (a b : Value) (h0 : ∀ k, c a b (k * 2) = a) (h1 : ∀ k, c a b (k * 2 + 1) = b) : ∀ k, (List.range (k * 2)).map (c a b) = (List.replicate k (a, b)).flatMap fun p => [p.1, p.2]
  | 0 => rfl
  | k + 1 => by
    rw [show (k + 1) * 2 = k * 2 + 1 + 1 by omega, List.range_succ, List.range_succ, List.map_append, List.map_append, zm_cells c a b h0 h1 k, List.replicate_succ', List.flatMap_append]
    simp [h0, h1]
theorem madeM (w : World) (n : Nat) (hn : n ≤ 2147483647) : (Instr.makeSlice 22 (.int .i64 ((n : Int) + 64)) (.int .i64 ((n : Int) + 64))).run Tryd.prog w = .ok (.slice (some ⟨w.heap.size, 0, none⟩) (n + 64) (n + 64)) (w.alloc (.cells (rowm (zm (n + 64))) 35)) := by
  obtain ⟨i, hi, hz, hs, hb⟩ := info_parts infoM
  have h := run_make (P := Tryd.prog) w 22 35 i _ Tryd.underlying22 hi hz .i64 .i64 ((n : Int) + 64) ((n : Int) + 64) (by omega) (by omega) (by rw [hb]; omega) (by omega)
  rw [h, hs]
  have e1 : ((n : Int) + 64).toNat = n + 64 := by omega
  have e : madeCells (Value.cells (.agg #[.int .u8 0, .bool false])) ((n + 64) * 2) = rowm (zm (n + 64)) := by
    generalize n + 64 = k
    apply Array.ext'
    have := zm_cells (fun a b j => #[a, b][j % 2]!) (.int .u8 0) (.bool false) (fun k => by simp) (fun k => by simp [Nat.add_mod]) k
    simp only [madeCells, Value.cells, Array.toList_map, Array.toList_range, rowm, zm]
    rw [show (#[Value.int .u8 0, Value.bool false] : Array Value).size = 2 from rfl, this]
    clear this
    induction k with
    | zero => rfl
    | succ k ih => rw [List.replicate_succ, List.replicate_succ, List.flatMap_cons, List.flatMap_cons, ih]
  rw [e1, e]

set_option maxHeartbeats 400000 in
theorem widem_any (w : World) (v : Value) (l : List Mk) (hb : SM w v l) (hl : l.length ≤ 2147483647) :
    Calls Tryd.prog 10 #[v] w fun e w' => e = .returned (.slice (some ⟨w.heap.size, 0, none⟩) l.length (l.length + 64)) ∧ Arrm w' w.heap.size 35 (widem l) ∧ Below w.heap.size w w' := by
  obtain ⟨hB, a, c, rfl, _, hc⟩ := hb
  have hm := fun w => madeM w l.length hl
  have Hlen := Lib.hid (zm_len (l.length + 64))
  have h1 : Arrm (w.alloc (.cells (rowm (zm (l.length + 64))) 35)) w.heap.size 35 (zm (l.length + 64)) := Arrm.new _ _ _
  have hbe : Below w.heap.size w (w.alloc (.cells (rowm (zm (l.length + 64))) 35)) := (Below.refl _ w).alloc (Nat.le_refl _) _
  have HC := Lib.hid hc
  clear hc hB
  go_enter Tryd.func10, Tryd.ntmps10
  go_wp2
  go_loopw [4] (fun i wr => ∃ (k : Nat) (m : List Mk), k ≤ l.length + 64 ∧ i = .int .i64 k ∧ m.length = l.length + 64 ∧ (∀ j : Nat, j < k → m[j]?.getD (0, false) = (widem l)[j]?.getD (0, false)) ∧
    Arrm wr w.heap.size 35 m ∧ Below w.heap.size w wr) (fun i _ => l.length + 64 - (intOf i).toNat)
  case atStart => exact ⟨0, _, Nat.zero_le _, rfl, Hlen.out, fun j hj => by omega, h1, hbe⟩
  case round =>
    obtain ⟨k, m, hk, rfl, hml, hmj, r1, rb⟩ := hrel
    have HML := Lib.hid hml
    have HMJ := Lib.hid hmj
    clear hml hmj h1 hbe hm
    by_cases hlt : k < l.length + 64
    · obtain ⟨hc1, hc2⟩ := r1.cell k (by rw [HML.out]; exact hlt)
      have hf1 := r1.frozen (k * 2)
      have hf2 := r1.frozen (k * 2 + 1)
      have hst : ∀ y : Mk, y = (widem l)[k]?.getD (0, false) → ∀ j : Nat, j < k + 1 → (m.set k y)[j]?.getD (0, false) = (widem l)[j]?.getD (0, false) := by
        intro y ey j hj
        rw [List.getElem?_set]
        split
        · subst_vars
          rw [if_pos (by rw [HML.out]; exact hlt)]; rfl
        · exact HMJ.out j (by omega)
      by_cases hin : k < l.length
      · obtain ⟨b, o, rfl, hcc⟩ := HC.out.resolve_left (by intro e; rw [e] at hin; exact absurd hin (Nat.not_lt_zero _))
        obtain ⟨hck, hck2⟩ := hcc k hin
        have hbl := World.block_lt_of_cell? w _ hck
        rw [← rb.cell hbl] at hck
        rw [← rb.cell (p := ⟨b, o + k * 2 + 1, none⟩) hbl] at hck2
        have hst2 := hst _ (widem_lo l k hin).symm
        generalize l[k]?.getD (0, false) = x at hck hck2 hst2
        obtain ⟨x1, x2⟩ := x
        dsimp only at hck hck2
        have Hst := Lib.hid hst2
        clear hst hst2 hcc
        go_wp2
        go_roundw
        case rel => exact ⟨k + 1, m.set k (x1, x2), by omega, by go_num, by rw [List.length_set, HML.out], Hst.out, r1.set _ _ _, (rb.setCell (by simp) _).setCell (by simp) _⟩
        case measure => simp [intOf]; omega
      · have hst2 := Lib.hid (hst _ (widem_hi l k (by omega) hlt).symm)
        have hw := markAt_wrap k
        clear hst
        go_wp2
        go_roundw
        case rel => exact ⟨k + 1, m.set k (markAt k, true), by omega, by go_num, by rw [List.length_set, HML.out], hst2.out, r1.set _ _ _, (rb.setCell (by simp) _).setCell (by simp) _⟩
        case measure => simp [intOf]; omega
    · have e : m = widem l := extm_of m (widem l) (by rw [HML.out, widem_len]) fun j hj => HMJ.out j (by rw [HML.out] at hj; omega)
      subst e
      go_wp2
      go_ret
      exact ⟨rfl, r1, rb⟩

set_option maxHeartbeats 400000 in
theorem sparem_any (w : World) (g n : Nat) (T : TypeId) (hn : n ≤ 2147483647) (m : List Mk) (hm : m.length = n + 64) (hmj : ∀ j : Nat, n ≤ j → j < n + 64 → m[j]?.getD (0, false) = (markAt j, true)) (h : Arrm w g T m) :
    Calls Tryd.prog 14 #[.slice (some ⟨g, 0, none⟩) n (n + 64)] w fun e w' => e = .returned (.bool true) ∧ ∃ q, w' = w.drewN q := by
  have HM := Lib.hid hm
  have HMJ := Lib.hid hmj
  clear hm hmj
  go_enter Tryd.func14, Tryd.ntmps14
  go_wp2
  go_loop [4] (fun i => ∃ k : Nat, n ≤ k ∧ k ≤ n + 64 ∧ i = .int .i64 k) (fun i => n + 64 - (intOf i).toNat)
  case atStart => exact ⟨n, Nat.le_refl _, by omega, rfl⟩
  case round =>
    obtain ⟨k, hk1, hk2, rfl⟩ := hrel
    by_cases hlt : k < n + 64
    · obtain ⟨hc, hc2⟩ := h.cell k (by rw [HM.out]; exact hlt)
      rw [HMJ.out k hk1 hlt] at hc hc2
      dsimp only at hc hc2
      have hw := markAt_wrap k
      go_wp2
      go_round
      case rel => exact ⟨k + 1, by omega, by omega, by go_num⟩
      case measure => simp [intOf]; omega
    · go_wp2
      go_ret
      exact ⟨rfl, 0, rfl⟩
end Go.Proofs.YthegepiafodpjaaDoor
