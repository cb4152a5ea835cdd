/-
  Blocks of parts: WideParts, SpareParts.
-/
import Derived.Test.YtgepjjpcokbpjaaDoorTextI
namespace Go.Proofs.YtgepjjpcokbpjaaDoor
open Go.RowKit

abbrev pt0 : Prt := (false, ByteArray.empty)
theorem ptCells_set : ∀ (l : List Prt) (i : Nat) (f : Bool) (t : Str), ((ptCells l).set (i * 2) (.bool f)).set (i * 2 + 1) (.string t) = ptCells (l.set i (f, t))
  | [], i, f, t => by simp [ptCells]
  | m :: l, 0, f, t => by simp [ptCells]
  | m :: l, i + 1, f, t => by
    have := ptCells_set l i f t
    unfold ptCells at this ⊢
    rw [List.flatMap_cons, List.set_cons_succ, List.flatMap_cons, show (i + 1) * 2 = i * 2 + 1 + 1 by omega, ← this]
    rfl
def rowPt (l : List Prt) : Array Value := (ptCells l).toArray
def ArrPt (w : World) (g : Nat) (l : List Prt) : Prop := w.heap[g]? = some (.cells (rowPt l) 66 (0, 0))
section
variable {w w' : World} {g : Nat} {l : List Prt}
theorem ArrPt.lt (h : ArrPt w g l) : g < w.heap.size := (Array.getElem?_eq_some_iff.1 h).1
theorem ArrPt.cell (h : ArrPt w g l) (i : Nat) (hi : i < l.length) : w.cell? ⟨g, i * 2, none⟩ = some (.bool (l[i]?.getD pt0).1) ∧ w.cell? ⟨g, i * 2 + 1, none⟩ = some (.string (l[i]?.getD pt0).2) := by
  obtain ⟨h1, h2⟩ := ptCells_get l i hi
  exact ⟨by rw [cell_of_row w g _ _ _ (0, 0) h]; simpa [rowPt] using h1, by rw [cell_of_row w g _ _ _ (0, 0) h]; simpa [rowPt] using h2⟩
theorem ArrPt.frozen (h : ArrPt w g l) (i : Nat) : w.frozen? ⟨g, i, none⟩ = false := frozen_of_row w g i _ _ h
theorem ArrPt.set (h : ArrPt w g l) (i : Nat) (f : Bool) (t : Str) : ArrPt ((w.setCell ⟨g, i * 2, none⟩ (.bool f)).setCell ⟨g, i * 2 + 1, none⟩ (.string t)) g (l.set i (f, t)) := by
  unfold ArrPt
  rw [heap_setCell_same _ g (i * 2 + 1) _ _ _ (heap_setCell_same w g (i * 2) _ _ _ h)]
  congr 2
  apply Array.ext'
  rw [Array.toList_setIfInBounds, Array.toList_setIfInBounds]
  show ((ptCells l).set (i * 2) _).set (i * 2 + 1) _ = ptCells _
  exact ptCells_set l i f t
theorem ArrPt.below (h : ArrPt w g l) (hb : Below w.heap.size w w') : ArrPt w' g l := by
  unfold ArrPt
  rw [hb.block g h.lt]
  exact h
theorem ArrPt.new (w : World) (l : List Prt) : ArrPt (w.alloc (.cells (rowPt l) 66)) w.heap.size l := heap_alloc_new w _
/-- Its first ones, as a list that is handed in. -/
theorem ArrPt.pt {m : List Prt} (h : ArrPt w g (l ++ m)) (hl : l.length ≤ 5864062014634) (cap : Nat) (hc : l.length ≤ cap) : PT w (.slice (some ⟨g, 0, none⟩) l.length cap) l :=
  ⟨_, cap, rfl, hl, hc, (fun e => by cases e), .inr ⟨g, 0, rfl, fun i hi => by
    have := h.cell i (by rw [List.length_append]; omega)
    rw [List.getElem?_append_left hi] at this
    simpa using this⟩⟩
end
theorem extPt (l m : List Prt) (hl : l.length = m.length) (h : ∀ j : Nat, j < l.length → l[j]?.getD pt0 = m[j]?.getD pt0) : l = m := by
  apply List.ext_getElem hl
  intro i h1 h2
  have := h i h1
  simpa [h1, h2] using this
def marksPt (n : Nat) : List Prt := (List.range 64).map fun i => (false, txt 9 (n + i))
def widePt (l : List Prt) : List Prt := l ++ marksPt l.length
theorem widePt_len (l : List Prt) : (widePt l).length = l.length + 64 := by simp [widePt, marksPt]
theorem widePt_lo (l : List Prt) (j : Nat) (h : j < l.length) : (widePt l)[j]?.getD pt0 = l[j]?.getD pt0 := by
  unfold widePt; rw [List.getElem?_append_left h]
theorem widePt_hi (l : List Prt) (j : Nat) (h : l.length ≤ j) (h2 : j < l.length + 64) : (widePt l)[j]?.getD pt0 = (false, txt 9 j) := by
  unfold widePt marksPt
  rw [List.getElem?_append_right h, List.getElem?_map, List.getElem?_range (by omega)]
  simp only [Option.map_some, Option.getD_some]
  congr 2
  omega
theorem zpt_cells (c : Value → Value → Nat → Value) (a b : Value) (h0 : ∀ k, c a b (k * 2) = a) (h1 : ∀ k, c a b (k * 2 + 1) = b) : ∀ k, (List.range (k * 2)).map (c a b) = (List.replicate k (a, b)).flatMap fun p => [p.1, p.2]
  | 0 => rfl
  | k + 1 => by
    rw [show (k + 1) * 2 = k * 2 + 1 + 1 by omega, List.range_succ, List.range_succ, List.map_append, List.map_append, zpt_cells c a b h0 h1 k, List.replicate_succ', List.flatMap_append]
    simp [h0, h1]
theorem madePt (w : World) (n : Nat) (hn : n ≤ 5864062014634) : (Instr.makeSlice 26 (.int .i64 ((n : Int) + 64)) (.int .i64 ((n : Int) + 64))).run Tryd.prog w = .ok (.slice (some ⟨w.heap.size, 0, none⟩) (n + 64) (n + 64)) (w.alloc (.cells (rowPt (List.replicate (n + 64) pt0)) 66)) := by
  obtain ⟨i, hi, hz, hs, hb⟩ := info_parts infoPt
  have h := run_make (P := Tryd.prog) w 26 66 i _ Tryd.underlying26 hi hz .i64 .i64 ((n : Int) + 64) ((n : Int) + 64) (by omega) (by omega) (by rw [hb]; omega) (by omega)
  rw [h, hs]
  have e1 : ((n : Int) + 64).toNat = n + 64 := by omega
  have e : madeCells (Value.cells (.agg #[.bool false, .string ByteArray.empty])) ((n + 64) * 2) = rowPt (List.replicate (n + 64) pt0) := by
    generalize n + 64 = k
    apply Array.ext'
    have := zpt_cells (fun a b j => #[a, b][j % 2]!) (.bool false) (.string ByteArray.empty) (fun k => by simp) (fun k => by simp [Nat.add_mod]) k
    simp only [madeCells, Value.cells, Array.toList_map, Array.toList_range, rowPt, ptCells]
    rw [show (#[Value.bool false, Value.string ByteArray.empty] : Array Value).size = 2 from rfl, this]
    clear this
    induction k with
    | zero => rfl
    | succ k ih => rw [List.replicate_succ, List.replicate_succ, List.flatMap_cons, List.flatMap_cons, ih]
  rw [e1, e]

set_option maxHeartbeats 1000000 in
set_option maxRecDepth 100000 in
theorem widePt_any (w : World) (hw : TabW w) (a : Option Addr) (n c : Nat) (l : List Prt) (hb : PT w (.slice a n c) l) :
    Calls Tryd.prog 53 #[.slice a n c] w fun e w' => e = .returned (.slice (some ⟨w.heap.size, 0, none⟩) n (n + 64)) ∧ ArrPt w' w.heap.size (widePt l) ∧ Below w.heap.size w w' := by
  obtain ⟨hl, hn, hnc, hN⟩ := hb.len
  have hm := fun w => madePt w n hn
  have h1 : ArrPt (w.alloc (.cells (rowPt (List.replicate (n + 64) pt0)) 66)) w.heap.size (List.replicate (n + 64) pt0) := ArrPt.new _ _
  have hbe : Below w.heap.size w (w.alloc (.cells (rowPt (List.replicate (n + 64) pt0)) 66)) := (Below.refl _ w).alloc (Nat.le_refl _) _
  have H1 := Lib.hid (And.intro h1 (And.intro hbe (List.length_replicate (n := n + 64) (a := pt0))))
  have HB := Lib.hid hb
  have HL := Lib.hid hl
  clear h1 hbe hb hl hN
  go_enter Tryd.func53, Tryd.ntmps53
  go_wp2_with fail
  obtain ⟨g, hg⟩ : ∃ g, w.heap.size = g := ⟨_, rfl⟩
  rw [hg] at H1 ⊢
  generalize w.alloc (.cells (rowPt (List.replicate (n + 64) pt0)) 66) = w1 at H1 ⊢
  have HG := Lib.hid hg
  clear hg hm
  go_loopw [4] (fun i wr => ∃ (k : Nat) (m : List Prt), k ≤ n + 64 ∧ i = .int .i64 k ∧ m.length = n + 64 ∧ (∀ j : Nat, j < k → m[j]?.getD pt0 = (widePt l)[j]?.getD pt0) ∧
    ArrPt wr g m ∧ Below g w wr) (fun i _ => n + 64 - (intOf i).toNat)
  case atStart => exact ⟨0, _, Nat.zero_le _, rfl, H1.out.2.2, fun j hj => absurd hj (Nat.not_lt_zero _), H1.out.1, H1.out.2.1⟩
  case round =>
    obtain ⟨k, m, hk, rfl, hml, hmj, r1, rb⟩ := hrel
    have HML := Lib.hid hml
    have HMJ := Lib.hid hmj
    clear hml hmj H1
    have rb' : Below w.heap.size w wr := by rw [HG.out]; exact rb
    by_cases hlt : k < n + 64
    · have hd : decide ((k : Int) < (n : Int) + 64) = true := by simp; omega
      have hst : ∀ y : Prt, y = (widePt l)[k]?.getD pt0 → ∀ j : Nat, j < k + 1 → (m.set k y)[j]?.getD pt0 = (widePt l)[j]?.getD pt0 := by
        intro y ey j hj
        rw [List.getElem?_set]
        split
        · subst_vars
          rw [if_pos (by rw [HML.out]; exact hlt)]; rfl
        · exact HMJ.out j (by omega)
      by_cases hin : k < n
      · have hd2 : decide ((k : Int) < (n : Int)) = true := by simp; omega
        obtain ⟨b, o, rfl, hcc⟩ := HB.out.read k hin
        obtain ⟨hck, hck2⟩ := hcc k hin
        rw [← rb'.cell (World.block_lt_of_cell? w _ hck)] at hck
        rw [← rb'.cell (World.block_lt_of_cell? w _ hck2)] at hck2
        have hst2 := hst _ (widePt_lo l k (by rw [HL.out]; exact hin)).symm
        obtain ⟨hc1, hc2⟩ := r1.cell k (by rw [HML.out]; exact hlt)
        have hf1 := r1.frozen (k * 2)
        have hf2 := r1.frozen (k * 2 + 1)
        generalize l[k]?.getD pt0 = x at hck hck2 hst2
        obtain ⟨xf, xt⟩ := x
        simp only at hck hck2
        have Hst := Lib.hid hst2
        have HR := Lib.hid (And.intro r1 rb)
        clear hst hst2 hcc r1 rb rb'
        go_wp2_with fail
        go_roundw
        case rel => exact ⟨k + 1, m.set k (xf, xt), by omega, by go_num, by rw [List.length_set, HML.out], Hst.out, HR.out.1.set _ _ _, (HR.out.2.setCell (by simp) _).setCell (by simp) _⟩
        case measure => simp [intOf]; omega
      · have hd2 : decide ((k : Int) < (n : Int)) = false := by simp; omega
        have hst2 := Lib.hid (hst _ (widePt_hi l k (by rw [HL.out]; omega) (by rw [HL.out]; exact hlt)).symm)
        have HT := Lib.hid (text9 wr (hw.below rb') k (by omega))
        have HR := Lib.hid (And.intro r1 (And.intro rb rb'))
        clear hst r1 rb rb'
        go_wp2_with fail
        refine HT.out.mono ?_
        rintro e w2 ⟨rfl, b2⟩
        have r2 := HR.out.1.below b2
        have hb2 : Below g w w2 := HR.out.2.1.trans (b2.mono (by have := HR.out.2.2.size; rw [HG.out] at this; exact this))
        obtain ⟨hc1, hc2⟩ := r2.cell k (by rw [HML.out]; exact hlt)
        have hf1 := r2.frozen (k * 2)
        have hf2 := r2.frozen (k * 2 + 1)
        have HR2 := Lib.hid (And.intro r2 hb2)
        generalize txt 9 k = x at hst2 ⊢
        clear HT r2 hb2 b2
        go_wp2_with fail
        go_roundw
        case rel => exact ⟨k + 1, m.set k (false, x), by omega, by go_num, by rw [List.length_set, HML.out], hst2.out, HR2.out.1.set _ _ _, (HR2.out.2.setCell (by simp) _).setCell (by simp) _⟩
        case measure => simp [intOf]; omega
    · have hd : decide ((k : Int) < (n : Int) + 64) = false := by simp; omega
      have e : m = widePt l := extPt m (widePt l) (by rw [HML.out, widePt_len, HL.out]) fun j hj => HMJ.out j (by rw [HML.out] at hj; omega)
      subst e
      have HR := Lib.hid (And.intro r1 rb)
      clear r1 rb rb'
      go_wp2_with fail
      go_ret
      rw [HG.out]
      exact ⟨rfl, HR.out.1, HR.out.2⟩
end Go.Proofs.YtgepjjpcokbpjaaDoor
