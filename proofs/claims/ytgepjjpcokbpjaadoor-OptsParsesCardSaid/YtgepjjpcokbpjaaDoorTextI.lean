/-
  galleyref00: marks that are texts; lists of texts with marks behind them.
-/
import Derived.Test.YtgepjjpcokbpjaaDoorPrintO
import Derived.Test.YtgepjjpcokbpjaaDoorArr2
import Derived.Test.YtgepjjpcokbpjaaDoorShelfT
import Derived.Lib.AppendIntMem
import Derived.Lib.ItoaLen
import Derived.Deep.QuietTactic
import Derived.Deep.RegionHeld3
import Derived.Deep.DeepCutAuto
namespace Go.Proofs.YtgepjjpcokbpjaaDoor
open Go.RowKit

/-- The library's table of powers is as its text says. -/
def TabW (w : World) : Prop := Lib.TabIs Tryd.prog w "internal/strconv.uint64pow10" .u64 Lib.pow10Tab
theorem TabW.below {w w' : World} (h : TabW w) (hb : Below w.heap.size w w') : TabW w' := by
  unfold TabW Lib.TabIs World.var? at h ⊢
  cases hg : Tryd.prog.globalNamed "internal/strconv.uint64pow10" with
  | none => rw [hg] at h; cases h
  | some g =>
    rw [hg] at h
    simp only [Option.bind_some] at h ⊢
    have hlt : g < w.heap.size := by
      rcases Nat.lt_or_ge g w.heap.size with h' | h'
      · exact h'
      · rw [Array.getElem?_eq_none h'] at h; cases h
    rw [hb.block g hlt]
    exact h
/-- The mark of place i of list n. -/
def txt (n i : Nat) : ByteArray := ByteArray.mk #[33] ++ ⟨(Lib.itoa (1048576 * (n : Int) + (i : Int) + 1)).toArray⟩
theorem text_any (w : World) (hw : TabW w) (n i : Nat) (hn : n ≤ 4294967296) (hi : i ≤ 1125899906842624) : Calls Tryd.prog 26 #[.int .i64 n, .int .i64 i] w fun e w' => e = .returned (.string (txt n i)) ∧ Below w.heap.size w w' := by
  have HN := Lib.hid (num_any w n i hn hi)
  have HI := Lib.hid (Tryd.strconv_Itoa (1048576 * (n : Int) + (i : Int) + 1) (by omega) (by omega) w hw)
  obtain ⟨tx, htx⟩ : ∃ tx : ByteArray, ⟨(Lib.itoa (1048576 * (n : Int) + (i : Int) + 1)).toArray⟩ = tx := ⟨_, rfl⟩
  have htl : tx.size ≤ 21 := by rw [← htx]; exact Lib.itoa_length_le (1048576 * (n : Int) + (i : Int) + 1) (by omega) (by omega)
  have HTX : Hid (txt n i = ByteArray.mk #[33] ++ tx) := Lib.hid (by unfold txt; rw [htx])
  rw [htx] at HI
  clear htx
  go_enter Tryd.func26, Tryd.ntmps26
  go_wp2_with fail
  refine HN.out.mono ?_
  rintro e w1 ⟨rfl, rfl⟩
  go_wp2_with fail
  refine HI.out.mono ?_
  rintro e w1 ⟨rfl, k, os, rfl⟩
  have HB := Lib.hid (Lib.below_grow w.heap.size w (Nat.le_refl _) k os)
  generalize Sort.grow (w.drewN k) os = w2 at HB ⊢
  clear HN HI
  go_wp2_with fail
  go_ret
  exact ⟨by rw [HTX.out]; rfl, HB.out⟩
theorem text9 (w : World) (hw : TabW w) (i : Nat) (hi : i ≤ 1125899906842624) : Calls Tryd.prog 26 #[.int .i64 9, .int .i64 i] w fun e w' => e = .returned (.string (txt 9 i)) ∧ Below w.heap.size w w' := text_any w hw 9 i (by omega) hi

/-! ### Blocks of texts -/
def rowT (l : List Str) : Array Value := (l.map Value.string).toArray
theorem rowT_get (l : List Str) (i : Nat) (h : i < l.length) : (rowT l)[i]? = some (.string (l[i]?.getD ByteArray.empty)) := by simp [rowT, h]
theorem rowT_set (l : List Str) (i : Nat) (x : Str) : (rowT l).setIfInBounds i (.string x) = rowT (l.set i x) := by
  apply Array.ext'
  simp [rowT, List.map_set]
def ArrT (w : World) (g : Nat) (l : List Str) : Prop := w.heap[g]? = some (.cells (rowT l) 9 (0, 0))
section
variable {w w' : World} {g : Nat} {l : List Str}
theorem ArrT.lt (h : ArrT w g l) : g < w.heap.size := (Array.getElem?_eq_some_iff.1 h).1
theorem ArrT.cell (h : ArrT w g l) (i : Nat) (hi : i < l.length) : w.cell? ⟨g, i, none⟩ = some (.string (l[i]?.getD ByteArray.empty)) := by
  rw [cell_of_row w g i _ _ (0, 0) h, rowT_get l i hi]
theorem ArrT.frozen (h : ArrT w g l) (i : Nat) : w.frozen? ⟨g, i, none⟩ = false := frozen_of_row w g i _ _ h
theorem ArrT.set (h : ArrT w g l) (i : Nat) (x : Str) : ArrT (w.setCell ⟨g, i, none⟩ (.string x)) g (l.set i x) := by
  unfold ArrT
  rw [heap_setCell_same w g i _ _ _ h, rowT_set]
theorem ArrT.below (h : ArrT w g l) (hb : Below w.heap.size w w') : ArrT w' g l := by
  unfold ArrT
  rw [hb.block g h.lt]
  exact h
theorem ArrT.new (w : World) (l : List Str) : ArrT (w.alloc (.cells (rowT l) 9)) w.heap.size l := heap_alloc_new w _
/-- Its first ones, as a list that is handed in. -/
theorem ArrT.ts {m : List Str} (h : ArrT w g (l ++ m)) (hl : l.length ≤ 8796093021952) (cap : Nat) (hc : l.length ≤ cap) : TS w (.slice (some ⟨g, 0, none⟩) l.length cap) l :=
  ⟨_, cap, rfl, hl, hc, (fun e => by cases e), .inr ⟨g, 0, rfl, fun i hi => by
    rw [Nat.zero_add, h.cell i (by rw [List.length_append]; omega), List.getElem?_append_left hi]⟩⟩
end
theorem extT (l m : List Str) (hl : l.length = m.length) (h : ∀ j : Nat, j < l.length → l[j]?.getD ByteArray.empty = m[j]?.getD ByteArray.empty) : l = m := by
  apply List.ext_getElem hl
  intro i h1 h2
  have := h i h1
  simpa [h1, h2] using this
def marksT (n : Nat) : List Str := (List.range 64).map fun i => txt 9 (n + i)
def wideT (l : List Str) : List Str := l ++ marksT l.length
theorem wideT_len (l : List Str) : (wideT l).length = l.length + 64 := by simp [wideT, marksT]
theorem wideT_lo (l : List Str) (j : Nat) (h : j < l.length) : (wideT l)[j]?.getD ByteArray.empty = l[j]?.getD ByteArray.empty := by
  unfold wideT; rw [List.getElem?_append_left h]
theorem wideT_hi (l : List Str) (j : Nat) (h : l.length ≤ j) (h2 : j < l.length + 64) : (wideT l)[j]?.getD ByteArray.empty = txt 9 j := by
  unfold wideT marksT
  rw [List.getElem?_append_right h, List.getElem?_map, List.getElem?_range (by omega)]
  simp only [Option.map_some, Option.getD_some]
  congr 1
  omega
theorem madeT (w : World) (n : Nat) (hn : n ≤ 8796093021952) : (Instr.makeSlice 22 (.int .i64 ((n : Int) + 64)) (.int .i64 ((n : Int) + 64))).run Tryd.prog w = .ok (.slice (some ⟨w.heap.size, 0, none⟩) (n + 64) (n + 64)) (w.alloc (.cells (rowT (List.replicate (n + 64) ByteArray.empty)) 9)) := by
  obtain ⟨i, hi, hz, hs, hb⟩ := info_parts infoT
  have h := run_make (P := Tryd.prog) w 22 9 i (.string ByteArray.empty) Tryd.underlying22 hi hz .i64 .i64 ((n + 64 : Nat) : Int) ((n + 64 : Nat) : Int) (by omega) (by omega) (by rw [hb]; omega) (by omega)
  rw [show ((n + 64 : Nat) : Int) = (n : Int) + 64 by omega] at h
  rw [h, hs]
  have e : madeCells (Value.cells (.string ByteArray.empty)) (((n : Int) + 64).toNat * 1) = rowT (List.replicate (n + 64) ByteArray.empty) := by
    apply Array.ext'
    simp [madeCells, rowT, Value.cells, Nat.mod_one]
    exact List.eq_replicate_iff.2 ⟨by simp; omega, fun b hb => by simp at hb; obtain ⟨_, _, rfl⟩ := hb; rfl⟩
  rw [e, show ((n : Int) + 64).toNat = n + 64 by omega]

set_option maxHeartbeats 1000000 in
set_option maxRecDepth 100000 in
theorem wideT_any (w : World) (hw : TabW w) (a : Option Addr) (n c : Nat) (l : List Str) (hb : TS w (.slice a n c) l) :
    Calls Tryd.prog 8 #[.slice a n c] w fun e w' => e = .returned (.slice (some ⟨w.heap.size, 0, none⟩) n (n + 64)) ∧ ArrT w' w.heap.size (wideT l) ∧ Below w.heap.size w w' := by
  obtain ⟨hl, hn, hnc, hN⟩ := hb.len
  have hm := fun w => madeT w n hn
  have h1 : ArrT (w.alloc (.cells (rowT (List.replicate (n + 64) ByteArray.empty)) 9)) w.heap.size (List.replicate (n + 64) ByteArray.empty) := ArrT.new _ _
  have hbe : Below w.heap.size w (w.alloc (.cells (rowT (List.replicate (n + 64) ByteArray.empty)) 9)) := (Below.refl _ w).alloc (Nat.le_refl _) _
  have H1 := Lib.hid (And.intro h1 (And.intro hbe (List.length_replicate (n := n + 64) (a := ByteArray.empty))))
  have HB := Lib.hid hb
  have HL := Lib.hid hl
  clear h1 hbe hb hl hN
  go_enter Tryd.func8, Tryd.ntmps8
  go_wp2_with fail
  obtain ⟨g, hg⟩ : ∃ g, w.heap.size = g := ⟨_, rfl⟩
  rw [hg] at H1 ⊢
  generalize w.alloc (.cells (rowT (List.replicate (n + 64) ByteArray.empty)) 9) = w1 at H1 ⊢
  have HG := Lib.hid hg
  clear hg hm
  go_loopw [4] (fun i wr => ∃ (k : Nat) (m : List Str), k ≤ n + 64 ∧ i = .int .i64 k ∧ m.length = n + 64 ∧ (∀ j : Nat, j < k → m[j]?.getD ByteArray.empty = (wideT l)[j]?.getD ByteArray.empty) ∧
    ArrT wr g m ∧ Below g w wr) (fun i _ => n + 64 - (intOf i).toNat)
  case atStart => exact ⟨0, _, Nat.zero_le _, rfl, H1.out.2.2, fun j hj => absurd hj (Nat.not_lt_zero _), H1.out.1, H1.out.2.1⟩
  case round =>
    obtain ⟨k, m, hk, rfl, hml, hmj, r1, rb⟩ := hrel
    have HML := Lib.hid hml
    have HMJ := Lib.hid hmj
    clear hml hmj H1
    have rb' : Below w.heap.size w wr := by rw [HG.out]; exact rb
    by_cases hlt : k < n + 64
    · have hd : decide ((k : Int) < (n : Int) + 64) = true := by simp; omega
      have hst : ∀ y : Str, y = (wideT l)[k]?.getD ByteArray.empty → ∀ j : Nat, j < k + 1 → (m.set k y)[j]?.getD ByteArray.empty = (wideT l)[j]?.getD ByteArray.empty := by
        intro y ey j hj
        rw [List.getElem?_set]
        split
        · subst_vars
          rw [if_pos (by rw [HML.out]; exact hlt)]; rfl
        · exact HMJ.out j (by omega)
      by_cases hin : k < n
      · have hd2 : decide ((k : Int) < (n : Int)) = true := by simp; omega
        obtain ⟨b, o, rfl, hcc⟩ := HB.out.read k hin
        have hck := hcc k hin
        rw [← rb'.cell (World.block_lt_of_cell? w _ hck)] at hck
        have hst2 := hst _ (wideT_lo l k (by rw [HL.out]; exact hin)).symm
        have hc1 := r1.cell k (by rw [HML.out]; exact hlt)
        have hf1 := r1.frozen k
        generalize l[k]?.getD ByteArray.empty = x at hck hst2
        have Hst := Lib.hid hst2
        have HR := Lib.hid (And.intro r1 rb)
        clear hst hst2 hcc r1 rb rb'
        go_wp2_with fail
        go_roundw
        case rel => exact ⟨k + 1, m.set k x, by omega, by go_num, by rw [List.length_set, HML.out], Hst.out, HR.out.1.set _ _, HR.out.2.setCell (by simp) _⟩
        case measure => simp [intOf]; omega
      · have hd2 : decide ((k : Int) < (n : Int)) = false := by simp; omega
        have hst2 := Lib.hid (hst _ (wideT_hi l k (by rw [HL.out]; omega) (by rw [HL.out]; exact hlt)).symm)
        have HT := Lib.hid (text9 wr (hw.below rb') k (by omega))
        have HR := Lib.hid (And.intro r1 (And.intro rb rb'))
        clear hst r1 rb rb'
        go_wp2_with fail
        refine HT.out.mono ?_
        rintro e w2 ⟨rfl, b2⟩
        have r2 := HR.out.1.below b2
        have hb2 : Below g w w2 := HR.out.2.1.trans (b2.mono (by have := HR.out.2.2.size; rw [HG.out] at this; exact this))
        have hc1 := r2.cell k (by rw [HML.out]; exact hlt)
        have hf1 := r2.frozen k
        have HR2 := Lib.hid (And.intro r2 hb2)
        generalize txt 9 k = x at hst2 ⊢
        clear HT r2 hb2 b2
        go_wp2_with fail
        go_roundw
        case rel => exact ⟨k + 1, m.set k x, by omega, by go_num, by rw [List.length_set, HML.out], hst2.out, HR2.out.1.set _ _, HR2.out.2.setCell (by simp) _⟩
        case measure => simp [intOf]; omega
    · have hd : decide ((k : Int) < (n : Int) + 64) = false := by simp; omega
      have e : m = wideT l := extT m (wideT l) (by rw [HML.out, wideT_len, HL.out]) fun j hj => HMJ.out j (by rw [HML.out] at hj; omega)
      subst e
      have HR := Lib.hid (And.intro r1 rb)
      clear r1 rb rb'
      go_wp2_with fail
      go_ret
      rw [HG.out]
      exact ⟨rfl, HR.out.1, HR.out.2⟩

set_option maxHeartbeats 1000000 in
set_option maxRecDepth 100000 in
theorem spareT_any (w : World) (hw : TabW w) (g n : Nat) (hn : n ≤ 8796093021952) (m : List Str) (hm : m.length = n + 64) (hmj : ∀ j : Nat, n ≤ j → j < n + 64 → m[j]?.getD ByteArray.empty = txt 9 j) (h : ArrT w g m) :
    Calls Tryd.prog 12 #[.slice (some ⟨g, 0, none⟩) n (n + 64)] w fun e w' => e = .returned (.bool true) ∧ Below w.heap.size w w' := by
  have HM := Lib.hid hm
  have HMJ := Lib.hid hmj
  have H := Lib.hid h
  clear hm hmj h
  go_enter Tryd.func12, Tryd.ntmps12
  go_wp2_with fail
  go_loopw [4] (fun i wr => ∃ k : Nat, n ≤ k ∧ k ≤ n + 64 ∧ i = .int .i64 k ∧ Below w.heap.size w wr) (fun i _ => n + 64 - (intOf i).toNat)
  case atStart => exact ⟨n, Nat.le_refl _, by omega, rfl, Below.refl _ _⟩
  case round =>
    obtain ⟨k, hk1, hk2, rfl, rb⟩ := hrel
    have HRB := Lib.hid rb
    clear rb
    by_cases hlt : k < n + 64
    · have hd : decide ((k : Int) < (n : Int) + 64) = true := by simp; omega
      have i0 : (0 : Int) ≤ (k : Int) := by omega
      have i1 : (k : Int) < (n : Int) + 64 := by omega
      have hcc : ∀ w' : World, Below w.heap.size w w' → w'.cell? ⟨g, k, none⟩ = some (.string (txt 9 k)) := fun w' hb => by
        have := H.out.cell k (by rw [HM.out]; exact hlt)
        rw [HMJ.out k hk1 hlt] at this
        rw [hb.cell (World.block_lt_of_cell? w _ this)]
        exact this
      have heq : (ByteArray.toList (txt 9 k) == ByteArray.toList (txt 9 k)) = true := by simp
      have hT : ∀ w', Below w.heap.size w w' → Calls Tryd.prog 26 #[.int .i64 9, .int .i64 k] w' fun e w2 => e = .returned (.string (txt 9 k)) ∧ Below w'.heap.size w' w2 := fun w' hb => text9 w' (hw.below hb) k (by omega)
      have HT := Lib.hid hT
      have HCC := Lib.hid hcc
      have HD := Lib.hid (fun n => below_drewN HRB.out n)
      clear hT hcc
      go_upto_region 5 with fail
      go_cut [25] (fun v wx => v = .bool false ∧ Below w.heap.size w wx)
      case first =>
        have hI := HRB.out
        have hId : Below w.heap.size w wr.drew := HD.out 1
        have hS : ∀ w', Below w.heap.size w w' → w'.cell? ⟨g, k, none⟩ = some (.string (txt 9 k)) := HCC.out
        generalize txt 9 k = x at HT hS heq
        go_region_held3 (fun w' => Below w.heap.size w w')
          (first | exact hI | exact hId)
          (first | (go_at_call 26; (with_reducible refine (HT.out _ (by first | exact hI | exact hId)).mono ?_); rintro e w5 ⟨rfl, hb5⟩; have hI := (by first | exact hI.trans (hb5.mono hI.size) | exact hId.trans (hb5.mono hId.size))))
        all_goals
          have HF := Lib.hid hI
          clear hI hS
          go_wp2_with fail
          go_meet
          case rel => exact ⟨rfl, HF.out⟩
      case rest =>
        obtain ⟨rfl, hb⟩ := hcut
        have HF := Lib.hid hb
        clear hb
        go_wp2_with fail
        go_roundw
        case rel => exact ⟨k + 1, by omega, by omega, by go_num, HF.out⟩
        case measure => simp [intOf]; omega
    · have hd : decide ((k : Int) < (n : Int) + 64) = false := by simp; omega
      go_wp2_with fail
      go_ret
      exact ⟨rfl, HRB.out⟩

/-- A twin of a list of texts. -/
theorem copyT_any (w : World) (a : Option Addr) (n c : Nat) (l : List Str) (hb : TS w (.slice a n c) l) :
    Calls Tryd.prog 14 #[.slice a n c] w fun e w' => ∃ v, e = .returned v ∧ OwnT w' w.heap.size v l ∧ Below w.heap.size w w' := by
  have HB := Lib.hid hb
  have hn := hb.len.2.1
  clear hb
  go_enter Tryd.func14, Tryd.ntmps14
  go_wp2_with (at_builtin; refine append_ts rfl (.tmp 4) (.tmp 5) rfl w.heap.size _ [] l _ n c rfl (OwnT.nil _ _) rfl HB.out (by simp; omega) (Nat.le_refl _) ?_)
  intro v' w1 ho hp
  have HO := Lib.hid (And.intro ho (hp.bel _ _ (Below.refl _ _) (Nat.le_refl _)))
  clear ho hp
  go_wp2_with fail
  go_ret
  exact ⟨_, rfl, HO.out.1, HO.out.2⟩
end Go.Proofs.YtgepjjpcokbpjaaDoor
