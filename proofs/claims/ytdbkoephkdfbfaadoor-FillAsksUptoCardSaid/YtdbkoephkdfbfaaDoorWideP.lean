/-
  galleyref00: WidePiece, WidePieces, SparePieces.
-/
import Derived.Test.YtdbkoephkdfbfaaDoorArr2
import Derived.Test.YtdbkoephkdfbfaaDoorPieces
import Derived.Test.YtdbkoephkdfbfaaDoorWide
import Derived.OneCell
import Derived.BigQuiet
import Derived.Test.YtdbkoephkdfbfaaDoorStepE
import Derived.Deep.AppendLies
import Derived.Deep.DeepCutAuto
namespace Go.Proofs.YtdbkoephkdfbfaaDoor
open Go.RowKit

set_option maxRecDepth 100000 in
theorem widePiece_any (w : World) (g : Int) (a : Option Addr) (n c : Nat) (t : List Int) (s : SB w (.slice a n c) t) :
    Calls Tryd.prog 95 #[.agg #[.int .i64 g, .slice a n c]] w fun e w' => ∃ b, e = .returned (.agg #[.int .i64 g, .slice (some ⟨b, 0, none⟩) n (n + 64)]) ∧ w.heap.size ≤ b ∧ Arr w' b 5 (wide t) ∧ Below w.heap.size w w' := by
  obtain ⟨hl, hn⟩ := s.len
  have HS := Lib.hid s
  subst hl
  clear s
  go_enter Tryd.func95, Tryd.ntmps95
  have hb0 : Below w.heap.size w ((w.alloc (.cells #[.int .i64 g, .slice a t.length c] 122)).alloc (.cells #[.int .i64 0, .slice none 0 0] 122)) := ((Below.refl _ w).alloc (Nat.le_refl _) _).alloc (by simp) _
  have h0 : ((w.alloc (.cells #[.int .i64 g, .slice a t.length c] 122)).alloc (.cells #[.int .i64 0, .slice none 0 0] 122)).heap[w.heap.size]? = some (.cells #[.int .i64 g, .slice a t.length c] 122 (0, 0)) :=
    (((Below.refl (w.alloc (.cells #[.int .i64 g, .slice a t.length c] 122)).heap.size _).alloc (Nat.le_refl _) (.cells #[.int .i64 0, .slice none 0 0] 122)).block w.heap.size (by simp)).trans (heap_alloc_new w _)
  have h1 : ((w.alloc (.cells #[.int .i64 g, .slice a t.length c] 122)).alloc (.cells #[.int .i64 0, .slice none 0 0] 122)).heap[w.heap.size + 1]? = some (.cells #[.int .i64 0, .slice none 0 0] 122 (0, 0)) := by
    have := heap_alloc_new (w.alloc (.cells #[.int .i64 g, .slice a t.length c] 122)) (.cells #[.int .i64 0, .slice none 0 0] 122)
    simpa using this
  have HS2 := Lib.hid (HS.out.below hb0)
  go_upto_region 1 with fail
  generalize (w.alloc (.cells #[.int .i64 g, .slice a t.length c] 122)).alloc (.cells #[.int .i64 0, .slice none 0 0] 122) = w2 at hb0 h0 h1 HS2 ⊢
  have c0 : w2.cell? ⟨w.heap.size, 0, none⟩ = some (.int .i64 g) := by rw [cell_of_row w2 w.heap.size 0 _ _ (0, 0) h0]; rfl
  have c1 : w2.cell? ⟨w.heap.size, 1, none⟩ = some (.slice a t.length c) := by rw [cell_of_row w2 w.heap.size 1 _ _ (0, 0) h0]; rfl
  have HH := Lib.hid (And.intro hb0 h1)
  obtain ⟨bb, hbb⟩ : ∃ bb, w2.heap.size = bb := ⟨_, rfl⟩
  have HBB : Hid (w.heap.size ≤ bb ∧ w.heap.size + 1 < bb) := Lib.hid (by have := (Array.getElem?_eq_some_iff.1 h1).1; omega)
  have HC : Hid (Calls Tryd.prog 66 #[.slice a t.length c] w2.drew fun e w' => ∃ v, e = .returned v ∧ v = .slice (some ⟨bb, 0, none⟩) t.length (t.length + 64) ∧ Arr w' bb 5 (wide t) ∧ Below w2.heap.size w2 w') :=
    Lib.hid ((wideL_any w2.drew _ t (HS2.out.below (Below.refl _ _).drew) hn).mono fun e w' ⟨h1, h2, h3⟩ => ⟨_, h1, by rw [← hbb]; rfl, by rw [← hbb]; exact h2, (Below.refl _ w2).drew.trans h3⟩)
  clear hbb
  have HC0 := Lib.hid (And.intro c0 c1)
  clear hb0 h0 h1 HS2
  have hr0 : w2.heap[w.heap.size + 1]? = some (.cells #[.int .i64 0, .slice none 0 0] 122 (0, 0)) := HH.out.2
  go_region_law (first | (refine step_callsE (R := fun v w' => v = .slice (some ⟨bb, 0, none⟩) t.length (t.length + 64) ∧ Arr w' bb 5 (wide t) ∧ Below w2.heap.size w2 w') (by rfl) 66 _ _ (by rfl) _ (by rfl) (fun _ => by kernel_rfl) HC.out ?_; rintro v1 w3 ⟨rfl, hA, hb3⟩; have h3 := (hb3.block (w.heap.size + 1) (Array.getElem?_eq_some_iff.1 HH.out.2).1).trans HH.out.2; have f0 := frozen_of_row w3 (w.heap.size + 1) 0 _ _ h3; have f1 := frozen_of_row w3 (w.heap.size + 1) 1 _ _ h3; have g0 : w3.cell? ⟨w.heap.size + 1, 0, none⟩ = some (.int .i64 0) := (by rw [cell_of_row w3 (w.heap.size + 1) 0 _ _ (0, 0) h3]; rfl); have g1 : w3.cell? ⟨w.heap.size + 1, 1, none⟩ = some (.slice none 0 0) := (by rw [cell_of_row w3 (w.heap.size + 1) 1 _ _ (0, 0) h3]; rfl); have k0 : w3.cell? ⟨w.heap.size, 0, none⟩ = some (.int .i64 g) := (hb3.cell (World.block_lt_of_cell? w2 _ HC0.out.1)).trans HC0.out.1; have k1 : w3.cell? ⟨w.heap.size, 1, none⟩ = some (.slice a t.length c) := (hb3.cell (World.block_lt_of_cell? w2 _ HC0.out.2)).trans HC0.out.2))
  all_goals
    have hF : Below w.heap.size w w3 := HH.out.1.trans (hb3.mono HH.out.1.size)
    have HF := Lib.hid (And.intro hA (And.intro hF h3))
    clear hA hF h3 hb3 k0 k1
    go_wp2_with fail
    have q1 := heap_setCell_same w3 (w.heap.size + 1) 0 _ 122 (.int .i64 g) HF.out.2.2
    have q2 := heap_setCell_same _ (w.heap.size + 1) 1 _ 122 (.slice (some ⟨bb, 0, none⟩) t.length (t.length + 64)) q1
    have hA := (HF.out.1.other ⟨w.heap.size + 1, 0, none⟩ (by have := HBB.out; show bb ≠ w.heap.size + 1; omega) (.int .i64 g)).other ⟨w.heap.size + 1, 1, none⟩ (by have := HBB.out; show bb ≠ w.heap.size + 1; omega) (.slice (some ⟨bb, 0, none⟩) t.length (t.length + 64))
    have hB : Below w.heap.size w ((w3.setCell ⟨w.heap.size + 1, 0, none⟩ (.int .i64 g)).setCell ⟨w.heap.size + 1, 1, none⟩ (.slice (some ⟨bb, 0, none⟩) t.length (t.length + 64))) := (HF.out.2.1.setCell (by simp) _).setCell (by simp) _
    generalize (w3.setCell ⟨w.heap.size + 1, 0, none⟩ (.int .i64 g)).setCell ⟨w.heap.size + 1, 1, none⟩ (.slice (some ⟨bb, 0, none⟩) t.length (t.length + 64)) = w4 at q2 hA hB ⊢
    have q3 : w4.heap[w.heap.size + 1]? = some (.cells #[.int .i64 g, .slice (some ⟨bb, 0, none⟩) t.length (t.length + 64)] 122 (0, 0)) := q2
    exact bodyPost_ret (results_cell_row rfl _ w4 (w.heap.size + 1) 122 _ (0, 0) _ rfl q3 Tryd.underlying122 rfl (by kernel_rfl)) rfl ⟨bb, rfl, HBB.out.1, hA, hB⟩

def pcV (p : Pc) (b : Nat) : VV := (.int .i64 p.1, .slice (some ⟨b, 0, none⟩) p.2.length (p.2.length + 64))
def markP (j : Nat) : VV := (.int .i64 (1048576 * 9 + (j : Int) + 1), .slice none 0 0)
def wideP (p : List Pc) (gb : Nat → Nat) (j : Nat) : VV := if j < p.length then pcV (p[j]?.getD (0, [])) (gb j) else markP j
theorem wideP_congr (p : List Pc) {gb gb' : Nat → Nat} {j : Nat} (h : gb j = gb' j) : wideP p gb j = wideP p gb' j := by unfold wideP; rw [h]
/-- Pieces in a block of their own, each text with marks behind it in a block of its own. -/
structure WP (w : World) (g : Nat) (p : List Pc) (gb : Nat → Nat) (m : List VV) : Prop where
  blk : Arr2 w g 122 m
  len : m.length = p.length + 64
  at_ : ∀ j : Nat, j < p.length + 64 → m[j]?.getD vv0 = wideP p gb j
  txt : ∀ j : Nat, j < p.length → Arr w (gb j) 5 (wide (p[j]?.getD (0, [])).2)
theorem WP.keep {w w' : World} {g : Nat} {p : List Pc} {gb : Nat → Nat} {m : List VV} (h : WP w g p gb m) (hk : ∀ k, k < w.heap.size → (k = g ∨ ∃ j, j < p.length ∧ k = gb j) → w'.heap[k]? = w.heap[k]?) : WP w' g p gb m :=
  { h with blk := h.blk.keep (hk g h.blk.lt (.inl rfl)), txt := fun j hj => (hk _ (h.txt j hj).lt (.inr ⟨j, hj, rfl⟩)).trans (h.txt j hj) }
theorem WP.below {w w' : World} {g : Nat} {p : List Pc} {gb : Nat → Nat} {m : List VV} (h : WP w g p gb m) (hb : Below w.heap.size w w') : WP w' g p gb m := h.keep fun k hk _ => hb.block k hk
theorem WP.cell {w : World} {g : Nat} {p : List Pc} {gb : Nat → Nat} {m : List VV} (h : WP w g p gb m) (j : Nat) (hj : j < p.length + 64) : w.cell? ⟨g, j * 2, none⟩ = some (wideP p gb j).1 ∧ w.cell? ⟨g, j * 2 + 1, none⟩ = some (wideP p gb j).2 := by
  have := h.blk.cell j (by rw [h.len]; exact hj)
  rwa [h.at_ j hj] at this
theorem WP.ps {w w0 : World} {g : Nat} {p : List Pc} {gb : Nat → Nat} {m : List VV} (h : WP w g p gb m) {a : Option Addr} {n c : Nat} (h0 : PS w0 (.slice a n c) p) : PS w (.slice (some ⟨g, 0, none⟩) p.length (p.length + 64)) p := by
  obtain ⟨hl, hn, -, -⟩ := h0.len
  refine ⟨h0.1, _, _, rfl, by omega, by omega, (fun e => by cases e), .inr ⟨g, 0, rfl, fun i hi => ?_⟩⟩
  have hc := h.cell i (by omega)
  have e : wideP p gb i = pcV (p[i]?.getD (0, [])) (gb i) := by unfold wideP; rw [if_pos hi]
  rw [e] at hc
  obtain ⟨b, o, -, hr⟩ := h0.read i (by omega)
  obtain ⟨-, ad, k, cc, -, hs, -, -⟩ := hr i (by omega)
  obtain ⟨hsl, hsn⟩ := hs.len
  refine ⟨by rw [Nat.zero_add]; exact hc.1, _, _, _, by rw [Nat.zero_add]; exact hc.2, ?_, by omega, fun e => by cases e⟩
  exact Arr.wide_sb (h.txt i hi) hs.1 (by omega) _
theorem infoPc : (Tryd.prog.info? 122).map (fun i => (i.zero, i.size, i.bytes)) = some (some (.agg #[.int .i64 0, .slice none 0 0]), 2, 32) := by kernel_rfl

def WidePost (w : World) (p : List Pc) (e : Ending) (w' : World) : Prop := ∃ gb m, e = .returned (.slice (some ⟨w.heap.size, 0, none⟩) p.length (p.length + 64)) ∧ WP w' w.heap.size p gb m ∧ (∀ j, j < p.length → w.heap.size < gb j) ∧ Below w.heap.size w w'
set_option maxHeartbeats 1000000 in
theorem wideP_any (w : World) (v : Value) (p : List Pc) (hb : PS w v p) (hl : p.length ≤ 2147483647) :
    Calls Tryd.prog 37 #[v] w (WidePost w p) := by
  have HPS := Lib.hid hb
  obtain ⟨-, a, c, rfl, -, -, -, -⟩ := hb
  have hm := fun w => made2 w 75 122 _ _ p.length _ Tryd.underlying75 infoPc hl (by omega)
  have h1 : Arr2 (w.alloc (.cells (row2 (List.replicate (p.length + 64) (.int .i64 0, .slice none 0 0))).toArray 122)) w.heap.size 122 (List.replicate (p.length + 64) (.int .i64 0, .slice none 0 0)) := Arr2.new _ _ _
  have hbe : Below w.heap.size w (w.alloc (.cells (row2 (List.replicate (p.length + 64) (.int .i64 0, .slice none 0 0))).toArray 122)) := (Below.refl _ w).alloc (Nat.le_refl _) _
  obtain ⟨z, hz⟩ : ∃ z : List VV, List.replicate (p.length + 64) (.int .i64 0, .slice none 0 0) = z := ⟨_, rfl⟩
  have Hlen : Hid (z.length = p.length + 64) := Lib.hid (by rw [← hz]; exact List.length_replicate)
  rw [hz] at h1 hbe
  simp only [hz] at hm
  clear hz
  go_enter Tryd.func37, Tryd.ntmps37
  go_wp2_with fail
  go_loopw [4] (fun i wr => ∃ (k : Nat) (m : List VV) (gb : Nat → Nat), k ≤ p.length + 64 ∧ i = .int .i64 k ∧ m.length = p.length + 64 ∧ (∀ j : Nat, j < k → m[j]?.getD vv0 = wideP p gb j) ∧
    Arr2 wr w.heap.size 122 m ∧ (∀ j : Nat, j < k → j < p.length → Arr wr (gb j) 5 (wide (p[j]?.getD (0, [])).2) ∧ w.heap.size < gb j) ∧ Below w.heap.size w wr) (fun i _ => p.length + 64 - (intOf i).toNat)
  case atStart => exact ⟨0, _, fun _ => 0, Nat.zero_le _, rfl, Hlen.out, fun j hj => by omega, h1, fun j hj => by omega, hbe⟩
  case round =>
    obtain ⟨k, m, gb, hk, rfl, hml, hmj, r1, ht, rb⟩ := hrel
    have HML := Lib.hid hml
    have HMJ := Lib.hid hmj
    have HT := Lib.hid ht
    clear hml hmj h1 hbe hm ht
    by_cases hlt : k < p.length + 64
    · have hst : ∀ (y : VV) (gb' : Nat → Nat), (∀ j, j < k → gb' j = gb j) → y = wideP p gb' k → ∀ j : Nat, j < k + 1 → (m.set k y)[j]?.getD vv0 = wideP p gb' j := by
        intro y gb' hg ey j hj
        rw [List.getElem?_set]
        split
        · subst_vars
          rw [if_pos (by rw [HML.out]; exact hlt)]; rfl
        · rw [HMJ.out j (by omega)]; exact wideP_congr p (hg j (by omega)).symm
      by_cases hin : k < p.length
      · obtain ⟨b, o, rfl, hcc⟩ := (HPS.out.below rb).read k hin
        obtain ⟨hck, ad, n, cc, hck2, hs, -, -⟩ := hcc k hin
        have hwk : ∀ gb', wideP p gb' k = pcV (p[k]?.getD (0, [])) (gb' k) := fun gb' => by unfold wideP; rw [if_pos hin]
        have hpk : ∀ x, p[k]?.getD (0, []) = x → (∀ gb', wideP p gb' k = pcV x (gb' k)) ∧ (p[k]?.getD (0, [])).2 = x.2 := fun x e => by subst e; exact ⟨hwk, rfl⟩
        obtain ⟨x, hx⟩ : ∃ x, p[k]?.getD (0, []) = x := ⟨_, rfl⟩
        have HX := Lib.hid (hpk x hx)
        rw [hx] at hck hs
        obtain ⟨x1, x2⟩ := x
        have hck : wr.cell? ⟨b, o + k * 2, none⟩ = some (.int .i64 x1) := hck
        have hs : SB wr (.slice ad n cc) x2 := hs
        have HW := Lib.hid (widePiece_any wr x1 ad n cc x2 hs)
        have HL := Lib.hid hs.len.1
        have HST := Lib.hid hst
        have R1 := Lib.hid (And.intro r1 rb)
        clear hst hwk hpk hx hs r1 hcc
        go_wp2_with fail
        refine HW.out.mono ?_
        rintro e w2 ⟨nb, rfl, hnb, hA, hb2⟩
        have r2 := R1.out.1.below hb2
        have hne : w.heap.size < nb := Nat.lt_of_lt_of_le R1.out.1.lt hnb
        obtain ⟨hc1, hc2⟩ := r2.cell k (by rw [HML.out]; exact hlt)
        generalize m[k]?.getD vv0 = mk at hc1 hc2
        obtain ⟨m1, m2⟩ := mk
        have hf1 := r2.frozen (k * 2)
        have hf2 := r2.frozen (k * 2 + 1)
        have rb2 := R1.out.2.trans (hb2.mono R1.out.2.size)
        have HF : Hid (∃ gb', (∀ j : Nat, j < k + 1 → (m.set k (.int .i64 x1, .slice (some ⟨nb, 0, none⟩) n (n + 64)))[j]?.getD vv0 = wideP p gb' j) ∧ Arr2 ((w2.setCell ⟨w.heap.size, k * 2, none⟩ (.int .i64 x1)).setCell ⟨w.heap.size, k * 2 + 1, none⟩ (.slice (some ⟨nb, 0, none⟩) n (n + 64))) w.heap.size 122 (m.set k (.int .i64 x1, .slice (some ⟨nb, 0, none⟩) n (n + 64))) ∧
            (∀ j : Nat, j < k + 1 → j < p.length → Arr ((w2.setCell ⟨w.heap.size, k * 2, none⟩ (.int .i64 x1)).setCell ⟨w.heap.size, k * 2 + 1, none⟩ (.slice (some ⟨nb, 0, none⟩) n (n + 64))) (gb' j) 5 (wide (p[j]?.getD (0, [])).2) ∧ w.heap.size < gb' j) ∧
            Below w.heap.size w ((w2.setCell ⟨w.heap.size, k * 2, none⟩ (.int .i64 x1)).setCell ⟨w.heap.size, k * 2 + 1, none⟩ (.slice (some ⟨nb, 0, none⟩) n (n + 64)))) := Lib.hid (by
          refine ⟨fun j => if j = k then nb else gb j, HST.out _ _ (fun j hj => if_neg (by omega)) ?_, r2.set k _ _, fun j hj hjp => ?_, (rb2.setCell (by simp) _).setCell (by simp) _⟩
          · rw [HX.out.1]
            show _ = pcV (x1, x2) (if k = k then nb else gb k)
            rw [if_pos rfl]
            unfold pcV
            rw [HL.out]
          · by_cases e : j = k
            · subst e
              show Arr _ (if j = j then nb else gb j) _ _ ∧ _ < (if j = j then nb else gb j)
              rw [if_pos rfl, HX.out.2]
              exact ⟨(hA.other _ (by show nb ≠ w.heap.size; omega) _).other _ (by show nb ≠ w.heap.size; omega) _, hne⟩
            · show Arr _ (if j = k then nb else gb j) _ _ ∧ _ < (if j = k then nb else gb j)
              rw [if_neg e]
              obtain ⟨h1, h2⟩ := HT.out j (by omega) hjp
              have h1 : Arr w2 (gb j) 5 (wide (p[j]?.getD (0, [])).2) := (hb2.block _ h1.lt).trans h1
              exact ⟨(h1.other _ (by show gb j ≠ w.heap.size; omega) _).other _ (by show gb j ≠ w.heap.size; omega) _, h2⟩)
        clear hA hb2 r2 rb2 hck hck2
        go_wp2_with fail
        go_roundw
        case rel =>
          obtain ⟨gb', f1, f2, f3, f4⟩ := HF.out
          exact ⟨k + 1, _, gb', by omega, by go_num, by rw [List.length_set, HML.out], f1, f2, f3, f4⟩
        case measure => simp [intOf]; omega
      · have hwk : wideP p gb k = markP k := by unfold wideP; rw [if_neg hin]
        have hst2 := Lib.hid (hst (markP k) gb (fun _ _ => rfl) hwk.symm)
        have HN := Lib.hid (num9 wr k (by omega))
        obtain ⟨hc1, hc2⟩ := r1.cell k (by rw [HML.out]; exact hlt)
        generalize m[k]?.getD vv0 = mk at hc1 hc2
        obtain ⟨m1, m2⟩ := mk
        have hf1 := r1.frozen (k * 2)
        have hf2 := r1.frozen (k * 2 + 1)
        clear hst hwk
        go_wp2_with fail
        refine HN.out.mono ?_
        rintro e w' ⟨rfl, rfl⟩
        go_wp2_with fail
        go_roundw
        case rel =>
          refine ⟨k + 1, m.set k (markP k), gb, by omega, by go_num, by rw [List.length_set, HML.out], hst2.out, r1.set _ _ _, fun j hj hjp => ?_, (rb.setCell (by simp) _).setCell (by simp) _⟩
          obtain ⟨h1, h2⟩ := HT.out j (by omega) hjp
          exact ⟨(h1.other _ (by show gb j ≠ w.heap.size; omega) _).other _ (by show gb j ≠ w.heap.size; omega) _, h2⟩
        case measure => simp [intOf]; omega
    · have hF : WidePost w p (.returned (.slice (some ⟨w.heap.size, 0, none⟩) p.length (p.length + 64))) wr :=
        ⟨gb, m, rfl, ⟨r1, HML.out, fun j hj => HMJ.out j (by omega), fun j hj => (HT.out j (by omega) hj).1⟩, fun j hj => (HT.out j (by omega) hj).2, rb⟩
      have HF := Lib.hid hF
      clear hF r1
      go_wp2_with fail
      go_ret
      exact HF.out

set_option maxHeartbeats 1000000 in
theorem spareP_any (w : World) (g : Nat) (p : List Pc) (gb : Nat → Nat) (m : List VV) (h : WP w g p gb m) (hl : p.length ≤ 2147483647) (ht : ∀ j : Nat, j < p.length → (p[j]?.getD (0, [])).2.length ≤ 140737488351232) :
    Calls Tryd.prog 42 #[.slice (some ⟨g, 0, none⟩) p.length (p.length + 64)] w fun e w' => e = .returned (.bool true) ∧ ∃ q, w' = w.drewN q := by
  have HW := Lib.hid h
  have HT := Lib.hid ht
  clear h ht
  go_enter Tryd.func42, Tryd.ntmps42
  go_wp2_with fail
  go_loopw [4] (fun i wr => ∃ k q : Nat, p.length ≤ k ∧ k ≤ p.length + 64 ∧ i = .int .i64 k ∧ wr = w.drewN q) (fun i _ => p.length + 64 - (intOf i).toNat)
  case atStart => exact ⟨p.length, 0, Nat.le_refl _, by omega, rfl, rfl⟩
  case round =>
    obtain ⟨k, q, hk1, hk2, rfl, rfl⟩ := hrel
    by_cases hlt : k < p.length + 64
    · obtain ⟨hc, hc2⟩ := HW.out.cell k hlt
      have e : wideP p gb k = markP k := by unfold wideP; rw [if_neg (by omega)]
      rw [e] at hc hc2
      have hc : (w.drewN q).cell? ⟨g, k * 2, none⟩ = some (.int .i64 (1048576 * 9 + (k : Int) + 1)) := hc
      have hc2 : (w.drewN q).cell? ⟨g, k * 2 + 1, none⟩ = some (.slice none 0 0) := hc2
      have HDD := Lib.hid (fun m => World.drewN_drewN w q m)
      generalize w.drewN q = wq at hc hc2 HDD ⊢
      have HN := Lib.hid (fun n => num9q wq k n (by omega))
      clear e
      go_wp2_with fail
      go_quiet ((go_at_call 96; exact HN.out _))
      clear hc hc2
      go_wp2_with fail
      go_roundw
      case rel => exact ⟨k + 1, _, by omega, by omega, by go_num, HDD.out _⟩
      case measure => simp [intOf]; omega
    · go_wp2_with fail
      go_loopw [5] (fun i wr => ∃ k q : Nat, k ≤ p.length ∧ i = .int .i64 k ∧ wr = w.drewN q) (fun i _ => p.length - (intOf i).toNat)
      case atStart => exact ⟨0, q, Nat.zero_le _, rfl, rfl⟩
      case round =>
        clear hlt hk1 hk2
        obtain ⟨k, q, hk, rfl, rfl⟩ := hrel
        by_cases hlt : k < p.length
        · obtain ⟨hc, hc2⟩ := HW.out.cell k (by omega)
          have e : wideP p gb k = pcV (p[k]?.getD (0, [])) (gb k) := by unfold wideP; rw [if_pos hlt]
          rw [e] at hc hc2
          have hA := HW.out.txt k hlt
          have hn := HT.out k hlt
          clear e
          generalize p[k]?.getD (0, []) = x at hc hc2 hA hn
          obtain ⟨x1, x2⟩ := x
          have hc2 : (w.drewN q).cell? ⟨g, k * 2 + 1, none⟩ = some (.slice (some ⟨gb k, 0, none⟩) x2.length (x2.length + 64)) := hc2
          have hA : Arr (w.drewN q) (gb k) 5 (wide x2) := hA
          have HDD := Lib.hid (fun m => World.drewN_drewN w q m)
          generalize w.drewN q = wq at hc2 hA HDD ⊢
          have HS := Lib.hid (spareL_any wq (gb k) x2.length _ hn (wide x2) (wide_len x2) (fun j h1 h2 => wide_hi x2 j h1 h2) hA)
          clear hc hA
          go_wp2_with fail
          refine HS.out.mono ?_
          rintro e w' ⟨rfl, n, rfl⟩
          go_wp2_with fail
          go_roundw
          case rel => exact ⟨k + 1, _, by omega, by go_num, HDD.out _⟩
          case measure => simp [intOf]; omega
        · go_wp2_with fail
          go_ret
          exact ⟨rfl, q, rfl⟩
end Go.Proofs.YtdbkoephkdfbfaaDoor
