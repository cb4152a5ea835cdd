/-
  WideOptions, SpareOptions.
-/
import Derived.Test.YtgepjjpcokbpjaaDoorSpPt
import Derived.Test.YtgepjjpcokbpjaaDoorParseO
namespace Go.Proofs.YtgepjjpcokbpjaaDoor
open Go.RowKit

/-- A result that lies in cells of its own. -/
theorem ret_boxO {P : Program} {fn : Func} {p : Tmp} {ty : TypeId} (h : fn.results = #[.cell p ty]) {R : Ending → World → Prop} {a : Act} {w : World} {g : Nat} {t : TypeId} {cs : Array Value} {d : TypeDesc}
    (hp : a.tmps.getD p undef = .pointer (some ⟨g, 0, none⟩)) (hg : w.heap[g]? = some (.cells cs t (0, 0)))
    (hu : P.underlying ty = some d) (hd : (match d with | .struct _ | .array _ _ => true | _ => false) = true) (hi : (P.info? ty).map (·.size) = some cs.size) (hdef : a.defers = [])
    (hR : R (.returned (.agg cs)) w) : bodyPost P fn R .ret a w :=
  bodyPost_ret (results_cell_row h _ w g t cs (0, 0) d hp hg hu hd hi) hdef hR
/-- What WideOptions leaves. -/
structure WideOAt (w w' : World) (o : Opt) (g1 g2 : Nat) : Prop where
  p : ArrPt w' g1 (widePt o.parts)
  f : ArrT w' g2 (wideT o.files)
  l1 : w.heap.size ≤ g1
  l2 : w.heap.size ≤ g2
  ne : g1 ≠ g2
  bel : Below w.heap.size w w'
def WideOPost (w : World) (o : Opt) (np nf : Nat) (e : Ending) (w' : World) : Prop := ∃ g1 g2, e = .returned (optV o (.slice (some ⟨g1, 0, none⟩) np (np + 64)) (.slice (some ⟨g2, 0, none⟩) nf (nf + 64))) ∧ WideOAt w w' o g1 g2
def zOpt : Array Value := #[.bool false, .bool false, .bool false, .bool false, .slice none 0 0, .slice none 0 0]

set_option maxHeartbeats 1000000 in
set_option maxRecDepth 100000 in
theorem wideO_any (w : World) (hw : TabW w) (o : Opt) (ap : Option Addr) (np cp : Nat) (sp : PT w (.slice ap np cp) o.parts) (af : Option Addr) (nf cf : Nat) (sf : TS w (.slice af nf cf) o.files) :
    Calls Tryd.prog 17 #[optV o (.slice ap np cp) (.slice af nf cf)] w (WideOPost w o np nf) := by
  obtain ⟨q, e, a, i, parts, files⟩ := o
  simp only at sp sf
  have HTW := Lib.hid hw
  have HSP := Lib.hid sp
  have HSF := Lib.hid sf
  clear hw sp sf
  unfold optV
  go_enter Tryd.func17, Tryd.ntmps17
  have hb1 := (Below.refl w.heap.size w).alloc (Nat.le_refl _) (.cells #[.bool q, .bool e, .bool a, .bool i, .slice ap np cp, .slice af nf cf] TOpt)
  have hb2 := hb1.alloc hb1.size (.cells zOpt TOpt)
  have h1 := heap_alloc_new w (.cells #[.bool q, .bool e, .bool a, .bool i, .slice ap np cp, .slice af nf cf] TOpt)
  have h2 := heap_alloc_new (w.alloc (.cells #[.bool q, .bool e, .bool a, .bool i, .slice ap np cp, .slice af nf cf] TOpt)) (.cells zOpt TOpt)
  have h1' : ((w.alloc (.cells #[.bool q, .bool e, .bool a, .bool i, .slice ap np cp, .slice af nf cf] TOpt)).alloc (.cells zOpt TOpt)).heap[w.heap.size]? = some (.cells #[.bool q, .bool e, .bool a, .bool i, .slice ap np cp, .slice af nf cf] TOpt (0, 0)) := by
    rw [Lib.alloc_old _ _ _ (by rw [World.size_alloc]; omega)]; exact h1
  rw [World.size_alloc] at h2
  unfold zOpt at h2 h1' hb2
  go_upto_region 1 with fail
  generalize hww : (w.alloc (.cells #[.bool q, .bool e, .bool a, .bool i, .slice ap np cp, .slice af nf cf] TOpt)).alloc (.cells #[.bool false, .bool false, .bool false, .bool false, .slice none 0 0, .slice none 0 0] TOpt) = w2 at hb2 h2 h1' ⊢
  have HB2 := Lib.hid hb2
  have HX1 := Lib.hid h1'
  have HX2 := Lib.hid h2
  clear hww h1 h2 h1' hb1 hb2
  obtain ⟨B, hB⟩ : ∃ B, w.heap.size = B := ⟨_, rfl⟩
  have HBE := Lib.hid hB
  rw [hB] at HX1 HX2 HB2 ⊢
  have hHT : ∀ w', Below B w w' → TabW w' := fun w' hb => HTW.out.below (by rw [HBE.out]; exact hb)
  have HHT := Lib.hid hHT
  clear hHT hB
  have c4 := Lib.cell_of_heap HX1.out 4
  have c4' : w2.cell? ⟨B, 4, none⟩ = some (.slice ap np cp) := c4
  have HWP := Lib.hid (widePt_any w2 (HHT.out _ HB2.out) ap np cp parts (HSP.out.below (by rw [HBE.out]; exact HB2.out)))
  clear c4
  go_wp2_with (go_at_call 53; refine HWP.out.mono ?_)
  rintro r w3 ⟨rfl, hA, b3⟩
  have HLT : Hid (B + 1 < w2.heap.size) := Lib.hid (Array.getElem?_eq_some_iff.1 HX2.out).1
  have HB3 := Lib.hid (HB2.out.trans (b3.mono (by rw [← HBE.out]; exact HB2.out.size)))
  have HY1 := Lib.hid ((b3.block B (by have := HLT.out; omega)).trans HX1.out)
  have HY2 := Lib.hid ((b3.block (B + 1) HLT.out).trans HX2.out)
  have HGP := Lib.hid hA
  have HG1 : Hid (B + 1 < w2.heap.size ∧ w2.heap.size < w3.heap.size) := Lib.hid ⟨HLT.out, hA.lt⟩
  clear hA b3 HWP HX1 HX2 HB2 HLT c4'
  generalize w2.heap.size = g1 at HGP HG1 ⊢
  have c4 := Lib.cell_of_heap HY1.out 4
  have c4' : w3.cell? ⟨B, 4, none⟩ = some (.slice ap np cp) := c4
  have f4 := Lib.frozen_of_heap HY1.out 4
  clear c4
  go_upto_region 2 with fail
  have HZ1 : Hid ((w3.setCell ⟨B, 4, none⟩ (.slice (some ⟨g1, 0, none⟩) np (np + 64))).heap[B]? = some (.cells #[.bool q, .bool e, .bool a, .bool i, .slice (some ⟨g1, 0, none⟩) np (np + 64), .slice af nf cf] TOpt (0, 0))) := Lib.hid (heap_setCell_same w3 B 4 _ _ _ HY1.out)
  have HZ2 : Hid ((w3.setCell ⟨B, 4, none⟩ (.slice (some ⟨g1, 0, none⟩) np (np + 64))).heap[B + 1]? = _) := Lib.hid ((heap_setCell_other w3 ⟨B, 4, none⟩ (B + 1) _ (by simp)).trans HY2.out)
  have HGP2 : Hid (ArrPt (w3.setCell ⟨B, 4, none⟩ (.slice (some ⟨g1, 0, none⟩) np (np + 64))) g1 (widePt parts)) := Lib.hid ((heap_setCell_other w3 ⟨B, 4, none⟩ g1 _ (by have := HG1.out; simp; omega)).trans HGP.out)
  have HB4 := Lib.hid (HB3.out.setCell (p := ⟨B, 4, none⟩) (Nat.le_refl _) (.slice (some ⟨g1, 0, none⟩) np (np + 64)))
  have HG2 : Hid (B + 1 < g1 ∧ g1 < (w3.setCell ⟨B, 4, none⟩ (.slice (some ⟨g1, 0, none⟩) np (np + 64))).heap.size) := Lib.hid (by have := HG1.out; simpa using this)
  clear HY1 HY2 HGP HB3 HG1 c4' f4
  generalize w3.setCell ⟨B, 4, none⟩ (.slice (some ⟨g1, 0, none⟩) np (np + 64)) = w4 at HZ1 HZ2 HGP2 HB4 HG2 ⊢
  have c5 := Lib.cell_of_heap HZ1.out 5
  have c5' : w4.cell? ⟨B, 5, none⟩ = some (.slice af nf cf) := c5
  have HWT := Lib.hid (wideT_any w4 (HHT.out _ HB4.out) af nf cf files (HSF.out.below (by rw [HBE.out]; exact HB4.out)))
  clear c5
  go_wp2_with (go_at_call 8; refine HWT.out.mono ?_)
  rintro r w5 ⟨rfl, hA, b5⟩
  have HB5 := Lib.hid (HB4.out.trans (b5.mono (by rw [← HBE.out]; exact HB4.out.size)))
  have HY1 := Lib.hid ((b5.block B (by have := HG2.out; omega)).trans HZ1.out)
  have HY2 := Lib.hid ((b5.block (B + 1) (by have := HG2.out; omega)).trans HZ2.out)
  have HGP := Lib.hid (HGP2.out.below b5)
  have HGT := Lib.hid hA
  have HG3 : Hid (B + 1 < g1 ∧ g1 < w4.heap.size ∧ w4.heap.size < w5.heap.size) := Lib.hid ⟨HG2.out.1, HG2.out.2, hA.lt⟩
  clear hA b5 HWT HZ1 HZ2 HGP2 HB4 HG2 c5'
  generalize w4.heap.size = g2 at HGT HG3 ⊢
  have c5 := Lib.cell_of_heap HY1.out 5
  have c5' : w5.cell? ⟨B, 5, none⟩ = some (.slice af nf cf) := c5
  have f5 := Lib.frozen_of_heap HY1.out 5
  clear c5
  go_upto_region 3 with fail
  have HZ1 : Hid ((w5.setCell ⟨B, 5, none⟩ (.slice (some ⟨g2, 0, none⟩) nf (nf + 64))).heap[B]? = some (.cells #[.bool q, .bool e, .bool a, .bool i, .slice (some ⟨g1, 0, none⟩) np (np + 64), .slice (some ⟨g2, 0, none⟩) nf (nf + 64)] TOpt (0, 0))) := Lib.hid (heap_setCell_same w5 B 5 _ _ _ HY1.out)
  have HZ2 : Hid ((w5.setCell ⟨B, 5, none⟩ (.slice (some ⟨g2, 0, none⟩) nf (nf + 64))).heap[B + 1]? = _) := Lib.hid ((heap_setCell_other w5 ⟨B, 5, none⟩ (B + 1) _ (by simp)).trans HY2.out)
  have HGP2 : Hid (ArrPt (w5.setCell ⟨B, 5, none⟩ (.slice (some ⟨g2, 0, none⟩) nf (nf + 64))) g1 (widePt parts)) := Lib.hid ((heap_setCell_other w5 ⟨B, 5, none⟩ g1 _ (by have := HG3.out; simp; omega)).trans HGP.out)
  have HGT2 : Hid (ArrT (w5.setCell ⟨B, 5, none⟩ (.slice (some ⟨g2, 0, none⟩) nf (nf + 64))) g2 (wideT files)) := Lib.hid ((heap_setCell_other w5 ⟨B, 5, none⟩ g2 _ (by have := HG3.out; simp; omega)).trans HGT.out)
  have HB6 := Lib.hid (HB5.out.setCell (p := ⟨B, 5, none⟩) (Nat.le_refl _) (.slice (some ⟨g2, 0, none⟩) nf (nf + 64)))
  clear HY1 HY2 HGP HGT HB5 c5' f5
  generalize w5.setCell ⟨B, 5, none⟩ (.slice (some ⟨g2, 0, none⟩) nf (nf + 64)) = w6 at HZ1 HZ2 HGP2 HGT2 HB6 ⊢
  have d0 := Lib.cell_of_heap HZ1.out 0
  have d1 := Lib.cell_of_heap HZ1.out 1
  have d2 := Lib.cell_of_heap HZ1.out 2
  have d3 := Lib.cell_of_heap HZ1.out 3
  have d4 := Lib.cell_of_heap HZ1.out 4
  have d5 := Lib.cell_of_heap HZ1.out 5
  go_wp2_with (refine wpList_store_row rfl TOpt (.tmp 2) (.tmp 11) rfl rfl (B + 1) TOpt _ #[.bool q, .bool e, .bool a, .bool i, .slice (some ⟨g1, 0, none⟩) np (np + 64), .slice (some ⟨g2, 0, none⟩) nf (nf + 64)] rfl rfl HZ2.out rfl infoO (by simp [Value.oneCell']) ?_)
  refine ret_boxO rfl rfl (setRow_heap _ _ _ _ _ _ HZ2.out) Tryd.underlying28 rfl infoO rfl ⟨g1, g2, rfl, ?_⟩
  have hg := HG3.out
  exact ⟨(_root_.Go.setRow_other _ _ _ _ (by omega)).trans HGP2.out, (_root_.Go.setRow_other _ _ _ _ (by omega)).trans HGT2.out, by rw [HBE.out]; omega, by rw [HBE.out]; omega, by omega, by rw [HBE.out]; exact below_setRow HB6.out (by omega) _⟩

set_option maxHeartbeats 1000000 in
set_option maxRecDepth 100000 in
theorem spareO_any (w : World) (hw : TabW w) (o : Opt) (q e a i : Bool) (g1 g2 np nf : Nat) (hnp : o.parts.length = np) (hnf : o.files.length = nf) (h1 : np ≤ 5864062014634) (h2 : nf ≤ 8796093021952) (hp : ArrPt w g1 (widePt o.parts)) (hf : ArrT w g2 (wideT o.files)) :
    Calls Tryd.prog 20 #[.agg #[.bool q, .bool e, .bool a, .bool i, .slice (some ⟨g1, 0, none⟩) np (np + 64), .slice (some ⟨g2, 0, none⟩) nf (nf + 64)]] w fun r w' => r = .returned (.bool true) ∧ Below w.heap.size w w' := by
  have HTW := Lib.hid hw
  have HP := Lib.hid hp
  have HF := Lib.hid hf
  have HNP := Lib.hid hnp
  have HNF := Lib.hid hnf
  clear hw hp hf hnp hnf
  go_enter Tryd.func20, Tryd.ntmps20
  have HB1 := Lib.hid ((Below.refl w.heap.size w).alloc (Nat.le_refl _) (.cells #[.bool q, .bool e, .bool a, .bool i, .slice (some ⟨g1, 0, none⟩) np (np + 64), .slice (some ⟨g2, 0, none⟩) nf (nf + 64)] TOpt))
  have HX1 := Lib.hid (heap_alloc_new w (.cells #[.bool q, .bool e, .bool a, .bool i, .slice (some ⟨g1, 0, none⟩) np (np + 64), .slice (some ⟨g2, 0, none⟩) nf (nf + 64)] TOpt))
  go_upto_region 1 with fail
  generalize w.alloc (.cells #[.bool q, .bool e, .bool a, .bool i, .slice (some ⟨g1, 0, none⟩) np (np + 64), .slice (some ⟨g2, 0, none⟩) nf (nf + 64)] TOpt) = w1 at HB1 HX1 ⊢
  have c4 : w1.cell? ⟨w.heap.size, 4, none⟩ = some (.slice (some ⟨g1, 0, none⟩) np (np + 64)) := Lib.cell_of_heap HX1.out 4
  have c5 : w1.cell? ⟨w.heap.size, 5, none⟩ = some (.slice (some ⟨g2, 0, none⟩) nf (nf + 64)) := Lib.cell_of_heap HX1.out 5
  have HS1 := Lib.hid (sparePt_any w1 (HTW.out.below HB1.out) g1 np h1 (widePt o.parts) (by rw [widePt_len, HNP.out]) (fun j h1 h2 => widePt_hi o.parts j (by rw [HNP.out]; exact h1) (by rw [HNP.out]; exact h2)) (HP.out.below HB1.out))
  go_wp2_with (go_at_call 54; refine HS1.out.mono ?_)
  rintro r w2 ⟨rfl, b2⟩
  have c5' : w2.cell? ⟨w.heap.size, 5, none⟩ = some (.slice (some ⟨g2, 0, none⟩) nf (nf + 64)) := by rw [b2.cell (World.block_lt_of_cell? w1 _ c5)]; exact c5
  have HB2 := Lib.hid (HB1.out.trans (b2.mono HB1.out.size))
  have HS2 := Lib.hid (spareT_any w2 (HTW.out.below HB2.out) g2 nf h2 (wideT o.files) (by rw [wideT_len, HNF.out]) (fun j h1 h2 => wideT_hi o.files j (by rw [HNF.out]; exact h1) (by rw [HNF.out]; exact h2)) (HF.out.below HB2.out))
  clear c4 c5 b2 HS1
  go_wp2_with (go_at_call 12; refine HS2.out.mono ?_)
  rintro r w3 ⟨rfl, b3⟩
  have HB3 := Lib.hid (HB2.out.trans (b3.mono HB2.out.size))
  clear b3
  go_wp2_with fail
  go_ret
  exact ⟨rfl, HB3.out⟩
end Go.Proofs.YtgepjjpcokbpjaaDoor
