/-
  galleyref00.Bag.AddOptions.
-/
import Derived.Test.YtgepjjpcokbpjaaDoorBagPtA
import Derived.Test.YtgepjjpcokbpjaaDoorParseO
namespace Go.Proofs.YtgepjjpcokbpjaaDoor
open Go.RowKit

theorem GTP.below {W w w' : World} {bg mt mp : Nat} {fs : List Value} {bt bp : Value} {vt vp : Nat → Value} {lt lp : Nat → Nat} {Ct Cp : Nat → List Value} (h : GTP W w bg mt mp fs bt bp vt vp lt lp Ct Cp) (hb : Below w.heap.size w w') : GTP W w' bg mt mp fs bt bp vt vp lt lp Ct Cp :=
  ⟨h.bag.keepT (KeepT.of_below hb), h.flen, h.z, h.kt.below hb, h.kp.below hb, h.lo, h.bel.trans (hb.mono h.bel.size)⟩
/-- Options that were made: their lists. -/
structure OwO (w : World) (base : Nat) (o : Opt) (ap : Option Addr) (np cp : Nat) (af : Option Addr) (nf cf : Nat) : Prop where
  p : OwnPt w base (.slice ap np cp) o.parts
  f : OwnT w base (.slice af nf cf) o.files
theorem OwO.keep {w w' : World} {base : Nat} {o : Opt} {ap : Option Addr} {np cp : Nat} {af : Option Addr} {nf cf : Nat} (h : OwO w base o ap np cp af nf cf) (h1 : KeepT 9 w w') (h2 : KeepT 66 w w') : OwO w' base o ap np cp af nf cf := ⟨h2.own h.p, h1.own h.f⟩
set_option maxRecDepth 100000 in
set_option maxHeartbeats 1000000 in
theorem GTP.addO {W w : World} {bg mt mp : Nat} {fs : List Value} {bt bp : Value} {vt vp : Nat → Value} {lt lp : Nat → Nat} {Ct Cp : Nat → List Value} (h : GTP W w bg mt mp fs bt bp vt vp lt lp Ct Cp) (hmt : mt < 400) (hmp : mp < 400)
    (o : Opt) (ap : Option Addr) (np cp : Nat) (af : Option Addr) (nf cf : Nat) (hv : OwO w W.heap.size o ap np cp af nf cf) (hnp : o.parts.length ≤ 5864062014634) (hnf : o.files.length ≤ 8796093021952)
    (hap : ∀ j, j < mp → Apart (vp j) (.slice ap np cp)) (haf : ∀ j, j < mt → Apart (vt j) (.slice af nf cf)) :
    Calls Tryd.prog 15 #[.pointer (some ⟨bg, 0, none⟩), .agg (fullO o (.slice ap np cp) (.slice af nf cf))] w fun e w' => e = .returned undef ∧ KeepT 9 w w' ∧ KeepT 66 w w' ∧ KeepT 28 w w' ∧ ∃ fs' bt' bp', GTP W w' bg (mt + 1) (mp + 1) fs' bt' bp' (snoc vt mt (.slice af nf cf)) (snoc vp mp (.slice ap np cp)) (snoc lt mt o.files.length) (snoc lp mp o.parts.length) (snoc Ct mt (o.files.map Value.string)) (snoc Cp mp (ptCells o.parts)) := by
  have hb0 := (Below.refl w.heap.size w).alloc (Nat.le_refl _) (.cells (fullO o (.slice ap np cp) (.slice af nf cf)) TOpt)
  have HB0 := Lib.hid hb0
  have HG1 := Lib.hid (h.below hb0)
  have HX1 := Lib.hid (heap_alloc_new w (.cells (fullO o (.slice ap np cp) (.slice af nf cf)) TOpt))
  have HV1 := Lib.hid (hv.keep (KeepT.of_below hb0) (KeepT.of_below hb0))
  have HAP := Lib.hid hap
  have HAF := Lib.hid haf
  clear hb0 h hv hap haf
  go_enter Tryd.func15, Tryd.ntmps15
  go_upto_region 1 with fail
  generalize w.alloc (.cells #[.bool o.q, .bool o.e, .bool o.a, .bool o.i, .slice ap np cp, .slice af nf cf] 28) = w1 at HB0 HG1 HX1 HV1 ⊢
  obtain ⟨B, hB⟩ : ∃ B, w.heap.size = B := ⟨_, rfl⟩
  rw [hB] at HX1 ⊢
  have HBB := Lib.hid hB
  clear hB
  have c4 : w1.cell? ⟨B, 4, none⟩ = some (.slice ap np cp) := cell_of_row w1 B 4 _ _ (0, 0) HX1.out
  go_wp2_with fail
  refine (HG1.out.addP hmp HV1.out.p hnp HAP.out).mono ?_
  rintro e w2 ⟨rfl, k1, k2, k3, fs', bp', hG⟩
  have HX2 := Lib.hid ((k3 _ _ HX1.out).trans HX1.out)
  have HK := Lib.hid (And.intro k1 (And.intro k2 k3))
  have HG2 := Lib.hid hG
  have HV2 := Lib.hid (HV1.out.keep k1 k2)
  clear k1 k2 k3 hG c4
  have c5 : w2.cell? ⟨B, 5, none⟩ = some (.slice af nf cf) := cell_of_row w2 B 5 _ _ (0, 0) HX2.out
  go_wp2_with fail
  refine (HG2.out.addT hmt HV2.out.f hnf HAF.out).mono ?_
  rintro e w3 ⟨rfl, k1, k2, k3, fs2, bt2, hG⟩
  have HK2 := Lib.hid (And.intro k1 (And.intro k2 k3))
  have HG3 := Lib.hid hG
  clear k1 k2 k3 hG c5
  go_wp2_with fail
  go_end0
  exact ⟨rfl, ((KeepT.of_below HB0.out).trans HK.out.1).trans HK2.out.1, ((KeepT.of_below HB0.out).trans HK.out.2.1).trans HK2.out.2.1, ((KeepT.of_below HB0.out).trans HK.out.2.2).trans HK2.out.2.2, _, _, _, HG3.out⟩
end Go.Proofs.YtgepjjpcokbpjaaDoor
