/-
  FillExpands: Expand and Long of every pieces, text and spans.
-/
import Derived.Test.YtakimaceohfpcaaDoorPartsF
import Derived.Test.YtakimaceohfpcaaDoorRefExp
import Derived.Test.YtakimaceohfpcaaDoorWideN
import Derived.Test.YtakimaceohfpcaaDoorWideP
import Derived.Test.YtakimaceohfpcaaDoorEqP
import Derived.Test.YtakimaceohfpcaaDoorBagP
namespace Go.Proofs.YtakimaceohfpcaaDoor
open Go.RowKit

theorem Arr2.ns {w w0 : World} {g : Nat} {l : List Sp} (h : Arr2 w g 135 (widen l)) {a : Option Addr} {n c : Nat} (h0 : NS w0 (.slice a n c) l) : NS w (.slice (some ⟨g, 0, none⟩) l.length (l.length + 64)) l := by
  obtain ⟨hl, hn, -⟩ := h0.len
  refine ⟨h0.1, _, _, rfl, by omega, by omega, .inr ⟨g, 0, rfl, fun i hi => ?_⟩⟩
  have hc := h.cell i (by rw [widen_len]; omega)
  rw [widen_lo l i hi] at hc
  rw [Nat.zero_add]
  exact hc
theorem PS.txt_len {w : World} {a : Option Addr} {n c : Nat} {p : List Pc} (h : PS w (.slice a n c) p) (j : Nat) (hj : j < p.length) : (p[j]?.getD (0, [])).2.length ≤ 140737488351232 := by
  obtain ⟨hl, -, -, -⟩ := h.len
  obtain ⟨b, o, -, hr⟩ := h.read j (by omega)
  obtain ⟨-, ad, k, cc, -, hs, -, -⟩ := hr j (by omega)
  have := hs.len
  omega
/-- What Expand has answered, beside the text that is written over. -/
structure FX (W w : World) (B gt : Nat) (tx e : List Int) (va vb vc : Value) : Prop where
  bel : Below W.heap.size W w
  hb : W.heap.size ≤ gt ∧ gt < B ∧ B ≤ w.heap.size
  t : Arr w gt 5 tx
  a : OwnB w B va e
  b : OwnB w B vb e
  c : OwnB w B vc e
  ap : Apart va vb
section
variable {W w w' : World} {B gt : Nat} {tx e : List Int} {va vb vc : Value}
theorem FX.below (h : FX W w B gt tx e va vb vc) (hb : Below w.heap.size w w') : FX W w' B gt tx e va vb vc :=
  { h with bel := h.bel.trans (hb.mono h.bel.size), hb := ⟨h.hb.1, h.hb.2.1, Nat.le_trans h.hb.2.2 hb.size⟩, t := (hb.block gt h.t.lt).trans h.t, a := h.a.below hb, b := h.b.below hb, c := h.c.below hb }
theorem FX.set (h : FX W w B gt tx e va vb vc) (i : Nat) (x : Int) : FX W (w.setCell ⟨gt, i, none⟩ (.int .u8 x)) B gt (tx.set i x) e va vb vc :=
  { h with bel := h.bel.setCell h.hb.1 _, hb := ⟨h.hb.1, h.hb.2.1, by simpa [World.setCell] using h.hb.2.2⟩, t := h.t.set i x, a := h.a.setBelow h.hb.2.1 _, b := h.b.setBelow h.hb.2.1 _, c := h.c.setBelow h.hb.2.1 _ }
end

structure FY (W w : World) (B gi gt gs : Nat) (p : List Pc) (gb : Nat → Nat) (m : List VV) (text : List Int) (l : List Sp) (e : List Int) (va vb vc : Value) : Prop where
  wp : WP w gi p gb m
  ns : Arr2 w gs 135 (widen l)
  fx : FX W w B gt (wide text) e va vb vc
theorem FY.below {W w w' : World} {B gi gt gs : Nat} {p : List Pc} {gb : Nat → Nat} {m : List VV} {text : List Int} {l : List Sp} {e : List Int} {va vb vc : Value} (h : FY W w B gi gt gs p gb m text l e va vb vc) (hb : Below w.heap.size w w') : FY W w' B gi gt gs p gb m text l e va vb vc :=
  ⟨h.wp.below hb, h.ns.below hb, h.fx.below hb⟩

set_option maxHeartbeats 4000000 in
set_option maxRecDepth 100000 in
theorem expands_walk (W : World) (ap : Option Addr) (np cp : Nat) (p : List Pc) (sp : PS W (.slice ap np cp) p) (ad : Option Addr) (nt ct : Nat) (text : List Int) (st : SB W (.slice ad nt ct) text) (hN : ad = none → ct = 0) (hct : nt ≤ ct)
    (al : Option Addr) (nl cl : Nat) (l : List Sp) (sl : NS W (.slice al nl cl) l) :
    Calls Tryd.prog 7 #[.slice ap np cp, .slice ad nt ct, .slice al nl cl] W fun e w' => e = .returned (.bool true) ∧ Below W.heap.size W w' := by
  obtain ⟨hpl, hpn, -, -⟩ := sp.len
  obtain ⟨htl, htn⟩ := st.len
  obtain ⟨hll, hln, -⟩ := sl.len
  subst hpl htl hll
  have SP := Lib.hid sp
  have ST := Lib.hid st
  have SL := Lib.hid sl
  have HN := Lib.hid (And.intro hN hct)
  clear sp st sl hN hct
  go_enter Tryd.func7, Tryd.ntmps7
  go_wp2_with fail
  refine (works_any W).mono ?_
  rintro e w1 ⟨rfl, hb1⟩
  have HB := Lib.hid hb1
  clear hb1
  by_cases hbig : 65536 < p.length + text.length + l.length
  · have hd : decide ((65536 : Int) < (p.length : Int) + (text.length : Int) + (l.length : Int)) = true := by simp; omega
    go_wp2_with fail
    go_ret
    exact ⟨rfl, HB.out⟩
  · have hd : decide ((65536 : Int) < (p.length : Int) + (text.length : Int) + (l.length : Int)) = false := by simp; omega
    have HR := Lib.hid (rlong_any w1 ap p.length cp p (SP.out.below HB.out) al l.length cl l (SL.out.below HB.out))
    go_wp2_with fail
    refine HR.out.mono ?_
    rintro e w2 ⟨rfl, n2, rfl⟩
    have HB := Lib.hid (below_drewN HB.out n2)
    generalize w1.drewN n2 = w2 at HB ⊢
    clear HR hd
    obtain ⟨K, hK⟩ : ∃ K : Nat, capN (sumL p l) = K := ⟨_, rfl⟩
    rw [hK]
    have HK := Lib.hid hK
    have hKb : K ≤ 1099511627776 := by rw [← hK]; exact capN_le _
    clear hK
    by_cases hk : 4194304 < K
    · have hd : decide ((4194304 : Int) < (K : Int)) = true := by simp; omega
      have HF := Lib.hid (flong_any w2 ap p.length cp p (SP.out.below HB.out) al l.length cl l (SL.out.below HB.out))
      go_wp2_with fail
      refine HF.out.mono ?_
      rintro e w3 ⟨rfl, hb3⟩
      rw [HK.out]
      have HB := Lib.hid (HB.out.trans (hb3.mono HB.out.size))
      clear HF hb3
      have HR := Lib.hid (rlong_any w3 ap p.length cp p (SP.out.below HB.out) al l.length cl l (SL.out.below HB.out))
      go_wp2_with fail
      refine HR.out.mono ?_
      rintro e w4 ⟨rfl, n4, rfl⟩
      rw [HK.out]
      have HB := Lib.hid (below_drewN HB.out n4)
      clear HR
      go_wp2_with fail
      go_ret
      exact ⟨by simp, HB.out⟩
    · have hd : decide ((4194304 : Int) < (K : Int)) = false := by simp; omega
      have HSUM : Hid (sumL p l ≤ 4194304) := Lib.hid (by have := HK.out; unfold capN at this; omega)
      have HW1 := Lib.hid (wideP_any w2 _ p (SP.out.below HB.out) (by omega))
      go_wp2_with fail
      refine HW1.out.mono ?_
      rintro e w3 ⟨gb, m, rfl, hwp, -, hb3⟩
      obtain ⟨gi, hgi⟩ : ∃ gi, w2.heap.size = gi := ⟨_, rfl⟩
      have HGI : Hid (W.heap.size ≤ gi) := Lib.hid (by rw [← hgi]; exact HB.out.size)
      have HB := Lib.hid (HB.out.trans (hb3.mono HB.out.size))
      rw [hgi] at hwp ⊢
      have WPH := Lib.hid hwp
      clear HW1 hb3 hwp hgi hd
      have HW2 := Lib.hid (wideL_any w3 _ text (ST.out.below HB.out) htn)
      go_wp2_with fail
      refine HW2.out.mono ?_
      rintro e w4 ⟨rfl, hA, hb4⟩
      obtain ⟨gt, hgt⟩ : ∃ gt, w3.heap.size = gt := ⟨_, rfl⟩
      have HGT : Hid (W.heap.size ≤ gt) := Lib.hid (by rw [← hgt]; exact HB.out.size)
      rw [hgt] at hA ⊢
      have HB := Lib.hid (HB.out.trans (hb4.mono HB.out.size))
      have WPH := Lib.hid (WPH.out.below hb4)
      have HA := Lib.hid hA
      clear HW2 hb4 hA hgt
      have HW3 := Lib.hid (widen_any w4 _ l (SL.out.below HB.out) (by omega))
      go_wp2_with fail
      refine HW3.out.mono ?_
      rintro e w5 ⟨rfl, hS, hb5⟩
      obtain ⟨gs, hgs⟩ : ∃ gs, w4.heap.size = gs := ⟨_, rfl⟩
      rw [hgs] at hS ⊢
      have hA5 : Arr w5 gt 5 (wide text) := (hb5.block gt HA.out.lt).trans HA.out
      have HB := Lib.hid (HB.out.trans (hb5.mono HB.out.size))
      have WPH := Lib.hid (WPH.out.below hb5)
      have HS := Lib.hid hS
      have HA := Lib.hid hA5
      clear HW3 hb5 hS hgs hA5
      have HX := Lib.hid (expand_any w5 _ _ _ p (WPH.out.ps SP.out) _ _ _ text (Arr.wide_sb HA.out ST.out.1 htn (text.length + 64)) (fun e => by cases e) (by omega) _ _ _ l (HS.out.ns SL.out) (by have := HSUM.out; omega))
      have hEl := expand_len p text l
      have hEB := isB_expand SP.out (l := l) ST.out.1
      obtain ⟨ex, hex⟩ : ∃ ex, expandL p text l = ex := ⟨_, rfl⟩
      rw [hex] at HX hEl hEB
      have HEX := Lib.hid (And.intro hEB (show ex.length ≤ 140737488351232 by have := HSUM.out; omega))
      have HEQ := Lib.hid hex
      clear hEl hEB hex
      go_wp2_with fail
      refine HX.out.mono ?_
      rintro e w6 ⟨va, rfl, hoa, hb6⟩
      have HB := Lib.hid (HB.out.trans (hb6.mono HB.out.size))
      have WPH := Lib.hid (WPH.out.below hb6)
      have HS := Lib.hid (HS.out.below hb6)
      have HA0 := Lib.hid HA.out.lt
      have HA : Hid (Arr w6 gt 5 (wide text)) := Lib.hid ((hb6.block gt HA.out.lt).trans HA.out)
      obtain ⟨aa, ca, rfl⟩ := hoa.shape
      have HOA := Lib.hid hoa
      have HZ5 := Lib.hid hb6.size
      clear HX hb6 hoa
      have HX := Lib.hid (expand_any w6 _ _ _ p (WPH.out.ps SP.out) _ _ _ text (Arr.wide_sb HA.out ST.out.1 htn (text.length + 64)) (fun e => by cases e) (by omega) _ _ _ l (HS.out.ns SL.out) (by have := HSUM.out; omega))
      rw [HEQ.out] at HX
      go_wp2_with fail
      refine HX.out.mono ?_
      rintro e w7 ⟨vb, rfl, hob, hb7⟩
      obtain ⟨ab, cb, rfl⟩ := hob.shape
      have hap : Apart (.slice aa ex.length ca) (.slice ab ex.length cb) := fun k h1 h2 => by
        have := (World.ownsRow.lt HOA.out k h1).2
        have := (World.ownsRow.lt hob k h2).1
        omega
      have HB := Lib.hid (HB.out.trans (hb7.mono HB.out.size))
      have WPH := Lib.hid (WPH.out.below hb7)
      have HS := Lib.hid (HS.out.below hb7)
      have HA : Hid (Arr w7 gt 5 (wide text)) := Lib.hid ((hb7.block gt HA.out.lt).trans HA.out)
      have HOA := Lib.hid (HOA.out.below hb7)
      have HOB := Lib.hid (hob.mono HZ5.out)
      have HAP := Lib.hid hap
      have HZ6 := Lib.hid hb7.size
      clear HX hb7 hob hap
      have HF := Lib.hid (flong_any w7 _ _ _ p (WPH.out.ps SP.out) _ _ _ l (HS.out.ns SL.out))
      rw [HK.out] at HF
      go_wp2_with fail
      refine HF.out.mono ?_
      rintro e w8 ⟨rfl, hb8⟩
      have HB := Lib.hid (HB.out.trans (hb8.mono HB.out.size))
      have HZ8 := Lib.hid (Nat.le_trans (Nat.le_trans HZ5.out HZ6.out) hb8.size)
      have WPH := Lib.hid (WPH.out.below hb8)
      have HS := Lib.hid (HS.out.below hb8)
      have HA : Hid (Arr w8 gt 5 (wide text)) := Lib.hid ((hb8.block gt HA.out.lt).trans HA.out)
      have HOA := Lib.hid (HOA.out.below hb8)
      have HOB := Lib.hid (HOB.out.below hb8)
      clear HF hb8
      have HX := Lib.hid (rexpand_any w8 ap p.length cp p (SP.out.below HB.out) ad text.length ct text (ST.out.below HB.out) HN.out.1 HN.out.2 al l.length cl l (SL.out.below HB.out) (by have := HSUM.out; omega))
      rw [HEQ.out] at HX
      go_wp2_with fail
      refine HX.out.mono ?_
      rintro e w9 ⟨vc, rfl, hoc, hb9⟩
      have hy : FY W w9 w5.heap.size gi gt gs p gb m text l ex (.slice aa ex.length ca) (.slice ab ex.length cb) vc :=
        ⟨WPH.out.below hb9, HS.out.below hb9, HB.out.trans (hb9.mono HB.out.size), ⟨HGT.out, HA0.out, Nat.le_trans HZ8.out hb9.size⟩, (hb9.block gt HA.out.lt).trans HA.out, HOA.out.below hb9, HOB.out.below hb9, hoc.mono HZ8.out, HAP.out⟩
      have HY := Lib.hid hy
      obtain ⟨ac, cc, rfl⟩ := hoc.shape
      obtain ⟨B5, hB5⟩ : ∃ B5, w5.heap.size = B5 := ⟨_, rfl⟩
      rw [hB5] at HY
      clear HX hb9 hoc hy hB5 HA HOA HOB HS WPH HB HZ5 HZ6 HZ8 HAP HGT HA0
      have HE := Lib.hid (eqPieces_any w9 _ _ _ p (HY.out.wp.ps SP.out) ap p.length cp p (SP.out.below HY.out.fx.bel))
      rw [show decide (p = p) = true by simp] at HE
      go_wp2_with fail
      refine HE.out.mono ?_
      rintro e w10 ⟨rfl, hb10⟩
      have HY := Lib.hid (HY.out.below hb10)
      clear HE hb10
      have HE := Lib.hid (spareP_any w10 gi p gb m HY.out.wp (by omega) SP.out.txt_len)
      go_wp2_with fail
      refine HE.out.mono ?_
      rintro e w11 ⟨rfl, n11, rfl⟩
      have HY := Lib.hid (HY.out.below (below_drewN (Below.refl _ _) n11))
      generalize w10.drewN n11 = w11 at HY ⊢
      clear HE
      have HE := Lib.hid (eqBytes_yes w11 _ _ text (Arr.wide_sb HY.out.fx.t ST.out.1 htn (text.length + 64)) (ST.out.below HY.out.fx.bel))
      go_wp2_with fail
      refine HE.out.mono ?_
      rintro e w12 ⟨rfl, n12, rfl⟩
      have HY := Lib.hid (HY.out.below (below_drewN (Below.refl _ _) n12))
      generalize w11.drewN n12 = w12 at HY ⊢
      clear HE
      have HE := Lib.hid (spareL_any w12 gt text.length _ htn (wide text) (wide_len text) (fun j h1 h2 => wide_hi text j h1 h2) HY.out.fx.t)
      go_wp2_with fail
      refine HE.out.mono ?_
      rintro e w13 ⟨rfl, n13, rfl⟩
      have HY := Lib.hid (HY.out.below (below_drewN (Below.refl _ _) n13))
      generalize w12.drewN n13 = w13 at HY ⊢
      clear HE
      have HE := Lib.hid (eqSpans_any w13 _ _ l l (HY.out.ns.ns SL.out) (SL.out.below HY.out.fx.bel))
      rw [show decide (l = l) = true by simp] at HE
      go_wp2_with fail
      refine HE.out.mono ?_
      rintro e w14 ⟨rfl, n14, rfl⟩
      have HY := Lib.hid (HY.out.below (below_drewN (Below.refl _ _) n14))
      generalize w13.drewN n14 = w14 at HY ⊢
      clear HE
      have HE := Lib.hid (sparen_any w14 gs l (by omega) HY.out.ns)
      go_wp2_with fail
      refine HE.out.mono ?_
      rintro e w15 ⟨rfl, n15, rfl⟩
      have HY := Lib.hid (HY.out.below (below_drewN (Below.refl _ _) n15))
      generalize w14.drewN n15 = w15 at HY ⊢
      clear HE
      have HE := Lib.hid (rlong_any w15 ap p.length cp p (SP.out.below HY.out.fx.bel) al l.length cl l (SL.out.below HY.out.fx.bel))
      rw [HK.out] at HE
      go_wp2_with fail
      refine HE.out.mono ?_
      rintro e w16 ⟨rfl, n16, rfl⟩
      have HY := Lib.hid (HY.out.below (below_drewN (Below.refl _ _) n16))
      generalize w15.drewN n16 = w16 at HY ⊢
      clear HE
      have HE := Lib.hid (eqBytes_yes w16 _ _ ex (HY.out.fx.a.sb HEX.out.1 HEX.out.2) (HY.out.fx.c.sb HEX.out.1 HEX.out.2))
      go_wp2_with fail
      refine HE.out.mono ?_
      rintro e w17 ⟨rfl, n17, rfl⟩
      have HY := Lib.hid (HY.out.below (below_drewN (Below.refl _ _) n17))
      generalize w16.drewN n17 = w17 at HY ⊢
      clear HE
      have HE := Lib.hid (eqBytes_yes w17 _ _ ex (HY.out.fx.b.sb HEX.out.1 HEX.out.2) (HY.out.fx.c.sb HEX.out.1 HEX.out.2))
      go_wp2_with fail
      refine HE.out.mono ?_
      rintro e w18 ⟨rfl, n18, rfl⟩
      have HX := Lib.hid (HY.out.below (below_drewN (Below.refl _ _) n18)).fx
      generalize w17.drewN n18 = w18 at HX ⊢
      clear HE HY
      go_wp2_with fail
      go_loopw [17] (fun x wr => ∃ (i : Nat) (tx : List Int), i ≤ text.length ∧ x = .int .i64 i ∧ tx.length = text.length + 64 ∧ FX W wr B5 gt tx ex (.slice aa ex.length ca) (.slice ab ex.length cb) (.slice ac ex.length cc)) (fun x _ => text.length - (intOf x).toNat)
      case atStart => exact ⟨0, _, Nat.zero_le _, rfl, wide_len text, HX.out⟩
      case round =>
        clear HX
        obtain ⟨i, tx, hi, rfl, htx, hX⟩ := hrel
        have HX := Lib.hid hX
        have HTX := Lib.hid htx
        clear htx
        by_cases hlt : i < text.length
        · have hc := hX.t.cell i (by rw [HTX.out]; omega)
          have hf := hX.t.frozen i
          have HF := Lib.hid (fun x => hX.set i x)
          generalize tx[i]?.getD 0 = x at hc
          clear hX
          go_wp2_with fail
          go_roundw
          case rel => exact ⟨i + 1, _, by omega, by go_num, by rw [List.length_set]; exact HTX.out, HF.out _⟩
          case measure => simp [intOf]; omega
        · clear hX
          have HE := Lib.hid (eqBytes_yes wr _ _ ex (HX.out.a.sb HEX.out.1 HEX.out.2) (HX.out.c.sb HEX.out.1 HEX.out.2))
          go_wp2_with fail
          refine HE.out.mono ?_
          rintro e w19 ⟨rfl, n19, rfl⟩
          have HX := Lib.hid (HX.out.below (below_drewN (Below.refl _ _) n19))
          generalize wr.drewN n19 = w19 at HX ⊢
          clear HE
          have hbb : W.heap.size ≤ B5 := by have := HX.out.hb; omega
          have HG := Lib.hid (GP.start (pd := [(.slice aa ex.length ca, ex), (.slice ab ex.length cb, ex)]) HX.out.bel (fun x hx => by
            simp only [List.mem_cons, List.not_mem_nil, or_false] at hx
            rcases hx with rfl | rfl
            · exact ⟨HX.out.a.mono hbb, HEX.out.2⟩
            · exact ⟨HX.out.b.mono hbb, HEX.out.2⟩) (by simpa using HX.out.ap))
          obtain ⟨bg, hbg⟩ : ∃ bg, w19.heap.size = bg := ⟨_, rfl⟩
          rw [hbg] at HG
          go_upto_region 24 with fail
          change Code.wp _ _ _ _ (w19.alloc bagZero)
          generalize w19.alloc bagZero = w20 at HG ⊢
          clear hbg HX hbb
          have HA := Lib.hid (HG.out.addC (by omega))
          go_wp2_with fail
          refine HA.out.mono ?_
          intro e w21 hP
          obtain ⟨rfl, bv, vs, len, Cn, h21⟩ := HG.out.add hP
          have HG := Lib.hid h21
          clear hP h21 HA
          have HA := Lib.hid (HG.out.addC (by omega))
          go_wp2_with fail
          refine HA.out.mono ?_
          intro e w22 hP
          obtain ⟨rfl, bv, vs, len, Cn, h21⟩ := HG.out.add hP
          have HG := Lib.hid h21
          clear hP h21 HA
          have HA := Lib.hid (HG.out.apart (by omega))
          go_wp2_with fail
          refine HA.out.mono ?_
          rintro e w23 ⟨rfl, hb⟩
          have HB := Lib.hid hb
          clear hb HA HG
          go_wp2_with fail
          go_ret
          exact ⟨rfl, HB.out⟩
end Go.Proofs.YtakimaceohfpcaaDoor
