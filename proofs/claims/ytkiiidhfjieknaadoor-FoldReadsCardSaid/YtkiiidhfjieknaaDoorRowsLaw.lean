/-
  galleylaw18.FoldRows: its walk.
-/
import Derived.Test.YtkiiidhfjieknaaDoorRef18
import Derived.Test.YtkiiidhfjieknaaDoorLives
import Derived.Test.YtkiiidhfjieknaaDoorBag4
import Derived.Test.YtkiiidhfjieknaaDoorWide
import Derived.Test.YtkiiidhfjieknaaDoorCopy
namespace Go.Proofs.YtkiiidhfjieknaaDoor
open Go.RowKit

theorem isB_wide {l : List Int} (h : IsB l) : IsB (wide l) := fun j => by
  by_cases h1 : j < l.length
  · rw [wide_lo l j h1]; exact h j
  · by_cases h2 : j < l.length + 64
    · rw [wide_hi l j (by omega) h2]; exact markAt_b j
    · rw [List.getElem?_eq_none (by rw [wide_len]; omega)]; simp
theorem wide_take (l : List Int) : (wide l).take l.length = l := by unfold wide; rw [List.take_left]
theorem wide_sb {w : World} {g n : Nat} {m : List Int} (h : Arr w g 5 m) (hm : m.length = n + 64) (hB : IsB m) (hn : n ≤ 2147483647) : SB w (.slice (some ⟨g, 0, none⟩) n (n + 64)) (m.take n) := by
  have hl : (m.take n).length = n := by rw [List.length_take]; omega
  refine ⟨fun j => ?_, _, n + 64, by rw [hl], by omega, .inr ⟨g, 0, rfl, fun i hi => ?_⟩⟩
  · rw [List.getElem?_take]
    split
    · exact hB j
    · simp
  · rw [hl] at hi
    rw [Nat.zero_add, h.cell i (by omega), List.getElem?_take_of_lt hi]

/-- What is held: the list with its marks, what was wanted, two answers. -/
structure Held4 (w W : World) (gi gw g1 g2 rn n cw c1 c2 : Nat) (m R R1 R2 : List Int) : Prop where
  i : Arr W gi 5 m
  hm : m.length = n + 64
  bm : IsB m
  ow : OwnB W w.heap.size (.slice (some ⟨gw, 0, none⟩) rn cw) R
  o1 : OwnB W w.heap.size (.slice (some ⟨g1, 0, none⟩) rn c1) R1
  o2 : OwnB W w.heap.size (.slice (some ⟨g2, 0, none⟩) rn c2) R2
  bel : Below w.heap.size w W
  l0 : w.heap.size ≤ gi
  l1 : gi < gw
  l2 : gw < g1
  l3 : g1 < g2
section
variable {w W W' : World} {gi gw g1 g2 rn n cw c1 c2 : Nat} {m R R1 R2 : List Int}
theorem Held4.below (h : Held4 w W gi gw g1 g2 rn n cw c1 c2 m R R1 R2) (hb : Below W.heap.size W W') : Held4 w W' gi gw g1 g2 rn n cw c1 c2 m R R1 R2 :=
  { h with i := h.i.below hb h.i.lt, ow := h.ow.below hb, o1 := h.o1.below hb, o2 := h.o2.below hb, bel := h.bel.trans (hb.mono h.bel.size) }
theorem Held4.keepT (h : Held4 w W gi gw g1 g2 rn n cw c1 c2 m R R1 R2) (hk : KeepT 5 W W') (hb : Below w.heap.size w W') : Held4 w W' gi gw g1 g2 rn n cw c1 c2 m R R1 R2 :=
  { h with i := (hk gi _ h.i).trans h.i, ow := hk.own h.ow, o1 := hk.own h.o1, o2 := hk.own h.o2, bel := hb }
theorem Held4.store1 (h : Held4 w W gi gw g1 g2 rn n cw c1 c2 m R R1 R2) (k : Nat) (x : Int) : Held4 w (W.setCell ⟨g1, k, none⟩ (.int .u8 x)) gi gw g1 g2 rn n cw c1 c2 m R (R1.set k x) R2 :=
  { h with
    i := h.i.other _ (by have := h.l1; have := h.l2; simp; omega) _
    ow := h.ow.far_store (by have := h.l2; simp [Value.ownBlock]; omega) _
    o1 := h.o1.store k x
    o2 := h.o2.far_store (by have := h.l3; simp [Value.ownBlock]; omega) _
    bel := h.bel.setCell (by have := h.l0; have := h.l1; have := h.l2; simp; omega) _ }
theorem Held4.storei (h : Held4 w W gi gw g1 g2 rn n cw c1 c2 m R R1 R2) (k : Nat) (x : Int) (h0 : 0 ≤ x) (h1 : x ≤ 255) : Held4 w (W.setCell ⟨gi, k, none⟩ (.int .u8 x)) gi gw g1 g2 rn n cw c1 c2 (m.set k x) R R1 R2 :=
  { h with
    i := h.i.set k x
    hm := by rw [List.length_set]; exact h.hm
    bm := isB_set h.bm k x h0 h1
    ow := h.ow.far_store (by have := h.l1; simp [Value.ownBlock]; omega) _
    o1 := h.o1.far_store (by have := h.l1; have := h.l2; simp [Value.ownBlock]; omega) _
    o2 := h.o2.far_store (by have := h.l1; have := h.l2; have := h.l3; simp [Value.ownBlock]; omega) _
    bel := h.bel.setCell (by have := h.l0; simp; omega) _ }
end

set_option maxHeartbeats 4000000 in
set_option maxRecDepth 100000 in
theorem rowsLaw_walk (w : World) (a : Option Addr) (n c : Nat) (l : List Int) (width : Int) (h : SBC w a n c l) (hw0 : -9223372036854775808 ≤ width) (hw1 : width ≤ 9223372036854775807) (hE : EnvW w) :
    Calls Tryd.prog 3 #[.slice a n c, .int .i64 width] w fun e w' => e = .returned (.bool true) ∧ Below w.heap.size w w' := by
  have HS := Lib.hid h
  have HE := Lib.hid hE
  have HLN := Lib.hid h.len
  have hn47 := h.1.len.2
  clear h hE
  by_cases hbig : 357913940 < n
  · have hb1 : (357913940 : Int) < (n : Int) := by omega
    go_enter Tryd.func3, Tryd.ntmps3
    go_wp2_with fail
    go_ret
    exact ⟨rfl, Below.refl _ _⟩
  · have hb1 : ¬ ((357913940 : Int) < (n : Int)) := by omega
    have HLI := Lib.hid (lives_any w HE.out)
    have hrl := rowL_len (wideN width) l
    have hr2 := rowL_ends (wideN width) l
    have HRB := Lib.hid (rowL_isB (wideN width) l HS.out.inB)
    obtain ⟨R, hR⟩ : ∃ R, rowL (wideN width) l = R := ⟨_, rfl⟩
    have HR := Lib.hid hR
    rw [hR] at hrl hr2 HRB
    rw [HLN.out] at hrl
    clear hR
    go_enter Tryd.func3, Tryd.ntmps3
    go_wp2_with fail
    refine HLI.out.mono ?_
    rintro e w1 ⟨rfl, hb1'⟩
    clear HLI
    have hwd := wide_any w1 _ l (HS.out.below hb1').1 (by rw [HLN.out]; omega)
    rw [HLN.out] at hwd
    have HWD := Lib.hid hwd
    clear hwd
    go_wp2_with fail
    refine HWD.out.mono ?_
    rintro e w2 ⟨rfl, hi2, hb2⟩
    have hgi : w.heap.size ≤ w1.heap.size := hb1'.size
    have hbw2 := hb1'.trans (hb2.mono hgi)
    have HRR := Lib.hid (refRow_any w2 _ l (HS.out.below hbw2).1 (by rw [HLN.out]; omega) width hw0 hw1)
    rw [HR.out] at HRR
    clear HWD hb1' hb2
    generalize w1.heap.size = gi at hi2 hgi ⊢
    go_wp2_with fail
    refine HRR.out.mono ?_
    rintro e w3 ⟨vw, rfl, ow3, hb3⟩
    have hgiw : gi < w2.heap.size := hi2.lt
    have hi3 := hi2.below hb3 hgiw
    have hbw3 := hbw2.trans (hb3.mono hbw2.size)
    have hwm := isB_wide HS.out.1.1
    have hwl := wide_len l
    rw [HLN.out] at hwl
    have hsi := wide_sb hi3 hwl hwm (by omega)
    rw [show n = l.length from HLN.out.symm, wide_take, HLN.out] at hsi
    have HRO := Lib.hid (row_any w3 _ l hsi (by rw [HLN.out]; omega) width hw0 hw1 (HE.out.below hbw3).letw)
    rw [HR.out] at HRO
    clear HRR hb3 hi2 hbw2 hsi
    go_wp2_with fail
    refine HRO.out.mono ?_
    rintro e w4 ⟨v1, rfl, o14, hb4⟩
    have hs34 := hb4.size
    have hi4 := hi3.below hb4 hi3.lt
    have ow4 := ow3.below hb4
    have hbw4 := hbw3.trans (hb4.mono hbw3.size)
    have htw := ow3.top (Nat.le_refl _)
    have hsi := wide_sb hi4 hwl hwm (by omega)
    rw [show n = l.length from HLN.out.symm, wide_take, HLN.out] at hsi
    have HRO2 := Lib.hid (row_any w4 _ l hsi (by rw [HLN.out]; omega) width hw0 hw1 (HE.out.below hbw4).letw)
    rw [HR.out] at HRO2
    clear HRO hb4 hi3 hbw3 hsi ow3
    go_wp2_with fail
    refine HRO2.out.mono ?_
    rintro e w5 ⟨v2, rfl, o25, hb5⟩
    have hs45 := hb5.size
    have hi5 := hi4.below hb5 hi4.lt
    have ow5 := ow4.below hb5
    have o15 := o14.below hb5
    have hbw5 := hbw4.trans (hb5.mono hbw4.size)
    have ht1 := o14.top (Nat.le_refl _)
    clear HRO2 hb5 hi4 hbw4 ow4 o14
    obtain ⟨rn, hrn⟩ : ∃ k, R.length = k := ⟨_, rfl⟩
    have HRN := Lib.hid hrn
    obtain ⟨gw, cw, rfl, -, lw1, -⟩ := ow5.some_ (by omega)
    obtain ⟨g1, c1, rfl, -, l11, -⟩ := o15.some_ (by omega)
    obtain ⟨g2, c2, rfl, -, l21, l22⟩ := o25.some_ (by omega)
    have tw := htw gw rfl
    have t1 := ht1 g1 rfl
    have hw2s : w.heap.size ≤ w2.heap.size := by omega
    rw [hrn] at ow5 o15 o25 hrl hr2 ⊢
    have hH : Held4 w w5 gi gw g1 g2 rn n cw c1 c2 (wide l) R R R := ⟨hi5, hwl, hwm, ow5.mono hw2s, o15.mono (by omega), o25.mono (by omega), hbw5, hgi, by omega, by omega, by omega⟩
    have heq1 := eqBytes_any w5 _ _ R R (o15.sb HRB.out (by omega)) (ow5.sb HRB.out (by omega))
    rw [decide_eq_true rfl] at heq1
    have HEQ1 := Lib.hid heq1
    clear hrn hi5 hwl hwm ow5 o15 o25 hbw5 lw1 l11 l21 l22 tw t1 htw ht1 hw2s hs34 hs45 hgiw heq1
    go_wp2_with fail
    refine HEQ1.out.mono ?_
    rintro e w6 ⟨rfl, q, rfl⟩
    have hH := hH.below (below_drewN (Below.refl _ _) q)
    generalize w5.drewN q = w6 at hH ⊢
    have hsi := wide_sb hH.i hH.hm hH.bm (by omega)
    rw [show n = l.length from HLN.out.symm, wide_take] at hsi
    have heq2 := eqBytes_any w6 _ _ l l hsi (HS.out.below hH.bel).1
    rw [decide_eq_true rfl, HLN.out] at heq2
    have HEQ2 := Lib.hid heq2
    clear HEQ1 heq2 hsi
    go_wp2_with fail
    refine HEQ2.out.mono ?_
    rintro e w7 ⟨rfl, q2, rfl⟩
    have hH := hH.below (below_drewN (Below.refl _ _) q2)
    generalize w6.drewN q2 = w7 at hH ⊢
    have HSP := Lib.hid (spare_any w7 gi n _ (by omega) (wide l) hH.hm (fun j h1 h2 => wide_hi l j (by rw [HLN.out]; exact h1) (by rw [HLN.out]; exact h2)) hH.i)
    clear HEQ2
    go_wp2_with fail
    refine HSP.out.mono ?_
    rintro e w8 ⟨rfl, q3, rfl⟩
    have hH := hH.below (below_drewN (Below.refl _ _) q3)
    generalize w7.drewN q3 = w8 at hH ⊢
    have HH := Lib.hid hH
    clear HSP hH
    go_wp2_with fail
    go_loopw [10] (fun v10 wr => ∃ (i : Nat) (R1 : List Int), i ≤ rn ∧ v10 = .int .i64 i ∧ Held4 w wr gi gw g1 g2 rn n cw c1 c2 (wide l) R R1 R) (fun v10 _ => rn - (intOf v10).toNat)
    case atStart => exact ⟨0, R, Nat.zero_le _, rfl, HH.out⟩
    case round =>
      obtain ⟨i, R1, hi, rfl, hH⟩ := hrel
      have hrl1 : R1.length = rn := (own_len hH.o1).symm
      by_cases hil : i < rn
      · obtain ⟨e1, e2⟩ := hH.o1.cellAt i hil
        have HN := Lib.hid (fun x => hH.store1 i x)
        generalize R1[i]?.getD 0 = y at e1
        clear hH hrl1
        go_wp2_with fail
        go_roundw
        case rel => exact ⟨i + 1, _, by omega, by go_num, HN.out _⟩
        case measure => simp [intOf]; omega
      · obtain rfl : rn = i := by omega
        have heq3 := eqBytes_any wr _ _ R R (hH.o2.sb HRB.out (by rw [HRN.out]; omega)) (hH.ow.sb HRB.out (by rw [HRN.out]; omega))
        rw [decide_eq_true rfl] at heq3
        have HEQ3 := Lib.hid heq3
        have HH := Lib.hid hH
        clear heq3 hH hrl1
        go_wp2_with fail
        refine HEQ3.out.mono ?_
        rintro e w9 ⟨rfl, q4, rfl⟩
        have hH := HH.out.below (below_drewN (Below.refl _ _) q4)
        generalize wr.drewN q4 = w9 at hH ⊢
        have HH9 := Lib.hid hH
        clear HEQ3 hH
        go_wp2_with fail
        go_loopw [11] (fun v11 wr => ∃ (i : Nat) (m : List Int), i ≤ n ∧ v11 = .int .i64 i ∧ Held4 w wr gi gw g1 g2 rn n cw c1 c2 m R R1 R) (fun v11 _ => n - (intOf v11).toNat)
        case atStart => exact ⟨0, _, Nat.zero_le _, rfl, HH9.out⟩
        case round =>
          obtain ⟨i, m, hi, rfl, hH⟩ := hrel
          by_cases hil : i < n
          · have hml := hH.hm
            have e1 := hH.i.cell i (by omega)
            have e2 := hH.i.frozen i
            have hbm := hH.bm i
            have HN := Lib.hid (fun x => hH.storei i x)
            generalize m[i]?.getD 0 = y at e1 hbm
            have hb8 := Lib.hid (bits8 (c := 64) (by decide +kernel) y hbm.1 hbm.2)
            clear hH hml
            go_wp2_with fail
            go_roundw
            case rel => exact ⟨i + 1, _, by omega, by go_num, HN.out _ hb8.out.1 hb8.out.2⟩
            case measure => simp [intOf]; omega
          · obtain rfl : n = i := by omega
            have hsi := wide_sb hH.i hH.hm hH.bm (by omega)
            have hlt : (m.take n).length = n := by rw [List.length_take, hH.hm]; omega
            have hrl3 := rowL_len (wideN width) (m.take n)
            have hr3 := rowL_ends (wideN width) (m.take n)
            have HRB3 := Lib.hid (rowL_isB (wideN width) (m.take n) (inB_of hsi.1))
            have HRO := Lib.hid (row_any wr _ (m.take n) hsi (by rw [hlt]; omega) width hw0 hw1 (HE.out.below hH.bel).letw)
            rw [hlt] at hrl3
            obtain ⟨R3, hR3⟩ : ∃ k, rowL (wideN width) (m.take n) = k := ⟨_, rfl⟩
            have HR3 := Lib.hid hR3
            rw [hR3] at hrl3 hr3 HRB3 HRO
            have HLT := Lib.hid hlt
            have HH := Lib.hid hH
            clear hsi hlt hR3 hH
            go_wp2_with fail
            refine HRO.out.mono ?_
            rintro e w10 ⟨v3, rfl, o3, hb10⟩
            have hs10 := hb10.size
            have hH := HH.out.below hb10
            have hws := HH.out.bel.size
            have hg2 : g2 < wr.heap.size := (HH.out.o2.top (Nat.le_refl _)) g2 rfl
            have hsi := wide_sb hH.i hH.hm hH.bm (by omega)
            have HCO := Lib.hid (copy_any w10 _ (m.take n) hsi)
            have HH10 := Lib.hid hH
            clear HRO hsi hH hb10
            go_wp2_with fail
            refine HCO.out.mono ?_
            rintro e w11 ⟨vc, rfl, oc, hb11⟩
            have hs11 := hb11.size
            have hH := HH10.out.below hb11
            have o3 := o3.below hb11
            have HRC := Lib.hid (refRow_any w11 _ (m.take n) (oc.sb (fun j => by have := (wide_sb hH.i hH.hm hH.bm (by omega)).1 j; exact this) (by rw [HLT.out]; omega)) (by rw [HLT.out]; omega) width hw0 hw1)
            rw [HR3.out] at HRC
            have HH11 := Lib.hid hH
            clear HCO oc hH hb11
            go_wp2_with fail
            refine HRC.out.mono ?_
            rintro e w12 ⟨vr, rfl, or, hb12⟩
            have hs12 := hb12.size
            have hH := HH11.out.below hb12
            have o3 := o3.below hb12
            have heq4 := eqBytes_any w12 _ _ R3 R3 (o3.sb HRB3.out (by omega)) (or.sb HRB3.out (by omega))
            rw [decide_eq_true rfl] at heq4
            have HEQ4 := Lib.hid heq4
            have HH12 := Lib.hid hH
            have HO3 := Lib.hid o3
            clear HRC or hH hb12 o3 heq4
            go_wp2_with fail
            refine HEQ4.out.mono ?_
            rintro e w13 ⟨rfl, q5, rfl⟩
            have hH := HH12.out.below (below_drewN (Below.refl _ _) q5)
            have o3 := HO3.out.below (below_drewN (Below.refl _ _) q5)
            have hs13 : w12.heap.size ≤ (w12.drewN q5).heap.size := Nat.le_refl _
            generalize w12.drewN q5 = w13 at hH o3 hs13 ⊢
            clear HEQ4
            have hb14 := (Below.refl w13.heap.size w13).alloc (Nat.le_refl _) (.cells #[.slice none 0 0, .slice none 0 0, .slice none 0 0, .slice none 0 0, .slice none 0 0, .slice none 0 0, .slice none 0 0, .slice none 0 0, .slice none 0 0, .slice none 0 0, .slice none 0 0, .slice none 0 0, .slice none 0 0, .slice none 0 0, .slice none 0 0, .slice none 0 0, .slice none 0 0, .slice none 0 0, .slice none 0 0] 49)
            have hbg : BagAt (w13.alloc (.cells #[.slice none 0 0, .slice none 0 0, .slice none 0 0, .slice none 0 0, .slice none 0 0, .slice none 0 0, .slice none 0 0, .slice none 0 0, .slice none 0 0, .slice none 0 0, .slice none 0 0, .slice none 0 0, .slice none 0 0, .slice none 0 0, .slice none 0 0, .slice none 0 0, .slice none 0 0, .slice none 0 0, .slice none 0 0] 49)) w13.heap.size (.slice none 0 0 :: noneB) := BagAt.new w13
            have hH := hH.below hb14
            have o3 := o3.below hb14
            have hs14 := hb14.size
            clear hb14
            obtain ⟨g3, c3, rfl, -, l31, l32⟩ := o3.some_ (by omega)
            have hbb : w.heap.size ≤ w13.heap.size := by omega
            have hbs := hH.bel.size
            have hg23 : g2 < g3 := by omega
            obtain ⟨rn3, hrn3⟩ : ∃ k, R3.length = k := ⟨_, rfl⟩
            have HRN3 := Lib.hid hrn3
            rw [hrn3] at o3 hrl3 ⊢
            have o3 := o3.mono hws
            clear hs10 hs11 hs12 hs13 l31 l32 hr3 hrn3
            go_wp2_with fail
            generalize w13.alloc (.cells #[.slice none 0 0, .slice none 0 0, .slice none 0 0, .slice none 0 0, .slice none 0 0, .slice none 0 0, .slice none 0 0, .slice none 0 0, .slice none 0 0, .slice none 0 0, .slice none 0 0, .slice none 0 0, .slice none 0 0, .slice none 0 0, .slice none 0 0, .slice none 0 0, .slice none 0 0, .slice none 0 0, .slice none 0 0] 49) = w14 at hbg hH o3 hbs hs14 ⊢
            generalize w13.heap.size = bg at hbg hbb hs14 ⊢
            refine (addBytes_any w14 w.heap.size bg _ [] noneB _ _ _ hbg (World.ownsRow_nil _ _ _ _) (by decide) hbs).mono ?_
            rintro e w15 ⟨rfl, bv1, hA⟩
            have hH := hH.keepT hA.keep (hA.bel _ _ hH.bel (Nat.le_refl _) hbb)
            have o3 := hA.keep.own o3
            have hbg := hA.bag
            have hown := hA.own
            clear hA
            go_wp2_with fail
            refine (addBytes_any w15 w.heap.size bg bv1 [.slice (some ⟨gi, 0, none⟩) n (n + 64)] noneB _ _ _ hbg hown (by simp) hH.bel.size).mono ?_
            rintro e w16 ⟨rfl, bv2, hA⟩
            have hH := hH.keepT hA.keep (hA.bel _ _ hH.bel (Nat.le_refl _) hbb)
            have o3 := hA.keep.own o3
            have hbg := hA.bag
            have hown := hA.own
            clear hA
            go_wp2_with fail
            refine (addBytes_any w16 w.heap.size bg bv2 [.slice (some ⟨gi, 0, none⟩) n (n + 64), .slice (some ⟨g1, 0, none⟩) rn c1] noneB _ _ _ hbg hown (by simp) hH.bel.size).mono ?_
            rintro e w17 ⟨rfl, bv3, hA⟩
            have hH := hH.keepT hA.keep (hA.bel _ _ hH.bel (Nat.le_refl _) hbb)
            have o3 := hA.keep.own o3
            have hbg := hA.bag
            have hown := hA.own
            clear hA
            go_wp2_with fail
            refine (addBytes_any w17 w.heap.size bg bv3 [.slice (some ⟨gi, 0, none⟩) n (n + 64), .slice (some ⟨g1, 0, none⟩) rn c1, .slice (some ⟨g2, 0, none⟩) rn c2] noneB _ _ _ hbg hown (by simp) hH.bel.size).mono ?_
            rintro e w18 ⟨rfl, bv4, hA⟩
            have hH := hH.keepT hA.keep (hA.bel _ _ hH.bel (Nat.le_refl _) hbb)
            have o3 : OwnB w18 w.heap.size (.slice (some ⟨g3, 0, none⟩) rn3 c3) R3 := hA.keep.own o3
            have hbg := hA.bag
            have hown := hA.own
            clear hA
            have hoi := hH.i.own hH.l0 hH.hm (by unfold maxLen; omega) (by omega : n ≤ n + 64)
            have hl1 := hH.l1
            have hl2 := hH.l2
            have hl3 := hH.l3
            have hap : ∀ {g h x y z t : Nat}, g < h → Apart (.slice (some ⟨g, 0, none⟩) x y) (.slice (some ⟨h, 0, none⟩) z t) := fun hlt k h1 h2 => by
              simp only [Value.ownBlock, Option.some.injEq] at h1 h2
              omega
            have hbags := bags4 hoi hH.o1 hH.o2 o3 (hap (by omega)) (hap (by omega)) (hap (by omega)) (hap (by omega)) (hap (by omega)) (hap (by omega))
            have e1 := (own_len hH.o1).symm
            have e2 := (own_len hH.o2).symm
            have HAP := Lib.hid (apart_any w18 w.heap.size bg 4 bv4 (pick4 _ _ _ _) _ _ hbg (by rw [first4]; exact hown) (by decide) hbags (fun k hk => by
              rcases lt4 hk with rfl | rfl | rfl | rfl
              · show (m.take n).length ≤ _; rw [HLT.out]; omega
              · show R1.length ≤ _; omega
              · show R.length ≤ _; rw [HRN.out]; omega
              · show R3.length ≤ _; rw [HRN3.out]; omega) hH.bel.size)
            have HB := Lib.hid hH.bel
            clear hap hbags e1 e2 hoi hH o3 hbg hown
            go_wp2_with fail
            refine HAP.out.mono ?_
            rintro e w19 ⟨rfl, hF⟩
            have HFB := Lib.hid (hF.bel _ _ HB.out (Nat.le_refl _))
            clear hF
            go_wp2_with fail
            go_ret
            exact ⟨rfl, HFB.out⟩
end Go.Proofs.YtkiiidhfjieknaaDoor
