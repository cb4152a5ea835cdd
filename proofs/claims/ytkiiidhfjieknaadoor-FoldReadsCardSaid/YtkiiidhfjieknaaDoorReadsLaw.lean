/-
  galleylaw18.FoldReads: its walk.
-/
import Derived.Test.YtkiiidhfjieknaaDoorRead18
import Derived.Test.YtkiiidhfjieknaaDoorRowsLaw
import Derived.Test.YtkiiidhfjieknaaDoorBackLaw
namespace Go.Proofs.YtkiiidhfjieknaaDoor
open Go.RowKit

/-- What Back answers, in one form. -/
def ansL (l : List Int) : List Int := (backL l).getD []
def ansT (l : List Int) : Bool := (backL l).isSome
def AnsPost (w : World) (l : List Int) (e : Ending) (w' : World) : Prop := ∃ v, e = .returned (.tuple #[v, .bool (ansT l)]) ∧ OwnB w' w.heap.size v (ansL l) ∧ Below w.heap.size w w'
theorem ans_of {w w' : World} {l : List Int} {e : Ending} (h : BackPost w l e w') : AnsPost w l e w' := by
  obtain ⟨hb, hq⟩ := h
  unfold AnsPost ansT ansL
  cases hk : backL l with
  | none =>
    rw [hk] at hq
    exact ⟨_, hq, OwnB.nil _ _, hb⟩
  | some x =>
    rw [hk] at hq
    obtain ⟨v, h1, h2, -⟩ := hq
    exact ⟨v, h1, h2, hb⟩
theorem ans_in {l : List Int} (h : InB l) : IsB (ansL l) ∧ (ansL l).length ≤ l.length := by
  unfold ansL
  cases hk : backL l with
  | none => exact ⟨isB_nil, Nat.zero_le _⟩
  | some x =>
    obtain ⟨h1, h2⟩ := back_in h hk
    refine ⟨inB_isB h1, ?_⟩
    have h3 := flat_len1 x
    have h4 : (rowL (leastL l) x).length = l.length := by rw [h2]
    have h5 := (rows_ok (leastL l) (least_le l).1 x h1).all
    have h6 : (x.flatMap pieceL).length ≤ (render (rowsR (leastL l) x)).length := by
      rw [← h5]
      unfold render
      rw [List.length_append, List.length_append]
      have : ∀ L : List (List Int), L.flatten.length ≤ (L.flatMap fun r => r ++ [92, 10]).length := fun L => by
        induction L with
        | nil => simp
        | cons r t ih => rw [List.flatten_cons, List.flatMap_cons, List.length_append, List.length_append, List.length_append]; omega
      have := this (rowsR (leastL l) x).1
      omega
    have h7 : (rowL (leastL l) x).length = (render (rowsR (leastL l) x)).length + 2 := by unfold rowL; rw [List.length_append]; rfl
    show x.length ≤ _
    omega

/-- What is held: the list with its marks, what was wanted, two answers. -/
structure Held5 (w W : World) (gi n : Nat) (vw v1 v2 : Value) (m X X1 X2 : List Int) : Prop where
  i : Arr W gi 5 m
  hm : m.length = n + 64
  bm : IsB m
  ow : OwnB W w.heap.size vw X
  o1 : OwnB W w.heap.size v1 X1
  o2 : OwnB W w.heap.size v2 X2
  bel : Below w.heap.size w W
  l0 : w.heap.size ≤ gi
  iw : vw.ownBlock ≠ some gi
  i1 : v1.ownBlock ≠ some gi
  i2 : v2.ownBlock ≠ some gi
  w1 : Apart v1 vw
  w2 : Apart v2 vw
  a12 : Apart v1 v2
section
variable {w W W' : World} {gi n : Nat} {vw v1 v2 : Value} {m X X1 X2 : List Int}
theorem Held5.below (h : Held5 w W gi n vw v1 v2 m X X1 X2) (hb : Below W.heap.size W W') : Held5 w W' gi n vw v1 v2 m X X1 X2 :=
  { h with i := h.i.below hb h.i.lt, ow := h.ow.below hb, o1 := h.o1.below hb, o2 := h.o2.below hb, bel := h.bel.trans (hb.mono h.bel.size) }
theorem Held5.keepT (h : Held5 w W gi n vw v1 v2 m X X1 X2) (hk : KeepT 5 W W') (hb : Below w.heap.size w W') : Held5 w W' gi n vw v1 v2 m X X1 X2 :=
  { h with i := (hk gi _ h.i).trans h.i, ow := hk.own h.ow, o1 := hk.own h.o1, o2 := hk.own h.o2, bel := hb }
theorem Held5.store1 {g1 n1 c1 : Nat} (h : Held5 w W gi n vw (.slice (some ⟨g1, 0, none⟩) n1 c1) v2 m X X1 X2) (k : Nat) (x : Int) : Held5 w (W.setCell ⟨g1, k, none⟩ (.int .u8 x)) gi n vw (.slice (some ⟨g1, 0, none⟩) n1 c1) v2 m X (X1.set k x) X2 :=
  { h with
    i := h.i.other _ (fun e => h.i1 (by simp at e; simp [Value.ownBlock]; exact e.symm)) _
    ow := h.ow.far_store (fun e => h.w1 g1 rfl e) _
    o1 := h.o1.store k x
    o2 := h.o2.far_store (fun e => h.a12 g1 rfl e) _
    bel := h.bel.setCell (by have := (World.ownsRow.lt h.o1 g1 rfl).1; exact this) _ }
theorem Held5.storei (h : Held5 w W gi n vw v1 v2 m X X1 X2) (k : Nat) (x : Int) (h0 : 0 ≤ x) (h1 : x ≤ 255) : Held5 w (W.setCell ⟨gi, k, none⟩ (.int .u8 x)) gi n vw v1 v2 (m.set k x) X X1 X2 :=
  { h with
    i := h.i.set k x
    hm := by rw [List.length_set]; exact h.hm
    bm := isB_set h.bm k x h0 h1
    ow := h.ow.far_store h.iw _
    o1 := h.o1.far_store h.i1 _
    o2 := h.o2.far_store h.i2 _
    bel := h.bel.setCell (by have := h.l0; simp; omega) _ }
theorem Held5.sbc (h : Held5 w W gi n vw v1 v2 m X X1 X2) (hn : n ≤ 2147483647) : SBC W (some ⟨gi, 0, none⟩) n (n + 64) (m.take n) :=
  ⟨wide_sb h.i h.hm h.bm hn, by omega, fun e => by cases e⟩
end
theorem wide_sbc {w : World} {g n : Nat} {m : List Int} (h : Arr w g 5 m) (hm : m.length = n + 64) (hB : IsB m) (hn : n ≤ 2147483647) : SBC w (some ⟨g, 0, none⟩) n (n + 64) (m.take n) := ⟨wide_sb h hm hB hn, by omega, fun e => by cases e⟩
theorem not_own_lt {w : World} {base g : Nat} {v : Value} {l : List Int} (h : OwnB w base v l) (hg : g < base) : v.ownBlock ≠ some g := fun e => by
  have := (World.ownsRow.lt h g e).1
  omega
theorem wrap8 (x : Int) : 0 ≤ IntKind.u8.wrap x ∧ IntKind.u8.wrap x ≤ 255 := by rw [IntKind.wrap_u8]; omega

set_option maxHeartbeats 4000000 in
set_option maxRecDepth 100000 in
theorem readsLaw_walk (w : World) (a : Option Addr) (n c : Nat) (l : List Int) (h : SBC w a n c l) (hE : EnvW w) :
    Calls Tryd.prog 4 #[.slice a n c] w fun e w' => e = .returned (.bool true) ∧ Below w.heap.size w w' := by
  have HS := Lib.hid h
  have HE := Lib.hid hE
  have HLN := Lib.hid h.len
  have hn47 := h.1.len.2
  have HLO := Lib.hid (long_any w n (by omega))
  clear h hE
  by_cases hlong : 2147483647 < n
  · rw [decide_eq_true hlong] at HLO
    go_enter Tryd.func4, Tryd.ntmps4
    go_wp2_with fail
    refine HLO.out.mono ?_
    rintro e w1 ⟨rfl, rfl⟩
    go_wp2_with fail
    go_ret
    exact ⟨rfl, Below.refl _ _⟩
  · rw [decide_eq_false hlong] at HLO
    have hn : n ≤ 2147483647 := by omega
    have HLI := Lib.hid (lives_any w HE.out)
    obtain ⟨haB, haL⟩ := ans_in HS.out.inB
    have HAB := Lib.hid haB
    obtain ⟨X, hX⟩ : ∃ X, ansL l = X := ⟨_, rfl⟩
    obtain ⟨t, ht⟩ : ∃ t, ansT l = t := ⟨_, rfl⟩
    have HX := Lib.hid hX
    have HT := Lib.hid ht
    rw [hX] at HAB haL
    rw [HLN.out] at haL
    clear hX ht haB
    go_enter Tryd.func4, Tryd.ntmps4
    go_wp2_with fail
    refine HLO.out.mono ?_
    rintro e w0 ⟨rfl, hw0⟩
    obtain rfl : w = w0 := by first | exact hw0 | exact hw0.symm
    clear HLO
    go_wp2_with fail
    refine HLI.out.mono ?_
    rintro e w1 ⟨rfl, hb1'⟩
    clear HLI
    have hwd := wide_any w1 _ l (HS.out.below hb1').1 (by rw [HLN.out]; omega)
    rw [HLN.out] at hwd
    have HWD := Lib.hid hwd
    clear hwd
    go_wp2_with fail
    refine HWD.out.mono ?_
    rintro e w2 ⟨rfl, hi2, hb2⟩
    have hgi : w.heap.size ≤ w1.heap.size := hb1'.size
    have hbw2 := hb1'.trans (hb2.mono hgi)
    have hgiw : w1.heap.size < w2.heap.size := hi2.lt
    have HRR : Hid (Calls Tryd.prog 17 #[.slice a n c] w2 (AnsPost w2 l)) := Lib.hid ((refBack_any w2 a n c l (HS.out.below hbw2) (by omega)).mono fun _ _ h => ans_of h)
    clear HWD hb1' hb2
    generalize w1.heap.size = gi at hi2 hgi hgiw ⊢
    go_wp2_with fail
    refine HRR.out.mono ?_
    rintro e w3 ⟨vw, rfl, ow3, hb3⟩
    rw [HX.out] at ow3
    rw [HT.out]
    have hi3 := hi2.below hb3 hgiw
    have hbw3 := hbw2.trans (hb3.mono hbw2.size)
    have hwm := isB_wide HS.out.1.1
    have hwl := wide_len l
    rw [HLN.out] at hwl
    have hwt := wide_take l
    rw [HLN.out] at hwt
    have HWT := Lib.hid hwt
    have hsi := wide_sbc hi3 hwl hwm hn
    rw [hwt] at hsi
    have HRO : Hid (Calls Tryd.prog 18 #[.slice (some ⟨gi, 0, none⟩) n (n + 64)] w3 (AnsPost w3 l)) := Lib.hid ((back_any w3 _ n _ l hsi (by omega) (HE.out.below hbw3)).mono fun _ _ h => ans_of h)
    have hs23 := hb3.size
    clear HRR hb3 hi2 hsi hwt
    go_wp2_with fail
    refine HRO.out.mono ?_
    rintro e w4 ⟨v1, rfl, o14, hb4⟩
    rw [HX.out] at o14
    rw [HT.out]
    have hs34 := hb4.size
    have hi4 := hi3.below hb4 hi3.lt
    have ow4 := ow3.below hb4
    have hbw4 := hbw3.trans (hb4.mono hbw3.size)
    have hw1 := apart_lt o14 (ow3.top (Nat.le_refl _))
    have hsi := wide_sbc hi4 hwl hwm hn
    rw [HWT.out] at hsi
    have HRO2 : Hid (Calls Tryd.prog 18 #[.slice (some ⟨gi, 0, none⟩) n (n + 64)] w4 (AnsPost w4 l)) := Lib.hid ((back_any w4 _ n _ l hsi (by omega) (HE.out.below hbw4)).mono fun _ _ h => ans_of h)
    clear HRO hb4 hi3 hbw3 hsi
    go_wp2_with fail
    refine HRO2.out.mono ?_
    rintro e w5 ⟨v2, rfl, o25, hb5⟩
    rw [HX.out] at o25
    rw [HT.out]
    have hi5 := hi4.below hb5 hi4.lt
    have ow5 := ow4.below hb5
    have o15 := o14.below hb5
    have hbw5 := hbw4.trans (hb5.mono hbw4.size)
    have h12 := apart_lt o25 (o14.top (Nat.le_refl _))
    have hw2 := apart_lt o25 (ow4.top (Nat.le_refl _))
    have hH : Held5 w w5 gi n vw v1 v2 (wide l) X X X :=
      ⟨hi5, hwl, hwm, ow5.mono (by omega), o15.mono (by omega), o25.mono (by omega), hbw5, hgi, not_own_lt ow5 (by omega), not_own_lt o15 (by omega), not_own_lt o25 (by omega), hw1.symm, hw2.symm, h12⟩
    clear HRO2 hb5 hi4 hbw4 ow4 o14 ow3 hw1 hi5 ow5 o15 o25 hbw5 h12 hw2 hs34 hs23 hgiw
    obtain ⟨xn, hxn⟩ : ∃ k, X.length = k := ⟨_, rfl⟩
    have HXN := Lib.hid hxn
    obtain ⟨aw, cw, rfl⟩ := hH.ow.shape
    obtain ⟨a1, c1, rfl⟩ := hH.o1.shape
    obtain ⟨a2, c2, rfl⟩ := hH.o2.shape
    rw [hxn] at hH haL ⊢
    have htt : (t != t) = false := by simp
    have heq1 := eqBytes_any w5 _ _ X X (hH.o1.sb HAB.out (by omega)) (hH.ow.sb HAB.out (by omega))
    rw [decide_eq_true rfl] at heq1
    have HEQ1 := Lib.hid heq1
    clear hxn heq1
    go_wp2_with fail
    refine HEQ1.out.mono ?_
    rintro e w6 ⟨rfl, q, rfl⟩
    have hH := hH.below (below_drewN (Below.refl _ _) q)
    generalize w5.drewN q = w6 at hH ⊢
    have hsi := wide_sb hH.i hH.hm hH.bm hn
    rw [HWT.out] at hsi
    have heq2 := eqBytes_any w6 _ _ l l hsi (HS.out.below hH.bel).1
    rw [decide_eq_true rfl] at heq2
    have HEQ2 := Lib.hid heq2
    clear HEQ1 heq2 hsi
    go_wp2_with fail
    refine HEQ2.out.mono ?_
    rintro e w7 ⟨rfl, q2, rfl⟩
    have hH := hH.below (below_drewN (Below.refl _ _) q2)
    generalize w6.drewN q2 = w7 at hH ⊢
    have HSP := Lib.hid (spare_any w7 gi n _ hn (wide l) hH.hm (fun j h1 h2 => wide_hi l j (by rw [HLN.out]; exact h1) (by rw [HLN.out]; exact h2)) hH.i)
    clear HEQ2
    go_wp2_with fail
    refine HSP.out.mono ?_
    rintro e w8 ⟨rfl, q3, rfl⟩
    have hH := hH.below (below_drewN (Below.refl _ _) q3)
    generalize w7.drewN q3 = w8 at hH ⊢
    have HH := Lib.hid hH
    clear HSP hH
    go_wp2_with fail
    go_loopw [11] (fun v11 wr => ∃ (i : Nat) (X1 : List Int), i ≤ xn ∧ v11 = .int .i64 i ∧ Held5 w wr gi n (.slice aw xn cw) (.slice a1 xn c1) (.slice a2 xn c2) (wide l) X X1 X) (fun v11 _ => xn - (intOf v11).toNat)
    case atStart => exact ⟨0, X, Nat.zero_le _, rfl, HH.out⟩
    case round =>
      obtain ⟨i, X1, hi, rfl, hH⟩ := hrel
      have hrl1 : X1.length = xn := (own_len hH.o1).symm
      by_cases hil : i < xn
      · obtain ⟨g1, cc, he, -⟩ := hH.o1.some_ (by omega)
        simp only [Value.slice.injEq] at he
        obtain ⟨rfl, -, rfl⟩ := he
        obtain ⟨e1, e2⟩ := hH.o1.cellAt i hil
        have HN := Lib.hid (fun x => hH.store1 i x)
        generalize X1[i]?.getD 0 = y at e1
        clear hH hrl1
        go_wp2_with fail
        go_roundw
        case rel => exact ⟨i + 1, _, by omega, by go_num, HN.out _⟩
        case measure => simp [intOf]; omega
      · obtain rfl : xn = i := by omega
        have heq3 := eqBytes_any wr _ _ X X (hH.o2.sb HAB.out (by rw [HXN.out]; omega)) (hH.ow.sb HAB.out (by rw [HXN.out]; omega))
        rw [decide_eq_true rfl] at heq3
        have HEQ3 := Lib.hid heq3
        have HH := Lib.hid hH
        clear heq3 hH hrl1
        go_wp2_with fail
        refine HEQ3.out.mono ?_
        rintro e w9 ⟨rfl, q4, rfl⟩
        have hH := HH.out.below (below_drewN (Below.refl _ _) q4)
        generalize wr.drewN q4 = w9 at hH ⊢
        have HH9 := Lib.hid hH
        clear HEQ3 hH
        go_wp2_with fail
        go_loopw [12] (fun v12 wr => ∃ (i : Nat) (m : List Int), i ≤ n ∧ v12 = .int .i64 i ∧ Held5 w wr gi n (.slice aw xn cw) (.slice a1 xn c1) (.slice a2 xn c2) m X X1 X) (fun v12 _ => n - (intOf v12).toNat)
        case atStart => exact ⟨0, _, Nat.zero_le _, rfl, HH9.out⟩
        case round =>
          obtain ⟨i, m, hi, rfl, hH⟩ := hrel
          by_cases hil : i + 2 < n
          · have hd1 : decide ((i : Int) + 2 < (n : Int)) = true := by simp; omega
            have hml := hH.hm
            have e1 := hH.i.cell i (by omega)
            have e2 := hH.i.frozen i
            have HN := Lib.hid (fun x => hH.storei i x)
            have HH := Lib.hid hH
            generalize m[i]?.getD 0 = y at e1
            clear hH hml
            by_cases h97 : 97 ≤ y
            · by_cases h122 : y < 122
              · go_wp2_with fail
                go_roundw
                case rel => exact ⟨i + 1, _, by omega, by go_num, HN.out _ (by omega) (by omega)⟩
                case measure => simp [intOf]; omega
              · go_wp2_with fail
                go_roundw
                case rel => exact ⟨i + 1, _, by omega, by go_num, HH.out⟩
                case measure => simp [intOf]; omega
            · go_wp2_with fail
              go_roundw
              case rel => exact ⟨i + 1, _, by omega, by go_num, HH.out⟩
              case measure => simp [intOf]; omega
          · have hd1 : decide ((i : Int) + 2 < (n : Int)) = false := by simp; omega
            clear hil
            have hsi := hH.sbc hn
            have hlt : (m.take n).length = n := by rw [List.length_take, hH.hm]; omega
            obtain ⟨haB3, haL3⟩ := ans_in hsi.inB
            have HAB3 := Lib.hid haB3
            have HBK : Hid (Calls Tryd.prog 18 #[.slice (some ⟨gi, 0, none⟩) n (n + 64)] wr (AnsPost wr (m.take n))) := Lib.hid ((back_any wr _ n _ (m.take n) hsi (by omega) (HE.out.below hH.bel)).mono fun _ _ h => ans_of h)
            rw [hlt] at haL3
            obtain ⟨X3, hX3⟩ : ∃ k, ansL (m.take n) = k := ⟨_, rfl⟩
            obtain ⟨t3, ht3⟩ : ∃ k, ansT (m.take n) = k := ⟨_, rfl⟩
            have HX3 := Lib.hid hX3
            have HT3 := Lib.hid ht3
            rw [hX3] at haL3 HAB3
            have htt3 : (t3 != t3) = false := by simp
            have HLT := Lib.hid hlt
            have HH := Lib.hid hH
            clear hsi hlt hX3 ht3 hH haB3
            go_wp2_with fail
            refine HBK.out.mono ?_
            rintro e w10 ⟨v3, rfl, o3, hb10⟩
            rw [HX3.out] at o3
            rw [HT3.out]
            have hs10 := hb10.size
            have hH := HH.out.below hb10
            have hws := HH.out.bel.size
            have hgi2 : gi < wr.heap.size := HH.out.i.lt
            have h13 := Lib.hid (apart_lt o3 (HH.out.o1.top (Nat.le_refl _)))
            have h23 := Lib.hid (apart_lt o3 (HH.out.o2.top (Nat.le_refl _)))
            have h3i := Lib.hid (not_own_lt o3 hgi2)
            have HCO := Lib.hid (copy_any w10 _ (m.take n) (hH.sbc hn).1)
            have HH10 := Lib.hid hH
            clear HBK hH hb10
            go_wp2_with fail
            refine HCO.out.mono ?_
            rintro e w11 ⟨vc, rfl, oc, hb11⟩
            have hH := HH10.out.below hb11
            have o3 := o3.below hb11
            obtain ⟨ac, cc, rfl, hsc⟩ := oc.toSBC (hH.sbc hn).1.1 (by rw [HLT.out]; omega)
            rw [HLT.out] at hsc ⊢
            have HRC : Hid (Calls Tryd.prog 17 #[.slice ac n cc] w11 (AnsPost w11 (m.take n))) := Lib.hid ((refBack_any w11 ac n cc _ hsc (by omega)).mono fun _ _ h => ans_of h)
            have HH11 := Lib.hid hH
            clear HCO oc hH hb11 hsc
            go_wp2_with fail
            refine HRC.out.mono ?_
            rintro e w12 ⟨vr, rfl, or, hb12⟩
            rw [HX3.out] at or
            rw [HT3.out]
            have hH := HH11.out.below hb12
            have o3 := o3.below hb12
            have heq4 := eqBytes_any w12 _ _ X3 X3 (o3.sb HAB3.out (by omega)) (or.sb HAB3.out (by omega))
            rw [decide_eq_true rfl] at heq4
            have HEQ4 := Lib.hid heq4
            have HH12 := Lib.hid hH
            have HO3 := Lib.hid o3
            clear HRC or hH hb12 o3 heq4
            go_wp2_with fail
            refine HEQ4.out.mono ?_
            rintro e w13 ⟨rfl, q5, rfl⟩
            have hH := HH12.out.below (below_drewN (Below.refl _ _) q5)
            have o3 := (HO3.out.below (below_drewN (Below.refl _ _) q5)).mono hws
            generalize w12.drewN q5 = w13 at hH o3 ⊢
            clear HEQ4
            have hb14 := (Below.refl w13.heap.size w13).alloc (Nat.le_refl _) (.cells #[.slice none 0 0, .slice none 0 0, .slice none 0 0, .slice none 0 0, .slice none 0 0, .slice none 0 0, .slice none 0 0, .slice none 0 0, .slice none 0 0, .slice none 0 0, .slice none 0 0, .slice none 0 0, .slice none 0 0, .slice none 0 0, .slice none 0 0, .slice none 0 0, .slice none 0 0, .slice none 0 0, .slice none 0 0] 49)
            have hbg : BagAt (w13.alloc (.cells #[.slice none 0 0, .slice none 0 0, .slice none 0 0, .slice none 0 0, .slice none 0 0, .slice none 0 0, .slice none 0 0, .slice none 0 0, .slice none 0 0, .slice none 0 0, .slice none 0 0, .slice none 0 0, .slice none 0 0, .slice none 0 0, .slice none 0 0, .slice none 0 0, .slice none 0 0, .slice none 0 0, .slice none 0 0] 49)) w13.heap.size (.slice none 0 0 :: noneB) := BagAt.new w13
            have hbb : w.heap.size ≤ w13.heap.size := hH.bel.size
            have hH := hH.below hb14
            have o3 := o3.below hb14
            clear hb14
            obtain ⟨a3, c3, rfl⟩ := o3.shape
            obtain ⟨xn3, hxn3⟩ : ∃ k, X3.length = k := ⟨_, rfl⟩
            have HXN3 := Lib.hid hxn3
            rw [hxn3] at o3 haL3 h13 h23 h3i ⊢
            have hbs := hH.bel.size
            clear hxn3 hs10
            go_wp2_with fail
            generalize w13.alloc (.cells #[.slice none 0 0, .slice none 0 0, .slice none 0 0, .slice none 0 0, .slice none 0 0, .slice none 0 0, .slice none 0 0, .slice none 0 0, .slice none 0 0, .slice none 0 0, .slice none 0 0, .slice none 0 0, .slice none 0 0, .slice none 0 0, .slice none 0 0, .slice none 0 0, .slice none 0 0, .slice none 0 0, .slice none 0 0] 49) = w14 at hbg hH o3 hbs ⊢
            generalize w13.heap.size = bg at hbg hbb ⊢
            refine (addBytes_any w14 w.heap.size bg _ [] noneB _ _ _ hbg (World.ownsRow_nil _ _ _ _) (by decide) hbs).mono ?_
            rintro e w15 ⟨rfl, bv1, hA⟩
            have hH := hH.keepT hA.keep (hA.bel _ _ hH.bel (Nat.le_refl _) hbb)
            have o3 := hA.keep.own o3
            have hbg := hA.bag
            have hown := hA.own
            clear hA
            go_wp2_with fail
            refine (addBytes_any w15 w.heap.size bg bv1 [.slice (some ⟨gi, 0, none⟩) n (n + 64)] noneB _ _ _ hbg hown (by simp) hH.bel.size).mono ?_
            rintro e w16 ⟨rfl, bv2, hA⟩
            have hH := hH.keepT hA.keep (hA.bel _ _ hH.bel (Nat.le_refl _) hbb)
            have o3 := hA.keep.own o3
            have hbg := hA.bag
            have hown := hA.own
            clear hA
            go_wp2_with fail
            refine (addBytes_any w16 w.heap.size bg bv2 [.slice (some ⟨gi, 0, none⟩) n (n + 64), .slice a1 xn c1] noneB _ _ _ hbg hown (by simp) hH.bel.size).mono ?_
            rintro e w17 ⟨rfl, bv3, hA⟩
            have hH := hH.keepT hA.keep (hA.bel _ _ hH.bel (Nat.le_refl _) hbb)
            have o3 := hA.keep.own o3
            have hbg := hA.bag
            have hown := hA.own
            clear hA
            go_wp2_with fail
            refine (addBytes_any w17 w.heap.size bg bv3 [.slice (some ⟨gi, 0, none⟩) n (n + 64), .slice a1 xn c1, .slice a2 xn c2] noneB _ _ _ hbg hown (by simp) hH.bel.size).mono ?_
            rintro e w18 ⟨rfl, bv4, hA⟩
            have hH := hH.keepT hA.keep (hA.bel _ _ hH.bel (Nat.le_refl _) hbb)
            have o3 : OwnB w18 w.heap.size (.slice a3 xn3 c3) X3 := hA.keep.own o3
            have hbg := hA.bag
            have hown := hA.own
            clear hA
            have hoi := hH.i.own hH.l0 hH.hm (by unfold maxLen; omega) (by omega : n ≤ n + 64)
            have hapi : ∀ {v : Value}, v.ownBlock ≠ some gi → Apart (.slice (some ⟨gi, 0, none⟩) n (n + 64)) v := fun hne k h1 h2 => by
              simp only [Value.ownBlock, Option.some.injEq] at h1
              subst h1
              exact hne h2
            have hbags := bags4 hoi hH.o1 hH.o2 o3 (hapi hH.i1) (hapi hH.i2) (hapi h3i.out) hH.a12 h13.out h23.out
            have e1 := (own_len hH.o1).symm
            have HAP := Lib.hid (apart_any w18 w.heap.size bg 4 bv4 (pick4 _ _ _ _) _ _ hbg (by rw [first4]; exact hown) (by decide) hbags (fun k hk => by
              rcases lt4 hk with rfl | rfl | rfl | rfl
              · show (m.take n).length ≤ _; rw [HLT.out]; omega
              · show X1.length ≤ _; omega
              · show X.length ≤ _; rw [HXN.out]; omega
              · show X3.length ≤ _; rw [HXN3.out]; omega) hH.bel.size)
            have HB := Lib.hid hH.bel
            clear hapi hbags e1 hoi hH o3 hbg hown
            go_wp2_with fail
            refine HAP.out.mono ?_
            rintro e w19 ⟨rfl, hF⟩
            have HFB := Lib.hid (hF.bel _ _ HB.out (Nat.le_refl _))
            clear hF
            go_wp2_with fail
            go_ret
            exact ⟨rfl, HFB.out⟩
end Go.Proofs.YtkiiidhfjieknaaDoor
