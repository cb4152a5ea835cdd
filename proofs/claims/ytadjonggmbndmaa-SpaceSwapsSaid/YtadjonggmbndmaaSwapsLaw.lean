/-
  galleylaw25.SpaceSwaps: its walk (written by gen_swaps.py).
-/
import Derived.Test.YtadjonggmbndmaaSpWorks
import Derived.Test.YtadjonggmbndmaaEq
import Derived.Test.YtadjonggmbndmaaCopy
namespace Go.Proofs.Ytadjonggmbndmaa
open Go.RowKit

/-- Another list of the call's own, kept beside a space. -/
def Keep (w : World) (g : Nat) (pv hv v : Value) (l : List Int) : Prop := ∃ b, OwnB w b v l ∧ v.ownBlock ≠ some g ∧ Apart v pv ∧ Apart v hv
theorem Keep.below {w w' : World} {g : Nat} {pv hv v : Value} {l : List Int} (h : Keep w g pv hv v l) (hb : Below w.heap.size w w') : Keep w' g pv hv v l := by
  obtain ⟨b, h1, h2⟩ := h
  exact ⟨b, h1.below hb, h2⟩
theorem Keep.drewN {w : World} {g : Nat} {pv hv v : Value} {l : List Int} (h : Keep w g pv hv v l) (n : Nat) : Keep (w.drewN n) g pv hv v l := h.below (below_drewN (Below.refl _ _) n)
theorem Keep.step {w w' : World} {g base : Nat} {most : Int} {pv hv pv' hv' v : Value} {l p h : List Int} (k : Keep w g pv hv v l) (_s : Sp w g base most pv hv p h) (st : SpStep w w' g base pv hv pv' hv') : Keep w' g pv' hv' v l := by
  obtain ⟨b, h1, h2, h3, h4⟩ := k
  obtain ⟨g1, g2, g3⟩ := st.own h1 h2 h3 h4
  exact ⟨b, g1, h2, g2, g3⟩
theorem Keep.made {w w' : World} {g base : Nat} {most : Int} {pv hv v : Value} {l p h : List Int} (s : Sp w g base most pv hv p h) (ho : OwnB w' w.heap.size v l) : Keep w' g pv hv v l := by
  have hlt := World.ownsRow.lt ho
  have h1 := World.ownsRow.lt s.op
  have h2 := World.ownsRow.lt s.oh
  have hg := s.lt
  exact ⟨_, ho, fun e => by have := (hlt g e).1; omega, fun k e1 e2 => by have := (hlt k e1).1; have := (h1 k e2).2; omega, fun k e1 e2 => by have := (hlt k e1).1; have := (h2 k e2).2; omega⟩
theorem Keep.shape {w : World} {g : Nat} {pv hv v : Value} {l : List Int} (h : Keep w g pv hv v l) : ∃ a n c, v = .slice a n c := by
  obtain ⟨b, h1, _⟩ := h
  rcases h1.2 with ⟨rfl, _⟩ | ⟨g, cap, cur, rfl, _⟩ <;> exact ⟨_, _, _, rfl⟩
theorem Keep.sb {w : World} {g : Nat} {pv hv v : Value} {l : List Int} (h : Keep w g pv hv v l) (hB : IsB l) (hl : l.length ≤ 140737488351232) : SB w v l := by
  obtain ⟨b, h1, _⟩ := h
  exact h1.sb hB hl
theorem SB.shape {w : World} {v : Value} {l : List Int} (h : SB w v l) : ∃ a n c, v = .slice a n c := by
  obtain ⟨-, a, c, rfl, -⟩ := h
  exact ⟨_, _, _, rfl⟩
theorem OwnB.assoc {w : World} {b : Nat} {v : Value} {x z : List Int} {y : Int} (h : OwnB w b v (x ++ y :: z)) : OwnB w b v (x ++ [y] ++ z) := by rw [List.append_assoc]; exact h

set_option maxHeartbeats 8000000 in
set_option maxRecDepth 100000 in
theorem swaps_main (w : World) (most : Int) (a1 : Option Addr) (n1 c1 : Nat) (p : List Int) (sp : SB w (.slice a1 n1 c1) p) (hN1 : Hid (a1 = none → c1 = 0)) (a2 : Option Addr) (n2 c2 : Nat) (h : List Int) (sh : SB w (.slice a2 n2 c2) h) (hN2 : Hid (a2 = none → c2 = 0))
    (h0 : 0 ≤ most) (h1 : most ≤ 1048576) (hlp : (n1 : Int) ≤ most) (hlh : (n2 : Int) ≤ most) :
    Calls Try.prog 11 #[.int .i64 most, .slice a1 n1 c1, .slice a2 n2 c2] w fun e w' => e = .returned (.bool true) ∧ Below w.heap.size w w' := by
  have hpl := Lib.hid sp.len.1
  have hhl := Lib.hid sh.len.1
  have hphB := Lib.hid (isB_append _ _ (isB_append _ _ sp.1 (isB_one 10 (by omega) (by omega))) sh.1)
  have hhpB := Lib.hid (isB_append _ _ (isB_append _ _ sh.1 (isB_one 10 (by omega) (by omega))) sp.1)
  have hphl : (p ++ [10] ++ h).length ≤ 140737488351232 := by rw [List.length_append, List.length_append, hpl.out, hhl.out]; simp; omega
  have hhpl : (h ++ [10] ++ p).length ≤ 140737488351232 := by rw [List.length_append, List.length_append, hpl.out, hhl.out]; simp; omega
  go_enter Try.func11, Try.ntmps11
  go_wp2_with fail
  refine (spWorks_any w).mono ?_
  rintro e w0 ⟨rfl, hb0⟩
  have hB0 := hb0.size
  go_wp2_with fail
  refine (new_yes w0 most h0 h1).mono ?_
  rintro e wN ⟨g, rfl, s0, hb1⟩
  have hbel := hb0.trans (hb1.mono hB0)
  have hpn : ((some ⟨g, 0, none⟩ : Option Addr) = none) = False := by simp
  clear hb0 hb1 hpn
  generalize w0.heap.size = B at s0 hB0
  go_wp2_with fail
  refine (put_yes _ g B most _ _ _ _ s0 a2 n2 c2 h (sh.below hbel) hlh).mono ?_
  intro e w1 hP
  obtain ⟨rfl, pv1, hv1, s1, st1⟩ := hP.get
  have hbel := st1.bel _ _ hbel hB0
  clear hP st1 s0
  go_wp2_with fail
  refine (doExch_any _ g B most _ _ _ _ s1).mono ?_
  intro e w2 hP
  obtain ⟨rfl, pv2, hv2, s2, st2⟩ := hP.get
  have hbel := st2.bel _ _ hbel hB0
  clear hP st2 s1
  go_wp2_with fail
  refine (put_yes _ g B most _ _ _ _ s2 a1 n1 c1 p (sp.below hbel) hlp).mono ?_
  intro e w3 hP
  obtain ⟨rfl, pv3, hv3, s3, st3⟩ := hP.get
  have hbel := st3.bel _ _ hbel hB0
  clear hP st3 s2
  go_wp2_with fail
  refine (pattern_any _ g B most _ _ _ _ s3).mono ?_
  rintro e w4 ⟨v4, rfl, o4, hb4⟩
  have sb4 := o4.sb s3.bp s3.len2P
  obtain ⟨a4, m4, c4, rfl⟩ := sb4.shape
  have s3' := s3.below hb4
  have hbel := hbel.trans (hb4.mono hbel.size)
  clear o4 hb4 s3
  go_wp2_with fail
  refine (eqBytes_any _ _ _ _ _ sb4 (sp.below hbel)).mono ?_
  rw [decide_eq_true rfl]
  rintro e w4' ⟨rfl, n4, rfl⟩
  have s4 := s3'.drewN n4
  have hbel := below_drewN hbel n4
  clear sb4 s3'
  go_wp2_with fail
  refine (hold_any _ g B most _ _ _ _ s4).mono ?_
  rintro e w5 ⟨v5, rfl, o5, hb5⟩
  have sb5 := o5.sb s4.bh s4.len2H
  obtain ⟨a5, m5, c5, rfl⟩ := sb5.shape
  have s4' := s4.below hb5
  have hbel := hbel.trans (hb5.mono hbel.size)
  clear o5 hb5 s4
  go_wp2_with fail
  refine (eqBytes_any _ _ _ _ _ sb5 (sh.below hbel)).mono ?_
  rw [decide_eq_true rfl]
  rintro e w5' ⟨rfl, n5, rfl⟩
  have s5 := s4'.drewN n5
  have hbel := below_drewN hbel n5
  clear sb5 s4'
  by_cases hroom : (n1 : Int) + 1 + (n2 : Int) ≤ most
  · have hr1 := hroom
    go_wp2_with fail
    refine (doExch_any _ g B most _ _ _ _ s5).mono ?_
    intro e w6 hP
    obtain ⟨rfl, pv6, hv6, s6, st6⟩ := hP.get
    have hbel := st6.bel _ _ hbel hB0
    clear hP st6 s5
    go_wp2_with fail
    refine (pattern_any _ g B most _ _ _ _ s6).mono ?_
    rintro e w7 ⟨v7, rfl, o7, hb7⟩
    have sb7 := o7.sb s6.bp s6.len2P
    obtain ⟨a7, m7, c7, rfl⟩ := sb7.shape
    have s6' := s6.below hb7
    have hbel := hbel.trans (hb7.mono hbel.size)
    clear o7 hb7 s6
    go_wp2_with fail
    refine (eqBytes_any _ _ _ _ _ sb7 (sh.below hbel)).mono ?_
    rw [decide_eq_true rfl]
    rintro e w7' ⟨rfl, n7, rfl⟩
    have s7 := s6'.drewN n7
    have hbel := below_drewN hbel n7
    clear sb7 s6'
    go_wp2_with fail
    refine (hold_any _ g B most _ _ _ _ s7).mono ?_
    rintro e w8 ⟨v8, rfl, o8, hb8⟩
    have sb8 := o8.sb s7.bh s7.len2H
    obtain ⟨a8, m8, c8, rfl⟩ := sb8.shape
    have s7' := s7.below hb8
    have hbel := hbel.trans (hb8.mono hbel.size)
    clear o8 hb8 s7
    go_wp2_with fail
    refine (eqBytes_any _ _ _ _ _ sb8 (sp.below hbel)).mono ?_
    rw [decide_eq_true rfl]
    rintro e w8' ⟨rfl, n8, rfl⟩
    have s8 := s7'.drewN n8
    have hbel := below_drewN hbel n8
    clear sb8 s7'
    go_wp2_with fail
    refine (doExch_any _ g B most _ _ _ _ s8).mono ?_
    intro e w9 hP
    obtain ⟨rfl, pv9, hv9, s9, st9⟩ := hP.get
    have hbel := st9.bel _ _ hbel hB0
    clear hP st9 s8
    go_wp2_with fail
    refine (pattern_any _ g B most _ _ _ _ s9).mono ?_
    rintro e w10 ⟨v10, rfl, o10, hb10⟩
    have sb10 := o10.sb s9.bp s9.len2P
    obtain ⟨a10, m10, c10, rfl⟩ := sb10.shape
    have s9' := s9.below hb10
    have hbel := hbel.trans (hb10.mono hbel.size)
    clear o10 hb10 s9
    go_wp2_with fail
    refine (eqBytes_any _ _ _ _ _ sb10 (sp.below hbel)).mono ?_
    rw [decide_eq_true rfl]
    rintro e w10' ⟨rfl, n10, rfl⟩
    have s10 := s9'.drewN n10
    have hbel := below_drewN hbel n10
    clear sb10 s9'
    go_wp2_with fail
    refine (hold_any _ g B most _ _ _ _ s10).mono ?_
    rintro e w11 ⟨v11, rfl, o11, hb11⟩
    have sb11 := o11.sb s10.bh s10.len2H
    obtain ⟨a11, m11, c11, rfl⟩ := sb11.shape
    have s10' := s10.below hb11
    have hbel := hbel.trans (hb11.mono hbel.size)
    clear o11 hb11 s10
    go_wp2_with fail
    refine (eqBytes_any _ _ _ _ _ sb11 (sh.below hbel)).mono ?_
    rw [decide_eq_true rfl]
    rintro e w11' ⟨rfl, n11, rfl⟩
    have s11 := s10'.drewN n11
    have hbel := below_drewN hbel n11
    clear sb11 s10'
    go_wp2_with fail
    have hbC := hbel
    refine (copy_any _ _ p (sp.below hbel)).mono ?_
    rintro e x1 ⟨vp1, rfl, op1, hx1⟩
    have hbx1 := hx1.size
    have hl1 := Lib.hid hpl
    go_wp2_with (at_builtin; refine append_b1 rfl (.tmp 126) (.tmp 127) rfl _ _ p 10 rfl op1 rfl (by rw [hpl.out]; omega) hbx1 ?_)
    intro vp2 x2 op2 hA2
    have hx2 := hA2.bel _ _ hx1 (Nat.le_refl _)
    have hbx2 := hx2.size
    clear op1 hx1 hA2 hbx1
    go_wp2_with (at_builtin; refine append_sbp rfl (.tmp 129) (.tmp 130) rfl _ _ (p ++ [10]) h a2 n2 c2 rfl op2 rfl hN2.out (sh.below (hbel.trans (hx2.mono hbel.size))) (by rw [List.length_append, hpl.out]; simp; omega) hbx2 ?_)
    intro vp3 x3 op3 hA3
    have hx3 := hA3.bel _ _ hx2 (Nat.le_refl _)
    clear op2 hx2 hA3 hbx2
    have op3 := op3.assoc
    have kp := Keep.made s11 op3
    have s11x := s11.below hx3
    have hbel := hbel.trans (hx3.mono hbel.size)
    clear s11 op3 hx3
    go_wp2_with fail
    refine (copy_any _ _ h (sh.below hbel)).mono ?_
    rintro e y1 ⟨vh1, rfl, oh1, hy1⟩
    have hby1 := hy1.size
    go_wp2_with (at_builtin; refine append_b1 rfl (.tmp 134) (.tmp 135) rfl _ _ h 10 rfl oh1 rfl (by rw [hhl.out]; omega) hby1 ?_)
    intro vh2 y2 oh2 hA2
    have hy2 := hA2.bel _ _ hy1 (Nat.le_refl _)
    have hby2 := hy2.size
    clear oh1 hy1 hA2 hby1
    go_wp2_with (at_builtin; refine append_sbp rfl (.tmp 137) (.tmp 138) rfl _ _ (h ++ [10]) p a1 n1 c1 rfl oh2 rfl hN1.out (sp.below (hbel.trans (hy2.mono hbel.size))) (by rw [List.length_append, hhl.out]; simp; omega) hby2 ?_)
    intro vh3 y3 oh3 hA3
    have hy3 := hA3.bel _ _ hy2 (Nat.le_refl _)
    clear oh2 hy2 hA3 hby2
    have oh3 := oh3.assoc
    have kh := Keep.made s11x oh3
    have kp := kp.below hy3
    have s11 := s11x.below hy3
    have hbel := hbel.trans (hy3.mono hbel.size)
    clear s11x oh3 hy3 hbC
    obtain ⟨ap, np, cp, rfl⟩ := kp.shape
    obtain ⟨ah, nh, ch, rfl⟩ := kh.shape
    go_wp2_with fail
    refine (doKeepMore_yes _ g B most _ _ _ _ s11 (by rw [hpl.out, hhl.out]; omega)).mono ?_
    intro e w12 hP
    obtain ⟨rfl, pv12, hv12, s12, st12⟩ := hP.get
    have kp := kp.step s11 st12
    have kh := kh.step s11 st12
    have hbel := st12.bel _ _ hbel hB0
    clear hP st12 s11
    go_wp2_with fail
    refine (pattern_any _ g B most _ _ _ _ s12).mono ?_
    rintro e w13 ⟨v13, rfl, o13, hb13⟩
    have sb13 := o13.sb s12.bp s12.len2P
    obtain ⟨a13, m13, c13, rfl⟩ := sb13.shape
    have s12' := s12.below hb13
    have kp := kp.below hb13
    have kh := kh.below hb13
    have hbel := hbel.trans (hb13.mono hbel.size)
    clear o13 hb13 s12
    go_wp2_with fail
    refine (eqBytes_any _ _ _ _ _ sb13 (sp.below hbel)).mono ?_
    rw [decide_eq_true rfl]
    rintro e w13' ⟨rfl, n13, rfl⟩
    have s13 := s12'.drewN n13
    have kp := kp.drewN n13
    have kh := kh.drewN n13
    have hbel := below_drewN hbel n13
    clear sb13 s12'
    go_wp2_with fail
    refine (hold_any _ g B most _ _ _ _ s13).mono ?_
    rintro e w14 ⟨v14, rfl, o14, hb14⟩
    have sb14 := o14.sb s13.bh s13.len2H
    obtain ⟨a14, m14, c14, rfl⟩ := sb14.shape
    have s13' := s13.below hb14
    have kp := kp.below hb14
    have kh := kh.below hb14
    have hbel := hbel.trans (hb14.mono hbel.size)
    clear o14 hb14 s13
    go_wp2_with fail
    refine (eqBytes_any _ _ _ _ _ sb14 (kh.sb hhpB.out hhpl)).mono ?_
    rw [decide_eq_true rfl]
    rintro e w14' ⟨rfl, n14, rfl⟩
    have s14 := s13'.drewN n14
    have kp := kp.drewN n14
    have kh := kh.drewN n14
    have hbel := below_drewN hbel n14
    clear sb14 s13'
    go_wp2_with fail
    refine (put_yes _ g B most _ _ _ _ s14 a2 n2 c2 h (sh.below hbel) hlh).mono ?_
    intro e w15 hP
    obtain ⟨rfl, pv15, hv15, s15, st15⟩ := hP.get
    have kp := kp.step s14 st15
    have kh := kh.step s14 st15
    have hbel := st15.bel _ _ hbel hB0
    clear hP st15 s14
    go_wp2_with fail
    refine (doKeep_any _ g B most _ _ _ _ s15).mono ?_
    intro e w16 hP
    obtain ⟨rfl, pv16, hv16, s16, st16⟩ := hP.get
    have kp := kp.step s15 st16
    have kh := kh.step s15 st16
    have hbel := st16.bel _ _ hbel hB0
    clear hP st16 s15
    go_wp2_with fail
    refine (put_yes _ g B most _ _ _ _ s16 a1 n1 c1 p (sp.below hbel) hlp).mono ?_
    intro e w17 hP
    obtain ⟨rfl, pv17, hv17, s17, st17⟩ := hP.get
    have kp := kp.step s16 st17
    have kh := kh.step s16 st17
    have hbel := st17.bel _ _ hbel hB0
    clear hP st17 s16
    go_wp2_with fail
    refine (doMore_yes _ g B most _ _ _ _ s17 (by rw [hpl.out, hhl.out]; omega)).mono ?_
    intro e w18 hP
    obtain ⟨rfl, pv18, hv18, s18, st18⟩ := hP.get
    have kp := kp.step s17 st18
    have kh := kh.step s17 st18
    have hbel := st18.bel _ _ hbel hB0
    clear hP st18 s17
    go_wp2_with fail
    refine (hold_any _ g B most _ _ _ _ s18).mono ?_
    rintro e w19 ⟨v19, rfl, o19, hb19⟩
    have sb19 := o19.sb s18.bh s18.len2H
    obtain ⟨a19, m19, c19, rfl⟩ := sb19.shape
    have s18' := s18.below hb19
    have kp := kp.below hb19
    have kh := kh.below hb19
    have hbel := hbel.trans (hb19.mono hbel.size)
    clear o19 hb19 s18
    go_wp2_with fail
    refine (eqBytes_any _ _ _ _ _ sb19 (sh.below hbel)).mono ?_
    rw [decide_eq_true rfl]
    rintro e w19' ⟨rfl, n19, rfl⟩
    have s19 := s18'.drewN n19
    have kp := kp.drewN n19
    have kh := kh.drewN n19
    have hbel := below_drewN hbel n19
    clear sb19 s18'
    go_wp2_with fail
    refine (pattern_any _ g B most _ _ _ _ s19).mono ?_
    rintro e w20 ⟨v20, rfl, o20, hb20⟩
    have sb20 := o20.sb s19.bp s19.len2P
    obtain ⟨a20, m20, c20, rfl⟩ := sb20.shape
    have s19' := s19.below hb20
    have kp := kp.below hb20
    have kh := kh.below hb20
    have hbel := hbel.trans (hb20.mono hbel.size)
    clear o20 hb20 s19
    go_wp2_with fail
    refine (eqBytes_any _ _ _ _ _ sb20 (kp.sb hphB.out hphl)).mono ?_
    rw [decide_eq_true rfl]
    rintro e w20' ⟨rfl, n20, rfl⟩
    have s20 := s19'.drewN n20
    have kp := kp.drewN n20
    have kh := kh.drewN n20
    have hbel := below_drewN hbel n20
    clear sb20 s19'
    clear kp kh
    go_wp2_with fail
    refine (doKeep_any _ g B most _ _ _ _ s20).mono ?_
    intro e w21 hP
    obtain ⟨rfl, pv21, hv21, s21, st21⟩ := hP.get
    have hbel := st21.bel _ _ hbel hB0
    clear hP st21 s20
    go_wp2_with fail
    refine (hold_any _ g B most _ _ _ _ s21).mono ?_
    rintro e w22 ⟨v22, rfl, o22, hb22⟩
    have kq := Keep.made s21 o22
    have hqB := Lib.hid s21.bh
    have hql := s21.len2H
    have s22 := s21.below hb22
    have hbel := hbel.trans (hb22.mono hbel.size)
    clear s21 o22 hb22
    obtain ⟨aq, nq, cq, rfl⟩ := kq.shape
    go_wp2_with fail
    refine (doGet_any _ g B most _ _ _ _ s22).mono ?_
    intro e w23 hP
    obtain ⟨rfl, pv23, hv23, s23, st23⟩ := hP.get
    have kq := kq.step s22 st23
    have hbel := st23.bel _ _ hbel hB0
    clear hP st23 s22
    go_wp2_with fail
    refine (pattern_any _ g B most _ _ _ _ s23).mono ?_
    rintro e w24 ⟨v24, rfl, o24, hb24⟩
    have sb24 := o24.sb s23.bp s23.len2P
    obtain ⟨a24, m24, c24, rfl⟩ := sb24.shape
    have s23' := s23.below hb24
    have kq := kq.below hb24
    have hbel := hbel.trans (hb24.mono hbel.size)
    clear o24 hb24 s23
    go_wp2_with fail
    refine (eqBytes_any _ _ _ _ _ sb24 (kq.sb hqB.out hql)).mono ?_
    rw [decide_eq_true rfl]
    rintro e w24' ⟨rfl, n24, rfl⟩
    have s24 := s23'.drewN n24
    have kq := kq.drewN n24
    have hbel := below_drewN hbel n24
    clear sb24 s23'
    go_wp2_with fail
    go_ret
    exact ⟨rfl, hbel⟩
  · have hr1 : most < (n1 : Int) + 1 + (n2 : Int) := by omega
    go_wp2_with fail
    refine (doExch_any _ g B most _ _ _ _ s5).mono ?_
    intro e w25 hP
    obtain ⟨rfl, pv25, hv25, s25, st25⟩ := hP.get
    have hbel := st25.bel _ _ hbel hB0
    clear hP st25 s5
    go_wp2_with fail
    refine (pattern_any _ g B most _ _ _ _ s25).mono ?_
    rintro e w26 ⟨v26, rfl, o26, hb26⟩
    have sb26 := o26.sb s25.bp s25.len2P
    obtain ⟨a26, m26, c26, rfl⟩ := sb26.shape
    have s25' := s25.below hb26
    have hbel := hbel.trans (hb26.mono hbel.size)
    clear o26 hb26 s25
    go_wp2_with fail
    refine (eqBytes_any _ _ _ _ _ sb26 (sh.below hbel)).mono ?_
    rw [decide_eq_true rfl]
    rintro e w26' ⟨rfl, n26, rfl⟩
    have s26 := s25'.drewN n26
    have hbel := below_drewN hbel n26
    clear sb26 s25'
    go_wp2_with fail
    refine (hold_any _ g B most _ _ _ _ s26).mono ?_
    rintro e w27 ⟨v27, rfl, o27, hb27⟩
    have sb27 := o27.sb s26.bh s26.len2H
    obtain ⟨a27, m27, c27, rfl⟩ := sb27.shape
    have s26' := s26.below hb27
    have hbel := hbel.trans (hb27.mono hbel.size)
    clear o27 hb27 s26
    go_wp2_with fail
    refine (eqBytes_any _ _ _ _ _ sb27 (sp.below hbel)).mono ?_
    rw [decide_eq_true rfl]
    rintro e w27' ⟨rfl, n27, rfl⟩
    have s27 := s26'.drewN n27
    have hbel := below_drewN hbel n27
    clear sb27 s26'
    go_wp2_with fail
    refine (doExch_any _ g B most _ _ _ _ s27).mono ?_
    intro e w28 hP
    obtain ⟨rfl, pv28, hv28, s28, st28⟩ := hP.get
    have hbel := st28.bel _ _ hbel hB0
    clear hP st28 s27
    go_wp2_with fail
    refine (pattern_any _ g B most _ _ _ _ s28).mono ?_
    rintro e w29 ⟨v29, rfl, o29, hb29⟩
    have sb29 := o29.sb s28.bp s28.len2P
    obtain ⟨a29, m29, c29, rfl⟩ := sb29.shape
    have s28' := s28.below hb29
    have hbel := hbel.trans (hb29.mono hbel.size)
    clear o29 hb29 s28
    go_wp2_with fail
    refine (eqBytes_any _ _ _ _ _ sb29 (sp.below hbel)).mono ?_
    rw [decide_eq_true rfl]
    rintro e w29' ⟨rfl, n29, rfl⟩
    have s29 := s28'.drewN n29
    have hbel := below_drewN hbel n29
    clear sb29 s28'
    go_wp2_with fail
    refine (hold_any _ g B most _ _ _ _ s29).mono ?_
    rintro e w30 ⟨v30, rfl, o30, hb30⟩
    have sb30 := o30.sb s29.bh s29.len2H
    obtain ⟨a30, m30, c30, rfl⟩ := sb30.shape
    have s29' := s29.below hb30
    have hbel := hbel.trans (hb30.mono hbel.size)
    clear o30 hb30 s29
    go_wp2_with fail
    refine (eqBytes_any _ _ _ _ _ sb30 (sh.below hbel)).mono ?_
    rw [decide_eq_true rfl]
    rintro e w30' ⟨rfl, n30, rfl⟩
    have s30 := s29'.drewN n30
    have hbel := below_drewN hbel n30
    clear sb30 s29'
    go_wp2_with fail
    have hbC := hbel
    refine (copy_any _ _ p (sp.below hbel)).mono ?_
    rintro e x1 ⟨vp1, rfl, op1, hx1⟩
    have hbx1 := hx1.size
    have hl1 := Lib.hid hpl
    go_wp2_with (at_builtin; refine append_b1 rfl (.tmp 126) (.tmp 127) rfl _ _ p 10 rfl op1 rfl (by rw [hpl.out]; omega) hbx1 ?_)
    intro vp2 x2 op2 hA2
    have hx2 := hA2.bel _ _ hx1 (Nat.le_refl _)
    have hbx2 := hx2.size
    clear op1 hx1 hA2 hbx1
    go_wp2_with (at_builtin; refine append_sbp rfl (.tmp 129) (.tmp 130) rfl _ _ (p ++ [10]) h a2 n2 c2 rfl op2 rfl hN2.out (sh.below (hbel.trans (hx2.mono hbel.size))) (by rw [List.length_append, hpl.out]; simp; omega) hbx2 ?_)
    intro vp3 x3 op3 hA3
    have hx3 := hA3.bel _ _ hx2 (Nat.le_refl _)
    clear op2 hx2 hA3 hbx2
    have op3 := op3.assoc
    have kp := Keep.made s30 op3
    have s30x := s30.below hx3
    have hbel := hbel.trans (hx3.mono hbel.size)
    clear s30 op3 hx3
    go_wp2_with fail
    refine (copy_any _ _ h (sh.below hbel)).mono ?_
    rintro e y1 ⟨vh1, rfl, oh1, hy1⟩
    have hby1 := hy1.size
    go_wp2_with (at_builtin; refine append_b1 rfl (.tmp 134) (.tmp 135) rfl _ _ h 10 rfl oh1 rfl (by rw [hhl.out]; omega) hby1 ?_)
    intro vh2 y2 oh2 hA2
    have hy2 := hA2.bel _ _ hy1 (Nat.le_refl _)
    have hby2 := hy2.size
    clear oh1 hy1 hA2 hby1
    go_wp2_with (at_builtin; refine append_sbp rfl (.tmp 137) (.tmp 138) rfl _ _ (h ++ [10]) p a1 n1 c1 rfl oh2 rfl hN1.out (sp.below (hbel.trans (hy2.mono hbel.size))) (by rw [List.length_append, hhl.out]; simp; omega) hby2 ?_)
    intro vh3 y3 oh3 hA3
    have hy3 := hA3.bel _ _ hy2 (Nat.le_refl _)
    clear oh2 hy2 hA3 hby2
    have oh3 := oh3.assoc
    have kh := Keep.made s30x oh3
    have kp := kp.below hy3
    have s30 := s30x.below hy3
    have hbel := hbel.trans (hy3.mono hbel.size)
    clear s30x oh3 hy3 hbC
    obtain ⟨ap, np, cp, rfl⟩ := kp.shape
    obtain ⟨ah, nh, ch, rfl⟩ := kh.shape
    go_wp2_with fail
    refine ((doMore_no _ g B most _ _ _ _ s30 (by rw [hpl.out, hhl.out]; omega)).2).mono ?_
    intro e w31 hP
    obtain ⟨rfl, pv31, hv31, s31, st31⟩ := hP.get
    have kp := kp.step s30 st31
    have kh := kh.step s30 st31
    have hbel := st31.bel _ _ hbel hB0
    clear hP st31 s30
    go_wp2_with fail
    refine (pattern_any _ g B most _ _ _ _ s31).mono ?_
    rintro e w32 ⟨v32, rfl, o32, hb32⟩
    have sb32 := o32.sb s31.bp s31.len2P
    obtain ⟨a32, m32, c32, rfl⟩ := sb32.shape
    have s31' := s31.below hb32
    have kp := kp.below hb32
    have kh := kh.below hb32
    have hbel := hbel.trans (hb32.mono hbel.size)
    clear o32 hb32 s31
    go_wp2_with fail
    refine (eqBytes_any _ _ _ _ _ sb32 (sp.below hbel)).mono ?_
    rw [decide_eq_true rfl]
    rintro e w32' ⟨rfl, n32, rfl⟩
    have s32 := s31'.drewN n32
    have kp := kp.drewN n32
    have kh := kh.drewN n32
    have hbel := below_drewN hbel n32
    clear sb32 s31'
    go_wp2_with fail
    refine (hold_any _ g B most _ _ _ _ s32).mono ?_
    rintro e w33 ⟨v33, rfl, o33, hb33⟩
    have sb33 := o33.sb s32.bh s32.len2H
    obtain ⟨a33, m33, c33, rfl⟩ := sb33.shape
    have s32' := s32.below hb33
    have kp := kp.below hb33
    have kh := kh.below hb33
    have hbel := hbel.trans (hb33.mono hbel.size)
    clear o33 hb33 s32
    go_wp2_with fail
    refine (eqBytes_any _ _ _ _ _ sb33 (sh.below hbel)).mono ?_
    rw [decide_eq_true rfl]
    rintro e w33' ⟨rfl, n33, rfl⟩
    have s33 := s32'.drewN n33
    have kp := kp.drewN n33
    have kh := kh.drewN n33
    have hbel := below_drewN hbel n33
    clear sb33 s32'
    go_wp2_with fail
    refine (put_yes _ g B most _ _ _ _ s33 a2 n2 c2 h (sh.below hbel) hlh).mono ?_
    intro e w34 hP
    obtain ⟨rfl, pv34, hv34, s34, st34⟩ := hP.get
    have kp := kp.step s33 st34
    have kh := kh.step s33 st34
    have hbel := st34.bel _ _ hbel hB0
    clear hP st34 s33
    go_wp2_with fail
    refine (doKeep_any _ g B most _ _ _ _ s34).mono ?_
    intro e w35 hP
    obtain ⟨rfl, pv35, hv35, s35, st35⟩ := hP.get
    have kp := kp.step s34 st35
    have kh := kh.step s34 st35
    have hbel := st35.bel _ _ hbel hB0
    clear hP st35 s34
    go_wp2_with fail
    refine (put_yes _ g B most _ _ _ _ s35 a1 n1 c1 p (sp.below hbel) hlp).mono ?_
    intro e w36 hP
    obtain ⟨rfl, pv36, hv36, s36, st36⟩ := hP.get
    have kp := kp.step s35 st36
    have kh := kh.step s35 st36
    have hbel := st36.bel _ _ hbel hB0
    clear hP st36 s35
    go_wp2_with fail
    refine ((doMore_no _ g B most _ _ _ _ s36 (by rw [hpl.out, hhl.out]; omega)).1).mono ?_
    intro e w37 hP
    obtain ⟨rfl, pv37, hv37, s37, st37⟩ := hP.get
    have kp := kp.step s36 st37
    have kh := kh.step s36 st37
    have hbel := st37.bel _ _ hbel hB0
    clear hP st37 s36
    go_wp2_with fail
    refine (hold_any _ g B most _ _ _ _ s37).mono ?_
    rintro e w38 ⟨v38, rfl, o38, hb38⟩
    have sb38 := o38.sb s37.bh s37.len2H
    obtain ⟨a38, m38, c38, rfl⟩ := sb38.shape
    have s37' := s37.below hb38
    have kp := kp.below hb38
    have kh := kh.below hb38
    have hbel := hbel.trans (hb38.mono hbel.size)
    clear o38 hb38 s37
    go_wp2_with fail
    refine (eqBytes_any _ _ _ _ _ sb38 (sh.below hbel)).mono ?_
    rw [decide_eq_true rfl]
    rintro e w38' ⟨rfl, n38, rfl⟩
    have s38 := s37'.drewN n38
    have kp := kp.drewN n38
    have kh := kh.drewN n38
    have hbel := below_drewN hbel n38
    clear sb38 s37'
    go_wp2_with fail
    refine (pattern_any _ g B most _ _ _ _ s38).mono ?_
    rintro e w39 ⟨v39, rfl, o39, hb39⟩
    have sb39 := o39.sb s38.bp s38.len2P
    obtain ⟨a39, m39, c39, rfl⟩ := sb39.shape
    have s38' := s38.below hb39
    have kp := kp.below hb39
    have kh := kh.below hb39
    have hbel := hbel.trans (hb39.mono hbel.size)
    clear o39 hb39 s38
    go_wp2_with fail
    refine (eqBytes_any _ _ _ _ _ sb39 (sp.below hbel)).mono ?_
    rw [decide_eq_true rfl]
    rintro e w39' ⟨rfl, n39, rfl⟩
    have s39 := s38'.drewN n39
    have kp := kp.drewN n39
    have kh := kh.drewN n39
    have hbel := below_drewN hbel n39
    clear sb39 s38'
    clear kp kh
    go_wp2_with fail
    refine (doKeep_any _ g B most _ _ _ _ s39).mono ?_
    intro e w40 hP
    obtain ⟨rfl, pv40, hv40, s40, st40⟩ := hP.get
    have hbel := st40.bel _ _ hbel hB0
    clear hP st40 s39
    go_wp2_with fail
    refine (hold_any _ g B most _ _ _ _ s40).mono ?_
    rintro e w41 ⟨v41, rfl, o41, hb41⟩
    have kq := Keep.made s40 o41
    have hqB := Lib.hid s40.bh
    have hql := s40.len2H
    have s41 := s40.below hb41
    have hbel := hbel.trans (hb41.mono hbel.size)
    clear s40 o41 hb41
    obtain ⟨aq, nq, cq, rfl⟩ := kq.shape
    go_wp2_with fail
    refine (doGet_any _ g B most _ _ _ _ s41).mono ?_
    intro e w42 hP
    obtain ⟨rfl, pv42, hv42, s42, st42⟩ := hP.get
    have kq := kq.step s41 st42
    have hbel := st42.bel _ _ hbel hB0
    clear hP st42 s41
    go_wp2_with fail
    refine (pattern_any _ g B most _ _ _ _ s42).mono ?_
    rintro e w43 ⟨v43, rfl, o43, hb43⟩
    have sb43 := o43.sb s42.bp s42.len2P
    obtain ⟨a43, m43, c43, rfl⟩ := sb43.shape
    have s42' := s42.below hb43
    have kq := kq.below hb43
    have hbel := hbel.trans (hb43.mono hbel.size)
    clear o43 hb43 s42
    go_wp2_with fail
    refine (eqBytes_any _ _ _ _ _ sb43 (kq.sb hqB.out hql)).mono ?_
    rw [decide_eq_true rfl]
    rintro e w43' ⟨rfl, n43, rfl⟩
    have s43 := s42'.drewN n43
    have kq := kq.drewN n43
    have hbel := below_drewN hbel n43
    clear sb43 s42'
    go_wp2_with fail
    go_ret
    exact ⟨rfl, hbel⟩
end Go.Proofs.Ytadjonggmbndmaa
