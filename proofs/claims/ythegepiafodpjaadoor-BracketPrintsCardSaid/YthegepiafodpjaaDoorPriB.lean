/-
  BracketPrints: the walk of the law.
-/
import Derived.Test.YthegepiafodpjaaDoorBrS
import Derived.Test.YthegepiafodpjaaDoorWorks4
import Derived.Test.YthegepiafodpjaaDoorBagAll
namespace Go.Proofs.YthegepiafodpjaaDoor
open Go.RowKit

theorem isM_print4 (c : List Nat) (hc : IsC c) : IsM (sg (printI c)) := isM_sg _ (by
  rw [List.all_eq_true]
  intro x hx
  have := print_no10 c hc x hx
  simpa using this.2)
theorem printI_len4 (c : List Nat) : (sg (printI c)).length ≤ 3000 := by
  have h := upP_len (notP c) (runsP c) (runsP c).length (runsP_len c)
  rw [sg_len, printI_up, List.length_append, List.length_singleton]
  omega
section
variable {W w w' : World} {bg m : Nat} {fs : List Value} {bv : Value} {vs : Nat → Value} {len : Nat → Nat} {C : Nat → List Value}
theorem GM.apartT (h : GM W w bg m fs bv vs len C) (hm : m ≤ 400) (T : Nat → Prop) (hT : ∀ k, T k → k < w.heap.size) (hTV : ∀ j, j < m → FarT T (vs j)) :
    Calls Tryd.prog 19 #[.pointer (some ⟨bg, 0, none⟩)] w fun e w' => e = .returned (.bool true) ∧ Below W.heap.size W w' ∧ ∀ k, T k → w'.heap[k]? = w.heap[k]? :=
  (apart_marks T w W.heap.size bg m fs bv vs len C h.bag h.z h.kd hm h.bel.size hT hTV).mono fun _ _ ⟨e, f⟩ => ⟨e, f.bel _ _ h.bel (Nat.le_refl _), f.kept⟩
end
/-- What is there behind the four Prints: a, b, x and want. -/
structure PX (W w : World) (lc ld : List Mk) (va vb vx vw : Value) : Prop where
  bel : Below W.heap.size W w
  a : OwnM w W.heap.size va lc
  b : OwnM w W.heap.size vb ld
  x : OwnM w W.heap.size vx lc
  o : OwnM w W.heap.size vw lc
  ab : Apart va vb
  ax : Apart va vx
  bx : Apart vb vx
  aw : Apart va vw
  bw : Apart vb vw
  xw : Apart vx vw
theorem PX.below {W w w' : World} {lc ld : List Mk} {va vb vx vw : Value} (h : PX W w lc ld va vb vx vw) (hb : Below w.heap.size w w') : PX W w' lc ld va vb vx vw :=
  { h with bel := h.bel.trans (hb.mono h.bel.size), a := h.a.below hb, b := h.b.below hb, x := h.x.below hb, o := h.o.below hb }
theorem own_apart {w w' : World} {B : Nat} {va vb : Value} {la lb : List Mk} (ha : OwnM w B va la) (hb : OwnM w' w.heap.size vb lb) : Apart va vb := fun k h1 h2 => by
  have := (World.ownsRow.lt ha k h1).2
  have := (World.ownsRow.lt hb k h2).1
  omega

set_option maxHeartbeats 4000000 in
set_option maxRecDepth 100000 in
theorem priB_any (w : World) (hw : W4 w) (c d : List Nat) (hc : IsC c) (hd : IsC d) :
    Calls Tryd.prog 4 #[.agg (row64 c), .agg (row64 d)] w fun e w' => e = .returned (.bool true) ∧ Below w.heap.size w w' := by
  obtain ⟨q0, q1, q2, q3, rfl⟩ := isC_words c hc
  obtain ⟨s0, s1, s2, s3, rfl⟩ := isC_words d hd
  have HCc := Lib.hid hc
  have HCd := Lib.hid hd
  have n1 := heap_alloc_new w (.cells (row64 [q0, q1, q2, q3]) 28)
  have b1 := box1 w (.cells (row64 [q0, q1, q2, q3]) 28)
  have e1 : (w.alloc (.cells (row64 [q0, q1, q2, q3]) 28)).heap.size = w.heap.size + 1 := by simp
  have n2 := heap_alloc_new (w.alloc (.cells (row64 [q0, q1, q2, q3]) 28)) (.cells (row64 [s0, s1, s2, s3]) 28)
  have b2 := box1 (w.alloc (.cells (row64 [q0, q1, q2, q3]) 28)) (.cells (row64 [s0, s1, s2, s3]) 28)
  rw [e1] at n2
  have n1 := heap_b b2 n1
  have b12 := b1.trans (b2.mono b1.size)
  have hsz : w.heap.size + 2 ≤ ((w.alloc (.cells (row64 [q0, q1, q2, q3]) 28)).alloc (.cells (row64 [s0, s1, s2, s3]) 28)).heap.size := by have := (Array.getElem?_eq_some_iff.1 n2).1; omega
  have HW := Lib.hid (hw.below b12)
  obtain ⟨g, hg⟩ : ∃ g, w.heap.size = g := ⟨_, rfl⟩
  rw [hg] at n1 n2
  have HWS := Lib.hid b12
  have HN1 := Lib.hid n1
  have HN2 := Lib.hid n2
  have HSZ := Lib.hid hsz
  have HG := Lib.hid hg
  clear hw hc hd n1 n2 b1 b2 b12 e1 hsz
  rw [show row64 [q0, q1, q2, q3] = #[.int .u64 (q0 : Int), .int .u64 (q1 : Int), .int .u64 (q2 : Int), .int .u64 (q3 : Int)] from rfl] at *
  rw [show row64 [s0, s1, s2, s3] = #[.int .u64 (s0 : Int), .int .u64 (s1 : Int), .int .u64 (s2 : Int), .int .u64 (s3 : Int)] from rfl] at *
  go_enter Tryd.func4, Tryd.ntmps4
  go_upto_region 1 with fail
  clear hg
  generalize (w.alloc (.cells #[.int .u64 (q0 : Int), .int .u64 (q1 : Int), .int .u64 (q2 : Int), .int .u64 (q3 : Int)] 28)).alloc (.cells #[.int .u64 (s0 : Int), .int .u64 (s1 : Int), .int .u64 (s2 : Int), .int .u64 (s3 : Int)] 28) = W at HW HWS HN1 HN2 HSZ ⊢
  have HBC : Hid (∀ w', Below W.heap.size W w' → w'.heap[g]? = some (.cells (row64 [q0, q1, q2, q3]) 28 (0, 0))) := Lib.hid fun w' hb => heap_b hb HN1.out
  have HBD : Hid (∀ w', Below W.heap.size W w' → w'.heap[g + 1]? = some (.cells (row64 [s0, s1, s2, s3]) 28 (0, 0))) := Lib.hid fun w' hb => heap_b hb HN2.out
  clear HN1 HN2
  obtain ⟨lc, hlc⟩ : ∃ lc, sg (printI [q0, q1, q2, q3]) = lc := ⟨_, rfl⟩
  obtain ⟨ld, hld⟩ : ∃ ld, sg (printI [s0, s1, s2, s3]) = ld := ⟨_, rfl⟩
  have HPC : Hid (∀ w, OddW w → Calls Tryd.prog 16 #[.agg #[.int .u64 (q0 : Int), .int .u64 (q1 : Int), .int .u64 (q2 : Int), .int .u64 (q3 : Int)]] w fun e w' => ∃ v, e = .returned v ∧ OwnM w' w.heap.size v lc ∧ Below w.heap.size w w') := Lib.hid (fun w hw => by rw [← hlc]; exact print_any w hw _ HCc.out)
  have HPD : Hid (∀ w, OddW w → Calls Tryd.prog 16 #[.agg #[.int .u64 (s0 : Int), .int .u64 (s1 : Int), .int .u64 (s2 : Int), .int .u64 (s3 : Int)]] w fun e w' => ∃ v, e = .returned v ∧ OwnM w' w.heap.size v ld ∧ Below w.heap.size w w') := Lib.hid (fun w hw => by rw [← hld]; exact print_any w hw _ HCd.out)
  have HRC : Hid (∀ w, Calls Tryd.prog 17 #[.agg #[.int .u64 (q0 : Int), .int .u64 (q1 : Int), .int .u64 (q2 : Int), .int .u64 (q3 : Int)]] w fun e w' => ∃ v, e = .returned v ∧ OwnM w' w.heap.size v lc ∧ Below w.heap.size w w') := Lib.hid (fun w => by rw [← hlc]; exact refPrint_any w _ HCc.out)
  have HRD : Hid (∀ w, Calls Tryd.prog 17 #[.agg #[.int .u64 (s0 : Int), .int .u64 (s1 : Int), .int .u64 (s2 : Int), .int .u64 (s3 : Int)]] w fun e w' => ∃ v, e = .returned v ∧ OwnM w' w.heap.size v ld ∧ Below w.heap.size w w') := Lib.hid (fun w => by rw [← hld]; exact refPrint_any w _ HCd.out)
  have HIC : Hid (IsM lc ∧ lc.length ≤ 3000) := Lib.hid ⟨hlc ▸ isM_print4 _ HCc.out, hlc ▸ printI_len4 _⟩
  have HID : Hid (IsM ld ∧ ld.length ≤ 3000) := Lib.hid ⟨hld ▸ isM_print4 _ HCd.out, hld ▸ printI_len4 _⟩
  clear hlc hld HCc HCd n1
  have HLC : Hid (lc.length ≤ 70368744175616) := Lib.hid (by have := HIC.out.2; omega)
  have HLD : Hid (ld.length ≤ 70368744175616) := Lib.hid (by have := HID.out.2; omega)
  go_wp2_with fail
  refine (works4_any W HW.out).mono ?_
  rintro e w1 ⟨rfl, b1⟩
  have B1 := Lib.hid b1
  clear b1
  obtain ⟨c0, c1, c2, c3⟩ := cells4r (HBC.out w1 B1.out)
  go_wp2_with fail
  refine (HPC.out w1 (HW.out.below B1.out).od).mono ?_
  rintro e w2 ⟨va, rfl, o, b⟩
  obtain ⟨aa, ca, rfl, -⟩ := o.shape
  have OA := Lib.hid (o.mono B1.out.size)
  have B2 := Lib.hid (B1.out.trans (b.mono B1.out.size))
  clear c0 c1 c2 c3 o b B1
  obtain ⟨c0, c1, c2, c3⟩ := cells4r (HBD.out w2 B2.out)
  go_wp2_with fail
  refine (HPD.out w2 (HW.out.below B2.out).od).mono ?_
  rintro e w3 ⟨vb, rfl, o, b⟩
  obtain ⟨ab, cb, rfl, -⟩ := o.shape
  have OB := Lib.hid (o.mono B2.out.size)
  have B3 := Lib.hid (B2.out.trans (b.mono B2.out.size))
  have AB := Lib.hid (own_apart OA.out o)
  have OA := Lib.hid (OA.out.below b)
  clear c0 c1 c2 c3 o b B2
  obtain ⟨c0, c1, c2, c3⟩ := cells4r (HBC.out w3 B3.out)
  go_wp2_with fail
  refine (HPC.out w3 (HW.out.below B3.out).od).mono ?_
  rintro e w4 ⟨vx, rfl, o, b⟩
  obtain ⟨ax, cx, rfl, -⟩ := o.shape
  have OX := Lib.hid (o.mono B3.out.size)
  have B4 := Lib.hid (B3.out.trans (b.mono B3.out.size))
  have AX := Lib.hid (own_apart OA.out o)
  have BX := Lib.hid (own_apart OB.out o)
  have OA := Lib.hid (OA.out.below b)
  have OB := Lib.hid (OB.out.below b)
  clear c0 c1 c2 c3 o b B3
  obtain ⟨c0, c1, c2, c3⟩ := cells4r (HBC.out w4 B4.out)
  go_wp2_with fail
  refine (HRC.out w4).mono ?_
  rintro e w5 ⟨vw, rfl, o, b⟩
  obtain ⟨aw, cw, rfl, -⟩ := o.shape
  have OW := Lib.hid (o.mono B4.out.size)
  have B5 := Lib.hid (B4.out.trans (b.mono B4.out.size))
  have hX : PX W w5 lc ld (.slice aa lc.length ca) (.slice ab ld.length cb) (.slice ax lc.length cx) (.slice aw lc.length cw) :=
    ⟨B5.out, OA.out.below b, OB.out.below b, OX.out.below b, OW.out, AB.out, AX.out, BX.out, own_apart OA.out o, own_apart OB.out o, own_apart OX.out o⟩
  have HX := Lib.hid hX
  clear c0 c1 c2 c3 o b B4 B5 OA OB OX OW AB AX BX hX
  go_wp2_with fail
  refine (eqMarks_any w5 _ _ lc lc (OwnM.sm HX.out.a HIC.out.1 HLC.out) (OwnM.sm HX.out.o HIC.out.1 HLC.out)).mono ?_
  rw [show decide (lc = lc) = true by simp]
  rintro e w6 ⟨rfl, n, rfl⟩
  have HX := Lib.hid (HX.out.below (below_drewN (Below.refl _ _) n))
  generalize w5.drewN n = w6 at HX ⊢
  go_wp2_with fail
  refine (eqMarks_any w6 _ _ lc lc (OwnM.sm HX.out.x HIC.out.1 HLC.out) (OwnM.sm HX.out.o HIC.out.1 HLC.out)).mono ?_
  rw [show decide (lc = lc) = true by simp]
  rintro e w7 ⟨rfl, n, rfl⟩
  have HX := Lib.hid (HX.out.below (below_drewN (Below.refl _ _) n))
  generalize w6.drewN n = w7 at HX ⊢
  obtain ⟨c0, c1, c2, c3⟩ := cells4r (HBD.out w7 HX.out.bel)
  go_wp2_with fail
  refine (HRD.out w7).mono ?_
  rintro e w8 ⟨vd, rfl, o, b⟩
  have HX := Lib.hid (HX.out.below b)
  have HD := Lib.hid o
  clear c0 c1 c2 c3 o b
  go_wp2_with fail
  refine (eqMarks_any w8 _ _ ld ld (OwnM.sm HX.out.b HID.out.1 HLD.out) (OwnM.sm HD.out HID.out.1 HLD.out)).mono ?_
  rw [show decide (ld = ld) = true by simp]
  rintro e w9 ⟨rfl, n, rfl⟩
  have HX := Lib.hid (HX.out.below (below_drewN (Below.refl _ _) n))
  generalize w8.drewN n = w9 at HX ⊢
  clear HD
  have hb := (Below.refl w9.heap.size w9).alloc (Nat.le_refl _) bagZero
  have HGM := Lib.hid (GM.start HX.out.bel)
  have HX := Lib.hid (HX.out.below hb)
  clear hb
  obtain ⟨bg, hbg⟩ : ∃ bg, w9.heap.size = bg := ⟨_, rfl⟩
  rw [hbg] at HGM
  go_upto_region 9 with fail
  change Code.wp _ _ _ _ (w9.alloc bagZero)
  generalize w9.alloc bagZero = w10 at HGM HX ⊢
  clear hbg
  have HA := Lib.hid (HGM.out.add (by omega) HX.out.a HLC.out (fun j hj => absurd hj (Nat.not_lt_zero _)))
  go_wp2_with fail
  refine HA.out.mono ?_
  rintro e w11 ⟨rfl, hk, fs, bv, hG⟩
  have HGM := Lib.hid hG
  have HOB := Lib.hid (hk.own HX.out.b)
  have HOX := Lib.hid (hk.own HX.out.x)
  have HOW := Lib.hid (hk.own HX.out.o)
  clear hk hG HA
  have HA := Lib.hid (HGM.out.add (by omega) HOB.out HLD.out (fun j hj => by
    obtain rfl : j = 0 := by omega
    rw [snoc_same]
    exact HX.out.ab))
  go_wp2_with fail
  refine HA.out.mono ?_
  rintro e w12 ⟨rfl, hk, fs, bv, hG⟩
  have HGM := Lib.hid hG
  have HOX := Lib.hid (hk.own HOX.out)
  have HOW := Lib.hid (hk.own HOW.out)
  clear hk hG HA HOB
  have HA := Lib.hid (HGM.out.add (by omega) HOX.out HLC.out (fun j hj => by
    rcases (by omega : j = 0 ∨ j = 1) with rfl | rfl
    · rw [snoc_lt _ _ (by omega), snoc_same]
      exact HX.out.ax
    · rw [snoc_same]
      exact HX.out.bx))
  go_wp2_with fail
  refine HA.out.mono ?_
  rintro e w13 ⟨rfl, hk, fs, bv, hG⟩
  have HGM := Lib.hid hG
  have HOW := Lib.hid (hk.own HOW.out)
  clear hk hG HA HOX
  have HA := Lib.hid (HGM.out.apartT (by omega) (fun k => (Value.slice aw lc.length cw).ownBlock = some k) (fun k hk => (World.ownsRow.lt HOW.out k hk).2) (fun j hj k hk => by
    rcases (by omega : j = 0 ∨ j = 1 ∨ j = 2) with rfl | rfl | rfl
    · rw [snoc_lt _ _ (by omega), snoc_lt _ _ (by omega), snoc_same]
      exact fun h => HX.out.aw k h hk
    · rw [snoc_lt _ _ (by omega), snoc_same]
      exact fun h => HX.out.bw k h hk
    · rw [snoc_same]
      exact fun h => HX.out.xw k h hk))
  go_wp2_with fail
  refine HA.out.mono ?_
  rintro e w14 ⟨rfl, hb, hk⟩
  have HB := Lib.hid hb
  have HOW := Lib.hid (own_blk HOW.out hk)
  clear hb hk HA HGM
  obtain ⟨c0, c1, c2, c3⟩ := cells4r (HBC.out w14 HB.out)
  go_wp2_with fail
  refine (HPC.out w14 (HW.out.below HB.out).od).mono ?_
  rintro e w15 ⟨vz, rfl, o, b⟩
  have HZ := Lib.hid o
  have HOW := Lib.hid (OwnM.below HOW.out b)
  have HB := Lib.hid (HB.out.trans (b.mono HB.out.size))
  clear c0 c1 c2 c3 o b
  go_wp2_with fail
  refine (eqMarks_any w15 _ _ lc lc (OwnM.sm HZ.out HIC.out.1 HLC.out) (OwnM.sm HOW.out HIC.out.1 HLC.out)).mono ?_
  rw [show decide (lc = lc) = true by simp]
  rintro e w16 ⟨rfl, n, rfl⟩
  have HB := Lib.hid (below_drewN HB.out n)
  generalize w15.drewN n = w16 at HB ⊢
  clear HZ HOW HX
  go_wp2_with fail
  go_ret
  exact ⟨rfl, HWS.out.trans (HB.out.mono (by have := HSZ.out; omega))⟩
end Go.Proofs.YthegepiafodpjaaDoor
