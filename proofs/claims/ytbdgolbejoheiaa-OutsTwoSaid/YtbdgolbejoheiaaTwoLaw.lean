/-
  OutsTwo: two outputs, written to by turns, hand on what each would alone.
-/
import Derived.Test.YtbdgolbejoheiaaTwoM
namespace Go.Proofs.Ytbdgolbejoheiaa
open Go.RowKit

def three (W : World) : World := ((W.alloc (.cells (sinkNew 0 0).toArray TSink)).alloc (.cells (sinkNew 0 0).toArray TSink)).alloc (.cells (sinkNew 0 0).toArray TSink)
theorem three_at (W : World) : At (three W) W.heap.size TSink (sinkNew 0 0) ∧ At (three W) (W.heap.size + 1) TSink (sinkNew 0 0) ∧ At (three W) (W.heap.size + 1 + 1) TSink (sinkNew 0 0) ∧ Below W.heap.size W (three W) ∧ (three W).heap.size = W.heap.size + 1 + 1 + 1 := by
  unfold three
  have h1 := At.new W TSink (sinkNew 0 0)
  have h2 := At.new (W.alloc (.cells (sinkNew 0 0).toArray TSink)) TSink (sinkNew 0 0)
  have h3 := At.new ((W.alloc (.cells (sinkNew 0 0).toArray TSink)).alloc (.cells (sinkNew 0 0).toArray TSink)) TSink (sinkNew 0 0)
  have b2 := (Below.refl _ (W.alloc (.cells (sinkNew 0 0).toArray TSink))).alloc (Nat.le_refl _) (.cells (sinkNew 0 0).toArray TSink)
  have b3 := (Below.refl _ ((W.alloc (.cells (sinkNew 0 0).toArray TSink)).alloc (.cells (sinkNew 0 0).toArray TSink))).alloc (Nat.le_refl _) (.cells (sinkNew 0 0).toArray TSink)
  refine ⟨(h1.below b2).below b3, ?_, ?_, (((Below.refl W.heap.size W).alloc (Nat.le_refl _) _).alloc (by simp) _).alloc (by simp; omega) _, by simp⟩
  · rw [World.size_alloc] at h2
    exact h2.below b3
  · rw [World.size_alloc, World.size_alloc] at h3
    exact h3

set_option maxHeartbeats 4000000 in
set_option maxRecDepth 100000 in
theorem two_walk (W : World) (x0 x1 : Int) (a : Option Addr) (n c : Nat) (r : List Stp) (hS : OS W (.slice a n c) r) : Calls Try.prog 6 #[.int .i64 x0, .int .i64 x1, .slice a n c] W fun e w' => e = .returned (.bool true) ∧ Below W.heap.size W w' := by
  obtain ⟨hl, hn, -, -⟩ := hS.len
  subst hl
  have hL := Lib.hid (longO_any _ _ _ _ _ hS)
  have HS := Lib.hid hS
  obtain ⟨k1, k2, k3, hb3, hs3⟩ := three_at W
  have HK := Lib.hid (And.intro k1 (And.intro k2 k3))
  have HB3 := Lib.hid hb3
  have hWs : W.heap.size < (three W).heap.size := by omega
  have Hs3 := Lib.hid hs3
  have hW1 : W.heap.size + 1 + 1 ≤ (three W).heap.size := by omega
  clear hS k1 k2 k3 hb3 hs3
  go_enter Try.func6, Try.ntmps6
  go_wp2_with fail
  refine hL.out.mono ?_
  rintro e w' ⟨bl, rfl, rfl, htot⟩
  have Htot := Lib.hid htot
  clear htot hL
  cases bl with
  | true =>
    go_wp2_with fail
    go_ret
    exact ⟨rfl, Below.refl _ _⟩
  | false =>
    have htl := Htot.out rfl
    clear Htot
    go_upto_region 6 with fail
    have e0 : ((W.alloc (.cells #[.pointer none, .string { data := #[] }, .int .i64 0, .int .i64 0, .int .i64 0, .slice none 0 0, .slice none 0 0] 40)).alloc (.cells #[.pointer none, .string { data := #[] }, .int .i64 0, .int .i64 0, .int .i64 0, .slice none 0 0, .slice none 0 0] 40)).alloc (.cells #[.pointer none, .string { data := #[] }, .int .i64 0, .int .i64 0, .int .i64 0, .slice none 0 0, .slice none 0 0] 40) = three W := rfl
    rw [e0]
    clear e0
    generalize three W = W3 at HK HB3 hWs Hs3 hW1 ⊢
    by_cases hab : x0 < 0 ∨ x1 < 0
    · have H1 := Lib.hid (new_either W3 _ x0 0 0 HK.out.1)
      go_wp2_with fail
      refine H1.out.mono ?_
      rintro e w4 ⟨p4, er4, rfl, he4, hb4⟩
      have H2 := Lib.hid (new_either w4 _ x1 0 0 (HK.out.2.1.below hb4))
      have He4 := Lib.hid he4
      have HB4 := Lib.hid hb4
      clear he4 hb4 H1
      go_wp2_with fail
      refine H2.out.mono ?_
      rintro e w5 ⟨p5, er5, rfl, he5, hb5⟩
      have H3 := Lib.hid (new_either w5 _ x0 0 0 ((HK.out.2.2.below HB4.out).below hb5))
      have He5 := Lib.hid he5
      have HB5 := Lib.hid (HB3.out.trans ((HB4.out.trans (hb5.mono HB4.out.size)).mono HB3.out.size))
      clear he5 hb5 H2 HB4 HK HB3
      go_wp2_with fail
      refine H3.out.mono ?_
      rintro e w6 ⟨p6, er6, rfl, -, hb6⟩
      have HB6 := Lib.hid (HB5.out.trans (hb6.mono HB5.out.size))
      have HWk := Lib.hid (works_any w6)
      clear hb6 H3 HB5
      by_cases ha : x0 < 0
      · obtain rfl : er4 = 1 := by rw [He4.out, if_pos ha]
        by_cases hb : x1 < 0
        · obtain rfl : er5 = 1 := by rw [He5.out, if_pos hb]
          clear hab
          go_wp2_with fail
          refine HWk.out.mono ?_
          rintro e w7 ⟨rfl, hb7⟩
          have HP := Lib.hid (HB6.out.trans (hb7.mono HB6.out.size))
          clear hb7
          go_wp2_with fail
          go_ret
          exact ⟨rfl, HP.out⟩
        · obtain rfl : er5 = 0 := by rw [He5.out, if_neg hb]
          clear hab
          go_wp2_with fail
          refine HWk.out.mono ?_
          rintro e w7 ⟨rfl, hb7⟩
          have HP := Lib.hid (HB6.out.trans (hb7.mono HB6.out.size))
          clear hb7
          go_wp2_with fail
          go_ret
          exact ⟨ret_bool (show (!decide (x1 < 0)) = true by rw [decide_eq_false (Int.not_lt.2 hb)]; rfl), HP.out⟩
      · obtain rfl : er4 = 0 := by rw [He4.out, if_neg ha]
        have hb : x1 < 0 := hab.resolve_left ha
        obtain rfl : er5 = 1 := by rw [He5.out, if_pos hb]
        clear hab
        go_wp2_with fail
        refine HWk.out.mono ?_
        rintro e w7 ⟨rfl, hb7⟩
        have HP := Lib.hid (HB6.out.trans (hb7.mono HB6.out.size))
        clear hb7
        go_wp2_with fail
        go_ret
        exact ⟨ret_bool (show (!decide (x0 < 0)) = true by rw [decide_eq_false (Int.not_lt.2 ha)]; rfl), HP.out⟩
    · have ha : ¬ x0 < 0 := fun h => hab (.inl h)
      have hb : ¬ x1 < 0 := fun h => hab (.inr h)
      clear hab
      have H1 := Lib.hid (new_yes W3 W.heap.size _ x0 0 0 (by omega) HK.out.1 (by omega) (by omega))
      go_wp2_with fail
      refine H1.out.mono ?_
      rintro e w4 ⟨rfl, hI4, hb4, hs4⟩
      have hg4 := hb4.size
      have Hs4 := Lib.hid hs4
      have H2 := Lib.hid (new_yes w4 W.heap.size _ x1 0 0 (by omega) (HK.out.2.1.below hb4) (by omega) (by omega))
      have HI4 := Lib.hid hI4
      have HB4 := Lib.hid hb4
      clear hI4 hb4 H1 hs4
      go_wp2_with fail
      refine H2.out.mono ?_
      rintro e w5 ⟨rfl, hI5, hb5, hs5⟩
      have hg5 := hb5.size
      have Hs5 := Lib.hid hs5
      have H3 := Lib.hid (new_yes w5 W.heap.size _ x0 0 0 (by omega) ((HK.out.2.2.below HB4.out).below hb5) (by omega) (by omega))
      have HI4' := Lib.hid (HI4.out.below hb5)
      have HI5 := Lib.hid hI5
      have HB5 := Lib.hid (HB3.out.trans ((HB4.out.trans (hb5.mono HB4.out.size)).mono HB3.out.size))
      clear hI5 hb5 H2 HB4 HI4 HK HB3 hs5
      go_wp2_with fail
      refine H3.out.mono ?_
      rintro e w6 ⟨rfl, hI6, hb6, hs6⟩
      have hT : T3 w6 W.heap.size (newSt W3.heap.size W.heap.size x0 0 0) (newSt w4.heap.size (W.heap.size + 1) x1 0 0) (newSt w5.heap.size (W.heap.size + 1 + 1) x0 0 0) := ⟨HI4'.out.below hb6, HI5.out.below hb6, hI6,
        fun k h1 h2 => by have := blk_new h1; have := blk_new h2; have := Hs3.out; have := Hs4.out; have := Hs5.out; omega, fun k h1 h2 => by have := blk_new h1; have := blk_new h2; have := Hs3.out; have := Hs4.out; have := Hs5.out; omega, fun k h1 h2 => by have := blk_new h1; have := blk_new h2; have := Hs3.out; have := Hs4.out; have := Hs5.out; omega⟩
      have hTI : TI W w6 W3.heap.size w4.heap.size w5.heap.size W.heap.size (W.heap.size + 1) (W.heap.size + 1 + 1) x0 x1 r 0 (newSt W3.heap.size W.heap.size x0 0 0) (newSt w4.heap.size (W.heap.size + 1) x1 0 0) (newSt w5.heap.size (W.heap.size + 1 + 1) x0 0 0) :=
        ⟨hT, HB5.out.trans (hb6.mono HB5.out.size), ⟨rfl, rfl, rfl, rfl, rfl⟩, ⟨rfl, rfl, rfl, rfl, rfl⟩, ⟨rfl, rfl, rfl, rfl, rfl⟩, rfl, by simp [BD, newSt, totK], by simp [BD, newSt, totK], by simp [BD, newSt]⟩
      clear hT hI6 hb6 H3 HB5 HI5 HI4' hs6
      clear Hs3 Hs4 Hs5 hWs hW1 hg4 hg5
      generalize W3.heap.size = bo at hTI ⊢
      generalize w4.heap.size = bp at hTI ⊢
      generalize w5.heap.size = bq at hTI ⊢
      go_wp2_with fail
      go_loopw [16] (fun i wr => ∃ (k : Nat) (x y z : OSt), k ≤ r.length ∧ i = .int .i64 k ∧ TI W wr bo bp bq W.heap.size (W.heap.size + 1) (W.heap.size + 1 + 1) x0 x1 r k x y z) (fun i _ => r.length - (intOf i).toNat)
      case atStart => exact ⟨0, _, _, _, Nat.zero_le _, rfl, hTI⟩
      case round =>
        obtain ⟨k, x, y, z, hk, rfl, hI⟩ := hrel
        clear hTI
        have hg := hI.bel.size
        by_cases hlt : k < r.length
        · obtain ⟨b, o, rfl, hc⟩ := (HS.out.below hI.bel).read k hlt
          obtain ⟨c0, ad, pn, pc, c1, hR⟩ := hc k hlt
          obtain ⟨R, hRe⟩ : ∃ R, (r[k]?.getD (false, [])).2 = R := ⟨_, rfl⟩
          have htk : tot1 (r[k]?.getD (false, [])) = R.length + R.flatten.length := by unfold tot1; rw [hRe]
          rw [hRe] at hR
          generalize (r[k]?.getD (false, [])).1 = fl at c0
          have htk1 := totK_le r (k + 1) hlt
          have hs1 := totK_succ r k hlt
          rw [htk] at hs1
          have htb : totK r k + (R.length + R.flatten.length) ≤ 2147483647 ∧ r.length ≤ 2147483647 := by unfold totL at htl; omega
          have hfx := hI.bx.fits (by omega) (by omega)
          have hfy := hI.by'.fits (by omega) (by omega)
          have hfz := hI.bz.fits (by omega) (by omega)
          have HI := Lib.hid hI
          have Hs1 := Lib.hid hs1
          have HR := Lib.hid hR
          have HRe := Lib.hid hRe
          clear hc hRe htk hs1 htk1 hI hR
          cases fl with
          | true =>
            have HF1 := Lib.hid (flush_yes wr W.heap.size x HI.out.t.hx hg (by omega) hfx.2.1 hfx.2.2)
            rw [HI.out.xo.1, HI.out.xo.2.2.2.1, HI.out.xo.2.2.2.2] at HF1
            clear c1
            go_wp2_with fail
            refine HF1.out.mono ?_
            rintro e w1 ⟨rfl, x', hSx, hOx, hIx, hUx⟩
            have hT1 := HI.out.t.stepx hIx hUx
            have hB1 := hUx.bel _ _ HI.out.bel (Nat.le_refl _)
            have hcx := flush_sc (s := x) (s' := x') (by rw [HI.out.xo.2.2.2.1, HI.out.xo.2.2.2.2]; exact hOx)
            have HF2 := Lib.hid (flush_yes w1 W.heap.size z hT1.hz hB1.size (by omega) hfz.2.1 hfz.2.2)
            rw [HI.out.zo.1, HI.out.zo.2.2.2.1, HI.out.zo.2.2.2.2] at HF2
            have HX := Lib.hid (And.intro hSx (And.intro hOx (And.intro hcx hT1)))
            have HB1 := Lib.hid hB1
            clear hSx hOx hIx hUx hT1 hcx HF1 c0 hB1
            go_wp2_with fail
            refine HF2.out.mono ?_
            rintro e w2 ⟨rfl, z', hSz, hOz, hIz, hUz⟩
            have hT2 := HX.out.2.2.2.stepz hIz hUz
            have hB2 := hUz.bel _ _ HB1.out (Nat.le_refl _)
            have hcz := flush_sc (s := z) (s' := z') (by rw [HI.out.zo.2.2.2.1, HI.out.zo.2.2.2.2]; exact hOz)
            have HN : Hid (TI W w2 bo bp bq W.heap.size (W.heap.size + 1) (W.heap.size + 1 + 1) x0 x1 r (k + 1) x' y z') := Lib.hid ⟨hT2, hB2, HX.out.1.five HI.out.xo, HI.out.yo, hSz.five HI.out.zo,
              by rw [HX.out.2.1, hOz, HI.out.om], (HI.out.bx.next HX.out.2.2.1).mono (by have := Hs1.out; omega) (Nat.le_refl _), (HI.out.bz.next hcz).mono (by have := Hs1.out; omega) (Nat.le_refl _), HI.out.by'.mono (by omega) (by omega)⟩
            clear hSz hOz hIz hUz hT2 hB2 hcz HF2 HX HB1
            go_wp2_with fail
            go_roundw
            case rel => exact ⟨k + 1, x', y, z', by omega, by go_num, HN.out⟩
            case measure => simp [intOf]; omega
          | false =>
            have hRl : R.length ≤ 5864062014805 := by omega
            have HC := Lib.hid (copyRows_any wr (.slice ad pn pc) R HR.out)
            go_wp2_with fail
            refine HC.out.mono ?_
            rintro e wa ⟨va, vsa, rfl, hRw, hba⟩
            have hTa := HI.out.t.below hba
            have hga := hba.size
            have HW1 := Lib.hid (write_yes wa W.heap.size x hTa.hx (by omega) _ va R (hRw.rbs hRl) (fun j hj => ⟨hj.2, fun hm => by have := (HI.out.t.hx.lt j (.inl hm)).1; omega⟩) (by omega) hfx.2.1 hfx.2.2)
            rw [HI.out.xo.1, HI.out.xo.2.2.1, HI.out.xo.2.2.2.1, HI.out.xo.2.2.2.2] at HW1
            have HTa := Lib.hid hTa
            have HBa := Lib.hid (HI.out.bel.trans (hba.mono hg))
            clear hRw hTa hba HC c0 c1
            go_wp2_with fail
            refine HW1.out.mono ?_
            rintro e wb ⟨rfl, x', hSx, hOx, hIx, hUx⟩
            have hTb := HTa.out.stepx hIx hUx
            have hBb := hUx.bel _ _ HBa.out (Nat.le_refl _)
            have hcx := write_sc (s := x) (s' := x') (R := R) (by rw [HI.out.xo.2.2.1, HI.out.xo.2.2.2.1, HI.out.xo.2.2.2.2]; exact hOx)
            have HX := Lib.hid (And.intro hSx (And.intro hOx hcx))
            have HTb := Lib.hid hTb
            have HBb := Lib.hid hBb
            clear hSx hOx hIx hUx hTb hBb hcx HW1 HTa HBa hga
            obtain ⟨q1, q2⟩ := lay1 wb [(k : Int) % 256] (0, 0) (isB_one _ (by omega) (by omega)) (by simp)
            have hTc := HTb.out.below q2
            have hgb := q2.size
            have hgB := HBb.out.size
            have HW2 := Lib.hid (write_yes _ W.heap.size y hTc.hy (by omega) _ _ _ q1 (fun j hj => ⟨hj.2, fun hm => by have := (HTb.out.hy.lt j (.inl hm)).1; omega⟩) (by simp; omega) hfy.2.1 hfy.2.2)
            rw [HI.out.yo.1, HI.out.yo.2.2.1, HI.out.yo.2.2.2.1, HI.out.yo.2.2.2.2] at HW2
            have HTc := Lib.hid hTc
            have HBc := Lib.hid (HBb.out.trans (q2.mono hgB))
            clear q1 q2 hTc HTb HBb hgb
            go_wp2_with fail
            refine HW2.out.mono ?_
            rintro e wd ⟨rfl, y', hSy, hOy, hIy, hUy⟩
            have hTd := HTc.out.stepy hIy hUy
            have hBd := hUy.bel _ _ HBc.out (Nat.le_refl _)
            have hcy := write_sc (s := y) (s' := y') (R := [[(k : Int) % 256]]) (by rw [HI.out.yo.2.2.1, HI.out.yo.2.2.2.1, HI.out.yo.2.2.2.2]; exact hOy)
            obtain ⟨b2, o2, hbo2, hc2⟩ := (HS.out.below hBd).read k hlt
            obtain ⟨rfl, rfl⟩ : b = b2 ∧ o = o2 := by simpa using hbo2
            obtain ⟨-, ad2, pn2, pc2, c1, hR2⟩ := hc2 k hlt
            rw [HRe.out] at hR2
            have HC2 := Lib.hid (copyRows_any wd (.slice ad2 pn2 pc2) R hR2)
            have HY := Lib.hid (And.intro hSy hcy)
            have HTd := Lib.hid hTd
            have HBd := Lib.hid hBd
            have hgd := hBd.size
            clear hSy hOy hIy hUy hTd hBd hcy HW2 HTc HBc hc2 hR2 hbo2 HR hgB
            go_wp2_with fail
            refine HC2.out.mono ?_
            rintro e we ⟨ve, vse, rfl, hRw, hbe⟩
            have hTe := HTd.out.below hbe
            have hge := hbe.size
            have HW3 := Lib.hid (write_yes we W.heap.size z hTe.hz (by omega) _ ve R (hRw.rbs hRl) (fun j hj => ⟨hj.2, fun hm => by have := (HTd.out.hz.lt j (.inl hm)).1; omega⟩) (by omega) hfz.2.1 hfz.2.2)
            rw [HI.out.zo.1, HI.out.zo.2.2.1, HI.out.zo.2.2.2.1, HI.out.zo.2.2.2.2] at HW3
            have HTe := Lib.hid hTe
            have HBe := Lib.hid (HBd.out.trans (hbe.mono hgd))
            clear hRw hTe hbe HC2 c1 HTd HBd
            go_wp2_with fail
            refine HW3.out.mono ?_
            rintro e wf ⟨rfl, z', hSz, hOz, hIz, hUz⟩
            have hTf := HTe.out.stepz hIz hUz
            have hBf := hUz.bel _ _ HBe.out (Nat.le_refl _)
            have hcz := write_sc (s := z) (s' := z') (R := R) (by rw [HI.out.zo.2.2.1, HI.out.zo.2.2.2.1, HI.out.zo.2.2.2.2]; exact hOz)
            have hOO : omOf x' = omOf z' := by rw [HX.out.2.1, hOz, HI.out.om]
            have hTI : TI W wf bo bp bq W.heap.size (W.heap.size + 1) (W.heap.size + 1 + 1) x0 x1 r (k + 1) x' y' z' := ⟨hTf, hBf, HX.out.1.five HI.out.xo, HY.out.1.five HI.out.yo, hSz.five HI.out.zo, hOO,
              (HI.out.bx.next HX.out.2.2).mono (by have := Hs1.out; omega) (Nat.le_refl _), (HI.out.bz.next hcz).mono (by have := Hs1.out; omega) (Nat.le_refl _), (HI.out.by'.next HY.out.2).mono (by simp) (Nat.le_refl _)⟩
            have hsd : x'.said = z'.said := congrArg (fun m : OM => m.2.1) hOO
            have hcd : x'.cnt = z'.cnt := congrArg (fun m : OM => m.2.2.2) hOO
            obtain ⟨a5, c5, e5, k5⟩ := hTf.hx.said
            obtain ⟨a6, c6, e6, k6⟩ := hTf.hz.said
            have hr5 := hTf.hx.rows (by have := hTI.bx.2.2; omega)
            have hr6 := hTf.hz.rows (by have := hTI.bz.2.2; omega)
            rw [e5] at hr5
            rw [e6] at hr6
            rw [hTI.xo.2.1] at k5
            rw [hTI.zo.2.1] at k6
            have HEq := Lib.hid (eqRows_nq wf _ _ _ _ true (decide_eq_true hsd) hr5 hr6)
            have HC5 := Lib.hid (count_nq wf W.heap.size x' hTf.hx)
            have HC6 := Lib.hid (count_nq wf W.heap.size z' hTf.hz)
            rw [hTI.xo.1, hcd] at HC5
            rw [hTI.zo.1] at HC6
            have HN : Hid (∀ q, TI W (wf.drewN q) bo bp bq W.heap.size (W.heap.size + 1) (W.heap.size + 1 + 1) x0 x1 r (k + 1) x' y' z') := Lib.hid (fun q => hTI.below (below_drewN (Below.refl _ _) q))
            clear hSz hOz hIz hUz hTf hBf hcz hOO hTI hsd hcd e5 e6 hr5 hr6 HW3 HX HY HTe HBe hge hgd
            generalize x'.said.length = n5 at k5 HEq
            generalize z'.said.length = n6 at k6 HEq
            generalize z'.cnt = cv at HC5 HC6
            go_wp2_with fail
            go_quiet (first | (go_at_call 16; exact HEq.out _) | (go_at_call 11; with_reducible exact HC5.out _) | (go_at_call 11; with_reducible exact HC6.out _))
            clear k5 k6
            go_wp2_with fail
            go_roundw
            case rel => exact ⟨k + 1, x', y', z', by omega, by go_num, HN.out _⟩
            case measure => simp [intOf]; omega
        · obtain rfl : k = r.length := by omega
          have HWk := Lib.hid (works_any wr)
          have HB4 := Lib.hid hI.bel
          clear hI
          go_wp2_with fail
          refine HWk.out.mono ?_
          rintro e w4 ⟨rfl, hb4⟩
          have HP := Lib.hid (HB4.out.trans (hb4.mono HB4.out.size))
          clear hb4
          go_wp2_with fail
          go_ret
          exact ⟨rfl, HP.out⟩
end Go.Proofs.Ytbdgolbejoheiaa
