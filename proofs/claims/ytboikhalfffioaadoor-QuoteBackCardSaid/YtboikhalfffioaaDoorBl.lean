/-
  QuoteBack: its walk.
-/
import Derived.Test.YtboikhalfffioaaDoorJl
import Derived.Test.YtboikhalfffioaaDoorEq
namespace Go.Proofs.YtboikhalfffioaaDoor
open Go.RowKit

theorem read_len {s b : List UInt8} (h : readL s = some b) : b.length ≤ s.length := by
  have e := read_guess s
  rw [h] at e
  split at e
  · cases e; exact guess_len s
  · cases e

set_option maxHeartbeats 4000000 in
set_option maxRecDepth 100000 in
theorem back_any (w : World) (hw : W2 w) (a b : Option Addr) (n c m d : Nat) (x y : List UInt8) (s : ByteArray) (hA : SB w (.slice a n c) (bI x)) (hB : SB w (.slice b m d) (bI y)) :
    Calls Tryd.prog 6 #[.slice a n c, .slice b m d, .string s] w fun r w' => r = .returned (.bool true) ∧ Below w.heap.size w w' := by
  have HW := Lib.hid hw
  have hxl := hA.len
  have hyl := hB.len
  rw [bI_len] at hxl hyl
  have HXL := Lib.hid hxl.1
  have HYL := Lib.hid hyl.1
  have HA := Lib.hid hA
  have HB := Lib.hid hB
  have HL1 := Lib.hid (long_nat w n)
  have HL2 := Lib.hid (long_nat w m)
  have HL3 := Lib.hid (long_nat w s.size)
  clear hw hA hB hxl hyl
  go_enter Tryd.func6, Tryd.ntmps6
  go_upto_region 1 with fail
  go_cut [25] (fun v wx => v = .bool (decide (2147483647 < n ∨ 2147483647 < m ∨ 2147483647 < s.size)) ∧ wx = w)
  case first =>
    by_cases h1 : 2147483647 < n
    · rw [decide_eq_true h1] at HL1
      go_wp2_with (go_at_call 9; with_reducible refine HL1.out.mono ?_)
      rintro e w1 ⟨rfl, rfl⟩
      go_wp2_with fail
      go_meet
      case rel => exact ⟨by rw [decide_eq_true (.inl h1)], rfl⟩
    · rw [decide_eq_false h1] at HL1
      by_cases h2 : 2147483647 < m
      · rw [decide_eq_true h2] at HL2
        go_wp2_with (go_at_call 9; with_reducible refine HL1.out.mono ?_)
        rintro e w1 ⟨rfl, rfl⟩
        go_wp2_with (go_at_call 9; with_reducible refine HL2.out.mono ?_)
        rintro e w1 ⟨rfl, rfl⟩
        go_wp2_with fail
        go_meet
        case rel => exact ⟨by rw [decide_eq_true (.inr (.inl h2))], rfl⟩
      · rw [decide_eq_false h2] at HL2
        go_wp2_with (go_at_call 9; with_reducible refine HL1.out.mono ?_)
        rintro e w1 ⟨rfl, rfl⟩
        go_wp2_with (go_at_call 9; with_reducible refine HL2.out.mono ?_)
        rintro e w1 ⟨rfl, rfl⟩
        go_wp2_with (go_at_call 9; with_reducible refine HL3.out.mono ?_)
        rintro e w1 ⟨rfl, rfl⟩
        go_wp2_with fail
        go_meet
        case rel => exact ⟨by congr 1; rw [decide_eq_decide]; omega, rfl⟩
  case rest =>
    obtain ⟨rfl, hww⟩ := hcut
    obtain rfl : w = wc := hww.symm
    clear HL1 HL2 HL3
    by_cases hlo : 2147483647 < n ∨ 2147483647 < m ∨ 2147483647 < s.size
    · rw [decide_eq_true hlo]
      go_wp2_with fail
      go_ret
      exact ⟨rfl, Below.refl _ _⟩
    · rw [decide_eq_false hlo]
      have HC1 := Lib.hid (copy_any w _ _ HA.out)
      go_upto_region 3 with fail
      go_wp2_with (go_at_call 21; refine HC1.out.mono ?_)
      rintro e w1 ⟨v1, rfl, o1, b1⟩
      have HB1 := Lib.hid b1
      have HS1 := Lib.hid (showCopy w1 v1 x (.inr (o1.sb (bI_isB _) (by rw [bI_len, HXL.out]; omega))) (by rw [HXL.out]; omega))
      clear b1 o1 HC1
      go_wp2_with (go_at_call 20; refine HS1.out.mono ?_)
      rintro e w2 ⟨rfl, b2⟩
      have HB2 := Lib.hid (HB1.out.trans (b2.mono HB1.out.size))
      have HC2 := Lib.hid (copy_any w2 _ _ (HB.out.below HB2.out))
      clear b2 HS1
      go_wp2_with (go_at_call 21; refine HC2.out.mono ?_)
      rintro e w3 ⟨v3, rfl, o3, b3⟩
      have HB3 := Lib.hid (HB2.out.trans (b3.mono HB2.out.size))
      have HS3 := Lib.hid (showCopy w3 v3 y (.inr (o3.sb (bI_isB _) (by rw [bI_len, HYL.out]; omega))) (by rw [HYL.out]; omega))
      clear b3 o3 HC2
      go_wp2_with (go_at_call 20; refine HS3.out.mono ?_)
      rintro e w4 ⟨rfl, b4⟩
      have HB4 := Lib.hid (HB3.out.trans (b4.mono HB3.out.size))
      clear b4 HS3
      have hTs := show_size x
      have hTl := show_len x
      rw [HXL.out, ← hTs] at hTl
      clear hTs
      have HRT : Hid (readL (⟨(showL x).toArray⟩ : ByteArray).data.toList = some x) := Lib.hid (read_show x)
      have HPL := Lib.hid (shown_plain (body_shown x.length x (Nat.le_refl _)))
      have HTD : Hid ((⟨(showL x).toArray⟩ : ByteArray).data.toList = showL x) := Lib.hid rfl
      have HTB : Hid ((⟨(showL x).toArray⟩ : ByteArray).data.toList = 34 :: (bodyL x.length x ++ [34])) := Lib.hid rfl
      have HTU : Hid (((⟨(showL x).toArray⟩ : ByteArray).toList == (⟨(showL y).toArray⟩ : ByteArray).toList) = decide (bI x = bI y)) := Lib.hid (by
        rw [Lib.toList_data, Lib.toList_data]
        show (showL x == showL y) = _
        by_cases he : x = y
        · subst he; rw [beq_self_eq_true, decide_eq_true rfl]
        · rw [decide_eq_false (fun h => he (bI_inj h))]
          exact beq_eq_false_iff_ne.2 fun h => he (show_inj h))
      have HWL := Lib.hid (show_whole x (showL x).length)
      generalize (⟨(showL x).toArray⟩ : ByteArray) = T at hTl HRT HTD HTB HTU ⊢
      have hTz : T.size ≤ 10000000000 := by omega
      clear hTl
      generalize (⟨(showL y).toArray⟩ : ByteArray) = U at HTU ⊢
      obtain ⟨be, her⟩ := (HW.out.below HB4.out).er
      have HU4 := Lib.hid ((unshow_any w4 be her T (by omega)).mono fun _ _ h => ans_of h)
      unfold AnsPost ansT ansL at HU4
      rw [HRT.out] at HU4
      clear her HRT
      go_wp2_with (go_at_call 10; refine HU4.out.mono ?_)
      rintro e w5 ⟨v5, rfl, o5, b5⟩
      have HO5 : Hid (OwnB w5 w4.heap.size v5 (bI x)) := Lib.hid o5
      have HB5 := Lib.hid (HB4.out.trans (b5.mono HB4.out.size))
      clear o5 b5 HU4
      go_upto_region 6 with fail
      have HQ1 := Lib.hid (eqBytes_any w5 v5 (.slice a n c) (bI x) (bI x) (HO5.out.sb (bI_isB _) (by rw [bI_len, HXL.out]; omega)) (HA.out.below HB5.out))
      rw [decide_eq_true rfl] at HQ1
      go_wp2_with (go_at_call 12; refine HQ1.out.mono ?_)
      rintro e w6 ⟨rfl, q6, rfl⟩
      have HB6 := Lib.hid (below_drewN HB5.out q6)
      generalize w5.drewN q6 = w6 at HB6 ⊢
      clear HQ1
      have HP6 := Lib.hid (plain_any w6 T _ HTB.out HPL.out (by omega))
      go_wp2_with (go_at_call 22; refine HP6.out.mono ?_)
      rintro e w7 ⟨rfl, rfl⟩
      clear HP6
      obtain ⟨C, cs, hC, hcb, hsb⟩ := conv_sb2 w6 T (by omega)
      have HSB := Lib.hid hsb
      have HCB : Hid (Below w.heap.size w (w6.alloc (.cells cs 5 (cs.size, cs.size + 1))).drew) := Lib.hid (HB6.out.alloc HB6.out.size _).drew
      rw [HTD.out] at HSB
      have HW6 := Lib.hid (refWhole_any _ _ _ C _ HSB.out)
      rw [HWL.out] at HW6
      clear hsb hC HSB
      go_wp2_with (go_at_call 23; refine HW6.out.mono ?_)
      rintro e w8 ⟨rfl, hw8⟩
      subst hw8
      have HAC := Lib.hid (HA.out.below (Below.mono HCB.out (Nat.le_refl _)))
      have HBC := Lib.hid (HB.out.below (Below.mono HCB.out (Nat.le_refl _)))
      clear hcb HW6
      generalize (w6.alloc (.cells cs 5 (cs.size, cs.size + 1))).drew = w8 at HCB HAC HBC ⊢
      have HQ2 := Lib.hid (eqBytes_any w8 _ _ _ _ HAC.out HBC.out)
      have htu := HTU.out
      generalize decide (bI x = bI y) = q at HQ2 htu
      cases q with
      | true =>
        go_wp2_with (go_at_call 12; refine HQ2.out.mono ?_)
        rintro e w9 ⟨rfl, q9, rfl⟩
        have HB9 := Lib.hid (below_drewN HCB.out q9)
        generalize w8.drewN q9 = w9 at HB9 ⊢
        clear HQ2
        obtain ⟨bf, hes⟩ := (HW.out.below HB9.out).er
        have hsz : s.size ≤ 2147483647 := by omega
        have HU9 := Lib.hid (unshow_any w9 bf hes s (by omega))
        clear hes htu HTU
        go_upto_region 8 with fail
        go_wp2_with (go_at_call 10; refine HU9.out.mono ?_)
        rintro e w10 ⟨b10, hr⟩
        have HB10 := Lib.hid (HB9.out.trans (b10.mono HB9.out.size))
        have HWK : Hid (∀ w1, Below w.heap.size w w1 → Calls Tryd.prog 15 #[] w1 fun r w' => r = .returned (.bool true) ∧ Below w1.heap.size w1 w') := Lib.hid fun w1 hb => works_any w1 (HW.out.below hb)
        clear b10 HU9
        rcases hr with ⟨hn, rfl⟩ | ⟨bs, v10, hbs, rfl, o10⟩
        · clear hn
          go_wp2_with (go_at_call 15; refine (HWK.out _ HB10.out).mono ?_)
          rintro e w11 ⟨rfl, b11⟩
          have HB11 := Lib.hid (HB10.out.trans (b11.mono HB10.out.size))
          clear b11
          go_wp2_with fail
          go_ret
          exact ⟨rfl, HB11.out⟩
        · have hbl := read_is hbs
          have hlb := read_len hbs
          rw [dataL] at hlb
          have HS10 := Lib.hid (showCopy w10 v10 bs (.inr (o10.sb (bI_isB _) (by rw [bI_len]; omega))) (by omega))
          have hx : (⟨(showL bs).toArray⟩ : ByteArray) = s := by
            cases s with
            | mk d => simp at hbl ⊢; rw [hbl]
          rw [hx] at HS10
          have hss : (s.toList == s.toList) = true := beq_self_eq_true _
          obtain ⟨ab, cb, hvs⟩ := OwnB.shape o10
          subst hvs
          clear hbl hx hbs o10 hlb
          generalize (bI bs).length = mb at HS10 ⊢
          go_wp2_with (go_at_call 20; refine HS10.out.mono ?_)
          rintro e w11 ⟨rfl, b11⟩
          have HB11 := Lib.hid (HB10.out.trans (b11.mono HB10.out.size))
          clear b11 HS10
          go_wp2_with (go_at_call 15; refine (HWK.out _ HB11.out).mono ?_)
          rintro e w12 ⟨rfl, b12⟩
          have HB12 := Lib.hid (HB11.out.trans (b12.mono HB11.out.size))
          clear b12
          go_wp2_with fail
          go_ret
          exact ⟨rfl, HB12.out⟩
      | false =>
        go_wp2_with (go_at_call 12; refine HQ2.out.mono ?_)
        rintro e w9 ⟨rfl, q9, rfl⟩
        have HB9 := Lib.hid (below_drewN HCB.out q9)
        generalize w8.drewN q9 = w9 at HB9 ⊢
        clear HQ2
        obtain ⟨bf, hes⟩ := (HW.out.below HB9.out).er
        have hsz : s.size ≤ 2147483647 := by omega
        have HU9 := Lib.hid (unshow_any w9 bf hes s (by omega))
        clear hes htu HTU
        go_upto_region 8 with fail
        go_wp2_with (go_at_call 10; refine HU9.out.mono ?_)
        rintro e w10 ⟨b10, hr⟩
        have HB10 := Lib.hid (HB9.out.trans (b10.mono HB9.out.size))
        have HWK : Hid (∀ w1, Below w.heap.size w w1 → Calls Tryd.prog 15 #[] w1 fun r w' => r = .returned (.bool true) ∧ Below w1.heap.size w1 w') := Lib.hid fun w1 hb => works_any w1 (HW.out.below hb)
        clear b10 HU9
        rcases hr with ⟨hn, rfl⟩ | ⟨bs, v10, hbs, rfl, o10⟩
        · clear hn
          go_wp2_with (go_at_call 15; refine (HWK.out _ HB10.out).mono ?_)
          rintro e w11 ⟨rfl, b11⟩
          have HB11 := Lib.hid (HB10.out.trans (b11.mono HB10.out.size))
          clear b11
          go_wp2_with fail
          go_ret
          exact ⟨rfl, HB11.out⟩
        · have hbl := read_is hbs
          have hlb := read_len hbs
          rw [dataL] at hlb
          have HS10 := Lib.hid (showCopy w10 v10 bs (.inr (o10.sb (bI_isB _) (by rw [bI_len]; omega))) (by omega))
          have hx : (⟨(showL bs).toArray⟩ : ByteArray) = s := by
            cases s with
            | mk d => simp at hbl ⊢; rw [hbl]
          rw [hx] at HS10
          have hss : (s.toList == s.toList) = true := beq_self_eq_true _
          obtain ⟨ab, cb, hvs⟩ := OwnB.shape o10
          subst hvs
          clear hbl hx hbs o10 hlb
          generalize (bI bs).length = mb at HS10 ⊢
          go_wp2_with (go_at_call 20; refine HS10.out.mono ?_)
          rintro e w11 ⟨rfl, b11⟩
          have HB11 := Lib.hid (HB10.out.trans (b11.mono HB10.out.size))
          clear b11 HS10
          go_wp2_with (go_at_call 15; refine (HWK.out _ HB11.out).mono ?_)
          rintro e w12 ⟨rfl, b12⟩
          have HB12 := Lib.hid (HB11.out.trans (b12.mono HB11.out.size))
          clear b12
          go_wp2_with fail
          go_ret
          exact ⟨rfl, HB12.out⟩

theorem back_walk (w : World) (hw : W2 w) (a b : Option Addr) (n c m d : Nat) (x y : List Int) (s : ByteArray) (hA : SB w (.slice a n c) x) (hB : SB w (.slice b m d) y) :
    Calls Tryd.prog 6 #[.slice a n c, .slice b m d, .string s] w fun r w' => r = .returned (.bool true) ∧ Below w.heap.size w w' := by
  obtain ⟨x', rfl⟩ := bI_of x hA.1
  obtain ⟨y', rfl⟩ := bI_of y hB.1
  exact back_any w hw a b n c m d x' y' s hA hB
end Go.Proofs.YtboikhalfffioaaDoor
