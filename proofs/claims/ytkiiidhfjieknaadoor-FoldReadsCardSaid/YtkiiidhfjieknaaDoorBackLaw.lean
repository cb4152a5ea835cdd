/-
  galleylaw18.FoldBack: its walk.
-/
import Derived.Test.YtkiiidhfjieknaaDoorLives
namespace Go.Proofs.YtkiiidhfjieknaaDoor
open Go.RowKit

theorem long_any (w : World) (n : Nat) (hn : n ≤ 9223372036854775807) : Calls Tryd.prog 16 #[.int .i64 (n : Int)] w fun e w' => e = .returned (.bool (decide (2147483647 < n))) ∧ w' = w := by
  by_cases h : 2147483647 < n
  · have h1 : (2147483647 : Int) < (n : Int) := by omega
    go_enter Tryd.func16, Tryd.ntmps16
    go_wp2_with fail
    go_ret
    exact ⟨by rw [decide_eq_true h]; simp, rfl⟩
  · have h1 : ¬ ((2147483647 : Int) < (n : Int)) := by omega
    go_enter Tryd.func16, Tryd.ntmps16
    go_wp2_with fail
    go_ret
    exact ⟨rfl, rfl⟩

set_option maxHeartbeats 4000000 in
set_option maxRecDepth 100000 in
theorem backLaw_walk (w : World) (a a2 : Option Addr) (n c n2 c2 : Nat) (l s : List Int) (width : Int) (h : SBC w a n c l) (h2 : SBC w a2 n2 c2 s) (hw0 : -9223372036854775808 ≤ width) (hw1 : width ≤ 9223372036854775807) (hE : EnvW w) :
    Calls Tryd.prog 5 #[.slice a n c, .int .i64 width, .slice a2 n2 c2] w fun e w' => e = .returned (.bool true) ∧ Below w.heap.size w w' := by
  have hn47 := h.1.len.2
  have hm47 := h2.1.len.2
  have HS := Lib.hid h
  have HS2 := Lib.hid h2
  have HE := Lib.hid hE
  have HLN := Lib.hid h.len
  have HLN2 := Lib.hid h2.len
  have HLO := Lib.hid (long_any w n2 (by omega))
  clear h h2 hE
  by_cases hbig : 357913940 < n
  · have hb1 : (357913940 : Int) < (n : Int) := by omega
    go_enter Tryd.func5, Tryd.ntmps5
    go_wp2_with fail
    go_ret
    exact ⟨rfl, Below.refl _ _⟩
  · have hb1 : ¬ ((357913940 : Int) < (n : Int)) := by omega
    by_cases hlong : 2147483647 < n2
    · rw [decide_eq_true hlong] at HLO
      go_enter Tryd.func5, Tryd.ntmps5
      go_wp2_with fail
      refine HLO.out.mono ?_
      rintro e w1 ⟨rfl, rfl⟩
      go_wp2_with fail
      go_ret
      exact ⟨rfl, Below.refl _ _⟩
    · rw [decide_eq_false hlong] at HLO
      have HLI := Lib.hid (lives_any w HE.out)
      go_enter Tryd.func5, Tryd.ntmps5
      go_wp2_with fail
      refine HLO.out.mono ?_
      rintro e w1 ⟨rfl, rfl⟩
      clear HLO
      go_wp2_with fail
      refine HLI.out.mono ?_
      rintro e w2 ⟨rfl, hb2⟩
      clear HLI
      have h4 := wideN_ge width
      have hrl := rowL_len (wideN width) l
      have HRO := Lib.hid (row_any w2 _ l (HS.out.below hb2).1 (by rw [HLN.out]; omega) width hw0 hw1 (HE.out.below hb2).letw)
      have HRB := Lib.hid (rowL_isB (wideN width) l HS.out.inB)
      have HBR := Lib.hid (back_row (wideN width) h4 l HS.out.inB)
      rw [HLN.out] at hrl
      generalize rowL (wideN width) l = R at hrl HRO HRB HBR
      clear h4
      go_wp2_with fail
      refine HRO.out.mono ?_
      rintro e w3 ⟨v3, rfl, ho3, hb3⟩
      have hbw3 := hb2.trans (hb3.mono hb2.size)
      obtain ⟨a3, c3, rfl, hs3⟩ := ho3.toSBC HRB.out (by omega)
      have HBA := Lib.hid (back_any w3 a3 _ c3 R hs3 (by omega) (HE.out.below hbw3))
      generalize R.length = rn at HBA ⊢
      clear HRO ho3 hb2 hb3 hs3
      go_wp2_with fail
      refine HBA.out.mono ?_
      rintro e w4 ⟨hb4, hq⟩
      rw [HBR.out] at hq
      obtain ⟨v4, rfl, ho4, hi4, hl4⟩ := hq
      have hbw4 := hbw3.trans (hb4.mono hbw3.size)
      obtain ⟨a4, c4, rfl, hs4⟩ := ho4.toSBC (inB_isB hi4) (by rw [HLN.out]; omega)
      have heq := eqBytes_any w4 _ _ l l hs4.1 (HS.out.below hbw4).1
      rw [decide_eq_true rfl, HLN.out] at heq
      have HEQ := Lib.hid heq
      rw [HLN.out]
      clear HBA ho4 hb4 hs4 heq hbw3 hl4 hi4
      go_wp2_with fail
      refine HEQ.out.mono ?_
      rintro e w5 ⟨rfl, q, rfl⟩
      have hbw5 := below_drewN hbw4 q
      have HB2 := Lib.hid (back_any _ a2 n2 c2 s (HS2.out.below hbw5) (by omega) (HE.out.below hbw5))
      clear HEQ hbw4
      generalize w4.drewN q = w6 at hbw5 HB2 ⊢
      go_wp2_with fail
      refine HB2.out.mono ?_
      rintro e w7 ⟨hb7, hq⟩
      have hbw7 := hbw5.trans (hb7.mono hbw5.size)
      cases hk : backL s with
      | none =>
        rw [hk] at hq
        subst hq
        clear hk
        go_wp2_with fail
        go_ret
        exact ⟨rfl, hbw7⟩
      | some x =>
        rw [hk] at hq
        obtain ⟨v7, rfl, ho7, hi7, hl7⟩ := hq
        obtain ⟨hix, hrs⟩ := back_in HS2.out.inB hk
        have HRS := Lib.hid hrs
        rw [HLN2.out] at hl7
        obtain ⟨a7, c7, rfl, hs7⟩ := ho7.toSBC (inB_isB hi7) (by omega)
        obtain ⟨xn, hxn⟩ : ∃ xn, x.length = xn := ⟨_, rfl⟩
        rw [hxn] at hs7 hl7 ⊢
        have HXN := Lib.hid hxn
        have HLE := Lib.hid (least_any w7 a2 n2 c2 s (HS2.out.below hbw7) (by omega))
        have HLB := Lib.hid (least_le s)
        clear hk hrs ho7 hxn HB2 hb7
        go_wp2_with fail
        refine HLE.out.mono ?_
        rintro e w8 ⟨rfl, q8, rfl⟩
        have hbw8 := below_drewN hbw7 q8
        have hlb := HLB.out
        rw [HLN2.out] at hlb
        have hwl : wideN ((leastL s : Nat) : Int) = leastL s := by unfold wideN; split <;> omega
        have hro := row_any (w7.drewN q8) _ x (hs7.drew q8).1 (by rw [HXN.out]; omega) ((leastL s : Nat) : Int) (by omega) (by omega) (HE.out.below hbw8).letw
        rw [hwl, HRS.out] at hro
        have HRO := Lib.hid hro
        generalize leastL s = ls at HRO ⊢
        clear HLE hro hwl hlb hs7 HLB HRS
        generalize w7.drewN q8 = w9 at HRO hbw8 ⊢
        go_wp2_with fail
        refine HRO.out.mono ?_
        rintro e w10 ⟨v10, rfl, ho10, hb10⟩
        have hbw10 := hbw8.trans (hb10.mono hbw8.size)
        obtain ⟨a10, c10, rfl, hs10⟩ := ho10.toSBC (HS2.out.1.1) (by rw [HLN2.out]; omega)
        have heq := eqBytes_any w10 _ _ s s hs10.1 (HS2.out.below hbw10).1
        rw [decide_eq_true rfl, HLN2.out] at heq
        have HEQ2 := Lib.hid heq
        rw [HLN2.out]
        clear HRO ho10 hb10 hs10 heq
        go_wp2_with fail
        refine HEQ2.out.mono ?_
        rintro e w11 ⟨rfl, q11, rfl⟩
        have hfin := below_drewN hbw10 q11
        clear HEQ2
        go_wp2_with fail
        go_ret
        exact ⟨rfl, hfin⟩
end Go.Proofs.YtkiiidhfjieknaaDoor
