/-
  The walk of LongestNews.
-/
import Derived.Test.YtfmcjmkdlldlhaaLgWk
import Derived.Test.YtfmcjmkdlldlhaaLgTw
import Derived.Test.YtfmcjmkdlldlhaaLgWi
import Derived.Test.YtfmcjmkdlldlhaaLgZe
import Derived.Test.YtfmcjmkdlldlhaaLgRn
import Derived.Test.YtfmcjmkdlldlhaaLgSl
namespace Go.Proofs.Ytfmcjmkdlldlhaa
open Go.RowKit
attribute [local go_sem] Oper.semAt_some

theorem mi_wide {W : World} {g n : Nat} {M : List Ins} (hC : ∀ x ∈ M, IsC x.set) (hn : M.length = n) (h : At W g TI (cellsI (wideI M))) : MI W (some ⟨g, 0, none⟩) n (n + 64) M := by
  refine ⟨hC, hn, by omega, fun e => (by cases e), .inr ⟨g, 0, rfl, fun i x hx q hq => ?_⟩⟩
  have hi := (List.getElem?_eq_some_iff.1 hx).1
  rw [Nat.zero_add, at_getI h i x (by rw [wideI_lo M i hi]; exact hx) q hq]
set_option maxRecDepth 100000 in
set_option maxHeartbeats 8000000 in
theorem longestNews_any (w : World) (am : Option Addr) (n cm : Nat) (M : List Ins) (hM : MI w am n cm M) (hR : ∀ x ∈ M, InR x) (vt : Value) (T : List Int) (hT : SB w vt T) :
    Calls Try.prog 3 #[.slice am n cm, vt] w fun e w' => e = .returned (.bool true) ∧ Below w.heap.size w w' := by
  have HMI := Lib.hid hM
  have HST := Lib.hid hT
  have HR := Lib.hid hR
  have HL := Lib.hid (show M.length = n from hM.2.1)
  obtain ⟨-, at', ct, rfl, hlt, -⟩ := hT
  clear hM hR hlt
  go_enter Try.func3, Try.ntmps3
  go_wp2_with fail
  refine (long_big _ n).mono ?_
  rintro e w1 ⟨rfl, rfl⟩
  by_cases hL : 2147483647 < n
  · rw [decide_eq_true hL]
    clear hL
    go_wp2_with fail
    go_ret
    exact ⟨rfl, Below.refl _ _⟩
  rw [decide_eq_false hL]
  have hn2 : n ≤ 2147483647 := by omega
  have HN2 := Lib.hid hn2
  clear hL hn2
  go_wp2_with fail
  refine (long_big _ T.length).mono ?_
  rintro e w1 ⟨rfl, rfl⟩
  by_cases hL : 2147483647 < T.length
  · rw [decide_eq_true hL]
    clear hL
    go_wp2_with fail
    go_ret
    exact ⟨rfl, Below.refl _ _⟩
  rw [decide_eq_false hL]
  have HL2 := Lib.hid hL
  clear hL
  go_wp2_with fail
  refine (wideI_any w am n cm M HMI.out HN2.out).mono ?_
  rintro e w1 ⟨rfl, hin, hb1⟩
  have HIN1 := Lib.hid hin
  have HB1 := Lib.hid hb1
  generalize w.heap.size = gin at HIN1 ⊢
  clear hin hb1
  go_wp2_with fail
  refine (new_any w1 M _ n (n + 64) (mi_wide HMI.out.1 HL.out HIN1.out)).mono ?_
  rintro e w2 ⟨p, er, rfl, hv, hb2⟩
  have HV := Lib.hid hv
  have HIN2 := Lib.hid (HIN1.out.below hb2)
  have HB2 := Lib.hid (HB1.out.trans (hb2.mono HB1.out.size))
  clear hv hb2 HIN1 HB1
  go_wp2_with fail
  refine (rnew_any w2 M am n cm (HMI.out.below HB2.out) HR.out).mono ?_
  rintro e w3 ⟨rp, rer, rfl, hb3, hrv⟩
  have HB3 := Lib.hid (HB2.out.trans (hb3.mono HB2.out.size))
  have HIN := Lib.hid (HIN2.out.below hb3)
  have HM3 := Lib.hid (HMI.out.below HB3.out)
  have HIM := Lib.hid (mi_wide HMI.out.1 HL.out HIN.out)
  have HST3 := Lib.hid (HST.out.below HB3.out)
  have hn2 := HN2.out
  rcases HV.out with ⟨hs, rfl, rfl⟩ | ⟨hs, rfl, s, rfl, hst, hso⟩
  · rcases hrv with ⟨_, rfl⟩ | ⟨hs2, _⟩
    · clear hb3 HIN2 HB2
      go_wp2_with fail
      refine (eqI_same w3 _ _ n _ _ M HIM.out HM3.out hn2).mono ?_
      rintro e w4 ⟨rfl, q4, rfl⟩
      have HB4 := Lib.hid (below_drewN HB3.out q4)
      have HC4 := Lib.hid (below_drewN (Below.refl w3.heap.size w3) q4)
      have HIN4 := Lib.hid (show At (w3.drewN q4) gin TI (cellsI (wideI M)) from HIN.out)
      generalize w3.drewN q4 = w4 at HB4 HC4 HIN4 ⊢
      go_wp2_with fail
      refine (spareI_any w4 gin n M HL.out hn2 HIN4.out).mono ?_
      rintro e w5 ⟨rfl, q5, rfl⟩
      have HB5 := Lib.hid (below_drewN HB4.out q5)
      have HC5 := Lib.hid (below_drewN HC4.out q5)
      generalize w4.drewN q5 = w5 at HB5 HC5 ⊢
      clear HB4 HC4 HIN4
      go_upto_region 10 with fail
      have hb6 := (Below.refl w5.heap.size w5).alloc (Nat.le_refl _) (.cells #[.bool false, .slice none 0 0, .slice none 0 0, .int .i16 0, .int .i64 0, .slice none 0 0, .slice none 0 0, .slice none 0 0, .slice none 0 0] TS)
      have HZ6 := Lib.hid (show NoSr (w5.alloc (.cells #[.bool false, .slice none 0 0, .slice none 0 0, .int .i16 0, .int .i64 0, .slice none 0 0, .slice none 0 0, .slice none 0 0, .slice none 0 0] TS)) (some ⟨w5.heap.size, 0, none⟩) from .inr ⟨_, rfl, (At.new w5 TS [.bool false, .slice none 0 0, .slice none 0 0, .int .i16 0, .int .i64 0, .slice none 0 0, .slice none 0 0, .slice none 0 0, .slice none 0 0]).cell 0⟩)
      have HB6 := Lib.hid (HB5.out.trans (hb6.mono HB5.out.size))
      have HC6 := Lib.hid (HC5.out.trans (hb6.mono HC5.out.size))
      clear hb6 HB5 HC5
      generalize w5.alloc (.cells #[.bool false, .slice none 0 0, .slice none 0 0, .int .i16 0, .int .i64 0, .slice none 0 0, .slice none 0 0, .slice none 0 0, .slice none 0 0] TS) = w6 at HZ6 HB6 HC6 ⊢
      generalize w5.heap.size = gz at HZ6 ⊢
      go_wp2_with fail
      refine (copy_tx w6 _ T (HST3.out.below HC6.out)).mono ?_
      rintro e w7 ⟨a6, c6, rfl, _, _, hb7⟩
      have HB7 := Lib.hid (HB6.out.trans (hb7.mono HB6.out.size))
      have HC7 := Lib.hid (HC6.out.trans (hb7.mono HC6.out.size))
      have HZ7 := Lib.hid (HZ6.out.below hb7)
      clear hb7
      go_wp2_with fail
      refine (find_zero w7 none (.inl rfl) a6 T.length c6 0).mono ?_
      rintro e w8 ⟨rfl, hb8⟩
      have HB8 := Lib.hid (HB7.out.trans (hb8.mono HB7.out.size))
      have HC8 := Lib.hid (HC7.out.trans (hb8.mono HC7.out.size))
      have HZ8 := Lib.hid (HZ7.out.below hb8)
      clear hb8
      go_upto_region 11 with fail
      have hb9 := (Below.refl w8.heap.size w8).alloc (Nat.le_refl _) (.cells #[.int .i64 0, .int .i64 0] TSp)
      have HB9 := Lib.hid (HB8.out.trans (hb9.mono HB8.out.size))
      have HC9 := Lib.hid (HC8.out.trans (hb9.mono HC8.out.size))
      have HZ9 := Lib.hid (HZ8.out.below hb9)
      have HK12_9 := Lib.hid (At.new w8 TSp [.int .i64 0, .int .i64 0])
      change Hid (At (w8.alloc (.cells #[.int .i64 0, .int .i64 0] TSp)) w8.heap.size TSp _) at HK12_9
      clear hb9
      generalize w8.alloc (.cells #[.int .i64 0, .int .i64 0] TSp) = w9 at HB9 HC9 HZ9 HK12_9 ⊢
      generalize w8.heap.size = g12 at HK12_9 ⊢
      clear HB7 HB8 HC7 HC8 HZ7 HZ8
      go_wp2_with fail
      refine (copy_tx w9 _ T (HST3.out.below HC9.out)).mono ?_
      rintro e w10 ⟨a9, c9, rfl, _, _, hb10⟩
      have HB10 := Lib.hid (HB9.out.trans (hb10.mono HB9.out.size))
      have HC10 := Lib.hid (HC9.out.trans (hb10.mono HC9.out.size))
      have HZ10 := Lib.hid (HZ9.out.below hb10)
      have HK12_10 := Lib.hid (HK12_9.out.below hb10)
      clear hb10
      go_wp2_with fail
      refine (find_zero w10 (some ⟨gz, 0, none⟩) HZ10.out a9 T.length c9 0).mono ?_
      rintro e w11 ⟨rfl, hb11⟩
      have HB11 := Lib.hid (HB10.out.trans (hb11.mono HB10.out.size))
      have HC11 := Lib.hid (HC10.out.trans (hb11.mono HC10.out.size))
      have HZ11 := Lib.hid (HZ10.out.below hb11)
      have HK12_11 := Lib.hid (HK12_10.out.below hb11)
      clear hb11
      go_upto_region 12 with fail
      have hb12 := (Below.refl w11.heap.size w11).alloc (Nat.le_refl _) (.cells #[.int .i64 0, .int .i64 0] TSp)
      have HB12 := Lib.hid (HB11.out.trans (hb12.mono HB11.out.size))
      have HC12 := Lib.hid (HC11.out.trans (hb12.mono HC11.out.size))
      have HZ12 := Lib.hid (HZ11.out.below hb12)
      have HK12_12 := Lib.hid (HK12_11.out.below hb12)
      have HK14_12 := Lib.hid (At.new w11 TSp [.int .i64 0, .int .i64 0])
      change Hid (At (w11.alloc (.cells #[.int .i64 0, .int .i64 0] TSp)) w11.heap.size TSp _) at HK14_12
      clear hb12
      generalize w11.alloc (.cells #[.int .i64 0, .int .i64 0] TSp) = w12 at HB12 HC12 HZ12 HK12_12 HK14_12 ⊢
      generalize w11.heap.size = g14 at HK14_12 ⊢
      clear HB10 HB11 HC10 HC11 HZ10 HZ11
      go_wp2_with fail
      refine (copy_tx w12 _ T (HST3.out.below HC12.out)).mono ?_
      rintro e w13 ⟨a12, c12, rfl, _, _, hb13⟩
      have HB13 := Lib.hid (HB12.out.trans (hb13.mono HB12.out.size))
      have HC13 := Lib.hid (HC12.out.trans (hb13.mono HC12.out.size))
      have HZ13 := Lib.hid (HZ12.out.below hb13)
      have HK12_13 := Lib.hid (HK12_12.out.below hb13)
      have HK14_13 := Lib.hid (HK14_12.out.below hb13)
      clear hb13
      go_wp2_with fail
      refine (ends_zero w13 none (.inl rfl) a12 T.length c12 0).mono ?_
      rintro e w14 ⟨rfl, rfl⟩
      go_wp2_with fail
      refine (copy_tx w13 _ T (HST3.out.below HC13.out)).mono ?_
      rintro e w14 ⟨a13, c13, rfl, _, _, hb14⟩
      have HB14 := Lib.hid (HB13.out.trans (hb14.mono HB13.out.size))
      have HC14 := Lib.hid (HC13.out.trans (hb14.mono HC13.out.size))
      have HZ14 := Lib.hid (HZ13.out.below hb14)
      have HK12_14 := Lib.hid (HK12_13.out.below hb14)
      have HK14_14 := Lib.hid (HK14_13.out.below hb14)
      clear hb14
      go_wp2_with fail
      refine (ends_zero w14 (some ⟨gz, 0, none⟩) HZ14.out a13 T.length c13 0).mono ?_
      rintro e w15 ⟨rfl, rfl⟩
      have a0 : w14.cell? ⟨g12, 0, none⟩ = some (.int .i64 0) := HK12_14.out.cell 0
      have a1 : w14.cell? ⟨g12, 1, none⟩ = some (.int .i64 0) := HK12_14.out.cell 1
      have b0 : w14.cell? ⟨g14, 0, none⟩ = some (.int .i64 0) := HK14_14.out.cell 0
      have b1 : w14.cell? ⟨g14, 1, none⟩ = some (.int .i64 0) := HK14_14.out.cell 1
      go_wp2_with fail
      refine (steps_zero w14 none (.inl rfl)).mono ?_
      rintro e w20 ⟨rfl, rfl⟩
      go_wp2_with fail
      refine (steps_zero w14 (some ⟨gz, 0, none⟩) HZ14.out).mono ?_
      rintro e w20 ⟨rfl, rfl⟩
      go_wp2_with fail
      refine (works8_any _).mono ?_
      rintro e w21 ⟨rfl, hb21⟩
      have HB21 := Lib.hid (HB14.out.trans (hb21.mono HB14.out.size))
      clear hb21
      go_wp2_with fail
      go_ret
      exact ⟨rfl, HB21.out⟩
    · rw [hs] at hs2; cases hs2
  · rcases hrv with ⟨hs2, _⟩ | ⟨_, rfl, rg, rfl, _⟩
    · rw [hs] at hs2; cases hs2
    · have HS3 := Lib.hid (hso.below hb3)
      generalize w1.heap.size = base at HS3
      clear hb3 HIN2 HB2 hso
      go_wp2_with fail
      refine (eqI_same w3 _ _ n _ _ M HIM.out HM3.out hn2).mono ?_
      rintro e w4 ⟨rfl, q4, rfl⟩
      have HB4 := Lib.hid (below_drewN HB3.out q4)
      have HC4 := Lib.hid (below_drewN (Below.refl w3.heap.size w3) q4)
      have HIN4 := Lib.hid (show At (w3.drewN q4) gin TI (cellsI (wideI M)) from HIN.out)
      generalize w3.drewN q4 = w4 at HB4 HC4 HIN4 ⊢
      go_wp2_with fail
      refine (spareI_any w4 gin n M HL.out hn2 HIN4.out).mono ?_
      rintro e w5 ⟨rfl, q5, rfl⟩
      have HB5 := Lib.hid (below_drewN HB4.out q5)
      have HC5 := Lib.hid (below_drewN HC4.out q5)
      generalize w4.drewN q5 = w5 at HB5 HC5 ⊢
      clear HB4 HC4 HIN4
      go_upto_region 10 with fail
      have hb6 := (Below.refl w5.heap.size w5).alloc (Nat.le_refl _) (.cells #[.bool false, .slice none 0 0, .slice none 0 0, .int .i16 0, .int .i64 0, .slice none 0 0, .slice none 0 0, .slice none 0 0, .slice none 0 0] TS)
      have HZ6 := Lib.hid (show NoSr (w5.alloc (.cells #[.bool false, .slice none 0 0, .slice none 0 0, .int .i16 0, .int .i64 0, .slice none 0 0, .slice none 0 0, .slice none 0 0, .slice none 0 0] TS)) (some ⟨w5.heap.size, 0, none⟩) from .inr ⟨_, rfl, (At.new w5 TS [.bool false, .slice none 0 0, .slice none 0 0, .int .i16 0, .int .i64 0, .slice none 0 0, .slice none 0 0, .slice none 0 0, .slice none 0 0]).cell 0⟩)
      have HB6 := Lib.hid (HB5.out.trans (hb6.mono HB5.out.size))
      have HC6 := Lib.hid (HC5.out.trans (hb6.mono HC5.out.size))
      clear hb6 HB5 HC5
      generalize w5.alloc (.cells #[.bool false, .slice none 0 0, .slice none 0 0, .int .i16 0, .int .i64 0, .slice none 0 0, .slice none 0 0, .slice none 0 0, .slice none 0 0] TS) = w6 at HZ6 HB6 HC6 ⊢
      generalize w5.heap.size = gz at HZ6 ⊢
      go_wp2_with fail
      refine (copy_tx w6 _ T (HST3.out.below HC6.out)).mono ?_
      rintro e w7 ⟨a6, c6, rfl, _, _, hb7⟩
      have HB7 := Lib.hid (HB6.out.trans (hb7.mono HB6.out.size))
      have HC7 := Lib.hid (HC6.out.trans (hb7.mono HC6.out.size))
      have HZ7 := Lib.hid (HZ6.out.below hb7)
      clear hb7
      go_wp2_with fail
      refine (find_zero w7 none (.inl rfl) a6 T.length c6 0).mono ?_
      rintro e w8 ⟨rfl, hb8⟩
      have HB8 := Lib.hid (HB7.out.trans (hb8.mono HB7.out.size))
      have HC8 := Lib.hid (HC7.out.trans (hb8.mono HC7.out.size))
      have HZ8 := Lib.hid (HZ7.out.below hb8)
      clear hb8
      go_upto_region 11 with fail
      have hb9 := (Below.refl w8.heap.size w8).alloc (Nat.le_refl _) (.cells #[.int .i64 0, .int .i64 0] TSp)
      have HB9 := Lib.hid (HB8.out.trans (hb9.mono HB8.out.size))
      have HC9 := Lib.hid (HC8.out.trans (hb9.mono HC8.out.size))
      have HZ9 := Lib.hid (HZ8.out.below hb9)
      have HK12_9 := Lib.hid (At.new w8 TSp [.int .i64 0, .int .i64 0])
      change Hid (At (w8.alloc (.cells #[.int .i64 0, .int .i64 0] TSp)) w8.heap.size TSp _) at HK12_9
      clear hb9
      generalize w8.alloc (.cells #[.int .i64 0, .int .i64 0] TSp) = w9 at HB9 HC9 HZ9 HK12_9 ⊢
      generalize w8.heap.size = g12 at HK12_9 ⊢
      clear HB7 HB8 HC7 HC8 HZ7 HZ8
      go_wp2_with fail
      refine (copy_tx w9 _ T (HST3.out.below HC9.out)).mono ?_
      rintro e w10 ⟨a9, c9, rfl, _, _, hb10⟩
      have HB10 := Lib.hid (HB9.out.trans (hb10.mono HB9.out.size))
      have HC10 := Lib.hid (HC9.out.trans (hb10.mono HC9.out.size))
      have HZ10 := Lib.hid (HZ9.out.below hb10)
      have HK12_10 := Lib.hid (HK12_9.out.below hb10)
      clear hb10
      go_wp2_with fail
      refine (find_zero w10 (some ⟨gz, 0, none⟩) HZ10.out a9 T.length c9 0).mono ?_
      rintro e w11 ⟨rfl, hb11⟩
      have HB11 := Lib.hid (HB10.out.trans (hb11.mono HB10.out.size))
      have HC11 := Lib.hid (HC10.out.trans (hb11.mono HC10.out.size))
      have HZ11 := Lib.hid (HZ10.out.below hb11)
      have HK12_11 := Lib.hid (HK12_10.out.below hb11)
      clear hb11
      go_upto_region 12 with fail
      have hb12 := (Below.refl w11.heap.size w11).alloc (Nat.le_refl _) (.cells #[.int .i64 0, .int .i64 0] TSp)
      have HB12 := Lib.hid (HB11.out.trans (hb12.mono HB11.out.size))
      have HC12 := Lib.hid (HC11.out.trans (hb12.mono HC11.out.size))
      have HZ12 := Lib.hid (HZ11.out.below hb12)
      have HK12_12 := Lib.hid (HK12_11.out.below hb12)
      have HK14_12 := Lib.hid (At.new w11 TSp [.int .i64 0, .int .i64 0])
      change Hid (At (w11.alloc (.cells #[.int .i64 0, .int .i64 0] TSp)) w11.heap.size TSp _) at HK14_12
      clear hb12
      generalize w11.alloc (.cells #[.int .i64 0, .int .i64 0] TSp) = w12 at HB12 HC12 HZ12 HK12_12 HK14_12 ⊢
      generalize w11.heap.size = g14 at HK14_12 ⊢
      clear HB10 HB11 HC10 HC11 HZ10 HZ11
      go_wp2_with fail
      refine (copy_tx w12 _ T (HST3.out.below HC12.out)).mono ?_
      rintro e w13 ⟨a12, c12, rfl, _, _, hb13⟩
      have HB13 := Lib.hid (HB12.out.trans (hb13.mono HB12.out.size))
      have HC13 := Lib.hid (HC12.out.trans (hb13.mono HC12.out.size))
      have HZ13 := Lib.hid (HZ12.out.below hb13)
      have HK12_13 := Lib.hid (HK12_12.out.below hb13)
      have HK14_13 := Lib.hid (HK14_12.out.below hb13)
      clear hb13
      go_wp2_with fail
      refine (ends_zero w13 none (.inl rfl) a12 T.length c12 0).mono ?_
      rintro e w14 ⟨rfl, rfl⟩
      go_wp2_with fail
      refine (copy_tx w13 _ T (HST3.out.below HC13.out)).mono ?_
      rintro e w14 ⟨a13, c13, rfl, _, _, hb14⟩
      have HB14 := Lib.hid (HB13.out.trans (hb14.mono HB13.out.size))
      have HC14 := Lib.hid (HC13.out.trans (hb14.mono HC13.out.size))
      have HZ14 := Lib.hid (HZ13.out.below hb14)
      have HK12_14 := Lib.hid (HK12_13.out.below hb14)
      have HK14_14 := Lib.hid (HK14_13.out.below hb14)
      clear hb14
      go_wp2_with fail
      refine (ends_zero w14 (some ⟨gz, 0, none⟩) HZ14.out a13 T.length c13 0).mono ?_
      rintro e w15 ⟨rfl, rfl⟩
      have a0 : w14.cell? ⟨g12, 0, none⟩ = some (.int .i64 0) := HK12_14.out.cell 0
      have a1 : w14.cell? ⟨g12, 1, none⟩ = some (.int .i64 0) := HK12_14.out.cell 1
      have b0 : w14.cell? ⟨g14, 0, none⟩ = some (.int .i64 0) := HK14_14.out.cell 0
      have b1 : w14.cell? ⟨g14, 1, none⟩ = some (.int .i64 0) := HK14_14.out.cell 1
      go_wp2_with fail
      refine (steps_zero w14 none (.inl rfl)).mono ?_
      rintro e w20 ⟨rfl, rfl⟩
      go_wp2_with fail
      refine (steps_zero w14 (some ⟨gz, 0, none⟩) HZ14.out).mono ?_
      rintro e w20 ⟨rfl, rfl⟩
      have HSk := Lib.hid (HS3.out.below HC14.out)
      go_wp2_with fail
      refine (steps_any w14 base M s HSk.out).mono ?_
      rintro e w20 ⟨rfl, rfl⟩
      rw [hst]
      go_wp2_with fail
      refine (works8_any _).mono ?_
      rintro e w21 ⟨rfl, hb21⟩
      have HB21 := Lib.hid (HB14.out.trans (hb21.mono HB14.out.size))
      clear hb21
      go_wp2_with fail
      go_ret
      exact ⟨rfl, HB21.out⟩
end Go.Proofs.Ytfmcjmkdlldlhaa
