/-
  The walk of LongestBoth.
-/
import Derived.Test.YtfmcjmkdlldlhaaLgWk
import Derived.Test.YtfmcjmkdlldlhaaLgOi
import Derived.Test.YtfmcjmkdlldlhaaLgI
import Derived.Test.YtfmcjmkdlldlhaaLgBo
namespace Go.Proofs.Ytfmcjmkdlldlhaa
open Go.RowKit
attribute [local go_sem] Oper.semAt_some

set_option maxRecDepth 100000 in
set_option maxHeartbeats 8000000 in
theorem longestBoth_any (w : World) (aa ab at' : Option Addr) (na ca nb cb nt ct : Nat) (A B : List Ins) (T : List Int) (f : Int) (hA : MI w aa na ca A) (hB : MI w ab nb cb B) (hRA : ∀ x ∈ A, InR x) (hRB : ∀ x ∈ B, InR x) (hna : na ≤ 2513169434916) (hnb : nb ≤ 2513169434916) (hT : SB w (.slice at' nt ct) T) :
    Calls Try.prog 6 #[.agg #[.slice aa na ca, .slice ab nb cb, .slice at' nt ct, .int .i64 f]] w fun e w' => e = .returned (.bool true) ∧ Below w.heap.size w w' := by
  have HA := Lib.hid hA
  have HB := Lib.hid hB
  have HR := Lib.hid (And.intro hRA hRB)
  have HST := Lib.hid hT
  have hlt := hT.len
  obtain ⟨rfl, hnt⟩ := hlt
  have hw1 : IntKind.i64.wrap ((na : Int) + (nb : Int)) = (na : Int) + (nb : Int) := IntWalk.i64_in _ (by omega)
  have HW1 := Lib.hid hw1
  clear hA hB hRA hRB hT
  go_enter Try.func6, Try.ntmps6
  go_upto_region 5 with fail
  have hb0 := (Below.refl w.heap.size w).alloc (Nat.le_refl _) (.cells #[.slice aa na ca, .slice ab nb cb, .slice at' T.length ct, .int .i64 f] 60)
  replace HA := Lib.hid (HA.out.below hb0)
  replace HB := Lib.hid (HB.out.below hb0)
  replace HST := Lib.hid (HST.out.below hb0)
  have HB0 := Lib.hid hb0
  clear hb0
  generalize w.alloc (.cells #[.slice aa na ca, .slice ab nb cb, .slice at' T.length ct, .int .i64 f] 60) = w0 at HA HB HST HB0 ⊢
  go_wp2_with fail
  rw [show (na : Int) + (nb : Int) = ((na + nb : Nat) : Int) by omega]
  refine (long_big _ (na + nb)).mono ?_
  rintro e w1 ⟨rfl, rfl⟩
  by_cases hL : 2147483647 < na + nb
  · rw [decide_eq_true hL]
    clear hL
    go_wp2_with fail
    go_ret
    exact ⟨rfl, HB0.out⟩
  rw [decide_eq_false hL]
  have HL1 := Lib.hid hL
  clear hL
  go_wp2_with fail
  refine (long_big _ T.length).mono ?_
  rintro e w1 ⟨rfl, rfl⟩
  by_cases hL : 2147483647 < T.length
  · rw [decide_eq_true hL]
    clear hL
    go_wp2_with fail
    go_ret
    exact ⟨rfl, HB0.out⟩
  rw [decide_eq_false hL]
  have HL2 := Lib.hid hL
  clear hL
  have hw2 : IntKind.i64.wrap ((na : Int) + (nb : Int) + 1) = (na : Int) + (nb : Int) + 1 := IntWalk.i64_in _ (by omega)
  go_wp2_with fail
  refine (heavy_any' _ _ _ (by omega)).mono ?_
  rintro e w1 ⟨rfl, rfl⟩
  generalize hh : heavyB ((na : Int) + (nb : Int) + 1) (T.length : Int) = hv
  cases hv
  case true =>
    clear hh
    go_wp2_with fail
    refine (works8_any _).mono ?_
    rintro e w1 ⟨rfl, hb1⟩
    have HB1 := Lib.hid (HB0.out.trans (hb1.mono HB0.out.size))
    clear hb1
    go_wp2_with fail
    go_ret
    exact ⟨rfl, HB1.out⟩
  have hq := heavyB_no (by omega) hh
  have HQ := Lib.hid (show T.length ≤ 400 ∧ na + nb + 1 ≤ 1048576 from ⟨by omega, by omega⟩)
  clear hh hq HL2 HL1 hw1 hw2 hna hnb hnt
  go_wp2_with fail
  refine (copyI_any _ _ _ _ A HA.out (by have := HQ.out; omega)).mono ?_
  rintro e w1 ⟨v1, rfl, ho1, hb1⟩
  obtain ⟨a1, c1, rfl⟩ := own_shape ho1
  have HN1 := Lib.hid (new_any w1 A _ _ _ (MI.own HA.out.1 ho1))
  have HB1 := Lib.hid hb1
  clear ho1 hb1
  go_wp2_with fail
  refine HN1.out.mono ?_
  rintro e w2 ⟨ps, es, rfl, hs2, hb2⟩
  have HS2 := Lib.hid hs2
  have HLE1 := Lib.hid HB1.out.size
  have HB2 := Lib.hid (HB1.out.trans (hb2.mono HB1.out.size))
  clear hs2 hb2 HN1 HB1
  generalize w1.heap.size = base1 at HS2 HLE1
  go_wp2_with fail
  refine (copyI_any _ _ _ _ B (HB.out.below HB2.out) (by have := HQ.out; omega)).mono ?_
  rintro e w3 ⟨v3, rfl, ho3, hb3⟩
  obtain ⟨a3, c3, rfl⟩ := own_shape ho3
  have HN3 := Lib.hid (new_any w3 B _ _ _ (MI.own HB.out.1 ho3))
  have HB3 := Lib.hid (HB2.out.trans (hb3.mono HB2.out.size))
  have HS3 := Lib.hid (HS2.out.below hb3)
  clear ho3 hb3 HB2 HS2
  go_wp2_with fail
  refine HN3.out.mono ?_
  rintro e w4 ⟨pt, et, rfl, ht4, hb4⟩
  have HT4 := Lib.hid ht4
  have HC34 := Lib.hid hb4
  have HB4 := Lib.hid (HB3.out.trans (hb4.mono HB3.out.size))
  have HBT := Lib.hid (fun (W : World) (h : Below w0.heap.size w0 W) => HB0.out.trans (h.mono HB0.out.size))
  have HLE3 := Lib.hid HB3.out.size
  have HB4' := Lib.hid (HBT.out _ HB4.out)
  clear ht4 hb4 HN3 HB3
  have hla : A.length = na := HA.out.2.1
  have hlb : B.length = nb := HB.out.2.1
  have HLA := Lib.hid (And.intro hla hlb)
  clear hla hlb
  rcases HS3.out with ⟨_, rfl, rfl⟩ | ⟨hsa, rfl, s, rfl, _, hs⟩
  · rcases HT4.out with ⟨_, rfl, rfl⟩ | ⟨_, rfl, t, rfl, _, _⟩
    · clear HS3 HT4
      go_wp2_with fail
      refine (works8_any _).mono ?_
      rintro e w7 ⟨rfl, hb7⟩
      have HB7 := Lib.hid (HB4'.out.trans (hb7.mono HB4'.out.size))
      clear hb7
      go_wp2_with fail
      go_ret
      exact ⟨rfl, HB7.out⟩
    · clear HS3 HT4
      go_wp2_with fail
      refine (works8_any _).mono ?_
      rintro e w7 ⟨rfl, hb7⟩
      have HB7 := Lib.hid (HB4'.out.trans (hb7.mono HB4'.out.size))
      clear hb7
      go_wp2_with fail
      go_ret
      exact ⟨rfl, HB7.out⟩
  rcases HT4.out with ⟨_, rfl, rfl⟩ | ⟨hsb, rfl, t, rfl, _, ht⟩
  · clear HS3 HT4
    go_wp2_with fail
    refine (works8_any _).mono ?_
    rintro e w7 ⟨rfl, hb7⟩
    have HB7 := Lib.hid (HB4'.out.trans (hb7.mono HB4'.out.size))
    clear hb7
    go_wp2_with fail
    go_ret
    exact ⟨rfl, HB7.out⟩
  have HMa := Lib.hid (Mach.mk hsa HA.out.1)
  have HMb := Lib.hid (Mach.mk hsb HB.out.1)
  have HSs := Lib.hid hs
  have HTt := Lib.hid ht
  clear hs ht hsa hsb HS3 HT4
  have hw1 : IntKind.i64.wrap ((na : Int) + (nb : Int)) = (na : Int) + (nb : Int) := HW1.out
  by_cases hbig : 65536 < na + nb
  · have e1 : decide ((65536 : Int) < (na : Int) + (nb : Int)) = true := decide_eq_true (by omega)
    clear hbig
    go_wp2_with fail
    refine (works8_any _).mono ?_
    rintro e w7 ⟨rfl, hb7⟩
    have HB7 := Lib.hid (HB4'.out.trans (hb7.mono HB4'.out.size))
    clear hb7
    go_wp2_with fail
    go_ret
    exact ⟨rfl, HB7.out⟩
  have e1 : decide ((65536 : Int) < (na : Int) + (nb : Int)) = false := decide_eq_false (by omega)
  have HBG := Lib.hid (show na + nb ≤ 65536 by omega)
  clear hbig HB4'
  have hw3 : IntKind.i64.wrap (1 + (na : Int)) = 1 + (na : Int) := IntWalk.i64_in _ (by have := HBG.out; omega)
  go_upto_region 14 with fail
  have ho5 := own_new7 w4 w4.heap.size [⟨5, noneL, 1, 1 + (na : Int)⟩] #[.int .i8 5, .int .u64 0, .int .u64 0, .int .u64 0, .int .u64 0, .int .i64 1, .int .i64 (1 + (na : Int))] rfl (Nat.le_refl _) (by show 1 ≤ maxLen; unfold maxLen; omega)
  have hc5 := (Below.refl w4.heap.size w4).alloc (Nat.le_refl _) (.cells #[.int .i8 5, .int .u64 0, .int .u64 0, .int .u64 0, .int .u64 0, .int .i64 1, .int .i64 (1 + (na : Int))] TI)
  have HO5 := Lib.hid ho5
  have HC5 := Lib.hid hc5
  clear ho5 hc5
  generalize w4.alloc (.cells #[.int .i8 5, .int .u64 0, .int .u64 0, .int .u64 0, .int .u64 0, .int .i64 1, .int .i64 (1 + (na : Int))] TI) = w5 at HO5 HC5 ⊢
  have HG := Lib.hid (fun (W : World) (h : Below w4.heap.size w4 W) => HB4.out.trans (h.mono HB4.out.size))
  go_wp2_with fail
  refine (placed_any w5 A aa na ca (HA.out.below (HG.out _ HC5.out)) (by have := HQ.out; omega) HR.out.1 1 (by omega) (mach_xs HMa.out)).mono ?_
  rintro e w6 ⟨v6, rfl, ho6, hb6⟩
  obtain ⟨a6, c6, rfl⟩ := own_shape ho6
  have HP6 := Lib.hid (show w6.ownsRow w5.heap.size TI 7 (.slice a6 A.length c6) (placedM 1 A).length (cellsI (placedM 1 A)) by rw [placedM_len]; exact ho6)
  have HO6 := Lib.hid (own_belowI HO5.out hb6)
  have HC6 := Lib.hid (HC5.out.trans (hb6.mono HC5.out.size))
  have hbs6 := HC6.out.size
  have hps6 : 0 < (placedM 1 A).length := by rw [placedM_len]; exact (shaped_parts HMa.out.sh).1
  have hsm6 : 1 + (placedM 1 A).length ≤ 1000000000000 := by rw [placedM_len]; have := HLA.out; have := HBG.out; omega
  clear ho6 hb6 HO5 HC5
  go_wp2_with (at_builtin; refine wpList_appIs rfl (.tmp 93) (.tmp 95) rfl w4.heap.size w5.heap.size _ 1 [⟨5, noneL, 1, 1 + (na : Int)⟩] (placedM 1 A) a6 A.length c6 rfl HO6.out rfl HP6.out hps6 hsm6 hbs6 ?_)
  intro v7 w7 ho7 hp7
  rw [placedM_len] at ho7
  obtain ⟨a7, c7, rfl⟩ := own_shape ho7
  have HO7 := Lib.hid ho7
  have HC7 := Lib.hid (hp7.bel _ _ HC6.out (Nat.le_refl _))
  clear ho7 hp7 HO6 HP6 HC6 hbs6 hps6 hsm6
  go_wp2_with fail
  refine (placed_any w7 B ab nb cb (HB.out.below (HG.out _ HC7.out)) (by have := HQ.out; omega) HR.out.2 (1 + (na : Int)) (by have := HBG.out; omega) (mach_xs HMb.out)).mono ?_
  rintro e w8 ⟨v8, rfl, ho8, hb8⟩
  obtain ⟨a8, c8, rfl⟩ := own_shape ho8
  have HP8 := Lib.hid (show w8.ownsRow w7.heap.size TI 7 (.slice a8 B.length c8) (placedM (1 + (na : Int)) B).length (cellsI (placedM (1 + (na : Int)) B)) by rw [placedM_len]; exact ho8)
  have HO8 := Lib.hid (own_belowI HO7.out hb8)
  have HC8 := Lib.hid (HC7.out.trans (hb8.mono HC7.out.size))
  have hbs8 := HC8.out.size
  have hps8 : 0 < (placedM (1 + (na : Int)) B).length := by rw [placedM_len]; exact (shaped_parts HMb.out.sh).1
  have hsm8 : 1 + A.length + (placedM (1 + (na : Int)) B).length ≤ 1000000000000 := by rw [placedM_len]; have := HLA.out; have := HBG.out; omega
  clear ho8 hb8 HO7 HC7
  go_wp2_with (at_builtin; refine wpList_appIs rfl (.tmp 97) (.tmp 102) rfl w4.heap.size w7.heap.size _ (1 + A.length) (⟨5, noneL, 1, 1 + (na : Int)⟩ :: placedM 1 A) (placedM (1 + (na : Int)) B) a8 B.length c8 rfl HO8.out rfl HP8.out hps8 hsm8 hbs8 ?_)
  intro v9 w9 ho9 hp9
  rw [placedM_len] at ho9
  obtain ⟨a9, c9, rfl⟩ := own_shape ho9
  have hbm : (⟨5, noneL, 1, 1 + (na : Int)⟩ :: (placedM 1 A ++ placedM (1 + (na : Int)) B)) = bothM A B := by
    rw [← HLA.out.1]
    rfl
  rw [hbm] at ho9
  have hl9 : 1 + A.length + B.length = (bothM A B).length := by rw [bothM_len]; omega
  rw [hl9] at ho9
  have HMu := Lib.hid (both_mach A B HMa.out HMb.out (by have := HLA.out; have := HBG.out; omega))
  have HN9 := Lib.hid (new_yes w9 (bothM A B) _ _ _ (MI.own HMu.out.cls ho9) HMu.out.sh)
  have HC9 := Lib.hid (hp9.bel _ _ HC8.out (Nat.le_refl _))
  rw [← hl9] at HN9
  clear ho9 hp9 HO8 HP8 HC8 hbs8 hps8 hsm8 hbm hl9
  go_wp2_with fail
  refine HN9.out.mono ?_
  rintro e w10 ⟨u, rfl, _, hu, hb10⟩
  have HUu := Lib.hid hu
  have HC10 := Lib.hid (HC9.out.trans (hb10.mono HC9.out.size))
  clear hu hb10 HN9
  have HDs := Lib.hid (show ∀ k, SBlk s k → k < w3.heap.size from fun k hk => (HSs.out.lt k hk).1)
  have HDt := Lib.hid (show ∀ k, SBlk t k → w3.heap.size ≤ k ∧ k < w4.heap.size from fun k hk => ⟨(HTt.out.lt k hk).2, (HTt.out.lt k hk).1⟩)
  have HDu := Lib.hid (show ∀ k, SBlk u k → w9.heap.size ≤ k ∧ k < w10.heap.size from fun k hk => ⟨(HUu.out.lt k hk).2, (HUu.out.lt k hk).1⟩)
  have HSZ := Lib.hid (show w4.heap.size ≤ w9.heap.size ∧ w4.heap.size ≤ w10.heap.size ∧ w3.heap.size ≤ w4.heap.size from ⟨HC9.out.size, HC10.out.size, HC34.out.size⟩)
  have HS10 := Lib.hid ((HSs.out.below HC34.out).below HC10.out)
  have HT10 := Lib.hid (HTt.out.below HC10.out)
  have HZ10 := Lib.hid (HG.out _ HC10.out)
  have HBO := Lib.hid (both_ends A B HMa.out HMb.out (by have := HLA.out; have := HBG.out; omega) T f)
  have hLx := ends_len3 A HMa.out T f
  have hLy := ends_len3 B HMb.out T f
  have hLz := ends_len3 (bothM A B) HMu.out T f
  have hL4 : (if outI T f then 0 else T.length + 1) ≤ 401 := by have := HQ.out; split <;> omega
  generalize (if outI T f then 0 else T.length + 1) = L at hLx hLy hLz hL4
  obtain ⟨lx, hx⟩ : ∃ l, (endsI A T f).1 = l := ⟨_, rfl⟩
  obtain ⟨ly, hy⟩ : ∃ l, (endsI B T f).1 = l := ⟨_, rfl⟩
  obtain ⟨lz, hz⟩ : ∃ l, (endsI (bothM A B) T f).1 = l := ⟨_, rfl⟩
  rw [hx] at hLx
  rw [hy] at hLy
  rw [hz] at hLz
  rw [hx, hy, hz] at HBO
  have HXE := Lib.hid (And.intro hx (And.intro hy hz))
  have HLN := Lib.hid (And.intro hLx (And.intro hLy (And.intro hLz hL4)))
  clear hx hy hz hLx hLy hLz hL4 HSs HTt HC34 HC9 HC10 HG HBG e1 hw1 hw3 HW1
  go_wp2_with fail
  -- the ends of a
  refine (copy_tx w10 _ T (HST.out.below HZ10.out)).mono ?_
  rintro e w11 ⟨a11, c11, rfl, htx, _, hb11⟩
  have he := ends_all w11 base1 A s (HS10.out.below hb11) HMa.out T a11 _ c11 htx f (by have := HQ.out; omega)
  unfold EndsAll at he
  rw [HXE.out.1] at he
  have HE := Lib.hid he
  have HT11 := Lib.hid (HT10.out.below hb11)
  have HU11 := Lib.hid (HUu.out.below hb11)
  have HZ11 := Lib.hid (HZ10.out.trans (hb11.mono HZ10.out.size))
  have HS11 := Lib.hid hb11.size
  clear he htx hb11 HT10 HUu HZ10 HS10
  go_wp2_with fail
  refine HE.out.mono ?_
  rintro e w12 ⟨vx, s12, rfl, hvx, hg12, _, _, hu12⟩
  obtain ⟨ax, cx, hsx⟩ := (hvx.bsb (by rw [HLN.out.1]; have := HLN.out; omega)).shape
  subst hsx
  have HT12 := Lib.hid (HT11.out.keep fun k hk => hu12.keep k (HT11.out.lt k hk).1 fun e => by have := HDs.out k e; have := HDt.out k hk; omega)
  have HU12 := Lib.hid (HU11.out.keep fun k hk => hu12.keep k (HU11.out.lt k hk).1 fun e => by have := HDs.out k e; have := HDu.out k hk; have := HSZ.out; have := HLE3.out; have := (HT11.out.size); omega)
  have HX12 := Lib.hid (hvx.keep (W' := w12) (lo' := w11.heap.size) (F' := fun k => SBlk t k ∨ SBlk u k) fun k _ h2 _ => ⟨rfl, by
    rintro (e | e)
    · have := HDt.out k e; have := HSZ.out; have := HS11.out; omega
    · have := HDu.out k e; have := HS11.out; omega, h2⟩)
  have HZ12 := Lib.hid (hu12.bel _ _ HZ11.out HLE1.out)
  clear hu12 hvx HE HT11 HU11 HZ11
  rw [HLN.out.1] at HX12 ⊢
  go_wp2_with fail
  -- the ends of b
  refine (copy_tx w12 _ T (HST.out.below HZ12.out)).mono ?_
  rintro e w13 ⟨a13, c13, rfl, htx, _, hb13⟩
  have he := ends_all w13 w3.heap.size B t (HT12.out.below hb13) HMb.out T a13 _ c13 htx f (by have := HQ.out; omega)
  unfold EndsAll at he
  rw [HXE.out.2.1] at he
  have HE := Lib.hid he
  have HU13 := Lib.hid (HU12.out.below hb13)
  have HX13 := Lib.hid (HX12.out.below hb13)
  have HZ13 := Lib.hid (HZ12.out.trans (hb13.mono HZ12.out.size))
  have HS13 := Lib.hid (show ∀ k, SBlk u k → k < w13.heap.size from fun k hk => (HU13.out.lt k hk).1)
  clear he htx hb13 HT12 HU12 HZ12 HX12
  go_wp2_with fail
  refine HE.out.mono ?_
  rintro e w14 ⟨vy, t14, rfl, hvy, hg14, _, _, hu14⟩
  obtain ⟨ay, cy, hsy⟩ := (hvy.bsb (by rw [HLN.out.2.1]; have := HLN.out; omega)).shape
  subst hsy
  have HU14 := Lib.hid (HU13.out.keep fun k hk => hu14.keep k (HU13.out.lt k hk).1 fun e => by have := HDt.out k e; have := HDu.out k hk; have := HSZ.out; omega)
  have HX14 := Lib.hid (HX13.out.keep (W' := w14) (lo' := 0) (F' := SBlk u) fun k h1 _ h3 => ⟨hu14.keep k h1 fun e => h3 (.inl e), fun e => h3 (.inr e), Nat.zero_le _⟩)
  have HY14 := Lib.hid (hvy.keep (W' := w14) (lo' := 0) (F' := SBlk u) fun k _ h2 _ => ⟨rfl, fun e => by have := HS13.out k e; omega, Nat.zero_le _⟩)
  have HZ14 := Lib.hid (hu14.bel _ _ HZ13.out HLE3.out)
  clear hu14 hvy HE HU13 HZ13 HX13 HS13
  rw [HLN.out.2.1] at HY14 ⊢
  go_wp2_with fail
  -- the ends of both
  refine (copy_tx w14 _ T (HST.out.below HZ14.out)).mono ?_
  rintro e w15 ⟨a15, c15, rfl, htx, _, hb15⟩
  have he := ends_all w15 w9.heap.size (bothM A B) u (HU14.out.below hb15) HMu.out T a15 _ c15 htx f (by have := HQ.out; omega)
  unfold EndsAll at he
  rw [HXE.out.2.2] at he
  have HE := Lib.hid he
  have HX15 := Lib.hid (HX14.out.below hb15)
  have HY15 := Lib.hid (HY14.out.below hb15)
  have HZ15 := Lib.hid (HZ14.out.trans (hb15.mono HZ14.out.size))
  have HL9 := Lib.hid (show w0.heap.size ≤ w9.heap.size by have := HLE3.out; have := HSZ.out; have := HB4.out.size; omega)
  clear he htx hb15 HU14 HZ14 HX14 HY14
  go_wp2_with fail
  refine HE.out.mono ?_
  rintro e w16 ⟨vz, u16, rfl, hvz, hg16, _, _, hu16⟩
  have hbz := hvz.bsb (by rw [HLN.out.2.2.1]; have := HLN.out; omega)
  obtain ⟨az, cz, hsz⟩ := hbz.shape
  subst hsz
  have hbx := (HX15.out.keep (W' := w16) (lo' := 0) (F' := fun _ => False) fun k h1 _ h3 => ⟨hu16.keep k h1 h3, fun e => e, Nat.zero_le _⟩).bsb (by have := HLN.out; omega)
  have hby := (HY15.out.keep (W' := w16) (lo' := 0) (F' := fun _ => False) fun k h1 _ h3 => ⟨hu16.keep k h1 h3, fun e => e, Nat.zero_le _⟩).bsb (by have := HLN.out; omega)
  have HZ16 := Lib.hid (hu16.bel _ _ HZ15.out HL9.out)
  rw [HLN.out.2.2.1] at hbz ⊢
  have HBX := Lib.hid hbx
  have HBY := Lib.hid hby
  have HBZ := Lib.hid hbz
  clear hu16 hvz HE HZ15 HX15 HY15 hbx hby hbz
  have hL4 : L ≤ 401 := HLN.out.2.2.2
  go_wp2_with fail
  go_loopw [17] (fun i wr => ∃ k q : Nat, k ≤ L ∧ i = .int .i64 k ∧ wr = w16.drewN q) (fun i _ => L - (intOf i).toNat)
  case atStart => exact ⟨0, 0, Nat.zero_le _, rfl, rfl⟩
  case round =>
    obtain ⟨k, q, hk, rfl, rfl⟩ := hrel
    by_cases hkl : k < L
    · have hkI : (k : Int) < (L : Int) := by omega
      have hkw : IntKind.i64.wrap ((k : Int) + 1) = (k : Int) + 1 := IntWalk.i64_in _ (by omega)
      obtain ⟨bx, ox, rfl, hcx⟩ := HBX.out.cell k (by rw [HLN.out.1]; exact hkl)
      obtain ⟨by', oy, rfl, hcy⟩ := HBY.out.cell k (by rw [HLN.out.2.1]; exact hkl)
      obtain ⟨bz, oz, rfl, hcz⟩ := HBZ.out.cell k (by rw [HLN.out.2.2.1]; exact hkl)
      have hbo := HBO.out k
      generalize lx[k]?.getD false = x at hcx hbo
      generalize ly[k]?.getD false = y at hcy hbo
      generalize lz[k]?.getD false = z at hcz hbo
      cases x
      · cases y
        · have hz0 : z = false := hbo
          subst hz0
          clear hbo
          go_wp2_with fail
          go_quiet (fail)
          go_wp2_with fail
          go_roundw
          case rel => exact ⟨k + 1, _, hkl, by go_num, by first | exact World.drewN_drewN _ _ _ | rfl⟩
          case measure => simp [intOf]; omega
        · have hz0 : z = true := hbo
          subst hz0
          clear hbo
          go_wp2_with fail
          go_quiet (fail)
          go_wp2_with fail
          go_roundw
          case rel => exact ⟨k + 1, _, hkl, by go_num, by first | exact World.drewN_drewN _ _ _ | rfl⟩
          case measure => simp [intOf]; omega
      · have hz0 : z = true := by rw [hbo]; rfl
        subst hz0
        clear hbo
        go_wp2_with fail
        go_quiet (fail)
        go_wp2_with fail
        go_roundw
        case rel => exact ⟨k + 1, _, hkl, by go_num, by first | exact World.drewN_drewN _ _ _ | rfl⟩
        case measure => simp [intOf]; omega
    · obtain rfl : k = L := by omega
      have hkI : ¬ (k : Int) < (k : Int) := by omega
      have HBz := Lib.hid (HBT.out _ (below_drewN HZ16.out q))
      go_wp2_with fail
      refine (works8_any _).mono ?_
      rintro e w20 ⟨rfl, hb20⟩
      have HB20 := Lib.hid (HBz.out.trans (hb20.mono HBz.out.size))
      clear hb20
      go_wp2_with fail
      go_ret
      exact ⟨rfl, HB20.out⟩
end Go.Proofs.Ytfmcjmkdlldlhaa
