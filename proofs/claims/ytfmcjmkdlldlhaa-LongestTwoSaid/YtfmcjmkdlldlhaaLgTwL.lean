/-
  The walk of LongestTwo.
-/
import Derived.Test.YtfmcjmkdlldlhaaLgWk
import Derived.Test.YtfmcjmkdlldlhaaLgOi
import Derived.Test.YtfmcjmkdlldlhaaLgI
import Derived.Test.YtfmcjmkdlldlhaaLgTw
import Derived.Test.YtfmcjmkdlldlhaaLong
import Derived.Test.YtfmcjmkdlldlhaaLists
namespace Go.Proofs.Ytfmcjmkdlldlhaa
open Go.RowKit
attribute [local go_sem] Oper.semAt_some

set_option maxRecDepth 100000 in
set_option maxHeartbeats 8000000 in
theorem longestTwo_any (w : World) (aa ab : Option Addr) (na ca nb cb : Nat) (Ma Mb : List Ins) (hMa : MI w aa na ca Ma) (hMb : MI w ab nb cb Mb) (hna : na ≤ 2513169434916) (hnb : nb ≤ 2513169434916) (vt : Value) (ts : List (List Int)) (ht : RB w vt ts) :
    Calls Try.prog 8 #[.slice aa na ca, .slice ab nb cb, vt] w fun e w' => e = .returned (.bool true) ∧ Below w.heap.size w w' := by
  have HRB := Lib.hid ht
  have HMA := Lib.hid hMa
  have HMB := Lib.hid hMb
  obtain ⟨at', ct, rfl, hlt, -, -, -⟩ := ht
  have hw1 : IntKind.i64.wrap ((na : Int) + (nb : Int)) = (na : Int) + (nb : Int) := IntWalk.i64_in _ (by omega)
  have HW1 := Lib.hid hw1
  clear hMa hMb
  go_enter Try.func8, Try.ntmps8
  go_wp2_with fail
  rw [show (na : Int) + (nb : Int) = ((na + nb : Nat) : Int) by omega] at hw1 ⊢
  refine (long_any _ (na + nb) (by omega)).mono ?_
  rintro e w1 ⟨rfl, rfl⟩
  by_cases hL : 2147483647 < na + nb
  · rw [decide_eq_true hL]
    clear hL
    go_wp2_with fail
    go_ret
    exact ⟨rfl, Below.refl _ _⟩
  rw [decide_eq_false hL]
  have HL1 := Lib.hid hL
  clear hL hna hnb
  go_wp2_with fail
  refine (long_any _ _ (by omega)).mono ?_
  rintro e w1 ⟨rfl, rfl⟩
  by_cases hL : 2147483647 < ts.length
  · rw [decide_eq_true hL]
    clear hL
    go_wp2_with fail
    go_ret
    exact ⟨rfl, Below.refl _ _⟩
  rw [decide_eq_false hL]
  have HL2 := Lib.hid (show na + nb ≤ 2147483647 ∧ ts.length ≤ 2147483647 from ⟨by have := HL1.out; omega, by omega⟩)
  clear hL HL1 hlt hw1
  go_wp2_with fail
  go_loopw [7] (fun i wr => ∃ k : Nat, k ≤ ts.length ∧ i = .int .i64 k ∧ wr = w ∧ ∀ j : Nat, j < k → (ts[j]?.getD []).length ≤ 400) (fun i _ => ts.length - (intOf i).toNat)
  case atStart => exact ⟨0, Nat.zero_le _, rfl, rfl, fun j h => absurd h (Nat.not_lt_zero _)⟩
  case round =>
    obtain ⟨k, hk, rfl, hwr, hall⟩ := hrel
    subst wr
    have HALL := Lib.hid hall
    clear hall
    by_cases hkl : k < ts.length
    · have hkI : (k : Int) < (ts.length : Int) := by omega
      obtain ⟨b, o, rfl, hc⟩ := HRB.out.read k hkl
      obtain ⟨ad, m, cc, hc1, hsb, -, -⟩ := hc k hkl
      have hm : m = (ts[k]?.getD []).length := (hsb.len.1).symm
      have hml : m ≤ 140737488351232 := hsb.len.2
      have HM0 := Lib.hid (show m = (ts[k]?.getD []).length ∧ m ≤ 140737488351232 from ⟨hm, hml⟩)
      have hk1 : IntKind.i64.wrap ((k : Int) + 1) = (k : Int) + 1 := IntWalk.i64_in _ (by have := HL2.out; omega)
      have hs2 : IntKind.i64.wrap ((na : Int) + (nb : Int)) = (na : Int) + (nb : Int) := HW1.out
      have hpr : 0 ≤ ((k : Int) + 1) * ((na : Int) + (nb : Int)) ∧ ((k : Int) + 1) * ((na : Int) + (nb : Int)) ≤ 2147483648 * 2147483647 := ⟨Int.mul_nonneg (by omega) (by omega), Int.mul_le_mul (by have := HL2.out; omega) (by have := HL2.out; omega) (by omega) (by omega)⟩
      have hpw : IntKind.i64.wrap (((k : Int) + 1) * ((na : Int) + (nb : Int))) = ((k : Int) + 1) * ((na : Int) + (nb : Int)) := IntWalk.i64_in _ (by omega)
      generalize ((k : Int) + 1) * ((na : Int) + (nb : Int)) = q at hpr hpw
      clear hc hsb hm hml hpr
      go_wp2_with fail
      generalize wrap64 (((k : Int) + 1) * ((na : Int) + (nb : Int))) = q2
      refine (heavy_any' _ _ _ (by omega)).mono ?_
      rintro e w1 ⟨rfl, rfl⟩
      generalize hh : heavyB q2 (m : Int) = hv
      cases hv
      case true =>
        clear hh
        have HB0 := Lib.hid (Below.refl w.heap.size w)
        go_wp2_with fail
        refine (works8_any _).mono ?_
        rintro e w1 ⟨rfl, hb1⟩
        have HB1 := Lib.hid (HB0.out.trans (hb1.mono HB0.out.size))
        clear hb1
        go_wp2_with fail
        go_ret
        exact ⟨rfl, HB1.out⟩
      have hq := heavyB_no (by omega) hh
      have HQ := Lib.hid (show m ≤ 400 by omega)
      clear hh hq hpw hs2
      go_wp2_with fail
      go_roundw
      case rel =>
        refine ⟨k + 1, hkl, by go_num, by first | rfl | trivial, fun j hj => ?_⟩
        rcases Nat.lt_succ_iff_lt_or_eq.1 hj with h | rfl
        · exact HALL.out j h
        · have := HQ.out; have := HM0.out; omega
      case measure => simp [intOf]; omega
    · obtain rfl : k = ts.length := by omega
      have hkI : ¬ (ts.length : Int) < (ts.length : Int) := by omega
      have hA9 : na ≤ 2147483647 ∧ nb ≤ 2147483647 := by have := HL2.out; omega
      go_wp2_with fail
      refine (copyI_any _ _ _ _ Ma HMA.out hA9.1).mono ?_
      rintro e w1 ⟨v1, rfl, ho1, hb1⟩
      obtain ⟨a1, c1, rfl⟩ := own_shape ho1
      have HN1 := Lib.hid (new_any w1 Ma _ _ _ (MI.own HMA.out.1 ho1))
      have HB1 := Lib.hid hb1
      clear ho1 hb1
      go_wp2_with fail
      refine HN1.out.mono ?_
      rintro e w2 ⟨ps, es, rfl, hs2, hb2⟩
      have HS2 := Lib.hid hs2
      have HLE1 := Lib.hid HB1.out.size
      have HB2 := Lib.hid (HB1.out.trans (hb2.mono HB1.out.size))
      clear hs2 hb2 HN1 HB1
      generalize w1.heap.size = base1 at HS2 HLE1
      go_wp2_with fail
      refine (copyI_any _ _ _ _ Mb (HMB.out.below HB2.out) hA9.2).mono ?_
      rintro e w3 ⟨v3, rfl, ho3, hb3⟩
      obtain ⟨a3, c3, rfl⟩ := own_shape ho3
      have HN3 := Lib.hid (new_any w3 Mb _ _ _ (MI.own HMB.out.1 ho3))
      have HB3 := Lib.hid (HB2.out.trans (hb3.mono HB2.out.size))
      have HS3 := Lib.hid (HS2.out.below hb3)
      have HLE3 := Lib.hid hb3.size
      clear ho3 hb3
      go_wp2_with fail
      refine HN3.out.mono ?_
      rintro e w4 ⟨pt, et, rfl, ht4, hb4⟩
      have HT4 := Lib.hid ht4
      have HLE4 := Lib.hid HB3.out.size
      have HB4 := Lib.hid (HB3.out.trans (hb4.mono HB3.out.size))
      have HC34 := Lib.hid hb4
      clear ht4 hb4 HN3 HB3
      clear HS2 HB2
      go_wp2_with fail
      refine (copyI_any _ _ _ _ Ma (HMA.out.below HB4.out) hA9.1).mono ?_
      rintro e w5 ⟨v5, rfl, ho5, hb5⟩
      obtain ⟨a5, c5, rfl⟩ := own_shape ho5
      have HN5 := Lib.hid (new_any w5 Ma _ _ _ (MI.own HMA.out.1 ho5))
      have HB5 := Lib.hid (HB4.out.trans (hb5.mono HB4.out.size))
      have HT5 := Lib.hid (HT4.out.below hb5)
      have HC35 := Lib.hid (HC34.out.trans (hb5.mono HC34.out.size))
      clear ho5 hb5 HB4 HT4 HC34
      go_wp2_with fail
      refine HN5.out.mono ?_
      rintro e w6 ⟨pu, eu, rfl, hu6, hb6⟩
      have HU6 := Lib.hid hu6
      have HB6 := Lib.hid (HB5.out.trans (hb6.mono HB5.out.size))
      have HC6 := Lib.hid hb6
      clear hu6 hb6 HN5
      rcases HS3.out with ⟨_, rfl, rfl⟩ | ⟨hsa, rfl, s, rfl, _, hs⟩
      · rcases HT5.out with ⟨_, rfl, rfl⟩ | ⟨_, rfl, t, rfl, _, _⟩
        · clear HS3 HT5 HB5
          go_wp2_with fail
          refine (works8_any _).mono ?_
          rintro e w7 ⟨rfl, hb7⟩
          have HB7 := Lib.hid (HB6.out.trans (hb7.mono HB6.out.size))
          clear hb7
          go_wp2_with fail
          go_ret
          exact ⟨rfl, HB7.out⟩
        · clear HS3 HT5 HB5
          go_wp2_with fail
          refine (works8_any _).mono ?_
          rintro e w7 ⟨rfl, hb7⟩
          have HB7 := Lib.hid (HB6.out.trans (hb7.mono HB6.out.size))
          clear hb7
          go_wp2_with fail
          go_ret
          exact ⟨rfl, HB7.out⟩
      · rcases HT5.out with ⟨_, rfl, rfl⟩ | ⟨hsb, rfl, t, rfl, _, ht⟩
        · clear HS3 HT5 HB5
          go_wp2_with fail
          refine (works8_any _).mono ?_
          rintro e w7 ⟨rfl, hb7⟩
          have HB7 := Lib.hid (HB6.out.trans (hb7.mono HB6.out.size))
          clear hb7
          go_wp2_with fail
          go_ret
          exact ⟨rfl, HB7.out⟩
        · rcases HU6.out with ⟨hsu, _, _⟩ | ⟨_, rfl, u, rfl, _, hu⟩
          · rw [hsa] at hsu; cases hsu
          have HMa := Lib.hid (Mach.mk hsa HMA.out.1)
          have HMb := Lib.hid (Mach.mk hsb HMB.out.1)
          have HSs := Lib.hid hs
          have HTt := Lib.hid ht
          have HUu := Lib.hid hu
          have HLEs := Lib.hid (And.intro HLE1.out HLE4.out)
          clear hsa hsb hs ht hu HS3 HT5 HU6 HLE1 HLE3 HLE4
          go_wp2_with fail
          go_loopw [14, 15] (fun al i w10 => ∃ k : Nat, k ≤ ts.length ∧ i = .int .i64 k ∧ TwA w w5 w10 Ma u.g ts k al) (fun _ i _ => ts.length - (intOf i).toNat)
          case atStart => exact ⟨0, Nat.zero_le _, rfl, HB6.out, HC6.out, u, [], rfl, HUu.out, AL.nil _ _ _⟩
          case round =>
            obtain ⟨k, hk, rfl, hA⟩ := hrel
            have HA := Lib.hid hA
            clear hA
            by_cases hkl : k < ts.length
            · have hkI : (k : Int) < (ts.length : Int) := by omega
              obtain ⟨b, o, rfl, hc⟩ := (HRB.out.below HA.out.bel).read k hkl
              obtain ⟨ad, m, cc, hc1, hsb, -, -⟩ := hc k hkl
              have h4 := HALL.out k hkl
              have hgk : ts[k]?.getD [] = ts[k] := by rw [List.getElem?_eq_getElem hkl]; rfl
              rw [hgk] at hsb h4
              have HSB := Lib.hid hsb
              obtain ⟨su, vals, hug, hsu, hal⟩ := HA.out.u
              have HSU := Lib.hid hsu
              have HAL := Lib.hid hal
              have hnl : vals.length = k := by rw [hal.len, List.length_map, List.length_take]; omega
              have hm : m = ts[k].length := (hsb.len.1).symm
              subst hm
              clear hc hsb hsu hal hgk
              go_wp2_with fail
              refine (copy_tx wr _ ts[k] HSB.out).mono ?_
              rintro e w7 ⟨ac, c7, rfl, htx7, _, hb7⟩
              have he := ends_all w7 w5.heap.size Ma su (HSU.out.below hb7) HMa.out ts[k] ac _ c7 htx7 0 (by omega)
              rw [hug] at he
              have HE := Lib.hid he
              have HBa := Lib.hid (And.intro (HA.out.bel.trans (hb7.mono HA.out.bel.size)) (HA.out.bel3.trans (hb7.mono HA.out.bel3.size)))
              have HAL7 := Lib.hid (HAL.out.below hb7)
              clear he htx7 hb7 HAL HSU HA HSB
              go_wp2_with fail
              refine HE.out.mono ?_
              rintro e w8 ⟨v, su8, rfl, hv, hg8, _, hs8, hu8⟩
              have hel := endsI_len Ma HMa.out ts[k] 0 (by rintro (h | h) <;> omega)
              have hone := hv.one
              have HV := Lib.hid (hv.keep (lo' := w5.heap.size) fun k _ h2 h3 => ⟨rfl, h3, Nat.le_trans HBa.out.2.size h2⟩)
              rcases hv with ⟨_, h0⟩ | ⟨g, rfl, _, _, _⟩
              · rw [h0] at hel; simp at hel
              have HAL8 := Lib.hid (HAL7.out.up hu8)
              have HB8 := Lib.hid (And.intro (hu8.bel _ _ HBa.out.1 HB5.out.size) (hu8.bel _ _ HBa.out.2 (Nat.le_refl _)))
              have HS8 := Lib.hid hs8
              have hsz8 := HB8.out.2.size
              have hown8 := HAL8.out.own
              rw [hnl] at hown8
              have HO8 := Lib.hid hown8
              have hk6 : k + 1 ≤ 1000000000000 := by have := HL2.out; omega
              have hkw : IntKind.i64.wrap ((k : Int) + 1) = (k : Int) + 1 := IntWalk.i64_in _ (by omega)
              have hg8' : su8.g = u.g := hg8.trans hug
              clear HE HAL7 hu8 hs8 HBa hown8 hel
              go_wp2_with (at_builtin; refine wpList_appL (w := w8) rfl (.tmp 96) (.tmp 104) rfl w5.heap.size _ k vals _ hone _ rfl rfl rfl HO8.out rfl hk6 hsz8 ?_)
              intro g9 cap9 w9 ho9 hp9
              have HA9 := Lib.hid (show TwA w w5 w9 Ma u.g ts (k + 1) (.slice (some ⟨g9, 0, none⟩) (k + 1) cap9) from ⟨hp9.bel _ _ HB8.out.1 HB5.out.size, hp9.bel _ _ HB8.out.2 (Nat.le_refl _), su8, _, hg8', HS8.out.app hp9 HAL8.out.far, by
                rw [take_map_snoc _ ts k hkl]
                exact HAL8.out.push HV.out (by rw [hnl]; exact ho9) hp9 fun k hk => (HS8.out.lt k hk).1⟩)
              clear ho9 hp9 HAL8 HV HS8 HB8 HO8 hsz8 hone
              go_wp2_with fail
              go_roundw
              case rel => exact ⟨k + 1, hkl, by go_num, HA9.out⟩
              case measure => simp [intOf]; omega
            · obtain rfl : k = ts.length := by omega
              have hkI : ¬ (ts.length : Int) < (ts.length : Int) := by omega
              obtain ⟨su, vals, -, -, hal⟩ := HA.out.u
              rw [List.take_length] at hal
              obtain ⟨aal, cal, heq⟩ := own_shape hal.own
              have hnl : vals.length = ts.length := by rw [hal.len, List.length_map]
              rw [hnl] at heq
              subst heq
              have HAL := Lib.hid (hal.keep (F' := fun _ => False) fun k _ _ _ => ⟨rfl, fun h => h⟩)
              have HCC := Lib.hid (show TwC w wr wr base1 w3.heap.size Ma Mb s t w5.heap.size wr.heap.size from
                { bel := HA.out.bel
                  b1 := HLEs.out.1
                  b2 := HLEs.out.2
                  sob := (HSs.out.below HC35.out).below HA.out.bel3
                  tob := HTt.out.below HA.out.bel3
                  dis := fun k h1 h2 => by
                    have := (HSs.out.lt k h1).1
                    have := (HTt.out.lt k h2).2
                    omega
                  avs := fun k h1 => .inl ((HSs.out.below HC35.out).lt k h1).1
                  avt := fun k h1 => .inl (HTt.out.lt k h1).1
                  far := fun _ _ _ => rfl
                  sz := Nat.le_refl _ })
              clear hal HA HB5 HC35 HB6 HC6 HSs HTt HUu HLEs
              go_wp2_with fail
              go_loopw [16] (fun i wz => ∃ k : Nat, k ≤ ts.length ∧ i = .int .i64 k ∧ ∃ s' t' : SO, s'.g = s.g ∧ t'.g = t.g ∧ TwC w wr wz base1 w3.heap.size Ma Mb s' t' w5.heap.size wr.heap.size) (fun i _ => ts.length - (intOf i).toNat)
              case atStart => exact ⟨0, Nat.zero_le _, rfl, s, t, rfl, rfl, HCC.out⟩
              case round =>
                obtain ⟨k, hk, rfl, s1, t1, hsg, htg, hC⟩ := hrel
                have HC := Lib.hid hC
                clear hC HCC
                by_cases hkl : k < ts.length
                · have hkI : (k : Int) < (ts.length : Int) := by omega
                  obtain ⟨b, o, rfl, hc⟩ := (HRB.out.below HC.out.bel).read k hkl
                  obtain ⟨ad, m, cc, hc1, hsb, -, -⟩ := hc k hkl
                  have h4 := HALL.out k hkl
                  have hgk : ts[k]?.getD [] = ts[k] := by rw [List.getElem?_eq_getElem hkl]; rfl
                  rw [hgk] at hsb h4
                  have HSB := Lib.hid hsb
                  have hm : m = ts[k].length := (hsb.len.1).symm
                  subst hm
                  clear hc hsb hgk
                  go_wp2_with fail
                  refine (copy_tx wr _ ts[k] HSB.out).mono ?_
                  rintro e w7 ⟨ac, c7, rfl, htx7, _, hb7⟩
                  have HC7 := Lib.hid (HC.out.below hb7)
                  have he := ends_all w7 base1 Ma s1 HC7.out.sob HMa.out ts[k] ac _ c7 htx7 0 (by omega)
                  rw [hsg] at he
                  have HE := Lib.hid he
                  have HSB7 := Lib.hid (HSB.out.below hb7)
                  have HCT7 := Lib.hid (show w7.cell? ⟨b, o + k, none⟩ = some (.slice ad ts[k].length cc) from by
                    rw [hb7.cell (World.block_lt_of_cell? _ _ hc1)]; exact hc1)
                  have HBW := Lib.hid (HC.out.bel.trans (hb7.mono HC.out.bel.size))
                  clear he htx7 hb7 HC HSB hc1
                  go_wp2_with fail
                  refine HE.out.mono ?_
                  rintro e w8 ⟨v, s8, rfl, hv, hg8, _, hs8, hu8⟩
                  have hel := endsI_len Ma HMa.out ts[k] 0 (by rintro (h | h) <;> omega)
                  have HC8 := Lib.hid (HC7.out.ups hu8 hs8)
                  have HV8 := Lib.hid hv
                  rcases hv with ⟨_, h0⟩ | ⟨g, rfl, _, _, _⟩
                  · rw [h0] at hel; simp at hel
                  have hg8' : s8.g = s.g := hg8.trans hsg
                  have hst8 := steps_any w8 base1 Ma s8 HC8.out.sob
                  rw [hg8'] at hst8
                  have HST8 := Lib.hid hst8
                  have HLT := Lib.hid (show ∀ k, SBlk t1 k → k < w7.heap.size from fun k hk => (HC7.out.tob.lt k hk).1)
                  obtain ⟨b8, o8, hbo8, hc8⟩ := (HRB.out.below HC8.out.bel).read k hkl
                  simp only [Option.some.injEq, Addr.mk.injEq, and_true] at hbo8
                  obtain ⟨rfl, rfl⟩ := hbo8
                  obtain ⟨ad8, m8, cc8, hc81, hsb8, -, -⟩ := hc8 k hkl
                  have hgk : ts[k]?.getD [] = ts[k] := by rw [List.getElem?_eq_getElem hkl]; rfl
                  rw [hgk] at hsb8
                  have HSB8 := Lib.hid hsb8
                  have hm : m8 = ts[k].length := (hsb8.len.1).symm
                  subst hm
                  clear hc8 hsb8 hgk HE hu8 hs8 HC7 hst8 HCT7 HSB7 HBW
                  go_wp2_with fail
                  refine HST8.out.mono ?_
                  rintro e w8' ⟨rfl, rfl⟩
                  go_wp2_with fail
                  refine (copy_tx w8 _ ts[k] HSB8.out).mono ?_
                  rintro e w9 ⟨ac9, c9, rfl, htx9, _, hb9⟩
                  have HC9 := Lib.hid (HC8.out.below hb9)
                  have HV9 := Lib.hid (HV8.out.below hb9)
                  have he := find_all w9 w3.heap.size Mb t1 HC9.out.tob HMb.out ts[k] ac9 _ c9 htx9 0 (by omega)
                  rw [htg] at he
                  have HF := Lib.hid he
                  clear he htx9 hb9 HC8 HV8 HSB8 hc81
                  go_wp2_with fail
                  refine HF.out.mono ?_
                  rintro e w10 ⟨rfl, t10, hg10, _, ht10, hu10⟩
                  have HC10 := Lib.hid (HC9.out.upt hu10 ht10)
                  have hg10' : t10.g = t.g := hg10.trans htg
                  have HV10 := Lib.hid (HV9.out.keep (W' := w10) (lo' := 0) (F' := fun _ => False) fun q h1 h2 _ => ⟨hu10.keep q h1 fun e => by have := HLT.out q e; omega, fun h => h, Nat.zero_le _⟩)
                  have hal10 := HAL.out.keep (W' := w10) (F' := fun _ => False) fun q h1 h2 _ => ⟨HC10.out.far q h2 h1, fun h => h⟩
                  obtain ⟨-, ga, va, rfl, hca, hva⟩ := hal10.read rfl k (by rw [List.length_map]; exact hkl)
                  have hmk : (ts.map fun tx => (endsI Ma tx 0).1)[k]?.getD [] = (endsI Ma ts[k] 0).1 := by
                    rw [List.getElem?_map, List.getElem?_eq_getElem hkl]; rfl
                  rw [hmk] at hva
                  have heq := eqBools_any w10 _ va _ _ (HV10.out.bsb (by omega)) (hva.bsb (by omega))
                  rw [hel] at heq
                  have HEQ := Lib.hid heq
                  clear heq
                  clear HF ht10 hu10 HC9 HV9 hal10 hva hmk HLT HV10
                  go_wp2_with fail
                  refine HEQ.out.mono ?_
                  rintro e w11 ⟨rfl, nq, rfl⟩
                  have HC11 := Lib.hid (HC10.out.below (below_drewN (Below.refl _ w10) nq))
                  generalize w10.drewN nq = w11 at HC11 ⊢
                  have hst11 := steps_any w11 base1 Ma s8 HC11.out.sob
                  rw [hg8'] at hst11
                  have HST11 := Lib.hid hst11
                  rw [decide_true]
                  have hkw : IntKind.i64.wrap ((k : Int) + 1) = (k : Int) + 1 := IntWalk.i64_in _ (by have := HL2.out; omega)
                  clear HEQ HC10 hst11 hca
                  go_wp2_with fail
                  refine HST11.out.mono ?_
                  rintro e w12 ⟨rfl, rfl⟩
                  go_wp2_with fail
                  go_roundw
                  case rel => exact ⟨k + 1, hkl, by go_num, s8, t10, hg8', hg10', HC11.out⟩
                  case measure => simp [intOf]; omega
                · obtain rfl : k = ts.length := by omega
                  have hkI : ¬ (ts.length : Int) < (ts.length : Int) := by omega
                  have HBz := Lib.hid HC.out.bel
                  go_wp2_with fail
                  refine (works8_any _).mono ?_
                  rintro e w7 ⟨rfl, hb7⟩
                  have HB7 := Lib.hid (HBz.out.trans (hb7.mono HBz.out.size))
                  clear hb7
                  go_wp2_with fail
                  go_ret
                  exact ⟨rfl, HB7.out⟩
end Go.Proofs.Ytfmcjmkdlldlhaa
