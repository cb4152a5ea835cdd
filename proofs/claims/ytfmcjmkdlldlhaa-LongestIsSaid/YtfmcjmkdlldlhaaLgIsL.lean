/-
  The walk of LongestIs.
-/
import Derived.Test.YtfmcjmkdlldlhaaLgWk
import Derived.Test.YtfmcjmkdlldlhaaLgOi
import Derived.Test.YtfmcjmkdlldlhaaLgI
import Derived.Test.YtfmcjmkdlldlhaaLong
namespace Go.Proofs.Ytfmcjmkdlldlhaa
open Go.RowKit
attribute [local go_sem] Oper.semAt_some

/-- The last place of a list that is told, of those ahead of n. -/
def lastB (l : List Bool) : Nat → Int
  | 0 => -1
  | n + 1 => if l[n]?.getD false then (n : Int) else lastB l n
theorem lastB_spec (l : List Bool) (n : Nat) : (lastB l n = -1 ∧ ∀ q, q < n → l[q]?.getD false = false) ∨ (∃ t : Nat, lastB l n = (t : Int) ∧ t < n ∧ l[t]?.getD false = true ∧ ∀ q, t < q → q < n → l[q]?.getD false = false) := by
  induction n with
  | zero => exact .inl ⟨rfl, fun q h => absurd h (Nat.not_lt_zero _)⟩
  | succ n ih =>
    unfold lastB
    cases h : l[n]?.getD false with
    | true => exact .inr ⟨n, by simp, by omega, h, fun q h1 h2 => by omega⟩
    | false =>
      rcases ih with ⟨h1, h2⟩ | ⟨t, h1, h2, h3, h4⟩
      · refine .inl ⟨by simpa using h1, fun q hq => ?_⟩
        rcases Nat.lt_succ_iff_lt_or_eq.1 hq with h5 | rfl
        · exact h2 q h5
        · exact h
      · refine .inr ⟨t, by simpa using h1, by omega, h3, fun q h5 h6 => ?_⟩
        rcases Nat.lt_succ_iff_lt_or_eq.1 h6 with h7 | rfl
        · exact h4 q h5 h7
        · exact h
/-- What the loop of LongestIs knows: no place ahead of p has an end. -/
theorem is_found (M : List Ins) (hM : Mach M) (tx : List Int) (f p : Nat) (hf : f ≤ p) (hp : p ≤ tx.length) (hno : ∀ g q, f ≤ g → g < p → ¬ IsEnd M tx g q) (t : Nat) (ht : (endsM M tx p).1[t]?.getD false = true) (hl : ∀ q, t < q → q < tx.length + 1 → (endsM M tx p).1[q]?.getD false = false) : (findM M tx f).1 = some (p, t) := by
  obtain ⟨h1, h2⟩ := ends_spec M tx hM.shp.good p hp
  refine find_some M tx hM.shp.good f (by omega) p t hf hp ((h2 t).1 ht) hno fun q hq he => ?_
  have h3 := (h2 q).2 he
  by_cases h4 : q < tx.length + 1
  · rw [hl q hq h4] at h3; cases h3
  · rw [List.getElem?_eq_none (by omega)] at h3; cases h3
theorem is_none (M : List Ins) (hM : Mach M) (tx : List Int) (p : Nat) (hp : p ≤ tx.length) (hl : ∀ q, q < tx.length + 1 → (endsM M tx p).1[q]?.getD false = false) (q : Nat) : ¬ IsEnd M tx p q := by
  obtain ⟨h1, h2⟩ := ends_spec M tx hM.shp.good p hp
  intro he
  have h3 := (h2 q).2 he
  by_cases h4 : q < tx.length + 1
  · rw [hl q h4] at h3; cases h3
  · rw [List.getElem?_eq_none (by omega)] at h3; cases h3
/-- A list of ends has none ahead of its place. -/
theorem ends_from (M : List Ins) (hM : Mach M) (tx : List Int) (p : Nat) (hp : p ≤ tx.length) (t : Nat) (h : (endsM M tx p).1[t]?.getD false = true) : p ≤ t :=
  isEnd_le M tx (((ends_spec M tx hM.shp.good p hp).2 t).1 h)
set_option maxRecDepth 100000 in
set_option maxHeartbeats 8000000 in
theorem longestIs_any (w : World) (am : Option Addr) (nm cm : Nat) (M : List Ins) (hM : MI w am nm cm M) (hnm : nm ≤ 140737488351232) (vt : Value) (tx : List Int) (ht : SB w vt tx) (f : Int) (hf : -9223372036854775808 ≤ f ∧ f ≤ 9223372036854775807) :
    Calls Try.prog 4 #[.slice am nm cm, vt, .int .i64 f] w fun e w' => e = .returned (.bool true) ∧ Below w.heap.size w w' := by
  have HST := Lib.hid ht
  have HMI := Lib.hid hM
  obtain ⟨-, at', ct, rfl, hlt, -⟩ := ht
  have HL := Lib.hid hlt
  have HF := Lib.hid hf
  clear hM hlt hf
  go_enter Try.func4, Try.ntmps4
  go_wp2_with fail
  refine (long_any _ _ hnm).mono ?_
  rintro e w1 ⟨rfl, rfl⟩
  by_cases hL : 2147483647 < nm
  · rw [decide_eq_true hL]
    clear hL
    go_wp2_with fail
    go_ret
    exact ⟨rfl, Below.refl _ _⟩
  rw [decide_eq_false hL]
  have HL1 := Lib.hid hL
  clear hL
  go_wp2_with fail
  refine (long_any _ _ HL.out).mono ?_
  rintro e w1 ⟨rfl, rfl⟩
  by_cases hL : 2147483647 < tx.length
  · rw [decide_eq_true hL]
    clear hL
    go_wp2_with fail
    go_ret
    exact ⟨rfl, Below.refl _ _⟩
  rw [decide_eq_false hL]
  have HL2 := Lib.hid hL
  clear hL
  go_wp2_with fail
  refine (heavy_any _ _ _ (by omega) (by have := HL2.out; omega)).mono ?_
  rintro e w1 ⟨rfl, rfl⟩
  generalize hh : heavyB (nm : Int) (tx.length : Int) = hv
  cases hv
  case true =>
    clear hh
    have HB0 := Lib.hid (Below.refl w.heap.size w)
    go_wp2_with fail
    refine (works8_any _).mono ?_
    rintro e w1 ⟨rfl, hb1⟩
    have HB1 := Lib.hid (HB0.out.trans (hb1.mono HB0.out.size))
    clear hb1
    go_wp2_with fail
    go_ret
    exact ⟨rfl, HB1.out⟩
  have hq := heavyB_no (by omega) hh
  have HQ := Lib.hid (show tx.length ≤ 400 ∧ nm ≤ 1048576 from ⟨by omega, by omega⟩)
  clear hh hq HL2 HL1
  go_wp2_with fail
  refine (copyI_any _ _ _ _ M HMI.out HQ.out.2).mono ?_
  rintro e w1 ⟨v1, rfl, ho1, hb1⟩
  obtain ⟨a1, c1, rfl⟩ := own_shape ho1
  have HI1 := Lib.hid (MI.own HMI.out.1 ho1)
  have HB1 := Lib.hid hb1
  clear ho1 hb1
  cases hsh : shapedM M with
  | false =>
    have HN := Lib.hid (new_no w1 M _ _ _ HI1.out hsh)
    clear hsh
    go_wp2_with fail
    refine HN.out.mono ?_
    rintro e w2 ⟨rfl, hb2⟩
    have HB2 := Lib.hid (HB1.out.trans (hb2.mono HB1.out.size))
    clear hb2 HN
    go_wp2_with fail
    refine (works8_any _).mono ?_
    rintro e w3 ⟨rfl, hb3⟩
    have HB3 := Lib.hid (HB2.out.trans (hb3.mono HB2.out.size))
    clear hb3
    go_wp2_with fail
    go_ret
    exact ⟨rfl, HB3.out⟩
  | true =>
    have HM := Lib.hid (Mach.mk hsh HMI.out.1)
    have HN := Lib.hid (new_yes w1 M _ _ _ HI1.out hsh)
    clear hsh
    go_wp2_with fail
    refine HN.out.mono ?_
    rintro e w2 ⟨s, rfl, _, hs, hb2⟩
    have HS := Lib.hid hs
    have HLE := Lib.hid HB1.out.size
    have HB2 := Lib.hid (HB1.out.trans (hb2.mono HB1.out.size))
    clear hs hb2 HN HB1 HI1
    generalize w1.heap.size = base at HS HLE
    go_wp2_with fail
    refine (copy_tx w2 _ tx (HST.out.below HB2.out)).mono ?_
    rintro e w3 ⟨ac, cc, rfl, htx, _, hb3⟩
    have HF4 := Lib.hid (find_all w3 base M s (HS.out.below hb3) HM.out tx ac _ cc htx f (by have := HQ.out; omega))
    have HB3 := Lib.hid (HB2.out.trans (hb3.mono HB2.out.size))
    clear htx hb3 HB2 HS
    go_wp2_with fail
    refine HF4.out.mono ?_
    rintro e w4 ⟨rfl, s4, hg4, hst4, hs4, hu4⟩
    have HB4 := Lib.hid (hu4.bel _ _ HB3.out HLE.out)
    have HS4 := Lib.hid hs4
    rw [← hg4]
    generalize s.g = sg at hg4 ⊢
    subst hg4
    clear hu4 hs4 HF4 HB3
    generalize hfi : findI M tx f = o at hst4 ⊢
    obtain ⟨o, st⟩ := o
    dsimp only at hst4 ⊢
    subst hst4
    have HFI := Lib.hid hfi
    clear hfi
    go_upto_region 9 with fail
    have HA := Lib.hid (At.new w4 TSp [.int .i64 (spF o), .int .i64 (spT o)])
    have HNF := Lib.hid (show ¬ SBlk s4 w4.heap.size from fun h => Nat.lt_irrefl _ (HS4.out.lt _ h).1)
    have hb5 := (Below.refl w4.heap.size w4).alloc (Nat.le_refl _) (.cells #[.int .i64 (spF o), .int .i64 (spT o)] TSp)
    have HS5 := Lib.hid (HS4.out.below hb5)
    have HB5 := Lib.hid (HB4.out.trans (hb5.mono HB4.out.size))
    clear HS4 HB4 hb5
    change Hid (At (w4.alloc (.cells #[.int .i64 (spF o), .int .i64 (spT o)] TSp)) w4.heap.size TSp _) at HA
    generalize w4.alloc (.cells #[.int .i64 (spF o), .int .i64 (spT o)] TSp) = w5 at HA HS5 HB5 ⊢
    generalize w4.heap.size = x9 at HA HNF ⊢
    go_wp2_with fail
    refine (steps_any _ base M s4 HS5.out).mono ?_
    rintro e w6 ⟨rfl, rfl⟩
    have c0 : w5.cell? ⟨x9, 0, none⟩ = some (.int .i64 (spF o)) := HA.out.cell 0
    have c1 : w5.cell? ⟨x9, 1, none⟩ = some (.int .i64 (spT o)) := HA.out.cell 1
    by_cases hf0 : f < 0
    · have e1 : decide (f < 0) = true := decide_eq_true hf0
      obtain rfl : o = none := by
        have h := congrArg Prod.fst HFI.out
        unfold findI at h
        rw [if_pos (.inl hf0)] at h
        exact h.symm
      have c0 : w5.cell? ⟨x9, 0, none⟩ = some (.int .i64 0) := c0
      have c1 : w5.cell? ⟨x9, 1, none⟩ = some (.int .i64 0) := c1
      clear HFI
      go_wp2_with fail
      refine (works8_any _).mono ?_
      rintro e w6 ⟨rfl, hb6⟩
      have HB6 := Lib.hid (HB5.out.trans (hb6.mono HB5.out.size))
      clear hb6
      go_wp2_with fail
      go_ret
      exact ⟨rfl, HB6.out⟩
    obtain ⟨f0, rfl⟩ : ∃ k : Nat, f = (k : Int) := ⟨f.toNat, by omega⟩
    have e1 : decide ((f0 : Int) < 0) = false := decide_eq_false hf0
    by_cases hfl : tx.length < f0
    · have e2 : decide ((tx.length : Int) < (f0 : Int)) = true := decide_eq_true (by omega)
      have e2n : decide (tx.length < f0) = true := decide_eq_true hfl
      obtain rfl : o = none := by
        have h := congrArg Prod.fst HFI.out
        unfold findI at h
        rw [if_pos (.inr (by omega))] at h
        exact h.symm
      have c0 : w5.cell? ⟨x9, 0, none⟩ = some (.int .i64 0) := c0
      have c1 : w5.cell? ⟨x9, 1, none⟩ = some (.int .i64 0) := c1
      clear HFI
      go_wp2_with fail
      refine (works8_any _).mono ?_
      rintro e w6 ⟨rfl, hb6⟩
      have HB6 := Lib.hid (HB5.out.trans (hb6.mono HB5.out.size))
      clear hb6
      go_wp2_with fail
      go_ret
      exact ⟨rfl, HB6.out⟩
    have e2 : decide ((tx.length : Int) < (f0 : Int)) = false := decide_eq_false (by omega)
    have e2n : decide (tx.length < f0) = false := decide_eq_false hfl
    have HFM : Hid (findM M tx f0 = (o, s4.steps)) := Lib.hid (by
      have h := HFI.out
      unfold findI at h
      rw [if_neg (by rintro (h | h) <;> omega), Int.toNat_natCast] at h
      exact h)
    clear HFI c0 c1 hf0
    have HFL := Lib.hid (Nat.le_of_not_lt hfl)
    clear hfl
    go_wp2_with fail
    go_loopw [12] (fun i wr => ∃ p : Nat, f0 ≤ p ∧ i = .int .i64 p ∧ p ≤ tx.length + 1 ∧ Below w.heap.size w wr ∧ At wr x9 TSp [.int .i64 (spF o), .int .i64 (spT o)] ∧ (∃ s5 : SO, s5.g = s4.g ∧ Sob wr base M s5 ∧ ¬ SBlk s5 x9) ∧ ∀ g q, f0 ≤ g → g < p → ¬ IsEnd M tx g q) (fun i _ => tx.length + 1 - (intOf i).toNat)
    case atStart => exact ⟨f0, Nat.le_refl _, rfl, by have := HFL.out; omega, HB5.out, HA.out, ⟨s4, rfl, HS5.out, HNF.out⟩, fun g q h1 h2 => by omega⟩
    case round =>
      obtain ⟨p, hp, rfl, hpl, hbw, hat, ⟨s5, hg5, hs5, hnf5⟩, hno⟩ := hrel
      have HBW := Lib.hid hbw
      have HAT := Lib.hid hat
      have HNO := Lib.hid hno
      have HS6 := Lib.hid hs5
      have HNF6 := Lib.hid hnf5
      have hnl : tx.length ≤ 400 := HQ.out.1
      clear hbw hat hno hs5 hnf5 HA HB5 HS5 HNF
      by_cases hpt : p ≤ tx.length
      · have hpI : (p : Int) ≤ (tx.length : Int) := by omega
        have hno : ¬ outI tx (p : Int) := by rintro (h | h) <;> omega
        have haw : IntKind.i64.wrap ((tx.length : Int) + 1) = (tx.length : Int) + 1 := IntWalk.i64_in _ (by omega)
        go_wp2_with fail
        refine (copy_tx _ _ tx (HST.out.below HBW.out)).mono ?_
        rintro e w6 ⟨ac6, cc6, rfl, htx, _, hb6⟩
        have he := ends_all w6 base M s5 (HS6.out.below hb6) HM.out tx ac6 _ cc6 htx (p : Int) (by omega)
        rw [hg5] at he
        have HE := Lib.hid he
        clear he
        have HB6 := Lib.hid (HBW.out.trans (hb6.mono HBW.out.size))
        have HA6 := Lib.hid (HAT.out.below hb6)
        clear htx hb6 HBW HAT HS6
        go_wp2_with fail
        refine HE.out.mono ?_
        rintro e w7 ⟨v, s7, rfl, hv, hg7, _, hs7, hu7⟩
        have hll := endsI_len M HM.out tx (p : Int) hno
        have hel : endsI M tx (p : Int) = endsM M tx p := by
          unfold endsI
          rw [if_neg hno, Int.toNat_natCast]
        rw [hel] at hv hll
        have HB7 := Lib.hid (hu7.bel _ _ HB6.out HLE.out)
        have HA7 := Lib.hid (HA6.out.keep (hu7.keep x9 HA6.out.lt HNF6.out))
        have HNF7 := Lib.hid (show ¬ SBlk s7 x9 from fun h => (hu7.new _ h).elim HNF6.out fun h => by have := HA6.out.lt; omega)
        have HS7 := Lib.hid hs7
        have HEF := Lib.hid (fun t => ends_from M HM.out tx p hpt t)
        replace hg7 := hg7.trans hg5
        rcases hv with ⟨_, h0⟩ | ⟨g, rfl, _, hA, _⟩
        · rw [h0] at hll; simp at hll
        have HISF := Lib.hid (fun t => is_found M HM.out tx f0 p hp hpt HNO.out t)
        have HISN := Lib.hid (is_none M HM.out tx p hpt)
        generalize (endsM M tx p).1 = l at hll hA HEF HISF HISN ⊢
        have HLC := Lib.hid (show ∀ k, k < tx.length + 1 → w7.cell? ⟨g, k, none⟩ = some (.bool (l[k]?.getD false)) from fun k hk => by
          rw [hA.cell, cellsB, List.getElem?_map, List.getElem?_eq_getElem (by omega)]
          rfl)
        have HLL := Lib.hid hll
        rw [hll]
        clear hel hu7 hs7 HE HB6 HA6 HNF6 hA hll
        go_wp2_with fail
        go_loopw [14, 15] (fun la t wr' => ∃ k : Nat, k ≤ tx.length + 1 ∧ t = .int .i64 k ∧ la = .int .i64 (lastB l k) ∧ wr' = w7) (fun _ t _ => tx.length + 1 - (intOf t).toNat)
        case atStart => exact ⟨0, Nat.zero_le _, rfl, rfl, rfl⟩
        case round =>
          obtain ⟨k, hk, rfl, rfl, rfl⟩ := hrel
          by_cases hkl : k < tx.length + 1
          · have hkI : (k : Int) < (tx.length : Int) + 1 := by omega
            have hlc := HLC.out k hkl
            have hkw : IntKind.i64.wrap ((k : Int) + 1) = (k : Int) + 1 := IntWalk.i64_in _ (by omega)
            cases hlk : l[k]?.getD false with
            | true =>
              rw [hlk] at hlc
              have hpk := HEF.out k hlk
              have e3 : decide ((k : Int) < (p : Int)) = false := decide_eq_false (by omega)
              have e3n : decide (k < p) = false := decide_eq_false (by omega)
              have hla : lastB l (k + 1) = (k : Int) := by rw [lastB, hlk]; rfl
              have HLA := Lib.hid hla
              clear hlk hla
              go_wp2_with fail
              go_roundw
              case rel => exact ⟨k + 1, hkl, by go_num, by rw [HLA.out], by first | rfl | trivial⟩
              case measure => simp [intOf]; omega
            | false =>
              rw [hlk] at hlc
              have hla : lastB l (k + 1) = lastB l k := by rw [lastB, hlk]; rfl
              have HLA := Lib.hid hla
              clear hlk hla
              go_wp2_with fail
              go_roundw
              case rel => exact ⟨k + 1, hkl, by go_num, by rw [HLA.out], by first | rfl | trivial⟩
              case measure => simp [intOf]; omega
          · obtain rfl : k = tx.length + 1 := by omega
            have hkI : ¬ ((tx.length + 1 : Nat) : Int) < (tx.length : Int) + 1 := by omega
            rcases lastB_spec l (tx.length + 1) with ⟨h1, h2⟩ | ⟨t, h1, h2, h3, h4⟩
            · rw [h1]
              have HN := Lib.hid (HISN.out h2)
              have hpw : IntKind.i64.wrap ((p : Int) + 1) = (p : Int) + 1 := IntWalk.i64_in _ (by omega)
              clear h1 h2
              go_wp2_with fail
              go_roundw
              case rel =>
                refine ⟨p + 1, by omega, by go_num, by omega, HB7.out, HA7.out, ⟨s7, hg7, HS7.out, HNF7.out⟩, fun g q h1 h2 => ?_⟩
                rcases Nat.lt_succ_iff_lt_or_eq.1 h2 with h | rfl
                · exact HNO.out g q h1 h
                · exact HN.out q
              case measure => simp [intOf]; omega
            · rw [h1]
              have HFD := Lib.hid (HISF.out t h3 h4)
              obtain rfl : o = some (p, t) := (congrArg Prod.fst HFM.out).symm.trans HFD.out
              have htI : (0 : Int) ≤ (t : Int) := by omega
              clear h1 h2 h3 h4
              go_wp2_with fail
              refine (copy_tx _ _ tx (HST.out.below HB7.out)).mono ?_
              rintro e w8 ⟨ac8, cc8, rfl, htx, _, hb8⟩
              have he := find_all w8 base M s7 (HS7.out.below hb8) HM.out tx ac8 _ cc8 htx (f0 : Int) (by omega)
              rw [hg7] at he
              have HF9 := Lib.hid he
              clear he
              have HB8 := Lib.hid (HB7.out.trans (hb8.mono HB7.out.size))
              have HA8 := Lib.hid (HA7.out.below hb8)
              clear htx hb8 HB7 HA7 HS7
              go_wp2_with fail
              refine HF9.out.mono ?_
              rintro e w9 ⟨rfl, s9, hg9, hst9, hs9, hu9⟩
              have hfi : findI M tx (f0 : Int) = (some (p, t), s4.steps) := by
                unfold findI
                rw [if_neg (by have := HFL.out; rintro (h | h) <;> omega), Int.toNat_natCast]
                exact HFM.out
              rw [hfi] at hst9 ⊢
              have hst9 : s9.steps = s4.steps := hst9
              rw [← hst9]
              dsimp only [spF, spT, Option.isSome]
              have HB9 := Lib.hid (hu9.bel _ _ HB8.out HLE.out)
              have HA9 := HA8.out.keep (hu9.keep x9 HA8.out.lt HNF7.out)
              have HS9 := Lib.hid hs9
              replace hg9 := hg9.trans hg7
              have hb10 := (Below.refl w9.heap.size w9).alloc (Nat.le_refl _) (.cells #[.int .i64 (p : Int), .int .i64 (t : Int)] TSp)
              have he := steps_any _ base M s9 (HS9.out.below hb10)
              rw [hg9] at he
              have HST9 := Lib.hid he
              clear he
              have hA10 := HA9.below hb10
              have hN10 := At.new w9 TSp [.int .i64 (p : Int), .int .i64 (t : Int)]
              have c0 : (w9.alloc (.cells #[.int .i64 (p : Int), .int .i64 (t : Int)] TSp)).cell? ⟨x9, 0, none⟩ = some (.int .i64 (p : Int)) := hA10.cell 0
              have c1 : (w9.alloc (.cells #[.int .i64 (p : Int), .int .i64 (t : Int)] TSp)).cell? ⟨x9, 1, none⟩ = some (.int .i64 (t : Int)) := hA10.cell 1
              have d0 : (w9.alloc (.cells #[.int .i64 (p : Int), .int .i64 (t : Int)] TSp)).cell? ⟨w9.heap.size, 0, none⟩ = some (.int .i64 (p : Int)) := hN10.cell 0
              have d1 : (w9.alloc (.cells #[.int .i64 (p : Int), .int .i64 (t : Int)] TSp)).cell? ⟨w9.heap.size, 1, none⟩ = some (.int .i64 (t : Int)) := hN10.cell 1
              have HB10 := Lib.hid (HB9.out.trans (hb10.mono HB9.out.size))
              clear hs9 hu9 HF9 HB8 HA8 HA9 hA10 hN10 hb10 HB9 hst9
              clear HISF HISN HEF HLC HNO HLL hkI hk hkl haw hpI hpt hpl hp hfi HFM hno hnl e1 e2 e2n
              generalize hw10 : w9.alloc (.cells #[.int .i64 (p : Int), .int .i64 (t : Int)] TSp) = w10 at c0 c1 d0 d1 HST9 HB10
              have HW10 := Lib.hid hw10
              clear hw10
              go_upto_region 28 with fail
              rw [HW10.out]
              generalize w9.heap.size = x16 at d0 d1 ⊢
              go_wp2_with fail
              refine HST9.out.mono ?_
              rintro e w11 ⟨rfl, rfl⟩
              go_wp2_with fail
              refine (works8_any _).mono ?_
              rintro e w11 ⟨rfl, hb11⟩
              have HB11 := Lib.hid (HB10.out.trans (hb11.mono HB10.out.size))
              clear hb11
              go_wp2_with fail
              go_ret
              exact ⟨rfl, HB11.out⟩
      · obtain rfl : p = tx.length + 1 := by omega
        have hpI : ¬ ((tx.length + 1 : Nat) : Int) ≤ (tx.length : Int) := by omega
        obtain rfl : o = none := (congrArg Prod.fst HFM.out).symm.trans (find_nothing M tx HM.out.shp.good f0 HFL.out fun g q h1 h2 => HNO.out g q h1 (by omega))
        have c0 : wr.cell? ⟨x9, 0, none⟩ = some (.int .i64 0) := HAT.out.cell 0
        have c1 : wr.cell? ⟨x9, 1, none⟩ = some (.int .i64 0) := HAT.out.cell 1
        clear HNO
        go_wp2_with fail
        refine (works8_any _).mono ?_
        rintro e w6 ⟨rfl, hb6⟩
        have HB6 := Lib.hid (HBW.out.trans (hb6.mono HBW.out.size))
        clear hb6
        go_wp2_with fail
        go_ret
        exact ⟨rfl, HB6.out⟩
end Go.Proofs.Ytfmcjmkdlldlhaa
