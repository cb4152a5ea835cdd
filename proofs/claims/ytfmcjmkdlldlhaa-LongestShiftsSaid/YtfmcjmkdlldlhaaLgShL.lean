/-
  The walk of LongestShifts.
-/
import Derived.Test.YtfmcjmkdlldlhaaLgWk
import Derived.Test.YtfmcjmkdlldlhaaLgOi
import Derived.Test.YtfmcjmkdlldlhaaLgI
import Derived.Test.YtfmcjmkdlldlhaaLgTw
import Derived.Test.YtfmcjmkdlldlhaaLgSl
namespace Go.Proofs.Ytfmcjmkdlldlhaa
open Go.RowKit
attribute [local go_sem] Oper.semAt_some

theorem any_no {M : List Ins} {o : Int} (h : (M.any fun x => decide (x.op = o)) = false) : ∀ x ∈ M, x.op ≠ o := by
  intro x hx he
  have : (M.any fun x => decide (x.op = o)) = true := List.any_eq_true.2 ⟨x, hx, decide_eq_true he⟩
  rw [h] at this
  cases this
theorem isB_app {a b : List Int} (ha : IsB a) (hb : IsB b) : IsB (a ++ b) := by
  intro i
  by_cases h : i < a.length
  · rw [List.getElem?_append_left h]; exact ha i
  · rw [List.getElem?_append_right (by omega)]; exact hb _
set_option maxRecDepth 100000 in
set_option maxHeartbeats 8000000 in
theorem longestShifts_any (w : World) (am aa at' ab : Option Addr) (nm cm na ca nt ct nb cb : Nat) (M : List Ins) (A T B : List Int) (hM : MI w am nm cm M) (hR : ∀ x ∈ M, InR x) (hA : SB w (.slice aa na ca) A) (hT : SB w (.slice at' nt ct) T) (hB : SB w (.slice ab nb cb) B) (hNt : at' = none → ct = 0) (hNb : ab = none → cb = 0) :
    Calls Try.prog 5 #[.agg #[.slice am nm cm, .slice aa na ca, .slice at' nt ct, .slice ab nb cb]] w fun e w' => e = .returned (.bool true) ∧ Below w.heap.size w w' := by
  have HMI := Lib.hid hM
  have HR := Lib.hid hR
  have HSA := Lib.hid hA
  have HST := Lib.hid hT
  have HSBb := Lib.hid hB
  have HNT := Lib.hid hNt
  have HNB := Lib.hid hNb
  have hla := hA.len
  have hlt := hT.len
  have hlb := hB.len
  obtain ⟨rfl, hna⟩ := hla
  obtain ⟨rfl, hnt⟩ := hlt
  obtain ⟨rfl, hnb⟩ := hlb
  have hw1 : IntKind.i64.wrap ((A.length : Int) + (T.length : Int)) = (A.length : Int) + (T.length : Int) := IntWalk.i64_in _ (by omega)
  have hw2 : IntKind.i64.wrap ((A.length : Int) + (T.length : Int) + (B.length : Int)) = (A.length : Int) + (T.length : Int) + (B.length : Int) := IntWalk.i64_in _ (by omega)
  have HW := Lib.hid (And.intro hw1 hw2)
  clear hM hR hA hT hB hNt hNb
  go_enter Try.func5, Try.ntmps5
  go_upto_region 5 with fail
  have hb0 := (Below.refl w.heap.size w).alloc (Nat.le_refl _) (.cells #[.slice am nm cm, .slice aa A.length ca, .slice at' T.length ct, .slice ab B.length cb] 54)
  replace HMI := Lib.hid (HMI.out.below hb0)
  replace HSA := Lib.hid (HSA.out.below hb0)
  replace HST := Lib.hid (HST.out.below hb0)
  replace HSBb := Lib.hid (HSBb.out.below hb0)
  have HB0 := Lib.hid hb0
  clear hb0
  generalize w.alloc (.cells #[.slice am nm cm, .slice aa A.length ca, .slice at' T.length ct, .slice ab B.length cb] 54) = w0 at HMI HSA HST HSBb HB0 ⊢
  go_wp2_with fail
  refine (long_big _ nm).mono ?_
  rintro e w1 ⟨rfl, rfl⟩
  by_cases hL : 2147483647 < nm
  · rw [decide_eq_true hL]
    clear hL
    go_wp2_with fail
    go_ret
    exact ⟨rfl, HB0.out⟩
  rw [decide_eq_false hL]
  have HL1 := Lib.hid hL
  clear hL
  go_wp2_with fail
  rw [show (A.length : Int) + (T.length : Int) + (B.length : Int) = ((A.length + T.length + B.length : Nat) : Int) by omega]
  refine (long_big _ (A.length + T.length + B.length)).mono ?_
  rintro e w1 ⟨rfl, rfl⟩
  by_cases hL : 2147483647 < A.length + T.length + B.length
  · rw [decide_eq_true hL]
    clear hL
    go_wp2_with fail
    go_ret
    exact ⟨rfl, HB0.out⟩
  rw [decide_eq_false hL]
  have HL2 := Lib.hid hL
  clear hL
  go_wp2_with fail
  refine (heavy_any' _ _ _ (by omega)).mono ?_
  rintro e w1 ⟨rfl, rfl⟩
  generalize hh : heavyB (nm : Int) ((A.length : Int) + (T.length : Int) + (B.length : Int)) = hv
  cases hv
  case true =>
    clear hh
    go_wp2_with fail
    refine (works8_any _).mono ?_
    rintro e w1 ⟨rfl, hb1⟩
    have HB1 := Lib.hid (HB0.out.trans (hb1.mono HB0.out.size))
    clear hb1
    go_wp2_with fail
    go_ret
    exact ⟨rfl, HB1.out⟩
  have hq := heavyB_no (by omega) hh
  have HQ := Lib.hid (show A.length + T.length + B.length ≤ 400 ∧ nm ≤ 1048576 from ⟨by omega, by omega⟩)
  clear hh hq HL2 HL1 hw1 hw2 hna hnt hnb
  go_wp2_with fail
  refine (copyI_any _ _ _ _ M HMI.out (by have := HQ.out; omega)).mono ?_
  rintro e w1 ⟨v1, rfl, ho1, hb1⟩
  obtain ⟨a1, c1, rfl⟩ := own_shape ho1
  have HN := Lib.hid (new_any w1 M _ _ _ (MI.own HMI.out.1 ho1))
  have HB1 := Lib.hid hb1
  clear ho1 hb1
  go_wp2_with fail
  refine HN.out.mono ?_
  rintro e w2 ⟨ps, es, rfl, hs2, hb2⟩
  have HB2 := Lib.hid (show Below w0.heap.size w0 w2 from HB1.out.trans (hb2.mono HB1.out.size))
  have HBT := Lib.hid (fun (W : World) (h : Below w0.heap.size w0 W) => HB0.out.trans (h.mono HB0.out.size))
  rcases hs2 with ⟨_, rfl, rfl⟩ | ⟨hsh, rfl, s, rfl, _, hs⟩
  · clear hb2 HN
    have HB2' := Lib.hid (HBT.out _ HB2.out)
    go_wp2_with fail
    refine (works8_any _).mono ?_
    rintro e w3 ⟨rfl, hb3⟩
    have HB3 := Lib.hid (HB2'.out.trans (hb3.mono HB2'.out.size))
    clear hb3
    go_wp2_with fail
    go_ret
    exact ⟨rfl, HB3.out⟩
  have HM := Lib.hid (Mach.mk hsh HMI.out.1)
  have HS := Lib.hid hs
  have HLE := Lib.hid HB1.out.size
  clear hs hb2 HN HB1 hsh
  generalize w1.heap.size = base at HS HLE
  go_wp2_with fail
  refine (copy_tx w2 _ T (HST.out.below HB2.out)).mono ?_
  rintro e w3 ⟨ac, cc, rfl, htx, _, hb3⟩
  have HE := Lib.hid (ends_all w3 base M s (HS.out.below hb3) HM.out T ac _ cc htx 0 (by have := HQ.out; omega))
  have HB3 := Lib.hid (HB2.out.trans (hb3.mono HB2.out.size))
  clear htx hb3 HB2 HS
  go_wp2_with fail
  refine HE.out.mono ?_
  rintro e w4 ⟨v, s4, rfl, hv, hg4, _, hs4, hu4⟩
  have hno : ¬ outI T 0 := by rintro (h | h) <;> omega
  have hll := endsI_len M HM.out T 0 hno
  have hel : endsI M T 0 = endsM M T 0 := by
    unfold endsI
    rw [if_neg hno]
    rfl
  rw [hel] at hv hll
  have HEA := Lib.hid (fun h2 => ends_ahead M HM.out.shp.good h2 A T)
  have HEB := Lib.hid (fun h3 => ends_behind M HM.out.shp.good h3 T B)
  have HV := Lib.hid (hv.keep (W' := w4) (lo' := 0) (F' := SBlk s4) fun k _ _ h3 => ⟨rfl, h3, Nat.zero_le _⟩)
  rcases hv with ⟨_, h0⟩ | ⟨g, rfl, _, _, _⟩
  · rw [h0] at hll; simp at hll
  have HB4 := Lib.hid (hu4.bel _ _ HB3.out HLE.out)
  have HS4 := Lib.hid hs4
  generalize (endsM M T 0).1 = l at hll HEA HEB HV ⊢
  have HLL := Lib.hid hll
  rw [hll]
  rw [hll] at HV
  clear hel hu4 hs4 HE HB3 hll hno
  have hw1 : IntKind.i64.wrap ((T.length : Int) + 1) = (T.length : Int) + 1 := IntWalk.i64_in _ (by have := HQ.out; omega)
  go_wp2_with fail
  refine (anchored_any w4 M am nm cm (HMI.out.below HB4.out) (by have := HQ.out; omega) (fun x hx => (HR.out x hx).1) 2 (by omega) (by omega)).mono ?_
  rintro e w5 ⟨rfl, hb5⟩
  have HS5 := Lib.hid (HS4.out.below hb5)
  have HV5 := Lib.hid (HV.out.below hb5)
  have HB5 := Lib.hid (HB4.out.trans (hb5.mono HB4.out.size))
  clear hb5 HS4 HV HB4
  generalize han : (M.any fun x => decide (x.op = 2)) = an
  cases an with
  | true =>
    clear han
    go_wp2_with fail
    refine (anchored_any w5 M am nm cm (HMI.out.below HB5.out) (by have := HQ.out; omega) (fun x hx => (HR.out x hx).1) 3 (by omega) (by omega)).mono ?_
    rintro e w15 ⟨rfl, hb15⟩
    have HS15 := Lib.hid (HS5.out.below hb15)
    have HV15 := Lib.hid (HV5.out.below hb15)
    have HB15 := Lib.hid (HB5.out.trans (hb15.mono HB5.out.size))
    clear hb15 HS5 HV5 HB5
    generalize han3 : (M.any fun x => decide (x.op = 3)) = an3
    cases an3 with
    | true =>
      clear han3
      have HB16 := Lib.hid (HBT.out _ HB15.out)
      go_wp2_with fail
      refine (works8_any _).mono ?_
      rintro e w17 ⟨rfl, hb17⟩
      have HB17 := Lib.hid (HB16.out.trans (hb17.mono HB16.out.size))
      clear hb17
      go_wp2_with fail
      go_ret
      exact ⟨rfl, HB17.out⟩
    | false =>
      have HAN := Lib.hid (HEB.out (any_no han3))
      clear han3 HEB
      go_wp2_with fail
      refine (copy_tx w15 _ T (HST.out.below (HB15.out))).mono ?_
      rintro e w6 ⟨ac6, c6, rfl, _, ho6, hb6⟩
      have HO6 := Lib.hid ho6
      have HS6 := Lib.hid (HS15.out.below hb6)
      have HV6 := Lib.hid (HV15.out.below hb6)
      have HB6 := Lib.hid (HB15.out.trans (hb6.mono HB15.out.size))
      have HFA := Lib.hid (show ∀ k, (Value.slice ac6 T.length c6).ownBlock = some k → ¬ SBlk s4 k from fun k e h => by
        have := (HS15.out.lt k h).1
        have := (World.ownsRow.lt ho6 k e).1
        omega)
      have HLW := Lib.hid HB15.out.size
      have hs6 := hb6.size
      have hn6 : T.length + B.length ≤ 140737488355328 := by have := HQ.out; omega
      have hY6 := HSBb.out.below HB6.out
      clear ho6 hb6 HS15 HV15
      go_wp2_with (at_builtin; refine append_sbp rfl (.tmp 104) (.tmp 105) rfl w15.heap.size _ T B ab B.length cb rfl HO6.out rfl HNB.out hY6 hn6 hs6 ?_)
      intro v7 w7 ho7 hp7
      obtain ⟨a7, c7, rfl⟩ := own_shape (show World.ownsRow w7 _ _ 1 v7 (T ++ B).length _ from ho7)
      have htx7 := (OwnB.tx (isB_app HST.out.1 HSBb.out.1) ho7 (by rw [List.length_append]; have := HQ.out; omega)).2
      have HS7 := Lib.hid (HS6.out.app hp7 HFA.out)
      have HV7 := Lib.hid (HV6.out.keepT (app_keepT HO6.out hp7 (by decide)))
      have HB7 := Lib.hid (hp7.bel _ _ HB6.out HLW.out)
      have he := ends_all w7 base M s4 HS7.out HM.out (T ++ B) a7 _ c7 htx7 0 (by rw [List.length_append]; have := HQ.out; omega)
      rw [hg4] at he
      have hno7 : ¬ outI (T ++ B) 0 := by rintro (h | h) <;> rw [List.length_append] at * <;> omega
      have hll7 := endsI_len M HM.out (T ++ B) 0 hno7
      have hel7 : (endsI M (T ++ B) 0).1 = (endsM M (T ++ B) 0).1 := by
        unfold endsI
        rw [if_neg hno7]
        rfl
      rw [hel7] at hll7
      unfold EndsAll at he
      rw [hel7] at he
      generalize (endsM M (T ++ B) 0).1 = l7 at he hll7 HAN
      generalize hn7 : (T ++ B).length = n7 at he hll7 ⊢
      rw [List.length_append] at hn7
      have HN7 := Lib.hid (show n7 ≤ 400 ∧ T.length + B.length = n7 from ⟨by have := HQ.out; omega, hn7⟩)
      have HE7 := Lib.hid he
      have HL7 := Lib.hid hll7
      clear he hll7 hel7 hno7 ho7 hp7 htx7 HO6 HS6 HV6 HFA hY6 hn6 hs6 hn7 HLW
      go_wp2_with fail
      refine HE7.out.mono ?_
      rintro e w8 ⟨v8, s8, rfl, hv8, hg8, _, hs8, hu8⟩
      rcases hv8 with ⟨_, h0⟩ | ⟨g8, rfl, _, hA8, hF8⟩
      · have h := HL7.out; rw [h0] at h; simp at h
      have hl7 := HL7.out
      have HBS8 := Lib.hid (show BSb w8 (.slice (some ⟨g8, 0, none⟩) (n7 + 1) (n7 + 1)) l7 from by
        have h := EndV.bsb (lo := 0) (.inr ⟨g8, rfl, Nat.zero_le _, hA8, hF8⟩ : EndV w8 0 (.slice (some ⟨g8, 0, none⟩) l7.length l7.length) l7 (SBlk s8)) (by have := HN7.out; omega)
        rw [hl7] at h
        exact h)
      have hnl7 := HN7.out
      obtain ⟨hrun, hbs⟩ := bsb_upto HBS8.out (T.length + 1) (by omega) (by omega)
      have HV8 := Lib.hid (HV7.out.keep (W' := w8) (lo' := 0) (F' := SBlk s8) fun k h1 _ h3 => ⟨hu8.keep k h1 h3, fun h4 => (hu8.new k h4).elim h3 fun h5 => by omega, Nat.zero_le _⟩)
      have HEQ := Lib.hid (eqBools_any w8 _ _ _ _ hbs (HV8.out.bsb (by have := HLL.out; have := HQ.out; omega)))
      have HB8 := Lib.hid (hu8.bel _ _ HB7.out HLE.out)
      have HS8 := Lib.hid hs8
      have hg8' : s8.g = s.g := hg8.trans hg4
      have hw7 : IntKind.i64.wrap ((n7 : Int) + 1) = (n7 : Int) + 1 := IntWalk.i64_in _ (by omega)
      rw [hl7]
      clear hs8 hu8 hA8 HE7 HB7 HS7 HV7 hbs hl7
      go_wp2_with fail
      refine HEQ.out.mono ?_
      rintro e w10 ⟨rfl, nq, rfl⟩
      have HB10 := Lib.hid (HB8.out.trans ((below_drewN (Below.refl _ w8) nq).mono HB8.out.size))
      have HS10 := Lib.hid (HS8.out.below (below_drewN (Below.refl _ w8) nq))
      have HV10 := Lib.hid (HV8.out.below (below_drewN (Below.refl _ w8) nq))
      generalize w8.drewN nq = w10 at HB10 HS10 HV10 ⊢
      rw [HAN.out, decide_eq_true rfl]
      clear HEQ HB8 HS8 HV8 hrun
      go_wp2_with fail
      have HB16 := Lib.hid (HBT.out _ HB10.out)
      go_wp2_with fail
      refine (works8_any _).mono ?_
      rintro e w17 ⟨rfl, hb17⟩
      have HB17 := Lib.hid (HB16.out.trans (hb17.mono HB16.out.size))
      clear hb17
      go_wp2_with fail
      go_ret
      exact ⟨rfl, HB17.out⟩
  | false =>
    have HAN := Lib.hid (HEA.out (any_no han))
    clear han HEA
    go_wp2_with fail
    refine (copy_tx w5 _ A (HSA.out.below (HB5.out))).mono ?_
    rintro e w6 ⟨ac6, c6, rfl, _, ho6, hb6⟩
    have HO6 := Lib.hid ho6
    have HS6 := Lib.hid (HS5.out.below hb6)
    have HV6 := Lib.hid (HV5.out.below hb6)
    have HB6 := Lib.hid (HB5.out.trans (hb6.mono HB5.out.size))
    have HFA := Lib.hid (show ∀ k, (Value.slice ac6 A.length c6).ownBlock = some k → ¬ SBlk s4 k from fun k e h => by
      have := (HS5.out.lt k h).1
      have := (World.ownsRow.lt ho6 k e).1
      omega)
    have HLW := Lib.hid HB5.out.size
    have hs6 := hb6.size
    have hn6 : A.length + T.length ≤ 140737488355328 := by have := HQ.out; omega
    have hY6 := HST.out.below HB6.out
    clear ho6 hb6 HS5 HV5
    go_wp2_with (at_builtin; refine append_sbp rfl (.tmp 76) (.tmp 77) rfl w5.heap.size _ A T at' T.length ct rfl HO6.out rfl HNT.out hY6 hn6 hs6 ?_)
    intro v7 w7 ho7 hp7
    obtain ⟨a7, c7, rfl⟩ := own_shape (show World.ownsRow w7 _ _ 1 v7 (A ++ T).length _ from ho7)
    have htx7 := (OwnB.tx (isB_app HSA.out.1 HST.out.1) ho7 (by rw [List.length_append]; have := HQ.out; omega)).2
    have HS7 := Lib.hid (HS6.out.app hp7 HFA.out)
    have HV7 := Lib.hid (HV6.out.keepT (app_keepT HO6.out hp7 (by decide)))
    have HB7 := Lib.hid (hp7.bel _ _ HB6.out HLW.out)
    have he := ends_all w7 base M s4 HS7.out HM.out (A ++ T) a7 _ c7 htx7 (A.length : Int) (by rw [List.length_append]; have := HQ.out; omega)
    rw [hg4] at he
    have hno7 : ¬ outI (A ++ T) (A.length : Int) := by rintro (h | h) <;> rw [List.length_append] at * <;> omega
    have hll7 := endsI_len M HM.out (A ++ T) (A.length : Int) hno7
    have hel7 : (endsI M (A ++ T) (A.length : Int)).1 = (endsM M (A ++ T) A.length).1 := by
      unfold endsI
      rw [if_neg hno7]
      rfl
    rw [hel7] at hll7
    unfold EndsAll at he
    rw [hel7] at he
    generalize (endsM M (A ++ T) A.length).1 = l7 at he hll7 HAN
    generalize hn7 : (A ++ T).length = n7 at he hll7 ⊢
    rw [List.length_append] at hn7
    have HN7 := Lib.hid (show n7 ≤ 400 ∧ A.length + T.length = n7 from ⟨by have := HQ.out; omega, hn7⟩)
    have HE7 := Lib.hid he
    have HL7 := Lib.hid hll7
    clear he hll7 hel7 hno7 ho7 hp7 htx7 HO6 HS6 HV6 HFA hY6 hn6 hs6 hn7 HLW
    go_wp2_with fail
    refine HE7.out.mono ?_
    rintro e w8 ⟨v8, s8, rfl, hv8, hg8, _, hs8, hu8⟩
    rcases hv8 with ⟨_, h0⟩ | ⟨g8, rfl, _, hA8, hF8⟩
    · have h := HL7.out; rw [h0] at h; simp at h
    have hl7 := HL7.out
    have HBS8 := Lib.hid (show BSb w8 (.slice (some ⟨g8, 0, none⟩) (n7 + 1) (n7 + 1)) l7 from by
      have h := EndV.bsb (lo := 0) (.inr ⟨g8, rfl, Nat.zero_le _, hA8, hF8⟩ : EndV w8 0 (.slice (some ⟨g8, 0, none⟩) l7.length l7.length) l7 (SBlk s8)) (by have := HN7.out; omega)
      rw [hl7] at h
      exact h)
    have hnl7 := HN7.out
    obtain ⟨hrun, hbs⟩ := bsb_from HBS8.out A.length (by omega)
    have HV8 := Lib.hid (HV7.out.keep (W' := w8) (lo' := 0) (F' := SBlk s8) fun k h1 _ h3 => ⟨hu8.keep k h1 h3, fun h4 => (hu8.new k h4).elim h3 fun h5 => by omega, Nat.zero_le _⟩)
    have HEQ := Lib.hid (eqBools_any w8 _ _ _ _ hbs (HV8.out.bsb (by have := HLL.out; have := HQ.out; omega)))
    have HB8 := Lib.hid (hu8.bel _ _ HB7.out HLE.out)
    have HS8 := Lib.hid hs8
    have hg8' : s8.g = s.g := hg8.trans hg4
    have hw7 : IntKind.i64.wrap ((n7 : Int) + 1) = (n7 : Int) + 1 := IntWalk.i64_in _ (by omega)
    rw [hl7]
    clear hs8 hu8 hA8 HE7 HB7 HS7 HV7 hbs hl7
    go_wp2_with fail
    refine HEQ.out.mono ?_
    rintro e w10 ⟨rfl, nq, rfl⟩
    have HB10 := Lib.hid (HB8.out.trans ((below_drewN (Below.refl _ w8) nq).mono HB8.out.size))
    have HS10 := Lib.hid (HS8.out.below (below_drewN (Below.refl _ w8) nq))
    have HV10 := Lib.hid (HV8.out.below (below_drewN (Below.refl _ w8) nq))
    generalize w8.drewN nq = w10 at HB10 HS10 HV10 ⊢
    rw [HAN.out, decide_eq_true rfl]
    clear HEQ HB8 HS8 HV8 hrun
    go_wp2_with fail
    refine (anchored_any w10 M am nm cm (HMI.out.below HB10.out) (by have := HQ.out; omega) (fun x hx => (HR.out x hx).1) 3 (by omega) (by omega)).mono ?_
    rintro e w15 ⟨rfl, hb15⟩
    have HS15 := Lib.hid (HS10.out.below hb15)
    have HV15 := Lib.hid (HV10.out.below hb15)
    have HB15 := Lib.hid (HB10.out.trans (hb15.mono HB10.out.size))
    clear hb15 HS10 HV10 HB10
    generalize han3 : (M.any fun x => decide (x.op = 3)) = an3
    cases an3 with
    | true =>
      clear han3
      have HB16 := Lib.hid (HBT.out _ HB15.out)
      go_wp2_with fail
      refine (works8_any _).mono ?_
      rintro e w17 ⟨rfl, hb17⟩
      have HB17 := Lib.hid (HB16.out.trans (hb17.mono HB16.out.size))
      clear hb17
      go_wp2_with fail
      go_ret
      exact ⟨rfl, HB17.out⟩
    | false =>
      have HAN := Lib.hid (HEB.out (any_no han3))
      clear han3 HEB
      go_wp2_with fail
      refine (copy_tx w15 _ T (HST.out.below (HB15.out))).mono ?_
      rintro e w6 ⟨ac6, c6, rfl, _, ho6, hb6⟩
      have HO6 := Lib.hid ho6
      have HS6 := Lib.hid (HS15.out.below hb6)
      have HV6 := Lib.hid (HV15.out.below hb6)
      have HB6 := Lib.hid (HB15.out.trans (hb6.mono HB15.out.size))
      have HFA := Lib.hid (show ∀ k, (Value.slice ac6 T.length c6).ownBlock = some k → ¬ SBlk s8 k from fun k e h => by
        have := (HS15.out.lt k h).1
        have := (World.ownsRow.lt ho6 k e).1
        omega)
      have HLW := Lib.hid HB15.out.size
      have hs6 := hb6.size
      have hn6 : T.length + B.length ≤ 140737488355328 := by have := HQ.out; omega
      have hY6 := HSBb.out.below HB6.out
      clear ho6 hb6 HS15 HV15
      go_wp2_with (at_builtin; refine append_sbp rfl (.tmp 104) (.tmp 105) rfl w15.heap.size _ T B ab B.length cb rfl HO6.out rfl HNB.out hY6 hn6 hs6 ?_)
      intro v7 w7 ho7 hp7
      obtain ⟨a7, c7, rfl⟩ := own_shape (show World.ownsRow w7 _ _ 1 v7 (T ++ B).length _ from ho7)
      have htx7 := (OwnB.tx (isB_app HST.out.1 HSBb.out.1) ho7 (by rw [List.length_append]; have := HQ.out; omega)).2
      have HS7 := Lib.hid (HS6.out.app hp7 HFA.out)
      have HV7 := Lib.hid (HV6.out.keepT (app_keepT HO6.out hp7 (by decide)))
      have HB7 := Lib.hid (hp7.bel _ _ HB6.out HLW.out)
      have he := ends_all w7 base M s8 HS7.out HM.out (T ++ B) a7 _ c7 htx7 0 (by rw [List.length_append]; have := HQ.out; omega)
      rw [hg8'] at he
      have hno7 : ¬ outI (T ++ B) 0 := by rintro (h | h) <;> rw [List.length_append] at * <;> omega
      have hll7 := endsI_len M HM.out (T ++ B) 0 hno7
      have hel7 : (endsI M (T ++ B) 0).1 = (endsM M (T ++ B) 0).1 := by
        unfold endsI
        rw [if_neg hno7]
        rfl
      rw [hel7] at hll7
      unfold EndsAll at he
      rw [hel7] at he
      generalize (endsM M (T ++ B) 0).1 = l7 at he hll7 HAN
      generalize hn7 : (T ++ B).length = n7 at he hll7 ⊢
      rw [List.length_append] at hn7
      have HN7 := Lib.hid (show n7 ≤ 400 ∧ T.length + B.length = n7 from ⟨by have := HQ.out; omega, hn7⟩)
      have HE7 := Lib.hid he
      have HL7 := Lib.hid hll7
      clear he hll7 hel7 hno7 ho7 hp7 htx7 HO6 HS6 HV6 HFA hY6 hn6 hs6 hn7 HLW
      go_wp2_with fail
      refine HE7.out.mono ?_
      rintro e w8 ⟨v8, s8, rfl, hv8, hg8, _, hs8, hu8⟩
      rcases hv8 with ⟨_, h0⟩ | ⟨g8, rfl, _, hA8, hF8⟩
      · have h := HL7.out; rw [h0] at h; simp at h
      have hl7 := HL7.out
      have HBS8 := Lib.hid (show BSb w8 (.slice (some ⟨g8, 0, none⟩) (n7 + 1) (n7 + 1)) l7 from by
        have h := EndV.bsb (lo := 0) (.inr ⟨g8, rfl, Nat.zero_le _, hA8, hF8⟩ : EndV w8 0 (.slice (some ⟨g8, 0, none⟩) l7.length l7.length) l7 (SBlk s8)) (by have := HN7.out; omega)
        rw [hl7] at h
        exact h)
      have hnl7 := HN7.out
      obtain ⟨hrun, hbs⟩ := bsb_upto HBS8.out (T.length + 1) (by omega) (by omega)
      have HV8 := Lib.hid (HV7.out.keep (W' := w8) (lo' := 0) (F' := SBlk s8) fun k h1 _ h3 => ⟨hu8.keep k h1 h3, fun h4 => (hu8.new k h4).elim h3 fun h5 => by omega, Nat.zero_le _⟩)
      have HEQ := Lib.hid (eqBools_any w8 _ _ _ _ hbs (HV8.out.bsb (by have := HLL.out; have := HQ.out; omega)))
      have HB8 := Lib.hid (hu8.bel _ _ HB7.out HLE.out)
      have HS8 := Lib.hid hs8
      have hg8' : s8.g = s.g := hg8.trans hg8'
      have hw7 : IntKind.i64.wrap ((n7 : Int) + 1) = (n7 : Int) + 1 := IntWalk.i64_in _ (by omega)
      rw [hl7]
      clear hs8 hu8 hA8 HE7 HB7 HS7 HV7 hbs hl7
      go_wp2_with fail
      refine HEQ.out.mono ?_
      rintro e w10 ⟨rfl, nq, rfl⟩
      have HB10 := Lib.hid (HB8.out.trans ((below_drewN (Below.refl _ w8) nq).mono HB8.out.size))
      have HS10 := Lib.hid (HS8.out.below (below_drewN (Below.refl _ w8) nq))
      have HV10 := Lib.hid (HV8.out.below (below_drewN (Below.refl _ w8) nq))
      generalize w8.drewN nq = w10 at HB10 HS10 HV10 ⊢
      rw [HAN.out, decide_eq_true rfl]
      clear HEQ HB8 HS8 HV8 hrun
      go_wp2_with fail
      have HB16 := Lib.hid (HBT.out _ HB10.out)
      go_wp2_with fail
      refine (works8_any _).mono ?_
      rintro e w17 ⟨rfl, hb17⟩
      have HB17 := Lib.hid (HB16.out.trans (hb17.mono HB16.out.size))
      clear hb17
      go_wp2_with fail
      go_ret
      exact ⟨rfl, HB17.out⟩
end Go.Proofs.Ytfmcjmkdlldlhaa
