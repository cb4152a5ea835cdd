/-
  The walk of LongestAsks.
-/
import Derived.Test.YtfmcjmkdlldlhaaDoorLgAsI
import Derived.Test.YtfmcjmkdlldlhaaDoorLgAsM
import Derived.Test.YtfmcjmkdlldlhaaDoorLgWk
import Derived.Test.YtfmcjmkdlldlhaaDoorLgI
import Derived.Test.YtfmcjmkdlldlhaaDoorLgB
import Derived.Deep.DeepCutAuto
namespace Go.Proofs.YtfmcjmkdlldlhaaDoor
open Go.RowKit
attribute [local go_sem] Oper.semAt_some

theorem own_below {W W' : World} {base s n : Nat} {e : TypeId} {v : Value} {xs : List Value} (h : W.ownsRow base e s v n xs) (hb : Below W.heap.size W W') : W'.ownsRow base e s v n xs := own_blk h fun k e => hb.block k (World.ownsRow.lt h k e).2
theorem own_in {W : World} {base n c g : Nat} {xs : List Value} (h : W.ownsRow base TI 7 (.slice (some ⟨g, 0, none⟩) n c) n xs) : ∃ L, At W g TI L ∧ L.length = c * 7 ∧ n ≤ c := by
  rcases h.2 with ⟨h1, _⟩ | ⟨g', cap, cur, h1, _, hg, hc, _, hs, _⟩
  · cases h1
  · simp only [Value.slice.injEq, Option.some.injEq, Addr.mk.injEq, and_true, true_and] at h1
    obtain ⟨rfl, rfl⟩ := h1
    exact ⟨cur.toList, by unfold At; rw [Array.toArray_toList]; exact hg, by simp [hs], hc⟩
theorem RSob.keep {W W' : World} {base g : Nat} {M : List Ins} (h : RSob W base M g) (hk : ∀ k, base ≤ k → W'.heap[k]? = W.heap[k]?) : RSob W' base M g := by
  obtain ⟨v, h1, h2, h3⟩ := h
  exact ⟨v, (hk g h2).trans h1, h2, own_blk h3 fun k e => hk k (World.ownsRow.lt h3 k e).1⟩
theorem put7 (w : World) (g c0 c1 c2 c3 c4 c5 c6 : Nat) (v0 v1 v2 v3 v4 v5 v6 : Value) (k : Nat) (hk : k ≠ g) : (((((((w.setCell ⟨g, c0, none⟩ v0).setCell ⟨g, c1, none⟩ v1).setCell ⟨g, c2, none⟩ v2).setCell ⟨g, c3, none⟩ v3).setCell ⟨g, c4, none⟩ v4).setCell ⟨g, c5, none⟩ v5).setCell ⟨g, c6, none⟩ v6).heap[k]? = w.heap[k]? := by
  rw [heap_setCell_other _ ⟨g, c6, none⟩ k _ hk, heap_setCell_other _ ⟨g, c5, none⟩ k _ hk, heap_setCell_other _ ⟨g, c4, none⟩ k _ hk, heap_setCell_other _ ⟨g, c3, none⟩ k _ hk, heap_setCell_other _ ⟨g, c2, none⟩ k _ hk, heap_setCell_other _ ⟨g, c1, none⟩ k _ hk, heap_setCell_other _ ⟨g, c0, none⟩ k _ hk]
def ks08 : List FK := [.bool, .bytes, .int .i64]
theorem wf_i64d {n : Int} (h : (Lit.int .i64 n).wf = true) : -9223372036854775808 ≤ n ∧ n ≤ 9223372036854775807 := by
  simp [Lit.wf, IntKind.min, IntKind.max, IntKind.signed, IntKind.bits] at h
  omega
theorem El08 {w : World} {b o : Nat} {x : El} (h : ElAt w b o ks08 x) : w.cell? ⟨b, o, none⟩ = some (.bool (x.b 0)) ∧ (∃ a c, w.cell? ⟨b, o + 1, none⟩ = some (.slice a (x.l 1).length c) ∧ SB w (.slice a (x.l 1).length c) (x.l 1)) ∧ w.cell? ⟨b, o + 2, none⟩ = some (.int .i64 (x.i 2)) ∧ (-9223372036854775808 ≤ x.i 2 ∧ x.i 2 ≤ 9223372036854775807) := by
  obtain ⟨_, a0, rfl⟩ := h 0 _ rfl
  obtain ⟨_, a1, a, n, c, rfl, hs, -⟩ := h 1 _ rfl
  obtain ⟨_, a2, rfl, b2⟩ := h 2 _ rfl
  have hn := hs.len.1
  subst hn
  exact ⟨a0, ⟨a, c, a1, hs⟩, a2, wf_i64d b2⟩
theorem SS.at {w : World} {ks : List FK} {b o n c : Nat} {r : List El} (h : SS w ks (.slice (some ⟨b, o, none⟩) n c) r) (k : Nat) (hk : k < n) : ElAt w b (o + k * ks.length) ks (r[k]?.getD El.zero) := by
  obtain ⟨b', o', he, hc⟩ := h.read k hk
  simp only [Option.some.injEq, Addr.mk.injEq, and_true] at he
  obtain ⟨rfl, rfl⟩ := he
  exact hc k hk
theorem tx_wide {W : World} {g : Nat} {T : List Int} (h : Arr W g 5 (wide T)) (hB : IsB T) (hl : T.length ≤ 140737488351232) : TxR W (some ⟨g, 0, none⟩) T.length (T.length + 64) T :=
  ⟨Arr.wide_sb h hB hl _, fun x hx => by
    simp only [Option.some.injEq] at hx
    subst hx
    exact ⟨_, _, h⟩⟩
theorem BoV.ub {W : World} {lo : Nat} {v : Value} {l : List Bool} {F : Nat → Prop} (h : BoV W lo v l F) : l.length ≤ 9223372036854775807 := by
  rcases h.1.2 with ⟨_, h0⟩ | ⟨g, cap, cur, _, _, _, h1, h2, _⟩
  · omega
  · exact Nat.le_trans h1 (Nat.le_trans h2 (by decide))
/-- So many steps as may be. -/
def StpOk (M : List Ins) (T : List Int) (f : Int) (st : Nat) : Prop := (outI T f ∧ st = 0) ∨ ∃ q : Nat, f = (q : Int) ∧ q ≤ T.length ∧ 1 ≤ st ∧ st ≤ (T.length + 1) * M.length
theorem not_out {T : List Int} {f : Int} (h : ¬ outI T f) : ∃ q : Nat, f = (q : Int) ∧ q ≤ T.length ∧ f.toNat = q := by
  have h' : ¬ (f < 0 ∨ (T.length : Int) < f) := h
  exact ⟨f.toNat, by omega, by omega, rfl⟩
theorem find_stp {M : List Ins} (hM : Mach M) (T : List Int) (f : Int) : StpOk M T f (findI M T f).2 := by
  by_cases h : outI T f
  · exact .inl ⟨h, by unfold findI; rw [if_pos h]⟩
  · obtain ⟨q, h1, h2, h3⟩ := not_out h
    refine .inr ⟨q, h1, h2, ?_⟩
    unfold findI
    rw [if_neg h, h3]
    exact find_sp M T hM.shp.good q h2
theorem ends_stp {M : List Ins} (hM : Mach M) (T : List Int) (f : Int) : StpOk M T f (endsI M T f).2 := by
  by_cases h : outI T f
  · exact .inl ⟨h, by unfold endsI; rw [if_pos h]⟩
  · obtain ⟨q, h1, h2, h3⟩ := not_out h
    refine .inr ⟨q, h1, h2, ?_⟩
    unfold endsI
    rw [if_neg h, h3]
    exact ends_sp M T hM.shp.good q h2
theorem counted_any (w : World) (M : List Ins) (T : List Int) (f : Int) (st : Nat) (hn : T.length ≤ 400) (hm : M.length ≤ 1048576) (h : StpOk M T f st) :
    Calls Tryd.prog 20 #[.int .i64 (st : Int), .int .i64 (M.length : Int), .int .i64 (T.length : Int), .int .i64 f] w fun e w' => e = .returned (.bool true) ∧ w = w' := by
  rcases h with ⟨h, rfl⟩ | ⟨q, rfl, h1, h2, h3⟩
  · exact counted_out w M.length T f hn h
  · exact counted_in w st M.length T q hn hm h1 h2 h3
set_option maxRecDepth 100000 in
set_option maxHeartbeats 8000000 in
theorem longestAsks_any (w : World) (am : Option Addr) (n cm : Nat) (M : List Ins) (hM : MI w am n cm M) (hR : ∀ x ∈ M, InR x) (aq : Option Addr) (nq cq : Nat) (xs : List El) (hA : SS w ks08 (.slice aq nq cq) xs) :
    Calls Tryd.prog 3 #[.slice am n cm, .slice aq nq cq] w fun e w' => e = .returned (.bool true) ∧ Below w.heap.size w w' := by
  obtain ⟨hxl, hnq, -, -⟩ := hA.len
  have HMI := Lib.hid hM
  have HA := Lib.hid hA
  have HXL := Lib.hid hxl
  have HR := Lib.hid hR
  have HL := Lib.hid (show M.length = n from hM.2.1)
  clear hM hR hA hxl
  go_enter Tryd.func3, Tryd.ntmps3
  go_wp2_with fail
  refine (long_big _ n).mono ?_
  rintro e w1 ⟨rfl, rfl⟩
  by_cases hL : 2147483647 < n
  · rw [decide_eq_true hL]
    clear hL
    go_wp2_with fail
    go_ret
    exact ⟨rfl, Below.refl _ _⟩
  rw [decide_eq_false hL]
  have hn2 : n ≤ 2147483647 := by omega
  have HN2 := Lib.hid hn2
  clear hL hn2
  go_wp2_with fail
  refine (long_big _ nq).mono ?_
  rintro e w1 ⟨rfl, rfl⟩
  by_cases hL : 2147483647 < nq
  · rw [decide_eq_true hL]
    clear hL
    go_wp2_with fail
    go_ret
    exact ⟨rfl, Below.refl _ _⟩
  rw [decide_eq_false hL]
  have hq2 : nq ≤ 2147483647 := by omega
  have HQ2 := Lib.hid hq2
  clear hL hnq
  go_wp2_with fail
  go_loopw [5, 6] (fun sv pv wr => ∃ (z : Int) (k : Nat), sv = .int .i64 z ∧ k ≤ nq ∧ pv = .int .i64 k ∧ wr = w ∧ ∀ j, j < k → heavyB (n : Int) (((xs[j]?.getD El.zero).l 1).length : Int) = false) (fun _ pv _ => nq - (intOf pv).toNat)
  case atStart => exact ⟨0, 0, rfl, Nat.zero_le _, rfl, rfl, fun j hj => absurd hj (Nat.not_lt_zero _)⟩
  case round =>
    obtain ⟨z, k, rfl, hk, rfl, hwr, hall⟩ := hrel
    subst wr
    have HALL := Lib.hid hall
    clear hall
    by_cases hkl : k < nq
    · have hkI : (k : Int) < (nq : Int) := by omega
      obtain ⟨b, o, rfl, hc⟩ := HA.out.read k hkl
      have hel := hc k hkl
      rw [show ks08.length = 3 from rfl] at hel
      obtain ⟨c0, ⟨ad, cc, c1, hsb⟩, c2, -⟩ := El08 hel
      have hml : ((xs[k]?.getD El.zero).l 1).length ≤ 140737488351232 := hsb.len.2
      generalize hgx : ((xs[k]?.getD El.zero).l 1).length = m at c1 hml
      have HGX := Lib.hid hgx
      have hk1 : IntKind.i64.wrap ((k : Int) + 1) = (k : Int) + 1 := IntWalk.i64_in _ (by have := HQ2.out; omega)
      clear hc hel c0 c2 hsb hgx
      go_wp2_with fail
      refine (heavy_any' _ _ _ (by omega)).mono ?_
      rintro e w1 ⟨rfl, rfl⟩
      generalize hh : heavyB (n : Int) (m : Int) = hv
      cases hv
      case true =>
        clear hh
        have HB0 := Lib.hid (Below.refl w.heap.size w)
        go_wp2_with fail
        refine (works8_any _).mono ?_
        rintro e w1 ⟨rfl, hb1⟩
        have HB1 := Lib.hid (HB0.out.trans (hb1.mono HB0.out.size))
        clear hb1
        go_wp2_with fail
        go_ret
        exact ⟨rfl, HB1.out⟩
      case false =>
        have HH := Lib.hid hh
        clear hh
        by_cases hz : 4194304 < z
        · have hzd : decide ((4194304 : Int) < z) = true := decide_eq_true hz
          have HB0 := Lib.hid (Below.refl w.heap.size w)
          clear hz
          go_wp2_with fail
          refine (works8_any _).mono ?_
          rintro e w1 ⟨rfl, hb1⟩
          have HB1 := Lib.hid (HB0.out.trans (hb1.mono HB0.out.size))
          clear hb1
          go_wp2_with fail
          go_ret
          exact ⟨rfl, HB1.out⟩
        · have hzd : decide ((4194304 : Int) < z) = false := decide_eq_false hz
          clear hz
          go_wp2_with fail
          go_roundw
          case rel =>
            refine ⟨_, k + 1, rfl, hkl, by go_num, by first | rfl | trivial, fun j hj => ?_⟩
            rcases Nat.lt_succ_iff_lt_or_eq.1 hj with h | rfl
            · exact HALL.out j h
            · rw [HGX.out]; exact HH.out
          case measure => simp [intOf]; omega
    · obtain rfl : k = nq := by omega
      have hkI : ¬ (k : Int) < (k : Int) := by omega
      go_wp2_with fail
      refine (copyI_any w _ _ _ M HMI.out HN2.out).mono ?_
      rintro e w1 ⟨v1, rfl, ho1, hb1⟩
      obtain ⟨a1, c1, rfl⟩ := own_shape ho1
      have HO1 := Lib.hid ho1
      have HN1 := Lib.hid (new_any w1 M _ _ _ (MI.own HMI.out.1 ho1))
      have HB1 := Lib.hid hb1
      have HLE1 := Lib.hid (show ∀ k, (Value.slice a1 M.length c1).ownBlock = some k → k < w1.heap.size ∧ w.heap.size ≤ k from fun k e => (World.ownsRow.lt ho1 k e).symm)
      clear ho1 hb1
      go_wp2_with fail
      refine HN1.out.mono ?_
      rintro e w2 ⟨ps, es, rfl, hs2, hb2⟩
      have HS2 := Lib.hid hs2
      have HO2 := Lib.hid (own_below HO1.out hb2)
      have HB2 := Lib.hid (HB1.out.trans (hb2.mono HB1.out.size))
      have HZ1 := Lib.hid HB1.out.size
      clear hs2 hb2 HN1 HB1 HO1
      generalize w1.heap.size = base at HS2 HLE1 HZ1
      go_wp2_with fail
      refine (rnew_any w2 M am n cm (HMI.out.below HB2.out) HR.out).mono ?_
      rintro e w3 ⟨rp, rer, rfl, hb3, hrv⟩
      have HB3 := Lib.hid (HB2.out.trans (hb3.mono HB2.out.size))
      have HO3 := Lib.hid (own_below HO2.out hb3)
      rcases HS2.out with ⟨hs, rfl, rfl⟩ | ⟨hs, rfl, s, rfl, hst, hso⟩
      · rcases hrv with ⟨_, rfl⟩ | ⟨hs2, _⟩
        · clear hb3 HO2 HB2
          go_wp2_with fail
          refine (works8_any _).mono ?_
          rintro e w4 ⟨rfl, hb4⟩
          have HB4 := Lib.hid (HB3.out.trans (hb4.mono HB3.out.size))
          clear hb4
          go_wp2_with fail
          go_ret
          exact ⟨rfl, HB4.out⟩
        · rw [hs] at hs2; cases hs2
      rcases hrv with ⟨hs2, _⟩ | ⟨_, rfl, rg, rfl, hro⟩
      · rw [hs] at hs2; cases hs2
      have HM := Lib.hid (show Mach M from ⟨hs, HMI.out.1⟩)
      have HS3 := Lib.hid (hso.below hb3)
      have HRO := Lib.hid hro
      have HRS := Lib.hid (show ∀ k, w2.heap.size ≤ k → ¬ SBlk s k from fun k h1 h2 => by have := (hso.lt k h2).1; omega)
      have HZ2 := Lib.hid HB2.out.size
      have HZ12 := Lib.hid (show base ≤ w2.heap.size from hso.size)
      have hmn := HL.out
      subst hmn
      obtain ⟨gin, cin, hin⟩ := own_some HO3.out (shaped_parts hs).1
      simp only [Value.slice.injEq] at hin
      obtain ⟨rfl, -, rfl⟩ := hin
      have HGI := Lib.hid (HLE1.out gin rfl)
      obtain ⟨L0, hL0, hL0n, hcin⟩ := own_in HO3.out
      have HL0 := Lib.hid hL0
      have HL0N := Lib.hid hL0n
      have HCI := Lib.hid hcin
      clear hL0 hL0n hcin HO3 HO2 HLE1 hso hro hs hb3 HB2 HS2
      generalize w2.heap.size = rbase at HRO HRS HZ2 HZ12
      go_wp2_with fail
      go_loopw [13] (fun pv wr => ∃ (k : Nat) (L : List Value), pv = .int .i64 k ∧ k ≤ M.length ∧ At wr gin TI L ∧ L.length = c1 * 7 ∧ Below w.heap.size w wr ∧ Sob wr base M s ∧ RSob wr rbase M rg) (fun pv _ => M.length - (intOf pv).toNat)
      case atStart => exact ⟨0, L0, rfl, Nat.zero_le _, HL0.out, HL0N.out, HB3.out, HS3.out, HRO.out⟩
      case round =>
        obtain ⟨k2, L, rfl, hk2, r1, r2, r3, r4, r5⟩ := hrel
        have hk2m : k2 ≤ 2147483647 := by have := HN2.out; omega
        by_cases hkl : k2 < M.length
        · have hkI : (k2 : Int) < (M.length : Int) := by omega
          have hkw : IntKind.i64.wrap ((k2 : Int) + 1) = (k2 : Int) + 1 := IntWalk.i64_in _ (by omega)
          have hcin := HCI.out
          have e0 : wr.cell? ⟨gin, k2 * 7, none⟩ = _ := (r1.cell _).trans (List.getElem?_eq_getElem (by rw [r2]; omega))
          have e1 : wr.cell? ⟨gin, k2 * 7 + 1, none⟩ = _ := (r1.cell _).trans (List.getElem?_eq_getElem (by rw [r2]; omega))
          have e2 : wr.cell? ⟨gin, k2 * 7 + 2, none⟩ = _ := (r1.cell _).trans (List.getElem?_eq_getElem (by rw [r2]; omega))
          have e3 : wr.cell? ⟨gin, k2 * 7 + 3, none⟩ = _ := (r1.cell _).trans (List.getElem?_eq_getElem (by rw [r2]; omega))
          have e4 : wr.cell? ⟨gin, k2 * 7 + 4, none⟩ = _ := (r1.cell _).trans (List.getElem?_eq_getElem (by rw [r2]; omega))
          have e5 : wr.cell? ⟨gin, k2 * 7 + 5, none⟩ = _ := (r1.cell _).trans (List.getElem?_eq_getElem (by rw [r2]; omega))
          have e6 : wr.cell? ⟨gin, k2 * 7 + 6, none⟩ = _ := (r1.cell _).trans (List.getElem?_eq_getElem (by rw [r2]; omega))
          generalize L[k2 * 7]'_ = y0 at e0
          generalize L[k2 * 7 + 1]'_ = y1 at e1
          generalize L[k2 * 7 + 2]'_ = y2 at e2
          generalize L[k2 * 7 + 3]'_ = y3 at e3
          generalize L[k2 * 7 + 4]'_ = y4 at e4
          generalize L[k2 * 7 + 5]'_ = y5 at e5
          generalize L[k2 * 7 + 6]'_ = y6 at e6
          have f0 := r1.frozen (k2 * 7)
          have f1 := r1.frozen (k2 * 7 + 1)
          have f2 := r1.frozen (k2 * 7 + 2)
          have f3 := r1.frozen (k2 * 7 + 3)
          have f4 := r1.frozen (k2 * 7 + 4)
          have f5 := r1.frozen (k2 * 7 + 5)
          have f6 := r1.frozen (k2 * 7 + 6)
          have R1 := Lib.hid r1
          have R2 := Lib.hid r2
          have R3 := Lib.hid r3
          have R4 := Lib.hid r4
          have R5 := Lib.hid r5
          clear r1 r2 r3 r4 r5 hcin
          go_wp2_with fail
          go_roundw
          case rel =>
            have hgi := HGI.out
            have hz := HZ12.out
            refine ⟨k2 + 1, _, by go_num, hkl, ((((((R1.out.set _ _).set _ _).set _ _).set _ _).set _ _).set _ _).set _ _, by simp only [List.length_set]; exact R2.out, ((((((R3.out.setCell ?_ _).setCell ?_ _).setCell ?_ _).setCell ?_ _).setCell ?_ _).setCell ?_ _).setCell ?_ _, R4.out.keep fun k hk => put7 _ _ _ _ _ _ _ _ _ _ _ _ _ _ _ _ k (by have := (R4.out.lt k hk).2; omega), R5.out.keep fun k hk => put7 _ _ _ _ _ _ _ _ _ _ _ _ _ _ _ _ k (by omega)⟩
            all_goals exact hgi.2
          case measure => simp [intOf]; omega
        · obtain rfl : k2 = M.length := by omega
          have hkI : ¬ (M.length : Int) < (M.length : Int) := by omega
          have hz1 := HZ1.out
          have hz2 := HZ2.out
          obtain ⟨mv, hst⟩ := AsI.start r3 hz1 hz2 r4 r5 HRS.out
          have HST := Lib.hid hst
          clear hst r1 r2 r3 r4 r5 hz1 hz2
          go_upto_region 23 with fail
          change Code.wp _ _ _ _ (wr.alloc bagZero)
          generalize wr.alloc bagZero = w5 at HST ⊢
          generalize wr.heap.size = bg at HST ⊢
          clear HN2 HB3 HL0 HL0N HCI HS3 HRO HRS HZ12 HGI hst
          go_wp2_with fail
          go_loopw [15, 16, 17] (fun tv wv pv wr => ∃ (j : Nat) (a : AS) (ls : List (List Bool)), pv = .int .i64 j ∧ j ≤ k ∧ tv = a.tv ∧ wv = a.wv ∧ a.s.g = s.g ∧ a.rg = rg ∧ a.bg = bg ∧ ls.length ≤ 400 ∧ AsI w wr base rbase M a ls ls) (fun _ _ pv _ => k - (intOf pv).toNat)
          case atStart => exact ⟨0, _, [], rfl, Nat.zero_le _, rfl, rfl, rfl, rfl, rfl, Nat.zero_le _, HST.out⟩
          case round =>
            obtain ⟨j, a, ls, rfl, hj, rfl, rfl, hsg, hrg, hbg, hls, hI⟩ := hrel
            have HI := Lib.hid hI
            have HLS := Lib.hid hls
            have HSG := Lib.hid hsg
            have HRG := Lib.hid hrg
            have HBG := Lib.hid hbg
            clear hI hls hsg hrg hbg
            by_cases hjk : j < k
            · have hjI : (j : Int) < (k : Int) := by omega
              obtain ⟨b, o, rfl, -⟩ := HA.out.read j hjk
              have hel := HA.out.at j hjk
              rw [show ks08.length = 3 from rfl] at hel
              have hh := heavyB_no (by omega) (HALL.out j hjk)
              obtain ⟨c0, ⟨ad, cc, c1, hsb⟩, c2, hf⟩ := El08 hel
              generalize xs[j]?.getD El.zero = x at c0 c1 c2 hsb hf hh
              have HX := Lib.hid (show x.l 1 = x.l 1 ∧ (x.l 1).length ≤ 400 ∧ M.length ≤ 1048576 from ⟨rfl, by omega, by omega⟩)
              generalize x.l 1 = T at c1 hsb HX
              generalize x.i 2 = f at c2 hf
              generalize x.b 0 = fb at c0
              have HC : Hid (∀ W', Below w.heap.size w W' → W'.cell? ⟨b, o + j * 3, none⟩ = some (.bool fb) ∧ W'.cell? ⟨b, o + j * 3 + 1, none⟩ = some (.slice ad T.length cc) ∧ W'.cell? ⟨b, o + j * 3 + 2, none⟩ = some (.int .i64 f) ∧ SB W' (.slice ad T.length cc) T) := Lib.hid fun W' hb => ⟨(hb.cell (World.block_lt_of_cell? w _ c0)).trans c0, (hb.cell (World.block_lt_of_cell? w _ c1)).trans c1, (hb.cell (World.block_lt_of_cell? w _ c2)).trans c2, hsb.below hb⟩
              have HT := Lib.hid (show IsB T from hsb.1)
              have HF := Lib.hid hf
              have hq := HQ2.out
              have hjw : IntKind.i64.wrap ((j : Int) + 1) = (j : Int) + 1 := IntWalk.i64_in _ (by omega)
              clear hel hh c0 c1 c2 hsb hf
              obtain ⟨k0, k1, k2', hsb⟩ := HC.out _ HI.out.bel
              have HSB := Lib.hid hsb
              clear hsb k0 k2'
              go_wp2_with fail
              refine (wide_any wr _ T HSB.out (by have := HX.out; omega)).mono ?_
              rintro e w6 ⟨rfl, hT, hb6⟩
              have HI6 := Lib.hid (HI.out.below hb6)
              have HAR := Lib.hid hT
              have HLT := Lib.hid (show wr.heap.size < w6.heap.size ∧ w.heap.size ≤ wr.heap.size from ⟨Arr.lt hT, HI.out.bel.size⟩)
              generalize wr.heap.size = tb at HAR HLT ⊢
              obtain ⟨k0, k1', k2', -⟩ := HC.out _ HI6.out.bel
              clear hT hb6 HI HSB k1
              have k1 := k1'
              clear k1'
              go_upto_if 114 with fail
              go_cut [15, 16, 20, 21, 22, 23, 24] (fun tv wv _ _ _ _ _ wx => ∃ (a : AS) (ls : List (List Bool)), tv = a.tv ∧ wv = a.wv ∧ a.s.g = s.g ∧ a.rg = rg ∧ a.bg = bg ∧ ls.length ≤ 400 ∧ StpOk M T f a.s.steps ∧ AsI w wx base rbase M a ls ls ∧ Arr wx tb 5 (wide T))
              case first =>
                cases fb with
                | true =>
                  have he := find_all w6 base M a.s HI6.out.sob HM.out T _ _ _ (tx_wide HAR.out HT.out (by have := HX.out; omega)) f (by have := HX.out; omega)
                  rw [HSG.out] at he
                  have HE := Lib.hid he
                  clear he
                  go_wp2_with fail
                  refine HE.out.mono ?_
                  rintro e w7 ⟨rfl, s', hg', hst', hs', hu'⟩
                  have HI7 := Lib.hid (HI6.out.ups hu' hs')
                  have HAR7 := Lib.hid (show Arr w7 tb 5 (wide T) from (hu'.keep tb HLT.out.1 fun e => HI6.out.sob.nb tb e _ _ HAR.out).trans HAR.out)
                  have HST7 := Lib.hid (show StpOk M T f s'.steps by rw [hst']; exact find_stp HM.out T f)
                  have HG7 := Lib.hid (hg'.trans HSG.out)
                  obtain ⟨m0, m1, m2, hsb7⟩ := HC.out _ HI7.out.bel
                  have HSB7 := Lib.hid hsb7
                  clear HE HI6 HAR hg' hst' hs' hu' k0 k1 k2' hsb7
                  generalize hfo : (findI M T f).1 = fo
                  have HFO := Lib.hid hfo
                  clear hfo
                  have hb8 := (Below.refl w7.heap.size w7).alloc (Nat.le_refl _) (.cells #[.int .i64 (spF fo), .int .i64 (spT fo)] TSp)
                  have HXB := Lib.hid (show At (w7.alloc (.cells #[.int .i64 (spF fo), .int .i64 (spT fo)] TSp)) w7.heap.size TSp [.int .i64 (spF fo), .int .i64 (spT fo)] from At.new w7 TSp _)
                  have HI8 := Lib.hid (HI7.out.below hb8)
                  have HAR8 := Lib.hid (HAR7.out.below hb8 HAR7.out.lt)
                  have HSB8 := Lib.hid (HSB7.out.below hb8)
                  go_upto_region 31 with fail
                  generalize w7.alloc (.cells #[.int .i64 (spF fo), .int .i64 (spT fo)] TSp) = w8 at HXB HI8 HAR8 HSB8 ⊢
                  generalize w7.heap.size = xb at HXB ⊢
                  clear hb8 HI7 HAR7 HSB7 m0 m1 m2
                  obtain ⟨-, m1, m2, -⟩ := HC.out _ HI8.out.bel
                  have HRF : Hid (∀ W', Below w8.heap.size w8 W' → Calls Tryd.prog 12 #[.pointer (some ⟨rg, 0, none⟩), .slice ad T.length cc, .int .i64 f] W' fun e w' => ∃ v, e = .returned v ∧ v = .tuple #[.agg #[.int .i64 (spF fo), .int .i64 (spT fo)], .bool fo.isSome] ∧ Below W'.heap.size W' w') := Lib.hid fun W' hb => by
                    have h := refFind_any W' rbase M a.rg (HI8.out.below hb).rsob HM.out HR.out T _ (HSB8.out.below hb) f (by have := HX.out; omega)
                    rw [HRG.out] at h
                    refine h.mono ?_
                    rintro e w' ⟨rfl, hb'⟩
                    exact ⟨_, rfl, by rw [HFO.out], hb'⟩
                  have HD := Lib.hid (below_drewN (Below.refl w8.heap.size w8) 1)
                  have hal := (Below.refl w8.heap.size w8).alloc (Nat.le_refl _) (.cells #[.int .i64 0, .int .i64 0] TSp)
                  have HDA := Lib.hid (below_drewN hal 1)
                  obtain ⟨-, n1, n2, -⟩ := HC.out _ (HI8.out.below hal).bel
                  clear hal
                  go_cut [22, 23] (fun pv bv wx => ∃ yb : Nat, pv = .pointer (some ⟨yb, 0, none⟩) ∧ bv = .bool fo.isSome ∧ Below w8.heap.size w8 wx ∧ At wx yb TSp [.int .i64 (spF fo), .int .i64 (spT fo)])
                  case first =>
                    go_region_law (first | (refine step_callsE (by rfl) 12 _ _ (by rfl) _ (by rfl) (fun _ => by kernel_rfl) (HRF.out _ (by first | exact HD.out | exact HDA.out)) ?_; rintro v w9 ⟨rfl, hb9⟩; (first | (have q := (show At (w8.alloc (.cells #[.int .i64 0, .int .i64 0] TSp)).drew w8.heap.size TSp [.int .i64 0, .int .i64 0] from At.new w8 TSp [.int .i64 0, .int .i64 0]).below hb9; have q0 : w9.cell? ⟨w8.heap.size, 0, none⟩ = some (.int .i64 0) := q.cell 0; have q1 : w9.cell? ⟨w8.heap.size, 1, none⟩ = some (.int .i64 0) := q.cell 1; have q2 : w9.frozen? ⟨w8.heap.size, 0, none⟩ = false := q.frozen 0; have q3 : w9.frozen? ⟨w8.heap.size, 1, none⟩ = false := q.frozen 1) | skip)))
                    all_goals go_wp2_with fail
                    all_goals go_meet
                    all_goals
                      first
                        | exact ⟨_, rfl, rfl, ((HDA.out.trans (hb9.mono HDA.out.size)).setCell (p := ⟨w8.heap.size, 0, none⟩) (Nat.le_refl _) _).setCell (p := ⟨w8.heap.size, 1, none⟩) (Nat.le_refl _) _, (q.set 0 _).set 1 _⟩
                        | exact ⟨_, rfl, rfl, (HD.out.trans (hb9.mono HD.out.size)).alloc (HD.out.trans (hb9.mono HD.out.size)).size _, At.new w9 TSp _⟩
                  case rest =>
                    obtain ⟨yb, rfl, rfl, hbx, hyb⟩ := hcut
                    have x0 : wc.cell? ⟨xb, 0, none⟩ = some (.int .i64 (spF fo)) := (HXB.out.below hbx).cell 0
                    have x1 : wc.cell? ⟨xb, 1, none⟩ = some (.int .i64 (spT fo)) := (HXB.out.below hbx).cell 1
                    have y0 : wc.cell? ⟨yb, 0, none⟩ = some (.int .i64 (spF fo)) := hyb.cell 0
                    have y1 : wc.cell? ⟨yb, 1, none⟩ = some (.int .i64 (spT fo)) := hyb.cell 1
                    have HI9 := Lib.hid (HI8.out.below hbx)
                    have HAR9 := Lib.hid (HAR8.out.below hbx HAR8.out.lt)
                    clear hyb hbx HI8 HAR8 HRF HD HDA n1 n2 m1 m2 HSB8 HXB
                    go_wp2_with fail
                    go_meet
                    case rel => exact ⟨{ a with s := s' }, ls, rfl, rfl, HG7.out, HRG.out, HBG.out, HLS.out, HST7.out, HI9.out, HAR9.out⟩
                | false =>
                  have he := ends_all w6 base M a.s HI6.out.sob HM.out T _ _ _ (tx_wide HAR.out HT.out (by have := HX.out; omega)) f (by have := HX.out; omega)
                  rw [HSG.out] at he
                  have HE := Lib.hid he
                  have HOLD := Lib.hid (show ∀ j, j < a.m → ∀ k, (a.vs j).ownBlock = some k → k < w6.heap.size from fun j hj k e => (HI6.out.go.lt (.inr (.inr ⟨j, hj, e⟩))).1)
                  have HL6 := Lib.hid (show w.heap.size ≤ w6.heap.size from HI6.out.bel.size)
                  clear he
                  go_wp2_with fail
                  refine HE.out.mono ?_
                  rintro e w7 ⟨v, s', rfl, hv, hg', hst', hs', hu'⟩
                  have hll : (endsI M T f).1.length ≤ 401 := by
                    by_cases ho : outI T f
                    · unfold endsI; rw [if_pos ho]; exact Nat.zero_le _
                    · rw [endsI_len M HM.out T f ho]; have := HX.out; omega
                  have HLL := Lib.hid hll
                  have HI7 := Lib.hid (HI6.out.ups hu' hs')
                  have HAR7 := Lib.hid (show Arr w7 tb 5 (wide T) from (hu'.keep tb HLT.out.1 fun e => HI6.out.sob.nb tb e _ _ HAR.out).trans HAR.out)
                  have HST7 := Lib.hid (show StpOk M T f s'.steps by rw [hst']; exact ends_stp HM.out T f)
                  have HG7 := Lib.hid (hg'.trans HSG.out)
                  have HV := Lib.hid (hv.bo (Nat.le_trans hll (by decide)))
                  have HVE := Lib.hid hv
                  obtain ⟨m0, m1, m2, hsb7⟩ := HC.out _ HI7.out.bel
                  have HSB7 := Lib.hid hsb7
                  clear HE HI6 HAR hg' hst' hs' hu' k0 k1 k2' hsb7 hv hll m0
                  generalize hel : (endsI M T f).1 = l at HLL HV HVE
                  have HEL := Lib.hid hel
                  clear hel
                  go_upto_region 35 with fail
                  have HD := Lib.hid (below_drewN (Below.refl w7.heap.size w7) 1)
                  have HRE : Hid (∀ W', Below w7.heap.size w7 W' → Calls Tryd.prog 15 #[.pointer (some ⟨rg, 0, none⟩), .slice ad T.length cc, .int .i64 f] W' fun e w' => ∃ u, e = .returned u ∧ BSb w' u l ∧ Below w7.heap.size w7 w') := Lib.hid fun W' hb => by
                    have h := refEnds_any W' rbase M a.rg (HI7.out.below hb).rsob HM.out HR.out T _ (HSB7.out.below hb) f (by have := HX.out; omega)
                    rw [HRG.out] at h
                    refine h.mono ?_
                    rintro e w' ⟨u, rfl, hu, hb'⟩
                    rw [HEL.out] at hu
                    exact ⟨u, rfl, hu.bsb (Nat.le_trans HLL.out (by decide)), hb.trans (hb'.mono hb.size)⟩
                  have HEQ : Hid (∀ W' u, Below w7.heap.size w7 W' → BSb W' u l → Calls Tryd.prog 14 #[v, u] W' fun e w' => ∃ y, e = .returned y ∧ y = .bool true ∧ Below w7.heap.size w7 w') := Lib.hid fun W' u hb hu => by
                    refine (eqBools_any W' v u l l ((HV.out.below hb).bsb (Nat.le_trans HLL.out (by decide))) hu).mono ?_
                    rintro e w' ⟨rfl, q, rfl⟩
                    exact ⟨_, rfl, by simp, below_drewN hb q⟩
                  go_cut [171] (fun yv wx => yv = .bool false ∧ Below w7.heap.size w7 wx)
                  case first =>
                    go_region_law (first | (refine step_callsE (by rfl) 15 _ _ (by rfl) _ (by rfl) (fun _ => by kernel_rfl) (HRE.out _ HD.out) ?_; rintro u w9 ⟨hu, hb9⟩) | (refine step_callsE (by rfl) 14 _ _ (by rfl) _ (by rfl) (fun _ => by kernel_rfl) (HEQ.out _ _ hb9 hu) ?_; rintro y w10 ⟨rfl, hb10⟩))
                    all_goals go_wp2_with fail
                    all_goals go_meet
                    all_goals exact ⟨rfl, hb10⟩
                  case rest =>
                    obtain ⟨rfl, hbx⟩ := hcut
                    have HI9 := Lib.hid (HI7.out.below hbx)
                    have HAR9 := Lib.hid (HAR7.out.below hbx HAR7.out.lt)
                    have HV9 := Lib.hid (HV.out.below hbx)
                    have HBX := Lib.hid hbx
                    clear hbx HI7 HAR7 HRE HEQ HD HV HSB7 m1 m2
                    have ha := HI9.out.add HV9.out HL6.out (Nat.le_trans HLL.out (by decide)) HOLD.out
                    have hbg : ({ a with s := s' } : AS).bg = bg := HBG.out
                    rw [hbg] at ha
                    have HADD := Lib.hid ha
                    clear ha hbg
                    go_wp2_with fail
                    refine HADD.out.mono ?_
                    rintro e w10 ⟨rfl, hkb, hku, m', fs', bv', vs', len', C', hI10⟩
                    have HI10 := Lib.hid hI10
                    have HAR10 := Lib.hid (show Arr w10 tb 5 (wide T) from (hku tb _ HAR9.out).trans HAR9.out)
                    have HV10 := Lib.hid ((HV9.out.keepT hkb).base HL6.out)
                    have HVE10 := Lib.hid ((HVE.out.below HBX.out).keepT hkb)
                    clear hkb hku hI10 HADD HI9 HAR9 HV9 HOLD HVE HBX
                    obtain ⟨va, vc, hv0⟩ := own_shape HV10.out.1
                    subst hv0
                    obtain ⟨sA, rgA, mvA, bgA, mA, fsA, bvA, vsA, lenA, CA, tvA, tvsA, wvA, wvsA⟩ := a
                    have hto : w10.ownsRow w.heap.size 71 1 tvA tvsA.length tvsA := HI10.out.told.own
                    have hwo : w10.ownsRow w.heap.size 71 1 wvA wvsA.length wvsA := HI10.out.was.own
                    have htl : tvsA.length = ls.length := HI10.out.told.len
                    have hwl : wvsA.length = ls.length := HI10.out.was.len
                    have hs10 := HI10.out.bel.size
                    obtain ⟨tba, tca, htv⟩ := own_shape hto
                    subst htv
                    have HTO := Lib.hid hto
                    have HWO := Lib.hid hwo
                    have HTL := Lib.hid htl
                    have HWL := Lib.hid hwl
                    have HS10 := Lib.hid hs10
                    clear hto hwo hwl hs10
                    by_cases hlt : ls.length < 400
                    · have hd : decide ((tvsA.length : Int) < 400) = true := decide_eq_true (by omega)
                      have hk6 : tvsA.length + 1 ≤ 1000000000000 := by omega
                      have HK6 := Lib.hid hk6
                      have HLT4 := Lib.hid hlt
                      clear htl hk6 hlt
                      go_wp2_with (at_builtin; refine wpList_appL (w := w10) rfl (.tmp 178) (.tmp 180) rfl w.heap.size _ tvsA.length tvsA (.slice va l.length vc) HV10.out.one _ rfl rfl rfl HTO.out rfl HK6.out HS10.out ?_)
                      intro g11 cap11 w11 ho11 hp11
                      have HI11 := Lib.hid (HI10.out.push_told HV10.out ho11 hp11)
                      have hkb : KeepT 4 w10 w11 := app_keepT HTO.out hp11 (by decide)
                      have hku : KeepT 5 w10 w11 := app_keepT HTO.out hp11 (by decide)
                      have HAR11 := Lib.hid (show Arr w11 tb 5 (wide T) from (hku tb _ HAR10.out).trans HAR10.out)
                      have HVE11 := Lib.hid (HVE10.out.keepT hkb)
                      clear ho11 hp11 hkb hku HI10 HV10 HVE10 HTO HWO HAR10
                      go_wp2_with fail
                      refine (copyBo_any w11 _ _ l _ HVE11.out (Nat.le_trans HLL.out (by decide))).mono ?_
                      rintro e w12 ⟨v', rfl, ho', hb12⟩
                      obtain ⟨va', vc', hv1⟩ := own_shape ho'
                      subst hv1
                      have HI12 := Lib.hid (HI11.out.below hb12)
                      have HAR12 := Lib.hid (HAR11.out.below hb12 HAR11.out.lt)
                      have HCV := Lib.hid (show BoV w12 w.heap.size (.slice va' l.length vc') l (SBlk s') from ⟨own_base ho' HI11.out.bel.size, fun k e hk => by
                        have h1 := (HI11.out.sob.lt k hk).1
                        have h2 := (World.ownsRow.lt ho' k e).1
                        omega⟩)
                      have HWO12 := Lib.hid (show w12.ownsRow w.heap.size 71 1 wvA wvsA.length wvsA from HI12.out.was.own)
                      have HS12 := Lib.hid HI12.out.bel.size
                      have HK7 := Lib.hid (show wvsA.length + 1 ≤ 1000000000000 by have := HWL.out; have := HLT4.out; omega)
                      clear ho' hb12 HI11 HAR11 HVE11
                      go_wp2_with (at_builtin; refine wpList_appL (w := w12) rfl (.tmp 182) (.tmp 185) rfl w.heap.size _ wvsA.length wvsA (.slice va' l.length vc') HCV.out.one _ rfl rfl rfl HWO12.out rfl HK7.out HS12.out ?_)
                      intro g13 cap13 w13 ho13 hp13
                      have HI13 := Lib.hid (HI12.out.push_was HCV.out ho13 hp13)
                      have hku : KeepT 5 w12 w13 := app_keepT HWO12.out hp13 (by decide)
                      have HAR13 := Lib.hid (show Arr w13 tb 5 (wide T) from (hku tb _ HAR12.out).trans HAR12.out)
                      clear ho13 hp13 hku HI12 HAR12 HWO12 HCV
                      go_wp2_with fail
                      go_meet
                      case rel => exact ⟨⟨s', rgA, mvA, bg, m', fs', bv', vs', len', C', .slice (some ⟨g11, 0, none⟩) (tvsA.length + 1) cap11, tvsA ++ [.slice va l.length vc], .slice (some ⟨g13, 0, none⟩) (wvsA.length + 1) cap13, wvsA ++ [.slice va' l.length vc']⟩, ls ++ [l], rfl, rfl, HG7.out, HRG.out, rfl, by have := HLT4.out; rw [List.length_append]; simp; omega, HST7.out, HI13.out, HAR13.out⟩
                    · have hd : decide ((tvsA.length : Int) < 400) = false := decide_eq_false (by omega)
                      clear htl hlt
                      go_wp2_with fail
                      go_meet
                      case rel => exact ⟨⟨s', rgA, mvA, bg, m', fs', bv', vs', len', C', .slice tba tvsA.length tca, tvsA, wvA, wvsA⟩, ls, rfl, rfl, HG7.out, HRG.out, rfl, HLS.out, HST7.out, HI10.out, HAR10.out⟩
              case rest =>
                obtain ⟨a2, ls2, rfl, rfl, hsg2, hrg2, hbg2, hls2, hst2, hI2, hAR2⟩ := hcut
                have HI2 := Lib.hid hI2
                have HAR2 := Lib.hid hAR2
                have HG2 := Lib.hid hsg2
                have HRG2 := Lib.hid hrg2
                have HBG2 := Lib.hid hbg2
                have HLS2 := Lib.hid hls2
                obtain ⟨-, m1, m2, hsb2⟩ := HC.out _ hI2.bel
                have HQ1 : Hid (∀ q, Calls Tryd.prog 18 #[.slice (some ⟨tb, 0, none⟩) T.length (T.length + 64), .slice ad T.length cc] (wc.drewN q) fun e w' => e = .returned (.bool true) ∧ ∃ m, w' = wc.drewN m) := Lib.hid fun q => by
                  refine (eqBytes_any (wc.drewN q) _ _ T T (Arr.wide_sb (hAR2.drewN q) HT.out (by have := HX.out; omega) _) (hsb2.below (below_drewN (Below.refl _ wc) q))).mono ?_
                  rintro e w' ⟨rfl, n, rfl⟩
                  exact ⟨by simp, _, World.drewN_drewN wc q n⟩
                have HQ2 : Hid (∀ q, Calls Tryd.prog 19 #[.slice (some ⟨tb, 0, none⟩) T.length (T.length + 64)] (wc.drewN q) fun e w' => e = .returned (.bool true) ∧ ∃ m, w' = wc.drewN m) := Lib.hid fun q => by
                  refine (spare_any (wc.drewN q) tb T.length _ (by have := HX.out; omega) (wide T) (wide_len T) (fun j h1 h2 => wide_hi T j h1 h2) (hAR2.drewN q)).mono ?_
                  rintro e w' ⟨rfl, n, rfl⟩
                  exact ⟨rfl, _, World.drewN_drewN wc q n⟩
                have HQ3 : Hid (∀ q, Calls Tryd.prog 21 #[.pointer (some ⟨s.g, 0, none⟩)] (wc.drewN q) fun e w' => e = .returned (.int .i64 (a2.s.steps : Int)) ∧ ∃ m, w' = wc.drewN m) := Lib.hid fun q => by
                  have h := steps_any (wc.drewN q) base M a2.s (hI2.sob.below (below_drewN (Below.refl _ wc) q))
                  rw [hsg2] at h
                  refine h.mono ?_
                  rintro e w' ⟨rfl, rfl⟩
                  exact ⟨rfl, q, rfl⟩
                have HQ4 : Hid (∀ q, Calls Tryd.prog 20 #[.int .i64 (a2.s.steps : Int), .int .i64 (M.length : Int), .int .i64 (T.length : Int), .int .i64 f] (wc.drewN q) fun e w' => e = .returned (.bool true) ∧ ∃ m, w' = wc.drewN m) := Lib.hid fun q => by
                  refine (counted_any (wc.drewN q) M T f a2.s.steps HX.out.2.1 HX.out.2.2 hst2).mono ?_
                  rintro e w' ⟨rfl, rfl⟩
                  exact ⟨rfl, q, rfl⟩
                clear hI2 hAR2 hsg2 hrg2 hbg2 hls2 hst2 hsb2
                have HDQ := Lib.hid (fun q => And.intro (HI2.out.below (below_drewN (Below.refl _ wc) q)) (HAR2.out.drewN q))
                go_upto_region 41 with fail
                go_quiet ((first | (go_at_call 18; exact HQ1.out _) | (go_at_call 19; exact HQ2.out _) | (go_at_call 21; exact HQ3.out _) | (go_at_call 20; exact HQ4.out _)))
                clear HQ1 HQ2 HQ3 HQ4 HI2 HAR2 m1 m2
                go_wp2_with fail
                go_loopw [25] (fun pv wr2 => ∃ (i : Nat) (L : List Int), pv = .int .i64 i ∧ i ≤ T.length ∧ L.length = T.length + 64 ∧ Arr wr2 tb 5 L ∧ AsI w wr2 base rbase M a2 ls2 ls2) (fun pv _ => T.length - (intOf pv).toNat)
                case atStart => exact ⟨0, wide T, rfl, Nat.zero_le _, wide_len T, (HDQ.out _).2, (HDQ.out _).1⟩
                case round =>
                  obtain ⟨i, L, rfl, hi, hL, hAr, hI⟩ := hrel
                  have HAr := Lib.hid hAr
                  have HIr := Lib.hid hI
                  have HLL := Lib.hid hL
                  have hT4 := HX.out.2.1
                  by_cases hil : i < T.length
                  · have hiI : (i : Int) < (T.length : Int) := by omega
                    have hiw : IntKind.i64.wrap ((i : Int) + 1) = (i : Int) + 1 := IntWalk.i64_in _ (by omega)
                    have e0 := hAr.cell i (by omega)
                    have f0 := hAr.frozen i
                    generalize L[i]?.getD 0 = y at e0
                    clear hAr hI hL hT4
                    go_wp2_with fail
                    go_roundw
                    case rel => exact ⟨i + 1, _, by go_num, hil, by rw [List.length_set]; exact HLL.out, HAr.out.set i _, HIr.out.txt (l := L.map (Value.int .u8)) HAr.out HLT.out.2 i _⟩
                    case measure => simp [intOf]; omega
                  · have hiI : ¬ (i : Int) < (T.length : Int) := by omega
                    clear hAr hI hL hT4
                    go_wp2_with fail
                    go_roundw
                    case rel => exact ⟨j + 1, a2, ls2, by go_num, hjk, rfl, rfl, HG2.out, HRG2.out, HBG2.out, HLS2.out, HIr.out⟩
                    case measure => simp [intOf]; omega
            · obtain rfl : j = k := by omega
              have hjI : ¬ (j : Int) < (j : Int) := by omega
              obtain ⟨sA, rgA, mvA, bgA, mA, fsA, bvA, vsA, lenA, CA, tvA, tvsA, wvA, wvsA⟩ := a
              have hto : wr.ownsRow w.heap.size 71 1 tvA tvsA.length tvsA := HI.out.told.own
              have hwo : wr.ownsRow w.heap.size 71 1 wvA wvsA.length wvsA := HI.out.was.own
              have htl : tvsA.length = ls.length := HI.out.told.len
              have hwl : wvsA.length = ls.length := HI.out.was.len
              obtain ⟨tba, tca, htv⟩ := own_shape hto
              obtain ⟨wba, wca, hwv⟩ := own_shape hwo
              rw [htl] at htv
              rw [hwl] at hwv
              subst htv
              subst hwv
              clear hto hwo htl hwl
              go_wp2_with fail
              go_loopw [26] (fun pv wr2 => ∃ i : Nat, pv = .int .i64 i ∧ i ≤ ls.length ∧ AsI w wr2 base rbase M ⟨sA, rgA, mvA, bgA, mA, fsA, bvA, vsA, lenA, CA, .slice tba ls.length tca, tvsA, .slice wba ls.length wca, wvsA⟩ ls ls) (fun pv _ => ls.length - (intOf pv).toNat)
              case atStart => exact ⟨0, rfl, Nat.zero_le _, HI.out⟩
              case round =>
                obtain ⟨i, rfl, hi, hI⟩ := hrel
                have HIr := Lib.hid hI
                have hls4 := HLS.out
                by_cases hil : i < ls.length
                · have hiI : (i : Int) < (ls.length : Int) := by omega
                  have hiw : IntKind.i64.wrap ((i : Int) + 1) = (i : Int) + 1 := IntWalk.i64_in _ (by omega)
                  obtain ⟨-, tg, tv, rfl, t0, tq⟩ := hI.told.read rfl i hil
                  obtain ⟨-, wg, wv, rfl, w0, wq⟩ := hI.was.read rfl i hil
                  have HQ : Hid (∀ q, Calls Tryd.prog 14 #[tv, wv] (wr.drewN q) fun e w' => e = .returned (.bool true) ∧ ∃ m, w' = wr.drewN m) := Lib.hid fun q => by
                    have hb : Below wr.heap.size wr (wr.drewN q) := below_drewN (Below.refl _ wr) q
                    refine (eqBools_any (wr.drewN q) tv wv _ _ ((tq.below hb).bsb tq.ub) ((wq.below hb).bsb wq.ub)).mono ?_
                    rintro e w' ⟨rfl, n, rfl⟩
                    exact ⟨by simp, _, World.drewN_drewN wr q n⟩
                  have HDQ := Lib.hid (fun q => hI.below (below_drewN (Below.refl _ wr) q))
                  clear hI tq wq
                  go_upto_region 50 with fail
                  go_quiet ((go_at_call 14; exact HQ.out _))
                  clear HQ t0 w0
                  go_wp2_with fail
                  go_roundw
                  case rel => exact ⟨i + 1, by go_num, hil, HDQ.out _⟩
                  case measure => simp [intOf]; omega
                · have hiI : ¬ (i : Int) < (ls.length : Int) := by omega
                  have ha := hI.go.apart hI.m4
                  have hbg : bgA = bg := HBG.out
                  subst hbg
                  have HAP := Lib.hid ha
                  clear ha hI
                  go_wp2_with fail
                  refine HAP.out.mono ?_
                  rintro e w20 ⟨rfl, hb20⟩
                  have HB20 := Lib.hid hb20
                  clear hb20 HAP
                  go_wp2_with fail
                  refine (works8_any _).mono ?_
                  rintro e w21 ⟨rfl, hb21⟩
                  have HB21 := Lib.hid (HB20.out.trans (hb21.mono HB20.out.size))
                  clear hb21
                  go_wp2_with fail
                  go_ret
                  exact ⟨rfl, HB21.out⟩
end Go.Proofs.YtfmcjmkdlldlhaaDoor
