/-
  galleylaw25.SpaceLines: its walk.
-/
import Derived.Test.YtadjonggmbndmaaSpJoin
import Derived.Test.YtadjonggmbndmaaLines
import Derived.Test.YtadjonggmbndmaaBools
import Derived.Deep.CutBlock
import Derived.Deep.DeepCutAuto
namespace Go.Proofs.Ytadjonggmbndmaa
open Go.RowKit

def LLInv (w : World) (B g : Nat) (most : Int) (n : Nat) (v12 v13 v14 : Value) (wr : World) : Prop :=
  ∃ (k b : Nat) (pv hv : Value) (vs : List Value) (R : List (List Int)) (z : Nat), k ≤ n ∧ v14 = .int .i64 k ∧ v13 = .int .i64 z ∧ (joinL R).length = z ∧ LinesAt wr g B b most pv hv v12 vs R ∧ Below w.heap.size w wr
def LLMid (w : World) (B g : Nat) (most : Int) (v12 v13 : Value) (wr : World) : Prop :=
  ∃ (b : Nat) (pv hv : Value) (vs : List Value) (R : List (List Int)) (z : Nat), v13 = .int .i64 z ∧ (joinL R).length = z ∧ LinesAt wr g B b most pv hv v12 vs R ∧ Below w.heap.size w wr
def CountInv (v : Value) : Prop := ∃ N : Int, v = .int .i64 N ∧ 0 ≤ N ∧ N ≤ 140737505128449

theorem ll_start {w w1 : World} {g B : Nat} {most : Int} (s : Sp w1 g B most (.slice none 0 0) (.slice none 0 0) [] []) (hb : Below w.heap.size w w1) (n : Nat) :
    LLInv w B g most n (.slice (some ⟨w1.heap.size, 0, none⟩) 1 1) (.int .i64 0) (.int .i64 0) (w1.alloc (.cells #[.slice none 0 0] 35)) := by
  have hb1 := (Below.refl w1.heap.size w1).alloc (Nat.le_refl _) (.cells #[.slice none 0 0] 35)
  refine ⟨0, w1.heap.size, _, _, [.slice none 0 0], [[]], 0, Nat.zero_le _, rfl, rfl, rfl, ⟨s.below hb1, ⟨⟨0, 1, _, rfl, s.base_le, heap_alloc_new w1 _, by simp, rfl, by decide, rfl⟩, rfl, fun i hi => ?_⟩, fun u hu => ?_, fun x hx => ?_, by simp⟩, hb.trans (hb1.mono hb.size)⟩
  · have : i = 0 := by simpa using hi
    subst this
    exact ⟨_, rfl, OwnB.nil _ _, by simp [Value.ownBlock], isB_nil, by simp⟩
  · rw [List.mem_singleton.1 hu]
    exact ⟨fun k e _ => by simp [Value.ownBlock] at e, fun k e _ => by simp [Value.ownBlock] at e⟩
  · rw [List.mem_singleton.1 hx]
    exact fun c hc => by cases hc

theorem LinesAt.cutOne {w w' : World} {g B b : Nat} {most : Int} {pv hv pv' hv' v : Value} {vs : List Value} {x : List Int} (h : LinesAt w g B b most pv hv v vs [x]) (st : SpStep w w' g B pv hv pv' hv') (s : Sp w' g B most pv' hv' (restL (joinL [x])) []) : LinesAt w' g B b most pv' hv' v vs [x] := by
  have hs := h.step st
  have e : restL (joinL [x]) = joinL [x] := by unfold restL; rw [joinL, cutL_none_of (h.nl x (List.mem_cons_self))]
  exact ⟨by rw [← e]; exact s, hs.1, hs.2, h.nl, h.ne⟩
theorem LinesAt.cutTwo {w w' : World} {g B b : Nat} {most : Int} {pv hv pv' hv' v v' y : Value} {vs : List Value} {x x2 : List Int} {R : List (List Int)} (h : LinesAt w g B b most pv hv v (y :: vs) (x :: x2 :: R)) (st : SpStep w w' g B pv hv pv' hv') (s : Sp w' g B most pv' hv' (restL (joinL (x :: x2 :: R))) []) (hw : Win w' B b v' vs) : LinesAt w' g B b most pv' hv' v' vs (x2 :: R) := by
  have hs := h.step st
  exact ⟨by rw [← restL_join x x2 R (h.nl x (List.mem_cons_self))]; exact s, hs.1.cut hw, fun u hu => hs.2 u (List.mem_cons_of_mem _ hu), fun z hz => h.nl z (List.mem_cons_of_mem _ hz), by simp⟩

theorem two_of {α : Type} {vs : List α} {n : Nat} (h : vs.length = n + 1 + 1) : ∃ y z r, vs = y :: z :: r := by
  match vs, h with
  | y :: z :: r, _ => exact ⟨y, z, r, rfl⟩

set_option maxHeartbeats 4000000 in
set_option maxRecDepth 100000 in
theorem lines_no (w : World) (most : Int) (a1 : Option Addr) (n1 c1 : Nat) (r : List (List Int)) (s1 : RB w (.slice a1 n1 c1) r) (v2 : Value) (hm : most < 0 ∨ 1048576 < most) :
    Calls Try.prog 10 #[.int .i64 most, .slice a1 n1 c1, v2] w fun e w' => e = .returned (.bool true) ∧ Below w.heap.size w w' := by
  obtain ⟨hrl, hrl2, -, -⟩ := s1.len
  have HRL := Lib.hid hrl
  have HM := Lib.hid hm
  clear hrl hm
  go_enter Try.func10, Try.ntmps10
  go_wp2_with fail
  refine (spWorks_any w).mono ?_
  rintro e w1 ⟨rfl, hb1⟩
  have hw01 := hb1.size
  go_upto_block 0 with fail
  go_cut [8] (fun v wx => CountInv v ∧ w1 = wx)
  case first =>
    go_wp2_with fail
    go_loop [8, 9] (fun v i => ∃ k : Nat, k ≤ n1 ∧ i = .int .i64 k ∧ ∃ N : Int, v = .int .i64 N ∧ 0 ≤ N ∧ N ≤ 140737505128449) (fun _ i => n1 - (intOf i).toNat)
    case atStart => exact ⟨0, Nat.zero_le _, rfl, 0, rfl, by omega, by omega⟩
    case round =>
      obtain ⟨k, hk, rfl, N, rfl, hN0, hN1⟩ := hrel
      by_cases hlt : k < n1
      · by_cases hN : N ≤ 16777216
        · obtain ⟨bb, o, rfl, hc⟩ := (s1.below hb1).read k hlt
          obtain ⟨ad, m, cc, hck, hsk, -, -⟩ := hc k hlt
          obtain ⟨hm1, hm2⟩ := hsk.len
          clear hc hsk hm1
          go_wp2_with fail
          go_round
          case rel => exact ⟨k + 1, by omega, by go_num, N + 1 + m, rfl, by omega, by omega⟩
          case measure => simp [intOf]; omega
        · go_wp2_with fail
          go_meet
          case rel => exact ⟨⟨N, rfl, hN0, hN1⟩, rfl⟩
      · go_wp2_with fail
        go_meet
        case rel => exact ⟨⟨N, rfl, hN0, hN1⟩, rfl⟩
  case rest =>
    obtain ⟨⟨N, rfl, hN0, hN1⟩, rfl⟩ := hcut
    go_wp2_with fail
    refine (new_no w1 most HM.out).mono ?_
    rintro e wN ⟨rfl, rfl⟩
    go_wp2_with fail
    go_ret
    exact ⟨rfl, hb1⟩

set_option maxHeartbeats 8000000 in
set_option maxRecDepth 100000 in
theorem lines_yes (w : World) (most : Int) (a1 : Option Addr) (n1 c1 : Nat) (r : List (List Int)) (s1 : RB w (.slice a1 n1 c1) r) (a2 : Option Addr) (n2 c2 : Nat) (q : List Bool) (s2 : CB w (.slice a2 n2 c2) q) (h0 : 0 ≤ most) (h1 : most ≤ 1048576) :
    Calls Try.prog 10 #[.int .i64 most, .slice a1 n1 c1, .slice a2 n2 c2] w fun e w' => e = .returned (.bool true) ∧ Below w.heap.size w w' := by
  obtain ⟨hrl, hrl2, -, -⟩ := s1.len
  have HRL := Lib.hid hrl
  clear hrl
  go_enter Try.func10, Try.ntmps10
  go_wp2_with fail
  refine (spWorks_any w).mono ?_
  rintro e w1 ⟨rfl, hb1⟩
  have hw01 := hb1.size
  go_upto_block 0 with fail
  go_cut [8] (fun v wx => CountInv v ∧ w1 = wx)
  case first =>
    go_wp2_with fail
    go_loop [8, 9] (fun v i => ∃ k : Nat, k ≤ n1 ∧ i = .int .i64 k ∧ ∃ N : Int, v = .int .i64 N ∧ 0 ≤ N ∧ N ≤ 140737505128449) (fun _ i => n1 - (intOf i).toNat)
    case atStart => exact ⟨0, Nat.zero_le _, rfl, 0, rfl, by omega, by omega⟩
    case round =>
      obtain ⟨k, hk, rfl, N, rfl, hN0, hN1⟩ := hrel
      by_cases hlt : k < n1
      · by_cases hN : N ≤ 16777216
        · obtain ⟨bb, o, rfl, hc⟩ := (s1.below hb1).read k hlt
          obtain ⟨ad, m, cc, hck, hsk, -, -⟩ := hc k hlt
          obtain ⟨hm1, hm2⟩ := hsk.len
          clear hc hsk hm1
          go_wp2_with fail
          go_round
          case rel => exact ⟨k + 1, by omega, by go_num, N + 1 + m, rfl, by omega, by omega⟩
          case measure => simp [intOf]; omega
        · go_wp2_with fail
          go_meet
          case rel => exact ⟨⟨N, rfl, hN0, hN1⟩, rfl⟩
      · go_wp2_with fail
        go_meet
        case rel => exact ⟨⟨N, rfl, hN0, hN1⟩, rfl⟩
  case rest =>
    obtain ⟨⟨N, rfl, hN0, hN1⟩, rfl⟩ := hcut
    go_wp2_with fail
    refine (new_yes w1 most h0 h1).mono ?_
    rintro e wN ⟨g, rfl, s0, hbN⟩
    have hpn : ((some ⟨g, 0, none⟩ : Option Addr) = none) = False := by simp
    have hb2 := hb1.trans (hbN.mono hw01)
    clear hpn
    by_cases hN : 16777216 < N
    · clear s0
      go_wp2_with fail
      go_ret
      exact ⟨rfl, hb2⟩
    · have HS := Lib.hid (ll_start s0 hb2 n1)
      generalize w1.heap.size = B at s0 hw01 HS hbN
      clear s0 hb1 hbN
      go_wp2_with fail
      go_loopw [12, 13, 14] (fun v12 v13 v14 wr => LLInv w B g most n1 v12 v13 v14 wr) (fun _ _ i _ => n1 - (intOf i).toNat)
      case atStart => exact HS.out
      case round =>
        clear HS hb2
        obtain ⟨k, b, pv, hv, vs, R, z, hk, rfl, rfl, hz, hA, rb⟩ := hrel
        by_cases hlt : k < n1
        · obtain ⟨bb, o, rfl, hc⟩ := (s1.below rb).read k hlt
          obtain ⟨ad, m, cc, hck, hsk, -, -⟩ := hc k hlt
          have hB := Lib.hid (plainL_isB hsk.1)
          have hNl := Lib.hid (plainL_noNl (r[k]?.getD []))
          have hle := plainL_le (r[k]?.getD [])
          have hl2 := hsk.len2
          have HP := Lib.hid (plain_any wr _ _ hsk)
          generalize plainL (r[k]?.getD []) = x at hB hNl hle HP
          have hxl : x.length ≤ 140737488351232 := by omega
          clear hc hsk hle hl2
          go_wp2_with fail
          refine HP.out.mono ?_
          rintro e w2 ⟨vx, rfl, hox, hbx⟩
          clear HP hck
          have hap := own_new hA.sp hox
          have hwr := hA.sp.base_le
          have hA := hA.below hbx
          have rb := rb.trans (hbx.mono rb.size)
          have hox := hox.mono hwr
          obtain ⟨adx, cx, rfl, hcx, hNx, hsx⟩ := hox.sbn hB.out hxl
          obtain ⟨m2, hm2⟩ : ∃ m2, x.length = m2 := ⟨_, rfl⟩
          rw [hm2] at hox hsx hap hcx hxl ⊢
          have HM2 := Lib.hid hm2
          obtain ⟨f1, f2, f3⟩ := hA.few
          rw [hz] at f2 f3
          have HZ := Lib.hid hz
          have HAP := Lib.hid hap
          have HNX := Lib.hid hNx
          clear hz hm2 hap hbx hNx
          by_cases hroom : (z : Int) + 1 + (m2 : Int) ≤ most
          · go_wp2_with fail
            refine (spJoin_yes w2 g B most pv hv (joinL R) [] hA.sp adx m2 cx x hsx HNX.out HAP.out.2.1 (by rw [HZ.out]; omega)).mono ?_
            intro e w3 hP
            obtain ⟨rfl, pv3, hv3, s3, st3⟩ := hP.get
            obtain ⟨ho3, ap3, aq3⟩ := st3.own hox HAP.out.1 HAP.out.2.1 HAP.out.2.2
            obtain ⟨hr3, ha3⟩ := hA.step st3
            have rb3 := st3.bel _ _ rb hw01
            have HA3 := Lib.hid ha3
            have HAP3 := Lib.hid (And.intro ap3 aq3)
            have hnl := Lib.hid hA.nl
            have hne := Lib.hid hA.ne
            have hl := hr3.len
            have HL := Lib.hid hl
            have hw3 := hr3.win
            clear hP st3 rb hA hsx hox ha3 ap3 aq3 hl
            go_upto_region 22 with (at_builtin; refine append_win rfl (.tmp 99) (.tmp 101) rfl B b _ vs _ rfl hw3 rfl rfl (by rw [HL.out]; omega) ?_; intro b' v' w4 hw4 hp4)
            have hA4 := LinesAt.push s3 hr3 HA3.out hnl.out hne.out hNl.out hw4 hp4 ho3 HAP3.out hB.out (by rw [HM2.out]; exact hxl)
            have rb4 := hp4.bel _ _ rb3 hw01
            have ez : (z : Int) + 1 + (m2 : Int) = ((z + 1 + m2 : Nat) : Int) := by omega
            have HZ4 : Hid ((joinL (R ++ [x])).length = z + 1 + m2) := by show _ = _; rw [joinL_snoc R x hne.out, List.length_append, List.length_cons, HZ.out, HM2.out]; omega
            have hz4 : z + 1 + m2 ≤ 1048576 := by omega
            rw [ez]
            generalize z + 1 + m2 = z4 at HZ4 hz4 ⊢
            generalize R ++ [x] = R4 at hA4 HZ4
            generalize hvs4 : vs ++ [Value.slice adx m2 cx] = vs4 at hA4 hw4
            clear hw3 s3 hr3 HA3 HAP3 hnl hne HL hw4 hp4 ho3 rb3 ez f1 f2 f3 HZ HAP HNX hvs4
            have hbk := rb4.size
            go_cut [117] (fun v wx => v = .bool (q[k]?.getD false) ∧ w4 = wx)
            case first =>
              by_cases hc2 : k < n2
              · obtain ⟨bq, oq, rfl, hcq⟩ := s2.read k hc2
                have hcq := (rb4.cell (World.block_lt_of_cell? w _ hcq)).trans hcq
                obtain ⟨t, ht⟩ : ∃ t, q[k]?.getD false = t := ⟨_, rfl⟩
                rw [ht] at hcq
                have HT := Lib.hid ht
                clear ht
                go_wp2_with fail
                go_meet
                case rel => exact ⟨by rw [HT.out], rfl⟩
              · have HQ : Hid (q[k]?.getD false = false) := by show _ = _; rw [List.getElem?_eq_none (by rw [s2.len]; omega)]; rfl
                go_wp2_with fail
                go_meet
                case rel => exact ⟨by rw [HQ.out], rfl⟩
            case rest =>
              obtain ⟨rfl, rfl⟩ := hcut
              go_upto_if 117 with fail
              generalize q[k]?.getD false = t
              go_cut [12, 13] (fun v12 v13 wx => LLMid w B g most v12 v13 wx)
              case first =>
                cases t
                · go_wp2_with fail
                  go_meet
                  case rel => exact ⟨b', pv3, hv3, vs4, R4, z4, rfl, HZ4.out, hA4, rb4⟩
                · match R4, vs4, HZ4, hA4 with
                  | [], _, _, hA => exact absurd rfl hA.ne
                  | [x0], vs, HZ, hA =>
                    obtain ⟨off, cap, ad0, c0, rfl, hcell, -, -⟩ := hA.rws.head
                    have hf : Hid (foundL (joinL [x0]) = false) := by rw [foundL_join _ _ (hA.nl x0 (List.mem_cons_self))]; rfl
                    have HC := Lib.hid (spCut_any w4 g B most pv3 hv3 _ [] hA.sp)
                    clear hcell
                    go_wp2_with fail
                    refine HC.out.mono ?_
                    intro e w5 hP
                    rw [hf.out] at hP
                    obtain ⟨rfl, pv5, hv5, s5, st5⟩ := hP.get
                    have hA5 := Lib.hid (hA.cutOne st5 s5)
                    have rb5 := st5.bel _ _ rb4 hw01
                    clear hP st5 s5 HC
                    go_wp2_with fail
                    go_meet
                    case rel => exact ⟨b', pv5, hv5, vs, [x0], z4, rfl, HZ.out, hA5.out, rb5⟩
                  | x0 :: x1 :: R1, vs, HZ, hA =>
                    obtain ⟨y0, y1, vs1, rfl⟩ := two_of hA.rws.len
                    obtain ⟨off, cap, ad0, c0, rfl, hcell, -, -⟩ := hA.rws.head
                    have hf := foundL_join x0 (x1 :: R1) (hA.nl x0 (List.mem_cons_self))
                    rw [decide_eq_true (by simp)] at hf
                    have HF := Lib.hid hf
                    have HC := Lib.hid (spCut_any w4 g B most pv3 hv3 _ [] hA.sp)
                    have hz2 := HZ.out
                    rw [join_len] at hz2
                    obtain ⟨rL, hlen⟩ : ∃ rL, (x1 :: R1).length + 1 = rL := ⟨_, rfl⟩
                    have h1L : 1 < rL := by rw [← hlen, List.length_cons]; omega
                    have h1D : decide (1 < rL) = true := decide_eq_true h1L
                    have h1Z : (1 : Int) < (rL : Int) := by omega
                    rw [hlen] at hA ⊢
                    obtain ⟨m0, hm0⟩ : ∃ m0, x0.length = m0 := ⟨_, rfl⟩
                    obtain ⟨z5, hz5⟩ : ∃ z5, (joinL (x1 :: R1)).length = z5 := ⟨_, rfl⟩
                    rw [hm0, hz5] at hz2
                    have hza : m0 + 1 + z5 ≤ z4 := by omega
                    have hzb : z4 ≤ m0 + 1 + z5 := by omega
                    have HM0 := Lib.hid hm0
                    have HZ5 := Lib.hid hz5
                    have HLN := Lib.hid hlen
                    clear hcell hf hm0 hz5 hz2 hlen
                    go_wp2_with fail
                    refine HC.out.mono ?_
                    intro e w5 hP
                    rw [HF.out] at hP
                    obtain ⟨rfl, pv5, hv5, s5, st5⟩ := hP.get
                    have hr5 := (hA.step st5).1
                    obtain ⟨off2, cap2, ad2, c2', he2, hcell, -, -⟩ := hr5.head
                    simp only [Value.slice.injEq, Option.some.injEq, Addr.mk.injEq] at he2
                    obtain ⟨⟨-, rfl, -⟩, -, -⟩ := he2
                    rw [HM0.out] at hcell
                    obtain ⟨v5, hcut5, hwin5⟩ := hr5.win.cut
                    have hA5 := Lib.hid (hA.cutTwo st5 s5 hwin5)
                    have rb5 := st5.bel _ _ rb4 hw01
                    have ez : (z4 : Int) - 1 - (m0 : Int) = (z5 : Int) := by omega
                    have EZ := Lib.hid ez
                    clear hP HC hr5 hwin5 s5 st5 ez
                    go_wp2_with fail
                    go_meet
                    case rel => exact ⟨b', pv5, hv5, _, x1 :: R1, z5, by rw [EZ.out], HZ5.out, hA5.out, rb5⟩
              case rest =>
                clear hA4 HZ4 rb4 hbk
                obtain ⟨b8, pv8, hv8, vs8, R8, z8, rfl, hz8, hA8, rb8⟩ := hcut
                obtain ⟨f1, f2, f3⟩ := hA8.few
                rw [hz8] at f2 f3
                have HZ8 := Lib.hid hz8
                clear hz8
                match R8, HZ8, hA8, f1 with
                | [], _, hA, _ => exact absurd rfl hA.ne
                | x0 :: R0, HZ8, hA8, f1 =>
                  obtain ⟨off, cap, ad0, c0, rfl, hcell, hsb, -⟩ := hA8.rws.head
                  obtain ⟨rL, hlen⟩ : ∃ rL, R0.length + 1 = rL := ⟨_, rfl⟩
                  have hfd := foundL_join x0 R0 (hA8.nl x0 (List.mem_cons_self))
                  rw [List.length_cons, hlen] at hfd
                  rw [hlen] at hA8 ⊢
                  have HFI := Lib.hid (firstL_join x0 R0 (hA8.nl x0 (List.mem_cons_self)))
                  have HFD := Lib.hid hfd
                  have HLN := Lib.hid hlen
                  have hpos : 0 < rL := by omega
                  have HC := Lib.hid (spFirst_any _ g B most pv8 hv8 _ [] hA8.sp)
                  have h1L : 1 < rL ∨ rL ≤ 1 := by omega
                  clear hcell hsb hfd hlen
                  go_wp2_with fail
                  refine HC.out.mono ?_
                  intro e w9 hP
                  unfold FirstPost at hP
                  rw [HFI.out, HFD.out] at hP
                  obtain ⟨va, rfl, oa, hb9⟩ := hP
                  have hx0 : IsB x0 ∧ x0.length ≤ 140737488351232 := by
                    obtain ⟨_, _, _, _, h, h'⟩ := hA8.rws.own 0 (by simp)
                    exact ⟨h, h'⟩
                  have sa := oa.sb hx0.1 hx0.2
                  obtain ⟨aa, na, ca, rfl⟩ := SB.shape2 sa
                  have hA9 := hA8.below hb9
                  have rb9 := rb8.trans (hb9.mono rb8.size)
                  clear HC hA8 rb8 oa hx0
                  have HC := Lib.hid (pattern_any _ g B most pv8 hv8 _ [] hA9.sp)
                  go_wp2_with fail
                  refine HC.out.mono ?_
                  rintro e w10 ⟨vp, rfl, op, hb10⟩
                  have sp10 := op.sb hA9.sp.bp hA9.sp.len2P
                  obtain ⟨ap, np, cp, rfl⟩ := sp10.shape2
                  obtain rfl : z8 = np := HZ8.out.symm.trans sp10.len.1
                  have hA10 := hA9.below hb10
                  have sa10 := sa.below hb10
                  have rb10 := rb9.trans (hb10.mono rb9.size)
                  obtain ⟨off2, cap2, ad2, c2', he2, hcell, hsb, -⟩ := hA10.rws.head
                  simp only [Value.slice.injEq, Option.some.injEq, Addr.mk.injEq] at he2
                  obtain ⟨⟨-, rfl, -⟩, -, -⟩ := he2
                  have he := eqBytes_any w10 _ _ x0 x0 sa10 hsb
                  rw [decide_eq_true rfl] at he
                  have HE := Lib.hid he
                  generalize x0.length = m0 at hcell HE
                  clear HC hA9 rb9 op sa sa10 hb9 hb10 he hsb
                  rcases h1L with h1L | h1L
                  · rw [decide_eq_true h1L]
                    have h1Z : (1 : Int) < (rL : Int) := by omega
                    go_wp2_with fail
                    refine HE.out.mono ?_
                    rintro e w11 ⟨rfl, n11, rfl⟩
                    have hA11 := hA10.drewN n11
                    have rb11 := below_drewN rb10 n11
                    have HLn := Lib.hid (lines_any _ _ _ (sp10.drewN n11) (by rw [HZ8.out]; omega))
                    clear hA10 rb10 HE sp10 hcell
                    go_wp2_with fail
                    refine HLn.out.mono ?_
                    rintro e w12 ⟨vl, rfl, rbl, hb12⟩
                    rw [linesL_join _ _ hA11.nl] at rbl
                    have hA12 := hA11.below hb12
                    have rb12 := rb11.trans (hb12.mono rb11.size)
                    have he := eqRows_any w12 _ _ _ _ rbl (hA12.rws.rb (by omega))
                    rw [decide_eq_true rfl] at he
                    have HE := Lib.hid he
                    clear HLn rbl hb12 hA11 rb11 he
                    go_wp2_with fail
                    refine HE.out.mono ?_
                    rintro e w13 ⟨rfl, n13, rfl⟩
                    have hA13 := Lib.hid (hA12.drewN n13)
                    have rb13 := below_drewN rb12 n13
                    clear hA12 rb12 HE
                    go_wp2_with fail
                    go_roundw
                    case rel => exact ⟨k + 1, b8, pv8, hv8, vs8, x0 :: R0, z8, by omega, by go_num, rfl, HZ8.out, hA13.out, rb13⟩
                    case measure => simp [intOf]; omega
                  · rw [decide_eq_false (by omega)]
                    have h1Z : (rL : Int) ≤ 1 := by omega
                    go_wp2_with fail
                    refine HE.out.mono ?_
                    rintro e w11 ⟨rfl, n11, rfl⟩
                    have hA11 := hA10.drewN n11
                    have rb11 := below_drewN rb10 n11
                    have HLn := Lib.hid (lines_any _ _ _ (sp10.drewN n11) (by rw [HZ8.out]; omega))
                    clear hA10 rb10 HE sp10 hcell
                    go_wp2_with fail
                    refine HLn.out.mono ?_
                    rintro e w12 ⟨vl, rfl, rbl, hb12⟩
                    rw [linesL_join _ _ hA11.nl] at rbl
                    have hA12 := hA11.below hb12
                    have rb12 := rb11.trans (hb12.mono rb11.size)
                    have he := eqRows_any w12 _ _ _ _ rbl (hA12.rws.rb (by omega))
                    rw [decide_eq_true rfl] at he
                    have HE := Lib.hid he
                    clear HLn rbl hb12 hA11 rb11 he
                    go_wp2_with fail
                    refine HE.out.mono ?_
                    rintro e w13 ⟨rfl, n13, rfl⟩
                    have hA13 := Lib.hid (hA12.drewN n13)
                    have rb13 := below_drewN rb12 n13
                    clear hA12 rb12 HE
                    go_wp2_with fail
                    go_roundw
                    case rel => exact ⟨k + 1, b8, pv8, hv8, vs8, x0 :: R0, z8, by omega, by go_num, rfl, HZ8.out, hA13.out, rb13⟩
                    case measure => simp [intOf]; omega

          · go_wp2_with fail
            refine (spJoin_no w2 g B most pv hv (joinL R) [] hA.sp adx m2 cx hxl (by rw [HZ.out]; omega)).mono ?_
            intro e w4 hP
            obtain ⟨rfl, pv3, hv3, s3, st3⟩ := hP.get
            obtain ⟨hr3, ha3⟩ := hA.step st3
            have hA4 : LinesAt w4 g B b most pv3 hv3 _ vs R := ⟨s3, hr3, ha3, hA.nl, hA.ne⟩
            have rb4 := st3.bel _ _ rb hw01
            have HZ4 := HZ
            clear hP st3 rb hA hsx hox s3 hr3 ha3 f1 HZ HAP HNX
            go_upto_region 22 with fail
            have hbk := rb4.size
            go_cut [117] (fun v wx => v = .bool (q[k]?.getD false) ∧ w4 = wx)
            case first =>
              by_cases hc2 : k < n2
              · obtain ⟨bq, oq, rfl, hcq⟩ := s2.read k hc2
                have hcq := (rb4.cell (World.block_lt_of_cell? w _ hcq)).trans hcq
                obtain ⟨t, ht⟩ : ∃ t, q[k]?.getD false = t := ⟨_, rfl⟩
                rw [ht] at hcq
                have HT := Lib.hid ht
                clear ht
                go_wp2_with fail
                go_meet
                case rel => exact ⟨by rw [HT.out], rfl⟩
              · have HQ : Hid (q[k]?.getD false = false) := by show _ = _; rw [List.getElem?_eq_none (by rw [s2.len]; omega)]; rfl
                go_wp2_with fail
                go_meet
                case rel => exact ⟨by rw [HQ.out], rfl⟩
            case rest =>
              obtain ⟨rfl, rfl⟩ := hcut
              go_upto_if 117 with fail
              generalize q[k]?.getD false = t
              go_cut [12, 13] (fun v12 v13 wx => LLMid w B g most v12 v13 wx)
              case first =>
                cases t
                · go_wp2_with fail
                  go_meet
                  case rel => exact ⟨b, pv3, hv3, vs, R, z, rfl, HZ4.out, hA4, rb4⟩
                · match R, vs, HZ4, hA4 with
                  | [], _, _, hA => exact absurd rfl hA.ne
                  | [x0], vs, HZ, hA =>
                    obtain ⟨off, cap, ad0, c0, rfl, hcell, -, -⟩ := hA.rws.head
                    have hf : Hid (foundL (joinL [x0]) = false) := by rw [foundL_join _ _ (hA.nl x0 (List.mem_cons_self))]; rfl
                    have HC := Lib.hid (spCut_any w4 g B most pv3 hv3 _ [] hA.sp)
                    clear hcell
                    go_wp2_with fail
                    refine HC.out.mono ?_
                    intro e w5 hP
                    rw [hf.out] at hP
                    obtain ⟨rfl, pv5, hv5, s5, st5⟩ := hP.get
                    have hA5 := Lib.hid (hA.cutOne st5 s5)
                    have rb5 := st5.bel _ _ rb4 hw01
                    clear hP st5 s5 HC
                    go_wp2_with fail
                    go_meet
                    case rel => exact ⟨b, pv5, hv5, vs, [x0], z, rfl, HZ.out, hA5.out, rb5⟩
                  | x0 :: x1 :: R1, vs, HZ, hA =>
                    obtain ⟨y0, y1, vs1, rfl⟩ := two_of hA.rws.len
                    obtain ⟨off, cap, ad0, c0, rfl, hcell, -, -⟩ := hA.rws.head
                    have hf := foundL_join x0 (x1 :: R1) (hA.nl x0 (List.mem_cons_self))
                    rw [decide_eq_true (by simp)] at hf
                    have HF := Lib.hid hf
                    have HC := Lib.hid (spCut_any w4 g B most pv3 hv3 _ [] hA.sp)
                    have hz2 := HZ.out
                    rw [join_len] at hz2
                    obtain ⟨rL, hlen⟩ : ∃ rL, (x1 :: R1).length + 1 = rL := ⟨_, rfl⟩
                    have h1L : 1 < rL := by rw [← hlen, List.length_cons]; omega
                    have h1D : decide (1 < rL) = true := decide_eq_true h1L
                    have h1Z : (1 : Int) < (rL : Int) := by omega
                    rw [hlen] at hA ⊢
                    obtain ⟨m0, hm0⟩ : ∃ m0, x0.length = m0 := ⟨_, rfl⟩
                    obtain ⟨z5, hz5⟩ : ∃ z5, (joinL (x1 :: R1)).length = z5 := ⟨_, rfl⟩
                    rw [hm0, hz5] at hz2
                    have hza : m0 + 1 + z5 ≤ z := by omega
                    have hzb : z ≤ m0 + 1 + z5 := by omega
                    have HM0 := Lib.hid hm0
                    have HZ5 := Lib.hid hz5
                    have HLN := Lib.hid hlen
                    clear hcell hf hm0 hz5 hz2 hlen
                    go_wp2_with fail
                    refine HC.out.mono ?_
                    intro e w5 hP
                    rw [HF.out] at hP
                    obtain ⟨rfl, pv5, hv5, s5, st5⟩ := hP.get
                    have hr5 := (hA.step st5).1
                    obtain ⟨off2, cap2, ad2, c2', he2, hcell, -, -⟩ := hr5.head
                    simp only [Value.slice.injEq, Option.some.injEq, Addr.mk.injEq] at he2
                    obtain ⟨⟨-, rfl, -⟩, -, -⟩ := he2
                    rw [HM0.out] at hcell
                    obtain ⟨v5, hcut5, hwin5⟩ := hr5.win.cut
                    have hA5 := Lib.hid (hA.cutTwo st5 s5 hwin5)
                    have rb5 := st5.bel _ _ rb4 hw01
                    have ez : (z : Int) - 1 - (m0 : Int) = (z5 : Int) := by omega
                    have EZ := Lib.hid ez
                    clear hP HC hr5 hwin5 s5 st5 ez
                    go_wp2_with fail
                    go_meet
                    case rel => exact ⟨b, pv5, hv5, _, x1 :: R1, z5, by rw [EZ.out], HZ5.out, hA5.out, rb5⟩
              case rest =>
                clear hA4 HZ4 rb4 hbk
                obtain ⟨b8, pv8, hv8, vs8, R8, z8, rfl, hz8, hA8, rb8⟩ := hcut
                obtain ⟨f1, f2, f3⟩ := hA8.few
                rw [hz8] at f2 f3
                have HZ8 := Lib.hid hz8
                clear hz8
                match R8, HZ8, hA8, f1 with
                | [], _, hA, _ => exact absurd rfl hA.ne
                | x0 :: R0, HZ8, hA8, f1 =>
                  obtain ⟨off, cap, ad0, c0, rfl, hcell, hsb, -⟩ := hA8.rws.head
                  obtain ⟨rL, hlen⟩ : ∃ rL, R0.length + 1 = rL := ⟨_, rfl⟩
                  have hfd := foundL_join x0 R0 (hA8.nl x0 (List.mem_cons_self))
                  rw [List.length_cons, hlen] at hfd
                  rw [hlen] at hA8 ⊢
                  have HFI := Lib.hid (firstL_join x0 R0 (hA8.nl x0 (List.mem_cons_self)))
                  have HFD := Lib.hid hfd
                  have HLN := Lib.hid hlen
                  have hpos : 0 < rL := by omega
                  have HC := Lib.hid (spFirst_any _ g B most pv8 hv8 _ [] hA8.sp)
                  have h1L : 1 < rL ∨ rL ≤ 1 := by omega
                  clear hcell hsb hfd hlen
                  go_wp2_with fail
                  refine HC.out.mono ?_
                  intro e w9 hP
                  unfold FirstPost at hP
                  rw [HFI.out, HFD.out] at hP
                  obtain ⟨va, rfl, oa, hb9⟩ := hP
                  have hx0 : IsB x0 ∧ x0.length ≤ 140737488351232 := by
                    obtain ⟨_, _, _, _, h, h'⟩ := hA8.rws.own 0 (by simp)
                    exact ⟨h, h'⟩
                  have sa := oa.sb hx0.1 hx0.2
                  obtain ⟨aa, na, ca, rfl⟩ := SB.shape2 sa
                  have hA9 := hA8.below hb9
                  have rb9 := rb8.trans (hb9.mono rb8.size)
                  clear HC hA8 rb8 oa hx0
                  have HC := Lib.hid (pattern_any _ g B most pv8 hv8 _ [] hA9.sp)
                  go_wp2_with fail
                  refine HC.out.mono ?_
                  rintro e w10 ⟨vp, rfl, op, hb10⟩
                  have sp10 := op.sb hA9.sp.bp hA9.sp.len2P
                  obtain ⟨ap, np, cp, rfl⟩ := sp10.shape2
                  obtain rfl : z8 = np := HZ8.out.symm.trans sp10.len.1
                  have hA10 := hA9.below hb10
                  have sa10 := sa.below hb10
                  have rb10 := rb9.trans (hb10.mono rb9.size)
                  obtain ⟨off2, cap2, ad2, c2', he2, hcell, hsb, -⟩ := hA10.rws.head
                  simp only [Value.slice.injEq, Option.some.injEq, Addr.mk.injEq] at he2
                  obtain ⟨⟨-, rfl, -⟩, -, -⟩ := he2
                  have he := eqBytes_any w10 _ _ x0 x0 sa10 hsb
                  rw [decide_eq_true rfl] at he
                  have HE := Lib.hid he
                  generalize x0.length = m0 at hcell HE
                  clear HC hA9 rb9 op sa sa10 hb9 hb10 he hsb
                  rcases h1L with h1L | h1L
                  · rw [decide_eq_true h1L]
                    have h1Z : (1 : Int) < (rL : Int) := by omega
                    go_wp2_with fail
                    refine HE.out.mono ?_
                    rintro e w11 ⟨rfl, n11, rfl⟩
                    have hA11 := hA10.drewN n11
                    have rb11 := below_drewN rb10 n11
                    have HLn := Lib.hid (lines_any _ _ _ (sp10.drewN n11) (by rw [HZ8.out]; omega))
                    clear hA10 rb10 HE sp10 hcell
                    go_wp2_with fail
                    refine HLn.out.mono ?_
                    rintro e w12 ⟨vl, rfl, rbl, hb12⟩
                    rw [linesL_join _ _ hA11.nl] at rbl
                    have hA12 := hA11.below hb12
                    have rb12 := rb11.trans (hb12.mono rb11.size)
                    have he := eqRows_any w12 _ _ _ _ rbl (hA12.rws.rb (by omega))
                    rw [decide_eq_true rfl] at he
                    have HE := Lib.hid he
                    clear HLn rbl hb12 hA11 rb11 he
                    go_wp2_with fail
                    refine HE.out.mono ?_
                    rintro e w13 ⟨rfl, n13, rfl⟩
                    have hA13 := Lib.hid (hA12.drewN n13)
                    have rb13 := below_drewN rb12 n13
                    clear hA12 rb12 HE
                    go_wp2_with fail
                    go_roundw
                    case rel => exact ⟨k + 1, b8, pv8, hv8, vs8, x0 :: R0, z8, by omega, by go_num, rfl, HZ8.out, hA13.out, rb13⟩
                    case measure => simp [intOf]; omega
                  · rw [decide_eq_false (by omega)]
                    have h1Z : (rL : Int) ≤ 1 := by omega
                    go_wp2_with fail
                    refine HE.out.mono ?_
                    rintro e w11 ⟨rfl, n11, rfl⟩
                    have hA11 := hA10.drewN n11
                    have rb11 := below_drewN rb10 n11
                    have HLn := Lib.hid (lines_any _ _ _ (sp10.drewN n11) (by rw [HZ8.out]; omega))
                    clear hA10 rb10 HE sp10 hcell
                    go_wp2_with fail
                    refine HLn.out.mono ?_
                    rintro e w12 ⟨vl, rfl, rbl, hb12⟩
                    rw [linesL_join _ _ hA11.nl] at rbl
                    have hA12 := hA11.below hb12
                    have rb12 := rb11.trans (hb12.mono rb11.size)
                    have he := eqRows_any w12 _ _ _ _ rbl (hA12.rws.rb (by omega))
                    rw [decide_eq_true rfl] at he
                    have HE := Lib.hid he
                    clear HLn rbl hb12 hA11 rb11 he
                    go_wp2_with fail
                    refine HE.out.mono ?_
                    rintro e w13 ⟨rfl, n13, rfl⟩
                    have hA13 := Lib.hid (hA12.drewN n13)
                    have rb13 := below_drewN rb12 n13
                    clear hA12 rb12 HE
                    go_wp2_with fail
                    go_roundw
                    case rel => exact ⟨k + 1, b8, pv8, hv8, vs8, x0 :: R0, z8, by omega, by go_num, rfl, HZ8.out, hA13.out, rb13⟩
                    case measure => simp [intOf]; omega
        · have HZ := Lib.hid hz
          clear hz hA
          go_wp2_with fail
          go_ret
          exact ⟨rfl, rb⟩
end Go.Proofs.Ytadjonggmbndmaa
