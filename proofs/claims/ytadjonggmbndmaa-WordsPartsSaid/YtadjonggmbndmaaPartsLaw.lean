/-
  galleylaw19.WordsParts: its walk.
-/
import Derived.Test.YtadjonggmbndmaaWorks
import Derived.Test.YtadjonggmbndmaaRight
import Derived.Test.YtadjonggmbndmaaEq
import Derived.Test.YtadjonggmbndmaaEqMarks
import Derived.Test.YtadjonggmbndmaaCopy
import Derived.Deep.CutBlock
import Derived.Deep.DeepCutAuto
namespace Go.Proofs.Ytadjonggmbndmaa
open Go.RowKit

/-- What Part makes of a text from a place on. -/
def partO (d : Int) (e : Bool) (t : List Int) : Option (List Mk × Nat) := if okD d then partL d e t else none
def PartPost2 (w : World) (g : Nat) (l : List Int) (a : Nat) (d : Int) (e : Bool) (r : Ending) (w' : World) : Prop :=
  match partO d e (l.drop a) with
  | some (m, n) => ∃ v, r = .returned (.tuple #[v, .int .i64 0]) ∧ OwnM w' w.heap.size v m ∧ IsM m ∧ m.length ≤ l.length ∧ Wd w' g l (a + n) ∧ w.grownBy w' (some g)
  | none => r = .returned (.tuple #[.slice none 0 0, .int .i64 70]) ∧ Wd w' g l a ∧ w.grownBy w' (some g)
theorem okD_of (d : Int) (h : okD d = true) : ¬ (92 : Int) = d ∧ ¬ (10 : Int) = d := by
  simp only [okD, decide_eq_true_eq] at h
  exact ⟨fun e => h.1 e.symm, fun e => h.2 e.symm⟩
theorem part_any (w : World) (g : Nat) (l : List Int) (a : Nat) (d : Int) (e : Bool) (h : Wd w g l a) (hl40 : l.length ≤ 1099511627776) :
    Calls Try.prog 28 #[.pointer (some ⟨g, 0, none⟩), .int .u8 d, .bool e] w (PartPost2 w g l a d e) := by
  cases hd : okD d
  · have h2 : d = 92 ∨ d = 10 := by
      simp only [okD, decide_eq_false_iff_not] at hd
      omega
    refine (part_bad w g l a d e h2 h).mono fun r w' ⟨h1, h3⟩ => ?_
    subst h3
    unfold PartPost2 partO
    rw [hd]
    exact ⟨h1, h, grown_refl _ _⟩
  · obtain ⟨h1, h2⟩ := okD_of d hd
    refine (part_good w g l a d e h1 h2 h hl40).mono fun r w' hP => ?_
    unfold PartPost2 partO
    rw [hd]
    exact hP
theorem part2_none {w w' : World} {g : Nat} {l : List Int} {a : Nat} {d : Int} {e : Bool} {r : Ending} (h : PartPost2 w g l a d e r w') (hp : partO d e (l.drop a) = none) :
    r = .returned (.tuple #[.slice none 0 0, .int .i64 70]) ∧ Wd w' g l a ∧ w.grownBy w' (some g) := by
  unfold PartPost2 at h
  rw [hp] at h
  exact h
theorem part2_some {w w' : World} {g : Nat} {l : List Int} {a : Nat} {d : Int} {e : Bool} {r : Ending} {m : List Mk} {n : Nat} (h : PartPost2 w g l a d e r w') (hp : partO d e (l.drop a) = some (m, n)) :
    ∃ v, r = .returned (.tuple #[v, .int .i64 0]) ∧ OwnM w' w.heap.size v m ∧ IsM m ∧ m.length ≤ l.length ∧ Wd w' g l (a + n) ∧ w.grownBy w' (some g) := by
  unfold PartPost2 at h
  rw [hp] at h
  exact h

/-- What is known of the marks that are cut off. -/
theorem parts_none (d : Int) (e : Bool) (l : List Mk) (b : List Int) (h : partO d e (wrL l ++ d :: b) = none) : (rightL d e l && okD d) = false := by
  unfold partO at h
  cases hd : okD d
  · simp
  · rw [hd] at h
    obtain ⟨h1, h2⟩ := okD_of d hd
    cases hr : rightL d e l
    · rfl
    · rw [if_pos rfl, part_written d e h1 h2 b l.length l (Nat.le_refl _) hr] at h
      cases h
theorem parts_some (d : Int) (e : Bool) (l m : List Mk) (n : Nat) (b : List Int) (h : partO d e (wrL l ++ d :: b) = some (m, n)) :
    okD d = true ∧ (rightL d e l = true → m = l) ∧ rightL d e m = true ∧ n = (wrL m).length + 1 ∧ ∃ r, wrL l ++ d :: b = wrL m ++ d :: r := by
  unfold partO at h
  cases hd : okD d
  · rw [hd] at h; cases h
  · rw [hd, if_pos rfl] at h
    obtain ⟨h1, h2⟩ := okD_of d hd
    obtain ⟨r, hr1, hr2, hr3⟩ := part_read d e h1 h2 _ _ m n (Nat.le_refl _) h
    refine ⟨rfl, fun hr => ?_, hr3, hr2, r, hr1⟩
    rw [part_written d e h1 h2 b l.length l (Nat.le_refl _) hr] at h
    simp only [Option.some.injEq, Prod.mk.injEq] at h
    exact h.1.symm
theorem cut_at (x m r : List Int) (d : Int) (t : List Int) (h : t.drop x.length = m ++ d :: r) (hx : t.length ≥ x.length) : x.length + m.length < t.length ∧ t[x.length + m.length]?.getD 0 = d ∧ (t.drop x.length).take m.length = m := by
  have hl : (t.drop x.length).length = m.length + (r.length + 1) := by rw [h, List.length_append]; rfl
  rw [List.length_drop] at hl
  refine ⟨by omega, ?_, by rw [h, List.take_left']; rfl⟩
  have : (t.drop x.length)[m.length]? = some d := by rw [h]; simp
  rw [List.getElem?_drop] at this
  rw [this]
  rfl

set_option maxHeartbeats 4000000 in
set_option maxRecDepth 100000 in
theorem parts_walk (w : World) (a0 : Option Addr) (n0 c0 : Nat) (x : List Int) (s0 : SB w (.slice a0 n0 c0) x) (a1 : Option Addr) (n1 c1 : Nat) (b : List Int) (s1 : SB w (.slice a1 n1 c1) b) (hN1 : a1 = none → c1 = 0)
    (a2 : Option Addr) (n2 c2 : Nat) (l : List Mk) (s2 : SM w (.slice a2 n2 c2) l) (d : Int) (hd0 : 0 ≤ d) (hd1 : d ≤ 255) (e : Bool) :
    Calls Try.prog 6 #[.slice a0 n0 c0, .slice a1 n1 c1, .slice a2 n2 c2, .int .u8 d, .bool e] w fun r w' => r = .returned (.bool true) ∧ Below w.heap.size w w' := by
  obtain ⟨hx, hxl⟩ := s0.len
  obtain ⟨hbl, hbl2⟩ := s1.len
  obtain ⟨hll, hll2⟩ := s2.len
  have HN1 := Lib.hid hN1
  have HX := Lib.hid hx
  have HBL := Lib.hid hbl
  have HLL := Lib.hid hll
  clear hN1 hx hbl hll
  go_enter Try.func6, Try.ntmps6
  go_wp2_with fail
  refine (works_any w).mono ?_
  rintro r w1 ⟨rfl, hb1⟩
  have hw01 := hb1.size
  by_cases hlong : (16777216 : Int) < (n0 : Int) + (n1 : Int) + (n2 : Int)
  · go_wp2_with fail
    go_ret
    exact ⟨rfl, hb1⟩
  go_wp2_with fail
  refine (copy_any w1 _ x (s0.below hb1)).mono ?_
  rintro r w2 ⟨v2, rfl, o2, hb2⟩
  have hbel2 := hb1.trans (hb2.mono hb1.size)
  go_wp2_with fail
  refine (written_any w2 _ l (s2.below hbel2) (by rw [HLL.out]; omega)).mono ?_
  rintro r w3 ⟨v3, rfl, o3, hb3⟩
  have hbel3 := hbel2.trans (hb3.mono hbel2.size)
  have hwl := wrL_len l
  rw [HLL.out] at hwl
  have hwB := wrL_isB l s2.1
  obtain ⟨a3, c3, he3, -, hN3, s3⟩ := o3.sbn hwB (by omega)
  subst he3
  have o2 := o2.below hb3
  have hs23 := Nat.le_trans hb2.size hb3.size
  have HWB := Lib.hid hwB
  clear hb1 hb2 hb3 o3 hbel2 hwB
  have hcat : Hid (wrL l ++ d :: b = wrL l ++ ([d] ++ b)) := rfl
  generalize hW : wrL l = y at hwl s3 HWB hcat ⊢
  have HW := Lib.hid hW
  clear hW
  go_wp2_with (at_builtin; refine append_sbp rfl (.tmp 35) (.tmp 36) rfl w1.heap.size _ x y a3 y.length c3 rfl o2 rfl hN3 s3 (by rw [HX.out]; omega) hs23 ?_)
  intro v4 w4 o4 hA
  have hbel4 := hA.bel _ _ hbel3 hw01
  have hs4 := Nat.le_trans hs23 hA.size
  have hl4 : Hid ((x ++ y).length = x.length + y.length) := List.length_append
  clear hbel3 hA o2 s3 hN3
  go_wp2_with (at_builtin; refine append_b1 rfl (.tmp 38) (.tmp 40) rfl w1.heap.size _ (x ++ y) d rfl o4 rfl (by rw [hl4.out, HX.out]; omega) hs4 ?_)
  intro v5 w5 o5 hA
  have hbel5 := hA.bel _ _ hbel4 hw01
  have hs5 := Nat.le_trans hs4 hA.size
  have hl5 : (x ++ (y ++ [d])).length = n0 + y.length + 1 := by rw [List.length_append, List.length_append, HX.out]; rfl
  have o5 : OwnB w5 w1.heap.size v5 (x ++ (y ++ [d])) := by rw [← List.append_assoc]; simpa using o5
  have hl5' : (x ++ (y ++ [d])).length ≤ n0 + y.length + 1 := Nat.le_of_eq hl5
  clear hbel4 hA o4 hs4 hl5
  go_wp2_with (at_builtin; refine append_sbp rfl (.tmp 42) (.tmp 43) rfl w1.heap.size _ (x ++ (y ++ [d])) b a1 n1 c1 rfl o5 rfl HN1.out (s1.below hbel5) (by omega) hs5 ?_)
  intro v6 w6 o6 hA
  have hbel6 := hA.bel _ _ hbel5 hw01
  have ht : x ++ (y ++ [d]) ++ b = x ++ (y ++ d :: b) := by simp
  have o6 : OwnB w6 w1.heap.size v6 (x ++ (y ++ d :: b)) := by rw [← ht]; simpa using o6
  have hdr : (x ++ (y ++ d :: b)).drop x.length = y ++ d :: b := List.drop_left
  have hTl : (x ++ (y ++ d :: b)).length = n0 + y.length + 1 + n1 := by rw [List.length_append, List.length_append, List.length_cons, HX.out, HBL.out]; omega
  have hTB : IsB (x ++ (y ++ d :: b)) := isB_append _ _ s0.1 (isB_append _ _ HWB.out (isB_append [d] b (isB_one d hd0 hd1) s1.1))
  rw [HX.out] at hdr
  generalize x ++ (y ++ d :: b) = t at o6 hdr hTl hTB
  obtain ⟨a6, c6, he6, hc6, -, s6⟩ := o6.sbn hTB (by omega)
  subst he6
  have HDR := Lib.hid hdr
  have HTL := Lib.hid hTl
  have htl1 : n0 + 1 ≤ t.length := by omega
  have htl2 : t.length ≤ 100663296 := by omega
  clear hbel5 hA o5 hs5 hl5' ht hdr hTl hTB o6 hl4 hcat
  go_wp2_with fail
  refine (newWords_any w6 _ t s6).mono ?_
  rintro r w7 ⟨g, rfl, hg, hW, hb7⟩
  have hbel7 := hbel6.trans (hb7.mono hbel6.size)
  have s7 := s6.below hb7
  have hgB := Nat.le_trans hbel6.size hg
  clear hbel6 s6 hb7 hg
  go_wp2_with fail
  go_loopw [15] (fun i wr => ∃ k : Nat, k ≤ n0 ∧ i = .int .i64 k ∧ Wd wr g t k ∧ SB wr (.slice a6 t.length c6) t ∧ Below w.heap.size w wr) (fun i _ => n0 - (intOf i).toNat)
  case atStart => exact ⟨0, Nat.zero_le _, rfl, hW, s7, hbel7⟩
  case round =>
    obtain ⟨k, hk, rfl, hW, s7, hbel⟩ := hrel
    by_cases hlt : k < n0
    · go_wp2_with fail
      refine (take_yes wr g t k hW (by omega)).mono ?_
      rintro r w8 ⟨rfl, hW8, hG⟩
      have s8 := s7.wd hW hG
      have hbel8 := Below.at hbel hG hbel.size hgB
      clear hW s7 hbel hG
      go_wp2_with fail
      go_roundw
      case rel => exact ⟨k + 1, by omega, by go_num, hW8, s8, hbel8⟩
      case measure => simp [intOf]; omega
    · obtain rfl : k = n0 := by omega
      clear hk hlt
      go_wp2_with fail
      refine (part_any wr g t k d e hW (by omega)).mono ?_
      intro r w8 hP
      cases hpo : partO d e (t.drop k) with
      | none =>
        obtain ⟨rfl, hW8, hG⟩ := part2_none hP hpo
        have hbel8 := Below.at hbel hG hbel.size hgB
        have hR : Hid ((rightL d e l && okD d) = false) := by
          rw [HDR.out, ← HW.out] at hpo
          exact parts_none d e l b hpo
        clear hP hW s7 hbel hG hpo
        have s2' := s2.below hbel8
        go_wp2_with fail
        refine (right_any w8 _ l d e s2').mono ?_
        rw [hR.out]
        rintro r w9 ⟨rfl, hb9⟩
        have hW9 := hW8.below hb9
        have hbel9 := hbel8.trans (hb9.mono hbel8.size)
        clear hb9 hW8 hbel8 s2'
        go_wp2_with fail
        refine (at_any w9 g t k hW9).mono ?_
        rintro r w10 ⟨rfl, rfl⟩
        have hkk : ((k : Int) == (k : Int)) = true := by rw [beq_iff_eq]
        go_wp2_with fail
        go_ret
        exact ⟨rfl, hbel9⟩
      | some mn =>
        obtain ⟨m, n⟩ := mn
        obtain ⟨v8, rfl, o8, hM8, hml, hW8, hG⟩ := part2_some hP hpo
        have hbel8 := Below.at hbel hG hbel.size hgB
        have s8 := s7.wd hW hG
        rw [HDR.out, ← HW.out] at hpo
        obtain ⟨hok, hrl, hrm, rfl, rr, hcut⟩ := parts_some d e l m n b hpo
        rw [HW.out, ← HDR.out, ← HX.out] at hcut
        obtain ⟨hP1, hP2, hP3⟩ := cut_at x (wrL m) rr d t hcut (by rw [HX.out]; omega)
        rw [HX.out] at hP1 hP2 hP3
        have sm8 := o8.sm hM8 (by omega)
        obtain ⟨-, a8, c8, he8, -⟩ := id sm8
        subst he8
        have HP2 := Lib.hid hP2
        have HP3 := Lib.hid hP3
        have HMM := Lib.hid hrl
        have HRM : Hid ((rightL d e m && okD d) = true) := by
          show (rightL d e m && okD d) = true
          rw [hrm, hok]; rfl
        have hzB := Lib.hid (wrL_isB m hM8)
        have hml2 : m.length ≤ 100663296 := by omega
        have HW' := Lib.hid (show wrL l = y from HW.out)
        clear hP hW s7 hbel hG hpo hcut hrm hok hP2 hP3 hrl o8 hM8 hml
        generalize hz : wrL m = z at hW8 hP1 HP2 HP3 hzB
        have HZ := Lib.hid hz
        clear hz
        have hW8 : Wd w8 g t (k + z.length + 1) := hW8
        go_upto_region 15 with fail
        go_cut [86] (fun v wx => v = .bool false ∧ Below w8.heap.size w8 wx)
        case first =>
          have s2' := s2.below hbel8
          cases hr : rightL d e l
          · have hR : Hid ((rightL d e l && okD d) = false) := by
              show (rightL d e l && okD d) = false
              rw [hr]; rfl
            clear hr
            go_wp2_with fail
            refine (right_any w8 _ l d e s2').mono ?_
            rw [hR.out]
            rintro r w9 ⟨rfl, hb9⟩
            go_wp2_with fail
            go_meet
            case rel => exact ⟨rfl, hb9⟩
          · have hR : Hid ((rightL d e l && okD d) = true) := by
              have h1 := HMM.out hr
              have h2 := HRM.out
              rw [h1] at h2
              exact h2
            obtain hml := HMM.out hr
            have hzy : z = y := by rw [← HZ.out, hml, HW'.out]
            have hne : (((k : Int) + (z.length : Int) + 1) != ((k : Int) + (y.length : Int) + 1)) = false := by rw [hzy, bne_eq_false_iff_eq]
            have hlm := Lib.hid (show m.length = l.length by rw [hml])
            have HD := Lib.hid (show decide (m = l) = true from decide_eq_true hml)
            have hyl : y.length ≤ 100663296 := by rw [← hzy]; omega
            clear hr hml hzy
            go_wp2_with fail
            refine (right_any w8 _ l d e s2').mono ?_
            rw [hR.out]
            rintro r w9 ⟨rfl, hb9⟩
            have sm9 := sm8.below hb9
            have s29 := s2'.below hb9
            have hW9 := hW8.below hb9
            go_wp2_with fail
            refine (eqMarks_any w9 _ _ m l sm9 s29).mono ?_
            rw [HD.out]
            rintro r w10 ⟨rfl, nq, rfl⟩
            have hW10 := hW9.drewN nq
            have hb10 := below_drewN hb9 nq
            clear hb9 sm9 s29 hW9
            go_wp2_with fail
            refine (at_any _ g t _ hW10).mono ?_
            rintro r w11 ⟨rfl, rfl⟩
            go_wp2_with fail
            go_meet
            case rel => exact ⟨rfl, hb10⟩
        case rest =>
          obtain ⟨rfl, hb9⟩ := hcut
          have sm9 := sm8.below hb9
          have s9 := s8.below hb9
          have hW9 := hW8.below hb9
          have hbel9 := hbel8.trans (hb9.mono hbel8.size)
          clear sm8 s8 hW8 hbel8 hb9
          go_wp2_with fail
          refine (written_any wc _ m sm9 (by omega)).mono ?_
          rintro r w10 ⟨v10, rfl, o10, hb10⟩
          rw [HZ.out] at o10
          obtain ⟨a10, c10, he10, -, -, s10⟩ := o10.sbn hzB.out (by omega)
          subst he10
          have sm10 := sm9.below hb10
          have st10 := s9.below hb10
          have hW10 := hW9.below hb10
          have hbel10 := hbel9.trans (hb10.mono hbel9.size)
          clear sm9 s9 hW9 hbel9 hb10 o10
          go_wp2_with fail
          refine (at_any _ g t _ hW10).mono ?_
          rintro r w11 ⟨rfl, rfl⟩
          obtain ⟨ad', hsl, hsd, -, -⟩ := st10.cut k (k + z.length) (by omega) (by omega) hc6
          have hzz : k + z.length - k = z.length := by omega
          rw [hzz] at hsl hsd
          rw [HP3.out] at hsd
          obtain ⟨bt, ot, rfl, hct⟩ := st10.read (k + z.length) hP1
          have hck := hct (k + z.length) hP1
          rw [HP2.out] at hck
          clear hct st10 hzz
          have hsl2 : ∀ W, (Instr.slice 35 (.slice (some ⟨bt, ot, none⟩) t.length c6) (some (.int .i64 (k : Int))) (some (.int .i64 ((k : Int) + (z.length : Int)))) none).run Try.prog W = .ok (.slice ad' z.length (c6 - k)) W := hsl
          clear hsl
          go_wp2_with fail
          refine (right_any w10 _ m d e sm10).mono ?_
          rw [HRM.out]
          rintro r w11 ⟨rfl, hb11⟩
          have s11 := s10.below hb11
          have sd11 := hsd.below hb11
          have hbel11 := hbel10.trans (hb11.mono hbel10.size)
          clear s10 hsd hbel10 hb11 sm10 hck hW10
          go_wp2_with fail
          refine (eqBytes_any w11 _ _ z z s11 sd11).mono ?_
          rw [decide_eq_true rfl]
          rintro r w12 ⟨rfl, nq, rfl⟩
          go_wp2_with fail
          go_ret
          exact ⟨rfl, below_drewN hbel11 nq⟩
end Go.Proofs.Ytadjonggmbndmaa
