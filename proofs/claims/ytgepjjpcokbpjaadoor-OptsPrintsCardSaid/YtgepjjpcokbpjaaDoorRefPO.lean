/-
  galleyref28.Print: it answers what opts.Print answers.
-/
import Derived.Test.YtgepjjpcokbpjaaDoorPrintO
import Derived.Deep.DeepCutAuto
import Derived.Deep.CutBlock
namespace Go.Proofs.YtgepjjpcokbpjaaDoor
open Go.RowKit

set_option maxHeartbeats 4000000 in
set_option maxRecDepth 100000 in
theorem refPrintO_any (w : World) (o : Opt) (ap : Option Addr) (np cp : Nat) (sp : PT w (.slice ap np cp) o.parts) (af : Option Addr) (nf cf : Nat) (sf : TS w (.slice af nf cf) o.files) (hnp : np ≤ 4294967296) (hnf : nf ≤ 4294967296) :
    Calls Tryd.prog 19 #[optV o (.slice ap np cp) (.slice af nf cf)] w (PrintOPost w (printR o)) := by
  obtain ⟨q, e, a, i, parts, files⟩ := o
  obtain ⟨hpl, -, -, -⟩ := sp.len
  obtain ⟨hfl, -, -, -⟩ := sf.len
  simp only at sp sf hpl hfl
  have HPL := Lib.hid hpl
  have HFL := Lib.hid hfl
  clear hpl hfl
  unfold optV
  go_enter Tryd.func19, Tryd.ntmps19
  have hb0 := (Below.refl w.heap.size w).alloc (Nat.le_refl _) (.cells #[.bool q, .bool e, .bool a, .bool i, .slice ap np cp, .slice af nf cf] 28)
  have hP0 : PO w (w.alloc (.cells #[.bool q, .bool e, .bool a, .bool i, .slice ap np cp, .slice af nf cf] 28)) w.heap.size #[.bool q, .bool e, .bool a, .bool i, .slice ap np cp, .slice af nf cf] (.slice none 0 0) [] := ⟨OwnT.nil _ _, heap_alloc_new w _, hb0⟩
  go_upto_region 1 with fail
  generalize (Value.agg #[.bool q, .bool e, .bool a, .bool i, .slice ap np cp, .slice af nf cf]) = ag0
  obtain ⟨bx, hbx⟩ : ∃ bx, w.heap.size = bx := ⟨_, rfl⟩
  rw [hbx] at hP0 ⊢
  have HSP := Lib.hid sp
  have HSF := Lib.hid sf
  generalize w.alloc (.cells #[.bool q, .bool e, .bool a, .bool i, .slice ap np cp, .slice af nf cf] 28) = w1 at hP0 ⊢
  have HP0 := Lib.hid hP0
  clear hbx hb0 hP0 sp sf
  have c0 := HP0.out.cell 0
  have c1 := HP0.out.cell 1
  have c2 := HP0.out.cell 2
  have c3 := HP0.out.cell 3
  have c4 := HP0.out.cell 4
  have c5 := HP0.out.cell 5
  by_cases hai : i = true ∧ a = false
  · obtain ⟨rfl, rfl⟩ := hai
    have HR : Hid (printR ⟨q, e, false, true, parts, files⟩ = []) := Lib.hid (by unfold printR printable; simp)
    go_wp2_with fail
    go_ret
    rw [HR.out]
    exact ⟨none, 0, rfl, OwnT.nil _ _, HP0.out.bel⟩
  by_cases hn : np = 0
  · subst hn
    have hp : parts = [] := List.eq_nil_of_length_eq_zero HPL.out
    have HR : Hid (printR ⟨q, e, a, i, parts, files⟩ = []) := Lib.hid (by subst hp; unfold printR printable; simp)
    clear hp
    cases a <;> cases i
    all_goals first
      | exact absurd ⟨rfl, rfl⟩ hai
      | (go_wp2_with fail
         go_ret
         rw [HR.out]
         exact ⟨none, 0, rfl, OwnT.nil _ _, HP0.out.bel⟩)
  have hnq : ((np : Int) == 0) = false := by rw [beq_eq_false_iff_ne]; omega
  have hp : parts ≠ [] := fun e => hn (by rw [← HPL.out, e]; rfl)
  have HR : Hid (printR ⟨q, e, a, i, parts, files⟩ = (flagW q [45, 110] ++ flagW e [45, 69] ++ flagW (a && !i) [45, 115] ++ flagW i [45, 105]) ++ parts.flatMap partW ++ [str [45, 45]] ++ files) := Lib.hid (by
    unfold printR printable
    have : parts.isEmpty = false := by simpa using hp
    rw [if_pos (by cases a <;> cases i <;> simp_all)]
    rfl)
  have HAI := Lib.hid hai
  obtain ⟨A1, hA1⟩ : ∃ L, flagW q [45, 110] = L := ⟨_, rfl⟩
  obtain ⟨A2, hA2⟩ : ∃ L, A1 ++ flagW e [45, 69] = L := ⟨_, rfl⟩
  obtain ⟨A3, hA3⟩ : ∃ L, A2 ++ flagW (a && !i) [45, 115] = L := ⟨_, rfl⟩
  obtain ⟨A4, hA4⟩ : ∃ L, A3 ++ flagW i [45, 105] = L := ⟨_, rfl⟩
  rw [hA1, hA2, hA3, hA4] at HR
  have hfl1 : ∀ (b : Bool) l, (flagW b l).length ≤ 1 := fun b l => by cases b <;> simp [flagW]
  have HAL : Hid (A1.length ≤ 1 ∧ A2.length ≤ 2 ∧ A3.length ≤ 3 ∧ A4.length ≤ 4) := Lib.hid (by
    have q1 := hfl1 q [45, 110]
    have q2 := hfl1 e [45, 69]
    have q3 := hfl1 (a && !i) [45, 115]
    have q4 := hfl1 i [45, 105]
    have e2 := congrArg List.length hA2
    have e3 := congrArg List.length hA3
    have e4 := congrArg List.length hA4
    rw [List.length_append] at e2 e3 e4
    rw [hA1] at q1
    omega)
  have HA1 : Hid ((q = true → A1 = [] ++ [str [45, 110]]) ∧ (q = false → A1 = [])) := Lib.hid ⟨fun h => by rw [← hA1, h]; rfl, fun h => by rw [← hA1, h]; rfl⟩
  have HA2 : Hid ((e = true → A2 = A1 ++ [str [45, 69]]) ∧ (e = false → A2 = A1)) := Lib.hid ⟨fun h => by rw [← hA2, h]; rfl, fun h => by rw [← hA2, h]; exact List.append_nil _⟩
  have HA3 : Hid (((a && !i) = true → A3 = A2 ++ [str [45, 115]]) ∧ ((a && !i) = false → A3 = A2)) := Lib.hid ⟨fun h => by rw [← hA3, h]; rfl, fun h => by rw [← hA3, h]; exact List.append_nil _⟩
  have HA4 : Hid ((i = true → A4 = A3 ++ [str [45, 105]]) ∧ (i = false → A4 = A3)) := Lib.hid ⟨fun h => by rw [← hA4, h]; rfl, fun h => by rw [← hA4, h]; exact List.append_nil _⟩
  clear hA1 hA2 hA3 hA4 hfl1
  go_cut [19] (fun v wx => v = .bool false ∧ wx = w1)
  case first =>
    cases a <;> cases i
    all_goals first
      | exact absurd ⟨rfl, rfl⟩ hai
      | (go_wp2_with fail
         go_meet
         case rel => exact ⟨rfl, rfl⟩)
  case rest =>
    obtain ⟨rfl, rfl⟩ := hcut
    clear hai hp hnq hn
    go_upto_if 21 with fail
    go_cut [3] (fun v wx => PO w wx bx #[.bool q, .bool e, .bool a, .bool i, .slice ap np cp, .slice af nf cf] v A1)
    case first =>
      have hown := HP0.out.own
      have hbs := HP0.out.bel.size
      have hal : ([] : List Str).length ≤ 8 := by have := HAL.out; simp; try omega
      have HT := Lib.hid HA1.out
      generalize hvv : q = vv at HT ⊢
      cases vv with
      | true =>
        have HE := Lib.hid (HT.out.1 rfl)
        clear HT
        go_wp2_with (at_builtin; refine append_tn rfl (.tmp 22) (.tmp 23) rfl w.heap.size _ _ [str [45, 110]] _ 1 rfl rfl rfl hown _ rfl rfl (by omega) hbs ?_)
        intro v' w4 ho4 hp4
        replace ho4 : OwnT w4 w.heap.size v' A1 := by rw [HE.out]; exact ho4
        have HP9 := Lib.hid (HP0.out.app ho4 hp4)
        clear ho4 hp4 hown
        go_wp2_with fail
        go_meet
        case rel => exact HP9.out
      | false =>
        have HE := Lib.hid (HT.out.2 rfl)
        clear HT hown
        go_wp2_with fail
        go_meet
        case rel => rw [HE.out]; exact HP0.out
    case rest =>
      have HP1 := Lib.hid hcut
      clear hcut c0 c1 c2 c3 c4 c5
      have c0 := HP1.out.cell 0
      have c1 := HP1.out.cell 1
      have c2 := HP1.out.cell 2
      have c3 := HP1.out.cell 3
      have c4 := HP1.out.cell 4
      have c5 := HP1.out.cell 5
      go_upto_if 26 with fail
      go_cut [3] (fun v wx => PO w wx bx #[.bool q, .bool e, .bool a, .bool i, .slice ap np cp, .slice af nf cf] v A2)
      case first =>
        have hown := HP1.out.own
        have hbs := HP1.out.bel.size
        have hal : (A1 : List Str).length ≤ 8 := by have := HAL.out; simp; try omega
        have HT := Lib.hid HA2.out
        generalize hvv : e = vv at HT ⊢
        cases vv with
        | true =>
          have HE := Lib.hid (HT.out.1 rfl)
          clear HT
          go_wp2_with (at_builtin; refine append_tn rfl (.tmp 27) (.tmp 28) rfl w.heap.size _ _ [str [45, 69]] _ 1 rfl rfl rfl hown _ rfl rfl (by omega) hbs ?_)
          intro v' w4 ho4 hp4
          replace ho4 : OwnT w4 w.heap.size v' A2 := by rw [HE.out]; exact ho4
          have HP9 := Lib.hid (HP1.out.app ho4 hp4)
          clear ho4 hp4 hown
          go_wp2_with fail
          go_meet
          case rel => exact HP9.out
        | false =>
          have HE := Lib.hid (HT.out.2 rfl)
          clear HT hown
          go_wp2_with fail
          go_meet
          case rel => rw [HE.out]; exact HP1.out
      case rest =>
        have HP2 := Lib.hid hcut
        clear hcut c0 c1 c2 c3 c4 c5
        have c0 := HP2.out.cell 0
        have c1 := HP2.out.cell 1
        have c2 := HP2.out.cell 2
        have c3 := HP2.out.cell 3
        have c4 := HP2.out.cell 4
        have c5 := HP2.out.cell 5
        go_upto_region 8 with fail
        go_cut [36] (fun v wx => v = .bool (a && !i) ∧ wx = wc)
        case first =>
          cases a <;> cases i
          all_goals
            go_wp2_with fail
            go_meet
            case rel => exact ⟨rfl, rfl⟩
        case rest =>
          obtain ⟨rfl, rfl⟩ := hcut
          go_upto_if 36 with fail
          go_cut [3] (fun v wx => PO w wx bx #[.bool q, .bool e, .bool a, .bool i, .slice ap np cp, .slice af nf cf] v A3)
          case first =>
            have hown := HP2.out.own
            have hbs := HP2.out.bel.size
            have hal : (A2 : List Str).length ≤ 8 := by have := HAL.out; simp; try omega
            have HT := Lib.hid HA3.out
            generalize hvv : (a && !i) = vv at HT ⊢
            cases vv with
            | true =>
              have HE := Lib.hid (HT.out.1 rfl)
              clear HT
              go_wp2_with (at_builtin; refine append_tn rfl (.tmp 37) (.tmp 38) rfl w.heap.size _ _ [str [45, 115]] _ 1 rfl rfl rfl hown _ rfl rfl (by omega) hbs ?_)
              intro v' w4 ho4 hp4
              replace ho4 : OwnT w4 w.heap.size v' A3 := by rw [HE.out]; exact ho4
              have HP9 := Lib.hid (HP2.out.app ho4 hp4)
              clear ho4 hp4 hown
              go_wp2_with fail
              go_meet
              case rel => exact HP9.out
            | false =>
              have HE := Lib.hid (HT.out.2 rfl)
              clear HT hown
              go_wp2_with fail
              go_meet
              case rel => rw [HE.out]; exact HP2.out
          case rest =>
            have HP3 := Lib.hid hcut
            clear hcut c0 c1 c2 c3 c4 c5
            have c0 := HP3.out.cell 0
            have c1 := HP3.out.cell 1
            have c2 := HP3.out.cell 2
            have c3 := HP3.out.cell 3
            have c4 := HP3.out.cell 4
            have c5 := HP3.out.cell 5
            go_upto_if 41 with fail
            go_cut [3] (fun v wx => PO w wx bx #[.bool q, .bool e, .bool a, .bool i, .slice ap np cp, .slice af nf cf] v A4)
            case first =>
              have hown := HP3.out.own
              have hbs := HP3.out.bel.size
              have hal : (A3 : List Str).length ≤ 8 := by have := HAL.out; simp; try omega
              have HT := Lib.hid HA4.out
              generalize hvv : i = vv at HT ⊢
              cases vv with
              | true =>
                have HE := Lib.hid (HT.out.1 rfl)
                clear HT
                go_wp2_with (at_builtin; refine append_tn rfl (.tmp 42) (.tmp 43) rfl w.heap.size _ _ [str [45, 105]] _ 1 rfl rfl rfl hown _ rfl rfl (by omega) hbs ?_)
                intro v' w4 ho4 hp4
                replace ho4 : OwnT w4 w.heap.size v' A4 := by rw [HE.out]; exact ho4
                have HP9 := Lib.hid (HP3.out.app ho4 hp4)
                clear ho4 hp4 hown
                go_wp2_with fail
                go_meet
                case rel => exact HP9.out
              | false =>
                have HE := Lib.hid (HT.out.2 rfl)
                clear HT hown
                go_wp2_with fail
                go_meet
                case rel => rw [HE.out]; exact HP3.out
            case rest =>
              have HP4 := Lib.hid hcut
              clear hcut c0 c1 c2 c3 c4 c5
              have HP := HP4
              clear HA1 HA2 HA3 HA4 HP4
              have hal := HAL.out.2.2.2
              have c0 := HP.out.cell 0
              have c1 := HP.out.cell 1
              have c2 := HP.out.cell 2
              have c3 := HP.out.cell 3
              have c4 := HP.out.cell 4
              have c5 := HP.out.cell 5
              go_wp2_with fail
              rename World => w8
              go_loopw [3, 4] (fun v3 v4 wr => ∃ k : Nat, k ≤ np ∧ v4 = .int .i64 k ∧ PO w wr bx #[.bool q, .bool e, .bool a, .bool i, .slice ap np cp, .slice af nf cf] v3 (A4 ++ (parts.take k).flatMap partW)) (fun _ v4 _ => np - (intOf v4).toNat)
              case atStart => exact ⟨0, Nat.zero_le _, rfl, by simpa using HP.out⟩
              case round =>
                clear HP c0 c1 c2 c3 c4 c5
                obtain ⟨k, hk, rfl, hP⟩ := hrel
                have HP := Lib.hid hP
                clear hP
                have c0 := HP.out.cell 0
                have c1 := HP.out.cell 1
                have c2 := HP.out.cell 2
                have c3 := HP.out.cell 3
                have c4 := HP.out.cell 4
                have c5 := HP.out.cell 5
                by_cases hlt : k < np
                · have hd : decide ((k : Int) < (np : Int)) = true := decide_eq_true (by omega)
                  obtain ⟨b, ob, rfl, hr⟩ := (HSP.out.below (Below.mono HP.out.bel (Nat.le_refl _))).read k hlt
                  obtain ⟨g0, g1⟩ := hr k hlt
                  have HST : Hid (A4 ++ (parts.take (k + 1)).flatMap partW = (A4 ++ (parts.take k).flatMap partW) ++ partW (parts[k]?.getD (false, ByteArray.empty))) := Lib.hid (by
                    rw [take_snocS (false, ByteArray.empty) parts k (by rw [HPL.out]; exact hlt), List.flatMap_append, List.append_assoc]
                    simp)
                  have hlen : (A4 ++ (parts.take k).flatMap partW).length ≤ 4 + 2 * k := by
                    rw [List.length_append, partW_len, List.length_take]
                    omega
                  generalize parts[k]?.getD (false, ByteArray.empty) = x at g0 g1 HST
                  obtain ⟨xf, xt⟩ := x
                  simp only at g0 g1
                  have HHR := Lib.hid hr
                  have hown := HP.out.own
                  have hbs := HP.out.bel.size
                  clear hr
                  generalize A4 ++ (parts.take k).flatMap partW = L1 at HP HST hown hlen
                  generalize hL2 : A4 ++ (parts.take (k + 1)).flatMap partW = L2 at HST
                  have HL2 := Lib.hid hL2
                  clear hL2
                  cases xf with
                  | true =>
                    go_wp2_with (at_builtin; refine append_tn rfl (.tmp 58) (.tmp 66) rfl w.heap.size _ _ [str [45, 102], xt] _ 2 rfl rfl rfl hown _ rfl rfl (by omega) hbs ?_)
                    intro v' w4 ho4 hp4
                    replace ho4 : OwnT w4 w.heap.size v' L2 := by rw [HST.out]; exact ho4
                    have HP9 := Lib.hid (HP.out.app ho4 hp4)
                    clear ho4 hp4 hown
                    go_wp2_with fail
                    go_roundw
                    case rel => exact ⟨k + 1, by omega, by go_num, by rw [HL2.out]; exact HP9.out⟩
                    case measure => simp [intOf]; omega
                  | false =>
                    go_wp2_with (at_builtin; refine append_tn rfl (.tmp 58) (.tmp 66) rfl w.heap.size _ _ [str [45, 101], xt] _ 2 rfl rfl rfl hown _ rfl rfl (by omega) hbs ?_)
                    intro v' w4 ho4 hp4
                    replace ho4 : OwnT w4 w.heap.size v' L2 := by rw [HST.out]; exact ho4
                    have HP9 := Lib.hid (HP.out.app ho4 hp4)
                    clear ho4 hp4 hown
                    go_wp2_with fail
                    go_roundw
                    case rel => exact ⟨k + 1, by omega, by go_num, by rw [HL2.out]; exact HP9.out⟩
                    case measure => simp [intOf]; omega
                · obtain rfl : k = np := by omega
                  have hd : decide ((k : Int) < (k : Int)) = false := by simp
                  have hta : parts.take k = parts := List.take_of_length_le (by rw [HPL.out]; omega)
                  rw [hta] at HP
                  have hlen : (A4 ++ parts.flatMap partW).length ≤ 4 + 2 * k := by
                    rw [List.length_append, partW_len, HPL.out]
                    omega
                  have hown := HP.out.own
                  have hbs := HP.out.bel.size
                  have HR2 : Hid (printR ⟨q, e, a, i, parts, files⟩ = (A4 ++ parts.flatMap partW ++ [str [45, 45]]) ++ files) := HR
                  clear hta HR
                  generalize A4 ++ parts.flatMap partW = L1 at HP hown hlen HR2
                  go_wp2_with (at_builtin; refine append_tn rfl (.tmp 68) (.tmp 69) rfl w.heap.size _ _ [str [45, 45]] _ 1 rfl rfl rfl hown _ rfl rfl (by omega) hbs ?_)
                  intro v' w4 ho4 hp4
                  have HP9 := Lib.hid (HP.out.app ho4 hp4)
                  have hlen2 : (L1 ++ [str [45, 45]]).length ≤ 5 + 2 * k := by rw [List.length_append, List.length_singleton]; omega
                  clear ho4 hp4 hown HP c0 c1 c2 c3 c4 c5
                  generalize L1 ++ [str [45, 45]] = L3 at HP9 HR2 hlen2
                  have c0 := HP9.out.cell 0
                  have c1 := HP9.out.cell 1
                  have c2 := HP9.out.cell 2
                  have c3 := HP9.out.cell 3
                  have c4 := HP9.out.cell 4
                  have c5 := HP9.out.cell 5
                  go_wp2_with fail
                  rename World => w7
                  go_loopw [3, 6] (fun v3 v6 wr => ∃ j : Nat, j ≤ nf ∧ v6 = .int .i64 j ∧ PO w wr bx #[.bool q, .bool e, .bool a, .bool i, .slice ap k cp, .slice af nf cf] v3 (L3 ++ files.take j)) (fun _ v6 _ => nf - (intOf v6).toNat)
                  case atStart => exact ⟨0, Nat.zero_le _, rfl, by simpa using HP9.out⟩
                  case round =>
                    clear HP9 c0 c1 c2 c3 c4 c5
                    obtain ⟨j, hj, rfl, hP⟩ := hrel
                    have HP := Lib.hid hP
                    clear hP
                    have c0 := HP.out.cell 0
                    have c1 := HP.out.cell 1
                    have c2 := HP.out.cell 2
                    have c3 := HP.out.cell 3
                    have c4 := HP.out.cell 4
                    have c5 := HP.out.cell 5
                    by_cases hlt : j < nf
                    · have hd : decide ((j : Int) < (nf : Int)) = true := decide_eq_true (by omega)
                      obtain ⟨b, ob, rfl, hr⟩ := (HSF.out.below (Below.mono HP.out.bel (Nat.le_refl _))).read j hlt
                      have g0 := hr j hlt
                      have HST : Hid (L3 ++ files.take (j + 1) = (L3 ++ files.take j) ++ [files[j]?.getD ByteArray.empty]) := Lib.hid (by
                        rw [take_snocS ByteArray.empty files j (by rw [HFL.out]; exact hlt), List.append_assoc])
                      have hlen : (L3 ++ files.take j).length ≤ 5 + 2 * k + j := by
                        rw [List.length_append, List.length_take]
                        omega
                      generalize files[j]?.getD ByteArray.empty = x at g0 HST
                      have hown := HP.out.own
                      have hbs := HP.out.bel.size
                      clear hr
                      generalize L3 ++ files.take j = L4 at HP HST hown hlen
                      generalize hL5 : L3 ++ files.take (j + 1) = L5 at HST
                      have HL5 := Lib.hid hL5
                      clear hL5
                      go_wp2_with (at_builtin; refine append_tn rfl (.tmp 78) (.tmp 84) rfl w.heap.size _ _ [x] _ 1 rfl rfl rfl hown _ rfl rfl (by omega) hbs ?_)
                      intro v' w4 ho4 hp4
                      replace ho4 : OwnT w4 w.heap.size v' L5 := by rw [HST.out]; exact ho4
                      have HP9 := Lib.hid (HP.out.app ho4 hp4)
                      clear ho4 hp4 hown
                      go_wp2_with fail
                      go_roundw
                      case rel => exact ⟨j + 1, by omega, by go_num, by rw [HL5.out]; exact HP9.out⟩
                      case measure => simp [intOf]; omega
                    · obtain rfl : j = nf := by omega
                      have hd : decide ((j : Int) < (j : Int)) = false := by simp
                      have hta : files.take j = files := List.take_of_length_le (by rw [HFL.out]; omega)
                      rw [hta] at HP
                      obtain ⟨av, cv, hv⟩ := own_shape HP.out.own
                      subst hv
                      have HE := Lib.hid HR2.out.symm
                      go_wp2_with fail
                      go_ret
                      rw [HR2.out]
                      exact ⟨av, cv, rfl, HP.out.own, HP.out.bel⟩
end Go.Proofs.YtgepjjpcokbpjaaDoor
