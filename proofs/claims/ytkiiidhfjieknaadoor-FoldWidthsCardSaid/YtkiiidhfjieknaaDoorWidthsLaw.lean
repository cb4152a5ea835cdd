/-
  galleylaw18.FoldWidths: its walk.
-/
import Derived.Test.YtkiiidhfjieknaaDoorLives
import Derived.Deep.DeepCutAuto
namespace Go.Proofs.YtkiiidhfjieknaaDoor
open Go.RowKit

theorem scan_step (m : Nat) (S : List Int) (i row : Nat) (hi : i < S.length) (c d : Int) (hc : S[i]?.getD 0 = c) (hd : (S ++ [36, 10])[i + 1]?.getD 0 = d) (R : List Int) (h : scanL m (S.drop i) row = some R) :
    (c = 92 ∧ d = 10 ∧ i + 1 < S.length ∧ scanL m (S.drop (i + 1 + 1)) 0 = some R) ∨
    (¬ (c = 92 ∧ d = 10) ∧ row + 1 ≤ m ∧ 32 ≤ c ∧ c ≤ 126 ∧ ∃ R', R = c :: R' ∧ scanL m (S.drop (i + 1)) (row + 1) = some R') := by
  have e : S.drop i = c :: S.drop (i + 1) := by
    rw [List.drop_eq_getElem_cons hi, ← hc]
    simp [hi]
  rw [e] at h
  by_cases hl : i + 1 < S.length
  · have e2 : S.drop (i + 1) = d :: S.drop (i + 1 + 1) := by
      rw [List.drop_eq_getElem_cons hl, ← hd, List.getElem?_append_left hl]
      simp [hl]
    rw [e2, scanL] at h
    by_cases hq : c = 92 ∧ d = 10
    · rw [if_pos hq] at h
      exact .inl ⟨hq.1, hq.2, hl, h⟩
    · rw [if_neg hq] at h
      split at h
      · cases h
      · rename_i hok
        cases hk : scanL m (d :: S.drop (i + 1 + 1)) (row + 1) with
        | none => rw [hk] at h; cases h
        | some R' =>
          rw [hk] at h
          simp only [Option.map_some, Option.some.injEq] at h
          exact .inr ⟨hq, by omega, by omega, by omega, R', h.symm, by rw [e2]; exact hk⟩
  · have e2 : S.drop (i + 1) = [] := List.drop_eq_nil_of_le (by omega)
    have hd36 : d = 36 := by
      rw [← hd, List.getElem?_append_right (by omega), show i + 1 - S.length = 0 by omega]; rfl
    rw [e2, scanL] at h
    split at h
    · cases h
    · rename_i hok
      simp only [Option.some.injEq] at h
      exact .inr ⟨by omega, by omega, by omega, by omega, [], h.symm, by rw [e2, scanL]⟩
theorem wideBig : wideN 1099511627776 = 1099511627776 := by decide
/-- What the rows of l say, in one row. -/
theorem row_big (l : List Int) (hl : l.length ≤ 357913940) : rowL 1099511627776 l = l.flatMap pieceL ++ [36, 10] := by
  have := flat_len l
  unfold rowL
  rw [rows_one _ l (by omega)]
  simp [render]

theorem own_at {W : World} {base g n cap : Nat} {L : List Int} (h : OwnB W base (.slice (some ⟨g, 0, none⟩) n cap) L) (hn : L.length = n) (i : Nat) (hi : i < n) : W.cell? ⟨g, i, none⟩ = some (.int .u8 (L[i]?.getD 0)) := by
  subst hn
  have := World.ownsRow.cellAt h i (by rw [Nat.mul_one]; exact hi)
  rw [this, List.getElem?_map, List.getElem?_eq_getElem hi]
  rfl
/-- What the rounds keep: two lists of bytes, and what has been joined. -/
structure WI (w W : World) (vj v1 v2 : Value) (J L O : List Int) : Prop where
  oj : OwnB W w.heap.size vj J
  o1 : OwnB W w.heap.size v1 L
  o2 : OwnB W w.heap.size v2 O
  p1 : Apart vj v1
  p2 : Apart vj v2
  bel : Below w.heap.size w W
theorem WI.step {w W W' : World} {vj vj' v1 v2 : Value} {J J' L O : List Int} (h : WI w W vj v1 v2 J L O) (hA : AppPost W W' w.heap.size vj vj') (ho : OwnB W' w.heap.size vj' J') : WI w W' vj' v1 v2 J' L O := by
  obtain ⟨a1, b1⟩ := hA.other _ _ _ _ _ _ h.o1 h.p1
  obtain ⟨a2, b2⟩ := hA.other _ _ _ _ _ _ h.o2 h.p2
  exact ⟨ho, a1, a2, b1, b2, hA.bel _ _ h.bel (Nat.le_refl _)⟩

set_option maxHeartbeats 4000000 in
set_option maxRecDepth 100000 in
theorem widths_walk (w : World) (a : Option Addr) (n c : Nat) (l : List Int) (h : SB w (.slice a n c) l) (width : Int) (hw0 : -9223372036854775808 ≤ width) (hw1 : width ≤ 9223372036854775807) (hE : EnvW w) :
    Calls Tryd.prog 6 #[.slice a n c, .int .i64 width] w fun e w' => e = .returned (.bool true) ∧ Below w.heap.size w w' := by
  have hn47 := h.len.2
  have HS := Lib.hid h
  have HE := Lib.hid hE
  have HLN := Lib.hid h.len.1
  clear h hE
  by_cases hbig : 357913940 < n
  · have hb1 : (357913940 : Int) < (n : Int) := by omega
    go_enter Tryd.func6, Tryd.ntmps6
    go_wp2_with fail
    go_ret
    exact ⟨rfl, Below.refl _ _⟩
  · have hb1 : ¬ ((357913940 : Int) < (n : Int)) := by omega
    have HLI := Lib.hid (lives_any w HE.out)
    have hll : l.length ≤ 357913940 := by rw [HLN.out]; omega
    have HIB := Lib.hid (inB_of HS.out.1)
    go_enter Tryd.func6, Tryd.ntmps6
    go_wp2_with fail
    refine HLI.out.mono ?_
    rintro e w2 ⟨rfl, hb2⟩
    clear HLI
    have HRO := Lib.hid (row_any w2 _ l (HS.out.below hb2) (by omega) width hw0 hw1 (HE.out.below hb2).letw)
    go_wp2_with fail
    refine HRO.out.mono ?_
    rintro e w3 ⟨v3, rfl, ho3, hb3⟩
    clear HRO
    have hbw3 := hb2.trans (hb3.mono hb2.size)
    have hro := row_any w3 _ l (HS.out.below hbw3) (by omega) 1099511627776 (by omega) (by omega) (HE.out.below hbw3).letw
    rw [wideBig, row_big l hll] at hro
    have HRO := Lib.hid hro
    have ho3 := OwnB.mono ho3 hb2.size
    clear hro hb2 hb3
    go_wp2_with fail
    refine HRO.out.mono ?_
    rintro e w4 ⟨v4, rfl, ho4, hb4⟩
    clear HRO
    have ho3 := ho3.below hb4
    have ho4 := OwnB.mono ho4 hbw3.size
    have hbw4 := hbw3.trans (hb4.mono hbw3.size)
    clear hbw3 hb4
    have h4 := wideN_ge width
    have ok := rows_ok (wideN width) h4 l HIB.out
    have hsc := scan_render (wideN width) _ ok.fair1 ok.fair2 ok.len1 ok.len2
    rw [ok.all] at hsc
    have hrl := render_len (wideN width) l
    have hfl := flat_len l
    have hRB := rowL_isB (wideN width) l HIB.out
    have hR : rowL (wideN width) l = render (rowsR (wideN width) l) ++ [36, 10] := rfl
    have hTB : IsB (l.flatMap pieceL ++ [36, 10]) := by rw [← row_big l hll]; exact rowL_isB _ l HIB.out
    rw [hR] at ho3 hRB
    generalize render (rowsR (wideN width) l) = S at ho3 hsc hrl hRB
    generalize l.flatMap pieceL = T at ho4 hsc hfl hTB
    have hwm : ∀ x : Int, width = x → True := fun _ _ => trivial
    obtain ⟨N, hN⟩ : ∃ N, S.length = N := ⟨_, rfl⟩
    have hSL : (S ++ [36, 10]).length = N + 2 := by rw [List.length_append, hN]; rfl
    obtain ⟨a3, c3, e3, -⟩ := ho3.toSBC hRB (by omega)
    obtain ⟨a4, c4, e4, -⟩ := ho4.toSBC hTB (by rw [List.length_append]; simp; omega)
    obtain ⟨g3, hg3⟩ : ∃ g, a3 = some ⟨g, 0, none⟩ := by
      rcases ho3.2 with ⟨_, h0⟩ | ⟨g, cap, cur, h1, _⟩
      · rw [hSL] at h0; omega
      · rw [e3] at h1; simp only [Value.slice.injEq] at h1; exact ⟨g, h1.1⟩
    subst hg3
    subst e3 e4
    rw [hSL] at ho3 ⊢
    have x1 : w4.cell? ⟨g3, N + 1, none⟩ = some (.int .u8 10) := by
      rw [own_at ho3 hSL (N + 1) (by omega), List.getElem?_append_right (by omega), show N + 1 - S.length = 1 by omega]; rfl
    have x2 : w4.cell? ⟨g3, N, none⟩ = some (.int .u8 36) := by
      rw [own_at ho3 hSL N (by omega), List.getElem?_append_right (by omega), show N - S.length = 0 by omega]; rfl
    have hW : WI w w4 (.slice none 0 0) (.slice (some ⟨g3, 0, none⟩) (N + 2) c3) (.slice a4 (T ++ [36, 10]).length c4) [] (S ++ [36, 10]) (T ++ [36, 10]) :=
      ⟨OwnB.nil _ _, ho3, ho4, fun k h => by simp [Value.ownBlock] at h, fun k h => by simp [Value.ownBlock] at h, hbw4⟩
    have hN47 : N ≤ 2147483640 := by omega
    have hwv : (if width < 4 then (4 : Int) else width) = ((wideN width : Nat) : Int) := by unfold wideN; split <;> split <;> omega
    have hMb : wideN width ≤ 9223372036854775807 := by unfold wideN; split <;> omega
    have HSC := Lib.hid hsc
    have HSL := Lib.hid hSL
    have HN := Lib.hid hN
    have HTB := Lib.hid hTB
    have d1 : IntKind.i64.wrap ((N : Int) + 2 - 1) = (N : Int) + 1 := by rw [show (N : Int) + 2 - 1 = (N : Int) + 1 by omega]; exact IntWalk.i64_in _ (by omega)
    obtain ⟨tn, htn⟩ : ∃ tn, (T ++ [36, 10]).length = tn := ⟨_, rfl⟩
    rw [htn] at hW ⊢
    have HTN := Lib.hid htn
    have hTl : tn ≤ 1431655762 := by rw [← htn, List.length_append]; simp; omega
    generalize wideN width = M at h4 HSC hwv ok hMb
    clear hsc hSL hN hTB ho3 ho4 hbw4 hrl hfl hRB hR hwm htn d1 ok
    go_upto_if 48 with fail
    go_cut [9] (fun v9 wx => v9 = .int .i64 (M : Nat) ∧ wx = w4)
    case first =>
      by_cases hw : width < 4
      · have HX : Hid ((M : Int) = 4) := Lib.hid (by rw [← hwv, if_pos hw])
        clear hwv
        go_wp2_with fail
        go_meet
        case rel => exact ⟨by rw [HX.out], rfl⟩
      · have HX : Hid ((M : Int) = width) := Lib.hid (by rw [← hwv, if_neg hw])
        clear hwv
        go_wp2_with fail
        go_meet
        case rel => exact ⟨by rw [HX.out], rfl⟩
    case rest =>
    obtain ⟨rfl, rfl⟩ := hcut
    clear hwv x1 x2
    go_wp2_with fail
    go_loopw [10, 11, 12] (fun v10 v11 v12 wr => ∃ (i row : Nat) (J R : List Int), i ≤ N ∧ v12 = .int .i64 i ∧ v11 = .int .i64 row ∧ row ≤ i ∧ J.length ≤ i ∧ WI w wr v10 (.slice (some ⟨g3, 0, none⟩) (N + 2) c3) (.slice a4 tn c4) J (S ++ [36, 10]) (T ++ [36, 10]) ∧
      Hid (scanL M (S.drop i) row = some R ∧ J ++ R = T)) (fun _ _ v12 _ => N - (intOf v12).toNat)
    case atStart => exact ⟨0, 0, [], T, by omega, rfl, rfl, by omega, by simp, hW, Lib.hid ⟨by rw [List.drop_zero]; exact HSC.out, rfl⟩⟩
    case round =>
      clear hW
      obtain ⟨i, row, J, R, hi, rfl, rfl, hri, hJi, hW, HG⟩ := hrel
      have hbs := hW.bel.size
      by_cases hlt : i < N
      · have hil : i < S.length := by rw [HN.out]; exact hlt
        have y1 := own_at hW.o1 HSL.out i (by omega)
        have y2 := own_at hW.o1 HSL.out (i + 1) (by omega)
        rw [List.getElem?_append_left hil] at y1
        have HST := Lib.hid (fun R h => scan_step M S i row hil _ _ rfl rfl R h)
        generalize hcc : S[i]?.getD 0 = cc at y1 HST
        have HCC := Lib.hid hcc
        clear hcc
        generalize (S ++ [36, 10])[i + 1]?.getD 0 = dd at y2 HST
        rcases HST.out R HG.out.1 with ⟨e1, e2, hi2, hs⟩ | ⟨hne, hrm, hc1, hc2, R', hR', hs⟩
        · subst e1 e2
          have HS2 := Lib.hid (show scanL M (S.drop (i + 1 + 1)) 0 = some R ∧ J ++ R = T from ⟨hs, HG.out.2⟩)
          have hi3 : i + 1 < N := by rw [HN.out] at hi2; exact hi2
          have HW := Lib.hid hW
          clear HST HG hs hi2 hil hW
          go_wp2_with fail
          go_roundw
          case rel => exact ⟨i + 1 + 1, 0, J, R, by omega, by go_num, rfl, by omega, by omega, HW.out, HS2⟩
          case measure => simp [intOf]; omega
        · have HNE := Lib.hid hne
          have HS2 := Lib.hid (show scanL M (S.drop (i + 1)) (row + 1) = some R' ∧ (J ++ [cc]) ++ R' = T from ⟨hs, by rw [← HG.out.2, hR']; simp⟩)
          have HW := Lib.hid hW
          clear HST HG hs hil hW hne hR'
          go_upto_region 17 with fail
          go_cut [67] from 49 to 95 (fun v67 wx => v67 = .bool false ∧ wx = wr)
          case first =>
            by_cases hq : cc = 92
            · have hd2 : (dd == 10) = false := by
                rw [beq_eq_false_iff_ne]; exact fun e => HNE.out ⟨hq, e⟩
              have hq2 : (cc == 92) = true := by simp [hq]
              clear hq
              go_wp2_with fail
              go_meet
              case rel => exact ⟨rfl, rfl⟩
            · have hq2 : (cc == 92) = false := by simp [hq]
              clear hq
              go_wp2_with fail
              go_meet
              case rel => exact ⟨rfl, rfl⟩
          case rest =>
            obtain ⟨rfl, rfl⟩ := hcut
            clear HNE y2
            have hoj := HW.out.oj
            go_wp2_with (at_builtin; refine append_b1 rfl (.tmp 70) (.tmp 75) rfl w.heap.size _ J cc rfl hoj rfl (by omega) hbs ?_)
            intro v' w5 ho' hA
            have hW5 := HW.out.step hA ho'
            have HW5 := Lib.hid hW5
            have y1' := own_at hW5.o1 HSL.out i (by omega)
            rw [List.getElem?_append_left (by rw [HN.out]; exact hlt)] at y1'
            have hlJ : (J ++ [cc]).length ≤ i + 1 := by rw [List.length_append]; simp; omega
            rw [HCC.out] at y1'
            have hM1 : ¬ ((M : Int) < (row : Int) + 1) := by omega
            have hM2 : (row : Int) + 1 ≤ (M : Int) := by omega
            have HL1 := Lib.hid hlJ
            clear hlJ hA ho' hoj y1 hW5
            generalize hz : J ++ [cc] = J2 at HS2 HW5 HL1
            clear hz
            go_wp2_with fail
            go_roundw
            case rel => exact ⟨i + 1, row + 1, J2, R', by omega, by go_num, by go_num, by omega, HL1.out, HW5.out, HS2⟩
            case measure => simp [intOf]; omega
      · obtain rfl : i = N := by omega
        have HJT : Hid (J = T) := Lib.hid (by
          obtain ⟨h1, h2⟩ := HG.out
          rw [List.drop_eq_nil_of_le (by rw [HN.out]; exact Nat.le_refl _)] at h1
          simp only [scanL, Option.some.injEq] at h1
          rw [← h1, List.append_nil] at h2
          exact h2)
        have hJT := HJT.out
        subst hJT
        have hoj := hW.oj
        have HW := Lib.hid hW
        clear hW HG
        go_wp2_with (at_builtin; refine append_bl rfl (.tmp 96) (.tmp 97) rfl w.heap.size _ J [36, 10] _ 2 rfl rfl rfl hoj rfl (by omega) hbs ?_)
        intro v' w5 ho' hA
        have hW5 := HW.out.step hA ho'
        clear hA hoj
        obtain ⟨aj, cj, rfl, hsj⟩ := hW5.oj.toSBC HTB.out (by rw [HTN.out]; omega)
        have ho2 := hW5.o2
        have hs2 : SB w5 (.slice a4 tn c4) (J ++ [36, 10]) := ho2.sb HTB.out (by rw [HTN.out]; omega)
        have heq := eqBytes_any w5 _ _ _ _ hsj.1 hs2
        rw [decide_eq_true rfl] at heq
        have HEQ := Lib.hid heq
        have hbw := hW5.bel
        generalize (J ++ [36, 10]).length = jn at HEQ ⊢
        clear heq hs2 hsj ho2 hW5 ho' HW
        go_wp2_with fail
        refine HEQ.out.mono ?_
        rintro e w6 ⟨rfl, q, rfl⟩
        have hfin := below_drewN hbw q
        clear HEQ
        go_wp2_with fail
        go_ret
        exact ⟨rfl, hfin⟩
end Go.Proofs.YtkiiidhfjieknaaDoor
