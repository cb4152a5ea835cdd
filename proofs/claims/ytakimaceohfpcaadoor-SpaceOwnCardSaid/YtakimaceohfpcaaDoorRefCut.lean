/-
  galleyref25.Space: end, First, Cut.
-/
import Derived.Test.YtakimaceohfpcaaDoorRefJoin
namespace Go.Proofs.YtakimaceohfpcaaDoor
open Go.RowKit

theorem ret_intR {k : IntKind} {a b : Int} (h : a = b) : Ending.returned (.int k a) = .returned (.int k b) := by rw [h]
theorem cutL_no : ∀ {p : List Int}, (∀ j, j < p.length → p[j]?.getD 0 ≠ 10) → cutL p = none
  | [], _ => rfl
  | x :: t, h => by
    have h0 := h 0 (by simp)
    simp only [List.getElem?_cons_zero, Option.getD_some] at h0
    rw [cutL, if_neg h0, cutL_no (p := t) fun j hj => by have := h (j + 1) (by simp; omega); simpa using this]
    rfl
theorem cutL_at : ∀ {p : List Int} {i : Nat}, i < p.length → p[i]?.getD 0 = 10 → (∀ j, j < i → p[j]?.getD 0 ≠ 10) → cutL p = some (p.take i, p.drop (i + 1))
  | [], i, h, _, _ => by simp at h
  | x :: t, 0, _, hx, _ => by
    simp only [List.getElem?_cons_zero, Option.getD_some] at hx
    rw [cutL, if_pos hx]; rfl
  | x :: t, i + 1, h, hx, hn => by
    have h0 := hn 0 (by omega)
    simp only [List.getElem?_cons_zero, Option.getD_some] at h0
    rw [cutL, if_neg h0, cutL_at (p := t) (i := i) (by simpa using h) (by simpa using hx) fun j hj => by have := hn (j + 1) (by omega); simpa using this]
    rfl
set_option maxRecDepth 100000 in
set_option maxHeartbeats 1000000 in
theorem rend_any (w : World) (g base : Nat) (most : Int) (pv hv : Value) (p h : List Int) (s : Rp w g base most pv hv p h) : Calls Tryd.prog 122 #[.pointer (some ⟨g, 0, none⟩)] w fun e w' => e = .returned (.int .i64 (posL p)) ∧ w = w' := by
  have hl := s.len2P
  obtain ⟨-, c1, -⟩ := s.cells
  have HS := Lib.hid s.sbP
  obtain ⟨-, ap, cp, rfl, -⟩ := s.sbP
  clear s
  go_enter Tryd.func122, Tryd.ntmps122
  go_wp2_with fail
  go_loop [3] (fun x => ∃ i : Nat, i ≤ p.length ∧ x = .int .i64 i ∧ ∀ j, j < i → p[j]?.getD 0 ≠ 10) (fun x => p.length - (intOf x).toNat)
  case atStart => exact ⟨0, Nat.zero_le _, rfl, fun j hj => by omega⟩
  case round =>
    obtain ⟨i, hi, rfl, hn⟩ := hrel
    have HN := Lib.hid hn
    clear hn
    by_cases hlt : i < p.length
    · obtain ⟨b, o, rfl, hc⟩ := HS.out.read i hlt
      have hb := hc i hlt
      clear hc
      obtain ⟨x, hx⟩ : ∃ x, p[i]?.getD 0 = x := ⟨_, rfl⟩
      rw [hx] at hb
      have HX := Lib.hid hx
      clear hx
      by_cases he : x = 10
      · have hp : posL p = i := by
          unfold posL
          rw [cutL_at hlt (HX.out.trans he) HN.out]
          simp; omega
        have HP := Lib.hid hp
        subst he
        clear hp
        go_wp2_with fail
        go_ret
        exact ⟨ret_intR HP.out.symm, rfl⟩
      · have heb : (x == 10) = false := by simpa using he
        have HN1 : Hid (∀ j, j < i + 1 → p[j]?.getD 0 ≠ 10) := Lib.hid fun j hj => by
          by_cases e : j = i
          · subst e; rw [HX.out]; exact he
          · exact HN.out j (by omega)
        clear he
        go_wp2_with fail
        go_round
        case rel => exact ⟨i + 1, by omega, by go_num, HN1.out⟩
        case measure => simp [intOf]; omega
    · have hp : posL p = -1 := by
        unfold posL
        rw [cutL_no fun j hj => HN.out j (by omega)]
      have HP := Lib.hid hp
      clear hp
      go_wp2_with fail
      go_ret
      exact ⟨ret_intR HP.out.symm, rfl⟩
theorem posL_cases (p : List Int) : (cutL p = none ∧ posL p = -1 ∧ firstL p = p ∧ restL p = p ∧ foundL p = false) ∨ ∃ i : Nat, i < p.length ∧ posL p = i ∧ firstL p = (p.drop 0).take (i - 0) ∧ restL p = (p.drop (i + 1)).take (p.length - (i + 1)) ∧ foundL p = true := by
  cases hc : cutL p with
  | none => exact .inl ⟨rfl, by unfold posL; rw [hc], by unfold firstL; rw [hc], by unfold restL; rw [hc], by unfold foundL; rw [hc]; rfl⟩
  | some y =>
    obtain ⟨a, b⟩ := y
    have hs := cutL_some hc
    refine .inr ⟨a.length, by rw [hs]; simp, by unfold posL; rw [hc], ?_, ?_, by unfold foundL; rw [hc]; rfl⟩
    · unfold firstL
      rw [hc]
      show a = _
      rw [hs]; simp
    · unfold restL
      rw [hc]
      show b = _
      rw [hs]
      have e : (a ++ 10 :: b).drop (a.length + 1) = b := by
        rw [show a ++ 10 :: b = (a ++ [10]) ++ b by simp, List.drop_append_of_le_length (by simp)]
        simp
      rw [e, List.take_of_length_le (by simp; omega)]
set_option maxRecDepth 100000 in
set_option maxHeartbeats 1000000 in
theorem rfirst_any (w : World) (g base : Nat) (most : Int) (pv hv : Value) (p h : List Int) (s : Rp w g base most pv hv p h) : Calls Tryd.prog 72 #[.pointer (some ⟨g, 0, none⟩)] w (FirstPost w p) := by
  have hl := s.len2P
  have HE := Lib.hid (rend_any w g base most pv hv p h s)
  obtain ⟨-, c1, -⟩ := s.cells
  have HS := Lib.hid s
  obtain ⟨ap, cp, rfl, hcap, -⟩ := s.op.sbn s.bp s.len2P
  clear s
  rcases posL_cases p with ⟨-, e1, e2, -, e3⟩ | ⟨i, hi, e1, e2, -, e3⟩
  · have HC := Lib.hid (copy_any w _ p HS.out.sbP)
    rw [e1] at HE
    have HQ := Lib.hid (And.intro e2 e3)
    clear e1 e2 e3
    go_enter Tryd.func72, Tryd.ntmps72
    go_wp2_with fail
    refine (rnone_no w g base most _ hv p h HS.out).mono ?_
    rintro e w' ⟨rfl, rfl⟩
    go_wp2_with fail
    refine HE.out.mono ?_
    rintro e w' ⟨rfl, rfl⟩
    go_wp2_with fail
    refine HC.out.mono ?_
    rintro e w1 ⟨v, rfl, ho, hb⟩
    have H : FirstPost w p (.returned (.tuple #[v, .bool false])) w1 := ⟨v, by rw [HQ.out.2], by rw [HQ.out.1]; exact ho, hb⟩
    obtain ⟨a, m, rfl⟩ := ho.shape
    have HH := Lib.hid H
    clear H ho hb
    go_wp2_with fail
    go_ret2
    exact HH.out
  · obtain ⟨ad, h1, h2, -, -⟩ := HS.out.sbP.cut 0 i (Nat.zero_le _) (Nat.le_of_lt hi) hcap
    rw [← e2] at h2
    simp only [Nat.sub_zero] at h1 h2
    have HC := Lib.hid (copy_any w _ _ h2)
    rw [e1] at HE
    have HQ := Lib.hid (And.intro e2 e3)
    clear e1 e2 e3 h2
    have hsl : ∀ W, (Instr.slice 48 (.slice ap p.length cp) none (some (.int .i64 i)) none).run Tryd.prog W = .ok (.slice ad i cp) W := by
      intro W
      rw [← h1 W]
      kernel_rfl
    clear h1
    go_enter Tryd.func72, Tryd.ntmps72
    go_wp2_with fail
    refine (rnone_no w g base most _ hv p h HS.out).mono ?_
    rintro e w' ⟨rfl, rfl⟩
    go_wp2_with fail
    refine HE.out.mono ?_
    rintro e w' ⟨rfl, rfl⟩
    go_wp2_with fail
    refine HC.out.mono ?_
    rintro e w1 ⟨v, rfl, ho, hb⟩
    have H : FirstPost w p (.returned (.tuple #[v, .bool true])) w1 := ⟨v, by rw [HQ.out.2], ho, hb⟩
    obtain ⟨a, m, rfl⟩ := ho.shape
    have HH := Lib.hid H
    clear H ho hb
    go_wp2_with fail
    go_ret2
    exact HH.out
theorem Rp.step {w : World} {g base : Nat} {most : Int} {pv hv : Value} {p h : List Int} (s : Rp w g base most pv hv p h) : SpStep w w g base pv hv pv hv := SpStep.ofBelow (Below.refl _ _) s.base_le
set_option maxRecDepth 100000 in
set_option maxHeartbeats 1000000 in
theorem rcut_any (w : World) (g base : Nat) (most : Int) (pv hv : Value) (p h : List Int) (s : Rp w g base most pv hv p h) : Calls Tryd.prog 117 #[.pointer (some ⟨g, 0, none⟩)] w (RpPost w g base most pv hv (restL p) h (.bool (foundL p))) := by
  have hl := s.len2P
  have HE := Lib.hid (rend_any w g base most pv hv p h s)
  obtain ⟨-, c1, -, -, f1, -⟩ := s.cells
  have HS := Lib.hid s
  obtain ⟨ap, cp, rfl, hcap, -⟩ := s.op.sbn s.bp s.len2P
  clear s
  rcases posL_cases p with ⟨-, e1, -, e2, e3⟩ | ⟨i, hi, e1, -, e2, e3⟩
  · rw [e1] at HE
    have H : RpPost w g base most (.slice ap p.length cp) hv (restL p) h (.bool (foundL p)) (.returned (.bool false)) w := ⟨_, _, by rw [e3], by rw [e2]; exact HS.out, HS.out.step⟩
    have HH := Lib.hid H
    clear e1 e2 e3 H
    go_enter Tryd.func117, Tryd.ntmps117
    go_wp2_with fail
    refine (rnone_no w g base most _ hv p h HS.out).mono ?_
    rintro e w' ⟨rfl, rfl⟩
    go_wp2_with fail
    refine HE.out.mono ?_
    rintro e w' ⟨rfl, rfl⟩
    go_wp2_with fail
    go_ret
    exact HH.out
  · obtain ⟨ad, -, h2, h3, h4⟩ := HS.out.sbP.cut (i + 1) p.length hi (Nat.le_refl _) hcap
    have hsl : ∀ W, (Instr.slice 48 (.slice ap p.length cp) (some (.int .i64 ((i : Int) + 1))) none none).run Tryd.prog W = .ok (.slice ad (p.length - (i + 1)) (cp - (i + 1))) W := by
      intro W
      rw [← h4, ← h3 W, Int.natCast_succ]
    rw [← e2] at h2
    have HC := Lib.hid (copy_any w _ _ h2)
    have hrl : ((restL p).length : Int) ≤ most := by
      have := HS.out.lp
      rw [e2, List.length_take, List.length_drop]; omega
    have HB := Lib.hid h2.1
    have hq : (restL p).length ≤ 140737488351232 := by have := HS.out.lm; omega
    rw [e1] at HE
    have HQ := Lib.hid e3
    obtain ⟨m, hm⟩ : ∃ m, p.length - (i + 1) = m := ⟨_, rfl⟩
    rw [hm] at hsl HC
    clear e1 e2 e3 h2 h3 h4 hm
    go_enter Tryd.func117, Tryd.ntmps117
    go_wp2_with fail
    refine (rnone_no w g base most _ hv p h HS.out).mono ?_
    rintro e w' ⟨rfl, rfl⟩
    go_wp2_with fail
    refine HE.out.mono ?_
    rintro e w' ⟨rfl, rfl⟩
    go_wp2_with fail
    refine HC.out.mono ?_
    rintro e w1 ⟨v, rfl, ho, hb⟩
    have hS := HS.out.setP hb ho HB.out hrl
    obtain ⟨-, k1, -, -, kf, -⟩ := (HS.out.below hb).cells
    obtain ⟨a, c, rfl⟩ := ho.shape
    have HH := Lib.hid (show RpPost w g base most (.slice ap p.length cp) hv (restL p) h (.bool (foundL p)) (.returned (.bool true)) (w1.setCell ⟨g, 1, none⟩ (.slice a (restL p).length c)) from ⟨_, _, by rw [HQ.out], hS.1, hS.2⟩)
    clear hS ho hb c1 f1 hsl
    go_wp2_with fail
    go_ret
    exact HH.out
end Go.Proofs.YtakimaceohfpcaaDoor
