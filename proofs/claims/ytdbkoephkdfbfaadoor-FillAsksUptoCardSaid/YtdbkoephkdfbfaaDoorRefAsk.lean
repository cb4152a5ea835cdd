/-
  fill.Most; galleyref16: Most, Shaped, Print.
-/
import Derived.Test.YtdbkoephkdfbfaaDoorShaped
import Derived.Test.YtdbkoephkdfbfaaDoorOwnM
import Derived.Test.YtdbkoephkdfbfaaDoorPut
namespace Go.Proofs.YtdbkoephkdfbfaaDoor
open Go.RowKit
attribute [local go_sem] as_ww as_dw as_fw as_bw as_dd as_fd as_bd as_ff as_bf

/-- The greatest group. -/
def mostL (p : List Pc) : Int := p.foldl (fun n x => max n x.1) 0
theorem most_snoc (p : List Pc) (k : Nat) (h : k < p.length) : mostL (p.take (k + 1)) = max (mostL (p.take k)) (p[k]?.getD (0, [])).1 := by
  unfold mostL
  rw [take_snocG p (0, []) k h, List.foldl_append]
  rfl
theorem most_isI (p : List Pc) (h : ∀ i : Nat, IsI (p[i]?.getD (0, [])).1) : ∀ k, k ≤ p.length → 0 ≤ mostL (p.take k) ∧ mostL (p.take k) ≤ 9223372036854775807
  | 0, _ => by simp [mostL]
  | k + 1, hk => by
    rw [most_snoc p k (by omega)]
    have := most_isI p h k (by omega)
    have := h k
    unfold IsI at this
    omega

set_option maxHeartbeats 1000000 in
set_option maxRecDepth 100000 in
theorem fmost_any (w : World) (ap : Option Addr) (np cp : Nat) (p : List Pc) (sp : PS w (.slice ap np cp) p) :
    Calls Tryd.prog 38 #[.slice ap np cp] w fun e w' => e = .returned (.int .i64 (mostL p)) ∧ Below w.heap.size w w' := by
  obtain ⟨hpl, hpn, _, _⟩ := sp.len
  have HPL := Lib.hid hpl
  have HM := Lib.hid (most_isI p sp.1)
  clear hpl
  go_enter Tryd.func38, Tryd.ntmps38
  go_wp2
  go_loopw [3, 8] (fun v i wr => ∃ k : Nat, k ≤ np ∧ i = .int .i64 k ∧ v = .int .i64 (mostL (p.take k)) ∧ Below w.heap.size w wr) (fun _ i _ => np - (intOf i).toNat)
  case atStart => exact ⟨0, Nat.zero_le _, rfl, rfl, Below.refl _ _⟩
  case round =>
    obtain ⟨k, hk, rfl, rfl, rb⟩ := hrel
    have hbs := rb.size
    by_cases hlt : k < np
    · have hkp : k < p.length := by rw [HPL.out]; exact hlt
      have sp1 := sp.below rb
      obtain ⟨b, o, rfl, hc⟩ := sp1.read k hlt
      obtain ⟨hc1, ad2, n2, c2, hc2, -⟩ := hc k hlt
      have hi := sp1.1 k
      have hss := most_snoc p k hkp
      have hm := HM.out k (by omega)
      clear hc sp1
      generalize p[k]?.getD (0, []) = z at hc1 hc2 hi hss
      obtain ⟨g, tx⟩ := z
      simp only at hc1 hc2 hi hss
      unfold IsI at hi
      generalize mostL (p.take k) = A at hss hm ⊢
      have HSS := Lib.hid hss
      have HI := Lib.hid hi
      clear hss hi
      have hb2 := rb.alloc hbs (.cells #[.int .i64 g, .slice ad2 n2 c2] 122)
      by_cases hle : g ≤ A
      · have HE := Lib.hid (show mostL (p.take (k + 1)) = A by rw [HSS.out]; omega)
        clear HSS
        go_wp2_with fail
        all_goals
          go_roundw
          case rel => exact ⟨k + 1, by omega, by go_num, by rw [HE.out] <;> (congr 1; omega), hb2⟩
          case measure => simp [intOf]; omega
      · have HE := Lib.hid (show mostL (p.take (k + 1)) = g by rw [HSS.out]; omega)
        have hlt2 : A < g := by omega
        clear HSS hle
        go_wp2_with fail
        all_goals
          go_roundw
          case rel => exact ⟨k + 1, by omega, by go_num, by rw [HE.out] <;> (congr 1; omega), hb2⟩
          case measure => simp [intOf]; omega
    · have e : p.take k = p := List.take_of_length_le (by rw [HPL.out]; omega)
      rw [e]
      clear e
      go_wp2_with fail
      go_ret
      exact ⟨rfl, rb⟩

set_option maxHeartbeats 1000000 in
set_option maxRecDepth 100000 in
theorem rmost_any (w : World) (ap : Option Addr) (np cp : Nat) (p : List Pc) (sp : PS w (.slice ap np cp) p) :
    Calls Tryd.prog 43 #[.slice ap np cp] w fun e w' => e = .returned (.int .i64 (mostL p)) ∧ ∃ n, w' = w.drewN n := by
  obtain ⟨hpl, hpn, _, _⟩ := sp.len
  have HPL := Lib.hid hpl
  have HM := Lib.hid (most_isI p sp.1)
  clear hpl
  go_enter Tryd.func43, Tryd.ntmps43
  go_wp2
  go_loopw [3, 4] (fun v i wr => ∃ k q : Nat, k ≤ np ∧ i = .int .i64 k ∧ v = .int .i64 (mostL (p.take k)) ∧ wr = w.drewN q) (fun _ i _ => np - (intOf i).toNat)
  case atStart => exact ⟨0, 0, Nat.zero_le _, rfl, rfl, rfl⟩
  case round =>
    obtain ⟨k, q, hk, rfl, rfl, rfl⟩ := hrel
    by_cases hlt : k < np
    · have hkp : k < p.length := by rw [HPL.out]; exact hlt
      obtain ⟨b, o, rfl, hc⟩ := sp.read k hlt
      obtain ⟨hc1, -⟩ := hc k hlt
      have hi := sp.1 k
      have hss := most_snoc p k hkp
      have hm := HM.out k (by omega)
      clear hc
      generalize p[k]?.getD (0, []) = z at hc1 hi hss
      obtain ⟨g, tx⟩ := z
      simp only at hc1 hi hss
      unfold IsI at hi
      generalize mostL (p.take k) = A at hss hm ⊢
      have HSS := Lib.hid hss
      have HI := Lib.hid hi
      clear hss hi
      by_cases hle : A < g
      · have HE := Lib.hid (show mostL (p.take (k + 1)) = g by rw [HSS.out]; omega)
        clear HSS
        go_wp2_with fail
        go_roundw
        case rel => exact ⟨k + 1, q, by omega, by go_num, by rw [HE.out], rfl⟩
        case measure => simp [intOf]; omega
      · have HE := Lib.hid (show mostL (p.take (k + 1)) = A by rw [HSS.out]; omega)
        have hle2 : g ≤ A := by omega
        clear HSS hle
        go_wp2_with fail
        go_roundw
        case rel => exact ⟨k + 1, q, by omega, by go_num, by rw [HE.out], rfl⟩
        case measure => simp [intOf]; omega
    · have e : p.take k = p := List.take_of_length_le (by rw [HPL.out]; omega)
      rw [e]
      clear e
      go_wp2_with fail
      go_ret
      exact ⟨rfl, q, rfl⟩

/-- Was the last piece a text? -/
theorem stR_last (p : List Pc) : ∀ k, k ≤ p.length → ∀ t, stR false (p.take k) = some t → t = decide (0 < k ∧ (p[k - 1]?.getD (0, [])).1 = -1)
  | 0, _, t, h => by
    simp [stR] at h
    simp [h]
  | k + 1, hk, t, h => by
    cases ht : stR false (p.take k) with
    | none =>
      rw [take_snocG p (0, []) k (by omega), stR_append, ht] at h
      cases h
    | some t' =>
      rw [stR_snoc p k (by omega) t' ht] at h
      rw [Nat.add_sub_cancel]
      unfold stepS at h
      by_cases hg : (p[k]?.getD (0, [])).1 = -1
      · rw [if_pos hg] at h
        split at h
        · cases h
        · simp only [Option.some.injEq] at h
          rw [← h]; simp [hg]
      · rw [if_neg hg] at h
        split at h
        · simp only [Option.some.injEq] at h
          rw [← h]; simp [hg]
        · cases h
theorem bx_cell {w : World} {bx : Nat} {x y : Value} {T : TypeId} (h : w.heap[bx]? = some (.cells #[x, y] T (0, 0))) : w.cell? ⟨bx, 0, none⟩ = some x ∧ w.cell? ⟨bx, 1, none⟩ = some y :=
  ⟨by rw [cell_of_row w bx 0 _ _ (0, 0) h]; rfl, by rw [cell_of_row w bx 1 _ _ (0, 0) h]; rfl⟩

set_option maxHeartbeats 2000000 in
set_option maxRecDepth 100000 in
theorem rshaped_any (w : World) (ap : Option Addr) (np cp : Nat) (p : List Pc) (sp : PS w (.slice ap np cp) p) :
    Calls Tryd.prog 44 #[.slice ap np cp] w fun e w' => e = .returned (.bool (shapedL p)) ∧ Below w.heap.size w w' := by
  obtain ⟨hpl, hpn, _, _⟩ := sp.len
  have HPL := Lib.hid hpl
  clear hpl
  go_enter Tryd.func44, Tryd.ntmps44
  go_wp2
  go_loopw [3] (fun i wr => ∃ (k : Nat) (t : Bool), k ≤ np ∧ i = .int .i64 k ∧ stR false (p.take k) = some t ∧ Below w.heap.size w wr) (fun i _ => np - (intOf i).toNat)
  case atStart => exact ⟨0, false, Nat.zero_le _, rfl, rfl, Below.refl _ _⟩
  case round =>
    obtain ⟨k, t, hk, rfl, ht, rb⟩ := hrel
    have hbs := rb.size
    have HT := Lib.hid ht
    clear ht
    by_cases hlt : k < np
    · have hkp : k < p.length := by rw [HPL.out]; exact hlt
      have sp1 := sp.below rb
      obtain ⟨b, o, rfl, hc⟩ := sp1.read k hlt
      obtain ⟨hc1, ad2, n2, c2, hc2, s2, -, -⟩ := hc k hlt
      have hi := sp1.1 k
      have HLAST := Lib.hid (stR_last p k (by omega) t HT.out)
      have hst := stR_snoc p k hkp t HT.out
      have HCC := Lib.hid hc
      clear hc sp1
      generalize p[k]?.getD (0, []) = z at hc1 hc2 s2 hi hst
      obtain ⟨g, tx⟩ := z
      simp only at hc1 hc2 s2 hi hst
      have htx := s2.len.1
      have HTX := Lib.hid htx
      have HST := Lib.hid hst
      have HI := Lib.hid hi
      clear hst htx hi s2
      have hb2 := rb.alloc hbs (.cells #[.int .i64 g, .slice ad2 n2 c2] 122)
      have hno : stepS t (g, tx) = none → shapedL p = false := fun h => shaped_no p (k + 1) (HST.out.trans h)
      have HNO := Lib.hid hno
      have HE : Hid (tx = [] ↔ n2 = 0) := Lib.hid ⟨fun e => by rw [← HTX.out, e]; rfl, fun e => List.eq_nil_of_length_eq_zero (HTX.out.trans e)⟩
      clear hno
      by_cases h1 : g < -1
      · have HN := Lib.hid (HNO.out (step_bad t g tx (by omega) (by omega)))
        go_wp2_with fail
        go_ret
        exact ⟨ret_b HN.out.symm, hb2⟩
      · have h1' : decide (g < -1) = false := by simpa using h1
        by_cases h2 : 9 < g
        · have HN := Lib.hid (HNO.out (step_bad t g tx (by omega) (by omega)))
          have h2' : decide (9 < g) = true := by simpa using h2
          go_wp2_with fail
          go_ret
          exact ⟨ret_b HN.out.symm, hb2⟩
        · have h2' : decide (9 < g) = false := by simpa using h2
          by_cases h3 : g = -1
          · subst h3
            by_cases h4 : n2 = 0
            · subst h4
              have HN := Lib.hid (HNO.out (step_text_no t tx (.inl (HE.out.2 rfl))))
              go_wp2_with fail
              go_ret
              exact ⟨ret_b HN.out.symm, hb2⟩
            · have h4' : decide (0 < n2) = true := by simp; omega
              by_cases h5 : 0 < k
              · have h5' : decide (0 < k) = true := by simp; omega
                obtain ⟨j, rfl⟩ : ∃ j, k = j + 1 := ⟨k - 1, by omega⟩
                have hcj := (HCC.out j (by omega)).1
                have hcj := (((Below.refl wr.heap.size wr).alloc (Nat.le_refl _) (.cells #[.int .i64 (-1), .slice ad2 n2 c2] 122)).cell (World.block_lt_of_cell? _ _ hcj)).trans hcj
                have hl := HLAST.out
                rw [Nat.add_sub_cancel] at hl
                generalize (p[j]?.getD (0, [])).1 = gj at hcj hl
                have HL := Lib.hid hl
                clear hl
                by_cases h6 : gj = -1
                · subst h6
                  have HN := Lib.hid (HNO.out (step_text_no t tx (.inr (by rw [HL.out]; simp))))
                  clear h1 h2 h4
                  go_wp2_with fail
                  go_ret
                  exact ⟨ret_b HN.out.symm, hb2⟩
                · have h6' : (gj == -1) = false := beq_eq_false_iff_ne.2 h6
                  have HS := Lib.hid (HST.out.trans (step_text t tx (fun h => h.elim (fun e => h4 (HE.out.1 e)) (fun e => by rw [HL.out] at e; simp [h6] at e))))
                  clear h1 h2 h4 h6
                  go_wp2_with fail
                  go_roundw
                  case rel => exact ⟨j + 1 + 1, true, by omega, by go_num, HS.out, hb2⟩
                  case measure => simp [intOf]; omega
              · have h5' : decide (0 < k) = false := by simp; omega
                have HS := Lib.hid (HST.out.trans (step_text t tx (fun h => h.elim (fun e => h4 (HE.out.1 e)) (fun e => by rw [HLAST.out] at e; simp [h5] at e))))
                clear h1 h2 h4 h5
                go_wp2_with fail
                go_roundw
                case rel => exact ⟨k + 1, true, by omega, by go_num, HS.out, hb2⟩
                case measure => simp [intOf]; omega
          · have h3' : (g == -1) = false := beq_eq_false_iff_ne.2 h3
            by_cases h4 : n2 = 0
            · subst h4
              have htx := HE.out.2 rfl
              subst htx
              have HS := Lib.hid (HST.out.trans (step_grp t g (by omega) (by omega)))
              by_cases h5 : 0 < k
              · have h5' : decide (0 < k) = true := by simp; omega
                clear h1 h2 h3
                go_wp2_with fail
                go_roundw
                case rel => exact ⟨k + 1, false, by omega, by go_num, HS.out, hb2⟩
                case measure => simp [intOf]; omega
              · have h5' : decide (0 < k) = false := by simp; omega
                clear h1 h2 h3 h5
                go_wp2_with fail
                go_roundw
                case rel => exact ⟨k + 1, false, by omega, by go_num, HS.out, hb2⟩
                case measure => simp [intOf]; omega
            · have h4' : decide (0 < n2) = true := by simp; omega
              have HN := Lib.hid (HNO.out (step_bad t g tx h3 (fun h => h4 (HE.out.1 h.2.2))))
              clear h1 h2 h3 h4
              go_wp2_with fail
              go_ret
              exact ⟨ret_b HN.out.symm, hb2⟩
    · have e : p.take k = p := List.take_of_length_le (by rw [HPL.out]; omega)
      have HN := Lib.hid (shaped_yes p t (by rw [← HT.out, e]))
      clear e
      go_wp2_with fail
      go_ret
      exact ⟨ret_b HN.out.symm, rb⟩
end Go.Proofs.YtdbkoephkdfbfaaDoor
