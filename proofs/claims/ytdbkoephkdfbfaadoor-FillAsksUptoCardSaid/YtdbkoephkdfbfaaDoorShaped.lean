/-
  fill.Shaped: are pieces well shaped?
-/
import Derived.Test.YtdbkoephkdfbfaaDoorKind
import Derived.Test.YtdbkoephkdfbfaaDoorFillM2
import Derived.Test.YtdbkoephkdfbfaaDoorApp
namespace Go.Proofs.YtdbkoephkdfbfaaDoor
open Go.RowKit
attribute [local go_sem] as_ww as_dw as_fw as_bw as_dd as_fd as_bd as_ff as_bf

theorem stR_one (t : Bool) (x : Pc) : stR t [x] = stepS t x := by
  rw [stR]
  cases stepS t x <;> simp [stR]
theorem stR_snoc (p : List Pc) (k : Nat) (h : k < p.length) (t : Bool) (ht : stR false (p.take k) = some t) : stR false (p.take (k + 1)) = stepS t (p[k]?.getD (0, [])) := by
  rw [take_snocG p (0, []) k h, stR_append, ht]
  exact stR_one _ _
theorem shaped_no (p : List Pc) (k : Nat) (h : stR false (p.take k) = none) : shapedL p = false := by
  unfold shapedL
  rw [← List.take_append_drop k p, stR_append, h]
  rfl
theorem shaped_yes (p : List Pc) (t : Bool) (h : stR false p = some t) : shapedL p = true := by
  unfold shapedL; rw [h]; rfl

theorem step_text (t : Bool) (tx : List Int) (h : ¬ (tx = [] ∨ t = true)) : stepS t (-1, tx) = some true := by unfold stepS; rw [if_pos rfl, if_neg h]
theorem step_text_no (t : Bool) (tx : List Int) (h : tx = [] ∨ t = true) : stepS t (-1, tx) = none := by unfold stepS; rw [if_pos rfl, if_pos h]
theorem step_grp (t : Bool) (g : Int) (h0 : 0 ≤ g) (h9 : g ≤ 9) : stepS t (g, []) = some false := by unfold stepS; rw [if_neg (by show ¬ g = -1; omega), if_pos ⟨h0, h9, rfl⟩]
theorem step_bad (t : Bool) (g : Int) (tx : List Int) (hg : ¬ g = -1) (h : ¬ (0 ≤ g ∧ g ≤ 9 ∧ tx = [])) : stepS t (g, tx) = none := by unfold stepS; rw [if_neg hg, if_neg h]
theorem ret_b {a b : Bool} (h : a = b) : Ending.returned (Value.bool a) = Ending.returned (Value.bool b) := by rw [h]

set_option maxHeartbeats 2000000 in
set_option maxRecDepth 100000 in
theorem shaped_any (w : World) (ap : Option Addr) (np cp : Nat) (p : List Pc) (sp : PS w (.slice ap np cp) p) :
    Calls Tryd.prog 39 #[.slice ap np cp] w fun e w' => e = .returned (.bool (shapedL p)) ∧ Below w.heap.size w w' := by
  obtain ⟨hpl, hpn, _, _⟩ := sp.len
  have HPL := Lib.hid hpl
  clear hpl
  go_enter Tryd.func39, Tryd.ntmps39
  go_wp2
  go_loopw [3, 11] (fun v i wr => ∃ (k : Nat) (t : Bool), k ≤ np ∧ i = .int .i64 k ∧ v = .bool t ∧ stR false (p.take k) = some t ∧ Below w.heap.size w wr) (fun _ i _ => np - (intOf i).toNat)
  case atStart => exact ⟨0, false, Nat.zero_le _, rfl, rfl, rfl, Below.refl _ _⟩
  case round =>
    obtain ⟨k, t, hk, rfl, rfl, ht, rb⟩ := hrel
    have hbs := rb.size
    have HT := Lib.hid ht
    clear ht
    by_cases hlt : k < np
    · have hkp : k < p.length := by rw [HPL.out]; exact hlt
      have sp1 := sp.below rb
      obtain ⟨b, o, rfl, hc⟩ := sp1.read k hlt
      obtain ⟨hc1, ad2, n2, c2, hc2, s2, hn2, hN2⟩ := hc k hlt
      have hi := sp1.1 k
      have hst := stR_snoc p k hkp t HT.out
      clear hc sp1
      generalize p[k]?.getD (0, []) = z at hc1 hc2 s2 hi hst
      obtain ⟨g, tx⟩ := z
      simp only at hc1 hc2 s2 hi
      have HST := Lib.hid hst
      have HI := Lib.hid hi
      have htx := s2.len.1
      have hb2 := rb.alloc hbs (.cells #[.int .i64 g, .slice ad2 n2 c2] 122)
      have hbx : (wr.alloc (.cells #[.int .i64 g, .slice ad2 n2 c2] 122)).cell? ⟨wr.heap.size, 1, none⟩ = some (.slice ad2 n2 c2) := by
        rw [cell_of_row _ _ _ _ _ (0, 0) (heap_alloc_new wr _)]; rfl
      have HK := Lib.hid (kind_any (wr.alloc (.cells #[.int .i64 g, .slice ad2 n2 c2] 122)) g hi ad2 n2 c2)
      have HTX := Lib.hid htx
      clear hst hi htx s2
      go_wp2_with fail
      refine HK.out.mono ?_
      rintro e w1 ⟨rfl, hb3⟩
      have rb3 := hb2.trans (hb3.mono hb2.size)
      have hbx := (hb3.cell (World.block_lt_of_cell? _ _ hbx)).trans hbx
      clear HK hb3 hb2 hc1 hc2
      unfold kindV
      by_cases h1 : g = -1
      · subst h1
        rw [if_pos rfl]
        by_cases h2 : n2 = 0
        · subst h2
          have HN := Lib.hid (shaped_no p (k + 1) (HST.out.trans (step_text_no t tx (.inl (List.eq_nil_of_length_eq_zero HTX.out)))))
          clear hbx
          go_wp2_with fail
          go_ret
          exact ⟨ret_b HN.out.symm, rb3⟩
        · have hq2 : ((n2 : Int) == 0) = false := by rw [beq_eq_false_iff_ne]; omega
          cases t with
          | true =>
            have HN := Lib.hid (shaped_no p (k + 1) (HST.out.trans (step_text_no true tx (.inr rfl))))
            clear hbx h2
            go_wp2_with fail
            go_ret
            exact ⟨ret_b HN.out.symm, rb3⟩
          | false =>
            have HN := Lib.hid (HST.out.trans (step_text false tx (fun h => h.elim (fun h => h2 (by have := HTX.out; rw [h] at this; exact this.symm)) (fun h => by cases h))))
            clear hbx h2
            go_wp2_with fail
            go_roundw
            case rel => exact ⟨k + 1, true, by omega, by go_num, rfl, HN.out, rb3⟩
            case measure => simp [intOf]; omega
      · rw [if_neg h1]
        by_cases h2 : g < -1
        · rw [if_pos h2]
          have HN := Lib.hid (shaped_no p (k + 1) (HST.out.trans (step_bad t g tx h1 (by omega))))
          clear hbx
          go_wp2_with fail
          go_ret
          exact ⟨ret_b HN.out.symm, rb3⟩
        · rw [if_neg h2]
          by_cases h3 : g ≤ 9
          · rw [if_pos h3]
            by_cases h4 : n2 = 0
            · subst h4
              have htx : tx = [] := List.eq_nil_of_length_eq_zero HTX.out
              subst htx
              have HN := Lib.hid (HST.out.trans (step_grp t g (by omega) h3))
              go_wp2_with fail
              go_roundw
              case rel => exact ⟨k + 1, false, by omega, by go_num, rfl, HN.out, rb3⟩
              case measure => simp [intOf]; omega
            · have h5 : 0 < n2 := by omega
              have HN := Lib.hid (shaped_no p (k + 1) (HST.out.trans (step_bad t g tx h1 (by rintro ⟨_, _, rfl⟩; exact h4 HTX.out.symm))))
              clear h4
              go_wp2_with fail
              go_ret
              exact ⟨ret_b HN.out.symm, rb3⟩
          · rw [if_neg h3]
            have HN := Lib.hid (shaped_no p (k + 1) (HST.out.trans (step_bad t g tx h1 (by omega))))
            clear hbx
            go_wp2_with fail
            go_ret
            exact ⟨ret_b HN.out.symm, rb3⟩
    · have e : p.take k = p := List.take_of_length_le (by rw [HPL.out]; omega)
      have HN := Lib.hid (shaped_yes p t (by rw [← HT.out, e]))
      clear e
      go_wp2_with fail
      go_ret
      exact ⟨ret_b HN.out.symm, rb⟩
end Go.Proofs.YtdbkoephkdfbfaaDoor
