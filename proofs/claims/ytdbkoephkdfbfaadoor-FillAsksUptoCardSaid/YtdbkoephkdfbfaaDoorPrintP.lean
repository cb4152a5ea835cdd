/-
  fill.Print: pieces as marks.
-/
import Derived.Test.YtdbkoephkdfbfaaDoorShaped
import Derived.Test.YtdbkoephkdfbfaaDoorPut
namespace Go.Proofs.YtdbkoephkdfbfaaDoor
open Go.RowKit
attribute [local go_sem] as_ww as_dw as_fw as_bw as_dd as_fd as_bd as_ff as_bf

theorem shaped_at (p : List Pc) (h : shapedL p = true) (k : Nat) (hk : k < p.length) : (p[k]?.getD (0, [])).1 = -1 ∨ 0 ≤ (p[k]?.getD (0, [])).1 ∧ (p[k]?.getD (0, [])).1 ≤ 9 ∧ (p[k]?.getD (0, [])).2 = [] := by
  cases ht : stR false (p.take k) with
  | none => rw [shaped_no p k ht] at h; cases h
  | some t =>
    have h1 := stR_snoc p k hk t ht
    cases h2 : stepS t (p[k]?.getD (0, [])) with
    | none => rw [h2] at h1; rw [shaped_no p (k + 1) h1] at h; cases h
    | some t' =>
      unfold stepS at h2
      by_cases hg : (p[k]?.getD (0, [])).1 = -1
      · exact .inl hg
      · rw [if_neg hg] at h2
        by_cases hc : 0 ≤ (p[k]?.getD (0, [])).1 ∧ (p[k]?.getD (0, [])).1 ≤ 9 ∧ (p[k]?.getD (0, [])).2 = []
        · exact .inr hc
        · rw [if_neg hc] at h2; cases h2
theorem bytesP_at (p : List Pc) (k : Nat) (hk : k < p.length) : (p[k]?.getD (0, [])).2.length ≤ bytesP p := by
  have h1 := bytesP_append (p.take k) (p.drop k)
  rw [List.take_append_drop, drop_consG p (0, []) k hk] at h1
  have h2 := bytesP_append [p[k]?.getD (0, [])] (p.drop (k + 1))
  have h3 : bytesP [p[k]?.getD (0, [])] = (p[k]?.getD (0, [])).2.length := by unfold bytesP; simp
  simp only [List.cons_append, List.nil_append] at h2
  omega
theorem bytesP_take (p : List Pc) (k : Nat) : bytesP (p.take k) ≤ bytesP p := by
  have h1 := bytesP_append (p.take k) (p.drop k)
  rw [List.take_append_drop] at h1
  omega

set_option maxHeartbeats 1000000 in
theorem print_no (w : World) (ap : Option Addr) (np cp : Nat) (p : List Pc) (sp : PS w (.slice ap np cp) p) (h : shapedL p = false) :
    Calls Tryd.prog 40 #[.slice ap np cp] w fun e w' => e = .returned (.tuple #[.slice none 0 0, .int .i64 61]) ∧ Below w.heap.size w w' := by
  have hsh := shaped_any w ap np cp p sp
  rw [h] at hsh
  clear h
  go_enter Tryd.func40, Tryd.ntmps40
  go_wp2_with fail
  refine hsh.mono ?_
  rintro e w1 ⟨rfl, hb1⟩
  go_wp2_with fail
  go_ret2
  exact ⟨rfl, hb1⟩

def PrintPost (w : World) (l : List Mk) (e : Ending) (w' : World) : Prop := ∃ v, e = .returned (.tuple #[v, .int .i64 0]) ∧ OwnM w' w.heap.size v l ∧ Below w.heap.size w w'

set_option maxHeartbeats 4000000 in
theorem print_yes (w : World) (ap : Option Addr) (np cp : Nat) (p : List Pc) (sp : PS w (.slice ap np cp) p) (h : shapedL p = true) (hsum : p.length + bytesP p ≤ 4294967296) :
    Calls Tryd.prog 40 #[.slice ap np cp] w (PrintPost w (asMarks (printB p))) := by
  have hsh := shaped_any w ap np cp p sp
  rw [h] at hsh
  obtain ⟨hpl, hpn, _, _⟩ := sp.len
  have HPL := Lib.hid hpl
  have H := Lib.hid h
  clear hpl h
  go_enter Tryd.func40, Tryd.ntmps40
  go_wp2_with fail
  refine hsh.mono ?_
  rintro e w1 ⟨rfl, hb1⟩
  have hs1 := hb1.size
  have hb2 := hb1.alloc hs1 (.cells #[.slice none 0 0] 72)
  have hP0 : Hid (Pt (w1.alloc (.cells #[.slice none 0 0] 72)) (w1.heap.size + 1) w1.heap.size (.slice none 0 0) (asMarks (printB []))) := Lib.hid ⟨heap_alloc_new w1 _, OwnM.nil _ _, by omega, by rw [World.size_alloc]; omega⟩
  clear hsh
  go_wp2_with fail
  go_loopw [18] (fun i wr => ∃ (k : Nat) (vo : Value), k ≤ np ∧ i = .int .i64 k ∧ Pt wr (w1.heap.size + 1) w1.heap.size vo (asMarks (printB (p.take k))) ∧ Below w.heap.size w wr) (fun i _ => np - (intOf i).toNat)
  case atStart => exact ⟨0, _, Nat.zero_le _, rfl, hP0.out, hb2⟩
  case round =>
    obtain ⟨k, vo, hk, rfl, hP, rb⟩ := hrel
    have hbs := rb.size
    have hlen : (asMarks (printB (p.take k))).length ≤ 2 * 4294967296 := by
      rw [asMarks_len]
      have h1 := print_len (p.take k)
      have h2 := bytesP_take p k
      have h3 : (p.take k).length ≤ p.length := List.length_take_le' _ _
      omega
    by_cases hlt : k < np
    · have hkp : k < p.length := by rw [HPL.out]; exact hlt
      obtain ⟨b, o, rfl, hc⟩ := sp.read k hlt
      obtain ⟨hc1, ad2, n2, c2, hc2, s2, hn2, hN2⟩ := hc k hlt
      have hc1 := (rb.cell (World.block_lt_of_cell? _ _ hc1)).trans hc1
      have hc2 := (rb.cell (World.block_lt_of_cell? _ _ hc2)).trans hc2
      have hi := sp.1 k
      have hat := shaped_at p H.out k hkp
      have hby := bytesP_at p k hkp
      have hps := print_snoc p (0, []) k hkp
      clear hc
      generalize p[k]?.getD (0, []) = z at hc1 hc2 s2 hi hat hby hps
      obtain ⟨g, tx⟩ := z
      simp only at hc1 hc2 s2 hi hat hby
      generalize printB (p.take k) = pb at hP hlen hps
      have HPS := Lib.hid hps
      have htx := s2.len.1
      have htn := s2.len.2
      have hb3 := rb.alloc hbs (.cells #[.int .i64 g, .slice ad2 n2 c2] 122)
      have HK := Lib.hid (kind_any (wr.alloc (.cells #[.int .i64 g, .slice ad2 n2 c2] 122)) g hi ad2 n2 c2)
      have hP2 := hP.below ((Below.refl _ wr).alloc (Nat.le_refl _) (.cells #[.int .i64 g, .slice ad2 n2 c2] 122))
      have HTX := Lib.hid htx
      clear hps hi htx hP
      go_wp2_with fail
      refine HK.out.mono ?_
      rintro e w3 ⟨rfl, hb4⟩
      have rb4 := hb3.trans (hb4.mono hb3.size)
      have hP3 := hP2.below hb4
      clear HK hb4 hb3 hP2 hc1 hc2
      unfold kindV
      by_cases h1 : g = -1
      · subst h1
        rw [if_pos rfl]
        have HE : Hid (asMarks (printB (p.take (k + 1))) = asMarks pb ++ asMarks (tx.flatMap wrB)) := by rw [HPS.out, asMarks_append]; exact Lib.hid rfl
        have HX := Lib.hid s2.1
        have HT := Lib.hid s2
        have HP3 := Lib.hid hP3
        clear HPS hat s2 hP3
        obtain ⟨wo, rfl⟩ : ∃ wo : World, wo = wr := ⟨_, rfl⟩
        go_wp2_with fail
        go_loopw [29] (fun j wr => ∃ (q : Nat) (vo : Value), q ≤ n2 ∧ j = .int .i64 q ∧ Pt wr (w1.heap.size + 1) w1.heap.size vo (asMarks pb ++ asMarks ((tx.take q).flatMap wrB)) ∧ Below w.heap.size w wr) (fun j _ => n2 - (intOf j).toNat)
        case atStart => exact ⟨0, vo, Nat.zero_le _, rfl, by simp [asMarks] at HP3 ⊢; exact HP3.out, rb4⟩
        case round =>
          obtain ⟨q, vo2, hq, rfl, hP5, rb5⟩ := hrel
          have hlen5 : (asMarks pb ++ asMarks ((tx.take q).flatMap wrB)).length ≤ 4 * 4294967296 := by
            rw [List.length_append, asMarks_len ((tx.take q).flatMap wrB)]
            have h1 := wr_len (tx.take q)
            have h2 : (tx.take q).length ≤ tx.length := List.length_take_le' _ _
            omega
          by_cases hqn : q < n2
          · have s5 := HT.out.below rb5
            obtain ⟨bt, ot, rfl, hct⟩ := s5.read q hqn
            have hcq := hct q hqn
            have hx := HX.out q
            have hst := take_snoc tx q (by rw [HTX.out]; exact hqn)
            generalize tx[q]?.getD 0 = x at hcq hx hst
            have HST : Hid (asMarks pb ++ asMarks ((tx.take (q + 1)).flatMap wrB) = (asMarks pb ++ asMarks ((tx.take q).flatMap wrB)) ++ asMarks (wrB x)) := by
              rw [hst, List.flatMap_append, asMarks_append, ← List.append_assoc]
              simp only [List.flatMap_cons, List.flatMap_nil, List.append_nil]
              exact Lib.hid trivial
            clear hst hct s5
            generalize asMarks pb ++ asMarks ((tx.take q).flatMap wrB) = ex at hP5 hlen5 HST
            have HP5 := Lib.hid hP5
            have HW := Lib.hid (written_any wr x hx.1 hx.2)
            have hwl := wrB_len x
            clear hP5
            go_wp2_with fail
            refine HW.out.mono ?_
            rintro e w6 ⟨rfl, s6, hb6⟩
            have hP6 := HP5.out.below hb6
            obtain ⟨f1, f2⟩ := HP5.out.far (Nat.le_refl wr.heap.size)
            have rb6 := rb5.trans (hb6.mono rb5.size)
            have hlt6 : wr.heap.size < w6.heap.size := by
              have := s6.cells.2 0 (by omega)
              exact World.block_lt_of_cell? w6 _ this
            have HPut := Lib.hid (put_any w6 _ _ _ _ hP6 _ _ _ _ _ s6 f1 f2 hlt6 (by omega))
            clear hP6 s6 hb6 HW hcq
            go_wp2_with fail
            refine HPut.out.mono ?_
            rintro e w7 ⟨rfl, vo7, hP7, hK7, hs7⟩
            rw [← HST.out] at hP7
            have rb7 := hK7 _ _ rb6 (by omega) (by omega)
            have HP7 := Lib.hid hP7
            clear HPut hP7 hK7
            go_wp2_with fail
            go_roundw
            case rel => exact ⟨q + 1, vo7, by omega, by go_num, HP7.out, rb7⟩
            case measure => simp [intOf]; omega
          · have e : tx.take q = tx := List.take_of_length_le (by rw [HTX.out]; omega)
            rw [e, ← HE.out] at hP5
            have HP5 := Lib.hid hP5
            clear hP5 e hlen5
            go_wp2_with fail
            go_roundw
            case rel => exact ⟨k + 1, vo2, by omega, by go_num, HP5.out, rb5⟩
            case measure => simp [intOf]; omega
      · obtain ⟨h0, h9, htx0⟩ := hat.resolve_left h1
        rw [if_neg h1, if_neg (by omega), if_pos h9]
        have hP4 := hP3
        have HP3 := Lib.hid hP3
        clear hP3 hat
        by_cases hz : g = 0
        · subst hz
          have HE : Hid (asMarks (printB (p.take (k + 1))) = asMarks pb ++ asMarks [38]) := by rw [HPS.out, asMarks_append]; exact Lib.hid rfl
          have s6 := SB.lit w3 5 [38] (row [38]) (0, 0) 1 rfl (by decide) (by decide)
          have hb6 := (Below.refl w3.heap.size w3).alloc (Nat.le_refl _) (.cells (row [38]) 5)
          obtain ⟨f1, f2⟩ := hP4.far (Nat.le_refl _)
          have rb6 := rb4.trans (hb6.mono rb4.size)
          have HPut := Lib.hid (put_any _ _ _ _ _ (hP4.below hb6) _ _ 1 _ _ s6 f1 f2 (by rw [World.size_alloc]; omega) (by omega))
          clear s6 hb6 hP4 HPS h1
          go_wp2_with fail
          refine HPut.out.mono ?_
          rintro e w7 ⟨rfl, vo7, hP7, hK7, hs7⟩
          rw [← HE.out] at hP7
          have rb7 := hK7 _ _ rb6 (by omega) (by omega)
          have HP7 := Lib.hid hP7
          clear HPut hP7 hK7
          go_wp2_with fail
          go_roundw
          case rel => exact ⟨k + 1, vo7, by omega, by go_num, HP7.out, rb7⟩
          case measure => simp [intOf]; omega
        · have HE : Hid (asMarks (printB (p.take (k + 1))) = asMarks pb ++ asMarks [92, 48 + g]) := by
            rw [HPS.out, asMarks_append]
            unfold pieceB
            simp only [h1, hz, if_false]
            exact Lib.hid trivial
          have hqz : (g == 0) = false := beq_eq_false_iff_ne.2 hz
          have hw1 : IntKind.u8.wrap g = g := IntWalk.u8_in _ (by omega)
          have hw2 : IntKind.u8.wrap (48 + g) = 48 + g := IntWalk.u8_in _ (by omega)
          have s6 := SB.lit w3 5 [92, 48 + g] (row [92, 48 + g]) (0, 0) 2 rfl (all_two _ _ (by omega) (by omega) (by omega)) (by simp)
          have hb6 := (Below.refl w3.heap.size w3).alloc (Nat.le_refl _) (.cells (row [92, 48 + g]) 5)
          obtain ⟨f1, f2⟩ := hP4.far (Nat.le_refl _)
          have rb6 := rb4.trans (hb6.mono rb4.size)
          have HPut := Lib.hid (put_any _ _ _ _ _ (hP4.below hb6) _ _ 2 _ _ s6 f1 f2 (by rw [World.size_alloc]; omega) (by omega))
          clear s6 hb6 hP4 HPS h1 hz
          go_wp2_with fail
          refine HPut.out.mono ?_
          rintro e w7 ⟨rfl, vo7, hP7, hK7, hs7⟩
          rw [← HE.out] at hP7
          have rb7 := hK7 _ _ rb6 (by omega) (by omega)
          have HP7 := Lib.hid hP7
          clear HPut hP7 hK7
          go_wp2_with fail
          go_roundw
          case rel => exact ⟨k + 1, vo7, by omega, by go_num, HP7.out, rb7⟩
          case measure => simp [intOf]; omega
    · have e : p.take k = p := List.take_of_length_le (by rw [HPL.out]; omega)
      rw [e] at hP
      obtain ⟨g1, g2, g3, g4⟩ := hP
      obtain ⟨av, cv, rfl⟩ := own_shape g2
      have c1 := cell_of_one g1
      have HO : Hid (OwnM wr w.heap.size (.slice av (asMarks (printB p)).length cv) (asMarks (printB p))) := Lib.hid ⟨g2.1, g2.2.imp_right fun ⟨g, cap, cur, e, hg, r⟩ => ⟨g, cap, cur, e, by omega, r⟩⟩
      clear e hlen g1 g2
      go_wp2_with fail
      go_ret2
      exact ⟨_, rfl, HO.out, rb⟩
end Go.Proofs.YtdbkoephkdfbfaaDoor
