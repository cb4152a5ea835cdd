/-
  OutsSticks: behind the first error everything answers it.
-/
import Derived.Test.YtbdgolbejoheiaaWorks14
import Derived.Test.YtbdgolbejoheiaaLongO
namespace Go.Proofs.Ytbdgolbejoheiaa
open Go.RowKit

/-- What a step may do: nothing is handed on, or one list is. -/
def SC (s s' : OSt) (add : Nat) : Prop := ((s'.said = s.said ∧ s'.err = s.err ∧ s'.cnt = s.cnt) ∨ (s.err = 0 ∧ ∃ p, s'.said = s.said ++ [p] ∧ s'.err = (if ((s.said.length : Nat) : Int) + 1 = s.fail then s.ferr else 0) ∧ s'.cnt = (if (if ((s.said.length : Nat) : Int) + 1 = s.fail then s.ferr else 0) = 0 then s.cnt + (p.length : Nat) else s.cnt))) ∧ s'.cnt + (s'.g.length : Nat) ≤ s.cnt + (s.g.length : Nat) + (add : Nat) ∧ s.cnt ≤ s'.cnt
theorem hand_sc {s s' : OSt} {g : List Int} {add : Nat} (he : s.err = 0) (hg : g.length ≤ s.g.length + add) (h : omOf s' = handM s.fail s.ferr (g, s.said, s.err, s.cnt)) : SC s s' add := by
  unfold handM at h
  by_cases h0 : g = []
  · rw [if_pos h0] at h
    obtain ⟨e1, e2, e3, e4⟩ := om_parts h
    refine ⟨.inl ⟨e2, e3, e4⟩, ?_, by omega⟩
    rw [e1]; omega
  · rw [if_neg h0] at h
    replace h : omOf s' = ([], s.said ++ [g], (if ((s.said.length : Nat) : Int) + 1 = s.fail then s.ferr else 0), if (if ((s.said.length : Nat) : Int) + 1 = s.fail then s.ferr else 0) = 0 then s.cnt + (g.length : Nat) else s.cnt) := h
    obtain ⟨e1, e2, e3, e4⟩ := om_parts h
    refine ⟨.inr ⟨he, g, e2, e3, e4⟩, ?_, ?_⟩
    · rw [e1, e4]
      split <;> simp <;> omega
    · rw [e4]
      split <;> omega
theorem flush_sc {s s' : OSt} (h : omOf s' = flushM s.fail s.ferr (omOf s)) : SC s s' 0 := by
  unfold flushM at h
  by_cases he : s.err = 0
  · rw [if_neg (show ¬ (omOf s).2.2.1 ≠ 0 from fun q => q he)] at h
    exact hand_sc he (Nat.le_refl _) h
  · rw [if_pos (show (omOf s).2.2.1 ≠ 0 from he)] at h
    obtain ⟨e1, e2, e3, e4⟩ := om_parts h
    refine ⟨.inl ⟨e2, e3, e4⟩, ?_, by omega⟩
    rw [e1]; omega
theorem write_sc {s s' : OSt} {R : List (List Int)} (h : omOf s' = writeM s.size s.fail s.ferr R (omOf s)) : SC s s' R.flatten.length := by
  unfold writeM at h
  by_cases he : s.err = 0
  · rw [if_neg (show ¬ (omOf s).2.2.1 ≠ 0 from fun q => q he)] at h
    by_cases hs : s.size ≤ ((((omOf s).1 ++ R.flatten).length : Nat) : Int)
    · rw [if_pos hs] at h
      exact hand_sc (g := s.g ++ R.flatten) he (by rw [List.length_append]; omega) h
    · rw [if_neg hs] at h
      obtain ⟨e1, e2, e3, e4⟩ := om_parts h
      replace e1 : s'.g = s.g ++ R.flatten := e1
      replace e4 : s'.cnt = s.cnt := e4
      refine ⟨.inl ⟨e2, e3, e4⟩, ?_, by omega⟩
      rw [e1, e4]
      have : (s.g ++ R.flatten).length = s.g.length + R.flatten.length := List.length_append
      omega
  · rw [if_pos (show (omOf s).2.2.1 ≠ 0 from he)] at h
    obtain ⟨e1, e2, e3, e4⟩ := om_parts h
    refine ⟨.inl ⟨e2, e3, e4⟩, ?_, by omega⟩
    rw [e1]; omega

/-- Ahead of step k. -/
structure SI (W1 wr : World) (base bo bs : Nat) (size fail ferr : Int) (r : List Stp) (k : Nat) (s : OSt) : Prop where
  is : OIs wr base s
  bel : Below base W1 wr
  bo : s.bo = bo
  bs : s.bs = bs
  size : s.size = size
  fail : s.fail = fail
  ferr : s.ferr = ferr
  tot : s.cnt + (s.g.length : Nat) ≤ (totK r k : Nat)
  cnt : 0 ≤ s.cnt
  len : s.said.length ≤ k
theorem SI.next {W1 wr w' : World} {base bo bs : Nat} {size fail ferr : Int} {r : List Stp} {k : Nat} {s s' : OSt} (h : SI W1 wr base bo bs size fail ferr r k s) {add : Nat} (hk : k < r.length) (hadd : add ≤ tot1 (r[k]?.getD (false, []))) (hS : Same s s') (hc : SC s s' add) (hi : OIs w' base s') (hb : Below base W1 w') : SI W1 w' base bo bs size fail ferr r (k + 1) s' := by
  obtain ⟨h1, h2, h3⟩ := hc
  refine ⟨hi, hb, hS.bo.trans h.bo, hS.bs.trans h.bs, hS.size.trans h.size, hS.fail.trans h.fail, hS.ferr.trans h.ferr, ?_, Int.le_trans h.cnt h3, ?_⟩
  · have := h.tot
    rw [totK_succ r k hk]
    omega
  · have := h.len
    rcases h1 with ⟨e, -⟩ | ⟨-, p, e, -⟩
    · rw [e]; omega
    · rw [e, List.length_append]; simp; omega
theorem totK_le (r : List Stp) : ∀ k, k ≤ r.length → totK r k ≤ totK r r.length := fun k hk => by
  unfold totK
  have h : r.map tot1 = (r.take k).map tot1 ++ (r.drop k).map tot1 := by rw [← List.map_append, List.take_append_drop]
  rw [List.take_length, h, List.sum_append]
  omega
/-- The lists that were handed on, as they lie. -/
theorem OIs.said {w : World} {base : Nat} {s : OSt} (h : OIs w base s) : ∃ a c, s.sv = .slice a s.said.length c ∧ w.cell? ⟨s.bs, 5, none⟩ = some (.slice a s.said.length c) := by
  obtain ⟨a, c, e⟩ := own_shape h.osv
  exact ⟨a, c, e, by rw [h.k.cell 5]; show some s.sv = _; rw [e]⟩
theorem OIs.last {w : World} {base : Nat} {s : OSt} {l : List (List Int)} {p : List Int} (h : OIs w base s) (hs : s.said = l ++ [p]) : ∃ g c, w.cell? ⟨s.bs, 5, none⟩ = some (.slice (some ⟨g, 0, none⟩) (l.length + 1) c) ∧ ∃ ad cc, w.cell? ⟨g, l.length, none⟩ = some (.slice ad p.length cc) ∧ p.length ≤ 140737488351232 := by
  have hl : s.said.length = l.length + 1 := by rw [hs]; simp
  have hsv := h.osv
  rw [hl] at hsv
  obtain ⟨g, c, e, -⟩ := own_someL hsv (by omega)
  obtain ⟨u, r1, r2, -, r4, r5⟩ := h.row l.length (by omega)
  have hp : s.said[l.length]?.getD [] = p := by rw [hs]; simp
  rw [hp] at r2 r4 r5
  obtain ⟨ad, cc, rfl, -⟩ := r2.sbn r4 r5
  rw [e] at hsv
  exact ⟨g, c, by rw [h.k.cell 5]; show some s.sv = _; rw [e], ad, cc, (row_cellL hsv l.length (by omega)).trans r1, r5⟩

abbrev TCase : TypeId := 47
def caseV (size fail ferr : Int) (v : Value) : List Value := [.int .i64 size, .int .i64 fail, .int .i64 ferr, v]

set_option maxHeartbeats 4000000 in
set_option maxRecDepth 100000 in
theorem sticks_walk (W : World) (size fail ferr : Int) (a : Option Addr) (n c : Nat) (r : List Stp) (hS : OS W (.slice a n c) r) : Calls Try.prog 5 #[.agg #[.int .i64 size, .int .i64 fail, .int .i64 ferr, .slice a n c]] W fun e w' => e = .returned (.bool true) ∧ Below W.heap.size W w' := by
  obtain ⟨hl, hn, -, -⟩ := hS.len
  subst hl
  have hb1 := (Below.refl W.heap.size W).alloc (Nat.le_refl _) (.cells (caseV size fail ferr (.slice a r.length c)).toArray TCase)
  have hx1 : At (W.alloc (.cells (caseV size fail ferr (.slice a r.length c)).toArray TCase)) W.heap.size TCase (caseV size fail ferr (.slice a r.length c)) := At.new W _ _
  have hlt1 : W.heap.size < (W.alloc (.cells (caseV size fail ferr (.slice a r.length c)).toArray TCase)).heap.size := by simp
  have HS1 := Lib.hid (hS.below hb1)
  have HX1 := Lib.hid hx1
  have HB1 := Lib.hid hb1
  have d3 := hx1.cell 3
  have hL := Lib.hid (longO_any _ _ _ _ _ (hS.below hb1))
  clear hS hb1 hx1
  replace d3 : (W.alloc (.cells (caseV size fail ferr (.slice a r.length c)).toArray TCase)).cell? ⟨W.heap.size, 3, none⟩ = some (.slice a r.length c) := d3
  go_enter Try.func5, Try.ntmps5
  go_upto_region 1 with fail
  have e0 : W.alloc (.cells #[.int .i64 size, .int .i64 fail, .int .i64 ferr, .slice a r.length c] 47) = W.alloc (.cells (caseV size fail ferr (.slice a r.length c)).toArray TCase) := rfl
  rw [e0]
  clear e0
  generalize W.alloc (.cells (caseV size fail ferr (.slice a r.length c)).toArray TCase) = W1 at hlt1 HS1 HX1 HB1 d3 hL ⊢
  go_wp2_with fail
  refine hL.out.mono ?_
  rintro e w' ⟨bl, rfl, rfl, htot⟩
  have Htot := Lib.hid htot
  clear htot hL
  cases bl with
  | true =>
    go_wp2_with fail
    go_ret
    exact ⟨rfl, HB1.out⟩
  | false =>
    have htl := Htot.out rfl
    clear Htot
    have d0 : W1.cell? ⟨W.heap.size, 0, none⟩ = some (.int .i64 size) := HX1.out.cell 0
    have d1 : W1.cell? ⟨W.heap.size, 1, none⟩ = some (.int .i64 fail) := HX1.out.cell 1
    have d2 : W1.cell? ⟨W.heap.size, 2, none⟩ = some (.int .i64 ferr) := HX1.out.cell 2
    have hb2 := (Below.refl W1.heap.size W1).alloc (Nat.le_refl _) (.cells (sinkNew fail ferr).toArray TSink)
    have hk2 : At (W1.alloc (.cells (sinkNew fail ferr).toArray TSink)) W1.heap.size TSink (sinkNew fail ferr) := At.new W1 _ _
    have f0 : (W1.alloc (.cells (sinkNew fail ferr).toArray TSink)).cell? ⟨W.heap.size, 0, none⟩ = some (.int .i64 size) := by
      rw [hb2.cell hlt1]; exact d0
    have hs2 : W1.heap.size < (W1.alloc (.cells (sinkNew fail ferr).toArray TSink)).heap.size := by simp
    have HK2 := Lib.hid hk2
    have HB2 := Lib.hid hb2
    clear hb2 hk2 d0 d3
    go_upto_region 5 with fail
    have e0 : W1.alloc (.cells #[.pointer none, .string { data := #[] }, .int .i64 fail, .int .i64 ferr, .int .i64 0, .slice none 0 0, .slice none 0 0] 40) = W1.alloc (.cells (sinkNew fail ferr).toArray TSink) := rfl
    rw [e0]
    clear e0
    generalize W1.alloc (.cells (sinkNew fail ferr).toArray TSink) = W2 at f0 hs2 HK2 HB2 ⊢
    clear d1 d2
    by_cases hsz : size < 0
    · have HWk := Lib.hid (works_any W2)
      go_wp2_with fail
      refine (new_no W2 size hsz _).mono ?_
      rintro e w' ⟨rfl, rfl⟩
      go_wp2_with fail
      refine HWk.out.mono ?_
      rintro e w' ⟨rfl, hb⟩
      have HP : Hid (Below W.heap.size W w') := Lib.hid (HB1.out.trans ((HB2.out.mono (Nat.le_of_lt hlt1)).trans (hb.mono (by omega))))
      clear hb
      go_wp2_with fail
      go_ret
      exact ⟨rfl, HP.out⟩
    · have HN := Lib.hid (new_yes W2 W1.heap.size W1.heap.size size fail ferr (by omega) HK2.out (Nat.le_of_lt hs2) (Nat.le_refl _))
      go_wp2_with fail
      refine HN.out.mono ?_
      rintro e w3 ⟨rfl, hI, hb, hs3⟩
      have hb3 : Below W1.heap.size W1 w3 := HB2.out.trans (hb.mono HB2.out.size)
      have g0 : w3.cell? ⟨W.heap.size, 0, none⟩ = some (.int .i64 size) := (HX1.out.keep (hb3.block _ hlt1)).cell 0
      have hSI : SI W1 w3 W1.heap.size W2.heap.size W1.heap.size size fail ferr r 0 (newSt W2.heap.size W1.heap.size size fail ferr) := ⟨hI, hb3, rfl, rfl, rfl, rfl, rfl, by simp [newSt, totK], by simp [newSt], by simp [newSt]⟩
      clear HN HK2 hI hb f0 hs3 hb3
      generalize hbo : W2.heap.size = bo at hSI ⊢
      have hbo1 : W1.heap.size < bo := by omega
      clear hbo hs2 HB2
      go_wp2_with fail
      clear g0
      go_loopw [7, 8, 9] (fun x y i wr => ∃ (k : Nat) (s : OSt), k ≤ r.length ∧ x = .int .i64 s.err ∧ y = .int .i64 s.cnt ∧ i = .int .i64 k ∧ SI W1 wr W1.heap.size bo W1.heap.size size fail ferr r k s) (fun _ _ i _ => r.length - (intOf i).toNat)
      case atStart => exact ⟨0, _, Nat.zero_le _, rfl, rfl, rfl, hSI⟩
      case round =>
        obtain ⟨k, s, hk, rfl, rfl, rfl, hI⟩ := hrel
        clear hSI
        have hg1 := hI.bel.size
        by_cases hlt : k < r.length
        · obtain ⟨b, o, rfl, hc⟩ := (HS1.out.below (hI.bel.mono (Nat.le_refl _))).read k hlt
          obtain ⟨c0, ad, pn, pc, c1, hR⟩ := hc k hlt
          obtain ⟨R, hRe⟩ : ∃ R, (r[k]?.getD (false, [])).2 = R := ⟨_, rfl⟩
          have htk : tot1 (r[k]?.getD (false, [])) = R.length + R.flatten.length := by unfold tot1; rw [hRe]
          rw [hRe] at hR
          generalize (r[k]?.getD (false, [])).1 = fl at c0
          have d1 : wr.cell? ⟨W.heap.size, 1, none⟩ = some (.int .i64 fail) := (HX1.out.keep (hI.bel.block _ hlt1)).cell 1
          obtain ⟨a5, c5, -, k5⟩ := hI.is.said
          rw [hI.bs] at k5
          have HC := Lib.hid (copyRows_any wr (.slice ad pn pc) R hR)
          have htk1 := totK_le r (k + 1) hlt
          have hs1 := totK_succ r k hlt
          have hgb : s.g.length + R.flatten.length ≤ 1099511627776 := by
            have := hI.tot; have := hI.cnt; unfold totL at htl; omega
          have hcb : 0 ≤ s.cnt ∧ s.cnt ≤ 4611686018427387904 := ⟨hI.cnt, by have := hI.tot; unfold totL at htl; omega⟩
          have hlb : s.said.length < 4294967296 := by have := hI.len; unfold totL at htl; omega
          have HI := Lib.hid hI
          obtain ⟨cn, hcn⟩ : ∃ cn, cn = s.said.length := ⟨_, rfl⟩
          rw [← hcn] at k5
          have Hcn := Lib.hid hcn
          have hcnb : cn < 4294967296 := by omega
          have Htk := Lib.hid htk
          clear hc hI hR hRe hcn htk1 hs1 htk d1
          cases fl with
          | true =>
            have HFl := Lib.hid (flush_yes wr W1.heap.size s HI.out.is hg1 (by omega) hcb hlb)
            rw [HI.out.bo] at HFl
            clear HC c1
            go_wp2_with fail
            refine HFl.out.mono ?_
            rintro e w4 ⟨hE, s4, hS4, hO4, hI4, hU4⟩
            subst hE
            have hE : (flushM s.fail s.ferr (omOf s)).2.2.1 = s4.err := by rw [← hO4]; rfl
            rw [hE]
            have hsc := flush_sc hO4
            have hN := HI.out.next hlt (Nat.zero_le _) hS4 hsc hI4 (hU4.bel _ _ HI.out.bel (Nat.le_refl _))
            clear hE hO4 hI4 hU4 HFl c0 k5
            have hg4 := hN.bel.size
            have d1 : w4.cell? ⟨W.heap.size, 1, none⟩ = some (.int .i64 fail) := (HX1.out.keep (hN.bel.block _ hlt1)).cell 1
            have d2 : w4.cell? ⟨W.heap.size, 2, none⟩ = some (.int .i64 ferr) := (HX1.out.keep (hN.bel.block _ hlt1)).cell 2
            have HEr := Lib.hid (err_yes w4 W1.heap.size s4 hN.is)
            have HCn := Lib.hid (count_yes w4 W1.heap.size s4 hN.is)
            rw [hN.bo] at HEr HCn
            have HN := Lib.hid hN
            obtain ⟨hsc1, -, -⟩ := hsc
            rw [HI.out.fail, HI.out.ferr, ← Hcn.out] at hsc1
            rcases hsc1 with ⟨e1, e2, e3⟩ | ⟨he0, p, e1, e2, e3⟩
            · obtain ⟨a6, c6, -, k6⟩ := hN.is.said
              rw [hN.bs, e1, ← Hcn.out] at k6
              rw [e2] at HEr ⊢
              rw [e3] at HCn
              have HEq := Lib.hid (And.intro e2 e3)
              clear hN hS4 e1 e2 e3
              generalize hse : s.err = er at HEr HEq ⊢
              generalize hsn : s.cnt = cv at HCn HEq ⊢
              by_cases hz : er = 0
              · have hz1 : (er != 0) = false := by simpa using hz
                have hz2 := Lib.hid hz
                clear hz
                go_wp2_with fail
                refine HEr.out.mono ?_
                rintro e w' ⟨rfl, rfl⟩
                go_wp2_with fail
                refine HCn.out.mono ?_
                rintro e w' ⟨rfl, rfl⟩
                go_wp2_with fail
                go_roundw
                case rel => exact ⟨k + 1, s4, by omega, by rw [HEq.out.1], by rw [HEq.out.2], by go_num, HN.out⟩
                case measure => simp [intOf]; omega
              · have hz1 : (er != 0) = true := by simpa using hz
                clear hz
                go_wp2_with fail
                refine HEr.out.mono ?_
                rintro e w' ⟨rfl, rfl⟩
                go_wp2_with fail
                refine HCn.out.mono ?_
                rintro e w' ⟨rfl, rfl⟩
                go_wp2_with fail
                go_roundw
                case rel => exact ⟨k + 1, s4, by omega, by rw [HEq.out.1], by rw [HEq.out.2], by go_num, HN.out⟩
                case measure => simp [intOf]; omega
            · obtain ⟨g6, c6, k6, ad6, cc6, k7, hp⟩ := hN.is.last e1
              rw [hN.bs, ← Hcn.out] at k6
              rw [← Hcn.out] at k7
              obtain ⟨pl, hpl⟩ : ∃ pl, p.length = pl := ⟨_, rfl⟩
              rw [hpl] at k7 hp e3
              obtain ⟨n6, hn6⟩ : ∃ n6, n6 = cn + 1 := ⟨_, rfl⟩
              rw [← hn6] at k6
              have hgt : (cn : Int) < (n6 : Int) := by omega
              have hgn : cn < n6 := by omega
              have hle : ¬ ((cn : Int) + 1 < (n6 : Int)) := by omega
              have hne : ((n6 : Int) != (cn : Int)) = true := by rw [bne_iff_ne]; omega
              have hcv : 0 ≤ s.cnt ∧ s.cnt ≤ 4611686018427387904 := ⟨HI.out.cnt, by have := HI.out.tot; have h2 := totK_le r k hk; unfold totL at htl; omega⟩
              rw [he0]
              by_cases hf : (cn : Int) + 1 = fail
              · rw [if_pos hf] at e2 e3
                by_cases hfe : ferr = 0
                · rw [if_pos hfe] at e3
                  rw [hfe] at e2 d2
                  have hfb : ((cn : Int) + 1 == fail) = true := by simpa using hf
                  rw [e2] at HEr ⊢
                  rw [e3] at HCn
                  have HEq := Lib.hid (And.intro e2 e3)
                  clear hN hS4 e1 e2 e3 hn6 hpl hf hfe he0
                  generalize hsn : s.cnt = cv at HCn HEq hcv ⊢
                  go_wp2_with fail
                  refine HEr.out.mono ?_
                  rintro e w' ⟨rfl, rfl⟩
                  go_wp2_with fail
                  refine HCn.out.mono ?_
                  rintro e w' ⟨rfl, rfl⟩
                  go_wp2_with fail
                  go_roundw
                  case rel => exact ⟨k + 1, s4, by omega, by rw [HEq.out.1], by rw [HEq.out.2], by go_num, HN.out⟩
                  case measure => simp [intOf]; omega
                · rw [if_neg hfe] at e3
                  have hfb : ((cn : Int) + 1 == fail) = true := by simpa using hf
                  have hfn : (ferr != 0) = true := by simpa using hfe
                  rw [e2] at HEr ⊢
                  rw [e3] at HCn
                  have HEq := Lib.hid (And.intro e2 e3)
                  clear hN hS4 e1 e2 e3 hn6 hpl hf hfe he0
                  generalize hsn : s.cnt = cv at HCn HEq hcv ⊢
                  go_wp2_with fail
                  refine HEr.out.mono ?_
                  rintro e w' ⟨rfl, rfl⟩
                  go_wp2_with fail
                  refine HCn.out.mono ?_
                  rintro e w' ⟨rfl, rfl⟩
                  go_wp2_with fail
                  go_roundw
                  case rel => exact ⟨k + 1, s4, by omega, by rw [HEq.out.1], by rw [HEq.out.2], by go_num, HN.out⟩
                  case measure => simp [intOf]; omega
              · rw [if_neg hf] at e2 e3
                rw [if_pos rfl] at e3
                have hfb : ((cn : Int) + 1 == fail) = false := by simpa using hf
                rw [e2] at HEr ⊢
                rw [e3] at HCn
                have HEq := Lib.hid (And.intro e2 e3)
                clear hN hS4 e1 e2 e3 hn6 hpl hf he0
                generalize hsn : s.cnt = cv at HCn HEq hcv ⊢
                go_wp2_with fail
                refine HEr.out.mono ?_
                rintro e w' ⟨rfl, rfl⟩
                go_wp2_with fail
                refine HCn.out.mono ?_
                rintro e w' ⟨rfl, rfl⟩
                go_wp2_with fail
                go_roundw
                case rel => exact ⟨k + 1, s4, by omega, by rw [HEq.out.1], by rw [HEq.out.2], by go_num, HN.out⟩
                case measure => simp [intOf]; omega
          | false =>
            clear hcb
            go_wp2_with fail
            refine HC.out.mono ?_
            rintro e w5 ⟨v5, vs5, rfl, hRw, hb5⟩
            have hI5 := HI.out.is.below hb5
            have hg5 := hb5.size
            have hRl : R.length ≤ 5864062014805 := by have := Htk.out; have h2 := totK_le r (k + 1) hlt; have h3 := totK_succ r k hlt; unfold totL at htl; omega
            have HWr := Lib.hid (write_yes w5 W1.heap.size s hI5 (by omega) _ v5 R (hRw.rbs hRl) (fun j hj => ⟨hj.2, fun hm => by have := (HI.out.is.lt j (.inl hm)).1; omega⟩) hgb ⟨HI.out.cnt, by have := HI.out.tot; have h2 := totK_le r k hk; unfold totL at htl; omega⟩ hlb)
            rw [HI.out.bo] at HWr
            have HB5 := Lib.hid (HI.out.bel.trans (hb5.mono hg1))
            clear hRw hI5 hb5 HC c0 c1
            go_wp2_with fail
            refine HWr.out.mono ?_
            rintro e w4 ⟨hE, s4, hS4, hO4, hI4, hU4⟩
            subst hE
            have hE : (writeM s.size s.fail s.ferr R (omOf s)).2.2.1 = s4.err := by rw [← hO4]; rfl
            rw [hE]
            have hsc := write_sc hO4
            have hN := HI.out.next hlt (by rw [Htk.out]; omega) hS4 hsc hI4 (hU4.bel _ _ HB5.out (Nat.le_refl _))
            clear hE hO4 hI4 hU4 HWr k5 HB5 hg5
            have hg4 := hN.bel.size
            have d1 : w4.cell? ⟨W.heap.size, 1, none⟩ = some (.int .i64 fail) := (HX1.out.keep (hN.bel.block _ hlt1)).cell 1
            have d2 : w4.cell? ⟨W.heap.size, 2, none⟩ = some (.int .i64 ferr) := (HX1.out.keep (hN.bel.block _ hlt1)).cell 2
            have HEr := Lib.hid (err_yes w4 W1.heap.size s4 hN.is)
            have HCn := Lib.hid (count_yes w4 W1.heap.size s4 hN.is)
            rw [hN.bo] at HEr HCn
            have HN := Lib.hid hN
            obtain ⟨hsc1, -, -⟩ := hsc
            rw [HI.out.fail, HI.out.ferr, ← Hcn.out] at hsc1
            rcases hsc1 with ⟨e1, e2, e3⟩ | ⟨he0, p, e1, e2, e3⟩
            · obtain ⟨a6, c6, -, k6⟩ := hN.is.said
              rw [hN.bs, e1, ← Hcn.out] at k6
              rw [e2] at HEr ⊢
              rw [e3] at HCn
              have HEq := Lib.hid (And.intro e2 e3)
              clear hN hS4 e1 e2 e3
              generalize hse : s.err = er at HEr HEq ⊢
              generalize hsn : s.cnt = cv at HCn HEq ⊢
              by_cases hz : er = 0
              · have hz1 : (er != 0) = false := by simpa using hz
                have hz2 := Lib.hid hz
                clear hz
                go_wp2_with fail
                refine HEr.out.mono ?_
                rintro e w' ⟨rfl, rfl⟩
                go_wp2_with fail
                refine HCn.out.mono ?_
                rintro e w' ⟨rfl, rfl⟩
                go_wp2_with fail
                go_roundw
                case rel => exact ⟨k + 1, s4, by omega, by rw [HEq.out.1], by rw [HEq.out.2], by go_num, HN.out⟩
                case measure => simp [intOf]; omega
              · have hz1 : (er != 0) = true := by simpa using hz
                clear hz
                go_wp2_with fail
                refine HEr.out.mono ?_
                rintro e w' ⟨rfl, rfl⟩
                go_wp2_with fail
                refine HCn.out.mono ?_
                rintro e w' ⟨rfl, rfl⟩
                go_wp2_with fail
                go_roundw
                case rel => exact ⟨k + 1, s4, by omega, by rw [HEq.out.1], by rw [HEq.out.2], by go_num, HN.out⟩
                case measure => simp [intOf]; omega
            · obtain ⟨g6, c6, k6, ad6, cc6, k7, hp⟩ := hN.is.last e1
              rw [hN.bs, ← Hcn.out] at k6
              rw [← Hcn.out] at k7
              obtain ⟨pl, hpl⟩ : ∃ pl, p.length = pl := ⟨_, rfl⟩
              rw [hpl] at k7 hp e3
              obtain ⟨n6, hn6⟩ : ∃ n6, n6 = cn + 1 := ⟨_, rfl⟩
              rw [← hn6] at k6
              have hgt : (cn : Int) < (n6 : Int) := by omega
              have hgn : cn < n6 := by omega
              have hle : ¬ ((cn : Int) + 1 < (n6 : Int)) := by omega
              have hne : ((n6 : Int) != (cn : Int)) = true := by rw [bne_iff_ne]; omega
              have hcv : 0 ≤ s.cnt ∧ s.cnt ≤ 4611686018427387904 := ⟨HI.out.cnt, by have := HI.out.tot; have h2 := totK_le r k hk; unfold totL at htl; omega⟩
              rw [he0]
              by_cases hf : (cn : Int) + 1 = fail
              · rw [if_pos hf] at e2 e3
                by_cases hfe : ferr = 0
                · rw [if_pos hfe] at e3
                  rw [hfe] at e2 d2
                  have hfb : ((cn : Int) + 1 == fail) = true := by simpa using hf
                  rw [e2] at HEr ⊢
                  rw [e3] at HCn
                  have HEq := Lib.hid (And.intro e2 e3)
                  clear hN hS4 e1 e2 e3 hn6 hpl hf hfe he0
                  generalize hsn : s.cnt = cv at HCn HEq hcv ⊢
                  go_wp2_with fail
                  refine HEr.out.mono ?_
                  rintro e w' ⟨rfl, rfl⟩
                  go_wp2_with fail
                  refine HCn.out.mono ?_
                  rintro e w' ⟨rfl, rfl⟩
                  go_wp2_with fail
                  go_roundw
                  case rel => exact ⟨k + 1, s4, by omega, by rw [HEq.out.1], by rw [HEq.out.2], by go_num, HN.out⟩
                  case measure => simp [intOf]; omega
                · rw [if_neg hfe] at e3
                  have hfb : ((cn : Int) + 1 == fail) = true := by simpa using hf
                  have hfn : (ferr != 0) = true := by simpa using hfe
                  rw [e2] at HEr ⊢
                  rw [e3] at HCn
                  have HEq := Lib.hid (And.intro e2 e3)
                  clear hN hS4 e1 e2 e3 hn6 hpl hf hfe he0
                  generalize hsn : s.cnt = cv at HCn HEq hcv ⊢
                  go_wp2_with fail
                  refine HEr.out.mono ?_
                  rintro e w' ⟨rfl, rfl⟩
                  go_wp2_with fail
                  refine HCn.out.mono ?_
                  rintro e w' ⟨rfl, rfl⟩
                  go_wp2_with fail
                  go_roundw
                  case rel => exact ⟨k + 1, s4, by omega, by rw [HEq.out.1], by rw [HEq.out.2], by go_num, HN.out⟩
                  case measure => simp [intOf]; omega
              · rw [if_neg hf] at e2 e3
                rw [if_pos rfl] at e3
                have hfb : ((cn : Int) + 1 == fail) = false := by simpa using hf
                rw [e2] at HEr ⊢
                rw [e3] at HCn
                have HEq := Lib.hid (And.intro e2 e3)
                clear hN hS4 e1 e2 e3 hn6 hpl hf he0
                generalize hsn : s.cnt = cv at HCn HEq hcv ⊢
                go_wp2_with fail
                refine HEr.out.mono ?_
                rintro e w' ⟨rfl, rfl⟩
                go_wp2_with fail
                refine HCn.out.mono ?_
                rintro e w' ⟨rfl, rfl⟩
                go_wp2_with fail
                go_roundw
                case rel => exact ⟨k + 1, s4, by omega, by rw [HEq.out.1], by rw [HEq.out.2], by go_num, HN.out⟩
                case measure => simp [intOf]; omega
        · obtain rfl : k = r.length := by omega
          have HWk := Lib.hid (works_any wr)
          have HB4 : Hid (Below W.heap.size W wr) := Lib.hid (HB1.out.trans (hI.bel.mono (Nat.le_of_lt hlt1)))
          clear hI
          go_wp2_with fail
          refine HWk.out.mono ?_
          rintro e w4 ⟨rfl, hb4⟩
          have HP : Hid (Below W.heap.size W w4) := Lib.hid (HB4.out.trans (hb4.mono HB4.out.size))
          clear hb4
          go_wp2_with fail
          go_ret
          exact ⟨rfl, HP.out⟩
end Go.Proofs.Ytbdgolbejoheiaa
