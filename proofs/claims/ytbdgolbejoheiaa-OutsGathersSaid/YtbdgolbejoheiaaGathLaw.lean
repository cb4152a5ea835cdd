/-
  OutsGathers: the sink gets all, in pieces that are large enough.
-/
import Derived.Test.YtbdgolbejoheiaaGathM
namespace Go.Proofs.Ytbdgolbejoheiaa
open Go.RowKit

/-- Ahead of step k. -/
structure G1 (W wr : World) (bo bs : Nat) (size : Int) (r : List Stp) (k : Nat) (s : OSt) : Prop where
  is : OIs wr W.heap.size s
  bel : Below W.heap.size W wr
  five : s.bo = bo ∧ s.bs = bs ∧ s.size = size ∧ s.fail = 0 ∧ s.ferr = 0
  err : s.err = 0
  all : s.said.flatten ++ s.g = allB r k
  cnt : s.cnt = (s.said.flatten.length : Nat)
  len : s.said.length ≤ s.said.flatten.length
  ne : ∀ i, i < s.said.length → s.said[i]?.getD [] ≠ []
theorem G1.fits {W wr : World} {bo bs : Nat} {size : Int} {r : List Stp} {k : Nat} {s : OSt} (h : G1 W wr bo bs size r k s) (hk : k ≤ r.length) (ht : totL r ≤ 2147483647) : s.said.flatten.length + s.g.length ≤ totK r k ∧ totK r k ≤ 2147483647 ∧ (0 ≤ s.cnt ∧ s.cnt ≤ 4611686018427387904) ∧ s.said.length < 4294967296 ∧ s.said.length ≤ 2147483647 := by
  have h1 := congrArg List.length h.all
  rw [List.length_append] at h1
  have h2 := allB_le r k hk
  have h3 := totK_le r k hk
  have h4 := h.len
  have h5 := h.cnt
  unfold totL at ht
  refine ⟨by omega, by omega, ⟨by omega, by omega⟩, by omega, by omega⟩
theorem G1.due {W wr w' : World} {bo bs : Nat} {size : Int} {r : List Stp} {k : Nat} {s s' : OSt} {b : List Int} (h : G1 W wr bo bs size r k s) (hk : k < r.length) (hb : bytesOf1 (r[k]?.getD (false, [])) = b) (hp : 0 < (s.g ++ b).length) (hS : Same s s') (hi : OIs w' W.heap.size s') (hB : Below W.heap.size W w') (hO : omOf s' = ([], s.said ++ [s.g ++ b], 0, s.cnt + ((s.g ++ b).length : Nat))) : G1 W w' bo bs size r (k + 1) s' := by
  obtain ⟨e1, e2, e3, e4⟩ := om_parts hO
  refine ⟨hi, hB, hS.five h.five, e3, ?_, ?_, ?_, fun i hi => ?_⟩
  · rw [e1, e2, allB_succ r k hk, hb, ← h.all]; simp
  · rw [e2, e4, h.cnt]; simp
  · rw [e2]
    have := h.len
    simp only [List.length_append, List.flatten_append, List.length_cons, List.length_nil, List.flatten_cons, List.flatten_nil] at hp ⊢
    omega
  · rw [e2] at hi ⊢
    by_cases hl : i < s.said.length
    · rw [List.getElem?_append_left hl]; exact h.ne i hl
    · have : i = s.said.length := by simp at hi; omega
      subst this
      rw [List.getElem?_append_right (Nat.le_refl _), Nat.sub_self]
      intro e
      have e : s.g ++ b = [] := e
      rw [e] at hp; simp at hp
theorem G1.not {W wr w' : World} {bo bs : Nat} {size : Int} {r : List Stp} {k : Nat} {s s' : OSt} {b : List Int} (h : G1 W wr bo bs size r k s) (hk : k < r.length) (hb : bytesOf1 (r[k]?.getD (false, [])) = b) (hS : Same s s') (hi : OIs w' W.heap.size s') (hB : Below W.heap.size W w') (hO : omOf s' = (s.g ++ b, s.said, 0, s.cnt)) : G1 W w' bo bs size r (k + 1) s' := by
  obtain ⟨e1, e2, e3, e4⟩ := om_parts hO
  refine ⟨hi, hB, hS.five h.five, e3, ?_, ?_, ?_, ?_⟩
  · rw [e1, e2, allB_succ r k hk, hb, ← h.all, List.append_assoc]
  · rw [e2, e4, h.cnt]
  · rw [e2]; exact h.len
  · rw [e2]; exact h.ne
theorem G1.flush {W wr w' : World} {bo bs : Nat} {size : Int} {r : List Stp} {k : Nat} {s s' : OSt} (h : G1 W wr bo bs size r k s) (hS : Same s s') (hi : OIs w' W.heap.size s') (hB : Below W.heap.size W w') (hO : omOf s' = flushM 0 0 (omOf s)) : G1 W w' bo bs size r k s' ∧ s'.g = [] := by
  have hf : ¬ (((s.said.length : Nat) : Int) + 1 = 0) := by omega
  rw [flushM, if_neg (show ¬ (omOf s).2.2.1 ≠ 0 from fun q => q h.err), handM] at hO
  by_cases hg : s.g = []
  · rw [if_pos (show (omOf s).1 = [] from hg)] at hO
    obtain ⟨e1, e2, e3, e4⟩ := om_parts hO
    exact ⟨⟨hi, hB, hS.five h.five, e3.trans h.err, by rw [e1, e2]; exact h.all, by rw [e2, e4]; exact h.cnt, by rw [e2]; exact h.len, by rw [e2]; exact h.ne⟩, e1.trans hg⟩
  · rw [if_neg (show ¬ (omOf s).1 = [] from hg)] at hO
    replace hO : omOf s' = ([], s.said ++ [s.g], (if ((s.said.length : Nat) : Int) + 1 = 0 then 0 else 0), if (if ((s.said.length : Nat) : Int) + 1 = 0 then (0 : Int) else 0) = 0 then s.cnt + (s.g.length : Nat) else s.cnt) := hO
    rw [if_neg hf, if_pos rfl] at hO
    obtain ⟨e1, e2, e3, e4⟩ := om_parts hO
    have hpos : 0 < s.g.length := List.length_pos_iff.2 hg
    refine ⟨⟨hi, hB, hS.five h.five, e3, ?_, ?_, ?_, fun i hi => ?_⟩, e1⟩
    · rw [e1, e2, ← h.all]; simp
    · rw [e2, e4, h.cnt]; simp
    · rw [e2]
      have := h.len
      simp only [List.length_append, List.flatten_append, List.length_cons, List.length_nil, List.flatten_cons, List.flatten_nil]
      omega
    · rw [e2] at hi ⊢
      by_cases hl : i < s.said.length
      · rw [List.getElem?_append_left hl]; exact h.ne i hl
      · have : i = s.said.length := by simp at hi; omega
        subst this
        rw [List.getElem?_append_right (Nat.le_refl _), Nat.sub_self]
        exact hg
/-- Where the law stands in what was handed on. -/
def PosI (said : List (List Int)) (call at' p : Nat) : Prop := ((said = [] ∧ call = 0 ∧ at' = 0) ∨ (call < said.length ∧ at' ≤ (said[call]?.getD []).length)) ∧ posM said call at' = p

theorem PosI.within {S : List (List Int)} {call at' p : Nat} (h : PosI S call at' p) (hp : p < S.flatten.length) : call < S.length ∧ at' ≤ (S[call]?.getD []).length := by
  rcases h.1 with ⟨rfl, -, -⟩ | h
  · simp at hp
  · exact h
theorem PosI.next {S : List (List Int)} {call at' p : Nat} (h : PosI S call at' p) (hp : p < S.flatten.length) (he : at' = (S[call]?.getD []).length) : PosI S (call + 1) 0 p ∧ call + 1 < S.length := by
  have hw := h.within hp
  have hl := pos_left S call hw.1 (by rw [← he]; exact h.2 ▸ hp)
  exact ⟨⟨.inr ⟨hl, Nat.zero_le _⟩, by rw [pos_next S call hw.1, ← he]; exact h.2⟩, hl⟩
theorem PosI.step {S : List (List Int)} {call at' p : Nat} (h : PosI S call at' p) (hc : call < S.length) (hl : at' < (S[call]?.getD []).length) : PosI S call (at' + 1) (p + 1) :=
  ⟨.inr ⟨hc, hl⟩, by have := h.2; unfold posM at this ⊢; omega⟩
theorem PosI.byte {S : List (List Int)} {call at' p : Nat} (h : PosI S call at' p) (hc : call < S.length) (hl : at' < (S[call]?.getD []).length) : (S[call]?.getD [])[at']?.getD 0 = S.flatten[p]?.getD 0 := by
  rw [← h.2, pos_byte S call at' hc hl]
theorem PosI.small {S : List (List Int)} {call at' p : Nat} (h : PosI S call at' p) {B : Nat} (h1 : S.length ≤ B) (h2 : S.flatten.length ≤ B) : call ≤ B ∧ at' ≤ B := by
  rcases h.1 with ⟨rfl, rfl, rfl⟩ | ⟨a, b⟩
  · exact ⟨Nat.zero_le _, Nat.zero_le _⟩
  · have := takeF_row S call a
    exact ⟨by omega, by omega⟩
theorem allB_byte {r : List Stp} {i k j : Nat} {R : List (List Int)} (hi : i < r.length) (hst : r[i]?.getD (false, []) = (false, R)) (hk : k < R.length) (hj : j < (R[k]?.getD []).length) : (allB r r.length)[(allB r i).length + (R.take k).flatten.length + j]?.getD 0 = (R[k]?.getD [])[j]?.getD 0 ∧ (allB r i).length + (R.take k).flatten.length + j < (allB r r.length).length := by
  obtain ⟨t, ht⟩ := allB_pre r (i + 1) hi
  rw [allB_succ r i hi, hst] at ht
  have hb : bytesOf1 (false, R) = R.flatten := rfl
  rw [hb, flat_split R k hk] at ht
  have e : allB r r.length = (allB r i ++ (R.take k).flatten) ++ (R[k]?.getD [] ++ ((R.drop (k + 1)).flatten ++ t)) := by rw [ht]; simp
  rw [e]
  have hl : (allB r i ++ (R.take k).flatten).length = (allB r i).length + (R.take k).flatten.length := List.length_append
  refine ⟨?_, ?_⟩
  · rw [List.getElem?_append_right (by omega), show (allB r i).length + (R.take k).flatten.length + j - (allB r i ++ (R.take k).flatten).length = j by omega, List.getElem?_append_left hj]
  · simp only [List.length_append] at hl ⊢; omega
theorem allB_step {r : List Stp} {i : Nat} {fl : Bool} {R : List (List Int)} (hi : i < r.length) (hst : r[i]?.getD (false, []) = (fl, R)) : (allB r (i + 1)).length = (allB r i).length + (bytesOf1 (fl, R)).length := by
  rw [allB_succ r i hi, hst, List.length_append]

set_option maxHeartbeats 4000000 in
set_option maxRecDepth 100000 in
theorem gathers_walk (W : World) (size : Int) (a : Option Addr) (n c : Nat) (r : List Stp) (hS : OS W (.slice a n c) r) : Calls Try.prog 4 #[.int .i64 size, .slice a n c] W fun e w' => e = .returned (.bool true) ∧ Below W.heap.size W w' := by
  obtain ⟨hl, hn, -, -⟩ := hS.len
  subst hl
  have hL := Lib.hid (longO_any _ _ _ _ _ hS)
  have HS := Lib.hid hS
  have hb2 := (Below.refl W.heap.size W).alloc (Nat.le_refl _) (.cells (sinkNew 0 0).toArray TSink)
  have hk2 : At (W.alloc (.cells (sinkNew 0 0).toArray TSink)) W.heap.size TSink (sinkNew 0 0) := At.new W _ _
  have hs2 : W.heap.size < (W.alloc (.cells (sinkNew 0 0).toArray TSink)).heap.size := by simp
  have HK2 := Lib.hid hk2
  have HB2 := Lib.hid hb2
  clear hS hb2 hk2
  go_enter Try.func4, Try.ntmps4
  go_wp2_with fail
  refine hL.out.mono ?_
  rintro e w' ⟨bl, rfl, rfl, htot⟩
  have Htot := Lib.hid htot
  clear htot hL
  cases bl with
  | true =>
    go_wp2_with fail
    go_ret
    exact ⟨rfl, Below.refl _ _⟩
  | false =>
    have htl := Htot.out rfl
    clear Htot
    go_upto_region 4 with fail
    have e0 : W.alloc (.cells #[.pointer none, .string { data := #[] }, .int .i64 0, .int .i64 0, .int .i64 0, .slice none 0 0, .slice none 0 0] 40) = W.alloc (.cells (sinkNew 0 0).toArray TSink) := rfl
    rw [e0]
    clear e0
    generalize W.alloc (.cells (sinkNew 0 0).toArray TSink) = W2 at HK2 HB2 hs2 ⊢
    by_cases hsz : size < 0
    · have HWk := Lib.hid (works_any W2)
      go_wp2_with fail
      refine (new_no W2 size hsz _).mono ?_
      rintro e w' ⟨rfl, rfl⟩
      go_wp2_with fail
      refine HWk.out.mono ?_
      rintro e w' ⟨rfl, hb⟩
      have HP := Lib.hid (HB2.out.trans (hb.mono HB2.out.size))
      clear hb
      go_wp2_with fail
      go_ret
      exact ⟨rfl, HP.out⟩
    · have HN := Lib.hid (new_yes W2 W.heap.size W.heap.size size 0 0 (by omega) HK2.out (Nat.le_of_lt hs2) (Nat.le_refl _))
      go_wp2_with fail
      refine HN.out.mono ?_
      rintro e w3 ⟨rfl, hI, hb, -⟩
      have hG : G1 W w3 W2.heap.size W.heap.size size r 0 (newSt W2.heap.size W.heap.size size 0 0) := ⟨hI, HB2.out.trans (hb.mono HB2.out.size), ⟨rfl, rfl, rfl, rfl, rfl⟩, rfl, by simp [newSt, allB], by simp [newSt], by simp [newSt], by simp [newSt]⟩
      clear HN HK2 hI hb HB2
      generalize hbo : W2.heap.size = bo at hG ⊢
      clear hbo hs2
      go_wp2_with fail
      go_loopw [8, 9, 10, 11] (fun x y z i wr => ∃ (k : Nat) (s : OSt) (hl sl nl : Nat), k ≤ r.length ∧ x = .int .i64 hl ∧ y = .int .i64 sl ∧ z = .int .i64 nl ∧ i = .int .i64 k ∧ hl = s.g.length ∧ sl = s.said.length ∧ nl = s.said.flatten.length ∧ G1 W wr bo W.heap.size size r k s) (fun _ _ _ i _ => r.length - (intOf i).toNat)
      case atStart => exact ⟨0, _, 0, 0, 0, Nat.zero_le _, rfl, rfl, rfl, rfl, rfl, rfl, rfl, hG⟩
      case round =>
        obtain ⟨k, s, h0, cn, nl, hk, rfl, rfl, rfl, rfl, hh0, hcn, hnl, hG1⟩ := hrel
        clear hG
        have hg := hG1.bel.size
        by_cases hlt : k < r.length
        · obtain ⟨b, o, rfl, hc⟩ := (HS.out.below hG1.bel).read k hlt
          obtain ⟨c0, ad, pn, pc, c1, hR⟩ := hc k hlt
          obtain ⟨fl, hfl⟩ : ∃ fl, (r[k]?.getD (false, [])).1 = fl := ⟨_, rfl⟩
          obtain ⟨R, hRe⟩ : ∃ R, (r[k]?.getD (false, [])).2 = R := ⟨_, rfl⟩
          have hst : r[k]?.getD (false, []) = (fl, R) := by rw [← hfl, ← hRe]
          rw [hfl] at c0
          rw [hRe] at hR
          have htk1 := totK_le r (k + 1) hlt
          have hs1 := totK_succ r k hlt
          rw [hst] at hs1
          have htk : tot1 (fl, R) = R.length + R.flatten.length := rfl
          rw [htk] at hs1
          have hfit := hG1.fits hk htl
          have htb : totK r k + (R.length + R.flatten.length) ≤ 2147483647 ∧ r.length ≤ 2147483647 := by unfold totL at htl; omega
          have hb0 : h0 ≤ 2147483647 ∧ cn ≤ 2147483647 ∧ nl ≤ 2147483647 := by omega
          have HG := Lib.hid hG1
          have HR := Lib.hid hR
          have Hst := Lib.hid hst
          have HE := Lib.hid (And.intro hh0 (And.intro hcn hnl))
          clear hc hfl hRe hst htk hs1 htk1 hG1 hR hh0 hcn hnl
          cases fl with
          | true =>
            have HF1 := Lib.hid (flush_yes wr W.heap.size s HG.out.is hg (by omega) hfit.2.2.1 hfit.2.2.2.1)
            rw [HG.out.five.1, HG.out.five.2.2.2.1, HG.out.five.2.2.2.2] at HF1
            clear c1
            go_wp2_with fail
            refine HF1.out.mono ?_
            rintro e w4 ⟨hE, s4, hS4, hO4, hI4, hU4⟩
            subst hE
            have hM : omOf s4 = if true = true then flushM 0 0 (omOf s) else writeM size 0 0 R (omOf s) := by rw [if_pos rfl]; exact hO4
            have hbb : bytesOf1 (r[k]?.getD (false, [])) = bytesOf1 (true, R) := by rw [Hst.out]
            have hbl : (s.g ++ bytesOf1 (true, R)).length = h0 := by rw [HE.out.1]; simp [bytesOf1]
            have hB4 := hU4.bel _ _ HG.out.bel (Nat.le_refl _)
            have hee : (flushM 0 0 (omOf s)).2.2.1 = s4.err := by rw [← hO4]; rfl
            rw [hee]
            obtain ⟨b2, o2, hbo2, hc2⟩ := (HS.out.below hB4).read k hlt
            obtain ⟨rfl, rfl⟩ : b = b2 ∧ o = o2 := by simpa using hbo2
            obtain ⟨c02, -⟩ := hc2 k hlt
            rw [Hst.out] at c02
            replace c02 : w4.cell? ⟨b, o + k * 2, none⟩ = some (.bool true) := c02
            clear hc2 hbo2
            by_cases hp : 0 < h0
            · have hpi : (0 : Int) < (h0 : Int) := by omega
              have hdue := step_due (size := size) (fl := true) (R := R) (m := omOf s) (M := omOf s4) HG.out.err hM ⟨by show 0 < (s.g ++ bytesOf1 (true, R)).length; omega, .inl rfl⟩
              have hN := HG.out.due hlt hbb (by omega) hS4 hI4 hB4 hdue
              have hO5 := om_parts hdue
              obtain ⟨g6, c6, k6, ad6, cc6, k7, -⟩ := hN.is.last hO5.2.1
              have hcn5 : s.said.length = cn := HE.out.2.1.symm
              have k6 : w4.cell? ⟨W.heap.size, 5, none⟩ = some (.slice (some ⟨g6, 0, none⟩) (cn + 1) c6) := by rw [← hN.five.2.1, ← hcn5]; exact k6
              have k7 : w4.cell? ⟨g6, cn, none⟩ = some (.slice ad6 (h0) cc6) := by rw [← hbl, ← hcn5]; exact k7
              obtain ⟨pl, hpl⟩ : ∃ pl, pl = h0 := ⟨_, rfl⟩
              obtain ⟨n6, hn6⟩ : ∃ n6, n6 = cn + 1 := ⟨_, rfl⟩
              rw [← hpl] at k7
              rw [← hn6] at k6
              have hpe : ((pl : Int) != (h0 : Int)) = false := by rw [bne_eq_false_iff_eq]; omega
              have hg1 : ((n6 : Int) - (cn : Int) == 1) = true := by simp; omega
              have hgl : ¬ ((n6 : Int) - (cn : Int) < 0) := by omega
              have hgg : ¬ (1 < (n6 : Int) - (cn : Int)) := by omega
              have hgt : cn < n6 := by omega
              have hcv : s4.cnt = (nl : Int) + (h0 : Int) := by
                have e1 := hO5.2.2.2
                have e2 := HG.out.cnt
                have e3 := HE.out.2.2
                have e4 : s4.cnt = s.cnt + ((s.g ++ bytesOf1 (true, R)).length : Nat) := e1
                omega
              have HEr := Lib.hid (err_yes w4 W.heap.size s4 hN.is)
              have HCt := Lib.hid (count_yes w4 W.heap.size s4 hN.is)
              rw [hN.five.1, hN.err] at HEr
              rw [hN.five.1, hcv] at HCt
              rw [hN.err]
              have HQ : Hid (0 = s4.g.length ∧ n6 = s4.said.length ∧ nl + (h0) = s4.said.flatten.length) := Lib.hid ⟨by rw [show s4.g = [] from hO5.1]; rfl, by rw [show s4.said = s.said ++ [s.g ++ bytesOf1 (true, R)] from hO5.2.1, List.length_append, hcn5]; exact hn6, by have := hN.cnt; omega⟩
              have HN := Lib.hid hN
              clear hN hO5 hdue hcv hpl hn6 hcn5 hS4 hI4 hU4 hO4 hM hbb hB4
              go_wp2_with fail
              refine HEr.out.mono ?_
              rintro e w' ⟨rfl, rfl⟩
              go_wp2_with fail
              refine HCt.out.mono ?_
              rintro e w' ⟨rfl, rfl⟩
              go_wp2_with fail
              go_roundw
              case rel => exact ⟨k + 1, s4, 0, n6, nl + (h0), by omega, rfl, rfl, by go_num, by go_num, HQ.out.1, HQ.out.2.1, HQ.out.2.2, HN.out⟩
              case measure => simp [intOf]; omega
            · obtain rfl : h0 = 0 := by omega
              have hnot := step_not (size := size) (fl := true) (R := R) (m := omOf s) (M := omOf s4) HG.out.err hM (fun q => by have h1 : 0 < (s.g ++ bytesOf1 (true, R)).length := q.1; omega)
              have hN := HG.out.not hlt hbb hS4 hI4 hB4 hnot
              have hO5 := om_parts hnot
              obtain ⟨a6, c6, -, k6⟩ := hN.is.said
              have hcn5 : s.said.length = cn := HE.out.2.1.symm
              have hsd5 : s4.said = s.said := hO5.2.1
              have hgg5 : s4.g = s.g ++ bytesOf1 (true, R) := hO5.1
              have hct5 : s4.cnt = s.cnt := hO5.2.2.2
              rw [hN.five.2.1, hsd5, hcn5] at k6
              have hcv : s4.cnt = (nl : Int) := by
                have e2 := HG.out.cnt
                have e3 := HE.out.2.2
                omega
              have HEr := Lib.hid (err_yes w4 W.heap.size s4 hN.is)
              have HCt := Lib.hid (count_yes w4 W.heap.size s4 hN.is)
              rw [hN.five.1, hN.err] at HEr
              rw [hN.five.1, hcv] at HCt
              rw [hN.err]
              have HQ : Hid (0 = s4.g.length ∧ cn = s4.said.length ∧ nl = s4.said.flatten.length) := Lib.hid ⟨by rw [hgg5]; exact hbl.symm, by rw [hsd5]; exact hcn5.symm, by have := hN.cnt; omega⟩
              have HN := Lib.hid hN
              clear hN hO5 hnot hcv hcn5 hsd5 hgg5 hct5 hS4 hI4 hU4 hO4 hM hbb hB4
              go_wp2_with fail
              refine HEr.out.mono ?_
              rintro e w' ⟨rfl, rfl⟩
              go_wp2_with fail
              refine HCt.out.mono ?_
              rintro e w' ⟨rfl, rfl⟩
              go_wp2_with fail
              go_roundw
              case rel => exact ⟨k + 1, s4, 0, cn, nl, by omega, by go_num, rfl, rfl, by go_num, HQ.out.1, HQ.out.2.1, HQ.out.2.2, HN.out⟩
              case measure => simp [intOf]; omega
          | false =>
            obtain ⟨L, hL⟩ : ∃ L, L = R.flatten.length := ⟨_, rfl⟩
            rw [← hL] at htb
            have HL := Lib.hid hL
            clear hL
            obtain ⟨hpl, hpn, -, -⟩ := HR.out.len
            subst hpl
            have HC := Lib.hid (copyRows_any wr (.slice ad R.length pc) R HR.out)
            go_wp2_with fail
            go_loop [12, 13] (fun x y => ∃ j l : Nat, j ≤ R.length ∧ x = .int .i64 l ∧ y = .int .i64 j ∧ l = (R.take j).flatten.length ∧ l ≤ 2147483647) (fun _ y => R.length - (intOf y).toNat)
            case atStart => exact ⟨0, 0, Nat.zero_le _, rfl, rfl, by simp, by omega⟩
            case round =>
              obtain ⟨j, l, hj, rfl, rfl, hl, hlb⟩ := hrel
              have Hl := Lib.hid hl
              clear hl
              by_cases hjl : j < R.length
              · obtain ⟨b3, o3, rfl, hc3⟩ := HR.out.read j hjl
                obtain ⟨ad3, pn3, pc3, c3, s3, -, -⟩ := hc3 j hjl
                have hl3 := s3.len
                have Hs3 := Lib.hid (takeF_len R j hjl)
                have hle3 := takeF_le R (j + 1)
                have Hl3 := Lib.hid hl3
                have hl3b := hl3.2
                have hnew : l + pn3 ≤ 2147483647 := by
                  have h1 := Hl.out; have h2 := Hs3.out; have h3 := hl3.1; have h4 := HL.out
                  omega
                clear hc3 s3 hl3 hle3
                go_wp2_with fail
                go_round
                case rel => exact ⟨j + 1, l + pn3, by omega, by go_num, by go_num, by
                  have h1 := Hl.out; have h2 := Hs3.out; have h3 := Hl3.out.1
                  omega, by omega⟩
                case measure => simp [intOf]; omega
              · obtain rfl : j = R.length := by omega
                obtain rfl : l = L := by rw [Hl.out, HL.out, List.take_length]
                have hRl : R.length ≤ 5864062014805 := by omega
                clear Hl
                go_wp2_with fail
                refine HC.out.mono ?_
                rintro e w5 ⟨v5, vs5, rfl, hRw, hb5⟩
                have hI5 := HG.out.is.below hb5
                have hg5 := hb5.size
                have HWr := Lib.hid (write_yes w5 W.heap.size s hI5 (by omega) _ v5 R (hRw.rbs hRl) (fun j hj => ⟨hj.2, fun hm => by have := (HG.out.is.lt j (.inl hm)).1; omega⟩) (by have := HL.out; omega) hfit.2.2.1 hfit.2.2.2.1)
                rw [HG.out.five.1, HG.out.five.2.2.1, HG.out.five.2.2.2.1, HG.out.five.2.2.2.2] at HWr
                have HB5 := Lib.hid (HG.out.bel.trans (hb5.mono hg))
                clear hRw hI5 hb5 HC c0 c1
                go_wp2_with fail
                refine HWr.out.mono ?_
                rintro e w4 ⟨hE, s4, hS4, hO4, hI4, hU4⟩
                subst hE
                have hM : omOf s4 = if false = true then flushM 0 0 (omOf s) else writeM size 0 0 R (omOf s) := by rw [if_neg (by decide)]; exact hO4
                have hbb : bytesOf1 (r[k]?.getD (false, [])) = bytesOf1 (false, R) := by rw [Hst.out]
                have hbl : (s.g ++ bytesOf1 (false, R)).length = h0 + l := by rw [HE.out.1, HL.out]; simp [bytesOf1]
                have hB4 := hU4.bel _ _ HB5.out (Nat.le_refl _)
                have hee : (writeM size 0 0 R (omOf s)).2.2.1 = s4.err := by rw [← hO4]; rfl
                rw [hee]
                clear HWr HB5
                obtain ⟨b2, o2, hbo2, hc2⟩ := (HS.out.below hB4).read k hlt
                obtain ⟨rfl, rfl⟩ : b = b2 ∧ o = o2 := by simpa using hbo2
                obtain ⟨c02, -⟩ := hc2 k hlt
                rw [Hst.out] at c02
                replace c02 : w4.cell? ⟨b, o + k * 2, none⟩ = some (.bool false) := c02
                clear hc2 hbo2
                by_cases hp : 0 < h0 + l
                · have hpi : (0 : Int) < (h0 : Int) + (l : Int) := by omega
                  by_cases hq : size ≤ (h0 : Int) + (l : Int)
                  · have hdue := step_due (size := size) (fl := false) (R := R) (m := omOf s) (M := omOf s4) HG.out.err hM ⟨by show 0 < (s.g ++ bytesOf1 (false, R)).length; omega, .inr (by show size ≤ (((s.g ++ bytesOf1 (false, R)).length : Nat) : Int); omega)⟩
                    have hN := HG.out.due hlt hbb (by omega) hS4 hI4 hB4 hdue
                    have hO5 := om_parts hdue
                    obtain ⟨g6, c6, k6, ad6, cc6, k7, -⟩ := hN.is.last hO5.2.1
                    have hcn5 : s.said.length = cn := HE.out.2.1.symm
                    have k6 : w4.cell? ⟨W.heap.size, 5, none⟩ = some (.slice (some ⟨g6, 0, none⟩) (cn + 1) c6) := by rw [← hN.five.2.1, ← hcn5]; exact k6
                    have k7 : w4.cell? ⟨g6, cn, none⟩ = some (.slice ad6 (h0 + l) cc6) := by rw [← hbl, ← hcn5]; exact k7
                    obtain ⟨pl, hpl⟩ : ∃ pl, pl = h0 + l := ⟨_, rfl⟩
                    obtain ⟨n6, hn6⟩ : ∃ n6, n6 = cn + 1 := ⟨_, rfl⟩
                    rw [← hpl] at k7
                    rw [← hn6] at k6
                    have hpe : ((pl : Int) != ((h0 : Int) + (l : Int))) = false := by rw [bne_eq_false_iff_eq]; omega
                    have hg1 : ((n6 : Int) - (cn : Int) == 1) = true := by simp; omega
                    have hgl : ¬ ((n6 : Int) - (cn : Int) < 0) := by omega
                    have hgg : ¬ (1 < (n6 : Int) - (cn : Int)) := by omega
                    have hgt : cn < n6 := by omega
                    have hcv : s4.cnt = (nl : Int) + ((h0 : Int) + (l : Int)) := by
                      have e1 := hO5.2.2.2
                      have e2 := HG.out.cnt
                      have e3 := HE.out.2.2
                      have e4 : s4.cnt = s.cnt + ((s.g ++ bytesOf1 (false, R)).length : Nat) := e1
                      omega
                    have HEr := Lib.hid (err_yes w4 W.heap.size s4 hN.is)
                    have HCt := Lib.hid (count_yes w4 W.heap.size s4 hN.is)
                    rw [hN.five.1, hN.err] at HEr
                    rw [hN.five.1, hcv] at HCt
                    rw [hN.err]
                    have HQ : Hid (0 = s4.g.length ∧ n6 = s4.said.length ∧ nl + (h0 + l) = s4.said.flatten.length) := Lib.hid ⟨by rw [show s4.g = [] from hO5.1]; rfl, by rw [show s4.said = s.said ++ [s.g ++ bytesOf1 (false, R)] from hO5.2.1, List.length_append, hcn5]; exact hn6, by have := hN.cnt; omega⟩
                    have HN := Lib.hid hN
                    clear hN hO5 hdue hcv hpl hn6 hcn5 hS4 hI4 hU4 hO4 hM hbb hB4
                    go_wp2_with fail
                    refine HEr.out.mono ?_
                    rintro e w' ⟨rfl, rfl⟩
                    go_wp2_with fail
                    refine HCt.out.mono ?_
                    rintro e w' ⟨rfl, rfl⟩
                    go_wp2_with fail
                    go_roundw
                    case rel => exact ⟨k + 1, s4, 0, n6, nl + (h0 + l), by omega, rfl, rfl, by go_num, by go_num, HQ.out.1, HQ.out.2.1, HQ.out.2.2, HN.out⟩
                    case measure => simp [intOf]; omega
                  · have hnot := step_not (size := size) (fl := false) (R := R) (m := omOf s) (M := omOf s4) HG.out.err hM (fun q => by
                      have h2 : size ≤ (((s.g ++ bytesOf1 (false, R)).length : Nat) : Int) := q.2.resolve_left (by decide)
                      omega)
                    have hN := HG.out.not hlt hbb hS4 hI4 hB4 hnot
                    have hO5 := om_parts hnot
                    obtain ⟨a6, c6, -, k6⟩ := hN.is.said
                    have hcn5 : s.said.length = cn := HE.out.2.1.symm
                    have hsd5 : s4.said = s.said := hO5.2.1
                    have hgg5 : s4.g = s.g ++ bytesOf1 (false, R) := hO5.1
                    have hct5 : s4.cnt = s.cnt := hO5.2.2.2
                    rw [hN.five.2.1, hsd5, hcn5] at k6
                    have hcv : s4.cnt = (nl : Int) := by
                      have e2 := HG.out.cnt
                      have e3 := HE.out.2.2
                      omega
                    have HEr := Lib.hid (err_yes w4 W.heap.size s4 hN.is)
                    have HCt := Lib.hid (count_yes w4 W.heap.size s4 hN.is)
                    rw [hN.five.1, hN.err] at HEr
                    rw [hN.five.1, hcv] at HCt
                    rw [hN.err]
                    have HQ : Hid (h0 + l = s4.g.length ∧ cn = s4.said.length ∧ nl = s4.said.flatten.length) := Lib.hid ⟨by rw [hgg5]; exact hbl.symm, by rw [hsd5]; exact hcn5.symm, by have := hN.cnt; omega⟩
                    have HN := Lib.hid hN
                    clear hN hO5 hnot hcv hcn5 hsd5 hgg5 hct5 hS4 hI4 hU4 hO4 hM hbb hB4
                    go_wp2_with fail
                    refine HEr.out.mono ?_
                    rintro e w' ⟨rfl, rfl⟩
                    go_wp2_with fail
                    refine HCt.out.mono ?_
                    rintro e w' ⟨rfl, rfl⟩
                    go_wp2_with fail
                    go_roundw
                    case rel => exact ⟨k + 1, s4, h0 + l, cn, nl, by omega, by go_num, rfl, rfl, by go_num, HQ.out.1, HQ.out.2.1, HQ.out.2.2, HN.out⟩
                    case measure => simp [intOf]; omega
                · have hpi : ¬ (0 : Int) < (h0 : Int) + (l : Int) := by omega
                  have hnot := step_not (size := size) (fl := false) (R := R) (m := omOf s) (M := omOf s4) HG.out.err hM (fun q => by
                    have h1 : 0 < (s.g ++ bytesOf1 (false, R)).length := q.1
                    omega)
                  have hN := HG.out.not hlt hbb hS4 hI4 hB4 hnot
                  have hO5 := om_parts hnot
                  obtain ⟨a6, c6, -, k6⟩ := hN.is.said
                  have hcn5 : s.said.length = cn := HE.out.2.1.symm
                  have hsd5 : s4.said = s.said := hO5.2.1
                  have hgg5 : s4.g = s.g ++ bytesOf1 (false, R) := hO5.1
                  have hct5 : s4.cnt = s.cnt := hO5.2.2.2
                  rw [hN.five.2.1, hsd5, hcn5] at k6
                  have hcv : s4.cnt = (nl : Int) := by
                    have e2 := HG.out.cnt
                    have e3 := HE.out.2.2
                    omega
                  have HEr := Lib.hid (err_yes w4 W.heap.size s4 hN.is)
                  have HCt := Lib.hid (count_yes w4 W.heap.size s4 hN.is)
                  rw [hN.five.1, hN.err] at HEr
                  rw [hN.five.1, hcv] at HCt
                  rw [hN.err]
                  have HQ : Hid (h0 + l = s4.g.length ∧ cn = s4.said.length ∧ nl = s4.said.flatten.length) := Lib.hid ⟨by rw [hgg5]; exact hbl.symm, by rw [hsd5]; exact hcn5.symm, by have := hN.cnt; omega⟩
                  have HN := Lib.hid hN
                  clear hN hO5 hnot hcv hcn5 hsd5 hgg5 hct5 hS4 hI4 hU4 hO4 hM hbb hB4
                  go_wp2_with fail
                  refine HEr.out.mono ?_
                  rintro e w' ⟨rfl, rfl⟩
                  go_wp2_with fail
                  refine HCt.out.mono ?_
                  rintro e w' ⟨rfl, rfl⟩
                  go_wp2_with fail
                  go_roundw
                  case rel => exact ⟨k + 1, s4, h0 + l, cn, nl, by omega, by go_num, rfl, rfl, by go_num, HQ.out.1, HQ.out.2.1, HQ.out.2.2, HN.out⟩
                  case measure => simp [intOf]; omega
        · -- BEHIND the first loop
          obtain rfl : k = r.length := by omega
          have hfit := hG1.fits hk htl
          have HG := Lib.hid hG1
          have HF1 := Lib.hid (flush_yes wr W.heap.size s hG1.is hg (by omega) hfit.2.2.1 hfit.2.2.2.1)
          rw [hG1.five.1, hG1.five.2.2.2.1, hG1.five.2.2.2.2] at HF1
          clear hG1 hh0 hcn hnl hlt hfit
          go_wp2_with fail
          refine HF1.out.mono ?_
          rintro e w4 ⟨hE, s4, hS4, hO4, hI4, hU4⟩
          subst hE
          have hB4 := hU4.bel _ _ HG.out.bel (Nat.le_refl _)
          obtain ⟨hN4, hg4⟩ := HG.out.flush hS4 hI4 hB4 hO4
          have hee : (flushM 0 0 (omOf s)).2.2.1 = 0 := by rw [← hO4]; exact hN4.err
          rw [hee]
          have hfit4 := hN4.fits (Nat.le_refl _) htl
          have HF4 := Lib.hid (flush_yes w4 W.heap.size s4 hN4.is hB4.size (by omega) hfit4.2.2.1 hfit4.2.2.2.1)
          rw [hN4.five.1, hN4.five.2.2.2.1, hN4.five.2.2.2.2] at HF4
          have HG4 := Lib.hid hN4
          clear hN4 hg4 hS4 hI4 hU4 hO4 hee hB4 HF1 HG hg hfit4
          go_wp2_with fail
          refine HF4.out.mono ?_
          rintro e w5 ⟨hE, s5, hS5, hO5, hI5, hU5⟩
          subst hE
          have hB5 := hU5.bel _ _ HG4.out.bel (Nat.le_refl _)
          obtain ⟨hN5, hg5⟩ := HG4.out.flush hS5 hI5 hB5 hO5
          have hee : (flushM 0 0 (omOf s4)).2.2.1 = 0 := by rw [← hO5]; exact hN5.err
          rw [hee]
          have hfit5 := hN5.fits (Nat.le_refl _) htl
          have hall : s5.said.flatten = allB r r.length := by have := hN5.all; rw [hg5, List.append_nil] at this; exact this
          obtain ⟨sa, sc, hsv, k5⟩ := hN5.is.said
          have hrb := hN5.is.rows (by omega)
          rw [hsv] at hrb
          rw [hN5.five.2.1] at k5
          have hnn := hN5.ne
          have hOS := HS.out.below hB5
          have HB5 := Lib.hid hB5
          clear hN5 hg5 hS5 hI5 hU5 hO5 hee hB5 HF4 HG4 hsv HS
          obtain ⟨S, hSe⟩ : ∃ S, s5.said = S := ⟨_, rfl⟩
          rw [hSe] at hfit5 hall hrb k5 hnn
          obtain ⟨sn, hsn⟩ : ∃ sn, S.length = sn := ⟨_, rfl⟩
          have hb5 : S.length ≤ 2147483647 ∧ S.flatten.length ≤ 2147483647 ∧ sn ≤ 2147483647 ∧ r.length ≤ 2147483647 := ⟨by omega, by omega, by omega, by unfold totL at htl; omega⟩
          rw [hsn] at k5 hrb
          have Hall := Lib.hid hall
          have Hnn := Lib.hid hnn
          have HRB := Lib.hid hrb
          have HOS := Lib.hid hOS
          have Hsn := Lib.hid hsn
          clear hall hnn hrb hOS hsn hSe hfit5
          go_wp2_with fail
          go_loopw [16, 17, 18] (fun x y z w' => ∃ (i call at' q : Nat), i ≤ r.length ∧ x = .int .i64 call ∧ y = .int .i64 at' ∧ z = .int .i64 i ∧ PosI S call at' (allB r i).length ∧ w' = w5.drewN q) (fun _ _ z _ => r.length - (intOf z).toNat)
          case atStart => exact ⟨0, 0, 0, 0, Nat.zero_le _, rfl, rfl, rfl, ⟨by
            by_cases h : S = []
            · exact .inl ⟨h, rfl, rfl⟩
            · exact .inr ⟨List.length_pos_iff.2 h, Nat.zero_le _⟩, by simp [posM, allB]⟩, rfl⟩
          case round =>
            obtain ⟨i, call, at', q, hi, rfl, rfl, rfl, hP, rfl⟩ := hrel
            have hsm := hP.small hb5.1 hb5.2.1
            have HP := Lib.hid hP
            clear hP
            by_cases hil : i < r.length
            · obtain ⟨b, o, rfl, hc⟩ := HOS.out.read i hil
              obtain ⟨c0, ad, pn, pc, c1, hR⟩ := hc i hil
              obtain ⟨fl, hfl⟩ : ∃ fl, (r[i]?.getD (false, [])).1 = fl := ⟨_, rfl⟩
              obtain ⟨R, hRe⟩ : ∃ R, (r[i]?.getD (false, [])).2 = R := ⟨_, rfl⟩
              have hst : r[i]?.getD (false, []) = (fl, R) := by rw [← hfl, ← hRe]
              rw [hfl] at c0
              rw [hRe] at hR
              obtain ⟨hpl, hpn, -, -⟩ := hR.len
              subst hpl
              have HR := Lib.hid hR
              have Hst := Lib.hid hst
              have C0 : Hid (∀ q, (w5.drewN q).cell? ⟨b, o + i * 2, none⟩ = some (.bool fl)) := Lib.hid (fun q => c0)
              have C1 : Hid (∀ q, (w5.drewN q).cell? ⟨b, o + i * 2 + 1, none⟩ = some (.slice ad R.length pc)) := Lib.hid (fun q => c1)
              have K5 : Hid (∀ q, (w5.drewN q).cell? ⟨W.heap.size, 5, none⟩ = some (.slice sa sn sc)) := Lib.hid (fun q => k5)
              clear hc hfl hRe hst hR c0 c1 k5
              have d0 := C0.out q
              have d1 := C1.out q
              generalize hwq : w5.drewN q = wq at d0 d1 ⊢
              have HWq := Lib.hid hwq
              clear hwq
              go_wp2_with fail
              cases fl with
              | true =>
                go_loopw [16, 17, 19] (fun x y z w' => x = .int .i64 call ∧ y = .int .i64 at' ∧ z = .int .i64 0 ∧ w' = wq) (fun _ _ _ _ => 0)
                case atStart => exact ⟨rfl, rfl, rfl, rfl⟩
                case round =>
                  obtain ⟨rfl, rfl, rfl, rfl⟩ := hrel
                  have hPn : PosI S call at' (allB r (i + 1)).length := by rw [allB_step hil Hst.out]; exact HP.out
                  have HPn := Lib.hid hPn
                  clear hPn
                  by_cases hz : 0 < R.length
                  all_goals
                    go_wp2_with fail
                    go_roundw
                    case rel => exact ⟨i + 1, call, at', q, by omega, rfl, rfl, by go_num, HPn.out, HWq.out.symm⟩
                    case measure => simp [intOf]; omega
              | false =>
                go_loopw [16, 17, 19] (fun x y z w' => ∃ (k call at' q : Nat), k ≤ R.length ∧ x = .int .i64 call ∧ y = .int .i64 at' ∧ z = .int .i64 k ∧ PosI S call at' ((allB r i).length + (R.take k).flatten.length) ∧ w' = w5.drewN q) (fun _ _ z _ => R.length - (intOf z).toNat)
                case atStart => exact ⟨0, call, at', q, Nat.zero_le _, rfl, rfl, rfl, by simpa using HP.out, HWq.out.symm⟩
                case round =>
                  clear d0 d1 hsm HP HWq
                  obtain ⟨k, call, at', q, hk, rfl, rfl, rfl, hP, rfl⟩ := hrel
                  have hsm := hP.small hb5.1 hb5.2.1
                  have HP := Lib.hid hP
                  clear hP
                  have d0 := C0.out q
                  have d1 := C1.out q
                  by_cases hkl : k < R.length
                  · obtain ⟨b3, o3, rfl, hc3⟩ := HR.out.read k hkl
                    obtain ⟨ad3, pn3, pc3, c3, s3, -, -⟩ := hc3 k hkl
                    have hl3 := s3.len
                    have Hs3 := Lib.hid s3
                    have d3 : (w5.drewN q).cell? ⟨b3, o3 + k, none⟩ = some (.slice ad3 pn3 pc3) := c3
                    have Hl3 := Lib.hid hl3.1
                    have hpb := hl3.2
                    clear hc3 s3 hl3 c3
                    generalize hwq : w5.drewN q = wq at d0 d1 d3 ⊢
                    have HWq := Lib.hid hwq
                    clear hwq
                    go_wp2_with fail
                    go_loopw [16, 17, 21] (fun x y z w' => ∃ (j call at' q : Nat), j ≤ pn3 ∧ x = .int .i64 call ∧ y = .int .i64 at' ∧ z = .int .i64 j ∧ PosI S call at' ((allB r i).length + (R.take k).flatten.length + j) ∧ w' = w5.drewN q) (fun _ _ z _ => pn3 - (intOf z).toNat)
                    case atStart => exact ⟨0, call, at', q, Nat.zero_le _, rfl, rfl, rfl, HP.out, HWq.out.symm⟩
                    case round =>
                      clear d0 d1 d3 hsm HP HWq
                      obtain ⟨j, call, at', q, hj, rfl, rfl, rfl, hP, rfl⟩ := hrel
                      have hsm := hP.small hb5.1 hb5.2.1
                      have HP := Lib.hid hP
                      clear hP
                      by_cases hjl : j < pn3
                      · have hby := allB_byte (j := j) hil Hst.out hkl (by rw [Hl3.out]; exact hjl)
                        rw [← Hall.out] at hby
                        generalize hwq : w5.drewN q = wq
                        have HWq := Lib.hid hwq
                        clear hwq
                        go_wp2_with fail
                        go_loopw [16, 17] (fun x y w' => ∃ (call at' : Nat), x = .int .i64 call ∧ y = .int .i64 at' ∧ PosI S call at' ((allB r i).length + (R.take k).flatten.length + j) ∧ w' = wq) (fun x _ _ => sn - (intOf x).toNat)
                        case atStart => exact ⟨call, at', rfl, rfl, HP.out, rfl⟩
                        case round =>
                          clear hsm HP
                          obtain ⟨call, at', rfl, rfl, hP, rfl⟩ := hrel
                          have hw := hP.within hby.2
                          obtain ⟨gb, go, rfl, hcS⟩ := HRB.out.read call (by rw [← Hsn.out]; exact hw.1)
                          have hcn : call < sn := by rw [← Hsn.out]; exact hw.1
                          obtain ⟨ad6, ln6, cc6, c6, s6, -, -⟩ := hcS call hcn
                          have hl6 := s6.len
                          have d5 : wr.cell? ⟨W.heap.size, 5, none⟩ = some (.slice (some ⟨gb, go, none⟩) sn sc) := by rw [← HWq.out]; exact K5.out q
                          have d6 : wr.cell? ⟨gb, go + call, none⟩ = some (.slice ad6 ln6 cc6) := by rw [← HWq.out]; exact c6
                          by_cases he : at' = ln6
                          · have heb : ((at' : Int) == (ln6 : Int)) = true := by simp; omega
                            obtain ⟨hPn, hcn2⟩ := hP.next hby.2 (by rw [hl6.1]; exact he)
                            have HPn := Lib.hid hPn
                            have Hby := Lib.hid hby
                            clear hPn hP hby c6 s6 hl6 hcS hw he
                            go_wp2_with fail
                            go_roundw
                            case rel => exact ⟨call + 1, 0, by go_num, rfl, HPn.out, trivial⟩
                            case measure => simp [intOf]; omega
                          · have heb : ((at' : Int) == (ln6 : Int)) = false := by simp; omega
                            have hlt6 : at' < ln6 := by have := hw.2; rw [hl6.1] at this; omega
                            obtain ⟨g7, o7, rfl, hb7⟩ := s6.read at' hlt6
                            obtain ⟨g8, o8, rfl, hb8⟩ := Hs3.out.read j hjl
                            have d7 : wr.cell? ⟨g7, o7 + at', none⟩ = some (.int .u8 ((S[call]?.getD [])[at']?.getD 0)) := by rw [← HWq.out]; exact hb7 at' hlt6
                            have d8 : wr.cell? ⟨g8, o8 + j, none⟩ = some (.int .u8 ((R[k]?.getD [])[j]?.getD 0)) := by rw [← HWq.out]; exact hb8 j hjl
                            rw [← hby.1, ← hP.byte hw.1 (by rw [hl6.1]; exact hlt6)] at d8
                            have HPn := Lib.hid (hP.step hw.1 (by rw [hl6.1]; exact hlt6))
                            generalize (S[call]?.getD [])[at']?.getD 0 = x at d7 d8
                            have hxx : (x != x) = false := by simp
                            have hce : ((call : Int) == (sn : Int)) = false := by rw [beq_eq_false_iff_ne]; omega
                            have hsb : call ≤ 2147483647 ∧ at' ≤ 140737488351232 ∧ ln6 ≤ 140737488351232 := by have := hl6.2; exact ⟨by omega, by omega, by omega⟩
                            have i1 : (at' : Int) < (ln6 : Int) := by omega
                            have i2 : (j : Int) < (pn3 : Int) := by omega
                            have i3 : (call : Int) < (sn : Int) := by omega
                            clear hP hby c6 s6 hl6 hcS hw he hb7 hb8
                            go_wp2_with fail
                            go_quiet (fail)
                            clear d5 d6 d7 d8
                            go_wp2_with fail
                            go_roundw
                            case rel => exact ⟨j + 1, call, at' + 1, _, by omega, by go_num, by go_num, by go_num, HPn.out, by rw [← HWq.out, World.drewN_drewN]⟩
                            case measure => simp [intOf]; omega
                      · obtain rfl : j = pn3 := by omega
                        have hPn : PosI S call at' ((allB r i).length + (R.take (k + 1)).flatten.length) := by
                          rw [takeF_len R k hkl, Hl3.out, ← Nat.add_assoc]; exact HP.out
                        have HPn := Lib.hid hPn
                        clear hPn
                        go_wp2_with fail
                        go_roundw
                        case rel => exact ⟨k + 1, call, at', _, by omega, rfl, rfl, by go_num, HPn.out, rfl⟩
                        case measure => simp [intOf]; omega
                  · obtain rfl : k = R.length := by omega
                    have hPn : PosI S call at' (allB r (i + 1)).length := by
                      rw [allB_step hil Hst.out]; have := HP.out; rwa [List.take_length] at this
                    have HPn := Lib.hid hPn
                    clear hPn
                    go_wp2_with fail
                    go_roundw
                    case rel => exact ⟨i + 1, call, at', _, by omega, rfl, rfl, by go_num, HPn.out, rfl⟩
                    case measure => simp [intOf]; omega
            · obtain rfl : i = r.length := by omega
              have HWk := Lib.hid (fun w => works_any w)
              have hfin : 0 < sn → call + 1 = sn ∧ at' = (S[call]?.getD []).length ∧ call < sn := fun h => by
                have hp : PosI S call at' S.flatten.length := by rw [Hall.out]; exact HP.out
                rcases hp.1 with ⟨e, -, -⟩ | ⟨e1, e2⟩
                · rw [← Hsn.out, e] at h; simp at h
                · have := pos_end S call at' e1 e2 Hnn.out hp.2
                  rw [Hsn.out] at this e1
                  exact ⟨this.1, this.2, e1⟩
              clear HP hsm hil
              by_cases h0 : 0 < sn
              · obtain ⟨q1, q2, q3⟩ := hfin h0
                obtain ⟨gb, go, rfl, hcS⟩ := HRB.out.read call q3
                obtain ⟨ad6, ln6, cc6, c6, s6, -, -⟩ := hcS call q3
                have hl6 := s6.len
                obtain rfl : at' = ln6 := by rw [q2, hl6.1]
                obtain rfl : sn = call + 1 := by omega
                have hfb := hl6.2
                clear q1 q2 hl6 s6 hcS hfin
                have d5 : (w5.drewN q).cell? ⟨W.heap.size, 5, none⟩ = some (.slice (some ⟨gb, go, none⟩) (call + 1) sc) := k5
                have d6 : (w5.drewN q).cell? ⟨gb, go + call, none⟩ = some (.slice ad6 at' cc6) := c6
                have hg0 : decide ((0 : Int) < (call : Int) + 1) = true := by rw [decide_eq_true_eq]; omega
                have hg1 : ¬ ((call : Int) < (call : Int)) := by omega
                have hg2 : ¬ ((at' : Int) < (at' : Int)) := by omega
                have i3 : (call : Int) < (call : Int) + 1 := by omega
                have i4 : (0 : Int) ≤ (call : Int) := by omega
                have hcb : (call : Int) ≤ 2147483646 := by omega
                have HBq := Lib.hid (show Below W.heap.size W (w5.drewN q) from HB5.out.trans (below_drewN (Below.refl _ _) q))
                clear c6 k5
                generalize w5.drewN q = wq at d5 d6 HBq ⊢
                go_wp2_with fail
                go_quiet (fail)
                go_wp2_with fail
                refine (HWk.out _).mono ?_
                rintro e w' ⟨rfl, hb⟩
                have h1 : Below W.heap.size W (wq.drewN nq) := below_drewN HBq.out nq
                have HP : Hid (Below W.heap.size W w') := Lib.hid (h1.trans (hb.mono h1.size))
                clear h1 hb
                go_wp2_with fail
                go_ret
                exact ⟨rfl, HP.out⟩
              · obtain rfl : sn = 0 := by omega
                have d5 : (w5.drewN q).cell? ⟨W.heap.size, 5, none⟩ = some (.slice sa 0 sc) := k5
                have HBq := Lib.hid (show Below W.heap.size W (w5.drewN q) from HB5.out.trans (below_drewN (Below.refl _ _) q))
                clear k5 hfin h0
                generalize w5.drewN q = wq at d5 HBq ⊢
                have hg0 : decide ((0 : Int) < 0) = false := rfl
                go_wp2_with fail
                go_quiet (fail)
                go_wp2_with fail
                refine (HWk.out _).mono ?_
                rintro e w' ⟨rfl, hb⟩
                have h1 : Below W.heap.size W (wq.drewN nq) := below_drewN HBq.out nq
                have HP : Hid (Below W.heap.size W w') := Lib.hid (h1.trans (hb.mono h1.size))
                clear h1 hb
                go_wp2_with fail
                go_ret
                exact ⟨rfl, HP.out⟩
end Go.Proofs.Ytbdgolbejoheiaa
