/-
  galleyref16: Taken, Expand.
-/
import Derived.Test.YtakimaceohfpcaaDoorExpand
namespace Go.Proofs.YtakimaceohfpcaaDoor
open Go.RowKit

set_option maxHeartbeats 1000000 in
set_option maxRecDepth 100000 in
theorem rtaken_any (w : World) (g : Int) (hg : IsI g) (ad : Option Addr) (nt ct : Nat) (text : List Int) (st : SB w (.slice ad nt ct) text) (hN : ad = none → ct = 0) (hct : nt ≤ ct)
    (al : Option Addr) (nl cl : Nat) (l : List Sp) (sl : NS w (.slice al nl cl) l) :
    Calls Tryd.prog 109 #[.int .i64 g, .slice ad nt ct, .slice al nl cl] w (TakenPost w (takenL g text l)) := by
  obtain ⟨hll, hln, _⟩ := sl.len
  obtain ⟨htl, htn⟩ := st.len
  by_cases hneg : g < 0
  · have ht : takenL g text l = [] := by unfold takenL; rw [if_neg (by omega)]
    rw [ht]
    have HI := Lib.hid hg
    have HLL := Lib.hid hll
    clear hll htl hN sl st ht hg
    go_enter Tryd.func109, Tryd.ntmps109
    go_wp2_with fail
    go_ret
    exact taken_nil rfl rfl (Below.refl _ _)
  obtain ⟨k, rfl⟩ : ∃ k : Nat, g = k := ⟨g.toNat, by omega⟩
  have hg1 : (k : Int) ≤ 9223372036854775807 := hg.2
  clear hg hneg
  by_cases hk : k < nl
  · obtain ⟨b, o, rfl, hc⟩ := sl.read k hk
    obtain ⟨hc1, hc2⟩ := hc k hk
    obtain ⟨hi1, hi2⟩ := sl.1 k
    have ht : takenL k text l = if 0 ≤ (k : Int) ∧ 0 ≤ (l[k]?.getD (-1, -1)).1 ∧ (l[k]?.getD (-1, -1)).1 ≤ (l[k]?.getD (-1, -1)).2 ∧ (l[k]?.getD (-1, -1)).2 ≤ text.length then
      (text.drop (l[k]?.getD (-1, -1)).1.toNat).take ((l[k]?.getD (-1, -1)).2 - (l[k]?.getD (-1, -1)).1).toNat else [] := rfl
    rw [ht, htl]
    clear hc ht
    generalize l[k]?.getD (-1, -1) = s at hc1 hc2 hi1 hi2 ⊢
    obtain ⟨f, t⟩ := s
    simp only at hc1 hc2 hi1 hi2 ⊢
    unfold IsI at hi1 hi2
    have HLL := Lib.hid hll
    have HTL := Lib.hid htl
    have HN := Lib.hid hN
    clear hll htl hN sl
    by_cases h1 : f < 0
    · rw [if_neg (by omega)]
      go_enter Tryd.func109, Tryd.ntmps109
      go_wp2_with fail
      go_ret
      exact taken_nil rfl rfl ((Below.refl _ _).alloc (Nat.le_refl _) _)
    · by_cases h2 : t < f
      · rw [if_neg (by omega)]
        go_enter Tryd.func109, Tryd.ntmps109
        go_wp2_with fail
        go_ret
        exact taken_nil rfl rfl ((Below.refl _ _).alloc (Nat.le_refl _) _)
      · by_cases h3 : (nt : Int) < t
        · rw [if_neg (by omega)]
          go_enter Tryd.func109, Tryd.ntmps109
          go_wp2_with fail
          go_ret
          exact taken_nil rfl rfl ((Below.refl _ _).alloc (Nat.le_refl _) _)
        · rw [if_pos (by omega)]
          obtain ⟨x, rfl⟩ : ∃ x : Nat, f = x := ⟨f.toNat, by omega⟩
          obtain ⟨y, rfl⟩ : ∃ y : Nat, t = y := ⟨t.toNat, by omega⟩
          obtain ⟨ad', hrun, hsb, _, hsl⟩ := (st.below ((Below.refl _ _).alloc (Nat.le_refl _) (.cells #[.int .i64 x, .int .i64 y] 135))).cut x y (by omega) (by omega) hct
          have hnn := Lib.hid (cut_none hsl HN.out)
          have e1 : (x : Int).toNat = x := rfl
          have e2 : ((y : Int) - (x : Int)).toNat = y - x := by omega
          rw [e1, e2]
          have HS := Lib.hid hsb
          have hle : y - x ≤ ct - x := by omega
          clear hsl hsb e1 e2 st
          have hrun := hrun (w.alloc (.cells #[.int .i64 x, .int .i64 y] 135))
          go_enter Tryd.func109, Tryd.ntmps109
          go_wp2_with fail
          go_ret
          exact ⟨ad', _, _, rfl, HS.out, hle, hnn.out, (Below.refl _ _).alloc (Nat.le_refl _) _⟩
  · have ht : takenL k text l = [] := by
      unfold takenL
      rw [show ((k : Int).toNat) = k from rfl, List.getElem?_eq_none (by omega)]
      simp
    rw [ht]
    clear ht
    have HLL := Lib.hid hll
    clear hll htl hN sl st
    go_enter Tryd.func109, Tryd.ntmps109
    go_wp2_with fail
    go_ret
    exact taken_nil rfl rfl (Below.refl _ _)

set_option maxHeartbeats 1000000 in
theorem rexpand_any (w : World) (ap : Option Addr) (np cp : Nat) (p : List Pc) (sp : PS w (.slice ap np cp) p) (ad : Option Addr) (nt ct : Nat) (text : List Int) (st : SB w (.slice ad nt ct) text) (hN : ad = none → ct = 0) (hct : nt ≤ ct)
    (al : Option Addr) (nl cl : Nat) (l : List Sp) (sl : NS w (.slice al nl cl) l) (hsum : sumL p l ≤ 140737488351232) :
    Calls Tryd.prog 61 #[.slice ap np cp, .slice ad nt ct, .slice al nl cl] w (ExpandPost w (expandL p text l)) := by
  obtain ⟨hpl, hpn, _, _⟩ := sp.len
  have HPL := Lib.hid hpl
  have HN := Lib.hid hN
  clear hpl hN
  go_enter Tryd.func61, Tryd.ntmps61
  go_wp2_with fail
  go_loopw [7, 8] (fun v i wr => ∃ k : Nat, k ≤ np ∧ i = .int .i64 k ∧ OwnB wr w.heap.size v (expandL (p.take k) text l) ∧ Below w.heap.size w wr) (fun _ i _ => np - (intOf i).toNat)
  case atStart => exact ⟨0, Nat.zero_le _, rfl, OwnB.nil _ _, Below.refl _ _⟩
  case round =>
    obtain ⟨k, hk, rfl, ho, rb⟩ := hrel
    have hbs := rb.size
    have hle := expand_len (p.take k) text l
    have hsk := sum_take_le p k l
    by_cases hlt : k < np
    · have hkp : k < p.length := by rw [HPL.out]; exact hlt
      have sp1 := sp.below rb
      obtain ⟨b, o, rfl, hc⟩ := sp1.read k hlt
      obtain ⟨hc1, ad2, n2, c2, hc2, s2, hn2, hN2⟩ := hc k hlt
      have hi := sp1.1 k
      have hes := expand_snoc p (0, []) k hkp text l
      have hss := sum_snoc p (0, []) k hkp l
      have hs1 := sum_take_le p (k + 1) l
      have htl := taken_len (p[k]?.getD (0, [])).1 text l
      have htB := isB_taken (p[k]?.getD (0, [])).1 text l st.1
      clear hc sp1
      generalize p[k]?.getD (0, []) = z at hc1 hc2 s2 hi hes hss htl htB
      obtain ⟨g, tx⟩ := z
      simp only at hc1 hc2 s2 hi htl htB
      generalize hE : expandL (p.take k) text l = ex at ho hle hes
      have HES := Lib.hid hes
      have HI := Lib.hid hi
      have HSS := Lib.hid hss
      have htx := s2.len.1
      have HTX := Lib.hid htx
      clear hE hes hi hss htx
      by_cases h1 : g = -1
      · subst h1
        have HE : Hid (expandL (p.take (k + 1)) text l = ex ++ tx) := by
          have := HES.out
          unfold pieceOf at this
          rw [if_pos rfl] at this
          exact Lib.hid this
        have hsz : ex.length + n2 ≤ 140737488351232 := by
          have := HSS.out
          unfold pieceSize at this
          rw [if_pos rfl] at this
          simp only at this
          have := HTX.out
          omega
        clear HES HSS htB htl
        go_wp2_with (at_builtin; refine append_sb2 rfl (.tmp 21) (.tmp 26) 48 5 rfl Tryd.underlying48 w.heap.size _ ex tx ad2 n2 c2 rfl ho rfl hN2 s2 (by omega) hbs ?_)
        intro v' w4 ho4 hA
        have hb4 := hA.bel _ _ rb (Nat.le_refl _)
        rw [← HE.out] at ho4
        clear ho hA s2 hc1 hc2
        go_wp2_with fail
        go_roundw
        case rel => exact ⟨k + 1, by omega, by go_num, ho4, hb4⟩
        case measure => simp [intOf]; omega
      · have HE : Hid (expandL (p.take (k + 1)) text l = ex ++ takenL g text l) := by
          have := HES.out
          unfold pieceOf at this
          rw [if_neg h1] at this
          exact Lib.hid this
        have hsz : ex.length + (takenL g text l).length ≤ 140737488351232 := by
          have := HSS.out
          unfold pieceSize at this
          rw [if_neg h1] at this
          simp only at this
          omega
        have hg1 : (g == -1) = false := by simpa using h1
        have HT := Lib.hid (rtaken_any wr g HI.out ad nt ct text (st.below rb) HN.out hct al nl cl l (sl.below rb))
        clear HES HSS s2 h1
        generalize takenL g text l = tk at HE HT hsz htB htl
        have HTB := Lib.hid htB
        clear htB htl
        go_wp2_with fail
        refine HT.out.mono ?_
        rintro e w5 ⟨ad5, n5, c5, rfl, s5, hn5, hN5, hb5⟩
        have ho5 := ho.below hb5
        have rb5 := rb.trans (hb5.mono hbs)
        have hs5 := rb5.size
        have hl5 := s5.len
        clear HT hb5 hc1 hc2 ho
        go_wp2_with (at_builtin; refine append_sb2 rfl (.tmp 28) (.tmp 36) 48 5 rfl Tryd.underlying48 w.heap.size _ ex tk ad5 n5 c5 rfl ho5 rfl hN5 s5 (by omega) hs5 ?_)
        intro v' w4 ho4 hA
        have hb4 := hA.bel _ _ rb5 (Nat.le_refl _)
        rw [← HE.out] at ho4
        clear ho5 hA s5
        go_wp2_with fail
        go_roundw
        case rel => exact ⟨k + 1, by omega, by go_num, ho4, hb4⟩
        case measure => simp [intOf]; omega
    · obtain rfl : k = np := by omega
      rw [show p.take k = p by rw [← HPL.out]; exact List.take_length] at ho
      go_wp2_with fail
      go_ret
      exact ⟨_, rfl, ho, rb⟩
end Go.Proofs.YtakimaceohfpcaaDoor
