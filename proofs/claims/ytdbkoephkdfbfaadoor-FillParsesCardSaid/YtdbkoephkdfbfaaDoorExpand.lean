/-
  fill.Expand, fill.Long, galleyref16.Long.
-/
import Derived.Test.YtdbkoephkdfbfaaDoorKind
import Derived.Test.YtdbkoephkdfbfaaDoorTaken
import Derived.Test.YtdbkoephkdfbfaaDoorApp
import Derived.Test.YtdbkoephkdfbfaaDoorFillM2
import Derived.Deep.DeepCutAuto
namespace Go.Proofs.YtdbkoephkdfbfaaDoor
open Go.RowKit
attribute [local go_sem] as_ww as_dw as_fw as_bw as_dd as_fd as_bd as_ff as_bf

/-- What Expand answers: a list of the call's own. -/
def ExpandPost (w : World) (l : List Int) (e : Ending) (w' : World) : Prop := ∃ v, e = .returned v ∧ OwnB w' w.heap.size v l ∧ Below w.heap.size w w'

theorem isB_taken (g : Int) (text : List Int) (l : List Sp) (h : IsB text) : IsB (takenL g text l) := by
  unfold takenL
  split
  · exact isB_cut _ _ _ h
  · exact isB_nil

set_option maxHeartbeats 2000000 in
theorem expand_any (w : World) (ap : Option Addr) (np cp : Nat) (p : List Pc) (sp : PS w (.slice ap np cp) p) (ad : Option Addr) (nt ct : Nat) (text : List Int) (st : SB w (.slice ad nt ct) text) (hN : ad = none → ct = 0) (hct : nt ≤ ct)
    (al : Option Addr) (nl cl : Nat) (l : List Sp) (sl : NS w (.slice al nl cl) l) (hsum : sumL p l ≤ 140737488351232) :
    Calls Tryd.prog 91 #[.slice ap np cp, .slice ad nt ct, .slice al nl cl] w (ExpandPost w (expandL p text l)) := by
  obtain ⟨hpl, hpn, _, _⟩ := sp.len
  have HPL := Lib.hid hpl
  have HN := Lib.hid hN
  clear hpl hN
  go_enter Tryd.func91, Tryd.ntmps91
  go_wp2
  go_loopw [7, 15] (fun v i wr => ∃ k : Nat, k ≤ np ∧ i = .int .i64 k ∧ OwnB wr w.heap.size v (expandL (p.take k) text l) ∧ Below w.heap.size w wr) (fun _ i _ => np - (intOf i).toNat)
  case atStart => exact ⟨0, Nat.zero_le _, rfl, OwnB.nil _ _, Below.refl _ _⟩
  case round =>
    obtain ⟨k, hk, rfl, ho, rb⟩ := hrel
    have hbs := rb.size
    have hle := expand_len (p.take k) text l
    have hsk := sum_take_le p k l
    by_cases hlt : k < np
    · have hkp : k < p.length := by rw [HPL.out]; exact hlt
      have sp1 := sp.below rb
      obtain ⟨b, o, rfl, hc⟩ := sp1.read k hlt
      obtain ⟨hc1, ad2, n2, c2, hc2, s2, hn2, hN2⟩ := hc k hlt
      have hi := sp1.1 k
      have hes := expand_snoc p (0, []) k hkp text l
      have hss := sum_snoc p (0, []) k hkp l
      have hs1 := sum_take_le p (k + 1) l
      have htl := taken_len (p[k]?.getD (0, [])).1 text l
      have htB := isB_taken (p[k]?.getD (0, [])).1 text l st.1
      clear hc sp1
      generalize p[k]?.getD (0, []) = z at hc1 hc2 s2 hi hes hss htl htB
      obtain ⟨g, tx⟩ := z
      simp only at hc1 hc2 s2 hi htl htB
      generalize hE : expandL (p.take k) text l = ex at ho hle hes
      have HES := Lib.hid hes
      have HI := Lib.hid hi
      have HSS := Lib.hid hss
      have htx := s2.len.1
      have hb2 := rb.alloc hbs (.cells #[.int .i64 g, .slice ad2 n2 c2] 122)
      have HK := Lib.hid (kind_any (wr.alloc (.cells #[.int .i64 g, .slice ad2 n2 c2] 122)) g hi ad2 n2 c2)
      have ho2 := ho.below ((Below.refl _ wr).alloc (Nat.le_refl _) (.cells #[.int .i64 g, .slice ad2 n2 c2] 122))
      have s3 := s2.alloc (.cells #[.int .i64 g, .slice ad2 n2 c2] 122)
      have HTX := Lib.hid htx
      clear hE hes hi hss htx ho s2
      go_wp2_with fail
      refine HK.out.mono ?_
      rintro e w1 ⟨rfl, hb3⟩
      have rb3 := hb2.trans (hb3.mono hb2.size)
      have hs3 := rb3.size
      have ho3 := ho2.below hb3
      have s4 := s3.below hb3
      clear HK hb3 hb2 ho2 s3 hc1 hc2
      unfold kindV
      by_cases h1 : g = -1
      · subst h1
        have HE : Hid (expandL (p.take (k + 1)) text l = ex ++ tx) := by
          have := HES.out
          unfold pieceOf at this
          rw [if_pos rfl] at this
          exact Lib.hid this
        have hsz : ex.length + n2 ≤ 140737488351232 := by
          have := HSS.out
          unfold pieceSize at this
          rw [if_pos rfl] at this
          simp only at this
          have := HTX.out
          omega
        rw [if_pos rfl]
        clear HES HSS
        go_wp2_with (at_builtin; refine append_sb2 rfl (.tmp 24) (.tmp 25) 129 5 rfl Tryd.underlying129 w.heap.size _ ex tx ad2 n2 c2 rfl ho3 rfl hN2 s4 (by omega) hs3 ?_)
        intro v' w4 ho4 hA
        have hb4 := hA.bel _ _ rb3 (Nat.le_refl _)
        rw [← HE.out] at ho4
        clear ho3 hA s4
        go_wp2_with fail
        go_roundw
        case rel => exact ⟨k + 1, by omega, by go_num, ho4, hb4⟩
        case measure => simp [intOf]; omega
      · rw [if_neg h1]
        have HE : Hid (expandL (p.take (k + 1)) text l = ex ++ takenL g text l) := by
          have := HES.out
          unfold pieceOf at this
          rw [if_neg h1] at this
          exact Lib.hid this
        have hsz : ex.length + (takenL g text l).length ≤ 140737488351232 := by
          have := HSS.out
          unfold pieceSize at this
          rw [if_neg h1] at this
          simp only at this
          omega
        have hgi : -9223372036854775808 ≤ g ∧ g ≤ 9223372036854775807 := HI.out
        clear HES HSS s4
        by_cases h2 : g < -1
        · rw [if_pos h2]
          have HE2 : Hid (expandL (p.take (k + 1)) text l = ex) := by
            rw [HE.out]
            unfold takenL
            rw [if_neg (by omega)]
            exact Lib.hid (List.append_nil _)
          rw [← HE2.out] at ho3
          clear HE htl htB hsz
          go_wp2_with fail
          go_roundw
          case rel => exact ⟨k + 1, by omega, by go_num, ho3, rb3⟩
          case measure => simp [intOf]; omega
        · rw [if_neg h2]
          have HT := Lib.hid (taken_any w1 g (by omega) hgi.2 ad nt ct text (st.below rb3) HN.out hct al nl cl l (sl.below rb3))
          generalize takenL g text l = tk at HE HT hsz htB htl
          clear htl
          have HTB := Lib.hid htB
          clear htB
          by_cases h3 : g ≤ 9
          · rw [if_pos h3]
            have hw : IntKind.i64.wrap g = g := IntWalk.i64_in _ hgi
            go_wp2_with fail
            refine HT.out.mono ?_
            rintro e w5 ⟨ad5, n5, c5, rfl, s5, hn5, hN5, hb5⟩
            have ho5 := ho3.below hb5
            have rb5 := rb3.trans (hb5.mono hs3)
            have hs5 := rb5.size
            have hl5 := s5.len.1
            have hsz5 : ex.length + n5 ≤ 140737488351232 := by omega
            clear HT hl5 hsz hb5 ho3
            go_wp2_with (at_builtin; refine append_sbp rfl (.tmp 30) (.tmp 35) rfl w.heap.size _ ex tk ad5 n5 c5 rfl ho5 rfl hN5 s5 (by omega) hs5 ?_)
            intro v' w4 ho4 hA
            have hb4 := hA.bel _ _ rb5 (Nat.le_refl _)
            rw [← HE.out] at ho4
            clear ho5 hA s5
            go_wp2_with fail
            go_roundw
            case rel => exact ⟨k + 1, by omega, by go_num, ho4, hb4⟩
            case measure => simp [intOf]; omega
          · rw [if_neg h3]
            go_wp2_with fail
            refine HT.out.mono ?_
            rintro e w5 ⟨ad5, n5, c5, rfl, s5, hn5, hN5, hb5⟩
            have ho5 := ho3.below hb5
            have rb5 := rb3.trans (hb5.mono hs3)
            have hs5 := rb5.size
            have hl5 := s5.len.1
            have hsz5 : ex.length + n5 ≤ 140737488351232 := by omega
            clear HT hl5 hsz hb5 ho3
            go_wp2_with (at_builtin; refine append_sbp rfl (.tmp 40) (.tmp 44) rfl w.heap.size _ ex tk ad5 n5 c5 rfl ho5 rfl hN5 s5 (by omega) hs5 ?_)
            intro v' w4 ho4 hA
            have hb4 := hA.bel _ _ rb5 (Nat.le_refl _)
            rw [← HE.out] at ho4
            clear ho5 hA s5
            go_wp2_with fail
            go_roundw
            case rel => exact ⟨k + 1, by omega, by go_num, ho4, hb4⟩
            case measure => simp [intOf]; omega
    · have e : p.take k = p := List.take_of_length_le (by rw [HPL.out]; omega)
      rw [e] at ho
      clear e hle hsk
      go_wp2_with fail
      go_ret
      exact ⟨_, rfl, ho, rb⟩
end Go.Proofs.YtdbkoephkdfbfaaDoor
