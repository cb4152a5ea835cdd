/-
  fill.Long and galleyref16.Long: how many bytes come out, at most so many.
-/
import Derived.Test.YtakimaceohfpcaaDoorExpand
namespace Go.Proofs.YtakimaceohfpcaaDoor
open Go.RowKit
attribute [local go_sem] as_ww as_dw as_fw as_bw as_dd as_fd as_bd as_ff as_bf

theorem capN_le (n : Nat) : capN n ≤ 1099511627776 := by unfold capN; omega
theorem capN_add (a b : Nat) : capN (a + b) = min (capN a + capN b) 1099511627776 := by unfold capN; omega

set_option maxHeartbeats 2000000 in
theorem flong_any (w : World) (ap : Option Addr) (np cp : Nat) (p : List Pc) (sp : PS w (.slice ap np cp) p) (al : Option Addr) (nl cl : Nat) (l : List Sp) (sl : NS w (.slice al nl cl) l) :
    Calls Tryd.prog 58 #[.slice ap np cp, .slice al nl cl] w fun e w' => e = .returned (.int .i64 (capN (sumL p l) : Nat)) ∧ Below w.heap.size w w' := by
  obtain ⟨hpl, hpn, _, _⟩ := sp.len
  have HPL := Lib.hid hpl
  clear hpl
  go_enter Tryd.func58, Tryd.ntmps58
  go_wp2
  go_loopw [5, 13] (fun v i wr => ∃ k : Nat, k ≤ np ∧ i = .int .i64 k ∧ v = .int .i64 (capN (sumL (p.take k) l) : Nat) ∧ Below w.heap.size w wr) (fun _ i _ => np - (intOf i).toNat)
  case atStart => exact ⟨0, Nat.zero_le _, rfl, rfl, Below.refl _ _⟩
  case round =>
    obtain ⟨k, hk, rfl, rfl, rb⟩ := hrel
    have hbs := rb.size
    have hA := capN_le (sumL (p.take k) l)
    by_cases hlt : k < np
    · have hkp : k < p.length := by rw [HPL.out]; exact hlt
      have sp1 := sp.below rb
      obtain ⟨b, o, rfl, hc⟩ := sp1.read k hlt
      obtain ⟨hc1, ad2, n2, c2, hc2, s2, hn2, hN2⟩ := hc k hlt
      have hi := sp1.1 k
      have hss := sum_snoc p (0, []) k hkp l
      clear hc sp1
      generalize p[k]?.getD (0, []) = z at hc1 hc2 s2 hi hss
      obtain ⟨g, tx⟩ := z
      simp only at hc1 hc2 s2 hi
      have hadd : capN (sumL (p.take (k + 1)) l) = min (capN (sumL (p.take k) l) + capN (pieceSize l (g, tx))) 1099511627776 := by rw [hss]; exact capN_add _ _
      have HAD := Lib.hid hadd
      clear hadd hss
      generalize capN (sumL (p.take k) l) = A at hA HAD
      have HI := Lib.hid hi
      have htx := s2.len.1
      have htn := s2.len.2
      have hb2 := rb.alloc hbs (.cells #[.int .i64 g, .slice ad2 n2 c2] 138)
      have HK := Lib.hid (kind_any (wr.alloc (.cells #[.int .i64 g, .slice ad2 n2 c2] 138)) g hi ad2 n2 c2)
      have HTX := Lib.hid htx
      clear hi htx s2
      go_wp2_with fail
      refine HK.out.mono ?_
      rintro e w1 ⟨rfl, hb3⟩
      have rb3 := hb2.trans (hb3.mono hb2.size)
      have hs3 := rb3.size
      clear HK hb3 hb2 hc1 hc2
      unfold kindV
      by_cases h1 : g = -1
      · subst h1
        have HE : Hid (capN (sumL (p.take (k + 1)) l) = min (A + capN n2) 1099511627776) := by
          have := HAD.out
          unfold pieceSize at this
          rw [if_pos rfl] at this
          simp only at this
          rw [HTX.out] at this
          exact Lib.hid this
        rw [if_pos rfl]
        clear HAD
        have hcn : ((n2 : Int) ≤ 1099511627776 → (capN n2 : Int) = n2) ∧ (¬ (n2 : Int) ≤ 1099511627776 → (capN n2 : Int) = 1099511627776) := by unfold capN; omega
        generalize capN n2 = q at hcn HE
        by_cases h2 : (n2 : Int) ≤ 1099511627776
        · have hq := Lib.hid (hcn.1 h2)
          clear hcn
          by_cases h3 : (A : Int) + n2 ≤ 1099511627776
          · go_wp2_with fail
            go_roundw
            case rel => exact ⟨k + 1, by omega, by go_num, by have := hq.out; rw [HE.out]; congr 1; omega, rb3⟩
            case measure => simp [intOf]; omega
          · go_wp2_with fail
            go_roundw
            case rel => exact ⟨k + 1, by omega, by go_num, by have := hq.out; rw [HE.out]; congr 1; omega, rb3⟩
            case measure => simp [intOf]; omega
        · have hq := Lib.hid (hcn.2 h2)
          clear hcn
          by_cases h3 : (A : Int) + 1099511627776 ≤ 1099511627776
          · go_wp2_with fail
            go_roundw
            case rel => exact ⟨k + 1, by omega, by go_num, by have := hq.out; rw [HE.out]; congr 1; omega, rb3⟩
            case measure => simp [intOf]; omega
          · go_wp2_with fail
            go_roundw
            case rel => exact ⟨k + 1, by omega, by go_num, by have := hq.out; rw [HE.out]; congr 1; omega, rb3⟩
            case measure => simp [intOf]; omega
      · rw [if_neg h1]
        have HE : Hid (capN (sumL (p.take (k + 1)) l) = min (A + capN (sizeL l g)) 1099511627776) := by
          have := HAD.out
          unfold pieceSize at this
          rw [if_neg h1] at this
          exact Lib.hid this
        have hgi : -9223372036854775808 ≤ g ∧ g ≤ 9223372036854775807 := HI.out
        clear HAD
        by_cases h2 : g < -1
        · rw [if_pos h2]
          have hz : sizeL l g = 0 := by unfold sizeL; rw [if_neg (by omega)]
          have HE2 : Hid (capN (sumL (p.take (k + 1)) l) = A) := by
            rw [HE.out, hz]
            show Hid (min (A + 0) 1099511627776 = A)
            exact Lib.hid (by omega)
          clear HE hz
          go_wp2_with fail
          go_roundw
          case rel => exact ⟨k + 1, by omega, by go_num, by rw [HE2.out], rb3⟩
          case measure => simp [intOf]; omega
        · rw [if_neg h2]
          have HT := Lib.hid (size_any w1 g (by omega) hgi.2 al nl cl l (sl.below rb3))
          have hq := capN_le (sizeL l g)
          generalize capN (sizeL l g) = q at HE HT hq
          by_cases h3 : g ≤ 9
          · rw [if_pos h3]
            have hw : IntKind.i64.wrap g = g := IntWalk.i64_in _ hgi
            by_cases h4 : (A : Int) + q ≤ 1099511627776
            · go_wp2_with fail
              refine HT.out.mono ?_
              rintro e w5 ⟨rfl, nq, rfl⟩
              have rb5 := rb3.trans ((below_drewN (Below.refl _ _) nq).mono hs3)
              go_wp2_with fail
              go_roundw
              case rel => exact ⟨k + 1, by omega, by go_num, by rw [HE.out]; congr 1; omega, rb5⟩
              case measure => simp [intOf]; omega
            · go_wp2_with fail
              refine HT.out.mono ?_
              rintro e w5 ⟨rfl, nq, rfl⟩
              have rb5 := rb3.trans ((below_drewN (Below.refl _ _) nq).mono hs3)
              go_wp2_with fail
              go_roundw
              case rel => exact ⟨k + 1, by omega, by go_num, by rw [HE.out]; congr 1; omega, rb5⟩
              case measure => simp [intOf]; omega
          · rw [if_neg h3]
            by_cases h4 : (A : Int) + q ≤ 1099511627776
            · go_wp2_with fail
              refine HT.out.mono ?_
              rintro e w5 ⟨rfl, nq, rfl⟩
              have rb5 := rb3.trans ((below_drewN (Below.refl _ _) nq).mono hs3)
              go_wp2_with fail
              go_roundw
              case rel => exact ⟨k + 1, by omega, by go_num, by rw [HE.out]; congr 1; omega, rb5⟩
              case measure => simp [intOf]; omega
            · go_wp2_with fail
              refine HT.out.mono ?_
              rintro e w5 ⟨rfl, nq, rfl⟩
              have rb5 := rb3.trans ((below_drewN (Below.refl _ _) nq).mono hs3)
              go_wp2_with fail
              go_roundw
              case rel => exact ⟨k + 1, by omega, by go_num, by rw [HE.out]; congr 1; omega, rb5⟩
              case measure => simp [intOf]; omega
    · have e : p.take k = p := List.take_of_length_le (by rw [HPL.out]; omega)
      rw [e]
      clear e hA
      go_wp2_with fail
      go_ret
      exact ⟨rfl, rb⟩

set_option maxHeartbeats 2000000 in
theorem rlong_any (w : World) (ap : Option Addr) (np cp : Nat) (p : List Pc) (sp : PS w (.slice ap np cp) p) (al : Option Addr) (nl cl : Nat) (l : List Sp) (sl : NS w (.slice al nl cl) l) :
    Calls Tryd.prog 57 #[.slice ap np cp, .slice al nl cl] w fun e w' => e = .returned (.int .i64 (capN (sumL p l) : Nat)) ∧ ∃ n, w' = w.drewN n := by
  obtain ⟨hpl, hpn, _, _⟩ := sp.len
  obtain ⟨hll, hln, _⟩ := sl.len
  have HPL := Lib.hid hpl
  have HLL := Lib.hid hll
  clear hpl hll
  go_enter Tryd.func57, Tryd.ntmps57
  go_wp2
  go_loopw [5, 6] (fun v i wr => ∃ k q : Nat, k ≤ np ∧ i = .int .i64 k ∧ v = .int .i64 (sumL (p.take k) l : Nat) ∧ sumL (p.take k) l ≤ 1099511627776 ∧ wr = w.drewN q) (fun _ i _ => np - (intOf i).toNat)
  case atStart => exact ⟨0, 0, Nat.zero_le _, rfl, rfl, Nat.zero_le _, rfl⟩
  case round =>
    obtain ⟨k, q, hk, rfl, rfl, hA, rfl⟩ := hrel
    by_cases hlt : k < np
    · have hkp : k < p.length := by rw [HPL.out]; exact hlt
      have sp1 := sp.drewN q
      obtain ⟨b, o, rfl, hc⟩ := sp1.read k hlt
      obtain ⟨hc1, ad2, n2, c2, hc2, s2, hn2, hN2⟩ := hc k hlt
      have hi := sp1.1 k
      have hss := sum_snoc p (0, []) k hkp l
      have hsl := sum_take_le p (k + 1) l
      clear hc sp1
      generalize p[k]?.getD (0, []) = z at hc1 hc2 s2 hi hss
      obtain ⟨g, tx⟩ := z
      simp only at hc1 hc2 s2 hi
      unfold pieceSize at hss
      have htx := s2.len.1
      have htn := s2.len.2
      clear s2
      rw [htx] at hss
      clear htx
      obtain ⟨ps, hps⟩ : ∃ ps : Nat, (if g = -1 then n2 else sizeL l g) = ps := ⟨_, rfl⟩
      rw [hps] at hss
      have HPS := Lib.hid hps
      have HSS := Lib.hid hss
      have HI := Lib.hid hi
      clear hps hss hi
      generalize hS0 : sumL (p.take k) l = S0 at hA HSS
      clear hS0
      have hps2 : ps ≤ 9223372036854775807 := by
        rw [← HPS.out]
        split
        · omega
        · unfold sizeL
          have h1 := (sl.1 g.toNat).2
          unfold IsI at h1
          split <;> omega
      go_upto_if 21 with fail
      go_cut [7] (fun v wx => v = .int .i64 (ps : Nat) ∧ ∃ q', wx = w.drewN q')
      case first =>
        by_cases h1 : g = -1
        · have HP : Hid (n2 = ps) := by have := HPS.out; rw [if_pos h1] at this; exact Lib.hid this
          subst h1
          go_wp2_with fail
          go_meet
          case rel => exact ⟨by rw [HP.out], _, rfl⟩
        · have hq1 : (g == -1) = false := by simpa using h1
          have HP : Hid (sizeL l g = ps) := by have := HPS.out; rw [if_neg h1] at this; exact Lib.hid this
          have HG1 := Lib.hid h1
          clear hc1 hc2 h1
          by_cases h2 : g < 0
          · have hz : Hid (ps = 0) := by rw [← HP.out]; unfold sizeL; rw [if_neg (by omega)]; exact Lib.hid rfl
            have hd : decide (0 ≤ g) = false := by simp; omega
            go_wp2_with fail
            go_quiet (fail)
            go_wp2_with fail
            go_meet
            case rel => exact ⟨by rw [hz.out]; rfl, _, World.drewN_drewN _ _ _⟩
          · obtain ⟨j, rfl⟩ : ∃ j : Nat, g = j := ⟨g.toNat, by omega⟩
            have hgi : -9223372036854775808 ≤ (j : Int) ∧ (j : Int) ≤ 9223372036854775807 := HI.out
            by_cases h3 : j < nl
            · obtain ⟨bs, os, rfl, hcs⟩ := sl.read j h3
              obtain ⟨hs1, hs2⟩ := hcs j h3
              obtain ⟨hi1, hi2⟩ := sl.1 j
              unfold IsI at hi1 hi2
              have ht : sizeL l j = if 0 ≤ (j : Int) ∧ 0 ≤ (l[j]?.getD (-1, -1)).1 ∧ (l[j]?.getD (-1, -1)).1 ≤ (l[j]?.getD (-1, -1)).2 then ((l[j]?.getD (-1, -1)).2 - (l[j]?.getD (-1, -1)).1).toNat else 0 := rfl
              have hP := HP.out
              rw [ht] at hP
              clear ht hcs HP HPS
              generalize l[j]?.getD (-1, -1) = sp at hs1 hs2 hi1 hi2 hP
              obtain ⟨f, t⟩ := sp
              simp only at hs1 hs2 hi1 hi2 hP
              have HP := Lib.hid hP
              clear hP
              have hd0 : decide (j < nl) = true := by simpa using h3
              have hda : decide ((0 : Int) ≤ (j : Int)) = true := by simp
              by_cases h4 : f < 0
              · have hz : Hid (ps = 0) := by rw [← HP.out, if_neg (by omega)]; exact Lib.hid rfl
                have hd1 : decide (0 ≤ f) = false := by simp; omega
                go_wp2_with fail
                go_quiet (fail)
                go_wp2_with fail
                go_meet
                case rel => exact ⟨by rw [hz.out]; rfl, _, World.drewN_drewN _ _ _⟩
              · have hd1 : decide (0 ≤ f) = true := by simp; omega
                by_cases h5 : t < f
                · have hz : Hid (ps = 0) := by rw [← HP.out, if_neg (by omega)]; exact Lib.hid rfl
                  have hd2 : decide (f ≤ t) = false := by simp; omega
                  go_wp2_with fail
                  go_quiet (fail)
                  go_wp2_with fail
                  go_meet
                  case rel => exact ⟨by rw [hz.out]; rfl, _, World.drewN_drewN _ _ _⟩
                · have hz : Hid ((ps : Int) = t - f) := by rw [← HP.out, if_pos (by omega)]; exact Lib.hid (by omega)
                  have hd2 : decide (f ≤ t) = true := by simp; omega
                  have hw1 : IntKind.i64.wrap (t - f) = t - f := IntWalk.i64_in _ (by omega)
                  go_wp2_with fail
                  go_quiet (fail)
                  go_wp2_with fail
                  go_quiet (fail)
                  go_wp2_with fail
                  go_meet
                  case rel => exact ⟨by rw [hz.out], _, (congrArg (fun x => World.drewN x _) (World.drewN_drewN _ _ _)).trans (World.drewN_drewN _ _ _)⟩
            · have hz : Hid (ps = 0) := by
                rw [← HP.out]; unfold sizeL
                rw [show ((j : Int).toNat) = j from rfl, List.getElem?_eq_none (by have := HLL.out; omega)]
                exact Lib.hid (by simp)
              have hd0 : decide (j < nl) = false := by simpa using h3
              have hda : decide ((0 : Int) ≤ (j : Int)) = true := by simp
              go_wp2_with fail
              go_quiet (fail)
              go_wp2_with fail
              go_meet
              case rel => exact ⟨by rw [hz.out]; rfl, _, World.drewN_drewN _ _ _⟩
      case rest =>
        obtain ⟨rfl, q', rfl⟩ := hcut
        clear hc1 hc2
        by_cases h6 : (1099511627776 : Int) - S0 < ps
        · have hfin : Hid (capN (sumL p l) = 1099511627776) := by have := HSS.out; unfold capN; exact Lib.hid (by omega)
          go_wp2_with fail
          go_ret
          exact ⟨ret_i64 (by rw [hfin.out]; rfl), q', rfl⟩
        · have hle : S0 + ps ≤ 1099511627776 := by omega
          go_wp2_with fail
          go_roundw
          case rel => exact ⟨k + 1, q', by omega, by go_num, by rw [HSS.out]; go_num, by rw [HSS.out]; exact hle, rfl⟩
          case measure => simp [intOf]; omega
    · have e : p.take k = p := List.take_of_length_le (by rw [HPL.out]; omega)
      rw [e] at hA ⊢
      have hcp : Hid (capN (sumL p l) = sumL p l) := by unfold capN; exact Lib.hid (by omega)
      clear e hA
      go_wp2_with fail
      go_ret
      exact ⟨ret_i64 (by rw [hcp.out]), q, rfl⟩
end Go.Proofs.YtakimaceohfpcaaDoor
