/-
  galleylaw19.WordsNumbers: its walk.
-/
import Derived.Test.YtadjonggmbndmaaWorks
import Derived.Test.YtadjonggmbndmaaNumMath
import Derived.Deep.CutBlock
import Derived.Deep.DeepCutAuto
namespace Go.Proofs.Ytadjonggmbndmaa
open Go.RowKit

def ZerosInv (w : World) (v : Value) (wr : World) : Prop := ∃ k : Nat, k ≤ 40 ∧ OwnB wr w.heap.size v (List.replicate k 48) ∧ Below w.heap.size w wr

theorem wrap_digit (x : Int) (h0 : 0 ≤ x) (h1 : x ≤ 9) : IntKind.u8.wrap (48 + x) = 48 + x := by
  simp [IntKind.wrap, IntKind.bits, IntKind.signed]
  omega
theorem rev_take (ds : List Int) (i : Nat) (h : i < ds.length) : ds.reverse.take (ds.length - i) = ds.reverse.take (ds.length - (i + 1)) ++ [ds[i]?.getD 0] := by
  have h1 : ds.length - i = ds.length - (i + 1) + 1 := by omega
  rw [h1, take_snoc _ _ (by rw [List.length_reverse]; omega)]
  congr 2
  rw [List.getElem?_reverse (by omega)]
  congr 2
  omega

def DigitsInv (w : World) (n : Int) (z : List Int) (v10 v12 v13 : Value) (wr : World) : Prop :=
  ∃ (x : Int) (ds : List Int), v13 = .int .i64 x ∧ DigInv n x ds ∧ OwnB wr w.heap.size v12 ds ∧ OwnB wr w.heap.size v10 z ∧ Apart v12 v10 ∧ Below w.heap.size w wr
def BackInv (w : World) (z ds : List Int) (v10 v12 v14 : Value) (wr : World) : Prop :=
  ∃ (j : Nat) (q : Int), q = (j : Int) - 1 ∧ v14 = .int .i64 q ∧ j ≤ ds.length ∧ OwnB wr w.heap.size v10 (z ++ ds.reverse.take (ds.length - j)) ∧ OwnB wr w.heap.size v12 ds ∧ Apart v10 v12 ∧ Below w.heap.size w wr
theorem dig_isB (l : List Int) (h : ∀ c ∈ l, digB c = true) : IsB l := by
  intro i
  by_cases hi : i < l.length
  · have := digB_bd l[i] (h _ (List.getElem_mem hi))
    simp [hi]; omega
  · simp [hi]

/-- Is the first byte a digit? -/
def dig0 (b : List Int) : Bool := decide (0 < b.length) && digB (b[0]?.getD 0)

set_option maxHeartbeats 4000000 in
set_option maxRecDepth 100000 in
theorem numbers_walk (w : World) (n noughts most : Int) (hn2 : n ≤ 9223372036854775807) (hm2 : most ≤ 9223372036854775807) (a : Option Addr) (len cap : Nat) (b : List Int) (hN : a = none → cap = 0) (hb : SB w (.slice a len cap) b) :
    Calls Try.prog 8 #[.int .i64 n, .int .i64 noughts, .int .i64 most, .slice a len cap] w fun e w' => e = .returned (.bool true) ∧ Below w.heap.size w w' := by
  have hlen := hb.len.2
  have HN := Lib.hid hN
  clear hN
  go_enter Try.func8, Try.ntmps8
  go_wp2_with fail
  refine (works_any w).mono ?_
  rintro e w1 ⟨rfl, hb1⟩
  have hb := hb.below hb1
  have hw1 := hb1.size
  by_cases hn0 : n < 0
  · go_wp2_with fail
    go_ret
    exact ⟨rfl, hb1⟩
  by_cases hl24 : (16777216 : Int) < (len : Int)
  · go_wp2_with fail
    go_ret
    exact ⟨rfl, hb1⟩
  have hn0' : 0 ≤ n := by omega
  have hl24' : len ≤ 16777216 := by omega
  go_upto_block 0 with fail
  go_cut [10] (fun v wr => ZerosInv w1 v wr)
  case first =>
    go_wp2_with fail
    go_loopw [10, 11] (fun v i wr => ∃ k : Nat, k ≤ 40 ∧ i = .int .i64 k ∧ OwnB wr w1.heap.size v (List.replicate k 48) ∧ Below w1.heap.size w1 wr) (fun _ i _ => 40 - (intOf i).toNat)
    case atStart => exact ⟨0, by omega, rfl, OwnB.nil _ _, Below.refl _ _⟩
    case round =>
      obtain ⟨k, hk, rfl, ho, rb⟩ := hrel
      have hbs := rb.size
      have Hl := Lib.hid (List.length_replicate (n := k) (a := (48 : Int)))
      have Hr := Lib.hid (List.replicate_succ' (n := k) (a := (48 : Int)))
      by_cases hc : (k : Int) < noughts
      · by_cases hc2 : (k : Int) < 40
        · go_wp2_with (at_builtin; refine append_b1 rfl (.tmp 37) (.tmp 38) rfl w1.heap.size _ _ 48 rfl ho rfl (by rw [Hl.out]; omega) hbs ?_)
          intro v' w2 ho' hA
          have hb2 := hA.bel _ _ rb (Nat.le_refl _)
          rw [← Hr.out] at ho'
          clear ho rb hA
          go_wp2_with fail
          go_roundw
          case rel => exact ⟨k + 1, by omega, by go_num, ho', hb2⟩
          case measure => simp [intOf]; omega
        · go_wp2_with fail
          go_meet
          case rel => exact ⟨k, hk, ho, rb⟩
      · go_wp2_with fail
        go_meet
        case rel => exact ⟨k, hk, ho, rb⟩
  case rest =>
    obtain ⟨k, hk, ho, rb⟩ := hcut
    have hz : (List.replicate k (48 : Int)).length ≤ 40 := by rw [List.length_replicate]; exact hk
    have hzB : IsB (List.replicate k (48 : Int)) := dig_isB _ fun c hc => by rw [List.mem_replicate] at hc; rw [hc.2]; rfl
    have HT := Lib.hid fun (x : Int) (ds : List Int) (h : DigInv n x ds) (hx : x ≤ 9) (hb : b = [] ∨ digB (b[0]?.getD 0) = false) => num_text k n x ds b h hx hb most
    generalize List.replicate k (48 : Int) = z at ho hz HT hzB
    have HZB := Lib.hid hzB
    clear hzB hk
    go_wp2_with fail
    go_loopw [12, 13] (fun v i wr => DigitsInv w1 n z u10 v i wr) (fun _ i _ => (intOf i).toNat)
    case atStart => exact ⟨n, [], rfl, dig_start n hn0' hn2, OwnB.nil _ _, ho, fun k h _ => by simp [Value.ownBlock] at h, rb⟩
    case round =>
      obtain ⟨x, ds, rfl, hD, ho12, ho10, hap, rb⟩ := hrel
      have hbs := rb.size
      have hx0 := hD.1
      have hdl := hD.2.2.2.1
      have HD := Lib.hid hD
      have hxm : x ≤ 9223372036854775807 := by
        have h5 := valTo_ge x hx0 ds.reverse fun c hc => (digB_bd c (hD.2.2.1 c (List.mem_reverse.1 hc))).1
        rw [hD.2.1] at h5
        omega
      clear hD
      by_cases hx9 : 9 < x
      · have hD' := Lib.hid (dig_step n x ds HD.out hx9)
        have hw := wrap_digit (x % 10) (by omega) (by omega)
        go_wp2_with (at_builtin; refine append_b1 rfl (.tmp 43) (.tmp 48) rfl w1.heap.size _ _ (48 + x % 10) rfl ho12 rfl (by omega) hbs ?_)
        intro v' w2 ho' hA
        have hb2 := hA.bel _ _ rb (Nat.le_refl _)
        obtain ⟨ho10', hap'⟩ := hA.other _ _ _ _ _ _ ho10 hap
        clear ho12 ho10 hap rb hA hw
        go_wp2_with fail
        go_roundw
        case rel => exact ⟨x / 10, ds ++ [48 + x % 10], rfl, hD'.out, ho', ho10', hap', hb2⟩
        case measure => simp [intOf]; omega
      · have hw := wrap_digit x hx0 (by omega)
        go_wp2_with (at_builtin; refine append_b1 rfl (.tmp 52) (.tmp 56) rfl w1.heap.size _ _ (48 + x) rfl ho10 rfl (by omega) hbs ?_)
        intro v' w2 ho' hA
        have hb2 := hA.bel _ _ rb (Nat.le_refl _)
        obtain ⟨ho12', hap'⟩ := hA.other _ _ _ _ _ _ ho12 (Apart.symm hap)
        have ho12' : OwnB w2 w1.heap.size u12 ds := ho12'
        have hzB2 := Lib.hid (isB_append _ _ HZB.out (isB_one (48 + x) (by omega) (by omega)))
        have hzl : (z ++ [48 + x]).length = z.length + 1 := by rw [List.length_append]; rfl
        have HTT := Lib.hid (HT.out x ds HD.out (by omega))
        have hBd := Lib.hid (dig_isB ds HD.out.2.2.1)
        clear ho12 ho10 hap rb hA hw
        generalize z ++ [48 + x] = z2 at ho' HTT hzB2 hzl
        have hzl2 : z2.length ≤ 41 := by omega
        clear hzl
        obtain ⟨-, ad, cd, he12, -⟩ := ho12'.sb hBd.out (by omega)
        subst he12
        go_wp2_with fail
        go_loopw [10, 14] (fun v i wr => BackInv w1 z2 ds v (.slice ad ds.length cd) i wr) (fun _ i _ => (intOf i + 1).toNat)
        case atStart => exact ⟨ds.length, _, rfl, rfl, Nat.le_refl _, by rw [Nat.sub_self, List.take_zero, List.append_nil]; exact ho', ho12', hap', hb2⟩
        case round =>
          obtain ⟨j, q, hq, rfl, hj, ho10, ho12, hap, rb⟩ := hrel
          have hbs := rb.size
          cases j with
          | succ i =>
            obtain rfl : q = (i : Int) := by omega
            have hrt := Lib.hid (rev_take ds i (by omega))
            have hs := ho12.sb hBd.out (by omega)
            obtain ⟨bb, o, rfl, hc⟩ := hs.read i (by omega)
            have hck := hc i (by omega)
            have htl : (z2 ++ ds.reverse.take (ds.length - (i + 1))).length ≤ 60 := by rw [List.length_append, List.length_take, List.length_reverse]; omega
            clear hc hs hq ho12' ho' hap'
            generalize ds[i]?.getD 0 = y at hck hrt
            go_wp2_with (at_builtin; refine append_b1 rfl (.tmp 65) (.tmp 70) rfl w1.heap.size _ _ y rfl ho10 rfl (by omega) hbs ?_)
            intro v' w3 ho3 hA
            have hb3 := hA.bel _ _ rb (Nat.le_refl _)
            obtain ⟨ho12', hap'⟩ := hA.other _ _ _ _ _ _ ho12 hap
            have ho3 : OwnB w3 w1.heap.size v' (z2 ++ ds.reverse.take (ds.length - i)) := by rw [hrt.out, ← List.append_assoc]; simpa using ho3
            clear ho12 ho10 hap rb hA
            go_wp2_with fail
            go_roundw
            case rel => exact ⟨i, _, rfl, rfl, by omega, ho3, ho12', hap', hb3⟩
            case measure => simp [intOf] <;> omega
          | zero =>
            obtain rfl : q = -1 := by omega
            rw [Nat.sub_zero, List.take_of_length_le (by rw [List.length_reverse]; omega)] at ho10
            have hTl : (z2 ++ ds.reverse).length ≤ 60 := by rw [List.length_append, List.length_reverse]; omega
            have hTB := Lib.hid (isB_append _ _ hzB2.out (dig_isB ds.reverse fun c hc => HD.out.2.2.1 c (List.mem_reverse.1 hc)))
            clear ho12 hap hq ho12' ho' hap'
            generalize z2 ++ ds.reverse = t at ho10 HTT hTl hTB
            obtain ⟨-, at1, ct1, he10, -⟩ := ho10.sb hTB.out (by omega)
            subst he10
            have hb := hb.below rb
            have hbel := hb1.trans (rb.mono hw1)
            have hdl0 : b.length = len := hb.len.1
            have hTN : Hid (dig0 b = false → b = [] ∨ digB (b[0]?.getD 0) = false) := fun h => by
              unfold dig0 at h
              rw [Bool.and_eq_false_iff] at h
              rcases h with h | h
              · left; exact List.eq_nil_of_length_eq_zero (by simpa using h)
              · exact .inr h
            go_upto_region 20 with fail
            go_cut [88] (fun v wx => v = .bool (dig0 b) ∧ wx = wr)
            case first =>
              by_cases h0 : 0 < len
              · obtain ⟨b1, o1, rfl, hc⟩ := hb.read 0 h0
                have hck := hc 0 h0
                rw [Nat.add_zero] at hck
                have hd0 := Lib.hid (show dig0 b = digB (b[0]?.getD 0) by unfold dig0; rw [decide_eq_true (by omega), Bool.true_and])
                clear hc
                generalize b[0]?.getD 0 = y at hck hd0
                by_cases hy : 48 ≤ y
                · by_cases hy2 : y ≤ 57
                  · have hf := Lib.hid (show dig0 b = true by rw [hd0.out]; simp [digB, hy, hy2])
                    go_wp2_with fail
                    go_meet
                    case rel => exact ⟨by rw [hf.out], rfl⟩
                  · have hf := Lib.hid (show dig0 b = false by rw [hd0.out]; simp [digB, hy2])
                    go_wp2_with fail
                    go_meet
                    case rel => exact ⟨by rw [hf.out], rfl⟩
                · have hf := Lib.hid (show dig0 b = false by rw [hd0.out]; simp [digB, hy])
                  go_wp2_with fail
                  go_meet
                  case rel => exact ⟨by rw [hf.out], rfl⟩
              · have hf := Lib.hid (show dig0 b = false by unfold dig0; rw [decide_eq_false (by omega), Bool.false_and])
                go_wp2_with fail
                go_meet
                case rel => exact ⟨by rw [hf.out], rfl⟩
            case rest =>
              obtain ⟨rfl, rfl⟩ := hcut
              cases hdg : dig0 b
              · have hNum := Lib.hid (HTT.out (hTN.out hdg))
                clear hdg
                go_wp2_with (at_builtin; refine append_sbp rfl (.tmp 90) (.tmp 91) rfl w1.heap.size _ t b a len cap rfl ho10 rfl HN.out hb (by omega) hbs ?_)
                intro v' w3 ho3 hA
                have hb3 := hA.bel _ _ rb (Nat.le_refl _)
                have hbel := hb1.trans (hb3.mono hw1)
                obtain ⟨-, a3, c3, he3, -⟩ := ho3.sb (isB_append _ _ hTB.out hb.1) (by rw [List.length_append]; omega)
                subst he3
                have hs3 := ho3.sb (isB_append _ _ hTB.out hb.1) (by rw [List.length_append]; omega)
                clear ho3 hA hb3 ho10 hb rb
                generalize t ++ b = tb at hs3 hNum ⊢
                go_wp2_with fail
                refine (newWords_any _ _ tb hs3).mono ?_
                rintro e w4 ⟨g, rfl, hg, hW, hb4⟩
                have hb5 := hbel.trans (hb4.mono hbel.size)
                have hgB : w.heap.size ≤ g := Nat.le_trans hbel.size hg
                clear hbel hb4 hs3 hg
                go_wp2_with fail
                by_cases hm0 : most < 0
                · refine (number_neg w4 g tb 0 most hm0 hW).mono ?_
                  rintro e w5 ⟨rfl, rfl⟩
                  go_wp2_with fail
                  refine (at_any w4 g tb 0 hW).mono ?_
                  rintro e w5 ⟨rfl, rfl⟩
                  go_wp2_with fail
                  go_ret
                  exact ⟨rfl, hb5⟩
                · refine (number_any w4 g tb 0 most (by omega) hm2 hW).mono ?_
                  rintro e w5 hP
                  by_cases hmn : most < n
                  · have hP : e = .returned (.tuple #[.int .i64 0, .int .i64 71]) ∧ Wd w5 g tb 0 ∧ w4.grownBy w5 (some g) := by
                      have hN2 := hNum.out
                      rw [if_pos hmn] at hN2
                      unfold NumPost at hP
                      rw [hN2] at hP
                      exact hP
                    obtain ⟨rfl, hW, hG⟩ := hP
                    have hb6 := Below.at hb5 hG hb5.size hgB
                    clear hb5 hG hNum
                    go_wp2_with fail
                    refine (at_any w5 g tb 0 hW).mono ?_
                    rintro e w6 ⟨rfl, rfl⟩
                    go_wp2_with fail
                    go_ret
                    exact ⟨rfl, hb6⟩
                  · have hP : e = .returned (.tuple #[.int .i64 n, .int .i64 0]) ∧ Wd w5 g tb t.length ∧ w4.grownBy w5 (some g) := by
                      have hN2 := hNum.out
                      rw [if_neg hmn] at hN2
                      unfold NumPost at hP
                      rw [hN2] at hP
                      simp only [Nat.zero_add] at hP
                      exact hP
                    obtain ⟨rfl, hW, hG⟩ := hP
                    have hb6 := Below.at hb5 hG hb5.size hgB
                    clear hb5 hG hNum
                    go_wp2_with fail
                    refine (at_any w5 g tb t.length hW).mono ?_
                    rintro e w6 ⟨rfl, rfl⟩
                    go_wp2_with fail
                    go_ret
                    exact ⟨rfl, hb6⟩
              · clear hdg
                go_wp2_with fail
                go_ret
                exact ⟨rfl, hbel⟩
end Go.Proofs.Ytadjonggmbndmaa
