/-
  galleylaw14.long: is a script beyond the bound of the document?
-/
import Derived.Test.YtbdgolbejoheiaaOpenO
import Derived.Test.YtbdgolbejoheiaaWrite
namespace Go.Proofs.Ytbdgolbejoheiaa
open Go.RowKit

def tot1 (s : Stp) : Nat := s.2.length + s.2.flatten.length
def totK (r : List Stp) (k : Nat) : Nat := ((r.take k).map tot1).sum
theorem totK_succ (r : List Stp) (k : Nat) (h : k < r.length) : totK r (k + 1) = totK r k + tot1 (r[k]?.getD (false, [])) := by
  unfold totK
  rw [List.take_add_one, List.getElem?_eq_getElem h, List.map_append, List.sum_append]
  simp
def totL (r : List Stp) : Nat := r.length + totK r r.length
theorem takeF_len (R : List (List Int)) (k : Nat) (h : k < R.length) : (R.take (k + 1)).flatten.length = (R.take k).flatten.length + (R[k]?.getD []).length := by
  rw [takeF_snoc R k h, List.length_append]

theorem longN (w : World) (n : Nat) (hn : n ≤ 281474976710656) : Calls Try.prog 21 #[.int .i64 n] w fun e w' => e = .returned (.bool (decide (2147483647 < n))) ∧ w = w' := by
  by_cases h : 2147483647 < n
  · have h1 : (2147483647 : Int) < (n : Int) := by omega
    have hd := Lib.hid (decide_eq_true h)
    clear h
    go_enter Try.func21, Try.ntmps21
    go_wp2
    go_ret
    exact ⟨ret_bool hd.out.symm, rfl⟩
  · have h1 : ¬ (2147483647 : Int) < (n : Int) := by omega
    have hd := Lib.hid (decide_eq_false h)
    clear h
    go_enter Try.func21, Try.ntmps21
    go_wp2
    go_ret
    exact ⟨ret_bool hd.out.symm, rfl⟩

def LongPost (W : World) (r : List Stp) (e : Ending) (W' : World) : Prop := ∃ b : Bool, e = .returned (.bool b) ∧ W = W' ∧ (b = false → totL r ≤ 2147483647)
set_option maxHeartbeats 2000000 in
theorem longO_any (W : World) (a : Option Addr) (n c : Nat) (r : List Stp) (h : OS W (.slice a n c) r) : Calls Try.prog 13 #[.slice a n c] W (LongPost W r) := by
  obtain ⟨hl, hn, -, -⟩ := h.len
  subst hl
  have HO := Lib.hid h
  clear h
  go_enter Try.func13, Try.ntmps13
  go_wp2_with fail
  go_loop [3, 4] (fun x i => ∃ k m : Nat, k ≤ r.length ∧ x = .int .i64 m ∧ i = .int .i64 k ∧ m ≤ 281474976710656 ∧ (m < 2147483648 → m = r.length + totK r k)) (fun _ i => r.length - (intOf i).toNat)
  case atStart => exact ⟨0, r.length, Nat.zero_le _, rfl, rfl, by omega, fun _ => by simp [totK]⟩
  case round =>
    obtain ⟨k, m, hk, rfl, rfl, hm, hmt⟩ := hrel
    have Hmt := Lib.hid hmt
    clear hmt
    by_cases hlt : k < r.length
    · by_cases hbig : m < 2147483648
      · have hbi : (m : Int) < 2147483648 := by omega
        obtain ⟨b, o, rfl, hc⟩ := HO.out.read k hlt
        obtain ⟨c0, ad, pn, pc, c1, hR⟩ := hc k hlt
        obtain ⟨R, hRe⟩ : ∃ R, (r[k]?.getD (false, [])).2 = R := ⟨_, rfl⟩
        rw [hRe] at hR
        obtain ⟨hpl, hpn, -, -⟩ := hR.len
        have hstep : totK r (k + 1) = totK r k + (R.length + R.flatten.length) := by rw [totK_succ r k hlt]; unfold tot1; rw [hRe]
        have Hst := Lib.hid hstep
        have HR := Lib.hid hR
        subst hpl
        clear hc hstep hRe hR c0
        go_wp2_with fail
        go_loop [3, 5] (fun x i => ∃ j m2 : Nat, j ≤ R.length ∧ x = .int .i64 m2 ∧ i = .int .i64 j ∧ m2 ≤ 281474976710656 ∧ (m2 < 2147483648 → m2 = m + R.length + (R.take j).flatten.length)) (fun _ i => R.length - (intOf i).toNat)
        case atStart => exact ⟨0, m + R.length, Nat.zero_le _, by go_num, rfl, by omega, fun _ => by simp⟩
        case round =>
          obtain ⟨j, m2, hj, rfl, rfl, hm2, hmt2⟩ := hrel
          have Hm2 := Lib.hid hmt2
          clear hmt2
          by_cases hjl : j < R.length
          · by_cases hb2 : m2 < 2147483648
            · have hbi2 : (m2 : Int) < 2147483648 := by omega
              obtain ⟨b2, o2, rfl, hc2⟩ := HR.out.read j hjl
              obtain ⟨ad2, pn2, pc2, c2, s2, -, -⟩ := hc2 j hjl
              have hl2 := s2.len
              have Hs := Lib.hid (takeF_len R j hjl)
              have Hl2 := Lib.hid hl2
              have hl3 := hl2.2
              clear hc2 s2 hl2
              go_wp2_with fail
              go_round
              case rel => exact ⟨j + 1, m2 + pn2, by omega, by go_num, by go_num, by omega, fun hq => by
                have h1 := Hm2.out hb2
                have h2 := Hs.out
                have h3 := Hl2.out.1
                omega⟩
              case measure => simp [intOf]; omega
            · have hbi2 : ¬ (m2 : Int) < 2147483648 := by omega
              go_wp2_with fail
              go_round
              case rel => exact ⟨k + 1, m2, by omega, by go_num, by go_num, by omega, fun hq => by omega⟩
              case measure => simp [intOf]; omega
          · obtain rfl : j = R.length := by omega
            have hx : m2 < 2147483648 → m2 = r.length + totK r (k + 1) := fun hq => by
              have h1 := Hm2.out hq
              have h2 := Hmt.out hbig
              have h3 := Hst.out
              rw [List.take_length] at h1
              omega
            have Hx := Lib.hid hx
            clear hx
            go_wp2_with fail
            go_round
            case rel => exact ⟨k + 1, m2, by omega, by go_num, by go_num, by omega, Hx.out⟩
            case measure => simp [intOf]; omega
      · have hbi : ¬ (m : Int) < 2147483648 := by omega
        have HL := Lib.hid (longN W m hm)
        have HP : Hid (LongPost W r (.returned (.bool (decide (2147483647 < m)))) W) := Lib.hid ⟨_, rfl, rfl, fun hd => by simp at hd; omega⟩
        go_wp2_with fail
        refine HL.out.mono ?_
        rintro e w' ⟨rfl, rfl⟩
        generalize decide (2147483647 < m) = bb at HP ⊢
        go_wp2_with fail
        go_ret
        exact HP.out
    · obtain rfl : k = r.length := by omega
      have HL := Lib.hid (longN W m hm)
      have HP : Hid (LongPost W r (.returned (.bool (decide (2147483647 < m)))) W) := Lib.hid ⟨_, rfl, rfl, fun hd => by
        have h1 : m < 2147483648 := by simp at hd; omega
        have h2 := Hmt.out h1
        unfold totL
        omega⟩
      go_wp2_with fail
      refine HL.out.mono ?_
      rintro e w' ⟨rfl, rfl⟩
      generalize decide (2147483647 < m) = bb at HP ⊢
      go_wp2_with fail
      go_ret
      exact HP.out
end Go.Proofs.Ytbdgolbejoheiaa
