/-
  galleylaw16.FillBack: its walk.
-/
import Derived.Test.YtpkejabhkkfalaaBackW
namespace Go.Proofs.Ytpkejabhkkfalaa
open Go.RowKit

theorem neMk_no (W : World) : (binOp .neq 30 (.agg #[.int .u8 92, .bool false]) (.agg #[.int .u8 92, .bool false])).run Try.prog W = .ok (.bool false) W := by kernel_rfl

set_option maxHeartbeats 4000000 in
set_option maxRecDepth 100000 in
theorem fillBack_walk (w : World) (a0 : Option Addr) (n0 c0 : Nat) (l : List Mk) (s0 : SM w (.slice a0 n0 c0) l) (a1 : Option Addr) (n1 c1 : Nat) (p : List Pc) (s1 : PS w (.slice a1 n1 c1) p) (hN : l.length + p.length + bytesP p ≤ 1048576) :
    Calls Try.prog 3 #[.slice a0 n0 c0, .slice a1 n1 c1] w fun e w' => e = .returned (.bool true) ∧ Below w.heap.size w w' := by
  obtain ⟨hl0, _⟩ := s0.len
  obtain ⟨hl1, _⟩ := s1.len
  have HL0 := Lib.hid hl0
  have hn01 : n0 + n1 + bytesP p ≤ 1048576 := by omega
  have hb1n : p.length + bytesP p ≤ 268435456 := by omega
  clear hl0 hl1 hN
  go_enter Try.func3, Try.ntmps3
  go_wp2_with fail
  refine (works_any w).mono ?_
  rintro e w1 ⟨rfl, b1⟩
  have hs1 := b1.size
  have hlo := long_any w1 (n0 + n1) (by omega)
  rw [Int.natCast_add, (decide_eq_false (by omega) : decide (2147483647 < n0 + n1) = false)] at hlo
  have HLo := Lib.hid hlo
  clear hlo
  go_wp2_with fail
  refine HLo.out.mono ?_
  rintro e w2 ⟨rfl, rfl⟩
  have s01 := s0.below b1
  have HPa := Lib.hid (parse_any w1 a0 n0 c0 l s01 (by omega))
  clear HLo
  go_wp2_with fail
  refine HPa.out.mono ?_
  intro e w2 hP
  have HBK := Lib.hid (fun W (hb : Below w.heap.size w W) => fun h => back_any W a1 n1 c1 p (s1.below hb) h hb1n)
  have HSH := Lib.hid (fun W (hb : Below w.heap.size w W) => shaped_any W a1 n1 c1 p (s1.below hb))
  have HPN := Lib.hid (fun W (hb : Below w.heap.size w W) => fun h => print_no W a1 n1 c1 p (s1.below hb) h)
  cases hpo : parseR l [] [] with
  | none =>
    obtain ⟨b2, rfl⟩ := unparsed hP hpo
    obtain ⟨l', hl'⟩ := parse_none l.length l [] [] (Nat.le_refl _) hpo
    have hln : n0 = l'.length + 1 := by rw [← HL0.out, hl']; simp
    have hget : l[l'.length]?.getD (0, false) = (92, false) := by rw [hl']; simp
    rw [HL0.out]
    obtain ⟨j, hj⟩ : ∃ j, l'.length = j := ⟨_, rfl⟩
    rw [hj] at hln hget
    clear hl' hj hpo hP HPa s01
    obtain rfl : n0 = j + 1 := hln
    have b02 := b1.trans (b2.mono hs1)
    have s02 := s0.below b02
    obtain ⟨b, o, rfl, hc⟩ := s02.read j (by omega)
    obtain ⟨d1, d2⟩ := hc j (by omega)
    rw [hget] at d1 d2
    simp only at d1 d2
    have hjb : (((j + 1 : Nat) : Int) - 1) = (j : Int) := by omega
    rw [hjb]
    have hjs : j ≤ 1048576 := by omega
    have hjq : ((j : Int) + 1 == 0) = false := by rw [beq_eq_false_iff_ne]; omega
    clear hc hget s02 hjb b2 hn01
    go_wp2_with fail
    refine (HSH.out w2 b02).mono ?_
    rintro e w4 ⟨rfl, b4⟩
    have b04 := b02.trans (b4.mono b02.size)
    clear b4
    cases hs : shapedL p with
    | true =>
      have HB3 := Lib.hid (HBK.out w4 b04 hs)
      clear HBK HSH HPN hs
      go_wp2_with fail
      refine HB3.out.mono ?_
      rintro e w5 ⟨rfl, b5⟩
      have b05 := b04.trans (b5.mono b04.size)
      clear HB3 b5
      go_wp2_with fail
      go_ret
      exact ⟨rfl, b05⟩
    | false =>
      have HP3 := Lib.hid (HPN.out w4 b04 hs)
      clear HBK HSH HPN hs
      go_wp2_with fail
      refine HP3.out.mono ?_
      rintro e w5 ⟨rfl, b5⟩
      have b05 := b04.trans (b5.mono b04.size)
      clear HP3 b5
      go_wp2_with fail
      go_ret
      exact ⟨rfl, b05⟩
  | some q =>
    obtain ⟨b2, v2, L, rfl, o2, hL, hLl, hG⟩ := parsed hP hpo
    rw [← hL] at hG
    obtain ⟨a2, c2, rfl, p2⟩ := o2.psg hG (by rw [HL0.out]; omega) (by rw [HL0.out] at hLl; omega)
    have hsm := parse_small l.length l [] [] q (Nat.le_refl _) hpo
    have hsq := parse_shaped l.length l [] [] q (Nat.le_refl _) rfl hpo
    have hLn : L.length = q.length := by rw [← plainP_len, hL]
    rw [HL0.out] at hsm hLl
    simp only [List.length_nil, Nat.add_zero] at hsm
    have hb0 : bytesP ([] : List Pc) = 0 := rfl
    rw [hL, hLn] at p2
    rw [hLn] at hLl ⊢
    have b02 := b1.trans (b2.mono hs1)
    have HB2 := Lib.hid (back_any w2 a2 q.length c2 q p2 hsq (by omega))
    clear hP hG o2 hL hLn p2 hsq hsm hb0 hpo HPa
    go_wp2_with fail
    refine HB2.out.mono ?_
    rintro e w3 ⟨rfl, b3⟩
    have b03 := b02.trans (b3.mono b02.size)
    clear HB2 b3
    go_wp2_with fail
    refine (HSH.out w3 b03).mono ?_
    rintro e w4 ⟨rfl, b4⟩
    have b04 := b03.trans (b4.mono b03.size)
    clear b4
    cases hs : shapedL p with
    | true =>
      have HB3 := Lib.hid (HBK.out w4 b04 hs)
      clear HBK HSH HPN hs
      go_wp2_with fail
      refine HB3.out.mono ?_
      rintro e w5 ⟨rfl, b5⟩
      have b05 := b04.trans (b5.mono b04.size)
      clear HB3 b5
      go_wp2_with fail
      go_ret
      exact ⟨rfl, b05⟩
    | false =>
      have HP3 := Lib.hid (HPN.out w4 b04 hs)
      clear HBK HSH HPN hs
      go_wp2_with fail
      refine HP3.out.mono ?_
      rintro e w5 ⟨rfl, b5⟩
      have b05 := b04.trans (b5.mono b04.size)
      clear HP3 b5
      go_wp2_with fail
      go_ret
      exact ⟨rfl, b05⟩
end Go.Proofs.Ytpkejabhkkfalaa
