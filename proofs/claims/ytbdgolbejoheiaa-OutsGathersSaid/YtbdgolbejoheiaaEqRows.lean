/-
  galleyref00.EqRows: two lists of lists of bytes hold the same.
-/
import Derived.Test.YtbdgolbejoheiaaLists
import Derived.Test.YtbdgolbejoheiaaEq
namespace Go.Proofs.Ytbdgolbejoheiaa
open Go.RowKit

theorem takeR_snoc (a : List (List Int)) (k : Nat) (h : k < a.length) : a.take (k + 1) = a.take k ++ [a[k]?.getD []] := by
  rw [List.take_add_one, List.getElem?_eq_getElem h]; rfl
theorem takeR_step (a b : List (List Int)) (k : Nat) (h : k < a.length) (hl : a.length = b.length) (ht : a.take k = b.take k) (he : a[k]?.getD [] = b[k]?.getD []) : a.take (k + 1) = b.take (k + 1) := by
  rw [takeR_snoc a k h, takeR_snoc b k (by omega), ht, he]
theorem eqBytes_nq (w : World) (va vb : Value) (a b : List Int) (t : Bool) (ht : decide (a = b) = t) (ha : SB w va a) (hb : SB w vb b) (q : Nat) :
    Calls Try.prog 20 #[va, vb] (w.drewN q) fun e w' => e = .returned (.bool t) ∧ ∃ m, w' = w.drewN m := by
  subst ht
  exact (eqBytes_any _ _ _ _ _ (ha.drewN q) (hb.drewN q)).mono fun _ _ ⟨he, m, hm⟩ => ⟨he, q + m, hm.trans (World.drewN_drewN _ _ _)⟩
theorem RB.drewN {w : World} {v : Value} {r : List (List Int)} (h : RB w v r) (n : Nat) : RB (w.drewN n) v r := h.below (below_drewN (Below.refl _ _) n)

set_option maxHeartbeats 1000000 in
theorem eqRows_any (w : World) (va vb : Value) (a b : List (List Int)) (ha : RB w va a) (hb : RB w vb b) :
    Calls Try.prog 16 #[va, vb] w fun e w' => e = .returned (.bool (decide (a = b))) ∧ ∃ n, w' = w.drewN n := by
  obtain ⟨aa, ca, rfl, hla, -, -, hca⟩ := id ha
  obtain ⟨ab, cb, rfl, hlb, -, -, hcb⟩ := id hb
  by_cases hl : a.length = b.length
  · by_cases h0 : a.length = 0
    · have ea : a = [] := List.eq_nil_of_length_eq_zero h0
      have eb : b = [] := List.eq_nil_of_length_eq_zero (by omega)
      subst ea eb
      clear hca hcb hl h0 ha hb
      go_enter Try.func16, Try.ntmps16
      go_wp2
      go_loop [5] (fun i => i = .int .i64 0) (fun _ => 0)
      case atStart => rfl
      case round =>
        subst hrel
        go_wp2
        go_ret
        exact ⟨rfl, 0, rfl⟩
    · obtain ⟨ba, oa, rfl, hcA⟩ := hca.resolve_left (by intro e; simp [e] at h0)
      obtain ⟨bb, ob, rfl, hcB⟩ := hcb.resolve_left (by intro e; rw [e] at hl; exact h0 hl)
      clear hca hcb ha hb
      have hne : ((a.length : Int) != (b.length : Int)) = false := by rw [bne_eq_false_iff_eq]; omega
      have hl1 : a.length ≤ b.length := by omega
      have hl2 : b.length ≤ a.length := by omega
      have HL := Lib.hid hl
      have HA := Lib.hid hcA
      have HB := Lib.hid hcB
      clear hl hcA hcB
      go_enter Try.func16, Try.ntmps16
      go_wp2
      go_loopw [5] (fun i wr => ∃ k q : Nat, k ≤ a.length ∧ i = .int .i64 k ∧ a.take k = b.take k ∧ wr = w.drewN q) (fun i _ => a.length - (intOf i).toNat)
      case atStart => exact ⟨0, 0, Nat.zero_le _, rfl, rfl, rfl⟩
      case round =>
        obtain ⟨k, q, hk, rfl, ht, rfl⟩ := hrel
        have Ht := Lib.hid ht
        clear ht
        by_cases hlt : k < a.length
        · have hlt2 : k < b.length := by omega
          obtain ⟨d1, m1, cc1, h1, s1, -, -⟩ := HA.out k hlt
          obtain ⟨d2, m2, cc2, h2, s2, -, -⟩ := HB.out k (by omega)
          have s1 := s1.drewN q
          have s2 := s2.drewN q
          have h1 : (w.drewN q).cell? ⟨ba, oa + k, none⟩ = some (.slice d1 m1 cc1) := h1
          have h2 : (w.drewN q).cell? ⟨bb, ob + k, none⟩ = some (.slice d2 m2 cc2) := h2
          have HW := fun m => Lib.hid (World.drewN_drewN w q m)
          generalize w.drewN q = wq at s1 s2 h1 h2 HW ⊢
          have hst := fun he => takeR_step a b k hlt HL.out Ht.out he
          have hnd : a[k]?.getD [] ≠ b[k]?.getD [] → decide (a = b) = false := by
            intro hne; simp; intro e; exact hne (by rw [e])
          generalize a[k]?.getD [] = x at s1 hst hnd
          generalize b[k]?.getD [] = y at s2 hst hnd
          by_cases he : x = y
          · have HE := Lib.hid (fun n => eqBytes_nq _ _ _ _ _ _ (decide_eq_true he) s1 s2 n)
            have Hst := Lib.hid (hst he)
            clear hst hnd s1 s2
            go_wp2_with fail
            go_quiet ((go_at_call 20; exact HE.out _))
            clear h1 h2
            go_wp2_with fail
            go_roundw
            case rel => exact ⟨k + 1, _, by omega, by go_num, Hst.out, (HW _).out⟩
            case measure => simp [intOf]; omega
          · have HE := Lib.hid (fun n => eqBytes_nq _ _ _ _ _ _ (decide_eq_false he) s1 s2 n)
            have Hd := Lib.hid (hnd he)
            clear hst hnd s1 s2
            go_wp2_with fail
            go_quiet ((go_at_call 20; exact HE.out _))
            clear h1 h2
            go_wp2_with fail
            go_ret
            exact ⟨ret_bool Hd.out.symm, _, (HW _).out⟩
        · have hd : decide (a = b) = true := by
            have := Ht.out
            rw [List.take_of_length_le (by omega), List.take_of_length_le (by omega)] at this
            simpa using this
          have Hd := Lib.hid hd
          clear hd
          go_wp2
          go_ret
          exact ⟨ret_bool Hd.out.symm, _, rfl⟩
  · have hne : ((a.length : Int) != (b.length : Int)) = true := by rw [bne_iff_ne]; omega
    have hd : decide (a = b) = false := by
      simp; intro e; exact hl (by rw [e])
    rw [hd]
    clear hca hcb ha hb
    go_enter Try.func16, Try.ntmps16
    go_wp2
    go_ret
    exact ⟨rfl, 0, rfl⟩
end Go.Proofs.Ytbdgolbejoheiaa
