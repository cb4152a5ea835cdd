/-
  galleyref00.EqBytes: two slices of bytes hold the same bytes.
-/
import Derived.Test.YtaeiijncklmfdaaBytes
namespace Go.Proofs.Ytaeiijncklmfdaa
open Go.RowKit

theorem take_eq_step (a b : List Int) (k : Nat) (h : k < a.length) (hl : a.length = b.length) (ht : a.take k = b.take k) (he : a[k]?.getD 0 = b[k]?.getD 0) : a.take (k + 1) = b.take (k + 1) := by
  rw [take_snoc a k h, take_snoc b k (by omega), ht, he]

set_option maxHeartbeats 400000 in
theorem eqBytes_any (w : World) (va vb : Value) (a b : List Int) (ha : SB w va a) (hb : SB w vb b) :
    Calls Try.prog 27 #[va, vb] w fun e w' => e = .returned (.bool (decide (a = b))) ∧ ∃ n, w' = w.drewN n := by
  obtain ⟨hA, aa, ca, rfl, hla, hca⟩ := ha
  obtain ⟨hB, ab, cb, rfl, hlb, hcb⟩ := hb
  by_cases hl : a.length = b.length
  · by_cases h0 : a.length = 0
    · have ea : a = [] := List.eq_nil_of_length_eq_zero h0
      have eb : b = [] := List.eq_nil_of_length_eq_zero (by omega)
      subst ea eb
      clear hca hcb hl h0
      go_enter Try.func27, Try.ntmps27
      go_wp2
      go_loop [5] (fun i => i = .int .i64 0) (fun _ => 0)
      case atStart => rfl
      case round =>
        subst hrel
        go_wp2
        go_ret
        exact ⟨rfl, 0, rfl⟩
    · obtain ⟨ba, oa, rfl, hcA⟩ := hca.resolve_left (by intro e; simp [e] at h0)
      obtain ⟨bb, ob, rfl, hcB⟩ := hcb.resolve_left (by intro e; rw [e] at hl; exact h0 hl)
      clear hca hcb
      have hne : ((a.length : Int) != (b.length : Int)) = false := by rw [bne_eq_false_iff_eq]; omega
      have hl1 : a.length ≤ b.length := by omega
      have hl2 : b.length ≤ a.length := by omega
      have HL := Lib.hid hl
      have HA := Lib.hid hcA
      have HB := Lib.hid hcB
      clear hl hcA hcB
      go_enter Try.func27, Try.ntmps27
      go_wp2
      go_loopw [5] (fun i wr => ∃ k q : Nat, k ≤ a.length ∧ i = .int .i64 k ∧ a.take k = b.take k ∧ wr = w.drewN q) (fun i _ => a.length - (intOf i).toNat)
      case atStart => exact ⟨0, 0, Nat.zero_le _, rfl, rfl, rfl⟩
      case round =>
        obtain ⟨k, q, hk, rfl, ht, rfl⟩ := hrel
        have Ht := Lib.hid ht
        clear ht
        by_cases hlt : k < a.length
        · have h1 := HA.out k hlt
          have h2 := HB.out k (by omega)
          have hst := fun he => take_eq_step a b k hlt HL.out Ht.out he
          have hnd : a[k]?.getD 0 ≠ b[k]?.getD 0 → decide (a = b) = false := by
            intro hne; simp; intro e; exact hne (by rw [e])
          generalize a[k]?.getD 0 = x at h1 hst hnd
          generalize b[k]?.getD 0 = y at h2 hst hnd
          by_cases he : x = y
          · subst he
            have Hst := Lib.hid (hst rfl)
            clear hst hnd
            go_wp2
            go_quiet (fail)
            go_wp2
            go_roundw
            case rel => exact ⟨k + 1, _, by omega, by go_num, Hst.out, rfl⟩
            case measure => simp [intOf]; omega
          · have hn : (x != y) = true := by rw [bne_iff_ne]; exact he
            have Hd := Lib.hid (hnd he)
            clear hst hnd he
            go_wp2
            go_quiet (fail)
            go_wp2
            go_ret
            exact ⟨ret_bool Hd.out.symm, _, World.drewN_drewN _ _ _⟩
        · have hd : decide (a = b) = true := by
            have := Ht.out
            rw [List.take_of_length_le (by omega), List.take_of_length_le (by omega)] at this
            simpa using this
          have Hd := Lib.hid hd
          clear hd
          go_wp2
          go_ret
          exact ⟨ret_bool Hd.out.symm, _, rfl⟩
  · have hne : ((a.length : Int) != (b.length : Int)) = true := by rw [bne_iff_ne]; omega
    have hd : decide (a = b) = false := by
      simp; intro e; exact hl (by rw [e])
    rw [hd]
    clear hca hcb hA hB
    go_enter Try.func27, Try.ntmps27
    go_wp2
    go_ret
    exact ⟨rfl, 0, rfl⟩
end Go.Proofs.Ytaeiijncklmfdaa
