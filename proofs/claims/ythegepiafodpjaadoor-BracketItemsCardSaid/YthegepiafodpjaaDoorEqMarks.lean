/-
  galleyref00.EqMarks.
-/
import Derived.Test.YthegepiafodpjaaDoorMk
namespace Go.Proofs.YthegepiafodpjaaDoor
open Go.RowKit

set_option maxHeartbeats 1000000 in
theorem eqMarks_any (w : World) (va vb : Value) (a b : List Mk) (ha : SM w va a) (hb : SM w vb b) :
    Calls Tryd.prog 13 #[va, vb] w fun e w' => e = .returned (.bool (decide (a = b))) ∧ ∃ n, w' = w.drewN n := by
  obtain ⟨hA, aa, ca, rfl, hla, hca⟩ := ha
  obtain ⟨hB, ab, cb, rfl, hlb, hcb⟩ := hb
  by_cases hl : a.length = b.length
  · by_cases h0 : a.length = 0
    · have ea : a = [] := List.eq_nil_of_length_eq_zero h0
      have eb : b = [] := List.eq_nil_of_length_eq_zero (by omega)
      subst ea eb
      clear hca hcb hl h0
      go_enter Tryd.func13, Tryd.ntmps13
      go_wp2
      go_loop [5] (fun i => i = .int .i64 0) (fun _ => 0)
      case atStart => rfl
      case round =>
        subst hrel
        go_wp2
        go_ret
        exact ⟨rfl, 0, rfl⟩
    · obtain ⟨ba, oa, rfl, hcA⟩ := hca.resolve_left (by intro e; simp [e] at h0)
      obtain ⟨bb, ob, rfl, hcB⟩ := hcb.resolve_left (by intro e; rw [e] at hl; exact h0 hl)
      clear hca hcb
      have hne : ((a.length : Int) != (b.length : Int)) = false := by rw [bne_eq_false_iff_eq]; omega
      have hl1 : a.length ≤ b.length := by omega
      have hl2 : b.length ≤ a.length := by omega
      have HL := Lib.hid hl
      have HA := Lib.hid hcA
      have HB := Lib.hid hcB
      clear hl hcA hcB hA hB
      go_enter Tryd.func13, Tryd.ntmps13
      go_wp2
      go_loopw [5] (fun i wr => ∃ k q : Nat, k ≤ a.length ∧ i = .int .i64 k ∧ a.take k = b.take k ∧ wr = w.drewN q) (fun i _ => a.length - (intOf i).toNat)
      case atStart => exact ⟨0, 0, Nat.zero_le _, rfl, rfl, rfl⟩
      case round =>
        obtain ⟨k, q, hk, rfl, ht, rfl⟩ := hrel
        have Ht := Lib.hid ht
        clear ht
        by_cases hlt : k < a.length
        · obtain ⟨h1, h1'⟩ := HA.out k hlt
          obtain ⟨h2, h2'⟩ := HB.out k (by omega)
          have hst := fun he => takem_eq_step a b k hlt HL.out Ht.out he
          have hnd : a[k]?.getD (0, false) ≠ b[k]?.getD (0, false) → decide (a = b) = false := by
            intro hne; simp; intro e; exact hne (by rw [e])
          generalize a[k]?.getD (0, false) = x at h1 h1' hst hnd
          generalize b[k]?.getD (0, false) = y at h2 h2' hst hnd
          obtain ⟨x1, x2⟩ := x
          obtain ⟨y1, y2⟩ := y
          dsimp only at h1 h1' h2 h2'
          by_cases he : (x1, x2) = (y1, y2)
          · have Hst := Lib.hid (hst he)
            simp only [Prod.mk.injEq] at he
            obtain ⟨rfl, rfl⟩ := he
            clear hst hnd
            go_wp2
            go_quiet (fail)
            go_wp2
            go_roundw
            case rel => exact ⟨k + 1, _, by omega, by go_num, Hst.out, rfl⟩
            case measure => simp [intOf]; omega
          · have Hd := Lib.hid (hnd he)
            simp only [Prod.mk.injEq] at he
            clear hst hnd
            by_cases h12 : x1 = y1
            · subst h12
              have hb12 : (x2 == y2) = false := by cases x2 <;> cases y2 <;> simp_all
              clear he
              go_wp2
              go_quiet (fail)
              go_wp2
              go_ret
              exact ⟨ret_bool Hd.out.symm, _, World.drewN_drewN _ _ _⟩
            · have hb12 : (x1 == y1) = false := beq_eq_false_iff_ne.2 h12
              clear he h12
              go_wp2
              go_quiet (fail)
              go_wp2
              go_ret
              exact ⟨ret_bool Hd.out.symm, _, World.drewN_drewN _ _ _⟩
        · have hd : decide (a = b) = true := by
            have := Ht.out
            rw [List.take_of_length_le (by omega), List.take_of_length_le (by omega)] at this
            simpa using this
          have Hd := Lib.hid hd
          clear hd
          go_wp2
          go_ret
          exact ⟨ret_bool Hd.out.symm, _, rfl⟩
  · have hne : ((a.length : Int) != (b.length : Int)) = true := by rw [bne_iff_ne]; omega
    have hd : decide (a = b) = false := by
      simp; intro e; exact hl (by rw [e])
    rw [hd]
    clear hca hcb hA hB
    go_enter Tryd.func13, Tryd.ntmps13
    go_wp2
    go_ret
    exact ⟨rfl, 0, rfl⟩
end Go.Proofs.YthegepiafodpjaaDoor
