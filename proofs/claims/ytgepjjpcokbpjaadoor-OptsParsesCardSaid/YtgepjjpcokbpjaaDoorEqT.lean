/-
  galleyref00.EqTexts, EqParts.
-/
import Derived.Test.YtgepjjpcokbpjaaDoorStr
import Derived.BigQuiet
import Derived.Lib.SlicesS
namespace Go.Proofs.YtgepjjpcokbpjaaDoor
open Go.RowKit

theorem str_ne {x y : Str} (h : x ≠ y) : (ByteArray.toList x == ByteArray.toList y) = false := by
  cases e : (ByteArray.toList x == ByteArray.toList y) with
  | false => rfl
  | true => exact absurd ((Lib.bytes_beq_iff x y).1 e) h
set_option maxHeartbeats 1000000 in
theorem eqTexts_any (w : World) (aa : Option Addr) (na ca : Nat) (a : List Str) (ha : TS w (.slice aa na ca) a) (ab : Option Addr) (nb cb : Nat) (b : List Str) (hb : TS w (.slice ab nb cb) b) :
    Calls Tryd.prog 11 #[.slice aa na ca, .slice ab nb cb] w fun e w' => e = .returned (.bool (decide (a = b))) ∧ ∃ n, w' = w.drewN n := by
  obtain ⟨hal, han, -, -⟩ := ha.len
  obtain ⟨hbl, hbn, -, -⟩ := hb.len
  have HAL := Lib.hid hal
  have HBL := Lib.hid hbl
  clear hal hbl
  by_cases hl : na = nb
  · subst hl
    have hne : ((na : Int) != (na : Int)) = false := by simp
    go_enter Tryd.func11, Tryd.ntmps11
    go_wp2
    go_loopw [5] (fun i wr => ∃ k q : Nat, k ≤ na ∧ i = .int .i64 k ∧ a.take k = b.take k ∧ wr = w.drewN q) (fun i _ => na - (intOf i).toNat)
    case atStart => exact ⟨0, 0, Nat.zero_le _, rfl, rfl, rfl⟩
    case round =>
      obtain ⟨k, q, hk, rfl, ht, rfl⟩ := hrel
      have Ht := Lib.hid ht
      clear ht
      by_cases hlt : k < na
      · obtain ⟨ba, oa, rfl, hca⟩ := ha.read k hlt
        obtain ⟨bb, ob, rfl, hcb⟩ := hb.read k hlt
        have h1 := hca k hlt
        have h2 := hcb k hlt
        have hst := fun he => takeS_eq_step ByteArray.empty a b k (by rw [HAL.out]; exact hlt) (by rw [HAL.out, HBL.out]) Ht.out he
        have hnd : a[k]?.getD ByteArray.empty ≠ b[k]?.getD ByteArray.empty → decide (a = b) = false := by
          intro hne; simp; intro e; exact hne (by rw [e])
        clear hca hcb
        generalize a[k]?.getD ByteArray.empty = x at h1 hst hnd
        generalize b[k]?.getD ByteArray.empty = y at h2 hst hnd
        by_cases he : x = y
        · have Hst := Lib.hid (hst he)
          subst he
          clear hst hnd
          go_wp2
          go_quiet (fail)
          go_wp2
          go_roundw
          case rel => exact ⟨k + 1, _, by omega, by go_num, Hst.out, rfl⟩
          case measure => simp [intOf]; omega
        · have Hd := Lib.hid (hnd he)
          have hq : (ByteArray.toList x == ByteArray.toList y) = false := str_ne he
          clear hst hnd
          go_wp2
          go_quiet (fail)
          go_wp2
          go_ret
          exact ⟨ret_bool Hd.out.symm, _, World.drewN_drewN _ _ _⟩
      · have hd : decide (a = b) = true := by
          have := Ht.out
          rw [List.take_of_length_le (by rw [HAL.out]; omega), List.take_of_length_le (by rw [HBL.out]; omega)] at this
          simpa using this
        have Hd := Lib.hid hd
        clear hd
        go_wp2
        go_ret
        exact ⟨ret_bool Hd.out.symm, _, rfl⟩
  · have hne : ((na : Int) != (nb : Int)) = true := by rw [bne_iff_ne]; omega
    have hd : Hid (decide (a = b) = false) := by
      simp only [Hid, decide_eq_false_iff_not]; intro e; exact hl (by rw [← HAL.out, ← HBL.out, e])
    clear hl
    go_enter Tryd.func11, Tryd.ntmps11
    go_wp2
    go_ret
    exact ⟨ret_bool hd.out.symm, 0, rfl⟩

set_option maxHeartbeats 1000000 in
theorem eqParts_any (w : World) (aa : Option Addr) (na ca : Nat) (a : List Prt) (ha : PT w (.slice aa na ca) a) (ab : Option Addr) (nb cb : Nat) (b : List Prt) (hb : PT w (.slice ab nb cb) b) :
    Calls Tryd.prog 32 #[.slice aa na ca, .slice ab nb cb] w fun e w' => e = .returned (.bool (decide (a = b))) ∧ ∃ n, w' = w.drewN n := by
  obtain ⟨hal, han, -, -⟩ := ha.len
  obtain ⟨hbl, hbn, -, -⟩ := hb.len
  have HAL := Lib.hid hal
  have HBL := Lib.hid hbl
  clear hal hbl
  by_cases hl : na = nb
  · subst hl
    have hne : ((na : Int) != (na : Int)) = false := by simp
    go_enter Tryd.func32, Tryd.ntmps32
    go_wp2
    go_loopw [5] (fun i wr => ∃ k q : Nat, k ≤ na ∧ i = .int .i64 k ∧ a.take k = b.take k ∧ wr = w.drewN q) (fun i _ => na - (intOf i).toNat)
    case atStart => exact ⟨0, 0, Nat.zero_le _, rfl, rfl, rfl⟩
    case round =>
      obtain ⟨k, q, hk, rfl, ht, rfl⟩ := hrel
      have Ht := Lib.hid ht
      clear ht
      by_cases hlt : k < na
      · obtain ⟨ba, oa, rfl, hca⟩ := ha.read k hlt
        obtain ⟨bb, ob, rfl, hcb⟩ := hb.read k hlt
        obtain ⟨h1, h1'⟩ := hca k hlt
        obtain ⟨h2, h2'⟩ := hcb k hlt
        have hst := fun he => takeS_eq_step (false, ByteArray.empty) a b k (by rw [HAL.out]; exact hlt) (by rw [HAL.out, HBL.out]) Ht.out he
        have hnd : a[k]?.getD (false, ByteArray.empty) ≠ b[k]?.getD (false, ByteArray.empty) → decide (a = b) = false := by
          intro hne; simp; intro e; exact hne (by rw [e])
        clear hca hcb
        generalize a[k]?.getD (false, ByteArray.empty) = x at h1 h1' hst hnd
        generalize b[k]?.getD (false, ByteArray.empty) = y at h2 h2' hst hnd
        obtain ⟨x1, x2⟩ := x
        obtain ⟨y1, y2⟩ := y
        dsimp only at h1 h1' h2 h2'
        by_cases he : x1 = y1
        · subst he
          by_cases he2 : x2 = y2
          · subst he2
            have Hst := Lib.hid (hst rfl)
            clear hst hnd
            cases x1
            · go_wp2
              go_quiet (fail)
              go_wp2
              go_roundw
              case rel => exact ⟨k + 1, _, by omega, by go_num, Hst.out, rfl⟩
              case measure => simp [intOf]; omega
            · go_wp2
              go_quiet (fail)
              go_wp2
              go_roundw
              case rel => exact ⟨k + 1, _, by omega, by go_num, Hst.out, rfl⟩
              case measure => simp [intOf]; omega
          · have Hd := Lib.hid (hnd (by intro e; simp only [Prod.mk.injEq] at e; exact he2 e.2))
            have hq : (ByteArray.toList x2 == ByteArray.toList y2) = false := str_ne he2
            clear hst hnd he2
            cases x1
            · go_wp2
              go_quiet (fail)
              go_wp2
              go_ret
              exact ⟨ret_bool Hd.out.symm, _, World.drewN_drewN _ _ _⟩
            · go_wp2
              go_quiet (fail)
              go_wp2
              go_ret
              exact ⟨ret_bool Hd.out.symm, _, World.drewN_drewN _ _ _⟩
        · have Hd := Lib.hid (hnd (by intro e; simp only [Prod.mk.injEq] at e; exact he e.1))
          have hq : (x1 == y1) = false := by cases x1 <;> cases y1 <;> simp_all
          clear hst hnd he
          go_wp2
          go_quiet (fail)
          go_wp2
          go_ret
          exact ⟨ret_bool Hd.out.symm, _, World.drewN_drewN _ _ _⟩
      · have hd : decide (a = b) = true := by
          have := Ht.out
          rw [List.take_of_length_le (by rw [HAL.out]; omega), List.take_of_length_le (by rw [HBL.out]; omega)] at this
          simpa using this
        have Hd := Lib.hid hd
        clear hd
        go_wp2
        go_ret
        exact ⟨ret_bool Hd.out.symm, _, rfl⟩
  · have hne : ((na : Int) != (nb : Int)) = true := by rw [bne_iff_ne]; omega
    have hd : Hid (decide (a = b) = false) := by
      simp only [Hid, decide_eq_false_iff_not]; intro e; exact hl (by rw [← HAL.out, ← HBL.out, e])
    clear hl
    go_enter Tryd.func32, Tryd.ntmps32
    go_wp2
    go_ret
    exact ⟨ret_bool hd.out.symm, 0, rfl⟩
end Go.Proofs.YtgepjjpcokbpjaaDoor
