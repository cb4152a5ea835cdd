/-
  galleyref01.Size.
-/
import Derived.Test.YthegepiafodpjaaDoorCls2
namespace Go.Proofs.YthegepiafodpjaaDoor
open Go.RowKit

set_option maxRecDepth 100000 in
set_option maxHeartbeats 1000000 in
theorem refSize_any (w : World) (a : List Nat) (ha : IsC a) :
    Calls Tryd.prog 38 #[.agg (row64 a)] w fun e w' => e = .returned (.int .i64 (cntL a 256 : Nat)) ∧ Below w.heap.size w w' := by
  have ra : Arr64 (w.alloc (.cells (row64 a) 28)) w.heap.size 28 a := Arr64.new _ _ _
  have HA := Lib.hid ha
  clear ha
  go_enter Tryd.func38, Tryd.ntmps38
  go_wp2
  go_loopw [3, 4] (fun n i wr => ∃ (k : Nat), k ≤ 256 ∧ i = .int .i64 k ∧ n = .int .i64 (cntL a k : Nat) ∧ Arr64 wr w.heap.size 28 a ∧ Below w.heap.size w wr) (fun _ i _ => 256 - (intOf i).toNat)
  case atStart => exact ⟨0, by omega, rfl, rfl, ra, (Below.refl _ w).alloc (Nat.le_refl _) _⟩
  case round =>
    obtain ⟨k, hk, rfl, rfl, ra, ab⟩ := hrel
    by_cases hlt : k < 256
    · have hw : IntKind.u8.wrap (k : Int) = (k : Int) := by rw [IntKind.wrap_u8]; omega
      have hs := cnt_step a k
      have hcl := cnt_le a k
      go_wp2_with (refine wpList_load_row rfl 28 _ rfl w.heap.size rfl 28 _ (0, 0) _ ra Tryd.underlying28 rfl (by rw [row64_size, HA.out.1]; exact infoC) ?_)
      refine (refHas_any _ a HA.out k hlt).mono ?_
      rintro e w1 ⟨rfl, hb1⟩
      have ra := ra.below hb1 ra.lt
      have ab := ab.trans (hb1.mono ab.size)
      clear hb1
      cases hva : hasL a k with
      | false =>
        rw [hva] at hs
        have HS := Lib.hid hs
        clear hs hva
        generalize cntL a k = c at HS hcl ⊢
        go_wp2_with fail
        go_roundw
        case rel => exact ⟨k + 1, by omega, by go_num, by rw [HS.out]; simp, ra, ab⟩
        case measure => simp [intOf]; omega
      | true =>
        rw [hva] at hs
        have HS := Lib.hid hs
        clear hs hva
        generalize cntL a k = c at HS hcl ⊢
        go_wp2_with fail
        go_roundw
        case rel => exact ⟨k + 1, by omega, by go_num, by rw [HS.out]; simp, ra, ab⟩
        case measure => simp [intOf]; omega
    · obtain rfl : k = 256 := by omega
      go_wp2_with fail
      go_ret
      exact ⟨rfl, ab⟩
end Go.Proofs.YthegepiafodpjaaDoor
