/-
  class.Size: how many bytes a class has.
-/
import Derived.Test.YtakimaceohfpcaaCls2
import Derived.Test.YtakimaceohfpcaaOnes
namespace Go.Proofs.Ytakimaceohfpcaa
open Go.RowKit

theorem cnt_word (a : List Nat) (k : Nat) : cntL a (64 * (k + 1)) = cntL a (64 * k) + popN 64 (a[k]?.getD 0) := by
  unfold cntL popN
  rw [show 64 * (k + 1) = 64 * k + 64 by omega, List.range_add, List.filter_append, List.length_append]
  congr 1
  rw [List.filter_map, List.length_map]
  congr 1
  apply List.filter_congr
  intro j hj
  have hj : j < 64 := by simpa using hj
  simp only [Function.comp_apply]
  unfold hasL
  rw [show (64 * k + j) / 64 = k by omega, show (64 * k + j) % 64 = j by omega]
theorem pop_le (x : Nat) : popN 64 x ≤ 64 := by
  unfold popN
  exact Nat.le_trans (List.length_filter_le _ _) (by simp)

set_option maxRecDepth 10000 in
set_option maxHeartbeats 1000000 in
theorem size_any (w : World) (a : List Nat) (ha : IsC a) :
    Calls Try.prog 22 #[.agg (row64 a)] w fun e w' => e = .returned (.int .i64 (cntL a 256 : Nat)) ∧ Below w.heap.size w w' := by
  have hsa : (row64 a).size = 4 := by rw [row64_size, ha.1]
  have ra : Arr64 (w.alloc (.cells (row64 a) 24)) w.heap.size 24 a := Arr64.new _ _ _
  have HA := Lib.hid ha
  clear ha
  go_enter Try.func22, Try.ntmps22
  go_wp2
  go_loopw [3, 6] (fun n i wr => ∃ (k : Nat), k ≤ 4 ∧ i = .int .i64 k ∧ n = .int .i64 (cntL a (64 * k) : Nat) ∧ Arr64 wr w.heap.size 24 a ∧ Below w.heap.size w wr) (fun _ i _ => 4 - (intOf i).toNat)
  case atStart => exact ⟨0, by omega, rfl, rfl, ra, (Below.refl _ w).alloc (Nat.le_refl _) _⟩
  case round =>
    obtain ⟨k, hk, rfl, rfl, ra, ab⟩ := hrel
    by_cases hlt : k < 4
    · have HS := Lib.hid (cnt_word a k)
      have hcl := cnt_le a (64 * k)
      have hca := ra.cell k (by rw [HA.out.1]; exact hlt)
      have hlw := HA.out.2 k
      have hpl := pop_le (a[k]?.getD 0)
      generalize a[k]?.getD 0 = x at HS hca hlw hpl
      generalize cntL a (64 * k) = c at HS hcl ⊢
      go_wp2_with fail
      refine (ones_any _ x hlw).mono ?_
      rintro e w1 ⟨rfl, rfl⟩
      generalize popN 64 x = p at HS hpl ⊢
      go_wp2
      go_roundw
      case rel => exact ⟨k + 1, by omega, by go_num, by rw [HS.out]; simp, ra, ab⟩
      case measure => simp [intOf]; omega
    · obtain rfl : k = 4 := by omega
      go_wp2_with fail
      go_ret
      exact ⟨rfl, ab⟩
end Go.Proofs.Ytakimaceohfpcaa
