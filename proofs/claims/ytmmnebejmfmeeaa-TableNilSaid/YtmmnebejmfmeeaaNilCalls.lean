/-
  table: the calls on nil tables.
-/
import Derived.Test.YtmmnebejmfmeeaaNew
namespace Go.Proofs.Ytmmnebejmfmeeaa
open Go.RowKit

set_option maxHeartbeats 400000 in
theorem apply_nil (w : World) (v : Value) : Calls Try.prog 22 #[.pointer none, v] w fun e w' => e = .returned (.slice none 0 0) ∧ w = w' := by
  go_enter Try.func22, Try.ntmps22
  go_wp2
  go_ret
  exact ⟨rfl, rfl⟩

set_option maxHeartbeats 400000 in
theorem print_nil (w : World) : Calls Try.prog 23 #[.pointer none] w fun e w' => e = .returned (.tuple #[.slice none 0 0, .slice none 0 0]) ∧ Below w.heap.size w w' := by
  go_enter Try.func23, Try.ntmps23
  go_wp2
  go_quiet (fail)
  go_wp2
  go_ret2
  exact ⟨rfl, below_drewN (Below.refl _ _) _⟩

set_option maxHeartbeats 400000 in
set_option maxRecDepth 100000 in
theorem then_nil1 (w : World) (q : Value) : Calls Try.prog 21 #[.pointer none, q] w fun e w' => e = .returned (.agg (row zrow)) ∧ Below w.heap.size w w' := by
  have hz := zeroT
  have hbu := buildT
  have h0 : Arr (w.alloc (.cells (row zrow) 27)) w.heap.size 27 zrow := Arr.new _ _ _
  have hbe : Below w.heap.size w (w.alloc (.cells (row zrow) 27)) := (Below.refl _ w).alloc (Nat.le_refl _) _
  go_enter Try.func21, Try.ntmps21
  go_wp2_with (refine wpList_store_row rfl 27 _ _ rfl rfl w.heap.size 27 _ _ rfl rfl h0 rfl (by rw [row_size]; exact infoT) (row_one _) ?_)
  exact ret_row (l := zrow) rfl rfl h0.setRow Try.underlying27 rfl infoT rfl ⟨rfl, below_setRow hbe (Nat.le_refl _) _⟩

set_option maxHeartbeats 400000 in
set_option maxRecDepth 100000 in
theorem then_nil2 (w : World) (a : Addr) : Calls Try.prog 21 #[.pointer (some a), .pointer none] w fun e w' => e = .returned (.agg (row zrow)) ∧ Below w.heap.size w w' := by
  have hz := zeroT
  have hbu := buildT
  have h0 : Arr (w.alloc (.cells (row zrow) 27)) w.heap.size 27 zrow := Arr.new _ _ _
  have hbe : Below w.heap.size w (w.alloc (.cells (row zrow) 27)) := (Below.refl _ w).alloc (Nat.le_refl _) _
  go_enter Try.func21, Try.ntmps21
  go_wp2_with (refine wpList_store_row rfl 27 _ _ rfl rfl w.heap.size 27 _ _ rfl rfl h0 rfl (by rw [row_size]; exact infoT) (row_one _) ?_)
  exact ret_row (l := zrow) rfl rfl h0.setRow Try.underlying27 rfl infoT rfl ⟨rfl, below_setRow hbe (Nat.le_refl _) _⟩

end Go.Proofs.Ytmmnebejmfmeeaa
