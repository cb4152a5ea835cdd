/-
  galleylaw15.TableNil: nil tables.
-/
import Derived.Test.YtmmnebejmfmeeaaNilCalls
import Derived.Test.YtmmnebejmfmeeaaLives
import Derived.Test.YtmmnebejmfmeeaaEqRow
import Derived.Test.YtmmnebejmfmeeaaHeld
namespace Go.Proofs.Ytmmnebejmfmeeaa
open Go.RowKit

set_option maxHeartbeats 1000000 in
set_option maxRecDepth 100000 in
theorem nil_walk (w : World) (t : List Int) (v : Value) :
    Calls Try.prog 7 #[.agg (row t), v] w fun e w' => e = .returned (.bool true) ∧ Below w.heap.size w w' := by
  have hz := zeroT
  have hbu := buildT
  have b0 : Below w.heap.size w (w.alloc (.cells (row t) 27)) := (Below.refl _ w).alloc (Nat.le_refl _) _
  go_enter Try.func7, Try.ntmps7
  go_wp2_with fail
  refine (print_nil _).mono ?_
  rintro e w1 ⟨rfl, hb1⟩
  have b1 := b0.trans (hb1.mono b0.size)
  have h1 : Arr (w1.alloc (.cells (row zrow) 27)) w1.heap.size 27 zrow := Arr.new _ _ _
  clear hb1 b0
  go_wp2_with (refine wpList_store_row rfl 27 _ _ rfl rfl w1.heap.size 27 _ _ rfl rfl h1 rfl (by rw [row_size]; exact infoT) (row_one _) ?_)
  have c1 : Arr ((w1.alloc (.cells (row zrow) 27)).setRow w1.heap.size (row zrow)) w1.heap.size 27 zrow := h1.setRow
  have b2 : Below w.heap.size w ((w1.alloc (.cells (row zrow) 27)).setRow w1.heap.size (row zrow)) := below_setRow (b1.alloc b1.size _) b1.size _
  generalize (w1.alloc (.cells (row zrow) 27)).setRow w1.heap.size (row zrow) = V at c1 b2 ⊢
  generalize w1.heap.size = g at c1 ⊢
  clear h1 b1
  have hr := c1.range
  clear c1 hz hbu
  obtain ⟨T, hP⟩ : ∃ T, withT Try.prog T = Try.prog := ⟨_, withT_self _⟩
  have heq : ∀ w, (binOp .eql 27 (.agg (row zrow)) (.agg (row zrow))).run (withT Try.prog T) w = .ok (.bool (decide (zrow = zrow))) w := fun w => by rw [hP]; exact run_eql_row w zrow zrow zrow_len zrow_len
  have hgu : ∀ w op x y xs ys, (eqGuard op 27 x y (.agg xs) (.agg ys)).run (withT Try.prog T) w = .ok () w := by rw [hP]; exact run_guardT
  have hlen : ∀ w, (Builtin.len_ #[22] 3 #[.slice none 0 0]).run (withT Try.prog T) w = .ok (.int .i64 0) w := fun w => by rw [hP]; kernel_rfl
  have hq3 : ∀ w, (binOp .eql 3 (.int .i64 0) (.int .i64 0)).run (withT Try.prog T) w = .ok (.bool true) w := fun w => by rw [hP]; kernel_rfl
  obtain ⟨N, hN⟩ : ∃ N, N = 256 := ⟨_, rfl⟩
  have hag : ∀ w, (isAgg 27).run (withT Try.prog T) w = .ok true w := by rw [hP]; exact Try.isAgg27
  have hsz : ∀ w, (sizeOf 27).run (withT Try.prog T) w = .ok N w := by rw [hP, hN]; exact Try.sizeOf27
  have hlc : ∀ (w : World) (g : Nat), w.rangeAt g 0 (row zrow).toList → (loadCellsFrom ⟨g, 0, none⟩ 0 N #[]).run (withT Try.prog T) w = .ok (row zrow) w := fun w g h => by
    have := run_loadCells_list (P := withT Try.prog T) w ⟨g, 0, none⟩ (row zrow).toList (fun j v hv => by rw [Addr.add_mid]; exact h j v hv)
    rw [Array.length_toList, row_size, zrow_len, Array.toArray_toList, ← hN] at this
    exact this
  have k1 : ∀ w v, Calls (withT Try.prog T) 22 #[.pointer none, v] w fun e w' => e = .returned (.slice none 0 0) ∧ w = w' := by rw [hP]; exact apply_nil
  have k2 : ∀ w q, Calls (withT Try.prog T) 21 #[.pointer none, q] w fun e w' => e = .returned (.agg (row zrow)) ∧ Below w.heap.size w w' := by rw [hP]; exact then_nil1
  have k3 : ∀ w a, Calls (withT Try.prog T) 21 #[.pointer (some a), .pointer none] w fun e w' => e = .returned (.agg (row zrow)) ∧ Below w.heap.size w w' := by rw [hP]; exact then_nil2
  have k4 : ∀ w, Calls (withT Try.prog T) 9 #[] w fun e w' => e = .returned (.bool true) ∧ Below w.heap.size w w' := by rw [hP]; exact lives_any
  have e1 : ∀ args w, (callFunc 22 args).run (withT Try.prog T) w = .ok (.enter 22 args) w := by rw [hP]; exact Try.call22
  have e2 : ∀ args w, (callFunc 21 args).run (withT Try.prog T) w = .ok (.enter 21 args) w := by rw [hP]; exact Try.call21
  have e3 : ∀ args w, (callFunc 9 args).run (withT Try.prog T) w = .ok (.enter 9 args) w := by rw [hP]; exact Try.call9
  have K1 := Lib.hid k1
  have K2 := Lib.hid k2
  have K3 := Lib.hid k3
  have K4 := Lib.hid k4
  rw [← hP]
  clear hP k1 k2 k3 k4 hN
  go_region_held3 (fun w' => w'.rangeAt g 0 (row zrow).toList ∧ Below w.heap.size w w') (first | exact ⟨hr, b2.drew⟩ | assumption | exact keepS (by assumption) (by assumption))
    (first | (go_at_call 22; refine (K1.out _ _).mono ?_; rintro e w' ⟨rfl, rfl⟩) | (go_at_call 21; (first | with_reducible refine (K2.out _ _).mono ?_ | with_reducible refine (K3.out _ _).mono ?_); rintro e w' ⟨rfl, hb'⟩) | (go_at_call 9; refine (K4.out _).mono ?_; rintro e w' ⟨rfl, hb'⟩))
  have hfin : Below w.heap.size w w' := (by assumption : w'.rangeAt g 0 (row zrow).toList ∧ Below w.heap.size w w').2
  clear hb'
  go_wp2
  go_ret
  exact ⟨rfl, hfin⟩
end Go.Proofs.Ytmmnebejmfmeeaa
