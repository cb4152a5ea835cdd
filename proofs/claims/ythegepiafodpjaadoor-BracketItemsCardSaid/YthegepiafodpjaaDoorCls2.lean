/-
  Classes: Not by definition, Size.
-/
import Derived.Test.YthegepiafodpjaaDoorCops
import Derived.Lib.BitFns
namespace Go.Proofs.YthegepiafodpjaaDoor
open Go.RowKit

set_option maxRecDepth 100000 in
set_option maxHeartbeats 1000000 in
theorem refNot_any (w : World) (a : List Nat) (ha : IsC a) :
    Calls Tryd.prog 34 #[.agg (row64 a)] w fun e w' => e = .returned (.agg (row64 (notL a))) ∧ Below w.heap.size w w' := by
  have ra : Arr64 (w.alloc (.cells (row64 a) 28)) w.heap.size 28 a := Arr64.new _ _ _
  have HA := Lib.hid ha
  have HM := Lib.hid (isC_not a ha)
  clear ha
  go_enter Tryd.func34, Tryd.ntmps34
  go_wp2
  go_loopw [4] (fun i wr => ∃ (k : Nat) (acc : List Nat), k ≤ 256 ∧ i = .int .i64 k ∧ Hid (IsC acc) ∧ Hid (∀ y : Nat, y < 256 → hasL acc y = (decide (y < k) && hasL (notL a) y)) ∧
    Arr64 wr (w.heap.size + 1 + 1) 28 acc ∧ Arr64 wr w.heap.size 28 a ∧
    Arr64 wr (w.heap.size + 1) 28 noneL ∧ Below w.heap.size w wr) (fun i _ => 256 - (intOf i).toNat)
  case atStart =>
    exact ⟨0, noneL, by omega, rfl, Lib.hid isC_none, Lib.hid (fun y hy => by rw [has_none]; simp), heap_alloc3 _ _ _ _, (ra.alloc _).alloc _, Arr64.alloc (l := noneL) (heap_alloc2 _ _ _) _, (below_alloc2 _ _ _).alloc (by simp [World.size_alloc]; omega) _⟩
  case round =>
    obtain ⟨k, acc, hk, rfl, HC, HX, rc, ra, rr, ab⟩ := hrel
    by_cases hlt : k < 256
    · have hw : IntKind.u8.wrap (k : Int) = (k : Int) := by rw [IntKind.wrap_u8]; omega
      go_wp2_with (refine wpList_load_row rfl 28 _ rfl w.heap.size rfl 28 _ (0, 0) _ ra Tryd.underlying28 rfl (by rw [row64_size, HA.out.1]; exact infoC) ?_)
      refine (refHas_any _ a HA.out k hlt).mono ?_
      rintro e w1 ⟨rfl, hb1⟩
      have ra := ra.below hb1 ra.lt
      have rr := rr.below hb1 rr.lt
      have rc := rc.below hb1 rc.lt
      have ab := ab.trans (hb1.mono ab.size)
      clear hb1
      cases hva : hasL a k with
      | false =>
        have HP : Hid (hasL (notL a) k = true) := Lib.hid (by rw [has_not a HA.out k hlt, hva]; rfl)
        clear hva
        have HN := Lib.hid (upto_take acc (notL a) k HX.out HP.out HC.out hlt)
        have HCN := Lib.hid (isC_with acc k HC.out)
        go_wp2_with (refine wpList_load_row rfl 28 _ rfl (w.heap.size + 1 + 1) rfl 28 _ (0, 0) _ rc Tryd.underlying28 rfl (by rw [row64_size, HC.out.1]; exact infoC) ?_)
        refine (with_any _ acc HC.out k hlt).mono ?_
        rintro e w3 ⟨rfl, hb3⟩
        have ra := ra.below hb3 ra.lt
        have rr := rr.below hb3 rr.lt
        have rc := rc.below hb3 rc.lt
        have ab := ab.trans (hb3.mono ab.size)
        clear hb3
        go_wp2_with (refine wpList_store_cells rfl 28 _ _ rfl rfl (w.heap.size + 1 + 1) 28 _ _ rfl rfl rc (by rw [row64_size, row64_size, HC.out.1, HCN.out.1]) (by rw [row64_size, HCN.out.1]; exact infoC) (row64_one _) ?_)
        go_roundw
        case rel => exact ⟨k + 1, withL acc k, by omega, by go_num, HCN, HN, setRow_heap _ _ _ _ _ _ rc, ra.setRow_other (by omega) _, rr.setRow_other (by omega) _, below_setRowC ab (by omega) _⟩
        case measure => simp [intOf]; omega
      | true =>
        have HP : Hid (hasL (notL a) k = false) := Lib.hid (by rw [has_not a HA.out k hlt, hva]; rfl)
        clear hva
        have HN := Lib.hid (upto_skip acc (notL a) k HX.out HP.out)
        go_wp2_with fail
        go_roundw
        case rel => exact ⟨k + 1, acc, by omega, by go_num, HC, HN, rc, ra, rr, ab⟩
        case measure => simp [intOf]; omega
    · obtain rfl : k = 256 := by omega
      have e := upto_done acc (notL a) HC.out HM.out HX.out
      subst e
      go_wp2_with (first | (refine wpList_load_row rfl 28 _ rfl (w.heap.size + 1 + 1) rfl 28 _ (0, 0) _ rc Tryd.underlying28 rfl (by rw [row64_size, HM.out.1]; exact infoC) ?_) | (refine wpList_store_cells rfl 28 _ _ rfl rfl (w.heap.size + 1) 28 _ _ rfl rfl rr (by rw [row64_size, row64_size, HM.out.1]; rfl) (by rw [row64_size, HM.out.1]; exact infoC) (row64_one _) ?_))
      exact ret_cls rfl rfl (setRow_heap _ _ _ _ _ _ rr) Tryd.underlying28 rfl (by rw [row64_size, HM.out.1]; exact infoC) rfl ⟨rfl, below_setRowC ab (by omega) _⟩

/-- How many of the first k bytes the class has. -/
def cntL (a : List Nat) (k : Nat) : Nat := ((List.range k).filter (hasL a)).length
theorem cnt_step (a : List Nat) (k : Nat) : cntL a (k + 1) = cntL a k + if hasL a k = true then 1 else 0 := by
  unfold cntL
  rw [List.range_succ, List.filter_append, List.length_append]
  congr 1
  by_cases h : hasL a k = true <;> simp [h]
theorem cnt_le (a : List Nat) (k : Nat) : cntL a k ≤ k := by
  unfold cntL
  exact Nat.le_trans (List.length_filter_le _ _) (by simp)

end Go.Proofs.YthegepiafodpjaaDoor
