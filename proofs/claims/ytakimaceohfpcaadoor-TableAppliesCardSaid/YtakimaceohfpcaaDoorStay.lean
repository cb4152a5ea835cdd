/-
  table.staying: the table by which all bytes stay.
-/
import Derived.Test.YtakimaceohfpcaaDoorBytes
import Derived.Test.YtakimaceohfpcaaDoorApp
import Derived.Lib.Hide
namespace Go.Proofs.YtakimaceohfpcaaDoor
open Go.RowKit

/-- The row of zeros. -/
def zrow : List Int := List.replicate 256 0
theorem zrow_len : zrow.length = 256 := List.length_replicate
theorem zeroT (w : World) : (zeroValue 73).run Tryd.prog w = .ok (.agg (row zrow)) w := by kernel_rfl
theorem infoT : (Tryd.prog.info? 73).map (·.size) = some 256 := by kernel_rfl
theorem made256 (w : World) : (Instr.makeSlice 48 (.int .i64 256) (.int .i64 256)).run Tryd.prog w = .ok (.slice (some ⟨w.heap.size, 0, none⟩) 256 256) (w.alloc (.cells (row zrow) 5)) :=
  madeB w 256 (by omega)

/-- The table by which all bytes stay. -/
def iden : List Int := (List.range 256).map Int.ofNat
theorem iden_len : iden.length = 256 := by unfold iden; rw [List.length_map, List.length_range]
theorem iden_get (j : Nat) (hj : j < 256) : iden[j]?.getD 0 = (j : Int) := by
  unfold iden
  rw [List.getElem?_map, List.getElem?_range hj]
  rfl
theorem iden_of (l : List Int) (hl : l.length = 256) (h : ∀ j : Nat, j < 256 → l[j]?.getD 0 = (j : Int)) : l = iden :=
  ext_of l iden (by rw [hl, iden_len]) fun j hj => by rw [h j (by omega), iden_get j (by omega)]

set_option maxHeartbeats 400000 in
set_option maxRecDepth 100000 in
theorem staying_any (w : World) :
    Calls Tryd.prog 97 #[] w fun e w' => e = .returned (.agg (row iden)) ∧ Below w.heap.size w w' := by
  have hz := zeroT
  have hm := made256
  have hl0 := zrow_len
  have HL0 := Lib.hid hl0
  clear hl0
  have h0 : Arr (w.alloc (.cells (row zrow) 73)) w.heap.size 73 zrow := Arr.new _ _ _
  have h1 : Arr ((w.alloc (.cells (row zrow) 73)).alloc (.cells (row zrow) 5)) (w.heap.size + 1) 5 zrow := by
    have := Arr.new (w.alloc (.cells (row zrow) 73)) 5 zrow
    rwa [World.size_alloc] at this
  have hb : Below w.heap.size w ((w.alloc (.cells (row zrow) 73)).alloc (.cells (row zrow) 5)) := ((Below.refl _ w).alloc (Nat.le_refl _) _).alloc (by simp) _
  go_enter Tryd.func97, Tryd.ntmps97
  go_wp2
  go_loopw [6] (fun i wr => ∃ (k : Nat) (l : List Int), k ≤ 256 ∧ i = .int .i64 k ∧ l.length = 256 ∧ (∀ j, j < k → l[j]?.getD 0 = (j : Int)) ∧
    Arr wr w.heap.size 73 zrow ∧ Arr wr (w.heap.size + 1) 5 l ∧ Below w.heap.size w wr) (fun i _ => 256 - (intOf i).toNat)
  case atStart => exact ⟨0, zrow, Nat.zero_le _, rfl, zrow_len, fun j hj => by omega, h0.alloc _, h1, hb⟩
  case round =>
    obtain ⟨k, l, hk, rfl, hll, hlj, ha0, ha1, hbl⟩ := hrel
    have HLL := Lib.hid hll
    have HLJ := Lib.hid hlj
    clear hll hlj h0 h1 hb
    by_cases hlt : k < 256
    · have hc := ha1.cell k (by rw [HLL.out]; exact hlt)
      have hf := ha1.frozen k
      go_wp2
      go_roundw
      case rel =>
        refine ⟨k + 1, l.set k k, by omega, by go_num, by rw [List.length_set, HLL.out], fun j hj => ?_, ha0.other _ (by simp) _, ha1.set _ _, hbl.setCell (by simp) _⟩
        rw [List.getElem?_set]
        split
        · subst_vars
          rw [if_pos (by rw [HLL.out]; exact hlt)]; rfl
        · exact HLJ.out j (by omega)
      case measure => simp [intOf]; omega
    · have hk' : 256 ≤ k := by omega
      have hat : ∀ (w : World) a cap, (Instr.arrayAt 73 (.slice a 256 cap)).run Tryd.prog w = .ok (.pointer a) w := fun w a cap => run_arrayAt w 73 _ 256 a 256 cap Tryd.underlying73 (Nat.le_refl _)
      have hi : (Tryd.prog.info? 73).map (·.size) = some (row l).size := by rw [row_size, HLL.out]; exact infoT
      have Hi := Lib.hid hi
      clear hi hm hz
      go_wp2_with (first | (refine wpList_load_row rfl 73 _ rfl (w.heap.size + 1) rfl 5 _ (0, 0) _ ha1 Tryd.underlying73 rfl Hi.out ?_) | (refine wpList_store_row rfl 73 _ _ rfl rfl w.heap.size 73 _ _ rfl rfl ha0 (by rw [row_size, row_size, HLL.out]; rfl) Hi.out (row_one _) ?_))
      exact ret_row (l := l) rfl rfl ha0.setRow Tryd.underlying73 rfl (by rw [HLL.out]; exact infoT) rfl ⟨by rw [iden_of l HLL.out (fun j hj => HLJ.out j (by omega))], below_setRow hbl (Nat.le_refl _) _⟩
end Go.Proofs.YtakimaceohfpcaaDoor
