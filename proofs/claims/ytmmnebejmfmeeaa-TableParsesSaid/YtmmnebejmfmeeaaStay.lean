/-
  table.staying: the table by which all bytes stay.
-/
import Derived.Test.YtmmnebejmfmeeaaBase
import Derived.Lib.Hide
namespace Go.Proofs.Ytmmnebejmfmeeaa
open Go.RowKit

/-- The row of zeros. -/
def zrow : List Int := List.replicate 256 0
theorem zrow_len : zrow.length = 256 := List.length_replicate
theorem zeroT (w : World) : (zeroValue 27).run Try.prog w = .ok (.agg (row zrow)) w := by kernel_rfl
theorem infoT : (Try.prog.info? 27).map (·.size) = some 256 := by kernel_rfl
theorem infoB : (Try.prog.info? 5).map (fun i => (i.zero, i.size, i.bytes)) = some (some (.int .u8 0), 1, 1) := by kernel_rfl

theorem madeB (w : World) (n : Nat) (hn : n ≤ 140737488351232) : (Instr.makeSlice 22 (.int .i64 n) (.int .i64 n)).run Try.prog w = .ok (.slice (some ⟨w.heap.size, 0, none⟩) n n) (w.alloc (.cells (row (List.replicate n 0)) 5)) := by
  obtain ⟨i, hi, hz, hs, hb⟩ := info_parts infoB
  have h := run_make (P := Try.prog) w 22 5 i (.int .u8 0) Try.underlying22 hi hz .i64 .i64 n n (by omega) (by omega) (by rw [hb]; omega) (by omega)
  rw [h, hs]
  have e : madeCells (Value.cells (.int .u8 0)) ((n : Int).toNat * 1) = row (List.replicate n 0) := by
    apply Array.ext'
    simp [madeCells, row, Value.cells, Nat.mod_one]
    exact List.eq_replicate_iff.2 ⟨by simp, fun b hb => by simp at hb; obtain ⟨_, _, rfl⟩ := hb; rfl⟩
  rw [e]
  simp

theorem made256 (w : World) : (Instr.makeSlice 22 (.int .i64 256) (.int .i64 256)).run Try.prog w = .ok (.slice (some ⟨w.heap.size, 0, none⟩) 256 256) (w.alloc (.cells (row zrow) 5)) :=
  madeB w 256 (by omega)

/-- The table by which all bytes stay. -/
def iden : List Int := (List.range 256).map Int.ofNat
theorem iden_len : iden.length = 256 := by unfold iden; rw [List.length_map, List.length_range]
theorem iden_get (j : Nat) (hj : j < 256) : iden[j]?.getD 0 = (j : Int) := by
  unfold iden
  rw [List.getElem?_map, List.getElem?_range hj]
  rfl
theorem iden_of (l : List Int) (hl : l.length = 256) (h : ∀ j : Nat, j < 256 → l[j]?.getD 0 = (j : Int)) : l = iden :=
  ext_of l iden (by rw [hl, iden_len]) fun j hj => by rw [h j (by omega), iden_get j (by omega)]

set_option maxHeartbeats 400000 in
set_option maxRecDepth 100000 in
theorem staying_any (w : World) :
    Calls Try.prog 24 #[] w fun e w' => e = .returned (.agg (row iden)) ∧ Below w.heap.size w w' := by
  have hz := zeroT
  have hm := made256
  have hl0 := zrow_len
  have HL0 := Lib.hid hl0
  clear hl0
  have h0 : Arr (w.alloc (.cells (row zrow) 27)) w.heap.size 27 zrow := Arr.new _ _ _
  have h1 : Arr ((w.alloc (.cells (row zrow) 27)).alloc (.cells (row zrow) 5)) (w.heap.size + 1) 5 zrow := by
    have := Arr.new (w.alloc (.cells (row zrow) 27)) 5 zrow
    rwa [World.size_alloc] at this
  have hb : Below w.heap.size w ((w.alloc (.cells (row zrow) 27)).alloc (.cells (row zrow) 5)) := ((Below.refl _ w).alloc (Nat.le_refl _) _).alloc (by simp) _
  go_enter Try.func24, Try.ntmps24
  go_wp2
  go_loopw [6] (fun i wr => ∃ (k : Nat) (l : List Int), k ≤ 256 ∧ i = .int .i64 k ∧ l.length = 256 ∧ (∀ j, j < k → l[j]?.getD 0 = (j : Int)) ∧
    Arr wr w.heap.size 27 zrow ∧ Arr wr (w.heap.size + 1) 5 l ∧ Below w.heap.size w wr) (fun i _ => 256 - (intOf i).toNat)
  case atStart => exact ⟨0, zrow, Nat.zero_le _, rfl, zrow_len, fun j hj => by omega, h0.alloc _, h1, hb⟩
  case round =>
    obtain ⟨k, l, hk, rfl, hll, hlj, ha0, ha1, hbl⟩ := hrel
    have HLL := Lib.hid hll
    have HLJ := Lib.hid hlj
    clear hll hlj h0 h1 hb
    by_cases hlt : k < 256
    · have hc := ha1.cell k (by rw [HLL.out]; exact hlt)
      have hf := ha1.frozen k
      go_wp2
      go_roundw
      case rel =>
        refine ⟨k + 1, l.set k k, by omega, by go_num, by rw [List.length_set, HLL.out], fun j hj => ?_, ha0.other _ (by simp) _, ha1.set _ _, hbl.setCell (by simp) _⟩
        rw [List.getElem?_set]
        split
        · subst_vars
          rw [if_pos (by rw [HLL.out]; exact hlt)]; rfl
        · exact HLJ.out j (by omega)
      case measure => simp [intOf]; omega
    · have hk' : 256 ≤ k := by omega
      have hat : ∀ (w : World) a cap, (Instr.arrayAt 27 (.slice a 256 cap)).run Try.prog w = .ok (.pointer a) w := fun w a cap => run_arrayAt w 27 _ 256 a 256 cap Try.underlying27 (Nat.le_refl _)
      have hi : (Try.prog.info? 27).map (·.size) = some (row l).size := by rw [row_size, HLL.out]; exact infoT
      have Hi := Lib.hid hi
      clear hi hm hz
      go_wp2_with (first | (refine wpList_load_row rfl 27 _ rfl (w.heap.size + 1) rfl 5 _ (0, 0) _ ha1 Try.underlying27 rfl Hi.out ?_) | (refine wpList_store_row rfl 27 _ _ rfl rfl w.heap.size 27 _ _ rfl rfl ha0 (by rw [row_size, row_size, HLL.out]; rfl) Hi.out (row_one _) ?_))
      exact ret_row (l := l) rfl rfl ha0.setRow Try.underlying27 rfl (by rw [HLL.out]; exact infoT) rfl ⟨by rw [iden_of l HLL.out (fun j hj => HLJ.out j (by omega))], below_setRow hbl (Nat.le_refl _) _⟩
end Go.Proofs.Ytmmnebejmfmeeaa
