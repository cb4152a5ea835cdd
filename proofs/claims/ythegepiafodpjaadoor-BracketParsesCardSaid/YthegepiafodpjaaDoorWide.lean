/-
  galleyref00: lists of bytes with marks behind them.
-/
import Derived.Test.YthegepiafodpjaaDoorBytes
namespace Go.Proofs.YthegepiafodpjaaDoor
open Go.RowKit

/-- The mark that stands at place j behind a list. -/
def markAt (j : Nat) : Int := ((282 + 7 * j) % 256 : Nat)
theorem markAt_b (j : Nat) : 0 ≤ markAt j ∧ markAt j ≤ 255 := by unfold markAt; omega
theorem markAt_wrap (j : Nat) : IntKind.u8.wrap (279 + 7 * (j : Int) + 3) = markAt j := by
  unfold markAt
  simp [IntKind.wrap, IntKind.bits, IntKind.signed]
  omega

/-- A list and its marks: n places, then 64 marks. -/
def wide (l : List Int) : List Int := l ++ (List.range 64).map fun i => markAt (l.length + i)
theorem wide_len (l : List Int) : (wide l).length = l.length + 64 := by simp [wide]
theorem wide_lo (l : List Int) (j : Nat) (h : j < l.length) : (wide l)[j]?.getD 0 = l[j]?.getD 0 := by
  unfold wide; rw [List.getElem?_append_left h]
theorem wide_hi (l : List Int) (j : Nat) (h : l.length ≤ j) (h2 : j < l.length + 64) : (wide l)[j]?.getD 0 = markAt j := by
  unfold wide
  rw [List.getElem?_append_right h, List.getElem?_map, List.getElem?_range (by omega)]
  simp only [Option.map_some, Option.getD_some]
  congr 1
  omega

theorem madeBL (w : World) (n : Nat) (hn : n ≤ 140737488355328) : (Instr.makeSlice 91 (.int .i64 n) (.int .i64 n)).run Tryd.prog w = .ok (.slice (some ⟨w.heap.size, 0, none⟩) n n) (w.alloc (.cells (row (List.replicate n 0)) 5)) := by
  obtain ⟨i, hi, hz, hs, hb⟩ := info_parts infoB
  have h := run_make (P := Tryd.prog) w 91 5 i (.int .u8 0) Tryd.underlying91 hi hz .i64 .i64 n n (by omega) (by omega) (by rw [hb]; omega) (by omega)
  rw [h, hs]
  have e : madeCells (Value.cells (.int .u8 0)) ((n : Int).toNat * 1) = row (List.replicate n 0) := by
    apply Array.ext'
    simp [madeCells, row, Value.cells, Nat.mod_one]
    exact List.eq_replicate_iff.2 ⟨by simp, fun b hb => by simp at hb; obtain ⟨_, _, rfl⟩ := hb; rfl⟩
  rw [e]
  simp

theorem madeWide (w : World) (n : Nat) (hn : n ≤ 140737488351232) : (Instr.makeSlice 91 (.int .i64 ((n : Int) + 64)) (.int .i64 ((n : Int) + 64))).run Tryd.prog w = .ok (.slice (some ⟨w.heap.size, 0, none⟩) (n + 64) (n + 64)) (w.alloc (.cells (row (List.replicate (n + 64) 0)) 5)) := by
  have := madeBL w (n + 64) (by omega)
  rwa [show ((n + 64 : Nat) : Int) = (n : Int) + 64 by omega] at this

/-- A row with its marks, as a list that is handed in. -/
theorem Arr.wide_sb {w : World} {g : Nat} {T : TypeId} {l m : List Int} (h : Arr w g T (l ++ m)) (hB : IsB l) (hl : l.length ≤ 140737488351232) (cap : Nat) : SB w (.slice (some ⟨g, 0, none⟩) l.length cap) l :=
  ⟨hB, _, cap, rfl, hl, .inr ⟨g, 0, rfl, fun i hi => by
    rw [Nat.zero_add, h.cell i (by rw [List.length_append]; omega), List.getElem?_append_left hi]⟩⟩

end Go.Proofs.YthegepiafodpjaaDoor
