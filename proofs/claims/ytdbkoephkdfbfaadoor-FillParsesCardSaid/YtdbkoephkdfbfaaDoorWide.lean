/-
  galleyref00: lists of bytes with marks behind them.
-/
import Derived.Test.YtdbkoephkdfbfaaDoorBytes
namespace Go.Proofs.YtdbkoephkdfbfaaDoor
open Go.RowKit

/-- The mark that stands at place j behind a list. -/
def markAt (j : Nat) : Int := ((282 + 7 * j) % 256 : Nat)
theorem markAt_b (j : Nat) : 0 ≤ markAt j ∧ markAt j ≤ 255 := by unfold markAt; omega
theorem markAt_wrap (j : Nat) : IntKind.u8.wrap (279 + 7 * (j : Int) + 3) = markAt j := by
  unfold markAt
  simp [IntKind.wrap, IntKind.bits, IntKind.signed]
  omega

/-- A list and its marks: n places, then 64 marks. -/
def wide (l : List Int) : List Int := l ++ (List.range 64).map fun i => markAt (l.length + i)
theorem wide_len (l : List Int) : (wide l).length = l.length + 64 := by simp [wide]
theorem wide_lo (l : List Int) (j : Nat) (h : j < l.length) : (wide l)[j]?.getD 0 = l[j]?.getD 0 := by
  unfold wide; rw [List.getElem?_append_left h]
theorem wide_hi (l : List Int) (j : Nat) (h : l.length ≤ j) (h2 : j < l.length + 64) : (wide l)[j]?.getD 0 = markAt j := by
  unfold wide
  rw [List.getElem?_append_right h, List.getElem?_map, List.getElem?_range (by omega)]
  simp only [Option.map_some, Option.getD_some]
  congr 1
  omega

theorem madeBL (w : World) (n : Nat) (hn : n ≤ 140737488355328) : (Instr.makeSlice 48 (.int .i64 n) (.int .i64 n)).run Tryd.prog w = .ok (.slice (some ⟨w.heap.size, 0, none⟩) n n) (w.alloc (.cells (row (List.replicate n 0)) 5)) := by
  obtain ⟨i, hi, hz, hs, hb⟩ := info_parts infoB
  have h := run_make (P := Tryd.prog) w 48 5 i (.int .u8 0) Tryd.underlying48 hi hz .i64 .i64 n n (by omega) (by omega) (by rw [hb]; omega) (by omega)
  rw [h, hs]
  have e : madeCells (Value.cells (.int .u8 0)) ((n : Int).toNat * 1) = row (List.replicate n 0) := by
    apply Array.ext'
    simp [madeCells, row, Value.cells, Nat.mod_one]
    exact List.eq_replicate_iff.2 ⟨by simp, fun b hb => by simp at hb; obtain ⟨_, _, rfl⟩ := hb; rfl⟩
  rw [e]
  simp

theorem madeWide (w : World) (n : Nat) (hn : n ≤ 140737488351232) : (Instr.makeSlice 48 (.int .i64 ((n : Int) + 64)) (.int .i64 ((n : Int) + 64))).run Tryd.prog w = .ok (.slice (some ⟨w.heap.size, 0, none⟩) (n + 64) (n + 64)) (w.alloc (.cells (row (List.replicate (n + 64) 0)) 5)) := by
  have := madeBL w (n + 64) (by omega)
  rwa [show ((n + 64 : Nat) : Int) = (n : Int) + 64 by omega] at this

set_option maxHeartbeats 400000 in
theorem wideL_any (w : World) (v : Value) (l : List Int) (hb : SB w v l) (hl : l.length ≤ 140737488351232) :
    Calls Tryd.prog 66 #[v] w fun e w' => e = .returned (.slice (some ⟨w.heap.size, 0, none⟩) l.length (l.length + 64)) ∧ Arr w' w.heap.size 5 (wide l) ∧ Below w.heap.size w w' := by
  obtain ⟨hB, a, c, rfl, _, hc⟩ := hb
  have hm := fun w => madeWide w l.length hl
  have Hlen := Lib.hid (List.length_replicate (n := l.length + 64) (a := (0 : Int)))
  have h1 : Arr (w.alloc (.cells (row (List.replicate (l.length + 64) 0)) 5)) w.heap.size 5 (List.replicate (l.length + 64) 0) := Arr.new _ _ _
  have hbe : Below w.heap.size w (w.alloc (.cells (row (List.replicate (l.length + 64) 0)) 5)) := (Below.refl _ w).alloc (Nat.le_refl _) _
  have HC := Lib.hid hc
  have hB' := Lib.hid hB
  clear hc hB
  go_enter Tryd.func66, Tryd.ntmps66
  go_wp2
  go_loopw [4] (fun i wr => ∃ (k : Nat) (m : List Int), k ≤ l.length + 64 ∧ i = .int .i64 k ∧ m.length = l.length + 64 ∧ (∀ j : Nat, j < k → m[j]?.getD 0 = (wide l)[j]?.getD 0) ∧
    Arr wr w.heap.size 5 m ∧ Below w.heap.size w wr) (fun i _ => l.length + 64 - (intOf i).toNat)
  case atStart => exact ⟨0, _, Nat.zero_le _, rfl, Hlen.out, fun j hj => by omega, h1, hbe⟩
  case round =>
    obtain ⟨k, m, hk, rfl, hml, hmj, r1, rb⟩ := hrel
    have HML := Lib.hid hml
    have HMJ := Lib.hid hmj
    clear hml hmj h1 hbe hm
    by_cases hlt : k < l.length + 64
    · have hc1 := r1.cell k (by rw [HML.out]; exact hlt)
      have hf1 := r1.frozen k
      have hst : ∀ y : Int, y = (wide l)[k]?.getD 0 → ∀ j : Nat, j < k + 1 → (m.set k y)[j]?.getD 0 = (wide l)[j]?.getD 0 := by
        intro y ey j hj
        rw [List.getElem?_set]
        split
        · subst_vars
          rw [if_pos (by rw [HML.out]; exact hlt)]; rfl
        · exact HMJ.out j (by omega)
      by_cases hin : k < l.length
      · obtain ⟨b, o, rfl, hcc⟩ := HC.out.resolve_left (by intro e; rw [e] at hin; exact absurd hin (Nat.not_lt_zero _))
        have hck := hcc k hin
        rw [← rb.cell (World.block_lt_of_cell? w _ hck)] at hck
        have hst2 := hst _ (wide_lo l k hin).symm
        generalize l[k]?.getD 0 = x at hck hst2
        have Hst := Lib.hid hst2
        clear hst hst2 hcc
        go_wp2
        go_roundw
        case rel => exact ⟨k + 1, m.set k x, by omega, by go_num, by rw [List.length_set, HML.out], Hst.out, r1.set _ _, rb.setCell (by simp) _⟩
        case measure => simp [intOf]; omega
      · have hst2 := Lib.hid (hst _ (wide_hi l k (by omega) hlt).symm)
        have hw := markAt_wrap k
        clear hst
        go_wp2
        go_roundw
        case rel => exact ⟨k + 1, m.set k (markAt k), by omega, by go_num, by rw [List.length_set, HML.out], hst2.out, r1.set _ _, rb.setCell (by simp) _⟩
        case measure => simp [intOf]; omega
    · have e : m = wide l := ext_of m (wide l) (by rw [HML.out, wide_len]) fun j hj => HMJ.out j (by rw [HML.out] at hj; omega)
      subst e
      go_wp2
      go_ret
      exact ⟨rfl, r1, rb⟩

/-- A row with its marks, as a list that is handed in. -/
theorem Arr.wide_sb {w : World} {g : Nat} {T : TypeId} {l m : List Int} (h : Arr w g T (l ++ m)) (hB : IsB l) (hl : l.length ≤ 140737488351232) (cap : Nat) : SB w (.slice (some ⟨g, 0, none⟩) l.length cap) l :=
  ⟨hB, _, cap, rfl, hl, .inr ⟨g, 0, rfl, fun i hi => by
    rw [Nat.zero_add, h.cell i (by rw [List.length_append]; omega), List.getElem?_append_left hi]⟩⟩

set_option maxHeartbeats 400000 in
theorem spareL_any (w : World) (g n : Nat) (T : TypeId) (hn : n ≤ 140737488351232) (m : List Int) (hm : m.length = n + 64) (hmj : ∀ j : Nat, n ≤ j → j < n + 64 → m[j]?.getD 0 = markAt j) (h : Arr w g T m) :
    Calls Tryd.prog 70 #[.slice (some ⟨g, 0, none⟩) n (n + 64)] w fun e w' => e = .returned (.bool true) ∧ ∃ q, w' = w.drewN q := by
  have HM := Lib.hid hm
  have HMJ := Lib.hid hmj
  clear hm hmj
  go_enter Tryd.func70, Tryd.ntmps70
  go_wp2
  go_loop [4] (fun i => ∃ k : Nat, n ≤ k ∧ k ≤ n + 64 ∧ i = .int .i64 k) (fun i => n + 64 - (intOf i).toNat)
  case atStart => exact ⟨n, Nat.le_refl _, by omega, rfl⟩
  case round =>
    obtain ⟨k, hk1, hk2, rfl⟩ := hrel
    by_cases hlt : k < n + 64
    · have hc := h.cell k (by rw [HM.out]; exact hlt)
      rw [HMJ.out k hk1 hlt] at hc
      have hw := markAt_wrap k
      go_wp2
      go_round
      case rel => exact ⟨k + 1, by omega, by omega, by go_num⟩
      case measure => simp [intOf]; omega
    · go_wp2
      go_ret
      exact ⟨rfl, 0, rfl⟩

theorem wide_any (w : World) (v : Value) (l : List Int) (hb : SB w v l) (hl : l.length ≤ 2147483647) :
    Calls Tryd.prog 66 #[v] w fun e w' => e = .returned (.slice (some ⟨w.heap.size, 0, none⟩) l.length (l.length + 64)) ∧ Arr w' w.heap.size 5 (wide l) ∧ Below w.heap.size w w' := wideL_any w v l hb (by omega)
theorem spare_any (w : World) (g n : Nat) (T : TypeId) (hn : n ≤ 2147483647) (m : List Int) (hm : m.length = n + 64) (hmj : ∀ j : Nat, n ≤ j → j < n + 64 → m[j]?.getD 0 = markAt j) (h : Arr w g T m) :
    Calls Tryd.prog 70 #[.slice (some ⟨g, 0, none⟩) n (n + 64)] w fun e w' => e = .returned (.bool true) ∧ ∃ q, w' = w.drewN q := spareL_any w g n T (by omega) m hm hmj h
end Go.Proofs.YtdbkoephkdfbfaaDoor
