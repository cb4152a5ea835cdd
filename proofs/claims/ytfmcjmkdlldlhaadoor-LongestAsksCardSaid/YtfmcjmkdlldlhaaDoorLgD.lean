/-
  slices.DeleteFunc of threads, by the function that Find hands in.
-/
import Derived.Test.YtfmcjmkdlldlhaaDoorLgP
import Derived.Deep.DeepCutAuto
import Derived.Deep.CutBlock
import Derived.Deep.RegionLaw
namespace Go.Proofs.YtfmcjmkdlldlhaaDoor
open Go.RowKit

attribute [local go_sem] Oper.semAt_some

abbrev TSp : TypeId := 68
theorem del_any (w : World) (b8 bf bt x f : Nat) (hb : At w b8 TSp [.int .i64 (bf : Int), .int .i64 (bt : Int)]) :
    Calls Tryd.prog 31 #[.agg #[.int .i64 (x : Int), .int .i64 (f : Int)], .pointer (some ⟨b8, 0, none⟩)] w fun e w' => e = .returned (.bool (decide (bf < f))) ∧ Below w.heap.size w w' := by
  have hb1 := (Below.refl w.heap.size w).alloc (Nat.le_refl _) (.cells #[.int .i64 (x : Int), .int .i64 (f : Int)] TT)
  have c0 : w.cell? ⟨b8, 0, none⟩ = some (.int .i64 (bf : Int)) := hb.cell 0
  have c1 : ∀ o, (w.alloc o).cell? ⟨b8, 0, none⟩ = some (.int .i64 (bf : Int)) := fun o => Lib.cell?_alloc_some o c0
  have HB := Lib.hid hb1
  clear hb hb1
  go_enter Tryd.func31, Tryd.ntmps31
  go_wp2_with fail
  go_ret
  exact ⟨by simp, HB.out⟩
/-- The threads of a slice, in memory. -/
theorem thr_cells {W : World} {base : Nat} {na : Option Addr} {L nc : Nat} {l : List (Nat × Nat)} (h : W.ownsRow base TT 2 (.slice na L nc) L (cellsT l)) {k : Nat} {t : Nat × Nat} (ht : l[k]? = some t) : ∃ g, na = some ⟨g, 0, none⟩ ∧ W.cell? ⟨g, k * 2, none⟩ = some (.int .i64 (t.1 : Int)) ∧ W.cell? ⟨g, k * 2 + 1, none⟩ = some (.int .i64 (t.2 : Int)) := by
  have hl := h.1
  rw [cellsT_len] at hl
  have hk := (List.getElem?_eq_some_iff.1 ht).1
  obtain ⟨g, c, hv⟩ := own_some h (by omega)
  simp only [Value.slice.injEq] at hv
  obtain ⟨rfl, _, rfl⟩ := hv
  refine ⟨g, rfl, ?_, ?_⟩
  · have := (own_cell h (k * 2 + 0) (by rw [cellsT_len]; omega)).1
    rw [cellsT_get (by decide) ht] at this
    exact this
  · have := (own_cell h (k * 2 + 1) (by rw [cellsT_len]; omega)).1
    rw [cellsT_get (by decide) ht] at this
    exact this
def IdxPost (l : List (Nat × Nat)) (bf : Nat) (W : World) (e : Ending) (W' : World) : Prop :=
  Below W.heap.size W W' ∧ ((e = .returned (.int .i64 (-1)) ∧ ∀ t ∈ l, t.2 ≤ bf) ∨ ∃ k : Nat, e = .returned (.int .i64 (k : Int)) ∧ k < l.length ∧ (∀ t ∈ l.take k, t.2 ≤ bf) ∧ ∀ t, l[k]? = some t → bf < t.2)
set_option maxHeartbeats 2000000 in
theorem index_any (W : World) (base b8 bf bt : Nat) (hb : At W b8 TSp [.int .i64 (bf : Int), .int .i64 (bt : Int)]) (na : Option Addr) (L nc : Nat) (l : List (Nat × Nat)) (h : W.ownsRow base TT 2 (.slice na L nc) L (cellsT l)) (hL : L ≤ 140000) :
    Calls Tryd.prog 55 #[.slice na L nc, .func (.func 31) #[] #[.pointer (some ⟨b8, 0, none⟩)]] W (IdxPost l bf W) := by
  have hlen : l.length = L := by have := h.1; rw [cellsT_len] at this; omega
  have H := Lib.hid h
  have HB := Lib.hid hb
  have HL := Lib.hid hlen
  clear h hb hlen
  go_enter Tryd.func55, Tryd.ntmps55
  go_wp2_with fail
  go_loopw [8] (fun i wr => ∃ k, k ≤ L ∧ i = .int .i64 k ∧ Below W.heap.size W wr ∧ ∀ t ∈ l.take k, t.2 ≤ bf) (fun i _ => L - (intOf i).toNat)
  case atStart => exact ⟨0, Nat.zero_le _, rfl, Below.refl _ _, fun t ht => by simp at ht⟩
  case round =>
    obtain ⟨k, hk, rfl, hbw, hall⟩ := hrel
    have HBW := Lib.hid hbw
    have HA := Lib.hid hall
    clear hbw hall
    by_cases hkl : k < L
    · obtain ⟨t, ht⟩ : ∃ t, l[k]? = some t := ⟨l[k]'(by rw [HL.out]; exact hkl), List.getElem?_eq_getElem _⟩
      have ho : wr.ownsRow base TT 2 (.slice na L nc) L (cellsT l) := own_blk H.out fun q hq => HBW.out.block q (World.ownsRow.lt H.out q hq).2
      obtain ⟨g, rfl, c0, c1⟩ := thr_cells ho ht
      have hb8 := HB.out.below HBW.out
      have hD := del_any wr b8 bf bt t.1 t.2 hb8
      have HD := Lib.hid hD
      have HT := Lib.hid ht
      have hkI : (k : Int) < (L : Int) := by omega
      clear hD ho hb8 ht
      go_upto_region 5 with (go_at_call 31; refine HD.out.mono ?_)
      rintro e w' ⟨rfl, hbn⟩
      have hbw := HBW.out.trans (hbn.mono HBW.out.size)
      have HB2 := Lib.hid hbw
      clear hbn hbw c0 c1
      by_cases hd : bf < t.2
      · have hdb : decide (bf < t.2) = true := decide_eq_true hd
        rw [hdb]
        have HDD := Lib.hid hd
        clear hd hdb
        go_wp2_with fail
        go_ret
        exact ⟨HB2.out, .inr ⟨k, rfl, by rw [HL.out]; exact hkl, HA.out, fun u hu => by rw [HT.out] at hu; simp only [Option.some.injEq] at hu; subst hu; exact HDD.out⟩⟩
      · have hdb : decide (bf < t.2) = false := decide_eq_false hd
        rw [hdb]
        have HDD := Lib.hid hd
        clear hd hdb
        go_wp2_with fail
        go_roundw
        case rel =>
          refine ⟨k + 1, hkl, by go_num, HB2.out, fun u hu => ?_⟩
          have hg := (List.getElem?_eq_some_iff.1 HT.out)
          rw [List.take_succ_eq_append_getElem hg.1, hg.2] at hu
          rcases List.mem_append.1 hu with hu | hu
          · exact HA.out u hu
          · simp only [List.mem_singleton] at hu
            subst hu
            have := HDD.out
            omega
        case measure => simp [intOf]; omega
    · have e0 : k = L := by omega
      have HE := Lib.hid e0
      clear e0
      have hkI : ¬ (k : Int) < (L : Int) := by omega
      go_wp2_with fail
      go_ret
      exact ⟨HBW.out, .inl ⟨rfl, fun t ht => HA.out t (by rw [HE.out, ← HL.out, List.take_length]; exact ht)⟩⟩

/-- The threads that stay. -/
def keepL (bf : Nat) (l : List (Nat × Nat)) : List (Nat × Nat) := l.filter fun t => decide (t.2 ≤ bf)
def DelPost (W : World) (base : Nat) (na : Option Addr) (nc : Nat) (l : List (Nat × Nat)) (bf : Nat) (e : Ending) (W' : World) : Prop :=
  e = .returned (.slice na (keepL bf l).length nc) ∧ W'.ownsRow base TT 2 (.slice na (keepL bf l).length nc) (keepL bf l).length (cellsT (keepL bf l)) ∧ Up W W' base (fun k => (Value.slice na 0 0).ownBlock = some k) (fun k => (Value.slice na 0 0).ownBlock = some k)
theorem own_putS {W : World} {base sz n : Nat} {e : TypeId} {b c : Nat} {xs : List Value} (h : W.ownsRow base e sz (.slice (some ⟨b, 0, none⟩) n c) n xs) (i : Nat) (x : Value) : (W.setCell ⟨b, i, none⟩ x).ownsRow base e sz (.slice (some ⟨b, 0, none⟩) n c) n (xs.set i x) := by
  rcases h.2 with ⟨h1, _⟩ | ⟨g, cap, cur, h1, hb, hg, hnc, hcm, hs, ht⟩
  · simp at h1
  have h1' := h1
  simp only [Value.slice.injEq, Option.some.injEq, Addr.mk.injEq, and_true, true_and] at h1
  obtain ⟨rfl, rfl⟩ := h1
  refine ⟨by rw [List.length_set]; exact h.1, .inr ⟨b, c, cur.setIfInBounds i x, h1', hb, ?_, hnc, hcm, by simpa using hs, ?_⟩⟩
  · rw [heap_setCell_same W b i _ _ x hg]
  · rw [Array.toList_setIfInBounds, List.take_set, ht]
/-- clear of some threads. -/
theorem clearT (w : World) (ty : TypeId) (b o n c : Nat) (hn : 0 < n) (hc : ∀ j, j < n * 2 → (w.cell? ⟨b, o + j, none⟩).isSome = true) (hf : ∀ j, j < n * 2 → w.frozen? ⟨b, o + j, none⟩ = false) :
    (Builtin.clear_ #[85] ty #[.slice (some ⟨b, o, none⟩) n c]).run Tryd.prog w = .ok (.tuple #[]) (w.setCells b o (List.replicate (n * 2) (.int .i64 0))) := by
  have hzc : (Builtin.zeroCells (Value.cells (.agg #[.int .i64 0, .int .i64 0])) n).toList = List.replicate (n * 2) (.int .i64 0) := by
    apply List.ext_getElem
    · simp [Builtin.zeroCells, Value.cells]
    · intro i h1 h2
      simp only [Builtin.zeroCells, Value.cells, List.getElem_replicate]
      have : i % 2 = 0 ∨ i % 2 = 1 := by omega
      rcases this with h | h <;> simp [h]
  have hst := run_storeCells_cells (P := Tryd.prog) b o (List.replicate (n * 2) (.int .i64 0)) 0 w (by simpa using hc) (by simpa using hf) (by intro v hv'; rw [List.eq_of_mem_replicate hv']; rfl)
  simp only [Nat.add_zero] at hst
  obtain ⟨m, rfl⟩ : ∃ m, n = m + 1 := ⟨n - 1, by omega⟩
  simp [Builtin.clear_, run_underlying Tryd.underlying85, hzc, hst]
end Go.Proofs.YtfmcjmkdlldlhaaDoor
