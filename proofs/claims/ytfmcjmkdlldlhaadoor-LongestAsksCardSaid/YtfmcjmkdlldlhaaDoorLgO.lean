/-
  Ends and Find from outside the text.
-/
import Derived.Test.YtfmcjmkdlldlhaaDoorLgR
import Derived.Test.YtfmcjmkdlldlhaaDoorLgE
import Derived.Test.YtfmcjmkdlldlhaaDoorLgG
namespace Go.Proofs.YtfmcjmkdlldlhaaDoor
open Go.RowKit

attribute [local go_sem] Oper.semAt_some

theorem ends_no (W : World) (base : Nat) (M : List Ins) (s : SO) (h : Sob W base M s) (a : Option Addr) (n cp : Nat) (from_ : Int) (hf : from_ < 0 ∨ (n : Int) < from_) :
    Calls Tryd.prog 13 #[.pointer (some ⟨s.g, 0, none⟩), .slice a n cp, .int .i64 from_] W fun e W' => e = .returned (.slice none 0 0) ∧ Sob W' base M { s with steps := 0 } ∧ Up W W' base (SBlk s) (SBlk s) := by
  have hrd := ready_no W base M s h n from_ hf
  clear h
  go_enter Tryd.func13, Tryd.ntmps13
  go_wp2_with fail
  refine hrd.mono ?_
  rintro e w1 ⟨rfl, hs1, hu1⟩
  have HX := Lib.hid (And.intro hs1 hu1)
  clear hs1 hu1 hrd
  go_wp2_with fail
  go_ret
  exact ⟨rfl, HX.out.1, HX.out.2⟩
theorem find_no (W : World) (base : Nat) (M : List Ins) (s : SO) (h : Sob W base M s) (a : Option Addr) (n cp : Nat) (from_ : Int) (hf : from_ < 0 ∨ (n : Int) < from_) :
    Calls Tryd.prog 11 #[.pointer (some ⟨s.g, 0, none⟩), .slice a n cp, .int .i64 from_] W fun e W' => e = .returned (.tuple #[.agg #[.int .i64 0, .int .i64 0], .bool false]) ∧ Sob W' base M { s with steps := 0 } ∧ Up W W' base (SBlk s) (SBlk s) := by
  have hb6 := (Below.refl W.heap.size W).alloc (Nat.le_refl _) (.cells #[.int .i64 0, .int .i64 0] TSp)
  have hA6 : At (W.alloc (.cells #[.int .i64 0, .int .i64 0] TSp)) W.heap.size TSp [.int .i64 0, .int .i64 0] := At.new W _ _
  have hs6 := h.below hb6
  have HU6 := Lib.hid (Up.below (SBlk s) hb6 h.size)
  have H6 := Lib.hid (And.intro h.size (fun k hk => (h.lt k hk).1))
  have HA6 := Lib.hid hA6
  have hrd := ready_no (W.alloc (.cells #[.int .i64 0, .int .i64 0] TSp)) base M s hs6 n from_ hf
  clear h hb6 hs6 hA6
  go_enter Tryd.func11, Tryd.ntmps11
  go_upto_region 1 with fail
  generalize W.alloc (.cells #[.int .i64 0, .int .i64 0] TSp) = w0 at HU6 HA6 hrd ⊢
  go_wp2_with fail
  refine hrd.mono ?_
  rintro e w1 ⟨rfl, hs1, hu1⟩
  have HS := Lib.hid hs1
  have HU1 := Lib.hid (HU6.out.trans hu1)
  have HA := Lib.hid (HA6.out.keep (hu1.keep W.heap.size HA6.out.lt fun hc => Nat.lt_irrefl _ (H6.out.2 _ hc)))
  have HN6 := Lib.hid (show ¬ SBlk s W.heap.size from fun hc => Nat.lt_irrefl _ (H6.out.2 _ hc))
  clear hs1 hu1 hrd HU6 HA6
  have hsz := H6.out.1
  generalize hb6 : W.heap.size = b6 at HA HN6 hsz ⊢
  have HB6 := Lib.hid (And.intro hb6 hsz)
  clear hb6 hsz H6
  have d60 : w1.cell? ⟨b6, 0, none⟩ = some (.int .i64 0) := HA.out.cell 0
  have d61 : w1.cell? ⟨b6, 1, none⟩ = some (.int .i64 0) := HA.out.cell 1
  have g60 := HA.out.frozen 0
  have g61 := HA.out.frozen 1
  go_wp2_with fail
  have HOT := Lib.hid (show ∀ k, k ≠ b6 → ((w1.setCell ⟨b6, 0, none⟩ (.int .i64 0)).setCell ⟨b6, 1, none⟩ (.int .i64 0)).heap[k]? = w1.heap[k]? from fun k hk => (heap_setCell_other _ ⟨b6, 1, none⟩ k _ hk).trans (heap_setCell_other w1 ⟨b6, 0, none⟩ k _ hk))
  have HBL := Lib.hid (show Below b6 w1 ((w1.setCell ⟨b6, 0, none⟩ (.int .i64 0)).setCell ⟨b6, 1, none⟩ (.int .i64 0)) from ((Below.refl b6 w1).setCell (p := ⟨b6, 0, none⟩) (Nat.le_refl b6) (.int .i64 0)).setCell (p := ⟨b6, 1, none⟩) (Nat.le_refl b6) (.int .i64 0))
  refine ret_cell_tmp (g := b6) (cs := [.int .i64 0, .int .i64 0]) rfl rfl ((HA.out.set 0 (.int .i64 0)).set 1 (.int .i64 0)) Tryd.underlying68 rfl (by kernel_rfl) rfl ?_
  refine ⟨rfl, HS.out.keep fun k hk => HOT.out k fun e => HN6.out (e ▸ hk), fun k hk hn => (HOT.out k (by have := HB6.out.1; omega)).trans (HU1.out.keep k hk hn), HU1.out.new, fun B' w0 h0 hB => (HU1.out.bel B' w0 h0 hB).trans (HBL.out.mono (by have := HB6.out; omega)), by have := HU1.out.size; have := HBL.out.size; omega⟩
end Go.Proofs.YtfmcjmkdlldlhaaDoor
