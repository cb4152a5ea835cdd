/-
  A search that no New made.
-/
import Derived.Test.YtfmcjmkdlldlhaaLgR
import Derived.Test.YtfmcjmkdlldlhaaLgG
namespace Go.Proofs.Ytfmcjmkdlldlhaa
open Go.RowKit
attribute [local go_sem] Oper.semAt_some

/-- Nil, or a struct whose first field is false. -/
def NoSr (W : World) (p : Option Addr) : Prop := p = none ∨ ∃ g, p = some ⟨g, 0, none⟩ ∧ W.cell? ⟨g, 0, none⟩ = some (.bool false)
theorem NoSr.below {W W' : World} {p : Option Addr} (h : NoSr W p) (hb : Below W.heap.size W W') : NoSr W' p := by
  refine h.imp_right ?_
  rintro ⟨g, h1, h2⟩
  exact ⟨g, h1, by rw [hb.cell (World.block_lt_of_cell? W _ h2)]; exact h2⟩
theorem ready_zero (W : World) (p : Option Addr) (h : NoSr W p) (n f : Int) : Calls Try.prog 31 #[.pointer p, .int .i64 n, .int .i64 f] W fun e w' => e = .returned (.bool false) ∧ W = w' := by
  rcases h with rfl | ⟨g, rfl, hc⟩
  · go_enter Try.func31, Try.ntmps31
    go_wp2_with fail
    go_ret
    exact ⟨rfl, rfl⟩
  · go_enter Try.func31, Try.ntmps31
    go_wp2_with fail
    go_ret
    exact ⟨rfl, rfl⟩
theorem steps_zero (W : World) (p : Option Addr) (h : NoSr W p) : Calls Try.prog 18 #[.pointer p] W fun e w' => e = .returned (.int .i64 0) ∧ W = w' := by
  rcases h with rfl | ⟨g, rfl, hc⟩
  · go_enter Try.func18, Try.ntmps18
    go_wp2_with fail
    go_ret
    exact ⟨rfl, rfl⟩
  · go_enter Try.func18, Try.ntmps18
    go_wp2_with fail
    go_ret
    exact ⟨rfl, rfl⟩
theorem ends_zero (W : World) (p : Option Addr) (h : NoSr W p) (a : Option Addr) (n c : Nat) (f : Int) : Calls Try.prog 17 #[.pointer p, .slice a n c, .int .i64 f] W fun e w' => e = .returned (.slice none 0 0) ∧ W = w' := by
  have hrd := ready_zero W p h n f
  clear h
  go_enter Try.func17, Try.ntmps17
  go_wp2_with fail
  refine hrd.mono ?_
  rintro e w1 ⟨rfl, rfl⟩
  go_wp2_with fail
  go_ret
  exact ⟨rfl, rfl⟩
theorem find_zero (W : World) (p : Option Addr) (h : NoSr W p) (a : Option Addr) (n c : Nat) (f : Int) : Calls Try.prog 15 #[.pointer p, .slice a n c, .int .i64 f] W fun e w' => e = .returned (.tuple #[.agg #[.int .i64 0, .int .i64 0], .bool false]) ∧ Below W.heap.size W w' := by
  have hb6 := (Below.refl W.heap.size W).alloc (Nat.le_refl _) (.cells #[.int .i64 0, .int .i64 0] TSp)
  have hA6 : At (W.alloc (.cells #[.int .i64 0, .int .i64 0] TSp)) W.heap.size TSp [.int .i64 0, .int .i64 0] := At.new W _ _
  have hrd := ready_zero (W.alloc (.cells #[.int .i64 0, .int .i64 0] TSp)) p (h.below hb6) n f
  have HB := Lib.hid hb6
  have HA := Lib.hid hA6
  clear h hb6 hA6
  go_enter Try.func15, Try.ntmps15
  go_upto_region 1 with fail
  generalize W.alloc (.cells #[.int .i64 0, .int .i64 0] TSp) = w0 at HB HA hrd ⊢
  have HS := Lib.hid (Nat.le_refl W.heap.size)
  go_wp2_with fail
  refine hrd.mono ?_
  rintro e w1 ⟨rfl, rfl⟩
  clear hrd
  generalize hb : W.heap.size = b6 at HA HB HS ⊢
  have d0 : w0.cell? ⟨b6, 0, none⟩ = some (.int .i64 0) := HA.out.cell 0
  have d1 : w0.cell? ⟨b6, 1, none⟩ = some (.int .i64 0) := HA.out.cell 1
  have g0 := HA.out.frozen 0
  have g1 := HA.out.frozen 1
  go_wp2_with fail
  refine ret_cell_tmp (g := b6) (cs := [.int .i64 0, .int .i64 0]) rfl rfl ((HA.out.set 0 (.int .i64 0)).set 1 (.int .i64 0)) Try.underlying43 rfl (by kernel_rfl) rfl ?_
  refine ⟨rfl, ?_⟩
  rw [hb]
  exact (HB.out.setCell (p := ⟨b6, 0, none⟩) (Nat.le_refl b6) (.int .i64 0)).setCell (p := ⟨b6, 1, none⟩) (Nat.le_refl b6) (.int .i64 0)
end Go.Proofs.Ytfmcjmkdlldlhaa
