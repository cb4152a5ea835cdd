/-
  A space that nobody made: a nil pointer, a plain space. Each call answers at once.
-/
import Derived.Test.YtakimaceohfpcaaDoorSpWorks
namespace Go.Proofs.YtakimaceohfpcaaDoor
open Go.RowKit

/-- The pointer v is nil, or leads to a space that New did not make. -/
def NoS (w : World) (v : Value) : Prop := v = .pointer none ∨ ∃ g, v = .pointer (some ⟨g, 0, none⟩) ∧ w.cell? ⟨g, 0, none⟩ = some (.bool false)
theorem NoS.below {w w' : World} {v : Value} (h : NoS w v) (hb : Below w.heap.size w w') : NoS w' v := by
  rcases h with h | ⟨g, h1, h2⟩
  · exact .inl h
  · exact .inr ⟨g, h1, by rw [hb.cell (World.block_lt_of_cell? w _ h2)]; exact h2⟩

theorem isSpace_no (w : World) (v : Value) (h : NoS w v) : Calls Tryd.prog 118 #[v] w fun e w' => e = .returned (.bool false) ∧ w = w' := by
  rcases h with rfl | ⟨g, rfl, h0⟩
  · go_enter Tryd.func118, Tryd.ntmps118
    go_wp2
    go_ret
    exact ⟨rfl, rfl⟩
  · go_enter Tryd.func118, Tryd.ntmps118
    go_wp2
    go_ret
    exact ⟨rfl, rfl⟩
theorem pattern_no (w : World) (v : Value) (h : NoS w v) : Calls Tryd.prog 69 #[v] w fun e w' => e = .returned (.slice none 0 0) ∧ w = w' := by
  go_enter Tryd.func69, Tryd.ntmps69
  go_wp2_with fail
  refine (isSpace_no w v h).mono ?_
  rintro e w' ⟨rfl, rfl⟩
  go_wp2_with fail
  go_ret
  exact ⟨rfl, rfl⟩
theorem hold_no (w : World) (v : Value) (h : NoS w v) : Calls Tryd.prog 70 #[v] w fun e w' => e = .returned (.slice none 0 0) ∧ w = w' := by
  go_enter Tryd.func70, Tryd.ntmps70
  go_wp2_with fail
  refine (isSpace_no w v h).mono ?_
  rintro e w' ⟨rfl, rfl⟩
  go_wp2_with fail
  go_ret
  exact ⟨rfl, rfl⟩
theorem putS_no (w : World) (v : Value) (a : Option Addr) (n c : Nat) (h : NoS w v) : Calls Tryd.prog 110 #[v, .slice a n c] w fun e w' => e = .returned (.int .i64 1) ∧ w = w' := by
  go_enter Tryd.func110, Tryd.ntmps110
  go_wp2_with fail
  refine (isSpace_no w v h).mono ?_
  rintro e w' ⟨rfl, rfl⟩
  go_wp2_with fail
  go_ret
  exact ⟨rfl, rfl⟩
theorem joinS_no (w : World) (v : Value) (a : Option Addr) (n c : Nat) (h : NoS w v) : Calls Tryd.prog 114 #[v, .slice a n c] w fun e w' => e = .returned (.int .i64 1) ∧ w = w' := by
  go_enter Tryd.func114, Tryd.ntmps114
  go_wp2_with fail
  refine (isSpace_no w v h).mono ?_
  rintro e w' ⟨rfl, rfl⟩
  go_wp2_with fail
  go_ret
  exact ⟨rfl, rfl⟩
theorem first_no (w : World) (v : Value) (h : NoS w v) : Calls Tryd.prog 71 #[v] w fun e w' => e = .returned (.tuple #[.slice none 0 0, .bool false]) ∧ w = w' := by
  go_enter Tryd.func71, Tryd.ntmps71
  go_wp2_with fail
  refine (isSpace_no w v h).mono ?_
  rintro e w' ⟨rfl, rfl⟩
  go_wp2_with fail
  go_ret2
  exact ⟨rfl, rfl⟩
theorem cutS_no (w : World) (v : Value) (h : NoS w v) : Calls Tryd.prog 112 #[v] w fun e w' => e = .returned (.bool false) ∧ w = w' := by
  go_enter Tryd.func112, Tryd.ntmps112
  go_wp2_with fail
  refine (isSpace_no w v h).mono ?_
  rintro e w' ⟨rfl, rfl⟩
  go_wp2_with fail
  go_ret
  exact ⟨rfl, rfl⟩

theorem do_no (w : World) (v : Value) (x : Int) (h : NoS w v) : Calls Tryd.prog 111 #[v, .int .u8 x] w fun e w' => e = .returned (.int .i64 1) ∧ w' = w.alloc (.map tabE 5) := by
  have hlk := lookup_run (w.alloc (.map tabE 5)) w.heap.size x (heap_alloc_new w _)
  have h1 := h.below ((Below.refl _ w).alloc (Nat.le_refl _) (.map tabE 5))
  generalize funOf x = fx at hlk
  go_enter Tryd.func111, Tryd.ntmps111
  go_wp2_with fail
  refine (table_any w).mono ?_
  rintro e w1 ⟨rfl, rfl⟩
  go_wp2_with fail
  refine (isSpace_no _ v h1).mono ?_
  rintro e w1 ⟨rfl, rfl⟩
  clear hlk
  go_wp2_with fail
  go_ret
  exact ⟨rfl, rfl⟩
end Go.Proofs.YtakimaceohfpcaaDoor
