/-
  A space that nobody made: a nil pointer, a plain space. Each call answers at once. galleylaw25.SpaceNil.
-/
import Derived.Test.YtadjonggmbndmaaSpWorks
namespace Go.Proofs.Ytadjonggmbndmaa
open Go.RowKit

/-- The pointer v is nil, or leads to a space that New did not make. -/
def NoS (w : World) (v : Value) : Prop := v = .pointer none ∨ ∃ g, v = .pointer (some ⟨g, 0, none⟩) ∧ w.cell? ⟨g, 0, none⟩ = some (.bool false)
theorem NoS.below {w w' : World} {v : Value} (h : NoS w v) (hb : Below w.heap.size w w') : NoS w' v := by
  rcases h with h | ⟨g, h1, h2⟩
  · exact .inl h
  · exact .inr ⟨g, h1, by rw [hb.cell (World.block_lt_of_cell? w _ h2)]; exact h2⟩

theorem isSpace_no (w : World) (v : Value) (h : NoS w v) : Calls Try.prog 64 #[v] w fun e w' => e = .returned (.bool false) ∧ w = w' := by
  rcases h with rfl | ⟨g, rfl, h0⟩
  · go_enter Try.func64, Try.ntmps64
    go_wp2
    go_ret
    exact ⟨rfl, rfl⟩
  · go_enter Try.func64, Try.ntmps64
    go_wp2
    go_ret
    exact ⟨rfl, rfl⟩
theorem pattern_no (w : World) (v : Value) (h : NoS w v) : Calls Try.prog 41 #[v] w fun e w' => e = .returned (.slice none 0 0) ∧ w = w' := by
  go_enter Try.func41, Try.ntmps41
  go_wp2_with fail
  refine (isSpace_no w v h).mono ?_
  rintro e w' ⟨rfl, rfl⟩
  go_wp2_with fail
  go_ret
  exact ⟨rfl, rfl⟩
theorem hold_no (w : World) (v : Value) (h : NoS w v) : Calls Try.prog 46 #[v] w fun e w' => e = .returned (.slice none 0 0) ∧ w = w' := by
  go_enter Try.func46, Try.ntmps46
  go_wp2_with fail
  refine (isSpace_no w v h).mono ?_
  rintro e w' ⟨rfl, rfl⟩
  go_wp2_with fail
  go_ret
  exact ⟨rfl, rfl⟩
theorem putS_no (w : World) (v : Value) (a : Option Addr) (n c : Nat) (h : NoS w v) : Calls Try.prog 44 #[v, .slice a n c] w fun e w' => e = .returned (.int .i64 1) ∧ w = w' := by
  go_enter Try.func44, Try.ntmps44
  go_wp2_with fail
  refine (isSpace_no w v h).mono ?_
  rintro e w' ⟨rfl, rfl⟩
  go_wp2_with fail
  go_ret
  exact ⟨rfl, rfl⟩
theorem joinS_no (w : World) (v : Value) (a : Option Addr) (n c : Nat) (h : NoS w v) : Calls Try.prog 38 #[v, .slice a n c] w fun e w' => e = .returned (.int .i64 1) ∧ w = w' := by
  go_enter Try.func38, Try.ntmps38
  go_wp2_with fail
  refine (isSpace_no w v h).mono ?_
  rintro e w' ⟨rfl, rfl⟩
  go_wp2_with fail
  go_ret
  exact ⟨rfl, rfl⟩
theorem first_no (w : World) (v : Value) (h : NoS w v) : Calls Try.prog 40 #[v] w fun e w' => e = .returned (.tuple #[.slice none 0 0, .bool false]) ∧ w = w' := by
  go_enter Try.func40, Try.ntmps40
  go_wp2_with fail
  refine (isSpace_no w v h).mono ?_
  rintro e w' ⟨rfl, rfl⟩
  go_wp2_with fail
  go_ret2
  exact ⟨rfl, rfl⟩
theorem cutS_no (w : World) (v : Value) (h : NoS w v) : Calls Try.prog 39 #[v] w fun e w' => e = .returned (.bool false) ∧ w = w' := by
  go_enter Try.func39, Try.ntmps39
  go_wp2_with fail
  refine (isSpace_no w v h).mono ?_
  rintro e w' ⟨rfl, rfl⟩
  go_wp2_with fail
  go_ret
  exact ⟨rfl, rfl⟩

theorem do_no (w : World) (v : Value) (x : Int) (h : NoS w v) : Calls Try.prog 45 #[v, .int .u8 x] w fun e w' => e = .returned (.int .i64 1) ∧ w' = w.alloc (.map tabE 5) := by
  have hlk := lookup_run (w.alloc (.map tabE 5)) w.heap.size x (heap_alloc_new w _)
  have h1 := h.below ((Below.refl _ w).alloc (Nat.le_refl _) (.map tabE 5))
  generalize funOf x = fx at hlk
  go_enter Try.func45, Try.ntmps45
  go_wp2_with fail
  refine (table_any w).mono ?_
  rintro e w1 ⟨rfl, rfl⟩
  go_wp2_with fail
  refine (isSpace_no _ v h1).mono ?_
  rintro e w1 ⟨rfl, rfl⟩
  clear hlk
  go_wp2_with fail
  go_ret
  exact ⟨rfl, rfl⟩

set_option maxHeartbeats 2000000 in
set_option maxRecDepth 100000 in
theorem nothingS_any (w : World) (v : Value) (k on d : Int) (a : Option Addr) (n c : Nat) (h : NoS w v) :
    Calls Try.prog 34 #[v, .agg #[.int .i64 k, .int .i64 on, .int .u8 d, .slice a n c]] w fun e w' => e = .returned (.bool true) ∧ Below w.heap.size w w' := by
  have hb0 := (Below.refl w.heap.size w).alloc (Nat.le_refl _) (.cells #[.int .i64 k, .int .i64 on, .int .u8 d, .slice a n c] 70)
  have hg : ∀ w' : World, Below (w.heap.size + 1) (w.alloc (.cells #[.int .i64 k, .int .i64 on, .int .u8 d, .slice a n c] 70)) w' → w'.heap[w.heap.size]? = some (.cells #[.int .i64 k, .int .i64 on, .int .u8 d, .slice a n c] 70 (0, 0)) := fun w' h => by
    rw [h.block _ (Nat.lt_succ_self _)]
    exact heap_alloc_new w _
  have h1 := h.below hb0
  have c3 : (w.alloc (.cells #[.int .i64 k, .int .i64 on, .int .u8 d, .slice a n c] 70)).cell? ⟨w.heap.size, 3, none⟩ = some (.slice a n c) := by rw [cell_of_row _ w.heap.size 3 _ _ (0, 0) (hg _ (Below.refl _ _))]; rfl
  have c2 : (w.alloc (.cells #[.int .i64 k, .int .i64 on, .int .u8 d, .slice a n c] 70)).cell? ⟨w.heap.size, 2, none⟩ = some (.int .u8 d) := by rw [cell_of_row _ w.heap.size 2 _ _ (0, 0) (hg _ (Below.refl _ _))]; rfl
  have hlt : w.heap.size < (w.alloc (.cells #[.int .i64 k, .int .i64 on, .int .u8 d, .slice a n c] 70)).heap.size := by rw [World.size_alloc]; omega
  clear hg h
  go_enter Try.func34, Try.ntmps34
  go_wp2_with fail
  refine (putS_no _ v a n c h1).mono ?_
  rintro e w1 ⟨rfl, rfl⟩
  generalize w.alloc (.cells #[.int .i64 k, .int .i64 on, .int .u8 d, .slice a n c] 70) = w1 at hb0 h1 c2 c3 hlt ⊢
  go_wp2_with fail
  refine (joinS_no _ v a n c h1).mono ?_
  rintro e w2 ⟨rfl, rfl⟩
  go_wp2_with fail
  refine (do_no _ v d h1).mono ?_
  rintro e w2 ⟨rfl, hw2⟩
  have hbm : Below w1.heap.size w1 w2 := by rw [hw2]; exact (Below.refl _ _).alloc (Nat.le_refl _) _
  have h2 := h1.below hbm
  have hb1 := hb0.trans (hbm.mono hb0.size)
  clear h1 hb0 hbm hw2 c2 c3 hlt
  go_wp2_with fail
  refine (do_no _ v 120 h2).mono ?_
  rintro e w3 ⟨rfl, hw3⟩
  have hbm : Below w2.heap.size w2 w3 := by rw [hw3]; exact (Below.refl _ _).alloc (Nat.le_refl _) _
  have h3 := h2.below hbm
  have hb2 := hb1.trans (hbm.mono hb1.size)
  clear h2 hb1 hbm hw3
  go_wp2_with fail
  refine (first_no _ v h3).mono ?_
  rintro e w4 ⟨rfl, rfl⟩
  go_wp2_with fail
  refine (cutS_no _ v h3).mono ?_
  rintro e w4 ⟨rfl, rfl⟩
  go_wp2_with fail
  refine (pattern_no _ v h3).mono ?_
  rintro e w4 ⟨rfl, rfl⟩
  go_wp2_with fail
  refine (hold_no _ v h3).mono ?_
  rintro e w4 ⟨rfl, rfl⟩
  go_wp2_with fail
  go_ret
  exact ⟨rfl, hb2⟩

set_option maxHeartbeats 2000000 in
set_option maxRecDepth 100000 in
theorem nilS_walk (w : World) (most k on d : Int) (a : Option Addr) (n c : Nat) :
    Calls Try.prog 9 #[.int .i64 most, .agg #[.int .i64 k, .int .i64 on, .int .u8 d, .slice a n c]] w fun e w' => e = .returned (.bool true) ∧ Below w.heap.size w w' := by
  have hb0 := (Below.refl w.heap.size w).alloc (Nat.le_refl _) (.cells #[.int .i64 k, .int .i64 on, .int .u8 d, .slice a n c] 70)
  have hg : ∀ w' : World, Below (w.heap.size + 1) (w.alloc (.cells #[.int .i64 k, .int .i64 on, .int .u8 d, .slice a n c] 70)) w' → w'.heap[w.heap.size]? = some (.cells #[.int .i64 k, .int .i64 on, .int .u8 d, .slice a n c] 70 (0, 0)) := fun w' h => by
    rw [h.block _ (Nat.lt_succ_self _)]
    exact heap_alloc_new w _
  have HG := Lib.hid hg
  have hbig : (most < 0 ∨ 1048576 < most) ∨ (0 ≤ most ∧ most ≤ 1048576) := by omega
  clear hg
  go_enter Try.func9, Try.ntmps9
  go_wp2_with fail
  refine (nothingS_any _ (.pointer none) k on d a n c (.inl rfl)).mono ?_
  rintro e w1 ⟨rfl, hb1⟩
  rw [World.size_alloc] at hb1
  have hg1 := HG.out w1 hb1
  have hb2 := hb0.trans (hb1.mono (by omega))
  have c0 := cell_of_row w1 w.heap.size 0 _ _ (0, 0) hg1
  have c1 := cell_of_row w1 w.heap.size 1 _ _ (0, 0) hg1
  have c2 := cell_of_row w1 w.heap.size 2 _ _ (0, 0) hg1
  have c3 := cell_of_row w1 w.heap.size 3 _ _ (0, 0) hg1
  have hlt : w.heap.size < w1.heap.size := by have := hb1.size; rw [World.size_alloc] at this; omega
  simp at c0 c1 c2 c3
  clear hb0 hb1 hg1
  have hb3 := hb2.alloc hb2.size (.cells #[.bool false, .int .i64 0, .slice none 0 0, .slice none 0 0] 74)
  have hno : NoS (w1.alloc (.cells #[.bool false, .int .i64 0, .slice none 0 0, .slice none 0 0] 74)) (.pointer (some ⟨w1.heap.size, 0, none⟩)) := .inr ⟨_, rfl, by rw [cell_of_row _ w1.heap.size 0 _ _ (0, 0) (heap_alloc_new w1 _)]; rfl⟩
  have HNo := Lib.hid hno
  clear hno HG hb2
  go_wp2_with fail
  refine (nothingS_any _ _ k on d a n c HNo.out).mono ?_
  rintro e w2 ⟨rfl, hb4⟩
  have hb5 := hb3.trans (hb4.mono hb3.size)
  clear hb3 hb4 HNo c0 c1 c2 c3 hlt
  rcases hbig with hm | ⟨h0, h1⟩
  · go_wp2_with fail
    refine (new_no w2 most hm).mono ?_
    rintro e w3 ⟨rfl, rfl⟩
    rcases hm with hm | hm
    · have hm0 : ¬ 0 ≤ most := by omega
      go_wp2_with fail
      refine (spWorks_any w2).mono ?_
      rintro e w3 ⟨rfl, hb6⟩
      go_wp2_with fail
      go_ret
      exact ⟨rfl, hb5.trans (hb6.mono hb5.size)⟩
    · have hm0 : 0 ≤ most := by omega
      have hm1 : ¬ most ≤ 1048576 := by omega
      go_wp2_with fail
      refine (spWorks_any w2).mono ?_
      rintro e w3 ⟨rfl, hb6⟩
      go_wp2_with fail
      go_ret
      exact ⟨by show Ending.returned (.bool !decide (most ≤ 1048576)) = _; rw [decide_eq_false (by omega : ¬ most ≤ 1048576)]; rfl, hb5.trans (hb6.mono hb5.size)⟩
  · go_wp2_with fail
    refine (new_yes w2 most h0 h1).mono ?_
    rintro e w3 ⟨g, rfl, s0, hb6⟩
    have hb7 := hb5.trans (hb6.mono hb5.size)
    clear s0 hb5 hb6
    go_wp2_with fail
    refine (spWorks_any w3).mono ?_
    rintro e w4 ⟨rfl, hb8⟩
    go_wp2_with fail
    go_ret
    exact ⟨rfl, hb7.trans (hb8.mono hb7.size)⟩
end Go.Proofs.Ytadjonggmbndmaa
