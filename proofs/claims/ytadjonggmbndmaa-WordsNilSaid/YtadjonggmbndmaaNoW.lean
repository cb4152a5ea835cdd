/-
  Words that nobody made: a nil pointer, plain words. Each call answers at once.
-/
import Derived.Test.YtadjonggmbndmaaWorks
namespace Go.Proofs.Ytadjonggmbndmaa
open Go.RowKit

/-- The pointer v is nil, or leads to words that New did not make. -/
def NoW (w : World) (v : Value) : Prop := v = .pointer none ∨ ∃ g, v = .pointer (some ⟨g, 0, none⟩) ∧ w.cell? ⟨g, 0, none⟩ = some (.bool false)
theorem NoW.below {w w' : World} {v : Value} (h : NoW w v) (hb : Below w.heap.size w w') : NoW w' v := by
  rcases h with h | ⟨g, h1, h2⟩
  · exact .inl h
  · exact .inr ⟨g, h1, by rw [hb.cell (World.block_lt_of_cell? w _ h2)]; exact h2⟩
theorem NoW.drewN {w : World} {v : Value} (h : NoW w v) (n : Nat) : NoW (w.drewN n) v := h.below (below_drewN (Below.refl _ _) n)

theorem isWords_no (w : World) (v : Value) (h : NoW w v) : Calls Try.prog 60 #[v] w fun e w' => e = .returned (.bool false) ∧ w = w' := by
  rcases h with rfl | ⟨g, rfl, h0⟩
  · go_enter Try.func60, Try.ntmps60
    go_wp2
    go_ret
    exact ⟨rfl, rfl⟩
  · go_enter Try.func60, Try.ntmps60
    go_wp2
    go_ret
    exact ⟨rfl, rfl⟩
theorem isWords_nq (w : World) (v : Value) (h : NoW w v) (n : Nat) : Calls Try.prog 60 #[v] (w.drewN n) fun e w' => e = .returned (.bool false) ∧ ∃ m, w' = w.drewN m :=
  (isWords_no _ v (h.drewN n)).mono fun _ _ ⟨he, hw⟩ => ⟨he, n, hw.symm⟩

theorem at_no (w : World) (v : Value) (h : NoW w v) : Calls Try.prog 31 #[v] w fun e w' => e = .returned (.int .i64 0) ∧ w = w' := by
  go_enter Try.func31, Try.ntmps31
  go_wp2_with fail
  refine (isWords_no w v h).mono ?_
  rintro e w' ⟨rfl, rfl⟩
  go_wp2_with fail
  go_ret
  exact ⟨rfl, rfl⟩
theorem peek_none (w : World) (v : Value) (h : NoW w v) : Calls Try.prog 55 #[v] w fun e w' => e = .returned (.tuple #[.int .u8 0, .bool false]) ∧ ∃ n, w' = w.drewN n := by
  go_enter Try.func55, Try.ntmps55
  go_wp2_with fail
  go_quiet ((go_at_call 60; exact isWords_nq w v h _))
  go_wp2_with fail
  go_ret2
  exact ⟨rfl, _, rfl⟩
theorem take_none (w : World) (v : Value) (h : NoW w v) : Calls Try.prog 27 #[v] w fun e w' => e = .returned (.tuple #[.int .u8 0, .bool false]) ∧ ∃ n, w' = w.drewN n := by
  go_enter Try.func27, Try.ntmps27
  go_wp2_with fail
  refine (peek_none w v h).mono ?_
  rintro e w' ⟨rfl, n, rfl⟩
  go_wp2_with fail
  go_ret2
  exact ⟨rfl, _, rfl⟩
theorem number_no (w : World) (v : Value) (most : Int) (h : NoW w v) : Calls Try.prog 33 #[v, .int .i64 most] w fun e w' => e = .returned (.tuple #[.int .i64 0, .int .i64 1]) ∧ w = w' := by
  go_enter Try.func33, Try.ntmps33
  go_wp2_with fail
  refine (isWords_no w v h).mono ?_
  rintro e w' ⟨rfl, rfl⟩
  go_wp2_with fail
  go_ret2
  exact ⟨rfl, rfl⟩
theorem part_no (w : World) (v : Value) (d : Int) (b : Bool) (h : NoW w v) : Calls Try.prog 28 #[v, .int .u8 d, .bool b] w fun e w' => e = .returned (.tuple #[.slice none 0 0, .int .i64 1]) ∧ w = w' := by
  go_enter Try.func28, Try.ntmps28
  go_wp2_with fail
  refine (isWords_no w v h).mono ?_
  rintro e w' ⟨rfl, rfl⟩
  go_wp2_with fail
  go_ret2
  exact ⟨rfl, rfl⟩
theorem text_no (w : World) (v : Value) (h : NoW w v) : Calls Try.prog 32 #[v] w fun e w' => e = .returned (.tuple #[.slice none 0 0, .int .i64 1]) ∧ w = w' := by
  go_enter Try.func32, Try.ntmps32
  go_wp2_with fail
  refine (isWords_no w v h).mono ?_
  rintro e w' ⟨rfl, rfl⟩
  go_wp2_with fail
  go_ret2
  exact ⟨rfl, rfl⟩
theorem end_no (w : World) (v : Value) (h : NoW w v) : Calls Try.prog 56 #[v] w fun e w' => e = .returned (.int .i64 1) ∧ w = w' := by
  go_enter Try.func56, Try.ntmps56
  go_wp2_with fail
  refine (isWords_no w v h).mono ?_
  rintro e w' ⟨rfl, rfl⟩
  go_wp2_with fail
  go_ret
  exact ⟨rfl, rfl⟩
theorem row_no (w : World) (v : Value) (h : NoW w v) : Calls Try.prog 58 #[v] w fun e w' => e = .returned (.slice none 0 0) ∧ w = w' := by
  go_enter Try.func58, Try.ntmps58
  go_wp2_with fail
  refine (isWords_no w v h).mono ?_
  rintro e w' ⟨rfl, rfl⟩
  go_wp2_with fail
  go_ret
  exact ⟨rfl, rfl⟩
theorem skip_no (w : World) (v : Value) (s : ByteArray) (h : NoW w v) : Calls Try.prog 57 #[v, .string s] w fun e w' => e = .returned (.int .i64 0) ∧ w = w' := by
  go_enter Try.func57, Try.ntmps57
  go_wp2_with fail
  refine (isWords_no w v h).mono ?_
  rintro e w' ⟨rfl, rfl⟩
  go_wp2_with fail
  go_ret
  exact ⟨rfl, rfl⟩

set_option maxHeartbeats 2000000 in
set_option maxRecDepth 100000 in
theorem nothing_any (w : World) (v : Value) (k on n d : Int) (s : ByteArray) (b : Bool) (h : NoW w v) :
    Calls Try.prog 22 #[v, .agg #[.int .i64 k, .int .i64 on, .string s, .int .i64 n, .int .u8 d, .bool b]] w fun e w' => e = .returned (.bool true) ∧ Below w.heap.size w w' := by
  have hb0 := (Below.refl w.heap.size w).alloc (Nat.le_refl _) (.cells #[.int .i64 k, .int .i64 on, .string s, .int .i64 n, .int .u8 d, .bool b] 46)
  have h1 := h.below hb0
  go_enter Try.func22, Try.ntmps22
  go_wp2_with fail
  refine (peek_none _ v h1).mono ?_
  rintro e w1 ⟨rfl, n1, rfl⟩
  have h1 := h1.drewN n1
  have hb0 := below_drewN hb0 n1
  go_wp2_with fail
  refine (take_none _ v h1).mono ?_
  rintro e w2 ⟨rfl, n2, rfl⟩
  have h1 := h1.drewN n2
  have hb0 := below_drewN hb0 n2
  rw [World.drewN_drewN] at h1 hb0
  go_wp2_with fail
  refine (number_no _ v n h1).mono ?_
  rintro e w3 ⟨rfl, rfl⟩
  go_wp2_with fail
  refine (part_no _ v d b h1).mono ?_
  rintro e w3 ⟨rfl, rfl⟩
  go_wp2_with fail
  refine (text_no _ v h1).mono ?_
  rintro e w3 ⟨rfl, rfl⟩
  go_wp2_with fail
  refine (end_no _ v h1).mono ?_
  rintro e w3 ⟨rfl, rfl⟩
  go_wp2_with fail
  refine (skip_no _ v s h1).mono ?_
  rintro e w3 ⟨rfl, rfl⟩
  go_wp2_with fail
  refine (row_no _ v h1).mono ?_
  rintro e w3 ⟨rfl, rfl⟩
  go_wp2_with fail
  refine (at_no _ v h1).mono ?_
  rintro e w3 ⟨rfl, rfl⟩
  go_wp2_with fail
  go_ret
  exact ⟨rfl, hb0⟩

set_option maxHeartbeats 2000000 in
set_option maxRecDepth 100000 in
theorem nil_walk (w : World) (k on n d : Int) (s : ByteArray) (b : Bool) :
    Calls Try.prog 5 #[.agg #[.int .i64 k, .int .i64 on, .string s, .int .i64 n, .int .u8 d, .bool b]] w fun e w' => e = .returned (.bool true) ∧ Below w.heap.size w w' := by
  have hb0 := (Below.refl w.heap.size w).alloc (Nat.le_refl _) (.cells #[.int .i64 k, .int .i64 on, .string s, .int .i64 n, .int .u8 d, .bool b] 46)
  have hg : ∀ w' : World, Below (w.heap.size + 1) (w.alloc (.cells #[.int .i64 k, .int .i64 on, .string s, .int .i64 n, .int .u8 d, .bool b] 46)) w' → w'.heap[w.heap.size]? = some (.cells #[.int .i64 k, .int .i64 on, .string s, .int .i64 n, .int .u8 d, .bool b] 46 (0, 0)) := fun w' h => by
    rw [h.block _ (Nat.lt_succ_self _)]
    exact heap_alloc_new w _
  have HG := Lib.hid hg
  clear hg
  go_enter Try.func5, Try.ntmps5
  go_wp2_with fail
  refine (nothing_any _ (.pointer none) k on n d s b (.inl rfl)).mono ?_
  rintro e w1 ⟨rfl, hb1⟩
  rw [World.size_alloc] at hb1
  have hg1 := HG.out w1 hb1
  have hb2 := hb0.trans (hb1.mono (by omega))
  have c0 := cell_of_row w1 w.heap.size 0 _ _ (0, 0) hg1
  have c1 := cell_of_row w1 w.heap.size 1 _ _ (0, 0) hg1
  have c2 := cell_of_row w1 w.heap.size 2 _ _ (0, 0) hg1
  have c3 := cell_of_row w1 w.heap.size 3 _ _ (0, 0) hg1
  have c4 := cell_of_row w1 w.heap.size 4 _ _ (0, 0) hg1
  have c5 := cell_of_row w1 w.heap.size 5 _ _ (0, 0) hg1
  have hlt : w.heap.size < w1.heap.size := by have := hb1.size; rw [World.size_alloc] at this; omega
  simp at c0 c1 c2 c3 c4 c5
  clear hb0 hb1 hg1
  have hb3 := hb2.alloc hb2.size (.cells #[.bool false, .slice none 0 0, .int .i64 0] 50)
  have hno : NoW (w1.alloc (.cells #[.bool false, .slice none 0 0, .int .i64 0] 50)) (.pointer (some ⟨w1.heap.size, 0, none⟩)) := .inr ⟨_, rfl, by rw [cell_of_row _ w1.heap.size 0 _ _ (0, 0) (heap_alloc_new w1 _)]; rfl⟩
  have HNo := Lib.hid hno
  clear hno HG hb2
  go_wp2_with fail
  refine (nothing_any _ _ k on n d s b HNo.out).mono ?_
  rintro e w2 ⟨rfl, hb4⟩
  have hb5 := hb3.trans (hb4.mono hb3.size)
  clear hb3 hb4 HNo c0 c1 c2 c3 c4 c5 hlt
  go_wp2_with fail
  refine (works_any w2).mono ?_
  rintro e w3 ⟨rfl, hb6⟩
  go_wp2_with fail
  go_ret
  exact ⟨rfl, hb5.trans (hb6.mono hb5.size)⟩
end Go.Proofs.Ytadjonggmbndmaa
