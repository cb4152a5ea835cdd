/-
  Layer 3: the calls on what is no disk. (Written by gen_dkn.py.)
-/
import Derived.Test.YtaeiijncklmfdaaDkN
import Derived.Test.YtaeiijncklmfdaaStr
import Derived.Laws.OwnMore
namespace Go.Proofs.Ytaeiijncklmfdaa
open Go.RowKit

theorem power_no (w : World) (v : Value) (h : NoD w v) : Calls Try.prog 15 #[v] w fun e w' => e = .returned (.bool false) ∧ Below w.heap.size w w' := by
  go_enter Try.func15, Try.ntmps15
  go_wp2_with fail
  refine (isDisk_no w v h).mono ?_
  rintro e w' ⟨rfl, rfl⟩
  go_wp2_with fail
  go_ret
  exact ⟨rfl, Below.refl _ _⟩

theorem pending_no (w : World) (v : Value) (h : NoD w v) : Calls Try.prog 16 #[v] w fun e w' => e = .returned (.int .i64 0) ∧ Below w.heap.size w w' := by
  go_enter Try.func16, Try.ntmps16
  go_wp2_with fail
  refine (isDisk_no w v h).mono ?_
  rintro e w' ⟨rfl, rfl⟩
  go_wp2_with fail
  go_ret
  exact ⟨rfl, Below.refl _ _⟩

theorem done_no (w : World) (v : Value) (h : NoD w v) : Calls Try.prog 17 #[v] w fun e w' => e = .returned (.int .i64 0) ∧ Below w.heap.size w w' := by
  go_enter Try.func17, Try.ntmps17
  go_wp2_with fail
  refine (isDisk_no w v h).mono ?_
  rintro e w' ⟨rfl, rfl⟩
  go_wp2_with fail
  go_ret
  exact ⟨rfl, Below.refl _ _⟩

theorem off_no (w : World) (v : Value) (h : NoD w v) : Calls Try.prog 21 #[v] w fun e w' => e = .returned (.tuple #[]) ∧ Below w.heap.size w w' := by
  go_enter Try.func21, Try.ntmps21
  go_wp2_with fail
  refine (isDisk_no w v h).mono ?_
  rintro e w' ⟨rfl, rfl⟩
  go_wp2_with fail
  go_end0
  exact ⟨rfl, Below.refl _ _⟩

theorem admit_no (w : World) (v : Value) (h : NoD w v) (l : Value) : Calls Try.prog 60 #[v, l] w fun e w' => e = .returned (.int .i64 1) ∧ Below w.heap.size w w' := by
  go_enter Try.func60, Try.ntmps60
  go_wp2_with fail
  refine (isDisk_no w v h).mono ?_
  rintro e w' ⟨rfl, rfl⟩
  go_wp2_with fail
  go_ret
  exact ⟨rfl, Below.refl _ _⟩

theorem plan_no (w : World) (v : Value) (h : NoD w v) (l : Value) : Calls Try.prog 25 #[v, l] w fun e w' => e = .returned (.int .i64 1) ∧ Below w.heap.size w w' := by
  go_enter Try.func25, Try.ntmps25
  go_wp2_with fail
  refine (isDisk_no w v h).mono ?_
  rintro e w' ⟨rfl, rfl⟩
  go_wp2_with fail
  go_ret
  exact ⟨rfl, Below.refl _ _⟩

theorem start_no (w : World) (v : Value) (h : NoD w v) (n l : Value) : Calls Try.prog 22 #[v, n, l] w fun e w' => e = .returned (.tuple #[]) ∧ Below w.heap.size w w' := by
  go_enter Try.func22, Try.ntmps22
  go_wp2_with fail
  refine (isDisk_no w v h).mono ?_
  rintro e w' ⟨rfl, rfl⟩
  go_wp2_with fail
  refine bodyPost_ret (results_none rfl _ _ _) rfl ?_
  exact ⟨rfl, Below.refl _ _⟩

theorem names_no (w : World) (v : Value) (h : NoD w v) : Calls Try.prog 20 #[v] w fun e w' => e = .returned (.slice none 0 0) ∧ Below w.heap.size w w' := by
  go_enter Try.func20, Try.ntmps20
  go_wp2_with fail
  refine (power_no w v h).mono ?_
  rintro e w' ⟨rfl, hb⟩
  go_wp2_with fail
  go_ret
  exact ⟨rfl, hb⟩

theorem syncDir_no (w : World) (v : Value) (h : NoD w v) : Calls Try.prog 26 #[v] w fun e w' => e = .returned (.int .i64 1) ∧ Below w.heap.size w w' := by
  go_enter Try.func26, Try.ntmps26
  go_wp2_with fail
  refine (admit_no w v h _).mono ?_
  rintro e w' ⟨rfl, hb⟩
  go_wp2_with fail
  go_ret
  exact ⟨rfl, hb⟩

theorem make_no (w : World) (v : Value) (h : NoD w v) (k : ByteArray) : Calls Try.prog 31 #[v, .string k] w fun e w' => e = .returned (.int .i64 1) ∧ Below w.heap.size w w' := by
  have hA := (Below.refl _ w).alloc (Nat.le_refl _) (.cells #[.string k] 9)
  have hA' := h.below hA
  go_enter Try.func31, Try.ntmps31
  go_wp2_with fail
  refine (admit_no _ v hA' _).mono ?_
  rintro e w' ⟨rfl, hb⟩
  go_wp2_with fail
  go_ret
  exact ⟨rfl, hA.trans (hb.mono (by simp))⟩

set_option maxRecDepth 100000 in
theorem find_no (w0 w : World) (v : Value) (h : NoD w0 v) (hb0 : Below w0.heap.size w0 w) (k : ByteArray) (ov : Value) (lo : List ByteArray) (ho : OwnT w w0.heap.size ov lo) (hl : lo.length ≤ 4) : Calls Try.prog 64 #[v, .string k, ov] w fun e w' => e = .returned (.tuple #[.pointer none, .int .i64 1]) ∧ Below w0.heap.size w0 w' := by
  have HL := Lib.hid hl
  clear hl
  go_enter Try.func64, Try.ntmps64
  go_wp2_with (at_builtin; refine append_tn rfl (.tmp 11) (.tmp 13) rfl w0.heap.size ov lo [k] _ 1 rfl rfl rfl ho _ rfl rfl (by have := HL.out; omega) hb0.size ?_)
  intro v' w' ho' hP
  have hB : Below w0.heap.size w0 w' := hP.bel _ _ hb0 (Nat.le_refl _)
  have h1 : NoD w' v := h.below hB
  clear hP ho' ho h hb0
  go_wp2_with fail
  refine (admit_no _ v h1 _).mono ?_
  rintro e w1 ⟨rfl, hb⟩
  have hB2 := hB.trans (hb.mono hB.size)
  clear hb hB h1
  go_wp2_with fail
  go_ret2
  exact ⟨rfl, hB2⟩

theorem append_no (w : World) (v : Value) (h : NoD w v) (k : ByteArray) (b : Value) : Calls Try.prog 32 #[v, .string k, b] w fun e w' => e = .returned (.int .i64 1) ∧ Below w.heap.size w w' := by
  have HF := find_no w w v h (Below.refl _ _) k (.slice none 0 0) [] (OwnT.nil _ _) (by decide)
  clear h
  go_enter Try.func32, Try.ntmps32
  go_wp2_with fail
  refine HF.mono ?_
  rintro e w' ⟨rfl, hb⟩
  go_wp2_with fail
  go_ret
  exact ⟨rfl, hb⟩

theorem sync_no (w : World) (v : Value) (h : NoD w v) (k : ByteArray) : Calls Try.prog 33 #[v, .string k] w fun e w' => e = .returned (.int .i64 1) ∧ Below w.heap.size w w' := by
  have HF := find_no w w v h (Below.refl _ _) k (.slice none 0 0) [] (OwnT.nil _ _) (by decide)
  clear h
  go_enter Try.func33, Try.ntmps33
  go_wp2_with fail
  refine HF.mono ?_
  rintro e w' ⟨rfl, hb⟩
  go_wp2_with fail
  go_ret
  exact ⟨rfl, hb⟩

theorem remove_no (w : World) (v : Value) (h : NoD w v) (k : ByteArray) : Calls Try.prog 35 #[v, .string k] w fun e w' => e = .returned (.int .i64 1) ∧ Below w.heap.size w w' := by
  have HF := find_no w w v h (Below.refl _ _) k (.slice none 0 0) [] (OwnT.nil _ _) (by decide)
  clear h
  go_enter Try.func35, Try.ntmps35
  go_wp2_with fail
  refine HF.mono ?_
  rintro e w' ⟨rfl, hb⟩
  go_wp2_with fail
  go_ret
  exact ⟨rfl, hb⟩

theorem read_no (w : World) (v : Value) (h : NoD w v) (k : ByteArray) : Calls Try.prog 30 #[v, .string k] w fun e w' => e = .returned (.tuple #[.slice none 0 0, .int .i64 1]) ∧ Below w.heap.size w w' := by
  have HF := find_no w w v h (Below.refl _ _) k (.slice none 0 0) [] (OwnT.nil _ _) (by decide)
  clear h
  go_enter Try.func30, Try.ntmps30
  go_wp2_with fail
  refine HF.mono ?_
  rintro e w' ⟨rfl, hb⟩
  go_wp2_with fail
  go_ret2
  exact ⟨rfl, hb⟩

theorem spoil_no (w : World) (v : Value) (h : NoD w v) (k : ByteArray) (b : Value) : Calls Try.prog 36 #[v, .string k, b] w fun e w' => e = .returned (.int .i64 1) ∧ Below w.heap.size w w' := by
  have HF := find_no w w v h (Below.refl _ _) k (.slice none 0 0) [] (OwnT.nil _ _) (by decide)
  clear h
  go_enter Try.func36, Try.ntmps36
  go_wp2_with fail
  refine HF.mono ?_
  rintro e w' ⟨rfl, hb⟩
  go_wp2_with fail
  go_ret
  exact ⟨rfl, hb⟩

theorem made_t (w : World) (base : Nat) (k : ByteArray) (hb : base ≤ w.heap.size) : OwnT (w.alloc (.cells #[.string k] 9)) base (.slice (some ⟨w.heap.size, 0, none⟩) 1 1) [k] :=
  World.ownsRow_lit w #[.string k] 1 hb (by decide) rfl
theorem rename_no (w : World) (v : Value) (h : NoD w v) (k k2 : ByteArray) : Calls Try.prog 34 #[v, .string k, .string k2] w fun e w' => e = .returned (.int .i64 1) ∧ Below w.heap.size w w' := by
  have HF := find_no w _ v h ((Below.refl _ _).alloc (Nat.le_refl _) _) k _ [k2] (made_t w _ k2 (Nat.le_refl _)) (by simp)
  clear h
  go_enter Try.func34, Try.ntmps34
  go_wp2_with fail
  refine HF.mono ?_
  rintro e w' ⟨rfl, hb⟩
  go_wp2_with fail
  go_ret
  exact ⟨rfl, hb⟩
theorem files_no (w : World) (v : Value) (h : NoD w v) : Calls Try.prog 14 #[v] w fun e w' => e = .returned (.slice none 0 0) ∧ Below w.heap.size w w' := by
  go_enter Try.func14, Try.ntmps14
  go_wp2_with fail
  refine (names_no w v h).mono ?_
  rintro e w' ⟨rfl, hb⟩
  clear h
  go_wp2_with fail
  refine wp_loop_rounds 1 ?_
  rw [rounds_succ]
  go_wp2_with fail
  go_ret
  exact ⟨rfl, hb⟩
end Go.Proofs.Ytaeiijncklmfdaa
