/-
  outs: made, Err, Count, Flush, New.
-/
import Derived.Test.YtbdgolbejoheiaaHand
namespace Go.Proofs.Ytbdgolbejoheiaa
open Go.RowKit

theorem neqSink (w : World) (bs : Nat) : Sem.run Try.prog (binOp .neq 24 (.func (.func 15) #[.pointer (some ⟨bs, 0, none⟩)] #[]) .nilFunc) w = .ok (.bool true) w := by kernel_rfl
theorem neqNil (w : World) : Sem.run Try.prog (binOp .neq 24 .nilFunc .nilFunc) w = .ok (.bool false) w := by kernel_rfl
/-- An output that New did not make. -/
def zeroCells : List Value := [.int .i64 0, .nilFunc, .slice none 0 0, .int .i64 0, .int .i64 0]

theorem made_yes (W : World) (base : Nat) (s : OSt) (h : OIs W base s) : Calls Try.prog 17 #[.pointer (some ⟨s.bo, 0, none⟩)] W fun e w' => e = .returned (.bool true) ∧ W = w' := by
  have c1 : W.cell? ⟨s.bo, 1, none⟩ = some (.func (.func 15) #[.pointer (some ⟨s.bs, 0, none⟩)] #[]) := h.o.cell 1
  have hn := fun w => neqSink w s.bs
  clear h
  go_enter Try.func17, Try.ntmps17
  go_wp2
  go_ret
  exact ⟨rfl, rfl⟩
theorem made_zero (W : World) (b : Nat) (h : At W b TOut zeroCells) : Calls Try.prog 17 #[.pointer (some ⟨b, 0, none⟩)] W fun e w' => e = .returned (.bool false) ∧ W = w' := by
  have c1 : W.cell? ⟨b, 1, none⟩ = some .nilFunc := h.cell 1
  have hn := neqNil
  clear h
  go_enter Try.func17, Try.ntmps17
  go_wp2
  go_ret
  exact ⟨rfl, rfl⟩
theorem made_nil (W : World) : Calls Try.prog 17 #[.pointer none] W fun e w' => e = .returned (.bool false) ∧ W = w' := by
  go_enter Try.func17, Try.ntmps17
  go_wp2
  go_ret
  exact ⟨rfl, rfl⟩
theorem err_yes (W : World) (base : Nat) (s : OSt) (h : OIs W base s) : Calls Try.prog 10 #[.pointer (some ⟨s.bo, 0, none⟩)] W fun e w' => e = .returned (.int .i64 s.err) ∧ W = w' := by
  have c3 : W.cell? ⟨s.bo, 3, none⟩ = some (.int .i64 s.err) := h.o.cell 3
  have HM := Lib.hid (made_yes W base s h)
  clear h
  go_enter Try.func10, Try.ntmps10
  go_wp2_with fail
  refine HM.out.mono ?_
  rintro e w' ⟨rfl, rfl⟩
  go_wp2_with fail
  go_ret
  exact ⟨rfl, rfl⟩
theorem count_yes (W : World) (base : Nat) (s : OSt) (h : OIs W base s) : Calls Try.prog 11 #[.pointer (some ⟨s.bo, 0, none⟩)] W fun e w' => e = .returned (.int .i64 s.cnt) ∧ W = w' := by
  have c3 : W.cell? ⟨s.bo, 4, none⟩ = some (.int .i64 s.cnt) := h.o.cell 4
  have HM := Lib.hid (made_yes W base s h)
  clear h
  go_enter Try.func11, Try.ntmps11
  go_wp2_with fail
  refine HM.out.mono ?_
  rintro e w' ⟨rfl, rfl⟩
  go_wp2_with fail
  go_ret
  exact ⟨rfl, rfl⟩
theorem err_no (W : World) (p : Option Addr) (hm : Calls Try.prog 17 #[.pointer p] W fun e w' => e = .returned (.bool false) ∧ W = w') : Calls Try.prog 10 #[.pointer p] W fun e w' => e = .returned (.int .i64 1) ∧ W = w' := by
  have HM := Lib.hid hm
  clear hm
  go_enter Try.func10, Try.ntmps10
  go_wp2_with fail
  refine HM.out.mono ?_
  rintro e w' ⟨rfl, rfl⟩
  go_wp2_with fail
  go_ret
  exact ⟨rfl, rfl⟩
theorem count_no (W : World) (p : Option Addr) (hm : Calls Try.prog 17 #[.pointer p] W fun e w' => e = .returned (.bool false) ∧ W = w') : Calls Try.prog 11 #[.pointer p] W fun e w' => e = .returned (.int .i64 0) ∧ W = w' := by
  have HM := Lib.hid hm
  clear hm
  go_enter Try.func11, Try.ntmps11
  go_wp2_with fail
  refine HM.out.mono ?_
  rintro e w' ⟨rfl, rfl⟩
  go_wp2_with fail
  go_ret
  exact ⟨rfl, rfl⟩
theorem flush_no (W : World) (p : Option Addr) (hm : Calls Try.prog 17 #[.pointer p] W fun e w' => e = .returned (.bool false) ∧ W = w') : Calls Try.prog 9 #[.pointer p] W fun e w' => e = .returned (.int .i64 1) ∧ W = w' := by
  have HM := Lib.hid hm
  have HE := Lib.hid (err_no W p hm)
  clear hm
  go_enter Try.func9, Try.ntmps9
  go_wp2_with fail
  refine HM.out.mono ?_
  rintro e w' ⟨rfl, rfl⟩
  go_wp2_with fail
  refine HE.out.mono ?_
  rintro e w' ⟨rfl, rfl⟩
  go_wp2_with fail
  go_ret
  exact ⟨rfl, rfl⟩
theorem write_no (W : World) (p : Option Addr) (v : Value) (hm : Calls Try.prog 17 #[.pointer p] W fun e w' => e = .returned (.bool false) ∧ W = w') : Calls Try.prog 7 #[.pointer p, v] W fun e w' => e = .returned (.int .i64 1) ∧ W = w' := by
  have HM := Lib.hid hm
  have HE := Lib.hid (err_no W p hm)
  clear hm
  go_enter Try.func7, Try.ntmps7
  go_wp2_with fail
  refine HM.out.mono ?_
  rintro e w' ⟨rfl, rfl⟩
  go_wp2_with fail
  refine HE.out.mono ?_
  rintro e w' ⟨rfl, rfl⟩
  go_wp2_with fail
  go_ret
  exact ⟨rfl, rfl⟩

/-! ### Flush -/
def flushM (fail ferr : Int) (m : OM) : OM := if m.2.2.1 ≠ 0 then m else handM fail ferr m
def FlushPost (W : World) (base : Nat) (s : OSt) (M : OM) (e : Ending) (W' : World) : Prop := e = .returned (.int .i64 M.2.2.1) ∧ ∃ s', Same s s' ∧ omOf s' = M ∧ OIs W' base s' ∧ OUp W W' base s s'
theorem flush_yes (W : World) (base : Nat) (s : OSt) (h : OIs W base s) (hbase : base ≤ W.heap.size) (hgl : s.g.length ≤ 140737488351232) (hcnt : 0 ≤ s.cnt ∧ s.cnt ≤ 4611686018427387904) (hlen : s.said.length < 4294967296) :
    Calls Try.prog 9 #[.pointer (some ⟨s.bo, 0, none⟩)] W (FlushPost W base s (flushM s.fail s.ferr (omOf s))) := by
  have c3 : W.cell? ⟨s.bo, 3, none⟩ = some (.int .i64 s.err) := h.o.cell 3
  have HM := Lib.hid (made_yes W base s h)
  have HE := Lib.hid (err_yes W base s h)
  have HH := Lib.hid (handOn_any W base s h hbase hgl hcnt hlen)
  have HI := Lib.hid h
  clear h
  by_cases he : s.err = 0
  · have hb : (s.err != 0) = false := by simpa using he
    have hF : flushM s.fail s.ferr (omOf s) = handM s.fail s.ferr (omOf s) := by unfold flushM; rw [if_neg]; simpa [omOf] using he
    rw [hF]
    clear he hF HE
    go_enter Try.func9, Try.ntmps9
    go_wp2_with fail
    refine HM.out.mono ?_
    rintro e w' ⟨rfl, rfl⟩
    go_wp2_with fail
    refine HH.out.mono ?_
    rintro e w1 ⟨rfl, s', hS, hO, hI1, hU1⟩
    have c3' : w1.cell? ⟨s.bo, 3, none⟩ = some (.int .i64 s'.err) := by rw [← hS.bo]; exact hI1.o.cell 3
    have HP : Hid (FlushPost W base s (handM s.fail s.ferr (omOf s)) (.returned (.int .i64 s'.err)) w1) := Lib.hid ⟨by rw [← hO]; rfl, s', hS, hO, hI1, hU1⟩
    clear c3 hS hO hI1 hU1
    go_wp2_with fail
    go_ret
    exact HP.out
  · have hb : (s.err != 0) = true := by simpa using he
    have hF : flushM s.fail s.ferr (omOf s) = omOf s := by unfold flushM; rw [if_pos]; simpa [omOf] using he
    have HP : Hid (FlushPost W base s (omOf s) (.returned (.int .i64 s.err)) W) := Lib.hid ⟨rfl, s, Same.refl s, rfl, HI.out, OUp.refl _ _ _⟩
    rw [hF]
    clear he hF HH
    go_enter Try.func9, Try.ntmps9
    go_wp2_with fail
    refine HM.out.mono ?_
    rintro e w' ⟨rfl, rfl⟩
    go_wp2_with fail
    refine HE.out.mono ?_
    rintro e w' ⟨rfl, rfl⟩
    go_wp2_with fail
    go_ret
    exact HP.out

/-! ### New -/
def newSt (bo bs : Nat) (size fail ferr : Int) : OSt := ⟨bo, bs, size, fail, ferr, .slice none 0 0, .slice none 0 0, .slice none 0 0, [], [], [], [], 0, 0⟩
/-- A sink that was just laid. -/
def sinkNew (fail ferr : Int) : List Value := [.pointer none, .string ByteArray.empty, .int .i64 fail, .int .i64 ferr, .int .i64 0, .slice none 0 0, .slice none 0 0]
theorem new_no (W : World) (size : Int) (h : size < 0) (f : Value) : Calls Try.prog 14 #[.int .i64 size, f] W fun e w' => e = .returned (.tuple #[.pointer none, .int .i64 1]) ∧ W = w' := by
  go_enter Try.func14, Try.ntmps14
  go_wp2_with fail
  go_ret2
  exact ⟨rfl, rfl⟩
def NewPost (W : World) (base bs : Nat) (size fail ferr : Int) (e : Ending) (W' : World) : Prop := e = .returned (.tuple #[.pointer (some ⟨W.heap.size, 0, none⟩), .int .i64 0]) ∧ OIs W' base (newSt W.heap.size bs size fail ferr) ∧ Below W.heap.size W W' ∧ W'.heap.size = W.heap.size + 1
theorem new_yes (W : World) (base bs : Nat) (size fail ferr : Int) (h : 0 ≤ size) (hk : At W bs TSink (sinkNew fail ferr)) (hbase : base ≤ W.heap.size) (hbs : base ≤ bs) :
    Calls Try.prog 14 #[.int .i64 size, .func (.func 15) #[.pointer (some ⟨bs, 0, none⟩)] #[]] W (NewPost W base bs size fail ferr) := by
  have hb := (Below.refl W.heap.size W).alloc (Nat.le_refl _) (.cells #[.int .i64 size, .func (.func 15) #[.pointer (some ⟨bs, 0, none⟩)] #[], .slice none 0 0, .int .i64 0, .int .i64 0] 28)
  have ho : At (W.alloc (.cells #[.int .i64 size, .func (.func 15) #[.pointer (some ⟨bs, 0, none⟩)] #[], .slice none 0 0, .int .i64 0, .int .i64 0] 28)) W.heap.size TOut (outCells (newSt W.heap.size bs size fail ferr)) := heap_alloc_new W _
  have HP : Hid (NewPost W base bs size fail ferr (.returned (.tuple #[.pointer (some ⟨W.heap.size, 0, none⟩), .int .i64 0])) (W.alloc (.cells #[.int .i64 size, .func (.func 15) #[.pointer (some ⟨bs, 0, none⟩)] #[], .slice none 0 0, .int .i64 0, .int .i64 0] 28))) := Lib.hid
    ⟨rfl, ⟨ho, hk.below hb, OwnB.nil _ _, World.ownsRow_nil _ _ _ _, World.ownsRow_nil _ _ _ _, fun k h1 _ => by simp [newSt, Value.ownBlock] at h1, fun i hi => absurd hi (Nat.not_lt_zero _), isB_nil, hbase, hbs⟩, hb, World.size_alloc _ _⟩
  clear hb ho hk
  go_enter Try.func14, Try.ntmps14
  go_wp2_with fail
  go_ret2
  exact HP.out
end Go.Proofs.Ytbdgolbejoheiaa
