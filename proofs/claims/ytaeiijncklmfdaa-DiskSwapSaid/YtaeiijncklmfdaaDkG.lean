/-
  Layer 3: slices.Clone of bytes, maps.Clone, a change that comes about in a folder.
-/
import Derived.Test.YtaeiijncklmfdaaDkT
import Derived.Shelf.SlMaps.Clone
import Derived.Laws.Externs
namespace Go.Proofs.Ytaeiijncklmfdaa
open Go.RowKit

theorem own_zeroB (w : World) (base : Nat) (hb : base ≤ w.heap.size) : OwnB (w.alloc (.cells #[] 5)) base (.slice (some ⟨w.heap.size, 0, none⟩) 0 0) [] := by
  unfold OwnB
  exact World.ownsRow_made w #[] 0 hb (by unfold maxLen; omega) rfl
theorem eqlNilB (w : World) (b : Addr) (n c : Nat) : Sem.run Try.prog (binOp .eql 34 (.slice (some b) n c) (.slice none 0 0)) w = .ok (.bool false) w := by kernel_rfl
theorem eqlNilB0 (w : World) : Sem.run Try.prog (binOp .eql 34 (.slice none 0 0) (.slice none 0 0)) w = .ok (.bool true) w := by kernel_rfl
theorem cloneB_any (w : World) (a : Option Addr) (n c : Nat) (l : List Int) (hv : SB w (.slice a n c) l) (hN : a = none → c = 0) (hnc : n ≤ c) (hl : l.length ≤ 140737488351232) : Calls Try.prog 52 #[.slice a n c] w (TwinPost w l) := by
  cases a with
  | none =>
    have hc := hN rfl
    subst hc
    have hn0 : n = 0 := by omega
    subst hn0
    have : l = [] := List.eq_nil_of_length_eq_zero hv.len.1
    subst this
    have heq := eqlNilB0 w
    clear hv hN
    go_enter Try.func52, Try.ntmps52
    go_wp2_with fail
    go_ret
    exact ⟨_, rfl, OwnB.nil _ _, Below.refl _ _⟩
  | some b =>
    have hb0 := (Below.refl w.heap.size w).alloc (Nat.le_refl _) (.cells #[] 5)
    have hv1 := hv.below hb0
    have ho := own_zeroB w w.heap.size (Nat.le_refl _)
    have hs : w.heap.size ≤ (w.alloc (.cells #[] 5)).heap.size := by simp
    have hln := hv.len
    have hen := fun W => eqlNilB W b n c
    clear hv hN
    go_enter Try.func52, Try.ntmps52
    go_wp2_with (at_builtin; refine append_sbp rfl (.tmp 5) (.tmp 6) rfl w.heap.size _ [] l (some b) n c rfl ho rfl (fun e => by cases e) hv1 (by simp; omega) hs ?_)
    intro v' w1 ho1 hA1
    have hb1 := hA1.bel _ _ hb0 (Nat.le_refl _)
    clear hA1 ho hb0
    go_wp2_with fail
    go_ret
    exact ⟨_, rfl, ho1, hb1⟩

set_option maxRecDepth 100000 in
theorem mapsClone_any (w : World) (g : Nat) (L : List (ByteArray × Nat)) (h : MapAt w g L) : Calls Try.prog 57 #[.map (some g)] w fun e w' => e = .returned (.map (some w.heap.size)) ∧ Below w.heap.size w w' ∧ MapAt w' w.heap.size L ∧ w'.heap.size = w.heap.size + 1 := by
  obtain ⟨es, clock, hg, hst, he⟩ := h
  have hq := fun w => run_eql_map_nil_sl (P := Try.prog) w 66 _ _ (some g) udM
  go_enter Try.func57, Try.ntmps57
  go_wp2
  rw [run_callFunc_extern Try.func75 (by kernel_rfl) (by kernel_rfl) (by kernel_rfl) (e := Extern.MapsClone.clone) (by kernel_rfl), run_maps_clone_sl w 66 hg]
  simp only [Result.andThen]
  rw [Oper.upon_value]
  go_wp2
  rw [run_typeAssert_map_sl _ 66 20 _ _ _ udM]
  simp only [Result.andThen]
  rw [Oper.upon_value]
  go_wp2
  go_ret
  exact ⟨rfl, (Below.refl _ w).alloc (Nat.le_refl _) _, ⟨es, clock, heap_alloc_new w _, hst, he⟩, by simp⟩

def applyM (L : List (ByteArray × Nat)) (x : ChS) : List (ByteArray × Nat) :=
  let L1 := if (x.gone == ByteArray.empty) = true then L else delK L x.gone
  if (x.to == ByteArray.empty) = true then L1 else putK L1 x.to (x.file.getD 0)
def chV (x : ChS) : Value := .agg #[.string x.gone, .string x.to, ptV x.file]
theorem up_setMap (w : World) (g base : Nat) (o : Obj) (hb : base ≤ g) : Up w { w with heap := w.heap.setIfInBounds g o } base (· = g) (· = g) :=
  ⟨fun k _ hn => by simp [Ne.symm hn], fun _ h => .inl h, fun B w0 hB hle => ⟨hB.os, hB.tape, hB.output, by simpa using hB.size, fun k hk => by
    have : (w.heap.setIfInBounds g o)[k]? = w.heap[k]? := by simp [show g ≠ k by omega]
    rw [this]; exact hB.block k hk⟩, by simp⟩
theorem nonemp {k : ByteArray} (h : k ≠ ByteArray.empty) : (!k.toList.isEmpty) = true := by
  have : decide (k = ByteArray.empty) = k.toList.isEmpty := decide_eq_emptyBytes k
  rw [← this]
  simpa using h
set_option maxHeartbeats 1000000 in
set_option maxRecDepth 100000 in
theorem apply_any (w : World) (g base : Nat) (L : List (ByteArray × Nat)) (h : MapAt w g L) (hb : base ≤ g) (x : ChS) (hx : x.to ≠ ByteArray.empty → x.file ≠ none) :
    Calls Try.prog 58 #[chV x, .map (some g)] w fun e w' => e = .returned (.tuple #[]) ∧ MapAt w' g (applyM L x) ∧ Up w w' base (· = g) (· = g) := by
  obtain ⟨gone, to, file⟩ := x
  unfold chV applyM
  simp only at hx ⊢
  have hA : Up w (w.alloc (.cells #[.string gone, .string to, ptV file] 108)) base (· = g) (· = g) := Up.below _ ((Below.refl _ w).alloc (Nat.le_refl _) _) (by have := h.lt; omega)
  have hM := h.keep (w' := w.alloc (.cells #[.string gone, .string to, ptV file] 108)) (heap_alloc_old w _ h.lt)
  generalize hW : w.alloc (.cells #[.string gone, .string to, ptV file] 108) = W at hA hM
  have c0 : W.cell? ⟨w.heap.size, 0, none⟩ = some (.string gone) := by rw [← hW]; simp
  have c1 : W.cell? ⟨w.heap.size, 1, none⟩ = some (.string to) := by rw [← hW]; simp
  have c2 : W.cell? ⟨w.heap.size, 2, none⟩ = some (ptV file) := by rw [← hW]; simp
  have hgl := h.lt
  have hcell : ∀ (o : Obj) (i : Nat), ({ W with heap := W.heap.setIfInBounds g o } : World).cell? ⟨w.heap.size, i, none⟩ = W.cell? ⟨w.heap.size, i, none⟩ := fun o i => cell_heap (by simp [show g ≠ w.heap.size by omega]) i
  have hput : ∀ (W' : World) (L' : List (ByteArray × Nat)), MapAt W' g L' → to ≠ ByteArray.empty → ∃ o : Obj, (Instr.mapUpdate 66 (.map (some g)) (.string to) (ptV file)).run Try.prog W' = .ok () { W' with heap := W'.heap.setIfInBounds g o } ∧
      MapAt { W' with heap := W'.heap.setIfInBounds g o } g (putK L' to (file.getD 0)) := fun W' L' hm hne => by
    cases file with
    | none => exact absurd rfl (hx hne)
    | some p => exact insertK_run W' g L' hm to p
  by_cases h1 : gone = ByteArray.empty
  · rw [if_pos ((MapKept.bytes_beq _ _).2 h1)]
    by_cases h2 : to = ByteArray.empty
    · rw [if_pos ((MapKept.bytes_beq _ _).2 h2)]
      subst h1
      subst h2
      have HA := Lib.hid hA
      have HM := Lib.hid hM
      clear hput hcell h hA hM hx
      go_enter Try.func58, Try.ntmps58
      go_wp2_with fail
      go_end0
      exact ⟨rfl, HM.out, HA.out⟩
    · rw [if_neg (fun e => h2 ((MapKept.bytes_beq _ _).1 e))]
      subst h1
      have ht2 : (!to.toList.isEmpty) = true := nonemp h2
      obtain ⟨o2, hr2, hm2⟩ := hput W L hM h2
      have hU2 := hA.trans (up_setMap W g base o2 hb)
      generalize hW2 : ({ W with heap := W.heap.setIfInBounds g o2 } : World) = W2 at hr2 hm2 hU2
      have HA := Lib.hid hU2
      have HM := Lib.hid hm2
      clear hput hcell h hA hM hx hm2 hU2 hW2 h2
      go_enter Try.func58, Try.ntmps58
      go_wp2_with fail
      go_end0
      exact ⟨rfl, HM.out, HA.out⟩
  · rw [if_neg (fun e => h1 ((MapKept.bytes_beq _ _).1 e))]
    by_cases h2 : to = ByteArray.empty
    · rw [if_pos ((MapKept.bytes_beq _ _).2 h2)]
      have ht1 : (!gone.toList.isEmpty) = true := nonemp h1
      obtain ⟨o1, hr1, hm1⟩ := deleteK_run W g L hM gone
      have hU1 := hA.trans (up_setMap W g base o1 hb)
      have e1 := (hcell o1 1).trans c1
      have e2 := (hcell o1 2).trans c2
      generalize hW1 : ({ W with heap := W.heap.setIfInBounds g o1 } : World) = W1 at hr1 hm1 hU1 e1 e2
      subst h2
      have HA := Lib.hid hU1
      have HM := Lib.hid hm1
      clear hput hcell h hA hM hx hm1 hU1 hW1 h1
      go_enter Try.func58, Try.ntmps58
      go_wp2_with fail
      go_end0
      exact ⟨rfl, HM.out, HA.out⟩
    · rw [if_neg (fun e => h2 ((MapKept.bytes_beq _ _).1 e))]
      have ht1 : (!gone.toList.isEmpty) = true := nonemp h1
      obtain ⟨o1, hr1, hm1⟩ := deleteK_run W g L hM gone
      have hU1 := hA.trans (up_setMap W g base o1 hb)
      have e1 := (hcell o1 1).trans c1
      have e2 := (hcell o1 2).trans c2
      generalize hW1 : ({ W with heap := W.heap.setIfInBounds g o1 } : World) = W1 at hr1 hm1 hU1 e1 e2
      have ht2 : (!to.toList.isEmpty) = true := nonemp h2
      obtain ⟨o2, hr2, hm2⟩ := hput W1 (delK L gone) hm1 h2
      have hU2 := hU1.trans (up_setMap W1 g base o2 hb)
      generalize hW2 : ({ W1 with heap := W1.heap.setIfInBounds g o2 } : World) = W2 at hr2 hm2 hU2
      have HA := Lib.hid hU2
      have HM := Lib.hid hm2
      clear hput hcell h hA hM hx hm1 hU1 hW1 h1 hm2 hU2 hW2 h2
      go_enter Try.func58, Try.ntmps58
      go_wp2_with fail
      go_end0
      exact ⟨rfl, HM.out, HA.out⟩
end Go.Proofs.Ytaeiijncklmfdaa
