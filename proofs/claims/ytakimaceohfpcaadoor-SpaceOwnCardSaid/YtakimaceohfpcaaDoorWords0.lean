/-
  words.Words: what a place in memory holds; bytes.Clone, New, isWords, At, Peek, Take.
-/
import Derived.Test.YtakimaceohfpcaaDoorBytes
import Derived.Test.YtakimaceohfpcaaDoorWMath
import Derived.IntWalk
import Derived.Deep.QuietTactic
import Derived.BigQuiet
namespace Go.Proofs.YtakimaceohfpcaaDoor
open Go.RowKit

/-- The value v owns the bytes l; it may be an empty list that is not nil. -/
theorem OwnB.empty (w : World) : OwnB (w.alloc (.cells #[] 5)) w.heap.size (.slice (some ⟨w.heap.size, 0, none⟩) 0 0) [] :=
  World.ownsRow_made w #[] 0 (Nat.le_refl _) (by decide) rfl

set_option maxHeartbeats 400000 in
theorem clone_any (w : World) (v : Value) (l : List Int) (hb : SB w v l) : Calls Tryd.prog 119 #[v] w (TwinPost w l) := by
  obtain ⟨i0, hi, hz0, hz1, hz2⟩ := info_parts infoB
  have q22 : ∀ (w : World) (a : Option Addr) (n c n' c' : Nat), (binOp .eql 48 (.slice a n c) (.slice none n' c')).run Tryd.prog w = .ok (.bool a.isNone) w := fun w a n c n' c' => Lib.run_eql_slice_nil w _ _ a n c n' c' Tryd.underlying48
  obtain ⟨hB, a, c, rfl, hl, hc⟩ := id hb
  cases a with
  | none =>
    have e : l = [] := by rcases hc with h | ⟨_, _, h, _⟩ <;> first | exact h | cases h
    subst e
    clear hb hB hc
    go_enter Tryd.func119, Tryd.ntmps119
    go_wp2
    go_ret
    exact ⟨_, rfl, OwnB.nil _ _, Below.refl _ _⟩
  | some ad =>
    have ho := OwnB.empty w
    have HN : Hid (∀ j u, (l.map (Value.int .u8))[j]? = some u → (w.alloc (.cells #[] 5)).cell? (ad.add j) = some u) := by
      intro j u hj
      rcases hc with rfl | ⟨b, o, he, hc⟩
      · simp at hj
      · have hlt : j < l.length := by
          have := (List.getElem?_eq_some_iff.1 hj).1
          simpa using this
        simp only [Option.some.injEq] at he
        subst he
        have h1 := hc j hlt
        have h2 := ((Below.refl _ w).alloc (Nat.le_refl _) (.cells #[] 5)).cell (World.block_lt_of_cell? w _ h1)
        rw [show (⟨b, o, none⟩ : Addr).add j = ⟨b, o + j, none⟩ by simp [Addr.add], h2, h1]
        simpa [hlt] using hj
    clear hb hB hc
    go_enter Tryd.func119, Tryd.ntmps119
    go_wp2_with (at_builtin; refine wpList_append_own _ rfl _ _ 48 rfl w.heap.size 5 i0 (.int .u8 0) 1 1 Tryd.underlying48 hi hz0 hz1 hz2 rfl (by decide) _ _ _ rfl ho ad l.length c (l.map (Value.int .u8)) rfl (by rw [List.length_map, Nat.mul_one]) HN.out (bytes_one l) (by show 0 + l.length ≤ maxLen; unfold maxLen; omega) (by show (0 + l.length) * 1 ≤ _; omega) (by simp) ?_)
    intro v' w1 hown hgrow _
    go_wp2
    go_ret
    refine ⟨_, rfl, ?_, ((Below.refl _ w).alloc (Nat.le_refl _) (.cells #[] 5)).grown hgrow (by simp) (fun k h => by simp [Value.ownBlock] at h; omega)⟩
    simpa [OwnB] using hown

/-! ### Others -/
/-- A list of bytes does not lie in a block whose cells are no bytes. -/
theorem SB.grown {w w' : World} {v : Value} {m : List Int} (h : SB w v m) {g : Nat} {cs : Array Value} {T : TypeId} {fr : Nat × Nat} (hg : w.heap[g]? = some (.cells cs T fr)) (hn : ∀ (i : Nat) (x : Int), cs[i]? ≠ some (.int .u8 x))
    (hw : w.grownBy w' (some g)) : SB w' v m := by
  obtain ⟨h1, a, cap, rfl, h2, h3⟩ := h
  refine ⟨h1, a, cap, rfl, h2, ?_⟩
  rcases h3 with h3 | ⟨b, off, ha, hc⟩
  · exact .inl h3
  · refine .inr ⟨b, off, ha, fun i hi => ?_⟩
    have hci := hc i hi
    refine hw.cell hci ?_
    intro e
    simp only [Option.some.injEq] at e
    subst e
    rw [cell_of_row w b (off + i) cs T fr hg] at hci
    exact hn _ _ hci
theorem SB.no {w : World} {v : Value} {m : List Int} (h : SB w v m) (x : Int) : v ≠ .int .u8 x := by
  obtain ⟨_, _, _, rfl, _⟩ := h
  simp
theorem grown_refl (w : World) (r : Option Nat) : w.grownBy w r := ⟨rfl, rfl, rfl, Nat.le_refl _, fun _ _ _ => rfl⟩
theorem grown_below {w w' : World} (h : Below w.heap.size w w') (r : Option Nat) : w.grownBy w' r := ⟨h.os, h.tape, h.output, h.size, fun k hk _ => h.block k hk⟩
theorem grown_trans {a b c : World} {r : Option Nat} (h : a.grownBy b r) (k : b.grownBy c r) : a.grownBy c r :=
  ⟨k.os.trans h.os, k.tape.trans h.tape, k.output.trans h.output, Nat.le_trans h.size k.size, fun i hi hn => (k.block i (Nat.lt_of_lt_of_le hi h.size) hn).trans (h.block i hi hn)⟩

theorem OwnB.sbc {w : World} {base : Nat} {v : Value} {l : List Int} (h : OwnB w base v l) (hB : IsB l) (hl : l.length ≤ 140737488351232) : ∃ ad cap, v = .slice ad l.length cap ∧ l.length ≤ cap ∧ SB w v l := by
  have hs := h.sb hB hl
  rcases h.2 with ⟨rfl, hn⟩ | ⟨g, cap, cur, rfl, _, _, hc, _⟩
  · exact ⟨none, 0, by rw [hn], by omega, hs⟩
  · exact ⟨_, cap, rfl, hc, hs⟩
end Go.Proofs.YtakimaceohfpcaaDoor
