/-
  words.Words: what a place in memory holds; bytes.Clone, New, isWords, At, Peek, Take.
-/
import Derived.Test.YtadjonggmbndmaaBytes
import Derived.Test.YtadjonggmbndmaaWMath
import Derived.IntWalk
import Derived.Deep.QuietTactic
import Derived.BigQuiet
namespace Go.Proofs.Ytadjonggmbndmaa
open Go.RowKit

/-- The value v owns the bytes l; it may be an empty list that is not nil. -/
theorem OwnB.empty (w : World) : OwnB (w.alloc (.cells #[] 5)) w.heap.size (.slice (some ⟨w.heap.size, 0, none⟩) 0 0) [] :=
  World.ownsRow_made w #[] 0 (Nat.le_refl _) (by decide) rfl

set_option maxHeartbeats 400000 in
theorem clone_any (w : World) (v : Value) (l : List Int) (hb : SB w v l) : Calls Try.prog 59 #[v] w (TwinPost w l) := by
  obtain ⟨i0, hi, hz0, hz1, hz2⟩ := info_parts infoB
  have q22 : ∀ (w : World) (a : Option Addr) (n c n' c' : Nat), (binOp .eql 35 (.slice a n c) (.slice none n' c')).run Try.prog w = .ok (.bool a.isNone) w := fun w a n c n' c' => Lib.run_eql_slice_nil w _ _ a n c n' c' Try.underlying35
  obtain ⟨hB, a, c, rfl, hl, hc⟩ := id hb
  cases a with
  | none =>
    have e : l = [] := by rcases hc with h | ⟨_, _, h, _⟩ <;> first | exact h | cases h
    subst e
    clear hb hB hc
    go_enter Try.func59, Try.ntmps59
    go_wp2
    go_ret
    exact ⟨_, rfl, OwnB.nil _ _, Below.refl _ _⟩
  | some ad =>
    have ho := OwnB.empty w
    have HN : Hid (∀ j u, (l.map (Value.int .u8))[j]? = some u → (w.alloc (.cells #[] 5)).cell? (ad.add j) = some u) := by
      intro j u hj
      rcases hc with rfl | ⟨b, o, he, hc⟩
      · simp at hj
      · have hlt : j < l.length := by
          have := (List.getElem?_eq_some_iff.1 hj).1
          simpa using this
        simp only [Option.some.injEq] at he
        subst he
        have h1 := hc j hlt
        have h2 := ((Below.refl _ w).alloc (Nat.le_refl _) (.cells #[] 5)).cell (World.block_lt_of_cell? w _ h1)
        rw [show (⟨b, o, none⟩ : Addr).add j = ⟨b, o + j, none⟩ by simp [Addr.add], h2, h1]
        simpa [hlt] using hj
    clear hb hB hc
    go_enter Try.func59, Try.ntmps59
    go_wp2_with (at_builtin; refine wpList_append_own _ rfl _ _ 35 rfl w.heap.size 5 i0 (.int .u8 0) 1 1 Try.underlying35 hi hz0 hz1 hz2 rfl (by decide) _ _ _ rfl ho ad l.length c (l.map (Value.int .u8)) rfl (by rw [List.length_map, Nat.mul_one]) HN.out (bytes_one l) (by show 0 + l.length ≤ maxLen; unfold maxLen; omega) (by show (0 + l.length) * 1 ≤ _; omega) (by simp) ?_)
    intro v' w1 hown hgrow _
    go_wp2
    go_ret
    refine ⟨_, rfl, ?_, ((Below.refl _ w).alloc (Nat.le_refl _) (.cells #[] 5)).grown hgrow (by simp) (fun k h => by simp [Value.ownBlock] at h; omega)⟩
    simpa [OwnB] using hown

/-! ### Words -/
/-- Block g of w is a Words that New made: its text l, its place a. -/
def Wd (w : World) (g : Nat) (l : List Int) (a : Nat) : Prop :=
  a ≤ l.length ∧ l.length ≤ 140737488351232 ∧ ∃ ad cap, l.length ≤ cap ∧ w.heap[g]? = some (.cells #[.bool true, .slice ad l.length cap, .int .i64 a] 50 (0, 0)) ∧ SB w (.slice ad l.length cap) l

theorem Wd.lt {w : World} {g : Nat} {l : List Int} {a : Nat} (h : Wd w g l a) : g < w.heap.size := by
  obtain ⟨_, _, ad, cap, _, h, _⟩ := h
  exact (Array.getElem?_eq_some_iff.1 h).1

/-- A list of bytes does not lie in a block whose cells are no bytes. -/
theorem SB.grown {w w' : World} {v : Value} {m : List Int} (h : SB w v m) {g : Nat} {cs : Array Value} {T : TypeId} {fr : Nat × Nat} (hg : w.heap[g]? = some (.cells cs T fr)) (hn : ∀ (i : Nat) (x : Int), cs[i]? ≠ some (.int .u8 x))
    (hw : w.grownBy w' (some g)) : SB w' v m := by
  obtain ⟨h1, a, cap, rfl, h2, h3⟩ := h
  refine ⟨h1, a, cap, rfl, h2, ?_⟩
  rcases h3 with h3 | ⟨b, off, ha, hc⟩
  · exact .inl h3
  · refine .inr ⟨b, off, ha, fun i hi => ?_⟩
    have hci := hc i hi
    refine hw.cell hci ?_
    intro e
    simp only [Option.some.injEq] at e
    subst e
    rw [cell_of_row w b (off + i) cs T fr hg] at hci
    exact hn _ _ hci
theorem wd_no (sv : Value) (n : Int) (hs : ∀ x, sv ≠ .int .u8 x) (i : Nat) (x : Int) : (#[Value.bool true, sv, .int .i64 n] : Array Value)[i]? ≠ some (.int .u8 x) := by
  match i with
  | 0 => simp
  | 1 => simp; exact hs x
  | 2 => simp
  | i + 3 => simp
theorem SB.no {w : World} {v : Value} {m : List Int} (h : SB w v m) (x : Int) : v ≠ .int .u8 x := by
  obtain ⟨_, _, _, rfl, _⟩ := h
  simp
theorem SB.wd {w w' : World} {v : Value} {m : List Int} (h : SB w v m) {g : Nat} {l : List Int} {a : Nat} (hd : Wd w g l a) (hw : w.grownBy w' (some g)) : SB w' v m := by
  obtain ⟨_, _, ad, cap, _, hg, hs⟩ := hd
  exact h.grown hg (wd_no _ a hs.no) hw
theorem Wd.below {w w' : World} {g : Nat} {l : List Int} {a : Nat} (h : Wd w g l a) (hb : Below w.heap.size w w') : Wd w' g l a := by
  have hlt := h.lt
  obtain ⟨h1, h2, ad, cap, h3, hg, hs⟩ := h
  exact ⟨h1, h2, ad, cap, h3, by rw [hb.block g hlt]; exact hg, hs.below hb⟩

/-- A store of the place. -/
theorem Wd.set {w : World} {g : Nat} {l : List Int} {a : Nat} (h : Wd w g l a) (b : Nat) (hb : b ≤ l.length) : Wd (w.setCell ⟨g, 2, none⟩ (.int .i64 b)) g l b ∧ w.grownBy (w.setCell ⟨g, 2, none⟩ (.int .i64 b)) (some g) := by
  have hgr : w.grownBy (w.setCell ⟨g, 2, none⟩ (.int .i64 b)) (some g) := ⟨rfl, rfl, rfl, by simp [World.setCell], fun k _ hk => Below.heap_setCell _ _ _ _ (fun e => hk (by rw [e]))⟩
  obtain ⟨h1, h2, ad, cap, h3, hg, hs⟩ := h
  refine ⟨⟨hb, h2, ad, cap, h3, ?_, hs.grown hg (wd_no _ a hs.no) hgr⟩, hgr⟩
  rw [heap_setCell_same w g 2 _ _ _ hg]
  rfl
theorem grown_refl (w : World) (r : Option Nat) : w.grownBy w r := ⟨rfl, rfl, rfl, Nat.le_refl _, fun _ _ _ => rfl⟩
theorem grown_below {w w' : World} (h : Below w.heap.size w w') (r : Option Nat) : w.grownBy w' r := ⟨h.os, h.tape, h.output, h.size, fun k hk _ => h.block k hk⟩
theorem grown_trans {a b c : World} {r : Option Nat} (h : a.grownBy b r) (k : b.grownBy c r) : a.grownBy c r :=
  ⟨k.os.trans h.os, k.tape.trans h.tape, k.output.trans h.output, Nat.le_trans h.size k.size, fun i hi hn => (k.block i (Nat.lt_of_lt_of_le hi h.size) hn).trans (h.block i hi hn)⟩

/-- What the walk reads of a Words. -/
theorem Wd.cells {w : World} {g : Nat} {l : List Int} {a : Nat} (h : Wd w g l a) : a ≤ l.length ∧ l.length ≤ 140737488351232 ∧ w.cell? ⟨g, 0, none⟩ = some (.bool true) ∧ w.cell? ⟨g, 2, none⟩ = some (.int .i64 a) ∧ w.frozen? ⟨g, 2, none⟩ = false ∧
    ∃ ad cap, w.cell? ⟨g, 1, none⟩ = some (.slice ad l.length cap) ∧ l.length ≤ cap ∧ SB w (.slice ad l.length cap) l := by
  obtain ⟨h1, h2, ad, cap, h3, hg, hs⟩ := h
  exact ⟨h1, h2, by rw [cell_of_row w g 0 _ _ (0, 0) hg]; rfl, by rw [cell_of_row w g 2 _ _ (0, 0) hg]; rfl, frozen_of_row w g 2 _ _ hg, ad, cap, by rw [cell_of_row w g 1 _ _ (0, 0) hg]; rfl, h3, hs⟩

theorem OwnB.sbc {w : World} {base : Nat} {v : Value} {l : List Int} (h : OwnB w base v l) (hB : IsB l) (hl : l.length ≤ 140737488351232) : ∃ ad cap, v = .slice ad l.length cap ∧ l.length ≤ cap ∧ SB w v l := by
  have hs := h.sb hB hl
  rcases h.2 with ⟨rfl, hn⟩ | ⟨g, cap, cur, rfl, _, _, hc, _⟩
  · exact ⟨none, 0, by rw [hn], by omega, hs⟩
  · exact ⟨_, cap, rfl, hc, hs⟩

def NewPost (w : World) (l : List Int) (e : Ending) (w' : World) : Prop := ∃ g, e = .returned (.pointer (some ⟨g, 0, none⟩)) ∧ w.heap.size ≤ g ∧ Wd w' g l 0 ∧ Below w.heap.size w w'

set_option maxHeartbeats 400000 in
theorem newWords_any (w : World) (v : Value) (l : List Int) (hb : SB w v l) : Calls Try.prog 26 #[v] w (NewPost w l) := by
  have hB := Lib.hid hb.1
  have hl : l.length ≤ 140737488351232 := by obtain ⟨_, _, _, _, h, _⟩ := hb; exact h
  go_enter Try.func26, Try.ntmps26
  go_wp2_with fail
  refine (clone_any w v l hb).mono ?_
  rintro e w1 ⟨v1, rfl, ho, hb1⟩
  obtain ⟨ad, cap, rfl, hc, hs⟩ := ho.sbc hB.out hl
  have hsz := hb1.size
  have hn : ((w1.alloc (.cells #[.bool true, .slice ad l.length cap, .int .i64 0] 50 (0, 0))).heap[w1.heap.size]?) = some (.cells #[.bool true, .slice ad l.length cap, .int .i64 0] 50 (0, 0)) := heap_alloc_new w1 _
  have hs' := hs.alloc (.cells #[.bool true, .slice ad l.length cap, .int .i64 0] 50 (0, 0))
  have hb2 := hb1.alloc hsz (.cells #[.bool true, .slice ad l.length cap, .int .i64 0] 50 (0, 0))
  have H : NewPost w l (.returned (.pointer (some ⟨w1.heap.size, 0, none⟩))) (w1.alloc (.cells #[.bool true, .slice ad l.length cap, .int .i64 0] 50 (0, 0))) := ⟨_, rfl, hsz, ⟨Nat.zero_le _, hl, ad, cap, hc, hn, hs'⟩, hb2⟩
  clear hn hs' hb2 hb hs ho hb1
  go_wp2
  go_ret
  exact H

/-! ### isWords, At, Peek, Take -/
theorem isWords_yes (w : World) (g : Nat) (l : List Int) (a : Nat) (h : Wd w g l a) : Calls Try.prog 60 #[.pointer (some ⟨g, 0, none⟩)] w fun e w' => e = .returned (.bool true) ∧ w = w' := by
  obtain ⟨_, _, h0, _⟩ := h.cells
  clear h
  go_enter Try.func60, Try.ntmps60
  go_wp2
  go_ret
  exact ⟨rfl, rfl⟩

theorem Wd.drewN {w : World} {g : Nat} {l : List Int} {a : Nat} (h : Wd w g l a) (n : Nat) : Wd (w.drewN n) g l a := h.below (below_drewN (Below.refl _ _) n)
theorem isWords_q (w : World) (g : Nat) (l : List Int) (a : Nat) (h : Wd w g l a) (n : Nat) : Calls Try.prog 60 #[.pointer (some ⟨g, 0, none⟩)] (w.drewN n) fun e w' => e = .returned (.bool true) ∧ ∃ m, w' = w.drewN m :=
  (isWords_yes _ g l a (h.drewN n)).mono fun _ _ ⟨he, hw⟩ => ⟨he, n, hw.symm⟩

theorem at_any (w : World) (g : Nat) (l : List Int) (a : Nat) (h : Wd w g l a) : Calls Try.prog 31 #[.pointer (some ⟨g, 0, none⟩)] w fun e w' => e = .returned (.int .i64 a) ∧ w = w' := by
  obtain ⟨_, _, _, h2, _⟩ := h.cells
  go_enter Try.func31, Try.ntmps31
  go_wp2_with fail
  refine (isWords_yes w g l a h).mono ?_
  rintro e w' ⟨rfl, rfl⟩
  go_wp2_with fail
  go_ret
  exact ⟨rfl, rfl⟩

/-- Peek, where there is a byte. -/
theorem peek_yes (w : World) (g : Nat) (l : List Int) (a : Nat) (h : Wd w g l a) (hlt : a < l.length) : Calls Try.prog 55 #[.pointer (some ⟨g, 0, none⟩)] w fun e w' => e = .returned (.tuple #[.int .u8 (l[a]?.getD 0), .bool true]) ∧ ∃ n, w' = w.drewN n := by
  obtain ⟨_, hl, _, h2, _, ad, cap, h1, hcap, hs⟩ := h.cells
  obtain ⟨b, o, rfl, hc⟩ := hs.read a hlt
  have hca := hc a hlt
  have hne : ((a : Int) == (l.length : Int)) = false := by rw [beq_eq_false_iff_ne]; omega
  generalize l[a]?.getD 0 = x at hca
  clear hc hs
  go_enter Try.func55, Try.ntmps55
  go_wp2
  go_quiet ((go_at_call 60; exact isWords_q w g l a h _))
  go_wp2
  go_quiet (fail)
  go_wp2
  go_ret2
  exact ⟨rfl, _, World.drewN_drewN _ _ _⟩
theorem peek_no (w : World) (g : Nat) (l : List Int) (a : Nat) (h : Wd w g l a) (hlt : a = l.length) : Calls Try.prog 55 #[.pointer (some ⟨g, 0, none⟩)] w fun e w' => e = .returned (.tuple #[.int .u8 0, .bool false]) ∧ ∃ n, w' = w.drewN n := by
  obtain ⟨_, hl, _, h2, _, ad, cap, h1, hcap, hs⟩ := h.cells
  have hne : ((a : Int) == (l.length : Int)) = true := by rw [beq_iff_eq]; omega
  have Hlt := Lib.hid hlt
  clear hlt hs
  go_enter Try.func55, Try.ntmps55
  go_wp2
  go_quiet ((go_at_call 60; exact isWords_q w g l a h _))
  go_wp2
  go_ret2
  exact ⟨rfl, _, rfl⟩

theorem wrapTake (a : Nat) (l : List Int) (h : a < l.length) (hl : l.length ≤ 140737488351232) : IntKind.i64.wrap ((a : Int) + 1) = ((a + 1 : Nat) : Int) := by
  rw [IntWalk.i64_in _ (by omega)]; omega

theorem take_yes (w : World) (g : Nat) (l : List Int) (a : Nat) (h : Wd w g l a) (hlt : a < l.length) : Calls Try.prog 27 #[.pointer (some ⟨g, 0, none⟩)] w fun e w' => e = .returned (.tuple #[.int .u8 (l[a]?.getD 0), .bool true]) ∧ Wd w' g l (a + 1) ∧ w.grownBy w' (some g) := by
  have hp := peek_yes w g l a h hlt
  generalize l[a]?.getD 0 = x at hp ⊢
  go_enter Try.func27, Try.ntmps27
  go_wp2_with fail
  refine hp.mono ?_
  rintro e w1 ⟨rfl, n, rfl⟩
  obtain ⟨_, hl, _, h2, hf, _⟩ := (h.drewN n).cells
  have hS := (h.drewN n).set (a + 1) hlt
  have hG := grown_trans (grown_below (below_drewN (Below.refl _ _) n) (some g)) hS.2
  have hW := hS.1
  clear hS h hp
  go_wp2
  go_ret2
  exact ⟨rfl, hW, hG⟩
theorem take_no (w : World) (g : Nat) (l : List Int) (a : Nat) (h : Wd w g l a) (hlt : a = l.length) : Calls Try.prog 27 #[.pointer (some ⟨g, 0, none⟩)] w fun e w' => e = .returned (.tuple #[.int .u8 0, .bool false]) ∧ Wd w' g l a ∧ w.grownBy w' (some g) := by
  go_enter Try.func27, Try.ntmps27
  go_wp2_with fail
  refine (peek_no w g l a h hlt).mono ?_
  rintro e w1 ⟨rfl, n, rfl⟩
  have hG := (grown_below (below_drewN (Below.refl w.heap.size w) n) (some g))
  have hW := h.drewN n
  clear h hlt
  go_wp2
  go_ret2
  exact ⟨rfl, hW, hG⟩
end Go.Proofs.Ytadjonggmbndmaa
