/-
  space.Space: what a place in memory holds, what a call leaves; isSpace, New, Put, Pattern, Hold, get, keep.
-/
import Derived.Test.YtakimaceohfpcaaDoorWords0
import Derived.Test.YtakimaceohfpcaaDoorBytes2
import Derived.OneCell
namespace Go.Proofs.YtakimaceohfpcaaDoor
open Go.RowKit

/-- Block g of w is a Space that New made, its rows owned in blocks from base on. -/
structure Sp (w : World) (g base : Nat) (most : Int) (pv hv : Value) (p h : List Int) : Prop where
  blk : w.heap[g]? = some (.cells #[.bool true, .int .i64 most, pv, hv] 154 (0, 0))
  gb : base ≤ g
  op : OwnB w base pv p
  oh : OwnB w base hv h
  ap : Apart pv hv
  bp : IsB p
  bh : IsB h
  lp : (p.length : Int) ≤ most
  lh : (h.length : Int) ≤ most
  lm : most ≤ 1048576

theorem Sp.lt {w : World} {g base : Nat} {most : Int} {pv hv : Value} {p h : List Int} (s : Sp w g base most pv hv p h) : g < w.heap.size := (Array.getElem?_eq_some_iff.1 s.blk).1
theorem own_not {w : World} {base g : Nat} {v : Value} {l : List Int} {cs : Array Value} {T : TypeId} (ho : OwnB w base v l) (hg : w.heap[g]? = some (.cells cs T (0, 0))) (hT : T ≠ 5) : v.ownBlock ≠ some g := by
  rcases ho.2 with ⟨rfl, _⟩ | ⟨k, cap, cur, rfl, _, hk, _⟩
  · simp [Value.ownBlock]
  · intro e
    simp only [Value.ownBlock, Option.some.injEq] at e
    subst e
    rw [hk] at hg
    simp at hg
    exact hT hg.2.symm
theorem neT : (154 : TypeId) ≠ 5 := by decide
theorem Sp.np {w : World} {g base : Nat} {most : Int} {pv hv : Value} {p h : List Int} (s : Sp w g base most pv hv p h) : pv.ownBlock ≠ some g := own_not s.op s.blk neT
theorem Sp.nh {w : World} {g base : Nat} {most : Int} {pv hv : Value} {p h : List Int} (s : Sp w g base most pv hv p h) : hv.ownBlock ≠ some g := own_not s.oh s.blk neT
theorem Sp.below {w w' : World} {g base : Nat} {most : Int} {pv hv : Value} {p h : List Int} (s : Sp w g base most pv hv p h) (hb : Below w.heap.size w w') : Sp w' g base most pv hv p h :=
  { s with blk := by rw [hb.block g s.lt]; exact s.blk, op := s.op.below hb, oh := s.oh.below hb }
theorem Sp.swap {w : World} {g base : Nat} {most : Int} {pv hv : Value} {p h : List Int} (s : Sp w g base most pv hv p h) : Apart hv pv := s.ap.symm

/-- What a call at a space leaves: of what was there only the space itself and its rows may have turned. -/
structure SpStep (w w' : World) (g base : Nat) (pv hv pv' hv' : Value) : Prop where
  bel : ∀ B w0, Below B w0 w → B ≤ base → Below B w0 w'
  blk : ∀ k, k < w.heap.size → k ≠ g → pv.ownBlock ≠ some k → hv.ownBlock ≠ some k → w'.heap[k]? = w.heap[k]?
  new : ∀ k, pv'.ownBlock = some k ∨ hv'.ownBlock = some k → pv.ownBlock = some k ∨ hv.ownBlock = some k ∨ w.heap.size ≤ k
  size : w.heap.size ≤ w'.heap.size

theorem SpStep.ofBelow {w w' : World} {g base : Nat} {pv hv : Value} (hb : Below w.heap.size w w') (hs : base ≤ w.heap.size) : SpStep w w' g base pv hv pv hv :=
  ⟨fun B w0 h hB => h.trans (hb.mono (by omega)), fun k hk _ _ _ => hb.block k hk, fun k h => by rcases h with h | h <;> simp [h], hb.size⟩
theorem SpStep.trans {a b c : World} {g base : Nat} {pv hv pv' hv' pv2 hv2 : Value} (h : SpStep a b g base pv hv pv' hv') (k : SpStep b c g base pv' hv' pv2 hv2) : SpStep a c g base pv hv pv2 hv2 := by
  refine ⟨fun B w0 hb hB => k.bel _ _ (h.bel _ _ hb hB) hB, fun j hj hg h1 h2 => ?_, fun j hj => ?_, Nat.le_trans h.size k.size⟩
  · have hn := h.new j
    have hsz := h.size
    rw [k.blk j (by omega) hg (fun e => ?_) (fun e => ?_), h.blk j hj hg h1 h2]
    · rcases hn (.inl e) with e | e | e
      · exact h1 e
      · exact h2 e
      · omega
    · rcases hn (.inr e) with e | e | e
      · exact h1 e
      · exact h2 e
      · omega
  · have hsz := h.size
    rcases k.new j hj with e | e | e
    · exact h.new j (.inl e)
    · exact h.new j (.inr e)
    · exact .inr (.inr (by omega))
/-- Another list of bytes stays. -/
theorem SpStep.own {w w' : World} {g base b : Nat} {pv hv pv' hv' v : Value} {l : List Int} (h : SpStep w w' g base pv hv pv' hv') (ho : OwnB w b v l) (hg : v.ownBlock ≠ some g) (h1 : Apart v pv) (h2 : Apart v hv) :
    OwnB w' b v l ∧ Apart v pv' ∧ Apart v hv' := by
  have hlt := World.ownsRow.lt ho
  refine ⟨?_, fun k e1 e2 => ?_, fun k e1 e2 => ?_⟩
  · refine ⟨ho.1, ?_⟩
    rcases ho.2 with hn | ⟨k, cap, cur, rfl, hb, hk, rest⟩
    · exact .inl hn
    · refine .inr ⟨k, cap, cur, rfl, hb, ?_, rest⟩
      have hk2 := (Array.getElem?_eq_some_iff.1 hk).1
      rw [h.blk k hk2 (fun e => hg (by rw [e]; rfl)) (fun e => h1 k rfl e) (fun e => h2 k rfl e)]
      exact hk
  · have := (hlt k e1).2
    rcases h.new k (.inl e2) with e | e | e
    · exact h1 k e1 e
    · exact h2 k e1 e
    · omega
  · have := (hlt k e1).2
    rcases h.new k (.inr e2) with e | e | e
    · exact h1 k e1 e
    · exact h2 k e1 e
    · omega

def SpPost (w : World) (g base : Nat) (most : Int) (pv hv : Value) (p' h' : List Int) (v : Value) (e : Ending) (w' : World) : Prop :=
  ∃ pv' hv', e = .returned v ∧ Sp w' g base most pv' hv' p' h' ∧ SpStep w w' g base pv hv pv' hv'

theorem Sp.cells {w : World} {g base : Nat} {most : Int} {pv hv : Value} {p h : List Int} (s : Sp w g base most pv hv p h) :
    w.cell? ⟨g, 0, none⟩ = some (.bool true) ∧ w.cell? ⟨g, 1, none⟩ = some (.int .i64 most) ∧ w.cell? ⟨g, 2, none⟩ = some pv ∧ w.cell? ⟨g, 3, none⟩ = some hv ∧ w.frozen? ⟨g, 2, none⟩ = false ∧ w.frozen? ⟨g, 3, none⟩ = false := by
  have hg := s.blk
  exact ⟨by rw [cell_of_row w g 0 _ _ (0, 0) hg]; rfl, by rw [cell_of_row w g 1 _ _ (0, 0) hg]; rfl, by rw [cell_of_row w g 2 _ _ (0, 0) hg]; rfl, by rw [cell_of_row w g 3 _ _ (0, 0) hg]; rfl, frozen_of_row w g 2 _ _ hg, frozen_of_row w g 3 _ _ hg⟩
theorem Sp.sbP {w : World} {g base : Nat} {most : Int} {pv hv : Value} {p h : List Int} (s : Sp w g base most pv hv p h) : SB w pv p := s.op.sb s.bp (by have := s.lp; have := s.lm; omega)
theorem Sp.sbH {w : World} {g base : Nat} {most : Int} {pv hv : Value} {p h : List Int} (s : Sp w g base most pv hv p h) : SB w hv h := s.oh.sb s.bh (by have := s.lh; have := s.lm; omega)
theorem SB.len2 {w : World} {v : Value} {l : List Int} (h : SB w v l) : l.length ≤ 140737488351232 := by
  obtain ⟨_, _, _, _, h, _⟩ := h
  exact h
theorem Sp.len2P {w : World} {g base : Nat} {most : Int} {pv hv : Value} {p h : List Int} (s : Sp w g base most pv hv p h) : p.length ≤ 140737488351232 := by have := s.lp; have := s.lm; omega
theorem Sp.len2H {w : World} {g base : Nat} {most : Int} {pv hv : Value} {p h : List Int} (s : Sp w g base most pv hv p h) : h.length ≤ 140737488351232 := by have := s.lh; have := s.lm; omega
theorem Sp.base_le {w : World} {g base : Nat} {most : Int} {pv hv : Value} {p h : List Int} (s : Sp w g base most pv hv p h) : base ≤ w.heap.size := by have := s.gb; have := s.lt; omega

/-- A new pattern is stored. -/
theorem Sp.setP {w w1 : World} {g base : Nat} {most : Int} {pv hv v : Value} {p h b : List Int} (s : Sp w g base most pv hv p h) (hb : Below w.heap.size w w1) (ho : OwnB w1 w.heap.size v b) (hB : IsB b) (hl : (b.length : Int) ≤ most) :
    Sp (w1.setCell ⟨g, 2, none⟩ v) g base most v hv b h ∧ SpStep w (w1.setCell ⟨g, 2, none⟩ v) g base pv hv v hv := by
  have s1 := s.below hb
  have hlt := World.ownsRow.lt ho
  have hlg := s.lt
  have hlo := World.ownsRow.lt s.oh
  have hvg : v.ownBlock ≠ some g := fun e => by have := (hlt g e).1; omega
  refine ⟨⟨?_, s.gb, ?_, ?_, fun k e1 e2 => ?_, hB, s.bh, hl, s.lh, s.lm⟩, ⟨fun B w0 h0 hB0 => ?_, fun k hk hne _ _ => ?_, fun k hk => ?_, ?_⟩⟩
  · rw [heap_setCell_same w1 g 2 _ _ _ s1.blk]; rfl
  · exact ownsRow_setCell_other (OwnB.mono ho s.base_le) hvg _
  · exact ownsRow_setCell_other s1.oh s1.nh _
  · have := (hlt k e1).1; have := (hlo k e2).2; omega
  · exact (h0.trans (hb.mono (by have := s.base_le; omega))).setCell (by show B ≤ g; have := s.gb; omega) _
  · rw [Below.heap_setCell w1 ⟨g, 2, none⟩ v k hne, hb.block k hk]
  · rcases hk with e | e
    · exact .inr (.inr (hlt k e).1)
    · exact .inr (.inl e)
  · have := hb.size; simpa [World.setCell] using this
/-- A new hold is stored. -/
theorem Sp.setH {w w1 : World} {g base : Nat} {most : Int} {pv hv v : Value} {p h b : List Int} (s : Sp w g base most pv hv p h) (hb : Below w.heap.size w w1) (ho : OwnB w1 w.heap.size v b) (hB : IsB b) (hl : (b.length : Int) ≤ most) :
    Sp (w1.setCell ⟨g, 3, none⟩ v) g base most pv v p b ∧ SpStep w (w1.setCell ⟨g, 3, none⟩ v) g base pv hv pv v := by
  have s1 := s.below hb
  have hlt := World.ownsRow.lt ho
  have hlg := s.lt
  have hlo := World.ownsRow.lt s.op
  have hvg : v.ownBlock ≠ some g := fun e => by have := (hlt g e).1; omega
  refine ⟨⟨?_, s.gb, ?_, ?_, fun k e2 e1 => ?_, s.bp, hB, s.lp, hl, s.lm⟩, ⟨fun B w0 h0 hB0 => ?_, fun k hk hne _ _ => ?_, fun k hk => ?_, ?_⟩⟩
  · rw [heap_setCell_same w1 g 3 _ _ _ s1.blk]; rfl
  · exact ownsRow_setCell_other s1.op s1.np _
  · exact ownsRow_setCell_other (OwnB.mono ho s.base_le) hvg _
  · have := (hlt k e1).1; have := (hlo k e2).2; omega
  · exact (h0.trans (hb.mono (by have := s.base_le; omega))).setCell (by show B ≤ g; have := s.gb; omega) _
  · rw [Below.heap_setCell w1 ⟨g, 3, none⟩ v k hne, hb.block k hk]
  · rcases hk with e | e
    · exact .inl e
    · exact .inr (.inr (hlt k e).1)
  · have := hb.size; simpa [World.setCell] using this

/-! ### the calls -/
theorem isSpace_yes (w : World) (g base : Nat) (most : Int) (pv hv : Value) (p h : List Int) (s : Sp w g base most pv hv p h) : Calls Tryd.prog 118 #[.pointer (some ⟨g, 0, none⟩)] w fun e w' => e = .returned (.bool true) ∧ w = w' := by
  obtain ⟨h0, -⟩ := s.cells
  clear s
  go_enter Tryd.func118, Tryd.ntmps118
  go_wp2
  go_ret
  exact ⟨rfl, rfl⟩

def NewSp (w : World) (most : Int) (e : Ending) (w' : World) : Prop := ∃ g, e = .returned (.tuple #[.pointer (some ⟨g, 0, none⟩), .int .i64 0]) ∧ Sp w' g w.heap.size most (.slice none 0 0) (.slice none 0 0) [] [] ∧ Below w.heap.size w w'
theorem new_yes (w : World) (most : Int) (h0 : 0 ≤ most) (h1 : most ≤ 1048576) : Calls Tryd.prog 66 #[.int .i64 most] w (NewSp w most) := by
  have hn : ((w.alloc (.cells #[.bool true, .int .i64 most, .slice none 0 0, .slice none 0 0] 154 (0, 0))).heap[w.heap.size]?) = some (.cells #[.bool true, .int .i64 most, .slice none 0 0, .slice none 0 0] 154 (0, 0)) := heap_alloc_new w _
  have H : NewSp w most (.returned (.tuple #[.pointer (some ⟨w.heap.size, 0, none⟩), .int .i64 0])) (w.alloc (.cells #[.bool true, .int .i64 most, .slice none 0 0, .slice none 0 0] 154 (0, 0))) :=
    ⟨_, rfl, ⟨hn, Nat.le_refl _, OwnB.nil _ _, OwnB.nil _ _, (fun k e _ => by simp [Value.ownBlock] at e), isB_nil, isB_nil, by simpa using h0, by simpa using h0, h1⟩, (Below.refl _ w).alloc (Nat.le_refl _) _⟩
  clear hn
  go_enter Tryd.func66, Tryd.ntmps66
  go_wp2
  go_ret2
  exact H
theorem new_no (w : World) (most : Int) (h : most < 0 ∨ 1048576 < most) : Calls Tryd.prog 66 #[.int .i64 most] w fun e w' => e = .returned (.tuple #[.pointer none, .int .i64 1]) ∧ w = w' := by
  rcases h with h | h
  · go_enter Tryd.func66, Tryd.ntmps66
    go_wp2
    go_ret2
    exact ⟨rfl, rfl⟩
  · have h0 : ¬ most < 0 := by omega
    go_enter Tryd.func66, Tryd.ntmps66
    go_wp2
    go_ret2
    exact ⟨rfl, rfl⟩

theorem put_yes (w : World) (g base : Nat) (most : Int) (pv hv : Value) (p h : List Int) (s : Sp w g base most pv hv p h) (a : Option Addr) (n c : Nat) (b : List Int) (sb : SB w (.slice a n c) b) (hn : (n : Int) ≤ most) :
    Calls Tryd.prog 110 #[.pointer (some ⟨g, 0, none⟩), .slice a n c] w (SpPost w g base most pv hv b h (.int .i64 0)) := by
  have hbn := Lib.hid sb.len.1
  go_enter Tryd.func110, Tryd.ntmps110
  go_wp2_with fail
  refine (isSpace_yes w g base most pv hv p h s).mono ?_
  rintro e w' ⟨rfl, rfl⟩
  obtain ⟨-, c1, -, -, -, -⟩ := s.cells
  go_wp2_with fail
  refine (clone_any w _ b sb).mono ?_
  rintro e w1 ⟨v1, rfl, ho, hb⟩
  obtain ⟨-, ad1, cp1, rfl, -⟩ := ho.sb sb.1 sb.len2
  have hS := s.setP hb ho sb.1 (by rw [hbn.out]; exact hn)
  obtain ⟨-, -, -, -, f2, -⟩ := (s.below hb).cells
  have H : SpPost w g base most pv hv b h (.int .i64 0) (.returned (.int .i64 0)) (w1.setCell ⟨g, 2, none⟩ _) := ⟨_, hv, rfl, hS.1, hS.2⟩
  obtain ⟨-, -, c2, -, -, -⟩ := (s.below hb).cells
  clear hS s ho hb sb c1
  go_wp2_with fail
  go_ret
  exact H
theorem put_no (w : World) (g base : Nat) (most : Int) (pv hv : Value) (p h : List Int) (s : Sp w g base most pv hv p h) (a : Option Addr) (n c : Nat) (hn : most < (n : Int)) :
    Calls Tryd.prog 110 #[.pointer (some ⟨g, 0, none⟩), .slice a n c] w fun e w' => e = .returned (.int .i64 62) ∧ w = w' := by
  go_enter Tryd.func110, Tryd.ntmps110
  go_wp2_with fail
  refine (isSpace_yes w g base most pv hv p h s).mono ?_
  rintro e w' ⟨rfl, rfl⟩
  obtain ⟨-, c1, -, -, -, -⟩ := s.cells
  go_wp2_with fail
  go_ret
  exact ⟨rfl, rfl⟩
theorem pattern_any (w : World) (g base : Nat) (most : Int) (pv hv : Value) (p h : List Int) (s : Sp w g base most pv hv p h) : Calls Tryd.prog 69 #[.pointer (some ⟨g, 0, none⟩)] w (TwinPost w p) := by
  go_enter Tryd.func69, Tryd.ntmps69
  go_wp2_with fail
  refine (isSpace_yes w g base most pv hv p h s).mono ?_
  rintro e w' ⟨rfl, rfl⟩
  obtain ⟨-, -, c2, -, -, -⟩ := s.cells
  go_wp2_with fail
  refine (clone_any w _ p s.sbP).mono ?_
  rintro e w1 ⟨v1, rfl, ho, hb⟩
  go_wp2_with fail
  go_ret
  exact ⟨v1, rfl, ho, hb⟩
theorem hold_any (w : World) (g base : Nat) (most : Int) (pv hv : Value) (p h : List Int) (s : Sp w g base most pv hv p h) : Calls Tryd.prog 70 #[.pointer (some ⟨g, 0, none⟩)] w (TwinPost w h) := by
  go_enter Tryd.func70, Tryd.ntmps70
  go_wp2_with fail
  refine (isSpace_yes w g base most pv hv p h s).mono ?_
  rintro e w' ⟨rfl, rfl⟩
  obtain ⟨-, -, -, c3, -, -⟩ := s.cells
  go_wp2_with fail
  refine (clone_any w _ h s.sbH).mono ?_
  rintro e w1 ⟨v1, rfl, ho, hb⟩
  go_wp2_with fail
  go_ret
  exact ⟨v1, rfl, ho, hb⟩
theorem get_any (w : World) (g base : Nat) (most : Int) (pv hv : Value) (p h : List Int) (s : Sp w g base most pv hv p h) : Calls Tryd.prog 136 #[.pointer (some ⟨g, 0, none⟩)] w (SpPost w g base most pv hv h h (.int .i64 0)) := by
  obtain ⟨-, -, -, c3, -, -⟩ := s.cells
  go_enter Tryd.func136, Tryd.ntmps136
  go_wp2_with fail
  refine (clone_any w _ h s.sbH).mono ?_
  rintro e w1 ⟨v1, rfl, ho, hb⟩
  obtain ⟨-, ad1, cp1, rfl, -⟩ := ho.sb s.bh s.len2H
  have hS := s.setP hb ho s.bh s.lh
  obtain ⟨-, -, c2, -, f2, -⟩ := (s.below hb).cells
  have H : SpPost w g base most pv hv h h (.int .i64 0) (.returned (.int .i64 0)) (w1.setCell ⟨g, 2, none⟩ _) := ⟨_, hv, rfl, hS.1, hS.2⟩
  clear hS s ho hb c3
  go_wp2_with fail
  go_ret
  exact H
theorem keep_any (w : World) (g base : Nat) (most : Int) (pv hv : Value) (p h : List Int) (s : Sp w g base most pv hv p h) : Calls Tryd.prog 138 #[.pointer (some ⟨g, 0, none⟩)] w (SpPost w g base most pv hv p p (.int .i64 0)) := by
  obtain ⟨-, -, c2, -, -, -⟩ := s.cells
  go_enter Tryd.func138, Tryd.ntmps138
  go_wp2_with fail
  refine (clone_any w _ p s.sbP).mono ?_
  rintro e w1 ⟨v1, rfl, ho, hb⟩
  obtain ⟨-, ad1, cp1, rfl, -⟩ := ho.sb s.bp s.len2P
  have hS := s.setH hb ho s.bp s.lp
  obtain ⟨-, -, -, c3, -, f3⟩ := (s.below hb).cells
  have H : SpPost w g base most pv hv p p (.int .i64 0) (.returned (.int .i64 0)) (w1.setCell ⟨g, 3, none⟩ _) := ⟨pv, _, rfl, hS.1, hS.2⟩
  clear hS s ho hb c2
  go_wp2_with fail
  go_ret
  exact H
end Go.Proofs.YtakimaceohfpcaaDoor
