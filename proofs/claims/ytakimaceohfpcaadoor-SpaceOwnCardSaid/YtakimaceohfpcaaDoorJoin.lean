/-
  space.Space: join, getMore, keepMore, exchange, Join.
-/
import Derived.Test.YtakimaceohfpcaaDoorSpace0
import Derived.Deep.QuietTactic
import Derived.BigQuiet
import Derived.StillTailTactics
namespace Go.Proofs.YtakimaceohfpcaaDoor
open Go.RowKit

theorem SB.app {w w' : World} {v pv pv' : Value} {l : List Int} {base : Nat} (h : SB w v l) (hA : AppPost w w' base pv pv') (hap : ∀ k, v.ownBlock = some k → pv.ownBlock ≠ some k) : SB w' v l := by
  obtain ⟨h1, a, cap, rfl, h2, h3⟩ := h
  refine ⟨h1, a, cap, rfl, h2, ?_⟩
  rcases h3 with h3 | ⟨b, off, rfl, hc⟩
  · exact .inl h3
  · refine .inr ⟨b, off, rfl, fun i hi => ?_⟩
    have hci := hc i hi
    rw [← hci]
    exact World.cell?_of_block (w := w) (hA.block b (World.block_lt_of_cell? w _ hci) (hap b rfl))

/-- What two appends to the pattern, and a store, leave. -/
theorem Sp.joinP {w w1 w2 : World} {g base : Nat} {most : Int} {pv hv v1 v2 : Value} {p h q : List Int} (s : Sp w g base most pv hv p h) (hA : AppPost w w1 base pv v1) (hA2 : AppPost w1 w2 base v1 v2) (ho : OwnB w2 base v2 q) (hB : IsB q) (hl : (q.length : Int) ≤ most) :
    Sp (w2.setCell ⟨g, 2, none⟩ v2) g base most v2 hv q h ∧ SpStep w (w2.setCell ⟨g, 2, none⟩ v2) g base pv hv v2 hv := by
  have hg0 := s.lt
  have hb1 : w1.heap[g]? = w.heap[g]? := hA.block g hg0 s.np
  have hv1g : v1.ownBlock ≠ some g := fun e => by
    rcases hA.new g e with e | e
    · exact s.np e
    · omega
  have hb2 : w2.heap[g]? = w.heap[g]? := by rw [hA2.block g (by have := hA.size; omega) hv1g, hb1]
  have hblk := hb2.trans s.blk
  obtain ⟨o1, a1⟩ := hA.other _ _ _ _ _ _ s.oh s.ap
  obtain ⟨o2, a2⟩ := hA2.other _ _ _ _ _ _ o1 a1
  have hv2g := own_not ho hblk neT
  have hsz := hA.size
  have hsz2 := hA2.size
  refine ⟨⟨?_, s.gb, ?_, ?_, a2, hB, s.bh, hl, s.lh, s.lm⟩, ⟨fun B w0 h0 hB0 => ?_, fun k hk hne h1 h2 => ?_, fun k hk => ?_, ?_⟩⟩
  · rw [heap_setCell_same w2 g 2 _ _ _ hblk]; rfl
  · exact ownsRow_setCell_other ho hv2g _
  · exact ownsRow_setCell_other o2 s.nh _
  · exact (hA2.bel _ _ (hA.bel _ _ h0 hB0) hB0).setCell (by show B ≤ g; have := s.gb; omega) _
  · rw [Below.heap_setCell w2 ⟨g, 2, none⟩ v2 k hne, hA2.block k (by omega) (fun e => ?_), hA.block k hk h1]
    rcases hA.new k e with e | e
    · exact h1 e
    · omega
  · rcases hk with e | e
    · rcases hA2.new k e with e | e
      · rcases hA.new k e with e | e
        · exact .inl e
        · exact .inr (.inr e)
      · exact .inr (.inr (by omega))
    · exact .inr (.inl e)
  · simp only [World.setCell, Array.size_modify]; omega
theorem Sp.joinH {w w1 w2 : World} {g base : Nat} {most : Int} {pv hv v1 v2 : Value} {p h q : List Int} (s : Sp w g base most pv hv p h) (hA : AppPost w w1 base hv v1) (hA2 : AppPost w1 w2 base v1 v2) (ho : OwnB w2 base v2 q) (hB : IsB q) (hl : (q.length : Int) ≤ most) :
    Sp (w2.setCell ⟨g, 3, none⟩ v2) g base most pv v2 p q ∧ SpStep w (w2.setCell ⟨g, 3, none⟩ v2) g base pv hv pv v2 := by
  have hg0 := s.lt
  have hb1 : w1.heap[g]? = w.heap[g]? := hA.block g hg0 s.nh
  have hv1g : v1.ownBlock ≠ some g := fun e => by
    rcases hA.new g e with e | e
    · exact s.nh e
    · omega
  have hb2 : w2.heap[g]? = w.heap[g]? := by rw [hA2.block g (by have := hA.size; omega) hv1g, hb1]
  have hblk := hb2.trans s.blk
  obtain ⟨o1, a1⟩ := hA.other _ _ _ _ _ _ s.op s.ap.symm
  obtain ⟨o2, a2⟩ := hA2.other _ _ _ _ _ _ o1 a1
  have hv2g := own_not ho hblk neT
  have hsz := hA.size
  have hsz2 := hA2.size
  refine ⟨⟨?_, s.gb, ?_, ?_, a2.symm, s.bp, hB, s.lp, hl, s.lm⟩, ⟨fun B w0 h0 hB0 => ?_, fun k hk hne h1 h2 => ?_, fun k hk => ?_, ?_⟩⟩
  · rw [heap_setCell_same w2 g 3 _ _ _ hblk]; rfl
  · exact ownsRow_setCell_other o2 s.np _
  · exact ownsRow_setCell_other ho hv2g _
  · exact (hA2.bel _ _ (hA.bel _ _ h0 hB0) hB0).setCell (by show B ≤ g; have := s.gb; omega) _
  · rw [Below.heap_setCell w2 ⟨g, 3, none⟩ v2 k hne, hA2.block k (by omega) (fun e => ?_), hA.block k hk h2]
    rcases hA.new k e with e | e
    · exact h2 e
    · omega
  · rcases hk with e | e
    · exact .inl e
    · rcases hA2.new k e with e | e
      · rcases hA.new k e with e | e
        · exact .inr (.inl e)
        · exact .inr (.inr e)
      · exact .inr (.inr (by omega))
  · simp only [World.setCell, Array.size_modify]; omega
theorem SpStep.drewN {w : World} {g base : Nat} {pv hv : Value} (hs : base ≤ w.heap.size) (n : Nat) : SpStep w (w.drewN n) g base pv hv pv hv := SpStep.ofBelow (below_drewN (Below.refl _ _) n) hs
theorem Sp.drewN {w : World} {g base : Nat} {most : Int} {pv hv : Value} {p h : List Int} (s : Sp w g base most pv hv p h) (n : Nat) : Sp (w.drewN n) g base most pv hv p h := s.below (below_drewN (Below.refl _ _) n)

set_option maxHeartbeats 1000000 in
theorem joinP_yes (w : World) (g base : Nat) (most : Int) (pv hv : Value) (p h : List Int) (s : Sp w g base most pv hv p h) (a : Option Addr) (n c : Nat) (b : List Int) (sb : SB w (.slice a n c) b) (hN : a = none → c = 0)
    (hap : ∀ k, (Value.slice a n c).ownBlock = some k → pv.ownBlock ≠ some k) (hroom : (p.length : Int) + 1 + (n : Int) ≤ most) :
    Calls Tryd.prog 131 #[.pointer (some ⟨g, 0, none⟩), .pointer (some ⟨g, 2, none⟩), .slice a n c] w (SpPost w g base most pv hv (p ++ [10] ++ b) h (.int .i64 0)) := by
  have HN := Lib.hid hN
  have HAP := Lib.hid hap
  have hbn := sb.len.1
  have HBN := Lib.hid hbn
  have hlm := s.lm
  obtain ⟨-, c1, c2, c3, f2, f3⟩ := s.cells
  obtain ⟨-, ap, cp, rfl, -⟩ := s.sbP
  have hw1 : IntKind.i64.wrap ((p.length : Int) + 1) = (p.length : Int) + 1 := IntWalk.i64_in _ (by omega)
  have hw2 : IntKind.i64.wrap ((p.length : Int) + 1 + (n : Int)) = (p.length : Int) + 1 + (n : Int) := IntWalk.i64_in _ (by omega)
  clear hN hap hbn
  go_enter Tryd.func131, Tryd.ntmps131
  go_wp2_with fail
  go_quiet (fail)
  rename_i nq
  clear hw1 hw2
  have s := s.drewN nq
  have sb := sb.drewN nq
  have hst := SpStep.drewN (w := w) (g := g) (base := base) (pv := .slice ap p.length cp) (hv := hv) (by have := s.base_le; exact this) nq
  have HST := Lib.hid hst
  clear hst c1 c2 c3 f2 f3
  generalize hw2 : w.drewN nq = w2 at s sb HST ⊢
  clear hw2
  obtain ⟨-, c1, c2, c3, f2, f3⟩ := s.cells
  have hbs := s.base_le
  go_wp2_with (at_builtin; refine append_b1 rfl (.tmp 23) (.tmp 24) rfl base _ p 10 rfl s.op rfl (by omega) hbs ?_)
  intro v1 w3 o3 hA
  have hl3 : (p ++ [10]).length = p.length + 1 := by rw [List.length_append]; rfl
  have sb3 := sb.app hA HAP.out
  have hbs3 := Nat.le_trans hbs hA.size
  have hl3' : (p ++ [10]).length ≤ p.length + 1 := Nat.le_of_eq hl3
  generalize hq : p ++ [10] = q at o3 hl3 hl3'
  have HQ := Lib.hid hq
  have HL3 := Lib.hid hl3
  clear hq hl3 c1 c2 c3 f2 f3
  go_wp2_with (at_builtin; refine append_sbp rfl (.tmp 25) (.tmp 26) rfl base _ q b a n c rfl o3 rfl HN.out sb3 (by omega) hbs3 ?_)
  intro v2 w4 o4 hA2
  have hB4 : IsB (q ++ b) := isB_append _ _ (by rw [← HQ.out]; exact isB_append _ _ s.bp (isB_one 10 (by omega) (by omega))) sb.1
  have hl4 : ((q ++ b).length : Int) ≤ most := by rw [List.length_append, HBN.out, HL3.out]; omega
  have hS := s.joinP hA hA2 o4 hB4 hl4
  have hg4 : w4.heap[g]? = w2.heap[g]? := by
    have h1 := hA.block g s.lt s.np
    rw [hA2.block g (by have := hA.size; have := s.lt; omega) (fun e => by
      rcases hA.new g e with e | e
      · exact s.np e
      · have := s.lt; omega), h1]
  have c2 : w4.cell? ⟨g, 2, none⟩ = some (.slice ap p.length cp) := by rw [World.cell?_of_block (w := w2) (a := ⟨g, 2, none⟩) hg4]; exact s.cells.2.2.1
  have f2 : w4.frozen? ⟨g, 2, none⟩ = false := by rw [World.frozen?_of_block (w := w2) (a := ⟨g, 2, none⟩) hg4]; exact s.cells.2.2.2.2.1
  obtain ⟨-, a2, cc2, rfl, -⟩ := o4.sb hB4 (by omega)
  have H : SpPost w g base most (.slice ap p.length cp) hv (q ++ b) h (.int .i64 0) (.returned (.int .i64 0)) (w4.setCell ⟨g, 2, none⟩ _) := ⟨_, hv, rfl, hS.1, HST.out.trans hS.2⟩
  have H : SpPost w g base most (.slice ap p.length cp) hv (p ++ [10] ++ b) h (.int .i64 0) (.returned (.int .i64 0)) (w4.setCell ⟨g, 2, none⟩ (.slice a2 (q.length + b.length) cc2)) := by rw [HQ.out, ← List.length_append]; exact H
  have HH := Lib.hid H
  clear H hS hA hA2 o3 o4 sb sb3 hg4 hB4 hl4
  go_wp2_with fail
  go_ret
  exact HH.out
set_option maxHeartbeats 1000000 in
theorem joinH_yes (w : World) (g base : Nat) (most : Int) (pv hv : Value) (p h : List Int) (s : Sp w g base most pv hv p h) (a : Option Addr) (n c : Nat) (b : List Int) (sb : SB w (.slice a n c) b) (hN : a = none → c = 0)
    (hap : ∀ k, (Value.slice a n c).ownBlock = some k → hv.ownBlock ≠ some k) (hroom : (h.length : Int) + 1 + (n : Int) ≤ most) :
    Calls Tryd.prog 131 #[.pointer (some ⟨g, 0, none⟩), .pointer (some ⟨g, 3, none⟩), .slice a n c] w (SpPost w g base most pv hv p (h ++ [10] ++ b) (.int .i64 0)) := by
  have HN := Lib.hid hN
  have HAP := Lib.hid hap
  have hbn := sb.len.1
  have HBN := Lib.hid hbn
  have hlm := s.lm
  obtain ⟨-, c1, c2, c3, f2, f3⟩ := s.cells
  obtain ⟨-, ap, cp, rfl, -⟩ := s.sbH
  have hw1 : IntKind.i64.wrap ((h.length : Int) + 1) = (h.length : Int) + 1 := IntWalk.i64_in _ (by omega)
  have hw2 : IntKind.i64.wrap ((h.length : Int) + 1 + (n : Int)) = (h.length : Int) + 1 + (n : Int) := IntWalk.i64_in _ (by omega)
  clear hN hap hbn
  go_enter Tryd.func131, Tryd.ntmps131
  go_wp2_with fail
  go_quiet (fail)
  rename_i nq
  clear hw1 hw2
  have s := s.drewN nq
  have sb := sb.drewN nq
  have hst := SpStep.drewN (w := w) (g := g) (base := base) (pv := pv) (hv := .slice ap h.length cp) (by have := s.base_le; exact this) nq
  have HST := Lib.hid hst
  clear hst c1 c2 c3 f2 f3
  generalize hw2 : w.drewN nq = w2 at s sb HST ⊢
  clear hw2
  obtain ⟨-, c1, c2, c3, f2, f3⟩ := s.cells
  have hbs := s.base_le
  go_wp2_with (at_builtin; refine append_b1 rfl (.tmp 23) (.tmp 24) rfl base _ h 10 rfl s.oh rfl (by omega) hbs ?_)
  intro v1 w3 o3 hA
  have hl3 : (h ++ [10]).length = h.length + 1 := by rw [List.length_append]; rfl
  have sb3 := sb.app hA HAP.out
  have hbs3 := Nat.le_trans hbs hA.size
  have hl3' : (h ++ [10]).length ≤ h.length + 1 := Nat.le_of_eq hl3
  generalize hq : h ++ [10] = q at o3 hl3 hl3'
  have HQ := Lib.hid hq
  have HL3 := Lib.hid hl3
  clear hq hl3 c1 c2 c3 f2 f3
  go_wp2_with (at_builtin; refine append_sbp rfl (.tmp 25) (.tmp 26) rfl base _ q b a n c rfl o3 rfl HN.out sb3 (by omega) hbs3 ?_)
  intro v2 w4 o4 hA2
  have hB4 : IsB (q ++ b) := isB_append _ _ (by rw [← HQ.out]; exact isB_append _ _ s.bh (isB_one 10 (by omega) (by omega))) sb.1
  have hl4 : ((q ++ b).length : Int) ≤ most := by rw [List.length_append, HBN.out, HL3.out]; omega
  have hS := s.joinH hA hA2 o4 hB4 hl4
  have hg4 : w4.heap[g]? = w2.heap[g]? := by
    have h1 := hA.block g s.lt s.nh
    rw [hA2.block g (by have := hA.size; have := s.lt; omega) (fun e => by
      rcases hA.new g e with e | e
      · exact s.nh e
      · have := s.lt; omega), h1]
  have c2 : w4.cell? ⟨g, 3, none⟩ = some (.slice ap h.length cp) := by rw [World.cell?_of_block (w := w2) (a := ⟨g, 3, none⟩) hg4]; exact s.cells.2.2.2.1
  have f2 : w4.frozen? ⟨g, 3, none⟩ = false := by rw [World.frozen?_of_block (w := w2) (a := ⟨g, 3, none⟩) hg4]; exact s.cells.2.2.2.2.2
  obtain ⟨-, a2, cc2, rfl, -⟩ := o4.sb hB4 (by omega)
  have H : SpPost w g base most pv (.slice ap h.length cp) p (q ++ b) (.int .i64 0) (.returned (.int .i64 0)) (w4.setCell ⟨g, 3, none⟩ _) := ⟨pv, _, rfl, hS.1, HST.out.trans hS.2⟩
  have H : SpPost w g base most pv (.slice ap h.length cp) p (h ++ [10] ++ b) (.int .i64 0) (.returned (.int .i64 0)) (w4.setCell ⟨g, 3, none⟩ (.slice a2 (q.length + b.length) cc2)) := by rw [HQ.out, ← List.length_append]; exact H
  have HH := Lib.hid H
  clear H hS hA hA2 o3 o4 sb sb3 hg4 hB4 hl4
  go_wp2_with fail
  go_ret
  exact HH.out

theorem join_no (w : World) (g base k : Nat) (most : Int) (pv hv : Value) (p h x : List Int) (s : Sp w g base most pv hv p h) (hk : (k = 2 ∧ x = p) ∨ (k = 3 ∧ x = h)) (a : Option Addr) (n c : Nat) (hn : n ≤ 140737488351232) (hroom : most < (x.length : Int) + 1 + (n : Int)) :
    Calls Tryd.prog 131 #[.pointer (some ⟨g, 0, none⟩), .pointer (some ⟨g, k, none⟩), .slice a n c] w fun e w' => e = .returned (.int .i64 62) ∧ ∃ m, w' = w.drewN m := by
  have hlm := s.lm
  obtain ⟨-, c1, c2, c3, f2, f3⟩ := s.cells
  have hx : ∃ ad cp, w.cell? ⟨g, k, none⟩ = some (.slice ad x.length cp) ∧ (x.length : Int) ≤ most := by
    rcases hk with ⟨rfl, rfl⟩ | ⟨rfl, rfl⟩
    · obtain ⟨-, ad, cp, he, -⟩ := s.sbP
      rw [he] at c2
      exact ⟨ad, cp, c2, s.lp⟩
    · obtain ⟨-, ad, cp, he, -⟩ := s.sbH
      rw [he] at c3
      exact ⟨ad, cp, c3, s.lh⟩
  obtain ⟨ad, cp, cx, hxl⟩ := hx
  have hw1 : IntKind.i64.wrap ((x.length : Int) + 1) = (x.length : Int) + 1 := IntWalk.i64_in _ (by omega)
  have hw2 : IntKind.i64.wrap ((x.length : Int) + 1 + (n : Int)) = (x.length : Int) + 1 + (n : Int) := IntWalk.i64_in _ (by omega)
  clear c2 c3 f2 f3 hk s
  go_enter Tryd.func131, Tryd.ntmps131
  go_wp2_with fail
  go_quiet (fail)
  clear hw1 hw2
  go_wp2_with fail
  go_ret
  exact ⟨rfl, _, rfl⟩
end Go.Proofs.YtakimaceohfpcaaDoor
