/-
  space.Space: getMore, keepMore, exchange, Join, Do.
-/
import Derived.Test.YtakimaceohfpcaaDoorJoin
import Derived.Test.YtakimaceohfpcaaDoorTable
import Derived.RegionTactic
import Derived.ChangeAlike
namespace Go.Proofs.YtakimaceohfpcaaDoor
open Go.RowKit

theorem SpPost.after {w w1 : World} {g base : Nat} {most : Int} {pv hv v : Value} {p h : List Int} {e : Ending} {w' : World} (hs : SpStep w w1 g base pv hv pv hv) (hP : SpPost w1 g base most pv hv p h v e w') : SpPost w g base most pv hv p h v e w' := by
  obtain ⟨pv', hv', he, h1, h2⟩ := hP
  exact ⟨pv', hv', he, h1, hs.trans h2⟩
theorem Sp.noneP {w : World} {g base : Nat} {most : Int} {ad : Option Addr} {n c : Nat} {hv : Value} {p h : List Int} (s : Sp w g base most (.slice ad n c) hv p h) : ad = none → c = 0 := by
  obtain ⟨a, cap, he, -, hn, -⟩ := s.op.sbn s.bp s.len2P
  simp only [Value.slice.injEq] at he
  obtain ⟨rfl, -, rfl⟩ := he
  exact hn
theorem Sp.noneH {w : World} {g base : Nat} {most : Int} {ad : Option Addr} {n c : Nat} {pv : Value} {p h : List Int} (s : Sp w g base most pv (.slice ad n c) p h) : ad = none → c = 0 := by
  obtain ⟨a, cap, he, -, hn, -⟩ := s.oh.sbn s.bh s.len2H
  simp only [Value.slice.injEq] at he
  obtain ⟨rfl, -, rfl⟩ := he
  exact hn

set_option maxRecDepth 100000 in
theorem getMore_yes (w : World) (g base : Nat) (most : Int) (pv hv : Value) (p h : List Int) (s : Sp w g base most pv hv p h) (hroom : (p.length : Int) + 1 + (h.length : Int) ≤ most) :
    Calls Tryd.prog 137 #[.pointer (some ⟨g, 0, none⟩)] w (SpPost w g base most pv hv (p ++ [10] ++ h) h (.int .i64 0)) := by
  obtain ⟨-, c1, c2, c3, f2, f3⟩ := s.cells
  obtain ⟨-, ah, ch, rfl, -⟩ := s.sbH
  have hst := SpStep.drewN (w := w) (g := g) (base := base) (pv := pv) (hv := .slice ah h.length ch) s.base_le 1
  have hJ := joinP_yes (w.drewN 1) g base most _ _ p h (s.drewN 1) ah h.length ch h (s.sbH.drewN 1) s.noneH (fun k e1 e2 => s.ap k e2 e1) hroom
  have HJ := Lib.hid hJ
  have HS := Lib.hid hst
  clear hJ hst
  go_enter Tryd.func137, Tryd.ntmps137
  go_wp2_with fail
  go_still_tail 8, (by kernel_rfl)
  have e : ({ heap := w.heap, tape := w.tape, drawn := w.drawn + 1, os := w.os, output := w.output } : World) = w.drewN 1 := rfl
  rw [e]
  clear e s c1 c2 c3 f2 f3
  go_wp2_with fail
  refine HJ.out.mono ?_
  intro e w1 hP
  have hP := SpPost.after HS.out hP
  obtain ⟨pv', hv', rfl, h1, h2⟩ := hP
  have H := Lib.hid (show SpPost w g base most pv (.slice ah h.length ch) (p ++ [10] ++ h) h (.int .i64 0) (.returned (.int .i64 0)) w1 from ⟨pv', hv', rfl, h1, h2⟩)
  clear h1 h2
  go_wp2_with fail
  go_ret
  exact H.out
set_option maxRecDepth 100000 in
theorem keepMore_yes (w : World) (g base : Nat) (most : Int) (pv hv : Value) (p h : List Int) (s : Sp w g base most pv hv p h) (hroom : (h.length : Int) + 1 + (p.length : Int) ≤ most) :
    Calls Tryd.prog 139 #[.pointer (some ⟨g, 0, none⟩)] w (SpPost w g base most pv hv p (h ++ [10] ++ p) (.int .i64 0)) := by
  obtain ⟨-, c1, c2, c3, f2, f3⟩ := s.cells
  obtain ⟨-, ah, ch, rfl, -⟩ := s.sbP
  have hst := SpStep.drewN (w := w) (g := g) (base := base) (pv := .slice ah p.length ch) (hv := hv) s.base_le 1
  have hJ := joinH_yes (w.drewN 1) g base most _ _ p h (s.drewN 1) ah p.length ch p (s.sbP.drewN 1) s.noneP (fun k e1 e2 => s.ap k e1 e2) hroom
  have HJ := Lib.hid hJ
  have HS := Lib.hid hst
  clear hJ hst
  go_enter Tryd.func139, Tryd.ntmps139
  go_wp2_with fail
  go_still_tail 8, (by kernel_rfl)
  have e : ({ heap := w.heap, tape := w.tape, drawn := w.drawn + 1, os := w.os, output := w.output } : World) = w.drewN 1 := rfl
  rw [e]
  clear e s c1 c2 c3 f2 f3
  go_wp2_with fail
  refine HJ.out.mono ?_
  intro e w1 hP
  have hP := SpPost.after HS.out hP
  obtain ⟨pv', hv', rfl, h1, h2⟩ := hP
  have H := Lib.hid (show SpPost w g base most (.slice ah p.length ch) hv p (h ++ [10] ++ p) (.int .i64 0) (.returned (.int .i64 0)) w1 from ⟨pv', hv', rfl, h1, h2⟩)
  clear h1 h2
  go_wp2_with fail
  go_ret
  exact H.out
set_option maxRecDepth 100000 in
theorem more_no (w : World) (g base : Nat) (most : Int) (pv hv : Value) (p h : List Int) (s : Sp w g base most pv hv p h) (hroom : most < (p.length : Int) + 1 + (h.length : Int)) :
    Calls Tryd.prog 137 #[.pointer (some ⟨g, 0, none⟩)] w (fun e w' => e = .returned (.int .i64 62) ∧ ∃ m, w' = w.drewN m) ∧
    Calls Tryd.prog 139 #[.pointer (some ⟨g, 0, none⟩)] w (fun e w' => e = .returned (.int .i64 62) ∧ ∃ m, w' = w.drewN m) := by
  obtain ⟨-, c1, c2, c3, f2, f3⟩ := s.cells
  obtain ⟨-, ap, cp, rfl, -⟩ := s.sbP
  obtain ⟨-, ah, ch, rfl, -⟩ := s.sbH
  have h1 := Lib.hid (join_no (w.drewN 1) g base 2 most _ _ p h p (s.drewN 1) (.inl ⟨rfl, rfl⟩) ah h.length ch s.len2H hroom)
  have h2 := Lib.hid (join_no (w.drewN 1) g base 3 most _ _ p h h (s.drewN 1) (.inr ⟨rfl, rfl⟩) ap p.length cp s.len2P (by omega))
  clear s
  constructor
  · clear h2
    go_enter Tryd.func137, Tryd.ntmps137
    go_wp2_with fail
    go_still_tail 8, (by kernel_rfl)
    have e : ({ heap := w.heap, tape := w.tape, drawn := w.drawn + 1, os := w.os, output := w.output } : World) = w.drewN 1 := rfl
    rw [e]
    clear e c1 c2 c3 f2 f3
    go_wp2_with fail
    refine h1.out.mono ?_
    rintro e w1 ⟨rfl, m, rfl⟩
    go_wp2_with fail
    go_ret
    exact ⟨rfl, _, rfl⟩
  · clear h1
    go_enter Tryd.func139, Tryd.ntmps139
    go_wp2_with fail
    go_still_tail 8, (by kernel_rfl)
    have e : ({ heap := w.heap, tape := w.tape, drawn := w.drawn + 1, os := w.os, output := w.output } : World) = w.drewN 1 := rfl
    rw [e]
    clear e c1 c2 c3 f2 f3
    go_wp2_with fail
    refine h2.out.mono ?_
    rintro e w1 ⟨rfl, m, rfl⟩
    go_wp2_with fail
    go_ret
    exact ⟨rfl, _, rfl⟩

/-- The two rows are exchanged. -/
theorem Sp.exch {w : World} {g base : Nat} {most : Int} {pv hv : Value} {p h : List Int} (s : Sp w g base most pv hv p h) :
    Sp (((w.setCell ⟨g, 2, none⟩ hv).setCell ⟨g, 3, none⟩ pv).drew) g base most hv pv h p ∧ SpStep w (((w.setCell ⟨g, 2, none⟩ hv).setCell ⟨g, 3, none⟩ pv).drew) g base pv hv hv pv := by
  have h1 := heap_setCell_same w g 2 _ _ hv s.blk
  have h2 := heap_setCell_same _ g 3 _ _ pv h1
  refine ⟨⟨?_, s.gb, ?_, ?_, s.ap.symm, s.bh, s.bp, s.lh, s.lp, s.lm⟩, ⟨fun B w0 h0 hB0 => ?_, fun k hk hne _ _ => ?_, fun k hk => ?_, ?_⟩⟩
  · show ((w.setCell ⟨g, 2, none⟩ hv).setCell ⟨g, 3, none⟩ pv).heap[g]? = _
    rw [h2]; rfl
  · exact ownsRow_setCell_other (ownsRow_setCell_other s.oh s.nh _) s.nh _
  · exact ownsRow_setCell_other (ownsRow_setCell_other s.op s.np _) s.np _
  · exact ((h0.setCell (by show B ≤ g; have := s.gb; omega) _).setCell (by show B ≤ g; have := s.gb; omega) _).drew
  · show ((w.setCell ⟨g, 2, none⟩ hv).setCell ⟨g, 3, none⟩ pv).heap[k]? = _
    rw [Below.heap_setCell _ ⟨g, 3, none⟩ pv k hne, Below.heap_setCell w ⟨g, 2, none⟩ hv k hne]
  · rcases hk with e | e
    · exact .inr (.inl e)
    · exact .inl e
  · show w.heap.size ≤ ((w.setCell ⟨g, 2, none⟩ hv).setCell ⟨g, 3, none⟩ pv).heap.size
    simp [World.setCell]
set_option maxRecDepth 100000 in
theorem exchange_any (w : World) (g base : Nat) (most : Int) (pv hv : Value) (p h : List Int) (s : Sp w g base most pv hv p h) :
    Calls Tryd.prog 140 #[.pointer (some ⟨g, 0, none⟩)] w (SpPost w g base most pv hv h p (.int .i64 0)) := by
  obtain ⟨-, c1, c2, c3, f2, f3⟩ := s.cells
  have hE := s.exch
  have H := Lib.hid (show SpPost w g base most pv hv h p (.int .i64 0) (.returned (.int .i64 0)) _ from ⟨hv, pv, rfl, hE.1, hE.2⟩)
  clear hE
  obtain ⟨-, ap, cp, rfl, -⟩ := s.sbP
  obtain ⟨-, ah, ch, rfl, -⟩ := s.sbH
  clear s
  go_enter Tryd.func140, Tryd.ntmps140
  go_wp2_with fail
  go_region
  all_goals (go_wp2_with fail; go_ret; exact H.out)

theorem eqF (f : Nat) (w : World) : (binOp .eql 205 (.func (.func f) #[] #[]) .nilFunc).run Tryd.prog w = .ok (.bool false) w := by kernel_rfl
set_option maxRecDepth 100000 in
theorem doGet (w : World) (g base : Nat) (most : Int) (pv hv : Value) (p h : List Int) (s : Sp w g base most pv hv p h) (n : Int) (R : Ending → World → Prop)
    (hc : Calls Tryd.prog 136 #[.pointer (some ⟨g, 0, none⟩)] (w.alloc (.map tabE 5)) fun e w' => e = .returned (.int .i64 n) ∧ R e w') :
    Calls Tryd.prog 111 #[.pointer (some ⟨g, 0, none⟩), .int .u8 103] w R := by
  have hlk := lookup_run (w.alloc (.map tabE 5)) w.heap.size 103 (heap_alloc_new w _)
  rw [show funOf 103 = fnV 136 from rfl] at hlk
  unfold fnV at hlk
  have s1 := s.below ((Below.refl _ w).alloc (Nat.le_refl _) (.map tabE 5))
  have HC := Lib.hid hc
  have heq := eqF 136
  clear hc
  go_enter Tryd.func111, Tryd.ntmps111
  go_wp2_with fail
  refine (table_any w).mono ?_
  rintro e w1 ⟨rfl, rfl⟩
  go_wp2_with fail
  refine (isSpace_yes _ g base most pv hv p h s1).mono ?_
  rintro e w1 ⟨rfl, rfl⟩
  clear hlk
  go_wp2_with fail
  refine HC.out.mono ?_
  rintro e w1 ⟨rfl, hR⟩
  have HR := Lib.hid hR
  clear hR
  go_wp2_with fail
  exact HR.out
set_option maxRecDepth 100000 in
theorem doGetMore (w : World) (g base : Nat) (most : Int) (pv hv : Value) (p h : List Int) (s : Sp w g base most pv hv p h) (n : Int) (R : Ending → World → Prop)
    (hc : Calls Tryd.prog 137 #[.pointer (some ⟨g, 0, none⟩)] (w.alloc (.map tabE 5)) fun e w' => e = .returned (.int .i64 n) ∧ R e w') :
    Calls Tryd.prog 111 #[.pointer (some ⟨g, 0, none⟩), .int .u8 71] w R := by
  have hlk := lookup_run (w.alloc (.map tabE 5)) w.heap.size 71 (heap_alloc_new w _)
  rw [show funOf 71 = fnV 137 from rfl] at hlk
  unfold fnV at hlk
  have s1 := s.below ((Below.refl _ w).alloc (Nat.le_refl _) (.map tabE 5))
  have HC := Lib.hid hc
  have heq := eqF 137
  clear hc
  go_enter Tryd.func111, Tryd.ntmps111
  go_wp2_with fail
  refine (table_any w).mono ?_
  rintro e w1 ⟨rfl, rfl⟩
  go_wp2_with fail
  refine (isSpace_yes _ g base most pv hv p h s1).mono ?_
  rintro e w1 ⟨rfl, rfl⟩
  clear hlk
  go_wp2_with fail
  refine HC.out.mono ?_
  rintro e w1 ⟨rfl, hR⟩
  have HR := Lib.hid hR
  clear hR
  go_wp2_with fail
  exact HR.out
set_option maxRecDepth 100000 in
theorem doKeep (w : World) (g base : Nat) (most : Int) (pv hv : Value) (p h : List Int) (s : Sp w g base most pv hv p h) (n : Int) (R : Ending → World → Prop)
    (hc : Calls Tryd.prog 138 #[.pointer (some ⟨g, 0, none⟩)] (w.alloc (.map tabE 5)) fun e w' => e = .returned (.int .i64 n) ∧ R e w') :
    Calls Tryd.prog 111 #[.pointer (some ⟨g, 0, none⟩), .int .u8 104] w R := by
  have hlk := lookup_run (w.alloc (.map tabE 5)) w.heap.size 104 (heap_alloc_new w _)
  rw [show funOf 104 = fnV 138 from rfl] at hlk
  unfold fnV at hlk
  have s1 := s.below ((Below.refl _ w).alloc (Nat.le_refl _) (.map tabE 5))
  have HC := Lib.hid hc
  have heq := eqF 138
  clear hc
  go_enter Tryd.func111, Tryd.ntmps111
  go_wp2_with fail
  refine (table_any w).mono ?_
  rintro e w1 ⟨rfl, rfl⟩
  go_wp2_with fail
  refine (isSpace_yes _ g base most pv hv p h s1).mono ?_
  rintro e w1 ⟨rfl, rfl⟩
  clear hlk
  go_wp2_with fail
  refine HC.out.mono ?_
  rintro e w1 ⟨rfl, hR⟩
  have HR := Lib.hid hR
  clear hR
  go_wp2_with fail
  exact HR.out
set_option maxRecDepth 100000 in
theorem doKeepMore (w : World) (g base : Nat) (most : Int) (pv hv : Value) (p h : List Int) (s : Sp w g base most pv hv p h) (n : Int) (R : Ending → World → Prop)
    (hc : Calls Tryd.prog 139 #[.pointer (some ⟨g, 0, none⟩)] (w.alloc (.map tabE 5)) fun e w' => e = .returned (.int .i64 n) ∧ R e w') :
    Calls Tryd.prog 111 #[.pointer (some ⟨g, 0, none⟩), .int .u8 72] w R := by
  have hlk := lookup_run (w.alloc (.map tabE 5)) w.heap.size 72 (heap_alloc_new w _)
  rw [show funOf 72 = fnV 139 from rfl] at hlk
  unfold fnV at hlk
  have s1 := s.below ((Below.refl _ w).alloc (Nat.le_refl _) (.map tabE 5))
  have HC := Lib.hid hc
  have heq := eqF 139
  clear hc
  go_enter Tryd.func111, Tryd.ntmps111
  go_wp2_with fail
  refine (table_any w).mono ?_
  rintro e w1 ⟨rfl, rfl⟩
  go_wp2_with fail
  refine (isSpace_yes _ g base most pv hv p h s1).mono ?_
  rintro e w1 ⟨rfl, rfl⟩
  clear hlk
  go_wp2_with fail
  refine HC.out.mono ?_
  rintro e w1 ⟨rfl, hR⟩
  have HR := Lib.hid hR
  clear hR
  go_wp2_with fail
  exact HR.out
set_option maxRecDepth 100000 in
theorem doExch (w : World) (g base : Nat) (most : Int) (pv hv : Value) (p h : List Int) (s : Sp w g base most pv hv p h) (n : Int) (R : Ending → World → Prop)
    (hc : Calls Tryd.prog 140 #[.pointer (some ⟨g, 0, none⟩)] (w.alloc (.map tabE 5)) fun e w' => e = .returned (.int .i64 n) ∧ R e w') :
    Calls Tryd.prog 111 #[.pointer (some ⟨g, 0, none⟩), .int .u8 120] w R := by
  have hlk := lookup_run (w.alloc (.map tabE 5)) w.heap.size 120 (heap_alloc_new w _)
  rw [show funOf 120 = fnV 140 from rfl] at hlk
  unfold fnV at hlk
  have s1 := s.below ((Below.refl _ w).alloc (Nat.le_refl _) (.map tabE 5))
  have HC := Lib.hid hc
  have heq := eqF 140
  clear hc
  go_enter Tryd.func111, Tryd.ntmps111
  go_wp2_with fail
  refine (table_any w).mono ?_
  rintro e w1 ⟨rfl, rfl⟩
  go_wp2_with fail
  refine (isSpace_yes _ g base most pv hv p h s1).mono ?_
  rintro e w1 ⟨rfl, rfl⟩
  clear hlk
  go_wp2_with fail
  refine HC.out.mono ?_
  rintro e w1 ⟨rfl, hR⟩
  have HR := Lib.hid hR
  clear hR
  go_wp2_with fail
  exact HR.out
end Go.Proofs.YtakimaceohfpcaaDoor
