/-
  galleyref25.Space: none, New, set, Pattern, Hold, joined, Put, Join.
-/
import Derived.Test.YtakimaceohfpcaaDoorRef25
namespace Go.Proofs.YtakimaceohfpcaaDoor
open Go.RowKit

theorem Rp.sb_store {w : World} {g base : Nat} {most : Int} {pv hv u : Value} {p h : List Int} (s : Rp w g base most pv hv p h) {v : Value} {b : List Int} (sb : SB w v b) (i : Nat) : SB (w.setCell ⟨g, i, none⟩ u) v b := by
  refine sb.grown s.blk (fun j x => ?_) ⟨rfl, rfl, rfl, ?_, fun k _ hk => ?_⟩
  · match j with
    | 0 => simp
    | 1 => have := s.sbP.no x; simpa using this
    | 2 => have := s.sbH.no x; simpa using this
    | 3 => simp
    | n + 4 => simp
  · simp [World.setCell]
  · exact Below.heap_setCell w ⟨g, i, none⟩ u k (fun e => hk (by rw [e]))
theorem RpPost.get {w : World} {g base : Nat} {most : Int} {pv hv v : Value} {p h : List Int} {e : Ending} {w' : World} (hP : RpPost w g base most pv hv p h v e w') : e = .returned v ∧ ∃ pv' hv', Rp w' g base most pv' hv' p h ∧ SpStep w w' g base pv hv pv' hv' := by
  obtain ⟨pv', hv', he, h1, h2⟩ := hP
  exact ⟨he, pv', hv', h1, h2⟩
theorem RpPost.after {w w1 : World} {g base : Nat} {most : Int} {pv hv v : Value} {p h : List Int} {e : Ending} {w' : World} (hs : SpStep w w1 g base pv hv pv hv) (hP : RpPost w1 g base most pv hv p h v e w') : RpPost w g base most pv hv p h v e w' := by
  obtain ⟨pv', hv', he, h1, h2⟩ := hP
  exact ⟨pv', hv', he, h1, hs.trans h2⟩

theorem rnone_no (w : World) (g base : Nat) (most : Int) (pv hv : Value) (p h : List Int) (s : Rp w g base most pv hv p h) : Calls Tryd.prog 121 #[.pointer (some ⟨g, 0, none⟩)] w fun e w' => e = .returned (.bool false) ∧ w = w' := by
  obtain ⟨-, -, -, h3, -⟩ := s.cells
  clear s
  go_enter Tryd.func121, Tryd.ntmps121
  go_wp2
  go_ret
  exact ⟨rfl, rfl⟩
theorem rnone_yes (w : World) : Calls Tryd.prog 121 #[.pointer none] w fun e w' => e = .returned (.bool true) ∧ w = w' := by
  go_enter Tryd.func121, Tryd.ntmps121
  go_wp2
  go_ret
  exact ⟨rfl, rfl⟩
def NewRp (w : World) (most : Int) (e : Ending) (w' : World) : Prop := ∃ g, e = .returned (.tuple #[.pointer (some ⟨g, 0, none⟩), .int .i64 0]) ∧ Rp w' g w.heap.size most (.slice none 0 0) (.slice none 0 0) [] [] ∧ Below w.heap.size w w'
theorem rnew_yes (w : World) (most : Int) (h0 : 0 ≤ most) (h1 : most ≤ 1048576) : Calls Tryd.prog 67 #[.int .i64 most] w (NewRp w most) := by
  have hn : ((w.alloc (.cells #[.int .i64 most, .slice none 0 0, .slice none 0 0, .bool true] 123 (0, 0))).heap[w.heap.size]?) = some (.cells #[.int .i64 most, .slice none 0 0, .slice none 0 0, .bool true] 123 (0, 0)) := heap_alloc_new w _
  have H : NewRp w most (.returned (.tuple #[.pointer (some ⟨w.heap.size, 0, none⟩), .int .i64 0])) (w.alloc (.cells #[.int .i64 most, .slice none 0 0, .slice none 0 0, .bool true] 123 (0, 0))) :=
    ⟨_, rfl, ⟨hn, Nat.le_refl _, OwnB.nil _ _, OwnB.nil _ _, (fun k e _ => by simp [Value.ownBlock] at e), isB_nil, isB_nil, by simpa using h0, by simpa using h0, h1⟩, (Below.refl _ w).alloc (Nat.le_refl _) _⟩
  go_enter Tryd.func67, Tryd.ntmps67
  go_wp2
  go_ret2
  exact H
theorem rnew_no (w : World) (most : Int) (h : most < 0 ∨ 1048576 < most) : Calls Tryd.prog 67 #[.int .i64 most] w fun e w' => e = .returned (.tuple #[.pointer none, .int .i64 1]) ∧ w = w' := by
  rcases h with h | h
  · go_enter Tryd.func67, Tryd.ntmps67
    go_wp2
    go_ret2
    exact ⟨rfl, rfl⟩
  · have h' : ¬ most < 0 := by omega
    go_enter Tryd.func67, Tryd.ntmps67
    go_wp2
    go_ret2
    exact ⟨rfl, rfl⟩

set_option maxRecDepth 100000 in
set_option maxHeartbeats 1000000 in
theorem rset_yes (w : World) (g base : Nat) (most : Int) (pv hv : Value) (p h : List Int) (s : Rp w g base most pv hv p h) (va vb : Value) (a b : List Int) (sa : SB w va a) (sb : SB w vb b) (la : (a.length : Int) ≤ most) (lb : (b.length : Int) ≤ most) :
    Calls Tryd.prog 130 #[.pointer (some ⟨g, 0, none⟩), va, vb] w (RpPost w g base most pv hv a b (.int .i64 0)) := by
  obtain ⟨c0, c1, c2, c3, f1, f2⟩ := s.cells
  have HSA := Lib.hid sa
  have HSB := Lib.hid sb
  obtain ⟨hBa, aa, ca, rfl, -⟩ := sa
  obtain ⟨hBb, ab, cb, rfl, -⟩ := sb
  have HBa := Lib.hid hBa
  have HBb := Lib.hid hBb
  have HS := Lib.hid s
  clear s c1 c2 c3 f1 f2 hBa hBb
  go_enter Tryd.func130, Tryd.ntmps130
  go_wp2_with fail
  refine (copy_any w _ a HSA.out).mono ?_
  rintro e w1 ⟨v1, rfl, ho, hb⟩
  have s1 := HS.out.below hb
  obtain ⟨-, c1, -, -, f1, -⟩ := s1.cells
  have hS := HS.out.setP hb ho HBa.out la
  have hsb2 := s1.sb_store (u := v1) (HSB.out.below hb) 1
  obtain ⟨-, ad1, cp1, rfl, -⟩ := ho.sb HBa.out (by have := HS.out.lm; omega)
  have H1 := Lib.hid hS
  clear hS ho hb s1 c0
  go_upto_region 4 with fail
  generalize w1.setCell ⟨g, 1, none⟩ (.slice ad1 a.length cp1) = w2 at H1 hsb2 ⊢
  clear c1 f1
  go_wp2_with fail
  refine (copy_any w2 _ b hsb2).mono ?_
  rintro e w3 ⟨v3, rfl, ho, hb⟩
  have s3 := H1.out.1.below hb
  obtain ⟨-, -, c2, -, -, f2⟩ := s3.cells
  have hS := H1.out.1.setH hb ho HBb.out lb
  obtain ⟨-, ad3, cp3, rfl, -⟩ := ho.sb HBb.out (by have := HS.out.lm; omega)
  have H : RpPost w g base most pv hv a b (.int .i64 0) (.returned (.int .i64 0)) (w3.setCell ⟨g, 2, none⟩ (.slice ad3 b.length cp3)) := ⟨_, _, rfl, hS.1, H1.out.2.trans hS.2⟩
  clear hS ho hb s3 hsb2
  go_wp2_with fail
  go_ret
  exact H
theorem rset_no (w : World) (g base : Nat) (most : Int) (pv hv : Value) (p h : List Int) (s : Rp w g base most pv hv p h) (va vb : Value) (a b : List Int) (sa : SB w va a) (sb : SB w vb b) (lab : most < (a.length : Int) ∨ most < (b.length : Int)) :
    Calls Tryd.prog 130 #[.pointer (some ⟨g, 0, none⟩), va, vb] w fun e w' => e = .returned (.int .i64 62) ∧ w = w' := by
  obtain ⟨c0, -⟩ := s.cells
  obtain ⟨hBa, aa, ca, rfl, -⟩ := sa
  obtain ⟨hBb, ab, cb, rfl, -⟩ := sb
  clear s hBa hBb
  by_cases la : most < (a.length : Int)
  · clear lab
    go_enter Tryd.func130, Tryd.ntmps130
    go_wp2_with fail
    go_ret
    exact ⟨rfl, rfl⟩
  · have lb : most < (b.length : Int) := lab.resolve_left la
    clear lab
    go_enter Tryd.func130, Tryd.ntmps130
    go_wp2_with fail
    go_ret
    exact ⟨rfl, rfl⟩
end Go.Proofs.YtakimaceohfpcaaDoor
