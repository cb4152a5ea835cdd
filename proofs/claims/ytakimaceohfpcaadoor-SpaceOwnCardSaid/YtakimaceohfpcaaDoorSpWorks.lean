/-
  galleylaw25.works: a line is put, held, fetched again.
-/
import Derived.Test.YtakimaceohfpcaaDoorSpCut
namespace Go.Proofs.YtakimaceohfpcaaDoor
open Go.RowKit

theorem SpPost.get {w : World} {g base : Nat} {most : Int} {pv hv v : Value} {p h : List Int} {e : Ending} {w' : World} (hP : SpPost w g base most pv hv p h v e w') : e = .returned v ∧ ∃ pv' hv', Sp w' g base most pv' hv' p h ∧ SpStep w w' g base pv hv pv' hv' := by
  obtain ⟨pv', hv', he, h1, h2⟩ := hP
  exact ⟨he, pv', hv', h1, h2⟩
/-- A call that does not touch the names' table, behind the table. -/
theorem SpPost.tab {w : World} {g base : Nat} {most : Int} {pv hv v : Value} {p h p' h' : List Int} (s : Sp w g base most pv hv p h) {e : Ending} {w' : World} (hP : SpPost (w.alloc (.map tabE 5)) g base most pv hv p' h' v e w') : SpPost w g base most pv hv p' h' v e w' :=
  SpPost.after (SpStep.ofBelow ((Below.refl _ w).alloc (Nat.le_refl _) _) s.base_le) hP
theorem Sp.tab {w : World} {g base : Nat} {most : Int} {pv hv : Value} {p h : List Int} (s : Sp w g base most pv hv p h) : Sp (w.alloc (.map tabE 5)) g base most pv hv p h := s.below ((Below.refl _ w).alloc (Nat.le_refl _) _)

theorem doKeep_any (w : World) (g base : Nat) (most : Int) (pv hv : Value) (p h : List Int) (s : Sp w g base most pv hv p h) : Calls Tryd.prog 111 #[.pointer (some ⟨g, 0, none⟩), .int .u8 104] w (SpPost w g base most pv hv p p (.int .i64 0)) :=
  doKeep w g base most pv hv p h s 0 _ ((keep_any _ g base most pv hv p h s.tab).mono fun _ _ hP => ⟨hP.get.1, SpPost.tab s hP⟩)
theorem doGet_any (w : World) (g base : Nat) (most : Int) (pv hv : Value) (p h : List Int) (s : Sp w g base most pv hv p h) : Calls Tryd.prog 111 #[.pointer (some ⟨g, 0, none⟩), .int .u8 103] w (SpPost w g base most pv hv h h (.int .i64 0)) :=
  doGet w g base most pv hv p h s 0 _ ((get_any _ g base most pv hv p h s.tab).mono fun _ _ hP => ⟨hP.get.1, SpPost.tab s hP⟩)
theorem doExch_any (w : World) (g base : Nat) (most : Int) (pv hv : Value) (p h : List Int) (s : Sp w g base most pv hv p h) : Calls Tryd.prog 111 #[.pointer (some ⟨g, 0, none⟩), .int .u8 120] w (SpPost w g base most pv hv h p (.int .i64 0)) :=
  doExch w g base most pv hv p h s 0 _ ((exchange_any _ g base most pv hv p h s.tab).mono fun _ _ hP => ⟨hP.get.1, SpPost.tab s hP⟩)
theorem doMore_yes (w : World) (g base : Nat) (most : Int) (pv hv : Value) (p h : List Int) (s : Sp w g base most pv hv p h) (hroom : (p.length : Int) + 1 + (h.length : Int) ≤ most) : Calls Tryd.prog 111 #[.pointer (some ⟨g, 0, none⟩), .int .u8 71] w (SpPost w g base most pv hv (p ++ [10] ++ h) h (.int .i64 0)) :=
  doGetMore w g base most pv hv p h s 0 _ ((getMore_yes _ g base most pv hv p h s.tab hroom).mono fun _ _ hP => ⟨hP.get.1, SpPost.tab s hP⟩)
theorem doKeepMore_yes (w : World) (g base : Nat) (most : Int) (pv hv : Value) (p h : List Int) (s : Sp w g base most pv hv p h) (hroom : (h.length : Int) + 1 + (p.length : Int) ≤ most) : Calls Tryd.prog 111 #[.pointer (some ⟨g, 0, none⟩), .int .u8 72] w (SpPost w g base most pv hv p (h ++ [10] ++ p) (.int .i64 0)) :=
  doKeepMore w g base most pv hv p h s 0 _ ((keepMore_yes _ g base most pv hv p h s.tab hroom).mono fun _ _ hP => ⟨hP.get.1, SpPost.tab s hP⟩)
theorem doMore_no (w : World) (g base : Nat) (most : Int) (pv hv : Value) (p h : List Int) (s : Sp w g base most pv hv p h) (hroom : most < (p.length : Int) + 1 + (h.length : Int)) :
    Calls Tryd.prog 111 #[.pointer (some ⟨g, 0, none⟩), .int .u8 71] w (SpPost w g base most pv hv p h (.int .i64 62)) ∧ Calls Tryd.prog 111 #[.pointer (some ⟨g, 0, none⟩), .int .u8 72] w (SpPost w g base most pv hv p h (.int .i64 62)) := by
  obtain ⟨h1, h2⟩ := more_no _ g base most pv hv p h s.tab hroom
  have hst : ∀ m, SpPost w g base most pv hv p h (.int .i64 62) (.returned (.int .i64 62)) ((w.alloc (.map tabE 5)).drewN m) := fun m =>
    SpPost.tab s ⟨pv, hv, rfl, s.tab.drewN m, SpStep.drewN s.tab.base_le m⟩
  exact ⟨doGetMore w g base most pv hv p h s 62 _ (h1.mono fun _ _ ⟨he, m, hm⟩ => ⟨he, by rw [he, hm]; exact hst m⟩), doKeepMore w g base most pv hv p h s 62 _ (h2.mono fun _ _ ⟨he, m, hm⟩ => ⟨he, by rw [he, hm]; exact hst m⟩)⟩

theorem str5 : ((strOfNums [97, 98, 10, 97, 98]).toList == [97, 98, 10, 97, 98]) = true := by rw [Lib.strOfNums_toList]; decide
theorem str2 : ((strOfNums [97, 98]).toList == [97, 98]) = true := by rw [Lib.strOfNums_toList]; decide

set_option maxHeartbeats 2000000 in
set_option maxRecDepth 100000 in
theorem spWorks_any (w : World) : Calls Tryd.prog 64 #[] w fun e w' => e = .returned (.bool true) ∧ Below w.heap.size w w' := by
  have hcv := fun (w : World) (C : Array Value) (n c g : Nat) (hg : g = w.heap.size) => Joins.run_convert_bytes_const_at (P := Tryd.prog) w 48 5 C n c g hg Tryd.underlying48 Tryd.underlying5
  go_enter Tryd.func64, Tryd.ntmps64
  go_wp2_with fail
  refine (new_yes w 9 (by omega) (by omega)).mono ?_
  rintro e w1 ⟨g, rfl, s, hb⟩
  go_wp2_with fail
  have hb1 := (Below.refl w1.heap.size w1).alloc (Nat.le_refl _) (.cells #[.int .u8 97, .int .u8 98] 5 (2, 3))
  have s1 := s.below hb1
  have hbel := hb.trans (hb1.mono hb.size)
  refine (put_yes _ g w.heap.size 9 _ _ _ _ s1 _ 2 2 [97, 98] (SB.lit w1 5 [97, 98] _ (2, 3) 2 rfl rfl (by decide)) (by omega)).mono ?_
  intro e w2 hP
  obtain ⟨rfl, pv2, hv2, s2, st2⟩ := hP.get
  have hbel2 := st2.bel _ _ hbel (Nat.le_refl _)
  clear hP st2 hbel s1 s hb hb1 hcv
  go_wp2_with fail
  refine (doKeep_any w2 g w.heap.size 9 pv2 hv2 _ _ s2).mono ?_
  intro e w3 hP
  obtain ⟨rfl, pv3, hv3, s3, st3⟩ := hP.get
  have hbel3 := st3.bel _ _ hbel2 (Nat.le_refl _)
  clear hP st3 hbel2 s2
  go_wp2_with fail
  refine (doMore_yes w3 g w.heap.size 9 pv3 hv3 _ _ s3 (by decide)).mono ?_
  intro e w4 hP
  obtain ⟨rfl, pv4, hv4, s4, st4⟩ := hP.get
  have hbel4 := st4.bel _ _ hbel3 (Nat.le_refl _)
  clear hP st4 hbel3 s3
  go_wp2_with fail
  refine (pattern_any w4 g w.heap.size 9 pv4 hv4 _ _ s4).mono ?_
  rintro e w5 ⟨v5, rfl, o5, hb5⟩
  have s5 := s4.below hb5
  have hbel5 := hbel4.trans (hb5.mono hbel4.size)
  have sb5 := o5.sb s4.bp s4.len2P
  obtain ⟨-, a5, c5, rfl, -⟩ := id sb5
  obtain ⟨b5, q5, rfl, -⟩ := sb5.read 0 (by decide)
  have k5 := sb5.str 5 c5 (by decide)
  clear sb5 o5 s4 hbel4 hb5
  have q5' := str5
  go_wp2_with fail
  clear k5 q5'
  refine (hold_any w5 g w.heap.size 9 pv4 hv4 _ _ s5).mono ?_
  rintro e w6 ⟨v6, rfl, o6, hb6⟩
  have s6 := s5.below hb6
  have hbel6 := hbel5.trans (hb6.mono hbel5.size)
  have sb6 := o6.sb s5.bh s5.len2H
  obtain ⟨-, a6, c6, rfl, -⟩ := id sb6
  obtain ⟨b6, q6, rfl, -⟩ := sb6.read 0 (by decide)
  have k6 := sb6.str 2 c6 (by decide)
  have q6' := str2
  clear sb6 o6 s5 hbel5 hb6
  go_wp2_with fail
  clear k6
  refine (spCut_any w6 g w.heap.size 9 pv4 hv4 _ _ s6).mono ?_
  intro e w7 hP
  obtain ⟨rfl, pv7, hv7, s7, st7⟩ := hP.get
  have s7 : Sp w7 g w.heap.size 9 pv7 hv7 [97, 98] [97, 98] := s7
  have hbel7 := st7.bel _ _ hbel6 (Nat.le_refl _)
  have hfo : foundL ([97, 98] ++ [10] ++ [97, 98]) = true := rfl
  clear hP st7 hbel6 s6
  rw [hfo]
  clear hfo
  go_wp2_with fail
  refine (pattern_any w7 g w.heap.size 9 pv7 hv7 _ _ s7).mono ?_
  rintro e w8 ⟨v8, rfl, o8, hb8⟩
  have hbel8 := hbel7.trans (hb8.mono hbel7.size)
  have sb8 := o8.sb s7.bp s7.len2P
  obtain ⟨-, a8, c8, rfl, -⟩ := id sb8
  obtain ⟨b8, q8, rfl, -⟩ := sb8.read 0 (by decide)
  have k8 := sb8.str 2 c8 (by decide)
  clear sb8 o8 s7 hbel7 hb8
  go_wp2_with fail
  go_ret
  exact ⟨rfl, hbel8⟩
end Go.Proofs.YtakimaceohfpcaaDoor
