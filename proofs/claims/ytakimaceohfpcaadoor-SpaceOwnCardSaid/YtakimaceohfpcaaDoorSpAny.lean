/-
  The calls of a space and of the document's space, made or nil, said alike.
-/
import Derived.Test.YtakimaceohfpcaaDoorRefCut
import Derived.Test.YtakimaceohfpcaaDoorNoS0
namespace Go.Proofs.YtakimaceohfpcaaDoor
open Go.RowKit

set_option maxRecDepth 100000 in
theorem spJoin_yes (w : World) (g base : Nat) (most : Int) (pv hv : Value) (p h : List Int) (s : Sp w g base most pv hv p h) (a : Option Addr) (n c : Nat) (b : List Int) (sb : SB w (.slice a n c) b) (hN : a = none → c = 0)
    (hap : ∀ k, (Value.slice a n c).ownBlock = some k → pv.ownBlock ≠ some k) (hroom : (p.length : Int) + 1 + (n : Int) ≤ most) :
    Calls Tryd.prog 114 #[.pointer (some ⟨g, 0, none⟩), .slice a n c] w (SpPost w g base most pv hv (p ++ [10] ++ b) h (.int .i64 0)) := by
  have HJ := Lib.hid (joinP_yes w g base most pv hv p h s a n c b sb hN hap hroom)
  clear hN hap sb
  go_enter Tryd.func114, Tryd.ntmps114
  go_wp2_with fail
  refine (isSpace_yes w g base most pv hv p h s).mono ?_
  rintro e w' ⟨rfl, rfl⟩
  clear s
  go_wp2_with fail
  refine HJ.out.mono ?_
  intro e w1 hP
  obtain ⟨rfl, pv', hv', h1, h2⟩ := hP.get
  have H := Lib.hid hP
  clear h1 h2 hP
  go_wp2_with fail
  go_ret
  exact H.out
set_option maxRecDepth 100000 in
theorem spJoin_no (w : World) (g base : Nat) (most : Int) (pv hv : Value) (p h : List Int) (s : Sp w g base most pv hv p h) (a : Option Addr) (n c : Nat) (hn : n ≤ 140737488351232) (hroom : most < (p.length : Int) + 1 + (n : Int)) :
    Calls Tryd.prog 114 #[.pointer (some ⟨g, 0, none⟩), .slice a n c] w (SpPost w g base most pv hv p h (.int .i64 62)) := by
  have HJ := Lib.hid (join_no w g base 2 most pv hv p h p s (.inl ⟨rfl, rfl⟩) a n c hn hroom)
  have HS := Lib.hid s
  go_enter Tryd.func114, Tryd.ntmps114
  go_wp2_with fail
  refine (isSpace_yes w g base most pv hv p h s).mono ?_
  rintro e w' ⟨rfl, rfl⟩
  clear s
  go_wp2_with fail
  refine HJ.out.mono ?_
  rintro e w1 ⟨rfl, m, rfl⟩
  have H := Lib.hid (show SpPost w g base most pv hv p h (.int .i64 62) (.returned (.int .i64 62)) (w.drewN m) from ⟨pv, hv, rfl, HS.out.drewN m, SpStep.drewN HS.out.base_le m⟩)
  go_wp2_with fail
  go_ret
  exact H.out

theorem Sp.step {w : World} {g base : Nat} {most : Int} {pv hv : Value} {p h : List Int} (s : Sp w g base most pv hv p h) : SpStep w w g base pv hv pv hv := SpStep.ofBelow (Below.refl _ _) s.base_le
abbrev SM (w : World) (g base : Nat) (most : Int) (pv hv : Value) (M : M3) : Ending → World → Prop := SpPost w g base most pv hv M.1 M.2.1 (.int .i64 M.2.2)
theorem put_any (w : World) (g base : Nat) (most : Int) (pv hv : Value) (p h : List Int) (s : Sp w g base most pv hv p h) (a : Option Addr) (n c : Nat) (b : List Int) (sb : SB w (.slice a n c) b) :
    Calls Tryd.prog 110 #[.pointer (some ⟨g, 0, none⟩), .slice a n c] w (SM w g base most pv hv (mPut most b p h)) := by
  have hl := sb.len.1
  unfold mPut
  by_cases hn : (b.length : Int) ≤ most
  · rw [if_pos hn]
    exact put_yes w g base most pv hv p h s a n c b sb (by omega)
  · rw [if_neg hn]
    exact (put_no w g base most pv hv p h s a n c (by omega)).mono fun _ _ ⟨e, e2⟩ => by subst e2; exact ⟨pv, hv, e, s, s.step⟩
theorem join_any (w : World) (g base : Nat) (most : Int) (pv hv : Value) (p h : List Int) (s : Sp w g base most pv hv p h) (a : Option Addr) (n c : Nat) (b : List Int) (sb : SB w (.slice a n c) b) (hN : a = none → c = 0)
    (hap : ∀ k, (Value.slice a n c).ownBlock = some k → pv.ownBlock ≠ some k) :
    Calls Tryd.prog 114 #[.pointer (some ⟨g, 0, none⟩), .slice a n c] w (SM w g base most pv hv (mJoin most b p h)) := by
  have hl := sb.len
  unfold mJoin
  by_cases hn : (p.length : Int) + 1 + (b.length : Int) ≤ most
  · rw [if_pos hn]
    exact spJoin_yes w g base most pv hv p h s a n c b sb hN hap (by omega)
  · rw [if_neg hn]
    exact spJoin_no w g base most pv hv p h s a n c hl.2 (by omega)
theorem eqNilF (w : World) : (binOp .eql 205 .nilFunc .nilFunc).run Tryd.prog w = .ok (.bool true) w := by kernel_rfl
theorem doOther (w : World) (g base : Nat) (most c : Int) (pv hv : Value) (p h : List Int) (s : Sp w g base most pv hv p h) (h1 : c ≠ 103) (h2 : c ≠ 71) (h3 : c ≠ 104) (h4 : c ≠ 72) (h5 : c ≠ 120) :
    Calls Tryd.prog 111 #[.pointer (some ⟨g, 0, none⟩), .int .u8 c] w fun e w' => e = .returned (.int .i64 1) ∧ w.alloc (.map tabE 5) = w' := by
  have hlk := lookup_run (w.alloc (.map tabE 5)) w.heap.size c (heap_alloc_new w _)
  rw [show funOf c = .nilFunc by unfold funOf; rw [if_neg h1, if_neg h2, if_neg h3, if_neg h4, if_neg h5]] at hlk
  have s1 := s.below ((Below.refl _ w).alloc (Nat.le_refl _) (.map tabE 5))
  have heq := eqNilF
  clear h1 h2 h3 h4 h5 s
  go_enter Tryd.func111, Tryd.ntmps111
  go_wp2_with fail
  refine (table_any w).mono ?_
  rintro e w1 ⟨rfl, rfl⟩
  go_wp2_with fail
  refine (isSpace_yes _ g base most pv hv p h s1).mono ?_
  rintro e w1 ⟨rfl, rfl⟩
  clear hlk
  go_wp2_with fail
  go_ret
  exact ⟨rfl, rfl⟩
theorem sdo_any (w : World) (g base : Nat) (most c : Int) (pv hv : Value) (p h : List Int) (s : Sp w g base most pv hv p h) :
    Calls Tryd.prog 111 #[.pointer (some ⟨g, 0, none⟩), .int .u8 c] w (SM w g base most pv hv (mDo most c p h)) := by
  unfold mDo
  by_cases h1 : c = 103
  · subst h1; exact doGet_any w g base most pv hv p h s
  by_cases h2 : c = 71
  · subst h2
    rw [if_neg h1, if_pos rfl]
    by_cases hr : (p.length : Int) + 1 + (h.length : Int) ≤ most
    · rw [if_pos hr]; exact doMore_yes w g base most pv hv p h s hr
    · rw [if_neg hr]; exact (doMore_no w g base most pv hv p h s (by omega)).1
  by_cases h3 : c = 104
  · subst h3; exact doKeep_any w g base most pv hv p h s
  by_cases h4 : c = 72
  · subst h4
    rw [if_neg h1, if_neg h2, if_neg h3, if_pos rfl]
    by_cases hr : (h.length : Int) + 1 + (p.length : Int) ≤ most
    · rw [if_pos hr]; exact doKeepMore_yes w g base most pv hv p h s hr
    · rw [if_neg hr]; exact (doMore_no w g base most pv hv p h s (by omega)).2
  by_cases h5 : c = 120
  · subst h5; exact doExch_any w g base most pv hv p h s
  rw [if_neg h1, if_neg h2, if_neg h3, if_neg h4, if_neg h5]
  exact (doOther w g base most c pv hv p h s h1 h2 h3 h4 h5).mono fun _ _ ⟨e, e2⟩ => by
    subst e2
    exact ⟨pv, hv, e, s.tab, SpStep.ofBelow ((Below.refl _ w).alloc (Nat.le_refl _) _) s.base_le⟩

/-! ### Made or nil -/
structure Ob where
  g : Nat
  pv : Value
  hv : Value
def ptO : Option Ob → Value
  | none => .pointer none
  | some s => .pointer (some ⟨s.g, 0, none⟩)
def FO (o : Option Ob) (k : Nat) : Prop := match o with
  | none => False
  | some s => k = s.g ∨ s.pv.ownBlock = some k ∨ s.hv.ownBlock = some k
def SpO (w : World) (base : Nat) (most : Int) (o : Option Ob) (p h : List Int) : Prop := match o with
  | none => True
  | some s => Sp w s.g base most s.pv s.hv p h
def RpO (w : World) (base : Nat) (most : Int) (o : Option Ob) (p h : List Int) : Prop := match o with
  | none => True
  | some s => Rp w s.g base most s.pv s.hv p h
theorem SpStep.up {w w' : World} {g base : Nat} {pv hv pv' hv' : Value} (h : SpStep w w' g base pv hv pv' hv') : Up w w' base (FO (some ⟨g, pv, hv⟩)) (FO (some ⟨g, pv', hv'⟩)) :=
  ⟨fun k hk hn => h.blk k hk (fun e => hn (.inl e)) (fun e => hn (.inr (.inl e))) (fun e => hn (.inr (.inr e))), fun k hk => by
    rcases hk with e | e | e
    · exact .inl (.inl e)
    · rcases h.new k (.inl e) with e | e | e
      · exact .inl (.inr (.inl e))
      · exact .inl (.inr (.inr e))
      · exact .inr e
    · rcases h.new k (.inr e) with e | e | e
      · exact .inl (.inr (.inl e))
      · exact .inl (.inr (.inr e))
      · exact .inr e, h.bel, h.size⟩
theorem SpO.lt {w : World} {base : Nat} {most : Int} {o : Option Ob} {p h : List Int} (s : SpO w base most o p h) : ∀ k, FO o k → k < w.heap.size := by
  cases o with
  | none => exact fun k hk => hk.elim
  | some s0 =>
    intro k hk
    rcases hk with rfl | e | e
    · exact Sp.lt s
    · exact (World.ownsRow.lt s.op k e).2
    · exact (World.ownsRow.lt s.oh k e).2
theorem RpO.lt {w : World} {base : Nat} {most : Int} {o : Option Ob} {p h : List Int} (s : RpO w base most o p h) : ∀ k, FO o k → k < w.heap.size := by
  cases o with
  | none => exact fun k hk => hk.elim
  | some s0 =>
    intro k hk
    rcases hk with rfl | e | e
    · exact Rp.lt s
    · exact (World.ownsRow.lt s.op k e).2
    · exact (World.ownsRow.lt s.oh k e).2
theorem SpO.keep {w w' : World} {base : Nat} {most : Int} {o : Option Ob} {p h : List Int} (s : SpO w base most o p h) (hk : ∀ k, FO o k → w'.heap[k]? = w.heap[k]?) : SpO w' base most o p h := by
  cases o with
  | none => trivial
  | some s0 =>
    have s : Sp w s0.g base most s0.pv s0.hv p h := s
    show Sp w' s0.g base most s0.pv s0.hv p h
    exact { s with blk := (hk _ (.inl rfl)).trans s.blk, op := own_blk s.op fun k e => hk k (.inr (.inl e)), oh := own_blk s.oh fun k e => hk k (.inr (.inr e)) }
theorem RpO.keep {w w' : World} {base : Nat} {most : Int} {o : Option Ob} {p h : List Int} (s : RpO w base most o p h) (hk : ∀ k, FO o k → w'.heap[k]? = w.heap[k]?) : RpO w' base most o p h := by
  cases o with
  | none => trivial
  | some s0 =>
    have s : Rp w s0.g base most s0.pv s0.hv p h := s
    show Rp w' s0.g base most s0.pv s0.hv p h
    exact { s with blk := (hk _ (.inl rfl)).trans s.blk, op := own_blk s.op fun k e => hk k (.inr (.inl e)), oh := own_blk s.oh fun k e => hk k (.inr (.inr e)) }
theorem SpO.below {w w' : World} {base : Nat} {most : Int} {o : Option Ob} {p h : List Int} (s : SpO w base most o p h) (hb : Below w.heap.size w w') : SpO w' base most o p h := s.keep fun k hk => hb.block k (s.lt k hk)
theorem RpO.below {w w' : World} {base : Nat} {most : Int} {o : Option Ob} {p h : List Int} (s : RpO w base most o p h) (hb : Below w.heap.size w w') : RpO w' base most o p h := s.keep fun k hk => hb.block k (s.lt k hk)

/-- What a call leaves of an object, of either kind. -/
def OpP (X : World → Nat → Int → Option Ob → List Int → List Int → Prop) (w : World) (base : Nat) (most : Int) (o : Option Ob) (p' h' : List Int) (ans : Value) (e : Ending) (w' : World) : Prop :=
  e = .returned ans ∧ ∃ o', ptO o' = ptO o ∧ o'.isSome = o.isSome ∧ X w' base most o' p' h' ∧ Up w w' base (FO o) (FO o')
theorem SpPost.op {w : World} {base : Nat} {most : Int} {s : Ob} {p' h' : List Int} {v : Value} {e : Ending} {w' : World} (hP : SpPost w s.g base most s.pv s.hv p' h' v e w') : OpP SpO w base most (some s) p' h' v e w' := by
  obtain ⟨pv', hv', he, h1, h2⟩ := hP
  exact ⟨he, some ⟨s.g, pv', hv'⟩, rfl, rfl, h1, h2.up⟩
theorem RpPost.op {w : World} {base : Nat} {most : Int} {s : Ob} {p' h' : List Int} {v : Value} {e : Ending} {w' : World} (hP : RpPost w s.g base most s.pv s.hv p' h' v e w') : OpP RpO w base most (some s) p' h' v e w' := by
  obtain ⟨pv', hv', he, h1, h2⟩ := hP
  exact ⟨he, some ⟨s.g, pv', hv'⟩, rfl, rfl, h1, h2.up⟩
theorem OpP.nil {X : World → Nat → Int → Option Ob → List Int → List Int → Prop} {w w' : World} {base : Nat} {most : Int} {p h : List Int} {v : Value} (hX : X w' base most none p h) (hb : Below w.heap.size w w') (hs : base ≤ w.heap.size) : OpP X w base most none p h v (.returned v) w' :=
  ⟨rfl, none, rfl, rfl, hX, Up.below _ hb hs⟩
def mOn (o : Option Ob) (M : M3) (p h : List Int) : M3 := if o.isSome = true then M else (p, h, 1)
abbrev OM3 (X : World → Nat → Int → Option Ob → List Int → List Int → Prop) (w : World) (base : Nat) (most : Int) (o : Option Ob) (M : M3) (p h : List Int) : Ending → World → Prop :=
  OpP X w base most o (mOn o M p h).1 (mOn o M p h).2.1 (.int .i64 (mOn o M p h).2.2)

theorem putO (w : World) (base : Nat) (most : Int) (o : Option Ob) (p h : List Int) (s : SpO w base most o p h) (hs : base ≤ w.heap.size) (a : Option Addr) (n c : Nat) (b : List Int) (sb : SB w (.slice a n c) b) :
    Calls Tryd.prog 110 #[ptO o, .slice a n c] w (OM3 SpO w base most o (mPut most b p h) p h) := by
  cases o with
  | none => exact (putS_no w _ a n c (.inl rfl)).mono fun _ _ ⟨e, e2⟩ => by subst e e2; exact OpP.nil trivial (Below.refl _ _) hs
  | some s0 => exact (put_any w s0.g base most s0.pv s0.hv p h s a n c b sb).mono fun _ _ hP => SpPost.op hP
theorem joinO (w : World) (base : Nat) (most : Int) (o : Option Ob) (p h : List Int) (s : SpO w base most o p h) (hs : base ≤ w.heap.size) (a : Option Addr) (n c : Nat) (b : List Int) (sb : SB w (.slice a n c) b) (hN : a = none → c = 0)
    (hap : ∀ k, (Value.slice a n c).ownBlock = some k → ¬ FO o k) :
    Calls Tryd.prog 114 #[ptO o, .slice a n c] w (OM3 SpO w base most o (mJoin most b p h) p h) := by
  cases o with
  | none => exact (joinS_no w _ a n c (.inl rfl)).mono fun _ _ ⟨e, e2⟩ => by subst e e2; exact OpP.nil trivial (Below.refl _ _) hs
  | some s0 => exact (join_any w s0.g base most s0.pv s0.hv p h s a n c b sb hN fun k h1 h2 => hap k h1 (.inr (.inl h2))).mono fun _ _ hP => SpPost.op hP
theorem doO (w : World) (base : Nat) (most : Int) (o : Option Ob) (p h : List Int) (s : SpO w base most o p h) (hs : base ≤ w.heap.size) (c : Int) :
    Calls Tryd.prog 111 #[ptO o, .int .u8 c] w (OM3 SpO w base most o (mDo most c p h) p h) := by
  cases o with
  | none => exact (do_no w _ c (.inl rfl)).mono fun _ _ ⟨e, e2⟩ => by subst e e2; exact OpP.nil trivial ((Below.refl _ w).alloc (Nat.le_refl _) _) hs
  | some s0 => exact (sdo_any w s0.g base most c s0.pv s0.hv p h s).mono fun _ _ hP => SpPost.op hP
def restO (o : Option Ob) (p : List Int) : List Int := if o.isSome = true then restL p else p
def foundO (o : Option Ob) (p : List Int) : Bool := o.isSome && foundL p
def readO (o : Option Ob) (p : List Int) : List Int := if o.isSome = true then p else []
theorem cutO (w : World) (base : Nat) (most : Int) (o : Option Ob) (p h : List Int) (s : SpO w base most o p h) (hs : base ≤ w.heap.size) :
    Calls Tryd.prog 112 #[ptO o] w (OpP SpO w base most o (restO o p) h (.bool (foundO o p))) := by
  cases o with
  | none => exact (cutS_no w _ (.inl rfl)).mono fun _ _ ⟨e, e2⟩ => by subst e e2; exact OpP.nil trivial (Below.refl _ _) hs
  | some s0 => exact (spCut_any w s0.g base most s0.pv s0.hv p h s).mono fun _ _ hP => SpPost.op hP
def FirstO (w : World) (o : Option Ob) (p : List Int) (e : Ending) (w' : World) : Prop := ∃ v, e = .returned (.tuple #[v, .bool (foundO o p)]) ∧ OwnB w' w.heap.size v (readO o (firstL p)) ∧ Below w.heap.size w w'
theorem firstO (w : World) (base : Nat) (most : Int) (o : Option Ob) (p h : List Int) (s : SpO w base most o p h) :
    Calls Tryd.prog 71 #[ptO o] w (FirstO w o p) := by
  cases o with
  | none => exact (first_no w _ (.inl rfl)).mono fun _ _ ⟨e, e2⟩ => by subst e e2; exact ⟨_, rfl, OwnB.nil _ _, Below.refl _ _⟩
  | some s0 => exact (spFirst_any w s0.g base most s0.pv s0.hv p h s).mono fun _ _ hP => hP
theorem patternO (w : World) (base : Nat) (most : Int) (o : Option Ob) (p h : List Int) (s : SpO w base most o p h) : Calls Tryd.prog 69 #[ptO o] w (TwinPost w (readO o p)) := by
  cases o with
  | none => exact (pattern_no w _ (.inl rfl)).mono fun _ _ ⟨e, e2⟩ => by subst e e2; exact ⟨_, rfl, OwnB.nil _ _, Below.refl _ _⟩
  | some s0 => exact pattern_any w s0.g base most s0.pv s0.hv p h s
theorem holdO (w : World) (base : Nat) (most : Int) (o : Option Ob) (p h : List Int) (s : SpO w base most o p h) : Calls Tryd.prog 70 #[ptO o] w (TwinPost w (readO o h)) := by
  cases o with
  | none => exact (hold_no w _ (.inl rfl)).mono fun _ _ ⟨e, e2⟩ => by subst e e2; exact ⟨_, rfl, OwnB.nil _ _, Below.refl _ _⟩
  | some s0 => exact hold_any w s0.g base most s0.pv s0.hv p h s
end Go.Proofs.YtakimaceohfpcaaDoor
