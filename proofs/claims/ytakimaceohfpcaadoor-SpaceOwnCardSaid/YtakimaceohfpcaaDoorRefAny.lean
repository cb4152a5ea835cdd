/-
  The document's space, made or nil: its calls.
-/
import Derived.Test.YtakimaceohfpcaaDoorSpAny
namespace Go.Proofs.YtakimaceohfpcaaDoor
open Go.RowKit

theorem rput_nil (w : World) (a : Option Addr) (n c : Nat) : Calls Tryd.prog 113 #[.pointer none, .slice a n c] w fun e w' => e = .returned (.int .i64 1) ∧ w = w' := by
  go_enter Tryd.func113, Tryd.ntmps113
  go_wp2_with fail
  refine (rnone_yes w).mono ?_
  rintro e w' ⟨rfl, rfl⟩
  go_wp2_with fail
  go_ret
  exact ⟨rfl, rfl⟩
theorem rjoin_nil (w : World) (a : Option Addr) (n c : Nat) : Calls Tryd.prog 115 #[.pointer none, .slice a n c] w fun e w' => e = .returned (.int .i64 1) ∧ w = w' := by
  go_enter Tryd.func115, Tryd.ntmps115
  go_wp2_with fail
  refine (rnone_yes w).mono ?_
  rintro e w' ⟨rfl, rfl⟩
  go_wp2_with fail
  go_ret
  exact ⟨rfl, rfl⟩
theorem rdo_nil (w : World) (c : Int) : Calls Tryd.prog 116 #[.pointer none, .int .u8 c] w fun e w' => e = .returned (.int .i64 1) ∧ w = w' := by
  go_enter Tryd.func116, Tryd.ntmps116
  go_wp2_with fail
  refine (rnone_yes w).mono ?_
  rintro e w' ⟨rfl, rfl⟩
  go_wp2_with fail
  go_ret
  exact ⟨rfl, rfl⟩
theorem rcut_nil (w : World) : Calls Tryd.prog 117 #[.pointer none] w fun e w' => e = .returned (.bool false) ∧ w = w' := by
  go_enter Tryd.func117, Tryd.ntmps117
  go_wp2_with fail
  refine (rnone_yes w).mono ?_
  rintro e w' ⟨rfl, rfl⟩
  go_wp2_with fail
  go_ret
  exact ⟨rfl, rfl⟩
theorem rfirst_nil (w : World) : Calls Tryd.prog 72 #[.pointer none] w fun e w' => e = .returned (.tuple #[.slice none 0 0, .bool false]) ∧ w = w' := by
  go_enter Tryd.func72, Tryd.ntmps72
  go_wp2_with fail
  refine (rnone_yes w).mono ?_
  rintro e w' ⟨rfl, rfl⟩
  go_wp2_with fail
  go_ret2
  exact ⟨rfl, rfl⟩
theorem rputO (w : World) (base : Nat) (most : Int) (o : Option Ob) (p h : List Int) (s : RpO w base most o p h) (hs : base ≤ w.heap.size) (a : Option Addr) (n c : Nat) (b : List Int) (sb : SB w (.slice a n c) b) :
    Calls Tryd.prog 113 #[ptO o, .slice a n c] w (OM3 RpO w base most o (mPut most b p h) p h) := by
  cases o with
  | none => exact (rput_nil w a n c).mono fun _ _ ⟨e, e2⟩ => by subst e e2; exact OpP.nil trivial (Below.refl _ _) hs
  | some s0 => exact (rput_any w s0.g base most s0.pv s0.hv p h s a n c b sb).mono fun _ _ hP => RpPost.op hP
theorem rjoinO (w : World) (base : Nat) (most : Int) (o : Option Ob) (p h : List Int) (s : RpO w base most o p h) (hs : base ≤ w.heap.size) (a : Option Addr) (n c : Nat) (b : List Int) (sb : SB w (.slice a n c) b) (hN : a = none → c = 0) (hn : n ≤ 140737486254080) :
    Calls Tryd.prog 115 #[ptO o, .slice a n c] w (OM3 RpO w base most o (mJoin most b p h) p h) := by
  cases o with
  | none => exact (rjoin_nil w a n c).mono fun _ _ ⟨e, e2⟩ => by subst e e2; exact OpP.nil trivial (Below.refl _ _) hs
  | some s0 => exact (rjoin_any w s0.g base most s0.pv s0.hv p h s a n c b sb hN hn).mono fun _ _ hP => RpPost.op hP
theorem rdoO (w : World) (base : Nat) (most : Int) (o : Option Ob) (p h : List Int) (s : RpO w base most o p h) (hs : base ≤ w.heap.size) (c : Int) :
    Calls Tryd.prog 116 #[ptO o, .int .u8 c] w (OM3 RpO w base most o (mDo most c p h) p h) := by
  cases o with
  | none => exact (rdo_nil w c).mono fun _ _ ⟨e, e2⟩ => by subst e e2; exact OpP.nil trivial (Below.refl _ _) hs
  | some s0 => exact (rdo_any w s0.g base most c s0.pv s0.hv p h s).mono fun _ _ hP => RpPost.op hP
theorem rcutO (w : World) (base : Nat) (most : Int) (o : Option Ob) (p h : List Int) (s : RpO w base most o p h) (hs : base ≤ w.heap.size) :
    Calls Tryd.prog 117 #[ptO o] w (OpP RpO w base most o (restO o p) h (.bool (foundO o p))) := by
  cases o with
  | none => exact (rcut_nil w).mono fun _ _ ⟨e, e2⟩ => by subst e e2; exact OpP.nil trivial (Below.refl _ _) hs
  | some s0 => exact (rcut_any w s0.g base most s0.pv s0.hv p h s).mono fun _ _ hP => RpPost.op hP
theorem rfirstO (w : World) (base : Nat) (most : Int) (o : Option Ob) (p h : List Int) (s : RpO w base most o p h) :
    Calls Tryd.prog 72 #[ptO o] w (FirstO w o p) := by
  cases o with
  | none => exact (rfirst_nil w).mono fun _ _ ⟨e, e2⟩ => by subst e e2; exact ⟨_, rfl, OwnB.nil _ _, Below.refl _ _⟩
  | some s0 => exact (rfirst_any w s0.g base most s0.pv s0.hv p h s).mono fun _ _ hP => hP
end Go.Proofs.YtakimaceohfpcaaDoor
