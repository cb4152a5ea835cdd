/-
  The document's space, made or nil: its calls.
-/
import Derived.Test.YtakimaceohfpcaaSpAny
namespace Go.Proofs.Ytakimaceohfpcaa
open Go.RowKit

theorem rput_nil (w : World) (a : Option Addr) (n c : Nat) : Calls Try.prog 29 #[.pointer none, .slice a n c] w fun e w' => e = .returned (.int .i64 1) ∧ w = w' := by
  go_enter Try.func29, Try.ntmps29
  go_wp2_with fail
  refine (rnone_yes w).mono ?_
  rintro e w' ⟨rfl, rfl⟩
  go_wp2_with fail
  go_ret
  exact ⟨rfl, rfl⟩
theorem rjoin_nil (w : World) (a : Option Addr) (n c : Nat) : Calls Try.prog 31 #[.pointer none, .slice a n c] w fun e w' => e = .returned (.int .i64 1) ∧ w = w' := by
  go_enter Try.func31, Try.ntmps31
  go_wp2_with fail
  refine (rnone_yes w).mono ?_
  rintro e w' ⟨rfl, rfl⟩
  go_wp2_with fail
  go_ret
  exact ⟨rfl, rfl⟩
theorem rdo_nil (w : World) (c : Int) : Calls Try.prog 32 #[.pointer none, .int .u8 c] w fun e w' => e = .returned (.int .i64 1) ∧ w = w' := by
  go_enter Try.func32, Try.ntmps32
  go_wp2_with fail
  refine (rnone_yes w).mono ?_
  rintro e w' ⟨rfl, rfl⟩
  go_wp2_with fail
  go_ret
  exact ⟨rfl, rfl⟩
theorem rcut_nil (w : World) : Calls Try.prog 33 #[.pointer none] w fun e w' => e = .returned (.bool false) ∧ w = w' := by
  go_enter Try.func33, Try.ntmps33
  go_wp2_with fail
  refine (rnone_yes w).mono ?_
  rintro e w' ⟨rfl, rfl⟩
  go_wp2_with fail
  go_ret
  exact ⟨rfl, rfl⟩
theorem rfirst_nil (w : World) : Calls Try.prog 35 #[.pointer none] w fun e w' => e = .returned (.tuple #[.slice none 0 0, .bool false]) ∧ w = w' := by
  go_enter Try.func35, Try.ntmps35
  go_wp2_with fail
  refine (rnone_yes w).mono ?_
  rintro e w' ⟨rfl, rfl⟩
  go_wp2_with fail
  go_ret2
  exact ⟨rfl, rfl⟩
theorem rpattern_nil (w : World) : Calls Try.prog 16 #[.pointer none] w fun e w' => e = .returned (.slice none 0 0) ∧ w = w' := by
  go_enter Try.func16, Try.ntmps16
  go_wp2_with fail
  refine (rnone_yes w).mono ?_
  rintro e w' ⟨rfl, rfl⟩
  go_wp2_with fail
  go_ret
  exact ⟨rfl, rfl⟩
theorem rhold_nil (w : World) : Calls Try.prog 18 #[.pointer none] w fun e w' => e = .returned (.slice none 0 0) ∧ w = w' := by
  go_enter Try.func18, Try.ntmps18
  go_wp2_with fail
  refine (rnone_yes w).mono ?_
  rintro e w' ⟨rfl, rfl⟩
  go_wp2_with fail
  go_ret
  exact ⟨rfl, rfl⟩
theorem rputO (w : World) (base : Nat) (most : Int) (o : Option Ob) (p h : List Int) (s : RpO w base most o p h) (hs : base ≤ w.heap.size) (a : Option Addr) (n c : Nat) (b : List Int) (sb : SB w (.slice a n c) b) :
    Calls Try.prog 29 #[ptO o, .slice a n c] w (OM3 RpO w base most o (mPut most b p h) p h) := by
  cases o with
  | none => exact (rput_nil w a n c).mono fun _ _ ⟨e, e2⟩ => by subst e e2; exact OpP.nil trivial (Below.refl _ _) hs
  | some s0 => exact (rput_any w s0.g base most s0.pv s0.hv p h s a n c b sb).mono fun _ _ hP => RpPost.op hP
theorem rjoinO (w : World) (base : Nat) (most : Int) (o : Option Ob) (p h : List Int) (s : RpO w base most o p h) (hs : base ≤ w.heap.size) (a : Option Addr) (n c : Nat) (b : List Int) (sb : SB w (.slice a n c) b) (hN : a = none → c = 0) (hn : n ≤ 140737486254080) :
    Calls Try.prog 31 #[ptO o, .slice a n c] w (OM3 RpO w base most o (mJoin most b p h) p h) := by
  cases o with
  | none => exact (rjoin_nil w a n c).mono fun _ _ ⟨e, e2⟩ => by subst e e2; exact OpP.nil trivial (Below.refl _ _) hs
  | some s0 => exact (rjoin_any w s0.g base most s0.pv s0.hv p h s a n c b sb hN hn).mono fun _ _ hP => RpPost.op hP
theorem rdoO (w : World) (base : Nat) (most : Int) (o : Option Ob) (p h : List Int) (s : RpO w base most o p h) (hs : base ≤ w.heap.size) (c : Int) :
    Calls Try.prog 32 #[ptO o, .int .u8 c] w (OM3 RpO w base most o (mDo most c p h) p h) := by
  cases o with
  | none => exact (rdo_nil w c).mono fun _ _ ⟨e, e2⟩ => by subst e e2; exact OpP.nil trivial (Below.refl _ _) hs
  | some s0 => exact (rdo_any w s0.g base most c s0.pv s0.hv p h s).mono fun _ _ hP => RpPost.op hP
theorem rcutO (w : World) (base : Nat) (most : Int) (o : Option Ob) (p h : List Int) (s : RpO w base most o p h) (hs : base ≤ w.heap.size) :
    Calls Try.prog 33 #[ptO o] w (OpP RpO w base most o (restO o p) h (.bool (foundO o p))) := by
  cases o with
  | none => exact (rcut_nil w).mono fun _ _ ⟨e, e2⟩ => by subst e e2; exact OpP.nil trivial (Below.refl _ _) hs
  | some s0 => exact (rcut_any w s0.g base most s0.pv s0.hv p h s).mono fun _ _ hP => RpPost.op hP
theorem rfirstO (w : World) (base : Nat) (most : Int) (o : Option Ob) (p h : List Int) (s : RpO w base most o p h) :
    Calls Try.prog 35 #[ptO o] w (FirstO w o p) := by
  cases o with
  | none => exact (rfirst_nil w).mono fun _ _ ⟨e, e2⟩ => by subst e e2; exact ⟨_, rfl, OwnB.nil _ _, Below.refl _ _⟩
  | some s0 => exact (rfirst_any w s0.g base most s0.pv s0.hv p h s).mono fun _ _ hP => hP
theorem rpatternO (w : World) (base : Nat) (most : Int) (o : Option Ob) (p h : List Int) (s : RpO w base most o p h) : Calls Try.prog 16 #[ptO o] w (TwinPost w (readO o p)) := by
  cases o with
  | none => exact (rpattern_nil w).mono fun _ _ ⟨e, e2⟩ => by subst e e2; exact ⟨_, rfl, OwnB.nil _ _, Below.refl _ _⟩
  | some s0 => exact rpattern_any w s0.g base most s0.pv s0.hv p h s
theorem rholdO (w : World) (base : Nat) (most : Int) (o : Option Ob) (p h : List Int) (s : RpO w base most o p h) : Calls Try.prog 18 #[ptO o] w (TwinPost w (readO o h)) := by
  cases o with
  | none => exact (rhold_nil w).mono fun _ _ ⟨e, e2⟩ => by subst e e2; exact ⟨_, rfl, OwnB.nil _ _, Below.refl _ _⟩
  | some s0 => exact rhold_any w s0.g base most s0.pv s0.hv p h s
end Go.Proofs.Ytakimaceohfpcaa
