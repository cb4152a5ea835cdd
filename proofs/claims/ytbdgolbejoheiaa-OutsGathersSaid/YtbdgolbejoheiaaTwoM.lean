/-
  Outputs beside one another.
-/
import Derived.Test.YtbdgolbejoheiaaSticksLaw
namespace Go.Proofs.Ytbdgolbejoheiaa
open Go.RowKit

/-- Two outputs share no block. -/
def Dj (s t : OSt) : Prop := ∀ k, Blk s k → ¬ Blk t k
theorem Dj.symm {s t : OSt} (h : Dj s t) : Dj t s := fun k h1 h2 => h k h2 h1
theorem dj_step {W W' : World} {base base2 : Nat} {s s' t : OSt} (h : OIs W base2 t) (d : Dj s t) (hu : OUp W W' base s s') : OIs W' base2 t ∧ Dj s' t :=
  ⟨h.keep fun k hk hb => hu.keep k hk fun hm => d k (.inl hm) hb, fun k hk hb => by
    rcases hu.blk k hk with e | e
    · exact d k e hb
    · have := (h.lt k hb).1; omega⟩
theorem blk_new {bo bs : Nat} {size fail ferr : Int} {k : Nat} (h : Blk (newSt bo bs size fail ferr) k) : k = bo ∨ k = bs := by
  rcases h with (h | h | h | h | h) | ⟨i, v, hi, -⟩
  · exact .inl h
  · exact .inr h
  · simp [newSt, Value.ownBlock] at h
  · simp [newSt, Value.ownBlock] at h
  · simp [newSt, Value.ownBlock] at h
  · simp [newSt] at hi
theorem OIs.rows {W : World} {base : Nat} {s : OSt} (h : OIs W base s) (hl : s.said.length ≤ 5864062014805) : RB W s.sv s.said :=
  RBS.rb (Rows.rbs (vs := s.vs) ⟨h.osv, fun i hi => by
    obtain ⟨v, g1, g2, -, g4, g5⟩ := h.row i hi
    exact ⟨v, g1, g2, g4, g5⟩⟩ hl)

/-- Three outputs. -/
structure T3 (W : World) (base : Nat) (x y z : OSt) : Prop where
  hx : OIs W base x
  hy : OIs W base y
  hz : OIs W base z
  xy : Dj x y
  xz : Dj x z
  yz : Dj y z
section
variable {W W' : World} {base : Nat} {x y z x' y' z' : OSt}
theorem T3.below (h : T3 W base x y z) (hb : Below W.heap.size W W') : T3 W' base x y z := ⟨h.hx.below hb, h.hy.below hb, h.hz.below hb, h.xy, h.xz, h.yz⟩
theorem T3.stepx (h : T3 W base x y z) (hi : OIs W' base x') (hu : OUp W W' base x x') : T3 W' base x' y z :=
  ⟨hi, (dj_step h.hy h.xy hu).1, (dj_step h.hz h.xz hu).1, (dj_step h.hy h.xy hu).2, (dj_step h.hz h.xz hu).2, h.yz⟩
theorem T3.stepy (h : T3 W base x y z) (hi : OIs W' base y') (hu : OUp W W' base y y') : T3 W' base x y' z :=
  ⟨(dj_step h.hx h.xy.symm hu).1, hi, (dj_step h.hz h.yz hu).1, (dj_step h.hx h.xy.symm hu).2.symm, h.xz, (dj_step h.hz h.yz hu).2⟩
theorem T3.stepz (h : T3 W base x y z) (hi : OIs W' base z') (hu : OUp W W' base z z') : T3 W' base x y z' :=
  ⟨(dj_step h.hx h.xz.symm hu).1, (dj_step h.hy h.yz.symm hu).1, hi, h.xy, (dj_step h.hx h.xz.symm hu).2.symm, (dj_step h.hy h.yz.symm hu).2.symm⟩
end

/-- What an output holds and has handed on is bounded. -/
def BD (s : OSt) (T k : Nat) : Prop := s.cnt + (s.g.length : Nat) ≤ (T : Nat) ∧ 0 ≤ s.cnt ∧ s.said.length ≤ k
theorem BD.next {s s' : OSt} {T k add : Nat} (h : BD s T k) (hc : SC s s' add) : BD s' (T + add) (k + 1) := by
  obtain ⟨h1, h2, h3⟩ := hc
  obtain ⟨b1, b2, b3⟩ := h
  refine ⟨by omega, by omega, ?_⟩
  rcases h1 with ⟨e, -⟩ | ⟨-, p, e, -⟩
  · rw [e]; omega
  · rw [e, List.length_append]; simp; omega
theorem BD.mono {s : OSt} {T T' k k' : Nat} (h : BD s T k) (hT : T ≤ T') (hk : k ≤ k') : BD s T' k' := ⟨by have := h.1; omega, h.2.1, by have := h.2.2; omega⟩
theorem BD.fits {s : OSt} {T k : Nat} (h : BD s T k) (hT : T ≤ 4294967295) (hk : k ≤ 4294967295) : s.g.length ≤ 4294967295 ∧ (0 ≤ s.cnt ∧ s.cnt ≤ 4611686018427387904) ∧ s.said.length < 4294967296 := by
  obtain ⟨b1, b2, b3⟩ := h
  exact ⟨by omega, ⟨b2, by omega⟩, by omega⟩

/-- What New leaves, whatever the size. -/
def NewAny (W : World) (size : Int) (e : Ending) (W' : World) : Prop := ∃ p er, e = .returned (.tuple #[.pointer p, .int .i64 er]) ∧ er = (if size < 0 then 1 else 0) ∧ Below W.heap.size W W'
theorem new_either (W : World) (bs : Nat) (size fail ferr : Int) (hk : At W bs TSink (sinkNew fail ferr)) : Calls Try.prog 14 #[.int .i64 size, .func (.func 15) #[.pointer (some ⟨bs, 0, none⟩)] #[]] W (NewAny W size) := by
  by_cases h : size < 0
  · refine (new_no W size h _).mono ?_
    rintro e w' ⟨rfl, rfl⟩
    exact ⟨_, _, rfl, (if_pos h).symm, Below.refl _ _⟩
  · refine (new_yes W 0 bs size fail ferr (by omega) hk (Nat.zero_le _) (Nat.zero_le _)).mono ?_
    rintro e w' ⟨rfl, -, hb, -⟩
    exact ⟨_, _, rfl, (if_neg h).symm, hb⟩

/-- The state of the law ahead of step k. -/
structure TI (W wr : World) (bo bp bq ss st su : Nat) (a b : Int) (r : List Stp) (k : Nat) (x y z : OSt) : Prop where
  t : T3 wr W.heap.size x y z
  bel : Below W.heap.size W wr
  xo : x.bo = bo ∧ x.bs = ss ∧ x.size = a ∧ x.fail = 0 ∧ x.ferr = 0
  yo : y.bo = bp ∧ y.bs = st ∧ y.size = b ∧ y.fail = 0 ∧ y.ferr = 0
  zo : z.bo = bq ∧ z.bs = su ∧ z.size = a ∧ z.fail = 0 ∧ z.ferr = 0
  om : omOf x = omOf z
  bx : BD x (totK r k) k
  bz : BD z (totK r k) k
  by' : BD y k k
theorem Same.five {s s' : OSt} (h : Same s s') {u v : Nat} {p q f : Int} (h5 : s.bo = u ∧ s.bs = v ∧ s.size = p ∧ s.fail = q ∧ s.ferr = f) : s'.bo = u ∧ s'.bs = v ∧ s'.size = p ∧ s'.fail = q ∧ s'.ferr = f :=
  ⟨h.bo.trans h5.1, h.bs.trans h5.2.1, h.size.trans h5.2.2.1, h.fail.trans h5.2.2.2.1, h.ferr.trans h5.2.2.2.2⟩
theorem TI.below {W wr w' : World} {bo bp bq ss st su : Nat} {a b : Int} {r : List Stp} {k : Nat} {x y z : OSt} (h : TI W wr bo bp bq ss st su a b r k x y z) (hb : Below wr.heap.size wr w') : TI W w' bo bp bq ss st su a b r k x y z :=
  { h with t := h.t.below hb, bel := h.bel.trans (hb.mono h.bel.size) }
theorem eqRows_nq (w : World) (va vb : Value) (a b : List (List Int)) (t : Bool) (ht : decide (a = b) = t) (ha : RB w va a) (hb : RB w vb b) (q : Nat) :
    Calls Try.prog 16 #[va, vb] (w.drewN q) fun e w' => e = .returned (.bool t) ∧ ∃ m, w' = w.drewN m := by
  subst ht
  exact (eqRows_any _ _ _ _ _ (ha.drewN q) (hb.drewN q)).mono fun _ _ ⟨he, m, hm⟩ => ⟨he, q + m, hm.trans (World.drewN_drewN _ _ _)⟩
theorem count_nq (w : World) (base : Nat) (s : OSt) (h : OIs w base s) (q : Nat) : Calls Try.prog 11 #[.pointer (some ⟨s.bo, 0, none⟩)] (w.drewN q) fun e w' => e = .returned (.int .i64 s.cnt) ∧ ∃ m, w' = w.drewN m :=
  (count_yes _ base s (h.below (below_drewN (Below.refl _ _) q))).mono fun _ _ ⟨he, hm⟩ => ⟨he, q, hm.symm⟩
end Go.Proofs.Ytbdgolbejoheiaa
