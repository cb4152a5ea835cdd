/-
  A space beside the document's, and a bag into which its answers are gathered.
-/
import Derived.Test.YtakimaceohfpcaaDoorScript25
import Derived.Test.YtakimaceohfpcaaDoorBagI
namespace Go.Proofs.YtakimaceohfpcaaDoor
open Go.RowKit

/-- Two spaces that are alike, a bag of m lists, and lists that wait for the bag. -/
structure OI (W w : World) (most : Int) (gs gr bg m : Nat) (pv1 hv1 pv2 hv2 : Value) (p h : List Int) (bv : Value) (vs : Nat → Value) (len : Nat → Nat) (C : Nat → List Value) (pd : List (Value × List Int)) : Prop where
  two : Two w W.heap.size most (some ⟨gs, pv1, hv1⟩) (some ⟨gr, pv2, hv2⟩) p h
  gi : GI w W.heap.size bg m bv vs len C
  dj : ∀ k, GF bg m bv vs k → ¬ F2 (some ⟨gs, pv1, hv1⟩) (some ⟨gr, pv2, hv2⟩) k
  bel : Below W.heap.size W w
  own : ∀ x ∈ pd, OwnB w W.heap.size x.1 x.2 ∧ x.2.length ≤ 140737488351232
  far : ∀ x ∈ pd, ∀ k, x.1.ownBlock = some k → ¬ GF bg m bv vs k ∧ ¬ F2 (some ⟨gs, pv1, hv1⟩) (some ⟨gr, pv2, hv2⟩) k
  ap : pd.Pairwise fun x y => Apart x.1 y.1
section
variable {W w w' : World} {most : Int} {gs gr bg m : Nat} {pv1 hv1 pv2 hv2 : Value} {p h : List Int} {bv : Value} {vs : Nat → Value} {len : Nat → Nat} {C : Nat → List Value} {pd : List (Value × List Int)}
theorem OI.below (t : OI W w most gs gr bg m pv1 hv1 pv2 hv2 p h bv vs len C pd) (hb : Below w.heap.size w w') : OI W w' most gs gr bg m pv1 hv1 pv2 hv2 p h bv vs len C pd :=
  { t with two := t.two.below hb, gi := t.gi.below hb, bel := t.bel.trans (hb.mono t.two.bs), own := fun x hx => ⟨(t.own x hx).1.below hb, (t.own x hx).2⟩ }
theorem OI.twin (t : OI W w most gs gr bg m pv1 hv1 pv2 hv2 p h bv vs len C pd) {v : Value} {l : List Int} (ho : OwnB w' w.heap.size v l) (hb : Below w.heap.size w w') (hl : l.length ≤ 140737488351232) : OI W w' most gs gr bg m pv1 hv1 pv2 hv2 p h bv vs len C (pd ++ [(v, l)]) := by
  have tb := t.below hb
  have hv : ∀ k, v.ownBlock = some k → w.heap.size ≤ k := ho.from (Nat.le_refl _)
  refine { tb with own := fun x hx => ?_, far := fun x hx k hk => ?_, ap := ?_ }
  · rcases List.mem_append.1 hx with e | e
    · exact tb.own x e
    · obtain rfl := List.mem_singleton.1 e
      exact ⟨ho.mono t.two.bs, hl⟩
  · rcases List.mem_append.1 hx with e | e
    · exact tb.far x e k hk
    · obtain rfl := List.mem_singleton.1 e
      have := hv k hk
      exact ⟨fun e => by have := t.gi.lt k e; omega, fun e => by have := t.two.lt k e; omega⟩
  · refine List.pairwise_append.2 ⟨t.ap, List.pairwise_singleton _ _, fun x hx y hy => ?_⟩
    obtain rfl := List.mem_singleton.1 hy
    intro k h1 h2
    have h3 := (World.ownsRow.lt (t.own x hx).1 k h1).2
    have h4 := hv k h2
    omega
theorem OI.does (t : OI W w most gs gr bg m pv1 hv1 pv2 hv2 p h bv vs len C []) {e : Ending} (hP : DoesPost w W.heap.size most (some ⟨gs, pv1, hv1⟩) (some ⟨gr, pv2, hv2⟩) e w') :
    e = .returned (.bool true) ∧ ∃ a b c d p' h', OI W w' most gs gr bg m a b c d p' h' bv vs len C [] := by
  obtain ⟨he, o', q', p', h', e1, e2, t2, u⟩ := hP
  refine ⟨he, ?_⟩
  have ho : ∃ a b, o' = some ⟨gs, a, b⟩ := by
    cases o' with
    | none => simp [ptO] at e1
    | some s => exact ⟨s.pv, s.hv, by simp [ptO] at e1; subst e1; rfl⟩
  have hq : ∃ a b, q' = some ⟨gr, a, b⟩ := by
    cases q' with
    | none => simp [ptO] at e2
    | some s => exact ⟨s.pv, s.hv, by simp [ptO] at e2; subst e2; rfl⟩
  obtain ⟨a, b, rfl⟩ := ho
  obtain ⟨c, d, rfl⟩ := hq
  obtain ⟨h1, h2⟩ := u.apart (G := GF bg m bv vs) t.gi.lt fun k e1 e2 => t.dj k e2 e1
  exact ⟨a, b, c, d, p', h', t2, t.gi.keep h1, fun k e1 e2 => h2 k e2 e1, u.bel _ _ t.bel (Nat.le_refl _), fun x hx => (by cases hx), fun x hx => (by cases hx), List.Pairwise.nil⟩
theorem OI.add {v : Value} {l : List Int} (t : OI W w most gs gr bg m pv1 hv1 pv2 hv2 p h bv vs len C ((v, l) :: pd)) {e : Ending} (hP : AddGPost w W.heap.size bg m bv vs len C v l e w') :
    e = .returned undef ∧ ∃ bv' vs' len' C', OI W w' most gs gr bg (m + 1) pv1 hv1 pv2 hv2 p h bv' vs' len' C' pd := by
  obtain ⟨he, bv', g, hk, hn, hbel, hsz⟩ := hP
  refine ⟨he, bv', _, _, _, t.two.keep (fun k e => hk k (t.two.lt k e) fun e2 => t.dj k e2 e) hsz, g, fun k e e2 => ?_, hbel _ _ t.bel (Nat.le_refl _), fun x hx => ⟨?_, (t.own x (List.mem_cons_of_mem _ hx)).2⟩, fun x hx k e => ⟨fun e2 => ?_, (t.far x (List.mem_cons_of_mem _ hx) k e).2⟩, (List.pairwise_cons.1 t.ap).2⟩
  · rcases hn k e with e3 | e3 | e3
    · exact t.dj k e3 e2
    · exact (t.far _ (List.mem_cons_self ..) k e3).2 e2
    · have := t.two.lt k e2; omega
  · have ho := (t.own x (List.mem_cons_of_mem _ hx)).1
    exact own_blk ho fun k e => hk k (World.ownsRow.lt ho k e).2 (t.far x (List.mem_cons_of_mem _ hx) k e).1
  · rcases hn k e2 with e3 | e3 | e3
    · exact (t.far x (List.mem_cons_of_mem _ hx) k e).1 e3
    · exact (List.pairwise_cons.1 t.ap).1 x hx k e3 e
    · have := (World.ownsRow.lt (t.own x (List.mem_cons_of_mem _ hx)).1 k e).2; omega
/-- What comes next may be added. -/
theorem OI.addC {a : Option Addr} {n c : Nat} {l : List Int} (t : OI W w most gs gr bg m pv1 hv1 pv2 hv2 p h bv vs len C ((.slice a n c, l) :: pd)) (hm : m < 400) :
    Calls Tryd.prog 25 #[.pointer (some ⟨bg, 0, none⟩), .slice a n c] w (AddGPost w W.heap.size bg m bv vs len C (.slice a n c) l) :=
  addG t.gi t.two.bs hm (t.own _ (List.mem_cons_self ..)).1 (fun k e => (t.far _ (List.mem_cons_self ..) k e).1) (t.own _ (List.mem_cons_self ..)).2
theorem OI.apart (t : OI W w most gs gr bg m pv1 hv1 pv2 hv2 p h bv vs len C []) (hm : m ≤ 400) :
    Calls Tryd.prog 26 #[.pointer (some ⟨bg, 0, none⟩)] w fun e w' => e = .returned (.bool true) ∧ Two w' W.heap.size most (some ⟨gs, pv1, hv1⟩) (some ⟨gr, pv2, hv2⟩) p h ∧ Below W.heap.size W w' :=
  (apartG (F2 (some ⟨gs, pv1, hv1⟩) (some ⟨gr, pv2, hv2⟩)) t.gi t.two.bs hm t.two.lt t.dj).mono fun _ _ ⟨e, f⟩ => ⟨e, t.two.keep f.kept f.size, f.bel _ _ t.bel (Nat.le_refl _)⟩
abbrev bagZ : Obj := .cells #[.slice none 0 0, .slice none 0 0, .slice none 0 0, .slice none 0 0, .slice none 0 0, .slice none 0 0, .slice none 0 0, .slice none 0 0, .slice none 0 0, .slice none 0 0, .slice none 0 0, .slice none 0 0, .slice none 0 0, .slice none 0 0, .slice none 0 0, .slice none 0 0, .slice none 0 0, .slice none 0 0, .slice none 0 0] 69
theorem OI.start {w : World} (hB : Below W.heap.size W w) (t : Two w W.heap.size most (some ⟨gs, pv1, hv1⟩) (some ⟨gr, pv2, hv2⟩) p h) :
    OI W (w.alloc bagZ) most gs gr w.heap.size 0 pv1 hv1 pv2 hv2 p h (.slice none 0 0) (fun _ => undef) (fun _ => 0) (fun _ => []) [] := by
  have hb := (Below.refl w.heap.size w).alloc (Nat.le_refl _) bagZ
  have g : GI (w.alloc bagZ) W.heap.size w.heap.size 0 (.slice none 0 0) (fun _ => undef) (fun _ => 0) (fun _ => []) := GI.new w W.heap.size t.bs _ _ _
  refine ⟨t.below hb, g, fun k e e2 => ?_, hB.trans (hb.mono t.bs), fun x hx => (by cases hx), fun x hx => (by cases hx), List.Pairwise.nil⟩
  rcases e with e | e | ⟨j, hj, -⟩
  · have := t.lt k e2; omega
  · simp [Value.ownBlock] at e
  · omega
theorem OI.patC (t : OI W w most gs gr bg m pv1 hv1 pv2 hv2 p h bv vs len C pd) : Calls Tryd.prog 69 #[.pointer (some ⟨gs, 0, none⟩)] w (TwinPost w p) := patternO w W.heap.size most (some ⟨gs, pv1, hv1⟩) p h t.two.s
theorem OI.holdC (t : OI W w most gs gr bg m pv1 hv1 pv2 hv2 p h bv vs len C pd) : Calls Tryd.prog 70 #[.pointer (some ⟨gs, 0, none⟩)] w (TwinPost w h) := holdO w W.heap.size most (some ⟨gs, pv1, hv1⟩) p h t.two.s
def FirstS (w : World) (p : List Int) (e : Ending) (w' : World) : Prop := ∃ v, e = .returned (.tuple #[v, .bool (foundL p)]) ∧ OwnB w' w.heap.size v (firstL p) ∧ Below w.heap.size w w'
theorem OI.firstC (t : OI W w most gs gr bg m pv1 hv1 pv2 hv2 p h bv vs len C pd) : Calls Tryd.prog 71 #[.pointer (some ⟨gs, 0, none⟩)] w (FirstS w p) := firstO w W.heap.size most (some ⟨gs, pv1, hv1⟩) p h t.two.s
theorem OI.rfirstC (t : OI W w most gs gr bg m pv1 hv1 pv2 hv2 p h bv vs len C pd) : Calls Tryd.prog 72 #[.pointer (some ⟨gr, 0, none⟩)] w (FirstS w p) := rfirstO w W.heap.size most (some ⟨gr, pv2, hv2⟩) p h t.two.r
theorem OI.rp (t : OI W w most gs gr bg m pv1 hv1 pv2 hv2 p h bv vs len C pd) : Rp w gr W.heap.size most pv2 hv2 p h := t.two.r
theorem OI.okF (t : OI W w most gs gr bg m pv1 hv1 pv2 hv2 p h bv vs len C pd) : IsB (firstL p) ∧ (firstL p).length ≤ 140737488351232 := first_ok t.two.s
theorem OI.doesC (t : OI W w most gs gr bg m pv1 hv1 pv2 hv2 p h bv vs len C pd) (k on d : Int) (a : Option Addr) (n c : Nat) (b : List Int) (sb : SB W (.slice a n c) b) (hN : a = none → c = 0) (hn : n ≤ 2147483647) :
    Calls Tryd.prog 68 #[.pointer (some ⟨gs, 0, none⟩), .pointer (some ⟨gr, 0, none⟩), .agg #[.int .i64 k, .int .i64 on, .int .u8 d, .slice a n c]] w (DoesPost w W.heap.size most (some ⟨gs, pv1, hv1⟩) (some ⟨gr, pv2, hv2⟩)) :=
  does_any w W most (some ⟨gs, pv1, hv1⟩) (some ⟨gr, pv2, hv2⟩) p h k on d a n c b t.two t.bel sb hN hn
end
/-- The two spaces at the end. -/
structure TB (W w : World) (most : Int) (gs gr : Nat) (A B C D : Value) (p h : List Int) : Prop where
  t : Two w W.heap.size most (some ⟨gs, A, B⟩) (some ⟨gr, C, D⟩) p h
  bel : Below W.heap.size W w
section
variable {W w w' : World} {most : Int} {gs gr : Nat} {A B C D : Value} {p h : List Int}
theorem TB.below (x : TB W w most gs gr A B C D p h) (hb : Below w.heap.size w w') : TB W w' most gs gr A B C D p h := ⟨x.t.below hb, x.bel.trans (hb.mono x.t.bs)⟩
theorem TB.rp (x : TB W w most gs gr A B C D p h) : Rp w gr W.heap.size most C D p h := x.t.r
theorem TB.patC (x : TB W w most gs gr A B C D p h) : Calls Tryd.prog 69 #[.pointer (some ⟨gs, 0, none⟩)] w (TwinPost w p) := patternO w _ most (some ⟨gs, A, B⟩) p h x.t.s
theorem TB.holdC (x : TB W w most gs gr A B C D p h) : Calls Tryd.prog 70 #[.pointer (some ⟨gs, 0, none⟩)] w (TwinPost w h) := holdO w _ most (some ⟨gs, A, B⟩) p h x.t.s
end
end Go.Proofs.YtakimaceohfpcaaDoor
