/-
  A bag, and lists of bytes of the call's own that wait for it.
-/
import Derived.Test.YtgepjjpcokbpjaaDoorBagI
namespace Go.Proofs.YtgepjjpcokbpjaaDoor
open Go.RowKit

abbrev bagZero : Obj := .cells #[.slice none 0 0, .slice none 0 0, .slice none 0 0, .slice none 0 0, .slice none 0 0, .slice none 0 0, .slice none 0 0, .slice none 0 0, .slice none 0 0, .slice none 0 0, .slice none 0 0, .slice none 0 0, .slice none 0 0, .slice none 0 0, .slice none 0 0, .slice none 0 0, .slice none 0 0, .slice none 0 0, .slice none 0 0] 55
/-- m lists lie in the bag; those of pd wait for it. -/
structure GP (W w : World) (bg m : Nat) (bv : Value) (vs : Nat → Value) (len : Nat → Nat) (C : Nat → List Value) (pd : List (Value × List Int)) : Prop where
  gi : GI w W.heap.size bg m bv vs len C
  bel : Below W.heap.size W w
  own : ∀ x ∈ pd, OwnB w W.heap.size x.1 x.2 ∧ x.2.length ≤ 140737488351232
  far : ∀ x ∈ pd, ∀ k, x.1.ownBlock = some k → ¬ GF bg m bv vs k
  ap : pd.Pairwise fun x y => Apart x.1 y.1
section
variable {W w w' : World} {bg m : Nat} {bv : Value} {vs : Nat → Value} {len : Nat → Nat} {C : Nat → List Value} {pd : List (Value × List Int)}
theorem GP.below (t : GP W w bg m bv vs len C pd) (hb : Below w.heap.size w w') : GP W w' bg m bv vs len C pd :=
  { t with gi := t.gi.below hb, bel := t.bel.trans (hb.mono t.bel.size), own := fun x hx => ⟨(t.own x hx).1.below hb, (t.own x hx).2⟩ }
theorem GP.start {w : World} (hB : Below W.heap.size W w) (own : ∀ x ∈ pd, OwnB w W.heap.size x.1 x.2 ∧ x.2.length ≤ 140737488351232) (ap : pd.Pairwise fun x y => Apart x.1 y.1) :
    GP W (w.alloc bagZero) w.heap.size 0 (.slice none 0 0) (fun _ => undef) (fun _ => 0) (fun _ => []) pd := by
  have hb := (Below.refl w.heap.size w).alloc (Nat.le_refl _) bagZero
  have g : GI (w.alloc bagZero) W.heap.size w.heap.size 0 (.slice none 0 0) (fun _ => undef) (fun _ => 0) (fun _ => []) := GI.new w W.heap.size hB.size _ _ _
  refine ⟨g, hB.trans (hb.mono hB.size), fun x hx => ⟨(own x hx).1.below hb, (own x hx).2⟩, fun x hx k hk e => ?_, ap⟩
  have := (World.ownsRow.lt (own x hx).1 k hk).2
  rcases e with e | e | ⟨j, hj, -⟩
  · omega
  · simp [Value.ownBlock] at e
  · omega
theorem GP.twin (t : GP W w bg m bv vs len C pd) {v : Value} {l : List Int} (ho : OwnB w' w.heap.size v l) (hb : Below w.heap.size w w') (hl : l.length ≤ 140737488351232) : GP W w' bg m bv vs len C (pd ++ [(v, l)]) := by
  have tb := t.below hb
  have hv : ∀ k, v.ownBlock = some k → w.heap.size ≤ k := ho.from (Nat.le_refl _)
  refine { tb with own := fun x hx => ?_, far := fun x hx k hk => ?_, ap := ?_ }
  · rcases List.mem_append.1 hx with e | e
    · exact tb.own x e
    · obtain rfl := List.mem_singleton.1 e
      exact ⟨ho.mono t.bel.size, hl⟩
  · rcases List.mem_append.1 hx with e | e
    · exact tb.far x e k hk
    · obtain rfl := List.mem_singleton.1 e
      have := hv k hk
      exact fun e => by have := t.gi.lt k e; omega
  · refine List.pairwise_append.2 ⟨t.ap, List.pairwise_singleton _ _, fun x hx y hy => ?_⟩
    obtain rfl := List.mem_singleton.1 hy
    intro k h1 h2
    have h3 := (World.ownsRow.lt (t.own x hx).1 k h1).2
    have h4 := hv k h2
    omega
theorem GP.add {v : Value} {l : List Int} (t : GP W w bg m bv vs len C ((v, l) :: pd)) {e : Ending} (hP : AddGPost w W.heap.size bg m bv vs len C v l e w') :
    e = .returned undef ∧ ∃ bv' vs' len' C', GP W w' bg (m + 1) bv' vs' len' C' pd := by
  obtain ⟨he, bv', g, hk, hn, hbel, hsz⟩ := hP
  refine ⟨he, bv', _, _, _, g, hbel _ _ t.bel (Nat.le_refl _), fun x hx => ⟨?_, (t.own x (List.mem_cons_of_mem _ hx)).2⟩, fun x hx k e e2 => ?_, (List.pairwise_cons.1 t.ap).2⟩
  · have ho := (t.own x (List.mem_cons_of_mem _ hx)).1
    exact own_blk ho fun k e => hk k (World.ownsRow.lt ho k e).2 (t.far x (List.mem_cons_of_mem _ hx) k e)
  · rcases hn k e2 with e3 | e3 | e3
    · exact t.far x (List.mem_cons_of_mem _ hx) k e e3
    · exact (List.pairwise_cons.1 t.ap).1 x hx k e3 e
    · have := (World.ownsRow.lt (t.own x (List.mem_cons_of_mem _ hx)).1 k e).2; omega
theorem GP.addC {a : Option Addr} {n c : Nat} {l : List Int} (t : GP W w bg m bv vs len C ((.slice a n c, l) :: pd)) (hm : m < 400) :
    Calls Tryd.prog 25 #[.pointer (some ⟨bg, 0, none⟩), .slice a n c] w (AddGPost w W.heap.size bg m bv vs len C (.slice a n c) l) :=
  addG t.gi t.bel.size hm (t.own _ (List.mem_cons_self ..)).1 (fun k e => t.far _ (List.mem_cons_self ..) k e) (t.own _ (List.mem_cons_self ..)).2
theorem GP.apart (t : GP W w bg m bv vs len C pd) (hm : m ≤ 400) :
    Calls Tryd.prog 16 #[.pointer (some ⟨bg, 0, none⟩)] w fun e w' => e = .returned (.bool true) ∧ Below W.heap.size W w' :=
  (apartG (fun _ => False) t.gi t.bel.size hm (fun _ h => h.elim) (fun _ _ h => h)).mono fun _ _ ⟨e, f⟩ => ⟨e, f.bel _ _ t.bel (Nat.le_refl _)⟩
end
end Go.Proofs.YtgepjjpcokbpjaaDoor
