/-
  A bag into which lists of bytes are gathered, one after another, while other blocks live.
-/
import Derived.Test.YtgepjjpcokbpjaaDoorBag4
import Derived.Test.YtgepjjpcokbpjaaDoorUp
namespace Go.Proofs.YtgepjjpcokbpjaaDoor
open Go.RowKit

def snoc {α : Type} (f : Nat → α) (m : Nat) (v : α) (k : Nat) : α := if k = m then v else f k
theorem snoc_same {α : Type} (f : Nat → α) (m : Nat) (v : α) : snoc f m v m = v := by simp [snoc]
theorem snoc_lt {α : Type} (f : Nat → α) {m k : Nat} (v : α) (h : k < m) : snoc f m v k = f k := by simp [snoc, Nat.ne_of_lt h]

/-- m lists of bytes lie in the bag. -/
structure GI (w : World) (base bg m : Nat) (bv : Value) (vs : Nat → Value) (len : Nat → Nat) (C : Nat → List Value) : Prop where
  bag : BagAt w bg (bv :: noneB)
  own : w.ownsRow base 61 1 bv m (firstN vs m)
  b : Bags w base 5 1 m vs len C
  lim : ∀ k, k < m → len k ≤ 140737488351232
  lo : base ≤ bg
/-- The blocks of a bag and of its lists. -/
def GF (bg m : Nat) (bv : Value) (vs : Nat → Value) (k : Nat) : Prop := k = bg ∨ bv.ownBlock = some k ∨ ∃ j, j < m ∧ (vs j).ownBlock = some k
section
variable {w w' : World} {base bg m : Nat} {bv v : Value} {vs : Nat → Value} {len : Nat → Nat} {C : Nat → List Value} {l : List Int}
theorem GI.lt (g : GI w base bg m bv vs len C) : ∀ k, GF bg m bv vs k → k < w.heap.size := fun k hk => by
  rcases hk with rfl | e | ⟨j, hj, e⟩
  · exact g.bag.lt
  · exact (World.ownsRow.lt g.own k e).2
  · exact (World.ownsRow.lt (g.b.own j hj) k e).2
theorem GI.keep (g : GI w base bg m bv vs len C) (hk : ∀ k, GF bg m bv vs k → w'.heap[k]? = w.heap[k]?) : GI w' base bg m bv vs len C :=
  { g with
    bag := (hk bg (.inl rfl)).trans g.bag
    own := own_blk g.own fun k e => hk k (.inr (.inl e))
    b := ⟨fun j hj => own_blk (g.b.own j hj) fun k e => hk k (.inr (.inr ⟨j, hj, e⟩)), g.b.ap⟩ }
theorem GI.below (g : GI w base bg m bv vs len C) (hb : Below w.heap.size w w') : GI w' base bg m bv vs len C := g.keep fun k hk => hb.block k (g.lt k hk)
theorem GI.new (w : World) (base : Nat) (hb : base ≤ w.heap.size) (vs : Nat → Value) (len : Nat → Nat) (C : Nat → List Value) : GI (w.alloc (.cells (Value.slice none 0 0 :: noneB).toArray 55)) base w.heap.size 0 (.slice none 0 0) vs len C :=
  ⟨BagAt.new w, World.ownsRow_nil _ _ _ _, ⟨fun _ h => absurd h (Nat.not_lt_zero _), fun _ _ _ h => absurd h (Nat.not_lt_zero _)⟩, fun _ h => absurd h (Nat.not_lt_zero _), hb⟩

/-- What AddBytes leaves, with the bag's lists in view. -/
def AddGPost (w : World) (base bg m : Nat) (bv : Value) (vs : Nat → Value) (len : Nat → Nat) (C : Nat → List Value) (v : Value) (l : List Int) (e : Ending) (w' : World) : Prop :=
  e = .returned undef ∧ ∃ bv', GI w' base bg (m + 1) bv' (snoc vs m v) (snoc len m l.length) (snoc C m (l.map (Value.int .u8))) ∧
    (∀ k, k < w.heap.size → ¬ GF bg m bv vs k → w'.heap[k]? = w.heap[k]?) ∧ (∀ k, GF bg (m + 1) bv' (snoc vs m v) k → GF bg m bv vs k ∨ v.ownBlock = some k ∨ w.heap.size ≤ k) ∧
    (∀ B w0, Below B w0 w → B ≤ base → Below B w0 w') ∧ w.heap.size ≤ w'.heap.size
theorem addG (g : GI w base bg m bv vs len C) (hs : base ≤ w.heap.size) (hm : m < 400) {ua : Option Addr} {un uc : Nat} (hv : OwnB w base (.slice ua un uc) l) (hf : ∀ k, (Value.slice ua un uc).ownBlock = some k → ¬ GF bg m bv vs k) (hl : l.length ≤ 140737488351232) :
    Calls Tryd.prog 25 #[.pointer (some ⟨bg, 0, none⟩), .slice ua un uc] w (AddGPost w base bg m bv vs len C (.slice ua un uc) l) := by
  refine (addBytes_any w base bg bv (firstN vs m) noneB ua un uc g.bag (by rw [firstN_len]; exact g.own) (by rw [firstN_len]; exact hm) hs).mono ?_
  rintro e w' ⟨rfl, bv', h⟩
  have ho := h.own
  rw [firstN_len, firstN_snoc] at ho
  have hv' : OwnB w' base (.slice ua un uc) l := h.keep.own hv
  have hb := g.b.keepT h.keep
  refine ⟨rfl, bv', ⟨h.bag, ho, ⟨fun k hk => ?_, fun j k hj hk hne => ?_⟩, fun k hk => ?_, g.lo⟩, fun k hk hn => h.blk k hk (fun e => hn (.inl e)) (fun e => hn (.inr (.inl e))), fun k hk => ?_, fun B w0 h0 hB => h.bel B w0 h0 hB (Nat.le_trans hB g.lo), h.size⟩
  · by_cases e : k = m
    · subst e; simp only [snoc_same]; exact hv'
    · have hk' : k < m := by omega
      simp only [snoc_lt _ _ hk']; exact hb.own k hk'
  · by_cases e : j = m
    · subst e
      have hk' : k < j := by omega
      rw [snoc_same, snoc_lt _ _ hk']
      exact fun x h1 h2 => hf x h1 (.inr (.inr ⟨k, hk', h2⟩))
    · have hj' : j < m := by omega
      rw [snoc_lt _ _ hj']
      by_cases e2 : k = m
      · subst e2
        rw [snoc_same]
        exact fun x h1 h2 => hf x h2 (.inr (.inr ⟨j, hj', h1⟩))
      · have hk' : k < m := by omega
        rw [snoc_lt _ _ hk']
        exact hb.ap j k hj' hk' hne
  · by_cases e : k = m
    · subst e; rw [snoc_same]; exact hl
    · have hk' : k < m := by omega
      rw [snoc_lt _ _ hk']; exact g.lim k hk'
  · rcases hk with e | e | ⟨j, hj, e⟩
    · exact .inl (.inl e)
    · rcases h.new k e with e | e
      · exact .inl (.inr (.inl e))
      · exact .inr (.inr e)
    · by_cases e2 : j = m
      · subst e2; rw [snoc_same] at e; exact .inr (.inl e)
      · have hj' : j < m := by omega
        rw [snoc_lt _ _ hj'] at e; exact .inl (.inr (.inr ⟨j, hj', e⟩))
theorem apartG (T : Nat → Prop) (g : GI w base bg m bv vs len C) (hs : base ≤ w.heap.size) (hm : m ≤ 400) (hT : ∀ k, T k → k < w.heap.size) (hd : ∀ k, GF bg m bv vs k → ¬ T k) :
    Calls Tryd.prog 16 #[.pointer (some ⟨bg, 0, none⟩)] w fun e w' => e = .returned (.bool true) ∧ FrT w w' base bg T :=
  apart_T T w base bg m bv vs len C g.bag g.own hm g.b g.lim hs hT fun j hj k hk e => hd k (.inr (.inr ⟨j, hj, e⟩)) hk
end
end Go.Proofs.YtgepjjpcokbpjaaDoor
