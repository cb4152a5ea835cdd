/-
  A bag, kind by kind: the lists of one kind, beside what stands at the other heads.
-/
import Derived.Test.YtgepjjpcokbpjaaDoorBagI
import Derived.Test.YtgepjjpcokbpjaaDoorBag2
namespace Go.Proofs.YtgepjjpcokbpjaaDoor
open Go.RowKit

/-- Of the kind at head c, m lists lie in the bag. -/
structure Kd (w : World) (base c : Nat) (LT ET : TypeId) (sz lm m : Nat) (fs : List Value) (bv : Value) (vs : Nat → Value) (len : Nat → Nat) (C : Nat → List Value) : Prop where
  hd : fs[c]? = some bv
  own : w.ownsRow base LT 1 bv m (firstN vs m)
  b : Bags w base ET sz m vs len C
  lim : ∀ k, k < m → len k ≤ lm
/-- What Add of one list leaves. -/
structure AddedK (c : Nat) (LT : TypeId) (w w' : World) (base bg n : Nat) (fs : List Value) (bv bv' : Value) (us : List Value) (u : Value) : Prop where
  bag : BagAt w' bg (fs.set c bv')
  own : w'.ownsRow base LT 1 bv' (n + 1) (us ++ [u])
  keep : ∀ T, T ≠ LT → T ≠ 55 → KeepT T w w'
  blk : ∀ k, k < w.heap.size → k ≠ bg → bv.ownBlock ≠ some k → w'.heap[k]? = w.heap[k]?
  new : ∀ k, bv'.ownBlock = some k → bv.ownBlock = some k ∨ w.heap.size ≤ k
  bel : ∀ B w0, Below B w0 w → B ≤ base → B ≤ bg → Below B w0 w'
  size : w.heap.size ≤ w'.heap.size
def AddedKPost (c : Nat) (LT : TypeId) (w : World) (base bg n : Nat) (fs : List Value) (bv : Value) (us : List Value) (u : Value) (e : Ending) (w' : World) : Prop := e = .returned undef ∧ ∃ bv', AddedK c LT w w' base bg n fs bv bv' us u
section
variable {w w' : World} {base bg c n sz lm m : Nat} {LT ET : TypeId} {fs : List Value} {bv bv' u : Value} {vs : Nat → Value} {len : Nat → Nat} {C : Nat → List Value} {us : List Value}
theorem AddedK.of_app (hbag : BagAt w bg fs) (hne : LT ≠ 55) {w1 : World} (hown : w.ownsRow base LT 1 bv n us) (hov : w1.ownsRow base LT 1 bv' (n + 1) (us ++ [u])) (hp : AppPost w w1 base bv bv') :
    AddedK c LT w (w1.setCell ⟨bg, c, none⟩ bv') base bg n fs bv bv' us u := by
  have hB1 := hbag.keepT (KeepT.of_app hown hp hne)
  exact ⟨hB1.set c _, (keepT_bag hB1 hne _).own hov, fun T hT hG => (KeepT.of_app hown hp hT.symm).trans (keepT_bag hB1 hG _),
    fun k h1 h2 h3 => (heap_setCell_other w1 ⟨bg, c, none⟩ k _ h2).trans (hp.block k h1 h3), hp.new, fun B w0 h0 h1 h2 => (hp.bel B w0 h0 h1).setCell (by show B ≤ bg; exact h2) _, by have := hp.size; simpa using this⟩
theorem Kd.keepT (h : Kd w base c LT ET sz lm m fs bv vs len C) (h1 : KeepT LT w w') (h2 : KeepT ET w w') : Kd w' base c LT ET sz lm m fs bv vs len C :=
  { h with own := h1.own h.own, b := h.b.keepT h2 }
theorem Kd.below (h : Kd w base c LT ET sz lm m fs bv vs len C) (hb : Below w.heap.size w w') : Kd w' base c LT ET sz lm m fs bv vs len C := h.keepT (KeepT.of_below hb) (KeepT.of_below hb)
theorem Kd.none (w : World) (base c : Nat) (LT ET : TypeId) (sz lm : Nat) (fs : List Value) (hd : fs[c]? = some (.slice none 0 0)) (vs : Nat → Value) (len : Nat → Nat) (C : Nat → List Value) : Kd w base c LT ET sz lm 0 fs (.slice none 0 0) vs len C :=
  ⟨hd, World.ownsRow_nil _ _ _ _, ⟨fun _ h => absurd h (Nat.not_lt_zero _), fun _ _ h => absurd h (Nat.not_lt_zero _)⟩, fun _ h => absurd h (Nat.not_lt_zero _)⟩
theorem bags_snoc (hb : Bags w base ET sz m vs len C) {v : Value} {n : Nat} {xs : List Value} (hv : w.ownsRow base ET sz v n xs) (hap : ∀ j, j < m → Apart (vs j) v) : Bags w base ET sz (m + 1) (snoc vs m v) (snoc len m n) (snoc C m xs) := by
  refine ⟨fun k hk => ?_, fun j k hj hk hne => ?_⟩
  · by_cases e : k = m
    · subst e; simp only [snoc_same]; exact hv
    · have hk' : k < m := by omega
      simp only [snoc_lt _ _ hk']; exact hb.own k hk'
  · by_cases e : j = m
    · subst e
      have hk' : k < j := by omega
      rw [snoc_same, snoc_lt _ _ hk']
      exact fun x h1 h2 => hap k hk' x h2 h1
    · have hj' : j < m := by omega
      rw [snoc_lt _ _ hj']
      by_cases e2 : k = m
      · subst e2; rw [snoc_same]; exact hap j hj'
      · have hk' : k < m := by omega
        rw [snoc_lt _ _ hk']
        exact hb.ap j k hj' hk' hne
/-- One more list lies in the bag. -/
theorem Kd.add (h : Kd w base c LT ET sz lm m fs bv vs len C) (hA : AddedK c LT w w' base bg m fs bv bv' (firstN vs m) u) (hc : c < fs.length) (hne : ET ≠ LT) (hneG : ET ≠ 55) {n : Nat} {xs : List Value} (hv : w.ownsRow base ET sz u n xs) (hn : n ≤ lm) (hap : ∀ j, j < m → Apart (vs j) u) :
    Kd w' base c LT ET sz lm (m + 1) (fs.set c bv') bv' (snoc vs m u) (snoc len m n) (snoc C m xs) := by
  have hk := hA.keep ET hne hneG
  have ho := hA.own
  rw [firstN_snoc] at ho
  refine ⟨by simp [hc], ho, bags_snoc (h.b.keepT hk) (hk.own hv) hap, fun k hk => ?_⟩
  by_cases e : k = m
  · subst e; rw [snoc_same]; exact hn
  · have hk' : k < m := by omega
    rw [snoc_lt _ _ hk']; exact h.lim k hk'
/-- A list of another kind lies in the bag. -/
theorem Kd.other (h : Kd w base c LT ET sz lm m fs bv vs len C) {c2 : Nat} {LT2 : TypeId} {n : Nat} {bv2 bv2' u2 : Value} {us2 : List Value} (hA : AddedK c2 LT2 w w' base bg n fs bv2 bv2' us2 u2) (hcc : c2 ≠ c) (h1 : LT ≠ LT2) (h2 : LT ≠ 55) (h3 : ET ≠ LT2) (h4 : ET ≠ 55) :
    Kd w' base c LT ET sz lm m (fs.set c2 bv2') bv vs len C :=
  ⟨by rw [List.getElem?_set_ne hcc]; exact h.hd, (hA.keep LT h1 h2).own h.own, h.b.keepT (hA.keep ET h3 h4), h.lim⟩
end
/-- The heads of a bag into which nothing was gathered. -/
def heads0 : List Value := List.replicate 19 (.slice none 0 0)
theorem heads0_at (i : Nat) (h : i < 19) : heads0[i]? = some (.slice none 0 0) := by unfold heads0; rw [List.getElem?_replicate, if_pos h]
theorem heads0_len : heads0.length = 19 := by simp [heads0]
theorem BagAt.new0 (w : World) : BagAt (w.alloc (.cells #[.slice none 0 0, .slice none 0 0, .slice none 0 0, .slice none 0 0, .slice none 0 0, .slice none 0 0, .slice none 0 0, .slice none 0 0, .slice none 0 0, .slice none 0 0, .slice none 0 0, .slice none 0 0, .slice none 0 0, .slice none 0 0, .slice none 0 0, .slice none 0 0, .slice none 0 0, .slice none 0 0, .slice none 0 0] 55)) w.heap.size heads0 := heap_alloc_new w _
end Go.Proofs.YtgepjjpcokbpjaaDoor
