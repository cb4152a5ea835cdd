/-
  Several lists of bytes of the call's own, apart from one another.
-/
import Derived.Test.YtakimaceohfpcaaDoorBagP
import Derived.Test.YtakimaceohfpcaaDoorEq
namespace Go.Proofs.YtakimaceohfpcaaDoor
open Go.RowKit

structure OF (w : World) (base n : Nat) (vs : Nat → Value) (ls : Nat → List Int) : Prop where
  own : ∀ j, j < n → OwnB w base (vs j) (ls j)
  ok : ∀ j, j < n → IsB (ls j) ∧ (ls j).length ≤ 140737488351232
  ap : ∀ i j, i < n → j < n → i ≠ j → Apart (vs i) (vs j)
/-- list j with x at its place i -/
def setF (ls : Nat → List Int) (j i : Nat) (x : Int) (k : Nat) : List Int := if k = j then (ls j).set i x else ls k
section
variable {w w' : World} {base n : Nat} {vs : Nat → Value} {ls : Nat → List Int} {v : Value} {l : List Int}
theorem OF.nil (w : World) (base : Nat) (vs : Nat → Value) (ls : Nat → List Int) : OF w base 0 vs ls := ⟨fun _ h => absurd h (Nat.not_lt_zero _), fun _ h => absurd h (Nat.not_lt_zero _), fun _ _ h => absurd h (Nat.not_lt_zero _)⟩
theorem OF.lt (h : OF w base n vs ls) {j : Nat} (hj : j < n) : ∀ k, (vs j).ownBlock = some k → base ≤ k ∧ k < w.heap.size := World.ownsRow.lt (h.own j hj)
theorem OF.keep (h : OF w base n vs ls) (hk : ∀ k j, j < n → (vs j).ownBlock = some k → w'.heap[k]? = w.heap[k]?) : OF w' base n vs ls :=
  { h with own := fun j hj => own_blk (h.own j hj) fun k e => hk k j hj e }
theorem OF.below (h : OF w base n vs ls) (hb : Below w.heap.size w w') : OF w' base n vs ls := h.keep fun k _ hj e => hb.block k (h.lt hj k e).2
theorem OF.lower (h : OF w base n vs ls) {b2 : Nat} (hb : b2 ≤ base) : OF w b2 n vs ls := { h with own := fun j hj => (h.own j hj).mono hb }
theorem OF.sb (h : OF w base n vs ls) (j : Nat) (hj : j < n) : SB w (vs j) (ls j) := (h.own j hj).sb (h.ok j hj).1 (h.ok j hj).2
theorem OF.push (h : OF w base n vs ls) (ho : OwnB w base v l) (hok : IsB l ∧ l.length ≤ 140737488351232) (hap : ∀ j, j < n → Apart (vs j) v) : OF w base (n + 1) (snoc vs n v) (snoc ls n l) := by
  refine ⟨fun j hj => ?_, fun j hj => ?_, fun i j hi hj hne => ?_⟩
  · by_cases e : j = n
    · subst e; rw [snoc_same, snoc_same]; exact ho
    · have h1 : j < n := by omega
      rw [snoc_lt _ _ h1, snoc_lt _ _ h1]; exact h.own j h1
  · by_cases e : j = n
    · subst e; rw [snoc_same]; exact hok
    · have h1 : j < n := by omega
      rw [snoc_lt _ _ h1]; exact h.ok j h1
  · by_cases e : i = n
    · subst e
      have h1 : j < i := by omega
      rw [snoc_same, snoc_lt _ _ h1]; exact fun k a b => hap j h1 k b a
    · have h1 : i < n := by omega
      rw [snoc_lt _ _ h1]
      by_cases e : j = n
      · subst e; rw [snoc_same]; exact hap i h1
      · have h2 : j < n := by omega
        rw [snoc_lt _ _ h2]; exact h.ap i j h1 h2 hne
theorem OF.fresh (h : OF w base n vs ls) (hs : base ≤ w.heap.size) (ho : OwnB w' w.heap.size v l) (hb : Below w.heap.size w w') (hok : IsB l ∧ l.length ≤ 140737488351232) : OF w' base (n + 1) (snoc vs n v) (snoc ls n l) :=
  (h.below hb).push (ho.mono hs) hok fun j hj k e1 e2 => by
    have := (h.lt hj k e1).2
    have := (World.ownsRow.lt ho k e2).1
    omega
theorem OF.other (h : OF w base n vs ls) {g : Nat} (hg : ∀ j, j < n → (vs j).ownBlock ≠ some g) (i : Nat) (u : Value) : OF (w.setCell ⟨g, i, none⟩ u) base n vs ls :=
  { h with own := fun j hj => (h.own j hj).far_store (hg j hj) u }
theorem OF.store (h : OF w base n vs ls) (j : Nat) (hj : j < n) {g len cap : Nat} (hv : vs j = .slice (some ⟨g, 0, none⟩) len cap) (i : Nat) (x : Int) (h0 : 0 ≤ x) (h1 : x ≤ 255) : OF (w.setCell ⟨g, i, none⟩ (.int .u8 x)) base n vs (setF ls j i x) := by
  refine ⟨fun k hk => ?_, fun k hk => ?_, h.ap⟩
  · unfold setF
    by_cases e : k = j
    · subst e
      rw [if_pos rfl]
      have := h.own k hj
      rw [hv] at this ⊢
      exact this.store i x
    · rw [if_neg e]
      exact (h.own k hk).far_store (fun e2 => h.ap k j hk hj e g e2 (by rw [hv]; rfl)) _
  · unfold setF
    by_cases e : k = j
    · subst e
      rw [if_pos rfl, List.length_set]
      exact ⟨isB_set (h.ok k hj).1 i x h0 h1, (h.ok k hj).2⟩
    · rw [if_neg e]; exact h.ok k hk
theorem OF.gp {W : World} (h : OF w W.heap.size n vs ls) (hB : Below W.heap.size W w) (idx : List Nat) (hlt : ∀ j ∈ idx, j < n) (hnd : idx.Nodup) : GP W (w.alloc bagZero) w.heap.size 0 (.slice none 0 0) (fun _ => undef) (fun _ => 0) (fun _ => []) (idx.map fun j => (vs j, ls j)) := by
  refine GP.start hB (fun x hx => ?_) ?_
  · obtain ⟨j, hj, rfl⟩ := List.mem_map.1 hx
    exact ⟨h.own j (hlt j hj), (h.ok j (hlt j hj)).2⟩
  · refine List.pairwise_map.2 ?_
    refine List.Pairwise.imp_of_mem (fun {a b} ha hb hne => ?_) hnd
    exact h.ap a b (hlt a ha) (hlt b hb) hne
theorem OF.two (h : OF w base n vs ls) (hs : base ≤ w.heap.size) {v2 : Value} {l2 : List Int} (ho : OwnB w' w.heap.size v l) (ho2 : OwnB w' w.heap.size v2 l2) (hap : Apart v v2) (hb : Below w.heap.size w w') (hok : IsB l ∧ l.length ≤ 140737488351232) (hok2 : IsB l2 ∧ l2.length ≤ 140737488351232) :
    OF w' base (n + 1 + 1) (snoc (snoc vs n v) (n + 1) v2) (snoc (snoc ls n l) (n + 1) l2) :=
  (h.fresh hs ho hb hok).push (ho2.mono hs) hok2 fun j hj k e1 e2 => by
    by_cases e : j = n
    · subst e; rw [snoc_same] at e1; exact hap k e1 e2
    · have h1 : j < n := by omega
      rw [snoc_lt _ _ h1] at e1
      have := (h.lt h1 k e1).2
      have := (World.ownsRow.lt ho2 k e2).1
      omega
end
theorem eqBytes_same (w : World) (va vb : Value) (a : List Int) (ha : SB w va a) (hb : SB w vb a) : Calls Tryd.prog 35 #[va, vb] w fun e w' => e = .returned (.bool true) ∧ ∃ n, w' = w.drewN n :=
  (eqBytes_any w va vb a a ha hb).mono fun _ _ ⟨e, r⟩ => ⟨by rw [e]; simp, r⟩
end Go.Proofs.YtakimaceohfpcaaDoor
