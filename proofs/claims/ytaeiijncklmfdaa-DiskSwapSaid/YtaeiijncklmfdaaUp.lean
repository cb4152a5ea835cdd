/-
  Objects in blocks of their own: what a call at one of them leaves of the others.
-/
import Derived.Test.YtaeiijncklmfdaaBytes
namespace Go.Proofs.Ytaeiijncklmfdaa
open Go.RowKit

/-- A call at what lies in the blocks F, which lies in the blocks F' behind it. -/
structure Up (w w' : World) (base : Nat) (F F' : Nat → Prop) : Prop where
  keep : ∀ k, k < w.heap.size → ¬ F k → w'.heap[k]? = w.heap[k]?
  new : ∀ k, F' k → F k ∨ w.heap.size ≤ k
  bel : ∀ B w0, Below B w0 w → B ≤ base → Below B w0 w'
  size : w.heap.size ≤ w'.heap.size
section
variable {w w1 w2 : World} {base : Nat} {F F1 F2 G H : Nat → Prop}
theorem Up.refl (w : World) (base : Nat) (F : Nat → Prop) : Up w w base F F := ⟨fun _ _ _ => rfl, fun _ h => .inl h, fun _ _ h _ => h, Nat.le_refl _⟩
theorem Up.below (F : Nat → Prop) (hb : Below w.heap.size w w1) (hs : base ≤ w.heap.size) : Up w w1 base F F :=
  ⟨fun k hk _ => hb.block k hk, fun _ h => .inl h, fun _ _ h hB => h.trans (hb.mono (Nat.le_trans hB hs)), hb.size⟩
theorem Up.trans (h : Up w w1 base F F1) (k : Up w1 w2 base F1 F2) : Up w w2 base F F2 :=
  ⟨fun i hi hn => (k.keep i (Nat.lt_of_lt_of_le hi h.size) fun h1 => by
      rcases h.new i h1 with e | e
      · exact hn e
      · omega).trans (h.keep i hi hn),
   fun i hi => by
      rcases k.new i hi with e | e
      · exact h.new i e
      · have := h.size; right; omega,
   fun B w0 hb hB => k.bel B w0 (h.bel B w0 hb hB) hB, Nat.le_trans h.size k.size⟩
/-- The call may be told to touch more. -/
theorem Up.more (h : Up w w1 base F F1) (hG : ∀ k, F k → G k) (hH : ∀ k, H k → F1 k ∨ G k) : Up w w1 base G H :=
  ⟨fun k hk hn => h.keep k hk fun e => hn (hG k e), fun k hk => by
    rcases hH k hk with e | e
    · exact (h.new k e).imp_left (hG k)
    · exact .inl e, h.bel, h.size⟩
/-- Blocks of another object stay, and stay apart. -/
theorem Up.apart (h : Up w w1 base F F1) (hG : ∀ k, G k → k < w.heap.size) (hd : ∀ k, F k → ¬ G k) : (∀ k, G k → w1.heap[k]? = w.heap[k]?) ∧ ∀ k, F1 k → ¬ G k :=
  ⟨fun k hk => h.keep k (hG k hk) fun e => hd k e hk, fun k h1 h2 => by
    rcases h.new k h1 with e | e
    · exact hd k e h2
    · have := hG k h2; omega⟩
end
theorem own_blk {W W' : World} {base s n : Nat} {e : TypeId} {v : Value} {xs : List Value} (h : W.ownsRow base e s v n xs) (hk : ∀ k, v.ownBlock = some k → W'.heap[k]? = W.heap[k]?) : W'.ownsRow base e s v n xs :=
  ⟨h.1, h.2.imp_right fun ⟨g, cap, cur, ev, hb, hg, r⟩ => ⟨g, cap, cur, ev, hb, (hk g (by rw [ev]; rfl)).trans hg, r⟩⟩
end Go.Proofs.Ytaeiijncklmfdaa
