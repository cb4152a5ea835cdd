/-
  outs.Out and the sink that it hands on to: how they lie, what a call leaves.
-/
import Derived.Test.YtbdgolbejoheiaaAppL
namespace Go.Proofs.Ytbdgolbejoheiaa
open Go.RowKit

/-- An output and its sink. -/
structure OSt where
  bo : Nat
  bs : Nat
  size : Int
  fail : Int
  ferr : Int
  gv : Value
  sv : Value
  tv : Value
  vs : List Value
  us : List Value
  g : List Int
  said : List (List Int)
  err : Int
  cnt : Int
abbrev TOut : TypeId := 28
abbrev TSink : TypeId := 40
def sinkV (bs : Nat) : Value := .func (.func 15) #[.pointer (some ⟨bs, 0, none⟩)] #[]
def outCells (s : OSt) : List Value := [.int .i64 s.size, sinkV s.bs, s.gv, .int .i64 s.err, .int .i64 s.cnt]
def sinkCells (s : OSt) : List Value := [.pointer none, .string ByteArray.empty, .int .i64 s.fail, .int .i64 s.ferr, .int .i64 (s.said.length : Nat), s.sv, s.tv]
theorem neOS : TOut ≠ TSink := by decide
theorem neOB : TOut ≠ 5 := by decide
theorem neOL : TOut ≠ 25 := by decide
theorem neSB : TSink ≠ 5 := by decide
theorem neSL : TSink ≠ 25 := by decide

/-- A row that was handed on. -/
def RowAt (W : World) (base : Nat) (gv : Value) (vs : List Value) (i : Nat) (l : List Int) : Prop := ∃ v, vs[i]? = some v ∧ OwnB W base v l ∧ Apart gv v ∧ IsB l ∧ l.length ≤ 140737488351232
structure OIs (W : World) (base : Nat) (s : OSt) : Prop where
  o : At W s.bo TOut (outCells s)
  k : At W s.bs TSink (sinkCells s)
  og : OwnB W base s.gv s.g
  osv : W.ownsRow base 25 1 s.sv s.said.length s.vs
  otv : W.ownsRow base 25 1 s.tv s.said.length s.us
  st : Apart s.sv s.tv
  row : ∀ i, i < s.said.length → RowAt W base s.gv s.vs i (s.said[i]?.getD [])
  gB : IsB s.g
  bo_ge : base ≤ s.bo
  bs_ge : base ≤ s.bs

/-- The blocks that a call may write. -/
def Mut (s : OSt) (k : Nat) : Prop := k = s.bo ∨ k = s.bs ∨ s.gv.ownBlock = some k ∨ s.sv.ownBlock = some k ∨ s.tv.ownBlock = some k
/-- All its blocks. -/
def Blk (s : OSt) (k : Nat) : Prop := Mut s k ∨ ∃ i v, i < s.said.length ∧ s.vs[i]? = some v ∧ v.ownBlock = some k
/-- What a call leaves. -/
structure OUp (W W' : World) (base : Nat) (s s' : OSt) : Prop where
  keep : ∀ k, k < W.heap.size → ¬ Mut s k → W'.heap[k]? = W.heap[k]?
  mt : ∀ k, Mut s' k → Mut s k ∨ W.heap.size ≤ k
  blk : ∀ k, Blk s' k → Blk s k ∨ W.heap.size ≤ k
  bel : ∀ B w0, Below B w0 W → B ≤ base → Below B w0 W'
  size : W.heap.size ≤ W'.heap.size
theorem OUp.refl (W : World) (base : Nat) (s : OSt) : OUp W W base s s := ⟨fun _ _ _ => rfl, fun _ h => .inl h, fun _ h => .inl h, fun _ _ h _ => h, Nat.le_refl _⟩
theorem OUp.of_below {W W' : World} (base : Nat) (s : OSt) (hbase : base ≤ W.heap.size) (hb : Below W.heap.size W W') : OUp W W' base s s :=
  ⟨fun k hk _ => hb.block k hk, fun _ h => .inl h, fun _ h => .inl h, fun _ _ h hB => h.trans (hb.mono (Nat.le_trans hB hbase)), hb.size⟩
theorem OUp.trans {W W1 W2 : World} {base : Nat} {s s1 s2 : OSt} (h : OUp W W1 base s s1) (h2 : OUp W1 W2 base s1 s2) : OUp W W2 base s s2 := by
  refine ⟨fun k hk hm => ?_, fun k hk => ?_, fun k hk => ?_, fun B w0 h0 hB => h2.bel B w0 (h.bel B w0 h0 hB) hB, Nat.le_trans h.size h2.size⟩
  · have hs := h.size
    refine (h2.keep k (by omega) fun hm1 => ?_).trans (h.keep k hk hm)
    rcases h.mt k hm1 with e | e
    · exact hm e
    · omega
  · rcases h2.mt k hk with e | e
    · exact h.mt k e
    · have := h.size; right; omega
  · rcases h2.blk k hk with e | e
    · exact h.blk k e
    · have := h.size; right; omega

theorem RowAt.keep {W W' : World} {base : Nat} {gv : Value} {vs : List Value} {i : Nat} {l : List Int} (h : RowAt W base gv vs i l) (hk : ∀ v k, vs[i]? = some v → v.ownBlock = some k → W'.heap[k]? = W.heap[k]?) : RowAt W' base gv vs i l := by
  obtain ⟨v, h1, h2, h3⟩ := h
  refine ⟨v, h1, ⟨h2.1, h2.2.imp_right fun ⟨g, cap, cur, e, hb, hg, r⟩ => ⟨g, cap, cur, e, hb, (hk v g h1 (by rw [e]; rfl)).trans hg, r⟩⟩, h3⟩
theorem own_keep {W W' : World} {base s n : Nat} {e : TypeId} {v : Value} {xs : List Value} (h : W.ownsRow base e s v n xs) (hk : ∀ k, v.ownBlock = some k → W'.heap[k]? = W.heap[k]?) : W'.ownsRow base e s v n xs :=
  ⟨h.1, h.2.imp_right fun ⟨g, cap, cur, ev, hb, hg, r⟩ => ⟨g, cap, cur, ev, hb, (hk g (by rw [ev]; rfl)).trans hg, r⟩⟩
/-- Whoever leaves its blocks as they lie leaves it. -/
theorem OIs.keep {W W' : World} {base : Nat} {s : OSt} (h : OIs W base s) (hk : ∀ k, k < W.heap.size → Blk s k → W'.heap[k]? = W.heap[k]?) : OIs W' base s := by
  have hm : ∀ k, k < W.heap.size → Mut s k → W'.heap[k]? = W.heap[k]? := fun k h1 h2 => hk k h1 (.inl h2)
  exact { h with
    o := h.o.keep (hm _ h.o.lt (.inl rfl))
    k := h.k.keep (hm _ h.k.lt (.inr (.inl rfl)))
    og := own_keep h.og fun k e => hm k (World.ownsRow.lt h.og k e).2 (.inr (.inr (.inl e)))
    osv := own_keep h.osv fun k e => hm k (World.ownsRow.lt h.osv k e).2 (.inr (.inr (.inr (.inl e))))
    otv := own_keep h.otv fun k e => hm k (World.ownsRow.lt h.otv k e).2 (.inr (.inr (.inr (.inr e))))
    row := fun i hi => by
      have hr := h.row i hi
      refine hr.keep fun v k e1 e2 => hk k ?_ (.inr ⟨i, v, hi, e1, e2⟩)
      obtain ⟨v', g1, g2, -⟩ := hr
      rw [e1] at g1
      obtain rfl := Option.some.inj g1
      exact (World.ownsRow.lt g2 k e2).2 }
theorem OIs.below {W W' : World} {base : Nat} {s : OSt} (h : OIs W base s) (hb : Below W.heap.size W W') : OIs W' base s := h.keep fun k hk _ => hb.block k hk
theorem OIs.lt {W : World} {base : Nat} {s : OSt} (h : OIs W base s) : ∀ k, Blk s k → k < W.heap.size ∧ base ≤ k := by
  rintro k ((rfl | rfl | e | e | e) | ⟨i, v, hi, e1, e2⟩)
  · exact ⟨h.o.lt, h.bo_ge⟩
  · exact ⟨h.k.lt, h.bs_ge⟩
  · exact (World.ownsRow.lt h.og k e).symm
  · exact (World.ownsRow.lt h.osv k e).symm
  · exact (World.ownsRow.lt h.otv k e).symm
  · obtain ⟨v', g1, g2, -⟩ := h.row i hi
    rw [e1] at g1
    obtain rfl := Option.some.inj g1
    exact (World.ownsRow.lt g2 k e2).symm
end Go.Proofs.Ytbdgolbejoheiaa
