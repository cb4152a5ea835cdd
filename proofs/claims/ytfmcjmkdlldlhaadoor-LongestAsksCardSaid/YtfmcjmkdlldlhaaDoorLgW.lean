/-
  What stays and what goes on while a place is gone through: the search's blocks, those of the function that is told, the text, a variable.
-/
import Derived.Test.YtfmcjmkdlldlhaaDoorLgS
namespace Go.Proofs.YtfmcjmkdlldlhaaDoor
open Go.RowKit

/-- A text: it lies in a block of bytes, whatever is marked there. -/
def TxR (W : World) (a : Option Addr) (n c : Nat) (l : List Int) : Prop := SB W (.slice a n c) l ∧ ∀ x, a = some x → ∃ cs fz, W.heap[x.block]? = some (.cells cs 5 fz)
/-- Blocks of bytes stay. -/
def KeepU (W W' : World) : Prop := ∀ (k : Nat) (cs : Array Value) (fz : Nat × Nat), W.heap[k]? = some (.cells cs 5 fz) → W'.heap[k]? = W.heap[k]?
theorem TxR.keep {W W' : World} {a : Option Addr} {n c : Nat} {l : List Int} (h : TxR W a n c l) (hk : KeepU W W') : TxR W' a n c l := by
  obtain ⟨⟨h1, ad, cap, he, h2, h3⟩, h4⟩ := h
  simp only [Value.slice.injEq] at he
  obtain ⟨rfl, rfl, rfl⟩ := he
  refine ⟨⟨h1, a, c, rfl, h2, h3.imp_right ?_⟩, fun x hx => ?_⟩
  · rintro ⟨b, off, rfl, hc⟩
    obtain ⟨cs, fz, hb⟩ := h4 _ rfl
    refine ⟨b, off, rfl, fun i hi => ?_⟩
    rw [World.cell?_of_block (w := W) (hk b cs fz hb)]
    exact hc i hi
  · obtain ⟨cs, fz, hb⟩ := h4 x hx
    exact ⟨cs, fz, (hk _ cs fz hb).trans hb⟩
theorem KeepU.of_below {W W' : World} (hb : Below W.heap.size W W') : KeepU W W' := fun k _ _ hk => hb.block k (Array.getElem?_eq_some_iff.1 hk).1
theorem KeepU.trans {w w1 w2 : World} (h : KeepU w w1) (h2 : KeepU w1 w2) : KeepU w w2 := fun k cs fz hk => (h2 k cs fz ((h k cs fz hk).trans hk)).trans (h k cs fz hk)
theorem KeepU.of_up {W W' : World} {base : Nat} {F F' : Nat → Prop} (h : Up W W' base F F') (hF : ∀ k, F k → ∀ cs fz, W.heap[k]? ≠ some (.cells cs 5 fz)) : KeepU W W' := fun k cs fz hk =>
  h.keep k (Array.getElem?_eq_some_iff.1 hk).1 fun e => hF k e cs fz hk
theorem own_nb {W : World} {base sz n : Nat} {e : TypeId} {v : Value} {xs : List Value} (h : W.ownsRow base e sz v n xs) (hne : e ≠ 5) {k : Nat} (hk : v.ownBlock = some k) (cs : Array Value) (fz : Nat × Nat) : W.heap[k]? ≠ some (.cells cs 5 fz) := fun hh => by
  rcases h.2 with ⟨rfl, _⟩ | ⟨g, cap, cur, rfl, _, hg, _⟩
  · simp [Value.ownBlock] at hk
  · simp only [Value.ownBlock, Option.some.injEq] at hk
    subst hk
    rw [hg] at hh
    simp only [Option.some.injEq, Obj.cells.injEq] at hh
    exact hne hh.2.1
theorem Mid.nb {W : World} {base : Nat} {M : List Ins} {s : SO} {fs : List Value} (h : Mid W base M s fs) : ∀ k, CBlk s k → ∀ cs fz, W.heap[k]? ≠ some (.cells cs 5 fz) := by
  rintro k (rfl | e | e | e | e | e)
  · intro cs fz hh
    have := h.o
    unfold At at this
    rw [hh] at this
    simp only [Option.some.injEq, Obj.cells.injEq] at this
    exact absurd this.2.1 (by decide)
  · exact own_nb h.m (by decide) e
  · exact own_nb h.st (by decide) e
  · exact own_nb h.nw (by decide) e
  · exact own_nb h.nx (by decide) e
  · exact own_nb h.sk (by decide) e

/-- The function that is told what is done: `J d`: it was told d. -/
structure Dn (fid : FuncId) (caps : Array Value) (base : Nat) (Fd : Nat → Prop) (J : List Nat → World → Prop) : Prop where
  lt : ∀ {d : List Nat} {W : World}, J d W → ∀ k, Fd k → k < W.heap.size
  nb : ∀ {d : List Nat} {W : World}, J d W → ∀ k, Fd k → ∀ cs fz, W.heap[k]? ≠ some (.cells cs 5 fz)
  keep : ∀ {d : List Nat} {W W' : World}, J d W → (∀ k, Fd k → W'.heap[k]? = W.heap[k]?) → J d W'
  call : ∀ {d : List Nat} {W : World}, J d W → ∀ f : Nat, Calls Tryd.prog fid (#[.int .i64 (f : Int)] ++ caps) W fun e W' => e = .returned undef ∧ J (d ++ [f]) W' ∧ Up W W' base Fd Fd
  enter : ∀ (vs : Array Value) (W : World), (callFunc fid vs).run Tryd.prog W = .ok (.enter fid vs) W

/-- What holds beside the search: W0 was before, s0 was the search then; bx: a variable's block. -/
structure Frm (W0 W : World) (base : Nat) (s0 s : SO) (Fd : Nat → Prop) (J : List Nat → World → Prop) (d : List Nat) (bx : Nat) (cx : List Value) (a : Option Addr) (n c : Nat) (tx : List Int) : Prop where
  up : Up W0 W base (fun k => CBlk s0 k ∨ Fd k) (fun k => CBlk s k ∨ Fd k)
  dis : ∀ k, Fd k → ¬ CBlk s k
  jd : J d W
  box : At W bx TT cx
  nbx : ¬ CBlk s bx ∧ ¬ Fd bx
  txr : TxR W a n c tx
section
variable {fid : FuncId} {caps : Array Value} {Fd : Nat → Prop} {J : List Nat → World → Prop} {W0 W W' : World} {base : Nat} {s0 s s' : SO} {d d' : List Nat} {bx : Nat} {cx : List Value} {a : Option Addr} {n c : Nat} {tx : List Int} {M : List Ins} {fs : List Value}
/-- The search has gone a step. -/
theorem Frm.step (D : Dn fid caps base Fd J) (h : Frm W0 W base s0 s Fd J d bx cx a n c tx) (hm : Mid W base M s fs) (hu : Up W W' base (CBlk s) (CBlk s')) : Frm W0 W' base s0 s' Fd J d bx cx a n c tx := by
  have hF : ∀ k, Fd k → W'.heap[k]? = W.heap[k]? := fun k hk => hu.keep k (D.lt h.jd k hk) (h.dis k hk)
  have hnew : ∀ k, CBlk s' k → k < W.heap.size → CBlk s k := fun k hk hlt => by
    rcases hu.new k hk with e | e
    · exact e
    · omega
  exact ⟨h.up.trans (hu.more (fun _ h => .inl h) fun _ h => h.imp_right .inr), fun k hk hc => h.dis k hk (hnew k hc (D.lt h.jd k hk)), D.keep h.jd hF,
    h.box.keep (hu.keep bx h.box.lt h.nbx.1), ⟨fun e => h.nbx.1 (hnew _ e h.box.lt), h.nbx.2⟩, h.txr.keep (.of_up hu hm.nb)⟩
/-- Memory is made, or an order drawn. -/
theorem Frm.below (D : Dn fid caps base Fd J) (h : Frm W0 W base s0 s Fd J d bx cx a n c tx) (hb : Below W.heap.size W W') (hs : base ≤ W.heap.size) : Frm W0 W' base s0 s Fd J d bx cx a n c tx :=
  ⟨h.up.trans (Up.below _ hb hs), h.dis, D.keep h.jd fun k hk => hb.block k (D.lt h.jd k hk), h.box.below hb, h.nbx, h.txr.keep (.of_below hb)⟩
/-- The function was told. -/
theorem Frm.told (D : Dn fid caps base Fd J) (h : Frm W0 W base s0 s Fd J d bx cx a n c tx) (hj : J d' W') (hu : Up W W' base Fd Fd) : Frm W0 W' base s0 s Fd J d' bx cx a n c tx :=
  ⟨h.up.trans (hu.more (fun _ h => .inr h) fun _ h => h.elim (fun e => .inr (.inl e)) .inl), h.dis, hj, h.box.keep (hu.keep bx h.box.lt h.nbx.2), h.nbx, h.txr.keep (.of_up hu (D.nb h.jd))⟩
theorem Mid.told (h : Mid W base M s fs) (hu : Up W W' base Fd Fd) (hd : ∀ k, Fd k → ¬ CBlk s k) : Mid W' base M s fs := h.keep fun k hk hc => hu.keep k hk fun e => hd k e hc
theorem cblk_same {s1 s2 : SO} (h1 : s1.g = s2.g) (h2 : s1.mv.ownBlock = s2.mv.ownBlock) (h3 : s1.stv.ownBlock = s2.stv.ownBlock) (h4 : s1.nv.ownBlock = s2.nv.ownBlock) (h5 : s1.xv.ownBlock = s2.xv.ownBlock) (h6 : s1.kv.ownBlock = s2.kv.ownBlock) : CBlk s1 = CBlk s2 := by
  funext k
  unfold CBlk
  rw [h1, h2, h3, h4, h5, h6]
end

theorem Frm.same {W0 W : World} {base : Nat} {s0 s s' : SO} {Fd : Nat → Prop} {J : List Nat → World → Prop} {d : List Nat} {bx : Nat} {cx : List Value} {a : Option Addr} {n c : Nat} {tx : List Int}
    (h : Frm W0 W base s0 s Fd J d bx cx a n c tx) (e : CBlk s = CBlk s') : Frm W0 W base s0 s' Fd J d bx cx a n c tx :=
  ⟨e ▸ h.up, e ▸ h.dis, h.jd, h.box, e ▸ h.nbx, h.txr⟩
theorem own_len_eq {a : Option Addr} {n n' c c' : Nat} : (Value.slice a n c).ownBlock = (Value.slice a n' c').ownBlock := by cases a <;> rfl

/-- The stamps tell what was met at this place. -/
def StR (M : List Ins) (sz : List Int) (stamp : Int) (V : Nat → Bool) : Prop := sz.length = M.length ∧ (∀ i, i < M.length → (sz[i]?.getD 0 = stamp ↔ V i = true)) ∧ ∀ x ∈ sz, x ≤ stamp
theorem StR.upd {M : List Ins} {sz : List Int} {stamp : Int} {V : Nat → Bool} (h : StR M sz stamp V) (i : Nat) : StR M (sz.set i stamp) stamp (upd V i) := by
  refine ⟨by rw [List.length_set]; exact h.1, fun j hj => ?_, fun x hx => ?_⟩
  · rw [List.getElem?_set, upd_true]
    by_cases e : i = j
    · subst e
      rw [if_pos rfl, if_pos (by rw [h.1]; exact hj)]
      simp
    · rw [if_neg e, h.2.1 j hj]
      exact ⟨.inr, fun h => h.resolve_left fun e2 => e e2.symm⟩
  · rcases List.mem_or_eq_of_mem_set hx with h' | h'
    · exact h.2.2 x h'
    · exact Int.le_of_eq h'
/-- The search in the midst of a place. -/
def soAt (s : SO) (c : LSt) (sz : List Int) (xv kv : Value) : SO := { s with sz := sz, xv := xv, kv := kv, next := c.nx, steps := c.sp, stk := c.k }
/-- What one thread's way keeps. -/
structure FlR (W0 W : World) (base : Nat) (M : List Ins) (tx : List Int) (p f : Nat) (s0 : SO) (c0 c : LSt) (sz : List Int) (xv kv : Value) (Fd : Nat → Prop) (J : List Nat → World → Prop) (bx j0 : Nat) (a : Option Addr) (n cp : Nat) : Prop where
  mid : Mid W base M (soAt s0 c sz xv kv) (soCells (soAt s0 c sz xv kv))
  frm : Frm W0 W base s0 (soAt s0 c sz xv kv) Fd J c.dn bx (encT (j0, f)) a n cp tx
  str : StR M sz s0.stamp c.V
  fin : fin M tx p f c = fin M tx p f c0
  klt : ∀ i ∈ c.k, i < M.length
  mu : mu M.length c ≤ 2 * M.length + 1
  sp : c.sp + unv M.length c.V ≤ 1099511627776
  nx : c.nx.length + unv M.length c.V ≤ M.length
/-- One thread, gone through. -/
def FlwPost (W : World) (base : Nat) (M : List Ins) (tx : List Int) (p f j : Nat) (s : SO) (V : Nat → Bool) (Fd : Nat → Prop) (J : List Nat → World → Prop) (d : List Nat) (a : Option Addr) (n cp : Nat) (e : Ending) (W' : World) : Prop :=
  e = .returned undef ∧ ∃ sz xv kv c, c = fin M tx p f ⟨V, [j], s.next, s.steps, d⟩ ∧ Mid W' base M (soAt s c sz xv kv) (soCells (soAt s c sz xv kv)) ∧ StR M sz s.stamp c.V ∧ J c.dn W' ∧
    Up W W' base (fun k => CBlk s k ∨ Fd k) (fun k => CBlk (soAt s c sz xv kv) k ∨ Fd k) ∧ (∀ k, Fd k → ¬ CBlk (soAt s c sz xv kv) k) ∧ TxR W' a n cp tx
end Go.Proofs.YtfmcjmkdlldlhaaDoor
