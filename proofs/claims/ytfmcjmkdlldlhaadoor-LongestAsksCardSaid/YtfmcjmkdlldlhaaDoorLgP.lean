/-
  longest.Search.place: what it keeps; a row of cells that is cleared.
-/
import Derived.Test.YtfmcjmkdlldlhaaDoorLgX
import Derived.Lib.SliceRun
namespace Go.Proofs.YtfmcjmkdlldlhaaDoor
open Go.RowKit

theorem setCells_all (g : Nat) (T : TypeId) : ∀ (vs : List Value) (o : Nat) (w : World) (cur : Array Value), w.heap[g]? = some (.cells cur T (0, 0)) → o + vs.length ≤ cur.size →
    (w.setCells g o vs).heap[g]? = some (.cells (cur.toList.take o ++ vs ++ cur.toList.drop (o + vs.length)).toArray T (0, 0)) ∧ (∀ k, k ≠ g → (w.setCells g o vs).heap[k]? = w.heap[k]?) ∧ (w.setCells g o vs).heap.size = w.heap.size ∧ Below g w (w.setCells g o vs) := by
  intro vs
  induction vs with
  | nil => intro o w cur h _; exact ⟨by show w.heap[g]? = _; simpa using h, fun _ _ => rfl, rfl, Below.refl _ _⟩
  | cons v r ih =>
    intro o w cur h hl
    have h1 := heap_setCell_same w g o cur T v h
    simp only [List.length_cons] at hl
    obtain ⟨a1, a2, a3, a4⟩ := ih (o + 1) (w.setCell ⟨g, o, none⟩ v) _ h1 (by simp; omega)
    refine ⟨?_, fun k hk => (a2 k hk).trans (heap_setCell_other w ⟨g, o, none⟩ k v hk), a3.trans (by simp), (Below.setCell (Below.refl _ _) (Nat.le_refl g) v).trans a4⟩
    show ((w.setCell ⟨g, o, none⟩ v).setCells g (o + 1) r).heap[g]? = _
    rw [a1]
    congr 2
    apply Array.ext'
    have hset : cur.toList.set o v = cur.toList.take o ++ v :: cur.toList.drop (o + 1) := List.set_eq_take_append_cons_drop .. |>.trans (by rw [if_pos (by simp; omega)])
    have ht : (cur.toList.take o).length = o := by simp; omega
    simp only [Array.toList_setIfInBounds, hset, List.length_cons, Nat.add_assoc, Nat.add_comm 1]
    rw [List.take_append, ht, List.drop_append, ht]
    simp only [show o + 1 - o = 1 by omega, show o + (r.length + 1) - o = r.length + 1 by omega, List.take_succ_cons, List.take_zero, List.drop_succ_cons, List.drop_drop]
    rw [List.take_of_length_le (by omega : (cur.toList.take o).length ≤ o + 1), List.drop_eq_nil_of_le (by omega : (cur.toList.take o).length ≤ o + (r.length + 1))]
    simp [Nat.add_comm, Nat.add_left_comm]
theorem setCells_up (w : World) (g o base : Nat) (vs : List Value) (T : TypeId) (cur : Array Value) (h : w.heap[g]? = some (.cells cur T (0, 0))) (hl : o + vs.length ≤ cur.size) (F : Nat → Prop) (hF : F g) (hb : base ≤ g) : Up w (w.setCells g o vs) base F F := by
  obtain ⟨_, a2, a3, a4⟩ := setCells_all g T vs o w cur h hl
  exact ⟨fun k _ hn => a2 k fun e => hn (e ▸ hF), fun _ h => .inl h, fun B w0 h0 hB => h0.trans (a4.mono (by omega)), by omega⟩
/-- All of an owned row is written over. -/
theorem own_clear {W : World} {base n : Nat} {e : TypeId} {b c : Nat} {xs : List Value} (h : W.ownsRow base e 1 (.slice (some ⟨b, 0, none⟩) n c) n xs) (ys : List Value) (hy : ys.length = n) : (W.setCells b 0 ys).ownsRow base e 1 (.slice (some ⟨b, 0, none⟩) n c) n ys ∧
    Up W (W.setCells b 0 ys) base (fun k => k = b) (fun k => k = b) := by
  rcases h.2 with ⟨h1, _⟩ | ⟨g, cap, cur, h1, hb, hg, hnc, hcm, hs, ht⟩
  · simp at h1
  have h1' := h1
  simp only [Value.slice.injEq, Option.some.injEq, Addr.mk.injEq, and_true, true_and] at h1
  obtain ⟨rfl, rfl⟩ := h1
  have hl : 0 + ys.length ≤ cur.size := by omega
  obtain ⟨a1, _⟩ := setCells_all b e ys 0 W cur hg hl
  refine ⟨⟨by omega, .inr ⟨b, c, _, rfl, hb, a1, hnc, hcm, ?_, ?_⟩⟩, setCells_up W b 0 base ys e cur hg hl _ rfl hb⟩
  · simp; omega
  · simp only [List.take_zero, List.nil_append, Nat.mul_one]
    exact List.take_left' hy
theorem zeroW (w : World) : (zeroValue 84).run Tryd.prog w = .ok (.int .i16 0) w := by kernel_rfl
theorem own_frozen {W : World} {base s n : Nat} {e : TypeId} {g c : Nat} {xs : List Value} (h : W.ownsRow base e s (.slice (some ⟨g, 0, none⟩) n c) n xs) (j : Nat) (hj : j < xs.length) : (W.cell? ⟨g, 0 + j, none⟩).isSome = true ∧ W.frozen? ⟨g, 0 + j, none⟩ = false := by
  have := own_cell h j hj
  rw [Nat.zero_add]
  refine ⟨?_, this.2⟩
  rw [this.1, List.getElem?_eq_getElem hj]
  rfl
section
variable {W W' : World} {base : Nat} {M : List Ins} {s : SO}
/-- The stamps are cleared. -/
theorem Mid.clearSt {fs : List Value} (h : Mid W base M s fs) {b n c : Nat} (hv : s.stv = .slice (some ⟨b, 0, none⟩) n c) (hn : 0 < n) :
    (∀ ty, (Builtin.clear_ #[83] ty #[.slice (some ⟨b, 0, none⟩) n c]).run Tryd.prog W = .ok (.tuple #[]) (W.setCells b 0 (List.replicate n (.int .i16 0)))) ∧
    Mid (W.setCells b 0 (List.replicate n (.int .i16 0))) base M { s with sz := List.replicate n 0 } fs ∧ Up W (W.setCells b 0 (List.replicate n (.int .i16 0))) base (CBlk s) (CBlk { s with sz := List.replicate n 0 }) := by
  have hst := h.st
  rw [hv] at hst
  obtain rfl := own_len hst
  have hc := own_clear hst (List.replicate s.sz.length (.int .i16 0)) (by simp)
  have hbk : s.stv.ownBlock = some b := by rw [hv]; rfl
  have hne : ∀ {e : TypeId} {sz n : Nat} {v : Value} {xs : List Value}, W.ownsRow base e sz v n xs → e ≠ 84 → (W.setCells b 0 (List.replicate s.sz.length (.int .i16 0))).ownsRow base e sz v n xs := fun ho hne =>
    own_blk ho fun k hk => hc.2.keep k (World.ownsRow.lt ho k hk).2 fun e => apart_types ho hst hne k hk (by rw [e]; rfl)
  refine ⟨fun ty => Lib.run_clear_slice W _ _ ty _ Tryd.underlying83 zeroW rfl rfl b 0 _ _ hn (fun j hj => (own_frozen hst j (by simpa using hj)).1) (fun j hj => (own_frozen hst j (by simpa using hj)).2), ⟨?_, hne h.m neWI.symm, ?_, hne h.nw neTW, hne h.nx neTW, hne h.sk neKW, h.ap, h.ge⟩, ?_⟩
  · exact h.o.keep (hc.2.keep s.g h.o.lt fun e => (h.o.ne_own hst neSW) (by rw [e]; rfl))
  · show World.ownsRow _ base 84 1 s.stv (List.replicate s.sz.length (0 : Int)).length _
    rw [hv, List.length_replicate, List.map_replicate]
    exact hc.1
  · have e : CBlk { s with sz := List.replicate s.sz.length 0 } = CBlk s := cblk_same rfl rfl rfl rfl rfl rfl
    rw [e]
    exact hc.2.more (fun k hk => by rw [hk]; exact .inr (.inr (.inl hbk))) fun k hk => .inr hk
end
/-- What holds beside the search; as `Frm`, without a variable. -/
structure Frn (W0 W : World) (base : Nat) (s0 s : SO) (Fd : Nat → Prop) (J : List Nat → World → Prop) (d : List Nat) (a : Option Addr) (n c : Nat) (tx : List Int) : Prop where
  up : Up W0 W base (fun k => CBlk s0 k ∨ Fd k) (fun k => CBlk s k ∨ Fd k)
  dis : ∀ k, Fd k → ¬ CBlk s k
  jd : J d W
  txr : TxR W a n c tx
section
variable {fid : FuncId} {caps : Array Value} {Fd : Nat → Prop} {J : List Nat → World → Prop} {W0 W W' : World} {base : Nat} {s0 s s' : SO} {d d' : List Nat} {a : Option Addr} {n c : Nat} {tx : List Int} {M : List Ins} {fs : List Value}
theorem Frn.step (D : Dn fid caps base Fd J) (h : Frn W0 W base s0 s Fd J d a n c tx) (hm : Mid W base M s fs) (hu : Up W W' base (CBlk s) (CBlk s')) : Frn W0 W' base s0 s' Fd J d a n c tx := by
  have hF : ∀ k, Fd k → W'.heap[k]? = W.heap[k]? := fun k hk => hu.keep k (D.lt h.jd k hk) (h.dis k hk)
  have hnew : ∀ k, CBlk s' k → k < W.heap.size → CBlk s k := fun k hk hlt => by
    rcases hu.new k hk with e | e
    · exact e
    · omega
  exact ⟨h.up.trans (hu.more (fun _ h => .inl h) fun _ h => h.imp_right .inr), fun k hk hc => h.dis k hk (hnew k hc (D.lt h.jd k hk)), D.keep h.jd hF, h.txr.keep (.of_up hu hm.nb)⟩
theorem Frn.below (D : Dn fid caps base Fd J) (h : Frn W0 W base s0 s Fd J d a n c tx) (hb : Below W.heap.size W W') (hs : base ≤ W.heap.size) : Frn W0 W' base s0 s Fd J d a n c tx :=
  ⟨h.up.trans (Up.below _ hb hs), h.dis, D.keep h.jd fun k hk => hb.block k (D.lt h.jd k hk), h.txr.keep (.of_below hb)⟩
theorem Frn.same (h : Frn W0 W base s0 s Fd J d a n c tx) (e : CBlk s = CBlk s') : Frn W0 W base s0 s' Fd J d a n c tx := ⟨e ▸ h.up, e ▸ h.dis, h.jd, h.txr⟩
end
/-- The stamps of a search that is ready. -/
def StOk (M : List Ins) (s : SO) : Prop := s.sz.length = M.length ∧ 0 ≤ s.stamp ∧ s.stamp ≤ 32767 ∧ ∀ x ∈ s.sz, x ≤ s.stamp
/-- A place, gone through. -/
def PlcPost (W : World) (base : Nat) (M : List Ins) (tx : List Int) (p : Nat) (s : SO) (Fd : Nat → Prop) (J : List Nat → World → Prop) (a : Option Addr) (n cp : Nat) (e : Ending) (W' : World) : Prop :=
  e = .returned undef ∧ ∃ s', s'.g = s.g ∧ s'.mv = s.mv ∧ s'.ev = s.ev ∧ s'.now = (placeF M tx p s.now s.steps).nx ∧ s'.steps = (placeF M tx p s.now s.steps).sp ∧ s'.stk = [] ∧ StOk M s' ∧
    Mid W' base M s' (soCells s') ∧ Frn W W' base s s' Fd J (placeF M tx p s.now s.steps).dn a n cp tx
/-- The search while a place is gone through: at a thread's end. -/
structure PlR (W0 W : World) (base : Nat) (M : List Ins) (tx : List Int) (p : Nat) (s0 s1 : SO) (c : LSt) (sz : List Int) (xv kv : Value) (Fd : Nat → Prop) (J : List Nat → World → Prop) (a : Option Addr) (n cp : Nat) : Prop where
  mid : Mid W base M (soAt s1 c sz xv kv) (soCells (soAt s1 c sz xv kv))
  frn : Frn W0 W base s0 (soAt s1 c sz xv kv) Fd J c.dn a n cp tx
  str : StR M sz s1.stamp c.V
/-- The two lists of threads change places. -/
theorem Mid.swap {W : World} {base : Nat} {M : List Ins} {s : SO} {fs : List Value} (h : Mid W base M s fs) : Mid W base M { s with nv := s.xv, now := s.next, xv := s.nv, next := s.now } fs :=
  ⟨h.o, h.m, h.st, h.nx, h.nw, h.sk, h.ap.symm, h.ge⟩
theorem cblk_swap (s : SO) : CBlk s = CBlk { s with nv := s.xv, now := s.next, xv := s.nv, next := s.now } := by
  funext k
  unfold CBlk
  simp only [eq_iff_iff]
  constructor <;> rintro (h | h | h | h | h | h) <;> simp [h]
theorem placeF_take (M : List Ins) (tx : List Int) (p : Nat) (L : List (Nat × Nat)) (sp k : Nat) (t : Nat × Nat) (h : L[k]? = some t) : placeF M tx p (L.take (k + 1)) sp = thrF M tx p (placeF M tx p (L.take k) sp) t := by
  obtain ⟨hk, rfl⟩ := List.getElem?_eq_some_iff.1 h
  unfold placeF
  rw [List.take_succ_eq_append_getElem hk, List.foldl_append]
  rfl
theorem StOk.start {M : List Ins} {sz : List Int} {stamp : Int} (h1 : sz.length = M.length) (h2 : ∀ x ∈ sz, x ≤ stamp) : StR M sz (stamp + 1) (fun _ => false) := by
  refine ⟨h1, fun i hi => ⟨fun h => ?_, fun h => by cases h⟩, fun x hx => by have := h2 x hx; omega⟩
  have hi' : i < sz.length := by omega
  have := h2 sz[i] (List.getElem_mem hi')
  rw [List.getElem?_eq_getElem hi'] at h
  simp only [Option.getD_some] at h
  omega
end Go.Proofs.YtfmcjmkdlldlhaaDoor
