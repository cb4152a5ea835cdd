/-
  Layer 3: a disk in memory: the blocks of a disk by colours, what a call leaves of the rest, the writes.
-/
import Derived.Test.YtaeiijncklmfdaaDkM
import Derived.Test.YtaeiijncklmfdaaUp
namespace Go.Proofs.Ytaeiijncklmfdaa
open Go.RowKit

def chCells (x : ChS) : List Value := [.string x.gone, .string x.to, ptV x.file]
def dkCells (s : DkS) (fo du : Nat) (pe pl : Value) : Array Value :=
  #[.int .i64 s.room, .bool s.power, .map (some fo), .map (some du), pe, pl, .int .i64 s.tries, .int .i64 s.done, .bool true]
def flCells (bv : Value) (f : FileS) : Array Value := #[bv, .int .i64 f.synced, .bool f.bad]
/-- The plan: a list of pairs that is read, and never written. -/
def PlAt (w : World) (c : Nat → Nat) (v : Value) (l : List (Int × Int)) : Prop :=
  ∃ a cap, v = .slice a l.length cap ∧ l.length ≤ 140737488351232 ∧ l.length ≤ cap ∧ (a = none → cap = 0) ∧ ∀ b, a = some b → ∃ g o, b = ⟨g, o, none⟩ ∧ c g = 5 ∧ g < w.heap.size ∧
    ∀ i : Nat, i < l.length → w.cell? ⟨g, o + i * 2, none⟩ = some (.int .i64 (l[i]?.getD (0, 0)).1) ∧ w.cell? ⟨g, o + i * 2 + 1, none⟩ = some (.int .i64 (l[i]?.getD (0, 0)).2)

structure DkAt (w : World) (base d : Nat) (s : DkS) (c : Nat → Nat) (fo du : Nat) (pe pl : Value) (bv : Nat → Value) : Prop where
  disk : w.heap[d]? = some (.cells (dkCells s fo du pe pl) 71 (0, 0))
  cd : c d = 1
  fold : MapAt w fo s.folder
  cf : c fo = 2
  dur : MapAt w du s.durable
  cu : c du = 3
  pend : w.ownsRow base 108 3 pe s.pending.length (s.pending.flatMap chCells)
  cp : ∀ g, pe.ownBlock = some g → c g = 4
  plan : PlAt w c pl s.plan
  file : ∀ p ∈ s.ps, w.heap[p]? = some (.cells (flCells (bv p) (s.file p)) 100 (0, 0)) ∧ c p = 6
  byt : ∀ p ∈ s.ps, OwnB w base (bv p) (s.file p).bytes ∧ IsB (s.file p).bytes ∧ (s.file p).bytes.length ≤ 140737488351232
  cb : ∀ p ∈ s.ps, ∀ g, (bv p).ownBlock = some g → c g = 7 + p
  fin : ∀ x ∈ s.folder, x.2 ∈ s.ps
  din : ∀ x ∈ s.durable, x.2 ∈ s.ps
  pin : ∀ x ∈ s.pending, ∀ p, x.file = some p → p ∈ s.ps
  high : ∀ b, w.heap.size ≤ b → c b = 0
  low : ∀ b, c b ≠ 0 → base ≤ b
  base_le : base ≤ w.heap.size

/-- What a call leaves: blocks of no colour stay, old blocks keep their colours. -/
structure Stp (w w' : World) (base : Nat) (c c' : Nat → Nat) : Prop where
  keep : ∀ k, k < w.heap.size → c k = 0 → w'.heap[k]? = w.heap[k]?
  old : ∀ k, k < w.heap.size → c' k = c k
  bel : Below base w w'
  le : base ≤ w.heap.size
theorem Stp.refl (w : World) (base : Nat) (c : Nat → Nat) (hb : base ≤ w.heap.size) : Stp w w base c c := ⟨fun _ _ _ => rfl, fun _ _ => rfl, (Below.refl _ w).mono hb, hb⟩
theorem Stp.trans {w w1 w2 : World} {base : Nat} {c c1 c2 : Nat → Nat} (h : Stp w w1 base c c1) (k : Stp w1 w2 base c1 c2) : Stp w w2 base c c2 :=
  ⟨fun b hb h0 => (k.keep b (Nat.lt_of_lt_of_le hb h.bel.size) ((h.old b hb).trans h0)).trans (h.keep b hb h0),
   fun b hb => (k.old b (Nat.lt_of_lt_of_le hb h.bel.size)).trans (h.old b hb), h.bel.trans k.bel, h.le⟩
theorem Stp.below {w w' : World} {base : Nat} (c : Nat → Nat) (hb : Below w.heap.size w w') (hl : base ≤ w.heap.size) : Stp w w' base c c :=
  ⟨fun k hk _ => hb.block k hk, fun _ _ => rfl, hb.mono hl, hl⟩

section
variable {w w' : World} {base d : Nat} {s : DkS} {c : Nat → Nat} {fo du : Nat} {pe pl : Value} {bv : Nat → Value}
theorem MapAt.keep {g : Nat} {L : List (ByteArray × Nat)} (h : MapAt w g L) (hk : w'.heap[g]? = w.heap[g]?) : MapAt w' g L := by
  obtain ⟨es, clock, h1, h2⟩ := h
  exact ⟨es, clock, hk.trans h1, h2⟩
theorem MapAt.lt {g : Nat} {L : List (ByteArray × Nat)} (h : MapAt w g L) : g < w.heap.size := by
  obtain ⟨es, clock, h1, h2⟩ := h
  exact (Array.getElem?_eq_some_iff.1 h1).1
theorem cell_heap {b : Nat} (hk : w'.heap[b]? = w.heap[b]?) (i : Nat) : w'.cell? ⟨b, i, none⟩ = w.cell? ⟨b, i, none⟩ := by
  simp only [World.cell?, hk]
theorem PlAt.keep {v : Value} {l : List (Int × Int)} {c' : Nat → Nat} (h : PlAt w c v l) (hs : w.heap.size ≤ w'.heap.size) (hk : ∀ g, c g = 5 → g < w.heap.size → w'.heap[g]? = w.heap[g]? ∧ c' g = 5) : PlAt w' c' v l := by
  obtain ⟨a, cap, h1, h2, h3, h4, h5⟩ := h
  refine ⟨a, cap, h1, h2, h3, h4, fun b hb => ?_⟩
  obtain ⟨g, o, e, hc, hlt, hi⟩ := h5 b hb
  obtain ⟨k1, k2⟩ := hk g hc hlt
  refine ⟨g, o, e, k2, Nat.lt_of_lt_of_le hlt hs, fun i hi' => ?_⟩
  rw [cell_heap k1, cell_heap k1]
  exact hi i hi'
theorem DkAt.dlt (h : DkAt w base d s c fo du pe pl bv) : d < w.heap.size := (Array.getElem?_eq_some_iff.1 h.disk).1
theorem DkAt.plt (h : DkAt w base d s c fo du pe pl bv) {p : Nat} (hp : p ∈ s.ps) : p < w.heap.size := (Array.getElem?_eq_some_iff.1 (h.file p hp).1).1
theorem DkAt.col (h : DkAt w base d s c fo du pe pl bv) {k : Nat} (hk : c k ≠ 0) : k < w.heap.size := Nat.lt_of_not_le fun e => hk (h.high k e)

/-- The blocks of the disk as they were; new ones of no colour. -/
theorem DkAt.keep (h : DkAt w base d s c fo du pe pl bv) (hs : w.heap.size ≤ w'.heap.size) (hk : ∀ k, c k ≠ 0 → w'.heap[k]? = w.heap[k]?) : DkAt w' base d s c fo du pe pl bv :=
  { h with
    disk := (hk d (by rw [h.cd]; decide)).trans h.disk
    fold := h.fold.keep (hk fo (by rw [h.cf]; decide))
    dur := h.dur.keep (hk du (by rw [h.cu]; decide))
    pend := own_blk h.pend fun k e => hk k (by rw [h.cp k e]; decide)
    plan := h.plan.keep hs fun g hg _ => ⟨hk g (by rw [hg]; decide), hg⟩
    file := fun p hp => ⟨(hk p (by rw [(h.file p hp).2]; decide)).trans (h.file p hp).1, (h.file p hp).2⟩
    byt := fun p hp => ⟨own_blk (h.byt p hp).1 fun k e => hk k (by rw [h.cb p hp k e]; omega), (h.byt p hp).2⟩
    high := fun b hb => h.high b (Nat.le_trans hs hb)
    base_le := Nat.le_trans h.base_le hs }
theorem DkAt.below (h : DkAt w base d s c fo du pe pl bv) (hb : Below w.heap.size w w') : DkAt w' base d s c fo du pe pl bv :=
  h.keep hb.size fun k hk => hb.block k (h.col hk)
/-- A world that differs at the block d alone. -/
theorem DkAt.dset (h : DkAt w base d s c fo du pe pl bv) (s' : DkS) (hd : w'.heap[d]? = some (.cells (dkCells s' fo du pe pl) 71 (0, 0))) (ho : ∀ k, k ≠ d → w'.heap[k]? = w.heap[k]?) (hs : w'.heap.size = w.heap.size)
    (h1 : s'.folder = s.folder) (h2 : s'.durable = s.durable) (h3 : s'.pending = s.pending) (h4 : s'.plan = s.plan) (h5 : s'.file = s.file) (h6 : s'.ps = s.ps) : DkAt w' base d s' c fo du pe pl bv := by
  have hk : ∀ k, c k ≠ 1 → w'.heap[k]? = w.heap[k]? := fun k hk => ho k fun e => by rw [e, h.cd] at hk; exact hk rfl
  exact
  { disk := hd, cd := h.cd, cf := h.cf, cu := h.cu, cp := h.cp
    fold := by rw [h1]; exact h.fold.keep (hk fo (by rw [h.cf]; decide))
    dur := by rw [h2]; exact h.dur.keep (hk du (by rw [h.cu]; decide))
    pend := by rw [h3]; exact own_blk h.pend fun k e => hk k (by rw [h.cp k e]; decide)
    plan := by rw [h4]; exact h.plan.keep (Nat.le_of_eq hs.symm) fun g hg _ => ⟨hk g (by rw [hg]; decide), hg⟩
    file := by rw [h5, h6]; exact fun p hp => ⟨(hk p (by rw [(h.file p hp).2]; decide)).trans (h.file p hp).1, (h.file p hp).2⟩
    byt := by rw [h5, h6]; exact fun p hp => ⟨own_blk (h.byt p hp).1 fun k e => hk k (by rw [h.cb p hp k e]; omega), (h.byt p hp).2⟩
    cb := by rw [h6]; exact h.cb
    fin := by rw [h1, h6]; exact h.fin
    din := by rw [h2, h6]; exact h.din
    pin := by rw [h3, h6]; exact h.pin
    high := by rw [hs]; exact h.high
    low := h.low
    base_le := by rw [hs]; exact h.base_le }
theorem DkAt.scal (h : DkAt w base d s c fo du pe pl bv) (i : Nat) (v : Value) (s' : DkS) (hc : (dkCells s fo du pe pl).setIfInBounds i v = dkCells s' fo du pe pl)
    (h1 : s'.folder = s.folder) (h2 : s'.durable = s.durable) (h3 : s'.pending = s.pending) (h4 : s'.plan = s.plan) (h5 : s'.file = s.file) (h6 : s'.ps = s.ps) : DkAt (w.setCell ⟨d, i, none⟩ v) base d s' c fo du pe pl bv :=
  h.dset s' (by rw [heap_setCell_same w d i _ _ _ h.disk, hc]) (fun k hk => heap_setCell_other w ⟨d, i, none⟩ k v hk) (by simp) h1 h2 h3 h4 h5 h6
theorem DkAt.setTries (h : DkAt w base d s c fo du pe pl bv) (n : Int) : DkAt (w.setCell ⟨d, 6, none⟩ (.int .i64 n)) base d { s with tries := n } c fo du pe pl bv := h.scal _ _ _ rfl rfl rfl rfl rfl rfl rfl
theorem DkAt.setDone (h : DkAt w base d s c fo du pe pl bv) (n : Int) : DkAt (w.setCell ⟨d, 7, none⟩ (.int .i64 n)) base d { s with done := n } c fo du pe pl bv := h.scal _ _ _ rfl rfl rfl rfl rfl rfl rfl
theorem DkAt.setPower (h : DkAt w base d s c fo du pe pl bv) (n : Bool) : DkAt (w.setCell ⟨d, 1, none⟩ (.bool n)) base d { s with power := n } c fo du pe pl bv := h.scal _ _ _ rfl rfl rfl rfl rfl rfl rfl
/-- A write into a block of the disk. -/
theorem Stp.set (h : DkAt w base d s c fo du pe pl bv) (b i : Nat) (hb : c b ≠ 0) (v : Value) : Stp w (w.setCell ⟨b, i, none⟩ v) base c c :=
  ⟨fun k _ h0 => heap_setCell_other w ⟨b, i, none⟩ k v fun e => hb (by simp only at e; rw [← e]; exact h0), fun _ _ => rfl, ((Below.refl _ w).mono h.base_le).setCell (h.low b hb) v, h.base_le⟩
theorem DkAt.same {s' : DkS} (h : DkAt w base d s c fo du pe pl bv) (e : s = s') : DkAt w base d s' c fo du pe pl bv := e ▸ h
/-- The plan's rest. -/
theorem DkAt.setPlan (h : DkAt w base d s c fo du pe pl bv) (pl' : Value) (l : List (Int × Int)) (hp : PlAt w c pl' l) : DkAt (w.setCell ⟨d, 5, none⟩ pl') base d { s with plan := l } c fo du pe pl' bv := by
  have hk : ∀ k, c k ≠ 1 → (w.setCell ⟨d, 5, none⟩ pl').heap[k]? = w.heap[k]? := fun k hk => heap_setCell_other w ⟨d, 5, none⟩ k _ fun e => by simp only at e; rw [e, h.cd] at hk; exact hk rfl
  have hs : (w.setCell ⟨d, 5, none⟩ pl').heap.size = w.heap.size := by simp
  exact
  { h with
    disk := by rw [heap_setCell_same w d 5 _ _ _ h.disk]; rfl
    fold := h.fold.keep (hk fo (by rw [h.cf]; decide))
    dur := h.dur.keep (hk du (by rw [h.cu]; decide))
    pend := own_blk h.pend fun k e => hk k (by rw [h.cp k e]; decide)
    plan := hp.keep (Nat.le_of_eq hs.symm) fun g hg _ => ⟨hk g (by rw [hg]; decide), hg⟩
    file := fun p hp => ⟨(hk p (by rw [(h.file p hp).2]; decide)).trans (h.file p hp).1, (h.file p hp).2⟩
    byt := fun p hp => ⟨own_blk (h.byt p hp).1 fun k e => hk k (by rw [h.cb p hp k e]; omega), (h.byt p hp).2⟩
    high := by rw [hs]; exact h.high
    base_le := by rw [hs]; exact h.base_le }
end
end Go.Proofs.Ytaeiijncklmfdaa
