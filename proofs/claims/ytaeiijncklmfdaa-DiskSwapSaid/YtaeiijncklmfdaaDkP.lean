/-
  Layer 3: a folder that is being filled, ahead of its disk.
-/
import Derived.Test.YtaeiijncklmfdaaDkX
import Derived.Test.YtaeiijncklmfdaaDkI
namespace Go.Proofs.Ytaeiijncklmfdaa
open Go.RowKit

structure FlR where
  name : ByteArray
  bytes : List Int
  synced : Int
  bad : Bool
def fl0 : FlR := ⟨ByteArray.empty, [], 0, false⟩
/-- A list of files, as it is read. -/
def FsAt (w : World) (a : Option Addr) (n c : Nat) (L : List FlR) : Prop :=
  L.length = n ∧ n ≤ c ∧ (a = none → c = 0) ∧ ∀ b, a = some b → ∃ g o, b = ⟨g, o, none⟩ ∧ ∀ i : Nat, i < n → ∃ ad nn cc, w.cell? ⟨g, o + i * 4, none⟩ = some (.string (L[i]?.getD fl0).name) ∧ w.cell? ⟨g, o + i * 4 + 1, none⟩ = some (.slice ad nn cc) ∧
    w.cell? ⟨g, o + i * 4 + 2, none⟩ = some (.int .i64 (L[i]?.getD fl0).synced) ∧ w.cell? ⟨g, o + i * 4 + 3, none⟩ = some (.bool (L[i]?.getD fl0).bad) ∧ SB w (.slice ad nn cc) (L[i]?.getD fl0).bytes ∧ (ad = none → cc = 0) ∧ nn ≤ cc
theorem FsAt.below {w w' : World} {a : Option Addr} {n c : Nat} {L : List FlR} (h : FsAt w a n c L) (hb : Below w.heap.size w w') : FsAt w' a n c L := by
  obtain ⟨h1, h2, h3, h4⟩ := h
  refine ⟨h1, h2, h3, fun b hb' => ?_⟩
  obtain ⟨g, o, e, hi⟩ := h4 b hb'
  refine ⟨g, o, e, fun i hin => ?_⟩
  obtain ⟨ad, nn, cc, c0, c1, c2, c3, sb, r⟩ := hi i hin
  have hlt := fun {a v} (h : w.cell? a = some v) => hb.cell (World.block_lt_of_cell? w a h)
  exact ⟨ad, nn, cc, (hlt c0).trans c0, (hlt c1).trans c1, (hlt c2).trans c2, (hlt c3).trans c3, sb.below hb, r⟩

theorem FsAt.read {w : World} {a : Option Addr} {n c : Nat} {L : List FlR} (h : FsAt w a n c L) (k : Nat) (hk : k < n) : ∃ g o, a = some ⟨g, o, none⟩ ∧ ∃ ad nn cc, w.cell? ⟨g, o + k * 4, none⟩ = some (.string (L[k]?.getD fl0).name) ∧ w.cell? ⟨g, o + k * 4 + 1, none⟩ = some (.slice ad nn cc) ∧
    w.cell? ⟨g, o + k * 4 + 2, none⟩ = some (.int .i64 (L[k]?.getD fl0).synced) ∧ w.cell? ⟨g, o + k * 4 + 3, none⟩ = some (.bool (L[k]?.getD fl0).bad) ∧ SB w (.slice ad nn cc) (L[k]?.getD fl0).bytes ∧ (ad = none → cc = 0) ∧ nn ≤ cc := by
  obtain ⟨h1, h2, h3, h4⟩ := h
  cases a with
  | none => have := h3 rfl; omega
  | some b =>
    obtain ⟨g, o, e, hi⟩ := h4 b rfl
    exact ⟨g, o, by rw [e], hi k hk⟩
structure PreAt (w : World) (base : Nat) (F : List (ByteArray × Nat)) (fl : Nat → FileS) (ps : List Nat) (c : Nat → Nat) (fo : Nat) (bv : Nat → Value) : Prop where
  fold : MapAt w fo F
  cf : c fo = 2
  file : ∀ p ∈ ps, w.heap[p]? = some (.cells (flCells (bv p) (fl p)) 100 (0, 0)) ∧ c p = 6
  byt : ∀ p ∈ ps, OwnB w base (bv p) (fl p).bytes ∧ IsB (fl p).bytes ∧ (fl p).bytes.length ≤ 140737488351232
  cb : ∀ p ∈ ps, ∀ g, (bv p).ownBlock = some g → c g = 7 + p
  fin : ∀ x ∈ F, x.2 ∈ ps
  high : ∀ b, w.heap.size ≤ b → c b = 0
  low : ∀ b, c b ≠ 0 → base ≤ b
  base_le : base ≤ w.heap.size
section
variable {w w1 : World} {base : Nat} {F : List (ByteArray × Nat)} {fl : Nat → FileS} {ps : List Nat} {c : Nat → Nat} {fo : Nat} {bv : Nat → Value}
theorem PreAt.col (h : PreAt w base F fl ps c fo bv) {k : Nat} (hk : c k ≠ 0) : k < w.heap.size := Nat.lt_of_not_le fun e => hk (h.high k e)
theorem PreAt.plt (h : PreAt w base F fl ps c fo bv) {p : Nat} (hp : p ∈ ps) : p < w.heap.size := (Array.getElem?_eq_some_iff.1 (h.file p hp).1).1
theorem PreAt.below (h : PreAt w base F fl ps c fo bv) (hb : Below w.heap.size w w1) : PreAt w1 base F fl ps c fo bv :=
  { h with
    fold := h.fold.keep (hb.block fo h.fold.lt)
    file := fun p hp => ⟨(hb.block p (h.plt hp)).trans (h.file p hp).1, (h.file p hp).2⟩
    byt := fun p hp => ⟨own_blk (h.byt p hp).1 fun k e => hb.block k (World.ownsRow.lt (h.byt p hp).1 k e).2, (h.byt p hp).2⟩
    high := fun b hb2 => h.high b (Nat.le_trans hb.size hb2)
    base_le := Nat.le_trans h.base_le hb.size }
theorem pre_new (w : World) : PreAt (w.alloc (.map #[] 0)) w.heap.size [] (fun _ => ⟨[], 0, false⟩) [] (fun k => if k = w.heap.size then 2 else 0) w.heap.size (fun _ => .slice none 0 0) where
  fold := map_nil w
  cf := if_pos rfl
  file := fun p hp => by cases hp
  byt := fun p hp => by cases hp
  cb := fun p hp => by cases hp
  fin := fun x hx => by cases hx
  high := fun b hb => if_neg (by rw [World.size_alloc] at hb; omega)
  low := fun b hb => by
    by_cases e : b = w.heap.size
    · omega
    · exact absurd (if_neg e) hb
  base_le := by rw [World.size_alloc]; omega
/-- One more file: its bytes, its block, its place in the folder. -/
theorem PreAt.add (h : PreAt w base F fl ps c fo bv) (k : ByteArray) (x : FileS) (v : Value) (hb : Below w.heap.size w w1) (hv : OwnB w1 w.heap.size v x.bytes) (hB : IsB x.bytes) (hl : x.bytes.length ≤ 140737488351232) (o : Obj)
    (hm : MapAt { (w1.alloc (.cells (flCells v x) 100)) with heap := (w1.alloc (.cells (flCells v x) 100)).heap.setIfInBounds fo o } fo (putK F k w1.heap.size)) :
    ∃ c' bv', PreAt { (w1.alloc (.cells (flCells v x) 100)) with heap := (w1.alloc (.cells (flCells v x) 100)).heap.setIfInBounds fo o } base (putK F k w1.heap.size) (updF fl w1.heap.size x) (w1.heap.size :: ps) c' fo bv' ∧ w1.heap.size ∉ ps := by
  have hs := hb.size
  have hfl := h.fold.lt
  have hq : ∀ p ∈ ps, p ≠ w1.heap.size := fun p hp e => by have := h.plt hp; omega
  have hk : ∀ i, i ≠ fo → i < w1.heap.size → ({ (w1.alloc (.cells (flCells v x) 100)) with heap := (w1.alloc (.cells (flCells v x) 100)).heap.setIfInBounds fo o } : World).heap[i]? = w1.heap[i]? := fun i hne hlt => by
    show ((w1.alloc (.cells (flCells v x) 100)).heap.setIfInBounds fo o)[i]? = _
    rw [Array.getElem?_setIfInBounds_ne (Ne.symm hne)]
    exact heap_alloc_old w1 _ hlt
  have hk0 : ∀ i, c i ≠ 0 → c i ≠ 2 → ({ (w1.alloc (.cells (flCells v x) 100)) with heap := (w1.alloc (.cells (flCells v x) 100)).heap.setIfInBounds fo o } : World).heap[i]? = w.heap[i]? := fun i h0 h2 => (hk i (fun e => h2 (by rw [e]; exact h.cf)) (by have := h.col h0; omega)).trans (hb.block i (h.col h0))
  have hnew : ({ (w1.alloc (.cells (flCells v x) 100)) with heap := (w1.alloc (.cells (flCells v x) 100)).heap.setIfInBounds fo o } : World).heap[w1.heap.size]? = some (.cells (flCells v x) 100 (0, 0)) := by
    show ((w1.alloc (.cells (flCells v x) 100)).heap.setIfInBounds fo o)[w1.heap.size]? = _
    rw [Array.getElem?_setIfInBounds_ne (by omega)]
    exact heap_alloc_new w1 _
  have hsz : ({ (w1.alloc (.cells (flCells v x) 100)) with heap := (w1.alloc (.cells (flCells v x) 100)).heap.setIfInBounds fo o } : World).heap.size = w1.heap.size + 1 := by simp
  generalize ({ (w1.alloc (.cells (flCells v x) 100)) with heap := (w1.alloc (.cells (flCells v x) 100)).heap.setIfInBounds fo o } : World) = w3 at *
  let c' : Nat → Nat := fun i => if i < w.heap.size then c i else if i = w1.heap.size then 6 else if v.ownBlock = some i then 7 + w1.heap.size else 0
  have hold : ∀ i, i < w.heap.size → c' i = c i := fun i hi => by show (if i < w.heap.size then c i else _) = _; rw [if_pos hi]
  have hol : ∀ i, c i ≠ 0 → c' i = c i := fun i h0 => hold i (h.col h0)
  let bv' : Nat → Value := fun p => if p = w1.heap.size then v else bv p
  have hbn : bv' w1.heap.size = v := if_pos rfl
  have hbo : ∀ p ∈ ps, bv' p = bv p := fun p hp => if_neg (hq p hp)
  have hfn : updF fl w1.heap.size x w1.heap.size = x := if_pos rfl
  have hfo : ∀ p ∈ ps, updF fl w1.heap.size x p = fl p := fun p hp => if_neg (hq p hp)
  refine ⟨c', bv', ?_, fun hm => hq _ hm rfl⟩
  exact {
    fold := hm
    cf := (hol fo (by rw [h.cf]; decide)).trans h.cf
    file := fun p hp => by
      rcases List.mem_cons.1 hp with rfl | hp
      · rw [hbn, hfn]
        refine ⟨hnew, ?_⟩
        show (if w1.heap.size < w.heap.size then _ else if w1.heap.size = w1.heap.size then 6 else _) = 6
        rw [if_neg (by omega), if_pos rfl]
      · rw [hbo p hp, hfo p hp]
        have h6 := (h.file p hp).2
        exact ⟨(hk0 p (by rw [h6]; decide) (by rw [h6]; decide)).trans (h.file p hp).1, (hol p (by rw [h6]; decide)).trans h6⟩
    byt := fun p hp => by
      rcases List.mem_cons.1 hp with rfl | hp
      · rw [hbn, hfn]
        refine ⟨own_blk (hv.mono h.base_le) fun i e => ?_, hB, hl⟩
        have := World.ownsRow.lt hv i e
        exact hk i (by omega) this.2
      · rw [hbo p hp, hfo p hp]
        exact ⟨own_blk (h.byt p hp).1 fun i e => by
          have h7 := h.cb p hp i e
          exact hk0 i (by rw [h7]; omega) (by rw [h7]; omega), (h.byt p hp).2⟩
    cb := fun p hp i e => by
      rcases List.mem_cons.1 hp with rfl | hp
      · rw [hbn] at e
        have := World.ownsRow.lt hv i e
        show (if i < w.heap.size then _ else if i = w1.heap.size then 6 else if v.ownBlock = some i then 7 + w1.heap.size else 0) = 7 + w1.heap.size
        rw [if_neg (by omega), if_neg (by omega), if_pos e]
      · rw [hbo p hp] at e
        exact (hol i (by rw [h.cb p hp i e]; omega)).trans (h.cb p hp i e)
    fin := fun y hy => by
      rcases mem_put hy with hy | hy
      · exact List.mem_cons_of_mem _ (h.fin y hy)
      · rw [hy]; exact List.mem_cons_self
    high := fun b hb2 => by
      rw [hsz] at hb2
      show (if b < w.heap.size then _ else if b = w1.heap.size then 6 else if v.ownBlock = some b then 7 + w1.heap.size else 0) = 0
      rw [if_neg (by omega), if_neg (by omega), if_neg (fun e => by have := (World.ownsRow.lt hv b e).2; omega)]
    low := fun b hb2 => by
      by_cases hlt : b < w.heap.size
      · rw [hold b hlt] at hb2; exact h.low b hb2
      · have := h.base_le; omega
    base_le := by rw [hsz]; have := h.base_le; omega }
/-- The disk over the folder. -/
theorem PreAt.disk (h : PreAt w base F fl ps c fo bv) (room : Int) (hm : MapAt w1 w.heap.size F) (hb : Below w.heap.size w w1) (hs : w1.heap.size = w.heap.size + 1) :
    ∃ c', DkAt (w1.alloc (.cells #[.int .i64 room, .bool true, .map (some fo), .map (some w.heap.size), .slice none 0 0, .slice none 0 0, .int .i64 0, .int .i64 0, .bool true] 71)) base w1.heap.size ⟨room, true, F, F, [], [], 0, 0, fl, ps⟩ c' fo w.heap.size (.slice none 0 0) (.slice none 0 0) bv := by
  have h1 := h.below hb
  have h2 := h1.below ((Below.refl w1.heap.size w1).alloc (Nat.le_refl _) (.cells #[.int .i64 room, .bool true, .map (some fo), .map (some w.heap.size), .slice none 0 0, .slice none 0 0, .int .i64 0, .int .i64 0, .bool true] 71))
  let c' : Nat → Nat := fun i => if i < w.heap.size then c i else if i = w.heap.size then 3 else if i = w1.heap.size then 1 else 0
  have hol : ∀ i, c i ≠ 0 → c' i = c i := fun i h0 => by
    have := h.col h0
    show (if i < w.heap.size then c i else _) = _
    rw [if_pos this]
  refine ⟨c', ?_⟩
  exact {
    disk := heap_alloc_new w1 _
    cd := by
      show (if w1.heap.size < w.heap.size then _ else if w1.heap.size = w.heap.size then 3 else if w1.heap.size = w1.heap.size then 1 else 0) = 1
      rw [if_neg (by omega), if_neg (by omega), if_pos rfl]
    fold := h2.fold
    cf := (hol fo (by rw [h.cf]; decide)).trans h.cf
    dur := hm.keep (heap_alloc_old w1 _ hm.lt)
    cu := by
      show (if w.heap.size < w.heap.size then _ else if w.heap.size = w.heap.size then 3 else _) = 3
      rw [if_neg (by omega), if_pos rfl]
    pend := World.ownsRow_nil _ _ _ _
    cp := fun g e => by cases e
    plan := ⟨none, 0, rfl, by simp, by simp, fun _ => rfl, fun b hb => by cases hb⟩
    file := fun p hp => ⟨(h2.file p hp).1, (hol p (by rw [(h.file p hp).2]; decide)).trans (h.file p hp).2⟩
    byt := h2.byt
    cb := fun p hp i e => (hol i (by rw [h.cb p hp i e]; omega)).trans (h.cb p hp i e)
    fin := h.fin
    din := h.fin
    pin := fun x hx => by cases hx
    high := fun b hb2 => by
      rw [World.size_alloc] at hb2
      show (if b < w.heap.size then _ else if b = w.heap.size then 3 else if b = w1.heap.size then 1 else 0) = 0
      rw [if_neg (by omega), if_neg (by omega), if_neg (by omega)]
    low := fun b hb2 => by
      by_cases hlt : b < w.heap.size
      · rw [show c' b = c b from if_pos hlt] at hb2; exact h.low b hb2
      · have := h.base_le; omega
    base_le := h2.base_le }
end
end Go.Proofs.Ytaeiijncklmfdaa
