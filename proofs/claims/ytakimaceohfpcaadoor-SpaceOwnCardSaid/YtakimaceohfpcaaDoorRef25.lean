/-
  galleyref25.Space: what a place in memory holds, what a call leaves.
-/
import Derived.Test.YtakimaceohfpcaaDoorSpWorks
import Derived.Test.YtakimaceohfpcaaDoorFirst
import Derived.Test.YtakimaceohfpcaaDoorCopy
import Derived.Test.YtakimaceohfpcaaDoorUp
import Derived.Test.YtakimaceohfpcaaDoorApp
import Derived.Deep.CutBlock
import Derived.Deep.DeepCutAuto
import Derived.StillTailTactics
import Derived.Deep.RegionHeld3
namespace Go.Proofs.YtakimaceohfpcaaDoor
open Go.RowKit

/-- Block g of w is a galleyref25.Space that New made, its rows owned in blocks from base on. -/
structure Rp (w : World) (g base : Nat) (most : Int) (pv hv : Value) (p h : List Int) : Prop where
  blk : w.heap[g]? = some (.cells #[.int .i64 most, pv, hv, .bool true] 123 (0, 0))
  gb : base ≤ g
  op : OwnB w base pv p
  oh : OwnB w base hv h
  ap : Apart pv hv
  bp : IsB p
  bh : IsB h
  lp : (p.length : Int) ≤ most
  lh : (h.length : Int) ≤ most
  lm : most ≤ 1048576

theorem Rp.lt {w : World} {g base : Nat} {most : Int} {pv hv : Value} {p h : List Int} (s : Rp w g base most pv hv p h) : g < w.heap.size := (Array.getElem?_eq_some_iff.1 s.blk).1
theorem neR : (123 : TypeId) ≠ 5 := by decide
theorem Rp.np {w : World} {g base : Nat} {most : Int} {pv hv : Value} {p h : List Int} (s : Rp w g base most pv hv p h) : pv.ownBlock ≠ some g := own_not s.op s.blk neR
theorem Rp.nh {w : World} {g base : Nat} {most : Int} {pv hv : Value} {p h : List Int} (s : Rp w g base most pv hv p h) : hv.ownBlock ≠ some g := own_not s.oh s.blk neR
theorem Rp.below {w w' : World} {g base : Nat} {most : Int} {pv hv : Value} {p h : List Int} (s : Rp w g base most pv hv p h) (hb : Below w.heap.size w w') : Rp w' g base most pv hv p h :=
  { s with blk := by rw [hb.block g s.lt]; exact s.blk, op := s.op.below hb, oh := s.oh.below hb }
theorem Rp.swap {w : World} {g base : Nat} {most : Int} {pv hv : Value} {p h : List Int} (s : Rp w g base most pv hv p h) : Apart hv pv := s.ap.symm

def RpPost (w : World) (g base : Nat) (most : Int) (pv hv : Value) (p' h' : List Int) (v : Value) (e : Ending) (w' : World) : Prop :=
  ∃ pv' hv', e = .returned v ∧ Rp w' g base most pv' hv' p' h' ∧ SpStep w w' g base pv hv pv' hv'

theorem Rp.cells {w : World} {g base : Nat} {most : Int} {pv hv : Value} {p h : List Int} (s : Rp w g base most pv hv p h) :
    w.cell? ⟨g, 0, none⟩ = some (.int .i64 most) ∧ w.cell? ⟨g, 1, none⟩ = some pv ∧ w.cell? ⟨g, 2, none⟩ = some hv ∧ w.cell? ⟨g, 3, none⟩ = some (.bool true) ∧ w.frozen? ⟨g, 1, none⟩ = false ∧ w.frozen? ⟨g, 2, none⟩ = false := by
  have hg := s.blk
  exact ⟨by rw [cell_of_row w g 0 _ _ (0, 0) hg]; rfl, by rw [cell_of_row w g 1 _ _ (0, 0) hg]; rfl, by rw [cell_of_row w g 2 _ _ (0, 0) hg]; rfl, by rw [cell_of_row w g 3 _ _ (0, 0) hg]; rfl, frozen_of_row w g 1 _ _ hg, frozen_of_row w g 2 _ _ hg⟩
theorem Rp.sbP {w : World} {g base : Nat} {most : Int} {pv hv : Value} {p h : List Int} (s : Rp w g base most pv hv p h) : SB w pv p := s.op.sb s.bp (by have := s.lp; have := s.lm; omega)
theorem Rp.sbH {w : World} {g base : Nat} {most : Int} {pv hv : Value} {p h : List Int} (s : Rp w g base most pv hv p h) : SB w hv h := s.oh.sb s.bh (by have := s.lh; have := s.lm; omega)
theorem Rp.len2P {w : World} {g base : Nat} {most : Int} {pv hv : Value} {p h : List Int} (s : Rp w g base most pv hv p h) : p.length ≤ 140737488351232 := by have := s.lp; have := s.lm; omega
theorem Rp.len2H {w : World} {g base : Nat} {most : Int} {pv hv : Value} {p h : List Int} (s : Rp w g base most pv hv p h) : h.length ≤ 140737488351232 := by have := s.lh; have := s.lm; omega
theorem Rp.base_le {w : World} {g base : Nat} {most : Int} {pv hv : Value} {p h : List Int} (s : Rp w g base most pv hv p h) : base ≤ w.heap.size := by have := s.gb; have := s.lt; omega

/-- A new pattern is stored. -/
theorem Rp.setP {w w1 : World} {g base : Nat} {most : Int} {pv hv v : Value} {p h b : List Int} (s : Rp w g base most pv hv p h) (hb : Below w.heap.size w w1) (ho : OwnB w1 w.heap.size v b) (hB : IsB b) (hl : (b.length : Int) ≤ most) :
    Rp (w1.setCell ⟨g, 1, none⟩ v) g base most v hv b h ∧ SpStep w (w1.setCell ⟨g, 1, none⟩ v) g base pv hv v hv := by
  have s1 := s.below hb
  have hlt := World.ownsRow.lt ho
  have hlg := s.lt
  have hlo := World.ownsRow.lt s.oh
  have hvg : v.ownBlock ≠ some g := fun e => by have := (hlt g e).1; omega
  refine ⟨⟨?_, s.gb, ?_, ?_, fun k e1 e2 => ?_, hB, s.bh, hl, s.lh, s.lm⟩, ⟨fun B w0 h0 hB0 => ?_, fun k hk hne _ _ => ?_, fun k hk => ?_, ?_⟩⟩
  · rw [heap_setCell_same w1 g 1 _ _ _ s1.blk]; rfl
  · exact ownsRow_setCell_other (OwnB.mono ho s.base_le) hvg _
  · exact ownsRow_setCell_other s1.oh s1.nh _
  · have := (hlt k e1).1; have := (hlo k e2).2; omega
  · exact (h0.trans (hb.mono (by have := s.base_le; omega))).setCell (by show B ≤ g; have := s.gb; omega) _
  · rw [Below.heap_setCell w1 ⟨g, 1, none⟩ v k hne, hb.block k hk]
  · rcases hk with e | e
    · exact .inr (.inr (hlt k e).1)
    · exact .inr (.inl e)
  · have := hb.size; simpa [World.setCell] using this
/-- A new hold is stored. -/
theorem Rp.setH {w w1 : World} {g base : Nat} {most : Int} {pv hv v : Value} {p h b : List Int} (s : Rp w g base most pv hv p h) (hb : Below w.heap.size w w1) (ho : OwnB w1 w.heap.size v b) (hB : IsB b) (hl : (b.length : Int) ≤ most) :
    Rp (w1.setCell ⟨g, 2, none⟩ v) g base most pv v p b ∧ SpStep w (w1.setCell ⟨g, 2, none⟩ v) g base pv hv pv v := by
  have s1 := s.below hb
  have hlt := World.ownsRow.lt ho
  have hlg := s.lt
  have hlo := World.ownsRow.lt s.op
  have hvg : v.ownBlock ≠ some g := fun e => by have := (hlt g e).1; omega
  refine ⟨⟨?_, s.gb, ?_, ?_, fun k e2 e1 => ?_, s.bp, hB, s.lp, hl, s.lm⟩, ⟨fun B w0 h0 hB0 => ?_, fun k hk hne _ _ => ?_, fun k hk => ?_, ?_⟩⟩
  · rw [heap_setCell_same w1 g 2 _ _ _ s1.blk]; rfl
  · exact ownsRow_setCell_other s1.op s1.np _
  · exact ownsRow_setCell_other (OwnB.mono ho s.base_le) hvg _
  · have := (hlt k e1).1; have := (hlo k e2).2; omega
  · exact (h0.trans (hb.mono (by have := s.base_le; omega))).setCell (by show B ≤ g; have := s.gb; omega) _
  · rw [Below.heap_setCell w1 ⟨g, 2, none⟩ v k hne, hb.block k hk]
  · rcases hk with e | e
    · exact .inl e
    · exact .inr (.inr (hlt k e).1)
  · have := hb.size; simpa [World.setCell] using this
theorem Rp.drewN {w : World} {g base : Nat} {most : Int} {pv hv : Value} {p h : List Int} (s : Rp w g base most pv hv p h) (n : Nat) : Rp (w.drewN n) g base most pv hv p h := s.below (below_drewN (Below.refl _ _) n)
end Go.Proofs.YtakimaceohfpcaaDoor
