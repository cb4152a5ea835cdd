/-
  What OptsFlags holds: a box of options, a list of words, a list of parts.
-/
import Derived.Test.YtdbkoephkdfbfaaBackO
import Derived.Test.YtdbkoephkdfbfaaFlagM
import Derived.Test.YtdbkoephkdfbfaaFlagS
namespace Go.Proofs.Ytdbkoephkdfbfaa
open Go.RowKit

theorem nePO : (38 : TypeId) ≠ 25 := by decide
theorem neTP : (9 : TypeId) ≠ 38 := by decide
/-- b8: the box; o has no files yet. -/
structure FO (w wr : World) (b8 : Nat) (o : Opt) (pv av : Value) (l : List Str) : Prop where
  bel : Below w.heap.size w wr
  hb : w.heap.size ≤ b8
  sz : b8 + 1 ≤ wr.heap.size
  box : wr.heap[b8]? = some (.cells (fullO o pv (.slice none 0 0)) TOpt (0, 0))
  own : OwnPt wr (b8 + 1) pv o.parts
  owa : OwnT wr (b8 + 1) av l
section
variable {w wr w' : World} {b8 : Nat} {o : Opt} {pv av : Value} {l : List Str}
theorem FO.cell (h : FO w wr b8 o pv av l) (j : Nat) : wr.cell? ⟨b8, j, none⟩ = (fullO o pv (.slice none 0 0))[j]? := cell_of_row wr b8 j _ _ (0, 0) h.box
theorem FO.frozen (h : FO w wr b8 o pv av l) (j : Nat) : wr.frozen? ⟨b8, j, none⟩ = false := frozen_of_row wr b8 j _ _ h.box
theorem FO.set (h : FO w wr b8 o pv av l) (j : Nat) (v : Value) (o' : Opt) (hc : (fullO o pv (.slice none 0 0)).setIfInBounds j v = fullO o' pv (.slice none 0 0)) (hp : o'.parts = o.parts) : FO w (wr.setCell ⟨b8, j, none⟩ v) b8 o' pv av l := by
  refine ⟨h.bel.setCell h.hb _, h.hb, by simpa [World.setCell] using h.sz, ?_, ?_, ?_⟩
  · rw [heap_setCell_same wr b8 j _ TOpt v h.box, hc]
  · rw [hp]; exact ownsRow_setCell_below h.own (a := ⟨b8, j, none⟩) (by simp) _
  · exact ownsRow_setCell_below h.owa (a := ⟨b8, j, none⟩) (by simp) _
/-- Words are appended. -/
theorem FO.app (h : FO w wr b8 o pv av l) {av' : Value} {l' : List Str} (ho : OwnT w' (b8 + 1) av' l') (hp : AppPost wr w' (b8 + 1) av av') : FO w w' b8 o pv av' l' := by
  refine ⟨hp.bel _ _ h.bel (by have := h.hb; omega), h.hb, Nat.le_trans h.sz hp.size, (keepT_app h.owa hp neTO b8 _ h.box).trans h.box, ?_, ho⟩
  exact ⟨h.own.1, h.own.2.imp_right fun ⟨g, cap, cur, e1, h1, hh, r⟩ => ⟨g, cap, cur, e1, h1, (keepT_app h.owa hp neTP g _ hh).trans hh, r⟩⟩
/-- A part is appended, and the list stored. -/
theorem FO.push (h : FO w wr b8 o pv av l) {pv' : Value} {f : Bool} {t : Str} (ho : OwnPt w' (b8 + 1) pv' (o.parts ++ [(f, t)])) (hp : AppPost wr w' (b8 + 1) pv pv') : FO w (w'.setCell ⟨b8, 4, none⟩ pv') b8 (push o f t) pv' av l ∧ w'.cell? ⟨b8, 4, none⟩ = some pv ∧ w'.frozen? ⟨b8, 4, none⟩ = false := by
  have hbx : w'.heap[b8]? = some (.cells (fullO o pv (.slice none 0 0)) TOpt (0, 0)) := (keepT_app h.own hp nePO b8 _ h.box).trans h.box
  have hoa : OwnT w' (b8 + 1) av l := ⟨h.owa.1, h.owa.2.imp_right fun ⟨g, cap, cur, e1, h1, hh, r⟩ => ⟨g, cap, cur, e1, h1, (keepT_app h.own hp neTP.symm g _ hh).trans hh, r⟩⟩
  refine ⟨⟨(hp.bel _ _ h.bel (by have := h.hb; omega)).setCell h.hb _, h.hb, by have := hp.size; have := h.sz; simp [World.setCell]; omega, ?_, ?_, ?_⟩, by rw [cell_of_row w' b8 4 _ _ (0, 0) hbx]; rfl, frozen_of_row w' b8 4 _ _ hbx⟩
  · rw [heap_setCell_same w' b8 4 _ TOpt pv' hbx]; rfl
  · exact ownsRow_setCell_below ho (a := ⟨b8, 4, none⟩) (by simp) _
  · exact ownsRow_setCell_below hoa (a := ⟨b8, 4, none⟩) (by simp) _
end
end Go.Proofs.Ytdbkoephkdfbfaa
