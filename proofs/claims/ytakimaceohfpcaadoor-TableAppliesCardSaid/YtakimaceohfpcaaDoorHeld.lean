/-
  A row that a region reads whole, carried over calls that make memory.
-/
import Derived.Test.YtakimaceohfpcaaDoorBytes
import Derived.Test.YtakimaceohfpcaaDoorApp
import Derived.Deep.RegionHeld3
import Derived.Deep.MidRow
namespace Go.Proofs.YtakimaceohfpcaaDoor
open Go.RowKit

theorem Arr.range {w : World} {g : Nat} {T : TypeId} {l : List Int} (h : Arr w g T l) : w.rangeAt g 0 (row l).toList := fun j v hv => by
  rw [Nat.zero_add, cell_of_row w g j _ T (0, 0) h]
  simpa using hv
theorem range_below {w w' : World} {g : Nat} {cs : List Value} (h : w.rangeAt g 0 cs) (hb : Below w.heap.size w w') : w'.rangeAt g 0 cs := fun j v hv => by
  have := h j v hv
  rw [hb.cell (World.block_lt_of_cell? w _ this)]
  exact this
theorem keepS {w0 w w' : World} {g : Nat} {cs : List Value} (h : w.rangeAt g 0 cs ∧ Below w0.heap.size w0 w) (hb : Below w.heap.size w w') : w'.rangeAt g 0 cs ∧ Below w0.heap.size w0 w' :=
  ⟨range_below h.1 hb, h.2.trans (hb.mono h.2.size)⟩

end Go.Proofs.YtakimaceohfpcaaDoor
