/-
  Layer 3: what is no disk: nil, or a plain one.
-/
import Derived.Test.YtaeiijncklmfdaaDkR
namespace Go.Proofs.Ytaeiijncklmfdaa
open Go.RowKit

def zeroDk : Array Value := #[.int .i64 0, .bool false, .map none, .map none, .slice none 0 0, .slice none 0 0, .int .i64 0, .int .i64 0, .bool false]
def NoD (w : World) (v : Value) : Prop := v = .pointer none ∨ ∃ g, v = .pointer (some ⟨g, 0, none⟩) ∧ w.heap[g]? = some (.cells zeroDk 71 (0, 0))
theorem NoD.below {w w' : World} {v : Value} (h : NoD w v) (hb : Below w.heap.size w w') : NoD w' v := by
  rcases h with h | ⟨g, h1, h2⟩
  · exact .inl h
  · exact .inr ⟨g, h1, (hb.block g (Array.getElem?_eq_some_iff.1 h2).1).trans h2⟩
theorem isDisk_no (w : World) (v : Value) (h : NoD w v) : Calls Try.prog 53 #[v] w fun e w' => e = .returned (.bool false) ∧ w' = w := by
  rcases h with rfl | ⟨g, rfl, h⟩
  · go_enter Try.func53, Try.ntmps53
    go_wp2_with fail
    go_ret
    exact ⟨rfl, rfl⟩
  · have h8 : w.cell? ⟨g, 8, none⟩ = some (.bool false) := by rw [cell_of_row w g 8 _ _ _ h]; rfl
    go_enter Try.func53, Try.ntmps53
    go_wp2_with fail
    go_ret
    exact ⟨rfl, rfl⟩
end Go.Proofs.Ytaeiijncklmfdaa
