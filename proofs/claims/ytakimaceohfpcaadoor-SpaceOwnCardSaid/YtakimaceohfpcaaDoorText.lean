/-
  bytes.HasPrefix at a line's continuation; words.Words.Text where there is a text; End at a semicolon.
-/
import Derived.Test.YtakimaceohfpcaaDoorWords0
import Derived.Laws.BytesArg
namespace Go.Proofs.YtakimaceohfpcaaDoor
open Go.RowKit

theorem getD_eq (l : List Int) (i : Nat) : l.getD i 0 = l[i]?.getD 0 := by simp

/-- string(v) of a list that has a byte. -/
theorem SB.str {w : World} {b o n cap : Nat} {l : List Int} (h : SB w (.slice (some ⟨b, o, none⟩) n cap) l) (m c : Nat) (hm : m ≤ n) :
    (convert 48 9 (.slice (some ⟨b, o, none⟩) m c)).run Tryd.prog w = .ok (.string (strOfNums (l.take m))) w := by
  obtain ⟨hl, hc⟩ := h.cells
  exact run_convert_bytes_arg (P := Tryd.prog) w 48 5 Tryd.underlying48 Tryd.underlying5 b o m c (l.take m) (by rw [List.length_take]; omega) (fun i hi => by
    rw [getD_eq, List.getElem?_take_of_lt hi]; exact hc i (by omega)) 9 Tryd.underlying9
end Go.Proofs.YtakimaceohfpcaaDoor
