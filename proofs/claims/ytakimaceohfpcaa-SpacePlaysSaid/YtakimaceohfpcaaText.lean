/-
  bytes.HasPrefix at a line's continuation; words.Words.Text where there is a text; End at a semicolon.
-/
import Derived.Test.YtakimaceohfpcaaWords0
import Derived.Laws.BytesArg
namespace Go.Proofs.Ytakimaceohfpcaa
open Go.RowKit

theorem getD_eq (l : List Int) (i : Nat) : l.getD i 0 = l[i]?.getD 0 := by simp

/-- string(v) of a list that has a byte. -/
theorem SB.str {w : World} {b o n cap : Nat} {l : List Int} (h : SB w (.slice (some ⟨b, o, none⟩) n cap) l) (m c : Nat) (hm : m ≤ n) :
    (convert 45 9 (.slice (some ⟨b, o, none⟩) m c)).run Try.prog w = .ok (.string (strOfNums (l.take m))) w := by
  obtain ⟨hl, hc⟩ := h.cells
  exact run_convert_bytes_arg (P := Try.prog) w 45 5 Try.underlying45 Try.underlying5 b o m c (l.take m) (by rw [List.length_take]; omega) (fun i hi => by
    rw [getD_eq, List.getElem?_take_of_lt hi]; exact hc i (by omega)) 9 Try.underlying9
end Go.Proofs.Ytakimaceohfpcaa
