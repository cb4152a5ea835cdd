/-
  bytes.HasPrefix at a line's continuation; words.Words.Text where there is a text; End at a semicolon.
-/
import Derived.Test.YtadjonggmbndmaaNumber
import Derived.Laws.BytesArg
namespace Go.Proofs.Ytadjonggmbndmaa
open Go.RowKit

theorem getD_eq (l : List Int) (i : Nat) : l.getD i 0 = l[i]?.getD 0 := by simp

/-- string(v) of a list that has a byte. -/
theorem SB.str {w : World} {b o n cap : Nat} {l : List Int} (h : SB w (.slice (some ⟨b, o, none⟩) n cap) l) (m c : Nat) (hm : m ≤ n) :
    (convert 35 9 (.slice (some ⟨b, o, none⟩) m c)).run Try.prog w = .ok (.string (strOfNums (l.take m))) w := by
  obtain ⟨hl, hc⟩ := h.cells
  exact run_convert_bytes_arg (P := Try.prog) w 35 5 Try.underlying35 Try.underlying5 b o m c (l.take m) (by rw [List.length_take]; omega) (fun i hi => by
    rw [getD_eq, List.getElem?_take_of_lt hi]; exact hc i (by omega)) 9 Try.underlying9

set_option maxHeartbeats 400000 in
theorem hasPrefix_yes (w : World) (b o n cap b2 o2 n2 cap2 : Nat) (l m : List Int) (h : SB w (.slice (some ⟨b, o, none⟩) n cap) l) (h2 : SB w (.slice (some ⟨b2, o2, none⟩) n2 cap2) m) (hn : n2 ≤ n) (hc : n ≤ cap) (h0 : 0 < n2) (hp : l.take n2 = m) :
    Calls Try.prog 63 #[.slice (some ⟨b, o, none⟩) n cap, .slice (some ⟨b2, o2, none⟩) n2 cap2] w fun e w' => e = .returned (.bool true) ∧ w = w' := by
  have g1 := h.str n2 cap hn
  have g2 := h2.str n2 cap2 (Nat.le_refl _)
  have hl2 := h2.cells.1
  rw [List.take_of_length_le (by omega), ← hp] at g2
  obtain ⟨_, _, _, he, hle, _⟩ := id h
  simp only [Value.slice.injEq] at he
  have hle : n ≤ 140737488351232 := by omega
  generalize strOfNums (l.take n2) = s at g1 g2
  clear h h2 hp he hl2
  go_enter Try.func63, Try.ntmps63
  go_wp2
  go_ret
  exact ⟨rfl, rfl⟩
end Go.Proofs.Ytadjonggmbndmaa
