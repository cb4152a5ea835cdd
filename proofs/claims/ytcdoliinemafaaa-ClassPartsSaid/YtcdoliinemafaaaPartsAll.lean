/-
  galleylaw01.ClassParts at every input.
-/
import Derived.Test.YtcdoliinemafaaaPartsLaw
namespace Go.Proofs.Ytcdoliinemafaaa
open Go.RowKit

set_option maxRecDepth 100000 in
theorem parts_walk (w : World) (a0 : Option Addr) (n c0 : Nat) (l : List Cl) (h : CC w (.slice a0 n c0) l) :
    Calls Try.prog 9 #[.slice a0 n c0] w fun e w' => e = .returned (.bool true) ∧ Below w.heap.size w w' := by
  by_cases hn : n ≤ 65536
  · exact parts_main w a0 n c0 l h hn
  · have hn2 : (65536 : Int) < (n : Int) := by omega
    clear h hn
    go_enter Try.func9, Try.ntmps9
    go_wp2_with fail
    refine (works_any _).mono ?_
    rintro e w1 ⟨rfl, hb1⟩
    go_wp2_with fail
    go_ret
    exact ⟨rfl, hb1⟩
end Go.Proofs.Ytcdoliinemafaaa
