/-
  galleylaw25.SpaceLines at every input.
-/
import Derived.Test.YtadjonggmbndmaaLinesLaw
namespace Go.Proofs.Ytadjonggmbndmaa
open Go.RowKit

theorem lines_walk (w : World) (most : Int) (a1 : Option Addr) (n1 c1 : Nat) (r : List (List Int)) (s1 : RB w (.slice a1 n1 c1) r) (a2 : Option Addr) (n2 c2 : Nat) (q : List Bool) (s2 : CB w (.slice a2 n2 c2) q) :
    Calls Try.prog 10 #[.int .i64 most, .slice a1 n1 c1, .slice a2 n2 c2] w fun e w' => e = .returned (.bool true) ∧ Below w.heap.size w w' := by
  by_cases hm : most < 0 ∨ 1048576 < most
  · exact lines_no w most a1 n1 c1 r s1 _ hm
  · exact lines_yes w most a1 n1 c1 r s1 a2 n2 c2 q s2 (by omega) (by omega)
end Go.Proofs.Ytadjonggmbndmaa
