/-
  No cell of these rows narrows 'for every input' (looked for: loops, veiled, ifaces, maps, wideKeys, modest, calm, conditions, laid).
  DERIVED. THE GIVEN ROWS OF THIS SEAT. 6 by the template 'for every input the law returns true; each argument reads behind the call as it read before'; 0 by the template 'total and deterministic' (their statements: YtfmcjmkdlldlhaaTotals.lean).
  GIVEN WITH THE SEED: the statements are not yours to turn. If you find one false, say at which input.
  Laid BY PROGRAM, IN A SANDBOX (cutbox-rows.mjs): the forced cells as the released guide's own fill.sh prints them over the translation 00c1369e7e091711… (all of the seat's roots in one cut). By AI agents, Wed Nov 11 2026. No macro, syntax, notation, axiom, sorry.
-/
import Derived.Test.YtfmcjmkdlldlhaaChecked
import GoSem.Claim
import GoSem.ClaimJoined
import GoSem.ClaimMapViews
import Derived.JoinedTies
import Derived.KernelRfl
namespace Go.Proofs.Ytfmcjmkdlldlhaa
/- THE CELL 'sum', in the pinned program and in every row, IS THE sha256 OF THE DUMP (.gsa) THAT YtfmcjmkdlldlhaaProg.lean LOADS. Nothing in Lean hashes anything: it is a label: what it is worth is what the hold of that sum in a sandbox is worth. -/
noncomputable def Try.pinned : Pinned := { name := "ytfmcjmkdlldlhaa", sum := "00c1369e7e091711188edb44b0603a675d8a88cdcad5d0b386fd49a08fe5cf35", checked := Try.checked }
namespace Rows
def none {H : Type} : Left H := { results := [], args := [] }

/-- 'galleylaw08.LongestNews': WHATEVER THE INPUT: true; the input reads as it did. -/
def longestNewsSpec : ChangeSpec := { name := "longestNews", fn := fun _ => fun
  | [d1, d2] => { results := [.lit (.bool true)], args := [d1, d2] }
  | _ => none }
def longestNewsRow : OpenClaim := { program := "ytfmcjmkdlldlhaa", sum := "00c1369e7e091711188edb44b0603a675d8a88cdcad5d0b386fd49a08fe5cf35", func := "galley/galleylaw08.LongestNews", spec := "longestNews", unfollowed := true, recurses := true, apart := false }
def LongestNewsSaid : Prop := longestNewsRow.holds Try.pinned (OpenSpec.ofChange longestNewsSpec)

/-- ITS FALSE NEIGHBOUR: 'it returns false'. Refute it at one input. -/
def longestNewsWrong : ChangeSpec := { name := "longestNews", fn := fun _ => fun
  | [d1, d2] => { results := [.lit (.bool false)], args := [d1, d2] }
  | _ => none }
def LongestNewsWrongFalsely : Prop := longestNewsRow.holds Try.pinned (OpenSpec.ofChange longestNewsWrong)

/-- 'galleylaw08.LongestIs': WHATEVER THE INPUT: true; the input reads as it did. -/
def longestIsSpec : ChangeSpec := { name := "longestIs", fn := fun _ => fun
  | [d1, d2, d3] => { results := [.lit (.bool true)], args := [d1, d2, d3] }
  | _ => none }
def longestIsRow : OpenClaim := { program := "ytfmcjmkdlldlhaa", sum := "00c1369e7e091711188edb44b0603a675d8a88cdcad5d0b386fd49a08fe5cf35", func := "galley/galleylaw08.LongestIs", spec := "longestIs", unfollowed := true, recurses := true, apart := false }
def LongestIsSaid : Prop := longestIsRow.holds Try.pinned (OpenSpec.ofChange longestIsSpec)

/-- ITS FALSE NEIGHBOUR: 'it returns false'. Refute it at one input. -/
def longestIsWrong : ChangeSpec := { name := "longestIs", fn := fun _ => fun
  | [d1, d2, d3] => { results := [.lit (.bool false)], args := [d1, d2, d3] }
  | _ => none }
def LongestIsWrongFalsely : Prop := longestIsRow.holds Try.pinned (OpenSpec.ofChange longestIsWrong)

/-- 'galleylaw08.LongestShifts': WHATEVER THE INPUT: true; the input reads as it did. -/
def longestShiftsSpec : ChangeSpec := { name := "longestShifts", fn := fun _ => fun
  | [d] => { results := [.lit (.bool true)], args := [d] }
  | _ => none }
def longestShiftsRow : OpenClaim := { program := "ytfmcjmkdlldlhaa", sum := "00c1369e7e091711188edb44b0603a675d8a88cdcad5d0b386fd49a08fe5cf35", func := "galley/galleylaw08.LongestShifts", spec := "longestShifts", unfollowed := true, recurses := true, apart := false }
def LongestShiftsSaid : Prop := longestShiftsRow.holds Try.pinned (OpenSpec.ofChange longestShiftsSpec)

/-- ITS FALSE NEIGHBOUR: 'it returns false'. Refute it at one input. -/
def longestShiftsWrong : ChangeSpec := { name := "longestShifts", fn := fun _ => fun
  | [d] => { results := [.lit (.bool false)], args := [d] }
  | _ => none }
def LongestShiftsWrongFalsely : Prop := longestShiftsRow.holds Try.pinned (OpenSpec.ofChange longestShiftsWrong)

/-- 'galleylaw08.LongestBoth': WHATEVER THE INPUT: true; the input reads as it did. -/
def longestBothSpec : ChangeSpec := { name := "longestBoth", fn := fun _ => fun
  | [d] => { results := [.lit (.bool true)], args := [d] }
  | _ => none }
def longestBothRow : OpenClaim := { program := "ytfmcjmkdlldlhaa", sum := "00c1369e7e091711188edb44b0603a675d8a88cdcad5d0b386fd49a08fe5cf35", func := "galley/galleylaw08.LongestBoth", spec := "longestBoth", unfollowed := true, recurses := true, apart := false }
def LongestBothSaid : Prop := longestBothRow.holds Try.pinned (OpenSpec.ofChange longestBothSpec)

/-- ITS FALSE NEIGHBOUR: 'it returns false'. Refute it at one input. -/
def longestBothWrong : ChangeSpec := { name := "longestBoth", fn := fun _ => fun
  | [d] => { results := [.lit (.bool false)], args := [d] }
  | _ => none }
def LongestBothWrongFalsely : Prop := longestBothRow.holds Try.pinned (OpenSpec.ofChange longestBothWrong)

/-- 'galleylaw08.LongestBytes': WHATEVER THE INPUT: true; the input reads as it did. -/
def longestBytesSpec : ChangeSpec := { name := "longestBytes", fn := fun _ => fun
  | [d1, d2, d3] => { results := [.lit (.bool true)], args := [d1, d2, d3] }
  | _ => none }
def longestBytesRow : OpenClaim := { program := "ytfmcjmkdlldlhaa", sum := "00c1369e7e091711188edb44b0603a675d8a88cdcad5d0b386fd49a08fe5cf35", func := "galley/galleylaw08.LongestBytes", spec := "longestBytes", unfollowed := true, recurses := true, apart := false }
def LongestBytesSaid : Prop := longestBytesRow.holds Try.pinned (OpenSpec.ofChange longestBytesSpec)

/-- ITS FALSE NEIGHBOUR: 'it returns false'. Refute it at one input. -/
def longestBytesWrong : ChangeSpec := { name := "longestBytes", fn := fun _ => fun
  | [d1, d2, d3] => { results := [.lit (.bool false)], args := [d1, d2, d3] }
  | _ => none }
def LongestBytesWrongFalsely : Prop := longestBytesRow.holds Try.pinned (OpenSpec.ofChange longestBytesWrong)

/-- 'galleylaw08.LongestTwo': WHATEVER THE INPUT: true; the input reads as it did. -/
def longestTwoSpec : ChangeSpec := { name := "longestTwo", fn := fun _ => fun
  | [d1, d2, d3] => { results := [.lit (.bool true)], args := [d1, d2, d3] }
  | _ => none }
def longestTwoRow : OpenClaim := { program := "ytfmcjmkdlldlhaa", sum := "00c1369e7e091711188edb44b0603a675d8a88cdcad5d0b386fd49a08fe5cf35", func := "galley/galleylaw08.LongestTwo", spec := "longestTwo", unfollowed := true, recurses := true, apart := false }
def LongestTwoSaid : Prop := longestTwoRow.holds Try.pinned (OpenSpec.ofChange longestTwoSpec)

/-- ITS FALSE NEIGHBOUR: 'it returns false'. Refute it at one input. -/
def longestTwoWrong : ChangeSpec := { name := "longestTwo", fn := fun _ => fun
  | [d1, d2, d3] => { results := [.lit (.bool false)], args := [d1, d2, d3] }
  | _ => none }
def LongestTwoWrongFalsely : Prop := longestTwoRow.holds Try.pinned (OpenSpec.ofChange longestTwoWrong)

/- THE SECOND FORM. 'bulk': how many values and letters a reading holds, each counted each time it is reached (what is shared counts as often as it is met; a slice's spare places count too). A statement '..UptoSaid' is the law's where the arguments, and the package variables that the reading takes, are together of bulk at most 1048576: NARROWER than '..Said'. Prove '..Said' where nothing that the law and all that it calls make is longer than what came in: it says more and counts as full. Else prove '..UptoSaid'. A law counts once. -/
mutual
def uptoBulk {H : Type} : DataW H → Nat
  | .lit (.string bytes) => bytes.length + 1
  | .lit _ => 1
  | .nil => 1
  | .ptr d => uptoBulk d + 1
  | .slice elems spare => uptoBulkAll elems + uptoBulkAll spare + 1
  | .agg parts => uptoBulkAll parts + 1
  | .iface _ d => uptoBulk d + 1
  | .map entries => uptoBulkEntries entries + 1
  | .held _ => 1
def uptoBulkAll {H : Type} : List (DataW H) → Nat
  | [] => 0
  | d :: r => uptoBulk d + uptoBulkAll r
def uptoBulkEntries {H : Type} : List (Lit × DataW H) → Nat
  | [] => 0
  | x :: r => uptoBulkEntry x + uptoBulkEntries r
def uptoBulkEntry {H : Type} : Lit × DataW H → Nat
  | (.string bytes, d) => bytes.length + uptoBulk d + 1
  | (_, d) => uptoBulk d + 1
 end
def uptoSmall : (H : Type) → List (DataW H) → Bool := fun _ ds => decide (uptoBulkAll ds ≤ 1048576)
def OpenSpec.upto (s : _root_.Go.ChangeSpec) : _root_.Go.OpenSpec := { _root_.Go.OpenSpec.ofChange s with cond := some uptoSmall }

/-- 'galleylaw08.LongestNews', WHERE WHAT IT READS IS OF BULK AT MOST 1048576: true; the input reads as it did. -/
def longestNewsUptoRow : OpenClaim := { program := "ytfmcjmkdlldlhaa", sum := "00c1369e7e091711188edb44b0603a675d8a88cdcad5d0b386fd49a08fe5cf35", func := "galley/galleylaw08.LongestNews", spec := "longestNews", unfollowed := true, recurses := true, apart := false, narrowed := true }
def LongestNewsUptoSaid : Prop := longestNewsUptoRow.holds Try.pinned (OpenSpec.upto longestNewsSpec)

/-- 'galleylaw08.LongestIs', WHERE WHAT IT READS IS OF BULK AT MOST 1048576: true; the input reads as it did. -/
def longestIsUptoRow : OpenClaim := { program := "ytfmcjmkdlldlhaa", sum := "00c1369e7e091711188edb44b0603a675d8a88cdcad5d0b386fd49a08fe5cf35", func := "galley/galleylaw08.LongestIs", spec := "longestIs", unfollowed := true, recurses := true, apart := false, narrowed := true }
def LongestIsUptoSaid : Prop := longestIsUptoRow.holds Try.pinned (OpenSpec.upto longestIsSpec)

/-- 'galleylaw08.LongestShifts', WHERE WHAT IT READS IS OF BULK AT MOST 1048576: true; the input reads as it did. -/
def longestShiftsUptoRow : OpenClaim := { program := "ytfmcjmkdlldlhaa", sum := "00c1369e7e091711188edb44b0603a675d8a88cdcad5d0b386fd49a08fe5cf35", func := "galley/galleylaw08.LongestShifts", spec := "longestShifts", unfollowed := true, recurses := true, apart := false, narrowed := true }
def LongestShiftsUptoSaid : Prop := longestShiftsUptoRow.holds Try.pinned (OpenSpec.upto longestShiftsSpec)

/-- 'galleylaw08.LongestBoth', WHERE WHAT IT READS IS OF BULK AT MOST 1048576: true; the input reads as it did. -/
def longestBothUptoRow : OpenClaim := { program := "ytfmcjmkdlldlhaa", sum := "00c1369e7e091711188edb44b0603a675d8a88cdcad5d0b386fd49a08fe5cf35", func := "galley/galleylaw08.LongestBoth", spec := "longestBoth", unfollowed := true, recurses := true, apart := false, narrowed := true }
def LongestBothUptoSaid : Prop := longestBothUptoRow.holds Try.pinned (OpenSpec.upto longestBothSpec)

/-- 'galleylaw08.LongestBytes', WHERE WHAT IT READS IS OF BULK AT MOST 1048576: true; the input reads as it did. -/
def longestBytesUptoRow : OpenClaim := { program := "ytfmcjmkdlldlhaa", sum := "00c1369e7e091711188edb44b0603a675d8a88cdcad5d0b386fd49a08fe5cf35", func := "galley/galleylaw08.LongestBytes", spec := "longestBytes", unfollowed := true, recurses := true, apart := false, narrowed := true }
def LongestBytesUptoSaid : Prop := longestBytesUptoRow.holds Try.pinned (OpenSpec.upto longestBytesSpec)

/-- 'galleylaw08.LongestTwo', WHERE WHAT IT READS IS OF BULK AT MOST 1048576: true; the input reads as it did. -/
def longestTwoUptoRow : OpenClaim := { program := "ytfmcjmkdlldlhaa", sum := "00c1369e7e091711188edb44b0603a675d8a88cdcad5d0b386fd49a08fe5cf35", func := "galley/galleylaw08.LongestTwo", spec := "longestTwo", unfollowed := true, recurses := true, apart := false, narrowed := true }
def LongestTwoUptoSaid : Prop := longestTwoUptoRow.holds Try.pinned (OpenSpec.upto longestTwoSpec)

end Rows
end Go.Proofs.Ytfmcjmkdlldlhaa
