/-
  No cell of these rows narrows 'for every input' (looked for: loops, veiled, ifaces, maps, wideKeys, modest, calm, conditions, laid).
  DERIVED. THE GIVEN ROWS OF THIS SEAT. 7 by the template 'for every input the law returns true; each argument reads behind the call as it read before'; 0 by the template 'total and deterministic' (their statements: YtcdoliinemafaaaTotals.lean).
  GIVEN WITH THE SEED: the statements are not yours to turn. If you find one false, say at which input.
  Laid BY PROGRAM, IN A SANDBOX (cutbox-rows.mjs): the forced cells as the released guide's own fill.sh prints them over the translation 2c8eb7f246366b8d… (all of the seat's roots in one cut). By AI agents, Wed Nov 11 2026. No macro, syntax, notation, axiom, sorry.
-/
import Derived.Test.YtcdoliinemafaaaChecked
import GoSem.Claim
import GoSem.ClaimJoined
import GoSem.ClaimMapViews
import Derived.JoinedTies
import Derived.KernelRfl
namespace Go.Proofs.Ytcdoliinemafaaa
/- THE CELL 'sum', in the pinned program and in every row, IS THE sha256 OF THE DUMP (.gsa) THAT YtcdoliinemafaaaProg.lean LOADS. Nothing in Lean hashes anything: it is a label: what it is worth is what the hold of that sum in a sandbox is worth. -/
noncomputable def Try.pinned : Pinned := { name := "ytcdoliinemafaaa", sum := "2c8eb7f246366b8d64f5ff4ddbbe391ebff40a7a00a70e4d683ffc4267b1f645", checked := Try.checked }
namespace Rows
def none {H : Type} : Left H := { results := [], args := [] }

/-- 'galleylaw01.ClassSets': WHATEVER THE INPUT: true; the input reads as it did. -/
def classSetsSpec : ChangeSpec := { name := "classSets", fn := fun _ => fun
  | [d1, d2, d3] => { results := [.lit (.bool true)], args := [d1, d2, d3] }
  | _ => none }
def classSetsRow : OpenClaim := { program := "ytcdoliinemafaaa", sum := "2c8eb7f246366b8d64f5ff4ddbbe391ebff40a7a00a70e4d683ffc4267b1f645", func := "galley/galleylaw01.ClassSets", spec := "classSets", unfollowed := true, recurses := true, apart := false }
def ClassSetsSaid : Prop := classSetsRow.holds Try.pinned (OpenSpec.ofChange classSetsSpec)

/-- ITS FALSE NEIGHBOUR: 'it returns false'. Refute it at one input. -/
def classSetsWrong : ChangeSpec := { name := "classSets", fn := fun _ => fun
  | [d1, d2, d3] => { results := [.lit (.bool false)], args := [d1, d2, d3] }
  | _ => none }
def ClassSetsWrongFalsely : Prop := classSetsRow.holds Try.pinned (OpenSpec.ofChange classSetsWrong)

/-- 'galleylaw01.ClassAll': WHATEVER THE INPUT: true; the input reads as it did. -/
def classAllSpec : ChangeSpec := { name := "classAll", fn := fun _ => fun
  | [d1, d2, d3] => { results := [.lit (.bool true)], args := [d1, d2, d3] }
  | _ => none }
def classAllRow : OpenClaim := { program := "ytcdoliinemafaaa", sum := "2c8eb7f246366b8d64f5ff4ddbbe391ebff40a7a00a70e4d683ffc4267b1f645", func := "galley/galleylaw01.ClassAll", spec := "classAll", unfollowed := true, recurses := true, apart := false }
def ClassAllSaid : Prop := classAllRow.holds Try.pinned (OpenSpec.ofChange classAllSpec)

/-- ITS FALSE NEIGHBOUR: 'it returns false'. Refute it at one input. -/
def classAllWrong : ChangeSpec := { name := "classAll", fn := fun _ => fun
  | [d1, d2, d3] => { results := [.lit (.bool false)], args := [d1, d2, d3] }
  | _ => none }
def ClassAllWrongFalsely : Prop := classAllRow.holds Try.pinned (OpenSpec.ofChange classAllWrong)

/-- 'galleylaw01.ClassRuns': WHATEVER THE INPUT: true; the input reads as it did. -/
def classRunsSpec : ChangeSpec := { name := "classRuns", fn := fun _ => fun
  | [d1, d2] => { results := [.lit (.bool true)], args := [d1, d2] }
  | _ => none }
def classRunsRow : OpenClaim := { program := "ytcdoliinemafaaa", sum := "2c8eb7f246366b8d64f5ff4ddbbe391ebff40a7a00a70e4d683ffc4267b1f645", func := "galley/galleylaw01.ClassRuns", spec := "classRuns", unfollowed := true, recurses := true, apart := false }
def ClassRunsSaid : Prop := classRunsRow.holds Try.pinned (OpenSpec.ofChange classRunsSpec)

/-- ITS FALSE NEIGHBOUR: 'it returns false'. Refute it at one input. -/
def classRunsWrong : ChangeSpec := { name := "classRuns", fn := fun _ => fun
  | [d1, d2] => { results := [.lit (.bool false)], args := [d1, d2] }
  | _ => none }
def ClassRunsWrongFalsely : Prop := classRunsRow.holds Try.pinned (OpenSpec.ofChange classRunsWrong)

/-- 'galleylaw01.ClassAtoms': WHATEVER THE INPUT: true; the input reads as it did. -/
def classAtomsSpec : ChangeSpec := { name := "classAtoms", fn := fun _ => fun
  | [d] => { results := [.lit (.bool true)], args := [d] }
  | _ => none }
def classAtomsRow : OpenClaim := { program := "ytcdoliinemafaaa", sum := "2c8eb7f246366b8d64f5ff4ddbbe391ebff40a7a00a70e4d683ffc4267b1f645", func := "galley/galleylaw01.ClassAtoms", spec := "classAtoms", unfollowed := true, recurses := true, apart := false }
def ClassAtomsSaid : Prop := classAtomsRow.holds Try.pinned (OpenSpec.ofChange classAtomsSpec)

/-- ITS FALSE NEIGHBOUR: 'it returns false'. Refute it at one input. -/
def classAtomsWrong : ChangeSpec := { name := "classAtoms", fn := fun _ => fun
  | [d] => { results := [.lit (.bool false)], args := [d] }
  | _ => none }
def ClassAtomsWrongFalsely : Prop := classAtomsRow.holds Try.pinned (OpenSpec.ofChange classAtomsWrong)

/-- 'galleylaw01.ClassAlgebra': WHATEVER THE INPUT: true; the input reads as it did. -/
def classAlgebraSpec : ChangeSpec := { name := "classAlgebra", fn := fun _ => fun
  | [d1, d2, d3] => { results := [.lit (.bool true)], args := [d1, d2, d3] }
  | _ => none }
def classAlgebraRow : OpenClaim := { program := "ytcdoliinemafaaa", sum := "2c8eb7f246366b8d64f5ff4ddbbe391ebff40a7a00a70e4d683ffc4267b1f645", func := "galley/galleylaw01.ClassAlgebra", spec := "classAlgebra", unfollowed := true, recurses := true, apart := false }
def ClassAlgebraSaid : Prop := classAlgebraRow.holds Try.pinned (OpenSpec.ofChange classAlgebraSpec)

/-- ITS FALSE NEIGHBOUR: 'it returns false'. Refute it at one input. -/
def classAlgebraWrong : ChangeSpec := { name := "classAlgebra", fn := fun _ => fun
  | [d1, d2, d3] => { results := [.lit (.bool false)], args := [d1, d2, d3] }
  | _ => none }
def ClassAlgebraWrongFalsely : Prop := classAlgebraRow.holds Try.pinned (OpenSpec.ofChange classAlgebraWrong)

/-- 'galleylaw01.ClassJoins': WHATEVER THE INPUT: true; the input reads as it did. -/
def classJoinsSpec : ChangeSpec := { name := "classJoins", fn := fun _ => fun
  | [d] => { results := [.lit (.bool true)], args := [d] }
  | _ => none }
def classJoinsRow : OpenClaim := { program := "ytcdoliinemafaaa", sum := "2c8eb7f246366b8d64f5ff4ddbbe391ebff40a7a00a70e4d683ffc4267b1f645", func := "galley/galleylaw01.ClassJoins", spec := "classJoins", unfollowed := true, recurses := true, apart := false }
def ClassJoinsSaid : Prop := classJoinsRow.holds Try.pinned (OpenSpec.ofChange classJoinsSpec)

/-- ITS FALSE NEIGHBOUR: 'it returns false'. Refute it at one input. -/
def classJoinsWrong : ChangeSpec := { name := "classJoins", fn := fun _ => fun
  | [d] => { results := [.lit (.bool false)], args := [d] }
  | _ => none }
def ClassJoinsWrongFalsely : Prop := classJoinsRow.holds Try.pinned (OpenSpec.ofChange classJoinsWrong)

/-- 'galleylaw01.ClassParts': WHATEVER THE INPUT: true; the input reads as it did. -/
def classPartsSpec : ChangeSpec := { name := "classParts", fn := fun _ => fun
  | [d] => { results := [.lit (.bool true)], args := [d] }
  | _ => none }
def classPartsRow : OpenClaim := { program := "ytcdoliinemafaaa", sum := "2c8eb7f246366b8d64f5ff4ddbbe391ebff40a7a00a70e4d683ffc4267b1f645", func := "galley/galleylaw01.ClassParts", spec := "classParts", unfollowed := true, recurses := true, apart := false }
def ClassPartsSaid : Prop := classPartsRow.holds Try.pinned (OpenSpec.ofChange classPartsSpec)

/-- ITS FALSE NEIGHBOUR: 'it returns false'. Refute it at one input. -/
def classPartsWrong : ChangeSpec := { name := "classParts", fn := fun _ => fun
  | [d] => { results := [.lit (.bool false)], args := [d] }
  | _ => none }
def ClassPartsWrongFalsely : Prop := classPartsRow.holds Try.pinned (OpenSpec.ofChange classPartsWrong)

/- THE SECOND FORM. 'bulk': how many values and letters a reading holds, each counted each time it is reached (what is shared counts as often as it is met; a slice's spare places count too). A statement '..UptoSaid' is the law's where the arguments, and the package variables that the reading takes, are together of bulk at most 1048576: NARROWER than '..Said'. Prove '..Said' where nothing that the law and all that it calls make is longer than what came in: it says more and counts as full. Else prove '..UptoSaid'. A law counts once. -/
mutual
def uptoBulk {H : Type} : DataW H → Nat
  | .lit (.string bytes) => bytes.length + 1
  | .lit _ => 1
  | .nil => 1
  | .ptr d => uptoBulk d + 1
  | .slice elems spare => uptoBulkAll elems + uptoBulkAll spare + 1
  | .agg parts => uptoBulkAll parts + 1
  | .iface _ d => uptoBulk d + 1
  | .map entries => uptoBulkEntries entries + 1
  | .held _ => 1
def uptoBulkAll {H : Type} : List (DataW H) → Nat
  | [] => 0
  | d :: r => uptoBulk d + uptoBulkAll r
def uptoBulkEntries {H : Type} : List (Lit × DataW H) → Nat
  | [] => 0
  | x :: r => uptoBulkEntry x + uptoBulkEntries r
def uptoBulkEntry {H : Type} : Lit × DataW H → Nat
  | (.string bytes, d) => bytes.length + uptoBulk d + 1
  | (_, d) => uptoBulk d + 1
 end
def uptoSmall : (H : Type) → List (DataW H) → Bool := fun _ ds => decide (uptoBulkAll ds ≤ 1048576)
def OpenSpec.upto (s : _root_.Go.ChangeSpec) : _root_.Go.OpenSpec := { _root_.Go.OpenSpec.ofChange s with cond := some uptoSmall }

/-- 'galleylaw01.ClassSets', WHERE WHAT IT READS IS OF BULK AT MOST 1048576: true; the input reads as it did. -/
def classSetsUptoRow : OpenClaim := { program := "ytcdoliinemafaaa", sum := "2c8eb7f246366b8d64f5ff4ddbbe391ebff40a7a00a70e4d683ffc4267b1f645", func := "galley/galleylaw01.ClassSets", spec := "classSets", unfollowed := true, recurses := true, apart := false, narrowed := true }
def ClassSetsUptoSaid : Prop := classSetsUptoRow.holds Try.pinned (OpenSpec.upto classSetsSpec)

/-- 'galleylaw01.ClassAll', WHERE WHAT IT READS IS OF BULK AT MOST 1048576: true; the input reads as it did. -/
def classAllUptoRow : OpenClaim := { program := "ytcdoliinemafaaa", sum := "2c8eb7f246366b8d64f5ff4ddbbe391ebff40a7a00a70e4d683ffc4267b1f645", func := "galley/galleylaw01.ClassAll", spec := "classAll", unfollowed := true, recurses := true, apart := false, narrowed := true }
def ClassAllUptoSaid : Prop := classAllUptoRow.holds Try.pinned (OpenSpec.upto classAllSpec)

/-- 'galleylaw01.ClassRuns', WHERE WHAT IT READS IS OF BULK AT MOST 1048576: true; the input reads as it did. -/
def classRunsUptoRow : OpenClaim := { program := "ytcdoliinemafaaa", sum := "2c8eb7f246366b8d64f5ff4ddbbe391ebff40a7a00a70e4d683ffc4267b1f645", func := "galley/galleylaw01.ClassRuns", spec := "classRuns", unfollowed := true, recurses := true, apart := false, narrowed := true }
def ClassRunsUptoSaid : Prop := classRunsUptoRow.holds Try.pinned (OpenSpec.upto classRunsSpec)

/-- 'galleylaw01.ClassAtoms', WHERE WHAT IT READS IS OF BULK AT MOST 1048576: true; the input reads as it did. -/
def classAtomsUptoRow : OpenClaim := { program := "ytcdoliinemafaaa", sum := "2c8eb7f246366b8d64f5ff4ddbbe391ebff40a7a00a70e4d683ffc4267b1f645", func := "galley/galleylaw01.ClassAtoms", spec := "classAtoms", unfollowed := true, recurses := true, apart := false, narrowed := true }
def ClassAtomsUptoSaid : Prop := classAtomsUptoRow.holds Try.pinned (OpenSpec.upto classAtomsSpec)

/-- 'galleylaw01.ClassAlgebra', WHERE WHAT IT READS IS OF BULK AT MOST 1048576: true; the input reads as it did. -/
def classAlgebraUptoRow : OpenClaim := { program := "ytcdoliinemafaaa", sum := "2c8eb7f246366b8d64f5ff4ddbbe391ebff40a7a00a70e4d683ffc4267b1f645", func := "galley/galleylaw01.ClassAlgebra", spec := "classAlgebra", unfollowed := true, recurses := true, apart := false, narrowed := true }
def ClassAlgebraUptoSaid : Prop := classAlgebraUptoRow.holds Try.pinned (OpenSpec.upto classAlgebraSpec)

/-- 'galleylaw01.ClassJoins', WHERE WHAT IT READS IS OF BULK AT MOST 1048576: true; the input reads as it did. -/
def classJoinsUptoRow : OpenClaim := { program := "ytcdoliinemafaaa", sum := "2c8eb7f246366b8d64f5ff4ddbbe391ebff40a7a00a70e4d683ffc4267b1f645", func := "galley/galleylaw01.ClassJoins", spec := "classJoins", unfollowed := true, recurses := true, apart := false, narrowed := true }
def ClassJoinsUptoSaid : Prop := classJoinsUptoRow.holds Try.pinned (OpenSpec.upto classJoinsSpec)

/-- 'galleylaw01.ClassParts', WHERE WHAT IT READS IS OF BULK AT MOST 1048576: true; the input reads as it did. -/
def classPartsUptoRow : OpenClaim := { program := "ytcdoliinemafaaa", sum := "2c8eb7f246366b8d64f5ff4ddbbe391ebff40a7a00a70e4d683ffc4267b1f645", func := "galley/galleylaw01.ClassParts", spec := "classParts", unfollowed := true, recurses := true, apart := false, narrowed := true }
def ClassPartsUptoSaid : Prop := classPartsUptoRow.holds Try.pinned (OpenSpec.upto classPartsSpec)

end Rows
end Go.Proofs.Ytcdoliinemafaaa
