/-
  No cell of these rows narrows 'for every input' (looked for: loops, veiled, ifaces, maps, wideKeys, modest, calm, conditions, laid).
  DERIVED. THE GIVEN ROWS OF THIS SEAT. 9 by the template 'for every input the law returns true; each argument reads behind the call as it read before'; 0 by the template 'total and deterministic' (their statements: YtadjonggmbndmaaTotals.lean).
  GIVEN WITH THE SEED: the statements are not yours to turn. If you find one false, say at which input.
  Laid BY PROGRAM, IN A SANDBOX (cutbox-rows.mjs): the forced cells as the released guide's own fill.sh prints them over the translation c1368b2c06d1d727… (all of the seat's roots in one cut). By AI agents, Wed Nov 11 2026. No macro, syntax, notation, axiom, sorry.
-/
import Derived.Test.YtadjonggmbndmaaChecked
import GoSem.Claim
import GoSem.ClaimJoined
import GoSem.ClaimMapViews
import Derived.JoinedTies
import Derived.KernelRfl
namespace Go.Proofs.Ytadjonggmbndmaa
/- THE CELL 'sum', in the pinned program and in every row, IS THE sha256 OF THE DUMP (.gsa) THAT YtadjonggmbndmaaProg.lean LOADS. Nothing in Lean hashes anything: it is a label: what it is worth is what the hold of that sum in a sandbox is worth. -/
noncomputable def Try.pinned : Pinned := { name := "ytadjonggmbndmaa", sum := "c1368b2c06d1d727a22bed37300ad49e85d3667de762fca84adfbc15c1b39a8e", checked := Try.checked }
namespace Rows
def none {H : Type} : Left H := { results := [], args := [] }

/-- 'galleylaw16.FillBack': WHATEVER THE INPUT: true; the input reads as it did. -/
def fillBackSpec : ChangeSpec := { name := "fillBack", fn := fun _ => fun
  | [d1, d2] => { results := [.lit (.bool true)], args := [d1, d2] }
  | _ => none }
def fillBackRow : OpenClaim := { program := "ytadjonggmbndmaa", sum := "c1368b2c06d1d727a22bed37300ad49e85d3667de762fca84adfbc15c1b39a8e", func := "galley/galleylaw16.FillBack", spec := "fillBack", unfollowed := true, recurses := true, apart := false }
def FillBackSaid : Prop := fillBackRow.holds Try.pinned (OpenSpec.ofChange fillBackSpec)

/-- ITS FALSE NEIGHBOUR: 'it returns false'. Refute it at one input. -/
def fillBackWrong : ChangeSpec := { name := "fillBack", fn := fun _ => fun
  | [d1, d2] => { results := [.lit (.bool false)], args := [d1, d2] }
  | _ => none }
def FillBackWrongFalsely : Prop := fillBackRow.holds Try.pinned (OpenSpec.ofChange fillBackWrong)

/-- 'galleylaw16.FillParts': WHATEVER THE INPUT: true; the input reads as it did. -/
def fillPartsSpec : ChangeSpec := { name := "fillParts", fn := fun _ => fun
  | [d1, d2, d3, d4] => { results := [.lit (.bool true)], args := [d1, d2, d3, d4] }
  | _ => none }
def fillPartsRow : OpenClaim := { program := "ytadjonggmbndmaa", sum := "c1368b2c06d1d727a22bed37300ad49e85d3667de762fca84adfbc15c1b39a8e", func := "galley/galleylaw16.FillParts", spec := "fillParts", unfollowed := true, recurses := true, apart := false }
def FillPartsSaid : Prop := fillPartsRow.holds Try.pinned (OpenSpec.ofChange fillPartsSpec)

/-- ITS FALSE NEIGHBOUR: 'it returns false'. Refute it at one input. -/
def fillPartsWrong : ChangeSpec := { name := "fillParts", fn := fun _ => fun
  | [d1, d2, d3, d4] => { results := [.lit (.bool false)], args := [d1, d2, d3, d4] }
  | _ => none }
def FillPartsWrongFalsely : Prop := fillPartsRow.holds Try.pinned (OpenSpec.ofChange fillPartsWrong)

/-- 'galleylaw19.WordsNil': WHATEVER THE INPUT: true; the input reads as it did. -/
def wordsNilSpec : ChangeSpec := { name := "wordsNil", fn := fun _ => fun
  | [d] => { results := [.lit (.bool true)], args := [d] }
  | _ => none }
def wordsNilRow : OpenClaim := { program := "ytadjonggmbndmaa", sum := "c1368b2c06d1d727a22bed37300ad49e85d3667de762fca84adfbc15c1b39a8e", func := "galley/galleylaw19.WordsNil", spec := "wordsNil", unfollowed := true, recurses := true, apart := false }
def WordsNilSaid : Prop := wordsNilRow.holds Try.pinned (OpenSpec.ofChange wordsNilSpec)

/-- ITS FALSE NEIGHBOUR: 'it returns false'. Refute it at one input. -/
def wordsNilWrong : ChangeSpec := { name := "wordsNil", fn := fun _ => fun
  | [d] => { results := [.lit (.bool false)], args := [d] }
  | _ => none }
def WordsNilWrongFalsely : Prop := wordsNilRow.holds Try.pinned (OpenSpec.ofChange wordsNilWrong)

/-- 'galleylaw19.WordsParts': WHATEVER THE INPUT: true; the input reads as it did. -/
def wordsPartsSpec : ChangeSpec := { name := "wordsParts", fn := fun _ => fun
  | [d1, d2, d3, d4, d5] => { results := [.lit (.bool true)], args := [d1, d2, d3, d4, d5] }
  | _ => none }
def wordsPartsRow : OpenClaim := { program := "ytadjonggmbndmaa", sum := "c1368b2c06d1d727a22bed37300ad49e85d3667de762fca84adfbc15c1b39a8e", func := "galley/galleylaw19.WordsParts", spec := "wordsParts", unfollowed := true, recurses := true, apart := false }
def WordsPartsSaid : Prop := wordsPartsRow.holds Try.pinned (OpenSpec.ofChange wordsPartsSpec)

/-- ITS FALSE NEIGHBOUR: 'it returns false'. Refute it at one input. -/
def wordsPartsWrong : ChangeSpec := { name := "wordsParts", fn := fun _ => fun
  | [d1, d2, d3, d4, d5] => { results := [.lit (.bool false)], args := [d1, d2, d3, d4, d5] }
  | _ => none }
def WordsPartsWrongFalsely : Prop := wordsPartsRow.holds Try.pinned (OpenSpec.ofChange wordsPartsWrong)

/-- 'galleylaw19.WordsTexts': WHATEVER THE INPUT: true; the input reads as it did. -/
def wordsTextsSpec : ChangeSpec := { name := "wordsTexts", fn := fun _ => fun
  | [d1, d2, d3] => { results := [.lit (.bool true)], args := [d1, d2, d3] }
  | _ => none }
def wordsTextsRow : OpenClaim := { program := "ytadjonggmbndmaa", sum := "c1368b2c06d1d727a22bed37300ad49e85d3667de762fca84adfbc15c1b39a8e", func := "galley/galleylaw19.WordsTexts", spec := "wordsTexts", unfollowed := true, recurses := true, apart := false }
def WordsTextsSaid : Prop := wordsTextsRow.holds Try.pinned (OpenSpec.ofChange wordsTextsSpec)

/-- ITS FALSE NEIGHBOUR: 'it returns false'. Refute it at one input. -/
def wordsTextsWrong : ChangeSpec := { name := "wordsTexts", fn := fun _ => fun
  | [d1, d2, d3] => { results := [.lit (.bool false)], args := [d1, d2, d3] }
  | _ => none }
def WordsTextsWrongFalsely : Prop := wordsTextsRow.holds Try.pinned (OpenSpec.ofChange wordsTextsWrong)

/-- 'galleylaw19.WordsNumbers': WHATEVER THE INPUT: true; the input reads as it did. -/
def wordsNumbersSpec : ChangeSpec := { name := "wordsNumbers", fn := fun _ => fun
  | [d1, d2, d3, d4] => { results := [.lit (.bool true)], args := [d1, d2, d3, d4] }
  | _ => none }
def wordsNumbersRow : OpenClaim := { program := "ytadjonggmbndmaa", sum := "c1368b2c06d1d727a22bed37300ad49e85d3667de762fca84adfbc15c1b39a8e", func := "galley/galleylaw19.WordsNumbers", spec := "wordsNumbers", unfollowed := true, recurses := true, apart := false }
def WordsNumbersSaid : Prop := wordsNumbersRow.holds Try.pinned (OpenSpec.ofChange wordsNumbersSpec)

/-- ITS FALSE NEIGHBOUR: 'it returns false'. Refute it at one input. -/
def wordsNumbersWrong : ChangeSpec := { name := "wordsNumbers", fn := fun _ => fun
  | [d1, d2, d3, d4] => { results := [.lit (.bool false)], args := [d1, d2, d3, d4] }
  | _ => none }
def WordsNumbersWrongFalsely : Prop := wordsNumbersRow.holds Try.pinned (OpenSpec.ofChange wordsNumbersWrong)

/-- 'galleylaw25.SpaceNil': WHATEVER THE INPUT: true; the input reads as it did. -/
def spaceNilSpec : ChangeSpec := { name := "spaceNil", fn := fun _ => fun
  | [d1, d2] => { results := [.lit (.bool true)], args := [d1, d2] }
  | _ => none }
def spaceNilRow : OpenClaim := { program := "ytadjonggmbndmaa", sum := "c1368b2c06d1d727a22bed37300ad49e85d3667de762fca84adfbc15c1b39a8e", func := "galley/galleylaw25.SpaceNil", spec := "spaceNil", inPlace := ["internal/bytealg.IndexByte", "internal/bytealg.Index"], unfollowed := true, recurses := true, named := ["internal/bytealg.MaxLen"], apart := false }
def SpaceNilSaid : Prop := spaceNilRow.holds Try.pinned (OpenSpec.ofChange spaceNilSpec)

/-- ITS FALSE NEIGHBOUR: 'it returns false'. Refute it at one input. -/
def spaceNilWrong : ChangeSpec := { name := "spaceNil", fn := fun _ => fun
  | [d1, d2] => { results := [.lit (.bool false)], args := [d1, d2] }
  | _ => none }
def SpaceNilWrongFalsely : Prop := spaceNilRow.holds Try.pinned (OpenSpec.ofChange spaceNilWrong)

/-- 'galleylaw25.SpaceLines': WHATEVER THE INPUT: true; the input reads as it did. -/
def spaceLinesSpec : ChangeSpec := { name := "spaceLines", fn := fun _ => fun
  | [d1, d2, d3] => { results := [.lit (.bool true)], args := [d1, d2, d3] }
  | _ => none }
def spaceLinesRow : OpenClaim := { program := "ytadjonggmbndmaa", sum := "c1368b2c06d1d727a22bed37300ad49e85d3667de762fca84adfbc15c1b39a8e", func := "galley/galleylaw25.SpaceLines", spec := "spaceLines", inPlace := ["internal/bytealg.IndexByte", "internal/bytealg.Index"], unfollowed := true, recurses := true, named := ["internal/bytealg.MaxLen"], apart := false }
def SpaceLinesSaid : Prop := spaceLinesRow.holds Try.pinned (OpenSpec.ofChange spaceLinesSpec)

/-- ITS FALSE NEIGHBOUR: 'it returns false'. Refute it at one input. -/
def spaceLinesWrong : ChangeSpec := { name := "spaceLines", fn := fun _ => fun
  | [d1, d2, d3] => { results := [.lit (.bool false)], args := [d1, d2, d3] }
  | _ => none }
def SpaceLinesWrongFalsely : Prop := spaceLinesRow.holds Try.pinned (OpenSpec.ofChange spaceLinesWrong)

/-- 'galleylaw25.SpaceSwaps': WHATEVER THE INPUT: true; the input reads as it did. -/
def spaceSwapsSpec : ChangeSpec := { name := "spaceSwaps", fn := fun _ => fun
  | [d1, d2, d3] => { results := [.lit (.bool true)], args := [d1, d2, d3] }
  | _ => none }
def spaceSwapsRow : OpenClaim := { program := "ytadjonggmbndmaa", sum := "c1368b2c06d1d727a22bed37300ad49e85d3667de762fca84adfbc15c1b39a8e", func := "galley/galleylaw25.SpaceSwaps", spec := "spaceSwaps", inPlace := ["internal/bytealg.IndexByte", "internal/bytealg.Index"], unfollowed := true, recurses := true, named := ["internal/bytealg.MaxLen"], apart := false }
def SpaceSwapsSaid : Prop := spaceSwapsRow.holds Try.pinned (OpenSpec.ofChange spaceSwapsSpec)

/-- ITS FALSE NEIGHBOUR: 'it returns false'. Refute it at one input. -/
def spaceSwapsWrong : ChangeSpec := { name := "spaceSwaps", fn := fun _ => fun
  | [d1, d2, d3] => { results := [.lit (.bool false)], args := [d1, d2, d3] }
  | _ => none }
def SpaceSwapsWrongFalsely : Prop := spaceSwapsRow.holds Try.pinned (OpenSpec.ofChange spaceSwapsWrong)

/- THE SECOND FORM. 'bulk': how many values and letters a reading holds, each counted each time it is reached (what is shared counts as often as it is met; a slice's spare places count too). A statement '..UptoSaid' is the law's where the arguments, and the package variables that the reading takes, are together of bulk at most 1048576: NARROWER than '..Said'. Prove '..Said' where nothing that the law and all that it calls make is longer than what came in: it says more and counts as full. Else prove '..UptoSaid'. A law counts once. -/
mutual
def uptoBulk {H : Type} : DataW H → Nat
  | .lit (.string bytes) => bytes.length + 1
  | .lit _ => 1
  | .nil => 1
  | .ptr d => uptoBulk d + 1
  | .slice elems spare => uptoBulkAll elems + uptoBulkAll spare + 1
  | .agg parts => uptoBulkAll parts + 1
  | .iface _ d => uptoBulk d + 1
  | .map entries => uptoBulkEntries entries + 1
  | .held _ => 1
def uptoBulkAll {H : Type} : List (DataW H) → Nat
  | [] => 0
  | d :: r => uptoBulk d + uptoBulkAll r
def uptoBulkEntries {H : Type} : List (Lit × DataW H) → Nat
  | [] => 0
  | x :: r => uptoBulkEntry x + uptoBulkEntries r
def uptoBulkEntry {H : Type} : Lit × DataW H → Nat
  | (.string bytes, d) => bytes.length + uptoBulk d + 1
  | (_, d) => uptoBulk d + 1
 end
def uptoSmall : (H : Type) → List (DataW H) → Bool := fun _ ds => decide (uptoBulkAll ds ≤ 1048576)
def OpenSpec.upto (s : _root_.Go.ChangeSpec) : _root_.Go.OpenSpec := { _root_.Go.OpenSpec.ofChange s with cond := some uptoSmall }

/-- 'galleylaw16.FillBack', WHERE WHAT IT READS IS OF BULK AT MOST 1048576: true; the input reads as it did. -/
def fillBackUptoRow : OpenClaim := { program := "ytadjonggmbndmaa", sum := "c1368b2c06d1d727a22bed37300ad49e85d3667de762fca84adfbc15c1b39a8e", func := "galley/galleylaw16.FillBack", spec := "fillBack", unfollowed := true, recurses := true, apart := false, narrowed := true }
def FillBackUptoSaid : Prop := fillBackUptoRow.holds Try.pinned (OpenSpec.upto fillBackSpec)

/-- 'galleylaw16.FillParts', WHERE WHAT IT READS IS OF BULK AT MOST 1048576: true; the input reads as it did. -/
def fillPartsUptoRow : OpenClaim := { program := "ytadjonggmbndmaa", sum := "c1368b2c06d1d727a22bed37300ad49e85d3667de762fca84adfbc15c1b39a8e", func := "galley/galleylaw16.FillParts", spec := "fillParts", unfollowed := true, recurses := true, apart := false, narrowed := true }
def FillPartsUptoSaid : Prop := fillPartsUptoRow.holds Try.pinned (OpenSpec.upto fillPartsSpec)

/-- 'galleylaw19.WordsNil', WHERE WHAT IT READS IS OF BULK AT MOST 1048576: true; the input reads as it did. -/
def wordsNilUptoRow : OpenClaim := { program := "ytadjonggmbndmaa", sum := "c1368b2c06d1d727a22bed37300ad49e85d3667de762fca84adfbc15c1b39a8e", func := "galley/galleylaw19.WordsNil", spec := "wordsNil", unfollowed := true, recurses := true, apart := false, narrowed := true }
def WordsNilUptoSaid : Prop := wordsNilUptoRow.holds Try.pinned (OpenSpec.upto wordsNilSpec)

/-- 'galleylaw19.WordsParts', WHERE WHAT IT READS IS OF BULK AT MOST 1048576: true; the input reads as it did. -/
def wordsPartsUptoRow : OpenClaim := { program := "ytadjonggmbndmaa", sum := "c1368b2c06d1d727a22bed37300ad49e85d3667de762fca84adfbc15c1b39a8e", func := "galley/galleylaw19.WordsParts", spec := "wordsParts", unfollowed := true, recurses := true, apart := false, narrowed := true }
def WordsPartsUptoSaid : Prop := wordsPartsUptoRow.holds Try.pinned (OpenSpec.upto wordsPartsSpec)

/-- 'galleylaw19.WordsTexts', WHERE WHAT IT READS IS OF BULK AT MOST 1048576: true; the input reads as it did. -/
def wordsTextsUptoRow : OpenClaim := { program := "ytadjonggmbndmaa", sum := "c1368b2c06d1d727a22bed37300ad49e85d3667de762fca84adfbc15c1b39a8e", func := "galley/galleylaw19.WordsTexts", spec := "wordsTexts", unfollowed := true, recurses := true, apart := false, narrowed := true }
def WordsTextsUptoSaid : Prop := wordsTextsUptoRow.holds Try.pinned (OpenSpec.upto wordsTextsSpec)

/-- 'galleylaw19.WordsNumbers', WHERE WHAT IT READS IS OF BULK AT MOST 1048576: true; the input reads as it did. -/
def wordsNumbersUptoRow : OpenClaim := { program := "ytadjonggmbndmaa", sum := "c1368b2c06d1d727a22bed37300ad49e85d3667de762fca84adfbc15c1b39a8e", func := "galley/galleylaw19.WordsNumbers", spec := "wordsNumbers", unfollowed := true, recurses := true, apart := false, narrowed := true }
def WordsNumbersUptoSaid : Prop := wordsNumbersUptoRow.holds Try.pinned (OpenSpec.upto wordsNumbersSpec)

/-- 'galleylaw25.SpaceNil', WHERE WHAT IT READS IS OF BULK AT MOST 1048576: true; the input reads as it did. -/
def spaceNilUptoRow : OpenClaim := { program := "ytadjonggmbndmaa", sum := "c1368b2c06d1d727a22bed37300ad49e85d3667de762fca84adfbc15c1b39a8e", func := "galley/galleylaw25.SpaceNil", spec := "spaceNil", inPlace := ["internal/bytealg.IndexByte", "internal/bytealg.Index"], unfollowed := true, recurses := true, named := ["internal/bytealg.MaxLen"], apart := false, narrowed := true }
def SpaceNilUptoSaid : Prop := spaceNilUptoRow.holds Try.pinned (OpenSpec.upto spaceNilSpec)

/-- 'galleylaw25.SpaceLines', WHERE WHAT IT READS IS OF BULK AT MOST 1048576: true; the input reads as it did. -/
def spaceLinesUptoRow : OpenClaim := { program := "ytadjonggmbndmaa", sum := "c1368b2c06d1d727a22bed37300ad49e85d3667de762fca84adfbc15c1b39a8e", func := "galley/galleylaw25.SpaceLines", spec := "spaceLines", inPlace := ["internal/bytealg.IndexByte", "internal/bytealg.Index"], unfollowed := true, recurses := true, named := ["internal/bytealg.MaxLen"], apart := false, narrowed := true }
def SpaceLinesUptoSaid : Prop := spaceLinesUptoRow.holds Try.pinned (OpenSpec.upto spaceLinesSpec)

/-- 'galleylaw25.SpaceSwaps', WHERE WHAT IT READS IS OF BULK AT MOST 1048576: true; the input reads as it did. -/
def spaceSwapsUptoRow : OpenClaim := { program := "ytadjonggmbndmaa", sum := "c1368b2c06d1d727a22bed37300ad49e85d3667de762fca84adfbc15c1b39a8e", func := "galley/galleylaw25.SpaceSwaps", spec := "spaceSwaps", inPlace := ["internal/bytealg.IndexByte", "internal/bytealg.Index"], unfollowed := true, recurses := true, named := ["internal/bytealg.MaxLen"], apart := false, narrowed := true }
def SpaceSwapsUptoSaid : Prop := spaceSwapsUptoRow.holds Try.pinned (OpenSpec.upto spaceSwapsSpec)

end Rows
end Go.Proofs.Ytadjonggmbndmaa
