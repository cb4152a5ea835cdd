/-
  NARROWER THAN 'FOR EVERY INPUT', by the rows' own cells (each row's printed sentence says how): BracketParses: laid · BracketPrints: laid · BracketBack: laid · BracketItems: laid · BracketCut: laid.
  DERIVED. THE GIVEN ROWS OF THIS SEAT. 5 by the template 'for every input the law returns true; each argument reads behind the call as it read before'; 0 by the template 'total and deterministic' (their statements: YthegepiafodpjaaDoorTotals.lean).
  GIVEN WITH THE SEED: the statements are not yours to turn. If you find one false, say at which input.
  Laid BY PROGRAM, IN A SANDBOX (cutbox-rows.mjs): the forced cells as the released guide's own fill.sh prints them over the translation c193ab5512c37e8a… (all of the seat's roots in one cut). By AI agents, Wed Nov 11 2026. No macro, syntax, notation, axiom, sorry.
-/
import Derived.Test.YthegepiafodpjaaDoorChecked
import GoSem.Claim
import GoSem.ClaimJoined
import GoSem.ClaimMapViews
import Derived.JoinedTies
import Derived.KernelRfl
namespace Go.Proofs.YthegepiafodpjaaDoor
/- THE CELL 'sum', in the pinned program and in every row, IS THE sha256 OF THE DUMP (.gsa) THAT YthegepiafodpjaaDoorProg.lean LOADS. Nothing in Lean hashes anything: it is a label: what it is worth is what the hold of that sum in a sandbox is worth. -/
noncomputable def Tryd.pinned : Pinned := { name := "ythegepiafodpjaadoor", sum := "c193ab5512c37e8a1afdde39c9e30800ad285e6f91c31a59eca77321d3158773", checked := Tryd.checked }
namespace Rows
def none {H : Type} : Left H := { results := [], args := [] }

/- WHAT THE LISTED PACKAGE-LEVEL VARIABLES READ AS WHEN THE CALL BEGINS. Each datum BY PROGRAM (the guide's laid-datum.mjs) off the statement by which the dump's own 'gosem.cut.vars' lays the variable. In a bare row this is a premise. The card (YthegepiafodpjaaDoorCards.lean) ties it to the program's text. -/
def laid_galley_class_names {H : Type} : DataW H := .agg [.agg [.lit (.string [117, 112, 112, 101, 114]), .lit (.int .u8 65), .lit (.int .u8 90)], .agg [.lit (.string [108, 111, 119, 101, 114]), .lit (.int .u8 97), .lit (.int .u8 122)], .agg [.lit (.string [97, 108, 112, 104, 97]), .lit (.int .u8 65), .lit (.int .u8 90)], .agg [.lit (.string [97, 108, 112, 104, 97]), .lit (.int .u8 97), .lit (.int .u8 122)], .agg [.lit (.string [100, 105, 103, 105, 116]), .lit (.int .u8 48), .lit (.int .u8 57)], .agg [.lit (.string [97, 108, 110, 117, 109]), .lit (.int .u8 48), .lit (.int .u8 57)], .agg [.lit (.string [97, 108, 110, 117, 109]), .lit (.int .u8 65), .lit (.int .u8 90)], .agg [.lit (.string [97, 108, 110, 117, 109]), .lit (.int .u8 97), .lit (.int .u8 122)], .agg [.lit (.string [120, 100, 105, 103, 105, 116]), .lit (.int .u8 48), .lit (.int .u8 57)], .agg [.lit (.string [120, 100, 105, 103, 105, 116]), .lit (.int .u8 65), .lit (.int .u8 70)], .agg [.lit (.string [120, 100, 105, 103, 105, 116]), .lit (.int .u8 97), .lit (.int .u8 102)], .agg [.lit (.string [98, 108, 97, 110, 107]), .lit (.int .u8 9), .lit (.int .u8 9)], .agg [.lit (.string [98, 108, 97, 110, 107]), .lit (.int .u8 32), .lit (.int .u8 32)], .agg [.lit (.string [115, 112, 97, 99, 101]), .lit (.int .u8 9), .lit (.int .u8 13)], .agg [.lit (.string [115, 112, 97, 99, 101]), .lit (.int .u8 32), .lit (.int .u8 32)], .agg [.lit (.string [99, 110, 116, 114, 108]), .lit (.int .u8 0), .lit (.int .u8 31)], .agg [.lit (.string [99, 110, 116, 114, 108]), .lit (.int .u8 127), .lit (.int .u8 127)], .agg [.lit (.string [103, 114, 97, 112, 104]), .lit (.int .u8 33), .lit (.int .u8 126)], .agg [.lit (.string [112, 114, 105, 110, 116]), .lit (.int .u8 32), .lit (.int .u8 126)], .agg [.lit (.string [112, 117, 110, 99, 116]), .lit (.int .u8 33), .lit (.int .u8 47)], .agg [.lit (.string [112, 117, 110, 99, 116]), .lit (.int .u8 58), .lit (.int .u8 64)], .agg [.lit (.string [112, 117, 110, 99, 116]), .lit (.int .u8 91), .lit (.int .u8 96)], .agg [.lit (.string [112, 117, 110, 99, 116]), .lit (.int .u8 123), .lit (.int .u8 126)]]
def laid_galley_bracket_odd {H : Type} : DataW H := .agg [.lit (.int .u8 91), .lit (.int .u8 93), .lit (.int .u8 45), .lit (.int .u8 94)]
def laid_galley_bracket_closers {H : Type} : DataW H := .agg [.agg [.lit (.int .u8 58), .lit (.int .u8 58)], .agg [.lit (.int .u8 61), .lit (.int .u8 61)], .agg [.lit (.int .u8 46), .lit (.int .u8 46)]]
def laid_math_bits_deBruijn32tab {H : Type} : DataW H := .agg [.lit (.int .u8 0), .lit (.int .u8 1), .lit (.int .u8 28), .lit (.int .u8 2), .lit (.int .u8 29), .lit (.int .u8 14), .lit (.int .u8 24), .lit (.int .u8 3), .lit (.int .u8 30), .lit (.int .u8 22), .lit (.int .u8 20), .lit (.int .u8 15), .lit (.int .u8 25), .lit (.int .u8 17), .lit (.int .u8 4), .lit (.int .u8 8), .lit (.int .u8 31), .lit (.int .u8 27), .lit (.int .u8 13), .lit (.int .u8 23), .lit (.int .u8 21), .lit (.int .u8 19), .lit (.int .u8 16), .lit (.int .u8 7), .lit (.int .u8 26), .lit (.int .u8 12), .lit (.int .u8 18), .lit (.int .u8 6), .lit (.int .u8 11), .lit (.int .u8 5), .lit (.int .u8 10), .lit (.int .u8 9)]
def laid_math_bits_deBruijn64tab {H : Type} : DataW H := .agg [.lit (.int .u8 0), .lit (.int .u8 1), .lit (.int .u8 56), .lit (.int .u8 2), .lit (.int .u8 57), .lit (.int .u8 49), .lit (.int .u8 28), .lit (.int .u8 3), .lit (.int .u8 61), .lit (.int .u8 58), .lit (.int .u8 42), .lit (.int .u8 50), .lit (.int .u8 38), .lit (.int .u8 29), .lit (.int .u8 17), .lit (.int .u8 4), .lit (.int .u8 62), .lit (.int .u8 47), .lit (.int .u8 59), .lit (.int .u8 36), .lit (.int .u8 45), .lit (.int .u8 43), .lit (.int .u8 51), .lit (.int .u8 22), .lit (.int .u8 53), .lit (.int .u8 39), .lit (.int .u8 33), .lit (.int .u8 30), .lit (.int .u8 24), .lit (.int .u8 18), .lit (.int .u8 12), .lit (.int .u8 5), .lit (.int .u8 63), .lit (.int .u8 55), .lit (.int .u8 48), .lit (.int .u8 27), .lit (.int .u8 60), .lit (.int .u8 41), .lit (.int .u8 37), .lit (.int .u8 16), .lit (.int .u8 46), .lit (.int .u8 35), .lit (.int .u8 44), .lit (.int .u8 21), .lit (.int .u8 52), .lit (.int .u8 32), .lit (.int .u8 23), .lit (.int .u8 11), .lit (.int .u8 54), .lit (.int .u8 26), .lit (.int .u8 40), .lit (.int .u8 15), .lit (.int .u8 34), .lit (.int .u8 20), .lit (.int .u8 31), .lit (.int .u8 10), .lit (.int .u8 25), .lit (.int .u8 14), .lit (.int .u8 19), .lit (.int .u8 9), .lit (.int .u8 13), .lit (.int .u8 8), .lit (.int .u8 7), .lit (.int .u8 6)]
def laid_internal_strconv_uint64pow10 {H : Type} : DataW H := .agg [.lit (.int .u64 1), .lit (.int .u64 10), .lit (.int .u64 100), .lit (.int .u64 1000), .lit (.int .u64 10000), .lit (.int .u64 100000), .lit (.int .u64 1000000), .lit (.int .u64 10000000), .lit (.int .u64 100000000), .lit (.int .u64 1000000000), .lit (.int .u64 10000000000), .lit (.int .u64 100000000000), .lit (.int .u64 1000000000000), .lit (.int .u64 10000000000000), .lit (.int .u64 100000000000000), .lit (.int .u64 1000000000000000), .lit (.int .u64 10000000000000000), .lit (.int .u64 100000000000000000), .lit (.int .u64 1000000000000000000), .lit (.int .u64 10000000000000000000)]

/-- 'galleylaw04.BracketParses': WHATEVER THE INPUT: true; the input reads as it did. -/
def bracketParsesSpec : ChangeSpec := { name := "bracketParses", fn := fun _ => fun
  | [d1, d2] => { results := [.lit (.bool true)], args := [d1, d2] }
  | _ => none }
def bracketParsesRow : OpenClaim := { program := "ythegepiafodpjaadoor", sum := "c193ab5512c37e8a1afdde39c9e30800ad285e6f91c31a59eca77321d3158773", func := "galley/galleylaw04.BracketParses", spec := "bracketParses", unfollowed := true, recurses := true, named := ["galley/bracket.closers", "galley/class.names", "galley/bracket.odd"], apart := false, laid := [("galley/class.names", laid_galley_class_names), ("galley/bracket.odd", laid_galley_bracket_odd), ("galley/bracket.closers", laid_galley_bracket_closers)] }
def BracketParsesSaid : Prop := bracketParsesRow.holds Tryd.pinned (OpenSpec.ofChange bracketParsesSpec)

/-- ITS FALSE NEIGHBOUR: 'it returns false'. Refute it at one input. -/
def bracketParsesWrong : ChangeSpec := { name := "bracketParses", fn := fun _ => fun
  | [d1, d2] => { results := [.lit (.bool false)], args := [d1, d2] }
  | _ => none }
def BracketParsesWrongFalsely : Prop := bracketParsesRow.holds Tryd.pinned (OpenSpec.ofChange bracketParsesWrong)

/-- 'galleylaw04.BracketPrints': WHATEVER THE INPUT: true; the input reads as it did. -/
def bracketPrintsSpec : ChangeSpec := { name := "bracketPrints", fn := fun _ => fun
  | [d1, d2] => { results := [.lit (.bool true)], args := [d1, d2] }
  | _ => none }
def bracketPrintsRow : OpenClaim := { program := "ythegepiafodpjaadoor", sum := "c193ab5512c37e8a1afdde39c9e30800ad285e6f91c31a59eca77321d3158773", func := "galley/galleylaw04.BracketPrints", spec := "bracketPrints", unfollowed := true, recurses := true, named := ["galley/bracket.closers", "galley/class.names", "galley/bracket.odd", "internal/strconv.uint64pow10", "math/bits.deBruijn32tab", "math/bits.deBruijn64tab"], apart := false, laid := [("math/bits.deBruijn32tab", laid_math_bits_deBruijn32tab), ("math/bits.deBruijn64tab", laid_math_bits_deBruijn64tab), ("internal/strconv.uint64pow10", laid_internal_strconv_uint64pow10), ("galley/class.names", laid_galley_class_names), ("galley/bracket.odd", laid_galley_bracket_odd), ("galley/bracket.closers", laid_galley_bracket_closers)] }
def BracketPrintsSaid : Prop := bracketPrintsRow.holds Tryd.pinned (OpenSpec.ofChange bracketPrintsSpec)

/-- ITS FALSE NEIGHBOUR: 'it returns false'. Refute it at one input. -/
def bracketPrintsWrong : ChangeSpec := { name := "bracketPrints", fn := fun _ => fun
  | [d1, d2] => { results := [.lit (.bool false)], args := [d1, d2] }
  | _ => none }
def BracketPrintsWrongFalsely : Prop := bracketPrintsRow.holds Tryd.pinned (OpenSpec.ofChange bracketPrintsWrong)

/-- 'galleylaw04.BracketBack': WHATEVER THE INPUT: true; the input reads as it did. -/
def bracketBackSpec : ChangeSpec := { name := "bracketBack", fn := fun _ => fun
  | [d1, d2, d3] => { results := [.lit (.bool true)], args := [d1, d2, d3] }
  | _ => none }
def bracketBackRow : OpenClaim := { program := "ythegepiafodpjaadoor", sum := "c193ab5512c37e8a1afdde39c9e30800ad285e6f91c31a59eca77321d3158773", func := "galley/galleylaw04.BracketBack", spec := "bracketBack", unfollowed := true, recurses := true, named := ["galley/bracket.closers", "galley/class.names", "galley/bracket.odd"], apart := false, laid := [("galley/class.names", laid_galley_class_names), ("galley/bracket.odd", laid_galley_bracket_odd), ("galley/bracket.closers", laid_galley_bracket_closers)] }
def BracketBackSaid : Prop := bracketBackRow.holds Tryd.pinned (OpenSpec.ofChange bracketBackSpec)

/-- ITS FALSE NEIGHBOUR: 'it returns false'. Refute it at one input. -/
def bracketBackWrong : ChangeSpec := { name := "bracketBack", fn := fun _ => fun
  | [d1, d2, d3] => { results := [.lit (.bool false)], args := [d1, d2, d3] }
  | _ => none }
def BracketBackWrongFalsely : Prop := bracketBackRow.holds Tryd.pinned (OpenSpec.ofChange bracketBackWrong)

/-- 'galleylaw04.BracketItems': WHATEVER THE INPUT: true; the input reads as it did. -/
def bracketItemsSpec : ChangeSpec := { name := "bracketItems", fn := fun _ => fun
  | [d1, d2] => { results := [.lit (.bool true)], args := [d1, d2] }
  | _ => none }
def bracketItemsRow : OpenClaim := { program := "ythegepiafodpjaadoor", sum := "c193ab5512c37e8a1afdde39c9e30800ad285e6f91c31a59eca77321d3158773", func := "galley/galleylaw04.BracketItems", spec := "bracketItems", unfollowed := true, recurses := true, named := ["galley/bracket.closers", "galley/class.names", "galley/bracket.odd"], apart := false, laid := [("galley/class.names", laid_galley_class_names), ("galley/bracket.odd", laid_galley_bracket_odd), ("galley/bracket.closers", laid_galley_bracket_closers)] }
def BracketItemsSaid : Prop := bracketItemsRow.holds Tryd.pinned (OpenSpec.ofChange bracketItemsSpec)

/-- ITS FALSE NEIGHBOUR: 'it returns false'. Refute it at one input. -/
def bracketItemsWrong : ChangeSpec := { name := "bracketItems", fn := fun _ => fun
  | [d1, d2] => { results := [.lit (.bool false)], args := [d1, d2] }
  | _ => none }
def BracketItemsWrongFalsely : Prop := bracketItemsRow.holds Tryd.pinned (OpenSpec.ofChange bracketItemsWrong)

/-- 'galleylaw04.BracketCut': WHATEVER THE INPUT: true; the input reads as it did. -/
def bracketCutSpec : ChangeSpec := { name := "bracketCut", fn := fun _ => fun
  | [d1, d2, d3, d4] => { results := [.lit (.bool true)], args := [d1, d2, d3, d4] }
  | _ => none }
def bracketCutRow : OpenClaim := { program := "ythegepiafodpjaadoor", sum := "c193ab5512c37e8a1afdde39c9e30800ad285e6f91c31a59eca77321d3158773", func := "galley/galleylaw04.BracketCut", spec := "bracketCut", unfollowed := true, recurses := true, named := ["galley/bracket.closers", "galley/class.names", "galley/bracket.odd"], apart := false, laid := [("galley/class.names", laid_galley_class_names), ("galley/bracket.odd", laid_galley_bracket_odd), ("galley/bracket.closers", laid_galley_bracket_closers)] }
def BracketCutSaid : Prop := bracketCutRow.holds Tryd.pinned (OpenSpec.ofChange bracketCutSpec)

/-- ITS FALSE NEIGHBOUR: 'it returns false'. Refute it at one input. -/
def bracketCutWrong : ChangeSpec := { name := "bracketCut", fn := fun _ => fun
  | [d1, d2, d3, d4] => { results := [.lit (.bool false)], args := [d1, d2, d3, d4] }
  | _ => none }
def BracketCutWrongFalsely : Prop := bracketCutRow.holds Tryd.pinned (OpenSpec.ofChange bracketCutWrong)

/- THE SECOND FORM. 'bulk': how many values and letters a reading holds, each counted each time it is reached (what is shared counts as often as it is met; a slice's spare places count too). A statement '..UptoSaid' is the law's where the arguments, and the package variables that the reading takes, are together of bulk at most 1048576: NARROWER than '..Said'. Prove '..Said' where nothing that the law and all that it calls make is longer than what came in: it says more and counts as full. Else prove '..UptoSaid'. A law counts once. -/
mutual
def uptoBulk {H : Type} : DataW H → Nat
  | .lit (.string bytes) => bytes.length + 1
  | .lit _ => 1
  | .nil => 1
  | .ptr d => uptoBulk d + 1
  | .slice elems spare => uptoBulkAll elems + uptoBulkAll spare + 1
  | .agg parts => uptoBulkAll parts + 1
  | .iface _ d => uptoBulk d + 1
  | .map entries => uptoBulkEntries entries + 1
  | .held _ => 1
def uptoBulkAll {H : Type} : List (DataW H) → Nat
  | [] => 0
  | d :: r => uptoBulk d + uptoBulkAll r
def uptoBulkEntries {H : Type} : List (Lit × DataW H) → Nat
  | [] => 0
  | x :: r => uptoBulkEntry x + uptoBulkEntries r
def uptoBulkEntry {H : Type} : Lit × DataW H → Nat
  | (.string bytes, d) => bytes.length + uptoBulk d + 1
  | (_, d) => uptoBulk d + 1
 end
def uptoSmall : (H : Type) → List (DataW H) → Bool := fun _ ds => decide (uptoBulkAll ds ≤ 1048576)
def OpenSpec.upto (s : _root_.Go.ChangeSpec) : _root_.Go.OpenSpec := { _root_.Go.OpenSpec.ofChange s with cond := some uptoSmall }

/-- 'galleylaw04.BracketParses', WHERE WHAT IT READS IS OF BULK AT MOST 1048576: true; the input reads as it did. -/
def bracketParsesUptoRow : OpenClaim := { program := "ythegepiafodpjaadoor", sum := "c193ab5512c37e8a1afdde39c9e30800ad285e6f91c31a59eca77321d3158773", func := "galley/galleylaw04.BracketParses", spec := "bracketParses", unfollowed := true, recurses := true, named := ["galley/bracket.closers", "galley/class.names", "galley/bracket.odd"], apart := false, laid := [("galley/class.names", laid_galley_class_names), ("galley/bracket.odd", laid_galley_bracket_odd), ("galley/bracket.closers", laid_galley_bracket_closers)], narrowed := true }
def BracketParsesUptoSaid : Prop := bracketParsesUptoRow.holds Tryd.pinned (OpenSpec.upto bracketParsesSpec)

/-- 'galleylaw04.BracketPrints', WHERE WHAT IT READS IS OF BULK AT MOST 1048576: true; the input reads as it did. -/
def bracketPrintsUptoRow : OpenClaim := { program := "ythegepiafodpjaadoor", sum := "c193ab5512c37e8a1afdde39c9e30800ad285e6f91c31a59eca77321d3158773", func := "galley/galleylaw04.BracketPrints", spec := "bracketPrints", unfollowed := true, recurses := true, named := ["galley/bracket.closers", "galley/class.names", "galley/bracket.odd", "internal/strconv.uint64pow10", "math/bits.deBruijn32tab", "math/bits.deBruijn64tab"], apart := false, laid := [("math/bits.deBruijn32tab", laid_math_bits_deBruijn32tab), ("math/bits.deBruijn64tab", laid_math_bits_deBruijn64tab), ("internal/strconv.uint64pow10", laid_internal_strconv_uint64pow10), ("galley/class.names", laid_galley_class_names), ("galley/bracket.odd", laid_galley_bracket_odd), ("galley/bracket.closers", laid_galley_bracket_closers)], narrowed := true }
def BracketPrintsUptoSaid : Prop := bracketPrintsUptoRow.holds Tryd.pinned (OpenSpec.upto bracketPrintsSpec)

/-- 'galleylaw04.BracketBack', WHERE WHAT IT READS IS OF BULK AT MOST 1048576: true; the input reads as it did. -/
def bracketBackUptoRow : OpenClaim := { program := "ythegepiafodpjaadoor", sum := "c193ab5512c37e8a1afdde39c9e30800ad285e6f91c31a59eca77321d3158773", func := "galley/galleylaw04.BracketBack", spec := "bracketBack", unfollowed := true, recurses := true, named := ["galley/bracket.closers", "galley/class.names", "galley/bracket.odd"], apart := false, laid := [("galley/class.names", laid_galley_class_names), ("galley/bracket.odd", laid_galley_bracket_odd), ("galley/bracket.closers", laid_galley_bracket_closers)], narrowed := true }
def BracketBackUptoSaid : Prop := bracketBackUptoRow.holds Tryd.pinned (OpenSpec.upto bracketBackSpec)

/-- 'galleylaw04.BracketItems', WHERE WHAT IT READS IS OF BULK AT MOST 1048576: true; the input reads as it did. -/
def bracketItemsUptoRow : OpenClaim := { program := "ythegepiafodpjaadoor", sum := "c193ab5512c37e8a1afdde39c9e30800ad285e6f91c31a59eca77321d3158773", func := "galley/galleylaw04.BracketItems", spec := "bracketItems", unfollowed := true, recurses := true, named := ["galley/bracket.closers", "galley/class.names", "galley/bracket.odd"], apart := false, laid := [("galley/class.names", laid_galley_class_names), ("galley/bracket.odd", laid_galley_bracket_odd), ("galley/bracket.closers", laid_galley_bracket_closers)], narrowed := true }
def BracketItemsUptoSaid : Prop := bracketItemsUptoRow.holds Tryd.pinned (OpenSpec.upto bracketItemsSpec)

/-- 'galleylaw04.BracketCut', WHERE WHAT IT READS IS OF BULK AT MOST 1048576: true; the input reads as it did. -/
def bracketCutUptoRow : OpenClaim := { program := "ythegepiafodpjaadoor", sum := "c193ab5512c37e8a1afdde39c9e30800ad285e6f91c31a59eca77321d3158773", func := "galley/galleylaw04.BracketCut", spec := "bracketCut", unfollowed := true, recurses := true, named := ["galley/bracket.closers", "galley/class.names", "galley/bracket.odd"], apart := false, laid := [("galley/class.names", laid_galley_class_names), ("galley/bracket.odd", laid_galley_bracket_odd), ("galley/bracket.closers", laid_galley_bracket_closers)], narrowed := true }
def BracketCutUptoSaid : Prop := bracketCutUptoRow.holds Tryd.pinned (OpenSpec.upto bracketCutSpec)

end Rows
end Go.Proofs.YthegepiafodpjaaDoor
