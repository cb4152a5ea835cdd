/-
  NARROWER THAN 'FOR EVERY INPUT', by the rows' own cells (each row's printed sentence says how): ClassMakes: laid · ClassNames: laid.
  DERIVED. THE GIVEN ROWS OF THIS SEAT. 2 by the template 'for every input the law returns true; each argument reads behind the call as it read before'; 0 by the template 'total and deterministic' (their statements: YtcdoliinemafaaaDoorTotals.lean).
  GIVEN WITH THE SEED: the statements are not yours to turn. If you find one false, say at which input.
  Laid BY PROGRAM, IN A SANDBOX (cutbox-rows.mjs): the forced cells as the released guide's own fill.sh prints them over the translation 468170ec11aba99f… (all of the seat's roots in one cut). By AI agents, Wed Nov 11 2026. No macro, syntax, notation, axiom, sorry.
-/
import Derived.Test.YtcdoliinemafaaaDoorChecked
import GoSem.Claim
import GoSem.ClaimJoined
import GoSem.ClaimMapViews
import Derived.JoinedTies
import Derived.KernelRfl
namespace Go.Proofs.YtcdoliinemafaaaDoor
/- THE CELL 'sum', in the pinned program and in every row, IS THE sha256 OF THE DUMP (.gsa) THAT YtcdoliinemafaaaDoorProg.lean LOADS. Nothing in Lean hashes anything: it is a label: what it is worth is what the hold of that sum in a sandbox is worth. -/
noncomputable def Tryd.pinned : Pinned := { name := "ytcdoliinemafaaadoor", sum := "468170ec11aba99f25b280b4cc42943d0b217780068e7b714e76c66f6bfa4646", checked := Tryd.checked }
namespace Rows
def none {H : Type} : Left H := { results := [], args := [] }

/- WHAT THE LISTED PACKAGE-LEVEL VARIABLES READ AS WHEN THE CALL BEGINS. Each datum BY PROGRAM (the guide's laid-datum.mjs) off the statement by which the dump's own 'gosem.cut.vars' lays the variable. In a bare row this is a premise. The card (YtcdoliinemafaaaDoorCards.lean) ties it to the program's text. -/
def laid_galley_class_names {H : Type} : DataW H := .agg [.agg [.lit (.string [117, 112, 112, 101, 114]), .lit (.int .u8 65), .lit (.int .u8 90)], .agg [.lit (.string [108, 111, 119, 101, 114]), .lit (.int .u8 97), .lit (.int .u8 122)], .agg [.lit (.string [97, 108, 112, 104, 97]), .lit (.int .u8 65), .lit (.int .u8 90)], .agg [.lit (.string [97, 108, 112, 104, 97]), .lit (.int .u8 97), .lit (.int .u8 122)], .agg [.lit (.string [100, 105, 103, 105, 116]), .lit (.int .u8 48), .lit (.int .u8 57)], .agg [.lit (.string [97, 108, 110, 117, 109]), .lit (.int .u8 48), .lit (.int .u8 57)], .agg [.lit (.string [97, 108, 110, 117, 109]), .lit (.int .u8 65), .lit (.int .u8 90)], .agg [.lit (.string [97, 108, 110, 117, 109]), .lit (.int .u8 97), .lit (.int .u8 122)], .agg [.lit (.string [120, 100, 105, 103, 105, 116]), .lit (.int .u8 48), .lit (.int .u8 57)], .agg [.lit (.string [120, 100, 105, 103, 105, 116]), .lit (.int .u8 65), .lit (.int .u8 70)], .agg [.lit (.string [120, 100, 105, 103, 105, 116]), .lit (.int .u8 97), .lit (.int .u8 102)], .agg [.lit (.string [98, 108, 97, 110, 107]), .lit (.int .u8 9), .lit (.int .u8 9)], .agg [.lit (.string [98, 108, 97, 110, 107]), .lit (.int .u8 32), .lit (.int .u8 32)], .agg [.lit (.string [115, 112, 97, 99, 101]), .lit (.int .u8 9), .lit (.int .u8 13)], .agg [.lit (.string [115, 112, 97, 99, 101]), .lit (.int .u8 32), .lit (.int .u8 32)], .agg [.lit (.string [99, 110, 116, 114, 108]), .lit (.int .u8 0), .lit (.int .u8 31)], .agg [.lit (.string [99, 110, 116, 114, 108]), .lit (.int .u8 127), .lit (.int .u8 127)], .agg [.lit (.string [103, 114, 97, 112, 104]), .lit (.int .u8 33), .lit (.int .u8 126)], .agg [.lit (.string [112, 114, 105, 110, 116]), .lit (.int .u8 32), .lit (.int .u8 126)], .agg [.lit (.string [112, 117, 110, 99, 116]), .lit (.int .u8 33), .lit (.int .u8 47)], .agg [.lit (.string [112, 117, 110, 99, 116]), .lit (.int .u8 58), .lit (.int .u8 64)], .agg [.lit (.string [112, 117, 110, 99, 116]), .lit (.int .u8 91), .lit (.int .u8 96)], .agg [.lit (.string [112, 117, 110, 99, 116]), .lit (.int .u8 123), .lit (.int .u8 126)]]

/-- 'galleylaw01.ClassMakes': WHATEVER THE INPUT: true; the input reads as it did. -/
def classMakesSpec : ChangeSpec := { name := "classMakes", fn := fun _ => fun
  | [d1, d2, d3, d4] => { results := [.lit (.bool true)], args := [d1, d2, d3, d4] }
  | _ => none }
def classMakesRow : OpenClaim := { program := "ytcdoliinemafaaadoor", sum := "468170ec11aba99f25b280b4cc42943d0b217780068e7b714e76c66f6bfa4646", func := "galley/galleylaw01.ClassMakes", spec := "classMakes", unfollowed := true, recurses := true, named := ["galley/class.names"], apart := false, laid := [("galley/class.names", laid_galley_class_names)] }
def ClassMakesSaid : Prop := classMakesRow.holds Tryd.pinned (OpenSpec.ofChange classMakesSpec)

/-- ITS FALSE NEIGHBOUR: 'it returns false'. Refute it at one input. -/
def classMakesWrong : ChangeSpec := { name := "classMakes", fn := fun _ => fun
  | [d1, d2, d3, d4] => { results := [.lit (.bool false)], args := [d1, d2, d3, d4] }
  | _ => none }
def ClassMakesWrongFalsely : Prop := classMakesRow.holds Tryd.pinned (OpenSpec.ofChange classMakesWrong)

/-- 'galleylaw01.ClassNames': WHATEVER THE INPUT: true; the input reads as it did. -/
def classNamesSpec : ChangeSpec := { name := "classNames", fn := fun _ => fun
  | [d] => { results := [.lit (.bool true)], args := [d] }
  | _ => none }
def classNamesRow : OpenClaim := { program := "ytcdoliinemafaaadoor", sum := "468170ec11aba99f25b280b4cc42943d0b217780068e7b714e76c66f6bfa4646", func := "galley/galleylaw01.ClassNames", spec := "classNames", unfollowed := true, recurses := true, named := ["galley/class.names"], apart := false, laid := [("galley/class.names", laid_galley_class_names)] }
def ClassNamesSaid : Prop := classNamesRow.holds Tryd.pinned (OpenSpec.ofChange classNamesSpec)

/-- ITS FALSE NEIGHBOUR: 'it returns false'. Refute it at one input. -/
def classNamesWrong : ChangeSpec := { name := "classNames", fn := fun _ => fun
  | [d] => { results := [.lit (.bool false)], args := [d] }
  | _ => none }
def ClassNamesWrongFalsely : Prop := classNamesRow.holds Tryd.pinned (OpenSpec.ofChange classNamesWrong)

/- THE SECOND FORM. 'bulk': how many values and letters a reading holds, each counted each time it is reached (what is shared counts as often as it is met; a slice's spare places count too). A statement '..UptoSaid' is the law's where the arguments, and the package variables that the reading takes, are together of bulk at most 1048576: NARROWER than '..Said'. Prove '..Said' where nothing that the law and all that it calls make is longer than what came in: it says more and counts as full. Else prove '..UptoSaid'. A law counts once. -/
mutual
def uptoBulk {H : Type} : DataW H → Nat
  | .lit (.string bytes) => bytes.length + 1
  | .lit _ => 1
  | .nil => 1
  | .ptr d => uptoBulk d + 1
  | .slice elems spare => uptoBulkAll elems + uptoBulkAll spare + 1
  | .agg parts => uptoBulkAll parts + 1
  | .iface _ d => uptoBulk d + 1
  | .map entries => uptoBulkEntries entries + 1
  | .held _ => 1
def uptoBulkAll {H : Type} : List (DataW H) → Nat
  | [] => 0
  | d :: r => uptoBulk d + uptoBulkAll r
def uptoBulkEntries {H : Type} : List (Lit × DataW H) → Nat
  | [] => 0
  | x :: r => uptoBulkEntry x + uptoBulkEntries r
def uptoBulkEntry {H : Type} : Lit × DataW H → Nat
  | (.string bytes, d) => bytes.length + uptoBulk d + 1
  | (_, d) => uptoBulk d + 1
 end
def uptoSmall : (H : Type) → List (DataW H) → Bool := fun _ ds => decide (uptoBulkAll ds ≤ 1048576)
def OpenSpec.upto (s : _root_.Go.ChangeSpec) : _root_.Go.OpenSpec := { _root_.Go.OpenSpec.ofChange s with cond := some uptoSmall }

/-- 'galleylaw01.ClassMakes', WHERE WHAT IT READS IS OF BULK AT MOST 1048576: true; the input reads as it did. -/
def classMakesUptoRow : OpenClaim := { program := "ytcdoliinemafaaadoor", sum := "468170ec11aba99f25b280b4cc42943d0b217780068e7b714e76c66f6bfa4646", func := "galley/galleylaw01.ClassMakes", spec := "classMakes", unfollowed := true, recurses := true, named := ["galley/class.names"], apart := false, laid := [("galley/class.names", laid_galley_class_names)], narrowed := true }
def ClassMakesUptoSaid : Prop := classMakesUptoRow.holds Tryd.pinned (OpenSpec.upto classMakesSpec)

/-- 'galleylaw01.ClassNames', WHERE WHAT IT READS IS OF BULK AT MOST 1048576: true; the input reads as it did. -/
def classNamesUptoRow : OpenClaim := { program := "ytcdoliinemafaaadoor", sum := "468170ec11aba99f25b280b4cc42943d0b217780068e7b714e76c66f6bfa4646", func := "galley/galleylaw01.ClassNames", spec := "classNames", unfollowed := true, recurses := true, named := ["galley/class.names"], apart := false, laid := [("galley/class.names", laid_galley_class_names)], narrowed := true }
def ClassNamesUptoSaid : Prop := classNamesUptoRow.holds Tryd.pinned (OpenSpec.upto classNamesSpec)

end Rows
end Go.Proofs.YtcdoliinemafaaaDoor
