/-
  DERIVED. GIVEN WITH THE SEED: THE CARDS: each row of YtgepjjpcokbpjaaDoorRows.lean that lists a variable, with what it lists TIED to the program's text (the seventh form; the later family's looks); each row that meets fmt, with fmt's text TOLD by the authors' own Lean function (tested against real Go, not proved from fmt's source: count such statements apart). THE CARD IS WHAT COUNTS. Prove the row's statement (the work); the ties are given (YtgepjjpcokbpjaaDoorTie.lean); close each card by the builder's one call (the guide's Derived/Test/ToyasCard.lean, 'card_holds'). Laid BY PROGRAM, IN A SANDBOX (cutbox-door.mjs). By AI agents, Wed Nov 11 2026. No macro, syntax, notation, axiom, sorry.
-/
import Derived.Test.YtgepjjpcokbpjaaDoorRows
import GoSem.ClaimSeven
namespace Go.Proofs.YtgepjjpcokbpjaaDoor
namespace Rows

/-- THE TIED CARD OF 'galleylaw28.OptsParses'. -/
def optsParsesCard : Claim7 := { stood := { row := optsParsesRow, standIns := [], harness := (true, "5fff23527d23f1f0ad9b12f7541cfc6b72edee33c9e74a92eeeed2960d828add"), looks := false }, kinds := [], alts := [], laidByText := true, laidKinds := [.data, .data, .data], laidTests := true, laidLooks := .later }
def OptsParsesCardSaid : Prop := Claim7.holds Tryd.pinned (.plain (OpenSpec.ofChange optsParsesSpec)) optsParsesCard

/-- THE TIED CARD OF 'galleylaw28.OptsPrints'. -/
def optsPrintsCard : Claim7 := { stood := { row := optsPrintsRow, standIns := [], harness := (true, "5fff23527d23f1f0ad9b12f7541cfc6b72edee33c9e74a92eeeed2960d828add"), looks := false }, kinds := [], alts := [], laidByText := true, laidKinds := [.data, .data, .data], laidTests := true, laidLooks := .later }
def OptsPrintsCardSaid : Prop := Claim7.holds Tryd.pinned (.plain (OpenSpec.ofChange optsPrintsSpec)) optsPrintsCard

/-- THE TIED CARD OF 'galleylaw28.OptsJoins'. -/
def optsJoinsCard : Claim7 := { stood := { row := optsJoinsRow, standIns := [], harness := (true, "5fff23527d23f1f0ad9b12f7541cfc6b72edee33c9e74a92eeeed2960d828add"), looks := false }, kinds := [], alts := [], laidByText := true, laidKinds := [.data, .data, .data], laidTests := true, laidLooks := .later }
def OptsJoinsCardSaid : Prop := Claim7.holds Tryd.pinned (.plain (OpenSpec.ofChange optsJoinsSpec)) optsJoinsCard

/-- THE SECOND FORM's CARD OF 'galleylaw28.OptsParses'. -/
def optsParsesUptoCard : Claim7 := { stood := { row := optsParsesUptoRow, standIns := [], harness := (true, "5fff23527d23f1f0ad9b12f7541cfc6b72edee33c9e74a92eeeed2960d828add"), looks := false }, kinds := [], alts := [], laidByText := true, laidKinds := [.data, .data, .data], laidTests := true, laidLooks := .later }
def OptsParsesUptoCardSaid : Prop := Claim7.holds Tryd.pinned (.plain (OpenSpec.upto optsParsesSpec)) optsParsesUptoCard

/-- THE SECOND FORM's CARD OF 'galleylaw28.OptsPrints'. -/
def optsPrintsUptoCard : Claim7 := { stood := { row := optsPrintsUptoRow, standIns := [], harness := (true, "5fff23527d23f1f0ad9b12f7541cfc6b72edee33c9e74a92eeeed2960d828add"), looks := false }, kinds := [], alts := [], laidByText := true, laidKinds := [.data, .data, .data], laidTests := true, laidLooks := .later }
def OptsPrintsUptoCardSaid : Prop := Claim7.holds Tryd.pinned (.plain (OpenSpec.upto optsPrintsSpec)) optsPrintsUptoCard

/-- THE SECOND FORM's CARD OF 'galleylaw28.OptsJoins'. -/
def optsJoinsUptoCard : Claim7 := { stood := { row := optsJoinsUptoRow, standIns := [], harness := (true, "5fff23527d23f1f0ad9b12f7541cfc6b72edee33c9e74a92eeeed2960d828add"), looks := false }, kinds := [], alts := [], laidByText := true, laidKinds := [.data, .data, .data], laidTests := true, laidLooks := .later }
def OptsJoinsUptoCardSaid : Prop := Claim7.holds Tryd.pinned (.plain (OpenSpec.upto optsJoinsSpec)) optsJoinsUptoCard
end Rows
end Go.Proofs.YtgepjjpcokbpjaaDoor
