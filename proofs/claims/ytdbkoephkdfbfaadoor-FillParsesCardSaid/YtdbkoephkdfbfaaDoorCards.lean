/-
  DERIVED. GIVEN WITH THE SEED: THE CARDS: each row of YtdbkoephkdfbfaaDoorRows.lean that lists a variable, with what it lists TIED to the program's text (the seventh form; the later family's looks); each row that meets fmt, with fmt's text TOLD by the authors' own Lean function (tested against real Go, not proved from fmt's source: count such statements apart). THE CARD IS WHAT COUNTS. Prove the row's statement (the work); the ties are given (YtdbkoephkdfbfaaDoorTie.lean); close each card by the builder's one call (the guide's Derived/Test/ToyasCard.lean, 'card_holds'). Laid BY PROGRAM, IN A SANDBOX (cutbox-door.mjs). By AI agents, Wed Nov 11 2026. No macro, syntax, notation, axiom, sorry.
-/
import Derived.Test.YtdbkoephkdfbfaaDoorRows
import GoSem.ClaimSeven
namespace Go.Proofs.YtdbkoephkdfbfaaDoor
namespace Rows

/-- THE TIED CARD OF 'galleylaw14.OutsPlays'. -/
def outsPlaysCard : Claim7 := { stood := { row := outsPlaysRow, standIns := [], harness := (true, "506543c044bbea6f8eb198fa4a83a1389a298de8fd1136903b05a1316e8b9773"), looks := true }, kinds := [], alts := [], laidByText := true, laidKinds := [.data, .data, .data], laidTests := true, laidLooks := .later }
def OutsPlaysCardSaid : Prop := Claim7.holds Tryd.pinned (.plain (OpenSpec.ofChange outsPlaysSpec)) outsPlaysCard

/-- THE TIED CARD OF 'galleylaw16.FillParses'. -/
def fillParsesCard : Claim7 := { stood := { row := fillParsesRow, standIns := [], harness := (true, "506543c044bbea6f8eb198fa4a83a1389a298de8fd1136903b05a1316e8b9773"), looks := true }, kinds := [], alts := [], laidByText := true, laidKinds := [.data, .data, .data], laidTests := true, laidLooks := .later }
def FillParsesCardSaid : Prop := Claim7.holds Tryd.pinned (.plain (OpenSpec.ofChange fillParsesSpec)) fillParsesCard

/-- THE TIED CARD OF 'galleylaw16.FillAsks'. -/
def fillAsksCard : Claim7 := { stood := { row := fillAsksRow, standIns := [], harness := (true, "506543c044bbea6f8eb198fa4a83a1389a298de8fd1136903b05a1316e8b9773"), looks := true }, kinds := [], alts := [], laidByText := true, laidKinds := [.data, .data, .data], laidTests := true, laidLooks := .later }
def FillAsksCardSaid : Prop := Claim7.holds Tryd.pinned (.plain (OpenSpec.ofChange fillAsksSpec)) fillAsksCard

/-- THE TIED CARD OF 'galleylaw28.OptsParses'. -/
def optsParsesCard : Claim7 := { stood := { row := optsParsesRow, standIns := [], harness := (true, "506543c044bbea6f8eb198fa4a83a1389a298de8fd1136903b05a1316e8b9773"), looks := true }, kinds := [], alts := [], laidByText := true, laidKinds := [.data, .data, .data], laidTests := true, laidLooks := .later }
def OptsParsesCardSaid : Prop := Claim7.holds Tryd.pinned (.plain (OpenSpec.ofChange optsParsesSpec)) optsParsesCard

/-- THE TIED CARD OF 'galleylaw28.OptsPrints'. -/
def optsPrintsCard : Claim7 := { stood := { row := optsPrintsRow, standIns := [], harness := (true, "506543c044bbea6f8eb198fa4a83a1389a298de8fd1136903b05a1316e8b9773"), looks := true }, kinds := [], alts := [], laidByText := true, laidKinds := [.data, .data, .data], laidTests := true, laidLooks := .later }
def OptsPrintsCardSaid : Prop := Claim7.holds Tryd.pinned (.plain (OpenSpec.ofChange optsPrintsSpec)) optsPrintsCard

/-- THE TIED CARD OF 'galleylaw28.OptsJoins'. -/
def optsJoinsCard : Claim7 := { stood := { row := optsJoinsRow, standIns := [], harness := (true, "506543c044bbea6f8eb198fa4a83a1389a298de8fd1136903b05a1316e8b9773"), looks := true }, kinds := [], alts := [], laidByText := true, laidKinds := [.data, .data, .data], laidTests := true, laidLooks := .later }
def OptsJoinsCardSaid : Prop := Claim7.holds Tryd.pinned (.plain (OpenSpec.ofChange optsJoinsSpec)) optsJoinsCard

/-- THE SECOND FORM's CARD OF 'galleylaw14.OutsPlays'. -/
def outsPlaysUptoCard : Claim7 := { stood := { row := outsPlaysUptoRow, standIns := [], harness := (true, "506543c044bbea6f8eb198fa4a83a1389a298de8fd1136903b05a1316e8b9773"), looks := true }, kinds := [], alts := [], laidByText := true, laidKinds := [.data, .data, .data], laidTests := true, laidLooks := .later }
def OutsPlaysUptoCardSaid : Prop := Claim7.holds Tryd.pinned (.plain (OpenSpec.upto outsPlaysSpec)) outsPlaysUptoCard

/-- THE SECOND FORM's CARD OF 'galleylaw16.FillParses'. -/
def fillParsesUptoCard : Claim7 := { stood := { row := fillParsesUptoRow, standIns := [], harness := (true, "506543c044bbea6f8eb198fa4a83a1389a298de8fd1136903b05a1316e8b9773"), looks := true }, kinds := [], alts := [], laidByText := true, laidKinds := [.data, .data, .data], laidTests := true, laidLooks := .later }
def FillParsesUptoCardSaid : Prop := Claim7.holds Tryd.pinned (.plain (OpenSpec.upto fillParsesSpec)) fillParsesUptoCard

/-- THE SECOND FORM's CARD OF 'galleylaw16.FillAsks'. -/
def fillAsksUptoCard : Claim7 := { stood := { row := fillAsksUptoRow, standIns := [], harness := (true, "506543c044bbea6f8eb198fa4a83a1389a298de8fd1136903b05a1316e8b9773"), looks := true }, kinds := [], alts := [], laidByText := true, laidKinds := [.data, .data, .data], laidTests := true, laidLooks := .later }
def FillAsksUptoCardSaid : Prop := Claim7.holds Tryd.pinned (.plain (OpenSpec.upto fillAsksSpec)) fillAsksUptoCard

/-- THE SECOND FORM's CARD OF 'galleylaw28.OptsParses'. -/
def optsParsesUptoCard : Claim7 := { stood := { row := optsParsesUptoRow, standIns := [], harness := (true, "506543c044bbea6f8eb198fa4a83a1389a298de8fd1136903b05a1316e8b9773"), looks := true }, kinds := [], alts := [], laidByText := true, laidKinds := [.data, .data, .data], laidTests := true, laidLooks := .later }
def OptsParsesUptoCardSaid : Prop := Claim7.holds Tryd.pinned (.plain (OpenSpec.upto optsParsesSpec)) optsParsesUptoCard

/-- THE SECOND FORM's CARD OF 'galleylaw28.OptsPrints'. -/
def optsPrintsUptoCard : Claim7 := { stood := { row := optsPrintsUptoRow, standIns := [], harness := (true, "506543c044bbea6f8eb198fa4a83a1389a298de8fd1136903b05a1316e8b9773"), looks := true }, kinds := [], alts := [], laidByText := true, laidKinds := [.data, .data, .data], laidTests := true, laidLooks := .later }
def OptsPrintsUptoCardSaid : Prop := Claim7.holds Tryd.pinned (.plain (OpenSpec.upto optsPrintsSpec)) optsPrintsUptoCard

/-- THE SECOND FORM's CARD OF 'galleylaw28.OptsJoins'. -/
def optsJoinsUptoCard : Claim7 := { stood := { row := optsJoinsUptoRow, standIns := [], harness := (true, "506543c044bbea6f8eb198fa4a83a1389a298de8fd1136903b05a1316e8b9773"), looks := true }, kinds := [], alts := [], laidByText := true, laidKinds := [.data, .data, .data], laidTests := true, laidLooks := .later }
def OptsJoinsUptoCardSaid : Prop := Claim7.holds Tryd.pinned (.plain (OpenSpec.upto optsJoinsSpec)) optsJoinsUptoCard
end Rows
end Go.Proofs.YtdbkoephkdfbfaaDoor
