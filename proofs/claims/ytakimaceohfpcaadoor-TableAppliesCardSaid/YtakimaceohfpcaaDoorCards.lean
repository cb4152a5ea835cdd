/-
  DERIVED. GIVEN WITH THE SEED: THE CARDS: each row of YtakimaceohfpcaaDoorRows.lean that lists a variable, with what it lists TIED to the program's text (the seventh form; the later family's looks); each row that meets fmt, with fmt's text TOLD by the authors' own Lean function (tested against real Go, not proved from fmt's source: count such statements apart). THE CARD IS WHAT COUNTS. Prove the row's statement (the work); the ties are given (YtakimaceohfpcaaDoorTie.lean); close each card by the builder's one call (the guide's Derived/Test/ToyasCard.lean, 'card_holds'). Laid BY PROGRAM, IN A SANDBOX (cutbox-door.mjs). By AI agents, Wed Nov 11 2026. No macro, syntax, notation, axiom, sorry.
-/
import Derived.Test.YtakimaceohfpcaaDoorRows
import GoSem.ClaimSeven
namespace Go.Proofs.YtakimaceohfpcaaDoor
namespace Rows

/-- THE TIED CARD OF 'galleylaw14.OutsPlays'. -/
def outsPlaysCard : Claim7 := { stood := { row := outsPlaysRow, standIns := [], harness := (true, "c1598f83ab3a9cb40e47cd5357731501b00018a521ade30b3c9d46160b123eda"), looks := true }, kinds := [], alts := [], laidByText := true, laidKinds := [.data, .data, .data], laidTests := true, laidLooks := .later }
def OutsPlaysCardSaid : Prop := Claim7.holds Tryd.pinned (.plain (OpenSpec.ofChange outsPlaysSpec)) outsPlaysCard

/-- THE TIED CARD OF 'galleylaw15.TableApplies'. -/
def tableAppliesCard : Claim7 := { stood := { row := tableAppliesRow, standIns := [], harness := (true, "c1598f83ab3a9cb40e47cd5357731501b00018a521ade30b3c9d46160b123eda"), looks := true }, kinds := [], alts := [], laidByText := true, laidKinds := [.data, .data, .data], laidTests := true, laidLooks := .later }
def TableAppliesCardSaid : Prop := Claim7.holds Tryd.pinned (.plain (OpenSpec.ofChange tableAppliesSpec)) tableAppliesCard

/-- THE TIED CARD OF 'galleylaw16.FillParses'. -/
def fillParsesCard : Claim7 := { stood := { row := fillParsesRow, standIns := [], harness := (true, "c1598f83ab3a9cb40e47cd5357731501b00018a521ade30b3c9d46160b123eda"), looks := true }, kinds := [], alts := [], laidByText := true, laidKinds := [.data, .data, .data], laidTests := true, laidLooks := .later }
def FillParsesCardSaid : Prop := Claim7.holds Tryd.pinned (.plain (OpenSpec.ofChange fillParsesSpec)) fillParsesCard

/-- THE TIED CARD OF 'galleylaw16.FillAsks'. -/
def fillAsksCard : Claim7 := { stood := { row := fillAsksRow, standIns := [], harness := (true, "c1598f83ab3a9cb40e47cd5357731501b00018a521ade30b3c9d46160b123eda"), looks := true }, kinds := [], alts := [], laidByText := true, laidKinds := [.data, .data, .data], laidTests := true, laidLooks := .later }
def FillAsksCardSaid : Prop := Claim7.holds Tryd.pinned (.plain (OpenSpec.ofChange fillAsksSpec)) fillAsksCard

/-- THE TIED CARD OF 'galleylaw16.FillExpands'. -/
def fillExpandsCard : Claim7 := { stood := { row := fillExpandsRow, standIns := [], harness := (true, "c1598f83ab3a9cb40e47cd5357731501b00018a521ade30b3c9d46160b123eda"), looks := true }, kinds := [], alts := [], laidByText := true, laidKinds := [.data, .data, .data], laidTests := true, laidLooks := .later }
def FillExpandsCardSaid : Prop := Claim7.holds Tryd.pinned (.plain (OpenSpec.ofChange fillExpandsSpec)) fillExpandsCard

/-- THE TIED CARD OF 'galleylaw25.SpaceOwn'. -/
def spaceOwnCard : Claim7 := { stood := { row := spaceOwnRow, standIns := [], harness := (true, "c1598f83ab3a9cb40e47cd5357731501b00018a521ade30b3c9d46160b123eda"), looks := true }, kinds := [], alts := [], laidByText := true, laidKinds := [.data, .data, .data], laidTests := true, laidLooks := .later }
def SpaceOwnCardSaid : Prop := Claim7.holds Tryd.pinned (.plain (OpenSpec.ofChange spaceOwnSpec)) spaceOwnCard

/-- THE SECOND FORM's CARD OF 'galleylaw14.OutsPlays'. -/
def outsPlaysUptoCard : Claim7 := { stood := { row := outsPlaysUptoRow, standIns := [], harness := (true, "c1598f83ab3a9cb40e47cd5357731501b00018a521ade30b3c9d46160b123eda"), looks := true }, kinds := [], alts := [], laidByText := true, laidKinds := [.data, .data, .data], laidTests := true, laidLooks := .later }
def OutsPlaysUptoCardSaid : Prop := Claim7.holds Tryd.pinned (.plain (OpenSpec.upto outsPlaysSpec)) outsPlaysUptoCard

/-- THE SECOND FORM's CARD OF 'galleylaw15.TableApplies'. -/
def tableAppliesUptoCard : Claim7 := { stood := { row := tableAppliesUptoRow, standIns := [], harness := (true, "c1598f83ab3a9cb40e47cd5357731501b00018a521ade30b3c9d46160b123eda"), looks := true }, kinds := [], alts := [], laidByText := true, laidKinds := [.data, .data, .data], laidTests := true, laidLooks := .later }
def TableAppliesUptoCardSaid : Prop := Claim7.holds Tryd.pinned (.plain (OpenSpec.upto tableAppliesSpec)) tableAppliesUptoCard

/-- THE SECOND FORM's CARD OF 'galleylaw16.FillParses'. -/
def fillParsesUptoCard : Claim7 := { stood := { row := fillParsesUptoRow, standIns := [], harness := (true, "c1598f83ab3a9cb40e47cd5357731501b00018a521ade30b3c9d46160b123eda"), looks := true }, kinds := [], alts := [], laidByText := true, laidKinds := [.data, .data, .data], laidTests := true, laidLooks := .later }
def FillParsesUptoCardSaid : Prop := Claim7.holds Tryd.pinned (.plain (OpenSpec.upto fillParsesSpec)) fillParsesUptoCard

/-- THE SECOND FORM's CARD OF 'galleylaw16.FillAsks'. -/
def fillAsksUptoCard : Claim7 := { stood := { row := fillAsksUptoRow, standIns := [], harness := (true, "c1598f83ab3a9cb40e47cd5357731501b00018a521ade30b3c9d46160b123eda"), looks := true }, kinds := [], alts := [], laidByText := true, laidKinds := [.data, .data, .data], laidTests := true, laidLooks := .later }
def FillAsksUptoCardSaid : Prop := Claim7.holds Tryd.pinned (.plain (OpenSpec.upto fillAsksSpec)) fillAsksUptoCard

/-- THE SECOND FORM's CARD OF 'galleylaw16.FillExpands'. -/
def fillExpandsUptoCard : Claim7 := { stood := { row := fillExpandsUptoRow, standIns := [], harness := (true, "c1598f83ab3a9cb40e47cd5357731501b00018a521ade30b3c9d46160b123eda"), looks := true }, kinds := [], alts := [], laidByText := true, laidKinds := [.data, .data, .data], laidTests := true, laidLooks := .later }
def FillExpandsUptoCardSaid : Prop := Claim7.holds Tryd.pinned (.plain (OpenSpec.upto fillExpandsSpec)) fillExpandsUptoCard

/-- THE SECOND FORM's CARD OF 'galleylaw25.SpaceOwn'. -/
def spaceOwnUptoCard : Claim7 := { stood := { row := spaceOwnUptoRow, standIns := [], harness := (true, "c1598f83ab3a9cb40e47cd5357731501b00018a521ade30b3c9d46160b123eda"), looks := true }, kinds := [], alts := [], laidByText := true, laidKinds := [.data, .data, .data], laidTests := true, laidLooks := .later }
def SpaceOwnUptoCardSaid : Prop := Claim7.holds Tryd.pinned (.plain (OpenSpec.upto spaceOwnSpec)) spaceOwnUptoCard
end Rows
end Go.Proofs.YtakimaceohfpcaaDoor
