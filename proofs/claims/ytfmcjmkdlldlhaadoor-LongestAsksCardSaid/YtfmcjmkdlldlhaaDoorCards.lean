/-
  DERIVED. GIVEN WITH THE SEED: THE CARDS: each row of YtfmcjmkdlldlhaaDoorRows.lean that lists a variable, with what it lists TIED to the program's text (the seventh form; the later family's looks); each row that meets fmt, with fmt's text TOLD by the authors' own Lean function (tested against real Go, not proved from fmt's source: count such statements apart). THE CARD IS WHAT COUNTS. Prove the row's statement (the work); the ties are given (YtfmcjmkdlldlhaaDoorTie.lean); close each card by the builder's one call (the guide's Derived/Test/ToyasCard.lean, 'card_holds'). Laid BY PROGRAM, IN A SANDBOX (cutbox-door.mjs). By AI agents, Wed Nov 11 2026. No macro, syntax, notation, axiom, sorry.
-/
import Derived.Test.YtfmcjmkdlldlhaaDoorRows
import GoSem.ClaimSeven
namespace Go.Proofs.YtfmcjmkdlldlhaaDoor
namespace Rows

/-- THE TIED CARD OF 'galleylaw08.LongestAsks'. -/
def longestAsksCard : Claim7 := { stood := { row := longestAsksRow, standIns := [], harness := (true, "57a5729ee67280f04c924d0037aa8fb81b4237a9104914dc024c801bc6369592"), looks := false }, kinds := [], alts := [], laidByText := true, laidKinds := [.data, .data, .data], laidTests := true, laidLooks := .later }
def LongestAsksCardSaid : Prop := Claim7.holds Tryd.pinned (.plain (OpenSpec.ofChange longestAsksSpec)) longestAsksCard

/-- THE SECOND FORM's CARD OF 'galleylaw08.LongestAsks'. -/
def longestAsksUptoCard : Claim7 := { stood := { row := longestAsksUptoRow, standIns := [], harness := (true, "57a5729ee67280f04c924d0037aa8fb81b4237a9104914dc024c801bc6369592"), looks := false }, kinds := [], alts := [], laidByText := true, laidKinds := [.data, .data, .data], laidTests := true, laidLooks := .later }
def LongestAsksUptoCardSaid : Prop := Claim7.holds Tryd.pinned (.plain (OpenSpec.upto longestAsksSpec)) longestAsksUptoCard
end Rows
end Go.Proofs.YtfmcjmkdlldlhaaDoor
