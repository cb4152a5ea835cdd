/-
  DERIVED. GIVEN WITH THE SEED: THE CARDS: each row of YtkiiidhfjieknaaDoorRows.lean that lists a variable, with what it lists TIED to the program's text (the seventh form; the later family's looks); each row that meets fmt, with fmt's text TOLD by the authors' own Lean function (tested against real Go, not proved from fmt's source: count such statements apart). THE CARD IS WHAT COUNTS. Prove the row's statement (the work); the ties are given (YtkiiidhfjieknaaDoorTie.lean); close each card by the builder's one call (the guide's Derived/Test/ToyasCard.lean, 'card_holds'). Laid BY PROGRAM, IN A SANDBOX (cutbox-door.mjs). By AI agents, Wed Nov 11 2026. No macro, syntax, notation, axiom, sorry.
-/
import Derived.Test.YtkiiidhfjieknaaDoorRows
import GoSem.ClaimSeven
namespace Go.Proofs.YtkiiidhfjieknaaDoor
namespace Rows

/-- THE TIED CARD OF 'galleylaw18.FoldRows'. -/
def foldRowsCard : Claim7 := { stood := { row := foldRowsRow, standIns := [], harness := (true, "6db27184ec814994bcfd5fe8dd476d6f24caa3c3e8382f5c45010d83e9593ce1"), looks := false }, kinds := [], alts := [], laidByText := true, laidKinds := [.data, .data, .data, .data], laidTests := true, laidLooks := .later }
def FoldRowsCardSaid : Prop := Claim7.holds Tryd.pinned (.plain (OpenSpec.ofChange foldRowsSpec)) foldRowsCard

/-- THE TIED CARD OF 'galleylaw18.FoldReads'. -/
def foldReadsCard : Claim7 := { stood := { row := foldReadsRow, standIns := [], harness := (true, "6db27184ec814994bcfd5fe8dd476d6f24caa3c3e8382f5c45010d83e9593ce1"), looks := false }, kinds := [], alts := [], laidByText := true, laidKinds := [.data, .data, .data, .data], laidTests := true, laidLooks := .later }
def FoldReadsCardSaid : Prop := Claim7.holds Tryd.pinned (.plain (OpenSpec.ofChange foldReadsSpec)) foldReadsCard

/-- THE TIED CARD OF 'galleylaw18.FoldBack'. -/
def foldBackCard : Claim7 := { stood := { row := foldBackRow, standIns := [], harness := (true, "6db27184ec814994bcfd5fe8dd476d6f24caa3c3e8382f5c45010d83e9593ce1"), looks := false }, kinds := [], alts := [], laidByText := true, laidKinds := [.data], laidTests := true, laidLooks := .later }
def FoldBackCardSaid : Prop := Claim7.holds Tryd.pinned (.plain (OpenSpec.ofChange foldBackSpec)) foldBackCard

/-- THE TIED CARD OF 'galleylaw18.FoldWidths'. -/
def foldWidthsCard : Claim7 := { stood := { row := foldWidthsRow, standIns := [], harness := (true, "6db27184ec814994bcfd5fe8dd476d6f24caa3c3e8382f5c45010d83e9593ce1"), looks := false }, kinds := [], alts := [], laidByText := true, laidKinds := [.data], laidTests := true, laidLooks := .later }
def FoldWidthsCardSaid : Prop := Claim7.holds Tryd.pinned (.plain (OpenSpec.ofChange foldWidthsSpec)) foldWidthsCard

/-- THE SECOND FORM's CARD OF 'galleylaw18.FoldRows'. -/
def foldRowsUptoCard : Claim7 := { stood := { row := foldRowsUptoRow, standIns := [], harness := (true, "6db27184ec814994bcfd5fe8dd476d6f24caa3c3e8382f5c45010d83e9593ce1"), looks := false }, kinds := [], alts := [], laidByText := true, laidKinds := [.data, .data, .data, .data], laidTests := true, laidLooks := .later }
def FoldRowsUptoCardSaid : Prop := Claim7.holds Tryd.pinned (.plain (OpenSpec.upto foldRowsSpec)) foldRowsUptoCard

/-- THE SECOND FORM's CARD OF 'galleylaw18.FoldReads'. -/
def foldReadsUptoCard : Claim7 := { stood := { row := foldReadsUptoRow, standIns := [], harness := (true, "6db27184ec814994bcfd5fe8dd476d6f24caa3c3e8382f5c45010d83e9593ce1"), looks := false }, kinds := [], alts := [], laidByText := true, laidKinds := [.data, .data, .data, .data], laidTests := true, laidLooks := .later }
def FoldReadsUptoCardSaid : Prop := Claim7.holds Tryd.pinned (.plain (OpenSpec.upto foldReadsSpec)) foldReadsUptoCard

/-- THE SECOND FORM's CARD OF 'galleylaw18.FoldBack'. -/
def foldBackUptoCard : Claim7 := { stood := { row := foldBackUptoRow, standIns := [], harness := (true, "6db27184ec814994bcfd5fe8dd476d6f24caa3c3e8382f5c45010d83e9593ce1"), looks := false }, kinds := [], alts := [], laidByText := true, laidKinds := [.data], laidTests := true, laidLooks := .later }
def FoldBackUptoCardSaid : Prop := Claim7.holds Tryd.pinned (.plain (OpenSpec.upto foldBackSpec)) foldBackUptoCard

/-- THE SECOND FORM's CARD OF 'galleylaw18.FoldWidths'. -/
def foldWidthsUptoCard : Claim7 := { stood := { row := foldWidthsUptoRow, standIns := [], harness := (true, "6db27184ec814994bcfd5fe8dd476d6f24caa3c3e8382f5c45010d83e9593ce1"), looks := false }, kinds := [], alts := [], laidByText := true, laidKinds := [.data], laidTests := true, laidLooks := .later }
def FoldWidthsUptoCardSaid : Prop := Claim7.holds Tryd.pinned (.plain (OpenSpec.upto foldWidthsSpec)) foldWidthsUptoCard
end Rows
end Go.Proofs.YtkiiidhfjieknaaDoor
