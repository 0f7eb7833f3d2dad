/-
  DERIVED. GIVEN WITH THE SEED: THE CARDS: each row of YtflihdcliknggaaGreatDoorRows.lean that lists a variable, with what it lists TIED to the program's text (the seventh form; the later family's looks); each row that meets fmt, with fmt's text TOLD by the authors' own Lean function (tested against real Go, not proved from fmt's source: count such statements apart). THE CARD IS WHAT COUNTS. Prove the row's statement (the work); the ties are given (YtflihdcliknggaaGreatDoorTie.lean); close each card by the builder's one call (the guide's Derived/Test/ToyasCard.lean, 'card_holds'). Laid BY PROGRAM, IN A SANDBOX (cutbox-door.mjs). By AI agents, Wed Nov 11 2026. No macro, syntax, notation, axiom, sorry.
-/
import Derived.Test.YtflihdcliknggaaGreatDoorRows
import GoSem.ClaimSeven
namespace Go.Proofs.YtflihdcliknggaaGreatDoor
namespace Rows

/-- THE TIED CARD OF 'assartlaw11.PagesPlays'. -/
def pagesPlaysCard : Claim7 := { stood := { row := pagesPlaysRow, standIns := [], harness := (true, "48064abab5457927cd3fb71143843c0e1313ea5a4856fc4e0cc02fce2077b420"), looks := true }, kinds := [], alts := [], laidByText := true, laidKinds := [.widerDeep], laidTests := true, laidLooks := .later }
def PagesPlaysCardSaid : Prop := Claim7.holds Tryz.pinned (.plain (OpenSpec.ofChange pagesPlaysSpec)) pagesPlaysCard

/-- THE TIED CARD OF 'assartlaw11.PagesFullest'. -/
def pagesFullestCard : Claim7 := { stood := { row := pagesFullestRow, standIns := [], harness := (true, "48064abab5457927cd3fb71143843c0e1313ea5a4856fc4e0cc02fce2077b420"), looks := true }, kinds := [], alts := [], laidByText := true, laidKinds := [.widerDeep], laidTests := true, laidLooks := .later }
def PagesFullestCardSaid : Prop := Claim7.holds Tryz.pinned (.plain (OpenSpec.ofChange pagesFullestSpec)) pagesFullestCard

/-- THE TIED CARD OF 'assartlaw11.PagesBack'. -/
def pagesBackCard : Claim7 := { stood := { row := pagesBackRow, standIns := [], harness := (true, "48064abab5457927cd3fb71143843c0e1313ea5a4856fc4e0cc02fce2077b420"), looks := true }, kinds := [], alts := [], laidByText := true, laidKinds := [.widerDeep], laidTests := true, laidLooks := .later }
def PagesBackCardSaid : Prop := Claim7.holds Tryz.pinned (.plain (OpenSpec.ofChange pagesBackSpec)) pagesBackCard

/-- THE SECOND FORM's CARD OF 'assartlaw11.PagesPlays'. -/
def pagesPlaysUptoCard : Claim7 := { stood := { row := pagesPlaysUptoRow, standIns := [], harness := (true, "48064abab5457927cd3fb71143843c0e1313ea5a4856fc4e0cc02fce2077b420"), looks := true }, kinds := [], alts := [], laidByText := true, laidKinds := [.widerDeep], laidTests := true, laidLooks := .later }
def PagesPlaysUptoCardSaid : Prop := Claim7.holds Tryz.pinned (.plain (OpenSpec.upto pagesPlaysSpec)) pagesPlaysUptoCard

/-- THE SECOND FORM's CARD OF 'assartlaw11.PagesFullest'. -/
def pagesFullestUptoCard : Claim7 := { stood := { row := pagesFullestUptoRow, standIns := [], harness := (true, "48064abab5457927cd3fb71143843c0e1313ea5a4856fc4e0cc02fce2077b420"), looks := true }, kinds := [], alts := [], laidByText := true, laidKinds := [.widerDeep], laidTests := true, laidLooks := .later }
def PagesFullestUptoCardSaid : Prop := Claim7.holds Tryz.pinned (.plain (OpenSpec.upto pagesFullestSpec)) pagesFullestUptoCard

/-- THE SECOND FORM's CARD OF 'assartlaw11.PagesBack'. -/
def pagesBackUptoCard : Claim7 := { stood := { row := pagesBackUptoRow, standIns := [], harness := (true, "48064abab5457927cd3fb71143843c0e1313ea5a4856fc4e0cc02fce2077b420"), looks := true }, kinds := [], alts := [], laidByText := true, laidKinds := [.widerDeep], laidTests := true, laidLooks := .later }
def PagesBackUptoCardSaid : Prop := Claim7.holds Tryz.pinned (.plain (OpenSpec.upto pagesBackSpec)) pagesBackUptoCard
end Rows
end Go.Proofs.YtflihdcliknggaaGreatDoor
