/-
  DERIVED. GIVEN WITH THE SEED: THE CARDS: each row of YtmafllcmkhgidaaGreatDoorRows.lean that lists a variable, with what it lists TIED to the program's text (the seventh form; the later family's looks); each row that meets fmt, with fmt's text TOLD by the authors' own Lean function (tested against real Go, not proved from fmt's source: count such statements apart). THE CARD IS WHAT COUNTS. Prove the row's statement (the work); the ties are given (YtmafllcmkhgidaaGreatDoorTie.lean); close each card by the builder's one call (the guide's Derived/Test/ToyasCard.lean, 'card_holds'). Laid BY PROGRAM, IN A SANDBOX (cutbox-door.mjs). By AI agents, Wed Nov 11 2026. No macro, syntax, notation, axiom, sorry.
-/
import Derived.Test.YtmafllcmkhgidaaGreatDoorRows
import GoSem.ClaimSeven
namespace Go.Proofs.YtmafllcmkhgidaaGreatDoor
namespace Rows

/-- THE TIED CARD OF 'assartlaw11.PagesFullest'. -/
def pagesFullestCard : Claim7 := { stood := { row := pagesFullestRow, standIns := [], harness := (true, "f165f787c9886d9ca4ecde432e82ce355a7fdb9acedd6a4ea659bec4b2ebe5ca"), looks := true }, kinds := [], alts := [], laidByText := true, laidKinds := [.widerDeep], laidTests := true, laidLooks := .later }
def PagesFullestCardSaid : Prop := Claim7.holds Tryz.pinned (.plain (OpenSpec.ofChange pagesFullestSpec)) pagesFullestCard

/-- THE SECOND FORM's CARD OF 'assartlaw11.PagesFullest'. -/
def pagesFullestUptoCard : Claim7 := { stood := { row := pagesFullestUptoRow, standIns := [], harness := (true, "f165f787c9886d9ca4ecde432e82ce355a7fdb9acedd6a4ea659bec4b2ebe5ca"), looks := true }, kinds := [], alts := [], laidByText := true, laidKinds := [.widerDeep], laidTests := true, laidLooks := .later }
def PagesFullestUptoCardSaid : Prop := Claim7.holds Tryz.pinned (.plain (OpenSpec.upto pagesFullestSpec)) pagesFullestUptoCard
end Rows
end Go.Proofs.YtmafllcmkhgidaaGreatDoor
