/-
  DERIVED. GIVEN WITH THE SEED: THE CARDS: each row of YtfddhogffpkhcaaGreatDoorRows.lean that lists a variable, with what it lists TIED to the program's text (the seventh form; the later family's looks); each row that meets fmt, with fmt's text TOLD by the authors' own Lean function (tested against real Go, not proved from fmt's source: count such statements apart). THE CARD IS WHAT COUNTS. Prove the row's statement (the work); the ties are given (YtfddhogffpkhcaaGreatDoorTie.lean); close each card by the builder's one call (the guide's Derived/Test/ToyasCard.lean, 'card_holds'). Laid BY PROGRAM, IN A SANDBOX (cutbox-door.mjs). By AI agents, Wed Nov 11 2026. No macro, syntax, notation, axiom, sorry.
-/
import Derived.Test.YtfddhogffpkhcaaGreatDoorRows
import GoSem.ClaimSeven
namespace Go.Proofs.YtfddhogffpkhcaaGreatDoor
namespace Rows

/-- THE TIED CARD OF 'assartlaw17.TallyCounts'. -/
def tallyCountsCard : Claim7 := { stood := { row := tallyCountsRow, standIns := [], harness := (true, "d0703284f6d637e2a9a4e2a3856a2a8aff32eb12ccf2bbc7a1fdf8447d76401c"), looks := true }, kinds := [], alts := [], laidByText := true, laidKinds := [.widerDeep], laidTests := true, laidLooks := .later }
def TallyCountsCardSaid : Prop := Claim7.holds Tryz.pinned (.plain (OpenSpec.ofChange tallyCountsSpec)) tallyCountsCard

/-- THE TIED CARD OF 'assartlaw17.TallyRights'. -/
def tallyRightsCard : Claim7 := { stood := { row := tallyRightsRow, standIns := [], harness := (true, "d0703284f6d637e2a9a4e2a3856a2a8aff32eb12ccf2bbc7a1fdf8447d76401c"), looks := true }, kinds := [], alts := [], laidByText := true, laidKinds := [.widerDeep], laidTests := true, laidLooks := .later }
def TallyRightsCardSaid : Prop := Claim7.holds Tryz.pinned (.plain (OpenSpec.ofChange tallyRightsSpec)) tallyRightsCard

/-- THE TIED CARD OF 'assartlaw17.TallyTold'. -/
def tallyToldCard : Claim7 := { stood := { row := tallyToldRow, standIns := [], harness := (true, "d0703284f6d637e2a9a4e2a3856a2a8aff32eb12ccf2bbc7a1fdf8447d76401c"), looks := true }, kinds := [], alts := [], laidByText := true, laidKinds := [.widerDeep], laidTests := true, laidLooks := .later }
def TallyToldCardSaid : Prop := Claim7.holds Tryz.pinned (.plain (OpenSpec.ofChange tallyToldSpec)) tallyToldCard

/-- THE TIED CARD OF 'assartlaw17.TallySums'. -/
def tallySumsCard : Claim7 := { stood := { row := tallySumsRow, standIns := [], harness := (true, "d0703284f6d637e2a9a4e2a3856a2a8aff32eb12ccf2bbc7a1fdf8447d76401c"), looks := true }, kinds := [], alts := [], laidByText := true, laidKinds := [.widerDeep], laidTests := true, laidLooks := .later }
def TallySumsCardSaid : Prop := Claim7.holds Tryz.pinned (.plain (OpenSpec.ofChange tallySumsSpec)) tallySumsCard

/-- THE SECOND FORM's CARD OF 'assartlaw17.TallyCounts'. -/
def tallyCountsUptoCard : Claim7 := { stood := { row := tallyCountsUptoRow, standIns := [], harness := (true, "d0703284f6d637e2a9a4e2a3856a2a8aff32eb12ccf2bbc7a1fdf8447d76401c"), looks := true }, kinds := [], alts := [], laidByText := true, laidKinds := [.widerDeep], laidTests := true, laidLooks := .later }
def TallyCountsUptoCardSaid : Prop := Claim7.holds Tryz.pinned (.plain (OpenSpec.upto tallyCountsSpec)) tallyCountsUptoCard

/-- THE SECOND FORM's CARD OF 'assartlaw17.TallyRights'. -/
def tallyRightsUptoCard : Claim7 := { stood := { row := tallyRightsUptoRow, standIns := [], harness := (true, "d0703284f6d637e2a9a4e2a3856a2a8aff32eb12ccf2bbc7a1fdf8447d76401c"), looks := true }, kinds := [], alts := [], laidByText := true, laidKinds := [.widerDeep], laidTests := true, laidLooks := .later }
def TallyRightsUptoCardSaid : Prop := Claim7.holds Tryz.pinned (.plain (OpenSpec.upto tallyRightsSpec)) tallyRightsUptoCard

/-- THE SECOND FORM's CARD OF 'assartlaw17.TallyTold'. -/
def tallyToldUptoCard : Claim7 := { stood := { row := tallyToldUptoRow, standIns := [], harness := (true, "d0703284f6d637e2a9a4e2a3856a2a8aff32eb12ccf2bbc7a1fdf8447d76401c"), looks := true }, kinds := [], alts := [], laidByText := true, laidKinds := [.widerDeep], laidTests := true, laidLooks := .later }
def TallyToldUptoCardSaid : Prop := Claim7.holds Tryz.pinned (.plain (OpenSpec.upto tallyToldSpec)) tallyToldUptoCard

/-- THE SECOND FORM's CARD OF 'assartlaw17.TallySums'. -/
def tallySumsUptoCard : Claim7 := { stood := { row := tallySumsUptoRow, standIns := [], harness := (true, "d0703284f6d637e2a9a4e2a3856a2a8aff32eb12ccf2bbc7a1fdf8447d76401c"), looks := true }, kinds := [], alts := [], laidByText := true, laidKinds := [.widerDeep], laidTests := true, laidLooks := .later }
def TallySumsUptoCardSaid : Prop := Claim7.holds Tryz.pinned (.plain (OpenSpec.upto tallySumsSpec)) tallySumsUptoCard
end Rows
end Go.Proofs.YtfddhogffpkhcaaGreatDoor
