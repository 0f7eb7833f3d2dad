/-
  DERIVED. GIVEN WITH THE SEED: THE CARDS: each row of YtddmeghbmdfgeaaGreatDoorRows.lean that lists a variable, with what it lists TIED to the program's text (the seventh form; the later family's looks); each row that meets fmt, with fmt's text TOLD by the authors' own Lean function (tested against real Go, not proved from fmt's source: count such statements apart). THE CARD IS WHAT COUNTS. Prove the row's statement (the work); the ties are given (YtddmeghbmdfgeaaGreatDoorTie.lean); close each card by the builder's one call (the guide's Derived/Test/ToyasCard.lean, 'card_holds'). Laid BY PROGRAM, IN A SANDBOX (cutbox-door.mjs). By AI agents, Wed Nov 11 2026. No macro, syntax, notation, axiom, sorry.
-/
import Derived.Test.YtddmeghbmdfgeaaGreatDoorRows
import GoSem.ClaimSeven
namespace Go.Proofs.YtddmeghbmdfgeaaGreatDoor
namespace Rows

/-- THE TIED CARD OF 'assartlaw14.FrontKeeps'. -/
def frontKeepsCard : Claim7 := { stood := { row := frontKeepsRow, standIns := [], harness := (true, "566da367b1d1a053e48480ba727875ec8d448123a0b5cb551bab05e9f4137002"), looks := true }, kinds := [], alts := [], laidByText := true, laidKinds := [.widerDeep], laidTests := true, laidLooks := .later }
def FrontKeepsCardSaid : Prop := Claim7.holds Tryz.pinned (.plain (OpenSpec.ofChange frontKeepsSpec)) frontKeepsCard

/-- THE TIED CARD OF 'assartlaw14.FrontEmpties'. -/
def frontEmptiesCard : Claim7 := { stood := { row := frontEmptiesRow, standIns := [], harness := (true, "566da367b1d1a053e48480ba727875ec8d448123a0b5cb551bab05e9f4137002"), looks := true }, kinds := [], alts := [], laidByText := true, laidKinds := [.widerDeep], laidTests := true, laidLooks := .later }
def FrontEmptiesCardSaid : Prop := Claim7.holds Tryz.pinned (.plain (OpenSpec.ofChange frontEmptiesSpec)) frontEmptiesCard

/-- THE TIED CARD OF 'assartlaw14.FrontLimits'. -/
def frontLimitsCard : Claim7 := { stood := { row := frontLimitsRow, standIns := [], harness := (true, "566da367b1d1a053e48480ba727875ec8d448123a0b5cb551bab05e9f4137002"), looks := true }, kinds := [], alts := [], laidByText := true, laidKinds := [.widerDeep], laidTests := true, laidLooks := .later }
def FrontLimitsCardSaid : Prop := Claim7.holds Tryz.pinned (.plain (OpenSpec.ofChange frontLimitsSpec)) frontLimitsCard

/-- THE TIED CARD OF 'assartlaw14.FrontTakes'. -/
def frontTakesCard : Claim7 := { stood := { row := frontTakesRow, standIns := [], harness := (true, "566da367b1d1a053e48480ba727875ec8d448123a0b5cb551bab05e9f4137002"), looks := true }, kinds := [], alts := [], laidByText := true, laidKinds := [.widerDeep], laidTests := true, laidLooks := .later }
def FrontTakesCardSaid : Prop := Claim7.holds Tryz.pinned (.plain (OpenSpec.ofChange frontTakesSpec)) frontTakesCard

/-- THE SECOND FORM's CARD OF 'assartlaw14.FrontKeeps'. -/
def frontKeepsUptoCard : Claim7 := { stood := { row := frontKeepsUptoRow, standIns := [], harness := (true, "566da367b1d1a053e48480ba727875ec8d448123a0b5cb551bab05e9f4137002"), looks := true }, kinds := [], alts := [], laidByText := true, laidKinds := [.widerDeep], laidTests := true, laidLooks := .later }
def FrontKeepsUptoCardSaid : Prop := Claim7.holds Tryz.pinned (.plain (OpenSpec.upto frontKeepsSpec)) frontKeepsUptoCard

/-- THE SECOND FORM's CARD OF 'assartlaw14.FrontEmpties'. -/
def frontEmptiesUptoCard : Claim7 := { stood := { row := frontEmptiesUptoRow, standIns := [], harness := (true, "566da367b1d1a053e48480ba727875ec8d448123a0b5cb551bab05e9f4137002"), looks := true }, kinds := [], alts := [], laidByText := true, laidKinds := [.widerDeep], laidTests := true, laidLooks := .later }
def FrontEmptiesUptoCardSaid : Prop := Claim7.holds Tryz.pinned (.plain (OpenSpec.upto frontEmptiesSpec)) frontEmptiesUptoCard

/-- THE SECOND FORM's CARD OF 'assartlaw14.FrontLimits'. -/
def frontLimitsUptoCard : Claim7 := { stood := { row := frontLimitsUptoRow, standIns := [], harness := (true, "566da367b1d1a053e48480ba727875ec8d448123a0b5cb551bab05e9f4137002"), looks := true }, kinds := [], alts := [], laidByText := true, laidKinds := [.widerDeep], laidTests := true, laidLooks := .later }
def FrontLimitsUptoCardSaid : Prop := Claim7.holds Tryz.pinned (.plain (OpenSpec.upto frontLimitsSpec)) frontLimitsUptoCard

/-- THE SECOND FORM's CARD OF 'assartlaw14.FrontTakes'. -/
def frontTakesUptoCard : Claim7 := { stood := { row := frontTakesUptoRow, standIns := [], harness := (true, "566da367b1d1a053e48480ba727875ec8d448123a0b5cb551bab05e9f4137002"), looks := true }, kinds := [], alts := [], laidByText := true, laidKinds := [.widerDeep], laidTests := true, laidLooks := .later }
def FrontTakesUptoCardSaid : Prop := Claim7.holds Tryz.pinned (.plain (OpenSpec.upto frontTakesSpec)) frontTakesUptoCard
end Rows
end Go.Proofs.YtddmeghbmdfgeaaGreatDoor
