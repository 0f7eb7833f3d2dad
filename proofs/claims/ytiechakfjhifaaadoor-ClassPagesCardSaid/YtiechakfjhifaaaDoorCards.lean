/-
  DERIVED. GIVEN WITH THE SEED: THE CARDS: each row of YtiechakfjhifaaaDoorRows.lean that lists a variable, with what it lists TIED to the program's text (the seventh form; the later family's looks); each row that meets fmt, with fmt's text TOLD by the authors' own Lean function (tested against real Go, not proved from fmt's source: count such statements apart). THE CARD IS WHAT COUNTS. Prove the row's statement (the work); the ties are given (YtiechakfjhifaaaDoorTie.lean); close each card by the builder's one call (the guide's Derived/Test/ToyasCard.lean, 'card_holds'). Laid BY PROGRAM, IN A SANDBOX (cutbox-door.mjs). By AI agents, Wed Nov 11 2026. No macro, syntax, notation, axiom, sorry.
-/
import Derived.Test.YtiechakfjhifaaaDoorRows
import GoSem.ClaimSeven
namespace Go.Proofs.YtiechakfjhifaaaDoor
namespace Rows

/-- THE TIED CARD OF 'assartlaw03.ClassSizes'. -/
def classSizesCard : Claim7 := { stood := { row := classSizesRow, standIns := [], harness := (true, "fee29b6c458c05f9f00025c78f937f308211070afc0bb97de64a1a305658cd7a"), looks := false }, kinds := [], alts := [], laidByText := true, laidKinds := [.widerDeep], laidTests := true, laidLooks := .later }
def ClassSizesCardSaid : Prop := Claim7.holds Tryd.pinned (.plain (OpenSpec.ofChange classSizesSpec)) classSizesCard

/-- THE TIED CARD OF 'assartlaw03.ClassFits'. -/
def classFitsCard : Claim7 := { stood := { row := classFitsRow, standIns := [], harness := (true, "fee29b6c458c05f9f00025c78f937f308211070afc0bb97de64a1a305658cd7a"), looks := false }, kinds := [], alts := [], laidByText := true, laidKinds := [.widerDeep], laidTests := true, laidLooks := .later }
def ClassFitsCardSaid : Prop := Claim7.holds Tryd.pinned (.plain (OpenSpec.ofChange classFitsSpec)) classFitsCard

/-- THE TIED CARD OF 'assartlaw03.ClassRounds'. -/
def classRoundsCard : Claim7 := { stood := { row := classRoundsRow, standIns := [], harness := (true, "fee29b6c458c05f9f00025c78f937f308211070afc0bb97de64a1a305658cd7a"), looks := false }, kinds := [], alts := [], laidByText := true, laidKinds := [.widerDeep], laidTests := true, laidLooks := .later }
def ClassRoundsCardSaid : Prop := Claim7.holds Tryd.pinned (.plain (OpenSpec.ofChange classRoundsSpec)) classRoundsCard

/-- THE TIED CARD OF 'assartlaw03.ClassLeast'. -/
def classLeastCard : Claim7 := { stood := { row := classLeastRow, standIns := [], harness := (true, "fee29b6c458c05f9f00025c78f937f308211070afc0bb97de64a1a305658cd7a"), looks := false }, kinds := [], alts := [], laidByText := true, laidKinds := [.widerDeep], laidTests := true, laidLooks := .later }
def ClassLeastCardSaid : Prop := Claim7.holds Tryd.pinned (.plain (OpenSpec.ofChange classLeastSpec)) classLeastCard

/-- THE TIED CARD OF 'assartlaw03.ClassAligned'. -/
def classAlignedCard : Claim7 := { stood := { row := classAlignedRow, standIns := [], harness := (true, "fee29b6c458c05f9f00025c78f937f308211070afc0bb97de64a1a305658cd7a"), looks := false }, kinds := [], alts := [], laidByText := true, laidKinds := [.widerDeep], laidTests := true, laidLooks := .later }
def ClassAlignedCardSaid : Prop := Claim7.holds Tryd.pinned (.plain (OpenSpec.ofChange classAlignedSpec)) classAlignedCard

/-- THE TIED CARD OF 'assartlaw03.ClassPages'. -/
def classPagesCard : Claim7 := { stood := { row := classPagesRow, standIns := [], harness := (true, "fee29b6c458c05f9f00025c78f937f308211070afc0bb97de64a1a305658cd7a"), looks := false }, kinds := [], alts := [], laidByText := true, laidKinds := [.widerDeep], laidTests := true, laidLooks := .later }
def ClassPagesCardSaid : Prop := Claim7.holds Tryd.pinned (.plain (OpenSpec.ofChange classPagesSpec)) classPagesCard

/-- THE SECOND FORM's CARD OF 'assartlaw03.ClassSizes'. -/
def classSizesUptoCard : Claim7 := { stood := { row := classSizesUptoRow, standIns := [], harness := (true, "fee29b6c458c05f9f00025c78f937f308211070afc0bb97de64a1a305658cd7a"), looks := false }, kinds := [], alts := [], laidByText := true, laidKinds := [.widerDeep], laidTests := true, laidLooks := .later }
def ClassSizesUptoCardSaid : Prop := Claim7.holds Tryd.pinned (.plain (OpenSpec.upto classSizesSpec)) classSizesUptoCard

/-- THE SECOND FORM's CARD OF 'assartlaw03.ClassFits'. -/
def classFitsUptoCard : Claim7 := { stood := { row := classFitsUptoRow, standIns := [], harness := (true, "fee29b6c458c05f9f00025c78f937f308211070afc0bb97de64a1a305658cd7a"), looks := false }, kinds := [], alts := [], laidByText := true, laidKinds := [.widerDeep], laidTests := true, laidLooks := .later }
def ClassFitsUptoCardSaid : Prop := Claim7.holds Tryd.pinned (.plain (OpenSpec.upto classFitsSpec)) classFitsUptoCard

/-- THE SECOND FORM's CARD OF 'assartlaw03.ClassRounds'. -/
def classRoundsUptoCard : Claim7 := { stood := { row := classRoundsUptoRow, standIns := [], harness := (true, "fee29b6c458c05f9f00025c78f937f308211070afc0bb97de64a1a305658cd7a"), looks := false }, kinds := [], alts := [], laidByText := true, laidKinds := [.widerDeep], laidTests := true, laidLooks := .later }
def ClassRoundsUptoCardSaid : Prop := Claim7.holds Tryd.pinned (.plain (OpenSpec.upto classRoundsSpec)) classRoundsUptoCard

/-- THE SECOND FORM's CARD OF 'assartlaw03.ClassLeast'. -/
def classLeastUptoCard : Claim7 := { stood := { row := classLeastUptoRow, standIns := [], harness := (true, "fee29b6c458c05f9f00025c78f937f308211070afc0bb97de64a1a305658cd7a"), looks := false }, kinds := [], alts := [], laidByText := true, laidKinds := [.widerDeep], laidTests := true, laidLooks := .later }
def ClassLeastUptoCardSaid : Prop := Claim7.holds Tryd.pinned (.plain (OpenSpec.upto classLeastSpec)) classLeastUptoCard

/-- THE SECOND FORM's CARD OF 'assartlaw03.ClassAligned'. -/
def classAlignedUptoCard : Claim7 := { stood := { row := classAlignedUptoRow, standIns := [], harness := (true, "fee29b6c458c05f9f00025c78f937f308211070afc0bb97de64a1a305658cd7a"), looks := false }, kinds := [], alts := [], laidByText := true, laidKinds := [.widerDeep], laidTests := true, laidLooks := .later }
def ClassAlignedUptoCardSaid : Prop := Claim7.holds Tryd.pinned (.plain (OpenSpec.upto classAlignedSpec)) classAlignedUptoCard

/-- THE SECOND FORM's CARD OF 'assartlaw03.ClassPages'. -/
def classPagesUptoCard : Claim7 := { stood := { row := classPagesUptoRow, standIns := [], harness := (true, "fee29b6c458c05f9f00025c78f937f308211070afc0bb97de64a1a305658cd7a"), looks := false }, kinds := [], alts := [], laidByText := true, laidKinds := [.widerDeep], laidTests := true, laidLooks := .later }
def ClassPagesUptoCardSaid : Prop := Claim7.holds Tryd.pinned (.plain (OpenSpec.upto classPagesSpec)) classPagesUptoCard
end Rows
end Go.Proofs.YtiechakfjhifaaaDoor
