/-
  DERIVED. GIVEN WITH THE SEED: THE CARDS: each row of YtogfikemodaepaaDoorRows.lean that lists a variable, with what it lists TIED to the program's text (the seventh form; the later family's looks); each row that meets fmt, with fmt's text TOLD by the authors' own Lean function (tested against real Go, not proved from fmt's source: count such statements apart). THE CARD IS WHAT COUNTS. Prove the row's statement (the work); the ties are given (YtogfikemodaepaaDoorTie.lean); close each card by the builder's one call (the guide's Derived/Test/ToyasCard.lean, 'card_holds'). Laid BY PROGRAM, IN A SANDBOX (cutbox-door.mjs). By AI agents, Wed Nov 11 2026. No macro, syntax, notation, axiom, sorry.
-/
import Derived.Test.YtogfikemodaepaaDoorRows
import GoSem.ClaimSeven
namespace Go.Proofs.YtogfikemodaepaaDoor
namespace Rows

/-- THE TIED CARD OF 'assartlaw10.PlistPlays'. -/
def plistPlaysCard : Claim7 := { stood := { row := plistPlaysRow, standIns := [], harness := (true, "014b8560d1f69d426444b8ff0262c2b83da27488772612abad025ab6c1086401"), looks := true }, kinds := [], alts := [], laidByText := true, laidKinds := [.widerDeep], laidTests := true, laidLooks := .later }
def PlistPlaysCardSaid : Prop := Claim7.holds Tryd.pinned (.plain (OpenSpec.ofChange plistPlaysSpec)) plistPlaysCard

/-- THE TIED CARD OF 'assartlaw10.PlistEach'. -/
def plistEachCard : Claim7 := { stood := { row := plistEachRow, standIns := [], harness := (true, "014b8560d1f69d426444b8ff0262c2b83da27488772612abad025ab6c1086401"), looks := true }, kinds := [], alts := [], laidByText := true, laidKinds := [.widerDeep], laidTests := true, laidLooks := .later }
def PlistEachCardSaid : Prop := Claim7.holds Tryd.pinned (.plain (OpenSpec.ofChange plistEachSpec)) plistEachCard

/-- THE TIED CARD OF 'assartlaw10.PlistOut'. -/
def plistOutCard : Claim7 := { stood := { row := plistOutRow, standIns := [], harness := (true, "014b8560d1f69d426444b8ff0262c2b83da27488772612abad025ab6c1086401"), looks := true }, kinds := [], alts := [], laidByText := true, laidKinds := [.widerDeep], laidTests := true, laidLooks := .later }
def PlistOutCardSaid : Prop := Claim7.holds Tryd.pinned (.plain (OpenSpec.ofChange plistOutSpec)) plistOutCard

/-- THE SECOND FORM's CARD OF 'assartlaw10.PlistPlays'. -/
def plistPlaysUptoCard : Claim7 := { stood := { row := plistPlaysUptoRow, standIns := [], harness := (true, "014b8560d1f69d426444b8ff0262c2b83da27488772612abad025ab6c1086401"), looks := true }, kinds := [], alts := [], laidByText := true, laidKinds := [.widerDeep], laidTests := true, laidLooks := .later }
def PlistPlaysUptoCardSaid : Prop := Claim7.holds Tryd.pinned (.plain (OpenSpec.upto plistPlaysSpec)) plistPlaysUptoCard

/-- THE SECOND FORM's CARD OF 'assartlaw10.PlistEach'. -/
def plistEachUptoCard : Claim7 := { stood := { row := plistEachUptoRow, standIns := [], harness := (true, "014b8560d1f69d426444b8ff0262c2b83da27488772612abad025ab6c1086401"), looks := true }, kinds := [], alts := [], laidByText := true, laidKinds := [.widerDeep], laidTests := true, laidLooks := .later }
def PlistEachUptoCardSaid : Prop := Claim7.holds Tryd.pinned (.plain (OpenSpec.upto plistEachSpec)) plistEachUptoCard

/-- THE SECOND FORM's CARD OF 'assartlaw10.PlistOut'. -/
def plistOutUptoCard : Claim7 := { stood := { row := plistOutUptoRow, standIns := [], harness := (true, "014b8560d1f69d426444b8ff0262c2b83da27488772612abad025ab6c1086401"), looks := true }, kinds := [], alts := [], laidByText := true, laidKinds := [.widerDeep], laidTests := true, laidLooks := .later }
def PlistOutUptoCardSaid : Prop := Claim7.holds Tryd.pinned (.plain (OpenSpec.upto plistOutSpec)) plistOutUptoCard
end Rows
end Go.Proofs.YtogfikemodaepaaDoor
