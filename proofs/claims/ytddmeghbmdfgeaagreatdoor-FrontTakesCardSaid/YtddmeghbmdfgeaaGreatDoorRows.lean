/-
  NARROWER THAN 'FOR EVERY INPUT', by the rows' own cells (each row's printed sentence says how): FrontKeeps: laid · FrontEmpties: laid · FrontLimits: laid · FrontTakes: laid.
  DERIVED. THE GIVEN ROWS OF THIS SEAT. 4 by the template 'for every input the law returns true; each argument reads behind the call as it read before'; 0 by the template 'total and deterministic' (their statements: YtddmeghbmdfgeaaGreatDoorTotals.lean).
  GIVEN WITH THE SEED: the statements are not yours to turn. If you find one false, say at which input.
  Laid BY PROGRAM, IN A SANDBOX (cutbox-rows.mjs): the forced cells as the released guide's own fill.sh prints them over the translation 2161419d9e3f9579… (all of the seat's roots in one cut). By AI agents, Wed Nov 11 2026. No macro, syntax, notation, axiom, sorry.
-/
import Derived.Test.YtddmeghbmdfgeaaGreatDoorChecked
import GoSem.Claim
import GoSem.ClaimJoined
import GoSem.ClaimMapViews
import Derived.JoinedTies
import Derived.KernelRfl
namespace Go.Proofs.YtddmeghbmdfgeaaGreatDoor
/- THE CELL 'sum', in the pinned program and in every row, IS THE sha256 OF THE DUMP (.gsa) THAT YtddmeghbmdfgeaaGreatDoorProg.lean LOADS. Nothing in Lean hashes anything: it is a label: what it is worth is what the hold of that sum in a sandbox is worth. -/
noncomputable def Tryz.pinned : Pinned := { name := "ytddmeghbmdfgeaagreatdoor", sum := "2161419d9e3f95791a3bc7e89b4cec5e9911aa667cf1f0efdd3eb8a2070035a0", checked := Tryz.checked }
namespace Rows
def none {H : Type} : Left H := { results := [], args := [] }

/- WHAT THE LISTED PACKAGE-LEVEL VARIABLES READ AS WHEN THE CALL BEGINS. Each datum BY PROGRAM (the guide's laid-datum.mjs) off the statement by which the dump's own 'gosem.cut.vars' lays the variable. In a bare row this is a premise. The card (YtddmeghbmdfgeaaGreatDoorCards.lean) ties it to the program's text. -/
def laid_assart_class_sizes {H : Type} : DataW H := .slice [.lit (.int .i64 1), .lit (.int .i64 2), .lit (.int .i64 4), .lit (.int .i64 8), .lit (.int .i64 16), .lit (.int .i64 32), .lit (.int .i64 64), .lit (.int .i64 128)] []

/-- 'assartlaw14.FrontKeeps': WHATEVER THE INPUT: true; the input reads as it did. -/
def frontKeepsSpec : ChangeSpec := { name := "frontKeeps", fn := fun _ => fun
  | [d1, d2] => { results := [.lit (.bool true)], args := [d1, d2] }
  | _ => none }
def frontKeepsRow : OpenClaim := { program := "ytddmeghbmdfgeaagreatdoor", sum := "2161419d9e3f95791a3bc7e89b4cec5e9911aa667cf1f0efdd3eb8a2070035a0", func := "assart/assartlaw14.FrontKeeps", spec := "frontKeeps", inPlace := ["slices.overlaps[int]"], unfollowed := true, recurses := true, named := ["assart/class.sizes"], apart := false, laid := [("assart/class.sizes", laid_assart_class_sizes)] }
def FrontKeepsSaid : Prop := frontKeepsRow.holds Tryz.pinned (OpenSpec.ofChange frontKeepsSpec)

/-- ITS FALSE NEIGHBOUR: 'it returns false'. Refute it at one input. -/
def frontKeepsWrong : ChangeSpec := { name := "frontKeeps", fn := fun _ => fun
  | [d1, d2] => { results := [.lit (.bool false)], args := [d1, d2] }
  | _ => none }
def FrontKeepsWrongFalsely : Prop := frontKeepsRow.holds Tryz.pinned (OpenSpec.ofChange frontKeepsWrong)

/-- 'assartlaw14.FrontEmpties': WHATEVER THE INPUT: true; the input reads as it did. -/
def frontEmptiesSpec : ChangeSpec := { name := "frontEmpties", fn := fun _ => fun
  | [d1, d2] => { results := [.lit (.bool true)], args := [d1, d2] }
  | _ => none }
def frontEmptiesRow : OpenClaim := { program := "ytddmeghbmdfgeaagreatdoor", sum := "2161419d9e3f95791a3bc7e89b4cec5e9911aa667cf1f0efdd3eb8a2070035a0", func := "assart/assartlaw14.FrontEmpties", spec := "frontEmpties", inPlace := ["slices.overlaps[int]"], unfollowed := true, recurses := true, named := ["assart/class.sizes"], apart := false, laid := [("assart/class.sizes", laid_assart_class_sizes)] }
def FrontEmptiesSaid : Prop := frontEmptiesRow.holds Tryz.pinned (OpenSpec.ofChange frontEmptiesSpec)

/-- ITS FALSE NEIGHBOUR: 'it returns false'. Refute it at one input. -/
def frontEmptiesWrong : ChangeSpec := { name := "frontEmpties", fn := fun _ => fun
  | [d1, d2] => { results := [.lit (.bool false)], args := [d1, d2] }
  | _ => none }
def FrontEmptiesWrongFalsely : Prop := frontEmptiesRow.holds Tryz.pinned (OpenSpec.ofChange frontEmptiesWrong)

/-- 'assartlaw14.FrontLimits': WHATEVER THE INPUT: true; the input reads as it did. -/
def frontLimitsSpec : ChangeSpec := { name := "frontLimits", fn := fun _ => fun
  | [d1, d2] => { results := [.lit (.bool true)], args := [d1, d2] }
  | _ => none }
def frontLimitsRow : OpenClaim := { program := "ytddmeghbmdfgeaagreatdoor", sum := "2161419d9e3f95791a3bc7e89b4cec5e9911aa667cf1f0efdd3eb8a2070035a0", func := "assart/assartlaw14.FrontLimits", spec := "frontLimits", inPlace := ["slices.overlaps[int]"], unfollowed := true, recurses := true, named := ["assart/class.sizes"], apart := false, laid := [("assart/class.sizes", laid_assart_class_sizes)] }
def FrontLimitsSaid : Prop := frontLimitsRow.holds Tryz.pinned (OpenSpec.ofChange frontLimitsSpec)

/-- ITS FALSE NEIGHBOUR: 'it returns false'. Refute it at one input. -/
def frontLimitsWrong : ChangeSpec := { name := "frontLimits", fn := fun _ => fun
  | [d1, d2] => { results := [.lit (.bool false)], args := [d1, d2] }
  | _ => none }
def FrontLimitsWrongFalsely : Prop := frontLimitsRow.holds Tryz.pinned (OpenSpec.ofChange frontLimitsWrong)

/-- 'assartlaw14.FrontTakes': WHATEVER THE INPUT: true; the input reads as it did. -/
def frontTakesSpec : ChangeSpec := { name := "frontTakes", fn := fun _ => fun
  | [d1, d2, d3, d4, d5] => { results := [.lit (.bool true)], args := [d1, d2, d3, d4, d5] }
  | _ => none }
def frontTakesRow : OpenClaim := { program := "ytddmeghbmdfgeaagreatdoor", sum := "2161419d9e3f95791a3bc7e89b4cec5e9911aa667cf1f0efdd3eb8a2070035a0", func := "assart/assartlaw14.FrontTakes", spec := "frontTakes", inPlace := ["slices.overlaps[int]"], unfollowed := true, recurses := true, named := ["assart/class.sizes"], apart := false, laid := [("assart/class.sizes", laid_assart_class_sizes)] }
def FrontTakesSaid : Prop := frontTakesRow.holds Tryz.pinned (OpenSpec.ofChange frontTakesSpec)

/-- ITS FALSE NEIGHBOUR: 'it returns false'. Refute it at one input. -/
def frontTakesWrong : ChangeSpec := { name := "frontTakes", fn := fun _ => fun
  | [d1, d2, d3, d4, d5] => { results := [.lit (.bool false)], args := [d1, d2, d3, d4, d5] }
  | _ => none }
def FrontTakesWrongFalsely : Prop := frontTakesRow.holds Tryz.pinned (OpenSpec.ofChange frontTakesWrong)

/- THE SECOND FORM. 'bulk': how many values and letters a reading holds, each counted each time it is reached (what is shared counts as often as it is met; a slice's spare places count too). A statement '..UptoSaid' is the law's where the arguments, and the package variables that the reading takes, are together of bulk at most 1048576: NARROWER than '..Said'. Prove '..Said' where nothing that the law and all that it calls make is longer than what came in: it says more and counts as full. Else prove '..UptoSaid'. A law counts once. -/
mutual
def uptoBulk {H : Type} : DataW H → Nat
  | .lit (.string bytes) => bytes.length + 1
  | .lit _ => 1
  | .nil => 1
  | .ptr d => uptoBulk d + 1
  | .slice elems spare => uptoBulkAll elems + uptoBulkAll spare + 1
  | .agg parts => uptoBulkAll parts + 1
  | .iface _ d => uptoBulk d + 1
  | .map entries => uptoBulkEntries entries + 1
  | .held _ => 1
def uptoBulkAll {H : Type} : List (DataW H) → Nat
  | [] => 0
  | d :: r => uptoBulk d + uptoBulkAll r
def uptoBulkEntries {H : Type} : List (Lit × DataW H) → Nat
  | [] => 0
  | x :: r => uptoBulkEntry x + uptoBulkEntries r
def uptoBulkEntry {H : Type} : Lit × DataW H → Nat
  | (.string bytes, d) => bytes.length + uptoBulk d + 1
  | (_, d) => uptoBulk d + 1
 end
def uptoSmall : (H : Type) → List (DataW H) → Bool := fun _ ds => decide (uptoBulkAll ds ≤ 1048576)
def OpenSpec.upto (s : _root_.Go.ChangeSpec) : _root_.Go.OpenSpec := { _root_.Go.OpenSpec.ofChange s with cond := some uptoSmall }

/-- 'assartlaw14.FrontKeeps', WHERE WHAT IT READS IS OF BULK AT MOST 1048576: true; the input reads as it did. -/
def frontKeepsUptoRow : OpenClaim := { program := "ytddmeghbmdfgeaagreatdoor", sum := "2161419d9e3f95791a3bc7e89b4cec5e9911aa667cf1f0efdd3eb8a2070035a0", func := "assart/assartlaw14.FrontKeeps", spec := "frontKeeps", inPlace := ["slices.overlaps[int]"], unfollowed := true, recurses := true, named := ["assart/class.sizes"], apart := false, laid := [("assart/class.sizes", laid_assart_class_sizes)], narrowed := true }
def FrontKeepsUptoSaid : Prop := frontKeepsUptoRow.holds Tryz.pinned (OpenSpec.upto frontKeepsSpec)

/-- 'assartlaw14.FrontEmpties', WHERE WHAT IT READS IS OF BULK AT MOST 1048576: true; the input reads as it did. -/
def frontEmptiesUptoRow : OpenClaim := { program := "ytddmeghbmdfgeaagreatdoor", sum := "2161419d9e3f95791a3bc7e89b4cec5e9911aa667cf1f0efdd3eb8a2070035a0", func := "assart/assartlaw14.FrontEmpties", spec := "frontEmpties", inPlace := ["slices.overlaps[int]"], unfollowed := true, recurses := true, named := ["assart/class.sizes"], apart := false, laid := [("assart/class.sizes", laid_assart_class_sizes)], narrowed := true }
def FrontEmptiesUptoSaid : Prop := frontEmptiesUptoRow.holds Tryz.pinned (OpenSpec.upto frontEmptiesSpec)

/-- 'assartlaw14.FrontLimits', WHERE WHAT IT READS IS OF BULK AT MOST 1048576: true; the input reads as it did. -/
def frontLimitsUptoRow : OpenClaim := { program := "ytddmeghbmdfgeaagreatdoor", sum := "2161419d9e3f95791a3bc7e89b4cec5e9911aa667cf1f0efdd3eb8a2070035a0", func := "assart/assartlaw14.FrontLimits", spec := "frontLimits", inPlace := ["slices.overlaps[int]"], unfollowed := true, recurses := true, named := ["assart/class.sizes"], apart := false, laid := [("assart/class.sizes", laid_assart_class_sizes)], narrowed := true }
def FrontLimitsUptoSaid : Prop := frontLimitsUptoRow.holds Tryz.pinned (OpenSpec.upto frontLimitsSpec)

/-- 'assartlaw14.FrontTakes', WHERE WHAT IT READS IS OF BULK AT MOST 1048576: true; the input reads as it did. -/
def frontTakesUptoRow : OpenClaim := { program := "ytddmeghbmdfgeaagreatdoor", sum := "2161419d9e3f95791a3bc7e89b4cec5e9911aa667cf1f0efdd3eb8a2070035a0", func := "assart/assartlaw14.FrontTakes", spec := "frontTakes", inPlace := ["slices.overlaps[int]"], unfollowed := true, recurses := true, named := ["assart/class.sizes"], apart := false, laid := [("assart/class.sizes", laid_assart_class_sizes)], narrowed := true }
def FrontTakesUptoSaid : Prop := frontTakesUptoRow.holds Tryz.pinned (OpenSpec.upto frontTakesSpec)

end Rows
end Go.Proofs.YtddmeghbmdfgeaaGreatDoor
