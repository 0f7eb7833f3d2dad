/-
  NARROWER THAN 'FOR EVERY INPUT', by the rows' own cells (each row's printed sentence says how): TallyCounts: laid · TallyRights: laid · TallyTold: laid · TallySums: laid.
  DERIVED. THE GIVEN ROWS OF THIS SEAT. 4 by the template 'for every input the law returns true; each argument reads behind the call as it read before'; 0 by the template 'total and deterministic' (their statements: YtfddhogffpkhcaaGreatDoorTotals.lean).
  GIVEN WITH THE SEED: the statements are not yours to turn. If you find one false, say at which input.
  Laid BY PROGRAM, IN A SANDBOX (cutbox-rows.mjs): the forced cells as the released guide's own fill.sh prints them over the translation db2620a416d73293… (all of the seat's roots in one cut). By AI agents, Wed Nov 11 2026. No macro, syntax, notation, axiom, sorry.
-/
import Derived.Test.YtfddhogffpkhcaaGreatDoorChecked
import GoSem.Claim
import GoSem.ClaimJoined
import GoSem.ClaimMapViews
import Derived.JoinedTies
import Derived.KernelRfl
namespace Go.Proofs.YtfddhogffpkhcaaGreatDoor
/- THE CELL 'sum', in the pinned program and in every row, IS THE sha256 OF THE DUMP (.gsa) THAT YtfddhogffpkhcaaGreatDoorProg.lean LOADS. Nothing in Lean hashes anything: it is a label: what it is worth is what the hold of that sum in a sandbox is worth. -/
noncomputable def Tryz.pinned : Pinned := { name := "ytfddhogffpkhcaagreatdoor", sum := "db2620a416d732935a11284c2c65a871a004e15be4ade204006265d419f1815a", checked := Tryz.checked }
namespace Rows
def none {H : Type} : Left H := { results := [], args := [] }

/- WHAT THE LISTED PACKAGE-LEVEL VARIABLES READ AS WHEN THE CALL BEGINS. Each datum BY PROGRAM (the guide's laid-datum.mjs) off the statement by which the dump's own 'gosem.cut.vars' lays the variable. In a bare row this is a premise. The card (YtfddhogffpkhcaaGreatDoorCards.lean) ties it to the program's text. -/
def laid_assart_class_sizes {H : Type} : DataW H := .slice [.lit (.int .i64 1), .lit (.int .i64 2), .lit (.int .i64 4), .lit (.int .i64 8), .lit (.int .i64 16), .lit (.int .i64 32), .lit (.int .i64 64), .lit (.int .i64 128)] []

/-- 'assartlaw17.TallyCounts': WHATEVER THE INPUT: true; the input reads as it did. -/
def tallyCountsSpec : ChangeSpec := { name := "tallyCounts", fn := fun _ => fun
  | [d1, d2, d3] => { results := [.lit (.bool true)], args := [d1, d2, d3] }
  | _ => none }
def tallyCountsRow : OpenClaim := { program := "ytfddhogffpkhcaagreatdoor", sum := "db2620a416d732935a11284c2c65a871a004e15be4ade204006265d419f1815a", func := "assart/assartlaw17.TallyCounts", spec := "tallyCounts", unfollowed := true, recurses := true, named := ["assart/class.sizes"], apart := false, laid := [("assart/class.sizes", laid_assart_class_sizes)] }
def TallyCountsSaid : Prop := tallyCountsRow.holds Tryz.pinned (OpenSpec.ofChange tallyCountsSpec)

/-- ITS FALSE NEIGHBOUR: 'it returns false'. Refute it at one input. -/
def tallyCountsWrong : ChangeSpec := { name := "tallyCounts", fn := fun _ => fun
  | [d1, d2, d3] => { results := [.lit (.bool false)], args := [d1, d2, d3] }
  | _ => none }
def TallyCountsWrongFalsely : Prop := tallyCountsRow.holds Tryz.pinned (OpenSpec.ofChange tallyCountsWrong)

/-- 'assartlaw17.TallyRights': WHATEVER THE INPUT: true; the input reads as it did. -/
def tallyRightsSpec : ChangeSpec := { name := "tallyRights", fn := fun _ => fun
  | [d1, d2] => { results := [.lit (.bool true)], args := [d1, d2] }
  | _ => none }
def tallyRightsRow : OpenClaim := { program := "ytfddhogffpkhcaagreatdoor", sum := "db2620a416d732935a11284c2c65a871a004e15be4ade204006265d419f1815a", func := "assart/assartlaw17.TallyRights", spec := "tallyRights", unfollowed := true, recurses := true, named := ["assart/class.sizes"], apart := false, laid := [("assart/class.sizes", laid_assart_class_sizes)] }
def TallyRightsSaid : Prop := tallyRightsRow.holds Tryz.pinned (OpenSpec.ofChange tallyRightsSpec)

/-- ITS FALSE NEIGHBOUR: 'it returns false'. Refute it at one input. -/
def tallyRightsWrong : ChangeSpec := { name := "tallyRights", fn := fun _ => fun
  | [d1, d2] => { results := [.lit (.bool false)], args := [d1, d2] }
  | _ => none }
def TallyRightsWrongFalsely : Prop := tallyRightsRow.holds Tryz.pinned (OpenSpec.ofChange tallyRightsWrong)

/-- 'assartlaw17.TallyTold': WHATEVER THE INPUT: true; the input reads as it did. -/
def tallyToldSpec : ChangeSpec := { name := "tallyTold", fn := fun _ => fun
  | [d1, d2] => { results := [.lit (.bool true)], args := [d1, d2] }
  | _ => none }
def tallyToldRow : OpenClaim := { program := "ytfddhogffpkhcaagreatdoor", sum := "db2620a416d732935a11284c2c65a871a004e15be4ade204006265d419f1815a", func := "assart/assartlaw17.TallyTold", spec := "tallyTold", unfollowed := true, recurses := true, named := ["assart/class.sizes"], apart := false, laid := [("assart/class.sizes", laid_assart_class_sizes)] }
def TallyToldSaid : Prop := tallyToldRow.holds Tryz.pinned (OpenSpec.ofChange tallyToldSpec)

/-- ITS FALSE NEIGHBOUR: 'it returns false'. Refute it at one input. -/
def tallyToldWrong : ChangeSpec := { name := "tallyTold", fn := fun _ => fun
  | [d1, d2] => { results := [.lit (.bool false)], args := [d1, d2] }
  | _ => none }
def TallyToldWrongFalsely : Prop := tallyToldRow.holds Tryz.pinned (OpenSpec.ofChange tallyToldWrong)

/-- 'assartlaw17.TallySums': WHATEVER THE INPUT: true; the input reads as it did. -/
def tallySumsSpec : ChangeSpec := { name := "tallySums", fn := fun _ => fun
  | [d1, d2, d3] => { results := [.lit (.bool true)], args := [d1, d2, d3] }
  | _ => none }
def tallySumsRow : OpenClaim := { program := "ytfddhogffpkhcaagreatdoor", sum := "db2620a416d732935a11284c2c65a871a004e15be4ade204006265d419f1815a", func := "assart/assartlaw17.TallySums", spec := "tallySums", unfollowed := true, recurses := true, named := ["assart/class.sizes"], apart := false, laid := [("assart/class.sizes", laid_assart_class_sizes)] }
def TallySumsSaid : Prop := tallySumsRow.holds Tryz.pinned (OpenSpec.ofChange tallySumsSpec)

/-- ITS FALSE NEIGHBOUR: 'it returns false'. Refute it at one input. -/
def tallySumsWrong : ChangeSpec := { name := "tallySums", fn := fun _ => fun
  | [d1, d2, d3] => { results := [.lit (.bool false)], args := [d1, d2, d3] }
  | _ => none }
def TallySumsWrongFalsely : Prop := tallySumsRow.holds Tryz.pinned (OpenSpec.ofChange tallySumsWrong)

/- THE SECOND FORM. 'bulk': how many values and letters a reading holds, each counted each time it is reached (what is shared counts as often as it is met; a slice's spare places count too). A statement '..UptoSaid' is the law's where the arguments, and the package variables that the reading takes, are together of bulk at most 1048576: NARROWER than '..Said'. Prove '..Said' where nothing that the law and all that it calls make is longer than what came in: it says more and counts as full. Else prove '..UptoSaid'. A law counts once. -/
mutual
def uptoBulk {H : Type} : DataW H → Nat
  | .lit (.string bytes) => bytes.length + 1
  | .lit _ => 1
  | .nil => 1
  | .ptr d => uptoBulk d + 1
  | .slice elems spare => uptoBulkAll elems + uptoBulkAll spare + 1
  | .agg parts => uptoBulkAll parts + 1
  | .iface _ d => uptoBulk d + 1
  | .map entries => uptoBulkEntries entries + 1
  | .held _ => 1
def uptoBulkAll {H : Type} : List (DataW H) → Nat
  | [] => 0
  | d :: r => uptoBulk d + uptoBulkAll r
def uptoBulkEntries {H : Type} : List (Lit × DataW H) → Nat
  | [] => 0
  | x :: r => uptoBulkEntry x + uptoBulkEntries r
def uptoBulkEntry {H : Type} : Lit × DataW H → Nat
  | (.string bytes, d) => bytes.length + uptoBulk d + 1
  | (_, d) => uptoBulk d + 1
 end
def uptoSmall : (H : Type) → List (DataW H) → Bool := fun _ ds => decide (uptoBulkAll ds ≤ 1048576)
def OpenSpec.upto (s : _root_.Go.ChangeSpec) : _root_.Go.OpenSpec := { _root_.Go.OpenSpec.ofChange s with cond := some uptoSmall }

/-- 'assartlaw17.TallyCounts', WHERE WHAT IT READS IS OF BULK AT MOST 1048576: true; the input reads as it did. -/
def tallyCountsUptoRow : OpenClaim := { program := "ytfddhogffpkhcaagreatdoor", sum := "db2620a416d732935a11284c2c65a871a004e15be4ade204006265d419f1815a", func := "assart/assartlaw17.TallyCounts", spec := "tallyCounts", unfollowed := true, recurses := true, named := ["assart/class.sizes"], apart := false, laid := [("assart/class.sizes", laid_assart_class_sizes)], narrowed := true }
def TallyCountsUptoSaid : Prop := tallyCountsUptoRow.holds Tryz.pinned (OpenSpec.upto tallyCountsSpec)

/-- 'assartlaw17.TallyRights', WHERE WHAT IT READS IS OF BULK AT MOST 1048576: true; the input reads as it did. -/
def tallyRightsUptoRow : OpenClaim := { program := "ytfddhogffpkhcaagreatdoor", sum := "db2620a416d732935a11284c2c65a871a004e15be4ade204006265d419f1815a", func := "assart/assartlaw17.TallyRights", spec := "tallyRights", unfollowed := true, recurses := true, named := ["assart/class.sizes"], apart := false, laid := [("assart/class.sizes", laid_assart_class_sizes)], narrowed := true }
def TallyRightsUptoSaid : Prop := tallyRightsUptoRow.holds Tryz.pinned (OpenSpec.upto tallyRightsSpec)

/-- 'assartlaw17.TallyTold', WHERE WHAT IT READS IS OF BULK AT MOST 1048576: true; the input reads as it did. -/
def tallyToldUptoRow : OpenClaim := { program := "ytfddhogffpkhcaagreatdoor", sum := "db2620a416d732935a11284c2c65a871a004e15be4ade204006265d419f1815a", func := "assart/assartlaw17.TallyTold", spec := "tallyTold", unfollowed := true, recurses := true, named := ["assart/class.sizes"], apart := false, laid := [("assart/class.sizes", laid_assart_class_sizes)], narrowed := true }
def TallyToldUptoSaid : Prop := tallyToldUptoRow.holds Tryz.pinned (OpenSpec.upto tallyToldSpec)

/-- 'assartlaw17.TallySums', WHERE WHAT IT READS IS OF BULK AT MOST 1048576: true; the input reads as it did. -/
def tallySumsUptoRow : OpenClaim := { program := "ytfddhogffpkhcaagreatdoor", sum := "db2620a416d732935a11284c2c65a871a004e15be4ade204006265d419f1815a", func := "assart/assartlaw17.TallySums", spec := "tallySums", unfollowed := true, recurses := true, named := ["assart/class.sizes"], apart := false, laid := [("assart/class.sizes", laid_assart_class_sizes)], narrowed := true }
def TallySumsUptoSaid : Prop := tallySumsUptoRow.holds Tryz.pinned (OpenSpec.upto tallySumsSpec)

end Rows
end Go.Proofs.YtfddhogffpkhcaaGreatDoor
