/-
  NARROWER THAN 'FOR EVERY INPUT', by the rows' own cells (each row's printed sentence says how): PlistPlays: laid · PlistEach: laid · PlistOut: laid.
  DERIVED. THE GIVEN ROWS OF THIS SEAT. 3 by the template 'for every input the law returns true; each argument reads behind the call as it read before'; 0 by the template 'total and deterministic' (their statements: YtogfikemodaepaaDoorTotals.lean).
  GIVEN WITH THE SEED: the statements are not yours to turn. If you find one false, say at which input.
  Laid BY PROGRAM, IN A SANDBOX (cutbox-rows.mjs): the forced cells as the released guide's own fill.sh prints them over the translation af6007440837302e… (all of the seat's roots in one cut). By AI agents, Wed Nov 11 2026. No macro, syntax, notation, axiom, sorry.
-/
import Derived.Test.YtogfikemodaepaaDoorChecked
import GoSem.Claim
import GoSem.ClaimJoined
import GoSem.ClaimMapViews
import Derived.JoinedTies
import Derived.KernelRfl
namespace Go.Proofs.YtogfikemodaepaaDoor
/- THE CELL 'sum', in the pinned program and in every row, IS THE sha256 OF THE DUMP (.gsa) THAT YtogfikemodaepaaDoorProg.lean LOADS. Nothing in Lean hashes anything: it is a label: what it is worth is what the hold of that sum in a sandbox is worth. -/
noncomputable def Tryd.pinned : Pinned := { name := "ytogfikemodaepaadoor", sum := "af6007440837302ee0821515b46d02d153b0c9a51723b5b92b71c10e7120e2a0", checked := Tryd.checked }
namespace Rows
def none {H : Type} : Left H := { results := [], args := [] }

/- WHAT THE LISTED PACKAGE-LEVEL VARIABLES READ AS WHEN THE CALL BEGINS. Each datum BY PROGRAM (the guide's laid-datum.mjs) off the statement by which the dump's own 'gosem.cut.vars' lays the variable. In a bare row this is a premise. The card (YtogfikemodaepaaDoorCards.lean) ties it to the program's text. -/
def laid_assart_class_sizes {H : Type} : DataW H := .slice [.lit (.int .i64 1), .lit (.int .i64 2), .lit (.int .i64 4), .lit (.int .i64 8), .lit (.int .i64 16), .lit (.int .i64 32), .lit (.int .i64 64), .lit (.int .i64 128)] []

/-- 'assartlaw10.PlistPlays': WHATEVER THE INPUT: true; the input reads as it did. -/
def plistPlaysSpec : ChangeSpec := { name := "plistPlays", fn := fun _ => fun
  | [d1, d2, d3] => { results := [.lit (.bool true)], args := [d1, d2, d3] }
  | _ => none }
def plistPlaysRow : OpenClaim := { program := "ytogfikemodaepaadoor", sum := "af6007440837302ee0821515b46d02d153b0c9a51723b5b92b71c10e7120e2a0", func := "assart/assartlaw10.PlistPlays", spec := "plistPlays", inPlace := ["slices.overlaps[int]"], unfollowed := true, recurses := true, named := ["assart/class.sizes"], apart := false, laid := [("assart/class.sizes", laid_assart_class_sizes)] }
def PlistPlaysSaid : Prop := plistPlaysRow.holds Tryd.pinned (OpenSpec.ofChange plistPlaysSpec)

/-- ITS FALSE NEIGHBOUR: 'it returns false'. Refute it at one input. -/
def plistPlaysWrong : ChangeSpec := { name := "plistPlays", fn := fun _ => fun
  | [d1, d2, d3] => { results := [.lit (.bool false)], args := [d1, d2, d3] }
  | _ => none }
def PlistPlaysWrongFalsely : Prop := plistPlaysRow.holds Tryd.pinned (OpenSpec.ofChange plistPlaysWrong)

/-- 'assartlaw10.PlistEach': WHATEVER THE INPUT: true; the input reads as it did. -/
def plistEachSpec : ChangeSpec := { name := "plistEach", fn := fun _ => fun
  | [d1, d2] => { results := [.lit (.bool true)], args := [d1, d2] }
  | _ => none }
def plistEachRow : OpenClaim := { program := "ytogfikemodaepaadoor", sum := "af6007440837302ee0821515b46d02d153b0c9a51723b5b92b71c10e7120e2a0", func := "assart/assartlaw10.PlistEach", spec := "plistEach", inPlace := ["slices.overlaps[int]"], unfollowed := true, recurses := true, named := ["assart/class.sizes"], apart := false, laid := [("assart/class.sizes", laid_assart_class_sizes)] }
def PlistEachSaid : Prop := plistEachRow.holds Tryd.pinned (OpenSpec.ofChange plistEachSpec)

/-- ITS FALSE NEIGHBOUR: 'it returns false'. Refute it at one input. -/
def plistEachWrong : ChangeSpec := { name := "plistEach", fn := fun _ => fun
  | [d1, d2] => { results := [.lit (.bool false)], args := [d1, d2] }
  | _ => none }
def PlistEachWrongFalsely : Prop := plistEachRow.holds Tryd.pinned (OpenSpec.ofChange plistEachWrong)

/-- 'assartlaw10.PlistOut': WHATEVER THE INPUT: true; the input reads as it did. -/
def plistOutSpec : ChangeSpec := { name := "plistOut", fn := fun _ => fun
  | [d1, d2, d3, d4, d5] => { results := [.lit (.bool true)], args := [d1, d2, d3, d4, d5] }
  | _ => none }
def plistOutRow : OpenClaim := { program := "ytogfikemodaepaadoor", sum := "af6007440837302ee0821515b46d02d153b0c9a51723b5b92b71c10e7120e2a0", func := "assart/assartlaw10.PlistOut", spec := "plistOut", inPlace := ["slices.overlaps[int]"], unfollowed := true, recurses := true, named := ["assart/class.sizes"], apart := false, laid := [("assart/class.sizes", laid_assart_class_sizes)] }
def PlistOutSaid : Prop := plistOutRow.holds Tryd.pinned (OpenSpec.ofChange plistOutSpec)

/-- ITS FALSE NEIGHBOUR: 'it returns false'. Refute it at one input. -/
def plistOutWrong : ChangeSpec := { name := "plistOut", fn := fun _ => fun
  | [d1, d2, d3, d4, d5] => { results := [.lit (.bool false)], args := [d1, d2, d3, d4, d5] }
  | _ => none }
def PlistOutWrongFalsely : Prop := plistOutRow.holds Tryd.pinned (OpenSpec.ofChange plistOutWrong)

/- THE SECOND FORM. 'bulk': how many values and letters a reading holds, each counted each time it is reached (what is shared counts as often as it is met; a slice's spare places count too). A statement '..UptoSaid' is the law's where the arguments, and the package variables that the reading takes, are together of bulk at most 1048576: NARROWER than '..Said'. Prove '..Said' where nothing that the law and all that it calls make is longer than what came in: it says more and counts as full. Else prove '..UptoSaid'. A law counts once. -/
mutual
def uptoBulk {H : Type} : DataW H → Nat
  | .lit (.string bytes) => bytes.length + 1
  | .lit _ => 1
  | .nil => 1
  | .ptr d => uptoBulk d + 1
  | .slice elems spare => uptoBulkAll elems + uptoBulkAll spare + 1
  | .agg parts => uptoBulkAll parts + 1
  | .iface _ d => uptoBulk d + 1
  | .map entries => uptoBulkEntries entries + 1
  | .held _ => 1
def uptoBulkAll {H : Type} : List (DataW H) → Nat
  | [] => 0
  | d :: r => uptoBulk d + uptoBulkAll r
def uptoBulkEntries {H : Type} : List (Lit × DataW H) → Nat
  | [] => 0
  | x :: r => uptoBulkEntry x + uptoBulkEntries r
def uptoBulkEntry {H : Type} : Lit × DataW H → Nat
  | (.string bytes, d) => bytes.length + uptoBulk d + 1
  | (_, d) => uptoBulk d + 1
 end
def uptoSmall : (H : Type) → List (DataW H) → Bool := fun _ ds => decide (uptoBulkAll ds ≤ 1048576)
def OpenSpec.upto (s : _root_.Go.ChangeSpec) : _root_.Go.OpenSpec := { _root_.Go.OpenSpec.ofChange s with cond := some uptoSmall }

/-- 'assartlaw10.PlistPlays', WHERE WHAT IT READS IS OF BULK AT MOST 1048576: true; the input reads as it did. -/
def plistPlaysUptoRow : OpenClaim := { program := "ytogfikemodaepaadoor", sum := "af6007440837302ee0821515b46d02d153b0c9a51723b5b92b71c10e7120e2a0", func := "assart/assartlaw10.PlistPlays", spec := "plistPlays", inPlace := ["slices.overlaps[int]"], unfollowed := true, recurses := true, named := ["assart/class.sizes"], apart := false, laid := [("assart/class.sizes", laid_assart_class_sizes)], narrowed := true }
def PlistPlaysUptoSaid : Prop := plistPlaysUptoRow.holds Tryd.pinned (OpenSpec.upto plistPlaysSpec)

/-- 'assartlaw10.PlistEach', WHERE WHAT IT READS IS OF BULK AT MOST 1048576: true; the input reads as it did. -/
def plistEachUptoRow : OpenClaim := { program := "ytogfikemodaepaadoor", sum := "af6007440837302ee0821515b46d02d153b0c9a51723b5b92b71c10e7120e2a0", func := "assart/assartlaw10.PlistEach", spec := "plistEach", inPlace := ["slices.overlaps[int]"], unfollowed := true, recurses := true, named := ["assart/class.sizes"], apart := false, laid := [("assart/class.sizes", laid_assart_class_sizes)], narrowed := true }
def PlistEachUptoSaid : Prop := plistEachUptoRow.holds Tryd.pinned (OpenSpec.upto plistEachSpec)

/-- 'assartlaw10.PlistOut', WHERE WHAT IT READS IS OF BULK AT MOST 1048576: true; the input reads as it did. -/
def plistOutUptoRow : OpenClaim := { program := "ytogfikemodaepaadoor", sum := "af6007440837302ee0821515b46d02d153b0c9a51723b5b92b71c10e7120e2a0", func := "assart/assartlaw10.PlistOut", spec := "plistOut", inPlace := ["slices.overlaps[int]"], unfollowed := true, recurses := true, named := ["assart/class.sizes"], apart := false, laid := [("assart/class.sizes", laid_assart_class_sizes)], narrowed := true }
def PlistOutUptoSaid : Prop := plistOutUptoRow.holds Tryd.pinned (OpenSpec.upto plistOutSpec)

end Rows
end Go.Proofs.YtogfikemodaepaaDoor
