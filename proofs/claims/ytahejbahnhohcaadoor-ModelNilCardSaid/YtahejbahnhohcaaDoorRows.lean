/-
  NARROWER THAN 'FOR EVERY INPUT', by the rows' own cells (each row's printed sentence says how): ModelNil: laid · ModelApart: laid · ModelRefused: laid.
  DERIVED. THE GIVEN ROWS OF THIS SEAT. 3 by the template 'for every input the law returns true; each argument reads behind the call as it read before'; 0 by the template 'total and deterministic' (their statements: YtahejbahnhohcaaDoorTotals.lean).
  GIVEN WITH THE SEED: the statements are not yours to turn. If you find one false, say at which input.
  Laid BY PROGRAM, IN A SANDBOX (cutbox-rows.mjs): the forced cells as the released guide's own fill.sh prints them over the translation 257d3b5d567d721b… (all of the seat's roots in one cut). By AI agents, Wed Nov 11 2026. No macro, syntax, notation, axiom, sorry.
-/
import Derived.Test.YtahejbahnhohcaaDoorChecked
import GoSem.Claim
import GoSem.ClaimJoined
import GoSem.ClaimMapViews
import Derived.JoinedTies
import Derived.KernelRfl
namespace Go.Proofs.YtahejbahnhohcaaDoor
/- THE CELL 'sum', in the pinned program and in every row, IS THE sha256 OF THE DUMP (.gsa) THAT YtahejbahnhohcaaDoorProg.lean LOADS. Nothing in Lean hashes anything: it is a label: what it is worth is what the hold of that sum in a sandbox is worth. -/
noncomputable def Tryd.pinned : Pinned := { name := "ytahejbahnhohcaadoor", sum := "257d3b5d567d721be9538d8ed44ae537bc38edfa56640ba943a1af232ca3200c", checked := Tryd.checked }
namespace Rows
def none {H : Type} : Left H := { results := [], args := [] }

/- WHAT THE LISTED PACKAGE-LEVEL VARIABLES READ AS WHEN THE CALL BEGINS. Each datum BY PROGRAM (the guide's laid-datum.mjs) off the statement by which the dump's own 'gosem.cut.vars' lays the variable. In a bare row this is a premise. The card (YtahejbahnhohcaaDoorCards.lean) ties it to the program's text. -/
def laid_assart_class_sizes {H : Type} : DataW H := .slice [.lit (.int .i64 1), .lit (.int .i64 2), .lit (.int .i64 4), .lit (.int .i64 8), .lit (.int .i64 16), .lit (.int .i64 32), .lit (.int .i64 64), .lit (.int .i64 128)] []

/-- 'assartlaw20.ModelNil': WHATEVER THE INPUT: true; the input reads as it did. -/
def modelNilSpec : ChangeSpec := { name := "modelNil", fn := fun _ => fun
  | [d1, d2, d3] => { results := [.lit (.bool true)], args := [d1, d2, d3] }
  | _ => none }
def modelNilRow : OpenClaim := { program := "ytahejbahnhohcaadoor", sum := "257d3b5d567d721be9538d8ed44ae537bc38edfa56640ba943a1af232ca3200c", func := "assart/assartlaw20.ModelNil", spec := "modelNil", inPlace := ["slices.overlaps[int]", "slices.overlaps[assart/model.block]"], unfollowed := true, recurses := true, named := ["assart/class.sizes"], apart := false, laid := [("assart/class.sizes", laid_assart_class_sizes)] }
def ModelNilSaid : Prop := modelNilRow.holds Tryd.pinned (OpenSpec.ofChange modelNilSpec)

/-- ITS FALSE NEIGHBOUR: 'it returns false'. Refute it at one input. -/
def modelNilWrong : ChangeSpec := { name := "modelNil", fn := fun _ => fun
  | [d1, d2, d3] => { results := [.lit (.bool false)], args := [d1, d2, d3] }
  | _ => none }
def ModelNilWrongFalsely : Prop := modelNilRow.holds Tryd.pinned (OpenSpec.ofChange modelNilWrong)

/-- 'assartlaw20.ModelApart': WHATEVER THE INPUT: true; the input reads as it did. -/
def modelApartSpec : ChangeSpec := { name := "modelApart", fn := fun _ => fun
  | [d1, d2] => { results := [.lit (.bool true)], args := [d1, d2] }
  | _ => none }
def modelApartRow : OpenClaim := { program := "ytahejbahnhohcaadoor", sum := "257d3b5d567d721be9538d8ed44ae537bc38edfa56640ba943a1af232ca3200c", func := "assart/assartlaw20.ModelApart", spec := "modelApart", inPlace := ["slices.overlaps[int]", "slices.overlaps[assart/model.block]"], unfollowed := true, recurses := true, named := ["assart/class.sizes"], apart := false, laid := [("assart/class.sizes", laid_assart_class_sizes)] }
def ModelApartSaid : Prop := modelApartRow.holds Tryd.pinned (OpenSpec.ofChange modelApartSpec)

/-- ITS FALSE NEIGHBOUR: 'it returns false'. Refute it at one input. -/
def modelApartWrong : ChangeSpec := { name := "modelApart", fn := fun _ => fun
  | [d1, d2] => { results := [.lit (.bool false)], args := [d1, d2] }
  | _ => none }
def ModelApartWrongFalsely : Prop := modelApartRow.holds Tryd.pinned (OpenSpec.ofChange modelApartWrong)

/-- 'assartlaw20.ModelRefused': WHATEVER THE INPUT: true; the input reads as it did. -/
def modelRefusedSpec : ChangeSpec := { name := "modelRefused", fn := fun _ => fun
  | [d1, d2, d3] => { results := [.lit (.bool true)], args := [d1, d2, d3] }
  | _ => none }
def modelRefusedRow : OpenClaim := { program := "ytahejbahnhohcaadoor", sum := "257d3b5d567d721be9538d8ed44ae537bc38edfa56640ba943a1af232ca3200c", func := "assart/assartlaw20.ModelRefused", spec := "modelRefused", inPlace := ["slices.overlaps[int]", "slices.overlaps[assart/model.block]"], unfollowed := true, recurses := true, named := ["assart/class.sizes"], apart := false, laid := [("assart/class.sizes", laid_assart_class_sizes)] }
def ModelRefusedSaid : Prop := modelRefusedRow.holds Tryd.pinned (OpenSpec.ofChange modelRefusedSpec)

/-- ITS FALSE NEIGHBOUR: 'it returns false'. Refute it at one input. -/
def modelRefusedWrong : ChangeSpec := { name := "modelRefused", fn := fun _ => fun
  | [d1, d2, d3] => { results := [.lit (.bool false)], args := [d1, d2, d3] }
  | _ => none }
def ModelRefusedWrongFalsely : Prop := modelRefusedRow.holds Tryd.pinned (OpenSpec.ofChange modelRefusedWrong)

/- THE SECOND FORM. 'bulk': how many values and letters a reading holds, each counted each time it is reached (what is shared counts as often as it is met; a slice's spare places count too). A statement '..UptoSaid' is the law's where the arguments, and the package variables that the reading takes, are together of bulk at most 1048576: NARROWER than '..Said'. Prove '..Said' where nothing that the law and all that it calls make is longer than what came in: it says more and counts as full. Else prove '..UptoSaid'. A law counts once. -/
mutual
def uptoBulk {H : Type} : DataW H → Nat
  | .lit (.string bytes) => bytes.length + 1
  | .lit _ => 1
  | .nil => 1
  | .ptr d => uptoBulk d + 1
  | .slice elems spare => uptoBulkAll elems + uptoBulkAll spare + 1
  | .agg parts => uptoBulkAll parts + 1
  | .iface _ d => uptoBulk d + 1
  | .map entries => uptoBulkEntries entries + 1
  | .held _ => 1
def uptoBulkAll {H : Type} : List (DataW H) → Nat
  | [] => 0
  | d :: r => uptoBulk d + uptoBulkAll r
def uptoBulkEntries {H : Type} : List (Lit × DataW H) → Nat
  | [] => 0
  | x :: r => uptoBulkEntry x + uptoBulkEntries r
def uptoBulkEntry {H : Type} : Lit × DataW H → Nat
  | (.string bytes, d) => bytes.length + uptoBulk d + 1
  | (_, d) => uptoBulk d + 1
 end
def uptoSmall : (H : Type) → List (DataW H) → Bool := fun _ ds => decide (uptoBulkAll ds ≤ 1048576)
def OpenSpec.upto (s : _root_.Go.ChangeSpec) : _root_.Go.OpenSpec := { _root_.Go.OpenSpec.ofChange s with cond := some uptoSmall }

/-- 'assartlaw20.ModelNil', WHERE WHAT IT READS IS OF BULK AT MOST 1048576: true; the input reads as it did. -/
def modelNilUptoRow : OpenClaim := { program := "ytahejbahnhohcaadoor", sum := "257d3b5d567d721be9538d8ed44ae537bc38edfa56640ba943a1af232ca3200c", func := "assart/assartlaw20.ModelNil", spec := "modelNil", inPlace := ["slices.overlaps[int]", "slices.overlaps[assart/model.block]"], unfollowed := true, recurses := true, named := ["assart/class.sizes"], apart := false, laid := [("assart/class.sizes", laid_assart_class_sizes)], narrowed := true }
def ModelNilUptoSaid : Prop := modelNilUptoRow.holds Tryd.pinned (OpenSpec.upto modelNilSpec)

/-- 'assartlaw20.ModelApart', WHERE WHAT IT READS IS OF BULK AT MOST 1048576: true; the input reads as it did. -/
def modelApartUptoRow : OpenClaim := { program := "ytahejbahnhohcaadoor", sum := "257d3b5d567d721be9538d8ed44ae537bc38edfa56640ba943a1af232ca3200c", func := "assart/assartlaw20.ModelApart", spec := "modelApart", inPlace := ["slices.overlaps[int]", "slices.overlaps[assart/model.block]"], unfollowed := true, recurses := true, named := ["assart/class.sizes"], apart := false, laid := [("assart/class.sizes", laid_assart_class_sizes)], narrowed := true }
def ModelApartUptoSaid : Prop := modelApartUptoRow.holds Tryd.pinned (OpenSpec.upto modelApartSpec)

/-- 'assartlaw20.ModelRefused', WHERE WHAT IT READS IS OF BULK AT MOST 1048576: true; the input reads as it did. -/
def modelRefusedUptoRow : OpenClaim := { program := "ytahejbahnhohcaadoor", sum := "257d3b5d567d721be9538d8ed44ae537bc38edfa56640ba943a1af232ca3200c", func := "assart/assartlaw20.ModelRefused", spec := "modelRefused", inPlace := ["slices.overlaps[int]", "slices.overlaps[assart/model.block]"], unfollowed := true, recurses := true, named := ["assart/class.sizes"], apart := false, laid := [("assart/class.sizes", laid_assart_class_sizes)], narrowed := true }
def ModelRefusedUptoSaid : Prop := modelRefusedUptoRow.holds Tryd.pinned (OpenSpec.upto modelRefusedSpec)

end Rows
end Go.Proofs.YtahejbahnhohcaaDoor
