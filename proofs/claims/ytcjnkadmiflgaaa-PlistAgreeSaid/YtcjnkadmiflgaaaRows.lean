/-
  No cell of these rows narrows 'for every input' (looked for: loops, veiled, ifaces, maps, wideKeys, modest, calm, conditions, laid).
  DERIVED. THE GIVEN ROWS OF THIS SEAT. 3 by the template 'for every input the law returns true; each argument reads behind the call as it read before'; 0 by the template 'total and deterministic' (their statements: YtcjnkadmiflgaaaTotals.lean).
  GIVEN WITH THE SEED: the statements are not yours to turn. If you find one false, say at which input.
  Laid BY PROGRAM, IN A SANDBOX (cutbox-rows.mjs): the forced cells as the released guide's own fill.sh prints them over the translation 8dad8a6750f7b517… (all of the seat's roots in one cut). By AI agents, Wed Nov 11 2026. No macro, syntax, notation, axiom, sorry.
-/
import Derived.Test.YtcjnkadmiflgaaaChecked
import GoSem.Claim
import GoSem.ClaimJoined
import GoSem.ClaimMapViews
import Derived.JoinedTies
import Derived.KernelRfl
namespace Go.Proofs.Ytcjnkadmiflgaaa
/- THE CELL 'sum', in the pinned program and in every row, IS THE sha256 OF THE DUMP (.gsa) THAT YtcjnkadmiflgaaaProg.lean LOADS. Nothing in Lean hashes anything: it is a label: what it is worth is what the hold of that sum in a sandbox is worth. -/
noncomputable def Try.pinned : Pinned := { name := "ytcjnkadmiflgaaa", sum := "8dad8a6750f7b5178be3d7293b3e9ea81829bf2eb02a3fb0b9e42e844419556c", checked := Try.checked }
namespace Rows
def none {H : Type} : Left H := { results := [], args := [] }

/-- 'assartlaw09.ExtentLeast': WHATEVER THE INPUT: true; the input reads as it did. -/
def extentLeastSpec : ChangeSpec := { name := "extentLeast", fn := fun _ => fun
  | [d1, d2, d3, d4] => { results := [.lit (.bool true)], args := [d1, d2, d3, d4] }
  | _ => none }
def extentLeastRow : OpenClaim := { program := "ytcjnkadmiflgaaa", sum := "8dad8a6750f7b5178be3d7293b3e9ea81829bf2eb02a3fb0b9e42e844419556c", func := "assart/assartlaw09.ExtentLeast", spec := "extentLeast", inPlace := ["slices.overlaps[int]"], unfollowed := true, recurses := true, apart := false }
def ExtentLeastSaid : Prop := extentLeastRow.holds Try.pinned (OpenSpec.ofChange extentLeastSpec)

/-- ITS FALSE NEIGHBOUR: 'it returns false'. Refute it at one input. -/
def extentLeastWrong : ChangeSpec := { name := "extentLeast", fn := fun _ => fun
  | [d1, d2, d3, d4] => { results := [.lit (.bool false)], args := [d1, d2, d3, d4] }
  | _ => none }
def ExtentLeastWrongFalsely : Prop := extentLeastRow.holds Try.pinned (OpenSpec.ofChange extentLeastWrong)

/-- 'assartlaw09.ExtentBack': WHATEVER THE INPUT: true; the input reads as it did. -/
def extentBackSpec : ChangeSpec := { name := "extentBack", fn := fun _ => fun
  | [d1, d2, d3, d4, d5] => { results := [.lit (.bool true)], args := [d1, d2, d3, d4, d5] }
  | _ => none }
def extentBackRow : OpenClaim := { program := "ytcjnkadmiflgaaa", sum := "8dad8a6750f7b5178be3d7293b3e9ea81829bf2eb02a3fb0b9e42e844419556c", func := "assart/assartlaw09.ExtentBack", spec := "extentBack", inPlace := ["slices.overlaps[int]"], unfollowed := true, recurses := true, apart := false }
def ExtentBackSaid : Prop := extentBackRow.holds Try.pinned (OpenSpec.ofChange extentBackSpec)

/-- ITS FALSE NEIGHBOUR: 'it returns false'. Refute it at one input. -/
def extentBackWrong : ChangeSpec := { name := "extentBack", fn := fun _ => fun
  | [d1, d2, d3, d4, d5] => { results := [.lit (.bool false)], args := [d1, d2, d3, d4, d5] }
  | _ => none }
def ExtentBackWrongFalsely : Prop := extentBackRow.holds Try.pinned (OpenSpec.ofChange extentBackWrong)

/-- 'assartlaw10.PlistAgree': WHATEVER THE INPUT: true; the input reads as it did. -/
def plistAgreeSpec : ChangeSpec := { name := "plistAgree", fn := fun _ => fun
  | [d1, d2, d3, d4] => { results := [.lit (.bool true)], args := [d1, d2, d3, d4] }
  | _ => none }
def plistAgreeRow : OpenClaim := { program := "ytcjnkadmiflgaaa", sum := "8dad8a6750f7b5178be3d7293b3e9ea81829bf2eb02a3fb0b9e42e844419556c", func := "assart/assartlaw10.PlistAgree", spec := "plistAgree", inPlace := ["slices.overlaps[int]"], unfollowed := true, recurses := true, apart := false }
def PlistAgreeSaid : Prop := plistAgreeRow.holds Try.pinned (OpenSpec.ofChange plistAgreeSpec)

/-- ITS FALSE NEIGHBOUR: 'it returns false'. Refute it at one input. -/
def plistAgreeWrong : ChangeSpec := { name := "plistAgree", fn := fun _ => fun
  | [d1, d2, d3, d4] => { results := [.lit (.bool false)], args := [d1, d2, d3, d4] }
  | _ => none }
def PlistAgreeWrongFalsely : Prop := plistAgreeRow.holds Try.pinned (OpenSpec.ofChange plistAgreeWrong)

/- THE SECOND FORM. 'bulk': how many values and letters a reading holds, each counted each time it is reached (what is shared counts as often as it is met; a slice's spare places count too). A statement '..UptoSaid' is the law's where the arguments, and the package variables that the reading takes, are together of bulk at most 1048576: NARROWER than '..Said'. Prove '..Said' where nothing that the law and all that it calls make is longer than what came in: it says more and counts as full. Else prove '..UptoSaid'. A law counts once. -/
mutual
def uptoBulk {H : Type} : DataW H → Nat
  | .lit (.string bytes) => bytes.length + 1
  | .lit _ => 1
  | .nil => 1
  | .ptr d => uptoBulk d + 1
  | .slice elems spare => uptoBulkAll elems + uptoBulkAll spare + 1
  | .agg parts => uptoBulkAll parts + 1
  | .iface _ d => uptoBulk d + 1
  | .map entries => uptoBulkEntries entries + 1
  | .held _ => 1
def uptoBulkAll {H : Type} : List (DataW H) → Nat
  | [] => 0
  | d :: r => uptoBulk d + uptoBulkAll r
def uptoBulkEntries {H : Type} : List (Lit × DataW H) → Nat
  | [] => 0
  | x :: r => uptoBulkEntry x + uptoBulkEntries r
def uptoBulkEntry {H : Type} : Lit × DataW H → Nat
  | (.string bytes, d) => bytes.length + uptoBulk d + 1
  | (_, d) => uptoBulk d + 1
 end
def uptoSmall : (H : Type) → List (DataW H) → Bool := fun _ ds => decide (uptoBulkAll ds ≤ 1048576)
def OpenSpec.upto (s : _root_.Go.ChangeSpec) : _root_.Go.OpenSpec := { _root_.Go.OpenSpec.ofChange s with cond := some uptoSmall }

/-- 'assartlaw09.ExtentLeast', WHERE WHAT IT READS IS OF BULK AT MOST 1048576: true; the input reads as it did. -/
def extentLeastUptoRow : OpenClaim := { program := "ytcjnkadmiflgaaa", sum := "8dad8a6750f7b5178be3d7293b3e9ea81829bf2eb02a3fb0b9e42e844419556c", func := "assart/assartlaw09.ExtentLeast", spec := "extentLeast", inPlace := ["slices.overlaps[int]"], unfollowed := true, recurses := true, apart := false, narrowed := true }
def ExtentLeastUptoSaid : Prop := extentLeastUptoRow.holds Try.pinned (OpenSpec.upto extentLeastSpec)

/-- 'assartlaw09.ExtentBack', WHERE WHAT IT READS IS OF BULK AT MOST 1048576: true; the input reads as it did. -/
def extentBackUptoRow : OpenClaim := { program := "ytcjnkadmiflgaaa", sum := "8dad8a6750f7b5178be3d7293b3e9ea81829bf2eb02a3fb0b9e42e844419556c", func := "assart/assartlaw09.ExtentBack", spec := "extentBack", inPlace := ["slices.overlaps[int]"], unfollowed := true, recurses := true, apart := false, narrowed := true }
def ExtentBackUptoSaid : Prop := extentBackUptoRow.holds Try.pinned (OpenSpec.upto extentBackSpec)

/-- 'assartlaw10.PlistAgree', WHERE WHAT IT READS IS OF BULK AT MOST 1048576: true; the input reads as it did. -/
def plistAgreeUptoRow : OpenClaim := { program := "ytcjnkadmiflgaaa", sum := "8dad8a6750f7b5178be3d7293b3e9ea81829bf2eb02a3fb0b9e42e844419556c", func := "assart/assartlaw10.PlistAgree", spec := "plistAgree", inPlace := ["slices.overlaps[int]"], unfollowed := true, recurses := true, apart := false, narrowed := true }
def PlistAgreeUptoSaid : Prop := plistAgreeUptoRow.holds Try.pinned (OpenSpec.upto plistAgreeSpec)

end Rows
end Go.Proofs.Ytcjnkadmiflgaaa
