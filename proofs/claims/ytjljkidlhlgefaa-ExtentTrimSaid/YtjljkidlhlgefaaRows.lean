/-
  No cell of these rows narrows 'for every input' (looked for: loops, veiled, ifaces, maps, wideKeys, modest, calm, conditions, laid).
  DERIVED. THE GIVEN ROWS OF THIS SEAT. 4 by the template 'for every input the law returns true; each argument reads behind the call as it read before'; 0 by the template 'total and deterministic' (their statements: YtjljkidlhlgefaaTotals.lean).
  GIVEN WITH THE SEED: the statements are not yours to turn. If you find one false, say at which input.
  Laid BY PROGRAM, IN A SANDBOX (cutbox-rows.mjs): the forced cells as the released guide's own fill.sh prints them over the translation 89d89177d81f2af3… (all of the seat's roots in one cut). By AI agents, Wed Nov 11 2026. No macro, syntax, notation, axiom, sorry.
-/
import Derived.Test.YtjljkidlhlgefaaChecked
import GoSem.Claim
import GoSem.ClaimJoined
import GoSem.ClaimMapViews
import Derived.JoinedTies
import Derived.KernelRfl
namespace Go.Proofs.Ytjljkidlhlgefaa
/- THE CELL 'sum', in the pinned program and in every row, IS THE sha256 OF THE DUMP (.gsa) THAT YtjljkidlhlgefaaProg.lean LOADS. Nothing in Lean hashes anything: it is a label: what it is worth is what the hold of that sum in a sandbox is worth. -/
noncomputable def Try.pinned : Pinned := { name := "ytjljkidlhlgefaa", sum := "89d89177d81f2af39d01e3bf3b184321ed0c68f713626d837702142c60d552f6", checked := Try.checked }
namespace Rows
def none {H : Type} : Left H := { results := [], args := [] }

/-- 'assartlaw08.ChunkCounted': WHATEVER THE INPUT: true; the input reads as it did. -/
def chunkCountedSpec : ChangeSpec := { name := "chunkCounted", fn := fun _ => fun
  | [d1, d2, d3, d4] => { results := [.lit (.bool true)], args := [d1, d2, d3, d4] }
  | _ => none }
def chunkCountedRow : OpenClaim := { program := "ytjljkidlhlgefaa", sum := "89d89177d81f2af39d01e3bf3b184321ed0c68f713626d837702142c60d552f6", func := "assart/assartlaw08.ChunkCounted", spec := "chunkCounted", inPlace := ["slices.overlaps[int]"], unfollowed := true, recurses := true, apart := false }
def ChunkCountedSaid : Prop := chunkCountedRow.holds Try.pinned (OpenSpec.ofChange chunkCountedSpec)

/-- ITS FALSE NEIGHBOUR: 'it returns false'. Refute it at one input. -/
def chunkCountedWrong : ChangeSpec := { name := "chunkCounted", fn := fun _ => fun
  | [d1, d2, d3, d4] => { results := [.lit (.bool false)], args := [d1, d2, d3, d4] }
  | _ => none }
def ChunkCountedWrongFalsely : Prop := chunkCountedRow.holds Try.pinned (OpenSpec.ofChange chunkCountedWrong)

/-- 'assartlaw09.ExtentLeast': WHATEVER THE INPUT: true; the input reads as it did. -/
def extentLeastSpec : ChangeSpec := { name := "extentLeast", fn := fun _ => fun
  | [d1, d2, d3, d4] => { results := [.lit (.bool true)], args := [d1, d2, d3, d4] }
  | _ => none }
def extentLeastRow : OpenClaim := { program := "ytjljkidlhlgefaa", sum := "89d89177d81f2af39d01e3bf3b184321ed0c68f713626d837702142c60d552f6", func := "assart/assartlaw09.ExtentLeast", spec := "extentLeast", inPlace := ["slices.overlaps[int]"], unfollowed := true, recurses := true, apart := false }
def ExtentLeastSaid : Prop := extentLeastRow.holds Try.pinned (OpenSpec.ofChange extentLeastSpec)

/-- ITS FALSE NEIGHBOUR: 'it returns false'. Refute it at one input. -/
def extentLeastWrong : ChangeSpec := { name := "extentLeast", fn := fun _ => fun
  | [d1, d2, d3, d4] => { results := [.lit (.bool false)], args := [d1, d2, d3, d4] }
  | _ => none }
def ExtentLeastWrongFalsely : Prop := extentLeastRow.holds Try.pinned (OpenSpec.ofChange extentLeastWrong)

/-- 'assartlaw09.ExtentBack': WHATEVER THE INPUT: true; the input reads as it did. -/
def extentBackSpec : ChangeSpec := { name := "extentBack", fn := fun _ => fun
  | [d1, d2, d3, d4, d5] => { results := [.lit (.bool true)], args := [d1, d2, d3, d4, d5] }
  | _ => none }
def extentBackRow : OpenClaim := { program := "ytjljkidlhlgefaa", sum := "89d89177d81f2af39d01e3bf3b184321ed0c68f713626d837702142c60d552f6", func := "assart/assartlaw09.ExtentBack", spec := "extentBack", inPlace := ["slices.overlaps[int]"], unfollowed := true, recurses := true, apart := false }
def ExtentBackSaid : Prop := extentBackRow.holds Try.pinned (OpenSpec.ofChange extentBackSpec)

/-- ITS FALSE NEIGHBOUR: 'it returns false'. Refute it at one input. -/
def extentBackWrong : ChangeSpec := { name := "extentBack", fn := fun _ => fun
  | [d1, d2, d3, d4, d5] => { results := [.lit (.bool false)], args := [d1, d2, d3, d4, d5] }
  | _ => none }
def ExtentBackWrongFalsely : Prop := extentBackRow.holds Try.pinned (OpenSpec.ofChange extentBackWrong)

/-- 'assartlaw09.ExtentTrim': WHATEVER THE INPUT: true; the input reads as it did. -/
def extentTrimSpec : ChangeSpec := { name := "extentTrim", fn := fun _ => fun
  | [d1, d2] => { results := [.lit (.bool true)], args := [d1, d2] }
  | _ => none }
def extentTrimRow : OpenClaim := { program := "ytjljkidlhlgefaa", sum := "89d89177d81f2af39d01e3bf3b184321ed0c68f713626d837702142c60d552f6", func := "assart/assartlaw09.ExtentTrim", spec := "extentTrim", inPlace := ["slices.overlaps[int]"], unfollowed := true, recurses := true, apart := false }
def ExtentTrimSaid : Prop := extentTrimRow.holds Try.pinned (OpenSpec.ofChange extentTrimSpec)

/-- ITS FALSE NEIGHBOUR: 'it returns false'. Refute it at one input. -/
def extentTrimWrong : ChangeSpec := { name := "extentTrim", fn := fun _ => fun
  | [d1, d2] => { results := [.lit (.bool false)], args := [d1, d2] }
  | _ => none }
def ExtentTrimWrongFalsely : Prop := extentTrimRow.holds Try.pinned (OpenSpec.ofChange extentTrimWrong)

/- THE SECOND FORM. 'bulk': how many values and letters a reading holds, each counted each time it is reached (what is shared counts as often as it is met; a slice's spare places count too). A statement '..UptoSaid' is the law's where the arguments, and the package variables that the reading takes, are together of bulk at most 1048576: NARROWER than '..Said'. Prove '..Said' where nothing that the law and all that it calls make is longer than what came in: it says more and counts as full. Else prove '..UptoSaid'. A law counts once. -/
mutual
def uptoBulk {H : Type} : DataW H → Nat
  | .lit (.string bytes) => bytes.length + 1
  | .lit _ => 1
  | .nil => 1
  | .ptr d => uptoBulk d + 1
  | .slice elems spare => uptoBulkAll elems + uptoBulkAll spare + 1
  | .agg parts => uptoBulkAll parts + 1
  | .iface _ d => uptoBulk d + 1
  | .map entries => uptoBulkEntries entries + 1
  | .held _ => 1
def uptoBulkAll {H : Type} : List (DataW H) → Nat
  | [] => 0
  | d :: r => uptoBulk d + uptoBulkAll r
def uptoBulkEntries {H : Type} : List (Lit × DataW H) → Nat
  | [] => 0
  | x :: r => uptoBulkEntry x + uptoBulkEntries r
def uptoBulkEntry {H : Type} : Lit × DataW H → Nat
  | (.string bytes, d) => bytes.length + uptoBulk d + 1
  | (_, d) => uptoBulk d + 1
 end
def uptoSmall : (H : Type) → List (DataW H) → Bool := fun _ ds => decide (uptoBulkAll ds ≤ 1048576)
def OpenSpec.upto (s : _root_.Go.ChangeSpec) : _root_.Go.OpenSpec := { _root_.Go.OpenSpec.ofChange s with cond := some uptoSmall }

/-- 'assartlaw08.ChunkCounted', WHERE WHAT IT READS IS OF BULK AT MOST 1048576: true; the input reads as it did. -/
def chunkCountedUptoRow : OpenClaim := { program := "ytjljkidlhlgefaa", sum := "89d89177d81f2af39d01e3bf3b184321ed0c68f713626d837702142c60d552f6", func := "assart/assartlaw08.ChunkCounted", spec := "chunkCounted", inPlace := ["slices.overlaps[int]"], unfollowed := true, recurses := true, apart := false, narrowed := true }
def ChunkCountedUptoSaid : Prop := chunkCountedUptoRow.holds Try.pinned (OpenSpec.upto chunkCountedSpec)

/-- 'assartlaw09.ExtentLeast', WHERE WHAT IT READS IS OF BULK AT MOST 1048576: true; the input reads as it did. -/
def extentLeastUptoRow : OpenClaim := { program := "ytjljkidlhlgefaa", sum := "89d89177d81f2af39d01e3bf3b184321ed0c68f713626d837702142c60d552f6", func := "assart/assartlaw09.ExtentLeast", spec := "extentLeast", inPlace := ["slices.overlaps[int]"], unfollowed := true, recurses := true, apart := false, narrowed := true }
def ExtentLeastUptoSaid : Prop := extentLeastUptoRow.holds Try.pinned (OpenSpec.upto extentLeastSpec)

/-- 'assartlaw09.ExtentBack', WHERE WHAT IT READS IS OF BULK AT MOST 1048576: true; the input reads as it did. -/
def extentBackUptoRow : OpenClaim := { program := "ytjljkidlhlgefaa", sum := "89d89177d81f2af39d01e3bf3b184321ed0c68f713626d837702142c60d552f6", func := "assart/assartlaw09.ExtentBack", spec := "extentBack", inPlace := ["slices.overlaps[int]"], unfollowed := true, recurses := true, apart := false, narrowed := true }
def ExtentBackUptoSaid : Prop := extentBackUptoRow.holds Try.pinned (OpenSpec.upto extentBackSpec)

/-- 'assartlaw09.ExtentTrim', WHERE WHAT IT READS IS OF BULK AT MOST 1048576: true; the input reads as it did. -/
def extentTrimUptoRow : OpenClaim := { program := "ytjljkidlhlgefaa", sum := "89d89177d81f2af39d01e3bf3b184321ed0c68f713626d837702142c60d552f6", func := "assart/assartlaw09.ExtentTrim", spec := "extentTrim", inPlace := ["slices.overlaps[int]"], unfollowed := true, recurses := true, apart := false, narrowed := true }
def ExtentTrimUptoSaid : Prop := extentTrimUptoRow.holds Try.pinned (OpenSpec.upto extentTrimSpec)

end Rows
end Go.Proofs.Ytjljkidlhlgefaa
