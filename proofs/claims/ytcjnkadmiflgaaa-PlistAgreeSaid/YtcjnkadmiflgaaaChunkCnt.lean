/-
  The landed package chunk: Count.
-/
import Derived.Test.YtcjnkadmiflgaaaChunkSeq
import Derived.Test.YtcjnkadmiflgaaaChunkEns
namespace Go.Proofs.Ytcjnkadmiflgaaa
open Go.RowKit Go.Sort Go.Maps Go.Shelf
set_option linter.unusedVariables false
set_option linter.unusedSimpArgs false
attribute [local go_sem] Oper.semAt_some

end Go.Proofs.Ytcjnkadmiflgaaa
