/-
  The landed package chunk: Count.
-/
import Derived.Test.YtogfikemodaepaaDoorChunkSeq
import Derived.Test.YtogfikemodaepaaDoorChunkEns
namespace Go.Proofs.YtogfikemodaepaaDoor
open Go.RowKit Go.Sort Go.Maps Go.Shelf
set_option linter.unusedVariables false
set_option linter.unusedSimpArgs false
attribute [local go_sem] Oper.semAt_some

end Go.Proofs.YtogfikemodaepaaDoor
