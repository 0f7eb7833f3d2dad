/-
  The landed package chunk: Count.
-/
import Derived.Test.YtogfikemodaepaaGreatChunkSeq
import Derived.Test.YtogfikemodaepaaGreatChunkEns
namespace Go.Proofs.YtogfikemodaepaaGreat
open Go.RowKit Go.Sort Go.Maps Go.Shelf
set_option linter.unusedVariables false
set_option linter.unusedSimpArgs false
attribute [local go_sem] Oper.semAt_some

end Go.Proofs.YtogfikemodaepaaGreat
