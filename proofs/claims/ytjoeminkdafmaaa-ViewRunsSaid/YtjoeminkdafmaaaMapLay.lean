/-
  The library's functions that package sorted calls, as they lie in this program.
-/
import Derived.Test.YtjoeminkdafmaaaProg
import Derived.Ground.SlgnProg
import Derived.Ground.Names2Prog
import Derived.Shelf.Lay
import Derived.Shelf.SlGeneric
import Derived.Shelf.SlicesG.SearchI
import Derived.Shelf.SlicesE.Clone
import Derived.Shelf.Spec.SlicesInsertGrow
namespace Go.Proofs
open Go.Shelf
shelf_lay_g SlLaysN.n49 Slgn 49 at Try 37 as Try.lSearch
shelf_lay_g SlLaysE0.n41 Slgn 41 at Try 26 as Try.lCloneI
shelf_lay Lays2.n21 Nm2 21 at Try as Try.lInsI
end Go.Proofs
