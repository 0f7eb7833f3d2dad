/-
  The library's functions that package sorted calls, as they lie in this program.
-/
import Derived.Test.YtmifdafiffmnhaaProg
import Derived.Ground.SlgnProg
import Derived.Ground.Names2Prog
import Derived.Shelf.Lay
import Derived.Shelf.SlGeneric
import Derived.Shelf.SlicesG.SearchI
import Derived.Shelf.SlicesE.Delete
import Derived.Shelf.SlicesE.Clone
import Derived.Shelf.Spec.SlicesInsertGrow
namespace Go.Proofs
open Go.Shelf
shelf_lay_g SlLaysN.n49 Slgn 49 at Try 33 as Try.lSearch
shelf_lay_g SlLaysE.n45 Slgn 45 at Try 38 as Try.lDelI
shelf_lay_g SlLaysE.n45 Slgn 45 at Try 39 as Try.lDelS
shelf_lay_g SlLaysE0.n41 Slgn 41 at Try 40 as Try.lCloneI
shelf_lay_g SlLaysE0.n41 Slgn 41 at Try 41 as Try.lCloneS
shelf_lay Lays2.n21 Nm2 21 at Try as Try.lInsI
shelf_lay Lays2.n22 Nm2 22 at Try as Try.lInsS
end Go.Proofs
