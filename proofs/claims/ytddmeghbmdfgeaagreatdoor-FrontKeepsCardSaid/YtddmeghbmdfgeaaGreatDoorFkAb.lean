/-
  The library's functions that package sorted calls, as they lie in this program.
-/
import Derived.Test.YtddmeghbmdfgeaaGreatDoorProg
import Derived.Ground.SlgnProg
import Derived.Ground.Names2Prog
import Derived.Shelf.Lay
import Derived.Shelf.LaySoft
import Derived.Shelf.SlGeneric
import Derived.Shelf.SlicesG.SearchI
import Derived.Shelf.SlicesG.Clone
import Derived.Shelf.SlicesE.Clone
import Derived.Shelf.Spec.SlicesInsertGrow
namespace Go.Proofs
open Go.Shelf
shelf_try shelf_lay_g SlLaysN.n49 Slgn 49 at Tryz 121 as Tryz.lSearch
shelf_try shelf_lay_g SlLaysE0.n41 Slgn 41 at Tryz 41 as Tryz.lCloneI
shelf_try shelf_lay_g SlLaysN.n41 Slgn 41 at Tryz 41 as Tryz.lCloneN
shelf_try shelf_lay Lays2.n21 Nm2 21 at Tryz as Tryz.lInsI
shelf_tried
end Go.Proofs
