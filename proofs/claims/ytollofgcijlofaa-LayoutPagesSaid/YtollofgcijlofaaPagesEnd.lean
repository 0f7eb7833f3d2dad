/-
  The walk of LayoutPages, over whole arguments.
-/
import Derived.Test.YtollofgcijlofaaPagesWalk
import Derived.Test.YtollofgcijlofaaLaySome
namespace Go.Proofs.Ytollofgcijlofaa
open Go.RowKit
set_option linter.unusedVariables false

theorem pages_walk (y0 y1 y2 y3 y4 y5 y6 y7 y8 y9 y10 : Int) (p q f : Int) (w : World) (f0 : (Lit.int .i64 y0).wf = true) (f1 : (Lit.int .i64 y1).wf = true) (f2 : (Lit.int .i64 y2).wf = true) (f3 : (Lit.int .i64 y3).wf = true) (f4 : (Lit.int .i64 y4).wf = true) (f5 : (Lit.int .i64 y5).wf = true) (f6 : (Lit.int .i64 y6).wf = true) (f7 : (Lit.int .i64 y7).wf = true) (f8 : (Lit.int .i64 y8).wf = true) (f9 : (Lit.int .i64 y9).wf = true) (f10 : (Lit.int .i64 y10).wf = true) (p_ : (Lit.int .i64 p).wf = true) (q_ : (Lit.int .i64 q).wf = true) (f_ : (Lit.int .i64 f).wf = true) :
    Calls Try.prog 4 #[.agg #[.int .i64 y0, .int .i64 y1, .int .i64 y2, .int .i64 y3, .int .i64 y4, .int .i64 y5, .int .i64 y6, .int .i64 y7, .int .i64 y8, .int .i64 y9, .int .i64 y10], .int .i64 p, .int .i64 q, .int .i64 f] w (Gives w (.bool true)) := by
  obtain ⟨wk, cp, pg, st, tr, wt, ck, pr, ca, bi, ba, R, HS⟩ := some_gives y0 y1 y2 y3 y4 y5 y6 y7 y8 y9 y10 f0 f1 f2 f3 f4 f5 f6 f7 f8 f9 f10
  exact pages_core y0 y1 y2 y3 y4 y5 y6 y7 y8 y9 y10 wk cp pg st tr wt ck pr ca bi ba p q f w R HS 

end Go.Proofs.Ytollofgcijlofaa
