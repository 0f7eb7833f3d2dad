/-
  The walk of LayoutWords, over whole arguments.
-/
import Derived.Test.YtollofgcijlofaaWordsWalk
import Derived.Test.YtollofgcijlofaaLaySome
namespace Go.Proofs.Ytollofgcijlofaa
open Go.RowKit
set_option linter.unusedVariables false

theorem words_walk (y0 y1 y2 y3 y4 y5 y6 y7 y8 y9 y10 : Int) (a u c : Int) (w : World) (f0 : (Lit.int .i64 y0).wf = true) (f1 : (Lit.int .i64 y1).wf = true) (f2 : (Lit.int .i64 y2).wf = true) (f3 : (Lit.int .i64 y3).wf = true) (f4 : (Lit.int .i64 y4).wf = true) (f5 : (Lit.int .i64 y5).wf = true) (f6 : (Lit.int .i64 y6).wf = true) (f7 : (Lit.int .i64 y7).wf = true) (f8 : (Lit.int .i64 y8).wf = true) (f9 : (Lit.int .i64 y9).wf = true) (f10 : (Lit.int .i64 y10).wf = true) (a_ : (Lit.int .i64 a).wf = true) (u_ : (Lit.int .i64 u).wf = true) (c_ : (Lit.int .i64 c).wf = true) :
    Calls Try.prog 5 #[.agg #[.int .i64 y0, .int .i64 y1, .int .i64 y2, .int .i64 y3, .int .i64 y4, .int .i64 y5, .int .i64 y6, .int .i64 y7, .int .i64 y8, .int .i64 y9, .int .i64 y10], .int .i64 a, .int .i64 u, .int .i64 c] w (Gives w (.bool true)) := by
  obtain ⟨wk, cp, pg, st, tr, wt, ck, pr, ca, bi, ba, R, HS⟩ := some_gives y0 y1 y2 y3 y4 y5 y6 y7 y8 y9 y10 f0 f1 f2 f3 f4 f5 f6 f7 f8 f9 f10
  exact words_all y0 y1 y2 y3 y4 y5 y6 y7 y8 y9 y10 wk cp pg st tr wt ck pr ca bi ba a u c w R HS 

end Go.Proofs.Ytollofgcijlofaa
