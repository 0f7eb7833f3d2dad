/-
  The document's own answer which configurations may be.
-/
import Derived.Test.YtollofgcijlofaaLayRefD
namespace Go.Proofs.Ytollofgcijlofaa
open Go.RowKit
set_option linter.unusedVariables false
set_option linter.unusedSimpArgs false

variable (wk cp pg st tr wt ck pr ca bi ba : Int) (w : World)

set_option maxRecDepth 100000 in
set_option maxHeartbeats 8000000 in
theorem rright :
    Calls Try.prog 10 #[.agg #[.int .i64 wk, .int .i64 cp, .int .i64 pg, .int .i64 st, .int .i64 tr, .int .i64 wt, .int .i64 ck, .int .i64 pr, .int .i64 ca, .int .i64 bi, .int .i64 ba]] w (Gives w (.bool (rightB wk cp pg st tr wt ck pr ca bi ba))) := by
  go_enter Try.func10, Try.ntmps10
  go_wp2_with (go_at_call 50; refine (rbetween _ _ _ _).mono ?_; rintro e w1 ⟨rfl, rfl⟩)
  all_goals go_ret
  all_goals exact ⟨by simp_all [rightB], (More.refl _).alloc _⟩

end Go.Proofs.Ytollofgcijlofaa
