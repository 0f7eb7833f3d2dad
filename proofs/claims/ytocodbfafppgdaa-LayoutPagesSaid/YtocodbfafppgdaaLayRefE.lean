/-
  The document's own answer which configurations may be.
-/
import Derived.Test.YtocodbfafppgdaaLayRefD
namespace Go.Proofs.Ytocodbfafppgdaa
open Go.RowKit
set_option linter.unusedVariables false
set_option linter.unusedSimpArgs false

variable (wk cp pg st tr wt ck pr ca bi ba : Int) (w : World)

def rightB : Bool := btw wk 1 64 && btw cp 1 8 && btw pg 1 256 && btw st 1 64 && btw tr 0 16 && btw wt 0 64 && btw ck 1 1099511627776 && btw pr 1 8 && btw ca 0 8 && btw bi 0 16 && btw ba 1 8

set_option maxRecDepth 100000 in
set_option maxHeartbeats 8000000 in
theorem rright :
    Calls Try.prog 10 #[.agg #[.int .i64 wk, .int .i64 cp, .int .i64 pg, .int .i64 st, .int .i64 tr, .int .i64 wt, .int .i64 ck, .int .i64 pr, .int .i64 ca, .int .i64 bi, .int .i64 ba]] w (Gives w (.bool (rightB wk cp pg st tr wt ck pr ca bi ba))) := by
  go_enter Try.func10, Try.ntmps10
  go_wp2_with (go_at_call 50; refine (rbetween _ _ _ _).mono ?_; rintro e w1 ⟨rfl, rfl⟩)
  all_goals go_ret
  all_goals exact ⟨by simp_all [rightB], (More.refl _).alloc _⟩

end Go.Proofs.Ytocodbfafppgdaa
