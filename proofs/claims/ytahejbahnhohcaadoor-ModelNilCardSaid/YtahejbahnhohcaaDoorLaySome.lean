/-
  What the statements' helper Some gives, for whole arguments.
-/
import Derived.Test.YtahejbahnhohcaaDoorLayWithin
namespace Go.Proofs.YtahejbahnhohcaaDoor
open Go.RowKit

theorem wf_lo {x : Int} (h : (Lit.int .i64 x).wf = true) : -9223372036854775808 ≤ x := by
  simp only [Lit.wf, Bool.and_eq_true, decide_eq_true_eq] at h
  have e : IntKind.i64.min = -9223372036854775808 := by decide
  omega
theorem wf_hi {x : Int} (h : (Lit.int .i64 x).wf = true) : x ≤ 9223372036854775807 := by
  simp only [Lit.wf, Bool.and_eq_true, decide_eq_true_eq] at h
  have e : IntKind.i64.max = 9223372036854775807 := by decide
  omega
/-- Whatever Some is given, it gives a configuration that may be. -/
theorem some_gives (y0 y1 y2 y3 y4 y5 y6 y7 y8 y9 y10 : Int) (f0 : (Lit.int .i64 y0).wf = true) (f1 : (Lit.int .i64 y1).wf = true) (f2 : (Lit.int .i64 y2).wf = true) (f3 : (Lit.int .i64 y3).wf = true) (f4 : (Lit.int .i64 y4).wf = true) (f5 : (Lit.int .i64 y5).wf = true) (f6 : (Lit.int .i64 y6).wf = true) (f7 : (Lit.int .i64 y7).wf = true) (f8 : (Lit.int .i64 y8).wf = true) (f9 : (Lit.int .i64 y9).wf = true) (f10 : (Lit.int .i64 y10).wf = true) :
    ∃ wk cp pg st tr wt ck pr ca bi ba, CfgOk wk cp pg st tr wt ck pr ca bi ba ∧ Hid (∀ W, Calls Tryd.prog 48 #[.agg #[.int .i64 y0, .int .i64 y1, .int .i64 y2, .int .i64 y3, .int .i64 y4, .int .i64 y5, .int .i64 y6, .int .i64 y7, .int .i64 y8, .int .i64 y9, .int .i64 y10]] W (Gives W (.agg #[.int .i64 wk, .int .i64 cp, .int .i64 pg, .int .i64 st, .int .i64 tr, .int .i64 wt, .int .i64 ck, .int .i64 pr, .int .i64 ca, .int .i64 bi, .int .i64 ba]))) :=
  ⟨(withinV y0 1 64), (withinV y1 1 8), (withinV y2 1 256), (withinV y3 1 64), (withinV y4 0 16), (withinV y5 0 64), (withinV y6 1 1099511627776), (withinV y7 1 8), (withinV y8 0 8), (withinV y9 0 16), (withinV y10 1 8), some_ok y0 y1 y2 y3 y4 y5 y6 y7 y8 y9 y10, fun W => some_any y0 y1 y2 y3 y4 y5 y6 y7 y8 y9 y10 W ⟨wf_lo f0, wf_hi f0⟩ ⟨wf_lo f1, wf_hi f1⟩ ⟨wf_lo f2, wf_hi f2⟩ ⟨wf_lo f3, wf_hi f3⟩ ⟨wf_lo f4, wf_hi f4⟩ ⟨wf_lo f5, wf_hi f5⟩ ⟨wf_lo f6, wf_hi f6⟩ ⟨wf_lo f7, wf_hi f7⟩ ⟨wf_lo f8, wf_hi f8⟩ ⟨wf_lo f9, wf_hi f9⟩ ⟨wf_lo f10, wf_hi f10⟩⟩

end Go.Proofs.YtahejbahnhohcaaDoor
