/-
  The walks of layer 4's laws, over whole arguments.
-/
import Derived.Test.YtceneldblfdeaaaSlotsWalks
import Derived.Test.YtceneldblfdeaaaSlotsSplit
namespace Go.Proofs.Ytceneldblfdeaaa
open Go.RowKit

theorem wf_lo {x : Int} (h : (Lit.int .i64 x).wf = true) : -9223372036854775808 ≤ x := by
  simp only [Lit.wf, Bool.and_eq_true, decide_eq_true_eq] at h
  have e : IntKind.i64.min = -9223372036854775808 := by decide
  omega
theorem wf_hi {x : Int} (h : (Lit.int .i64 x).wf = true) : x ≤ 9223372036854775807 := by
  simp only [Lit.wf, Bool.and_eq_true, decide_eq_true_eq] at h
  have e : IntKind.i64.max = 9223372036854775807 := by decide
  omega

theorem turns_walk (x i : Int) (w : World) (fx : (Lit.int .i64 x).wf = true) (fi : (Lit.int .i64 i).wf = true) : Calls Try.prog 3 #[.int .i64 x, .int .i64 i] w (Gives w (.bool true)) :=
  turns_core x i w (wf_lo fx) (wf_hi fx) (wf_lo fi) (wf_hi fi)
theorem looks_walk (x n : Int) (w : World) (fx : (Lit.int .i64 x).wf = true) (fn : (Lit.int .i64 n).wf = true) : Calls Try.prog 4 #[.int .i64 x, .int .i64 n] w (Gives w (.bool true)) :=
  looks_core x n w (wf_lo fx) (wf_hi fx) (wf_lo fn) (wf_hi fn)
theorem one_walk (x i k : Int) (w : World) (fx : (Lit.int .i64 x).wf = true) (fi : (Lit.int .i64 i).wf = true) (fk : (Lit.int .i64 k).wf = true) : Calls Try.prog 5 #[.int .i64 x, .int .i64 i, .int .i64 k] w (Gives w (.bool true)) :=
  one_core x i k w (wf_lo fx) (wf_hi fx) (wf_lo fi) (wf_hi fi) (wf_lo fk) (wf_hi fk)
theorem first_walk (x n : Int) (w : World) (fx : (Lit.int .i64 x).wf = true) (fn : (Lit.int .i64 n).wf = true) : Calls Try.prog 6 #[.int .i64 x, .int .i64 n] w (Gives w (.bool true)) :=
  first_core x n w (wf_lo fx) (wf_hi fx) (wf_lo fn) (wf_hi fn)
theorem split_walk (x n : Int) (w : World) (fx : (Lit.int .i64 x).wf = true) (fn : (Lit.int .i64 n).wf = true) : Calls Try.prog 7 #[.int .i64 x, .int .i64 n] w (Gives w (.bool true)) :=
  split_core x n w (wf_lo fx) (wf_hi fx) (wf_lo fn) (wf_hi fn)

end Go.Proofs.Ytceneldblfdeaaa
