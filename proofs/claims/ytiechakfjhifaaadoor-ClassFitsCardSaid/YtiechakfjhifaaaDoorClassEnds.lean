/-
  The walks of layer 3's laws, over whole arguments.
-/
import Derived.Test.YtiechakfjhifaaaDoorClassOwn
import Derived.Test.YtiechakfjhifaaaDoorClassWalks
import Derived.Test.YtiechakfjhifaaaDoorClassLeast
import Derived.Test.YtiechakfjhifaaaDoorClassAligned
namespace Go.Proofs.YtiechakfjhifaaaDoor
open Go.RowKit
set_option linter.unusedVariables false
set_option linter.unusedSimpArgs false

theorem wf_lo {x : Int} (h : (Lit.int .i64 x).wf = true) : -9223372036854775808 ≤ x := by
  simp only [Lit.wf, Bool.and_eq_true, decide_eq_true_eq] at h
  have e : IntKind.i64.min = -9223372036854775808 := by decide
  omega
theorem wf_hi {x : Int} (h : (Lit.int .i64 x).wf = true) : x ≤ 9223372036854775807 := by
  simp only [Lit.wf, Bool.and_eq_true, decide_eq_true_eq] at h
  have e : IntKind.i64.max = 9223372036854775807 := by decide
  omega

theorem sizes_walk (n c : Int) (w : World) (hk : Sizes w) (fn : (Lit.int .i64 n).wf = true) (fc : (Lit.int .i64 c).wf = true) : Calls Tryd.prog 3 #[.int .i64 n, .int .i64 c] w (Gives w (.bool true)) :=
  sizes_core class_does w n c hk (wf_lo fn) (wf_hi fn) (wf_lo fc) (wf_hi fc)
theorem fits_walk (n a : Int) (w : World) (hk : Sizes w) (fn : (Lit.int .i64 n).wf = true) (fa : (Lit.int .i64 a).wf = true) : Calls Tryd.prog 4 #[.int .i64 n, .int .i64 a] w (Gives w (.bool true)) :=
  fits_core class_does w n a hk (wf_lo fn) (wf_hi fn) (wf_lo fa) (wf_hi fa)
theorem rounds_walk (n a : Int) (w : World) (hk : Sizes w) (fn : (Lit.int .i64 n).wf = true) (fa : (Lit.int .i64 a).wf = true) : Calls Tryd.prog 5 #[.int .i64 n, .int .i64 a] w (Gives w (.bool true)) :=
  rounds_core class_does w n a hk (wf_lo fn) (wf_hi fn) (wf_lo fa) (wf_hi fa)
theorem least_walk (n m : Int) (w : World) (hk : Sizes w) (fn : (Lit.int .i64 n).wf = true) (fm : (Lit.int .i64 m).wf = true) : Calls Tryd.prog 6 #[.int .i64 n, .int .i64 m] w (Gives w (.bool true)) :=
  least_core class_does w n m hk (wf_lo fn) (wf_hi fn) (wf_lo fm) (wf_hi fm)
theorem aligned_walk (n a p sl : Int) (w : World) (hk : Sizes w) (fn : (Lit.int .i64 n).wf = true) (fa : (Lit.int .i64 a).wf = true) (fp : (Lit.int .i64 p).wf = true) (fsl : (Lit.int .i64 sl).wf = true) : Calls Tryd.prog 7 #[.int .i64 n, .int .i64 a, .int .i64 p, .int .i64 sl] w (Gives w (.bool true)) :=
  aligned_core class_does w n a p sl hk (wf_lo fn) (wf_hi fn) (wf_lo fa) (wf_hi fa)
theorem pages_walk (n m : Int) (w : World) (hk : Sizes w) (fn : (Lit.int .i64 n).wf = true) (fm : (Lit.int .i64 m).wf = true) : Calls Tryd.prog 8 #[.int .i64 n, .int .i64 m] w (Gives w (.bool true)) :=
  pages_core class_does w n m hk (wf_lo fn) (wf_hi fn)

end Go.Proofs.YtiechakfjhifaaaDoor
