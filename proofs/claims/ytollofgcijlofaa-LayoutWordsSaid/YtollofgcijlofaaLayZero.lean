/-
  What the zero Layout answers.
-/
import Derived.Test.YtollofgcijlofaaLayD
namespace Go.Proofs.Ytollofgcijlofaa
open Go.RowKit
set_option linter.unusedVariables false

theorem okZero : LayOk 0 0 0 0 0 (fun _ => 0) := by constructor <;> simp
theorem wordV_none (i : Int) : wordV 0 0 i = 0 := by unfold wordV; split <;> omega

theorem ztable (W : World) (k : Int) : Calls Try.prog 17 #[.agg (layArr 0 0 0 0 0 0 0 0 0 0 0 (fun _ => 0)), .int .i64 k] W (Gives W (.int .i64 0)) := by
  have := ltable 0 0 0 0 0 0 0 0 0 0 0 (fun _ => 0) W k okZero
  rwa [show wordV ((fun _ => 0) 1) ((fun _ => 0) 2) k = 0 from by exact wordV_none k] at this
theorem zkind (W : World) (k : Int) : Calls Try.prog 21 #[.agg (layArr 0 0 0 0 0 0 0 0 0 0 0 (fun _ => 0)), .int .i64 k] W (Gives W (.int .i64 0)) := by
  have := lkind 0 0 0 0 0 0 0 0 0 0 0 (fun _ => 0) W k okZero
  rwa [show wordV ((fun _ => 0) 2) ((fun _ => 0) 3) k = 0 from by exact wordV_none k] at this
theorem zhead (W : World) (c f : Int) : Calls Try.prog 19 #[.agg (layArr 0 0 0 0 0 0 0 0 0 0 0 (fun _ => 0)), .int .i64 c, .int .i64 f] W (Gives W (.int .i64 0)) := by
  have := lhead 0 0 0 0 0 0 0 0 0 0 0 (fun _ => 0) W c f okZero
  rwa [show lheadV (fun _ => 0) c f = 0 from by unfold lheadV; split; exact wordV_none _; rfl] at this
theorem zcache (W : World) (u c : Int) : Calls Try.prog 39 #[.agg (layArr 0 0 0 0 0 0 0 0 0 0 0 (fun _ => 0)), .int .i64 u, .int .i64 c] W (Gives W (.int .i64 0)) := by
  have := lcache 0 0 0 0 0 0 0 0 0 0 0 (fun _ => 0) W u c okZero
  rwa [show lcacheV 0 0 (fun _ => 0) u c = 0 from by unfold lcacheV; split; exact wordV_none _; rfl] at this
theorem zbin (W : World) (c : Int) : Calls Try.prog 40 #[.agg (layArr 0 0 0 0 0 0 0 0 0 0 0 (fun _ => 0)), .int .i64 c] W (Gives W (.int .i64 0)) := by
  have := lbin 0 0 0 0 0 0 0 0 0 0 0 (fun _ => 0) W c okZero
  rwa [show lbinV 0 (fun _ => 0) c = 0 from by unfold lbinV; split; exact wordV_none _; rfl] at this
theorem zlive (W : World) (a : Int) : Calls Try.prog 41 #[.agg (layArr 0 0 0 0 0 0 0 0 0 0 0 (fun _ => 0)), .int .i64 a] W (Gives W (.int .i64 0)) := by
  have := llive 0 0 0 0 0 0 0 0 0 0 0 (fun _ => 0) W a okZero
  rwa [show lliveV (fun _ => 0) a = 0 from by unfold lliveV; split; exact wordV_none _; rfl] at this
theorem zaddr (W : World) (p : Int) : Calls Try.prog 31 #[.agg (layArr 0 0 0 0 0 0 0 0 0 0 0 (fun _ => 0)), .int .i64 p] W (Gives W (.int .i64 0)) := by
  have := laddr 0 0 0 0 0 0 0 0 0 0 0 (fun _ => 0) W p okZero
  rwa [show laddrV 0 (fun _ => 0) p = 0 from by unfold laddrV; split; exact wordV_none _; rfl] at this
theorem zlock (W : World) (a : Int) : Calls Try.prog 38 #[.agg (layArr 0 0 0 0 0 0 0 0 0 0 0 (fun _ => 0)), .int .i64 a] W (Gives W (.int .i64 0)) := by
  have := llock 0 0 0 0 0 0 0 0 0 0 0 (fun _ => 0) W a okZero
  rwa [show llockV 0 (fun _ => 0) a = 0 from by unfold llockV; split; exact wordV_none _; rfl] at this
theorem zuser (W : World) : Calls Try.prog 36 #[.agg (layArr 0 0 0 0 0 0 0 0 0 0 0 (fun _ => 0))] W (Gives W (.int .i64 0)) := luser 0 0 0 0 0 0 0 0 0 0 0 (fun _ => 0) W
theorem zwords (W : World) : Calls Try.prog 12 #[.agg (layArr 0 0 0 0 0 0 0 0 0 0 0 (fun _ => 0))] W (Gives W (.int .i64 0)) := lwords 0 0 0 0 0 0 0 0 0 0 0 (fun _ => 0) W
theorem zchunks (W : World) : Calls Try.prog 15 #[.agg (layArr 0 0 0 0 0 0 0 0 0 0 0 (fun _ => 0))] W (Gives W (.int .i64 0)) := lChunks 0 0 0 0 0 0 0 0 0 0 0 (fun _ => 0) W okZero
theorem zplace (W : World) (a : Int) : Calls Try.prog 33 #[.agg (layArr 0 0 0 0 0 0 0 0 0 0 0 (fun _ => 0)), .int .i64 a] W (Gives W (.tuple #[.int .i64 0, .int .i64 0, .bool false])) := lplace_out 0 0 0 0 0 0 0 0 0 0 0 (fun _ => 0) W a okZero (by show a < 0 ∨ 0 ≤ a; omega)

end Go.Proofs.Ytollofgcijlofaa
