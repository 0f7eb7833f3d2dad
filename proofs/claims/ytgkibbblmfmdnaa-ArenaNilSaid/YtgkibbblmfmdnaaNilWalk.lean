/-
  The walk of the statement on an arena that is none.
-/
import Derived.Test.YtgkibbblmfmdnaaLives
namespace Go.Proofs.Ytgkibbblmfmdnaa
open Go.RowKit
set_option linter.unusedVariables false
set_option linter.unusedSimpArgs false

set_option maxHeartbeats 1000000 in
theorem nil_walk (a x : Int) (w : World) (wa : (Lit.int .i64 a).wf = true) (wx : (Lit.int .i64 x).wf = true) :
    Calls Try.prog 5 #[.int .i64 a, .int .i64 x] w fun e w' => e = .returned (.bool true) ∧ Turned (fun _ => False) w w' := by
  go_enter Try.func5, Try.ntmps5
  go_wp2_with fail
  refine (load_nil a _).mono ?_
  rintro e w1 ⟨rfl, t1⟩
  go_wp2_with fail
  refine (store_nil a x _).mono ?_
  rintro e w2 ⟨rfl, t2⟩
  go_wp2_with fail
  refine (swap_nil a x x _).mono ?_
  rintro e w3 ⟨rfl, t3⟩
  go_wp2_with fail
  refine (bump_nil a x _).mono ?_
  rintro e w4 ⟨rfl, t4⟩
  go_wp2_with fail
  refine (len_nil _).mono ?_
  rintro e w5 ⟨rfl, rfl⟩
  go_wp2_with fail
  refine (count_nil _).mono ?_
  rintro e w5 ⟨rfl, rfl⟩
  go_wp2_with fail
  refine (words_nil _).mono ?_
  rintro e w5 ⟨rfl, rfl⟩
  go_wp2_with fail
  refine (copy_nil _).mono ?_
  rintro e w5 ⟨rfl, rfl⟩
  go_wp2_with fail
  refine (lives_any _).mono ?_
  rintro e w6 ⟨rfl, t6⟩
  go_wp2_with fail
  go_ret
  exact ⟨rfl, (((t1.trans t2).trans t3).trans t4).trans t6⟩

end Go.Proofs.Ytgkibbblmfmdnaa
