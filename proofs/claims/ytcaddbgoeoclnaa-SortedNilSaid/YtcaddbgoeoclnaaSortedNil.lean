/-
  A map that is nil: what each function tells of it; and the walk over SortedNil.
-/
import Derived.Test.YtcaddbgoeoclnaaSortedLives
import Derived.Handy
import Derived.Deep.DeepMust
namespace Go.Proofs.Ytcaddbgoeoclnaa
open Go.RowKit Go.Sort
set_option linter.unusedVariables false
set_option linter.unusedSimpArgs false

theorem run_equalIn_func {P : Program} (w : World) (d : Nat) (t : TypeId) {a b c} (h : P.underlying t = some (.func a b c)) (f : Fn) (xs ys : Array Value) :
    (Op.equalIn (d + 1) t (.func f xs ys) .nilFunc).run P w = .ok false w := by
  simp [Op.equalIn, run_underlying h]
/-- A function that is written out is not nil. -/
theorem run_eql_func {P : Program} (w : World) (t : TypeId) {a b c} (h : P.underlying t = some (.func a b c)) (f : Fn) (xs ys : Array Value) : Sem.run P (binOp BinOp.eql t (Value.func f xs ys) Value.nilFunc) w = .ok (.bool false) w := by
  have : Sem.run P (Op.equal t (Value.func f xs ys) Value.nilFunc) w = .ok false w := run_equalIn_func w 9999 t h f xs ys
  simp [binOp, this]

theorem nil_find (k : Int) (w : World) : Calls Try.prog 42 #[.pointer none, .int .i64 k] w fun e w' => e = .returned (.tuple #[.int .i64 0, .bool false]) ∧ w' = w := by
  go_enter Try.func42, Try.ntmps42
  go_wp2_with fail
  go_ret2
  exact ⟨rfl, rfl⟩
theorem nil_get (k : Int) (w : World) : Calls Try.prog 26 #[.pointer none, .int .i64 k] w fun e w' => e = .returned (.tuple #[.int .i64 0, .bool false]) ∧ w' = w := by
  go_enter Try.func26, Try.ntmps26
  go_wp2_with (go_at_call 42; refine (nil_find _ _).mono ?_; rintro e w' ⟨rfl, rfl⟩)
  go_ret2
  exact ⟨rfl, rfl⟩
theorem nil_len (w : World) : Calls Try.prog 30 #[.pointer none] w fun e w' => e = .returned (.int .i64 0) ∧ w' = w := by
  go_enter Try.func30, Try.ntmps30
  go_wp2_with fail
  go_ret
  exact ⟨rfl, rfl⟩
theorem nil_at (i : Int) (w : World) : Calls Try.prog 27 #[.pointer none, .int .i64 i] w fun e w' => e = .returned (.tuple #[.int .i64 0, .int .i64 0, .bool false]) ∧ w' = w := by
  cases d : decide (i < 0) with
  | true =>
    go_enter Try.func27, Try.ntmps27
    go_wp2_with fail
    go_ret3
    exact ⟨rfl, rfl⟩
  | false =>
    have d2 : decide (0 ≤ i) = true := by simp at d ⊢; omega
    go_enter Try.func27, Try.ntmps27
    go_wp2_with (go_at_call 30; refine (nil_len _).mono ?_; rintro e w' ⟨rfl, rfl⟩)
    go_ret3
    exact ⟨rfl, rfl⟩
theorem nil_put (k v : Int) (w : World) : Calls Try.prog 28 #[.pointer none, .int .i64 k, .int .i64 v] w fun e w' => e = .returned (.bool false) ∧ w' = w := by
  go_enter Try.func28, Try.ntmps28
  go_wp2_with fail
  go_ret
  exact ⟨rfl, rfl⟩
theorem nil_cut (k : Int) (w : World) : Calls Try.prog 29 #[.pointer none, .int .i64 k] w fun e w' => e = .returned (.bool false) ∧ w' = w := by
  go_enter Try.func29, Try.ntmps29
  go_wp2_with (go_at_call 42; refine (nil_find _ _).mono ?_; rintro e w' ⟨rfl, rfl⟩)
  go_ret
  exact ⟨rfl, rfl⟩
theorem nil_keys (w : World) : Calls Try.prog 31 #[.pointer none] w fun e w' => e = .returned (.slice none 0 0) ∧ w' = w := by
  go_enter Try.func31, Try.ntmps31
  go_wp2_with fail
  go_ret
  exact ⟨rfl, rfl⟩
theorem nil_copy (w : World) : Calls Try.prog 32 #[.pointer none] w fun e w' => e = .returned (.pointer none) ∧ w' = w := by
  go_enter Try.func32, Try.ntmps32
  go_wp2_with fail
  go_ret
  exact ⟨rfl, rfl⟩
set_option maxHeartbeats 1000000 in
theorem nil_each (fn : Nat) (lb : Array Value) (w : World) : Calls Try.prog 24 #[.pointer none, .func (.func fn) #[] lb] w fun e w' => e = .returned (.tuple #[]) ∧ w' = w := by
  have hq : ∀ w, Sem.run Try.prog (binOp BinOp.eql 47 (Value.func (.func fn) #[] lb) Value.nilFunc) w = .ok (.bool false) w := fun w => run_eql_func w _ Try.underlying47 _ _ _
  go_enter Try.func24, Try.ntmps24
  go_wp2_with (first | (go_at_call 32; refine (nil_copy _).mono ?_; rintro e w' ⟨rfl, rfl⟩) | (go_at_call 30; refine (nil_len _).mono ?_; rintro e w' ⟨rfl, rfl⟩))
  go_loop [15] (fun i => i = .int .i64 0) (fun _ => 0)
  case atStart => rfl
  case round =>
    obtain rfl := hrel
    go_wp2_with fail
    go_end0
    exact ⟨rfl, rfl⟩
set_option maxRecDepth 100000 in
set_option maxHeartbeats 2000000 in
theorem nil_walk (k i : Int) (w : World) : Calls Try.prog 5 #[.int .i64 k, .int .i64 i] w (Gives w (.bool true)) := by
  go_enter Try.func5, Try.ntmps5
  go_wp2_with (first
    | (go_at_call 24; refine (nil_each _ _ _).mono ?_; rintro e w1 ⟨rfl, rfl⟩)
    | (go_at_call 26; refine (nil_get _ _).mono ?_; rintro e w1 ⟨rfl, rfl⟩)
    | (go_at_call 27; refine (nil_at _ _).mono ?_; rintro e w1 ⟨rfl, rfl⟩)
    | (go_at_call 28; refine (nil_put _ _ _).mono ?_; rintro e w1 ⟨rfl, rfl⟩)
    | (go_at_call 29; refine (nil_cut _ _).mono ?_; rintro e w1 ⟨rfl, rfl⟩)
    | (go_at_call 30; refine (nil_len _).mono ?_; rintro e w1 ⟨rfl, rfl⟩)
    | (go_at_call 31; refine (nil_keys _).mono ?_; rintro e w1 ⟨rfl, rfl⟩)
    | (go_at_call 32; refine (nil_copy _).mono ?_; rintro e w1 ⟨rfl, rfl⟩)
    | (go_at_call 9; refine (lives_ok _).mono ?_; rintro e w9 ⟨rfl, hM⟩; have HM9 := Lib.hid (((More.refl w).alloc _).trans hM); clear hM))
  go_ret
  exact ⟨rfl, HM9.out⟩
end Go.Proofs.Ytcaddbgoeoclnaa
