/-
  Contracts of the document's own answers for layout: locks, places of user words, slots and heads.
-/
import Derived.Test.YtollofgcijlofaaLayRefB
namespace Go.Proofs.Ytollofgcijlofaa
open Go.RowKit
set_option linter.unusedVariables false
set_option linter.unusedSimpArgs false

set_option maxHeartbeats 1000000 in
theorem rslots (c : Nat) (h4 : c ≤ 4) (w : World) :
    Calls Try.prog 59 #[.int .i64 c] w (Gives w (.int .i64 (slotsV c))) := by
  go_enter Try.func59, Try.ntmps59
  go_wp2_with fail
  go_loop [3, 4] (fun n i => ∃ k : Nat, k ≤ c ∧ i = .int .i64 k ∧ n = .int .i64 (slotsV k)) (fun _ i => c - (intOf i).toNat)
  case atStart => exact ⟨0, Nat.zero_le _, rfl, rfl⟩
  case round =>
    obtain ⟨k, hk, rfl, rfl⟩ := hrel
    by_cases hlt : k < c
    · have d5 : decide ((k : Int) < 5) = true := by simp; omega
      obtain ⟨s1, s2, s3⟩ := slots_step k (by omega) (by omega)
      have HS := Lib.hid s1; clear s1
      go_wp2_with fail
      go_round
      case rel => exact ⟨k + 1, by omega, by go_num, by rw [HS.out]; go_num⟩
      case measure => simp [intOf]; omega
    · have he : k = c := by omega
      subst he
      go_wp2_with fail
      go_ret
      exact ⟨rfl, More.refl _⟩

variable (wk cp pg st tr wt ck pr ca bi ba : Int) (w : World)

set_option maxHeartbeats 1000000 in
theorem rlock (a : Int) (R : CfgOk wk cp pg st tr wt ck pr ca bi ba) :
    Calls Try.prog 42 #[.agg #[.int .i64 wk, .int .i64 cp, .int .i64 pg, .int .i64 st, .int .i64 tr, .int .i64 wt, .int .i64 ck, .int .i64 pr, .int .i64 ca, .int .i64 bi, .int .i64 ba], .int .i64 a] w (Gives w (.int .i64 (lockV cp pg st ca bi a))) := by
  have HR := Lib.hid R
  have b1 := wordsB R
  have b2 := R.st1
  have b3 := R.st2
  have HE := Lib.hid ((cfgAt_new w 37 wk cp pg st tr wt ck pr ca bi ba).cells (More.refl _))
  have HN := Lib.hid (cfgAt_new w 37 wk cp pg st tr wt ck pr ca bi ba)
  clear R
  by_cases c0 : a < 0
  · have d0 : decide (a < 0) = true := by simp; omega
    rw [show lockV cp pg st ca bi a = 0 from if_neg (by omega)]
    go_enter Try.func42, Try.ntmps42
    go_wp2_with fail
    go_ret
    exact ⟨rfl, (More.refl _).alloc _⟩
  · have d0 : decide (a < 0) = false := by simp; omega
    by_cases c1 : a < wordsV cp pg st ca bi
    · have d1 : decide (wordsV cp pg st ca bi ≤ a) = false := by simp; omega
      rw [show lockV cp pg st ca bi a = 3 + a % st from if_pos (by omega)]
      have m0 := Int.emod_nonneg a (show st ≠ 0 by omega)
      have m1 := Int.emod_lt_of_pos a (show 0 < st by omega)
      obtain ⟨e0, e1, e2, e3, e4, e5, e6, e7, e8, e9, e10⟩ := HE.out
      have hst0 : (st == 0) = false := by simp; omega
      go_enter Try.func42, Try.ntmps42
      go_wp2_with fail
      refine (rwords _ _ _ _ _ _ _ _ _ _ _ _ HR.out).mono ?_
      rintro e w1 ⟨rfl, h1⟩
      obtain ⟨e0, e1, e2, e3, e4, e5, e6, e7, e8, e9, e10⟩ := HN.out.cells h1
      go_wp2_with fail
      go_ret
      exact ⟨rfl, ((More.refl _).alloc _).trans h1⟩
    · have d1 : decide (wordsV cp pg st ca bi ≤ a) = true := by simp; omega
      rw [show lockV cp pg st ca bi a = 0 from if_neg (by omega)]
      obtain ⟨e0, e1, e2, e3, e4, e5, e6, e7, e8, e9, e10⟩ := HE.out
      go_enter Try.func42, Try.ntmps42
      go_wp2_with fail
      refine (rwords _ _ _ _ _ _ _ _ _ _ _ _ HR.out).mono ?_
      rintro e w1 ⟨rfl, h1⟩
      go_wp2_with fail
      go_ret
      exact ⟨rfl, ((More.refl _).alloc _).trans h1⟩

set_option maxHeartbeats 1000000 in
theorem rplace_in (a : Int) (R : CfgOk wk cp pg st tr wt ck pr ca bi ba) (c0 : userV cp pg st ca bi ≤ a) (c1 : a < wordsV cp pg st ca bi) :
    Calls Try.prog 34 #[.agg #[.int .i64 wk, .int .i64 cp, .int .i64 pg, .int .i64 st, .int .i64 tr, .int .i64 wt, .int .i64 ck, .int .i64 pr, .int .i64 ca, .int .i64 bi, .int .i64 ba], .int .i64 a] w (Gives w (.tuple #[.int .i64 ((a - userV cp pg st ca bi) / 32), .int .i64 ((a - userV cp pg st ca bi) % 32), .bool true])) := by
  have HR := Lib.hid R
  have b1 := wordsB R
  have b2 := userB R
  have d0 : decide (a < userV cp pg st ca bi) = false := by simp; omega
  have d1 : decide (wordsV cp pg st ca bi ≤ a) = false := by simp; omega
  have HN := Lib.hid (cfgAt_new w 37 wk cp pg st tr wt ck pr ca bi ba)
  obtain ⟨e0, e1, e2, e3, e4, e5, e6, e7, e8, e9, e10⟩ := HN.out.cells (More.refl _)
  clear R
  go_enter Try.func34, Try.ntmps34
  go_wp2_with fail
  refine (ruser _ _ _ _ _ _ _ _ _ _ _ _ HR.out).mono ?_
  rintro e w1 ⟨rfl, h1⟩
  obtain ⟨e0, e1, e2, e3, e4, e5, e6, e7, e8, e9, e10⟩ := HN.out.cells h1
  go_wp2_with fail
  refine (rwords _ _ _ _ _ _ _ _ _ _ _ _ HR.out).mono ?_
  rintro e w2 ⟨rfl, h2⟩
  obtain ⟨e0, e1, e2, e3, e4, e5, e6, e7, e8, e9, e10⟩ := HN.out.cells (h1.trans h2)
  go_wp2_with fail
  refine (ruser _ _ _ _ _ _ _ _ _ _ _ _ HR.out).mono ?_
  rintro e w3 ⟨rfl, h3⟩
  go_wp2_with fail
  go_ret3
  exact ⟨rfl, ((((More.refl _).alloc _).trans h1).trans h2).trans h3⟩

set_option maxHeartbeats 1000000 in
theorem rplace_out (a : Int) (R : CfgOk wk cp pg st tr wt ck pr ca bi ba) (c : a < userV cp pg st ca bi ∨ wordsV cp pg st ca bi ≤ a) :
    Calls Try.prog 34 #[.agg #[.int .i64 wk, .int .i64 cp, .int .i64 pg, .int .i64 st, .int .i64 tr, .int .i64 wt, .int .i64 ck, .int .i64 pr, .int .i64 ca, .int .i64 bi, .int .i64 ba], .int .i64 a] w (Gives w (.tuple #[.int .i64 0, .int .i64 0, .bool false])) := by
  have HR := Lib.hid R
  have b1 := wordsB R
  have b2 := userB R
  have HN := Lib.hid (cfgAt_new w 37 wk cp pg st tr wt ck pr ca bi ba)
  obtain ⟨e0, e1, e2, e3, e4, e5, e6, e7, e8, e9, e10⟩ := HN.out.cells (More.refl _)
  clear R
  by_cases c0 : a < userV cp pg st ca bi
  · have d0 : decide (a < userV cp pg st ca bi) = true := by simp; omega
    clear c
    go_enter Try.func34, Try.ntmps34
    go_wp2_with fail
    refine (ruser _ _ _ _ _ _ _ _ _ _ _ _ HR.out).mono ?_
    rintro e w1 ⟨rfl, h1⟩
    go_wp2_with fail
    go_ret3
    exact ⟨rfl, ((More.refl _).alloc _).trans h1⟩
  · have d0 : decide (a < userV cp pg st ca bi) = false := by simp; omega
    have d1 : decide (wordsV cp pg st ca bi ≤ a) = true := by simp; omega
    clear c
    go_enter Try.func34, Try.ntmps34
    go_wp2_with fail
    refine (ruser _ _ _ _ _ _ _ _ _ _ _ _ HR.out).mono ?_
    rintro e w1 ⟨rfl, h1⟩
    obtain ⟨e0, e1, e2, e3, e4, e5, e6, e7, e8, e9, e10⟩ := HN.out.cells h1
    go_wp2_with fail
    refine (rwords _ _ _ _ _ _ _ _ _ _ _ _ HR.out).mono ?_
    rintro e w2 ⟨rfl, h2⟩
    go_wp2_with fail
    go_ret3
    exact ⟨rfl, (((More.refl _).alloc _).trans h1).trans h2⟩

end Go.Proofs.Ytollofgcijlofaa
