/-
  The document's own answers for Fit and Rounded under contract.
-/
import Derived.Test.YtiechakfjhifaaaDoorClassRef
namespace Go.Proofs.YtiechakfjhifaaaDoor
open Go.RowKit
set_option linter.unusedVariables false
set_option linter.unusedSimpArgs false

/-- The greater one. -/
def mx (x y : Int) : Int := if x < y then y else x
def badB (n a : Int) : Bool := decide (n < 0) || !powB a
def smallB (n a : Int) : Bool := decide (n ≤ 16) && decide (a ≤ 16)
def fitC (n a : Int) : Int := if badB n a then 0 else if smallB n a then mx (clsV n) (clsV a) else -1
def fitP (n a : Int) : Int := if badB n a then 0 else if smallB n a then 0 else pgsV (mx n 1)
def fitS (n a : Int) : Int := if badB n a then 0 else if smallB n a then 0 else mx 1 (a / 32)
def fitE (n a : Int) : Int := if badB n a then 2 else 0
def fitT (n a : Int) : Value := .tuple #[.int .i64 (fitC n a), .int .i64 (fitP n a), .int .i64 (fitS n a), .int .i64 (fitE n a)]
def roundV (n a : Int) : Int := if badB n a then 0 else sizeV (fitC n a) + 32 * fitP n a

theorem powB_b {a : Int} (h : powB a = true) : 1 ≤ a ∧ a ≤ 128 := by
  simp [powB] at h; omega
theorem fitP_b (n a : Int) (h : n ≤ 9223372036854775807) : 0 ≤ fitP n a ∧ fitP n a ≤ 288230376151711744 := by
  unfold fitP; split
  · omega
  · split
    · omega
    · have : mx n 1 ≤ 9223372036854775807 := by unfold mx; split <;> omega
      have := pgs_b this
      omega

theorem pgs_small {n : Int} (h : n ≤ 1048576) : 0 ≤ pgsV n ∧ pgsV n ≤ 32768 := by
  unfold pgsV; split <;> omega
theorem fitP_small (n a : Int) (h : n ≤ 1048576) : 0 ≤ fitP n a ∧ fitP n a ≤ 32768 := by
  unfold fitP; split
  · omega
  · split
    · omega
    · have : mx n 1 ≤ 1048576 := by unfold mx; split <;> omega
      exact pgs_small this

variable (w : World)

set_option maxHeartbeats 2000000 in
theorem r3fit (n a : Int) (h : n ≤ 9223372036854775807) : Calls Tryd.prog 19 #[.int .i64 n, .int .i64 a] w fun e w' => e = .returned (fitT n a) ∧ w' = w := by
  by_cases c0 : n < 0
  · have d0 : decide (n < 0) = true := by simp; omega
    rw [show fitT n a = .tuple #[.int .i64 0, .int .i64 0, .int .i64 0, .int .i64 2] by simp [fitT, fitC, fitP, fitS, fitE, badB, c0]]
    go_enter Tryd.func19, Tryd.ntmps19
    go_wp2_with fail
    refine bodyPost_ret (v := .tuple #[.int .i64 0, .int .i64 0, .int .i64 0, .int .i64 2]) (by simp [results, Tryd.results19, go_sem]) rfl ⟨rfl, rfl⟩
  · have d0 : decide (n < 0) = false := by simp; omega
    cases hp : powB a with
    | false =>
      rw [show fitT n a = .tuple #[.int .i64 0, .int .i64 0, .int .i64 0, .int .i64 2] by simp [fitT, fitC, fitP, fitS, fitE, badB, hp]]
      have HP := Lib.hid (fun W => r3power W a)
      rw [hp] at HP
      go_enter Tryd.func19, Tryd.ntmps19
      go_wp2_with fail
      refine (HP.out _).mono ?_
      rintro e w1 ⟨rfl, rfl⟩
      go_wp2_with fail
      refine bodyPost_ret (v := .tuple #[.int .i64 0, .int .i64 0, .int .i64 0, .int .i64 2]) (by simp [results, Tryd.results19, go_sem]) rfl ⟨rfl, rfl⟩
    | true =>
      have HP := Lib.hid (fun W => r3power W a)
      rw [hp] at HP
      have hb : badB n a = false := by simp [badB, hp]; omega
      by_cases c1 : n ≤ 16 ∧ a ≤ 16
      · have d1 : decide (n ≤ 16) = true := by simp; omega
        have d2 : decide (a ≤ 16) = true := by simp; omega
        rw [show fitT n a = .tuple #[.int .i64 (mx (clsV n) (clsV a)), .int .i64 0, .int .i64 0, .int .i64 0] by simp [fitT, fitC, fitP, fitS, fitE, hb, smallB, d1, d2]]
        go_enter Tryd.func19, Tryd.ntmps19
        go_wp2_with fail
        refine (HP.out _).mono ?_
        rintro e w1 ⟨rfl, rfl⟩
        go_wp2_with fail
        refine (r3of _ n).mono ?_
        rintro e w1 ⟨rfl, rfl⟩
        go_wp2_with fail
        refine (r3of _ a).mono ?_
        rintro e w1 ⟨rfl, rfl⟩
        go_wp2_with fail
        all_goals refine bodyPost_ret (v := .tuple #[.int .i64 (mx (clsV n) (clsV a)), .int .i64 0, .int .i64 0, .int .i64 0]) (by simp [results, Tryd.results19, go_sem, mx]; omega) rfl ⟨rfl, rfl⟩
      · have d12 : smallB n a = false := by simp [smallB]; omega
        have pb := powB_b hp
        have q0 : IntKind.i64.wrap (a.tdiv 32) = a / 32 := by rw [Int.tdiv_eq_ediv_of_nonneg (by omega)]; exact wrap_in (by omega) (by omega)
        rw [show fitT n a = .tuple #[.int .i64 (-1), .int .i64 (pgsV (mx n 1)), .int .i64 (mx 1 (a / 32)), .int .i64 0] by simp [fitT, fitC, fitP, fitS, fitE, hb, d12]]
        have HG : Hid (∀ W, Calls Tryd.prog 12 #[.int .i64 n] W fun e w' => e = .returned (.int .i64 (pgsV n)) ∧ w' = W) := fun W => r3pages W n h
        have HG1 : Hid (∀ W, Calls Tryd.prog 12 #[.int .i64 1] W fun e w' => e = .returned (.int .i64 (pgsV 1)) ∧ w' = W) := fun W => r3pages W 1 (by omega)
        by_cases c2 : n ≤ 16
        · have d1 : decide (n ≤ 16) = true := by simpa using c2
          have d2 : decide (a ≤ 16) = false := by simp; omega
          clear c1
          go_enter Tryd.func19, Tryd.ntmps19
          go_wp2_with fail
          refine (HP.out _).mono ?_
          rintro e w1 ⟨rfl, rfl⟩
          go_wp2_with fail
          all_goals first | (with_reducible refine Calls.mono (HG.out _) ?_; rintro e w1 ⟨rfl, rfl⟩) | (with_reducible refine Calls.mono (HG1.out _) ?_; rintro e w1 ⟨rfl, rfl⟩)
          all_goals go_wp2_with fail
          all_goals refine bodyPost_ret (v := .tuple #[.int .i64 (-1), .int .i64 (pgsV (mx n 1)), .int .i64 (mx 1 (a / 32)), .int .i64 0]) (by simp [results, Tryd.results19, go_sem]; unfold mx; (repeat' split) <;> first | (exfalso; omega) | simp | omega) rfl ⟨rfl, rfl⟩
        · have d1 : decide (n ≤ 16) = false := by simpa using c2
          clear c1
          go_enter Tryd.func19, Tryd.ntmps19
          go_wp2_with fail
          refine (HP.out _).mono ?_
          rintro e w1 ⟨rfl, rfl⟩
          go_wp2_with fail
          all_goals first | (with_reducible refine Calls.mono (HG.out _) ?_; rintro e w1 ⟨rfl, rfl⟩) | (with_reducible refine Calls.mono (HG1.out _) ?_; rintro e w1 ⟨rfl, rfl⟩)
          all_goals go_wp2_with fail
          all_goals refine bodyPost_ret (v := .tuple #[.int .i64 (-1), .int .i64 (pgsV (mx n 1)), .int .i64 (mx 1 (a / 32)), .int .i64 0]) (by simp [results, Tryd.results19, go_sem]; unfold mx; (repeat' split) <;> first | (exfalso; omega) | simp | omega) rfl ⟨rfl, rfl⟩

theorem r3rounded (n a : Int) (h : n ≤ 1048576) : Calls Tryd.prog 21 #[.int .i64 n, .int .i64 a] w fun e w' => e = .returned (.tuple #[.int .i64 (roundV n a), .int .i64 (fitE n a)]) ∧ w' = w := by
  cases hb : badB n a with
  | true =>
    have HF : Hid (∀ W, Calls Tryd.prog 19 #[.int .i64 n, .int .i64 a] W fun e w' => e = .returned (.tuple #[.int .i64 0, .int .i64 0, .int .i64 0, .int .i64 2]) ∧ w' = W) := fun W => by
      have := r3fit W n a (by omega)
      rwa [show fitT n a = .tuple #[.int .i64 0, .int .i64 0, .int .i64 0, .int .i64 2] by simp [fitT, fitC, fitP, fitS, fitE, hb]] at this
    rw [show roundV n a = 0 by simp [roundV, hb], show fitE n a = 2 by simp [fitE, hb]]
    go_enter Tryd.func21, Tryd.ntmps21
    go_wp2_with fail
    refine (HF.out _).mono ?_
    rintro e w1 ⟨rfl, rfl⟩
    go_wp2_with fail
    go_ret2
    exact ⟨rfl, rfl⟩
  | false =>
    have hE : fitE n a = 0 := by simp [fitE, hb]
    have b1 := size_b' (fitC n a)
    have b2 := fitP_small n a h
    have HF : Hid (∀ W, Calls Tryd.prog 19 #[.int .i64 n, .int .i64 a] W fun e w' => e = .returned (.tuple #[.int .i64 (fitC n a), .int .i64 (fitP n a), .int .i64 (fitS n a), .int .i64 0]) ∧ w' = W) := fun W => by
      have := r3fit W n a (by omega)
      unfold fitT at this
      rwa [hE] at this
    rw [show roundV n a = sizeV (fitC n a) + 32 * fitP n a by simp [roundV, hb], hE]
    have q0 : IntKind.i64.wrap (32 * fitP n a) = 32 * fitP n a := wrap_in (by omega) (by omega)
    have q1 : IntKind.i64.wrap (sizeV (fitC n a) + 32 * fitP n a) = sizeV (fitC n a) + 32 * fitP n a := wrap_in (by omega) (by omega)
    clear hE
    go_enter Tryd.func21, Tryd.ntmps21
    go_wp2_with fail
    refine (HF.out _).mono ?_
    rintro e w1 ⟨rfl, rfl⟩
    go_wp2_with fail
    refine (r3size _ _).mono ?_
    rintro e w1 ⟨rfl, rfl⟩
    go_wp2_with fail
    go_ret2
    exact ⟨rfl, rfl⟩

end Go.Proofs.YtiechakfjhifaaaDoor
