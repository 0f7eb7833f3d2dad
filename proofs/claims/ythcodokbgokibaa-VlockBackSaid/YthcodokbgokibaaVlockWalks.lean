/-
  The walks of layer 5's laws.
-/
import Derived.Test.YthcodokbgokibaaVlock
namespace Go.Proofs.Ythcodokbgokibaa
open Go.RowKit
set_option linter.unusedVariables false
set_option linter.unusedSimpArgs false

theorem wf_lo {x : Int} (h : (Lit.int .i64 x).wf = true) : -9223372036854775808 ≤ x := by
  simp only [Lit.wf, Bool.and_eq_true, decide_eq_true_eq] at h
  have e : IntKind.i64.min = -9223372036854775808 := by decide
  omega
theorem wf_hi {x : Int} (h : (Lit.int .i64 x).wf = true) : x ≤ 9223372036854775807 := by
  simp only [Lit.wf, Bool.and_eq_true, decide_eq_true_eq] at h
  have e : IntKind.i64.max = 9223372036854775807 := by decide
  omega

theorem lives_true (W : World) : Calls Try.prog 11 #[] W fun e w' => e = .returned (.bool true) ∧ w' = W := by
  have H1 : Hid (∀ W, Calls Try.prog 7 #[.int .i64 3] W fun e w' => e = .returned (.int .i64 6) ∧ w' = W) := fun W => by
    have := v_free 3 W; rwa [show freeV 3 = 6 by decide] at this
  have H2 : Hid (∀ W, Calls Try.prog 9 #[.int .i64 3] W fun e w' => e = .returned (.int .i64 7) ∧ w' = W) := fun W => by
    have := v_held 3 W; rwa [show heldV 3 = 7 by decide] at this
  have H3 : Hid (∀ W, Calls Try.prog 16 #[.int .i64 6, .int .i64 3] W fun e w' => e = .returned (.bool true) ∧ w' = W) := fun W => by
    have := v_fresh 6 3 (by omega) (by omega) W; rwa [show freshB 6 3 = true by decide] at this
  have H4 : Hid (∀ W, Calls Try.prog 16 #[.int .i64 6, .int .i64 2] W fun e w' => e = .returned (.bool false) ∧ w' = W) := fun W => by
    have := v_fresh 6 2 (by omega) (by omega) W; rwa [show freshB 6 2 = false by decide] at this
  have H5 : Hid (∀ W, Calls Try.prog 16 #[.int .i64 7, .int .i64 9] W fun e w' => e = .returned (.bool false) ∧ w' = W) := fun W => by
    have := v_fresh 7 9 (by omega) (by omega) W; rwa [show freshB 7 9 = false by decide] at this
  go_enter Try.func11, Try.ntmps11
  go_wp2_with fail
  refine (H1.out _).mono ?_
  rintro e w' ⟨rfl, rfl⟩
  go_wp2_with fail
  refine (H2.out _).mono ?_
  rintro e w' ⟨rfl, rfl⟩
  go_wp2_with fail
  refine (H3.out _).mono ?_
  rintro e w' ⟨rfl, rfl⟩
  go_wp2_with fail
  refine (H4.out _).mono ?_
  rintro e w' ⟨rfl, rfl⟩
  go_wp2_with fail
  refine (H5.out _).mono ?_
  rintro e w' ⟨rfl, rfl⟩
  go_wp2_with fail
  go_ret
  exact ⟨rfl, rfl⟩

theorem words_core (v o : Int) (W : World) : Calls Try.prog 3 #[.int .i64 v, .int .i64 o] W fun e w' => e = .returned (.bool true) ∧ w' = W := by
  go_enter Try.func3, Try.ntmps3
  go_wp2_with fail
  refine (v_free v _).mono ?_
  rintro e w' ⟨rfl, rfl⟩
  go_wp2_with fail
  refine (r_free v _).mono ?_
  rintro e w' ⟨rfl, rfl⟩
  go_wp2_with fail
  refine (v_held o _).mono ?_
  rintro e w' ⟨rfl, rfl⟩
  go_wp2_with fail
  refine (r_held o _).mono ?_
  rintro e w' ⟨rfl, rfl⟩
  go_wp2_with fail
  refine (lives_true _).mono ?_
  rintro e w' ⟨rfl, rfl⟩
  go_wp2_with fail
  go_ret
  exact ⟨rfl, rfl⟩

theorem reads_core (w l : Int) (w0 : -9223372036854775808 ≤ w) (w1 : w ≤ 9223372036854775807) (W : World) : Calls Try.prog 4 #[.int .i64 w, .int .i64 l] W fun e w' => e = .returned (.bool true) ∧ w' = W := by
  go_enter Try.func4, Try.ntmps4
  go_wp2_with fail
  refine (v_version w w0 w1 _).mono ?_
  rintro e w' ⟨rfl, rfl⟩
  go_wp2_with fail
  refine (r_version w w0 w1 _).mono ?_
  rintro e w' ⟨rfl, rfl⟩
  go_wp2_with fail
  refine (v_owner w w0 w1 _).mono ?_
  rintro e w' ⟨rfl, rfl⟩
  go_wp2_with fail
  refine (r_owner w w0 w1 _).mono ?_
  rintro e w' ⟨rfl, rfl⟩
  go_wp2_with fail
  refine (v_fresh w l w0 w1 _).mono ?_
  rintro e w' ⟨rfl, rfl⟩
  go_wp2_with fail
  refine (r_fresh w l w0 w1 _).mono ?_
  rintro e w' ⟨rfl, rfl⟩
  go_wp2_with fail
  refine (lives_true _).mono ?_
  rintro e w' ⟨rfl, rfl⟩
  go_wp2_with fail
  go_ret
  exact ⟨rfl, rfl⟩

theorem free_wide (n : Int) : -1 ≤ freeV n ∧ freeV n ≤ 2199023255552 := by unfold freeV; split <;> omega
theorem held_wide (n : Int) : -1 ≤ heldV n ∧ heldV n ≤ 127 := by unfold heldV; split <;> omega
theorem ver_iff (w : Int) : verB w = true ↔ (0 ≤ w ∧ w % 2 = 0 ∧ w ≤ 2199023255552) := by simp [verB]
theorem own_iff (w : Int) : ownB w = true ↔ (0 ≤ w ∧ w % 2 = 1 ∧ w ≤ 127) := by simp [ownB]
theorem ver_none {w : Int} (h : verB w = false) : verV w = 0 := by unfold verV; rw [h]; rfl
theorem own_none {w : Int} (h : ownB w = false) : ownV w = 0 := by unfold ownV; rw [h]; rfl
theorem ver_back {w : Int} (h : verB w = true) : freeV (verV w) = w := by
  have g := (ver_iff w).1 h
  unfold verV; rw [if_pos h]; unfold freeV; rw [if_neg (by omega)]; omega
theorem own_back {w : Int} (h : ownB w = true) : heldV (ownV w) = w := by
  have g := (own_iff w).1 h
  unfold ownV; rw [if_pos h]; unfold heldV; rw [if_neg (by omega)]; omega
theorem ver_not_own {w : Int} (h : verB w = true) : ownB w = false := by
  have g := (ver_iff w).1 h
  cases k : ownB w with
  | false => rfl
  | true => have := (own_iff w).1 k; omega
theorem free_has (n : Int) : (verB (freeV n) = true ∧ verV (freeV n) = n ∧ freeV n = 2 * n) ∨ (verB (freeV n) = false ∧ freeV n = -1) := by
  by_cases c : n < 0 ∨ 1099511627776 < n
  · have e : freeV n = -1 := if_pos c
    exact Or.inr ⟨by rw [e]; decide, e⟩
  · have e : freeV n = 2 * n := if_neg c
    have k : verB (2 * n) = true := (ver_iff _).2 (by omega)
    exact Or.inl ⟨by rw [e]; exact k, by rw [e]; unfold verV; rw [if_pos k]; omega, e⟩
theorem held_has (n : Int) : (ownB (heldV n) = true ∧ ownV (heldV n) = n) ∨ (ownB (heldV n) = false ∧ heldV n = -1) := by
  by_cases c : n < 0 ∨ 63 < n
  · have e : heldV n = -1 := if_pos c
    exact Or.inr ⟨by rw [e]; decide, e⟩
  · have e : heldV n = 2 * n + 1 := if_neg c
    have k : ownB (2 * n + 1) = true := (own_iff _).2 (by omega)
    exact Or.inl ⟨by rw [e]; exact k, by rw [e]; unfold ownV; rw [if_pos k]; omega⟩
theorem fresh_not {w : Int} (l : Int) (h : verB w = false) : freshB w l = false := by unfold freshB; rw [h]; rfl
theorem fresh_more {w l m : Int} (h : freshB w l = true) (hm : l ≤ m) : freshB w m = true := by
  unfold freshB at *; simp only [Bool.and_eq_true, decide_eq_true_eq] at *; exact ⟨h.1, by omega⟩

theorem back_core (n w : Int) (w0 : -9223372036854775808 ≤ w) (w1 : w ≤ 9223372036854775807) (W : World) : Calls Try.prog 5 #[.int .i64 n, .int .i64 w] W fun e w' => e = .returned (.bool true) ∧ w' = W := by
  have fw := free_wide n
  have hw := held_wide n
  cases hv : verB w with
  | true =>
    have ho := ver_not_own hv
    have HV : Hid (∀ W, Calls Try.prog 12 #[.int .i64 w] W fun e w' => e = .returned (.tuple #[.int .i64 (verV w), .bool true]) ∧ w' = W) := fun W => by
      have := v_version w w0 w1 W; rwa [hv] at this
    have HO : Hid (∀ W, Calls Try.prog 14 #[.int .i64 w] W fun e w' => e = .returned (.tuple #[.int .i64 0, .bool false]) ∧ w' = W) := fun W => by
      have := v_owner w w0 w1 W; rwa [ho, own_none ho] at this
    have HF : Hid (∀ W, Calls Try.prog 7 #[.int .i64 (verV w)] W fun e w' => e = .returned (.int .i64 w) ∧ w' = W) := fun W => by
      have := v_free (verV w) W; rwa [ver_back hv] at this
    clear hv ho
    rcases free_has n with ⟨h1, h2, h3⟩ | ⟨h1, h2⟩
    · have HX : Hid (∀ W, Calls Try.prog 12 #[.int .i64 (freeV n)] W fun e w' => e = .returned (.tuple #[.int .i64 n, .bool true]) ∧ w' = W) := fun W => by
        have := v_version (freeV n) (by omega) (by omega) W; rwa [h1, h2] at this
      clear h1 h2 h3
      rcases held_has n with ⟨h1, h2⟩ | ⟨h1, h2⟩
      · have HY : Hid (∀ W, Calls Try.prog 14 #[.int .i64 (heldV n)] W fun e w' => e = .returned (.tuple #[.int .i64 n, .bool true]) ∧ w' = W) := fun W => by
          have := v_owner (heldV n) (by omega) (by omega) W; rwa [h1, h2] at this
        clear h1 h2
        clear fw hw
        go_enter Try.func5, Try.ntmps5
        go_wp2_with fail
        refine (HV.out _).mono ?_
        rintro e w' ⟨rfl, rfl⟩
        go_wp2_with fail
        refine (HO.out _).mono ?_
        rintro e w' ⟨rfl, rfl⟩
        go_wp2_with fail
        refine (HF.out _).mono ?_
        rintro e w' ⟨rfl, rfl⟩
        go_wp2_with fail
        refine (v_free n _).mono ?_
        rintro e w' ⟨rfl, rfl⟩
        go_wp2_with fail
        refine (v_held n _).mono ?_
        rintro e w' ⟨rfl, rfl⟩
        go_wp2_with fail
        refine (HX.out _).mono ?_
        rintro e w' ⟨rfl, rfl⟩
        go_wp2_with fail
        refine (HY.out _).mono ?_
        rintro e w' ⟨rfl, rfl⟩
        go_wp2_with fail
        refine (lives_true _).mono ?_
        rintro e w' ⟨rfl, rfl⟩
        go_wp2_with fail
        go_ret
        exact ⟨rfl, rfl⟩
      · have HY : Hid (∀ W, Calls Try.prog 14 #[.int .i64 (heldV n)] W fun e w' => e = .returned (.tuple #[.int .i64 0, .bool false]) ∧ w' = W) := fun W => by
          have := v_owner (heldV n) (by omega) (by omega) W; rwa [h1, own_none h1] at this
        have d2 : (heldV n == -1) = true := by rw [h2]; rfl
        clear h1 h2
        clear fw hw
        go_enter Try.func5, Try.ntmps5
        go_wp2_with fail
        refine (HV.out _).mono ?_
        rintro e w' ⟨rfl, rfl⟩
        go_wp2_with fail
        refine (HO.out _).mono ?_
        rintro e w' ⟨rfl, rfl⟩
        go_wp2_with fail
        refine (HF.out _).mono ?_
        rintro e w' ⟨rfl, rfl⟩
        go_wp2_with fail
        refine (v_free n _).mono ?_
        rintro e w' ⟨rfl, rfl⟩
        go_wp2_with fail
        refine (v_held n _).mono ?_
        rintro e w' ⟨rfl, rfl⟩
        go_wp2_with fail
        refine (HX.out _).mono ?_
        rintro e w' ⟨rfl, rfl⟩
        go_wp2_with fail
        refine (HY.out _).mono ?_
        rintro e w' ⟨rfl, rfl⟩
        go_wp2_with fail
        refine (lives_true _).mono ?_
        rintro e w' ⟨rfl, rfl⟩
        go_wp2_with fail
        go_ret
        exact ⟨rfl, rfl⟩
    · have HX : Hid (∀ W, Calls Try.prog 12 #[.int .i64 (freeV n)] W fun e w' => e = .returned (.tuple #[.int .i64 0, .bool false]) ∧ w' = W) := fun W => by
        have := v_version (freeV n) (by omega) (by omega) W; rwa [h1, ver_none h1] at this
      have d1 : (freeV n == -1) = true := by rw [h2]; rfl
      clear h1 h2
      rcases held_has n with ⟨h1, h2⟩ | ⟨h1, h2⟩
      · have HY : Hid (∀ W, Calls Try.prog 14 #[.int .i64 (heldV n)] W fun e w' => e = .returned (.tuple #[.int .i64 n, .bool true]) ∧ w' = W) := fun W => by
          have := v_owner (heldV n) (by omega) (by omega) W; rwa [h1, h2] at this
        clear h1 h2
        clear fw hw
        go_enter Try.func5, Try.ntmps5
        go_wp2_with fail
        refine (HV.out _).mono ?_
        rintro e w' ⟨rfl, rfl⟩
        go_wp2_with fail
        refine (HO.out _).mono ?_
        rintro e w' ⟨rfl, rfl⟩
        go_wp2_with fail
        refine (HF.out _).mono ?_
        rintro e w' ⟨rfl, rfl⟩
        go_wp2_with fail
        refine (v_free n _).mono ?_
        rintro e w' ⟨rfl, rfl⟩
        go_wp2_with fail
        refine (v_held n _).mono ?_
        rintro e w' ⟨rfl, rfl⟩
        go_wp2_with fail
        refine (HX.out _).mono ?_
        rintro e w' ⟨rfl, rfl⟩
        go_wp2_with fail
        refine (HY.out _).mono ?_
        rintro e w' ⟨rfl, rfl⟩
        go_wp2_with fail
        refine (lives_true _).mono ?_
        rintro e w' ⟨rfl, rfl⟩
        go_wp2_with fail
        go_ret
        exact ⟨rfl, rfl⟩
      · have HY : Hid (∀ W, Calls Try.prog 14 #[.int .i64 (heldV n)] W fun e w' => e = .returned (.tuple #[.int .i64 0, .bool false]) ∧ w' = W) := fun W => by
          have := v_owner (heldV n) (by omega) (by omega) W; rwa [h1, own_none h1] at this
        have d2 : (heldV n == -1) = true := by rw [h2]; rfl
        clear h1 h2
        clear fw hw
        go_enter Try.func5, Try.ntmps5
        go_wp2_with fail
        refine (HV.out _).mono ?_
        rintro e w' ⟨rfl, rfl⟩
        go_wp2_with fail
        refine (HO.out _).mono ?_
        rintro e w' ⟨rfl, rfl⟩
        go_wp2_with fail
        refine (HF.out _).mono ?_
        rintro e w' ⟨rfl, rfl⟩
        go_wp2_with fail
        refine (v_free n _).mono ?_
        rintro e w' ⟨rfl, rfl⟩
        go_wp2_with fail
        refine (v_held n _).mono ?_
        rintro e w' ⟨rfl, rfl⟩
        go_wp2_with fail
        refine (HX.out _).mono ?_
        rintro e w' ⟨rfl, rfl⟩
        go_wp2_with fail
        refine (HY.out _).mono ?_
        rintro e w' ⟨rfl, rfl⟩
        go_wp2_with fail
        refine (lives_true _).mono ?_
        rintro e w' ⟨rfl, rfl⟩
        go_wp2_with fail
        go_ret
        exact ⟨rfl, rfl⟩
  | false =>
    have HV : Hid (∀ W, Calls Try.prog 12 #[.int .i64 w] W fun e w' => e = .returned (.tuple #[.int .i64 0, .bool false]) ∧ w' = W) := fun W => by
      have := v_version w w0 w1 W; rwa [hv, ver_none hv] at this
    cases ho : ownB w with
    | true =>
      have HO : Hid (∀ W, Calls Try.prog 14 #[.int .i64 w] W fun e w' => e = .returned (.tuple #[.int .i64 (ownV w), .bool true]) ∧ w' = W) := fun W => by
        have := v_owner w w0 w1 W; rwa [ho] at this
      have HF : Hid (∀ W, Calls Try.prog 9 #[.int .i64 (ownV w)] W fun e w' => e = .returned (.int .i64 w) ∧ w' = W) := fun W => by
        have := v_held (ownV w) W; rwa [own_back ho] at this
      clear hv ho
      rcases free_has n with ⟨h1, h2, h3⟩ | ⟨h1, h2⟩
      · have HX : Hid (∀ W, Calls Try.prog 12 #[.int .i64 (freeV n)] W fun e w' => e = .returned (.tuple #[.int .i64 n, .bool true]) ∧ w' = W) := fun W => by
          have := v_version (freeV n) (by omega) (by omega) W; rwa [h1, h2] at this
        clear h1 h2 h3
        rcases held_has n with ⟨h1, h2⟩ | ⟨h1, h2⟩
        · have HY : Hid (∀ W, Calls Try.prog 14 #[.int .i64 (heldV n)] W fun e w' => e = .returned (.tuple #[.int .i64 n, .bool true]) ∧ w' = W) := fun W => by
            have := v_owner (heldV n) (by omega) (by omega) W; rwa [h1, h2] at this
          clear h1 h2
          clear fw hw
          go_enter Try.func5, Try.ntmps5
          go_wp2_with fail
          refine (HV.out _).mono ?_
          rintro e w' ⟨rfl, rfl⟩
          go_wp2_with fail
          refine (HO.out _).mono ?_
          rintro e w' ⟨rfl, rfl⟩
          go_wp2_with fail
          refine (HF.out _).mono ?_
          rintro e w' ⟨rfl, rfl⟩
          go_wp2_with fail
          refine (v_free n _).mono ?_
          rintro e w' ⟨rfl, rfl⟩
          go_wp2_with fail
          refine (v_held n _).mono ?_
          rintro e w' ⟨rfl, rfl⟩
          go_wp2_with fail
          refine (HX.out _).mono ?_
          rintro e w' ⟨rfl, rfl⟩
          go_wp2_with fail
          refine (HY.out _).mono ?_
          rintro e w' ⟨rfl, rfl⟩
          go_wp2_with fail
          refine (lives_true _).mono ?_
          rintro e w' ⟨rfl, rfl⟩
          go_wp2_with fail
          go_ret
          exact ⟨rfl, rfl⟩
        · have HY : Hid (∀ W, Calls Try.prog 14 #[.int .i64 (heldV n)] W fun e w' => e = .returned (.tuple #[.int .i64 0, .bool false]) ∧ w' = W) := fun W => by
            have := v_owner (heldV n) (by omega) (by omega) W; rwa [h1, own_none h1] at this
          have d2 : (heldV n == -1) = true := by rw [h2]; rfl
          clear h1 h2
          clear fw hw
          go_enter Try.func5, Try.ntmps5
          go_wp2_with fail
          refine (HV.out _).mono ?_
          rintro e w' ⟨rfl, rfl⟩
          go_wp2_with fail
          refine (HO.out _).mono ?_
          rintro e w' ⟨rfl, rfl⟩
          go_wp2_with fail
          refine (HF.out _).mono ?_
          rintro e w' ⟨rfl, rfl⟩
          go_wp2_with fail
          refine (v_free n _).mono ?_
          rintro e w' ⟨rfl, rfl⟩
          go_wp2_with fail
          refine (v_held n _).mono ?_
          rintro e w' ⟨rfl, rfl⟩
          go_wp2_with fail
          refine (HX.out _).mono ?_
          rintro e w' ⟨rfl, rfl⟩
          go_wp2_with fail
          refine (HY.out _).mono ?_
          rintro e w' ⟨rfl, rfl⟩
          go_wp2_with fail
          refine (lives_true _).mono ?_
          rintro e w' ⟨rfl, rfl⟩
          go_wp2_with fail
          go_ret
          exact ⟨rfl, rfl⟩
      · have HX : Hid (∀ W, Calls Try.prog 12 #[.int .i64 (freeV n)] W fun e w' => e = .returned (.tuple #[.int .i64 0, .bool false]) ∧ w' = W) := fun W => by
          have := v_version (freeV n) (by omega) (by omega) W; rwa [h1, ver_none h1] at this
        have d1 : (freeV n == -1) = true := by rw [h2]; rfl
        clear h1 h2
        rcases held_has n with ⟨h1, h2⟩ | ⟨h1, h2⟩
        · have HY : Hid (∀ W, Calls Try.prog 14 #[.int .i64 (heldV n)] W fun e w' => e = .returned (.tuple #[.int .i64 n, .bool true]) ∧ w' = W) := fun W => by
            have := v_owner (heldV n) (by omega) (by omega) W; rwa [h1, h2] at this
          clear h1 h2
          clear fw hw
          go_enter Try.func5, Try.ntmps5
          go_wp2_with fail
          refine (HV.out _).mono ?_
          rintro e w' ⟨rfl, rfl⟩
          go_wp2_with fail
          refine (HO.out _).mono ?_
          rintro e w' ⟨rfl, rfl⟩
          go_wp2_with fail
          refine (HF.out _).mono ?_
          rintro e w' ⟨rfl, rfl⟩
          go_wp2_with fail
          refine (v_free n _).mono ?_
          rintro e w' ⟨rfl, rfl⟩
          go_wp2_with fail
          refine (v_held n _).mono ?_
          rintro e w' ⟨rfl, rfl⟩
          go_wp2_with fail
          refine (HX.out _).mono ?_
          rintro e w' ⟨rfl, rfl⟩
          go_wp2_with fail
          refine (HY.out _).mono ?_
          rintro e w' ⟨rfl, rfl⟩
          go_wp2_with fail
          refine (lives_true _).mono ?_
          rintro e w' ⟨rfl, rfl⟩
          go_wp2_with fail
          go_ret
          exact ⟨rfl, rfl⟩
        · have HY : Hid (∀ W, Calls Try.prog 14 #[.int .i64 (heldV n)] W fun e w' => e = .returned (.tuple #[.int .i64 0, .bool false]) ∧ w' = W) := fun W => by
            have := v_owner (heldV n) (by omega) (by omega) W; rwa [h1, own_none h1] at this
          have d2 : (heldV n == -1) = true := by rw [h2]; rfl
          clear h1 h2
          clear fw hw
          go_enter Try.func5, Try.ntmps5
          go_wp2_with fail
          refine (HV.out _).mono ?_
          rintro e w' ⟨rfl, rfl⟩
          go_wp2_with fail
          refine (HO.out _).mono ?_
          rintro e w' ⟨rfl, rfl⟩
          go_wp2_with fail
          refine (HF.out _).mono ?_
          rintro e w' ⟨rfl, rfl⟩
          go_wp2_with fail
          refine (v_free n _).mono ?_
          rintro e w' ⟨rfl, rfl⟩
          go_wp2_with fail
          refine (v_held n _).mono ?_
          rintro e w' ⟨rfl, rfl⟩
          go_wp2_with fail
          refine (HX.out _).mono ?_
          rintro e w' ⟨rfl, rfl⟩
          go_wp2_with fail
          refine (HY.out _).mono ?_
          rintro e w' ⟨rfl, rfl⟩
          go_wp2_with fail
          refine (lives_true _).mono ?_
          rintro e w' ⟨rfl, rfl⟩
          go_wp2_with fail
          go_ret
          exact ⟨rfl, rfl⟩
    | false =>
      have HO : Hid (∀ W, Calls Try.prog 14 #[.int .i64 w] W fun e w' => e = .returned (.tuple #[.int .i64 0, .bool false]) ∧ w' = W) := fun W => by
        have := v_owner w w0 w1 W; rwa [ho, own_none ho] at this
      clear hv ho
      rcases free_has n with ⟨h1, h2, h3⟩ | ⟨h1, h2⟩
      · have HX : Hid (∀ W, Calls Try.prog 12 #[.int .i64 (freeV n)] W fun e w' => e = .returned (.tuple #[.int .i64 n, .bool true]) ∧ w' = W) := fun W => by
          have := v_version (freeV n) (by omega) (by omega) W; rwa [h1, h2] at this
        clear h1 h2 h3
        rcases held_has n with ⟨h1, h2⟩ | ⟨h1, h2⟩
        · have HY : Hid (∀ W, Calls Try.prog 14 #[.int .i64 (heldV n)] W fun e w' => e = .returned (.tuple #[.int .i64 n, .bool true]) ∧ w' = W) := fun W => by
            have := v_owner (heldV n) (by omega) (by omega) W; rwa [h1, h2] at this
          clear h1 h2
          clear fw hw
          go_enter Try.func5, Try.ntmps5
          go_wp2_with fail
          refine (HV.out _).mono ?_
          rintro e w' ⟨rfl, rfl⟩
          go_wp2_with fail
          refine (HO.out _).mono ?_
          rintro e w' ⟨rfl, rfl⟩
          go_wp2_with fail
          refine (v_free n _).mono ?_
          rintro e w' ⟨rfl, rfl⟩
          go_wp2_with fail
          refine (v_held n _).mono ?_
          rintro e w' ⟨rfl, rfl⟩
          go_wp2_with fail
          refine (HX.out _).mono ?_
          rintro e w' ⟨rfl, rfl⟩
          go_wp2_with fail
          refine (HY.out _).mono ?_
          rintro e w' ⟨rfl, rfl⟩
          go_wp2_with fail
          refine (lives_true _).mono ?_
          rintro e w' ⟨rfl, rfl⟩
          go_wp2_with fail
          go_ret
          exact ⟨rfl, rfl⟩
        · have HY : Hid (∀ W, Calls Try.prog 14 #[.int .i64 (heldV n)] W fun e w' => e = .returned (.tuple #[.int .i64 0, .bool false]) ∧ w' = W) := fun W => by
            have := v_owner (heldV n) (by omega) (by omega) W; rwa [h1, own_none h1] at this
          have d2 : (heldV n == -1) = true := by rw [h2]; rfl
          clear h1 h2
          clear fw hw
          go_enter Try.func5, Try.ntmps5
          go_wp2_with fail
          refine (HV.out _).mono ?_
          rintro e w' ⟨rfl, rfl⟩
          go_wp2_with fail
          refine (HO.out _).mono ?_
          rintro e w' ⟨rfl, rfl⟩
          go_wp2_with fail
          refine (v_free n _).mono ?_
          rintro e w' ⟨rfl, rfl⟩
          go_wp2_with fail
          refine (v_held n _).mono ?_
          rintro e w' ⟨rfl, rfl⟩
          go_wp2_with fail
          refine (HX.out _).mono ?_
          rintro e w' ⟨rfl, rfl⟩
          go_wp2_with fail
          refine (HY.out _).mono ?_
          rintro e w' ⟨rfl, rfl⟩
          go_wp2_with fail
          refine (lives_true _).mono ?_
          rintro e w' ⟨rfl, rfl⟩
          go_wp2_with fail
          go_ret
          exact ⟨rfl, rfl⟩
      · have HX : Hid (∀ W, Calls Try.prog 12 #[.int .i64 (freeV n)] W fun e w' => e = .returned (.tuple #[.int .i64 0, .bool false]) ∧ w' = W) := fun W => by
          have := v_version (freeV n) (by omega) (by omega) W; rwa [h1, ver_none h1] at this
        have d1 : (freeV n == -1) = true := by rw [h2]; rfl
        clear h1 h2
        rcases held_has n with ⟨h1, h2⟩ | ⟨h1, h2⟩
        · have HY : Hid (∀ W, Calls Try.prog 14 #[.int .i64 (heldV n)] W fun e w' => e = .returned (.tuple #[.int .i64 n, .bool true]) ∧ w' = W) := fun W => by
            have := v_owner (heldV n) (by omega) (by omega) W; rwa [h1, h2] at this
          clear h1 h2
          clear fw hw
          go_enter Try.func5, Try.ntmps5
          go_wp2_with fail
          refine (HV.out _).mono ?_
          rintro e w' ⟨rfl, rfl⟩
          go_wp2_with fail
          refine (HO.out _).mono ?_
          rintro e w' ⟨rfl, rfl⟩
          go_wp2_with fail
          refine (v_free n _).mono ?_
          rintro e w' ⟨rfl, rfl⟩
          go_wp2_with fail
          refine (v_held n _).mono ?_
          rintro e w' ⟨rfl, rfl⟩
          go_wp2_with fail
          refine (HX.out _).mono ?_
          rintro e w' ⟨rfl, rfl⟩
          go_wp2_with fail
          refine (HY.out _).mono ?_
          rintro e w' ⟨rfl, rfl⟩
          go_wp2_with fail
          refine (lives_true _).mono ?_
          rintro e w' ⟨rfl, rfl⟩
          go_wp2_with fail
          go_ret
          exact ⟨rfl, rfl⟩
        · have HY : Hid (∀ W, Calls Try.prog 14 #[.int .i64 (heldV n)] W fun e w' => e = .returned (.tuple #[.int .i64 0, .bool false]) ∧ w' = W) := fun W => by
            have := v_owner (heldV n) (by omega) (by omega) W; rwa [h1, own_none h1] at this
          have d2 : (heldV n == -1) = true := by rw [h2]; rfl
          clear h1 h2
          clear fw hw
          go_enter Try.func5, Try.ntmps5
          go_wp2_with fail
          refine (HV.out _).mono ?_
          rintro e w' ⟨rfl, rfl⟩
          go_wp2_with fail
          refine (HO.out _).mono ?_
          rintro e w' ⟨rfl, rfl⟩
          go_wp2_with fail
          refine (v_free n _).mono ?_
          rintro e w' ⟨rfl, rfl⟩
          go_wp2_with fail
          refine (v_held n _).mono ?_
          rintro e w' ⟨rfl, rfl⟩
          go_wp2_with fail
          refine (HX.out _).mono ?_
          rintro e w' ⟨rfl, rfl⟩
          go_wp2_with fail
          refine (HY.out _).mono ?_
          rintro e w' ⟨rfl, rfl⟩
          go_wp2_with fail
          refine (lives_true _).mono ?_
          rintro e w' ⟨rfl, rfl⟩
          go_wp2_with fail
          go_ret
          exact ⟨rfl, rfl⟩

theorem rising_core (n m w l k : Int) (w0 : -9223372036854775808 ≤ w) (w1 : w ≤ 9223372036854775807) (W : World) : Calls Try.prog 6 #[.int .i64 n, .int .i64 m, .int .i64 w, .int .i64 l, .int .i64 k] W fun e w' => e = .returned (.bool true) ∧ w' = W := by
  have hn := free_has n
  have hm := free_has m
  by_cases a : freeV n = -1
  · have da : (freeV n != -1) = false := by simpa using a
    clear a hn hm
    cases ho : ownB w with
    | true =>
      have hv : verB w = false := by cases q : verB w with | false => rfl | true => exact absurd (ver_not_own q) (by rw [ho]; simp)
      have HO : Hid (∀ W, Calls Try.prog 14 #[.int .i64 w] W fun e w' => e = .returned (.tuple #[.int .i64 (ownV w), .bool true]) ∧ w' = W) := fun W => by
        have := v_owner w w0 w1 W; rwa [ho] at this
      have HF : Hid (∀ W, Calls Try.prog 16 #[.int .i64 w, .int .i64 l] W fun e w' => e = .returned (.bool false) ∧ w' = W) := fun W => by
        have := v_fresh w l w0 w1 W; rwa [fresh_not l hv] at this
      clear ho hv
      by_cases c : l ≤ k
      · have d0 : decide (l ≤ k) = true := by simpa using c
        clear c
        go_enter Try.func6, Try.ntmps6
        go_wp2_with fail
        refine (v_free n _).mono ?_
        rintro e w' ⟨rfl, rfl⟩
        go_wp2_with fail
        refine (v_free m _).mono ?_
        rintro e w' ⟨rfl, rfl⟩
        go_wp2_with fail
        refine (HO.out _).mono ?_
        rintro e w' ⟨rfl, rfl⟩
        go_wp2_with fail
        refine (HF.out _).mono ?_
        rintro e w' ⟨rfl, rfl⟩
        go_wp2_with fail
        refine (HF.out _).mono ?_
        rintro e w' ⟨rfl, rfl⟩
        go_wp2_with fail
        refine (lives_true _).mono ?_
        rintro e w' ⟨rfl, rfl⟩
        go_wp2_with fail
        go_ret
        exact ⟨rfl, rfl⟩
      · have d0 : decide (l ≤ k) = false := by simpa using c
        clear c
        go_enter Try.func6, Try.ntmps6
        go_wp2_with fail
        refine (v_free n _).mono ?_
        rintro e w' ⟨rfl, rfl⟩
        go_wp2_with fail
        refine (v_free m _).mono ?_
        rintro e w' ⟨rfl, rfl⟩
        go_wp2_with fail
        refine (HO.out _).mono ?_
        rintro e w' ⟨rfl, rfl⟩
        go_wp2_with fail
        refine (HF.out _).mono ?_
        rintro e w' ⟨rfl, rfl⟩
        go_wp2_with fail
        refine (lives_true _).mono ?_
        rintro e w' ⟨rfl, rfl⟩
        go_wp2_with fail
        go_ret
        exact ⟨rfl, rfl⟩
    | false =>
      have HO : Hid (∀ W, Calls Try.prog 14 #[.int .i64 w] W fun e w' => e = .returned (.tuple #[.int .i64 0, .bool false]) ∧ w' = W) := fun W => by
        have := v_owner w w0 w1 W; rwa [ho, own_none ho] at this
      clear ho
      by_cases c : l ≤ k
      · have d0 : decide (l ≤ k) = true := by simpa using c
        cases hf : freshB w l with
        | true =>
          have HF : Hid (∀ W, Calls Try.prog 16 #[.int .i64 w, .int .i64 l] W fun e w' => e = .returned (.bool true) ∧ w' = W) := fun W => by
            have := v_fresh w l w0 w1 W; rwa [hf] at this
          have HG : Hid (∀ W, Calls Try.prog 16 #[.int .i64 w, .int .i64 k] W fun e w' => e = .returned (.bool true) ∧ w' = W) := fun W => by
            have := v_fresh w k w0 w1 W; rwa [fresh_more hf c] at this
          clear hf c
          go_enter Try.func6, Try.ntmps6
          go_wp2_with fail
          refine (v_free n _).mono ?_
          rintro e w' ⟨rfl, rfl⟩
          go_wp2_with fail
          refine (v_free m _).mono ?_
          rintro e w' ⟨rfl, rfl⟩
          go_wp2_with fail
          refine (HO.out _).mono ?_
          rintro e w' ⟨rfl, rfl⟩
          go_wp2_with fail
          refine (HF.out _).mono ?_
          rintro e w' ⟨rfl, rfl⟩
          go_wp2_with fail
          refine (HG.out _).mono ?_
          rintro e w' ⟨rfl, rfl⟩
          go_wp2_with fail
          refine (lives_true _).mono ?_
          rintro e w' ⟨rfl, rfl⟩
          go_wp2_with fail
          go_ret
          exact ⟨rfl, rfl⟩
        | false =>
          have HF : Hid (∀ W, Calls Try.prog 16 #[.int .i64 w, .int .i64 l] W fun e w' => e = .returned (.bool false) ∧ w' = W) := fun W => by
            have := v_fresh w l w0 w1 W; rwa [hf] at this
          clear hf c
          go_enter Try.func6, Try.ntmps6
          go_wp2_with fail
          refine (v_free n _).mono ?_
          rintro e w' ⟨rfl, rfl⟩
          go_wp2_with fail
          refine (v_free m _).mono ?_
          rintro e w' ⟨rfl, rfl⟩
          go_wp2_with fail
          refine (HO.out _).mono ?_
          rintro e w' ⟨rfl, rfl⟩
          go_wp2_with fail
          refine (HF.out _).mono ?_
          rintro e w' ⟨rfl, rfl⟩
          go_wp2_with fail
          refine (lives_true _).mono ?_
          rintro e w' ⟨rfl, rfl⟩
          go_wp2_with fail
          go_ret
          exact ⟨rfl, rfl⟩
      · have d0 : decide (l ≤ k) = false := by simpa using c
        clear c
        go_enter Try.func6, Try.ntmps6
        go_wp2_with fail
        refine (v_free n _).mono ?_
        rintro e w' ⟨rfl, rfl⟩
        go_wp2_with fail
        refine (v_free m _).mono ?_
        rintro e w' ⟨rfl, rfl⟩
        go_wp2_with fail
        refine (HO.out _).mono ?_
        rintro e w' ⟨rfl, rfl⟩
        go_wp2_with fail
        refine (lives_true _).mono ?_
        rintro e w' ⟨rfl, rfl⟩
        go_wp2_with fail
        go_ret
        exact ⟨rfl, rfl⟩
  · have da : (freeV n != -1) = true := by simpa using a
    by_cases b : freeV m = -1
    · have db : (freeV m != -1) = false := by simpa using b
      clear a b hn hm
      cases ho : ownB w with
      | true =>
        have hv : verB w = false := by cases q : verB w with | false => rfl | true => exact absurd (ver_not_own q) (by rw [ho]; simp)
        have HO : Hid (∀ W, Calls Try.prog 14 #[.int .i64 w] W fun e w' => e = .returned (.tuple #[.int .i64 (ownV w), .bool true]) ∧ w' = W) := fun W => by
          have := v_owner w w0 w1 W; rwa [ho] at this
        have HF : Hid (∀ W, Calls Try.prog 16 #[.int .i64 w, .int .i64 l] W fun e w' => e = .returned (.bool false) ∧ w' = W) := fun W => by
          have := v_fresh w l w0 w1 W; rwa [fresh_not l hv] at this
        clear ho hv
        by_cases c : l ≤ k
        · have d0 : decide (l ≤ k) = true := by simpa using c
          clear c
          go_enter Try.func6, Try.ntmps6
          go_wp2_with fail
          refine (v_free n _).mono ?_
          rintro e w' ⟨rfl, rfl⟩
          go_wp2_with fail
          refine (v_free m _).mono ?_
          rintro e w' ⟨rfl, rfl⟩
          go_wp2_with fail
          refine (HO.out _).mono ?_
          rintro e w' ⟨rfl, rfl⟩
          go_wp2_with fail
          refine (HF.out _).mono ?_
          rintro e w' ⟨rfl, rfl⟩
          go_wp2_with fail
          refine (HF.out _).mono ?_
          rintro e w' ⟨rfl, rfl⟩
          go_wp2_with fail
          refine (lives_true _).mono ?_
          rintro e w' ⟨rfl, rfl⟩
          go_wp2_with fail
          go_ret
          exact ⟨rfl, rfl⟩
        · have d0 : decide (l ≤ k) = false := by simpa using c
          clear c
          go_enter Try.func6, Try.ntmps6
          go_wp2_with fail
          refine (v_free n _).mono ?_
          rintro e w' ⟨rfl, rfl⟩
          go_wp2_with fail
          refine (v_free m _).mono ?_
          rintro e w' ⟨rfl, rfl⟩
          go_wp2_with fail
          refine (HO.out _).mono ?_
          rintro e w' ⟨rfl, rfl⟩
          go_wp2_with fail
          refine (HF.out _).mono ?_
          rintro e w' ⟨rfl, rfl⟩
          go_wp2_with fail
          refine (lives_true _).mono ?_
          rintro e w' ⟨rfl, rfl⟩
          go_wp2_with fail
          go_ret
          exact ⟨rfl, rfl⟩
      | false =>
        have HO : Hid (∀ W, Calls Try.prog 14 #[.int .i64 w] W fun e w' => e = .returned (.tuple #[.int .i64 0, .bool false]) ∧ w' = W) := fun W => by
          have := v_owner w w0 w1 W; rwa [ho, own_none ho] at this
        clear ho
        by_cases c : l ≤ k
        · have d0 : decide (l ≤ k) = true := by simpa using c
          cases hf : freshB w l with
          | true =>
            have HF : Hid (∀ W, Calls Try.prog 16 #[.int .i64 w, .int .i64 l] W fun e w' => e = .returned (.bool true) ∧ w' = W) := fun W => by
              have := v_fresh w l w0 w1 W; rwa [hf] at this
            have HG : Hid (∀ W, Calls Try.prog 16 #[.int .i64 w, .int .i64 k] W fun e w' => e = .returned (.bool true) ∧ w' = W) := fun W => by
              have := v_fresh w k w0 w1 W; rwa [fresh_more hf c] at this
            clear hf c
            go_enter Try.func6, Try.ntmps6
            go_wp2_with fail
            refine (v_free n _).mono ?_
            rintro e w' ⟨rfl, rfl⟩
            go_wp2_with fail
            refine (v_free m _).mono ?_
            rintro e w' ⟨rfl, rfl⟩
            go_wp2_with fail
            refine (HO.out _).mono ?_
            rintro e w' ⟨rfl, rfl⟩
            go_wp2_with fail
            refine (HF.out _).mono ?_
            rintro e w' ⟨rfl, rfl⟩
            go_wp2_with fail
            refine (HG.out _).mono ?_
            rintro e w' ⟨rfl, rfl⟩
            go_wp2_with fail
            refine (lives_true _).mono ?_
            rintro e w' ⟨rfl, rfl⟩
            go_wp2_with fail
            go_ret
            exact ⟨rfl, rfl⟩
          | false =>
            have HF : Hid (∀ W, Calls Try.prog 16 #[.int .i64 w, .int .i64 l] W fun e w' => e = .returned (.bool false) ∧ w' = W) := fun W => by
              have := v_fresh w l w0 w1 W; rwa [hf] at this
            clear hf c
            go_enter Try.func6, Try.ntmps6
            go_wp2_with fail
            refine (v_free n _).mono ?_
            rintro e w' ⟨rfl, rfl⟩
            go_wp2_with fail
            refine (v_free m _).mono ?_
            rintro e w' ⟨rfl, rfl⟩
            go_wp2_with fail
            refine (HO.out _).mono ?_
            rintro e w' ⟨rfl, rfl⟩
            go_wp2_with fail
            refine (HF.out _).mono ?_
            rintro e w' ⟨rfl, rfl⟩
            go_wp2_with fail
            refine (lives_true _).mono ?_
            rintro e w' ⟨rfl, rfl⟩
            go_wp2_with fail
            go_ret
            exact ⟨rfl, rfl⟩
        · have d0 : decide (l ≤ k) = false := by simpa using c
          clear c
          go_enter Try.func6, Try.ntmps6
          go_wp2_with fail
          refine (v_free n _).mono ?_
          rintro e w' ⟨rfl, rfl⟩
          go_wp2_with fail
          refine (v_free m _).mono ?_
          rintro e w' ⟨rfl, rfl⟩
          go_wp2_with fail
          refine (HO.out _).mono ?_
          rintro e w' ⟨rfl, rfl⟩
          go_wp2_with fail
          refine (lives_true _).mono ?_
          rintro e w' ⟨rfl, rfl⟩
          go_wp2_with fail
          go_ret
          exact ⟨rfl, rfl⟩
    · have db : (freeV m != -1) = true := by simpa using b
      have e1 : freeV n = 2 * n := by rcases hn with h | h; exact h.2.2; exact absurd h.2 a
      have e2 : freeV m = 2 * m := by rcases hm with h | h; exact h.2.2; exact absurd h.2 b
      have de : decide (freeV n < freeV m) = decide (n < m) := by rw [e1, e2]; exact decide_eq_decide.2 (by omega)
      clear a b hn hm e1 e2
      cases ho : ownB w with
      | true =>
        have hv : verB w = false := by cases q : verB w with | false => rfl | true => exact absurd (ver_not_own q) (by rw [ho]; simp)
        have HO : Hid (∀ W, Calls Try.prog 14 #[.int .i64 w] W fun e w' => e = .returned (.tuple #[.int .i64 (ownV w), .bool true]) ∧ w' = W) := fun W => by
          have := v_owner w w0 w1 W; rwa [ho] at this
        have HF : Hid (∀ W, Calls Try.prog 16 #[.int .i64 w, .int .i64 l] W fun e w' => e = .returned (.bool false) ∧ w' = W) := fun W => by
          have := v_fresh w l w0 w1 W; rwa [fresh_not l hv] at this
        clear ho hv
        by_cases c : l ≤ k
        · have d0 : decide (l ≤ k) = true := by simpa using c
          clear c
          go_enter Try.func6, Try.ntmps6
          go_wp2_with fail
          refine (v_free n _).mono ?_
          rintro e w' ⟨rfl, rfl⟩
          go_wp2_with fail
          refine (v_free m _).mono ?_
          rintro e w' ⟨rfl, rfl⟩
          go_wp2_with fail
          refine (HO.out _).mono ?_
          rintro e w' ⟨rfl, rfl⟩
          go_wp2_with fail
          refine (HF.out _).mono ?_
          rintro e w' ⟨rfl, rfl⟩
          go_wp2_with fail
          refine (HF.out _).mono ?_
          rintro e w' ⟨rfl, rfl⟩
          go_wp2_with fail
          refine (lives_true _).mono ?_
          rintro e w' ⟨rfl, rfl⟩
          go_wp2_with fail
          go_ret
          exact ⟨rfl, rfl⟩
        · have d0 : decide (l ≤ k) = false := by simpa using c
          clear c
          go_enter Try.func6, Try.ntmps6
          go_wp2_with fail
          refine (v_free n _).mono ?_
          rintro e w' ⟨rfl, rfl⟩
          go_wp2_with fail
          refine (v_free m _).mono ?_
          rintro e w' ⟨rfl, rfl⟩
          go_wp2_with fail
          refine (HO.out _).mono ?_
          rintro e w' ⟨rfl, rfl⟩
          go_wp2_with fail
          refine (HF.out _).mono ?_
          rintro e w' ⟨rfl, rfl⟩
          go_wp2_with fail
          refine (lives_true _).mono ?_
          rintro e w' ⟨rfl, rfl⟩
          go_wp2_with fail
          go_ret
          exact ⟨rfl, rfl⟩
      | false =>
        have HO : Hid (∀ W, Calls Try.prog 14 #[.int .i64 w] W fun e w' => e = .returned (.tuple #[.int .i64 0, .bool false]) ∧ w' = W) := fun W => by
          have := v_owner w w0 w1 W; rwa [ho, own_none ho] at this
        clear ho
        by_cases c : l ≤ k
        · have d0 : decide (l ≤ k) = true := by simpa using c
          cases hf : freshB w l with
          | true =>
            have HF : Hid (∀ W, Calls Try.prog 16 #[.int .i64 w, .int .i64 l] W fun e w' => e = .returned (.bool true) ∧ w' = W) := fun W => by
              have := v_fresh w l w0 w1 W; rwa [hf] at this
            have HG : Hid (∀ W, Calls Try.prog 16 #[.int .i64 w, .int .i64 k] W fun e w' => e = .returned (.bool true) ∧ w' = W) := fun W => by
              have := v_fresh w k w0 w1 W; rwa [fresh_more hf c] at this
            clear hf c
            go_enter Try.func6, Try.ntmps6
            go_wp2_with fail
            refine (v_free n _).mono ?_
            rintro e w' ⟨rfl, rfl⟩
            go_wp2_with fail
            refine (v_free m _).mono ?_
            rintro e w' ⟨rfl, rfl⟩
            go_wp2_with fail
            refine (HO.out _).mono ?_
            rintro e w' ⟨rfl, rfl⟩
            go_wp2_with fail
            refine (HF.out _).mono ?_
            rintro e w' ⟨rfl, rfl⟩
            go_wp2_with fail
            refine (HG.out _).mono ?_
            rintro e w' ⟨rfl, rfl⟩
            go_wp2_with fail
            refine (lives_true _).mono ?_
            rintro e w' ⟨rfl, rfl⟩
            go_wp2_with fail
            go_ret
            exact ⟨rfl, rfl⟩
          | false =>
            have HF : Hid (∀ W, Calls Try.prog 16 #[.int .i64 w, .int .i64 l] W fun e w' => e = .returned (.bool false) ∧ w' = W) := fun W => by
              have := v_fresh w l w0 w1 W; rwa [hf] at this
            clear hf c
            go_enter Try.func6, Try.ntmps6
            go_wp2_with fail
            refine (v_free n _).mono ?_
            rintro e w' ⟨rfl, rfl⟩
            go_wp2_with fail
            refine (v_free m _).mono ?_
            rintro e w' ⟨rfl, rfl⟩
            go_wp2_with fail
            refine (HO.out _).mono ?_
            rintro e w' ⟨rfl, rfl⟩
            go_wp2_with fail
            refine (HF.out _).mono ?_
            rintro e w' ⟨rfl, rfl⟩
            go_wp2_with fail
            refine (lives_true _).mono ?_
            rintro e w' ⟨rfl, rfl⟩
            go_wp2_with fail
            go_ret
            exact ⟨rfl, rfl⟩
        · have d0 : decide (l ≤ k) = false := by simpa using c
          clear c
          go_enter Try.func6, Try.ntmps6
          go_wp2_with fail
          refine (v_free n _).mono ?_
          rintro e w' ⟨rfl, rfl⟩
          go_wp2_with fail
          refine (v_free m _).mono ?_
          rintro e w' ⟨rfl, rfl⟩
          go_wp2_with fail
          refine (HO.out _).mono ?_
          rintro e w' ⟨rfl, rfl⟩
          go_wp2_with fail
          refine (lives_true _).mono ?_
          rintro e w' ⟨rfl, rfl⟩
          go_wp2_with fail
          go_ret
          exact ⟨rfl, rfl⟩

theorem words_walk (v o : Int) (W : World) (gv : (Lit.int .i64 v).wf = true) (go : (Lit.int .i64 o).wf = true) : Calls Try.prog 3 #[.int .i64 v, .int .i64 o] W (Gives W (.bool true)) :=
  (words_core v o W).mono fun _ _ ⟨h, k⟩ => ⟨h, k ▸ More.refl _⟩

theorem reads_walk (w l : Int) (W : World) (gw : (Lit.int .i64 w).wf = true) (gl : (Lit.int .i64 l).wf = true) : Calls Try.prog 4 #[.int .i64 w, .int .i64 l] W (Gives W (.bool true)) :=
  (reads_core w l (wf_lo gw) (wf_hi gw) W).mono fun _ _ ⟨h, k⟩ => ⟨h, k ▸ More.refl _⟩

theorem back_walk (n w : Int) (W : World) (gn : (Lit.int .i64 n).wf = true) (gw : (Lit.int .i64 w).wf = true) : Calls Try.prog 5 #[.int .i64 n, .int .i64 w] W (Gives W (.bool true)) :=
  (back_core n w (wf_lo gw) (wf_hi gw) W).mono fun _ _ ⟨h, k⟩ => ⟨h, k ▸ More.refl _⟩

theorem rising_walk (n m w l k : Int) (W : World) (gn : (Lit.int .i64 n).wf = true) (gm : (Lit.int .i64 m).wf = true) (gw : (Lit.int .i64 w).wf = true) (gl : (Lit.int .i64 l).wf = true) (gk : (Lit.int .i64 k).wf = true) : Calls Try.prog 6 #[.int .i64 n, .int .i64 m, .int .i64 w, .int .i64 l, .int .i64 k] W (Gives W (.bool true)) :=
  (rising_core n m w l k (wf_lo gw) (wf_hi gw) W).mono fun _ _ ⟨h, k⟩ => ⟨h, k ▸ More.refl _⟩

end Go.Proofs.Ythcodokbgokibaa
