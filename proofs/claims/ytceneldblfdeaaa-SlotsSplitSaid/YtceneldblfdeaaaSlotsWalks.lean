/-
  The walks of layer 4's laws: a word's bits turned and looked at, one bit, the first one.
-/
import Derived.Test.YtceneldblfdeaaaSlotsOwn
namespace Go.Proofs.Ytceneldblfdeaaa
open Go.RowKit
set_option linter.unusedVariables false
set_option linter.unusedSimpArgs false

theorem lives_any (w : World) : Calls Try.prog 14 #[] w (Gives w (.bool true)) := by
  have HM0 : Hid (More w w) := More.refl w
  go_enter Try.func14, Try.ntmps14
  go_wp2_with fail
  refine (o_first 11 32 (by omega) (by omega) _).mono ?_
  rw [show firstV 11 32 = 2 by decide +kernel]
  rintro e w1 ⟨rfl, h⟩
  have HM1 := Lib.hid (HM0.out.trans h)
  clear h HM0
  go_wp2_with fail
  refine (o_count 11 32 (by omega) (by omega) _).mono ?_
  rw [show countV 11 32 = 3 by decide +kernel]
  rintro e w2 ⟨rfl, h⟩
  have HM2 := Lib.hid (HM1.out.trans h)
  clear h HM1
  go_wp2_with fail
  refine (o_set 9 1 (by omega) (by omega) _).mono ?_
  rw [show setV 9 1 = 11 by decide +kernel]
  rintro e w' ⟨rfl, rfl⟩
  go_wp2_with fail
  refine (o_clear 11 1 (by omega) (by omega) _).mono ?_
  rw [show clearV 11 1 = 9 by decide +kernel]
  rintro e w' ⟨rfl, rfl⟩
  go_wp2_with fail
  refine (o_has 8 3 _).mono ?_
  rw [show hasB 8 3 = true by decide +kernel]
  rintro e w' ⟨rfl, rfl⟩
  go_wp2_with fail
  go_ret
  exact ⟨rfl, HM2.out⟩

theorem turns_core (x i : Int) (w : World) (x0 : -9223372036854775808 ≤ x) (x1 : x ≤ 9223372036854775807) (i0 : -9223372036854775808 ≤ i) (i1 : i ≤ 9223372036854775807) : Calls Try.prog 3 #[.int .i64 x, .int .i64 i] w (Gives w (.bool true)) := by
  have HM0 : Hid (More w w) := More.refl w
  go_enter Try.func3, Try.ntmps3
  go_wp2_with fail
  refine (o_has x i _).mono ?_
  rintro e w' ⟨rfl, rfl⟩
  go_wp2_with fail
  refine (r_has x i _).mono ?_
  rintro e w' ⟨rfl, rfl⟩
  go_wp2_with fail
  refine (o_set x i x0 x1 _).mono ?_
  rintro e w' ⟨rfl, rfl⟩
  go_wp2_with fail
  refine (r_set x i x0 x1 _).mono ?_
  rintro e w' ⟨rfl, rfl⟩
  go_wp2_with fail
  refine (o_clear x i x0 x1 _).mono ?_
  rintro e w' ⟨rfl, rfl⟩
  go_wp2_with fail
  refine (r_clear x i x0 x1 _).mono ?_
  rintro e w' ⟨rfl, rfl⟩
  go_wp2_with fail
  refine (lives_any _).mono ?_
  rintro e w1 ⟨rfl, h⟩
  have HM1 := Lib.hid (HM0.out.trans h)
  clear h HM0
  go_wp2_with fail
  go_ret
  exact ⟨rfl, HM1.out⟩

theorem looks_core (x n : Int) (w : World) (x0 : -9223372036854775808 ≤ x) (x1 : x ≤ 9223372036854775807) (n0 : -9223372036854775808 ≤ n) (n1 : n ≤ 9223372036854775807) : Calls Try.prog 4 #[.int .i64 x, .int .i64 n] w (Gives w (.bool true)) := by
  have HL := Lib.hid (show (listV x n).length ≤ 1000000 from Nat.le_trans (onI_le x _) (Nat.le_trans (endN_le n) (by omega)))
  have HM0 : Hid (More w w) := More.refl w
  go_enter Try.func4, Try.ntmps4
  go_wp2_with fail
  refine (o_first x n n0 n1 _).mono ?_
  rintro e w1 ⟨rfl, h⟩
  have HM1 := Lib.hid (HM0.out.trans h)
  clear h HM0
  go_wp2_with fail
  refine (r_first x n _).mono ?_
  rintro e w' ⟨rfl, rfl⟩
  go_wp2_with fail
  refine (o_count x n n0 n1 _).mono ?_
  rintro e w2 ⟨rfl, h⟩
  have HM2 := Lib.hid (HM1.out.trans h)
  clear h HM1
  go_wp2_with fail
  refine (r_count x n _).mono ?_
  rintro e w3 ⟨rfl, h⟩
  have HM3 := Lib.hid (HM2.out.trans h)
  clear h HM2
  go_wp2_with fail
  refine (o_list x n n0 n1 _).mono ?_
  rintro e w4 ⟨v1, rfl, h1, h⟩
  have HM4 := Lib.hid (HM3.out.trans h)
  have HR1 := Lib.hid h1
  clear h h1
  go_wp2_with fail
  refine (r_list x n _).mono ?_
  rintro e w5 ⟨v2, rfl, h2, h⟩
  have HM5 := Lib.hid (HM4.out.trans h)
  have HR3 := Lib.hid (HR1.out.more h)
  have HR2 := Lib.hid h2
  clear h h2
  go_wp2_with fail
  refine (rows_same (listV x n) v1 v2 _ _ _ HL.out HR3.out HR2.out).mono ?_
  rintro e w6 ⟨rfl, h⟩
  have HM6 := Lib.hid (HM5.out.trans h)
  clear h HM5
  go_wp2_with fail
  refine (lives_any _).mono ?_
  rintro e w7 ⟨rfl, h⟩
  have HM7 := Lib.hid (HM6.out.trans h)
  clear h HM6
  go_wp2_with fail
  go_ret
  exact ⟨rfl, HM7.out⟩

theorem one_core (x i k : Int) (w : World) (x0 : -9223372036854775808 ≤ x) (x1 : x ≤ 9223372036854775807) (i0 : -9223372036854775808 ≤ i) (i1 : i ≤ 9223372036854775807) (k0 : -9223372036854775808 ≤ k) (k1 : k ≤ 9223372036854775807) : Calls Try.prog 5 #[.int .i64 x, .int .i64 i, .int .i64 k] w (Gives w (.bool true)) := by
  have s0 := setV_wide x i x0 x1
  have c0 := clearV_wide x i x0 x1
  cases hi : inR i with
  | false =>
    have g : i < 0 ∨ (¬ i < 0 ∧ 32 ≤ i) := by simp [inR] at hi; omega
    have HS : Hid (∀ W, Calls Try.prog 10 #[.int .i64 x, .int .i64 i] W fun e w' => e = .returned (.int .i64 x) ∧ w' = W) := fun W => by
      have := o_set x i x0 x1 W; rwa [set_none hi] at this
    have HC : Hid (∀ W, Calls Try.prog 12 #[.int .i64 x, .int .i64 i] W fun e w' => e = .returned (.int .i64 x) ∧ w' = W) := fun W => by
      have := o_clear x i x0 x1 W; rwa [clear_none hi] at this
    have HH : Hid (∀ W, Calls Try.prog 8 #[.int .i64 x, .int .i64 i] W fun e w' => e = .returned (.bool false) ∧ w' = W) := fun W => by
      have := o_has x i W; rwa [has_none hi] at this
    clear hi s0 c0
    rcases g with g | ⟨g, g2⟩
    all_goals
      have HM0 : Hid (More w w) := More.refl w
      go_enter Try.func5, Try.ntmps5
      go_wp2_with fail
      refine (HS.out _).mono ?_
      rintro e w' ⟨rfl, rfl⟩
      go_wp2_with fail
      refine (HC.out _).mono ?_
      rintro e w' ⟨rfl, rfl⟩
      go_wp2_with fail
      refine (HH.out _).mono ?_
      rintro e w' ⟨rfl, rfl⟩
      go_wp2_with fail
      refine (lives_any _).mono ?_
      rintro e w1 ⟨rfl, h⟩
      have HM1 := Lib.hid (HM0.out.trans h)
      clear h HM0
      go_wp2_with fail
      go_ret
      exact ⟨rfl, HM1.out⟩
  | true =>
    have hr := (inR_iff i).1 hi
    have g1 : decide (i < 0) = false := by simp; omega
    have g2 : decide (32 ≤ i) = false := by simp; omega
    have HS : Hid (∀ W, Calls Try.prog 10 #[.int .i64 x, .int .i64 i] W fun e w' => e = .returned (.int .i64 (setV x i)) ∧ w' = W) := fun W => o_set x i x0 x1 W
    have HC : Hid (∀ W, Calls Try.prog 12 #[.int .i64 x, .int .i64 i] W fun e w' => e = .returned (.int .i64 (clearV x i)) ∧ w' = W) := fun W => o_clear x i x0 x1 W
    have HSi : Hid (∀ W, Calls Try.prog 8 #[.int .i64 (setV x i), .int .i64 i] W fun e w' => e = .returned (.bool true) ∧ w' = W) := fun W => by
      have := o_has (setV x i) i W; rwa [has_set hi] at this
    have HCi : Hid (∀ W, Calls Try.prog 8 #[.int .i64 (clearV x i), .int .i64 i] W fun e w' => e = .returned (.bool false) ∧ w' = W) := fun W => by
      have := o_has (clearV x i) i W; rwa [has_clear hi] at this
    have HSk : Hid (k ≠ i → ∀ W, Calls Try.prog 8 #[.int .i64 (setV x i), .int .i64 k] W fun e w' => e = .returned (.bool (hasB x k)) ∧ w' = W) := fun hk W => by
      have := o_has (setV x i) k W; rwa [has_set_other hi hk] at this
    have HCk : Hid (k ≠ i → ∀ W, Calls Try.prog 8 #[.int .i64 (clearV x i), .int .i64 k] W fun e w' => e = .returned (.bool (hasB x k)) ∧ w' = W) := fun hk W => by
      have := o_has (clearV x i) k W; rwa [has_clear_other hi hk] at this
    have HB : Hid (∀ W, Calls Try.prog 8 #[.int .i64 x, .int .i64 i] W fun e w' => e = .returned (.bool (hasB x i)) ∧ w' = W) := fun W => o_has x i W
    have HK : Hid (∀ W, Calls Try.prog 8 #[.int .i64 x, .int .i64 k] W fun e w' => e = .returned (.bool (hasB x k)) ∧ w' = W) := fun W => o_has x k W
    have HE1 : Hid (hasB x i = true → setV x i = x) := fun hb => set_had x0 x1 hi hb
    have HE2 : Hid (hasB x i = true → ∀ W, Calls Try.prog 10 #[.int .i64 (clearV x i), .int .i64 i] W fun e w' => e = .returned (.int .i64 x) ∧ w' = W) := fun hb W => by
      have := o_set (clearV x i) i c0.1 c0.2 W; rwa [set_clear x0 x1 hi hb] at this
    have HE3 : Hid (hasB x i = false → clearV x i = x) := fun hb => clear_not x0 x1 hi hb
    have HE4 : Hid (hasB x i = false → ∀ W, Calls Try.prog 12 #[.int .i64 (setV x i), .int .i64 i] W fun e w' => e = .returned (.int .i64 x) ∧ w' = W) := fun hb W => by
      have := o_clear (setV x i) i s0.1 s0.2 W; rwa [clear_set x0 x1 hi hb] at this
    generalize setV x i = S at *
    generalize clearV x i = C at *
    generalize hasB x k = BK at *
    clear hi s0 c0 hr
    have d0 : k = i ∨ k ≠ i := by omega
    cases hb : hasB x i with
    | true =>
      rw [hb] at HB
      have E := HE1.out hb
      have H2 := Lib.hid (HE2.out hb)
      clear HE1 HE2 HE3 HE4 hb
      subst E
      rcases d0 with rfl | d0
      · have HM0 : Hid (More w w) := More.refl w
        go_enter Try.func5, Try.ntmps5
        go_wp2_with fail
        refine (HS.out _).mono ?_
        rintro e w' ⟨rfl, rfl⟩
        go_wp2_with fail
        refine (HC.out _).mono ?_
        rintro e w' ⟨rfl, rfl⟩
        go_wp2_with fail
        refine (HSi.out _).mono ?_
        rintro e w' ⟨rfl, rfl⟩
        go_wp2_with fail
        refine (HCi.out _).mono ?_
        rintro e w' ⟨rfl, rfl⟩
        go_wp2_with fail
        refine (HB.out _).mono ?_
        rintro e w' ⟨rfl, rfl⟩
        go_wp2_with fail
        refine (H2.out _).mono ?_
        rintro e w' ⟨rfl, rfl⟩
        go_wp2_with fail
        refine (lives_any _).mono ?_
        rintro e w1 ⟨rfl, h⟩
        have HM1 := Lib.hid (HM0.out.trans h)
        clear h HM0
        go_wp2_with fail
        go_ret
        exact ⟨rfl, HM1.out⟩
      · have HM0 : Hid (More w w) := More.refl w
        have e1 : (k == i) = false := by simpa using d0
        have e2 : (k != i) = true := by simpa using d0
        have HSk2 := Lib.hid (HSk.out d0)
        have HCk2 := Lib.hid (HCk.out d0)
        clear d0
        go_enter Try.func5, Try.ntmps5
        go_wp2_with fail
        refine (HS.out _).mono ?_
        rintro e w' ⟨rfl, rfl⟩
        go_wp2_with fail
        refine (HC.out _).mono ?_
        rintro e w' ⟨rfl, rfl⟩
        go_wp2_with fail
        refine (HSi.out _).mono ?_
        rintro e w' ⟨rfl, rfl⟩
        go_wp2_with fail
        refine (HCi.out _).mono ?_
        rintro e w' ⟨rfl, rfl⟩
        go_wp2_with fail
        refine (HSk2.out _).mono ?_
        rintro e w' ⟨rfl, rfl⟩
        go_wp2_with fail
        refine (HK.out _).mono ?_
        rintro e w' ⟨rfl, rfl⟩
        go_wp2_with fail
        refine (HCk2.out _).mono ?_
        rintro e w' ⟨rfl, rfl⟩
        go_wp2_with fail
        refine (HK.out _).mono ?_
        rintro e w' ⟨rfl, rfl⟩
        go_wp2_with fail
        refine (HB.out _).mono ?_
        rintro e w' ⟨rfl, rfl⟩
        go_wp2_with fail
        refine (H2.out _).mono ?_
        rintro e w' ⟨rfl, rfl⟩
        go_wp2_with fail
        refine (lives_any _).mono ?_
        rintro e w1 ⟨rfl, h⟩
        have HM1 := Lib.hid (HM0.out.trans h)
        clear h HM0
        go_wp2_with fail
        go_ret
        exact ⟨rfl, HM1.out⟩
    | false =>
      rw [hb] at HB
      have E := HE3.out hb
      have H2 := Lib.hid (HE4.out hb)
      clear HE1 HE2 HE3 HE4 hb
      subst E
      rcases d0 with rfl | d0
      · have HM0 : Hid (More w w) := More.refl w
        go_enter Try.func5, Try.ntmps5
        go_wp2_with fail
        refine (HS.out _).mono ?_
        rintro e w' ⟨rfl, rfl⟩
        go_wp2_with fail
        refine (HC.out _).mono ?_
        rintro e w' ⟨rfl, rfl⟩
        go_wp2_with fail
        refine (HSi.out _).mono ?_
        rintro e w' ⟨rfl, rfl⟩
        go_wp2_with fail
        refine (HCi.out _).mono ?_
        rintro e w' ⟨rfl, rfl⟩
        go_wp2_with fail
        refine (HB.out _).mono ?_
        rintro e w' ⟨rfl, rfl⟩
        go_wp2_with fail
        refine (H2.out _).mono ?_
        rintro e w' ⟨rfl, rfl⟩
        go_wp2_with fail
        refine (lives_any _).mono ?_
        rintro e w1 ⟨rfl, h⟩
        have HM1 := Lib.hid (HM0.out.trans h)
        clear h HM0
        go_wp2_with fail
        go_ret
        exact ⟨rfl, HM1.out⟩
      · have HM0 : Hid (More w w) := More.refl w
        have e1 : (k == i) = false := by simpa using d0
        have e2 : (k != i) = true := by simpa using d0
        have HSk2 := Lib.hid (HSk.out d0)
        have HCk2 := Lib.hid (HCk.out d0)
        clear d0
        go_enter Try.func5, Try.ntmps5
        go_wp2_with fail
        refine (HS.out _).mono ?_
        rintro e w' ⟨rfl, rfl⟩
        go_wp2_with fail
        refine (HC.out _).mono ?_
        rintro e w' ⟨rfl, rfl⟩
        go_wp2_with fail
        refine (HSi.out _).mono ?_
        rintro e w' ⟨rfl, rfl⟩
        go_wp2_with fail
        refine (HCi.out _).mono ?_
        rintro e w' ⟨rfl, rfl⟩
        go_wp2_with fail
        refine (HSk2.out _).mono ?_
        rintro e w' ⟨rfl, rfl⟩
        go_wp2_with fail
        refine (HK.out _).mono ?_
        rintro e w' ⟨rfl, rfl⟩
        go_wp2_with fail
        refine (HCk2.out _).mono ?_
        rintro e w' ⟨rfl, rfl⟩
        go_wp2_with fail
        refine (HK.out _).mono ?_
        rintro e w' ⟨rfl, rfl⟩
        go_wp2_with fail
        refine (HB.out _).mono ?_
        rintro e w' ⟨rfl, rfl⟩
        go_wp2_with fail
        refine (H2.out _).mono ?_
        rintro e w' ⟨rfl, rfl⟩
        go_wp2_with fail
        refine (lives_any _).mono ?_
        rintro e w1 ⟨rfl, h⟩
        have HM1 := Lib.hid (HM0.out.trans h)
        clear h HM0
        go_wp2_with fail
        go_ret
        exact ⟨rfl, HM1.out⟩

theorem first_core (x n : Int) (w : World) (x0 : -9223372036854775808 ≤ x) (x1 : x ≤ 9223372036854775807) (n0 : -9223372036854775808 ≤ n) (n1 : n ≤ 9223372036854775807) : Calls Try.prog 6 #[.int .i64 x, .int .i64 n] w (Gives w (.bool true)) := by
  have HF : Hid (∀ W, Calls Try.prog 15 #[.int .i64 x, .int .i64 n] W (Gives W (.int .i64 (firstV x n)))) := fun W => o_first x n n0 n1 W
  rcases offN_ways x (endN n) with ⟨e0, hall⟩ | ⟨j, hj, e0, hb, hall⟩
  · have e1 : firstV x n = -1 := e0
    rw [e1] at HF
    have HC : Hid (∀ W, Calls Try.prog 17 #[.int .i64 x, .int .i64 n] W (Gives W (.int .i64 (endN n)))) := fun W => by
      have := o_count x n n0 n1 W
      rwa [show countV x n = (endN n : Int) by unfold countV; rw [on_all hall]] at this
    clear e0 e1 hall
    rcases (show n < 0 ∨ n = 0 ∨ (0 < n ∧ n < 32) ∨ n = 32 ∨ 32 < n by omega) with g | rfl | ⟨g, g'⟩ | rfl | g
    · rw [show (endN n : Int) = 0 by unfold endN; omega] at HC
      have HM0 : Hid (More w w) := More.refl w
      go_enter Try.func6, Try.ntmps6
      go_wp2_with fail
      refine (HF.out _).mono ?_
      rintro e w1 ⟨rfl, h⟩
      have HM1 := Lib.hid (HM0.out.trans h)
      clear h HM0
      go_wp2_with fail
      refine (HC.out _).mono ?_
      rintro e w2 ⟨rfl, h⟩
      have HM2 := Lib.hid (HM1.out.trans h)
      clear h HM1
      go_wp2_with fail
      refine (lives_any _).mono ?_
      rintro e w3 ⟨rfl, h⟩
      have HM3 := Lib.hid (HM2.out.trans h)
      clear h HM2
      go_wp2_with fail
      go_ret
      exact ⟨rfl, HM3.out⟩
    · rw [show (endN 0 : Int) = 0 by unfold endN; omega] at HC
      have HM0 : Hid (More w w) := More.refl w
      go_enter Try.func6, Try.ntmps6
      go_wp2_with fail
      refine (HF.out _).mono ?_
      rintro e w1 ⟨rfl, h⟩
      have HM1 := Lib.hid (HM0.out.trans h)
      clear h HM0
      go_wp2_with fail
      refine (HC.out _).mono ?_
      rintro e w2 ⟨rfl, h⟩
      have HM2 := Lib.hid (HM1.out.trans h)
      clear h HM1
      go_wp2_with fail
      refine (lives_any _).mono ?_
      rintro e w3 ⟨rfl, h⟩
      have HM3 := Lib.hid (HM2.out.trans h)
      clear h HM2
      go_wp2_with fail
      go_ret
      exact ⟨rfl, HM3.out⟩
    · rw [show (endN n : Int) = n by unfold endN; omega] at HC
      have HM0 : Hid (More w w) := More.refl w
      go_enter Try.func6, Try.ntmps6
      go_wp2_with fail
      refine (HF.out _).mono ?_
      rintro e w1 ⟨rfl, h⟩
      have HM1 := Lib.hid (HM0.out.trans h)
      clear h HM0
      go_wp2_with fail
      refine (HC.out _).mono ?_
      rintro e w2 ⟨rfl, h⟩
      have HM2 := Lib.hid (HM1.out.trans h)
      clear h HM1
      go_wp2_with fail
      refine (lives_any _).mono ?_
      rintro e w3 ⟨rfl, h⟩
      have HM3 := Lib.hid (HM2.out.trans h)
      clear h HM2
      go_wp2_with fail
      go_ret
      exact ⟨rfl, HM3.out⟩
    · rw [show (endN 32 : Int) = 32 by unfold endN; omega] at HC
      have HM0 : Hid (More w w) := More.refl w
      go_enter Try.func6, Try.ntmps6
      go_wp2_with fail
      refine (HF.out _).mono ?_
      rintro e w1 ⟨rfl, h⟩
      have HM1 := Lib.hid (HM0.out.trans h)
      clear h HM0
      go_wp2_with fail
      refine (HC.out _).mono ?_
      rintro e w2 ⟨rfl, h⟩
      have HM2 := Lib.hid (HM1.out.trans h)
      clear h HM1
      go_wp2_with fail
      refine (lives_any _).mono ?_
      rintro e w3 ⟨rfl, h⟩
      have HM3 := Lib.hid (HM2.out.trans h)
      clear h HM2
      go_wp2_with fail
      go_ret
      exact ⟨rfl, HM3.out⟩
    · rw [show (endN n : Int) = 32 by unfold endN; omega] at HC
      have HM0 : Hid (More w w) := More.refl w
      go_enter Try.func6, Try.ntmps6
      go_wp2_with fail
      refine (HF.out _).mono ?_
      rintro e w1 ⟨rfl, h⟩
      have HM1 := Lib.hid (HM0.out.trans h)
      clear h HM0
      go_wp2_with fail
      refine (HC.out _).mono ?_
      rintro e w2 ⟨rfl, h⟩
      have HM2 := Lib.hid (HM1.out.trans h)
      clear h HM1
      go_wp2_with fail
      refine (lives_any _).mono ?_
      rintro e w3 ⟨rfl, h⟩
      have HM3 := Lib.hid (HM2.out.trans h)
      clear h HM2
      go_wp2_with fail
      go_ret
      exact ⟨rfl, HM3.out⟩
  · have e1 : firstV x n = (j : Int) := e0
    have hj32 : j < 32 := by have := endN_le n; omega
    rw [e1] at HF
    have HH : Hid (∀ W, Calls Try.prog 8 #[.int .i64 x, .int .i64 j] W fun e w' => e = .returned (.bool false) ∧ w' = W) := fun W => by
      have := o_has x j W
      rwa [has_nat hj32, hb] at this
    have HCj : Hid (∀ W, Calls Try.prog 17 #[.int .i64 x, .int .i64 j] W (Gives W (.int .i64 j))) := fun W => by
      have := o_count x j (by omega) (by omega) W
      rwa [show countV x j = (j : Int) by unfold countV; rw [show endN (j : Int) = j by unfold endN; omega, on_all hall]] at this
    have HSt : Hid (∀ W, Calls Try.prog 10 #[.int .i64 x, .int .i64 j] W fun e w' => e = .returned (.int .i64 (setV x j)) ∧ w' = W) := fun W => o_set x j x0 x1 W
    have HC1 : Hid (∀ W, Calls Try.prog 17 #[.int .i64 x, .int .i64 n] W (Gives W (.int .i64 (countV x n)))) := fun W => o_count x n n0 n1 W
    have HC2 : Hid (∀ W, Calls Try.prog 17 #[.int .i64 (setV x j), .int .i64 n] W (Gives W (.int .i64 (countV x n + 1)))) := fun W => by
      have := o_count (setV x j) n n0 n1 W
      rwa [show countV (setV x j) n = countV x n + 1 by
        have := on_set (w := x) (i := (j : Int)) (inR_nat hj32) (by simpa using hb) (endN n) (endN_le n)
        rw [Int.toNat_natCast, if_pos hj] at this
        unfold countV; rw [this]; omega] at this
    have hc : 0 ≤ countV x n ∧ countV x n ≤ 32 := by
      have := onN_le x (endN n); have := endN_le n
      unfold countV; omega
    have hjn : (j : Int) < n := by unfold endN at hj; omega
    generalize setV x j = S at HSt HC2
    generalize countV x n = C at HC1 HC2 hc
    clear e0 e1 hall hb hj
    have dj : decide ((j : Int) < 0) = false := by simp
    rcases (show (0 < n ∧ n < 32) ∨ n = 32 ∨ 32 < n by omega) with ⟨g, g'⟩ | rfl | g
    · have dn : decide (n ≤ (j : Int)) = false := by simp; omega
      have HM0 : Hid (More w w) := More.refl w
      go_enter Try.func6, Try.ntmps6
      go_wp2_with fail
      refine (HF.out _).mono ?_
      rintro e w1 ⟨rfl, h⟩
      have HM1 := Lib.hid (HM0.out.trans h)
      clear h HM0
      go_wp2_with fail
      refine (HH.out _).mono ?_
      rintro e w' ⟨rfl, rfl⟩
      go_wp2_with fail
      refine (HCj.out _).mono ?_
      rintro e w2 ⟨rfl, h⟩
      have HM2 := Lib.hid (HM1.out.trans h)
      clear h HM1
      go_wp2_with fail
      refine (HSt.out _).mono ?_
      rintro e w' ⟨rfl, rfl⟩
      go_wp2_with fail
      refine (HC2.out _).mono ?_
      rintro e w3 ⟨rfl, h⟩
      have HM3 := Lib.hid (HM2.out.trans h)
      clear h HM2
      go_wp2_with fail
      refine (HC1.out _).mono ?_
      rintro e w4 ⟨rfl, h⟩
      have HM4 := Lib.hid (HM3.out.trans h)
      clear h HM3
      go_wp2_with fail
      refine (lives_any _).mono ?_
      rintro e w5 ⟨rfl, h⟩
      have HM5 := Lib.hid (HM4.out.trans h)
      clear h HM4
      go_wp2_with fail
      go_ret
      exact ⟨rfl, HM5.out⟩
    · have dn : decide (32 ≤ (j : Int)) = false := by simp; omega
      have HM0 : Hid (More w w) := More.refl w
      go_enter Try.func6, Try.ntmps6
      go_wp2_with fail
      refine (HF.out _).mono ?_
      rintro e w1 ⟨rfl, h⟩
      have HM1 := Lib.hid (HM0.out.trans h)
      clear h HM0
      go_wp2_with fail
      refine (HH.out _).mono ?_
      rintro e w' ⟨rfl, rfl⟩
      go_wp2_with fail
      refine (HCj.out _).mono ?_
      rintro e w2 ⟨rfl, h⟩
      have HM2 := Lib.hid (HM1.out.trans h)
      clear h HM1
      go_wp2_with fail
      refine (HSt.out _).mono ?_
      rintro e w' ⟨rfl, rfl⟩
      go_wp2_with fail
      refine (HC2.out _).mono ?_
      rintro e w3 ⟨rfl, h⟩
      have HM3 := Lib.hid (HM2.out.trans h)
      clear h HM2
      go_wp2_with fail
      refine (HC1.out _).mono ?_
      rintro e w4 ⟨rfl, h⟩
      have HM4 := Lib.hid (HM3.out.trans h)
      clear h HM3
      go_wp2_with fail
      refine (lives_any _).mono ?_
      rintro e w5 ⟨rfl, h⟩
      have HM5 := Lib.hid (HM4.out.trans h)
      clear h HM4
      go_wp2_with fail
      go_ret
      exact ⟨rfl, HM5.out⟩
    · have dn : decide (32 ≤ (j : Int)) = false := by simp; omega
      have HM0 : Hid (More w w) := More.refl w
      go_enter Try.func6, Try.ntmps6
      go_wp2_with fail
      refine (HF.out _).mono ?_
      rintro e w1 ⟨rfl, h⟩
      have HM1 := Lib.hid (HM0.out.trans h)
      clear h HM0
      go_wp2_with fail
      refine (HH.out _).mono ?_
      rintro e w' ⟨rfl, rfl⟩
      go_wp2_with fail
      refine (HCj.out _).mono ?_
      rintro e w2 ⟨rfl, h⟩
      have HM2 := Lib.hid (HM1.out.trans h)
      clear h HM1
      go_wp2_with fail
      refine (HSt.out _).mono ?_
      rintro e w' ⟨rfl, rfl⟩
      go_wp2_with fail
      refine (HC2.out _).mono ?_
      rintro e w3 ⟨rfl, h⟩
      have HM3 := Lib.hid (HM2.out.trans h)
      clear h HM2
      go_wp2_with fail
      refine (HC1.out _).mono ?_
      rintro e w4 ⟨rfl, h⟩
      have HM4 := Lib.hid (HM3.out.trans h)
      clear h HM3
      go_wp2_with fail
      refine (lives_any _).mono ?_
      rintro e w5 ⟨rfl, h⟩
      have HM5 := Lib.hid (HM4.out.trans h)
      clear h HM4
      go_wp2_with fail
      go_ret
      exact ⟨rfl, HM5.out⟩

end Go.Proofs.Ytceneldblfdeaaa
