/-
  The walks of layer 3's laws ClassRounds and ClassPages.
-/
import Derived.Test.YtiechakfjhifaaaDoorClassDoes
namespace Go.Proofs.YtiechakfjhifaaaDoor
open Go.RowKit
set_option linter.unusedVariables false
set_option linter.unusedSimpArgs false

theorem cls_big {n : Int} (h : n ≤ 16) : 0 ≤ clsV n ∧ clsV n ≤ 4 ∧ n ≤ sizeV (clsV n) ∧ 1 ≤ sizeV (clsV n) := by
  unfold clsV
  (repeat' split) <;> simp [sizeV] <;> omega
theorem size_up {c d : Int} (c0 : 0 ≤ c) (cd : c ≤ d) (d4 : d ≤ 4) : sizeV c ≤ sizeV d := by
  obtain ⟨i, rfl⟩ : ∃ i : Nat, c = i := ⟨c.toNat, by omega⟩
  obtain ⟨j, rfl⟩ : ∃ j : Nat, d = j := ⟨d.toNat, by omega⟩
  rcases ways5 (show i ≤ 4 by omega) with rfl | rfl | rfl | rfl | rfl <;> rcases ways5 (show j ≤ 4 by omega) with rfl | rfl | rfl | rfl | rfl <;> first | (exfalso; omega) | decide
theorem size_mx {x y : Int} (x0 : 0 ≤ x) (x4 : x ≤ 4) (y4 : y ≤ 4) : sizeV x ≤ sizeV (mx x y) := by
  unfold mx
  split
  · exact size_up x0 (by omega) y4
  · omega
theorem pgs_big {n : Int} (h : 1 ≤ n) : n ≤ 32 * pgsV n ∧ 32 * pgsV n ≤ n + 31 := by
  unfold pgsV; rw [if_neg (by omega)]; omega
theorem round_big {n a : Int} (h : badB n a = false) : n ≤ roundV n a ∧ 1 ≤ roundV n a := by
  unfold roundV fitC fitP
  simp only [h]
  cases hs : smallB n a with
  | true =>
    simp [smallB] at hs
    have b1 := cls_big hs.1
    have b2 := cls_big hs.2
    have := size_mx (y := clsV a) b1.1 b1.2.1 b2.2.1
    simp; omega
  | false =>
    have : 1 ≤ mx n 1 ∧ n ≤ mx n 1 := by unfold mx; split <;> omega
    have := pgs_big this.1
    have : sizeV (-1) = 0 := rfl
    simp; omega
theorem round_b {n a : Int} (h : n ≤ 1048576) : 0 ≤ roundV n a ∧ roundV n a ≤ 1048592 := by
  have b1 := size_b' (fitC n a)
  have b2 := fitP_small n a h
  unfold roundV; split <;> omega

variable {Ok : World → Prop} (D : ClassDoes Ok) (w : World)
include D

theorem rounds_bad (n a : Int) (hk : Ok w) (n0 : -9223372036854775808 ≤ n) (h : n ≤ 1048576) (a0 : -9223372036854775808 ≤ a) (a1 : a ≤ 9223372036854775807) (hb : badB n a = true) : Calls Tryd.prog 5 #[.int .i64 n, .int .i64 a] w (Gives w (.bool true)) := by
  have HK0 : Hid (Ok w) := hk
  have HM0 : Hid (More w w) := More.refl w
  have d0 : decide ((1048576 : Int) < n) = false := by simp; omega
  have HD : Hid (∀ W, Ok W → Calls Tryd.prog 20 #[.int .i64 n, .int .i64 a] W (Gives W (.tuple #[.int .i64 (roundV n a), .int .i64 2]))) := fun W k => by
    have := D.rounded n a W n0 h a0 a1 k
    rwa [show fitE n a = 2 by simp [fitE, hb]] at this
  have HR : Hid (∀ W, Calls Tryd.prog 21 #[.int .i64 n, .int .i64 a] W fun e w' => e = .returned (.tuple #[.int .i64 (roundV n a), .int .i64 2]) ∧ w' = W) := fun W => by
    have := r3rounded W n a h
    rwa [show fitE n a = 2 by simp [fitE, hb]] at this
  go_enter Tryd.func5, Tryd.ntmps5
  go_wp2_with fail
  refine (HD.out _ HK0.out).mono ?_
  rintro e w1 ⟨rfl, h⟩
  have HK1 := Lib.hid (D.more _ _ HK0.out h)
  have HM1 := Lib.hid (HM0.out.trans h)
  clear h HK0 HM0
  go_wp2_with fail
  refine (HR.out _).mono ?_
  rintro e w' ⟨rfl, rfl⟩
  go_wp2_with fail
  refine (lives_any D _ HK1.out).mono ?_
  rintro e w2 ⟨rfl, h⟩
  have HK2 := Lib.hid (D.more _ _ HK1.out h)
  have HM2 := Lib.hid (HM1.out.trans h)
  clear h HK1 HM1
  go_wp2_with fail
  go_ret
  exact ⟨rfl, HM2.out⟩

theorem rounds_good (n a : Int) (hk : Ok w) (n0 : -9223372036854775808 ≤ n) (h : n ≤ 1048576) (a0 : -9223372036854775808 ≤ a) (a1 : a ≤ 9223372036854775807) (hb : badB n a = false) : Calls Tryd.prog 5 #[.int .i64 n, .int .i64 a] w (Gives w (.bool true)) := by
  have HK0 : Hid (Ok w) := hk
  have HM0 : Hid (More w w) := More.refl w
  have d0 : decide ((1048576 : Int) < n) = false := by simp; omega
  have HD : Hid (∀ W, Ok W → Calls Tryd.prog 20 #[.int .i64 n, .int .i64 a] W (Gives W (.tuple #[.int .i64 (roundV n a), .int .i64 0]))) := fun W k => by
    have := D.rounded n a W n0 h a0 a1 k
    rwa [show fitE n a = 0 by simp [fitE, hb]] at this
  have HR : Hid (∀ W, Calls Tryd.prog 21 #[.int .i64 n, .int .i64 a] W fun e w' => e = .returned (.tuple #[.int .i64 (roundV n a), .int .i64 0]) ∧ w' = W) := fun W => by
    have := r3rounded W n a h
    rwa [show fitE n a = 0 by simp [fitE, hb]] at this
  have g := round_big hb
  have d1 : decide (n ≤ roundV n a) = true := by simpa using g.1
  have d2 : decide (1 ≤ roundV n a) = true := by simpa using g.2
  go_enter Tryd.func5, Tryd.ntmps5
  go_wp2_with fail
  refine (HD.out _ HK0.out).mono ?_
  rintro e w1 ⟨rfl, h⟩
  have HK1 := Lib.hid (D.more _ _ HK0.out h)
  have HM1 := Lib.hid (HM0.out.trans h)
  clear h HK0 HM0
  go_wp2_with fail
  refine (HR.out _).mono ?_
  rintro e w' ⟨rfl, rfl⟩
  go_wp2_with fail
  refine (lives_any D _ HK1.out).mono ?_
  rintro e w2 ⟨rfl, h⟩
  have HK2 := Lib.hid (D.more _ _ HK1.out h)
  have HM2 := Lib.hid (HM1.out.trans h)
  clear h HK1 HM1
  go_wp2_with fail
  go_ret
  exact ⟨rfl, HM2.out⟩

theorem rounds_over (n a : Int) (hk : Ok w) (h : 1048576 < n) : Calls Tryd.prog 5 #[.int .i64 n, .int .i64 a] w (Gives w (.bool true)) := by
  have HK0 : Hid (Ok w) := hk
  have HM0 : Hid (More w w) := More.refl w
  have d0 : decide ((1048576 : Int) < n) = true := by simp; omega
  go_enter Tryd.func5, Tryd.ntmps5
  go_wp2_with fail
  refine (lives_any D _ HK0.out).mono ?_
  rintro e w1 ⟨rfl, h⟩
  have HK1 := Lib.hid (D.more _ _ HK0.out h)
  have HM1 := Lib.hid (HM0.out.trans h)
  clear h HK0 HM0
  go_wp2_with fail
  go_ret
  exact ⟨rfl, HM1.out⟩

theorem rounds_core (n a : Int) (hk : Ok w) (n0 : -9223372036854775808 ≤ n) (n1 : n ≤ 9223372036854775807) (a0 : -9223372036854775808 ≤ a) (a1 : a ≤ 9223372036854775807) : Calls Tryd.prog 5 #[.int .i64 n, .int .i64 a] w (Gives w (.bool true)) := by
  by_cases h : 1048576 < n
  · exact rounds_over D w n a hk h
  · cases hb : badB n a with
    | true => exact rounds_bad D w n a hk n0 (by omega) a0 a1 hb
    | false => exact rounds_good D w n a hk n0 (by omega) a0 a1 hb

theorem pages_1 (n m : Int) (hk : Ok w) (n0 : -9223372036854775808 ≤ n) (n1 : n ≤ 9223372036854775807) (h : n < 1) : Calls Tryd.prog 8 #[.int .i64 n, .int .i64 m] w (Gives w (.bool true)) := by
  have HK0 : Hid (Ok w) := hk
  have HM0 : Hid (More w w) := More.refl w
  have HP0 : Hid (∀ W, Ok W → Calls Tryd.prog 11 #[.int .i64 0] W (Gives W (.int .i64 0))) := fun W k => D.pages 0 W (by omega) (by omega) k
  have HPn : n ≤ 0 → Hid (∀ W, Ok W → Calls Tryd.prog 11 #[.int .i64 n] W (Gives W (.int .i64 0))) := fun q W k => by
    have := D.pages n W n0 n1 k
    rwa [show pgsV n = 0 from if_pos (by omega)] at this
  have d0 : decide (n < 1) = true := by simpa using h
  go_enter Tryd.func8, Tryd.ntmps8
  go_wp2_with fail
  all_goals first | (with_reducible refine Calls.mono (HP0.out _ HK0.out) ?_) | (with_reducible refine Calls.mono ((HPn (by omega)).out _ HK0.out) ?_)
  all_goals
    rintro e w1 ⟨rfl, h⟩
    have HK1 := Lib.hid (D.more _ _ HK0.out h)
    have HM1 := Lib.hid (HM0.out.trans h)
    clear h
    go_wp2_with fail
    refine (lives_any D _ HK1.out).mono ?_
    rintro e w2 ⟨rfl, h⟩
    have HM2 := Lib.hid (HM1.out.trans h)
    clear h
    go_wp2_with fail
    go_ret
    exact ⟨rfl, HM2.out⟩

theorem pages_2 (n m : Int) (hk : Ok w) (n0 : -9223372036854775808 ≤ n) (n1 : n ≤ 9223372036854775807) (h1 : 1 ≤ n) (h : m < 1) : Calls Tryd.prog 8 #[.int .i64 n, .int .i64 m] w (Gives w (.bool true)) := by
  have HK0 : Hid (Ok w) := hk
  have HM0 : Hid (More w w) := More.refl w
  have HP0 : Hid (∀ W, Ok W → Calls Tryd.prog 11 #[.int .i64 0] W (Gives W (.int .i64 0))) := fun W k => D.pages 0 W (by omega) (by omega) k
  have HPn : n ≤ 0 → Hid (∀ W, Ok W → Calls Tryd.prog 11 #[.int .i64 n] W (Gives W (.int .i64 0))) := fun q W k => by
    have := D.pages n W n0 n1 k
    rwa [show pgsV n = 0 from if_pos (by omega)] at this
  have d0 : decide (n < 1) = false := by simp; omega
  have d1 : decide (m < 1) = true := by simpa using h
  go_enter Tryd.func8, Tryd.ntmps8
  go_wp2_with fail
  all_goals first | (with_reducible refine Calls.mono (HP0.out _ HK0.out) ?_) | (with_reducible refine Calls.mono ((HPn (by omega)).out _ HK0.out) ?_)
  all_goals
    rintro e w1 ⟨rfl, h⟩
    have HK1 := Lib.hid (D.more _ _ HK0.out h)
    have HM1 := Lib.hid (HM0.out.trans h)
    clear h
    go_wp2_with fail
    refine (lives_any D _ HK1.out).mono ?_
    rintro e w2 ⟨rfl, h⟩
    have HM2 := Lib.hid (HM1.out.trans h)
    clear h
    go_wp2_with fail
    go_ret
    exact ⟨rfl, HM2.out⟩

theorem pages_3 (n m : Int) (hk : Ok w) (n0 : -9223372036854775808 ≤ n) (n1 : n ≤ 9223372036854775807) (h1 : 1 ≤ n) (h2 : 1 ≤ m) (h : 1152921504606846976 < n) : Calls Tryd.prog 8 #[.int .i64 n, .int .i64 m] w (Gives w (.bool true)) := by
  have HK0 : Hid (Ok w) := hk
  have HM0 : Hid (More w w) := More.refl w
  have HP0 : Hid (∀ W, Ok W → Calls Tryd.prog 11 #[.int .i64 0] W (Gives W (.int .i64 0))) := fun W k => D.pages 0 W (by omega) (by omega) k
  have HPn : n ≤ 0 → Hid (∀ W, Ok W → Calls Tryd.prog 11 #[.int .i64 n] W (Gives W (.int .i64 0))) := fun q W k => by
    have := D.pages n W n0 n1 k
    rwa [show pgsV n = 0 from if_pos (by omega)] at this
  have d0 : decide (n < 1) = false := by simp; omega
  have d1 : decide (m < 1) = false := by simp; omega
  have d2 : decide ((1152921504606846976 : Int) < n) = true := by simpa using h
  go_enter Tryd.func8, Tryd.ntmps8
  go_wp2_with fail
  all_goals first | (with_reducible refine Calls.mono (HP0.out _ HK0.out) ?_) | (with_reducible refine Calls.mono ((HPn (by omega)).out _ HK0.out) ?_)
  all_goals
    rintro e w1 ⟨rfl, h⟩
    have HK1 := Lib.hid (D.more _ _ HK0.out h)
    have HM1 := Lib.hid (HM0.out.trans h)
    clear h
    go_wp2_with fail
    refine (lives_any D _ HK1.out).mono ?_
    rintro e w2 ⟨rfl, h⟩
    have HM2 := Lib.hid (HM1.out.trans h)
    clear h
    go_wp2_with fail
    go_ret
    exact ⟨rfl, HM2.out⟩

theorem pages_4 (n m : Int) (hk : Ok w) (n0 : -9223372036854775808 ≤ n) (n1 : n ≤ 9223372036854775807) (h1 : 1 ≤ n) (h2 : 1 ≤ m) (h3 : n ≤ 1152921504606846976) (h : 1152921504606846976 < m) : Calls Tryd.prog 8 #[.int .i64 n, .int .i64 m] w (Gives w (.bool true)) := by
  have HK0 : Hid (Ok w) := hk
  have HM0 : Hid (More w w) := More.refl w
  have HP0 : Hid (∀ W, Ok W → Calls Tryd.prog 11 #[.int .i64 0] W (Gives W (.int .i64 0))) := fun W k => D.pages 0 W (by omega) (by omega) k
  have HPn : n ≤ 0 → Hid (∀ W, Ok W → Calls Tryd.prog 11 #[.int .i64 n] W (Gives W (.int .i64 0))) := fun q W k => by
    have := D.pages n W n0 n1 k
    rwa [show pgsV n = 0 from if_pos (by omega)] at this
  have d0 : decide (n < 1) = false := by simp; omega
  have d1 : decide (m < 1) = false := by simp; omega
  have d2 : decide ((1152921504606846976 : Int) < n) = false := by simp; omega
  have d3 : decide ((1152921504606846976 : Int) < m) = true := by simpa using h
  go_enter Tryd.func8, Tryd.ntmps8
  go_wp2_with fail
  all_goals first | (with_reducible refine Calls.mono (HP0.out _ HK0.out) ?_) | (with_reducible refine Calls.mono ((HPn (by omega)).out _ HK0.out) ?_)
  all_goals
    rintro e w1 ⟨rfl, h⟩
    have HK1 := Lib.hid (D.more _ _ HK0.out h)
    have HM1 := Lib.hid (HM0.out.trans h)
    clear h
    go_wp2_with fail
    refine (lives_any D _ HK1.out).mono ?_
    rintro e w2 ⟨rfl, h⟩
    have HM2 := Lib.hid (HM1.out.trans h)
    clear h
    go_wp2_with fail
    go_ret
    exact ⟨rfl, HM2.out⟩

theorem pages_in (n m : Int) (hk : Ok w) (h1 : 1 ≤ n) (h2 : 1 ≤ m) (h3 : n ≤ 1152921504606846976) (h4 : m ≤ 1152921504606846976) : Calls Tryd.prog 8 #[.int .i64 n, .int .i64 m] w (Gives w (.bool true)) := by
  have HK0 : Hid (Ok w) := hk
  have HM0 : Hid (More w w) := More.refl w
  have d0 : decide (n < 1) = false := by simp; omega
  have d1 : decide (m < 1) = false := by simp; omega
  have d2 : decide ((1152921504606846976 : Int) < n) = false := by simp; omega
  have d3 : decide ((1152921504606846976 : Int) < m) = false := by simp; omega
  have e1 : pgsV n = (n - 1) / 32 + 1 := if_neg (by omega)
  have e2 : pgsV m = (m - 1) / 32 + 1 := if_neg (by omega)
  have e3 : pgsV (n + m) = (n + m - 1) / 32 + 1 := if_neg (by omega)
  have q0 : IntKind.i64.wrap (n + m) = n + m := wrap_in (by omega) (by omega)
  have q1 : IntKind.i64.wrap (pgsV n + pgsV m) = pgsV n + pgsV m := wrap_in (by omega) (by omega)
  have q2 : IntKind.i64.wrap (pgsV (n + m) + 1) = pgsV (n + m) + 1 := wrap_in (by omega) (by omega)
  have q3 : IntKind.i64.wrap (32 * pgsV n) = 32 * pgsV n := wrap_in (by omega) (by omega)
  have q4 : IntKind.i64.wrap (32 * pgsV n - n) = 32 * pgsV n - n := wrap_in (by omega) (by omega)
  have t1 : decide (pgsV (n + m) ≤ pgsV n + pgsV m) = true := by simp; omega
  have t2 : decide (pgsV n + pgsV m ≤ pgsV (n + m) + 1) = true := by simp; omega
  have t3 : decide (n ≤ 32 * pgsV n) = true := by simp; omega
  have t4 : decide (32 * pgsV n - n < 32) = true := by simp; omega
  have HPn : Hid (∀ W, Ok W → Calls Tryd.prog 11 #[.int .i64 n] W (Gives W (.int .i64 (pgsV n)))) := fun W k => D.pages n W (by omega) (by omega) k
  have HPm : Hid (∀ W, Ok W → Calls Tryd.prog 11 #[.int .i64 m] W (Gives W (.int .i64 (pgsV m)))) := fun W k => D.pages m W (by omega) (by omega) k
  have HPs : Hid (∀ W, Ok W → Calls Tryd.prog 11 #[.int .i64 (n + m)] W (Gives W (.int .i64 (pgsV (n + m))))) := fun W k => D.pages (n + m) W (by omega) (by omega) k
  clear e1 e2 e3
  go_enter Tryd.func8, Tryd.ntmps8
  go_wp2_with fail
  refine (HPn.out _ HK0.out).mono ?_
  rintro e w1 ⟨rfl, h⟩
  have HK1 := Lib.hid (D.more _ _ HK0.out h)
  have HM1 := Lib.hid (HM0.out.trans h)
  clear h HK0 HM0
  go_wp2_with fail
  refine (HPm.out _ HK1.out).mono ?_
  rintro e w2 ⟨rfl, h⟩
  have HK2 := Lib.hid (D.more _ _ HK1.out h)
  have HM2 := Lib.hid (HM1.out.trans h)
  clear h HK1 HM1
  go_wp2_with fail
  refine (HPs.out _ HK2.out).mono ?_
  rintro e w3 ⟨rfl, h⟩
  have HK3 := Lib.hid (D.more _ _ HK2.out h)
  have HM3 := Lib.hid (HM2.out.trans h)
  clear h HK2 HM2
  go_wp2_with fail
  refine (HPn.out _ HK3.out).mono ?_
  rintro e w4 ⟨rfl, h⟩
  have HK4 := Lib.hid (D.more _ _ HK3.out h)
  have HM4 := Lib.hid (HM3.out.trans h)
  clear h HK3 HM3
  go_wp2_with fail
  refine (HPn.out _ HK4.out).mono ?_
  rintro e w5 ⟨rfl, h⟩
  have HK5 := Lib.hid (D.more _ _ HK4.out h)
  have HM5 := Lib.hid (HM4.out.trans h)
  clear h HK4 HM4
  go_wp2_with fail
  refine (lives_any D _ HK5.out).mono ?_
  rintro e w6 ⟨rfl, h⟩
  have HK6 := Lib.hid (D.more _ _ HK5.out h)
  have HM6 := Lib.hid (HM5.out.trans h)
  clear h HK5 HM5
  go_wp2_with fail
  go_ret
  exact ⟨rfl, HM6.out⟩

theorem pages_core (n m : Int) (hk : Ok w) (n0 : -9223372036854775808 ≤ n) (n1 : n ≤ 9223372036854775807) : Calls Tryd.prog 8 #[.int .i64 n, .int .i64 m] w (Gives w (.bool true)) := by
  by_cases h1 : n < 1
  · exact pages_1 D w n m hk n0 n1 h1
  by_cases h2 : m < 1
  · exact pages_2 D w n m hk n0 n1 (by omega) h2
  by_cases h3 : 1152921504606846976 < n
  · exact pages_3 D w n m hk n0 n1 (by omega) (by omega) h3
  by_cases h4 : 1152921504606846976 < m
  · exact pages_4 D w n m hk n0 n1 (by omega) (by omega) (by omega) h4
  exact pages_in D w n m hk (by omega) (by omega) (by omega) (by omega)

end Go.Proofs.YtiechakfjhifaaaDoor
