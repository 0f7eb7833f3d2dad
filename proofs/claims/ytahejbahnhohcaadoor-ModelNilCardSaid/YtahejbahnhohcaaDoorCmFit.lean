/-
  The landed class: Fit and Rounded, where its table of sizes lies.
-/
import Derived.Test.YtahejbahnhohcaaDoorCm
namespace Go.Proofs.YtahejbahnhohcaaDoor
open Go.RowKit
set_option linter.unusedVariables false
set_option linter.unusedSimpArgs false

def clsV (n : Int) : Int := if n ≤ 1 then 0 else if n ≤ 2 then 1 else if n ≤ 4 then 2 else if n ≤ 8 then 3 else if n ≤ 16 then 4 else -1
def pgsV (n : Int) : Int := if n < 1 then 0 else (n - 1) / 32 + 1
def powB (a : Int) : Bool := a == 1 || a == 2 || a == 4 || a == 8 || a == 16 || a == 32 || a == 64 || a == 128
theorem cls_found {k : Nat} {n : Int} (h : k ≤ 4) (h1 : n ≤ szV k) (h0 : ∀ j : Nat, j < k → szV j < n) : clsV n = k := by
  rcases ways5c h with rfl | rfl | rfl | rfl | rfl
  · have : n ≤ 1 := h1
    unfold clsV; rw [if_pos (by omega)]; rfl
  · have a : n ≤ 2 := h1
    have b : (1 : Int) < n := h0 0 (by omega)
    unfold clsV; rw [if_neg (by omega), if_pos (by omega)]; rfl
  · have a : n ≤ 4 := h1
    have b : (2 : Int) < n := h0 1 (by omega)
    unfold clsV; rw [if_neg (by omega), if_neg (by omega), if_pos (by omega)]; rfl
  · have a : n ≤ 8 := h1
    have b : (4 : Int) < n := h0 2 (by omega)
    unfold clsV; rw [if_neg (by omega), if_neg (by omega), if_neg (by omega), if_pos (by omega)]; rfl
  · have a : n ≤ 16 := h1
    have b : (8 : Int) < n := h0 3 (by omega)
    unfold clsV; rw [if_neg (by omega), if_neg (by omega), if_neg (by omega), if_neg (by omega), if_pos (by omega)]; rfl
theorem cls_none {n : Int} (h : ∀ j : Nat, j < 5 → szV j < n) : clsV n = -1 := by
  have b : (16 : Int) < n := h 4 (by omega)
  unfold clsV; rw [if_neg (by omega), if_neg (by omega), if_neg (by omega), if_neg (by omega), if_neg (by omega)]
theorem cls_b (n : Int) : -1 ≤ clsV n ∧ clsV n ≤ 4 := by
  unfold clsV; (repeat' split) <;> omega
theorem pgs_b {n : Int} (h : n ≤ 9223372036854775807) : 0 ≤ pgsV n ∧ pgsV n ≤ 288230376151711744 := by
  unfold pgsV; split <;> omega
theorem pw_step {k : Nat} (h : k < 8) : szT k * 2 = szT (k + 1) ∧ 1 ≤ szT k ∧ szT k ≤ 128 := by
  rcases ways8c h with rfl | rfl | rfl | rfl | rfl | rfl | rfl | rfl <;> decide
theorem powB_yes {k : Nat} {a : Int} (h : k < 8) (e : szT k = a) : powB a = true := by
  subst e
  rcases ways8c h with rfl | rfl | rfl | rfl | rfl | rfl | rfl | rfl <;> decide
theorem powB_no {a : Int} (h : ∀ k : Nat, k < 8 → szT k ≠ a) : powB a = false := by
  have h0 := h 0 (by omega); have h1 := h 1 (by omega); have h2 := h 2 (by omega); have h3 := h 3 (by omega)
  have h4 := h 4 (by omega); have h5 := h 5 (by omega); have h6 := h 6 (by omega); have h7 := h 7 (by omega)
  simp only [szT] at h0 h1 h2 h3 h4 h5 h6 h7
  simp [powB]; omega

/-- The greater one. -/
def mx (x y : Int) : Int := if x < y then y else x
def badB (n a : Int) : Bool := decide (n < 0) || !powB a
def smallB (n a : Int) : Bool := decide (n ≤ 16) && decide (a ≤ 16)
def fitC (n a : Int) : Int := if badB n a then 0 else if smallB n a then mx (clsV n) (clsV a) else -1
def fitP (n a : Int) : Int := if badB n a then 0 else if smallB n a then 0 else pgsV (mx n 1)
def fitS (n a : Int) : Int := if badB n a then 0 else if smallB n a then 0 else mx 1 (a / 32)
def fitE (n a : Int) : Int := if badB n a then 2 else 0
def fitT (n a : Int) : Value := .tuple #[.int .i64 (fitC n a), .int .i64 (fitP n a), .int .i64 (fitS n a), .int .i64 (fitE n a)]
/-- The words of the block, as a number of 64 bits. -/
def roundV (n a : Int) : Int := if badB n a then 0 else if smallB n a then szV (fitC n a) else IntKind.i64.wrap (fitP n a * 32)

theorem powB_b {a : Int} (h : powB a = true) : 1 ≤ a ∧ a ≤ 128 := by
  simp [powB] at h; omega
theorem fitP_b (n a : Int) (h : n ≤ 9223372036854775807) : 0 ≤ fitP n a ∧ fitP n a ≤ 288230376151711744 := by
  unfold fitP; split
  · omega
  · split
    · omega
    · have : mx n 1 ≤ 9223372036854775807 := by unfold mx; split <;> omega
      have := pgs_b this
      omega

theorem cl_of (n : Int) (w : World) (h : Sizes w) : Calls Tryd.prog 63 #[.int .i64 n] w fun e w' => e = .returned (.int .i64 (clsV n)) ∧ w' = w := by
  obtain ⟨b, o, cap, h1, h2, h3, h4⟩ := h
  have Hc := Lib.hid h4
  have h2' : (5 : Int) ≤ (cap : Int) := by omega
  have h2'' : (8 : Int) ≤ (cap : Int) := by omega
  clear h4
  go_enter Tryd.func63, Tryd.ntmps63
  go_wp2_with fail
  go_loop [3, 4, 8] (fun _ _ i => ∃ k : Nat, k ≤ 5 ∧ i = .int .i64 k ∧ ∀ j : Nat, j < k → szV j < n) (fun _ _ i => 5 - (intOf i).toNat)
  case atStart => exact ⟨0, Nat.zero_le _, rfl, fun j h => absurd h (by omega)⟩
  case round =>
    obtain ⟨k, hk, rfl, hj⟩ := hrel
    have Hj := Lib.hid hj
    clear hj
    by_cases hlt : k < 5
    · have d0 : decide ((k : Int) < 5) = true := by simp; omega
      have x1 := Hc.out k (by omega)
      rw [szT_sz hlt] at x1
      by_cases hs : n ≤ szV k
      · have d1 : decide (n ≤ szV k) = true := by simpa using hs
        have HX := Lib.hid (cls_found (by omega) hs Hj.out)
        go_wp2_with fail
        go_ret
        exact ⟨by rw [HX.out]; rfl, rfl⟩
      · have d1 : decide (n ≤ szV k) = false := by simpa using hs
        go_wp2_with fail
        go_round
        case rel => exact ⟨k + 1, by omega, by go_num, fun j h => by
          by_cases q : j = k
          · subst q; omega
          · exact Hj.out j (by omega)⟩
        case measure => simp [intOf]; omega
    · have he : k = 5 := by omega
      subst he
      have HX := Lib.hid (cls_none Hj.out)
      have d0 : decide (((5 : Nat) : Int) < 5) = false := by simp
      go_wp2_with fail
      go_ret
      exact ⟨by rw [HX.out]; rfl, rfl⟩

theorem cl_pages (n : Int) (h : n ≤ 9223372036854775807) (w : World) : Calls Tryd.prog 64 #[.int .i64 n] w fun e w' => e = .returned (.int .i64 (pgsV n)) ∧ w' = w := by
  by_cases c0 : n < 1
  · have d0 : decide (n < 1) = true := by simp; omega
    rw [show pgsV n = 0 from if_pos c0]
    go_enter Tryd.func64, Tryd.ntmps64
    go_wp2_with fail
    go_ret
    exact ⟨rfl, rfl⟩
  · have d0 : decide (n < 1) = false := by simp; omega
    rw [show pgsV n = (n - 1) / 32 + 1 from if_neg c0]
    have q0 : IntKind.i64.wrap (n - 1) = n - 1 := wrap_in (by omega) (by omega)
    have q1 : IntKind.i64.wrap ((n - 1).tdiv 32) = (n - 1) / 32 := by rw [Int.tdiv_eq_ediv_of_nonneg (by omega)]; exact wrap_in (by omega) (by omega)
    have q2 : IntKind.i64.wrap ((n - 1) / 32 + 1) = (n - 1) / 32 + 1 := wrap_in (by omega) (by omega)
    go_enter Tryd.func64, Tryd.ntmps64
    go_wp2_with fail
    go_ret
    exact ⟨rfl, rfl⟩

theorem cl_aligns (a : Int) (w : World) (h : Sizes w) : Calls Tryd.prog 62 #[.int .i64 a] w fun e w' => e = .returned (.bool (powB a)) ∧ w' = w := by
  obtain ⟨b, o, cap, h1, h2, h3, h4⟩ := h
  have Hc := Lib.hid h4
  clear h4
  go_enter Tryd.func62, Tryd.ntmps62
  go_wp2_with fail
  go_loop [4, 7] (fun _ i => ∃ k : Nat, k ≤ 8 ∧ i = .int .i64 k ∧ ∀ j : Nat, j < k → szT j ≠ a) (fun _ i => 8 - (intOf i).toNat)
  case atStart => exact ⟨0, Nat.zero_le _, rfl, fun j h => absurd h (by omega)⟩
  case round =>
    obtain ⟨k, hk, rfl, hj⟩ := hrel
    have Hj := Lib.hid hj
    clear hj
    by_cases hlt : k < 8
    · have d0 : decide ((k : Int) < 8) = true := by simp; omega
      have x1 := Hc.out k hlt
      by_cases hs : szT k = a
      · have d1 : decide (szT k = a) = true := by simpa using hs
        have HX := Lib.hid (powB_yes hlt hs)
        clear hs
        have d2 : (szT k == a) = true := by simpa using d1
        go_wp2_with fail
        go_ret
        exact ⟨by rw [HX.out]; rfl, rfl⟩
      · have d1 : decide (szT k = a) = false := by simpa using hs
        have d2 : (szT k == a) = false := by simpa using d1
        have Hs := Lib.hid hs
        clear hs
        go_wp2_with fail
        go_round
        case rel => exact ⟨k + 1, by omega, by go_num, fun j h => by
          by_cases q : j = k
          · subst q; exact Hs.out
          · exact Hj.out j (by omega)⟩
        case measure => simp [intOf]; omega
    · have he : k = 8 := by omega
      subst he
      have HX := Lib.hid (powB_no Hj.out)
      have d0 : decide (((8 : Nat) : Int) < 8) = false := by simp
      go_wp2_with fail
      go_ret
      exact ⟨by rw [HX.out]; rfl, rfl⟩

/-- The class of the greater one is the greater one of the classes. -/
theorem cls_mx {n a : Int} (h1 : n ≤ 16) (h2 : a ≤ 16) : clsV (mx n a) = mx (clsV n) (clsV a) := by
  unfold clsV mx
  (repeat' split) <;> omega
theorem cls_over {n a : Int} (h : 16 < n ∨ 16 < a) : clsV (mx n a) = -1 := by
  have : 16 < mx n a := by unfold mx; split <;> omega
  unfold clsV; (repeat' split) <;> omega

set_option maxHeartbeats 2000000 in
theorem cl_fit (n a : Int) (hn : n ≤ 9223372036854775807) (w : World) (h : Sizes w) : Calls Tryd.prog 51 #[.int .i64 n, .int .i64 a] w fun e w' => e = .returned (fitT n a) ∧ w' = w := by
  by_cases c0 : n < 0
  · have d0 : decide (n < 0) = true := by simp; omega
    rw [show fitT n a = .tuple #[.int .i64 0, .int .i64 0, .int .i64 0, .int .i64 2] by simp [fitT, fitC, fitP, fitS, fitE, badB, c0]]
    go_enter Tryd.func51, Tryd.ntmps51
    go_wp2_with fail
    refine bodyPost_ret (v := .tuple #[.int .i64 0, .int .i64 0, .int .i64 0, .int .i64 2]) (by simp [results, Tryd.results51, go_sem]) rfl ⟨rfl, rfl⟩
  · have d0 : decide (n < 0) = false := by simp; omega
    cases hp : powB a with
    | false =>
      rw [show fitT n a = .tuple #[.int .i64 0, .int .i64 0, .int .i64 0, .int .i64 2] by simp [fitT, fitC, fitP, fitS, fitE, badB, hp]]
      have HP := Lib.hid (fun W hW => cl_aligns a W hW)
      rw [hp] at HP
      go_enter Tryd.func51, Tryd.ntmps51
      go_wp2_with fail
      refine (HP.out _ h).mono ?_
      rintro e w1 ⟨rfl, rfl⟩
      go_wp2_with fail
      refine bodyPost_ret (v := .tuple #[.int .i64 0, .int .i64 0, .int .i64 0, .int .i64 2]) (by simp [results, Tryd.results51, go_sem]) rfl ⟨rfl, rfl⟩
    | true =>
      have HP := Lib.hid (fun W hW => cl_aligns a W hW)
      rw [hp] at HP
      have hb : badB n a = false := by simp [badB, hp]; omega
      have pb := powB_b hp
      by_cases c1 : n ≤ 16 ∧ a ≤ 16
      · have e1 : smallB n a = true := by simp [smallB]; omega
        rw [show fitT n a = .tuple #[.int .i64 (clsV (mx n a)), .int .i64 0, .int .i64 0, .int .i64 0] by rw [cls_mx c1.1 c1.2]; simp [fitT, fitC, fitP, fitS, fitE, hb, e1]]
        have hge : 0 ≤ clsV (mx n a) := by have : mx n a ≤ 16 := by unfold mx; split <;> omega
                                           unfold clsV; (repeat' split) <;> omega
        have d1 : decide (0 ≤ clsV (mx n a)) = true := by simpa using hge
        clear e1 c1
        by_cases c2 : n < a
        · have HO : Hid (∀ W, Sizes W → Calls Tryd.prog 63 #[.int .i64 a] W fun e w' => e = .returned (.int .i64 (clsV (mx n a))) ∧ w' = W) := fun W hW => by
            rw [show mx n a = a from if_pos c2]; exact cl_of a W hW
          have d2 : decide (n < a) = true := by simpa using c2
          have HN := Lib.hid (Int.not_le.2 c2)
          go_enter Tryd.func51, Tryd.ntmps51
          go_wp2_with fail
          refine (HP.out _ h).mono ?_
          rintro e w1 ⟨rfl, rfl⟩
          go_wp2_with fail
          all_goals refine (HO.out _ h).mono ?_
          all_goals rintro e w1 ⟨rfl, rfl⟩
          all_goals go_wp2_with fail
          all_goals refine bodyPost_ret (v := .tuple #[.int .i64 (clsV (mx n a)), .int .i64 0, .int .i64 0, .int .i64 0]) (by simp [results, Tryd.results51, go_sem]) rfl ⟨rfl, rfl⟩
        · have HO : Hid (∀ W, Sizes W → Calls Tryd.prog 63 #[.int .i64 n] W fun e w' => e = .returned (.int .i64 (clsV (mx n a))) ∧ w' = W) := fun W hW => by
            rw [show mx n a = n from if_neg c2]; exact cl_of n W hW
          have d2 : decide (n < a) = false := by simpa using c2
          go_enter Tryd.func51, Tryd.ntmps51
          go_wp2_with fail
          refine (HP.out _ h).mono ?_
          rintro e w1 ⟨rfl, rfl⟩
          go_wp2_with fail
          all_goals refine (HO.out _ h).mono ?_
          all_goals rintro e w1 ⟨rfl, rfl⟩
          all_goals go_wp2_with fail
          all_goals refine bodyPost_ret (v := .tuple #[.int .i64 (clsV (mx n a)), .int .i64 0, .int .i64 0, .int .i64 0]) (by simp [results, Tryd.results51, go_sem]) rfl ⟨rfl, rfl⟩
      · have e1 : smallB n a = false := by simp [smallB]; omega
        have hov : 16 < n ∨ 16 < a := by omega
        have q0 : IntKind.i64.wrap (a.tdiv 32) = a / 32 := by rw [Int.tdiv_eq_ediv_of_nonneg (by omega)]; exact wrap_in (by omega) (by omega)
        rw [show fitT n a = .tuple #[.int .i64 (-1), .int .i64 (pgsV (mx n 1)), .int .i64 (mx 1 (a / 32)), .int .i64 0] by simp [fitT, fitC, fitP, fitS, fitE, hb, e1]]
        have HG : Hid (∀ W, Calls Tryd.prog 64 #[.int .i64 n] W fun e w' => e = .returned (.int .i64 (pgsV n)) ∧ w' = W) := fun W => cl_pages n hn W
        have HG1 : Hid (∀ W, Calls Tryd.prog 64 #[.int .i64 1] W fun e w' => e = .returned (.int .i64 (pgsV 1)) ∧ w' = W) := fun W => cl_pages 1 (by omega) W
        have HO : Hid (∀ W, Sizes W → Calls Tryd.prog 63 #[.int .i64 a] W fun e w' => e = .returned (.int .i64 (if n < a then -1 else clsV a)) ∧ w' = W) := fun W hW => by
          refine (cl_of a W hW).mono ?_
          rintro e w1 ⟨rfl, rfl⟩
          refine ⟨?_, rfl⟩
          split
          · rw [show clsV a = -1 by have := cls_over hov; rwa [show mx n a = a from if_pos (by assumption)] at this]
          · rfl
        have HO2 : Hid (∀ W, Sizes W → Calls Tryd.prog 63 #[.int .i64 n] W fun e w' => e = .returned (.int .i64 (if n < a then clsV n else -1)) ∧ w' = W) := fun W hW => by
          refine (cl_of n W hW).mono ?_
          rintro e w1 ⟨rfl, rfl⟩
          refine ⟨?_, rfl⟩
          split
          · rfl
          · rw [show clsV n = -1 by have := cls_over hov; rwa [show mx n a = n from if_neg (by assumption)] at this]
        clear e1 c1
        by_cases c2 : n < a
        · have d2 : decide (n < a) = true := by simpa using c2
          have d3 : decide ((0 : Int) ≤ -1) = false := by decide
          rw [if_pos c2] at HO
          go_enter Tryd.func51, Tryd.ntmps51
          go_wp2_with fail
          refine (HP.out _ h).mono ?_
          rintro e w1 ⟨rfl, rfl⟩
          go_wp2_with fail
          all_goals refine (HO.out _ h).mono ?_
          all_goals rintro e w1 ⟨rfl, rfl⟩
          all_goals go_wp2_with fail
          all_goals first | (with_reducible refine Calls.mono (HG.out _) ?_; rintro e w1 ⟨rfl, rfl⟩) | (with_reducible refine Calls.mono (HG1.out _) ?_; rintro e w1 ⟨rfl, rfl⟩)
          all_goals go_wp2_with fail
          all_goals refine bodyPost_ret (v := .tuple #[.int .i64 (-1), .int .i64 (pgsV (mx n 1)), .int .i64 (mx 1 (a / 32)), .int .i64 0]) (by simp [results, Tryd.results51, go_sem]; unfold mx; (repeat' split) <;> first | (exfalso; omega) | (simp; done) | (simp; omega) | omega) rfl ⟨rfl, rfl⟩
        · have d2 : decide (n < a) = false := by simpa using c2
          rw [if_neg c2] at HO2
          go_enter Tryd.func51, Tryd.ntmps51
          go_wp2_with fail
          refine (HP.out _ h).mono ?_
          rintro e w1 ⟨rfl, rfl⟩
          go_wp2_with fail
          all_goals refine (HO2.out _ h).mono ?_
          all_goals rintro e w1 ⟨rfl, rfl⟩
          all_goals go_wp2_with fail
          all_goals first | (with_reducible refine Calls.mono (HG.out _) ?_; rintro e w1 ⟨rfl, rfl⟩) | (with_reducible refine Calls.mono (HG1.out _) ?_; rintro e w1 ⟨rfl, rfl⟩)
          all_goals go_wp2_with fail
          all_goals refine bodyPost_ret (v := .tuple #[.int .i64 (-1), .int .i64 (pgsV (mx n 1)), .int .i64 (mx 1 (a / 32)), .int .i64 0]) (by simp [results, Tryd.results51, go_sem]; unfold mx; (repeat' split) <;> first | (exfalso; omega) | (simp; done) | (simp; omega) | omega) rfl ⟨rfl, rfl⟩

theorem clf_small {n a : Int} (hb : badB n a = false) (h : smallB n a = true) : 0 ≤ fitC n a ∧ fitP n a = 0 := by
  refine ⟨?_, by simp [fitP, hb, h]⟩
  simp only [fitC, hb, h]
  have := (show n ≤ 16 by simp [smallB] at h; omega)
  have e : clsV n ≠ -1 := by unfold clsV; (repeat' split) <;> omega
  have e2 := (cls_b n).1
  show 0 ≤ mx (clsV n) (clsV a)
  unfold mx; split <;> omega
theorem clf_big {n a : Int} (hb : badB n a = false) (h : smallB n a = false) : fitC n a = -1 := by simp [fitC, hb, h]


theorem cl_rounded (n a : Int) (hn : n ≤ 9223372036854775807) (w : World) (hs : Sizes w) : Calls Tryd.prog 55 #[.int .i64 n, .int .i64 a] w fun e w' => e = .returned (.tuple #[.int .i64 (roundV n a), .int .i64 (fitE n a)]) ∧ w' = w := by
  have HF := Lib.hid (fun W hW => cl_fit n a hn W hW)
  cases hb : badB n a with
  | true =>
    rw [show fitT n a = .tuple #[.int .i64 0, .int .i64 0, .int .i64 0, .int .i64 2] by simp [fitT, fitC, fitP, fitS, fitE, hb]] at HF
    rw [show roundV n a = 0 by simp [roundV, hb], show fitE n a = 2 by simp [fitE, hb]]
    go_enter Tryd.func55, Tryd.ntmps55
    go_wp2_with fail
    refine (HF.out _ hs).mono ?_
    rintro e w1 ⟨rfl, rfl⟩
    go_wp2_with fail
    refine bodyPost_ret (v := .tuple #[.int .i64 0, .int .i64 2]) (by simp [results, Tryd.results55, go_sem]) rfl ⟨rfl, rfl⟩
  | false =>
    cases hm : smallB n a with
    | true =>
      have hc := (clf_small hb hm).1
      rw [show fitT n a = .tuple #[.int .i64 (fitC n a), .int .i64 0, .int .i64 0, .int .i64 0] by simp [fitT, fitP, fitS, fitE, hb, hm]] at HF
      rw [show roundV n a = szV (fitC n a) by simp [roundV, hb, hm], show fitE n a = 0 by simp [fitE, hb]]
      have d1 : decide (0 ≤ fitC n a) = true := by simpa using hc
      have HZ := Lib.hid (fun W hW => cl_size (fitC n a) W hW)
      generalize fitC n a = k at *
      go_enter Tryd.func55, Tryd.ntmps55
      go_wp2_with fail
      refine (HF.out _ hs).mono ?_
      rintro e w1 ⟨rfl, rfl⟩
      go_wp2_with fail
      refine (HZ.out _ hs).mono ?_
      rintro e w1 ⟨rfl, rfl⟩
      go_wp2_with fail
      refine bodyPost_ret (v := .tuple #[.int .i64 (szV k), .int .i64 0]) (by simp [results, Tryd.results55, go_sem]) rfl ⟨rfl, rfl⟩
    | false =>
      rw [show fitT n a = .tuple #[.int .i64 (-1), .int .i64 (fitP n a), .int .i64 (fitS n a), .int .i64 0] by rw [fitT, clf_big hb hm]; simp [fitE, hb]] at HF
      rw [show roundV n a = IntKind.i64.wrap (fitP n a * 32) by simp [roundV, hb, hm], show fitE n a = 0 by simp [fitE, hb]]
      have d1 : decide ((0 : Int) ≤ -1) = false := by decide
      generalize fitP n a = k at *
      generalize fitS n a = k2 at *
      obtain ⟨z, hz⟩ : ∃ z, IntKind.i64.wrap (k * 32) = z := ⟨_, rfl⟩
      rw [hz]
      go_enter Tryd.func55, Tryd.ntmps55
      go_wp2_with fail
      refine (HF.out _ hs).mono ?_
      rintro e w1 ⟨rfl, rfl⟩
      go_wp2_with fail
      refine bodyPost_ret (v := .tuple #[.int .i64 z, .int .i64 0]) (by simp [results, Tryd.results55, go_sem, hz]) rfl ⟨rfl, rfl⟩
/-- What is known of a block's kind. -/
theorem sz_mx : ∀ i : Nat, i < 5 → ∀ j : Nat, j < 5 → szV (mx (i : Int) (j : Int)) % szV (j : Int) = 0 ∧ szV (i : Int) ≤ szV (mx (i : Int) (j : Int)) := by decide
theorem cls_sz {n : Int} (h : n ≤ 16) : ∃ i : Nat, i < 5 ∧ clsV n = (i : Int) ∧ n ≤ szV (i : Int) := by
  unfold clsV
  by_cases h1 : n ≤ 1
  · exact ⟨0, by omega, by rw [if_pos h1]; rfl, h1⟩
  by_cases h2 : n ≤ 2
  · exact ⟨1, by omega, by rw [if_neg h1, if_pos h2]; rfl, h2⟩
  by_cases h3 : n ≤ 4
  · exact ⟨2, by omega, by rw [if_neg h1, if_neg h2, if_pos h3]; rfl, h3⟩
  by_cases h4 : n ≤ 8
  · exact ⟨3, by omega, by rw [if_neg h1, if_neg h2, if_neg h3, if_pos h4]; rfl, h4⟩
  · exact ⟨4, by omega, by rw [if_neg h1, if_neg h2, if_neg h3, if_neg h4, if_pos h]; rfl, h⟩
theorem cls_pow {a : Int} (hp : powB a = true) (h : a ≤ 16) : ∃ j : Nat, j < 5 ∧ clsV a = (j : Int) ∧ szV (j : Int) = a := by
  simp [powB] at hp
  have : a = 1 ∨ a = 2 ∨ a = 4 ∨ a = 8 ∨ a = 16 := by omega
  rcases this with rfl | rfl | rfl | rfl | rfl
  · exact ⟨0, by omega, rfl, rfl⟩
  · exact ⟨1, by omega, rfl, rfl⟩
  · exact ⟨2, by omega, rfl, rfl⟩
  · exact ⟨3, by omega, rfl, rfl⟩
  · exact ⟨4, by omega, rfl, rfl⟩
theorem fit_small {n a : Int} (hb : badB n a = false) (h : smallB n a = true) : 0 ≤ fitC n a ∧ fitC n a ≤ 4 ∧ fitP n a = 0 ∧ roundV n a = szV (fitC n a) ∧ n ≤ szV (fitC n a) ∧ szV (fitC n a) % a = 0 ∧ 1 ≤ a ∧ fitE n a = 0 := by
  obtain ⟨h0, h1⟩ := clf_small hb h
  have hp : powB a = true := by simp [badB] at hb; exact hb.2
  have hs : n ≤ 16 ∧ a ≤ 16 := by simpa [smallB] using h
  have e : fitC n a = mx (clsV n) (clsV a) := by simp [fitC, hb, h]
  obtain ⟨i, hi, e1, h2⟩ := cls_sz hs.1
  obtain ⟨j, hj, e2, h3⟩ := cls_pow hp hs.2
  obtain ⟨m1, m2⟩ := sz_mx i hi j hj
  rw [e1, e2] at e
  have hmx : mx (i : Int) (j : Int) ≤ 4 := by unfold mx; split <;> omega
  refine ⟨h0, by omega, h1, by simp [roundV, hb, h], by rw [e]; omega, by rw [e, ← h3]; exact m1, (powB_b hp).1, by simp [fitE, hb]⟩
theorem fit_big {n a : Int} (hb : badB n a = false) (h : smallB n a = false) : fitC n a = -1 ∧ 1 ≤ fitP n a ∧ n ≤ 32 * fitP n a ∧ 1 ≤ fitS n a ∧ (32 * fitS n a) % a = 0 ∧ 1 ≤ a ∧ roundV n a = IntKind.i64.wrap (fitP n a * 32) ∧ fitE n a = 0 := by
  have hp : powB a = true := by simp [badB] at hb; exact hb.2
  have e1 : fitP n a = pgsV (mx n 1) := by simp [fitP, hb, h]
  have e2 : fitS n a = mx 1 (a / 32) := by simp [fitS, hb, h]
  have hpb := powB_b hp
  have m1 : 1 ≤ mx n 1 ∧ n ≤ mx n 1 := by unfold mx; split <;> omega
  refine ⟨clf_big hb h, ?_, ?_, ?_, ?_, hpb.1, by simp [roundV, hb, h], by simp [fitE, hb]⟩
  · rw [e1]; unfold pgsV; split <;> omega
  · rw [e1]; unfold pgsV; split <;> omega
  · rw [e2]; unfold mx; split <;> omega
  · rw [e2]
    simp [powB] at hp
    rcases hp with ((((((rfl | rfl) | rfl) | rfl) | rfl) | rfl) | rfl) | rfl <;> decide
end Go.Proofs.YtahejbahnhohcaaDoor
