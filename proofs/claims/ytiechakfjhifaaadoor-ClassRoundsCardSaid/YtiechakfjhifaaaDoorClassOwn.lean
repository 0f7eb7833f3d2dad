/-
  The landed class under contract: where its table of sizes lies, each call answers as the document says.
-/
import Derived.Test.YtiechakfjhifaaaDoorClassLaid
import Derived.Test.YtiechakfjhifaaaDoorClassDoes
namespace Go.Proofs.YtiechakfjhifaaaDoor
open Go.RowKit
set_option linter.unusedVariables false
set_option linter.unusedSimpArgs false

theorem pw_size {k : Nat} (h : k < 5) : pw k = sizeV k := by
  rcases ways5 (show k ≤ 4 by omega) with rfl | rfl | rfl | rfl | rfl <;> rfl

theorem c_of (n : Int) (w : World) (h : Sizes w) : Calls Tryd.prog 9 #[.int .i64 n] w fun e w' => e = .returned (.int .i64 (clsV n)) ∧ w' = w := by
  obtain ⟨b, o, cap, h1, h2, h3, h4⟩ := h
  have Hc := Lib.hid h4
  have h2' : (5 : Int) ≤ (cap : Int) := by omega
  have h2'' : (8 : Int) ≤ (cap : Int) := by omega
  clear h4
  go_enter Tryd.func9, Tryd.ntmps9
  go_wp2_with fail
  go_loop [3, 4, 8] (fun _ _ i => ∃ k : Nat, k ≤ 5 ∧ i = .int .i64 k ∧ ∀ j : Nat, j < k → sizeV j < n) (fun _ _ i => 5 - (intOf i).toNat)
  case atStart => exact ⟨0, Nat.zero_le _, rfl, fun j h => absurd h (by omega)⟩
  case round =>
    obtain ⟨k, hk, rfl, hj⟩ := hrel
    have Hj := Lib.hid hj
    clear hj
    by_cases hlt : k < 5
    · have d0 : decide ((k : Int) < 5) = true := by simp; omega
      have x1 := Hc.out k (by omega)
      rw [pw_size hlt] at x1
      by_cases hs : n ≤ sizeV k
      · have d1 : decide (n ≤ sizeV k) = true := by simpa using hs
        have HX := Lib.hid (cls_found (by omega) hs Hj.out)
        go_wp2_with fail
        go_ret
        exact ⟨by rw [HX.out]; rfl, rfl⟩
      · have d1 : decide (n ≤ sizeV k) = false := by simpa using hs
        go_wp2_with fail
        go_round
        case rel => exact ⟨k + 1, by omega, by go_num, fun j h => by
          by_cases q : j = k
          · subst q; omega
          · exact Hj.out j (by omega)⟩
        case measure => simp [intOf]; omega
    · have he : k = 5 := by omega
      subst he
      have HX := Lib.hid (cls_none Hj.out)
      have d0 : decide (((5 : Nat) : Int) < 5) = false := by simp
      go_wp2_with fail
      go_ret
      exact ⟨by rw [HX.out]; rfl, rfl⟩

theorem c_size (c : Int) (w : World) (h : Sizes w) : Calls Tryd.prog 13 #[.int .i64 c] w fun e w' => e = .returned (.int .i64 (sizeV c)) ∧ w' = w := by
  by_cases hc : 0 ≤ c ∧ c < 5
  · obtain ⟨k, rfl⟩ : ∃ k : Nat, c = k := ⟨c.toNat, by omega⟩
    obtain ⟨b, o, cap, h1, h2, h3, h4⟩ := h
    have hk : k < 5 := by omega
    have x1 := h4 k (by omega)
    rw [pw_size hk] at x1
    have d0 : decide ((k : Int) < 0) = false := by simp
    have d1 : decide ((5 : Int) ≤ (k : Int)) = false := by simp; omega
    have d1b : decide (5 ≤ k) = false := by simp; omega
    have d2 : (k : Int) < 8 := by omega
    have d3 : k < 8 := by omega
    clear h4 hc
    go_enter Tryd.func13, Tryd.ntmps13
    go_wp2_with fail
    go_ret
    exact ⟨rfl, rfl⟩
  · rw [size_none (by omega)]
    by_cases c0 : c < 0
    · have d0 : decide (c < 0) = true := by simp; omega
      go_enter Tryd.func13, Tryd.ntmps13
      go_wp2_with fail
      go_ret
      exact ⟨rfl, rfl⟩
    · have d0 : decide (c < 0) = false := by simp; omega
      have d1 : decide (5 ≤ c) = true := by simp; omega
      go_enter Tryd.func13, Tryd.ntmps13
      go_wp2_with fail
      go_ret
      exact ⟨rfl, rfl⟩

theorem c_slots (c : Int) (w : World) (h : Sizes w) : Calls Tryd.prog 15 #[.int .i64 c] w fun e w' => e = .returned (.int .i64 (slotsC c)) ∧ w' = w := by
  by_cases hc : 0 ≤ c ∧ c < 5
  · obtain ⟨k, rfl⟩ : ∃ k : Nat, c = k := ⟨c.toNat, by omega⟩
    have hk : k ≤ 4 := by omega
    have sb := size_b hk
    obtain ⟨s1, s2, s3⟩ := slots_of_size hk
    have d2 : (sizeV k == 0) = false := by simp; omega
    have q0 : IntKind.i64.wrap ((32 : Int).tdiv (sizeV k)) = slotsC k := by rw [s1]; exact wrap_in (by omega) (by omega)
    clear s1 hc
    go_enter Tryd.func15, Tryd.ntmps15
    go_wp2_with fail
    refine (c_size _ _ h).mono ?_
    rintro e w1 ⟨rfl, rfl⟩
    go_wp2_with fail
    go_ret
    exact ⟨rfl, rfl⟩
  · have HK : Hid (∀ W, Sizes W → Calls Tryd.prog 13 #[.int .i64 c] W fun e w' => e = .returned (.int .i64 0) ∧ w' = W) := fun W hW => by
      have := c_size c W hW
      rwa [size_none (by omega)] at this
    rw [slots_none (by omega)]
    go_enter Tryd.func15, Tryd.ntmps15
    go_wp2_with fail
    refine (HK.out _ h).mono ?_
    rintro e w1 ⟨rfl, rfl⟩
    go_wp2_with fail
    go_ret
    exact ⟨rfl, rfl⟩

theorem c_pages (n : Int) (h : n ≤ 9223372036854775807) (w : World) : Calls Tryd.prog 11 #[.int .i64 n] w fun e w' => e = .returned (.int .i64 (pgsV n)) ∧ w' = w := by
  by_cases c0 : n < 1
  · have d0 : decide (n < 1) = true := by simp; omega
    rw [show pgsV n = 0 from if_pos c0]
    go_enter Tryd.func11, Tryd.ntmps11
    go_wp2_with fail
    go_ret
    exact ⟨rfl, rfl⟩
  · have d0 : decide (n < 1) = false := by simp; omega
    rw [show pgsV n = (n - 1) / 32 + 1 from if_neg c0]
    have q0 : IntKind.i64.wrap (n - 1) = n - 1 := wrap_in (by omega) (by omega)
    have q1 : IntKind.i64.wrap ((n - 1).tdiv 32) = (n - 1) / 32 := by rw [Int.tdiv_eq_ediv_of_nonneg (by omega)]; exact wrap_in (by omega) (by omega)
    have q2 : IntKind.i64.wrap ((n - 1) / 32 + 1) = (n - 1) / 32 + 1 := wrap_in (by omega) (by omega)
    go_enter Tryd.func11, Tryd.ntmps11
    go_wp2_with fail
    go_ret
    exact ⟨rfl, rfl⟩

theorem c_aligns (a : Int) (w : World) (h : Sizes w) : Calls Tryd.prog 22 #[.int .i64 a] w fun e w' => e = .returned (.bool (powB a)) ∧ w' = w := by
  obtain ⟨b, o, cap, h1, h2, h3, h4⟩ := h
  have Hc := Lib.hid h4
  clear h4
  go_enter Tryd.func22, Tryd.ntmps22
  go_wp2_with fail
  go_loop [4, 7] (fun _ i => ∃ k : Nat, k ≤ 8 ∧ i = .int .i64 k ∧ ∀ j : Nat, j < k → pw j ≠ a) (fun _ i => 8 - (intOf i).toNat)
  case atStart => exact ⟨0, Nat.zero_le _, rfl, fun j h => absurd h (by omega)⟩
  case round =>
    obtain ⟨k, hk, rfl, hj⟩ := hrel
    have Hj := Lib.hid hj
    clear hj
    by_cases hlt : k < 8
    · have d0 : decide ((k : Int) < 8) = true := by simp; omega
      have x1 := Hc.out k hlt
      by_cases hs : pw k = a
      · have d1 : decide (pw k = a) = true := by simpa using hs
        have HX := Lib.hid (powB_yes hlt hs)
        clear hs
        have d2 : (pw k == a) = true := by simpa using d1
        go_wp2_with fail
        go_ret
        exact ⟨by rw [HX.out]; rfl, rfl⟩
      · have d1 : decide (pw k = a) = false := by simpa using hs
        have d2 : (pw k == a) = false := by simpa using d1
        have Hs := Lib.hid hs
        clear hs
        go_wp2_with fail
        go_round
        case rel => exact ⟨k + 1, by omega, by go_num, fun j h => by
          by_cases q : j = k
          · subst q; exact Hs.out
          · exact Hj.out j (by omega)⟩
        case measure => simp [intOf]; omega
    · have he : k = 8 := by omega
      subst he
      have HX := Lib.hid (powB_no Hj.out)
      have d0 : decide (((8 : Nat) : Int) < 8) = false := by simp
      go_wp2_with fail
      go_ret
      exact ⟨by rw [HX.out]; rfl, rfl⟩

/-- The class of the greater one is the greater one of the classes. -/
theorem cls_mx {n a : Int} (h1 : n ≤ 16) (h2 : a ≤ 16) : clsV (mx n a) = mx (clsV n) (clsV a) := by
  unfold clsV mx
  (repeat' split) <;> omega
theorem cls_over {n a : Int} (h : 16 < n ∨ 16 < a) : clsV (mx n a) = -1 := by
  have : 16 < mx n a := by unfold mx; split <;> omega
  unfold clsV; (repeat' split) <;> omega

set_option maxHeartbeats 2000000 in
theorem c_fit (n a : Int) (hn : n ≤ 9223372036854775807) (w : World) (h : Sizes w) : Calls Tryd.prog 18 #[.int .i64 n, .int .i64 a] w fun e w' => e = .returned (fitT n a) ∧ w' = w := by
  by_cases c0 : n < 0
  · have d0 : decide (n < 0) = true := by simp; omega
    rw [show fitT n a = .tuple #[.int .i64 0, .int .i64 0, .int .i64 0, .int .i64 2] by simp [fitT, fitC, fitP, fitS, fitE, badB, c0]]
    go_enter Tryd.func18, Tryd.ntmps18
    go_wp2_with fail
    refine bodyPost_ret (v := .tuple #[.int .i64 0, .int .i64 0, .int .i64 0, .int .i64 2]) (by simp [results, Tryd.results18, go_sem]) rfl ⟨rfl, rfl⟩
  · have d0 : decide (n < 0) = false := by simp; omega
    cases hp : powB a with
    | false =>
      rw [show fitT n a = .tuple #[.int .i64 0, .int .i64 0, .int .i64 0, .int .i64 2] by simp [fitT, fitC, fitP, fitS, fitE, badB, hp]]
      have HP := Lib.hid (fun W hW => c_aligns a W hW)
      rw [hp] at HP
      go_enter Tryd.func18, Tryd.ntmps18
      go_wp2_with fail
      refine (HP.out _ h).mono ?_
      rintro e w1 ⟨rfl, rfl⟩
      go_wp2_with fail
      refine bodyPost_ret (v := .tuple #[.int .i64 0, .int .i64 0, .int .i64 0, .int .i64 2]) (by simp [results, Tryd.results18, go_sem]) rfl ⟨rfl, rfl⟩
    | true =>
      have HP := Lib.hid (fun W hW => c_aligns a W hW)
      rw [hp] at HP
      have hb : badB n a = false := by simp [badB, hp]; omega
      have pb := powB_b hp
      by_cases c1 : n ≤ 16 ∧ a ≤ 16
      · have e1 : smallB n a = true := by simp [smallB]; omega
        rw [show fitT n a = .tuple #[.int .i64 (clsV (mx n a)), .int .i64 0, .int .i64 0, .int .i64 0] by rw [cls_mx c1.1 c1.2]; simp [fitT, fitC, fitP, fitS, fitE, hb, e1]]
        have hge : 0 ≤ clsV (mx n a) := by have : mx n a ≤ 16 := by unfold mx; split <;> omega
                                           unfold clsV; (repeat' split) <;> omega
        have d1 : decide (0 ≤ clsV (mx n a)) = true := by simpa using hge
        clear e1 c1
        by_cases c2 : n < a
        · have HO : Hid (∀ W, Sizes W → Calls Tryd.prog 9 #[.int .i64 a] W fun e w' => e = .returned (.int .i64 (clsV (mx n a))) ∧ w' = W) := fun W hW => by
            rw [show mx n a = a from if_pos c2]; exact c_of a W hW
          have d2 : decide (n < a) = true := by simpa using c2
          have HN := Lib.hid (Int.not_le.2 c2)
          go_enter Tryd.func18, Tryd.ntmps18
          go_wp2_with fail
          refine (HP.out _ h).mono ?_
          rintro e w1 ⟨rfl, rfl⟩
          go_wp2_with fail
          all_goals refine (HO.out _ h).mono ?_
          all_goals rintro e w1 ⟨rfl, rfl⟩
          all_goals go_wp2_with fail
          all_goals refine bodyPost_ret (v := .tuple #[.int .i64 (clsV (mx n a)), .int .i64 0, .int .i64 0, .int .i64 0]) (by simp [results, Tryd.results18, go_sem]) rfl ⟨rfl, rfl⟩
        · have HO : Hid (∀ W, Sizes W → Calls Tryd.prog 9 #[.int .i64 n] W fun e w' => e = .returned (.int .i64 (clsV (mx n a))) ∧ w' = W) := fun W hW => by
            rw [show mx n a = n from if_neg c2]; exact c_of n W hW
          have d2 : decide (n < a) = false := by simpa using c2
          go_enter Tryd.func18, Tryd.ntmps18
          go_wp2_with fail
          refine (HP.out _ h).mono ?_
          rintro e w1 ⟨rfl, rfl⟩
          go_wp2_with fail
          all_goals refine (HO.out _ h).mono ?_
          all_goals rintro e w1 ⟨rfl, rfl⟩
          all_goals go_wp2_with fail
          all_goals refine bodyPost_ret (v := .tuple #[.int .i64 (clsV (mx n a)), .int .i64 0, .int .i64 0, .int .i64 0]) (by simp [results, Tryd.results18, go_sem]) rfl ⟨rfl, rfl⟩
      · have e1 : smallB n a = false := by simp [smallB]; omega
        have hov : 16 < n ∨ 16 < a := by omega
        have q0 : IntKind.i64.wrap (a.tdiv 32) = a / 32 := by rw [Int.tdiv_eq_ediv_of_nonneg (by omega)]; exact wrap_in (by omega) (by omega)
        rw [show fitT n a = .tuple #[.int .i64 (-1), .int .i64 (pgsV (mx n 1)), .int .i64 (mx 1 (a / 32)), .int .i64 0] by simp [fitT, fitC, fitP, fitS, fitE, hb, e1]]
        have HG : Hid (∀ W, Calls Tryd.prog 11 #[.int .i64 n] W fun e w' => e = .returned (.int .i64 (pgsV n)) ∧ w' = W) := fun W => c_pages n hn W
        have HG1 : Hid (∀ W, Calls Tryd.prog 11 #[.int .i64 1] W fun e w' => e = .returned (.int .i64 (pgsV 1)) ∧ w' = W) := fun W => c_pages 1 (by omega) W
        have HO : Hid (∀ W, Sizes W → Calls Tryd.prog 9 #[.int .i64 a] W fun e w' => e = .returned (.int .i64 (if n < a then -1 else clsV a)) ∧ w' = W) := fun W hW => by
          refine (c_of a W hW).mono ?_
          rintro e w1 ⟨rfl, rfl⟩
          refine ⟨?_, rfl⟩
          split
          · rw [show clsV a = -1 by have := cls_over hov; rwa [show mx n a = a from if_pos (by assumption)] at this]
          · rfl
        have HO2 : Hid (∀ W, Sizes W → Calls Tryd.prog 9 #[.int .i64 n] W fun e w' => e = .returned (.int .i64 (if n < a then clsV n else -1)) ∧ w' = W) := fun W hW => by
          refine (c_of n W hW).mono ?_
          rintro e w1 ⟨rfl, rfl⟩
          refine ⟨?_, rfl⟩
          split
          · rfl
          · rw [show clsV n = -1 by have := cls_over hov; rwa [show mx n a = n from if_neg (by assumption)] at this]
        clear e1 c1
        by_cases c2 : n < a
        · have d2 : decide (n < a) = true := by simpa using c2
          have d3 : decide ((0 : Int) ≤ -1) = false := by decide
          rw [if_pos c2] at HO
          go_enter Tryd.func18, Tryd.ntmps18
          go_wp2_with fail
          refine (HP.out _ h).mono ?_
          rintro e w1 ⟨rfl, rfl⟩
          go_wp2_with fail
          all_goals refine (HO.out _ h).mono ?_
          all_goals rintro e w1 ⟨rfl, rfl⟩
          all_goals go_wp2_with fail
          all_goals first | (with_reducible refine Calls.mono (HG.out _) ?_; rintro e w1 ⟨rfl, rfl⟩) | (with_reducible refine Calls.mono (HG1.out _) ?_; rintro e w1 ⟨rfl, rfl⟩)
          all_goals go_wp2_with fail
          all_goals refine bodyPost_ret (v := .tuple #[.int .i64 (-1), .int .i64 (pgsV (mx n 1)), .int .i64 (mx 1 (a / 32)), .int .i64 0]) (by simp [results, Tryd.results18, go_sem]; unfold mx; (repeat' split) <;> first | (exfalso; omega) | (simp; done) | (simp; omega) | omega) rfl ⟨rfl, rfl⟩
        · have d2 : decide (n < a) = false := by simpa using c2
          rw [if_neg c2] at HO2
          go_enter Tryd.func18, Tryd.ntmps18
          go_wp2_with fail
          refine (HP.out _ h).mono ?_
          rintro e w1 ⟨rfl, rfl⟩
          go_wp2_with fail
          all_goals refine (HO2.out _ h).mono ?_
          all_goals rintro e w1 ⟨rfl, rfl⟩
          all_goals go_wp2_with fail
          all_goals first | (with_reducible refine Calls.mono (HG.out _) ?_; rintro e w1 ⟨rfl, rfl⟩) | (with_reducible refine Calls.mono (HG1.out _) ?_; rintro e w1 ⟨rfl, rfl⟩)
          all_goals go_wp2_with fail
          all_goals refine bodyPost_ret (v := .tuple #[.int .i64 (-1), .int .i64 (pgsV (mx n 1)), .int .i64 (mx 1 (a / 32)), .int .i64 0]) (by simp [results, Tryd.results18, go_sem]; unfold mx; (repeat' split) <;> first | (exfalso; omega) | (simp; done) | (simp; omega) | omega) rfl ⟨rfl, rfl⟩

theorem own_small {n a : Int} (hb : badB n a = false) (h : smallB n a = true) : 0 ≤ fitC n a ∧ fitP n a = 0 := by
  refine ⟨?_, by simp [fitP, hb, h]⟩
  simp only [fitC, hb, h]
  have := (show n ≤ 16 by simp [smallB] at h; omega)
  have e : clsV n ≠ -1 := by unfold clsV; (repeat' split) <;> omega
  have e2 := (cls_b n).1
  show 0 ≤ mx (clsV n) (clsV a)
  unfold mx; split <;> omega
theorem own_big {n a : Int} (hb : badB n a = false) (h : smallB n a = false) : fitC n a = -1 := by simp [fitC, hb, h]

theorem c_rounded (n a : Int) (h : n ≤ 1048576) (w : World) (hs : Sizes w) : Calls Tryd.prog 20 #[.int .i64 n, .int .i64 a] w fun e w' => e = .returned (.tuple #[.int .i64 (roundV n a), .int .i64 (fitE n a)]) ∧ w' = w := by
  cases hb : badB n a with
  | true =>
    have HF : Hid (∀ W, Sizes W → Calls Tryd.prog 18 #[.int .i64 n, .int .i64 a] W fun e w' => e = .returned (.tuple #[.int .i64 0, .int .i64 0, .int .i64 0, .int .i64 2]) ∧ w' = W) := fun W hW => by
      have := c_fit n a (by omega) W hW
      rwa [show fitT n a = .tuple #[.int .i64 0, .int .i64 0, .int .i64 0, .int .i64 2] by simp [fitT, fitC, fitP, fitS, fitE, hb]] at this
    rw [show roundV n a = 0 by simp [roundV, hb], show fitE n a = 2 by simp [fitE, hb]]
    go_enter Tryd.func20, Tryd.ntmps20
    go_wp2_with fail
    refine (HF.out _ hs).mono ?_
    rintro e w1 ⟨rfl, rfl⟩
    go_wp2_with fail
    go_ret2
    exact ⟨rfl, rfl⟩
  | false =>
    have hE : fitE n a = 0 := by simp [fitE, hb]
    cases hm : smallB n a with
    | true =>
      obtain ⟨g1, g2⟩ := own_small hb hm
      have HF : Hid (∀ W, Sizes W → Calls Tryd.prog 18 #[.int .i64 n, .int .i64 a] W fun e w' => e = .returned (.tuple #[.int .i64 (fitC n a), .int .i64 0, .int .i64 (fitS n a), .int .i64 0]) ∧ w' = W) := fun W hW => by
        have := c_fit n a (by omega) W hW
        unfold fitT at this
        rwa [hE, g2] at this
      rw [show roundV n a = sizeV (fitC n a) by simp [roundV, hb, g2], hE]
      have d0 : decide (0 ≤ fitC n a) = true := by simpa using g1
      clear hE g2
      go_enter Tryd.func20, Tryd.ntmps20
      go_wp2_with fail
      refine (HF.out _ hs).mono ?_
      rintro e w1 ⟨rfl, rfl⟩
      go_wp2_with fail
      refine (c_size _ _ hs).mono ?_
      rintro e w1 ⟨rfl, rfl⟩
      go_wp2_with fail
      go_ret2
      exact ⟨rfl, rfl⟩
    | false =>
      have g1 := own_big hb hm
      have b2 := fitP_small n a h
      have HF : Hid (∀ W, Sizes W → Calls Tryd.prog 18 #[.int .i64 n, .int .i64 a] W fun e w' => e = .returned (.tuple #[.int .i64 (-1), .int .i64 (fitP n a), .int .i64 (fitS n a), .int .i64 0]) ∧ w' = W) := fun W hW => by
        have := c_fit n a (by omega) W hW
        unfold fitT at this
        rwa [hE, g1] at this
      rw [show roundV n a = fitP n a * 32 by simp [roundV, hb, g1, sizeV]; omega, hE]
      have q0 : IntKind.i64.wrap (fitP n a * 32) = fitP n a * 32 := wrap_in (by omega) (by omega)
      have d0 : decide ((0 : Int) ≤ -1) = false := by decide
      clear hE g1
      go_enter Tryd.func20, Tryd.ntmps20
      go_wp2_with fail
      refine (HF.out _ hs).mono ?_
      rintro e w1 ⟨rfl, rfl⟩
      go_wp2_with fail
      go_ret2
      exact ⟨rfl, rfl⟩

theorem class_does : ClassDoes Sizes := {
  more := fun _ _ h hm => h.more hm
  of := fun n W _ _ h => (c_of n W h).mono fun _ _ ⟨he, hw⟩ => ⟨he, hw ▸ More.refl _⟩
  size := fun c W _ _ h => (c_size c W h).mono fun _ _ ⟨he, hw⟩ => ⟨he, hw ▸ More.refl _⟩
  slots := fun c W _ _ h => (c_slots c W h).mono fun _ _ ⟨he, hw⟩ => ⟨he, hw ▸ More.refl _⟩
  pages := fun n W _ hn _ => (c_pages n hn W).mono fun _ _ ⟨he, hw⟩ => ⟨he, hw ▸ More.refl _⟩
  fit := fun n a W _ hn _ _ h => (c_fit n a hn W h).mono fun _ _ ⟨he, hw⟩ => ⟨he, hw ▸ More.refl _⟩
  rounded := fun n a W _ hn _ _ h => (c_rounded n a hn W h).mono fun _ _ ⟨he, hw⟩ => ⟨he, hw ▸ More.refl _⟩ }

end Go.Proofs.YtiechakfjhifaaaDoor
