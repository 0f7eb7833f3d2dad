/-
  The walk of the statement on the sizes that an arena may have.
-/
import Derived.Test.YtgkibbblmfmdnaaLives
namespace Go.Proofs.Ytgkibbblmfmdnaa
open Go.RowKit
set_option linter.unusedVariables false
set_option linter.unusedSimpArgs false

theorem sizes_mid (n : Int) (w : World) (h1 : 4000 < n) (h2 : n < 1048574) :
    Calls Try.prog 4 #[.int .i64 n] w fun e w' => e = .returned (.bool true) ∧ Turned (fun _ => False) w w' := by
  have d1 : decide (4000 < n) = true := by simp; omega
  have d2 : decide (n < 1048574) = true := by simp; omega
  go_enter Try.func4, Try.ntmps4
  go_wp2_with fail
  refine (lives_any _).mono ?_
  rintro e w6 ⟨rfl, t6⟩
  go_wp2_with fail
  go_ret
  exact ⟨rfl, t6⟩

theorem sizes_no (n : Int) (w : World) (h : n < 1 ∨ 1048576 < n) :
    Calls Try.prog 4 #[.int .i64 n] w fun e w' => e = .returned (.bool true) ∧ Turned (fun _ => False) w w' := by
  have H := Lib.hid h
  rcases h with h | h
  · have d1 : decide (4000 < n) = false := by simp; omega
    have d3 : decide (n < 1) = true := by simp; omega
    go_enter Try.func4, Try.ntmps4
    go_wp2_with fail
    refine (new_no n H.out _).mono ?_
    rintro e w6 ⟨rfl, rfl⟩
    go_wp2_with fail
    refine (lives_any _).mono ?_
    rintro e w6 ⟨rfl, t6⟩
    go_wp2_with fail
    go_ret
    exact ⟨rfl, t6⟩
  · have d1 : decide (4000 < n) = true := by simp; omega
    have d2 : decide (n < 1048574) = false := by simp; omega
    have d3 : decide (n < 1) = false := by simp; omega
    have d4 : decide (1048576 < n) = true := by simp; omega
    go_enter Try.func4, Try.ntmps4
    go_wp2_with fail
    refine (new_no n H.out _).mono ?_
    rintro e w6 ⟨rfl, rfl⟩
    go_wp2_with fail
    refine (lives_any _).mono ?_
    rintro e w6 ⟨rfl, t6⟩
    go_wp2_with fail
    go_ret
    exact ⟨rfl, t6⟩

theorem sizes_yes (k : Nat) (w : World) (h1 : 1 ≤ k) (h2 : k ≤ 1048576) (hg : (decide (4000 < (k : Int)) && decide ((k : Int) < 1048574)) = false) :
    Calls Try.prog 4 #[.int .i64 k] w fun e w' => e = .returned (.bool true) ∧ Turned (fun _ => False) w w' := by
  have d3 : decide ((k : Int) < 1) = false := by simp; omega
  have d4 : decide (1048576 < (k : Int)) = false := by simp; omega
  cases d1 : decide (4000 < (k : Int)) with
  | false =>
    clear hg
    go_enter Try.func4, Try.ntmps4
    go_wp2_with fail
    refine (new_ok k h1 h2 _).mono ?_
    rintro e w1 ⟨a, b, rfl, ha, hb, hat, t1⟩
    go_wp2_with fail
    refine (len_at a b _ _ _ hat).mono ?_
    rintro e w5 ⟨rfl, rfl⟩
    go_wp2_with fail
    refine (count_at a b _ _ _ hat).mono ?_
    rintro e w5 ⟨rfl, rfl⟩
    go_wp2_with fail
    refine (lives_any _).mono ?_
    rintro e w6 ⟨rfl, t6⟩
    go_wp2_with fail
    go_ret
    exact ⟨rfl, t1.trans t6⟩
  | true =>
    have d2 : decide ((k : Int) < 1048574) = false := by rw [d1] at hg; simpa using hg
    clear hg
    go_enter Try.func4, Try.ntmps4
    go_wp2_with fail
    refine (new_ok k h1 h2 _).mono ?_
    rintro e w1 ⟨a, b, rfl, ha, hb, hat, t1⟩
    go_wp2_with fail
    refine (len_at a b _ _ _ hat).mono ?_
    rintro e w5 ⟨rfl, rfl⟩
    go_wp2_with fail
    refine (count_at a b _ _ _ hat).mono ?_
    rintro e w5 ⟨rfl, rfl⟩
    go_wp2_with fail
    refine (lives_any _).mono ?_
    rintro e w6 ⟨rfl, t6⟩
    go_wp2_with fail
    go_ret
    exact ⟨rfl, t1.trans t6⟩

theorem sizes_walk (n : Int) (w : World) (wn : (Lit.int .i64 n).wf = true) :
    Calls Try.prog 4 #[.int .i64 n] w fun e w' => e = .returned (.bool true) ∧ Turned (fun _ => False) w w' := by
  by_cases h : 4000 < n ∧ n < 1048574
  · exact sizes_mid n w h.1 h.2
  by_cases q : n < 1 ∨ 1048576 < n
  · exact sizes_no n w q
  · obtain ⟨k, rfl⟩ : ∃ k : Nat, n = k := ⟨n.toNat, by omega⟩
    refine sizes_yes k w (by omega) (by omega) ?_
    simp only [Bool.and_eq_false_iff, decide_eq_false_iff_not]; omega

end Go.Proofs.Ytgkibbblmfmdnaa
