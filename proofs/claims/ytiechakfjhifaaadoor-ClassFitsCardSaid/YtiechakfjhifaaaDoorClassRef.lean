/-
  Classes of blocks as plain numbers, and the document's own answers for class under contract.
-/
import Derived.Test.YtiechakfjhifaaaDoorRows
import Derived.Test.YtiechakfjhifaaaDoorPure
import Derived.WalkKit
import Derived.WalkSpells
import Derived.WalkLawsBesides
import Derived.Outline
import Derived.IntWalk
import Derived.Lib.Hide
namespace Go.Proofs.YtiechakfjhifaaaDoor
open Go.RowKit
set_option linter.unusedVariables false
set_option linter.unusedSimpArgs false

theorem wrap_in {x : Int} (h0 : -9223372036854775808 ≤ x) (h1 : x ≤ 9223372036854775807) : IntKind.i64.wrap x = x := IntWalk.i64_in _ (by omega)

/-- The words of a class's block. -/
def sizeV (c : Int) : Int := if c = 0 then 1 else if c = 1 then 2 else if c = 2 then 4 else if c = 3 then 8 else if c = 4 then 16 else 0
/-- The blocks of a class's page. -/
def slotsC (c : Int) : Int := if c = 0 then 32 else if c = 1 then 16 else if c = 2 then 8 else if c = 3 then 4 else if c = 4 then 2 else 0
/-- The least class whose blocks have n words or more. -/
def clsV (n : Int) : Int := if n ≤ 1 then 0 else if n ≤ 2 then 1 else if n ≤ 4 then 2 else if n ≤ 8 then 3 else if n ≤ 16 then 4 else -1
def pgsV (n : Int) : Int := if n < 1 then 0 else (n - 1) / 32 + 1
/-- 2 ^ k. -/
def pw (k : Nat) : Int := 2 ^ k
def powB (a : Int) : Bool := a == 1 || a == 2 || a == 4 || a == 8 || a == 16 || a == 32 || a == 64 || a == 128

theorem ways5 {k : Nat} (h : k ≤ 4) : k = 0 ∨ k = 1 ∨ k = 2 ∨ k = 3 ∨ k = 4 := by omega
theorem size_none {c : Int} (h : c < 0 ∨ 4 < c) : sizeV c = 0 := by
  unfold sizeV
  rw [if_neg (by omega), if_neg (by omega), if_neg (by omega), if_neg (by omega), if_neg (by omega)]
theorem slots_none {c : Int} (h : c < 0 ∨ 4 < c) : slotsC c = 0 := by
  unfold slotsC
  rw [if_neg (by omega), if_neg (by omega), if_neg (by omega), if_neg (by omega), if_neg (by omega)]
theorem size_step {k : Nat} (h : k < 4) : sizeV k * 2 = sizeV ((k + 1 : Nat) : Int) ∧ 1 ≤ sizeV k ∧ sizeV k ≤ 16 := by
  rcases ways5 (show k ≤ 4 by omega) with rfl | rfl | rfl | rfl | rfl <;> first | omega | decide
theorem size_b {k : Nat} (h : k ≤ 4) : 1 ≤ sizeV k ∧ sizeV k ≤ 16 := by
  rcases ways5 h with rfl | rfl | rfl | rfl | rfl <;> decide
theorem size_b' (c : Int) : 0 ≤ sizeV c ∧ sizeV c ≤ 16 := by
  unfold sizeV; (repeat' split) <;> omega
theorem slots_of_size {k : Nat} (h : k ≤ 4) : (32 : Int).tdiv (sizeV k) = slotsC k ∧ 2 ≤ slotsC k ∧ slotsC k ≤ 32 := by
  rcases ways5 h with rfl | rfl | rfl | rfl | rfl <;> decide
/-- The class, as a search from below finds it. -/
theorem cls_found {k : Nat} {n : Int} (h : k ≤ 4) (h1 : n ≤ sizeV k) (h0 : ∀ j : Nat, j < k → sizeV j < n) : clsV n = k := by
  rcases ways5 h with rfl | rfl | rfl | rfl | rfl
  · have : n ≤ 1 := h1
    unfold clsV; rw [if_pos (by omega)]; rfl
  · have a : n ≤ 2 := h1
    have b : (1 : Int) < n := h0 0 (by omega)
    unfold clsV; rw [if_neg (by omega), if_pos (by omega)]; rfl
  · have a : n ≤ 4 := h1
    have b : (2 : Int) < n := h0 1 (by omega)
    unfold clsV; rw [if_neg (by omega), if_neg (by omega), if_pos (by omega)]; rfl
  · have a : n ≤ 8 := h1
    have b : (4 : Int) < n := h0 2 (by omega)
    unfold clsV; rw [if_neg (by omega), if_neg (by omega), if_neg (by omega), if_pos (by omega)]; rfl
  · have a : n ≤ 16 := h1
    have b : (8 : Int) < n := h0 3 (by omega)
    unfold clsV; rw [if_neg (by omega), if_neg (by omega), if_neg (by omega), if_neg (by omega), if_pos (by omega)]; rfl
theorem cls_none {n : Int} (h : ∀ j : Nat, j < 5 → sizeV j < n) : clsV n = -1 := by
  have b : (16 : Int) < n := h 4 (by omega)
  unfold clsV; rw [if_neg (by omega), if_neg (by omega), if_neg (by omega), if_neg (by omega), if_neg (by omega)]
theorem cls_b (n : Int) : -1 ≤ clsV n ∧ clsV n ≤ 4 := by
  unfold clsV; (repeat' split) <;> omega
theorem pgs_b {n : Int} (h : n ≤ 9223372036854775807) : 0 ≤ pgsV n ∧ pgsV n ≤ 288230376151711744 := by
  unfold pgsV; split <;> omega
theorem ways8 {k : Nat} (h : k < 8) : k = 0 ∨ k = 1 ∨ k = 2 ∨ k = 3 ∨ k = 4 ∨ k = 5 ∨ k = 6 ∨ k = 7 := by omega
theorem pw_step {k : Nat} (h : k < 8) : pw k * 2 = pw (k + 1) ∧ 1 ≤ pw k ∧ pw k ≤ 128 := by
  rcases ways8 h with rfl | rfl | rfl | rfl | rfl | rfl | rfl | rfl <;> decide
theorem powB_yes {k : Nat} {a : Int} (h : k < 8) (e : pw k = a) : powB a = true := by
  subst e
  rcases ways8 h with rfl | rfl | rfl | rfl | rfl | rfl | rfl | rfl <;> decide
theorem powB_no {a : Int} (h : ∀ k : Nat, k < 8 → pw k ≠ a) : powB a = false := by
  have h0 := h 0 (by omega); have h1 := h 1 (by omega); have h2 := h 2 (by omega); have h3 := h 3 (by omega)
  have h4 := h 4 (by omega); have h5 := h 5 (by omega); have h6 := h 6 (by omega); have h7 := h 7 (by omega)
  simp only [pw] at h0 h1 h2 h3 h4 h5 h6 h7
  simp [powB]; omega

variable (w : World)

theorem r3size_in (c : Nat) (h : c ≤ 4) : Calls Tryd.prog 14 #[.int .i64 c] w fun e w' => e = .returned (.int .i64 (sizeV c)) ∧ w' = w := by
  have d0 : decide ((c : Int) < 0) = false := by simp
  have d1 : decide ((4 : Int) < (c : Int)) = false := by simp; omega
  have d1b : decide (4 < c) = false := by simp; omega
  go_enter Tryd.func14, Tryd.ntmps14
  go_wp2_with fail
  go_loop [3, 4] (fun n i => ∃ k : Nat, k ≤ c ∧ i = .int .i64 k ∧ n = .int .i64 (sizeV k)) (fun _ i => c - (intOf i).toNat)
  case atStart => exact ⟨0, Nat.zero_le _, rfl, rfl⟩
  case round =>
    obtain ⟨k, hk, rfl, rfl⟩ := hrel
    by_cases hlt : k < c
    · obtain ⟨a1, a2, a3⟩ := size_step (show k < 4 by omega)
      have q0 : IntKind.i64.wrap (sizeV k * 2) = sizeV ((k + 1 : Nat) : Int) := by rw [a1]; have := size_b (show k + 1 ≤ 4 by omega); exact wrap_in (by omega) (by omega)
      clear a1
      have d2 : decide ((k : Int) < (c : Int)) = true := by simp; omega
      go_wp2_with fail
      go_round
      case rel => exact ⟨k + 1, by omega, by go_num, rfl⟩
      case measure => simp [intOf]; omega
    · have he : k = c := by omega
      subst he
      have d2 : decide ((k : Int) < (k : Int)) = false := by simp
      go_wp2_with fail
      go_ret
      exact ⟨rfl, rfl⟩

theorem r3size (c : Int) : Calls Tryd.prog 14 #[.int .i64 c] w fun e w' => e = .returned (.int .i64 (sizeV c)) ∧ w' = w := by
  by_cases h : c < 0 ∨ 4 < c
  · rw [size_none h]
    by_cases c0 : c < 0
    · have d0 : decide (c < 0) = true := by simp; omega
      go_enter Tryd.func14, Tryd.ntmps14
      go_wp2_with fail
      go_ret
      exact ⟨rfl, rfl⟩
    · have d0 : decide (c < 0) = false := by simp; omega
      have d1 : decide (4 < c) = true := by simp; omega
      go_enter Tryd.func14, Tryd.ntmps14
      go_wp2_with fail
      go_ret
      exact ⟨rfl, rfl⟩
  · obtain ⟨k, rfl⟩ : ∃ k : Nat, c = k := ⟨c.toNat, by omega⟩
    exact r3size_in w k (by omega)

theorem r3slots (c : Int) : Calls Tryd.prog 16 #[.int .i64 c] w fun e w' => e = .returned (.int .i64 (slotsC c)) ∧ w' = w := by
  by_cases h : c < 0 ∨ 4 < c
  · rw [slots_none h]
    by_cases c0 : c < 0
    · have d0 : decide (c < 0) = true := by simp; omega
      go_enter Tryd.func16, Tryd.ntmps16
      go_wp2_with fail
      go_ret
      exact ⟨rfl, rfl⟩
    · have d0 : decide (c < 0) = false := by simp; omega
      have d1 : decide (4 < c) = true := by simp; omega
      go_enter Tryd.func16, Tryd.ntmps16
      go_wp2_with fail
      go_ret
      exact ⟨rfl, rfl⟩
  · obtain ⟨k, rfl⟩ : ∃ k : Nat, c = k := ⟨c.toNat, by omega⟩
    have hk : k ≤ 4 := by omega
    have d0 : decide ((k : Int) < 0) = false := by simp
    have d1 : decide ((4 : Int) < (k : Int)) = false := by simp; omega
    have d1b : decide (4 < k) = false := by simp; omega
    have sb := size_b hk
    obtain ⟨s1, s2, s3⟩ := slots_of_size hk
    have d2 : (sizeV k == 0) = false := by simp; omega
    have q0 : IntKind.i64.wrap ((32 : Int).tdiv (sizeV k)) = slotsC k := by rw [s1]; exact wrap_in (by omega) (by omega)
    clear s1
    go_enter Tryd.func16, Tryd.ntmps16
    go_wp2_with fail
    refine (r3size _ k).mono ?_
    rintro e w1 ⟨rfl, rfl⟩
    go_wp2_with fail
    go_ret
    exact ⟨rfl, rfl⟩

theorem r3of (n : Int) : Calls Tryd.prog 10 #[.int .i64 n] w fun e w' => e = .returned (.int .i64 (clsV n)) ∧ w' = w := by
  go_enter Tryd.func10, Tryd.ntmps10
  go_wp2_with fail
  go_loop [3] (fun i => ∃ k : Nat, k ≤ 5 ∧ i = .int .i64 k ∧ ∀ j : Nat, j < k → sizeV j < n) (fun i => 5 - (intOf i).toNat)
  case atStart => exact ⟨0, Nat.zero_le _, rfl, fun j h => absurd h (by omega)⟩
  case round =>
    obtain ⟨k, hk, rfl, hj⟩ := hrel
    by_cases hlt : k < 5
    · have d0 : decide ((k : Int) < 5) = true := by simp; omega
      have Hj := Lib.hid hj
      clear hj
      go_wp2_with fail
      refine (r3size _ k).mono ?_
      rintro e w1 ⟨rfl, rfl⟩
      by_cases hs : n ≤ sizeV k
      · have d1 : decide (n ≤ sizeV k) = true := by simpa using hs
        have HX := Lib.hid (cls_found (by omega) hs Hj.out)
        go_wp2_with fail
        go_ret
        exact ⟨by rw [HX.out]; rfl, rfl⟩
      · have d1 : decide (n ≤ sizeV k) = false := by simpa using hs
        go_wp2_with fail
        go_round
        case rel => exact ⟨k + 1, by omega, by go_num, fun j h => by
          by_cases q : j = k
          · subst q; omega
          · exact Hj.out j (by omega)⟩
        case measure => simp [intOf]; omega
    · have he : k = 5 := by omega
      subst he
      have HX := Lib.hid (cls_none hj)
      clear hj
      have d0 : decide (((5 : Nat) : Int) < 5) = false := by simp
      go_wp2_with fail
      go_ret
      exact ⟨by rw [HX.out]; rfl, rfl⟩

theorem r3pages (n : Int) (h : n ≤ 9223372036854775807) : Calls Tryd.prog 12 #[.int .i64 n] w fun e w' => e = .returned (.int .i64 (pgsV n)) ∧ w' = w := by
  by_cases c0 : n < 1
  · have d0 : decide (n < 1) = true := by simp; omega
    rw [show pgsV n = 0 from if_pos c0]
    go_enter Tryd.func12, Tryd.ntmps12
    go_wp2_with fail
    go_ret
    exact ⟨rfl, rfl⟩
  · have d0 : decide (n < 1) = false := by simp; omega
    rw [show pgsV n = (n - 1) / 32 + 1 from if_neg c0]
    have q0 : IntKind.i64.wrap (n - 1) = n - 1 := wrap_in (by omega) (by omega)
    have q1 : IntKind.i64.wrap ((n - 1).tdiv 32) = (n - 1) / 32 := by rw [Int.tdiv_eq_ediv_of_nonneg (by omega)]; exact wrap_in (by omega) (by omega)
    have q2 : IntKind.i64.wrap ((n - 1) / 32 + 1) = (n - 1) / 32 + 1 := wrap_in (by omega) (by omega)
    go_enter Tryd.func12, Tryd.ntmps12
    go_wp2_with fail
    go_ret
    exact ⟨rfl, rfl⟩

theorem r3power (a : Int) : Calls Tryd.prog 23 #[.int .i64 a] w fun e w' => e = .returned (.bool (powB a)) ∧ w' = w := by
  go_enter Tryd.func23, Tryd.ntmps23
  go_wp2_with fail
  go_loop [3] (fun i => ∃ k : Nat, k ≤ 8 ∧ i = .int .i64 (pw k) ∧ ∀ j : Nat, j < k → pw j ≠ a) (fun i => 512 - (intOf i).toNat)
  case atStart => exact ⟨0, Nat.zero_le _, rfl, fun j h => absurd h (by omega)⟩
  case round =>
    obtain ⟨k, hk, rfl, hj⟩ := hrel
    by_cases hlt : k < 8
    · obtain ⟨a1, a2, a3⟩ := pw_step hlt
      have d0 : decide (pw k ≤ 128) = true := by simpa using a3
      have Hj := Lib.hid hj
      clear hj
      by_cases hs : pw k = a
      · have d1 : decide (pw k = a) = true := by simpa using hs
        have HX := Lib.hid (powB_yes hlt hs)
        clear hs
        have d2 : (pw k == a) = true := by simpa using d1
        go_wp2_with fail
        go_ret
        exact ⟨by rw [HX.out]; rfl, rfl⟩
      · have d1 : decide (pw k = a) = false := by simpa using hs
        have hb : pw (k + 1) ≤ 256 := by omega
        have q0 : IntKind.i64.wrap (pw k * 2) = pw (k + 1) := by rw [a1]; exact wrap_in (by omega) (by omega)
        have Ha := Lib.hid a1
        clear a1
        go_wp2_with fail
        go_round
        case rel => exact ⟨k + 1, by omega, rfl, fun j h => by
          by_cases q : j = k
          · subst q; exact hs
          · exact Hj.out j (by omega)⟩
        case measure => have := Ha.out; simp [intOf]; omega
    · have he : k = 8 := by omega
      subst he
      have HX := Lib.hid (powB_no hj)
      clear hj
      have d0 : decide (pw 8 ≤ 128) = false := by decide
      go_wp2_with fail
      go_ret
      exact ⟨by rw [HX.out]; rfl, rfl⟩

end Go.Proofs.YtiechakfjhifaaaDoor
