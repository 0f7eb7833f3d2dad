/-
  The document's own answers for slots (by division), and the landed words with one bit, under contract.
-/
import Derived.Test.YtceneldblfdeaaaSlots
import Derived.Test.YtceneldblfdeaaaInts
import Derived.Laws.Shifts
import Derived.Laws.Bits64
import Derived.Lib.Hide
import Derived.LoopTactic
import Derived.Outline
namespace Go.Proofs.Ytceneldblfdeaaa
open Go.RowKit
set_option linter.unusedVariables false
set_option linter.unusedSimpArgs false

theorem wrap_i64 {x : Int} (h0 : -9223372036854775808 ≤ x) (h1 : x ≤ 9223372036854775807) : IntKind.i64.wrap x = x := by
  simp [IntKind.wrap, IntKind.bits, IntKind.signed]; omega
theorem pow_b {k : Nat} (h : k < 32) : 1 ≤ (2 : Int) ^ k ∧ (2 : Int) ^ k ≤ 2147483648 := by
  have h1 : (1 : Nat) ≤ 2 ^ k := Nat.one_le_two_pow
  have h2 : (2 : Nat) ^ k ≤ 2 ^ 31 := Nat.pow_le_pow_right (by omega) (by omega)
  have e : (2 : Int) ^ k = ((2 ^ k : Nat) : Int) := by simp
  rw [e]; omega

theorem o_only (i : Int) (w : World) : Calls Try.prog 22 #[.int .i64 i] w fun e w' => e = .returned (.int .i64 (onlyV i)) ∧ w' = w := by
  by_cases c0 : i < 0
  · have d0 : decide (i < 0) = true := by simpa using c0
    have e0 : onlyV i = 0 := by unfold onlyV; rw [if_neg (by simp [inR]; omega)]
    have HE := Lib.hid e0; clear e0
    go_enter Try.func22, Try.ntmps22
    go_wp2_with fail
    go_ret
    exact ⟨by rw [HE.out]; rfl, rfl⟩
  · have d0 : decide (i < 0) = false := by simpa using c0
    by_cases c1 : 32 ≤ i
    · have d1 : decide (32 ≤ i) = true := by simpa using c1
      have e0 : onlyV i = 0 := by unfold onlyV; rw [if_neg (by simp [inR]; omega)]
      have HE := Lib.hid e0; clear e0
      go_enter Try.func22, Try.ntmps22
      go_wp2_with fail
      go_ret
      exact ⟨by rw [HE.out]; rfl, rfl⟩
    · have d1 : decide (32 ≤ i) = false := by simpa using c1
      obtain ⟨k, rfl⟩ : ∃ k : Nat, i = k := ⟨i.toNat, by omega⟩
      have hk : k < 32 := by omega
      have pb := pow_b hk
      have e0 : onlyV (k : Int) = 2 ^ k := by unfold onlyV; rw [if_pos (inR_nat hk)]; simp
      have HE := Lib.hid e0; clear e0
      have hm : min k 64 = k := by omega
      have HM := Lib.hid hm; clear hm
      have HW := Lib.hid (wrap_i64 (x := 2 ^ k) (by omega) (by omega))
      go_enter Try.func22, Try.ntmps22
      go_wp2_with fail
      go_ret
      exact ⟨by rw [HE.out]; rfl, rfl⟩
theorem o_has (x i : Int) (w : World) : Calls Try.prog 8 #[.int .i64 x, .int .i64 i] w fun e w' => e = .returned (.bool (hasB x i)) ∧ w' = w := by
  have HE := Lib.hid (bits_and x i)
  go_enter Try.func8, Try.ntmps8
  go_wp2_with fail
  refine (o_only i _).mono ?_
  rintro e w' ⟨rfl, rfl⟩
  go_wp2_with fail
  go_ret
  exact ⟨by rw [← HE.out]; rfl, rfl⟩
theorem o_set (x i : Int) (h0 : -9223372036854775808 ≤ x) (h1 : x ≤ 9223372036854775807) (w : World) : Calls Try.prog 10 #[.int .i64 x, .int .i64 i] w fun e w' => e = .returned (.int .i64 (setV x i)) ∧ w' = w := by
  have HE := Lib.hid (bits_or x i h0 h1)
  go_enter Try.func10, Try.ntmps10
  go_wp2_with fail
  refine (o_only i _).mono ?_
  rintro e w' ⟨rfl, rfl⟩
  go_wp2_with fail
  go_ret
  exact ⟨by rw [← HE.out]; rfl, rfl⟩
theorem o_clear (x i : Int) (h0 : -9223372036854775808 ≤ x) (h1 : x ≤ 9223372036854775807) (w : World) : Calls Try.prog 12 #[.int .i64 x, .int .i64 i] w fun e w' => e = .returned (.int .i64 (clearV x i)) ∧ w' = w := by
  have HE := Lib.hid (bits_andNot x i h0 h1)
  go_enter Try.func12, Try.ntmps12
  go_wp2_with fail
  refine (o_only i _).mono ?_
  rintro e w' ⟨rfl, rfl⟩
  go_wp2_with fail
  go_ret
  exact ⟨by rw [← HE.out]; rfl, rfl⟩

theorem r_bits (i : Int) (w : World) : Calls Try.prog 23 #[.int .i64 i] w fun e w' => e = .returned (.bool (inR i)) ∧ w' = w := by
  by_cases c0 : 0 ≤ i
  · have d0 : decide (0 ≤ i) = true := by simpa using c0
    have HE := Lib.hid (show inR i = decide (i < 32) by simp [inR, c0])
    go_enter Try.func23, Try.ntmps23
    go_wp2_with fail
    go_ret
    exact ⟨by rw [HE.out]; rfl, rfl⟩
  · have d0 : decide (0 ≤ i) = false := by simpa using c0
    have HE := Lib.hid (show inR i = false by simp [inR, c0])
    go_enter Try.func23, Try.ntmps23
    go_wp2_with fail
    go_ret
    exact ⟨by rw [HE.out]; rfl, rfl⟩

theorem r_bit (x : Int) (k : Nat) (hk : k < 32) (w : World) : Calls Try.prog 24 #[.int .i64 x, .int .i64 k] w fun e w' => e = .returned (.int .u64 (((bvOf x).toNat / 2 ^ k % 2 : Nat) : Int)) ∧ w' = w := by
  go_enter Try.func24, Try.ntmps24
  have HB := Lib.hid (show (bvOf x).toNat / 2 ^ 0 = (bvOf x).toNat by simp)
  have hl := (bvOf x).isLt
  go_wp2_with fail
  rw [u64_of]
  go_loop [5, 6] (fun u i => ∃ j : Nat, j ≤ k ∧ i = .int .i64 j ∧ u = .int .u64 (((bvOf x).toNat / 2 ^ j : Nat) : Int)) (fun _ i => k - (intOf i).toNat)
  case atStart => exact ⟨0, Nat.zero_le _, rfl, by rw [HB.out]⟩
  case round =>
    obtain ⟨j, hj, rfl, rfl⟩ := hrel
    have hx : (bvOf x).toNat / 2 ^ j < 18446744073709551616 := Nat.lt_of_le_of_lt (Nat.div_le_self _ _) (by simpa using hl)
    have HS := Lib.hid (show (bvOf x).toNat / 2 ^ j / 2 = (bvOf x).toNat / 2 ^ (j + 1) by rw [Nat.div_div_eq_div_mul, Nat.pow_succ])
    clear hl
    generalize hY : (bvOf x).toNat / 2 ^ j = Y at hx HS ⊢
    by_cases hlt : j < k
    · go_wp2_with fail
      go_round
      case rel => exact ⟨j + 1, by omega, by go_num, by rw [← HS.out, Int.natCast_ediv]; rfl⟩
      case measure => simp [intOf]; omega
    · obtain rfl : j = k := by omega
      go_wp2_with fail
      go_ret
      exact ⟨rfl, rfl⟩
theorem r_worth (k : Nat) (hk : k < 32) (w : World) : Calls Try.prog 25 #[.int .i64 k] w fun e w' => e = .returned (.int .u64 (2 ^ k)) ∧ w' = w := by
  go_enter Try.func25, Try.ntmps25
  go_wp2_with fail
  go_loop [3, 4] (fun u i => ∃ j : Nat, j ≤ k ∧ i = .int .i64 j ∧ u = .int .u64 (2 ^ j)) (fun _ i => k - (intOf i).toNat)
  case atStart => exact ⟨0, Nat.zero_le _, rfl, by simp⟩
  case round =>
    obtain ⟨j, hj, rfl, rfl⟩ := hrel
    by_cases hlt : j < k
    · have pb := pow_b (show j < 32 by omega)
      go_wp2_with fail
      go_round
      case rel => exact ⟨j + 1, by omega, by go_num, by rw [Int.pow_succ]⟩
      case measure => simp [intOf]; omega
    · obtain rfl : j = k := by omega
      go_wp2_with fail
      go_ret
      exact ⟨rfl, rfl⟩

theorem bit_eq (x : Int) (k : Nat) : ((((bvOf x).toNat / 2 ^ k % 2 : Nat) : Int) == 1) = bitB x k := by
  rw [nat_bit, Bool.eq_iff_iff, beq_iff_eq, decide_eq_true_iff]
  omega
theorem r_has (x i : Int) (w : World) : Calls Try.prog 9 #[.int .i64 x, .int .i64 i] w fun e w' => e = .returned (.bool (hasB x i)) ∧ w' = w := by
  cases hi : inR i with
  | false =>
    rw [has_none hi]
    have HB : Hid (∀ W, Calls Try.prog 23 #[.int .i64 i] W fun e w' => e = .returned (.bool false) ∧ w' = W) := fun W => by
      have := r_bits i W; rwa [hi] at this
    clear hi
    go_enter Try.func9, Try.ntmps9
    go_wp2_with fail
    refine (HB.out _).mono ?_
    rintro e w' ⟨rfl, rfl⟩
    go_wp2_with fail
    go_ret
    exact ⟨rfl, rfl⟩
  | true =>
    have hr := (inR_iff i).1 hi
    obtain ⟨k, rfl⟩ : ∃ k : Nat, i = k := ⟨i.toNat, by omega⟩
    have HB : Hid (∀ W, Calls Try.prog 23 #[.int .i64 k] W fun e w' => e = .returned (.bool true) ∧ w' = W) := fun W => by
      have := r_bits k W; rwa [hi] at this
    have HK : Hid (hasB x k = bitB x k) := by unfold hasB; rw [hi]; rfl
    have HE := Lib.hid (bit_eq x k)
    clear hi
    go_enter Try.func9, Try.ntmps9
    go_wp2_with fail
    refine (HB.out _).mono ?_
    rintro e w' ⟨rfl, rfl⟩
    go_wp2_with fail
    refine (r_bit x k (by omega) _).mono ?_
    rintro e w' ⟨rfl, rfl⟩
    generalize hY : (bvOf x).toNat / 2 ^ k % 2 = Y at HE ⊢
    go_wp2_with fail
    go_ret
    exact ⟨by rw [HK.out, ← HE.out]; rfl, rfl⟩

theorem set_sum {x i : Int} (hi : inR i = true) (hb : hasB x i = false) : IntKind.i64.wrap (IntKind.u64.wrap (((bvOf x).toNat : Int) + 2 ^ i.toNat)) = setV x i := by
  have hr := (inR_iff i).1 hi
  have hb' : bitB x i.toNat = false := by unfold hasB at hb; rw [hi, Bool.true_and] at hb; exact hb
  have pb := pow_b (show i.toNat < 32 by omega)
  have e : IntKind.u64.wrap (((bvOf x).toNat : Int) + 2 ^ i.toNat) = ((bvOf x + BitVec.twoPow 64 i.toNat).toNat : Int) := by
    rw [BitVec.toNat_add, BitVec.toNat_twoPow]
    have e1 : (2 : Int) ^ i.toNat = ((2 ^ i.toNat : Nat) : Int) := by simp
    rw [e1]
    simp [IntKind.wrap, IntKind.bits, IntKind.signed]
  rw [e, wrap_toNat]
  unfold setV
  rw [if_pos hi, BitVec.add_eq_or_of_and_eq_zero]
  rw [BitVec.and_twoPow]
  unfold bitB at hb'
  rw [hb']; rfl
theorem clear_sum {x i : Int} (hi : inR i = true) (hb : hasB x i = true) : IntKind.i64.wrap (IntKind.u64.wrap (((bvOf x).toNat : Int) - 2 ^ i.toNat)) = clearV x i := by
  have hr := (inR_iff i).1 hi
  have hb' : bitB x i.toNat = true := by unfold hasB at hb; rw [hi, Bool.true_and] at hb; exact hb
  have pb := pow_b (show i.toNat < 32 by omega)
  have e : IntKind.u64.wrap (((bvOf x).toNat : Int) - 2 ^ i.toNat) = ((bvOf x - BitVec.twoPow 64 i.toNat).toNat : Int) := by
    rw [BitVec.toNat_sub, BitVec.toNat_twoPow]
    have e1 : (2 : Int) ^ i.toNat = ((2 ^ i.toNat : Nat) : Int) := by simp
    have e2 : 2 ^ i.toNat % 2 ^ 64 = 2 ^ i.toNat := by rw [e1] at pb; omega
    rw [e2]
    rw [e1] at pb ⊢
    have := (bvOf x).isLt
    rw [IntKind.wrap_u64]
    omega
  rw [e, wrap_toNat]
  unfold clearV
  rw [if_pos hi]
  congr 1
  rw [BitVec.sub_eq_iff_eq_add, BitVec.add_eq_or_of_and_eq_zero]
  · apply BitVec.eq_of_getLsbD_eq
    intro j hj
    rw [BitVec.getLsbD_or, BitVec.getLsbD_and, BitVec.getLsbD_not, BitVec.getLsbD_twoPow, decide_eq_true hj]
    by_cases q : i.toNat = j
    · subst q; unfold bitB at hb'; rw [hb']; simp [hj]
    · simp [q]
  · apply BitVec.eq_of_getLsbD_eq
    intro j hj
    rw [BitVec.getLsbD_and, BitVec.getLsbD_and, BitVec.getLsbD_not]
    cases (BitVec.twoPow 64 i.toNat).getLsbD j <;> simp
theorem r_set (x i : Int) (h0 : -9223372036854775808 ≤ x) (h1 : x ≤ 9223372036854775807) (w : World) : Calls Try.prog 11 #[.int .i64 x, .int .i64 i] w fun e w' => e = .returned (.int .i64 (setV x i)) ∧ w' = w := by
  cases hi : inR i with
  | false =>
    rw [set_none hi]
    have HB : Hid (∀ W, Calls Try.prog 23 #[.int .i64 i] W fun e w' => e = .returned (.bool false) ∧ w' = W) := fun W => by
      have := r_bits i W; rwa [hi] at this
    clear hi
    go_enter Try.func11, Try.ntmps11
    go_wp2_with fail
    refine (HB.out _).mono ?_
    rintro e w' ⟨rfl, rfl⟩
    go_wp2_with fail
    go_ret
    exact ⟨rfl, rfl⟩
  | true =>
    have HB : Hid (∀ W, Calls Try.prog 23 #[.int .i64 i] W fun e w' => e = .returned (.bool true) ∧ w' = W) := fun W => by
      have := r_bits i W; rwa [hi] at this
    cases hb : hasB x i with
    | true =>
      rw [set_had h0 h1 hi hb]
      have HH : Hid (∀ W, Calls Try.prog 9 #[.int .i64 x, .int .i64 i] W fun e w' => e = .returned (.bool true) ∧ w' = W) := fun W => by
        have := r_has x i W; rwa [hb] at this
      clear hi hb
      go_enter Try.func11, Try.ntmps11
      go_wp2_with fail
      refine (HB.out _).mono ?_
      rintro e w' ⟨rfl, rfl⟩
      go_wp2_with fail
      refine (HH.out _).mono ?_
      rintro e w' ⟨rfl, rfl⟩
      go_wp2_with fail
      go_ret
      exact ⟨rfl, rfl⟩
    | false =>
      have HS := Lib.hid (set_sum hi hb)
      have HU := Lib.hid (u64_of x)
      have HH : Hid (∀ W, Calls Try.prog 9 #[.int .i64 x, .int .i64 i] W fun e w' => e = .returned (.bool false) ∧ w' = W) := fun W => by
        have := r_has x i W; rwa [hb] at this
      have hr := (inR_iff i).1 hi
      obtain ⟨k, rfl⟩ : ∃ k : Nat, i = k := ⟨i.toNat, by omega⟩
      rw [Int.toNat_natCast] at HS
      have pb := pow_b (show k < 32 by omega)
      have HW : Hid (∀ W, Calls Try.prog 25 #[.int .i64 k] W fun e w' => e = .returned (.int .u64 (2 ^ k)) ∧ w' = W) := fun W => r_worth k (by omega) W
      generalize (2 : Int) ^ k = P at HS HW pb
      have hX := (bvOf x).isLt
      generalize (bvOf x).toNat = X at HS HU hX
      clear hi hb
      go_enter Try.func11, Try.ntmps11
      go_wp2_with fail
      refine (HB.out _).mono ?_
      rintro e w' ⟨rfl, rfl⟩
      go_wp2_with fail
      refine (HH.out _).mono ?_
      rintro e w' ⟨rfl, rfl⟩
      go_wp2_with fail
      refine (HW.out _).mono ?_
      rintro e w' ⟨rfl, rfl⟩
      go_wp2_with fail
      go_ret
      exact ⟨by rw [← HS.out, ← HU.out, IntWalk.i64_left]; rfl, rfl⟩
theorem r_clear (x i : Int) (h0 : -9223372036854775808 ≤ x) (h1 : x ≤ 9223372036854775807) (w : World) : Calls Try.prog 13 #[.int .i64 x, .int .i64 i] w fun e w' => e = .returned (.int .i64 (clearV x i)) ∧ w' = w := by
  cases hb : hasB x i with
  | false =>
    have e : clearV x i = x := by
      cases hi : inR i with
      | false => exact clear_none hi
      | true => exact clear_not h0 h1 hi hb
    rw [e]
    have HH : Hid (∀ W, Calls Try.prog 9 #[.int .i64 x, .int .i64 i] W fun e w' => e = .returned (.bool false) ∧ w' = W) := fun W => by
      have := r_has x i W; rwa [hb] at this
    clear hb e
    go_enter Try.func13, Try.ntmps13
    go_wp2_with fail
    refine (HH.out _).mono ?_
    rintro e w' ⟨rfl, rfl⟩
    go_wp2_with fail
    go_ret
    exact ⟨rfl, rfl⟩
  | true =>
    have hi : inR i = true := by unfold hasB at hb; rw [Bool.and_eq_true] at hb; exact hb.1
    have HS := Lib.hid (clear_sum hi hb)
    have HU := Lib.hid (u64_of x)
    have HH : Hid (∀ W, Calls Try.prog 9 #[.int .i64 x, .int .i64 i] W fun e w' => e = .returned (.bool true) ∧ w' = W) := fun W => by
      have := r_has x i W; rwa [hb] at this
    have hr := (inR_iff i).1 hi
    obtain ⟨k, rfl⟩ : ∃ k : Nat, i = k := ⟨i.toNat, by omega⟩
    rw [Int.toNat_natCast] at HS
    have pb := pow_b (show k < 32 by omega)
    have HW : Hid (∀ W, Calls Try.prog 25 #[.int .i64 k] W fun e w' => e = .returned (.int .u64 (2 ^ k)) ∧ w' = W) := fun W => r_worth k (by omega) W
    generalize (2 : Int) ^ k = P at HS HW pb
    have hX := (bvOf x).isLt
    generalize (bvOf x).toNat = X at HS HU hX
    clear hi hb
    go_enter Try.func13, Try.ntmps13
    go_wp2_with fail
    refine (HH.out _).mono ?_
    rintro e w' ⟨rfl, rfl⟩
    go_wp2_with fail
    refine (HW.out _).mono ?_
    rintro e w' ⟨rfl, rfl⟩
    go_wp2_with fail
    go_ret
    exact ⟨by rw [← HS.out, ← HU.out, IntWalk.i64_left]; rfl, rfl⟩

theorem end_in {n : Int} {k : Nat} (h : k < endN n) : (k : Int) < 32 ∧ (k : Int) < n := by unfold endN at h; omega
theorem end_out {n : Int} {k : Nat} (h : k ≤ endN n) (h' : ¬ k < endN n) : k = endN n ∧ (¬ (k : Int) < 32 ∨ ((k : Int) < 32 ∧ ¬ (k : Int) < n)) := by unfold endN at h h' ⊢; omega
theorem has_nat {x : Int} {k : Nat} (h : k < 32) : hasB x k = bitB x k := by unfold hasB; rw [inR_nat h, Int.toNat_natCast, Bool.true_and]

theorem r_first (x n : Int) (w : World) : Calls Try.prog 16 #[.int .i64 x, .int .i64 n] w fun e w' => e = .returned (.int .i64 (firstV x n)) ∧ w' = w := by
  have he := endN_le n
  go_enter Try.func16, Try.ntmps16
  go_wp2_with fail
  go_loop [5] (fun i => ∃ k : Nat, k ≤ endN n ∧ i = .int .i64 k ∧ ∀ j, j < k → bitB x j = true) (fun i => 32 - (intOf i).toNat)
  case atStart => exact ⟨0, Nat.zero_le _, rfl, fun j h => by omega⟩
  case round =>
    obtain ⟨k, hk, rfl, hj⟩ := hrel
    have Hj := Lib.hid hj
    clear hj
    by_cases hlt : k < endN n
    · obtain ⟨l1, l2⟩ := end_in hlt
      have d1 : decide ((k : Int) < 32) = true := by simpa using l1
      have d2 : decide ((k : Int) < n) = true := by simpa using l2
      have HK := Lib.hid (has_nat (x := x) (show k < 32 by omega))
      cases hb : bitB x k with
      | true =>
        have HH : Hid (∀ W, Calls Try.prog 9 #[.int .i64 x, .int .i64 k] W fun e w' => e = .returned (.bool true) ∧ w' = W) := fun W => by
          have := r_has x k W; rwa [HK.out, hb] at this
        have HB := Lib.hid hb
        clear hb
        go_wp2_with fail
        refine (HH.out _).mono ?_
        rintro e w' ⟨rfl, rfl⟩
        go_wp2_with fail
        go_round
        case rel => exact ⟨k + 1, by omega, by go_num, fun j h => by
          by_cases q : j = k
          · rw [q]; exact HB.out
          · exact Hj.out j (by omega)⟩
        case measure => simp [intOf]; omega
      | false =>
        have HH : Hid (∀ W, Calls Try.prog 9 #[.int .i64 x, .int .i64 k] W fun e w' => e = .returned (.bool false) ∧ w' = W) := fun W => by
          have := r_has x k W; rwa [HK.out, hb] at this
        have HF : Hid (firstV x n = k) := offN_some hlt hb Hj.out
        clear hb
        go_wp2_with fail
        refine (HH.out _).mono ?_
        rintro e w' ⟨rfl, rfl⟩
        go_wp2_with fail
        go_ret
        exact ⟨by rw [HF.out]; rfl, rfl⟩
    · obtain ⟨e0, l1⟩ := end_out hk hlt
      have HF : Hid (firstV x n = -1) := offN_none (fun j h => Hj.out j (by omega))
      clear e0
      rcases l1 with l1 | ⟨l1, l2⟩
      · have d1 : decide ((k : Int) < 32) = false := by simpa using l1
        go_wp2_with fail
        go_ret
        exact ⟨by rw [HF.out]; rfl, rfl⟩
      · have d1 : decide ((k : Int) < 32) = true := by simpa using l1
        have d2 : decide ((k : Int) < n) = false := by simpa using l2
        go_wp2_with fail
        go_ret
        exact ⟨by rw [HF.out]; rfl, rfl⟩

/-- What is listed. -/
def onI (x : Int) (k : Nat) : List Int := (onN x k).map (fun j : Nat => (j : Int))
theorem onI_succ_yes {x : Int} {k : Nat} (h : bitB x k = true) : onI x (k + 1) = onI x k ++ [(k : Int)] := by unfold onI; rw [onN_succ, h]; simp
theorem onI_succ_no {x : Int} {k : Nat} (h : bitB x k = false) : onI x (k + 1) = onI x k := by unfold onI; rw [onN_succ, h]; simp
theorem onI_le (x : Int) (k : Nat) : (onI x k).length ≤ k := by unfold onI; rw [List.length_map]; exact onN_le x k

theorem r_list (x n : Int) (w : World) : Calls Try.prog 21 #[.int .i64 x, .int .i64 n] w (GaveInts w (listV x n)) := by
  have he := endN_le n
  have HM : Hid (More w w) := More.refl w
  go_enter Try.func21, Try.ntmps21
  go_wp2_with fail
  go_loopw [5, 6] (fun v i wr => ∃ k : Nat, k ≤ endN n ∧ i = .int .i64 k ∧ Rw w.heap.size wr v (onI x k) ∧ More w wr) (fun _ i _ => 32 - (intOf i).toNat)
  case atStart => exact ⟨0, Nat.zero_le _, rfl, Rw.nil _ _, HM.out⟩
  case round =>
    obtain ⟨k, hk, rfl, hr, hm⟩ := hrel
    have HR := Lib.hid hr
    have HM2 := Lib.hid hm
    clear hr hm
    by_cases hlt : k < endN n
    · obtain ⟨l1, l2⟩ := end_in hlt
      have d1 : decide ((k : Int) < 32) = true := by simpa using l1
      have d2 : decide ((k : Int) < n) = true := by simpa using l2
      have HK := Lib.hid (has_nat (x := x) (show k < 32 by omega))
      have HL := Lib.hid (onI_le x k)
      cases hb : bitB x k with
      | true =>
        have HH : Hid (∀ W, Calls Try.prog 9 #[.int .i64 x, .int .i64 k] W fun e w' => e = .returned (.bool true) ∧ w' = W) := fun W => by
          have := r_has x k W; rwa [HK.out, hb] at this
        have HS := Lib.hid (onI_succ_yes hb)
        clear hb
        go_wp2_with fail
        refine (HH.out _).mono ?_
        rintro e w' ⟨rfl, rfl⟩
        go_wp2_with (at_builtin; refine wpList_push _ rfl _ _ rfl rfl HR.out HM2.out (by have := HL.out; omega) rfl ?_; intro v' w1 hr1 hm1; have HR1 := Lib.hid hr1; have HM1 := Lib.hid hm1; clear hr1 hm1)
        go_roundw
        case rel => exact ⟨k + 1, by omega, by go_num, by rw [HS.out]; exact HR1.out, HM1.out⟩
        case measure => simp [intOf]; omega
      | false =>
        have HH : Hid (∀ W, Calls Try.prog 9 #[.int .i64 x, .int .i64 k] W fun e w' => e = .returned (.bool false) ∧ w' = W) := fun W => by
          have := r_has x k W; rwa [HK.out, hb] at this
        have HS := Lib.hid (onI_succ_no hb)
        clear hb
        go_wp2_with fail
        refine (HH.out _).mono ?_
        rintro e w' ⟨rfl, rfl⟩
        go_wp2_with fail
        go_roundw
        case rel => exact ⟨k + 1, by omega, by go_num, by rw [HS.out]; exact HR.out, HM2.out⟩
        case measure => simp [intOf]; omega
    · obtain ⟨e0, l1⟩ := end_out hk hlt
      have HE := Lib.hid (show onI x k = listV x n by rw [e0]; rfl)
      clear e0
      rcases l1 with l1 | ⟨l1, l2⟩
      · have d1 : decide ((k : Int) < 32) = false := by simpa using l1
        go_wp2_with fail
        go_ret
        exact ⟨_, rfl, by rw [← HE.out]; exact HR.out, HM2.out⟩
      · have d1 : decide ((k : Int) < 32) = true := by simpa using l1
        have d2 : decide ((k : Int) < n) = false := by simpa using l2
        go_wp2_with fail
        go_ret
        exact ⟨_, rfl, by rw [← HE.out]; exact HR.out, HM2.out⟩

theorem r_count (x n : Int) (w : World) : Calls Try.prog 18 #[.int .i64 x, .int .i64 n] w (Gives w (.int .i64 (countV x n))) := by
  have HC : Hid (((listV x n).length : Int) = countV x n) := by unfold listV countV; rw [List.length_map]; exact rfl
  have HL := Lib.hid (show (listV x n).length ≤ 32 from Nat.le_trans (onI_le x _) (endN_le n))
  go_enter Try.func18, Try.ntmps18
  go_wp2_with fail
  refine (r_list x n _).mono ?_
  rintro e w1 ⟨v, rfl, hr, hm⟩
  obtain ⟨a, cap, rfl, _⟩ := hr.reads
  clear hr
  have hl := HL.out
  go_wp2_with fail
  go_ret
  exact ⟨by rw [← HC.out]; rfl, hm⟩

end Go.Proofs.Ytceneldblfdeaaa
