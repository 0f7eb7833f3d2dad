/-
  The words of layer 4, plainly: bits of a word; the word with one bit set, and cleared; which bits are set.
-/
import Derived.Test.YtceneldblfdeaaaPure
namespace Go.Proofs.Ytceneldblfdeaaa
open Go.RowKit
set_option linter.unusedVariables false
set_option linter.unusedSimpArgs false

def bvOf (w : Int) : BitVec 64 := BitVec.ofInt 64 w
/-- Bit k of a word. -/
def bitB (w : Int) (k : Nat) : Bool := (bvOf w).getLsbD k
/-- Is there such a bit? -/
def inR (i : Int) : Bool := decide (0 ≤ i ∧ i < 32)
def hasB (w i : Int) : Bool := inR i && bitB w i.toNat
def onlyV (i : Int) : Int := if inR i then 2 ^ i.toNat else 0
def setV (w i : Int) : Int := if inR i then (bvOf w ||| BitVec.twoPow 64 i.toNat).toInt else w
def clearV (w i : Int) : Int := if inR i then (bvOf w &&& ~~~ BitVec.twoPow 64 i.toNat).toInt else w
/-- Bits below n: how many. -/
def endN (n : Int) : Nat := (min n 32).toNat
/-- Which of the bits below k are set. -/
def onN (w : Int) (k : Nat) : List Nat := (List.range k).filter (bitB w)
def countV (w n : Int) : Int := (onN w (endN n)).length
def listV (w n : Int) : List Int := (onN w (endN n)).map (fun k : Nat => (k : Int))
/-- The first bit below k that is 0; or -1. -/
def offN (w : Int) (k : Nat) : Int := match (List.range k).find? (fun j => !bitB w j) with | some j => (j : Int) | none => -1
def firstV (w n : Int) : Int := offN w (endN n)

theorem inR_iff (i : Int) : inR i = true ↔ 0 ≤ i ∧ i < 32 := by simp [inR]
theorem inR_nat {k : Nat} (h : k < 32) : inR (k : Int) = true := by simp [inR]; omega
theorem endN_le (n : Int) : endN n ≤ 32 := by unfold endN; omega
theorem wrap_toNat (r : BitVec 64) : IntKind.i64.wrap (r.toNat : Int) = r.toInt := by
  have := r.isLt
  rw [BitVec.toInt_eq_toNat_bmod]
  simp [IntKind.wrap, IntKind.bits, IntKind.signed, Int.bmod]
  omega
theorem toInt_of {w : Int} (h0 : -9223372036854775808 ≤ w) (h1 : w ≤ 9223372036854775807) : (bvOf w).toInt = w := by
  rw [bvOf, BitVec.toInt_ofInt, Int.bmod]
  simp only [Nat.reducePow]
  split <;> omega
theorem bv_toInt (r : BitVec 64) : bvOf r.toInt = r := by rw [bvOf, BitVec.ofInt_toInt]
theorem toInt_wide (r : BitVec 64) : -9223372036854775808 ≤ r.toInt ∧ r.toInt ≤ 9223372036854775807 := by
  have h1 := BitVec.le_toInt r
  have h2 := BitVec.toInt_lt (x := r)
  constructor <;> omega
theorem bv_pow {k : Nat} (h : k < 32) : BitVec.ofInt 64 ((2 : Int) ^ k) = BitVec.twoPow 64 k := by
  rw [show ((2 : Int) ^ k) = ((2 ^ k : Nat) : Int) by simp, BitVec.ofInt_natCast]
  apply BitVec.eq_of_toNat_eq
  rw [BitVec.toNat_ofNat, BitVec.toNat_twoPow]
theorem bv_zero : BitVec.ofInt 64 0 = 0#64 := by decide

theorem bits_and (w i : Int) : (bits .and .i64 w (onlyV i) != 0) = hasB w i := by
  show (IntKind.i64.wrap ((BitVec.ofInt 64 w &&& BitVec.ofInt 64 (onlyV i)).toNat : Int) != 0) = _
  rw [wrap_toNat]
  unfold hasB onlyV
  cases hi : inR i with
  | false => simp
  | true =>
    have hr := (inR_iff i).1 hi
    simp only [if_true, Bool.true_and]
    rw [bv_pow (by omega), BitVec.and_twoPow]
    unfold bitB bvOf
    cases hb : (BitVec.ofInt 64 w).getLsbD i.toNat with
    | false => simp
    | true =>
      simp only [if_true]
      simp only [bne_iff_ne, ne_eq]
      intro e
      have := congrArg (BitVec.ofInt 64) e
      rw [BitVec.ofInt_toInt] at this
      have := congrArg (fun x => x.getLsbD i.toNat) this
      simp [BitVec.getLsbD_twoPow] at this
      omega
theorem bits_or (w i : Int) (h0 : -9223372036854775808 ≤ w) (h1 : w ≤ 9223372036854775807) : bits .or .i64 w (onlyV i) = setV w i := by
  show IntKind.i64.wrap ((BitVec.ofInt 64 w ||| BitVec.ofInt 64 (onlyV i)).toNat : Int) = _
  rw [wrap_toNat]
  unfold setV onlyV
  cases hi : inR i with
  | false =>
    rw [if_neg (by simp), if_neg (by simp), bv_zero, BitVec.or_zero]
    exact toInt_of h0 h1
  | true =>
    have hr := (inR_iff i).1 hi
    simp only [if_true]
    rw [bv_pow (by omega)]; rfl
theorem bits_andNot (w i : Int) (h0 : -9223372036854775808 ≤ w) (h1 : w ≤ 9223372036854775807) : bits .andNot .i64 w (onlyV i) = clearV w i := by
  show IntKind.i64.wrap ((BitVec.ofInt 64 w &&& ~~~ BitVec.ofInt 64 (onlyV i)).toNat : Int) = _
  rw [wrap_toNat]
  unfold clearV onlyV
  cases hi : inR i with
  | false =>
    rw [if_neg (by simp), if_neg (by simp), bv_zero, BitVec.not_zero, BitVec.and_allOnes]
    exact toInt_of h0 h1
  | true =>
    have hr := (inR_iff i).1 hi
    simp only [if_true]
    rw [bv_pow (by omega)]; rfl

theorem setV_wide (w i : Int) (h0 : -9223372036854775808 ≤ w) (h1 : w ≤ 9223372036854775807) : -9223372036854775808 ≤ setV w i ∧ setV w i ≤ 9223372036854775807 := by
  unfold setV; split
  · exact toInt_wide _
  · exact ⟨h0, h1⟩
theorem clearV_wide (w i : Int) (h0 : -9223372036854775808 ≤ w) (h1 : w ≤ 9223372036854775807) : -9223372036854775808 ≤ clearV w i ∧ clearV w i ≤ 9223372036854775807 := by
  unfold clearV; split
  · exact toInt_wide _
  · exact ⟨h0, h1⟩

/-! One bit. -/
theorem bit_set {w i : Int} (hi : inR i = true) (k : Nat) (hk : k < 64) : bitB (setV w i) k = (bitB w k || decide (i.toNat = k)) := by
  have hr := (inR_iff i).1 hi
  unfold bitB setV
  rw [if_pos hi, bv_toInt, BitVec.getLsbD_or, BitVec.getLsbD_twoPow, decide_eq_true (show i.toNat < 64 by omega), Bool.true_and]
theorem bit_clear {w i : Int} (hi : inR i = true) (k : Nat) (hk : k < 64) : bitB (clearV w i) k = (bitB w k && !decide (i.toNat = k)) := by
  have hr := (inR_iff i).1 hi
  unfold bitB clearV
  rw [if_pos hi, bv_toInt, BitVec.getLsbD_and, BitVec.getLsbD_not, BitVec.getLsbD_twoPow, decide_eq_true hk, decide_eq_true (show i.toNat < 64 by omega), Bool.true_and, Bool.true_and]
theorem word_ext {a b : Int} (a0 : -9223372036854775808 ≤ a) (a1 : a ≤ 9223372036854775807) (b0 : -9223372036854775808 ≤ b) (b1 : b ≤ 9223372036854775807)
    (h : ∀ k, k < 64 → bitB a k = bitB b k) : a = b := by
  rw [← toInt_of a0 a1, ← toInt_of b0 b1]
  congr 1
  apply BitVec.eq_of_getLsbD_eq
  exact h
theorem has_set {w i : Int} (hi : inR i = true) : hasB (setV w i) i = true := by
  have hr := (inR_iff i).1 hi
  unfold hasB; rw [bit_set hi _ (by omega)]; simp [hi]
theorem has_clear {w i : Int} (hi : inR i = true) : hasB (clearV w i) i = false := by
  have hr := (inR_iff i).1 hi
  unfold hasB; rw [bit_clear hi _ (by omega)]; simp
theorem has_set_other {w i k : Int} (hi : inR i = true) (hk : k ≠ i) : hasB (setV w i) k = hasB w k := by
  unfold hasB
  cases hK : inR k with
  | false => rfl
  | true =>
    have hr := (inR_iff i).1 hi
    have hr' := (inR_iff k).1 hK
    rw [bit_set hi _ (by omega), decide_eq_false (by omega), Bool.or_false]
theorem has_clear_other {w i k : Int} (hi : inR i = true) (hk : k ≠ i) : hasB (clearV w i) k = hasB w k := by
  unfold hasB
  cases hK : inR k with
  | false => rfl
  | true =>
    have hr := (inR_iff i).1 hi
    have hr' := (inR_iff k).1 hK
    rw [bit_clear hi _ (by omega), decide_eq_false (by omega), Bool.not_false, Bool.and_true]
section
variable {w i : Int} (h0 : -9223372036854775808 ≤ w) (h1 : w ≤ 9223372036854775807)
include h0 h1
theorem set_had (hi : inR i = true) (hb : hasB w i = true) : setV w i = w := by
  have hr := (inR_iff i).1 hi
  have ⟨s0, s1⟩ := setV_wide w i h0 h1
  refine word_ext s0 s1 h0 h1 fun k hk => ?_
  rw [bit_set hi _ hk]
  by_cases q : i.toNat = k
  · subst q; unfold hasB at hb; simp [hi] at hb; simp [hb]
  · simp [q]
theorem clear_not (hi : inR i = true) (hb : hasB w i = false) : clearV w i = w := by
  have hr := (inR_iff i).1 hi
  have ⟨s0, s1⟩ := clearV_wide w i h0 h1
  refine word_ext s0 s1 h0 h1 fun k hk => ?_
  rw [bit_clear hi _ hk]
  by_cases q : i.toNat = k
  · subst q; unfold hasB at hb; simp [hi] at hb; simp [hb]
  · simp [q]
theorem set_clear (hi : inR i = true) (hb : hasB w i = true) : setV (clearV w i) i = w := by
  have hr := (inR_iff i).1 hi
  have ⟨s0, s1⟩ := clearV_wide w i h0 h1
  have ⟨t0, t1⟩ := setV_wide (clearV w i) i s0 s1
  refine word_ext t0 t1 h0 h1 fun k hk => ?_
  rw [bit_set hi _ hk, bit_clear hi _ hk]
  by_cases q : i.toNat = k
  · subst q; unfold hasB at hb; simp [hi] at hb; simp [hb]
  · simp [q]
theorem clear_set (hi : inR i = true) (hb : hasB w i = false) : clearV (setV w i) i = w := by
  have hr := (inR_iff i).1 hi
  have ⟨s0, s1⟩ := setV_wide w i h0 h1
  have ⟨t0, t1⟩ := clearV_wide (setV w i) i s0 s1
  refine word_ext t0 t1 h0 h1 fun k hk => ?_
  rw [bit_clear hi _ hk, bit_set hi _ hk]
  by_cases q : i.toNat = k
  · subst q; unfold hasB at hb; simp [hi] at hb; simp [hb]
  · simp [q]
end
theorem set_none {w i : Int} (hi : inR i = false) : setV w i = w := by simp [setV, hi]
theorem clear_none {w i : Int} (hi : inR i = false) : clearV w i = w := by simp [clearV, hi]
theorem has_none {w i : Int} (hi : inR i = false) : hasB w i = false := by simp [hasB, hi]

/-! By division. -/
theorem nat_bit (w : Int) (k : Nat) : bitB w k = decide ((bvOf w).toNat / 2 ^ k % 2 = 1) := by
  unfold bitB
  rw [BitVec.getLsbD, Nat.testBit_eq_decide_div_mod_eq]
theorem u64_of (w : Int) : IntKind.u64.wrap w = ((bvOf w).toNat : Int) := by
  rw [bvOf, BitVec.toNat_ofInt]
  simp [IntKind.wrap, IntKind.bits, IntKind.signed]
  omega

/-! What is set below n. -/
theorem onN_zero (w : Int) : onN w 0 = [] := rfl
theorem onN_succ (w : Int) (k : Nat) : onN w (k + 1) = onN w k ++ (if bitB w k then [k] else []) := by
  unfold onN
  rw [List.range_succ, List.filter_append]
  congr 1
  cases h : bitB w k <;> simp [h]
theorem onN_le (w : Int) (k : Nat) : (onN w k).length ≤ k := by
  have := List.length_filter_le (bitB w) (List.range k)
  rw [List.length_range] at this
  exact this
theorem offN_some {w : Int} {k j : Nat} (hj : j < k) (h0 : bitB w j = false) (h1 : ∀ i, i < j → bitB w i = true) : offN w k = j := by
  have : (List.range k).find? (fun i => !bitB w i) = some j := by
    rw [List.find?_range_eq_some]
    exact ⟨by simp [h0], by simpa using hj, fun i hi => by simp [h1 i hi]⟩
  unfold offN; rw [this]
theorem offN_none {w : Int} {k : Nat} (h : ∀ i, i < k → bitB w i = true) : offN w k = -1 := by
  have : (List.range k).find? (fun i => !bitB w i) = none := by
    rw [List.find?_range_eq_none]
    intro i hi; simp [h i hi]
  unfold offN; rw [this]
theorem offN_ways (w : Int) (k : Nat) : (offN w k = -1 ∧ ∀ i, i < k → bitB w i = true) ∨ ∃ j : Nat, j < k ∧ offN w k = j ∧ bitB w j = false ∧ ∀ i, i < j → bitB w i = true := by
  induction k with
  | zero => exact .inl ⟨rfl, fun i h => by omega⟩
  | succ k ih =>
    rcases ih with ⟨_, h⟩ | ⟨j, hj, _, h0, h1⟩
    · cases hb : bitB w k with
      | true =>
        have : ∀ i, i < k + 1 → bitB w i = true := fun i hi => by
          by_cases q : i = k
          · rw [q]; exact hb
          · exact h i (by omega)
        exact .inl ⟨offN_none this, this⟩
      | false => exact .inr ⟨k, by omega, offN_some (by omega) hb h, hb, h⟩
    · exact .inr ⟨j, by omega, offN_some (by omega) h0 h1, h0, h1⟩
theorem on_all {w : Int} {k : Nat} (h : ∀ i, i < k → bitB w i = true) : (onN w k).length = k := by
  induction k with
  | zero => rfl
  | succ k ih => rw [onN_succ, List.length_append, ih (fun i hi => h i (by omega)), if_pos (h k (by omega))]; rfl
/-- One more bit is set. -/
theorem on_set {w i : Int} (hi : inR i = true) (hb : bitB w i.toNat = false) (k : Nat) (hk : k ≤ 32) : (onN (setV w i) k).length = (onN w k).length + if i.toNat < k then 1 else 0 := by
  induction k with
  | zero => rfl
  | succ k ih =>
    rw [onN_succ, onN_succ, List.length_append, List.length_append, ih (by omega), bit_set hi k (by omega)]
    by_cases q : i.toNat = k
    · subst q
      rw [hb]
      simp
    · rw [decide_eq_false q, Bool.or_false]
      have e : (if i.toNat < k + 1 then 1 else 0) = (if i.toNat < k then 1 else 0) := by
        by_cases q2 : i.toNat < k
        · rw [if_pos q2, if_pos (show i.toNat < k + 1 by omega)]
        · rw [if_neg q2, if_neg (show ¬ i.toNat < k + 1 by omega)]
      rw [e]; omega

end Go.Proofs.Ytceneldblfdeaaa
