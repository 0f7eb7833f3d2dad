/-
  The landed vlock and the document's own answers, under contract: each call answers as told, and changes nothing.
-/
import Derived.Test.YthcodokbgokibaaPure
import Derived.Lib.Hide
import Derived.Test.YthcodokbgokibaaProg
import Derived.LoopTactic
import Derived.Outline
namespace Go.Proofs.Ythcodokbgokibaa
open Go.RowKit
set_option linter.unusedVariables false
set_option linter.unusedSimpArgs false

theorem wrap_i64 {x : Int} (h0 : -9223372036854775808 ≤ x) (h1 : x ≤ 9223372036854775807) : IntKind.i64.wrap x = x := by
  simp [IntKind.wrap, IntKind.bits, IntKind.signed]; omega

def freeV (v : Int) : Int := if v < 0 ∨ 1099511627776 < v then -1 else 2 * v
def heldV (o : Int) : Int := if o < 0 ∨ 63 < o then -1 else 2 * o + 1
def verB (w : Int) : Bool := decide (0 ≤ w ∧ w % 2 = 0 ∧ w ≤ 2199023255552)
def verV (w : Int) : Int := if verB w then w / 2 else 0
def ownB (w : Int) : Bool := decide (0 ≤ w ∧ w % 2 = 1 ∧ w ≤ 127)
def ownV (w : Int) : Int := if ownB w then w / 2 else 0
def freshB (w l : Int) : Bool := verB w && decide (verV w ≤ l)

theorem parts (w : Int) : ∃ q r : Int, w.tdiv 2 = q ∧ w.tmod 2 = r ∧ w = 2 * q + r ∧ (r = 0 ∨ (r = 1 ∧ 0 ≤ q) ∨ (r = -1 ∧ q ≤ 0)) := by
  refine ⟨w.tdiv 2, w.tmod 2, rfl, rfl, ?_, ?_⟩
  · have := Int.mul_tdiv_add_tmod w 2; omega
  · rcases Int.lt_or_le w 0 with h | h
    · have e : w = -(-w) := by omega
      have d : w.tdiv 2 = -((-w) / 2) := by rw [e, Int.neg_tdiv, Int.tdiv_eq_ediv_of_nonneg (by omega)]; simp
      have m : w.tmod 2 = -((-w) % 2) := by rw [e, Int.neg_tmod, Int.tmod_eq_emod_of_nonneg (by omega)]; simp
      omega
    · rw [Int.tdiv_eq_ediv_of_nonneg h, Int.tmod_eq_emod_of_nonneg h]; omega

theorem v_free (v : Int) (W : World) : Calls Try.prog 7 #[.int .i64 v] W fun e w' => e = .returned (.int .i64 (freeV v)) ∧ w' = W := by
  by_cases c0 : v < 0
  · have d0 : decide (v < 0) = true := by simpa using c0
    rw [show freeV v = -1 from if_pos (Or.inl c0)]
    go_enter Try.func7, Try.ntmps7
    go_wp2_with fail
    go_ret
    exact ⟨rfl, rfl⟩
  · have d0 : decide (v < 0) = false := by simpa using c0
    by_cases c1 : 1099511627776 < v
    · have d1 : decide (1099511627776 < v) = true := by simpa using c1
      rw [show freeV v = -1 from if_pos (Or.inr c1)]
      go_enter Try.func7, Try.ntmps7
      go_wp2_with fail
      go_ret
      exact ⟨rfl, rfl⟩
    · have d1 : decide (1099511627776 < v) = false := by simpa using c1
      have q0 : IntKind.i64.wrap (2 * v) = 2 * v := wrap_i64 (by omega) (by omega)
      rw [show freeV v = 2 * v from if_neg (by omega)]
      go_enter Try.func7, Try.ntmps7
      go_wp2_with fail
      go_ret
      exact ⟨rfl, rfl⟩
theorem r_free (v : Int) (W : World) : Calls Try.prog 8 #[.int .i64 v] W fun e w' => e = .returned (.int .i64 (freeV v)) ∧ w' = W := by
  by_cases c0 : v < 0
  · have d0 : decide (v < 0) = true := by simpa using c0
    rw [show freeV v = -1 from if_pos (Or.inl c0)]
    go_enter Try.func8, Try.ntmps8
    go_wp2_with fail
    go_ret
    exact ⟨rfl, rfl⟩
  · have d0 : decide (v < 0) = false := by simpa using c0
    by_cases c1 : 1099511627776 < v
    · have d1 : decide (1099511627776 < v) = true := by simpa using c1
      rw [show freeV v = -1 from if_pos (Or.inr c1)]
      go_enter Try.func8, Try.ntmps8
      go_wp2_with fail
      go_ret
      exact ⟨rfl, rfl⟩
    · have d1 : decide (1099511627776 < v) = false := by simpa using c1
      have q0 : IntKind.i64.wrap (v + v) = 2 * v := by rw [show v + v = 2 * v by omega]; exact wrap_i64 (by omega) (by omega)
      rw [show freeV v = 2 * v from if_neg (by omega)]
      go_enter Try.func8, Try.ntmps8
      go_wp2_with fail
      go_ret
      exact ⟨rfl, rfl⟩
theorem v_held (o : Int) (W : World) : Calls Try.prog 9 #[.int .i64 o] W fun e w' => e = .returned (.int .i64 (heldV o)) ∧ w' = W := by
  by_cases c0 : o < 0
  · have d0 : decide (o < 0) = true := by simpa using c0
    rw [show heldV o = -1 from if_pos (Or.inl c0)]
    go_enter Try.func9, Try.ntmps9
    go_wp2_with fail
    go_ret
    exact ⟨rfl, rfl⟩
  · have d0 : decide (o < 0) = false := by simpa using c0
    by_cases c1 : 63 < o
    · have d1 : decide (63 < o) = true := by simpa using c1
      rw [show heldV o = -1 from if_pos (Or.inr c1)]
      go_enter Try.func9, Try.ntmps9
      go_wp2_with fail
      go_ret
      exact ⟨rfl, rfl⟩
    · have d1 : decide (63 < o) = false := by simpa using c1
      have q0 : IntKind.i64.wrap (2 * o) = 2 * o := wrap_i64 (by omega) (by omega)
      have q1 : IntKind.i64.wrap (2 * o + 1) = 2 * o + 1 := wrap_i64 (by omega) (by omega)
      rw [show heldV o = 2 * o + 1 from if_neg (by omega)]
      go_enter Try.func9, Try.ntmps9
      go_wp2_with fail
      go_ret
      exact ⟨rfl, rfl⟩
theorem r_held (o : Int) (W : World) : Calls Try.prog 10 #[.int .i64 o] W fun e w' => e = .returned (.int .i64 (heldV o)) ∧ w' = W := by
  by_cases c0 : o < 0
  · have d0 : decide (o < 0) = true := by simpa using c0
    rw [show heldV o = -1 from if_pos (Or.inl c0)]
    go_enter Try.func10, Try.ntmps10
    go_wp2_with fail
    go_ret
    exact ⟨rfl, rfl⟩
  · have d0 : decide (o < 0) = false := by simpa using c0
    by_cases c1 : 64 ≤ o
    · have d1 : decide (64 ≤ o) = true := by simpa using c1
      rw [show heldV o = -1 from if_pos (Or.inr (by omega))]
      go_enter Try.func10, Try.ntmps10
      go_wp2_with fail
      go_ret
      exact ⟨rfl, rfl⟩
    · have d1 : decide (64 ≤ o) = false := by simpa using c1
      have q0 : IntKind.i64.wrap (o + o) = 2 * o := by rw [show o + o = 2 * o by omega]; exact wrap_i64 (by omega) (by omega)
      have q1 : IntKind.i64.wrap (2 * o + 1) = 2 * o + 1 := wrap_i64 (by omega) (by omega)
      rw [show heldV o = 2 * o + 1 from if_neg (by omega)]
      go_enter Try.func10, Try.ntmps10
      go_wp2_with fail
      go_ret
      exact ⟨rfl, rfl⟩

theorem v_version (x : Int) (x0 : -9223372036854775808 ≤ x) (x1 : x ≤ 9223372036854775807) (W : World) :
    Calls Try.prog 12 #[.int .i64 x] W fun e w' => e = .returned (.tuple #[.int .i64 (verV x), .bool (verB x)]) ∧ w' = W := by
  obtain ⟨q, r, hq, hr, hx, hc⟩ := parts x
  have q0 : IntKind.i64.wrap (x.tdiv 2) = q := by rw [hq]; exact wrap_i64 (by omega) (by omega)
  have q1 : x.tmod 2 = r := hr
  clear hq
  clear hr
  cases hv : verB x with
  | true =>
    have h1 : 0 ≤ x ∧ x % 2 = 0 ∧ x ≤ 2199023255552 := of_decide_eq_true hv
    rw [show verV x = q by unfold verV; rw [if_pos hv]; omega]
    have d0 : (r != 0) = false := by simp; omega
    have d1 : decide (q < 0) = false := by simp; omega
    have d2 : decide (1099511627776 < q) = false := by simp; omega
    clear hv h1 hx hc x0 x1
    go_enter Try.func12, Try.ntmps12
    go_wp2_with fail
    refine bodyPost_ret (v := .tuple #[.int .i64 q, .bool true]) (by simp [results, Try.results12, go_sem]) rfl ⟨rfl, rfl⟩
  | false =>
    have h1 : ¬ (0 ≤ x ∧ x % 2 = 0 ∧ x ≤ 2199023255552) := of_decide_eq_false hv
    rw [show verV x = 0 by unfold verV; rw [hv]; rfl]
    by_cases c0 : r = 0
    · have d0 : (r != 0) = false := by simp; omega
      by_cases c1 : q < 0
      · have d1 : decide (q < 0) = true := by simp; omega
        clear hv h1 hx hc x0 x1 c0 c1
        go_enter Try.func12, Try.ntmps12
        go_wp2_with fail
        refine bodyPost_ret (v := .tuple #[.int .i64 0, .bool false]) (by simp [results, Try.results12, go_sem]) rfl ⟨rfl, rfl⟩
      · have d1 : decide (q < 0) = false := by simp; omega
        have d2 : decide (1099511627776 < q) = true := by simp; omega
        clear hv h1 hx hc x0 x1 c0 c1
        go_enter Try.func12, Try.ntmps12
        go_wp2_with fail
        refine bodyPost_ret (v := .tuple #[.int .i64 0, .bool false]) (by simp [results, Try.results12, go_sem]) rfl ⟨rfl, rfl⟩
    · have d0 : (r != 0) = true := by simp; omega
      clear hv h1 hx hc x0 x1 c0
      go_enter Try.func12, Try.ntmps12
      go_wp2_with fail
      refine bodyPost_ret (v := .tuple #[.int .i64 0, .bool false]) (by simp [results, Try.results12, go_sem]) rfl ⟨rfl, rfl⟩
theorem r_version (x : Int) (x0 : -9223372036854775808 ≤ x) (x1 : x ≤ 9223372036854775807) (W : World) :
    Calls Try.prog 13 #[.int .i64 x] W fun e w' => e = .returned (.tuple #[.int .i64 (verV x), .bool (verB x)]) ∧ w' = W := by
  obtain ⟨q, r, hq, hr, hx, hc⟩ := parts x
  have q0 : IntKind.i64.wrap (x.tdiv 2) = q := by rw [hq]; exact wrap_i64 (by omega) (by omega)
  have q1 : x.tmod 2 = r := hr
  clear hq
  clear hr
  cases hv : verB x with
  | true =>
    have h1 : 0 ≤ x ∧ x % 2 = 0 ∧ x ≤ 2199023255552 := of_decide_eq_true hv
    rw [show verV x = q by unfold verV; rw [if_pos hv]; omega]
    have d0 : (r != 0) = false := by simp; omega
    have d1 : decide (x < 0) = false := by simp; omega
    have d2 : decide (1099511627776 < q) = false := by simp; omega
    clear hv h1 hx hc x0 x1
    go_enter Try.func13, Try.ntmps13
    go_wp2_with fail
    refine bodyPost_ret (v := .tuple #[.int .i64 q, .bool true]) (by simp [results, Try.results13, go_sem]) rfl ⟨rfl, rfl⟩
  | false =>
    have h1 : ¬ (0 ≤ x ∧ x % 2 = 0 ∧ x ≤ 2199023255552) := of_decide_eq_false hv
    rw [show verV x = 0 by unfold verV; rw [hv]; rfl]
    by_cases c1 : x < 0
    · have d1 : decide (x < 0) = true := by simp; omega
      clear hv h1 hx hc x0 x1 c1
      go_enter Try.func13, Try.ntmps13
      go_wp2_with fail
      refine bodyPost_ret (v := .tuple #[.int .i64 0, .bool false]) (by simp [results, Try.results13, go_sem]) rfl ⟨rfl, rfl⟩
    · have d1 : decide (x < 0) = false := by simp; omega
      by_cases c0 : r = 0
      · have d0 : (r != 0) = false := by simp; omega
        have d2 : decide (1099511627776 < q) = true := by simp; omega
        clear hv h1 hx hc x0 x1 c0 c1
        go_enter Try.func13, Try.ntmps13
        go_wp2_with fail
        refine bodyPost_ret (v := .tuple #[.int .i64 0, .bool false]) (by simp [results, Try.results13, go_sem]) rfl ⟨rfl, rfl⟩
      · have d0 : (r != 0) = true := by simp; omega
        clear hv h1 hx hc x0 x1 c0 c1
        go_enter Try.func13, Try.ntmps13
        go_wp2_with fail
        refine bodyPost_ret (v := .tuple #[.int .i64 0, .bool false]) (by simp [results, Try.results13, go_sem]) rfl ⟨rfl, rfl⟩

theorem v_owner (x : Int) (x0 : -9223372036854775808 ≤ x) (x1 : x ≤ 9223372036854775807) (W : World) :
    Calls Try.prog 14 #[.int .i64 x] W fun e w' => e = .returned (.tuple #[.int .i64 (ownV x), .bool (ownB x)]) ∧ w' = W := by
  obtain ⟨q, r, hq, hr, hx, hc⟩ := parts x
  have q0 : IntKind.i64.wrap (x.tdiv 2) = q := by rw [hq]; exact wrap_i64 (by omega) (by omega)
  have q1 : x.tmod 2 = r := hr
  clear hq
  clear hr
  cases hv : ownB x with
  | true =>
    have h1 : 0 ≤ x ∧ x % 2 = 1 ∧ x ≤ 127 := of_decide_eq_true hv
    rw [show ownV x = q by unfold ownV; rw [if_pos hv]; omega]
    have d0 : (r != 1) = false := by simp; omega
    have d2 : decide (63 < q) = false := by simp; omega
    clear hv h1 hx hc x0 x1
    go_enter Try.func14, Try.ntmps14
    go_wp2_with fail
    refine bodyPost_ret (v := .tuple #[.int .i64 q, .bool true]) (by simp [results, Try.results14, go_sem]) rfl ⟨rfl, rfl⟩
  | false =>
    have h1 : ¬ (0 ≤ x ∧ x % 2 = 1 ∧ x ≤ 127) := of_decide_eq_false hv
    rw [show ownV x = 0 by unfold ownV; rw [hv]; rfl]
    by_cases c0 : r = 1
    · have d0 : (r != 1) = false := by simp; omega
      have d2 : decide (63 < q) = true := by simp; omega
      clear hv h1 hx hc x0 x1 c0
      go_enter Try.func14, Try.ntmps14
      go_wp2_with fail
      refine bodyPost_ret (v := .tuple #[.int .i64 0, .bool false]) (by simp [results, Try.results14, go_sem]) rfl ⟨rfl, rfl⟩
    · have d0 : (r != 1) = true := by simp; omega
      clear hv h1 hx hc x0 x1 c0
      go_enter Try.func14, Try.ntmps14
      go_wp2_with fail
      refine bodyPost_ret (v := .tuple #[.int .i64 0, .bool false]) (by simp [results, Try.results14, go_sem]) rfl ⟨rfl, rfl⟩
theorem r_owner (x : Int) (x0 : -9223372036854775808 ≤ x) (x1 : x ≤ 9223372036854775807) (W : World) :
    Calls Try.prog 15 #[.int .i64 x] W fun e w' => e = .returned (.tuple #[.int .i64 (ownV x), .bool (ownB x)]) ∧ w' = W := by
  obtain ⟨q, r, hq, hr, hx, hc⟩ := parts x
  have q0 : IntKind.i64.wrap (x.tdiv 2) = q := by rw [hq]; exact wrap_i64 (by omega) (by omega)
  have q1 : x.tmod 2 = r := hr
  clear hq
  clear hr
  cases hv : ownB x with
  | true =>
    have h1 : 0 ≤ x ∧ x % 2 = 1 ∧ x ≤ 127 := of_decide_eq_true hv
    rw [show ownV x = q by unfold ownV; rw [if_pos hv]; omega]
    have d1 : decide (x < 0) = false := by simp; omega
    have d0 : (r != 1) = false := by simp; omega
    have d2 : decide (64 ≤ q) = false := by simp; omega
    clear hv h1 hx hc x0 x1
    go_enter Try.func15, Try.ntmps15
    go_wp2_with fail
    refine bodyPost_ret (v := .tuple #[.int .i64 q, .bool true]) (by simp [results, Try.results15, go_sem]) rfl ⟨rfl, rfl⟩
  | false =>
    have h1 : ¬ (0 ≤ x ∧ x % 2 = 1 ∧ x ≤ 127) := of_decide_eq_false hv
    rw [show ownV x = 0 by unfold ownV; rw [hv]; rfl]
    by_cases c1 : x < 0
    · have d1 : decide (x < 0) = true := by simp; omega
      clear hv h1 hx hc x0 x1 c1
      go_enter Try.func15, Try.ntmps15
      go_wp2_with fail
      refine bodyPost_ret (v := .tuple #[.int .i64 0, .bool false]) (by simp [results, Try.results15, go_sem]) rfl ⟨rfl, rfl⟩
    · have d1 : decide (x < 0) = false := by simp; omega
      by_cases c0 : r = 1
      · have d0 : (r != 1) = false := by simp; omega
        have d2 : decide (64 ≤ q) = true := by simp; omega
        clear hv h1 hx hc x0 x1 c0 c1
        go_enter Try.func15, Try.ntmps15
        go_wp2_with fail
        refine bodyPost_ret (v := .tuple #[.int .i64 0, .bool false]) (by simp [results, Try.results15, go_sem]) rfl ⟨rfl, rfl⟩
      · have d0 : (r != 1) = true := by simp; omega
        clear hv h1 hx hc x0 x1 c0 c1
        go_enter Try.func15, Try.ntmps15
        go_wp2_with fail
        refine bodyPost_ret (v := .tuple #[.int .i64 0, .bool false]) (by simp [results, Try.results15, go_sem]) rfl ⟨rfl, rfl⟩

theorem v_fresh (x l : Int) (x0 : -9223372036854775808 ≤ x) (x1 : x ≤ 9223372036854775807) (W : World) :
    Calls Try.prog 16 #[.int .i64 x, .int .i64 l] W fun e w' => e = .returned (.bool (freshB x l)) ∧ w' = W := by
  have HV := Lib.hid (v_version x x0 x1)
  cases hv : verB x with
  | false =>
    rw [hv] at HV
    rw [show freshB x l = false by unfold freshB; rw [hv]; rfl]
    clear hv
    go_enter Try.func16, Try.ntmps16
    go_wp2_with fail
    refine (HV.out _).mono ?_
    rintro e w1 ⟨rfl, rfl⟩
    go_wp2_with fail
    go_ret
    exact ⟨rfl, rfl⟩
  | true =>
    rw [hv] at HV
    rw [show freshB x l = decide (verV x ≤ l) by unfold freshB; rw [hv]; rfl]
    clear hv
    go_enter Try.func16, Try.ntmps16
    go_wp2_with fail
    refine (HV.out _).mono ?_
    rintro e w1 ⟨rfl, rfl⟩
    go_wp2_with fail
    go_ret
    exact ⟨rfl, rfl⟩
theorem r_fresh (x l : Int) (x0 : -9223372036854775808 ≤ x) (x1 : x ≤ 9223372036854775807) (W : World) :
    Calls Try.prog 17 #[.int .i64 x, .int .i64 l] W fun e w' => e = .returned (.bool (freshB x l)) ∧ w' = W := by
  have HV := Lib.hid (r_version x x0 x1)
  cases hv : verB x with
  | false =>
    rw [hv] at HV
    rw [show freshB x l = false by unfold freshB; rw [hv]; rfl]
    clear hv
    go_enter Try.func17, Try.ntmps17
    go_wp2_with fail
    refine (HV.out _).mono ?_
    rintro e w1 ⟨rfl, rfl⟩
    go_wp2_with fail
    go_ret
    exact ⟨rfl, rfl⟩
  | true =>
    rw [hv] at HV
    rw [show freshB x l = decide (verV x ≤ l) by unfold freshB; rw [hv]; rfl]
    clear hv
    go_enter Try.func17, Try.ntmps17
    go_wp2_with fail
    refine (HV.out _).mono ?_
    rintro e w1 ⟨rfl, rfl⟩
    go_wp2_with fail
    go_ret
    exact ⟨rfl, rfl⟩

end Go.Proofs.Ythcodokbgokibaa
