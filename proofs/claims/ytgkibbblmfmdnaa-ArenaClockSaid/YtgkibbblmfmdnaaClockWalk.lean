/-
  The walk of the statement on a word that is bumped.
-/
import Derived.Test.YtgkibbblmfmdnaaFilled
namespace Go.Proofs.Ytgkibbblmfmdnaa
open Go.RowKit
set_option linter.unusedVariables false
set_option linter.unusedSimpArgs false

theorem filled_one (v : Int) (s : Nat) (w : World) (hc : w.cell? ⟨s, 0, none⟩ = some (.int .i64 v)) :
    Calls Try.prog 21 #[.slice (some ⟨s, 0, none⟩) 1 1] w (MadeArena 53 w [v] 1 (fun p => p)) :=
  filled_any [v] s 0 1 w (by simp) (by simp) (by intro i hi; have : i = 0 := by simp at hi; omega
                                                 subst this; simpa [wordAt] using hc)

def LivesPost (w : World) (e : Ending) (w' : World) : Prop := e = .returned (.bool true) ∧ Turned (fun _ => False) w w'

/-- Arguments that the statement leaves aside. -/
theorem clock_out (a m t : Int) (w : World) (h : t < 0 ∨ 100 < t ∨ a < 0 ∨ 1125899906842624 < a ∨ m < 0 ∨ 1125899906842624 < m) :
    Calls Try.prog 7 #[.int .i64 a, .int .i64 m, .int .i64 t] w (LivesPost w) := by
  cases d1 : decide (t < 0) with
  | true =>
    clear h
    go_enter Try.func7, Try.ntmps7
    go_wp2_with fail
    exact (lives_any _).mono (by rintro e w6 ⟨rfl, t6⟩; go_wp2_with fail; go_ret; exact ⟨rfl, t6⟩)
  | false =>
  cases d2 : decide (100 < t) with
  | true =>
    clear h
    go_enter Try.func7, Try.ntmps7
    go_wp2_with fail
    exact (lives_any _).mono (by rintro e w6 ⟨rfl, t6⟩; go_wp2_with fail; go_ret; exact ⟨rfl, t6⟩)
  | false =>
  cases d3 : decide (a < 0) with
  | true =>
    clear h
    go_enter Try.func7, Try.ntmps7
    go_wp2_with fail
    exact (lives_any _).mono (by rintro e w6 ⟨rfl, t6⟩; go_wp2_with fail; go_ret; exact ⟨rfl, t6⟩)
  | false =>
  cases d4 : decide (1125899906842624 < a) with
  | true =>
    clear h
    go_enter Try.func7, Try.ntmps7
    go_wp2_with fail
    exact (lives_any _).mono (by rintro e w6 ⟨rfl, t6⟩; go_wp2_with fail; go_ret; exact ⟨rfl, t6⟩)
  | false =>
  cases d5 : decide (m < 0) with
  | true =>
    clear h
    go_enter Try.func7, Try.ntmps7
    go_wp2_with fail
    exact (lives_any _).mono (by rintro e w6 ⟨rfl, t6⟩; go_wp2_with fail; go_ret; exact ⟨rfl, t6⟩)
  | false =>
    have d6 : decide (1125899906842624 < m) = true := by
      simp only [decide_eq_false_iff_not, decide_eq_true_eq] at *; omega
    clear h
    go_enter Try.func7, Try.ntmps7
    go_wp2_with fail
    exact (lives_any _).mono (by rintro e w6 ⟨rfl, t6⟩; go_wp2_with fail; go_ret; exact ⟨rfl, t6⟩)

/-- One bump of a word alone. -/
theorem one_on (v m c : Int) (h : v < m) : bumpV [v] 0 m = v + 1 ∧ bumpE [v] 0 m = 0 ∧ bumpW [v] 0 m = [v + 1] ∧ cntOf [v] 0 c = c + 1 := by
  have h' : ¬ m ≤ v := by omega
  simp [bumpV, bumpE, bumpW, cntOf, inB, wordAt, h']
theorem one_end (v m c : Int) (h : m ≤ v) : bumpV [v] 0 m = v ∧ bumpE [v] 0 m = 8 ∧ bumpW [v] 0 m = [v] ∧ cntOf [v] 0 c = c + 1 := by
  simp [bumpV, bumpE, bumpW, cntOf, inB, wordAt, h]
theorem one_load (v c : Int) : loadV [v] 0 = v ∧ errOf [v] 0 = 0 := by
  simp [loadV, errOf, inB, wordAt]

set_option maxHeartbeats 2000000 in
theorem clock_in (a m : Int) (t : Nat) (w : World) (ht : t ≤ 100) (ha0 : 0 ≤ a) (ha1 : a ≤ 1125899906842624) (hm0 : 0 ≤ m) (hm1 : m ≤ 1125899906842624) :
    Calls Try.prog 7 #[.int .i64 a, .int .i64 m, .int .i64 t] w (LivesPost w) := by
  have d1 : decide ((t : Int) < 0) = false := by simp
  have d2 : decide (100 < (t : Int)) = false := by simp; omega
  have d3 : decide (a < 0) = false := by simp; omega
  have d4 : decide (1125899906842624 < a) = false := by simp; omega
  have d5 : decide (m < 0) = false := by simp; omega
  have d6 : decide (1125899906842624 < m) = false := by simp; omega
  go_enter Try.func7, Try.ntmps7
  go_wp2_with fail
  refine (filled_one a w.heap.size _ (by go_simp)).mono ?_
  rintro e w1 ⟨p, q, rfl, hp, hq, hat1, t1⟩
  have hp' : w.heap.size ≤ p := by simp at hp; omega
  have hq' : w.heap.size ≤ q := by simp at hq; omega
  have t1' : Turned (fun _ => False) w w1 := ((Turned.refl _ w).alloc _).trans t1
  clear t1 hp hq
  go_wp2_with fail
  go_loopw [8, 9] (fun l i wr => ∃ k : Nat, ∃ v : Int, k ≤ t ∧ i = .int .i64 k ∧ l = .int .i64 v ∧ 0 ≤ v ∧ v ≤ 1125899906842624 ∧ At 53 wr p q [v] (1 + k) ∧ Turned (fun _ => False) w wr) (fun _ i _ => t - (intOf i).toNat)
  case atStart => exact ⟨0, a, Nat.zero_le _, rfl, rfl, ha0, ha1, hat1, t1'⟩
  case round =>
    obtain ⟨k, v, hk, rfl, rfl, hv0, hv1, hat, htr⟩ := hrel
    by_cases hlt : k < t
    · by_cases hm : v < m
      · have HO := Lib.hid (one_on v m (1 + k) hm)
        go_wp2_with fail
        refine (bump_any p q [v] (1 + k) 0 m _ hat (by intro j hj; have : j = 0 := by simp at hj; omega
                                                       subst this; show _ ≤ v; omega) (by omega) (by simp) (by omega) (by omega)).mono ?_
        rintro e w2 ⟨rfl, hat2, t2⟩
        rw [HO.out.1, HO.out.2.1]
        rw [HO.out.2.2.1, HO.out.2.2.2] at hat2
        go_wp2_with fail
        go_roundw
        case rel => exact ⟨k + 1, v + 1, by omega, by go_num, rfl, by omega, by omega, by rw [show (1 + ((k + 1 : Nat) : Int)) = 1 + (k : Int) + 1 from by omega]; exact hat2, own_turn htr hp' hq' t2⟩
        case measure => simp [intOf]; omega
      · have hm' : m ≤ v := by omega
        have dm : decide (v < m) = false := by simp; omega
        have HO := Lib.hid (one_end v m (1 + k) hm')
        go_wp2_with fail
        refine (bump_any p q [v] (1 + k) 0 m _ hat (by intro j hj; have : j = 0 := by simp at hj; omega
                                                       subst this; show _ ≤ v; omega) (by omega) (by simp) (by omega) (by omega)).mono ?_
        rintro e w2 ⟨rfl, hat2, t2⟩
        rw [HO.out.1, HO.out.2.1]
        rw [HO.out.2.2.1, HO.out.2.2.2] at hat2
        go_wp2_with fail
        go_roundw
        case rel => exact ⟨k + 1, v, by omega, by go_num, rfl, by omega, by omega, by rw [show (1 + ((k + 1 : Nat) : Int)) = 1 + (k : Int) + 1 from by omega]; exact hat2, own_turn htr hp' hq' t2⟩
        case measure => simp [intOf]; omega
    · have HO := Lib.hid (one_load v (1 + k))
      go_wp2_with fail
      refine (load_any p q [v] (1 + k) 0 _ hat (by simp) (by omega) (by omega)).mono ?_
      rintro e w2 ⟨rfl, hat2, t2⟩
      rw [HO.out.1, HO.out.2]
      go_wp2_with fail
      refine (lives_any _).mono ?_
      rintro e w6 ⟨rfl, t6⟩
      go_wp2_with fail
      go_ret
      exact ⟨rfl, (own_turn htr hp' hq' t2).trans t6⟩

theorem clock_walk (a m t : Int) (w : World) (wa : (Lit.int .i64 a).wf = true) (wm : (Lit.int .i64 m).wf = true) (wt : (Lit.int .i64 t).wf = true) :
    Calls Try.prog 7 #[.int .i64 a, .int .i64 m, .int .i64 t] w fun e w' => e = .returned (.bool true) ∧ Turned (fun _ => False) w w' := by
  by_cases h : t < 0 ∨ 100 < t ∨ a < 0 ∨ 1125899906842624 < a ∨ m < 0 ∨ 1125899906842624 < m
  · exact clock_out a m t w h
  · obtain ⟨k, rfl⟩ : ∃ k : Nat, t = k := ⟨t.toNat, by omega⟩
    exact clock_in a m k w (by omega) (by omega) (by omega) (by omega) (by omega)

end Go.Proofs.Ytgkibbblmfmdnaa
