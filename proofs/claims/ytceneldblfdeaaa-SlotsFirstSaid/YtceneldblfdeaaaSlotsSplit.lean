/-
  The walk of SlotsSplit: what is counted below a place and from there on.
-/
import Derived.Test.YtceneldblfdeaaaSlotsWalks
namespace Go.Proofs.Ytceneldblfdeaaa
open Go.RowKit
set_option linter.unusedVariables false
set_option linter.unusedSimpArgs false

/-- How many lie below n. -/
def belowI (xs : List Int) (n : Int) : Nat := (xs.filter fun z => decide (z < n)).length
theorem belowI_take {xs : List Int} {k : Nat} (h : k < xs.length) (n : Int) : belowI (xs.take (k + 1)) n = belowI (xs.take k) n + if xs.getD k 0 < n then 1 else 0 := by
  unfold belowI
  rw [List.take_succ_eq_append_getElem h, List.filter_append, List.length_append]
  have : xs.getD k 0 = xs[k] := by simp [List.getD, h]
  rw [this]
  by_cases q : xs[k] < n <;> simp [q]
theorem belowI_le (xs : List Int) (n : Int) : belowI xs n ≤ xs.length := List.length_filter_le _ _
theorem below_on (x n : Int) (K : Nat) (hK : K ≤ 32) : ((onN x K).filter fun j : Nat => decide ((j : Int) < n)).length = (onN x (min K (endN n))).length := by
  induction K with
  | zero => simp [onN]
  | succ K ih =>
    rw [onN_succ, List.filter_append, List.length_append, ih (by omega)]
    by_cases q : K < endN n
    · have q' := (end_in q).2
      rw [show min K (endN n) = K by omega, show min (K + 1) (endN n) = K + 1 by omega, onN_succ, List.length_append]
      cases bitB x K <;> simp [q']
    · have q' : ¬ (K : Int) < n := by unfold endN at q; omega
      rw [show min K (endN n) = endN n by omega, show min (K + 1) (endN n) = endN n by omega]
      cases bitB x K <;> simp [q']
theorem below_list (x n : Int) : (belowI (listV x 32) n : Int) = countV x n := by
  have h := below_on x n 32 (by omega)
  rw [show min 32 (endN n) = endN n by have := endN_le n; omega] at h
  unfold belowI listV countV
  rw [show endN 32 = 32 from rfl, List.filter_map, List.length_map, ← h]
  rfl
theorem list_rising (x : Int) {j : Nat} (h : j + 1 < (listV x 32).length) : (listV x 32).getD j 0 < (listV x 32).getD (j + 1) 0 := by
  have hp : (listV x 32).Pairwise (· < ·) := by
    unfold listV onN
    rw [List.pairwise_map]
    exact ((List.pairwise_lt_range (n := endN 32)).sublist (List.filter_sublist)).imp (fun h => by omega)
  have := List.pairwise_iff_getElem.1 hp j (j + 1) (by omega) h (by omega)
  simpa [List.getD, h, show j < (listV x 32).length by omega] using this
theorem list_had (x : Int) {j : Nat} (h : j < (listV x 32).length) : hasB x ((listV x 32).getD j 0) = true ∧ 0 ≤ (listV x 32).getD j 0 ∧ (listV x 32).getD j 0 < 32 := by
  have hm : (listV x 32).getD j 0 ∈ listV x 32 := by
    have : (listV x 32).getD j 0 = (listV x 32)[j] := by simp [List.getD, h]
    rw [this]; exact List.getElem_mem h
  unfold listV onN at hm
  obtain ⟨m, hm1, hm2⟩ := List.mem_map.1 hm
  obtain ⟨hm3, hm4⟩ := List.mem_filter.1 hm1
  have hm5 : m < 32 := by simpa [show endN 32 = 32 from rfl] using hm3
  unfold listV onN
  rw [← hm2, has_nat hm5]
  exact ⟨hm4, by omega, by omega⟩

set_option maxHeartbeats 1000000 in
theorem split_core (x n : Int) (w : World) (x0 : -9223372036854775808 ≤ x) (x1 : x ≤ 9223372036854775807) (n0 : -9223372036854775808 ≤ n) (n1 : n ≤ 9223372036854775807) : Calls Try.prog 7 #[.int .i64 x, .int .i64 n] w (Gives w (.bool true)) := by
  have HM0 : Hid (More w w) := More.refl w
  have HB := Lib.hid (below_list x n)
  have HL := Lib.hid (show (listV x 32).length ≤ 32 from onI_le x _)
  have HC : Hid (((listV x 32).length : Int) = countV x 32) := by unfold listV countV; rw [List.length_map]; exact rfl
  have HR : Hid (∀ j, j + 1 < (listV x 32).length → (listV x 32).getD j 0 < (listV x 32).getD (j + 1) 0) := fun j h => list_rising x h
  have HD : Hid (∀ j, j < (listV x 32).length → hasB x ((listV x 32).getD j 0) = true ∧ 0 ≤ (listV x 32).getD j 0 ∧ (listV x 32).getD j 0 < 32) := fun j h => list_had x h
  have HK1 : Hid (∀ W, Calls Try.prog 17 #[.int .i64 x, .int .i64 n] W (Gives W (.int .i64 (countV x n)))) := fun W => o_count x n n0 n1 W
  have HK2 : Hid (∀ W, Calls Try.prog 17 #[.int .i64 x, .int .i64 32] W (Gives W (.int .i64 (countV x 32)))) := fun W => o_count x 32 (by omega) (by omega) W
  have HH : Hid (∀ W z, hasB x z = true → Calls Try.prog 8 #[.int .i64 x, .int .i64 z] W fun e w' => e = .returned (.bool true) ∧ w' = W) := fun W z hz => by
    have := o_has x z W; rwa [hz] at this
  have HO : Hid (∀ W, Calls Try.prog 19 #[.int .i64 x, .int .i64 32] W (GaveInts W (listV x 32))) := fun W => o_list x 32 (by omega) (by omega) W
  go_enter Try.func7, Try.ntmps7
  go_wp2_with fail
  refine (HO.out _).mono ?_
  rintro e w1 ⟨v, rfl, hr, h⟩
  have HM1 := Lib.hid (HM0.out.trans h)
  clear h HM0
  obtain ⟨a, cap, rfl, hread⟩ := hr.reads
  clear hr
  rw [← HC.out] at HK2
  generalize listV x 32 = xs at *
  have hl := HL.out
  by_cases h0 : xs.length = 0
  · have hxs : xs = [] := List.length_eq_zero_iff.1 h0
    subst hxs
    clear hread h0
    have e0 : countV x n = 0 := by rw [← HB.out]; rfl
    rw [e0] at HK1
    clear e0
    simp only [List.length_nil] at hl HK2 ⊢
    go_wp2_with fail
    go_loop [6, 7] (fun b i => i = .int .i64 0 ∧ b = .int .i64 0) (fun _ _ => 0)
    case atStart => exact ⟨rfl, rfl⟩
    case round =>
      obtain ⟨rfl, rfl⟩ := hrel
      go_wp2_with fail
      refine (HK1.out _).mono ?_
      rintro e w2 ⟨rfl, h⟩
      have HM2 := Lib.hid (HM1.out.trans h)
      clear h HM1
      go_wp2_with fail
      refine (HK2.out _).mono ?_
      rintro e w3 ⟨rfl, h⟩
      have HM3 := Lib.hid (HM2.out.trans h)
      clear h HM2
      go_wp2_with fail
      refine (lives_any _).mono ?_
      rintro e w4 ⟨rfl, h⟩
      have HM4 := Lib.hid (HM3.out.trans h)
      clear h HM3
      go_wp2_with fail
      go_ret
      exact ⟨rfl, HM4.out⟩
  · obtain ⟨g, rfl, hg0, hg1, hcell⟩ := hread 0 (by omega)
    clear hread
    have HX := Lib.hid hcell
    clear hcell
    go_wp2_with fail
    go_loopw [6, 7] (fun b i wr => ∃ k : Nat, k ≤ xs.length ∧ i = .int .i64 k ∧ b = .int .i64 (belowI (xs.take k) n) ∧ More w1 wr) (fun _ i _ => xs.length - (intOf i).toNat)
    case atStart => exact ⟨0, Nat.zero_le _, rfl, rfl, More.refl _⟩
    case round =>
      obtain ⟨k, hk, rfl, rfl, hm⟩ := hrel
      have HMr := Lib.hid hm
      clear hm
      have hb := belowI_le (xs.take k) n
      rw [List.length_take] at hb
      by_cases hlt : k < xs.length
      · have hc := HMr.out.cell (HX.out k hlt)
        have hd := HD.out k hlt
        have HHk := Lib.hid (fun W => HH.out W _ hd.1)
        have hz := hd.2
        have HS := Lib.hid (belowI_take hlt n)
        clear hd
        generalize belowI (xs.take k) n = b at *
        cases k with
        | zero =>
          generalize xs.getD 0 0 = z at *
          rw [show ((0 : Nat) : Int) = 0 from rfl]
          have d0 : decide ((0 : Int) < xs.length) = true := by simp; omega
          by_cases hzn : z < n
          · have d2 : decide (z < n) = true := by simpa using hzn
            rw [if_pos hzn] at HS
            clear hzn
            go_wp2_with fail
            go_quiet ((go_at_call 8; exact Calls.quiet_of_same (HHk.out _)))
            go_wp2_with fail
            go_roundw
            case rel => exact ⟨0 + 1, by omega, by go_num, by rw [HS.out]; go_num, HMr.out.drewN _⟩
            case measure => simp [intOf]; omega
          · have d2 : decide (z < n) = false := by simpa using hzn
            rw [if_neg hzn] at HS
            clear hzn
            go_wp2_with fail
            go_quiet ((go_at_call 8; exact Calls.quiet_of_same (HHk.out _)))
            go_wp2_with fail
            go_roundw
            case rel => exact ⟨0 + 1, by omega, by go_num, by rw [HS.out]; go_num, HMr.out.drewN _⟩
            case measure => simp [intOf]; omega
        | succ j =>
          have hc1 := HMr.out.cell (HX.out j (by omega))
          have hri := HR.out j hlt
          generalize xs.getD (j + 1) 0 = z at *
          generalize xs.getD j 0 = y at *
          rw [show ((j + 1 : Nat) : Int) = (j : Int) + 1 from rfl]
          have d0 : decide ((j : Int) + 1 < xs.length) = true := by simp; omega
          have d1 : decide (z ≤ y) = false := by simpa using hri
          by_cases hzn : z < n
          · have d2 : decide (z < n) = true := by simpa using hzn
            rw [if_pos hzn] at HS
            clear hzn
            go_wp2_with fail
            go_quiet ((go_at_call 8; exact Calls.quiet_of_same (HHk.out _)))
            go_wp2_with fail
            go_roundw
            case rel => exact ⟨j + 1 + 1, by omega, by go_num, by rw [HS.out]; go_num, HMr.out.drewN _⟩
            case measure => simp [intOf]; omega
          · have d2 : decide (z < n) = false := by simpa using hzn
            rw [if_neg hzn] at HS
            clear hzn
            go_wp2_with fail
            go_quiet ((go_at_call 8; exact Calls.quiet_of_same (HHk.out _)))
            go_wp2_with fail
            go_roundw
            case rel => exact ⟨j + 1 + 1, by omega, by go_num, by rw [HS.out]; go_num, HMr.out.drewN _⟩
            case measure => simp [intOf]; omega
      · have hke : k = xs.length := by omega
        subst hke
        have eb : (belowI (xs.take xs.length) n : Int) = countV x n := by rw [List.take_length]; exact HB.out
        rw [← eb] at HK1
        clear eb
        generalize belowI (xs.take xs.length) n = b at *
        go_wp2_with fail
        refine (HK1.out _).mono ?_
        rintro e w2 ⟨rfl, h⟩
        have HM2 := Lib.hid (HMr.out.trans h)
        clear h HMr
        go_wp2_with fail
        refine (HK2.out _).mono ?_
        rintro e w3 ⟨rfl, h⟩
        have HM3 := Lib.hid (HM2.out.trans h)
        clear h HM2
        go_wp2_with fail
        refine (lives_any _).mono ?_
        rintro e w4 ⟨rfl, h⟩
        have HM4 := Lib.hid (HM1.out.trans (HM3.out.trans h))
        clear h HM3
        go_wp2_with fail
        go_ret
        exact ⟨rfl, HM4.out⟩

end Go.Proofs.Ytceneldblfdeaaa
