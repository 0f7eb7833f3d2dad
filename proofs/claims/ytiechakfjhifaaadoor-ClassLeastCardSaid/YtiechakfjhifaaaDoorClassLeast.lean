/-
  The walk of layer 3's law ClassLeast.
-/
import Derived.Test.YtiechakfjhifaaaDoorClassWalks2
namespace Go.Proofs.YtiechakfjhifaaaDoor
open Go.RowKit
set_option linter.unusedVariables false
set_option linter.unusedSimpArgs false

theorem size_slots {k : Nat} (h : k ≤ 4) : sizeV k * slotsC k = 32 := by
  rcases ways5 h with rfl | rfl | rfl | rfl | rfl <;> decide
theorem size_lt {k : Nat} (h0 : 0 < k) (h : k ≤ 4) : sizeV ((k - 1 : Nat) : Int) < sizeV k := by
  rcases ways5 h with rfl | rfl | rfl | rfl | rfl <;> first | (exfalso; omega) | decide
theorem cls_iff {n : Int} {k : Nat} (h : k ≤ 4) (c0 : 0 ≤ clsV n) : n ≤ sizeV k ↔ clsV n ≤ k := by
  revert c0
  unfold clsV
  rcases ways5 h with rfl | rfl | rfl | rfl | rfl <;> (repeat' split) <;> simp [sizeV] <;> omega
theorem cls_neg {n : Int} : clsV n < 0 ↔ 16 < n := by
  unfold clsV; (repeat' split) <;> omega
theorem cls_up {n m : Int} (h : n ≤ m) (o : 0 ≤ clsV m) : clsV n ≤ clsV m := by
  revert o
  unfold clsV; (repeat' split) <;> omega

variable {Ok : World → Prop} (D : ClassDoes Ok) (w : World)
include D

set_option maxHeartbeats 8000000 in
theorem least_neg (n m : Int) (hk : Ok w) (n0 : -9223372036854775808 ≤ n) (n1 : n ≤ 9223372036854775807) (m0 : -9223372036854775808 ≤ m) (m1 : m ≤ 9223372036854775807) (hc : clsV n < 0) : Calls Tryd.prog 6 #[.int .i64 n, .int .i64 m] w (Gives w (.bool true)) := by
  have HK0 : Hid (Ok w) := hk
  have HM0 : Hid (More w w) := More.refl w
  have hn : 16 < n := cls_neg.1 hc
  have c0 : decide (0 ≤ clsV n) = false := by simp; omega
  have c1 : decide (clsV n < 0) = true := by simpa using hc
  have cb := cls_b n
  have HOn : Hid (∀ W, Ok W → Calls Tryd.prog 9 #[.int .i64 n] W (Gives W (.int .i64 (clsV n)))) := fun W k => D.of n W n0 n1 k
  go_enter Tryd.func6, Tryd.ntmps6
  go_wp2_with fail
  refine (HOn.out _ HK0.out).mono ?_
  rintro e w1 ⟨rfl, h⟩
  have HK1 := Lib.hid (D.more _ _ HK0.out h)
  have HM1 := Lib.hid (HM0.out.trans h)
  clear h HK0 HM0
  go_wp2_with fail
  go_loopw [6] (fun d wr => ∃ k : Nat, k ≤ 5 ∧ d = .int .i64 k ∧ Ok wr ∧ More w wr) (fun d _ => 5 - (intOf d).toNat)
  case atStart => exact ⟨0, by omega, rfl, HK1.out, HM1.out⟩
  case round =>
    clear HK1 HM1
    obtain ⟨k, hk5, rfl, hk', hm⟩ := hrel
    have HK0 := Lib.hid hk'
    have HM0 := Lib.hid hm
    clear hk' hm
    by_cases hlt : k < 5
    · have d0 : decide ((k : Int) < 5) = true := by simp; omega
      have hss := size_slots (show k ≤ 4 by omega)
      have sb := size_b (show k ≤ 4 by omega)
      have q0 : IntKind.i64.wrap (sizeV k * slotsC k) = 32 := by rw [hss]; rfl
      clear hss
      by_cases hk0 : 0 < k
      · skip
        have d1 : decide ((0 : Int) < (k : Int)) = true := by simp; omega
        have d1b : decide (0 < k) = true := by simp; omega
        have q1 : IntKind.i64.wrap ((k : Int) - 1) = ((k - 1 : Nat) : Int) := by rw [wrap_in (by omega) (by omega)]; omega
        have hl := size_lt hk0 (show k ≤ 4 by omega)
        have d2 : decide (sizeV k ≤ sizeV ((k - 1 : Nat) : Int)) = false := by simp; omega
        have kb : ((k - 1 : Nat) : Int) ≤ 4 := by omega
        clear hl
        have d3 : decide (n ≤ sizeV k) = false := by simp; omega
        go_wp2_with fail
        refine (D.size _ _ (by omega) (by omega) HK0.out).mono ?_
        rintro e w1 ⟨rfl, h⟩
        have HK1 := Lib.hid (D.more _ _ HK0.out h)
        have HM1 := Lib.hid (HM0.out.trans h)
        clear h HK0 HM0
        go_wp2_with fail
        refine (D.slots _ _ (by omega) (by omega) HK1.out).mono ?_
        rintro e w2 ⟨rfl, h⟩
        have HK2 := Lib.hid (D.more _ _ HK1.out h)
        have HM2 := Lib.hid (HM1.out.trans h)
        clear h HK1 HM1
        go_wp2_with fail
        refine (D.size _ _ (by omega) (by omega) HK2.out).mono ?_
        rintro e w3 ⟨rfl, h⟩
        have HK3 := Lib.hid (D.more _ _ HK2.out h)
        have HM3 := Lib.hid (HM2.out.trans h)
        clear h HK2 HM2
        go_wp2_with fail
        refine (D.size _ _ (by omega) (by omega) HK3.out).mono ?_
        rintro e w4 ⟨rfl, h⟩
        have HK4 := Lib.hid (D.more _ _ HK3.out h)
        have HM4 := Lib.hid (HM3.out.trans h)
        clear h HK3 HM3
        go_wp2_with fail
        refine (D.size _ _ (by omega) (by omega) HK4.out).mono ?_
        rintro e w5 ⟨rfl, h⟩
        have HK5 := Lib.hid (D.more _ _ HK4.out h)
        have HM5 := Lib.hid (HM4.out.trans h)
        clear h HK4 HM4
        go_wp2_with fail
        go_roundw
        case rel => exact ⟨k + 1, by omega, by go_num, HK5.out, HM5.out⟩
        case measure => simp [intOf]; omega
      · skip
        have d1 : decide ((0 : Int) < (k : Int)) = false := by simp; omega
        have d1b : decide (0 < k) = false := by simp; omega
        clear hk0
        have d3 : decide (n ≤ sizeV k) = false := by simp; omega
        go_wp2_with fail
        refine (D.size _ _ (by omega) (by omega) HK0.out).mono ?_
        rintro e w1 ⟨rfl, h⟩
        have HK1 := Lib.hid (D.more _ _ HK0.out h)
        have HM1 := Lib.hid (HM0.out.trans h)
        clear h HK0 HM0
        go_wp2_with fail
        refine (D.slots _ _ (by omega) (by omega) HK1.out).mono ?_
        rintro e w2 ⟨rfl, h⟩
        have HK2 := Lib.hid (D.more _ _ HK1.out h)
        have HM2 := Lib.hid (HM1.out.trans h)
        clear h HK1 HM1
        go_wp2_with fail
        refine (D.size _ _ (by omega) (by omega) HK2.out).mono ?_
        rintro e w3 ⟨rfl, h⟩
        have HK3 := Lib.hid (D.more _ _ HK2.out h)
        have HM3 := Lib.hid (HM2.out.trans h)
        clear h HK2 HM2
        go_wp2_with fail
        go_roundw
        case rel => exact ⟨k + 1, by omega, by go_num, HK3.out, HM3.out⟩
        case measure => simp [intOf]; omega
    · have he : k = 5 := by omega
      subst he
      have d0 : decide (((5 : Nat) : Int) < 5) = false := by simp
      have c5 : decide (clsV n < 5) = true := by have := cls_b n; simp; omega
      by_cases hg : m < n
      · have d1 : decide (m < n) = true := by simpa using hg
        go_wp2_with fail
        refine (D.of m _ m0 m1 HK0.out).mono ?_
        rintro e w1 ⟨rfl, h⟩
        have HK1 := Lib.hid (D.more _ _ HK0.out h)
        have HM1 := Lib.hid (HM0.out.trans h)
        clear h HK0 HM0
        go_wp2_with fail
        refine (lives_any D _ HK1.out).mono ?_
        rintro e w2 ⟨rfl, h⟩
        have HK2 := Lib.hid (D.more _ _ HK1.out h)
        have HM2 := Lib.hid (HM1.out.trans h)
        clear h HK1 HM1
        go_wp2_with fail
        go_ret
        exact ⟨rfl, HM2.out⟩
      · have d1 : decide (m < n) = false := by simpa using hg
        have d2 : decide ((16 : Int) < n) = true := by simp; omega
        go_wp2_with fail
        refine (D.of m _ m0 m1 HK0.out).mono ?_
        rintro e w1 ⟨rfl, h⟩
        have HK1 := Lib.hid (D.more _ _ HK0.out h)
        have HM1 := Lib.hid (HM0.out.trans h)
        clear h HK0 HM0
        go_wp2_with fail
        refine (lives_any D _ HK1.out).mono ?_
        rintro e w2 ⟨rfl, h⟩
        have HK2 := Lib.hid (D.more _ _ HK1.out h)
        have HM2 := Lib.hid (HM1.out.trans h)
        clear h HK1 HM1
        go_wp2_with fail
        go_ret
        exact ⟨rfl, HM2.out⟩

set_option maxHeartbeats 8000000 in
theorem least_pos (n m : Int) (hk : Ok w) (n0 : -9223372036854775808 ≤ n) (n1 : n ≤ 9223372036854775807) (m0 : -9223372036854775808 ≤ m) (m1 : m ≤ 9223372036854775807) (hc : 0 ≤ clsV n) : Calls Tryd.prog 6 #[.int .i64 n, .int .i64 m] w (Gives w (.bool true)) := by
  have HK0 : Hid (Ok w) := hk
  have HM0 : Hid (More w w) := More.refl w
  have c0 : decide (0 ≤ clsV n) = true := by simpa using hc
  have c1 : decide (clsV n < 0) = false := by simp; omega
  have cb := cls_b n
  have HOn : Hid (∀ W, Ok W → Calls Tryd.prog 9 #[.int .i64 n] W (Gives W (.int .i64 (clsV n)))) := fun W k => D.of n W n0 n1 k
  go_enter Tryd.func6, Tryd.ntmps6
  go_wp2_with fail
  refine (HOn.out _ HK0.out).mono ?_
  rintro e w1 ⟨rfl, h⟩
  have HK1 := Lib.hid (D.more _ _ HK0.out h)
  have HM1 := Lib.hid (HM0.out.trans h)
  clear h HK0 HM0
  go_wp2_with fail
  go_loopw [6] (fun d wr => ∃ k : Nat, k ≤ 5 ∧ d = .int .i64 k ∧ Ok wr ∧ More w wr) (fun d _ => 5 - (intOf d).toNat)
  case atStart => exact ⟨0, by omega, rfl, HK1.out, HM1.out⟩
  case round =>
    clear HK1 HM1
    obtain ⟨k, hk5, rfl, hk', hm⟩ := hrel
    have HK0 := Lib.hid hk'
    have HM0 := Lib.hid hm
    clear hk' hm
    by_cases hlt : k < 5
    · have d0 : decide ((k : Int) < 5) = true := by simp; omega
      have hss := size_slots (show k ≤ 4 by omega)
      have sb := size_b (show k ≤ 4 by omega)
      have q0 : IntKind.i64.wrap (sizeV k * slotsC k) = 32 := by rw [hss]; rfl
      clear hss
      by_cases hk0 : 0 < k
      · skip
        have d1 : decide ((0 : Int) < (k : Int)) = true := by simp; omega
        have d1b : decide (0 < k) = true := by simp; omega
        have q1 : IntKind.i64.wrap ((k : Int) - 1) = ((k - 1 : Nat) : Int) := by rw [wrap_in (by omega) (by omega)]; omega
        have hl := size_lt hk0 (show k ≤ 4 by omega)
        have d2 : decide (sizeV k ≤ sizeV ((k - 1 : Nat) : Int)) = false := by simp; omega
        have kb : ((k - 1 : Nat) : Int) ≤ 4 := by omega
        clear hl
        by_cases hs : n ≤ sizeV k
        · have hi := (cls_iff (k := k) (by omega) hc).1 hs
          have d3 : decide (n ≤ sizeV k) = true := by simpa using hs
          have d4 : decide (clsV n ≤ k) = true := by simpa using hi
          go_wp2_with fail
          refine (D.size _ _ (by omega) (by omega) HK0.out).mono ?_
          rintro e w1 ⟨rfl, h⟩
          have HK1 := Lib.hid (D.more _ _ HK0.out h)
          have HM1 := Lib.hid (HM0.out.trans h)
          clear h HK0 HM0
          go_wp2_with fail
          refine (D.slots _ _ (by omega) (by omega) HK1.out).mono ?_
          rintro e w2 ⟨rfl, h⟩
          have HK2 := Lib.hid (D.more _ _ HK1.out h)
          have HM2 := Lib.hid (HM1.out.trans h)
          clear h HK1 HM1
          go_wp2_with fail
          refine (D.size _ _ (by omega) (by omega) HK2.out).mono ?_
          rintro e w3 ⟨rfl, h⟩
          have HK3 := Lib.hid (D.more _ _ HK2.out h)
          have HM3 := Lib.hid (HM2.out.trans h)
          clear h HK2 HM2
          go_wp2_with fail
          refine (D.size _ _ (by omega) (by omega) HK3.out).mono ?_
          rintro e w4 ⟨rfl, h⟩
          have HK4 := Lib.hid (D.more _ _ HK3.out h)
          have HM4 := Lib.hid (HM3.out.trans h)
          clear h HK3 HM3
          go_wp2_with fail
          refine (D.size _ _ (by omega) (by omega) HK4.out).mono ?_
          rintro e w5 ⟨rfl, h⟩
          have HK5 := Lib.hid (D.more _ _ HK4.out h)
          have HM5 := Lib.hid (HM4.out.trans h)
          clear h HK4 HM4
          go_wp2_with fail
          go_roundw
          case rel => exact ⟨k + 1, by omega, by go_num, HK5.out, HM5.out⟩
          case measure => simp [intOf]; omega
        · have hi : ¬ clsV n ≤ k := fun q => hs ((cls_iff (k := k) (by omega) hc).2 q)
          have d3 : decide (n ≤ sizeV k) = false := by simpa using hs
          have d4 : decide (clsV n ≤ k) = false := by simpa using hi
          go_wp2_with fail
          refine (D.size _ _ (by omega) (by omega) HK0.out).mono ?_
          rintro e w1 ⟨rfl, h⟩
          have HK1 := Lib.hid (D.more _ _ HK0.out h)
          have HM1 := Lib.hid (HM0.out.trans h)
          clear h HK0 HM0
          go_wp2_with fail
          refine (D.slots _ _ (by omega) (by omega) HK1.out).mono ?_
          rintro e w2 ⟨rfl, h⟩
          have HK2 := Lib.hid (D.more _ _ HK1.out h)
          have HM2 := Lib.hid (HM1.out.trans h)
          clear h HK1 HM1
          go_wp2_with fail
          refine (D.size _ _ (by omega) (by omega) HK2.out).mono ?_
          rintro e w3 ⟨rfl, h⟩
          have HK3 := Lib.hid (D.more _ _ HK2.out h)
          have HM3 := Lib.hid (HM2.out.trans h)
          clear h HK2 HM2
          go_wp2_with fail
          refine (D.size _ _ (by omega) (by omega) HK3.out).mono ?_
          rintro e w4 ⟨rfl, h⟩
          have HK4 := Lib.hid (D.more _ _ HK3.out h)
          have HM4 := Lib.hid (HM3.out.trans h)
          clear h HK3 HM3
          go_wp2_with fail
          refine (D.size _ _ (by omega) (by omega) HK4.out).mono ?_
          rintro e w5 ⟨rfl, h⟩
          have HK5 := Lib.hid (D.more _ _ HK4.out h)
          have HM5 := Lib.hid (HM4.out.trans h)
          clear h HK4 HM4
          go_wp2_with fail
          go_roundw
          case rel => exact ⟨k + 1, by omega, by go_num, HK5.out, HM5.out⟩
          case measure => simp [intOf]; omega
      · skip
        have d1 : decide ((0 : Int) < (k : Int)) = false := by simp; omega
        have d1b : decide (0 < k) = false := by simp; omega
        clear hk0
        by_cases hs : n ≤ sizeV k
        · have hi := (cls_iff (k := k) (by omega) hc).1 hs
          have d3 : decide (n ≤ sizeV k) = true := by simpa using hs
          have d4 : decide (clsV n ≤ k) = true := by simpa using hi
          go_wp2_with fail
          refine (D.size _ _ (by omega) (by omega) HK0.out).mono ?_
          rintro e w1 ⟨rfl, h⟩
          have HK1 := Lib.hid (D.more _ _ HK0.out h)
          have HM1 := Lib.hid (HM0.out.trans h)
          clear h HK0 HM0
          go_wp2_with fail
          refine (D.slots _ _ (by omega) (by omega) HK1.out).mono ?_
          rintro e w2 ⟨rfl, h⟩
          have HK2 := Lib.hid (D.more _ _ HK1.out h)
          have HM2 := Lib.hid (HM1.out.trans h)
          clear h HK1 HM1
          go_wp2_with fail
          refine (D.size _ _ (by omega) (by omega) HK2.out).mono ?_
          rintro e w3 ⟨rfl, h⟩
          have HK3 := Lib.hid (D.more _ _ HK2.out h)
          have HM3 := Lib.hid (HM2.out.trans h)
          clear h HK2 HM2
          go_wp2_with fail
          go_roundw
          case rel => exact ⟨k + 1, by omega, by go_num, HK3.out, HM3.out⟩
          case measure => simp [intOf]; omega
        · have hi : ¬ clsV n ≤ k := fun q => hs ((cls_iff (k := k) (by omega) hc).2 q)
          have d3 : decide (n ≤ sizeV k) = false := by simpa using hs
          have d4 : decide (clsV n ≤ k) = false := by simpa using hi
          go_wp2_with fail
          refine (D.size _ _ (by omega) (by omega) HK0.out).mono ?_
          rintro e w1 ⟨rfl, h⟩
          have HK1 := Lib.hid (D.more _ _ HK0.out h)
          have HM1 := Lib.hid (HM0.out.trans h)
          clear h HK0 HM0
          go_wp2_with fail
          refine (D.slots _ _ (by omega) (by omega) HK1.out).mono ?_
          rintro e w2 ⟨rfl, h⟩
          have HK2 := Lib.hid (D.more _ _ HK1.out h)
          have HM2 := Lib.hid (HM1.out.trans h)
          clear h HK1 HM1
          go_wp2_with fail
          refine (D.size _ _ (by omega) (by omega) HK2.out).mono ?_
          rintro e w3 ⟨rfl, h⟩
          have HK3 := Lib.hid (D.more _ _ HK2.out h)
          have HM3 := Lib.hid (HM2.out.trans h)
          clear h HK2 HM2
          go_wp2_with fail
          go_roundw
          case rel => exact ⟨k + 1, by omega, by go_num, HK3.out, HM3.out⟩
          case measure => simp [intOf]; omega
    · have he : k = 5 := by omega
      subst he
      have d0 : decide (((5 : Nat) : Int) < 5) = false := by simp
      have c5 : decide (clsV n < 5) = true := by have := cls_b n; simp; omega
      by_cases hg : m < n
      · have d1 : decide (m < n) = true := by simpa using hg
        go_wp2_with fail
        refine (D.of m _ m0 m1 HK0.out).mono ?_
        rintro e w1 ⟨rfl, h⟩
        have HK1 := Lib.hid (D.more _ _ HK0.out h)
        have HM1 := Lib.hid (HM0.out.trans h)
        clear h HK0 HM0
        go_wp2_with fail
        refine (lives_any D _ HK1.out).mono ?_
        rintro e w2 ⟨rfl, h⟩
        have HK2 := Lib.hid (D.more _ _ HK1.out h)
        have HM2 := Lib.hid (HM1.out.trans h)
        clear h HK1 HM1
        go_wp2_with fail
        go_ret
        exact ⟨rfl, HM2.out⟩
      · have d1 : decide (m < n) = false := by simpa using hg
        by_cases ho : clsV m < 0
        · have d2 : decide (clsV m < 0) = true := by simpa using ho
          go_wp2_with fail
          refine (D.of m _ m0 m1 HK0.out).mono ?_
          rintro e w1 ⟨rfl, h⟩
          have HK1 := Lib.hid (D.more _ _ HK0.out h)
          have HM1 := Lib.hid (HM0.out.trans h)
          clear h HK0 HM0
          go_wp2_with fail
          refine (lives_any D _ HK1.out).mono ?_
          rintro e w2 ⟨rfl, h⟩
          have HK2 := Lib.hid (D.more _ _ HK1.out h)
          have HM2 := Lib.hid (HM1.out.trans h)
          clear h HK1 HM1
          go_wp2_with fail
          go_ret
          exact ⟨rfl, HM2.out⟩
        · have d2 : decide (clsV m < 0) = false := by simpa using ho
          have hu := cls_up (show n ≤ m by omega) (by omega)
          have d3 : decide (clsV n ≤ clsV m) = true := by simpa using hu
          clear hu
          go_wp2_with fail
          refine (D.of m _ m0 m1 HK0.out).mono ?_
          rintro e w1 ⟨rfl, h⟩
          have HK1 := Lib.hid (D.more _ _ HK0.out h)
          have HM1 := Lib.hid (HM0.out.trans h)
          clear h HK0 HM0
          go_wp2_with fail
          refine (lives_any D _ HK1.out).mono ?_
          rintro e w2 ⟨rfl, h⟩
          have HK2 := Lib.hid (D.more _ _ HK1.out h)
          have HM2 := Lib.hid (HM1.out.trans h)
          clear h HK1 HM1
          go_wp2_with fail
          go_ret
          exact ⟨rfl, HM2.out⟩

theorem least_core (n m : Int) (hk : Ok w) (n0 : -9223372036854775808 ≤ n) (n1 : n ≤ 9223372036854775807) (m0 : -9223372036854775808 ≤ m) (m1 : m ≤ 9223372036854775807) : Calls Tryd.prog 6 #[.int .i64 n, .int .i64 m] w (Gives w (.bool true)) := by
  by_cases hc : clsV n < 0
  · exact least_neg D w n m hk n0 n1 m0 m1 hc
  · exact least_pos D w n m hk n0 n1 m0 m1 (by omega)

end Go.Proofs.YtiechakfjhifaaaDoor
