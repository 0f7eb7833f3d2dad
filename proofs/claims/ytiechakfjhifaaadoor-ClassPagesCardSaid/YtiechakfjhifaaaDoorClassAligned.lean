/-
  The walk of layer 3's law ClassAligned.
-/
import Derived.Test.YtiechakfjhifaaaDoorClassWalks2
namespace Go.Proofs.YtiechakfjhifaaaDoor
open Go.RowKit
set_option linter.unusedVariables false
set_option linter.unusedSimpArgs false

theorem pow_ways {a : Int} (h : powB a = true) : a = 1 ∨ a = 2 ∨ a = 4 ∨ a = 8 ∨ a = 16 ∨ a = 32 ∨ a = 64 ∨ a = 128 := by
  simp [powB] at h; omega
theorem small_mod {n a g s : Int} (hp : powB a = true) (h16 : a ≤ 16) (n16 : n ≤ 16) (g0 : 0 ≤ g) (s0 : 0 ≤ s) : (128 + 32 * g + s * sizeV (mx (clsV n) (clsV a))) % a = 0 := by
  have b1 := cls_big n16
  have b2 := cls_big h16
  have hc : clsV a ≤ mx (clsV n) (clsV a) ∧ mx (clsV n) (clsV a) ≤ 4 := by unfold mx; split <;> omega
  generalize mx (clsV n) (clsV a) = c at *
  obtain ⟨k, rfl⟩ : ∃ k : Nat, c = k := ⟨c.toNat, by omega⟩
  rcases ways5 (show k ≤ 4 by omega) with rfl | rfl | rfl | rfl | rfl <;> rcases pow_ways hp with rfl | rfl | rfl | rfl | rfl | rfl | rfl | rfl <;> simp [sizeV, clsV] at hc ⊢ <;> omega
theorem big_mod {a g : Int} (hp : powB a = true) (g0 : 0 ≤ g) : (128 + 32 * g * mx 1 (a / 32)) % a = 0 ∧ 1 ≤ mx 1 (a / 32) ∧ mx 1 (a / 32) ≤ 4 := by
  rcases pow_ways hp with rfl | rfl | rfl | rfl | rfl | rfl | rfl | rfl <;> simp [mx] <;> omega

theorem mulN {a b A B : Int} (h0 : 0 ≤ a) (h1 : a ≤ A) (h2 : 0 ≤ b) (h3 : b ≤ B) : 0 ≤ a * b ∧ a * b ≤ A * B :=
  ⟨Int.mul_nonneg h0 h2, Int.mul_le_mul h1 h3 h2 (by omega)⟩

variable {Ok : World → Prop} (D : ClassDoes Ok) (w : World)
include D

theorem aligned_over (n a p sl : Int) (hk : Ok w) (h : 1048576 < n) : Calls Tryd.prog 7 #[.int .i64 n, .int .i64 a, .int .i64 p, .int .i64 sl] w (Gives w (.bool true)) := by
  have HK0 : Hid (Ok w) := hk
  have HM0 : Hid (More w w) := More.refl w
  have d0 : decide ((1048576 : Int) < n) = true := by simp; omega
  go_enter Tryd.func7, Tryd.ntmps7
  go_wp2_with fail
  refine (lives_any D _ HK0.out).mono ?_
  rintro e w1 ⟨rfl, h⟩
  have HK1 := Lib.hid (D.more _ _ HK0.out h)
  have HM1 := Lib.hid (HM0.out.trans h)
  clear h HK0 HM0
  go_wp2_with fail
  go_ret
  exact ⟨rfl, HM1.out⟩

theorem aligned_bad (n a p sl : Int) (hk : Ok w) (n0 : -9223372036854775808 ≤ n) (h : n ≤ 1048576) (a0 : -9223372036854775808 ≤ a) (a1 : a ≤ 9223372036854775807) (hb : badB n a = true) : Calls Tryd.prog 7 #[.int .i64 n, .int .i64 a, .int .i64 p, .int .i64 sl] w (Gives w (.bool true)) := by
  have HK0 : Hid (Ok w) := hk
  have HM0 : Hid (More w w) := More.refl w
  have d0 : decide ((1048576 : Int) < n) = false := by simp; omega
  have HF : Hid (∀ W, Ok W → Calls Tryd.prog 18 #[.int .i64 n, .int .i64 a] W (Gives W (.tuple #[.int .i64 0, .int .i64 0, .int .i64 0, .int .i64 2]))) := fun W k => by
    have := D.fit n a W n0 (by omega) a0 a1 k
    rwa [show fitT n a = .tuple #[.int .i64 0, .int .i64 0, .int .i64 0, .int .i64 2] by simp [fitT, fitC, fitP, fitS, fitE, hb]] at this
  go_enter Tryd.func7, Tryd.ntmps7
  go_wp2_with fail
  refine (HF.out _ HK0.out).mono ?_
  rintro e w1 ⟨rfl, h⟩
  have HK1 := Lib.hid (D.more _ _ HK0.out h)
  have HM1 := Lib.hid (HM0.out.trans h)
  clear h HK0 HM0
  go_wp2_with fail
  refine (lives_any D _ HK1.out).mono ?_
  rintro e w2 ⟨rfl, h⟩
  have HK2 := Lib.hid (D.more _ _ HK1.out h)
  have HM2 := Lib.hid (HM1.out.trans h)
  clear h HK1 HM1
  go_wp2_with fail
  go_ret
  exact ⟨rfl, HM2.out⟩

theorem aligned_small (n a p sl : Int) (hk : Ok w) (n0 : -9223372036854775808 ≤ n) (h : n ≤ 1048576) (a0 : -9223372036854775808 ≤ a) (a1 : a ≤ 9223372036854775807) (c k z g s : Int) (c0 : 0 ≤ c) (k2 : 2 ≤ k) (k32 : k ≤ 32) (z0 : 0 ≤ z) (z16 : z ≤ 16) (nz : n ≤ z) (g0 : 0 ≤ g) (g1 : g < 1024) (s0 : 0 ≤ s) (s1 : s < k) (a2 : 1 ≤ a)
    (hg : IntKind.i64.wrap ((IntKind.u64.wrap p).tmod 1024) = g) (hs : IntKind.i64.wrap ((IntKind.u64.wrap sl).tmod k) = s) (hm : (128 + 32 * g + s * z) % a = 0)
    (HF : Hid (∀ W, Ok W → Calls Tryd.prog 18 #[.int .i64 n, .int .i64 a] W (Gives W (.tuple #[.int .i64 c, .int .i64 0, .int .i64 0, .int .i64 0]))))
    (HK : Hid (∀ W, Ok W → Calls Tryd.prog 15 #[.int .i64 c] W (Gives W (.int .i64 k)))) (HZ : Hid (∀ W, Ok W → Calls Tryd.prog 13 #[.int .i64 c] W (Gives W (.int .i64 z)))) : Calls Tryd.prog 7 #[.int .i64 n, .int .i64 a, .int .i64 p, .int .i64 sl] w (Gives w (.bool true)) := by
  have HK0 : Hid (Ok w) := hk
  have HM0 : Hid (More w w) := More.refl w
  have d0 : decide ((1048576 : Int) < n) = false := by simp; omega
  have d1 : decide (0 ≤ c) = true := by simpa using c0
  have d2 : (k == 0) = false := by simp; omega
  have d3 : (a == 0) = false := by simp; omega
  have d4 : decide ((1 : Int) < k) = true := by simp; omega
  have d5 : decide (n ≤ z) = true := by simpa using nz
  have k1 : ¬ k < 1 := by omega
  have uk : IntKind.u64.wrap k = k := IntWalk.u64_in _ (by omega)
  have sz := mulN (a := s) (b := z) (A := 31) (B := 16) (by omega) (by omega) (by omega) (by omega)
  have q0 : IntKind.i64.wrap (32 * g) = 32 * g := wrap_in (by omega) (by omega)
  have q1 : IntKind.i64.wrap (128 + 32 * g) = 128 + 32 * g := wrap_in (by omega) (by omega)
  have q2 : IntKind.i64.wrap (s * z) = s * z := wrap_in (by omega) (by omega)
  have q3 : IntKind.i64.wrap (128 + 32 * g + s * z) = 128 + 32 * g + s * z := wrap_in (by omega) (by omega)
  have t0 : (128 + 32 * g + s * z).tmod a = 0 := by rw [Int.tmod_eq_emod_of_nonneg (by omega)]; exact hm
  clear hm
  go_enter Tryd.func7, Tryd.ntmps7
  go_wp2_with fail
  refine (HF.out _ HK0.out).mono ?_
  rintro e w1 ⟨rfl, h⟩
  have HK1 := Lib.hid (D.more _ _ HK0.out h)
  have HM1 := Lib.hid (HM0.out.trans h)
  clear h HK0 HM0
  go_wp2_with fail
  refine (HK.out _ HK1.out).mono ?_
  rintro e w2 ⟨rfl, h⟩
  have HK2 := Lib.hid (D.more _ _ HK1.out h)
  have HM2 := Lib.hid (HM1.out.trans h)
  clear h HK1 HM1
  go_wp2_with fail
  refine (HZ.out _ HK2.out).mono ?_
  rintro e w3 ⟨rfl, h⟩
  have HK3 := Lib.hid (D.more _ _ HK2.out h)
  have HM3 := Lib.hid (HM2.out.trans h)
  clear h HK2 HM2
  go_wp2_with fail
  refine (HZ.out _ HK3.out).mono ?_
  rintro e w4 ⟨rfl, h⟩
  have HK4 := Lib.hid (D.more _ _ HK3.out h)
  have HM4 := Lib.hid (HM3.out.trans h)
  clear h HK3 HM3
  go_wp2_with fail
  refine (lives_any D _ HK4.out).mono ?_
  rintro e w5 ⟨rfl, h⟩
  have HK5 := Lib.hid (D.more _ _ HK4.out h)
  have HM5 := Lib.hid (HM4.out.trans h)
  clear h HK4 HM4
  go_wp2_with fail
  go_ret
  exact ⟨rfl, HM5.out⟩

theorem aligned_big0 (n a p sl : Int) (hk : Ok w) (n0 : -9223372036854775808 ≤ n) (h : n ≤ 1048576) (a0 : -9223372036854775808 ≤ a) (a1 : a ≤ 9223372036854775807) (hn : n < 1) (P S g : Int) (S0 : 1 ≤ S) (S4 : S ≤ 4) (P0 : n ≤ 32 * P) (P1 : 1 ≤ P) (P2 : 32 * P ≤ mx n 1 + 31) (g0 : 0 ≤ g) (g1 : g < 1024) (a2 : 1 ≤ a)
    (hg : IntKind.i64.wrap ((IntKind.u64.wrap p).tmod 1024) = g) (hm : (128 + 32 * g * S) % a = 0)
    (HF : Hid (∀ W, Ok W → Calls Tryd.prog 18 #[.int .i64 n, .int .i64 a] W (Gives W (.tuple #[.int .i64 (-1), .int .i64 P, .int .i64 S, .int .i64 0])))) : Calls Tryd.prog 7 #[.int .i64 n, .int .i64 a, .int .i64 p, .int .i64 sl] w (Gives w (.bool true)) := by
  have HK0 : Hid (Ok w) := hk
  have HM0 : Hid (More w w) := More.refl w
  have d0 : decide ((1048576 : Int) < n) = false := by simp; omega
  have d3 : (a == 0) = false := by simp; omega
  have d4 : decide (1 ≤ S) = true := by simpa using S0
  have mb : mx n 1 ≤ 1048576 := by unfold mx; split <;> omega
  have gs := mulN (a := 32 * g) (b := S) (A := 32736) (B := 4) (by omega) (by omega) (by omega) (by omega)
  have q0 : IntKind.i64.wrap (32 * g) = 32 * g := wrap_in (by omega) (by omega)
  have q1 : IntKind.i64.wrap (32 * g * S) = 32 * g * S := wrap_in (by omega) (by omega)
  have q2 : IntKind.i64.wrap (128 + 32 * g * S) = 128 + 32 * g * S := wrap_in (by omega) (by omega)
  have q3 : IntKind.i64.wrap (32 * P) = 32 * P := wrap_in (by omega) (by omega)
  have q4 : IntKind.i64.wrap (P - 1) = P - 1 := wrap_in (by omega) (by omega)
  have q5 : IntKind.i64.wrap (32 * (P - 1)) = 32 * (P - 1) := wrap_in (by omega) (by omega)
  have d5 : decide (n ≤ 32 * P) = true := by simp; omega
  have mn : mx n 1 = 1 := if_pos hn
  have d6 : decide (n < 1) = true := by simpa using hn
  have d7 : decide (32 * (P - 1) < 1) = true := by simp; omega
  clear mn
  have t0 : (128 + 32 * g * S).tmod a = 0 := by rw [Int.tmod_eq_emod_of_nonneg (by omega)]; exact hm
  clear hm
  go_enter Tryd.func7, Tryd.ntmps7
  go_wp2_with fail
  refine (HF.out _ HK0.out).mono ?_
  rintro e w1 ⟨rfl, h⟩
  have HK1 := Lib.hid (D.more _ _ HK0.out h)
  have HM1 := Lib.hid (HM0.out.trans h)
  clear h HK0 HM0
  go_wp2_with fail
  refine (lives_any D _ HK1.out).mono ?_
  rintro e w2 ⟨rfl, h⟩
  have HK2 := Lib.hid (D.more _ _ HK1.out h)
  have HM2 := Lib.hid (HM1.out.trans h)
  clear h HK1 HM1
  go_wp2_with fail
  go_ret
  exact ⟨rfl, HM2.out⟩

theorem aligned_big1 (n a p sl : Int) (hk : Ok w) (n0 : -9223372036854775808 ≤ n) (h : n ≤ 1048576) (a0 : -9223372036854775808 ≤ a) (a1 : a ≤ 9223372036854775807) (hn : ¬ n < 1) (P S g : Int) (S0 : 1 ≤ S) (S4 : S ≤ 4) (P0 : n ≤ 32 * P) (P1 : 1 ≤ P) (P2 : 32 * P ≤ mx n 1 + 31) (g0 : 0 ≤ g) (g1 : g < 1024) (a2 : 1 ≤ a)
    (hg : IntKind.i64.wrap ((IntKind.u64.wrap p).tmod 1024) = g) (hm : (128 + 32 * g * S) % a = 0)
    (HF : Hid (∀ W, Ok W → Calls Tryd.prog 18 #[.int .i64 n, .int .i64 a] W (Gives W (.tuple #[.int .i64 (-1), .int .i64 P, .int .i64 S, .int .i64 0])))) : Calls Tryd.prog 7 #[.int .i64 n, .int .i64 a, .int .i64 p, .int .i64 sl] w (Gives w (.bool true)) := by
  have HK0 : Hid (Ok w) := hk
  have HM0 : Hid (More w w) := More.refl w
  have d0 : decide ((1048576 : Int) < n) = false := by simp; omega
  have d3 : (a == 0) = false := by simp; omega
  have d4 : decide (1 ≤ S) = true := by simpa using S0
  have mb : mx n 1 ≤ 1048576 := by unfold mx; split <;> omega
  have gs := mulN (a := 32 * g) (b := S) (A := 32736) (B := 4) (by omega) (by omega) (by omega) (by omega)
  have q0 : IntKind.i64.wrap (32 * g) = 32 * g := wrap_in (by omega) (by omega)
  have q1 : IntKind.i64.wrap (32 * g * S) = 32 * g * S := wrap_in (by omega) (by omega)
  have q2 : IntKind.i64.wrap (128 + 32 * g * S) = 128 + 32 * g * S := wrap_in (by omega) (by omega)
  have q3 : IntKind.i64.wrap (32 * P) = 32 * P := wrap_in (by omega) (by omega)
  have q4 : IntKind.i64.wrap (P - 1) = P - 1 := wrap_in (by omega) (by omega)
  have q5 : IntKind.i64.wrap (32 * (P - 1)) = 32 * (P - 1) := wrap_in (by omega) (by omega)
  have d5 : decide (n ≤ 32 * P) = true := by simp; omega
  have mn : mx n 1 = n := if_neg hn
  have d6 : decide (n < 1) = false := by simpa using hn
  have d7 : decide (32 * (P - 1) < n) = true := by simp; omega
  clear mn
  have t0 : (128 + 32 * g * S).tmod a = 0 := by rw [Int.tmod_eq_emod_of_nonneg (by omega)]; exact hm
  clear hm
  go_enter Tryd.func7, Tryd.ntmps7
  go_wp2_with fail
  refine (HF.out _ HK0.out).mono ?_
  rintro e w1 ⟨rfl, h⟩
  have HK1 := Lib.hid (D.more _ _ HK0.out h)
  have HM1 := Lib.hid (HM0.out.trans h)
  clear h HK0 HM0
  go_wp2_with fail
  refine (lives_any D _ HK1.out).mono ?_
  rintro e w2 ⟨rfl, h⟩
  have HK2 := Lib.hid (D.more _ _ HK1.out h)
  have HM2 := Lib.hid (HM1.out.trans h)
  clear h HK1 HM1
  go_wp2_with fail
  go_ret
  exact ⟨rfl, HM2.out⟩

theorem aligned_core (n a p sl : Int) (hk : Ok w) (n0 : -9223372036854775808 ≤ n) (n1 : n ≤ 9223372036854775807) (a0 : -9223372036854775808 ≤ a) (a1 : a ≤ 9223372036854775807) : Calls Tryd.prog 7 #[.int .i64 n, .int .i64 a, .int .i64 p, .int .i64 sl] w (Gives w (.bool true)) := by
  by_cases h : 1048576 < n
  · exact aligned_over D w n a p sl hk h
  cases hb : badB n a with
  | true => exact aligned_bad D w n a p sl hk n0 (by omega) a0 a1 hb
  | false =>
    have hp : powB a = true := by simp [badB] at hb; exact hb.2
    have hn0 : 0 ≤ n := by simp [badB] at hb; omega
    have ha := powB_b hp
    have u0 : 0 ≤ IntKind.u64.wrap p := by simp only [IntKind.wrap]; first | exact Int.emod_nonneg _ (by decide) | omega
    have v0 : 0 ≤ IntKind.u64.wrap sl := by simp only [IntKind.wrap]; first | exact Int.emod_nonneg _ (by decide) | omega
    obtain ⟨g, hg, g0, g1⟩ : ∃ g, IntKind.i64.wrap ((IntKind.u64.wrap p).tmod 1024) = g ∧ 0 ≤ g ∧ g < 1024 := by
      refine ⟨_, rfl, ?_⟩
      rw [Int.tmod_eq_emod_of_nonneg u0, wrap_in (by omega) (by omega)]; omega
    cases hs : smallB n a with
    | true =>
      simp [smallB] at hs
      have b1 := cls_big hs.1
      have b2 := cls_big hs.2
      have hc : 0 ≤ mx (clsV n) (clsV a) ∧ mx (clsV n) (clsV a) ≤ 4 := by unfold mx; split <;> omega
      have hz := size_mx (y := clsV a) b1.1 b1.2.1 b2.2.1
      have hm := fun s (q : 0 ≤ s) => small_mod (g := g) (s := s) hp hs.2 hs.1 g0 q
      have HF : ∀ W, Ok W → Calls Tryd.prog 18 #[.int .i64 n, .int .i64 a] W (Gives W (.tuple #[.int .i64 (mx (clsV n) (clsV a)), .int .i64 0, .int .i64 0, .int .i64 0])) := fun W k => by
        have := D.fit n a W n0 (by omega) a0 a1 k
        rwa [show fitT n a = .tuple #[.int .i64 (mx (clsV n) (clsV a)), .int .i64 0, .int .i64 0, .int .i64 0] by simp [fitT, fitC, fitP, fitS, fitE, hb, smallB, hs]] at this
      generalize mx (clsV n) (clsV a) = c at *
      obtain ⟨j, rfl⟩ : ∃ j : Nat, c = j := ⟨c.toNat, by omega⟩
      have sl2 := (slots_of_size (show j ≤ 4 by omega)).2
      have sb := size_b (show j ≤ 4 by omega)
      have m0 := Int.emod_nonneg (IntKind.u64.wrap sl) (show slotsC j ≠ 0 by omega)
      have m1 := Int.emod_lt_of_pos (IntKind.u64.wrap sl) (show 0 < slotsC j by omega)
      have hs' : IntKind.i64.wrap ((IntKind.u64.wrap sl).tmod (slotsC j)) = IntKind.u64.wrap sl % slotsC j := by
        rw [Int.tmod_eq_emod_of_nonneg v0]; exact wrap_in (by omega) (by omega)
      exact aligned_small D w n a p sl hk n0 (by omega) a0 a1 j (slotsC j) (sizeV j) g _ (by omega) sl2.1 sl2.2 (by omega) sb.2 (by omega) g0 g1 m0 m1 ha.1 hg hs' (hm _ m0) HF
        (fun W k => D.slots _ W (by omega) (by omega) k) (fun W k => D.size _ W (by omega) (by omega) k)
    | false =>
      obtain ⟨m0, m1, m2⟩ := big_mod (g := g) hp g0
      have mb : 1 ≤ mx n 1 ∧ n ≤ mx n 1 ∧ mx n 1 ≤ 1048576 := by unfold mx; split <;> omega
      have pb := pgs_big mb.1
      have HF : ∀ W, Ok W → Calls Tryd.prog 18 #[.int .i64 n, .int .i64 a] W (Gives W (.tuple #[.int .i64 (-1), .int .i64 (pgsV (mx n 1)), .int .i64 (mx 1 (a / 32)), .int .i64 0])) := fun W k => by
        have := D.fit n a W n0 (by omega) a0 a1 k
        rwa [show fitT n a = .tuple #[.int .i64 (-1), .int .i64 (pgsV (mx n 1)), .int .i64 (mx 1 (a / 32)), .int .i64 0] by simp [fitT, fitC, fitP, fitS, fitE, hb, hs]] at this
      by_cases hn : n < 1
      · exact aligned_big0 D w n a p sl hk n0 (by omega) a0 a1 hn _ _ g m1 m2 (by omega) (by omega) pb.2 g0 g1 ha.1 hg m0 HF
      · exact aligned_big1 D w n a p sl hk n0 (by omega) a0 a1 hn _ _ g m1 m2 (by omega) (by omega) pb.2 g0 g1 ha.1 hg m0 HF

end Go.Proofs.YtiechakfjhifaaaDoor
