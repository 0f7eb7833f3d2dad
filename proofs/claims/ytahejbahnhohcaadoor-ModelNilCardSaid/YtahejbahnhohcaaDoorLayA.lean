/-
  Contracts of package layout's functions, over any layout whose parts' beginnings rise.
-/
import Derived.Test.YtahejbahnhohcaaDoorLayPlain
import Derived.Test.YtahejbahnhohcaaDoorBase
namespace Go.Proofs.YtahejbahnhohcaaDoor
open Go.RowKit
set_option linter.unusedVariables false
set_option linter.unusedSimpArgs false

/-- The word i of a part that begins at a, and ends ahead of b. -/
def partV (a b i : Int) : Int := if 0 ≤ i ∧ i < b - a then a + i else 0

/-- A layout, by its configuration and its parts' beginnings. -/
def layArr (wk cp pg st tr wt ck pr ca bi ba : Int) (S : Nat → Int) : Array Value := #[.int .i64 wk, .int .i64 cp, .int .i64 pg, .int .i64 st, .int .i64 tr, .int .i64 wt, .int .i64 ck, .int .i64 pr, .int .i64 ca, .int .i64 bi, .int .i64 ba, .int .i64 (S 0), .int .i64 (S 1), .int .i64 (S 2), .int .i64 (S 3), .int .i64 (S 4), .int .i64 (S 5), .int .i64 (S 6), .int .i64 (S 7), .int .i64 (S 8), .int .i64 (S 9), .int .i64 (S 10), .int .i64 (S 11), .int .i64 (S 12)]
theorem layArr_start (wk cp pg st tr wt ck pr ca bi ba : Int) (S : Nat → Int) (p : Nat) (hp : p ≤ 12) : (layArr wk cp pg st tr wt ck pr ca bi ba S)[11 + p]? = some (.int .i64 (S p)) := by
  have : p = 0 ∨ p = 1 ∨ p = 2 ∨ p = 3 ∨ p = 4 ∨ p = 5 ∨ p = 6 ∨ p = 7 ∨ p = 8 ∨ p = 9 ∨ p = 10 ∨ p = 11 ∨ p = 12 := by omega
  rcases this with rfl | rfl | rfl | rfl | rfl | rfl | rfl | rfl | rfl | rfl | rfl | rfl | rfl <;> rfl
theorem layArr_size (wk cp pg st tr wt ck pr ca bi ba : Int) (S : Nat → Int) : (layArr wk cp pg st tr wt ck pr ca bi ba S).size = 24 := rfl
theorem layArr_one (wk cp pg st tr wt ck pr ca bi ba : Int) (S : Nat → Int) : (layArr wk cp pg st tr wt ck pr ca bi ba S).all (·.oneCell') = true := by simp [layArr, Value.oneCell']

/-- The parts' beginnings rise, and the arena is no greater than may be; without locks it is empty. -/
structure LayOk (cp pg st ca bi : Int) (S : Nat → Int) : Prop where
  lo : 0 ≤ S 0
  up : ∀ p, p < 12 → S p ≤ S (p + 1)
  hi : S 12 ≤ 1000000
  cp0 : 0 ≤ cp
  cp1 : cp ≤ 8
  pg0 : 0 ≤ pg
  pg1 : pg ≤ 256
  st0 : 0 ≤ st
  st1 : st ≤ 64
  ca0 : 0 ≤ ca
  ca1 : ca ≤ 8
  bi0 : 0 ≤ bi
  bi1 : bi ≤ 16
  empty : st = 0 → S 12 = 0
theorem LayOk.all {cp pg st ca bi : Int} {S : Nat → Int} (h : LayOk cp pg st ca bi S) : 0 ≤ S 0 ∧ S 0 ≤ S 1 ∧ S 1 ≤ S 2 ∧ S 2 ≤ S 3 ∧ S 3 ≤ S 4 ∧ S 4 ≤ S 5 ∧ S 5 ≤ S 6 ∧ S 6 ≤ S 7 ∧ S 7 ≤ S 8 ∧ S 8 ≤ S 9 ∧ S 9 ≤ S 10 ∧ S 10 ≤ S 11 ∧ S 11 ≤ S 12 ∧ S 12 ≤ 1000000 :=
  ⟨h.lo, h.up 0 (by omega), h.up 1 (by omega), h.up 2 (by omega), h.up 3 (by omega), h.up 4 (by omega), h.up 5 (by omega), h.up 6 (by omega), h.up 7 (by omega), h.up 8 (by omega), h.up 9 (by omega), h.up 10 (by omega), h.up 11 (by omega), h.hi⟩

theorem LayOk.bounds {cp pg st ca bi : Int} {S : Nat → Int} (h : LayOk cp pg st ca bi S) (p : Nat) (hp : p ≤ 12) : 0 ≤ S p ∧ S p ≤ 1000000 := by
  obtain ⟨r0, r1, r2, r3, r4, r5, r6, r7, r8, r9, r10, r11, r12, r13⟩ := h.all
  have : p = 0 ∨ p = 1 ∨ p = 2 ∨ p = 3 ∨ p = 4 ∨ p = 5 ∨ p = 6 ∨ p = 7 ∨ p = 8 ∨ p = 9 ∨ p = 10 ∨ p = 11 ∨ p = 12 := by omega
  rcases this with rfl | rfl | rfl | rfl | rfl | rfl | rfl | rfl | rfl | rfl | rfl | rfl | rfl <;> omega

theorem lwithin (n lo hi : Int) (w : World) :
    Calls Tryd.prog 21 #[.int .i64 n, .int .i64 lo, .int .i64 hi] w fun e w' => e = .returned (.bool (btw n lo hi)) ∧ w' = w := by
  cases c0 : decide (lo ≤ n) with
  | false =>
    rw [show btw n lo hi = false by simp [btw, c0]]
    go_enter Tryd.func21, Tryd.ntmps21
    go_wp2
    go_ret
    exact ⟨rfl, rfl⟩
  | true =>
    cases c1 : decide (n ≤ hi) with
    | false =>
      rw [show btw n lo hi = false by simp [btw, c1]]
      go_enter Tryd.func21, Tryd.ntmps21
      go_wp2
      go_ret
      exact ⟨rfl, rfl⟩
    | true =>
      rw [show btw n lo hi = true by simp [btw, c0, c1]]
      go_enter Tryd.func21, Tryd.ntmps21
      go_wp2
      go_ret
      exact ⟨rfl, rfl⟩

theorem laligned (a : Int) (h0 : 0 ≤ a) (h1 : a ≤ 1000000) (w : World) :
    Calls Tryd.prog 36 #[.int .i64 a] w fun e w' => e = .returned (.int .i64 ((a + 127) / 128 * 128)) ∧ w' = w := by
  have q0 : IntKind.i64.wrap (a + 128) = a + 128 := wrap_in (by omega) (by omega)
  have q1 : IntKind.i64.wrap (a + 128 - 1) = a + 127 := by rw [wrap_in (by omega) (by omega)]; omega
  have q2 : IntKind.i64.wrap ((a + 127).tdiv 128) = (a + 127) / 128 := by rw [Int.tdiv_eq_ediv_of_nonneg (by omega)]; exact wrap_in (by omega) (by omega)
  have q3 : IntKind.i64.wrap ((a + 127) / 128 * 128) = (a + 127) / 128 * 128 := wrap_in (by omega) (by omega)
  go_enter Tryd.func36, Tryd.ntmps36
  go_wp2_with fail
  go_ret
  exact ⟨rfl, rfl⟩

theorem lchunks (wk cp pg st tr wt ck pr ca bi ba : Int) (h0 : 0 ≤ pg) (h1 : pg ≤ 256) (w : World) :
    Calls Tryd.prog 49 #[.agg #[.int .i64 wk, .int .i64 cp, .int .i64 pg, .int .i64 st, .int .i64 tr, .int .i64 wt, .int .i64 ck, .int .i64 pr, .int .i64 ca, .int .i64 bi, .int .i64 ba]] w (Gives w (.int .i64 (chunksV pg))) := by
  have q0 : IntKind.i64.wrap (pg + 4) = pg + 4 := wrap_in (by omega) (by omega)
  have q1 : IntKind.i64.wrap (pg + 4 - 1) = pg + 3 := by rw [wrap_in (by omega) (by omega)]; omega
  have q2 : IntKind.i64.wrap ((pg + 3).tdiv 4) = chunksV pg := by rw [Int.tdiv_eq_ediv_of_nonneg (by omega)]; exact wrap_in (by omega) (by omega)
  go_enter Tryd.func49, Tryd.ntmps49
  go_wp2_with fail
  go_ret
  exact ⟨rfl, (More.refl _).alloc _⟩

theorem lblocks (c : Nat) (h : c ≤ 4) (w : World) :
    Calls Tryd.prog 61 #[.int .i64 c] w fun e w' => e = .returned (.int .i64 (slotsV c)) ∧ w' = w := by
  have hc : c = 0 ∨ c = 1 ∨ c = 2 ∨ c = 3 ∨ c = 4 := by omega
  rcases hc with rfl | rfl | rfl | rfl | rfl <;>
  · go_enter Tryd.func61, Tryd.ntmps61
    go_wp2_with fail
    go_ret
    exact ⟨rfl, rfl⟩

/-- The lists of all classes ahead of c. -/
def aheadT (c : Nat) : Int := if c = 5 then 62 else aheadV c
theorem aheadT_step (k : Nat) (h : k ≤ 4) : aheadT k + slotsV k = aheadT (k + 1) ∧ 0 ≤ aheadT k ∧ aheadT k ≤ 60 := by
  have hc : k = 0 ∨ k = 1 ∨ k = 2 ∨ k = 3 ∨ k = 4 := by omega
  rcases hc with rfl | rfl | rfl | rfl | rfl <;> decide
theorem aheadT_lo (k : Nat) (h : k ≤ 4) : aheadT k = aheadV k := if_neg (by omega)

theorem lheadsAhead (c : Nat) (h : c ≤ 5) (w : World) :
    Calls Tryd.prog 50 #[.int .i64 c] w fun e w' => e = .returned (.int .i64 (aheadT c)) ∧ w' = w := by
  go_enter Tryd.func50, Tryd.ntmps50
  go_wp2_with fail
  go_loop [3, 4, 6] (fun n _ i => ∃ k : Nat, k ≤ c ∧ i = .int .i64 k ∧ n = .int .i64 (aheadT k)) (fun _ _ i => c - (intOf i).toNat)
  case atStart => exact ⟨0, Nat.zero_le _, rfl, rfl⟩
  case round =>
    obtain ⟨k, hk, rfl, rfl⟩ := hrel
    by_cases hlt : k < c
    · obtain ⟨a1, a2, a3⟩ := aheadT_step k (by omega)
      have b4 := slots_lo k (by omega) (by omega)
      have q0 : IntKind.i64.wrap (aheadT k + slotsV k) = aheadT (k + 1) := by rw [a1]; exact wrap_in (by omega) (by omega)
      clear a1
      have d0 : decide ((k : Int) < (c : Int)) = true := by simp; omega
      go_wp2_with fail
      refine (lblocks k (by omega) _).mono ?_
      rintro e w1 ⟨rfl, rfl⟩
      go_wp2_with fail
      go_round
      case rel => exact ⟨k + 1, by omega, by go_num, rfl⟩
      case measure => simp [intOf]; omega
    · have he : k = c := by omega
      subst he
      have d0 : decide ((k : Int) < (k : Int)) = false := by simp
      go_wp2_with fail
      go_ret
      exact ⟨rfl, rfl⟩

variable (wk cp pg st tr wt ck pr ca bi ba : Int) (S : Nat → Int) (w : World)

theorem luser : Calls Tryd.prog 15 #[.agg (layArr wk cp pg st tr wt ck pr ca bi ba S)] w (Gives w (.int .i64 (S 11))) := by
  have HC := Lib.hid (row_new w (layArr wk cp pg st tr wt ck pr ca bi ba S) 49)
  have x22 := cell_more HC.out (More.refl _) (show (layArr wk cp pg st tr wt ck pr ca bi ba S)[22]? = some (.int .i64 (S 11)) from rfl)
  go_enter Tryd.func15, Tryd.ntmps15
  go_wp2_with fail
  go_ret
  exact ⟨rfl, (More.refl _).alloc _⟩

theorem lwords : Calls Tryd.prog 16 #[.agg (layArr wk cp pg st tr wt ck pr ca bi ba S)] w (Gives w (.int .i64 (S 12))) := by
  have HC := Lib.hid (row_new w (layArr wk cp pg st tr wt ck pr ca bi ba S) 49)
  have x23 := cell_more HC.out (More.refl _) (show (layArr wk cp pg st tr wt ck pr ca bi ba S)[23]? = some (.int .i64 (S 12)) from rfl)
  go_enter Tryd.func16, Tryd.ntmps16
  go_wp2_with fail
  go_ret
  exact ⟨rfl, (More.refl _).alloc _⟩

end Go.Proofs.YtahejbahnhohcaaDoor
