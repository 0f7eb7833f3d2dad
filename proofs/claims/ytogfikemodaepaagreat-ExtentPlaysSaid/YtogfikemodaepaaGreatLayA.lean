/-
  Contracts of package layout's functions, over any layout whose parts' beginnings rise.
-/
import Derived.Test.YtogfikemodaepaaGreatLayPlain
import Derived.Test.YtogfikemodaepaaGreatBase
namespace Go.Proofs.YtogfikemodaepaaGreat
open Go.RowKit
set_option linter.unusedVariables false
set_option linter.unusedSimpArgs false

/-- The word i of a part that begins at a, and ends ahead of b. -/
def partV (a b i : Int) : Int := if 0 ≤ i ∧ i < b - a then a + i else 0

/-- A layout, by its configuration and its parts' beginnings. -/
def layArr (wk cp pg st tr wt ck pr ca bi ba : Int) (S : Nat → Int) : Array Value := #[.int .i64 wk, .int .i64 cp, .int .i64 pg, .int .i64 st, .int .i64 tr, .int .i64 wt, .int .i64 ck, .int .i64 pr, .int .i64 ca, .int .i64 bi, .int .i64 ba, .int .i64 (S 0), .int .i64 (S 1), .int .i64 (S 2), .int .i64 (S 3), .int .i64 (S 4), .int .i64 (S 5), .int .i64 (S 6), .int .i64 (S 7), .int .i64 (S 8), .int .i64 (S 9), .int .i64 (S 10), .int .i64 (S 11), .int .i64 (S 12)]
theorem layArr_start (wk cp pg st tr wt ck pr ca bi ba : Int) (S : Nat → Int) (p : Nat) (hp : p ≤ 12) : (layArr wk cp pg st tr wt ck pr ca bi ba S)[11 + p]? = some (.int .i64 (S p)) := by
  have : p = 0 ∨ p = 1 ∨ p = 2 ∨ p = 3 ∨ p = 4 ∨ p = 5 ∨ p = 6 ∨ p = 7 ∨ p = 8 ∨ p = 9 ∨ p = 10 ∨ p = 11 ∨ p = 12 := by omega
  rcases this with rfl | rfl | rfl | rfl | rfl | rfl | rfl | rfl | rfl | rfl | rfl | rfl | rfl <;> rfl
theorem layArr_size (wk cp pg st tr wt ck pr ca bi ba : Int) (S : Nat → Int) : (layArr wk cp pg st tr wt ck pr ca bi ba S).size = 24 := rfl
theorem layArr_one (wk cp pg st tr wt ck pr ca bi ba : Int) (S : Nat → Int) : (layArr wk cp pg st tr wt ck pr ca bi ba S).all (·.oneCell') = true := by simp [layArr, Value.oneCell']

/-- The parts' beginnings rise, and the arena is no greater than may be; without locks it is empty. -/
structure LayOk (cp pg st ca bi : Int) (S : Nat → Int) : Prop where
  lo : 0 ≤ S 0
  up : ∀ p, p < 12 → S p ≤ S (p + 1)
  hi : S 12 ≤ 1000000
  cp0 : 0 ≤ cp
  cp1 : cp ≤ 8
  pg0 : 0 ≤ pg
  pg1 : pg ≤ 256
  st0 : 0 ≤ st
  st1 : st ≤ 64
  ca0 : 0 ≤ ca
  ca1 : ca ≤ 8
  bi0 : 0 ≤ bi
  bi1 : bi ≤ 16
  empty : st = 0 → S 12 = 0
theorem LayOk.all {cp pg st ca bi : Int} {S : Nat → Int} (h : LayOk cp pg st ca bi S) : 0 ≤ S 0 ∧ S 0 ≤ S 1 ∧ S 1 ≤ S 2 ∧ S 2 ≤ S 3 ∧ S 3 ≤ S 4 ∧ S 4 ≤ S 5 ∧ S 5 ≤ S 6 ∧ S 6 ≤ S 7 ∧ S 7 ≤ S 8 ∧ S 8 ≤ S 9 ∧ S 9 ≤ S 10 ∧ S 10 ≤ S 11 ∧ S 11 ≤ S 12 ∧ S 12 ≤ 1000000 :=
  ⟨h.lo, h.up 0 (by omega), h.up 1 (by omega), h.up 2 (by omega), h.up 3 (by omega), h.up 4 (by omega), h.up 5 (by omega), h.up 6 (by omega), h.up 7 (by omega), h.up 8 (by omega), h.up 9 (by omega), h.up 10 (by omega), h.up 11 (by omega), h.hi⟩

theorem LayOk.bounds {cp pg st ca bi : Int} {S : Nat → Int} (h : LayOk cp pg st ca bi S) (p : Nat) (hp : p ≤ 12) : 0 ≤ S p ∧ S p ≤ 1000000 := by
  obtain ⟨r0, r1, r2, r3, r4, r5, r6, r7, r8, r9, r10, r11, r12, r13⟩ := h.all
  have : p = 0 ∨ p = 1 ∨ p = 2 ∨ p = 3 ∨ p = 4 ∨ p = 5 ∨ p = 6 ∨ p = 7 ∨ p = 8 ∨ p = 9 ∨ p = 10 ∨ p = 11 ∨ p = 12 := by omega
  rcases this with rfl | rfl | rfl | rfl | rfl | rfl | rfl | rfl | rfl | rfl | rfl | rfl | rfl <;> omega

theorem lwithin (n lo hi : Int) (w : World) :
    Calls Tryz.prog 68 #[.int .i64 n, .int .i64 lo, .int .i64 hi] w fun e w' => e = .returned (.bool (btw n lo hi)) ∧ w' = w := by
  cases c0 : decide (lo ≤ n) with
  | false =>
    rw [show btw n lo hi = false by simp [btw, c0]]
    go_enter Tryz.func68, Tryz.ntmps68
    go_wp2
    go_ret
    exact ⟨rfl, rfl⟩
  | true =>
    cases c1 : decide (n ≤ hi) with
    | false =>
      rw [show btw n lo hi = false by simp [btw, c1]]
      go_enter Tryz.func68, Tryz.ntmps68
      go_wp2
      go_ret
      exact ⟨rfl, rfl⟩
    | true =>
      rw [show btw n lo hi = true by simp [btw, c0, c1]]
      go_enter Tryz.func68, Tryz.ntmps68
      go_wp2
      go_ret
      exact ⟨rfl, rfl⟩

theorem laligned (a : Int) (h0 : 0 ≤ a) (h1 : a ≤ 1000000) (w : World) :
    Calls Tryz.prog 38 #[.int .i64 a] w fun e w' => e = .returned (.int .i64 ((a + 127) / 128 * 128)) ∧ w' = w := by
  have q0 : IntKind.i64.wrap (a + 128) = a + 128 := wrap_in (by omega) (by omega)
  have q1 : IntKind.i64.wrap (a + 128 - 1) = a + 127 := by rw [wrap_in (by omega) (by omega)]; omega
  have q2 : IntKind.i64.wrap ((a + 127).tdiv 128) = (a + 127) / 128 := by rw [Int.tdiv_eq_ediv_of_nonneg (by omega)]; exact wrap_in (by omega) (by omega)
  have q3 : IntKind.i64.wrap ((a + 127) / 128 * 128) = (a + 127) / 128 * 128 := wrap_in (by omega) (by omega)
  go_enter Tryz.func38, Tryz.ntmps38
  go_wp2_with fail
  go_ret
  exact ⟨rfl, rfl⟩

theorem lchunks (wk cp pg st tr wt ck pr ca bi ba : Int) (h0 : 0 ≤ pg) (h1 : pg ≤ 256) (w : World) :
    Calls Tryz.prog 69 #[.agg #[.int .i64 wk, .int .i64 cp, .int .i64 pg, .int .i64 st, .int .i64 tr, .int .i64 wt, .int .i64 ck, .int .i64 pr, .int .i64 ca, .int .i64 bi, .int .i64 ba]] w (Gives w (.int .i64 (chunksV pg))) := by
  have q0 : IntKind.i64.wrap (pg + 4) = pg + 4 := wrap_in (by omega) (by omega)
  have q1 : IntKind.i64.wrap (pg + 4 - 1) = pg + 3 := by rw [wrap_in (by omega) (by omega)]; omega
  have q2 : IntKind.i64.wrap ((pg + 3).tdiv 4) = chunksV pg := by rw [Int.tdiv_eq_ediv_of_nonneg (by omega)]; exact wrap_in (by omega) (by omega)
  go_enter Tryz.func69, Tryz.ntmps69
  go_wp2_with fail
  go_ret
  exact ⟨rfl, (More.refl _).alloc _⟩

theorem lblocks (c : Nat) (h : c ≤ 4) (w : World) :
    Calls Tryz.prog 92 #[.int .i64 c] w fun e w' => e = .returned (.int .i64 (slotsV c)) ∧ w' = w := by
  have hc : c = 0 ∨ c = 1 ∨ c = 2 ∨ c = 3 ∨ c = 4 := by omega
  rcases hc with rfl | rfl | rfl | rfl | rfl <;>
  · go_enter Tryz.func92, Tryz.ntmps92
    go_wp2_with fail
    go_ret
    exact ⟨rfl, rfl⟩

/-- The lists of all classes ahead of c. -/
def aheadT (c : Nat) : Int := if c = 5 then 62 else aheadV c
theorem aheadT_step (k : Nat) (h : k ≤ 4) : aheadT k + slotsV k = aheadT (k + 1) ∧ 0 ≤ aheadT k ∧ aheadT k ≤ 60 := by
  have hc : k = 0 ∨ k = 1 ∨ k = 2 ∨ k = 3 ∨ k = 4 := by omega
  rcases hc with rfl | rfl | rfl | rfl | rfl <;> decide
theorem aheadT_lo (k : Nat) (h : k ≤ 4) : aheadT k = aheadV k := if_neg (by omega)

theorem lheadsAhead (c : Nat) (h : c ≤ 5) (w : World) :
    Calls Tryz.prog 70 #[.int .i64 c] w fun e w' => e = .returned (.int .i64 (aheadT c)) ∧ w' = w := by
  go_enter Tryz.func70, Tryz.ntmps70
  go_wp2_with fail
  go_loop [3, 4, 6] (fun n _ i => ∃ k : Nat, k ≤ c ∧ i = .int .i64 k ∧ n = .int .i64 (aheadT k)) (fun _ _ i => c - (intOf i).toNat)
  case atStart => exact ⟨0, Nat.zero_le _, rfl, rfl⟩
  case round =>
    obtain ⟨k, hk, rfl, rfl⟩ := hrel
    by_cases hlt : k < c
    · obtain ⟨a1, a2, a3⟩ := aheadT_step k (by omega)
      have b4 := slots_lo k (by omega) (by omega)
      have q0 : IntKind.i64.wrap (aheadT k + slotsV k) = aheadT (k + 1) := by rw [a1]; exact wrap_in (by omega) (by omega)
      clear a1
      have d0 : decide ((k : Int) < (c : Int)) = true := by simp; omega
      go_wp2_with fail
      refine (lblocks k (by omega) _).mono ?_
      rintro e w1 ⟨rfl, rfl⟩
      go_wp2_with fail
      go_round
      case rel => exact ⟨k + 1, by omega, by go_num, rfl⟩
      case measure => simp [intOf]; omega
    · have he : k = c := by omega
      subst he
      have d0 : decide ((k : Int) < (k : Int)) = false := by simp
      go_wp2_with fail
      go_ret
      exact ⟨rfl, rfl⟩

variable (wk cp pg st tr wt ck pr ca bi ba : Int) (S : Nat → Int) (w : World)

set_option maxHeartbeats 1000000 in
theorem lword (p : Nat) (i : Int) (hp : p < 12) (R : LayOk cp pg st ca bi S) :
    Calls Tryz.prog 48 #[.agg (layArr wk cp pg st tr wt ck pr ca bi ba S), .int .i64 p, .int .i64 i] w (Gives w (.int .i64 (partV (S p) (S (p + 1)) i))) := by
  have h0 := (R.bounds p (by omega)).1
  have h1 := R.up p hp
  have h2 := (R.bounds (p + 1) (by omega)).2
  clear R
  have e1 := layArr_start wk cp pg st tr wt ck pr ca bi ba S p (by omega)
  have e2 := layArr_start wk cp pg st tr wt ck pr ca bi ba S (p + 1) (by omega)
  generalize layArr wk cp pg st tr wt ck pr ca bi ba S = L at *
  generalize S p = a at *
  generalize S (p + 1) = b at *
  have HC := Lib.hid (row_new w L 28)
  have HM : Hid (More w (w.alloc (.cells L 28))) := (More.refl w).alloc _
  have q0 : IntKind.i64.wrap ((p : Int) + 1) = ((p + 1 : Nat) : Int) := by rw [wrap_in (by omega) (by omega)]; omega
  have q1 : IntKind.i64.wrap (b - a) = b - a := wrap_in (by omega) (by omega)
  have r0 : (0 : Int) ≤ (p : Int) + 1 := by omega
  have r1 : (p : Int) + 1 < 13 := by omega
  have r2 : (p : Int) < 13 := by omega
  by_cases c0 : i < 0
  · have d0 : decide (i < 0) = true := by simp; omega
    rw [show partV a b i = 0 from if_neg (by omega)]
    go_enter Tryz.func48, Tryz.ntmps48
    go_wp2_with fail
    generalize w.alloc (.cells L 28) = W0 at *
    have hne : ∃ W, More W0 W := ⟨W0, More.refl _⟩
    refine wp_region_more (by kernel_rfl) (by kernel_rfl) ?_
    iterate 16
      with_reducible refine wpQuiet_step (fun K hK => ?_)
      go_simp
      first
      | (refine hK _ ?_; clear hK K)
      | (apply Exists.intro
         refine ⟨fun W hW => ?_, hK _ ?_⟩
         first
         | (have x1 := cell_more HC.out hW e1; have x2 := cell_more HC.out hW e2; go_simp; try rfl)
         clear hK K)
    refine wpQuiet_nil ?_
    intro W hW
    have HW := Lib.hid hW
    have x1 := cell_more HC.out hW e1
    clear hW
    go_wp2_with fail
    go_ret
    exact ⟨rfl, HM.out.trans HW.out⟩
  · have d0 : decide (i < 0) = false := by simp; omega
    by_cases c1 : i < b - a
    · have d1 : decide (b - a ≤ i) = false := by simp; omega
      have q2 : IntKind.i64.wrap (a + i) = a + i := wrap_in (by omega) (by omega)
      rw [show partV a b i = a + i from if_pos (by omega)]
      go_enter Tryz.func48, Tryz.ntmps48
      go_wp2_with fail
      generalize w.alloc (.cells L 28) = W0 at *
      have hne : ∃ W, More W0 W := ⟨W0, More.refl _⟩
      refine wp_region_more (by kernel_rfl) (by kernel_rfl) ?_
      iterate 16
        with_reducible refine wpQuiet_step (fun K hK => ?_)
        go_simp
        first
        | (refine hK _ ?_; clear hK K)
        | (apply Exists.intro
           refine ⟨fun W hW => ?_, hK _ ?_⟩
           first
           | (have x1 := cell_more HC.out hW e1; have x2 := cell_more HC.out hW e2; go_simp; try rfl)
           clear hK K)
      refine wpQuiet_nil ?_
      intro W hW
      have HW := Lib.hid hW
      have x1 := cell_more HC.out hW e1
      clear hW
      go_wp2_with fail
      go_ret
      exact ⟨rfl, HM.out.trans HW.out⟩
    · have d1 : decide (b - a ≤ i) = true := by simp; omega
      rw [show partV a b i = 0 from if_neg (by omega)]
      go_enter Tryz.func48, Tryz.ntmps48
      go_wp2_with fail
      generalize w.alloc (.cells L 28) = W0 at *
      have hne : ∃ W, More W0 W := ⟨W0, More.refl _⟩
      refine wp_region_more (by kernel_rfl) (by kernel_rfl) ?_
      iterate 16
        with_reducible refine wpQuiet_step (fun K hK => ?_)
        go_simp
        first
        | (refine hK _ ?_; clear hK K)
        | (apply Exists.intro
           refine ⟨fun W hW => ?_, hK _ ?_⟩
           first
           | (have x1 := cell_more HC.out hW e1; have x2 := cell_more HC.out hW e2; go_simp; try rfl)
           clear hK K)
      refine wpQuiet_nil ?_
      intro W hW
      have HW := Lib.hid hW
      have x1 := cell_more HC.out hW e1
      clear hW
      go_wp2_with fail
      go_ret
      exact ⟨rfl, HM.out.trans HW.out⟩

theorem ltable (k : Int) (R : LayOk cp pg st ca bi S) :
    Calls Tryz.prog 105 #[.agg (layArr wk cp pg st tr wt ck pr ca bi ba S), .int .i64 k] w (Gives w (.int .i64 (partV (S 1) (S 2) k))) := by
  obtain ⟨r0, r1, r2, r3, r4, r5, r6, r7, r8, r9, r10, r11, r12, r13⟩ := R.all
  have HC := Lib.hid (row_new w (layArr wk cp pg st tr wt ck pr ca bi ba S) 28)
  go_enter Tryz.func105, Tryz.ntmps105
  go_wp2_with (first | refine wpList_load_row rfl 28 _ rfl _ rfl 28 _ _ _ HC.out Tryz.underlying28 rfl (by kernel_rfl) ?_ | refine wpList_load_rowG rfl 28 _ rfl _ rfl 28 _ _ _ HC.out Tryz.underlying28 rfl (by kernel_rfl) ?_)
  refine (lword wk cp pg st tr wt ck pr ca bi ba S _ 1 k (by omega) R).mono ?_
  rintro e w1 ⟨rfl, h1⟩
  go_wp2_with fail
  go_ret
  exact ⟨rfl, ((More.refl _).alloc _).trans h1⟩

theorem lkind (k : Int) (R : LayOk cp pg st ca bi S) :
    Calls Tryz.prog 17 #[.agg (layArr wk cp pg st tr wt ck pr ca bi ba S), .int .i64 k] w (Gives w (.int .i64 (partV (S 2) (S 3) k))) := by
  obtain ⟨r0, r1, r2, r3, r4, r5, r6, r7, r8, r9, r10, r11, r12, r13⟩ := R.all
  have HC := Lib.hid (row_new w (layArr wk cp pg st tr wt ck pr ca bi ba S) 28)
  go_enter Tryz.func17, Tryz.ntmps17
  go_wp2_with (first | refine wpList_load_row rfl 28 _ rfl _ rfl 28 _ _ _ HC.out Tryz.underlying28 rfl (by kernel_rfl) ?_ | refine wpList_load_rowG rfl 28 _ rfl _ rfl 28 _ _ _ HC.out Tryz.underlying28 rfl (by kernel_rfl) ?_)
  refine (lword wk cp pg st tr wt ck pr ca bi ba S _ 2 k (by omega) R).mono ?_
  rintro e w1 ⟨rfl, h1⟩
  go_wp2_with fail
  go_ret
  exact ⟨rfl, ((More.refl _).alloc _).trans h1⟩

theorem lcount (k : Int) (R : LayOk cp pg st ca bi S) :
    Calls Tryz.prog 76 #[.agg (layArr wk cp pg st tr wt ck pr ca bi ba S), .int .i64 k] w (Gives w (.int .i64 (partV (S 3) (S 4) k))) := by
  obtain ⟨r0, r1, r2, r3, r4, r5, r6, r7, r8, r9, r10, r11, r12, r13⟩ := R.all
  have HC := Lib.hid (row_new w (layArr wk cp pg st tr wt ck pr ca bi ba S) 28)
  go_enter Tryz.func76, Tryz.ntmps76
  go_wp2_with (first | refine wpList_load_row rfl 28 _ rfl _ rfl 28 _ _ _ HC.out Tryz.underlying28 rfl (by kernel_rfl) ?_ | refine wpList_load_rowG rfl 28 _ rfl _ rfl 28 _ _ _ HC.out Tryz.underlying28 rfl (by kernel_rfl) ?_)
  refine (lword wk cp pg st tr wt ck pr ca bi ba S _ 3 k (by omega) R).mono ?_
  rintro e w1 ⟨rfl, h1⟩
  go_wp2_with fail
  go_ret
  exact ⟨rfl, ((More.refl _).alloc _).trans h1⟩

theorem lbits (k : Int) (R : LayOk cp pg st ca bi S) :
    Calls Tryz.prog 77 #[.agg (layArr wk cp pg st tr wt ck pr ca bi ba S), .int .i64 k] w (Gives w (.int .i64 (partV (S 4) (S 5) k))) := by
  obtain ⟨r0, r1, r2, r3, r4, r5, r6, r7, r8, r9, r10, r11, r12, r13⟩ := R.all
  have HC := Lib.hid (row_new w (layArr wk cp pg st tr wt ck pr ca bi ba S) 28)
  go_enter Tryz.func77, Tryz.ntmps77
  go_wp2_with (first | refine wpList_load_row rfl 28 _ rfl _ rfl 28 _ _ _ HC.out Tryz.underlying28 rfl (by kernel_rfl) ?_ | refine wpList_load_rowG rfl 28 _ rfl _ rfl 28 _ _ _ HC.out Tryz.underlying28 rfl (by kernel_rfl) ?_)
  refine (lword wk cp pg st tr wt ck pr ca bi ba S _ 4 k (by omega) R).mono ?_
  rintro e w1 ⟨rfl, h1⟩
  go_wp2_with fail
  go_ret
  exact ⟨rfl, ((More.refl _).alloc _).trans h1⟩

theorem lwords : Calls Tryz.prog 13 #[.agg (layArr wk cp pg st tr wt ck pr ca bi ba S)] w (Gives w (.int .i64 (S 12))) := by
  have HC := Lib.hid (row_new w (layArr wk cp pg st tr wt ck pr ca bi ba S) 28)
  have x23 := cell_more HC.out (More.refl _) (show (layArr wk cp pg st tr wt ck pr ca bi ba S)[23]? = some (.int .i64 (S 12)) from rfl)
  go_enter Tryz.func13, Tryz.ntmps13
  go_wp2_with fail
  go_ret
  exact ⟨rfl, (More.refl _).alloc _⟩

end Go.Proofs.YtogfikemodaepaaGreat
