/-
  Contracts of package layout's functions of two steps, over any layout whose parts' beginnings rise.
-/
import Derived.Test.YtahejbahnhohcaaDoorLayA
namespace Go.Proofs.YtahejbahnhohcaaDoor
open Go.RowKit
set_option linter.unusedVariables false
set_option linter.unusedSimpArgs false

variable (wk cp pg st tr wt ck pr ca bi ba : Int) (S : Nat → Int) (w : World)

def lheadV (S : Nat → Int) (c f : Int) : Int := if 0 ≤ c ∧ c ≤ 4 ∧ 1 ≤ f ∧ f ≤ slotsV c then partV (S 7) (S 8) (aheadV c + f - 1) else 0
def lcacheV (cp ca : Int) (S : Nat → Int) (u c : Int) : Int := if 0 ≤ u ∧ u < cp ∧ 0 ≤ c ∧ c ≤ 4 then partV (S 8) (S 9) ((u * 5 + c) * (ca + 1)) else 0
def lbinV (bi : Int) (S : Nat → Int) (c : Int) : Int := if 0 ≤ c ∧ c ≤ 4 then partV (S 9) (S 10) (c * (bi + 1)) else 0
def lliveV (S : Nat → Int) (a : Int) : Int := if S 11 ≤ a ∧ a < S 12 then partV (S 10) (S 11) (a - S 11) else 0
def laddrV (pg : Int) (S : Nat → Int) (p : Int) : Int := if 0 ≤ p ∧ p < pg then partV (S 11) (S 12) (p * 32) else 0
def llockV (st : Int) (S : Nat → Int) (a : Int) : Int := if 0 ≤ a ∧ a < S 12 then partV (S 0) (S 1) (a % st) else 0
theorem btw_true {n lo hi : Int} (h0 : lo ≤ n) (h1 : n ≤ hi) : btw n lo hi = true := by simp [btw, h0, h1]
theorem btw_false {n lo hi : Int} (h : ¬ (lo ≤ n ∧ n ≤ hi)) : btw n lo hi = false := by
  cases q : btw n lo hi with
  | false => rfl
  | true => simp [btw] at q; exact absurd q h

theorem lconfig : Calls Tryd.prog 43 #[.agg (layArr wk cp pg st tr wt ck pr ca bi ba S)] w (Gives w (.agg #[.int .i64 wk, .int .i64 cp, .int .i64 pg, .int .i64 st, .int .i64 tr, .int .i64 wt, .int .i64 ck, .int .i64 pr, .int .i64 ca, .int .i64 bi, .int .i64 ba])) := by
  have HC0 := Lib.hid (row_new w (layArr wk cp pg st tr wt ck pr ca bi ba S) 49)
  have HC : Hid (((w.alloc (.cells (layArr wk cp pg st tr wt ck pr ca bi ba S) 49)).alloc (.cells #[.int .i64 0, .int .i64 0, .int .i64 0, .int .i64 0, .int .i64 0, .int .i64 0, .int .i64 0, .int .i64 0, .int .i64 0, .int .i64 0, .int .i64 0] 23)).heap[w.heap.size]? = some (.cells (layArr wk cp pg st tr wt ck pr ca bi ba S) 49 (0, 0))) := ((More.refl _).alloc _).block HC0.out
  have x0 := cell_more HC.out (More.refl _) (show (layArr wk cp pg st tr wt ck pr ca bi ba S)[0]? = some (.int .i64 wk) from rfl)
  have x1 := cell_more HC.out (More.refl _) (show (layArr wk cp pg st tr wt ck pr ca bi ba S)[1]? = some (.int .i64 cp) from rfl)
  have x2 := cell_more HC.out (More.refl _) (show (layArr wk cp pg st tr wt ck pr ca bi ba S)[2]? = some (.int .i64 pg) from rfl)
  have x3 := cell_more HC.out (More.refl _) (show (layArr wk cp pg st tr wt ck pr ca bi ba S)[3]? = some (.int .i64 st) from rfl)
  have x4 := cell_more HC.out (More.refl _) (show (layArr wk cp pg st tr wt ck pr ca bi ba S)[4]? = some (.int .i64 tr) from rfl)
  have x5 := cell_more HC.out (More.refl _) (show (layArr wk cp pg st tr wt ck pr ca bi ba S)[5]? = some (.int .i64 wt) from rfl)
  have x6 := cell_more HC.out (More.refl _) (show (layArr wk cp pg st tr wt ck pr ca bi ba S)[6]? = some (.int .i64 ck) from rfl)
  have x7 := cell_more HC.out (More.refl _) (show (layArr wk cp pg st tr wt ck pr ca bi ba S)[7]? = some (.int .i64 pr) from rfl)
  have x8 := cell_more HC.out (More.refl _) (show (layArr wk cp pg st tr wt ck pr ca bi ba S)[8]? = some (.int .i64 ca) from rfl)
  have x9 := cell_more HC.out (More.refl _) (show (layArr wk cp pg st tr wt ck pr ca bi ba S)[9]? = some (.int .i64 bi) from rfl)
  have x10 := cell_more HC.out (More.refl _) (show (layArr wk cp pg st tr wt ck pr ca bi ba S)[10]? = some (.int .i64 ba) from rfl)
  go_enter Tryd.func43, Tryd.ntmps43
  go_wp2_with fail
  refine bodyPost_ret (v := .agg #[.int .i64 wk, .int .i64 cp, .int .i64 pg, .int .i64 st, .int .i64 tr, .int .i64 wt, .int .i64 ck, .int .i64 pr, .int .i64 ca, .int .i64 bi, .int .i64 ba]) (by simp [results, Tryd.results43, go_sem]) rfl ⟨rfl, ?_⟩
  exact ((More.refl _).alloc _).alloc _

theorem lplace_in (a : Int) (R : LayOk cp pg st ca bi S) (c0 : S 11 ≤ a) (c1 : a < S 12) :
    Calls Tryd.prog 29 #[.agg (layArr wk cp pg st tr wt ck pr ca bi ba S), .int .i64 a] w (Gives w (.tuple #[.int .i64 ((a - S 11) / 32), .int .i64 ((a - S 11) % 32), .bool true])) := by
  obtain ⟨r0, r1, r2, r3, r4, r5, r6, r7, r8, r9, r10, r11, r12, r13⟩ := R.all
  have HC := Lib.hid (row_new w (layArr wk cp pg st tr wt ck pr ca bi ba S) 49)
  have HM : Hid (More w (w.alloc (.cells (layArr wk cp pg st tr wt ck pr ca bi ba S) 49))) := (More.refl w).alloc _
  have HU := Lib.hid (fun W => luser wk cp pg st tr wt ck pr ca bi ba S W)
  have HWd := Lib.hid (fun W => lwords wk cp pg st tr wt ck pr ca bi ba S W)
  have d0 : decide (a < S 11) = false := by simp; omega
  have d1 : decide (S 12 ≤ a) = false := by simp; omega
  have q1 : IntKind.i64.wrap (a - S 11) = a - S 11 := wrap_in (by omega) (by omega)
  have q2 : IntKind.i64.wrap ((a - S 11).tdiv 32) = (a - S 11) / 32 := by rw [Int.tdiv_eq_ediv_of_nonneg (by omega)]; exact wrap_in (by omega) (by omega)
  have q3 : IntKind.i64.wrap ((a - S 11).tmod 32) = (a - S 11) % 32 := by rw [Int.tmod_eq_emod_of_nonneg (by omega)]; exact wrap_in (by omega) (by omega)
  have q4 : (a - S 11).tmod 32 = (a - S 11) % 32 := Int.tmod_eq_emod_of_nonneg (by omega)
  go_enter Tryd.func29, Tryd.ntmps29
  go_wp2_with (first | refine wpList_load_row rfl 49 _ rfl _ rfl 49 _ _ _ HC.out Tryd.underlying49 rfl (by kernel_rfl) ?_ | refine wpList_load_rowG rfl 49 _ rfl _ rfl 49 _ _ _ HC.out Tryd.underlying49 rfl (by kernel_rfl) ?_)
  refine (HU.out _).mono ?_
  rintro e w1 ⟨rfl, h1⟩
  have H1 := Lib.hid (HM.out.trans h1)
  have HC := Lib.hid (h1.block HC.out)
  clear h1
  go_wp2_with (first | refine wpList_load_row rfl 49 _ rfl _ rfl 49 _ _ _ HC.out Tryd.underlying49 rfl (by kernel_rfl) ?_ | refine wpList_load_rowG rfl 49 _ rfl _ rfl 49 _ _ _ HC.out Tryd.underlying49 rfl (by kernel_rfl) ?_)
  refine (HWd.out _).mono ?_
  rintro e w2 ⟨rfl, h2⟩
  have H2 := Lib.hid (H1.out.trans h2)
  have HC := Lib.hid (h2.block HC.out)
  clear h2
  go_wp2_with (first | refine wpList_load_row rfl 49 _ rfl _ rfl 49 _ _ _ HC.out Tryd.underlying49 rfl (by kernel_rfl) ?_ | refine wpList_load_rowG rfl 49 _ rfl _ rfl 49 _ _ _ HC.out Tryd.underlying49 rfl (by kernel_rfl) ?_)
  refine (HU.out _).mono ?_
  rintro e w3 ⟨rfl, h3⟩
  go_wp2_with fail
  go_ret3
  exact ⟨rfl, H2.out.trans h3⟩

theorem lplace_out (a : Int) (R : LayOk cp pg st ca bi S) (c : a < S 11 ∨ S 12 ≤ a) :
    Calls Tryd.prog 29 #[.agg (layArr wk cp pg st tr wt ck pr ca bi ba S), .int .i64 a] w (Gives w (.tuple #[.int .i64 0, .int .i64 0, .bool false])) := by
  obtain ⟨r0, r1, r2, r3, r4, r5, r6, r7, r8, r9, r10, r11, r12, r13⟩ := R.all
  have HC := Lib.hid (row_new w (layArr wk cp pg st tr wt ck pr ca bi ba S) 49)
  have HM : Hid (More w (w.alloc (.cells (layArr wk cp pg st tr wt ck pr ca bi ba S) 49))) := (More.refl w).alloc _
  have HU := Lib.hid (fun W => luser wk cp pg st tr wt ck pr ca bi ba S W)
  have HWd := Lib.hid (fun W => lwords wk cp pg st tr wt ck pr ca bi ba S W)
  by_cases c0 : a < S 11
  · have d0 : decide (a < S 11) = true := by simp; omega
    go_enter Tryd.func29, Tryd.ntmps29
    go_wp2_with (first | refine wpList_load_row rfl 49 _ rfl _ rfl 49 _ _ _ HC.out Tryd.underlying49 rfl (by kernel_rfl) ?_ | refine wpList_load_rowG rfl 49 _ rfl _ rfl 49 _ _ _ HC.out Tryd.underlying49 rfl (by kernel_rfl) ?_)
    refine (HU.out _).mono ?_
    rintro e w1 ⟨rfl, h1⟩
    go_wp2_with fail
    go_ret3
    exact ⟨rfl, HM.out.trans h1⟩
  · have d0 : decide (a < S 11) = false := by simp; omega
    have d1 : decide (S 12 ≤ a) = true := by simp; omega
    go_enter Tryd.func29, Tryd.ntmps29
    go_wp2_with (first | refine wpList_load_row rfl 49 _ rfl _ rfl 49 _ _ _ HC.out Tryd.underlying49 rfl (by kernel_rfl) ?_ | refine wpList_load_rowG rfl 49 _ rfl _ rfl 49 _ _ _ HC.out Tryd.underlying49 rfl (by kernel_rfl) ?_)
    refine (HU.out _).mono ?_
    rintro e w1 ⟨rfl, h1⟩
    have H1 := Lib.hid (HM.out.trans h1)
    have HC := Lib.hid (h1.block HC.out)
    clear h1
    go_wp2_with (first | refine wpList_load_row rfl 49 _ rfl _ rfl 49 _ _ _ HC.out Tryd.underlying49 rfl (by kernel_rfl) ?_ | refine wpList_load_rowG rfl 49 _ rfl _ rfl 49 _ _ _ HC.out Tryd.underlying49 rfl (by kernel_rfl) ?_)
    refine (HWd.out _).mono ?_
    rintro e w2 ⟨rfl, h2⟩
    go_wp2_with fail
    go_ret3
    exact ⟨rfl, H1.out.trans h2⟩

end Go.Proofs.YtahejbahnhohcaaDoor
