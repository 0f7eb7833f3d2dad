/-
  Contracts of package layout's functions of two steps, over any layout whose parts' beginnings rise.
-/
import Derived.Test.YtogfikemodaepaaGreatLayA
namespace Go.Proofs.YtogfikemodaepaaGreat
open Go.RowKit
set_option linter.unusedVariables false
set_option linter.unusedSimpArgs false

variable (wk cp pg st tr wt ck pr ca bi ba : Int) (S : Nat → Int) (w : World)

def lheadV (S : Nat → Int) (c f : Int) : Int := if 0 ≤ c ∧ c ≤ 4 ∧ 1 ≤ f ∧ f ≤ slotsV c then partV (S 7) (S 8) (aheadV c + f - 1) else 0
def lcacheV (cp ca : Int) (S : Nat → Int) (u c : Int) : Int := if 0 ≤ u ∧ u < cp ∧ 0 ≤ c ∧ c ≤ 4 then partV (S 8) (S 9) ((u * 5 + c) * (ca + 1)) else 0
def lbinV (bi : Int) (S : Nat → Int) (c : Int) : Int := if 0 ≤ c ∧ c ≤ 4 then partV (S 9) (S 10) (c * (bi + 1)) else 0
def lliveV (S : Nat → Int) (a : Int) : Int := if S 11 ≤ a ∧ a < S 12 then partV (S 10) (S 11) (a - S 11) else 0
def laddrV (pg : Int) (S : Nat → Int) (p : Int) : Int := if 0 ≤ p ∧ p < pg then partV (S 11) (S 12) (p * 32) else 0
def llockV (st : Int) (S : Nat → Int) (a : Int) : Int := if 0 ≤ a ∧ a < S 12 then partV (S 0) (S 1) (a % st) else 0
theorem btw_true {n lo hi : Int} (h0 : lo ≤ n) (h1 : n ≤ hi) : btw n lo hi = true := by simp [btw, h0, h1]
theorem btw_false {n lo hi : Int} (h : ¬ (lo ≤ n ∧ n ≤ hi)) : btw n lo hi = false := by
  cases q : btw n lo hi with
  | false => rfl
  | true => simp [btw] at q; exact absurd q h

theorem lChunks (R : LayOk cp pg st ca bi S) : Calls Tryz.prog 54 #[.agg (layArr wk cp pg st tr wt ck pr ca bi ba S)] w (Gives w (.int .i64 (chunksV pg))) := by
  have b0 := R.pg0
  have b1 := R.pg1
  have HC := Lib.hid (row_new w (layArr wk cp pg st tr wt ck pr ca bi ba S) 28)
  have x0 := cell_more HC.out (More.refl _) (show (layArr wk cp pg st tr wt ck pr ca bi ba S)[0]? = some (.int .i64 wk) from rfl)
  have x1 := cell_more HC.out (More.refl _) (show (layArr wk cp pg st tr wt ck pr ca bi ba S)[1]? = some (.int .i64 cp) from rfl)
  have x2 := cell_more HC.out (More.refl _) (show (layArr wk cp pg st tr wt ck pr ca bi ba S)[2]? = some (.int .i64 pg) from rfl)
  have x3 := cell_more HC.out (More.refl _) (show (layArr wk cp pg st tr wt ck pr ca bi ba S)[3]? = some (.int .i64 st) from rfl)
  have x4 := cell_more HC.out (More.refl _) (show (layArr wk cp pg st tr wt ck pr ca bi ba S)[4]? = some (.int .i64 tr) from rfl)
  have x5 := cell_more HC.out (More.refl _) (show (layArr wk cp pg st tr wt ck pr ca bi ba S)[5]? = some (.int .i64 wt) from rfl)
  have x6 := cell_more HC.out (More.refl _) (show (layArr wk cp pg st tr wt ck pr ca bi ba S)[6]? = some (.int .i64 ck) from rfl)
  have x7 := cell_more HC.out (More.refl _) (show (layArr wk cp pg st tr wt ck pr ca bi ba S)[7]? = some (.int .i64 pr) from rfl)
  have x8 := cell_more HC.out (More.refl _) (show (layArr wk cp pg st tr wt ck pr ca bi ba S)[8]? = some (.int .i64 ca) from rfl)
  have x9 := cell_more HC.out (More.refl _) (show (layArr wk cp pg st tr wt ck pr ca bi ba S)[9]? = some (.int .i64 bi) from rfl)
  have x10 := cell_more HC.out (More.refl _) (show (layArr wk cp pg st tr wt ck pr ca bi ba S)[10]? = some (.int .i64 ba) from rfl)
  go_enter Tryz.func54, Tryz.ntmps54
  go_wp2_with fail
  refine (lchunks wk cp pg st tr wt ck pr ca bi ba b0 b1 _).mono ?_
  rintro e w1 ⟨rfl, h1⟩
  go_wp2_with fail
  go_ret
  exact ⟨rfl, ((More.refl _).alloc _).trans h1⟩

theorem lconfig : Calls Tryz.prog 58 #[.agg (layArr wk cp pg st tr wt ck pr ca bi ba S)] w (Gives w (.agg #[.int .i64 wk, .int .i64 cp, .int .i64 pg, .int .i64 st, .int .i64 tr, .int .i64 wt, .int .i64 ck, .int .i64 pr, .int .i64 ca, .int .i64 bi, .int .i64 ba])) := by
  have HC0 := Lib.hid (row_new w (layArr wk cp pg st tr wt ck pr ca bi ba S) 28)
  have HC : Hid (((w.alloc (.cells (layArr wk cp pg st tr wt ck pr ca bi ba S) 28)).alloc (.cells #[.int .i64 0, .int .i64 0, .int .i64 0, .int .i64 0, .int .i64 0, .int .i64 0, .int .i64 0, .int .i64 0, .int .i64 0, .int .i64 0, .int .i64 0] 23)).heap[w.heap.size]? = some (.cells (layArr wk cp pg st tr wt ck pr ca bi ba S) 28 (0, 0))) := ((More.refl _).alloc _).block HC0.out
  have x0 := cell_more HC.out (More.refl _) (show (layArr wk cp pg st tr wt ck pr ca bi ba S)[0]? = some (.int .i64 wk) from rfl)
  have x1 := cell_more HC.out (More.refl _) (show (layArr wk cp pg st tr wt ck pr ca bi ba S)[1]? = some (.int .i64 cp) from rfl)
  have x2 := cell_more HC.out (More.refl _) (show (layArr wk cp pg st tr wt ck pr ca bi ba S)[2]? = some (.int .i64 pg) from rfl)
  have x3 := cell_more HC.out (More.refl _) (show (layArr wk cp pg st tr wt ck pr ca bi ba S)[3]? = some (.int .i64 st) from rfl)
  have x4 := cell_more HC.out (More.refl _) (show (layArr wk cp pg st tr wt ck pr ca bi ba S)[4]? = some (.int .i64 tr) from rfl)
  have x5 := cell_more HC.out (More.refl _) (show (layArr wk cp pg st tr wt ck pr ca bi ba S)[5]? = some (.int .i64 wt) from rfl)
  have x6 := cell_more HC.out (More.refl _) (show (layArr wk cp pg st tr wt ck pr ca bi ba S)[6]? = some (.int .i64 ck) from rfl)
  have x7 := cell_more HC.out (More.refl _) (show (layArr wk cp pg st tr wt ck pr ca bi ba S)[7]? = some (.int .i64 pr) from rfl)
  have x8 := cell_more HC.out (More.refl _) (show (layArr wk cp pg st tr wt ck pr ca bi ba S)[8]? = some (.int .i64 ca) from rfl)
  have x9 := cell_more HC.out (More.refl _) (show (layArr wk cp pg st tr wt ck pr ca bi ba S)[9]? = some (.int .i64 bi) from rfl)
  have x10 := cell_more HC.out (More.refl _) (show (layArr wk cp pg st tr wt ck pr ca bi ba S)[10]? = some (.int .i64 ba) from rfl)
  go_enter Tryz.func58, Tryz.ntmps58
  go_wp2_with fail
  refine bodyPost_ret (v := .agg #[.int .i64 wk, .int .i64 cp, .int .i64 pg, .int .i64 st, .int .i64 tr, .int .i64 wt, .int .i64 ck, .int .i64 pr, .int .i64 ca, .int .i64 bi, .int .i64 ba]) (by simp [results, Tryz.results58, go_sem]) rfl ⟨rfl, ?_⟩
  exact ((More.refl _).alloc _).alloc _

end Go.Proofs.YtogfikemodaepaaGreat
