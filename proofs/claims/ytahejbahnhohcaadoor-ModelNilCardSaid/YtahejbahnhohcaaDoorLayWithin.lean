/-
  The statements' helper for layout: a configuration that may be, of any one.
-/
import Derived.Test.YtahejbahnhohcaaDoorLayPlain
import Derived.Deep.RegionHeld3
namespace Go.Proofs.YtahejbahnhohcaaDoor
open Go.RowKit
set_option linter.unusedVariables false
set_option linter.unusedSimpArgs false

def withinV (n lo hi : Int) : Int := lo + (IntKind.u64.wrap n).tmod (hi - lo + 1)
theorem u64_nonneg (n : Int) : 0 ≤ IntKind.u64.wrap n := by
  simp only [IntKind.wrap]
  first | exact Int.emod_nonneg _ (by decide) | (simp; done) | omega
theorem rem_b (n lo hi : Int) (h : lo ≤ hi) : 0 ≤ (IntKind.u64.wrap n).tmod (hi - lo + 1) ∧ (IntKind.u64.wrap n).tmod (hi - lo + 1) ≤ hi - lo := by
  have h0 := u64_nonneg n
  rw [Int.tmod_eq_emod_of_nonneg h0]
  have m0 := Int.emod_nonneg (IntKind.u64.wrap n) (show hi - lo + 1 ≠ 0 by omega)
  have m1 := Int.emod_lt_of_pos (IntKind.u64.wrap n) (show 0 < hi - lo + 1 by omega)
  omega
theorem within_b (n lo hi : Int) (h : lo ≤ hi) : lo ≤ withinV n lo hi ∧ withinV n lo hi ≤ hi := by
  have := rem_b n lo hi h
  unfold withinV; omega

theorem within_any (n lo hi : Int) (w : World) (h0 : 0 ≤ lo) (h1 : lo ≤ hi) (h2 : hi ≤ 1099511627776) (hn : -9223372036854775808 ≤ n ∧ n ≤ 9223372036854775807) :
    Calls Tryd.prog 60 #[.int .i64 n, .int .i64 lo, .int .i64 hi] w fun e w' => e = .returned (.int .i64 (withinV n lo hi)) ∧ w' = w := by
  obtain ⟨hn0, hn1⟩ := hn
  obtain ⟨m0, m1⟩ := rem_b n lo hi h1
  go_enter Tryd.func60, Tryd.ntmps60
  go_wp2_with fail
  go_ret
  exact ⟨rfl, rfl⟩

variable (wk cp pg st tr wt ck pr ca bi ba : Int) (w : World)

theorem some_ok : CfgOk (withinV wk 1 64) (withinV cp 1 8) (withinV pg 1 256) (withinV st 1 64) (withinV tr 0 16) (withinV wt 0 64) (withinV ck 1 1099511627776) (withinV pr 1 8) (withinV ca 0 8) (withinV bi 0 16) (withinV ba 1 8) :=
  ⟨(within_b wk 1 64 (by omega)).1, (within_b wk 1 64 (by omega)).2, (within_b cp 1 8 (by omega)).1, (within_b cp 1 8 (by omega)).2, (within_b pg 1 256 (by omega)).1, (within_b pg 1 256 (by omega)).2, (within_b st 1 64 (by omega)).1, (within_b st 1 64 (by omega)).2, (within_b tr 0 16 (by omega)).1, (within_b tr 0 16 (by omega)).2, (within_b wt 0 64 (by omega)).1, (within_b wt 0 64 (by omega)).2, (within_b ck 1 1099511627776 (by omega)).1, (within_b ck 1 1099511627776 (by omega)).2, (within_b pr 1 8 (by omega)).1, (within_b pr 1 8 (by omega)).2, (within_b ca 0 8 (by omega)).1, (within_b ca 0 8 (by omega)).2, (within_b bi 0 16 (by omega)).1, (within_b bi 0 16 (by omega)).2, (within_b ba 1 8 (by omega)).1, (within_b ba 1 8 (by omega)).2⟩

set_option maxHeartbeats 4000000 in
theorem some_any (wk0 : -9223372036854775808 ≤ wk ∧ wk ≤ 9223372036854775807) (cp0 : -9223372036854775808 ≤ cp ∧ cp ≤ 9223372036854775807) (pg0 : -9223372036854775808 ≤ pg ∧ pg ≤ 9223372036854775807) (st0 : -9223372036854775808 ≤ st ∧ st ≤ 9223372036854775807) (tr0 : -9223372036854775808 ≤ tr ∧ tr ≤ 9223372036854775807) (wt0 : -9223372036854775808 ≤ wt ∧ wt ≤ 9223372036854775807) (ck0 : -9223372036854775808 ≤ ck ∧ ck ≤ 9223372036854775807) (pr0 : -9223372036854775808 ≤ pr ∧ pr ≤ 9223372036854775807) (ca0 : -9223372036854775808 ≤ ca ∧ ca ≤ 9223372036854775807) (bi0 : -9223372036854775808 ≤ bi ∧ bi ≤ 9223372036854775807) (ba0 : -9223372036854775808 ≤ ba ∧ ba ≤ 9223372036854775807) :
    Calls Tryd.prog 48 #[.agg #[.int .i64 wk, .int .i64 cp, .int .i64 pg, .int .i64 st, .int .i64 tr, .int .i64 wt, .int .i64 ck, .int .i64 pr, .int .i64 ca, .int .i64 bi, .int .i64 ba]] w (Gives w (.agg #[.int .i64 (withinV wk 1 64), .int .i64 (withinV cp 1 8), .int .i64 (withinV pg 1 256), .int .i64 (withinV st 1 64), .int .i64 (withinV tr 0 16), .int .i64 (withinV wt 0 64), .int .i64 (withinV ck 1 1099511627776), .int .i64 (withinV pr 1 8), .int .i64 (withinV ca 0 8), .int .i64 (withinV bi 0 16), .int .i64 (withinV ba 1 8)])) := by
  have HN := Lib.hid (cfgAt_new w 23 wk cp pg st tr wt ck pr ca bi ba)
  have Hwk := Lib.hid wk0; clear wk0
  have Hcp := Lib.hid cp0; clear cp0
  have Hpg := Lib.hid pg0; clear pg0
  have Hst := Lib.hid st0; clear st0
  have Htr := Lib.hid tr0; clear tr0
  have Hwt := Lib.hid wt0; clear wt0
  have Hck := Lib.hid ck0; clear ck0
  have Hpr := Lib.hid pr0; clear pr0
  have Hca := Lib.hid ca0; clear ca0
  have Hbi := Lib.hid bi0; clear bi0
  have Hba := Lib.hid ba0; clear ba0
  have HS : Hid (((w.alloc (.cells #[.int .i64 wk, .int .i64 cp, .int .i64 pg, .int .i64 st, .int .i64 tr, .int .i64 wt, .int .i64 ck, .int .i64 pr, .int .i64 ca, .int .i64 bi, .int .i64 ba] 23)).alloc (.cells #[.int .i64 0, .int .i64 0, .int .i64 0, .int .i64 0, .int .i64 0, .int .i64 0, .int .i64 0, .int .i64 0, .int .i64 0, .int .i64 0, .int .i64 0] 23)).drew.cell? ⟨w.heap.size, 0, none⟩ = some (.int .i64 wk) ∧ ((w.alloc (.cells #[.int .i64 wk, .int .i64 cp, .int .i64 pg, .int .i64 st, .int .i64 tr, .int .i64 wt, .int .i64 ck, .int .i64 pr, .int .i64 ca, .int .i64 bi, .int .i64 ba] 23)).alloc (.cells #[.int .i64 0, .int .i64 0, .int .i64 0, .int .i64 0, .int .i64 0, .int .i64 0, .int .i64 0, .int .i64 0, .int .i64 0, .int .i64 0, .int .i64 0] 23)).drew.cell? ⟨w.heap.size, 1, none⟩ = some (.int .i64 cp) ∧ ((w.alloc (.cells #[.int .i64 wk, .int .i64 cp, .int .i64 pg, .int .i64 st, .int .i64 tr, .int .i64 wt, .int .i64 ck, .int .i64 pr, .int .i64 ca, .int .i64 bi, .int .i64 ba] 23)).alloc (.cells #[.int .i64 0, .int .i64 0, .int .i64 0, .int .i64 0, .int .i64 0, .int .i64 0, .int .i64 0, .int .i64 0, .int .i64 0, .int .i64 0, .int .i64 0] 23)).drew.cell? ⟨w.heap.size, 2, none⟩ = some (.int .i64 pg) ∧ ((w.alloc (.cells #[.int .i64 wk, .int .i64 cp, .int .i64 pg, .int .i64 st, .int .i64 tr, .int .i64 wt, .int .i64 ck, .int .i64 pr, .int .i64 ca, .int .i64 bi, .int .i64 ba] 23)).alloc (.cells #[.int .i64 0, .int .i64 0, .int .i64 0, .int .i64 0, .int .i64 0, .int .i64 0, .int .i64 0, .int .i64 0, .int .i64 0, .int .i64 0, .int .i64 0] 23)).drew.cell? ⟨w.heap.size, 3, none⟩ = some (.int .i64 st) ∧ ((w.alloc (.cells #[.int .i64 wk, .int .i64 cp, .int .i64 pg, .int .i64 st, .int .i64 tr, .int .i64 wt, .int .i64 ck, .int .i64 pr, .int .i64 ca, .int .i64 bi, .int .i64 ba] 23)).alloc (.cells #[.int .i64 0, .int .i64 0, .int .i64 0, .int .i64 0, .int .i64 0, .int .i64 0, .int .i64 0, .int .i64 0, .int .i64 0, .int .i64 0, .int .i64 0] 23)).drew.cell? ⟨w.heap.size, 4, none⟩ = some (.int .i64 tr) ∧ ((w.alloc (.cells #[.int .i64 wk, .int .i64 cp, .int .i64 pg, .int .i64 st, .int .i64 tr, .int .i64 wt, .int .i64 ck, .int .i64 pr, .int .i64 ca, .int .i64 bi, .int .i64 ba] 23)).alloc (.cells #[.int .i64 0, .int .i64 0, .int .i64 0, .int .i64 0, .int .i64 0, .int .i64 0, .int .i64 0, .int .i64 0, .int .i64 0, .int .i64 0, .int .i64 0] 23)).drew.cell? ⟨w.heap.size, 5, none⟩ = some (.int .i64 wt) ∧ ((w.alloc (.cells #[.int .i64 wk, .int .i64 cp, .int .i64 pg, .int .i64 st, .int .i64 tr, .int .i64 wt, .int .i64 ck, .int .i64 pr, .int .i64 ca, .int .i64 bi, .int .i64 ba] 23)).alloc (.cells #[.int .i64 0, .int .i64 0, .int .i64 0, .int .i64 0, .int .i64 0, .int .i64 0, .int .i64 0, .int .i64 0, .int .i64 0, .int .i64 0, .int .i64 0] 23)).drew.cell? ⟨w.heap.size, 6, none⟩ = some (.int .i64 ck) ∧ ((w.alloc (.cells #[.int .i64 wk, .int .i64 cp, .int .i64 pg, .int .i64 st, .int .i64 tr, .int .i64 wt, .int .i64 ck, .int .i64 pr, .int .i64 ca, .int .i64 bi, .int .i64 ba] 23)).alloc (.cells #[.int .i64 0, .int .i64 0, .int .i64 0, .int .i64 0, .int .i64 0, .int .i64 0, .int .i64 0, .int .i64 0, .int .i64 0, .int .i64 0, .int .i64 0] 23)).drew.cell? ⟨w.heap.size, 7, none⟩ = some (.int .i64 pr) ∧ ((w.alloc (.cells #[.int .i64 wk, .int .i64 cp, .int .i64 pg, .int .i64 st, .int .i64 tr, .int .i64 wt, .int .i64 ck, .int .i64 pr, .int .i64 ca, .int .i64 bi, .int .i64 ba] 23)).alloc (.cells #[.int .i64 0, .int .i64 0, .int .i64 0, .int .i64 0, .int .i64 0, .int .i64 0, .int .i64 0, .int .i64 0, .int .i64 0, .int .i64 0, .int .i64 0] 23)).drew.cell? ⟨w.heap.size, 8, none⟩ = some (.int .i64 ca) ∧ ((w.alloc (.cells #[.int .i64 wk, .int .i64 cp, .int .i64 pg, .int .i64 st, .int .i64 tr, .int .i64 wt, .int .i64 ck, .int .i64 pr, .int .i64 ca, .int .i64 bi, .int .i64 ba] 23)).alloc (.cells #[.int .i64 0, .int .i64 0, .int .i64 0, .int .i64 0, .int .i64 0, .int .i64 0, .int .i64 0, .int .i64 0, .int .i64 0, .int .i64 0, .int .i64 0] 23)).drew.cell? ⟨w.heap.size, 9, none⟩ = some (.int .i64 bi) ∧ ((w.alloc (.cells #[.int .i64 wk, .int .i64 cp, .int .i64 pg, .int .i64 st, .int .i64 tr, .int .i64 wt, .int .i64 ck, .int .i64 pr, .int .i64 ca, .int .i64 bi, .int .i64 ba] 23)).alloc (.cells #[.int .i64 0, .int .i64 0, .int .i64 0, .int .i64 0, .int .i64 0, .int .i64 0, .int .i64 0, .int .i64 0, .int .i64 0, .int .i64 0, .int .i64 0] 23)).drew.cell? ⟨w.heap.size, 10, none⟩ = some (.int .i64 ba)) := HN.out.cells ((((More.refl _).alloc _)).drew)
  go_enter Tryd.func48, Tryd.ntmps48
  go_wp2_with fail
  go_region_held3 (fun w' => w'.cell? ⟨w.heap.size, 0, none⟩ = some (.int .i64 wk) ∧ w'.cell? ⟨w.heap.size, 1, none⟩ = some (.int .i64 cp) ∧ w'.cell? ⟨w.heap.size, 2, none⟩ = some (.int .i64 pg) ∧ w'.cell? ⟨w.heap.size, 3, none⟩ = some (.int .i64 st) ∧ w'.cell? ⟨w.heap.size, 4, none⟩ = some (.int .i64 tr) ∧ w'.cell? ⟨w.heap.size, 5, none⟩ = some (.int .i64 wt) ∧ w'.cell? ⟨w.heap.size, 6, none⟩ = some (.int .i64 ck) ∧ w'.cell? ⟨w.heap.size, 7, none⟩ = some (.int .i64 pr) ∧ w'.cell? ⟨w.heap.size, 8, none⟩ = some (.int .i64 ca) ∧ w'.cell? ⟨w.heap.size, 9, none⟩ = some (.int .i64 bi) ∧ w'.cell? ⟨w.heap.size, 10, none⟩ = some (.int .i64 ba))
    (first | exact HS.out | go_keep)
    (first | (go_at_call 60; refine (within_any _ _ _ _ (by omega) (by omega) (by omega) (by first | exact Hwk.out | exact Hcp.out | exact Hpg.out | exact Hst.out | exact Htr.out | exact Hwt.out | exact Hck.out | exact Hpr.out | exact Hca.out | exact Hbi.out | exact Hba.out)).mono ?_; rintro e w' ⟨rfl, rfl⟩))
  all_goals go_wp2_with fail
  all_goals refine bodyPost_ret (v := .agg #[.int .i64 (withinV wk 1 64), .int .i64 (withinV cp 1 8), .int .i64 (withinV pg 1 256), .int .i64 (withinV st 1 64), .int .i64 (withinV tr 0 16), .int .i64 (withinV wt 0 64), .int .i64 (withinV ck 1 1099511627776), .int .i64 (withinV pr 1 8), .int .i64 (withinV ca 0 8), .int .i64 (withinV bi 0 16), .int .i64 (withinV ba 1 8)]) (by simp [results, Tryd.results48, go_sem]) rfl ⟨rfl, ?_⟩
  all_goals first | exact (((More.refl _).alloc _).alloc _).drew | exact ((More.refl _).alloc _).alloc _

end Go.Proofs.YtahejbahnhohcaaDoor
