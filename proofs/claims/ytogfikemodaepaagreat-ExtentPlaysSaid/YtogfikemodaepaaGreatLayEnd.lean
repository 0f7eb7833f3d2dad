/-
  Contracts of the document's own answers for layout, at places that may be and that may not.
-/
import Derived.Test.YtogfikemodaepaaGreatLayRefA
import Derived.Test.YtogfikemodaepaaGreatLayPlain
import Derived.Deep.RegionHeld3
namespace Go.Proofs.YtogfikemodaepaaGreat
open Go.RowKit
set_option linter.unusedVariables false
set_option linter.unusedSimpArgs false

theorem rat_yes (x : Int) (w : World) : Calls Tryz.prog 103 #[.bool true, .int .i64 x] w (Gives w (.int .i64 x)) := by
  go_enter Tryz.func103, Tryz.ntmps103
  go_wp2
  go_ret
  exact ⟨rfl, More.refl _⟩
theorem rat_no (x : Int) (w : World) : Calls Tryz.prog 103 #[.bool false, .int .i64 x] w (Gives w (.int .i64 0)) := by
  go_enter Tryz.func103, Tryz.ntmps103
  go_wp2
  go_ret
  exact ⟨rfl, More.refl _⟩

variable (wk cp pg st tr wt ck pr ca bi ba : Int) (w : World)

set_option maxHeartbeats 1000000 in
theorem rtbl (k : Int) (R : CfgOk wk cp pg st tr wt ck pr ca bi ba) :
    Calls Tryz.prog 90 #[.agg #[.int .i64 wk, .int .i64 cp, .int .i64 pg, .int .i64 st, .int .i64 tr, .int .i64 wt, .int .i64 ck, .int .i64 pr, .int .i64 ca, .int .i64 bi, .int .i64 ba], .int .i64 k] w (Gives w (.int .i64 (tblV pg st k))) := by
  have HR := Lib.hid R
  have b1 := tableB R
  have b2 := chunksB R
  by_cases c0 : 0 ≤ k
  · skip
    by_cases c1 : k < chunksV pg
    · skip
      rw [show tblV pg st k = tableV st + k from if_pos (by omega)]
      have d0 : decide ((0 : Int) ≤ k) = true := by simp; omega
      have d1 : decide (k < chunksV pg) = true := by simp; omega
      have q0 : IntKind.i64.wrap (tableV st + k) = tableV st + k := wrap_in (by omega) (by omega)
      have HC := Lib.hid (cfgAt_new w 30 wk cp pg st tr wt ck pr ca bi ba)
      have HM : Hid (More w (w.alloc (.cells #[.int .i64 wk, .int .i64 cp, .int .i64 pg, .int .i64 st, .int .i64 tr, .int .i64 wt, .int .i64 ck, .int .i64 pr, .int .i64 ca, .int .i64 bi, .int .i64 ba] 30))) := (More.refl w).alloc _
      clear R
      go_enter Tryz.func90, Tryz.ntmps90
      go_wp2_with fail
      generalize w.alloc (.cells #[.int .i64 wk, .int .i64 cp, .int .i64 pg, .int .i64 st, .int .i64 tr, .int .i64 wt, .int .i64 ck, .int .i64 pr, .int .i64 ca, .int .i64 bi, .int .i64 ba] 30) = W0 at *
      have hne : ∃ W, More W0 W := ⟨W0, More.refl _⟩
      refine wp_region_more (by kernel_rfl) (by kernel_rfl) ?_
      iterate 14
        with_reducible refine wpQuiet_step (fun K hK => ?_)
        go_simp
        first
        | (refine hK _ ?_; clear hK K)
        | (apply Exists.intro
           refine ⟨fun W hW => ?_, hK _ ?_⟩
           first
           | (go_at_call 63; exact Calls.more hW (rchunks _ _ _ _ _ _ _ _ _ _ _ _ HR.out))
           | (go_at_call 104; exact Calls.more hW (rtable _ _ _ _ _ _ _ _ _ _ _ _ HR.out))
           | (go_at_call 103; exact Calls.more hW (rat_yes _ _))
           | (obtain ⟨e0, e1, e2, e3, e4, e5, e6, e7, e8, e9, e10⟩ := HC.out.cells hW; go_simp; try rfl)
           clear hK K)
      refine wpQuiet_nil ?_
      intro W hW
      have HW := Lib.hid hW
      clear hW
      go_wp2_with fail
      go_ret
      exact ⟨rfl, HM.out.trans HW.out⟩
    · rw [show tblV pg st k = 0 from if_neg (by omega)]
      have d0 : decide ((0 : Int) ≤ k) = true := by simp; omega
      have d1 : decide (k < chunksV pg) = false := by simp; omega
      have HC := Lib.hid (cfgAt_new w 30 wk cp pg st tr wt ck pr ca bi ba)
      have HM : Hid (More w (w.alloc (.cells #[.int .i64 wk, .int .i64 cp, .int .i64 pg, .int .i64 st, .int .i64 tr, .int .i64 wt, .int .i64 ck, .int .i64 pr, .int .i64 ca, .int .i64 bi, .int .i64 ba] 30))) := (More.refl w).alloc _
      clear R
      go_enter Tryz.func90, Tryz.ntmps90
      go_wp2_with fail
      generalize w.alloc (.cells #[.int .i64 wk, .int .i64 cp, .int .i64 pg, .int .i64 st, .int .i64 tr, .int .i64 wt, .int .i64 ck, .int .i64 pr, .int .i64 ca, .int .i64 bi, .int .i64 ba] 30) = W0 at *
      have hne : ∃ W, More W0 W := ⟨W0, More.refl _⟩
      refine wp_region_more (by kernel_rfl) (by kernel_rfl) ?_
      iterate 14
        with_reducible refine wpQuiet_step (fun K hK => ?_)
        go_simp
        first
        | (refine hK _ ?_; clear hK K)
        | (apply Exists.intro
           refine ⟨fun W hW => ?_, hK _ ?_⟩
           first
           | (go_at_call 63; exact Calls.more hW (rchunks _ _ _ _ _ _ _ _ _ _ _ _ HR.out))
           | (go_at_call 104; exact Calls.more hW (rtable _ _ _ _ _ _ _ _ _ _ _ _ HR.out))
           | (go_at_call 103; exact Calls.more hW (rat_no _ _))
           | (obtain ⟨e0, e1, e2, e3, e4, e5, e6, e7, e8, e9, e10⟩ := HC.out.cells hW; go_simp; try rfl)
           clear hK K)
      refine wpQuiet_nil ?_
      intro W hW
      have HW := Lib.hid hW
      clear hW
      go_wp2_with fail
      go_ret
      exact ⟨rfl, HM.out.trans HW.out⟩
  · rw [show tblV pg st k = 0 from if_neg (by omega)]
    have d0 : decide ((0 : Int) ≤ k) = false := by simp; omega
    have HC := Lib.hid (cfgAt_new w 30 wk cp pg st tr wt ck pr ca bi ba)
    have HM : Hid (More w (w.alloc (.cells #[.int .i64 wk, .int .i64 cp, .int .i64 pg, .int .i64 st, .int .i64 tr, .int .i64 wt, .int .i64 ck, .int .i64 pr, .int .i64 ca, .int .i64 bi, .int .i64 ba] 30))) := (More.refl w).alloc _
    clear R
    go_enter Tryz.func90, Tryz.ntmps90
    go_wp2_with fail
    generalize w.alloc (.cells #[.int .i64 wk, .int .i64 cp, .int .i64 pg, .int .i64 st, .int .i64 tr, .int .i64 wt, .int .i64 ck, .int .i64 pr, .int .i64 ca, .int .i64 bi, .int .i64 ba] 30) = W0 at *
    have hne : ∃ W, More W0 W := ⟨W0, More.refl _⟩
    refine wp_region_more (by kernel_rfl) (by kernel_rfl) ?_
    iterate 14
      with_reducible refine wpQuiet_step (fun K hK => ?_)
      go_simp
      first
      | (refine hK _ ?_; clear hK K)
      | (apply Exists.intro
         refine ⟨fun W hW => ?_, hK _ ?_⟩
         first
         | (go_at_call 63; exact Calls.more hW (rchunks _ _ _ _ _ _ _ _ _ _ _ _ HR.out))
         | (go_at_call 104; exact Calls.more hW (rtable _ _ _ _ _ _ _ _ _ _ _ _ HR.out))
         | (go_at_call 103; exact Calls.more hW (rat_no _ _))
         | (obtain ⟨e0, e1, e2, e3, e4, e5, e6, e7, e8, e9, e10⟩ := HC.out.cells hW; go_simp; try rfl)
         clear hK K)
    refine wpQuiet_nil ?_
    intro W hW
    have HW := Lib.hid hW
    clear hW
    go_wp2_with fail
    go_ret
    exact ⟨rfl, HM.out.trans HW.out⟩

set_option maxHeartbeats 1000000 in
theorem rpage (n p : Int) (R : CfgOk wk cp pg st tr wt ck pr ca bi ba) (hn : 0 ≤ n ∧ n ≤ 4) :
    Calls Tryz.prog 91 #[.agg #[.int .i64 wk, .int .i64 cp, .int .i64 pg, .int .i64 st, .int .i64 tr, .int .i64 wt, .int .i64 ck, .int .i64 pr, .int .i64 ca, .int .i64 bi, .int .i64 ba], .int .i64 n, .int .i64 p] w (Gives w (.int .i64 (pageV pg st n p))) := by
  have HR := Lib.hid R
  have b1 := tableB R
  have b2 := chunksB R
  have b3 := R.pg1
  have b4 := R.pg2
  have b5 := mulB hn.1 hn.2 (show (0 : Int) ≤ pg by omega) b4
  by_cases c0 : 0 ≤ p
  · skip
    by_cases c1 : p < pg
    · skip
      rw [show pageV pg st n p = tableV st + chunksV pg + n * pg + p from if_pos (by omega)]
      have d0 : decide ((0 : Int) ≤ p) = true := by simp; omega
      have d1 : decide (p < pg) = true := by simp; omega
      have q0 : IntKind.i64.wrap (tableV st + chunksV pg) = tableV st + chunksV pg := wrap_in (by omega) (by omega)
      have q1 : IntKind.i64.wrap (n * pg) = n * pg := wrap_in (by omega) (by omega)
      have q2 : IntKind.i64.wrap (tableV st + chunksV pg + n * pg) = tableV st + chunksV pg + n * pg := wrap_in (by omega) (by omega)
      have q3 : IntKind.i64.wrap (tableV st + chunksV pg + n * pg + p) = tableV st + chunksV pg + n * pg + p := wrap_in (by omega) (by omega)
      have HC := Lib.hid (cfgAt_new w 30 wk cp pg st tr wt ck pr ca bi ba)
      have HM : Hid (More w (w.alloc (.cells #[.int .i64 wk, .int .i64 cp, .int .i64 pg, .int .i64 st, .int .i64 tr, .int .i64 wt, .int .i64 ck, .int .i64 pr, .int .i64 ca, .int .i64 bi, .int .i64 ba] 30))) := (More.refl w).alloc _
      clear R
      go_enter Tryz.func91, Tryz.ntmps91
      go_wp2_with fail
      generalize w.alloc (.cells #[.int .i64 wk, .int .i64 cp, .int .i64 pg, .int .i64 st, .int .i64 tr, .int .i64 wt, .int .i64 ck, .int .i64 pr, .int .i64 ca, .int .i64 bi, .int .i64 ba] 30) = W0 at *
      have hne : ∃ W, More W0 W := ⟨W0, More.refl _⟩
      refine wp_region_more (by kernel_rfl) (by kernel_rfl) ?_
      iterate 24
        with_reducible refine wpQuiet_step (fun K hK => ?_)
        go_simp
        first
        | (refine hK _ ?_; clear hK K)
        | (apply Exists.intro
           refine ⟨fun W hW => ?_, hK _ ?_⟩
           first
           | (go_at_call 104; exact Calls.more hW (rtable _ _ _ _ _ _ _ _ _ _ _ _ HR.out))
           | (go_at_call 63; exact Calls.more hW (rchunks _ _ _ _ _ _ _ _ _ _ _ _ HR.out))
           | (go_at_call 103; exact Calls.more hW (rat_yes _ _))
           | (obtain ⟨e0, e1, e2, e3, e4, e5, e6, e7, e8, e9, e10⟩ := HC.out.cells hW; go_simp; try rfl)
           clear hK K)
      refine wpQuiet_nil ?_
      intro W hW
      have HW := Lib.hid hW
      clear hW
      go_wp2_with fail
      go_ret
      exact ⟨rfl, HM.out.trans HW.out⟩
    · rw [show pageV pg st n p = 0 from if_neg (by omega)]
      have d0 : decide ((0 : Int) ≤ p) = true := by simp; omega
      have d1 : decide (p < pg) = false := by simp; omega
      have HC := Lib.hid (cfgAt_new w 30 wk cp pg st tr wt ck pr ca bi ba)
      have HM : Hid (More w (w.alloc (.cells #[.int .i64 wk, .int .i64 cp, .int .i64 pg, .int .i64 st, .int .i64 tr, .int .i64 wt, .int .i64 ck, .int .i64 pr, .int .i64 ca, .int .i64 bi, .int .i64 ba] 30))) := (More.refl w).alloc _
      clear R
      go_enter Tryz.func91, Tryz.ntmps91
      go_wp2_with fail
      generalize w.alloc (.cells #[.int .i64 wk, .int .i64 cp, .int .i64 pg, .int .i64 st, .int .i64 tr, .int .i64 wt, .int .i64 ck, .int .i64 pr, .int .i64 ca, .int .i64 bi, .int .i64 ba] 30) = W0 at *
      have hne : ∃ W, More W0 W := ⟨W0, More.refl _⟩
      refine wp_region_more (by kernel_rfl) (by kernel_rfl) ?_
      iterate 24
        with_reducible refine wpQuiet_step (fun K hK => ?_)
        go_simp
        first
        | (refine hK _ ?_; clear hK K)
        | (apply Exists.intro
           refine ⟨fun W hW => ?_, hK _ ?_⟩
           first
           | (go_at_call 104; exact Calls.more hW (rtable _ _ _ _ _ _ _ _ _ _ _ _ HR.out))
           | (go_at_call 63; exact Calls.more hW (rchunks _ _ _ _ _ _ _ _ _ _ _ _ HR.out))
           | (go_at_call 103; exact Calls.more hW (rat_no _ _))
           | (obtain ⟨e0, e1, e2, e3, e4, e5, e6, e7, e8, e9, e10⟩ := HC.out.cells hW; go_simp; try rfl)
           clear hK K)
      refine wpQuiet_nil ?_
      intro W hW
      have HW := Lib.hid hW
      clear hW
      go_wp2_with fail
      go_ret
      exact ⟨rfl, HM.out.trans HW.out⟩
  · rw [show pageV pg st n p = 0 from if_neg (by omega)]
    have d0 : decide ((0 : Int) ≤ p) = false := by simp; omega
    have HC := Lib.hid (cfgAt_new w 30 wk cp pg st tr wt ck pr ca bi ba)
    have HM : Hid (More w (w.alloc (.cells #[.int .i64 wk, .int .i64 cp, .int .i64 pg, .int .i64 st, .int .i64 tr, .int .i64 wt, .int .i64 ck, .int .i64 pr, .int .i64 ca, .int .i64 bi, .int .i64 ba] 30))) := (More.refl w).alloc _
    clear R
    go_enter Tryz.func91, Tryz.ntmps91
    go_wp2_with fail
    generalize w.alloc (.cells #[.int .i64 wk, .int .i64 cp, .int .i64 pg, .int .i64 st, .int .i64 tr, .int .i64 wt, .int .i64 ck, .int .i64 pr, .int .i64 ca, .int .i64 bi, .int .i64 ba] 30) = W0 at *
    have hne : ∃ W, More W0 W := ⟨W0, More.refl _⟩
    refine wp_region_more (by kernel_rfl) (by kernel_rfl) ?_
    iterate 24
      with_reducible refine wpQuiet_step (fun K hK => ?_)
      go_simp
      first
      | (refine hK _ ?_; clear hK K)
      | (apply Exists.intro
         refine ⟨fun W hW => ?_, hK _ ?_⟩
         first
         | (go_at_call 104; exact Calls.more hW (rtable _ _ _ _ _ _ _ _ _ _ _ _ HR.out))
         | (go_at_call 63; exact Calls.more hW (rchunks _ _ _ _ _ _ _ _ _ _ _ _ HR.out))
         | (go_at_call 103; exact Calls.more hW (rat_no _ _))
         | (obtain ⟨e0, e1, e2, e3, e4, e5, e6, e7, e8, e9, e10⟩ := HC.out.cells hW; go_simp; try rfl)
         clear hK K)
    refine wpQuiet_nil ?_
    intro W hW
    have HW := Lib.hid hW
    clear hW
    go_wp2_with fail
    go_ret
    exact ⟨rfl, HM.out.trans HW.out⟩

theorem rkind (p : Int) (R : CfgOk wk cp pg st tr wt ck pr ca bi ba) :
    Calls Tryz.prog 66 #[.agg #[.int .i64 wk, .int .i64 cp, .int .i64 pg, .int .i64 st, .int .i64 tr, .int .i64 wt, .int .i64 ck, .int .i64 pr, .int .i64 ca, .int .i64 bi, .int .i64 ba], .int .i64 p] w (Gives w (.int .i64 (pageV pg st 0 p))) := by
  have HR := Lib.hid R
  have e := (cfgAt_new w 30 wk cp pg st tr wt ck pr ca bi ba).cells (More.refl _)
  clear R
  go_enter Tryz.func66, Tryz.ntmps66
  go_wp2_with fail
  refine (rpage _ _ _ _ _ _ _ _ _ _ _ _ 0 p HR.out (by omega)).mono ?_
  rintro e w1 ⟨rfl, h1⟩
  go_wp2_with fail
  go_ret
  exact ⟨rfl, ((More.refl _).alloc _).trans h1⟩

theorem rcount (p : Int) (R : CfgOk wk cp pg st tr wt ck pr ca bi ba) :
    Calls Tryz.prog 87 #[.agg #[.int .i64 wk, .int .i64 cp, .int .i64 pg, .int .i64 st, .int .i64 tr, .int .i64 wt, .int .i64 ck, .int .i64 pr, .int .i64 ca, .int .i64 bi, .int .i64 ba], .int .i64 p] w (Gives w (.int .i64 (pageV pg st 1 p))) := by
  have HR := Lib.hid R
  have e := (cfgAt_new w 30 wk cp pg st tr wt ck pr ca bi ba).cells (More.refl _)
  clear R
  go_enter Tryz.func87, Tryz.ntmps87
  go_wp2_with fail
  refine (rpage _ _ _ _ _ _ _ _ _ _ _ _ 1 p HR.out (by omega)).mono ?_
  rintro e w1 ⟨rfl, h1⟩
  go_wp2_with fail
  go_ret
  exact ⟨rfl, ((More.refl _).alloc _).trans h1⟩

theorem rbits (p : Int) (R : CfgOk wk cp pg st tr wt ck pr ca bi ba) :
    Calls Tryz.prog 88 #[.agg #[.int .i64 wk, .int .i64 cp, .int .i64 pg, .int .i64 st, .int .i64 tr, .int .i64 wt, .int .i64 ck, .int .i64 pr, .int .i64 ca, .int .i64 bi, .int .i64 ba], .int .i64 p] w (Gives w (.int .i64 (pageV pg st 2 p))) := by
  have HR := Lib.hid R
  have e := (cfgAt_new w 30 wk cp pg st tr wt ck pr ca bi ba).cells (More.refl _)
  clear R
  go_enter Tryz.func88, Tryz.ntmps88
  go_wp2_with fail
  refine (rpage _ _ _ _ _ _ _ _ _ _ _ _ 2 p HR.out (by omega)).mono ?_
  rintro e w1 ⟨rfl, h1⟩
  go_wp2_with fail
  go_ret
  exact ⟨rfl, ((More.refl _).alloc _).trans h1⟩

end Go.Proofs.YtogfikemodaepaaGreat

namespace Go.Proofs.YtogfikemodaepaaGreat
open Go.RowKit
set_option linter.unusedVariables false
set_option linter.unusedSimpArgs false

def withinV (n lo hi : Int) : Int := lo + (IntKind.u64.wrap n).tmod (hi - lo + 1)
theorem u64_nonneg (n : Int) : 0 ≤ IntKind.u64.wrap n := by
  simp only [IntKind.wrap]
  first | exact Int.emod_nonneg _ (by decide) | (simp; done) | omega
theorem rem_b (n lo hi : Int) (h : lo ≤ hi) : 0 ≤ (IntKind.u64.wrap n).tmod (hi - lo + 1) ∧ (IntKind.u64.wrap n).tmod (hi - lo + 1) ≤ hi - lo := by
  have h0 := u64_nonneg n
  rw [Int.tmod_eq_emod_of_nonneg h0]
  have m0 := Int.emod_nonneg (IntKind.u64.wrap n) (show hi - lo + 1 ≠ 0 by omega)
  have m1 := Int.emod_lt_of_pos (IntKind.u64.wrap n) (show 0 < hi - lo + 1 by omega)
  omega
theorem within_b (n lo hi : Int) (h : lo ≤ hi) : lo ≤ withinV n lo hi ∧ withinV n lo hi ≤ hi := by
  have := rem_b n lo hi h
  unfold withinV; omega

theorem within_any (n lo hi : Int) (w : World) (h0 : 0 ≤ lo) (h1 : lo ≤ hi) (h2 : hi ≤ 1099511627776) (hn : -9223372036854775808 ≤ n ∧ n ≤ 9223372036854775807) :
    Calls Tryz.prog 67 #[.int .i64 n, .int .i64 lo, .int .i64 hi] w fun e w' => e = .returned (.int .i64 (withinV n lo hi)) ∧ w' = w := by
  obtain ⟨hn0, hn1⟩ := hn
  obtain ⟨m0, m1⟩ := rem_b n lo hi h1
  go_enter Tryz.func67, Tryz.ntmps67
  go_wp2_with fail
  go_ret
  exact ⟨rfl, rfl⟩

variable (wk cp pg st tr wt ck pr ca bi ba : Int) (w : World)

theorem some_ok : CfgOk (withinV wk 1 64) (withinV cp 1 8) (withinV pg 1 256) (withinV st 1 64) (withinV tr 0 16) (withinV wt 0 64) (withinV ck 1 1099511627776) (withinV pr 1 8) (withinV ca 0 8) (withinV bi 0 16) (withinV ba 1 8) :=
  ⟨(within_b wk 1 64 (by omega)).1, (within_b wk 1 64 (by omega)).2, (within_b cp 1 8 (by omega)).1, (within_b cp 1 8 (by omega)).2, (within_b pg 1 256 (by omega)).1, (within_b pg 1 256 (by omega)).2, (within_b st 1 64 (by omega)).1, (within_b st 1 64 (by omega)).2, (within_b tr 0 16 (by omega)).1, (within_b tr 0 16 (by omega)).2, (within_b wt 0 64 (by omega)).1, (within_b wt 0 64 (by omega)).2, (within_b ck 1 1099511627776 (by omega)).1, (within_b ck 1 1099511627776 (by omega)).2, (within_b pr 1 8 (by omega)).1, (within_b pr 1 8 (by omega)).2, (within_b ca 0 8 (by omega)).1, (within_b ca 0 8 (by omega)).2, (within_b bi 0 16 (by omega)).1, (within_b bi 0 16 (by omega)).2, (within_b ba 1 8 (by omega)).1, (within_b ba 1 8 (by omega)).2⟩

set_option maxHeartbeats 4000000 in
theorem some_any (wk0 : -9223372036854775808 ≤ wk ∧ wk ≤ 9223372036854775807) (cp0 : -9223372036854775808 ≤ cp ∧ cp ≤ 9223372036854775807) (pg0 : -9223372036854775808 ≤ pg ∧ pg ≤ 9223372036854775807) (st0 : -9223372036854775808 ≤ st ∧ st ≤ 9223372036854775807) (tr0 : -9223372036854775808 ≤ tr ∧ tr ≤ 9223372036854775807) (wt0 : -9223372036854775808 ≤ wt ∧ wt ≤ 9223372036854775807) (ck0 : -9223372036854775808 ≤ ck ∧ ck ≤ 9223372036854775807) (pr0 : -9223372036854775808 ≤ pr ∧ pr ≤ 9223372036854775807) (ca0 : -9223372036854775808 ≤ ca ∧ ca ≤ 9223372036854775807) (bi0 : -9223372036854775808 ≤ bi ∧ bi ≤ 9223372036854775807) (ba0 : -9223372036854775808 ≤ ba ∧ ba ≤ 9223372036854775807) :
    Calls Tryz.prog 35 #[.agg #[.int .i64 wk, .int .i64 cp, .int .i64 pg, .int .i64 st, .int .i64 tr, .int .i64 wt, .int .i64 ck, .int .i64 pr, .int .i64 ca, .int .i64 bi, .int .i64 ba]] w (Gives w (.agg #[.int .i64 (withinV wk 1 64), .int .i64 (withinV cp 1 8), .int .i64 (withinV pg 1 256), .int .i64 (withinV st 1 64), .int .i64 (withinV tr 0 16), .int .i64 (withinV wt 0 64), .int .i64 (withinV ck 1 1099511627776), .int .i64 (withinV pr 1 8), .int .i64 (withinV ca 0 8), .int .i64 (withinV bi 0 16), .int .i64 (withinV ba 1 8)])) := by
  have HN := Lib.hid (cfgAt_new w 23 wk cp pg st tr wt ck pr ca bi ba)
  have Hwk := Lib.hid wk0; clear wk0
  have Hcp := Lib.hid cp0; clear cp0
  have Hpg := Lib.hid pg0; clear pg0
  have Hst := Lib.hid st0; clear st0
  have Htr := Lib.hid tr0; clear tr0
  have Hwt := Lib.hid wt0; clear wt0
  have Hck := Lib.hid ck0; clear ck0
  have Hpr := Lib.hid pr0; clear pr0
  have Hca := Lib.hid ca0; clear ca0
  have Hbi := Lib.hid bi0; clear bi0
  have Hba := Lib.hid ba0; clear ba0
  have HS : Hid (((w.alloc (.cells #[.int .i64 wk, .int .i64 cp, .int .i64 pg, .int .i64 st, .int .i64 tr, .int .i64 wt, .int .i64 ck, .int .i64 pr, .int .i64 ca, .int .i64 bi, .int .i64 ba] 23)).alloc (.cells #[.int .i64 0, .int .i64 0, .int .i64 0, .int .i64 0, .int .i64 0, .int .i64 0, .int .i64 0, .int .i64 0, .int .i64 0, .int .i64 0, .int .i64 0] 23)).drew.cell? ⟨w.heap.size, 0, none⟩ = some (.int .i64 wk) ∧ ((w.alloc (.cells #[.int .i64 wk, .int .i64 cp, .int .i64 pg, .int .i64 st, .int .i64 tr, .int .i64 wt, .int .i64 ck, .int .i64 pr, .int .i64 ca, .int .i64 bi, .int .i64 ba] 23)).alloc (.cells #[.int .i64 0, .int .i64 0, .int .i64 0, .int .i64 0, .int .i64 0, .int .i64 0, .int .i64 0, .int .i64 0, .int .i64 0, .int .i64 0, .int .i64 0] 23)).drew.cell? ⟨w.heap.size, 1, none⟩ = some (.int .i64 cp) ∧ ((w.alloc (.cells #[.int .i64 wk, .int .i64 cp, .int .i64 pg, .int .i64 st, .int .i64 tr, .int .i64 wt, .int .i64 ck, .int .i64 pr, .int .i64 ca, .int .i64 bi, .int .i64 ba] 23)).alloc (.cells #[.int .i64 0, .int .i64 0, .int .i64 0, .int .i64 0, .int .i64 0, .int .i64 0, .int .i64 0, .int .i64 0, .int .i64 0, .int .i64 0, .int .i64 0] 23)).drew.cell? ⟨w.heap.size, 2, none⟩ = some (.int .i64 pg) ∧ ((w.alloc (.cells #[.int .i64 wk, .int .i64 cp, .int .i64 pg, .int .i64 st, .int .i64 tr, .int .i64 wt, .int .i64 ck, .int .i64 pr, .int .i64 ca, .int .i64 bi, .int .i64 ba] 23)).alloc (.cells #[.int .i64 0, .int .i64 0, .int .i64 0, .int .i64 0, .int .i64 0, .int .i64 0, .int .i64 0, .int .i64 0, .int .i64 0, .int .i64 0, .int .i64 0] 23)).drew.cell? ⟨w.heap.size, 3, none⟩ = some (.int .i64 st) ∧ ((w.alloc (.cells #[.int .i64 wk, .int .i64 cp, .int .i64 pg, .int .i64 st, .int .i64 tr, .int .i64 wt, .int .i64 ck, .int .i64 pr, .int .i64 ca, .int .i64 bi, .int .i64 ba] 23)).alloc (.cells #[.int .i64 0, .int .i64 0, .int .i64 0, .int .i64 0, .int .i64 0, .int .i64 0, .int .i64 0, .int .i64 0, .int .i64 0, .int .i64 0, .int .i64 0] 23)).drew.cell? ⟨w.heap.size, 4, none⟩ = some (.int .i64 tr) ∧ ((w.alloc (.cells #[.int .i64 wk, .int .i64 cp, .int .i64 pg, .int .i64 st, .int .i64 tr, .int .i64 wt, .int .i64 ck, .int .i64 pr, .int .i64 ca, .int .i64 bi, .int .i64 ba] 23)).alloc (.cells #[.int .i64 0, .int .i64 0, .int .i64 0, .int .i64 0, .int .i64 0, .int .i64 0, .int .i64 0, .int .i64 0, .int .i64 0, .int .i64 0, .int .i64 0] 23)).drew.cell? ⟨w.heap.size, 5, none⟩ = some (.int .i64 wt) ∧ ((w.alloc (.cells #[.int .i64 wk, .int .i64 cp, .int .i64 pg, .int .i64 st, .int .i64 tr, .int .i64 wt, .int .i64 ck, .int .i64 pr, .int .i64 ca, .int .i64 bi, .int .i64 ba] 23)).alloc (.cells #[.int .i64 0, .int .i64 0, .int .i64 0, .int .i64 0, .int .i64 0, .int .i64 0, .int .i64 0, .int .i64 0, .int .i64 0, .int .i64 0, .int .i64 0] 23)).drew.cell? ⟨w.heap.size, 6, none⟩ = some (.int .i64 ck) ∧ ((w.alloc (.cells #[.int .i64 wk, .int .i64 cp, .int .i64 pg, .int .i64 st, .int .i64 tr, .int .i64 wt, .int .i64 ck, .int .i64 pr, .int .i64 ca, .int .i64 bi, .int .i64 ba] 23)).alloc (.cells #[.int .i64 0, .int .i64 0, .int .i64 0, .int .i64 0, .int .i64 0, .int .i64 0, .int .i64 0, .int .i64 0, .int .i64 0, .int .i64 0, .int .i64 0] 23)).drew.cell? ⟨w.heap.size, 7, none⟩ = some (.int .i64 pr) ∧ ((w.alloc (.cells #[.int .i64 wk, .int .i64 cp, .int .i64 pg, .int .i64 st, .int .i64 tr, .int .i64 wt, .int .i64 ck, .int .i64 pr, .int .i64 ca, .int .i64 bi, .int .i64 ba] 23)).alloc (.cells #[.int .i64 0, .int .i64 0, .int .i64 0, .int .i64 0, .int .i64 0, .int .i64 0, .int .i64 0, .int .i64 0, .int .i64 0, .int .i64 0, .int .i64 0] 23)).drew.cell? ⟨w.heap.size, 8, none⟩ = some (.int .i64 ca) ∧ ((w.alloc (.cells #[.int .i64 wk, .int .i64 cp, .int .i64 pg, .int .i64 st, .int .i64 tr, .int .i64 wt, .int .i64 ck, .int .i64 pr, .int .i64 ca, .int .i64 bi, .int .i64 ba] 23)).alloc (.cells #[.int .i64 0, .int .i64 0, .int .i64 0, .int .i64 0, .int .i64 0, .int .i64 0, .int .i64 0, .int .i64 0, .int .i64 0, .int .i64 0, .int .i64 0] 23)).drew.cell? ⟨w.heap.size, 9, none⟩ = some (.int .i64 bi) ∧ ((w.alloc (.cells #[.int .i64 wk, .int .i64 cp, .int .i64 pg, .int .i64 st, .int .i64 tr, .int .i64 wt, .int .i64 ck, .int .i64 pr, .int .i64 ca, .int .i64 bi, .int .i64 ba] 23)).alloc (.cells #[.int .i64 0, .int .i64 0, .int .i64 0, .int .i64 0, .int .i64 0, .int .i64 0, .int .i64 0, .int .i64 0, .int .i64 0, .int .i64 0, .int .i64 0] 23)).drew.cell? ⟨w.heap.size, 10, none⟩ = some (.int .i64 ba)) := HN.out.cells ((((More.refl _).alloc _)).drew)
  go_enter Tryz.func35, Tryz.ntmps35
  go_wp2_with fail
  go_region_held3 (fun w' => w'.cell? ⟨w.heap.size, 0, none⟩ = some (.int .i64 wk) ∧ w'.cell? ⟨w.heap.size, 1, none⟩ = some (.int .i64 cp) ∧ w'.cell? ⟨w.heap.size, 2, none⟩ = some (.int .i64 pg) ∧ w'.cell? ⟨w.heap.size, 3, none⟩ = some (.int .i64 st) ∧ w'.cell? ⟨w.heap.size, 4, none⟩ = some (.int .i64 tr) ∧ w'.cell? ⟨w.heap.size, 5, none⟩ = some (.int .i64 wt) ∧ w'.cell? ⟨w.heap.size, 6, none⟩ = some (.int .i64 ck) ∧ w'.cell? ⟨w.heap.size, 7, none⟩ = some (.int .i64 pr) ∧ w'.cell? ⟨w.heap.size, 8, none⟩ = some (.int .i64 ca) ∧ w'.cell? ⟨w.heap.size, 9, none⟩ = some (.int .i64 bi) ∧ w'.cell? ⟨w.heap.size, 10, none⟩ = some (.int .i64 ba))
    (first | exact HS.out | go_keep)
    (first | (go_at_call 67; refine (within_any _ _ _ _ (by omega) (by omega) (by omega) (by first | exact Hwk.out | exact Hcp.out | exact Hpg.out | exact Hst.out | exact Htr.out | exact Hwt.out | exact Hck.out | exact Hpr.out | exact Hca.out | exact Hbi.out | exact Hba.out)).mono ?_; rintro e w' ⟨rfl, rfl⟩))
  all_goals go_wp2_with fail
  all_goals refine bodyPost_ret (v := .agg #[.int .i64 (withinV wk 1 64), .int .i64 (withinV cp 1 8), .int .i64 (withinV pg 1 256), .int .i64 (withinV st 1 64), .int .i64 (withinV tr 0 16), .int .i64 (withinV wt 0 64), .int .i64 (withinV ck 1 1099511627776), .int .i64 (withinV pr 1 8), .int .i64 (withinV ca 0 8), .int .i64 (withinV bi 0 16), .int .i64 (withinV ba 1 8)]) (by simp [results, Tryz.results35, go_sem]) rfl ⟨rfl, ?_⟩
  all_goals first | exact (((More.refl _).alloc _).alloc _).drew | exact ((More.refl _).alloc _).alloc _

end Go.Proofs.YtogfikemodaepaaGreat

namespace Go.Proofs.YtogfikemodaepaaGreat
open Go.RowKit

theorem wf_lo {x : Int} (h : (Lit.int .i64 x).wf = true) : -9223372036854775808 ≤ x := by
  simp only [Lit.wf, Bool.and_eq_true, decide_eq_true_eq] at h
  have e : IntKind.i64.min = -9223372036854775808 := by decide
  omega
theorem wf_hi {x : Int} (h : (Lit.int .i64 x).wf = true) : x ≤ 9223372036854775807 := by
  simp only [Lit.wf, Bool.and_eq_true, decide_eq_true_eq] at h
  have e : IntKind.i64.max = 9223372036854775807 := by decide
  omega
/-- Whatever Some is given, it gives a configuration that may be. -/
theorem some_gives (y0 y1 y2 y3 y4 y5 y6 y7 y8 y9 y10 : Int) (f0 : (Lit.int .i64 y0).wf = true) (f1 : (Lit.int .i64 y1).wf = true) (f2 : (Lit.int .i64 y2).wf = true) (f3 : (Lit.int .i64 y3).wf = true) (f4 : (Lit.int .i64 y4).wf = true) (f5 : (Lit.int .i64 y5).wf = true) (f6 : (Lit.int .i64 y6).wf = true) (f7 : (Lit.int .i64 y7).wf = true) (f8 : (Lit.int .i64 y8).wf = true) (f9 : (Lit.int .i64 y9).wf = true) (f10 : (Lit.int .i64 y10).wf = true) :
    ∃ wk cp pg st tr wt ck pr ca bi ba, CfgOk wk cp pg st tr wt ck pr ca bi ba ∧ Hid (∀ W, Calls Tryz.prog 35 #[.agg #[.int .i64 y0, .int .i64 y1, .int .i64 y2, .int .i64 y3, .int .i64 y4, .int .i64 y5, .int .i64 y6, .int .i64 y7, .int .i64 y8, .int .i64 y9, .int .i64 y10]] W (Gives W (.agg #[.int .i64 wk, .int .i64 cp, .int .i64 pg, .int .i64 st, .int .i64 tr, .int .i64 wt, .int .i64 ck, .int .i64 pr, .int .i64 ca, .int .i64 bi, .int .i64 ba]))) :=
  ⟨(withinV y0 1 64), (withinV y1 1 8), (withinV y2 1 256), (withinV y3 1 64), (withinV y4 0 16), (withinV y5 0 64), (withinV y6 1 1099511627776), (withinV y7 1 8), (withinV y8 0 8), (withinV y9 0 16), (withinV y10 1 8), some_ok y0 y1 y2 y3 y4 y5 y6 y7 y8 y9 y10, fun W => some_any y0 y1 y2 y3 y4 y5 y6 y7 y8 y9 y10 W ⟨wf_lo f0, wf_hi f0⟩ ⟨wf_lo f1, wf_hi f1⟩ ⟨wf_lo f2, wf_hi f2⟩ ⟨wf_lo f3, wf_hi f3⟩ ⟨wf_lo f4, wf_hi f4⟩ ⟨wf_lo f5, wf_hi f5⟩ ⟨wf_lo f6, wf_hi f6⟩ ⟨wf_lo f7, wf_hi f7⟩ ⟨wf_lo f8, wf_hi f8⟩ ⟨wf_lo f9, wf_hi f9⟩ ⟨wf_lo f10, wf_hi f10⟩⟩

end Go.Proofs.YtogfikemodaepaaGreat

