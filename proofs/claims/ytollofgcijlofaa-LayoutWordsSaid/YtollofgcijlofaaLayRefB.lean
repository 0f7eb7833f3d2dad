/-
  Contracts of the document's own answers for layout, at places that may be and that may not.
-/
import Derived.Test.YtollofgcijlofaaLayRefA
namespace Go.Proofs.Ytollofgcijlofaa
open Go.RowKit
set_option linter.unusedVariables false
set_option linter.unusedSimpArgs false

theorem rat_yes (x : Int) (w : World) : Calls Try.prog 54 #[.bool true, .int .i64 x] w (Gives w (.int .i64 x)) := by
  go_enter Try.func54, Try.ntmps54
  go_wp2
  go_ret
  exact ⟨rfl, More.refl _⟩
theorem rat_no (x : Int) (w : World) : Calls Try.prog 54 #[.bool false, .int .i64 x] w (Gives w (.int .i64 0)) := by
  go_enter Try.func54, Try.ntmps54
  go_wp2
  go_ret
  exact ⟨rfl, More.refl _⟩

variable (wk cp pg st tr wt ck pr ca bi ba : Int) (w : World)

set_option maxHeartbeats 1000000 in
theorem rtbl (k : Int) (R : CfgOk wk cp pg st tr wt ck pr ca bi ba) :
    Calls Try.prog 18 #[.agg #[.int .i64 wk, .int .i64 cp, .int .i64 pg, .int .i64 st, .int .i64 tr, .int .i64 wt, .int .i64 ck, .int .i64 pr, .int .i64 ca, .int .i64 bi, .int .i64 ba], .int .i64 k] w (Gives w (.int .i64 (tblV pg st k))) := by
  have HR := Lib.hid R
  have b1 := tableB R
  have b2 := chunksB R
  by_cases c0 : 0 ≤ k
  · skip
    by_cases c1 : k < chunksV pg
    · skip
      rw [show tblV pg st k = tableV st + k from if_pos (by omega)]
      have d0 : decide ((0 : Int) ≤ k) = true := by simp; omega
      have d1 : decide (k < chunksV pg) = true := by simp; omega
      have q0 : IntKind.i64.wrap (tableV st + k) = tableV st + k := wrap_in (by omega) (by omega)
      have HC := Lib.hid (cfgAt_new w 37 wk cp pg st tr wt ck pr ca bi ba)
      have HM : Hid (More w (w.alloc (.cells #[.int .i64 wk, .int .i64 cp, .int .i64 pg, .int .i64 st, .int .i64 tr, .int .i64 wt, .int .i64 ck, .int .i64 pr, .int .i64 ca, .int .i64 bi, .int .i64 ba] 37))) := (More.refl w).alloc _
      clear R
      go_enter Try.func18, Try.ntmps18
      go_wp2_with fail
      generalize w.alloc (.cells #[.int .i64 wk, .int .i64 cp, .int .i64 pg, .int .i64 st, .int .i64 tr, .int .i64 wt, .int .i64 ck, .int .i64 pr, .int .i64 ca, .int .i64 bi, .int .i64 ba] 37) = W0 at *
      have hne : ∃ W, More W0 W := ⟨W0, More.refl _⟩
      refine wp_region_more (by kernel_rfl) (by kernel_rfl) ?_
      iterate 14
        with_reducible refine wpQuiet_step (fun K hK => ?_)
        go_simp
        first
        | (refine hK _ ?_; clear hK K)
        | (apply Exists.intro
           refine ⟨fun W hW => ?_, hK _ ?_⟩
           first
           | (go_at_call 16; exact Calls.more hW (rchunks _ _ _ _ _ _ _ _ _ _ _ _ HR.out))
           | (go_at_call 55; exact Calls.more hW (rtable _ _ _ _ _ _ _ _ _ _ _ _ HR.out))
           | (go_at_call 54; exact Calls.more hW (rat_yes _ _))
           | (obtain ⟨e0, e1, e2, e3, e4, e5, e6, e7, e8, e9, e10⟩ := HC.out.cells hW; go_simp; try rfl)
           clear hK K)
      refine wpQuiet_nil ?_
      intro W hW
      have HW := Lib.hid hW
      clear hW
      go_wp2_with fail
      go_ret
      exact ⟨rfl, HM.out.trans HW.out⟩
    · rw [show tblV pg st k = 0 from if_neg (by omega)]
      have d0 : decide ((0 : Int) ≤ k) = true := by simp; omega
      have d1 : decide (k < chunksV pg) = false := by simp; omega
      have HC := Lib.hid (cfgAt_new w 37 wk cp pg st tr wt ck pr ca bi ba)
      have HM : Hid (More w (w.alloc (.cells #[.int .i64 wk, .int .i64 cp, .int .i64 pg, .int .i64 st, .int .i64 tr, .int .i64 wt, .int .i64 ck, .int .i64 pr, .int .i64 ca, .int .i64 bi, .int .i64 ba] 37))) := (More.refl w).alloc _
      clear R
      go_enter Try.func18, Try.ntmps18
      go_wp2_with fail
      generalize w.alloc (.cells #[.int .i64 wk, .int .i64 cp, .int .i64 pg, .int .i64 st, .int .i64 tr, .int .i64 wt, .int .i64 ck, .int .i64 pr, .int .i64 ca, .int .i64 bi, .int .i64 ba] 37) = W0 at *
      have hne : ∃ W, More W0 W := ⟨W0, More.refl _⟩
      refine wp_region_more (by kernel_rfl) (by kernel_rfl) ?_
      iterate 14
        with_reducible refine wpQuiet_step (fun K hK => ?_)
        go_simp
        first
        | (refine hK _ ?_; clear hK K)
        | (apply Exists.intro
           refine ⟨fun W hW => ?_, hK _ ?_⟩
           first
           | (go_at_call 16; exact Calls.more hW (rchunks _ _ _ _ _ _ _ _ _ _ _ _ HR.out))
           | (go_at_call 55; exact Calls.more hW (rtable _ _ _ _ _ _ _ _ _ _ _ _ HR.out))
           | (go_at_call 54; exact Calls.more hW (rat_no _ _))
           | (obtain ⟨e0, e1, e2, e3, e4, e5, e6, e7, e8, e9, e10⟩ := HC.out.cells hW; go_simp; try rfl)
           clear hK K)
      refine wpQuiet_nil ?_
      intro W hW
      have HW := Lib.hid hW
      clear hW
      go_wp2_with fail
      go_ret
      exact ⟨rfl, HM.out.trans HW.out⟩
  · rw [show tblV pg st k = 0 from if_neg (by omega)]
    have d0 : decide ((0 : Int) ≤ k) = false := by simp; omega
    have HC := Lib.hid (cfgAt_new w 37 wk cp pg st tr wt ck pr ca bi ba)
    have HM : Hid (More w (w.alloc (.cells #[.int .i64 wk, .int .i64 cp, .int .i64 pg, .int .i64 st, .int .i64 tr, .int .i64 wt, .int .i64 ck, .int .i64 pr, .int .i64 ca, .int .i64 bi, .int .i64 ba] 37))) := (More.refl w).alloc _
    clear R
    go_enter Try.func18, Try.ntmps18
    go_wp2_with fail
    generalize w.alloc (.cells #[.int .i64 wk, .int .i64 cp, .int .i64 pg, .int .i64 st, .int .i64 tr, .int .i64 wt, .int .i64 ck, .int .i64 pr, .int .i64 ca, .int .i64 bi, .int .i64 ba] 37) = W0 at *
    have hne : ∃ W, More W0 W := ⟨W0, More.refl _⟩
    refine wp_region_more (by kernel_rfl) (by kernel_rfl) ?_
    iterate 14
      with_reducible refine wpQuiet_step (fun K hK => ?_)
      go_simp
      first
      | (refine hK _ ?_; clear hK K)
      | (apply Exists.intro
         refine ⟨fun W hW => ?_, hK _ ?_⟩
         first
         | (go_at_call 16; exact Calls.more hW (rchunks _ _ _ _ _ _ _ _ _ _ _ _ HR.out))
         | (go_at_call 55; exact Calls.more hW (rtable _ _ _ _ _ _ _ _ _ _ _ _ HR.out))
         | (go_at_call 54; exact Calls.more hW (rat_no _ _))
         | (obtain ⟨e0, e1, e2, e3, e4, e5, e6, e7, e8, e9, e10⟩ := HC.out.cells hW; go_simp; try rfl)
         clear hK K)
    refine wpQuiet_nil ?_
    intro W hW
    have HW := Lib.hid hW
    clear hW
    go_wp2_with fail
    go_ret
    exact ⟨rfl, HM.out.trans HW.out⟩

set_option maxHeartbeats 1000000 in
theorem raddr (p : Int) (R : CfgOk wk cp pg st tr wt ck pr ca bi ba) :
    Calls Try.prog 32 #[.agg #[.int .i64 wk, .int .i64 cp, .int .i64 pg, .int .i64 st, .int .i64 tr, .int .i64 wt, .int .i64 ck, .int .i64 pr, .int .i64 ca, .int .i64 bi, .int .i64 ba], .int .i64 p] w (Gives w (.int .i64 (addrV cp pg st ca bi p))) := by
  have HR := Lib.hid R
  have b1 := userB R
  have b2 := R.pg1
  have b3 := R.pg2
  by_cases c0 : 0 ≤ p
  · skip
    by_cases c1 : p < pg
    · skip
      rw [show addrV cp pg st ca bi p = userV cp pg st ca bi + 32 * p from if_pos (by omega)]
      have d0 : decide ((0 : Int) ≤ p) = true := by simp; omega
      have d1 : decide (p < pg) = true := by simp; omega
      have q0 : IntKind.i64.wrap (32 * p) = 32 * p := wrap_in (by omega) (by omega)
      have q1 : IntKind.i64.wrap (userV cp pg st ca bi + 32 * p) = userV cp pg st ca bi + 32 * p := wrap_in (by omega) (by omega)
      have HC := Lib.hid (cfgAt_new w 37 wk cp pg st tr wt ck pr ca bi ba)
      have HM : Hid (More w (w.alloc (.cells #[.int .i64 wk, .int .i64 cp, .int .i64 pg, .int .i64 st, .int .i64 tr, .int .i64 wt, .int .i64 ck, .int .i64 pr, .int .i64 ca, .int .i64 bi, .int .i64 ba] 37))) := (More.refl w).alloc _
      clear R
      go_enter Try.func32, Try.ntmps32
      go_wp2_with fail
      generalize w.alloc (.cells #[.int .i64 wk, .int .i64 cp, .int .i64 pg, .int .i64 st, .int .i64 tr, .int .i64 wt, .int .i64 ck, .int .i64 pr, .int .i64 ca, .int .i64 bi, .int .i64 ba] 37) = W0 at *
      have hne : ∃ W, More W0 W := ⟨W0, More.refl _⟩
      refine wp_region_more (by kernel_rfl) (by kernel_rfl) ?_
      iterate 16
        with_reducible refine wpQuiet_step (fun K hK => ?_)
        go_simp
        first
        | (refine hK _ ?_; clear hK K)
        | (apply Exists.intro
           refine ⟨fun W hW => ?_, hK _ ?_⟩
           first
           | (go_at_call 37; exact Calls.more hW (ruser _ _ _ _ _ _ _ _ _ _ _ _ HR.out))
           | (go_at_call 54; exact Calls.more hW (rat_yes _ _))
           | (obtain ⟨e0, e1, e2, e3, e4, e5, e6, e7, e8, e9, e10⟩ := HC.out.cells hW; go_simp; try rfl)
           clear hK K)
      refine wpQuiet_nil ?_
      intro W hW
      have HW := Lib.hid hW
      clear hW
      go_wp2_with fail
      go_ret
      exact ⟨rfl, HM.out.trans HW.out⟩
    · rw [show addrV cp pg st ca bi p = 0 from if_neg (by omega)]
      have d0 : decide ((0 : Int) ≤ p) = true := by simp; omega
      have d1 : decide (p < pg) = false := by simp; omega
      have HC := Lib.hid (cfgAt_new w 37 wk cp pg st tr wt ck pr ca bi ba)
      have HM : Hid (More w (w.alloc (.cells #[.int .i64 wk, .int .i64 cp, .int .i64 pg, .int .i64 st, .int .i64 tr, .int .i64 wt, .int .i64 ck, .int .i64 pr, .int .i64 ca, .int .i64 bi, .int .i64 ba] 37))) := (More.refl w).alloc _
      clear R
      go_enter Try.func32, Try.ntmps32
      go_wp2_with fail
      generalize w.alloc (.cells #[.int .i64 wk, .int .i64 cp, .int .i64 pg, .int .i64 st, .int .i64 tr, .int .i64 wt, .int .i64 ck, .int .i64 pr, .int .i64 ca, .int .i64 bi, .int .i64 ba] 37) = W0 at *
      have hne : ∃ W, More W0 W := ⟨W0, More.refl _⟩
      refine wp_region_more (by kernel_rfl) (by kernel_rfl) ?_
      iterate 16
        with_reducible refine wpQuiet_step (fun K hK => ?_)
        go_simp
        first
        | (refine hK _ ?_; clear hK K)
        | (apply Exists.intro
           refine ⟨fun W hW => ?_, hK _ ?_⟩
           first
           | (go_at_call 37; exact Calls.more hW (ruser _ _ _ _ _ _ _ _ _ _ _ _ HR.out))
           | (go_at_call 54; exact Calls.more hW (rat_no _ _))
           | (obtain ⟨e0, e1, e2, e3, e4, e5, e6, e7, e8, e9, e10⟩ := HC.out.cells hW; go_simp; try rfl)
           clear hK K)
      refine wpQuiet_nil ?_
      intro W hW
      have HW := Lib.hid hW
      clear hW
      go_wp2_with fail
      go_ret
      exact ⟨rfl, HM.out.trans HW.out⟩
  · rw [show addrV cp pg st ca bi p = 0 from if_neg (by omega)]
    have d0 : decide ((0 : Int) ≤ p) = false := by simp; omega
    have HC := Lib.hid (cfgAt_new w 37 wk cp pg st tr wt ck pr ca bi ba)
    have HM : Hid (More w (w.alloc (.cells #[.int .i64 wk, .int .i64 cp, .int .i64 pg, .int .i64 st, .int .i64 tr, .int .i64 wt, .int .i64 ck, .int .i64 pr, .int .i64 ca, .int .i64 bi, .int .i64 ba] 37))) := (More.refl w).alloc _
    clear R
    go_enter Try.func32, Try.ntmps32
    go_wp2_with fail
    generalize w.alloc (.cells #[.int .i64 wk, .int .i64 cp, .int .i64 pg, .int .i64 st, .int .i64 tr, .int .i64 wt, .int .i64 ck, .int .i64 pr, .int .i64 ca, .int .i64 bi, .int .i64 ba] 37) = W0 at *
    have hne : ∃ W, More W0 W := ⟨W0, More.refl _⟩
    refine wp_region_more (by kernel_rfl) (by kernel_rfl) ?_
    iterate 16
      with_reducible refine wpQuiet_step (fun K hK => ?_)
      go_simp
      first
      | (refine hK _ ?_; clear hK K)
      | (apply Exists.intro
         refine ⟨fun W hW => ?_, hK _ ?_⟩
         first
         | (go_at_call 37; exact Calls.more hW (ruser _ _ _ _ _ _ _ _ _ _ _ _ HR.out))
         | (go_at_call 54; exact Calls.more hW (rat_no _ _))
         | (obtain ⟨e0, e1, e2, e3, e4, e5, e6, e7, e8, e9, e10⟩ := HC.out.cells hW; go_simp; try rfl)
         clear hK K)
    refine wpQuiet_nil ?_
    intro W hW
    have HW := Lib.hid hW
    clear hW
    go_wp2_with fail
    go_ret
    exact ⟨rfl, HM.out.trans HW.out⟩

set_option maxHeartbeats 1000000 in
theorem rpage (n p : Int) (R : CfgOk wk cp pg st tr wt ck pr ca bi ba) (hn : 0 ≤ n ∧ n ≤ 4) :
    Calls Try.prog 61 #[.agg #[.int .i64 wk, .int .i64 cp, .int .i64 pg, .int .i64 st, .int .i64 tr, .int .i64 wt, .int .i64 ck, .int .i64 pr, .int .i64 ca, .int .i64 bi, .int .i64 ba], .int .i64 n, .int .i64 p] w (Gives w (.int .i64 (pageV pg st n p))) := by
  have HR := Lib.hid R
  have b1 := tableB R
  have b2 := chunksB R
  have b3 := R.pg1
  have b4 := R.pg2
  have b5 := mulB hn.1 hn.2 (show (0 : Int) ≤ pg by omega) b4
  by_cases c0 : 0 ≤ p
  · skip
    by_cases c1 : p < pg
    · skip
      rw [show pageV pg st n p = tableV st + chunksV pg + n * pg + p from if_pos (by omega)]
      have d0 : decide ((0 : Int) ≤ p) = true := by simp; omega
      have d1 : decide (p < pg) = true := by simp; omega
      have q0 : IntKind.i64.wrap (tableV st + chunksV pg) = tableV st + chunksV pg := wrap_in (by omega) (by omega)
      have q1 : IntKind.i64.wrap (n * pg) = n * pg := wrap_in (by omega) (by omega)
      have q2 : IntKind.i64.wrap (tableV st + chunksV pg + n * pg) = tableV st + chunksV pg + n * pg := wrap_in (by omega) (by omega)
      have q3 : IntKind.i64.wrap (tableV st + chunksV pg + n * pg + p) = tableV st + chunksV pg + n * pg + p := wrap_in (by omega) (by omega)
      have HC := Lib.hid (cfgAt_new w 37 wk cp pg st tr wt ck pr ca bi ba)
      have HM : Hid (More w (w.alloc (.cells #[.int .i64 wk, .int .i64 cp, .int .i64 pg, .int .i64 st, .int .i64 tr, .int .i64 wt, .int .i64 ck, .int .i64 pr, .int .i64 ca, .int .i64 bi, .int .i64 ba] 37))) := (More.refl w).alloc _
      clear R
      go_enter Try.func61, Try.ntmps61
      go_wp2_with fail
      generalize w.alloc (.cells #[.int .i64 wk, .int .i64 cp, .int .i64 pg, .int .i64 st, .int .i64 tr, .int .i64 wt, .int .i64 ck, .int .i64 pr, .int .i64 ca, .int .i64 bi, .int .i64 ba] 37) = W0 at *
      have hne : ∃ W, More W0 W := ⟨W0, More.refl _⟩
      refine wp_region_more (by kernel_rfl) (by kernel_rfl) ?_
      iterate 24
        with_reducible refine wpQuiet_step (fun K hK => ?_)
        go_simp
        first
        | (refine hK _ ?_; clear hK K)
        | (apply Exists.intro
           refine ⟨fun W hW => ?_, hK _ ?_⟩
           first
           | (go_at_call 55; exact Calls.more hW (rtable _ _ _ _ _ _ _ _ _ _ _ _ HR.out))
           | (go_at_call 16; exact Calls.more hW (rchunks _ _ _ _ _ _ _ _ _ _ _ _ HR.out))
           | (go_at_call 54; exact Calls.more hW (rat_yes _ _))
           | (obtain ⟨e0, e1, e2, e3, e4, e5, e6, e7, e8, e9, e10⟩ := HC.out.cells hW; go_simp; try rfl)
           clear hK K)
      refine wpQuiet_nil ?_
      intro W hW
      have HW := Lib.hid hW
      clear hW
      go_wp2_with fail
      go_ret
      exact ⟨rfl, HM.out.trans HW.out⟩
    · rw [show pageV pg st n p = 0 from if_neg (by omega)]
      have d0 : decide ((0 : Int) ≤ p) = true := by simp; omega
      have d1 : decide (p < pg) = false := by simp; omega
      have HC := Lib.hid (cfgAt_new w 37 wk cp pg st tr wt ck pr ca bi ba)
      have HM : Hid (More w (w.alloc (.cells #[.int .i64 wk, .int .i64 cp, .int .i64 pg, .int .i64 st, .int .i64 tr, .int .i64 wt, .int .i64 ck, .int .i64 pr, .int .i64 ca, .int .i64 bi, .int .i64 ba] 37))) := (More.refl w).alloc _
      clear R
      go_enter Try.func61, Try.ntmps61
      go_wp2_with fail
      generalize w.alloc (.cells #[.int .i64 wk, .int .i64 cp, .int .i64 pg, .int .i64 st, .int .i64 tr, .int .i64 wt, .int .i64 ck, .int .i64 pr, .int .i64 ca, .int .i64 bi, .int .i64 ba] 37) = W0 at *
      have hne : ∃ W, More W0 W := ⟨W0, More.refl _⟩
      refine wp_region_more (by kernel_rfl) (by kernel_rfl) ?_
      iterate 24
        with_reducible refine wpQuiet_step (fun K hK => ?_)
        go_simp
        first
        | (refine hK _ ?_; clear hK K)
        | (apply Exists.intro
           refine ⟨fun W hW => ?_, hK _ ?_⟩
           first
           | (go_at_call 55; exact Calls.more hW (rtable _ _ _ _ _ _ _ _ _ _ _ _ HR.out))
           | (go_at_call 16; exact Calls.more hW (rchunks _ _ _ _ _ _ _ _ _ _ _ _ HR.out))
           | (go_at_call 54; exact Calls.more hW (rat_no _ _))
           | (obtain ⟨e0, e1, e2, e3, e4, e5, e6, e7, e8, e9, e10⟩ := HC.out.cells hW; go_simp; try rfl)
           clear hK K)
      refine wpQuiet_nil ?_
      intro W hW
      have HW := Lib.hid hW
      clear hW
      go_wp2_with fail
      go_ret
      exact ⟨rfl, HM.out.trans HW.out⟩
  · rw [show pageV pg st n p = 0 from if_neg (by omega)]
    have d0 : decide ((0 : Int) ≤ p) = false := by simp; omega
    have HC := Lib.hid (cfgAt_new w 37 wk cp pg st tr wt ck pr ca bi ba)
    have HM : Hid (More w (w.alloc (.cells #[.int .i64 wk, .int .i64 cp, .int .i64 pg, .int .i64 st, .int .i64 tr, .int .i64 wt, .int .i64 ck, .int .i64 pr, .int .i64 ca, .int .i64 bi, .int .i64 ba] 37))) := (More.refl w).alloc _
    clear R
    go_enter Try.func61, Try.ntmps61
    go_wp2_with fail
    generalize w.alloc (.cells #[.int .i64 wk, .int .i64 cp, .int .i64 pg, .int .i64 st, .int .i64 tr, .int .i64 wt, .int .i64 ck, .int .i64 pr, .int .i64 ca, .int .i64 bi, .int .i64 ba] 37) = W0 at *
    have hne : ∃ W, More W0 W := ⟨W0, More.refl _⟩
    refine wp_region_more (by kernel_rfl) (by kernel_rfl) ?_
    iterate 24
      with_reducible refine wpQuiet_step (fun K hK => ?_)
      go_simp
      first
      | (refine hK _ ?_; clear hK K)
      | (apply Exists.intro
         refine ⟨fun W hW => ?_, hK _ ?_⟩
         first
         | (go_at_call 55; exact Calls.more hW (rtable _ _ _ _ _ _ _ _ _ _ _ _ HR.out))
         | (go_at_call 16; exact Calls.more hW (rchunks _ _ _ _ _ _ _ _ _ _ _ _ HR.out))
         | (go_at_call 54; exact Calls.more hW (rat_no _ _))
         | (obtain ⟨e0, e1, e2, e3, e4, e5, e6, e7, e8, e9, e10⟩ := HC.out.cells hW; go_simp; try rfl)
         clear hK K)
    refine wpQuiet_nil ?_
    intro W hW
    have HW := Lib.hid hW
    clear hW
    go_wp2_with fail
    go_ret
    exact ⟨rfl, HM.out.trans HW.out⟩

set_option maxHeartbeats 1000000 in
theorem rbin (c : Int) (R : CfgOk wk cp pg st tr wt ck pr ca bi ba) :
    Calls Try.prog 44 #[.agg #[.int .i64 wk, .int .i64 cp, .int .i64 pg, .int .i64 st, .int .i64 tr, .int .i64 wt, .int .i64 ck, .int .i64 pr, .int .i64 ca, .int .i64 bi, .int .i64 ba], .int .i64 c] w (Gives w (.int .i64 (binV cp pg st ca bi c))) := by
  have HR := Lib.hid R
  have b1 := binsB R
  have b3 := R.bi1
  have b4 := R.bi2
  by_cases c0 : 0 ≤ c
  · skip
    by_cases c1 : c ≤ 4
    · skip
      rw [show binV cp pg st ca bi c = binsV cp pg st ca + c * (bi + 1) from if_pos (by omega)]
      have d0 : decide ((0 : Int) ≤ c) = true := by simp; omega
      have d1 : decide (c ≤ 4) = true := by simp; omega
      have b5 := mulB c0 c1 (show (0 : Int) ≤ bi + 1 by omega) (show bi + 1 ≤ 17 by omega)
      have q0 : IntKind.i64.wrap (bi + 1) = bi + 1 := wrap_in (by omega) (by omega)
      have q1 : IntKind.i64.wrap (c * (bi + 1)) = c * (bi + 1) := wrap_in (by omega) (by omega)
      have q2 : IntKind.i64.wrap (binsV cp pg st ca + c * (bi + 1)) = binsV cp pg st ca + c * (bi + 1) := wrap_in (by omega) (by omega)
      have HC := Lib.hid (cfgAt_new w 37 wk cp pg st tr wt ck pr ca bi ba)
      have HM : Hid (More w (w.alloc (.cells #[.int .i64 wk, .int .i64 cp, .int .i64 pg, .int .i64 st, .int .i64 tr, .int .i64 wt, .int .i64 ck, .int .i64 pr, .int .i64 ca, .int .i64 bi, .int .i64 ba] 37))) := (More.refl w).alloc _
      clear R
      go_enter Try.func44, Try.ntmps44
      go_wp2_with fail
      generalize w.alloc (.cells #[.int .i64 wk, .int .i64 cp, .int .i64 pg, .int .i64 st, .int .i64 tr, .int .i64 wt, .int .i64 ck, .int .i64 pr, .int .i64 ca, .int .i64 bi, .int .i64 ba] 37) = W0 at *
      have hne : ∃ W, More W0 W := ⟨W0, More.refl _⟩
      refine wp_region_more (by kernel_rfl) (by kernel_rfl) ?_
      iterate 17
        with_reducible refine wpQuiet_step (fun K hK => ?_)
        go_simp
        first
        | (refine hK _ ?_; clear hK K)
        | (apply Exists.intro
           refine ⟨fun W hW => ?_, hK _ ?_⟩
           first
           | (go_at_call 64; exact Calls.more hW (rbins _ _ _ _ _ _ _ _ _ _ _ _ HR.out))
           | (go_at_call 54; exact Calls.more hW (rat_yes _ _))
           | (obtain ⟨e0, e1, e2, e3, e4, e5, e6, e7, e8, e9, e10⟩ := HC.out.cells hW; go_simp; try rfl)
           clear hK K)
      refine wpQuiet_nil ?_
      intro W hW
      have HW := Lib.hid hW
      clear hW
      go_wp2_with fail
      go_ret
      exact ⟨rfl, HM.out.trans HW.out⟩
    · rw [show binV cp pg st ca bi c = 0 from if_neg (by omega)]
      have d0 : decide ((0 : Int) ≤ c) = true := by simp; omega
      have d1 : decide (c ≤ 4) = false := by simp; omega
      have HC := Lib.hid (cfgAt_new w 37 wk cp pg st tr wt ck pr ca bi ba)
      have HM : Hid (More w (w.alloc (.cells #[.int .i64 wk, .int .i64 cp, .int .i64 pg, .int .i64 st, .int .i64 tr, .int .i64 wt, .int .i64 ck, .int .i64 pr, .int .i64 ca, .int .i64 bi, .int .i64 ba] 37))) := (More.refl w).alloc _
      clear R
      go_enter Try.func44, Try.ntmps44
      go_wp2_with fail
      generalize w.alloc (.cells #[.int .i64 wk, .int .i64 cp, .int .i64 pg, .int .i64 st, .int .i64 tr, .int .i64 wt, .int .i64 ck, .int .i64 pr, .int .i64 ca, .int .i64 bi, .int .i64 ba] 37) = W0 at *
      have hne : ∃ W, More W0 W := ⟨W0, More.refl _⟩
      refine wp_region_more (by kernel_rfl) (by kernel_rfl) ?_
      iterate 17
        with_reducible refine wpQuiet_step (fun K hK => ?_)
        go_simp
        first
        | (refine hK _ ?_; clear hK K)
        | (apply Exists.intro
           refine ⟨fun W hW => ?_, hK _ ?_⟩
           first
           | (go_at_call 64; exact Calls.more hW (rbins _ _ _ _ _ _ _ _ _ _ _ _ HR.out))
           | (go_at_call 54; exact Calls.more hW (rat_no _ _))
           | (obtain ⟨e0, e1, e2, e3, e4, e5, e6, e7, e8, e9, e10⟩ := HC.out.cells hW; go_simp; try rfl)
           clear hK K)
      refine wpQuiet_nil ?_
      intro W hW
      have HW := Lib.hid hW
      clear hW
      go_wp2_with fail
      go_ret
      exact ⟨rfl, HM.out.trans HW.out⟩
  · rw [show binV cp pg st ca bi c = 0 from if_neg (by omega)]
    have d0 : decide ((0 : Int) ≤ c) = false := by simp; omega
    have HC := Lib.hid (cfgAt_new w 37 wk cp pg st tr wt ck pr ca bi ba)
    have HM : Hid (More w (w.alloc (.cells #[.int .i64 wk, .int .i64 cp, .int .i64 pg, .int .i64 st, .int .i64 tr, .int .i64 wt, .int .i64 ck, .int .i64 pr, .int .i64 ca, .int .i64 bi, .int .i64 ba] 37))) := (More.refl w).alloc _
    clear R
    go_enter Try.func44, Try.ntmps44
    go_wp2_with fail
    generalize w.alloc (.cells #[.int .i64 wk, .int .i64 cp, .int .i64 pg, .int .i64 st, .int .i64 tr, .int .i64 wt, .int .i64 ck, .int .i64 pr, .int .i64 ca, .int .i64 bi, .int .i64 ba] 37) = W0 at *
    have hne : ∃ W, More W0 W := ⟨W0, More.refl _⟩
    refine wp_region_more (by kernel_rfl) (by kernel_rfl) ?_
    iterate 17
      with_reducible refine wpQuiet_step (fun K hK => ?_)
      go_simp
      first
      | (refine hK _ ?_; clear hK K)
      | (apply Exists.intro
         refine ⟨fun W hW => ?_, hK _ ?_⟩
         first
         | (go_at_call 64; exact Calls.more hW (rbins _ _ _ _ _ _ _ _ _ _ _ _ HR.out))
         | (go_at_call 54; exact Calls.more hW (rat_no _ _))
         | (obtain ⟨e0, e1, e2, e3, e4, e5, e6, e7, e8, e9, e10⟩ := HC.out.cells hW; go_simp; try rfl)
         clear hK K)
    refine wpQuiet_nil ?_
    intro W hW
    have HW := Lib.hid hW
    clear hW
    go_wp2_with fail
    go_ret
    exact ⟨rfl, HM.out.trans HW.out⟩

set_option maxHeartbeats 1000000 in
theorem rcache (u c : Int) (R : CfgOk wk cp pg st tr wt ck pr ca bi ba) :
    Calls Try.prog 43 #[.agg #[.int .i64 wk, .int .i64 cp, .int .i64 pg, .int .i64 st, .int .i64 tr, .int .i64 wt, .int .i64 ck, .int .i64 pr, .int .i64 ca, .int .i64 bi, .int .i64 ba], .int .i64 u, .int .i64 c] w (Gives w (.int .i64 (cacheV cp pg st ca u c))) := by
  have HR := Lib.hid R
  have b1 := cachesB R
  have b3 := R.ca1
  have b4 := R.ca2
  have b6 := R.cp2
  by_cases c0 : 0 ≤ u
  · skip
    by_cases c1 : u < cp
    · skip
      by_cases c2 : 0 ≤ c
      · skip
        by_cases c3 : c ≤ 4
        · skip
          rw [show cacheV cp pg st ca u c = cachesV st pg + (5 * u + c) * (ca + 1) from if_pos (by omega)]
          have d0 : decide ((0 : Int) ≤ u) = true := by simp; omega
          have d1 : decide (u < cp) = true := by simp; omega
          have d2 : decide ((0 : Int) ≤ c) = true := by simp; omega
          have d3 : decide (c ≤ 4) = true := by simp; omega
          have b5 := mulB (show (0 : Int) ≤ 5 * u + c by omega) (show 5 * u + c ≤ 39 by omega) (show (0 : Int) ≤ ca + 1 by omega) (show ca + 1 ≤ 9 by omega)
          have q0 : IntKind.i64.wrap (5 * u) = 5 * u := wrap_in (by omega) (by omega)
          have q1 : IntKind.i64.wrap (5 * u + c) = 5 * u + c := wrap_in (by omega) (by omega)
          have q2 : IntKind.i64.wrap (ca + 1) = ca + 1 := wrap_in (by omega) (by omega)
          have q3 : IntKind.i64.wrap ((5 * u + c) * (ca + 1)) = (5 * u + c) * (ca + 1) := wrap_in (by omega) (by omega)
          have q4 : IntKind.i64.wrap (cachesV st pg + (5 * u + c) * (ca + 1)) = cachesV st pg + (5 * u + c) * (ca + 1) := wrap_in (by omega) (by omega)
          have HC := Lib.hid (cfgAt_new w 37 wk cp pg st tr wt ck pr ca bi ba)
          have HM : Hid (More w (w.alloc (.cells #[.int .i64 wk, .int .i64 cp, .int .i64 pg, .int .i64 st, .int .i64 tr, .int .i64 wt, .int .i64 ck, .int .i64 pr, .int .i64 ca, .int .i64 bi, .int .i64 ba] 37))) := (More.refl w).alloc _
          clear R
          go_enter Try.func43, Try.ntmps43
          go_wp2_with fail
          generalize w.alloc (.cells #[.int .i64 wk, .int .i64 cp, .int .i64 pg, .int .i64 st, .int .i64 tr, .int .i64 wt, .int .i64 ck, .int .i64 pr, .int .i64 ca, .int .i64 bi, .int .i64 ba] 37) = W0 at *
          have hne : ∃ W, More W0 W := ⟨W0, More.refl _⟩
          refine wp_region_more (by kernel_rfl) (by kernel_rfl) ?_
          iterate 31
            with_reducible refine wpQuiet_step (fun K hK => ?_)
            go_simp
            first
            | (refine hK _ ?_; clear hK K)
            | (apply Exists.intro
               refine ⟨fun W hW => ?_, hK _ ?_⟩
               first
               | (go_at_call 63; exact Calls.more hW (rcaches _ _ _ _ _ _ _ _ _ _ _ _ HR.out))
               | (go_at_call 54; exact Calls.more hW (rat_yes _ _))
               | (obtain ⟨e0, e1, e2, e3, e4, e5, e6, e7, e8, e9, e10⟩ := HC.out.cells hW; go_simp; try rfl)
               clear hK K)
          refine wpQuiet_nil ?_
          intro W hW
          have HW := Lib.hid hW
          clear hW
          go_wp2_with fail
          go_ret
          exact ⟨rfl, HM.out.trans HW.out⟩
        · rw [show cacheV cp pg st ca u c = 0 from if_neg (by omega)]
          have d0 : decide ((0 : Int) ≤ u) = true := by simp; omega
          have d1 : decide (u < cp) = true := by simp; omega
          have d2 : decide ((0 : Int) ≤ c) = true := by simp; omega
          have d3 : decide (c ≤ 4) = false := by simp; omega
          have HC := Lib.hid (cfgAt_new w 37 wk cp pg st tr wt ck pr ca bi ba)
          have HM : Hid (More w (w.alloc (.cells #[.int .i64 wk, .int .i64 cp, .int .i64 pg, .int .i64 st, .int .i64 tr, .int .i64 wt, .int .i64 ck, .int .i64 pr, .int .i64 ca, .int .i64 bi, .int .i64 ba] 37))) := (More.refl w).alloc _
          clear R
          go_enter Try.func43, Try.ntmps43
          go_wp2_with fail
          generalize w.alloc (.cells #[.int .i64 wk, .int .i64 cp, .int .i64 pg, .int .i64 st, .int .i64 tr, .int .i64 wt, .int .i64 ck, .int .i64 pr, .int .i64 ca, .int .i64 bi, .int .i64 ba] 37) = W0 at *
          have hne : ∃ W, More W0 W := ⟨W0, More.refl _⟩
          refine wp_region_more (by kernel_rfl) (by kernel_rfl) ?_
          iterate 31
            with_reducible refine wpQuiet_step (fun K hK => ?_)
            go_simp
            first
            | (refine hK _ ?_; clear hK K)
            | (apply Exists.intro
               refine ⟨fun W hW => ?_, hK _ ?_⟩
               first
               | (go_at_call 63; exact Calls.more hW (rcaches _ _ _ _ _ _ _ _ _ _ _ _ HR.out))
               | (go_at_call 54; exact Calls.more hW (rat_no _ _))
               | (obtain ⟨e0, e1, e2, e3, e4, e5, e6, e7, e8, e9, e10⟩ := HC.out.cells hW; go_simp; try rfl)
               clear hK K)
          refine wpQuiet_nil ?_
          intro W hW
          have HW := Lib.hid hW
          clear hW
          go_wp2_with fail
          go_ret
          exact ⟨rfl, HM.out.trans HW.out⟩
      · rw [show cacheV cp pg st ca u c = 0 from if_neg (by omega)]
        have d0 : decide ((0 : Int) ≤ u) = true := by simp; omega
        have d1 : decide (u < cp) = true := by simp; omega
        have d2 : decide ((0 : Int) ≤ c) = false := by simp; omega
        have HC := Lib.hid (cfgAt_new w 37 wk cp pg st tr wt ck pr ca bi ba)
        have HM : Hid (More w (w.alloc (.cells #[.int .i64 wk, .int .i64 cp, .int .i64 pg, .int .i64 st, .int .i64 tr, .int .i64 wt, .int .i64 ck, .int .i64 pr, .int .i64 ca, .int .i64 bi, .int .i64 ba] 37))) := (More.refl w).alloc _
        clear R
        go_enter Try.func43, Try.ntmps43
        go_wp2_with fail
        generalize w.alloc (.cells #[.int .i64 wk, .int .i64 cp, .int .i64 pg, .int .i64 st, .int .i64 tr, .int .i64 wt, .int .i64 ck, .int .i64 pr, .int .i64 ca, .int .i64 bi, .int .i64 ba] 37) = W0 at *
        have hne : ∃ W, More W0 W := ⟨W0, More.refl _⟩
        refine wp_region_more (by kernel_rfl) (by kernel_rfl) ?_
        iterate 31
          with_reducible refine wpQuiet_step (fun K hK => ?_)
          go_simp
          first
          | (refine hK _ ?_; clear hK K)
          | (apply Exists.intro
             refine ⟨fun W hW => ?_, hK _ ?_⟩
             first
             | (go_at_call 63; exact Calls.more hW (rcaches _ _ _ _ _ _ _ _ _ _ _ _ HR.out))
             | (go_at_call 54; exact Calls.more hW (rat_no _ _))
             | (obtain ⟨e0, e1, e2, e3, e4, e5, e6, e7, e8, e9, e10⟩ := HC.out.cells hW; go_simp; try rfl)
             clear hK K)
        refine wpQuiet_nil ?_
        intro W hW
        have HW := Lib.hid hW
        clear hW
        go_wp2_with fail
        go_ret
        exact ⟨rfl, HM.out.trans HW.out⟩
    · rw [show cacheV cp pg st ca u c = 0 from if_neg (by omega)]
      have d0 : decide ((0 : Int) ≤ u) = true := by simp; omega
      have d1 : decide (u < cp) = false := by simp; omega
      have HC := Lib.hid (cfgAt_new w 37 wk cp pg st tr wt ck pr ca bi ba)
      have HM : Hid (More w (w.alloc (.cells #[.int .i64 wk, .int .i64 cp, .int .i64 pg, .int .i64 st, .int .i64 tr, .int .i64 wt, .int .i64 ck, .int .i64 pr, .int .i64 ca, .int .i64 bi, .int .i64 ba] 37))) := (More.refl w).alloc _
      clear R
      go_enter Try.func43, Try.ntmps43
      go_wp2_with fail
      generalize w.alloc (.cells #[.int .i64 wk, .int .i64 cp, .int .i64 pg, .int .i64 st, .int .i64 tr, .int .i64 wt, .int .i64 ck, .int .i64 pr, .int .i64 ca, .int .i64 bi, .int .i64 ba] 37) = W0 at *
      have hne : ∃ W, More W0 W := ⟨W0, More.refl _⟩
      refine wp_region_more (by kernel_rfl) (by kernel_rfl) ?_
      iterate 31
        with_reducible refine wpQuiet_step (fun K hK => ?_)
        go_simp
        first
        | (refine hK _ ?_; clear hK K)
        | (apply Exists.intro
           refine ⟨fun W hW => ?_, hK _ ?_⟩
           first
           | (go_at_call 63; exact Calls.more hW (rcaches _ _ _ _ _ _ _ _ _ _ _ _ HR.out))
           | (go_at_call 54; exact Calls.more hW (rat_no _ _))
           | (obtain ⟨e0, e1, e2, e3, e4, e5, e6, e7, e8, e9, e10⟩ := HC.out.cells hW; go_simp; try rfl)
           clear hK K)
      refine wpQuiet_nil ?_
      intro W hW
      have HW := Lib.hid hW
      clear hW
      go_wp2_with fail
      go_ret
      exact ⟨rfl, HM.out.trans HW.out⟩
  · rw [show cacheV cp pg st ca u c = 0 from if_neg (by omega)]
    have d0 : decide ((0 : Int) ≤ u) = false := by simp; omega
    have HC := Lib.hid (cfgAt_new w 37 wk cp pg st tr wt ck pr ca bi ba)
    have HM : Hid (More w (w.alloc (.cells #[.int .i64 wk, .int .i64 cp, .int .i64 pg, .int .i64 st, .int .i64 tr, .int .i64 wt, .int .i64 ck, .int .i64 pr, .int .i64 ca, .int .i64 bi, .int .i64 ba] 37))) := (More.refl w).alloc _
    clear R
    go_enter Try.func43, Try.ntmps43
    go_wp2_with fail
    generalize w.alloc (.cells #[.int .i64 wk, .int .i64 cp, .int .i64 pg, .int .i64 st, .int .i64 tr, .int .i64 wt, .int .i64 ck, .int .i64 pr, .int .i64 ca, .int .i64 bi, .int .i64 ba] 37) = W0 at *
    have hne : ∃ W, More W0 W := ⟨W0, More.refl _⟩
    refine wp_region_more (by kernel_rfl) (by kernel_rfl) ?_
    iterate 31
      with_reducible refine wpQuiet_step (fun K hK => ?_)
      go_simp
      first
      | (refine hK _ ?_; clear hK K)
      | (apply Exists.intro
         refine ⟨fun W hW => ?_, hK _ ?_⟩
         first
         | (go_at_call 63; exact Calls.more hW (rcaches _ _ _ _ _ _ _ _ _ _ _ _ HR.out))
         | (go_at_call 54; exact Calls.more hW (rat_no _ _))
         | (obtain ⟨e0, e1, e2, e3, e4, e5, e6, e7, e8, e9, e10⟩ := HC.out.cells hW; go_simp; try rfl)
         clear hK K)
    refine wpQuiet_nil ?_
    intro W hW
    have HW := Lib.hid hW
    clear hW
    go_wp2_with fail
    go_ret
    exact ⟨rfl, HM.out.trans HW.out⟩

set_option maxHeartbeats 1000000 in
theorem rliveAt (a : Int) (R : CfgOk wk cp pg st tr wt ck pr ca bi ba) :
    Calls Try.prog 45 #[.agg #[.int .i64 wk, .int .i64 cp, .int .i64 pg, .int .i64 st, .int .i64 tr, .int .i64 wt, .int .i64 ck, .int .i64 pr, .int .i64 ca, .int .i64 bi, .int .i64 ba], .int .i64 a] w (Gives w (.int .i64 (liveAtV cp pg st ca bi a))) := by
  have HR := Lib.hid R
  have b1 := liveB R
  have b2 := userB R
  have b3 := wordsB R
  by_cases c0 : userV cp pg st ca bi ≤ a
  · skip
    by_cases c1 : a < wordsV cp pg st ca bi
    · skip
      rw [show liveAtV cp pg st ca bi a = liveV cp pg st ca bi + a - userV cp pg st ca bi from if_pos (by omega)]
      have d0 : decide (userV cp pg st ca bi ≤ a) = true := by simp; omega
      have d1 : decide (a < wordsV cp pg st ca bi) = true := by simp; omega
      have q0 : IntKind.i64.wrap (liveV cp pg st ca bi + a) = liveV cp pg st ca bi + a := wrap_in (by omega) (by omega)
      have q1 : IntKind.i64.wrap (liveV cp pg st ca bi + a - userV cp pg st ca bi) = liveV cp pg st ca bi + a - userV cp pg st ca bi := wrap_in (by omega) (by omega)
      have HC := Lib.hid (cfgAt_new w 37 wk cp pg st tr wt ck pr ca bi ba)
      have HM : Hid (More w (w.alloc (.cells #[.int .i64 wk, .int .i64 cp, .int .i64 pg, .int .i64 st, .int .i64 tr, .int .i64 wt, .int .i64 ck, .int .i64 pr, .int .i64 ca, .int .i64 bi, .int .i64 ba] 37))) := (More.refl w).alloc _
      clear R
      go_enter Try.func45, Try.ntmps45
      go_wp2_with fail
      generalize w.alloc (.cells #[.int .i64 wk, .int .i64 cp, .int .i64 pg, .int .i64 st, .int .i64 tr, .int .i64 wt, .int .i64 ck, .int .i64 pr, .int .i64 ca, .int .i64 bi, .int .i64 ba] 37) = W0 at *
      have hne : ∃ W, More W0 W := ⟨W0, More.refl _⟩
      refine wp_region_more (by kernel_rfl) (by kernel_rfl) ?_
      iterate 19
        with_reducible refine wpQuiet_step (fun K hK => ?_)
        go_simp
        first
        | (refine hK _ ?_; clear hK K)
        | (apply Exists.intro
           refine ⟨fun W hW => ?_, hK _ ?_⟩
           first
           | (go_at_call 37; exact Calls.more hW (ruser _ _ _ _ _ _ _ _ _ _ _ _ HR.out))
           | (go_at_call 35; exact Calls.more hW (rwords _ _ _ _ _ _ _ _ _ _ _ _ HR.out))
           | (go_at_call 62; exact Calls.more hW (rlive _ _ _ _ _ _ _ _ _ _ _ _ HR.out))
           | (go_at_call 54; exact Calls.more hW (rat_yes _ _))
           | (obtain ⟨e0, e1, e2, e3, e4, e5, e6, e7, e8, e9, e10⟩ := HC.out.cells hW; go_simp; try rfl)
           clear hK K)
      refine wpQuiet_nil ?_
      intro W hW
      have HW := Lib.hid hW
      clear hW
      go_wp2_with fail
      go_ret
      exact ⟨rfl, HM.out.trans HW.out⟩
    · rw [show liveAtV cp pg st ca bi a = 0 from if_neg (by omega)]
      have d0 : decide (userV cp pg st ca bi ≤ a) = true := by simp; omega
      have d1 : decide (a < wordsV cp pg st ca bi) = false := by simp; omega
      have HC := Lib.hid (cfgAt_new w 37 wk cp pg st tr wt ck pr ca bi ba)
      have HM : Hid (More w (w.alloc (.cells #[.int .i64 wk, .int .i64 cp, .int .i64 pg, .int .i64 st, .int .i64 tr, .int .i64 wt, .int .i64 ck, .int .i64 pr, .int .i64 ca, .int .i64 bi, .int .i64 ba] 37))) := (More.refl w).alloc _
      clear R
      go_enter Try.func45, Try.ntmps45
      go_wp2_with fail
      generalize w.alloc (.cells #[.int .i64 wk, .int .i64 cp, .int .i64 pg, .int .i64 st, .int .i64 tr, .int .i64 wt, .int .i64 ck, .int .i64 pr, .int .i64 ca, .int .i64 bi, .int .i64 ba] 37) = W0 at *
      have hne : ∃ W, More W0 W := ⟨W0, More.refl _⟩
      refine wp_region_more (by kernel_rfl) (by kernel_rfl) ?_
      iterate 19
        with_reducible refine wpQuiet_step (fun K hK => ?_)
        go_simp
        first
        | (refine hK _ ?_; clear hK K)
        | (apply Exists.intro
           refine ⟨fun W hW => ?_, hK _ ?_⟩
           first
           | (go_at_call 37; exact Calls.more hW (ruser _ _ _ _ _ _ _ _ _ _ _ _ HR.out))
           | (go_at_call 35; exact Calls.more hW (rwords _ _ _ _ _ _ _ _ _ _ _ _ HR.out))
           | (go_at_call 62; exact Calls.more hW (rlive _ _ _ _ _ _ _ _ _ _ _ _ HR.out))
           | (go_at_call 54; exact Calls.more hW (rat_no _ _))
           | (obtain ⟨e0, e1, e2, e3, e4, e5, e6, e7, e8, e9, e10⟩ := HC.out.cells hW; go_simp; try rfl)
           clear hK K)
      refine wpQuiet_nil ?_
      intro W hW
      have HW := Lib.hid hW
      clear hW
      go_wp2_with fail
      go_ret
      exact ⟨rfl, HM.out.trans HW.out⟩
  · rw [show liveAtV cp pg st ca bi a = 0 from if_neg (by omega)]
    have d0 : decide (userV cp pg st ca bi ≤ a) = false := by simp; omega
    have HC := Lib.hid (cfgAt_new w 37 wk cp pg st tr wt ck pr ca bi ba)
    have HM : Hid (More w (w.alloc (.cells #[.int .i64 wk, .int .i64 cp, .int .i64 pg, .int .i64 st, .int .i64 tr, .int .i64 wt, .int .i64 ck, .int .i64 pr, .int .i64 ca, .int .i64 bi, .int .i64 ba] 37))) := (More.refl w).alloc _
    clear R
    go_enter Try.func45, Try.ntmps45
    go_wp2_with fail
    generalize w.alloc (.cells #[.int .i64 wk, .int .i64 cp, .int .i64 pg, .int .i64 st, .int .i64 tr, .int .i64 wt, .int .i64 ck, .int .i64 pr, .int .i64 ca, .int .i64 bi, .int .i64 ba] 37) = W0 at *
    have hne : ∃ W, More W0 W := ⟨W0, More.refl _⟩
    refine wp_region_more (by kernel_rfl) (by kernel_rfl) ?_
    iterate 19
      with_reducible refine wpQuiet_step (fun K hK => ?_)
      go_simp
      first
      | (refine hK _ ?_; clear hK K)
      | (apply Exists.intro
         refine ⟨fun W hW => ?_, hK _ ?_⟩
         first
         | (go_at_call 37; exact Calls.more hW (ruser _ _ _ _ _ _ _ _ _ _ _ _ HR.out))
         | (go_at_call 35; exact Calls.more hW (rwords _ _ _ _ _ _ _ _ _ _ _ _ HR.out))
         | (go_at_call 62; exact Calls.more hW (rlive _ _ _ _ _ _ _ _ _ _ _ _ HR.out))
         | (go_at_call 54; exact Calls.more hW (rat_no _ _))
         | (obtain ⟨e0, e1, e2, e3, e4, e5, e6, e7, e8, e9, e10⟩ := HC.out.cells hW; go_simp; try rfl)
         clear hK K)
    refine wpQuiet_nil ?_
    intro W hW
    have HW := Lib.hid hW
    clear hW
    go_wp2_with fail
    go_ret
    exact ⟨rfl, HM.out.trans HW.out⟩

theorem rkind (p : Int) (R : CfgOk wk cp pg st tr wt ck pr ca bi ba) :
    Calls Try.prog 22 #[.agg #[.int .i64 wk, .int .i64 cp, .int .i64 pg, .int .i64 st, .int .i64 tr, .int .i64 wt, .int .i64 ck, .int .i64 pr, .int .i64 ca, .int .i64 bi, .int .i64 ba], .int .i64 p] w (Gives w (.int .i64 (pageV pg st 0 p))) := by
  have HR := Lib.hid R
  have e := (cfgAt_new w 37 wk cp pg st tr wt ck pr ca bi ba).cells (More.refl _)
  clear R
  go_enter Try.func22, Try.ntmps22
  go_wp2_with fail
  refine (rpage _ _ _ _ _ _ _ _ _ _ _ _ 0 p HR.out (by omega)).mono ?_
  rintro e w1 ⟨rfl, h1⟩
  go_wp2_with fail
  go_ret
  exact ⟨rfl, ((More.refl _).alloc _).trans h1⟩

theorem rcount (p : Int) (R : CfgOk wk cp pg st tr wt ck pr ca bi ba) :
    Calls Try.prog 24 #[.agg #[.int .i64 wk, .int .i64 cp, .int .i64 pg, .int .i64 st, .int .i64 tr, .int .i64 wt, .int .i64 ck, .int .i64 pr, .int .i64 ca, .int .i64 bi, .int .i64 ba], .int .i64 p] w (Gives w (.int .i64 (pageV pg st 1 p))) := by
  have HR := Lib.hid R
  have e := (cfgAt_new w 37 wk cp pg st tr wt ck pr ca bi ba).cells (More.refl _)
  clear R
  go_enter Try.func24, Try.ntmps24
  go_wp2_with fail
  refine (rpage _ _ _ _ _ _ _ _ _ _ _ _ 1 p HR.out (by omega)).mono ?_
  rintro e w1 ⟨rfl, h1⟩
  go_wp2_with fail
  go_ret
  exact ⟨rfl, ((More.refl _).alloc _).trans h1⟩

theorem rbits (p : Int) (R : CfgOk wk cp pg st tr wt ck pr ca bi ba) :
    Calls Try.prog 26 #[.agg #[.int .i64 wk, .int .i64 cp, .int .i64 pg, .int .i64 st, .int .i64 tr, .int .i64 wt, .int .i64 ck, .int .i64 pr, .int .i64 ca, .int .i64 bi, .int .i64 ba], .int .i64 p] w (Gives w (.int .i64 (pageV pg st 2 p))) := by
  have HR := Lib.hid R
  have e := (cfgAt_new w 37 wk cp pg st tr wt ck pr ca bi ba).cells (More.refl _)
  clear R
  go_enter Try.func26, Try.ntmps26
  go_wp2_with fail
  refine (rpage _ _ _ _ _ _ _ _ _ _ _ _ 2 p HR.out (by omega)).mono ?_
  rintro e w1 ⟨rfl, h1⟩
  go_wp2_with fail
  go_ret
  exact ⟨rfl, ((More.refl _).alloc _).trans h1⟩

theorem rnext (p : Int) (R : CfgOk wk cp pg st tr wt ck pr ca bi ba) :
    Calls Try.prog 28 #[.agg #[.int .i64 wk, .int .i64 cp, .int .i64 pg, .int .i64 st, .int .i64 tr, .int .i64 wt, .int .i64 ck, .int .i64 pr, .int .i64 ca, .int .i64 bi, .int .i64 ba], .int .i64 p] w (Gives w (.int .i64 (pageV pg st 3 p))) := by
  have HR := Lib.hid R
  have e := (cfgAt_new w 37 wk cp pg st tr wt ck pr ca bi ba).cells (More.refl _)
  clear R
  go_enter Try.func28, Try.ntmps28
  go_wp2_with fail
  refine (rpage _ _ _ _ _ _ _ _ _ _ _ _ 3 p HR.out (by omega)).mono ?_
  rintro e w1 ⟨rfl, h1⟩
  go_wp2_with fail
  go_ret
  exact ⟨rfl, ((More.refl _).alloc _).trans h1⟩

theorem rprev (p : Int) (R : CfgOk wk cp pg st tr wt ck pr ca bi ba) :
    Calls Try.prog 30 #[.agg #[.int .i64 wk, .int .i64 cp, .int .i64 pg, .int .i64 st, .int .i64 tr, .int .i64 wt, .int .i64 ck, .int .i64 pr, .int .i64 ca, .int .i64 bi, .int .i64 ba], .int .i64 p] w (Gives w (.int .i64 (pageV pg st 4 p))) := by
  have HR := Lib.hid R
  have e := (cfgAt_new w 37 wk cp pg st tr wt ck pr ca bi ba).cells (More.refl _)
  clear R
  go_enter Try.func30, Try.ntmps30
  go_wp2_with fail
  refine (rpage _ _ _ _ _ _ _ _ _ _ _ _ 4 p HR.out (by omega)).mono ?_
  rintro e w1 ⟨rfl, h1⟩
  go_wp2_with fail
  go_ret
  exact ⟨rfl, ((More.refl _).alloc _).trans h1⟩

end Go.Proofs.Ytollofgcijlofaa
