/-
  Contracts of the document's own answers for layout, at places that may be and that may not.
-/
import Derived.Test.YtonenkgjlmcfkaaLayRefA
namespace Go.Proofs.Ytonenkgjlmcfkaa
open Go.RowKit
set_option linter.unusedVariables false
set_option linter.unusedSimpArgs false

theorem rat_yes (x : Int) (w : World) : Calls Try.prog 72 #[.bool true, .int .i64 x] w (Gives w (.int .i64 x)) := by
  go_enter Try.func72, Try.ntmps72
  go_wp2
  go_ret
  exact ⟨rfl, More.refl _⟩
theorem rat_no (x : Int) (w : World) : Calls Try.prog 72 #[.bool false, .int .i64 x] w (Gives w (.int .i64 0)) := by
  go_enter Try.func72, Try.ntmps72
  go_wp2
  go_ret
  exact ⟨rfl, More.refl _⟩

variable (wk cp pg st tr wt ck pr ca bi ba : Int) (w : World)

set_option maxHeartbeats 1000000 in
theorem rtbl (k : Int) (R : CfgOk wk cp pg st tr wt ck pr ca bi ba) :
    Calls Try.prog 59 #[.agg #[.int .i64 wk, .int .i64 cp, .int .i64 pg, .int .i64 st, .int .i64 tr, .int .i64 wt, .int .i64 ck, .int .i64 pr, .int .i64 ca, .int .i64 bi, .int .i64 ba], .int .i64 k] w (Gives w (.int .i64 (tblV pg st k))) := by
  have HR := Lib.hid R
  have b1 := tableB R
  have b2 := chunksB R
  by_cases c0 : 0 ≤ k
  · skip
    by_cases c1 : k < chunksV pg
    · skip
      rw [show tblV pg st k = tableV st + k from if_pos (by omega)]
      have d0 : decide ((0 : Int) ≤ k) = true := by simp; omega
      have d1 : decide (k < chunksV pg) = true := by simp; omega
      have q0 : IntKind.i64.wrap (tableV st + k) = tableV st + k := wrap_in (by omega) (by omega)
      have HC := Lib.hid (cfgAt_new w 30 wk cp pg st tr wt ck pr ca bi ba)
      have HM : Hid (More w (w.alloc (.cells #[.int .i64 wk, .int .i64 cp, .int .i64 pg, .int .i64 st, .int .i64 tr, .int .i64 wt, .int .i64 ck, .int .i64 pr, .int .i64 ca, .int .i64 bi, .int .i64 ba] 30))) := (More.refl w).alloc _
      clear R
      go_enter Try.func59, Try.ntmps59
      go_wp2_with fail
      generalize w.alloc (.cells #[.int .i64 wk, .int .i64 cp, .int .i64 pg, .int .i64 st, .int .i64 tr, .int .i64 wt, .int .i64 ck, .int .i64 pr, .int .i64 ca, .int .i64 bi, .int .i64 ba] 30) = W0 at *
      have hne : ∃ W, More W0 W := ⟨W0, More.refl _⟩
      refine wp_region_more (by kernel_rfl) (by kernel_rfl) ?_
      iterate 14
        with_reducible refine wpQuiet_step (fun K hK => ?_)
        go_simp
        first
        | (refine hK _ ?_; clear hK K)
        | (apply Exists.intro
           refine ⟨fun W hW => ?_, hK _ ?_⟩
           first
           | (go_at_call 64; exact Calls.more hW (rchunks _ _ _ _ _ _ _ _ _ _ _ _ HR.out))
           | (go_at_call 73; exact Calls.more hW (rtable _ _ _ _ _ _ _ _ _ _ _ _ HR.out))
           | (go_at_call 72; exact Calls.more hW (rat_yes _ _))
           | (obtain ⟨e0, e1, e2, e3, e4, e5, e6, e7, e8, e9, e10⟩ := HC.out.cells hW; go_simp; try rfl)
           clear hK K)
      refine wpQuiet_nil ?_
      intro W hW
      have HW := Lib.hid hW
      clear hW
      go_wp2_with fail
      go_ret
      exact ⟨rfl, HM.out.trans HW.out⟩
    · rw [show tblV pg st k = 0 from if_neg (by omega)]
      have d0 : decide ((0 : Int) ≤ k) = true := by simp; omega
      have d1 : decide (k < chunksV pg) = false := by simp; omega
      have HC := Lib.hid (cfgAt_new w 30 wk cp pg st tr wt ck pr ca bi ba)
      have HM : Hid (More w (w.alloc (.cells #[.int .i64 wk, .int .i64 cp, .int .i64 pg, .int .i64 st, .int .i64 tr, .int .i64 wt, .int .i64 ck, .int .i64 pr, .int .i64 ca, .int .i64 bi, .int .i64 ba] 30))) := (More.refl w).alloc _
      clear R
      go_enter Try.func59, Try.ntmps59
      go_wp2_with fail
      generalize w.alloc (.cells #[.int .i64 wk, .int .i64 cp, .int .i64 pg, .int .i64 st, .int .i64 tr, .int .i64 wt, .int .i64 ck, .int .i64 pr, .int .i64 ca, .int .i64 bi, .int .i64 ba] 30) = W0 at *
      have hne : ∃ W, More W0 W := ⟨W0, More.refl _⟩
      refine wp_region_more (by kernel_rfl) (by kernel_rfl) ?_
      iterate 14
        with_reducible refine wpQuiet_step (fun K hK => ?_)
        go_simp
        first
        | (refine hK _ ?_; clear hK K)
        | (apply Exists.intro
           refine ⟨fun W hW => ?_, hK _ ?_⟩
           first
           | (go_at_call 64; exact Calls.more hW (rchunks _ _ _ _ _ _ _ _ _ _ _ _ HR.out))
           | (go_at_call 73; exact Calls.more hW (rtable _ _ _ _ _ _ _ _ _ _ _ _ HR.out))
           | (go_at_call 72; exact Calls.more hW (rat_no _ _))
           | (obtain ⟨e0, e1, e2, e3, e4, e5, e6, e7, e8, e9, e10⟩ := HC.out.cells hW; go_simp; try rfl)
           clear hK K)
      refine wpQuiet_nil ?_
      intro W hW
      have HW := Lib.hid hW
      clear hW
      go_wp2_with fail
      go_ret
      exact ⟨rfl, HM.out.trans HW.out⟩
  · rw [show tblV pg st k = 0 from if_neg (by omega)]
    have d0 : decide ((0 : Int) ≤ k) = false := by simp; omega
    have HC := Lib.hid (cfgAt_new w 30 wk cp pg st tr wt ck pr ca bi ba)
    have HM : Hid (More w (w.alloc (.cells #[.int .i64 wk, .int .i64 cp, .int .i64 pg, .int .i64 st, .int .i64 tr, .int .i64 wt, .int .i64 ck, .int .i64 pr, .int .i64 ca, .int .i64 bi, .int .i64 ba] 30))) := (More.refl w).alloc _
    clear R
    go_enter Try.func59, Try.ntmps59
    go_wp2_with fail
    generalize w.alloc (.cells #[.int .i64 wk, .int .i64 cp, .int .i64 pg, .int .i64 st, .int .i64 tr, .int .i64 wt, .int .i64 ck, .int .i64 pr, .int .i64 ca, .int .i64 bi, .int .i64 ba] 30) = W0 at *
    have hne : ∃ W, More W0 W := ⟨W0, More.refl _⟩
    refine wp_region_more (by kernel_rfl) (by kernel_rfl) ?_
    iterate 14
      with_reducible refine wpQuiet_step (fun K hK => ?_)
      go_simp
      first
      | (refine hK _ ?_; clear hK K)
      | (apply Exists.intro
         refine ⟨fun W hW => ?_, hK _ ?_⟩
         first
         | (go_at_call 64; exact Calls.more hW (rchunks _ _ _ _ _ _ _ _ _ _ _ _ HR.out))
         | (go_at_call 73; exact Calls.more hW (rtable _ _ _ _ _ _ _ _ _ _ _ _ HR.out))
         | (go_at_call 72; exact Calls.more hW (rat_no _ _))
         | (obtain ⟨e0, e1, e2, e3, e4, e5, e6, e7, e8, e9, e10⟩ := HC.out.cells hW; go_simp; try rfl)
         clear hK K)
    refine wpQuiet_nil ?_
    intro W hW
    have HW := Lib.hid hW
    clear hW
    go_wp2_with fail
    go_ret
    exact ⟨rfl, HM.out.trans HW.out⟩

end Go.Proofs.Ytonenkgjlmcfkaa
