/-
  Contracts of the document's own answers for layout, at places that may be and that may not.
-/
import Derived.Test.YtflihdcliknggaaGreatDoorPpAg
import Derived.OwnWalk
import Derived.Test.YtflihdcliknggaaGreatDoorPpAf
import Derived.Test.YtflihdcliknggaaGreatDoorPpAe
import Derived.Test.YtflihdcliknggaaGreatDoorPpAa
set_option maxRecDepth 100000
set_option maxHeartbeats 8000000
set_option linter.unusedVariables false
set_option linter.unusedSimpArgs false
set_option linter.unusedSectionVars false
namespace Go.Proofs.YtflihdcliknggaaGreatDoor
open Go.RowKit
theorem rat_yes (x : Int) (w : World) : Calls Tryz.prog 122 #[.bool true,.int .i64 x] w (Gives w (.int .i64 x)) := by
 go_enter Tryz.func122,Tryz.ntmps122
 go_wp2
 go_ret
 exact ⟨rfl,More.refl _⟩
theorem rat_no (x : Int) (w : World) : Calls Tryz.prog 122 #[.bool false,.int .i64 x] w (Gives w (.int .i64 0)) := by
 go_enter Tryz.func122,Tryz.ntmps122
 go_wp2
 go_ret
 exact ⟨rfl,More.refl _⟩
variable (wk cp pg st tr wt ck pr ca bi ba : Int) (w : World)
theorem rtbl (k : Int) (R : CfgOk wk cp pg st tr wt ck pr ca bi ba) :
   Calls Tryz.prog 167 #[.agg #[.int .i64 wk,.int .i64 cp,.int .i64 pg,.int .i64 st,.int .i64 tr,.int .i64 wt,.int .i64 ck,.int .i64 pr,.int .i64 ca,.int .i64 bi,.int .i64 ba],.int .i64 k] w (Gives w (.int .i64 (tblV pg st k))) := by
 have HR := hQQ R
 have b1 := tableB R
 have b2 := chunksB R
 by_cases c0 : 0 ≤ k
 · skip
   by_cases c1 : k < chunksV pg
   · skip
     rw [show tblV pg st k = tableV st + k from if_pos (by omega)]
     have d0 : decide ((0 : Int) ≤ k) = true := by simp; omega
     have d1 : decide (k < chunksV pg) = true := by simp; omega
     have q0 : IntKind.i64.wrap (tableV st + k) = tableV st + k := wrap_in (by omega) (by omega)
     have HC := hQQ (cfgAt_new w 30 wk cp pg st tr wt ck pr ca bi ba)
     have HM : Hid (More w (w.alloc (.cells #[.int .i64 wk,.int .i64 cp,.int .i64 pg,.int .i64 st,.int .i64 tr,.int .i64 wt,.int .i64 ck,.int .i64 pr,.int .i64 ca,.int .i64 bi,.int .i64 ba] 30))) := (More.refl w).alloc _
     clear R
     go_enter Tryz.func167,Tryz.ntmps167
     go_wp2_with fail
     generalize w.alloc (.cells #[.int .i64 wk,.int .i64 cp,.int .i64 pg,.int .i64 st,.int .i64 tr,.int .i64 wt,.int .i64 ck,.int .i64 pr,.int .i64 ca,.int .i64 bi,.int .i64 ba] 30) = W0 at *
     have hne : ∃ W,More W0 W := ⟨W0,More.refl _⟩
     refine wp_region_more (by kernel_rfl) (by kernel_rfl) ?_
     iterate 14
       with_reducible refine wpQuiet_step (fun K hK => ?_)
       go_simp
       first
       | (refine hK _ ?_; clear hK K)
       | (apply Exists.intro
          refine ⟨fun W hW => ?_,hK _ ?_⟩
          first
          | (go_at_call 157; exact Calls.more hW (rchunks _ _ _ _ _ _ _ _ _ _ _ _ HR.out))
          | (go_at_call 156; exact Calls.more hW (rtable _ _ _ _ _ _ _ _ _ _ _ _ HR.out))
          | (go_at_call 122; exact Calls.more hW (rat_yes _ _))
          | (obtain ⟨e0,e1,e2,e3,e4,e5,e6,e7,e8,e9,e10⟩ := HC.out.cells hW; go_simp; try rfl)
          clear hK K)
     refine wpQuiet_nil ?_
     intro W hW
     have HW := hQQ hW
     clear hW
     go_wp2_with fail
     go_ret
     exact ⟨rfl,HM.out.trans HW.out⟩
   · rw [show tblV pg st k = 0 from if_neg (by omega)]
     have d0 : decide ((0 : Int) ≤ k) = true := by simp; omega
     have d1 : decide (k < chunksV pg) = false := by simp; omega
     have HC := hQQ (cfgAt_new w 30 wk cp pg st tr wt ck pr ca bi ba)
     have HM : Hid (More w (w.alloc (.cells #[.int .i64 wk,.int .i64 cp,.int .i64 pg,.int .i64 st,.int .i64 tr,.int .i64 wt,.int .i64 ck,.int .i64 pr,.int .i64 ca,.int .i64 bi,.int .i64 ba] 30))) := (More.refl w).alloc _
     clear R
     go_enter Tryz.func167,Tryz.ntmps167
     go_wp2_with fail
     generalize w.alloc (.cells #[.int .i64 wk,.int .i64 cp,.int .i64 pg,.int .i64 st,.int .i64 tr,.int .i64 wt,.int .i64 ck,.int .i64 pr,.int .i64 ca,.int .i64 bi,.int .i64 ba] 30) = W0 at *
     have hne : ∃ W,More W0 W := ⟨W0,More.refl _⟩
     refine wp_region_more (by kernel_rfl) (by kernel_rfl) ?_
     iterate 14
       with_reducible refine wpQuiet_step (fun K hK => ?_)
       go_simp
       first
       | (refine hK _ ?_; clear hK K)
       | (apply Exists.intro
          refine ⟨fun W hW => ?_,hK _ ?_⟩
          first
          | (go_at_call 157; exact Calls.more hW (rchunks _ _ _ _ _ _ _ _ _ _ _ _ HR.out))
          | (go_at_call 156; exact Calls.more hW (rtable _ _ _ _ _ _ _ _ _ _ _ _ HR.out))
          | (go_at_call 122; exact Calls.more hW (rat_no _ _))
          | (obtain ⟨e0,e1,e2,e3,e4,e5,e6,e7,e8,e9,e10⟩ := HC.out.cells hW; go_simp; try rfl)
          clear hK K)
     refine wpQuiet_nil ?_
     intro W hW
     have HW := hQQ hW
     clear hW
     go_wp2_with fail
     go_ret
     exact ⟨rfl,HM.out.trans HW.out⟩
 · rw [show tblV pg st k = 0 from if_neg (by omega)]
   have d0 : decide ((0 : Int) ≤ k) = false := by simp; omega
   have HC := hQQ (cfgAt_new w 30 wk cp pg st tr wt ck pr ca bi ba)
   have HM : Hid (More w (w.alloc (.cells #[.int .i64 wk,.int .i64 cp,.int .i64 pg,.int .i64 st,.int .i64 tr,.int .i64 wt,.int .i64 ck,.int .i64 pr,.int .i64 ca,.int .i64 bi,.int .i64 ba] 30))) := (More.refl w).alloc _
   clear R
   go_enter Tryz.func167,Tryz.ntmps167
   go_wp2_with fail
   generalize w.alloc (.cells #[.int .i64 wk,.int .i64 cp,.int .i64 pg,.int .i64 st,.int .i64 tr,.int .i64 wt,.int .i64 ck,.int .i64 pr,.int .i64 ca,.int .i64 bi,.int .i64 ba] 30) = W0 at *
   have hne : ∃ W,More W0 W := ⟨W0,More.refl _⟩
   refine wp_region_more (by kernel_rfl) (by kernel_rfl) ?_
   iterate 14
     with_reducible refine wpQuiet_step (fun K hK => ?_)
     go_simp
     first
     | (refine hK _ ?_; clear hK K)
     | (apply Exists.intro
        refine ⟨fun W hW => ?_,hK _ ?_⟩
        first
        | (go_at_call 157; exact Calls.more hW (rchunks _ _ _ _ _ _ _ _ _ _ _ _ HR.out))
        | (go_at_call 156; exact Calls.more hW (rtable _ _ _ _ _ _ _ _ _ _ _ _ HR.out))
        | (go_at_call 122; exact Calls.more hW (rat_no _ _))
        | (obtain ⟨e0,e1,e2,e3,e4,e5,e6,e7,e8,e9,e10⟩ := HC.out.cells hW; go_simp; try rfl)
        clear hK K)
   refine wpQuiet_nil ?_
   intro W hW
   have HW := hQQ hW
   clear hW
   go_wp2_with fail
   go_ret
   exact ⟨rfl,HM.out.trans HW.out⟩
theorem raddr (p : Int) (R : CfgOk wk cp pg st tr wt ck pr ca bi ba) :
   Calls Tryz.prog 85 #[.agg #[.int .i64 wk,.int .i64 cp,.int .i64 pg,.int .i64 st,.int .i64 tr,.int .i64 wt,.int .i64 ck,.int .i64 pr,.int .i64 ca,.int .i64 bi,.int .i64 ba],.int .i64 p] w (Gives w (.int .i64 (addrV cp pg st ca bi p))) := by
 have HR := hQQ R
 have b1 := userB R
 have b2 := R.pg1
 have b3 := R.pg2
 by_cases c0 : 0 ≤ p
 · skip
   by_cases c1 : p < pg
   · skip
     rw [show addrV cp pg st ca bi p = userV cp pg st ca bi + 32 * p from if_pos (by omega)]
     have d0 : decide ((0 : Int) ≤ p) = true := by simp; omega
     have d1 : decide (p < pg) = true := by simp; omega
     have q0 : IntKind.i64.wrap (32 * p) = 32 * p := wrap_in (by omega) (by omega)
     have q1 : IntKind.i64.wrap (userV cp pg st ca bi + 32 * p) = userV cp pg st ca bi + 32 * p := wrap_in (by omega) (by omega)
     have HC := hQQ (cfgAt_new w 30 wk cp pg st tr wt ck pr ca bi ba)
     have HM : Hid (More w (w.alloc (.cells #[.int .i64 wk,.int .i64 cp,.int .i64 pg,.int .i64 st,.int .i64 tr,.int .i64 wt,.int .i64 ck,.int .i64 pr,.int .i64 ca,.int .i64 bi,.int .i64 ba] 30))) := (More.refl w).alloc _
     clear R
     go_enter Tryz.func85,Tryz.ntmps85
     go_wp2_with fail
     generalize w.alloc (.cells #[.int .i64 wk,.int .i64 cp,.int .i64 pg,.int .i64 st,.int .i64 tr,.int .i64 wt,.int .i64 ck,.int .i64 pr,.int .i64 ca,.int .i64 bi,.int .i64 ba] 30) = W0 at *
     have hne : ∃ W,More W0 W := ⟨W0,More.refl _⟩
     refine wp_region_more (by kernel_rfl) (by kernel_rfl) ?_
     iterate 16
       with_reducible refine wpQuiet_step (fun K hK => ?_)
       go_simp
       first
       | (refine hK _ ?_; clear hK K)
       | (apply Exists.intro
          refine ⟨fun W hW => ?_,hK _ ?_⟩
          first
          | (go_at_call 9; exact Calls.more hW (ruser _ _ _ _ _ _ _ _ _ _ _ _ HR.out))
          | (go_at_call 122; exact Calls.more hW (rat_yes _ _))
          | (obtain ⟨e0,e1,e2,e3,e4,e5,e6,e7,e8,e9,e10⟩ := HC.out.cells hW; go_simp; try rfl)
          clear hK K)
     refine wpQuiet_nil ?_
     intro W hW
     have HW := hQQ hW
     clear hW
     go_wp2_with fail
     go_ret
     exact ⟨rfl,HM.out.trans HW.out⟩
   · rw [show addrV cp pg st ca bi p = 0 from if_neg (by omega)]
     have d0 : decide ((0 : Int) ≤ p) = true := by simp; omega
     have d1 : decide (p < pg) = false := by simp; omega
     have HC := hQQ (cfgAt_new w 30 wk cp pg st tr wt ck pr ca bi ba)
     have HM : Hid (More w (w.alloc (.cells #[.int .i64 wk,.int .i64 cp,.int .i64 pg,.int .i64 st,.int .i64 tr,.int .i64 wt,.int .i64 ck,.int .i64 pr,.int .i64 ca,.int .i64 bi,.int .i64 ba] 30))) := (More.refl w).alloc _
     clear R
     go_enter Tryz.func85,Tryz.ntmps85
     go_wp2_with fail
     generalize w.alloc (.cells #[.int .i64 wk,.int .i64 cp,.int .i64 pg,.int .i64 st,.int .i64 tr,.int .i64 wt,.int .i64 ck,.int .i64 pr,.int .i64 ca,.int .i64 bi,.int .i64 ba] 30) = W0 at *
     have hne : ∃ W,More W0 W := ⟨W0,More.refl _⟩
     refine wp_region_more (by kernel_rfl) (by kernel_rfl) ?_
     iterate 16
       with_reducible refine wpQuiet_step (fun K hK => ?_)
       go_simp
       first
       | (refine hK _ ?_; clear hK K)
       | (apply Exists.intro
          refine ⟨fun W hW => ?_,hK _ ?_⟩
          first
          | (go_at_call 9; exact Calls.more hW (ruser _ _ _ _ _ _ _ _ _ _ _ _ HR.out))
          | (go_at_call 122; exact Calls.more hW (rat_no _ _))
          | (obtain ⟨e0,e1,e2,e3,e4,e5,e6,e7,e8,e9,e10⟩ := HC.out.cells hW; go_simp; try rfl)
          clear hK K)
     refine wpQuiet_nil ?_
     intro W hW
     have HW := hQQ hW
     clear hW
     go_wp2_with fail
     go_ret
     exact ⟨rfl,HM.out.trans HW.out⟩
 · rw [show addrV cp pg st ca bi p = 0 from if_neg (by omega)]
   have d0 : decide ((0 : Int) ≤ p) = false := by simp; omega
   have HC := hQQ (cfgAt_new w 30 wk cp pg st tr wt ck pr ca bi ba)
   have HM : Hid (More w (w.alloc (.cells #[.int .i64 wk,.int .i64 cp,.int .i64 pg,.int .i64 st,.int .i64 tr,.int .i64 wt,.int .i64 ck,.int .i64 pr,.int .i64 ca,.int .i64 bi,.int .i64 ba] 30))) := (More.refl w).alloc _
   clear R
   go_enter Tryz.func85,Tryz.ntmps85
   go_wp2_with fail
   generalize w.alloc (.cells #[.int .i64 wk,.int .i64 cp,.int .i64 pg,.int .i64 st,.int .i64 tr,.int .i64 wt,.int .i64 ck,.int .i64 pr,.int .i64 ca,.int .i64 bi,.int .i64 ba] 30) = W0 at *
   have hne : ∃ W,More W0 W := ⟨W0,More.refl _⟩
   refine wp_region_more (by kernel_rfl) (by kernel_rfl) ?_
   iterate 16
     with_reducible refine wpQuiet_step (fun K hK => ?_)
     go_simp
     first
     | (refine hK _ ?_; clear hK K)
     | (apply Exists.intro
        refine ⟨fun W hW => ?_,hK _ ?_⟩
        first
        | (go_at_call 9; exact Calls.more hW (ruser _ _ _ _ _ _ _ _ _ _ _ _ HR.out))
        | (go_at_call 122; exact Calls.more hW (rat_no _ _))
        | (obtain ⟨e0,e1,e2,e3,e4,e5,e6,e7,e8,e9,e10⟩ := HC.out.cells hW; go_simp; try rfl)
        clear hK K)
   refine wpQuiet_nil ?_
   intro W hW
   have HW := hQQ hW
   clear hW
   go_wp2_with fail
   go_ret
   exact ⟨rfl,HM.out.trans HW.out⟩
theorem rpage (n p : Int) (R : CfgOk wk cp pg st tr wt ck pr ca bi ba) (hn : 0 ≤ n ∧ n ≤ 4) :
   Calls Tryz.prog 115 #[.agg #[.int .i64 wk,.int .i64 cp,.int .i64 pg,.int .i64 st,.int .i64 tr,.int .i64 wt,.int .i64 ck,.int .i64 pr,.int .i64 ca,.int .i64 bi,.int .i64 ba],.int .i64 n,.int .i64 p] w (Gives w (.int .i64 (pageV pg st n p))) := by
 have HR := hQQ R
 have b1 := tableB R
 have b2 := chunksB R
 have b3 := R.pg1
 have b4 := R.pg2
 have b5 := mulB hn.1 hn.2 (show (0 : Int) ≤ pg by omega) b4
 by_cases c0 : 0 ≤ p
 · skip
   by_cases c1 : p < pg
   · skip
     rw [show pageV pg st n p = tableV st + chunksV pg + n * pg + p from if_pos (by omega)]
     have d0 : decide ((0 : Int) ≤ p) = true := by simp; omega
     have d1 : decide (p < pg) = true := by simp; omega
     have q0 : IntKind.i64.wrap (tableV st + chunksV pg) = tableV st + chunksV pg := wrap_in (by omega) (by omega)
     have q1 : IntKind.i64.wrap (n * pg) = n * pg := wrap_in (by omega) (by omega)
     have q2 : IntKind.i64.wrap (tableV st + chunksV pg + n * pg) = tableV st + chunksV pg + n * pg := wrap_in (by omega) (by omega)
     have q3 : IntKind.i64.wrap (tableV st + chunksV pg + n * pg + p) = tableV st + chunksV pg + n * pg + p := wrap_in (by omega) (by omega)
     have HC := hQQ (cfgAt_new w 30 wk cp pg st tr wt ck pr ca bi ba)
     have HM : Hid (More w (w.alloc (.cells #[.int .i64 wk,.int .i64 cp,.int .i64 pg,.int .i64 st,.int .i64 tr,.int .i64 wt,.int .i64 ck,.int .i64 pr,.int .i64 ca,.int .i64 bi,.int .i64 ba] 30))) := (More.refl w).alloc _
     clear R
     go_enter Tryz.func115,Tryz.ntmps115
     go_wp2_with fail
     generalize w.alloc (.cells #[.int .i64 wk,.int .i64 cp,.int .i64 pg,.int .i64 st,.int .i64 tr,.int .i64 wt,.int .i64 ck,.int .i64 pr,.int .i64 ca,.int .i64 bi,.int .i64 ba] 30) = W0 at *
     have hne : ∃ W,More W0 W := ⟨W0,More.refl _⟩
     refine wp_region_more (by kernel_rfl) (by kernel_rfl) ?_
     iterate 24
       with_reducible refine wpQuiet_step (fun K hK => ?_)
       go_simp
       first
       | (refine hK _ ?_; clear hK K)
       | (apply Exists.intro
          refine ⟨fun W hW => ?_,hK _ ?_⟩
          first
          | (go_at_call 156; exact Calls.more hW (rtable _ _ _ _ _ _ _ _ _ _ _ _ HR.out))
          | (go_at_call 157; exact Calls.more hW (rchunks _ _ _ _ _ _ _ _ _ _ _ _ HR.out))
          | (go_at_call 122; exact Calls.more hW (rat_yes _ _))
          | (obtain ⟨e0,e1,e2,e3,e4,e5,e6,e7,e8,e9,e10⟩ := HC.out.cells hW; go_simp; try rfl)
          clear hK K)
     refine wpQuiet_nil ?_
     intro W hW
     have HW := hQQ hW
     clear hW
     go_wp2_with fail
     go_ret
     exact ⟨rfl,HM.out.trans HW.out⟩
   · rw [show pageV pg st n p = 0 from if_neg (by omega)]
     have d0 : decide ((0 : Int) ≤ p) = true := by simp; omega
     have d1 : decide (p < pg) = false := by simp; omega
     have HC := hQQ (cfgAt_new w 30 wk cp pg st tr wt ck pr ca bi ba)
     have HM : Hid (More w (w.alloc (.cells #[.int .i64 wk,.int .i64 cp,.int .i64 pg,.int .i64 st,.int .i64 tr,.int .i64 wt,.int .i64 ck,.int .i64 pr,.int .i64 ca,.int .i64 bi,.int .i64 ba] 30))) := (More.refl w).alloc _
     clear R
     go_enter Tryz.func115,Tryz.ntmps115
     go_wp2_with fail
     generalize w.alloc (.cells #[.int .i64 wk,.int .i64 cp,.int .i64 pg,.int .i64 st,.int .i64 tr,.int .i64 wt,.int .i64 ck,.int .i64 pr,.int .i64 ca,.int .i64 bi,.int .i64 ba] 30) = W0 at *
     have hne : ∃ W,More W0 W := ⟨W0,More.refl _⟩
     refine wp_region_more (by kernel_rfl) (by kernel_rfl) ?_
     iterate 24
       with_reducible refine wpQuiet_step (fun K hK => ?_)
       go_simp
       first
       | (refine hK _ ?_; clear hK K)
       | (apply Exists.intro
          refine ⟨fun W hW => ?_,hK _ ?_⟩
          first
          | (go_at_call 156; exact Calls.more hW (rtable _ _ _ _ _ _ _ _ _ _ _ _ HR.out))
          | (go_at_call 157; exact Calls.more hW (rchunks _ _ _ _ _ _ _ _ _ _ _ _ HR.out))
          | (go_at_call 122; exact Calls.more hW (rat_no _ _))
          | (obtain ⟨e0,e1,e2,e3,e4,e5,e6,e7,e8,e9,e10⟩ := HC.out.cells hW; go_simp; try rfl)
          clear hK K)
     refine wpQuiet_nil ?_
     intro W hW
     have HW := hQQ hW
     clear hW
     go_wp2_with fail
     go_ret
     exact ⟨rfl,HM.out.trans HW.out⟩
 · rw [show pageV pg st n p = 0 from if_neg (by omega)]
   have d0 : decide ((0 : Int) ≤ p) = false := by simp; omega
   have HC := hQQ (cfgAt_new w 30 wk cp pg st tr wt ck pr ca bi ba)
   have HM : Hid (More w (w.alloc (.cells #[.int .i64 wk,.int .i64 cp,.int .i64 pg,.int .i64 st,.int .i64 tr,.int .i64 wt,.int .i64 ck,.int .i64 pr,.int .i64 ca,.int .i64 bi,.int .i64 ba] 30))) := (More.refl w).alloc _
   clear R
   go_enter Tryz.func115,Tryz.ntmps115
   go_wp2_with fail
   generalize w.alloc (.cells #[.int .i64 wk,.int .i64 cp,.int .i64 pg,.int .i64 st,.int .i64 tr,.int .i64 wt,.int .i64 ck,.int .i64 pr,.int .i64 ca,.int .i64 bi,.int .i64 ba] 30) = W0 at *
   have hne : ∃ W,More W0 W := ⟨W0,More.refl _⟩
   refine wp_region_more (by kernel_rfl) (by kernel_rfl) ?_
   iterate 24
     with_reducible refine wpQuiet_step (fun K hK => ?_)
     go_simp
     first
     | (refine hK _ ?_; clear hK K)
     | (apply Exists.intro
        refine ⟨fun W hW => ?_,hK _ ?_⟩
        first
        | (go_at_call 156; exact Calls.more hW (rtable _ _ _ _ _ _ _ _ _ _ _ _ HR.out))
        | (go_at_call 157; exact Calls.more hW (rchunks _ _ _ _ _ _ _ _ _ _ _ _ HR.out))
        | (go_at_call 122; exact Calls.more hW (rat_no _ _))
        | (obtain ⟨e0,e1,e2,e3,e4,e5,e6,e7,e8,e9,e10⟩ := HC.out.cells hW; go_simp; try rfl)
        clear hK K)
   refine wpQuiet_nil ?_
   intro W hW
   have HW := hQQ hW
   clear hW
   go_wp2_with fail
   go_ret
   exact ⟨rfl,HM.out.trans HW.out⟩
theorem rkind (p : Int) (R : CfgOk wk cp pg st tr wt ck pr ca bi ba) :
   Calls Tryz.prog 89 #[.agg #[.int .i64 wk,.int .i64 cp,.int .i64 pg,.int .i64 st,.int .i64 tr,.int .i64 wt,.int .i64 ck,.int .i64 pr,.int .i64 ca,.int .i64 bi,.int .i64 ba],.int .i64 p] w (Gives w (.int .i64 (pageV pg st 0 p))) := by
 have HR := hQQ R
 have e := (cfgAt_new w 30 wk cp pg st tr wt ck pr ca bi ba).cells (More.refl _)
 clear R
 go_enter Tryz.func89,Tryz.ntmps89
 go_wp2_with fail
 refine (rpage _ _ _ _ _ _ _ _ _ _ _ _ 0 p HR.out (by omega)).mono ?_
 rintro e w1 ⟨rfl,h1⟩
 go_wp2_with fail
 go_ret
 exact ⟨rfl,((More.refl _).alloc _).trans h1⟩
theorem rcount (p : Int) (R : CfgOk wk cp pg st tr wt ck pr ca bi ba) :
   Calls Tryz.prog 79 #[.agg #[.int .i64 wk,.int .i64 cp,.int .i64 pg,.int .i64 st,.int .i64 tr,.int .i64 wt,.int .i64 ck,.int .i64 pr,.int .i64 ca,.int .i64 bi,.int .i64 ba],.int .i64 p] w (Gives w (.int .i64 (pageV pg st 1 p))) := by
 have HR := hQQ R
 have e := (cfgAt_new w 30 wk cp pg st tr wt ck pr ca bi ba).cells (More.refl _)
 clear R
 go_enter Tryz.func79,Tryz.ntmps79
 go_wp2_with fail
 refine (rpage _ _ _ _ _ _ _ _ _ _ _ _ 1 p HR.out (by omega)).mono ?_
 rintro e w1 ⟨rfl,h1⟩
 go_wp2_with fail
 go_ret
 exact ⟨rfl,((More.refl _).alloc _).trans h1⟩
theorem rbits (p : Int) (R : CfgOk wk cp pg st tr wt ck pr ca bi ba) :
   Calls Tryz.prog 82 #[.agg #[.int .i64 wk,.int .i64 cp,.int .i64 pg,.int .i64 st,.int .i64 tr,.int .i64 wt,.int .i64 ck,.int .i64 pr,.int .i64 ca,.int .i64 bi,.int .i64 ba],.int .i64 p] w (Gives w (.int .i64 (pageV pg st 2 p))) := by
 have HR := hQQ R
 have e := (cfgAt_new w 30 wk cp pg st tr wt ck pr ca bi ba).cells (More.refl _)
 clear R
 go_enter Tryz.func82,Tryz.ntmps82
 go_wp2_with fail
 refine (rpage _ _ _ _ _ _ _ _ _ _ _ _ 2 p HR.out (by omega)).mono ?_
 rintro e w1 ⟨rfl,h1⟩
 go_wp2_with fail
 go_ret
 exact ⟨rfl,((More.refl _).alloc _).trans h1⟩
theorem rnext (p : Int) (R : CfgOk wk cp pg st tr wt ck pr ca bi ba) :
   Calls Tryz.prog 117 #[.agg #[.int .i64 wk,.int .i64 cp,.int .i64 pg,.int .i64 st,.int .i64 tr,.int .i64 wt,.int .i64 ck,.int .i64 pr,.int .i64 ca,.int .i64 bi,.int .i64 ba],.int .i64 p] w (Gives w (.int .i64 (pageV pg st 3 p))) := by
 have HR := hQQ R
 have e := (cfgAt_new w 30 wk cp pg st tr wt ck pr ca bi ba).cells (More.refl _)
 clear R
 go_enter Tryz.func117,Tryz.ntmps117
 go_wp2_with fail
 refine (rpage _ _ _ _ _ _ _ _ _ _ _ _ 3 p HR.out (by omega)).mono ?_
 rintro e w1 ⟨rfl,h1⟩
 go_wp2_with fail
 go_ret
 exact ⟨rfl,((More.refl _).alloc _).trans h1⟩
theorem rprev (p : Int) (R : CfgOk wk cp pg st tr wt ck pr ca bi ba) :
   Calls Tryz.prog 118 #[.agg #[.int .i64 wk,.int .i64 cp,.int .i64 pg,.int .i64 st,.int .i64 tr,.int .i64 wt,.int .i64 ck,.int .i64 pr,.int .i64 ca,.int .i64 bi,.int .i64 ba],.int .i64 p] w (Gives w (.int .i64 (pageV pg st 4 p))) := by
 have HR := hQQ R
 have e := (cfgAt_new w 30 wk cp pg st tr wt ck pr ca bi ba).cells (More.refl _)
 clear R
 go_enter Tryz.func118,Tryz.ntmps118
 go_wp2_with fail
 refine (rpage _ _ _ _ _ _ _ _ _ _ _ _ 4 p HR.out (by omega)).mono ?_
 rintro e w1 ⟨rfl,h1⟩
 go_wp2_with fail
 go_ret
 exact ⟨rfl,((More.refl _).alloc _).trans h1⟩
end Go.Proofs.YtflihdcliknggaaGreatDoor
namespace Go.Proofs.YtflihdcliknggaaGreatDoor
open Go.RowKit Go.Sort Go.Maps Go.Shelf
section
variable {P : Program} {ops : Array Oper} {rest : List Oper} {o : Oper} {a : Act} {w : World} {Q : Exit → Act → World → Prop}
theorem wpList_load_int (hw : Region.wanted o (yielded ops a.tmps) = true) (ty : TypeId) (x : Operand) (ho : o.op = .load ty x) (g i : Nat) (hx : a.eval x = .pointer (some ⟨g,i,none⟩)) (k : IntKind) (hu : P.underlying ty = some (.int k)) (v : Value) (hc : w.cell? ⟨g,i,none⟩ = some v)
   (h : wpList P ops Q rest (a.put o.dst v) w) : wpList P ops Q (o :: rest) a w :=
 wpList_wanted hw fun K hK => by
   have hr : (loadVar ty ⟨g,i,none⟩).run P w = .ok v w := run_loadVar_cell hu rfl hc
   unfold Oper.wp Oper.upon execOp
   simp only [ho,hx,Instr.loadAt,Instr.sureAddr,Sem.run_bind,Sem.run_pure,Result.andThen_ok,hr]
   exact hK _ _ h
theorem wpList_store_int (hw : Region.wanted o (yielded ops a.tmps) = true) (ty : TypeId) (x y : Operand) (ho : o.op = .store ty x y) (hd : o.dst = none) (g i : Nat) (hx : a.eval x = .pointer (some ⟨g,i,none⟩)) (z : Int) (hy : a.eval y = .int .i64 z) (cs : Array Value) (t : TypeId) (hg : w.heap[g]? = some (.cells cs t (0,0))) (hi : i < cs.size) (hsz : (P.info? ty).map (·.size) = some 1)
   (h : ∀ w',w'.heap[g]? = some (.cells (cs.setIfInBounds i (.int .i64 z)) t (0,0)) → Turned (fun k => k = g) w w' → wpList P ops Q rest a w') : wpList P ops Q (o :: rest) a w :=
 wpList_wanted hw fun K hK => by
   have hc : w.cell? ⟨g,i,none⟩ = some cs[i] := by rw [cell_of_row w g i cs t _ hg,Array.getElem?_eq_getElem hi]
   have hf : w.frozen? ⟨g,i,none⟩ = false := frozen_of_row w g i cs t hg
   have hs : (Instr.storeAt ty (.pointer (some ⟨g,i,none⟩)) (.int .i64 z)).run P w = .ok () (w.setCell ⟨g,i,none⟩ (.int .i64 z)) := by
     cases hq : P.info? ty with
     | none => rw [hq] at hsz; simp at hsz
     | some d =>
       rw [hq] at hsz
       have hs1 : d.size = 1 := by simpa using hsz
       simp [hc,hf,go_sem,sizeOf,typeInfo,hq,hs1]
   have := hK _ _ (h _ (heap_setCell (.int .i64 z) hg) (Turned.setCell (Turned.refl _ w) ⟨g,i,none⟩ (.int .i64 z) (fun _ => rfl)))
   unfold Oper.wp Oper.upon execOp
   simp only [ho,hx,hy,Sem.run_bind,Sem.run_pure,hs,Result.andThen_ok,hd]
   exact this
end
def smallC (c : Cfg) : Cfg := { wk := 1 + c.wk % 4,cp := 1 + c.cp % 2,pg := 1 + c.pg % 9,st := 1 + c.st % 4,tr := c.tr,wt := c.wt,ck := c.ck,pr := 1 + c.pr % 3,ca := c.ca % 3,bi := c.bi % 4,ba := 1 + c.ba % 3 }
structure Cfg.Small (c : Cfg) : Prop where
 ok : c.Ok
 cp2 : c.cp ≤ 2
 pg9 : c.pg ≤ 9
 st4 : c.st ≤ 4
 ca2 : c.ca ≤ 2
 bi3 : c.bi ≤ 3
theorem small_small {c : Cfg} (R : c.Ok) : (smallC c).Small := by
 have h1 := R.wk1; have h2 := R.cp1; have h3 := R.pg1; have h4 := R.st1; have h5 := R.tr1; have h6 := R.tr2; have h7 := R.wt1; have h8 := R.wt2; have h9 := R.ck1; have h10 := R.ck2; have h11 := R.pr1; have h12 := R.ca1; have h13 := R.bi1; have h14 := R.ba1
 unfold smallC
 refine ⟨?_,?_,?_,?_,?_,?_⟩ <;> try (show _ ≤ _; simp only; omega)
 constructor <;> (simp only; omega)
theorem Cfg.Small.words {c : Cfg} (S : c.Small) : 160 ≤ c.words ∧ c.words ≤ 800 := by
 have hb := wordsB S.ok
 refine ⟨hb.1,?_⟩
 have h1 := S.cp2; have h2 := S.pg9; have h3 := S.st4; have h4 := S.ca2; have h5 := S.bi3
 have c0 := S.ok.cp1; have c1 := S.ok.ca1; have c2 := S.ok.bi1; have c3 := S.ok.pg1
 have pb : c.cp * (c.ca + 1) ≤ 2 * 3 := Int.mul_le_mul h1 (by omega) (by omega) (by omega)
 have pa : 5 * c.cp * (c.ca + 1) = 5 * (c.cp * (c.ca + 1)) := by rw [Int.mul_assoc]
 unfold Cfg.words wordsV userV liveV binsV cachesV headsV tableV chunksV
 rw [pa]
 omega
theorem Cfg.Small.tbl {c : Cfg} (S : c.Small) {n : Nat} (hn : (n : Int) = c.words) : TblIn c.pg c.st n := by
 refine ⟨S.ok.st1,S.ok.st2,S.ok.pg1,S.ok.pg2,?_⟩
 rw [hn]
 have h1 := liveB S.ok; have h2 := userB S.ok; have h3 := S.ok.pg1
 have h4 : tableV c.st + chunksV c.pg ≤ headsV c.st c.pg := by unfold headsV; omega
 have h5 : headsV c.st c.pg ≤ liveV c.cp c.pg c.st c.ca c.bi := by
   have := prod5B S.ok; have := S.ok.bi1
   unfold liveV binsV cachesV; omega
 show _ ≤ wordsV c.cp c.pg c.st c.ca c.bi
 unfold wordsV
 omega
theorem small_any {c : Cfg} (R : c.Ok) (y0 y1 y2 y3 y4 y5 y6 y7 y8 y9 y10 : Int) (v : Value) (w : World) (hS : ∀ W,Calls Tryz.prog 66 #[v] W (Gives W (.agg #[.int .i64 c.wk,.int .i64 c.cp,.int .i64 c.pg,.int .i64 c.st,.int .i64 c.tr,.int .i64 c.wt,.int .i64 c.ck,.int .i64 c.pr,.int .i64 c.ca,.int .i64 c.bi,.int .i64 c.ba]))) (hv : v = .agg #[.int .i64 y0,.int .i64 y1,.int .i64 y2,.int .i64 y3,.int .i64 y4,.int .i64 y5,.int .i64 y6,.int .i64 y7,.int .i64 y8,.int .i64 y9,.int .i64 y10]) :
   Calls Tryz.prog 32 #[v] w (Gives w (.agg (smallC c).cells)) := by
 have h1 := R.wk1; have h2 := R.cp1; have h3 := R.pg1; have h4 := R.st1; have h11 := R.pr1; have h12 := R.ca1; have h13 := R.bi1; have h14 := R.ba1
 have g1 := R.wk2; have g2 := R.cp2; have g3 := R.pg2; have g4 := R.st2; have g11 := R.pr2; have g12 := R.ca2; have g13 := R.bi2; have g14 := R.ba2
 have t0 : c.wk.tmod 4 = c.wk % 4 := Int.tmod_eq_emod_of_nonneg (by omega)
 have t1 : c.cp.tmod 2 = c.cp % 2 := Int.tmod_eq_emod_of_nonneg (by omega)
 have t2 : c.pg.tmod 9 = c.pg % 9 := Int.tmod_eq_emod_of_nonneg (by omega)
 have t3 : c.st.tmod 4 = c.st % 4 := Int.tmod_eq_emod_of_nonneg (by omega)
 have t7 : c.pr.tmod 3 = c.pr % 3 := Int.tmod_eq_emod_of_nonneg (by omega)
 have t8 : c.ca.tmod 3 = c.ca % 3 := Int.tmod_eq_emod_of_nonneg (by omega)
 have t9 : c.bi.tmod 4 = c.bi % 4 := Int.tmod_eq_emod_of_nonneg (by omega)
 have t10 : c.ba.tmod 3 = c.ba % 3 := Int.tmod_eq_emod_of_nonneg (by omega)
 have q0 : IntKind.i64.wrap (1 + c.wk % 4) = 1 + c.wk % 4 := wrap_in (by omega) (by omega)
 have q1 : IntKind.i64.wrap (1 + c.cp % 2) = 1 + c.cp % 2 := wrap_in (by omega) (by omega)
 have q2 : IntKind.i64.wrap (1 + c.pg % 9) = 1 + c.pg % 9 := wrap_in (by omega) (by omega)
 have q3 : IntKind.i64.wrap (1 + c.st % 4) = 1 + c.st % 4 := wrap_in (by omega) (by omega)
 have q7 : IntKind.i64.wrap (1 + c.pr % 3) = 1 + c.pr % 3 := wrap_in (by omega) (by omega)
 have q10 : IntKind.i64.wrap (1 + c.ba % 3) = 1 + c.ba % 3 := wrap_in (by omega) (by omega)
 have HS := hQQ hS
 clear hS R h1 h2 h3 h4 h11 h12 h13 h14 g1 g2 g3 g4 g11 g12 g13 g14
 subst hv
 have HA0 := hQQ (row_new w #[.int .i64 y0,.int .i64 y1,.int .i64 y2,.int .i64 y3,.int .i64 y4,.int .i64 y5,.int .i64 y6,.int .i64 y7,.int .i64 y8,.int .i64 y9,.int .i64 y10] 23)
 have HA : Hid (((w.alloc (.cells #[.int .i64 y0,.int .i64 y1,.int .i64 y2,.int .i64 y3,.int .i64 y4,.int .i64 y5,.int .i64 y6,.int .i64 y7,.int .i64 y8,.int .i64 y9,.int .i64 y10] 23)).alloc (.cells #[.int .i64 0,.int .i64 0,.int .i64 0,.int .i64 0,.int .i64 0,.int .i64 0,.int .i64 0,.int .i64 0,.int .i64 0,.int .i64 0,.int .i64 0] 23)).heap[w.heap.size]? = some (.cells #[.int .i64 y0,.int .i64 y1,.int .i64 y2,.int .i64 y3,.int .i64 y4,.int .i64 y5,.int .i64 y6,.int .i64 y7,.int .i64 y8,.int .i64 y9,.int .i64 y10] 23 (0,0))) := ((More.refl _).alloc _).block HA0.out
 have HZ0 : Hid (((w.alloc (.cells #[.int .i64 y0,.int .i64 y1,.int .i64 y2,.int .i64 y3,.int .i64 y4,.int .i64 y5,.int .i64 y6,.int .i64 y7,.int .i64 y8,.int .i64 y9,.int .i64 y10] 23)).alloc (.cells #[.int .i64 0,.int .i64 0,.int .i64 0,.int .i64 0,.int .i64 0,.int .i64 0,.int .i64 0,.int .i64 0,.int .i64 0,.int .i64 0,.int .i64 0] 23)).heap[w.heap.size + 1]? = some (.cells #[.int .i64 0,.int .i64 0,.int .i64 0,.int .i64 0,.int .i64 0,.int .i64 0,.int .i64 0,.int .i64 0,.int .i64 0,.int .i64 0,.int .i64 0] 23 (0,0))) := by
   have := row_new (w.alloc (.cells #[.int .i64 y0,.int .i64 y1,.int .i64 y2,.int .i64 y3,.int .i64 y4,.int .i64 y5,.int .i64 y6,.int .i64 y7,.int .i64 y8,.int .i64 y9,.int .i64 y10] 23)) #[.int .i64 0,.int .i64 0,.int .i64 0,.int .i64 0,.int .i64 0,.int .i64 0,.int .i64 0,.int .i64 0,.int .i64 0,.int .i64 0,.int .i64 0] 23
   rwa [World.size_alloc] at this
 have HM : Hid (More w ((w.alloc (.cells #[.int .i64 y0,.int .i64 y1,.int .i64 y2,.int .i64 y3,.int .i64 y4,.int .i64 y5,.int .i64 y6,.int .i64 y7,.int .i64 y8,.int .i64 y9,.int .i64 y10] 23)).alloc (.cells #[.int .i64 0,.int .i64 0,.int .i64 0,.int .i64 0,.int .i64 0,.int .i64 0,.int .i64 0,.int .i64 0,.int .i64 0,.int .i64 0,.int .i64 0] 23))) := ((More.refl w).alloc _).alloc _
 go_enter Tryz.func32,Tryz.ntmps32
 go_wp2_with (refine wpList_load_row rfl 23 _ rfl _ rfl 23 _ _ _ HA.out Tryz.underlying23 rfl (by kernel_rfl) ?_)
 refine (HS.out _).mono ?_
 rintro e w4 ⟨rfl,m4⟩
 have HB4 := hQQ (setRow_heap w4 w.heap.size _ #[.int .i64 c.wk,.int .i64 c.cp,.int .i64 c.pg,.int .i64 c.st,.int .i64 c.tr,.int .i64 c.wt,.int .i64 c.ck,.int .i64 c.pr,.int .i64 c.ca,.int .i64 c.bi,.int .i64 c.ba] _ _ (m4.block HA.out))
 have HZ4 : Hid ((w4.setRow w.heap.size #[.int .i64 c.wk,.int .i64 c.cp,.int .i64 c.pg,.int .i64 c.st,.int .i64 c.tr,.int .i64 c.wt,.int .i64 c.ck,.int .i64 c.pr,.int .i64 c.ca,.int .i64 c.bi,.int .i64 c.ba]).heap[w.heap.size + 1]? = _) := hQQ ((setRow_other w4 w.heap.size (w.heap.size + 1) #[.int .i64 c.wk,.int .i64 c.cp,.int .i64 c.pg,.int .i64 c.st,.int .i64 c.tr,.int .i64 c.wt,.int .i64 c.ck,.int .i64 c.pr,.int .i64 c.ca,.int .i64 c.bi,.int .i64 c.ba] (by omega)).trans (m4.block HZ0.out))
 have HM4 : Hid (More w (w4.setRow w.heap.size #[.int .i64 c.wk,.int .i64 c.cp,.int .i64 c.pg,.int .i64 c.st,.int .i64 c.tr,.int .i64 c.wt,.int .i64 c.ck,.int .i64 c.pr,.int .i64 c.ca,.int .i64 c.bi,.int .i64 c.ba])) := (HM.out.trans m4).setRow _ _ (Nat.le_refl _)
 have HX4 := hQQ (m4.block HA.out)
 clear m4
 have hw1 : w.heap.size + 1 < (w4.setRow w.heap.size #[.int .i64 c.wk,.int .i64 c.cp,.int .i64 c.pg,.int .i64 c.st,.int .i64 c.tr,.int .i64 c.wt,.int .i64 c.ck,.int .i64 c.pr,.int .i64 c.ca,.int .i64 c.bi,.int .i64 c.ba]).heap.size := lt_of_heap HZ4.out
 go_wp2_with (first
   | (refine wpList_store_row rfl 23 _ _ rfl _ _ rfl rfl 23 _ HX4.out (by kernel_rfl) rfl (by simp [Value.oneCell']) ?_; generalize w4.setRow w.heap.size #[.int .i64 c.wk,.int .i64 c.cp,.int .i64 c.pg,.int .i64 c.st,.int .i64 c.tr,.int .i64 c.wt,.int .i64 c.ck,.int .i64 c.pr,.int .i64 c.ca,.int .i64 c.bi,.int .i64 c.ba] = w5 at HB4 HZ4 HM4 hw1 ⊢; have HB := HB4; have HZ := HZ4; have HT := HM4; clear HX4 HB4 HZ4 HM4)
   | (refine wpList_load_int rfl 3 _ rfl w.heap.size _ rfl .i64 Tryz.underlying3 _ (cell_more HB.out (More.refl _) rfl) ?_)
   | (refine wpList_store_int rfl 3 _ _ rfl rfl w.heap.size _ rfl _ rfl _ _ HB.out (by simp) (by kernel_rfl) ?_; intro w6 hb6 ht6; simp only [List.setIfInBounds_toArray,List.set_cons_zero,List.set_cons_succ] at hb6; have HZ := hQQ ((Turned.block ht6 (w.heap.size + 1) (lt_of_heap HZ.out) (by omega)).trans HZ.out); have HT : Hid (More w w6) := hQQ (Turned.mono (turned_own (F:=fun _ => False) HT.out ht6 (fun k q => .inr (by omega))) (fun _ _ q => q)); have HB := hQQ hb6; clear hb6 ht6)
   | (refine wpList_load_row rfl 23 _ rfl _ rfl 23 _ _ _ HB.out Tryz.underlying23 rfl (by kernel_rfl) ?_)
   | (refine wpList_store_row rfl 23 _ _ rfl _ _ rfl rfl 23 _ HZ.out (by kernel_rfl) rfl (by simp [Value.oneCell']) ?_))
 refine bodyPost_ret (v:=.agg (smallC c).cells) (results_cell_row Tryz.results32 _ _ _ 23 _ (0,0) _ rfl (setRow_heap _ _ _ _ _ _ HZ.out) Tryz.underlying23 rfl (by kernel_rfl)) rfl ⟨rfl,?_⟩
 exact HT.out.setRow _ _ (by omega)
def zeros (n : Nat) : List Int := List.replicate n 0
theorem zeros_len (n : Nat) : (zeros n).length = n := by simp [zeros]
theorem zeros_made (n : Nat) : (madeCells (Value.int .i64 0).cells (n * 1)).toList = (zeros n).map (Value.int .i64) := by
 apply List.ext_getElem
 · simp [madeCells,zeros,Value.cells]
 · intro i h1 h2
   simp [madeCells,zeros,Value.cells,Nat.mod_one]
theorem okW_zeros (n : Nat) : OkW (zeros n) := fun x hx => by
 have := List.eq_of_mem_replicate hx
 subst this; unfold W64; omega
def Ws (w : World) (g cap : Nat) (zs : List Int) : Prop := ∃ cur : Array Value,w.heap[g]? = some (.cells cur 3 (0,0)) ∧ zs.length ≤ cap ∧ cap ≤ maxLen ∧ cur.size = cap ∧ ∀ i,i < zs.length → cur[i]? = some (.int .i64 (zs.getD i 0))
theorem Ws.of_rw {w : World} {base g cap : Nat} {zs : List Int} (h : Rw base w (.slice (some ⟨g,0,none⟩) zs.length cap) zs) : Ws w g cap zs := by
 rcases h.2 with ⟨q,_⟩ | ⟨g',cap',cur,q,hb,hg,h1,h2,h3,h4⟩
 · cases q
 · cases q
   refine ⟨cur,hg,h1,h2,by simpa using h3,fun i hi => ?_⟩
   have h5 : (cur.toList.take (zs.length * 1))[i]? = some (.int .i64 (zs.getD i 0)) := by
     rw [h4,List.getElem?_map,List.getElem?_eq_getElem hi]; simp [List.getD,hi]
   rw [List.getElem?_take,if_pos (by omega)] at h5
   simpa using h5
theorem Ws.rw' {w : World} {base g cap : Nat} {zs : List Int} (h : Ws w g cap zs) (hb : base ≤ g) : Rw base w (.slice (some ⟨g,0,none⟩) zs.length cap) zs := by
 obtain ⟨cur,hg,h1,h2,h3,h4⟩ := h
 refine ⟨by simp,.inr ⟨g,cap,cur,rfl,hb,hg,h1,h2,by simpa using h3,?_⟩⟩
 apply List.ext_getElem?
 intro i
 rw [List.getElem?_take]
 by_cases hi : i < zs.length
 · rw [if_pos (by omega),List.getElem?_map,List.getElem?_eq_getElem hi]
   have := h4 i hi
   simpa [List.getD,hi] using this
 · rw [if_neg (by omega)]
   simp [hi]
theorem Ws.cell {w : World} {g cap : Nat} {zs : List Int} (h : Ws w g cap zs) {i : Nat} (hi : i < zs.length) : w.cell? ⟨g,i,none⟩ = some (.int .i64 (zs.getD i 0)) := by
 obtain ⟨cur,hg,_,_,_,h4⟩ := h
 rw [cell_of_row w g i _ _ _ hg,h4 i hi]
theorem Ws.froz {w : World} {g cap : Nat} {zs : List Int} (h : Ws w g cap zs) (i : Nat) : w.frozen? ⟨g,i,none⟩ = false := by
 obtain ⟨cur,hg,_⟩ := h
 exact frozen_of_row w g i _ _ hg
theorem Ws.lt {w : World} {g cap : Nat} {zs : List Int} (h : Ws w g cap zs) : g < w.heap.size := by
 obtain ⟨cur,hg,_⟩ := h
 exact lt_of_heap hg
theorem Ws.keep {S : Nat → Prop} {w w' : World} {g cap : Nat} {zs : List Int} (h : Ws w g cap zs) (t : Turned S w w') (hs : ¬ S g) : Ws w' g cap zs := by
 obtain ⟨cur,hg,q⟩ := h
 exact ⟨cur,(t.block g (lt_of_heap hg) hs).trans hg,q⟩
theorem Ws.more {w w' : World} {g cap : Nat} {zs : List Int} (h : Ws w g cap zs) (t : More w w') : Ws w' g cap zs := by
 obtain ⟨cur,hg,q⟩ := h
 exact ⟨cur,t.block hg,q⟩
theorem Ws.set {w : World} {g cap : Nat} {zs : List Int} (h : Ws w g cap zs) {i : Nat} (hi : i < zs.length) (x : Int) : Ws (w.setCell ⟨g,i,none⟩ (.int .i64 x)) g cap (zs.set i x) := by
 obtain ⟨cur,hg,h1,h2,h3,h4⟩ := h
 refine ⟨_,heap_setCell _ hg,by simpa using h1,h2,by simpa using h3,fun j hj => ?_⟩
 have hj' : j < zs.length := by simpa using hj
 rw [Array.getElem?_setIfInBounds]
 by_cases e : i = j
 · subst e
   rw [if_pos rfl,if_pos (by omega)]
   simp [List.getD,hj']
 · rw [if_neg e,h4 j hj']
   simp [List.getD,List.getElem?_set_ne e]
theorem Ws.words {w : World} {g cap : Nat} {zs : List Int} (h : Ws w g cap zs) : IsWords w (some ⟨g,0,none⟩) zs :=
 .inr ⟨g,0,rfl,h.lt,fun i hi => by rw [Nat.zero_add]; exact h.cell hi⟩
end Go.Proofs.YtflihdcliknggaaGreatDoor
namespace Go.Proofs.YtflihdcliknggaaGreatDoor
open Go.RowKit
section
variable {P : Program} {ops : Array Oper} {md : Region.Mode} {C : World → Prop} {Q : Exit → Act → World → Prop}
def YieldsC (P : Program) (ops : Array Oper) (C : World → Prop) (o : Oper) (v : Value) (a : Act) : Prop :=
 (Region.wanted o (yielded ops a.tmps) = true ∧ ∀ w,C w → (execOp a.eval o).run P w = .ok (.value v) w) ∨
 (Region.wanted o (yielded ops a.tmps) = false ∧ v = undef)
theorem YieldsC.wpOp {i : Nat} {o : Oper} {v : Value} {a : Act} (hi : ops[i]? = some o) (hy : YieldsC P ops C o v a)
   {K : Act → World → Prop} {w : World} (hC : C w) (h : K (a.put o.dst v) w) : wpOp P ops Q i K a w := by
 unfold Go.wpOp
 simp only [hi]
 rcases hy with ⟨hw,hv⟩ | ⟨hw,rfl⟩
 · simp only [hw,if_true,Oper.wp,hv w hC,Oper.upon]; exact .inl h
 · simp only [hw,Bool.false_eq_true,if_false]; exact h
theorem YieldsC.of_same {o : Oper} {v : Value} {a a' : Act} (hy : YieldsC P ops C o v a) (he : execOp a'.eval o = execOp a.eval o)
   (hw : Region.wanted o (yielded ops a'.tmps) = Region.wanted o (yielded ops a.tmps)) : YieldsC P ops C o v a' := by
 unfold YieldsC at *
 rw [he,hw]
 exact hy
theorem wpOp_putC {j : Nat} {oi oj : Oper} {v : Value} (hj : ops[j]? = some oj) (hap : oi.apart ops oj = true)
   (hsi : ∀ cs b,oi.op ≠ .select cs b) (hsj : ∀ cs b,oj.op ≠ .select cs b)
   (hQ : ∀ c a w,Q (.panic c) (a.put oi.dst v) w → Q (.panic c) a w) {K : Act → World → Prop} {a : Act} {w : World}
   (hy : YieldsC P ops C oi v a) (h : wpOp P ops Q j K (a.put oi.dst v) w) :
   wpOp P ops Q j (fun a' w' => YieldsC P ops C oi v a' ∧ K (a'.put oi.dst v) w') a w := by
 obtain ⟨h1,h2,h3⟩ := Oper.apart_spec hap
 have keep : ∀ (a : Act),YieldsC P ops C oi v a → ∀ u,YieldsC P ops C oi v (a.put oj.dst u) := fun a hy u =>
   hy.of_same (execOp_put oi hsi a oj.dst u h3) (wanted_put oi a oj.dst u h3)
 have keepD : ∀ d,YieldsC P ops C oi v { a with defers := d :: a.defers } := fun d => hy.of_same rfl rfl
 unfold wpOp at *
 simp only [hj] at *
 rw [wanted_put oj a oi.dst v h1] at h
 split
 · rename_i hw
   simp only [hw,if_true] at h
   rcases h with h | ⟨hasks,hlets⟩
   case inr => exact .inr ⟨by unfold Oper.asks at *; rw [execOp_put oj hsj a oi.dst v h1] at hasks; exact hasks,hlets⟩
   refine .inl ?_
   unfold Oper.wp at *
   rw [execOp_put oj hsj a oi.dst v h1] at h
   generalize (execOp a.eval oj).run P w = r at *
   cases r with
   | ok n w' =>
     cases n <;> simp only [Oper.upon] at h ⊢
     case value u => exact ⟨keep a hy u,by rw [← Act.put_comm a v u h2]; exact h⟩
     case skip => exact ⟨keep a hy _,by rw [← Act.put_comm a v undef h2]; exact h⟩
     case defer d =>
       refine ⟨keep _ (keepD d) _,?_⟩
       rw [← Act.put_comm _ v undef h2,← Act.put_defers]
       exact h
     case enter f args =>
       refine Calls.mono h fun e w'' he => ?_
       cases e with
       | returned u => exact ⟨keep a hy u,by rw [← Act.put_comm a v u h2]; exact he⟩
       | panicked c => exact hQ _ _ _ he
       | outgrown => exact he
     case row row args => exact Rows.mono h fun u w'' he => ⟨keep a hy u,by rw [← Act.put_comm a v u h2]; exact he⟩
   | halt x w' =>
     cases x <;> simp only [Oper.upon] at h ⊢
     case panic u => exact hQ _ _ _ h
 · rename_i hw
   simp only [hw] at h
   exact ⟨keep a hy _,by rw [← Act.put_comm a v undef h2]; exact h⟩
def anyC (P : Program) (md : Region.Mode) (ops : Array Oper) (C : World → Prop) (Q : Exit → Act → World → Prop) : Nat → Array Bool → Act → World → Prop
 | 0,d,a,w => Region.ready md ops d = [] ∧ Q .normal a w
 | f + 1,d,a,w => (Region.ready md ops d = [] → Q .normal a w) ∧ ∀ i ∈ Region.ready md ops d,wpOp P ops Q i (fun a' w' => C w' ∧ anyC P md ops C Q f (d.setIfInBounds i true) a' w') a w
theorem any_of_C : ∀ (f : Nat) (d : Array Bool) (a : Act) (w : World),anyC P md ops C Q f d a w → wpAny P md ops Q f d a w := by
 intro f
 induction f with
 | zero => intro d a w h; exact h
 | succ f ih => intro d a w h; exact ⟨h.1,fun i hi => wpOp_mono (fun a' w' z => ih _ a' w' z.2) (h.2 i hi)⟩
theorem anyC_first {i : Nat} {oi : Oper} {v : Value} (hi : ops[i]? = some oi) (hsel : ∀ (j : Nat) (o : Oper) cs b,ops[j]? = some o → o.op ≠ .select cs b)
   (hQ : ∀ c a w,Q (.panic c) (a.put oi.dst v) w → Q (.panic c) a w) :
   ∀ (fuel : Nat) (listed : Array Bool) (a : Act) (w : World),C w →
     (∀ j oj,ops[j]? = some oj → j ≠ i → listed.getD j true = false → (∀ e ∈ oj.after,Region.binds md e = true → e.on ≠ i) → oi.apart ops oj = true) →
     i ∈ Region.ready md ops listed → YieldsC P ops C oi v a →
     anyC P md ops C Q fuel (listed.setIfInBounds i true) (a.put oi.dst v) w → anyC P md ops C Q (fuel + 1) listed a w := by
 intro fuel
 induction fuel with
 | zero =>
   intro listed a w hC _ hr hy H
   refine ⟨fun h => (by rw [h] at hr; cases hr),fun j hj => ?_⟩
   by_cases hji : j = i
   · subst hji; exact hy.wpOp hi hC ⟨hC,H⟩
   · have := ready_mono hj hji
     rw [H.1] at this
     cases this
 | succ fuel ih =>
   intro listed a w hC hfree hr hy H
   refine ⟨fun h => (by rw [h] at hr; cases hr),fun j hj => ?_⟩
   by_cases hji : j = i
   · subst hji; exact hy.wpOp hi hC ⟨hC,H⟩
   · have h1 := H.2 j (ready_mono hj hji)
     obtain ⟨hjun,oj,hoj,hall⟩ := mem_ready.1 hj
     have hnot : ∀ e ∈ oj.after,Region.binds md e = true → e.on ≠ i := fun e he hb heq => by
       have h1 := hall e he hb
       have h0 := (mem_ready.1 hr).1
       rw [heq] at h1
       rcases Nat.lt_or_ge i listed.size with h' | h'
       · simp [h'] at h0 h1; rw [h0] at h1; cases h1
       · simp [Array.getElem?_eq_none h'] at h1
     have h2 := wpOp_putC hoj (hfree j oj hoj hji hjun hnot) (fun cs b => hsel i oi cs b hi) (fun cs b => hsel j oj cs b hoj) hQ hy h1
     have hfree' : ∀ k ok,ops[k]? = some ok → k ≠ i → (listed.setIfInBounds j true).getD k true = false →
         (∀ e ∈ ok.after,Region.binds md e = true → e.on ≠ i) → oi.apart ops ok = true := fun k ok hk hki hun hno => by
       refine hfree k ok hk hki ?_ hno
       by_cases hjk : j = k
       · subst hjk; exact hjun
       · rw [getD_set_ne true hjk] at hun; exact hun
     refine wpOp_mono (fun a' w' h3 => ⟨h3.2.1,ih (listed.setIfInBounds j true) a' w' h3.2.1 hfree' (ready_mono hr (Ne.symm hji)) h3.1 ?_⟩) h2
     rw [Array.setIfInBounds_comm _ _ hji]
     exact h3.2.2
theorem anyC_take {i : Nat} {oi : Oper} {v : Value} {fuel : Nat} {listed : Array Bool} {a : Act} {w : World} (hi : ops[i]? = some oi)
   (hs : Region.noSelect ops = true) (hf : Region.free md ops listed i = true) (hr : (Region.ready md ops listed).contains i = true)
   (hQ : ∀ c a w,Q (.panic c) (a.put oi.dst v) w → Q (.panic c) a w) (hC : C w) (hy : YieldsC P ops C oi v a)
   (h : anyC P md ops C Q fuel (listed.setIfInBounds i true) (a.put oi.dst v) w) : anyC P md ops C Q (fuel + 1) listed a w :=
 anyC_first hi (Region.noSelect_spec hs) hQ fuel listed a w hC (Region.free_spec hi hf) (by simpa using hr) hy h
theorem anyC_takeD {i : Nat} {oi : Oper} {v : Value} {fuel : Nat} {listed : Array Bool} {a : Act} {w : World} (d : Option Tmp) (hi : ops[i]? = some oi) (hd : oi.dst = d)
   (hs : Region.noSelect ops = true) (hf : Region.free md ops listed i = true) (hr : (Region.ready md ops listed).contains i = true)
   (hQ : ∀ c a w,Q (.panic c) (a.put d v) w → Q (.panic c) a w) (hC : C w) (hy : YieldsC P ops C oi v a)
   (h : anyC P md ops C Q fuel (listed.setIfInBounds i true) (a.put d v) w) : anyC P md ops C Q (fuel + 1) listed a w := by
 subst hd; exact anyC_take hi hs hf hr hQ hC hy h
theorem anyC_one {i : Nat} {o : Oper} {fuel : Nat} {listed : Array Bool} {a : Act} {w : World} (hr : Region.ready md ops listed = [i]) (hi : ops[i]? = some o) (hw : Region.wanted o (yielded ops a.tmps) = true)
   (h : Oper.wp P o a w (fun a' w' => C w' ∧ anyC P md ops C Q fuel (listed.setIfInBounds i true) a' w') Q) : anyC P md ops C Q (fuel + 1) listed a w := by
 refine ⟨fun q => (by rw [hr] at q; cases q),fun j hj => ?_⟩
 rw [hr] at hj
 obtain rfl : j = i := by simpa using hj
 unfold Go.wpOp
 simp only [hi,hw,if_true]
 exact .inl h
theorem anyC_done {fuel : Nat} {listed : Array Bool} {a : Act} {w : World} (hr : Region.ready md ops listed = []) (h : Q .normal a w) : anyC P md ops C Q fuel listed a w := by
 cases fuel with
 | zero => exact ⟨hr,h⟩
 | succ f => exact ⟨fun _ => h,fun i hi => (by rw [hr] at hi; cases hi)⟩
theorem yieldsC_row {o : Oper} {a : Act} (hw : Region.wanted o (yielded ops a.tmps) = true) (ty : TypeId) (x : Operand) (ho : o.op = .load ty x) (g : Nat) (hx : a.eval x = .pointer (some ⟨g,0,none⟩)) (t : TypeId) (cs : Array Value) (fr : Nat × Nat) (d : TypeDesc) (hg : ∀ w,C w → w.heap[g]? = some (.cells cs t fr))
   (hu : P.underlying ty = some d) (hd : (match d with | .struct _ | .array _ _ => true | _ => false) = true) (hi : (P.info? ty).map (·.size) = some cs.size) : YieldsC P ops C o (.agg cs) a := by
 refine .inl ⟨hw,fun w hC => ?_⟩
 unfold execOp
 simp only [ho,hx,Instr.loadAt,Instr.sureAddr,Sem.run_bind,Sem.run_pure,Result.andThen_ok,run_loadVar_row w g t ty cs fr d (hg w hC) hu hd hi]
end
theorem wp_region_anyC {P : Program} {ops : Array Oper} {id : Nat} {a : Act} {w : World} {Q : Exit → Act → World → Prop} (C : World → Prop) (hm : P.follows .mixedOrders = true)
   (h : anyC P .any ops C Q ops.size (Array.replicate ops.size false) a { w with drawn := w.drawn + 1 }) : (Code.region id ops true).wp P Q a w := wp_region_any hm (any_of_C _ _ _ _ h)
end Go.Proofs.YtflihdcliknggaaGreatDoor
namespace Go.Proofs.YtflihdcliknggaaGreatDoor
open Go.RowKit Go.Sort Go.Maps Go.Shelf
section
variable {P : Program} {o : Oper} {a : Act} {w : World} {K : Act → World → Prop} {Q : Exit → Act → World → Prop}
theorem wp_call2 {f : Nat} {x0 x1 : Operand} {v0 v1 : Value} {ts : Array TypeId} (ho : o.op = .call { callee := .value (.func f),args := #[x0,x1],argTypes := ts }) (h0 : a.eval x0 = v0) (h1 : a.eval x1 = v1) (he : ∀ (vs : Array Value) (w : World),Sem.run P (callFunc f vs) w = .ok (.enter f vs) w)
   (h : Calls P f #[v0,v1] w (fun | .returned v,w'' => K (a.put o.dst v) w'' | .panicked ch,w'' => Q (.panic ch) a w'' | .outgrown,_ => LetsOut Q)) : o.wp P a w K Q := by
 have hv : a.eval (.func f) = .func (.func f) #[] #[] := rfl
 unfold Oper.wp Oper.upon
 generalize hρ : a.eval = ρ at h0 h1 hv ⊢
 simp [execOp,ho,resolve,invoke,hv,h0,h1,he,Sem.run_bind,Result.andThen,go_sem]
 exact h
end
theorem any_start {P : Program} {md : Region.Mode} {ops : Array Oper} {Q : Exit → Act → World → Prop} {n : Nat} {dn : Array Bool} {a : Act} {w : World} (Φ : World → Prop) (ch : List PanicEntry) (fin : ∀ a w,a.defers = [] → Φ w → Q (.panic ch) a w) (h : ∀ Q' : Exit → Act → World → Prop,(∀ a w,a.defers = [] → Φ w → Q' (.panic ch) a w) → wpAny P md ops Q' n dn a w) : wpAny P md ops Q n dn a w := h Q fin
def AG (m : Nat) (a : Act) (L : List (Nat × Value)) : Prop := (m ≤ a.tmps.size ∧ a.defers = []) ∧ ∀ q ∈ L,a.eval (.tmp q.1) = q.2
theorem AG.put {m : Nat} {a : Act} {L : List (Nat × Value)} (h : AG m a L) (d : Nat) (v : Value) (hd : d < m) (hn : L.all (fun q => q.1 != d) = true) : AG m (a.put (some d) v) ((d,v) :: L) := by
 have hs := h.1.1
 refine ⟨⟨by simp [Act.put]; exact hs,h.1.2⟩,?_⟩
 intro q hq
 rcases List.mem_cons.1 hq with rfl | hq
 · have hlt : d < a.tmps.size := by omega
   simp [Act.put,Act.eval,Array.getD,hlt]
 · rw [Act.eval_put (by have := List.all_eq_true.1 hn q hq; simp at this; rintro _ ⟨⟩; simp [this])]
   exact h.2 q hq
theorem AG.get {m : Nat} {a : Act} {L : List (Nat × Value)} (h : AG m a L) (i : Nat) {k : Nat} {v : Value} (hm : L[i]? = some (k,v)) : a.eval (.tmp k) = v := h.2 (k,v) (List.mem_of_getElem? hm)
theorem frame_g {P : Program} {md : Region.Mode} {ops : Array Oper} {Q : Exit → Act → World → Prop} {n : Nat} {dn : Array Bool} {A : Act} {W : World} (m : Nat) (L : List (Nat × Value)) (hA : AG m A L) (h : ∀ a,AG m a L → wpAny P md ops Q n dn a W) : wpAny P md ops Q n dn A W := h A hA
section
variable {P : Program} {o : Oper} {a : Act} {w : World} {K : Act → World → Prop} {Q : Exit → Act → World → Prop}
theorem wp_call3 {f : Nat} {x0 x1 x2 : Operand} {v0 v1 v2 : Value} {ts : Array TypeId} (ho : o.op = .call { callee := .value (.func f),args := #[x0,x1,x2],argTypes := ts }) (h0 : a.eval x0 = v0) (h1 : a.eval x1 = v1) (h2 : a.eval x2 = v2) (he : ∀ (vs : Array Value) (w : World),Sem.run P (callFunc f vs) w = .ok (.enter f vs) w)
   (h : Calls P f #[v0,v1,v2] w (fun | .returned v,w'' => K (a.put o.dst v) w'' | .panicked ch,w'' => Q (.panic ch) a w'' | .outgrown,_ => LetsOut Q)) : o.wp P a w K Q := by
 have hv : a.eval (.func f) = .func (.func f) #[] #[] := rfl
 unfold Oper.wp Oper.upon
 generalize hρ : a.eval = ρ at h0 h1 h2 hv ⊢
 simp [execOp,ho,resolve,invoke,hv,h0,h1,h2,he,Sem.run_bind,Result.andThen,go_sem]
 exact h
theorem wp_callv1 {xf : Operand} {f : Nat} {clo : Array Value} {x0 : Operand} {v0 : Value} {ts : Array TypeId} (ho : o.op = .call { callee := .value xf,args := #[x0],argTypes := ts }) (hf : a.eval xf = .func (.func f) #[] clo) (h0 : a.eval x0 = v0) (he : ∀ (vs : Array Value) (w : World),Sem.run P (callFunc f vs) w = .ok (.enter f vs) w)
   (h : Calls P f (#[v0] ++ clo) w (fun | .returned v,w'' => K (a.put o.dst v) w'' | .panicked ch,w'' => Q (.panic ch) a w'' | .outgrown,_ => LetsOut Q)) : o.wp P a w K Q := by
 unfold Oper.wp Oper.upon
 generalize hρ : a.eval = ρ at h0 hf ⊢
 simp [execOp,ho,resolve,invoke,hf,h0,he,Sem.run_bind,Result.andThen,go_sem]
 exact h
end
theorem anyC_start {P : Program} {md : Region.Mode} {ops : Array Oper} {C : World → Prop} {Q : Exit → Act → World → Prop} {f : Nat} {d : Array Bool} {a : Act} {w : World} (Φ : Act → World → Prop) (Ψ : World → Prop) (ch : List PanicEntry) (fp : ∀ a w,a.defers = [] → Ψ w → Q (.panic ch) a w) (fq : ∀ c a k v w,Q (.panic c) (Act.put a (some k) v) w → Q (.panic c) a w) (fn : ∀ a w,Φ a w → Q .normal a w)
   (h : ∀ Q' : Exit → Act → World → Prop,(∀ a w,Φ a w → Q' .normal a w) → (∀ a w,a.defers = [] → Ψ w → Q' (.panic ch) a w) → (∀ c a k v w,Q' (.panic c) (Act.put a (some k) v) w → Q' (.panic c) a w) → anyC P md ops C Q' f d a w) : anyC P md ops C Q f d a w := h Q fn fp fq
theorem frame_c {P : Program} {md : Region.Mode} {ops : Array Oper} {C : World → Prop} {Q : Exit → Act → World → Prop} {n : Nat} {dn : Array Bool} {A : Act} {W : World} (m : Nat) (L : List (Nat × Value)) (hA : AG m A L) (h : ∀ a,AG m a L → anyC P md ops C Q n dn a W) : anyC P md ops C Q n dn A W := h A hA
theorem AG.getD {m : Nat} {a : Act} {L : List (Nat × Value)} (h : AG m a L) (i : Nat) {k : Nat} {v : Value} (hm : L[i]? = some (k,v)) : a.tmps[k]?.getD undef = v := by
 have := h.get i hm
 simpa [Act.eval] using this
section
variable {P : Program} {ops : Array Oper} {md : Region.Mode} {C : World → Prop} {Q : Exit → Act → World → Prop}
theorem wanted_none {o : Oper} {f : Nat → Option Bool} (hg : o.guard = none) : Region.wanted o f = true := by simp [Region.wanted,hg]
theorem yieldsC_moveG {o : Oper} {a : Act} {v : Value} (hw : Region.wanted o (yielded ops a.tmps) = true) (x : Operand) (ho : o.op = .move x) (hx : a.eval x = v) : YieldsC P ops C o v a :=
 .inl ⟨hw,fun w _ => by unfold execOp; simp only [ho,hx]; rfl⟩
theorem anyC_oneK {i : Nat} {o : Oper} {fuel : Nat} {listed : Array Bool} {a : Act} {w : World} (d : Option Tmp) (hr : Region.ready md ops listed = [i]) (hi : ops[i]? = some o) (hw : Region.wanted o (yielded ops a.tmps) = true) (hd : o.dst = d)
   (h : ∀ K : Act → World → Prop,(∀ v w',C w' → anyC P md ops C Q fuel (listed.setIfInBounds i true) (a.put d v) w' → K (a.put o.dst v) w') → Oper.wp P o a w K Q) : anyC P md ops C Q (fuel + 1) listed a w := by
 subst hd
 exact anyC_one hr hi hw (h _ (fun v w' hc hA => ⟨hc,hA⟩))
theorem anyC_last {i : Nat} {o : Oper} {fuel : Nat} {listed : Array Bool} {a : Act} {w : World} (hr : Region.ready md ops listed = [i]) (hr2 : Region.ready md ops (listed.setIfInBounds i true) = []) (hi : ops[i]? = some o) (hw : Region.wanted o (yielded ops a.tmps) = true)
   (h : ∀ K : Act → World → Prop,(∀ v w',C w' → Q .normal (a.put o.dst v) w' → K (a.put o.dst v) w') → Oper.wp P o a w K Q) : anyC P md ops C Q (fuel + 1) listed a w :=
 anyC_one hr hi hw (h _ (fun v w' hc hq => ⟨hc,anyC_done hr2 hq⟩))
variable {o : Oper} {a : Act} {w : World} {K : Act → World → Prop}
theorem wp_call5 {f : Nat} {x0 x1 x2 x3 x4 : Operand} {v0 v1 v2 v3 v4 : Value} {ts : Array TypeId} (ho : o.op = .call { callee := .value (.func f),args := #[x0,x1,x2,x3,x4],argTypes := ts }) (h0 : a.eval x0 = v0) (h1 : a.eval x1 = v1) (h2 : a.eval x2 = v2) (h3 : a.eval x3 = v3) (h4 : a.eval x4 = v4) (he : ∀ (vs : Array Value) (w : World),Sem.run P (callFunc f vs) w = .ok (.enter f vs) w)
   (h : Calls P f #[v0,v1,v2,v3,v4] w (fun | .returned v,w'' => K (a.put o.dst v) w'' | .panicked ch,w'' => Q (.panic ch) a w'' | .outgrown,_ => LetsOut Q)) : o.wp P a w K Q := by
 have hv : a.eval (.func f) = .func (.func f) #[] #[] := rfl
 unfold Oper.wp Oper.upon
 generalize hρ : a.eval = ρ at h0 h1 h2 h3 h4 hv ⊢
 simp [execOp,ho,resolve,invoke,hv,h0,h1,h2,h3,h4,he,Sem.run_bind,Result.andThen,go_sem]
 exact h
end
section
variable {P : Program} {ops : Array Oper} {md : Region.Mode} {C : World → Prop} {Q : Exit → Act → World → Prop} {o : Oper} {a : Act} {v : Value}
theorem yieldsC_addI {x y : Operand} {u z : Int} (hw : Region.wanted o (yielded ops a.tmps) = true) (ho : o.op = .binOp .add 3 x y 3) (hx : a.eval x = .int .i64 u) (hy : a.eval y = .int .i64 z) (t : Int) (hq : IntKind.i64.wrap (u + z) = t) : YieldsC Tryz.prog ops C o (.int .i64 t) a :=
 .inl ⟨hw,fun w _ => by unfold execOp; generalize a.eval = ρ at hx hy ⊢; simp only [ho,hx,hy]; subst hq; go_simp⟩
variable {w : World} {K : Act → World → Prop}
theorem wp_call4 {f : Nat} {x0 x1 x2 x3 : Operand} {v0 v1 v2 v3 : Value} {ts : Array TypeId} (ho : o.op = .call { callee := .value (.func f),args := #[x0,x1,x2,x3],argTypes := ts }) (h0 : a.eval x0 = v0) (h1 : a.eval x1 = v1) (h2 : a.eval x2 = v2) (h3 : a.eval x3 = v3) (he : ∀ (vs : Array Value) (w : World),Sem.run P (callFunc f vs) w = .ok (.enter f vs) w)
   (h : Calls P f #[v0,v1,v2,v3] w (fun | .returned v,w'' => K (a.put o.dst v) w'' | .panicked ch,w'' => Q (.panic ch) a w'' | .outgrown,_ => LetsOut Q)) : o.wp P a w K Q := by
 have hv : a.eval (.func f) = .func (.func f) #[] #[] := rfl
 unfold Oper.wp Oper.upon
 generalize hρ : a.eval = ρ at h0 h1 h2 h3 hv ⊢
 simp [execOp,ho,resolve,invoke,hv,h0,h1,h2,h3,he,Sem.run_bind,Result.andThen,go_sem]
 exact h
end
section
variable {P : Program} {ops : Array Oper} {md : Region.Mode} {C : World → Prop} {Q : Exit → Act → World → Prop}
theorem anyC_two {i j : Nat} {oi oj : Oper} {fuel : Nat} {listed : Array Bool} {a : Act} {w : World} (di dj : Option Tmp) (hr : Region.ready md ops listed = [i,j]) (hi : ops[i]? = some oi) (hj : ops[j]? = some oj) (wi : Region.wanted oi (yielded ops a.tmps) = true) (wj : Region.wanted oj (yielded ops a.tmps) = true) (hdi : oi.dst = di) (hdj : oj.dst = dj)
   (h1 : ∀ K : Act → World → Prop,(∀ v w',C w' → anyC P md ops C Q fuel (listed.setIfInBounds i true) (a.put di v) w' → K (a.put oi.dst v) w') → Oper.wp P oi a w K Q)
   (h2 : ∀ K : Act → World → Prop,(∀ v w',C w' → anyC P md ops C Q fuel (listed.setIfInBounds j true) (a.put dj v) w' → K (a.put oj.dst v) w') → Oper.wp P oj a w K Q) : anyC P md ops C Q (fuel + 1) listed a w := by
 subst hdi
 subst hdj
 refine ⟨fun q => (by rw [hr] at q; cases q),fun k hk => ?_⟩
 rw [hr] at hk
 rcases List.mem_cons.1 hk with rfl | hk
 · unfold Go.wpOp
   simp only [hi,wi,if_true]
   exact .inl (h1 _ (fun v w' hc hA => ⟨hc,hA⟩))
 · obtain rfl := List.mem_singleton.1 hk
   unfold Go.wpOp
   simp only [hj,wj,if_true]
   exact .inl (h2 _ (fun v w' hc hA => ⟨hc,hA⟩))
theorem yieldsC_assign {o : Oper} {a : Act} {v : Value} (hw : Region.wanted o (yielded ops a.tmps) = true) (x : Operand) (ho : o.op = .assign x) (hx : a.eval x = v) : YieldsC P ops C o v a :=
 .inl ⟨hw,fun w _ => by unfold execOp; simp only [ho,hx]; rfl⟩
theorem AG.sub {m : Nat} {a : Act} {L L' : List (Nat × Value)} (h : AG m a L) (hs : ∀ q ∈ L',q ∈ L) : AG m a L' := ⟨h.1,fun q hq => h.2 q (hs q hq)⟩
variable {o : Oper} {a : Act} {w : World} {K : Act → World → Prop}
theorem wp_build1 {x : Operand} (ho : o.op = .buildSlice 31 1 #[(0,x)]) (z : Int) (hx : a.eval x = .int .i64 z) (h : K (a.put o.dst (.slice (some ⟨w.heap.size,0,none⟩) 1 1)) (w.alloc (.cells #[.int .i64 z] 3))) : Oper.wp Tryz.prog o a w K Q := by
 unfold Oper.wp Oper.upon execOp
 simp only [ho]
 generalize a.eval = ρ at hx ⊢
 go_simp
 exact h
theorem wp_push {base g : Nat} {v : Value} {xs : List Int} (y : Int) (s x : Operand)
   (ho : o.op = .call { callee := .builtin .append,args := #[s,x],argTypes := #[31,31] })
   (hs : a.eval s = v) (hn : Rw base w v xs) (hb : base ≤ w.heap.size) (hl : xs.length ≤ 1000000)
   (hx : a.eval x = .slice (some ⟨g,0,none⟩) 1 1) (hg : w.heap[g]? = some (.cells #[.int .i64 y] 3 (0,0)))
   (h : ∀ v' w',Rw base w' v' (xs ++ [y]) → Turned (fun k => v.ownBlock = some k) w w' → (∀ k,v'.ownBlock = some k → v.ownBlock = some k ∨ k = w.heap.size) → K (a.put o.dst v') w') : o.wp Tryz.prog a w K Q := by
 obtain ⟨i,i1,i2,i3,i4⟩ := int_info
 refine wp_append_lies w s x 31 ho base 3 i _ 1 8 Tryz.underlying31 i1 i2 i3 i4 rfl (by omega) v xs.length _ hs hn ⟨g,0,none⟩ 1 1 [.int .i64 y] hx (by simp)
   (fun j u hu => World.news_of_block hg j u (by simpa using hu)) (by intro u hu; simp at hu; subst hu; rfl) (by omega) (by simp only [maxLen]; omega) (by omega) hb _ rfl ?_
 intro g' cap w1 hown hgrow h4 _
 have ht : Turned (fun k => v.ownBlock = some k) w w1 := ⟨hgrow.os,hgrow.tape,hgrow.output,hgrow.size,fun k hk hne => hgrow.block k hk (fun e => hne e.symm)⟩
 refine h _ w1 ?_ ht (fun k q => ?_)
 · unfold Rw
   rw [List.length_append,List.map_append]
   exact hown
 · have : k = g' := by simpa [Value.ownBlock,eq_comm] using q
   subst this
   exact h4
end
section
variable {P : Program} {ops : Array Oper} {C : World → Prop} {o : Oper} {a : Act}
theorem yieldsC_cell (hw : Region.wanted o (yielded ops a.tmps) = true) (ty : TypeId) (x : Operand) (ho : o.op = .load ty x) (g i : Nat) (hx : a.eval x = .pointer (some ⟨g,i,none⟩)) (v : Value) (d : TypeDesc) (hu : P.underlying ty = some d) (hd : (match d with | .struct _ | .array _ _ => true | _ => false) = false) (hg : ∀ w,C w → w.cell? ⟨g,i,none⟩ = some v) : YieldsC P ops C o v a :=
 .inl ⟨hw,fun w hC => by
   have hl : (loadVar ty ⟨g,i,none⟩).run P w = .ok v w := run_loadVar_cell hu hd (hg w hC)
   unfold execOp
   simp only [ho,hx,Instr.loadAt,Instr.sureAddr,Sem.run_bind,Sem.run_pure,Result.andThen_ok,hl]⟩
end
theorem y_of {c : Cfg} (R : c.Ok) (w : World) : Calls Tryz.prog 33 #[.agg c.cells] w (Gives w (.tuple #[.agg c.arr,.int .i64 0])) := of_right c.wk c.cp c.pg c.st c.tr c.wt c.ck c.pr c.ca c.bi c.ba w R
theorem y_rwords {c : Cfg} (R : c.Ok) (w : World) : Calls Tryz.prog 37 #[.agg c.cells] w (Gives w (.int .i64 c.words)) := rwords c.wk c.cp c.pg c.st c.tr c.wt c.ck c.pr c.ca c.bi c.ba w R
theorem build_ref (c : Cfg) (W : World) : (Instr.build 30 #[(0,.agg c.cells)]).run Tryz.prog W = .ok (.agg c.cells) W := run_build W _ _ _ (by kernel_rfl)
theorem cells_one (c : Cfg) : c.cells.all (·.oneCell') = true := by simp [Cfg.cells,Value.oneCell']
theorem arr_one (c : Cfg) : c.arr.all (·.oneCell') = true := layArr_one ..
theorem wpList_ref {ops : Array Oper} {rest : List Oper} {o : Oper} {a : Act} {w : World} {Q : Exit → Act → World → Prop} (hw : Region.wanted o (yielded ops a.tmps) = true) (x : Operand) (ho : o.op = .build 30 #[(0,x)]) (c : Cfg)
   (hx : a.eval x = .agg c.cells) (h : wpList Tryz.prog ops Q rest (a.put o.dst (.agg c.cells)) w) : wpList Tryz.prog ops Q (o :: rest) a w :=
 wpList_wanted hw fun K hK => by
   have hb := build_ref c w
   unfold Oper.wp execOp
   simp only [ho,List.map_toArray,List.map_cons,List.map_nil,hx,Sem.run_bind,hb,Result.andThen_ok]
   exact hK _ _ h
theorem results_cct {P : Program} {fn : Func} {p q u : Tmp} {tp tq : TypeId} (h : fn.results = #[.cell p tp,.cell q tq,.tmp u]) (tmps : Array Value) (w : World) (g g' : Nat) (v v' : Value) (hp : tmps.getD p undef = .pointer (some ⟨g,0,none⟩)) (hq : tmps.getD q undef = .pointer (some ⟨g',0,none⟩))
   (h1 : (loadVar tp ⟨g,0,none⟩).run P w = .ok v w) (h2 : (loadVar tq ⟨g',0,none⟩).run P w = .ok v' w) : (results fn tmps).run P w = .ok (.tuple #[v,v',tmps.getD u undef]) w := by
 have hp' : tmps[p]?.getD undef = .pointer (some ⟨g,0,none⟩) := by simpa using hp
 have hq' : tmps[q]?.getD undef = .pointer (some ⟨g',0,none⟩) := by simpa using hq
 simp [results,h,asAddr,hp',hq',h1,h2,Sem.run_bind,Result.andThen]
def Begun8 (w : World) (c : Cfg) (e : Ending) (w' : World) : Prop :=
 ∃ (g n : Nat),(n : Int) = c.words ∧ e = .returned (.tuple #[.agg c.arr,.agg c.cells,.slice (some ⟨g,0,none⟩) n n]) ∧ Rw w.heap.size w' (.slice (some ⟨g,0,none⟩) n n) (zeros n) ∧ More w w'
section
variable {P : Program} {o : Oper} {a : Act} {w : World} {K : Act → World → Prop} {Q : Exit → Act → World → Prop}
theorem wp_call1 {f : Nat} {x0 : Operand} {v0 : Value} {ts : Array TypeId} (ho : o.op = .call { callee := .value (.func f),args := #[x0],argTypes := ts }) (h0 : a.eval x0 = v0) (he : ∀ (vs : Array Value) (w : World),Sem.run P (callFunc f vs) w = .ok (.enter f vs) w)
   (h : Calls P f #[v0] w (fun | .returned v,w'' => K (a.put o.dst v) w'' | .panicked ch,w'' => Q (.panic ch) a w'' | .outgrown,_ => LetsOut Q)) : o.wp P a w K Q := by
 have hv : a.eval (.func f) = .func (.func f) #[] #[] := rfl
 unfold Oper.wp Oper.upon
 generalize hρ : a.eval = ρ at h0 hv ⊢
 simp [execOp,ho,resolve,invoke,hv,h0,he,Sem.run_bind,Result.andThen,go_sem]
 exact h
theorem wp_make {t e : TypeId} {x : Operand} (ho : o.op = .makeSlice t x x) {n : Nat} {L : Int} (hx : a.eval x = .int .i64 L) (hL : L = (n : Int)) (i : TypeInfo) (z : Value) (h1 : P.underlying t = some (.slice e)) (h2 : P.info? e = some i) (h3 : i.zero = some z) (h4 : i.size = 1) (b2 : i.bytes * n ≤ 281474976710656) (b3 : n ≤ maxLen)
   (h : ∀ w',w'.ownsRow w.heap.size e 1 (.slice (some ⟨w.heap.size,0,none⟩) n n) n (madeCells z.cells (n * 1)).toList → w.grownBy w' none → K (a.put o.dst (.slice (some ⟨w.heap.size,0,none⟩) n n)) w') : o.wp P a w K Q := by
 obtain ⟨w',hrun,r1,r2⟩ := run_make_full (P:=P) (w:=w) w.heap.size t e i z 1 h1 h2 h3 h4 .i64 .i64 n b2 b3 (Nat.le_refl _)
 subst hL
 unfold Oper.wp Oper.upon
 generalize hρ : a.eval = ρ at hx ⊢
 simp [execOp,ho,hx,hrun,Result.andThen,Sem.run_bind]
 exact h w' r1 r2
theorem wp_assign {x : Operand} (ho : o.op = .assign x) {v : Value} (hx : a.eval x = v) (h : K (a.put o.dst v) w) : o.wp P a w K Q := by
 unfold Oper.wp execOp
 simp only [ho,hx]
 exact h
theorem ready_step {md : Region.Mode} {ops : Array Oper} {fuel : Nat} {listed : Array Bool} {i : Nat} {rs : List Nat} (d : Option Tmp) (ho : ops[i]? = some o) (hg : o.guard = none) (hd : o.dst = d)
   (h : ∀ K' : Act → World → Prop,(∀ v w,wpAny P md ops Q fuel (listed.setIfInBounds i true) (a.put d v) w → K' (a.put o.dst v) w) → Oper.wp P o a w K' Q)
   (hs : AllReady P md ops Q fuel listed a w rs) : AllReady P md ops Q fuel listed a w (i :: rs) :=
 AllReady.cons ho (fun K hK => by
   rw [if_pos (by simp [Region.wanted,hg])]
   exact h K fun v w' q => hK _ _ (by rw [hd]; exact q)) hs
theorem tree_start {md : Region.Mode} {ops : Array Oper} {n : Nat} {dn : Array Bool} (Φ : Act → World → Prop) (fin : ∀ a w,Φ a w → Q .normal a w) (h : ∀ Q' : Exit → Act → World → Prop,(∀ a w,Φ a w → Q' .normal a w) → wpAny P md ops Q' n dn a w) : wpAny P md ops Q n dn a w := h Q fin
end
def AF (a : Act) (L : List (Nat × Value)) : Prop := (22 ≤ a.tmps.size ∧ a.defers = []) ∧ ∀ q ∈ L,a.eval (.tmp q.1) = q.2
theorem AF.put {a : Act} {L : List (Nat × Value)} (h : AF a L) (d : Nat) (v : Value) (hd : d < 22) (hn : L.all (fun q => q.1 != d) = true) : AF (a.put (some d) v) ((d,v) :: L) := by
 have hs := h.1.1
 refine ⟨⟨by simp [Act.put]; exact hs,h.1.2⟩,?_⟩
 intro q hq
 rcases List.mem_cons.1 hq with rfl | hq
 · have hlt : d < a.tmps.size := by omega
   simp [Act.put,Act.eval,Array.getD,hlt]
 · rw [Act.eval_put (by have := List.all_eq_true.1 hn q hq; simp at this; rintro _ ⟨⟩; simp [this])]
   exact h.2 q hq
theorem AF.skip {a : Act} {L : List (Nat × Value)} (h : AF a L) (v : Value) : AF (a.put none v) L := h
theorem AF.get {a : Act} {L : List (Nat × Value)} (h : AF a L) (i : Nat) {k : Nat} {v : Value} (hm : L[i]? = some (k,v)) : a.eval (.tmp k) = v := h.2 (k,v) (List.mem_of_getElem? hm)
theorem frame_start {P : Program} {md : Region.Mode} {ops : Array Oper} {Q : Exit → Act → World → Prop} {n : Nat} {dn : Array Bool} {A : Act} {W : World} (L : List (Nat × Value)) (hA : AF A L) (h : ∀ a,AF a L → wpAny P md ops Q n dn a W) : wpAny P md ops Q n dn A W := h A hA
structure BS (w w6 : World) (d : Cfg) (x1 x2 : Array Value) (W : World) : Prop where
 a1 : W.heap[w6.heap.size]? = some (.cells d.arr 28 (0,0))
 a2 : W.heap[w6.heap.size + 1]? = some (.cells d.cells 30 (0,0))
 r1 : W.heap[w.heap.size + 1]? = some (.cells x1 28 (0,0))
 r2 : W.heap[w.heap.size + 2]? = some (.cells x2 30 (0,0))
 more : More w W
 s6 : w.heap.size + 3 ≤ w6.heap.size
theorem BS.step {w w6 W W' : World} {d : Cfg} {x1 x2 : Array Value} (h : BS w w6 d x1 x2 W) (m : More W W') : BS w w6 d x1 x2 W' := ⟨m.block h.a1,m.block h.a2,m.block h.r1,m.block h.r2,h.more.trans m,h.s6⟩
theorem BS.put1 {w w6 W : World} {d : Cfg} {x1 x2 : Array Value} (h : BS w w6 d x1 x2 W) (ys : Array Value) : BS w w6 d ys x2 (W.setRow (w.heap.size + 1) ys) :=
 ⟨(setRow_other _ _ _ _ (by have := h.s6; omega)).trans h.a1,(setRow_other _ _ _ _ (by have := h.s6; omega)).trans h.a2,setRow_heap _ _ _ _ _ _ h.r1,(setRow_other _ _ _ _ (by omega)).trans h.r2,h.more.setRow _ _ (by omega),h.s6⟩
theorem BS.put2 {w w6 W : World} {d : Cfg} {x1 x2 : Array Value} (h : BS w w6 d x1 x2 W) (ys : Array Value) : BS w w6 d x1 ys (W.setRow (w.heap.size + 2) ys) :=
 ⟨(setRow_other _ _ _ _ (by have := h.s6; omega)).trans h.a1,(setRow_other _ _ _ _ (by have := h.s6; omega)).trans h.a2,(setRow_other _ _ _ _ (by omega)).trans h.r1,setRow_heap _ _ _ _ _ _ h.r2,h.more.setRow _ _ (by omega),h.s6⟩
theorem rw_setRow {w W : World} {g k n : Nat} {v : Value} {xs : List Int} {cs : Array Value} (h : Rw w.heap.size W v xs) (hk : ∀ g',v.ownBlock = some g' → g' ≠ k) : Rw w.heap.size (W.setRow k cs) v xs := by
 refine ⟨h.1,?_⟩
 rcases h.2 with q | ⟨g,cap,cur,h1,h2,h3,h4⟩
 · exact .inl q
 · exact .inr ⟨g,cap,cur,h1,h2,(setRow_other _ _ _ _ (hk g (by rw [h1]; rfl))).trans h3,h4⟩
abbrev zero11 : Array Value := #[.int .i64 0,.int .i64 0,.int .i64 0,.int .i64 0,.int .i64 0,.int .i64 0,.int .i64 0,.int .i64 0,.int .i64 0,.int .i64 0,.int .i64 0]
abbrev zero24 : Array Value := #[.int .i64 0,.int .i64 0,.int .i64 0,.int .i64 0,.int .i64 0,.int .i64 0,.int .i64 0,.int .i64 0,.int .i64 0,.int .i64 0,.int .i64 0,.int .i64 0,.int .i64 0,.int .i64 0,.int .i64 0,.int .i64 0,.int .i64 0,.int .i64 0,.int .i64 0,.int .i64 0,.int .i64 0,.int .i64 0,.int .i64 0,.int .i64 0]
theorem begin_any {c : Cfg} (R : c.Ok) (y0 y1 y2 y3 y4 y5 y6 y7 y8 y9 y10 : Int) (w : World) (hS : ∀ W,Calls Tryz.prog 66 #[.agg #[.int .i64 y0,.int .i64 y1,.int .i64 y2,.int .i64 y3,.int .i64 y4,.int .i64 y5,.int .i64 y6,.int .i64 y7,.int .i64 y8,.int .i64 y9,.int .i64 y10]] W (Gives W (.agg #[.int .i64 c.wk,.int .i64 c.cp,.int .i64 c.pg,.int .i64 c.st,.int .i64 c.tr,.int .i64 c.wt,.int .i64 c.ck,.int .i64 c.pr,.int .i64 c.ca,.int .i64 c.bi,.int .i64 c.ba]))) :
   Calls Tryz.prog 7 #[.agg #[.int .i64 y0,.int .i64 y1,.int .i64 y2,.int .i64 y3,.int .i64 y4,.int .i64 y5,.int .i64 y6,.int .i64 y7,.int .i64 y8,.int .i64 y9,.int .i64 y10]] w (Begun8 w (smallC c)) := by
 have S := small_small R
 have SM := hQQ (fun W => small_any R y0 y1 y2 y3 y4 y5 y6 y7 y8 y9 y10 _ W hS rfl)
 generalize smallC c = d at S SM ⊢
 have RR := hQQ S.ok
 obtain ⟨wd0,wd1⟩ := S.words
 clear hS R S
 obtain ⟨n,hn⟩ : ∃ n : Nat,(n : Int) = d.words := ⟨d.words.toNat,by omega⟩
 obtain ⟨i0,hi0,hz0,hz1,hz2⟩ := int_info
 obtain ⟨w3,e3,hb0,hb1,hb2,m3,s3⟩ := entry3 w (.cells #[.int .i64 y0,.int .i64 y1,.int .i64 y2,.int .i64 y3,.int .i64 y4,.int .i64 y5,.int .i64 y6,.int .i64 y7,.int .i64 y8,.int .i64 y9,.int .i64 y10] 23) (.cells zero24 28) (.cells zero11 30)
 have e4 : ((w.alloc (.cells #[.int .i64 y0,.int .i64 y1,.int .i64 y2,.int .i64 y3,.int .i64 y4,.int .i64 y5,.int .i64 y6,.int .i64 y7,.int .i64 y8,.int .i64 y9,.int .i64 y10] 23)).alloc (.cells #[.int .i64 0,.int .i64 0,.int .i64 0,.int .i64 0,.int .i64 0,.int .i64 0,.int .i64 0,.int .i64 0,.int .i64 0,.int .i64 0,.int .i64 0,.int .i64 0,.int .i64 0,.int .i64 0,.int .i64 0,.int .i64 0,.int .i64 0,.int .i64 0,.int .i64 0,.int .i64 0,.int .i64 0,.int .i64 0,.int .i64 0,.int .i64 0] 28)).alloc (.cells #[.int .i64 0,.int .i64 0,.int .i64 0,.int .i64 0,.int .i64 0,.int .i64 0,.int .i64 0,.int .i64 0,.int .i64 0,.int .i64 0,.int .i64 0] 30) = w3 := e3
 clear e3
 have H0 := hQQ hb0
 have H1 := hQQ hb1
 have H2 := hQQ hb2
 have M3 := hQQ m3
 clear hb0 hb1 hb2 m3
 go_enter Tryz.func7,Tryz.ntmps7
 go_wp2_with (refine wpList_load_row rfl 23 _ rfl w.heap.size rfl 23 _ _ _ H0.out Tryz.underlying23 rfl (by kernel_rfl) ?_)
 refine (SM.out _).mono ?_
 rintro e w4 ⟨rfl,m4⟩
 have H0 := hQQ (m4.block H0.out)
 have H1 := hQQ (m4.block H1.out)
 have H2 := hQQ (m4.block H2.out)
 have M4 := hQQ (M3.out.trans m4)
 have s4 : w.heap.size + 3 ≤ w4.heap.size := by have := m4.size; omega
 clear m4
 go_wp2_with (first
   | (refine wpList_store_row rfl 23 _ _ rfl w.heap.size _ rfl rfl 23 _ H0.out (by kernel_rfl) rfl (cells_one d) ?_)
   | (refine wpList_load_row rfl 23 _ rfl w.heap.size rfl 23 _ _ _ (setRow_heap _ _ _ _ _ _ H0.out) Tryz.underlying23 rfl (by kernel_rfl) ?_))
 have K0 := hQQ (setRow_heap w4 w.heap.size _ d.cells _ _ H0.out)
 have K1 := hQQ ((setRow_other w4 w.heap.size (w.heap.size + 1) d.cells (by omega)).trans H1.out)
 have K2 := hQQ ((setRow_other w4 w.heap.size (w.heap.size + 2) d.cells (by omega)).trans H2.out)
 have M5 : Hid (More w (w4.setRow w.heap.size d.cells)) := hQQ (M4.out.setRow _ _ (Nat.le_refl _))
 have s5 : w.heap.size + 3 ≤ (w4.setRow w.heap.size d.cells).heap.size := by simpa using s4
 clear H0 H1 H2 M4 s4
 generalize w4.setRow w.heap.size d.cells = w5 at K0 K1 K2 M5 s5 ⊢
 refine (y_of RR.out _).mono ?_
 rintro e w6 ⟨rfl,m6⟩
 have A1 := row_new w6 zero24 28
 have L0 := hQQ (m6.block K0.out)
 have L1 := hQQ (m6.block K1.out)
 have L2 := hQQ (m6.block K2.out)
 have M6 := hQQ (M5.out.trans m6)
 have s6 : w.heap.size + 3 ≤ w6.heap.size := by have := m6.size; omega
 clear K0 K1 K2 M5 s5 m6
 have m7 : More w6 ((w6.alloc (.cells zero24 28)).setRow w6.heap.size d.arr) := ((More.refl w6).alloc _).setRow _ _ (Nat.le_refl _)
 have B1 := hQQ (setRow_heap _ _ _ d.arr _ _ A1)
 have B0 := hQQ (m7.block L0.out)
 have B2 := hQQ (m7.block L1.out)
 have B3 := hQQ (m7.block L2.out)
 have M7 := hQQ (M6.out.trans m7)
 have s7 : ((w6.alloc (.cells zero24 28)).setRow w6.heap.size d.arr).heap.size = w6.heap.size + 1 := by simp
 go_wp2_with (first
   | (refine wpList_store_row rfl 28 _ _ rfl w6.heap.size _ rfl rfl 28 zero24 A1 (by kernel_rfl) rfl (arr_one d) ?_)
   | (refine wpList_load_row rfl 23 _ rfl w.heap.size rfl 23 _ _ _ B0.out Tryz.underlying23 rfl (by kernel_rfl) ?_)
   | ((with_reducible refine wpList_ref ?_ (.tmp 15) ?_ d ?_ ?_); rfl; rfl; rfl)
   | (refine wpList_store_row rfl 30 _ _ rfl (w6.heap.size + 1) _ rfl rfl 30 zero11 (by rw [← s7]; exact row_new _ _ _) (by kernel_rfl) rfl (cells_one d) ?_))
 generalize hw7 : World.setRow (World.alloc w6 _) w6.heap.size d.arr = w7
 have F7 : w7.heap.size = w6.heap.size + 1 := by rw [← hw7]; exact s7
 have A7 := row_new w7 zero11 30
 have m7' : More w6 w7 := by rw [← hw7]; exact m7
 have G1 : w7.heap[w6.heap.size]? = some (.cells d.arr 28 (0,0)) := by rw [← hw7]; exact B1.out
 rw [F7] at A7
 generalize hw8 : World.setRow (World.alloc w7 _) (w6.heap.size + 1) d.cells = w8
 have m8 : More w7 w8 := by rw [← hw8]; exact ((More.refl w7).alloc _).setRow _ _ (by omega)
 have m68 := m7'.trans m8
 have N1 := hQQ (m8.block G1)
 have N2 : Hid (w8.heap[w6.heap.size + 1]? = some (.cells d.cells 30 (0,0))) := hQQ (by rw [← hw8]; exact setRow_heap _ _ _ _ _ _ A7)
 have N3 := hQQ (m68.block L1.out)
 have N4 := hQQ (m68.block L2.out)
 have M8 := hQQ (M6.out.trans m68)
 have s8 : w6.heap.size + 2 ≤ w8.heap.size := lt_of_heap N2.out
 clear hw7 hw8 m7 m7' G1 A7 F7 m8 m68 B0 B1 B2 B3 M7 s7 A1 L0 L1 L2 M6 SM
 have HEN := enters_of Tryz.func37 (by kernel_rfl) rfl
 have hmx : Tryz.prog.follows .mixedOrders = true := by kernel_rfl
 have HBY : i0.bytes * n ≤ 281474976710656 := by rw [hz2]; omega
 have HML : n ≤ maxLen := by unfold maxLen; omega
 have HMK : Hid (∀ (W W3 : World) (x1 x2 : Array Value),BS w w6 d x1 x2 W → W3.ownsRow W.heap.size 3 1 (.slice (some ⟨W.heap.size,0,none⟩) n n) n (madeCells (Value.int .i64 0).cells (n * 1)).toList → W.grownBy W3 none → BS w w6 d x1 x2 W3 ∧ Rw w.heap.size W3 (.slice (some ⟨W.heap.size,0,none⟩) n n) (zeros n) ∧ w.heap.size + 3 ≤ W.heap.size) := hQQ fun W W3 x1 x2 hb q1 q2 => by
   have m : More W W3 := ⟨q2.os,q2.tape,q2.output,q2.size,fun k hk _ => q2.block k hk (by simp)⟩
   have := hb.s6
   have := lt_of_heap hb.a1
   rw [zeros_made] at q1
   refine ⟨hb.step m,?_,by omega⟩
   unfold Rw
   rw [zeros_len]
   exact ownsRow_low q1 (by omega)
 refine wp_region_anyC (fun W => ∃ x1 x2,BS w w6 d x1 x2 W) hmx ?_
 have BB : BS w w6 d zero24 zero11 (w8.drewN 1) := ⟨N1.out,N2.out,N3.out,N4.out,M8.out.drewN 1,by omega⟩
 clear N1 N2 N3 N4 M8 wd0 wd1 hz2
 change anyC _ _ _ _ _ _ _ _ (w8.drewN 1)
 generalize w8.drewN 1 = W2 at BB ⊢
 refine anyC_start (fun a W => a.eval (.tmp 2) = .pointer (some ⟨w.heap.size + 1,0,none⟩) ∧ a.eval (.tmp 3) = .pointer (some ⟨w.heap.size + 2,0,none⟩) ∧ ∃ g,a.eval (.tmp 4) = .slice (some ⟨g,0,none⟩) n n ∧ Rw w.heap.size W (.slice (some ⟨g,0,none⟩) n n) (zeros n) ∧ BS w w6 d d.arr d.cells W ∧ a.defers = []) (fun _ => False) [] (fun a W hd h => h.elim) (fun _ _ _ _ _ h => h) ?_ ?_
 · rintro a W ⟨t2,t3,g,t4,RG,BB,hdf⟩
   go_wp2_with fail
   have h4 : a.tmps.getD 4 undef = .slice (some ⟨g,0,none⟩) n n := t4
   refine bodyPost_ret (results_cct Tryz.results7 _ _ (w.heap.size + 1) (w.heap.size + 2) _ _ t2 t3 (run_loadVar_row _ _ _ _ _ _ _ BB.r1 Tryz.underlying28 rfl (by kernel_rfl)) (run_loadVar_row _ _ _ _ _ _ _ BB.r2 Tryz.underlying30 rfl (by kernel_rfl))) hdf ?_
   exact ⟨g,n,hn,by rw [h4],RG,BB.more⟩
 intro QQ FIN FIND FINQ
 refine frame_c 22 [(5,.pointer (some ⟨w6.heap.size,0,none⟩)),(7,.pointer (some ⟨w6.heap.size + 1,0,none⟩)),(2,.pointer (some ⟨w.heap.size + 1,0,none⟩)),(3,.pointer (some ⟨w.heap.size + 2,0,none⟩))] ⟨⟨Nat.le_of_ble_eq_true rfl,rfl⟩,?_⟩ (fun A HF => ?_)
 · intro q hq
   simp only [List.mem_cons,List.not_mem_nil,or_false] at hq
   rcases hq with rfl | rfl | rfl | rfl <;> rfl
 refine anyC_takeD (i:=0) (v:=.agg d.arr) (some 17) rfl rfl (by kernel_rfl) (by kernel_rfl) (by kernel_rfl) (fun c a w => FINQ c a _ _ w) ⟨_,_,BB⟩ (by exact yieldsC_row (C:=(fun W => ∃ x1 x2,BS w w6 d x1 x2 W)) (wanted_none rfl) 28 _ rfl (w6.heap.size) (HF.get 0 rfl) 28 _ _ _ (fun W hW => by obtain ⟨_,_,h⟩ := hW; exact h.a1) Tryz.underlying28 rfl (by kernel_rfl)) ?_
 replace HF := HF.put 17 (.agg d.arr) (by decide) rfl
 generalize Act.put _ _ _ = A at HF ⊢
 refine anyC_takeD (i:=1) (v:=.agg d.cells) (some 18) rfl rfl (by kernel_rfl) (by kernel_rfl) (by kernel_rfl) (fun c a w => FINQ c a _ _ w) ⟨_,_,BB⟩ (by exact yieldsC_row (C:=(fun W => ∃ x1 x2,BS w w6 d x1 x2 W)) (wanted_none rfl) 30 _ rfl (w6.heap.size + 1) (HF.get 2 rfl) 30 _ _ _ (fun W hW => by obtain ⟨_,_,h⟩ := hW; exact h.a2) Tryz.underlying30 rfl (by kernel_rfl)) ?_
 replace HF := HF.put 18 (.agg d.cells) (by decide) rfl
 generalize Act.put _ _ _ = A at HF ⊢
 refine anyC_takeD (i:=2) (v:=.agg d.cells) (some 19) rfl rfl (by kernel_rfl) (by kernel_rfl) (by kernel_rfl) (fun c a w => FINQ c a _ _ w) ⟨_,_,BB⟩ (by exact yieldsC_row (C:=(fun W => ∃ x1 x2,BS w w6 d x1 x2 W)) (wanted_none rfl) 30 _ rfl (w6.heap.size + 1) (HF.get 3 rfl) 30 _ _ _ (fun W hW => by obtain ⟨_,_,h⟩ := hW; exact h.a2) Tryz.underlying30 rfl (by kernel_rfl)) ?_
 replace HF := HF.put 19 (.agg d.cells) (by decide) rfl
 generalize Act.put _ _ _ = A at HF ⊢
 refine anyC_oneK (i:=3) (some 20) (by kernel_rfl) rfl (wanted_none rfl) rfl (fun K hK => ?_)
 refine wp_call1 (v0:=.agg d.cells) rfl (HF.get 0 rfl) HEN ?_
 refine (y_rwords RR.out _).mono ?_
 rintro e W4 ⟨rfl,m2⟩
 have BB := BB.step m2
 clear m2
 refine hK _ _ ⟨_,_,BB⟩ ?_
 clear hK K
 replace HF := HF.put 20 (.int .i64 d.words) (by decide) rfl
 generalize Act.put _ _ _ = A at HF ⊢
 refine anyC_two (i:=4) (j:=5) (some 21) none (by kernel_rfl) rfl rfl (wanted_none rfl) (wanted_none rfl) rfl rfl (fun K hK => ?_) (fun K hK => ?_)
 · refine wp_make (n:=n) rfl (HF.get 0 rfl) hn.symm i0 (.int .i64 0) Tryz.underlying31 hi0 hz0 hz1 HBY HML ?_
   intro W3 q1 q2
   obtain ⟨BB,RG,HGn⟩ := HMK.out _ _ _ _ BB q1 q2
   clear q1 q2
   generalize HGG : W4.heap.size = GG at RG HGn ⊢
   refine hK _ _ ⟨_,_,BB⟩ ?_
   clear hK K
   replace HF := HF.put 21 (.slice (some ⟨GG,0,none⟩) n n) (by decide) rfl
   generalize Act.put _ _ _ = A at HF ⊢
   refine anyC_oneK (i:=5) none (by kernel_rfl) rfl (wanted_none rfl) rfl (fun K hK => ?_)
   refine wp_store_row 28 _ _ rfl (w.heap.size + 1) _ (HF.get 7 rfl) (HF.get 4 rfl) 28 zero24 BB.r1 (by kernel_rfl) rfl (arr_one d) ?_
   have RG := rw_setRow (k:=w.heap.size + 1) (cs:=d.arr) (g:=0) (n:=0) RG (fun g' q => by cases q; show GG ≠ _; omega)
   have BB := BB.put1 d.arr
   refine hK _ _ ⟨_,_,BB⟩ ?_
   clear hK K
   rw [show ∀ (a : Act) (v : Value),a.put none v = a from fun _ _ => rfl]
   generalize World.setRow _ _ _ = W5 at BB RG ⊢
   refine anyC_oneK (i:=6) none (by kernel_rfl) rfl (wanted_none rfl) rfl (fun K hK => ?_)
   refine wp_store_row 30 _ _ rfl (w.heap.size + 2) _ (HF.get 8 rfl) (HF.get 3 rfl) 30 zero11 BB.r2 (by kernel_rfl) rfl (cells_one d) ?_
   have RG := rw_setRow (k:=w.heap.size + 2) (cs:=d.cells) (g:=0) (n:=0) RG (fun g' q => by cases q; show GG ≠ _; omega)
   have BB := BB.put2 d.cells
   refine hK _ _ ⟨_,_,BB⟩ ?_
   clear hK K
   rw [show ∀ (a : Act) (v : Value),a.put none v = a from fun _ _ => rfl]
   generalize World.setRow _ _ _ = W6 at BB RG ⊢
   refine anyC_oneK (i:=7) (some 4) (by kernel_rfl) rfl (wanted_none rfl) rfl (fun K hK => ?_)
   refine wp_assign rfl (HF.get 0 rfl) ?_
   refine hK _ _ ⟨_,_,BB⟩ ?_
   clear hK K
   replace HF := HF.put 4 (.slice (some ⟨GG,0,none⟩) n n) (by decide) rfl
   generalize Act.put _ _ _ = A at HF ⊢
   exact anyC_done (by kernel_rfl) (FIN _ _ ⟨HF.get 8 rfl,HF.get 9 rfl,_,HF.get 0 rfl,RG,BB,HF.1.2⟩)
 · refine wp_store_row 28 _ _ rfl (w.heap.size + 1) _ (HF.get 6 rfl) (HF.get 3 rfl) 28 zero24 BB.r1 (by kernel_rfl) rfl (arr_one d) ?_
   have BB := BB.put1 d.arr
   refine hK _ _ ⟨_,_,BB⟩ ?_
   clear hK K
   rw [show ∀ (a : Act) (v : Value),a.put none v = a from fun _ _ => rfl]
   generalize World.setRow _ _ _ = W5 at BB ⊢
   refine anyC_two (i:=4) (j:=6) (some 21) none (by kernel_rfl) rfl rfl (wanted_none rfl) (wanted_none rfl) rfl rfl (fun K hK => ?_) (fun K hK => ?_)
   · refine wp_make (n:=n) rfl (HF.get 0 rfl) hn.symm i0 (.int .i64 0) Tryz.underlying31 hi0 hz0 hz1 HBY HML ?_
     intro W3 q1 q2
     obtain ⟨BB,RG,HGn⟩ := HMK.out _ _ _ _ BB q1 q2
     clear q1 q2
     generalize HGG : W5.heap.size = GG at RG HGn ⊢
     refine hK _ _ ⟨_,_,BB⟩ ?_
     clear hK K
     replace HF := HF.put 21 (.slice (some ⟨GG,0,none⟩) n n) (by decide) rfl
     generalize Act.put _ _ _ = A at HF ⊢
     refine anyC_oneK (i:=6) none (by kernel_rfl) rfl (wanted_none rfl) rfl (fun K hK => ?_)
     refine wp_store_row 30 _ _ rfl (w.heap.size + 2) _ (HF.get 8 rfl) (HF.get 3 rfl) 30 zero11 BB.r2 (by kernel_rfl) rfl (cells_one d) ?_
     have RG := rw_setRow (k:=w.heap.size + 2) (cs:=d.cells) (g:=0) (n:=0) RG (fun g' q => by cases q; show GG ≠ _; omega)
     have BB := BB.put2 d.cells
     refine hK _ _ ⟨_,_,BB⟩ ?_
     clear hK K
     rw [show ∀ (a : Act) (v : Value),a.put none v = a from fun _ _ => rfl]
     generalize World.setRow _ _ _ = W6 at BB RG ⊢
     refine anyC_oneK (i:=7) (some 4) (by kernel_rfl) rfl (wanted_none rfl) rfl (fun K hK => ?_)
     refine wp_assign rfl (HF.get 0 rfl) ?_
     refine hK _ _ ⟨_,_,BB⟩ ?_
     clear hK K
     replace HF := HF.put 4 (.slice (some ⟨GG,0,none⟩) n n) (by decide) rfl
     generalize Act.put _ _ _ = A at HF ⊢
     exact anyC_done (by kernel_rfl) (FIN _ _ ⟨HF.get 8 rfl,HF.get 9 rfl,_,HF.get 0 rfl,RG,BB,HF.1.2⟩)
   · refine wp_store_row 30 _ _ rfl (w.heap.size + 2) _ (HF.get 7 rfl) (HF.get 2 rfl) 30 zero11 BB.r2 (by kernel_rfl) rfl (cells_one d) ?_
     have BB := BB.put2 d.cells
     refine hK _ _ ⟨_,_,BB⟩ ?_
     clear hK K
     rw [show ∀ (a : Act) (v : Value),a.put none v = a from fun _ _ => rfl]
     generalize World.setRow _ _ _ = W6 at BB ⊢
     refine anyC_oneK (i:=4) (some 21) (by kernel_rfl) rfl (wanted_none rfl) rfl (fun K hK => ?_)
     refine wp_make (n:=n) rfl (HF.get 0 rfl) hn.symm i0 (.int .i64 0) Tryz.underlying31 hi0 hz0 hz1 HBY HML ?_
     intro W3 q1 q2
     obtain ⟨BB,RG,HGn⟩ := HMK.out _ _ _ _ BB q1 q2
     clear q1 q2
     generalize HGG : W6.heap.size = GG at RG HGn ⊢
     refine hK _ _ ⟨_,_,BB⟩ ?_
     clear hK K
     replace HF := HF.put 21 (.slice (some ⟨GG,0,none⟩) n n) (by decide) rfl
     generalize Act.put _ _ _ = A at HF ⊢
     refine anyC_oneK (i:=7) (some 4) (by kernel_rfl) rfl (wanted_none rfl) rfl (fun K hK => ?_)
     refine wp_assign rfl (HF.get 0 rfl) ?_
     refine hK _ _ ⟨_,_,BB⟩ ?_
     clear hK K
     replace HF := HF.put 4 (.slice (some ⟨GG,0,none⟩) n n) (by decide) rfl
     generalize Act.put _ _ _ = A at HF ⊢
     exact anyC_done (by kernel_rfl) (FIN _ _ ⟨HF.get 8 rfl,HF.get 9 rfl,_,HF.get 0 rfl,RG,BB,HF.1.2⟩)
def b2i (b : Bool) : Int := if b then 1 else 0
def ensureW (pg st x y : Int) (ws : List Int) : Int × List Int := if thereB pg x y then ensureV pg st (spanV x y) (x / 4) 0 ws else (0,ws)
def countW (pg st : Int) (ws : List Int) : Int := countV pg st (chunksV pg).toNat 0 0 ws
section
variable {pg st : Int} {n : Nat} (H : TblIn pg st n)
include H
theorem good_ensure (x y : Int) : Good n (fun _ => True) (ensureP pg st x y) := by
 unfold ensureP; split
 · exact good_imp (good_ensureN H _ _ 0 (by omega)) (fun _ _ => trivial)
 · exact good_pure n trivial
theorem flat_ensure (x y : Int) : Flat n (ensureP pg st x y) (ensureW pg st x y) := by
 unfold ensureP
 split
 · rename_i h
   exact flat_eq (flat_ensureN H _ _ 0) (fun ws _ => by unfold ensureW; rw [if_pos h])
 · rename_i h
   exact flat_eq (flat_pure n 0) (fun ws _ => by unfold ensureW; rw [if_neg h])
end
structure Off (pg st : Int) (ws ws' : List Int) : Prop where
 len : ws'.length = ws.length
 ok : OkW ws → OkW ws'
 eq : ∀ i : Int,0 ≤ i → (∀ k,isChunk pg k = true → i ≠ tblV pg st k) → wAt ws' i = wAt ws i
structure Back (pg st : Int) (zs xs : List Int) (k : Nat) : Prop where
 len : xs.length = zs.length
 eq : ∀ i : Int,0 ≤ i → (∀ j,isChunk pg j = true → (k : Int) ≤ j → i ≠ tblV pg st j) → wAt xs i = wAt zs i
end Go.Proofs.YtflihdcliknggaaGreatDoor
