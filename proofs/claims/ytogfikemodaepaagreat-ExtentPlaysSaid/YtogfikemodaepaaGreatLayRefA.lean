/-
  Contracts of the document's own answers for layout, at a configuration that may be.
-/
import Derived.Test.YtogfikemodaepaaGreatLayPlain
namespace Go.Proofs.YtogfikemodaepaaGreat
open Go.RowKit
set_option linter.unusedVariables false
set_option linter.unusedSimpArgs false

variable (wk cp pg st tr wt ck pr ca bi ba : Int) (w : World)

theorem rtable (R : CfgOk wk cp pg st tr wt ck pr ca bi ba) :
    Calls Tryz.prog 104 #[.agg #[.int .i64 wk, .int .i64 cp, .int .i64 pg, .int .i64 st, .int .i64 tr, .int .i64 wt, .int .i64 ck, .int .i64 pr, .int .i64 ca, .int .i64 bi, .int .i64 ba]] w (Gives w (.int .i64 (tableV st))) := by
  have h_st1 := R.st1
  have h_st2 := R.st2
  go_enter Tryz.func104, Tryz.ntmps104
  go_wp2
  go_ret
  exact ⟨rfl, (More.refl _).alloc _⟩

theorem rchunks (R : CfgOk wk cp pg st tr wt ck pr ca bi ba) :
    Calls Tryz.prog 63 #[.agg #[.int .i64 wk, .int .i64 cp, .int .i64 pg, .int .i64 st, .int .i64 tr, .int .i64 wt, .int .i64 ck, .int .i64 pr, .int .i64 ca, .int .i64 bi, .int .i64 ba]] w (Gives w (.int .i64 (chunksV pg))) := by
  have h_pg1 := R.pg1
  have h_pg2 := R.pg2
  go_enter Tryz.func63, Tryz.ntmps63
  go_wp2
  go_ret
  exact ⟨rfl, (More.refl _).alloc _⟩

theorem rheads (R : CfgOk wk cp pg st tr wt ck pr ca bi ba) :
    Calls Tryz.prog 113 #[.agg #[.int .i64 wk, .int .i64 cp, .int .i64 pg, .int .i64 st, .int .i64 tr, .int .i64 wt, .int .i64 ck, .int .i64 pr, .int .i64 ca, .int .i64 bi, .int .i64 ba]] w (Gives w (.int .i64 (headsV st pg))) := by
  have HR := Lib.hid R
  have b1 := tableB R
  have b2 := chunksB R
  have h1 := R.pg1
  have h2 := R.pg2
  have q0 : IntKind.i64.wrap (tableV st + chunksV pg) = tableV st + chunksV pg := wrap_in (by omega) (by omega)
  have q1 : IntKind.i64.wrap (5 * pg) = 5 * pg := wrap_in (by omega) (by omega)
  have q2 : IntKind.i64.wrap (tableV st + chunksV pg + 5 * pg) = tableV st + chunksV pg + 5 * pg := wrap_in (by omega) (by omega)
  have HC := Lib.hid (cfgAt_new w 30 wk cp pg st tr wt ck pr ca bi ba)
  have HM : Hid (More w (w.alloc (.cells #[.int .i64 wk, .int .i64 cp, .int .i64 pg, .int .i64 st, .int .i64 tr, .int .i64 wt, .int .i64 ck, .int .i64 pr, .int .i64 ca, .int .i64 bi, .int .i64 ba] 30))) := (More.refl w).alloc _
  clear R
  go_enter Tryz.func113, Tryz.ntmps113
  go_wp2_with fail
  generalize w.alloc (.cells #[.int .i64 wk, .int .i64 cp, .int .i64 pg, .int .i64 st, .int .i64 tr, .int .i64 wt, .int .i64 ck, .int .i64 pr, .int .i64 ca, .int .i64 bi, .int .i64 ba] 30) = W0 at *
  have hne : ∃ W, More W0 W := ⟨W0, More.refl _⟩
  refine wp_region_more (by kernel_rfl) (by kernel_rfl) ?_
  iterate 11
    with_reducible refine wpQuiet_step (fun K hK => ?_)
    go_simp
    first
    | (refine hK _ ?_; clear hK K)
    | (apply Exists.intro
       refine ⟨fun W hW => ?_, hK _ ?_⟩
       first
       | (go_at_call 104; exact Calls.more hW (rtable _ _ _ _ _ _ _ _ _ _ _ _ HR.out))
       | (go_at_call 63; exact Calls.more hW (rchunks _ _ _ _ _ _ _ _ _ _ _ _ HR.out))
       | (obtain ⟨e0, e1, e2, e3, e4, e5, e6, e7, e8, e9, e10⟩ := HC.out.cells hW; go_simp; try rfl)
       clear hK K)
  refine wpQuiet_nil ?_
  intro W hW
  have HW := Lib.hid hW
  clear hW
  go_wp2_with fail
  go_ret
  exact ⟨rfl, HM.out.trans HW.out⟩

theorem rcaches (R : CfgOk wk cp pg st tr wt ck pr ca bi ba) :
    Calls Tryz.prog 108 #[.agg #[.int .i64 wk, .int .i64 cp, .int .i64 pg, .int .i64 st, .int .i64 tr, .int .i64 wt, .int .i64 ck, .int .i64 pr, .int .i64 ca, .int .i64 bi, .int .i64 ba]] w (Gives w (.int .i64 (cachesV st pg))) := by
  have b1 := headsB R
  have HR := Lib.hid R
  have e := (cfgAt_new w 30 wk cp pg st tr wt ck pr ca bi ba).cells (More.refl _)
  clear R
  go_enter Tryz.func108, Tryz.ntmps108
  go_wp2_with fail
  refine (rheads _ _ _ _ _ _ _ _ _ _ _ _ HR.out).mono ?_
  rintro e w1 ⟨rfl, h1⟩
  go_wp2_with fail
  go_ret
  exact ⟨rfl, ((More.refl _).alloc _).trans h1⟩

theorem rbins (R : CfgOk wk cp pg st tr wt ck pr ca bi ba) :
    Calls Tryz.prog 98 #[.agg #[.int .i64 wk, .int .i64 cp, .int .i64 pg, .int .i64 st, .int .i64 tr, .int .i64 wt, .int .i64 ck, .int .i64 pr, .int .i64 ca, .int .i64 bi, .int .i64 ba]] w (Gives w (.int .i64 (binsV cp pg st ca))) := by
  have HR := Lib.hid R
  have b1 := cachesB R
  have b2 := prod5B R
  have h1 := R.cp1
  have h2 := R.cp2
  have h3 := R.ca1
  have h4 := R.ca2
  have q0 : IntKind.i64.wrap (5 * cp) = 5 * cp := wrap_in (by omega) (by omega)
  have q1 : IntKind.i64.wrap (ca + 1) = ca + 1 := wrap_in (by omega) (by omega)
  have q2 : IntKind.i64.wrap (5 * cp * (ca + 1)) = 5 * cp * (ca + 1) := wrap_in (by omega) (by omega)
  have q3 : IntKind.i64.wrap (cachesV st pg + 5 * cp * (ca + 1)) = cachesV st pg + 5 * cp * (ca + 1) := wrap_in (by omega) (by omega)
  have HC := Lib.hid (cfgAt_new w 30 wk cp pg st tr wt ck pr ca bi ba)
  have HM : Hid (More w (w.alloc (.cells #[.int .i64 wk, .int .i64 cp, .int .i64 pg, .int .i64 st, .int .i64 tr, .int .i64 wt, .int .i64 ck, .int .i64 pr, .int .i64 ca, .int .i64 bi, .int .i64 ba] 30))) := (More.refl w).alloc _
  clear R
  go_enter Tryz.func98, Tryz.ntmps98
  go_wp2_with fail
  generalize w.alloc (.cells #[.int .i64 wk, .int .i64 cp, .int .i64 pg, .int .i64 st, .int .i64 tr, .int .i64 wt, .int .i64 ck, .int .i64 pr, .int .i64 ca, .int .i64 bi, .int .i64 ba] 30) = W0 at *
  have hne : ∃ W, More W0 W := ⟨W0, More.refl _⟩
  refine wp_region_more (by kernel_rfl) (by kernel_rfl) ?_
  iterate 13
    with_reducible refine wpQuiet_step (fun K hK => ?_)
    go_simp
    first
    | (refine hK _ ?_; clear hK K)
    | (apply Exists.intro
       refine ⟨fun W hW => ?_, hK _ ?_⟩
       first
       | (go_at_call 108; exact Calls.more hW (rcaches _ _ _ _ _ _ _ _ _ _ _ _ HR.out))
       | (obtain ⟨e0, e1, e2, e3, e4, e5, e6, e7, e8, e9, e10⟩ := HC.out.cells hW; go_simp; try rfl)
       clear hK K)
  refine wpQuiet_nil ?_
  intro W hW
  have HW := Lib.hid hW
  clear hW
  go_wp2_with fail
  go_ret
  exact ⟨rfl, HM.out.trans HW.out⟩

theorem rlive (R : CfgOk wk cp pg st tr wt ck pr ca bi ba) :
    Calls Tryz.prog 78 #[.agg #[.int .i64 wk, .int .i64 cp, .int .i64 pg, .int .i64 st, .int .i64 tr, .int .i64 wt, .int .i64 ck, .int .i64 pr, .int .i64 ca, .int .i64 bi, .int .i64 ba]] w (Gives w (.int .i64 (liveV cp pg st ca bi))) := by
  have HR := Lib.hid R
  have b1 := binsB R
  have h1 := R.bi1
  have h2 := R.bi2
  have q0 : IntKind.i64.wrap (bi + 1) = bi + 1 := wrap_in (by omega) (by omega)
  have q1 : IntKind.i64.wrap (5 * (bi + 1)) = 5 * (bi + 1) := wrap_in (by omega) (by omega)
  have q2 : IntKind.i64.wrap (binsV cp pg st ca + 5 * (bi + 1)) = binsV cp pg st ca + 5 * (bi + 1) := wrap_in (by omega) (by omega)
  have HC := Lib.hid (cfgAt_new w 30 wk cp pg st tr wt ck pr ca bi ba)
  have HM : Hid (More w (w.alloc (.cells #[.int .i64 wk, .int .i64 cp, .int .i64 pg, .int .i64 st, .int .i64 tr, .int .i64 wt, .int .i64 ck, .int .i64 pr, .int .i64 ca, .int .i64 bi, .int .i64 ba] 30))) := (More.refl w).alloc _
  clear R
  go_enter Tryz.func78, Tryz.ntmps78
  go_wp2_with fail
  generalize w.alloc (.cells #[.int .i64 wk, .int .i64 cp, .int .i64 pg, .int .i64 st, .int .i64 tr, .int .i64 wt, .int .i64 ck, .int .i64 pr, .int .i64 ca, .int .i64 bi, .int .i64 ba] 30) = W0 at *
  have hne : ∃ W, More W0 W := ⟨W0, More.refl _⟩
  refine wp_region_more (by kernel_rfl) (by kernel_rfl) ?_
  iterate 9
    with_reducible refine wpQuiet_step (fun K hK => ?_)
    go_simp
    first
    | (refine hK _ ?_; clear hK K)
    | (apply Exists.intro
       refine ⟨fun W hW => ?_, hK _ ?_⟩
       first
       | (go_at_call 98; exact Calls.more hW (rbins _ _ _ _ _ _ _ _ _ _ _ _ HR.out))
       | (obtain ⟨e0, e1, e2, e3, e4, e5, e6, e7, e8, e9, e10⟩ := HC.out.cells hW; go_simp; try rfl)
       clear hK K)
  refine wpQuiet_nil ?_
  intro W hW
  have HW := Lib.hid hW
  clear hW
  go_wp2_with fail
  go_ret
  exact ⟨rfl, HM.out.trans HW.out⟩

theorem ruser (R : CfgOk wk cp pg st tr wt ck pr ca bi ba) :
    Calls Tryz.prog 49 #[.agg #[.int .i64 wk, .int .i64 cp, .int .i64 pg, .int .i64 st, .int .i64 tr, .int .i64 wt, .int .i64 ck, .int .i64 pr, .int .i64 ca, .int .i64 bi, .int .i64 ba]] w (Gives w (.int .i64 (userV cp pg st ca bi))) := by
  have HR := Lib.hid R
  have b1 := liveB R
  have h1 := R.pg1
  have h2 := R.pg2
  have q0 : IntKind.i64.wrap (32 * pg) = 32 * pg := wrap_in (by omega) (by omega)
  have q1 : IntKind.i64.wrap (liveV cp pg st ca bi + 32 * pg) = liveV cp pg st ca bi + 32 * pg := wrap_in (by omega) (by omega)
  have q2 : IntKind.i64.wrap (liveV cp pg st ca bi + 32 * pg + 127) = liveV cp pg st ca bi + 32 * pg + 127 := wrap_in (by omega) (by omega)
  have q3 : IntKind.i64.wrap ((liveV cp pg st ca bi + 32 * pg + 127) / 128 * 128) = (liveV cp pg st ca bi + 32 * pg + 127) / 128 * 128 := wrap_in (by omega) (by omega)
  have qd : IntKind.i64.wrap ((liveV cp pg st ca bi + 32 * pg + 127).tdiv 128) = (liveV cp pg st ca bi + 32 * pg + 127) / 128 := by
    rw [Int.tdiv_eq_ediv_of_nonneg (by omega)]; exact wrap_in (by omega) (by omega)
  have HC := Lib.hid (cfgAt_new w 30 wk cp pg st tr wt ck pr ca bi ba)
  have HM : Hid (More w (w.alloc (.cells #[.int .i64 wk, .int .i64 cp, .int .i64 pg, .int .i64 st, .int .i64 tr, .int .i64 wt, .int .i64 ck, .int .i64 pr, .int .i64 ca, .int .i64 bi, .int .i64 ba] 30))) := (More.refl w).alloc _
  clear R
  go_enter Tryz.func49, Tryz.ntmps49
  go_wp2_with fail
  generalize w.alloc (.cells #[.int .i64 wk, .int .i64 cp, .int .i64 pg, .int .i64 st, .int .i64 tr, .int .i64 wt, .int .i64 ck, .int .i64 pr, .int .i64 ca, .int .i64 bi, .int .i64 ba] 30) = W0 at *
  have hne : ∃ W, More W0 W := ⟨W0, More.refl _⟩
  refine wp_region_more (by kernel_rfl) (by kernel_rfl) ?_
  iterate 11
    with_reducible refine wpQuiet_step (fun K hK => ?_)
    go_simp
    first
    | (refine hK _ ?_; clear hK K)
    | (apply Exists.intro
       refine ⟨fun W hW => ?_, hK _ ?_⟩
       first
       | (go_at_call 78; exact Calls.more hW (rlive _ _ _ _ _ _ _ _ _ _ _ _ HR.out))
       | (obtain ⟨e0, e1, e2, e3, e4, e5, e6, e7, e8, e9, e10⟩ := HC.out.cells hW; go_simp; try rfl)
       clear hK K)
  refine wpQuiet_nil ?_
  intro W hW
  have HW := Lib.hid hW
  clear hW
  go_wp2_with fail
  go_ret
  exact ⟨rfl, HM.out.trans HW.out⟩

theorem rwords (R : CfgOk wk cp pg st tr wt ck pr ca bi ba) :
    Calls Tryz.prog 18 #[.agg #[.int .i64 wk, .int .i64 cp, .int .i64 pg, .int .i64 st, .int .i64 tr, .int .i64 wt, .int .i64 ck, .int .i64 pr, .int .i64 ca, .int .i64 bi, .int .i64 ba]] w (Gives w (.int .i64 (wordsV cp pg st ca bi))) := by
  have HR := Lib.hid R
  have b1 := userB R
  have h1 := R.pg1
  have h2 := R.pg2
  have q0 : IntKind.i64.wrap (32 * pg) = 32 * pg := wrap_in (by omega) (by omega)
  have q1 : IntKind.i64.wrap (userV cp pg st ca bi + 32 * pg) = userV cp pg st ca bi + 32 * pg := wrap_in (by omega) (by omega)
  have HC := Lib.hid (cfgAt_new w 30 wk cp pg st tr wt ck pr ca bi ba)
  have HM : Hid (More w (w.alloc (.cells #[.int .i64 wk, .int .i64 cp, .int .i64 pg, .int .i64 st, .int .i64 tr, .int .i64 wt, .int .i64 ck, .int .i64 pr, .int .i64 ca, .int .i64 bi, .int .i64 ba] 30))) := (More.refl w).alloc _
  clear R
  go_enter Tryz.func18, Tryz.ntmps18
  go_wp2_with fail
  generalize w.alloc (.cells #[.int .i64 wk, .int .i64 cp, .int .i64 pg, .int .i64 st, .int .i64 tr, .int .i64 wt, .int .i64 ck, .int .i64 pr, .int .i64 ca, .int .i64 bi, .int .i64 ba] 30) = W0 at *
  have hne : ∃ W, More W0 W := ⟨W0, More.refl _⟩
  refine wp_region_more (by kernel_rfl) (by kernel_rfl) ?_
  iterate 8
    with_reducible refine wpQuiet_step (fun K hK => ?_)
    go_simp
    first
    | (refine hK _ ?_; clear hK K)
    | (apply Exists.intro
       refine ⟨fun W hW => ?_, hK _ ?_⟩
       first
       | (go_at_call 49; exact Calls.more hW (ruser _ _ _ _ _ _ _ _ _ _ _ _ HR.out))
       | (obtain ⟨e0, e1, e2, e3, e4, e5, e6, e7, e8, e9, e10⟩ := HC.out.cells hW; go_simp; try rfl)
       clear hK K)
  refine wpQuiet_nil ?_
  intro W hW
  have HW := Lib.hid hW
  clear hW
  go_wp2_with fail
  go_ret
  exact ⟨rfl, HM.out.trans HW.out⟩

end Go.Proofs.YtogfikemodaepaaGreat
