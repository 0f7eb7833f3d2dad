/-
  Contracts of the document's own answers for layout, at a configuration that may be.
-/
import Derived.Test.YtflihdcliknggaaGreatDoorPbAa
import Derived.Test.YtflihdcliknggaaGreatDoorPbAi
import Derived.OwnWalk
import Derived.Test.YtflihdcliknggaaGreatDoorPbAg
import Derived.Test.YtflihdcliknggaaGreatDoorPbAf
set_option maxRecDepth 100000
set_option maxHeartbeats 8000000
set_option linter.unusedVariables false
set_option linter.unusedSimpArgs false
set_option linter.unusedSectionVars false
namespace Go.Proofs.YtflihdcliknggaaGreatDoor
open Go.RowKit
variable (wk cp pg st tr wt ck pr ca bi ba : Int) (w : World)
theorem rtable (R : CfgOk wk cp pg st tr wt ck pr ca bi ba) :
   Calls Tryz.prog 156 #[.agg #[.int .i64 wk,.int .i64 cp,.int .i64 pg,.int .i64 st,.int .i64 tr,.int .i64 wt,.int .i64 ck,.int .i64 pr,.int .i64 ca,.int .i64 bi,.int .i64 ba]] w (Gives w (.int .i64 (tableV st))) := by
 have h_st1 := R.st1
 have h_st2 := R.st2
 go_enter Tryz.func156,Tryz.ntmps156
 go_wp2
 go_ret
 exact ⟨rfl,(More.refl _).alloc _⟩
theorem rchunks (R : CfgOk wk cp pg st tr wt ck pr ca bi ba) :
   Calls Tryz.prog 157 #[.agg #[.int .i64 wk,.int .i64 cp,.int .i64 pg,.int .i64 st,.int .i64 tr,.int .i64 wt,.int .i64 ck,.int .i64 pr,.int .i64 ca,.int .i64 bi,.int .i64 ba]] w (Gives w (.int .i64 (chunksV pg))) := by
 have h_pg1 := R.pg1
 have h_pg2 := R.pg2
 go_enter Tryz.func157,Tryz.ntmps157
 go_wp2
 go_ret
 exact ⟨rfl,(More.refl _).alloc _⟩
theorem rheads (R : CfgOk wk cp pg st tr wt ck pr ca bi ba) :
   Calls Tryz.prog 146 #[.agg #[.int .i64 wk,.int .i64 cp,.int .i64 pg,.int .i64 st,.int .i64 tr,.int .i64 wt,.int .i64 ck,.int .i64 pr,.int .i64 ca,.int .i64 bi,.int .i64 ba]] w (Gives w (.int .i64 (headsV st pg))) := by
 have HR := hQQ R
 have b1 := tableB R
 have b2 := chunksB R
 have h1 := R.pg1
 have h2 := R.pg2
 have q0 : IntKind.i64.wrap (tableV st + chunksV pg) = tableV st + chunksV pg := wrap_in (by omega) (by omega)
 have q1 : IntKind.i64.wrap (5 * pg) = 5 * pg := wrap_in (by omega) (by omega)
 have q2 : IntKind.i64.wrap (tableV st + chunksV pg + 5 * pg) = tableV st + chunksV pg + 5 * pg := wrap_in (by omega) (by omega)
 have HC := hQQ (cfgAt_new w 30 wk cp pg st tr wt ck pr ca bi ba)
 have HM : Hid (More w (w.alloc (.cells #[.int .i64 wk,.int .i64 cp,.int .i64 pg,.int .i64 st,.int .i64 tr,.int .i64 wt,.int .i64 ck,.int .i64 pr,.int .i64 ca,.int .i64 bi,.int .i64 ba] 30))) := (More.refl w).alloc _
 clear R
 go_enter Tryz.func146,Tryz.ntmps146
 go_wp2_with fail
 generalize w.alloc (.cells #[.int .i64 wk,.int .i64 cp,.int .i64 pg,.int .i64 st,.int .i64 tr,.int .i64 wt,.int .i64 ck,.int .i64 pr,.int .i64 ca,.int .i64 bi,.int .i64 ba] 30) = W0 at *
 have hne : ∃ W,More W0 W := ⟨W0,More.refl _⟩
 refine wp_region_more (by kernel_rfl) (by kernel_rfl) ?_
 iterate 11
   with_reducible refine wpQuiet_step (fun K hK => ?_)
   go_simp
   first
   | (refine hK _ ?_; clear hK K)
   | (apply Exists.intro
      refine ⟨fun W hW => ?_,hK _ ?_⟩
      first
      | (go_at_call 156; exact Calls.more hW (rtable _ _ _ _ _ _ _ _ _ _ _ _ HR.out))
      | (go_at_call 157; exact Calls.more hW (rchunks _ _ _ _ _ _ _ _ _ _ _ _ HR.out))
      | (obtain ⟨e0,e1,e2,e3,e4,e5,e6,e7,e8,e9,e10⟩ := HC.out.cells hW; go_simp; try rfl)
      clear hK K)
 refine wpQuiet_nil ?_
 intro W hW
 have HW := hQQ hW
 clear hW
 go_wp2_with fail
 go_ret
 exact ⟨rfl,HM.out.trans HW.out⟩
theorem rcaches (R : CfgOk wk cp pg st tr wt ck pr ca bi ba) :
   Calls Tryz.prog 108 #[.agg #[.int .i64 wk,.int .i64 cp,.int .i64 pg,.int .i64 st,.int .i64 tr,.int .i64 wt,.int .i64 ck,.int .i64 pr,.int .i64 ca,.int .i64 bi,.int .i64 ba]] w (Gives w (.int .i64 (cachesV st pg))) := by
 have b1 := headsB R
 have HR := hQQ R
 have e := (cfgAt_new w 30 wk cp pg st tr wt ck pr ca bi ba).cells (More.refl _)
 clear R
 go_enter Tryz.func108,Tryz.ntmps108
 go_wp2_with fail
 refine (rheads _ _ _ _ _ _ _ _ _ _ _ _ HR.out).mono ?_
 rintro e w1 ⟨rfl,h1⟩
 go_wp2_with fail
 go_ret
 exact ⟨rfl,((More.refl _).alloc _).trans h1⟩
theorem rbins (R : CfgOk wk cp pg st tr wt ck pr ca bi ba) :
   Calls Tryz.prog 70 #[.agg #[.int .i64 wk,.int .i64 cp,.int .i64 pg,.int .i64 st,.int .i64 tr,.int .i64 wt,.int .i64 ck,.int .i64 pr,.int .i64 ca,.int .i64 bi,.int .i64 ba]] w (Gives w (.int .i64 (binsV cp pg st ca))) := by
 have HR := hQQ R
 have b1 := cachesB R
 have b2 := prod5B R
 have h1 := R.cp1
 have h2 := R.cp2
 have h3 := R.ca1
 have h4 := R.ca2
 have q0 : IntKind.i64.wrap (5 * cp) = 5 * cp := wrap_in (by omega) (by omega)
 have q1 : IntKind.i64.wrap (ca + 1) = ca + 1 := wrap_in (by omega) (by omega)
 have q2 : IntKind.i64.wrap (5 * cp * (ca + 1)) = 5 * cp * (ca + 1) := wrap_in (by omega) (by omega)
 have q3 : IntKind.i64.wrap (cachesV st pg + 5 * cp * (ca + 1)) = cachesV st pg + 5 * cp * (ca + 1) := wrap_in (by omega) (by omega)
 have HC := hQQ (cfgAt_new w 30 wk cp pg st tr wt ck pr ca bi ba)
 have HM : Hid (More w (w.alloc (.cells #[.int .i64 wk,.int .i64 cp,.int .i64 pg,.int .i64 st,.int .i64 tr,.int .i64 wt,.int .i64 ck,.int .i64 pr,.int .i64 ca,.int .i64 bi,.int .i64 ba] 30))) := (More.refl w).alloc _
 clear R
 go_enter Tryz.func70,Tryz.ntmps70
 go_wp2_with fail
 generalize w.alloc (.cells #[.int .i64 wk,.int .i64 cp,.int .i64 pg,.int .i64 st,.int .i64 tr,.int .i64 wt,.int .i64 ck,.int .i64 pr,.int .i64 ca,.int .i64 bi,.int .i64 ba] 30) = W0 at *
 have hne : ∃ W,More W0 W := ⟨W0,More.refl _⟩
 refine wp_region_more (by kernel_rfl) (by kernel_rfl) ?_
 iterate 13
   with_reducible refine wpQuiet_step (fun K hK => ?_)
   go_simp
   first
   | (refine hK _ ?_; clear hK K)
   | (apply Exists.intro
      refine ⟨fun W hW => ?_,hK _ ?_⟩
      first
      | (go_at_call 108; exact Calls.more hW (rcaches _ _ _ _ _ _ _ _ _ _ _ _ HR.out))
      | (obtain ⟨e0,e1,e2,e3,e4,e5,e6,e7,e8,e9,e10⟩ := HC.out.cells hW; go_simp; try rfl)
      clear hK K)
 refine wpQuiet_nil ?_
 intro W hW
 have HW := hQQ hW
 clear hW
 go_wp2_with fail
 go_ret
 exact ⟨rfl,HM.out.trans HW.out⟩
theorem rlive (R : CfgOk wk cp pg st tr wt ck pr ca bi ba) :
   Calls Tryz.prog 38 #[.agg #[.int .i64 wk,.int .i64 cp,.int .i64 pg,.int .i64 st,.int .i64 tr,.int .i64 wt,.int .i64 ck,.int .i64 pr,.int .i64 ca,.int .i64 bi,.int .i64 ba]] w (Gives w (.int .i64 (liveV cp pg st ca bi))) := by
 have HR := hQQ R
 have b1 := binsB R
 have h1 := R.bi1
 have h2 := R.bi2
 have q0 : IntKind.i64.wrap (bi + 1) = bi + 1 := wrap_in (by omega) (by omega)
 have q1 : IntKind.i64.wrap (5 * (bi + 1)) = 5 * (bi + 1) := wrap_in (by omega) (by omega)
 have q2 : IntKind.i64.wrap (binsV cp pg st ca + 5 * (bi + 1)) = binsV cp pg st ca + 5 * (bi + 1) := wrap_in (by omega) (by omega)
 have HC := hQQ (cfgAt_new w 30 wk cp pg st tr wt ck pr ca bi ba)
 have HM : Hid (More w (w.alloc (.cells #[.int .i64 wk,.int .i64 cp,.int .i64 pg,.int .i64 st,.int .i64 tr,.int .i64 wt,.int .i64 ck,.int .i64 pr,.int .i64 ca,.int .i64 bi,.int .i64 ba] 30))) := (More.refl w).alloc _
 clear R
 go_enter Tryz.func38,Tryz.ntmps38
 go_wp2_with fail
 generalize w.alloc (.cells #[.int .i64 wk,.int .i64 cp,.int .i64 pg,.int .i64 st,.int .i64 tr,.int .i64 wt,.int .i64 ck,.int .i64 pr,.int .i64 ca,.int .i64 bi,.int .i64 ba] 30) = W0 at *
 have hne : ∃ W,More W0 W := ⟨W0,More.refl _⟩
 refine wp_region_more (by kernel_rfl) (by kernel_rfl) ?_
 iterate 9
   with_reducible refine wpQuiet_step (fun K hK => ?_)
   go_simp
   first
   | (refine hK _ ?_; clear hK K)
   | (apply Exists.intro
      refine ⟨fun W hW => ?_,hK _ ?_⟩
      first
      | (go_at_call 70; exact Calls.more hW (rbins _ _ _ _ _ _ _ _ _ _ _ _ HR.out))
      | (obtain ⟨e0,e1,e2,e3,e4,e5,e6,e7,e8,e9,e10⟩ := HC.out.cells hW; go_simp; try rfl)
      clear hK K)
 refine wpQuiet_nil ?_
 intro W hW
 have HW := hQQ hW
 clear hW
 go_wp2_with fail
 go_ret
 exact ⟨rfl,HM.out.trans HW.out⟩
theorem ruser (R : CfgOk wk cp pg st tr wt ck pr ca bi ba) :
   Calls Tryz.prog 9 #[.agg #[.int .i64 wk,.int .i64 cp,.int .i64 pg,.int .i64 st,.int .i64 tr,.int .i64 wt,.int .i64 ck,.int .i64 pr,.int .i64 ca,.int .i64 bi,.int .i64 ba]] w (Gives w (.int .i64 (userV cp pg st ca bi))) := by
 have HR := hQQ R
 have b1 := liveB R
 have h1 := R.pg1
 have h2 := R.pg2
 have q0 : IntKind.i64.wrap (32 * pg) = 32 * pg := wrap_in (by omega) (by omega)
 have q1 : IntKind.i64.wrap (liveV cp pg st ca bi + 32 * pg) = liveV cp pg st ca bi + 32 * pg := wrap_in (by omega) (by omega)
 have q2 : IntKind.i64.wrap (liveV cp pg st ca bi + 32 * pg + 127) = liveV cp pg st ca bi + 32 * pg + 127 := wrap_in (by omega) (by omega)
 have q3 : IntKind.i64.wrap ((liveV cp pg st ca bi + 32 * pg + 127) / 128 * 128) = (liveV cp pg st ca bi + 32 * pg + 127) / 128 * 128 := wrap_in (by omega) (by omega)
 have qd : IntKind.i64.wrap ((liveV cp pg st ca bi + 32 * pg + 127).tdiv 128) = (liveV cp pg st ca bi + 32 * pg + 127) / 128 := by
   rw [Int.tdiv_eq_ediv_of_nonneg (by omega)]; exact wrap_in (by omega) (by omega)
 have HC := hQQ (cfgAt_new w 30 wk cp pg st tr wt ck pr ca bi ba)
 have HM : Hid (More w (w.alloc (.cells #[.int .i64 wk,.int .i64 cp,.int .i64 pg,.int .i64 st,.int .i64 tr,.int .i64 wt,.int .i64 ck,.int .i64 pr,.int .i64 ca,.int .i64 bi,.int .i64 ba] 30))) := (More.refl w).alloc _
 clear R
 go_enter Tryz.func9,Tryz.ntmps9
 go_wp2_with fail
 generalize w.alloc (.cells #[.int .i64 wk,.int .i64 cp,.int .i64 pg,.int .i64 st,.int .i64 tr,.int .i64 wt,.int .i64 ck,.int .i64 pr,.int .i64 ca,.int .i64 bi,.int .i64 ba] 30) = W0 at *
 have hne : ∃ W,More W0 W := ⟨W0,More.refl _⟩
 refine wp_region_more (by kernel_rfl) (by kernel_rfl) ?_
 iterate 11
   with_reducible refine wpQuiet_step (fun K hK => ?_)
   go_simp
   first
   | (refine hK _ ?_; clear hK K)
   | (apply Exists.intro
      refine ⟨fun W hW => ?_,hK _ ?_⟩
      first
      | (go_at_call 38; exact Calls.more hW (rlive _ _ _ _ _ _ _ _ _ _ _ _ HR.out))
      | (obtain ⟨e0,e1,e2,e3,e4,e5,e6,e7,e8,e9,e10⟩ := HC.out.cells hW; go_simp; try rfl)
      clear hK K)
 refine wpQuiet_nil ?_
 intro W hW
 have HW := hQQ hW
 clear hW
 go_wp2_with fail
 go_ret
 exact ⟨rfl,HM.out.trans HW.out⟩
theorem rwords (R : CfgOk wk cp pg st tr wt ck pr ca bi ba) :
   Calls Tryz.prog 37 #[.agg #[.int .i64 wk,.int .i64 cp,.int .i64 pg,.int .i64 st,.int .i64 tr,.int .i64 wt,.int .i64 ck,.int .i64 pr,.int .i64 ca,.int .i64 bi,.int .i64 ba]] w (Gives w (.int .i64 (wordsV cp pg st ca bi))) := by
 have HR := hQQ R
 have b1 := userB R
 have h1 := R.pg1
 have h2 := R.pg2
 have q0 : IntKind.i64.wrap (32 * pg) = 32 * pg := wrap_in (by omega) (by omega)
 have q1 : IntKind.i64.wrap (userV cp pg st ca bi + 32 * pg) = userV cp pg st ca bi + 32 * pg := wrap_in (by omega) (by omega)
 have HC := hQQ (cfgAt_new w 30 wk cp pg st tr wt ck pr ca bi ba)
 have HM : Hid (More w (w.alloc (.cells #[.int .i64 wk,.int .i64 cp,.int .i64 pg,.int .i64 st,.int .i64 tr,.int .i64 wt,.int .i64 ck,.int .i64 pr,.int .i64 ca,.int .i64 bi,.int .i64 ba] 30))) := (More.refl w).alloc _
 clear R
 go_enter Tryz.func37,Tryz.ntmps37
 go_wp2_with fail
 generalize w.alloc (.cells #[.int .i64 wk,.int .i64 cp,.int .i64 pg,.int .i64 st,.int .i64 tr,.int .i64 wt,.int .i64 ck,.int .i64 pr,.int .i64 ca,.int .i64 bi,.int .i64 ba] 30) = W0 at *
 have hne : ∃ W,More W0 W := ⟨W0,More.refl _⟩
 refine wp_region_more (by kernel_rfl) (by kernel_rfl) ?_
 iterate 8
   with_reducible refine wpQuiet_step (fun K hK => ?_)
   go_simp
   first
   | (refine hK _ ?_; clear hK K)
   | (apply Exists.intro
      refine ⟨fun W hW => ?_,hK _ ?_⟩
      first
      | (go_at_call 9; exact Calls.more hW (ruser _ _ _ _ _ _ _ _ _ _ _ _ HR.out))
      | (obtain ⟨e0,e1,e2,e3,e4,e5,e6,e7,e8,e9,e10⟩ := HC.out.cells hW; go_simp; try rfl)
      clear hK K)
 refine wpQuiet_nil ?_
 intro W hW
 have HW := hQQ hW
 clear hW
 go_wp2_with fail
 go_ret
 exact ⟨rfl,HM.out.trans HW.out⟩
variable (wk cp pg st tr wt ck pr ca bi ba : Int) (w : World)
end Go.Proofs.YtflihdcliknggaaGreatDoor
namespace Go.Proofs.YtflihdcliknggaaGreatDoor
open Go.RowKit Go.Sort Go.Maps Go.Shelf
section
variable {P : Program} {ops : Array Oper} {rest : List Oper} {o : Oper} {a : Act} {w : World} {Q : Exit → Act → World → Prop}
theorem wpList_load_int (hw : Region.wanted o (yielded ops a.tmps) = true) (ty : TypeId) (x : Operand) (ho : o.op = .load ty x) (g i : Nat) (hx : a.eval x = .pointer (some ⟨g,i,none⟩)) (k : IntKind) (hu : P.underlying ty = some (.int k)) (v : Value) (hc : w.cell? ⟨g,i,none⟩ = some v)
   (h : wpList P ops Q rest (a.put o.dst v) w) : wpList P ops Q (o :: rest) a w :=
 wpList_wanted hw fun K hK => by
   have hr : (loadVar ty ⟨g,i,none⟩).run P w = .ok v w := run_loadVar_cell hu rfl hc
   unfold Oper.wp Oper.upon execOp
   simp only [ho,hx,Instr.loadAt,Instr.sureAddr,Sem.run_bind,Sem.run_pure,Result.andThen_ok,hr]
   exact hK _ _ h
theorem wpList_store_int (hw : Region.wanted o (yielded ops a.tmps) = true) (ty : TypeId) (x y : Operand) (ho : o.op = .store ty x y) (hd : o.dst = none) (g i : Nat) (hx : a.eval x = .pointer (some ⟨g,i,none⟩)) (z : Int) (hy : a.eval y = .int .i64 z) (cs : Array Value) (t : TypeId) (hg : w.heap[g]? = some (.cells cs t (0,0))) (hi : i < cs.size) (hsz : (P.info? ty).map (·.size) = some 1)
   (h : ∀ w',w'.heap[g]? = some (.cells (cs.setIfInBounds i (.int .i64 z)) t (0,0)) → Turned (fun k => k = g) w w' → wpList P ops Q rest a w') : wpList P ops Q (o :: rest) a w :=
 wpList_wanted hw fun K hK => by
   have hc : w.cell? ⟨g,i,none⟩ = some cs[i] := by rw [cell_of_row w g i cs t _ hg,Array.getElem?_eq_getElem hi]
   have hf : w.frozen? ⟨g,i,none⟩ = false := frozen_of_row w g i cs t hg
   have hs : (Instr.storeAt ty (.pointer (some ⟨g,i,none⟩)) (.int .i64 z)).run P w = .ok () (w.setCell ⟨g,i,none⟩ (.int .i64 z)) := by
     cases hq : P.info? ty with
     | none => rw [hq] at hsz; simp at hsz
     | some d =>
       rw [hq] at hsz
       have hs1 : d.size = 1 := by simpa using hsz
       simp [hc,hf,go_sem,sizeOf,typeInfo,hq,hs1]
   have := hK _ _ (h _ (heap_setCell (.int .i64 z) hg) (Turned.setCell (Turned.refl _ w) ⟨g,i,none⟩ (.int .i64 z) (fun _ => rfl)))
   unfold Oper.wp Oper.upon execOp
   simp only [ho,hx,hy,Sem.run_bind,Sem.run_pure,hs,Result.andThen_ok,hd]
   exact this
end
def smallC (c : Cfg) : Cfg := { wk := 1 + c.wk % 4,cp := 1 + c.cp % 2,pg := 1 + c.pg % 9,st := 1 + c.st % 4,tr := c.tr,wt := c.wt,ck := c.ck,pr := 1 + c.pr % 3,ca := c.ca % 3,bi := c.bi % 4,ba := 1 + c.ba % 3 }
structure Cfg.Small (c : Cfg) : Prop where
 ok : c.Ok
 cp2 : c.cp ≤ 2
 pg9 : c.pg ≤ 9
 st4 : c.st ≤ 4
 ca2 : c.ca ≤ 2
 bi3 : c.bi ≤ 3
theorem small_small {c : Cfg} (R : c.Ok) : (smallC c).Small := by
 have h1 := R.wk1; have h2 := R.cp1; have h3 := R.pg1; have h4 := R.st1; have h5 := R.tr1; have h6 := R.tr2; have h7 := R.wt1; have h8 := R.wt2; have h9 := R.ck1; have h10 := R.ck2; have h11 := R.pr1; have h12 := R.ca1; have h13 := R.bi1; have h14 := R.ba1
 unfold smallC
 refine ⟨?_,?_,?_,?_,?_,?_⟩ <;> try (show _ ≤ _; simp only; omega)
 constructor <;> (simp only; omega)
theorem Cfg.Small.words {c : Cfg} (S : c.Small) : 160 ≤ c.words ∧ c.words ≤ 800 := by
 have hb := wordsB S.ok
 refine ⟨hb.1,?_⟩
 have h1 := S.cp2; have h2 := S.pg9; have h3 := S.st4; have h4 := S.ca2; have h5 := S.bi3
 have c0 := S.ok.cp1; have c1 := S.ok.ca1; have c2 := S.ok.bi1; have c3 := S.ok.pg1
 have pb : c.cp * (c.ca + 1) ≤ 2 * 3 := Int.mul_le_mul h1 (by omega) (by omega) (by omega)
 have pa : 5 * c.cp * (c.ca + 1) = 5 * (c.cp * (c.ca + 1)) := by rw [Int.mul_assoc]
 unfold Cfg.words wordsV userV liveV binsV cachesV headsV tableV chunksV
 rw [pa]
 omega
theorem Cfg.Small.tbl {c : Cfg} (S : c.Small) {n : Nat} (hn : (n : Int) = c.words) : TblIn c.pg c.st n := by
 refine ⟨S.ok.st1,S.ok.st2,S.ok.pg1,S.ok.pg2,?_⟩
 rw [hn]
 have h1 := liveB S.ok; have h2 := userB S.ok; have h3 := S.ok.pg1
 have h4 : tableV c.st + chunksV c.pg ≤ headsV c.st c.pg := by unfold headsV; omega
 have h5 : headsV c.st c.pg ≤ liveV c.cp c.pg c.st c.ca c.bi := by
   have := prod5B S.ok; have := S.ok.bi1
   unfold liveV binsV cachesV; omega
 show _ ≤ wordsV c.cp c.pg c.st c.ca c.bi
 unfold wordsV
 omega
theorem small_any {c : Cfg} (R : c.Ok) (y0 y1 y2 y3 y4 y5 y6 y7 y8 y9 y10 : Int) (v : Value) (w : World) (hS : ∀ W,Calls Tryz.prog 66 #[v] W (Gives W (.agg #[.int .i64 c.wk,.int .i64 c.cp,.int .i64 c.pg,.int .i64 c.st,.int .i64 c.tr,.int .i64 c.wt,.int .i64 c.ck,.int .i64 c.pr,.int .i64 c.ca,.int .i64 c.bi,.int .i64 c.ba]))) (hv : v = .agg #[.int .i64 y0,.int .i64 y1,.int .i64 y2,.int .i64 y3,.int .i64 y4,.int .i64 y5,.int .i64 y6,.int .i64 y7,.int .i64 y8,.int .i64 y9,.int .i64 y10]) :
   Calls Tryz.prog 32 #[v] w (Gives w (.agg (smallC c).cells)) := by
 have h1 := R.wk1; have h2 := R.cp1; have h3 := R.pg1; have h4 := R.st1; have h11 := R.pr1; have h12 := R.ca1; have h13 := R.bi1; have h14 := R.ba1
 have g1 := R.wk2; have g2 := R.cp2; have g3 := R.pg2; have g4 := R.st2; have g11 := R.pr2; have g12 := R.ca2; have g13 := R.bi2; have g14 := R.ba2
 have t0 : c.wk.tmod 4 = c.wk % 4 := Int.tmod_eq_emod_of_nonneg (by omega)
 have t1 : c.cp.tmod 2 = c.cp % 2 := Int.tmod_eq_emod_of_nonneg (by omega)
 have t2 : c.pg.tmod 9 = c.pg % 9 := Int.tmod_eq_emod_of_nonneg (by omega)
 have t3 : c.st.tmod 4 = c.st % 4 := Int.tmod_eq_emod_of_nonneg (by omega)
 have t7 : c.pr.tmod 3 = c.pr % 3 := Int.tmod_eq_emod_of_nonneg (by omega)
 have t8 : c.ca.tmod 3 = c.ca % 3 := Int.tmod_eq_emod_of_nonneg (by omega)
 have t9 : c.bi.tmod 4 = c.bi % 4 := Int.tmod_eq_emod_of_nonneg (by omega)
 have t10 : c.ba.tmod 3 = c.ba % 3 := Int.tmod_eq_emod_of_nonneg (by omega)
 have q0 : IntKind.i64.wrap (1 + c.wk % 4) = 1 + c.wk % 4 := wrap_in (by omega) (by omega)
 have q1 : IntKind.i64.wrap (1 + c.cp % 2) = 1 + c.cp % 2 := wrap_in (by omega) (by omega)
 have q2 : IntKind.i64.wrap (1 + c.pg % 9) = 1 + c.pg % 9 := wrap_in (by omega) (by omega)
 have q3 : IntKind.i64.wrap (1 + c.st % 4) = 1 + c.st % 4 := wrap_in (by omega) (by omega)
 have q7 : IntKind.i64.wrap (1 + c.pr % 3) = 1 + c.pr % 3 := wrap_in (by omega) (by omega)
 have q10 : IntKind.i64.wrap (1 + c.ba % 3) = 1 + c.ba % 3 := wrap_in (by omega) (by omega)
 have HS := hQQ hS
 clear hS R h1 h2 h3 h4 h11 h12 h13 h14 g1 g2 g3 g4 g11 g12 g13 g14
 subst hv
 have HA0 := hQQ (row_new w #[.int .i64 y0,.int .i64 y1,.int .i64 y2,.int .i64 y3,.int .i64 y4,.int .i64 y5,.int .i64 y6,.int .i64 y7,.int .i64 y8,.int .i64 y9,.int .i64 y10] 23)
 have HA : Hid (((w.alloc (.cells #[.int .i64 y0,.int .i64 y1,.int .i64 y2,.int .i64 y3,.int .i64 y4,.int .i64 y5,.int .i64 y6,.int .i64 y7,.int .i64 y8,.int .i64 y9,.int .i64 y10] 23)).alloc (.cells #[.int .i64 0,.int .i64 0,.int .i64 0,.int .i64 0,.int .i64 0,.int .i64 0,.int .i64 0,.int .i64 0,.int .i64 0,.int .i64 0,.int .i64 0] 23)).heap[w.heap.size]? = some (.cells #[.int .i64 y0,.int .i64 y1,.int .i64 y2,.int .i64 y3,.int .i64 y4,.int .i64 y5,.int .i64 y6,.int .i64 y7,.int .i64 y8,.int .i64 y9,.int .i64 y10] 23 (0,0))) := ((More.refl _).alloc _).block HA0.out
 have HZ0 : Hid (((w.alloc (.cells #[.int .i64 y0,.int .i64 y1,.int .i64 y2,.int .i64 y3,.int .i64 y4,.int .i64 y5,.int .i64 y6,.int .i64 y7,.int .i64 y8,.int .i64 y9,.int .i64 y10] 23)).alloc (.cells #[.int .i64 0,.int .i64 0,.int .i64 0,.int .i64 0,.int .i64 0,.int .i64 0,.int .i64 0,.int .i64 0,.int .i64 0,.int .i64 0,.int .i64 0] 23)).heap[w.heap.size + 1]? = some (.cells #[.int .i64 0,.int .i64 0,.int .i64 0,.int .i64 0,.int .i64 0,.int .i64 0,.int .i64 0,.int .i64 0,.int .i64 0,.int .i64 0,.int .i64 0] 23 (0,0))) := by
   have := row_new (w.alloc (.cells #[.int .i64 y0,.int .i64 y1,.int .i64 y2,.int .i64 y3,.int .i64 y4,.int .i64 y5,.int .i64 y6,.int .i64 y7,.int .i64 y8,.int .i64 y9,.int .i64 y10] 23)) #[.int .i64 0,.int .i64 0,.int .i64 0,.int .i64 0,.int .i64 0,.int .i64 0,.int .i64 0,.int .i64 0,.int .i64 0,.int .i64 0,.int .i64 0] 23
   rwa [World.size_alloc] at this
 have HM : Hid (More w ((w.alloc (.cells #[.int .i64 y0,.int .i64 y1,.int .i64 y2,.int .i64 y3,.int .i64 y4,.int .i64 y5,.int .i64 y6,.int .i64 y7,.int .i64 y8,.int .i64 y9,.int .i64 y10] 23)).alloc (.cells #[.int .i64 0,.int .i64 0,.int .i64 0,.int .i64 0,.int .i64 0,.int .i64 0,.int .i64 0,.int .i64 0,.int .i64 0,.int .i64 0,.int .i64 0] 23))) := ((More.refl w).alloc _).alloc _
 go_enter Tryz.func32,Tryz.ntmps32
 go_wp2_with (refine wpList_load_row rfl 23 _ rfl _ rfl 23 _ _ _ HA.out Tryz.underlying23 rfl (by kernel_rfl) ?_)
 refine (HS.out _).mono ?_
 rintro e w4 ⟨rfl,m4⟩
 have HB4 := hQQ (setRow_heap w4 w.heap.size _ #[.int .i64 c.wk,.int .i64 c.cp,.int .i64 c.pg,.int .i64 c.st,.int .i64 c.tr,.int .i64 c.wt,.int .i64 c.ck,.int .i64 c.pr,.int .i64 c.ca,.int .i64 c.bi,.int .i64 c.ba] _ _ (m4.block HA.out))
 have HZ4 : Hid ((w4.setRow w.heap.size #[.int .i64 c.wk,.int .i64 c.cp,.int .i64 c.pg,.int .i64 c.st,.int .i64 c.tr,.int .i64 c.wt,.int .i64 c.ck,.int .i64 c.pr,.int .i64 c.ca,.int .i64 c.bi,.int .i64 c.ba]).heap[w.heap.size + 1]? = _) := hQQ ((setRow_other w4 w.heap.size (w.heap.size + 1) #[.int .i64 c.wk,.int .i64 c.cp,.int .i64 c.pg,.int .i64 c.st,.int .i64 c.tr,.int .i64 c.wt,.int .i64 c.ck,.int .i64 c.pr,.int .i64 c.ca,.int .i64 c.bi,.int .i64 c.ba] (by omega)).trans (m4.block HZ0.out))
 have HM4 : Hid (More w (w4.setRow w.heap.size #[.int .i64 c.wk,.int .i64 c.cp,.int .i64 c.pg,.int .i64 c.st,.int .i64 c.tr,.int .i64 c.wt,.int .i64 c.ck,.int .i64 c.pr,.int .i64 c.ca,.int .i64 c.bi,.int .i64 c.ba])) := (HM.out.trans m4).setRow _ _ (Nat.le_refl _)
 have HX4 := hQQ (m4.block HA.out)
 clear m4
 have hw1 : w.heap.size + 1 < (w4.setRow w.heap.size #[.int .i64 c.wk,.int .i64 c.cp,.int .i64 c.pg,.int .i64 c.st,.int .i64 c.tr,.int .i64 c.wt,.int .i64 c.ck,.int .i64 c.pr,.int .i64 c.ca,.int .i64 c.bi,.int .i64 c.ba]).heap.size := lt_of_heap HZ4.out
 go_wp2_with (first
   | (refine wpList_store_row rfl 23 _ _ rfl _ _ rfl rfl 23 _ HX4.out (by kernel_rfl) rfl (by simp [Value.oneCell']) ?_; generalize w4.setRow w.heap.size #[.int .i64 c.wk,.int .i64 c.cp,.int .i64 c.pg,.int .i64 c.st,.int .i64 c.tr,.int .i64 c.wt,.int .i64 c.ck,.int .i64 c.pr,.int .i64 c.ca,.int .i64 c.bi,.int .i64 c.ba] = w5 at HB4 HZ4 HM4 hw1 ⊢; have HB := HB4; have HZ := HZ4; have HT := HM4; clear HX4 HB4 HZ4 HM4)
   | (refine wpList_load_int rfl 3 _ rfl w.heap.size _ rfl .i64 Tryz.underlying3 _ (cell_more HB.out (More.refl _) rfl) ?_)
   | (refine wpList_store_int rfl 3 _ _ rfl rfl w.heap.size _ rfl _ rfl _ _ HB.out (by simp) (by kernel_rfl) ?_; intro w6 hb6 ht6; simp only [List.setIfInBounds_toArray,List.set_cons_zero,List.set_cons_succ] at hb6; have HZ := hQQ ((Turned.block ht6 (w.heap.size + 1) (lt_of_heap HZ.out) (by omega)).trans HZ.out); have HT : Hid (More w w6) := hQQ (Turned.mono (turned_own (F:=fun _ => False) HT.out ht6 (fun k q => .inr (by omega))) (fun _ _ q => q)); have HB := hQQ hb6; clear hb6 ht6)
   | (refine wpList_load_row rfl 23 _ rfl _ rfl 23 _ _ _ HB.out Tryz.underlying23 rfl (by kernel_rfl) ?_)
   | (refine wpList_store_row rfl 23 _ _ rfl _ _ rfl rfl 23 _ HZ.out (by kernel_rfl) rfl (by simp [Value.oneCell']) ?_))
 refine bodyPost_ret (v:=.agg (smallC c).cells) (results_cell_row Tryz.results32 _ _ _ 23 _ (0,0) _ rfl (setRow_heap _ _ _ _ _ _ HZ.out) Tryz.underlying23 rfl (by kernel_rfl)) rfl ⟨rfl,?_⟩
 exact HT.out.setRow _ _ (by omega)
def zeros (n : Nat) : List Int := List.replicate n 0
theorem zeros_len (n : Nat) : (zeros n).length = n := by simp [zeros]
theorem zeros_made (n : Nat) : (madeCells (Value.int .i64 0).cells (n * 1)).toList = (zeros n).map (Value.int .i64) := by
 apply List.ext_getElem
 · simp [madeCells,zeros,Value.cells]
 · intro i h1 h2
   simp [madeCells,zeros,Value.cells,Nat.mod_one]
theorem okW_zeros (n : Nat) : OkW (zeros n) := fun x hx => by
 have := List.eq_of_mem_replicate hx
 subst this; unfold W64; omega
def Ws (w : World) (g cap : Nat) (zs : List Int) : Prop := ∃ cur : Array Value,w.heap[g]? = some (.cells cur 3 (0,0)) ∧ zs.length ≤ cap ∧ cap ≤ maxLen ∧ cur.size = cap ∧ ∀ i,i < zs.length → cur[i]? = some (.int .i64 (zs.getD i 0))
theorem Ws.of_rw {w : World} {base g cap : Nat} {zs : List Int} (h : Rw base w (.slice (some ⟨g,0,none⟩) zs.length cap) zs) : Ws w g cap zs := by
 rcases h.2 with ⟨q,_⟩ | ⟨g',cap',cur,q,hb,hg,h1,h2,h3,h4⟩
 · cases q
 · cases q
   refine ⟨cur,hg,h1,h2,by simpa using h3,fun i hi => ?_⟩
   have h5 : (cur.toList.take (zs.length * 1))[i]? = some (.int .i64 (zs.getD i 0)) := by
     rw [h4,List.getElem?_map,List.getElem?_eq_getElem hi]; simp [List.getD,hi]
   rw [List.getElem?_take,if_pos (by omega)] at h5
   simpa using h5
theorem Ws.cell {w : World} {g cap : Nat} {zs : List Int} (h : Ws w g cap zs) {i : Nat} (hi : i < zs.length) : w.cell? ⟨g,i,none⟩ = some (.int .i64 (zs.getD i 0)) := by
 obtain ⟨cur,hg,_,_,_,h4⟩ := h
 rw [cell_of_row w g i _ _ _ hg,h4 i hi]
theorem Ws.lt {w : World} {g cap : Nat} {zs : List Int} (h : Ws w g cap zs) : g < w.heap.size := by
 obtain ⟨cur,hg,_⟩ := h
 exact lt_of_heap hg
theorem Ws.keep {S : Nat → Prop} {w w' : World} {g cap : Nat} {zs : List Int} (h : Ws w g cap zs) (t : Turned S w w') (hs : ¬ S g) : Ws w' g cap zs := by
 obtain ⟨cur,hg,q⟩ := h
 exact ⟨cur,(t.block g (lt_of_heap hg) hs).trans hg,q⟩
theorem Ws.more {w w' : World} {g cap : Nat} {zs : List Int} (h : Ws w g cap zs) (t : More w w') : Ws w' g cap zs := by
 obtain ⟨cur,hg,q⟩ := h
 exact ⟨cur,t.block hg,q⟩
theorem Ws.words {w : World} {g cap : Nat} {zs : List Int} (h : Ws w g cap zs) : IsWords w (some ⟨g,0,none⟩) zs :=
 .inr ⟨g,0,rfl,h.lt,fun i hi => by rw [Nat.zero_add]; exact h.cell hi⟩
end Go.Proofs.YtflihdcliknggaaGreatDoor
namespace Go.Proofs.YtflihdcliknggaaGreatDoor
open Go.RowKit
section
variable {P : Program} {ops : Array Oper} {md : Region.Mode} {C : World → Prop} {Q : Exit → Act → World → Prop}
def YieldsC (P : Program) (ops : Array Oper) (C : World → Prop) (o : Oper) (v : Value) (a : Act) : Prop :=
 (Region.wanted o (yielded ops a.tmps) = true ∧ ∀ w,C w → (execOp a.eval o).run P w = .ok (.value v) w) ∨
 (Region.wanted o (yielded ops a.tmps) = false ∧ v = undef)
theorem YieldsC.wpOp {i : Nat} {o : Oper} {v : Value} {a : Act} (hi : ops[i]? = some o) (hy : YieldsC P ops C o v a)
   {K : Act → World → Prop} {w : World} (hC : C w) (h : K (a.put o.dst v) w) : wpOp P ops Q i K a w := by
 unfold Go.wpOp
 simp only [hi]
 rcases hy with ⟨hw,hv⟩ | ⟨hw,rfl⟩
 · simp only [hw,if_true,Oper.wp,hv w hC,Oper.upon]; exact .inl h
 · simp only [hw,Bool.false_eq_true,if_false]; exact h
theorem YieldsC.of_same {o : Oper} {v : Value} {a a' : Act} (hy : YieldsC P ops C o v a) (he : execOp a'.eval o = execOp a.eval o)
   (hw : Region.wanted o (yielded ops a'.tmps) = Region.wanted o (yielded ops a.tmps)) : YieldsC P ops C o v a' := by
 unfold YieldsC at *
 rw [he,hw]
 exact hy
theorem wpOp_putC {j : Nat} {oi oj : Oper} {v : Value} (hj : ops[j]? = some oj) (hap : oi.apart ops oj = true)
   (hsi : ∀ cs b,oi.op ≠ .select cs b) (hsj : ∀ cs b,oj.op ≠ .select cs b)
   (hQ : ∀ c a w,Q (.panic c) (a.put oi.dst v) w → Q (.panic c) a w) {K : Act → World → Prop} {a : Act} {w : World}
   (hy : YieldsC P ops C oi v a) (h : wpOp P ops Q j K (a.put oi.dst v) w) :
   wpOp P ops Q j (fun a' w' => YieldsC P ops C oi v a' ∧ K (a'.put oi.dst v) w') a w := by
 obtain ⟨h1,h2,h3⟩ := Oper.apart_spec hap
 have keep : ∀ (a : Act),YieldsC P ops C oi v a → ∀ u,YieldsC P ops C oi v (a.put oj.dst u) := fun a hy u =>
   hy.of_same (execOp_put oi hsi a oj.dst u h3) (wanted_put oi a oj.dst u h3)
 have keepD : ∀ d,YieldsC P ops C oi v { a with defers := d :: a.defers } := fun d => hy.of_same rfl rfl
 unfold wpOp at *
 simp only [hj] at *
 rw [wanted_put oj a oi.dst v h1] at h
 split
 · rename_i hw
   simp only [hw,if_true] at h
   rcases h with h | ⟨hasks,hlets⟩
   case inr => exact .inr ⟨by unfold Oper.asks at *; rw [execOp_put oj hsj a oi.dst v h1] at hasks; exact hasks,hlets⟩
   refine .inl ?_
   unfold Oper.wp at *
   rw [execOp_put oj hsj a oi.dst v h1] at h
   generalize (execOp a.eval oj).run P w = r at *
   cases r with
   | ok n w' =>
     cases n <;> simp only [Oper.upon] at h ⊢
     case value u => exact ⟨keep a hy u,by rw [← Act.put_comm a v u h2]; exact h⟩
     case skip => exact ⟨keep a hy _,by rw [← Act.put_comm a v undef h2]; exact h⟩
     case defer d =>
       refine ⟨keep _ (keepD d) _,?_⟩
       rw [← Act.put_comm _ v undef h2,← Act.put_defers]
       exact h
     case enter f args =>
       refine Calls.mono h fun e w'' he => ?_
       cases e with
       | returned u => exact ⟨keep a hy u,by rw [← Act.put_comm a v u h2]; exact he⟩
       | panicked c => exact hQ _ _ _ he
       | outgrown => exact he
     case row row args => exact Rows.mono h fun u w'' he => ⟨keep a hy u,by rw [← Act.put_comm a v u h2]; exact he⟩
   | halt x w' =>
     cases x <;> simp only [Oper.upon] at h ⊢
     case panic u => exact hQ _ _ _ h
 · rename_i hw
   simp only [hw] at h
   exact ⟨keep a hy _,by rw [← Act.put_comm a v undef h2]; exact h⟩
def anyC (P : Program) (md : Region.Mode) (ops : Array Oper) (C : World → Prop) (Q : Exit → Act → World → Prop) : Nat → Array Bool → Act → World → Prop
 | 0,d,a,w => Region.ready md ops d = [] ∧ Q .normal a w
 | f + 1,d,a,w => (Region.ready md ops d = [] → Q .normal a w) ∧ ∀ i ∈ Region.ready md ops d,wpOp P ops Q i (fun a' w' => C w' ∧ anyC P md ops C Q f (d.setIfInBounds i true) a' w') a w
theorem any_of_C : ∀ (f : Nat) (d : Array Bool) (a : Act) (w : World),anyC P md ops C Q f d a w → wpAny P md ops Q f d a w := by
 intro f
 induction f with
 | zero => intro d a w h; exact h
 | succ f ih => intro d a w h; exact ⟨h.1,fun i hi => wpOp_mono (fun a' w' z => ih _ a' w' z.2) (h.2 i hi)⟩
theorem anyC_first {i : Nat} {oi : Oper} {v : Value} (hi : ops[i]? = some oi) (hsel : ∀ (j : Nat) (o : Oper) cs b,ops[j]? = some o → o.op ≠ .select cs b)
   (hQ : ∀ c a w,Q (.panic c) (a.put oi.dst v) w → Q (.panic c) a w) :
   ∀ (fuel : Nat) (listed : Array Bool) (a : Act) (w : World),C w →
     (∀ j oj,ops[j]? = some oj → j ≠ i → listed.getD j true = false → (∀ e ∈ oj.after,Region.binds md e = true → e.on ≠ i) → oi.apart ops oj = true) →
     i ∈ Region.ready md ops listed → YieldsC P ops C oi v a →
     anyC P md ops C Q fuel (listed.setIfInBounds i true) (a.put oi.dst v) w → anyC P md ops C Q (fuel + 1) listed a w := by
 intro fuel
 induction fuel with
 | zero =>
   intro listed a w hC _ hr hy H
   refine ⟨fun h => (by rw [h] at hr; cases hr),fun j hj => ?_⟩
   by_cases hji : j = i
   · subst hji; exact hy.wpOp hi hC ⟨hC,H⟩
   · have := ready_mono hj hji
     rw [H.1] at this
     cases this
 | succ fuel ih =>
   intro listed a w hC hfree hr hy H
   refine ⟨fun h => (by rw [h] at hr; cases hr),fun j hj => ?_⟩
   by_cases hji : j = i
   · subst hji; exact hy.wpOp hi hC ⟨hC,H⟩
   · have h1 := H.2 j (ready_mono hj hji)
     obtain ⟨hjun,oj,hoj,hall⟩ := mem_ready.1 hj
     have hnot : ∀ e ∈ oj.after,Region.binds md e = true → e.on ≠ i := fun e he hb heq => by
       have h1 := hall e he hb
       have h0 := (mem_ready.1 hr).1
       rw [heq] at h1
       rcases Nat.lt_or_ge i listed.size with h' | h'
       · simp [h'] at h0 h1; rw [h0] at h1; cases h1
       · simp [Array.getElem?_eq_none h'] at h1
     have h2 := wpOp_putC hoj (hfree j oj hoj hji hjun hnot) (fun cs b => hsel i oi cs b hi) (fun cs b => hsel j oj cs b hoj) hQ hy h1
     have hfree' : ∀ k ok,ops[k]? = some ok → k ≠ i → (listed.setIfInBounds j true).getD k true = false →
         (∀ e ∈ ok.after,Region.binds md e = true → e.on ≠ i) → oi.apart ops ok = true := fun k ok hk hki hun hno => by
       refine hfree k ok hk hki ?_ hno
       by_cases hjk : j = k
       · subst hjk; exact hjun
       · rw [getD_set_ne true hjk] at hun; exact hun
     refine wpOp_mono (fun a' w' h3 => ⟨h3.2.1,ih (listed.setIfInBounds j true) a' w' h3.2.1 hfree' (ready_mono hr (Ne.symm hji)) h3.1 ?_⟩) h2
     rw [Array.setIfInBounds_comm _ _ hji]
     exact h3.2.2
theorem anyC_take {i : Nat} {oi : Oper} {v : Value} {fuel : Nat} {listed : Array Bool} {a : Act} {w : World} (hi : ops[i]? = some oi)
   (hs : Region.noSelect ops = true) (hf : Region.free md ops listed i = true) (hr : (Region.ready md ops listed).contains i = true)
   (hQ : ∀ c a w,Q (.panic c) (a.put oi.dst v) w → Q (.panic c) a w) (hC : C w) (hy : YieldsC P ops C oi v a)
   (h : anyC P md ops C Q fuel (listed.setIfInBounds i true) (a.put oi.dst v) w) : anyC P md ops C Q (fuel + 1) listed a w :=
 anyC_first hi (Region.noSelect_spec hs) hQ fuel listed a w hC (Region.free_spec hi hf) (by simpa using hr) hy h
theorem anyC_takeD {i : Nat} {oi : Oper} {v : Value} {fuel : Nat} {listed : Array Bool} {a : Act} {w : World} (d : Option Tmp) (hi : ops[i]? = some oi) (hd : oi.dst = d)
   (hs : Region.noSelect ops = true) (hf : Region.free md ops listed i = true) (hr : (Region.ready md ops listed).contains i = true)
   (hQ : ∀ c a w,Q (.panic c) (a.put d v) w → Q (.panic c) a w) (hC : C w) (hy : YieldsC P ops C oi v a)
   (h : anyC P md ops C Q fuel (listed.setIfInBounds i true) (a.put d v) w) : anyC P md ops C Q (fuel + 1) listed a w := by
 subst hd; exact anyC_take hi hs hf hr hQ hC hy h
theorem anyC_one {i : Nat} {o : Oper} {fuel : Nat} {listed : Array Bool} {a : Act} {w : World} (hr : Region.ready md ops listed = [i]) (hi : ops[i]? = some o) (hw : Region.wanted o (yielded ops a.tmps) = true)
   (h : Oper.wp P o a w (fun a' w' => C w' ∧ anyC P md ops C Q fuel (listed.setIfInBounds i true) a' w') Q) : anyC P md ops C Q (fuel + 1) listed a w := by
 refine ⟨fun q => (by rw [hr] at q; cases q),fun j hj => ?_⟩
 rw [hr] at hj
 obtain rfl : j = i := by simpa using hj
 unfold Go.wpOp
 simp only [hi,hw,if_true]
 exact .inl h
theorem anyC_done {fuel : Nat} {listed : Array Bool} {a : Act} {w : World} (hr : Region.ready md ops listed = []) (h : Q .normal a w) : anyC P md ops C Q fuel listed a w := by
 cases fuel with
 | zero => exact ⟨hr,h⟩
 | succ f => exact ⟨fun _ => h,fun i hi => (by rw [hr] at hi; cases hi)⟩
theorem yieldsC_row {o : Oper} {a : Act} (hw : Region.wanted o (yielded ops a.tmps) = true) (ty : TypeId) (x : Operand) (ho : o.op = .load ty x) (g : Nat) (hx : a.eval x = .pointer (some ⟨g,0,none⟩)) (t : TypeId) (cs : Array Value) (fr : Nat × Nat) (d : TypeDesc) (hg : ∀ w,C w → w.heap[g]? = some (.cells cs t fr))
   (hu : P.underlying ty = some d) (hd : (match d with | .struct _ | .array _ _ => true | _ => false) = true) (hi : (P.info? ty).map (·.size) = some cs.size) : YieldsC P ops C o (.agg cs) a := by
 refine .inl ⟨hw,fun w hC => ?_⟩
 unfold execOp
 simp only [ho,hx,Instr.loadAt,Instr.sureAddr,Sem.run_bind,Sem.run_pure,Result.andThen_ok,run_loadVar_row w g t ty cs fr d (hg w hC) hu hd hi]
end
theorem wp_region_anyC {P : Program} {ops : Array Oper} {id : Nat} {a : Act} {w : World} {Q : Exit → Act → World → Prop} (C : World → Prop) (hm : P.follows .mixedOrders = true)
   (h : anyC P .any ops C Q ops.size (Array.replicate ops.size false) a { w with drawn := w.drawn + 1 }) : (Code.region id ops true).wp P Q a w := wp_region_any hm (any_of_C _ _ _ _ h)
end Go.Proofs.YtflihdcliknggaaGreatDoor
namespace Go.Proofs.YtflihdcliknggaaGreatDoor
open Go.RowKit Go.Sort Go.Maps Go.Shelf
section
variable {P : Program} {o : Oper} {a : Act} {w : World} {K : Act → World → Prop} {Q : Exit → Act → World → Prop}
theorem wp_call2 {f : Nat} {x0 x1 : Operand} {v0 v1 : Value} {ts : Array TypeId} (ho : o.op = .call { callee := .value (.func f),args := #[x0,x1],argTypes := ts }) (h0 : a.eval x0 = v0) (h1 : a.eval x1 = v1) (he : ∀ (vs : Array Value) (w : World),Sem.run P (callFunc f vs) w = .ok (.enter f vs) w)
   (h : Calls P f #[v0,v1] w (fun | .returned v,w'' => K (a.put o.dst v) w'' | .panicked ch,w'' => Q (.panic ch) a w'' | .outgrown,_ => LetsOut Q)) : o.wp P a w K Q := by
 have hv : a.eval (.func f) = .func (.func f) #[] #[] := rfl
 unfold Oper.wp Oper.upon
 generalize hρ : a.eval = ρ at h0 h1 hv ⊢
 simp [execOp,ho,resolve,invoke,hv,h0,h1,he,Sem.run_bind,Result.andThen,go_sem]
 exact h
end
theorem any_start {P : Program} {md : Region.Mode} {ops : Array Oper} {Q : Exit → Act → World → Prop} {n : Nat} {dn : Array Bool} {a : Act} {w : World} (Φ : World → Prop) (ch : List PanicEntry) (fin : ∀ a w,a.defers = [] → Φ w → Q (.panic ch) a w) (h : ∀ Q' : Exit → Act → World → Prop,(∀ a w,a.defers = [] → Φ w → Q' (.panic ch) a w) → wpAny P md ops Q' n dn a w) : wpAny P md ops Q n dn a w := h Q fin
def AG (m : Nat) (a : Act) (L : List (Nat × Value)) : Prop := (m ≤ a.tmps.size ∧ a.defers = []) ∧ ∀ q ∈ L,a.eval (.tmp q.1) = q.2
theorem AG.put {m : Nat} {a : Act} {L : List (Nat × Value)} (h : AG m a L) (d : Nat) (v : Value) (hd : d < m) (hn : L.all (fun q => q.1 != d) = true) : AG m (a.put (some d) v) ((d,v) :: L) := by
 have hs := h.1.1
 refine ⟨⟨by simp [Act.put]; exact hs,h.1.2⟩,?_⟩
 intro q hq
 rcases List.mem_cons.1 hq with rfl | hq
 · have hlt : d < a.tmps.size := by omega
   simp [Act.put,Act.eval,Array.getD,hlt]
 · rw [Act.eval_put (by have := List.all_eq_true.1 hn q hq; simp at this; rintro _ ⟨⟩; simp [this])]
   exact h.2 q hq
theorem AG.get {m : Nat} {a : Act} {L : List (Nat × Value)} (h : AG m a L) (i : Nat) {k : Nat} {v : Value} (hm : L[i]? = some (k,v)) : a.eval (.tmp k) = v := h.2 (k,v) (List.mem_of_getElem? hm)
theorem frame_g {P : Program} {md : Region.Mode} {ops : Array Oper} {Q : Exit → Act → World → Prop} {n : Nat} {dn : Array Bool} {A : Act} {W : World} (m : Nat) (L : List (Nat × Value)) (hA : AG m A L) (h : ∀ a,AG m a L → wpAny P md ops Q n dn a W) : wpAny P md ops Q n dn A W := h A hA
section
variable {P : Program} {o : Oper} {a : Act} {w : World} {K : Act → World → Prop} {Q : Exit → Act → World → Prop}
theorem wp_call3 {f : Nat} {x0 x1 x2 : Operand} {v0 v1 v2 : Value} {ts : Array TypeId} (ho : o.op = .call { callee := .value (.func f),args := #[x0,x1,x2],argTypes := ts }) (h0 : a.eval x0 = v0) (h1 : a.eval x1 = v1) (h2 : a.eval x2 = v2) (he : ∀ (vs : Array Value) (w : World),Sem.run P (callFunc f vs) w = .ok (.enter f vs) w)
   (h : Calls P f #[v0,v1,v2] w (fun | .returned v,w'' => K (a.put o.dst v) w'' | .panicked ch,w'' => Q (.panic ch) a w'' | .outgrown,_ => LetsOut Q)) : o.wp P a w K Q := by
 have hv : a.eval (.func f) = .func (.func f) #[] #[] := rfl
 unfold Oper.wp Oper.upon
 generalize hρ : a.eval = ρ at h0 h1 h2 hv ⊢
 simp [execOp,ho,resolve,invoke,hv,h0,h1,h2,he,Sem.run_bind,Result.andThen,go_sem]
 exact h
theorem wp_callv1 {xf : Operand} {f : Nat} {clo : Array Value} {x0 : Operand} {v0 : Value} {ts : Array TypeId} (ho : o.op = .call { callee := .value xf,args := #[x0],argTypes := ts }) (hf : a.eval xf = .func (.func f) #[] clo) (h0 : a.eval x0 = v0) (he : ∀ (vs : Array Value) (w : World),Sem.run P (callFunc f vs) w = .ok (.enter f vs) w)
   (h : Calls P f (#[v0] ++ clo) w (fun | .returned v,w'' => K (a.put o.dst v) w'' | .panicked ch,w'' => Q (.panic ch) a w'' | .outgrown,_ => LetsOut Q)) : o.wp P a w K Q := by
 unfold Oper.wp Oper.upon
 generalize hρ : a.eval = ρ at h0 hf ⊢
 simp [execOp,ho,resolve,invoke,hf,h0,he,Sem.run_bind,Result.andThen,go_sem]
 exact h
end
theorem anyC_start {P : Program} {md : Region.Mode} {ops : Array Oper} {C : World → Prop} {Q : Exit → Act → World → Prop} {f : Nat} {d : Array Bool} {a : Act} {w : World} (Φ : Act → World → Prop) (Ψ : World → Prop) (ch : List PanicEntry) (fp : ∀ a w,a.defers = [] → Ψ w → Q (.panic ch) a w) (fq : ∀ c a k v w,Q (.panic c) (Act.put a (some k) v) w → Q (.panic c) a w) (fn : ∀ a w,Φ a w → Q .normal a w)
   (h : ∀ Q' : Exit → Act → World → Prop,(∀ a w,Φ a w → Q' .normal a w) → (∀ a w,a.defers = [] → Ψ w → Q' (.panic ch) a w) → (∀ c a k v w,Q' (.panic c) (Act.put a (some k) v) w → Q' (.panic c) a w) → anyC P md ops C Q' f d a w) : anyC P md ops C Q f d a w := h Q fn fp fq
theorem frame_c {P : Program} {md : Region.Mode} {ops : Array Oper} {C : World → Prop} {Q : Exit → Act → World → Prop} {n : Nat} {dn : Array Bool} {A : Act} {W : World} (m : Nat) (L : List (Nat × Value)) (hA : AG m A L) (h : ∀ a,AG m a L → anyC P md ops C Q n dn a W) : anyC P md ops C Q n dn A W := h A hA
theorem AG.getD {m : Nat} {a : Act} {L : List (Nat × Value)} (h : AG m a L) (i : Nat) {k : Nat} {v : Value} (hm : L[i]? = some (k,v)) : a.tmps[k]?.getD undef = v := by
 have := h.get i hm
 simpa [Act.eval] using this
section
variable {P : Program} {ops : Array Oper} {md : Region.Mode} {C : World → Prop} {Q : Exit → Act → World → Prop}
theorem wanted_g {o : Oper} {tmps : Array Value} (g : Nat) (b : Bool) (d : Tmp) (hg : o.guard = some (g,b)) (hd : (ops[g]?).bind (·.dst) = some d) (h : tmps[d]? = some (.bool b)) : Region.wanted o (yielded ops tmps) = true := by
 simp [Region.wanted,hg,yielded,hd,h]
theorem wanted_none {o : Oper} {f : Nat → Option Bool} (hg : o.guard = none) : Region.wanted o f = true := by simp [Region.wanted,hg]
theorem AG.at {m : Nat} {a : Act} {L : List (Nat × Value)} (h : AG m a L) {k : Nat} (hk : k < m) (i : Nat) {v : Value} (hm : L[i]? = some (k,v)) : a.tmps[k]? = some v := by
 have h1 := h.getD i hm
 have hl : k < a.tmps.size := Nat.lt_of_lt_of_le hk h.1.1
 rw [Array.getElem?_eq_getElem hl] at h1 ⊢
 simpa using h1
theorem yieldsC_moveG {o : Oper} {a : Act} {v : Value} (hw : Region.wanted o (yielded ops a.tmps) = true) (x : Operand) (ho : o.op = .move x) (hx : a.eval x = v) : YieldsC P ops C o v a :=
 .inl ⟨hw,fun w _ => by unfold execOp; simp only [ho,hx]; rfl⟩
theorem yieldsC_pickT {o : Oper} {a : Act} {v : Value} {x y z : Operand} (hw : Region.wanted o (yielded ops a.tmps) = true) (ho : o.op = .pick x y z) (hx : a.eval x = .bool true) (hy : a.eval y = v) : YieldsC Tryz.prog ops C o v a :=
 .inl ⟨hw,fun w _ => by unfold execOp; generalize a.eval = ρ at hx hy ⊢; simp only [ho,hx,hy]; go_simp⟩
theorem anyC_oneK {i : Nat} {o : Oper} {fuel : Nat} {listed : Array Bool} {a : Act} {w : World} (d : Option Tmp) (hr : Region.ready md ops listed = [i]) (hi : ops[i]? = some o) (hw : Region.wanted o (yielded ops a.tmps) = true) (hd : o.dst = d)
   (h : ∀ K : Act → World → Prop,(∀ v w',C w' → anyC P md ops C Q fuel (listed.setIfInBounds i true) (a.put d v) w' → K (a.put o.dst v) w') → Oper.wp P o a w K Q) : anyC P md ops C Q (fuel + 1) listed a w := by
 subst hd
 exact anyC_one hr hi hw (h _ (fun v w' hc hA => ⟨hc,hA⟩))
theorem anyC_last {i : Nat} {o : Oper} {fuel : Nat} {listed : Array Bool} {a : Act} {w : World} (hr : Region.ready md ops listed = [i]) (hr2 : Region.ready md ops (listed.setIfInBounds i true) = []) (hi : ops[i]? = some o) (hw : Region.wanted o (yielded ops a.tmps) = true)
   (h : ∀ K : Act → World → Prop,(∀ v w',C w' → Q .normal (a.put o.dst v) w' → K (a.put o.dst v) w') → Oper.wp P o a w K Q) : anyC P md ops C Q (fuel + 1) listed a w :=
 anyC_one hr hi hw (h _ (fun v w' hc hq => ⟨hc,anyC_done hr2 hq⟩))
variable {o : Oper} {a : Act} {w : World} {K : Act → World → Prop}
theorem wp_call5 {f : Nat} {x0 x1 x2 x3 x4 : Operand} {v0 v1 v2 v3 v4 : Value} {ts : Array TypeId} (ho : o.op = .call { callee := .value (.func f),args := #[x0,x1,x2,x3,x4],argTypes := ts }) (h0 : a.eval x0 = v0) (h1 : a.eval x1 = v1) (h2 : a.eval x2 = v2) (h3 : a.eval x3 = v3) (h4 : a.eval x4 = v4) (he : ∀ (vs : Array Value) (w : World),Sem.run P (callFunc f vs) w = .ok (.enter f vs) w)
   (h : Calls P f #[v0,v1,v2,v3,v4] w (fun | .returned v,w'' => K (a.put o.dst v) w'' | .panicked ch,w'' => Q (.panic ch) a w'' | .outgrown,_ => LetsOut Q)) : o.wp P a w K Q := by
 have hv : a.eval (.func f) = .func (.func f) #[] #[] := rfl
 unfold Oper.wp Oper.upon
 generalize hρ : a.eval = ρ at h0 h1 h2 h3 h4 hv ⊢
 simp [execOp,ho,resolve,invoke,hv,h0,h1,h2,h3,h4,he,Sem.run_bind,Result.andThen,go_sem]
 exact h
end
section
variable {P : Program} {ops : Array Oper} {md : Region.Mode} {C : World → Prop} {Q : Exit → Act → World → Prop} {o : Oper} {a : Act} {v : Value}
theorem yieldsC_addI {x y : Operand} {u z : Int} (hw : Region.wanted o (yielded ops a.tmps) = true) (ho : o.op = .binOp .add 3 x y 3) (hx : a.eval x = .int .i64 u) (hy : a.eval y = .int .i64 z) (t : Int) (hq : IntKind.i64.wrap (u + z) = t) : YieldsC Tryz.prog ops C o (.int .i64 t) a :=
 .inl ⟨hw,fun w _ => by unfold execOp; generalize a.eval = ρ at hx hy ⊢; simp only [ho,hx,hy]; subst hq; go_simp⟩
theorem yieldsC_eqI {x y : Operand} {u z : Int} (hw : Region.wanted o (yielded ops a.tmps) = true) (ho : o.op = .binOp .eql 3 x y 3) (hx : a.eval x = .int .i64 u) (hy : a.eval y = .int .i64 z) (b : Bool) (hb : (u == z) = b) : YieldsC Tryz.prog ops C o (.bool b) a :=
 .inl ⟨hw,fun w _ => by unfold execOp; generalize a.eval = ρ at hx hy ⊢; simp only [ho,hx,hy]; subst hb; go_simp⟩
variable {w : World} {K : Act → World → Prop}
theorem wp_call4 {f : Nat} {x0 x1 x2 x3 : Operand} {v0 v1 v2 v3 : Value} {ts : Array TypeId} (ho : o.op = .call { callee := .value (.func f),args := #[x0,x1,x2,x3],argTypes := ts }) (h0 : a.eval x0 = v0) (h1 : a.eval x1 = v1) (h2 : a.eval x2 = v2) (h3 : a.eval x3 = v3) (he : ∀ (vs : Array Value) (w : World),Sem.run P (callFunc f vs) w = .ok (.enter f vs) w)
   (h : Calls P f #[v0,v1,v2,v3] w (fun | .returned v,w'' => K (a.put o.dst v) w'' | .panicked ch,w'' => Q (.panic ch) a w'' | .outgrown,_ => LetsOut Q)) : o.wp P a w K Q := by
 have hv : a.eval (.func f) = .func (.func f) #[] #[] := rfl
 unfold Oper.wp Oper.upon
 generalize hρ : a.eval = ρ at h0 h1 h2 h3 hv ⊢
 simp [execOp,ho,resolve,invoke,hv,h0,h1,h2,h3,he,Sem.run_bind,Result.andThen,go_sem]
 exact h
end
section
variable {P : Program} {ops : Array Oper} {md : Region.Mode} {C : World → Prop} {Q : Exit → Act → World → Prop}
theorem anyC_two {i j : Nat} {oi oj : Oper} {fuel : Nat} {listed : Array Bool} {a : Act} {w : World} (di dj : Option Tmp) (hr : Region.ready md ops listed = [i,j]) (hi : ops[i]? = some oi) (hj : ops[j]? = some oj) (wi : Region.wanted oi (yielded ops a.tmps) = true) (wj : Region.wanted oj (yielded ops a.tmps) = true) (hdi : oi.dst = di) (hdj : oj.dst = dj)
   (h1 : ∀ K : Act → World → Prop,(∀ v w',C w' → anyC P md ops C Q fuel (listed.setIfInBounds i true) (a.put di v) w' → K (a.put oi.dst v) w') → Oper.wp P oi a w K Q)
   (h2 : ∀ K : Act → World → Prop,(∀ v w',C w' → anyC P md ops C Q fuel (listed.setIfInBounds j true) (a.put dj v) w' → K (a.put oj.dst v) w') → Oper.wp P oj a w K Q) : anyC P md ops C Q (fuel + 1) listed a w := by
 subst hdi
 subst hdj
 refine ⟨fun q => (by rw [hr] at q; cases q),fun k hk => ?_⟩
 rw [hr] at hk
 rcases List.mem_cons.1 hk with rfl | hk
 · unfold Go.wpOp
   simp only [hi,wi,if_true]
   exact .inl (h1 _ (fun v w' hc hA => ⟨hc,hA⟩))
 · obtain rfl := List.mem_singleton.1 hk
   unfold Go.wpOp
   simp only [hj,wj,if_true]
   exact .inl (h2 _ (fun v w' hc hA => ⟨hc,hA⟩))
theorem yieldsC_assign {o : Oper} {a : Act} {v : Value} (hw : Region.wanted o (yielded ops a.tmps) = true) (x : Operand) (ho : o.op = .assign x) (hx : a.eval x = v) : YieldsC P ops C o v a :=
 .inl ⟨hw,fun w _ => by unfold execOp; simp only [ho,hx]; rfl⟩
theorem AG.sub {m : Nat} {a : Act} {L L' : List (Nat × Value)} (h : AG m a L) (hs : ∀ q ∈ L',q ∈ L) : AG m a L' := ⟨h.1,fun q hq => h.2 q (hs q hq)⟩
variable {o : Oper} {a : Act} {w : World} {K : Act → World → Prop}
theorem wp_build1 {x : Operand} (ho : o.op = .buildSlice 31 1 #[(0,x)]) (z : Int) (hx : a.eval x = .int .i64 z) (h : K (a.put o.dst (.slice (some ⟨w.heap.size,0,none⟩) 1 1)) (w.alloc (.cells #[.int .i64 z] 3))) : Oper.wp Tryz.prog o a w K Q := by
 unfold Oper.wp Oper.upon execOp
 simp only [ho]
 generalize a.eval = ρ at hx ⊢
 go_simp
 exact h
theorem wp_push {base g : Nat} {v : Value} {xs : List Int} (y : Int) (s x : Operand)
   (ho : o.op = .call { callee := .builtin .append,args := #[s,x],argTypes := #[31,31] })
   (hs : a.eval s = v) (hn : Rw base w v xs) (hb : base ≤ w.heap.size) (hl : xs.length ≤ 1000000)
   (hx : a.eval x = .slice (some ⟨g,0,none⟩) 1 1) (hg : w.heap[g]? = some (.cells #[.int .i64 y] 3 (0,0)))
   (h : ∀ v' w',Rw base w' v' (xs ++ [y]) → Turned (fun k => v.ownBlock = some k) w w' → (∀ k,v'.ownBlock = some k → v.ownBlock = some k ∨ k = w.heap.size) → K (a.put o.dst v') w') : o.wp Tryz.prog a w K Q := by
 obtain ⟨i,i1,i2,i3,i4⟩ := int_info
 refine wp_append_lies w s x 31 ho base 3 i _ 1 8 Tryz.underlying31 i1 i2 i3 i4 rfl (by omega) v xs.length _ hs hn ⟨g,0,none⟩ 1 1 [.int .i64 y] hx (by simp)
   (fun j u hu => World.news_of_block hg j u (by simpa using hu)) (by intro u hu; simp at hu; subst hu; rfl) (by omega) (by simp only [maxLen]; omega) (by omega) hb _ rfl ?_
 intro g' cap w1 hown hgrow h4 _
 have ht : Turned (fun k => v.ownBlock = some k) w w1 := ⟨hgrow.os,hgrow.tape,hgrow.output,hgrow.size,fun k hk hne => hgrow.block k hk (fun e => hne e.symm)⟩
 refine h _ w1 ?_ ht (fun k q => ?_)
 · unfold Rw
   rw [List.length_append,List.map_append]
   exact hown
 · have : k = g' := by simpa [Value.ownBlock,eq_comm] using q
   subst this
   exact h4
end
section
variable {P : Program} {ops : Array Oper} {C : World → Prop} {o : Oper} {a : Act}
theorem yieldsC_cell (hw : Region.wanted o (yielded ops a.tmps) = true) (ty : TypeId) (x : Operand) (ho : o.op = .load ty x) (g i : Nat) (hx : a.eval x = .pointer (some ⟨g,i,none⟩)) (v : Value) (d : TypeDesc) (hu : P.underlying ty = some d) (hd : (match d with | .struct _ | .array _ _ => true | _ => false) = false) (hg : ∀ w,C w → w.cell? ⟨g,i,none⟩ = some v) : YieldsC P ops C o v a :=
 .inl ⟨hw,fun w hC => by
   have hl : (loadVar ty ⟨g,i,none⟩).run P w = .ok v w := run_loadVar_cell hu hd (hg w hC)
   unfold execOp
   simp only [ho,hx,Instr.loadAt,Instr.sureAddr,Sem.run_bind,Sem.run_pure,Result.andThen_ok,hl]⟩
end
end Go.Proofs.YtflihdcliknggaaGreatDoor
