/-
  The statements' helper for layout: a configuration that may be, of any one.
-/
import Derived.Test.YtfddhogffpkhcaaGreatDoorTdAa
import Derived.Deep.RegionHeld3
import Derived.Test.YtfddhogffpkhcaaGreatDoorTdAc
import Derived.OwnWalk
import Derived.Deep.AppendSrc
import Derived.Laws.AppendOwnNone
import Derived.ScopeJumps
import Derived.WalkMore
import Derived.Deep.LoopGhost
set_option maxRecDepth 100000
set_option maxHeartbeats 8000000
set_option linter.all false
namespace Go.Proofs.YtfddhogffpkhcaaGreatDoor
open Go.RowKit
def aM (n lo hi:Int):Int:=lo+(IntKind.u64.wrap n).tmod (hi-lo+1)
theorem pE (n:Int):0≤IntKind.u64.wrap n:=by
 simp only[IntKind.wrap]
 first|exact Int.emod_nonneg _ (by decide)|(simp;done)|omega
theorem Iy (n lo hi:Int)(h:lo≤hi):0≤(IntKind.u64.wrap n).tmod (hi-lo+1)∧(IntKind.u64.wrap n).tmod (hi-lo+1)≤hi-lo:=by
 have h0:=pE n
 rw[Int.tmod_eq_emod_of_nonneg h0]
 have m0:=Int.emod_nonneg (IntKind.u64.wrap n) (show hi-lo+1≠0 by omega)
 have m1:=Int.emod_lt_of_pos (IntKind.u64.wrap n) (show 0<hi-lo+1 by omega)
 omega
theorem cg (n lo hi:Int)(h:lo≤hi):lo≤aM n lo hi∧aM n lo hi≤hi:=by
 have:=Iy n lo hi h
 unfold aM;omega
theorem xA (n lo hi:Int)(w:World)(h0:0≤lo)(h1:lo≤hi)(h2:hi≤1099511627776)(hn: -9223372036854775808≤n∧n≤9223372036854775807):
 Calls Tryz.prog 93 #[.int .i64 n,.int .i64 lo,.int .i64 hi] w fun e w'=>e=.returned (.int .i64 (aM n lo hi))∧w'=w:=by
 obtain⟨hn0,hn1⟩:=hn
 obtain⟨m0,m1⟩:=Iy n lo hi h1
 go_enter Tryz.func93,Tryz.ntmps93
 go_wp2_with fail
 go_ret
 exact⟨rfl,rfl⟩
variable (wk cp pg st tr wt ck pr ca bi ba:Int)(w:World)
theorem zd:bP (aM wk 1 64) (aM cp 1 8) (aM pg 1 256) (aM st 1 64) (aM tr 0 16) (aM wt 0 64) (aM ck 1 1099511627776) (aM pr 1 8) (aM ca 0 8) (aM bi 0 16) (aM ba 1 8):=
 ⟨(cg wk 1 64 (by omega)).1,(cg wk 1 64 (by omega)).2,(cg cp 1 8 (by omega)).1,(cg cp 1 8 (by omega)).2,(cg pg 1 256 (by omega)).1,(cg pg 1 256 (by omega)).2,(cg st 1 64 (by omega)).1,(cg st 1 64 (by omega)).2,(cg tr 0 16 (by omega)).1,(cg tr 0 16 (by omega)).2,(cg wt 0 64 (by omega)).1,(cg wt 0 64 (by omega)).2,(cg ck 1 1099511627776 (by omega)).1,(cg ck 1 1099511627776 (by omega)).2,(cg pr 1 8 (by omega)).1,(cg pr 1 8 (by omega)).2,(cg ca 0 8 (by omega)).1,(cg ca 0 8 (by omega)).2,(cg bi 0 16 (by omega)).1,(cg bi 0 16 (by omega)).2,(cg ba 1 8 (by omega)).1,(cg ba 1 8 (by omega)).2⟩
theorem uH (wk0: -9223372036854775808≤wk∧wk≤9223372036854775807)(cp0: -9223372036854775808≤cp∧cp≤9223372036854775807)(pg0: -9223372036854775808≤pg∧pg≤9223372036854775807)(st0: -9223372036854775808≤st∧st≤9223372036854775807)(tr0: -9223372036854775808≤tr∧tr≤9223372036854775807)(wt0: -9223372036854775808≤wt∧wt≤9223372036854775807)(ck0: -9223372036854775808≤ck∧ck≤9223372036854775807)(pr0: -9223372036854775808≤pr∧pr≤9223372036854775807)(ca0: -9223372036854775808≤ca∧ca≤9223372036854775807)(bi0: -9223372036854775808≤bi∧bi≤9223372036854775807)(ba0: -9223372036854775808≤ba∧ba≤9223372036854775807):
 Calls Tryz.prog 56 #[.agg #[.int .i64 wk,.int .i64 cp,.int .i64 pg,.int .i64 st,.int .i64 tr,.int .i64 wt,.int .i64 ck,.int .i64 pr,.int .i64 ca,.int .i64 bi,.int .i64 ba]] w (aF w (.agg #[.int .i64 (aM wk 1 64),.int .i64 (aM cp 1 8),.int .i64 (aM pg 1 256),.int .i64 (aM st 1 64),.int .i64 (aM tr 0 16),.int .i64 (aM wt 0 64),.int .i64 (aM ck 1 1099511627776),.int .i64 (aM pr 1 8),.int .i64 (aM ca 0 8),.int .i64 (aM bi 0 16),.int .i64 (aM ba 1 8)])):=by
 have HN:=hQQ (aP w 23 wk cp pg st tr wt ck pr ca bi ba)
 have Hwk:=hQQ wk0;clear wk0
 have Hcp:=hQQ cp0;clear cp0
 have Hpg:=hQQ pg0;clear pg0
 have Hst:=hQQ st0;clear st0
 have Htr:=hQQ tr0;clear tr0
 have Hwt:=hQQ wt0;clear wt0
 have Hck:=hQQ ck0;clear ck0
 have Hpr:=hQQ pr0;clear pr0
 have Hca:=hQQ ca0;clear ca0
 have Hbi:=hQQ bi0;clear bi0
 have Hba:=hQQ ba0;clear ba0
 have HS:Hq (((w.alloc (.cells #[.int .i64 wk,.int .i64 cp,.int .i64 pg,.int .i64 st,.int .i64 tr,.int .i64 wt,.int .i64 ck,.int .i64 pr,.int .i64 ca,.int .i64 bi,.int .i64 ba] 23)).alloc (.cells #[.int .i64 0,.int .i64 0,.int .i64 0,.int .i64 0,.int .i64 0,.int .i64 0,.int .i64 0,.int .i64 0,.int .i64 0,.int .i64 0,.int .i64 0] 23)).drew.cell? ⟨w.heap.size,0,none⟩=some (.int .i64 wk)∧((w.alloc (.cells #[.int .i64 wk,.int .i64 cp,.int .i64 pg,.int .i64 st,.int .i64 tr,.int .i64 wt,.int .i64 ck,.int .i64 pr,.int .i64 ca,.int .i64 bi,.int .i64 ba] 23)).alloc (.cells #[.int .i64 0,.int .i64 0,.int .i64 0,.int .i64 0,.int .i64 0,.int .i64 0,.int .i64 0,.int .i64 0,.int .i64 0,.int .i64 0,.int .i64 0] 23)).drew.cell? ⟨w.heap.size,1,none⟩=some (.int .i64 cp)∧((w.alloc (.cells #[.int .i64 wk,.int .i64 cp,.int .i64 pg,.int .i64 st,.int .i64 tr,.int .i64 wt,.int .i64 ck,.int .i64 pr,.int .i64 ca,.int .i64 bi,.int .i64 ba] 23)).alloc (.cells #[.int .i64 0,.int .i64 0,.int .i64 0,.int .i64 0,.int .i64 0,.int .i64 0,.int .i64 0,.int .i64 0,.int .i64 0,.int .i64 0,.int .i64 0] 23)).drew.cell? ⟨w.heap.size,2,none⟩=some (.int .i64 pg)∧((w.alloc (.cells #[.int .i64 wk,.int .i64 cp,.int .i64 pg,.int .i64 st,.int .i64 tr,.int .i64 wt,.int .i64 ck,.int .i64 pr,.int .i64 ca,.int .i64 bi,.int .i64 ba] 23)).alloc (.cells #[.int .i64 0,.int .i64 0,.int .i64 0,.int .i64 0,.int .i64 0,.int .i64 0,.int .i64 0,.int .i64 0,.int .i64 0,.int .i64 0,.int .i64 0] 23)).drew.cell? ⟨w.heap.size,3,none⟩=some (.int .i64 st)∧((w.alloc (.cells #[.int .i64 wk,.int .i64 cp,.int .i64 pg,.int .i64 st,.int .i64 tr,.int .i64 wt,.int .i64 ck,.int .i64 pr,.int .i64 ca,.int .i64 bi,.int .i64 ba] 23)).alloc (.cells #[.int .i64 0,.int .i64 0,.int .i64 0,.int .i64 0,.int .i64 0,.int .i64 0,.int .i64 0,.int .i64 0,.int .i64 0,.int .i64 0,.int .i64 0] 23)).drew.cell? ⟨w.heap.size,4,none⟩=some (.int .i64 tr)∧((w.alloc (.cells #[.int .i64 wk,.int .i64 cp,.int .i64 pg,.int .i64 st,.int .i64 tr,.int .i64 wt,.int .i64 ck,.int .i64 pr,.int .i64 ca,.int .i64 bi,.int .i64 ba] 23)).alloc (.cells #[.int .i64 0,.int .i64 0,.int .i64 0,.int .i64 0,.int .i64 0,.int .i64 0,.int .i64 0,.int .i64 0,.int .i64 0,.int .i64 0,.int .i64 0] 23)).drew.cell? ⟨w.heap.size,5,none⟩=some (.int .i64 wt)∧((w.alloc (.cells #[.int .i64 wk,.int .i64 cp,.int .i64 pg,.int .i64 st,.int .i64 tr,.int .i64 wt,.int .i64 ck,.int .i64 pr,.int .i64 ca,.int .i64 bi,.int .i64 ba] 23)).alloc (.cells #[.int .i64 0,.int .i64 0,.int .i64 0,.int .i64 0,.int .i64 0,.int .i64 0,.int .i64 0,.int .i64 0,.int .i64 0,.int .i64 0,.int .i64 0] 23)).drew.cell? ⟨w.heap.size,6,none⟩=some (.int .i64 ck)∧((w.alloc (.cells #[.int .i64 wk,.int .i64 cp,.int .i64 pg,.int .i64 st,.int .i64 tr,.int .i64 wt,.int .i64 ck,.int .i64 pr,.int .i64 ca,.int .i64 bi,.int .i64 ba] 23)).alloc (.cells #[.int .i64 0,.int .i64 0,.int .i64 0,.int .i64 0,.int .i64 0,.int .i64 0,.int .i64 0,.int .i64 0,.int .i64 0,.int .i64 0,.int .i64 0] 23)).drew.cell? ⟨w.heap.size,7,none⟩=some (.int .i64 pr)∧((w.alloc (.cells #[.int .i64 wk,.int .i64 cp,.int .i64 pg,.int .i64 st,.int .i64 tr,.int .i64 wt,.int .i64 ck,.int .i64 pr,.int .i64 ca,.int .i64 bi,.int .i64 ba] 23)).alloc (.cells #[.int .i64 0,.int .i64 0,.int .i64 0,.int .i64 0,.int .i64 0,.int .i64 0,.int .i64 0,.int .i64 0,.int .i64 0,.int .i64 0,.int .i64 0] 23)).drew.cell? ⟨w.heap.size,8,none⟩=some (.int .i64 ca)∧((w.alloc (.cells #[.int .i64 wk,.int .i64 cp,.int .i64 pg,.int .i64 st,.int .i64 tr,.int .i64 wt,.int .i64 ck,.int .i64 pr,.int .i64 ca,.int .i64 bi,.int .i64 ba] 23)).alloc (.cells #[.int .i64 0,.int .i64 0,.int .i64 0,.int .i64 0,.int .i64 0,.int .i64 0,.int .i64 0,.int .i64 0,.int .i64 0,.int .i64 0,.int .i64 0] 23)).drew.cell? ⟨w.heap.size,9,none⟩=some (.int .i64 bi)∧((w.alloc (.cells #[.int .i64 wk,.int .i64 cp,.int .i64 pg,.int .i64 st,.int .i64 tr,.int .i64 wt,.int .i64 ck,.int .i64 pr,.int .i64 ca,.int .i64 bi,.int .i64 ba] 23)).alloc (.cells #[.int .i64 0,.int .i64 0,.int .i64 0,.int .i64 0,.int .i64 0,.int .i64 0,.int .i64 0,.int .i64 0,.int .i64 0,.int .i64 0,.int .i64 0] 23)).drew.cell? ⟨w.heap.size,10,none⟩=some (.int .i64 ba)):=HN.o.cells ((((ae.refl _).alloc _)).drew)
 go_enter Tryz.func56,Tryz.ntmps56
 go_wp2_with fail
 go_region_held3 (fun w'=>w'.cell? ⟨w.heap.size,0,none⟩=some (.int .i64 wk)∧w'.cell? ⟨w.heap.size,1,none⟩=some (.int .i64 cp)∧w'.cell? ⟨w.heap.size,2,none⟩=some (.int .i64 pg)∧w'.cell? ⟨w.heap.size,3,none⟩=some (.int .i64 st)∧w'.cell? ⟨w.heap.size,4,none⟩=some (.int .i64 tr)∧w'.cell? ⟨w.heap.size,5,none⟩=some (.int .i64 wt)∧w'.cell? ⟨w.heap.size,6,none⟩=some (.int .i64 ck)∧w'.cell? ⟨w.heap.size,7,none⟩=some (.int .i64 pr)∧w'.cell? ⟨w.heap.size,8,none⟩=some (.int .i64 ca)∧w'.cell? ⟨w.heap.size,9,none⟩=some (.int .i64 bi)∧w'.cell? ⟨w.heap.size,10,none⟩=some (.int .i64 ba))
  (first|exact HS.o|go_keep)
  (first|(go_at_call 93;refine(xA _ _ _ _ (by omega) (by omega) (by omega) (by first|exact Hwk.o|exact Hcp.o|exact Hpg.o|exact Hst.o|exact Htr.o|exact Hwt.o|exact Hck.o|exact Hpr.o|exact Hca.o|exact Hbi.o|exact Hba.o)).mono ?_;rintro e w' ⟨rfl,rfl⟩))
 all_goals go_wp2_with fail
 all_goals refine bodyPost_ret (v:=.agg #[.int .i64 (aM wk 1 64),.int .i64 (aM cp 1 8),.int .i64 (aM pg 1 256),.int .i64 (aM st 1 64),.int .i64 (aM tr 0 16),.int .i64 (aM wt 0 64),.int .i64 (aM ck 1 1099511627776),.int .i64 (aM pr 1 8),.int .i64 (aM ca 0 8),.int .i64 (aM bi 0 16),.int .i64 (aM ba 1 8)]) (by simp[results,Tryz.results56,go_sem]) rfl ⟨rfl,?_⟩
 all_goals first|exact(((ae.refl _).alloc _).alloc _).drew|exact((ae.refl _).alloc _).alloc _
theorem kl {x:Int}(h:(Lit.int .i64 x).wf=true): -9223372036854775808≤x:=by
 simp only[Lit.wf,Bool.and_eq_true,decide_eq_true_eq] at h
 have e:IntKind.i64.min= -9223372036854775808:=by decide
 omega
theorem ko {x:Int}(h:(Lit.int .i64 x).wf=true):x≤9223372036854775807:=by
 simp only[Lit.wf,Bool.and_eq_true,decide_eq_true_eq] at h
 have e:IntKind.i64.max=9223372036854775807:=by decide
 omega
theorem xB (y0 y1 y2 y3 y4 y5 y6 y7 y8 y9 y10:Int)(f0:(Lit.int .i64 y0).wf=true)(f1:(Lit.int .i64 y1).wf=true)(f2:(Lit.int .i64 y2).wf=true)(f3:(Lit.int .i64 y3).wf=true)(f4:(Lit.int .i64 y4).wf=true)(f5:(Lit.int .i64 y5).wf=true)(f6:(Lit.int .i64 y6).wf=true)(f7:(Lit.int .i64 y7).wf=true)(f8:(Lit.int .i64 y8).wf=true)(f9:(Lit.int .i64 y9).wf=true)(f10:(Lit.int .i64 y10).wf=true):
 ∃wk cp pg st tr wt ck pr ca bi ba,bP wk cp pg st tr wt ck pr ca bi ba∧Hq (∀W,Calls Tryz.prog 56 #[.agg #[.int .i64 y0,.int .i64 y1,.int .i64 y2,.int .i64 y3,.int .i64 y4,.int .i64 y5,.int .i64 y6,.int .i64 y7,.int .i64 y8,.int .i64 y9,.int .i64 y10]] W (aF W (.agg #[.int .i64 wk,.int .i64 cp,.int .i64 pg,.int .i64 st,.int .i64 tr,.int .i64 wt,.int .i64 ck,.int .i64 pr,.int .i64 ca,.int .i64 bi,.int .i64 ba]))):=
 ⟨(aM y0 1 64),(aM y1 1 8),(aM y2 1 256),(aM y3 1 64),(aM y4 0 16),(aM y5 0 64),(aM y6 1 1099511627776),(aM y7 1 8),(aM y8 0 8),(aM y9 0 16),(aM y10 1 8),zd y0 y1 y2 y3 y4 y5 y6 y7 y8 y9 y10,fun W=>uH y0 y1 y2 y3 y4 y5 y6 y7 y8 y9 y10 W ⟨kl f0,ko f0⟩ ⟨kl f1,ko f1⟩ ⟨kl f2,ko f2⟩ ⟨kl f3,ko f3⟩ ⟨kl f4,ko f4⟩ ⟨kl f5,ko f5⟩ ⟨kl f6,ko f6⟩ ⟨kl f7,ko f7⟩ ⟨kl f8,ko f8⟩ ⟨kl f9,ko f9⟩ ⟨kl f10,ko f10⟩⟩
variable (wk cp pg st tr wt ck pr ca bi ba:Int)(w:World)
theorem lW (R:bP wk cp pg st tr wt ck pr ca bi ba):
 Calls Tryz.prog 125 #[.agg #[.int .i64 wk,.int .i64 cp,.int .i64 pg,.int .i64 st,.int .i64 tr,.int .i64 wt,.int .i64 ck,.int .i64 pr,.int .i64 ca,.int .i64 bi,.int .i64 ba]] w (aF w (.int .i64 (aN st))):=by
 have h_st1:=R.st1
 have h_st2:=R.st2
 go_enter Tryz.func125,Tryz.ntmps125
 go_wp2
 go_ret
 exact⟨rfl,(ae.refl _).alloc _⟩
theorem iV (R:bP wk cp pg st tr wt ck pr ca bi ba):
 Calls Tryz.prog 124 #[.agg #[.int .i64 wk,.int .i64 cp,.int .i64 pg,.int .i64 st,.int .i64 tr,.int .i64 wt,.int .i64 ck,.int .i64 pr,.int .i64 ca,.int .i64 bi,.int .i64 ba]] w (aF w (.int .i64 (aD pg))):=by
 have h_pg1:=R.pg1
 have h_pg2:=R.pg2
 go_enter Tryz.func124,Tryz.ntmps124
 go_wp2
 go_ret
 exact⟨rfl,(ae.refl _).alloc _⟩
theorem sV (R:bP wk cp pg st tr wt ck pr ca bi ba):
 Calls Tryz.prog 143 #[.agg #[.int .i64 wk,.int .i64 cp,.int .i64 pg,.int .i64 st,.int .i64 tr,.int .i64 wt,.int .i64 ck,.int .i64 pr,.int .i64 ca,.int .i64 bi,.int .i64 ba]] w (aF w (.int .i64 (aO st pg))):=by
 have HR:=hQQ R
 have b1:=lO R
 have b2:=jz R
 have h1:=R.pg1
 have h2:=R.pg2
 have q0:IntKind.i64.wrap (aN st+aD pg)=aN st+aD pg:=am (by omega) (by omega)
 have q1:IntKind.i64.wrap (5 * pg)=5 * pg:=am (by omega) (by omega)
 have q2:IntKind.i64.wrap (aN st+aD pg+5 * pg)=aN st+aD pg+5 * pg:=am (by omega) (by omega)
 have HC:=hQQ (aP w 27 wk cp pg st tr wt ck pr ca bi ba)
 have HM:Hq (ae w (w.alloc (.cells #[.int .i64 wk,.int .i64 cp,.int .i64 pg,.int .i64 st,.int .i64 tr,.int .i64 wt,.int .i64 ck,.int .i64 pr,.int .i64 ca,.int .i64 bi,.int .i64 ba] 27))):=(ae.refl w).alloc _
 clear R
 go_enter Tryz.func143,Tryz.ntmps143
 go_wp2_with fail
 generalize w.alloc (.cells #[.int .i64 wk,.int .i64 cp,.int .i64 pg,.int .i64 st,.int .i64 tr,.int .i64 wt,.int .i64 ck,.int .i64 pr,.int .i64 ca,.int .i64 bi,.int .i64 ba] 27)=W0 at *
 have hne:∃W,ae W0 W:=⟨W0,ae.refl _⟩
 refine aw (by kernel_rfl) (by kernel_rfl) ?_
 iterate 11
  with_reducible refine wpQuiet_step (fun K hK=>?_)
  go_simp
  first
  |(refine hK _ ?_;clear hK K)
  |(apply Exists.intro
    refine⟨fun W hW=>?_,hK _ ?_⟩
    first
    |(go_at_call 125;exact Calls.more hW (lW _ _ _ _ _ _ _ _ _ _ _ _ HR.o))
    |(go_at_call 124;exact Calls.more hW (iV _ _ _ _ _ _ _ _ _ _ _ _ HR.o))
    |(obtain⟨e0,e1,e2,e3,e4,e5,e6,e7,e8,e9,e10⟩:=HC.o.cells hW;go_simp;try rfl)
    clear hK K)
 refine wpQuiet_nil ?_
 intro W hW
 have HW:=hQQ hW
 clear hW
 go_wp2_with fail
 go_ret
 exact⟨rfl,HM.o.trans HW.o⟩
theorem kW (R:bP wk cp pg st tr wt ck pr ca bi ba):
 Calls Tryz.prog 127 #[.agg #[.int .i64 wk,.int .i64 cp,.int .i64 pg,.int .i64 st,.int .i64 tr,.int .i64 wt,.int .i64 ck,.int .i64 pr,.int .i64 ca,.int .i64 bi,.int .i64 ba]] w (aF w (.int .i64 (cD st pg))):=by
 have b1:=lP R
 have HR:=hQQ R
 have e:=(aP w 27 wk cp pg st tr wt ck pr ca bi ba).cells (ae.refl _)
 clear R
 go_enter Tryz.func127,Tryz.ntmps127
 go_wp2_with fail
 refine(sV _ _ _ _ _ _ _ _ _ _ _ _ HR.o).mono ?_
 rintro e w1 ⟨rfl,h1⟩
 go_wp2_with fail
 go_ret
 exact⟨rfl,((ae.refl _).alloc _).trans h1⟩
theorem ze (R:bP wk cp pg st tr wt ck pr ca bi ba):
 Calls Tryz.prog 126 #[.agg #[.int .i64 wk,.int .i64 cp,.int .i64 pg,.int .i64 st,.int .i64 tr,.int .i64 wt,.int .i64 ck,.int .i64 pr,.int .i64 ca,.int .i64 bi,.int .i64 ba]] w (aF w (.int .i64 (dY cp pg st ca))):=by
 have HR:=hQQ R
 have b1:=kQ R
 have b2:=j6 R
 have h1:=R.cp1
 have h2:=R.cp2
 have h3:=R.ca1
 have h4:=R.ca2
 have q0:IntKind.i64.wrap (5 * cp)=5 * cp:=am (by omega) (by omega)
 have q1:IntKind.i64.wrap (ca+1)=ca+1:=am (by omega) (by omega)
 have q2:IntKind.i64.wrap (5 * cp * (ca+1))=5 * cp * (ca+1):=am (by omega) (by omega)
 have q3:IntKind.i64.wrap (cD st pg+5 * cp * (ca+1))=cD st pg+5 * cp * (ca+1):=am (by omega) (by omega)
 have HC:=hQQ (aP w 27 wk cp pg st tr wt ck pr ca bi ba)
 have HM:Hq (ae w (w.alloc (.cells #[.int .i64 wk,.int .i64 cp,.int .i64 pg,.int .i64 st,.int .i64 tr,.int .i64 wt,.int .i64 ck,.int .i64 pr,.int .i64 ca,.int .i64 bi,.int .i64 ba] 27))):=(ae.refl w).alloc _
 clear R
 go_enter Tryz.func126,Tryz.ntmps126
 go_wp2_with fail
 generalize w.alloc (.cells #[.int .i64 wk,.int .i64 cp,.int .i64 pg,.int .i64 st,.int .i64 tr,.int .i64 wt,.int .i64 ck,.int .i64 pr,.int .i64 ca,.int .i64 bi,.int .i64 ba] 27)=W0 at *
 have hne:∃W,ae W0 W:=⟨W0,ae.refl _⟩
 refine aw (by kernel_rfl) (by kernel_rfl) ?_
 iterate 13
  with_reducible refine wpQuiet_step (fun K hK=>?_)
  go_simp
  first
  |(refine hK _ ?_;clear hK K)
  |(apply Exists.intro
    refine⟨fun W hW=>?_,hK _ ?_⟩
    first
    |(go_at_call 127;exact Calls.more hW (kW _ _ _ _ _ _ _ _ _ _ _ _ HR.o))
    |(obtain⟨e0,e1,e2,e3,e4,e5,e6,e7,e8,e9,e10⟩:=HC.o.cells hW;go_simp;try rfl)
    clear hK K)
 refine wpQuiet_nil ?_
 intro W hW
 have HW:=hQQ hW
 clear hW
 go_wp2_with fail
 go_ret
 exact⟨rfl,HM.o.trans HW.o⟩
theorem zg (R:bP wk cp pg st tr wt ck pr ca bi ba):
 Calls Tryz.prog 94 #[.agg #[.int .i64 wk,.int .i64 cp,.int .i64 pg,.int .i64 st,.int .i64 tr,.int .i64 wt,.int .i64 ck,.int .i64 pr,.int .i64 ca,.int .i64 bi,.int .i64 ba]] w (aF w (.int .i64 (cF cp pg st ca bi))):=by
 have HR:=hQQ R
 have b1:=ug R
 have h1:=R.bi1
 have h2:=R.bi2
 have q0:IntKind.i64.wrap (bi+1)=bi+1:=am (by omega) (by omega)
 have q1:IntKind.i64.wrap (5 * (bi+1))=5 * (bi+1):=am (by omega) (by omega)
 have q2:IntKind.i64.wrap (dY cp pg st ca+5 * (bi+1))=dY cp pg st ca+5 * (bi+1):=am (by omega) (by omega)
 have HC:=hQQ (aP w 27 wk cp pg st tr wt ck pr ca bi ba)
 have HM:Hq (ae w (w.alloc (.cells #[.int .i64 wk,.int .i64 cp,.int .i64 pg,.int .i64 st,.int .i64 tr,.int .i64 wt,.int .i64 ck,.int .i64 pr,.int .i64 ca,.int .i64 bi,.int .i64 ba] 27))):=(ae.refl w).alloc _
 clear R
 go_enter Tryz.func94,Tryz.ntmps94
 go_wp2_with fail
 generalize w.alloc (.cells #[.int .i64 wk,.int .i64 cp,.int .i64 pg,.int .i64 st,.int .i64 tr,.int .i64 wt,.int .i64 ck,.int .i64 pr,.int .i64 ca,.int .i64 bi,.int .i64 ba] 27)=W0 at *
 have hne:∃W,ae W0 W:=⟨W0,ae.refl _⟩
 refine aw (by kernel_rfl) (by kernel_rfl) ?_
 iterate 9
  with_reducible refine wpQuiet_step (fun K hK=>?_)
  go_simp
  first
  |(refine hK _ ?_;clear hK K)
  |(apply Exists.intro
    refine⟨fun W hW=>?_,hK _ ?_⟩
    first
    |(go_at_call 126;exact Calls.more hW (ze _ _ _ _ _ _ _ _ _ _ _ _ HR.o))
    |(obtain⟨e0,e1,e2,e3,e4,e5,e6,e7,e8,e9,e10⟩:=HC.o.cells hW;go_simp;try rfl)
    clear hK K)
 refine wpQuiet_nil ?_
 intro W hW
 have HW:=hQQ hW
 clear hW
 go_wp2_with fail
 go_ret
 exact⟨rfl,HM.o.trans HW.o⟩
theorem kp (R:bP wk cp pg st tr wt ck pr ca bi ba):
 Calls Tryz.prog 57 #[.agg #[.int .i64 wk,.int .i64 cp,.int .i64 pg,.int .i64 st,.int .i64 tr,.int .i64 wt,.int .i64 ck,.int .i64 pr,.int .i64 ca,.int .i64 bi,.int .i64 ba]] w (aF w (.int .i64 (bH cp pg st ca bi))):=by
 have HR:=hQQ R
 have b1:=jV R
 have h1:=R.pg1
 have h2:=R.pg2
 have q0:IntKind.i64.wrap (32 * pg)=32 * pg:=am (by omega) (by omega)
 have q1:IntKind.i64.wrap (cF cp pg st ca bi+32 * pg)=cF cp pg st ca bi+32 * pg:=am (by omega) (by omega)
 have q2:IntKind.i64.wrap (cF cp pg st ca bi+32 * pg+127)=cF cp pg st ca bi+32 * pg+127:=am (by omega) (by omega)
 have q3:IntKind.i64.wrap ((cF cp pg st ca bi+32 * pg+127) / 128 * 128)=(cF cp pg st ca bi+32 * pg+127) / 128 * 128:=am (by omega) (by omega)
 have qd:IntKind.i64.wrap ((cF cp pg st ca bi+32 * pg+127).tdiv 128)=(cF cp pg st ca bi+32 * pg+127) / 128:=by
  rw[Int.tdiv_eq_ediv_of_nonneg (by omega)];exact am (by omega) (by omega)
 have HC:=hQQ (aP w 27 wk cp pg st tr wt ck pr ca bi ba)
 have HM:Hq (ae w (w.alloc (.cells #[.int .i64 wk,.int .i64 cp,.int .i64 pg,.int .i64 st,.int .i64 tr,.int .i64 wt,.int .i64 ck,.int .i64 pr,.int .i64 ca,.int .i64 bi,.int .i64 ba] 27))):=(ae.refl w).alloc _
 clear R
 go_enter Tryz.func57,Tryz.ntmps57
 go_wp2_with fail
 generalize w.alloc (.cells #[.int .i64 wk,.int .i64 cp,.int .i64 pg,.int .i64 st,.int .i64 tr,.int .i64 wt,.int .i64 ck,.int .i64 pr,.int .i64 ca,.int .i64 bi,.int .i64 ba] 27)=W0 at *
 have hne:∃W,ae W0 W:=⟨W0,ae.refl _⟩
 refine aw (by kernel_rfl) (by kernel_rfl) ?_
 iterate 11
  with_reducible refine wpQuiet_step (fun K hK=>?_)
  go_simp
  first
  |(refine hK _ ?_;clear hK K)
  |(apply Exists.intro
    refine⟨fun W hW=>?_,hK _ ?_⟩
    first
    |(go_at_call 94;exact Calls.more hW (zg _ _ _ _ _ _ _ _ _ _ _ _ HR.o))
    |(obtain⟨e0,e1,e2,e3,e4,e5,e6,e7,e8,e9,e10⟩:=HC.o.cells hW;go_simp;try rfl)
    clear hK K)
 refine wpQuiet_nil ?_
 intro W hW
 have HW:=hQQ hW
 clear hW
 go_wp2_with fail
 go_ret
 exact⟨rfl,HM.o.trans HW.o⟩
theorem nL (R:bP wk cp pg st tr wt ck pr ca bi ba):
 Calls Tryz.prog 25 #[.agg #[.int .i64 wk,.int .i64 cp,.int .i64 pg,.int .i64 st,.int .i64 tr,.int .i64 wt,.int .i64 ck,.int .i64 pr,.int .i64 ca,.int .i64 bi,.int .i64 ba]] w (aF w (.int .i64 (cW cp pg st ca bi))):=by
 have HR:=hQQ R
 have b1:=eS R
 have h1:=R.pg1
 have h2:=R.pg2
 have q0:IntKind.i64.wrap (32 * pg)=32 * pg:=am (by omega) (by omega)
 have q1:IntKind.i64.wrap (bH cp pg st ca bi+32 * pg)=bH cp pg st ca bi+32 * pg:=am (by omega) (by omega)
 have HC:=hQQ (aP w 27 wk cp pg st tr wt ck pr ca bi ba)
 have HM:Hq (ae w (w.alloc (.cells #[.int .i64 wk,.int .i64 cp,.int .i64 pg,.int .i64 st,.int .i64 tr,.int .i64 wt,.int .i64 ck,.int .i64 pr,.int .i64 ca,.int .i64 bi,.int .i64 ba] 27))):=(ae.refl w).alloc _
 clear R
 go_enter Tryz.func25,Tryz.ntmps25
 go_wp2_with fail
 generalize w.alloc (.cells #[.int .i64 wk,.int .i64 cp,.int .i64 pg,.int .i64 st,.int .i64 tr,.int .i64 wt,.int .i64 ck,.int .i64 pr,.int .i64 ca,.int .i64 bi,.int .i64 ba] 27)=W0 at *
 have hne:∃W,ae W0 W:=⟨W0,ae.refl _⟩
 refine aw (by kernel_rfl) (by kernel_rfl) ?_
 iterate 8
  with_reducible refine wpQuiet_step (fun K hK=>?_)
  go_simp
  first
  |(refine hK _ ?_;clear hK K)
  |(apply Exists.intro
    refine⟨fun W hW=>?_,hK _ ?_⟩
    first
    |(go_at_call 57;exact Calls.more hW (kp _ _ _ _ _ _ _ _ _ _ _ _ HR.o))
    |(obtain⟨e0,e1,e2,e3,e4,e5,e6,e7,e8,e9,e10⟩:=HC.o.cells hW;go_simp;try rfl)
    clear hK K)
 refine wpQuiet_nil ?_
 intro W hW
 have HW:=hQQ hW
 clear hW
 go_wp2_with fail
 go_ret
 exact⟨rfl,HM.o.trans HW.o⟩
theorem jF (x:Int)(w:World):Calls Tryz.prog 87 #[.bool true,.int .i64 x] w (aF w (.int .i64 x)):=by
 go_enter Tryz.func87,Tryz.ntmps87
 go_wp2
 go_ret
 exact⟨rfl,ae.refl _⟩
theorem fB (x:Int)(w:World):Calls Tryz.prog 87 #[.bool false,.int .i64 x] w (aF w (.int .i64 0)):=by
 go_enter Tryz.func87,Tryz.ntmps87
 go_wp2
 go_ret
 exact⟨rfl,ae.refl _⟩
variable (wk cp pg st tr wt ck pr ca bi ba:Int)(w:World)
theorem Ky (k:Int)(R:bP wk cp pg st tr wt ck pr ca bi ba):
 Calls Tryz.prog 86 #[.agg #[.int .i64 wk,.int .i64 cp,.int .i64 pg,.int .i64 st,.int .i64 tr,.int .i64 wt,.int .i64 ck,.int .i64 pr,.int .i64 ca,.int .i64 bi,.int .i64 ba],.int .i64 k] w (aF w (.int .i64 (cI pg st k))):=by
 have HR:=hQQ R
 have b1:=lO R
 have b2:=jz R
 by_cases c0:0≤k
 ·skip
  by_cases c1:k<aD pg
  ·skip
   rw[show cI pg st k=aN st+k from if_pos (by omega)]
   have d0:decide ((0:Int)≤k)=true:=by simp;omega
   have d1:decide (k<aD pg)=true:=by simp;omega
   have q0:IntKind.i64.wrap (aN st+k)=aN st+k:=am (by omega) (by omega)
   have HC:=hQQ (aP w 27 wk cp pg st tr wt ck pr ca bi ba)
   have HM:Hq (ae w (w.alloc (.cells #[.int .i64 wk,.int .i64 cp,.int .i64 pg,.int .i64 st,.int .i64 tr,.int .i64 wt,.int .i64 ck,.int .i64 pr,.int .i64 ca,.int .i64 bi,.int .i64 ba] 27))):=(ae.refl w).alloc _
   clear R
   go_enter Tryz.func86,Tryz.ntmps86
   go_wp2_with fail
   generalize w.alloc (.cells #[.int .i64 wk,.int .i64 cp,.int .i64 pg,.int .i64 st,.int .i64 tr,.int .i64 wt,.int .i64 ck,.int .i64 pr,.int .i64 ca,.int .i64 bi,.int .i64 ba] 27)=W0 at *
   have hne:∃W,ae W0 W:=⟨W0,ae.refl _⟩
   refine aw (by kernel_rfl) (by kernel_rfl) ?_
   iterate 14
    with_reducible refine wpQuiet_step (fun K hK=>?_)
    go_simp
    first
    |(refine hK _ ?_;clear hK K)
    |(apply Exists.intro
      refine⟨fun W hW=>?_,hK _ ?_⟩
      first
      |(go_at_call 124;exact Calls.more hW (iV _ _ _ _ _ _ _ _ _ _ _ _ HR.o))
      |(go_at_call 125;exact Calls.more hW (lW _ _ _ _ _ _ _ _ _ _ _ _ HR.o))
      |(go_at_call 87;exact Calls.more hW (jF _ _))
      |(obtain⟨e0,e1,e2,e3,e4,e5,e6,e7,e8,e9,e10⟩:=HC.o.cells hW;go_simp;try rfl)
      clear hK K)
   refine wpQuiet_nil ?_
   intro W hW
   have HW:=hQQ hW
   clear hW
   go_wp2_with fail
   go_ret
   exact⟨rfl,HM.o.trans HW.o⟩
  ·rw[show cI pg st k=0 from if_neg (by omega)]
   have d0:decide ((0:Int)≤k)=true:=by simp;omega
   have d1:decide (k<aD pg)=false:=by simp;omega
   have HC:=hQQ (aP w 27 wk cp pg st tr wt ck pr ca bi ba)
   have HM:Hq (ae w (w.alloc (.cells #[.int .i64 wk,.int .i64 cp,.int .i64 pg,.int .i64 st,.int .i64 tr,.int .i64 wt,.int .i64 ck,.int .i64 pr,.int .i64 ca,.int .i64 bi,.int .i64 ba] 27))):=(ae.refl w).alloc _
   clear R
   go_enter Tryz.func86,Tryz.ntmps86
   go_wp2_with fail
   generalize w.alloc (.cells #[.int .i64 wk,.int .i64 cp,.int .i64 pg,.int .i64 st,.int .i64 tr,.int .i64 wt,.int .i64 ck,.int .i64 pr,.int .i64 ca,.int .i64 bi,.int .i64 ba] 27)=W0 at *
   have hne:∃W,ae W0 W:=⟨W0,ae.refl _⟩
   refine aw (by kernel_rfl) (by kernel_rfl) ?_
   iterate 14
    with_reducible refine wpQuiet_step (fun K hK=>?_)
    go_simp
    first
    |(refine hK _ ?_;clear hK K)
    |(apply Exists.intro
      refine⟨fun W hW=>?_,hK _ ?_⟩
      first
      |(go_at_call 124;exact Calls.more hW (iV _ _ _ _ _ _ _ _ _ _ _ _ HR.o))
      |(go_at_call 125;exact Calls.more hW (lW _ _ _ _ _ _ _ _ _ _ _ _ HR.o))
      |(go_at_call 87;exact Calls.more hW (fB _ _))
      |(obtain⟨e0,e1,e2,e3,e4,e5,e6,e7,e8,e9,e10⟩:=HC.o.cells hW;go_simp;try rfl)
      clear hK K)
   refine wpQuiet_nil ?_
   intro W hW
   have HW:=hQQ hW
   clear hW
   go_wp2_with fail
   go_ret
   exact⟨rfl,HM.o.trans HW.o⟩
 ·rw[show cI pg st k=0 from if_neg (by omega)]
  have d0:decide ((0:Int)≤k)=false:=by simp;omega
  have HC:=hQQ (aP w 27 wk cp pg st tr wt ck pr ca bi ba)
  have HM:Hq (ae w (w.alloc (.cells #[.int .i64 wk,.int .i64 cp,.int .i64 pg,.int .i64 st,.int .i64 tr,.int .i64 wt,.int .i64 ck,.int .i64 pr,.int .i64 ca,.int .i64 bi,.int .i64 ba] 27))):=(ae.refl w).alloc _
  clear R
  go_enter Tryz.func86,Tryz.ntmps86
  go_wp2_with fail
  generalize w.alloc (.cells #[.int .i64 wk,.int .i64 cp,.int .i64 pg,.int .i64 st,.int .i64 tr,.int .i64 wt,.int .i64 ck,.int .i64 pr,.int .i64 ca,.int .i64 bi,.int .i64 ba] 27)=W0 at *
  have hne:∃W,ae W0 W:=⟨W0,ae.refl _⟩
  refine aw (by kernel_rfl) (by kernel_rfl) ?_
  iterate 14
   with_reducible refine wpQuiet_step (fun K hK=>?_)
   go_simp
   first
   |(refine hK _ ?_;clear hK K)
   |(apply Exists.intro
     refine⟨fun W hW=>?_,hK _ ?_⟩
     first
     |(go_at_call 124;exact Calls.more hW (iV _ _ _ _ _ _ _ _ _ _ _ _ HR.o))
     |(go_at_call 125;exact Calls.more hW (lW _ _ _ _ _ _ _ _ _ _ _ _ HR.o))
     |(go_at_call 87;exact Calls.more hW (fB _ _))
     |(obtain⟨e0,e1,e2,e3,e4,e5,e6,e7,e8,e9,e10⟩:=HC.o.cells hW;go_simp;try rfl)
     clear hK K)
  refine wpQuiet_nil ?_
  intro W hW
  have HW:=hQQ hW
  clear hW
  go_wp2_with fail
  go_ret
  exact⟨rfl,HM.o.trans HW.o⟩
theorem JZ (p:Int)(R:bP wk cp pg st tr wt ck pr ca bi ba):
 Calls Tryz.prog 47 #[.agg #[.int .i64 wk,.int .i64 cp,.int .i64 pg,.int .i64 st,.int .i64 tr,.int .i64 wt,.int .i64 ck,.int .i64 pr,.int .i64 ca,.int .i64 bi,.int .i64 ba],.int .i64 p] w (aF w (.int .i64 (j7 cp pg st ca bi p))):=by
 have HR:=hQQ R
 have b1:=eS R
 have b2:=R.pg1
 have b3:=R.pg2
 by_cases c0:0≤p
 ·skip
  by_cases c1:p<pg
  ·skip
   rw[show j7 cp pg st ca bi p=bH cp pg st ca bi+32 * p from if_pos (by omega)]
   have d0:decide ((0:Int)≤p)=true:=by simp;omega
   have d1:decide (p<pg)=true:=by simp;omega
   have q0:IntKind.i64.wrap (32 * p)=32 * p:=am (by omega) (by omega)
   have q1:IntKind.i64.wrap (bH cp pg st ca bi+32 * p)=bH cp pg st ca bi+32 * p:=am (by omega) (by omega)
   have HC:=hQQ (aP w 27 wk cp pg st tr wt ck pr ca bi ba)
   have HM:Hq (ae w (w.alloc (.cells #[.int .i64 wk,.int .i64 cp,.int .i64 pg,.int .i64 st,.int .i64 tr,.int .i64 wt,.int .i64 ck,.int .i64 pr,.int .i64 ca,.int .i64 bi,.int .i64 ba] 27))):=(ae.refl w).alloc _
   clear R
   go_enter Tryz.func47,Tryz.ntmps47
   go_wp2_with fail
   generalize w.alloc (.cells #[.int .i64 wk,.int .i64 cp,.int .i64 pg,.int .i64 st,.int .i64 tr,.int .i64 wt,.int .i64 ck,.int .i64 pr,.int .i64 ca,.int .i64 bi,.int .i64 ba] 27)=W0 at *
   have hne:∃W,ae W0 W:=⟨W0,ae.refl _⟩
   refine aw (by kernel_rfl) (by kernel_rfl) ?_
   iterate 16
    with_reducible refine wpQuiet_step (fun K hK=>?_)
    go_simp
    first
    |(refine hK _ ?_;clear hK K)
    |(apply Exists.intro
      refine⟨fun W hW=>?_,hK _ ?_⟩
      first
      |(go_at_call 57;exact Calls.more hW (kp _ _ _ _ _ _ _ _ _ _ _ _ HR.o))
      |(go_at_call 87;exact Calls.more hW (jF _ _))
      |(obtain⟨e0,e1,e2,e3,e4,e5,e6,e7,e8,e9,e10⟩:=HC.o.cells hW;go_simp;try rfl)
      clear hK K)
   refine wpQuiet_nil ?_
   intro W hW
   have HW:=hQQ hW
   clear hW
   go_wp2_with fail
   go_ret
   exact⟨rfl,HM.o.trans HW.o⟩
  ·rw[show j7 cp pg st ca bi p=0 from if_neg (by omega)]
   have d0:decide ((0:Int)≤p)=true:=by simp;omega
   have d1:decide (p<pg)=false:=by simp;omega
   have HC:=hQQ (aP w 27 wk cp pg st tr wt ck pr ca bi ba)
   have HM:Hq (ae w (w.alloc (.cells #[.int .i64 wk,.int .i64 cp,.int .i64 pg,.int .i64 st,.int .i64 tr,.int .i64 wt,.int .i64 ck,.int .i64 pr,.int .i64 ca,.int .i64 bi,.int .i64 ba] 27))):=(ae.refl w).alloc _
   clear R
   go_enter Tryz.func47,Tryz.ntmps47
   go_wp2_with fail
   generalize w.alloc (.cells #[.int .i64 wk,.int .i64 cp,.int .i64 pg,.int .i64 st,.int .i64 tr,.int .i64 wt,.int .i64 ck,.int .i64 pr,.int .i64 ca,.int .i64 bi,.int .i64 ba] 27)=W0 at *
   have hne:∃W,ae W0 W:=⟨W0,ae.refl _⟩
   refine aw (by kernel_rfl) (by kernel_rfl) ?_
   iterate 16
    with_reducible refine wpQuiet_step (fun K hK=>?_)
    go_simp
    first
    |(refine hK _ ?_;clear hK K)
    |(apply Exists.intro
      refine⟨fun W hW=>?_,hK _ ?_⟩
      first
      |(go_at_call 57;exact Calls.more hW (kp _ _ _ _ _ _ _ _ _ _ _ _ HR.o))
      |(go_at_call 87;exact Calls.more hW (fB _ _))
      |(obtain⟨e0,e1,e2,e3,e4,e5,e6,e7,e8,e9,e10⟩:=HC.o.cells hW;go_simp;try rfl)
      clear hK K)
   refine wpQuiet_nil ?_
   intro W hW
   have HW:=hQQ hW
   clear hW
   go_wp2_with fail
   go_ret
   exact⟨rfl,HM.o.trans HW.o⟩
 ·rw[show j7 cp pg st ca bi p=0 from if_neg (by omega)]
  have d0:decide ((0:Int)≤p)=false:=by simp;omega
  have HC:=hQQ (aP w 27 wk cp pg st tr wt ck pr ca bi ba)
  have HM:Hq (ae w (w.alloc (.cells #[.int .i64 wk,.int .i64 cp,.int .i64 pg,.int .i64 st,.int .i64 tr,.int .i64 wt,.int .i64 ck,.int .i64 pr,.int .i64 ca,.int .i64 bi,.int .i64 ba] 27))):=(ae.refl w).alloc _
  clear R
  go_enter Tryz.func47,Tryz.ntmps47
  go_wp2_with fail
  generalize w.alloc (.cells #[.int .i64 wk,.int .i64 cp,.int .i64 pg,.int .i64 st,.int .i64 tr,.int .i64 wt,.int .i64 ck,.int .i64 pr,.int .i64 ca,.int .i64 bi,.int .i64 ba] 27)=W0 at *
  have hne:∃W,ae W0 W:=⟨W0,ae.refl _⟩
  refine aw (by kernel_rfl) (by kernel_rfl) ?_
  iterate 16
   with_reducible refine wpQuiet_step (fun K hK=>?_)
   go_simp
   first
   |(refine hK _ ?_;clear hK K)
   |(apply Exists.intro
     refine⟨fun W hW=>?_,hK _ ?_⟩
     first
     |(go_at_call 57;exact Calls.more hW (kp _ _ _ _ _ _ _ _ _ _ _ _ HR.o))
     |(go_at_call 87;exact Calls.more hW (fB _ _))
     |(obtain⟨e0,e1,e2,e3,e4,e5,e6,e7,e8,e9,e10⟩:=HC.o.cells hW;go_simp;try rfl)
     clear hK K)
  refine wpQuiet_nil ?_
  intro W hW
  have HW:=hQQ hW
  clear hW
  go_wp2_with fail
  go_ret
  exact⟨rfl,HM.o.trans HW.o⟩
theorem uI (n p:Int)(R:bP wk cp pg st tr wt ck pr ca bi ba)(hn:0≤n∧n≤4):
 Calls Tryz.prog 88 #[.agg #[.int .i64 wk,.int .i64 cp,.int .i64 pg,.int .i64 st,.int .i64 tr,.int .i64 wt,.int .i64 ck,.int .i64 pr,.int .i64 ca,.int .i64 bi,.int .i64 ba],.int .i64 n,.int .i64 p] w (aF w (.int .i64 (cN pg st n p))):=by
 have HR:=hQQ R
 have b1:=lO R
 have b2:=jz R
 have b3:=R.pg1
 have b4:=R.pg2
 have b5:=Gl hn.1 hn.2 (show(0:Int)≤pg by omega) b4
 by_cases c0:0≤p
 ·skip
  by_cases c1:p<pg
  ·skip
   rw[show cN pg st n p=aN st+aD pg+n * pg+p from if_pos (by omega)]
   have d0:decide ((0:Int)≤p)=true:=by simp;omega
   have d1:decide (p<pg)=true:=by simp;omega
   have q0:IntKind.i64.wrap (aN st+aD pg)=aN st+aD pg:=am (by omega) (by omega)
   have q1:IntKind.i64.wrap (n * pg)=n * pg:=am (by omega) (by omega)
   have q2:IntKind.i64.wrap (aN st+aD pg+n * pg)=aN st+aD pg+n * pg:=am (by omega) (by omega)
   have q3:IntKind.i64.wrap (aN st+aD pg+n * pg+p)=aN st+aD pg+n * pg+p:=am (by omega) (by omega)
   have HC:=hQQ (aP w 27 wk cp pg st tr wt ck pr ca bi ba)
   have HM:Hq (ae w (w.alloc (.cells #[.int .i64 wk,.int .i64 cp,.int .i64 pg,.int .i64 st,.int .i64 tr,.int .i64 wt,.int .i64 ck,.int .i64 pr,.int .i64 ca,.int .i64 bi,.int .i64 ba] 27))):=(ae.refl w).alloc _
   clear R
   go_enter Tryz.func88,Tryz.ntmps88
   go_wp2_with fail
   generalize w.alloc (.cells #[.int .i64 wk,.int .i64 cp,.int .i64 pg,.int .i64 st,.int .i64 tr,.int .i64 wt,.int .i64 ck,.int .i64 pr,.int .i64 ca,.int .i64 bi,.int .i64 ba] 27)=W0 at *
   have hne:∃W,ae W0 W:=⟨W0,ae.refl _⟩
   refine aw (by kernel_rfl) (by kernel_rfl) ?_
   iterate 24
    with_reducible refine wpQuiet_step (fun K hK=>?_)
    go_simp
    first
    |(refine hK _ ?_;clear hK K)
    |(apply Exists.intro
      refine⟨fun W hW=>?_,hK _ ?_⟩
      first
      |(go_at_call 125;exact Calls.more hW (lW _ _ _ _ _ _ _ _ _ _ _ _ HR.o))
      |(go_at_call 124;exact Calls.more hW (iV _ _ _ _ _ _ _ _ _ _ _ _ HR.o))
      |(go_at_call 87;exact Calls.more hW (jF _ _))
      |(obtain⟨e0,e1,e2,e3,e4,e5,e6,e7,e8,e9,e10⟩:=HC.o.cells hW;go_simp;try rfl)
      clear hK K)
   refine wpQuiet_nil ?_
   intro W hW
   have HW:=hQQ hW
   clear hW
   go_wp2_with fail
   go_ret
   exact⟨rfl,HM.o.trans HW.o⟩
  ·rw[show cN pg st n p=0 from if_neg (by omega)]
   have d0:decide ((0:Int)≤p)=true:=by simp;omega
   have d1:decide (p<pg)=false:=by simp;omega
   have HC:=hQQ (aP w 27 wk cp pg st tr wt ck pr ca bi ba)
   have HM:Hq (ae w (w.alloc (.cells #[.int .i64 wk,.int .i64 cp,.int .i64 pg,.int .i64 st,.int .i64 tr,.int .i64 wt,.int .i64 ck,.int .i64 pr,.int .i64 ca,.int .i64 bi,.int .i64 ba] 27))):=(ae.refl w).alloc _
   clear R
   go_enter Tryz.func88,Tryz.ntmps88
   go_wp2_with fail
   generalize w.alloc (.cells #[.int .i64 wk,.int .i64 cp,.int .i64 pg,.int .i64 st,.int .i64 tr,.int .i64 wt,.int .i64 ck,.int .i64 pr,.int .i64 ca,.int .i64 bi,.int .i64 ba] 27)=W0 at *
   have hne:∃W,ae W0 W:=⟨W0,ae.refl _⟩
   refine aw (by kernel_rfl) (by kernel_rfl) ?_
   iterate 24
    with_reducible refine wpQuiet_step (fun K hK=>?_)
    go_simp
    first
    |(refine hK _ ?_;clear hK K)
    |(apply Exists.intro
      refine⟨fun W hW=>?_,hK _ ?_⟩
      first
      |(go_at_call 125;exact Calls.more hW (lW _ _ _ _ _ _ _ _ _ _ _ _ HR.o))
      |(go_at_call 124;exact Calls.more hW (iV _ _ _ _ _ _ _ _ _ _ _ _ HR.o))
      |(go_at_call 87;exact Calls.more hW (fB _ _))
      |(obtain⟨e0,e1,e2,e3,e4,e5,e6,e7,e8,e9,e10⟩:=HC.o.cells hW;go_simp;try rfl)
      clear hK K)
   refine wpQuiet_nil ?_
   intro W hW
   have HW:=hQQ hW
   clear hW
   go_wp2_with fail
   go_ret
   exact⟨rfl,HM.o.trans HW.o⟩
 ·rw[show cN pg st n p=0 from if_neg (by omega)]
  have d0:decide ((0:Int)≤p)=false:=by simp;omega
  have HC:=hQQ (aP w 27 wk cp pg st tr wt ck pr ca bi ba)
  have HM:Hq (ae w (w.alloc (.cells #[.int .i64 wk,.int .i64 cp,.int .i64 pg,.int .i64 st,.int .i64 tr,.int .i64 wt,.int .i64 ck,.int .i64 pr,.int .i64 ca,.int .i64 bi,.int .i64 ba] 27))):=(ae.refl w).alloc _
  clear R
  go_enter Tryz.func88,Tryz.ntmps88
  go_wp2_with fail
  generalize w.alloc (.cells #[.int .i64 wk,.int .i64 cp,.int .i64 pg,.int .i64 st,.int .i64 tr,.int .i64 wt,.int .i64 ck,.int .i64 pr,.int .i64 ca,.int .i64 bi,.int .i64 ba] 27)=W0 at *
  have hne:∃W,ae W0 W:=⟨W0,ae.refl _⟩
  refine aw (by kernel_rfl) (by kernel_rfl) ?_
  iterate 24
   with_reducible refine wpQuiet_step (fun K hK=>?_)
   go_simp
   first
   |(refine hK _ ?_;clear hK K)
   |(apply Exists.intro
     refine⟨fun W hW=>?_,hK _ ?_⟩
     first
     |(go_at_call 125;exact Calls.more hW (lW _ _ _ _ _ _ _ _ _ _ _ _ HR.o))
     |(go_at_call 124;exact Calls.more hW (iV _ _ _ _ _ _ _ _ _ _ _ _ HR.o))
     |(go_at_call 87;exact Calls.more hW (fB _ _))
     |(obtain⟨e0,e1,e2,e3,e4,e5,e6,e7,e8,e9,e10⟩:=HC.o.cells hW;go_simp;try rfl)
     clear hK K)
  refine wpQuiet_nil ?_
  intro W hW
  have HW:=hQQ hW
  clear hW
  go_wp2_with fail
  go_ret
  exact⟨rfl,HM.o.trans HW.o⟩
theorem Kz (c:Int)(R:bP wk cp pg st tr wt ck pr ca bi ba):
 Calls Tryz.prog 102 #[.agg #[.int .i64 wk,.int .i64 cp,.int .i64 pg,.int .i64 st,.int .i64 tr,.int .i64 wt,.int .i64 ck,.int .i64 pr,.int .i64 ca,.int .i64 bi,.int .i64 ba],.int .i64 c] w (aF w (.int .i64 (qH cp pg st ca bi c))):=by
 have HR:=hQQ R
 have b1:=ug R
 have b3:=R.bi1
 have b4:=R.bi2
 by_cases c0:0≤c
 ·skip
  by_cases c1:c≤4
  ·skip
   rw[show qH cp pg st ca bi c=dY cp pg st ca+c * (bi+1) from if_pos (by omega)]
   have d0:decide ((0:Int)≤c)=true:=by simp;omega
   have d1:decide (c≤4)=true:=by simp;omega
   have b5:=Gl c0 c1 (show(0:Int)≤bi+1 by omega) (show bi+1≤17 by omega)
   have q0:IntKind.i64.wrap (bi+1)=bi+1:=am (by omega) (by omega)
   have q1:IntKind.i64.wrap (c * (bi+1))=c * (bi+1):=am (by omega) (by omega)
   have q2:IntKind.i64.wrap (dY cp pg st ca+c * (bi+1))=dY cp pg st ca+c * (bi+1):=am (by omega) (by omega)
   have HC:=hQQ (aP w 27 wk cp pg st tr wt ck pr ca bi ba)
   have HM:Hq (ae w (w.alloc (.cells #[.int .i64 wk,.int .i64 cp,.int .i64 pg,.int .i64 st,.int .i64 tr,.int .i64 wt,.int .i64 ck,.int .i64 pr,.int .i64 ca,.int .i64 bi,.int .i64 ba] 27))):=(ae.refl w).alloc _
   clear R
   go_enter Tryz.func102,Tryz.ntmps102
   go_wp2_with fail
   generalize w.alloc (.cells #[.int .i64 wk,.int .i64 cp,.int .i64 pg,.int .i64 st,.int .i64 tr,.int .i64 wt,.int .i64 ck,.int .i64 pr,.int .i64 ca,.int .i64 bi,.int .i64 ba] 27)=W0 at *
   have hne:∃W,ae W0 W:=⟨W0,ae.refl _⟩
   refine aw (by kernel_rfl) (by kernel_rfl) ?_
   iterate 17
    with_reducible refine wpQuiet_step (fun K hK=>?_)
    go_simp
    first
    |(refine hK _ ?_;clear hK K)
    |(apply Exists.intro
      refine⟨fun W hW=>?_,hK _ ?_⟩
      first
      |(go_at_call 126;exact Calls.more hW (ze _ _ _ _ _ _ _ _ _ _ _ _ HR.o))
      |(go_at_call 87;exact Calls.more hW (jF _ _))
      |(obtain⟨e0,e1,e2,e3,e4,e5,e6,e7,e8,e9,e10⟩:=HC.o.cells hW;go_simp;try rfl)
      clear hK K)
   refine wpQuiet_nil ?_
   intro W hW
   have HW:=hQQ hW
   clear hW
   go_wp2_with fail
   go_ret
   exact⟨rfl,HM.o.trans HW.o⟩
  ·rw[show qH cp pg st ca bi c=0 from if_neg (by omega)]
   have d0:decide ((0:Int)≤c)=true:=by simp;omega
   have d1:decide (c≤4)=false:=by simp;omega
   have HC:=hQQ (aP w 27 wk cp pg st tr wt ck pr ca bi ba)
   have HM:Hq (ae w (w.alloc (.cells #[.int .i64 wk,.int .i64 cp,.int .i64 pg,.int .i64 st,.int .i64 tr,.int .i64 wt,.int .i64 ck,.int .i64 pr,.int .i64 ca,.int .i64 bi,.int .i64 ba] 27))):=(ae.refl w).alloc _
   clear R
   go_enter Tryz.func102,Tryz.ntmps102
   go_wp2_with fail
   generalize w.alloc (.cells #[.int .i64 wk,.int .i64 cp,.int .i64 pg,.int .i64 st,.int .i64 tr,.int .i64 wt,.int .i64 ck,.int .i64 pr,.int .i64 ca,.int .i64 bi,.int .i64 ba] 27)=W0 at *
   have hne:∃W,ae W0 W:=⟨W0,ae.refl _⟩
   refine aw (by kernel_rfl) (by kernel_rfl) ?_
   iterate 17
    with_reducible refine wpQuiet_step (fun K hK=>?_)
    go_simp
    first
    |(refine hK _ ?_;clear hK K)
    |(apply Exists.intro
      refine⟨fun W hW=>?_,hK _ ?_⟩
      first
      |(go_at_call 126;exact Calls.more hW (ze _ _ _ _ _ _ _ _ _ _ _ _ HR.o))
      |(go_at_call 87;exact Calls.more hW (fB _ _))
      |(obtain⟨e0,e1,e2,e3,e4,e5,e6,e7,e8,e9,e10⟩:=HC.o.cells hW;go_simp;try rfl)
      clear hK K)
   refine wpQuiet_nil ?_
   intro W hW
   have HW:=hQQ hW
   clear hW
   go_wp2_with fail
   go_ret
   exact⟨rfl,HM.o.trans HW.o⟩
 ·rw[show qH cp pg st ca bi c=0 from if_neg (by omega)]
  have d0:decide ((0:Int)≤c)=false:=by simp;omega
  have HC:=hQQ (aP w 27 wk cp pg st tr wt ck pr ca bi ba)
  have HM:Hq (ae w (w.alloc (.cells #[.int .i64 wk,.int .i64 cp,.int .i64 pg,.int .i64 st,.int .i64 tr,.int .i64 wt,.int .i64 ck,.int .i64 pr,.int .i64 ca,.int .i64 bi,.int .i64 ba] 27))):=(ae.refl w).alloc _
  clear R
  go_enter Tryz.func102,Tryz.ntmps102
  go_wp2_with fail
  generalize w.alloc (.cells #[.int .i64 wk,.int .i64 cp,.int .i64 pg,.int .i64 st,.int .i64 tr,.int .i64 wt,.int .i64 ck,.int .i64 pr,.int .i64 ca,.int .i64 bi,.int .i64 ba] 27)=W0 at *
  have hne:∃W,ae W0 W:=⟨W0,ae.refl _⟩
  refine aw (by kernel_rfl) (by kernel_rfl) ?_
  iterate 17
   with_reducible refine wpQuiet_step (fun K hK=>?_)
   go_simp
   first
   |(refine hK _ ?_;clear hK K)
   |(apply Exists.intro
     refine⟨fun W hW=>?_,hK _ ?_⟩
     first
     |(go_at_call 126;exact Calls.more hW (ze _ _ _ _ _ _ _ _ _ _ _ _ HR.o))
     |(go_at_call 87;exact Calls.more hW (fB _ _))
     |(obtain⟨e0,e1,e2,e3,e4,e5,e6,e7,e8,e9,e10⟩:=HC.o.cells hW;go_simp;try rfl)
     clear hK K)
  refine wpQuiet_nil ?_
  intro W hW
  have HW:=hQQ hW
  clear hW
  go_wp2_with fail
  go_ret
  exact⟨rfl,HM.o.trans HW.o⟩
theorem IZ (u c:Int)(R:bP wk cp pg st tr wt ck pr ca bi ba):
 Calls Tryz.prog 101 #[.agg #[.int .i64 wk,.int .i64 cp,.int .i64 pg,.int .i64 st,.int .i64 tr,.int .i64 wt,.int .i64 ck,.int .i64 pr,.int .i64 ca,.int .i64 bi,.int .i64 ba],.int .i64 u,.int .i64 c] w (aF w (.int .i64 (fA cp pg st ca u c))):=by
 have HR:=hQQ R
 have b1:=kQ R
 have b3:=R.ca1
 have b4:=R.ca2
 have b6:=R.cp2
 by_cases c0:0≤u
 ·skip
  by_cases c1:u<cp
  ·skip
   by_cases c2:0≤c
   ·skip
    by_cases c3:c≤4
    ·skip
     rw[show fA cp pg st ca u c=cD st pg+(5 * u+c) * (ca+1) from if_pos (by omega)]
     have d0:decide ((0:Int)≤u)=true:=by simp;omega
     have d1:decide (u<cp)=true:=by simp;omega
     have d2:decide ((0:Int)≤c)=true:=by simp;omega
     have d3:decide (c≤4)=true:=by simp;omega
     have b5:=Gl (show(0:Int)≤5 * u+c by omega) (show 5 * u+c≤39 by omega) (show(0:Int)≤ca+1 by omega) (show ca+1≤9 by omega)
     have q0:IntKind.i64.wrap (5 * u)=5 * u:=am (by omega) (by omega)
     have q1:IntKind.i64.wrap (5 * u+c)=5 * u+c:=am (by omega) (by omega)
     have q2:IntKind.i64.wrap (ca+1)=ca+1:=am (by omega) (by omega)
     have q3:IntKind.i64.wrap ((5 * u+c) * (ca+1))=(5 * u+c) * (ca+1):=am (by omega) (by omega)
     have q4:IntKind.i64.wrap (cD st pg+(5 * u+c) * (ca+1))=cD st pg+(5 * u+c) * (ca+1):=am (by omega) (by omega)
     have HC:=hQQ (aP w 27 wk cp pg st tr wt ck pr ca bi ba)
     have HM:Hq (ae w (w.alloc (.cells #[.int .i64 wk,.int .i64 cp,.int .i64 pg,.int .i64 st,.int .i64 tr,.int .i64 wt,.int .i64 ck,.int .i64 pr,.int .i64 ca,.int .i64 bi,.int .i64 ba] 27))):=(ae.refl w).alloc _
     clear R
     go_enter Tryz.func101,Tryz.ntmps101
     go_wp2_with fail
     generalize w.alloc (.cells #[.int .i64 wk,.int .i64 cp,.int .i64 pg,.int .i64 st,.int .i64 tr,.int .i64 wt,.int .i64 ck,.int .i64 pr,.int .i64 ca,.int .i64 bi,.int .i64 ba] 27)=W0 at *
     have hne:∃W,ae W0 W:=⟨W0,ae.refl _⟩
     refine aw (by kernel_rfl) (by kernel_rfl) ?_
     iterate 31
      with_reducible refine wpQuiet_step (fun K hK=>?_)
      go_simp
      first
      |(refine hK _ ?_;clear hK K)
      |(apply Exists.intro
        refine⟨fun W hW=>?_,hK _ ?_⟩
        first
        |(go_at_call 127;exact Calls.more hW (kW _ _ _ _ _ _ _ _ _ _ _ _ HR.o))
        |(go_at_call 87;exact Calls.more hW (jF _ _))
        |(obtain⟨e0,e1,e2,e3,e4,e5,e6,e7,e8,e9,e10⟩:=HC.o.cells hW;go_simp;try rfl)
        clear hK K)
     refine wpQuiet_nil ?_
     intro W hW
     have HW:=hQQ hW
     clear hW
     go_wp2_with fail
     go_ret
     exact⟨rfl,HM.o.trans HW.o⟩
    ·rw[show fA cp pg st ca u c=0 from if_neg (by omega)]
     have d0:decide ((0:Int)≤u)=true:=by simp;omega
     have d1:decide (u<cp)=true:=by simp;omega
     have d2:decide ((0:Int)≤c)=true:=by simp;omega
     have d3:decide (c≤4)=false:=by simp;omega
     have HC:=hQQ (aP w 27 wk cp pg st tr wt ck pr ca bi ba)
     have HM:Hq (ae w (w.alloc (.cells #[.int .i64 wk,.int .i64 cp,.int .i64 pg,.int .i64 st,.int .i64 tr,.int .i64 wt,.int .i64 ck,.int .i64 pr,.int .i64 ca,.int .i64 bi,.int .i64 ba] 27))):=(ae.refl w).alloc _
     clear R
     go_enter Tryz.func101,Tryz.ntmps101
     go_wp2_with fail
     generalize w.alloc (.cells #[.int .i64 wk,.int .i64 cp,.int .i64 pg,.int .i64 st,.int .i64 tr,.int .i64 wt,.int .i64 ck,.int .i64 pr,.int .i64 ca,.int .i64 bi,.int .i64 ba] 27)=W0 at *
     have hne:∃W,ae W0 W:=⟨W0,ae.refl _⟩
     refine aw (by kernel_rfl) (by kernel_rfl) ?_
     iterate 31
      with_reducible refine wpQuiet_step (fun K hK=>?_)
      go_simp
      first
      |(refine hK _ ?_;clear hK K)
      |(apply Exists.intro
        refine⟨fun W hW=>?_,hK _ ?_⟩
        first
        |(go_at_call 127;exact Calls.more hW (kW _ _ _ _ _ _ _ _ _ _ _ _ HR.o))
        |(go_at_call 87;exact Calls.more hW (fB _ _))
        |(obtain⟨e0,e1,e2,e3,e4,e5,e6,e7,e8,e9,e10⟩:=HC.o.cells hW;go_simp;try rfl)
        clear hK K)
     refine wpQuiet_nil ?_
     intro W hW
     have HW:=hQQ hW
     clear hW
     go_wp2_with fail
     go_ret
     exact⟨rfl,HM.o.trans HW.o⟩
   ·rw[show fA cp pg st ca u c=0 from if_neg (by omega)]
    have d0:decide ((0:Int)≤u)=true:=by simp;omega
    have d1:decide (u<cp)=true:=by simp;omega
    have d2:decide ((0:Int)≤c)=false:=by simp;omega
    have HC:=hQQ (aP w 27 wk cp pg st tr wt ck pr ca bi ba)
    have HM:Hq (ae w (w.alloc (.cells #[.int .i64 wk,.int .i64 cp,.int .i64 pg,.int .i64 st,.int .i64 tr,.int .i64 wt,.int .i64 ck,.int .i64 pr,.int .i64 ca,.int .i64 bi,.int .i64 ba] 27))):=(ae.refl w).alloc _
    clear R
    go_enter Tryz.func101,Tryz.ntmps101
    go_wp2_with fail
    generalize w.alloc (.cells #[.int .i64 wk,.int .i64 cp,.int .i64 pg,.int .i64 st,.int .i64 tr,.int .i64 wt,.int .i64 ck,.int .i64 pr,.int .i64 ca,.int .i64 bi,.int .i64 ba] 27)=W0 at *
    have hne:∃W,ae W0 W:=⟨W0,ae.refl _⟩
    refine aw (by kernel_rfl) (by kernel_rfl) ?_
    iterate 31
     with_reducible refine wpQuiet_step (fun K hK=>?_)
     go_simp
     first
     |(refine hK _ ?_;clear hK K)
     |(apply Exists.intro
       refine⟨fun W hW=>?_,hK _ ?_⟩
       first
       |(go_at_call 127;exact Calls.more hW (kW _ _ _ _ _ _ _ _ _ _ _ _ HR.o))
       |(go_at_call 87;exact Calls.more hW (fB _ _))
       |(obtain⟨e0,e1,e2,e3,e4,e5,e6,e7,e8,e9,e10⟩:=HC.o.cells hW;go_simp;try rfl)
       clear hK K)
    refine wpQuiet_nil ?_
    intro W hW
    have HW:=hQQ hW
    clear hW
    go_wp2_with fail
    go_ret
    exact⟨rfl,HM.o.trans HW.o⟩
  ·rw[show fA cp pg st ca u c=0 from if_neg (by omega)]
   have d0:decide ((0:Int)≤u)=true:=by simp;omega
   have d1:decide (u<cp)=false:=by simp;omega
   have HC:=hQQ (aP w 27 wk cp pg st tr wt ck pr ca bi ba)
   have HM:Hq (ae w (w.alloc (.cells #[.int .i64 wk,.int .i64 cp,.int .i64 pg,.int .i64 st,.int .i64 tr,.int .i64 wt,.int .i64 ck,.int .i64 pr,.int .i64 ca,.int .i64 bi,.int .i64 ba] 27))):=(ae.refl w).alloc _
   clear R
   go_enter Tryz.func101,Tryz.ntmps101
   go_wp2_with fail
   generalize w.alloc (.cells #[.int .i64 wk,.int .i64 cp,.int .i64 pg,.int .i64 st,.int .i64 tr,.int .i64 wt,.int .i64 ck,.int .i64 pr,.int .i64 ca,.int .i64 bi,.int .i64 ba] 27)=W0 at *
   have hne:∃W,ae W0 W:=⟨W0,ae.refl _⟩
   refine aw (by kernel_rfl) (by kernel_rfl) ?_
   iterate 31
    with_reducible refine wpQuiet_step (fun K hK=>?_)
    go_simp
    first
    |(refine hK _ ?_;clear hK K)
    |(apply Exists.intro
      refine⟨fun W hW=>?_,hK _ ?_⟩
      first
      |(go_at_call 127;exact Calls.more hW (kW _ _ _ _ _ _ _ _ _ _ _ _ HR.o))
      |(go_at_call 87;exact Calls.more hW (fB _ _))
      |(obtain⟨e0,e1,e2,e3,e4,e5,e6,e7,e8,e9,e10⟩:=HC.o.cells hW;go_simp;try rfl)
      clear hK K)
   refine wpQuiet_nil ?_
   intro W hW
   have HW:=hQQ hW
   clear hW
   go_wp2_with fail
   go_ret
   exact⟨rfl,HM.o.trans HW.o⟩
 ·rw[show fA cp pg st ca u c=0 from if_neg (by omega)]
  have d0:decide ((0:Int)≤u)=false:=by simp;omega
  have HC:=hQQ (aP w 27 wk cp pg st tr wt ck pr ca bi ba)
  have HM:Hq (ae w (w.alloc (.cells #[.int .i64 wk,.int .i64 cp,.int .i64 pg,.int .i64 st,.int .i64 tr,.int .i64 wt,.int .i64 ck,.int .i64 pr,.int .i64 ca,.int .i64 bi,.int .i64 ba] 27))):=(ae.refl w).alloc _
  clear R
  go_enter Tryz.func101,Tryz.ntmps101
  go_wp2_with fail
  generalize w.alloc (.cells #[.int .i64 wk,.int .i64 cp,.int .i64 pg,.int .i64 st,.int .i64 tr,.int .i64 wt,.int .i64 ck,.int .i64 pr,.int .i64 ca,.int .i64 bi,.int .i64 ba] 27)=W0 at *
  have hne:∃W,ae W0 W:=⟨W0,ae.refl _⟩
  refine aw (by kernel_rfl) (by kernel_rfl) ?_
  iterate 31
   with_reducible refine wpQuiet_step (fun K hK=>?_)
   go_simp
   first
   |(refine hK _ ?_;clear hK K)
   |(apply Exists.intro
     refine⟨fun W hW=>?_,hK _ ?_⟩
     first
     |(go_at_call 127;exact Calls.more hW (kW _ _ _ _ _ _ _ _ _ _ _ _ HR.o))
     |(go_at_call 87;exact Calls.more hW (fB _ _))
     |(obtain⟨e0,e1,e2,e3,e4,e5,e6,e7,e8,e9,e10⟩:=HC.o.cells hW;go_simp;try rfl)
     clear hK K)
  refine wpQuiet_nil ?_
  intro W hW
  have HW:=hQQ hW
  clear hW
  go_wp2_with fail
  go_ret
  exact⟨rfl,HM.o.trans HW.o⟩
theorem sW (a:Int)(R:bP wk cp pg st tr wt ck pr ca bi ba):
 Calls Tryz.prog 62 #[.agg #[.int .i64 wk,.int .i64 cp,.int .i64 pg,.int .i64 st,.int .i64 tr,.int .i64 wt,.int .i64 ck,.int .i64 pr,.int .i64 ca,.int .i64 bi,.int .i64 ba],.int .i64 a] w (aF w (.int .i64 (ie cp pg st ca bi a))):=by
 have HR:=hQQ R
 have b1:=jV R
 have b2:=eS R
 have b3:=lQ R
 by_cases c0:bH cp pg st ca bi≤a
 ·skip
  by_cases c1:a<cW cp pg st ca bi
  ·skip
   rw[show ie cp pg st ca bi a=cF cp pg st ca bi+a-bH cp pg st ca bi from if_pos (by omega)]
   have d0:decide (bH cp pg st ca bi≤a)=true:=by simp;omega
   have d1:decide (a<cW cp pg st ca bi)=true:=by simp;omega
   have q0:IntKind.i64.wrap (cF cp pg st ca bi+a)=cF cp pg st ca bi+a:=am (by omega) (by omega)
   have q1:IntKind.i64.wrap (cF cp pg st ca bi+a-bH cp pg st ca bi)=cF cp pg st ca bi+a-bH cp pg st ca bi:=am (by omega) (by omega)
   have HC:=hQQ (aP w 27 wk cp pg st tr wt ck pr ca bi ba)
   have HM:Hq (ae w (w.alloc (.cells #[.int .i64 wk,.int .i64 cp,.int .i64 pg,.int .i64 st,.int .i64 tr,.int .i64 wt,.int .i64 ck,.int .i64 pr,.int .i64 ca,.int .i64 bi,.int .i64 ba] 27))):=(ae.refl w).alloc _
   clear R
   go_enter Tryz.func62,Tryz.ntmps62
   go_wp2_with fail
   generalize w.alloc (.cells #[.int .i64 wk,.int .i64 cp,.int .i64 pg,.int .i64 st,.int .i64 tr,.int .i64 wt,.int .i64 ck,.int .i64 pr,.int .i64 ca,.int .i64 bi,.int .i64 ba] 27)=W0 at *
   have hne:∃W,ae W0 W:=⟨W0,ae.refl _⟩
   refine aw (by kernel_rfl) (by kernel_rfl) ?_
   iterate 19
    with_reducible refine wpQuiet_step (fun K hK=>?_)
    go_simp
    first
    |(refine hK _ ?_;clear hK K)
    |(apply Exists.intro
      refine⟨fun W hW=>?_,hK _ ?_⟩
      first
      |(go_at_call 57;exact Calls.more hW (kp _ _ _ _ _ _ _ _ _ _ _ _ HR.o))
      |(go_at_call 25;exact Calls.more hW (nL _ _ _ _ _ _ _ _ _ _ _ _ HR.o))
      |(go_at_call 94;exact Calls.more hW (zg _ _ _ _ _ _ _ _ _ _ _ _ HR.o))
      |(go_at_call 87;exact Calls.more hW (jF _ _))
      |(obtain⟨e0,e1,e2,e3,e4,e5,e6,e7,e8,e9,e10⟩:=HC.o.cells hW;go_simp;try rfl)
      clear hK K)
   refine wpQuiet_nil ?_
   intro W hW
   have HW:=hQQ hW
   clear hW
   go_wp2_with fail
   go_ret
   exact⟨rfl,HM.o.trans HW.o⟩
  ·rw[show ie cp pg st ca bi a=0 from if_neg (by omega)]
   have d0:decide (bH cp pg st ca bi≤a)=true:=by simp;omega
   have d1:decide (a<cW cp pg st ca bi)=false:=by simp;omega
   have HC:=hQQ (aP w 27 wk cp pg st tr wt ck pr ca bi ba)
   have HM:Hq (ae w (w.alloc (.cells #[.int .i64 wk,.int .i64 cp,.int .i64 pg,.int .i64 st,.int .i64 tr,.int .i64 wt,.int .i64 ck,.int .i64 pr,.int .i64 ca,.int .i64 bi,.int .i64 ba] 27))):=(ae.refl w).alloc _
   clear R
   go_enter Tryz.func62,Tryz.ntmps62
   go_wp2_with fail
   generalize w.alloc (.cells #[.int .i64 wk,.int .i64 cp,.int .i64 pg,.int .i64 st,.int .i64 tr,.int .i64 wt,.int .i64 ck,.int .i64 pr,.int .i64 ca,.int .i64 bi,.int .i64 ba] 27)=W0 at *
   have hne:∃W,ae W0 W:=⟨W0,ae.refl _⟩
   refine aw (by kernel_rfl) (by kernel_rfl) ?_
   iterate 19
    with_reducible refine wpQuiet_step (fun K hK=>?_)
    go_simp
    first
    |(refine hK _ ?_;clear hK K)
    |(apply Exists.intro
      refine⟨fun W hW=>?_,hK _ ?_⟩
      first
      |(go_at_call 57;exact Calls.more hW (kp _ _ _ _ _ _ _ _ _ _ _ _ HR.o))
      |(go_at_call 25;exact Calls.more hW (nL _ _ _ _ _ _ _ _ _ _ _ _ HR.o))
      |(go_at_call 94;exact Calls.more hW (zg _ _ _ _ _ _ _ _ _ _ _ _ HR.o))
      |(go_at_call 87;exact Calls.more hW (fB _ _))
      |(obtain⟨e0,e1,e2,e3,e4,e5,e6,e7,e8,e9,e10⟩:=HC.o.cells hW;go_simp;try rfl)
      clear hK K)
   refine wpQuiet_nil ?_
   intro W hW
   have HW:=hQQ hW
   clear hW
   go_wp2_with fail
   go_ret
   exact⟨rfl,HM.o.trans HW.o⟩
 ·rw[show ie cp pg st ca bi a=0 from if_neg (by omega)]
  have d0:decide (bH cp pg st ca bi≤a)=false:=by simp;omega
  have HC:=hQQ (aP w 27 wk cp pg st tr wt ck pr ca bi ba)
  have HM:Hq (ae w (w.alloc (.cells #[.int .i64 wk,.int .i64 cp,.int .i64 pg,.int .i64 st,.int .i64 tr,.int .i64 wt,.int .i64 ck,.int .i64 pr,.int .i64 ca,.int .i64 bi,.int .i64 ba] 27))):=(ae.refl w).alloc _
  clear R
  go_enter Tryz.func62,Tryz.ntmps62
  go_wp2_with fail
  generalize w.alloc (.cells #[.int .i64 wk,.int .i64 cp,.int .i64 pg,.int .i64 st,.int .i64 tr,.int .i64 wt,.int .i64 ck,.int .i64 pr,.int .i64 ca,.int .i64 bi,.int .i64 ba] 27)=W0 at *
  have hne:∃W,ae W0 W:=⟨W0,ae.refl _⟩
  refine aw (by kernel_rfl) (by kernel_rfl) ?_
  iterate 19
   with_reducible refine wpQuiet_step (fun K hK=>?_)
   go_simp
   first
   |(refine hK _ ?_;clear hK K)
   |(apply Exists.intro
     refine⟨fun W hW=>?_,hK _ ?_⟩
     first
     |(go_at_call 57;exact Calls.more hW (kp _ _ _ _ _ _ _ _ _ _ _ _ HR.o))
     |(go_at_call 25;exact Calls.more hW (nL _ _ _ _ _ _ _ _ _ _ _ _ HR.o))
     |(go_at_call 94;exact Calls.more hW (zg _ _ _ _ _ _ _ _ _ _ _ _ HR.o))
     |(go_at_call 87;exact Calls.more hW (fB _ _))
     |(obtain⟨e0,e1,e2,e3,e4,e5,e6,e7,e8,e9,e10⟩:=HC.o.cells hW;go_simp;try rfl)
     clear hK K)
  refine wpQuiet_nil ?_
  intro W hW
  have HW:=hQQ hW
  clear hW
  go_wp2_with fail
  go_ret
  exact⟨rfl,HM.o.trans HW.o⟩
theorem J1 (p:Int)(R:bP wk cp pg st tr wt ck pr ca bi ba):
 Calls Tryz.prog 84 #[.agg #[.int .i64 wk,.int .i64 cp,.int .i64 pg,.int .i64 st,.int .i64 tr,.int .i64 wt,.int .i64 ck,.int .i64 pr,.int .i64 ca,.int .i64 bi,.int .i64 ba],.int .i64 p] w (aF w (.int .i64 (cN pg st 0 p))):=by
 have HR:=hQQ R
 have e:=(aP w 27 wk cp pg st tr wt ck pr ca bi ba).cells (ae.refl _)
 clear R
 go_enter Tryz.func84,Tryz.ntmps84
 go_wp2_with fail
 refine(uI _ _ _ _ _ _ _ _ _ _ _ _ 0 p HR.o (by omega)).mono ?_
 rintro e w1 ⟨rfl,h1⟩
 go_wp2_with fail
 go_ret
 exact⟨rfl,((ae.refl _).alloc _).trans h1⟩
theorem I0 (p:Int)(R:bP wk cp pg st tr wt ck pr ca bi ba):
 Calls Tryz.prog 48 #[.agg #[.int .i64 wk,.int .i64 cp,.int .i64 pg,.int .i64 st,.int .i64 tr,.int .i64 wt,.int .i64 ck,.int .i64 pr,.int .i64 ca,.int .i64 bi,.int .i64 ba],.int .i64 p] w (aF w (.int .i64 (cN pg st 1 p))):=by
 have HR:=hQQ R
 have e:=(aP w 27 wk cp pg st tr wt ck pr ca bi ba).cells (ae.refl _)
 clear R
 go_enter Tryz.func48,Tryz.ntmps48
 go_wp2_with fail
 refine(uI _ _ _ _ _ _ _ _ _ _ _ _ 1 p HR.o (by omega)).mono ?_
 rintro e w1 ⟨rfl,h1⟩
 go_wp2_with fail
 go_ret
 exact⟨rfl,((ae.refl _).alloc _).trans h1⟩
theorem J2 (p:Int)(R:bP wk cp pg st tr wt ck pr ca bi ba):
 Calls Tryz.prog 52 #[.agg #[.int .i64 wk,.int .i64 cp,.int .i64 pg,.int .i64 st,.int .i64 tr,.int .i64 wt,.int .i64 ck,.int .i64 pr,.int .i64 ca,.int .i64 bi,.int .i64 ba],.int .i64 p] w (aF w (.int .i64 (cN pg st 2 p))):=by
 have HR:=hQQ R
 have e:=(aP w 27 wk cp pg st tr wt ck pr ca bi ba).cells (ae.refl _)
 clear R
 go_enter Tryz.func52,Tryz.ntmps52
 go_wp2_with fail
 refine(uI _ _ _ _ _ _ _ _ _ _ _ _ 2 p HR.o (by omega)).mono ?_
 rintro e w1 ⟨rfl,h1⟩
 go_wp2_with fail
 go_ret
 exact⟨rfl,((ae.refl _).alloc _).trans h1⟩
theorem J3 (p:Int)(R:bP wk cp pg st tr wt ck pr ca bi ba):
 Calls Tryz.prog 155 #[.agg #[.int .i64 wk,.int .i64 cp,.int .i64 pg,.int .i64 st,.int .i64 tr,.int .i64 wt,.int .i64 ck,.int .i64 pr,.int .i64 ca,.int .i64 bi,.int .i64 ba],.int .i64 p] w (aF w (.int .i64 (cN pg st 3 p))):=by
 have HR:=hQQ R
 have e:=(aP w 27 wk cp pg st tr wt ck pr ca bi ba).cells (ae.refl _)
 clear R
 go_enter Tryz.func155,Tryz.ntmps155
 go_wp2_with fail
 refine(uI _ _ _ _ _ _ _ _ _ _ _ _ 3 p HR.o (by omega)).mono ?_
 rintro e w1 ⟨rfl,h1⟩
 go_wp2_with fail
 go_ret
 exact⟨rfl,((ae.refl _).alloc _).trans h1⟩
theorem J4 (p:Int)(R:bP wk cp pg st tr wt ck pr ca bi ba):
 Calls Tryz.prog 156 #[.agg #[.int .i64 wk,.int .i64 cp,.int .i64 pg,.int .i64 st,.int .i64 tr,.int .i64 wt,.int .i64 ck,.int .i64 pr,.int .i64 ca,.int .i64 bi,.int .i64 ba],.int .i64 p] w (aF w (.int .i64 (cN pg st 4 p))):=by
 have HR:=hQQ R
 have e:=(aP w 27 wk cp pg st tr wt ck pr ca bi ba).cells (ae.refl _)
 clear R
 go_enter Tryz.func156,Tryz.ntmps156
 go_wp2_with fail
 refine(uI _ _ _ _ _ _ _ _ _ _ _ _ 4 p HR.o (by omega)).mono ?_
 rintro e w1 ⟨rfl,h1⟩
 go_wp2_with fail
 go_ret
 exact⟨rfl,((ae.refl _).alloc _).trans h1⟩
open Go.Sort Go.Maps Go.Shelf
section
variable {P:Program}{ops:Array Oper}{rest:List Oper}{o:Oper}{a:Act}{w:World}{Q:Exit→Act→World→Prop}
theorem dl (hw:Region.wanted o (yielded ops a.tmps)=true)(ty:TypeId)(x:Operand)(ho:o.op=.load ty x)(g i:Nat)(hx:a.eval x=.pointer (some ⟨g,i,none⟩))(k:IntKind)(hu:P.underlying ty=some (.int k))(v:Value)(hc:w.cell? ⟨g,i,none⟩=some v)
 (h:wpList P ops Q rest (a.put o.dst v) w):wpList P ops Q (o::rest) a w :=
 eI hw fun K hK=>by
  have hr:(loadVar ty ⟨g,i,none⟩).run P w=.ok v w:=jc hu rfl hc
  unfold Oper.wp Oper.upon execOp
  simp only[ho,hx,Instr.loadAt,Instr.sureAddr,Sem.run_bind,Sem.run_pure,Result.andThen_ok,hr]
  exact hK _ _ h
theorem d9 (hw:Region.wanted o (yielded ops a.tmps)=true)(ty:TypeId)(x y:Operand)(ho:o.op=.store ty x y)(hd:o.dst=none)(g i:Nat)(hx:a.eval x=.pointer (some ⟨g,i,none⟩))(z:Int)(hy:a.eval y=.int .i64 z)(cs:Array Value)(t:TypeId)(hg:w.heap[g]?=some (.cells cs t (0,0)))(hi:i<cs.size)(hsz:(P.info? ty).map (·.size)=some 1)
 (h:∀w',w'.heap[g]?=some (.cells (cs.setIfInBounds i (.int .i64 z)) t (0,0))→Turned (fun k=>k=g) w w'→wpList P ops Q rest a w'):wpList P ops Q (o::rest) a w :=
 eI hw fun K hK=>by
  have hc:w.cell? ⟨g,i,none⟩=some cs[i]:=by rw[cell_of_row w g i cs t _ hg,Array.getElem?_eq_getElem hi]
  have hf:w.frozen? ⟨g,i,none⟩=false:=frozen_of_row w g i cs t hg
  have hs:(Instr.storeAt ty (.pointer (some ⟨g,i,none⟩)) (.int .i64 z)).run P w=.ok () (w.setCell ⟨g,i,none⟩ (.int .i64 z)):=by
   cases hq:P.info? ty with
   |none=>rw[hq] at hsz;simp at hsz
   |some d =>
    rw[hq] at hsz
    have hs1:d.size=1:=by simpa using hsz
    simp[hc,hf,go_sem,sizeOf,typeInfo,hq,hs1]
  have:=hK _ _ (h _ (bu (.int .i64 z) hg) (Turned.setCell (Turned.refl _ w) ⟨g,i,none⟩ (.int .i64 z) (fun _=>rfl)))
  unfold Oper.wp Oper.upon execOp
  simp only[ho,hx,hy,Sem.run_bind,Sem.run_pure,hs,Result.andThen_ok,hd]
  exact this
end
def kr (c:Cfg):Cfg:= { wk:=1+c.wk % 4,cp:=1+c.cp % 2,pg:=1+c.pg % 9,st:=1+c.st % 4,tr:=c.tr,wt:=c.wt,ck:=c.ck,pr:=1+c.pr % 3,ca:=c.ca % 3,bi:=c.bi % 4,ba:=1+c.ba % 3 }
structure Cfg.Small (c:Cfg):Prop where
 ok:c.Ok
 cp2:c.cp≤2
 pg9:c.pg≤9
 st4:c.st≤4
 ca2:c.ca≤2
 bi3:c.bi≤3
theorem uJ {c:Cfg}(R:c.Ok):(kr c).Small:=by
 have h1:=R.wk1;have h2:=R.cp1;have h3:=R.pg1;have h4:=R.st1;have h5:=R.tr1;have h6:=R.tr2;have h7:=R.wt1;have h8:=R.wt2;have h9:=R.ck1;have h10:=R.ck2;have h11:=R.pr1;have h12:=R.ca1;have h13:=R.bi1;have h14:=R.ba1
 unfold kr
 refine⟨?_,?_,?_,?_,?_,?_⟩<;>try (show _≤_;simp only;omega)
 constructor<;>(simp only;omega)
theorem Cfg.Small.words {c:Cfg}(S:c.Small):160≤c.words∧c.words≤800:=by
 have hb:=lQ S.ok
 refine⟨hb.1,?_⟩
 have h1:=S.cp2;have h2:=S.pg9;have h3:=S.st4;have h4:=S.ca2;have h5:=S.bi3
 have c0:=S.ok.cp1;have c1:=S.ok.ca1;have c2:=S.ok.bi1;have c3:=S.ok.pg1
 have pb:c.cp * (c.ca+1)≤2 * 3:=Int.mul_le_mul h1 (by omega) (by omega) (by omega)
 have pa:5 * c.cp * (c.ca+1)=5 * (c.cp * (c.ca+1)):=by rw[Int.mul_assoc]
 unfold Cfg.words cW bH cF dY cD aO aN aD
 rw[pa]
 omega
theorem Cfg.Small.tbl {c:Cfg}(S:c.Small){n:Nat}(hn:(n:Int)=c.words):TblIn c.pg c.st n:=by
 refine⟨S.ok.st1,S.ok.st2,S.ok.pg1,S.ok.pg2,?_⟩
 rw[hn]
 have h1:=jV S.ok;have h2:=eS S.ok;have h3:=S.ok.pg1
 have h4:aN c.st+aD c.pg≤aO c.st c.pg:=by unfold aO;omega
 have h5:aO c.st c.pg≤cF c.cp c.pg c.st c.ca c.bi:=by
  have:=j6 S.ok;have:=S.ok.bi1
  unfold cF dY cD;omega
 show _≤cW c.cp c.pg c.st c.ca c.bi
 unfold cW
 omega
theorem rn {c:Cfg}(R:c.Ok)(y0 y1 y2 y3 y4 y5 y6 y7 y8 y9 y10:Int)(v:Value)(w:World)(hS:∀W,Calls Tryz.prog 56 #[v] W (aF W (.agg #[.int .i64 c.wk,.int .i64 c.cp,.int .i64 c.pg,.int .i64 c.st,.int .i64 c.tr,.int .i64 c.wt,.int .i64 c.ck,.int .i64 c.pr,.int .i64 c.ca,.int .i64 c.bi,.int .i64 c.ba])))(hv:v=.agg #[.int .i64 y0,.int .i64 y1,.int .i64 y2,.int .i64 y3,.int .i64 y4,.int .i64 y5,.int .i64 y6,.int .i64 y7,.int .i64 y8,.int .i64 y9,.int .i64 y10]):
 Calls Tryz.prog 24 #[v] w (aF w (.agg (kr c).cells)):=by
 have h1:=R.wk1;have h2:=R.cp1;have h3:=R.pg1;have h4:=R.st1;have h11:=R.pr1;have h12:=R.ca1;have h13:=R.bi1;have h14:=R.ba1
 have g1:=R.wk2;have g2:=R.cp2;have g3:=R.pg2;have g4:=R.st2;have g11:=R.pr2;have g12:=R.ca2;have g13:=R.bi2;have g14:=R.ba2
 have t0:c.wk.tmod 4=c.wk % 4:=Int.tmod_eq_emod_of_nonneg (by omega)
 have t1:c.cp.tmod 2=c.cp % 2:=Int.tmod_eq_emod_of_nonneg (by omega)
 have t2:c.pg.tmod 9=c.pg % 9:=Int.tmod_eq_emod_of_nonneg (by omega)
 have t3:c.st.tmod 4=c.st % 4:=Int.tmod_eq_emod_of_nonneg (by omega)
 have t7:c.pr.tmod 3=c.pr % 3:=Int.tmod_eq_emod_of_nonneg (by omega)
 have t8:c.ca.tmod 3=c.ca % 3:=Int.tmod_eq_emod_of_nonneg (by omega)
 have t9:c.bi.tmod 4=c.bi % 4:=Int.tmod_eq_emod_of_nonneg (by omega)
 have t10:c.ba.tmod 3=c.ba % 3:=Int.tmod_eq_emod_of_nonneg (by omega)
 have q0:IntKind.i64.wrap (1+c.wk % 4)=1+c.wk % 4:=am (by omega) (by omega)
 have q1:IntKind.i64.wrap (1+c.cp % 2)=1+c.cp % 2:=am (by omega) (by omega)
 have q2:IntKind.i64.wrap (1+c.pg % 9)=1+c.pg % 9:=am (by omega) (by omega)
 have q3:IntKind.i64.wrap (1+c.st % 4)=1+c.st % 4:=am (by omega) (by omega)
 have q7:IntKind.i64.wrap (1+c.pr % 3)=1+c.pr % 3:=am (by omega) (by omega)
 have q10:IntKind.i64.wrap (1+c.ba % 3)=1+c.ba % 3:=am (by omega) (by omega)
 have HS:=hQQ hS
 clear hS R h1 h2 h3 h4 h11 h12 h13 h14 g1 g2 g3 g4 g11 g12 g13 g14
 subst hv
 have HA0:=hQQ (aH w #[.int .i64 y0,.int .i64 y1,.int .i64 y2,.int .i64 y3,.int .i64 y4,.int .i64 y5,.int .i64 y6,.int .i64 y7,.int .i64 y8,.int .i64 y9,.int .i64 y10] 23)
 have HA:Hq (((w.alloc (.cells #[.int .i64 y0,.int .i64 y1,.int .i64 y2,.int .i64 y3,.int .i64 y4,.int .i64 y5,.int .i64 y6,.int .i64 y7,.int .i64 y8,.int .i64 y9,.int .i64 y10] 23)).alloc (.cells #[.int .i64 0,.int .i64 0,.int .i64 0,.int .i64 0,.int .i64 0,.int .i64 0,.int .i64 0,.int .i64 0,.int .i64 0,.int .i64 0,.int .i64 0] 23)).heap[w.heap.size]?=some (.cells #[.int .i64 y0,.int .i64 y1,.int .i64 y2,.int .i64 y3,.int .i64 y4,.int .i64 y5,.int .i64 y6,.int .i64 y7,.int .i64 y8,.int .i64 y9,.int .i64 y10] 23 (0,0))):=((ae.refl _).alloc _).block HA0.o
 have HZ0:Hq (((w.alloc (.cells #[.int .i64 y0,.int .i64 y1,.int .i64 y2,.int .i64 y3,.int .i64 y4,.int .i64 y5,.int .i64 y6,.int .i64 y7,.int .i64 y8,.int .i64 y9,.int .i64 y10] 23)).alloc (.cells #[.int .i64 0,.int .i64 0,.int .i64 0,.int .i64 0,.int .i64 0,.int .i64 0,.int .i64 0,.int .i64 0,.int .i64 0,.int .i64 0,.int .i64 0] 23)).heap[w.heap.size+1]?=some (.cells #[.int .i64 0,.int .i64 0,.int .i64 0,.int .i64 0,.int .i64 0,.int .i64 0,.int .i64 0,.int .i64 0,.int .i64 0,.int .i64 0,.int .i64 0] 23 (0,0))):=by
  have:=aH (w.alloc (.cells #[.int .i64 y0,.int .i64 y1,.int .i64 y2,.int .i64 y3,.int .i64 y4,.int .i64 y5,.int .i64 y6,.int .i64 y7,.int .i64 y8,.int .i64 y9,.int .i64 y10] 23)) #[.int .i64 0,.int .i64 0,.int .i64 0,.int .i64 0,.int .i64 0,.int .i64 0,.int .i64 0,.int .i64 0,.int .i64 0,.int .i64 0,.int .i64 0] 23
  rwa [World.size_alloc] at this
 have HM:Hq (ae w ((w.alloc (.cells #[.int .i64 y0,.int .i64 y1,.int .i64 y2,.int .i64 y3,.int .i64 y4,.int .i64 y5,.int .i64 y6,.int .i64 y7,.int .i64 y8,.int .i64 y9,.int .i64 y10] 23)).alloc (.cells #[.int .i64 0,.int .i64 0,.int .i64 0,.int .i64 0,.int .i64 0,.int .i64 0,.int .i64 0,.int .i64 0,.int .i64 0,.int .i64 0,.int .i64 0] 23))):=((ae.refl w).alloc _).alloc _
 go_enter Tryz.func24,Tryz.ntmps24
 go_wp2_with (refine uh rfl rfl rfl HA.o (by kernel_rfl) ?_)
 refine(HS.o _).mono ?_
 rintro e w4 ⟨rfl,m4⟩
 have HB4:=hQQ (setRow_heap w4 w.heap.size _ #[.int .i64 c.wk,.int .i64 c.cp,.int .i64 c.pg,.int .i64 c.st,.int .i64 c.tr,.int .i64 c.wt,.int .i64 c.ck,.int .i64 c.pr,.int .i64 c.ca,.int .i64 c.bi,.int .i64 c.ba] _ _ (m4.block HA.o))
 have HZ4:Hq ((w4.setRow w.heap.size #[.int .i64 c.wk,.int .i64 c.cp,.int .i64 c.pg,.int .i64 c.st,.int .i64 c.tr,.int .i64 c.wt,.int .i64 c.ck,.int .i64 c.pr,.int .i64 c.ca,.int .i64 c.bi,.int .i64 c.ba]).heap[w.heap.size+1]?=_):=hQQ ((setRow_other w4 w.heap.size (w.heap.size+1) #[.int .i64 c.wk,.int .i64 c.cp,.int .i64 c.pg,.int .i64 c.st,.int .i64 c.tr,.int .i64 c.wt,.int .i64 c.ck,.int .i64 c.pr,.int .i64 c.ca,.int .i64 c.bi,.int .i64 c.ba] (by omega)).trans (m4.block HZ0.o))
 have HM4:Hq (ae w (w4.setRow w.heap.size #[.int .i64 c.wk,.int .i64 c.cp,.int .i64 c.pg,.int .i64 c.st,.int .i64 c.tr,.int .i64 c.wt,.int .i64 c.ck,.int .i64 c.pr,.int .i64 c.ca,.int .i64 c.bi,.int .i64 c.ba])):=(HM.o.trans m4).setRow _ _ (Nat.le_refl _)
 have HX4:=hQQ (m4.block HA.o)
 clear m4
 have hw1:w.heap.size+1<(w4.setRow w.heap.size #[.int .i64 c.wk,.int .i64 c.cp,.int .i64 c.pg,.int .i64 c.st,.int .i64 c.tr,.int .i64 c.wt,.int .i64 c.ck,.int .i64 c.pr,.int .i64 c.ca,.int .i64 c.bi,.int .i64 c.ba]).heap.size:=ac HZ4.o
 go_wp2_with (first
  |(refine wpList_store_row rfl 23 _ _ rfl _ _ rfl rfl 23 _ HX4.o (by kernel_rfl) rfl (by simp[Value.oneCell']) ?_;generalize w4.setRow w.heap.size #[.int .i64 c.wk,.int .i64 c.cp,.int .i64 c.pg,.int .i64 c.st,.int .i64 c.tr,.int .i64 c.wt,.int .i64 c.ck,.int .i64 c.pr,.int .i64 c.ca,.int .i64 c.bi,.int .i64 c.ba]=w5 at HB4 HZ4 HM4 hw1⊢;have HB:=HB4;have HZ:=HZ4;have HT:=HM4;clear HX4 HB4 HZ4 HM4)
  |(refine dl rfl 3 _ rfl w.heap.size _ rfl .i64 Tryz.underlying3 _ (aB HB.o (ae.refl _) rfl) ?_)
  |(refine d9 rfl 3 _ _ rfl rfl w.heap.size _ rfl _ rfl _ _ HB.o (by simp) (by kernel_rfl) ?_;intro w6 hb6 ht6;simp only[List.setIfInBounds_toArray,List.set_cons_zero,List.set_cons_succ] at hb6;have HZ:=hQQ ((Turned.block ht6 (w.heap.size+1) (ac HZ.o) (by omega)).trans HZ.o);have HT:Hq (ae w w6):=hQQ (Turned.mono (aq (F:=fun _=>False) HT.o ht6 (fun k q=> .inr (by omega))) (fun _ _ q=>q));have HB:=hQQ hb6;clear hb6 ht6)
  |(refine uh rfl rfl rfl HB.o (by kernel_rfl) ?_)
  |(refine wpList_store_row rfl 23 _ _ rfl _ _ rfl rfl 23 _ HZ.o (by kernel_rfl) rfl (by simp[Value.oneCell']) ?_))
 refine bodyPost_ret (v:=.agg (kr c).cells) (results_cell_row Tryz.results24 _ _ _ 23 _ (0,0) _ rfl (setRow_heap _ _ _ _ _ _ HZ.o) Tryz.underlying23 rfl (by kernel_rfl)) rfl ⟨rfl,?_⟩
 exact HT.o.setRow _ _ (by omega)
def bQ (n:Nat):List Int:=List.replicate n 0
theorem il (n:Nat):(bQ n).length=n:=by simp[bQ]
theorem AR (n:Nat):OkW (bQ n):=fun x hx=>by
 have:=List.eq_of_mem_replicate hx
 subst this;unfold W64;omega
def Ws (w:World)(g cap:Nat)(zs:List Int):Prop:=∃cur:Array Value,w.heap[g]?=some (.cells cur 3 (0,0))∧zs.length≤cap∧cap≤maxLen∧cur.size=cap∧∀i,i<zs.length→cur[i]?=some (.int .i64 (zs.getD i 0))
theorem Ws.of_rw {w:World}{base g cap:Nat}{zs:List Int}(h:Rw base w (.slice (some ⟨g,0,none⟩) zs.length cap) zs):Ws w g cap zs:=by
 rcases h.2 with⟨q,_⟩|⟨g',cap',cur,q,hb,hg,h1,h2,h3,h4⟩
 ·cases q
 ·cases q
  refine⟨cur,hg,h1,h2,by simpa using h3,fun i hi=>?_⟩
  have h5:(cur.toList.take (zs.length * 1))[i]?=some (.int .i64 (zs.getD i 0)):=by
   rw[h4,List.getElem?_map,List.getElem?_eq_getElem hi];simp[List.getD,hi]
  rw[List.getElem?_take,if_pos (by omega)] at h5
  simpa using h5
theorem Ws.rw' {w:World}{base g cap:Nat}{zs:List Int}(h:Ws w g cap zs)(hb:base≤g):Rw base w (.slice (some ⟨g,0,none⟩) zs.length cap) zs:=by
 obtain⟨cur,hg,h1,h2,h3,h4⟩:=h
 refine⟨by simp,.inr ⟨g,cap,cur,rfl,hb,hg,h1,h2,by simpa using h3,?_⟩⟩
 apply List.ext_getElem?
 intro i
 rw[List.getElem?_take]
 by_cases hi:i<zs.length
 ·rw[if_pos (by omega),List.getElem?_map,List.getElem?_eq_getElem hi]
  have:=h4 i hi
  simpa [List.getD,hi] using this
 ·rw[if_neg (by omega)]
  simp[hi]
theorem Ws.cell {w:World}{g cap:Nat}{zs:List Int}(h:Ws w g cap zs){i:Nat}(hi:i<zs.length):w.cell? ⟨g,i,none⟩=some (.int .i64 (zs.getD i 0)):=by
 obtain⟨cur,hg,_,_,_,h4⟩:=h
 rw[cell_of_row w g i _ _ _ hg,h4 i hi]
theorem Ws.froz {w:World}{g cap:Nat}{zs:List Int}(h:Ws w g cap zs)(i:Nat):w.frozen? ⟨g,i,none⟩=false:=by
 obtain⟨cur,hg,_⟩:=h
 exact frozen_of_row w g i _ _ hg
theorem Ws.lt {w:World}{g cap:Nat}{zs:List Int}(h:Ws w g cap zs):g<w.heap.size:=by
 obtain⟨cur,hg,_⟩:=h
 exact ac hg
theorem Ws.keep {S:Nat→Prop}{w w':World}{g cap:Nat}{zs:List Int}(h:Ws w g cap zs)(t:Turned S w w')(hs:¬S g):Ws w' g cap zs:=by
 obtain⟨cur,hg,q⟩:=h
 exact⟨cur,(t.block g (ac hg) hs).trans hg,q⟩
theorem Ws.more {w w':World}{g cap:Nat}{zs:List Int}(h:Ws w g cap zs)(t:ae w w'):Ws w' g cap zs:=by
 obtain⟨cur,hg,q⟩:=h
 exact⟨cur,t.block hg,q⟩
theorem Ws.set {w:World}{g cap:Nat}{zs:List Int}(h:Ws w g cap zs){i:Nat}(hi:i<zs.length)(x:Int):Ws (w.setCell ⟨g,i,none⟩ (.int .i64 x)) g cap (zs.set i x):=by
 obtain⟨cur,hg,h1,h2,h3,h4⟩:=h
 refine⟨_,bu _ hg,by simpa using h1,h2,by simpa using h3,fun j hj=>?_⟩
 have hj':j<zs.length:=by simpa using hj
 rw[Array.getElem?_setIfInBounds]
 by_cases e:i=j
 ·subst e
  rw[if_pos rfl,if_pos (by omega)]
  simp[List.getD,hj']
 ·rw[if_neg e,h4 j hj']
  simp[List.getD,List.getElem?_set_ne e]
theorem Ws.words {w:World}{g cap:Nat}{zs:List Int}(h:Ws w g cap zs):ig w (some ⟨g,0,none⟩) zs :=
 .inr ⟨g,0,rfl,h.lt,fun i hi=>by rw[Nat.zero_add];exact h.cell hi⟩
section
variable {P:Program}{ops:Array Oper}{md:Region.Mode}{C:World→Prop}{Q:Exit→Act→World→Prop}
def bx (P:Program)(ops:Array Oper)(C:World→Prop)(o:Oper)(v:Value)(a:Act):Prop :=
 (Region.wanted o (yielded ops a.tmps)=true∧∀w,C w→(execOp a.eval o).run P w=.ok (.value v) w) ∨
 (Region.wanted o (yielded ops a.tmps)=false∧v=undef)
theorem bx.wpOp {i:Nat}{o:Oper}{v:Value}{a:Act}(hi:ops[i]?=some o)(hy:bx P ops C o v a)
 {K:Act→World→Prop} {w:World} (hC:C w) (h:K (a.put o.dst v) w):wpOp P ops Q i K a w:=by
 unfold Go.wpOp
 simp only[hi]
 rcases hy with⟨hw,hv⟩|⟨hw,rfl⟩
 ·simp only[hw,if_true,Oper.wp,hv w hC,Oper.upon];exact .inl h
 ·simp only[hw,Bool.false_eq_true,if_false];exact h
theorem bx.of_same {o:Oper}{v:Value}{a a':Act}(hy:bx P ops C o v a)(he:execOp a'.eval o=execOp a.eval o)
 (hw:Region.wanted o (yielded ops a'.tmps)=Region.wanted o (yielded ops a.tmps)):bx P ops C o v a':=by
 unfold bx at *
 rw[he,hw]
 exact hy
theorem nN {j:Nat}{oi oj:Oper}{v:Value}(hj:ops[j]?=some oj)(hap:oi.apart ops oj=true)
 (hsi:∀cs b,oi.op≠ .select cs b) (hsj:∀cs b,oj.op≠ .select cs b)
 (hQ:∀c a w,Q (.panic c) (a.put oi.dst v) w→Q (.panic c) a w) {K:Act→World→Prop} {a:Act} {w:World}
 (hy:bx P ops C oi v a) (h:wpOp P ops Q j K (a.put oi.dst v) w):
 wpOp P ops Q j (fun a' w'=>bx P ops C oi v a'∧K (a'.put oi.dst v) w') a w:=by
 obtain⟨h1,h2,h3⟩:=Oper.apart_spec hap
 have keep:∀(a:Act),bx P ops C oi v a→∀u,bx P ops C oi v (a.put oj.dst u):=fun a hy u =>
  hy.of_same (execOp_put oi hsi a oj.dst u h3) (wanted_put oi a oj.dst u h3)
 have keepD:∀d,bx P ops C oi v { a with defers:=d::a.defers } :=fun d=>hy.of_same rfl rfl
 unfold wpOp at *
 simp only[hj] at *
 rw[wanted_put oj a oi.dst v h1] at h
 split
 ·rename_i hw
  simp only[hw,if_true] at h
  rcases h with h|⟨hasks,hlets⟩
  case inr=>exact .inr ⟨by unfold Oper.asks at *;rw[execOp_put oj hsj a oi.dst v h1] at hasks;exact hasks,hlets⟩
  refine .inl ?_
  unfold Oper.wp at *
  rw[execOp_put oj hsj a oi.dst v h1] at h
  generalize (execOp a.eval oj).run P w=r at *
  cases r with
  |ok n w' =>
   cases n<;>simp only[Oper.upon] at h⊢
   case value u=>exact⟨keep a hy u,by rw[←Act.put_comm a v u h2];exact h⟩
   case skip=>exact⟨keep a hy _,by rw[←Act.put_comm a v undef h2];exact h⟩
   case defer d =>
    refine⟨keep _ (keepD d) _,?_⟩
    rw[←Act.put_comm _ v undef h2,←Act.put_defers]
    exact h
   case enter f args =>
    refine Calls.mono h fun e w'' he=>?_
    cases e with
    |returned u=>exact⟨keep a hy u,by rw[←Act.put_comm a v u h2];exact he⟩
    |panicked c=>exact hQ _ _ _ he
    |outgrown=>exact he
   case row row args=>exact Rows.mono h fun u w'' he=>⟨keep a hy u,by rw[←Act.put_comm a v u h2];exact he⟩
  |halt x w' =>
   cases x<;>simp only[Oper.upon] at h⊢
   case panic u=>exact hQ _ _ _ h
 ·rename_i hw
  simp only[hw] at h
  exact⟨keep a hy _,by rw[←Act.put_comm a v undef h2];exact h⟩
def eY (P:Program)(md:Region.Mode)(ops:Array Oper)(C:World→Prop)(Q:Exit→Act→World→Prop):Nat→Array Bool→Act→World→Prop
 | 0,d,a,w=>Region.ready md ops d= []∧Q .normal a w
 |f+1,d,a,w=>(Region.ready md ops d= []→Q .normal a w)∧∀i∈Region.ready md ops d,wpOp P ops Q i (fun a' w'=>C w'∧eY P md ops C Q f (d.setIfInBounds i true) a' w') a w
theorem DM:∀(f:Nat) (d:Array Bool) (a:Act) (w:World),eY P md ops C Q f d a w→wpAny P md ops Q f d a w:=by
 intro f
 induction f with
 |zero=>intro d a w h;exact h
 |succ f ih=>intro d a w h;exact⟨h.1,fun i hi=>wpOp_mono (fun a' w' z=>ih _ a' w' z.2) (h.2 i hi)⟩
theorem xC {i:Nat}{oi:Oper}{v:Value}(hi:ops[i]?=some oi)(hsel:∀(j:Nat)(o:Oper) cs b,ops[j]?=some o→o.op≠ .select cs b)
 (hQ:∀c a w,Q (.panic c) (a.put oi.dst v) w→Q (.panic c) a w):
 ∀(fuel:Nat) (listed:Array Bool) (a:Act) (w:World),C w →
  (∀j oj,ops[j]?=some oj→j≠i→listed.getD j true=false→(∀e∈oj.after,Region.binds md e=true→e.on≠i)→oi.apart ops oj=true) →
  i∈Region.ready md ops listed→bx P ops C oi v a →
  eY P md ops C Q fuel (listed.setIfInBounds i true) (a.put oi.dst v) w→eY P md ops C Q (fuel+1) listed a w:=by
 intro fuel
 induction fuel with
 |zero =>
  intro listed a w hC _ hr hy H
  refine⟨fun h=>(by rw[h] at hr;cases hr),fun j hj=>?_⟩
  by_cases hji:j=i
  ·subst hji;exact hy.wpOp hi hC ⟨hC,H⟩
  ·have:=ready_mono hj hji
   rw[H.1] at this
   cases this
 |succ fuel ih =>
  intro listed a w hC hfree hr hy H
  refine⟨fun h=>(by rw[h] at hr;cases hr),fun j hj=>?_⟩
  by_cases hji:j=i
  ·subst hji;exact hy.wpOp hi hC ⟨hC,H⟩
  ·have h1:=H.2 j (ready_mono hj hji)
   obtain⟨hjun,oj,hoj,hall⟩:=mem_ready.1 hj
   have hnot:∀e∈oj.after,Region.binds md e=true→e.on≠i:=fun e he hb heq=>by
    have h1:=hall e he hb
    have h0:=(mem_ready.1 hr).1
    rw[heq] at h1
    rcases Nat.lt_or_ge i listed.size with h'|h'
    ·simp[h'] at h0 h1;rw[h0] at h1;cases h1
    ·simp[Array.getElem?_eq_none h'] at h1
   have h2:=nN hoj (hfree j oj hoj hji hjun hnot) (fun cs b=>hsel i oi cs b hi) (fun cs b=>hsel j oj cs b hoj) hQ hy h1
   have hfree':∀k ok,ops[k]?=some ok→k≠i→(listed.setIfInBounds j true).getD k true=false →
    (∀e∈ok.after,Region.binds md e=true→e.on≠i)→oi.apart ops ok=true:=fun k ok hk hki hun hno=>by
    refine hfree k ok hk hki ?_ hno
    by_cases hjk:j=k
    ·subst hjk;exact hjun
    ·rw[getD_set_ne true hjk] at hun;exact hun
   refine wpOp_mono (fun a' w' h3=>⟨h3.2.1,ih (listed.setIfInBounds j true) a' w' h3.2.1 hfree' (ready_mono hr (Ne.symm hji)) h3.1 ?_⟩) h2
   rw[Array.setIfInBounds_comm _ _ hji]
   exact h3.2.2
theorem AU {i:Nat}{oi:Oper}{v:Value}{fuel:Nat}{listed:Array Bool}{a:Act}{w:World}(hi:ops[i]?=some oi)
 (hs:Region.noSelect ops=true) (hf:Region.free md ops listed i=true) (hr:(Region.ready md ops listed).contains i=true)
 (hQ:∀c a w,Q (.panic c) (a.put oi.dst v) w→Q (.panic c) a w) (hC:C w) (hy:bx P ops C oi v a)
 (h:eY P md ops C Q fuel (listed.setIfInBounds i true) (a.put oi.dst v) w):eY P md ops C Q (fuel+1) listed a w :=
 xC hi (Region.noSelect_spec hs) hQ fuel listed a w hC (Region.free_spec hi hf) (by simpa using hr) hy h
theorem xD {i:Nat}{oi:Oper}{v:Value}{fuel:Nat}{listed:Array Bool}{a:Act}{w:World}(d:Option Tmp)(hi:ops[i]?=some oi)(hd:oi.dst=d)
 (hs:Region.noSelect ops=true) (hf:Region.free md ops listed i=true) (hr:(Region.ready md ops listed).contains i=true)
 (hQ:∀c a w,Q (.panic c) (a.put d v) w→Q (.panic c) a w) (hC:C w) (hy:bx P ops C oi v a)
 (h:eY P md ops C Q fuel (listed.setIfInBounds i true) (a.put d v) w):eY P md ops C Q (fuel+1) listed a w:=by
 subst hd;exact AU hi hs hf hr hQ hC hy h
theorem DN {i:Nat}{o:Oper}{fuel:Nat}{listed:Array Bool}{a:Act}{w:World}(hr:Region.ready md ops listed= [i])(hi:ops[i]?=some o)(hw:Region.wanted o (yielded ops a.tmps)=true)
 (h:Oper.wp P o a w (fun a' w'=>C w'∧eY P md ops C Q fuel (listed.setIfInBounds i true) a' w') Q):eY P md ops C Q (fuel+1) listed a w:=by
 refine⟨fun q=>(by rw[hr] at q;cases q),fun j hj=>?_⟩
 rw[hr] at hj
 obtain rfl:j=i:=by simpa using hj
 unfold Go.wpOp
 simp only[hi,hw,if_true]
 exact .inl h
theorem el {fuel:Nat}{listed:Array Bool}{a:Act}{w:World}(hr:Region.ready md ops listed= [])(h:Q .normal a w):eY P md ops C Q fuel listed a w:=by
 cases fuel with
 |zero=>exact⟨hr,h⟩
 |succ f=>exact⟨fun _=>h,fun i hi=>(by rw[hr] at hi;cases hi)⟩
theorem bF {o:Oper}{a:Act}(hw:Region.wanted o (yielded ops a.tmps)=true)(ty:TypeId)(x:Operand)(ho:o.op=.load ty x)(g:Nat)(hx:a.eval x=.pointer (some ⟨g,0,none⟩))(t:TypeId)(cs:Array Value)(fr:Nat×Nat)(d:TypeDesc)(hg:∀w,C w→w.heap[g]?=some (.cells cs t fr))
 (hu:P.underlying ty=some d) (hd:(match d with| .struct _| .array _ _=>true|_=>false)=true) (hi:(P.info? ty).map (·.size)=some cs.size):bx P ops C o (.agg cs) a:=by
 refine .inl ⟨hw,fun w hC=>?_⟩
 unfold execOp
 simp only[ho,hx,Instr.loadAt,Instr.sureAddr,Sem.run_bind,Sem.run_pure,Result.andThen_ok,run_loadVar_row w g t ty cs fr d (hg w hC) hu hd hi]
end
theorem dg {P:Program}{ops:Array Oper}{id:Nat}{a:Act}{w:World}{Q:Exit→Act→World→Prop}(C:World→Prop)(hm:P.follows .mixedOrders=true)
 (h:eY P .any ops C Q ops.size (Array.replicate ops.size false) a { w with drawn:=w.drawn+1 }):(Code.region id ops true).wp P Q a w:=wp_region_any hm (DM _ _ _ _ h)
section
variable {P:Program}{o:Oper}{a:Act}{w:World}{K:Act→World→Prop}{Q:Exit→Act→World→Prop}
theorem JJ {f:Nat}{ts:Array TypeId}(ho:o.op=.call { callee:= .value (.func f),args:= #[],argTypes:=ts })(he:∀(vs:Array Value)(w:World),Sem.run P (callFunc f vs) w=.ok (.enter f vs) w)
 (h:Calls P f #[] w (fun| .returned v,w''=>K (a.put o.dst v) w''| .panicked ch,w''=>Q (.panic ch) a w''| .outgrown,_=>LetsOut Q)):o.wp P a w K Q:=by
 have hv:a.eval (.func f)=.func (.func f) #[] #[]:=rfl
 unfold Oper.wp Oper.upon
 generalize hρ:a.eval=ρ at hv⊢
 simp[execOp,ho,resolve,invoke,hv,he,Sem.run_bind,Result.andThen,go_sem]
 exact h
theorem gS {f:Nat}{x0 x1:Operand}{v0 v1:Value}{ts:Array TypeId}(ho:o.op=.call { callee:= .value (.func f),args:= #[x0,x1],argTypes:=ts })(h0:a.eval x0=v0)(h1:a.eval x1=v1)(he:∀(vs:Array Value)(w:World),Sem.run P (callFunc f vs) w=.ok (.enter f vs) w)
 (h:Calls P f #[v0,v1] w (fun| .returned v,w''=>K (a.put o.dst v) w''| .panicked ch,w''=>Q (.panic ch) a w''| .outgrown,_=>LetsOut Q)):o.wp P a w K Q:=by
 have hv:a.eval (.func f)=.func (.func f) #[] #[]:=rfl
 unfold Oper.wp Oper.upon
 generalize hρ:a.eval=ρ at h0 h1 hv⊢
 simp[execOp,ho,resolve,invoke,hv,h0,h1,he,Sem.run_bind,Result.andThen,go_sem]
 exact h
end
def AG (m:Nat)(a:Act)(L:List (Nat×Value)):Prop:=(m≤a.tmps.size∧a.defers= [])∧∀q∈L,a.eval (.tmp q.1)=q.2
theorem AG.put {m:Nat}{a:Act}{L:List (Nat×Value)}(h:AG m a L)(d:Nat)(v:Value)(hd:d<m)(hn:L.all (fun q=>q.1 != d)=true):AG m (a.put (some d) v) ((d,v)::L):=by
 have hs:=h.1.1
 refine⟨⟨by simp[Act.put];exact hs,h.1.2⟩,?_⟩
 intro q hq
 rcases List.mem_cons.1 hq with rfl|hq
 ·have hlt:d<a.tmps.size:=by omega
  simp[Act.put,Act.eval,Array.getD,hlt]
 ·rw[Act.eval_put (by have:=List.all_eq_true.1 hn q hq;simp at this;rintro _ ⟨⟩;simp[this])]
  exact h.2 q hq
theorem AG.get {m:Nat}{a:Act}{L:List (Nat×Value)}(h:AG m a L)(i:Nat){k:Nat}{v:Value}(hm:L[i]?=some (k,v)):a.eval (.tmp k)=v:=h.2 (k,v) (List.mem_of_getElem? hm)
section
variable {P:Program}{o:Oper}{a:Act}{w:World}{K:Act→World→Prop}{Q:Exit→Act→World→Prop}
theorem jd {f:Nat}{x0 x1 x2:Operand}{v0 v1 v2:Value}{ts:Array TypeId}(ho:o.op=.call { callee:= .value (.func f),args:= #[x0,x1,x2],argTypes:=ts })(h0:a.eval x0=v0)(h1:a.eval x1=v1)(h2:a.eval x2=v2)(he:∀(vs:Array Value)(w:World),Sem.run P (callFunc f vs) w=.ok (.enter f vs) w)
 (h:Calls P f #[v0,v1,v2] w (fun| .returned v,w''=>K (a.put o.dst v) w''| .panicked ch,w''=>Q (.panic ch) a w''| .outgrown,_=>LetsOut Q)):o.wp P a w K Q:=by
 have hv:a.eval (.func f)=.func (.func f) #[] #[]:=rfl
 unfold Oper.wp Oper.upon
 generalize hρ:a.eval=ρ at h0 h1 h2 hv⊢
 simp[execOp,ho,resolve,invoke,hv,h0,h1,h2,he,Sem.run_bind,Result.andThen,go_sem]
 exact h
end
theorem eZ {P:Program}{md:Region.Mode}{ops:Array Oper}{C:World→Prop}{Q:Exit→Act→World→Prop}{f:Nat}{d:Array Bool}{a:Act}{w:World} (Φ:Act→World→Prop) (Ψ:World→Prop)(ch:List PanicEntry)(fp:∀a w,a.defers= []→Ψ w→Q (.panic ch) a w)(fq:∀c a k v w,Q (.panic c) (Act.put a (some k) v) w→Q (.panic c) a w)(fn:∀a w,Φ a w→Q .normal a w)
 (h:∀Q':Exit→Act→World→Prop,(∀a w,Φ a w→Q' .normal a w)→(∀a w,a.defers= []→Ψ w→Q' (.panic ch) a w)→(∀c a k v w,Q' (.panic c) (Act.put a (some k) v) w→Q' (.panic c) a w)→eY P md ops C Q' f d a w):eY P md ops C Q f d a w:=h Q fn fp fq
theorem AG.getD {m:Nat}{a:Act}{L:List (Nat×Value)}(h:AG m a L)(i:Nat){k:Nat}{v:Value}(hm:L[i]?=some (k,v)):a.tmps[k]?.getD undef=v:=by
 have:=h.get i hm
 simpa [Act.eval] using this
section
variable {P:Program}{ops:Array Oper}{md:Region.Mode}{C:World→Prop}{Q:Exit→Act→World→Prop}
theorem fG {o:Oper}{tmps:Array Value}(g:Nat)(b:Bool)(d:Tmp)(hg:o.guard=some (g,b))(hd:(ops[g]?).bind (·.dst)=some d)(h:tmps[d]?=some (.bool b)):Region.wanted o (yielded ops tmps)=true:=by
 simp[Region.wanted,hg,yielded,hd,h]
theorem ah {o:Oper}{f:Nat→Option Bool}(hg:o.guard=none):Region.wanted o f=true:=by simp[Region.wanted,hg]
theorem AG.at {m:Nat}{a:Act}{L:List (Nat×Value)}(h:AG m a L){k:Nat}(hk:k<m)(i:Nat){v:Value}(hm:L[i]?=some (k,v)):a.tmps[k]?=some v:=by
 have h1:=h.getD i hm
 have hl:k<a.tmps.size:=Nat.lt_of_lt_of_le hk h.1.1
 rw[Array.getElem?_eq_getElem hl] at h1⊢
 simpa using h1
theorem aV {o:Oper}{a:Act}{v:Value}(hw:Region.wanted o (yielded ops a.tmps)=true)(x:Operand)(ho:o.op=.move x)(hx:a.eval x=v):bx P ops C o v a :=
 .inl ⟨hw,fun w _=>by unfold execOp;simp only[ho,hx];rfl⟩
theorem kt {o:Oper}{a:Act}{b:Bool}{x:Operand}(hw:Region.wanted o (yielded ops a.tmps)=true)(ho:o.op=.unOp .not 4 x)(hx:a.eval x=.bool b):bx Tryz.prog ops C o (.bool (!b)) a :=
 .inl ⟨hw,fun w _=>by unfold execOp;generalize a.eval=ρ at hx⊢;simp only[ho,hx];go_simp⟩
theorem qN {o:Oper}{a:Act}{v:Value}{x y z:Operand}(hw:Region.wanted o (yielded ops a.tmps)=true)(ho:o.op=.pick x y z)(hx:a.eval x=.bool true)(hy:a.eval y=v):bx Tryz.prog ops C o v a :=
 .inl ⟨hw,fun w _=>by unfold execOp;generalize a.eval=ρ at hx hy⊢;simp only[ho,hx,hy];go_simp⟩
theorem fm {i:Nat}{o:Oper}{fuel:Nat}{listed:Array Bool}{a:Act}{w:World}(d:Option Tmp)(hr:Region.ready md ops listed= [i])(hi:ops[i]?=some o)(hw:Region.wanted o (yielded ops a.tmps)=true)(hd:o.dst=d)
 (h:∀K:Act→World→Prop,(∀v w',C w'→eY P md ops C Q fuel (listed.setIfInBounds i true) (a.put d v) w'→K (a.put o.dst v) w')→Oper.wp P o a w K Q):eY P md ops C Q (fuel+1) listed a w:=by
 subst hd
 exact DN hr hi hw (h _ (fun v w' hc hA=>⟨hc,hA⟩))
variable {o:Oper}{a:Act}{w:World}{K:Act→World→Prop}
theorem ku {f:Nat}{x0 x1 x2 x3 x4:Operand}{v0 v1 v2 v3 v4:Value}{ts:Array TypeId}(ho:o.op=.call { callee:= .value (.func f),args:= #[x0,x1,x2,x3,x4],argTypes:=ts })(h0:a.eval x0=v0)(h1:a.eval x1=v1)(h2:a.eval x2=v2)(h3:a.eval x3=v3)(h4:a.eval x4=v4)(he:∀(vs:Array Value)(w:World),Sem.run P (callFunc f vs) w=.ok (.enter f vs) w)
 (h:Calls P f #[v0,v1,v2,v3,v4] w (fun| .returned v,w''=>K (a.put o.dst v) w''| .panicked ch,w''=>Q (.panic ch) a w''| .outgrown,_=>LetsOut Q)):o.wp P a w K Q:=by
 have hv:a.eval (.func f)=.func (.func f) #[] #[]:=rfl
 unfold Oper.wp Oper.upon
 generalize hρ:a.eval=ρ at h0 h1 h2 h3 h4 hv⊢
 simp[execOp,ho,resolve,invoke,hv,h0,h1,h2,h3,h4,he,Sem.run_bind,Result.andThen,go_sem]
 exact h
end
section
variable {P:Program}{ops:Array Oper}{md:Region.Mode}{C:World→Prop}{Q:Exit→Act→World→Prop}{o:Oper}{a:Act}{v:Value}
theorem eJ {tmps:Array Value}(g:Nat)(b:Bool)(d:Tmp)(hg:o.guard=some (g,b))(hd:(ops[g]?).bind (·.dst)=some d)(h:tmps[d]?=some (.bool (!b))):Region.wanted o (yielded ops tmps)=false:=by
 cases b<;>simp[Region.wanted,hg,yielded,hd,h]
theorem cY (hw:Region.wanted o (yielded ops a.tmps)=false):bx P ops C o undef a:= .inr ⟨hw,rfl⟩
theorem qO {x y z:Operand}(hw:Region.wanted o (yielded ops a.tmps)=true)(ho:o.op=.pick x y z)(hx:a.eval x=.bool false)(hz:a.eval z=v):bx Tryz.prog ops C o v a :=
 .inl ⟨hw,fun w _=>by unfold execOp;generalize a.eval=ρ at hx hz⊢;simp only[ho,hx,hz];go_simp⟩
theorem mF {x y:Operand}{u z:Int}(hw:Region.wanted o (yielded ops a.tmps)=true)(ho:o.op=.binOp .add 3 x y 3)(hx:a.eval x=.int .i64 u)(hy:a.eval y=.int .i64 z)(t:Int)(hq:IntKind.i64.wrap (u+z)=t):bx Tryz.prog ops C o (.int .i64 t) a :=
 .inl ⟨hw,fun w _=>by unfold execOp;generalize a.eval=ρ at hx hy⊢;simp only[ho,hx,hy];subst hq;go_simp⟩
variable {w:World}{K:Act→World→Prop}
theorem iC {f:Nat}{x0 x1 x2 x3:Operand}{v0 v1 v2 v3:Value}{ts:Array TypeId}(ho:o.op=.call { callee:= .value (.func f),args:= #[x0,x1,x2,x3],argTypes:=ts })(h0:a.eval x0=v0)(h1:a.eval x1=v1)(h2:a.eval x2=v2)(h3:a.eval x3=v3)(he:∀(vs:Array Value)(w:World),Sem.run P (callFunc f vs) w=.ok (.enter f vs) w)
 (h:Calls P f #[v0,v1,v2,v3] w (fun| .returned v,w''=>K (a.put o.dst v) w''| .panicked ch,w''=>Q (.panic ch) a w''| .outgrown,_=>LetsOut Q)):o.wp P a w K Q:=by
 have hv:a.eval (.func f)=.func (.func f) #[] #[]:=rfl
 unfold Oper.wp Oper.upon
 generalize hρ:a.eval=ρ at h0 h1 h2 h3 hv⊢
 simp[execOp,ho,resolve,invoke,hv,h0,h1,h2,h3,he,Sem.run_bind,Result.andThen,go_sem]
 exact h
end
section
variable {P:Program}{ops:Array Oper}{md:Region.Mode}{C:World→Prop}{Q:Exit→Act→World→Prop}
theorem DP {i j:Nat}{oi oj:Oper}{fuel:Nat}{listed:Array Bool}{a:Act}{w:World}(di dj:Option Tmp)(hr:Region.ready md ops listed= [i,j])(hi:ops[i]?=some oi)(hj:ops[j]?=some oj)(wi:Region.wanted oi (yielded ops a.tmps)=true)(wj:Region.wanted oj (yielded ops a.tmps)=true)(hdi:oi.dst=di)(hdj:oj.dst=dj)
 (h1:∀K:Act→World→Prop,(∀v w',C w'→eY P md ops C Q fuel (listed.setIfInBounds i true) (a.put di v) w'→K (a.put oi.dst v) w')→Oper.wp P oi a w K Q)
 (h2:∀K:Act→World→Prop,(∀v w',C w'→eY P md ops C Q fuel (listed.setIfInBounds j true) (a.put dj v) w'→K (a.put oj.dst v) w')→Oper.wp P oj a w K Q):eY P md ops C Q (fuel+1) listed a w:=by
 subst hdi
 subst hdj
 refine⟨fun q=>(by rw[hr] at q;cases q),fun k hk=>?_⟩
 rw[hr] at hk
 rcases List.mem_cons.1 hk with rfl|hk
 ·unfold Go.wpOp
  simp only[hi,wi,if_true]
  exact .inl (h1 _ (fun v w' hc hA=>⟨hc,hA⟩))
 ·obtain rfl:=List.mem_singleton.1 hk
  unfold Go.wpOp
  simp only[hj,wj,if_true]
  exact .inl (h2 _ (fun v w' hc hA=>⟨hc,hA⟩))
theorem gg {o:Oper}{a:Act}{v:Value}(hw:Region.wanted o (yielded ops a.tmps)=true)(x:Operand)(ho:o.op=.assign x)(hx:a.eval x=v):bx P ops C o v a :=
 .inl ⟨hw,fun w _=>by unfold execOp;simp only[ho,hx];rfl⟩
theorem AG.sub {m:Nat}{a:Act}{L L':List (Nat×Value)}(h:AG m a L)(hs:∀q∈L',q∈L):AG m a L':=⟨h.1,fun q hq=>h.2 q (hs q hq)⟩
variable {o:Oper}{a:Act}{w:World}{K:Act→World→Prop}
theorem ro {x:Operand}(ho:o.op=.buildSlice 28 1 #[(0,x)])(z:Int)(hx:a.eval x=.int .i64 z)(h:K (a.put o.dst (.slice (some ⟨w.heap.size,0,none⟩) 1 1)) (w.alloc (.cells #[.int .i64 z] 3))):Oper.wp Tryz.prog o a w K Q:=by
 unfold Oper.wp Oper.upon execOp
 simp only[ho]
 generalize a.eval=ρ at hx⊢
 go_simp
 exact h
theorem zh {base g:Nat}{v:Value}{xs:List Int}(y:Int)(s x:Operand)
 (ho:o.op=.call { callee:= .builtin .append,args:= #[s,x],argTypes:= #[28,28] })
 (hs:a.eval s=v) (hn:Rw base w v xs) (hb:base≤w.heap.size) (hl:xs.length≤1000000)
 (hx:a.eval x=.slice (some ⟨g,0,none⟩) 1 1) (hg:w.heap[g]?=some (.cells #[.int .i64 y] 3 (0,0)))
 (h:∀v' w',Rw base w' v' (xs++ [y])→Turned (fun k=>v.ownBlock=some k) w w'→(∀k,v'.ownBlock=some k→v.ownBlock=some k∨k=w.heap.size)→K (a.put o.dst v') w'):o.wp Tryz.prog a w K Q:=by
 obtain⟨i,i1,i2,i3,i4⟩:=iA
 refine wp_append_lies w s x 28 ho base 3 i _ 1 8 Tryz.underlying28 i1 i2 i3 i4 rfl (by omega) v xs.length _ hs hn ⟨g,0,none⟩ 1 1 [.int .i64 y] hx (by simp)
  (fun j u hu=>World.news_of_block hg j u (by simpa using hu)) (by intro u hu;simp at hu;subst hu;rfl) (by omega) (by simp only[maxLen];omega) (by omega) hb _ rfl ?_
 intro g' cap w1 hown hgrow h4 _
 have ht:Turned (fun k=>v.ownBlock=some k) w w1:=⟨hgrow.os,hgrow.tape,hgrow.output,hgrow.size,fun k hk hne=>hgrow.block k hk (fun e=>hne e.symm)⟩
 refine h _ w1 ?_ ht (fun k q=>?_)
 ·unfold Rw
  rw[List.length_append,List.map_append]
  exact hown
 ·have:k=g':=by simpa [Value.ownBlock,eq_comm] using q
  subst this
  exact h4
end
section
variable {P:Program}{ops:Array Oper}{C:World→Prop}{o:Oper}{a:Act}
theorem cZ (hw:Region.wanted o (yielded ops a.tmps)=true)(ty:TypeId)(x:Operand)(ho:o.op=.load ty x)(g i:Nat)(hx:a.eval x=.pointer (some ⟨g,i,none⟩))(v:Value)(d:TypeDesc)(hu:P.underlying ty=some d)(hd:(match d with| .struct _| .array _ _=>true|_=>false)=false)(hg:∀w,C w→w.cell? ⟨g,i,none⟩=some v):bx P ops C o v a :=
 .inl ⟨hw,fun w hC=>by
  have hl:(loadVar ty ⟨g,i,none⟩).run P w=.ok v w:=jc hu hd (hg w hC)
  unfold execOp
  simp only[ho,hx,Instr.loadAt,Instr.sureAddr,Sem.run_bind,Sem.run_pure,Result.andThen_ok,hl]⟩
end
def I1 (md:Region.Mode)(ops:Array Oper)(listed:Array Bool)(i d m:Nat)(L:List (Nat×Value)):Bool:=Region.noSelect ops && (Region.free md ops listed i && ((Region.ready md ops listed).contains i && (decide (i<ops.size) && (((ops.getD i default).dst==some d) && (decide (d<m) && L.all (fun q=>q.1 != d))))))
section
variable {P:Program}{md:Region.Mode}{ops:Array Oper}{C:World→Prop}{Q:Exit→Act→World→Prop}{fuel:Nat}{listed:Array Bool}{a:Act}{w:World}{m:Nat}{L:List (Nat×Value)}
theorem tqC (i d:Nat)(v:Value)(hB:I1 md ops listed i d m L=true)(hQ:∀c a k v w,Q (.panic c) (Act.put a (some k) v) w→Q (.panic c) a w)(hC:C w)(HF:AG m a L)(hy:bx P ops C (ops.getD i default) v a)
 (h:∀A,Act.put a (some d) v=A→AG m A ((d,v)::L)→eY P md ops C Q fuel (listed.setIfInBounds i true) A w):eY P md ops C Q (fuel+1) listed a w:=by
 unfold I1 at hB
 simp only[Bool.and_eq_true] at hB
 obtain⟨h1,h2,h3,h4,h5,h6,h7⟩:=hB
 have h4:=of_decide_eq_true h4
 have hi:ops[i]?=some (ops.getD i default):=by rw[Array.getElem?_eq_getElem h4];simp[Array.getD,h4]
 exact xD (some d) hi (eq_of_beq h5) h1 h2 h3 (fun c a w=>hQ c a _ _ w) hC hy (h _ rfl (HF.put d v (of_decide_eq_true h6) h7))
theorem tqM (i d k:Nat){s:Nat}{v:Value}(hL:L[k]?=some (s,v))(ho:(ops.getD i default).op=.move (.tmp s)∨(ops.getD i default).op=.assign (.tmp s))(hg:(ops.getD i default).guard=none)(hB:I1 md ops listed i d m L=true)(hQ:∀c a k v w,Q (.panic c) (Act.put a (some k) v) w→Q (.panic c) a w)(hC:C w)(HF:AG m a L)
 (h:∀A,Act.put a (some d) v=A→AG m A ((d,v)::L)→eY P md ops C Q fuel (listed.setIfInBounds i true) A w):eY P md ops C Q (fuel+1) listed a w :=
 tqC i d v hB hQ hC HF (by
  rcases ho with ho|ho
  ·exact aV (ah hg) _ ho (HF.get k hL)
  ·exact gg (ah hg) _ ho (HF.get k hL)) h
def J5 (md:Region.Mode)(ops:Array Oper)(listed:Array Bool)(i d m:Nat)(L:List (Nat×Value)):Bool:=(Region.ready md ops listed== [i]) && (decide (i<ops.size) && ((ops.getD i default).guard.isNone && (((ops.getD i default).dst==some d) && (decide (d<m) && L.all (fun q=>q.1 != d)))))
theorem tqO (i d:Nat)(hB:J5 md ops listed i d m L=true)(HF:AG m a L)
 (h:∀K:Act→World→Prop,(∀v w',C w'→(∀A,Act.put a (some d) v=A→AG m A ((d,v)::L)→eY P md ops C Q fuel (listed.setIfInBounds i true) A w')→K (a.put (ops.getD i default).dst v) w')→Oper.wp P (ops.getD i default) a w K Q):eY P md ops C Q (fuel+1) listed a w:=by
 unfold J5 at hB
 simp only[Bool.and_eq_true] at hB
 obtain⟨h1,h2,h3,h5,h6,h7⟩:=hB
 have h4:=of_decide_eq_true h2
 have hi:ops[i]?=some (ops.getD i default):=by rw[Array.getElem?_eq_getElem h4];simp[Array.getD,h4]
 exact fm (some d) (eq_of_beq h1) hi (ah (Option.isNone_iff_eq_none.1 h3)) (eq_of_beq h5) fun K hK=>h K fun v w' hc hA=>hK v w' hc (hA _ rfl (HF.put d v (of_decide_eq_true h6) h7))
end
abbrev pts (A:Act)(l:List (Nat×Value)):Act:=l.foldl (fun a q=>a.put (some q.1) q.2) A
theorem J6 {c:Cfg}(R:c.Ok)(w:World):Calls Tryz.prog 9 #[.agg c.cells] w (aF w (.tuple #[.agg c.arr,.int .i64 0])):=Dh c.wk c.cp c.pg c.st c.tr c.wt c.ck c.pr c.ca c.bi c.ba w R
theorem uK {c:Cfg}(R:c.Ok)(w:World):Calls Tryz.prog 25 #[.agg c.cells] w (aF w (.int .i64 c.words)):=nL c.wk c.cp c.pg c.st c.tr c.wt c.ck c.pr c.ca c.bi c.ba w R
theorem AV (c:Cfg)(W:World):(Instr.build 27 #[(0,.agg c.cells)]).run Tryz.prog W=.ok (.agg c.cells) W:=run_build W _ _ _ (by kernel_rfl)
theorem je (c:Cfg):c.cells.all (·.oneCell')=true:=by simp[Cfg.cells,Value.oneCell']
theorem zi (c:Cfg):c.arr.all (·.oneCell')=true:=lS ..
theorem pF {ops:Array Oper}{rest:List Oper}{o:Oper}{a:Act}{w:World}{Q:Exit→Act→World→Prop}(hw:Region.wanted o (yielded ops a.tmps)=true)(x:Operand)(ho:o.op=.build 27 #[(0,x)])(c:Cfg)
 (hx:a.eval x=.agg c.cells) (h:wpList Tryz.prog ops Q rest (a.put o.dst (.agg c.cells)) w):wpList Tryz.prog ops Q (o::rest) a w :=
 eI hw fun K hK=>by
  have hb:=AV c w
  unfold Oper.wp execOp
  simp only[ho,List.map_toArray,List.map_cons,List.map_nil,hx,Sem.run_bind,hb,Result.andThen_ok]
  exact hK _ _ h
section
variable {P:Program}{o:Oper}{a:Act}{w:World}{K:Act→World→Prop}{Q:Exit→Act→World→Prop}
end
abbrev DQ:Array Value:= #[.int .i64 0,.int .i64 0,.int .i64 0,.int .i64 0,.int .i64 0,.int .i64 0,.int .i64 0,.int .i64 0,.int .i64 0,.int .i64 0,.int .i64 0,.int .i64 0,.int .i64 0,.int .i64 0,.int .i64 0,.int .i64 0,.int .i64 0,.int .i64 0,.int .i64 0,.int .i64 0,.int .i64 0,.int .i64 0,.int .i64 0,.int .i64 0]
def b2i (b:Bool):Int:=if b then 1 else 0
def mG (pg st x y:Int)(ws:List Int):Bool:=if aZ pg x y then mE pg st (spanV x y) (x / 4) ws else false
def co (pg st x y:Int)(ws:List Int):Int×List Int:=if aZ pg x y then iT pg st (spanV x y) (x / 4) 0 ws else(0,ws)
def eD (pg st:Int)(ws:List Int):Int:=jE pg st (aD pg).toNat 0 0 ws
section
variable {pg st:Int}{n:Nat}(H:TblIn pg st n)
include H
theorem oH (x y:Int):fX n (fun _=>True) (gJ pg st x y):=by
 unfold gJ;split
 ·exact sP H _ _
 ·exact cH n trivial
theorem uL (x y:Int):bO n (gJ pg st x y) (fun ws=>(mG pg st x y ws,ws)):=by
 unfold gJ mG;split
 ·exact sS H _ _
 ·exact az n false
theorem uM (x y:Int):bO n (sO pg st x y) (co pg st x y):=by
 unfold sO
 split
 ·rename_i h
  exact bg (sT H _ _ 0) (fun ws _=>by unfold co;rw[if_pos h])
 ·rename_i h
  exact bg (az n 0) (fun ws _=>by unfold co;rw[if_neg h])
end
theorem sX {ops:Array Oper}{rest:List Oper}{o:Oper}{act:Act}{Q:Exit→Act→World→Prop}{w:World}{a:Option Addr}{cap:Nat}{zs:List Int}(hgd:o.guard=none)(s x:Operand)
 (ho:o.op=.call { callee:= .builtin .append,args:= #[s,x],argTypes:= #[28,28] })
 (hs:act.eval s=.slice (some ⟨w.heap.size,0,none⟩) 0 0) (hx:act.eval x=.slice a zs.length cap) (hz:ig w a zs) (hl:zs.length≤1000000)
 (h:∀a' cap' w',RowAt w' 3 (zs.map (Value.int .i64)) a' cap'→(∀k,fx a' k→w.heap.size≤k)→ae w w'→wpList Tryz.prog ops Q rest (act.put o.dst (.slice a' zs.length cap')) w'):
 wpList Tryz.prog ops Q (o::rest) act (w.alloc (.cells #[] 3)):=by
 obtain⟨i,i1,i2,i3,i4⟩:=iA
 have M0:ae w (w.alloc (.cells #[] 3)):=(ae.refl w).alloc _
 have hown:(w.alloc (.cells #[] 3)).ownsRow w.heap.size 3 1 (.slice (some ⟨w.heap.size,0,none⟩) 0 0) 0 []:=World.ownsRow_made w #[] 0 (Nat.le_refl _) (by simp only[maxLen];omega) rfl
 have many:∀(ad:Addr),a=some ad→(∀j u,(zs.map (Value.int .i64))[j]?=some u→(w.alloc (.cells #[] 3)).cell? (ad.add j)=some u)→wpList Tryz.prog ops Q (o::rest) act (w.alloc (.cells #[] 3)):=by
  intro ad e hc
  subst e
  refine wpList_append_own _ hgd s x 28 ho w.heap.size 3 i _ 1 8 Tryz.underlying28 i1 i2 i3 i4 rfl (by omega) _ 0 [] hs hown ad zs.length cap (zs.map (Value.int .i64)) hx (by simp) hc
   (by intro u hu;obtain⟨z,_,rfl⟩:=List.mem_map.1 hu;rfl) (by simp only[maxLen];omega) (by omega) (by simp) ?_
  intro v' w' h1 h2 _
  rw[Nat.zero_add,List.nil_append] at h1
  obtain⟨a',cap',rfl,hr,hn,_⟩:=RowAt.of_own h1
  exact h a' cap' w' hr hn (lF M0 hown h2)
 cases a with
 |none =>
  obtain rfl:zs= []:=by
   rcases hz with q|⟨_,_,q,_⟩
   ·exact q
   ·cases q
  refine wpList_plain hgd fun K hK=>?_
  have hr:=run_append_room_src (P:=Tryz.prog) (w.alloc (.cells #[] 3)) 28 28 o.type 3 i Tryz.underlying28 i1 w.heap.size 0 0 0 (.slice none 0 cap) 0 [] (Src.ofNil _ Tryz.underlying28 cap) (Nat.le_refl _) (fun j hj=>by simp at hj) (fun j hj=>by simp at hj)
  unfold Oper.wp
  simp[execOp,ho,resolve,invoke,builtin,hs,hx,hr,Result.andThen]
  refine hK _ _ (h (some ⟨w.heap.size,0,none⟩) 0 _ ?_ (fun k hk=>by cases hk;exact Nat.le_refl _) M0)
  exact .inr ⟨w.heap.size,#[],rfl,bm w _,by simp,by simp only[maxLen];omega,rfl,rfl⟩
 |some ad =>
  by_cases h0:zs= []
  ·subst h0
   exact many ad rfl (fun j u hj=>by simp at hj)
  ·obtain⟨g,off,e,hg,hc⟩:=hz.resolve_left h0
   cases e
   refine many _ rfl (fun j u hj=>?_)
   rw[List.getElem?_map] at hj
   by_cases q:j<zs.length
   ·rw[List.getElem?_eq_getElem q] at hj
    have hu:u=.int .i64 zs[j]:=by simpa using hj.symm
    rw[hu,Addr.add_lit]
    have:=M0.cell (hc j q)
    simpa [List.getD,q] using this
   ·rw[List.getElem?_eq_none (by omega)] at hj;cases hj
theorem en1 (w:World)(o0:Obj):∃w1,w.alloc o0=w1∧w1.heap[w.heap.size]?=some o0∧ae w w1∧w1.heap.size=w.heap.size+1:=⟨_,rfl,bm w o0,(ae.refl _).alloc _,by simp⟩
theorem en2 (w:World)(o0 o1:Obj):∃w2,(w.alloc o0).alloc o1=w2∧w2.heap[w.heap.size]?=some o0∧w2.heap[w.heap.size+1]?=some o1∧ae w w2∧w2.heap.size=w.heap.size+2:=by
 obtain⟨w1,e1,h0,m0,s0⟩:=en1 w o0
 rw[e1]
 obtain⟨w2,e2,h1,m1,s1⟩:=en1 w1 o1
 rw[s0] at h1
 exact⟨w2,e2,m1.block h0,h1,m0.trans m1,by omega⟩
def Rd (w:World)(v:Value)(xs:List Int):Prop :=
 ∃a cap,v=.slice a xs.length cap∧xs.length≤cap∧cap≤maxLen∧((a=none∧cap=0)∨∃g cur,a=some ⟨g,0,none⟩∧w.heap[g]?=some (.cells cur 3 (0,0))∧cap≤cur.size∧cur.toList.take xs.length=xs.map (Value.int .i64))
namespace Rd
variable {w w':World}{v:Value}{xs:List Int}
theorem nil (w:World):Rd w (.slice none 0 0) []:=⟨none,0,rfl,Nat.le_refl _,Nat.zero_le _,.inl ⟨rfl,rfl⟩⟩
theorem keep (h:Rd w v xs){S:Nat→Prop}(t:Turned S w w')(hs:∀k,S k→∃cs T fr,w.heap[k]?=some (.cells cs T fr)∧T≠3):Rd w' v xs:=by
 obtain⟨a,cap,hv,h1,h2,q⟩:=h
 refine⟨a,cap,hv,h1,h2,q.imp id ?_⟩
 rintro⟨g,cur,rfl,hg,r⟩
 refine⟨g,cur,rfl,?_,r⟩
 rw[t.block g (ac hg) (fun q=>by
  obtain⟨cs,T,fr,e,hne⟩:=hs g q
  rw[hg] at e;cases e;exact hne rfl)]
 exact hg
theorem more (h:Rd w v xs)(m:ae w w'):Rd w' v xs:=h.keep m (fun _ q=>q.elim)
theorem of_rw {base:Nat}(h:Rw base w v xs):Rd w v xs:=by
 rcases h.2 with⟨rfl,h0⟩|⟨g,cap,cur,rfl,_,hg,h1,h2,hs,ht⟩
 ·have:xs= []:=List.length_eq_zero_iff.1 h0
  subst this;exact nil w
 ·exact⟨_,cap,rfl,h1,h2,.inr ⟨g,cur,rfl,hg,by omega,by simpa using ht⟩⟩
theorem one (h:Rd w v xs):v.oneCell'=true:=by obtain⟨a,cap,rfl,_⟩:=h;rfl
theorem news (h:Rd w v xs):∃a cap,v=.slice a xs.length cap∧∀p,a=some p→∀j u,(xs.map (Value.int .i64))[j]?=some u→w.cell? (p.add j)=some u:=by
 obtain⟨a,cap,rfl,h1,h2,q⟩:=h
 refine⟨a,cap,rfl,fun p hp j u hj=>?_⟩
 rcases q with⟨rfl,rfl⟩|⟨g,cur,rfl,hg,hc,ht⟩
 ·cases hp
 ·cases hp
  rw[eV]
  have hj':=(List.getElem?_eq_some_iff.1 hj).1
  simp at hj'
  rw[←ht,List.getElem?_take,if_pos hj'] at hj
  simp[World.cell?,hg]
  simpa using hj
theorem cell (h:Rd w v xs):∃a cap,v=.slice a xs.length cap∧xs.length≤cap∧∀k,k<xs.length→∃g,a=some ⟨g,0,none⟩∧w.cell? ⟨g,k,none⟩=some (.int .i64 (xs.getD k 0)):=by
 obtain⟨a,cap,hv,h1,h2,q⟩:=h
 refine⟨a,cap,hv,h1,fun k hk=>?_⟩
 rcases q with⟨rfl,rfl⟩|⟨g,cur,rfl,hg,hc,ht⟩
 ·omega
 ·refine⟨g,rfl,?_⟩
  have e:(cur.toList.take xs.length)[k]?=some (.int .i64 (xs.getD k 0)):=by rw[ht];simp[List.getElem?_eq_getElem hk]
  rw[List.getElem?_take,if_pos hk] at e
  simp[World.cell?,hg]
  simpa using e
theorem first (h:Rd w v xs){n:Nat}(hn:n≤xs.length):∃a,(∃cap,v=.slice a xs.length cap∧n≤cap∧(a=none→cap=0))∧Rd w (.slice a n n) (xs.take n):=by
 obtain⟨a,cap,rfl,h1,h2,q⟩:=h
 have hl:(xs.take n).length=n:=by simp;omega
 refine⟨a,⟨cap,rfl,by omega,?_⟩,a,n,by rw[hl],by omega,by omega,?_⟩
 ·rintro rfl
  rcases q with q|⟨g,cur,e,_⟩
  ·exact q.2
  ·cases e
 ·rcases q with⟨rfl,rfl⟩|⟨g,cur,rfl,hg,hc,ht⟩
  ·exact .inl ⟨rfl,by omega⟩
  ·refine .inr ⟨g,cur,rfl,hg,by omega,?_⟩
   rw[hl,List.map_take,←ht,List.take_take,Nat.min_eq_left hn]
end Rd
def gT (c:Int):Bool:=decide (0≤c) && decide (c<5)
theorem pG {c:Int}(h:gT c=true):∃k:Nat,c=k∧k<5:=by
 simp[gT] at h
 exact⟨c.toNat,by omega,by omega⟩
theorem zj {k:Nat}(h:k<5):gT k=true:=by simp[gT];omega
def xE (P:Nat→List Int)(c:Int):Int:=if gT c then(P c.toNat).length else 0
def en (pg st:Int)(ws:List Int):Nat→Int
 | 0=>0
 |p+1=>en pg st ws p+if aG pg st ws ((p:Int) / 4) then 1 else 0
theorem AX (pg st:Int)(ws:List Int)(k j:Nat)(hj:j≤4):en pg st ws (4 * k+j)=en pg st ws (4 * k)+if aG pg st ws (k:Int) then(j:Int) else 0:=by
 induction j with
 |zero=>simp
 |succ j ih =>
  have hq:(((4 * k+j:Nat):Int)) / 4=(k:Int):=by omega
  show en pg st ws (4 * k+j)+(if aG pg st ws (((4 * k+j:Nat):Int) / 4) then 1 else 0)=_
  rw[ih (by omega),hq]
  split<;>omega
theorem sY (pg st:Int)(ws:List Int)(hp:1≤pg)(m:Nat):∀(k:Nat) (s:Int),((k+m:Nat):Int)=aD pg→s=en pg st ws (min (4 * k) pg.toNat)→jE pg st m (k:Int) s ws=en pg st ws pg.toNat:=by
 induction m with
 |zero =>
  intro k s hk hs
  unfold aD at hk
  rw[show min (4 * k) pg.toNat=pg.toNat by omega] at hs
  exact hs
 |succ m ih =>
  intro k s hk hs
  have hc:aU pg (k:Int)=true:=bT.2 ⟨by omega,by omega⟩
  have hlt:4 * (k:Int)<pg:=by unfold aD at hk;omega
  show jE pg st m ((k:Int)+1) _ ws=_
  have:=ih (k+1) (s+if aG pg st ws (k:Int) then dv pg (k:Int) else 0) (by omega) ?_
  ·rw[show(((k+1:Nat)):Int)=(k:Int)+1 by omega] at this
   exact this
  ·rw[hs,show min (4 * k) pg.toNat=4 * k by omega]
   have hz:dv pg (k:Int)=((min 4 (pg.toNat-4 * k):Nat):Int):=by unfold dv;rw[if_pos hc];omega
   rw[show min (4 * (k+1)) pg.toNat=4 * k+min 4 (pg.toNat-4 * k) by omega,AX pg st ws k _ (by omega),hz]
theorem oI (pg st:Int)(ws:List Int)(hp:1≤pg):en pg st ws pg.toNat=eD pg st ws:=by
 have h:0≤aD pg:=by unfold aD;omega
 have:=sY pg st ws hp (aD pg).toNat 0 0 (by omega) (by simp[en])
 unfold eD
 exact this.symm
theorem uN (pg st:Int)(ws:List Int)(p:Nat):0≤en pg st ws p∧en pg st ws p≤p:=by
 induction p with
 |zero=>simp[en]
 |succ p ih=>unfold en;split<;>omega
structure oT (ws ws':List Int)(S:Int→Prop):Prop where
 len:ws'.length=ws.length
 eq:∀i:Int,0≤i→(S i→wAt ws' i=1)∧(¬S i→wAt ws' i=wAt ws i)
theorem oT.uniq {ws a b:List Int}{S T:Int→Prop}(h:oT ws a S)(g:oT ws b T)(e:∀i,S i↔T i):a=b :=
 ik (h.len.trans g.len.symm) (fun i h0 _=>by
  by_cases q:S i
  ·rw[(h.eq i h0).1 q,(g.eq i h0).1 ((e i).1 q)]
  ·rw[(h.eq i h0).2 q,(g.eq i h0).2 (fun r=>q ((e i).2 r))])
theorem nO (ws:List Int)(S:Int→Prop)(h:∀i,¬S i):oT ws ws S:=⟨rfl,fun i _=>⟨fun q=>absurd q (h i),fun _=>rfl⟩⟩
theorem rp {pg st:Int}{n:Nat}(H:TblIn pg st n){ws a:List Int}{S:Int→Prop}(h:oT ws a S)(hn:ws.length=n){k:Int}(hk:aU pg k=true):oT ws (fF pg st k 1 a).2 (fun i=>S i∨i=cI pg st k):=by
 obtain⟨t0,t1,t2⟩:=jZ H hk
 have hv:∀i:Int,0≤i→wAt (fF pg st k 1 a).2 i=if i=cI pg st k then 1 else wAt a i:=fun i h0=>by
  unfold fF
  rw[if_pos hk]
  split
  ·rename_i q
   have:wAt a (cI pg st k)=1:=by
    unfold aG at q;rw[hk] at q;simpa using q
   split
   ·rename_i e;rw[e];exact this
   ·rfl
  ·rw[show(dv pg k,a.set (cI pg st k).toNat 1).2=a.set (cI pg st k).toNat 1 from rfl,bL (by omega) h0 (by rw[h.len,hn];exact t1)]
 refine⟨by rw[uB];exact h.len,fun i h0=>⟨fun q=>?_,fun q=>?_⟩⟩
 ·rw[hv i h0]
  split
  ·rfl
  ·rename_i e;exact(h.eq i h0).1 (q.resolve_right e)
 ·rw[hv i h0,if_neg (fun e=>q (.inr e))]
  exact(h.eq i h0).2 (fun r=>q (.inl r))
theorem oJ {pg st:Int}{n:Nat}(H:TblIn pg st n)(m:Nat):∀(k s:Int) (ws a:List Int) (S:Int→Prop),ws.length=n→oT ws a S→(∀i:Nat,i<m→aU pg (k+i)=true)→oT ws (iT pg st m k s a).2 (fun i=>S i∨∃j:Nat,j<m∧i=cI pg st (k+j)):=by
 induction m with
 |zero =>
  intro k s ws a S hn h hc
  exact⟨h.len,fun i h0=>⟨fun q=>by rcases q with q|⟨j,hj,_⟩;exact(h.eq i h0).1 q;omega,fun q=>(h.eq i h0).2 (fun r=>q (.inl r))⟩⟩
 |succ m ih =>
  intro k s ws a S hn h hc
  have h1:=rp H h hn (by simpa using hc 0 (by omega))
  have h2:=ih (k+1) (s+(fF pg st k 1 a).1) ws _ _ hn h1 (fun i hi=>by have:=hc (i+1) (by omega);rwa [show k+((i+1:Nat):Int)=k+1+(i:Int) by omega] at this)
  refine⟨h2.len,fun i h0=>?_⟩
  have e:(S i∨∃j:Nat,j<m+1∧i=cI pg st (k+j))↔((S i∨i=cI pg st k)∨∃j:Nat,j<m∧i=cI pg st (k+1+j)):=by
   constructor
   ·rintro(q|⟨j,hj,q⟩)
    ·exact .inl (.inl q)
    ·cases j with
     |zero=>exact .inl (.inr (by simpa using q))
     |succ j=>exact .inr ⟨j,by omega,by rw[q];congr 1;omega⟩
   ·rintro((q|q)|⟨j,hj,q⟩)
    ·exact .inl q
    ·exact .inr ⟨0,by omega,by simpa using q⟩
    ·exact .inr ⟨j+1,by omega,by rw[q];congr 1;omega⟩
  exact⟨fun q=>(h2.eq i h0).1 (e.1 q),fun q=>(h2.eq i h0).2 (fun r=>q (e.2 r))⟩
theorem xF {pg st x y:Int}{n:Nat}(H:TblIn pg st n){ws a:List Int}(hn:ws.length=n)(h:aZ pg x y=true)(ha:oT ws a (fun i=>∃q:Int,x≤q∧q<x+y∧i=cI pg st (q / 4))):a=(co pg st x y ws).2:=by
 obtain⟨s1,s2⟩:=xt h H.pg2
 obtain⟨q0,q1,q2⟩:=bo.1 h
 have h2:=oJ H (spanV x y) (x / 4) 0 ws ws (fun _=>False) hn (nO ws _ (fun _ q=>q)) (fun i hi=>o9 h i hi)
 unfold co
 rw[if_pos h]
 refine ha.uniq h2 (fun i=>⟨?_,?_⟩)
 ·rintro⟨q,h0,h1,rfl⟩
  exact .inr ⟨(q / 4-x / 4).toNat,by omega,by congr 1;omega⟩
 ·rintro(q|⟨j,hj,rfl⟩)
  ·exact q.elim
  ·exact⟨max x (4 * (x / 4+(j:Int))),by omega,by omega,by congr 1;omega⟩
theorem xG {pg st:Int}{n:Nat}(H:TblIn pg st n){ws:List Int}(hn:ws.length=n){k j:Int}(x:Int)(hk:aU pg k=true)(hj:aU pg j=true):aG pg st (ws.set (cI pg st k).toNat x) j=if j=k then decide (x=1) else aG pg st ws j:=by
 obtain⟨t0,t1,t2⟩:=jZ H hk
 obtain⟨u0,u1,u2⟩:=jZ H hj
 unfold aG
 rw[hj,bL (by omega) (by omega) (by rw[hn];exact t1)]
 by_cases e:j=k
 ·subst e;simp
 ·have:cI pg st j≠cI pg st k:=by rw[i7 hj,i7 hk];omega
  rw[if_neg this,if_neg e]
theorem xH {pg st:Int}{n:Nat}(H:TblIn pg st n){ws:List Int}(hn:ws.length=n){k:Int}(x:Int)(hk:aU pg k=true)(m:Nat):∀(j:Nat) (s d:Int),((j+m:Nat):Int)≤aD pg →
 jE pg st m (j:Int) (s+d) (ws.set (cI pg st k).toNat x)=jE pg st m (j:Int) s ws+d+(if(j:Int)≤k∧k<(j:Int)+(m:Int) then((if decide (x=1) then dv pg k else 0)-(if aG pg st ws k then dv pg k else 0)) else 0):=by
 induction m with
 |zero=>intro j s d hj;rw[if_neg (by omega)];simp[jE]
 |succ m ih =>
  intro j s d hj
  have hc:aU pg (j:Int)=true:=bT.2 ⟨by omega,by omega⟩
  show jE pg st m ((j:Int)+1) (s+d+(if aG pg st (ws.set (cI pg st k).toNat x) (j:Int) then dv pg (j:Int) else 0)) (ws.set (cI pg st k).toNat x)=jE pg st m ((j:Int)+1) (s+(if aG pg st ws (j:Int) then dv pg (j:Int) else 0)) ws+d+(if(j:Int)≤k∧k<(j:Int)+((m+1:Nat):Int) then((if decide (x=1) then dv pg k else 0)-(if aG pg st ws k then dv pg k else 0)) else 0)
  rw[xG H hn x hk hc]
  have hI:=fun s d=>ih (j+1) s d (by omega)
  rw[show(((j+1:Nat)):Int)=(j:Int)+1 by omega] at hI
  by_cases e:(j:Int)=k
  ·have hneg:¬((j:Int)+1≤k∧k<(j:Int)+1+(m:Int)):=by omega
   have hpos:(j:Int)≤k∧k<(j:Int)+((m+1:Nat):Int):=by omega
   rw[if_pos e,if_pos hpos]
   rw[show s+d+(if decide (x=1)=true then dv pg (j:Int) else 0)=(s+if aG pg st ws (j:Int)=true then dv pg (j:Int) else 0)+(d+(if decide (x=1)=true then dv pg (j:Int) else 0)-(if aG pg st ws (j:Int)=true then dv pg (j:Int) else 0)) by omega,hI]
   rw[if_neg hneg,←e]
   omega
  ·rw[if_neg e]
   rw[show s+d+(if aG pg st ws (j:Int)=true then dv pg (j:Int) else 0)=(s+if aG pg st ws (j:Int)=true then dv pg (j:Int) else 0)+d by omega,hI]
   by_cases q:(j:Int)+1≤k∧k<(j:Int)+1+(m:Int)
   ·have hpos:(j:Int)≤k∧k<(j:Int)+((m+1:Nat):Int):=by omega
    rw[if_pos q,if_pos hpos]
   ·have hneg:¬((j:Int)≤k∧k<(j:Int)+((m+1:Nat):Int)):=by omega
    rw[if_neg q,if_neg hneg]
theorem AY {pg st:Int}{n:Nat}(H:TblIn pg st n){ws:List Int}(hn:ws.length=n){k:Int}(x:Int)(hk:aU pg k=true):
 eD pg st (ws.set (cI pg st k).toNat x)=eD pg st ws+((if decide (x=1) then dv pg k else 0)-(if aG pg st ws k then dv pg k else 0)):=by
 obtain⟨h0,h1⟩:=bT.1 hk
 have hpos:((0:Nat):Int)≤k∧k<((0:Nat):Int)+((aD pg).toNat:Int):=by omega
 have:=xH H hn x hk (aD pg).toNat 0 0 0 (by omega)
 rw[if_pos hpos] at this
 unfold eD
 simpa using this
theorem DS {pg st:Int}{n:Nat}(H:TblIn pg st n){ws:List Int}(hn:ws.length=n)(k:Int):eD pg st (fF pg st k 1 ws).2=eD pg st ws+(fF pg st k 1 ws).1:=by
 unfold fF
 split
 ·rename_i hk
  split
  ·simp
  ·rename_i q
   show eD pg st (ws.set (cI pg st k).toNat 1)=eD pg st ws+dv pg k
   rw[AY H hn 1 hk]
   have:aG pg st ws k=false:=by simpa using q
   rw[this];simp
 ·simp
theorem qQ {pg st:Int}{n:Nat}(H:TblIn pg st n)(m:Nat):∀(k s:Int) (ws:List Int),ws.length=n→eD pg st (iT pg st m k s ws).2=eD pg st ws+((iT pg st m k s ws).1-s):=by
 induction m with
 |zero=>intro k s ws hn;simp[iT]
 |succ m ih =>
  intro k s ws hn
  unfold iT
  rw[ih _ _ _ (by rw[uB];exact hn),DS H hn]
  omega
theorem sZ {pg st:Int}{n:Nat}(H:TblIn pg st n)(x y:Int)(ws:List Int)(hn:ws.length=n):eD pg st (co pg st x y ws).2=eD pg st ws+(co pg st x y ws).1:=by
 unfold co
 split
 ·rw[qQ H _ _ _ _ hn];omega
 ·simp
theorem zk {pg st:Int}(ws:List Int)(h1:1≤pg)(h2:pg≤256):0≤eD pg st ws∧eD pg st ws≤256:=by
 rw[←oI pg st ws h1]
 have:=uN pg st ws pg.toNat
 omega
theorem kv (k:Nat)(hk:k≤1000000)(w:World):
 (Instr.makeSlice 28 (.int .i64 (k:Int)) (.int .i64 (k:Int))).run Tryz.prog w=.ok (.slice (some ⟨w.heap.size,0,none⟩) k k) (w.alloc (.cells (iQ (bQ k)) 3)):=by
 obtain⟨i,hi,hz,hs,hb⟩:=iA
 have:=run_make (P:=Tryz.prog) w 28 3 i (.int .i64 0) Tryz.underlying28 hi hz .i64 .i64 k k (by omega) (by omega) (by rw[hb];omega) (by omega)
 rw[this]
 simp only[Int.toNat_natCast,hs,Nat.mul_one]
 have e:madeCells (Value.int .i64 0).cells k=iQ (bQ k):=by
  apply Array.ext
  ·simp[size_madeCells,iQ,bQ]
  ·intro j h1 h2
   simp[madeCells,iQ,bQ,Value.cells,Nat.mod_one]
 rw[e]
def af (pg p:Int):Bool:=decide (0≤p) && decide (p<pg)
theorem ag {pg p:Int} :af pg p=true↔0≤p∧p<pg:=by simp[af]
theorem lX {pg p:Int} :af pg p=false↔¬(0≤p∧p<pg):=by
 cases h:af pg p with
 |true=>simp[ag.1 h]
 |false=>simp only[true_iff];intro q;rw[ag.2 q] at h;cases h
def kA (pg st p:Int):Int:=aN st+aD pg+p
def cA (pg st p:Int):Int:=aN st+aD pg+pg+p
def bA (pg st p:Int):Int:=aN st+aD pg+2 * pg+p
theorem pH {pg st p:Int}(h:af pg p=true):cN pg st 0 p=kA pg st p:=by unfold cN kA;rw[if_pos (ag.1 h)];omega
theorem pI {pg st p:Int}(h:af pg p=true):cN pg st 1 p=cA pg st p:=by unfold cN cA;rw[if_pos (ag.1 h)];omega
theorem pJ {pg st p:Int}(h:af pg p=true):cN pg st 2 p=bA pg st p:=by unfold cN bA;rw[if_pos (ag.1 h)]
theorem Iz {pg st i p:Int}(h:af pg p=false):cN pg st i p=0:=by unfold cN;rw[if_neg (lX.1 h)]
def fK (pg st p:Int):Prg Int:=if af pg p then dJ (kA pg st p) else aK (-1)
def DT (pg st p k x:Int):Prg Unit:=aJ (eL (kA pg st p) k) fun _=>aJ (eL (cA pg st p) x) fun _=>eL (bA pg st p) 0
def DU (pg st:Int):Nat→Int→Prg Bool
 | 0,_=>aK true
 |m+1,q=>aJ (fK pg st q) (fun k=>if k=0 then DU pg st m (q+1) else aK false)
def DV (pg st p n:Int):Prg Bool:=if aZ pg p n then DU pg st n.toNat p else aK false
def zm (pg st k:Int):Nat→Int→Prg Unit
 | 0,_=>aK ()
 |m+1,q=>aJ (DT pg st q k 0) fun _=>zm pg st k m (q+1)
def lz (k:Int):Bool:=decide (1≤k) && decide (k≤5)
theorem ta {k:Int} :lz k=true↔1≤k∧k≤5:=by simp[lz]
def qR (k n:Int):Bool:=decide (k=6) ||(lz k && decide (n=1))
theorem mH {k n:Int} :qR k n=true↔k=6∨(1≤k∧k≤5∧n=1):=by simp[qR,lz,and_assoc]
def td (pg st p n k:Int):Prg Bool:=if qR k n then aJ (DV pg st p n) (fun b=>if b then aJ (sO pg st p n) (fun _=>aJ (DT pg st p k (if k=6 then n else 0)) (fun _=>aJ (zm pg st 7 (n-1).toNat (p+1)) (fun _=>aK true))) else aK false) else aK false
def DW (pg st p:Int):Prg Int:=aJ (fK pg st p) (fun k=>if lz k then aK 1 else if k=6 then aJ (dJ (cA pg st p)) (fun x=>aK (max 1 (min x (pg-p)))) else aK 0)
def DX (pg st p:Int):Prg Int:=aJ (DW pg st p) (fun n=>aJ (zm pg st 0 n.toNat p) (fun _=>aK n))
def xI (pg st q:Int):Prg Bool:=aJ (fK pg st q) (fun k=>aK (decide (k=0)))
def DY (pg st q:Int):Prg Bool:=aJ (dK pg st (ofV q)) (fun b=>if b then xI pg st q else aK false)
def xJ (f:Int→Prg Bool):Nat→Int→Prg (Option Int)
 | 0,_=>aK none
 |m+1,q=>aJ (f q) (fun b=>if b then xJ f m (q+1) else aK (some q))
def xK (f:Int→Prg Bool)(pg n step:Int):Nat→Int→Prg Int
 | 0,_=>aK (-1)
 |m+1,p=>if p≤pg-n then aJ (xJ f n.toNat p) (fun r=>match r with|none=>aK p|some q=>xK f pg n step m ((q / step+1) * step)) else aK (-1)
def zo (f:Int→Prg Bool)(pg n step:Int):Prg Int:=xK f pg n step (pg.toNat+1) 0
def xL (pg st n step:Int):Prg Int:=if 1≤n∧1≤step then aJ (zo (DY pg st) pg n step) (fun p=>if p= -1 then zo (xI pg st) pg n step else aK p) else aK (-1)
theorem xM (pg st p:Int):eG (fK pg st p):=fR (iu _) (ci _)
structure PgIn (pg st:Int)(n:Nat):Prop extends TblIn pg st n where
 top5:aN st+aD pg+5 * pg≤n
theorem kw {α:Type}{n:Nat}{Q:α→Prop}{c:Prop} [Decidable c] {p q:Prg α}(h1:c→fX n Q p)(h2:¬c→fX n Q q):fX n Q (if c then p else q):=by
 split
 ·rename_i h;exact h1 h
 ·rename_i h;exact h2 h
section
variable {pg st:Int}{n:Nat}(H:PgIn pg st n)
include H
theorem cG {p:Int}(h:af pg p=true):(4≤kA pg st p∧kA pg st p<n∧W64 (kA pg st p))∧(4≤cA pg st p∧cA pg st p<n∧W64 (cA pg st p))∧(4≤bA pg st p∧bA pg st p<n∧W64 (bA pg st p)):=by
 have h0:=ag.1 h
 have h1:=H.st1;have h2:=H.st2;have h3:=H.top5;have h4:=H.pg1;have h5:=H.pg2
 unfold kA cA bA W64
 unfold aD aN at *
 omega
theorem rq (p:Int):fX n W64 (fK pg st p):=
 kw (fun h=>fi n (cG H h).1.2.1) (fun _=>cH n (by unfold W64;omega))
end
theorem bU {α:Type}{n:Nat}{c:Prop} [Decidable c] {p q:Prg α}{g h:List Int→α×List Int}(hp:c→bO n p g)(hq:¬c→bO n q h):bO n (if c then p else q) (fun ws=>if c then g ws else h ws):=by
 by_cases e:c
 ·simp only[if_pos e];exact hp e
 ·simp only[if_neg e];exact hq e
theorem fN {α β:Type}{n:Nat}{p:Prg α}{f:α→Prg β}{g:List Int→α×List Int}{k:α→List Int→β×List Int}{Q:α→Prop}(h:bO n p g)(hq:∀ws,ws.length=n→Q (g ws).1)(hf:∀x,Q x→bO n (f x) (k x)):bO n (aJ p f) (fun ws=>k (g ws).1 (g ws).2):=fun zs D hn hz hD=>by
 obtain⟨D1,e1,a1,i1⟩:=h zs D hn hz hD
 obtain⟨D2,e2,a2,i2⟩:=hf (g (bG zs D)).1 (hq _ (by rw[dS];exact hn)) zs D1 hn hz i1
 refine⟨D2,?_,?_,i2⟩
 ·rw[bE e1,e2,a1]
 ·rw[a2,a1]
def nA (pg st p:Int):Int:=aN st+aD pg+3 * pg+p
def vA (pg st p:Int):Int:=aN st+aD pg+4 * pg+p
theorem DZ {pg st p:Int}(h:af pg p=true):cN pg st 3 p=nA pg st p:=by unfold cN nA;rw[if_pos (ag.1 h)]
theorem IA {pg st p:Int}(h:af pg p=true):cN pg st 4 p=vA pg st p:=by unfold cN vA;rw[if_pos (ag.1 h)]
def iD (pg x:Int):Int:=if af pg (IntKind.i64.wrap (x-1)) then IntKind.i64.wrap (x-1) else -1
def kX (pg a:Int):Prg Int:=if a=0 then aK (-1) else aJ (dJ a) (fun x=>aK (iD pg x))
def xN (pg st p:Int):Nat→Int→List Int→Prg (List Int×Bool)
 | 0,_,l=>aK (l,false)
 |m+1,a,l=>aJ (kX pg a) (fun q=>if q=p then aK (l,true) else if q= -1 then aK (l,false) else xN pg st p m (nA pg st q) (l++ [q]))
def D5 (pg st p c f:Int):Prg (List Int×Bool):=xN pg st p pg.toNat (aC pg st c f) []
def pd (pg st h p q:Int):Prg Unit:=aJ (if p= -1 then eL h (q+1) else eL (nA pg st p) (q+1)) (fun _=>if q= -1 then aK () else eL (vA pg st q) (p+1))
def te (pg st p c f:Int):Prg Bool:=if aC pg st c f=0 then aK false else if af pg p then aJ (kX pg (aC pg st c f)) (fun q=>aJ (pd pg st (aC pg st c f) p q) fun _=>aJ (pd pg st (aC pg st c f) (-1) p) fun _=>aK true) else aK false
def bV (l:List Int):Int:=l.getD (l.length-1) (-1)
def nQ (pg st p c f:Int):Prg Bool:=if af pg p then aJ (D5 pg st p c f) (fun r=>if r.2 then aJ (kX pg (nA pg st p)) (fun q=>aJ (pd pg st (aC pg st c f) (bV r.1) q) fun _=>aJ (eL (nA pg st p) 0) fun _=>aJ (eL (vA pg st p) 0) fun _=>aK true) else aK false) else aK false
def pK (pg st c:Int):Nat→Int→Prg Int
 | 0,_=>aK (-1)
 |m+1,f=>aJ (kX pg (aC pg st c f)) (fun q=>if q= -1 then pK pg st c m (f+1) else aK q)
structure cB (pg st:Int)(n:Nat):Prop extends PgIn pg st n where
 top62:aN st+aD pg+5 * pg+62≤n
theorem pL {pg st c f:Int}{n:Nat}(H:cB pg st n):0≤aC pg st c f∧aC pg st c f<n∧W64 (aC pg st c f):=by
 have h1:=H.st1;have h2:=H.st2;have h3:=H.top62;have h4:=H.pg1;have h5:=H.pg2
 have hc:0≤aD pg∧aD pg≤64:=by unfold aD;omega
 have ht:0≤aN st:=by unfold aN;omega
 unfold aC
 split
 ·rename_i h
  obtain⟨c0,c4,f1,fs⟩:=h
  have:c=0∨c=1∨c=2∨c=3∨c=4:=by omega
  unfold aO W64 aN at *
  rcases this with rfl|rfl|rfl|rfl|rfl<;>simp[dB,dI] at fs⊢ <;>omega
 ·unfold W64;omega
section
variable {pg st:Int}{n:Nat}(H:cB pg st n)
include H
theorem ii {p:Int}(h:af pg p=true):(4≤nA pg st p∧nA pg st p<n∧W64 (nA pg st p))∧(4≤vA pg st p∧vA pg st p<n∧W64 (vA pg st p)):=by
 have h0:=ag.1 h
 have h1:=H.st1;have h2:=H.st2;have h3:=H.top62;have h4:=H.pg1;have h5:=H.pg2
 unfold nA vA W64
 unfold aD aN at *
 omega
theorem D8 (x:Int):iD pg x= -1∨af pg (iD pg x)=true:=by
 unfold iD
 split
 ·rename_i h;exact .inr h
 ·exact .inl rfl
theorem Ea {q:Int}(hq:q= -1∨af pg q=true):W64 (q+1):=by
 have h5:=H.pg2
 rcases hq with rfl|h
 ·unfold W64;omega
 ·have:=ag.1 h;unfold W64;omega
theorem zp {l:List Int}(hl:∀x∈l,af pg x=true):bV l= -1∨af pg (bV l)=true:=by
 unfold bV
 rcases Nat.eq_zero_or_pos l.length with h|h
 ·refine .inl ?_
  rw[List.length_eq_zero_iff.1 h];rfl
 ·refine .inr (hl _ ?_)
  rw[List.getD_eq_getElem?_getD,List.getElem?_eq_getElem (by omega)]
  exact List.getElem_mem _
end
def zq {α:Type}(w:World)(F:Nat→Prop)(p:Nat)(kn:Int→Option Int)(Post:α→Value→World→(Nat→Prop)→Prop)(R:Res α)(e:Ending)(w':World):Prop :=
 match R with
 | .need a=>ur w F p a e w'
 | .ok x D=>∃v F',e=.returned v∧Post x v w' F'∧bI w' F' p kn D∧Turned F w w'∧∀k,F' k→F k∨w.heap.size≤k
def uO (b:Nat)(F:Nat→Prop)(w:World)(v:Value)(xs:List Int):Prop:=Rw b w v xs∧(∀k,v.ownBlock=some k→¬F k∧b≤k∧k<w.heap.size)
theorem Rw.own {b:Nat}{w:World}{v:Value}{xs:List Int}(h:Rw b w v xs){k:Nat}(q:v.ownBlock=some k):b≤k∧k<w.heap.size:=by
 rcases h.2 with⟨rfl,_⟩|⟨g,cap,cur,rfl,hb,hg,_⟩
 ·cases q
 ·have:g=k:=by simpa [Value.ownBlock] using q
  subst this
  exact⟨hb,ac hg⟩
theorem Rw.keepT {b:Nat}{S:Nat→Prop}{w w':World}{v:Value}{xs:List Int}(h:Rw b w v xs)(t:Turned S w w')(hs:∀k,v.ownBlock=some k→¬S k):Rw b w' v xs:=by
 refine⟨h.1,?_⟩
 rcases h.2 with q|⟨g,cap,cur,rfl,hb,hg,r⟩
 ·exact .inl q
 ·exact .inr ⟨g,cap,cur,rfl,hb,(t.block g (ac hg) (hs g rfl)).trans hg,r⟩
theorem uO.more {b:Nat}{F:Nat→Prop}{w w':World}{v:Value}{xs:List Int}(h:uO b F w v xs)(m:ae w w'):uO b F w' v xs :=
 ⟨h.1.more m,fun k q=>⟨(h.2 k q).1,(h.2 k q).2.1,Nat.lt_of_lt_of_le (h.2 k q).2.2 m.size⟩⟩
theorem uO.went {b:Nat}{F F':Nat→Prop}{w w':World}{v:Value}{xs:List Int}(h:uO b F w v xs)(hk:∀k o,¬F k→w.heap[k]?=some o→w'.heap[k]?=some o)(hf:∀k,F' k→F k∨w.heap.size≤k):uO b F' w' v xs:=by
 obtain⟨r,n⟩:=h
 have key:∀k,v.ownBlock=some k→¬F' k:=fun k q z=>by
  rcases hf k z with y|y
  ·exact(n k q).1 y
  ·have:=(n k q).2.2;omega
 rcases r with⟨h1,q|⟨g,cap,cur,rfl,hb,hg,rest⟩⟩
 ·exact⟨⟨h1,.inl q⟩,fun k q'=>by rw[q.1] at q';cases q'⟩
 ·have hg':=hk g _ (n g rfl).1 hg
  exact⟨⟨h1,.inr ⟨g,cap,cur,rfl,hb,hg',rest⟩⟩,fun k q=>by
   have:g=k:=by simpa [Value.ownBlock] using q
   subst this
   exact⟨key g rfl,hb,ac hg'⟩⟩
namespace MidV
variable {W wr w1 w2:World}{F S F':Nat→Prop}{p n:Nat}{kn:Int→Option Int}{D:List KV}
theorem stepR {α:Type}{Post:α→Value→World→(Nat→Prop)→Prop}{Q:α→Prop}{pr:Prg α}{e:Ending}(h:MidV W wr F S p kn n D F')(m:ae wr w1)(hk:OkK kn)(G:fX n Q pr)(he:zq w1 F' p kn Post (pr kn D) e w2):
 (∃a,pr kn D=.need a∧e=.panicked (eT p)∧eC w2 p a∧Turned (fun b=>F b∨S b) W w2∧∀b o,¬F' b→wr.heap[b]?=some o→w2.heap[b]?=some o) ∨
 (∃x D1 F1 v,pr kn D=.ok x D1∧e=.returned v∧Post x v w2 F1∧MidV W w2 F S p kn n D1 F1∧Q x∧(∀b o,¬F' b→wr.heap[b]?=some o→w2.heap[b]?=some o)∧∀b,F1 b→F' b∨wr.heap.size≤b):=by
 have hm:=h.more m
 have hs:=m.size
 have hK:∀t,Turned F' w1 t→∀b o,¬F' b→wr.heap[b]?=some o→t.heap[b]?=some o:=fun t ht b o nb hb=>(ht.block b (ac (m.block hb)) nb).trans (m.block hb)
 cases hE:pr kn D with
 |need a =>
  rw[hE] at he
  obtain⟨h1,h2,h3⟩:=he
  exact .inl ⟨a,rfl,h1,h2,aq hm.turn h3 (fun k q=>(h.from' k q).imp .inl id),hK _ h3⟩
 |ok x D1 =>
  rw[hE] at he
  obtain⟨v,F1,h1,hp,hv,ht,hn⟩:=he
  obtain⟨i1,q1⟩:=G.ok hk h.inv hE
  refine .inr ⟨x,D1,F1,v,rfl,h1,hp,⟨hv,fun k q=>?_,aq hm.turn ht (fun k q=>(h.from' k q).imp .inl id),i1⟩,q1,hK _ ht,fun b q=>(hn b q).imp id (fun r=>by omega)⟩
  rcases hn k q with r|r
  ·exact h.from' k r
  ·have:=hm.size;exact .inr (by omega)
end MidV
theorem xO {c:Cfg}(R:c.Ok)(w:World)(k:Int):Calls Tryz.prog 37 #[.agg c.arr,.int .i64 k] w (aF w (.int .i64 (cN c.pg c.st 0 k))):=JS R w k
theorem GG {c:Cfg}(R:c.Ok)(w:World)(k:Int):Calls Tryz.prog 79 #[.agg c.arr,.int .i64 k] w (aF w (.int .i64 (cN c.pg c.st 1 k))):=IT R w k
theorem I2 {c:Cfg}(R:c.Ok)(w:World)(k:Int):Calls Tryz.prog 119 #[.agg c.arr,.int .i64 k] w (aF w (.int .i64 (cN c.pg c.st 2 k))):=JT R w k
theorem I3 {c:Cfg}(R:c.Ok){n:Nat}(H:PgIn c.pg c.st n)(F:Nat→Prop)(p:Nat)(kn:Int→Option Int)(D:List KV)(q:Int)(w:World)(hv:bI w F p kn D)(hk:OkK kn)(hD:fy n D):
 Calls Tryz.prog 38 #[.pointer (some ⟨p,0,none⟩),.agg c.arr,.int .i64 q] w (bw w F p kn (fun x=> .int .i64 x) (fK c.pg c.st q kn D)):=by
 obtain⟨Rr,hRr⟩:∃Rr,fK c.pg c.st q kn D=Rr:=⟨_,rfl⟩
 rw[hRr]
 obtain⟨w1,e1,hl1,m1,s1⟩:=df w (.cells c.arr 33)
 have nFl:¬F w.heap.size:=fun q=>by have:=hv.lt _ q;omega
 have MM:=hQQ m1
 have L0:=hQQ hl1
 have M0:=m0Z (hv.more m1) hD
 have KL:=klZ (p:=p) (kn:=kn) (n:=n) L0.o nFl
 have NEED:=ndZ (F:=F) (p:=p) (kn:=kn) (R:=Rr) (fun x:Int=>Value.int .i64 x) MM.o
 have DONE:=dnZ (F:=F) (p:=p) (n:=n) (kn:=kn) (R:=Rr) (fun x:Int=>Value.int .i64 x) MM.o
 have HK:=hQQ hk
 have HR:=hQQ R
 have HH:=hQQ H
 clear hl1 m1 hv hD hk R H nFl
 unfold fK at hRr
 cases h:af c.pg q with
 |false =>
  rw[h] at hRr
  have FIN:Hq (∀w2,ae w1 w2→bw w F p kn (fun x:Int=>Value.int .i64 x) Rr (.returned (.int .i64 (-1))) w2):=hQQ fun w2 m=>DONE.o (-1) w2 D F hRr.symm (M0.o.more m)
  clear hRr
  go_enter Tryz.func38,Tryz.ntmps38
  go_wp2_with (first|(refine cQ rfl rfl rfl L0.o (by kernel_rfl) ?_)|(refine cQ rfl rfl rfl L0.o (by kernel_rfl) ?_))
  refine(xO HR.o _ q).mono ?_
  rw[Iz h]
  rintro e w2 ⟨rfl,h2⟩
  have H2:=hQQ h2
  clear h2
  go_wp2_with fail
  go_ret
  exact FIN.o _ H2.o
 |true =>
  rw[h] at hRr
  have hRr2:dJ (kA c.pg c.st q) kn D=Rr:=hRr
  obtain⟨⟨ha,_,hw⟩,_⟩:=cG HH.o h
  have nz:(kA c.pg c.st q==0)=false:=by simp;omega
  have RA:=hQQ (fun w2 (m:ae w1 w2)=>mD F p kn D (kA c.pg c.st q) w2 (M0.o.view.more m) hw)
  have HRr:=hQQ hRr2
  clear hRr hRr2 hw ha
  go_enter Tryz.func38,Tryz.ntmps38
  go_wp2_with (first|(refine cQ rfl rfl rfl L0.o (by kernel_rfl) ?_)|(refine cQ rfl rfl rfl L0.o (by kernel_rfl) ?_))
  refine(xO HR.o _ q).mono ?_
  rw[pH h]
  rintro e w2 ⟨rfl,h2⟩
  have H2:=hQQ h2
  clear h2
  go_wp2_with fail
  refine(RA.o _ H2.o).mono ?_
  rw[HRr.o]
  intro e w3 he
  rcases xz he with⟨a,_,rfl⟩|⟨x,D',_,rfl⟩
  ·exact⟨rfl,he.after (MM.o.trans H2.o)⟩
  ·have FIN:=hQQ (he.after (MM.o.trans H2.o))
   clear he
   go_wp2_with fail
   go_ret
   exact FIN.o
section
variable {P:Program}{ops:Array Oper}{md:Region.Mode}{C:World→Prop}
def uP (md:Region.Mode)(ops:Array Oper)(t:Array Bool):Nat→Nat→Array Bool→Bool
 | 0,_,d=>d==t
 |m+1,k,d=>(Region.ready md ops d).contains k && Region.free md ops d k && uP md ops t m (k+1) (d.setIfInBounds k true)
def xP (md:Region.Mode)(ops:Array Oper)(n:Nat)(t:Array Bool):Bool :=
 Region.noSelect ops && decide (n<ops.size) && ul md ops 0 n && ((List.range ops.size).all fun i=>decide (i≤n) ||(List.range i).any fun j=>decide (n≤j) && Region.waitsFor md ops i j) && ((Region.ready md ops t).all fun i=>decide (n≤i)) && uP md ops t n 0 (Array.replicate ops.size false)
theorem xQ {n:Nat}(hs:ul md ops 0 n=true)(hc:((List.range ops.size).all fun i=>decide (i≤n) ||(List.range i).any fun j=>decide (n≤j) && Region.waitsFor md ops i j)=true)(hn:n<ops.size)(m:Nat):
 ∀i,n-i≤m→i<n→∀d,HeadInv md ops n d→d.getD i true=false→∀t,n≤t→t∉Region.ready md ops d:=by
 induction m with
 |zero=>intro i h hi;omega
 |succ m ih =>
  intro i hm hi d inv hun t ht hr
  obtain⟨_,ot,hot,hall⟩:=mem_ready.1 hr
  have hlt:t<ops.size:=(Array.getElem?_eq_some_iff.1 hot).1
  by_cases e:t=n
  ·subst e
   have h1:=List.all_eq_true.1 hs i (List.mem_range.2 hi)
   simp only[Bool.or_eq_true,decide_eq_true_eq] at h1
   rcases h1 with h1|h1
   ·omega
   obtain⟨j,hj,hj2⟩:=List.any_eq_true.1 h1
   simp only[Bool.and_eq_true,decide_eq_true_eq] at hj2
   obtain⟨oj,hoj,x,hx,hb,hon⟩:=Region.waitsFor_spec hj2.2
   have hjn:=List.mem_range.1 hj
   have no:d.getD j false=true∨j=t→False:=by
    rintro(q|q)
    ·have:=inv.closed j oj hoj q x hx hb
     rw[hon,getD_both hun] at this;cases this
    ·subst q
     obtain rfl:oj=ot:=Option.some.inj (hoj.symm.trans hot)
     have:=hall x hx hb
     rw[hon,getD_both hun] at this;cases this
   cases q:d.getD j false with
   |true=>exact no (.inl q)
   |false =>
    have hne:j≠t:=fun z=>no (.inr z)
    exact ih j (by omega) (by omega) d inv (getD_in (by rw[inv.size];omega) q) t (Nat.le_refl _) hr
  ·have h1:=List.all_eq_true.1 hc t (List.mem_range.2 hlt)
   simp only[Bool.or_eq_true,decide_eq_true_eq] at h1
   rcases h1 with h1|h1
   ·omega
   obtain⟨j,hj,hj2⟩:=List.any_eq_true.1 h1
   simp only[Bool.and_eq_true,decide_eq_true_eq] at hj2
   obtain⟨o',ho',x,hx,hb,hon⟩:=Region.waitsFor_spec hj2.2
   obtain rfl:o'=ot:=Option.some.inj (ho'.symm.trans hot)
   have hjt:=List.mem_range.1 hj
   have:=hall x hx hb
   rw[hon,getD_both (inv.tail j hj2.1 (by omega))] at this;cases this
theorem AZ {n:Nat}{t:Array Bool}{Z:Act→Prop}(hsel:Region.noSelect ops=true)(hend:∀i∈Region.ready md ops t,n≤i)(hwait:∀i,i<n→∀d,HeadInv md ops n d→d.getD i true=false→∀t,n≤t→t∉Region.ready md ops d)(l:List Oper):
 ∀(k:Nat) (d:Array Bool) (a:Act),(∀j,j<l.length→l[j]?=ops[k+j]?)→k+l.length=n→HeadInv md ops n d →
 uP md ops t l.length k d=true→wpQuiet P ops C Z l a →
 Az P md ops C n (fun d' a'=>d'=t∧Z a') l.length d a:=by
 induction l with
 |nil =>
  intro k d a _ hk _ hB h
  exact⟨by simpa [uP] using hB,h⟩
 |cons o l ih =>
  intro k d a hl hk inv hB h
  have h0:ops[k]?=some o:=by simpa using (hl 0 (by simp)).symm
  simp only[List.length_cons,uP,Bool.and_eq_true] at hB hk
  have hr:k∈Region.ready md ops d:=by simpa using hB.1.1
  have hst:qOp P ops C k (wpQuiet P ops C Z l) a:=by unfold qOp;simp only[h0];exact h
  obtain⟨v,hy,hK⟩:=yieldsIn_of_qOp h0 hst
  exact py h0 (Region.noSelect_spec hsel) (hwait k (by omega)) (by omega) (fun _ _ z=>by rw[z.1];exact hend) l.length d a inv (Region.free_spec h0 hB.1.2) hr hy
   (ih (k+1) _ _ (fun j hj=>by have:=hl (j+1) (by simp;omega);simpa [Nat.add_assoc,Nat.add_comm 1 j] using this) (by omega) (inv.set hr (by omega)) hB.2 hK)
end
theorem kx {P:Program}{C:World→Prop}{id:Nat}{Q:Exit→Act→World→Prop}{a:Act}{w:World}{l:List Oper}(n:Nat)(t:Array Bool)(hm:P.follows .mixedOrders=true)(hB:xP .any l.toArray n t=true)
 (hC:C { w with drawn:=w.drawn+1 }) (h:wpQuiet P l.toArray C (fun a'=>∀w',C w'→wpAny P .any l.toArray Q (l.length-n) t a' w') (l.take n) a):(Code.region id l.toArray true).wp P Q a w:=by
 simp only[xP,Bool.and_eq_true,decide_eq_true_eq] at hB
 obtain⟨⟨⟨⟨⟨hsel,hn⟩,hs⟩,hc⟩,he⟩,hlex⟩:=hB
 have hn':n<l.length:=by simpa using hn
 have ht:(l.take n).length=n:=by simp;omega
 have inv:HeadInv .any l.toArray n (Array.replicate l.toArray.size false):=
  ⟨by simp,fun j p _ q=>(by rw[getD_replicate_false] at q;cases q),fun t _ q=>getD_in (by simpa using q) (getD_replicate_false _ _)⟩
 have H:=AZ (md:=.any) (t:=t) hsel (fun i hi=>by have:=List.all_eq_true.1 he i hi;simpa using this) (fun i hi d inv hun t ht=>xQ hs hc hn n i (by omega) hi d inv hun t ht) (l.take n) 0 _ a (fun j hj=>by
  have:j<n:=by rw[ht] at hj;exact hj
  simp[this]) (by simpa using ht) inv (by rw[ht];exact hlex) h
 have K:=uk (Q:=Q) (g:=l.length-n) (fun d a' w' hw z=>by rw[z.1];exact z.2 w' hw) _ _ _ _ hC H
 rw[ht,show n+(l.length-n)=l.toArray.size by simp;omega] at K
 exact wp_region_any hm K
theorem ib {P:Program}{id:Nat}{Q:Exit→Act→World→Prop}{a:Act}{w:World}{l:List Oper}(n:Nat)(t:Array Bool)(hm:P.follows .mixedOrders=true)(hB:xP .any l.toArray n t=true)
 (h:wpQuiet P l.toArray (ae w) (fun a'=>∀w',ae w w'→wpAny P .any l.toArray Q (l.length-n) t a' w') (l.take n) a):(Code.region id l.toArray true).wp P Q a w :=
 kx (C:=ae w) n t hm hB ((ae.refl w).drewN 1) h
def fo (w:Int):BitVec 64:=BitVec.ofInt 64 w
def dm (w:Int)(k:Nat):Bool:=(fo w).getLsbD k
def inR (i:Int):Bool:=decide (0≤i∧i<32)
def cK (w i:Int):Bool:=inR i && dm w i.toNat
def lH (i:Int):Int:=if inR i then 2 ^ i.toNat else 0
def eQ (w i:Int):Int:=if inR i then(fo w |||BitVec.twoPow 64 i.toNat).toInt else w
def cC (w i:Int):Int:=if inR i then(fo w &&& ~~~ BitVec.twoPow 64 i.toNat).toInt else w
def et (n:Int):Nat:=(min n 32).toNat
def onN (w:Int)(k:Nat):List Nat:=(List.range k).filter (dm w)
def gh (w n:Int):Int:=(onN w (et n)).length
def iW (w n:Int):List Int:=(onN w (et n)).map (fun k:Nat=>(k:Int))
def xR (w:Int)(k:Nat):Int:=match (List.range k).find? (fun j=> !dm w j) with|some j=>(j:Int)|none=> -1
def cO (w n:Int):Int:=xR w (et n)
theorem dr (i:Int):inR i=true↔0≤i∧i<32:=by simp[inR]
theorem tg {k:Nat}(h:k<32):inR (k:Int)=true:=by simp[inR];omega
theorem mI (n:Int):et n≤32:=by unfold et;omega
theorem lY (r:BitVec 64):IntKind.i64.wrap (r.toNat:Int)=r.toInt:=by
 have:=r.isLt
 rw[BitVec.toInt_eq_toNat_bmod]
 simp[IntKind.wrap,IntKind.bits,IntKind.signed,Int.bmod]
 omega
theorem uQ {w:Int}(h0: -9223372036854775808≤w)(h1:w≤9223372036854775807):(fo w).toInt=w:=by
 rw[fo,BitVec.toInt_ofInt,Int.bmod]
 simp only[Nat.reducePow]
 split<;>omega
theorem uR (r:BitVec 64):fo r.toInt=r:=by rw[fo,BitVec.ofInt_toInt]
theorem pM (r:BitVec 64): -9223372036854775808≤r.toInt∧r.toInt≤9223372036854775807:=by
 have h1:=BitVec.le_toInt r
 have h2:=BitVec.toInt_lt (x:=r)
 constructor<;>omega
theorem I4 {k:Nat}(h:k<32):BitVec.ofInt 64 ((2:Int) ^ k)=BitVec.twoPow 64 k:=by
 rw[show((2:Int) ^ k)=((2 ^ k:Nat):Int) by simp,BitVec.ofInt_natCast]
 apply BitVec.eq_of_toNat_eq
 rw[BitVec.toNat_ofNat,BitVec.toNat_twoPow]
theorem Eb (w i:Int):(bits .and .i64 w (lH i) != 0)=cK w i:=by
 show(IntKind.i64.wrap ((BitVec.ofInt 64 w &&& BitVec.ofInt 64 (lH i)).toNat:Int) != 0)=_
 rw[lY]
 unfold cK lH
 cases hi:inR i with
 |false=>simp
 |true =>
  have hr:=(dr i).1 hi
  simp only[if_true,Bool.true_and]
  rw[I4 (by omega),BitVec.and_twoPow]
  unfold dm fo
  cases hb:(BitVec.ofInt 64 w).getLsbD i.toNat with
  |false=>simp
  |true =>
   simp only[if_true]
   simp only[bne_iff_ne,ne_eq]
   intro e
   have:=congrArg (BitVec.ofInt 64) e
   rw[BitVec.ofInt_toInt] at this
   have:=congrArg (fun x=>x.getLsbD i.toNat) this
   simp[BitVec.getLsbD_twoPow] at this
   omega
theorem rt (w i:Int)(h0: -9223372036854775808≤w)(h1:w≤9223372036854775807): -9223372036854775808≤eQ w i∧eQ w i≤9223372036854775807:=by
 unfold eQ;split
 ·exact pM _
 ·exact⟨h0,h1⟩
theorem oK (w i:Int)(h0: -9223372036854775808≤w)(h1:w≤9223372036854775807): -9223372036854775808≤cC w i∧cC w i≤9223372036854775807:=by
 unfold cC;split
 ·exact pM _
 ·exact⟨h0,h1⟩
theorem mJ {w i:Int}(hi:inR i=true)(k:Nat)(hk:k<64):dm (eQ w i) k=(dm w k ||decide (i.toNat=k)):=by
 have hr:=(dr i).1 hi
 unfold dm eQ
 rw[if_pos hi,uR,BitVec.getLsbD_or,BitVec.getLsbD_twoPow,decide_eq_true (show i.toNat<64 by omega),Bool.true_and]
theorem kY {w i:Int}(hi:inR i=true)(k:Nat)(hk:k<64):dm (cC w i) k=(dm w k && !decide (i.toNat=k)):=by
 have hr:=(dr i).1 hi
 unfold dm cC
 rw[if_pos hi,uR,BitVec.getLsbD_and,BitVec.getLsbD_not,BitVec.getLsbD_twoPow,decide_eq_true hk,decide_eq_true (show i.toNat<64 by omega),Bool.true_and,Bool.true_and]
theorem pN {a b:Int}(a0: -9223372036854775808≤a)(a1:a≤9223372036854775807)(b0: -9223372036854775808≤b)(b1:b≤9223372036854775807)
 (h:∀k,k<64→dm a k=dm b k):a=b:=by
 rw[←uQ a0 a1,←uQ b0 b1]
 congr 1
 apply BitVec.eq_of_getLsbD_eq
 exact h
theorem GH {w i:Int}(hi:inR i=true):cK (eQ w i) i=true:=by
 have hr:=(dr i).1 hi
 unfold cK;rw[mJ hi _ (by omega)];simp[hi]
theorem ru {w i:Int}(hi:inR i=true):cK (cC w i) i=false:=by
 have hr:=(dr i).1 hi
 unfold cK;rw[kY hi _ (by omega)];simp
theorem lI {w i k:Int}(hi:inR i=true)(hk:k≠i):cK (eQ w i) k=cK w k:=by
 unfold cK
 cases hK:inR k with
 |false=>rfl
 |true =>
  have hr:=(dr i).1 hi
  have hr':=(dr k).1 hK
  rw[mJ hi _ (by omega),decide_eq_false (by omega),Bool.or_false]
theorem j0 {w i k:Int}(hi:inR i=true)(hk:k≠i):cK (cC w i) k=cK w k:=by
 unfold cK
 cases hK:inR k with
 |false=>rfl
 |true =>
  have hr:=(dr i).1 hi
  have hr':=(dr k).1 hK
  rw[kY hi _ (by omega),decide_eq_false (by omega),Bool.not_false,Bool.and_true]
section
variable {w i:Int}(h0: -9223372036854775808≤w)(h1:w≤9223372036854775807)
include h0 h1
theorem GI (hi:inR i=true)(hb:cK w i=true):eQ w i=w:=by
 have hr:=(dr i).1 hi
 have⟨s0,s1⟩:=rt w i h0 h1
 refine pN s0 s1 h0 h1 fun k hk=>?_
 rw[mJ hi _ hk]
 by_cases q:i.toNat=k
 ·subst q;unfold cK at hb;simp[hi] at hb;simp[hb]
 ·simp[q]
theorem A0 (hi:inR i=true)(hb:cK w i=false):cC w i=w:=by
 have hr:=(dr i).1 hi
 have⟨s0,s1⟩:=oK w i h0 h1
 refine pN s0 s1 h0 h1 fun k hk=>?_
 rw[kY hi _ hk]
 by_cases q:i.toNat=k
 ·subst q;unfold cK at hb;simp[hi] at hb;simp[hb]
 ·simp[q]
theorem A1 (hi:inR i=true)(hb:cK w i=true):eQ (cC w i) i=w:=by
 have hr:=(dr i).1 hi
 have⟨s0,s1⟩:=oK w i h0 h1
 have⟨t0,t1⟩:=rt (cC w i) i s0 s1
 refine pN t0 t1 h0 h1 fun k hk=>?_
 rw[mJ hi _ hk,kY hi _ hk]
 by_cases q:i.toNat=k
 ·subst q;unfold cK at hb;simp[hi] at hb;simp[hb]
 ·simp[q]
end
theorem Ec {w i:Int}(hi:inR i=false):eQ w i=w:=by simp[eQ,hi]
theorem xS {w i:Int}(hi:inR i=false):cC w i=w:=by simp[cC,hi]
theorem Ed {w i:Int}(hi:inR i=false):cK w i=false:=by simp[cK,hi]
theorem GJ (w:Int)(k:Nat):dm w k=decide ((fo w).toNat / 2 ^ k % 2=1):=by
 unfold dm
 rw[BitVec.getLsbD,Nat.testBit_eq_decide_div_mod_eq]
theorem xT (w:Int):IntKind.u64.wrap w=((fo w).toNat:Int):=by
 rw[fo,BitVec.toNat_ofInt]
 simp[IntKind.wrap,IntKind.bits,IntKind.signed]
 omega
theorem Ee (w:Int):onN w 0= []:=rfl
theorem ky (w:Int)(k:Nat):onN w (k+1)=onN w k++(if dm w k then [k] else []):=by
 unfold onN
 rw[List.range_succ,List.filter_append]
 congr 1
 cases h:dm w k<;>simp[h]
theorem I5 (w:Int)(k:Nat):(onN w k).length≤k:=by
 have:=List.length_filter_le (dm w) (List.range k)
 rw[List.length_range] at this
 exact this
theorem kZ {w:Int}{k j:Nat}(hj:j<k)(h0:dm w j=false)(h1:∀i,i<j→dm w i=true):xR w k=j:=by
 have:(List.range k).find? (fun i=> !dm w i)=some j:=by
  rw[List.find?_range_eq_some]
  exact⟨by simp[h0],by simpa using hj,fun i hi=>by simp[h1 i hi]⟩
 unfold xR;rw[this]
theorem rx {w:Int}{k:Nat}(h:∀i,i<k→dm w i=true):xR w k= -1:=by
 have:(List.range k).find? (fun i=> !dm w i)=none:=by
  rw[List.find?_range_eq_none]
  intro i hi;simp[h i hi]
 unfold xR;rw[this]
theorem A2 (w:Int)(k:Nat):(xR w k= -1∧∀i,i<k→dm w i=true)∨∃j:Nat,j<k∧xR w k=j∧dm w j=false∧∀i,i<j→dm w i=true:=by
 induction k with
 |zero=>exact .inl ⟨rfl,fun i h=>by omega⟩
 |succ k ih =>
  rcases ih with⟨_,h⟩|⟨j,hj,_,h0,h1⟩
  ·cases hb:dm w k with
   |true =>
    have:∀i,i<k+1→dm w i=true:=fun i hi=>by
     by_cases q:i=k
     ·rw[q];exact hb
     ·exact h i (by omega)
    exact .inl ⟨rx this,this⟩
   |false=>exact .inr ⟨k,by omega,kZ (by omega) hb h,hb,h⟩
  ·exact .inr ⟨j,by omega,kZ (by omega) h0 h1,h0,h1⟩
theorem I6 {w:Int}{k:Nat}(h:∀i,i<k→dm w i=true):(onN w k).length=k:=by
 induction k with
 |zero=>rfl
 |succ k ih=>rw[ky,List.length_append,ih (fun i hi=>h i (by omega)),if_pos (h k (by omega))];rfl
theorem I7 {w i:Int}(hi:inR i=true)(hb:dm w i.toNat=false)(k:Nat)(hk:k≤32):(onN (eQ w i) k).length=(onN w k).length+if i.toNat<k then 1 else 0:=by
 induction k with
 |zero=>rfl
 |succ k ih =>
  rw[ky,ky,List.length_append,List.length_append,ih (by omega),mJ hi k (by omega)]
  by_cases q:i.toNat=k
  ·subst q
   rw[hb]
   simp
  ·rw[decide_eq_false q,Bool.or_false]
   have e:(if i.toNat<k+1 then 1 else 0)=(if i.toNat<k then 1 else 0):=by
    by_cases q2:i.toNat<k
    ·rw[if_pos q2,if_pos (show i.toNat<k+1 by omega)]
    ·rw[if_neg q2,if_neg (show ¬i.toNat<k+1 by omega)]
   rw[e];omega
end Go.Proofs.YtfddhogffpkhcaaGreatDoor
