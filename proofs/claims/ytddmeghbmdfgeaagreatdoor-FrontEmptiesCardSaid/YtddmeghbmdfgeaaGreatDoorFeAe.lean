/-
  The statements' helper for layout: a configuration that may be, of any one.
-/
import Derived.Test.YtddmeghbmdfgeaaGreatDoorFeAa
import Derived.Deep.RegionHeld3
import Derived.Test.YtddmeghbmdfgeaaGreatDoorFeAd
import Derived.OwnWalk
import Derived.Test.YtddmeghbmdfgeaaGreatDoorFeAc
set_option maxRecDepth 100000
set_option maxHeartbeats 8000000
set_option linter.all false
namespace Go.Proofs.YtddmeghbmdfgeaaGreatDoor
open Go.RowKit
def aV (n lo hi:Int):Int:=lo+(IntKind.u64.wrap n).tmod (hi-lo+1)
theorem sU (n:Int):0≤IntKind.u64.wrap n:=by
 simp only[IntKind.wrap]
 first|exact Int.emod_nonneg _ (by decide)|(simp;done)|omega
theorem Mw (n lo hi:Int)(h:lo≤hi):0≤(IntKind.u64.wrap n).tmod (hi-lo+1)∧(IntKind.u64.wrap n).tmod (hi-lo+1)≤hi-lo:=by
 have h0:=sU n
 rw[Int.tmod_eq_emod_of_nonneg h0]
 have m0:=Int.emod_nonneg (IntKind.u64.wrap n) (show hi-lo+1≠0 by omega)
 have m1:=Int.emod_lt_of_pos (IntKind.u64.wrap n) (show 0<hi-lo+1 by omega)
 omega
theorem cQ (n lo hi:Int)(h:lo≤hi):lo≤aV n lo hi∧aV n lo hi≤hi:=by
 have:=Mw n lo hi h
 unfold aV;omega
theorem Bv (n lo hi:Int)(w:World)(h0:0≤lo)(h1:lo≤hi)(h2:hi≤1099511627776)(hn: -9223372036854775808≤n∧n≤9223372036854775807):
 Calls Tryz.prog 99 #[.int .i64 n,.int .i64 lo,.int .i64 hi] w fun e w'=>e=.returned (.int .i64 (aV n lo hi))∧w'=w:=by
 obtain⟨hn0,hn1⟩:=hn
 obtain⟨m0,m1⟩:=Mw n lo hi h1
 go_enter Tryz.func99,Tryz.ntmps99
 go_wp2_with fail
 go_ret
 exact⟨rfl,rfl⟩
variable (wk cp pg st tr wt ck pr ca bi ba:Int)(w:World)
theorem DI:cT (aV wk 1 64) (aV cp 1 8) (aV pg 1 256) (aV st 1 64) (aV tr 0 16) (aV wt 0 64) (aV ck 1 1099511627776) (aV pr 1 8) (aV ca 0 8) (aV bi 0 16) (aV ba 1 8):=
 ⟨(cQ wk 1 64 (by omega)).1,(cQ wk 1 64 (by omega)).2,(cQ cp 1 8 (by omega)).1,(cQ cp 1 8 (by omega)).2,(cQ pg 1 256 (by omega)).1,(cQ pg 1 256 (by omega)).2,(cQ st 1 64 (by omega)).1,(cQ st 1 64 (by omega)).2,(cQ tr 0 16 (by omega)).1,(cQ tr 0 16 (by omega)).2,(cQ wt 0 64 (by omega)).1,(cQ wt 0 64 (by omega)).2,(cQ ck 1 1099511627776 (by omega)).1,(cQ ck 1 1099511627776 (by omega)).2,(cQ pr 1 8 (by omega)).1,(cQ pr 1 8 (by omega)).2,(cQ ca 0 8 (by omega)).1,(cQ ca 0 8 (by omega)).2,(cQ bi 0 16 (by omega)).1,(cQ bi 0 16 (by omega)).2,(cQ ba 1 8 (by omega)).1,(cQ ba 1 8 (by omega)).2⟩
theorem ze (wk0: -9223372036854775808≤wk∧wk≤9223372036854775807)(cp0: -9223372036854775808≤cp∧cp≤9223372036854775807)(pg0: -9223372036854775808≤pg∧pg≤9223372036854775807)(st0: -9223372036854775808≤st∧st≤9223372036854775807)(tr0: -9223372036854775808≤tr∧tr≤9223372036854775807)(wt0: -9223372036854775808≤wt∧wt≤9223372036854775807)(ck0: -9223372036854775808≤ck∧ck≤9223372036854775807)(pr0: -9223372036854775808≤pr∧pr≤9223372036854775807)(ca0: -9223372036854775808≤ca∧ca≤9223372036854775807)(bi0: -9223372036854775808≤bi∧bi≤9223372036854775807)(ba0: -9223372036854775808≤ba∧ba≤9223372036854775807):
 Calls Tryz.prog 68 #[.agg #[.int .i64 wk,.int .i64 cp,.int .i64 pg,.int .i64 st,.int .i64 tr,.int .i64 wt,.int .i64 ck,.int .i64 pr,.int .i64 ca,.int .i64 bi,.int .i64 ba]] w (aP w (.agg #[.int .i64 (aV wk 1 64),.int .i64 (aV cp 1 8),.int .i64 (aV pg 1 256),.int .i64 (aV st 1 64),.int .i64 (aV tr 0 16),.int .i64 (aV wt 0 64),.int .i64 (aV ck 1 1099511627776),.int .i64 (aV pr 1 8),.int .i64 (aV ca 0 8),.int .i64 (aV bi 0 16),.int .i64 (aV ba 1 8)])):=by
 have HN:=hQQ (gT w 23 wk cp pg st tr wt ck pr ca bi ba)
 have Hwk:=hQQ wk0;clear wk0
 have Hcp:=hQQ cp0;clear cp0
 have Hpg:=hQQ pg0;clear pg0
 have Hst:=hQQ st0;clear st0
 have Htr:=hQQ tr0;clear tr0
 have Hwt:=hQQ wt0;clear wt0
 have Hck:=hQQ ck0;clear ck0
 have Hpr:=hQQ pr0;clear pr0
 have Hca:=hQQ ca0;clear ca0
 have Hbi:=hQQ bi0;clear bi0
 have Hba:=hQQ ba0;clear ba0
 have HS:Hq (((w.alloc (.cells #[.int .i64 wk,.int .i64 cp,.int .i64 pg,.int .i64 st,.int .i64 tr,.int .i64 wt,.int .i64 ck,.int .i64 pr,.int .i64 ca,.int .i64 bi,.int .i64 ba] 23)).alloc (.cells #[.int .i64 0,.int .i64 0,.int .i64 0,.int .i64 0,.int .i64 0,.int .i64 0,.int .i64 0,.int .i64 0,.int .i64 0,.int .i64 0,.int .i64 0] 23)).drew.cell? ⟨w.heap.size,0,none⟩=some (.int .i64 wk)∧((w.alloc (.cells #[.int .i64 wk,.int .i64 cp,.int .i64 pg,.int .i64 st,.int .i64 tr,.int .i64 wt,.int .i64 ck,.int .i64 pr,.int .i64 ca,.int .i64 bi,.int .i64 ba] 23)).alloc (.cells #[.int .i64 0,.int .i64 0,.int .i64 0,.int .i64 0,.int .i64 0,.int .i64 0,.int .i64 0,.int .i64 0,.int .i64 0,.int .i64 0,.int .i64 0] 23)).drew.cell? ⟨w.heap.size,1,none⟩=some (.int .i64 cp)∧((w.alloc (.cells #[.int .i64 wk,.int .i64 cp,.int .i64 pg,.int .i64 st,.int .i64 tr,.int .i64 wt,.int .i64 ck,.int .i64 pr,.int .i64 ca,.int .i64 bi,.int .i64 ba] 23)).alloc (.cells #[.int .i64 0,.int .i64 0,.int .i64 0,.int .i64 0,.int .i64 0,.int .i64 0,.int .i64 0,.int .i64 0,.int .i64 0,.int .i64 0,.int .i64 0] 23)).drew.cell? ⟨w.heap.size,2,none⟩=some (.int .i64 pg)∧((w.alloc (.cells #[.int .i64 wk,.int .i64 cp,.int .i64 pg,.int .i64 st,.int .i64 tr,.int .i64 wt,.int .i64 ck,.int .i64 pr,.int .i64 ca,.int .i64 bi,.int .i64 ba] 23)).alloc (.cells #[.int .i64 0,.int .i64 0,.int .i64 0,.int .i64 0,.int .i64 0,.int .i64 0,.int .i64 0,.int .i64 0,.int .i64 0,.int .i64 0,.int .i64 0] 23)).drew.cell? ⟨w.heap.size,3,none⟩=some (.int .i64 st)∧((w.alloc (.cells #[.int .i64 wk,.int .i64 cp,.int .i64 pg,.int .i64 st,.int .i64 tr,.int .i64 wt,.int .i64 ck,.int .i64 pr,.int .i64 ca,.int .i64 bi,.int .i64 ba] 23)).alloc (.cells #[.int .i64 0,.int .i64 0,.int .i64 0,.int .i64 0,.int .i64 0,.int .i64 0,.int .i64 0,.int .i64 0,.int .i64 0,.int .i64 0,.int .i64 0] 23)).drew.cell? ⟨w.heap.size,4,none⟩=some (.int .i64 tr)∧((w.alloc (.cells #[.int .i64 wk,.int .i64 cp,.int .i64 pg,.int .i64 st,.int .i64 tr,.int .i64 wt,.int .i64 ck,.int .i64 pr,.int .i64 ca,.int .i64 bi,.int .i64 ba] 23)).alloc (.cells #[.int .i64 0,.int .i64 0,.int .i64 0,.int .i64 0,.int .i64 0,.int .i64 0,.int .i64 0,.int .i64 0,.int .i64 0,.int .i64 0,.int .i64 0] 23)).drew.cell? ⟨w.heap.size,5,none⟩=some (.int .i64 wt)∧((w.alloc (.cells #[.int .i64 wk,.int .i64 cp,.int .i64 pg,.int .i64 st,.int .i64 tr,.int .i64 wt,.int .i64 ck,.int .i64 pr,.int .i64 ca,.int .i64 bi,.int .i64 ba] 23)).alloc (.cells #[.int .i64 0,.int .i64 0,.int .i64 0,.int .i64 0,.int .i64 0,.int .i64 0,.int .i64 0,.int .i64 0,.int .i64 0,.int .i64 0,.int .i64 0] 23)).drew.cell? ⟨w.heap.size,6,none⟩=some (.int .i64 ck)∧((w.alloc (.cells #[.int .i64 wk,.int .i64 cp,.int .i64 pg,.int .i64 st,.int .i64 tr,.int .i64 wt,.int .i64 ck,.int .i64 pr,.int .i64 ca,.int .i64 bi,.int .i64 ba] 23)).alloc (.cells #[.int .i64 0,.int .i64 0,.int .i64 0,.int .i64 0,.int .i64 0,.int .i64 0,.int .i64 0,.int .i64 0,.int .i64 0,.int .i64 0,.int .i64 0] 23)).drew.cell? ⟨w.heap.size,7,none⟩=some (.int .i64 pr)∧((w.alloc (.cells #[.int .i64 wk,.int .i64 cp,.int .i64 pg,.int .i64 st,.int .i64 tr,.int .i64 wt,.int .i64 ck,.int .i64 pr,.int .i64 ca,.int .i64 bi,.int .i64 ba] 23)).alloc (.cells #[.int .i64 0,.int .i64 0,.int .i64 0,.int .i64 0,.int .i64 0,.int .i64 0,.int .i64 0,.int .i64 0,.int .i64 0,.int .i64 0,.int .i64 0] 23)).drew.cell? ⟨w.heap.size,8,none⟩=some (.int .i64 ca)∧((w.alloc (.cells #[.int .i64 wk,.int .i64 cp,.int .i64 pg,.int .i64 st,.int .i64 tr,.int .i64 wt,.int .i64 ck,.int .i64 pr,.int .i64 ca,.int .i64 bi,.int .i64 ba] 23)).alloc (.cells #[.int .i64 0,.int .i64 0,.int .i64 0,.int .i64 0,.int .i64 0,.int .i64 0,.int .i64 0,.int .i64 0,.int .i64 0,.int .i64 0,.int .i64 0] 23)).drew.cell? ⟨w.heap.size,9,none⟩=some (.int .i64 bi)∧((w.alloc (.cells #[.int .i64 wk,.int .i64 cp,.int .i64 pg,.int .i64 st,.int .i64 tr,.int .i64 wt,.int .i64 ck,.int .i64 pr,.int .i64 ca,.int .i64 bi,.int .i64 ba] 23)).alloc (.cells #[.int .i64 0,.int .i64 0,.int .i64 0,.int .i64 0,.int .i64 0,.int .i64 0,.int .i64 0,.int .i64 0,.int .i64 0,.int .i64 0,.int .i64 0] 23)).drew.cell? ⟨w.heap.size,10,none⟩=some (.int .i64 ba)):=HN.o.cells ((((ae.refl _).alloc _)).drew)
 go_enter Tryz.func68,Tryz.ntmps68
 go_wp2_with fail
 go_region_held3 (fun w'=>w'.cell? ⟨w.heap.size,0,none⟩=some (.int .i64 wk)∧w'.cell? ⟨w.heap.size,1,none⟩=some (.int .i64 cp)∧w'.cell? ⟨w.heap.size,2,none⟩=some (.int .i64 pg)∧w'.cell? ⟨w.heap.size,3,none⟩=some (.int .i64 st)∧w'.cell? ⟨w.heap.size,4,none⟩=some (.int .i64 tr)∧w'.cell? ⟨w.heap.size,5,none⟩=some (.int .i64 wt)∧w'.cell? ⟨w.heap.size,6,none⟩=some (.int .i64 ck)∧w'.cell? ⟨w.heap.size,7,none⟩=some (.int .i64 pr)∧w'.cell? ⟨w.heap.size,8,none⟩=some (.int .i64 ca)∧w'.cell? ⟨w.heap.size,9,none⟩=some (.int .i64 bi)∧w'.cell? ⟨w.heap.size,10,none⟩=some (.int .i64 ba))
  (first|exact HS.o|go_keep)
  (first|(go_at_call 99;refine(Bv _ _ _ _ (by omega) (by omega) (by omega) (by first|exact Hwk.o|exact Hcp.o|exact Hpg.o|exact Hst.o|exact Htr.o|exact Hwt.o|exact Hck.o|exact Hpr.o|exact Hca.o|exact Hbi.o|exact Hba.o)).mono ?_;rintro e w' ⟨rfl,rfl⟩))
 all_goals go_wp2_with fail
 all_goals refine bodyPost_ret (v:=.agg #[.int .i64 (aV wk 1 64),.int .i64 (aV cp 1 8),.int .i64 (aV pg 1 256),.int .i64 (aV st 1 64),.int .i64 (aV tr 0 16),.int .i64 (aV wt 0 64),.int .i64 (aV ck 1 1099511627776),.int .i64 (aV pr 1 8),.int .i64 (aV ca 0 8),.int .i64 (aV bi 0 16),.int .i64 (aV ba 1 8)]) (by simp[results,Tryz.results68,go_sem]) rfl ⟨rfl,?_⟩
 all_goals first|exact(((ae.refl _).alloc _).alloc _).drew|exact((ae.refl _).alloc _).alloc _
theorem lV {x:Int}(h:(Lit.int .i64 x).wf=true): -9223372036854775808≤x:=by
 simp only[Lit.wf,Bool.and_eq_true,decide_eq_true_eq] at h
 have e:IntKind.i64.min= -9223372036854775808:=by decide
 omega
theorem lW {x:Int}(h:(Lit.int .i64 x).wf=true):x≤9223372036854775807:=by
 simp only[Lit.wf,Bool.and_eq_true,decide_eq_true_eq] at h
 have e:IntKind.i64.max=9223372036854775807:=by decide
 omega
theorem Bz (y0 y1 y2 y3 y4 y5 y6 y7 y8 y9 y10:Int)(f0:(Lit.int .i64 y0).wf=true)(f1:(Lit.int .i64 y1).wf=true)(f2:(Lit.int .i64 y2).wf=true)(f3:(Lit.int .i64 y3).wf=true)(f4:(Lit.int .i64 y4).wf=true)(f5:(Lit.int .i64 y5).wf=true)(f6:(Lit.int .i64 y6).wf=true)(f7:(Lit.int .i64 y7).wf=true)(f8:(Lit.int .i64 y8).wf=true)(f9:(Lit.int .i64 y9).wf=true)(f10:(Lit.int .i64 y10).wf=true):
 ∃wk cp pg st tr wt ck pr ca bi ba,cT wk cp pg st tr wt ck pr ca bi ba∧Hq (∀W,Calls Tryz.prog 68 #[.agg #[.int .i64 y0,.int .i64 y1,.int .i64 y2,.int .i64 y3,.int .i64 y4,.int .i64 y5,.int .i64 y6,.int .i64 y7,.int .i64 y8,.int .i64 y9,.int .i64 y10]] W (aP W (.agg #[.int .i64 wk,.int .i64 cp,.int .i64 pg,.int .i64 st,.int .i64 tr,.int .i64 wt,.int .i64 ck,.int .i64 pr,.int .i64 ca,.int .i64 bi,.int .i64 ba]))):=
 ⟨(aV y0 1 64),(aV y1 1 8),(aV y2 1 256),(aV y3 1 64),(aV y4 0 16),(aV y5 0 64),(aV y6 1 1099511627776),(aV y7 1 8),(aV y8 0 8),(aV y9 0 16),(aV y10 1 8),DI y0 y1 y2 y3 y4 y5 y6 y7 y8 y9 y10,fun W=>ze y0 y1 y2 y3 y4 y5 y6 y7 y8 y9 y10 W ⟨lV f0,lW f0⟩ ⟨lV f1,lW f1⟩ ⟨lV f2,lW f2⟩ ⟨lV f3,lW f3⟩ ⟨lV f4,lW f4⟩ ⟨lV f5,lW f5⟩ ⟨lV f6,lW f6⟩ ⟨lV f7,lW f7⟩ ⟨lV f8,lW f8⟩ ⟨lV f9,lW f9⟩ ⟨lV f10,lW f10⟩⟩
variable (wk cp pg st tr wt ck pr ca bi ba:Int)(w:World)
theorem Nn (R:cT wk cp pg st tr wt ck pr ca bi ba):
 Calls Tryz.prog 167 #[.agg #[.int .i64 wk,.int .i64 cp,.int .i64 pg,.int .i64 st,.int .i64 tr,.int .i64 wt,.int .i64 ck,.int .i64 pr,.int .i64 ca,.int .i64 bi,.int .i64 ba]] w (aP w (.int .i64 (a8 st))):=by
 have h_st1:=R.st1
 have h_st2:=R.st2
 go_enter Tryz.func167,Tryz.ntmps167
 go_wp2
 go_ret
 exact⟨rfl,(ae.refl _).alloc _⟩
theorem Ky (R:cT wk cp pg st tr wt ck pr ca bi ba):
 Calls Tryz.prog 168 #[.agg #[.int .i64 wk,.int .i64 cp,.int .i64 pg,.int .i64 st,.int .i64 tr,.int .i64 wt,.int .i64 ck,.int .i64 pr,.int .i64 ca,.int .i64 bi,.int .i64 ba]] w (aP w (.int .i64 (aL pg))):=by
 have h_pg1:=R.pg1
 have h_pg2:=R.pg2
 go_enter Tryz.func168,Tryz.ntmps168
 go_wp2
 go_ret
 exact⟨rfl,(ae.refl _).alloc _⟩
theorem Np (R:cT wk cp pg st tr wt ck pr ca bi ba):
 Calls Tryz.prog 163 #[.agg #[.int .i64 wk,.int .i64 cp,.int .i64 pg,.int .i64 st,.int .i64 tr,.int .i64 wt,.int .i64 ck,.int .i64 pr,.int .i64 ca,.int .i64 bi,.int .i64 ba]] w (aP w (.int .i64 (bo st pg))):=by
 have HR:=hQQ R
 have b1:=ss R
 have b2:=oU R
 have h1:=R.pg1
 have h2:=R.pg2
 have q0:IntKind.i64.wrap (a8 st+aL pg)=a8 st+aL pg:=az (by omega) (by omega)
 have q1:IntKind.i64.wrap (5 * pg)=5 * pg:=az (by omega) (by omega)
 have q2:IntKind.i64.wrap (a8 st+aL pg+5 * pg)=a8 st+aL pg+5 * pg:=az (by omega) (by omega)
 have HC:=hQQ (gT w 73 wk cp pg st tr wt ck pr ca bi ba)
 have HM:Hq (ae w (w.alloc (.cells #[.int .i64 wk,.int .i64 cp,.int .i64 pg,.int .i64 st,.int .i64 tr,.int .i64 wt,.int .i64 ck,.int .i64 pr,.int .i64 ca,.int .i64 bi,.int .i64 ba] 73))):=(ae.refl w).alloc _
 clear R
 go_enter Tryz.func163,Tryz.ntmps163
 go_wp2_with fail
 generalize w.alloc (.cells #[.int .i64 wk,.int .i64 cp,.int .i64 pg,.int .i64 st,.int .i64 tr,.int .i64 wt,.int .i64 ck,.int .i64 pr,.int .i64 ca,.int .i64 bi,.int .i64 ba] 73)=W0 at *
 have hne:∃W,ae W0 W:=⟨W0,ae.refl _⟩
 refine bT (by kernel_rfl) (by kernel_rfl) ?_
 iterate 11
  with_reducible refine wpQuiet_step (fun K hK=>?_)
  go_simp
  first
  |(refine hK _ ?_;clear hK K)
  |(apply Exists.intro
    refine⟨fun W hW=>?_,hK _ ?_⟩
    first
    |(go_at_call 167;exact Calls.more hW (Nn _ _ _ _ _ _ _ _ _ _ _ _ HR.o))
    |(go_at_call 168;exact Calls.more hW (Ky _ _ _ _ _ _ _ _ _ _ _ _ HR.o))
    |(obtain⟨e0,e1,e2,e3,e4,e5,e6,e7,e8,e9,e10⟩:=HC.o.cells hW;go_simp;try rfl)
    clear hK K)
 refine wpQuiet_nil ?_
 intro W hW
 have HW:=hQQ hW
 clear hW
 go_wp2_with fail
 go_ret
 exact⟨rfl,HM.o.trans HW.o⟩
theorem Kz (R:cT wk cp pg st tr wt ck pr ca bi ba):
 Calls Tryz.prog 155 #[.agg #[.int .i64 wk,.int .i64 cp,.int .i64 pg,.int .i64 st,.int .i64 tr,.int .i64 wt,.int .i64 ck,.int .i64 pr,.int .i64 ca,.int .i64 bi,.int .i64 ba]] w (aP w (.int .i64 (dt st pg))):=by
 have b1:=wX R
 have HR:=hQQ R
 have e:=(gT w 73 wk cp pg st tr wt ck pr ca bi ba).cells (ae.refl _)
 clear R
 go_enter Tryz.func155,Tryz.ntmps155
 go_wp2_with fail
 refine(Np _ _ _ _ _ _ _ _ _ _ _ _ HR.o).mono ?_
 rintro e w1 ⟨rfl,h1⟩
 go_wp2_with fail
 go_ret
 exact⟨rfl,((ae.refl _).alloc _).trans h1⟩
theorem O4 (R:cT wk cp pg st tr wt ck pr ca bi ba):
 Calls Tryz.prog 144 #[.agg #[.int .i64 wk,.int .i64 cp,.int .i64 pg,.int .i64 st,.int .i64 tr,.int .i64 wt,.int .i64 ck,.int .i64 pr,.int .i64 ca,.int .i64 bi,.int .i64 ba]] w (aP w (.int .i64 (fO cp pg st ca))):=by
 have HR:=hQQ R
 have b1:=rP R
 have b2:=pW R
 have h1:=R.cp1
 have h2:=R.cp2
 have h3:=R.ca1
 have h4:=R.ca2
 have q0:IntKind.i64.wrap (5 * cp)=5 * cp:=az (by omega) (by omega)
 have q1:IntKind.i64.wrap (ca+1)=ca+1:=az (by omega) (by omega)
 have q2:IntKind.i64.wrap (5 * cp * (ca+1))=5 * cp * (ca+1):=az (by omega) (by omega)
 have q3:IntKind.i64.wrap (dt st pg+5 * cp * (ca+1))=dt st pg+5 * cp * (ca+1):=az (by omega) (by omega)
 have HC:=hQQ (gT w 73 wk cp pg st tr wt ck pr ca bi ba)
 have HM:Hq (ae w (w.alloc (.cells #[.int .i64 wk,.int .i64 cp,.int .i64 pg,.int .i64 st,.int .i64 tr,.int .i64 wt,.int .i64 ck,.int .i64 pr,.int .i64 ca,.int .i64 bi,.int .i64 ba] 73))):=(ae.refl w).alloc _
 clear R
 go_enter Tryz.func144,Tryz.ntmps144
 go_wp2_with fail
 generalize w.alloc (.cells #[.int .i64 wk,.int .i64 cp,.int .i64 pg,.int .i64 st,.int .i64 tr,.int .i64 wt,.int .i64 ck,.int .i64 pr,.int .i64 ca,.int .i64 bi,.int .i64 ba] 73)=W0 at *
 have hne:∃W,ae W0 W:=⟨W0,ae.refl _⟩
 refine bT (by kernel_rfl) (by kernel_rfl) ?_
 iterate 13
  with_reducible refine wpQuiet_step (fun K hK=>?_)
  go_simp
  first
  |(refine hK _ ?_;clear hK K)
  |(apply Exists.intro
    refine⟨fun W hW=>?_,hK _ ?_⟩
    first
    |(go_at_call 155;exact Calls.more hW (Kz _ _ _ _ _ _ _ _ _ _ _ _ HR.o))
    |(obtain⟨e0,e1,e2,e3,e4,e5,e6,e7,e8,e9,e10⟩:=HC.o.cells hW;go_simp;try rfl)
    clear hK K)
 refine wpQuiet_nil ?_
 intro W hW
 have HW:=hQQ hW
 clear hW
 go_wp2_with fail
 go_ret
 exact⟨rfl,HM.o.trans HW.o⟩
theorem O6 (R:cT wk cp pg st tr wt ck pr ca bi ba):
 Calls Tryz.prog 124 #[.agg #[.int .i64 wk,.int .i64 cp,.int .i64 pg,.int .i64 st,.int .i64 tr,.int .i64 wt,.int .i64 ck,.int .i64 pr,.int .i64 ca,.int .i64 bi,.int .i64 ba]] w (aP w (.int .i64 (eK cp pg st ca bi))):=by
 have HR:=hQQ R
 have b1:=Dw R
 have h1:=R.bi1
 have h2:=R.bi2
 have q0:IntKind.i64.wrap (bi+1)=bi+1:=az (by omega) (by omega)
 have q1:IntKind.i64.wrap (5 * (bi+1))=5 * (bi+1):=az (by omega) (by omega)
 have q2:IntKind.i64.wrap (fO cp pg st ca+5 * (bi+1))=fO cp pg st ca+5 * (bi+1):=az (by omega) (by omega)
 have HC:=hQQ (gT w 73 wk cp pg st tr wt ck pr ca bi ba)
 have HM:Hq (ae w (w.alloc (.cells #[.int .i64 wk,.int .i64 cp,.int .i64 pg,.int .i64 st,.int .i64 tr,.int .i64 wt,.int .i64 ck,.int .i64 pr,.int .i64 ca,.int .i64 bi,.int .i64 ba] 73))):=(ae.refl w).alloc _
 clear R
 go_enter Tryz.func124,Tryz.ntmps124
 go_wp2_with fail
 generalize w.alloc (.cells #[.int .i64 wk,.int .i64 cp,.int .i64 pg,.int .i64 st,.int .i64 tr,.int .i64 wt,.int .i64 ck,.int .i64 pr,.int .i64 ca,.int .i64 bi,.int .i64 ba] 73)=W0 at *
 have hne:∃W,ae W0 W:=⟨W0,ae.refl _⟩
 refine bT (by kernel_rfl) (by kernel_rfl) ?_
 iterate 9
  with_reducible refine wpQuiet_step (fun K hK=>?_)
  go_simp
  first
  |(refine hK _ ?_;clear hK K)
  |(apply Exists.intro
    refine⟨fun W hW=>?_,hK _ ?_⟩
    first
    |(go_at_call 144;exact Calls.more hW (O4 _ _ _ _ _ _ _ _ _ _ _ _ HR.o))
    |(obtain⟨e0,e1,e2,e3,e4,e5,e6,e7,e8,e9,e10⟩:=HC.o.cells hW;go_simp;try rfl)
    clear hK K)
 refine wpQuiet_nil ?_
 intro W hW
 have HW:=hQQ hW
 clear hW
 go_wp2_with fail
 go_ret
 exact⟨rfl,HM.o.trans HW.o⟩
theorem O7 (R:cT wk cp pg st tr wt ck pr ca bi ba):
 Calls Tryz.prog 102 #[.agg #[.int .i64 wk,.int .i64 cp,.int .i64 pg,.int .i64 st,.int .i64 tr,.int .i64 wt,.int .i64 ck,.int .i64 pr,.int .i64 ca,.int .i64 bi,.int .i64 ba]] w (aP w (.int .i64 (fQ cp pg st ca bi))):=by
 have HR:=hQQ R
 have b1:=su R
 have h1:=R.pg1
 have h2:=R.pg2
 have q0:IntKind.i64.wrap (32 * pg)=32 * pg:=az (by omega) (by omega)
 have q1:IntKind.i64.wrap (eK cp pg st ca bi+32 * pg)=eK cp pg st ca bi+32 * pg:=az (by omega) (by omega)
 have q2:IntKind.i64.wrap (eK cp pg st ca bi+32 * pg+127)=eK cp pg st ca bi+32 * pg+127:=az (by omega) (by omega)
 have q3:IntKind.i64.wrap ((eK cp pg st ca bi+32 * pg+127) / 128 * 128)=(eK cp pg st ca bi+32 * pg+127) / 128 * 128:=az (by omega) (by omega)
 have qd:IntKind.i64.wrap ((eK cp pg st ca bi+32 * pg+127).tdiv 128)=(eK cp pg st ca bi+32 * pg+127) / 128:=by
  rw[Int.tdiv_eq_ediv_of_nonneg (by omega)];exact az (by omega) (by omega)
 have HC:=hQQ (gT w 73 wk cp pg st tr wt ck pr ca bi ba)
 have HM:Hq (ae w (w.alloc (.cells #[.int .i64 wk,.int .i64 cp,.int .i64 pg,.int .i64 st,.int .i64 tr,.int .i64 wt,.int .i64 ck,.int .i64 pr,.int .i64 ca,.int .i64 bi,.int .i64 ba] 73))):=(ae.refl w).alloc _
 clear R
 go_enter Tryz.func102,Tryz.ntmps102
 go_wp2_with fail
 generalize w.alloc (.cells #[.int .i64 wk,.int .i64 cp,.int .i64 pg,.int .i64 st,.int .i64 tr,.int .i64 wt,.int .i64 ck,.int .i64 pr,.int .i64 ca,.int .i64 bi,.int .i64 ba] 73)=W0 at *
 have hne:∃W,ae W0 W:=⟨W0,ae.refl _⟩
 refine bT (by kernel_rfl) (by kernel_rfl) ?_
 iterate 11
  with_reducible refine wpQuiet_step (fun K hK=>?_)
  go_simp
  first
  |(refine hK _ ?_;clear hK K)
  |(apply Exists.intro
    refine⟨fun W hW=>?_,hK _ ?_⟩
    first
    |(go_at_call 124;exact Calls.more hW (O6 _ _ _ _ _ _ _ _ _ _ _ _ HR.o))
    |(obtain⟨e0,e1,e2,e3,e4,e5,e6,e7,e8,e9,e10⟩:=HC.o.cells hW;go_simp;try rfl)
    clear hK K)
 refine wpQuiet_nil ?_
 intro W hW
 have HW:=hQQ hW
 clear hW
 go_wp2_with fail
 go_ret
 exact⟨rfl,HM.o.trans HW.o⟩
theorem Nq (R:cT wk cp pg st tr wt ck pr ca bi ba):
 Calls Tryz.prog 72 #[.agg #[.int .i64 wk,.int .i64 cp,.int .i64 pg,.int .i64 st,.int .i64 tr,.int .i64 wt,.int .i64 ck,.int .i64 pr,.int .i64 ca,.int .i64 bi,.int .i64 ba]] w (aP w (.int .i64 (eT cp pg st ca bi))):=by
 have HR:=hQQ R
 have b1:=oV R
 have h1:=R.pg1
 have h2:=R.pg2
 have q0:IntKind.i64.wrap (32 * pg)=32 * pg:=az (by omega) (by omega)
 have q1:IntKind.i64.wrap (fQ cp pg st ca bi+32 * pg)=fQ cp pg st ca bi+32 * pg:=az (by omega) (by omega)
 have HC:=hQQ (gT w 73 wk cp pg st tr wt ck pr ca bi ba)
 have HM:Hq (ae w (w.alloc (.cells #[.int .i64 wk,.int .i64 cp,.int .i64 pg,.int .i64 st,.int .i64 tr,.int .i64 wt,.int .i64 ck,.int .i64 pr,.int .i64 ca,.int .i64 bi,.int .i64 ba] 73))):=(ae.refl w).alloc _
 clear R
 go_enter Tryz.func72,Tryz.ntmps72
 go_wp2_with fail
 generalize w.alloc (.cells #[.int .i64 wk,.int .i64 cp,.int .i64 pg,.int .i64 st,.int .i64 tr,.int .i64 wt,.int .i64 ck,.int .i64 pr,.int .i64 ca,.int .i64 bi,.int .i64 ba] 73)=W0 at *
 have hne:∃W,ae W0 W:=⟨W0,ae.refl _⟩
 refine bT (by kernel_rfl) (by kernel_rfl) ?_
 iterate 8
  with_reducible refine wpQuiet_step (fun K hK=>?_)
  go_simp
  first
  |(refine hK _ ?_;clear hK K)
  |(apply Exists.intro
    refine⟨fun W hW=>?_,hK _ ?_⟩
    first
    |(go_at_call 102;exact Calls.more hW (O7 _ _ _ _ _ _ _ _ _ _ _ _ HR.o))
    |(obtain⟨e0,e1,e2,e3,e4,e5,e6,e7,e8,e9,e10⟩:=HC.o.cells hW;go_simp;try rfl)
    clear hK K)
 refine wpQuiet_nil ?_
 intro W hW
 have HW:=hQQ hW
 clear hW
 go_wp2_with fail
 go_ret
 exact⟨rfl,HM.o.trans HW.o⟩
variable (wk cp pg st tr wt ck pr ca bi ba:Int)(w:World)
open Go.Sort Go.Maps Go.Shelf
section
variable {P:Program}{ops:Array Oper}{rest:List Oper}{o:Oper}{a:Act}{w:World}{Q:Exit→Act→World→Prop}
theorem rK (hw:Region.wanted o (yielded ops a.tmps)=true)(ty:TypeId)(x:Operand)(ho:o.op=.load ty x)(g i:Nat)(hx:a.eval x=.pointer (some ⟨g,i,none⟩))(k:IntKind)(hu:P.underlying ty=some (.int k))(v:Value)(hc:w.cell? ⟨g,i,none⟩=some v)
 (h:wpList P ops Q rest (a.put o.dst v) w):wpList P ops Q (o::rest) a w :=
 dR hw fun K hK=>by
  have hr:(loadVar ty ⟨g,i,none⟩).run P w=.ok v w:=fH hu rfl hc
  unfold Oper.wp Oper.upon execOp
  simp only[ho,hx,Instr.loadAt,Instr.sureAddr,Sem.run_bind,Sem.run_pure,Result.andThen_ok,hr]
  exact hK _ _ h
theorem gV (hw:Region.wanted o (yielded ops a.tmps)=true)(ty:TypeId)(x y:Operand)(ho:o.op=.store ty x y)(hd:o.dst=none)(g i:Nat)(hx:a.eval x=.pointer (some ⟨g,i,none⟩))(z:Int)(hy:a.eval y=.int .i64 z)(cs:Array Value)(t:TypeId)(hg:w.heap[g]?=some (.cells cs t (0,0)))(hi:i<cs.size)(hsz:(P.info? ty).map (·.size)=some 1)
 (h:∀w',w'.heap[g]?=some (.cells (cs.setIfInBounds i (.int .i64 z)) t (0,0))→Turned (fun k=>k=g) w w'→wpList P ops Q rest a w'):wpList P ops Q (o::rest) a w :=
 dR hw fun K hK=>by
  have hc:w.cell? ⟨g,i,none⟩=some cs[i]:=by rw[cell_of_row w g i cs t _ hg,Array.getElem?_eq_getElem hi]
  have hf:w.frozen? ⟨g,i,none⟩=false:=frozen_of_row w g i cs t hg
  have hs:(Instr.storeAt ty (.pointer (some ⟨g,i,none⟩)) (.int .i64 z)).run P w=.ok () (w.setCell ⟨g,i,none⟩ (.int .i64 z)):=by
   cases hq:P.info? ty with
   |none=>rw[hq] at hsz;simp at hsz
   |some d =>
    rw[hq] at hsz
    have hs1:d.size=1:=by simpa using hsz
    simp[hc,hf,go_sem,sizeOf,typeInfo,hq,hs1]
  have:=hK _ _ (h _ (bu (.int .i64 z) hg) (Turned.setCell (Turned.refl _ w) ⟨g,i,none⟩ (.int .i64 z) (fun _=>rfl)))
  unfold Oper.wp Oper.upon execOp
  simp only[ho,hx,hy,Sem.run_bind,Sem.run_pure,hs,Result.andThen_ok,hd]
  exact this
end
def kW (c:Cfg):Cfg:= { wk:=1+c.wk % 4,cp:=1+c.cp % 2,pg:=1+c.pg % 9,st:=1+c.st % 4,tr:=c.tr,wt:=c.wt,ck:=c.ck,pr:=1+c.pr % 3,ca:=c.ca % 3,bi:=c.bi % 4,ba:=1+c.ba % 3 }
structure Cfg.Small (c:Cfg):Prop where
 ok:c.Ok
 cp2:c.cp≤2
 pg9:c.pg≤9
 st4:c.st≤4
 ca2:c.ca≤2
 bi3:c.bi≤3
theorem qY {c:Cfg}(R:c.Ok):(kW c).Small:=by
 have h1:=R.wk1;have h2:=R.cp1;have h3:=R.pg1;have h4:=R.st1;have h5:=R.tr1;have h6:=R.tr2;have h7:=R.wt1;have h8:=R.wt2;have h9:=R.ck1;have h10:=R.ck2;have h11:=R.pr1;have h12:=R.ca1;have h13:=R.bi1;have h14:=R.ba1
 unfold kW
 refine⟨?_,?_,?_,?_,?_,?_⟩<;>try (show _≤_;simp only;omega)
 constructor<;>(simp only;omega)
theorem Cfg.Small.words {c:Cfg}(S:c.Small):160≤c.words∧c.words≤800:=by
 have hb:=A5 S.ok
 refine⟨hb.1,?_⟩
 have h1:=S.cp2;have h2:=S.pg9;have h3:=S.st4;have h4:=S.ca2;have h5:=S.bi3
 have c0:=S.ok.cp1;have c1:=S.ok.ca1;have c2:=S.ok.bi1;have c3:=S.ok.pg1
 have pb:c.cp * (c.ca+1)≤2 * 3:=Int.mul_le_mul h1 (by omega) (by omega) (by omega)
 have pa:5 * c.cp * (c.ca+1)=5 * (c.cp * (c.ca+1)):=by rw[Int.mul_assoc]
 unfold Cfg.words eT fQ eK fO dt bo a8 aL
 rw[pa]
 omega
theorem Cfg.Small.tbl {c:Cfg}(S:c.Small){n:Nat}(hn:(n:Int)=c.words):TblIn c.pg c.st n:=by
 refine⟨S.ok.st1,S.ok.st2,S.ok.pg1,S.ok.pg2,?_⟩
 rw[hn]
 have h1:=su S.ok;have h2:=oV S.ok;have h3:=S.ok.pg1
 have h4:a8 c.st+aL c.pg≤bo c.st c.pg:=by unfold bo;omega
 have h5:bo c.st c.pg≤eK c.cp c.pg c.st c.ca c.bi:=by
  have:=pW S.ok;have:=S.ok.bi1
  unfold eK fO dt;omega
 show _≤eT c.cp c.pg c.st c.ca c.bi
 unfold eT
 omega
theorem vJ {c:Cfg}(R:c.Ok)(y0 y1 y2 y3 y4 y5 y6 y7 y8 y9 y10:Int)(v:Value)(w:World)(hS:∀W,Calls Tryz.prog 68 #[v] W (aP W (.agg #[.int .i64 c.wk,.int .i64 c.cp,.int .i64 c.pg,.int .i64 c.st,.int .i64 c.tr,.int .i64 c.wt,.int .i64 c.ck,.int .i64 c.pr,.int .i64 c.ca,.int .i64 c.bi,.int .i64 c.ba])))(hv:v=.agg #[.int .i64 y0,.int .i64 y1,.int .i64 y2,.int .i64 y3,.int .i64 y4,.int .i64 y5,.int .i64 y6,.int .i64 y7,.int .i64 y8,.int .i64 y9,.int .i64 y10]):
 Calls Tryz.prog 31 #[v] w (aP w (.agg (kW c).cells)):=by
 have h1:=R.wk1;have h2:=R.cp1;have h3:=R.pg1;have h4:=R.st1;have h11:=R.pr1;have h12:=R.ca1;have h13:=R.bi1;have h14:=R.ba1
 have g1:=R.wk2;have g2:=R.cp2;have g3:=R.pg2;have g4:=R.st2;have g11:=R.pr2;have g12:=R.ca2;have g13:=R.bi2;have g14:=R.ba2
 have t0:c.wk.tmod 4=c.wk % 4:=Int.tmod_eq_emod_of_nonneg (by omega)
 have t1:c.cp.tmod 2=c.cp % 2:=Int.tmod_eq_emod_of_nonneg (by omega)
 have t2:c.pg.tmod 9=c.pg % 9:=Int.tmod_eq_emod_of_nonneg (by omega)
 have t3:c.st.tmod 4=c.st % 4:=Int.tmod_eq_emod_of_nonneg (by omega)
 have t7:c.pr.tmod 3=c.pr % 3:=Int.tmod_eq_emod_of_nonneg (by omega)
 have t8:c.ca.tmod 3=c.ca % 3:=Int.tmod_eq_emod_of_nonneg (by omega)
 have t9:c.bi.tmod 4=c.bi % 4:=Int.tmod_eq_emod_of_nonneg (by omega)
 have t10:c.ba.tmod 3=c.ba % 3:=Int.tmod_eq_emod_of_nonneg (by omega)
 have q0:IntKind.i64.wrap (1+c.wk % 4)=1+c.wk % 4:=az (by omega) (by omega)
 have q1:IntKind.i64.wrap (1+c.cp % 2)=1+c.cp % 2:=az (by omega) (by omega)
 have q2:IntKind.i64.wrap (1+c.pg % 9)=1+c.pg % 9:=az (by omega) (by omega)
 have q3:IntKind.i64.wrap (1+c.st % 4)=1+c.st % 4:=az (by omega) (by omega)
 have q7:IntKind.i64.wrap (1+c.pr % 3)=1+c.pr % 3:=az (by omega) (by omega)
 have q10:IntKind.i64.wrap (1+c.ba % 3)=1+c.ba % 3:=az (by omega) (by omega)
 have HS:=hQQ hS
 clear hS R h1 h2 h3 h4 h11 h12 h13 h14 g1 g2 g3 g4 g11 g12 g13 g14
 subst hv
 have HA0:=hQQ (aY w #[.int .i64 y0,.int .i64 y1,.int .i64 y2,.int .i64 y3,.int .i64 y4,.int .i64 y5,.int .i64 y6,.int .i64 y7,.int .i64 y8,.int .i64 y9,.int .i64 y10] 23)
 have HA:Hq (((w.alloc (.cells #[.int .i64 y0,.int .i64 y1,.int .i64 y2,.int .i64 y3,.int .i64 y4,.int .i64 y5,.int .i64 y6,.int .i64 y7,.int .i64 y8,.int .i64 y9,.int .i64 y10] 23)).alloc (.cells #[.int .i64 0,.int .i64 0,.int .i64 0,.int .i64 0,.int .i64 0,.int .i64 0,.int .i64 0,.int .i64 0,.int .i64 0,.int .i64 0,.int .i64 0] 23)).heap[w.heap.size]?=some (.cells #[.int .i64 y0,.int .i64 y1,.int .i64 y2,.int .i64 y3,.int .i64 y4,.int .i64 y5,.int .i64 y6,.int .i64 y7,.int .i64 y8,.int .i64 y9,.int .i64 y10] 23 (0,0))):=((ae.refl _).alloc _).block HA0.o
 have HZ0:Hq (((w.alloc (.cells #[.int .i64 y0,.int .i64 y1,.int .i64 y2,.int .i64 y3,.int .i64 y4,.int .i64 y5,.int .i64 y6,.int .i64 y7,.int .i64 y8,.int .i64 y9,.int .i64 y10] 23)).alloc (.cells #[.int .i64 0,.int .i64 0,.int .i64 0,.int .i64 0,.int .i64 0,.int .i64 0,.int .i64 0,.int .i64 0,.int .i64 0,.int .i64 0,.int .i64 0] 23)).heap[w.heap.size+1]?=some (.cells #[.int .i64 0,.int .i64 0,.int .i64 0,.int .i64 0,.int .i64 0,.int .i64 0,.int .i64 0,.int .i64 0,.int .i64 0,.int .i64 0,.int .i64 0] 23 (0,0))):=by
  have:=aY (w.alloc (.cells #[.int .i64 y0,.int .i64 y1,.int .i64 y2,.int .i64 y3,.int .i64 y4,.int .i64 y5,.int .i64 y6,.int .i64 y7,.int .i64 y8,.int .i64 y9,.int .i64 y10] 23)) #[.int .i64 0,.int .i64 0,.int .i64 0,.int .i64 0,.int .i64 0,.int .i64 0,.int .i64 0,.int .i64 0,.int .i64 0,.int .i64 0,.int .i64 0] 23
  rwa [World.size_alloc] at this
 have HM:Hq (ae w ((w.alloc (.cells #[.int .i64 y0,.int .i64 y1,.int .i64 y2,.int .i64 y3,.int .i64 y4,.int .i64 y5,.int .i64 y6,.int .i64 y7,.int .i64 y8,.int .i64 y9,.int .i64 y10] 23)).alloc (.cells #[.int .i64 0,.int .i64 0,.int .i64 0,.int .i64 0,.int .i64 0,.int .i64 0,.int .i64 0,.int .i64 0,.int .i64 0,.int .i64 0,.int .i64 0] 23))):=((ae.refl w).alloc _).alloc _
 go_enter Tryz.func31,Tryz.ntmps31
 go_wp2_with (refine sw rfl rfl rfl HA.o (by kernel_rfl) ?_)
 refine(HS.o _).mono ?_
 rintro e w4 ⟨rfl,m4⟩
 have HB4:=hQQ (setRow_heap w4 w.heap.size _ #[.int .i64 c.wk,.int .i64 c.cp,.int .i64 c.pg,.int .i64 c.st,.int .i64 c.tr,.int .i64 c.wt,.int .i64 c.ck,.int .i64 c.pr,.int .i64 c.ca,.int .i64 c.bi,.int .i64 c.ba] _ _ (m4.block HA.o))
 have HZ4:Hq ((w4.setRow w.heap.size #[.int .i64 c.wk,.int .i64 c.cp,.int .i64 c.pg,.int .i64 c.st,.int .i64 c.tr,.int .i64 c.wt,.int .i64 c.ck,.int .i64 c.pr,.int .i64 c.ca,.int .i64 c.bi,.int .i64 c.ba]).heap[w.heap.size+1]?=_):=hQQ ((setRow_other w4 w.heap.size (w.heap.size+1) #[.int .i64 c.wk,.int .i64 c.cp,.int .i64 c.pg,.int .i64 c.st,.int .i64 c.tr,.int .i64 c.wt,.int .i64 c.ck,.int .i64 c.pr,.int .i64 c.ca,.int .i64 c.bi,.int .i64 c.ba] (by omega)).trans (m4.block HZ0.o))
 have HM4:Hq (ae w (w4.setRow w.heap.size #[.int .i64 c.wk,.int .i64 c.cp,.int .i64 c.pg,.int .i64 c.st,.int .i64 c.tr,.int .i64 c.wt,.int .i64 c.ck,.int .i64 c.pr,.int .i64 c.ca,.int .i64 c.bi,.int .i64 c.ba])):=(HM.o.trans m4).setRow _ _ (Nat.le_refl _)
 have HX4:=hQQ (m4.block HA.o)
 clear m4
 have hw1:w.heap.size+1<(w4.setRow w.heap.size #[.int .i64 c.wk,.int .i64 c.cp,.int .i64 c.pg,.int .i64 c.st,.int .i64 c.tr,.int .i64 c.wt,.int .i64 c.ck,.int .i64 c.pr,.int .i64 c.ca,.int .i64 c.bi,.int .i64 c.ba]).heap.size:=ac HZ4.o
 go_wp2_with (first
  |(refine wpList_store_row rfl 23 _ _ rfl _ _ rfl rfl 23 _ HX4.o (by kernel_rfl) rfl (by simp[Value.oneCell']) ?_;generalize w4.setRow w.heap.size #[.int .i64 c.wk,.int .i64 c.cp,.int .i64 c.pg,.int .i64 c.st,.int .i64 c.tr,.int .i64 c.wt,.int .i64 c.ck,.int .i64 c.pr,.int .i64 c.ca,.int .i64 c.bi,.int .i64 c.ba]=w5 at HB4 HZ4 HM4 hw1⊢;have HB:=HB4;have HZ:=HZ4;have HT:=HM4;clear HX4 HB4 HZ4 HM4)
  |(refine rK rfl 3 _ rfl w.heap.size _ rfl .i64 Tryz.underlying3 _ (bb HB.o (ae.refl _) rfl) ?_)
  |(refine gV rfl 3 _ _ rfl rfl w.heap.size _ rfl _ rfl _ _ HB.o (by simp) (by kernel_rfl) ?_;intro w6 hb6 ht6;simp only[List.setIfInBounds_toArray,List.set_cons_zero,List.set_cons_succ] at hb6;have HZ:=hQQ ((Turned.block ht6 (w.heap.size+1) (ac HZ.o) (by omega)).trans HZ.o);have HT:Hq (ae w w6):=hQQ (Turned.mono (am (F:=fun _=>False) HT.o ht6 (fun k q=> .inr (by omega))) (fun _ _ q=>q));have HB:=hQQ hb6;clear hb6 ht6)
  |(refine sw rfl rfl rfl HB.o (by kernel_rfl) ?_)
  |(refine wpList_store_row rfl 23 _ _ rfl _ _ rfl rfl 23 _ HZ.o (by kernel_rfl) rfl (by simp[Value.oneCell']) ?_))
 refine bodyPost_ret (v:=.agg (kW c).cells) (results_cell_row Tryz.results31 _ _ _ 23 _ (0,0) _ rfl (setRow_heap _ _ _ _ _ _ HZ.o) Tryz.underlying23 rfl (by kernel_rfl)) rfl ⟨rfl,?_⟩
 exact HT.o.setRow _ _ (by omega)
def cL (n:Nat):List Int:=List.replicate n 0
theorem kh (n:Nat):(cL n).length=n:=by simp[cL]
theorem BA (n:Nat):(madeCells (Value.int .i64 0).cells (n * 1)).toList=(cL n).map (Value.int .i64):=by
 apply List.ext_getElem
 ·simp[madeCells,cL,Value.cells]
 ·intro i h1 h2
  simp[madeCells,cL,Value.cells,Nat.mod_one]
theorem gq (n:Nat):OkW (cL n):=fun x hx=>by
 have:=List.eq_of_mem_replicate hx
 subst this;unfold W64;omega
def Ws (w:World)(g cap:Nat)(zs:List Int):Prop:=∃cur:Array Value,w.heap[g]?=some (.cells cur 3 (0,0))∧zs.length≤cap∧cap≤maxLen∧cur.size=cap∧∀i,i<zs.length→cur[i]?=some (.int .i64 (zs.getD i 0))
theorem Ws.of_rw {w:World}{base g cap:Nat}{zs:List Int}(h:Rw base w (.slice (some ⟨g,0,none⟩) zs.length cap) zs):Ws w g cap zs:=by
 rcases h.2 with⟨q,_⟩|⟨g',cap',cur,q,hb,hg,h1,h2,h3,h4⟩
 ·cases q
 ·cases q
  refine⟨cur,hg,h1,h2,by simpa using h3,fun i hi=>?_⟩
  have h5:(cur.toList.take (zs.length * 1))[i]?=some (.int .i64 (zs.getD i 0)):=by
   rw[h4,List.getElem?_map,List.getElem?_eq_getElem hi];simp[List.getD,hi]
  rw[List.getElem?_take,if_pos (by omega)] at h5
  simpa using h5
theorem Ws.cell {w:World}{g cap:Nat}{zs:List Int}(h:Ws w g cap zs){i:Nat}(hi:i<zs.length):w.cell? ⟨g,i,none⟩=some (.int .i64 (zs.getD i 0)):=by
 obtain⟨cur,hg,_,_,_,h4⟩:=h
 rw[cell_of_row w g i _ _ _ hg,h4 i hi]
theorem Ws.lt {w:World}{g cap:Nat}{zs:List Int}(h:Ws w g cap zs):g<w.heap.size:=by
 obtain⟨cur,hg,_⟩:=h
 exact ac hg
theorem Ws.keep {S:Nat→Prop}{w w':World}{g cap:Nat}{zs:List Int}(h:Ws w g cap zs)(t:Turned S w w')(hs:¬S g):Ws w' g cap zs:=by
 obtain⟨cur,hg,q⟩:=h
 exact⟨cur,(t.block g (ac hg) hs).trans hg,q⟩
theorem Ws.more {w w':World}{g cap:Nat}{zs:List Int}(h:Ws w g cap zs)(t:ae w w'):Ws w' g cap zs:=by
 obtain⟨cur,hg,q⟩:=h
 exact⟨cur,t.block hg,q⟩
theorem Ws.words {w:World}{g cap:Nat}{zs:List Int}(h:Ws w g cap zs):jH w (some ⟨g,0,none⟩) zs :=
 .inr ⟨g,0,rfl,h.lt,fun i hi=>by rw[Nat.zero_add];exact h.cell hi⟩
section
variable {P:Program}{ops:Array Oper}{md:Region.Mode}{C:World→Prop}{Q:Exit→Act→World→Prop}
def bV (P:Program)(ops:Array Oper)(C:World→Prop)(o:Oper)(v:Value)(a:Act):Prop :=
 (Region.wanted o (yielded ops a.tmps)=true∧∀w,C w→(execOp a.eval o).run P w=.ok (.value v) w) ∨
 (Region.wanted o (yielded ops a.tmps)=false∧v=undef)
theorem bV.wpOp {i:Nat}{o:Oper}{v:Value}{a:Act}(hi:ops[i]?=some o)(hy:bV P ops C o v a)
 {K:Act→World→Prop} {w:World} (hC:C w) (h:K (a.put o.dst v) w):wpOp P ops Q i K a w:=by
 unfold Go.wpOp
 simp only[hi]
 rcases hy with⟨hw,hv⟩|⟨hw,rfl⟩
 ·simp only[hw,if_true,Oper.wp,hv w hC,Oper.upon];exact .inl h
 ·simp only[hw,Bool.false_eq_true,if_false];exact h
theorem bV.of_same {o:Oper}{v:Value}{a a':Act}(hy:bV P ops C o v a)(he:execOp a'.eval o=execOp a.eval o)
 (hw:Region.wanted o (yielded ops a'.tmps)=Region.wanted o (yielded ops a.tmps)):bV P ops C o v a':=by
 unfold bV at *
 rw[he,hw]
 exact hy
theorem qj {j:Nat}{oi oj:Oper}{v:Value}(hj:ops[j]?=some oj)(hap:oi.apart ops oj=true)
 (hsi:∀cs b,oi.op≠ .select cs b) (hsj:∀cs b,oj.op≠ .select cs b)
 (hQ:∀c a w,Q (.panic c) (a.put oi.dst v) w→Q (.panic c) a w) {K:Act→World→Prop} {a:Act} {w:World}
 (hy:bV P ops C oi v a) (h:wpOp P ops Q j K (a.put oi.dst v) w):
 wpOp P ops Q j (fun a' w'=>bV P ops C oi v a'∧K (a'.put oi.dst v) w') a w:=by
 obtain⟨h1,h2,h3⟩:=Oper.apart_spec hap
 have keep:∀(a:Act),bV P ops C oi v a→∀u,bV P ops C oi v (a.put oj.dst u):=fun a hy u =>
  hy.of_same (execOp_put oi hsi a oj.dst u h3) (wanted_put oi a oj.dst u h3)
 have keepD:∀d,bV P ops C oi v { a with defers:=d::a.defers } :=fun d=>hy.of_same rfl rfl
 unfold wpOp at *
 simp only[hj] at *
 rw[wanted_put oj a oi.dst v h1] at h
 split
 ·rename_i hw
  simp only[hw,if_true] at h
  rcases h with h|⟨hasks,hlets⟩
  case inr=>exact .inr ⟨by unfold Oper.asks at *;rw[execOp_put oj hsj a oi.dst v h1] at hasks;exact hasks,hlets⟩
  refine .inl ?_
  unfold Oper.wp at *
  rw[execOp_put oj hsj a oi.dst v h1] at h
  generalize (execOp a.eval oj).run P w=r at *
  cases r with
  |ok n w' =>
   cases n<;>simp only[Oper.upon] at h⊢
   case value u=>exact⟨keep a hy u,by rw[←Act.put_comm a v u h2];exact h⟩
   case skip=>exact⟨keep a hy _,by rw[←Act.put_comm a v undef h2];exact h⟩
   case defer d =>
    refine⟨keep _ (keepD d) _,?_⟩
    rw[←Act.put_comm _ v undef h2,←Act.put_defers]
    exact h
   case enter f args =>
    refine Calls.mono h fun e w'' he=>?_
    cases e with
    |returned u=>exact⟨keep a hy u,by rw[←Act.put_comm a v u h2];exact he⟩
    |panicked c=>exact hQ _ _ _ he
    |outgrown=>exact he
   case row row args=>exact Rows.mono h fun u w'' he=>⟨keep a hy u,by rw[←Act.put_comm a v u h2];exact he⟩
  |halt x w' =>
   cases x<;>simp only[Oper.upon] at h⊢
   case panic u=>exact hQ _ _ _ h
 ·rename_i hw
  simp only[hw] at h
  exact⟨keep a hy _,by rw[←Act.put_comm a v undef h2];exact h⟩
def dh (P:Program)(md:Region.Mode)(ops:Array Oper)(C:World→Prop)(Q:Exit→Act→World→Prop):Nat→Array Bool→Act→World→Prop
 | 0,d,a,w=>Region.ready md ops d= []∧Q .normal a w
 |f+1,d,a,w=>(Region.ready md ops d= []→Q .normal a w)∧∀i∈Region.ready md ops d,wpOp P ops Q i (fun a' w'=>C w'∧dh P md ops C Q f (d.setIfInBounds i true) a' w') a w
theorem Ib:∀(f:Nat) (d:Array Bool) (a:Act) (w:World),dh P md ops C Q f d a w→wpAny P md ops Q f d a w:=by
 intro f
 induction f with
 |zero=>intro d a w h;exact h
 |succ f ih=>intro d a w h;exact⟨h.1,fun i hi=>wpOp_mono (fun a' w' z=>ih _ a' w' z.2) (h.2 i hi)⟩
theorem BD {i:Nat}{oi:Oper}{v:Value}(hi:ops[i]?=some oi)(hsel:∀(j:Nat)(o:Oper) cs b,ops[j]?=some o→o.op≠ .select cs b)
 (hQ:∀c a w,Q (.panic c) (a.put oi.dst v) w→Q (.panic c) a w):
 ∀(fuel:Nat) (listed:Array Bool) (a:Act) (w:World),C w →
  (∀j oj,ops[j]?=some oj→j≠i→listed.getD j true=false→(∀e∈oj.after,Region.binds md e=true→e.on≠i)→oi.apart ops oj=true) →
  i∈Region.ready md ops listed→bV P ops C oi v a →
  dh P md ops C Q fuel (listed.setIfInBounds i true) (a.put oi.dst v) w→dh P md ops C Q (fuel+1) listed a w:=by
 intro fuel
 induction fuel with
 |zero =>
  intro listed a w hC _ hr hy H
  refine⟨fun h=>(by rw[h] at hr;cases hr),fun j hj=>?_⟩
  by_cases hji:j=i
  ·subst hji;exact hy.wpOp hi hC ⟨hC,H⟩
  ·have:=ready_mono hj hji
   rw[H.1] at this
   cases this
 |succ fuel ih =>
  intro listed a w hC hfree hr hy H
  refine⟨fun h=>(by rw[h] at hr;cases hr),fun j hj=>?_⟩
  by_cases hji:j=i
  ·subst hji;exact hy.wpOp hi hC ⟨hC,H⟩
  ·have h1:=H.2 j (ready_mono hj hji)
   obtain⟨hjun,oj,hoj,hall⟩:=mem_ready.1 hj
   have hnot:∀e∈oj.after,Region.binds md e=true→e.on≠i:=fun e he hb heq=>by
    have h1:=hall e he hb
    have h0:=(mem_ready.1 hr).1
    rw[heq] at h1
    rcases Nat.lt_or_ge i listed.size with h'|h'
    ·simp[h'] at h0 h1;rw[h0] at h1;cases h1
    ·simp[Array.getElem?_eq_none h'] at h1
   have h2:=qj hoj (hfree j oj hoj hji hjun hnot) (fun cs b=>hsel i oi cs b hi) (fun cs b=>hsel j oj cs b hoj) hQ hy h1
   have hfree':∀k ok,ops[k]?=some ok→k≠i→(listed.setIfInBounds j true).getD k true=false →
    (∀e∈ok.after,Region.binds md e=true→e.on≠i)→oi.apart ops ok=true:=fun k ok hk hki hun hno=>by
    refine hfree k ok hk hki ?_ hno
    by_cases hjk:j=k
    ·subst hjk;exact hjun
    ·rw[getD_set_ne true hjk] at hun;exact hun
   refine wpOp_mono (fun a' w' h3=>⟨h3.2.1,ih (listed.setIfInBounds j true) a' w' h3.2.1 hfree' (ready_mono hr (Ne.symm hji)) h3.1 ?_⟩) h2
   rw[Array.setIfInBounds_comm _ _ hji]
   exact h3.2.2
theorem EU {i:Nat}{oi:Oper}{v:Value}{fuel:Nat}{listed:Array Bool}{a:Act}{w:World}(hi:ops[i]?=some oi)
 (hs:Region.noSelect ops=true) (hf:Region.free md ops listed i=true) (hr:(Region.ready md ops listed).contains i=true)
 (hQ:∀c a w,Q (.panic c) (a.put oi.dst v) w→Q (.panic c) a w) (hC:C w) (hy:bV P ops C oi v a)
 (h:dh P md ops C Q fuel (listed.setIfInBounds i true) (a.put oi.dst v) w):dh P md ops C Q (fuel+1) listed a w :=
 BD hi (Region.noSelect_spec hs) hQ fuel listed a w hC (Region.free_spec hi hf) (by simpa using hr) hy h
theorem gc {i:Nat}{oi:Oper}{v:Value}{fuel:Nat}{listed:Array Bool}{a:Act}{w:World}(d:Option Tmp)(hi:ops[i]?=some oi)(hd:oi.dst=d)
 (hs:Region.noSelect ops=true) (hf:Region.free md ops listed i=true) (hr:(Region.ready md ops listed).contains i=true)
 (hQ:∀c a w,Q (.panic c) (a.put d v) w→Q (.panic c) a w) (hC:C w) (hy:bV P ops C oi v a)
 (h:dh P md ops C Q fuel (listed.setIfInBounds i true) (a.put d v) w):dh P md ops C Q (fuel+1) listed a w:=by
 subst hd;exact EU hi hs hf hr hQ hC hy h
theorem zg {i:Nat}{o:Oper}{fuel:Nat}{listed:Array Bool}{a:Act}{w:World}(hr:Region.ready md ops listed= [i])(hi:ops[i]?=some o)(hw:Region.wanted o (yielded ops a.tmps)=true)
 (h:Oper.wp P o a w (fun a' w'=>C w'∧dh P md ops C Q fuel (listed.setIfInBounds i true) a' w') Q):dh P md ops C Q (fuel+1) listed a w:=by
 refine⟨fun q=>(by rw[hr] at q;cases q),fun j hj=>?_⟩
 rw[hr] at hj
 obtain rfl:j=i:=by simpa using hj
 unfold Go.wpOp
 simp only[hi,hw,if_true]
 exact .inl h
theorem bR {fuel:Nat}{listed:Array Bool}{a:Act}{w:World}(hr:Region.ready md ops listed= [])(h:Q .normal a w):dh P md ops C Q fuel listed a w:=by
 cases fuel with
 |zero=>exact⟨hr,h⟩
 |succ f=>exact⟨fun _=>h,fun i hi=>(by rw[hr] at hi;cases hi)⟩
theorem aD {o:Oper}{a:Act}(hw:Region.wanted o (yielded ops a.tmps)=true)(ty:TypeId)(x:Operand)(ho:o.op=.load ty x)(g:Nat)(hx:a.eval x=.pointer (some ⟨g,0,none⟩))(t:TypeId)(cs:Array Value)(fr:Nat×Nat)(d:TypeDesc)(hg:∀w,C w→w.heap[g]?=some (.cells cs t fr))
 (hu:P.underlying ty=some d) (hd:(match d with| .struct _| .array _ _=>true|_=>false)=true) (hi:(P.info? ty).map (·.size)=some cs.size):bV P ops C o (.agg cs) a:=by
 refine .inl ⟨hw,fun w hC=>?_⟩
 unfold execOp
 simp only[ho,hx,Instr.loadAt,Instr.sureAddr,Sem.run_bind,Sem.run_pure,Result.andThen_ok,run_loadVar_row w g t ty cs fr d (hg w hC) hu hd hi]
end
theorem aO {P:Program}{ops:Array Oper}{id:Nat}{a:Act}{w:World}{Q:Exit→Act→World→Prop}(C:World→Prop)(hm:P.follows .mixedOrders=true)
 (h:dh P .any ops C Q ops.size (Array.replicate ops.size false) a { w with drawn:=w.drawn+1 }):(Code.region id ops true).wp P Q a w:=wp_region_any hm (Ib _ _ _ _ h)
section
variable {P:Program}{o:Oper}{a:Act}{w:World}{K:Act→World→Prop}{Q:Exit→Act→World→Prop}
theorem OD {f:Nat}{ts:Array TypeId}(ho:o.op=.call { callee:= .value (.func f),args:= #[],argTypes:=ts })(he:∀(vs:Array Value)(w:World),Sem.run P (callFunc f vs) w=.ok (.enter f vs) w)
 (h:Calls P f #[] w (fun| .returned v,w''=>K (a.put o.dst v) w''| .panicked ch,w''=>Q (.panic ch) a w''| .outgrown,_=>LetsOut Q)):o.wp P a w K Q:=by
 have hv:a.eval (.func f)=.func (.func f) #[] #[]:=rfl
 unfold Oper.wp Oper.upon
 generalize hρ:a.eval=ρ at hv⊢
 simp[execOp,ho,resolve,invoke,hv,he,Sem.run_bind,Result.andThen,go_sem]
 exact h
theorem i6 {f:Nat}{x0:Operand}{v0:Value}{ts:Array TypeId}(ho:o.op=.call { callee:= .value (.func f),args:= #[x0],argTypes:=ts })(h0:a.eval x0=v0)(he:∀(vs:Array Value)(w:World),Sem.run P (callFunc f vs) w=.ok (.enter f vs) w)
 (h:Calls P f #[v0] w (fun| .returned v,w''=>K (a.put o.dst v) w''| .panicked ch,w''=>Q (.panic ch) a w''| .outgrown,_=>LetsOut Q)):o.wp P a w K Q:=by
 have hv:a.eval (.func f)=.func (.func f) #[] #[]:=rfl
 unfold Oper.wp Oper.upon
 generalize hρ:a.eval=ρ at h0 hv⊢
 simp[execOp,ho,resolve,invoke,hv,h0,he,Sem.run_bind,Result.andThen,go_sem]
 exact h
theorem bH {f:Nat}{x0 x1:Operand}{v0 v1:Value}{ts:Array TypeId}(ho:o.op=.call { callee:= .value (.func f),args:= #[x0,x1],argTypes:=ts })(h0:a.eval x0=v0)(h1:a.eval x1=v1)(he:∀(vs:Array Value)(w:World),Sem.run P (callFunc f vs) w=.ok (.enter f vs) w)
 (h:Calls P f #[v0,v1] w (fun| .returned v,w''=>K (a.put o.dst v) w''| .panicked ch,w''=>Q (.panic ch) a w''| .outgrown,_=>LetsOut Q)):o.wp P a w K Q:=by
 have hv:a.eval (.func f)=.func (.func f) #[] #[]:=rfl
 unfold Oper.wp Oper.upon
 generalize hρ:a.eval=ρ at h0 h1 hv⊢
 simp[execOp,ho,resolve,invoke,hv,h0,h1,he,Sem.run_bind,Result.andThen,go_sem]
 exact h
end
theorem EV {P:Program}{md:Region.Mode}{ops:Array Oper}{Q:Exit→Act→World→Prop}{n:Nat}{dn:Array Bool}{a:Act}{w:World} (Φ:World→Prop)(ch:List PanicEntry)(fin:∀a w,a.defers= []→Φ w→Q (.panic ch) a w)(h:∀Q':Exit→Act→World→Prop,(∀a w,a.defers= []→Φ w→Q' (.panic ch) a w)→wpAny P md ops Q' n dn a w):wpAny P md ops Q n dn a w:=h Q fin
def AG (m:Nat)(a:Act)(L:List (Nat×Value)):Prop:=(m≤a.tmps.size∧a.defers= [])∧∀q∈L,a.eval (.tmp q.1)=q.2
theorem AG.put {m:Nat}{a:Act}{L:List (Nat×Value)}(h:AG m a L)(d:Nat)(v:Value)(hd:d<m)(hn:L.all (fun q=>q.1 != d)=true):AG m (a.put (some d) v) ((d,v)::L):=by
 have hs:=h.1.1
 refine⟨⟨by simp[Act.put];exact hs,h.1.2⟩,?_⟩
 intro q hq
 rcases List.mem_cons.1 hq with rfl|hq
 ·have hlt:d<a.tmps.size:=by omega
  simp[Act.put,Act.eval,Array.getD,hlt]
 ·rw[Act.eval_put (by have:=List.all_eq_true.1 hn q hq;simp at this;rintro _ ⟨⟩;simp[this])]
  exact h.2 q hq
theorem AG.get {m:Nat}{a:Act}{L:List (Nat×Value)}(h:AG m a L)(i:Nat){k:Nat}{v:Value}(hm:L[i]?=some (k,v)):a.eval (.tmp k)=v:=h.2 (k,v) (List.mem_of_getElem? hm)
theorem KA {P:Program}{md:Region.Mode}{ops:Array Oper}{Q:Exit→Act→World→Prop}{n:Nat}{dn:Array Bool}{A:Act}{W:World}(m:Nat)(L:List (Nat×Value))(hA:AG m A L)(h:∀a,AG m a L→wpAny P md ops Q n dn a W):wpAny P md ops Q n dn A W:=h A hA
section
variable {P:Program}{o:Oper}{a:Act}{w:World}{K:Act→World→Prop}{Q:Exit→Act→World→Prop}
theorem dN {f:Nat}{x0 x1 x2:Operand}{v0 v1 v2:Value}{ts:Array TypeId}(ho:o.op=.call { callee:= .value (.func f),args:= #[x0,x1,x2],argTypes:=ts })(h0:a.eval x0=v0)(h1:a.eval x1=v1)(h2:a.eval x2=v2)(he:∀(vs:Array Value)(w:World),Sem.run P (callFunc f vs) w=.ok (.enter f vs) w)
 (h:Calls P f #[v0,v1,v2] w (fun| .returned v,w''=>K (a.put o.dst v) w''| .panicked ch,w''=>Q (.panic ch) a w''| .outgrown,_=>LetsOut Q)):o.wp P a w K Q:=by
 have hv:a.eval (.func f)=.func (.func f) #[] #[]:=rfl
 unfold Oper.wp Oper.upon
 generalize hρ:a.eval=ρ at h0 h1 h2 hv⊢
 simp[execOp,ho,resolve,invoke,hv,h0,h1,h2,he,Sem.run_bind,Result.andThen,go_sem]
 exact h
theorem EW {xf:Operand}{f:Nat}{clo:Array Value}{x0:Operand}{v0:Value}{ts:Array TypeId}(ho:o.op=.call { callee:= .value xf,args:= #[x0],argTypes:=ts })(hf:a.eval xf=.func (.func f) #[] clo)(h0:a.eval x0=v0)(he:∀(vs:Array Value)(w:World),Sem.run P (callFunc f vs) w=.ok (.enter f vs) w)
 (h:Calls P f (#[v0]++clo) w (fun| .returned v,w''=>K (a.put o.dst v) w''| .panicked ch,w''=>Q (.panic ch) a w''| .outgrown,_=>LetsOut Q)):o.wp P a w K Q:=by
 unfold Oper.wp Oper.upon
 generalize hρ:a.eval=ρ at h0 hf⊢
 simp[execOp,ho,resolve,invoke,hf,h0,he,Sem.run_bind,Result.andThen,go_sem]
 exact h
end
theorem bJ {P:Program}{md:Region.Mode}{ops:Array Oper}{C:World→Prop}{Q:Exit→Act→World→Prop}{f:Nat}{d:Array Bool}{a:Act}{w:World} (Φ:Act→World→Prop) (Ψ:World→Prop)(ch:List PanicEntry)(fp:∀a w,a.defers= []→Ψ w→Q (.panic ch) a w)(fq:∀c a k v w,Q (.panic c) (Act.put a (some k) v) w→Q (.panic c) a w)(fn:∀a w,Φ a w→Q .normal a w)
 (h:∀Q':Exit→Act→World→Prop,(∀a w,Φ a w→Q' .normal a w)→(∀a w,a.defers= []→Ψ w→Q' (.panic ch) a w)→(∀c a k v w,Q' (.panic c) (Act.put a (some k) v) w→Q' (.panic c) a w)→dh P md ops C Q' f d a w):dh P md ops C Q f d a w:=h Q fn fp fq
theorem KE {P:Program}{md:Region.Mode}{ops:Array Oper}{C:World→Prop}{Q:Exit→Act→World→Prop}{n:Nat}{dn:Array Bool}{A:Act}{W:World}(m:Nat)(L:List (Nat×Value))(hA:AG m A L)(h:∀a,AG m a L→dh P md ops C Q n dn a W):dh P md ops C Q n dn A W:=h A hA
theorem AG.getD {m:Nat}{a:Act}{L:List (Nat×Value)}(h:AG m a L)(i:Nat){k:Nat}{v:Value}(hm:L[i]?=some (k,v)):a.tmps[k]?.getD undef=v:=by
 have:=h.get i hm
 simpa [Act.eval] using this
section
variable {P:Program}{ops:Array Oper}{md:Region.Mode}{C:World→Prop}{Q:Exit→Act→World→Prop}
theorem dD {o:Oper}{tmps:Array Value}(g:Nat)(b:Bool)(d:Tmp)(hg:o.guard=some (g,b))(hd:(ops[g]?).bind (·.dst)=some d)(h:tmps[d]?=some (.bool b)):Region.wanted o (yielded ops tmps)=true:=by
 simp[Region.wanted,hg,yielded,hd,h]
theorem ab {o:Oper}{f:Nat→Option Bool}(hg:o.guard=none):Region.wanted o f=true:=by simp[Region.wanted,hg]
theorem AG.at {m:Nat}{a:Act}{L:List (Nat×Value)}(h:AG m a L){k:Nat}(hk:k<m)(i:Nat){v:Value}(hm:L[i]?=some (k,v)):a.tmps[k]?=some v:=by
 have h1:=h.getD i hm
 have hl:k<a.tmps.size:=Nat.lt_of_lt_of_le hk h.1.1
 rw[Array.getElem?_eq_getElem hl] at h1⊢
 simpa using h1
theorem cx {o:Oper}{a:Act}{v:Value}(hw:Region.wanted o (yielded ops a.tmps)=true)(x:Operand)(ho:o.op=.move x)(hx:a.eval x=v):bV P ops C o v a :=
 .inl ⟨hw,fun w _=>by unfold execOp;simp only[ho,hx];rfl⟩
theorem ik {o:Oper}{a:Act}{v:Value}{x y z:Operand}(hw:Region.wanted o (yielded ops a.tmps)=true)(ho:o.op=.pick x y z)(hx:a.eval x=.bool true)(hy:a.eval y=v):bV Tryz.prog ops C o v a :=
 .inl ⟨hw,fun w _=>by unfold execOp;generalize a.eval=ρ at hx hy⊢;simp only[ho,hx,hy];go_simp⟩
theorem bF {i:Nat}{o:Oper}{fuel:Nat}{listed:Array Bool}{a:Act}{w:World}(d:Option Tmp)(hr:Region.ready md ops listed= [i])(hi:ops[i]?=some o)(hw:Region.wanted o (yielded ops a.tmps)=true)(hd:o.dst=d)
 (h:∀K:Act→World→Prop,(∀v w',C w'→dh P md ops C Q fuel (listed.setIfInBounds i true) (a.put d v) w'→K (a.put o.dst v) w')→Oper.wp P o a w K Q):dh P md ops C Q (fuel+1) listed a w:=by
 subst hd
 exact zg hr hi hw (h _ (fun v w' hc hA=>⟨hc,hA⟩))
theorem ki {i:Nat}{o:Oper}{fuel:Nat}{listed:Array Bool}{a:Act}{w:World}(hr:Region.ready md ops listed= [i])(hr2:Region.ready md ops (listed.setIfInBounds i true)= [])(hi:ops[i]?=some o)(hw:Region.wanted o (yielded ops a.tmps)=true)
 (h:∀K:Act→World→Prop,(∀v w',C w'→Q .normal (a.put o.dst v) w'→K (a.put o.dst v) w')→Oper.wp P o a w K Q):dh P md ops C Q (fuel+1) listed a w :=
 zg hr hi hw (h _ (fun v w' hc hq=>⟨hc,bR hr2 hq⟩))
variable {o:Oper}{a:Act}{w:World}{K:Act→World→Prop}
theorem kj {f:Nat}{x0 x1 x2 x3 x4:Operand}{v0 v1 v2 v3 v4:Value}{ts:Array TypeId}(ho:o.op=.call { callee:= .value (.func f),args:= #[x0,x1,x2,x3,x4],argTypes:=ts })(h0:a.eval x0=v0)(h1:a.eval x1=v1)(h2:a.eval x2=v2)(h3:a.eval x3=v3)(h4:a.eval x4=v4)(he:∀(vs:Array Value)(w:World),Sem.run P (callFunc f vs) w=.ok (.enter f vs) w)
 (h:Calls P f #[v0,v1,v2,v3,v4] w (fun| .returned v,w''=>K (a.put o.dst v) w''| .panicked ch,w''=>Q (.panic ch) a w''| .outgrown,_=>LetsOut Q)):o.wp P a w K Q:=by
 have hv:a.eval (.func f)=.func (.func f) #[] #[]:=rfl
 unfold Oper.wp Oper.upon
 generalize hρ:a.eval=ρ at h0 h1 h2 h3 h4 hv⊢
 simp[execOp,ho,resolve,invoke,hv,h0,h1,h2,h3,h4,he,Sem.run_bind,Result.andThen,go_sem]
 exact h
theorem uX {x y:Operand}(ho:o.op=.store 4 x y)(g:Nat)(hx:a.eval x=.pointer (some ⟨g,0,none⟩))(b:Bool)(hy:a.eval y=.bool b)(v:Value)(hb:w.heap[g]?=some (.cells #[v] 4 (0,0)))(h:K (a.put o.dst undef) (w.setCell ⟨g,0,none⟩ (.bool b))):Oper.wp Tryz.prog o a w K Q:=by
 obtain⟨hc,hf,hl⟩:w.cell? ⟨g,0,none⟩=some v∧w.frozen? ⟨g,0,none⟩=false∧g<w.heap.size:=⟨by simp[World.cell?,hb],by simp[World.frozen?,hb],ac hb⟩
 unfold Oper.wp Oper.upon execOp
 simp only[ho,hx,hy]
 go_simp
 exact h
end
section
variable {P:Program}{ops:Array Oper}{md:Region.Mode}{C:World→Prop}{Q:Exit→Act→World→Prop}{o:Oper}{a:Act}{v:Value}
theorem jM (hw:Region.wanted o (yielded ops a.tmps)=true)(x:Operand)(ho:o.op=.load 3 x)(g:Nat)(hx:a.eval x=.pointer (some ⟨g,0,none⟩))(z:Int)(hg:∀w,C w→w.heap[g]?=some (.cells #[.int .i64 z] 3 (0,0))):bV Tryz.prog ops C o (.int .i64 z) a :=
 .inl ⟨hw,fun w hC=>by
  have hl:(loadVar 3 ⟨g,0,none⟩).run Tryz.prog w=.ok (.int .i64 z) w:=fH Tryz.underlying3 rfl (by simp[World.cell?,hg w hC])
  unfold execOp
  simp only[ho,hx,Instr.loadAt,Instr.sureAddr,Sem.run_bind,Sem.run_pure,Result.andThen_ok,hl]⟩
theorem eV {x y:Operand}{u z:Int}(hw:Region.wanted o (yielded ops a.tmps)=true)(ho:o.op=.binOp .add 3 x y 3)(hx:a.eval x=.int .i64 u)(hy:a.eval y=.int .i64 z)(t:Int)(hq:IntKind.i64.wrap (u+z)=t):bV Tryz.prog ops C o (.int .i64 t) a :=
 .inl ⟨hw,fun w _=>by unfold execOp;generalize a.eval=ρ at hx hy⊢;simp only[ho,hx,hy];subst hq;go_simp⟩
theorem qZ {x y:Operand}{u z:Int}(hw:Region.wanted o (yielded ops a.tmps)=true)(ho:o.op=.binOp .eql 3 x y 3)(hx:a.eval x=.int .i64 u)(hy:a.eval y=.int .i64 z)(b:Bool)(hb:(u==z)=b):bV Tryz.prog ops C o (.bool b) a :=
 .inl ⟨hw,fun w _=>by unfold execOp;generalize a.eval=ρ at hx hy⊢;simp only[ho,hx,hy];subst hb;go_simp⟩
variable {w:World}{K:Act→World→Prop}
theorem sV {f:Nat}{x0 x1 x2 x3:Operand}{v0 v1 v2 v3:Value}{ts:Array TypeId}(ho:o.op=.call { callee:= .value (.func f),args:= #[x0,x1,x2,x3],argTypes:=ts })(h0:a.eval x0=v0)(h1:a.eval x1=v1)(h2:a.eval x2=v2)(h3:a.eval x3=v3)(he:∀(vs:Array Value)(w:World),Sem.run P (callFunc f vs) w=.ok (.enter f vs) w)
 (h:Calls P f #[v0,v1,v2,v3] w (fun| .returned v,w''=>K (a.put o.dst v) w''| .panicked ch,w''=>Q (.panic ch) a w''| .outgrown,_=>LetsOut Q)):o.wp P a w K Q:=by
 have hv:a.eval (.func f)=.func (.func f) #[] #[]:=rfl
 unfold Oper.wp Oper.upon
 generalize hρ:a.eval=ρ at h0 h1 h2 h3 hv⊢
 simp[execOp,ho,resolve,invoke,hv,h0,h1,h2,h3,he,Sem.run_bind,Result.andThen,go_sem]
 exact h
end
section
variable {P:Program}{ops:Array Oper}{md:Region.Mode}{C:World→Prop}{Q:Exit→Act→World→Prop}
theorem kl {i j:Nat}{oi oj:Oper}{fuel:Nat}{listed:Array Bool}{a:Act}{w:World}(di dj:Option Tmp)(hr:Region.ready md ops listed= [i,j])(hi:ops[i]?=some oi)(hj:ops[j]?=some oj)(wi:Region.wanted oi (yielded ops a.tmps)=true)(wj:Region.wanted oj (yielded ops a.tmps)=true)(hdi:oi.dst=di)(hdj:oj.dst=dj)
 (h1:∀K:Act→World→Prop,(∀v w',C w'→dh P md ops C Q fuel (listed.setIfInBounds i true) (a.put di v) w'→K (a.put oi.dst v) w')→Oper.wp P oi a w K Q)
 (h2:∀K:Act→World→Prop,(∀v w',C w'→dh P md ops C Q fuel (listed.setIfInBounds j true) (a.put dj v) w'→K (a.put oj.dst v) w')→Oper.wp P oj a w K Q):dh P md ops C Q (fuel+1) listed a w:=by
 subst hdi
 subst hdj
 refine⟨fun q=>(by rw[hr] at q;cases q),fun k hk=>?_⟩
 rw[hr] at hk
 rcases List.mem_cons.1 hk with rfl|hk
 ·unfold Go.wpOp
  simp only[hi,wi,if_true]
  exact .inl (h1 _ (fun v w' hc hA=>⟨hc,hA⟩))
 ·obtain rfl:=List.mem_singleton.1 hk
  unfold Go.wpOp
  simp only[hj,wj,if_true]
  exact .inl (h2 _ (fun v w' hc hA=>⟨hc,hA⟩))
theorem cM {o:Oper}{a:Act}{v:Value}(hw:Region.wanted o (yielded ops a.tmps)=true)(x:Operand)(ho:o.op=.assign x)(hx:a.eval x=v):bV P ops C o v a :=
 .inl ⟨hw,fun w _=>by unfold execOp;simp only[ho,hx];rfl⟩
theorem AG.sub {m:Nat}{a:Act}{L L':List (Nat×Value)}(h:AG m a L)(hs:∀q∈L',q∈L):AG m a L':=⟨h.1,fun q hq=>h.2 q (hs q hq)⟩
variable {o:Oper}{a:Act}{w:World}{K:Act→World→Prop}
theorem EX {x:Operand}(ho:o.op=.buildSlice 29 1 #[(0,x)])(z:Int)(hx:a.eval x=.int .i64 z)(h:K (a.put o.dst (.slice (some ⟨w.heap.size,0,none⟩) 1 1)) (w.alloc (.cells #[.int .i64 z] 3))):Oper.wp Tryz.prog o a w K Q:=by
 unfold Oper.wp Oper.upon execOp
 simp only[ho]
 generalize a.eval=ρ at hx⊢
 go_simp
 exact h
theorem DK {base g:Nat}{v:Value}{xs:List Int}(y:Int)(s x:Operand)
 (ho:o.op=.call { callee:= .builtin .append,args:= #[s,x],argTypes:= #[29,29] })
 (hs:a.eval s=v) (hn:Rw base w v xs) (hb:base≤w.heap.size) (hl:xs.length≤1000000)
 (hx:a.eval x=.slice (some ⟨g,0,none⟩) 1 1) (hg:w.heap[g]?=some (.cells #[.int .i64 y] 3 (0,0)))
 (h:∀v' w',Rw base w' v' (xs++ [y])→Turned (fun k=>v.ownBlock=some k) w w'→(∀k,v'.ownBlock=some k→v.ownBlock=some k∨k=w.heap.size)→K (a.put o.dst v') w'):o.wp Tryz.prog a w K Q:=by
 obtain⟨i,i1,i2,i3,i4⟩:=ji
 refine wp_append_lies w s x 29 ho base 3 i _ 1 8 Tryz.underlying29 i1 i2 i3 i4 rfl (by omega) v xs.length _ hs hn ⟨g,0,none⟩ 1 1 [.int .i64 y] hx (by simp)
  (fun j u hu=>World.news_of_block hg j u (by simpa using hu)) (by intro u hu;simp at hu;subst hu;rfl) (by omega) (by simp only[maxLen];omega) (by omega) hb _ rfl ?_
 intro g' cap w1 hown hgrow h4 _
 have ht:Turned (fun k=>v.ownBlock=some k) w w1:=⟨hgrow.os,hgrow.tape,hgrow.output,hgrow.size,fun k hk hne=>hgrow.block k hk (fun e=>hne e.symm)⟩
 refine h _ w1 ?_ ht (fun k q=>?_)
 ·unfold Rw
  rw[List.length_append,List.map_append]
  exact hown
 ·have:k=g':=by simpa [Value.ownBlock,eq_comm] using q
  subst this
  exact h4
end
section
variable {P:Program}{ops:Array Oper}{C:World→Prop}{o:Oper}{a:Act}
theorem eW (hw:Region.wanted o (yielded ops a.tmps)=true)(ty:TypeId)(x:Operand)(ho:o.op=.load ty x)(g i:Nat)(hx:a.eval x=.pointer (some ⟨g,i,none⟩))(v:Value)(d:TypeDesc)(hu:P.underlying ty=some d)(hd:(match d with| .struct _| .array _ _=>true|_=>false)=false)(hg:∀w,C w→w.cell? ⟨g,i,none⟩=some v):bV P ops C o v a :=
 .inl ⟨hw,fun w hC=>by
  have hl:(loadVar ty ⟨g,i,none⟩).run P w=.ok v w:=fH hu hd (hg w hC)
  unfold execOp
  simp only[ho,hx,Instr.loadAt,Instr.sureAddr,Sem.run_bind,Sem.run_pure,Result.andThen_ok,hl]⟩
end
def Nr (md:Region.Mode)(ops:Array Oper)(listed:Array Bool)(i d m:Nat)(L:List (Nat×Value)):Bool:=Region.noSelect ops && (Region.free md ops listed i && ((Region.ready md ops listed).contains i && (decide (i<ops.size) && (((ops.getD i default).dst==some d) && (decide (d<m) && L.all (fun q=>q.1 != d))))))
section
variable {P:Program}{md:Region.Mode}{ops:Array Oper}{C:World→Prop}{Q:Exit→Act→World→Prop}{fuel:Nat}{listed:Array Bool}{a:Act}{w:World}{m:Nat}{L:List (Nat×Value)}
theorem tqC (i d:Nat)(v:Value)(hB:Nr md ops listed i d m L=true)(hQ:∀c a k v w,Q (.panic c) (Act.put a (some k) v) w→Q (.panic c) a w)(hC:C w)(HF:AG m a L)(hy:bV P ops C (ops.getD i default) v a)
 (h:∀A,Act.put a (some d) v=A→AG m A ((d,v)::L)→dh P md ops C Q fuel (listed.setIfInBounds i true) A w):dh P md ops C Q (fuel+1) listed a w:=by
 unfold Nr at hB
 simp only[Bool.and_eq_true] at hB
 obtain⟨h1,h2,h3,h4,h5,h6,h7⟩:=hB
 have h4:=of_decide_eq_true h4
 have hi:ops[i]?=some (ops.getD i default):=by rw[Array.getElem?_eq_getElem h4];simp[Array.getD,h4]
 exact gc (some d) hi (eq_of_beq h5) h1 h2 h3 (fun c a w=>hQ c a _ _ w) hC hy (h _ rfl (HF.put d v (of_decide_eq_true h6) h7))
theorem tqM (i d k:Nat){s:Nat}{v:Value}(hL:L[k]?=some (s,v))(ho:(ops.getD i default).op=.move (.tmp s)∨(ops.getD i default).op=.assign (.tmp s))(hg:(ops.getD i default).guard=none)(hB:Nr md ops listed i d m L=true)(hQ:∀c a k v w,Q (.panic c) (Act.put a (some k) v) w→Q (.panic c) a w)(hC:C w)(HF:AG m a L)
 (h:∀A,Act.put a (some d) v=A→AG m A ((d,v)::L)→dh P md ops C Q fuel (listed.setIfInBounds i true) A w):dh P md ops C Q (fuel+1) listed a w :=
 tqC i d v hB hQ hC HF (by
  rcases ho with ho|ho
  ·exact cx (ab hg) _ ho (HF.get k hL)
  ·exact cM (ab hg) _ ho (HF.get k hL)) h
def Pa (md:Region.Mode)(ops:Array Oper)(listed:Array Bool)(i d m:Nat)(L:List (Nat×Value)):Bool:=(Region.ready md ops listed== [i]) && (decide (i<ops.size) && ((ops.getD i default).guard.isNone && (((ops.getD i default).dst==some d) && (decide (d<m) && L.all (fun q=>q.1 != d)))))
theorem tqO (i d:Nat)(hB:Pa md ops listed i d m L=true)(HF:AG m a L)
 (h:∀K:Act→World→Prop,(∀v w',C w'→(∀A,Act.put a (some d) v=A→AG m A ((d,v)::L)→dh P md ops C Q fuel (listed.setIfInBounds i true) A w')→K (a.put (ops.getD i default).dst v) w')→Oper.wp P (ops.getD i default) a w K Q):dh P md ops C Q (fuel+1) listed a w:=by
 unfold Pa at hB
 simp only[Bool.and_eq_true] at hB
 obtain⟨h1,h2,h3,h5,h6,h7⟩:=hB
 have h4:=of_decide_eq_true h2
 have hi:ops[i]?=some (ops.getD i default):=by rw[Array.getElem?_eq_getElem h4];simp[Array.getD,h4]
 exact bF (some d) (eq_of_beq h1) hi (ab (Option.isNone_iff_eq_none.1 h3)) (eq_of_beq h5) fun K hK=>h K fun v w' hc hA=>hK v w' hc (hA _ rfl (HF.put d v (of_decide_eq_true h6) h7))
end
abbrev pts (A:Act)(l:List (Nat×Value)):Act:=l.foldl (fun a q=>a.put (some q.1) q.2) A
theorem Pb {c:Cfg}(R:c.Ok)(w:World):Calls Tryz.prog 32 #[.agg c.cells] w (aP w (.tuple #[.agg c.arr,.int .i64 0])):=G7 c.wk c.cp c.pg c.st c.tr c.wt c.ck c.pr c.ca c.bi c.ba w R
theorem Ic {c:Cfg}(R:c.Ok)(w:World):Calls Tryz.prog 72 #[.agg c.cells] w (aP w (.int .i64 c.words)):=Nq c.wk c.cp c.pg c.st c.tr c.wt c.ck c.pr c.ca c.bi c.ba w R
theorem EY (c:Cfg)(W:World):(Instr.build 73 #[(0,.agg c.cells)]).run Tryz.prog W=.ok (.agg c.cells) W:=run_build W _ _ _ (by kernel_rfl)
theorem gW (c:Cfg):c.cells.all (·.oneCell')=true:=by simp[Cfg.cells,Value.oneCell']
theorem na (c:Cfg):c.arr.all (·.oneCell')=true:=kO ..
theorem BE {ops:Array Oper}{rest:List Oper}{o:Oper}{a:Act}{w:World}{Q:Exit→Act→World→Prop}(hw:Region.wanted o (yielded ops a.tmps)=true)(x:Operand)(ho:o.op=.build 73 #[(0,x)])(c:Cfg)
 (hx:a.eval x=.agg c.cells) (h:wpList Tryz.prog ops Q rest (a.put o.dst (.agg c.cells)) w):wpList Tryz.prog ops Q (o::rest) a w :=
 dR hw fun K hK=>by
  have hb:=EY c w
  unfold Oper.wp execOp
  simp only[ho,List.map_toArray,List.map_cons,List.map_nil,hx,Sem.run_bind,hb,Result.andThen_ok]
  exact hK _ _ h
theorem zh {P:Program}{fn:Func}{p q u:Tmp}{tp tq:TypeId}(h:fn.results= #[.cell p tp,.cell q tq,.tmp u])(tmps:Array Value)(w:World)(g g':Nat)(v v':Value)(hp:tmps.getD p undef=.pointer (some ⟨g,0,none⟩))(hq:tmps.getD q undef=.pointer (some ⟨g',0,none⟩))
 (h1:(loadVar tp ⟨g,0,none⟩).run P w=.ok v w) (h2:(loadVar tq ⟨g',0,none⟩).run P w=.ok v' w):(results fn tmps).run P w=.ok (.tuple #[v,v',tmps.getD u undef]) w:=by
 have hp':tmps[p]?.getD undef=.pointer (some ⟨g,0,none⟩):=by simpa using hp
 have hq':tmps[q]?.getD undef=.pointer (some ⟨g',0,none⟩):=by simpa using hq
 simp[results,h,asAddr,hp',hq',h1,h2,Sem.run_bind,Result.andThen]
def Id (w:World)(c:Cfg)(e:Ending)(w':World):Prop :=
 ∃(g n:Nat),(n:Int)=c.words∧e=.returned (.tuple #[.agg c.arr,.agg c.cells,.slice (some ⟨g,0,none⟩) n n])∧Rw w.heap.size w' (.slice (some ⟨g,0,none⟩) n n) (cL n)∧ae w w'
section
variable {P:Program}{o:Oper}{a:Act}{w:World}{K:Act→World→Prop}{Q:Exit→Act→World→Prop}
theorem sW {f:Nat}{x0:Operand}{v0:Value}{ts:Array TypeId}(ho:o.op=.call { callee:= .value (.func f),args:= #[x0],argTypes:=ts })(h0:a.eval x0=v0)(he:∀(vs:Array Value)(w:World),Sem.run P (callFunc f vs) w=.ok (.enter f vs) w)
 (h:Calls P f #[v0] w (fun| .returned v,w''=>K (a.put o.dst v) w''| .panicked ch,w''=>Q (.panic ch) a w''| .outgrown,_=>LetsOut Q)):o.wp P a w K Q:=by
 have hv:a.eval (.func f)=.func (.func f) #[] #[]:=rfl
 unfold Oper.wp Oper.upon
 generalize hρ:a.eval=ρ at h0 hv⊢
 simp[execOp,ho,resolve,invoke,hv,h0,he,Sem.run_bind,Result.andThen,go_sem]
 exact h
theorem xD {t e:TypeId}{x:Operand}(ho:o.op=.makeSlice t x x){n:Nat}{L:Int}(hx:a.eval x=.int .i64 L)(hL:L=(n:Int))(i:TypeInfo)(z:Value)(h1:P.underlying t=some (.slice e))(h2:P.info? e=some i)(h3:i.zero=some z)(h4:i.size=1)(b2:i.bytes * n≤281474976710656)(b3:n≤maxLen)
 (h:∀w',w'.ownsRow w.heap.size e 1 (.slice (some ⟨w.heap.size,0,none⟩) n n) n (madeCells z.cells (n * 1)).toList→w.grownBy w' none→K (a.put o.dst (.slice (some ⟨w.heap.size,0,none⟩) n n)) w'):o.wp P a w K Q:=by
 obtain⟨w',hrun,r1,r2⟩:=run_make_full (P:=P) (w:=w) w.heap.size t e i z 1 h1 h2 h3 h4 .i64 .i64 n b2 b3 (Nat.le_refl _)
 subst hL
 unfold Oper.wp Oper.upon
 generalize hρ:a.eval=ρ at hx⊢
 simp[execOp,ho,hx,hrun,Result.andThen,Sem.run_bind]
 exact h w' r1 r2
theorem ql {x:Operand}(ho:o.op=.assign x){v:Value}(hx:a.eval x=v)(h:K (a.put o.dst v) w):o.wp P a w K Q:=by
 unfold Oper.wp execOp
 simp only[ho,hx]
 exact h
theorem dK {md:Region.Mode}{ops:Array Oper}{fuel:Nat}{listed:Array Bool}{i:Nat}{rs:List Nat}(d:Option Tmp)(ho:ops[i]?=some o)(hg:o.guard=none)(hd:o.dst=d)
 (h:∀K':Act→World→Prop,(∀v w,wpAny P md ops Q fuel (listed.setIfInBounds i true) (a.put d v) w→K' (a.put o.dst v) w)→Oper.wp P o a w K' Q)
 (hs:AllReady P md ops Q fuel listed a w rs):AllReady P md ops Q fuel listed a w (i::rs):=
 AllReady.cons ho (fun K hK=>by
  rw[if_pos (by simp[Region.wanted,hg])]
  exact h K fun v w' q=>hK _ _ (by rw[hd];exact q)) hs
end
def AF (a:Act)(L:List (Nat×Value)):Prop:=(22≤a.tmps.size∧a.defers= [])∧∀q∈L,a.eval (.tmp q.1)=q.2
structure BS (w w6:World)(d:Cfg)(x1 x2:Array Value)(W:World):Prop where
 a1:W.heap[w6.heap.size]?=some (.cells d.arr 28 (0,0))
 a2:W.heap[w6.heap.size+1]?=some (.cells d.cells 73 (0,0))
 r1:W.heap[w.heap.size+1]?=some (.cells x1 28 (0,0))
 r2:W.heap[w.heap.size+2]?=some (.cells x2 73 (0,0))
 more:ae w W
 s6:w.heap.size+3≤w6.heap.size
theorem BS.step {w w6 W W':World}{d:Cfg}{x1 x2:Array Value}(h:BS w w6 d x1 x2 W)(m:ae W W'):BS w w6 d x1 x2 W':=⟨m.block h.a1,m.block h.a2,m.block h.r1,m.block h.r2,h.more.trans m,h.s6⟩
theorem BS.put1 {w w6 W:World}{d:Cfg}{x1 x2:Array Value}(h:BS w w6 d x1 x2 W)(ys:Array Value):BS w w6 d ys x2 (W.setRow (w.heap.size+1) ys):=
 ⟨(setRow_other _ _ _ _ (by have:=h.s6;omega)).trans h.a1,(setRow_other _ _ _ _ (by have:=h.s6;omega)).trans h.a2,setRow_heap _ _ _ _ _ _ h.r1,(setRow_other _ _ _ _ (by omega)).trans h.r2,h.more.setRow _ _ (by omega),h.s6⟩
theorem BS.put2 {w w6 W:World}{d:Cfg}{x1 x2:Array Value}(h:BS w w6 d x1 x2 W)(ys:Array Value):BS w w6 d x1 ys (W.setRow (w.heap.size+2) ys):=
 ⟨(setRow_other _ _ _ _ (by have:=h.s6;omega)).trans h.a1,(setRow_other _ _ _ _ (by have:=h.s6;omega)).trans h.a2,(setRow_other _ _ _ _ (by omega)).trans h.r1,setRow_heap _ _ _ _ _ _ h.r2,h.more.setRow _ _ (by omega),h.s6⟩
theorem qm {w W:World}{g k n:Nat}{v:Value}{xs:List Int}{cs:Array Value}(h:Rw w.heap.size W v xs)(hk:∀g',v.ownBlock=some g'→g'≠k):Rw w.heap.size (W.setRow k cs) v xs:=by
 refine⟨h.1,?_⟩
 rcases h.2 with q|⟨g,cap,cur,h1,h2,h3,h4⟩
 ·exact .inl q
 ·exact .inr ⟨g,cap,cur,h1,h2,(setRow_other _ _ _ _ (hk g (by rw[h1];rfl))).trans h3,h4⟩
abbrev kX:Array Value:= #[.int .i64 0,.int .i64 0,.int .i64 0,.int .i64 0,.int .i64 0,.int .i64 0,.int .i64 0,.int .i64 0,.int .i64 0,.int .i64 0,.int .i64 0]
abbrev gd:Array Value:= #[.int .i64 0,.int .i64 0,.int .i64 0,.int .i64 0,.int .i64 0,.int .i64 0,.int .i64 0,.int .i64 0,.int .i64 0,.int .i64 0,.int .i64 0,.int .i64 0,.int .i64 0,.int .i64 0,.int .i64 0,.int .i64 0,.int .i64 0,.int .i64 0,.int .i64 0,.int .i64 0,.int .i64 0,.int .i64 0,.int .i64 0,.int .i64 0]
theorem EZ {c:Cfg}(R:c.Ok)(y0 y1 y2 y3 y4 y5 y6 y7 y8 y9 y10:Int)(w:World)(hS:∀W,Calls Tryz.prog 68 #[.agg #[.int .i64 y0,.int .i64 y1,.int .i64 y2,.int .i64 y3,.int .i64 y4,.int .i64 y5,.int .i64 y6,.int .i64 y7,.int .i64 y8,.int .i64 y9,.int .i64 y10]] W (aP W (.agg #[.int .i64 c.wk,.int .i64 c.cp,.int .i64 c.pg,.int .i64 c.st,.int .i64 c.tr,.int .i64 c.wt,.int .i64 c.ck,.int .i64 c.pr,.int .i64 c.ca,.int .i64 c.bi,.int .i64 c.ba]))):
 Calls Tryz.prog 36 #[.agg #[.int .i64 y0,.int .i64 y1,.int .i64 y2,.int .i64 y3,.int .i64 y4,.int .i64 y5,.int .i64 y6,.int .i64 y7,.int .i64 y8,.int .i64 y9,.int .i64 y10]] w (Id w (kW c)):=by
 have S:=qY R
 have SM:=hQQ (fun W=>vJ R y0 y1 y2 y3 y4 y5 y6 y7 y8 y9 y10 _ W hS rfl)
 generalize kW c=d at S SM⊢
 have RR:=hQQ S.ok
 obtain⟨wd0,wd1⟩:=S.words
 clear hS R S
 obtain⟨n,hn⟩:∃n:Nat,(n:Int)=d.words:=⟨d.words.toNat,by omega⟩
 obtain⟨i0,hi0,hz0,hz1,hz2⟩:=ji
 obtain⟨w3,e3,hb0,hb1,hb2,m3,s3⟩:=kV w (.cells #[.int .i64 y0,.int .i64 y1,.int .i64 y2,.int .i64 y3,.int .i64 y4,.int .i64 y5,.int .i64 y6,.int .i64 y7,.int .i64 y8,.int .i64 y9,.int .i64 y10] 23) (.cells gd 28) (.cells kX 73)
 have e4:((w.alloc (.cells #[.int .i64 y0,.int .i64 y1,.int .i64 y2,.int .i64 y3,.int .i64 y4,.int .i64 y5,.int .i64 y6,.int .i64 y7,.int .i64 y8,.int .i64 y9,.int .i64 y10] 23)).alloc (.cells #[.int .i64 0,.int .i64 0,.int .i64 0,.int .i64 0,.int .i64 0,.int .i64 0,.int .i64 0,.int .i64 0,.int .i64 0,.int .i64 0,.int .i64 0,.int .i64 0,.int .i64 0,.int .i64 0,.int .i64 0,.int .i64 0,.int .i64 0,.int .i64 0,.int .i64 0,.int .i64 0,.int .i64 0,.int .i64 0,.int .i64 0,.int .i64 0] 28)).alloc (.cells #[.int .i64 0,.int .i64 0,.int .i64 0,.int .i64 0,.int .i64 0,.int .i64 0,.int .i64 0,.int .i64 0,.int .i64 0,.int .i64 0,.int .i64 0] 73)=w3:=e3
 clear e3
 have H0:=hQQ hb0
 have H1:=hQQ hb1
 have H2:=hQQ hb2
 have M3:=hQQ m3
 clear hb0 hb1 hb2 m3
 go_enter Tryz.func36,Tryz.ntmps36
 go_wp2_with (refine sw rfl rfl rfl H0.o (by kernel_rfl) ?_)
 refine(SM.o _).mono ?_
 rintro e w4 ⟨rfl,m4⟩
 have H0:=hQQ (m4.block H0.o)
 have H1:=hQQ (m4.block H1.o)
 have H2:=hQQ (m4.block H2.o)
 have M4:=hQQ (M3.o.trans m4)
 have s4:w.heap.size+3≤w4.heap.size:=by have:=m4.size;omega
 clear m4
 go_wp2_with (first
  |(refine wpList_store_row rfl 23 _ _ rfl w.heap.size _ rfl rfl 23 _ H0.o (by kernel_rfl) rfl (gW d) ?_)
  |(refine sw rfl rfl rfl (setRow_heap _ _ _ _ _ _ H0.o) (by kernel_rfl) ?_))
 have K0:=hQQ (setRow_heap w4 w.heap.size _ d.cells _ _ H0.o)
 have K1:=hQQ ((setRow_other w4 w.heap.size (w.heap.size+1) d.cells (by omega)).trans H1.o)
 have K2:=hQQ ((setRow_other w4 w.heap.size (w.heap.size+2) d.cells (by omega)).trans H2.o)
 have M5:Hq (ae w (w4.setRow w.heap.size d.cells)):=hQQ (M4.o.setRow _ _ (Nat.le_refl _))
 have s5:w.heap.size+3≤(w4.setRow w.heap.size d.cells).heap.size:=by simpa using s4
 clear H0 H1 H2 M4 s4
 generalize w4.setRow w.heap.size d.cells=w5 at K0 K1 K2 M5 s5⊢
 refine(Pb RR.o _).mono ?_
 rintro e w6 ⟨rfl,m6⟩
 have A1:=aY w6 gd 28
 have L0:=hQQ (m6.block K0.o)
 have L1:=hQQ (m6.block K1.o)
 have L2:=hQQ (m6.block K2.o)
 have M6:=hQQ (M5.o.trans m6)
 have s6:w.heap.size+3≤w6.heap.size:=by have:=m6.size;omega
 clear K0 K1 K2 M5 s5 m6
 have m7:ae w6 ((w6.alloc (.cells gd 28)).setRow w6.heap.size d.arr):=((ae.refl w6).alloc _).setRow _ _ (Nat.le_refl _)
 have B1:=hQQ (setRow_heap _ _ _ d.arr _ _ A1)
 have B0:=hQQ (m7.block L0.o)
 have B2:=hQQ (m7.block L1.o)
 have B3:=hQQ (m7.block L2.o)
 have M7:=hQQ (M6.o.trans m7)
 have s7:((w6.alloc (.cells gd 28)).setRow w6.heap.size d.arr).heap.size=w6.heap.size+1:=by simp
 go_wp2_with (first
  |(refine wpList_store_row rfl 28 _ _ rfl w6.heap.size _ rfl rfl 28 gd A1 (by kernel_rfl) rfl (na d) ?_)
  |(refine sw rfl rfl rfl B0.o (by kernel_rfl) ?_)
  |((with_reducible refine BE ?_ (.tmp 15) ?_ d ?_ ?_);rfl;rfl;rfl)
  |(refine wpList_store_row rfl 73 _ _ rfl (w6.heap.size+1) _ rfl rfl 73 kX (by rw[←s7];exact aY _ _ _) (by kernel_rfl) rfl (gW d) ?_))
 generalize hw7:World.setRow (World.alloc w6 _) w6.heap.size d.arr=w7
 have F7:w7.heap.size=w6.heap.size+1:=by rw[←hw7];exact s7
 have A7:=aY w7 kX 73
 have m7':ae w6 w7:=by rw[←hw7];exact m7
 have G1:w7.heap[w6.heap.size]?=some (.cells d.arr 28 (0,0)):=by rw[←hw7];exact B1.o
 rw[F7] at A7
 generalize hw8:World.setRow (World.alloc w7 _) (w6.heap.size+1) d.cells=w8
 have m8:ae w7 w8:=by rw[←hw8];exact((ae.refl w7).alloc _).setRow _ _ (by omega)
 have m68:=m7'.trans m8
 have N1:=hQQ (m8.block G1)
 have N2:Hq (w8.heap[w6.heap.size+1]?=some (.cells d.cells 73 (0,0))):=hQQ (by rw[←hw8];exact setRow_heap _ _ _ _ _ _ A7)
 have N3:=hQQ (m68.block L1.o)
 have N4:=hQQ (m68.block L2.o)
 have M8:=hQQ (M6.o.trans m68)
 have s8:w6.heap.size+2≤w8.heap.size:=ac N2.o
 clear hw7 hw8 m7 m7' G1 A7 F7 m8 m68 B0 B1 B2 B3 M7 s7 A1 L0 L1 L2 M6 SM
 have HEN:=enters_of Tryz.func72 (by kernel_rfl) rfl
 have hmx:Tryz.prog.follows .mixedOrders=true:=by kernel_rfl
 have HBY:i0.bytes * n≤281474976710656:=by rw[hz2];omega
 have HML:n≤maxLen:=by unfold maxLen;omega
 have HMK:Hq (∀(W W3:World) (x1 x2:Array Value),BS w w6 d x1 x2 W→W3.ownsRow W.heap.size 3 1 (.slice (some ⟨W.heap.size,0,none⟩) n n) n (madeCells (Value.int .i64 0).cells (n * 1)).toList→W.grownBy W3 none→BS w w6 d x1 x2 W3∧Rw w.heap.size W3 (.slice (some ⟨W.heap.size,0,none⟩) n n) (cL n)∧w.heap.size+3≤W.heap.size):=hQQ fun W W3 x1 x2 hb q1 q2=>by
  have m:ae W W3:=⟨q2.os,q2.tape,q2.output,q2.size,fun k hk _=>q2.block k hk (by simp)⟩
  have:=hb.s6
  have:=ac hb.a1
  rw[BA] at q1
  refine⟨hb.step m,?_,by omega⟩
  unfold Rw
  rw[kh]
  exact qS q1 (by omega)
 refine aO (fun W=>∃x1 x2,BS w w6 d x1 x2 W) hmx ?_
 have BB:BS w w6 d gd kX (w8.drewN 1):=⟨N1.o,N2.o,N3.o,N4.o,M8.o.drewN 1,by omega⟩
 clear N1 N2 N3 N4 M8 wd0 wd1 hz2
 change dh _ _ _ _ _ _ _ _ (w8.drewN 1)
 generalize w8.drewN 1=W2 at BB⊢
 refine bJ (fun a W=>a.eval (.tmp 2)=.pointer (some ⟨w.heap.size+1,0,none⟩)∧a.eval (.tmp 3)=.pointer (some ⟨w.heap.size+2,0,none⟩)∧∃g,a.eval (.tmp 4)=.slice (some ⟨g,0,none⟩) n n∧Rw w.heap.size W (.slice (some ⟨g,0,none⟩) n n) (cL n)∧BS w w6 d d.arr d.cells W∧a.defers= []) (fun _=>False) [] (fun a W hd h=>h.elim) (fun _ _ _ _ _ h=>h) ?_ ?_
 ·rintro a W ⟨t2,t3,g,t4,RG,BB,hdf⟩
  go_wp2_with fail
  have h4:a.tmps.getD 4 undef=.slice (some ⟨g,0,none⟩) n n:=t4
  refine bodyPost_ret (zh Tryz.results36 _ _ (w.heap.size+1) (w.heap.size+2) _ _ t2 t3 (run_loadVar_row _ _ _ _ _ _ _ BB.r1 Tryz.underlying28 rfl (by kernel_rfl)) (run_loadVar_row _ _ _ _ _ _ _ BB.r2 Tryz.underlying73 rfl (by kernel_rfl))) hdf ?_
  exact⟨g,n,hn,by rw[h4],RG,BB.more⟩
 intro QQ FIN FIND FINQ
 refine KE 22 [(5,.pointer (some ⟨w6.heap.size,0,none⟩)),(7,.pointer (some ⟨w6.heap.size+1,0,none⟩)),(2,.pointer (some ⟨w.heap.size+1,0,none⟩)),(3,.pointer (some ⟨w.heap.size+2,0,none⟩))] ⟨⟨Nat.le_of_ble_eq_true rfl,rfl⟩,?_⟩ (fun A HF=>?_)
 ·intro q hq
  simp only[List.mem_cons,List.not_mem_nil,or_false] at hq
  rcases hq with rfl|rfl|rfl|rfl<;>rfl
 refine gc (i:=0) (v:=.agg d.arr) (some 17) rfl rfl (by kernel_rfl) (by kernel_rfl) (by kernel_rfl) (fun c a w=>FINQ c a _ _ w) ⟨_,_,BB⟩ (by exact aD (C:=(fun W=>∃x1 x2,BS w w6 d x1 x2 W)) (ab rfl) 28 _ rfl (w6.heap.size) (HF.get 0 rfl) 28 _ _ _ (fun W hW=>by obtain⟨_,_,h⟩:=hW;exact h.a1) Tryz.underlying28 rfl (by kernel_rfl)) ?_
 replace HF:=HF.put 17 (.agg d.arr) (by decide) rfl
 generalize Act.put _ _ _=A at HF⊢
 refine gc (i:=1) (v:=.agg d.cells) (some 18) rfl rfl (by kernel_rfl) (by kernel_rfl) (by kernel_rfl) (fun c a w=>FINQ c a _ _ w) ⟨_,_,BB⟩ (by exact aD (C:=(fun W=>∃x1 x2,BS w w6 d x1 x2 W)) (ab rfl) 73 _ rfl (w6.heap.size+1) (HF.get 2 rfl) 73 _ _ _ (fun W hW=>by obtain⟨_,_,h⟩:=hW;exact h.a2) Tryz.underlying73 rfl (by kernel_rfl)) ?_
 replace HF:=HF.put 18 (.agg d.cells) (by decide) rfl
 generalize Act.put _ _ _=A at HF⊢
 refine gc (i:=2) (v:=.agg d.cells) (some 19) rfl rfl (by kernel_rfl) (by kernel_rfl) (by kernel_rfl) (fun c a w=>FINQ c a _ _ w) ⟨_,_,BB⟩ (by exact aD (C:=(fun W=>∃x1 x2,BS w w6 d x1 x2 W)) (ab rfl) 73 _ rfl (w6.heap.size+1) (HF.get 3 rfl) 73 _ _ _ (fun W hW=>by obtain⟨_,_,h⟩:=hW;exact h.a2) Tryz.underlying73 rfl (by kernel_rfl)) ?_
 replace HF:=HF.put 19 (.agg d.cells) (by decide) rfl
 generalize Act.put _ _ _=A at HF⊢
 refine bF (i:=3) (some 20) (by kernel_rfl) rfl (ab rfl) rfl (fun K hK=>?_)
 refine sW (v0:=.agg d.cells) rfl (HF.get 0 rfl) HEN ?_
 refine(Ic RR.o _).mono ?_
 rintro e W4 ⟨rfl,m2⟩
 have BB:=BB.step m2
 clear m2
 refine hK _ _ ⟨_,_,BB⟩ ?_
 clear hK K
 replace HF:=HF.put 20 (.int .i64 d.words) (by decide) rfl
 generalize Act.put _ _ _=A at HF⊢
 refine kl (i:=4) (j:=5) (some 21) none (by kernel_rfl) rfl rfl (ab rfl) (ab rfl) rfl rfl (fun K hK=>?_) (fun K hK=>?_)
 ·refine xD (n:=n) rfl (HF.get 0 rfl) hn.symm i0 (.int .i64 0) Tryz.underlying29 hi0 hz0 hz1 HBY HML ?_
  intro W3 q1 q2
  obtain⟨BB,RG,HGn⟩:=HMK.o _ _ _ _ BB q1 q2
  clear q1 q2
  generalize HGG:W4.heap.size=GG at RG HGn⊢
  refine hK _ _ ⟨_,_,BB⟩ ?_
  clear hK K
  replace HF:=HF.put 21 (.slice (some ⟨GG,0,none⟩) n n) (by decide) rfl
  generalize Act.put _ _ _=A at HF⊢
  refine bF (i:=5) none (by kernel_rfl) rfl (ab rfl) rfl (fun K hK=>?_)
  refine wp_store_row 28 _ _ rfl (w.heap.size+1) _ (HF.get 7 rfl) (HF.get 4 rfl) 28 gd BB.r1 (by kernel_rfl) rfl (na d) ?_
  have RG:=qm (k:=w.heap.size+1) (cs:=d.arr) (g:=0) (n:=0) RG (fun g' q=>by cases q;show GG≠_;omega)
  have BB:=BB.put1 d.arr
  refine hK _ _ ⟨_,_,BB⟩ ?_
  clear hK K
  rw[show ∀(a:Act) (v:Value),a.put none v=a from fun _ _=>rfl]
  generalize World.setRow _ _ _=W5 at BB RG⊢
  refine bF (i:=6) none (by kernel_rfl) rfl (ab rfl) rfl (fun K hK=>?_)
  refine wp_store_row 73 _ _ rfl (w.heap.size+2) _ (HF.get 8 rfl) (HF.get 3 rfl) 73 kX BB.r2 (by kernel_rfl) rfl (gW d) ?_
  have RG:=qm (k:=w.heap.size+2) (cs:=d.cells) (g:=0) (n:=0) RG (fun g' q=>by cases q;show GG≠_;omega)
  have BB:=BB.put2 d.cells
  refine hK _ _ ⟨_,_,BB⟩ ?_
  clear hK K
  rw[show ∀(a:Act) (v:Value),a.put none v=a from fun _ _=>rfl]
  generalize World.setRow _ _ _=W6 at BB RG⊢
  refine bF (i:=7) (some 4) (by kernel_rfl) rfl (ab rfl) rfl (fun K hK=>?_)
  refine ql rfl (HF.get 0 rfl) ?_
  refine hK _ _ ⟨_,_,BB⟩ ?_
  clear hK K
  replace HF:=HF.put 4 (.slice (some ⟨GG,0,none⟩) n n) (by decide) rfl
  generalize Act.put _ _ _=A at HF⊢
  exact bR (by kernel_rfl) (FIN _ _ ⟨HF.get 8 rfl,HF.get 9 rfl,_,HF.get 0 rfl,RG,BB,HF.1.2⟩)
 ·refine wp_store_row 28 _ _ rfl (w.heap.size+1) _ (HF.get 6 rfl) (HF.get 3 rfl) 28 gd BB.r1 (by kernel_rfl) rfl (na d) ?_
  have BB:=BB.put1 d.arr
  refine hK _ _ ⟨_,_,BB⟩ ?_
  clear hK K
  rw[show ∀(a:Act) (v:Value),a.put none v=a from fun _ _=>rfl]
  generalize World.setRow _ _ _=W5 at BB⊢
  refine kl (i:=4) (j:=6) (some 21) none (by kernel_rfl) rfl rfl (ab rfl) (ab rfl) rfl rfl (fun K hK=>?_) (fun K hK=>?_)
  ·refine xD (n:=n) rfl (HF.get 0 rfl) hn.symm i0 (.int .i64 0) Tryz.underlying29 hi0 hz0 hz1 HBY HML ?_
   intro W3 q1 q2
   obtain⟨BB,RG,HGn⟩:=HMK.o _ _ _ _ BB q1 q2
   clear q1 q2
   generalize HGG:W5.heap.size=GG at RG HGn⊢
   refine hK _ _ ⟨_,_,BB⟩ ?_
   clear hK K
   replace HF:=HF.put 21 (.slice (some ⟨GG,0,none⟩) n n) (by decide) rfl
   generalize Act.put _ _ _=A at HF⊢
   refine bF (i:=6) none (by kernel_rfl) rfl (ab rfl) rfl (fun K hK=>?_)
   refine wp_store_row 73 _ _ rfl (w.heap.size+2) _ (HF.get 8 rfl) (HF.get 3 rfl) 73 kX BB.r2 (by kernel_rfl) rfl (gW d) ?_
   have RG:=qm (k:=w.heap.size+2) (cs:=d.cells) (g:=0) (n:=0) RG (fun g' q=>by cases q;show GG≠_;omega)
   have BB:=BB.put2 d.cells
   refine hK _ _ ⟨_,_,BB⟩ ?_
   clear hK K
   rw[show ∀(a:Act) (v:Value),a.put none v=a from fun _ _=>rfl]
   generalize World.setRow _ _ _=W6 at BB RG⊢
   refine bF (i:=7) (some 4) (by kernel_rfl) rfl (ab rfl) rfl (fun K hK=>?_)
   refine ql rfl (HF.get 0 rfl) ?_
   refine hK _ _ ⟨_,_,BB⟩ ?_
   clear hK K
   replace HF:=HF.put 4 (.slice (some ⟨GG,0,none⟩) n n) (by decide) rfl
   generalize Act.put _ _ _=A at HF⊢
   exact bR (by kernel_rfl) (FIN _ _ ⟨HF.get 8 rfl,HF.get 9 rfl,_,HF.get 0 rfl,RG,BB,HF.1.2⟩)
  ·refine wp_store_row 73 _ _ rfl (w.heap.size+2) _ (HF.get 7 rfl) (HF.get 2 rfl) 73 kX BB.r2 (by kernel_rfl) rfl (gW d) ?_
   have BB:=BB.put2 d.cells
   refine hK _ _ ⟨_,_,BB⟩ ?_
   clear hK K
   rw[show ∀(a:Act) (v:Value),a.put none v=a from fun _ _=>rfl]
   generalize World.setRow _ _ _=W6 at BB⊢
   refine bF (i:=4) (some 21) (by kernel_rfl) rfl (ab rfl) rfl (fun K hK=>?_)
   refine xD (n:=n) rfl (HF.get 0 rfl) hn.symm i0 (.int .i64 0) Tryz.underlying29 hi0 hz0 hz1 HBY HML ?_
   intro W3 q1 q2
   obtain⟨BB,RG,HGn⟩:=HMK.o _ _ _ _ BB q1 q2
   clear q1 q2
   generalize HGG:W6.heap.size=GG at RG HGn⊢
   refine hK _ _ ⟨_,_,BB⟩ ?_
   clear hK K
   replace HF:=HF.put 21 (.slice (some ⟨GG,0,none⟩) n n) (by decide) rfl
   generalize Act.put _ _ _=A at HF⊢
   refine bF (i:=7) (some 4) (by kernel_rfl) rfl (ab rfl) rfl (fun K hK=>?_)
   refine ql rfl (HF.get 0 rfl) ?_
   refine hK _ _ ⟨_,_,BB⟩ ?_
   clear hK K
   replace HF:=HF.put 4 (.slice (some ⟨GG,0,none⟩) n n) (by decide) rfl
   generalize Act.put _ _ _=A at HF⊢
   exact bR (by kernel_rfl) (FIN _ _ ⟨HF.get 8 rfl,HF.get 9 rfl,_,HF.get 0 rfl,RG,BB,HF.1.2⟩)
def gD (pg st x y:Int)(ws:List Int):Int×List Int:=if ci pg x y then rS pg st (spanV x y) (x / 4) 0 ws else(0,ws)
def Ig (pg st:Int)(ws:List Int):Int:=Hz pg st (aL pg).toNat 0 0 ws
section
variable {pg st:Int}{n:Nat}(H:TblIn pg st n)
include H
theorem zi (x y:Int):bK n (fun _=>True) (gA pg st x y):=by
 unfold gA;split
 ·exact cW (xw H _ _ 0 (by omega)) (fun _ _=>trivial)
 ·exact ai n trivial
theorem zj (x y:Int):bG n (gA pg st x y) (gD pg st x y):=by
 unfold gA
 split
 ·rename_i h
  exact aU (xz H _ _ 0) (fun ws _=>by unfold gD;rw[if_pos h])
 ·rename_i h
  exact aU (au n 0) (fun ws _=>by unfold gD;rw[if_neg h])
end
structure Off (pg st:Int)(ws ws':List Int):Prop where
 len:ws'.length=ws.length
 ok:OkW ws→OkW ws'
 eq:∀i:Int,0≤i→(∀k,bS pg k=true→i≠dU pg st k)→wAt ws' i=wAt ws i
structure PE (pg st:Int)(zs xs:List Int)(k:Nat):Prop where
 len:xs.length=zs.length
 eq:∀i:Int,0≤i→(∀j,bS pg j=true→(k:Int)≤j→i≠dU pg st j)→wAt xs i=wAt zs i
structure E0 (ws ws':List Int)(S:Int→Prop):Prop where
 len:ws'.length=ws.length
 eq:∀i:Int,0≤i→(S i→wAt ws' i=1)∧(¬S i→wAt ws' i=wAt ws i)
theorem E3 (ws:List Int)(S:Int→Prop)(h:∀i,¬S i):E0 ws ws S:=⟨rfl,fun i _=>⟨fun q=>absurd q (h i),fun _=>rfl⟩⟩
theorem E8 {pg st:Int}{n:Nat}(H:TblIn pg st n){ws a:List Int}{S:Int→Prop}(h:E0 ws a S)(hn:ws.length=n){k:Int}(hk:bS pg k=true):E0 ws (lU pg st k 1 a).2 (fun i=>S i∨i=dU pg st k):=by
 obtain⟨t0,t1,t2⟩:=pd H hk
 have hv:∀i:Int,0≤i→wAt (lU pg st k 1 a).2 i=if i=dU pg st k then 1 else wAt a i:=fun i h0=>by
  unfold lU
  rw[if_pos hk]
  split
  ·rename_i q
   have:wAt a (dU pg st k)=1:=by
    unfold bL at q;rw[hk] at q;simpa using q
   split
   ·rename_i e;rw[e];exact this
   ·rfl
  ·rw[show(fE pg k,a.set (dU pg st k).toNat 1).2=a.set (dU pg st k).toNat 1 from rfl,dI (by omega) h0 (by rw[h.len,hn];exact t1)]
 refine⟨by rw[H4];exact h.len,fun i h0=>⟨fun q=>?_,fun q=>?_⟩⟩
 ·rw[hv i h0]
  split
  ·rfl
  ·rename_i e;exact(h.eq i h0).1 (q.resolve_right e)
 ·rw[hv i h0,if_neg (fun e=>q (.inr e))]
  exact(h.eq i h0).2 (fun r=>q (.inl r))
theorem zk {pg st:Int}{n:Nat}(H:TblIn pg st n)(m:Nat):∀(k s:Int) (ws a:List Int) (S:Int→Prop),ws.length=n→E0 ws a S→(∀i:Nat,i<m→bS pg (k+i)=true)→E0 ws (rS pg st m k s a).2 (fun i=>S i∨∃j:Nat,j<m∧i=dU pg st (k+j)):=by
 induction m with
 |zero =>
  intro k s ws a S hn h hc
  exact⟨h.len,fun i h0=>⟨fun q=>by rcases q with q|⟨j,hj,_⟩;exact(h.eq i h0).1 q;omega,fun q=>(h.eq i h0).2 (fun r=>q (.inl r))⟩⟩
 |succ m ih =>
  intro k s ws a S hn h hc
  have h1:=E8 H h hn (by simpa using hc 0 (by omega))
  have h2:=ih (k+1) (s+(lU pg st k 1 a).1) ws _ _ hn h1 (fun i hi=>by have:=hc (i+1) (by omega);rwa [show k+((i+1:Nat):Int)=k+1+(i:Int) by omega] at this)
  refine⟨h2.len,fun i h0=>?_⟩
  have e:(S i∨∃j:Nat,j<m+1∧i=dU pg st (k+j))↔((S i∨i=dU pg st k)∨∃j:Nat,j<m∧i=dU pg st (k+1+j)):=by
   constructor
   ·rintro(q|⟨j,hj,q⟩)
    ·exact .inl (.inl q)
    ·cases j with
     |zero=>exact .inl (.inr (by simpa using q))
     |succ j=>exact .inr ⟨j,by omega,by rw[q];congr 1;omega⟩
   ·rintro((q|q)|⟨j,hj,q⟩)
    ·exact .inl q
    ·exact .inr ⟨0,by omega,by simpa using q⟩
    ·exact .inr ⟨j+1,by omega,by rw[q];congr 1;omega⟩
  exact⟨fun q=>(h2.eq i h0).1 (e.1 q),fun q=>(h2.eq i h0).2 (fun r=>q (e.2 r))⟩
theorem Pc (w:World)(x1 x2 y1 y2:Array Value)(t1 t2:TypeId):∃W,(((w.alloc (.cells x1 t1)).alloc (.cells x2 t2)).setRow w.heap.size y1).setRow (w.heap.size+1) y2=W ∧
 ((w.alloc (.cells x1 t1)).alloc (.cells x2 t2)).heap[w.heap.size]?=some (.cells x1 t1 (0,0))∧(((w.alloc (.cells x1 t1)).alloc (.cells x2 t2)).setRow w.heap.size y1).heap[w.heap.size+1]?=some (.cells x2 t2 (0,0)) ∧
 W.heap[w.heap.size]?=some (.cells y1 t1 (0,0))∧ae w W∧w.heap.size+2≤W.heap.size:=by
 have h0:=aY w x1 t1
 have s0:(w.alloc (.cells x1 t1)).heap.size=w.heap.size+1:=by simp
 have m0:ae w (w.alloc (.cells x1 t1)):=(ae.refl _).alloc _
 generalize w.alloc (.cells x1 t1)=w1 at h0 s0 m0⊢
 have h1:=aY w1 x2 t2
 rw[s0] at h1
 have s1:(w1.alloc (.cells x2 t2)).heap.size=w.heap.size+2:=by simp[s0]
 have m1:ae w1 (w1.alloc (.cells x2 t2)):=(ae.refl _).alloc _
 generalize w1.alloc (.cells x2 t2)=w2 at h1 s1 m1⊢
 have a0:=m1.block h0
 refine⟨_,rfl,a0,(setRow_other _ _ _ _ (by omega)).trans h1,(setRow_other _ _ _ _ (by omega)).trans (setRow_heap _ _ _ _ _ _ a0),((m0.trans m1).setRow _ _ (by omega)).setRow _ _ (by omega),?_⟩
 simp[s1]
theorem Fa (w:World)(g k:Nat)(h:w.heap[g]?=some (.cells (oT (cL k)) 3 (0,0))):jH w (some ⟨g,0,none⟩) (cL k):=
 .inr ⟨g,0,rfl,ac h,fun i hi=>by
  rw[Nat.zero_add,cell_of_row w g i _ _ _ h]
  rw[kh] at hi
  simp[oT,cL,hi]⟩
theorem sX (k:Nat)(hk:k≤1000000)(w:World):
 (Instr.makeSlice 29 (.int .i64 (k:Int)) (.int .i64 (k:Int))).run Tryz.prog w=.ok (.slice (some ⟨w.heap.size,0,none⟩) k k) (w.alloc (.cells (oT (cL k)) 3)):=by
 obtain⟨i,hi,hz,hs,hb⟩:=ji
 have:=run_make (P:=Tryz.prog) w 29 3 i (.int .i64 0) Tryz.underlying29 hi hz .i64 .i64 k k (by omega) (by omega) (by rw[hb];omega) (by omega)
 rw[this]
 simp only[Int.toNat_natCast,hs,Nat.mul_one]
 have e:madeCells (Value.int .i64 0).cells k=oT (cL k):=by
  apply Array.ext
  ·simp[size_madeCells,oT,cL]
  ·intro j h1 h2
   simp[madeCells,oT,cL,Value.cells,Nat.mod_one]
 rw[e]
def TrC (c:Cfg)(g1:Nat)(W:World):Prop:=W.heap[g1]?=some (.cells c.arr 28 (0,0))
structure TrY (c:Cfg)(g1 g2:Nat)(w:World):Prop where
 h1:w.heap[g1]?=some (.cells c.arr 28 (0,0))
 h2:∃b,j0 g2 w b
def af (pg p:Int):Bool:=decide (0≤p) && decide (p<pg)
theorem ax {pg p:Int} :af pg p=true↔0≤p∧p<pg:=by simp[af]
theorem sY {pg p:Int} :af pg p=false↔¬(0≤p∧p<pg):=by
 cases h:af pg p with
 |true=>simp[ax.1 h]
 |false=>simp only[true_iff];intro q;rw[ax.2 q] at h;cases h
def kA (pg st p:Int):Int:=a8 st+aL pg+p
def cA (pg st p:Int):Int:=a8 st+aL pg+pg+p
def bA (pg st p:Int):Int:=a8 st+aL pg+2 * pg+p
theorem Mx {pg st p:Int}(h:af pg p=true):dC pg st 0 p=kA pg st p:=by unfold dC kA;rw[if_pos (ax.1 h)];omega
theorem ta {pg st p:Int}(h:af pg p=true):dC pg st 1 p=cA pg st p:=by unfold dC cA;rw[if_pos (ax.1 h)];omega
theorem DM {pg st p:Int}(h:af pg p=true):dC pg st 2 p=bA pg st p:=by unfold dC bA;rw[if_pos (ax.1 h)]
theorem My {pg st i p:Int}(h:af pg p=false):dC pg st i p=0:=by unfold dC;rw[if_neg (sY.1 h)]
def eN (pg st p:Int):Prg Int:=if af pg p then cU (kA pg st p) else ay (-1)
def lI (pg st p k x:Int):Prg Unit:=aq (cO (kA pg st p) k) fun _=>aq (cO (cA pg st p) x) fun _=>cO (bA pg st p) 0
def ph (pg st:Int):Nat→Int→Prg Bool
 | 0,_=>ay true
 |m+1,q=>aq (eN pg st q) (fun k=>if k=0 then ph pg st m (q+1) else ay false)
def pi (pg st p n:Int):Prg Bool:=if ci pg p n then ph pg st n.toNat p else ay false
def iO (pg st k:Int):Nat→Int→Prg Unit
 | 0,_=>ay ()
 |m+1,q=>aq (lI pg st q k 0) fun _=>iO pg st k m (q+1)
def oo (k:Int):Bool:=decide (1≤k) && decide (k≤5)
theorem KF {k:Int} :oo k=true↔1≤k∧k≤5:=by simp[oo]
def oq (k n:Int):Bool:=decide (k=6) ||(oo k && decide (n=1))
theorem KG {k n:Int} :oq k n=true↔k=6∨(1≤k∧k≤5∧n=1):=by simp[oq,oo,and_assoc]
def jo (pg st p n k:Int):Prg Bool:=if oq k n then aq (pi pg st p n) (fun b=>if b then aq (gA pg st p n) (fun _=>aq (lI pg st p k (if k=6 then n else 0)) (fun _=>aq (iO pg st 7 (n-1).toNat (p+1)) (fun _=>ay true))) else ay false) else ay false
def nR (pg st p:Int):Prg Int:=aq (eN pg st p) (fun k=>if oo k then ay 1 else if k=6 then aq (cU (cA pg st p)) (fun x=>ay (max 1 (min x (pg-p)))) else ay 0)
def lX (pg st p:Int):Prg Int:=aq (nR pg st p) (fun n=>aq (iO pg st 0 n.toNat p) (fun _=>ay n))
def kY (pg st:Int):Nat→Int→Int→Prg Int
 | 0,_,s=>ay s
 |m+1,q,s=>aq (eN pg st q) (fun k=>kY pg st m (q+1) (s+if k=0 then 0 else 1))
def lY (pg st:Int):Prg Int:=kY pg st pg.toNat 0 0
def lZ (pg st q:Int):Prg Bool:=aq (eN pg st q) (fun k=>ay (decide (k=0)))
def l8 (pg st q:Int):Prg Bool:=aq (dP pg st (ofV q)) (fun b=>if b then lZ pg st q else ay false)
def j3 (f:Int→Prg Bool):Nat→Int→Prg (Option Int)
 | 0,_=>ay none
 |m+1,q=>aq (f q) (fun b=>if b then j3 f m (q+1) else ay (some q))
def jp (f:Int→Prg Bool)(pg n step:Int):Nat→Int→Prg Int
 | 0,_=>ay (-1)
 |m+1,p=>if p≤pg-n then aq (j3 f n.toNat p) (fun r=>match r with|none=>ay p|some q=>jp f pg n step m ((q / step+1) * step)) else ay (-1)
def nh (f:Int→Prg Bool)(pg n step:Int):Prg Int:=jp f pg n step (pg.toNat+1) 0
def kZ (pg st n step:Int):Prg Int:=if 1≤n∧1≤step then aq (nh (l8 pg st) pg n step) (fun p=>if p= -1 then nh (lZ pg st) pg n step else ay p) else ay (-1)
theorem jq (pg st p:Int):bg (eN pg st p):=aH (dy _) (ah _)
theorem vK (pg st p k x:Int):bg (lI pg st p k x):=ak (cV _ _) (fun _=>ak (cV _ _) (fun _=>cV _ _))
theorem BF (pg st:Int)(m:Nat):∀q,bg (ph pg st m q):=by
 induction m with
 |zero=>intro q;exact ah _
 |succ m ih=>intro q;exact ak (jq _ _ _) (fun _=>aH (ih _) (ah _))
theorem Fb (pg st p n:Int):bg (pi pg st p n):=aH (BF _ _ _ _) (ah _)
theorem td (pg st k:Int)(m:Nat):∀q,bg (iO pg st k m q):=by
 induction m with
 |zero=>intro q;exact ah _
 |succ m ih=>intro q;exact ak (vK _ _ _ _ _) (fun _=>ih _)
theorem BH (pg st p n k:Int):bg (jo pg st p n k):=
 aH (ak (Fb _ _ _ _) (fun _=>aH (ak (xx _ _ _ _) (fun _=>ak (vK _ _ _ _ _) (fun _=>ak (td _ _ _ _ _) (fun _=>ah _)))) (ah _))) (ah _)
theorem Fd (pg st p:Int):bg (nR pg st p):=ak (jq _ _ _) (fun _=>aH (ah _) (aH (ak (dy _) (fun _=>ah _)) (ah _)))
theorem BI (pg st p:Int):bg (lX pg st p):=ak (Fd _ _ _) (fun _=>ak (td _ _ _ _ _) (fun _=>ah _))
theorem zm (pg st:Int)(m:Nat):∀q s,bg (kY pg st m q s):=by
 induction m with
 |zero=>intro q s;exact ah _
 |succ m ih=>intro q s;exact ak (jq _ _ _) (fun _=>ih _ _)
theorem BJ (pg st:Int):bg (lY pg st):=zm _ _ _ _ _
theorem te (pg st q:Int):bg (lZ pg st q):=ak (jq _ _ _) (fun _=>ah _)
theorem BN (pg st q:Int):bg (l8 pg st q):=ak (pf _ _ _) (fun _=>aH (te _ _ _) (ah _))
theorem zn {f:Int→Prg Bool}(hf:∀q,bg (f q))(m:Nat):∀q,bg (j3 f m q):=by
 induction m with
 |zero=>intro q;exact ah _
 |succ m ih=>intro q;exact ak (hf q) (fun _=>aH (ih _) (ah _))
theorem q8 {f:Int→Prg Bool}(hf:∀q,bg (f q))(pg n step:Int)(m:Nat):∀p,bg (jp f pg n step m p):=by
 induction m with
 |zero=>intro q;exact ah _
 |succ m ih =>
  intro q
  refine aH (ak (zn hf _ _) (fun r=>?_)) (ah _)
  cases r with
  |none=>exact ah _
  |some q=>exact ih _
theorem BO (pg st n step:Int):bg (kZ pg st n step):=aH (ak (q8 (BN pg st) _ _ _ _ _) (fun _=>aH (q8 (te pg st) _ _ _ _ _) (ah _))) (ah _)
structure PgIn (pg st:Int)(n:Nat):Prop extends TblIn pg st n where
 top5:a8 st+aL pg+5 * pg≤n
theorem aW {α:Type}{n:Nat}{Q:α→Prop}{c:Prop} [Decidable c] {p q:Prg α}(h1:c→bK n Q p)(h2:¬c→bK n Q q):bK n Q (if c then p else q):=by
 split
 ·rename_i h;exact h1 h
 ·rename_i h;exact h2 h
section
variable {pg st:Int}{n:Nat}(H:PgIn pg st n)
include H
theorem cm {p:Int}(h:af pg p=true):(4≤kA pg st p∧kA pg st p<n∧W64 (kA pg st p))∧(4≤cA pg st p∧cA pg st p<n∧W64 (cA pg st p))∧(4≤bA pg st p∧bA pg st p<n∧W64 (bA pg st p)):=by
 have h0:=ax.1 h
 have h1:=H.st1;have h2:=H.st2;have h3:=H.top5;have h4:=H.pg1;have h5:=H.pg2
 unfold kA cA bA W64
 unfold aL a8 at *
 omega
theorem fj (p:Int):bK n W64 (eN pg st p):=
 aW (fun h=>bd n (cm H h).1.2.1) (fun _=>ai n (by unfold W64;omega))
theorem pj {p:Int}(h:af pg p=true){k x:Int}(hk:W64 k)(hx:W64 x):bK n (fun _=>True) (lI pg st p k x):=by
 obtain⟨⟨_,a1,a2⟩,⟨_,b1,b2⟩,_,c1,c2⟩:=cm H h
 exact ar (aQ n a2 a1 hk) (fun _ _=>ar (aQ n b2 b1 hx) (fun _ _=>aQ n c2 c1 (by unfold W64;omega)))
theorem vL (m:Nat):∀q,bK n (fun _=>True) (ph pg st m q):=by
 induction m with
 |zero=>intro q;exact ai n trivial
 |succ m ih=>intro q;exact ar (fj H q) (fun k _=>aW (fun _=>ih _) (fun _=>ai n trivial))
theorem qn {k:Int}(hk:W64 k)(m:Nat):∀q,(∀i:Nat,i<m→af pg (q+i)=true)→bK n (fun _=>True) (iO pg st k m q):=by
 induction m with
 |zero=>intro q _;exact ai n trivial
 |succ m ih =>
  intro q h
  exact ar (pj H (by simpa using h 0 (by omega)) hk (by unfold W64;omega)) (fun _ _=>ih _ (fun i hi=>by have:=h (i+1) (by omega);rwa [show q+((i+1:Nat):Int)=q+1+(i:Int) by omega] at this))
theorem pk (x y:Int):bK n (fun _=>True) (gA pg st x y):=zi H.toTblIn x y
theorem vM (p m k:Int)(hk:W64 k)(hm:W64 m):bK n (fun _=>True) (jo pg st p m k):=by
 unfold jo pi
 refine aW (fun hf=>?_) (fun _=>ai n trivial)
 cases h:ci pg p m with
 |false=>exact ar (ai n (Q:=fun b:Bool=>b=false) rfl) (fun b hb=>by subst hb;exact ai n trivial)
 |true =>
  obtain⟨q0,q1,q2⟩:=dX.1 h
  have hx:W64 (if k=6 then m else 0):=by
   split
   ·exact hm
   ·unfold W64;omega
  exact ar (vL H _ _) (fun b _=>aW (fun _=>ar (pk H _ _) (fun _ _=>ar (pj H (ax.2 ⟨by omega,by omega⟩) hk hx) (fun _ _=>ar (qn H (by unfold W64;omega) _ _ (fun i hi=>ax.2 ⟨by omega,by omega⟩)) (fun _ _=>ai n trivial)))) (fun _=>ai n trivial))
theorem tf (p:Int):bK n (fun x:Int=>x=0∨af pg p=true∧1≤x∧x≤pg-p) (nR pg st p):=by
 unfold nR eN
 cases h:af pg p with
 |false=>exact ar (ai n (Q:=fun k:Int=>k= -1) rfl) (fun k hk=>by subst hk;exact ai n (.inl rfl))
 |true =>
  have:=ax.1 h
  exact ar (bd n (cm H h).1.2.1) (fun k _=>aW (fun _=>ai n (.inr ⟨rfl,by omega,by omega⟩)) (fun _=>aW (fun _=>ar (bd n (cm H h).2.1.2.1) (fun x _=>ai n (.inr ⟨rfl,by omega,by omega⟩))) (fun _=>ai n (.inl rfl))))
theorem qo (p:Int):bK n (fun x:Int=>0≤x∧x≤256) (lX pg st p):=by
 have h5:=H.pg2
 exact ar (tf H p) (fun x hx=>by
  have hb:∀i:Nat,i<x.toNat→af pg (p+i)=true:=fun i hi=>by
   rcases hx with rfl|⟨h,h1,h2⟩
   ·simp at hi
   ·have:=ax.1 h;exact ax.2 ⟨by omega,by omega⟩
  exact ar (qn H (by unfold W64;omega) _ _ hb) (fun _ _=>ai n (by
   rcases hx with rfl|⟨h,h1,h2⟩
   ·omega
   ·have:=ax.1 h;omega)))
theorem BT (m:Nat):∀q s:Int,0≤s→bK n (fun x:Int=>0≤x∧x≤s+m) (kY pg st m q s):=by
 induction m with
 |zero=>intro q s h;exact ai n (by omega)
 |succ m ih=>intro q s h;exact ar (fj H q) (fun k _=>cW (ih (q+1) (s+if k=0 then 0 else 1) (by split<;>omega)) (fun x hx=>by split at hx<;>omega))
theorem vN:bK n (fun x:Int=>0≤x∧x≤256) (lY pg st):=cW (BT H _ _ 0 (by omega)) (fun x hx=>by have:=H.pg2;have:=H.pg1;omega)
theorem km (q:Int):bK n (fun _=>True) (lZ pg st q):=ar (fj H q) (fun _ _=>ai n trivial)
theorem qq (q:Int):bK n (fun _=>True) (l8 pg st q):=ar (jL H.toTblIn _) (fun b _=>aW (fun _=>km H q) (fun _=>ai n trivial))
theorem BU {f:Int→Prg Bool}(hf:∀q,bK n (fun _=>True) (f q))(m:Nat):∀q:Int,bK n (fun r:Option Int=>∀x,r=some x→q≤x∧x<q+m) (j3 f m q):=by
 induction m with
 |zero=>intro q;exact ai n (fun x h=>by cases h)
 |succ m ih=>intro q;exact ar (hf q) (fun b _=>aW (fun _=>cW (ih _) (fun r hr x hx=>by have:=hr x hx;omega)) (fun _=>ai n (fun x hx=>by cases hx;omega)))
theorem ou {f:Int→Prg Bool}(hf:∀q,bK n (fun _=>True) (f q))(m step:Int)(hm:1≤m)(hs:1≤step)(j:Nat):∀p:Int,0≤p→bK n (fun x:Int=> -1≤x∧x<pg) (jp f pg m step j p):=by
 have h4:=H.pg1
 induction j with
 |zero=>intro p _;exact ai n (by omega)
 |succ j ih =>
  intro p hp
  refine aW (fun h=>ar (BU H hf _ _) (fun r hr=>?_)) (fun _=>ai n (by omega))
  cases r with
  |none=>exact ai n (by omega)
  |some q =>
   have:=hr q rfl
   refine ih _ (Int.mul_nonneg ?_ (by omega))
   have:=Int.ediv_nonneg (a:=q) (b:=step) (by omega) (by omega)
   omega
theorem vO (m step:Int):bK n (fun x:Int=> -1≤x∧x<pg) (kZ pg st m step):=by
 have h4:=H.pg1
 exact aW (fun h=>ar (ou H (qq H) m step h.1 h.2 _ 0 (by omega)) (fun p hp=>aW (fun _=>ou H (km H) m step h.1 h.2 _ 0 (by omega)) (fun _=>ai n hp))) (fun _=>ai n (by omega))
end
theorem bI {α:Type}{n:Nat}{c:Prop} [Decidable c] {p q:Prg α}{g h:List Int→α×List Int}(hp:c→bG n p g)(hq:¬c→bG n q h):bG n (if c then p else q) (fun ws=>if c then g ws else h ws):=by
 by_cases e:c
 ·simp only[if_pos e];exact hp e
 ·simp only[if_neg e];exact hq e
theorem ge {α β:Type}{n:Nat}{p:Prg α}{f:α→Prg β}{g:List Int→α×List Int}{k:α→List Int→β×List Int}{Q:α→Prop}(h:bG n p g)(hq:∀ws,ws.length=n→Q (g ws).1)(hf:∀x,Q x→bG n (f x) (k x)):bG n (aq p f) (fun ws=>k (g ws).1 (g ws).2):=fun zs D hn hz hD=>by
 obtain⟨D1,e1,a1,i1⟩:=h zs D hn hz hD
 obtain⟨D2,e2,a2,i2⟩:=hf (g (ce zs D)).1 (hq _ (by rw[dY];exact hn)) zs D1 hn hz i1
 refine⟨D2,?_,?_,i2⟩
 ·rw[aj e1,e2,a1]
 ·rw[a2,a1]
def nA (pg st p:Int):Int:=a8 st+aL pg+3 * pg+p
def vA (pg st p:Int):Int:=a8 st+aL pg+4 * pg+p
theorem DN {pg st p:Int}(h:af pg p=true):dC pg st 3 p=nA pg st p:=by unfold dC nA;rw[if_pos (ax.1 h)]
theorem Ih {pg st p:Int}(h:af pg p=true):dC pg st 4 p=vA pg st p:=by unfold dC vA;rw[if_pos (ax.1 h)]
def gX (pg x:Int):Int:=if af pg (IntKind.i64.wrap (x-1)) then IntKind.i64.wrap (x-1) else -1
def el (pg a:Int):Prg Int:=if a=0 then ay (-1) else aq (cU a) (fun x=>ay (gX pg x))
def k7 (pg st p:Int):Nat→Int→List Int→Prg (List Int×Bool)
 | 0,_,l=>ay (l,false)
 |m+1,a,l=>aq (el pg a) (fun q=>if q=p then ay (l,true) else if q= -1 then ay (l,false) else k7 pg st p m (nA pg st q) (l++ [q]))
def k8 (pg st p c f:Int):Prg (List Int×Bool):=k7 pg st p pg.toNat (aG pg st c f) []
def eY (pg st h p q:Int):Prg Unit:=aq (if p= -1 then cO h (q+1) else cO (nA pg st p) (q+1)) (fun _=>if q= -1 then ay () else cO (vA pg st q) (p+1))
def iV (pg st p c f:Int):Prg Bool:=if aG pg st c f=0 then ay false else if af pg p then aq (el pg (aG pg st c f)) (fun q=>aq (eY pg st (aG pg st c f) p q) fun _=>aq (eY pg st (aG pg st c f) (-1) p) fun _=>ay true) else ay false
def cC (l:List Int):Int:=l.getD (l.length-1) (-1)
def fI (pg st p c f:Int):Prg Bool:=if af pg p then aq (k8 pg st p c f) (fun r=>if r.2 then aq (el pg (nA pg st p)) (fun q=>aq (eY pg st (aG pg st c f) (cC r.1) q) fun _=>aq (cO (nA pg st p) 0) fun _=>aq (cO (vA pg st p) 0) fun _=>ay true) else ay false) else ay false
def fe (pg st c:Int):Nat→Int→Prg Int
 | 0,_=>ay (-1)
 |m+1,f=>aq (el pg (aG pg st c f)) (fun q=>if q= -1 then fe pg st c m (f+1) else ay q)
theorem iW (pg a:Int):bg (el pg a):=aH (ah _) (ak (dy _) (fun _=>ah _))
theorem xE (pg st p:Int)(m:Nat):∀a l,bg (k7 pg st p m a l):=by
 induction m with
 |zero=>intro a l;exact ah _
 |succ m ih=>intro a l;exact ak (iW _ _) (fun _=>aH (ah _) (aH (ah _) (ih _ _)))
theorem zo (pg st p c f:Int):bg (k8 pg st p c f):=xE _ _ _ _ _ _
theorem ld (pg st h p q:Int):bg (eY pg st h p q):=ak (aH (cV _ _) (cV _ _)) (fun _=>aH (ah _) (cV _ _))
theorem xF (pg st p c f:Int):bg (iV pg st p c f):=aH (ah _) (aH (ak (iW _ _) (fun _=>ak (ld _ _ _ _ _) (fun _=>ak (ld _ _ _ _ _) (fun _=>ah _)))) (ah _))
theorem th (pg st p c f:Int):bg (fI pg st p c f):=aH (ak (zo _ _ _ _ _) (fun _=>aH (ak (iW _ _) (fun _=>ak (ld _ _ _ _ _) (fun _=>ak (cV _ _) (fun _=>ak (cV _ _) (fun _=>ah _))))) (ah _))) (ah _)
theorem ma (pg st c:Int)(m:Nat):∀f,bg (fe pg st c m f):=by
 induction m with
 |zero=>intro f;exact ah _
 |succ m ih=>intro f;exact ak (iW _ _) (fun _=>aH (ih _) (ah _))
structure cF (pg st:Int)(n:Nat):Prop extends PgIn pg st n where
 top62:a8 st+aL pg+5 * pg+62≤n
theorem bD {pg st c f:Int}{n:Nat}(H:cF pg st n):0≤aG pg st c f∧aG pg st c f<n∧W64 (aG pg st c f):=by
 have h1:=H.st1;have h2:=H.st2;have h3:=H.top62;have h4:=H.pg1;have h5:=H.pg2
 have hc:0≤aL pg∧aL pg≤64:=by unfold aL;omega
 have ht:0≤a8 st:=by unfold a8;omega
 unfold aG
 split
 ·rename_i h
  obtain⟨c0,c4,f1,fs⟩:=h
  have:c=0∨c=1∨c=2∨c=3∨c=4:=by omega
  unfold bo W64 a8 at *
  rcases this with rfl|rfl|rfl|rfl|rfl<;>simp[fX,fD] at fs⊢ <;>omega
 ·unfold W64;omega
section
variable {pg st:Int}{n:Nat}(H:cF pg st n)
include H
theorem eF {p:Int}(h:af pg p=true):(4≤nA pg st p∧nA pg st p<n∧W64 (nA pg st p))∧(4≤vA pg st p∧vA pg st p<n∧W64 (vA pg st p)):=by
 have h0:=ax.1 h
 have h1:=H.st1;have h2:=H.st2;have h3:=H.top62;have h4:=H.pg1;have h5:=H.pg2
 unfold nA vA W64
 unfold aL a8 at *
 omega
theorem zp (x:Int):gX pg x= -1∨af pg (gX pg x)=true:=by
 unfold gX
 split
 ·rename_i h;exact .inr h
 ·exact .inl rfl
theorem dq {a:Int}(ha:a<n):bK n (fun q:Int=>q= -1∨af pg q=true) (el pg a):=
 aW (fun _=>ai n (.inl rfl)) (fun _=>ar (bd n ha) (fun x _=>ai n (zp H x)))
theorem zr {p:Int}(m:Nat):∀(a:Int) (l:List Int),a<n→(∀x∈l,af pg x=true)→bK n (fun r:List Int×Bool=>(∀x∈r.1,af pg x=true)∧r.1.length≤l.length+m) (k7 pg st p m a l):=by
 induction m with
 |zero=>intro a l _ hl;exact ai n ⟨hl,by simp⟩
 |succ m ih =>
  intro a l ha hl
  exact ar (dq H ha) (fun q hq=>aW (fun _=>ai n ⟨hl,by simp⟩) (fun _=>aW (fun _=>ai n ⟨hl,by simp⟩) (fun hne=>by
   have hp:af pg q=true:=hq.resolve_left hne
   exact cW (ih _ _ (eF H hp).1.2.1 (fun x hx=>by
    rcases List.mem_append.1 hx with h|h
    ·exact hl x h
    ·rw[List.mem_singleton.1 h];exact hp)) (fun r hr=>⟨hr.1,by have:=hr.2;simp at this;omega⟩))))
theorem ow (p c f:Int):bK n (fun r:List Int×Bool=>(∀x∈r.1,af pg x=true)∧r.1.length≤256) (k8 pg st p c f):=cW (zr H _ _ _ (bD H).2.1 (fun x hx=>by cases hx)) (fun r hr=>⟨hr.1,by have h1:=hr.2;have h2:=H.pg2;simp only[List.length_nil] at h1;omega⟩)
theorem nT {q:Int}(hq:q= -1∨af pg q=true):W64 (q+1):=by
 have h5:=H.pg2
 rcases hq with rfl|h
 ·unfold W64;omega
 ·have:=ax.1 h;unfold W64;omega
theorem dS {h p q:Int}(h1:W64 h)(h2:h<n)(hp:p= -1∨af pg p=true)(hq:q= -1∨af pg q=true):bK n (fun _=>True) (eY pg st h p q):=
 ar (Q:=fun _=>True) (aW (fun _=>aQ n h1 h2 (nT H hq)) (fun hne=>aQ n (eF H (hp.resolve_left hne)).1.2.2 (eF H (hp.resolve_left hne)).1.2.1 (nT H hq)))
  (fun _ _=>aW (fun _=>ai n trivial) (fun hne=>aQ n (eF H (hq.resolve_left hne)).2.2.2 (eF H (hq.resolve_left hne)).2.2.1 (nT H hp)))
theorem me (p c f:Int):bK n (fun _=>True) (iV pg st p c f):=
 aW (fun _=>ai n trivial) (fun _=>aW (fun hp=>ar (dq H (bD H).2.1) (fun q hq=>ar (dS H (bD H).2.2 (bD H).2.1 (.inr hp) hq) (fun _ _=>ar (dS H (bD H).2.2 (bD H).2.1 (.inl rfl) (.inr hp)) (fun _ _=>ai n trivial)))) (fun _=>ai n trivial))
theorem lf {l:List Int}(hl:∀x∈l,af pg x=true):cC l= -1∨af pg (cC l)=true:=by
 unfold cC
 rcases Nat.eq_zero_or_pos l.length with h|h
 ·refine .inl ?_
  rw[List.length_eq_zero_iff.1 h];rfl
 ·refine .inr (hl _ ?_)
  rw[List.getD_eq_getElem?_getD,List.getElem?_eq_getElem (by omega)]
  exact List.getElem_mem _
theorem j4 (p c f:Int):bK n (fun _=>True) (fI pg st p c f):=
 aW (fun hp=>ar (ow H _ _ _) (fun r hr=>aW (fun _=>ar (dq H (eF H hp).1.2.1) (fun q hq=>ar (dS H (bD H).2.2 (bD H).2.1 (lf H hr.1) hq) (fun _ _=>ar (aQ n (eF H hp).1.2.2 (eF H hp).1.2.1 (by unfold W64;omega)) (fun _ _=>ar (aQ n (eF H hp).2.2.2 (eF H hp).2.2.1 (by unfold W64;omega)) (fun _ _=>ai n trivial))))) (fun _=>ai n trivial))) (fun _=>ai n trivial)
theorem il (c:Int)(m:Nat):∀f,bK n (fun q:Int=>q= -1∨af pg q=true) (fe pg st c m f):=by
 induction m with
 |zero=>intro f;exact ai n (.inl rfl)
 |succ m ih=>intro f;exact ar (dq H (bD H).2.1) (fun q hq=>aW (fun _=>ih _) (fun _=>ai n hq))
end
theorem mg {c:Cfg}(R:c.Ok)(w:World)(k:Int):Calls Tryz.prog 136 #[.agg c.arr,.int .i64 k] w (aP w (.int .i64 (dC c.pg c.st 3 k))):=OV R w k
theorem qr {c:Cfg}(R:c.Ok)(w:World)(k:Int):Calls Tryz.prog 147 #[.agg c.arr,.int .i64 k] w (aP w (.int .i64 (dC c.pg c.st 4 k))):=OX R w k
theorem lh {c:Cfg}(R:c.Ok)(w:World)(k f:Int):Calls Tryz.prog 93 #[.agg c.arr,.int .i64 k,.int .i64 f] w (aP w (.int .i64 (aG c.pg c.st k f))):=OY R w k f
theorem iu {c:Cfg}(R:c.Ok){n:Nat}(H:cF c.pg c.st n)(q:Int)(w:World):Calls Tryz.prog 117 #[.agg c.arr,.int .i64 q] w (aP w (.bool (af c.pg q))):=by
 have hz:(dC c.pg c.st 3 q != 0)=af c.pg q:=by
  cases h:af c.pg q with
  |true=>rw[DN h];have:=(eF H h).1.1;simp;omega
  |false=>rw[My h];rfl
 obtain⟨w1,e1,hl1,m1,s1⟩:=aZ w (.cells c.arr 28)
 have L0:=hQQ hl1
 have MM:=hQQ m1
 have HR:=hQQ R
 clear hl1 m1 R H
 go_enter Tryz.func117,Tryz.ntmps117
 go_wp2_with (first|(refine aI rfl rfl rfl L0.o (by kernel_rfl) ?_)|(refine aI rfl rfl rfl L0.o (by kernel_rfl) ?_))
 refine(mg HR.o _ q).mono ?_
 rintro e w2 ⟨rfl,h2⟩
 have H2:=hQQ (MM.o.trans h2)
 clear h2
 go_wp2_with fail
 go_ret
 first
 |exact⟨rfl,H2.o⟩
 |exact⟨by rw[←hz],H2.o⟩
theorem mh {c:Cfg}(R:c.Ok){n:Nat}(H:cF c.pg c.st n)(F:Nat→Prop)(p:Nat)(kn:Int→Option Int)(D:List KV)(a:Int)(ha:W64 a)(hn:a<n)(w:World)(hv:aE w F p kn D)(hk:OkK kn)(hD:cD n D):
 Calls Tryz.prog 92 #[.pointer (some ⟨p,0,none⟩),.agg c.arr,.int .i64 a] w (aB w F p kn (fun x=> .int .i64 x) (el c.pg a kn D)):=by
 obtain⟨Rr,hRr⟩:∃Rr,el c.pg a kn D=Rr:=⟨_,rfl⟩
 rw[hRr]
 obtain⟨w1,e1,hl1,m1,s1⟩:=aZ w (.cells c.arr 28)
 have nFl:¬F w.heap.size:=fun q=>by have:=hv.lt _ q;omega
 have MM:=hQQ m1
 have L0:=hQQ hl1
 have M0:Hq (MidV w1 w1 F (fun _=>False) p kn n D F):=hQQ (MidV.begin (hv.more m1) hD)
 have KL:Hq (∀wr D' F',MidV w1 wr F (fun _=>False) p kn n D' F'→wr.heap[w.heap.size]?=some (.cells c.arr 28 (0,0))):=hQQ fun wr D' F' h=>cE h L0.o nFl (fun q=>q)
 have NEED:Hq (∀a w2,Rr=.need a→aN w2 p a→Turned (fun b=>F b∨False) w1 w2→aB w F p kn (fun x:Int=>Value.int .i64 x) Rr (.panicked (aR p)) w2):=hQQ fun a w2 e hd ht=>ct MM.o (fun _ q=>q.elim) e hd ht
 have DONE:Hq (∀x w2 D' F',Rr=.ok x D'→MidV w1 w2 F (fun _=>False) p kn n D' F'→aB w F p kn (fun x:Int=>Value.int .i64 x) Rr (.returned ((fun x:Int=>Value.int .i64 x) x)) w2):=hQQ fun x w2 D' F' e h=>bQ MM.o (fun _ q=>q.elim) h e
 have HK:=hQQ hk
 have HR:=hQQ R
 have HH:=hQQ H
 clear hl1 m1 hv hD hk R H nFl
 unfold el at hRr
 by_cases a0:a=0
 ·rw[if_pos a0] at hRr
  have d0:(a==0)=true:=by simp[a0]
  have FIN:=hQQ (DONE.o (-1) w1 D F hRr.symm M0.o)
  clear hRr a0
  go_enter Tryz.func92,Tryz.ntmps92
  go_wp2_with fail
  go_ret
  exact FIN.o
 ·rw[if_neg a0] at hRr
  have d0:(a==0)=false:=by simp[a0]
  have HRr:=hQQ hRr
  clear hRr a0
  go_enter Tryz.func92,Tryz.ntmps92
  go_wp2_with fail
  refine(jl F p kn D a w1 M0.o.view ha).mono ?_
  intro e w2 he
  rcases M0.o.step (ae.refl _) HK.o (bd n hn) he with⟨a',hE,rfl,hd',ht',_⟩|⟨x2,D2,F2,hE,rfl,M2,hq2,_,_⟩
  ·exact⟨rfl,NEED.o a' w2 (HRr.o.symm.trans (ag hE)) hd' ht'⟩
  have L2:=hQQ (KL.o _ _ _ M2)
  have R2:=hQQ ((aj hE).symm.trans HRr.o)
  have M2:=hQQ M2
  clear he hE
  have HV:=hQQ (show Rr=.ok (gX c.pg x2) D2 from R2.o.symm)
  clear R2
  unfold gX at HV
  obtain⟨y,qy⟩:∃y,IntKind.i64.wrap (x2-1)=y:=⟨_,rfl⟩
  rw[qy] at HV
  go_wp2_with (first|(refine aI rfl rfl rfl L2.o (by kernel_rfl) ?_)|(refine aI rfl rfl rfl L2.o (by kernel_rfl) ?_))
  clear qy
  refine(iu HR.o HH.o y _).mono ?_
  rintro e w3 ⟨rfl,h3⟩
  have M3:=hQQ (M2.o.more h3)
  clear h3
  cases hb:af c.pg y with
  |true =>
   have FIN:=hQQ (DONE.o y w3 D2 F2 (by have:=HV.o;rw[if_pos hb] at this;exact this) M3.o)
   clear HV hb
   go_wp2_with fail
   go_ret
   exact FIN.o
  |false =>
   have FIN:=hQQ (DONE.o (-1) w3 D2 F2 (by have:=HV.o;rw[if_neg (by rw[hb];simp)] at this;exact this) M3.o)
   clear HV hb
   go_wp2_with fail
   go_ret
   exact FIN.o
theorem rT {c:Cfg}(R:c.Ok){n:Nat}(H:cF c.pg c.st n)(hn:n≤10000)(F:Nat→Prop)(p:Nat)(kn:Int→Option Int)(D:List KV)(h x y:Int)(h1:W64 h)(h2:h<n)(hx:x= -1∨af c.pg x=true)(hy:y= -1∨af c.pg y=true)(w:World)(hv:aE w F p kn D)(hk:OkK kn)(hD:cD n D):
 Calls Tryz.prog 146 #[.pointer (some ⟨p,0,none⟩),.agg c.arr,.int .i64 h,.int .i64 x,.int .i64 y] w (aB w F p kn (fun _:Unit=> .tuple #[]) (eY c.pg c.st h x y kn D)):=by
 obtain⟨Rr,hRr⟩:∃Rr,eY c.pg c.st h x y kn D=Rr:=⟨_,rfl⟩
 rw[hRr]
 obtain⟨w1,e1,hl1,m1,s1⟩:=aZ w (.cells c.arr 28)
 have nFl:¬F w.heap.size:=fun q=>by have:=hv.lt _ q;omega
 have MM:=hQQ m1
 have L0:=hQQ hl1
 have M0:Hq (MidV w1 w1 F (fun _=>False) p kn n D F):=hQQ (MidV.begin (hv.more m1) hD)
 have KL:Hq (∀wr D' F',MidV w1 wr F (fun _=>False) p kn n D' F'→wr.heap[w.heap.size]?=some (.cells c.arr 28 (0,0))):=hQQ fun wr D' F' h=>cE h L0.o nFl (fun q=>q)
 have NEED:Hq (∀a w2,Rr=.need a→aN w2 p a→Turned (fun b=>F b∨False) w1 w2→aB w F p kn (fun _:Unit=>Value.tuple #[]) Rr (.panicked (aR p)) w2):=hQQ fun a w2 e hd ht=>ct MM.o (fun _ q=>q.elim) e hd ht
 have DONE:Hq (∀x w2 D' F',Rr=.ok x D'→MidV w1 w2 F (fun _=>False) p kn n D' F'→aB w F p kn (fun _:Unit=>Value.tuple #[]) Rr (.returned ((fun _:Unit=>Value.tuple #[]) x)) w2):=hQQ fun x w2 D' F' e h=>bQ MM.o (fun _ q=>q.elim) h e
 have HK:=hQQ hk
 have HR:=hQQ R
 have HH:=hQQ H
 clear hl1 m1 hv hD hk R H nFl
 unfold eY at hRr
 have pg2:=HR.o.pg2
 have hxw:=nT HH.o hx
 have hyw:=nT HH.o hy
 have qx:IntKind.i64.wrap (x+1)=x+1:=az hxw.1 hxw.2
 have qy:IntKind.i64.wrap (y+1)=y+1:=az hyw.1 hyw.2
 have GX:=hQQ hxw
 have GY:=hQQ hyw
 have PX:=hQQ hx
 have PY:=hQQ hy
 have PH:=hQQ (And.intro h1 h2)
 clear hxw hyw hx hy h1 h2
 by_cases ex:x= -1
 ·have d0:(x== -1)=true:=by simp[ex]
  rw[if_pos ex] at hRr
  have HRr:=hQQ hRr
  clear hRr ex
  go_enter Tryz.func146,Tryz.ntmps146
  go_wp2_with fail
  refine(dp F p kn D h (y+1) w1 M0.o.view (by have:=M0.o.inv.len;omega)).mono ?_
  intro e w2 he
  rcases M0.o.step (ae.refl _) HK.o (aQ n PH.o.1 PH.o.2 GY.o) he with⟨a',hE,rfl,hd',ht',_⟩|⟨x2,D2,F2,hE,rfl,M2,hq2,_,_⟩
  ·exact⟨rfl,NEED.o a' w2 (HRr.o.symm.trans (ag hE)) hd' ht'⟩
  have L2:=hQQ (KL.o _ _ _ M2)
  have R2:=hQQ ((aj hE).symm.trans HRr.o)
  have M2:=hQQ M2
  clear he hE
  by_cases ey:y= -1
  ·have d1:(y != -1)=false:=by simp[ey]
   have FIN:=hQQ (DONE.o () w2 D2 F2 (by have:=R2.o;rw[if_pos ey] at this;exact this.symm) M2.o)
   clear R2 ey
   go_wp2_with fail
   go_end0
   exact FIN.o
  ·have d1:(y != -1)=true:=by simp[ey]
   have hpy:=PY.o.resolve_left ey
   have P4:=hQQ (Ih (st:=c.st) hpy)
   have NY:=hQQ (eF HH.o hpy)
   have R2':=hQQ (by have:=R2.o;rw[if_neg ey] at this;exact this)
   clear R2 ey hpy
   go_wp2_with (first|(refine aI rfl rfl rfl L2.o (by kernel_rfl) ?_)|(refine aI rfl rfl rfl L2.o (by kernel_rfl) ?_))
   refine(qr HR.o _ y).mono ?_
   rw[P4.o]
   rintro e w3 ⟨rfl,h3⟩
   have M3:=hQQ (M2.o.more h3)
   clear h3
   go_wp2_with fail
   refine(dp F2 p kn D2 _ (x+1) w3 M3.o.view (by have:=M3.o.inv.len;omega)).mono ?_
   intro e w4 he
   rcases M3.o.step (ae.refl _) HK.o (aQ n NY.o.2.2.2 NY.o.2.2.1 GX.o) he with⟨a',hE,rfl,hd',ht',_⟩|⟨x4,D4,F4,hE,rfl,M4,hq4,_,_⟩
   ·exact⟨rfl,NEED.o a' w4 (R2'.o.symm.trans hE) hd' ht'⟩
   have FIN:=hQQ (DONE.o () w4 D4 F4 (R2'.o.symm.trans hE) M4)
   clear he hE M4
   go_wp2_with fail
   go_end0
   exact FIN.o
 ·have d0:(x== -1)=false:=by simp[ex]
  rw[if_neg ex] at hRr
  have hpx:=PX.o.resolve_left ex
  have HRr:=hQQ hRr
  have P3:=hQQ (DN (st:=c.st) hpx)
  have NB:=hQQ (eF HH.o hpx)
  clear hRr ex hpx
  go_enter Tryz.func146,Tryz.ntmps146
  go_wp2_with (first|(refine aI rfl rfl rfl L0.o (by kernel_rfl) ?_)|(refine aI rfl rfl rfl L0.o (by kernel_rfl) ?_))
  refine(mg HR.o _ x).mono ?_
  rw[P3.o]
  rintro e w5 ⟨rfl,h5⟩
  have M5:=hQQ (M0.o.more h5)
  clear h5
  go_wp2_with fail
  refine(dp F p kn D _ (y+1) w5 M5.o.view (by have:=M5.o.inv.len;omega)).mono ?_
  intro e w2 he
  rcases M5.o.step (ae.refl _) HK.o (aQ n NB.o.1.2.2 NB.o.1.2.1 GY.o) he with⟨a',hE,rfl,hd',ht',_⟩|⟨x2,D2,F2,hE,rfl,M2,hq2,_,_⟩
  ·exact⟨rfl,NEED.o a' w2 (HRr.o.symm.trans (ag hE)) hd' ht'⟩
  have L2:=hQQ (KL.o _ _ _ M2)
  have R2:=hQQ ((aj hE).symm.trans HRr.o)
  have M2:=hQQ M2
  clear he hE
  by_cases ey:y= -1
  ·have d1:(y != -1)=false:=by simp[ey]
   have FIN:=hQQ (DONE.o () w2 D2 F2 (by have:=R2.o;rw[if_pos ey] at this;exact this.symm) M2.o)
   clear R2 ey
   go_wp2_with fail
   go_end0
   exact FIN.o
  ·have d1:(y != -1)=true:=by simp[ey]
   have hpy:=PY.o.resolve_left ey
   have P4:=hQQ (Ih (st:=c.st) hpy)
   have NY:=hQQ (eF HH.o hpy)
   have R2':=hQQ (by have:=R2.o;rw[if_neg ey] at this;exact this)
   clear R2 ey hpy
   go_wp2_with (first|(refine aI rfl rfl rfl L2.o (by kernel_rfl) ?_)|(refine aI rfl rfl rfl L2.o (by kernel_rfl) ?_))
   refine(qr HR.o _ y).mono ?_
   rw[P4.o]
   rintro e w3 ⟨rfl,h3⟩
   have M3:=hQQ (M2.o.more h3)
   clear h3
   go_wp2_with fail
   refine(dp F2 p kn D2 _ (x+1) w3 M3.o.view (by have:=M3.o.inv.len;omega)).mono ?_
   intro e w4 he
   rcases M3.o.step (ae.refl _) HK.o (aQ n NY.o.2.2.2 NY.o.2.2.1 GX.o) he with⟨a',hE,rfl,hd',ht',_⟩|⟨x4,D4,F4,hE,rfl,M4,hq4,_,_⟩
   ·exact⟨rfl,NEED.o a' w4 (R2'.o.symm.trans hE) hd' ht'⟩
   have FIN:=hQQ (DONE.o () w4 D4 F4 (R2'.o.symm.trans hE) M4)
   clear he hE M4
   go_wp2_with fail
   go_end0
   exact FIN.o
def fy {α:Type}(w:World)(F:Nat→Prop)(p:Nat)(kn:Int→Option Int)(Post:α→Value→World→(Nat→Prop)→Prop)(R:Res α)(e:Ending)(w':World):Prop :=
 match R with
 | .need a=>vz w F p a e w'
 | .ok x D=>∃v F',e=.returned v∧Post x v w' F'∧aE w' F' p kn D∧Turned F w w'∧∀k,F' k→F k∨w.heap.size≤k
def gv (b:Nat)(F:Nat→Prop)(w:World)(v:Value)(xs:List Int):Prop:=Rw b w v xs∧(∀k,v.ownBlock=some k→¬F k∧b≤k∧k<w.heap.size)
theorem gv.nil (b:Nat)(F:Nat→Prop)(w:World):gv b F w (.slice none 0 0) []:=⟨Rw.nil _ _,fun k q=>by cases q⟩
theorem Rw.own {b:Nat}{w:World}{v:Value}{xs:List Int}(h:Rw b w v xs){k:Nat}(q:v.ownBlock=some k):b≤k∧k<w.heap.size:=by
 rcases h.2 with⟨rfl,_⟩|⟨g,cap,cur,rfl,hb,hg,_⟩
 ·cases q
 ·have:g=k:=by simpa [Value.ownBlock] using q
  subst this
  exact⟨hb,ac hg⟩
theorem Rw.keepT {b:Nat}{S:Nat→Prop}{w w':World}{v:Value}{xs:List Int}(h:Rw b w v xs)(t:Turned S w w')(hs:∀k,v.ownBlock=some k→¬S k):Rw b w' v xs:=by
 refine⟨h.1,?_⟩
 rcases h.2 with q|⟨g,cap,cur,rfl,hb,hg,r⟩
 ·exact .inl q
 ·exact .inr ⟨g,cap,cur,rfl,hb,(t.block g (ac hg) (hs g rfl)).trans hg,r⟩
theorem gv.more {b:Nat}{F:Nat→Prop}{w w':World}{v:Value}{xs:List Int}(h:gv b F w v xs)(m:ae w w'):gv b F w' v xs :=
 ⟨h.1.more m,fun k q=>⟨(h.2 k q).1,(h.2 k q).2.1,Nat.lt_of_lt_of_le (h.2 k q).2.2 m.size⟩⟩
theorem gv.went {b:Nat}{F F':Nat→Prop}{w w':World}{v:Value}{xs:List Int}(h:gv b F w v xs)(hk:∀k o,¬F k→w.heap[k]?=some o→w'.heap[k]?=some o)(hf:∀k,F' k→F k∨w.heap.size≤k):gv b F' w' v xs:=by
 obtain⟨r,n⟩:=h
 have key:∀k,v.ownBlock=some k→¬F' k:=fun k q z=>by
  rcases hf k z with y|y
  ·exact(n k q).1 y
  ·have:=(n k q).2.2;omega
 rcases r with⟨h1,q|⟨g,cap,cur,rfl,hb,hg,rest⟩⟩
 ·exact⟨⟨h1,.inl q⟩,fun k q'=>by rw[q.1] at q';cases q'⟩
 ·have hg':=hk g _ (n g rfl).1 hg
  exact⟨⟨h1,.inr ⟨g,cap,cur,rfl,hb,hg',rest⟩⟩,fun k q=>by
   have:g=k:=by simpa [Value.ownBlock] using q
   subst this
   exact⟨key g rfl,hb,ac hg'⟩⟩
theorem gv.mono {b b':Nat}{F:Nat→Prop}{w:World}{v:Value}{xs:List Int}(h:gv b F w v xs)(hb:b'≤b):gv b' F w v xs:=⟨h.1.mono hb,fun k q=>⟨(h.2 k q).1,by have:=(h.2 k q).2.1;omega,(h.2 k q).2.2⟩⟩
namespace MidV
variable {W wr w1 w2:World}{F S F':Nat→Prop}{p n:Nat}{kn:Int→Option Int}{D:List KV}
theorem stepR {α:Type}{Post:α→Value→World→(Nat→Prop)→Prop}{Q:α→Prop}{pr:Prg α}{e:Ending}(h:MidV W wr F S p kn n D F')(m:ae wr w1)(hk:OkK kn)(G:bK n Q pr)(he:fy w1 F' p kn Post (pr kn D) e w2):
 (∃a,pr kn D=.need a∧e=.panicked (aR p)∧aN w2 p a∧Turned (fun b=>F b∨S b) W w2∧∀b o,¬F' b→wr.heap[b]?=some o→w2.heap[b]?=some o) ∨
 (∃x D1 F1 v,pr kn D=.ok x D1∧e=.returned v∧Post x v w2 F1∧MidV W w2 F S p kn n D1 F1∧Q x∧(∀b o,¬F' b→wr.heap[b]?=some o→w2.heap[b]?=some o)∧∀b,F1 b→F' b∨wr.heap.size≤b):=by
 have hm:=h.more m
 have hs:=m.size
 have hK:∀t,Turned F' w1 t→∀b o,¬F' b→wr.heap[b]?=some o→t.heap[b]?=some o:=fun t ht b o nb hb=>(ht.block b (ac (m.block hb)) nb).trans (m.block hb)
 cases hE:pr kn D with
 |need a =>
  rw[hE] at he
  obtain⟨h1,h2,h3⟩:=he
  exact .inl ⟨a,rfl,h1,h2,am hm.turn h3 (fun k q=>(h.from' k q).imp .inl id),hK _ h3⟩
 |ok x D1 =>
  rw[hE] at he
  obtain⟨v,F1,h1,hp,hv,ht,hn⟩:=he
  obtain⟨i1,q1⟩:=G.ok hk h.inv hE
  refine .inr ⟨x,D1,F1,v,rfl,h1,hp,⟨hv,fun k q=>?_,am hm.turn ht (fun k q=>(h.from' k q).imp .inl id),i1⟩,q1,hK _ ht,fun b q=>(hn b q).imp id (fun r=>by omega)⟩
  rcases hn k q with r|r
  ·exact h.from' k r
  ·have:=hm.size;exact .inr (by omega)
theorem grew {v v':Value}{b:Nat}{xs ys:List Int}(h:MidV W wr F S p kn n D F')(hr:gv b F' wr v xs)(hb:W.heap.size≤b)(t:Turned (fun k=>v.ownBlock=some k) wr w1)(hr':Rw b w1 v' ys)(hv':∀k,v'.ownBlock=some k→v.ownBlock=some k∨k=wr.heap.size):MidV W w1 F S p kn n D F'∧gv b F' w1 v' ys:=by
 have lt:=h.view.lt
 have hnc:∀(k:Nat) es cl,v.ownBlock=some k→wr.heap[k]? ≠some (.map es cl):=fun k es cl q z=>by
  rcases hr.1.2 with⟨q',_⟩|⟨g,cap,cur,q',_,hg,_⟩
  ·rw[q'] at q;cases q
  ·rw[q'] at q
   have:g=k:=by simpa [Value.ownBlock] using q
   subst this
   rw[hg] at z;cases z
 refine⟨⟨h.view.keepS t (fun k q e=>(hr.2 k e).1 q) (fun k es cl e q=>hnc k es cl e q),h.from',am h.turn t (fun k q=> .inr (by have:=(hr.2 k q).2.1;omega)),h.inv⟩,hr',fun k q=>?_⟩
 have hl:=hr'.own q
 refine⟨fun z=>?_,hl.1,hl.2⟩
 rcases hv' k q with r|r
 ·exact(hr.2 k r).1 z
 ·have:=lt k z;omega
end MidV
theorem ko {α:Type}{w w1 w2:World}{F S:Nat→Prop}{p:Nat}{kn:Int→Option Int}{Post:α→Value→World→(Nat→Prop)→Prop}{R:Res α}{a:Int}(m:ae w w1)(hS:∀b,S b→w.heap.size≤b)(hR:R=.need a)(hd:aN w2 p a)(ht:Turned (fun b=>F b∨S b) w1 w2):fy w F p kn Post R (.panicked (aR p)) w2:=by
 subst hR
 exact⟨rfl,hd,am (Turned.mono m (fun _ _ q=>q.elim)) ht (fun k q=>q.imp id (hS k))⟩
theorem kq {α:Type}{w w1 w2:World}{F S F':Nat→Prop}{p n:Nat}{kn:Int→Option Int}{Post:α→Value→World→(Nat→Prop)→Prop}{R:Res α}{x:α}{D:List KV}{v:Value}(m:ae w w1)(hS:∀b,S b→w.heap.size≤b)(h:MidV w1 w2 F S p kn n D F')(hR:R=.ok x D)(hp:Post x v w2 F'):fy w F p kn Post R (.returned v) w2:=by
 subst hR
 exact⟨v,F',rfl,hp,h.view,am (Turned.mono m (fun _ _ q=>q.elim)) h.turn (fun k q=>q.imp id (hS k)),fun k q=>(h.from' k q).imp id (fun r=>Nat.le_trans m.size r)⟩
end Go.Proofs.YtddmeghbmdfgeaaGreatDoor
