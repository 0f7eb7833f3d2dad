/-
  Contracts of package layout's functions of two steps, over any layout whose parts' beginnings rise.
-/
import Derived.Test.YtddmeghbmdfgeaaGreatDoorFlAa
import Derived.StillTail
import Derived.Orders
import Derived.Laws.ResultCell
set_option maxRecDepth 100000
set_option maxHeartbeats 8000000
set_option linter.unusedVariables false
set_option linter.unusedSimpArgs false
set_option linter.unusedSectionVars false
namespace Go.Proofs.YtddmeghbmdfgeaaGreatDoor
open Go.RowKit
variable (wk cp pg st tr wt ck pr ca bi ba:Int)(S:Nat→Int)(w:World)
def pN (S:Nat→Int)(c f:Int):Int:=if 0≤c∧c≤4∧1≤f∧f≤fR c then dM (S 7) (S 8) (fm c+f-1) else 0
def mL (cp ca:Int)(S:Nat→Int)(u c:Int):Int:=if 0≤u∧u<cp∧0≤c∧c≤4 then dM (S 8) (S 9) ((u * 5+c) * (ca+1)) else 0
def xP (bi:Int)(S:Nat→Int)(c:Int):Int:=if 0≤c∧c≤4 then dM (S 9) (S 10) (c * (bi+1)) else 0
def rU (pg:Int)(S:Nat→Int)(p:Int):Int:=if 0≤p∧p<pg then dM (S 11) (S 12) (p * 32) else 0
theorem jY {n lo hi:Int}(h0:lo≤n)(h1:n≤hi):btw n lo hi=true:=by simp[btw,h0,h1]
theorem iU {n lo hi:Int}(h:¬(lo≤n∧n≤hi)):btw n lo hi=false:=by
 cases q:btw n lo hi with
 |false=>rfl
 |true=>simp[btw] at q;exact absurd q h
theorem Jb:Calls Tryz.prog 20 #[.agg (aM wk cp pg st tr wt ck pr ca bi ba S)] w (aU w (.agg #[.int .i64 wk,.int .i64 cp,.int .i64 pg,.int .i64 st,.int .i64 tr,.int .i64 wt,.int .i64 ck,.int .i64 pr,.int .i64 ca,.int .i64 bi,.int .i64 ba])):=by
 have HC0:=hQQ (a7 w (aM wk cp pg st tr wt ck pr ca bi ba S) 28)
 have HC:Hq (((w.alloc (.cells (aM wk cp pg st tr wt ck pr ca bi ba S) 28)).alloc (.cells #[.int .i64 0,.int .i64 0,.int .i64 0,.int .i64 0,.int .i64 0,.int .i64 0,.int .i64 0,.int .i64 0,.int .i64 0,.int .i64 0,.int .i64 0] 23)).heap[w.heap.size]?=some (.cells (aM wk cp pg st tr wt ck pr ca bi ba S) 28 (0,0))):=((ae.refl _).alloc _).block HC0.o
 have x0:=bo HC.o (ae.refl _) (show(aM wk cp pg st tr wt ck pr ca bi ba S)[0]?=some (.int .i64 wk) from rfl)
 have x1:=bo HC.o (ae.refl _) (show(aM wk cp pg st tr wt ck pr ca bi ba S)[1]?=some (.int .i64 cp) from rfl)
 have x2:=bo HC.o (ae.refl _) (show(aM wk cp pg st tr wt ck pr ca bi ba S)[2]?=some (.int .i64 pg) from rfl)
 have x3:=bo HC.o (ae.refl _) (show(aM wk cp pg st tr wt ck pr ca bi ba S)[3]?=some (.int .i64 st) from rfl)
 have x4:=bo HC.o (ae.refl _) (show(aM wk cp pg st tr wt ck pr ca bi ba S)[4]?=some (.int .i64 tr) from rfl)
 have x5:=bo HC.o (ae.refl _) (show(aM wk cp pg st tr wt ck pr ca bi ba S)[5]?=some (.int .i64 wt) from rfl)
 have x6:=bo HC.o (ae.refl _) (show(aM wk cp pg st tr wt ck pr ca bi ba S)[6]?=some (.int .i64 ck) from rfl)
 have x7:=bo HC.o (ae.refl _) (show(aM wk cp pg st tr wt ck pr ca bi ba S)[7]?=some (.int .i64 pr) from rfl)
 have x8:=bo HC.o (ae.refl _) (show(aM wk cp pg st tr wt ck pr ca bi ba S)[8]?=some (.int .i64 ca) from rfl)
 have x9:=bo HC.o (ae.refl _) (show(aM wk cp pg st tr wt ck pr ca bi ba S)[9]?=some (.int .i64 bi) from rfl)
 have x10:=bo HC.o (ae.refl _) (show(aM wk cp pg st tr wt ck pr ca bi ba S)[10]?=some (.int .i64 ba) from rfl)
 go_enter Tryz.func20,Tryz.ntmps20
 go_wp2_with fail
 refine bodyPost_ret (v:=.agg #[.int .i64 wk,.int .i64 cp,.int .i64 pg,.int .i64 st,.int .i64 tr,.int .i64 wt,.int .i64 ck,.int .i64 pr,.int .i64 ca,.int .i64 bi,.int .i64 ba]) (by simp[results,Tryz.results20,go_sem]) rfl ⟨rfl,?_⟩
 exact((ae.refl _).alloc _).alloc _
theorem Nf (c f:Int)(R:gN cp pg st ca bi S):
 Calls Tryz.prog 93 #[.agg (aM wk cp pg st tr wt ck pr ca bi ba S),.int .i64 c,.int .i64 f] w (aU w (.int .i64 (pN S c f))):=by
 obtain⟨r0,r1,r2,r3,r4,r5,r6,r7,r8,r9,r10,r11,r12,r13⟩:=R.all
 have HC:=hQQ (a7 w (aM wk cp pg st tr wt ck pr ca bi ba S) 28)
 have HM:Hq (ae w (w.alloc (.cells (aM wk cp pg st tr wt ck pr ca bi ba S) 28))):=(ae.refl w).alloc _
 by_cases hc:0≤c∧c≤4
 ·obtain⟨k,rfl⟩:∃k:Nat,c=k:=⟨c.toNat,by omega⟩
  have hk:k≤4:=by omega
  have b1:=jY hc.1 hc.2
  by_cases hf:1≤f∧f≤fR k
  ·have b2:=jY hf.1 hf.2
   have b3:=xN k (by omega) (by omega)
   have b4:=I9 k (by omega) (by omega)
   rw[show pN S k f=dM (S 7) (S 8) (fm k+f-1) from if_pos (by omega)]
   have q0:IntKind.i64.wrap (fm k+f)=fm k+f:=aB (by omega) (by omega)
   have q1:IntKind.i64.wrap (fm k+f-1)=fm k+f-1:=aB (by omega) (by omega)
   have HW:=hQQ (fun W=>nG wk cp pg st tr wt ck pr ca bi ba S W 7 (fm k+f-1) (by omega) R)
   have HA:=hQQ (fun W=>qC k (by omega) W)
   rw[DA k hk] at HA
   go_enter Tryz.func93,Tryz.ntmps93
   go_wp2_with fail
   refine(nV _ _).mono ?_
   rintro e w1 ⟨rfl,rfl⟩
   rw[b1]
   go_wp2_with fail
   refine(wh k hk _).mono ?_
   rintro e w2 ⟨rfl,rfl⟩
   go_wp2_with fail
   refine(iM _ _ _ _).mono ?_
   rintro e w3 ⟨rfl,rfl⟩
   rw[b2]
   go_wp2_with fail
   generalize w.alloc (.cells (aM wk cp pg st tr wt ck pr ca bi ba S) 28)=W0 at *
   have hne:∃W,ae W0 W:=⟨W0,ae.refl _⟩
   refine bU (by kernel_rfl) (by kernel_rfl) ?_
   iterate 8
    first
    |(refine aP rfl 28 _ rfl _ rfl 28 _ _ _ (fun W hW=>hW.block HC.o) Tryz.underlying28 rfl (by kernel_rfl) ?_)
    |(with_reducible refine wpQuiet_step (fun K hK=>?_)
      go_simp
      first
      |(refine hK _ ?_;clear hK K)
      |(apply Exists.intro
        refine⟨fun W hW=>?_,hK _ ?_⟩
        first
      |(go_at_call 101;exact(HA.o W).mono (fun _ _ ⟨he,hw⟩=>⟨he,hw▸hW⟩))
      |(go_at_call 63;exact Calls.more hW (HW.o W))
        |(skip; (try go_simp);try rfl)
        clear hK K))
   refine wpQuiet_nil ?_
   intro W hW
   have HX:=hQQ hW
   clear hW
   go_wp2_with fail
   go_ret
   exact⟨rfl,HM.o.trans HX.o⟩
  ·have b2:=iU hf
   rw[show pN S k f=0 from if_neg (by omega)]
   go_enter Tryz.func93,Tryz.ntmps93
   go_wp2_with fail
   refine(nV _ _).mono ?_
   rintro e w1 ⟨rfl,rfl⟩
   rw[b1]
   go_wp2_with fail
   refine(wh k hk _).mono ?_
   rintro e w2 ⟨rfl,rfl⟩
   go_wp2_with fail
   refine(iM _ _ _ _).mono ?_
   rintro e w3 ⟨rfl,rfl⟩
   rw[b2]
   go_wp2_with fail
   go_ret
   exact⟨rfl,HM.o⟩
 ·have b1:=iU hc
  rw[show pN S c f=0 from if_neg (by omega)]
  go_enter Tryz.func93,Tryz.ntmps93
  go_wp2_with fail
  refine(nV _ _).mono ?_
  rintro e w1 ⟨rfl,rfl⟩
  rw[b1]
  go_wp2_with fail
  go_ret
  exact⟨rfl,HM.o⟩
theorem Ld (u c:Int)(R:gN cp pg st ca bi S):
 Calls Tryz.prog 28 #[.agg (aM wk cp pg st tr wt ck pr ca bi ba S),.int .i64 u,.int .i64 c] w (aU w (.int .i64 (mL cp ca S u c))):=by
 obtain⟨r0,r1,r2,r3,r4,r5,r6,r7,r8,r9,r10,r11,r12,r13⟩:=R.all
 have HC:=hQQ (a7 w (aM wk cp pg st tr wt ck pr ca bi ba S) 28)
 have HM:Hq (ae w (w.alloc (.cells (aM wk cp pg st tr wt ck pr ca bi ba S) 28))):=(ae.refl w).alloc _
 have g1:=R.cp0
 have g2:=R.cp1
 have g3:=R.ca0
 have g4:=R.ca1
 have x1:=bo HC.o (ae.refl _) (show(aM wk cp pg st tr wt ck pr ca bi ba S)[1]?=some (.int .i64 cp) from rfl)
 have x8:=bo HC.o (ae.refl _) (show(aM wk cp pg st tr wt ck pr ca bi ba S)[8]?=some (.int .i64 ca) from rfl)
 have q0:IntKind.i64.wrap (cp-1)=cp-1:=aB (by omega) (by omega)
 by_cases hu:0≤u∧u≤cp-1
 ·have b1:=jY hu.1 hu.2
  by_cases hc:0≤c∧c≤4
  ·have b2:=jY hc.1 hc.2
   rw[show mL cp ca S u c=dM (S 8) (S 9) ((u * 5+c) * (ca+1)) from if_pos (by omega)]
   have g5:=La (a:=u * 5+c) (b:=ca+1) (A:=39) (B:=9) (by omega) (by omega) (by omega) (by omega)
   have q1:IntKind.i64.wrap (u * 5)=u * 5:=aB (by omega) (by omega)
   have q2:IntKind.i64.wrap (u * 5+c)=u * 5+c:=aB (by omega) (by omega)
   have q3:IntKind.i64.wrap (ca+1)=ca+1:=aB (by omega) (by omega)
   have q4:IntKind.i64.wrap ((u * 5+c) * (ca+1))=(u * 5+c) * (ca+1):=aB (by omega) (by omega)
   have HW:=hQQ (fun W=>nG wk cp pg st tr wt ck pr ca bi ba S W 8 ((u * 5+c) * (ca+1)) (by omega) R)
   go_enter Tryz.func28,Tryz.ntmps28
   go_wp2_with fail
   refine(iM _ _ _ _).mono ?_
   rintro e w1 ⟨rfl,rfl⟩
   rw[b1]
   go_wp2_with fail
   refine(nV _ _).mono ?_
   rintro e w2 ⟨rfl,rfl⟩
   rw[b2]
   go_wp2_with (first|refine wpList_load_row rfl 28 _ rfl _ rfl 28 _ _ _ HC.o Tryz.underlying28 rfl (by kernel_rfl) ?_|refine af rfl 28 _ rfl _ rfl 28 _ _ _ HC.o Tryz.underlying28 rfl (by kernel_rfl) ?_)
   refine(HW.o _).mono ?_
   rintro e w3 ⟨rfl,h3⟩
   go_wp2_with fail
   go_ret
   exact⟨rfl,HM.o.trans h3⟩
  ·have b2:=iU hc
   rw[show mL cp ca S u c=0 from if_neg (by omega)]
   go_enter Tryz.func28,Tryz.ntmps28
   go_wp2_with fail
   refine(iM _ _ _ _).mono ?_
   rintro e w1 ⟨rfl,rfl⟩
   rw[b1]
   go_wp2_with fail
   refine(nV _ _).mono ?_
   rintro e w2 ⟨rfl,rfl⟩
   rw[b2]
   go_wp2_with fail
   go_ret
   exact⟨rfl,HM.o⟩
 ·have b1:=iU hu
  rw[show mL cp ca S u c=0 from if_neg (by omega)]
  go_enter Tryz.func28,Tryz.ntmps28
  go_wp2_with fail
  refine(iM _ _ _ _).mono ?_
  rintro e w1 ⟨rfl,rfl⟩
  rw[b1]
  go_wp2_with fail
  go_ret
  exact⟨rfl,HM.o⟩
theorem N0 (c:Int)(R:gN cp pg st ca bi S):
 Calls Tryz.prog 29 #[.agg (aM wk cp pg st tr wt ck pr ca bi ba S),.int .i64 c] w (aU w (.int .i64 (xP bi S c))):=by
 obtain⟨r0,r1,r2,r3,r4,r5,r6,r7,r8,r9,r10,r11,r12,r13⟩:=R.all
 have HC:=hQQ (a7 w (aM wk cp pg st tr wt ck pr ca bi ba S) 28)
 have HM:Hq (ae w (w.alloc (.cells (aM wk cp pg st tr wt ck pr ca bi ba S) 28))):=(ae.refl w).alloc _
 have g3:=R.bi0
 have g4:=R.bi1
 have x9:=bo HC.o (ae.refl _) (show(aM wk cp pg st tr wt ck pr ca bi ba S)[9]?=some (.int .i64 bi) from rfl)
 by_cases hc:0≤c∧c≤4
 ·have b2:=jY hc.1 hc.2
  rw[show xP bi S c=dM (S 9) (S 10) (c * (bi+1)) from if_pos (by omega)]
  have g5:=La (a:=c) (b:=bi+1) (A:=4) (B:=17) (by omega) (by omega) (by omega) (by omega)
  have q3:IntKind.i64.wrap (bi+1)=bi+1:=aB (by omega) (by omega)
  have q4:IntKind.i64.wrap (c * (bi+1))=c * (bi+1):=aB (by omega) (by omega)
  have HW:=hQQ (fun W=>nG wk cp pg st tr wt ck pr ca bi ba S W 9 (c * (bi+1)) (by omega) R)
  go_enter Tryz.func29,Tryz.ntmps29
  go_wp2_with fail
  refine(nV _ _).mono ?_
  rintro e w2 ⟨rfl,rfl⟩
  rw[b2]
  go_wp2_with (first|refine wpList_load_row rfl 28 _ rfl _ rfl 28 _ _ _ HC.o Tryz.underlying28 rfl (by kernel_rfl) ?_|refine af rfl 28 _ rfl _ rfl 28 _ _ _ HC.o Tryz.underlying28 rfl (by kernel_rfl) ?_)
  refine(HW.o _).mono ?_
  rintro e w3 ⟨rfl,h3⟩
  go_wp2_with fail
  go_ret
  exact⟨rfl,HM.o.trans h3⟩
 ·have b2:=iU hc
  rw[show xP bi S c=0 from if_neg (by omega)]
  go_enter Tryz.func29,Tryz.ntmps29
  go_wp2_with fail
  refine(nV _ _).mono ?_
  rintro e w2 ⟨rfl,rfl⟩
  rw[b2]
  go_wp2_with fail
  go_ret
  exact⟨rfl,HM.o⟩
theorem Ng (p:Int)(R:gN cp pg st ca bi S):
 Calls Tryz.prog 143 #[.agg (aM wk cp pg st tr wt ck pr ca bi ba S),.int .i64 p] w (aU w (.int .i64 (rU pg S p))):=by
 obtain⟨r0,r1,r2,r3,r4,r5,r6,r7,r8,r9,r10,r11,r12,r13⟩:=R.all
 have HC:=hQQ (a7 w (aM wk cp pg st tr wt ck pr ca bi ba S) 28)
 have HM:Hq (ae w (w.alloc (.cells (aM wk cp pg st tr wt ck pr ca bi ba S) 28))):=(ae.refl w).alloc _
 have g3:=R.pg0
 have g4:=R.pg1
 have x2:=bo HC.o (ae.refl _) (show(aM wk cp pg st tr wt ck pr ca bi ba S)[2]?=some (.int .i64 pg) from rfl)
 have q0:IntKind.i64.wrap (pg-1)=pg-1:=aB (by omega) (by omega)
 by_cases hc:0≤p∧p≤pg-1
 ·have b2:=jY hc.1 hc.2
  rw[show rU pg S p=dM (S 11) (S 12) (p * 32) from if_pos (by omega)]
  have q4:IntKind.i64.wrap (p * 32)=p * 32:=aB (by omega) (by omega)
  have HW:=hQQ (fun W=>nG wk cp pg st tr wt ck pr ca bi ba S W 11 (p * 32) (by omega) R)
  go_enter Tryz.func143,Tryz.ntmps143
  go_wp2_with fail
  refine(iM _ _ _ _).mono ?_
  rintro e w2 ⟨rfl,rfl⟩
  rw[b2]
  go_wp2_with (first|refine wpList_load_row rfl 28 _ rfl _ rfl 28 _ _ _ HC.o Tryz.underlying28 rfl (by kernel_rfl) ?_|refine af rfl 28 _ rfl _ rfl 28 _ _ _ HC.o Tryz.underlying28 rfl (by kernel_rfl) ?_)
  refine(HW.o _).mono ?_
  rintro e w3 ⟨rfl,h3⟩
  go_wp2_with fail
  go_ret
  exact⟨rfl,HM.o.trans h3⟩
 ·have b2:=iU hc
  rw[show rU pg S p=0 from if_neg (by omega)]
  go_enter Tryz.func143,Tryz.ntmps143
  go_wp2_with fail
  refine(iM _ _ _ _).mono ?_
  rintro e w2 ⟨rfl,rfl⟩
  rw[b2]
  go_wp2_with fail
  go_ret
  exact⟨rfl,HM.o⟩
theorem DB (a:Int)(R:gN cp pg st ca bi S)(c0:S 11≤a)(c1:a<S 12):
 Calls Tryz.prog 79 #[.agg (aM wk cp pg st tr wt ck pr ca bi ba S),.int .i64 a] w (aU w (.tuple #[.int .i64 ((a-S 11) / 32),.int .i64 ((a-S 11) % 32),.bool true])):=by
 obtain⟨r0,r1,r2,r3,r4,r5,r6,r7,r8,r9,r10,r11,r12,r13⟩:=R.all
 have HC:=hQQ (a7 w (aM wk cp pg st tr wt ck pr ca bi ba S) 28)
 have HM:Hq (ae w (w.alloc (.cells (aM wk cp pg st tr wt ck pr ca bi ba S) 28))):=(ae.refl w).alloc _
 have HU:=hQQ (fun W=>FC wk cp pg st tr wt ck pr ca bi ba S W)
 have HWd:=hQQ (fun W=>Ac wk cp pg st tr wt ck pr ca bi ba S W)
 have d0:decide (a<S 11)=false:=by simp;omega
 have d1:decide (S 12≤a)=false:=by simp;omega
 have q1:IntKind.i64.wrap (a-S 11)=a-S 11:=aB (by omega) (by omega)
 have q2:IntKind.i64.wrap ((a-S 11).tdiv 32)=(a-S 11) / 32:=by rw[Int.tdiv_eq_ediv_of_nonneg (by omega)];exact aB (by omega) (by omega)
 have q3:IntKind.i64.wrap ((a-S 11).tmod 32)=(a-S 11) % 32:=by rw[Int.tmod_eq_emod_of_nonneg (by omega)];exact aB (by omega) (by omega)
 have q4:(a-S 11).tmod 32=(a-S 11) % 32:=Int.tmod_eq_emod_of_nonneg (by omega)
 go_enter Tryz.func79,Tryz.ntmps79
 go_wp2_with (first|refine wpList_load_row rfl 28 _ rfl _ rfl 28 _ _ _ HC.o Tryz.underlying28 rfl (by kernel_rfl) ?_|refine af rfl 28 _ rfl _ rfl 28 _ _ _ HC.o Tryz.underlying28 rfl (by kernel_rfl) ?_)
 refine(HU.o _).mono ?_
 rintro e w1 ⟨rfl,h1⟩
 have H1:=hQQ (HM.o.trans h1)
 have HC:=hQQ (h1.block HC.o)
 clear h1
 go_wp2_with (first|refine wpList_load_row rfl 28 _ rfl _ rfl 28 _ _ _ HC.o Tryz.underlying28 rfl (by kernel_rfl) ?_|refine af rfl 28 _ rfl _ rfl 28 _ _ _ HC.o Tryz.underlying28 rfl (by kernel_rfl) ?_)
 refine(HWd.o _).mono ?_
 rintro e w2 ⟨rfl,h2⟩
 have H2:=hQQ (H1.o.trans h2)
 have HC:=hQQ (h2.block HC.o)
 clear h2
 go_wp2_with (first|refine wpList_load_row rfl 28 _ rfl _ rfl 28 _ _ _ HC.o Tryz.underlying28 rfl (by kernel_rfl) ?_|refine af rfl 28 _ rfl _ rfl 28 _ _ _ HC.o Tryz.underlying28 rfl (by kernel_rfl) ?_)
 refine(HU.o _).mono ?_
 rintro e w3 ⟨rfl,h3⟩
 go_wp2_with fail
 go_ret3
 exact⟨rfl,H2.o.trans h3⟩
theorem Ad (a:Int)(R:gN cp pg st ca bi S)(c:a<S 11∨S 12≤a):
 Calls Tryz.prog 79 #[.agg (aM wk cp pg st tr wt ck pr ca bi ba S),.int .i64 a] w (aU w (.tuple #[.int .i64 0,.int .i64 0,.bool false])):=by
 obtain⟨r0,r1,r2,r3,r4,r5,r6,r7,r8,r9,r10,r11,r12,r13⟩:=R.all
 have HC:=hQQ (a7 w (aM wk cp pg st tr wt ck pr ca bi ba S) 28)
 have HM:Hq (ae w (w.alloc (.cells (aM wk cp pg st tr wt ck pr ca bi ba S) 28))):=(ae.refl w).alloc _
 have HU:=hQQ (fun W=>FC wk cp pg st tr wt ck pr ca bi ba S W)
 have HWd:=hQQ (fun W=>Ac wk cp pg st tr wt ck pr ca bi ba S W)
 by_cases c0:a<S 11
 ·have d0:decide (a<S 11)=true:=by simp;omega
  go_enter Tryz.func79,Tryz.ntmps79
  go_wp2_with (first|refine wpList_load_row rfl 28 _ rfl _ rfl 28 _ _ _ HC.o Tryz.underlying28 rfl (by kernel_rfl) ?_|refine af rfl 28 _ rfl _ rfl 28 _ _ _ HC.o Tryz.underlying28 rfl (by kernel_rfl) ?_)
  refine(HU.o _).mono ?_
  rintro e w1 ⟨rfl,h1⟩
  go_wp2_with fail
  go_ret3
  exact⟨rfl,HM.o.trans h1⟩
 ·have d0:decide (a<S 11)=false:=by simp;omega
  have d1:decide (S 12≤a)=true:=by simp;omega
  go_enter Tryz.func79,Tryz.ntmps79
  go_wp2_with (first|refine wpList_load_row rfl 28 _ rfl _ rfl 28 _ _ _ HC.o Tryz.underlying28 rfl (by kernel_rfl) ?_|refine af rfl 28 _ rfl _ rfl 28 _ _ _ HC.o Tryz.underlying28 rfl (by kernel_rfl) ?_)
  refine(HU.o _).mono ?_
  rintro e w1 ⟨rfl,h1⟩
  have H1:=hQQ (HM.o.trans h1)
  have HC:=hQQ (h1.block HC.o)
  clear h1
  go_wp2_with (first|refine wpList_load_row rfl 28 _ rfl _ rfl 28 _ _ _ HC.o Tryz.underlying28 rfl (by kernel_rfl) ?_|refine af rfl 28 _ rfl _ rfl 28 _ _ _ HC.o Tryz.underlying28 rfl (by kernel_rfl) ?_)
  refine(HWd.o _).mono ?_
  rintro e w2 ⟨rfl,h2⟩
  go_wp2_with fail
  go_ret3
  exact⟨rfl,H1.o.trans h2⟩
section
variable {P:Program}{ops:Array Oper}{md:Region.Mode}{C:World→Prop}
def DC (P:Program)(md:Region.Mode)(ops:Array Oper)(C:World→Prop)(n:Nat)(L:Array Bool→Act→Prop):Nat→Array Bool→Act→Prop
 | 0,d,a=>L d a
 |f+1,d,a=>Region.ready md ops d≠ []∧∀i∈Region.ready md ops d,i<n∧qOp P ops C i (DC P md ops C n L f (d.setIfInBounds i true)) a
theorem xQ {n g:Nat}{L:Array Bool→Act→Prop}{Q:Exit→Act→World→Prop}(hL:∀d a w,C w→L d a→wpAny P md ops Q g d a w)(f:Nat):
 ∀(d:Array Bool) (a:Act) (w:World),C w→DC P md ops C n L f d a→wpAny P md ops Q (f+g) d a w:=by
 induction f with
 |zero=>intro d a w hw h;rw[Nat.zero_add];exact hL _ _ _ hw h
 |succ f ih =>
  intro d a w hw h
  rw[Nat.add_right_comm]
  exact⟨fun q=>absurd q h.1,fun i hi=>wpOp_of_qOp hw (fun a' w' hw' k=>ih _ a' w' hw' k) (h.2 i hi).2⟩
theorem rV {n i:Nat}{o:Oper}{v:Value}{L:Array Bool→Act→Prop}(hi:ops[i]?=some o)(hsel:∀(j:Nat)(o:Oper) cs b,ops[j]?=some o→o.op≠ .select cs b)
 (hwait:∀d,HeadInv md ops n d→d.getD i true=false→∀t,n≤t→t∉Region.ready md ops d) (hin:i<n)
 (hend:∀d a,L d a→∀j∈Region.ready md ops d,n≤j) (f:Nat):
 ∀(d:Array Bool) (a:Act),HeadInv md ops n d →
  (∀j p,ops[j]?=some p→j≠i→d.getD j true=false→(∀e∈p.after,Region.binds md e=true→e.on≠i)→o.apart ops p=true) →
  i∈Region.ready md ops d→YieldsIn P ops C o v a →
  DC P md ops C n L f (d.setIfInBounds i true) (a.put o.dst v)→DC P md ops C n L (f+1) d a:=by
 induction f with
 |zero =>
  intro d a inv _ hr hy H
  refine⟨fun q=>(by rw[q] at hr;cases hr),fun j hj=>?_⟩
  have hlt:j<n:=Nat.lt_of_not_le fun q=>hwait d inv (mem_ready.1 hr).1 j q hj
  refine⟨hlt,?_⟩
  by_cases e:j=i
  ·subst e;exact hy.qOp hi H
  ·exact absurd (hend _ _ H j (ready_mono hj e)) (by omega)
 |succ f ih =>
  intro d a inv hfree hr hy H
  have hun:=(mem_ready.1 hr).1
  refine⟨fun q=>(by rw[q] at hr;cases hr),fun j hj=>?_⟩
  have hlt:j<n:=Nat.lt_of_not_le fun q=>hwait d inv hun j q hj
  refine⟨hlt,?_⟩
  by_cases e:j=i
  ·subst e;exact hy.qOp hi H
  ·obtain⟨hjun,p,hp,hall⟩:=mem_ready.1 hj
   have hno:∀e∈p.after,Region.binds md e=true→e.on≠i:=fun e he hb q=>by
    have:=hall e he hb
    rw[q,getD_both hun] at this
    cases this
   have k:=qOp_put hp (hfree j p hp e hjun hno) (fun cs b=>hsel i o cs b hi) (fun cs b=>hsel j p cs b hp) hy (H.2 j (ready_mono hj e)).2
   refine qOp_mono (fun a' z=>ih (d.setIfInBounds j true) a' (inv.set hj hlt) (fun x q hx hxi hun' hno'=>hfree x q hx hxi ?_ hno') (ready_mono hr (Ne.symm e)) z.1 ?_) k
   ·by_cases y:j=x
    ·subst y;exact hjun
    ·rw[getD_set_ne true y] at hun';exact hun'
   ·rw[Array.setIfInBounds_comm _ _ e];exact z.2
theorem FD {n g k0:Nat}{Z:Act→Prop}(hsel:Region.noSelect ops=true)(hwait:∀i,k0≤i→i<n→∀d,HeadInv md ops n d→d.getD i true=false→∀t,n≤t→t∉Region.ready md ops d)(l:List Oper):
 ∀(k:Nat) (d:Array Bool) (a:Act),k0≤k→(∀j,j<l.length→l[j]?=ops[k+j]?)→k+l.length=n→HeadInv md ops n d →
 Region.lexHead md ops g l.length k d=true→wpQuiet P ops C Z l a →
 DC P md ops C n (fun d' a'=>Region.seqB md ops g n d'=true∧Z a') l.length d a:=by
 induction l with
 |nil =>
  intro k d a _ _ hk _ hB h
  have:k=n:=by simpa using hk
  subst this
  exact⟨by simpa [Region.lexHead] using hB,h⟩
 |cons o l ih =>
  intro k d a hk0 hl hk inv hB h
  have h0:ops[k]?=some o:=by simpa using (hl 0 (by simp)).symm
  simp only[List.length_cons,Region.lexHead,Bool.and_eq_true] at hB hk
  have hr:k∈Region.ready md ops d:=by simpa using hB.1.1
  have hst:qOp P ops C k (wpQuiet P ops C Z l) a:=by unfold qOp;simp only[h0];exact h
  obtain⟨v,hy,hK⟩:=yieldsIn_of_qOp h0 hst
  exact rV h0 (Region.noSelect_spec hsel) (hwait k hk0 (by omega)) (by omega) (fun _ _ z=>seqB_ready z.1) l.length d a inv (Region.free_spec h0 hB.1.2) hr hy
   (ih (k+1) _ _ (by omega) (fun j hj=>by have:=hl (j+1) (by simp;omega);simpa [Nat.add_assoc,Nat.add_comm 1 j] using this) (by omega) (inv.set hr (by omega)) hB.2 hK)
end
theorem lC {P:Program}{C:World→Prop}{id:Nat}{Q:Exit→Act→World→Prop}{a:Act}{w:World}{l:List Oper}(n:Nat)(hm:P.follows .mixedOrders=true)(hB:Region.lexTailB .any l.toArray n=true)
 (hC:C { w with drawn:=w.drawn+1 }) (h:wpQuiet P l.toArray C (fun a'=>∀w',C w'→wpList P l.toArray Q (l.drop n) a' w') (l.take n) a):(Code.region id l.toArray true).wp P Q a w:=by
 simp only[Region.lexTailB,Bool.and_eq_true,decide_eq_true_eq] at hB
 obtain⟨⟨⟨⟨hsel,hn⟩,hs⟩,hc⟩,hlex⟩:=hB
 have hn':n<l.length:=by simpa using hn
 have ht:(l.take n).length=n:=by simp;omega
 have hd:(l.drop n).length=l.toArray.size-n:=by simp
 have inv:HeadInv .any l.toArray n (Array.replicate l.toArray.size false):=
  ⟨by simp,fun j p _ q=>(by rw[getD_replicate_false] at q;cases q),fun t _ q=>getD_in (by simpa using q) (getD_replicate_false _ _)⟩
 have H:=FD (md:=.any) (g:=l.toArray.size-n) (k0:=0) hsel (fun i _ hi d inv hun t ht=>tail_waits hs hc hn inv _ i rfl hi hun t ht) (l.take n) 0 _ a (by omega) (fun j hj=>by
  have:j<n:=by rw[ht] at hj;exact hj
  simp[this]) (by simpa using ht) inv (by rw[ht];exact hlex) h
 have K:=xQ (Q:=Q) (g:=l.toArray.size-n) (fun d a' w' hw z=>by
  have:=wpAny_of_seq (md:=.any) (Q':=Q) (l.drop n) n d a' w' (fun j=>by simp[List.getElem?_drop]) (by rw[hd];exact z.1) (z.2 w' hw)
  rwa [hd] at this) _ _ _ _ hC H
 rw[ht,show n+(l.toArray.size-n)=l.toArray.size by omega] at K
 exact wp_region_any hm K
def xR (md:Region.Mode)(ops:Array Oper)(k n:Nat):Bool :=
 (List.range n).all fun i=>decide (i<k) ||(List.range (n+1)).any fun j=>decide (i<j) && Region.waitsFor md ops j i
theorem bO {P:Program}{id:Nat}{Q:Exit→Act→World→Prop}{a:Act}{w:World}{l:List Oper}(n:Nat)(hm:P.follows .mixedOrders=true)(hB:Region.lexTailB .any l.toArray n=true)
 (h:wpQuiet P l.toArray (ae w) (fun a'=>∀w',ae w w'→wpList P l.toArray Q (l.drop n) a' w') (l.take n) a):(Code.region id l.toArray true).wp P Q a w :=
 lC (C:=ae w) n hm hB ((ae.refl w).drewN 1) h
def mM (cp pg st ca bi:Int):Array Value:= #[.int .i64 st,.int .i64 (aO pg),.int .i64 pg,.int .i64 pg,.int .i64 pg,.int .i64 pg,.int .i64 pg,.int .i64 62,.int .i64 (cp * 5 * (ca+1)),.int .i64 (5 * (bi+1)),.int .i64 (pg * 32),.int .i64 (pg * 32)]
variable (wk cp pg st tr wt ck pr ca bi ba:Int)(w:World)
theorem FF (R:cV wk cp pg st tr wt ck pr ca bi ba):Calls Tryz.prog 70 #[.agg #[.int .i64 wk,.int .i64 cp,.int .i64 pg,.int .i64 st,.int .i64 tr,.int .i64 wt,.int .i64 ck,.int .i64 pr,.int .i64 ca,.int .i64 bi,.int .i64 ba]] w (aU w (.agg (mM cp pg st ca bi))):=by
 have g1:=R.cp1
 have g2:=R.cp2
 have g3:=R.ca1
 have g4:=R.ca2
 have g5:=R.bi1
 have g6:=R.bi2
 have g7:=R.pg1
 have g8:=R.pg2
 have g9:=La (a:=cp * 5) (b:=ca+1) (A:=40) (B:=9) (by omega) (by omega) (by omega) (by omega)
 have q0:IntKind.i64.wrap (cp * 5)=cp * 5:=aB (by omega) (by omega)
 have q1:IntKind.i64.wrap (ca+1)=ca+1:=aB (by omega) (by omega)
 have q2:IntKind.i64.wrap (cp * 5 * (ca+1))=cp * 5 * (ca+1):=aB (by omega) (by omega)
 have q3:IntKind.i64.wrap (bi+1)=bi+1:=aB (by omega) (by omega)
 have q4:IntKind.i64.wrap (5 * (bi+1))=5 * (bi+1):=aB (by omega) (by omega)
 have q5:IntKind.i64.wrap (pg * 32)=pg * 32:=aB (by omega) (by omega)
 have HH:Hq (∀W,Calls Tryz.prog 101 #[.int .i64 5] W fun e w'=>e=.returned (.int .i64 62)∧w'=W):=fun W=>qC 5 (by omega) W
 have HK:=hQQ (fun W=>Ja wk cp pg st tr wt ck pr ca bi ba (by omega) g8 W)
 have HC0:=hQQ (a7 w #[.int .i64 wk,.int .i64 cp,.int .i64 pg,.int .i64 st,.int .i64 tr,.int .i64 wt,.int .i64 ck,.int .i64 pr,.int .i64 ca,.int .i64 bi,.int .i64 ba] 23)
 have HC:Hq (((w.alloc (.cells #[.int .i64 wk,.int .i64 cp,.int .i64 pg,.int .i64 st,.int .i64 tr,.int .i64 wt,.int .i64 ck,.int .i64 pr,.int .i64 ca,.int .i64 bi,.int .i64 ba] 23)).alloc (.cells #[.int .i64 0,.int .i64 0,.int .i64 0,.int .i64 0,.int .i64 0,.int .i64 0,.int .i64 0,.int .i64 0,.int .i64 0,.int .i64 0,.int .i64 0,.int .i64 0] 122)).heap[w.heap.size]?=some (.cells #[.int .i64 wk,.int .i64 cp,.int .i64 pg,.int .i64 st,.int .i64 tr,.int .i64 wt,.int .i64 ck,.int .i64 pr,.int .i64 ca,.int .i64 bi,.int .i64 ba] 23 (0,0))):=((ae.refl _).alloc _).block HC0.o
 have HB:Hq (((w.alloc (.cells #[.int .i64 wk,.int .i64 cp,.int .i64 pg,.int .i64 st,.int .i64 tr,.int .i64 wt,.int .i64 ck,.int .i64 pr,.int .i64 ca,.int .i64 bi,.int .i64 ba] 23)).alloc (.cells #[.int .i64 0,.int .i64 0,.int .i64 0,.int .i64 0,.int .i64 0,.int .i64 0,.int .i64 0,.int .i64 0,.int .i64 0,.int .i64 0,.int .i64 0,.int .i64 0] 122)).heap[w.heap.size+1]?=some (.cells #[.int .i64 0,.int .i64 0,.int .i64 0,.int .i64 0,.int .i64 0,.int .i64 0,.int .i64 0,.int .i64 0,.int .i64 0,.int .i64 0,.int .i64 0,.int .i64 0] 122 (0,0))):=by
  have:=a7 (w.alloc (.cells #[.int .i64 wk,.int .i64 cp,.int .i64 pg,.int .i64 st,.int .i64 tr,.int .i64 wt,.int .i64 ck,.int .i64 pr,.int .i64 ca,.int .i64 bi,.int .i64 ba] 23)) #[.int .i64 0,.int .i64 0,.int .i64 0,.int .i64 0,.int .i64 0,.int .i64 0,.int .i64 0,.int .i64 0,.int .i64 0,.int .i64 0,.int .i64 0,.int .i64 0] 122
  rwa [World.size_alloc] at this
 have HM:Hq (ae w ((w.alloc (.cells #[.int .i64 wk,.int .i64 cp,.int .i64 pg,.int .i64 st,.int .i64 tr,.int .i64 wt,.int .i64 ck,.int .i64 pr,.int .i64 ca,.int .i64 bi,.int .i64 ba] 23)).alloc (.cells #[.int .i64 0,.int .i64 0,.int .i64 0,.int .i64 0,.int .i64 0,.int .i64 0,.int .i64 0,.int .i64 0,.int .i64 0,.int .i64 0,.int .i64 0,.int .i64 0] 122))):=((ae.refl w).alloc _).alloc _
 clear R g9
 go_enter Tryz.func70,Tryz.ntmps70
 go_wp2_with fail
 generalize (w.alloc (.cells #[.int .i64 wk,.int .i64 cp,.int .i64 pg,.int .i64 st,.int .i64 tr,.int .i64 wt,.int .i64 ck,.int .i64 pr,.int .i64 ca,.int .i64 bi,.int .i64 ba] 23)).alloc (.cells #[.int .i64 0,.int .i64 0,.int .i64 0,.int .i64 0,.int .i64 0,.int .i64 0,.int .i64 0,.int .i64 0,.int .i64 0,.int .i64 0,.int .i64 0,.int .i64 0] 122)=W0 at *
 have hne:∃W,ae W0 W:=⟨W0,ae.refl _⟩
 refine bO 33 (by kernel_rfl) (by kernel_rfl) ?_
 simp only[List.take_succ_cons,List.take_zero,List.drop_succ_cons,List.drop_zero]
 iterate 33
  first
  |(refine aP rfl 23 _ rfl _ rfl 23 _ _ _ (fun W hW=>hW.block HC.o) Tryz.underlying23 rfl (by kernel_rfl) ?_)
  |(with_reducible refine wpQuiet_step (fun K hK=>?_)
    go_simp
    first
    |(refine hK _ ?_;clear hK K)
    |(apply Exists.intro
      refine⟨fun W hW=>?_,hK _ ?_⟩
      first
      |(go_at_call 101;exact(HH.o W).mono (fun _ _ ⟨he,hw⟩=>⟨he,hw▸hW⟩))
      |(go_at_call 100;exact Calls.more hW (HK.o W))
      |(have x1:=bo HC.o hW (show(#[.int .i64 wk,.int .i64 cp,.int .i64 pg,.int .i64 st,.int .i64 tr,.int .i64 wt,.int .i64 ck,.int .i64 pr,.int .i64 ca,.int .i64 bi,.int .i64 ba]:Array Value)[1]?=some (.int .i64 cp) from rfl);have x2:=bo HC.o hW (show(#[.int .i64 wk,.int .i64 cp,.int .i64 pg,.int .i64 st,.int .i64 tr,.int .i64 wt,.int .i64 ck,.int .i64 pr,.int .i64 ca,.int .i64 bi,.int .i64 ba]:Array Value)[2]?=some (.int .i64 pg) from rfl);have x3:=bo HC.o hW (show(#[.int .i64 wk,.int .i64 cp,.int .i64 pg,.int .i64 st,.int .i64 tr,.int .i64 wt,.int .i64 ck,.int .i64 pr,.int .i64 ca,.int .i64 bi,.int .i64 ba]:Array Value)[3]?=some (.int .i64 st) from rfl);have x8:=bo HC.o hW (show(#[.int .i64 wk,.int .i64 cp,.int .i64 pg,.int .i64 st,.int .i64 tr,.int .i64 wt,.int .i64 ck,.int .i64 pr,.int .i64 ca,.int .i64 bi,.int .i64 ba]:Array Value)[8]?=some (.int .i64 ca) from rfl);have x9:=bo HC.o hW (show(#[.int .i64 wk,.int .i64 cp,.int .i64 pg,.int .i64 st,.int .i64 tr,.int .i64 wt,.int .i64 ck,.int .i64 pr,.int .i64 ca,.int .i64 bi,.int .i64 ba]:Array Value)[9]?=some (.int .i64 bi) from rfl); (try go_simp);try rfl)
      clear hK K))
 refine wpQuiet_nil ?_
 intro W hW
 have HX:=hQQ hW
 clear hW
 refine wpList_store_row rfl 122 _ _ rfl _ _ rfl rfl 122 _ (HX.o.block HB.o) (by kernel_rfl) rfl (by simp[Value.oneCell']) ?_
 have HR:=hQQ (setRow_heap W _ _ (mM cp pg st ca bi) _ _ (HX.o.block HB.o))
 have HY:Hq (ae w (W.setRow (w.heap.size+1) (mM cp pg st ca bi))):=(HM.o.trans HX.o).setRow _ _ (by omega)
 go_wp2_with fail
 refine bodyPost_ret (v:=.agg (mM cp pg st ca bi)) (results_cell_row Tryz.results70 _ _ _ 122 _ (0,0) _ rfl HR.o Tryz.underlying122 rfl (by kernel_rfl)) rfl ⟨rfl,?_⟩
 exact HY.o
theorem Le :
 Calls Tryz.prog 69 #[.agg #[.int .i64 wk,.int .i64 cp,.int .i64 pg,.int .i64 st,.int .i64 tr,.int .i64 wt,.int .i64 ck,.int .i64 pr,.int .i64 ca,.int .i64 bi,.int .i64 ba]] w (aU w (.int .i64 (if wg wk cp pg st tr wt ck pr ca bi ba=true then 0 else 2))):=by
 go_enter Tryz.func69,Tryz.ntmps69
 go_wp2_with (go_at_call 61;refine(iM _ _ _ _).mono ?_;rintro e w1 ⟨rfl,rfl⟩)
 all_goals go_ret
 all_goals exact⟨by simp_all [wg],(ae.refl _).alloc _⟩
def aJ (cp pg st ca bi:Int):Nat→Int
 | 0=>3
 | 1=>bd st
 | 2=>bd st+aO pg
 | 3=>bd st+aO pg+1 * pg
 | 4=>bd st+aO pg+2 * pg
 | 5=>bd st+aO pg+3 * pg
 | 6=>bd st+aO pg+4 * pg
 | 7=>bz st pg
 | 8=>dt st pg
 | 9=>fH cp pg st ca
 | 10=>eK cp pg st ca bi
 | 11=>fI cp pg st ca bi
 | _=>eR cp pg st ca bi
def lr (cp pg st ca bi:Int)(k:Nat):Int:=if k=11 then eK cp pg st ca bi+pg * 32 else aJ cp pg st ca bi k
def xS (cp pg st ca bi:Int):Nat→Int
 | 0=>st
 | 1=>aO pg
 | 2=>pg
 | 3=>pg
 | 4=>pg
 | 5=>pg
 | 6=>pg
 | 7=>62
 | 8=>cp * 5 * (ca+1)
 | 9=>5 * (bi+1)
 | _=>pg * 32
def wl (S:Nat→Int)(k p:Nat):Int:=if p<k then S p else 0
theorem Ae {k:Nat}(h:k<12):k=0∨k=1∨k=2∨k=3∨k=4∨k=5∨k=6∨k=7∨k=8∨k=9∨k=10∨k=11:=by omega
theorem FG {k:Nat}(h:k≤12):k=0∨k=1∨k=2∨k=3∨k=4∨k=5∨k=6∨k=7∨k=8∨k=9∨k=10∨k=11∨k=12:=by omega
theorem Af {k:Nat}(h:k<12):(mM cp pg st ca bi)[k]?=some (.int .i64 (xS cp pg st ca bi k)):=by
 rcases Ae h with rfl|rfl|rfl|rfl|rfl|rfl|rfl|rfl|rfl|rfl|rfl|rfl<;>rfl
theorem Oa (a b:Int):a * 5 * b=5 * a * b:=by rw[Int.mul_comm a 5]
theorem uv {k:Nat}(h:k<11):aJ cp pg st ca bi k=lr cp pg st ca bi k:=(if_neg (by omega)).symm
theorem DE {k:Nat}(h:k<12):aJ cp pg st ca bi k+xS cp pg st ca bi k=lr cp pg st ca bi (k+1):=by
 rcases Ae h with rfl|rfl|rfl|rfl|rfl|rfl|rfl|rfl|rfl|rfl|rfl|rfl <;>
  simp only[aJ,xS,lr,bd,bz,dt,fH,eK,eR,Oa]<;>(try simp)<;>(try omega)
theorem wn:(lr cp pg st ca bi 11+127) / 128 * 128=aJ cp pg st ca bi 11:=by
 simp only[lr,aJ,fI]
 rw[Int.mul_comm pg 32];rfl
theorem Jc {S:Nat→Int}{k:Nat}(h:k≤12):(aM wk cp pg st tr wt ck pr ca bi ba (wl S k)).setIfInBounds (11+k) (.int .i64 (S k))=aM wk cp pg st tr wt ck pr ca bi ba (wl S (k+1)):=by
 rcases FG h with rfl|rfl|rfl|rfl|rfl|rfl|rfl|rfl|rfl|rfl|rfl|rfl|rfl<;>rfl
theorem FH (S:Nat→Int): #[.int .i64 wk,.int .i64 cp,.int .i64 pg,.int .i64 st,.int .i64 tr,.int .i64 wt,.int .i64 ck,.int .i64 pr,.int .i64 ca,.int .i64 bi,.int .i64 ba,.int .i64 0,.int .i64 0,.int .i64 0,.int .i64 0,.int .i64 0,.int .i64 0,.int .i64 0,.int .i64 0,.int .i64 0,.int .i64 0,.int .i64 0,.int .i64 0,.int .i64 0]=aM wk cp pg st tr wt ck pr ca bi ba (wl S 0):=rfl
section
variable {wk cp pg st tr wt ck pr ca bi ba}
theorem oM (R:cV wk cp pg st tr wt ck pr ca bi ba){k:Nat}(h:k≤12):0≤aJ cp pg st ca bi k∧aJ cp pg st ca bi k≤18432:=by
 have b1:=rS R;have b2:=oK R;have b3:=we R;have b4:=ry R;have b5:=Cs R;have b6:=rT R;have b7:=oL R;have b8:=Ab R
 have b9:=R.pg1;have b10:=R.pg2
 have hh:bz st pg=bd st+aO pg+5 * pg:=rfl
 rcases FG h with rfl|rfl|rfl|rfl|rfl|rfl|rfl|rfl|rfl|rfl|rfl|rfl|rfl<;>simp only[aJ]<;>omega
theorem FJ (R:cV wk cp pg st tr wt ck pr ca bi ba){k:Nat}(h:k≤12):0≤lr cp pg st ca bi k∧lr cp pg st ca bi k≤18432:=by
 unfold lr
 have b6:=rT R;have b9:=R.pg1;have b10:=R.pg2
 split
 ·omega
 ·exact oM R h
theorem cY (R:cV wk cp pg st tr wt ck pr ca bi ba):gN cp pg st ca bi (aJ cp pg st ca bi):= {
 lo:=(oM R (by omega)).1
 up:=by
  intro p hp
  have b1:=rS R;have b2:=oK R;have b3:=we R;have b4:=ry R;have b5:=Cs R;have b6:=rT R;have b7:=oL R;have b8:=Ab R
  have b9:=R.pg1;have b10:=R.pg2
  have b11:=pM R;have b12:=R.bi1
  have hh:bz st pg=bd st+aO pg+5 * pg:=rfl
  have hc:dt st pg=bz st pg+62:=rfl
  have hb:fH cp pg st ca=dt st pg+5 * cp * (ca+1):=rfl
  have hl:eK cp pg st ca bi=fH cp pg st ca+5 * (bi+1):=rfl
  have hw:eR cp pg st ca bi=fI cp pg st ca bi+32 * pg:=rfl
  rcases Ae hp with rfl|rfl|rfl|rfl|rfl|rfl|rfl|rfl|rfl|rfl|rfl|rfl<;>simp only[aJ]<;>omega
 hi:=by have:=(oM R (k:=12) (by omega)).2;omega
 cp0:=by have:=R.cp1;omega
 cp1:=R.cp2
 pg0:=by have:=R.pg1;omega
 pg1:=R.pg2
 st0:=by have:=R.st1;omega
 st1:=R.st2
 ca0:=R.ca1
 ca1:=R.ca2
 bi0:=R.bi1
 bi1:=R.bi2
 empty:=fun q=>by have:=R.st1;omega }
end
variable (wk cp pg st tr wt ck pr ca bi ba:Int)(w:World)
theorem wo {P:Program}{fn:Func}{p u:Tmp}{ty:TypeId}(h:fn.results= #[.cell p ty,.tmp u])(tmps:Array Value)(w:World)(g:Nat)(t:TypeId)(cs:Array Value)(fr:Nat×Nat)(d:TypeDesc)
 (hp:tmps.getD p undef=.pointer (some ⟨g,0,none⟩)) (hg:w.heap[g]?=some (.cells cs t fr))
 (hu:P.underlying ty=some d) (hd:(match d with| .struct _| .array _ _=>true|_=>false)=true) (hi:(P.info? ty).map (·.size)=some cs.size):
 (results fn tmps).run P w=.ok (.tuple #[.agg cs,tmps.getD u undef]) w:=by
 rw[results_cell_tmp h,hp]
 simp[asAddr,run_loadVar_row w g t ty cs fr d hg hu hd hi]
theorem DF (R:cV wk cp pg st tr wt ck pr ca bi ba):wg wk cp pg st tr wt ck pr ca bi ba=true:=by
 obtain⟨h0,h1,h2,h3,h4,h5,h6,h7,h8,h9,h10,h11,h12,h13,h14,h15,h16,h17,h18,h19,h20,h21⟩:=R
 simp[wg,btw, *]
theorem FM (R:cV wk cp pg st tr wt ck pr ca bi ba):Calls Tryz.prog 32 #[.agg #[.int .i64 wk,.int .i64 cp,.int .i64 pg,.int .i64 st,.int .i64 tr,.int .i64 wt,.int .i64 ck,.int .i64 pr,.int .i64 ca,.int .i64 bi,.int .i64 ba]] w (aU w (.tuple #[.agg (aM wk cp pg st tr wt ck pr ca bi ba (aJ cp pg st ca bi)),.int .i64 0])):=by
 have HC0:=hQQ (a7 w #[.int .i64 wk,.int .i64 cp,.int .i64 pg,.int .i64 st,.int .i64 tr,.int .i64 wt,.int .i64 ck,.int .i64 pr,.int .i64 ca,.int .i64 bi,.int .i64 ba] 23)
 have HC:Hq (((w.alloc (.cells #[.int .i64 wk,.int .i64 cp,.int .i64 pg,.int .i64 st,.int .i64 tr,.int .i64 wt,.int .i64 ck,.int .i64 pr,.int .i64 ca,.int .i64 bi,.int .i64 ba] 23)).alloc (.cells #[.int .i64 0,.int .i64 0,.int .i64 0,.int .i64 0,.int .i64 0,.int .i64 0,.int .i64 0,.int .i64 0,.int .i64 0,.int .i64 0,.int .i64 0,.int .i64 0,.int .i64 0,.int .i64 0,.int .i64 0,.int .i64 0,.int .i64 0,.int .i64 0,.int .i64 0,.int .i64 0,.int .i64 0,.int .i64 0,.int .i64 0,.int .i64 0] 28)).heap[w.heap.size]?=some (.cells #[.int .i64 wk,.int .i64 cp,.int .i64 pg,.int .i64 st,.int .i64 tr,.int .i64 wt,.int .i64 ck,.int .i64 pr,.int .i64 ca,.int .i64 bi,.int .i64 ba] 23 (0,0))):=((ae.refl _).alloc _).block HC0.o
 have HB:Hq (((w.alloc (.cells #[.int .i64 wk,.int .i64 cp,.int .i64 pg,.int .i64 st,.int .i64 tr,.int .i64 wt,.int .i64 ck,.int .i64 pr,.int .i64 ca,.int .i64 bi,.int .i64 ba] 23)).alloc (.cells #[.int .i64 0,.int .i64 0,.int .i64 0,.int .i64 0,.int .i64 0,.int .i64 0,.int .i64 0,.int .i64 0,.int .i64 0,.int .i64 0,.int .i64 0,.int .i64 0,.int .i64 0,.int .i64 0,.int .i64 0,.int .i64 0,.int .i64 0,.int .i64 0,.int .i64 0,.int .i64 0,.int .i64 0,.int .i64 0,.int .i64 0,.int .i64 0] 28)).heap[w.heap.size+1]?=some (.cells #[.int .i64 0,.int .i64 0,.int .i64 0,.int .i64 0,.int .i64 0,.int .i64 0,.int .i64 0,.int .i64 0,.int .i64 0,.int .i64 0,.int .i64 0,.int .i64 0,.int .i64 0,.int .i64 0,.int .i64 0,.int .i64 0,.int .i64 0,.int .i64 0,.int .i64 0,.int .i64 0,.int .i64 0,.int .i64 0,.int .i64 0,.int .i64 0] 28 (0,0))):=by
  have:=a7 (w.alloc (.cells #[.int .i64 wk,.int .i64 cp,.int .i64 pg,.int .i64 st,.int .i64 tr,.int .i64 wt,.int .i64 ck,.int .i64 pr,.int .i64 ca,.int .i64 bi,.int .i64 ba] 23)) #[.int .i64 0,.int .i64 0,.int .i64 0,.int .i64 0,.int .i64 0,.int .i64 0,.int .i64 0,.int .i64 0,.int .i64 0,.int .i64 0,.int .i64 0,.int .i64 0,.int .i64 0,.int .i64 0,.int .i64 0,.int .i64 0,.int .i64 0,.int .i64 0,.int .i64 0,.int .i64 0,.int .i64 0,.int .i64 0,.int .i64 0,.int .i64 0] 28
  rwa [World.size_alloc] at this
 have HM:Hq (ae w ((w.alloc (.cells #[.int .i64 wk,.int .i64 cp,.int .i64 pg,.int .i64 st,.int .i64 tr,.int .i64 wt,.int .i64 ck,.int .i64 pr,.int .i64 ca,.int .i64 bi,.int .i64 ba] 23)).alloc (.cells #[.int .i64 0,.int .i64 0,.int .i64 0,.int .i64 0,.int .i64 0,.int .i64 0,.int .i64 0,.int .i64 0,.int .i64 0,.int .i64 0,.int .i64 0,.int .i64 0,.int .i64 0,.int .i64 0,.int .i64 0,.int .i64 0,.int .i64 0,.int .i64 0,.int .i64 0,.int .i64 0,.int .i64 0,.int .i64 0,.int .i64 0,.int .i64 0] 28))):=((ae.refl w).alloc _).alloc _
 have HK:=hQQ (fun W=>Le wk cp pg st tr wt ck pr ca bi ba W)
 rw[if_pos (DF _ _ _ _ _ _ _ _ _ _ _ R)] at HK
 have HL:=hQQ (fun W=>FF wk cp pg st tr wt ck pr ca bi ba W R)
 have HRR:=hQQ R
 have HS:=hQQ (FH wk cp pg st tr wt ck pr ca bi ba (aJ cp pg st ca bi))
 have Hlen:Hq (((w.alloc (.cells #[.int .i64 wk,.int .i64 cp,.int .i64 pg,.int .i64 st,.int .i64 tr,.int .i64 wt,.int .i64 ck,.int .i64 pr,.int .i64 ca,.int .i64 bi,.int .i64 ba] 23)).alloc (.cells #[.int .i64 0,.int .i64 0,.int .i64 0,.int .i64 0,.int .i64 0,.int .i64 0,.int .i64 0,.int .i64 0,.int .i64 0,.int .i64 0,.int .i64 0,.int .i64 0,.int .i64 0,.int .i64 0,.int .i64 0,.int .i64 0,.int .i64 0,.int .i64 0,.int .i64 0,.int .i64 0,.int .i64 0,.int .i64 0,.int .i64 0,.int .i64 0] 28)).heap.size=w.heap.size+1+1):=by rw[World.size_alloc,World.size_alloc];exact rfl
 clear R
 go_enter Tryz.func32,Tryz.ntmps32
 go_wp2_with (refine wpList_load_row rfl 23 _ rfl _ rfl 23 _ _ _ (HC.o) Tryz.underlying23 rfl (by kernel_rfl) ?_)
 refine(HK.o _).mono ?_
 rintro e w1 ⟨rfl,h1⟩
 have H1:=hQQ h1
 have HC1:=hQQ (h1.block HC.o)
 have HB1:=hQQ (h1.block HB.o)
 have HM1:=hQQ (HM.o.trans h1)
 have hs1:=h1.size
 have hs1:w.heap.size+2≤w1.heap.size:=by have:=Hlen.o;omega
 have Hs1:=hQQ hs1
 clear h1
 have HC1b:Hq (((w1.alloc (.cells #[.int .i64 0,.int .i64 0,.int .i64 0,.int .i64 0,.int .i64 0,.int .i64 0,.int .i64 0,.int .i64 0,.int .i64 0,.int .i64 0,.int .i64 0,.int .i64 0,.int .i64 0,.int .i64 0,.int .i64 0,.int .i64 0,.int .i64 0,.int .i64 0,.int .i64 0,.int .i64 0,.int .i64 0,.int .i64 0,.int .i64 0,.int .i64 0] 28)).setRow w1.heap.size #[.int .i64 wk,.int .i64 cp,.int .i64 pg,.int .i64 st,.int .i64 tr,.int .i64 wt,.int .i64 ck,.int .i64 pr,.int .i64 ca,.int .i64 bi,.int .i64 ba,.int .i64 0,.int .i64 0,.int .i64 0,.int .i64 0,.int .i64 0,.int .i64 0,.int .i64 0,.int .i64 0,.int .i64 0,.int .i64 0,.int .i64 0,.int .i64 0,.int .i64 0]).heap[w.heap.size]?=some (.cells #[.int .i64 wk,.int .i64 cp,.int .i64 pg,.int .i64 st,.int .i64 tr,.int .i64 wt,.int .i64 ck,.int .i64 pr,.int .i64 ca,.int .i64 bi,.int .i64 ba] 23 (0,0))):=by
  rw[setRow_other _ _ _ _ (by omega)];exact((ae.refl _).alloc _).block HC1.o
 clear hs1
 go_wp2_with (first
  |(refine wpList_load_row rfl 23 _ rfl _ rfl 23 _ _ _ (HC1.o) Tryz.underlying23 rfl (by kernel_rfl) ?_)
  |(refine wpList_store_row rfl 28 _ _ rfl _ _ rfl rfl 28 _ (a7 w1 #[.int .i64 0,.int .i64 0,.int .i64 0,.int .i64 0,.int .i64 0,.int .i64 0,.int .i64 0,.int .i64 0,.int .i64 0,.int .i64 0,.int .i64 0,.int .i64 0,.int .i64 0,.int .i64 0,.int .i64 0,.int .i64 0,.int .i64 0,.int .i64 0,.int .i64 0,.int .i64 0,.int .i64 0,.int .i64 0,.int .i64 0,.int .i64 0] 28) (by kernel_rfl) rfl (by simp[Value.oneCell']) ?_)
  |(refine wpList_load_row rfl 23 _ rfl _ rfl 23 _ _ _ (HC1b.o) Tryz.underlying23 rfl (by kernel_rfl) ?_))
 have HMA:Hq (ae w ((w1.alloc (.cells #[.int .i64 0,.int .i64 0,.int .i64 0,.int .i64 0,.int .i64 0,.int .i64 0,.int .i64 0,.int .i64 0,.int .i64 0,.int .i64 0,.int .i64 0,.int .i64 0,.int .i64 0,.int .i64 0,.int .i64 0,.int .i64 0,.int .i64 0,.int .i64 0,.int .i64 0,.int .i64 0,.int .i64 0,.int .i64 0,.int .i64 0,.int .i64 0] 28)).setRow w1.heap.size #[.int .i64 wk,.int .i64 cp,.int .i64 pg,.int .i64 st,.int .i64 tr,.int .i64 wt,.int .i64 ck,.int .i64 pr,.int .i64 ca,.int .i64 bi,.int .i64 ba,.int .i64 0,.int .i64 0,.int .i64 0,.int .i64 0,.int .i64 0,.int .i64 0,.int .i64 0,.int .i64 0,.int .i64 0,.int .i64 0,.int .i64 0,.int .i64 0,.int .i64 0])):=(HM1.o.alloc _).setRow _ _ (by have:=Hs1.o;omega)
 have HBA:Hq (((w1.alloc (.cells #[.int .i64 0,.int .i64 0,.int .i64 0,.int .i64 0,.int .i64 0,.int .i64 0,.int .i64 0,.int .i64 0,.int .i64 0,.int .i64 0,.int .i64 0,.int .i64 0,.int .i64 0,.int .i64 0,.int .i64 0,.int .i64 0,.int .i64 0,.int .i64 0,.int .i64 0,.int .i64 0,.int .i64 0,.int .i64 0,.int .i64 0,.int .i64 0] 28)).setRow w1.heap.size #[.int .i64 wk,.int .i64 cp,.int .i64 pg,.int .i64 st,.int .i64 tr,.int .i64 wt,.int .i64 ck,.int .i64 pr,.int .i64 ca,.int .i64 bi,.int .i64 ba,.int .i64 0,.int .i64 0,.int .i64 0,.int .i64 0,.int .i64 0,.int .i64 0,.int .i64 0,.int .i64 0,.int .i64 0,.int .i64 0,.int .i64 0,.int .i64 0,.int .i64 0]).heap[w1.heap.size]?=some (.cells (aM wk cp pg st tr wt ck pr ca bi ba (wl (aJ cp pg st ca bi) 0)) 28 (0,0))):=setRow_heap _ _ _ _ _ _ (a7 w1 #[.int .i64 0,.int .i64 0,.int .i64 0,.int .i64 0,.int .i64 0,.int .i64 0,.int .i64 0,.int .i64 0,.int .i64 0,.int .i64 0,.int .i64 0,.int .i64 0,.int .i64 0,.int .i64 0,.int .i64 0,.int .i64 0,.int .i64 0,.int .i64 0,.int .i64 0,.int .i64 0,.int .i64 0,.int .i64 0,.int .i64 0,.int .i64 0] 28)
 have HRA:Hq (((w1.alloc (.cells #[.int .i64 0,.int .i64 0,.int .i64 0,.int .i64 0,.int .i64 0,.int .i64 0,.int .i64 0,.int .i64 0,.int .i64 0,.int .i64 0,.int .i64 0,.int .i64 0,.int .i64 0,.int .i64 0,.int .i64 0,.int .i64 0,.int .i64 0,.int .i64 0,.int .i64 0,.int .i64 0,.int .i64 0,.int .i64 0,.int .i64 0,.int .i64 0] 28)).setRow w1.heap.size #[.int .i64 wk,.int .i64 cp,.int .i64 pg,.int .i64 st,.int .i64 tr,.int .i64 wt,.int .i64 ck,.int .i64 pr,.int .i64 ca,.int .i64 bi,.int .i64 ba,.int .i64 0,.int .i64 0,.int .i64 0,.int .i64 0,.int .i64 0,.int .i64 0,.int .i64 0,.int .i64 0,.int .i64 0,.int .i64 0,.int .i64 0,.int .i64 0,.int .i64 0]).heap[w.heap.size+1]?=some (.cells #[.int .i64 0,.int .i64 0,.int .i64 0,.int .i64 0,.int .i64 0,.int .i64 0,.int .i64 0,.int .i64 0,.int .i64 0,.int .i64 0,.int .i64 0,.int .i64 0,.int .i64 0,.int .i64 0,.int .i64 0,.int .i64 0,.int .i64 0,.int .i64 0,.int .i64 0,.int .i64 0,.int .i64 0,.int .i64 0,.int .i64 0,.int .i64 0] 28 (0,0))):=by
  rw[setRow_other _ _ _ _ (by have:=Hs1.o;omega)];exact((ae.refl _).alloc _).block HB1.o
 refine(HL.o _).mono ?_
 rintro e w2 ⟨rfl,h2⟩
 have HM2:=hQQ (HMA.o.trans h2)
 have HB2:=hQQ (h2.block HBA.o)
 have HR2:=hQQ (h2.block HRA.o)
 clear h2
 clear HC0 HC HB HM HK HL HS Hlen H1 HC1 HB1 HC1b HMA HBA HRA HM1
 go_wp2_with fail
 go_loopw [6,7,8,19] (fun nx _ _ i wr=>∃k:Nat,k≤12∧i=.int .i64 k∧nx=.int .i64 (lr cp pg st ca bi k)∧wr.heap[w1.heap.size]?=some (.cells (aM wk cp pg st tr wt ck pr ca bi ba (wl (aJ cp pg st ca bi) k)) 28 (0,0))∧wr.heap[w.heap.size+1]?=some (.cells #[.int .i64 0,.int .i64 0,.int .i64 0,.int .i64 0,.int .i64 0,.int .i64 0,.int .i64 0,.int .i64 0,.int .i64 0,.int .i64 0,.int .i64 0,.int .i64 0,.int .i64 0,.int .i64 0,.int .i64 0,.int .i64 0,.int .i64 0,.int .i64 0,.int .i64 0,.int .i64 0,.int .i64 0,.int .i64 0,.int .i64 0,.int .i64 0] 28 (0,0))∧ae w wr) (fun _ _ _ i _=>12-(intOf i).toNat)
 case atStart=>exact⟨0,by omega,rfl,rfl,HB2.o,HR2.o,HM2.o⟩
 case round =>
  clear HB2 HR2 HM2
  obtain⟨k,hk,rfl,rfl,hb,hr,hm⟩:=hrel
  have nb:=FJ HRR.o hk
  have sb:=oM HRR.o hk
  have xc:wr.cell? ⟨w1.heap.size,11+k,none⟩=some (.int .i64 (wl (aJ cp pg st ca bi) k k)):=by rw[cell_of_row _ _ _ _ _ _ hb];exact kw wk cp pg st tr wt ck pr ca bi ba _ k hk
  have xf:wr.frozen? ⟨w1.heap.size,11+k,none⟩=false:=by simp[World.frozen?,hb]
  have HE:=hQQ (setCell_eq_setRow wr w1.heap.size (11+k) _ 28 (0,0) (.int .i64 (aJ cp pg st ca bi k)) hb)
  have HN:=hQQ (setRow_heap wr w1.heap.size _ ((aM wk cp pg st tr wt ck pr ca bi ba (wl (aJ cp pg st ca bi) k)).setIfInBounds (11+k) (.int .i64 (aJ cp pg st ca bi k))) 28 (0,0) hb)
  rw[Jc wk cp pg st tr wt ck pr ca bi ba hk] at HE HN
  have HO:Hq ((wr.setRow w1.heap.size (aM wk cp pg st tr wt ck pr ca bi ba (wl (aJ cp pg st ca bi) (k+1)))).heap[w.heap.size+1]?=some (.cells #[.int .i64 0,.int .i64 0,.int .i64 0,.int .i64 0,.int .i64 0,.int .i64 0,.int .i64 0,.int .i64 0,.int .i64 0,.int .i64 0,.int .i64 0,.int .i64 0,.int .i64 0,.int .i64 0,.int .i64 0,.int .i64 0,.int .i64 0,.int .i64 0,.int .i64 0,.int .i64 0,.int .i64 0,.int .i64 0,.int .i64 0,.int .i64 0] 28 (0,0))):=by
   rw[setRow_other _ _ _ _ (by have:=Hs1.o;omega)];exact hr
  have HP:Hq (ae w (wr.setRow w1.heap.size (aM wk cp pg st tr wt ck pr ca bi ba (wl (aJ cp pg st ca bi) (k+1))))):=hm.setRow _ _ (by have:=Hs1.o;omega)
  clear hb hr hm
  by_cases hlt:k<12
  ·have d0:decide ((k:Int)<12)=true:=by simp;omega
   have hl:∀W,(Instr.index 122 (.agg (mM cp pg st ca bi)) (.int .i64 k)).run Tryz.prog W=.ok (.int .i64 (xS cp pg st ca bi k)) W:=fun W=>uu W Tryz.underlying122 Tryz.underlying3 (by kernel_rfl) hlt (Af cp pg st ca bi hlt)
   have HQ:=hQQ (DE cp pg st ca bi hlt)
   have nb2:=FJ HRR.o (show k+1≤12 by omega)
   have q0:IntKind.i64.wrap (aJ cp pg st ca bi k+xS cp pg st ca bi k)=lr cp pg st ca bi (k+1):=by rw[HQ.o];exact aB (by omega) (by omega)
   have r0:(0:Int)≤(k:Int):=by omega
   have r1:(k:Int)<13:=by omega
   by_cases h11:k=11
   ·have d1:decide ((k:Int)=11)=true:=by simp;omega
    have HU:Hq ((lr cp pg st ca bi k+127) / 128 * 128=aJ cp pg st ca bi k):=by subst h11;exact wn cp pg st ca bi
    have d2:((k:Int)==11)=true:=by simp;omega
    have d3:decide (k=11)=true:=by simp;omega
    clear h11
    go_wp2_with fail
    refine(FA _ nb.1 (by omega) _).mono ?_
    rw[HU.o]
    rintro e w3 ⟨rfl,rfl⟩
    go_wp2_with fail
    rw[HE.o]
    go_roundw
    case rel=>exact⟨k+1,by omega,by go_num,rfl,HN.o,HO.o,HP.o⟩
    case measure=>simp[intOf];omega
   ·have d1:decide ((k:Int)=11)=false:=by simp;omega
    rw[←uv cp pg st ca bi (by omega:k<11)]
    go_wp2_with fail
    rw[HE.o]
    go_roundw
    case rel=>exact⟨k+1,by omega,by go_num,rfl,HN.o,HO.o,HP.o⟩
    case measure=>simp[intOf];omega
  ·have he:k=12:=by omega
   subst he
   rw[show lr cp pg st ca bi 12=aJ cp pg st ca bi 12 from rfl]
   go_wp2_with (first
    |(refine wpList_load_row rfl 28 _ rfl _ rfl 28 _ _ _ (HN.o) Tryz.underlying28 rfl (by kernel_rfl) ?_)
    |(rw[HE.o];refine wpList_load_row rfl 28 _ rfl _ rfl 28 _ _ _ (HN.o) Tryz.underlying28 rfl (by kernel_rfl) ?_)
    |(refine wpList_store_row rfl 28 _ _ rfl _ _ rfl rfl 28 _ HO.o (by kernel_rfl) rfl (kx ..) ?_))
   have HF:=hQQ (setRow_heap _ (w.heap.size+1) _ (aM wk cp pg st tr wt ck pr ca bi ba (aJ cp pg st ca bi)) _ _ HO.o)
   have HG:Hq (ae w ((wr.setRow w1.heap.size (aM wk cp pg st tr wt ck pr ca bi ba (aJ cp pg st ca bi))).setRow (w.heap.size+1) (aM wk cp pg st tr wt ck pr ca bi ba (aJ cp pg st ca bi)))):=HP.o.setRow _ _ (by omega)
   refine bodyPost_ret (v:=.tuple #[.agg (aM wk cp pg st tr wt ck pr ca bi ba (aJ cp pg st ca bi)),.int .i64 0]) (wo Tryz.results32 _ _ _ 28 _ (0,0) _ rfl HF.o Tryz.underlying28 rfl (by kernel_rfl)) rfl ⟨rfl,HG.o⟩
section
variable {wk cp pg st tr wt ck pr ca bi ba:Int}
theorem Lf (R:cV wk cp pg st tr wt ck pr ca bi ba)(k:Int):dM ((aJ cp pg st ca bi) 1) ((aJ cp pg st ca bi) 2) k=dW pg st k:=by
 show(if 0≤k∧k<bd st+aO pg-bd st then _ else _)=_
 unfold dW
 rw[show bd st+aO pg-bd st=aO pg by omega]
 rfl
theorem FO (R:cV wk cp pg st tr wt ck pr ca bi ba)(p:Int):dM ((aJ cp pg st ca bi) 2) ((aJ cp pg st ca bi) 3) p=dE pg st 0 p:=by
 simp only[dM,aJ,dE,bz]
 by_cases h:0≤p∧p<pg
 ·rw[if_pos (by omega),if_pos h]<;>(try omega)
 ·rw[if_neg (by omega),if_neg h]
theorem FP (R:cV wk cp pg st tr wt ck pr ca bi ba)(p:Int):dM ((aJ cp pg st ca bi) 3) ((aJ cp pg st ca bi) 4) p=dE pg st 1 p:=by
 simp only[dM,aJ,dE,bz]
 by_cases h:0≤p∧p<pg
 ·rw[if_pos (by omega),if_pos h]<;>(try omega)
 ·rw[if_neg (by omega),if_neg h]
theorem FQ (R:cV wk cp pg st tr wt ck pr ca bi ba)(p:Int):dM ((aJ cp pg st ca bi) 4) ((aJ cp pg st ca bi) 5) p=dE pg st 2 p:=by
 simp only[dM,aJ,dE,bz]
 by_cases h:0≤p∧p<pg
 ·rw[if_pos (by omega),if_pos h]<;>(try omega)
 ·rw[if_neg (by omega),if_neg h]
theorem FT (R:cV wk cp pg st tr wt ck pr ca bi ba)(p:Int):dM ((aJ cp pg st ca bi) 5) ((aJ cp pg st ca bi) 6) p=dE pg st 3 p:=by
 simp only[dM,aJ,dE,bz]
 by_cases h:0≤p∧p<pg
 ·rw[if_pos (by omega),if_pos h]<;>(try omega)
 ·rw[if_neg (by omega),if_neg h]
theorem FU (R:cV wk cp pg st tr wt ck pr ca bi ba)(p:Int):dM ((aJ cp pg st ca bi) 6) ((aJ cp pg st ca bi) 7) p=dE pg st 4 p:=by
 simp only[dM,aJ,dE,bz]
 by_cases h:0≤p∧p<pg
 ·rw[if_pos (by omega),if_pos h]<;>(try omega)
 ·rw[if_neg (by omega),if_neg h]
theorem Jd (R:cV wk cp pg st tr wt ck pr ca bi ba)(c f:Int):pN (aJ cp pg st ca bi) c f=aI pg st c f:=by
 unfold pN aI
 by_cases h:0≤c∧c≤4∧1≤f∧f≤fR c
 ·rw[if_pos h,if_pos h]
  have:c=0∨c=1∨c=2∨c=3∨c=4:=by omega
  simp only[dM,aJ,dt]
  rcases this with rfl|rfl|rfl|rfl|rfl<;>simp[fR,fm] at h⊢ <;>(rw[if_pos (by omega)];omega)
 ·rw[if_neg h,if_neg h]
theorem FW (R:cV wk cp pg st tr wt ck pr ca bi ba)(u c:Int):mL cp ca (aJ cp pg st ca bi) u c=nU cp pg st ca u c:=by
 unfold mL nU
 by_cases h:0≤u∧u<cp∧0≤c∧c≤4
 ·rw[if_pos h,if_pos h]
  have h1:=R.ca1
  have h2:5 * u+c≤5 * cp-1:=by omega
  have h3:(5 * u+c) * (ca+1)≤(5 * cp-1) * (ca+1):=Int.mul_le_mul_of_nonneg_right h2 (by omega)
  have h4:(5 * cp-1) * (ca+1)=5 * cp * (ca+1)-(ca+1):=by rw[Int.sub_mul,Int.one_mul]
  have h5:0≤(5 * u+c) * (ca+1):=Int.mul_nonneg (by omega) (by omega)
  rw[show u * 5+c=5 * u+c by omega]
  simp only[dM,aJ,fH]
  rw[if_pos (by omega)]
 ·rw[if_neg h,if_neg h]
theorem Lg (R:cV wk cp pg st tr wt ck pr ca bi ba)(c:Int):xP bi (aJ cp pg st ca bi) c=Dz cp pg st ca bi c:=by
 unfold xP Dz
 by_cases h:0≤c∧c≤4
 ·rw[if_pos h,if_pos h]
  have h1:=R.bi1
  have h3:c * (bi+1)≤4 * (bi+1):=Int.mul_le_mul_of_nonneg_right h.2 (by omega)
  have h5:0≤c * (bi+1):=Int.mul_nonneg h.1 (by omega)
  simp only[dM,aJ,eK]
  rw[if_pos (by omega)]
 ·rw[if_neg h,if_neg h]
theorem Jf (R:cV wk cp pg st tr wt ck pr ca bi ba)(p:Int):rU pg (aJ cp pg st ca bi) p=xM cp pg st ca bi p:=by
 unfold rU xM
 by_cases h:0≤p∧p<pg
 ·rw[if_pos h,if_pos h]
  simp only[dM,aJ,eR]
  rw[if_pos (by omega)];omega
 ·rw[if_neg h,if_neg h]
end
variable {wk cp pg st tr wt ck pr ca bi ba:Int}(R:cV wk cp pg st tr wt ck pr ca bi ba)(w:World)
theorem Lh (R:cV wk cp pg st tr wt ck pr ca bi ba)(w:World)(k:Int):Calls Tryz.prog 137 #[.agg (aM wk cp pg st tr wt ck pr ca bi ba (aJ cp pg st ca bi)),.int .i64 k] w (aU w (.int .i64 (dW pg st k))):=by
 rw[←Lf R k];exact Lb wk cp pg st tr wt ck pr ca bi ba (aJ cp pg st ca bi) w k (cY R)
theorem Nh (R:cV wk cp pg st tr wt ck pr ca bi ba)(w:World)(k:Int):Calls Tryz.prog 90 #[.agg (aM wk cp pg st tr wt ck pr ca bi ba (aJ cp pg st ca bi)),.int .i64 k] w (aU w (.int .i64 (dE pg st 0 k))):=by
 rw[←FO R k];exact MV wk cp pg st tr wt ck pr ca bi ba (aJ cp pg st ca bi) w k (cY R)
theorem FX (R:cV wk cp pg st tr wt ck pr ca bi ba)(w:World)(k:Int):Calls Tryz.prog 134 #[.agg (aM wk cp pg st tr wt ck pr ca bi ba (aJ cp pg st ca bi)),.int .i64 k] w (aU w (.int .i64 (dE pg st 1 k))):=by
 rw[←FP R k];exact Lc wk cp pg st tr wt ck pr ca bi ba (aJ cp pg st ca bi) w k (cY R)
theorem KQ (R:cV wk cp pg st tr wt ck pr ca bi ba)(w:World)(k:Int):Calls Tryz.prog 108 #[.agg (aM wk cp pg st tr wt ck pr ca bi ba (aJ cp pg st ca bi)),.int .i64 k] w (aU w (.int .i64 (dE pg st 2 k))):=by
 rw[←FQ R k];exact MX wk cp pg st tr wt ck pr ca bi ba (aJ cp pg st ca bi) w k (cY R)
theorem Ni (R:cV wk cp pg st tr wt ck pr ca bi ba)(w:World)(k:Int):Calls Tryz.prog 136 #[.agg (aM wk cp pg st tr wt ck pr ca bi ba (aJ cp pg st ca bi)),.int .i64 k] w (aU w (.int .i64 (dE pg st 3 k))):=by
 rw[←FT R k];exact MY wk cp pg st tr wt ck pr ca bi ba (aJ cp pg st ca bi) w k (cY R)
theorem Nj (R:cV wk cp pg st tr wt ck pr ca bi ba)(w:World)(k:Int):Calls Tryz.prog 147 #[.agg (aM wk cp pg st tr wt ck pr ca bi ba (aJ cp pg st ca bi)),.int .i64 k] w (aU w (.int .i64 (dE pg st 4 k))):=by
 rw[←FU R k];exact Nd wk cp pg st tr wt ck pr ca bi ba (aJ cp pg st ca bi) w k (cY R)
theorem Nk (R:cV wk cp pg st tr wt ck pr ca bi ba)(w:World)(c f:Int):Calls Tryz.prog 93 #[.agg (aM wk cp pg st tr wt ck pr ca bi ba (aJ cp pg st ca bi)),.int .i64 c,.int .i64 f] w (aU w (.int .i64 (aI pg st c f))):=by
 rw[←Jd R c f];exact Nf wk cp pg st tr wt ck pr ca bi ba (aJ cp pg st ca bi) w c f (cY R)
theorem FY (R:cV wk cp pg st tr wt ck pr ca bi ba)(w:World)(u c:Int):Calls Tryz.prog 28 #[.agg (aM wk cp pg st tr wt ck pr ca bi ba (aJ cp pg st ca bi)),.int .i64 u,.int .i64 c] w (aU w (.int .i64 (nU cp pg st ca u c))):=by
 rw[←FW R u c];exact Ld wk cp pg st tr wt ck pr ca bi ba (aJ cp pg st ca bi) w u c (cY R)
theorem Ob (R:cV wk cp pg st tr wt ck pr ca bi ba)(w:World)(c:Int):Calls Tryz.prog 29 #[.agg (aM wk cp pg st tr wt ck pr ca bi ba (aJ cp pg st ca bi)),.int .i64 c] w (aU w (.int .i64 (Dz cp pg st ca bi c))):=by
 rw[←Lg R c];exact N0 wk cp pg st tr wt ck pr ca bi ba (aJ cp pg st ca bi) w c (cY R)
theorem Nl (R:cV wk cp pg st tr wt ck pr ca bi ba)(w:World)(p:Int):Calls Tryz.prog 143 #[.agg (aM wk cp pg st tr wt ck pr ca bi ba (aJ cp pg st ca bi)),.int .i64 p] w (aU w (.int .i64 (xM cp pg st ca bi p))):=by
 rw[←Jf R p];exact Ng wk cp pg st tr wt ck pr ca bi ba (aJ cp pg st ca bi) w p (cY R)
theorem Nm (R:cV wk cp pg st tr wt ck pr ca bi ba)(w:World):Calls Tryz.prog 14 #[.agg (aM wk cp pg st tr wt ck pr ca bi ba (aJ cp pg st ca bi))] w (aU w (.int .i64 (fI cp pg st ca bi))):=FC wk cp pg st tr wt ck pr ca bi ba (aJ cp pg st ca bi) w
theorem Li (R:cV wk cp pg st tr wt ck pr ca bi ba)(w:World):Calls Tryz.prog 15 #[.agg (aM wk cp pg st tr wt ck pr ca bi ba (aJ cp pg st ca bi))] w (aU w (.int .i64 (eR cp pg st ca bi))):=Ac wk cp pg st tr wt ck pr ca bi ba (aJ cp pg st ca bi) w
theorem Jg (R:cV wk cp pg st tr wt ck pr ca bi ba)(w:World):Calls Tryz.prog 20 #[.agg (aM wk cp pg st tr wt ck pr ca bi ba (aJ cp pg st ca bi))] w (aU w (.agg #[.int .i64 wk,.int .i64 cp,.int .i64 pg,.int .i64 st,.int .i64 tr,.int .i64 wt,.int .i64 ck,.int .i64 pr,.int .i64 ca,.int .i64 bi,.int .i64 ba])):=Jb wk cp pg st tr wt ck pr ca bi ba (aJ cp pg st ca bi) w
theorem DG (R:cV wk cp pg st tr wt ck pr ca bi ba)(w:World)(a:Int)(c0:fI cp pg st ca bi≤a)(c1:a<eR cp pg st ca bi):Calls Tryz.prog 79 #[.agg (aM wk cp pg st tr wt ck pr ca bi ba (aJ cp pg st ca bi)),.int .i64 a] w (aU w (.tuple #[.int .i64 ((a-fI cp pg st ca bi) / 32),.int .i64 ((a-fI cp pg st ca bi) % 32),.bool true])):=DB wk cp pg st tr wt ck pr ca bi ba (aJ cp pg st ca bi) w a (cY R) c0 c1
theorem Ag (R:cV wk cp pg st tr wt ck pr ca bi ba)(w:World)(a:Int)(c:a<fI cp pg st ca bi∨eR cp pg st ca bi≤a):Calls Tryz.prog 79 #[.agg (aM wk cp pg st tr wt ck pr ca bi ba (aJ cp pg st ca bi)),.int .i64 a] w (aU w (.tuple #[.int .i64 0,.int .i64 0,.bool false])):=Ad wk cp pg st tr wt ck pr ca bi ba (aJ cp pg st ca bi) w a (cY R) c
end Go.Proofs.YtddmeghbmdfgeaaGreatDoor
