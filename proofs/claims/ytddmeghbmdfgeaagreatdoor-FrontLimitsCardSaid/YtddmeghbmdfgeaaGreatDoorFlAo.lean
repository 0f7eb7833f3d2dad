/-
  The landed package pages: Taken and Return, walked.
-/
import Derived.Test.YtddmeghbmdfgeaaGreatDoorFlAm
import Derived.Test.YtddmeghbmdfgeaaGreatDoorFlAn
import Derived.Test.YtddmeghbmdfgeaaGreatDoorFlAe
set_option maxRecDepth 100000
set_option maxHeartbeats 8000000
set_option linter.unusedVariables false
set_option linter.unusedSimpArgs false
set_option linter.unusedSectionVars false
namespace Go.Proofs.YtddmeghbmdfgeaaGreatDoor
open Go.RowKit Go.Sort Go.Maps Go.Shelf
theorem H4 (c:Cfg)(p:Nat)(x:TkA):∃cs i b,sT c p x=.tuple #[.agg cs,.int .i64 i,.bool b]∧cs.size=27∧cs.all (·.oneCell')=true∧((b=false∧gi x=none)∨∃q k,x=some (q,k,i,true)∧cs=bB c p q k∧b=true):=by
 match x with
 |none=>exact⟨pgZ,0,false,rfl,rfl,by kernel_rfl,.inl ⟨rfl,rfl⟩⟩
 |some (q,k,i,false)=>exact⟨bB c p q k,i,false,rfl,by kernel_rfl,qj ..,.inl ⟨rfl,rfl⟩⟩
 |some (q,k,i,true)=>exact⟨bB c p q k,i,true,rfl,by kernel_rfl,qj ..,.inr ⟨q,k,rfl,rfl,rfl⟩⟩
theorem zn (w:World)(cs:Array Value):∃w1,(w.alloc (.cells #[Value.pointer none,Value.int IntKind.i64 0,Value.int IntKind.i64 0,Value.int IntKind.i64 0,Value.int IntKind.i64 0,Value.int IntKind.i64 0,Value.int IntKind.i64 0,Value.int IntKind.i64 0,Value.int IntKind.i64 0,Value.int IntKind.i64 0,Value.int IntKind.i64 0,Value.int IntKind.i64 0,Value.int IntKind.i64 0,Value.int IntKind.i64 0,Value.int IntKind.i64 0,Value.int IntKind.i64 0,Value.int IntKind.i64 0,Value.int IntKind.i64 0,Value.int IntKind.i64 0,Value.int IntKind.i64 0,Value.int IntKind.i64 0,Value.int IntKind.i64 0,Value.int IntKind.i64 0,Value.int IntKind.i64 0,Value.int IntKind.i64 0,Value.int IntKind.i64 0,Value.int IntKind.i64 0] 90)).setRow w.heap.size cs=w1∧w1.heap[w.heap.size]?=some (.cells cs 90 (0,0))∧ae w w1 :=
 ⟨_,rfl,setRow_heap _ _ _ _ _ _ (a7 w _ _),((ae.refl w).alloc _).setRow _ _ (Nat.le_refl _)⟩
theorem NV {c:Cfg}(R:c.Ok){n:Nat}(H:cH c.pg c.st n)(hn:n≤10000)(F:Nat→Prop)(p:Nat)(kn:Int→Option Int)(D:List KV)(ad:Int)(w:World)(hv:aK w F p kn D)(hk:OkK kn)(hD:cF n D)(bt:Nat)(hs:dg bt w)(nF0:¬F 0)(nFb:¬F bt):
 Calls Tryz.prog 11 #[.pointer (some ⟨p,0,none⟩),.agg c.arr,.int .i64 ad] w (aC w F p kn (fun x:Int×Bool=> .tuple #[.int .i64 x.1,.bool x.2]) (G7 c.us c.pg c.st ad kn D)):=by
 obtain⟨Rr,hRr⟩:∃Rr,G7 c.us c.pg c.st ad kn D=Rr:=⟨_,rfl⟩
 rw[hRr]
 obtain⟨w1,e1,hl1,m1,s1⟩:=bg w (.cells c.arr 28)
 have nFl:¬F w.heap.size:=fun q=>by have:=hv.lt _ q;omega
 have MM:=hQQ m1
 have L0:=hQQ hl1
 have M0:Hq (MidV w1 w1 F (fun _=>False) p kn n D F):=hQQ (MidV.begin (hv.more m1) hD)
 have KL:Hq (∀wr D' F',MidV w1 wr F (fun _=>False) p kn n D' F'→wr.heap[w.heap.size]?=some (.cells c.arr 28 (0,0))):=hQQ fun wr D' F' h=>cI h L0.o nFl (fun q=>q)
 have NEED:Hq (∀a w2,Rr=.need a→aQ w2 p a→Turned (fun b=>F b∨False) w1 w2→aC w F p kn (fun x:Int×Bool=>Value.tuple #[.int .i64 x.1,.bool x.2]) Rr (.panicked (aY p)) w2):=hQQ fun a w2 e hd ht=>cx MM.o (fun _ q=>q.elim) e hd ht
 have DONE:Hq (∀x w2 D' F',Rr=.ok x D'→MidV w1 w2 F (fun _=>False) p kn n D' F'→aC w F p kn (fun x:Int×Bool=>Value.tuple #[.int .i64 x.1,.bool x.2]) Rr (.returned ((fun x:Int×Bool=>Value.tuple #[.int .i64 x.1,.bool x.2]) x)) w2):=hQQ fun x w2 D' F' e h=>bZ MM.o (fun _ q=>q.elim) h e
 have HK:=hQQ hk
 have HR:=hQQ R
 have HH:=hQQ H
 clear hl1 m1 hv hD hk R H nFl
 have SZ:Hq (∀wr D' F',MidV w1 wr F (fun _=>False) p kn n D' F'→dg bt wr):=hQQ fun wr D' F' h=>(hs.more MM.o).keep h.turn (by rintro(q|q);exact nF0 q;exact q) (by rintro(q|q);exact nFb q;exact q)
 have NF:Hq (∀wr D' F',MidV w1 wr F (fun _=>False) p kn n D' F'→¬F' 0∧¬F' bt):=hQQ fun wr D' F' h=>⟨h.off (hs.more MM.o).lt0 nF0,h.off (hs.more MM.o).lt nFb⟩
 have HRr:=hQQ (show ar (fK c.us c.pg c.st ad) (fun x=>yU (gi x)) kn D=Rr from hRr)
 clear hRr hs nF0 nFb
 go_enter Tryz.func11,Tryz.ntmps11
 go_wp2_with (refine af rfl 28 _ rfl _ rfl 28 _ _ _ L0.o Tryz.underlying28 rfl (by kernel_rfl) ?_)
 refine(C8 HR.o HH.o hn F p kn D ad w1 M0.o.view HK.o M0.o.inv bt (SZ.o _ _ _ M0.o) (NF.o _ _ _ M0.o).1 (NF.o _ _ _ M0.o).2).mono ?_
 intro e w2 he
 rcases M0.o.step (ae.refl _) HK.o (kR HH.o.toPgIn ad) he with⟨a',hE,rfl,hd',ht',_⟩|⟨x2,D2,F2,hE,rfl,M2,hq2,_,_⟩
 ·exact⟨rfl,NEED.o a' w2 (HRr.o.symm.trans (ah hE)) hd' ht'⟩
 have L2:=hQQ (KL.o _ _ _ M2)
 have R2:=hQQ ((ak hE).symm.trans HRr.o)
 have M2:=hQQ M2
 clear he hE
 obtain⟨cs,i,b,ev,hsz,h1,hb⟩:=H4 c p x2
 rw[ev]
 obtain⟨w3,e3,b3,m3⟩:=zn w2 cs
 have H1:=hQQ h1
 have HSZ:=hQQ hsz
 clear h1 hsz ev
 have M3:=hQQ (M2.o.more m3)
 rcases hb with⟨rfl,hy⟩|⟨q,k,rfl,rfl,rfl⟩
 ·have FIN:=hQQ (DONE.o (0,false) w3 D2 F2 (by have:=R2.o;rw[hy] at this;exact this.symm) M3.o)
  clear R2 hy
  go_wp2_with (refine wpList_store_row rfl 90 _ _ rfl _ _ rfl rfl 90 _ (a7 _ _ _) (by rw[HSZ.o];kernel_rfl) (by rw[HSZ.o];rfl) H1.o (e3.symm▸ ?_))
  go_ret2
  exact FIN.o
 ·have FIN:=hQQ (DONE.o (k,true) w3 D2 F2 R2.o.symm M3.o)
  obtain⟨c0,c25,c26⟩:=kQ b3
  clear R2
  go_wp2_with (refine wpList_store_row rfl 90 _ _ rfl _ _ rfl rfl 90 _ (a7 _ _ _) (by rw[HSZ.o];kernel_rfl) (by rw[HSZ.o];rfl) H1.o (e3.symm▸ ?_))
  go_ret2
  exact FIN.o
theorem H5 {c:Cfg}(R:c.Ok){n:Nat}(H:cH c.pg c.st n)(hn:n≤10000)(F:Nat→Prop)(p:Nat)(kn:Int→Option Int)(D:List KV)(ad:Int)(w:World)(hv:aK w F p kn D)(hk:OkK kn)(hD:cF n D)(bt:Nat)(hs:dg bt w)(nF0:¬F 0)(nFb:¬F bt):
 Calls Tryz.prog 87 #[.pointer (some ⟨p,0,none⟩),.agg c.arr,.int .i64 ad] w (aC w F p kn (fun b:Bool=> .bool b) (qT c.us c.pg c.st ad kn D)):=by
 obtain⟨Rr,hRr⟩:∃Rr,qT c.us c.pg c.st ad kn D=Rr:=⟨_,rfl⟩
 rw[hRr]
 obtain⟨w1,e1,hl1,m1,s1⟩:=bg w (.cells c.arr 28)
 have nFl:¬F w.heap.size:=fun q=>by have:=hv.lt _ q;omega
 have MM:=hQQ m1
 have L0:=hQQ hl1
 have M0:Hq (MidV w1 w1 F (fun _=>False) p kn n D F):=hQQ (MidV.begin (hv.more m1) hD)
 have KL:Hq (∀wr D' F',MidV w1 wr F (fun _=>False) p kn n D' F'→wr.heap[w.heap.size]?=some (.cells c.arr 28 (0,0))):=hQQ fun wr D' F' h=>cI h L0.o nFl (fun q=>q)
 have NEED:Hq (∀a w2,Rr=.need a→aQ w2 p a→Turned (fun b=>F b∨False) w1 w2→aC w F p kn (fun b:Bool=>Value.bool b) Rr (.panicked (aY p)) w2):=hQQ fun a w2 e hd ht=>cx MM.o (fun _ q=>q.elim) e hd ht
 have DONE:Hq (∀x w2 D' F',Rr=.ok x D'→MidV w1 w2 F (fun _=>False) p kn n D' F'→aC w F p kn (fun b:Bool=>Value.bool b) Rr (.returned ((fun b:Bool=>Value.bool b) x)) w2):=hQQ fun x w2 D' F' e h=>bZ MM.o (fun _ q=>q.elim) h e
 have HK:=hQQ hk
 have HR:=hQQ R
 have HH:=hQQ H
 clear hl1 m1 hv hD hk R H nFl
 have SZ:Hq (∀wr D' F',MidV w1 wr F (fun _=>False) p kn n D' F'→dg bt wr):=hQQ fun wr D' F' h=>(hs.more MM.o).keep h.turn (by rintro(q|q);exact nF0 q;exact q) (by rintro(q|q);exact nFb q;exact q)
 have NF:Hq (∀wr D' F',MidV w1 wr F (fun _=>False) p kn n D' F'→¬F' 0∧¬F' bt):=hQQ fun wr D' F' h=>⟨h.off (hs.more MM.o).lt0 nF0,h.off (hs.more MM.o).lt nFb⟩
 have HRr:=hQQ (show ar (fK c.us c.pg c.st ad) (fun x=>A9 c.pg c.st (gi x)) kn D=Rr from hRr)
 have HN:=hQQ hn
 clear hRr hs nF0 nFb
 have hmf:∀(fn:Fn) (first cap:Array Value) (w:World),(Instr.makeFunc fn first cap).run Tryz.prog w=.ok (.func fn first cap) w:=fun _ _ _ _=>rfl
 go_enter_defers Tryz.func87,Tryz.ntmps87
 go_wp2_with (refine af rfl 28 _ rfl _ rfl 28 _ _ _ L0.o Tryz.underlying28 rfl (by kernel_rfl) ?_)
 refine(C8 HR.o HH.o hn F p kn D ad w1 M0.o.view HK.o M0.o.inv bt (SZ.o _ _ _ M0.o) (NF.o _ _ _ M0.o).1 (NF.o _ _ _ M0.o).2).mono ?_
 intro e w2 he
 rcases M0.o.step (ae.refl _) HK.o (kR HH.o.toPgIn ad) he with⟨a',hE,rfl,hd',ht',_⟩|⟨x2,D2,F2,hE,rfl,M2,hq2,hk2,hf2⟩
 ·exact NEED.o a' w2 (HRr.o.symm.trans (ah hE)) hd' ht'
 have R2:=hQQ ((ak hE).symm.trans HRr.o)
 have M2:=hQQ M2
 have HE2:=hQQ hE
 clear he hE hk2 hf2
 obtain⟨cs,i,b,ev,hsz,h1,hb⟩:=H4 c p x2
 rw[ev]
 obtain⟨w3,e3,b3,m3⟩:=zn w2 cs
 have H1:=hQQ h1
 have HSZ:=hQQ hsz
 clear h1 hsz ev
 have M3:=hQQ (M2.o.more m3)
 have nFg:¬F2 w2.heap.size:=fun z=>by have:=M2.o.view.lt _ z;omega
 rcases hb with⟨rfl,hy⟩|⟨q,k,rfl,rfl,rfl⟩
 ·have FIN:=hQQ (DONE.o false w3 D2 F2 (by have:=R2.o;rw[hy] at this;exact this.symm) M3.o)
  clear R2 hy
  go_wp2_with (refine wpList_store_row rfl 90 _ _ rfl _ _ rfl rfl 90 _ (a7 _ _ _) (by rw[HSZ.o];kernel_rfl) (by rw[HSZ.o];rfl) H1.o (e3.symm▸ ?_))
  refine⟨_,results_tmp (t:=6) rfl _ _ _,?_⟩
  exact FIN.o
 ·have HQ:=hQQ (hq2 q k i true rfl).1
  have PB:=hQQ (cu HH.o.toPgIn HQ.o)
  obtain⟨b,hwb,-⟩:=A5 HE2.o
  have R2:=hQQ (show lX c.pg c.st q k i kn D2=Rr from R2.o)
  have WB0:=hQQ hwb
  clear HE2 hq2 hwb
  go_wp2_with (first|(refine wpList_store_row rfl 90 _ _ rfl _ _ rfl rfl 90 _ (a7 _ _ _) (by rw[HSZ.o];kernel_rfl) (by rw[HSZ.o];rfl) H1.o (e3.symm▸ ?_))|(refine wpList_load_row rfl 90 _ rfl _ rfl 90 _ _ _ b3 Tryz.underlying90 rfl (by kernel_rfl) ?_))
  have BG:=hQQ b3
  clear e3 m3 b3 M2
  generalize w2.heap.size=gb at BG nFg
  refine(C7 HR.o HH.o.toPgIn HN.o F2 p kn D2 q k HQ.o w3 M3.o.view HK.o M3.o.inv).mono ?_
  intro e w7 he
  rcases M3.o.stepR (ae.refl _) HK.o (bu n PB.o.2.1.2.1) he with⟨a',hE,rfl,hd',ht',_⟩|⟨was,D6,F6,vm,hE,rfl,⟨gm,wm,rfl,hgm,hwm,hne,nm,nw,bm,bw⟩,M6,hq6,hk6,hf6⟩
  ·exact NEED.o a' w7 (R2.o.symm.trans (ah hE)) hd' ht'
  obtain⟨rfl,_⟩:=gC hE
  have R6:=hQQ ((ak hE).symm.trans R2.o)
  have R6:=hQQ ((ak (eS WB0.o)).symm.trans R6.o)
  have BG:=hQQ (hk6 _ _ nFg BG.o)
  have BM:=hQQ bm
  have BW:=hQQ bw
  have NM:=hQQ nm
  have NW:=hQQ nw
  have M6:=hQQ M6
  have HB0:Hq (W64 b):=hQQ ((bu n PB.o.2.2.2.1).ok HK.o M6.o.inv (eS WB0.o)).2
  clear he hE bm bw nm nw hgm hwm hne hk6 hf6 hq6 M3 R2 nFg
  have YB:=hQQ (fun W (hW:ae w7 W)=>CW HR.o HH.o.toPgIn F6 p kn D6 q k b HN.o HQ.o W (M6.o.view.more hW) WB0.o)
  have YS:=hQQ (fun W=>G6 (i:=i) HB0.o W)
  obtain⟨nb',hnb'⟩:∃nb',clearV b i=nb':=⟨_,rfl⟩
  have HB:=hQQ (j8 HB0.o i)
  have HC:=hQQ (And.intro (cnt_b (clearV b i) k).1 (cnt_b (clearV b i) k).2.1)
  rw[hnb'] at YS R6 HB HC
  clear hnb'
  go_wp2_with fail
  refine bO 5 (by kernel_rfl) (by kernel_rfl) ?_
  simp only[List.take_succ_cons,List.take_zero,List.drop_succ_cons,List.drop_zero]
  refine aP rfl 90 _ rfl gb rfl 90 _ _ _ (fun W hW=>hW.block BG.o) Tryz.underlying90 rfl (by kernel_rfl) ?_
  refine aP rfl 90 _ rfl gb rfl 90 _ _ _ (fun W hW=>hW.block BG.o) Tryz.underlying90 rfl (by kernel_rfl) ?_
  iterate 1
   with_reducible refine wpQuiet_step (fun K hK=>?_)
   go_simp
   first
   |(refine hK _ ?_;clear hK K)
   |(apply Exists.intro
     refine⟨fun W hW=>?_,hK _ ?_⟩
     first
     |(go_at_call 82;exact Calls.more hW (YB.o W hW))
     |(go_simp;try rfl)
     clear hK K)
  iterate 1
   with_reducible refine wpQuiet_step (fun K hK=>?_)
   go_simp
   first
   |(refine hK _ ?_;clear hK K)
   |(apply Exists.intro
     refine⟨fun W hW=>?_,hK _ ?_⟩
     first
     |(go_simp;try rfl)
     clear hK K)
  iterate 1
   with_reducible refine wpQuiet_step (fun K hK=>?_)
   go_simp
   first
   |(refine hK _ ?_;clear hK K)
   |(apply Exists.intro
     refine⟨fun W hW=>?_,hK _ ?_⟩
     first
     |(go_at_call 113;exact Calls.more hW (YS.o W))
     |(go_simp;try rfl)
     clear hK K)
  refine wpQuiet_nil ?_
  intro w8 h8
  have M8:=hQQ (M6.o.more h8)
  have BM8:=hQQ (h8.block BM.o)
  have BW8:=hQQ (h8.block BW.o)
  clear h8
  go_wp2_with fail
  refine(K8 HR.o HH.o.toPgIn hn F6 p kn D6 q k nb' HQ.o HB.o HC.o w8 M8.o.view HK.o M8.o.inv bt (SZ.o _ _ _ M8.o) (NF.o _ _ _ M8.o).1 (NF.o _ _ _ M8.o).2).mono ?_
  intro e w9 he
  rcases M8.o.step (ae.refl _) HK.o (gW HH.o.toPgIn HQ.o HB.o) he with⟨a',hE,rfl,hd',ht',hk'⟩|⟨x9,D9,F9,hE,rfl,M9,hq9,hk9,hf9⟩
  ·have NE:=hQQ (NEED.o a')
   have R9:=hQQ (R6.o.symm.trans (ah hE))
   change bodyPostD _ _ _ (Exit.panic (aY p)) _ _
   refine leaves_cons (f:=129) (args:=#[.pointer (some ⟨gm,0,none⟩),.pointer (some ⟨wm,0,none⟩)]) (by simp) (by simp[go_sem]) ?_
   refine(yO HR.o HH.o p a' q k was gm wm w9 hd' (hk' _ _ NM.o BM8.o) (hk' _ _ NW.o BW8.o) _).mono ?_
   rintro e u' w10 ⟨rfl,rfl,h10⟩
   exact NE.o w10 R9.o (hd'.keep h10 (fun q=>q)) (am ht' h10 (fun _ q=>q.elim))
  have R9:=hQQ ((ak hE).symm.trans R6.o)
  have BM9:=hQQ (hk9 _ _ NM.o BM8.o)
  have BW9:=hQQ (hk9 _ _ NW.o BW8.o)
  have NM9:=hQQ (show ¬F9 gm from fun z=>by rcases hf9 _ z with q|q;exact NM.o q;have:=ac BM8.o;omega)
  have M9:=hQQ M9
  clear he hE hk9 hf9 hq9 M8 BM8 BW8
  clear BG YB YS HB HC WB0 HB0 M6 BM BW NM NW SZ NF R6 L0 M0
  go_wp2_with fail
  refine leaves_cons (f:=129) (args:=#[.pointer (some ⟨gm,0,none⟩),.pointer (some ⟨wm,0,none⟩)]) (by simp) (by simp[go_sem]) ?_
  refine(yR HR.o HH.o hn F9 p kn D9 q k was HQ.o gm wm w9 M9.o.view HK.o M9.o.inv BM9.o BW9.o NM9.o _).mono ?_
  rintro e u' w13 ⟨rfl,he⟩
  rcases M9.o.step (ae.refl _) HK.o (gV HH.o q k was HQ.o) he with⟨a',hE,rfl,hd',ht',_⟩|⟨x11,D11,F11,hE,rfl,M11,_,_,_⟩
  ·exact NEED.o a' w13 (R9.o.symm.trans (ah hE)) hd' ht'
  have FIN:=hQQ (DONE.o true w13 D11 F11 (R9.o.symm.trans (ak hE)) M11)
  refine⟨_,results_tmp (t:=6) rfl _ _ _,?_⟩
  exact FIN.o
section
variable {pg st:Int}{n:Nat}(H:cH pg st n)
include H
end
section
variable {pg st:Int}{n:Nat}(H:cH pg st n)
include H
theorem vG:PgW pg st (fun _=> []) (cO n):=by
 have hz:∀i:Int,wAt (cO n) i=0:=fun i=>by
  unfold wAt cO
  simp only[List.getD,List.getElem?_replicate]
  split<;>rfl
 have hk:∀p,ag pg p=true→aZ pg st (cO n) p=0:=fun p hp=>by unfold aZ;rw[if_pos hp];exact hz _
 refine⟨Hp H,⟨fun p hp=>by rw[hk p hp];omega,fun p hp _=>⟨hz _,hz _⟩,fun p hp h=>absurd (hk p hp) h,fun p hp h=>?_,fun a p ha=>⟨fun h=>(by cases h),fun h=>?_⟩⟩⟩
 ·rw[hk p hp] at h;omega
 ·have:=hk p h.1;have:=h.2.1;omega
end
theorem H6 {k:Int} :szV k=0↔aw k=0:=by
 unfold szV aw
 (repeat' split)<;>simp
structure FlI (pg st q:Int)(ws:List Int)(p:Int)(s:Int×Bool):Prop where
 free:s.2=true↔∃x,0≤x∧x<p∧aZ pg st ws x=0
 least:(s.1=0∧∀x,0≤x→x<p→0<szV q→aZ pg st ws x=q+1→dQ q (c8 pg st ws x)≤0) ∨
  (0<szV q∧0<s.1∧(∃x,0≤x∧x<p∧aZ pg st ws x=q+1∧dQ q (c8 pg st ws x)=s.1)∧∀x,0≤x→x<p→aZ pg st ws x=q+1→0<dQ q (c8 pg st ws x)→s.1≤dQ q (c8 pg st ws x))
section
variable {pg st:Int}{n:Nat}(H:cH pg st n)
include H
end
theorem H7 {us pg st:Int}{ws:List Int}{q k:Int}{j:Nat}(hq:ag pg q=true)(hk:0≤k∧k≤4)(hj:(j:Int)<aw k)(ek:aZ pg st ws q=k+1):
 fN us pg st (us+32 * q+j * szV k) ws=some (q,k,(j:Int),eG (c8 pg st ws q) j):=by
 have hp:=ay.1 hq
 obtain⟨z,rfl⟩:∃z:Nat,k=(z:Int):=⟨k.toNat,by omega⟩
 have hz4:z=0∨z=1∨z=2∨z=3∨z=4:=by omega
 have key:aw (z:Int)≠0∧0<szV (z:Int)∧0≤(j:Int) * szV (z:Int)∧(j:Int) * szV (z:Int)<32:=by
  rcases hz4 with rfl|rfl|rfl|rfl|rfl
  ·have hj:(j:Int)<32:=hj
   refine⟨by decide,by decide,?_,?_⟩<;>(show _;simp only[show szV ((0:Nat):Int)=1 from rfl];omega)
  ·have hj:(j:Int)<16:=hj
   refine⟨by decide,by decide,?_,?_⟩<;>(show _;simp only[show szV ((1:Nat):Int)=2 from rfl];omega)
  ·have hj:(j:Int)<8:=hj
   refine⟨by decide,by decide,?_,?_⟩<;>(show _;simp only[show szV ((2:Nat):Int)=4 from rfl];omega)
  ·have hj:(j:Int)<4:=hj
   refine⟨by decide,by decide,?_,?_⟩<;>(show _;simp only[show szV ((3:Nat):Int)=8 from rfl];omega)
  ·have hj:(j:Int)<2:=hj
   refine⟨by decide,by decide,?_,?_⟩<;>(show _;simp only[show szV ((4:Nat):Int)=16 from rfl];omega)
 obtain⟨k1,k2,k3,k4⟩:=key
 have hd:(j:Int) * szV (z:Int) / szV (z:Int)=(j:Int):=Int.mul_ediv_cancel _ (by omega)
 have hm:(j:Int) * szV (z:Int) % szV (z:Int)=0:=Int.mul_emod_left _ _
 obtain⟨x,hx⟩:∃x,(j:Int) * szV (z:Int)=x:=⟨_,rfl⟩
 rw[hx] at k3 k4 hd hm⊢
 have e1:(us+32 * q+x-us) / 32=q:=by omega
 have e2:(us+32 * q+x-us) % 32=x:=by omega
 unfold fN
 rw[if_pos (by omega),e1,e2,ek]
 unfold kT
 rw[show IntKind.i64.wrap ((z:Int)+1-1)=(z:Int) by rw[show(z:Int)+1-1=(z:Int) by omega];exact aB (by omega) (by omega),if_neg k1,if_neg (by rw[hm];simp),hd]
theorem pw (us:Int){pg q k:Int}{j:Nat}(hq:ag pg q=true)(k0:0≤k)(k4:k≤4)(hj:(j:Int)<aw k):(us+32 * q+j * szV k-us) / 32=q:=by
 obtain⟨z,rfl⟩:∃z:Nat,k=(z:Int):=⟨k.toNat,by omega⟩
 have hz4:z=0∨z=1∨z=2∨z=3∨z=4:=by omega
 rcases hz4 with rfl|rfl|rfl|rfl|rfl
 ·have hj:(j:Int)<32:=hj
  rw[show szV ((0:Nat):Int)=1 from rfl];omega
 ·have hj:(j:Int)<16:=hj
  rw[show szV ((1:Nat):Int)=2 from rfl];omega
 ·have hj:(j:Int)<8:=hj
  rw[show szV ((2:Nat):Int)=4 from rfl];omega
 ·have hj:(j:Int)<4:=hj
  rw[show szV ((3:Nat):Int)=8 from rfl];omega
 ·have hj:(j:Int)<2:=hj
  rw[show szV ((4:Nat):Int)=16 from rfl];omega
section
variable {pg st:Int}{n:Nat}(H:cH pg st n)
include H
theorem H8 (us k:Int){G:Int→List Int}{ws:List Int}(P:PgW pg st G ws)(hn:ws.length=n):
 (dd us pg st k ws=((0,false),ws)) ∨
 ∃(q:Int) (j:Nat) (f:Int) (G2:Int→List Int) (X:List Int),ag pg q=true∧0≤k∧k≤4∧(j:Int)<aw k∧eG (c8 pg st ws q) j=false∧dd us pg st k ws=((us+32 * q+j * szV k,true),X)∧PgW pg st G2 X ∧
  (∀p,ag pg p=true→aZ pg st X p=(if p=q then k+1 else aZ pg st ws p)∧cG pg st X p=(if p=q then f else cG pg st ws p)∧c8 pg st X p=(if p=q then setV (c8 pg st ws q) j else c8 pg st ws p)) ∧
  ((aZ pg st ws q=k+1∧f+1=cG pg st ws q)∨(aZ pg st ws q=0∧f+1=aw k)):=by
 by_cases hs:aw k=0
 ·exact .inl (tv H us hs ws)
 have hk:=fd hs
 by_cases h1:dh pg st k (aw k).toNat 1 ws= -1
 ·by_cases h2:jl pg st 1 1 ws= -1
  ·exact .inl (tw H us hs h1 h2)
  ·obtain⟨y,hy⟩:∃y,jl pg st 1 1 ws=y:=⟨_,rfl⟩
   rw[hy] at h2
   obtain⟨G1,G2,w1,X,hyp,hk0,_,T,n1,_,M,e,Q⟩:=zk H us hs P hn h1 hy h2
   have hf:=P.f.free y hyp hk0
   refine .inr ⟨y,0,aw k-1,G2,X,hyp,hk.1,hk.2,by have:=eN k;simp;omega,by rw[hf.2];simp[eG,mn],by rw[e];simp,Q,fun p hp=>⟨?_,?_,?_⟩,.inr ⟨hk0,by omega⟩⟩
   ·rw[d9.kind H M.o2,iW H hyp _ _ n1,T.kind]
    by_cases e:p=y
    ·rw[if_pos e,if_pos e]
    ·rw[if_neg e,if_neg e,if_neg (by omega)]
   ·rw[d9.cnt H M.o2 hp,kg H hyp _ _ n1 hp,T.cnt p hp]
    by_cases e:p=y
    ·rw[if_pos e,if_pos e]
    ·rw[if_neg e,if_neg e,if_neg e,if_neg (by omega)]
   ·rw[d9.bit H M.o2 hp,kh H hyp _ _ n1 hp,T.bit p hp]
    by_cases e:p=y
    ·rw[if_pos e,if_pos e,hf.2];rfl
    ·rw[if_neg e,if_neg e,if_neg (by omega)]
 ·obtain⟨q,hq⟩:∃q,dh pg st k (aw k).toNat 1 ws=q:=⟨_,rfl⟩
  rw[hq] at h1
  obtain⟨j,G1,G2,u,X,hqp,ek,c1,_,_,hj,hb,M,e,Q⟩:=zj H us hs P hn hq h1
  refine .inr ⟨q,j,cG pg st ws q-1,G2,X,hqp,hk.1,hk.2,hj,by unfold eG;simp[hb],e,Q,fun p hp=>⟨?_,?_,?_⟩,.inl ⟨ek,by omega⟩⟩
  ·rw[d9.kind H M.o2,iW H hqp _ _ hn]
   by_cases e:p=q
   ·rw[if_pos e,e,ek]
   ·rw[if_neg e]
  ·rw[d9.cnt H M.o2 hp,kg H hqp _ _ hn hp]
  ·rw[d9.bit H M.o2 hp,kh H hqp _ _ hn hp]
end
section
variable {pg st:Int}{n:Nat}(H:cH pg st n)
include H
theorem Ia (us:Int){a:Int}{G:Int→List Int}{ws:List Int}(P:PgW pg st G ws)(hn:ws.length=n)(ho:OkW ws){q k i:Int}(h:gi (fN us pg st a ws)=some (q,k,i)):
 ∃(G2:Int→List Int) (X:List Int),gQ us pg st a ws=(true,X)∧PgW pg st G2 X ∧
  (∀p,ag pg p=true→aZ pg st X p=(if p=q then(if cG pg st ws q+1=aw k then 0 else k+1) else aZ pg st ws p)∧cG pg st X p=(if p=q then(if cG pg st ws q+1=aw k then 0 else cG pg st ws q+1) else cG pg st ws p) ∧
   c8 pg st X p=(if p=q then(if cG pg st ws q+1=aw k then 0 else clearV (c8 pg st ws q) i) else c8 pg st ws p)):=by
 obtain⟨hq,ek,_,_,_,_,_,_,_,_,y1,y2⟩:=zm H us P hn ho h
 by_cases he:cG pg st ws q+1=aw k
 ·obtain⟨G1,G2,u,X,M,e,Q⟩:=y2 he
  refine⟨G2,X,e,Q,fun p hp=>⟨?_,?_,?_⟩⟩
  ·rw[d9.kind H M.o2,mY H.toPgIn hq 0 0 hn p,if_pos he]
  ·rw[d9.cnt H M.o2 hp,me H.toPgIn hq 0 0 hn hp,if_pos he]
  ·rw[d9.bit H M.o2 hp,pp H.toPgIn hq 0 0 hn hp,if_pos he]
 ·obtain⟨G1,G2,u,X,M,e,Q⟩:=y1 he
  refine⟨G2,X,e,Q,fun p hp=>⟨?_,?_,?_⟩⟩
  ·rw[d9.kind H M.o2,iW H hq _ _ hn,if_neg he]
   by_cases z:p=q
   ·rw[if_pos z,z,ek]
   ·rw[if_neg z]
  ·rw[d9.cnt H M.o2 hp,kg H hq _ _ hn hp,if_neg he]
  ·rw[d9.bit H M.o2 hp,kh H hq _ _ hn hp,if_neg he]
end
theorem Ib {w:Int}{m j:Nat} :j∈onN w m↔j<m∧eL w j=true:=by simp[onN]
theorem Dg {k b:Int}{i j:Nat}(h:dQ k b+1=aw k)(hi:(i:Int)<aw k)(hj:(j:Int)<aw k)(bi:eG b i=true)(bj:eG b j=true):i=j:=by
 have hs:=eN k
 have he:=kU (k:=k)
 have hl:(onN b (endN (aw k))).length=1:=by unfold dQ dy at h;omega
 obtain⟨x,hx⟩:=List.length_eq_one_iff.1 hl
 have m1:i∈onN b (endN (aw k)):=Ib.2 ⟨by omega,by rw[←wX (by omega)];exact bi⟩
 have m2:j∈onN b (endN (aw k)):=Ib.2 ⟨by omega,by rw[←wX (by omega)];exact bj⟩
 rw[hx] at m1 m2
 rw[List.mem_singleton.1 m1,List.mem_singleton.1 m2]
def tkC (us pg st:Int)(ws:List Int)(a:Int):Option Int:=(gi (fN us pg st a ws)).map (·.2.1)
structure lA (pg st:Int)(a b:List Int):Prop where
 len:b.length=a.length
 off:∀i:Int,bz st pg+62≤i→wAt b i=wAt a i
theorem lA.refl (pg st:Int)(a:List Int):lA pg st a a:=⟨rfl,fun _ _=>rfl⟩
theorem lA.trans {pg st:Int}{a b c:List Int}(h:lA pg st a b)(g:lA pg st b c):lA pg st a c:=⟨g.len.trans h.len,fun i hi=>(g.off i hi).trans (h.off i hi)⟩
structure tE (pg st:Int)(a b:List Int):Prop where
 len:b.length=a.length
 off:∀i:Int,0≤i→i<bz st pg+62→wAt b i=wAt a i
theorem szj {k:Int}{j:Nat}(k0:0≤k)(k4:k≤4)(hj:(j:Int)<aw k):0<szV k∧0≤(j:Int) * szV k∧(j:Int) * szV k<32:=by
 obtain⟨z,rfl⟩:∃z:Nat,k=(z:Int):=⟨k.toNat,by omega⟩
 have hz4:z=0∨z=1∨z=2∨z=3∨z=4:=by omega
 rcases hz4 with rfl|rfl|rfl|rfl|rfl
 ·have hj:(j:Int)<32:=hj
  rw[show szV ((0:Nat):Int)=1 from rfl];omega
 ·have hj:(j:Int)<16:=hj
  rw[show szV ((1:Nat):Int)=2 from rfl];omega
 ·have hj:(j:Int)<8:=hj
  rw[show szV ((2:Nat):Int)=4 from rfl];omega
 ·have hj:(j:Int)<4:=hj
  rw[show szV ((3:Nat):Int)=8 from rfl];omega
 ·have hj:(j:Int)<2:=hj
  rw[show szV ((4:Nat):Int)=16 from rfl];omega
theorem Ic {k:Int}(k0:0≤k)(k4:k≤4)(h:0<szV k)(q:Int):32 * q % szV k=0:=by
 obtain⟨z,rfl⟩:∃z:Nat,k=(z:Int):=⟨k.toNat,by omega⟩
 have hz4:z=0∨z=1∨z=2∨z=3∨z=4:=by omega
 rcases hz4 with rfl|rfl|rfl|rfl|rfl
 ·rw[show szV ((0:Nat):Int)=1 from rfl];omega
 ·rw[show szV ((1:Nat):Int)=2 from rfl];omega
 ·rw[show szV ((2:Nat):Int)=4 from rfl];omega
 ·rw[show szV ((3:Nat):Int)=8 from rfl];omega
 ·rw[show szV ((4:Nat):Int)=16 from rfl];omega
section
variable {pg st:Int}{n:Nat}(H:cH pg st n)
include H
theorem jT {p:Int}(hp:ag pg p=true):(0≤kA pg st p∧kA pg st p<bz st pg+62)∧(0≤cA pg st p∧cA pg st p<bz st pg+62)∧(0≤bA pg st p∧bA pg st p<bz st pg+62)∧(0≤nA pg st p∧nA pg st p<bz st pg+62)∧(0≤vA pg st p∧vA pg st p<bz st pg+62):=by
 have:=ay.1 hp
 have h1:=H.st1;have h4:=H.pg1
 have hc:0≤aO pg:=by unfold aO;omega
 have ht:0≤bd st:=by unfold bd;omega
 unfold kA cA bA nA vA bz
 refine⟨⟨?_,?_⟩,⟨?_,?_⟩,⟨?_,?_⟩,⟨?_,?_⟩,?_,?_⟩<;>omega
theorem Dh {k:Int}(hk:bS pg k=true):0≤dW pg st k∧dW pg st k<bz st pg+62:=by
 have h1:=H.st1;have h4:=H.pg1
 have:=dc.1 hk
 have ht:0≤bd st:=by unfold bd;omega
 rw[lG hk]
 unfold bz
 omega
theorem Id {i:Int}(hi:bz st pg+62≤i):¬dz pg st i∧∀p,ag pg p=true→i≠nA pg st p∧i≠vA pg st p:=by
 refine⟨fun h=>by unfold dz at h;omega,fun p hp=>?_⟩
 obtain⟨_,_,_,h1,h2⟩:=jT H hp
 exact⟨by omega,by omega⟩
theorem kV {a b:List Int}(o:d9 pg st a b):lA pg st a b:=⟨o.len,fun i hi=>by
 have:=Id H hi
 have h1:=H.st1;have h4:=H.pg1
 have hc:0≤aO pg:=by unfold aO;omega
 have ht:0≤bd st:=by unfold bd;omega
 exact o.off i (by unfold bz at hi;omega) this.1 this.2⟩
theorem qo {q:Int}(hq:ag pg q=true)(b f:Int){ws:List Int}(hn:ws.length=n):lA pg st ws (gj pg st q b f ws):=⟨by simp[gj],fun i hi=>by
 obtain⟨_,⟨h1,h2⟩,⟨h3,h4⟩,_⟩:=jT H hq
 rw[iT H hq b f hn (by omega),if_neg (by omega),if_neg (by omega)]⟩
theorem ET {q:Int}(hq:ag pg q=true)(k x:Int){ws:List Int}(hn:ws.length=n):lA pg st ws (fB pg st q k x ws):=⟨eZ H.toPgIn _ _ _ _,fun i hi=>by
 obtain⟨⟨h5,h6⟩,⟨h1,h2⟩,⟨h3,h4⟩,_⟩:=jT H hq
 rw[ij H.toPgIn hq k x hn (by omega),if_neg (by omega),if_neg (by omega),if_neg (by omega)]⟩
theorem EU {p m k:Int}{a b:List Int}(T:Hj pg st p m k a b):lA pg st a b:=⟨T.len,fun i hi=>by
 have h1:=H.st1;have h4:=H.pg1
 have hc:0≤aO pg:=by unfold aO;omega
 have ht:0≤bd st:=by unfold bd;omega
 refine T.off i (by unfold bz at hi;omega) (fun p hp=>?_) (fun k hk=>?_)
 ·obtain⟨⟨_,h1⟩,⟨_,h2⟩,⟨_,h3⟩,_⟩:=jT H hp
  exact⟨by omega,by omega,by omega⟩
 ·have:=Dh H hk;omega⟩
theorem EV (us k:Int){G:Int→List Int}{ws:List Int}(P:PgW pg st G ws)(hn:ws.length=n):lA pg st ws (dd us pg st k ws).2:=by
 by_cases hs:aw k=0
 ·rw[tv H us hs ws];exact lA.refl _ _ _
 ·by_cases h1:dh pg st k (aw k).toNat 1 ws= -1
  ·by_cases h2:jl pg st 1 1 ws= -1
   ·rw[tw H us hs h1 h2];exact lA.refl _ _ _
   ·obtain⟨G1,G2,w1,X,hy,_,_,T,n1,_,M,e,_⟩:=zk H us hs P hn h1 rfl h2
    rw[e]
    exact((EU H T).trans (qo H hy _ _ n1)).trans (kV H M.o2)
  ·obtain⟨j,G1,G2,u,X,hq,_,_,_,_,_,_,M,e,_⟩:=zj H us hs P hn rfl h1
   rw[e]
   exact(qo H hq _ _ hn).trans (kV H M.o2)
theorem EW (us a:Int){G:Int→List Int}{ws:List Int}(P:PgW pg st G ws)(hn:ws.length=n)(ho:OkW ws):lA pg st ws (gQ us pg st a ws).2:=by
 cases h:gi (fN us pg st a ws) with
 |none=>rw[J7 H h];exact lA.refl _ _ _
 |some x =>
  obtain⟨q,k,i⟩:=x
  obtain⟨hq,_,_,_,_,_,_,_,_,_,y1,y2⟩:=zm H us P hn ho h
  by_cases he:cG pg st ws q+1=aw k
  ·obtain⟨G1,G2,u,X,M,e,_⟩:=y2 he
   rw[e];exact(ET H hq _ _ hn).trans (kV H M.o2)
  ·obtain⟨G1,G2,u,X,M,e,_⟩:=y1 he
   rw[e];exact(qo H hq _ _ hn).trans (kV H M.o2)
theorem eV {a b:List Int}(F:tE pg st a b)(p:Int):aZ pg st b p=aZ pg st a p:=by
 unfold aZ
 split
 ·rename_i hp
  obtain⟨⟨h1,h2⟩,_⟩:=jT H hp
  exact F.off _ h1 h2
 ·rfl
theorem na {a b:List Int}(F:tE pg st a b){p:Int}(hp:ag pg p=true):cG pg st b p=cG pg st a p:=by
 obtain⟨_,⟨h1,h2⟩,_⟩:=jT H hp
 exact F.off _ h1 h2
theorem nh {a b:List Int}(F:tE pg st a b){p:Int}(hp:ag pg p=true):c8 pg st b p=c8 pg st a p:=by
 obtain⟨_,_,⟨h1,h2⟩,_⟩:=jT H hp
 exact F.off _ h1 h2
theorem EX {a b:List Int}(F:tE pg st a b)(k:Int):bL pg st b k=bL pg st a k:=by
 unfold bL
 cases hk:bS pg k with
 |false=>rfl
 |true =>
  obtain⟨h1,h2⟩:=Dh H hk
  rw[F.off _ h1 h2]
theorem vH {a b:List Int}(F:tE pg st a b){G:Int→List Int}(P:PgW pg st G a):PgW pg st G b:=by
 obtain⟨L,Q⟩:=P
 have h1:=H.st1;have h4:=H.pg1
 have hc:0≤aO pg:=by unfold aO;omega
 have ht:0≤bd st:=by unfold bd;omega
 refine⟨⟨fun x hx=>?_,L.page,L.nodup,L.apart,fun x p hx hp=>?_,fun x p hx hp=>?_,fun p hp hn=>?_⟩,⟨fun p hp=>?_,fun p hp h=>?_,fun p hp h=>?_,fun p hp h=>?_,fun x p hx=>?_⟩⟩
 ·rw[F.off x (by unfold dz bz at hx;omega) (by unfold dz at hx;omega)];exact L.head x hx
 ·obtain⟨_,_,_,⟨n1,n2⟩,_⟩:=jT H (L.page x hx p hp)
  rw[F.off _ n1 n2];exact L.next x p hx hp
 ·obtain⟨_,_,_,_,v1,v2⟩:=jT H (L.page x hx p hp)
  rw[F.off _ v1 v2];exact L.prev x p hx hp
 ·obtain⟨_,_,_,⟨n1,n2⟩,v1,v2⟩:=jT H hp
  rw[F.off _ n1 n2,F.off _ v1 v2];exact L.free p hp hn
 ·rw[eV H F];exact Q.kd p hp
 ·rw[eV H F] at h;rw[na H F hp,nh H F hp];exact Q.free p hp h
 ·rw[eV H F] at h;rw[EX H F];exact Q.map p hp h
 ·rw[eV H F] at h⊢;rw[na H F hp,nh H F hp];exact Q.cnt p hp h
 ·rw[Q.mem x p hx]
  constructor
  ·rintro⟨z1,z2,z3⟩
   refine⟨z1,?_,?_⟩
   ·rw[eV H F];exact z2
   ·rw[eV H F,na H F z1];exact z3
  ·rintro⟨z1,z2,z3⟩
   rw[eV H F] at z2 z3
   rw[na H F z1] at z3
   exact⟨z1,z2,z3⟩
theorem jo {us a k:Int}{G:Int→List Int}{ws:List Int}(P:PgW pg st G ws):
 tkC us pg st ws a=some k↔∃(q:Int) (j:Nat),ag pg q=true∧0≤k∧k≤4∧(j:Int)<aw k∧aZ pg st ws q=k+1∧eG (c8 pg st ws q) j=true∧a=us+32 * q+j * szV k:=by
 constructor
 ·intro h
  unfold tkC at h
  cases hx:gi (fN us pg st a ws) with
  |none=>rw[hx] at h;cases h
  |some x =>
   obtain⟨q,k',i⟩:=x
   rw[hx] at h
   simp at h
   subst h
   obtain⟨hq,ek,k0,k4,i0,i1,ht,ha⟩:=tD H P.f (gX hx)
   obtain⟨j,rfl⟩:∃j:Nat,i=j:=⟨i.toNat,by omega⟩
   exact⟨q,j,hq,k0,k4,i1,ek,ht.symm,ha⟩
 ·rintro⟨q,j,hq,k0,k4,hj,ek,hb,rfl⟩
  unfold tkC
  rw[H7 hq ⟨k0,k4⟩ hj ek,hb]
  rfl
theorem Ig {us a:Int}{x y:List Int}(F:tE pg st x y){G:Int→List Int}(P:PgW pg st G x):tkC us pg st y a=tkC us pg st x a:=by
 apply Option.ext
 intro k
 have e1:=jo H (us:=us) (a:=a) (k:=k) (vH H F P)
 have e2:=jo H (us:=us) (a:=a) (k:=k) P
 rw[e1,e2]
 constructor
 ·rintro⟨q,j,hq,k0,k4,hj,ek,hb,ha⟩
  rw[eV H F] at ek;rw[nh H F hq] at hb
  exact⟨q,j,hq,k0,k4,hj,ek,hb,ha⟩
 ·rintro⟨q,j,hq,k0,k4,hj,ek,hb,ha⟩
  exact⟨q,j,hq,k0,k4,hj,by rw[eV H F];exact ek,by rw[nh H F hq];exact hb,ha⟩
theorem zo {us k q q':Int}{j j':Nat}(hq:ag pg q=true)(hq':ag pg q'=true)(k0:0≤k)(k4:k≤4)(hj:(j:Int)<aw k)(hj':(j':Int)<aw k)(e:us+32 * q+j * szV k=us+32 * q'+j' * szV k):q=q'∧j=j':=by
 have e1:=pw us hq k0 k4 hj
 have e2:=pw us hq' k0 k4 hj'
 have eq:q=q':=by rw[←e1,←e2,e]
 subst eq
 refine⟨rfl,?_⟩
 have hs:szV k≠0:=fun z=>by
  have:=H6.1 z
  omega
 have:(j:Int) * szV k=(j':Int) * szV k:=by omega
 have:=Int.eq_of_mul_eq_mul_right hs this
 omega
theorem zp {us k k' q q':Int}{j j':Nat}(hq:ag pg q=true)(hq':ag pg q'=true)(k0:0≤k)(k4:k≤4)(k0':0≤k')(k4':k'≤4)(hj:(j:Int)<aw k)(hj':(j':Int)<aw k')(e:us+32 * q+j * szV k=us+32 * q'+j' * szV k'):q=q':=by
 have e1:=pw us hq k0 k4 hj
 have e2:=pw us hq' k0' k4' hj'
 rw[←e1,←e2,e]
theorem zr {k:Int}(k0:0≤k)(k4:k≤4){j:Nat}(hj:(j:Int)<aw k):inR (j:Int)=true:=(eU _).2 ⟨by omega,by have:=eN k;omega⟩
theorem Ih (us k:Int){G:Int→List Int}{ws:List Int}(P:PgW pg st G ws)(hn:ws.length=n):
 (dd us pg st k ws=((0,false),ws)) ∨
 ∃(a:Int) (G2:Int→List Int) (X:List Int),dd us pg st k ws=((a,true),X)∧PgW pg st G2 X∧lA pg st ws X∧0≤k∧k≤4∧tkC us pg st ws a=none∧tkC us pg st X a=some k∧(∀b,b≠a→tkC us pg st X b=tkC us pg st ws b)∧us≤a∧a<us+32 * pg∧(a-us) % szV k=0:=by
 rcases H8 H us k P hn with e|⟨q,j,f,G2,X,hq,k0,k4,hj,hb,e,Q,hp,hw⟩
 ·exact .inl e
 have hin:=zr H k0 k4 hj
 have T:=EV H us k P hn
 rw[e] at T
 have hp1:=fun p h=>(hp p h).1
 have hp3:=fun p h=>(hp p h).2.2
 have hkq:=hp1 q hq;rw[if_pos rfl] at hkq
 have hbq:=hp3 q hq;rw[if_pos rfl] at hbq
 have hfree:aZ pg st ws q=k+1∨(aZ pg st ws q=0∧∀i:Int,eG (c8 pg st ws q) i=false):=by
  rcases hw with⟨w1,_⟩|⟨w1,_⟩
  ·exact .inl w1
  ·exact .inr ⟨w1,fun i=>by rw[(P.f.free q hq w1).2];simp[eG,mn]⟩
 obtain⟨kz,kz1,kz2⟩:=szj k0 k4 hj
 have hqq:=ay.1 hq
 refine .inr ⟨us+32 * q+j * szV k,G2,X,e,Q,T,k0,k4,?_,?_,fun b hne=>?_,by omega,by omega,?_⟩
 ·cases z:tkC us pg st ws (us+32 * q+j * szV k) with
  |none=>rfl
  |some k' =>
   obtain⟨q',j',hq',k0',k4',hj',ek,hb',ha⟩:=(jo H P).1 z
   obtain rfl:=zp H hq hq' k0 k4 k0' k4' hj hj' ha
   rcases hfree with w|⟨_,w⟩
   ·have:k'=k:=by omega
    subst this
    obtain⟨_,rfl⟩:=zo H hq hq k0 k4 hj hj' ha
    rw[hb] at hb';cases hb'
   ·rw[w] at hb';cases hb'
 ·exact(jo H Q).2 ⟨q,j,hq,k0,k4,hj,hkq,by rw[hbq];exact JK hin,rfl⟩
 ·apply Option.ext
  intro c
  rw[jo H Q,jo H P]
  constructor
  ·rintro⟨q',j',hq',c0,c4,hj',ek,hb',rfl⟩
   rw[hp1 q' hq'] at ek
   rw[hp3 q' hq'] at hb'
   by_cases z:q'=q
   ·subst z
    rw[if_pos rfl] at ek hb'
    have:c=k:=by omega
    subst this
    have nj:j'≠j:=fun y=>hne (by rw[y])
    rw[nK hin (by omega)] at hb'
    rcases hfree with w|⟨_,w⟩
    ·exact⟨q',j',hq',c0,c4,hj',by omega,hb',rfl⟩
    ·rw[w] at hb';cases hb'
   ·rw[if_neg z] at ek hb'
    exact⟨q',j',hq',c0,c4,hj',ek,hb',rfl⟩
  ·rintro⟨q',j',hq',c0,c4,hj',ek,hb',rfl⟩
   refine⟨q',j',hq',c0,c4,hj',?_,?_,rfl⟩
   ·rw[hp1 q' hq']
    by_cases z:q'=q
    ·subst z
     rcases hfree with w|⟨_,w⟩
     ·rw[if_pos rfl];omega
     ·rw[w] at hb';cases hb'
    ·rw[if_neg z];exact ek
   ·rw[hp3 q' hq']
    by_cases z:q'=q
    ·subst z
     rw[if_pos rfl]
     rcases hfree with w|⟨_,w⟩
     ·have:c=k:=by omega
      subst this
      have nj:j'≠j:=fun y=>hne (by rw[y])
      rw[nK hin (by omega)];exact hb'
     ·rw[w] at hb';cases hb'
    ·rw[if_neg z];exact hb'
 ·have e1:us+32 * q+j * szV k-us=32 * q+j * szV k:=by omega
  rw[e1,Int.add_emod,Int.mul_emod_left,Int.add_zero,Int.emod_emod_of_dvd _ (Int.dvd_refl _)]
  have:(32:Int) * q % szV k=0:=Ic k0 k4 kz q
  exact this
theorem Ii (us:Int){a k:Int}{G:Int→List Int}{ws:List Int}(P:PgW pg st G ws)(hn:ws.length=n)(ho:OkW ws)(h:tkC us pg st ws a=some k):
 ∃(G2:Int→List Int) (X:List Int),gQ us pg st a ws=(true,X)∧PgW pg st G2 X∧lA pg st ws X∧tkC us pg st X a=none∧(∀b,b≠a→tkC us pg st X b=tkC us pg st ws b):=by
 have h0:=h
 unfold tkC at h0
 cases hx:gi (fN us pg st a ws) with
 |none=>rw[hx] at h0;cases h0
 |some x =>
  obtain⟨q,k',i⟩:=x
  rw[hx] at h0
  simp at h0
  subst h0
  have T:=EW H us a P hn ho
  obtain⟨hq,ek,k0,k4,i0,i1,ht,ha⟩:=tD H P.f (gX hx)
  obtain⟨j,rfl⟩:∃j:Nat,i=j:=⟨i.toNat,by omega⟩
  have hin:=zr H k0 k4 i1
  obtain⟨G2,X,e,Q,hp⟩:=Ia H us P hn ho hx
  rw[e] at T
  have hc:=P.f.cnt q hq (by omega)
  rw[ek,show k'+1-1=k' by omega] at hc
  have ht:=ht.symm
  refine⟨G2,X,e,Q,T,?_,fun b hne=>?_⟩
  ·cases z:tkC us pg st X a with
   |none=>rfl
   |some c =>
    obtain⟨q',j',hq',c0,c4,hj',ek',hb',ha'⟩:=(jo H Q).1 z
    obtain rfl:=zp H hq hq' k0 k4 c0 c4 i1 hj' (ha.symm.trans ha')
    obtain⟨p1,_,p3⟩:=hp q hq
    rw[if_pos rfl] at p1 p3
    by_cases he:cG pg st ws q+1=aw k'
    ·rw[if_pos he] at p1;omega
    ·rw[if_neg he] at p1 p3
     have:c=k':=by omega
     subst this
     obtain⟨_,rfl⟩:=zo H hq hq k0 k4 i1 hj' (ha.symm.trans ha')
     rw[p3,vr hin] at hb'
     cases hb'
  ·apply Option.ext
   intro c
   rw[jo H Q,jo H P]
   constructor
   ·rintro⟨q',j',hq',c0,c4,hj',ek',hb',rfl⟩
    obtain⟨p1,_,p3⟩:=hp q' hq'
    by_cases z:q'=q
    ·subst z
     rw[if_pos rfl] at p1 p3
     by_cases he:cG pg st ws q'+1=aw k'
     ·rw[if_pos he] at p1;omega
     ·rw[if_neg he] at p1 p3
      have:c=k':=by omega
      subst this
      have nj:j'≠j:=fun y=>hne (by rw[y,ha])
      rw[p3,lw hin (by omega)] at hb'
      exact⟨q',j',hq',c0,c4,hj',ek,hb',rfl⟩
    ·rw[if_neg z] at p1 p3
     exact⟨q',j',hq',c0,c4,hj',by rw[←p1];exact ek',by rw[←p3];exact hb',rfl⟩
   ·rintro⟨q',j',hq',c0,c4,hj',ek',hb',rfl⟩
    obtain⟨p1,_,p3⟩:=hp q' hq'
    refine⟨q',j',hq',c0,c4,hj',?_,?_,rfl⟩
    all_goals by_cases z:q'=q
    ·subst z
     have:c=k':=by omega
     subst this
     have nj:j'≠j:=fun y=>hne (by rw[y,ha])
     rw[if_pos rfl] at p1
     by_cases he:cG pg st ws q'+1=aw c
     ·exact absurd (Dg (by omega) i1 hj' ht hb') (fun y=>nj y.symm)
     ·rw[if_neg he] at p1;exact p1
    ·rw[if_neg z] at p1;rw[p1];exact ek'
    ·subst z
     have:c=k':=by omega
     subst this
     have nj:j'≠j:=fun y=>hne (by rw[y,ha])
     rw[if_pos rfl] at p3
     by_cases he:cG pg st ws q'+1=aw c
     ·exact absurd (Dg (by omega) i1 hj' ht hb') (fun y=>nj y.symm)
     ·rw[if_neg he] at p3
      rw[p3,lw hin (by omega)];exact hb'
    ·rw[if_neg z] at p3;rw[p3];exact hb'
theorem EY (us a:Int):tkC us pg st (cO n) a=none:=by
 have P:=vG H
 cases z:tkC us pg st (cO n) a with
 |none=>rfl
 |some k =>
  obtain⟨q,j,hq,k0,k4,hj,ek,_⟩:=(jo H P).1 z
  have hz:∀i:Int,wAt (cO n) i=0:=fun i=>by
   unfold wAt cO
   simp only[List.getD,List.getElem?_replicate]
   split<;>rfl
  unfold aZ at ek
  rw[if_pos hq,hz] at ek
  omega
theorem Ij {us a k:Int}{G:Int→List Int}{ws:List Int}(P:PgW pg st G ws)(h:tkC us pg st ws a=some k):us≤a∧a<us+32 * pg∧0≤k∧k≤4∧(a-us) % szV k=0∧aw k≠0:=by
 obtain⟨q,j,hq,k0,k4,hj,_,_,rfl⟩:=(jo H P).1 h
 obtain⟨kz,kz1,kz2⟩:=szj k0 k4 hj
 have hqq:=ay.1 hq
 refine⟨by omega,by omega,k0,k4,?_,by omega⟩
 have e1:us+32 * q+j * szV k-us=32 * q+j * szV k:=by omega
 rw[e1,Int.add_emod,Int.mul_emod_left,Int.add_zero,Int.emod_emod_of_dvd _ (Int.dvd_refl _)]
 exact Ic k0 k4 kz q
end
structure d8 (b l:Int)(n:Nat):Prop where
 b1:1≤b
 l0:0≤l
 hi:b+l<n
 top:n≤10000
def a8 (l y:Int):Int:=if 0≤y∧y≤l then y else 0
def jG (b l:Int):Prg Int:=ar (cW b) fun y=>aA (a8 l y)
def dv (b l k:Int):Int:=if k<0∨l≤k then 0 else b+1+k
def jU (up:Bool)(b l:Int):Prg (Int×Int):=ar (jG b l) fun n=>aA (n,dv b l (if up then n else n-1))
def jH (b l x:Int):Prg Bool:=ar (jU true b l) fun p=>if p.2=0 then aA false else ar (cP p.2 x) fun _=>ar (cP b (p.1+1)) fun _=>aA true
def ed (b l:Int):Prg (Int×Bool):=ar (jU false b l) fun p=>if p.2=0 then aA (0,false) else ar (cW p.2) fun y=>ar (cP b (p.1-1)) fun _=>aA (y,true)
theorem kj {l y:Int}(h:0≤l):0≤a8 l y∧a8 l y≤l:=by unfold a8;split<;>omega
theorem py (b l:Int):bH (jG b l):=aq (dA b) fun _=>ai _
theorem gn {b l:Int}{n:Nat}(H:d8 b l n):bV n (fun x=>0≤x∧x≤l) (jG b l):=
 au (bu n (by have:=H.hi;have:=H.l0;omega)) fun y _=>aj n (kj H.l0)
theorem qU (up:Bool)(b l:Int):bH (jU up b l):=aq (py b l) fun _=>ai _
def Oe (b l:Int)(p:Int×Int):Prop:=0≤p.1∧p.1≤l∧(p.2=0∨(b+1≤p.2∧p.2≤b+l))
theorem Ik (b l k:Int):dv b l k=0∨(b+1≤dv b l k∧dv b l k≤b+l):=by unfold dv;split<;>omega
theorem kW {b l:Int}{n:Nat}(H:d8 b l n)(up:Bool):bV n (Oe b l) (jU up b l):=
 au (gn H) fun y hy=>aj n ⟨hy.1,hy.2,Ik b l _⟩
theorem xn (b l x:Int):bH (jH b l x):=
 aq (qU true b l) fun _=>aL (ai _) (aq (cX _ _) fun _=>aq (cX _ _) fun _=>ai _)
theorem zt {b l x:Int}{n:Nat}(H:d8 b l n)(hx:W64 x):bV n (fun _=>True) (jH b l x):=by
 have hh:=H.hi;have ht:=H.top;have h1:=H.b1;have h0:=H.l0
 refine au (kW H true) fun p hp=>?_
 obtain⟨q0,q1,q2⟩:=hp
 split
 ·exact aj n trivial
 ·rename_i q3
  have q4:=q2.resolve_left q3
  exact au (aV n (by unfold W64;omega) (by omega) hx) fun _ _=>au (aV n (by unfold W64;omega) (by omega) (by unfold W64;omega)) fun _ _=>aj n trivial
theorem qV (b l:Int):bH (ed b l):=
 aq (qU false b l) fun _=>aL (ai _) (aq (dA _) fun _=>aq (cX _ _) fun _=>ai _)
theorem gY {b l:Int}{n:Nat}(H:d8 b l n):bV n (fun p=>W64 p.1) (ed b l):=by
 have hh:=H.hi;have ht:=H.top;have h1:=H.b1;have h0:=H.l0
 refine au (kW H false) fun p hp=>?_
 obtain⟨q0,q1,q2⟩:=hp
 split
 ·exact aj n (by unfold W64;constructor<;>decide)
 ·rename_i q3
  have q4:=q2.resolve_left q3
  exact au (bu n (by omega)) fun y hy=>au (aV n (by unfold W64;omega) (by omega) (by unfold W64;omega)) fun _ _=>aj n hy
def cK (b l x:Int)(ws:List Int):Bool×List Int :=
 let n:=a8 l (wAt ws b)
 if n<l then(true,(ws.set (b+1+n).toNat x).set b.toNat (n+1)) else(false,ws)
def bb (b l:Int)(ws:List Int):(Int×Bool)×List Int :=
 let n:=a8 l (wAt ws b)
 if 0<n then((wAt ws (b+n),true),ws.set b.toNat (n-1)) else((0,false),ws)
theorem qW {b l:Int}{n:Nat}(H:d8 b l n):bR n (jG b l) (fun ws=>(a8 l (wAt ws b),ws)):=
 aD (dY (by have:=H.b1;omega) (by have:=H.hi;have:=H.l0;omega)) fun _=>ax n _
theorem tF {b l:Int}{n:Nat}(H:d8 b l n)(up:Bool):bR n (jU up b l) (fun ws=>((a8 l (wAt ws b),dv b l (if up then a8 l (wAt ws b) else a8 l (wAt ws b)-1)),ws)):=
 aD (qW H) fun _=>ax n _
theorem qX {b l x:Int}{n:Nat}(H:d8 b l n)(hx:W64 x):bR n (jH b l x) (cK b l x):=fun zs D hn hz hD=>by
 have hh:=H.hi;have ht:=H.top;have h1:=H.b1;have h0:=H.l0
 obtain⟨D1,e1,a1,i1⟩:=tF H true zs D hn hz hD
 have hk:=kj (y:=wAt (cj zs D) b) h0
 unfold jH
 rw[ak e1]
 unfold cK
 simp only[if_true] at *
 by_cases q:a8 l (wAt (cj zs D) b)<l
 ·have e:dv b l (a8 l (wAt (cj zs D) b))=b+1+a8 l (wAt (cj zs D) b):=by unfold dv;rw[if_neg (by omega)]
  rw[e] at e1⊢
  rw[if_pos q,if_neg (by omega)]
  generalize a8 l (wAt (cj zs D) b)=m at *
  obtain⟨D2,e2,a2,i2⟩:=df (n:=n) (a:=b+1+m) (x:=x) (by omega) (by omega) (by unfold W64;omega) hx zs D1 hn hz i1
  obtain⟨D3,e3,a3,i3⟩:=df (n:=n) (a:=b) (x:=m+1) (by omega) (by omega) (by unfold W64;omega) (by unfold W64;omega) zs D2 hn hz i2
  rw[ak e2,ak e3]
  exact⟨D3,rfl,by rw[a3,a2,a1],i3⟩
 ·have e:dv b l (a8 l (wAt (cj zs D) b))=0:=by unfold dv;rw[if_pos (by omega)]
  rw[e] at e1⊢
  rw[if_neg q,if_pos rfl]
  exact⟨D1,rfl,a1,i1⟩
theorem oq {b l:Int}{n:Nat}(H:d8 b l n):bR n (ed b l) (bb b l):=fun zs D hn hz hD=>by
 have hh:=H.hi;have ht:=H.top;have h1:=H.b1;have h0:=H.l0
 obtain⟨D1,e1,a1,i1⟩:=tF H false zs D hn hz hD
 have hk:=kj (y:=wAt (cj zs D) b) h0
 unfold ed
 rw[ak e1]
 unfold bb
 simp only[Bool.false_eq_true,if_false] at *
 by_cases q:0<a8 l (wAt (cj zs D) b)
 ·have e:dv b l (a8 l (wAt (cj zs D) b)-1)=b+a8 l (wAt (cj zs D) b):=by unfold dv;rw[if_neg (by omega)];omega
  rw[e] at e1⊢
  rw[if_pos q,if_neg (by omega)]
  generalize a8 l (wAt (cj zs D) b)=m at *
  obtain⟨D2,e2,a2,i2⟩:=dY (n:=n) (a:=b+m) (by omega) (by omega) zs D1 hn hz i1
  obtain⟨D3,e3,a3,i3⟩:=df (n:=n) (a:=b) (x:=m-1) (by omega) (by omega) (by unfold W64;omega) (by unfold W64;omega) zs D2 hn hz i2
  rw[ak e2,ak e3]
  refine⟨D3,?_,by rw[a3,a2,a1],i3⟩
  rw[a1]
  rfl
 ·have e:dv b l (a8 l (wAt (cj zs D) b)-1)=0:=by unfold dv;rw[if_pos (by omega)]
  rw[e] at e1⊢
  rw[if_neg q,if_pos rfl]
  exact⟨D1,rfl,a1,i1⟩
structure gF (ws:List Int)(b l:Int)(xs:List Int):Prop where
 cnt:wAt ws b=xs.length
 fit:(xs.length:Int)≤l
 at':∀j:Nat,j<xs.length→wAt ws (b+1+j)=xs.getD j 0
theorem gF.kept {ws:List Int}{b l:Int}{xs:List Int}(h:gF ws b l xs):a8 l (wAt ws b)=xs.length:=by
 rw[h.cnt];unfold a8;rw[if_pos ⟨by omega,h.fit⟩]
theorem qq (xs:List Int)(x:Int)(j:Nat):(xs++ [x]).getD j 0=if j=xs.length then x else xs.getD j 0:=by
 by_cases e:j=xs.length
 ·subst e;simp[List.getD]
 ·rw[if_neg e]
  by_cases q:j<xs.length
  ·simp[List.getD,List.getElem?_append,q]
  ·rw[List.getD,List.getD,List.getElem?_eq_none (show(xs++ [x]).length≤j by simp;omega),List.getElem?_eq_none (show xs.length≤j by omega)]
theorem gF.push {ws:List Int}{b l x:Int}{xs:List Int}{n:Nat}(h:gF ws b l xs)(H:d8 b l n)(hl:ws.length=n):(cK b l x ws).1=decide ((xs.length:Int)<l)∧(cK b l x ws).2.length=n∧gF (cK b l x ws).2 b l (if(xs.length:Int)<l then xs++ [x] else xs):=by
 have hh:=H.hi;have h1:=H.b1;have h0:=H.l0
 have hk:=h.kept
 unfold cK
 simp only[hk]
 by_cases q:(xs.length:Int)<l
 ·rw[if_pos q,if_pos q]
  refine⟨by simp[q],by simp[hl],?_,by simp;omega,fun j hj=>?_⟩
  ·show wAt ((ws.set _ _).set b.toNat _) b=_
   rw[dI (by omega) (by omega) (by simp;omega),if_pos rfl];simp
  ·show wAt ((ws.set _ _).set b.toNat _) (b+1+j)=_
   rw[dI (by omega) (by omega) (by simp;omega),if_neg (by omega),dI (by omega) (by omega) (by omega),qq]
   by_cases e:j=xs.length
   ·rw[if_pos (by omega),if_pos e]
   ·rw[if_neg (by omega),if_neg e]
    simp at hj
    exact h.at' j (by omega)
 ·rw[if_neg q,if_neg q]
  exact⟨by simp[q],hl,h⟩
theorem gF.pop {ws:List Int}{b l x:Int}{xs:List Int}{n:Nat}(h:gF ws b l (xs++ [x]))(H:d8 b l n)(hl:ws.length=n):(bb b l ws).1=(x,true)∧(bb b l ws).2.length=n∧gF (bb b l ws).2 b l xs:=by
 have hh:=H.hi;have h1:=H.b1;have h0:=H.l0
 have hk:=h.kept
 have hf:=h.fit
 simp at hk hf
 have ha:=h.at' xs.length (by simp)
 rw[qq,if_pos rfl] at ha
 unfold bb
 simp only[hk]
 rw[if_pos (by omega)]
 refine⟨?_,by simp[hl],?_,by omega,fun j hj=>?_⟩
 ·show(wAt ws (b+((xs.length:Int)+1)),true)=_
  rw[show b+((xs.length:Int)+1)=b+1+(xs.length:Int) by omega,ha]
 ·show wAt (ws.set b.toNat _) b=_
  rw[dI (by omega) (by omega) (by omega),if_pos rfl];omega
 ·show wAt (ws.set b.toNat _) (b+1+j)=_
  rw[dI (by omega) (by omega) (by omega),if_neg (by omega),h.at' j (by simp;omega),qq,if_neg (by omega)]
theorem gF.none {ws:List Int}{b l:Int}(h:gF ws b l []):bb b l ws=((0,false),ws):=by
 have hk:=h.kept
 unfold bb
 simp only[hk]
 simp
theorem Il {ws:List Int}{b l x:Int}{n:Nat}(H:d8 b l n)(hl:ws.length=n):(cK b l x ws).2.length=n∧∀i:Int,0≤i→(i<b∨b+l<i)→wAt (cK b l x ws).2 i=wAt ws i:=by
 have hh:=H.hi;have h1:=H.b1;have h0:=H.l0
 have hk:=kj (y:=wAt ws b) h0
 unfold cK
 simp only
 split
 ·refine⟨by simp[hl],fun i hi ho=>?_⟩
  show wAt ((ws.set _ _).set b.toNat _) i=_
  rw[dI (by omega) (by omega) (by simp;omega),if_neg (by omega),dI (by omega) (by omega) (by omega),if_neg (by omega)]
 ·exact⟨hl,fun i _ _=>rfl⟩
theorem J8 {ws:List Int}{b l:Int}{n:Nat}(H:d8 b l n)(hl:ws.length=n):(bb b l ws).2.length=n∧∀i:Int,0≤i→(i<b∨b+l<i)→wAt (bb b l ws).2 i=wAt ws i:=by
 have hh:=H.hi;have h1:=H.b1;have h0:=H.l0
 unfold bb
 simp only
 split
 ·refine⟨by simp[hl],fun i hi ho=>?_⟩
  show wAt (ws.set b.toNat _) i=_
  rw[dI (by omega) (by omega) (by omega),if_neg (by omega)]
 ·exact⟨hl,fun i _ _=>rfl⟩
structure Fam where
 m:Nat
 b:Nat→Int
 l:Nat→Int
 k:Nat→Int
structure Fam.In (S:Fam)(lo:Int)(n:Nat):Prop where
 lo:∀i,i<S.m→lo≤S.b i∧0≤S.l i∧S.b i+S.l i<n
 ap:∀i j,i<j→j<S.m→S.b i+S.l i<S.b j
def de (C:Nat→List Int)(i:Nat)(xs:List Int):Nat→List Int:=fun j=>if j=i then xs else C j
theorem eO (C:Nat→List Int)(i:Nat):de C i (C i)=C:=by funext j;unfold de;split<;>simp_all
theorem kX (C:Nat→List Int)(i:Nat)(xs ys:List Int):de (de C i xs) i ys=de C i ys:=by funext j;unfold de;split<;>rfl
def ee (S:Fam)(C:Nat→List Int):Nat→List (Int×Int)
 | 0=> []
 |m+1=>ee S C m++(C m).map fun a=>(a,S.k m)
theorem ou (S:Fam)(C:Nat→List Int)(i:Nat)(xs:List Int):∀m,m≤i→ee S (de C i xs) m=ee S C m
 | 0,_=>rfl
 |m+1,h=>by
  rw[ee,ee,ou S C i xs m (by omega)]
  have:de C i xs m=C m:=by unfold de;rw[if_neg (by omega)]
  rw[this]
theorem kl (S:Fam)(C:Nat→List Int)(i:Nat)(xs:List Int)(x:Int):∀m,i<m→(ee S (de C i (xs++ [x])) m).Perm ((x,S.k i)::ee S (de C i xs) m)
 | 0,h=>by omega
 |m+1,h=>by
  rw[ee,ee]
  by_cases e:m=i
  ·subst e
   rw[ou S C m _ m (Nat.le_refl _),ou S C m _ m (Nat.le_refl _)]
   have e1:de C m (xs++ [x]) m=xs++ [x]:=by unfold de;rw[if_pos rfl]
   have e2:de C m xs m=xs:=by unfold de;rw[if_pos rfl]
   rw[e1,e2,List.map_append,←List.append_assoc]
   exact List.perm_append_comm
  ·have e1:de C i (xs++ [x]) m=de C i xs m:=by unfold de;rw[if_neg e,if_neg e]
   rw[e1]
   exact(kl S C i xs x m (by omega)).append_right _
structure FrI (us pg st:Int)(n:Nat)(S:Fam)(ws:List Int)(C:Nat→List Int)(O:List (Int×Int)):Prop where
 len:ws.length=n
 ok:OkW ws
 pgs:∃G,PgW pg st G ws
 keeps:∀i,i<S.m→gF ws (S.b i) (S.l i) (C i)
 nodup:((O++ee S C S.m).map (·.1)).Nodup
 acc:∀a k,tkC us pg st ws a=some k↔(a,k)∈O++ee S C S.m
theorem FrI.perm {us pg st:Int}{n:Nat}{S:Fam}{ws:List Int}{C:Nat→List Int}{O O':List (Int×Int)}(h:FrI us pg st n S ws C O)(p:O.Perm O'):FrI us pg st n S ws C O' :=
 ⟨h.len,h.ok,h.pgs,h.keeps,((p.append_right _).map _).nodup_iff.1 h.nodup,fun a k=>(h.acc a k).trans (p.append_right _).mem_iff⟩
theorem gF.off {ws ws':List Int}{b l:Int}{xs:List Int}(h:gF ws b l xs)(o:∀i:Int,b≤i→i≤b+l→wAt ws' i=wAt ws i):gF ws' b l xs:=by
 have hf:=h.fit
 exact⟨by rw[o b (by omega) (by omega)];exact h.cnt,h.fit,fun j hj=>by rw[o _ (by omega) (by omega)];exact h.at' j hj⟩
section
variable {us pg st:Int}{n:Nat}{S:Fam}(H:cH pg st n)(hS:S.In (bz st pg+62) n)(hn:n≤10000)
include H hS hn
theorem Br {i:Nat}(hi:i<S.m):d8 (S.b i) (S.l i) n:=by
 have h1:=H.st1;have h4:=H.pg1
 have hc:0≤aO pg:=by unfold aO;omega
 have ht:0≤bd st:=by unfold bd;omega
 obtain⟨a1,a2,a3⟩:=hS.lo i hi
 exact⟨by unfold bz at a1;omega,a2,a3,hn⟩
theorem tG {ws ws':List Int}(T:lA pg st ws ws'){C:Nat→List Int}(h:∀i,i<S.m→gF ws (S.b i) (S.l i) (C i)):∀i,i<S.m→gF ws' (S.b i) (S.l i) (C i):=fun i hi =>
 (h i hi).off fun j h1 h2=>T.off j (by have:=(hS.lo i hi).1;omega)
theorem FrI.grab {ws:List Int}{C:Nat→List Int}{O:List (Int×Int)}(h:FrI us pg st n S ws C O)(k:Int):
 dd us pg st k ws=((0,false),ws)∨∃a X,dd us pg st k ws=((a,true),X)∧0≤k∧k≤4∧us≤a∧a<us+32 * pg∧(a-us) % szV k=0∧FrI us pg st n S X C ((a,k)::O):=by
 obtain⟨G,P⟩:=h.pgs
 rcases Ih H us k P h.len with e|⟨a,G2,X,e,Q,T,k0,k4,n0,n1,no,a0,a1,a2⟩
 ·exact .inl e
 ·have hw:=pq H (qn H us k) h.len h.ok
  rw[e] at hw
  refine .inr ⟨a,X,e,k0,k4,a0,a1,a2,hw.2,hw.1,⟨G2,Q⟩,tG H hS hn T h.keeps,?_,fun b c=>?_⟩
  ·rw[List.cons_append,List.map_cons,List.nodup_cons]
   refine⟨fun z=>?_,h.nodup⟩
   obtain⟨⟨a',c⟩,hc,rfl⟩:=List.mem_map.1 z
   have:=(h.acc a' c).2 hc
   rw[n0] at this;cases this
  ·rw[List.cons_append,List.mem_cons]
   by_cases z:b=a
   ·subst z
    rw[n1]
    constructor
    ·intro q;cases q;exact .inl rfl
    ·rintro(q|q)
     ·cases q;rfl
     ·have:=(h.acc b c).2 q
      rw[n0] at this;cases this
   ·rw[no b z,h.acc b c]
    exact⟨.inr,fun q=>q.resolve_left fun y=>z (by cases y;rfl)⟩
theorem FrI.back {ws:List Int}{C:Nat→List Int}{O:List (Int×Int)}{a k:Int}(h:FrI us pg st n S ws C ((a,k)::O)):
 ∃X,gQ us pg st a ws=(true,X)∧FrI us pg st n S X C O:=by
 obtain⟨G,P⟩:=h.pgs
 have ht:tkC us pg st ws a=some k:=(h.acc a k).2 (by simp)
 obtain⟨G2,X,e,Q,T,n0,no⟩:=Ii H us P h.len h.ok ht
 have hw:=pq H (vF H us a) h.len h.ok
 rw[e] at hw
 have hnd:=h.nodup
 rw[List.cons_append,List.map_cons,List.nodup_cons] at hnd
 refine⟨X,e,hw.2,hw.1,⟨G2,Q⟩,tG H hS hn T h.keeps,hnd.2,fun b c=>?_⟩
 by_cases z:b=a
 ·subst z
  rw[n0]
  refine⟨(fun q=>by cases q),fun q=>?_⟩
  exact absurd (List.mem_map.2 ⟨(b,c),q,rfl⟩) hnd.1
 ·rw[no b z,h.acc b c,List.cons_append,List.mem_cons]
  exact⟨fun q=>q.resolve_left fun y=>z (by cases y;rfl),.inr⟩
theorem FrI.turn {ws X:List Int}{C:Nat→List Int}{O O':List (Int×Int)}(h:FrI us pg st n S ws C O){i:Nat}(hi:i<S.m)(hX:X.length=n)(oX:OkW X)(hoff:∀j:Int,0≤j→(j<S.b i∨S.b i+S.l i<j)→wAt X j=wAt ws j){xs:List Int}(hk:gF X (S.b i) (S.l i) xs)(hp:(O++ee S C S.m).Perm (O'++ee S (de C i xs) S.m)):FrI us pg st n S X (de C i xs) O':=by
 obtain⟨G,P⟩:=h.pgs
 have h1:=H.st1;have h4:=H.pg1
 have hc:0≤aO pg:=by unfold aO;omega
 have ht:0≤bd st:=by unfold bd;omega
 have hb:=hS.lo i hi
 have F:tE pg st ws X:=⟨by rw[hX,h.len],fun j h0 hj=>hoff j h0 (.inl (by omega))⟩
 refine⟨hX,oX,⟨G,vH H F P⟩,fun j hj=>?_,(hp.map _).nodup_iff.1 h.nodup,fun a k=>?_⟩
 ·by_cases e:j=i
  ·subst e
   unfold de;rw[if_pos rfl];exact hk
  ·unfold de;rw[if_neg e]
   refine(h.keeps j hj).off fun x x0 x1=>hoff x (by have:=(hS.lo j hj).1;unfold bz at this;omega) ?_
   rcases Nat.lt_or_gt_of_ne e with q|q
   ·have:=hS.ap j i q hi;omega
   ·have:=hS.ap i j q hj;omega
 ·rw[Ig H F P,h.acc a k];exact hp.mem_iff
theorem FrI.pop {ws:List Int}{C:Nat→List Int}{O:List (Int×Int)}(h:FrI us pg st n S ws C O){i:Nat}(hi:i<S.m):
 (C i= []∧bb (S.b i) (S.l i) ws=((0,false),ws))∨∃xs x X,C i=xs++ [x]∧bb (S.b i) (S.l i) ws=((x,true),X)∧FrI us pg st n S X (de C i xs) ((x,S.k i)::O):=by
 have hst:=Br H hS hn hi
 have hk:=h.keeps i hi
 rcases List.eq_nil_or_concat (C i) with e|⟨xs,x,e⟩
 ·rw[e] at hk
  exact .inl ⟨e,hk.none⟩
 ·rw[List.concat_eq_append] at e
  rw[e] at hk
  obtain⟨e1,e2,e3⟩:=hk.pop hst h.len
  obtain⟨_,o2⟩:=J8 hst h.len
  have hw:=pq H (oq hst) h.len h.ok
  refine .inr ⟨xs,x,(bb (S.b i) (S.l i) ws).2,e,by rw[←e1],h.turn H hS hn hi hw.2 hw.1 o2 e3 ?_⟩
  have:=kl S C i xs x S.m hi
  rw[←e,eO] at this
  refine(this.append_left O).trans ?_
  rw[List.cons_append]
  exact List.perm_middle
theorem FrI.push {ws:List Int}{C:Nat→List Int}{O:List (Int×Int)}{i:Nat}{a:Int}(hi:i<S.m)(h:FrI us pg st n S ws C ((a,S.k i)::O))(ha:W64 a):
 (((C i).length:Int)<S.l i∧∃X,cK (S.b i) (S.l i) a ws=(true,X)∧FrI us pg st n S X (de C i (C i++ [a])) O)∨(S.l i≤((C i).length:Int)∧cK (S.b i) (S.l i) a ws=(false,ws)):=by
 have hst:=Br H hS hn hi
 have hk:=h.keeps i hi
 obtain⟨e1,e2,e3⟩:=hk.push (x:=a) hst h.len
 obtain⟨_,o2⟩:=Il (x:=a) hst h.len
 by_cases hl:((C i).length:Int)<S.l i
 ·rw[if_pos hl] at e3
  have hw:=pq H (qX hst ha) h.len h.ok
  refine .inl ⟨hl,(cK (S.b i) (S.l i) a ws).2,?_,h.turn H hS hn hi hw.2 hw.1 o2 e3 ?_⟩
  ·have:(cK (S.b i) (S.l i) a ws).1=true:=by rw[e1];simpa using hl
   rw[←this]
  ·have:=kl S C i (C i) a S.m hi
   rw[eO] at this
   refine List.Perm.trans ?_ (this.append_left O).symm
   rw[List.cons_append]
   exact List.perm_middle.symm
 ·refine .inr ⟨by omega,?_⟩
  have hk2:=hk.kept
  have hf:=hk.fit
  unfold cK
  simp only[hk2]
  rw[if_neg hl]
end
def famC (d:Cfg):Fam where
 m:=5 * d.cp.toNat+5
 b:=fun i=>if i<5 * d.cp.toNat then dt d.st d.pg+i * (d.ca+1) else fH d.cp d.pg d.st d.ca+((i:Int)-5 * d.cp) * (d.bi+1)
 l:=fun i=>if i<5 * d.cp.toNat then d.ca else d.bi
 k:=fun i=>(i % 5:Nat)
theorem Bt (d:Cfg)(i:Nat):(famC d).b i=if i<5 * d.cp.toNat then dt d.st d.pg+i * (d.ca+1) else fH d.cp d.pg d.st d.ca+((i:Int)-5 * d.cp) * (d.bi+1):=rfl
theorem Bu (d:Cfg)(i:Nat):(famC d).l i=if i<5 * d.cp.toNat then d.ca else d.bi:=rfl
theorem iX {d:Cfg}{u c:Nat}(hu:(u:Int)<d.cp)(hc:c<5):5 * u+c<(famC d).m∧(famC d).b (5 * u+c)=nU d.cp d.pg d.st d.ca u c∧(famC d).l (5 * u+c)=d.ca∧(famC d).k (5 * u+c)=c:=by
 have h:5 * u+c<5 * d.cp.toNat:=by omega
 refine⟨by show _<5 * d.cp.toNat+5;omega,?_,?_,?_⟩
 ·show(if _ then _ else _)=_
  rw[if_pos h]
  unfold nU
  rw[if_pos (by omega)]
  simp
 ·show(if _ then _ else _)=_
  rw[if_pos h]
 ·show(((5 * u+c) % 5:Nat):Int)=_
  omega
theorem ni {d:Cfg}{c:Nat}(hp:0≤d.cp)(hc:c<5):5 * d.cp.toNat+c<(famC d).m∧(famC d).b (5 * d.cp.toNat+c)=Dz d.cp d.pg d.st d.ca d.bi c∧(famC d).l (5 * d.cp.toNat+c)=d.bi∧(famC d).k (5 * d.cp.toNat+c)=c:=by
 have h:¬(5 * d.cp.toNat+c<5 * d.cp.toNat):=by omega
 refine⟨by show _<5 * d.cp.toNat+5;omega,?_,?_,?_⟩
 ·show(if _ then _ else _)=_
  rw[if_neg h]
  unfold Dz
  rw[if_pos (by omega)]
  congr 2
  omega
 ·show(if _ then _ else _)=_
  rw[if_neg h]
 ·show(((5 * d.cp.toNat+c) % 5:Nat):Int)=_
  omega
theorem ow {d:Cfg}(R:d.Ok){n:Nat}(hn:(n:Int)=d.words):(famC d).In (bz d.st d.pg+62) n:=by
 have h1:=R.cp1;have h2:=R.ca1;have h3:=R.bi1
 have hl:=rT R;have hu:=oL R;have hp:=R.pg1
 have hcp:((d.cp.toNat:Nat):Int)=d.cp:=by omega
 have top:eK d.cp d.pg d.st d.ca d.bi<n:=by
  rw[hn]
  show _<eR d.cp d.pg d.st d.ca d.bi
  unfold eR
  omega
 have p5:=pM R
 -- steps of the caches,and of the bins
 have s1:∀i:Nat,i<5 * d.cp.toNat→(i:Int) * (d.ca+1)+d.ca+1≤5 * d.cp * (d.ca+1)∧0≤(i:Int) * (d.ca+1):=fun i hi=>by
  have:((i:Int)+1) * (d.ca+1)≤5 * d.cp * (d.ca+1):=Int.mul_le_mul_of_nonneg_right (by omega) (by omega)
  have e:((i:Int)+1) * (d.ca+1)=(i:Int) * (d.ca+1)+d.ca+1:=by rw[Int.add_mul];omega
  exact⟨by omega,Int.mul_nonneg (by omega) (by omega)⟩
 have s2:∀j:Int,0≤j→j<5→j * (d.bi+1)+d.bi+1≤5 * (d.bi+1)∧0≤j * (d.bi+1):=fun j h0 hj=>by
  have:(j+1) * (d.bi+1)≤5 * (d.bi+1):=Int.mul_le_mul_of_nonneg_right (by omega) (by omega)
  have e:(j+1) * (d.bi+1)=j * (d.bi+1)+d.bi+1:=by rw[Int.add_mul];omega
  exact⟨by omega,Int.mul_nonneg (by omega) (by omega)⟩
 refine⟨fun i hi=>?_,fun i j hij hj=>?_⟩
 ·have hi:i<5 * d.cp.toNat+5:=hi
  rw[Bt,Bu]
  by_cases q:i<5 * d.cp.toNat
  ·rw[if_pos q,if_pos q]
   obtain⟨a,b⟩:=s1 i q
   unfold eK fH at top
   unfold dt at *
   refine⟨by omega,h2,by omega⟩
  ·rw[if_neg q,if_neg q]
   obtain⟨a,b⟩:=s2 ((i:Int)-5 * d.cp) (by omega) (by omega)
   unfold eK at top
   have:dt d.st d.pg≤fH d.cp d.pg d.st d.ca:=by unfold fH;omega
   have e:dt d.st d.pg=bz d.st d.pg+62:=rfl
   refine⟨by omega,h3,by omega⟩
 ·have hj:j<5 * d.cp.toNat+5:=hj
  rw[Bt,Bu,Bt]
  by_cases q:j<5 * d.cp.toNat
  ·have qi:i<5 * d.cp.toNat:=by omega
   rw[if_pos qi,if_pos qi,if_pos q]
   have:((i:Int)+1) * (d.ca+1)≤(j:Int) * (d.ca+1):=Int.mul_le_mul_of_nonneg_right (by omega) (by omega)
   have e:((i:Int)+1) * (d.ca+1)=(i:Int) * (d.ca+1)+d.ca+1:=by rw[Int.add_mul];omega
   omega
  ·rw[if_neg q]
   by_cases qi:i<5 * d.cp.toNat
   ·rw[if_pos qi,if_pos qi]
    obtain⟨a,b⟩:=s1 i qi
    obtain⟨c1,c2⟩:=s2 ((j:Int)-5 * d.cp) (by omega) (by omega)
    unfold fH
    omega
   ·rw[if_neg qi,if_neg qi]
    have:((i:Int)-5 * d.cp+1) * (d.bi+1)≤((j:Int)-5 * d.cp) * (d.bi+1):=Int.mul_le_mul_of_nonneg_right (by omega) (by omega)
    have e:((i:Int)-5 * d.cp+1) * (d.bi+1)=((i:Int)-5 * d.cp) * (d.bi+1)+d.bi+1:=by rw[Int.add_mul];omega
    omega
theorem EZ {d:Cfg}(R:d.Ok){n:Nat}(H:cH d.pg d.st n)(hn:(n:Int)=d.words)(us:Int):FrI us d.pg d.st n (famC d) (cO n) (fun _=> []) []:=by
 have hk:∀m,ee (famC d) (fun _=> []) m= []:=by
  intro m
  induction m with
  |zero=>rfl
  |succ m ih=>rw[ee,ih];rfl
 have hz:∀i:Int,wAt (cO n) i=0:=fun i=>by
  unfold wAt cO
  simp only[List.getD,List.getElem?_replicate]
  split<;>rfl
 refine⟨j1 n,ge n,⟨_,vG H⟩,fun i hi=>⟨by rw[hz];rfl,((ow R hn).lo i hi).2.1,fun j hj=>by simp at hj⟩,by rw[hk];exact List.nodup_nil,fun a k=>?_⟩
 rw[hk,EY H us a]
 exact⟨(fun q=>by cases q),(fun q=>by cases q)⟩
end Go.Proofs.YtddmeghbmdfgeaaGreatDoor
