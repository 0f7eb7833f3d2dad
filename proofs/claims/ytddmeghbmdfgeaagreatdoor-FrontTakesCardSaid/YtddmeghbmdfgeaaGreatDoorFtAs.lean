/-
  Layer 14's statement that a block is told just if one can be.
-/
import Derived.Test.YtddmeghbmdfgeaaGreatDoorFtAr
import Derived.Test.YtddmeghbmdfgeaaGreatDoorFtAa
import Derived.ProofKit
import Derived.Deep.Fields
set_option maxRecDepth 100000
set_option maxHeartbeats 8000000
set_option linter.all false
namespace Go.Proofs.YtddmeghbmdfgeaaGreatDoor
open Go.RowKit Go.Sort Go.Maps Go.Shelf
structure FtR (d:Cfg)(g1 ga gq:Nat)(t b:Bool)(z q:Int)(W:World):Prop where
 st:W.rangeAt g1 0 d.arr.toList
 bt:fR (ga+1) W t
 bb:fR (ga+2) W b
 ba:W.heap[ga]?=some (.cells #[.int .i64 z] 3 (0,0))
 bq:W.heap[gq]?=some (.cells #[.int .i64 q] 3 (0,0))
theorem FtR.more {d:Cfg}{g1 ga gq:Nat}{t b:Bool}{z q:Int}{w W:World}(h:FtR d g1 ga gq t b z q w)(m:ae w W):FtR d g1 ga gq t b z q W:=⟨fun j v hj=>by
 have this:=h.st j v hj
 rw[World.cell?_of_block (w:=w) (Turned.block m _ (block_lt_of_cell this) (fun q=>q))]
 exact this,m.block h.bt,m.block h.bb,m.block h.ba,m.block h.bq⟩
theorem Lz {ops:Array Oper}{C:World→Prop}{o:Oper}{a:Act}{x y:Operand}{u z:Int}(hw:Region.wanted o (yielded ops a.tmps)=true)(ho:o.op=.binOp .geq 3 x y 3)(hx:a.eval x=.int .i64 u)(hy:a.eval y=.int .i64 z)(b:Bool)(hb:decide (z≤u)=b):bM Tryz.prog ops C o (.bool b) a :=
 .inl ⟨hw,fun w _=>by unfold execOp;generalize a.eval=ρ at hx hy⊢;simp only[ho,hx,hy];subst hb;go_simp⟩
theorem kX {P:Program}{ops:Array Oper}{a:Act}{o:Oper}{rest:List Oper}{C:World→Prop}{Q:Act→Prop}(hw:Region.wanted o (yielded ops a.tmps)=true)(ty:TypeId)(x:Operand)(ho:o.op=.load ty x)(b off:Nat)(hx:a.eval x=.pointer (some ⟨b,off,none⟩))(cs:List Value)(d:TypeDesc)(hc:∀W,C W→W.rangeAt b off cs)(hu:P.underlying ty=some d)(hd:d.isRow=true)(hi:(P.info? ty).map (·.size)=some cs.length)(h:wpQuiet P ops C Q rest (a.put o.dst (.agg cs.toArray))):wpQuiet P ops C Q (o::rest) a:=by
 refine ox (.agg cs.toArray) hw (fun W hW=>?_) h
 unfold Oper.quietAt execOp
 simp only[ho,hx,Instr.loadAt,Instr.sureAddr,Sem.run_bind,Sem.run_pure,Result.andThen_ok,run_loadVar_mid W b off ty cs d (hc W hW) hu hd hi]
 exact⟨rfl,rfl⟩
theorem DP (m k:Int)(h1:1≤k)(h2:k≤1000):∃x:Nat,(x:Int)<k∧wrap64 ((IntKind.u64.wrap m).tmod k)=(x:Int)∧IntKind.i64.wrap ((IntKind.u64.wrap m).tmod k)=(x:Int):=by
 have h0:0≤IntKind.u64.wrap m:=by
  have e:IntKind.u64.wrap m=m % 18446744073709551616:=rfl
  omega
 have a1:=Int.tmod_nonneg k h0
 have a2:=Int.tmod_lt_of_pos (IntKind.u64.wrap m) (show 0<k by omega)
 exact⟨((IntKind.u64.wrap m).tmod k).toNat,by omega,by rw[IntWalk.wrap64_in _ (by omega)];omega,by rw[aB (by omega) (by omega)];omega⟩
theorem LD {o:Oper}{a:Act}{w:World}{K:Act→World→Prop}{Q:Exit→Act→World→Prop}{x:Operand}(ho:o.op=.load 3 x)(g:Nat)(hx:a.eval x=.pointer (some ⟨g,0,none⟩))(z:Int)(hb:w.heap[g]?=some (.cells #[.int .i64 z] 3 (0,0)))(h:K (a.put o.dst (.int .i64 z)) w):Oper.wp Tryz.prog o a w K Q:=by
 have hl:(loadVar 3 ⟨g,0,none⟩).run Tryz.prog w=.ok (.int .i64 z) w:=eN Tryz.underlying3 rfl (by simp[World.cell?,hb])
 unfold Oper.wp Oper.upon execOp
 simp only[ho,hx,Instr.loadAt,Instr.sureAddr,Sem.run_bind,Sem.run_pure,Result.andThen_ok,hl]
 exact h
theorem Lm (TT:TkT)(y0 y1 y2 y3 y4 y5 y6 y7 y8 y9 y10:Int)(a:Option Addr)(capl:Nat)(l:List gA)(m0 u0 q:Int)(w:World)(hS:pI w)(f0:(Lit.int .i64 y0).wf=true)(f1:(Lit.int .i64 y1).wf=true)(f2:(Lit.int .i64 y2).wf=true)(f3:(Lit.int .i64 y3).wf=true)(f4:(Lit.int .i64 y4).wf=true)(f5:(Lit.int .i64 y5).wf=true)(f6:(Lit.int .i64 y6).wf=true)(f7:(Lit.int .i64 y7).wf=true)(f8:(Lit.int .i64 y8).wf=true)(f9:(Lit.int .i64 y9).wf=true)(f10:(Lit.int .i64 y10).wf=true)(hl:gC w a l)(ho:Nh l)(hm:l.length≤9223372036854775807)(k0:(Lit.int .i64 m0).wf=true)(k1:(Lit.int .i64 u0).wf=true)(k2:(Lit.int .i64 q).wf=true):
 Calls Tryz.prog 6 #[.agg #[.int .i64 y0,.int .i64 y1,.int .i64 y2,.int .i64 y3,.int .i64 y4,.int .i64 y5,.int .i64 y6,.int .i64 y7,.int .i64 y8,.int .i64 y9,.int .i64 y10],.slice a l.length capl,.int .i64 m0,.int .i64 u0,.int .i64 q] w (aQ w (.bool true)):=by
 obtain⟨w2,e2,ha2,hb2,hc2,hd2,m2,hs2⟩:=Mi w (.cells #[.int .i64 y0,.int .i64 y1,.int .i64 y2,.int .i64 y3,.int .i64 y4,.int .i64 y5,.int .i64 y6,.int .i64 y7,.int .i64 y8,.int .i64 y9,.int .i64 y10] 23) (.cells #[.int .i64 m0] 3) (.cells #[.int .i64 u0] 3) (.cells #[.int .i64 q] 3)
 obtain⟨bt,hsz⟩:=hS
 have HSZ:Hq (dh bt w):=hQQ hsz
 have sz0:=HSZ.o.lt0
 have szb:=HSZ.o.lt
 have HM:=hQQ m2
 have HA:=hQQ ha2
 have HB:=hQQ hb2
 have HC:=hQQ hc2
 have HD:=hQQ hd2
 have LIV:=hQQ (CE TT bt)
 clear ha2 hb2 hc2 hd2 hsz
 by_cases hbig:60<l.length
 ·have d0:decide ((60:Int)<(l.length:Int))=true:=by simp;omega
  clear m2 hs2 HA HB HC HD f0 f1 f2 f3 f4 f5 f6 f7 f8 f9 f10 TT
  go_enter Tryz.func6,Tryz.ntmps6
  go_wp2_with fail
  refine(LIV.o _ (HSZ.o.more HM.o)).mono ?_
  rintro e w8 ⟨rfl,h8⟩
  have HM8:=hQQ (HM.o.trans h8)
  clear h8
  go_wp2_with fail
  go_ret
  exact⟨rfl,HM8.o⟩
 ·have d0:decide ((60:Int)<(l.length:Int))=false:=by simp;omega
  obtain⟨d,n,zs,s,S,hn,hlz,hz,Fq9,OKs,AF⟩:=Ll TT y0 y1 y2 y3 y4 y5 y6 y7 y8 y9 y10 f0 f1 f2 f3 f4 f5 f6 f7 f8 f9 f10 l (by omega)
  have wds:=S.words
  have H:=DK S hn
  have hnb:160≤n∧n≤800:=by omega
  have HR:=hQQ S.ok
  have HUS:Hq (0≤d.us):=hQQ (wh S.ok H hn (by omega)).1
  have DO0:=hQQ (fun v fs o ok=>OA S.ok (TT d n bt S.ok H hn (by omega)) zs hlz H hn (by omega) hz Fq9 OKs (v:=v) (fs:=fs) (o:=o) (ok:=ok))
  have HLZ:=hQQ hlz
  have AO:=hQQ (AF.out a capl w2 ⟨bt,HSZ.o.more m2⟩ (hl.more m2))
  have hcp:1≤d.cp∧d.cp≤1000:=⟨S.ok.cp1,by have:=S.ok.cp2;omega⟩
  clear m2 f0 f1 f2 f3 f4 f5 f6 f7 f8 f9 f10 hl ho hm AF S H hn wds Fq9 OKs hz hlz TT
  go_enter Tryz.func6,Tryz.ntmps6
  go_wp2_with (refine sx rfl rfl rfl HA.o (by kernel_rfl) ?_)
  clear e2
  refine AO.o.mono ?_
  rintro e w5 ⟨gz,cz,fs,o,rfl,hwz,hp0,hp1,hrb,hgz,m5,np0,np1⟩
  obtain⟨ao,co,rfl,_⟩:=hrb.reads
  have hz5:=bz w5 (.cells mZ 37)
  obtain⟨cur,hcur⟩:∃cur,(stL (d.arr.toList++ [.slice (some ⟨gz,0,none⟩) n cz]) fs (.slice ao s.O.length co) (.bool true)).toArray=cur:=⟨_,rfl⟩
  obtain⟨w7,e7⟩:∃w7,(w5.alloc (.cells mZ 37)).setRow w5.heap.size cur=w7:=⟨_,rfl⟩
  have hb7:StB w7 w5.heap.size (d.arr.toList++ [.slice (some ⟨gz,0,none⟩) n cz]) fs (.slice ao s.O.length co) (.bool true):=⟨by rw[List.length_append,kV];rfl,by rw[←e7,←hcur];exact setRow_heap _ _ _ _ _ _ hz5⟩
  have m57:ae w5 w7:=by rw[←e7];exact((ae.refl w5).alloc _).setRow _ _ (Nat.le_refl _)
  have SZ:Hq (cur.size=37):=hQQ (by rw[←hcur,List.size_toArray];exact nR hb7.1 _ _ _)
  have AL:Hq (cur.all (·.oneCell')=true):=hQQ (by rw[←hcur];exact Cv _ (xU d _ rfl) (Pu.all1 hp0) (Pu.all1 hp1) hrb.one rfl)
  have y36:=hb7.end36
  obtain⟨xn,hxn,ex,_⟩:=DP m0 2 (by omega) (by omega)
  obtain⟨un,hun,eu⟩:=DP u0 d.cp hcp.1 hcp.2
  have hpx:Pu w5 (fs xn) (s.at (xn:Int))∧PuN (fun k=>w2.heap.size≤k) (fs xn):=by
   unfold FSt.at
   rcases (show xn=0∨xn=1 by omega) with rfl|rfl
   ·exact⟨hp0,np0⟩
   ·exact⟨hp1,np1⟩
  have hB7:=(m5.trans m57).block HB.o
  have y7:=(aA hB7).1
  have z7:=(aA hB7).2.1
  obtain⟨w8,e8⟩:∃w8,w7.setCell ⟨w.heap.size+1,0,none⟩ (.int .i64 (xn:Int))=w8:=⟨_,rfl⟩
  have t78:Turned (fun k=>k=w.heap.size+1) w7 w8:=by rw[←e8];exact Turned.setCell (Turned.refl _ w7) _ _ (fun _=>rfl)
  have Z5:=hQQ hz5
  have E7:=hQQ e7
  have EU:=hQQ eu
  have MX:Hq (max 1 d.cp=d.cp∧IntKind.u64.wrap d.cp=d.cp):=hQQ ⟨by omega,IntWalk.u64_in _ (by omega)⟩
  have NE0:Hq (¬d.cp=0):=hQQ (by omega)
  have l57:=m57.size
  have l25:=m5.size
  have hg1:=hb7.lt
  have SB8:StB w8 w5.heap.size (d.arr.toList++ [.slice (some ⟨gz,0,none⟩) n cz]) fs (.slice ao s.O.length co) (.bool true):=hb7.keep t78 (by omega)
  have hC8:w8.heap[w.heap.size+1+1]?=some (.cells #[.int .i64 u0] 3 (0,0)):=(t78.block _ (ac ((m5.trans m57).block HC.o)) (by omega)).trans ((m5.trans m57).block HC.o)
  have KC:Hq (∀W,ae w8 W→W.rangeAt w5.heap.size 0 d.arr.toList):=hQQ fun W m=>(SB8.more m).lay
  have KB:Hq (∀W,ae w8 W→W.heap[w.heap.size+1+1]?=some (.cells #[.int .i64 u0] 3 (0,0))):=hQQ fun W m=>m.block hC8
  have KC3:Hq (∀W,ae w8 W→(W.setCell ⟨w.heap.size+1+1,0,none⟩ (.int .i64 (un:Int))).rangeAt w5.heap.size 0 d.arr.toList):=hQQ fun W m=>((SB8.more m).keep (S:=fun k=>k=w.heap.size+1+1) (Turned.setCell (Turned.refl _ W) _ _ (fun _=>rfl)) (by omega)).lay
  clear e7 hz5
  rw[hcur]
  go_wp2_with (refine wpList_store_row rfl 37 _ _ rfl w5.heap.size cur rfl rfl 37 mZ Z5.o (by rw[SZ.o];kernel_rfl) (by rw[SZ.o];rfl) AL.o ?_;rw[E7.o])
  refine bI 10 (by kernel_rfl) (by kernel_rfl) ?_
  simp only[List.take_succ_cons,List.take_zero,List.drop_succ_cons,List.drop_zero]
  have hm1:=MX.o.1
  have hm2:=MX.o.2
  have ne0:=NE0.o
  have fcp:=IP d
  iterate 10
   first
   |refine kX rfl 28 _ rfl w5.heap.size 0 rfl d.arr.toList _ (fun W hW=>KC.o W hW) Tryz.underlying28 rfl (by kernel_rfl) ?_
   |(with_reducible refine wpQuiet_step (fun K hK=>?_)
     go_simp
     first
     |(refine hK _ ?_;clear hK K)
     |(apply Exists.intro
       refine⟨fun W hW=>?_,hK _ ?_⟩
       first
       |(go_at_call 20;exact Calls.more hW (dw HR.o W))
       |(have c1:=(aA (KB.o W hW)).1;go_simp;try rfl)
       clear hK K))
  refine wpQuiet_nil ?_
  intro W1 m9
  have hc1:=KB.o _ m9
  obtain⟨w10,e10⟩:∃w10,W1.setCell ⟨w.heap.size+1+1,0,none⟩ (.int .i64 (un:Int))=w10:=⟨_,rfl⟩
  have t10:Turned (fun k=>k=w.heap.size+1+1) W1 w10:=by rw[←e10];exact Turned.setCell (Turned.refl _ W1) _ _ (fun _=>rfl)
  have hC10:w10.heap[w.heap.size+1+1]?=some (.cells #[.int .i64 (un:Int)] 3 (0,0)):=by rw[←e10];exact eV hc1 _
  have hB8:w8.heap[w.heap.size+1]?=some (.cells #[.int .i64 (xn:Int)] 3 (0,0)):=by rw[←e8];exact eV hB7 _
  have hB10:w10.heap[w.heap.size+1]?=some (.cells #[.int .i64 (xn:Int)] 3 (0,0)):=(t10.block _ (ac (m9.block hB8)) (by omega)).trans (m9.block hB8)
  have hD7:=(m5.trans m57).block HD.o
  have hD8:w8.heap[w.heap.size+1+1+1]?=some (.cells #[.int .i64 q] 3 (0,0)):=(t78.block _ (ac hD7) (by omega)).trans hD7
  have hD10:w10.heap[w.heap.size+1+1+1]?=some (.cells #[.int .i64 q] 3 (0,0)):=(t10.block _ (ac (m9.block hD8)) (by omega)).trans (m9.block hD8)
  have SB10:=(SB8.more m9).keep t10 (by omega)
  have p7:=hpx.1.more m57
  have p8:=p7.off (fun c hc k e z=>by have:w2.heap.size≤k:=hpx.2 c hc k e;omega) t78
  have p10:=(p8.more m9).off (fun c hc k e z=>by have:w2.heap.size≤k:=hpx.2 c hc k e;omega) t10
  have M7:ae w w7:=HM.o.trans (m5.trans m57)
  have M8:ae w w8:=Turned.mono (ak (F:=fun _=>False) M7 t78 (fun b e=> .inr (by omega))) (fun _ _ q=>q)
  have M10:ae w w10:=Turned.mono (ak (F:=fun _=>False) (M8.trans m9) t10 (fun b e=> .inr (by omega))) (fun _ _ q=>q)
  have s10:=M10.size
  have lg1:=SB10.lt
  obtain⟨w11,e11,ha11,hb11,hc11,m11,s11⟩:=jD w10 (.cells #[.int .i64 0] 3) (.cells #[.bool false] 4) (.cells #[.bool false] 4)
  have n11a:w11.setCell ⟨w10.heap.size,0,none⟩ (.int .i64 0)=w11:=qh ha11
  have n11b:w11.setCell ⟨w10.heap.size+1,0,none⟩ (.bool false)=w11:=qh hb11
  have n11c:w11.setCell ⟨w10.heap.size+1+1,0,none⟩ (.bool false)=w11:=qh hc11
  obtain⟨ca,fa,_⟩:=aA ha11
  obtain⟨cb,fb,_⟩:=aA hb11
  obtain⟨cc,fc,_⟩:=aA hc11
  obtain⟨cu,fu,_⟩:=aA hc1
  have SB11:=SB10.more m11
  have y24:=SB11.at24 (kV d)
  have M11:Hq (ae w w11):=hQQ (M10.trans m11)
  have wz11:Ws w11 gz cz zs:=by
   have a1:=(hwz.more m57).keep t78 (by omega)
   exact((a1.more m9).keep t10 (by omega)).more m11
  have DO:=hQQ (DO0.o _ fs _ (.bool true) xn (by omega) (un:Int) q ⟨by omega,hun⟩ w11 w5.heap.size w10.heap.size (w.heap.size+1) (w.heap.size+1+1) (w.heap.size+1+1+1) (some ⟨gz,0,none⟩) cz ⟨SB11,p10.more m11,fun c hc k e=>p10.lt c hc k e,m11.block hB10,m11.block hC10,m11.block hD10,⟨0,ha11⟩,⟨⟨false,hb11⟩,⟨false,hc11⟩⟩,HSZ.o.more M11.o,⟨lg1,by omega,by omega,by omega,by omega,by omega⟩⟩ wz11.words)
  rw[HLZ.o] at DO
  have SB11:=hQQ SB11
  have HD11:=hQQ (m11.block hD10)
  clear m9 KC KB KC3 hc1 t10 hC10 hB8 hB10 hD7 hD8 hD10 SB10 p7 p8 p10 M7 M8 M10 hpx hwz hp0 hp1 np0 np1 hrb hgz m5 m57 t78 SB8 hC8 hB7 y7 z7 hb7 Z5 E7 SZ AL AO DO0 m11 ha11 hb11 hc11 wz11 e8 EU MX NE0
  go_wp2_with fail
  refine DO.o.mono ?_
  rintro e w12 ⟨v1,v2,rfl,⟨b,t,z,q1,q2,q3,p1,p2,p3⟩,t12⟩
  have M12:Hq (ae w w12):=hQQ (Turned.mono (ak (F:=fun _=>False) M11.o t12 (fun b e=> .inr (by omega))) (fun _ _ q=>q))
  have SZ12:=hQQ (HSZ.o.more M12.o)
  have SB12:=SB11.o.keep t12 (by omega)
  have HQ12:=(t12.block _ (ac HD11.o) (by omega)).trans HD11.o
  have FR:FtR d w5.heap.size w10.heap.size (w.heap.size+1+1+1) t b z q w12:=⟨SB12.lay,q3,q1,q2,HQ12⟩
  clear ca fa cb fb cc fc n11a n11b n11c y24 e11 DO t12 q1 q2 q3 HQ12 SB12 SB11 HD11
  go_wp2_with fail
  have hc:(t=false∧z=0∧decide (0<szV q)=false)∨(t=false∧z=0∧b=false∧decide (0<szV q)=true)∨(t=true∧b=true∧decide (0<szV q)=true∧max 1 (szV q)=szV q∧¬szV q=0∧z.tmod (szV q)=0∧decide (eT d.cp d.pg d.st d.ca d.bi≤z)=true):=by
   by_cases hsq:0<szV q
   ·cases t with
    |false=>exact .inr (.inl ⟨rfl,p2 rfl,by simpa [hsq] using p1.symm,by simp[hsq]⟩)
    |true =>
     obtain⟨r1,_,r3⟩:=p3 rfl
     exact .inr (.inr ⟨rfl,by simpa [hsq] using p1.symm,by simp[hsq],by omega,by omega,by rw[Int.tmod_eq_emod_of_nonneg (by have:=HUS.o;omega)];exact r3,decide_eq_true r1⟩)
   ·have ht:t=false:=by simpa [hsq] using p1
    exact .inl ⟨ht,p2 ht,by simp[hsq]⟩
  clear p1 p2 p3
  rcases hc with⟨rfl,rfl,dsz⟩|⟨rfl,rfl,rfl,dsz⟩|⟨rfl,rfl,dsz,mxs,rm1,rm2,geu⟩
  all_goals
   refine bQ (by kernel_rfl) (by kernel_rfl) ?_
   iterate 32
    (with_reducible refine wpQuiet_step (fun K hK=>?_)
     go_simp
     first
     |(refine hK _ ?_;clear hK K)
     |(apply Exists.intro
       refine⟨fun W hW=>?_,hK _ ?_⟩
       first
       |(go_at_call 26;exact Calls.more hW ((lz q W ⟨bt,SZ12.o.more hW⟩).mono (fun e w' h=>⟨h.1,by rw[h.2];exact ae.refl _⟩)))
       |(go_at_call 14;exact Calls.more hW (CI HR.o W))
       |(go_at_call 7;exact Calls.more hW (LIV.o W (SZ12.o.more hW)))
       |(have F9:=FR.more hW;have c1:=(aA F9.bt).1;have c2:=(aA F9.bb).1;have c3:=(aA F9.ba).1;have c4:=(aA F9.bq).1;go_simp;try rfl)
       clear hK K))
   first
   |refine kX rfl 28 _ rfl w5.heap.size 0 rfl d.arr.toList _ (fun W hW=>(FR.more hW).st) Tryz.underlying28 rfl (by kernel_rfl) ?_
   |(with_reducible refine wpQuiet_step (fun K hK=>?_)
     go_simp
     first
     |(refine hK _ ?_;clear hK K)
     |(apply Exists.intro
       refine⟨fun W hW=>?_,hK _ ?_⟩
       first
       |(go_at_call 26;exact Calls.more hW ((lz q W ⟨bt,SZ12.o.more hW⟩).mono (fun e w' h=>⟨h.1,by rw[h.2];exact ae.refl _⟩)))
       |(go_at_call 14;exact Calls.more hW (CI HR.o W))
       |(go_at_call 7;exact Calls.more hW (LIV.o W (SZ12.o.more hW)))
       |(have F9:=FR.more hW;have c1:=(aA F9.bt).1;have c2:=(aA F9.bb).1;have c3:=(aA F9.ba).1;have c4:=(aA F9.bq).1;go_simp;try rfl)
       clear hK K))
   iterate 9
    (with_reducible refine wpQuiet_step (fun K hK=>?_)
     go_simp
     first
     |(refine hK _ ?_;clear hK K)
     |(apply Exists.intro
       refine⟨fun W hW=>?_,hK _ ?_⟩
       first
       |(go_at_call 26;exact Calls.more hW ((lz q W ⟨bt,SZ12.o.more hW⟩).mono (fun e w' h=>⟨h.1,by rw[h.2];exact ae.refl _⟩)))
       |(go_at_call 14;exact Calls.more hW (CI HR.o W))
       |(go_at_call 7;exact Calls.more hW (LIV.o W (SZ12.o.more hW)))
       |(have F9:=FR.more hW;have c1:=(aA F9.bt).1;have c2:=(aA F9.bb).1;have c3:=(aA F9.ba).1;have c4:=(aA F9.bq).1;go_simp;try rfl)
       clear hK K))
   refine wpQuiet_nil ?_
   intro wr mr
   go_wp2_with fail
   go_ret
   exact⟨rfl,M12.o.trans mr⟩
open Go.ChangeShapes Go.WideShapes Go.ChangeAt Go.Deep
section
variable {H:Type}{enc:TypeId×Value→H}{P:Program}{w:World}{base:Nat}{spare:Nat→Bool}{held:Bool}
theorem rP {r:Reach}{b0:Nat}{t T:TypeId}{fs:Array Field}{v:Value}{d:DataW H}{p:List MemPlace}(hs:P.underlying t=some (.struct fs))(hone:oneCellFields P fs=true)(hC:P.cellsOf t=fs.size)
 (hT:(fs.all fun f=>f.type==T)=true) (u:P.underlying T=some (.int .i64)) (hv:Value.okWide P w r b0 t v) (h:DataW.Trod enc P w base spare held t v d p):
 ∃xs:List Int,xs.length=fs.size∧v=.agg (xs.map (Value.int .i64)).toArray∧∀x∈xs,(Lit.int .i64 x).wf=true:=by
 obtain⟨cs,rfl,hsz⟩:=okWide_struct hs hv
 obtain⟨fuel,hf⟩:=h
 obtain⟨ys,n,_,_,_,hlen,hg⟩:=DataW.trod_struct hs hf
 have key:∀j,j<cs.toList.length→∃x:Int,cs.toList[j]?=some (.int .i64 x)∧(Lit.int .i64 x).wf=true:=by
  intro j hj
  have hj':j<fs.size:=by simp at hj;omega
  have hfj:fs[j]?=some fs[j]:=by simp[hj']
  obtain⟨ho,hk⟩:=hone_of hone j _ hfj
  have ht:fs[j].type=T:=by
   have:=Array.all_eq_true.1 hT j hj'
   simpa using this
  have h1:=hg j _ hfj
  rw[ho,hk] at h1
  have hys:ys[j]?=some (ys[j]'(by omega)):=List.getElem?_eq_getElem (by omega)
  rw[hys] at h1
  obtain⟨x,e,_,wx⟩:=DataW.trod_int (by rw[ht];exact u) h1
  refine⟨x,?_,wx⟩
  have e':(cs.toList.drop j).take 1= [.int .i64 x]:=by simpa [Value.cells] using e
  rw[List.drop_eq_getElem_cons hj] at e'
  simp at e'
  rw[List.getElem?_eq_getElem hj]
  simp[e']
 have hall:∀l:List Value,(∀j,j<l.length→∃x:Int,l[j]?=some (.int .i64 x)∧(Lit.int .i64 x).wf=true)→∃xs:List Int,xs.length=l.length∧l=xs.map (Value.int .i64)∧∀x∈xs,(Lit.int .i64 x).wf=true:=by
  intro l
  induction l with
  |nil=>intro _;exact⟨[],rfl,rfl,by simp⟩
  |cons a l ih =>
   intro hl
   obtain⟨x,hx,wx⟩:=hl 0 (by simp)
   obtain⟨xs,h1,h2,h3⟩:=ih (fun j hj=>by have:=hl (j+1) (by simp;omega);simpa using this)
   simp at hx
   exact⟨x::xs,by simp[h1],by simp[hx,←h2],by intro z hz;rcases List.mem_cons.1 hz with q|q; (rw[q];exact wx);exact h3 z q⟩
 obtain⟨xs,h1,h2,h3⟩:=hall cs.toList key
 refine⟨xs,by simp at h1;omega,?_,h3⟩
 rw[←h2]
end
theorem Nu {l:List Int}(h:l.length=11):∃x0 x1 x2 x3 x4 x5 x6 x7 x8 x9 x10,l= [x0,x1,x2,x3,x4,x5,x6,x7,x8,x9,x10]:=by
 match l,h with
 | [x0,x1,x2,x3,x4,x5,x6,x7,x8,x9,x10],_=>exact⟨x0,x1,x2,x3,x4,x5,x6,x7,x8,x9,x10,rfl⟩
end Go.Proofs.YtddmeghbmdfgeaaGreatDoor
