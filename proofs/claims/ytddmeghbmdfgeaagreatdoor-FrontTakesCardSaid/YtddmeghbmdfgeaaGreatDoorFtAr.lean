/-
  Layer 14: what is kept, counted: the program.
-/
import Derived.Test.YtddmeghbmdfgeaaGreatDoorFtAq
import Derived.Test.YtddmeghbmdfgeaaGreatDoorFtAe
import Derived.Test.YtddmeghbmdfgeaaGreatDoorFtAp
import Derived.Deep.Cut
import Derived.Deep.CutRange
set_option maxRecDepth 100000
set_option maxHeartbeats 8000000
set_option linter.all false
namespace Go.Proofs.YtddmeghbmdfgeaaGreatDoor
open Go.RowKit Go.Sort Go.Maps Go.Shelf
theorem StB.lay {w:World}{g:Nat}{d:Cfg}{v:Value}{fs:Nat→Nat→Value}{o ok:Value}(h:StB w g (d.arr.toList++ [v]) fs o ok):w.rangeAt g 0 d.arr.toList:=fun j x hj=>by
 have hl:j<24:=(List.getElem?_eq_some_iff.1 hj).1
 rw[cell_of_row w g _ _ _ _ h.2]
 simp only[List.getElem?_toArray,Nat.zero_add]
 unfold stL
 rw[List.append_assoc,List.getElem?_append_left (by rw[kV];exact hl)]
 exact hj
theorem MidV.setI {W wr:World}{F S F':Nat→Prop}{p n:Nat}{kn:Int→Option Int}{D:List KV}(h:MidV W wr F S p kn n D F'){b:Nat}(hS:b<W.heap.size→S b)(nF:¬F' b){x:Value}{t:TypeId}(hb:wr.heap[b]?=some (.cells #[x] t (0,0)))(v:Value):MidV W (wr.setCell ⟨b,0,none⟩ v) F S p kn n D F':=by
 rw[setCell_eq_setRow wr b 0 _ _ (0,0) v hb]
 exact h.setR hS nF _ hb
section
variable {c:Cfg}{v:Value}{fs:Nat→Nat→Value}{o ok:Value}
end
def dB:Cfg:=⟨2,2,2,2,0,0,1,2,0,0,3⟩
theorem iz:dB.Ok:=by constructor<;>decide
theorem qg:dB.words=(320:Nat):=by decide
theorem FJ:dB.us=256:=by decide
theorem FM:cF dB.pg dB.st 320:= { st1:=by decide,st2:=by decide,pg1:=by decide,pg2:=by decide,top:=by decide,top5:=by decide,top62:=by decide }
theorem Cw:(tkW dB 0 (fun _=> []) 0 (cQ 320)).1.1=(256,true):=by kernel_rfl
theorem FO:(tkW dB 0 (fun _=> []) 0 (cQ 320)).1.2 0= [257,258]:=by kernel_rfl
structure Cx (g1 g2 g3 bt:Nat)(w:World):Prop where
 h1:w.heap[g1]?=some (.cells dB.arr 28 (0,0))
 h2:∃x,eF w g2 x
 h3:∃f,w.heap[g3]?=some (.cells (puA f) 32 (0,0))
 sz:dh bt w
def Jo (g2 g3 b:Nat)(w:World):Prop:=eF w g2 256∧∃f P,w.heap[g3]?=some (.cells (puA f) 32 (0,0))∧Pu w f P∧PuN (fun q=>b≤q) f∧P 0= [257,258]∧∀k,k<5→(P k).length≤1000000
def sj {n bt:Nat}(T:o8 dB n bt):Prg ((Int×Bool)×(Nat→List Int)):=T.tkP 0 (fun _=> []) 0
theorem Cy {bt:Nat}(T:o8 dB 320 bt)(F:Nat→Prop)(p g1 g2 g3:Nat)(kn:Int→Option Int)(W:World)(hv:aF W F p kn [])(hk:OkK kn)(hY:Cx g1 g2 g3 bt W)(n1:¬F g1)(n2:¬F g2)(n3:¬F g3)(n0:¬F 0)(nb:¬F bt)(hd:g1≠g2∧g1≠g3∧g2≠g3∧0≠g2∧0≠g3∧bt≠g2∧bt≠g3)
 (ht:∀x D,sj T kn []=.ok x D→x.1=(256,true)∧x.2 0= [257,258]):
 Calls Tryz.prog 33 #[.pointer (some ⟨p,0,none⟩),.pointer (some ⟨g1,0,none⟩),.pointer (some ⟨g2,0,none⟩),.pointer (some ⟨g3,0,none⟩)] W (jc W F (fun b=>b=g2∨b=g3) (fun w'=>Cx g1 g2 g3 bt w') (fun w'=>Jo g2 g3 W.heap.size w') p kn (fY (sj T kn []))):=by
 obtain⟨Rr,hR⟩:∃Rr,sj T kn []=Rr:=⟨_,rfl⟩
 rw[hR] at ht⊢
 obtain⟨d12,d13,d23,d02,d03,db2,db3⟩:=hd
 obtain⟨x0,h2⟩:=hY.h2
 obtain⟨f0,h3⟩:=hY.h3
 have L1:=hQQ hY.h1
 have l2:=ac h2
 have l3:=ac h3
 have KT:∀wr,Turned (fun b=>F b∨(b=g2∨b=g3)) W wr→(∃x,eF wr g2 x)→(∃f,wr.heap[g3]?=some (.cells (puA f) 32 (0,0)))→Cx g1 g2 g3 bt wr:=fun wr t a b =>
  ⟨(t.block g1 (ac hY.h1) (by rintro(q|q|q);exact n1 q;exact d12 q;exact d13 q)).trans hY.h1,a,b,hY.sz.keep t (by rintro(q|q|q);exact n0 q;exact d02 q;exact d03 q) (by rintro(q|q|q);exact nb q;exact db2 q;exact db3 q)⟩
 have M0:MidV W W F (fun b=>b=g2∨b=g3) p kn 320 [] F:=MidV.begin hv (dP _)
 have TK:=T.tkC F (fun q=>q<W.heap.size) p kn [] W 0 0 (fun _=> .slice none 0 0) (fun _=> []) hv hk (dP _) hY.sz n0 nb (fun q z=>z) (cS.nil _ _) (dr.nil iz)
 have TG:=T.tkG 0 (fun _=> []) 0 (dr.nil iz)
 have NEED:Hq (∀x w2,Rr=.need x→bJ w2 p x→Turned (fun b=>F b∨(b=g2∨b=g3)) W w2→(∃x,eF w2 g2 x)→(∃f,w2.heap[g3]?=some (.cells (puA f) 32 (0,0)))→jc W F (fun b=>b=g2∨b=g3) (fun w'=>Cx g1 g2 g3 bt w') (fun w'=>Jo g2 g3 W.heap.size w') p kn (fY Rr) (.panicked (bB p)) w2):=hQQ fun x w2 e hd' ht' a b =>
  wT (oE e) hd' ht' (KT _ ht' a b)
 have DONE:Hq (∀x w2 D F' f,Rr=.ok x D→MidV W w2 F (fun b=>b=g2∨b=g3) p kn 320 D F'→eF w2 g2 x0→w2.heap[g3]?=some (.cells (puA f0) 32 (0,0))→¬F' g2→¬F' g3→cS (fun q=>q<W.heap.size∨F' q) w2 f x.2→(∀k,k<5→(x.2 k).length≤1000000)→jc W F (fun b=>b=g2∨b=g3) (fun w'=>Cx g1 g2 g3 bt w') (fun w'=>Jo g2 g3 W.heap.size w') p kn (fY Rr) (.returned (.tuple #[])) ((w2.setCell ⟨g2,0,none⟩ (.int .i64 x.1.1)).setRow g3 (puA f))):=hQQ fun x w2 D F' f e h b2 b3 nf2 nf3 hp hll=>by
  obtain⟨x1,x2⟩:=ht x D e
  have hm:=h.setI (b:=g2) (fun _=> .inl rfl) nf2 b2 (.int .i64 x.1.1)
  have c2:eF (w2.setCell ⟨g2,0,none⟩ (.int .i64 x.1.1)) g2 x.1.1:=eV b2 _
  have t2:Turned (fun k=>k=g2) w2 (w2.setCell ⟨g2,0,none⟩ (.int .i64 x.1.1)):=Turned.setCell (Turned.refl _ w2) _ _ (fun _=>rfl)
  have c3:=(t2.block g3 (ac b3) (fun q=>d23 q.symm)).trans b3
  have pu2:Pu (w2.setCell ⟨g2,0,none⟩ (.int .i64 x.1.1)) f x.2:=hp.1.off (fun c hc q e z=>by have:=hp.2 c hc q e;exact this (.inl (by show q<_;have:q=g2:=z;omega))) t2
  generalize w2.setCell ⟨g2,0,none⟩ (.int .i64 x.1.1)=w3 at hm c2 c3 pu2
  have hm3:=hm.setR (b:=g3) (fun _=> .inr rfl) nf3 (puA f) c3
  have e3:=setRow_heap w3 g3 _ (puA f) _ _ c3
  have t3:Turned (fun k=>k=g3) w3 (w3.setRow g3 (puA f)):=Turned.setRow (Turned.refl _ w3) _ _ (fun _=>rfl)
  have e2:eF (w3.setRow g3 (puA f)) g2 x.1.1:=(t3.block g2 (ac c2) d23).trans c2
  have pu3:Pu (w3.setRow g3 (puA f)) f x.2:=pu2.off (fun c hc q e z=>by have:=hp.2 c hc q e;exact this (.inl (by show q<_;have:q=g3:=z;omega))) t3
  refine wU hm3 (sR e) (KT _ hm3.turn ⟨_,e2⟩ ⟨_,e3⟩) ⟨by rw[←show x.1.1=256 by rw[x1]];exact e2,f,x.2,e3,pu3,fun c hc q e=>Nat.le_of_not_lt fun z=>hp.2 c hc q e (.inl z),x2,hll⟩
 have HR:=hQQ hR
 clear ht KT hR
 go_enter Tryz.func33,Tryz.ntmps33
 go_wp2_with (refine aM rfl rfl rfl L1.o (by kernel_rfl) ?_)
 refine TK.mono ?_
 intro e w4 he
 rcases M0.stepP (ae.refl _) hk TG he with⟨a',hE,rfl,hd',ht',hk4⟩|⟨x4,f4,D4,F4,hE,rfl,M4,hp4,hq4,hk4,hn4⟩
 ·exact⟨rfl,NEED.o a' w4 (HR.o.symm.trans hE) hd' ht' ⟨_,hk4 _ _ n2 h2⟩ ⟨_,hk4 _ _ n3 h3⟩⟩
 have b2:eF w4 g2 x0:=hk4 _ _ n2 h2
 have b3:=hk4 _ _ n3 h3
 have nf2:¬F4 g2:=fun q=>by rcases hn4 _ q with r|r;exact n2 r;omega
 have nf3:¬F4 g3:=fun q=>by rcases hn4 _ q with r|r;exact n3 r;omega
 have FIN:=hQQ (DONE.o x4 w4 D4 F4 f4 (HR.o.symm.trans hE) M4 b2 b3 nf2 nf3 hp4 (hq4.2.len iz))
 obtain⟨y1,y2,_⟩:=aA b2
 have t2:Turned (fun k=>k=g2) w4 (w4.setCell ⟨g2,0,none⟩ (.int .i64 x4.1.1)):=Turned.setCell (Turned.refl _ w4) _ _ (fun _=>rfl)
 have B3:=hQQ ((t2.block g3 (ac b3) (fun q=>d23 q.symm)).trans b3)
 have AL:=hQQ (Pu.all1 hp4.1)
 clear he hE hk4 hn4 hp4 hq4 M4 b3 t2
 go_wp2_with (refine wpList_store_row rfl 32 _ _ rfl g3 (puA f4) rfl rfl 32 _ B3.o (by kernel_rfl) rfl AL.o ?_)
 go_end0
 exact FIN.o
theorem FP {bt:Nat}(T:o8 dB 320 bt)(w:World)(g1 g2 g3:Nat)(a:Option Addr)(cap:Nat)(hY:Cx g1 g2 g3 bt w)(hd:g1≠g2∧g1≠g3∧g2≠g3∧0≠g2∧0≠g3∧bt≠g2∧bt≠g3)(hz:jW w a (cQ 320)):
 Calls Tryz.prog 9 #[.slice a 320 cap,.func (.func 33) #[] #[.pointer (some ⟨g1,0,none⟩),.pointer (some ⟨g2,0,none⟩),.pointer (some ⟨g3,0,none⟩)]] w (fun e w'=>∃v1 v2,e=.returned (.tuple #[v1,v2,.int .i64 0])∧w'.heap[g1]?=some (.cells dB.arr 28 (0,0))∧Jo g2 g3 w.heap.size w'∧Turned (fun b=>b=g2∨b=g3) w w'):=by
 have hl:(cQ 320).length=320:=kD 320
 have l1:=ac hY.h1
 have l2:g2<w.heap.size:=by obtain⟨x,h⟩:=hY.h2;exact ac h
 have l3:g3<w.heap.size:=by obtain⟨x,h⟩:=hY.h3;exact ac h
 have l0:=hY.sz.lt0
 have lb:=hY.sz.lt
 have G:=T.tkG 0 (fun _=> []) 0 (dr.nil iz)
 have FL:=T.tkF 0 (fun _=> []) 0 (dr.nil iz)
 obtain⟨K',hK',_,hans⟩:=CX (zs:=cQ 320) (T.tkS 0 (fun _=> []) 0) (by rw[hl];exact G) (gF 320) (by rw[hl];exact FL)
 have M:=Jd a cap (cQ 320) (fun K=>fY (sj T (look K) [])) (some (_,K')) (cQ 320).length w hz (by omega) (gF _) (wS (by rw[hl];exact G) (gF _) (by omega)) (by omega) hK' 33 #[.pointer (some ⟨g1,0,none⟩),.pointer (some ⟨g2,0,none⟩),.pointer (some ⟨g3,0,none⟩)] (fun k=>k=g2∨k=g3)
  (fun w'=>Cx g1 g2 g3 bt w') (fun b w'=>Jo g2 g3 b w')
  (fun k q=>by rcases q with rfl|rfl<;>assumption)
  (fun w' w'' y t=>⟨(t.block g1 (ac y.h1) (by omega)).trans y.h1,by obtain⟨z,q⟩:=y.h2;exact⟨z,(t.block g2 (ac q) (by omega)).trans q⟩,by obtain⟨z,q⟩:=y.h3;exact⟨z,(t.block g3 (ac q) (by omega)).trans q⟩,y.sz.keep t (by omega) (by omega)⟩)
  (fun b w' w'' hb x t=>by
   obtain⟨x1,f,P,x2,x3,x4,x5⟩:=x
   exact⟨(t.block g2 (ac x1) (by omega)).trans x1,f,P,(t.block g3 (ac x2) (by omega)).trans x2,x3.off (fun c hc q e z=>by have:b≤q:=x4 c hc q e;omega) t,x4,x5⟩) hY (enters_of Tryz.func33 (by kernel_rfl) rfl)
  (fun K hK W F p t y hv hF=>Cy T F p g1 g2 g3 (look K) W hv (sP hK (gF _)) y (fun q=>by have:=hF _ q;omega) (fun q=>by have:=hF _ q;omega) (fun q=>by have:=hF _ q;omega) (fun q=>by have:=hF _ q;omega) (fun q=>by have:=hF _ q;omega) hd
   (fun x D e=>by rw[hans K hK x D e];exact⟨Cw,FO⟩))
 rw[hl] at M
 refine M.mono ?_
 rintro e w' ⟨v1,v2,b,rfl,r1,_,t,y,hb,x1,f,P,x2,x3,x4,x5⟩
 exact⟨v1,v2,rfl,y.h1,⟨x1,f,P,x2,x3,fun c hc q e=>Nat.le_trans hb (x4 c hc q e),x5⟩,t⟩
theorem qh {w:World}{g:Nat}{v:Value}{t:TypeId}{fr:Nat×Nat}(h:w.heap[g]?=some (.cells #[v] t fr)):w.setCell ⟨g,0,none⟩ v=w:=by
 unfold World.setCell
 have e:(w.heap.modify g fun x=>match x with| .cells c elem frozen=> .cells (if((none:Option Nat)).isSome then c else c.setIfInBounds 0 v) elem frozen|o=>o)=w.heap:=by
  apply Array.ext
  ·simp
  ·intro i h1 h2
   rw[Array.getElem_modify]
   split
   ·rename_i q
    subst q
    have:w.heap[g]=.cells #[v] t fr:=by rw[Array.getElem?_eq_getElem h2] at h;simpa using h
    rw[this]
    simp
   ·rfl
 show World.mk _ _ _ _ _=_
 exact congrArg (fun h=>World.mk h w.tape w.drawn w.os w.output) e
theorem Jp (w:World)(p q:Int):∃w1,w.alloc (.cells #[.int .i64 p,.int .i64 q] 3)=w1∧Rw w.heap.size w1 (.slice (some ⟨w.heap.size,0,none⟩) 2 2) [p,q]∧ae w w1∧w1.heap.size=w.heap.size+1:=by
 refine⟨_,rfl,⟨rfl,.inr ⟨_,2,_,rfl,Nat.le_refl _,bz w _,Nat.le_refl _,by simp[maxLen],rfl,rfl⟩⟩,(ae.refl w).alloc _,by simp⟩
theorem wD {o:Oper}{a:Act}{w:World}{K:Act→World→Prop}{Q:Exit→Act→World→Prop}{x y:Operand}(ho:o.op=.buildSlice 29 2 #[(0,x),(1,y)]){p q:Int}(hx:a.eval x=.int .i64 p)(hy:a.eval y=.int .i64 q)(h:K (a.put o.dst (.slice (some ⟨w.heap.size,0,none⟩) 2 2)) (w.alloc (.cells #[.int .i64 p,.int .i64 q] 3))):Oper.wp Tryz.prog o a w K Q:=by
 unfold Oper.wp Oper.upon execOp
 simp only[ho]
 generalize a.eval=ρ at hx hy⊢
 go_simp
 exact h
def sm:Cfg:=⟨aU 0 1 64,aU 0 1 8,aU 0 1 256,aU 0 1 64,aU 0 0 16,aU 0 0 64,aU 0 1 1099511627776,aU 0 1 8,aU 0 0 8,aU 0 0 16,aU 0 1 8⟩
theorem Cz:sm.Ok:=C6 0 0 0 0 0 0 0 0 0 0 0
def Lk:Cfg:=⟨2,2,2,2,0,0,1,2,0,0,2⟩
theorem CD:lj sm=Lk:=by rfl
def TkT:Type:=∀(d:Cfg) (n bt:Nat),d.Ok→cF d.pg d.st n→(n:Int)=d.words→n≤10000→o8 d n bt
theorem CE (TT:TkT)(bt:Nat)(w:World)(hs:dh bt w):Calls Tryz.prog 7 #[] w (aQ w (.bool true)):=by
 have SM:=hQQ (vB Cz 0 0 0 0 0 0 0 0 0 0 0 _ w (fun W=>yH 0 0 0 0 0 0 0 0 0 0 0 W (by omega) (by omega) (by omega) (by omega) (by omega) (by omega) (by omega) (by omega) (by omega) (by omega) (by omega)) rfl)
 have D0:Hq ((lj sm).cells.setIfInBounds 10 (.int .i64 3)=dB.cells):=hQQ (by rw[CD];rfl)
 have D9:Hq (dB.cells.setIfInBounds 7 (.int .i64 2)=dB.cells):=hQQ (by rfl)
 generalize lj sm=d at SM D0
 have R5:=hQQ iz
 have hc4:=il d
 have HS:=hQQ hs
 have l0:=hs.lt0
 have lb:=hs.lt
 have DOA:=hQQ (FP (TT dB 320 bt iz FM (by rw[qg]) (by omega)))
 clear hs TT
 go_enter Tryz.func7,Tryz.ntmps7
 go_wp2_with fail
 refine(SM.o).mono ?_
 rintro e w1 ⟨rfl,m1⟩
 have MA:=hQQ m1
 have hs1:=m1.size
 have C2:=aW w1 #[.int .i64 0,.int .i64 0,.int .i64 0,.int .i64 0,.int .i64 0,.int .i64 0,.int .i64 0,.int .i64 0,.int .i64 0,.int .i64 0,.int .i64 0] 23
 have C3:=setRow_heap _ _ _ d.cells _ _ C2
 have M5:=MA.o.trans (((ae.refl w1).alloc (.cells #[.int .i64 0,.int .i64 0,.int .i64 0,.int .i64 0,.int .i64 0,.int .i64 0,.int .i64 0,.int .i64 0,.int .i64 0,.int .i64 0,.int .i64 0] 23)).setRow w1.heap.size d.cells (Nat.le_refl _))
 obtain⟨w5,e5⟩:∃w5,(w1.alloc (.cells #[.int .i64 0,.int .i64 0,.int .i64 0,.int .i64 0,.int .i64 0,.int .i64 0,.int .i64 0,.int .i64 0,.int .i64 0,.int .i64 0,.int .i64 0] 23)).setRow w1.heap.size d.cells=w5:=⟨_,rfl⟩
 rw[e5] at C3 M5
 have C2:=hQQ C2
 have C3:=hQQ C3
 have M5:=hQQ M5
 have E5:=hQQ e5
 clear m1 SM e5
 go_wp2_with (first
  |(refine wpList_store_row rfl 23 _ _ rfl w1.heap.size d.cells rfl rfl 23 _ C2.o (by kernel_rfl) rfl hc4 ?_;rw[E5.o])
  |(refine ik rfl 3 _ _ rfl rfl w1.heap.size 10 rfl 3 rfl _ _ C3.o (by simp[Cfg.cells]) (by kernel_rfl) ?_;rw[D0.o];intro w6 hb6 ht6;have HB6:=hQQ hb6;have HM6:Hq (ae w w6):=hQQ (Turned.mono (ak (F:=fun _=>False) M5.o ht6 (fun k q=> .inr (by omega))) (fun _ _ q=>q));clear hb6 ht6)
  |(refine ik rfl 3 _ _ rfl rfl w1.heap.size 7 rfl 2 rfl _ _ HB6.o (by simp[Cfg.cells]) (by kernel_rfl) ?_;rw[D9.o];intro w66 hb6 ht6;have HB:=hQQ hb6;have HM:Hq (ae w w66):=hQQ (Turned.mono (ak (F:=fun _=>False) HM6.o ht6 (fun k q=> .inr (by omega))) (fun _ _ q=>q));clear hb6 ht6)
  |(refine sx rfl rfl rfl HB.o (by kernel_rfl) ?_))
 refine(Oi R5.o _).mono ?_
 rintro e w7 ⟨rfl,m7⟩
 have D1:=aW w7 gw 28
 have D2:=setRow_heap (w7.alloc (.cells gw 28)) w7.heap.size _ dB.arr _ _ D1
 have M7:=HM.o.trans m7
 have M8:ae w ((w7.alloc (.cells gw 28)).setRow w7.heap.size dB.arr):=(M7.alloc _).setRow _ _ M7.size
 have s8:((w7.alloc (.cells gw 28)).setRow w7.heap.size dB.arr).heap.size=w7.heap.size+1:=by simp
 have hs7:=M7.size
 have D1:=hQQ D1
 obtain⟨w8,e8⟩:∃w8,(w7.alloc (.cells gw 28)).setRow w7.heap.size dB.arr=w8:=⟨_,rfl⟩
 rw[e8] at D2 M8 s8
 obtain⟨w9,e9,ha,m9,s9⟩:=bg w8 (.cells #[.int .i64 0] 3)
 have n9:w9.setCell ⟨w8.heap.size,0,none⟩ (.int .i64 0)=w9:=qh ha
 obtain⟨c9,f9,k9⟩:=aA ha
 obtain⟨w10,e10,hp,m10,s10⟩:=bg w9 (.cells #[.slice none 0 0,.slice none 0 0,.slice none 0 0,.slice none 0 0,.slice none 0 0] 32)
 have M13:=hQQ ((M8.trans m9).trans m10)
 have HD:=hQQ (m10.block (m9.block D2))
 have HA:=hQQ (m10.block ha)
 rw[s9] at hp
 have HP:=hQQ hp
 have l7:w7.heap.size<w8.heap.size:=by omega
 have l9:w8.heap.size<w9.heap.size:=by omega
 clear m7 HM HB C3 M5 M7 M8 ha m9 hc4 D2 s8 hp m10 HB6 HM6
 go_wp2_with (first
  |(refine wpList_store_row rfl 28 _ _ rfl w7.heap.size dB.arr rfl rfl 28 _ D1.o (by kernel_rfl) rfl (ns dB) ?_)
  |(refine aM rfl rfl rfl HD.o (by kernel_rfl) ?_))
 refine(JR R5.o _).mono ?_
 rw[qg]
 rintro e w14 ⟨rfl,m14⟩
 obtain⟨w15,hmk,N1,m15,s15⟩:∃w15,(Instr.makeSlice 29 (.int .i64 320) (.int .i64 320)).run Tryz.prog w14=.ok (.slice (some ⟨w14.heap.size,0,none⟩) 320 320) w15∧w15.heap[w14.heap.size]?=some (.cells (pf (cQ 320)) 3 (0,0))∧ae w14 w15∧w15.heap.size=w14.heap.size+1 :=
  ⟨_,sW 320 (by omega) w14,aW w14 _ _,(ae.refl _).alloc _,by simp⟩
 have mm:=m14.trans m15
 have M15:=hQQ (M13.o.trans mm)
 have DO:=hQQ (DOA.o w15 w7.heap.size w8.heap.size (w8.heap.size+1) (some ⟨w14.heap.size,0,none⟩) 320 ⟨mm.block HD.o,⟨_,mm.block HA.o⟩,⟨fun _=> .slice none 0 0,mm.block HP.o⟩,HS.o.more M15.o⟩ ⟨by omega,by omega,by omega,by omega,by omega,by omega,by omega⟩ (Et _ _ _ N1))
 have hw8:w.heap.size≤w8.heap.size:=by omega
 clear m14 m15 mm N1 s15 HD HA HP M13 e8 e9 e10 n9 c9 f9 D1 s9 s10 DOA
 go_wp2_with fail
 refine DO.o.mono ?_
 rintro e w16 ⟨v1,v2,rfl,h1,⟨hx1,f,P,hx2,hx3,hx4,hx5,hx6⟩,ht⟩
 have LB:=hQQ h1
 have IB:=hQQ hx1
 have PB:=hQQ hx2
 have PU:=hQQ hx3
 have PQ:Hq (uI P 0= [257,258]):=hQQ (by rw[←hx5];unfold uI;rw[if_pos (by decide)];rfl)
 have PL:=hQQ hx6
 have FIN:=hQQ (Turned.mono (ak (F:=fun _=>False) M15.o ht (fun k q=> .inr (by omega))) (fun _ _ q=>q))
 have US:Hq (∀W,Calls Tryz.prog 14 #[.agg dB.arr] W (aQ W (.int .i64 256))):=hQQ fun W=>by rw[←FJ];exact CI R5.o W
 clear h1 hx1 hx2 hx3 hx4 hx5 hx6 ht DO M15
 go_wp2_with fail
 refine aO (ae w16) (by kernel_rfl) ?_
 change dg _ _ _ _ _ _ _ _ (w16.drewN 1)
 have MR:Hq (ae w16 (w16.drewN 1)):=hQQ ((ae.refl w16).drewN 1)
 generalize w16.drewN 1=wq at MR⊢
 generalize hA:Act.mk _ _=A
 have HF:AG 49 A [(2,.pointer (some ⟨w7.heap.size,0,none⟩)),(3,.int .i64 0),(4,.pointer (some ⟨w8.heap.size,0,none⟩)),(5,.pointer (some ⟨w8.heap.size+1,0,none⟩)),(8,.int .i64 0)]:=by
  rw[←hA];try simp only[pts,List.foldl]
  refine⟨⟨Nat.le_of_ble_eq_true rfl,rfl⟩,?_⟩
  intro z hz;simp only[List.mem_cons,List.not_mem_nil,or_false] at hz;rcases hz with rfl|rfl|rfl|rfl|rfl<;>rfl
 refine bL (fun aa W=>∃(u27 u28 u29 u30 u31 u32 u33 u34 u35 u36 u37 u38 u39 u40 u42 u43 u44 u45 u41 u46 u47 u48:Value),(aa=(pts A [(27,u27),(28,u28),(29,u29),(30,u30),(31,u31),(32,u32),(33,u33),(34,u34),(35,u35),(36,u36),(37,u37),(38,u38),(39,u39),(40,u40),(42,u42),(43,u43),(44,u44),(45,u45),(41,u41),(46,u46),(47,u47),(48,u48),(0,.bool true)])∨aa=(pts A [(27,u27),(28,u28),(29,u29),(30,u30),(31,u31),(32,u32),(33,u33),(34,u34),(35,u35),(36,u36),(37,u37),(38,u38),(39,u39),(40,u40),(42,u42),(43,u43),(44,u44),(45,u45),(46,u46),(41,u41),(47,u47),(48,u48),(0,.bool true)]))∧ae w16 W) (fun _=>False) [] (fun a W hd h=>h.elim) (fun _ _ _ _ _ h=>h) ?_ ?_
 ·skip
  rintro a9 wz ⟨u27,u28,u29,u30,u31,u32,u33,u34,u35,u36,u37,u38,u39,u40,u42,u43,u44,u45,u41,u46,u47,u48,hn,mz⟩
  have E:(pts A [(27,u27),(28,u28),(29,u29),(30,u30),(31,u31),(32,u32),(33,u33),(34,u34),(35,u35),(36,u36),(37,u37),(38,u38),(39,u39),(40,u40),(42,u42),(43,u43),(44,u44),(45,u45),(46,u46),(41,u41),(47,u47),(48,u48),(0,.bool true)])=(pts A [(27,u27),(28,u28),(29,u29),(30,u30),(31,u31),(32,u32),(33,u33),(34,u34),(35,u35),(36,u36),(37,u37),(38,u38),(39,u39),(40,u40),(42,u42),(43,u43),(44,u44),(45,u45),(41,u41),(46,u46),(47,u47),(48,u48),(0,.bool true)]):=by rw[←hA];kernel_rfl
  have hn:a9=(pts A [(27,u27),(28,u28),(29,u29),(30,u30),(31,u31),(32,u32),(33,u33),(34,u34),(35,u35),(36,u36),(37,u37),(38,u38),(39,u39),(40,u40),(42,u42),(43,u43),(44,u44),(45,u45),(41,u41),(46,u46),(47,u47),(48,u48),(0,.bool true)]):=by
   rcases hn with q|q
   ·exact q
   ·exact q.trans E
  subst hn
  rw[←hA];try simp only[pts,List.foldl]
  have F17:=hQQ (FIN.o.trans mz)
  clear HF hA MR E hn mz
  go_simp
  go_wp2_with fail
  go_ret
  exact⟨rfl,F17.o⟩
 intro QQ FINE FIND FINQ
 clear hA
 refine tqM 0 27 1 rfl (.inl rfl) rfl (by kernel_rfl) FINQ MR.o HF fun A β1 HF=>?_
 refine tqC 1 28 (.bool true) (by kernel_rfl) FINQ MR.o HF (by exact(Or.inl ⟨(ab rfl),fun W hW=>by have h5:=(HF.getD 0 rfl);go_simp⟩)) fun A β2 HF=>?_
 refine tqM 2 29 0 rfl (.inl rfl) rfl (by kernel_rfl) FINQ MR.o HF fun A β3 HF=>?_
 refine tqC 3 30 (.int .i64 0) (by kernel_rfl) FINQ MR.o HF (by exact bT (cG 2 true 29 rfl rfl (HF.at (by decide) 0 rfl)) _ rfl (HF.get 7 rfl)) fun A β4 HF=>?_
 refine tqC 4 31 (.bool true) (by kernel_rfl) FINQ MR.o HF (by exact(Or.inl ⟨(cG 2 true 29 rfl rfl (HF.at (by decide) 1 rfl)),fun W hW=>by have h5:=(HF.getD 0 rfl);go_simp⟩)) fun A β5 HF=>?_
 refine tqC 5 32 (.bool true) (by kernel_rfl) FINQ MR.o HF (by exact eG (ab rfl) rfl (HF.get 2 rfl) (HF.get 0 rfl)) fun A β6 HF=>?_
 refine tqM 6 33 0 rfl (.inl rfl) rfl (by kernel_rfl) FINQ MR.o HF fun A β7 HF=>?_
 refine tqC 7 34 (.int .i64 256) (by kernel_rfl) FINQ MR.o HF (by exact dV (cG 6 true 33 rfl rfl (HF.at (by decide) 0 rfl)) _ rfl (w8.heap.size) (HF.get 9 rfl) _ (fun W hW=>hW.block IB.o)) fun A β8 HF=>?_
 refine tqC 8 35 (.agg dB.arr) (by kernel_rfl) FINQ MR.o HF (by exact aD (cG 6 true 33 rfl rfl (HF.at (by decide) 1 rfl)) 28 _ rfl (w7.heap.size) (HF.get 8 rfl) 28 _ _ _ (fun W hW=>hW.block LB.o) Tryz.underlying28 rfl (by kernel_rfl)) fun A β9 HF=>?_
 refine bo (i:=9) (some 36) (by kernel_rfl) rfl (cG 6 true 33 rfl rfl (HF.at (by decide) 2 rfl)) rfl (fun K hK=>?_)
 refine nr (v0:=.agg dB.arr) rfl (HF.get 0 rfl) (enters_of Tryz.func14 (by kernel_rfl) rfl) ?_
 refine(US.o wq).mono ?_
 rintro e wa ⟨rfl,hl⟩
 have Na:=hQQ hl
 have Ma:=hQQ (MR.o.trans hl)
 clear hl
 refine hK _ _ Ma.o ?_
 clear hK K
 replace HF:=HF.put 36 (.int .i64 256) (by decide) rfl
 generalize β10:Act.put _ _ _=A at HF⊢
 refine tqC 10 37 (.bool true) (by kernel_rfl) FINQ Ma.o HF (by exact yJ (cG 6 true 33 rfl rfl (HF.at (by decide) 3 rfl)) rfl (HF.get 2 rfl) (HF.get 0 rfl) true (by simp)) fun A β11 HF=>?_
 refine tqC 11 38 (.bool true) (by kernel_rfl) FINQ Ma.o HF (by exact eG (ab rfl) rfl (HF.get 4 rfl) (HF.get 0 rfl)) fun A β12 HF=>?_
 refine tqM 12 39 0 rfl (.inl rfl) rfl (by kernel_rfl) FINQ Ma.o HF fun A β13 HF=>?_
 refine tqC 13 40 (.agg (puA f)) (by kernel_rfl) FINQ Ma.o HF (by exact aD (cG 12 true 39 rfl rfl (HF.at (by decide) 0 rfl)) 32 _ rfl (w8.heap.size+1) (HF.get 16 rfl) 32 _ _ _ (fun W hW=>hW.block PB.o) Tryz.underlying32 rfl (by kernel_rfl)) fun A β14 HF=>?_
 refine tqC 15 42 (.int .i64 256) (by kernel_rfl) FINQ Ma.o HF (by exact dV (cG 12 true 39 rfl rfl (HF.at (by decide) 1 rfl)) _ rfl (w8.heap.size) (HF.get 16 rfl) _ (fun W hW=>hW.block IB.o)) fun A β15 HF=>?_
 refine tqC 16 43 (.int .i64 257) (by kernel_rfl) FINQ Ma.o HF (by exact gR (cG 12 true 39 rfl rfl (HF.at (by decide) 2 rfl)) rfl (HF.get 0 rfl) rfl _ (by decide)) fun A β16 HF=>?_
 refine tqC 17 44 (.int .i64 256) (by kernel_rfl) FINQ Ma.o HF (by exact dV (cG 12 true 39 rfl rfl (HF.at (by decide) 3 rfl)) _ rfl (w8.heap.size) (HF.get 18 rfl) _ (fun W hW=>hW.block IB.o)) fun A β17 HF=>?_
 refine tqC 18 45 (.int .i64 258) (by kernel_rfl) FINQ Ma.o HF (by exact gR (cG 12 true 39 rfl rfl (HF.at (by decide) 4 rfl)) rfl (HF.get 0 rfl) rfl _ (by decide)) fun A β18 HF=>?_
 -- the list,and the row
 refine kE (i:=14) (j:=19) (some 41) (some 46) (by kernel_rfl) rfl rfl (cG 12 true 39 rfl rfl (HF.at (by decide) 5 rfl)) (cG 12 true 39 rfl rfl (HF.at (by decide) 5 rfl)) rfl rfl (fun K hK=>?_) (fun K hK=>?_)
 ·refine bO (v0:=.agg (puA f)) (v1:=(.int .i64 0)) rfl (HF.get 4 rfl) rfl (enters_of Tryz.func34 (by kernel_rfl) rfl) ?_
  refine(Jm f P 0 wa (PU.o.more Ma.o) PL.o).mono ?_
  rintro e wb ⟨vl,rfl,rl,hl⟩
  rw[PQ.o] at rl
  obtain⟨al,cl,rfl,_⟩:=rl.reads
  have RL:=hQQ rl
  have Nb:=hQQ hl
  have Mb:=hQQ (Ma.o.trans hl)
  clear rl hl
  refine hK _ _ Mb.o ?_
  clear hK K
  replace HF:=HF.put 41 (.slice al 2 cl) (by decide) rfl
  generalize β19:Act.put _ _ _=A at HF⊢
  refine bo (i:=19) (some 46) (by kernel_rfl) rfl (cG 12 true 39 rfl rfl (HF.at (by decide) 6 rfl)) rfl (fun K hK=>?_)
  refine wD rfl (HF.get 3 rfl) (HF.get 1 rfl) ?_
  obtain⟨wc,ewc,rwwc,mwc,swc⟩:=Jp wb 257 258
  rw[ewc]
  have RB:=hQQ rwwc
  have Nc:=hQQ mwc
  have Mc:=hQQ (Mb.o.trans mwc)
  clear rwwc mwc ewc swc
  refine hK _ _ Mc.o ?_
  clear hK K
  replace HF:=HF.put 46 (.slice (some ⟨wb.heap.size,0,none⟩) 2 2) (by decide) rfl
  generalize β20:Act.put _ _ _=A at HF⊢
  refine bo (i:=20) (some 47) (by kernel_rfl) rfl (cG 12 true 39 rfl rfl (HF.at (by decide) 7 rfl)) rfl (fun K hK=>?_)
  refine bO (v0:=.slice al 2 cl) (v1:=.slice (some ⟨wb.heap.size,0,none⟩) 2 2) rfl (HF.get 1 rfl) (HF.get 0 rfl) (enters_of Tryz.func35 (by kernel_rfl) rfl) ?_
  refine(vx [257,258] _ _ _ _ wc (by simp) (RL.o.more Nc.o) (RB.o)).mono ?_
  rintro e wz ⟨rfl,hl⟩
  have Nz:=hQQ hl
  have Mz:=hQQ (Mc.o.trans hl)
  clear hl
  refine hK _ _ Mz.o ?_
  clear hK K
  replace HF:=HF.put 47 (.bool true) (by decide) rfl
  generalize β21:Act.put _ _ _=A at HF⊢
  refine tqC 21 48 (.bool true) (by kernel_rfl) FINQ Mz.o HF (by exact eG (ab rfl) rfl (HF.get 8 rfl) (HF.get 0 rfl)) fun A β22 HF=>?_
  refine tqM 22 0 0 rfl (.inr rfl) rfl (by kernel_rfl) FINQ Mz.o HF fun A β23 HF=>?_
  exact bU (by kernel_rfl) (FINE _ _ ⟨(.int .i64 0),(.bool true),(.bool true),(.int .i64 0),(.bool true),(.bool true),(.bool true),(.int .i64 256),(.agg dB.arr),(.int .i64 256),(.bool true),(.bool true),(.bool true),(.agg (puA f)),(.int .i64 256),(.int .i64 257),(.int .i64 256),(.int .i64 258),(.slice al 2 cl),(.slice (some ⟨wb.heap.size,0,none⟩) 2 2),(.bool true),(.bool true),Or.inl (by rw[← β23,← β22,← β21,← β20,← β19,← β18,← β17,← β16,← β15,← β14,← β13,← β12,← β11,← β10,← β9,← β8,← β7,← β6,← β5,← β4,← β3,← β2,← β1]<;>rfl),Mz.o⟩)
 ·refine wD rfl (HF.get 2 rfl) (HF.get 0 rfl) ?_
  obtain⟨wb,ewb,rwwb,mwb,swb⟩:=Jp wa 257 258
  rw[ewb]
  have RB:=hQQ rwwb
  have Nb:=hQQ mwb
  have Mb:=hQQ (Ma.o.trans mwb)
  clear rwwb mwb ewb swb
  refine hK _ _ Mb.o ?_
  clear hK K
  replace HF:=HF.put 46 (.slice (some ⟨wa.heap.size,0,none⟩) 2 2) (by decide) rfl
  generalize β19:Act.put _ _ _=A at HF⊢
  refine bo (i:=14) (some 41) (by kernel_rfl) rfl (cG 12 true 39 rfl rfl (HF.at (by decide) 6 rfl)) rfl (fun K hK=>?_)
  refine bO (v0:=.agg (puA f)) (v1:=(.int .i64 0)) rfl (HF.get 5 rfl) rfl (enters_of Tryz.func34 (by kernel_rfl) rfl) ?_
  refine(Jm f P 0 wb (PU.o.more Mb.o) PL.o).mono ?_
  rintro e wc ⟨vl,rfl,rl,hl⟩
  rw[PQ.o] at rl
  obtain⟨al,cl,rfl,_⟩:=rl.reads
  have RL:=hQQ rl
  have Nc:=hQQ hl
  have Mc:=hQQ (Mb.o.trans hl)
  clear rl hl
  refine hK _ _ Mc.o ?_
  clear hK K
  replace HF:=HF.put 41 (.slice al 2 cl) (by decide) rfl
  generalize β20:Act.put _ _ _=A at HF⊢
  refine bo (i:=20) (some 47) (by kernel_rfl) rfl (cG 12 true 39 rfl rfl (HF.at (by decide) 7 rfl)) rfl (fun K hK=>?_)
  refine bO (v0:=.slice al 2 cl) (v1:=.slice (some ⟨wa.heap.size,0,none⟩) 2 2) rfl (HF.get 0 rfl) (HF.get 1 rfl) (enters_of Tryz.func35 (by kernel_rfl) rfl) ?_
  refine(vx [257,258] _ _ _ _ wc (by simp) (RL.o) (RB.o.more Nc.o)).mono ?_
  rintro e wz ⟨rfl,hl⟩
  have Nz:=hQQ hl
  have Mz:=hQQ (Mc.o.trans hl)
  clear hl
  refine hK _ _ Mz.o ?_
  clear hK K
  replace HF:=HF.put 47 (.bool true) (by decide) rfl
  generalize β21:Act.put _ _ _=A at HF⊢
  refine tqC 21 48 (.bool true) (by kernel_rfl) FINQ Mz.o HF (by exact eG (ab rfl) rfl (HF.get 8 rfl) (HF.get 0 rfl)) fun A β22 HF=>?_
  refine tqM 22 0 0 rfl (.inr rfl) rfl (by kernel_rfl) FINQ Mz.o HF fun A β23 HF=>?_
  exact bU (by kernel_rfl) (FINE _ _ ⟨(.int .i64 0),(.bool true),(.bool true),(.int .i64 0),(.bool true),(.bool true),(.bool true),(.int .i64 256),(.agg dB.arr),(.int .i64 256),(.bool true),(.bool true),(.bool true),(.agg (puA f)),(.int .i64 256),(.int .i64 257),(.int .i64 256),(.int .i64 258),(.slice al 2 cl),(.slice (some ⟨wa.heap.size,0,none⟩) 2 2),(.bool true),(.bool true),Or.inr (by rw[← β23,← β22,← β21,← β20,← β19,← β18,← β17,← β16,← β15,← β14,← β13,← β12,← β11,← β10,← β9,← β8,← β7,← β6,← β5,← β4,← β3,← β2,← β1]<;>rfl),Mz.o⟩)
def tkT:TkT:=fun d n bt R H hw hn=>OM R H hw hn
section
variable {pg st:Int}{n:Nat}(H:cF pg st n)
include H
end
section
variable {d:Cfg}{n bt:Nat}(T:o8 d n bt)
variable (R:d.Ok)(H:cF d.pg d.st n)(hw:(n:Int)=d.words)(hn:n≤10000)
include R H hw hn
end
structure EmY (c:Cfg)(v:Value)(fs:Nat→Nat→Value)(o ok:Value)(s:FSt)(g1 g2 bt:Nat)(w:World):Prop where
 st:StB w g1 (c.arr.toList++ [v]) fs o ok
 p0:Pu w (fs 0) s.P0
 p1:Pu w (fs 1) s.P1
 n0:PuN (fun q=>q<g2) (fs 0)
 n1:PuN (fun q=>q<g2) (fs 1)
 bx:∃b,fR g2 w b
 sz:dh bt w
 lt:g1<g2∧0<g2∧bt<g2
structure EmK (c:Cfg)(g1 g4 g5:Nat)(v:Value)(fs:Nat→Nat→Value)(o:Value)(f4 f5:Nat→Value)(w:World):Prop where
 st:w.rangeAt g1 0 c.arr.toList
 h4:w.heap[g4]?=some (.cells (puA f4) 32 (0,0))
 h5:w.heap[g5]?=some (.cells (puA f5) 32 (0,0))
structure EmZ (c:Cfg)(v:Value)(fs:Nat→Nat→Value)(o ok:Value)(s:FSt)(g1 g2 g4 g5:Nat)(f4 f5:Nat→Value)(bt:Nat)(b:Bool)(F:Nat→Prop)(w:World):Prop where
 y:EmY c v fs o ok s g1 g2 bt w
 bx:fR g2 w b
 h4:w.heap[g4]?=some (.cells (puA f4) 32 (0,0))
 h5:w.heap[g5]?=some (.cells (puA f5) 32 (0,0))
 q4:cS (fun q=>False∨F q) w f4 (fun _=> [])
 q5:cS (fun q=>False∨F q) w f5 (fun _=> [])
 nf:¬F g4∧¬F g5
 lt:g2<g4∧g2<g5
section
variable {c:Cfg}{v:Value}{fs:Nat→Nat→Value}{o ok:Value}{s:FSt}{g1 g2 g4 g5 bt:Nat}{f4 f5:Nat→Value}{b:Bool}{F F1 S:Nat→Prop}{w w':World}
end
theorem kW {P:Program}{ops:Array Oper}{rest:List Oper}{op:Oper}{a:Act}{w:World}{Q:Exit→Act→World→Prop}(hw:Region.wanted op (yielded ops a.tmps)=true)(ty:TypeId)(x:Operand)(ho:op.op=.load ty x)
 (b o:Nat) (hx:a.eval x=.pointer (some ⟨b,o,none⟩)) (cs:List Value) (d:TypeDesc) (hc:w.rangeAt b o cs)
 (hu:P.underlying ty=some d) (hd:d.isRow=true) (hi:(P.info? ty).map (·.size)=some cs.length)
 (h:wpList P ops Q rest (a.put op.dst (.agg cs.toArray)) w):wpList P ops Q (op::rest) a w :=
 dU hw fun _ hK=>wp_load_mid ty x ho b o hx cs d hc hu hd hi (hK _ _ h)
def xV (d:Cfg)(P:Nat→List Int)(q:Int):Prg Bool:=if 0<cP P q then az true else aq (j0 d.pg d.st q) fun r=>if r then az true else aq (i5 d.pg d.st 1 1) fun f=>az (decide (0≤f))
def nY (d:Cfg)(u q:Int)(b:Bool):Prg Bool:=if 0<szV q then(if b then az true else aq (cT (fF d.cp d.pg d.st d.ca u q)) fun y=>if 0<y then az true else aq (cT (oz d.cp d.pg d.st d.ca d.bi q)) fun z=>az (decide (0<z))) else az b
theorem qj {q:Int} :0<szV q↔0≤q∧q<5:=by
 unfold szV
 constructor
 ·intro h
  split at h
  ·omega
  ·split at h
   ·omega
   ·split at h
    ·omega
    ·split at h
     ·omega
     ·split at h
      ·omega
      ·omega
 ·intro h
  obtain⟨k,rfl⟩:∃k:Nat,q=k:=⟨q.toNat,by omega⟩
  have:k=0∨k=1∨k=2∨k=3∨k=4:=by omega
  rcases this with rfl|rfl|rfl|rfl|rfl<;>decide
theorem CF {q:Int}(h:0≤q∧q<5):ax q≠0:=by
 obtain⟨k,rfl⟩:∃k:Nat,q=k:=⟨q.toNat,by omega⟩
 have:k=0∨k=1∨k=2∨k=3∨k=4:=by omega
 rcases this with rfl|rfl|rfl|rfl|rfl<;>decide
theorem FQ (d:Cfg)(P:Nat→List Int)(q:Int):bH (xV d P q):=aG (ah _) (ar (tz _ _ _) fun r=>aG (ah _) (ar (te _ _ _ _) fun f=>ah _))
theorem FT (d:Cfg)(u q:Int)(b:Bool):bH (nY d u q b):=aG (aG (ah _) (ar (dl _) fun y=>aG (ah _) (ar (dl _) fun z=>ah _))) (ah _)
section
variable {d:Cfg}{n bt:Nat}(T:o8 d n bt)
def ftP (s:FSt)(x u q:Int):Prg (Bool×Int×Bool):=aq (xV d (s.at x) q) fun b=>aq (nY d u q b) fun b2=>aq (T.tkP u (s.at x) q) fun y=>az (b2,y.1)
theorem Jq (s:FSt)(x u q:Int):bH (ftP T s x u q):=ar (FQ _ _ _) fun b=>ar (FT _ _ _ _) fun b2=>ar (T.tkS _ _ _) fun y=>ah _
variable (R:d.Ok)(H:cF d.pg d.st n)(hw:(n:Int)=d.words)(hn:n≤10000)
include R H hw hn
theorem ql {u q:Int}(hu:0≤u∧u<d.cp)(hq:0≤q∧q<5):(famC d).b (5 * u.toNat+q.toNat)=fF d.cp d.pg d.st d.ca u q∧(famC d).b (5 * d.cp.toNat+q.toNat)=oz d.cp d.pg d.st d.ca d.bi q∧(5 * u.toNat+q.toNat<(famC d).m∧5 * d.cp.toNat+q.toNat<(famC d).m)∧(0≤fF d.cp d.pg d.st d.ca u q∧fF d.cp d.pg d.st d.ca u q<n)∧(0≤oz d.cp d.pg d.st d.ca d.bi q∧oz d.cp d.pg d.st d.ca d.bi q<n):=by
 obtain⟨a1,a2,a3,_⟩:=gK (d:=d) (u:=u.toNat) (c:=q.toNat) (by omega) (by omega)
 obtain⟨b1,b2,b3,_⟩:=j5 (d:=d) (c:=q.toNat) (by have:=R.cp1;omega) (by omega)
 rw[show((u.toNat:Nat):Int)=u by omega,show((q.toNat:Nat):Int)=q by omega] at a2
 rw[show((q.toNat:Nat):Int)=q by omega] at b2
 have F:=mR R hw
 have h1:=F.lo _ a1
 have h2:=F.lo _ b1
 have h3:0≤a8 d.st d.pg:=by have:=H.st1;have:=H.pg1;unfold a8 aY aL;omega
 rw[a2] at h1
 rw[b2] at h2
 exact⟨a2,b2,⟨a1,b1⟩,⟨by omega,by omega⟩,⟨by omega,by omega⟩⟩
theorem Jr (P:Nat→List Int)(q:Int):bZ n (fun _=>True) (xV d P q):=aN (fun _=>ai n trivial) (fun _=>aw (tZ H _) fun r _=>aN (fun _=>ai n trivial) (fun _=>aw (kG H.toPgIn _ _) fun f _=>ai n trivial))
theorem Js {u:Int}(hu:0≤u∧u<d.cp)(q:Int)(b:Bool):bZ n (fun _=>True) (nY d u q b):=aN (fun h=>by
 obtain⟨_,_,_,c4,c5⟩:=ql R H hw hn hu (qj.1 h)
 exact aN (fun _=>ai n trivial) (fun _=>aw (a6 n c4.2) fun y _=>aN (fun _=>ai n trivial) (fun _=>aw (a6 n c5.2) fun z _=>ai n trivial))) (fun _=>ai n trivial)
theorem DM {s:FSt}(h:OkS d s)(x:Int){u:Int}(hu:0≤u∧u<d.cp)(q:Int):bZ n (fun _=>True) (ftP T s x u q):=aw (Jr R H hw hn _ _) fun b _=>aw (Js R H hw hn hu _ _) fun b2 _=>aw (T.tkG _ _ _ (h.at x)) fun y _=>ai n trivial
theorem Jt (P:Nat→List Int)(q:Int):ci n (xV d P q) (fun ws=>(decide (0<cP P q) ||(jg d.pg d.st q ws ||decide (0≤fO d.pg d.st 1 1 ws)),ws)):=by
 refine aX (bh (fun _=>au n true) (fun _=>aC (vT H q) fun r=>bh (fun _=>au n true) (fun _=>aC (qP H.toPgIn 1 1) fun f=>au n (decide (0≤f))))) fun ws _=>?_
 by_cases h:0<cP P q
 ·simp[h]
 ·cases hr:jg d.pg d.st q ws<;>simp[h,hr]
theorem Ju {u:Int}(hu:0≤u∧u<d.cp)(q:Int)(b:Bool):ci n (nY d u q b) (fun ws=>(b ||(decide (0<szV q) && (decide (0<wAt ws (fF d.cp d.pg d.st d.ca u q)) ||decide (0<wAt ws (oz d.cp d.pg d.st d.ca d.bi q)))),ws)):=by
 by_cases hq:0<szV q
 ·obtain⟨_,_,_,c4,c5⟩:=ql R H hw hn hu (qj.1 hq)
  refine aX (bh (fun _=>bh (fun _=>au n true) (fun _=>aC (dI c4.1 c4.2) fun y=>bh (fun _=>au n true) (fun _=>aC (dI c5.1 c5.2) fun z=>au n (decide (0<z))))) (fun _=>au n b)) fun ws _=>?_
  cases b
  ·by_cases h:0<wAt ws (fF d.cp d.pg d.st d.ca u q)<;>simp[hq,h]
  ·simp[hq]
 ·unfold nY
  rw[if_neg hq]
  exact aX (au n b) fun ws _=>by simp[hq]
theorem Oz {s:FSt}(h:OkS d s){zs:List Int}(hlz:zs.length=n)(hz:OkW zs)(Fq9:FrS d n s zs)(x:Int){u:Int}(hu:0≤u∧u<d.cp)(q:Int):∃xs K,doP (fun K=>fY (ftP T s x u q (look K) [])) zs (zs.length+1) []=some (xs,K)∧∀K,jU zs K→∀y D,ftP T s x u q (look K) []=.ok y D→y.2.2=(decide (0<szV q) && y.1)∧(y.2.2=false→y.2.1=0)∧(y.2.2=true→d.us≤y.2.1∧0<szV q∧y.2.1 % szV q=0):=by
 subst hlz
 have FLT:=aC (Jt R H hw hn (s.at x) q) fun b=>aC (Ju R H hw hn hu q b) fun b2=>aC (T.tkF u (s.at x) q (h.at x)) fun y=>au zs.length (b2,y.1)
 obtain⟨K,hK,_,hans⟩:=CX (Jq T s x u q) (DM T R H hw hn h x hu q) hz FLT
 refine⟨_,K,hK,fun K hK y D e=>?_⟩
 rw[hans K hK y D e]
 obtain⟨f1,f2,f3⟩:=Jn R H hw hn Fq9 x (u:=u) (c:=q) hu
 refine⟨?_,f2,f3⟩
 have G: -1≤fO d.pg d.st 1 1 zs:=by
  obtain⟨D1,e1,_,_⟩:=qP H.toPgIn 1 1 zs [] rfl hz (dP _)
  exact((kG H.toPgIn 1 1).ok (jX hz) (dP _) e1).2.1
 by_cases hq:0<szV q
 ·have hq5:=qj.1 hq
  obtain⟨a2,b2,⟨a1,b1⟩,_,_⟩:=ql R H hw hn hu hq5
  obtain⟨C,hC⟩:=Fq9.fri
  have c1:=(hC.keeps _ a1).cnt
  have c2:=(hC.keeps _ b1).cnt
  rw[a2] at c1 f1
  rw[b2] at c2 f1
  have sl:=CF hq5
  obtain⟨k,rfl⟩:∃k:Nat,q=k:=⟨q.toNat,by omega⟩
  have hk:k<5:=by omega
  have ln:=dR (s.at x) hk
  have l0:(s.at x k≠ [])↔0<(s.at x k).length:=by rw[List.length_pos_iff]
  rw[show(k:Int).toNat=k from rfl,l0] at f1
  simp only[hq,decide_true,Bool.true_and,ln]
  rw[Bool.eq_iff_iff,f1]
  simp only[Bool.or_eq_true,decide_eq_true_eq]
  have r1:(wAt zs (fF d.cp d.pg d.st d.ca u k)≠0)↔0<wAt zs (fF d.cp d.pg d.st d.ca u k):=by rw[c1];omega
  have r2:(wAt zs (oz d.cp d.pg d.st d.ca d.bi k)≠0)↔0<wAt zs (oz d.cp d.pg d.st d.ca d.bi k):=by rw[c2];omega
  have r3:(fO d.pg d.st 1 1 zs≠ -1)↔0≤fO d.pg d.st 1 1 zs:=by omega
  rw[r1,r2,r3]
  constructor
  ·rintro⟨_,_,q|q|q|⟨_,q|q⟩⟩
   ·exact .inl (.inl (by omega))
   ·exact .inr (.inl q)
   ·exact .inr (.inr q)
   ·exact .inl (.inr (.inl q))
   ·exact .inl (.inr (.inr q))
  ·rintro((q|q|q)|q|q)
   ·exact⟨by omega,by omega,.inl (by omega)⟩
   ·exact⟨by omega,by omega,.inr (.inr (.inr ⟨sl,.inl q⟩))⟩
   ·exact⟨by omega,by omega,.inr (.inr (.inr ⟨sl,.inr q⟩))⟩
   ·exact⟨by omega,by omega,.inr (.inl q)⟩
   ·exact⟨by omega,by omega,.inr (.inr (.inl q))⟩
 ·have hn5:¬(0≤q∧q<5):=fun z=>hq (qj.2 z)
  have:(tkW d u (s.at x) q zs).1.1.2=false:=by
   cases e:(tkW d u (s.at x) q zs).1.1.2 with
   |false=>rfl
   |true=>exact absurd ⟨(f1.1 e).1,(f1.1 e).2.1⟩ hn5
  simp[hq,this]
end
structure FtK (c:Cfg)(g1 gn gu gq xn:Nat)(u q:Int)(f:Array Value)(W:World):Prop where
 st:W.rangeAt g1 0 c.arr.toList
 pu:W.rangeAt g1 (25+xn * 5) f.toList
 bn:W.heap[gn]?=some (.cells #[.int .i64 (xn:Int)] 3 (0,0))
 bu:W.heap[gu]?=some (.cells #[.int .i64 u] 3 (0,0))
 bq:W.heap[gq]?=some (.cells #[.int .i64 q] 3 (0,0))
structure FtY (c:Cfg)(v:Value)(fs:Nat→Nat→Value)(o ok:Value)(P:Nat→List Int)(g1 bt ga gn gu gq xn:Nat)(u q:Int)(w:World):Prop where
 st:StB w g1 (c.arr.toList++ [v]) fs o ok
 pu:Pu w (fs xn) P
 pn:PuN (fun k=>k<ga) (fs xn)
 bn:w.heap[gn]?=some (.cells #[.int .i64 (xn:Int)] 3 (0,0))
 bu:w.heap[gu]?=some (.cells #[.int .i64 u] 3 (0,0))
 bq:w.heap[gq]?=some (.cells #[.int .i64 q] 3 (0,0))
 ba:∃z,w.heap[ga]?=some (.cells #[.int .i64 z] 3 (0,0))
 bb:(∃b,fR (ga+1) w b)∧∃b,fR (ga+2) w b
 sz:dh bt w
 lt:g1<ga∧gn<ga∧gu<ga∧gq<ga∧0<ga∧bt<ga
def FtB (ga:Nat)(w:World):Prop:=(∃z,w.heap[ga]?=some (.cells #[.int .i64 z] 3 (0,0)))∧(∃b,fR (ga+1) w b)∧∃b,fR (ga+2) w b
def FtX (c:Cfg)(ga:Nat)(q:Int)(w:World):Prop:=∃(b t:Bool) (z:Int),fR (ga+2) w b∧w.heap[ga]?=some (.cells #[.int .i64 z] 3 (0,0))∧fR (ga+1) w t∧t=(decide (0<szV q) && b)∧(t=false→z=0)∧(t=true→c.us≤z∧0<szV q∧z % szV q=0)
abbrev FtW (c:Cfg)(v:Value)(fs:Nat→Nat→Value)(o ok:Value)(P:Nat→List Int)(g1 bt ga gn gu gq xn:Nat)(u q:Int)(p:Nat)(kn:Int→Option Int)(W0:World)(F:Nat→Prop){α:Type}(Rr:Res α):Ending→World→Prop :=
 jc W0 F (fun b=>ga≤b∧b≤ga+2) (fun w=>FtY c v fs o ok P g1 bt ga gn gu gq xn u q w) (fun w=>FtX c ga q w) p kn (fY Rr)
def uY {c:Cfg}{n bt:Nat}(T:o8 c n bt)(P:Nat→List Int)(u q:Int)(b2:Bool):Prg (Bool×Int×Bool):=aq (T.tkP u P q) fun y=>az (b2,y.1)
theorem iI {w:World}{g b:Nat}{v:Value}{o:Obj}(hne:b≠g)(h:w.heap[b]?=some o):(w.setCell ⟨g,0,none⟩ v).heap[b]?=some o:=(Turned.setCell (S:=fun k=>k=g) (Turned.refl _ w) _ _ (fun _=>rfl)).block b (ac h) hne |>.trans h
section
variable {c:Cfg}{v:Value}{fs:Nat→Nat→Value}{o ok:Value}{P:Nat→List Int}{g1 bt ga gn gu gq xn:Nat}{u q:Int}{F F1 S:Nat→Prop}{w w':World}
theorem FtY.keep (h:FtY c v fs o ok P g1 bt ga gn gu gq xn u q w)(t:Turned S w w')(n:∀k,S k→ga≤k)(b:FtB ga w'):FtY c v fs o ok P g1 bt ga gn gu gq xn u q w':=by
 obtain⟨l1,l2,l3,l4,l5,l6⟩:=h.lt
 have k:∀g o,g<ga→w.heap[g]?=some o→w'.heap[g]?=some o:=fun g o hg ho=>(t.block g (ac ho) (fun q=>by have:=n g q;omega)).trans ho
 exact⟨h.st.keep t (fun q=>by have:=n _ q;omega),h.pu.off (fun c hc q e z=>by have:q<ga:=h.pn c hc q e;have:=n q z;omega) t,h.pn,k _ _ l2 h.bn,k _ _ l3 h.bu,k _ _ l4 h.bq,b.1,b.2,h.sz.keep t (fun q=>by have:=n _ q;omega) (fun q=>by have:=n _ q;omega),h.lt⟩
theorem FtY.bx (h:FtY c v fs o ok P g1 bt ga gn gu gq xn u q w)(ng:∀q,F q→ga+2<q)(k:∀g o,¬F g→w.heap[g]?=some o→w'.heap[g]?=some o):FtB ga w':=by
 obtain⟨z,hz⟩:=h.ba
 obtain⟨⟨b,hb⟩,⟨b',hb'⟩⟩:=h.bb
 exact⟨⟨z,k _ _ (fun q=>by have:=ng _ q;omega) hz⟩,⟨b,k _ _ (fun q=>by have:=ng _ q;omega) hb⟩,⟨b',k _ _ (fun q=>by have:=ng _ q;omega) hb'⟩⟩
theorem FtY.more (h:FtY c v fs o ok P g1 bt ga gn gu gq xn u q w)(m:ae w w'):FtY c v fs o ok P g1 bt ga gn gu gq xn u q w':=h.keep m (fun _ q=>q.elim) (h.bx (F:=fun _=>False) (fun _ q=>q.elim) (fun g o _ ho=>m.block ho))
theorem FtY.setI (h:FtY c v fs o ok P g1 bt ga gn gu gq xn u q w){g:Nat}(hg:ga≤g){x:Value}(b:FtB ga (w.setCell ⟨g,0,none⟩ x)):FtY c v fs o ok P g1 bt ga gn gu gq xn u q (w.setCell ⟨g,0,none⟩ x):=
 h.keep (S:=fun k=>k=g) (Turned.setCell (Turned.refl _ w) _ _ (fun _=>rfl)) (fun k e=>by omega) b
theorem FtY.setB (h:FtY c v fs o ok P g1 bt ga gn gu gq xn u q w){b0:Bool}(hb:fR (ga+2) w b0)(x:Bool):FtY c v fs o ok P g1 bt ga gn gu gq xn u q (w.setCell ⟨ga+2,0,none⟩ (.bool x)):=by
 obtain⟨z,hz⟩:=h.ba
 obtain⟨⟨b,hb1⟩,_⟩:=h.bb
 exact h.setI (by omega) ⟨⟨z,iI (by omega) hz⟩,⟨b,iI (by omega) hb1⟩,⟨x,jC hb x⟩⟩
theorem FtY.setT (h:FtY c v fs o ok P g1 bt ga gn gu gq xn u q w){b0:Bool}(hb:fR (ga+1) w b0)(x:Bool):FtY c v fs o ok P g1 bt ga gn gu gq xn u q (w.setCell ⟨ga+1,0,none⟩ (.bool x)):=by
 obtain⟨z,hz⟩:=h.ba
 obtain⟨_,⟨b,hb1⟩⟩:=h.bb
 exact h.setI (by omega) ⟨⟨z,iI (by omega) hz⟩,⟨x,jC hb x⟩,⟨b,iI (by omega) hb1⟩⟩
theorem FtY.setA (h:FtY c v fs o ok P g1 bt ga gn gu gq xn u q w){b0:Int}(hb:w.heap[ga]?=some (.cells #[.int .i64 b0] 3 (0,0)))(x:Int):FtY c v fs o ok P g1 bt ga gn gu gq xn u q (w.setCell ⟨ga,0,none⟩ (.int .i64 x)):=by
 obtain⟨⟨b,hb1⟩,⟨b',hb2⟩⟩:=h.bb
 exact h.setI (by omega) ⟨⟨x,eV hb _⟩,⟨b,iI (by omega) hb1⟩,⟨b',iI (by omega) hb2⟩⟩
theorem FtY.k (h:FtY c v fs o ok P g1 bt ga gn gu gq xn u q w)(hx:xn<2):FtK c g1 gn gu gq xn u q (puA (fs xn)) w:=⟨h.st.lay,h.st.range hx,h.bn,h.bu,h.bq⟩
end
theorem xW {o:Oper}{a:Act}{w:World}{K:Act→World→Prop}{Q:Exit→Act→World→Prop}{x y:Operand}(ho:o.op=.store 3 x y)(g:Nat)(hx:a.eval x=.pointer (some ⟨g,0,none⟩)){z:Int}(hy:a.eval y=.int .i64 z)(v:Value)(hb:w.heap[g]?=some (.cells #[v] 3 (0,0)))(h:K (a.put o.dst undef) (w.setCell ⟨g,0,none⟩ (.int .i64 z))):Oper.wp Tryz.prog o a w K Q:=by
 obtain⟨hc,hf,hl⟩:w.cell? ⟨g,0,none⟩=some v∧w.frozen? ⟨g,0,none⟩=false∧g<w.heap.size:=⟨by simp[World.cell?,hb],by simp[World.frozen?,hb],ac hb⟩
 unfold Oper.wp Oper.upon execOp
 simp only[ho,hx,hy]
 go_simp
 exact h
theorem ow {ops:Array Oper}{C:World→Prop}{o':Oper}{a:Act}{x y:Operand}{g off m:Nat}(hw:Region.wanted o' (yielded ops a.tmps)=true)(ho:o'.op=.indexAddr 33 x y)(hx:a.eval x=.pointer (some ⟨g,off,none⟩))(hy:a.eval y=.int .i64 (m:Int))(hm:m<2):bM Tryz.prog ops C o' (.pointer (some ⟨g,off+m * 5,none⟩)) a:=by
 have d1:decide (m<2)=true:=by simp[hm]
 refine .inl ⟨hw,fun W hW=>?_⟩
 unfold execOp
 generalize a.eval=ρ at hx hy⊢
 simp only[ho,hx,hy]
 go_simp
 intro h
 exact absurd h (by omega)
theorem Nt {c:Cfg}(R:c.Ok){n bt:Nat}(T:o8 c n bt)(H:cF c.pg c.st n)(hw:(n:Int)=c.words)(hn:n≤10000)(F:Nat→Prop)(p g1 ga gn gu gq xn:Nat)(u q:Int)(kn:Int→Option Int)(W0:World)(P:Nat→List Int)(hlm:dr c P)(v:Value)(fs:Nat→Nat→Value)(o ok:Value)(hxn:xn<2)(hu:0≤u∧u<c.cp)(hv:aF W0 F p kn [])(hk:OkK kn)(hY:FtY c v fs o ok P g1 bt ga gn gu gq xn u q W0)(hF:∀q,F q→ga+2<q)
 (ht:∀y D,aq (xV c P q) (fun b=>aq (nY c u q b) (uY T P u q)) kn []=.ok y D→y.2.2=(decide (0<szV q) && y.1)∧(y.2.2=false→y.2.1=0)∧(y.2.2=true→c.us≤y.2.1∧0<szV q∧y.2.1 % szV q=0)):
 Calls Tryz.prog 23 #[.pointer (some ⟨p,0,none⟩),.pointer (some ⟨g1,0,none⟩),.pointer (some ⟨gn,0,none⟩),.pointer (some ⟨gq,0,none⟩),.pointer (some ⟨ga+2,0,none⟩),.pointer (some ⟨gu,0,none⟩),.pointer (some ⟨ga,0,none⟩),.pointer (some ⟨ga+1,0,none⟩)] W0 (FtW c v fs o ok P g1 bt ga gn gu gq xn u q p kn W0 F (aq (xV c P q) (fun b=>aq (nY c u q b) (uY T P u q)) kn [])):=by
 obtain⟨Rr,hR⟩:∃Rr,aq (xV c P q) (fun b=>aq (nY c u q b) (uY T P u q)) kn []=Rr:=⟨_,rfl⟩
 rw[hR] at ht⊢
 have HT:=hQQ ht
 have HK:=hQQ hk
 have HR:=hQQ R
 have HH:=hQQ H
 have HW:=hQQ hw
 have HN:=hQQ hn
 have HU:=hQQ hu
 have HLM:=hQQ hlm
 have HXN:=hQQ hxn
 have XN:Hq (decide (xn<2)=true):=hQQ (by simp[hxn])
 have KT:Hq (∀wr,Turned (fun b=>F b∨ga≤b∧b≤ga+2) W0 wr→FtB ga wr→FtY c v fs o ok P g1 bt ga gn gu gq xn u q wr):=hQQ fun wr t b=>hY.keep t (by rintro k (z|z);have:=hF k z;omega;omega) b
 have LG:Hq (ga+2<W0.heap.size):=hQQ (by obtain⟨_,⟨b,hb⟩⟩:=hY.bb;exact ac hb)
 have FG:Hq (∀wr D' F',MidV W0 wr F (fun b=>ga≤b∧b≤ga+2) p kn n D' F'→∀q,F' q→ga+2<q):=hQQ fun wr D' F' h q hq=>by rcases h.from' q hq with r|r;exact hF q r;have:=LG.o;omega
 have NB:Hq (∀wr D' F',MidV W0 wr F (fun b=>ga≤b∧b≤ga+2) p kn n D' F'→∀g,g≤ga+2→¬F' g):=hQQ fun wr D' F' h g hg q=>by have:=FG.o _ _ _ h _ q;omega
 have NZ:Hq (∀wr D' F',MidV W0 wr F (fun b=>ga≤b∧b≤ga+2) p kn n D' F'→¬F' 0∧¬F' bt):=hQQ fun wr D' F' h=>⟨NB.o _ _ _ h _ (by omega),NB.o _ _ _ h _ (by have:=hY.lt;omega)⟩
 have NEED:Hq (∀x w2,Rr=.need x→bJ w2 p x→Turned (fun b=>F b∨ga≤b∧b≤ga+2) W0 w2→FtB ga w2→FtW c v fs o ok P g1 bt ga gn gu gq xn u q p kn W0 F Rr (.panicked (bB p)) w2):=hQQ fun x w2 e hd' ht' q =>
  wT (oE e) hd' ht' (KT.o _ ht' q)
 have KC:Hq (∀W D' F',(MidV W0 W F (fun b=>ga≤b∧b≤ga+2) p kn n D' F'∧FtY c v fs o ok P g1 bt ga gn gu gq xn u q W)→FtK c g1 gn gu gq xn u q (puA (fs xn)) W):=hQQ fun W D' F' h=>h.2.k hxn
 have KC2:=hQQ KC.o
 have FSET:Hq (∀wx D5 F5 b0 b2,(MidV W0 wx F (fun b=>ga≤b∧b≤ga+2) p kn n D5 F5∧FtY c v fs o ok P g1 bt ga gn gu gq xn u q wx)→fR (ga+2) wx b0→uY T P u q b2 kn D5=Rr→∃(b3:Bool) (D6:List KV) (F6:Nat→Prop),((MidV W0 (wx.setCell ⟨ga+2,0,none⟩ (.bool b2)) F (fun b=>ga≤b∧b≤ga+2) p kn n D6 F6∧FtY c v fs o ok P g1 bt ga gn gu gq xn u q (wx.setCell ⟨ga+2,0,none⟩ (.bool b2)))∧fR (ga+2) (wx.setCell ⟨ga+2,0,none⟩ (.bool b2)) b3)∧aq (T.tkP u P q) (fun y=>az (b3,y.1)) kn D6=Rr):=hQQ fun wx D5 F5 b0 b2 h hb e =>
  ⟨b2,D5,F5,⟨⟨h.1.setI (fun _=>by omega) (NB.o _ _ _ h.1 _ (by omega)) hb _,h.2.setB hb _⟩,jC hb _⟩,e⟩
 have M0:Hq (MidV W0 W0 F (fun b=>ga≤b∧b≤ga+2) p kn n [] F∧FtY c v fs o ok P g1 bt ga gn gu gq xn u q W0):=hQQ ⟨MidV.begin hv (dP n),hY⟩
 have R0:=hQQ hR
 clear hv hk R H hw hn hR ht hY hlm hu
 go_enter Tryz.func23,Tryz.ntmps23
 go_wp2_with fail
 refine aO (fun W=>FtK c g1 gn gu gq xn u q (puA (fs xn)) W) (by kernel_rfl) ?_
 have MR:Hq ((MidV W0 (W0.drewN 1) F (fun b=>ga≤b∧b≤ga+2) p kn n [] F∧FtY c v fs o ok P g1 bt ga gn gu gq xn u q (W0.drewN 1))):=hQQ ⟨M0.o.1.more ((ae.refl W0).drewN 1),M0.o.2.more ((ae.refl W0).drewN 1)⟩
 change dg _ _ _ _ _ _ _ _ (W0.drewN 1)
 generalize W0.drewN 1=wq at MR⊢
 generalize hA:Act.mk _ _=A
 have HF:AG 67 A [(0,.pointer (some ⟨p,0,none⟩)),(1,.pointer (some ⟨g1,0,none⟩)),(2,.pointer (some ⟨gn,0,none⟩)),(3,.pointer (some ⟨gq,0,none⟩)),(4,.pointer (some ⟨ga+2,0,none⟩)),(5,.pointer (some ⟨gu,0,none⟩)),(6,.pointer (some ⟨ga,0,none⟩)),(7,.pointer (some ⟨ga+1,0,none⟩))]:=by
  rw[←hA];try simp only[pts,List.foldl]
  refine⟨⟨Nat.le_of_ble_eq_true rfl,rfl⟩,?_⟩
  intro z hz;simp only[List.mem_cons,List.not_mem_nil,or_false] at hz;rcases hz with rfl|rfl|rfl|rfl|rfl|rfl|rfl|rfl<;>rfl
 refine bL (fun aa W=>∃(u9 u10 u11 u12 u13 u14 u15 u16 u17 u18 u19 u20 u21 u22 u23 u24 u25 u26 u27 u28 u29:Value) (b9:Bool) (D9:List KV) (F9:Nat→Prop),aa=(Act.put (pts A [(9,u9),(10,u10),(11,u11),(12,u12),(13,u13),(14,u14),(15,u15),(16,u16),(17,u17),(18,u18),(19,u19),(20,u20),(21,u21),(22,u22),(23,u23),(24,u24),(25,u25),(26,u26),(27,u27),(28,u28),(29,u29)]) none undef)∧((MidV W0 W F (fun b=>ga≤b∧b≤ga+2) p kn n D9 F9∧FtY c v fs o ok P g1 bt ga gn gu gq xn u q W)∧fR (ga+2) W b9)∧aq (nY c u q b9) (uY T P u q) kn D9=Rr) (fun W=>FtW c v fs o ok P g1 bt ga gn gu gq xn u q p kn W0 F Rr (.panicked (bB p)) W) (bB p) (fun a W hd h=>⟨hd,h⟩) (fun _ _ _ _ _ h=>h) ?_ ?_
 ·skip
  rintro a9 w9 ⟨u9,u10,u11,u12,u13,u14,u15,u16,u17,u18,u19,u20,u21,u22,u23,u24,u25,u26,u27,u28,u29,b9,D9,F9,rfl,hm9,R9'⟩
  rw[←hA];try simp only[pts,List.foldl]
  have M9:=hQQ hm9.1
  have B9:=hQQ hm9.2
  have R9:=hQQ R9'
  clear HF hA MR M0 R0 KC R9'
  obtain⟨yq,fq,_⟩:=aA hm9.1.2.bq
  clear hm9
  go_simp
  go_wp2_with fail
  refine(lz q w9 ⟨bt,M9.o.2.sz⟩).mono ?_
  rintro e w10 ⟨rfl,e10⟩
  subst e10
  go_upto_if 32 with fail
  go_cut [] from 30 to 52 (fun wx=>∃(b2:Bool) (D5:List KV) (F5:Nat→Prop),((MidV W0 wx F (fun b=>ga≤b∧b≤ga+2) p kn n D5 F5∧FtY c v fs o ok P g1 bt ga gn gu gq xn u q wx)∧fR (ga+2) wx b2)∧aq (T.tkP u P q) (fun y=>az (b2,y.1)) kn D5=Rr)
  case first =>
   by_cases hsz:0<szV q
   ·have d1:decide (0<szV q)=true:=by simp[hsz]
    obtain⟨yb,fb,_⟩:=aA B9.o
    have hq5:=qj.1 hsz
    obtain⟨_,_,_,hc4,hc5⟩:=ql HR.o HH.o HW.o HN.o HU.o hq5
    cases b9 with
    |true =>
     have R1:=hQQ (show aq (T.tkP u P q) (fun y=>az (true,y.1)) kn D9=Rr from by rw[←R9.o];unfold nY;rw[if_pos hsz];rfl)
     have FIN:=hQQ (FSET.o _ D9 F9 true true M9.o B9.o R1.o)
     clear R9 R1 M9 B9
     go_wp2_with fail
     go_meet
     case rel=>exact FIN.o
    |false =>
     have R1:=hQQ (show aq (cT (fF c.cp c.pg c.st c.ca u q)) (fun y=>aq (if 0<y then az true else aq (cT (oz c.cp c.pg c.st c.ca c.bi q)) fun z=>az (decide (0<z))) (uY T P u q)) kn D9=Rr from by rw[←R9.o];unfold nY;rw[if_pos hsz];simp only[Bool.false_eq_true,if_false];rw[cM])
     obtain⟨yu,fu,_⟩:=aA M9.o.2.bu
     have RG9:=hQQ M9.o.2.st.lay
     have W4:Hq (W64 (fF c.cp c.pg c.st c.ca u q)):=hQQ (by have:=HN.o;constructor<;>omega)
     have W5:Hq (W64 (oz c.cp c.pg c.st c.ca c.bi q)):=hQQ (by have:=HN.o;constructor<;>omega)
     have L4:=hQQ hc4.2
     have L5:=hQQ hc5.2
     clear R9 hc4 hc5
     go_wp2_with (refine kW rfl 28 _ rfl g1 0 rfl c.arr.toList _ RG9.o Tryz.underlying28 rfl (by kernel_rfl) ?_)
     refine(Au HR.o _ u q).mono ?_
     rintro e w10 ⟨rfl,h10⟩
     have M10:Hq (MidV W0 w10 F (fun b=>ga≤b∧b≤ga+2) p kn n D9 F9∧FtY c v fs o ok P g1 bt ga gn gu gq xn u q w10):=hQQ ⟨M9.o.1.more h10,M9.o.2.more h10⟩
     have B10:Hq (fR (ga+2) w10 false):=hQQ (h10.block B9.o)
     clear h10 M9 B9 RG9
     go_wp2_with fail
     refine(iK F9 p kn D9 _ w10 M10.o.1.view W4.o).mono ?_
     intro e w11 he
     rcases M10.o.1.step (ae.refl _) HK.o (a6 n L4.o) he with⟨a',hE,rfl,hd',ht',hk'⟩|⟨y1,D1,F1,hE,rfl,M',hq',hk',hf'⟩
     ·exact⟨rfl,NEED.o a' w11 (R1.o.symm.trans (ag hE)) hd' ht' (M10.o.2.bx (FG.o _ _ _ M10.o.1) hk')⟩
     have R2:=(aj hE).symm.trans R1.o
     have M11:Hq (MidV W0 w11 F (fun b=>ga≤b∧b≤ga+2) p kn n D1 F1∧FtY c v fs o ok P g1 bt ga gn gu gq xn u q w11):=hQQ ⟨M',KT.o _ M'.turn (M10.o.2.bx (FG.o _ _ _ M10.o.1) hk')⟩
     have B11:Hq (fR (ga+2) w11 false):=hQQ (hk' _ _ (NB.o _ _ _ M10.o.1 _ (by omega)) B10.o)
     clear he hE hk' hf' hq' M' R1 M10 B10 yq fq yb fb yu fu
     obtain⟨yb,fb,_⟩:=aA B11.o
     obtain⟨yq,fq,_⟩:=aA M11.o.2.bq
     by_cases hy:0<y1
     ·have d2:decide (0<y1)=true:=by simp[hy]
      rw[if_pos hy] at R2
      have FIN:=hQQ (FSET.o _ D1 F1 false true M11.o B11.o R2)
      clear R2 M11 B11
      go_wp2_with fail
      go_meet
      case rel=>exact FIN.o
     ·have d2:decide (0<y1)=false:=by simp[hy]
      rw[if_neg hy,cM] at R2
      have R2:=hQQ R2
      have RG11:=hQQ M11.o.2.st.lay
      go_wp2_with (refine kW rfl 28 _ rfl g1 0 rfl c.arr.toList _ RG11.o Tryz.underlying28 rfl (by kernel_rfl) ?_)
      refine(NU HR.o w11 q).mono ?_
      rintro e w12 ⟨rfl,h12⟩
      have M12:Hq (MidV W0 w12 F (fun b=>ga≤b∧b≤ga+2) p kn n D1 F1∧FtY c v fs o ok P g1 bt ga gn gu gq xn u q w12):=hQQ ⟨M11.o.1.more h12,M11.o.2.more h12⟩
      have B12:Hq (fR (ga+2) w12 false):=hQQ (h12.block B11.o)
      clear h12 M11 B11 RG11
      go_wp2_with fail
      refine(iK F1 p kn D1 _ w12 M12.o.1.view W5.o).mono ?_
      intro e w13 he
      rcases M12.o.1.step (ae.refl _) HK.o (a6 n L5.o) he with⟨a',hE,rfl,hd',ht',hk'⟩|⟨y3,D3,F3,hE,rfl,M',hq',hk',hf'⟩
      ·exact⟨rfl,NEED.o a' w13 (R2.o.symm.trans (ag hE)) hd' ht' (M12.o.2.bx (FG.o _ _ _ M12.o.1) hk')⟩
      have R3:=(aj hE).symm.trans R2.o
      have M13:MidV W0 w13 F (fun b=>ga≤b∧b≤ga+2) p kn n D3 F3∧FtY c v fs o ok P g1 bt ga gn gu gq xn u q w13:=⟨M',KT.o _ M'.turn (M12.o.2.bx (FG.o _ _ _ M12.o.1) hk')⟩
      have B13:fR (ga+2) w13 false:=hk' _ _ (NB.o _ _ _ M12.o.1 _ (by omega)) B12.o
      have FIN:=hQQ (FSET.o _ D3 F3 false (decide (0<y3)) M13 B13 R3)
      clear he hE hk' hf' hq' M' R2 M12 B12 yq fq yb fb R3
      obtain⟨yb,fb,_⟩:=aA B13
      clear M13 B13
      go_wp2_with fail
      go_meet
      case rel=>exact FIN.o
   ·have d1:decide (0<szV q)=false:=by simp[hsz]
    have R1:=hQQ (show aq (T.tkP u P q) (fun y=>az (b9,y.1)) kn D9=Rr from by rw[←R9.o];unfold nY;rw[if_neg hsz];rfl)
    clear R9
    go_wp2_with fail
    go_meet
    case rel=>exact⟨b9,D9,F9,⟨M9.o,B9.o⟩,R1.o⟩
  case rest =>
   obtain⟨b2,D5,F5,hm5,R5'⟩:=hcut
   have M5:=hQQ hm5.1
   have B5:=hQQ hm5.2
   have R5:=hQQ R5'
   have KC:=hQQ KC2.o
   clear M9 B9 R9 hm5 R5' yq fq
   go_wp2_with fail
   refine aO (fun W=>FtK c g1 gn gu gq xn u q (puA (fs xn)) W) (by kernel_rfl) ?_
   have MR:Hq ((MidV W0 (wc.drewN 1) F (fun b=>ga≤b∧b≤ga+2) p kn n D5 F5∧FtY c v fs o ok P g1 bt ga gn gu gq xn u q (wc.drewN 1))):=hQQ ⟨M5.o.1.more ((ae.refl wc).drewN 1),M5.o.2.more ((ae.refl wc).drewN 1)⟩
   have BR:Hq (fR (ga+2) (wc.drewN 1) b2):=hQQ (((ae.refl wc).drewN 1).block B5.o)
   change dg _ _ _ _ _ _ _ _ (wc.drewN 1)
   generalize wc.drewN 1=wq at MR BR⊢
   generalize hA:Act.mk _ _=A
   have HF:AG 67 A [(0,.pointer (some ⟨p,0,none⟩)),(1,.pointer (some ⟨g1,0,none⟩)),(2,.pointer (some ⟨gn,0,none⟩)),(3,.pointer (some ⟨gq,0,none⟩)),(4,.pointer (some ⟨ga+2,0,none⟩)),(5,.pointer (some ⟨gu,0,none⟩)),(6,.pointer (some ⟨ga,0,none⟩)),(7,.pointer (some ⟨ga+1,0,none⟩))]:=by
    rw[←hA];try simp only[pts,List.foldl]
    refine⟨⟨Nat.le_of_ble_eq_true rfl,rfl⟩,?_⟩
    intro z hz;simp only[List.mem_cons,List.not_mem_nil,or_false] at hz;rcases hz with rfl|rfl|rfl|rfl|rfl|rfl|rfl|rfl<;>rfl
   refine bL (fun aa W=>∃(u54 u55 u56 u57 u58 u59 u60 u61 u62 u63 u53 u64 u65 u66:Value) (y9:Int×Bool) (D9:List KV) (F9:Nat→Prop),aa=(Act.put (pts A [(54,u54),(55,u55),(56,u56),(57,u57),(58,u58),(59,u59),(60,u60),(61,u61),(62,u62),(63,u63),(53,u53),(64,u64),(65,u65),(66,u66)]) none undef)∧((MidV W0 W F (fun b=>ga≤b∧b≤ga+2) p kn n D9 F9∧FtY c v fs o ok P g1 bt ga gn gu gq xn u q W)∧fR (ga+2) W b2∧W.heap[ga]?=some (.cells #[.int .i64 y9.1] 3 (0,0))∧fR (ga+1) W y9.2)∧az (b2,y9) kn D9=Rr) (fun W=>FtW c v fs o ok P g1 bt ga gn gu gq xn u q p kn W0 F Rr (.panicked (bB p)) W) (bB p) (fun a W hd h=>⟨hd,h⟩) (fun _ _ _ _ _ h=>h) ?_ ?_
   ·skip
    rintro a9 w9 ⟨u54,u55,u56,u57,u58,u59,u60,u61,u62,u63,u53,u64,u65,u66,y9,D9,F9,rfl,hm9,R9'⟩
    rw[←hA];try simp only[pts,List.foldl]
    have FIN:FtW c v fs o ok P g1 bt ga gn gu gq xn u q p kn W0 F Rr (.returned (.tuple #[])) w9:=by
     obtain⟨q1,q2,q3⟩:=HT.o (b2,y9) D9 R9'.symm
     exact wU hm9.1.1 (sR R9'.symm) hm9.1.2 ⟨b2,y9.2,y9.1,hm9.2.1,hm9.2.2.1,hm9.2.2.2,q1,q2,q3⟩
    have FIN:=hQQ FIN
    clear HF hA MR M5 B5 R5 KC R9' hm9 BR
    go_simp
    go_wp2_with fail
    go_end0
    exact FIN.o
   intro QQ FINE FIND FINQ
   clear hA
   refine tqM 0 54 0 rfl (.inl rfl) rfl (by kernel_rfl) FINQ (KC.o _ _ _ MR.o) HF fun A β1 HF=>?_
   refine tqC 1 55 (.pointer (some ⟨g1,0,none⟩)) (by kernel_rfl) FINQ (KC.o _ _ _ MR.o) HF (by exact(Or.inl ⟨(ab rfl),fun W hW=>by have h5:=(HF.getD 2 rfl);go_simp⟩)) fun A β2 HF=>?_
   refine tqC 2 56 (.agg c.arr.toList.toArray) (by kernel_rfl) FINQ (KC.o _ _ _ MR.o) HF (by exact gL (ab rfl) 28 _ rfl g1 0 (HF.get 0 rfl) c.arr.toList _ (fun W hW=>hW.st) Tryz.underlying28 rfl (by kernel_rfl)) fun A β3 HF=>?_
   refine tqC 3 57 (.int .i64 u) (by kernel_rfl) FINQ (KC.o _ _ _ MR.o) HF (by exact dV (ab rfl) _ rfl gu (HF.get 8 rfl) _ (fun W hW=>hW.bu)) fun A β4 HF=>?_
   refine tqC 4 58 (.int .i64 (xn:Int)) (by kernel_rfl) FINQ (KC.o _ _ _ MR.o) HF (by exact dV (ab rfl) _ rfl gn (HF.get 6 rfl) _ (fun W hW=>hW.bn)) fun A β5 HF=>?_
   refine tqC 5 59 (.pointer (some ⟨g1,25,none⟩)) (by kernel_rfl) FINQ (KC.o _ _ _ MR.o) HF (by exact(Or.inl ⟨(ab rfl),fun W hW=>by have h5:=(HF.getD 6 rfl);go_simp⟩)) fun A β6 HF=>?_
   refine tqC 6 60 (.pointer (some ⟨g1,25+xn * 5,none⟩)) (by kernel_rfl) FINQ (KC.o _ _ _ MR.o) HF (by exact ow (ab rfl) rfl (HF.get 0 rfl) (HF.get 1 rfl) HXN.o) fun A β7 HF=>?_
   refine tqC 7 61 (.agg (puA (fs xn))) (by kernel_rfl) FINQ (KC.o _ _ _ MR.o) HF (by exact gL (ab rfl) 32 _ rfl g1 (25+xn * 5) (HF.get 0 rfl) (puA (fs xn)).toList _ (fun W hW=>hW.pu) Tryz.underlying32 rfl (by kernel_rfl)) fun A β8 HF=>?_
   refine tqC 8 62 (.int .i64 q) (by kernel_rfl) FINQ (KC.o _ _ _ MR.o) HF (by exact dV (ab rfl) _ rfl gq (HF.get 11 rfl) _ (fun W hW=>hW.bq)) fun A β9 HF=>?_
   refine tqO 9 63 (by kernel_rfl) HF fun K hK=>?_
   refine jH (v0:=.pointer (some ⟨p,0,none⟩)) (v1:=.agg c.arr.toList.toArray) (v2:=.int .i64 u) (v3:=.agg (puA (fs xn))) (v4:=.int .i64 q) rfl (HF.get 8 rfl) (HF.get 6 rfl) (HF.get 5 rfl) (HF.get 1 rfl) (HF.get 0 rfl) (enters_of Tryz.func30 (by kernel_rfl) rfl) ?_
   refine(T.tkC F5 (fun _=>False) p kn D5 wq u q (fs xn) P MR.o.1.view HK.o MR.o.1.inv MR.o.2.sz (NZ.o _ _ _ MR.o.1).1 (NZ.o _ _ _ MR.o.1).2 (fun q z=>z.elim) ⟨MR.o.2.pu,fun j hj k e z=>by have:k<ga:=MR.o.2.pn j hj k e;rcases z with z|z;exact z;have:=FG.o _ _ _ MR.o.1 _ z;omega⟩ HLM.o).mono ?_
   intro e w6 he
   rcases MR.o.1.stepP (ae.refl _) HK.o (T.tkG _ _ _ HLM.o) he with⟨a',hE,rfl,hd',ht',hk'⟩|⟨x6,f6,D6,F6,hE,rfl,M',hp6,hq6,hk',hn6⟩
   ·exact FIND _ _ HF.1.2 (NEED.o a' w6 (R5.o.symm.trans (ag hE)) hd' ht' (MR.o.2.bx (FG.o _ _ _ MR.o.1) hk'))
   have R6:=hQQ (show az (b2,x6.1) kn D6=Rr from(aj hE).symm.trans R5.o)
   have M6:Hq ((MidV W0 w6 F (fun b=>ga≤b∧b≤ga+2) p kn n D6 F6∧FtY c v fs o ok P g1 bt ga gn gu gq xn u q w6)):=hQQ ⟨M',KT.o _ M'.turn (MR.o.2.bx (FG.o _ _ _ MR.o.1) hk')⟩
   have BB6:Hq (fR (ga+2) w6 b2):=hQQ (hk' _ _ (NB.o _ _ _ MR.o.1 _ (by omega)) BR.o)
   clear he hE hk' hn6 hq6 hp6 M'
   refine hK _ _ (KC.o _ _ _ M6.o) fun A β10 HF=>?_
   clear hK K
   refine tqM 10 53 0 rfl (.inl rfl) rfl (by kernel_rfl) FINQ (KC.o _ _ _ M6.o) HF fun A β11 HF=>?_
   refine tqC 11 64 (.int .i64 x6.1.1) (by kernel_rfl) FINQ (KC.o _ _ _ M6.o) HF (by exact(Or.inl ⟨(ab rfl),fun W hW=>by have h5:=(HF.getD 0 rfl);go_simp⟩)) fun A β12 HF=>?_
   refine tqC 12 65 (.agg (puA f6)) (by kernel_rfl) FINQ (KC.o _ _ _ M6.o) HF (by exact(Or.inl ⟨(ab rfl),fun W hW=>by have h5:=(HF.getD 1 rfl);go_simp⟩)) fun A β13 HF=>?_
   refine tqC 13 66 (.bool x6.1.2) (by kernel_rfl) FINQ (KC.o _ _ _ M6.o) HF (by exact(Or.inl ⟨(ab rfl),fun W hW=>by have h5:=(HF.getD 2 rfl);go_simp⟩)) fun A β14 HF=>?_
   obtain⟨z5,hz5⟩:=M6.o.2.ba
   obtain⟨⟨b5,hb5⟩,_⟩:=M6.o.2.bb
   refine bo (i:=14) none (by kernel_rfl) rfl (ab rfl) rfl (fun K hK=>?_)
   refine xW rfl ga (HF.get 20 rfl) (HF.get 2 rfl) _ hz5 ?_
   have M7:Hq ((MidV W0 (w6.setCell ⟨ga,0,none⟩ (.int .i64 x6.1.1)) F (fun b=>ga≤b∧b≤ga+2) p kn n D6 F6∧FtY c v fs o ok P g1 bt ga gn gu gq xn u q (w6.setCell ⟨ga,0,none⟩ (.int .i64 x6.1.1)))):=hQQ ⟨M6.o.1.setI (fun _=>by omega) (NB.o _ _ _ M6.o.1 _ (by omega)) hz5 _,M6.o.2.setA hz5 _⟩
   have Q7:Hq (fR (ga+2) (w6.setCell ⟨ga,0,none⟩ (.int .i64 x6.1.1)) b2∧(w6.setCell ⟨ga,0,none⟩ (.int .i64 x6.1.1)).heap[ga]?=some (.cells #[.int .i64 x6.1.1] 3 (0,0))∧fR (ga+1) (w6.setCell ⟨ga,0,none⟩ (.int .i64 x6.1.1)) b5):=hQQ ⟨iI (by omega) BB6.o,eV hz5 _,iI (by omega) hb5⟩
   generalize w6.setCell ⟨ga,0,none⟩ (.int .i64 x6.1.1)=w7 at M7 Q7⊢
   refine hK _ _ (KC.o _ _ _ M7.o) ?_
   clear hK K
   change dg _ _ _ _ _ _ _ A _
   refine gG (i:=15) (by kernel_rfl) (by kernel_rfl) rfl (ab rfl) (fun K hK=>?_)
   refine iD rfl (ga+1) (HF.get 21 rfl) x6.1.2 (HF.get 0 rfl) _ Q7.o.2.2 ?_
   have MZ:((MidV W0 (w7.setCell ⟨ga+1,0,none⟩ (.bool x6.1.2)) F (fun b=>ga≤b∧b≤ga+2) p kn n D6 F6∧FtY c v fs o ok P g1 bt ga gn gu gq xn u q (w7.setCell ⟨ga+1,0,none⟩ (.bool x6.1.2))))∧fR (ga+2) (w7.setCell ⟨ga+1,0,none⟩ (.bool x6.1.2)) b2∧(w7.setCell ⟨ga+1,0,none⟩ (.bool x6.1.2)).heap[ga]?=some (.cells #[.int .i64 x6.1.1] 3 (0,0))∧fR (ga+1) (w7.setCell ⟨ga+1,0,none⟩ (.bool x6.1.2)) x6.1.2:=⟨⟨M7.o.1.setI (fun _=>by omega) (NB.o _ _ _ M7.o.1 _ (by omega)) Q7.o.2.2 _,M7.o.2.setT Q7.o.2.2 _⟩,iI (by omega) Q7.o.1,iI (by omega) Q7.o.2.1,jC Q7.o.2.2 _⟩
   exact hK _ _ (KC.o _ _ _ MZ.1) (FINE _ _ ⟨(.pointer (some ⟨p,0,none⟩)),(.pointer (some ⟨g1,0,none⟩)),(.agg c.arr.toList.toArray),(.int .i64 u),(.int .i64 (xn:Int)),(.pointer (some ⟨g1,25,none⟩)),(.pointer (some ⟨g1,25+xn * 5,none⟩)),(.agg (puA (fs xn))),(.int .i64 q),(.tuple #[.int .i64 x6.1.1,.agg (puA f6),.bool x6.1.2]),(.tuple #[.int .i64 x6.1.1,.agg (puA f6),.bool x6.1.2]),(.int .i64 x6.1.1),(.agg (puA f6)),(.bool x6.1.2),x6.1,D6,F6,(by rw[← β14,← β13,← β12,← β11,← β10,← β9,← β8,← β7,← β6,← β5,← β4,← β3,← β2,← β1];rfl),⟨MZ.1,MZ.2⟩,R6.o⟩)
 intro QQ FINE FIND FINQ
 clear hA
 refine tqC 0 9 (.int .i64 (xn:Int)) (by kernel_rfl) FINQ (KC.o _ _ _ MR.o) HF (by exact dV (ab rfl) _ rfl gn (HF.get 2 rfl) _ (fun W hW=>hW.bn)) fun A β1 HF=>?_
 refine tqC 1 10 (.pointer (some ⟨g1,25,none⟩)) (by kernel_rfl) FINQ (KC.o _ _ _ MR.o) HF (by exact(Or.inl ⟨(ab rfl),fun W hW=>by have h5:=(HF.getD 2 rfl);go_simp⟩)) fun A β2 HF=>?_
 refine tqC 2 11 (.pointer (some ⟨g1,25+xn * 5,none⟩)) (by kernel_rfl) FINQ (KC.o _ _ _ MR.o) HF (by exact ow (ab rfl) rfl (HF.get 0 rfl) (HF.get 1 rfl) HXN.o) fun A β3 HF=>?_
 refine tqC 3 12 (.agg (puA (fs xn))) (by kernel_rfl) FINQ (KC.o _ _ _ MR.o) HF (by exact gL (ab rfl) 32 _ rfl g1 (25+xn * 5) (HF.get 0 rfl) (puA (fs xn)).toList _ (fun W hW=>hW.pu) Tryz.underlying32 rfl (by kernel_rfl)) fun A β4 HF=>?_
 refine tqC 4 13 (.int .i64 q) (by kernel_rfl) FINQ (KC.o _ _ _ MR.o) HF (by exact dV (ab rfl) _ rfl gq (HF.get 7 rfl) _ (fun W hW=>hW.bq)) fun A β5 HF=>?_
 refine tqO 5 14 (by kernel_rfl) HF fun K hK=>?_
 refine bO (v0:=.agg (puA (fs xn))) (v1:=.int .i64 q) rfl (HF.get 1 rfl) (HF.get 0 rfl) (enters_of Tryz.func21 (by kernel_rfl) rfl) ?_
 refine(om (fs xn) P q wq MR.o.2.pu).mono ?_
 rintro e w1 ⟨rfl,h1⟩
 have M1:Hq ((MidV W0 w1 F (fun b=>ga≤b∧b≤ga+2) p kn n [] F∧FtY c v fs o ok P g1 bt ga gn gu gq xn u q w1)):=hQQ ⟨MR.o.1.more h1,MR.o.2.more h1⟩
 clear h1
 refine hK _ _ (KC.o _ _ _ M1.o) fun A β6 HF=>?_
 clear hK K
 by_cases hpos:0<cP P q
 ·skip
  have HP:Hq (decide (0<cP P q)=true):=hQQ (by simp[hpos])
  refine tqC 6 15 (.bool true) (by kernel_rfl) FINQ (KC.o _ _ _ M1.o) HF (by exact(Or.inl ⟨(ab rfl),fun W hW=>by have h5:=(HF.getD 0 rfl);have d9:=HP.o;go_simp⟩)) fun A β7 HF=>?_
  refine tqM 7 16 0 rfl (.inl rfl) rfl (by kernel_rfl) FINQ (KC.o _ _ _ M1.o) HF fun A β8 HF=>?_
  refine tqC 8 17 (undef) (by kernel_rfl) FINQ (KC.o _ _ _ M1.o) HF (by exact cK (dz 7 false 16 rfl rfl (HF.at (by decide) 0 rfl))) fun A β9 HF=>?_
  refine tqC 9 18 (undef) (by kernel_rfl) FINQ (KC.o _ _ _ M1.o) HF (by exact cK (dz 7 false 16 rfl rfl (HF.at (by decide) 1 rfl))) fun A β10 HF=>?_
  refine tqC 10 19 (undef) (by kernel_rfl) FINQ (KC.o _ _ _ M1.o) HF (by exact cK (dz 7 false 16 rfl rfl (HF.at (by decide) 2 rfl))) fun A β11 HF=>?_
  refine tqC 11 20 (undef) (by kernel_rfl) FINQ (KC.o _ _ _ M1.o) HF (by exact cK (dz 7 false 16 rfl rfl (HF.at (by decide) 3 rfl))) fun A β12 HF=>?_
  refine tqC 12 21 (undef) (by kernel_rfl) FINQ (KC.o _ _ _ M1.o) HF (by exact cK (dz 7 false 16 rfl rfl (HF.at (by decide) 4 rfl))) fun A β13 HF=>?_
  refine tqC 13 22 ((.bool true)) (by kernel_rfl) FINQ (KC.o _ _ _ M1.o) HF (by exact eG (ab rfl) rfl (HF.get 5 rfl) rfl) fun A β14 HF=>?_
  refine tqM 14 23 0 rfl (.inl rfl) rfl (by kernel_rfl) FINQ (KC.o _ _ _ M1.o) HF fun A β15 HF=>?_
  refine tqC 15 24 (undef) (by kernel_rfl) FINQ (KC.o _ _ _ M1.o) HF (by exact cK (dz 14 false 23 rfl rfl (HF.at (by decide) 0 rfl))) fun A β16 HF=>?_
  refine tqC 16 25 (undef) (by kernel_rfl) FINQ (KC.o _ _ _ M1.o) HF (by exact cK (dz 14 false 23 rfl rfl (HF.at (by decide) 1 rfl))) fun A β17 HF=>?_
  refine tqC 17 26 (undef) (by kernel_rfl) FINQ (KC.o _ _ _ M1.o) HF (by exact cK (dz 14 false 23 rfl rfl (HF.at (by decide) 2 rfl))) fun A β18 HF=>?_
  refine tqC 18 27 (undef) (by kernel_rfl) FINQ (KC.o _ _ _ M1.o) HF (by exact cK (dz 14 false 23 rfl rfl (HF.at (by decide) 3 rfl))) fun A β19 HF=>?_
  refine tqC 19 28 (undef) (by kernel_rfl) FINQ (KC.o _ _ _ M1.o) HF (by exact cK (dz 14 false 23 rfl rfl (HF.at (by decide) 4 rfl))) fun A β20 HF=>?_
  refine tqC 20 29 ((.bool true)) (by kernel_rfl) FINQ (KC.o _ _ _ M1.o) HF (by exact eG (ab rfl) rfl (HF.get 5 rfl) rfl) fun A β21 HF=>?_
  have R1:=hQQ (show aq (nY c u q true) (uY T P u q) kn []=Rr from by rw[←R0.o];unfold xV;rw[if_pos hpos];rfl)
  obtain⟨_,⟨b5,hb5⟩⟩:=M1.o.2.bb
  refine gG (i:=21) (by kernel_rfl) (by kernel_rfl) rfl (ab rfl) (fun K hK=>?_)
  refine iD rfl (ga+2) (HF.get 25 rfl) true (HF.get 0 rfl) _ hb5 ?_
  have MZ:((MidV W0 (w1.setCell ⟨ga+2,0,none⟩ (.bool true)) F (fun b=>ga≤b∧b≤ga+2) p kn n [] F∧FtY c v fs o ok P g1 bt ga gn gu gq xn u q (w1.setCell ⟨ga+2,0,none⟩ (.bool true))))∧fR (ga+2) (w1.setCell ⟨ga+2,0,none⟩ (.bool true)) true:=⟨⟨M1.o.1.setI (fun _=>by omega) (NB.o _ _ _ M1.o.1 _ (by omega)) hb5 _,M1.o.2.setB hb5 _⟩,jC hb5 _⟩
  exact hK _ _ (KC.o _ _ _ MZ.1) (FINE _ _ ⟨(.int .i64 (xn:Int)),(.pointer (some ⟨g1,25,none⟩)),(.pointer (some ⟨g1,25+xn * 5,none⟩)),(.agg (puA (fs xn))),(.int .i64 q),(.int .i64 (cP P q)),(.bool true),(.bool true),(undef),(undef),(undef),(undef),(undef),((.bool true)),((.bool true)),(undef),(undef),(undef),(undef),(undef),((.bool true)),true,[],F,(by rw[← β21,← β20,← β19,← β18,← β17,← β16,← β15,← β14,← β13,← β12,← β11,← β10,← β9,← β8,← β7,← β6,← β5,← β4,← β3,← β2,← β1];rfl),MZ,R1.o⟩)
 have HP:Hq (decide (0<cP P q)=false):=hQQ (by simp[hpos])
 have R1:=hQQ (show aq (j0 c.pg c.st q) (fun r=>aq (if r then az true else aq (i5 c.pg c.st 1 1) fun f=>az (decide (0≤f))) fun b=>aq (nY c u q b) (uY T P u q)) kn []=Rr from by rw[←R0.o];unfold xV;rw[if_neg hpos,cM])
 refine tqC 6 15 (.bool false) (by kernel_rfl) FINQ (KC.o _ _ _ M1.o) HF (by exact(Or.inl ⟨(ab rfl),fun W hW=>by have h5:=(HF.getD 0 rfl);have d9:=HP.o;go_simp⟩)) fun A β7 HF=>?_
 refine tqM 7 16 0 rfl (.inl rfl) rfl (by kernel_rfl) FINQ (KC.o _ _ _ M1.o) HF fun A β8 HF=>?_
 refine tqC 8 17 (.pointer (some ⟨p,0,none⟩)) (by kernel_rfl) FINQ (KC.o _ _ _ M1.o) HF (by exact bT (cG 7 false 16 rfl rfl (HF.at (by decide) 0 rfl)) _ rfl (HF.get 8 rfl)) fun A β9 HF=>?_
 refine tqC 9 18 (.pointer (some ⟨g1,0,none⟩)) (by kernel_rfl) FINQ (KC.o _ _ _ M1.o) HF (by exact(Or.inl ⟨(cG 7 false 16 rfl rfl (HF.at (by decide) 1 rfl)),fun W hW=>by have h5:=(HF.getD 10 rfl);go_simp⟩)) fun A β10 HF=>?_
 refine tqC 10 19 (.agg c.arr.toList.toArray) (by kernel_rfl) FINQ (KC.o _ _ _ M1.o) HF (by exact gL (cG 7 false 16 rfl rfl (HF.at (by decide) 2 rfl)) 28 _ rfl g1 0 (HF.get 0 rfl) c.arr.toList _ (fun W hW=>hW.st) Tryz.underlying28 rfl (by kernel_rfl)) fun A β11 HF=>?_
 refine tqC 11 20 (.int .i64 q) (by kernel_rfl) FINQ (KC.o _ _ _ M1.o) HF (by exact dV (cG 7 false 16 rfl rfl (HF.at (by decide) 3 rfl)) _ rfl gq (HF.get 14 rfl) _ (fun W hW=>hW.bq)) fun A β12 HF=>?_
 refine bo (i:=12) (some 21) (by kernel_rfl) rfl (cG 7 false 16 rfl rfl (HF.at (by decide) 4 rfl)) rfl (fun K hK=>?_)
 refine dE (v0:=.pointer (some ⟨p,0,none⟩)) (v1:=.agg c.arr.toList.toArray) (v2:=.int .i64 q) rfl (HF.get 3 rfl) (HF.get 1 rfl) (HF.get 0 rfl) (enters_of Tryz.func24 (by kernel_rfl) rfl) ?_
 refine(Hj HR.o HH.o F p kn [] q w1 M1.o.1.view HK.o M1.o.1.inv bt M1.o.2.sz (NZ.o _ _ _ M1.o.1).1 (NZ.o _ _ _ M1.o.1).2).mono ?_
 intro e w2 he
 rcases M1.o.1.step (ae.refl _) HK.o (tZ HH.o _) he with⟨a',hE,rfl,hd',ht',hk'⟩|⟨rb,D2,F2,hE,rfl,M',hq',hk',hf'⟩
 ·exact FIND _ _ HF.1.2 (NEED.o a' w2 (R1.o.symm.trans (ag hE)) hd' ht' (M1.o.2.bx (FG.o _ _ _ M1.o.1) hk'))
 have R2:=hQQ ((aj hE).symm.trans R1.o)
 have M2:Hq ((MidV W0 w2 F (fun b=>ga≤b∧b≤ga+2) p kn n D2 F2∧FtY c v fs o ok P g1 bt ga gn gu gq xn u q w2)):=hQQ ⟨M',KT.o _ M'.turn (M1.o.2.bx (FG.o _ _ _ M1.o.1) hk')⟩
 clear he hE hk' hf' hq' M'
 refine hK _ _ (KC.o _ _ _ M2.o) ?_
 clear hK K
 replace HF:=HF.put 21 (.bool rb) (by decide) rfl
 generalize β13:Act.put _ _ _=A at HF⊢
 cases rb with
 |true =>
  refine tqC 13 22 (.bool true) (by kernel_rfl) FINQ (KC.o _ _ _ M2.o) HF (by exact kl (ab rfl) rfl (HF.get 5 rfl) (HF.get 0 rfl)) fun A β14 HF=>?_
  refine tqM 14 23 0 rfl (.inl rfl) rfl (by kernel_rfl) FINQ (KC.o _ _ _ M2.o) HF fun A β15 HF=>?_
  refine tqC 15 24 (undef) (by kernel_rfl) FINQ (KC.o _ _ _ M2.o) HF (by exact cK (dz 14 false 23 rfl rfl (HF.at (by decide) 0 rfl))) fun A β16 HF=>?_
  refine tqC 16 25 (undef) (by kernel_rfl) FINQ (KC.o _ _ _ M2.o) HF (by exact cK (dz 14 false 23 rfl rfl (HF.at (by decide) 1 rfl))) fun A β17 HF=>?_
  refine tqC 17 26 (undef) (by kernel_rfl) FINQ (KC.o _ _ _ M2.o) HF (by exact cK (dz 14 false 23 rfl rfl (HF.at (by decide) 2 rfl))) fun A β18 HF=>?_
  refine tqC 18 27 (undef) (by kernel_rfl) FINQ (KC.o _ _ _ M2.o) HF (by exact cK (dz 14 false 23 rfl rfl (HF.at (by decide) 3 rfl))) fun A β19 HF=>?_
  refine tqC 19 28 (undef) (by kernel_rfl) FINQ (KC.o _ _ _ M2.o) HF (by exact cK (dz 14 false 23 rfl rfl (HF.at (by decide) 4 rfl))) fun A β20 HF=>?_
  refine tqC 20 29 ((.bool true)) (by kernel_rfl) FINQ (KC.o _ _ _ M2.o) HF (by exact eG (ab rfl) rfl (HF.get 5 rfl) rfl) fun A β21 HF=>?_
  have R3:=hQQ (show aq (nY c u q true) (uY T P u q) kn D2=Rr from R2.o)
  obtain⟨_,⟨b5,hb5⟩⟩:=M2.o.2.bb
  refine gG (i:=21) (by kernel_rfl) (by kernel_rfl) rfl (ab rfl) (fun K hK=>?_)
  refine iD rfl (ga+2) (HF.get 25 rfl) true (HF.get 0 rfl) _ hb5 ?_
  have MZ:((MidV W0 (w2.setCell ⟨ga+2,0,none⟩ (.bool true)) F (fun b=>ga≤b∧b≤ga+2) p kn n D2 F2∧FtY c v fs o ok P g1 bt ga gn gu gq xn u q (w2.setCell ⟨ga+2,0,none⟩ (.bool true))))∧fR (ga+2) (w2.setCell ⟨ga+2,0,none⟩ (.bool true)) true:=⟨⟨M2.o.1.setI (fun _=>by omega) (NB.o _ _ _ M2.o.1 _ (by omega)) hb5 _,M2.o.2.setB hb5 _⟩,jC hb5 _⟩
  exact hK _ _ (KC.o _ _ _ MZ.1) (FINE _ _ ⟨(.int .i64 (xn:Int)),(.pointer (some ⟨g1,25,none⟩)),(.pointer (some ⟨g1,25+xn * 5,none⟩)),(.agg (puA (fs xn))),(.int .i64 q),(.int .i64 (cP P q)),(.bool false),(.bool false),(.pointer (some ⟨p,0,none⟩)),(.pointer (some ⟨g1,0,none⟩)),(.agg c.arr.toList.toArray),(.int .i64 q),(.bool true),(.bool true),(.bool true),(undef),(undef),(undef),(undef),(undef),((.bool true)),true,D2,F2,(by rw[← β21,← β20,← β19,← β18,← β17,← β16,← β15,← β14,← β13,← β12,← β11,← β10,← β9,← β8,← β7,← β6,← β5,← β4,← β3,← β2,← β1];rfl),MZ,R3.o⟩)
 |false =>
  have R3:=hQQ (show aq (i5 c.pg c.st 1 1) (fun f=>aq (nY c u q (decide (0≤f))) (uY T P u q)) kn D2=Rr from by rw[←R2.o];simp only[Bool.false_eq_true,if_false];rw[cM];rfl)
  refine tqC 13 22 (.bool false) (by kernel_rfl) FINQ (KC.o _ _ _ M2.o) HF (by exact kl (ab rfl) rfl (HF.get 5 rfl) (HF.get 0 rfl)) fun A β14 HF=>?_
  refine tqM 14 23 0 rfl (.inl rfl) rfl (by kernel_rfl) FINQ (KC.o _ _ _ M2.o) HF fun A β15 HF=>?_
  refine tqC 15 24 (.pointer (some ⟨p,0,none⟩)) (by kernel_rfl) FINQ (KC.o _ _ _ M2.o) HF (by exact bT (cG 14 false 23 rfl rfl (HF.at (by decide) 0 rfl)) _ rfl (HF.get 15 rfl)) fun A β16 HF=>?_
  refine tqC 16 25 (.pointer (some ⟨g1,0,none⟩)) (by kernel_rfl) FINQ (KC.o _ _ _ M2.o) HF (by exact(Or.inl ⟨(cG 14 false 23 rfl rfl (HF.at (by decide) 1 rfl)),fun W hW=>by have h5:=(HF.getD 17 rfl);go_simp⟩)) fun A β17 HF=>?_
  refine tqC 17 26 (.agg c.arr.toList.toArray) (by kernel_rfl) FINQ (KC.o _ _ _ M2.o) HF (by exact gL (cG 14 false 23 rfl rfl (HF.at (by decide) 2 rfl)) 28 _ rfl g1 0 (HF.get 0 rfl) c.arr.toList _ (fun W hW=>hW.st) Tryz.underlying28 rfl (by kernel_rfl)) fun A β18 HF=>?_
  refine bo (i:=18) (some 27) (by kernel_rfl) rfl (cG 14 false 23 rfl rfl (HF.at (by decide) 3 rfl)) rfl (fun K hK=>?_)
  refine py (v0:=.pointer (some ⟨p,0,none⟩)) (v1:=.agg c.arr.toList.toArray) (v2:=(.int .i64 1)) (v3:=(.int .i64 1)) rfl (HF.get 2 rfl) (HF.get 0 rfl) rfl rfl (enters_of Tryz.func25 (by kernel_rfl) rfl) ?_
  refine(G8 HR.o HH.o.toPgIn F2 p kn D2 1 1 (by constructor<;>decide) (by constructor<;>decide) w2 M2.o.1.view HK.o M2.o.1.inv).mono ?_
  intro e w4 he
  rcases M2.o.1.step (ae.refl _) HK.o (kG HH.o.toPgIn _ _) he with⟨a',hE,rfl,hd',ht',hk'⟩|⟨ff,D4,F4,hE,rfl,M',hq',hk',hf'⟩
  ·exact FIND _ _ HF.1.2 (NEED.o a' w4 (R3.o.symm.trans (ag hE)) hd' ht' (M2.o.2.bx (FG.o _ _ _ M2.o.1) hk'))
  have R4:=hQQ ((aj hE).symm.trans R3.o)
  have M4:Hq ((MidV W0 w4 F (fun b=>ga≤b∧b≤ga+2) p kn n D4 F4∧FtY c v fs o ok P g1 bt ga gn gu gq xn u q w4)):=hQQ ⟨M',KT.o _ M'.turn (M2.o.2.bx (FG.o _ _ _ M2.o.1) hk')⟩
  clear he hE hk' hf' hq' M'
  refine hK _ _ (KC.o _ _ _ M4.o) ?_
  clear hK K
  replace HF:=HF.put 27 (.int .i64 ff) (by decide) rfl
  generalize β19:Act.put _ _ _=A at HF⊢
  refine tqC 19 28 (.bool (decide (0≤ff))) (by kernel_rfl) FINQ (KC.o _ _ _ M4.o) HF (by exact(Or.inl ⟨(cG 14 false 23 rfl rfl (HF.at (by decide) 4 rfl)),fun W hW=>by have h5:=(HF.getD 0 rfl);go_simp⟩)) fun A β20 HF=>?_
  refine tqC 20 29 (.bool (decide (0≤ff))) (by kernel_rfl) FINQ (KC.o _ _ _ M4.o) HF (by exact kl (ab rfl) rfl (HF.get 5 rfl) (HF.get 0 rfl)) fun A β21 HF=>?_
  obtain⟨_,⟨b5,hb5⟩⟩:=M4.o.2.bb
  refine gG (i:=21) (by kernel_rfl) (by kernel_rfl) rfl (ab rfl) (fun K hK=>?_)
  refine iD rfl (ga+2) (HF.get 25 rfl) (decide (0≤ff)) (HF.get 0 rfl) _ hb5 ?_
  have MZ:((MidV W0 (w4.setCell ⟨ga+2,0,none⟩ (.bool (decide (0≤ff)))) F (fun b=>ga≤b∧b≤ga+2) p kn n D4 F4∧FtY c v fs o ok P g1 bt ga gn gu gq xn u q (w4.setCell ⟨ga+2,0,none⟩ (.bool (decide (0≤ff))))))∧fR (ga+2) (w4.setCell ⟨ga+2,0,none⟩ (.bool (decide (0≤ff)))) (decide (0≤ff)):=⟨⟨M4.o.1.setI (fun _=>by omega) (NB.o _ _ _ M4.o.1 _ (by omega)) hb5 _,M4.o.2.setB hb5 _⟩,jC hb5 _⟩
  exact hK _ _ (KC.o _ _ _ MZ.1) (FINE _ _ ⟨(.int .i64 (xn:Int)),(.pointer (some ⟨g1,25,none⟩)),(.pointer (some ⟨g1,25+xn * 5,none⟩)),(.agg (puA (fs xn))),(.int .i64 q),(.int .i64 (cP P q)),(.bool false),(.bool false),(.pointer (some ⟨p,0,none⟩)),(.pointer (some ⟨g1,0,none⟩)),(.agg c.arr.toList.toArray),(.int .i64 q),(.bool false),(.bool false),(.bool false),(.pointer (some ⟨p,0,none⟩)),(.pointer (some ⟨g1,0,none⟩)),(.agg c.arr.toList.toArray),(.int .i64 ff),(.bool (decide (0≤ff))),(.bool (decide (0≤ff))),(decide (0≤ff)),D4,F4,(by rw[← β21,← β20,← β19,← β18,← β17,← β16,← β15,← β14,← β13,← β12,← β11,← β10,← β9,← β8,← β7,← β6,← β5,← β4,← β3,← β2,← β1];rfl),MZ,R4.o⟩)
theorem OA {c:Cfg}(R:c.Ok){n bt:Nat}(T:o8 c n bt)(zs:List Int)(hlz:zs.length=n)(H:cF c.pg c.st n)(hw:(n:Int)=c.words)(hlen:n≤1000)(hz:OkW zs){s:FSt}(Fq9:FrS c n s zs)(oks:OkS c s){v:Value}{fs:Nat→Nat→Value}{o ok:Value}(xn:Nat)(hxn:xn<2)(u q:Int)(hu:0≤u∧u<c.cp)(w:World)(g1 ga gn gu gq:Nat)(a:Option Addr)(cap:Nat)(hY:FtY c v fs o ok (s.at (xn:Int)) g1 bt ga gn gu gq xn u q w)(ha:jW w a zs):
 Calls Tryz.prog 9 #[.slice a zs.length cap,.func (.func 23) #[] #[.pointer (some ⟨g1,0,none⟩),.pointer (some ⟨gn,0,none⟩),.pointer (some ⟨gq,0,none⟩),.pointer (some ⟨ga+2,0,none⟩),.pointer (some ⟨gu,0,none⟩),.pointer (some ⟨ga,0,none⟩),.pointer (some ⟨ga+1,0,none⟩)]] w (fun e w'=>∃v1 v2,e=.returned (.tuple #[v1,v2,.int .i64 0])∧FtX c ga q w'∧Turned (fun b=>ga≤b∧b≤ga+2) w w'):=by
 obtain⟨xs,K',hK',hans⟩:=Oz T R H hw (by omega) oks hlz hz Fq9 (xn:Int) hu q
 subst hlz
 have l2:ga+2<w.heap.size:=by obtain⟨_,⟨b,h⟩⟩:=hY.bb;exact ac h
 have G:=DM T R H hw (by omega) oks (xn:Int) hu q
 have M:=Mg a cap zs (fun K=>fY (ftP T s (xn:Int) u q (look K) [])) (some (xs,K')) zs.length w ha (by omega) hz (wS G hz (by omega)) (by omega) hK' 23 #[.pointer (some ⟨g1,0,none⟩),.pointer (some ⟨gn,0,none⟩),.pointer (some ⟨gq,0,none⟩),.pointer (some ⟨ga+2,0,none⟩),.pointer (some ⟨gu,0,none⟩),.pointer (some ⟨ga,0,none⟩),.pointer (some ⟨ga+1,0,none⟩)] (fun b=>ga≤b∧b≤ga+2)
  (fun w'=>FtY c v fs o ok (s.at (xn:Int)) g1 bt ga gn gu gq xn u q w') (fun w'=>FtX c ga q w')
  (fun b q=>by omega)
  (fun w' w'' y t=>y.keep t (fun k q=>by omega) (by
   obtain⟨z,hz⟩:=y.ba
   obtain⟨⟨b,hb⟩,⟨b',hb'⟩⟩:=y.bb
   exact⟨⟨z,(t.block _ (ac hz) (by omega)).trans hz⟩,⟨b,(t.block _ (ac hb) (by omega)).trans hb⟩,⟨b',(t.block _ (ac hb') (by omega)).trans hb'⟩⟩))
  (fun w' w'' y t=>by
   obtain⟨b,t',z,h1,h2,h3,h4⟩:=y
   exact⟨b,t',z,(t.block _ (ac h1) (by omega)).trans h1,(t.block _ (ac h2) (by omega)).trans h2,(t.block _ (ac h3) (by omega)).trans h3,h4⟩) hY (enters_of Tryz.func23 (by kernel_rfl) rfl)
  (fun K hK W F p t yy hv hF=>Nt R T H hw (by omega) F p g1 ga gn gu gq xn u q (look K) W (s.at (xn:Int)) (oks.at _) v fs o ok hxn hu hv (sP hK hz) yy (fun q z=>by have:=hF _ z;omega)
   (fun z D e=>hans K hK z D e))
 refine M.mono ?_
 rintro e w' ⟨v1,v2,rfl,r1,_,t,_,x⟩
 exact⟨v1,v2,rfl,x,t⟩
def DN (w:World)(d:Cfg)(n:Nat)(zs:List Int)(s:FSt)(e:Ending)(w':World):Prop :=
 ∃gz cz fs o,e=.returned (.agg (stL (d.arr.toList++ [.slice (some ⟨gz,0,none⟩) n cz]) fs o (.bool true)).toArray)∧Ws w' gz cz zs∧Pu w' (fs 0) s.P0∧Pu w' (fs 1) s.P1∧BlR w.heap.size w' o s.O∧w.heap.size≤gz∧ae w w'∧PuN (fun q=>w.heap.size≤q) (fs 0)∧PuN (fun q=>w.heap.size≤q) (fs 1)
theorem Ll (TT:∀(d:Cfg)(n bt:Nat),d.Ok→cF d.pg d.st n→(n:Int)=d.words→n≤10000→o8 d n bt)(y0 y1 y2 y3 y4 y5 y6 y7 y8 y9 y10:Int)(f0:(Lit.int .i64 y0).wf=true)(f1:(Lit.int .i64 y1).wf=true)(f2:(Lit.int .i64 y2).wf=true)(f3:(Lit.int .i64 y3).wf=true)(f4:(Lit.int .i64 y4).wf=true)(f5:(Lit.int .i64 y5).wf=true)(f6:(Lit.int .i64 y6).wf=true)(f7:(Lit.int .i64 y7).wf=true)(f8:(Lit.int .i64 y8).wf=true)(f9:(Lit.int .i64 y9).wf=true)(f10:(Lit.int .i64 y10).wf=true)(l:List gA)(hll:l.length≤1000):
 ∃(d:Cfg) (n:Nat) (zs:List Int) (s:FSt),d.Small∧(n:Int)=d.words∧zs.length=n∧OkW zs∧FrS d n s zs∧OkS d s∧Hq (∀(a:Option Addr) (capl:Nat) (w:World),pI w→gC w a l→Calls Tryz.prog 8 #[.agg #[.int .i64 y0,.int .i64 y1,.int .i64 y2,.int .i64 y3,.int .i64 y4,.int .i64 y5,.int .i64 y6,.int .i64 y7,.int .i64 y8,.int .i64 y9,.int .i64 y10],.slice a l.length capl] w (DN w d n zs s)):=by
 obtain⟨d,S,BEG⟩:=Jk y0 y1 y2 y3 y4 y5 y6 y7 y8 y9 y10 f0 f1 f2 f3 f4 f5 f6 f7 f8 f9 f10
 have wds:=S.words
 obtain⟨n,hn⟩:∃n:Nat,(n:Int)=d.words:=⟨d.words.toNat,by omega⟩
 have H:=DK S hn
 have hz:=kD n
 have P:=rI S.ok H hn (by omega) l (Ft S.ok H hn (by omega))
 have ok:=fun(w:World) (g1 g2 g3 g4 bt:Nat) (a:Option Addr) (cap:Nat) (al:Option Addr) (capl:Nat) (pre:List Value) (ok:Value)=>FF (c:=d) S.ok (TT d n bt S.ok H hn (by omega)) (cQ n) hz (by rw[hz];omega) (gF n) w g1 g2 g3 g4 a cap al capl l hll pre ok
 obtain⟨C,hC⟩:=P.fri
 obtain⟨D0,hD0,hD1,hD2⟩:=mV (TT d n 0 S.ok H hn (by omega)) S.ok l (OkS.nil S.ok) (cQ n) [] hz (gF n) (dP _)
 have OKS:=((mU (TT d n 0 S.ok H hn (by omega)) S.ok l (OkS.nil S.ok)).ok (jX (gF n)) (dP _) hD0).2.1
 refine⟨d,n,_,_,S,hn,hC.len,hC.ok,P,OKS,hQQ fun a capl w hsz hli=>?_⟩
 have EL:=hQQ hC.len
 have OK:=hQQ ok
 have HZ:=hQQ hz
 obtain⟨bt,hs⟩:=hsz
 have HS:Hq (dh bt w):=hQQ hs
 have sz0:=HS.o.lt0
 have szb:=HS.o.lt
 clear f0 f1 f2 f3 f4 f5 f6 f7 f8 f9 f10 ok hD0 hD1 hD2 hz H hC P hs OKS
 generalize (gZ d l ⟨fun _=> [],fun _=> [],[]⟩ (cQ n)).1=sF at OK⊢
 generalize (gZ d l ⟨fun _=> [],fun _=> [],[]⟩ (cQ n)).2=xs at EL OK⊢
 obtain⟨w3,e3,ha,hb,hc,m3,s3⟩:=jD w (.cells #[.int .i64 y0,.int .i64 y1,.int .i64 y2,.int .i64 y3,.int .i64 y4,.int .i64 y5,.int .i64 y6,.int .i64 y7,.int .i64 y8,.int .i64 y9,.int .i64 y10] 23) (.cells #[.slice a l.length capl] 24) (.cells mZ 37)
 have HA:=hQQ ha
 have HB:=hQQ hb
 have HC:=hQQ hc
 have M3:=hQQ m3
 have HL:=hQQ (hli.more m3)
 have LA:l≠ []→∀k,iJ a k→k<w.heap.size:=fun ne=>hli.lt ne
 clear ha hb hc m3 hli
 go_enter Tryz.func8,Tryz.ntmps8
 go_wp2_with (refine sx rfl rfl rfl HA.o (by kernel_rfl) ?_)
 clear e3
 refine(BEG.out _).mono ?_
 rintro e w5 ⟨g,n',hn',rfl,hrw,m5⟩
 obtain rfl:n'=n:=by omega
 obtain⟨w6,e6,b1,b2,b3,b4,m6,s6⟩:=Ns w5 gw lm d.arr d.cells 28 73
 have wz:Ws w5 g n' (cQ n'):=Ws.of_rw (base:=w3.heap.size) (by rw[HZ.o];exact hrw)
 have B1:=hQQ b1
 have B2:=hQQ b2
 have LC6:=hQQ b3
 have RC6:=hQQ b4
 have m36:=m5.trans m6
 obtain⟨v0,hv0⟩:∃v0,Value.slice (some ⟨g,0,none⟩) n' n'=v0:=⟨_,rfl⟩
 have V1:v0.oneCell'=true:=by rw[←hv0];rfl
 have AL0:=hQQ (show(st0 d v0).all (·.oneCell')=true from Cv _ (xU d v0 V1) (by simp[puA,Value.oneCell']) (by simp[puA,Value.oneCell']) rfl rfl)
 have hz6:=bz w6 (.cells mZ 37)
 obtain⟨w9,e9⟩:∃w9,(w6.alloc (.cells mZ 37)).setRow w6.heap.size (st0 d v0)=w9:=⟨_,rfl⟩
 have hb9:StB w9 w6.heap.size (d.arr.toList++ [v0]) (fun _ _=> .slice none 0 0) (.slice none 0 0) (.bool false):=⟨by rw[List.length_append,kV];rfl,by rw[←e9];exact setRow_heap _ _ _ _ _ _ hz6⟩
 have m69:ae w6 w9:=by rw[←e9];exact((ae.refl w6).alloc _).setRow _ _ (Nat.le_refl _)
 have Z6:=hQQ hz6
 have RC:=hQQ (m69.block (m36.block HC.o))
 have LC:=hQQ (m69.block b3)
 have WZ:=hQQ ((wz.more m6).more m69)
 have M9:=hQQ ((M3.o.trans m36).trans m69)
 have HL9:=hQQ ((HL.o.more m36).more m69)
 have h35:=m5.size
 have h6s:w5.heap.size+2≤w6.heap.size:=by omega
 have h3s:w.heap.size+3≤w3.heap.size:=by omega
 have h9s:=hb9.lt
 have DO:=OK.o w9 w6.heap.size (w.heap.size+1) (w5.heap.size+1) w5.heap.size bt (some ⟨g,0,none⟩) n' a capl _ _ ⟨⟨m69.block (m36.block HB.o),m69.block b4,LC.o,HL9.o,HS.o.more M9.o⟩,_,_,hb9⟩ (by
  rintro k (rfl|rfl|rfl|rfl|rfl|⟨ne,hk⟩)
  ·omega
  ·omega
  ·omega
  ·omega
  ·omega
  ·have:=LA ne k hk;omega) WZ.o.words
 rw[HZ.o] at DO
 have DO:=hQQ DO
 clear b1 b2 b3 b4 hrw wz m5 m6 m36 BEG OK HA HB HC HL m69 s6 s3 hz6 hb9
 have E9:=hQQ e9
 have V0:=hQQ hv0
 clear e9 hv0
 go_wp2_with (first
  |(refine wpList_store_row rfl 28 _ _ rfl w5.heap.size _ rfl rfl 28 gw B1.o (by kernel_rfl) rfl (ns d) ?_)
  |(refine wpList_store_row rfl 73 _ _ rfl (w5.heap.size+1) _ rfl rfl 73 lm B2.o (by kernel_rfl) rfl (il d) ?_)
  |(refine aM rfl rfl rfl LC6.o (by kernel_rfl) ?_)
  |(refine FH rfl _ _ rfl d g n' n' rfl rfl ?_;rw[V0.o])
  |(refine wpList_store_row rfl 37 _ _ rfl w6.heap.size _ rfl rfl 37 mZ Z6.o (by kernel_rfl) rfl AL0.o ?_;rw[E9.o]))
 have hv0:=V0.o
 subst hv0
 clear e6
 refine DO.o.mono ?_
 rintro e w10 ⟨v1,v2,b,rfl,hr,t10,hC,hbb,⟨fs,o,hx1,hx2,hx3,hx4,hx5,hx6⟩,hOk⟩
 have t10s:=t10.size
 obtain⟨av,cv,rfl,hrd⟩:=hr.reads
 obtain⟨gz,rfl,hb1,hb2,_⟩:=hrd 0 (by rw[EL.o];omega)
 have NW:=hQQ (Ws.of_rw hr)
 rw[EL.o]
 have y24:=hx1.at24 (kV d)
 have f24:=hx1.froz 24
 obtain⟨w11,e11⟩:∃w11,w10.setCell ⟨w6.heap.size,24,none⟩ (.slice (some ⟨gz,0,none⟩) n' cv)=w11:=⟨_,rfl⟩
 have s11:StB w11 w6.heap.size (d.arr.toList++ [.slice (some ⟨gz,0,none⟩) n' cv]) fs o (.bool false):=by rw[←e11];exact hx1.put24 (kV d) _
 have y36:=s11.end36
 have f36:=s11.froz 36
 obtain⟨w12,e12⟩:∃w12,w11.setCell ⟨w6.heap.size,36,none⟩ (.bool true)=w12:=⟨_,rfl⟩
 have s12:StB w12 w6.heap.size (d.arr.toList++ [.slice (some ⟨gz,0,none⟩) n' cv]) fs o (.bool true):=by rw[←e12];exact s11.put36 _
 have t11:Turned (fun k=>k=w6.heap.size) w10 w11:=by rw[←e11];exact Turned.setCell (Turned.refl _ w10) _ _ (fun _=>rfl)
 have t12:Turned (fun k=>k=w6.heap.size) w10 w12:=by rw[←e12];exact Turned.setCell t11 _ _ (fun _=>rfl)
 have h9w:w.heap.size+3≤w9.heap.size:=by omega
 have ty:∀T:TypeId,T≠37→∀k,k=w6.heap.size→∃cs U fr,w10.heap[k]?=some (.cells cs U fr)∧U≠T:=fun T hT k q=>by subst q;exact⟨_,_,_,hx1.2,fun e=>hT e.symm⟩
 have RC12:w12.heap[w.heap.size+2]?=some (.cells mZ 37 (0,0)):=(t12.block _ (by have:=ac RC.o;omega) (by omega)).trans ((t10.block _ (ac RC.o) (by omega)).trans RC.o)
 obtain⟨cur,hcur⟩:∃cur,(stL (d.arr.toList++ [.slice (some ⟨gz,0,none⟩) n' cv]) fs o (.bool true)).toArray=cur:=⟨_,rfl⟩
 have CUR:Hq (w12.heap[w6.heap.size]?=some (.cells cur 37 (0,0))):=hQQ (by rw[←hcur];exact s12.2)
 have SZ:Hq (cur.size=37):=hQQ (by rw[←hcur,List.size_toArray];exact nR s12.1 _ _ _)
 have AL:Hq (cur.all (·.oneCell')=true):=hQQ (by rw[←hcur];exact Cv _ (xU d _ rfl) (Pu.all1 hx2) (Pu.all1 hx3) hx4.one rfl)
 have tR:=Turned.setRow (S:=fun b=>b=w.heap.size+2) (Turned.refl _ w12) (w.heap.size+2) cur (fun _=>rfl)
 have M12:ae w w12:=Turned.mono (ak (F:=fun _=>False) (ak (F:=fun _=>False) M9.o t10 (fun b e=> .inr (by omega))) t12 (fun b e=> .inr (by omega))) (fun _ _ q=>q)
 have ty2:∀T:TypeId,T≠37→∀k,k=w.heap.size+2→∃cs U fr,w12.heap[k]?=some (.cells cs U fr)∧U≠T:=fun T hT k q=>by subst q;exact⟨_,_,_,RC12,fun e=>hT e.symm⟩
 have FIN:Hq (DN w d n' xs sF (.returned (.agg cur)) (w12.setRow (w.heap.size+2) cur)):=hQQ ⟨gz,cv,fs,o,by rw[←hcur],(NW.o.keep t12 (by omega)).keep tR (by omega),(hx2.keep t12 (ty _ (by decide))).keep tR (ty2 _ (by decide)),(hx3.keep t12 (ty _ (by decide))).keep tR (ty2 _ (by decide)),((hx4.keep t12 (ty _ (by decide))).keep tR (ty2 _ (by decide))).low (by omega),by omega,Turned.mono (ak (F:=fun _=>False) M12 tR (fun b e=> .inr (by omega))) (fun _ _ q=>q),hx5.mono (fun q e=>by omega),hx6.mono (fun q e=>by omega)⟩
 have RCX:=hQQ RC12
 clear hr hrd hb1 hb2 DO hx1 hx2 hx3 hx4 hx5 hx6 t10 hC hOk s11 s12 t11 t12 ty ty2 tR M12 RC12 hcur
 have e1:((n':Int)==(n':Int))=true:=by simp
 go_wp2_with (first
  |(refine wpList_load_row rfl 37 _ rfl w6.heap.size rfl 37 _ _ _ CUR.o Tryz.underlying37 rfl (by rw[SZ.o];kernel_rfl) ?_)
  |(refine wpList_store_row rfl 37 _ _ rfl _ cur rfl rfl 37 _ RCX.o (by rw[SZ.o];kernel_rfl) (by rw[SZ.o];rfl) AL.o ?_))
 refine bodyPost_ret (v:=.agg cur) (results_cell_row Tryz.results8 _ _ _ 37 _ (0,0) _ rfl (setRow_heap _ _ _ _ _ _ RCX.o) Tryz.underlying37 rfl (by rw[SZ.o];kernel_rfl)) rfl FIN.o
end Go.Proofs.YtddmeghbmdfgeaaGreatDoor
