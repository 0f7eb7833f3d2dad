/-
  The landed package pages: what is put off till the end of a call, by a view that stands.
-/
import Derived.Test.YtddmeghbmdfgeaaGreatDoorFtAi
import Derived.Test.YtddmeghbmdfgeaaGreatDoorFtAh
import Derived.Test.YtddmeghbmdfgeaaGreatDoorFtAg
import Derived.Recover
import Derived.Test.YtddmeghbmdfgeaaGreatDoorFtAe
import Derived.ProofKit
import Derived.OpenShut
import Derived.Deep.Slices
import Derived.Deep.Fields
import Derived.Lib.SmallJoins
set_option maxRecDepth 100000
set_option maxHeartbeats 8000000
set_option linter.all false
namespace Go.Proofs.YtddmeghbmdfgeaaGreatDoor
open Go.RowKit Go.Sort Go.Maps Go.Shelf
theorem zh {P:Program}{ops:Array Oper}{C:World→Prop}{o:Oper}{a:Act}(hw:Region.wanted o (yielded ops a.tmps)=true)(ty:TypeId)(x:Operand)(ho:o.op=.load ty x)(g off:Nat)(hx:a.eval x=.pointer (some ⟨g,off,none⟩))(t:TypeId)(cs hs:Array Value)(fr:Nat×Nat)(d:TypeDesc)(hg:∀w,C w→w.heap[g]?=some (.cells cs t fr))(hc:∀j,j<hs.size→cs[off+j]?=hs[j]?)
 (hu:P.underlying ty=some d) (hd:(match d with| .struct _| .array _ _=>true|_=>false)=true) (hi:(P.info? ty).map (·.size)=some hs.size):bM P ops C o (.agg hs) a:=by
 refine .inl ⟨hw,fun w hC=>?_⟩
 unfold execOp
 simp only[ho,hx,Instr.loadAt,Instr.sureAddr,Sem.run_bind,Sem.run_pure,Result.andThen_ok,i6 w g off t ty cs hs fr d (hg w hC) hc hu hd hi]
def i8 (pg st q k was:Int):Prg Unit:=aq (fT pg st q k was) fun _=>aq (cT (cA pg st q)) fun f=>aq (jk pg st q k f) fun _=>az ()
theorem rp (pg st q k was:Int):bH (i8 pg st q k was):=ar (th _ _ _ _ _) (fun _=>ar (dl _) (fun _=>ar (xg _ _ _ _ _) (fun _=>ah _)))
theorem io {pg st:Int}{n:Nat}(H:cF pg st n)(q k was:Int)(hq:af pg q=true):bZ n (fun _=>True) (i8 pg st q k was):=by
 have hb:=(cx H.toPgIn hq).2.1.2.1
 exact aw (ko H q k was) (fun _ _=>aw (a6 n hb) (fun f _=>aw (mu H q k f) (fun _ _=>ai n trivial)))
theorem zi {c:Cfg}(R:c.Ok){n:Nat}(H:cF c.pg c.st n)(hn:n≤10000)(F:Nat→Prop)(p:Nat)(kn:Int→Option Int)(D:List KV)(q k was:Int)(hq:af c.pg q=true)(gb wb:Nat)(w:World)(hv:aF w F p kn D)(hk:OkK kn)(hD:cI n D)(hg:w.heap[gb]?=some (.cells (bK c p q k) 90 (0,0)))(hw:w.heap[wb]?=some (.cells #[.int .i64 was] 3 (0,0)))(nFg:¬F gb)(u:FrameMode):
 CallsD Tryz.prog 129 #[.pointer (some ⟨gb,0,none⟩),.pointer (some ⟨wb,0,none⟩)] u w (fun e u' w'=>u'=u∧aI w F p kn (fun _:Unit=> .tuple #[]) (i8 c.pg c.st q k was kn D) e w'):=by
 obtain⟨Rr,hRr⟩:∃Rr,i8 c.pg c.st q k was kn D=Rr:=⟨_,rfl⟩
 rw[hRr]
 have M0:Hq (MidV w w F (fun _=>False) p kn n D F):=hQQ (MidV.begin hv hD)
 have NEED:Hq (∀a w2,Rr=.need a→bJ w2 p a→Turned (fun b=>F b∨False) w w2→aI w F p kn (fun _:Unit=>Value.tuple #[]) Rr (.panicked (bB p)) w2):=hQQ fun a w2 e hd ht=>jE (ae.refl w) (fun _ q=>q.elim) e hd ht
 have DONE:Hq (∀x w2 D' F',Rr=.ok x D'→MidV w w2 F (fun _=>False) p kn n D' F'→aI w F p kn (fun _:Unit=>Value.tuple #[]) Rr (.returned (.tuple #[])) w2):=hQQ fun x w2 D' F' e h=>fI (val:=fun _:Unit=>Value.tuple #[]) (ae.refl w) (fun _ q=>q.elim) h e
 have KP:Hq (∀wr D' F',MidV w wr F (fun _=>False) p kn n D' F'→wr.heap[gb]?=some (.cells (bK c p q k) 90 (0,0))):=hQQ fun wr D' F' h=>(h.turn.block gb (ac hg) (by rintro(z|z);exact nFg z;exact z)).trans hg
 have CC:Hq (∀W:World,W.heap[gb]?=some (.cells (bK c p q k) 90 (0,0))→W.cell? ⟨gb,0,none⟩=some (.pointer (some ⟨p,0,none⟩))∧W.cell? ⟨gb,25,none⟩=some (.int .i64 q)∧W.cell? ⟨gb,26,none⟩=some (.int .i64 k)):=hQQ fun W hl1 =>
  ⟨by rw[cell_of_row W _ _ _ _ _ hl1];exact tj c p q k,by rw[cell_of_row W _ _ _ _ _ hl1];exact tk c p q k,by rw[cell_of_row W _ _ _ _ _ hl1];exact tn c p q k⟩
 have L0:=hQQ hg
 have cw:=(aA hw).1
 obtain⟨c0,c25,c26⟩:=CC.o _ hg
 have HK:=hQQ hk
 have HR:=hQQ R
 have HH:=hQQ H
 have HQ:=hQQ hq
 have PB:=hQQ (cx H.toPgIn hq)
 unfold i8 at hRr
 have HRr:=hQQ hRr
 clear hRr hv hk hD hg hw nFg R H hq
 go_enter_d Tryz.func129,Tryz.ntmps129
 go_wp2_with (refine i7 rfl 28 _ rfl gb 1 rfl 90 _ c.arr _ _ L0.o (gT c p q k) Tryz.underlying28 rfl (by kernel_rfl) ?_)
 clear c0 c25 c26 cw
 refine(Ew HR.o HH.o hn F p kn D q k was w M0.o.view HK.o M0.o.inv).mono ?_
 intro e w2 he
 rcases M0.o.step (ae.refl _) HK.o (ko HH.o q k was) he with⟨a',hE,rfl,hd',ht',_⟩|⟨x2,D2,F2,hE,rfl,M2,hq2,_,_⟩
 ·exact⟨rfl,NEED.o a' w2 (HRr.o.symm.trans (ag hE)) hd' ht'⟩
 have R2:=hQQ ((aj hE).symm.trans HRr.o)
 have M2:=hQQ M2
 have L2:=hQQ (KP.o _ _ _ M2.o)
 clear he hE
 go_wp2_with fail
 refine aO (fun W=>W.heap[gb]?=some (.cells (bK c p q k) 90 (0,0))) (by kernel_rfl) ?_
 have MR:=hQQ (M2.o.more ((ae.refl w2).drewN 1))
 change dg _ _ _ _ _ _ _ _ (w2.drewN 1)
 generalize w2.drewN 1=wr at MR⊢
 generalize hA:Act.mk _ _=A
 have HF:AG 23 A [(0,.pointer (some ⟨gb,0,none⟩))]:=by
  rw[←hA];try simp only[pts,List.foldl]
  refine⟨⟨Nat.le_of_ble_eq_true rfl,rfl⟩,?_⟩
  intro z hz;simp only[List.mem_cons,List.not_mem_nil,or_false] at hz;rcases hz with rfl<;>rfl
 refine bL (fun a W=>∃(u12 u13 u14 u15 u16 u17 u18 u19 u20 u21 u22:Value) (D9:List KV) (F9:Nat→Prop),a=(pts A [(12,u12),(13,u13),(14,u14),(15,u15),(16,u16),(17,u17),(18,u18),(19,u19),(20,u20),(21,u21),(22,u22)])∧MidV w W F (fun _=>False) p kn n D9 F9∧Rr=.ok () D9) (fun W=>aI w F p kn (fun _:Unit=>Value.tuple #[]) Rr (.panicked (bB p)) W) (bB p) (fun a W hd h=>⟨hd,h⟩) (fun _ _ _ _ _ h=>h) ?_ ?_
 ·skip
  rintro a wa ⟨u12,u13,u14,u15,u16,u17,u18,u19,u20,u21,u22,D9,F9,rfl,MS,hr⟩
  rw[←hA];try simp only[pts,List.foldl]
  have FIN:=hQQ (DONE.o () wa D9 F9 hr MS)
  clear HF hA MR MS hr
  go_simp
  go_wp2_with fail
  go_end0
  exact FIN.o
 intro QQ FINE FIND FINQ
 clear hA
 refine tqC 0 12 (.pointer (some ⟨gb,0,none⟩)) (by kernel_rfl) FINQ (KP.o _ _ _ MR.o) HF (by exact(Or.inl ⟨(ab rfl),fun W hW=>by have h5:=(HF.getD 0 rfl);go_simp⟩)) fun A β1 HF=>?_
 refine tqC 1 13 (.pointer (some ⟨p,0,none⟩)) (by kernel_rfl) FINQ (KP.o _ _ _ MR.o) HF (by exact fd (ab rfl) 43 _ rfl gb 0 (HF.get 0 rfl) (.pointer (some ⟨p,0,none⟩)) _ Tryz.underlying43 rfl (fun W hW=>(CC.o W hW).1)) fun A β2 HF=>?_
 refine tqC 2 14 (.pointer (some ⟨gb,1,none⟩)) (by kernel_rfl) FINQ (KP.o _ _ _ MR.o) HF (by exact(Or.inl ⟨(ab rfl),fun W hW=>by have h5:=(HF.getD 2 rfl);go_simp⟩)) fun A β3 HF=>?_
 refine tqC 3 15 (.agg c.arr) (by kernel_rfl) FINQ (KP.o _ _ _ MR.o) HF (by exact zh (ab rfl) 28 _ rfl gb 1 (HF.get 0 rfl) 90 _ c.arr _ _ (fun W hW=>hW) (gT c p q k) Tryz.underlying28 rfl (by kernel_rfl)) fun A β4 HF=>?_
 refine tqC 4 16 (.pointer (some ⟨gb,25,none⟩)) (by kernel_rfl) FINQ (KP.o _ _ _ MR.o) HF (by exact(Or.inl ⟨(ab rfl),fun W hW=>by have h5:=(HF.getD 4 rfl);go_simp⟩)) fun A β5 HF=>?_
 refine tqC 5 17 (.int .i64 q) (by kernel_rfl) FINQ (KP.o _ _ _ MR.o) HF (by exact fd (ab rfl) 3 _ rfl gb 25 (HF.get 0 rfl) (.int .i64 q) _ Tryz.underlying3 rfl (fun W hW=>(CC.o W hW).2.1)) fun A β6 HF=>?_
 refine tqC 6 18 (.pointer (some ⟨gb,26,none⟩)) (by kernel_rfl) FINQ (KP.o _ _ _ MR.o) HF (by exact(Or.inl ⟨(ab rfl),fun W hW=>by have h5:=(HF.getD 6 rfl);go_simp⟩)) fun A β7 HF=>?_
 refine tqC 7 19 (.int .i64 k) (by kernel_rfl) FINQ (KP.o _ _ _ MR.o) HF (by exact fd (ab rfl) 3 _ rfl gb 26 (HF.get 0 rfl) (.int .i64 k) _ Tryz.underlying3 rfl (fun W hW=>(CC.o W hW).2.2)) fun A β8 HF=>?_
 refine tqC 8 20 (.agg (bK c p q k)) (by kernel_rfl) FINQ (KP.o _ _ _ MR.o) HF (by exact aD (ab rfl) 90 _ rfl gb (HF.get 8 rfl) 90 _ _ _ (fun W hW=>hW) Tryz.underlying90 rfl (by kernel_rfl)) fun A β9 HF=>?_
 refine tqO 9 21 (by kernel_rfl) HF fun K hK=>?_
 refine sV (v0:=.agg (bK c p q k)) rfl (HF.get 0 rfl) (enters_of Tryz.func128 (by kernel_rfl) rfl) ?_
 refine(Di HR.o HH.o.toPgIn F2 p kn D2 q k hn HQ.o wr MR.o.view HK.o MR.o.inv).mono ?_
 intro e w4 he
 rcases MR.o.step (ae.refl _) HK.o (a6 n PB.o.2.1.2.1) he with⟨a',hE,rfl,hd',ht',_⟩|⟨x4,D4,F4,hE,rfl,M4,hq4,_,_⟩
 ·exact FIND _ _ HF.1.2 (NEED.o a' w4 (R2.o.symm.trans (ag hE)) hd' ht')
 have R4:=hQQ ((aj hE).symm.trans R2.o)
 have M4:=hQQ M4
 clear he hE
 refine hK _ _ (KP.o _ _ _ M4.o) fun A β10 HF=>?_
 clear hK K
 refine tqO 10 22 (by kernel_rfl) HF fun K hK=>?_
 refine jH (v0:=.pointer (some ⟨p,0,none⟩)) (v1:=.agg c.arr) (v2:=.int .i64 q) (v3:=.int .i64 k) (v4:=.int .i64 x4) rfl (HF.get 8 rfl) (HF.get 6 rfl) (HF.get 4 rfl) (HF.get 2 rfl) (HF.get 0 rfl) (enters_of Tryz.func131 (by kernel_rfl) rfl) ?_
 refine(Kh HR.o HH.o hn F4 p kn D4 q k x4 w4 M4.o.view HK.o M4.o.inv).mono ?_
 intro e w5 he
 rcases M4.o.step (ae.refl _) HK.o (mu HH.o q k x4) he with⟨a',hE,rfl,hd',ht',_⟩|⟨x5,D5,F5,hE,rfl,M5,hq5,_,_⟩
 ·exact FIND _ _ HF.1.2 (NEED.o a' w5 (R4.o.symm.trans (ag hE)) hd' ht')
 have R5:=hQQ ((aj hE).symm.trans R4.o)
 have M5:=hQQ M5
 clear he hE
 refine hK _ _ (KP.o _ _ _ M5.o) fun A β11 HF=>?_
 clear hK K
 exact bU (by kernel_rfl) (FINE _ _ ⟨(.pointer (some ⟨gb,0,none⟩)),(.pointer (some ⟨p,0,none⟩)),(.pointer (some ⟨gb,1,none⟩)),(.agg c.arr),(.pointer (some ⟨gb,25,none⟩)),(.int .i64 q),(.pointer (some ⟨gb,26,none⟩)),(.int .i64 k),(.agg (bK c p q k)),(.int .i64 x4),(.bool x5),D5,F5,by rw[← β11,← β10,← β9,← β8,← β7,← β6,← β5,← β4,← β3,← β2,← β1]<;>rfl,M5.o,R5.o.symm⟩)
def pJ (b:Nat)(c:Cfg)(p:Nat)(q k:Int)(x:Int)(v:Value)(W:World)(F:Nat→Prop):Prop :=
 ∃gb wb,v=.func (.func 129) #[] #[.pointer (some ⟨gb,0,none⟩),.pointer (some ⟨wb,0,none⟩)]∧b≤gb∧b≤wb∧gb≠wb∧¬F gb∧¬F wb ∧
  W.heap[gb]?=some (.cells (bK c p q k) 90 (0,0))∧W.heap[wb]?=some (.cells #[.int .i64 x] 3 (0,0))
theorem Dk {c:Cfg}(R:c.Ok){n:Nat}(H:PgIn c.pg c.st n)(hn:n≤10000)(F:Nat→Prop)(p:Nat)(kn:Int→Option Int)(D:List KV)(q k:Int)(hq:af c.pg q=true)(w:World)(hv:aF w F p kn D)(hk:OkK kn)(hD:cI n D):
 Calls Tryz.prog 111 #[.agg (bK c p q k)] w (ie w F p kn (pJ w.heap.size c p q k) (cT (cA c.pg c.st q) kn D)):=by
 obtain⟨Rr,hRr⟩:∃Rr,cT (cA c.pg c.st q) kn D=Rr:=⟨_,rfl⟩
 rw[hRr]
 obtain⟨w1,e1,hl1,m1,s1⟩:=bg w (.cells (bK c p q k) 90)
 have MM:=hQQ m1
 have L0:=hQQ hl1
 have c0:=(show w1.cell? ⟨w.heap.size,0,none⟩=some (.pointer (some ⟨p,0,none⟩)) by rw[cell_of_row w1 _ _ _ _ _ hl1];exact tj c p q k)
 have c25:=(show w1.cell? ⟨w.heap.size,25,none⟩=some (.int .i64 q) by rw[cell_of_row w1 _ _ _ _ _ hl1];exact tk c p q k)
 have c26:=(show w1.cell? ⟨w.heap.size,26,none⟩=some (.int .i64 k) by rw[cell_of_row w1 _ _ _ _ _ hl1];exact tn c p q k)
 have nFl:¬F w.heap.size:=fun z=>by have:=hv.lt _ z;omega
 have M0:=m0Z (hv.more m1) hD
 have NEED:Hq (∀a w2,Rr=.need a→bJ w2 p a→Turned (fun b=>F b∨False) w1 w2→ie w F p kn (pJ w.heap.size c p q k) Rr (.panicked (bB p)) w2):=hQQ fun a w2 e hd ht=>qJ MM.o (fun _ q=>q.elim) e hd ht
 have DONE:Hq (∀x v w2 D' F',Rr=.ok x D'→MidV w1 w2 F (fun _=>False) p kn n D' F'→pJ w.heap.size c p q k x v w2 F'→ie w F p kn (pJ w.heap.size c p q k) Rr (.returned v) w2):=hQQ fun x v w2 D' F' e h hp=>qK MM.o (fun _ q=>q.elim) h e hp
 have hwl:w.heap.size<w1.heap.size:=by omega
 have HNF:=hQQ nFl
 have PB:=hQQ (cx H hq).2.1
 have HK:=hQQ hk
 have HRr:=hQQ hRr
 have GC:=hQQ (Di R H F p kn D q k hn hq w1 M0.o.view HK.o M0.o.inv)
 clear hl1 m1 hv hD hk R nFl hRr H hq c0 c25 c26
 go_enter Tryz.func111,Tryz.ntmps111
 go_wp2_with (refine wpList_load_row rfl 90 _ rfl w.heap.size rfl 90 _ _ _ L0.o Tryz.underlying90 rfl (by kernel_rfl) ?_)
 clear e1
 refine GC.o.mono ?_
 intro e w4 he
 rcases M0.o.step (ae.refl _) HK.o (a6 n PB.o.2.1) he with⟨a',hE,rfl,hd',ht',_⟩|⟨x4,D4,F4,hE,rfl,M4,hq4,_,_⟩
 ·exact⟨rfl,NEED.o a' w4 (HRr.o.symm.trans hE) hd' ht'⟩
 have M4:=hQQ M4
 have E4:=hQQ (HRr.o.symm.trans hE)
 clear he hE
 obtain⟨wA,eA,hA,mA,sA⟩:=bg w4 (.cells #[.int .i64 0] 3)
 obtain⟨cA',fA,kA'⟩:=aA hA
 obtain⟨wB,eB⟩:∃wB,wA.setCell ⟨w4.heap.size,0,none⟩ (.int .i64 x4)=wB:=⟨_,rfl⟩
 have mB:ae w4 wB:=by rw[←eB];exact Turned.setCell mA _ _ (fun z=>by simp at z)
 have hB:wB.heap[w4.heap.size]?=some (.cells #[.int .i64 x4] 3 (0,0)):=by rw[←eB];exact eV hA _
 have FIN:Hq (ie w F p kn (pJ w.heap.size c p q k) Rr (.returned (.func (.func 129) #[] #[.pointer (some ⟨w.heap.size,0,none⟩),.pointer (some ⟨w4.heap.size,0,none⟩)])) wB):=hQQ (by
  have h4:w1.heap.size≤w4.heap.size:=M4.o.size
  have g4:=fS M4.o L0.o HNF.o (fun q=>q)
  refine DONE.o x4 _ wB D4 F4 E4.o (M4.o.more mB) ⟨_,_,rfl,by omega,by omega,by omega,M4.o.off hwl HNF.o,fun r=>by have:=M4.o.view.lt _ r;omega,mB.block g4,hB⟩)
 clear hA mA sA mB hB
 go_wp2_with fail
 go_ret
 exact FIN.o
theorem tw (c:Cfg)(p:Nat)(q k:Int):Tryz.prog.built 90 [(0,.pointer (some ⟨p,0,none⟩)),(1,.agg c.arr),(2,.int .i64 q),(3,.int .i64 k)]=some (bK c p q k):=by kernel_rfl
theorem zj {ops:Array Oper}{rest:List Oper}{o:Oper}{a:Act}{w:World}{Q:Exit→Act→World→Prop}(hgd:o.guard=none)(x0 x1 x2 x3:Operand)(ho:o.op=.build 90 #[(0,x0),(1,x1),(2,x2),(3,x3)])(c:Cfg)(p:Nat)(q k:Int)
 (h0:a.eval x0=.pointer (some ⟨p,0,none⟩)) (h1:a.eval x1=.agg c.arr) (h2:a.eval x2=.int .i64 q) (h3:a.eval x3=.int .i64 k) (h:wpList Tryz.prog ops Q rest (a.put o.dst (.agg (bK c p q k))) w):wpList Tryz.prog ops Q (o::rest) a w:=by
 have e:Tryz.prog.built 90 ((#[(0,x0),(1,x1),(2,x2),(3,x3)]:Array (Nat×Operand)).map fun(i,x)=>(i,a.eval x)).toList=some (bK c p q k):=by
  simp only[List.map_toArray,List.map_cons,List.map_nil,h0,h1,h2,h3]
  exact tw c p q k
 refine wpList_build hgd _ _ ho ?_ ?_
 ·rw[e];rfl
 ·rw[e];exact h
theorem qO (c:Cfg)(p:Nat)(q k:Int):(bK c p q k).all (·.oneCell')=true:=by
 have h:c.arr.toList.all (·.oneCell')=true:=by rw[Array.all_toList];exact k6 ..
 simp[bK,Value.oneCell'] at h⊢
 exact h
theorem Hi (w:World)(c:Cfg)(p:Nat)(q k:Int):∃w1,(w.alloc (.cells #[Value.pointer none,Value.int IntKind.i64 0,Value.int IntKind.i64 0,Value.int IntKind.i64 0,Value.int IntKind.i64 0,Value.int IntKind.i64 0,Value.int IntKind.i64 0,Value.int IntKind.i64 0,Value.int IntKind.i64 0,Value.int IntKind.i64 0,Value.int IntKind.i64 0,Value.int IntKind.i64 0,Value.int IntKind.i64 0,Value.int IntKind.i64 0,Value.int IntKind.i64 0,Value.int IntKind.i64 0,Value.int IntKind.i64 0,Value.int IntKind.i64 0,Value.int IntKind.i64 0,Value.int IntKind.i64 0,Value.int IntKind.i64 0,Value.int IntKind.i64 0,Value.int IntKind.i64 0,Value.int IntKind.i64 0,Value.int IntKind.i64 0,Value.int IntKind.i64 0,Value.int IntKind.i64 0] 90)).setRow w.heap.size (bK c p q k)=w1∧w1.heap[w.heap.size]?=some (.cells (bK c p q k) 90 (0,0))∧ae w w1 :=
 ⟨_,rfl,setRow_heap _ _ _ _ _ _ (aW w _ _),((ae.refl w).alloc _).setRow _ _ (Nat.le_refl _)⟩
def j0 (pg st k:Int):Prg Bool:=aq (fl pg st k (ax k).toNat 1) fun x=>az (x != -1)
theorem tz (pg st k:Int):bH (j0 pg st k):=ar (mt _ _ _ _ _) (fun _=>ah _)
theorem Hj {c:Cfg}(R:c.Ok){n:Nat}(H:cF c.pg c.st n)(F:Nat→Prop)(p:Nat)(kn:Int→Option Int)(D:List KV)(k:Int)(w:World)(hv:aF w F p kn D)(hk:OkK kn)(hD:cI n D)(bt:Nat)(hs:dh bt w)(nF0:¬F 0)(nFb:¬F bt):
 Calls Tryz.prog 24 #[.pointer (some ⟨p,0,none⟩),.agg c.arr,.int .i64 k] w (aI w F p kn (fun b=> .bool b) (j0 c.pg c.st k kn D)):=by
 obtain⟨Rr,hRr⟩:∃Rr,j0 c.pg c.st k kn D=Rr:=⟨_,rfl⟩
 rw[hRr]
 obtain⟨w1,e1,hl1,m1,s1⟩:=bg w (.cells c.arr 28)
 have nFl:¬F w.heap.size:=fun q=>by have:=hv.lt _ q;omega
 have MM:=hQQ m1
 have L0:=hQQ hl1
 have M0:=m0Z (hv.more m1) hD
 have KL:=klZ (p:=p) (kn:=kn) (n:=n) L0.o nFl
 have NEED:=ndZ (F:=F) (p:=p) (kn:=kn) (R:=Rr) (fun b:Bool=>Value.bool b) MM.o
 have DONE:=dnZ (F:=F) (p:=p) (n:=n) (kn:=kn) (R:=Rr) (fun b:Bool=>Value.bool b) MM.o
 have HK:=hQQ hk
 have HR:=hQQ R
 have HH:=hQQ H
 clear hl1 m1 hv hD hk R H nFl
 have HS:=hQQ (hs.more MM.o)
 have HRr:=hQQ (show aq (fl c.pg c.st k (ax k).toNat 1) (fun x=>az (x != -1)) kn D=Rr from hRr)
 have HF:=hQQ (And.intro nF0 nFb)
 clear hRr hs nF0 nFb
 go_enter Tryz.func24,Tryz.ntmps24
 go_wp2_with (first|(refine aM rfl rfl rfl L0.o (by kernel_rfl) ?_)|(refine aM rfl rfl rfl L0.o (by kernel_rfl) ?_))
 refine(zd HR.o HH.o F p kn D k w1 M0.o.view HK.o M0.o.inv bt HS.o HF.o.1 HF.o.2).mono ?_
 intro e w3 he
 rcases M0.o.step (ae.refl _) HK.o (gg HH.o _ _ _) he with⟨a',hE,rfl,hd',ht',_⟩|⟨x3,D3,F3,hE,rfl,M3,hq3,_,_⟩
 ·exact⟨rfl,NEED.o a' w3 (HRr.o.symm.trans (ag hE)) hd' ht'⟩
 have L3:=hQQ (KL.o _ _ _ M3)
 have R3:=hQQ ((aj hE).symm.trans HRr.o)
 have M3:=hQQ M3
 clear he hE
 have FIN:=hQQ (DONE.o (x3 != -1) w3 D3 F3 R3.o.symm M3.o)
 go_wp2_with fail
 go_ret
 exact FIN.o
theorem cnt_b (b k:Int):0≤dx b (ax k)∧dx b (ax k)≤32∧0≤dQ k b∧dQ k b≤32:=by
 have h:=Hf (cameUpTo b (endN (ax k)))
 rw[yZ,rm] at h
 have hs:=et k
 have he:(endN (ax k):Int)=ax k:=by unfold endN;omega
 unfold dQ
 omega
section
variable {ops:Array Oper}{C:World→Prop}{o':Oper}{a:Act}{x y:Operand}
theorem mE {s len cap j:Nat}(hw:Region.wanted o' (yielded ops a.tmps)=true)(ho:o'.op=.indexAddr 29 x y)(hx:a.eval x=.slice (some ⟨s,0,none⟩) len cap)(hy:a.eval y=.int .i64 (j:Int))(hj:j<len):bM Tryz.prog ops C o' (.pointer (some ⟨s,j,none⟩)) a:=by
 have d1:decide (j<len)=true:=by simp[hj]
 refine .inl ⟨hw,fun W hW=>?_⟩
 unfold execOp
 generalize a.eval=ρ at hx hy⊢
 simp only[ho,hx,hy]
 go_simp
theorem pK {u z:Int}(hw:Region.wanted o' (yielded ops a.tmps)=true)(ho:o'.op=.binOp .sub 3 x y 3)(hx:a.eval x=.int .i64 u)(hy:a.eval y=.int .i64 z)(t:Int)(hq:IntKind.i64.wrap (u-z)=t):bM Tryz.prog ops C o' (.int .i64 t) a :=
 .inl ⟨hw,fun w _=>by unfold execOp;generalize a.eval=ρ at hx hy⊢;simp only[ho,hx,hy];subst hq;go_simp⟩
end
theorem jm {P:Program}{fn:Func}{p u v:Tmp}{ty:TypeId}(h:fn.results= #[.cell p ty,.tmp u,.tmp v])(tmps:Array Value)(w:World)(g:Nat)(t:TypeId)(cs:Array Value)(fr:Nat×Nat)(d:TypeDesc)
 (hp:tmps.getD p undef=.pointer (some ⟨g,0,none⟩)) (hg:w.heap[g]?=some (.cells cs t fr))
 (hu:P.underlying ty=some d) (hd:(match d with| .struct _| .array _ _=>true|_=>false)=true) (hi:(P.info? ty).map (·.size)=some cs.size):
 (results fn tmps).run P w=.ok (.tuple #[.agg cs,tmps.getD u undef,tmps.getD v undef]) w:=by
 have hp':tmps[p]?.getD undef=.pointer (some ⟨g,0,none⟩):=by simpa using hp
 simp[results,h,hp',asAddr,run_loadVar_row w g t ty cs fr d hg hu hd hi,Sem.run_bind,Result.andThen]
def Cfg.us (c:Cfg):Int:=eT c.cp c.pg c.st c.ca c.bi
def pgZ:Array Value:= #[Value.pointer none,Value.int IntKind.i64 0,Value.int IntKind.i64 0,Value.int IntKind.i64 0,Value.int IntKind.i64 0,Value.int IntKind.i64 0,Value.int IntKind.i64 0,Value.int IntKind.i64 0,Value.int IntKind.i64 0,Value.int IntKind.i64 0,Value.int IntKind.i64 0,Value.int IntKind.i64 0,Value.int IntKind.i64 0,Value.int IntKind.i64 0,Value.int IntKind.i64 0,Value.int IntKind.i64 0,Value.int IntKind.i64 0,Value.int IntKind.i64 0,Value.int IntKind.i64 0,Value.int IntKind.i64 0,Value.int IntKind.i64 0,Value.int IntKind.i64 0,Value.int IntKind.i64 0,Value.int IntKind.i64 0,Value.int IntKind.i64 0,Value.int IntKind.i64 0,Value.int IntKind.i64 0]
theorem MidV.row {W wr:World}{F S F':Nat→Prop}{p n:Nat}{kn:Int→Option Int}{D:List KV}(h:MidV W wr F S p kn n D F'){b:Nat}(hS:b<W.heap.size→S b)(nF:¬F' b)(cs':Array Value){cs:Array Value}{t:TypeId}{fr:Nat×Nat}(hb:wr.heap[b]?=some (.cells cs t fr)):MidV W (wr.setRow b cs') F S p kn n D F' :=
 have T:Turned (fun k=>k=b) wr (wr.setRow b cs'):=Turned.setRow (Turned.refl _ wr) b cs' (fun _=>rfl)
 ⟨h.view.keepS (S:=fun k=>k=b) T (fun k q e=>nF (e▸q)) (fun k es cl e q=>by subst e;rw[hb] at q;cases q),
  h.from',ak h.turn T (fun k q=>by
   subst q
   rcases Nat.lt_or_ge k W.heap.size with r|r
   ·exact .inl (.inr (hS r))
   ·exact .inr r),h.inv⟩
theorem oM {w:World}{g b:Nat}{cs:Array Value}{o:Obj}(h:w.heap[b]?=some o)(hne:b≠g):(w.setRow g cs).heap[b]?=some o :=
 ((Turned.setRow (S:=fun k=>k=g) (Turned.refl _ w) g cs (fun _=>rfl)).block b (ac h) hne).trans h
theorem vJ (w:World):∃w1,w.alloc (.cells pgZ 90)=w1∧w1.heap[w.heap.size]?=some (.cells pgZ 90 (0,0))∧ae w w1:=⟨_,rfl,aW w _ _,(ae.refl w).alloc _⟩
section
variable {o:Oper}{a:Act}{w:World}{K:Act→World→Prop}{Q:Exit→Act→World→Prop}{ops:Array Oper}{rest:List Oper}{C:World→Prop}
theorem og (ho:o.op=.alloc 90)(h:K (a.put o.dst (.pointer (some ⟨w.heap.size,0,none⟩))) (w.alloc (.cells pgZ 90))):Oper.wp Tryz.prog o a w K Q:=by
 unfold Oper.wp Oper.upon execOp
 simp only[ho]
 go_simp
 exact h
theorem pL (hw:Region.wanted o (yielded ops a.tmps)=true)(x0 x1 x2 x3:Operand)(ho:o.op=.build 90 #[(0,x0),(1,x1),(2,x2),(3,x3)])(c:Cfg)(p:Nat)(q k:Int)
 (h0:a.eval x0=.pointer (some ⟨p,0,none⟩)) (h1:a.eval x1=.agg c.arr) (h2:a.eval x2=.int .i64 q) (h3:a.eval x3=.int .i64 k):bM Tryz.prog ops C o (.agg (bK c p q k)) a:=by
 refine .inl ⟨hw,fun w _=>?_⟩
 unfold execOp
 generalize a.eval=ρ at h0 h1 h2 h3⊢
 simp only[ho,List.map_toArray,List.map_cons,List.map_nil,h0,h1,h2,h3]
 simp[run_build w _ _ _ (tw c p q k),Sem.run_bind,Result.andThen]
theorem Bh:Tryz.prog.built 90 []=some pgZ:=by kernel_rfl
theorem mF (hgd:o.guard=none)(ho:o.op=.build 90 #[])(h:wpList Tryz.prog ops Q rest (a.put o.dst (.agg pgZ)) w):wpList Tryz.prog ops Q (o::rest) a w:=by
 have e:Tryz.prog.built 90 ((#[]:Array (Nat×Operand)).map fun(i,x)=>(i,a.eval x)).toList=some pgZ:=by simp only[List.map_toArray,List.map_nil];exact Bh
 refine wpList_build hgd _ _ ho ?_ ?_
 ·rw[e];rfl
 ·rw[e];exact h
theorem xq {i j:Nat}{x y:Value}(h:i≠j):Act.put (Act.put a (some i) x) (some j) y=Act.put (Act.put a (some j) y) (some i) x:=Act.put_comm a x y (fun d hd e=>by cases hd;cases e;exact h rfl)
end
theorem lB {W:World}{gb p:Nat}{c:Cfg}{q k:Int}(h:W.heap[gb]?=some (.cells (bK c p q k) 90 (0,0))):W.cell? ⟨gb,0,none⟩=some (.pointer (some ⟨p,0,none⟩))∧W.cell? ⟨gb,25,none⟩=some (.int .i64 q)∧W.cell? ⟨gb,26,none⟩=some (.int .i64 k):=
 ⟨by rw[cell_of_row W _ _ _ _ _ h];exact tj c p q k,by rw[cell_of_row W _ _ _ _ _ h];exact tk c p q k,by rw[cell_of_row W _ _ _ _ _ h];exact tn c p q k⟩
theorem Hk (x:Int):W64 (IntKind.i64.wrap x):=by rw[IntKind.wrap_i64];unfold W64;omega
theorem Hl (k:Int){bt:Nat}(w:World)(h:dh bt w):Calls Tryz.prog 26 #[.int .i64 k] w (aQ w (.int .i64 (szV k))):=(lz k w ⟨bt,h⟩).mono fun e w' q=>⟨q.1,q.2▸ae.refl _⟩
abbrev TkA:=Option (Int×Int×Int×Bool)
def tD (c:Cfg)(p:Nat):TkA→Value
 |none=> .tuple #[.agg pgZ,.int .i64 0,.bool false]
 |some (q,k,i,b)=> .tuple #[.agg (bK c p q k),.int .i64 i,.bool b]
def jK (pg st q wd x:Int):Prg TkA :=
 if ax (IntKind.i64.wrap (x-1))=0 then az none else if wd % szV (IntKind.i64.wrap (x-1))≠0 then az none
 else aq (cT (bA pg st q)) fun b=>az (some (q,IntKind.i64.wrap (x-1),wd / szV (IntKind.i64.wrap (x-1)),eP b (wd / szV (IntKind.i64.wrap (x-1)))))
def gc (us pg st a:Int):Prg TkA:=if us≤a∧a<us+32 * pg then aq (fC pg st ((a-us) / 32)) fun x=>jK pg st ((a-us) / 32) ((a-us) % 32) x else az none
theorem xr (pg st q wd x:Int):bH (jK pg st q wd x):=aG (ah _) (aG (ah _) (ar (dl _) fun _=>ah _))
theorem rq (us pg st a:Int):bH (gc us pg st a):=aG (ar (lq _ _ _) fun _=>xr _ _ _ _ _) (ah _)
def Oo (pg:Int)(x:TkA):Prop:=∀q k i b,x=some (q,k,i,b)→af pg q=true∧0≤k∧k≤4∧0≤i∧i≤31
theorem zk {pg st:Int}{n:Nat}(H:PgIn pg st n){q:Int}(hq:af pg q=true){wd:Int}(hw:0≤wd∧wd<32)(x:Int):bZ n (Oo pg) (jK pg st q wd x):=by
 unfold jK
 refine aN (fun _=>ai n (fun _ _ _ _ e=>by cases e)) (fun h=>aN (fun _=>ai n (fun _ _ _ _ e=>by cases e)) (fun _=>aw (a6 n (cx H hq).2.2.2.1) fun b _=>ai n ?_))
 rintro q' k' i' b' e
 cases e
 have h4:=fx h
 generalize IntKind.i64.wrap (x-1)=kk at h4⊢
 obtain⟨z,rfl⟩:∃z:Nat,kk=(z:Int):=⟨kk.toNat,by omega⟩
 have hs:=Ke (k:=z) (by omega)
 exact⟨hq,h4.1,h4.2,Int.ediv_nonneg hw.1 (by omega),by have:=Int.ediv_le_self (szV (z:Int)) hw.1;omega⟩
theorem nG {us pg a:Int}(h:us≤a∧a<us+32 * pg):af pg ((a-us) / 32)=true∧0≤(a-us) % 32∧(a-us) % 32<32:=⟨ay.2 (by omega),by omega,by omega⟩
theorem lC {us pg st:Int}{n:Nat}(H:PgIn pg st n)(a:Int):bZ n (Oo pg) (gc us pg st a):=by
 unfold gc
 exact aN (fun h=>aw (gH H _) fun x _=>zk H (nG h).1 (nG h).2 x) (fun _=>ai n (fun _ _ _ _ e=>by cases e))
theorem Dl {c:Cfg}(R:c.Ok){n:Nat}(H:cF c.pg c.st n)(hn:n≤10000)(F:Nat→Prop)(p:Nat)(kn:Int→Option Int)(D:List KV)(ad:Int)(w:World)(hv:aF w F p kn D)(hk:OkK kn)(hD:cI n D)(bt:Nat)(hs:dh bt w)(nF0:¬F 0)(nFb:¬F bt):
 Calls Tryz.prog 44 #[.pointer (some ⟨p,0,none⟩),.agg c.arr,.int .i64 ad] w (aI w F p kn (tD c p) (gc c.us c.pg c.st ad kn D)):=by
 obtain⟨Rr,hRr⟩:∃Rr,gc c.us c.pg c.st ad kn D=Rr:=⟨_,rfl⟩
 rw[hRr]
 obtain⟨w2,e2,hl2,hz2,m2,s2⟩:=ij w (.cells c.arr 28) (.cells #[Value.pointer none,Value.int IntKind.i64 0,Value.int IntKind.i64 0,Value.int IntKind.i64 0,Value.int IntKind.i64 0,Value.int IntKind.i64 0,Value.int IntKind.i64 0,Value.int IntKind.i64 0,Value.int IntKind.i64 0,Value.int IntKind.i64 0,Value.int IntKind.i64 0,Value.int IntKind.i64 0,Value.int IntKind.i64 0,Value.int IntKind.i64 0,Value.int IntKind.i64 0,Value.int IntKind.i64 0,Value.int IntKind.i64 0,Value.int IntKind.i64 0,Value.int IntKind.i64 0,Value.int IntKind.i64 0,Value.int IntKind.i64 0,Value.int IntKind.i64 0,Value.int IntKind.i64 0,Value.int IntKind.i64 0,Value.int IntKind.i64 0,Value.int IntKind.i64 0,Value.int IntKind.i64 0] 90)
 have hz2:w2.heap[w.heap.size+1]?=some (.cells pgZ 90 (0,0)):=hz2
 have nFl:¬F w.heap.size:=fun q=>by have:=hv.lt _ q;omega
 have nFz:¬F (w.heap.size+1):=fun q=>by have:=hv.lt _ q;omega
 have MM:=hQQ m2
 have HNZ:=hQQ nFz
 have HZL:=hQQ (show w.heap.size+1<w2.heap.size by omega)
 have L0:=hQQ hl2
 have M0:Hq (MidV w2 w2 F (fun b=>b=w.heap.size+1) p kn n D F∧w2.heap[w.heap.size+1]?=some (.cells pgZ 90 (0,0))):=hQQ ⟨MidV.begin (hv.more m2) hD,hz2⟩
 have KL:Hq (∀wr D' F',MidV w2 wr F (fun b=>b=w.heap.size+1) p kn n D' F'→wr.heap[w.heap.size]?=some (.cells c.arr 28 (0,0))):=hQQ fun wr D' F' h=>fS h L0.o nFl (fun q=>by omega)
 have hSS:∀b,(fun b=>b=w.heap.size+1) b→w.heap.size≤b:=fun b q=>by have:b=w.heap.size+1:=q;omega
 have NEED:Hq (∀a w3,Rr=.need a→bJ w3 p a→Turned (fun b=>F b∨b=w.heap.size+1) w2 w3→aI w F p kn (tD c p) Rr (.panicked (bB p)) w3):=hQQ fun a w3 e hd ht=>jE MM.o hSS e hd ht
 have DONE:Hq (∀x w3 D' F',Rr=.ok x D'→MidV w2 w3 F (fun b=>b=w.heap.size+1) p kn n D' F'→aI w F p kn (tD c p) Rr (.returned (tD c p x)) w3):=hQQ fun x w3 D' F' e h=>fI MM.o hSS h e
 have SZ:Hq (∀wr D' F',MidV w2 wr F (fun b=>b=w.heap.size+1) p kn n D' F'→dh bt wr):=hQQ fun wr D' F' h=>(hs.more MM.o).keep h.turn (by rintro(q|q);exact nF0 q;have:=hs.lt0;omega) (by rintro(q|q);exact nFb q;have:=hs.lt;omega)
 have HK:=hQQ hk
 have HR:=hQQ R
 have HH:=hQQ H
 have pg1:=HR.o.pg1
 have pg2:=HR.o.pg2
 clear hl2 hz2 m2 hv hD hk R H nFl nFz hs nF0 nFb hSS
 unfold gc at hRr
 have L2:=hQQ (KL.o _ _ _ M0.o.1)
 by_cases hin:c.us≤ad∧ad<c.us+32 * c.pg
 ·rw[if_pos hin] at hRr
  obtain⟨hq,hwd⟩:=nG hin
  have PL:=hQQ (DW HR.o w2 ad hin.1 hin.2)
  have PL:=hQQ (show Calls Tryz.prog 79 #[.agg c.arr,.int .i64 ad] w2 (aQ w2 (.tuple #[.int .i64 ((ad-c.us) / 32),.int .i64 ((ad-c.us) % 32),.bool true])) from PL.o)
  generalize (ad-c.us) / 32=q at hRr hq PL
  generalize (ad-c.us) % 32=wd at hRr hwd PL
  have HRr:=hQQ hRr
  have HQ:=hQQ hq
  have PB:=hQQ (cx HH.o.toPgIn hq)
  clear hin hRr hq
  go_enter Tryz.func44,Tryz.ntmps44
  go_wp2_with (first|(refine aM rfl rfl rfl L2.o (by kernel_rfl) ?_)|(refine aM rfl rfl rfl L2.o (by kernel_rfl) ?_))
  refine PL.o.mono ?_
  rintro e w3 ⟨rfl,h3⟩
  have M3:=hQQ (And.intro (M0.o.1.more h3) (h3.block M0.o.2))
  clear h3
  go_wp2_with fail
  have MR:Hq (MidV w2 (w3.drewN 1) F (fun b=>b=w.heap.size+1) p kn n D F∧(w3.drewN 1).heap[w.heap.size+1]?=some (.cells pgZ 90 (0,0))):=hQQ ⟨M3.o.1.more ((ae.refl w3).drewN 1),((ae.refl w3).drewN 1).block M3.o.2⟩
  have KC:Hq (∀W D' F',MidV w2 W F (fun b=>b=w.heap.size+1) p kn n D' F'∧W.heap[w.heap.size+1]?=some (.cells pgZ 90 (0,0))→W.heap[w.heap.size]?=some (.cells c.arr 28 (0,0))):=hQQ fun _ _ _ h=>KL.o _ _ _ h.1
  refine aO (fun W=>W.heap[w.heap.size]?=some (.cells c.arr 28 (0,0))) (by kernel_rfl) ?_
  change dg _ _ _ _ _ _ _ _ (w3.drewN 1)
  generalize hA:Act.mk _ _=A
  have HF:AG 57 A [(0,.pointer (some ⟨p,0,none⟩)),(4,.pointer (some ⟨w.heap.size,0,none⟩)),(9,.int .i64 q)]:=by
   rw[←hA];try simp only[pts,List.foldl]
   refine⟨⟨Nat.le_of_ble_eq_true rfl,rfl⟩,?_⟩
   intro z hz;simp only[List.mem_cons,List.not_mem_nil,or_false] at hz;rcases hz with rfl|rfl|rfl<;>rfl
  generalize w3.drewN 1=wq at MR⊢
  refine bL (fun a W=>∃(u24 u25 u26 u27 u28 u29 u30 u31 u32:Value) (gb:Nat) (x9:Int) (D9:List KV) (F9:Nat→Prop),a=(Act.put (pts A [(24,u24),(25,u25),(26,u26),(27,u27),(28,u28),(29,u29),(30,u30),(31,u31),(32,u32),(12,.pointer (some ⟨gb,0,none⟩))]) none undef)∧(MidV w2 W F (fun b=>b=w.heap.size+1) p kn n D9 F9∧W.heap[w.heap.size+1]?=some (.cells pgZ 90 (0,0))∧W.heap[gb]?=some (.cells (bK c p q (IntKind.i64.wrap (x9-1))) 90 (0,0))∧w2.heap.size≤gb∧¬F9 gb)∧jK c.pg c.st q wd x9 kn D9=Rr) (fun W=>aI w F p kn (tD c p) Rr (.panicked (bB p)) W) (bB p) (fun a W hd h=>⟨hd,h⟩) (fun _ _ _ _ _ h=>h) ?_ ?_
  ·skip
   rintro a W9 ⟨u24,u25,u26,u27,u28,u29,u30,u31,u32,gb,x9,D9,F9,rfl,⟨m9,hz9,hb9,hgb,hnb⟩,hr⟩
   rw[←hA];try simp only[pts,List.foldl]
   have HNB:=hQQ hnb
   have HGB:=hQQ hgb
   have B9:=hQQ hb9
   have M9:=hQQ (And.intro m9 (And.intro hz9 hb9))
   clear HF hA MR KC m9 hz9 hb9 hgb hnb
   go_simp
   obtain⟨kk,hkk⟩:∃kk,IntKind.i64.wrap (x9-1)=kk:=⟨_,rfl⟩
   unfold jK at hr
   simp only[hkk] at hr M9 B9
   have hwkk:W64 kk:=by rw[←hkk];exact Hk _
   clear hkk
   obtain⟨c0,c25,c26⟩:=lB B9.o
   go_wp2_with fail
   refine(Dj kk W9 (SZ.o _ _ _ M9.o.1)).mono ?_
   rintro e w10 ⟨rfl,h10⟩
   have M10:=hQQ (And.intro (M9.o.1.more h10) (And.intro (h10.block M9.o.2.1) (h10.block M9.o.2.2)))
   clear h10 c0 c25 c26
   obtain⟨c0,c25,c26⟩:=lB M10.o.2.2
   by_cases hz:ax kk=0
   ·rw[if_pos hz] at hr
    have d0:(ax kk != 0)=false:=by simp[hz]
    have MZ:=M10.o.1.row (b:=w.heap.size+1) (fun _=>rfl) (M10.o.1.off HZL.o HNZ.o) pgZ M10.o.2.1
    have HZ:=setRow_heap _ (w.heap.size+1) pgZ pgZ _ _ M10.o.2.1
    obtain⟨wz,ez⟩:∃wz,World.setRow w10 (w.heap.size+1) pgZ=wz:=⟨_,rfl⟩
    have Z0:=hQQ M10.o.2.1
    rw[ez] at MZ HZ
    have FIN:=hQQ (DONE.o none wz D9 F9 (hr.symm) MZ)
    clear MZ
    go_wp2_with (first|(refine mF rfl rfl ?_)|(refine wpList_store_row rfl 90 _ _ rfl _ _ rfl rfl 90 _ Z0.o (by kernel_rfl) rfl (by kernel_rfl) ?_))
    refine bodyPost_ret (jm rfl _ _ (w.heap.size+1) 90 pgZ _ _ rfl HZ Tryz.underlying90 rfl (by kernel_rfl)) rfl ?_
    exact FIN.o
   rw[if_neg hz] at hr
   have d0:(ax kk != 0)=true:=by simpa using hz
   have hk4:=fx hz
   obtain⟨kn',rfl⟩:∃z:Nat,kk=(z:Int):=⟨kk.toNat,by omega⟩
   have hsb:=Ke (k:=kn') (by omega)
   have CS:=hQQ (fun(W:World) (hW:dh bt W)=>Hl (kn':Int) W hW)
   obtain⟨sz,hsz⟩:∃sz,szV (kn':Int)=sz:=⟨_,rfl⟩
   rw[hsz] at hr hsb CS
   have t1:wd.tmod sz=wd % sz:=Int.tmod_eq_emod_of_nonneg hwd.1
   have t2:wd.tdiv sz=wd / sz:=Int.tdiv_eq_ediv_of_nonneg hwd.1
   have t3:0≤wd % sz∧wd % sz<sz:=⟨Int.emod_nonneg _ (by omega),Int.emod_lt_of_pos _ (by omega)⟩
   have t4:0≤wd / sz∧wd / sz≤wd:=⟨Int.ediv_nonneg hwd.1 (by omega),Int.ediv_le_self _ hwd.1⟩
   have t5:IntKind.i64.wrap (wd / sz)=wd / sz:=aB (by omega) (by omega)
   have z0:(sz==0)=false:=by simp;omega
   have z1:decide (sz=0)=false:=by simp;omega
   have z2:(sz== -1)=false:=by simp;omega
   have z3:decide (sz= -1)=false:=by simp;omega
   have z4:¬sz=0:=by omega
   have z5:¬sz= -1:=by omega
   obtain⟨ix,hix⟩:∃ix,wd / sz=ix:=⟨_,rfl⟩
   obtain⟨mm,hmm⟩:∃mm,wd % sz=mm:=⟨_,rfl⟩
   rw[hix] at hr t2 t4 t5
   rw[hmm] at hr t1 t3
   have HIX:=hQQ t4
   have HW:=hQQ hwkk
   clear hz hk4 hsz hix hmm t4 t3 hwkk
   by_cases hm0:mm=0
   ·rw[if_neg (by simpa using hm0)] at hr
    have d1:(mm != 0)=false:=by simp[hm0]
    have RN:=hQQ hr
    clear hr
    go_wp2_with fail
    refine(CS.o w10 (SZ.o _ _ _ M10.o.1)).mono ?_
    rintro e w11 ⟨rfl,h11⟩
    have M11:=hQQ (And.intro (M10.o.1.more h11) (And.intro (h11.block M10.o.2.1) (h11.block M10.o.2.2)))
    clear h11 c0 c25 c26
    obtain⟨c0,c25,c26⟩:=lB M11.o.2.2
    go_wp2_with fail
    refine(CS.o w11 (SZ.o _ _ _ M11.o.1)).mono ?_
    rintro e w9 ⟨rfl,h9⟩
    have M9:=hQQ (And.intro (M11.o.1.more h9) (And.intro (h9.block M11.o.2.1) (h9.block M11.o.2.2)))
    clear h9 c0 c25 c26 d0 d1 hm0 z0 z1 z2 z3 z4 z5 t1
    go_wp2_with fail
    generalize (kn':Int)=kk at M9 RN HW M11 M10 B9
    clear t2 t5 hsb M11 M10 B9 CS
    have MR:Hq (MidV w2 (w9.drewN 1) F (fun b=>b=w.heap.size+1) p kn n D9 F9∧(w9.drewN 1).heap[w.heap.size+1]?=some (.cells pgZ 90 (0,0))∧(w9.drewN 1).heap[gb]?=some (.cells (bK c p q kk) 90 (0,0))):=hQQ ⟨M9.o.1.more ((ae.refl w9).drewN 1),((ae.refl w9).drewN 1).block M9.o.2.1,((ae.refl w9).drewN 1).block M9.o.2.2⟩
    have KC:Hq (∀W D' F',MidV w2 W F (fun b=>b=w.heap.size+1) p kn n D' F'∧W.heap[w.heap.size+1]?=some (.cells pgZ 90 (0,0))∧W.heap[gb]?=some (.cells (bK c p q kk) 90 (0,0))→W.heap[gb]?=some (.cells (bK c p q kk) 90 (0,0))):=hQQ fun _ _ _ h=>h.2.2
    refine aO (fun W=>W.heap[gb]?=some (.cells (bK c p q kk) 90 (0,0))) (by kernel_rfl) ?_
    change dg _ _ _ _ _ _ _ _ (w9.drewN 1)
    generalize hA:Act.mk _ _=A
    have HF:AG 57 A [(6,.pointer (some ⟨w.heap.size+1,0,none⟩)),(12,.pointer (some ⟨gb,0,none⟩)),(13,.int .i64 ix)]:=by
     rw[←hA];try simp only[pts,List.foldl]
     refine⟨⟨Nat.le_of_ble_eq_true rfl,rfl⟩,?_⟩
     intro z hz;simp only[List.mem_cons,List.not_mem_nil,or_false] at hz;rcases hz with rfl|rfl|rfl<;>rfl
    generalize w9.drewN 1=wq at MR⊢
    refine bL (fun a W=>∃(u51 u52 u53 u55 u54 u56:Value) (x10:Int) (D10:List KV) (F10:Nat→Prop),a=(pts A [(51,u51),(52,u52),(53,u53),(55,u55),(54,u54),(56,u56),(7,.int .i64 ix),(8,.bool (eP x10 ix))])∧MidV w2 W F (fun b=>b=w.heap.size+1) p kn n D10 F10∧W.heap[w.heap.size+1]?=some (.cells (bK c p q kk) 90 (0,0))∧Rr=.ok (some (q,kk,ix,eP x10 ix)) D10) (fun W=>aI w F p kn (tD c p) Rr (.panicked (bB p)) W) (bB p) (fun a W hd h=>⟨hd,h⟩) (fun _ _ _ _ _ h=>h) ?_ ?_
    ·skip
     rintro a wa ⟨u51,u52,u53,u55,u54,u56,x10,D10,F10,rfl,MS,HS,hr⟩
     rw[←hA];try simp only[pts,List.foldl]
     have FIN:=hQQ (DONE.o (some (q,kk,ix,eP x10 ix)) wa D10 F10 hr MS)
     clear HF hA MR KC hr
     go_simp
     go_wp2_with fail
     refine bodyPost_ret (jm rfl _ _ (w.heap.size+1) 90 (bK c p q kk) _ _ rfl HS Tryz.underlying90 rfl (by kernel_rfl)) rfl ?_
     exact FIN.o
    intro QQ FINE FIND FINQ
    clear hA
    refine tqC 0 51 (.agg (bK c p q kk)) (by kernel_rfl) FINQ (KC.o _ _ _ MR.o) HF (by exact aD (ab rfl) 90 _ rfl gb (HF.get 1 rfl) 90 _ _ _ (fun W hW=>hW) Tryz.underlying90 rfl (by kernel_rfl)) fun A β1 HF=>?_
    refine tqM 1 52 3 rfl (.inl rfl) rfl (by kernel_rfl) FINQ (KC.o _ _ _ MR.o) HF fun A β2 HF=>?_
    refine tqC 2 53 (.agg (bK c p q kk)) (by kernel_rfl) FINQ (KC.o _ _ _ MR.o) HF (by exact aD (ab rfl) 90 _ rfl gb (HF.get 3 rfl) 90 _ _ _ (fun W hW=>hW) Tryz.underlying90 rfl (by kernel_rfl)) fun A β3 HF=>?_
    refine tqM 4 55 5 rfl (.inl rfl) rfl (by kernel_rfl) FINQ (KC.o _ _ _ MR.o) HF fun A β4 HF=>?_
    refine tqO 3 54 (by kernel_rfl) HF fun K hK=>?_
    refine sV (v0:=.agg (bK c p q kk)) rfl (HF.get 1 rfl) (enters_of Tryz.func82 (by kernel_rfl) rfl) ?_
    refine(Ha HR.o HH.o.toPgIn F9 p kn D9 q kk hn HQ.o wq MR.o.1.view HK.o MR.o.1.inv).mono ?_
    intro e w10 he
    rcases MR.o.1.step (ae.refl _) HK.o (a6 n PB.o.2.2.2.1) he with⟨a',hE,rfl,hd',ht',_⟩|⟨x10,D10,F10,hE,rfl,M10',hq10,hk10,hf10⟩
    ·exact FIND _ _ HF.1.2 (NEED.o a' w10 (RN.o.symm.trans (ag hE)) hd' ht')
    have R10:=hQQ (RN.o.symm.trans (aj hE))
    have nz10:¬F10 (w.heap.size+1):=M10'.off HZL.o HNZ.o
    have M10:Hq (MidV w2 w10 F (fun b=>b=w.heap.size+1) p kn n D10 F10∧w10.heap[w.heap.size+1]?=some (.cells pgZ 90 (0,0))∧w10.heap[gb]?=some (.cells (bK c p q kk) 90 (0,0))):=hQQ ⟨M10',hk10 _ _ (MR.o.1.off HZL.o HNZ.o) MR.o.2.1,hk10 _ _ HNB.o MR.o.2.2⟩
    clear he hE hk10 hf10
    refine hK _ _ (KC.o _ _ _ M10.o) fun A β5 HF=>?_
    clear hK K
    refine tqO 5 56 (by kernel_rfl) HF fun K hK=>?_
    refine bO (v0:=.int .i64 x10) (v1:=.int .i64 ix) rfl (HF.get 0 rfl) (HF.get 1 rfl) (enters_of Tryz.func81 (by kernel_rfl) rfl) ?_
    refine(Lw x10 ix w10).mono ?_
    rintro e w11 ⟨rfl,rfl⟩
    refine hK _ _ (KC.o _ _ _ M10.o) fun A β6 HF=>?_
    clear hK K
    refine bo (i:=6) none (by kernel_rfl) rfl (ab rfl) rfl (fun K hK=>?_)
    refine wp_store_row 90 _ _ rfl (w.heap.size+1) _ (HF.get 6 rfl) (HF.get 5 rfl) 90 pgZ M10.o.2.1 (by kernel_rfl) rfl (qO ..) ?_
    have MS:=M10.o.1.row (b:=w.heap.size+1) (fun _=>rfl) nz10 (bK c p q kk) M10.o.2.1
    have HS1:=setRow_heap _ (w.heap.size+1) pgZ (bK c p q kk) _ _ M10.o.2.1
    have HS2:=oM (cs:=bK c p q kk) M10.o.2.2 (show gb≠w.heap.size+1 by have:=HGB.o;have:=HZL.o;omega)
    refine hK _ _ HS2 ?_
    clear hK K
    rw[show ∀(a:Act) (v:Value),a.put none v=a from fun _ _=>rfl]
    generalize World.setRow _ _ _=wz at MS HS1 HS2⊢
    have HS2H:=hQQ HS2
    refine gv (i:=7) (v:=.int .i64 ix) (some 7) rfl rfl (by kernel_rfl) (by kernel_rfl) (by kernel_rfl) (fun c a w=>FINQ c a _ _ w) (HS2H.o) (by exact cR (ab rfl) _ rfl (HF.get 4 rfl)) ?_
    replace HF:=HF.put 7 (.int .i64 ix) (by decide) rfl
    generalize β7:Act.put _ _ _=A at HF⊢
    refine gv (i:=8) (v:=.bool (eP x10 ix)) (some 8) rfl rfl (by kernel_rfl) (by kernel_rfl) (by kernel_rfl) (fun c a w=>FINQ c a _ _ w) (HS2H.o) (by exact cR (ab rfl) _ rfl (HF.get 1 rfl)) ?_
    replace HF:=HF.put 8 (.bool (eP x10 ix)) (by decide) rfl
    generalize β8:Act.put _ _ _=A at HF⊢
    exact bU (by kernel_rfl) (FINE _ _ ⟨(.agg (bK c p q kk)),(.int .i64 ix),(.agg (bK c p q kk)),(.int .i64 ix),(.int .i64 x10),(.bool (eP x10 ix)),x10,D10,F10,by rw[← β8,← β7,← β6,← β5,← β4,← β3,← β2,← β1]<;>rfl,MS,HS1,R10.o⟩)
   ·rw[if_pos (by simpa using hm0)] at hr
    have d1:(mm != 0)=true:=by simpa using hm0
    go_wp2_with fail
    refine(CS.o w10 (SZ.o _ _ _ M10.o.1)).mono ?_
    rintro e w11 ⟨rfl,h11⟩
    have M11:=hQQ (And.intro (M10.o.1.more h11) (And.intro (h11.block M10.o.2.1) (h11.block M10.o.2.2)))
    clear h11 c0 c25 c26
    have MZ:=M11.o.1.row (b:=w.heap.size+1) (fun _=>rfl) (M11.o.1.off HZL.o HNZ.o) pgZ M11.o.2.1
    have HZ:=setRow_heap _ (w.heap.size+1) pgZ pgZ _ _ M11.o.2.1
    obtain⟨wz,ez⟩:∃wz,World.setRow w11 (w.heap.size+1) pgZ=wz:=⟨_,rfl⟩
    have Z0:=hQQ M11.o.2.1
    rw[ez] at MZ HZ
    have FIN:=hQQ (DONE.o none wz D9 F9 (hr.symm) MZ)
    clear MZ
    go_wp2_with (first|(refine mF rfl rfl ?_)|(refine wpList_store_row rfl 90 _ _ rfl _ _ rfl rfl 90 _ Z0.o (by kernel_rfl) rfl (by kernel_rfl) ?_))
    refine bodyPost_ret (jm rfl _ _ (w.heap.size+1) 90 pgZ _ _ rfl HZ Tryz.underlying90 rfl (by kernel_rfl)) rfl ?_
    exact FIN.o
  intro QQ FINE FIND FINQ
  clear hA
  refine tqM 0 24 0 rfl (.inl rfl) rfl (by kernel_rfl) FINQ (KC.o _ _ _ MR.o) HF fun A β1 HF=>?_
  refine tqC 1 25 (.agg c.arr) (by kernel_rfl) FINQ (KC.o _ _ _ MR.o) HF (by exact aD (ab rfl) 28 _ rfl w.heap.size (HF.get 2 rfl) 28 _ _ _ (fun W hW=>hW) Tryz.underlying28 rfl (by kernel_rfl)) fun A β2 HF=>?_
  refine tqM 2 26 4 rfl (.inl rfl) rfl (by kernel_rfl) FINQ (KC.o _ _ _ MR.o) HF fun A β3 HF=>?_
  refine tqM 3 27 3 rfl (.inl rfl) rfl (by kernel_rfl) FINQ (KC.o _ _ _ MR.o) HF fun A β4 HF=>?_
  refine tqC 4 28 (.agg c.arr) (by kernel_rfl) FINQ (KC.o _ _ _ MR.o) HF (by exact aD (ab rfl) 28 _ rfl w.heap.size (HF.get 5 rfl) 28 _ _ _ (fun W hW=>hW) Tryz.underlying28 rfl (by kernel_rfl)) fun A β5 HF=>?_
  refine tqM 5 29 7 rfl (.inl rfl) rfl (by kernel_rfl) FINQ (KC.o _ _ _ MR.o) HF fun A β6 HF=>?_
  refine kE (i:=6) (j:=9) (some 30) (some 12) (by kernel_rfl) rfl rfl (ab rfl) (ab rfl) rfl rfl (fun K hK=>?_) (fun K hK=>?_)
  ·refine dE (v0:=.pointer (some ⟨p,0,none⟩)) (v1:=.agg c.arr) (v2:=.int .i64 q) rfl (HF.get 2 rfl) (HF.get 1 rfl) (HF.get 0 rfl) (enters_of Tryz.func51 (by kernel_rfl) rfl) ?_
   refine(ti HR.o HH.o.toPgIn F p kn D q wq MR.o.1.view HK.o MR.o.1.inv).mono ?_
   intro e w7 he
   rcases MR.o.1.step (ae.refl _) HK.o (gH HH.o.toPgIn _) he with⟨a',hE,rfl,hd',ht',_⟩|⟨x6,D6,F6,hE,rfl,M6',hq6,hk6,hf6⟩
   ·exact FIND _ _ HF.1.2 (NEED.o a' w7 (HRr.o.symm.trans (ag hE)) hd' ht')
   have R6:=hQQ ((aj hE).symm.trans HRr.o)
   have M6:Hq (MidV w2 w7 F (fun b=>b=w.heap.size+1) p kn n D6 F6∧w7.heap[w.heap.size+1]?=some (.cells pgZ 90 (0,0))):=hQQ ⟨M6',hk6 _ _ HNZ.o MR.o.2⟩
   clear he hE hk6 hf6
   refine hK _ _ (KC.o _ _ _ M6.o) ?_
   clear hK K
   replace HF:=HF.put 30 (.int .i64 x6) (by decide) rfl
   generalize β7:Act.put _ _ _=A at HF⊢
   refine tqC 7 31 (.int .i64 (IntKind.i64.wrap (x6-1))) (by kernel_rfl) FINQ (KC.o _ _ _ M6.o) HF (by exact pK (ab rfl) rfl (HF.get 0 rfl) rfl _ rfl) fun A β8 HF=>?_
   refine tqC 8 32 (.agg (bK c p q (IntKind.i64.wrap (x6-1)))) (by kernel_rfl) FINQ (KC.o _ _ _ M6.o) HF (by exact pL (ab rfl) _ _ _ _ rfl c p q (IntKind.i64.wrap (x6-1)) (HF.get 7 rfl) (HF.get 6 rfl) (HF.get 5 rfl) (HF.get 0 rfl)) fun A β9 HF=>?_
   refine tqO 9 12 (by kernel_rfl) HF fun K hK=>?_
   refine og rfl ?_
   obtain⟨w8,e8,h8,m8⟩:=vJ w7
   rw[e8]
   clear e8
   have M8:Hq (MidV w2 w8 F (fun b=>b=w.heap.size+1) p kn n D6 F6∧w8.heap[w.heap.size+1]?=some (.cells pgZ 90 (0,0))):=hQQ ⟨M6.o.1.more m8,m8.block M6.o.2⟩
   have nb:¬F6 w7.heap.size:=fun z=>by have:=M6.o.1.view.lt _ z;omega
   have lb:=M6.o.1.size
   refine hK _ _ (KC.o _ _ _ M8.o) fun A β10 HF=>?_
   clear hK K
   refine gG (i:=10) (by kernel_rfl) (by kernel_rfl) rfl (ab rfl) (fun K hK=>?_)
   refine wp_store_row 90 _ _ rfl (w7.heap.size) _ (HF.get 0 rfl) (HF.get 1 rfl) 90 pgZ h8 (by kernel_rfl) rfl (qO ..) ?_
   have MS:=M8.o.1.row (b:=w7.heap.size) (fun q=>by omega) nb (bK c p q (IntKind.i64.wrap (x6-1))) h8
   have HS1:=setRow_heap _ (w7.heap.size) pgZ (bK c p q (IntKind.i64.wrap (x6-1))) _ _ h8
   have HS2:=oM (cs:=bK c p q (IntKind.i64.wrap (x6-1))) M8.o.2 (show w.heap.size+1≠w7.heap.size by omega)
   refine hK _ _ (KC.o _ _ _ ⟨MS,HS2⟩) (FINE _ _ ⟨(.pointer (some ⟨p,0,none⟩)),(.agg c.arr),(.int .i64 q),(.pointer (some ⟨p,0,none⟩)),(.agg c.arr),(.int .i64 q),(.int .i64 x6),(.int .i64 (IntKind.i64.wrap (x6-1))),(.agg (bK c p q (IntKind.i64.wrap (x6-1)))),w7.heap.size,x6,D6,F6,?_,⟨MS,HS2,HS1,lb,nb⟩,R6.o⟩)
   rw[← β10,← β9,← β8,← β7,← β6,← β5,← β4,← β3,← β2,← β1];rfl
  ·refine og rfl ?_
   obtain⟨w7,e7,h7,m7⟩:=vJ wq
   rw[e7]
   clear e7
   have M7:Hq (MidV w2 w7 F (fun b=>b=w.heap.size+1) p kn n D F∧w7.heap[w.heap.size+1]?=some (.cells pgZ 90 (0,0))):=hQQ ⟨MR.o.1.more m7,m7.block MR.o.2⟩
   have nb:¬F wq.heap.size:=fun z=>by have:=MR.o.1.view.lt _ z;omega
   have lb:=MR.o.1.size
   refine hK _ _ (KC.o _ _ _ M7.o) ?_
   clear hK K
   replace HF:=HF.put 12 (.pointer (some ⟨wq.heap.size,0,none⟩)) (by decide) rfl
   generalize β7:Act.put _ _ _=A at HF⊢
   refine tqO 6 30 (by kernel_rfl) HF fun K hK=>?_
   refine dE (v0:=.pointer (some ⟨p,0,none⟩)) (v1:=.agg c.arr) (v2:=.int .i64 q) rfl (HF.get 3 rfl) (HF.get 2 rfl) (HF.get 1 rfl) (enters_of Tryz.func51 (by kernel_rfl) rfl) ?_
   refine(ti HR.o HH.o.toPgIn F p kn D q w7 M7.o.1.view HK.o M7.o.1.inv).mono ?_
   intro e w8 he
   rcases M7.o.1.step (ae.refl _) HK.o (gH HH.o.toPgIn _) he with⟨a',hE,rfl,hd',ht',_⟩|⟨x6,D6,F6,hE,rfl,M6',hq6,hk6,hf6⟩
   ·exact FIND _ _ HF.1.2 (NEED.o a' w8 (HRr.o.symm.trans (ag hE)) hd' ht')
   have R6:=hQQ ((aj hE).symm.trans HRr.o)
   have M6:Hq (MidV w2 w8 F (fun b=>b=w.heap.size+1) p kn n D6 F6∧w8.heap[w.heap.size+1]?=some (.cells pgZ 90 (0,0))):=hQQ ⟨M6',hk6 _ _ HNZ.o M7.o.2⟩
   have h8:=hk6 _ _ nb h7
   have nb8:¬F6 wq.heap.size:=fun z=>by rcases hf6 _ z with q|q;exact nb q;have:=ac h7;omega
   clear he hE hk6 hf6
   refine hK _ _ (KC.o _ _ _ M6.o) fun A β8 HF=>?_
   clear hK K
   refine tqC 7 31 (.int .i64 (IntKind.i64.wrap (x6-1))) (by kernel_rfl) FINQ (KC.o _ _ _ M6.o) HF (by exact pK (ab rfl) rfl (HF.get 0 rfl) rfl _ rfl) fun A β9 HF=>?_
   refine tqC 8 32 (.agg (bK c p q (IntKind.i64.wrap (x6-1)))) (by kernel_rfl) FINQ (KC.o _ _ _ M6.o) HF (by exact pL (ab rfl) _ _ _ _ rfl c p q (IntKind.i64.wrap (x6-1)) (HF.get 8 rfl) (HF.get 7 rfl) (HF.get 6 rfl) (HF.get 0 rfl)) fun A β10 HF=>?_
   refine gG (i:=10) (by kernel_rfl) (by kernel_rfl) rfl (ab rfl) (fun K hK=>?_)
   refine wp_store_row 90 _ _ rfl (wq.heap.size) _ (HF.get 3 rfl) (HF.get 0 rfl) 90 pgZ h8 (by kernel_rfl) rfl (qO ..) ?_
   have MS:=M6.o.1.row (b:=wq.heap.size) (fun q=>by omega) nb8 (bK c p q (IntKind.i64.wrap (x6-1))) h8
   have HS1:=setRow_heap _ (wq.heap.size) pgZ (bK c p q (IntKind.i64.wrap (x6-1))) _ _ h8
   have HS2:=oM (cs:=bK c p q (IntKind.i64.wrap (x6-1))) M6.o.2 (show w.heap.size+1≠wq.heap.size by omega)
   refine hK _ _ (KC.o _ _ _ ⟨MS,HS2⟩) (FINE _ _ ⟨(.pointer (some ⟨p,0,none⟩)),(.agg c.arr),(.int .i64 q),(.pointer (some ⟨p,0,none⟩)),(.agg c.arr),(.int .i64 q),(.int .i64 x6),(.int .i64 (IntKind.i64.wrap (x6-1))),(.agg (bK c p q (IntKind.i64.wrap (x6-1)))),wq.heap.size,x6,D6,F6,?_,⟨MS,HS2,HS1,lb,nb8⟩,R6.o⟩)
   rw[← β10,← β9,← β8,← β7,← β6,← β5,← β4,← β3,← β2,← β1,xq (i:=12) (j:=30) (by decide),xq (i:=12) (j:=31) (by decide),xq (i:=12) (j:=32) (by decide)];rfl
 ·rw[if_neg hin] at hRr
  have PL:=hQQ (Av HR.o w2 ad (by unfold Cfg.us at hin;show ad<eT c.cp c.pg c.st c.ca c.bi∨eT c.cp c.pg c.st c.ca c.bi+32 * c.pg≤ad;omega))
  have PL:=hQQ (show Calls Tryz.prog 79 #[.agg c.arr,.int .i64 ad] w2 (aQ w2 (.tuple #[.int .i64 0,.int .i64 0,.bool false])) from PL.o)
  clear hin
  go_enter Tryz.func44,Tryz.ntmps44
  go_wp2_with (first|(refine aM rfl rfl rfl L2.o (by kernel_rfl) ?_)|(refine aM rfl rfl rfl L2.o (by kernel_rfl) ?_))
  refine PL.o.mono ?_
  rintro e w3 ⟨rfl,h3⟩
  have M3:=hQQ (And.intro (M0.o.1.more h3) (h3.block M0.o.2))
  clear h3
  have MZ:=M3.o.1.row (b:=w.heap.size+1) (fun _=>rfl) (M3.o.1.off HZL.o HNZ.o) pgZ M3.o.2
  have HZ:=setRow_heap _ (w.heap.size+1) pgZ pgZ _ _ M3.o.2
  obtain⟨wz,ez⟩:∃wz,World.setRow w3 (w.heap.size+1) pgZ=wz:=⟨_,rfl⟩
  have Z0:=hQQ M3.o.2
  rw[ez] at MZ HZ
  have FIN:=hQQ (DONE.o none wz D F (hRr.symm) MZ)
  clear MZ
  go_wp2_with (first|(refine mF rfl rfl ?_)|(refine wpList_store_row rfl 90 _ _ rfl _ _ rfl rfl 90 _ Z0.o (by kernel_rfl) rfl (by kernel_rfl) ?_))
  refine bodyPost_ret (jm rfl _ _ (w.heap.size+1) 90 pgZ _ _ rfl HZ Tryz.underlying90 rfl (by kernel_rfl)) rfl ?_
  exact FIN.o
theorem gV {a x:Int}{kn:Int→Option Int}{D D':List KV}(h:cT a kn D=.ok x D'):D'=D∧dN kn D a=some x:=by
 unfold cT at h
 split at h
 ·cases h
 ·rename_i y e;cases h;exact⟨rfl,e⟩
theorem vK (b:BitVec 64):W64 b.toInt:=by
 have h1:=BitVec.toInt_lt (x:=b)
 have h2:=BitVec.le_toInt (x:=b)
 unfold W64;omega
theorem rZ {b:Int}(h:W64 b)(i:Int):W64 (setV b i):=by
 unfold setV;split
 ·exact vK _
 ·exact h
theorem kI {b:Int}(h:W64 b)(i:Int):W64 (clearV b i):=by
 unfold clearV;split
 ·exact vK _
 ·exact h
theorem Dm (b n:Int):bS b n= -1∨(0≤bS b n∧bS b n<endN n∧bS b n≤31):=by
 unfold bS yU
 split
 ·rename_i j hj
  have:=List.mem_of_find?_eq_some hj
  simp at this
  have he:endN n≤32:=by unfold endN;omega
  omega
 ·exact .inl rfl
theorem ip {pg st:Int}{n:Nat}(H:PgIn pg st n){q k b:Int}(hq:af pg q=true)(hb:W64 b):bZ n (fun _=>True) (gU pg st q k b):=by
 have PB:=cx H hq
 unfold gU
 exact aN (fun _=>aw (qG H _) fun _ _=>ai n trivial) (fun _=>aw (aR n PB.2.2.2.2 PB.2.2.2.1 hb) fun _ _=>aw (aR n PB.2.1.2.2 PB.2.1.2.1 (by have:=cnt_b b k;unfold W64;omega)) fun _ _=>ai n trivial)
theorem MK {x i:Int}(h:W64 x)(w:World):Calls Tryz.prog 142 #[.int .i64 x,.int .i64 i] w (aQ w (.int .i64 (setV x i))):=(Om x i h.1 h.2 w).mono fun e w' q=>⟨q.1,q.2▸ae.refl _⟩
theorem Hm {x i:Int}(h:W64 x)(w:World):Calls Tryz.prog 113 #[.int .i64 x,.int .i64 i] w (aQ w (.int .i64 (clearV x i))):=(J8 x i h.1 h.2 w).mono fun e w' q=>⟨q.1,q.2▸ae.refl _⟩
theorem Bi {us pg st a:Int}{kn:Int→Option Int}{D D':List KV}{q k i:Int}{t:Bool}(h:gc us pg st a kn D=.ok (some (q,k,i,t)) D'):∃b,dN kn D' (bA pg st q)=some b∧t=eP b i:=by
 unfold gc at h
 split at h
 ·cases hk:fC pg st ((a-us) / 32) kn D with
  |need a'=>rw[ag hk] at h;cases h
  |ok x D1 =>
   rw[aj hk] at h
   unfold jK at h
   split at h
   ·cases h
   ·split at h
    ·cases h
    ·cases hb:cT (bA pg st ((a-us) / 32)) kn D1 with
     |need a'=>rw[ag hb] at h;cases h
     |ok b D2 =>
      rw[aj hb] at h
      obtain⟨rfl,hw⟩:=gV hb
      cases h
      exact⟨b,hw,rfl⟩
 ·cases h
def gI:TkA→Option (Int×Int×Int)
 |some (q,k,i,true)=>some (q,k,i)
 | _=>none
theorem iq {x:TkA}{q k i:Int}(h:gI x=some (q,k,i)):x=some (q,k,i,true):=by
 unfold gI at h
 split at h
 ·cases h;rfl
 ·cases h
def zm:Option (Int×Int×Int)→Prg (Int×Bool)
 |some (_,k,_)=>az (k,true)
 |none=>az (0,false)
def Hn (us pg st a:Int):Prg (Int×Bool):=aq (gc us pg st a) fun x=>zm (gI x)
def kJ (us pg st k:Int):Prg (Int×Bool):=
 aq (lA pg st k) fun q=>if q= -1 then az (0,false) else aq (cT (bA pg st q)) fun b =>
  if bS b (ax k)= -1 then az (0,false) else aq (cT (cA pg st q)) fun was =>
   aq (gU pg st q k (setV b (bS b (ax k)))) fun _=>aq (i8 pg st q k was) fun _=>az (us+32 * q+bS b (ax k) * szV k,true)
def mG (pg st q k i:Int):Prg Bool:=aq (cT (cA pg st q)) fun was=>aq (cT (bA pg st q)) fun b=>aq (gU pg st q k (clearV b i)) fun _=>aq (i8 pg st q k was) fun _=>az true
def Bj (pg st:Int):Option (Int×Int×Int)→Prg Bool
 |some (q,k,i)=>mG pg st q k i
 |none=>az false
def rr (us pg st a:Int):Prg Bool:=aq (gc us pg st a) fun x=>Bj pg st (gI x)
theorem ML (us pg st a:Int):bH (Hn us pg st a):=ar (rq _ _ _ _) fun x=>by
 match gI x with
 |some (_,k,_)=>exact ah _
 |none=>exact ah _
theorem tE (us pg st k:Int):bH (kJ us pg st k):=ar (zg _ _ _) fun q=>aG (ah _) (ar (dl _) fun b=>aG (ah _) (ar (dl _) fun was=>ar (ro _ _ _ _ _) fun _=>ar (rp _ _ _ _ _) fun _=>ah _))
theorem Bn (us pg st a:Int):bH (rr us pg st a):=ar (rq _ _ _ _) fun x=>by
 match gI x with
 |some (q,k,i)=>exact ar (dl _) fun _=>ar (dl _) fun _=>ar (ro _ _ _ _ _) fun _=>ar (rp _ _ _ _ _) fun _=>ah _
 |none=>exact ah _
section
variable {pg st:Int}{n:Nat}(H:cF pg st n)
include H
theorem EG (us k:Int):bZ n (fun _=>True) (kJ us pg st k):=aw (oL H k) fun q hq=>aN (fun _=>ai n trivial) (fun h=>by
 have hq:=hq.resolve_left h
 have PB:=cx H.toPgIn hq
 exact aw (a6 n PB.2.2.2.1) fun b hb=>aN (fun _=>ai n trivial) (fun _=>aw (a6 n PB.2.1.2.1) fun was _=>aw (ip H.toPgIn hq (rZ hb _)) fun _ _=>aw (io H q k was hq) fun _ _=>ai n trivial))
theorem uO {q:Int}(hq:af pg q=true)(k i:Int):bZ n (fun _=>True) (mG pg st q k i):=by
 have PB:=cx H.toPgIn hq
 exact aw (a6 n PB.2.1.2.1) fun was _=>aw (a6 n PB.2.2.2.1) fun b hb=>aw (ip H.toPgIn hq (kI hb _)) fun _ _=>aw (io H q k was hq) fun _ _=>ai n trivial
theorem vL (us a:Int):bZ n (fun _=>True) (rr us pg st a):=aw (lC H.toPgIn a) fun x hx=>by
 match e:gI x with
 |some (q,k,i)=>exact uO H (hx q k i true (iq e)).1 k i
 |none=>exact ai n trivial
end
theorem MN {c:Cfg}(R:c.Ok){n:Nat}(H:cF c.pg c.st n)(hn:n≤10000)(F:Nat→Prop)(p:Nat)(kn:Int→Option Int)(D:List KV)(k:Int)(w:World)(hv:aF w F p kn D)(hk:OkK kn)(hD:cI n D)(bt:Nat)(hs:dh bt w)(nF0:¬F 0)(nFb:¬F bt):
 Calls Tryz.prog 123 #[.pointer (some ⟨p,0,none⟩),.agg c.arr,.int .i64 k] w (aI w F p kn (fun x:Int×Bool=> .tuple #[.int .i64 x.1,.bool x.2]) (kJ c.us c.pg c.st k kn D)):=by
 obtain⟨Rr,hRr⟩:∃Rr,kJ c.us c.pg c.st k kn D=Rr:=⟨_,rfl⟩
 rw[hRr]
 obtain⟨w1,e1,hl1,m1,s1⟩:=bg w (.cells c.arr 28)
 have nFl:¬F w.heap.size:=fun q=>by have:=hv.lt _ q;omega
 have MM:=hQQ m1
 have L0:=hQQ hl1
 have M0:=m0Z (hv.more m1) hD
 have KL:=klZ (p:=p) (kn:=kn) (n:=n) L0.o nFl
 have NEED:=ndZ (F:=F) (p:=p) (kn:=kn) (R:=Rr) (fun x:Int×Bool=>Value.tuple #[.int .i64 x.1,.bool x.2]) MM.o
 have DONE:=dnZ (F:=F) (p:=p) (n:=n) (kn:=kn) (R:=Rr) (fun x:Int×Bool=>Value.tuple #[.int .i64 x.1,.bool x.2]) MM.o
 have HK:=hQQ hk
 have HR:=hQQ R
 have HH:=hQQ H
 clear hl1 m1 hv hD hk R H nFl
 have SZ:Hq (∀wr D' F',MidV w1 wr F (fun _=>False) p kn n D' F'→dh bt wr):=hQQ fun wr D' F' h=>(hs.more MM.o).keep h.turn (by rintro(q|q);exact nF0 q;exact q) (by rintro(q|q);exact nFb q;exact q)
 have NF:Hq (∀wr D' F',MidV w1 wr F (fun _=>False) p kn n D' F'→¬F' 0∧¬F' bt):=hQQ fun wr D' F' h=>⟨h.off (hs.more MM.o).lt0 nF0,h.off (hs.more MM.o).lt nFb⟩
 have HRr:=hQQ hRr
 unfold kJ at HRr
 have pg1:=HR.o.pg1
 have pg2:=HR.o.pg2
 have UB:=hQQ (nZ HR.o)
 have HN:=hQQ hn
 clear hRr hs nF0 nFb
 have hmf:∀(fn:Fn) (first cap:Array Value) (w:World),(Instr.makeFunc fn first cap).run Tryz.prog w=.ok (.func fn first cap) w:=fun _ _ _ _=>rfl
 go_enter_defers Tryz.func123,Tryz.ntmps123
 go_wp2_with (first|(refine aM rfl rfl rfl L0.o (by kernel_rfl) ?_)|(refine aM rfl rfl rfl L0.o (by kernel_rfl) ?_))
 refine(Kg HR.o HH.o hn F p kn D k w1 M0.o.view HK.o M0.o.inv bt (SZ.o _ _ _ M0.o) (NF.o _ _ _ M0.o).1 (NF.o _ _ _ M0.o).2).mono ?_
 intro e w2 he
 rcases M0.o.step (ae.refl _) HK.o (oL HH.o k) he with⟨a',hE,rfl,hd',ht',_⟩|⟨x2,D2,F2,hE,rfl,M2,hq2,hk2,hf2⟩
 ·exact NEED.o a' w2 (HRr.o.symm.trans (ag hE)) hd' ht'
 have L2:=hQQ (KL.o _ _ _ M2)
 have R2:=hQQ ((aj hE).symm.trans HRr.o)
 have M2:=hQQ M2
 clear he hE hk2 hf2
 by_cases eq:x2= -1
 ·have d0:(x2== -1)=true:=by simp[eq]
  have FIN:=hQQ (DONE.o (0,false) w2 D2 F2 (by have:=R2.o;rw[if_pos eq] at this;exact this.symm) M2.o)
  clear eq R2
  go_wp2_with fail
  refine⟨_,results_tmp2 (t:=6) (u:=7) rfl _ _ _,?_⟩
  exact FIN.o
 have d0:(x2== -1)=false:=by simpa using eq
 have hq:=hq2.resolve_left eq
 have R2:=hQQ (show aq (cT (bA c.pg c.st x2)) (fun b=>if bS b (ax k)= -1 then az (0,false) else aq (cT (cA c.pg c.st x2)) fun was=>aq (gU c.pg c.st x2 k (setV b (bS b (ax k)))) fun _=>aq (i8 c.pg c.st x2 k was) fun _=>az (c.us+32 * x2+bS b (ax k) * szV k,true)) kn D2=Rr from by have:=R2.o;rw[if_neg eq] at this;exact this)
 have HQ:=hQQ hq
 have PB:=hQQ (cx HH.o.toPgIn hq)
 clear eq hq2 hq
 generalize x2=q at *
 obtain⟨w3,e3,b3,m3⟩:=Hi w2 c p q k
 have M3:=hQQ (M2.o.more m3)
 have nFg:¬F2 w2.heap.size:=fun z=>by have:=M2.o.view.lt _ z;omega
 have lg:w1.heap.size≤w2.heap.size:=M2.o.size
 go_wp2_with (first|(refine aM rfl rfl rfl L2.o (by kernel_rfl) ?_)|(refine zj rfl _ _ _ _ rfl c p q k rfl rfl rfl rfl ?_)|(refine wpList_store_row rfl 90 _ _ rfl _ _ rfl rfl 90 _ (aW _ _ _) (by kernel_rfl) rfl (qO ..) (e3.symm▸ ?_))|(refine wpList_load_row rfl 90 _ rfl _ rfl 90 _ _ _ b3 Tryz.underlying90 rfl (by kernel_rfl) ?_))
 have BG:=hQQ b3
 clear e3 m3 b3 M2 L2
 generalize w2.heap.size=gb at BG nFg lg
 refine(Ha HR.o HH.o.toPgIn F2 p kn D2 q k hn HQ.o w3 M3.o.view HK.o M3.o.inv).mono ?_
 intro e w4 he
 rcases M3.o.step (ae.refl _) HK.o (a6 n PB.o.2.2.2.1) he with⟨a',hE,rfl,hd',ht',_⟩|⟨b,D4,F4,hE,rfl,M4,hb4,hk4,hf4⟩
 ·exact NEED.o a' w4 (R2.o.symm.trans (ag hE)) hd' ht'
 have R4:=hQQ ((aj hE).symm.trans R2.o)
 obtain⟨rfl,hwb⟩:=gV hE
 have WB:=hQQ hwb
 have nFg4:¬F4 gb:=fun z=>(hf4 gb z).elim nFg (fun q=>by have:=ac BG.o;omega)
 have BG:=hQQ (hk4 _ _ nFg BG.o)
 have M4:=hQQ M4
 have HB0:=hQQ hb4
 clear he hE hk4 hf4 nFg M3 R2 hwb hb4
 have hsl:=et k
 have SL:=hQQ (fun(W:World) (hW:dh bt W)=>rY k W hW)
 have SF:=hQQ (fun W=>Kd b (ax k) (by omega) (by omega) W)
 have CS:=hQQ (fun(W:World) (hW:dh bt W)=>Hl k W hW)
 have R4:=hQQ R4.o
 have hfb:=Dm b (ax k)
 have hsz:0≤szV k∧szV k≤16:=by unfold szV; (repeat' split)<;>omega
 obtain⟨i,hi⟩:∃i,bS b (ax k)=i:=⟨_,rfl⟩
 obtain⟨sz,hsz'⟩:∃sz,szV k=sz:=⟨_,rfl⟩
 rw[hi] at SF R4 hfb
 rw[hsz'] at CS R4 hsz
 clear hi hsz'
 go_wp2_with fail
 refine(SL.o w4 (SZ.o _ _ _ M4.o)).mono ?_
 rintro e w5 ⟨rfl,h5⟩
 have M5:=hQQ (M4.o.more h5)
 have BG:=hQQ (h5.block BG.o)
 clear h5 M4
 go_wp2_with fail
 refine(SF.o w5).mono ?_
 rintro e w6 ⟨rfl,h6⟩
 have M5:=hQQ (M5.o.more h6)
 have BG:=hQQ (h6.block BG.o)
 clear h6
 by_cases ei:i= -1
 ·have d1:(i== -1)=true:=by simp[ei]
  have FIN:=hQQ (DONE.o (0,false) w6 D4 F4 (by have:=R4.o;rw[if_pos ei] at this;exact this.symm) M5.o)
  clear ei R4
  go_wp2_with fail
  refine⟨_,results_tmp2 (t:=6) (u:=7) rfl _ _ _,?_⟩
  exact FIN.o
 have d1:(i== -1)=false:=by simpa using ei
 have hfb:=hfb.resolve_left ei
 have R4:=hQQ (show aq (cT (cA c.pg c.st q)) (fun was=>aq (gU c.pg c.st q k (setV b i)) fun _=>aq (i8 c.pg c.st q k was) fun _=>az (c.us+32 * q+i * sz,true)) kn D4=Rr from by have:=R4.o;rw[if_neg ei] at this;exact this)
 have hb1:0≤i * sz:=Int.mul_nonneg hfb.1 hsz.1
 have hb2:i * sz≤31 * 16:=Int.mul_le_mul hfb.2.2 hsz.2 hsz.1 (by omega)
 have t1:IntKind.i64.wrap (i * sz)=i * sz:=aB (by omega) (by omega)
 have hqq:=ay.1 HQ.o
 have hub:=UB.o
 have t2:IntKind.i64.wrap (c.us+32 * q+i * sz)=c.us+32 * q+i * sz:=aB (by unfold Cfg.us;omega) (by unfold Cfg.us;omega)
 have AD:=hQQ (fun W=>by have:=NV HR.o W q;rw[show xY c.cp c.pg c.st c.ca c.bi q=c.us+32 * q from by unfold xY;rw[if_pos hqq];rfl] at this;exact this)
 have AD:=hQQ (show ∀W,Calls Tryz.prog 143 #[.agg c.arr,.int .i64 q] W (aQ W (.int .i64 (c.us+32 * q))) from AD.o)
 obtain⟨adr,hadr⟩:∃adr,c.us+32 * q=adr:=⟨_,rfl⟩
 rw[hadr] at AD R4 t2
 clear ei hfb hsz hb1 hb2 hub hadr hqq hsl
 go_wp2_with (refine wpList_load_row rfl 90 _ rfl _ rfl 90 _ _ _ BG.o Tryz.underlying90 rfl (by kernel_rfl) ?_)
 refine(Dk HR.o HH.o.toPgIn HN.o F4 p kn D4 q k HQ.o w6 M5.o.view HK.o M5.o.inv).mono ?_
 intro e w7 he
 rcases M5.o.stepR (ae.refl _) HK.o (a6 n PB.o.2.1.2.1) he with⟨a',hE,rfl,hd',ht',_⟩|⟨was,D6,F6,vm,hE,rfl,⟨gm,wm,rfl,hgm,hwm,hne,nm,nw,bm,bw⟩,M6,hq6,hk6,hf6⟩
 ·exact NEED.o a' w7 (R4.o.symm.trans (ag hE)) hd' ht'
 have R6:=hQQ ((aj hE).symm.trans R4.o)
 obtain⟨rfl,_⟩:=gV hE
 have NG6:=hQQ (show ¬F6 gb from fun z=>(hf6 gb z).elim nFg4 (fun q=>by have:=ac BG.o;omega))
 have BG:=hQQ (hk6 _ _ nFg4 BG.o)
 have BM:=hQQ bm
 have BW:=hQQ bw
 have NM:=hQQ nm
 have NW:=hQQ nw
 have M6:=hQQ M6
 clear he hE bm bw nm nw hgm hwm hne hk6 hf6 hq6 M5 R4 nFg4
 have L6:=hQQ (KL.o _ _ _ M6.o)
 have YB:=hQQ (fun W (hW:ae w7 W)=>De HR.o HH.o.toPgIn F6 p kn D6 q k b HN.o HQ.o W (M6.o.view.more hW) WB.o)
 have YS:=hQQ (fun W=>MK (i:=i) HB0.o W)
 obtain⟨nb',hnb'⟩:∃nb',setV b i=nb':=⟨_,rfl⟩
 have HB:=hQQ (rZ HB0.o i)
 have HC:=hQQ (And.intro (cnt_b (setV b i) k).1 (cnt_b (setV b i) k).2.1)
 rw[hnb'] at YS R6 HB HC
 clear hnb'
 go_wp2_with fail
 refine bI 5 (by kernel_rfl) (by kernel_rfl) ?_
 simp only[List.take_succ_cons,List.take_zero,List.drop_succ_cons,List.drop_zero]
 refine aP rfl 90 _ rfl gb rfl 90 _ _ _ (fun W hW=>hW.block BG.o) Tryz.underlying90 rfl (by kernel_rfl) ?_
 refine aP rfl 90 _ rfl gb rfl 90 _ _ _ (fun W hW=>hW.block BG.o) Tryz.underlying90 rfl (by kernel_rfl) ?_
 iterate 1
  with_reducible refine wpQuiet_step (fun K hK=>?_)
  go_simp
  first
  |(refine hK _ ?_;clear hK K)
  |(apply Exists.intro
    refine⟨fun W hW=>?_,hK _ ?_⟩
    first
    |(go_at_call 82;exact Calls.more hW (YB.o W hW))
    |(go_simp;try rfl)
    clear hK K)
 iterate 1
  with_reducible refine wpQuiet_step (fun K hK=>?_)
  go_simp
  first
  |(refine hK _ ?_;clear hK K)
  |(apply Exists.intro
    refine⟨fun W hW=>?_,hK _ ?_⟩
    first
    |(go_simp;try rfl)
    clear hK K)
 iterate 1
  with_reducible refine wpQuiet_step (fun K hK=>?_)
  go_simp
  first
  |(refine hK _ ?_;clear hK K)
  |(apply Exists.intro
    refine⟨fun W hW=>?_,hK _ ?_⟩
    first
    |(go_at_call 142;exact Calls.more hW (YS.o W))
    |(go_simp;try rfl)
    clear hK K)
 refine wpQuiet_nil ?_
 intro w8 h8
 have M8:=hQQ (M6.o.more h8)
 have BM8:=hQQ (h8.block BM.o)
 have BW8:=hQQ (h8.block BW.o)
 clear h8
 go_wp2_with fail
 refine(Lx HR.o HH.o.toPgIn hn F6 p kn D6 q k nb' HQ.o HB.o HC.o w8 M8.o.view HK.o M8.o.inv bt (SZ.o _ _ _ M8.o) (NF.o _ _ _ M8.o).1 (NF.o _ _ _ M8.o).2).mono ?_
 intro e w9 he
 rcases M8.o.step (ae.refl _) HK.o (ip HH.o.toPgIn HQ.o HB.o) he with⟨a',hE,rfl,hd',ht',hk'⟩|⟨x9,D9,F9,hE,rfl,M9,hq9,hk9,hf9⟩
 ·have NE:=hQQ (NEED.o a')
  have R9:=hQQ (R6.o.symm.trans (ag hE))
  change bodyPostD _ _ _ (Exit.panic (bB p)) _ _
  refine leaves_cons (f:=129) (args:=#[.pointer (some ⟨gm,0,none⟩),.pointer (some ⟨wm,0,none⟩)]) (by simp) (by simp[go_sem]) ?_
  refine(ze HR.o HH.o p a' q k was gm wm w9 hd' (hk' _ _ NM.o BM8.o) (hk' _ _ NW.o BW8.o) _).mono ?_
  rintro e u' w10 ⟨rfl,rfl,h10⟩
  exact NE.o w10 R9.o (hd'.keep h10 (fun q=>q)) (ak ht' h10 (fun _ q=>q.elim))
 have R9:=hQQ ((aj hE).symm.trans R6.o)
 have BM9:=hQQ (hk9 _ _ NM.o BM8.o)
 have BW9:=hQQ (hk9 _ _ NW.o BW8.o)
 have NM9:=hQQ (show ¬F9 gm from fun z=>by rcases hf9 _ z with q|q;exact NM.o q;have:=ac BM8.o;omega)
 have M9:=hQQ M9
 clear he hE hk9 hf9 hq9 M8 BM8 BW8
 have L9:=hQQ (KL.o _ _ _ M9.o)
 have SZ9:=hQQ (SZ.o _ _ _ M9.o)
 clear BG NG6 L6 YB YS HB HC WB HB0 M6 BM BW NM NW SZ NF SL SF R6 L0 M0 d0 d1
 go_wp2_with (first|(refine aM rfl rfl rfl L9.o (by kernel_rfl) ?_)|(refine aM rfl rfl rfl L9.o (by kernel_rfl) ?_))
 refine(AD.o w9).mono ?_
 rintro e w10 ⟨rfl,h10⟩
 have M10:=hQQ (M9.o.more h10)
 have BM10:=hQQ (h10.block BM9.o)
 have BW10:=hQQ (h10.block BW9.o)
 have SZ10:=hQQ (SZ9.o.more h10)
 clear h10 M9 BM9 BW9 SZ9 L9
 go_wp2_with fail
 refine(CS.o w10 SZ10.o).mono ?_
 rintro e w11 ⟨rfl,h11⟩
 have M12:=hQQ (M10.o.more h11)
 have BM12:=hQQ (h11.block BM10.o)
 have BW12:=hQQ (h11.block BW10.o)
 clear h11 M10 BM10 BW10 SZ10
 go_wp2_with fail
 refine leaves_cons (f:=129) (args:=#[.pointer (some ⟨gm,0,none⟩),.pointer (some ⟨wm,0,none⟩)]) (by simp) (by simp[go_sem]) ?_
 refine(zi HR.o HH.o hn F9 p kn D9 q k was HQ.o gm wm w11 M12.o.view HK.o M12.o.inv BM12.o BW12.o NM9.o _).mono ?_
 rintro e u' w13 ⟨rfl,he⟩
 rcases M12.o.step (ae.refl _) HK.o (io HH.o q k was HQ.o) he with⟨a',hE,rfl,hd',ht',_⟩|⟨x11,D11,F11,hE,rfl,M11,_,_,_⟩
 ·exact NEED.o a' w13 (R9.o.symm.trans (ag hE)) hd' ht'
 have FIN:=hQQ (DONE.o (adr+i * sz,true) w13 D11 F11 (R9.o.symm.trans (aj hE)) M11)
 refine⟨_,results_tmp2 (t:=6) (u:=7) rfl _ _ _,?_⟩
 exact FIN.o
def Low {α:Type}(n:Nat)(m:Int)(p:Prg α):Prop:=∀kn D x D',OkK kn→cI n D→p kn D=.ok x D'→∀a,m≤a→dN kn D' a=dN kn D a
section
variable {α β:Type}{n:Nat}{m:Int}
theorem cJ (x:α):Low n m (az x):=fun kn D y D' _ _ h a _=>by cases h;rfl
theorem mH (b:Int):Low n m (cT b):=fun kn D y D' _ _ h a _=>by rw[(gV h).1]
theorem cB {Q:α→Prop}{p:Prg α}{f:α→Prg β}(G:bZ n Q p)(h:Low n m p)(hf:∀x,Q x→Low n m (f x)):Low n m (aq p f):=fun kn D y D' hk hD e a ha=>by
 cases e1:p kn D with
 |need b=>rw[ag e1] at e;cases e
 |ok x D1 =>
  rw[aj e1] at e
  obtain⟨i1,q1⟩:=G.ok hk hD e1
  exact(hf x q1 kn D1 y D' hk i1 e a ha).trans (h kn D x D1 hk hD e1 a ha)
theorem eC {c:Prop} [Decidable c] {p q:Prg α}(h1:c→Low n m p)(h2:¬c→Low n m q):Low n m (if c then p else q):=by
 split
 ·rename_i h;exact h1 h
 ·rename_i h;exact h2 h
theorem fy {b x:Int}(hb:b<m):Low n m (cU b x):=fun kn D y D' _ hD h a ha=>by
 cases h
 unfold dN eE
 split
 ·rfl
 ·split
  ·rfl
  ·rw[qq hD.asc,if_neg (by omega)]
end
section
variable {pg st:Int}{n m:Nat}(H:cF pg st n)(L:cF pg st m)
include H L
theorem zn (p:Int):Low n m (fC pg st p):=eC (fun _=>mH _) (fun _=>cJ _)
theorem Ki {p:Int}(h:af pg p=true){k x:Int}(hk:W64 k)(hx:W64 x):Low n m (lT pg st p k x):=
 have b:=cx L.toPgIn h
 have g:=cx H.toPgIn h
 cB (aR n g.1.2.2 g.1.2.1 hk) (fy b.1.2.1) fun _ _=>cB (aR n g.2.1.2.2 g.2.1.2.1 hx) (fy b.2.1.2.1) fun _ _=>fy b.2.2.2.1
theorem Ho {k:Int}(hk:W64 k)(j:Nat):∀q,(∀i:Nat,i<j→af pg (q+i)=true)→Low n m (jd pg st k j q):=by
 induction j with
 |zero=>intro q _;exact cJ _
 |succ j ih =>
  intro q h
  exact cB (pB H.toPgIn (by simpa using h 0 (by omega)) hk (by unfold W64;omega)) (Ki H L (by simpa using h 0 (by omega)) hk (by unfold W64;omega)) (fun _ _=>ih _ (fun i hi=>by have:=h (i+1) (by omega);rwa [show q+((i+1:Nat):Int)=q+1+(i:Int) by omega] at this))
theorem Kj (p:Int):Low n m (oc pg st p):=cB (gH H.toPgIn p) (zn H L p) fun k _=>by
 refine eC (fun _=>cJ _) (fun _=>eC (fun _=>?_) (fun _=>cJ _))
 intro kn D x D' hk hD e a ha
 cases e1:cT (cA pg st p) kn D with
 |need b=>rw[ag e1] at e;cases e
 |ok y D1 =>
  rw[aj e1] at e
  cases e
  rw[(gV e1).1]
theorem Hp (p:Int):Low n m (mj pg st p):=
 cB (tf H.toPgIn p) (Kj H L p) (fun x hx=>by
  have hb:∀i:Nat,i<x.toNat→af pg (p+i)=true:=fun i hi=>by
   rcases hx with rfl|⟨h,h1,h2⟩
   ·simp at hi
   ·have:=ay.1 h;exact ay.2 ⟨by omega,by omega⟩
  exact cB (qF H.toPgIn (by unfold W64;omega) _ _ hb) (Ho H L (by unfold W64;omega) _ _ hb) (fun _ _=>cJ _))
theorem oN {a:Int}(ha:a<n):Low n m (ep pg a):=eC (fun _=>cJ _) (fun _=>cB (a6 n ha) (mH _) (fun x _=>cJ _))
theorem Bo {p:Int}(j:Nat):∀(a:Int) (l:List Int),a<n→Low n m (lr pg st p j a l):=by
 induction j with
 |zero=>intro a l _;exact cJ _
 |succ j ih =>
  intro a l ha
  exact cB (dt H ha) (oN H L ha) (fun q hq=>eC (fun _=>cJ _) (fun _=>eC (fun _=>cJ _) (fun hne=>ih _ _ (eH H (hq.resolve_left hne)).1.2.1)))
theorem EH (p c f:Int):Low n m (ls pg st p c f):=Bo H L _ _ _ (bG H).2.1
theorem oO {h p q:Int}(g1:W64 h)(g2:h<n)(h2:h<m)(hp:p= -1∨af pg p=true)(hq:q= -1∨af pg q=true):Low n m (fe pg st h p q):=
 cB (Q:=fun _=>True) (aN (fun _=>aR n g1 g2 (od H hq)) (fun hne=>aR n (eH H (hp.resolve_left hne)).1.2.2 (eH H (hp.resolve_left hne)).1.2.1 (od H hq)))
  (eC (fun _=>fy h2) (fun hne=>fy (eH L (hp.resolve_left hne)).1.2.1))
  (fun _ _=>eC (fun _=>cJ _) (fun hne=>fy (eH L (hq.resolve_left hne)).2.2.1))
theorem Bp (p c f:Int):Low n m (jk pg st p c f):=
 eC (fun _=>cJ _) (fun _=>eC (fun hp=>cB (dt H (bG H).2.1) (oN H L (bG H).2.1) (fun q hq=>cB (dW H (bG H).2.2 (bG H).2.1 (.inr hp) hq) (oO H L (bG H).2.2 (bG H).2.1 (bG L).2.1 (.inr hp) hq) (fun _ _=>cB (dW H (bG H).2.2 (bG H).2.1 (.inl rfl) (.inr hp)) (oO H L (bG H).2.2 (bG H).2.1 (bG L).2.1 (.inl rfl) (.inr hp)) (fun _ _=>cJ _)))) (fun _=>cJ _))
theorem xt (p c f:Int):Low n m (fT pg st p c f):=
 eC (fun hp=>cB (oJ H _ _ _) (EH H L _ _ _) (fun r hr=>eC (fun _=>cB (dt H (eH H hp).1.2.1) (oN H L (eH H hp).1.2.1) (fun q hq=>cB (dW H (bG H).2.2 (bG H).2.1 (lx H hr.1) hq) (oO H L (bG H).2.2 (bG H).2.1 (bG L).2.1 (lx H hr.1) hq) (fun _ _=>cB (aR n (eH H hp).1.2.2 (eH H hp).1.2.1 (by unfold W64;omega)) (fy (eH L hp).1.2.1) (fun _ _=>cB (aR n (eH H hp).2.2.2 (eH H hp).2.2.1 (by unfold W64;omega)) (fy (eH L hp).2.2.1) (fun _ _=>cJ _))))) (fun _=>cJ _))) (fun _=>cJ _)
theorem EJ {q k b:Int}(hq:af pg q=true)(hb:W64 b):Low n m (gU pg st q k b):=
 eC (fun _=>cB (qG H.toPgIn q) (Hp H L q) fun _ _=>cJ _)
  (fun _=>cB (aR n (cx H.toPgIn hq).2.2.2.2 (cx H.toPgIn hq).2.2.2.1 hb) (fy (cx L.toPgIn hq).2.2.2.1) fun _ _=>fun kn D x D' hk hD e a ha=>by
   cases e
   exact fy (cx L.toPgIn hq).2.1.2.1 kn D () _ hk hD rfl a ha)
theorem EK (q k was:Int)(hq:af pg q=true):Low n m (i8 pg st q k was):=
 cB (ko H _ _ _) (xt H L _ _ _) fun _ _=>cB (a6 n (cx H.toPgIn hq).2.1.2.1) (mH _) fun f _=>cB (mu H _ _ _) (Bp H L _ _ _) fun _ _=>cJ _
theorem xu {q:Int}(hq:af pg q=true)(k i:Int):Low n m (mG pg st q k i):=
 cB (a6 n (cx H.toPgIn hq).2.1.2.1) (mH _) fun was _=>cB (a6 n (cx H.toPgIn hq).2.2.2.1) (mH _) fun b hb=>cB (ip H.toPgIn hq (kI hb i)) (EJ H L hq (kI hb i)) fun _ _=>cB (io H q k was hq) (EK H L q k was hq) fun _ _=>cJ _
theorem EM (us a:Int):Low n m (gc us pg st a):=by
 unfold gc
 refine eC (fun h=>?_) (fun _=>cJ _)
 refine cB (gH H.toPgIn _) (zn H L _) fun x _=>?_
 unfold jK
 refine eC (fun _=>cJ _) (fun _=>eC (fun _=>cJ _) (fun _=>?_))
 intro kn D y D' hk hD e b ha
 cases e1:cT (bA pg st ((a-us) / 32)) kn D with
 |need b=>rw[ag e1] at e;cases e
 |ok z D1 =>
  rw[aj e1] at e
  cases e
  rw[(gV e1).1]
theorem Hr (us a:Int):Low n m (rr us pg st a):=cB (lC H.toPgIn a) (EM H L us a) fun x hx=>by
 cases h:gI x with
 |none=>exact cJ _
 |some y =>
  obtain⟨q,k,i⟩:=y
  have:=iq h
  exact xu H L (hx q k i true this).1 k i
end
def aV (pg st:Int)(ws:List Int)(p:Int):Int:=if af pg p then wAt ws (kA pg st p) else -1
def cH (pg st:Int)(ws:List Int)(p:Int):Int:=wAt ws (cA pg st p)
def dd (pg st:Int)(ws:List Int)(p:Int):Int:=wAt ws (bA pg st p)
def fN (pg st p k x:Int)(ws:List Int):List Int:=((ws.set (kA pg st p).toNat k).set (cA pg st p).toNat x).set (bA pg st p).toNat 0
def tF (pg st:Int):Nat→Int→List Int→Bool
 | 0,_,_=>true
 |m+1,q,ws=>decide (aV pg st ws q=0) && tF pg st m (q+1) ws
def tG (pg st p n:Int)(ws:List Int):Bool:=cm pg p n && tF pg st n.toNat p ws
def iO (pg st k:Int):Nat→Int→List Int→List Int
 | 0,_,ws=>ws
 |m+1,q,ws=>iO pg st k m (q+1) (fN pg st q k 0 ws)
def iP (pg st p n k:Int)(ws:List Int):Bool×List Int:=if oH k n && tG pg st p n ws then(true,iO pg st 7 (n-1).toNat (p+1) (fN pg st p k (if k=6 then n else 0) (gS pg st p n ws).2)) else(false,ws)
def rN (pg st p:Int)(ws:List Int):Int:=if oG (aV pg st ws p) then 1 else if aV pg st ws p=6 then max 1 (min (cH pg st ws p) (pg-p)) else 0
def Dn (pg st p:Int)(ws:List Int):Int×List Int:=(rN pg st p ws,iO pg st 0 (rN pg st p ws).toNat p ws)
def tH (pg st:Int)(ws:List Int)(q:Int):Bool:=bP pg st ws (ofV q) && decide (aV pg st ws q=0)
def vM (pg st:Int)(ws:List Int)(q:Int):Bool:=decide (aV pg st ws q=0)
def oh (f:Int→Bool):Nat→Int→Option Int
 | 0,_=>none
 |m+1,q=>if f q then oh f m (q+1) else some q
def pM (f:Int→Bool)(pg n step:Int):Nat→Int→Int
 | 0,_=> -1
 |m+1,p=>if p≤pg-n then(match oh f n.toNat p with|none=>p|some q=>pM f pg n step m ((q / step+1) * step)) else -1
def mI (f:Int→Bool)(pg n step:Int):Int:=pM f pg n step (pg.toNat+1) 0
def fO (pg st n step:Int)(ws:List Int):Int:=if 1≤n∧1≤step then(if mI (tH pg st ws) pg n step= -1 then mI (vM pg st ws) pg n step else mI (tH pg st ws) pg n step) else -1
section
variable {pg st:Int}{n:Nat}(H:PgIn pg st n)
include H
theorem nH (p:Int):ci n (fC pg st p) (fun ws=>(aV pg st ws p,ws)):=by
 unfold fC aV
 cases h:af pg p with
 |true=>exact aX (dI (by have:=(cx H h).1.1;omega) (cx H h).1.2.1) (fun ws _=>by simp)
 |false=>exact aX (au n (-1)) (fun ws _=>by simp)
theorem zo {p:Int}(h:af pg p=true){k x:Int}(hk:W64 k)(hx:W64 x):ci n (lT pg st p k x) (fun ws=>((),fN pg st p k x ws)):=by
 obtain⟨⟨a0,a1,a2⟩,⟨b0,b1,b2⟩,c0,c1,c2⟩:=cx H h
 exact aC (dm (by omega) a1 a2 hk) (fun _=>aC (dm (by omega) b1 b2 hx) (fun _=>dm (by omega) c1 c2 (by unfold W64;omega)))
theorem EN (m:Nat):∀q,ci n (pz pg st m q) (fun ws=>(tF pg st m q ws,ws)):=by
 induction m with
 |zero=>intro q;exact au n true
 |succ m ih =>
  intro q
  refine aX (aC (nH H q) (fun k=>bh (fun _=>ih (q+1)) (fun _=>au n false))) (fun ws _=>?_)
  show _=(decide (aV pg st ws q=0) && tF pg st m (q+1) ws,ws)
  by_cases e:aV pg st ws q=0<;>simp[e]
theorem Hs (p m:Int):ci n (pA pg st p m) (fun ws=>(tG pg st p m ws,ws)):=by
 refine aX (bh (fun _=>EN H m.toNat p) (fun _=>au n false)) (fun ws _=>?_)
 unfold tG
 cases cm pg p m<;>simp
theorem vN {k:Int}(hk:W64 k)(m:Nat):∀q,(∀i:Nat,i<m→af pg (q+i)=true)→ci n (jd pg st k m q) (fun ws=>((),iO pg st k m q ws)):=by
 induction m with
 |zero=>intro q _;exact au n ()
 |succ m ih =>
  intro q h
  exact aC (zo H (by simpa using h 0 (by omega)) hk (by unfold W64;omega)) (fun _=>ih _ (fun i hi=>by have:=h (i+1) (by omega);rwa [show q+((i+1:Nat):Int)=q+1+(i:Int) by omega] at this))
theorem EO (p m k:Int)(hk:W64 k)(hm:W64 m):ci n (jI pg st p m k) (iP pg st p m k):=by
 unfold jI
 have hx:W64 (if k=6 then m else 0):=by
  split
  ·exact hm
  ·unfold W64;omega
 cases h:cm pg p m with
 |false =>
  unfold pA
  rw[h]
  have z:ci n (az false) (iP pg st p m k):=aX (au n false) (fun ws _=>by
   unfold iP tG
   rw[h]
   simp)
  by_cases hf:oH k m=true
  ·rw[if_pos hf];exact z
  ·rw[if_neg hf];exact z
 |true =>
  obtain⟨q0,q1,q2⟩:=d6.1 h
  refine aX (bh (fun _=>aC (Hs H p m) (fun b=>bh (fun _=>aC (yM H.toTblIn p m) (fun _=>aC (zo H (ay.2 ⟨by omega,by omega⟩) hk hx) (fun _=>aC (vN H (by unfold W64;omega) (m-1).toNat (p+1) (fun i hi=>ay.2 ⟨by omega,by omega⟩)) (fun _=>au n true)))) (fun _=>au n false))) (fun _=>au n false)) (fun ws _=>?_)
  unfold iP
  by_cases hf:oH k m=true<;>by_cases hv:tG pg st p m ws=true<;>simp[hf,hv]
theorem Hu (p:Int):ci n (oc pg st p) (fun ws=>(rN pg st p ws,ws)):=by
 cases h:af pg p with
 |true =>
  obtain⟨_,⟨b0,b1,_⟩,_⟩:=cx H h
  refine aX (aC (nH H p) (fun k=>bh (fun _=>au n 1) (fun _=>bh (fun _=>aC (dI (a:=cA pg st p) (by omega) b1) (fun x=>au n (max 1 (min x (pg-p))))) (fun _=>au n 0)))) (fun ws _=>?_)
  unfold rN cH
  by_cases e:oG (aV pg st ws p)=true
  ·simp only[if_pos e]
  ·by_cases e2:aV pg st ws p=6
   ·simp only[if_neg e,if_pos e2]
   ·simp only[if_neg e,if_neg e2]
 |false =>
  unfold oc fC
  rw[h]
  refine aX (au n (0:Int)) (fun ws _=>?_)
  unfold rN aV
  rw[h];rfl
theorem Oq (p:Int)(ws:List Int):rN pg st p ws=0∨af pg p=true∧1≤rN pg st p ws∧rN pg st p ws≤pg-p:=by
 cases h:af pg p with
 |true =>
  have:=ay.1 h
  unfold rN
  by_cases e:oG (aV pg st ws p)=true
  ·rw[if_pos e];exact .inr ⟨rfl,by omega,by omega⟩
  ·by_cases e2:aV pg st ws p=6
   ·rw[if_neg e,if_pos e2];exact .inr ⟨rfl,by omega,by omega⟩
   ·rw[if_neg e,if_neg e2];exact .inl rfl
 |false =>
  refine .inl ?_
  unfold rN aV
  rw[h];rfl
theorem EP (p:Int):ci n (mj pg st p) (Dn pg st p):=
 aX (gx (Q:=fun x:Int=>x=0∨af pg p=true∧1≤x∧x≤pg-p) (Hu H p) (fun ws _=>Oq H p ws) (fun x hx=>aC (vN H (by unfold W64;omega) x.toNat p (fun i hi=>by
  rcases hx with rfl|⟨h,h1,h2⟩
  ·simp at hi
  ·have:=ay.1 h;exact ay.2 ⟨by omega,by omega⟩)) (fun _=>au n x))) (fun ws _=>rfl)
theorem vO (q:Int):ci n (mn pg st q) (fun ws=>(vM pg st ws q,ws)):=aC (nH H q) (fun k=>au n (decide (k=0)))
theorem EQ (q:Int):ci n (ms pg st q) (fun ws=>(tH pg st ws q,ws)):=by
 refine aX (aC (re H.toTblIn (ofV q)) (fun b=>bh (fun _=>vO H q) (fun _=>au n false))) (fun ws _=>?_)
 unfold tH vM
 by_cases e:bP pg st ws (ofV q)=true<;>simp[e]
theorem Bq {f:Int→Prg Bool}{g:List Int→Int→Bool}(hf:∀q,ci n (f q) (fun ws=>(g ws q,ws)))(m:Nat):∀q,ci n (km f m q) (fun ws=>(oh (g ws) m q,ws)):=by
 induction m with
 |zero=>intro q;exact au n none
 |succ m ih =>
  intro q
  refine aX (aC (hf q) (fun b=>bh (fun _=>ih (q+1)) (fun _=>au n (some q)))) (fun ws _=>?_)
  show _=((if g ws q then oh (g ws) m (q+1) else some q),ws)
  by_cases e:g ws q=true<;>simp[e]
theorem tI {f:Int→Prg Bool}{g:List Int→Int→Bool}(hf:∀q,ci n (f q) (fun ws=>(g ws q,ws)))(m step:Int)(j:Nat):∀p,ci n (jJ f pg m step j p) (fun ws=>(pM (g ws) pg m step j p,ws)):=by
 induction j with
 |zero=>intro p;exact au n (-1)
 |succ j ih =>
  intro p
  refine aX (bh (fun _=>aC (Bq H hf m.toNat p) (fun r=>(?_:ci n _ (fun ws=>((match r with|none=>p|some q=>pM (g ws) pg m step j ((q / step+1) * step)),ws))))) (fun _=>au n (-1))) (fun ws _=>?_)
  ·cases r with
   |none=>exact au n p
   |some q=>exact ih _
  ·show _=((if p≤pg-m then(match oh (g ws) m.toNat p with|none=>p|some q=>pM (g ws) pg m step j ((q / step+1) * step)) else -1),ws)
   by_cases e:p≤pg-m<;>simp[e]
theorem qP (m step:Int):ci n (i5 pg st m step) (fun ws=>(fO pg st m step ws,ws)):=by
 refine aX (bh (fun _=>aC (tI H (EQ H) m step (pg.toNat+1) 0) (fun p=>bh (fun _=>tI H (vO H) m step (pg.toNat+1) 0) (fun _=>au n p))) (fun _=>au n (-1))) (fun ws _=>?_)
 unfold fO mI
 by_cases e:1≤m∧1≤step
 ·simp only[if_pos e]
  by_cases e2:pM (tH pg st ws) pg m step (pg.toNat+1) 0= -1
  ·simp only[if_pos e2]
  ·simp only[if_neg e2]
 ·simp only[if_neg e]
end
theorem j1 {pg st:Int}{ws:List Int}{p:Int}(h:af pg p=true):aV pg st ws p=wAt ws (kA pg st p):=by unfold aV;rw[h];rfl
theorem iQ {pg st:Int}{ws:List Int}{p:Int}(h:af pg p=false):aV pg st ws p= -1:=by unfold aV;rw[h];rfl
section
variable {pg st:Int}{n:Nat}(H:PgIn pg st n)
include H
theorem fm (p k x:Int)(ws:List Int):(fN pg st p k x ws).length=ws.length:=by simp[fN]
theorem iE {p:Int}(h:af pg p=true)(k x:Int){ws:List Int}(hn:ws.length=n){i:Int}(hi:0≤i):wAt (fN pg st p k x ws) i=if i=bA pg st p then 0 else if i=cA pg st p then x else if i=kA pg st p then k else wAt ws i:=by
 obtain⟨⟨a0,a1,a2⟩,⟨b0,b1,b2⟩,c0,c1,c2⟩:=cx H h
 unfold fN
 rw[dH (by omega) hi (by simp[hn];exact c1),dH (by omega) hi (by simp[hn];exact b1),dH (by omega) hi (by rw[hn];exact a1)]
theorem mK {k p:Int}(hk:bV pg k=true)(h:af pg p=true):dY pg st k≠kA pg st p∧dY pg st k≠cA pg st p∧dY pg st k≠bA pg st p:=by
 have:=de.1 hk;have:=ay.1 h;have:=H.pg1
 rw[me hk];unfold kA cA bA;omega
theorem nI {p:Int}(h:af pg p=true)(k x:Int){ws:List Int}(hn:ws.length=n)(q:Int):aV pg st (fN pg st p k x ws) q=if q=p then k else aV pg st ws q:=by
 cases hq:af pg q with
 |false =>
  rw[iQ hq,iQ hq,if_neg (by rintro rfl;rw[h] at hq;cases hq)]
 |true =>
  have h0:=(cx H hq).1.1
  have:=ay.1 h;have:=ay.1 hq
  rw[j1 hq,j1 hq,iE H h k x hn (by omega),if_neg (by unfold kA bA;omega),if_neg (by unfold kA cA;omega)]
  by_cases e:q=p
  ·rw[if_pos e,if_pos (by rw[e])]
  ·rw[if_neg e,if_neg (by unfold kA;omega)]
theorem mL {p:Int}(h:af pg p=true)(k x:Int){ws:List Int}(hn:ws.length=n){q:Int}(hq:af pg q=true):cH pg st (fN pg st p k x ws) q=if q=p then x else cH pg st ws q:=by
 have h0:=(cx H hq).2.1.1
 have:=ay.1 h;have:=ay.1 hq
 unfold cH
 rw[iE H h k x hn (by omega),if_neg (by unfold cA bA;omega)]
 by_cases e:q=p
 ·rw[if_pos e,if_pos (by rw[e])]
 ·rw[if_neg e,if_neg (by unfold cA;omega),if_neg (by unfold cA kA;omega)]
theorem pN {p:Int}(h:af pg p=true)(k x:Int){ws:List Int}(hn:ws.length=n){q:Int}(hq:af pg q=true):dd pg st (fN pg st p k x ws) q=if q=p then 0 else dd pg st ws q:=by
 have h0:=(cx H hq).2.2.1
 have:=ay.1 h;have:=ay.1 hq
 unfold dd
 rw[iE H h k x hn (by omega)]
 by_cases e:q=p
 ·rw[if_pos e,if_pos (by rw[e])]
 ·rw[if_neg e,if_neg (by unfold bA;omega),if_neg (by unfold cA bA;omega),if_neg (by unfold bA kA;omega)]
theorem tJ {p:Int}(h:af pg p=true)(k x:Int){ws:List Int}(hn:ws.length=n)(j:Int):bP pg st (fN pg st p k x ws) j=bP pg st ws j:=by
 unfold bP
 cases hj:bV pg j with
 |false=>rfl
 |true =>
  have h0:=(pt H.toTblIn hj).1
  obtain⟨t0,t1,t2⟩:=mK H hj h
  rw[iE H h k x hn (by omega),if_neg t2,if_neg t1,if_neg t0]
theorem Hv (k:Int)(m:Nat):∀(q:Int) (ws:List Int),(iO pg st k m q ws).length=ws.length:=by
 induction m with
 |zero=>intro q ws;rfl
 |succ m ih=>intro q ws;show(iO pg st k m (q+1) _).length=_;rw[ih,fm H]
theorem jL {m:Nat}{q:Int}(h:∀i:Nat,i<m+1→af pg (q+i)=true):af pg q=true∧∀i:Nat,i<m→af pg (q+1+i)=true :=
 ⟨by simpa using h 0 (by omega),fun i hi=>by have:=h (i+1) (by omega);rwa [show q+((i+1:Nat):Int)=q+1+(i:Int) by omega] at this⟩
theorem ER (k:Int)(m:Nat):∀(q:Int) (ws:List Int),ws.length=n→(∀i:Nat,i<m→af pg (q+i)=true)→∀p,aV pg st (iO pg st k m q ws) p=if q≤p∧p<q+m then k else aV pg st ws p:=by
 induction m with
 |zero=>intro q ws _ _ p;rw[if_neg (by omega)];rfl
 |succ m ih =>
  intro q ws hn h p
  obtain⟨h0,h1⟩:=jL H h
  show aV pg st (iO pg st k m (q+1) (fN pg st q k 0 ws)) p=_
  rw[ih _ _ (by rw[fm H];exact hn) h1,nI H h0 k 0 hn]
  by_cases e:p=q
  ·rw[if_neg (by omega),if_pos e,if_pos (by omega)]
  ·rw[if_neg e]
   by_cases e2:q+1≤p∧p<q+1+(m:Int)
   ·rw[if_pos e2,if_pos (by omega)]
   ·rw[if_neg e2,if_neg (by omega)]
theorem Hw (k:Int)(m:Nat):∀(q:Int) (ws:List Int),ws.length=n→(∀i:Nat,i<m→af pg (q+i)=true)→∀p,af pg p=true→cH pg st (iO pg st k m q ws) p=if q≤p∧p<q+m then 0 else cH pg st ws p:=by
 induction m with
 |zero=>intro q ws _ _ p _;rw[if_neg (by omega)];rfl
 |succ m ih =>
  intro q ws hn h p hp
  obtain⟨h0,h1⟩:=jL H h
  show cH pg st (iO pg st k m (q+1) (fN pg st q k 0 ws)) p=_
  rw[ih _ _ (by rw[fm H];exact hn) h1 p hp,mL H h0 k 0 hn hp]
  by_cases e:p=q
  ·rw[if_neg (by omega),if_pos e,if_pos (by omega)]
  ·rw[if_neg e]
   by_cases e2:q+1≤p∧p<q+1+(m:Int)
   ·rw[if_pos e2,if_pos (by omega)]
   ·rw[if_neg e2,if_neg (by omega)]
theorem Hx (k:Int)(m:Nat):∀(q:Int) (ws:List Int),ws.length=n→(∀i:Nat,i<m→af pg (q+i)=true)→∀p,af pg p=true→dd pg st (iO pg st k m q ws) p=if q≤p∧p<q+m then 0 else dd pg st ws p:=by
 induction m with
 |zero=>intro q ws _ _ p _;rw[if_neg (by omega)];rfl
 |succ m ih =>
  intro q ws hn h p hp
  obtain⟨h0,h1⟩:=jL H h
  show dd pg st (iO pg st k m (q+1) (fN pg st q k 0 ws)) p=_
  rw[ih _ _ (by rw[fm H];exact hn) h1 p hp,pN H h0 k 0 hn hp]
  by_cases e:p=q
  ·rw[if_neg (by omega),if_pos e,if_pos (by omega)]
  ·rw[if_neg e]
   by_cases e2:q+1≤p∧p<q+1+(m:Int)
   ·rw[if_pos e2,if_pos (by omega)]
   ·rw[if_neg e2,if_neg (by omega)]
theorem Hy (k:Int)(m:Nat):∀(q:Int) (ws:List Int),ws.length=n→(∀i:Nat,i<m→af pg (q+i)=true)→∀j,bP pg st (iO pg st k m q ws) j=bP pg st ws j:=by
 induction m with
 |zero=>intro q ws _ _ j;rfl
 |succ m ih =>
  intro q ws hn h j
  obtain⟨h0,h1⟩:=jL H h
  show bP pg st (iO pg st k m (q+1) (fN pg st q k 0 ws)) j=_
  rw[ih _ _ (by rw[fm H];exact hn) h1 j,tJ H h0 k 0 hn]
theorem Hz (k:Int)(m:Nat):∀(q:Int) (ws:List Int),ws.length=n→(∀i:Nat,i<m→af pg (q+i)=true)→∀i,0≤i→(∀p,af pg p=true→i≠kA pg st p∧i≠cA pg st p∧i≠bA pg st p)→wAt (iO pg st k m q ws) i=wAt ws i:=by
 induction m with
 |zero=>intro q ws _ _ i _ _;rfl
 |succ m ih =>
  intro q ws hn h i hi ho
  obtain⟨h0,h1⟩:=jL H h
  obtain⟨o1,o2,o3⟩:=ho q h0
  show wAt (iO pg st k m (q+1) (fN pg st q k 0 ws)) i=_
  rw[ih _ _ (by rw[fm H];exact hn) h1 i hi ho,iE H h0 k 0 hn hi,if_neg o3,if_neg o2,if_neg o1]
end
structure Tab (pg st:Int)(ws ws':List Int):Prop where
 len:ws'.length=ws.length
 off:∀i:Int,0≤i→(∀k,bV pg k=true→i≠dY pg st k)→wAt ws' i=wAt ws i
section
variable {pg st:Int}{n:Nat}(H:PgIn pg st n)
include H
theorem Tab.kind {ws ws':List Int}(h:Tab pg st ws ws')(p:Int):aV pg st ws' p=aV pg st ws p:=by
 cases hp:af pg p with
 |false=>rw[iQ hp,iQ hp]
 |true=>rw[j1 hp,j1 hp,h.off _ (by have:=(cx H hp).1.1;omega) (fun k hk e=>(mK H hk hp).1 e.symm)]
theorem Tab.cnt {ws ws':List Int}(h:Tab pg st ws ws'){p:Int}(hp:af pg p=true):cH pg st ws' p=cH pg st ws p :=
 h.off _ (by have:=(cx H hp).2.1.1;omega) (fun k hk e=>(mK H hk hp).2.1 e.symm)
theorem Tab.bit {ws ws':List Int}(h:Tab pg st ws ws'){p:Int}(hp:af pg p=true):dd pg st ws' p=dd pg st ws p :=
 h.off _ (by have:=(cx H hp).2.2.1;omega) (fun k hk e=>(mK H hk hp).2.2 e.symm)
theorem tK {x y:Int}(ht:cm pg x y=true){ws:List Int}(hn:ws.length=n):Ep ws (gS pg st x y ws).2 (fun i=>∃j:Nat,j<spanV x y∧i=dY pg st (x / 4+j)):=by
 have h2:=yN H.toTblIn (spanV x y) (x / 4) 0 ws ws (fun _=>False) hn (Er ws _ (fun _ q=>q)) (fun i hi=>wX ht i hi)
 unfold gS
 rw[if_pos ht]
 exact⟨h2.len,fun i h0=>⟨fun q=>(h2.eq i h0).1 (.inr q),fun q=>(h2.eq i h0).2 (by rintro(r|r);exact r;exact q r)⟩⟩
theorem Kk {x y:Int}(ht:cm pg x y=true){ws:List Int}(hn:ws.length=n):Tab pg st ws (gS pg st x y ws).2 :=
 ⟨(tK H ht hn).len,fun i h0 ho=>((tK H ht hn).eq i h0).2 (by rintro⟨j,hj,e⟩;exact ho _ (wX ht j hj) e)⟩
theorem Kl {x y:Int}(ht:cm pg x y=true){ws:List Int}(hn:ws.length=n){j:Int}(hj:bV pg j=true):bP pg st (gS pg st x y ws).2 j=(bP pg st ws j ||(decide (x / 4≤j) && decide (j≤(x+y-1) / 4))):=by
 have h:=tK H ht hn
 obtain⟨t0,t1,t2⟩:=pt H.toTblIn hj
 obtain⟨s1,s2⟩:=AM ht H.pg2
 unfold bP
 rw[hj]
 by_cases e:x / 4≤j∧j≤(x+y-1) / 4
 ·rw[(h.eq _ (by omega)).1 ⟨(j-x / 4).toNat,by omega,by congr 1;omega⟩]
  simp[e]
 ·rw[(h.eq _ (by omega)).2 (by
   rintro⟨i,hi,q⟩
   have hc:=wX ht i hi
   rw[me hj,me hc] at q
   omega)]
  by_cases e1:x / 4≤j
  ·have:¬j≤(x+y-1) / 4:=fun q=>e ⟨e1,q⟩
   simp[this]
  ·simp[e1]
end
structure Wf (pg st:Int)(ws:List Int):Prop where
 b:∀p,af pg p=true→0≤aV pg st ws p∧aV pg st ws p≤7
 rest:∀p,aV pg st ws p=7→aV pg st ws (p-1)=6∨aV pg st ws (p-1)=7
 run:∀p,aV pg st ws p=6→1≤cH pg st ws p∧cH pg st ws p≤pg-p∧(∀i,p<i→i<p+cH pg st ws p→aV pg st ws i=7)∧aV pg st ws (p+cH pg st ws p)≠7
 free:∀p,aV pg st ws p=0→cH pg st ws p=0∧dd pg st ws p=0
 map:∀p,af pg p=true→aV pg st ws p≠0→bP pg st ws (p / 4)=true
theorem ES (pg st:Int)(ws:List Int)(m:Nat):∀q:Int,tF pg st m q ws=true↔∀i:Int,q≤i→i<q+m→aV pg st ws i=0:=by
 induction m with
 |zero=>intro q;simp only[tF,true_iff];intro i h0 h1;omega
 |succ m ih =>
  intro q
  show(decide (aV pg st ws q=0) && tF pg st m (q+1) ws)=true↔_
  rw[Bool.and_eq_true,decide_eq_true_eq,ih]
  constructor
  ·rintro⟨h0,h1⟩ i a0 a1
   by_cases e:i=q
   ·rw[e];exact h0
   ·exact h1 i (by omega) (by omega)
  ·intro h
   exact⟨h q (by omega) (by omega),fun i a0 a1=>h i (by omega) (by omega)⟩
theorem tL {pg st p n:Int}{ws:List Int} :tG pg st p n ws=true↔cm pg p n=true∧∀i:Int,p≤i→i<p+n→aV pg st ws i=0:=by
 unfold tG
 rw[Bool.and_eq_true,ES]
 constructor
 ·rintro⟨h0,h1⟩
  obtain⟨a,b,c⟩:=d6.1 h0
  exact⟨h0,fun i a0 a1=>h1 i a0 (by omega)⟩
 ·rintro⟨h0,h1⟩
  exact⟨h0,fun i a0 a1=>h1 i a0 (by obtain⟨a,b,c⟩:=d6.1 h0;omega)⟩
theorem zp {pg p:Int}(h:af pg p=true):bV pg (p / 4)=true:=by
 have:=ay.1 h
 rw[de];unfold aL;omega
section
variable {pg st:Int}{n:Nat}(H:PgIn pg st n)
include H
structure H4 (pg st p m k:Int)(ws ws':List Int):Prop where
 len:ws'.length=ws.length
 kind:∀q,aV pg st ws' q=if q=p then k else if p<q∧q<p+m then 7 else aV pg st ws q
 cnt:∀q,af pg q=true→cH pg st ws' q=if q=p then(if k=6 then m else 0) else if p<q∧q<p+m then 0 else cH pg st ws q
 bit:∀q,af pg q=true→dd pg st ws' q=if p≤q∧q<p+m then 0 else dd pg st ws q
 map:∀j,bV pg j=true→bP pg st ws' j=(bP pg st ws j ||(decide (p / 4≤j) && decide (j≤(p+m-1) / 4)))
 off:∀i:Int,0≤i→(∀p,af pg p=true→i≠kA pg st p∧i≠cA pg st p∧i≠bA pg st p)→(∀k,bV pg k=true→i≠dY pg st k)→wAt ws' i=wAt ws i
theorem ET {p m k:Int}{ws:List Int}(hn:ws.length=n)(ht:cm pg p m=true):H4 pg st p m k ws (iO pg st 7 (m-1).toNat (p+1) (fN pg st p k (if k=6 then m else 0) (gS pg st p m ws).2)):=by
 obtain⟨t0,t1,t2⟩:=d6.1 ht
 have T:=Kk H ht hn
 have hE:(gS pg st p m ws).2.length=n:=T.len.trans hn
 have hp:af pg p=true:=ay.2 ⟨by omega,by omega⟩
 have hP:(fN pg st p k (if k=6 then m else 0) (gS pg st p m ws).2).length=n:=by rw[fm H];exact hE
 have hr:∀i:Nat,i<(m-1).toNat→af pg (p+1+i)=true:=fun i hi=>ay.2 ⟨by omega,by omega⟩
 have hc:(((m-1).toNat:Nat):Int)=m-1:=by omega
 refine⟨by rw[Hv H,fm H,T.len],fun q=>?_,fun q hq=>?_,fun q hq=>?_,fun j hj=>?_,fun i h0 o1 o2=>?_⟩
 ·rw[ER H _ _ _ _ hP hr,nI H hp _ _ hE,T.kind H,hc]
  by_cases e:q=p
  ·rw[if_neg (by omega),if_pos e,if_pos e]
  ·rw[if_neg e,if_neg e]
   by_cases e2:p<q∧q<p+m
   ·rw[if_pos (by omega),if_pos e2]
   ·rw[if_neg (by omega),if_neg e2]
 ·rw[Hw H _ _ _ _ hP hr q hq,mL H hp _ _ hE hq,T.cnt H hq,hc]
  by_cases e:q=p
  ·rw[if_neg (by omega),if_pos e,if_pos e]
  ·rw[if_neg e,if_neg e]
   by_cases e2:p<q∧q<p+m
   ·rw[if_pos (by omega),if_pos e2]
   ·rw[if_neg (by omega),if_neg e2]
 ·rw[Hx H _ _ _ _ hP hr q hq,pN H hp _ _ hE hq,T.bit H hq,hc]
  by_cases e:q=p
  ·rw[if_neg (by omega),if_pos e,if_pos (by omega)]
  ·rw[if_neg e]
   by_cases e2:p<q∧q<p+m
   ·rw[if_pos (by omega),if_pos (by omega)]
   ·rw[if_neg (by omega),if_neg (by omega)]
 ·rw[Hy H _ _ _ _ hP hr,tJ H hp _ _ hE,Kl H ht hn hj]
 ·obtain⟨o3,o4,o5⟩:=o1 p hp
  rw[Hz H _ _ _ _ hP hr i h0 o1,iE H hp _ _ hE h0,if_neg o5,if_neg o4,if_neg o3,T.off i h0 o2]
structure OX (pg st p m:Int)(ws ws':List Int):Prop where
 len:ws'.length=ws.length
 kind:∀q,aV pg st ws' q=if p≤q∧q<p+m then 0 else aV pg st ws q
 cnt:∀q,af pg q=true→cH pg st ws' q=if p≤q∧q<p+m then 0 else cH pg st ws q
 bit:∀q,af pg q=true→dd pg st ws' q=if p≤q∧q<p+m then 0 else dd pg st ws q
 map:∀j,bP pg st ws' j=bP pg st ws j
 off:∀i:Int,0≤i→(∀p,af pg p=true→i≠kA pg st p∧i≠cA pg st p∧i≠bA pg st p)→wAt ws' i=wAt ws i
end
open Go.ChangeShapes Go.WideShapes Go.ChangeAt Go.Joins Go.Deep
theorem EV (b o j:Nat):(⟨b,o,none⟩:Addr).add j=⟨b,o+j,none⟩:=by
 unfold Addr.add
 by_cases q:j=0
 ·subst q;simp
 ·simp[q]
theorem H5 {α:Type}{n:Nat}{f:Nat→α}{i:Nat}{t:α}(h:((List.range n).map f)[i]?=some t):i<n∧t=f i:=by
 rw[List.getElem?_map] at h
 by_cases q:i<n
 ·rw[List.getElem?_range q] at h;exact⟨q,by simpa using h.symm⟩
 ·rw[List.getElem?_eq_none (by simpa using q)] at h;cases h
section
variable {H:Type}{enc:TypeId×Value→H}{P:Program}{w:World}{base:Nat}{spare:Nat→Bool}{held:Bool}
end
section
variable {H:Type}{enc:TypeId×Value→H}{P:Program}{w:World}{base:Nat}{spare:Nat→Bool}{held:Bool}
end
theorem H6 {α:Type}{l:List α}{j:Nat}{x:α}(h:l[j]?=some x):l.drop j=x::l.drop (j+1):=by
 have hj:j<l.length:=by
  rcases Nat.lt_or_ge j l.length with q|q
  ·exact q
  ·rw[List.getElem?_eq_none q] at h;cases h
 rw[List.drop_eq_getElem_cons hj]
 rw[List.getElem?_eq_getElem hj] at h
 cases h;rfl
def MP (pg st k:Int)(ws:List Int):Bool:=tG pg st (qu pg k) (fJ pg k) ws
section
variable {pg st:Int}{n:Nat}(H:PgIn pg st n)
include H
structure OC (pg st:Int)(lo s:Int)(ws:List Int)(r:Int×List Int):Prop where
 tab:Tab pg st ws r.2
 wf:Wf pg st r.2
 cnt:GV pg st r.2=GV pg st ws-(r.1-s)
 le:s≤r.1
 map:∀j,bV pg j=true→bP pg st r.2 j=if lo≤j then(bP pg st ws j && !MP pg st j ws) else bP pg st ws j
end
section
variable {pg st:Int}{n:Nat}(H:PgIn pg st n)
include H
end
end Go.Proofs.YtddmeghbmdfgeaaGreatDoor
