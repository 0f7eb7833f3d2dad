/-
  The landed package plist: Link.
-/
import Derived.Test.YtddmeghbmdfgeaaGreatDoorFlAh
import Derived.Test.YtddmeghbmdfgeaaGreatDoorFlAk
import Derived.Test.YtddmeghbmdfgeaaGreatDoorFlAi
set_option maxRecDepth 100000
set_option maxHeartbeats 8000000
set_option linter.unusedVariables false
set_option linter.unusedSimpArgs false
set_option linter.unusedSectionVars false
namespace Go.Proofs.YtddmeghbmdfgeaaGreatDoor
open Go.RowKit Go.Sort Go.Maps Go.Shelf
theorem JT {c:Cfg}(R:c.Ok){n:Nat}(H:cH c.pg c.st n)(hn:n≤10000)(F:Nat→Prop)(p:Nat)(kn:Int→Option Int)(D:List KV)(q cl f:Int)(w:World)(hv:aK w F p kn D)(hk:OkK kn)(hD:cF n D):
 Calls Tryz.prog 131 #[.pointer (some ⟨p,0,none⟩),.agg c.arr,.int .i64 q,.int .i64 cl,.int .i64 f] w (aC w F p kn (fun b=> .bool b) (iP c.pg c.st q cl f kn D)):=by
 obtain⟨Rr,hRr⟩:∃Rr,iP c.pg c.st q cl f kn D=Rr:=⟨_,rfl⟩
 rw[hRr]
 obtain⟨w1,e1,hl1,m1,s1⟩:=bg w (.cells c.arr 28)
 have nFl:¬F w.heap.size:=fun q=>by have:=hv.lt _ q;omega
 have MM:=hQQ m1
 have L0:=hQQ hl1
 have M0:Hq (MidV w1 w1 F (fun _=>False) p kn n D F):=hQQ (MidV.begin (hv.more m1) hD)
 have KL:Hq (∀wr D' F',MidV w1 wr F (fun _=>False) p kn n D' F'→wr.heap[w.heap.size]?=some (.cells c.arr 28 (0,0))):=hQQ fun wr D' F' h=>cI h L0.o nFl (fun q=>q)
 have NEED:Hq (∀a w2,Rr=.need a→aQ w2 p a→Turned (fun b=>F b∨False) w1 w2→aC w F p kn (fun b:Bool=>Value.bool b) Rr (.panicked (aY p)) w2):=hQQ fun a w2 e hd ht=>cx MM.o (fun _ q=>q.elim) e hd ht
 have DONE:Hq (∀x w2 D' F',Rr=.ok x D'→MidV w1 w2 F (fun _=>False) p kn n D' F'→aC w F p kn (fun b:Bool=>Value.bool b) Rr (.returned ((fun b:Bool=>Value.bool b) x)) w2):=hQQ fun x w2 D' F' e h=>bZ MM.o (fun _ q=>q.elim) h e
 have HK:=hQQ hk
 have HR:=hQQ R
 have HH:=hQQ H
 clear hl1 m1 hv hD hk R H nFl
 unfold iP at hRr
 by_cases hz:aI c.pg c.st cl f=0
 ·have d0:(aI c.pg c.st cl f==0)=true:=by simp[hz]
  rw[if_pos hz] at hRr
  have FIN:Hq (∀w2,ae w1 w2→aC w F p kn (fun b:Bool=>Value.bool b) Rr (.returned (.bool false)) w2):=hQQ fun w2 h=>DONE.o false w2 D F hRr.symm (M0.o.more h)
  clear hRr hz
  go_enter Tryz.func131,Tryz.ntmps131
  go_wp2_with (refine af rfl 28 _ rfl _ rfl 28 _ _ _ L0.o Tryz.underlying28 rfl (by kernel_rfl) ?_)
  refine(kO HR.o _ cl f).mono ?_
  rintro e w2 ⟨rfl,h2⟩
  have H2:=hQQ h2
  clear h2
  go_wp2_with fail
  go_ret
  exact FIN.o _ H2.o
 have d0:(aI c.pg c.st cl f==0)=false:=by simp[hz]
 rw[if_neg hz] at hRr
 cases hq:ag c.pg q with
 |false =>
  rw[hq] at hRr
  have FIN:Hq (∀w2,ae w1 w2→aC w F p kn (fun b:Bool=>Value.bool b) Rr (.returned (.bool false)) w2):=hQQ fun w2 h=>DONE.o false w2 D F hRr.symm (M0.o.more h)
  clear hRr hz
  go_enter Tryz.func131,Tryz.ntmps131
  go_wp2_with (refine af rfl 28 _ rfl _ rfl 28 _ _ _ L0.o Tryz.underlying28 rfl (by kernel_rfl) ?_)
  refine(kO HR.o _ cl f).mono ?_
  rintro e w2 ⟨rfl,h2⟩
  have L2:=hQQ (h2.block L0.o)
  have H2:=hQQ h2
  clear h2
  go_wp2_with (refine af rfl 28 _ rfl _ rfl 28 _ _ _ L2.o Tryz.underlying28 rfl (by kernel_rfl) ?_)
  refine(io HR.o HH.o q _).mono ?_
  rw[hq]
  rintro e w3 ⟨rfl,h3⟩
  have H3:=hQQ (H2.o.trans h3)
  clear h3
  go_wp2_with fail
  go_ret
  exact FIN.o _ H3.o
 |true =>
  rw[hq] at hRr
  have HQ:=hQQ hq
  have HRr:=hQQ (show ar (ep c.pg (aI c.pg c.st cl f)) (fun x=>ar (eT c.pg c.st (aI c.pg c.st cl f) q x) fun _=>ar (eT c.pg c.st (aI c.pg c.st cl f) (-1) q) fun _=>aA true) kn D=Rr from hRr)
  clear hRr hz hq
  go_enter Tryz.func131,Tryz.ntmps131
  go_wp2_with (refine af rfl 28 _ rfl _ rfl 28 _ _ _ L0.o Tryz.underlying28 rfl (by kernel_rfl) ?_)
  refine(kO HR.o _ cl f).mono ?_
  rintro e w2 ⟨rfl,h2⟩
  have M2:=hQQ (M0.o.more h2)
  have L2:=hQQ (KL.o _ _ _ M2.o)
  clear h2
  go_wp2_with (refine af rfl 28 _ rfl _ rfl 28 _ _ _ L2.o Tryz.underlying28 rfl (by kernel_rfl) ?_)
  refine(io HR.o HH.o q _).mono ?_
  rw[HQ.o]
  rintro e w3 ⟨rfl,h3⟩
  have M3:=hQQ (M2.o.more h3)
  clear h3 M2 L2
  go_wp2_with fail
  refine aR (TrC c w.heap.size) (by kernel_rfl) ?_
  have MR:=hQQ (M3.o.more ((ae.refl w3).drewN 1))
  change dq _ _ _ _ _ _ _ _ (w3.drewN 1)
  generalize w3.drewN 1=wr at MR⊢
  generalize hA:Act.mk _ _=A
  have HF:AG 38 A [(0,.pointer (some ⟨p,0,none⟩)),(1,.agg c.arr),(2,.int .i64 q),(3,.int .i64 cl),(4,.int .i64 f),(6,.pointer (some ⟨w.heap.size,0,none⟩)),(11,.int .i64 (aI c.pg c.st cl f))]:=by
   rw[←hA];try simp only[pts,List.foldl]
   refine⟨⟨Nat.le_of_ble_eq_true rfl,rfl⟩,?_⟩
   intro z hz;simp only[List.mem_cons,List.not_mem_nil,or_false] at hz;rcases hz with rfl|rfl|rfl|rfl|rfl|rfl|rfl<;>rfl
  refine bK (fun a W=>∃(u24 u25 u26 u27 u28 u29 u30 u31 u32:Value) (D9:List KV) (F9:Nat→Prop),a=(pts A [(24,u24),(25,u25),(26,u26),(27,u27),(28,u28),(29,u29),(30,u30),(31,u31),(32,u32)])∧MidV w1 W F (fun _=>False) p kn n D9 F9∧ar (eT c.pg c.st (aI c.pg c.st cl f) (-1) q) (fun _=>aA true) kn D9=Rr) (fun W=>aC w F p kn (fun b:Bool=>Value.bool b) Rr (.panicked (aY p)) W) (aY p) (fun a W hd h=>⟨hd,h⟩) (fun _ _ _ _ _ h=>h) ?_ ?_
  ·skip
   rintro a wa ⟨u24,u25,u26,u27,u28,u29,u30,u31,u32,D5,F5,rfl,MS,RS⟩
   rw[←hA];try simp only[pts,List.foldl]
   have MS:=hQQ MS
   have LS:=hQQ (KL.o _ _ _ MS.o)
   have RS:=hQQ RS
   clear HF hA MR M3 HRr
   go_wp2_with (refine af rfl 28 _ rfl _ rfl 28 _ _ _ LS.o Tryz.underlying28 rfl (by kernel_rfl) ?_)
   refine(rD HR.o HH.o hn F5 p kn D5 (aI c.pg c.st cl f) (-1) q (bG HH.o).2.2 (bG HH.o).2.1 (.inl rfl) (.inr HQ.o) wa MS.o.view HK.o MS.o.inv).mono ?_
   intro e w6 he
   rcases MS.o.step (ae.refl _) HK.o (dU HH.o (bG HH.o).2.2 (bG HH.o).2.1 (.inl rfl) (.inr HQ.o)) he with⟨a',hE,rfl,hd',ht',_⟩|⟨x6,D6,F6,hE,rfl,M6,hq6,_,_⟩
   ·exact⟨rfl,NEED.o a' w6 (RS.o.symm.trans (ah hE)) hd' ht'⟩
   have FIN:=hQQ (DONE.o true w6 D6 F6 (RS.o.symm.trans (ak hE)) M6)
   clear he hE M6
   go_wp2_with fail
   go_ret
   exact FIN.o
  intro QQ FINE FIND FINQ
  clear hA
  refine aG (i:=0) (v:=.pointer (some ⟨p,0,none⟩)) (some 24) rfl rfl (by kernel_rfl) (by kernel_rfl) (by kernel_rfl) (fun c a w=>FINQ c a _ _ w) (KL.o _ _ _ MR.o) (by exact aH (ab rfl) _ rfl (HF.get 0 rfl)) ?_
  replace HF:=HF.put 24 (.pointer (some ⟨p,0,none⟩)) (by decide) rfl
  generalize hB1_24:Act.put _ _ _=A at HF⊢
  refine aG (i:=1) (v:=.agg c.arr) (some 25) rfl rfl (by kernel_rfl) (by kernel_rfl) (by kernel_rfl) (fun c a w=>FINQ c a _ _ w) (KL.o _ _ _ MR.o) (by exact aF (C:=(TrC c w.heap.size)) (ab rfl) 28 _ rfl w.heap.size (HF.get 6 rfl) 28 _ _ _ (fun W hW=>hW) Tryz.underlying28 rfl (by kernel_rfl)) ?_
  replace HF:=HF.put 25 (.agg c.arr) (by decide) rfl
  generalize hB2_25:Act.put _ _ _=A at HF⊢
  refine aG (i:=2) (v:=.int .i64 (aI c.pg c.st cl f)) (some 26) rfl rfl (by kernel_rfl) (by kernel_rfl) (by kernel_rfl) (fun c a w=>FINQ c a _ _ w) (KL.o _ _ _ MR.o) (by exact aH (ab rfl) _ rfl (HF.get 8 rfl)) ?_
  replace HF:=HF.put 26 (.int .i64 (aI c.pg c.st cl f)) (by decide) rfl
  generalize hB3_26:Act.put _ _ _=A at HF⊢
  refine aG (i:=3) (v:=.int .i64 q) (some 27) rfl rfl (by kernel_rfl) (by kernel_rfl) (by kernel_rfl) (fun c a w=>FINQ c a _ _ w) (KL.o _ _ _ MR.o) (by exact aH (ab rfl) _ rfl (HF.get 5 rfl)) ?_
  replace HF:=HF.put 27 (.int .i64 q) (by decide) rfl
  generalize hB4_27:Act.put _ _ _=A at HF⊢
  refine aG (i:=4) (v:=.pointer (some ⟨p,0,none⟩)) (some 28) rfl rfl (by kernel_rfl) (by kernel_rfl) (by kernel_rfl) (fun c a w=>FINQ c a _ _ w) (KL.o _ _ _ MR.o) (by exact aH (ab rfl) _ rfl (HF.get 4 rfl)) ?_
  replace HF:=HF.put 28 (.pointer (some ⟨p,0,none⟩)) (by decide) rfl
  generalize hB5_28:Act.put _ _ _=A at HF⊢
  refine aG (i:=5) (v:=.agg c.arr) (some 29) rfl rfl (by kernel_rfl) (by kernel_rfl) (by kernel_rfl) (fun c a w=>FINQ c a _ _ w) (KL.o _ _ _ MR.o) (by exact aF (C:=(TrC c w.heap.size)) (ab rfl) 28 _ rfl w.heap.size (HF.get 10 rfl) 28 _ _ _ (fun W hW=>hW) Tryz.underlying28 rfl (by kernel_rfl)) ?_
  replace HF:=HF.put 29 (.agg c.arr) (by decide) rfl
  generalize hB6_29:Act.put _ _ _=A at HF⊢
  refine aG (i:=6) (v:=.int .i64 (aI c.pg c.st cl f)) (some 30) rfl rfl (by kernel_rfl) (by kernel_rfl) (by kernel_rfl) (fun c a w=>FINQ c a _ _ w) (KL.o _ _ _ MR.o) (by exact aH (ab rfl) _ rfl (HF.get 12 rfl)) ?_
  replace HF:=HF.put 30 (.int .i64 (aI c.pg c.st cl f)) (by decide) rfl
  generalize hB7_30:Act.put _ _ _=A at HF⊢
  refine az (i:=7) (some 31) (by kernel_rfl) rfl (ab rfl) rfl (fun K hK=>?_)
  refine dP (v0:=.pointer (some ⟨p,0,none⟩)) (v1:=.agg c.arr) (v2:=.int .i64 (aI c.pg c.st cl f)) rfl (HF.get 2 rfl) (HF.get 1 rfl) (HF.get 0 rfl) (enters_of Tryz.func92 (by kernel_rfl) rfl) ?_
  refine(lR HR.o HH.o F p kn D (aI c.pg c.st cl f) (bG HH.o).2.2 (bG HH.o).2.1 wr MR.o.view HK.o MR.o.inv).mono ?_
  intro e w4 he
  rcases MR.o.step (ae.refl _) HK.o (dp HH.o (bG HH.o).2.1) he with⟨a',hE,rfl,hd',ht',_⟩|⟨x4,D4,F4,hE,rfl,M4,hq4,_,_⟩
  ·exact FIND _ _ HF.1.2 (NEED.o a' w4 (HRr.o.symm.trans (ah hE)) hd' ht')
  have R4:=hQQ ((ak hE).symm.trans HRr.o)
  have M4:=hQQ M4
  clear he hE
  refine hK _ _ (KL.o _ _ _ M4.o) ?_
  clear hK K
  replace HF:=HF.put 31 (.int .i64 x4) (by decide) rfl
  generalize hB8_31:Act.put _ _ _=A at HF⊢
  refine az (i:=8) (some 32) (by kernel_rfl) rfl (ab rfl) rfl (fun K hK=>?_)
  refine j2 (v0:=.pointer (some ⟨p,0,none⟩)) (v1:=.agg c.arr) (v2:=.int .i64 (aI c.pg c.st cl f)) (v3:=.int .i64 q) (v4:=.int .i64 x4) rfl (HF.get 7 rfl) (HF.get 6 rfl) (HF.get 5 rfl) (HF.get 4 rfl) (HF.get 0 rfl) (enters_of Tryz.func146 (by kernel_rfl) rfl) ?_
  refine(rD HR.o HH.o hn F4 p kn D4 (aI c.pg c.st cl f) q x4 (bG HH.o).2.2 (bG HH.o).2.1 (.inr HQ.o) hq4 w4 M4.o.view HK.o M4.o.inv).mono ?_
  intro e w5 he
  rcases M4.o.step (ae.refl _) HK.o (dU HH.o (bG HH.o).2.2 (bG HH.o).2.1 (.inr HQ.o) hq4) he with⟨a',hE,rfl,hd',ht',_⟩|⟨x5,D5,F5,hE,rfl,M5,hq5,_,_⟩
  ·exact FIND _ _ HF.1.2 (NEED.o a' w5 (R4.o.symm.trans (ah hE)) hd' ht')
  have R5:=hQQ ((ak hE).symm.trans R4.o)
  have M5:=hQQ M5
  clear he hE
  refine hK _ _ (KL.o _ _ _ M5.o) ?_
  clear hK K
  replace HF:=HF.put 32 (.tuple #[]) (by decide) rfl
  generalize hB9_32:Act.put _ _ _=A at HF⊢
  exact bQ (by kernel_rfl) (FINE _ _ ⟨(.pointer (some ⟨p,0,none⟩)),(.agg c.arr),(.int .i64 (aI c.pg c.st cl f)),(.int .i64 q),(.pointer (some ⟨p,0,none⟩)),(.agg c.arr),(.int .i64 (aI c.pg c.st cl f)),(.int .i64 x4),(.tuple #[]),D5,F5,by rw[←hB9_32,←hB8_31,←hB7_30,←hB6_29,←hB5_28,←hB4_27,←hB3_26,←hB2_25,←hB1_24]<;>rfl,M5.o,R5.o⟩)
theorem yQ {P:Program}{ops:Array Oper}{C:World→Prop}{o:Oper}{a:Act}(hw:Region.wanted o (yielded ops a.tmps)=true)(ty:TypeId)(x:Operand)(ho:o.op=.load ty x)(g off:Nat)(hx:a.eval x=.pointer (some ⟨g,off,none⟩))(t:TypeId)(cs hs:Array Value)(fr:Nat×Nat)(d:TypeDesc)(hg:∀w,C w→w.heap[g]?=some (.cells cs t fr))(hc:∀j,j<hs.size→cs[off+j]?=hs[j]?)
 (hu:P.underlying ty=some d) (hd:(match d with| .struct _| .array _ _=>true|_=>false)=true) (hi:(P.info? ty).map (·.size)=some hs.size):bT P ops C o (.agg hs) a:=by
 refine .inl ⟨hw,fun w hC=>?_⟩
 unfold execOp
 simp only[ho,hx,Instr.loadAt,Instr.sureAddr,Sem.run_bind,Sem.run_pure,Result.andThen_ok,iD w g off t ty cs hs fr d (hg w hC) hc hu hd hi]
def iG (pg st q k was:Int):Prg Unit:=ar (fD pg st q k was) fun _=>ar (cW (cA pg st q)) fun f=>ar (iP pg st q k f) fun _=>aA ()
theorem qR (pg st q k was:Int):bH (iG pg st q k was):=aq (sK _ _ _ _ _) (fun _=>aq (dA _) (fun _=>aq (wS _ _ _ _ _) (fun _=>ai _)))
theorem gV {pg st:Int}{n:Nat}(H:cH pg st n)(q k was:Int)(hq:ag pg q=true):bV n (fun _=>True) (iG pg st q k was):=by
 have hb:=(cu H.toPgIn hq).2.1.2.1
 exact au (jS H q k was) (fun _ _=>au (bu n hb) (fun f _=>au (lP H q k f) (fun _ _=>aj n trivial)))
theorem yR {c:Cfg}(R:c.Ok){n:Nat}(H:cH c.pg c.st n)(hn:n≤10000)(F:Nat→Prop)(p:Nat)(kn:Int→Option Int)(D:List KV)(q k was:Int)(hq:ag c.pg q=true)(gb wb:Nat)(w:World)(hv:aK w F p kn D)(hk:OkK kn)(hD:cF n D)(hg:w.heap[gb]?=some (.cells (bB c p q k) 90 (0,0)))(hw:w.heap[wb]?=some (.cells #[.int .i64 was] 3 (0,0)))(nFg:¬F gb)(u:FrameMode):
 CallsD Tryz.prog 129 #[.pointer (some ⟨gb,0,none⟩),.pointer (some ⟨wb,0,none⟩)] u w (fun e u' w'=>u'=u∧aC w F p kn (fun _:Unit=> .tuple #[]) (iG c.pg c.st q k was kn D) e w'):=by
 obtain⟨Rr,hRr⟩:∃Rr,iG c.pg c.st q k was kn D=Rr:=⟨_,rfl⟩
 rw[hRr]
 have M0:Hq (MidV w w F (fun _=>False) p kn n D F):=hQQ (MidV.begin hv hD)
 have NEED:Hq (∀a w2,Rr=.need a→aQ w2 p a→Turned (fun b=>F b∨False) w w2→aC w F p kn (fun _:Unit=>Value.tuple #[]) Rr (.panicked (aY p)) w2):=hQQ fun a w2 e hd ht=>cx (ae.refl w) (fun _ q=>q.elim) e hd ht
 have DONE:Hq (∀x w2 D' F',Rr=.ok x D'→MidV w w2 F (fun _=>False) p kn n D' F'→aC w F p kn (fun _:Unit=>Value.tuple #[]) Rr (.returned (.tuple #[])) w2):=hQQ fun x w2 D' F' e h=>bZ (val:=fun _:Unit=>Value.tuple #[]) (ae.refl w) (fun _ q=>q.elim) h e
 have KP:Hq (∀wr D' F',MidV w wr F (fun _=>False) p kn n D' F'→wr.heap[gb]?=some (.cells (bB c p q k) 90 (0,0))):=hQQ fun wr D' F' h=>(h.turn.block gb (ac hg) (by rintro(z|z);exact nFg z;exact z)).trans hg
 have CC:Hq (∀W:World,W.heap[gb]?=some (.cells (bB c p q k) 90 (0,0))→W.cell? ⟨gb,0,none⟩=some (.pointer (some ⟨p,0,none⟩))∧W.cell? ⟨gb,25,none⟩=some (.int .i64 q)∧W.cell? ⟨gb,26,none⟩=some (.int .i64 k)):=hQQ fun W hl1 =>
  ⟨by rw[cell_of_row W _ _ _ _ _ hl1];exact sM c p q k,by rw[cell_of_row W _ _ _ _ _ hl1];exact sN c p q k,by rw[cell_of_row W _ _ _ _ _ hl1];exact sO c p q k⟩
 have L0:=hQQ hg
 have cw:=(aE hw).1
 obtain⟨c0,c25,c26⟩:=CC.o _ hg
 have HK:=hQQ hk
 have HR:=hQQ R
 have HH:=hQQ H
 have HQ:=hQQ hq
 have PB:=hQQ (cu H.toPgIn hq)
 unfold iG at hRr
 have HRr:=hQQ hRr
 clear hRr hv hk hD hg hw nFg R H hq
 go_enter_d Tryz.func129,Tryz.ntmps129
 go_wp2_with (refine iE rfl 28 _ rfl gb 1 rfl 90 _ c.arr _ _ L0.o (gy c p q k) Tryz.underlying28 rfl (by kernel_rfl) ?_)
 clear c0 c25 c26 cw
 refine(Ei HR.o HH.o hn F p kn D q k was w M0.o.view HK.o M0.o.inv).mono ?_
 intro e w2 he
 rcases M0.o.step (ae.refl _) HK.o (jS HH.o q k was) he with⟨a',hE,rfl,hd',ht',_⟩|⟨x2,D2,F2,hE,rfl,M2,hq2,_,_⟩
 ·exact⟨rfl,NEED.o a' w2 (HRr.o.symm.trans (ah hE)) hd' ht'⟩
 have R2:=hQQ ((ak hE).symm.trans HRr.o)
 have M2:=hQQ M2
 have L2:=hQQ (KP.o _ _ _ M2.o)
 clear he hE
 go_wp2_with fail
 refine aR (fun W=>W.heap[gb]?=some (.cells (bB c p q k) 90 (0,0))) (by kernel_rfl) ?_
 have MR:=hQQ (M2.o.more ((ae.refl w2).drewN 1))
 change dq _ _ _ _ _ _ _ _ (w2.drewN 1)
 generalize w2.drewN 1=wr at MR⊢
 generalize hA:Act.mk _ _=A
 have HF:AG 23 A [(0,.pointer (some ⟨gb,0,none⟩))]:=by
  rw[←hA];try simp only[pts,List.foldl]
  refine⟨⟨Nat.le_of_ble_eq_true rfl,rfl⟩,?_⟩
  intro z hz;simp only[List.mem_cons,List.not_mem_nil,or_false] at hz;rcases hz with rfl<;>rfl
 refine bK (fun a W=>∃(u12 u13 u14 u15 u16 u17 u18 u19 u20 u21 u22:Value) (D9:List KV) (F9:Nat→Prop),a=(pts A [(12,u12),(13,u13),(14,u14),(15,u15),(16,u16),(17,u17),(18,u18),(19,u19),(20,u20),(21,u21),(22,u22)])∧MidV w W F (fun _=>False) p kn n D9 F9∧Rr=.ok () D9) (fun W=>aC w F p kn (fun _:Unit=>Value.tuple #[]) Rr (.panicked (aY p)) W) (aY p) (fun a W hd h=>⟨hd,h⟩) (fun _ _ _ _ _ h=>h) ?_ ?_
 ·skip
  rintro a wa ⟨u12,u13,u14,u15,u16,u17,u18,u19,u20,u21,u22,D9,F9,rfl,MS,hr⟩
  rw[←hA];try simp only[pts,List.foldl]
  have FIN:=hQQ (DONE.o () wa D9 F9 hr MS)
  clear HF hA MR MS hr
  go_simp
  go_wp2_with fail
  go_end0
  exact FIN.o
 intro QQ FINE FIND FINQ
 clear hA
 refine aG (i:=0) (v:=.pointer (some ⟨gb,0,none⟩)) (some 12) rfl rfl (by kernel_rfl) (by kernel_rfl) (by kernel_rfl) (fun c a w=>FINQ c a _ _ w) (KP.o _ _ _ MR.o) (by exact(Or.inl ⟨(ab rfl),fun W hW=>by have h5:=(HF.getD 0 rfl);go_simp⟩)) ?_
 replace HF:=HF.put 12 (.pointer (some ⟨gb,0,none⟩)) (by decide) rfl
 generalize hB1_12:Act.put _ _ _=A at HF⊢
 refine aG (i:=1) (v:=.pointer (some ⟨p,0,none⟩)) (some 13) rfl rfl (by kernel_rfl) (by kernel_rfl) (by kernel_rfl) (fun c a w=>FINQ c a _ _ w) (KP.o _ _ _ MR.o) (by exact dS (C:=(fun W=>W.heap[gb]?=some (.cells (bB c p q k) 90 (0,0)))) (ab rfl) 43 _ rfl gb 0 (HF.get 0 rfl) (.pointer (some ⟨p,0,none⟩)) _ Tryz.underlying43 rfl (fun W hW=>(CC.o W hW).1)) ?_
 replace HF:=HF.put 13 (.pointer (some ⟨p,0,none⟩)) (by decide) rfl
 generalize hB2_13:Act.put _ _ _=A at HF⊢
 refine aG (i:=2) (v:=.pointer (some ⟨gb,1,none⟩)) (some 14) rfl rfl (by kernel_rfl) (by kernel_rfl) (by kernel_rfl) (fun c a w=>FINQ c a _ _ w) (KP.o _ _ _ MR.o) (by exact(Or.inl ⟨(ab rfl),fun W hW=>by have h5:=(HF.getD 2 rfl);go_simp⟩)) ?_
 replace HF:=HF.put 14 (.pointer (some ⟨gb,1,none⟩)) (by decide) rfl
 generalize hB3_14:Act.put _ _ _=A at HF⊢
 refine aG (i:=3) (v:=.agg c.arr) (some 15) rfl rfl (by kernel_rfl) (by kernel_rfl) (by kernel_rfl) (fun c a w=>FINQ c a _ _ w) (KP.o _ _ _ MR.o) (by exact yQ (C:=(fun W=>W.heap[gb]?=some (.cells (bB c p q k) 90 (0,0)))) (ab rfl) 28 _ rfl gb 1 (HF.get 0 rfl) 90 _ c.arr _ _ (fun W hW=>hW) (gy c p q k) Tryz.underlying28 rfl (by kernel_rfl)) ?_
 replace HF:=HF.put 15 (.agg c.arr) (by decide) rfl
 generalize hB4_15:Act.put _ _ _=A at HF⊢
 refine aG (i:=4) (v:=.pointer (some ⟨gb,25,none⟩)) (some 16) rfl rfl (by kernel_rfl) (by kernel_rfl) (by kernel_rfl) (fun c a w=>FINQ c a _ _ w) (KP.o _ _ _ MR.o) (by exact(Or.inl ⟨(ab rfl),fun W hW=>by have h5:=(HF.getD 4 rfl);go_simp⟩)) ?_
 replace HF:=HF.put 16 (.pointer (some ⟨gb,25,none⟩)) (by decide) rfl
 generalize hB5_16:Act.put _ _ _=A at HF⊢
 refine aG (i:=5) (v:=.int .i64 q) (some 17) rfl rfl (by kernel_rfl) (by kernel_rfl) (by kernel_rfl) (fun c a w=>FINQ c a _ _ w) (KP.o _ _ _ MR.o) (by exact dS (C:=(fun W=>W.heap[gb]?=some (.cells (bB c p q k) 90 (0,0)))) (ab rfl) 3 _ rfl gb 25 (HF.get 0 rfl) (.int .i64 q) _ Tryz.underlying3 rfl (fun W hW=>(CC.o W hW).2.1)) ?_
 replace HF:=HF.put 17 (.int .i64 q) (by decide) rfl
 generalize hB6_17:Act.put _ _ _=A at HF⊢
 refine aG (i:=6) (v:=.pointer (some ⟨gb,26,none⟩)) (some 18) rfl rfl (by kernel_rfl) (by kernel_rfl) (by kernel_rfl) (fun c a w=>FINQ c a _ _ w) (KP.o _ _ _ MR.o) (by exact(Or.inl ⟨(ab rfl),fun W hW=>by have h5:=(HF.getD 6 rfl);go_simp⟩)) ?_
 replace HF:=HF.put 18 (.pointer (some ⟨gb,26,none⟩)) (by decide) rfl
 generalize hB7_18:Act.put _ _ _=A at HF⊢
 refine aG (i:=7) (v:=.int .i64 k) (some 19) rfl rfl (by kernel_rfl) (by kernel_rfl) (by kernel_rfl) (fun c a w=>FINQ c a _ _ w) (KP.o _ _ _ MR.o) (by exact dS (C:=(fun W=>W.heap[gb]?=some (.cells (bB c p q k) 90 (0,0)))) (ab rfl) 3 _ rfl gb 26 (HF.get 0 rfl) (.int .i64 k) _ Tryz.underlying3 rfl (fun W hW=>(CC.o W hW).2.2)) ?_
 replace HF:=HF.put 19 (.int .i64 k) (by decide) rfl
 generalize hB8_19:Act.put _ _ _=A at HF⊢
 refine aG (i:=8) (v:=.agg (bB c p q k)) (some 20) rfl rfl (by kernel_rfl) (by kernel_rfl) (by kernel_rfl) (fun c a w=>FINQ c a _ _ w) (KP.o _ _ _ MR.o) (by exact aF (C:=(fun W=>W.heap[gb]?=some (.cells (bB c p q k) 90 (0,0)))) (ab rfl) 90 _ rfl gb (HF.get 8 rfl) 90 _ _ _ (fun W hW=>hW) Tryz.underlying90 rfl (by kernel_rfl)) ?_
 replace HF:=HF.put 20 (.agg (bB c p q k)) (by decide) rfl
 generalize hB9_20:Act.put _ _ _=A at HF⊢
 refine az (i:=9) (some 21) (by kernel_rfl) rfl (ab rfl) rfl (fun K hK=>?_)
 refine sC (v0:=.agg (bB c p q k)) rfl (HF.get 0 rfl) (enters_of Tryz.func128 (by kernel_rfl) rfl) ?_
 refine(C5 HR.o HH.o.toPgIn F2 p kn D2 q k hn HQ.o wr MR.o.view HK.o MR.o.inv).mono ?_
 intro e w4 he
 rcases MR.o.step (ae.refl _) HK.o (bu n PB.o.2.1.2.1) he with⟨a',hE,rfl,hd',ht',_⟩|⟨x4,D4,F4,hE,rfl,M4,hq4,_,_⟩
 ·exact FIND _ _ HF.1.2 (NEED.o a' w4 (R2.o.symm.trans (ah hE)) hd' ht')
 have R4:=hQQ ((ak hE).symm.trans R2.o)
 have M4:=hQQ M4
 clear he hE
 refine hK _ _ (KP.o _ _ _ M4.o) ?_
 clear hK K
 replace HF:=HF.put 21 (.int .i64 x4) (by decide) rfl
 generalize hB10_21:Act.put _ _ _=A at HF⊢
 refine az (i:=10) (some 22) (by kernel_rfl) rfl (ab rfl) rfl (fun K hK=>?_)
 refine j2 (v0:=.pointer (some ⟨p,0,none⟩)) (v1:=.agg c.arr) (v2:=.int .i64 q) (v3:=.int .i64 k) (v4:=.int .i64 x4) rfl (HF.get 8 rfl) (HF.get 6 rfl) (HF.get 4 rfl) (HF.get 2 rfl) (HF.get 0 rfl) (enters_of Tryz.func131 (by kernel_rfl) rfl) ?_
 refine(JT HR.o HH.o hn F4 p kn D4 q k x4 w4 M4.o.view HK.o M4.o.inv).mono ?_
 intro e w5 he
 rcases M4.o.step (ae.refl _) HK.o (lP HH.o q k x4) he with⟨a',hE,rfl,hd',ht',_⟩|⟨x5,D5,F5,hE,rfl,M5,hq5,_,_⟩
 ·exact FIND _ _ HF.1.2 (NEED.o a' w5 (R4.o.symm.trans (ah hE)) hd' ht')
 have R5:=hQQ ((ak hE).symm.trans R4.o)
 have M5:=hQQ M5
 clear he hE
 refine hK _ _ (KP.o _ _ _ M5.o) ?_
 clear hK K
 replace HF:=HF.put 22 (.bool x5) (by decide) rfl
 generalize hB11_22:Act.put _ _ _=A at HF⊢
 exact bQ (by kernel_rfl) (FINE _ _ ⟨(.pointer (some ⟨gb,0,none⟩)),(.pointer (some ⟨p,0,none⟩)),(.pointer (some ⟨gb,1,none⟩)),(.agg c.arr),(.pointer (some ⟨gb,25,none⟩)),(.int .i64 q),(.pointer (some ⟨gb,26,none⟩)),(.int .i64 k),(.agg (bB c p q k)),(.int .i64 x4),(.bool x5),D5,F5,by rw[←hB11_22,←hB10_21,←hB9_20,←hB8_19,←hB7_18,←hB6_17,←hB5_16,←hB4_15,←hB3_14,←hB2_13,←hB1_12]<;>rfl,M5.o,R5.o.symm⟩)
def pj (b:Nat)(c:Cfg)(p:Nat)(q k:Int)(x:Int)(v:Value)(W:World)(F:Nat→Prop):Prop :=
 ∃gb wb,v=.func (.func 129) #[] #[.pointer (some ⟨gb,0,none⟩),.pointer (some ⟨wb,0,none⟩)]∧b≤gb∧b≤wb∧gb≠wb∧¬F gb∧¬F wb ∧
  W.heap[gb]?=some (.cells (bB c p q k) 90 (0,0))∧W.heap[wb]?=some (.cells #[.int .i64 x] 3 (0,0))
theorem C7 {c:Cfg}(R:c.Ok){n:Nat}(H:PgIn c.pg c.st n)(hn:n≤10000)(F:Nat→Prop)(p:Nat)(kn:Int→Option Int)(D:List KV)(q k:Int)(hq:ag c.pg q=true)(w:World)(hv:aK w F p kn D)(hk:OkK kn)(hD:cF n D):
 Calls Tryz.prog 111 #[.agg (bB c p q k)] w (fj w F p kn (pj w.heap.size c p q k) (cW (cA c.pg c.st q) kn D)):=by
 obtain⟨Rr,hRr⟩:∃Rr,cW (cA c.pg c.st q) kn D=Rr:=⟨_,rfl⟩
 rw[hRr]
 obtain⟨w1,e1,hl1,m1,s1⟩:=bg w (.cells (bB c p q k) 90)
 have MM:=hQQ m1
 have L0:=hQQ hl1
 have c0:=(show w1.cell? ⟨w.heap.size,0,none⟩=some (.pointer (some ⟨p,0,none⟩)) by rw[cell_of_row w1 _ _ _ _ _ hl1];exact sM c p q k)
 have c25:=(show w1.cell? ⟨w.heap.size,25,none⟩=some (.int .i64 q) by rw[cell_of_row w1 _ _ _ _ _ hl1];exact sN c p q k)
 have c26:=(show w1.cell? ⟨w.heap.size,26,none⟩=some (.int .i64 k) by rw[cell_of_row w1 _ _ _ _ _ hl1];exact sO c p q k)
 have nFl:¬F w.heap.size:=fun z=>by have:=hv.lt _ z;omega
 have M0:Hq (MidV w1 w1 F (fun _=>False) p kn n D F):=hQQ (MidV.begin (hv.more m1) hD)
 have NEED:Hq (∀a w2,Rr=.need a→aQ w2 p a→Turned (fun b=>F b∨False) w1 w2→fj w F p kn (pj w.heap.size c p q k) Rr (.panicked (aY p)) w2):=hQQ fun a w2 e hd ht=>j5 MM.o (fun _ q=>q.elim) e hd ht
 have DONE:Hq (∀x v w2 D' F',Rr=.ok x D'→MidV w1 w2 F (fun _=>False) p kn n D' F'→pj w.heap.size c p q k x v w2 F'→fj w F p kn (pj w.heap.size c p q k) Rr (.returned v) w2):=hQQ fun x v w2 D' F' e h hp=>j6 MM.o (fun _ q=>q.elim) h e hp
 have hwl:w.heap.size<w1.heap.size:=by omega
 have HNF:=hQQ nFl
 have PB:=hQQ (cu H hq).2.1
 have HK:=hQQ hk
 have HRr:=hQQ hRr
 have GC:=hQQ (C5 R H F p kn D q k hn hq w1 M0.o.view HK.o M0.o.inv)
 clear hl1 m1 hv hD hk R nFl hRr H hq c0 c25 c26
 go_enter Tryz.func111,Tryz.ntmps111
 go_wp2_with (refine wpList_load_row rfl 90 _ rfl w.heap.size rfl 90 _ _ _ L0.o Tryz.underlying90 rfl (by kernel_rfl) ?_)
 clear e1
 refine GC.o.mono ?_
 intro e w4 he
 rcases M0.o.step (ae.refl _) HK.o (bu n PB.o.2.1) he with⟨a',hE,rfl,hd',ht',_⟩|⟨x4,D4,F4,hE,rfl,M4,hq4,_,_⟩
 ·exact⟨rfl,NEED.o a' w4 (HRr.o.symm.trans hE) hd' ht'⟩
 have M4:=hQQ M4
 have E4:=hQQ (HRr.o.symm.trans hE)
 clear he hE
 obtain⟨wA,eA,hA,mA,sA⟩:=bg w4 (.cells #[.int .i64 0] 3)
 obtain⟨cA',fA,kA'⟩:=aE hA
 obtain⟨wB,eB⟩:∃wB,wA.setCell ⟨w4.heap.size,0,none⟩ (.int .i64 x4)=wB:=⟨_,rfl⟩
 have mB:ae w4 wB:=by rw[←eB];exact Turned.setCell mA _ _ (fun z=>by simp at z)
 have hB:wB.heap[w4.heap.size]?=some (.cells #[.int .i64 x4] 3 (0,0)):=by rw[←eB];exact jz hA _
 have FIN:Hq (fj w F p kn (pj w.heap.size c p q k) Rr (.returned (.func (.func 129) #[] #[.pointer (some ⟨w.heap.size,0,none⟩),.pointer (some ⟨w4.heap.size,0,none⟩)])) wB):=hQQ (by
  have h4:w1.heap.size≤w4.heap.size:=M4.o.size
  have g4:=cI M4.o L0.o HNF.o (fun q=>q)
  refine DONE.o x4 _ wB D4 F4 E4.o (M4.o.more mB) ⟨_,_,rfl,by omega,by omega,by omega,M4.o.off hwl HNF.o,fun r=>by have:=M4.o.view.lt _ r;omega,mB.block g4,hB⟩)
 clear hA mA sA mB hB
 go_wp2_with fail
 go_ret
 exact FIN.o
theorem sS (c:Cfg)(p:Nat)(q k:Int):Tryz.prog.built 90 [(0,.pointer (some ⟨p,0,none⟩)),(1,.agg c.arr),(2,.int .i64 q),(3,.int .i64 k)]=some (bB c p q k):=by kernel_rfl
theorem yS {ops:Array Oper}{rest:List Oper}{o:Oper}{a:Act}{w:World}{Q:Exit→Act→World→Prop}(hgd:o.guard=none)(x0 x1 x2 x3:Operand)(ho:o.op=.build 90 #[(0,x0),(1,x1),(2,x2),(3,x3)])(c:Cfg)(p:Nat)(q k:Int)
 (h0:a.eval x0=.pointer (some ⟨p,0,none⟩)) (h1:a.eval x1=.agg c.arr) (h2:a.eval x2=.int .i64 q) (h3:a.eval x3=.int .i64 k) (h:wpList Tryz.prog ops Q rest (a.put o.dst (.agg (bB c p q k))) w):wpList Tryz.prog ops Q (o::rest) a w:=by
 have e:Tryz.prog.built 90 ((#[(0,x0),(1,x1),(2,x2),(3,x3)]:Array (Nat×Operand)).map fun(i,x)=>(i,a.eval x)).toList=some (bB c p q k):=by
  simp only[List.map_toArray,List.map_cons,List.map_nil,h0,h1,h2,h3]
  exact sS c p q k
 refine wpList_build hgd _ _ ho ?_ ?_
 ·rw[e];rfl
 ·rw[e];exact h
theorem qj (c:Cfg)(p:Nat)(q k:Int):(bB c p q k).all (·.oneCell')=true:=by
 have h:c.arr.toList.all (·.oneCell')=true:=by rw[Array.all_toList];exact kx ..
 simp[bB,Value.oneCell'] at h⊢
 exact h
theorem GW (w:World)(c:Cfg)(p:Nat)(q k:Int):∃w1,(w.alloc (.cells #[Value.pointer none,Value.int IntKind.i64 0,Value.int IntKind.i64 0,Value.int IntKind.i64 0,Value.int IntKind.i64 0,Value.int IntKind.i64 0,Value.int IntKind.i64 0,Value.int IntKind.i64 0,Value.int IntKind.i64 0,Value.int IntKind.i64 0,Value.int IntKind.i64 0,Value.int IntKind.i64 0,Value.int IntKind.i64 0,Value.int IntKind.i64 0,Value.int IntKind.i64 0,Value.int IntKind.i64 0,Value.int IntKind.i64 0,Value.int IntKind.i64 0,Value.int IntKind.i64 0,Value.int IntKind.i64 0,Value.int IntKind.i64 0,Value.int IntKind.i64 0,Value.int IntKind.i64 0,Value.int IntKind.i64 0,Value.int IntKind.i64 0,Value.int IntKind.i64 0,Value.int IntKind.i64 0] 90)).setRow w.heap.size (bB c p q k)=w1∧w1.heap[w.heap.size]?=some (.cells (bB c p q k) 90 (0,0))∧ae w w1 :=
 ⟨_,rfl,setRow_heap _ _ _ _ _ _ (a7 w _ _),((ae.refl w).alloc _).setRow _ _ (Nat.le_refl _)⟩
def lU (pg st k:Int):Prg Bool:=ar (eY pg st k (aw k).toNat 1) fun x=>aA (x != -1)
theorem A3 (pg st k:Int):bH (lU pg st k):=aq (lO _ _ _ _ _) (fun _=>ai _)
theorem Me {c:Cfg}(R:c.Ok){n:Nat}(H:cH c.pg c.st n)(F:Nat→Prop)(p:Nat)(kn:Int→Option Int)(D:List KV)(k:Int)(w:World)(hv:aK w F p kn D)(hk:OkK kn)(hD:cF n D)(bt:Nat)(hs:dg bt w)(nF0:¬F 0)(nFb:¬F bt):
 Calls Tryz.prog 24 #[.pointer (some ⟨p,0,none⟩),.agg c.arr,.int .i64 k] w (aC w F p kn (fun b=> .bool b) (lU c.pg c.st k kn D)):=by
 obtain⟨Rr,hRr⟩:∃Rr,lU c.pg c.st k kn D=Rr:=⟨_,rfl⟩
 rw[hRr]
 obtain⟨w1,e1,hl1,m1,s1⟩:=bg w (.cells c.arr 28)
 have nFl:¬F w.heap.size:=fun q=>by have:=hv.lt _ q;omega
 have MM:=hQQ m1
 have L0:=hQQ hl1
 have M0:Hq (MidV w1 w1 F (fun _=>False) p kn n D F):=hQQ (MidV.begin (hv.more m1) hD)
 have KL:Hq (∀wr D' F',MidV w1 wr F (fun _=>False) p kn n D' F'→wr.heap[w.heap.size]?=some (.cells c.arr 28 (0,0))):=hQQ fun wr D' F' h=>cI h L0.o nFl (fun q=>q)
 have NEED:Hq (∀a w2,Rr=.need a→aQ w2 p a→Turned (fun b=>F b∨False) w1 w2→aC w F p kn (fun b:Bool=>Value.bool b) Rr (.panicked (aY p)) w2):=hQQ fun a w2 e hd ht=>cx MM.o (fun _ q=>q.elim) e hd ht
 have DONE:Hq (∀x w2 D' F',Rr=.ok x D'→MidV w1 w2 F (fun _=>False) p kn n D' F'→aC w F p kn (fun b:Bool=>Value.bool b) Rr (.returned ((fun b:Bool=>Value.bool b) x)) w2):=hQQ fun x w2 D' F' e h=>bZ MM.o (fun _ q=>q.elim) h e
 have HK:=hQQ hk
 have HR:=hQQ R
 have HH:=hQQ H
 clear hl1 m1 hv hD hk R H nFl
 have HS:=hQQ (hs.more MM.o)
 have HRr:=hQQ (show ar (eY c.pg c.st k (aw k).toNat 1) (fun x=>aA (x != -1)) kn D=Rr from hRr)
 have HF:=hQQ (And.intro nF0 nFb)
 clear hRr hs nF0 nFb
 go_enter Tryz.func24,Tryz.ntmps24
 go_wp2_with (refine af rfl 28 _ rfl _ rfl 28 _ _ _ L0.o Tryz.underlying28 rfl (by kernel_rfl) ?_)
 refine(yN HR.o HH.o F p kn D k w1 M0.o.view HK.o M0.o.inv bt HS.o HF.o.1 HF.o.2).mono ?_
 intro e w3 he
 rcases M0.o.step (ae.refl _) HK.o (ii HH.o _ _ _) he with⟨a',hE,rfl,hd',ht',_⟩|⟨x3,D3,F3,hE,rfl,M3,hq3,_,_⟩
 ·exact⟨rfl,NEED.o a' w3 (HRr.o.symm.trans (ah hE)) hd' ht'⟩
 have L3:=hQQ (KL.o _ _ _ M3)
 have R3:=hQQ ((ak hE).symm.trans HRr.o)
 have M3:=hQQ M3
 clear he hE
 have FIN:=hQQ (DONE.o (x3 != -1) w3 D3 F3 R3.o.symm M3.o)
 go_wp2_with fail
 go_ret
 exact FIN.o
theorem cnt_b (b k:Int):0≤dy b (aw k)∧dy b (aw k)≤32∧0≤dQ k b∧dQ k b≤32:=by
 have h:=GT (cameUpTo b (endN (aw k)))
 rw[yK,qO] at h
 have hs:=eN k
 have he:(endN (aw k):Int)=aw k:=by unfold endN;omega
 unfold dQ
 omega
section
variable {ops:Array Oper}{C:World→Prop}{o':Oper}{a:Act}{x y:Operand}
theorem lV {s len cap j:Nat}(hw:Region.wanted o' (yielded ops a.tmps)=true)(ho:o'.op=.indexAddr 29 x y)(hx:a.eval x=.slice (some ⟨s,0,none⟩) len cap)(hy:a.eval y=.int .i64 (j:Int))(hj:j<len):bT Tryz.prog ops C o' (.pointer (some ⟨s,j,none⟩)) a:=by
 have d1:decide (j<len)=true:=by simp[hj]
 refine .inl ⟨hw,fun W hW=>?_⟩
 unfold execOp
 generalize a.eval=ρ at hx hy⊢
 simp only[ho,hx,hy]
 go_simp
theorem pk {u z:Int}(hw:Region.wanted o' (yielded ops a.tmps)=true)(ho:o'.op=.binOp .sub 3 x y 3)(hx:a.eval x=.int .i64 u)(hy:a.eval y=.int .i64 z)(t:Int)(hq:IntKind.i64.wrap (u-z)=t):bT Tryz.prog ops C o' (.int .i64 t) a :=
 .inl ⟨hw,fun w _=>by unfold execOp;generalize a.eval=ρ at hx hy⊢;simp only[ho,hx,hy];subst hq;go_simp⟩
end
theorem iR {P:Program}{fn:Func}{p u v:Tmp}{ty:TypeId}(h:fn.results= #[.cell p ty,.tmp u,.tmp v])(tmps:Array Value)(w:World)(g:Nat)(t:TypeId)(cs:Array Value)(fr:Nat×Nat)(d:TypeDesc)
 (hp:tmps.getD p undef=.pointer (some ⟨g,0,none⟩)) (hg:w.heap[g]?=some (.cells cs t fr))
 (hu:P.underlying ty=some d) (hd:(match d with| .struct _| .array _ _=>true|_=>false)=true) (hi:(P.info? ty).map (·.size)=some cs.size):
 (results fn tmps).run P w=.ok (.tuple #[.agg cs,tmps.getD u undef,tmps.getD v undef]) w:=by
 have hp':tmps[p]?.getD undef=.pointer (some ⟨g,0,none⟩):=by simpa using hp
 simp[results,h,hp',asAddr,run_loadVar_row w g t ty cs fr d hg hu hd hi,Sem.run_bind,Result.andThen]
def Cfg.us (c:Cfg):Int:=fI c.cp c.pg c.st c.ca c.bi
def pgZ:Array Value:= #[Value.pointer none,Value.int IntKind.i64 0,Value.int IntKind.i64 0,Value.int IntKind.i64 0,Value.int IntKind.i64 0,Value.int IntKind.i64 0,Value.int IntKind.i64 0,Value.int IntKind.i64 0,Value.int IntKind.i64 0,Value.int IntKind.i64 0,Value.int IntKind.i64 0,Value.int IntKind.i64 0,Value.int IntKind.i64 0,Value.int IntKind.i64 0,Value.int IntKind.i64 0,Value.int IntKind.i64 0,Value.int IntKind.i64 0,Value.int IntKind.i64 0,Value.int IntKind.i64 0,Value.int IntKind.i64 0,Value.int IntKind.i64 0,Value.int IntKind.i64 0,Value.int IntKind.i64 0,Value.int IntKind.i64 0,Value.int IntKind.i64 0,Value.int IntKind.i64 0,Value.int IntKind.i64 0]
theorem MidV.row {W wr:World}{F S F':Nat→Prop}{p n:Nat}{kn:Int→Option Int}{D:List KV}(h:MidV W wr F S p kn n D F'){b:Nat}(hS:b<W.heap.size→S b)(nF:¬F' b)(cs':Array Value){cs:Array Value}{t:TypeId}{fr:Nat×Nat}(hb:wr.heap[b]?=some (.cells cs t fr)):MidV W (wr.setRow b cs') F S p kn n D F' :=
 have T:Turned (fun k=>k=b) wr (wr.setRow b cs'):=Turned.setRow (Turned.refl _ wr) b cs' (fun _=>rfl)
 ⟨h.view.keepS (S:=fun k=>k=b) T (fun k q e=>nF (e▸q)) (fun k es cl e q=>by subst e;rw[hb] at q;cases q),
  h.from',am h.turn T (fun k q=>by
   subst q
   rcases Nat.lt_or_ge k W.heap.size with r|r
   ·exact .inl (.inr (hS r))
   ·exact .inr r),h.inv⟩
theorem oh {w:World}{g b:Nat}{cs:Array Value}{o:Obj}(h:w.heap[b]?=some o)(hne:b≠g):(w.setRow g cs).heap[b]?=some o :=
 ((Turned.setRow (S:=fun k=>k=g) (Turned.refl _ w) g cs (fun _=>rfl)).block b (ac h) hne).trans h
theorem vv (w:World):∃w1,w.alloc (.cells pgZ 90)=w1∧w1.heap[w.heap.size]?=some (.cells pgZ 90 (0,0))∧ae w w1:=⟨_,rfl,a7 w _ _,(ae.refl w).alloc _⟩
section
variable {o:Oper}{a:Act}{w:World}{K:Act→World→Prop}{Q:Exit→Act→World→Prop}{ops:Array Oper}{rest:List Oper}{C:World→Prop}
theorem nL (ho:o.op=.alloc 90)(h:K (a.put o.dst (.pointer (some ⟨w.heap.size,0,none⟩))) (w.alloc (.cells pgZ 90))):Oper.wp Tryz.prog o a w K Q:=by
 unfold Oper.wp Oper.upon execOp
 simp only[ho]
 go_simp
 exact h
theorem pl (hw:Region.wanted o (yielded ops a.tmps)=true)(x0 x1 x2 x3:Operand)(ho:o.op=.build 90 #[(0,x0),(1,x1),(2,x2),(3,x3)])(c:Cfg)(p:Nat)(q k:Int)
 (h0:a.eval x0=.pointer (some ⟨p,0,none⟩)) (h1:a.eval x1=.agg c.arr) (h2:a.eval x2=.int .i64 q) (h3:a.eval x3=.int .i64 k):bT Tryz.prog ops C o (.agg (bB c p q k)) a:=by
 refine .inl ⟨hw,fun w _=>?_⟩
 unfold execOp
 generalize a.eval=ρ at h0 h1 h2 h3⊢
 simp only[ho,List.map_toArray,List.map_cons,List.map_nil,h0,h1,h2,h3]
 simp[run_build w _ _ _ (sS c p q k),Sem.run_bind,Result.andThen]
theorem A4:Tryz.prog.built 90 []=some pgZ:=by kernel_rfl
theorem lW (hgd:o.guard=none)(ho:o.op=.build 90 #[])(h:wpList Tryz.prog ops Q rest (a.put o.dst (.agg pgZ)) w):wpList Tryz.prog ops Q (o::rest) a w:=by
 have e:Tryz.prog.built 90 ((#[]:Array (Nat×Operand)).map fun(i,x)=>(i,a.eval x)).toList=some pgZ:=by simp only[List.map_toArray,List.map_nil];exact A4
 refine wpList_build hgd _ _ ho ?_ ?_
 ·rw[e];rfl
 ·rw[e];exact h
theorem xb {i j:Nat}{x y:Value}(h:i≠j):Act.put (Act.put a (some i) x) (some j) y=Act.put (Act.put a (some j) y) (some i) x:=Act.put_comm a x y (fun d hd e=>by cases hd;cases e;exact h rfl)
end
theorem kQ {W:World}{gb p:Nat}{c:Cfg}{q k:Int}(h:W.heap[gb]?=some (.cells (bB c p q k) 90 (0,0))):W.cell? ⟨gb,0,none⟩=some (.pointer (some ⟨p,0,none⟩))∧W.cell? ⟨gb,25,none⟩=some (.int .i64 q)∧W.cell? ⟨gb,26,none⟩=some (.int .i64 k):=
 ⟨by rw[cell_of_row W _ _ _ _ _ h];exact sM c p q k,by rw[cell_of_row W _ _ _ _ _ h];exact sN c p q k,by rw[cell_of_row W _ _ _ _ _ h];exact sO c p q k⟩
theorem GZ (x:Int):W64 (IntKind.i64.wrap x):=by rw[IntKind.wrap_i64];unfold W64;omega
theorem G5 (k:Int){bt:Nat}(w:World)(h:dg bt w):Calls Tryz.prog 26 #[.int .i64 k] w (aU w (.int .i64 (szV k))):=(wZ k w ⟨bt,h⟩).mono fun e w' q=>⟨q.1,q.2▸ae.refl _⟩
abbrev TkA:=Option (Int×Int×Int×Bool)
def sT (c:Cfg)(p:Nat):TkA→Value
 |none=> .tuple #[.agg pgZ,.int .i64 0,.bool false]
 |some (q,k,i,b)=> .tuple #[.agg (bB c p q k),.int .i64 i,.bool b]
def jk (pg st q wd x:Int):Prg TkA :=
 if aw (IntKind.i64.wrap (x-1))=0 then aA none else if wd % szV (IntKind.i64.wrap (x-1))≠0 then aA none
 else ar (cW (bA pg st q)) fun b=>aA (some (q,IntKind.i64.wrap (x-1),wd / szV (IntKind.i64.wrap (x-1)),eG b (wd / szV (IntKind.i64.wrap (x-1)))))
def fK (us pg st a:Int):Prg TkA:=if us≤a∧a<us+32 * pg then ar (fg pg st ((a-us) / 32)) fun x=>jk pg st ((a-us) / 32) ((a-us) % 32) x else aA none
theorem xd (pg st q wd x:Int):bH (jk pg st q wd x):=aL (ai _) (aL (ai _) (aq (dA _) fun _=>ai _))
theorem qS (us pg st a:Int):bH (fK us pg st a):=aL (aq (kJ _ _ _) fun _=>xd _ _ _ _ _) (ai _)
def ND (pg:Int)(x:TkA):Prop:=∀q k i b,x=some (q,k,i,b)→ag pg q=true∧0≤k∧k≤4∧0≤i∧i≤31
theorem yT {pg st:Int}{n:Nat}(H:PgIn pg st n){q:Int}(hq:ag pg q=true){wd:Int}(hw:0≤wd∧wd<32)(x:Int):bV n (ND pg) (jk pg st q wd x):=by
 unfold jk
 refine aX (fun _=>aj n (fun _ _ _ _ e=>by cases e)) (fun h=>aX (fun _=>aj n (fun _ _ _ _ e=>by cases e)) (fun _=>au (bu n (cu H hq).2.2.2.1) fun b _=>aj n ?_))
 rintro q' k' i' b' e
 cases e
 have h4:=fd h
 generalize IntKind.i64.wrap (x-1)=kk at h4⊢
 obtain⟨z,rfl⟩:∃z:Nat,kk=(z:Int):=⟨kk.toNat,by omega⟩
 have hs:=JQ (k:=z) (by omega)
 exact⟨hq,h4.1,h4.2,Int.ediv_nonneg hw.1 (by omega),by have:=Int.ediv_le_self (szV (z:Int)) hw.1;omega⟩
theorem mW {us pg a:Int}(h:us≤a∧a<us+32 * pg):ag pg ((a-us) / 32)=true∧0≤(a-us) % 32∧(a-us) % 32<32:=⟨ay.2 (by omega),by omega,by omega⟩
theorem kR {us pg st:Int}{n:Nat}(H:PgIn pg st n)(a:Int):bV n (ND pg) (fK us pg st a):=by
 unfold fK
 exact aX (fun h=>au (gh H _) fun x _=>yT H (mW h).1 (mW h).2 x) (fun _=>aj n (fun _ _ _ _ e=>by cases e))
theorem C8 {c:Cfg}(R:c.Ok){n:Nat}(H:cH c.pg c.st n)(hn:n≤10000)(F:Nat→Prop)(p:Nat)(kn:Int→Option Int)(D:List KV)(ad:Int)(w:World)(hv:aK w F p kn D)(hk:OkK kn)(hD:cF n D)(bt:Nat)(hs:dg bt w)(nF0:¬F 0)(nFb:¬F bt):
 Calls Tryz.prog 44 #[.pointer (some ⟨p,0,none⟩),.agg c.arr,.int .i64 ad] w (aC w F p kn (sT c p) (fK c.us c.pg c.st ad kn D)):=by
 obtain⟨Rr,hRr⟩:∃Rr,fK c.us c.pg c.st ad kn D=Rr:=⟨_,rfl⟩
 rw[hRr]
 obtain⟨w2,e2,hl2,hz2,m2,s2⟩:=gS w (.cells c.arr 28) (.cells #[Value.pointer none,Value.int IntKind.i64 0,Value.int IntKind.i64 0,Value.int IntKind.i64 0,Value.int IntKind.i64 0,Value.int IntKind.i64 0,Value.int IntKind.i64 0,Value.int IntKind.i64 0,Value.int IntKind.i64 0,Value.int IntKind.i64 0,Value.int IntKind.i64 0,Value.int IntKind.i64 0,Value.int IntKind.i64 0,Value.int IntKind.i64 0,Value.int IntKind.i64 0,Value.int IntKind.i64 0,Value.int IntKind.i64 0,Value.int IntKind.i64 0,Value.int IntKind.i64 0,Value.int IntKind.i64 0,Value.int IntKind.i64 0,Value.int IntKind.i64 0,Value.int IntKind.i64 0,Value.int IntKind.i64 0,Value.int IntKind.i64 0,Value.int IntKind.i64 0,Value.int IntKind.i64 0] 90)
 have hz2:w2.heap[w.heap.size+1]?=some (.cells pgZ 90 (0,0)):=hz2
 have nFl:¬F w.heap.size:=fun q=>by have:=hv.lt _ q;omega
 have nFz:¬F (w.heap.size+1):=fun q=>by have:=hv.lt _ q;omega
 have MM:=hQQ m2
 have HNZ:=hQQ nFz
 have HZL:=hQQ (show w.heap.size+1<w2.heap.size by omega)
 have L0:=hQQ hl2
 have M0:Hq (MidV w2 w2 F (fun b=>b=w.heap.size+1) p kn n D F∧w2.heap[w.heap.size+1]?=some (.cells pgZ 90 (0,0))):=hQQ ⟨MidV.begin (hv.more m2) hD,hz2⟩
 have KL:Hq (∀wr D' F',MidV w2 wr F (fun b=>b=w.heap.size+1) p kn n D' F'→wr.heap[w.heap.size]?=some (.cells c.arr 28 (0,0))):=hQQ fun wr D' F' h=>cI h L0.o nFl (fun q=>by omega)
 have hSS:∀b,(fun b=>b=w.heap.size+1) b→w.heap.size≤b:=fun b q=>by have:b=w.heap.size+1:=q;omega
 have NEED:Hq (∀a w3,Rr=.need a→aQ w3 p a→Turned (fun b=>F b∨b=w.heap.size+1) w2 w3→aC w F p kn (sT c p) Rr (.panicked (aY p)) w3):=hQQ fun a w3 e hd ht=>cx MM.o hSS e hd ht
 have DONE:Hq (∀x w3 D' F',Rr=.ok x D'→MidV w2 w3 F (fun b=>b=w.heap.size+1) p kn n D' F'→aC w F p kn (sT c p) Rr (.returned (sT c p x)) w3):=hQQ fun x w3 D' F' e h=>bZ MM.o hSS h e
 have SZ:Hq (∀wr D' F',MidV w2 wr F (fun b=>b=w.heap.size+1) p kn n D' F'→dg bt wr):=hQQ fun wr D' F' h=>(hs.more MM.o).keep h.turn (by rintro(q|q);exact nF0 q;have:=hs.lt0;omega) (by rintro(q|q);exact nFb q;have:=hs.lt;omega)
 have HK:=hQQ hk
 have HR:=hQQ R
 have HH:=hQQ H
 have pg1:=HR.o.pg1
 have pg2:=HR.o.pg2
 clear hl2 hz2 m2 hv hD hk R H nFl nFz hs nF0 nFb hSS
 unfold fK at hRr
 have L2:=hQQ (KL.o _ _ _ M0.o.1)
 by_cases hin:c.us≤ad∧ad<c.us+32 * c.pg
 ·rw[if_pos hin] at hRr
  obtain⟨hq,hwd⟩:=mW hin
  have PL:=hQQ (DG HR.o w2 ad hin.1 hin.2)
  have PL:=hQQ (show Calls Tryz.prog 79 #[.agg c.arr,.int .i64 ad] w2 (aU w2 (.tuple #[.int .i64 ((ad-c.us) / 32),.int .i64 ((ad-c.us) % 32),.bool true])) from PL.o)
  generalize (ad-c.us) / 32=q at hRr hq PL
  generalize (ad-c.us) % 32=wd at hRr hwd PL
  have HRr:=hQQ hRr
  have HQ:=hQQ hq
  have PB:=hQQ (cu HH.o.toPgIn hq)
  clear hin hRr hq
  go_enter Tryz.func44,Tryz.ntmps44
  go_wp2_with (refine af rfl 28 _ rfl _ rfl 28 _ _ _ L2.o Tryz.underlying28 rfl (by kernel_rfl) ?_)
  refine PL.o.mono ?_
  rintro e w3 ⟨rfl,h3⟩
  have M3:=hQQ (And.intro (M0.o.1.more h3) (h3.block M0.o.2))
  clear h3
  go_wp2_with fail
  have MR:Hq (MidV w2 (w3.drewN 1) F (fun b=>b=w.heap.size+1) p kn n D F∧(w3.drewN 1).heap[w.heap.size+1]?=some (.cells pgZ 90 (0,0))):=hQQ ⟨M3.o.1.more ((ae.refl w3).drewN 1),((ae.refl w3).drewN 1).block M3.o.2⟩
  have KC:Hq (∀W D' F',MidV w2 W F (fun b=>b=w.heap.size+1) p kn n D' F'∧W.heap[w.heap.size+1]?=some (.cells pgZ 90 (0,0))→W.heap[w.heap.size]?=some (.cells c.arr 28 (0,0))):=hQQ fun _ _ _ h=>KL.o _ _ _ h.1
  refine aR (fun W=>W.heap[w.heap.size]?=some (.cells c.arr 28 (0,0))) (by kernel_rfl) ?_
  change dq _ _ _ _ _ _ _ _ (w3.drewN 1)
  generalize hA:Act.mk _ _=A
  have HF:AG 57 A [(0,.pointer (some ⟨p,0,none⟩)),(4,.pointer (some ⟨w.heap.size,0,none⟩)),(9,.int .i64 q)]:=by
   rw[←hA];try simp only[pts,List.foldl]
   refine⟨⟨Nat.le_of_ble_eq_true rfl,rfl⟩,?_⟩
   intro z hz;simp only[List.mem_cons,List.not_mem_nil,or_false] at hz;rcases hz with rfl|rfl|rfl<;>rfl
  generalize w3.drewN 1=wq at MR⊢
  refine bK (fun a W=>∃(u24 u25 u26 u27 u28 u29 u30 u31 u32:Value) (gb:Nat) (x9:Int) (D9:List KV) (F9:Nat→Prop),a=(Act.put (pts A [(24,u24),(25,u25),(26,u26),(27,u27),(28,u28),(29,u29),(30,u30),(31,u31),(32,u32),(12,.pointer (some ⟨gb,0,none⟩))]) none undef)∧(MidV w2 W F (fun b=>b=w.heap.size+1) p kn n D9 F9∧W.heap[w.heap.size+1]?=some (.cells pgZ 90 (0,0))∧W.heap[gb]?=some (.cells (bB c p q (IntKind.i64.wrap (x9-1))) 90 (0,0))∧w2.heap.size≤gb∧¬F9 gb)∧jk c.pg c.st q wd x9 kn D9=Rr) (fun W=>aC w F p kn (sT c p) Rr (.panicked (aY p)) W) (aY p) (fun a W hd h=>⟨hd,h⟩) (fun _ _ _ _ _ h=>h) ?_ ?_
  ·skip
   rintro a W9 ⟨u24,u25,u26,u27,u28,u29,u30,u31,u32,gb,x9,D9,F9,rfl,⟨m9,hz9,hb9,hgb,hnb⟩,hr⟩
   rw[←hA];try simp only[pts,List.foldl]
   have HNB:=hQQ hnb
   have HGB:=hQQ hgb
   have B9:=hQQ hb9
   have M9:=hQQ (And.intro m9 (And.intro hz9 hb9))
   clear HF hA MR KC m9 hz9 hb9 hgb hnb
   go_simp
   obtain⟨kk,hkk⟩:∃kk,IntKind.i64.wrap (x9-1)=kk:=⟨_,rfl⟩
   unfold jk at hr
   simp only[hkk] at hr M9 B9
   have hwkk:W64 kk:=by rw[←hkk];exact GZ _
   clear hkk
   obtain⟨c0,c25,c26⟩:=kQ B9.o
   go_wp2_with fail
   refine(C6 kk W9 (SZ.o _ _ _ M9.o.1)).mono ?_
   rintro e w10 ⟨rfl,h10⟩
   have M10:=hQQ (And.intro (M9.o.1.more h10) (And.intro (h10.block M9.o.2.1) (h10.block M9.o.2.2)))
   clear h10 c0 c25 c26
   obtain⟨c0,c25,c26⟩:=kQ M10.o.2.2
   by_cases hz:aw kk=0
   ·rw[if_pos hz] at hr
    have d0:(aw kk != 0)=false:=by simp[hz]
    have MZ:=M10.o.1.row (b:=w.heap.size+1) (fun _=>rfl) (M10.o.1.off HZL.o HNZ.o) pgZ M10.o.2.1
    have HZ:=setRow_heap _ (w.heap.size+1) pgZ pgZ _ _ M10.o.2.1
    obtain⟨wz,ez⟩:∃wz,World.setRow w10 (w.heap.size+1) pgZ=wz:=⟨_,rfl⟩
    have Z0:=hQQ M10.o.2.1
    rw[ez] at MZ HZ
    have FIN:=hQQ (DONE.o none wz D9 F9 (hr.symm) MZ)
    clear MZ
    go_wp2_with (first|(refine lW rfl rfl ?_)|(refine wpList_store_row rfl 90 _ _ rfl _ _ rfl rfl 90 _ Z0.o (by kernel_rfl) rfl (by kernel_rfl) ?_))
    refine bodyPost_ret (iR rfl _ _ (w.heap.size+1) 90 pgZ _ _ rfl HZ Tryz.underlying90 rfl (by kernel_rfl)) rfl ?_
    exact FIN.o
   rw[if_neg hz] at hr
   have d0:(aw kk != 0)=true:=by simpa using hz
   have hk4:=fd hz
   obtain⟨kn',rfl⟩:∃z:Nat,kk=(z:Int):=⟨kk.toNat,by omega⟩
   have hsb:=JQ (k:=kn') (by omega)
   have CS:=hQQ (fun(W:World) (hW:dg bt W)=>G5 (kn':Int) W hW)
   obtain⟨sz,hsz⟩:∃sz,szV (kn':Int)=sz:=⟨_,rfl⟩
   rw[hsz] at hr hsb CS
   have t1:wd.tmod sz=wd % sz:=Int.tmod_eq_emod_of_nonneg hwd.1
   have t2:wd.tdiv sz=wd / sz:=Int.tdiv_eq_ediv_of_nonneg hwd.1
   have t3:0≤wd % sz∧wd % sz<sz:=⟨Int.emod_nonneg _ (by omega),Int.emod_lt_of_pos _ (by omega)⟩
   have t4:0≤wd / sz∧wd / sz≤wd:=⟨Int.ediv_nonneg hwd.1 (by omega),Int.ediv_le_self _ hwd.1⟩
   have t5:IntKind.i64.wrap (wd / sz)=wd / sz:=aB (by omega) (by omega)
   have z0:(sz==0)=false:=by simp;omega
   have z1:decide (sz=0)=false:=by simp;omega
   have z2:(sz== -1)=false:=by simp;omega
   have z3:decide (sz= -1)=false:=by simp;omega
   have z4:¬sz=0:=by omega
   have z5:¬sz= -1:=by omega
   obtain⟨ix,hix⟩:∃ix,wd / sz=ix:=⟨_,rfl⟩
   obtain⟨mm,hmm⟩:∃mm,wd % sz=mm:=⟨_,rfl⟩
   rw[hix] at hr t2 t4 t5
   rw[hmm] at hr t1 t3
   have HIX:=hQQ t4
   have HW:=hQQ hwkk
   clear hz hk4 hsz hix hmm t4 t3 hwkk
   by_cases hm0:mm=0
   ·rw[if_neg (by simpa using hm0)] at hr
    have d1:(mm != 0)=false:=by simp[hm0]
    have RN:=hQQ hr
    clear hr
    go_wp2_with fail
    refine(CS.o w10 (SZ.o _ _ _ M10.o.1)).mono ?_
    rintro e w11 ⟨rfl,h11⟩
    have M11:=hQQ (And.intro (M10.o.1.more h11) (And.intro (h11.block M10.o.2.1) (h11.block M10.o.2.2)))
    clear h11 c0 c25 c26
    obtain⟨c0,c25,c26⟩:=kQ M11.o.2.2
    go_wp2_with fail
    refine(CS.o w11 (SZ.o _ _ _ M11.o.1)).mono ?_
    rintro e w9 ⟨rfl,h9⟩
    have M9:=hQQ (And.intro (M11.o.1.more h9) (And.intro (h9.block M11.o.2.1) (h9.block M11.o.2.2)))
    clear h9 c0 c25 c26 d0 d1 hm0 z0 z1 z2 z3 z4 z5 t1
    go_wp2_with fail
    generalize (kn':Int)=kk at M9 RN HW M11 M10 B9
    clear t2 t5 hsb M11 M10 B9 CS
    have MR:Hq (MidV w2 (w9.drewN 1) F (fun b=>b=w.heap.size+1) p kn n D9 F9∧(w9.drewN 1).heap[w.heap.size+1]?=some (.cells pgZ 90 (0,0))∧(w9.drewN 1).heap[gb]?=some (.cells (bB c p q kk) 90 (0,0))):=hQQ ⟨M9.o.1.more ((ae.refl w9).drewN 1),((ae.refl w9).drewN 1).block M9.o.2.1,((ae.refl w9).drewN 1).block M9.o.2.2⟩
    have KC:Hq (∀W D' F',MidV w2 W F (fun b=>b=w.heap.size+1) p kn n D' F'∧W.heap[w.heap.size+1]?=some (.cells pgZ 90 (0,0))∧W.heap[gb]?=some (.cells (bB c p q kk) 90 (0,0))→W.heap[gb]?=some (.cells (bB c p q kk) 90 (0,0))):=hQQ fun _ _ _ h=>h.2.2
    refine aR (fun W=>W.heap[gb]?=some (.cells (bB c p q kk) 90 (0,0))) (by kernel_rfl) ?_
    change dq _ _ _ _ _ _ _ _ (w9.drewN 1)
    generalize hA:Act.mk _ _=A
    have HF:AG 57 A [(6,.pointer (some ⟨w.heap.size+1,0,none⟩)),(12,.pointer (some ⟨gb,0,none⟩)),(13,.int .i64 ix)]:=by
     rw[←hA];try simp only[pts,List.foldl]
     refine⟨⟨Nat.le_of_ble_eq_true rfl,rfl⟩,?_⟩
     intro z hz;simp only[List.mem_cons,List.not_mem_nil,or_false] at hz;rcases hz with rfl|rfl|rfl<;>rfl
    generalize w9.drewN 1=wq at MR⊢
    refine bK (fun a W=>∃(u51 u52 u53 u55 u54 u56:Value) (x10:Int) (D10:List KV) (F10:Nat→Prop),a=(pts A [(51,u51),(52,u52),(53,u53),(55,u55),(54,u54),(56,u56),(7,.int .i64 ix),(8,.bool (eG x10 ix))])∧MidV w2 W F (fun b=>b=w.heap.size+1) p kn n D10 F10∧W.heap[w.heap.size+1]?=some (.cells (bB c p q kk) 90 (0,0))∧Rr=.ok (some (q,kk,ix,eG x10 ix)) D10) (fun W=>aC w F p kn (sT c p) Rr (.panicked (aY p)) W) (aY p) (fun a W hd h=>⟨hd,h⟩) (fun _ _ _ _ _ h=>h) ?_ ?_
    ·skip
     rintro a wa ⟨u51,u52,u53,u55,u54,u56,x10,D10,F10,rfl,MS,HS,hr⟩
     rw[←hA];try simp only[pts,List.foldl]
     have FIN:=hQQ (DONE.o (some (q,kk,ix,eG x10 ix)) wa D10 F10 hr MS)
     clear HF hA MR KC hr
     go_simp
     go_wp2_with fail
     refine bodyPost_ret (iR rfl _ _ (w.heap.size+1) 90 (bB c p q kk) _ _ rfl HS Tryz.underlying90 rfl (by kernel_rfl)) rfl ?_
     exact FIN.o
    intro QQ FINE FIND FINQ
    clear hA
    refine tqC 0 51 (.agg (bB c p q kk)) (by kernel_rfl) FINQ (KC.o _ _ _ MR.o) HF (by exact aF (ab rfl) 90 _ rfl gb (HF.get 1 rfl) 90 _ _ _ (fun W hW=>hW) Tryz.underlying90 rfl (by kernel_rfl)) fun A hB1_51 HF=>?_
    refine tqM 1 52 3 rfl (.inl rfl) rfl (by kernel_rfl) FINQ (KC.o _ _ _ MR.o) HF fun A hB2_52 HF=>?_
    refine tqC 2 53 (.agg (bB c p q kk)) (by kernel_rfl) FINQ (KC.o _ _ _ MR.o) HF (by exact aF (ab rfl) 90 _ rfl gb (HF.get 3 rfl) 90 _ _ _ (fun W hW=>hW) Tryz.underlying90 rfl (by kernel_rfl)) fun A hB3_53 HF=>?_
    refine tqM 4 55 5 rfl (.inl rfl) rfl (by kernel_rfl) FINQ (KC.o _ _ _ MR.o) HF fun A hB4_55 HF=>?_
    refine az (i:=3) (some 54) (by kernel_rfl) rfl (ab rfl) rfl (fun K hK=>?_)
    refine sC (v0:=.agg (bB c p q kk)) rfl (HF.get 1 rfl) (enters_of Tryz.func82 (by kernel_rfl) rfl) ?_
    refine(GM HR.o HH.o.toPgIn F9 p kn D9 q kk hn HQ.o wq MR.o.1.view HK.o MR.o.1.inv).mono ?_
    intro e w10 he
    rcases MR.o.1.step (ae.refl _) HK.o (bu n PB.o.2.2.2.1) he with⟨a',hE,rfl,hd',ht',_⟩|⟨x10,D10,F10,hE,rfl,M10',hq10,hk10,hf10⟩
    ·exact FIND _ _ HF.1.2 (NEED.o a' w10 (RN.o.symm.trans (ah hE)) hd' ht')
    have R10:=hQQ (RN.o.symm.trans (ak hE))
    have nz10:¬F10 (w.heap.size+1):=M10'.off HZL.o HNZ.o
    have M10:Hq (MidV w2 w10 F (fun b=>b=w.heap.size+1) p kn n D10 F10∧w10.heap[w.heap.size+1]?=some (.cells pgZ 90 (0,0))∧w10.heap[gb]?=some (.cells (bB c p q kk) 90 (0,0))):=hQQ ⟨M10',hk10 _ _ (MR.o.1.off HZL.o HNZ.o) MR.o.2.1,hk10 _ _ HNB.o MR.o.2.2⟩
    clear he hE hk10 hf10
    refine hK _ _ (KC.o _ _ _ M10.o) ?_
    clear hK K
    replace HF:=HF.put 54 (.int .i64 x10) (by decide) rfl
    generalize hB5_54:Act.put _ _ _=A at HF⊢
    refine az (i:=5) (some 56) (by kernel_rfl) rfl (ab rfl) rfl (fun K hK=>?_)
    refine bI (v0:=.int .i64 x10) (v1:=.int .i64 ix) rfl (HF.get 0 rfl) (HF.get 1 rfl) (enters_of Tryz.func81 (by kernel_rfl) rfl) ?_
    refine(K7 x10 ix w10).mono ?_
    rintro e w11 ⟨rfl,rfl⟩
    refine hK _ _ (KC.o _ _ _ M10.o) ?_
    clear hK K
    replace HF:=HF.put 56 (.bool (eG x10 ix)) (by decide) rfl
    generalize hB6_56:Act.put _ _ _=A at HF⊢
    refine az (i:=6) none (by kernel_rfl) rfl (ab rfl) rfl (fun K hK=>?_)
    refine wp_store_row 90 _ _ rfl (w.heap.size+1) _ (HF.get 6 rfl) (HF.get 5 rfl) 90 pgZ M10.o.2.1 (by kernel_rfl) rfl (qj ..) ?_
    have MS:=M10.o.1.row (b:=w.heap.size+1) (fun _=>rfl) nz10 (bB c p q kk) M10.o.2.1
    have HS1:=setRow_heap _ (w.heap.size+1) pgZ (bB c p q kk) _ _ M10.o.2.1
    have HS2:=oh (cs:=bB c p q kk) M10.o.2.2 (show gb≠w.heap.size+1 by have:=HGB.o;have:=HZL.o;omega)
    refine hK _ _ HS2 ?_
    clear hK K
    rw[show ∀(a:Act) (v:Value),a.put none v=a from fun _ _=>rfl]
    generalize World.setRow _ _ _=wz at MS HS1 HS2⊢
    have HS2H:=hQQ HS2
    refine aG (i:=7) (v:=.int .i64 ix) (some 7) rfl rfl (by kernel_rfl) (by kernel_rfl) (by kernel_rfl) (fun c a w=>FINQ c a _ _ w) (HS2H.o) (by exact cy (ab rfl) _ rfl (HF.get 4 rfl)) ?_
    replace HF:=HF.put 7 (.int .i64 ix) (by decide) rfl
    generalize hB7_7:Act.put _ _ _=A at HF⊢
    refine aG (i:=8) (v:=.bool (eG x10 ix)) (some 8) rfl rfl (by kernel_rfl) (by kernel_rfl) (by kernel_rfl) (fun c a w=>FINQ c a _ _ w) (HS2H.o) (by exact cy (ab rfl) _ rfl (HF.get 1 rfl)) ?_
    replace HF:=HF.put 8 (.bool (eG x10 ix)) (by decide) rfl
    generalize hB8_8:Act.put _ _ _=A at HF⊢
    exact bQ (by kernel_rfl) (FINE _ _ ⟨(.agg (bB c p q kk)),(.int .i64 ix),(.agg (bB c p q kk)),(.int .i64 ix),(.int .i64 x10),(.bool (eG x10 ix)),x10,D10,F10,by rw[←hB8_8,←hB7_7,←hB6_56,←hB5_54,←hB4_55,←hB3_53,←hB2_52,←hB1_51]<;>rfl,MS,HS1,R10.o⟩)
   ·rw[if_pos (by simpa using hm0)] at hr
    have d1:(mm != 0)=true:=by simpa using hm0
    go_wp2_with fail
    refine(CS.o w10 (SZ.o _ _ _ M10.o.1)).mono ?_
    rintro e w11 ⟨rfl,h11⟩
    have M11:=hQQ (And.intro (M10.o.1.more h11) (And.intro (h11.block M10.o.2.1) (h11.block M10.o.2.2)))
    clear h11 c0 c25 c26
    have MZ:=M11.o.1.row (b:=w.heap.size+1) (fun _=>rfl) (M11.o.1.off HZL.o HNZ.o) pgZ M11.o.2.1
    have HZ:=setRow_heap _ (w.heap.size+1) pgZ pgZ _ _ M11.o.2.1
    obtain⟨wz,ez⟩:∃wz,World.setRow w11 (w.heap.size+1) pgZ=wz:=⟨_,rfl⟩
    have Z0:=hQQ M11.o.2.1
    rw[ez] at MZ HZ
    have FIN:=hQQ (DONE.o none wz D9 F9 (hr.symm) MZ)
    clear MZ
    go_wp2_with (first|(refine lW rfl rfl ?_)|(refine wpList_store_row rfl 90 _ _ rfl _ _ rfl rfl 90 _ Z0.o (by kernel_rfl) rfl (by kernel_rfl) ?_))
    refine bodyPost_ret (iR rfl _ _ (w.heap.size+1) 90 pgZ _ _ rfl HZ Tryz.underlying90 rfl (by kernel_rfl)) rfl ?_
    exact FIN.o
  intro QQ FINE FIND FINQ
  clear hA
  refine tqM 0 24 0 rfl (.inl rfl) rfl (by kernel_rfl) FINQ (KC.o _ _ _ MR.o) HF fun A hB1_24 HF=>?_
  refine tqC 1 25 (.agg c.arr) (by kernel_rfl) FINQ (KC.o _ _ _ MR.o) HF (by exact aF (ab rfl) 28 _ rfl w.heap.size (HF.get 2 rfl) 28 _ _ _ (fun W hW=>hW) Tryz.underlying28 rfl (by kernel_rfl)) fun A hB2_25 HF=>?_
  refine tqM 2 26 4 rfl (.inl rfl) rfl (by kernel_rfl) FINQ (KC.o _ _ _ MR.o) HF fun A hB3_26 HF=>?_
  refine tqM 3 27 3 rfl (.inl rfl) rfl (by kernel_rfl) FINQ (KC.o _ _ _ MR.o) HF fun A hB4_27 HF=>?_
  refine tqC 4 28 (.agg c.arr) (by kernel_rfl) FINQ (KC.o _ _ _ MR.o) HF (by exact aF (ab rfl) 28 _ rfl w.heap.size (HF.get 5 rfl) 28 _ _ _ (fun W hW=>hW) Tryz.underlying28 rfl (by kernel_rfl)) fun A hB5_28 HF=>?_
  refine tqM 5 29 7 rfl (.inl rfl) rfl (by kernel_rfl) FINQ (KC.o _ _ _ MR.o) HF fun A hB6_29 HF=>?_
  refine j3 (i:=6) (j:=9) (some 30) (some 12) (by kernel_rfl) rfl rfl (ab rfl) (ab rfl) rfl rfl (fun K hK=>?_) (fun K hK=>?_)
  ·refine dP (v0:=.pointer (some ⟨p,0,none⟩)) (v1:=.agg c.arr) (v2:=.int .i64 q) rfl (HF.get 2 rfl) (HF.get 1 rfl) (HF.get 0 rfl) (enters_of Tryz.func51 (by kernel_rfl) rfl) ?_
   refine(sL HR.o HH.o.toPgIn F p kn D q wq MR.o.1.view HK.o MR.o.1.inv).mono ?_
   intro e w7 he
   rcases MR.o.1.step (ae.refl _) HK.o (gh HH.o.toPgIn _) he with⟨a',hE,rfl,hd',ht',_⟩|⟨x6,D6,F6,hE,rfl,M6',hq6,hk6,hf6⟩
   ·exact FIND _ _ HF.1.2 (NEED.o a' w7 (HRr.o.symm.trans (ah hE)) hd' ht')
   have R6:=hQQ ((ak hE).symm.trans HRr.o)
   have M6:Hq (MidV w2 w7 F (fun b=>b=w.heap.size+1) p kn n D6 F6∧w7.heap[w.heap.size+1]?=some (.cells pgZ 90 (0,0))):=hQQ ⟨M6',hk6 _ _ HNZ.o MR.o.2⟩
   clear he hE hk6 hf6
   refine hK _ _ (KC.o _ _ _ M6.o) ?_
   clear hK K
   replace HF:=HF.put 30 (.int .i64 x6) (by decide) rfl
   generalize hB7_30:Act.put _ _ _=A at HF⊢
   refine tqC 7 31 (.int .i64 (IntKind.i64.wrap (x6-1))) (by kernel_rfl) FINQ (KC.o _ _ _ M6.o) HF (by exact pk (ab rfl) rfl (HF.get 0 rfl) rfl _ rfl) fun A hB8_31 HF=>?_
   refine tqC 8 32 (.agg (bB c p q (IntKind.i64.wrap (x6-1)))) (by kernel_rfl) FINQ (KC.o _ _ _ M6.o) HF (by exact pl (ab rfl) _ _ _ _ rfl c p q (IntKind.i64.wrap (x6-1)) (HF.get 7 rfl) (HF.get 6 rfl) (HF.get 5 rfl) (HF.get 0 rfl)) fun A hB9_32 HF=>?_
   refine az (i:=9) (some 12) (by kernel_rfl) rfl (ab rfl) rfl (fun K hK=>?_)
   refine nL rfl ?_
   obtain⟨w8,e8,h8,m8⟩:=vv w7
   rw[e8]
   clear e8
   have M8:Hq (MidV w2 w8 F (fun b=>b=w.heap.size+1) p kn n D6 F6∧w8.heap[w.heap.size+1]?=some (.cells pgZ 90 (0,0))):=hQQ ⟨M6.o.1.more m8,m8.block M6.o.2⟩
   have nb:¬F6 w7.heap.size:=fun z=>by have:=M6.o.1.view.lt _ z;omega
   have lb:=M6.o.1.size
   refine hK _ _ (KC.o _ _ _ M8.o) ?_
   clear hK K
   replace HF:=HF.put 12 (.pointer (some ⟨w7.heap.size,0,none⟩)) (by decide) rfl
   generalize hB10_12:Act.put _ _ _=A at HF⊢
   refine mQ (i:=10) (by kernel_rfl) (by kernel_rfl) rfl (ab rfl) (fun K hK=>?_)
   refine wp_store_row 90 _ _ rfl (w7.heap.size) _ (HF.get 0 rfl) (HF.get 1 rfl) 90 pgZ h8 (by kernel_rfl) rfl (qj ..) ?_
   have MS:=M8.o.1.row (b:=w7.heap.size) (fun q=>by omega) nb (bB c p q (IntKind.i64.wrap (x6-1))) h8
   have HS1:=setRow_heap _ (w7.heap.size) pgZ (bB c p q (IntKind.i64.wrap (x6-1))) _ _ h8
   have HS2:=oh (cs:=bB c p q (IntKind.i64.wrap (x6-1))) M8.o.2 (show w.heap.size+1≠w7.heap.size by omega)
   refine hK _ _ (KC.o _ _ _ ⟨MS,HS2⟩) (FINE _ _ ⟨(.pointer (some ⟨p,0,none⟩)),(.agg c.arr),(.int .i64 q),(.pointer (some ⟨p,0,none⟩)),(.agg c.arr),(.int .i64 q),(.int .i64 x6),(.int .i64 (IntKind.i64.wrap (x6-1))),(.agg (bB c p q (IntKind.i64.wrap (x6-1)))),w7.heap.size,x6,D6,F6,?_,⟨MS,HS2,HS1,lb,nb⟩,R6.o⟩)
   rw[←hB10_12,←hB9_32,←hB8_31,←hB7_30,←hB6_29,←hB5_28,←hB4_27,←hB3_26,←hB2_25,←hB1_24];rfl
  ·refine nL rfl ?_
   obtain⟨w7,e7,h7,m7⟩:=vv wq
   rw[e7]
   clear e7
   have M7:Hq (MidV w2 w7 F (fun b=>b=w.heap.size+1) p kn n D F∧w7.heap[w.heap.size+1]?=some (.cells pgZ 90 (0,0))):=hQQ ⟨MR.o.1.more m7,m7.block MR.o.2⟩
   have nb:¬F wq.heap.size:=fun z=>by have:=MR.o.1.view.lt _ z;omega
   have lb:=MR.o.1.size
   refine hK _ _ (KC.o _ _ _ M7.o) ?_
   clear hK K
   replace HF:=HF.put 12 (.pointer (some ⟨wq.heap.size,0,none⟩)) (by decide) rfl
   generalize hB7_12:Act.put _ _ _=A at HF⊢
   refine az (i:=6) (some 30) (by kernel_rfl) rfl (ab rfl) rfl (fun K hK=>?_)
   refine dP (v0:=.pointer (some ⟨p,0,none⟩)) (v1:=.agg c.arr) (v2:=.int .i64 q) rfl (HF.get 3 rfl) (HF.get 2 rfl) (HF.get 1 rfl) (enters_of Tryz.func51 (by kernel_rfl) rfl) ?_
   refine(sL HR.o HH.o.toPgIn F p kn D q w7 M7.o.1.view HK.o M7.o.1.inv).mono ?_
   intro e w8 he
   rcases M7.o.1.step (ae.refl _) HK.o (gh HH.o.toPgIn _) he with⟨a',hE,rfl,hd',ht',_⟩|⟨x6,D6,F6,hE,rfl,M6',hq6,hk6,hf6⟩
   ·exact FIND _ _ HF.1.2 (NEED.o a' w8 (HRr.o.symm.trans (ah hE)) hd' ht')
   have R6:=hQQ ((ak hE).symm.trans HRr.o)
   have M6:Hq (MidV w2 w8 F (fun b=>b=w.heap.size+1) p kn n D6 F6∧w8.heap[w.heap.size+1]?=some (.cells pgZ 90 (0,0))):=hQQ ⟨M6',hk6 _ _ HNZ.o M7.o.2⟩
   have h8:=hk6 _ _ nb h7
   have nb8:¬F6 wq.heap.size:=fun z=>by rcases hf6 _ z with q|q;exact nb q;have:=ac h7;omega
   clear he hE hk6 hf6
   refine hK _ _ (KC.o _ _ _ M6.o) ?_
   clear hK K
   replace HF:=HF.put 30 (.int .i64 x6) (by decide) rfl
   generalize hB8_30:Act.put _ _ _=A at HF⊢
   refine tqC 7 31 (.int .i64 (IntKind.i64.wrap (x6-1))) (by kernel_rfl) FINQ (KC.o _ _ _ M6.o) HF (by exact pk (ab rfl) rfl (HF.get 0 rfl) rfl _ rfl) fun A hB9_31 HF=>?_
   refine tqC 8 32 (.agg (bB c p q (IntKind.i64.wrap (x6-1)))) (by kernel_rfl) FINQ (KC.o _ _ _ M6.o) HF (by exact pl (ab rfl) _ _ _ _ rfl c p q (IntKind.i64.wrap (x6-1)) (HF.get 8 rfl) (HF.get 7 rfl) (HF.get 6 rfl) (HF.get 0 rfl)) fun A hB10_32 HF=>?_
   refine mQ (i:=10) (by kernel_rfl) (by kernel_rfl) rfl (ab rfl) (fun K hK=>?_)
   refine wp_store_row 90 _ _ rfl (wq.heap.size) _ (HF.get 3 rfl) (HF.get 0 rfl) 90 pgZ h8 (by kernel_rfl) rfl (qj ..) ?_
   have MS:=M6.o.1.row (b:=wq.heap.size) (fun q=>by omega) nb8 (bB c p q (IntKind.i64.wrap (x6-1))) h8
   have HS1:=setRow_heap _ (wq.heap.size) pgZ (bB c p q (IntKind.i64.wrap (x6-1))) _ _ h8
   have HS2:=oh (cs:=bB c p q (IntKind.i64.wrap (x6-1))) M6.o.2 (show w.heap.size+1≠wq.heap.size by omega)
   refine hK _ _ (KC.o _ _ _ ⟨MS,HS2⟩) (FINE _ _ ⟨(.pointer (some ⟨p,0,none⟩)),(.agg c.arr),(.int .i64 q),(.pointer (some ⟨p,0,none⟩)),(.agg c.arr),(.int .i64 q),(.int .i64 x6),(.int .i64 (IntKind.i64.wrap (x6-1))),(.agg (bB c p q (IntKind.i64.wrap (x6-1)))),wq.heap.size,x6,D6,F6,?_,⟨MS,HS2,HS1,lb,nb8⟩,R6.o⟩)
   rw[←hB10_32,←hB9_31,←hB8_30,←hB7_12,←hB6_29,←hB5_28,←hB4_27,←hB3_26,←hB2_25,←hB1_24,xb (i:=12) (j:=30) (by decide),xb (i:=12) (j:=31) (by decide),xb (i:=12) (j:=32) (by decide)];rfl
 ·rw[if_neg hin] at hRr
  have PL:=hQQ (Ag HR.o w2 ad (by unfold Cfg.us at hin;show ad<fI c.cp c.pg c.st c.ca c.bi∨fI c.cp c.pg c.st c.ca c.bi+32 * c.pg≤ad;omega))
  have PL:=hQQ (show Calls Tryz.prog 79 #[.agg c.arr,.int .i64 ad] w2 (aU w2 (.tuple #[.int .i64 0,.int .i64 0,.bool false])) from PL.o)
  clear hin
  go_enter Tryz.func44,Tryz.ntmps44
  go_wp2_with (refine af rfl 28 _ rfl _ rfl 28 _ _ _ L2.o Tryz.underlying28 rfl (by kernel_rfl) ?_)
  refine PL.o.mono ?_
  rintro e w3 ⟨rfl,h3⟩
  have M3:=hQQ (And.intro (M0.o.1.more h3) (h3.block M0.o.2))
  clear h3
  have MZ:=M3.o.1.row (b:=w.heap.size+1) (fun _=>rfl) (M3.o.1.off HZL.o HNZ.o) pgZ M3.o.2
  have HZ:=setRow_heap _ (w.heap.size+1) pgZ pgZ _ _ M3.o.2
  obtain⟨wz,ez⟩:∃wz,World.setRow w3 (w.heap.size+1) pgZ=wz:=⟨_,rfl⟩
  have Z0:=hQQ M3.o.2
  rw[ez] at MZ HZ
  have FIN:=hQQ (DONE.o none wz D F (hRr.symm) MZ)
  clear MZ
  go_wp2_with (first|(refine lW rfl rfl ?_)|(refine wpList_store_row rfl 90 _ _ rfl _ _ rfl rfl 90 _ Z0.o (by kernel_rfl) rfl (by kernel_rfl) ?_))
  refine bodyPost_ret (iR rfl _ _ (w.heap.size+1) 90 pgZ _ _ rfl HZ Tryz.underlying90 rfl (by kernel_rfl)) rfl ?_
  exact FIN.o
end Go.Proofs.YtddmeghbmdfgeaaGreatDoor
