/-
  Layer 14's statements: whose step it is, and which of the blocks that were told is meant.
-/
import Derived.Test.YtddmeghbmdfgeaaGreatDoorFlAq
import Derived.Test.YtddmeghbmdfgeaaGreatDoorFlAp
import Derived.IntWalk
import Derived.Test.YtddmeghbmdfgeaaGreatDoorFlAg
import Derived.Test.YtddmeghbmdfgeaaGreatDoorFlAm
set_option maxRecDepth 100000
set_option maxHeartbeats 8000000
set_option linter.unusedVariables false
set_option linter.unusedSimpArgs false
set_option linter.unusedSectionVars false
namespace Go.Proofs.YtddmeghbmdfgeaaGreatDoor
open Go.RowKit Go.Shelf
theorem IC (w:World):BlR w.heap.size (w.alloc (.cells #[] 48)) (.slice (some ⟨w.heap.size,0,none⟩) 0 0) [] :=
 ⟨rfl,.inr ⟨_,0,_,rfl,Nat.le_refl _,bh w _,Nat.le_refl _,by simp[maxLen],rfl,rfl⟩⟩
theorem BlR.own {base:Nat}{w:World}{v:Value}{its:List Bl}(h:BlR base w v its):∀k,v.ownBlock=some k→base≤k:=by
 intro k q
 rcases h.2 with⟨rfl,_⟩|⟨g,cap,cur,rfl,hb,_⟩
 ·cases q
 ·cases q;exact hb
theorem BlR.lt {base:Nat}{w:World}{v:Value}{its:List Bl}(h:BlR base w v its):∀k,v.ownBlock=some k→k<w.heap.size:=by
 intro k q
 rcases h.2 with⟨rfl,_⟩|⟨g,cap,cur,rfl,_,hb,_⟩
 ·cases q
 ·cases q;exact ac hb
theorem nQ {w w':World}{base:Nat}{v:Value}{its:List Bl}(h:BlR base w v its){S:Nat→Prop}(t:Turned S w w')(hs:∀k,v.ownBlock=some k→¬S k):BlR base w' v its:=by
 refine⟨h.1,?_⟩
 rcases h.2 with q|⟨g,cap,cur,rfl,h2,h3,h4⟩
 ·exact .inl q
 ·exact .inr ⟨g,cap,cur,rfl,h2,(t.block g (ac h3) (hs g rfl)).trans h3,h4⟩
theorem rj {w w1 w2:World}{S T:Nat→Prop}(m:Turned S w w1)(t:Turned T w1 w2)(hs:∀k,T k→w.heap.size≤k):Turned S w w2 :=
 ⟨t.os.trans m.os,t.tape.trans m.tape,t.output.trans m.output,Nat.le_trans m.size t.size,fun k hk q=>by
  rw[t.block k (Nat.lt_of_lt_of_le hk m.size) (fun z=>by have:=hs k z;omega)];exact m.block k hk q⟩
theorem ru {P:Program}(w:World)(s off:Nat)(ty:TypeId)(v0 v1:Value)(d:TypeDesc)(h0:w.cell? ⟨s,off,none⟩=some v0)(h1:w.cell? ⟨s,off+1,none⟩=some v1)
 (hu:P.underlying ty=some d) (hd:(match d with| .struct _| .array _ _=>true|_=>false)=true) (hi:(P.info? ty).map (·.size)=some 2):
 (loadVar ty ⟨s,off,none⟩).run P w=.ok (.agg #[v0,v1]) w:=by
 have hl:(loadCells ⟨s,off,none⟩ [v0,v1].length).run P w=.ok [v0,v1].toArray w :=
  run_loadCells_list (P:=P) w ⟨s,off,none⟩ [v0,v1] (fun j v hv=>by
   rw[iZ]
   match j,hv with
   | 0,hv=>cases hv;exact h0
   | 1,hv=>cases hv;exact h1
   |j+2,hv=>simp at hv)
 cases hq:P.info? ty with
 |none=>simp[hq] at hi
 |some i =>
  have hs:i.size=2:=by simpa [hq] using hi
  have hagg:(isAgg ty).run P w=.ok true w:=by
   unfold isAgg
   rw[Sem.run_bind,run_underlying hu w]
   cases d<;>simp_all
  simp only[List.length_cons,List.length_nil,Nat.reduceAdd] at hl
  simp[loadVar,Sem.run_bind,hagg,sizeOf,typeInfo,hq,hs,hl]
theorem zK {P:Program}{ops:Array Oper}{C:World→Prop}{o:Oper}{a:Act}(hw:Region.wanted o (yielded ops a.tmps)=true)(ty:TypeId)(x:Operand)(ho:o.op=.load ty x)
 (s off:Nat) (hx:a.eval x=.pointer (some ⟨s,off,none⟩)) (v0 v1:Value) (d:TypeDesc) (hg:∀W,C W→W.cell? ⟨s,off,none⟩=some v0∧W.cell? ⟨s,off+1,none⟩=some v1)
 (hu:P.underlying ty=some d) (hd:(match d with| .struct _| .array _ _=>true|_=>false)=true) (hi:(P.info? ty).map (·.size)=some 2):bT P ops C o (.agg #[v0,v1]) a:=by
 refine .inl ⟨hw,fun W hW=>?_⟩
 obtain⟨h0,h1⟩:=hg W hW
 unfold execOp
 simp only[ho,hx,Instr.loadAt,Instr.sureAddr,Sem.run_bind,Sem.run_pure,Result.andThen_ok,ru W s off ty v0 v1 d h0 h1 hu hd hi]
theorem zL {w w1 w2:World}{S:Nat→Prop}(m:ae w w1)(t:Turned S w1 w2)(hs:∀k,S k→w.heap.size≤k):ae w w2 :=
 ⟨t.os.trans m.os,t.tape.trans m.tape,t.output.trans m.output,Nat.le_trans m.size t.size,fun k hk _=>by
  rw[t.block k (Nat.lt_of_lt_of_le hk m.size) (fun q=>by have:=hs k q;omega)];exact Turned.block m k hk (fun q=>q)⟩
theorem BN (x:Int):0≤IntKind.u64.wrap x:=sy x
def wkV (x:Int):Int:=IntKind.u64.wrap x % 2
theorem Mp (x:Int):wkV x=0∨wkV x=1:=by unfold wkV;omega
theorem Og (x:Int):wrap64 ((IntKind.u64.wrap x).tmod 2)=wkV x:=by
 rw[Int.tmod_eq_emod_of_nonneg (BN x)]
 unfold wrap64 wkV;omega
theorem Ff (k x u c m:Int)(w:World):Calls Tryz.prog 38 #[.agg #[.int .i64 k,.int .i64 x,.int .i64 u,.int .i64 c,.int .i64 m]] w (aU w (.int .i64 (wkV x))):=by
 obtain⟨w1,e1,hl1,m1,s1⟩:=en1 w (.cells #[.int .i64 k,.int .i64 x,.int .i64 u,.int .i64 c,.int .i64 m] 77)
 have c1:w1.cell? ⟨w.heap.size,1,none⟩=some (.int .i64 x):=by simp[World.cell?,hl1]
 have M1:=hQQ m1
 have hw:=hQQ (Og x)
 clear hl1 m1
 go_enter Tryz.func38,Tryz.ntmps38
 go_wp2_with fail
 rw[hw.o]
 refine bodyPost_ret (v:=.int .i64 (wkV x)) (by simp[results,Tryz.results38,go_sem]) rfl ⟨rfl,M1.o⟩
def xz (b:Nat)(w:World)(its:List Bl)(val:Value→Value)(e:Ending)(w':World):Prop:=∃v,e=.returned (val v)∧BlR b w' v its∧ae w w'
def nthI (k:Int)(n:Nat):Nat:=(IntKind.u64.wrap k % (n:Int)).toNat
theorem Kh (k:Int){n:Nat}(h:0<n):nthI k n<n:=by
 have h1:=Int.emod_nonneg (IntKind.u64.wrap k) (show(n:Int)≠0 by omega)
 have h2:=Int.emod_lt_of_pos (IntKind.u64.wrap k) (show 0<(n:Int) by omega)
 unfold nthI;omega
theorem Mq (k:Int){n:Nat}(h:0<n)(h':n≤1000000):IntKind.i64.wrap ((IntKind.u64.wrap k).tmod (n:Int))=(nthI k n:Int):=by
 have h1:=Int.emod_nonneg (IntKind.u64.wrap k) (show(n:Int)≠0 by omega)
 have h2:=Int.emod_lt_of_pos (IntKind.u64.wrap k) (show 0<(n:Int) by omega)
 rw[Int.tmod_eq_emod_of_nonneg (BN k),IntWalk.i64_in _ (by omega)]
 unfold nthI;omega
theorem Mr (v:Value)(k:Int)(w:World)(h:BlR 0 w v []):Calls Tryz.prog 39 #[v,.int .i64 k] w (xz 0 w [] (fun v=> .tuple #[.agg #[.int .i64 0,.int .i64 0],v,.bool false])):=by
 obtain⟨w1,e1,hl1,m1,s1⟩:=en1 w (.cells #[.int .i64 0,.int .i64 0] 48)
 have L1:=hQQ hl1
 have M1:=hQQ m1
 have HP:=hQQ (h.more m1)
 have HT:=h.lt
 obtain⟨av,cv,rfl,_,_,_⟩:=h.at
 simp only[List.length_nil] at HP HT⊢
 have FIN:Hq (∀W,ae w1 W→xz 0 w [] (fun v=> .tuple #[.agg #[.int .i64 0,.int .i64 0],v,.bool false]) (.returned (.tuple #[.agg #[.int .i64 0,.int .i64 0],.slice av 0 cv,.bool false])) (W.setRow w.heap.size #[.int .i64 0,.int .i64 0])):=hQQ fun W hW =>
  ⟨_,rfl,nQ (base:=0) (HP.o.more hW) (S:=fun k=>k=w.heap.size) (Turned.setRow (Turned.refl _ W) _ _ (fun _=>rfl)) (fun k q z=>by
    subst z
    have:=HT _ q
    omega),(M1.o.trans hW).setRow _ _ (by omega)⟩
 clear hl1 m1 h s1 HT
 go_enter Tryz.func39,Tryz.ntmps39
 go_wp2_with (refine wpList_store_row rfl 48 _ _ rfl _ _ rfl rfl 48 _ L1.o (by kernel_rfl) rfl (by simp[Value.oneCell']) ?_)
 refine bodyPost_ret (v:=.tuple #[.agg #[.int .i64 0,.int .i64 0],.slice av 0 cv,.bool false]) (rI Tryz.results39 _ _ _ 48 _ (0,0) _ rfl (setRow_heap _ _ _ _ _ _ L1.o) Tryz.underlying48 rfl (by kernel_rfl)) rfl (FIN.o _ (ae.refl _))
theorem Ki (v:Value)(its:List Bl)(k x y:Int)(w:World)(h:BlR 0 w v its)(hl:its.length≤100000)(hm:its[nthI k its.length]?=some (x,y)):
 Calls Tryz.prog 39 #[v,.int .i64 k] w (xz w.heap.size w (its.take (nthI k its.length)++its.drop (nthI k its.length+1)) (fun v=> .tuple #[.agg #[.int .i64 x,.int .i64 y],v,.bool true])):=by
 obtain⟨wr,e1,hl1,m1,s1⟩:=en1 w (.cells #[.int .i64 0,.int .i64 0] 48)
 have BR:=hQQ hl1
 have M1:=hQQ m1
 have HP:=hQQ (h.more m1)
 have HT:=h.lt
 obtain⟨av,cv,rfl,hnc,_,hr⟩:=(h.more m1).at
 obtain⟨m,hmm⟩:∃m,nthI k its.length=m:=⟨_,rfl⟩
 obtain⟨its',hits'⟩:∃its',its.take m++its.drop (m+1)=its':=⟨_,rfl⟩
 rw[hmm] at hm⊢
 rw[hits']
 have hmn:m<its.length:=(List.getElem?_eq_some_iff.1 hm).1
 have hrem:=Mq k (n:=its.length) (by omega) (by omega)
 rw[hmm] at hrem
 obtain⟨g,rfl,cc1,cc2⟩:=hr m _ hm
 simp only at cc1 cc2
 have hcv:g<w.heap.size:=HT g rfl
 have CA:Hq (∀i x,(blCells its)[i]?=some x→wr.cell? ⟨g,i,none⟩=some x):=hQQ (by
  obtain⟨a,cap,hv,_,_,hc⟩:=HP.o.reads
  cases hv
  intro i x hi
  exact(hc _ rfl).2 i x hi)
 have EI:=hQQ hits'
 have LL:=hQQ hl
 obtain⟨n,hn⟩:∃n,its.length=n:=⟨_,rfl⟩
 have HN:=hQQ hn
 rw[hn] at hmn hnc hrem
 rw[hn]
 have hmc:m≤cv:=by omega
 have HG:=hQQ hcv
 have S1:=hQQ s1
 have KW:Hq (∀W,Turned (fun b=>b=w.heap.size) wr W→∀i x,wr.cell? ⟨g,i,none⟩=some x→W.cell? ⟨g,i,none⟩=some x):=hQQ fun W hW i x hi=>by
  rw[World.cell?_of_block (w:=wr) (Turned.block hW g (by have:=S1.o;have:=HG.o;omega) (by have:=HG.o;omega))]
  exact hi
 have C1:=hQQ cc1
 have C2:=hQQ cc2
 have KX:Hq (∀W,Turned (fun b=>b=w.heap.size) wr W→W.cell? ⟨g,m * 2,none⟩=some (.int .i64 x)∧W.cell? ⟨g,m * 2+1,none⟩=some (.int .i64 y)):=hQQ fun W hW=>⟨KW.o W hW _ _ C1.o,KW.o W hW _ _ C2.o⟩
 have SL:Hq (∀W,Turned (fun b=>b=w.heap.size) wr W→zJ W (.slice (some ⟨g,0,none⟩) m cv) (its.take m)):=hQQ fun W hW=>BI (fun i x hi=>KW.o W hW _ _ (CA.o i x hi)) (by have:=HN.o;omega)
 have SH:Hq (∀W,Turned (fun b=>b=w.heap.size) wr W→zJ W (.slice (some (hiB g m cv)) (n-(m+1)) (cv-(m+1))) (its.drop (m+1))):=hQQ fun W hW=>by
  have:=BJ (c:=cv-(m+1)) (fun i x hi=>KW.o W hW _ _ (CA.o i x hi)) (m:=m) (cv:=cv) (by have:=HN.o;omega) (by have:=HN.o;omega)
  rwa [HN.o] at this
 have FN:Hq (∀v9 wa,BlR w.heap.size wa v9 its'→Turned (fun b=>b=w.heap.size) wr wa→xz w.heap.size w its' (fun v=> .tuple #[.agg #[.int .i64 x,.int .i64 y],v,.bool true]) (.returned (.tuple #[.agg #[.int .i64 x,.int .i64 y],v9,.bool true])) wa):=hQQ fun v9 wa ir t=>⟨v9,rfl,ir,zL M1.o t (fun k q=>by omega)⟩
 have LW:Hq (w.heap.size≤wr.heap.size):=hQQ (by omega)
 have QW:Hq (IntKind.i64.wrap ((m:Int)+1)=(m:Int)+1):=hQQ (IntWalk.i64_in _ (by have:=LL.o;have:=HN.o;omega))
 have un:IntKind.u64.wrap (n:Int)=n:=IntWalk.u64_in _ (by omega)
 have n0:((n:Int)==0)=false:=by simp;omega
 have n1:decide ((n:Int)=0)=false:=by simp;omega
 have n2:(n:Int)≠0:=by omega
 clear hl1 m1 h s1 hr hl hn HP hits' hmm hm cc1 cc2 HT hcv
 go_enter Tryz.func39,Tryz.ntmps39
 go_wp2_with fail
 refine aR (fun W=>Turned (fun b=>b=w.heap.size) wr W) (by kernel_rfl) ?_
 change dq _ _ _ _ _ _ _ _ (wr.drewN 1)
 have MR:Hq (Turned (fun b=>b=w.heap.size) wr (wr.drewN 1)):=hQQ ((Turned.refl _ wr).drewN 1)
 have BQ:Hq ((wr.drewN 1).heap[w.heap.size]?=some (.cells #[.int .i64 0,.int .i64 0] 48 (0,0))):=hQQ BR.o
 generalize wr.drewN 1=wq at MR BQ⊢
 generalize hA:Act.mk _ _=A
 have HF:AG 34 A [(0,.slice (some ⟨g,0,none⟩) n cv),(4,.pointer (some ⟨w.heap.size,0,none⟩)),(7,.int .i64 (m:Int))]:=by
  rw[←hA];try simp only[pts,List.foldl]
  refine⟨⟨Nat.le_of_ble_eq_true rfl,rfl⟩,?_⟩
  intro z hz;simp only[List.mem_cons,List.not_mem_nil,or_false] at hz;rcases hz with rfl|rfl|rfl<;>rfl
 refine bK (fun a W=>a.eval (.tmp 4)=.pointer (some ⟨w.heap.size,0,none⟩)∧a.eval (.tmp 6)=.bool true∧a.defers= []∧∃v,a.eval (.tmp 5)=v∧BlR w.heap.size W v its'∧W.heap[w.heap.size]?=some (.cells #[.int .i64 x,.int .i64 y] 48 (0,0))∧Turned (fun b=>b=w.heap.size) wr W) (fun _=>False) [] (fun a W hd h=>h.elim) (fun _ _ _ _ _ h=>h) ?_ ?_
 ·skip
  rintro a9 wa ⟨hp,hs,hd,v9,hx,ir,hg,MS⟩
  have FIN:=hQQ (FN.o v9 wa ir MS)
  have HG:=hQQ hg
  clear HF hA MR ir MS hg
  obtain⟨ts,ds⟩:=a9
  simp only[Act.eval] at hs hx hp
  obtain rfl:ds= []:=hd
  go_wp2_with fail
  refine bodyPost_ret (v:=.tuple #[.agg #[.int .i64 x,.int .i64 y],v9,.bool true]) ((rI Tryz.results39 _ _ _ 48 _ (0,0) _ hp HG.o Tryz.underlying48 rfl (by kernel_rfl)).trans (by rw[hx,hs])) rfl FIN.o
 intro QQ FINE FIND FINQ
 clear hA
 refine tqM 0 20 0 rfl (.inl rfl) rfl (by kernel_rfl) FINQ MR.o HF fun A hB1_20 HF=>?_
 refine tqM 1 21 3 rfl (.inl rfl) rfl (by kernel_rfl) FINQ MR.o HF fun A hB2_21 HF=>?_
 refine tqC 2 22 (.pointer (some ⟨g,m * 2,none⟩)) (by kernel_rfl) FINQ MR.o HF (by exact uH (ab rfl) rfl (HF.get 1 rfl) (HF.get 0 rfl) hmn) fun A hB3_22 HF=>?_
 refine tqC 3 23 (.agg #[.int .i64 x,.int .i64 y]) (by kernel_rfl) FINQ MR.o HF (by exact zK (ab rfl) 48 _ rfl g (m * 2) (HF.get 0 rfl) (.int .i64 x) (.int .i64 y) _ (fun W hW=>KX.o W hW) Tryz.underlying48 rfl (by kernel_rfl)) fun A hB4_23 HF=>?_
 refine tqM 5 25 4 rfl (.inl rfl) rfl (by kernel_rfl) FINQ MR.o HF fun A hB5_25 HF=>?_
 refine tqM 6 26 7 rfl (.inl rfl) rfl (by kernel_rfl) FINQ MR.o HF fun A hB6_26 HF=>?_
 refine tqC 7 27 (.slice (some ⟨g,0,none⟩) m cv) (by kernel_rfl) FINQ MR.o HF (by exact uF (ab rfl) rfl (HF.get 1 rfl) (HF.get 0 rfl) hmc) fun A hB7_27 HF=>?_
 refine tqM 9 29 7 rfl (.inl rfl) rfl (by kernel_rfl) FINQ MR.o HF fun A hB8_29 HF=>?_
 refine tqM 10 30 10 rfl (.inl rfl) rfl (by kernel_rfl) FINQ MR.o HF fun A hB9_30 HF=>?_
 refine tqC 11 31 (.int .i64 ((m:Int)+1)) (by kernel_rfl) FINQ MR.o HF (by exact gw (ab rfl) rfl (HF.get 0 rfl) rfl _ QW.o) fun A hB10_31 HF=>?_
 refine tqC 12 32 (.slice (some (hiB g m cv)) (n-(m+1)) (cv-(m+1))) (by kernel_rfl) FINQ MR.o HF (by exact uG (ab rfl) rfl (HF.get 2 rfl) (HF.get 0 rfl) hmn hnc) fun A hB11_32 HF=>?_
 refine az (i:=4) (some 24) (by kernel_rfl) rfl (ab rfl) rfl (fun K hK=>?_)
 refine Kg rfl ?_
 have M1:Hq (Turned (fun b=>b=w.heap.size) wr (wq.alloc (.cells #[] 48))):=hQQ (MR.o.alloc _)
 have Z1:=hQQ (IC wq)
 have B1:=hQQ (((ae.refl wq).alloc (.cells #[] 48)).block BQ.o)
 refine hK _ _ M1.o ?_
 clear hK K
 replace HF:=HF.put 24 (.slice (some ⟨wq.heap.size,0,none⟩) 0 0) (by decide) rfl
 generalize hB12_24:Act.put _ _ _=A at HF⊢
 refine az (i:=8) (some 28) (by kernel_rfl) rfl (ab rfl) rfl (fun K hK=>?_)
 refine xy _ _ rfl (HF.get 0 rfl) Z1.o (by simp) (HF.get 5 rfl) (SL.o _ M1.o) (by have:=LL.o;simp;omega) ?_
 intro v2 w2 r2 t2 k2
 obtain⟨a2,c2,hv2,_⟩:=r2.reads
 subst hv2
 have M2:Hq (Turned (fun b=>b=w.heap.size) wr w2):=hQQ (rj M1.o t2 (fun k q=>by have:=Z1.o.own k q;have:=MR.o.size;omega))
 have R2:Hq (BlR wq.heap.size w2 (.slice a2 ([]++its.take m).length c2) (its.take m)):=hQQ r2
 have G2:Hq (wq.heap.size≤w2.heap.size):=hQQ (by have:=t2.size;simp at this;omega)
 have B2:Hq (w2.heap[w.heap.size]?=some (.cells #[.int .i64 0,.int .i64 0] 48 (0,0))):=hQQ ((t2.block _ (ac B1.o) (fun q=>by have:=Z1.o.own _ q;have:=ac BQ.o;omega)).trans B1.o)
 refine hK _ _ M2.o ?_
 clear hK K r2 t2 k2
 replace HF:=HF.put 28 (.slice a2 ([]++its.take m).length c2) (by decide) rfl
 generalize hB13_28:Act.put _ _ _=A at HF⊢
 refine az (i:=13) (some 33) (by kernel_rfl) rfl (ab rfl) rfl (fun K hK=>?_)
 refine xy _ _ rfl (HF.get 0 rfl) R2.o (G2.o) (HF.get 2 rfl) (SH.o _ M2.o) (by have:=LL.o;simp;omega) ?_
 intro v3 w3 r3 t3 k3
 obtain⟨a3,c3,hv3,_⟩:=r3.reads
 subst hv3
 have M3:Hq (Turned (fun b=>b=w.heap.size) wr w3):=hQQ (rj M2.o t3 (fun k q=>by have:=R2.o.own k q;have:=MR.o.size;omega))
 have R3:Hq (BlR wq.heap.size w3 (.slice a3 (its.take m++its.drop (m+1)).length c3) its'):=hQQ (by rw[←EI.o];exact r3)
 have B3:Hq (w3.heap[w.heap.size]?=some (.cells #[.int .i64 0,.int .i64 0] 48 (0,0))):=hQQ ((t3.block _ (ac B2.o) (fun q=>by have:=R2.o.own _ q;have:=ac BQ.o;omega)).trans B2.o)
 have N3:Hq (∀k,Value.ownBlock (.slice a3 (its.take m++its.drop (m+1)).length c3)=some k→wq.heap.size≤k):=hQQ fun k q=>R3.o.own k q
 refine hK _ _ M3.o ?_
 clear hK K r3 t3 k3
 replace HF:=HF.put 33 (.slice a3 (its.take m++its.drop (m+1)).length c3) (by decide) rfl
 generalize hB14_33:Act.put _ _ _=A at HF⊢
 obtain⟨n3,hn3⟩:∃n3,(its.take m++its.drop (m+1)).length=n3:=⟨_,rfl⟩
 rw[hn3] at HF R3 N3
 clear hn3
 have M4:Hq (Turned (fun b=>b=w.heap.size) wr (w3.setRow (w.heap.size) #[.int .i64 x,.int .i64 y])):=hQQ (Turned.setRow M3.o _ _ (fun _=>rfl))
 have tS:Turned (fun k=>k=w.heap.size) w3 (w3.setRow (w.heap.size) #[.int .i64 x,.int .i64 y]):=Turned.setRow (Turned.refl _ w3) _ _ (fun _=>rfl)
 have R4:Hq (BlR wq.heap.size (w3.setRow (w.heap.size) #[.int .i64 x,.int .i64 y]) (.slice a3 n3 c3) its'):=hQQ (nQ R3.o tS (fun k q z=>by have:=N3.o k q;have:=ac BQ.o;omega))
 refine az (i:=14) none (by kernel_rfl) rfl (ab rfl) rfl (fun K hK=>?_)
 refine wp_store_row 48 _ _ rfl (w.heap.size) #[.int .i64 x,.int .i64 y] (HF.get 15 rfl) (HF.get 10 rfl) 48 _ B3.o (by kernel_rfl) rfl (by simp[Value.oneCell']) ?_
 refine hK _ _ M4.o ?_
 clear hK K
 replace HF:=HF.skipO undef
 generalize hBN:Act.put _ _ _=A at HF⊢
 refine tqM 15 5 0 rfl (.inr rfl) rfl (by kernel_rfl) FINQ M4.o HF fun A hB15_5 HF=>?_
 refine tqC 16 6 (.bool true) (by kernel_rfl) FINQ M4.o HF (by exact cy (ab rfl) _ rfl rfl) fun A hB16_6 HF=>?_
 exact bQ (by kernel_rfl) (FINE _ _ ⟨HF.get 17 rfl,HF.get 0 rfl,HF.1.2,_,HF.get 1 rfl,R4.o.low (Nat.le_trans LW.o MR.o.size),setRow_heap _ _ _ _ _ _ B3.o,M4.o⟩)
open Go.ChangeShapes Go.WideShapes Go.ChangeAt Go.Joins Go.Deep
abbrev fY:=Int×Int×Int×Int×Int
def Ms (l:List fY):Prop:=∀i∈l,W64 i.1∧W64 i.2.1∧W64 i.2.2.1∧W64 i.2.2.2.1∧W64 i.2.2.2.2
def fZ (w:World)(a:Option Addr)(l:List fY):Prop :=
 l= []∨∃s o,a=some ⟨s,o,none⟩∧s<w.heap.size∧∀i t,l[i]?=some t→w.cell? ⟨s,o+i * 5,none⟩=some (.int .i64 t.1)∧w.cell? ⟨s,o+i * 5+1,none⟩=some (.int .i64 t.2.1)∧w.cell? ⟨s,o+i * 5+2,none⟩=some (.int .i64 t.2.2.1)∧w.cell? ⟨s,o+i * 5+3,none⟩=some (.int .i64 t.2.2.2.1)∧w.cell? ⟨s,o+i * 5+4,none⟩=some (.int .i64 t.2.2.2.2)
theorem fZ.keep {w w':World}{a:Option Addr}{l:List fY}(h:fZ w a l){S:Nat→Prop}(t:Turned S w w')(hs:l≠ []→∀k,im a k→¬S k):fZ w' a l:=by
 rcases h with h|⟨s,o,rfl,hl,hc⟩
 ·exact .inl h
 ·by_cases e:l= []
  ·exact .inl e
  ·exact .inr ⟨s,o,rfl,Nat.lt_of_lt_of_le hl t.size,fun i u hi=>by
    obtain⟨c0,c1,c2,c3,c4⟩:=hc i u hi
    exact⟨eh t (hs e s rfl) c0,eh t (hs e s rfl) c1,eh t (hs e s rfl) c2,eh t (hs e s rfl) c3,eh t (hs e s rfl) c4⟩⟩
theorem fZ.more {w w':World}{a:Option Addr}{l:List fY}(h:fZ w a l)(t:ae w w'):fZ w' a l:=h.keep t (fun _ _ _ q=>q)
theorem fZ.lt {w:World}{a:Option Addr}{l:List fY}(h:fZ w a l)(hne:l≠ []):∀b,im a b→b<w.heap.size:=fun b hb=>by
 obtain⟨s,o,rfl,hs,_⟩:=h.resolve_left hne
 have:s=b:=by simpa [im] using hb
 omega
section
variable {H:Type}{enc:TypeId×Value→H}{P:Program}{w:World}{base:Nat}{spare:Nat→Bool}{held:Bool}
theorem xA {t:TypeId}{f0 f1 f2 f3 f4:Field}{fuel:Nat}{cs:List Value}{x:DataW H×List MemPlace}(ht:P.underlying t=some (.struct #[f0,f1,f2,f3,f4]))(h:DataW.trod enc P w base spare held fuel t cs=some x):
 ∃y0 y1 y2 y3 y4 n,cs.length=P.cellsOf t∧DataW.trod enc P w base spare held n f0.type ((cs.drop f0.offset).take (P.cellsOf f0.type))=some y0∧DataW.trod enc P w base spare held n f1.type ((cs.drop f1.offset).take (P.cellsOf f1.type))=some y1∧DataW.trod enc P w base spare held n f2.type ((cs.drop f2.offset).take (P.cellsOf f2.type))=some y2∧DataW.trod enc P w base spare held n f3.type ((cs.drop f3.offset).take (P.cellsOf f3.type))=some y3∧DataW.trod enc P w base spare held n f4.type ((cs.drop f4.offset).take (P.cellsOf f4.type))=some y4:=by
 obtain⟨xs,n,_,rfl,hl,hlen,hf⟩:=DataW.trod_struct ht h
 match xs,hlen with
 | [y0,y1,y2,y3,y4],_=>exact⟨y0,y1,y2,y3,y4,n,hl,by simpa using hf 0 f0 rfl,by simpa using hf 1 f1 rfl,by simpa using hf 2 f2 rfl,by simpa using hf 3 f3 rfl,by simpa using hf 4 f4 rfl⟩
theorem Fg {t e:TypeId}{f0 f1 f2 f3 f4:Field}{a:Option Addr}{len cap:Nat}{d:DataW H}{p:List MemPlace}(ht:P.underlying t=some (.slice e))(hs:P.underlying e=some (.struct #[f0,f1,f2,f3,f4]))(hone:oneCellFields P #[f0,f1,f2,f3,f4]=true)(hC:P.cellsOf e=5)
 (u0:P.underlying f0.type=some (.int .i64)) (u1:P.underlying f1.type=some (.int .i64)) (u2:P.underlying f2.type=some (.int .i64)) (u3:P.underlying f3.type=some (.int .i64)) (u4:P.underlying f4.type=some (.int .i64))
 (h:DataW.Trod enc P w base spare held t (.slice a len cap) d p):∃l:List fY,l.length=len∧fZ w a l∧Ms l∧l.length≤9223372036854775807:=by
 obtain⟨fuel,hf⟩:=h
 have zero:∀n,len=n→n=0→∃l:List fY,l.length=len∧fZ w a l∧Ms l∧l.length≤9223372036854775807:=fun n h0 h1=>⟨[],by rw[h0,h1];rfl,.inl rfl,(fun p hp=>by cases hp),by simp⟩
 rcases open_slice ht hf with⟨hcs,_⟩|⟨x,l,c,m,n,D,Pl,hcs,_,hl,hm,hmm,_,hi⟩
 ·simp[Value.cells] at hcs
  obtain⟨rfl,rfl,rfl⟩:=hcs
  exact zero _ rfl rfl
 ·simp[Value.cells] at hcs
  obtain⟨rfl,rfl,rfl⟩:=hcs
  have key:∀i,i<len→∃g:fY,w.cell? (x.add (i * 5))=some (.int .i64 g.1)∧w.cell? (x.add (i * 5+1))=some (.int .i64 g.2.1)∧w.cell? (x.add (i * 5+2))=some (.int .i64 g.2.2.1)∧w.cell? (x.add (i * 5+3))=some (.int .i64 g.2.2.2.1)∧w.cell? (x.add (i * 5+4))=some (.int .i64 g.2.2.2.2)∧W64 g.1∧W64 g.2.1∧W64 g.2.2.1∧W64 g.2.2.2.1∧W64 g.2.2.2.2:=by
   intro i hil
   obtain⟨cs',hc,ht'⟩:=hi i (by have:=hmm;split at this<;>omega)
   rw[hC] at hc
   obtain⟨_,hcl,hat⟩:=World.cells?_some hc
   obtain⟨c0,c1,c2,c3,c4,rfl⟩:∃c0 c1 c2 c3 c4,cs'= [c0,c1,c2,c3,c4]:=by
    match cs',hcl with
    | [c0,c1,c2,c3,c4],_=>exact⟨c0,c1,c2,c3,c4,rfl⟩
   obtain⟨y0,y1,y2,y3,y4,n',_,h0,h1,h2,h3,h4⟩:=xA hs ht'
   obtain⟨o0,k0⟩:=hone_of hone 0 f0 rfl
   obtain⟨o1,k1⟩:=hone_of hone 1 f1 rfl
   obtain⟨o2,k2⟩:=hone_of hone 2 f2 rfl
   obtain⟨o3,k3⟩:=hone_of hone 3 f3 rfl
   obtain⟨o4,k4⟩:=hone_of hone 4 f4 rfl
   rw[o0,k0] at h0;rw[o1,k1] at h1;rw[o2,k2] at h2;rw[o3,k3] at h3;rw[o4,k4] at h4
   obtain⟨x0,e0,_,w0⟩:=DataW.trod_int u0 h0
   obtain⟨x1,e1,_,w1⟩:=DataW.trod_int u1 h1
   obtain⟨x2,e2,_,w2⟩:=DataW.trod_int u2 h2
   obtain⟨x3,e3,_,w3⟩:=DataW.trod_int u3 h3
   obtain⟨x4,e4,_,w4⟩:=DataW.trod_int u4 h4
   simp at e0 e1 e2 e3 e4
   subst e0 e1 e2 e3 e4
   have a0:=hat 0 (by omega)
   have a1:=hat 1 (by omega)
   have a2:=hat 2 (by omega)
   have a3:=hat 3 (by omega)
   have a4:=hat 4 (by omega)
   rw[Go.Deep.add_add] at a0 a1 a2 a3 a4
   exact⟨(x0,x1,x2,x3,x4),a0,a1,a2,a3,a4,xZ w0,xZ w1,xZ w2,xZ w3,xZ w4⟩
  by_cases h0:len=0
  ·exact zero _ rfl h0
  ·obtain⟨s,o,spot⟩:=x
   obtain⟨g0,hg0,_⟩:=key 0 (by omega)
   have hspot:spot=none:=by simpa [Addr.add] using World.cell?_spot hg0
   subst hspot
   have hF:∀i,∃g:fY,i<len→w.cell? ⟨s,o+i * 5,none⟩=some (.int .i64 g.1)∧w.cell? ⟨s,o+i * 5+1,none⟩=some (.int .i64 g.2.1)∧w.cell? ⟨s,o+i * 5+2,none⟩=some (.int .i64 g.2.2.1)∧w.cell? ⟨s,o+i * 5+3,none⟩=some (.int .i64 g.2.2.2.1)∧w.cell? ⟨s,o+i * 5+4,none⟩=some (.int .i64 g.2.2.2.2)∧W64 g.1∧W64 g.2.1∧W64 g.2.2.1∧W64 g.2.2.2.1∧W64 g.2.2.2.2:=by
    intro i
    by_cases hil:i<len
    ·obtain⟨g,hg⟩:=key i hil
     exact⟨g,fun _=>by simp only[Nat.add_assoc];simp only[←EG];exact hg⟩
    ·exact⟨(0,0,0,0,0),fun q=>absurd q hil⟩
   have hm':cap≤9223372036854775807:=by unfold maxLen at hm;exact hm
   have hspec:=fun i hil=>Classical.choose_spec (hF i) hil
   refine⟨(List.range len).map fun i=>Classical.choose (hF i),by simp,.inr ⟨s,o,rfl,eQ (hspec 0 (by omega)).1,fun i t ht=>?_⟩,fun t ht=>?_,by simp;omega⟩
   ·obtain⟨hil,rfl⟩:=Hk ht
    have q:=hspec i hil
    exact⟨q.1,q.2.1,q.2.2.1,q.2.2.2.1,q.2.2.2.2.1⟩
   ·obtain⟨i,hi',rfl⟩:=List.mem_map.1 ht
    exact(hspec i (by simpa using hi')).2.2.2.2.2
end
theorem fZ.range {w:World}{s o:Nat}{l:List fY}(h:fZ w (some ⟨s,o,none⟩) l){j:Nat}{t:fY}(hj:l[j]?=some t):∀i v,([Value.int .i64 t.1,Value.int .i64 t.2.1,Value.int .i64 t.2.2.1,Value.int .i64 t.2.2.2.1,Value.int .i64 t.2.2.2.2]:List Value)[i]?=some v→w.cell? ⟨s,o+j * 5+i,none⟩=some v:=by
 rcases h with e|⟨s',o',e,_,hc⟩
 ·rw[e] at hj;simp at hj
 ·simp at e
  obtain⟨rfl,rfl⟩:=e
  obtain⟨c0,c1,c2,c3,c4⟩:=hc j t hj
  intro i v hv
  match i,hv with
  | 0,hv=>cases hv;exact c0
  | 1,hv=>cases hv;exact c1
  | 2,hv=>cases hv;exact c2
  | 3,hv=>cases hv;exact c3
  | 4,hv=>cases hv;exact c4
  |i+5,hv=>simp at hv
open Go.Sort Go.Maps
def oC (d:Cfg)(u c:Int):Prop:=0≤c∧c<5∧0≤u∧u<d.cp
instance (d:Cfg)(u c:Int):Decidable (oC d u c):=by unfold oC;infer_instance
def frM (d:Cfg):Nat:=(if d.ba-1≤d.pr then d.ba-1 else d.pr).toNat
def tkW (d:Cfg)(u:Int)(P:Nat→List Int)(c:Int)(ws:List Int):((Int×Bool)×(Nat→List Int))×List Int :=
 if oC d u c then my d.us d.pg d.st (famC d) (5 * u.toNat+c.toNat) (5 * d.cp.toNat+c.toNat) c.toNat d.pr (frM d) P ws else(((0,false),P),ws)
def gvW (d:Cfg)(u:Int)(P:Nat→List Int)(c a:Int)(ws:List Int):(Nat→List Int)×List Int :=
 if oC d u c then vI d.us d.pg d.st (famC d) (5 * u.toNat+c.toNat) (5 * d.cp.toNat+c.toNat) c.toNat d.pr d.ba.toNat a P ws else(P,ws)
structure FSt where
 P0:Nat→List Int
 P1:Nat→List Int
 O:List Bl
def FSt.at (s:FSt)(x:Int):Nat→List Int:=if wkV x=0 then s.P0 else s.P1
def FSt.put (s:FSt)(x:Int)(P:Nat→List Int):FSt:=if wkV x=0 then⟨P,s.P1,s.O⟩ else⟨s.P0,P,s.O⟩
def FSt.out (s:FSt)(O:List Bl):FSt:=⟨s.P0,s.P1,O⟩
def FSt.all (s:FSt):List Bl:=puO s.P0++(puO s.P1++s.O)
def gq (d:Cfg)(u:Int):Int:=IntKind.u64.wrap u % d.cp
def pE (d:Cfg)(t:fY)(s:FSt)(ws:List Int):FSt×List Int :=
 if t.1=0∨t.1=1 then
  (((s.put t.2.1 (tkW d (gq d t.2.2.1) (s.at t.2.1) t.2.2.2.1 ws).1.2).out (if(tkW d (gq d t.2.2.1) (s.at t.2.1) t.2.2.2.1 ws).1.1.2 then s.O++ [((tkW d (gq d t.2.2.1) (s.at t.2.1) t.2.2.2.1 ws).1.1.1,t.2.2.2.1)] else s.O)),(tkW d (gq d t.2.2.1) (s.at t.2.1) t.2.2.2.1 ws).2)
 else if t.1=2∨t.1=3 then
  match s.O[nthI t.2.2.2.2 s.O.length]? with
  |none=>(s,ws)
  |some b=>(((s.put t.2.1 (gvW d (gq d t.2.2.1) (s.at t.2.1) b.2 b.1 ws).1).out (s.O.take (nthI t.2.2.2.2 s.O.length)++s.O.drop (nthI t.2.2.2.2 s.O.length+1))),(gvW d (gq d t.2.2.1) (s.at t.2.1) b.2 b.1 ws).2)
 else if t.1=4 then(s.put t.2.1 (fun _=> []),qr d.us d.pg d.st (s.at t.2.1) ws)
 else if t.1=5 then(s,ox d.us d.pg d.st (famC d) (famC d).m ws)
 else(s,ws)
def gI (d:Cfg):List fY→FSt→List Int→FSt×List Int
 | [],s,ws=>(s,ws)
 |t::l,s,ws=>gI d l (pE d t s ws).1 (pE d t s ws).2
structure FrS (d:Cfg)(n:Nat)(s:FSt)(ws:List Int):Prop where
 fri:∃C,FrI d.us d.pg d.st n (famC d) ws C s.all
 lim:(∀j,j<5→((s.P0 j).length:Int)≤d.pr)∧∀j,j<5→((s.P1 j).length:Int)≤d.pr
def FSt.oth (s:FSt)(x:Int):List Bl:=if wkV x=0 then puO s.P1 else puO s.P0
theorem FSt.perm (s:FSt)(x:Int):s.all.Perm (puO (s.at x)++(s.oth x++s.O)):=by
 unfold FSt.all FSt.at FSt.oth
 rcases Mp x with e|e
 ·simp only[e,if_true];exact List.Perm.refl _
 ·simp only[e,show ¬((1:Int)=0) by omega,if_false]
  rw[←List.append_assoc,←List.append_assoc]
  exact List.perm_append_comm.append_right _
theorem FSt.perm2 (s:FSt)(x:Int)(P:Nat→List Int)(O:List Bl):((s.put x P).out O).all.Perm (puO P++(s.oth x++O)):=by
 unfold FSt.all FSt.put FSt.out FSt.oth
 rcases Mp x with e|e
 ·simp only[e,if_true];exact List.Perm.refl _
 ·simp only[e,show ¬((1:Int)=0) by omega,if_false]
  rw[←List.append_assoc,←List.append_assoc]
  exact List.perm_append_comm.append_right _
theorem FSt.out_same (s:FSt)(x:Int)(P:Nat→List Int):(s.put x P).out s.O=s.put x P:=by
 unfold FSt.put FSt.out;split<;>rfl
theorem FSt.lim_at {d:Cfg}{s:FSt}(h:(∀j,j<5→((s.P0 j).length:Int)≤d.pr)∧∀j,j<5→((s.P1 j).length:Int)≤d.pr)(x:Int):∀j,j<5→((s.at x j).length:Int)≤d.pr:=by
 unfold FSt.at
 split
 ·exact h.1
 ·exact h.2
theorem FSt.lim_put {d:Cfg}{s:FSt}(h:(∀j,j<5→((s.P0 j).length:Int)≤d.pr)∧∀j,j<5→((s.P1 j).length:Int)≤d.pr)(x:Int){P:Nat→List Int}(hP:∀j,j<5→((P j).length:Int)≤d.pr)(O:List Bl):(∀j,j<5→((((s.put x P).out O).P0 j).length:Int)≤d.pr)∧∀j,j<5→((((s.put x P).out O).P1 j).length:Int)≤d.pr:=by
 unfold FSt.put FSt.out
 split
 ·exact⟨hP,h.2⟩
 ·exact⟨h.1,hP⟩
section
variable {d:Cfg}(R:d.Ok){n:Nat}(H:cH d.pg d.st n)(hw:(n:Int)=d.words)(hn:n≤10000)
include R H hw hn
theorem Ds:0≤d.us∧d.us+32 * d.pg≤1000000:=by
 have hb:=oL R
 have e:d.words=d.us+32 * d.pg:=rfl
 have e2:d.us=fI d.cp d.pg d.st d.ca d.bi:=rfl
 omega
theorem Kj {u c:Int}(P:Nat→List Int)(hP:∀j,j<5→((P j).length:Int)≤d.pr){ws:List Int}{C:Nat→List Int}{O:List Bl}(h:FrI d.us d.pg d.st n (famC d) ws C (puO P++O)):
 tkW d u P c ws=(((0,false),P),ws)∨∃a P' X C',tkW d u P c ws=(((a,true),P'),X)∧FrI d.us d.pg d.st n (famC d) X C' (puO P'++((a,c)::O))∧∀j,j<5→((P' j).length:Int)≤d.pr:=by
 unfold tkW
 split
 ·rename_i q
  obtain⟨q0,q1,q2,q3⟩:=q
  obtain⟨a1,_,_,a4⟩:=iX (d:=d) (u:=u.toNat) (c:=c.toNat) (by omega) (by omega)
  obtain⟨b1,_,_,b4⟩:=ni (d:=d) (c:=c.toNat) (by have:=R.cp1;omega) (by omega)
  have hm:((frM d:Nat):Int)≤d.pr:=by have:=R.pr1;have:=R.ba1;unfold frM;split<;>omega
  rcases Im H (ow R hw) hn (Ds R H hw hn) a1 b1 (k:=c.toNat) (by omega) a4 b4 d.pr (frM d) hm P hP h with e|⟨a,P',X,C',e,h',hl⟩
  ·exact .inl e
  ·refine .inr ⟨a,P',X,C',e,?_,hl⟩
   rw[show((c.toNat:Nat):Int)=c by omega] at h'
   exact h'
 ·exact .inl rfl
theorem Kk {u c a:Int}(hu:0≤u∧u<d.cp)(P:Nat→List Int)(hP:∀j,j<5→((P j).length:Int)≤d.pr){ws:List Int}{C:Nat→List Int}{O:List Bl}(h:FrI d.us d.pg d.st n (famC d) ws C (puO P++((a,c)::O))):
 ∃P' X C',gvW d u P c a ws=(P',X)∧FrI d.us d.pg d.st n (famC d) X C' (puO P'++O)∧∀j,j<5→((P' j).length:Int)≤d.pr:=by
 obtain⟨G,W⟩:=h.pgs
 obtain⟨_,_,c0,c4,_⟩:=Ij H W ((h.acc a c).2 (by simp))
 unfold gvW
 rw[if_pos ⟨c0,by omega,hu.1,hu.2⟩]
 obtain⟨a1,_,_,a4⟩:=iX (d:=d) (u:=u.toNat) (c:=c.toNat) (by omega) (by omega)
 obtain⟨b1,_,_,b4⟩:=ni (d:=d) (c:=c.toNat) (by have:=R.cp1;omega) (by omega)
 refine Ip H (ow R hw) hn (Ds R H hw hn) a1 b1 (k:=c.toNat) (by omega) a4 b4 R.pr1 (by have:=R.ba1;omega) P hP (C:=C) ?_
 rw[show((c.toNat:Nat):Int)=c by omega]
 exact h
theorem Mt (u:Int):0≤gq d u∧gq d u<d.cp:=by
 have:=R.cp1
 exact⟨Int.emod_nonneg _ (by omega),Int.emod_lt_of_pos _ (by omega)⟩
theorem BO (t:fY){s:FSt}{ws:List Int}(h:FrS d n s ws):FrS d n (pE d t s ws).1 (pE d t s ws).2:=by
 obtain⟨⟨C,hC⟩,hl⟩:=h
 have hS:=ow R hw
 obtain⟨kind,x,u,c,m⟩:=t
 have hC1:=hC.perm (s.perm x)
 have hlx:=FSt.lim_at hl x
 unfold pE
 simp only
 split
 ·rcases Kj R H hw hn (u:=gq d u) (c:=c) (s.at x) hlx hC1 with e|⟨a,P',X,C',e,h',hl'⟩
  ·rw[e]
   refine⟨⟨C,?_⟩,FSt.lim_put hl x hlx _⟩
   simp only[Bool.false_eq_true,if_false]
   exact hC1.perm (s.perm2 x _ _).symm
  ·rw[e]
   refine⟨⟨C',?_⟩,FSt.lim_put hl x hl' _⟩
   simp only[if_true]
   refine h'.perm (List.Perm.trans ?_ (s.perm2 x _ _).symm)
   refine List.Perm.append_left _ ?_
   rw[←List.append_assoc]
   exact List.perm_append_comm (l₁:=[(a,c)])
 ·split
  ·split
   ·exact⟨⟨C,hC⟩,hl⟩
   ·rename_i b hb
    have hm:=List.getElem?_eq_some_iff.1 hb
    have hO:s.O.Perm (b::(s.O.take (nthI m s.O.length)++s.O.drop (nthI m s.O.length+1))):=by
     have e1:s.O=s.O.take (nthI m s.O.length)++b::s.O.drop (nthI m s.O.length+1):=by
      obtain⟨hlt,hv⟩:=hm
      rw[←hv,←List.drop_eq_getElem_cons hlt,List.take_append_drop]
     exact(List.Perm.of_eq e1).trans List.perm_middle
    obtain⟨ba,bc⟩:=b
    have h2:FrI d.us d.pg d.st n (famC d) ws C (puO (s.at x)++((ba,bc)::(s.oth x++(s.O.take (nthI m s.O.length)++s.O.drop (nthI m s.O.length+1))))):=hC1.perm (List.Perm.append_left _ ((hO.append_left _).trans List.perm_middle))
    obtain⟨P',X,C',e,h',hl'⟩:=Kk R H hw hn (Mt R H hw hn u) (s.at x) hlx h2
    simp only
    rw[e]
    exact⟨⟨C',h'.perm (s.perm2 x _ _).symm⟩,FSt.lim_put hl x hl' _⟩
  ·split
   ·simp only
    rw[←s.out_same x (fun _=> [])]
    refine⟨⟨C,?_⟩,FSt.lim_put hl x (P:=fun _=> []) (fun j _=>by have:=R.pr1;simp;omega) s.O⟩
    refine(Fd H hS hn (s.at x) hC1).perm ?_
    exact(s.perm2 x (fun _=> []) s.O).symm
   ·split
    ·obtain⟨C',h',_⟩:=Fe H hS hn hC
     exact⟨⟨C',h'⟩,hl⟩
    ·exact⟨⟨C,hC⟩,hl⟩
theorem rk:∀(l:List fY) {s:FSt} {ws:List Int},FrS d n s ws→FrS d n (gI d l s ws).1 (gI d l s ws).2
 | [],_,_,h=>h
 |t::l,_,_,h=>rk l (BO R H hw hn t h)
theorem Fh:FrS d n ⟨fun _=> [],fun _=> [],[]⟩ (cO n):=
 ⟨⟨_,EZ R H hw d.us⟩,fun j _=>by have:=R.pr1;simp;omega,fun j _=>by have:=R.pr1;simp;omega⟩
end
def dr (d:Cfg)(P:Nat→List Int):Prop:=∀j,j<5→((P j).length:Int)≤d.pr∧∀a∈P j,W64 a
theorem dr.nil {d:Cfg}(R:d.Ok):dr d (fun _=> []):=fun j _=>⟨by have:=R.pr1;simp;omega,fun a ha=>by cases ha⟩
structure uI (d:Cfg)(n bt:Nat) where
 tkP:Int→(Nat→List Int)→Int→Prg ((Int×Bool)×(Nat→List Int))
 gvP:Int→(Nat→List Int)→Int→Int→Prg (Unit×(Nat→List Int))
 flP:(Nat→List Int)→Prg (Unit×(Nat→List Int))
 drP:Prg Unit
 tkS:∀u P c,bH (tkP u P c)
 gvS:∀u P c a,bH (gvP u P c a)
 flS:∀P,bH (flP P)
 drS:bH drP
 tkG:∀u P c,dr d P→bV n (fun x=>W64 x.1.1∧dr d x.2) (tkP u P c)
 gvG:∀u P c a,dr d P→W64 a→bV n (fun x=>dr d x.2) (gvP u P c a)
 flG:∀P,dr d P→bV n (fun x=>x.2=fun _=> []) (flP P)
 drG:bV n (fun _=>True) drP
 tkF:∀u P c,dr d P→bR n (tkP u P c) (tkW d u P c)
 gvF:∀u P c a,dr d P→W64 a→bR n (gvP u P c a) (fun ws=>(((),(gvW d u P c a ws).1),(gvW d u P c a ws).2))
 flF:∀P,dr d P→bR n (flP P) (fun ws=>(((),fun _=> []),qr d.us d.pg d.st P ws))
 drF:bR n drP (fun ws=>((),ox d.us d.pg d.st (famC d) (famC d).m ws))
 tkC:∀(F N:Nat→Prop) (p:Nat) (kn:Int→Option Int) (D:List KV) (w:World) (u c:Int) (f:Nat→Value) (P:Nat→List Int),aK w F p kn D→OkK kn→cF n D→dg bt w→¬F 0→¬F bt→(∀q,N q→q<w.heap.size)→cR (fun q=>N q∨F q) w f P→dr d P →
  Calls Tryz.prog 30 #[.pointer (some ⟨p,0,none⟩),.agg d.arr,.int .i64 u,.agg (puA f),.int .i64 c] w (iw w F N p kn (fun x v=> .tuple #[.int .i64 x.1,v,.bool x.2]) (tkP u P c kn D))
 gvC:∀(F N:Nat→Prop) (p:Nat) (kn:Int→Option Int) (D:List KV) (w:World) (u c a:Int) (f:Nat→Value) (P:Nat→List Int),aK w F p kn D→OkK kn→cF n D→dg bt w→¬F 0→¬F bt→(∀q,N q→q<w.heap.size)→cR (fun q=>N q∨F q) w f P→dr d P→W64 a →
  Calls Tryz.prog 40 #[.pointer (some ⟨p,0,none⟩),.agg d.arr,.int .i64 u,.agg (puA f),.int .i64 c,.int .i64 a] w (iw w F N p kn (fun _ v=>v) (gvP u P c a kn D))
 flC:∀(F N:Nat→Prop) (p:Nat) (kn:Int→Option Int) (D:List KV) (w:World) (f:Nat→Value) (P:Nat→List Int),aK w F p kn D→OkK kn→cF n D→dg bt w→¬F 0→¬F bt→(∀q,N q→q<w.heap.size)→cR (fun q=>N q∨F q) w f P→dr d P →
  Calls Tryz.prog 17 #[.pointer (some ⟨p,0,none⟩),.agg d.arr,.agg (puA f)] w (iw w F N p kn (fun _ v=>v) (flP P kn D))
 drC:∀(F:Nat→Prop) (p:Nat) (kn:Int→Option Int) (D:List KV) (w:World),aK w F p kn D→OkK kn→cF n D→dg bt w→¬F 0→¬F bt →
  Calls Tryz.prog 18 #[.pointer (some ⟨p,0,none⟩),.agg d.arr] w (aC w F p kn (fun _:Unit=> .tuple #[]) (drP kn D))
structure OkS (d:Cfg)(s:FSt):Prop where
 l0:dr d s.P0
 l1:dr d s.P1
 o:∀b∈s.O,W64 b.1
theorem OkS.at {d:Cfg}{s:FSt}(h:OkS d s)(x:Int):dr d (s.at x):=by
 unfold FSt.at
 split
 ·exact h.l0
 ·exact h.l1
theorem OkS.put {d:Cfg}{s:FSt}(h:OkS d s)(x:Int){P:Nat→List Int}(hP:dr d P){O:List Bl}(hO:∀b∈O,W64 b.1):OkS d ((s.put x P).out O):=by
 unfold FSt.put FSt.out
 split
 ·exact⟨hP,h.l1,hO⟩
 ·exact⟨h.l0,hP,hO⟩
theorem OkS.nil {d:Cfg}(R:d.Ok):OkS d ⟨fun _=> [],fun _=> [],[]⟩:=⟨dr.nil R,dr.nil R,fun b hb=>by cases hb⟩
theorem BT {α β:Type}{n:Nat}{p:Prg α}{f:α→Prg β}{g:List Int→α×List Int}{k:α→List Int→β×List Int}{Q:α→Prop}(h:bR n p g)(G:bV n Q p)(hf:∀x,Q x→bR n (f x) (k x)):bR n (ar p f) (fun ws=>k (g ws).1 (g ws).2):=fun zs D hn hz hD=>by
 obtain⟨D1,e1,a1,i1⟩:=h zs D hn hz hD
 obtain⟨D2,e2,a2,i2⟩:=hf (g (cj zs D)).1 (G.ok (jy hz) hD e1).2 zs D1 hn hz i1
 refine⟨D2,?_,?_,i2⟩
 ·rw[ak e1,e2,a1]
 ·rw[a2,a1]
section
variable {d:Cfg}{n bt:Nat}(T:uI d n bt)
def dH (t:fY)(s:FSt):Prg FSt :=
 if t.1=0∨t.1=1 then ar (T.tkP (gq d t.2.2.1) (s.at t.2.1) t.2.2.2.1) fun x=>aA ((s.put t.2.1 x.2).out (if x.1.2 then s.O++ [(x.1.1,t.2.2.2.1)] else s.O))
 else if t.1=2∨t.1=3 then
  match s.O[nthI t.2.2.2.2 s.O.length]? with
  |none=>aA s
  |some b=>ar (T.gvP (gq d t.2.2.1) (s.at t.2.1) b.2 b.1) fun x=>aA ((s.put t.2.1 x.2).out (s.O.take (nthI t.2.2.2.2 s.O.length)++s.O.drop (nthI t.2.2.2.2 s.O.length+1)))
 else if t.1=4 then ar (T.flP (s.at t.2.1)) fun x=>aA (s.put t.2.1 x.2)
 else if t.1=5 then ar T.drP fun _=>aA s
 else aA s
def dT:List fY→FSt→Prg FSt
 | [],s=>aA s
 |t::l,s=>ar (dH T t s) fun s'=>dT l s'
theorem zM (t:fY)(s:FSt):bH (dH T t s):=by
 unfold dH
 refine aL (aq (T.tkS _ _ _) fun _=>ai _) (aL ?_ (aL (aq (T.flS _) fun _=>ai _) (aL (aq T.drS fun _=>ai _) (ai _))))
 split
 ·exact ai _
 ·exact aq (T.gvS _ _ _ _) fun _=>ai _
theorem lh:∀(l:List fY) (s:FSt),bH (dT T l s)
 | [],s=>ai _
 |t::l,s=>aq (zM T t s) fun s'=>lh l s'
theorem tZ (R:d.Ok)(t:fY){s:FSt}(h:OkS d s):bV n (fun s'=>OkS d s'∧s'.O.length≤s.O.length+1) (dH T t s):=by
 unfold dH
 split
 ·refine au (T.tkG _ _ _ (h.at _)) fun x hx=>aj n ⟨h.put _ hx.2 fun b hb=>?_,?_⟩
  ·split at hb
   ·rcases List.mem_append.1 hb with q|q
    ·exact h.o b q
    ·obtain rfl:=List.mem_singleton.1 q;exact hx.1
   ·exact h.o b hb
  ·have e:∀(s:FSt) O,(FSt.out s O).O=O:=fun _ _=>rfl
   rw[e];split<;>simp
 ·split
  ·split
   ·exact aj n ⟨h,by omega⟩
   ·rename_i b hb
    refine au (T.gvG _ _ _ _ (h.at _) (h.o b (List.mem_of_getElem? hb))) fun x hx=>aj n ⟨h.put _ hx fun b' hb'=>?_,?_⟩
    ·rcases List.mem_append.1 hb' with q|q
     ·exact h.o b' (List.mem_of_mem_take q)
     ·exact h.o b' (List.mem_of_mem_drop q)
    ·have e:∀(s:FSt) O,(FSt.out s O).O=O:=fun _ _=>rfl
     rw[e];simp;omega
  ·split
   ·refine au (T.flG _ (h.at _)) fun x hx=>aj n ?_
    rw[←s.out_same,hx]
    exact⟨h.put _ (dr.nil R) h.o,by show s.O.length≤_;omega⟩
   ·split
    ·exact au T.drG fun _ _=>aj n ⟨h,by omega⟩
    ·exact aj n ⟨h,by omega⟩
theorem mD (R:d.Ok):∀(l:List fY) {s:FSt},OkS d s→bV n (fun s'=>OkS d s'∧s'.O.length≤s.O.length+l.length) (dT T l s)
 | [],s,h=>aj n ⟨h,by simp⟩
 |t::l,s,h=>au (tZ T R t h) fun s' hs=>dw (mD R l hs.1) fun s2 h2=>⟨h2.1,by have:=h2.2;have:=hs.2;simp;omega⟩
theorem BU (t:fY){s:FSt}(h:OkS d s):bR n (dH T t s) (pE d t s):=by
 unfold dH
 have e:pE d t s=fun ws=>pE d t s ws:=rfl
 rw[e]
 unfold pE
 split
 ·exact aD (T.tkF _ _ _ (h.at _)) fun x=>ax n _
 ·split
  ·split
   ·rename_i hb
    try simp only[hb]
    exact ax n _
   ·rename_i b hb
    try simp only[hb]
    exact aD (T.gvF _ _ _ _ (h.at _) (h.o b (List.mem_of_getElem? hb))) fun x=>ax n _
  ·split
   ·exact aD (T.flF _ (h.at _)) fun x=>ax n _
   ·split
    ·exact aD T.drF fun x=>ax n _
    ·exact ax n _
theorem mE (R:d.Ok):∀(l:List fY) {s:FSt},OkS d s→bR n (dT T l s) (gI d l s)
 | [],s,h=>ax n _
 |t::l,s,h=>BT (BU T t h) (tZ T R t h) fun s' hs=>mE R l hs.1
end
def wy3 (d:Cfg)(u k:Int):List WayD:= [.room (caV d u k) d.ca,.room (biV d k) d.bi,.home]
def gvP (d:Cfg)(u:Int)(P:Nat→List Int)(k a:Int):Prg (Unit×(Nat→List Int)):=
 if caV d u k=0 then aA ((),P)
 else ar (if d.pr≤cZ P k then dG d.us d.pg d.st (wy3 d u k) k d.ba.toNat P else aA P) fun P'=>aA ((),ea P' k a (cZ P' k+1))
def flN (d:Cfg):Nat→Nat→(Nat→List Int)→Prg (Nat→List Int)
 | _,0,P=>aA P
 |k,m+1,P=>ar (dG d.us d.pg d.st [.home] k (P k).length P) fun P'=>flN d (k+1) m P'
def flP (d:Cfg)(P:Nat→List Int):Prg (Unit×(Nat→List Int)):=ar (flN d 0 5 P) fun _=>aA ((),fun _=> [])
def drP (d:Cfg):Prg Unit:=eW d.us d.pg d.st [.home] (famL (famC d) (famC d).m)
theorem cR.congr {F:Nat→Prop}{w:World}{f:Nat→Value}{P P':Nat→List Int}(h:cR F w f P)(e:∀j,j<5→P j=P' j):cR F w f P':=⟨fun j hj=>(e j hj)▸h.1 j hj,h.2⟩
section
variable {d:Cfg}(R:d.Ok)
include R
theorem jM (u k:Int):caV d u k≠0↔oC d u k:=by
 have h1:=R.ca1;have h2:=R.st1;have h3:=R.pg1
 unfold caV nU oC
 split
 ·rename_i h
  obtain⟨a,b,c,e⟩:=h
  refine⟨fun _=>⟨c,by omega,a,b⟩,fun _=>?_⟩
  have:0≤(5 * u+k) * (d.ca+1):=Int.mul_nonneg (by omega) (by omega)
  unfold dt bz bd aO
  omega
 ·rename_i h
  refine⟨fun q=>absurd rfl q,fun q=>absurd ⟨q.2.2.1,q.2.2.2,q.1,by omega⟩ h⟩
variable {n:Nat}(hw:(n:Int)=d.words)
include hw
theorem BV {i:Nat}(hi:i<(famC d).m)(H:cH d.pg d.st n)(hn:n≤10000):d8 ((famC d).b i) ((famC d).l i) n:=Br H (ow R hw) hn hi
end
theorem dr.w {d:Cfg}{P:Nat→List Int}(h:dr d P):pB P:=fun j hj=>(h j hj).2
theorem dr.len {d:Cfg}(R:d.Ok){P:Nat→List Int}(h:dr d P):∀j,j<5→(P j).length≤1000000:=fun j hj=>by have:=(h j hj).1;have:=R.pr2;omega
theorem vO (xs:List Int)(x:Int)(m:Nat):(xs++ [x]).take ((xs++ [x]).length-(m+1))=xs.take (xs.length-m):=by
 rw[List.length_append,show xs.length+ [x].length-(m+1)=xs.length-m by simp]
 exact List.take_append_of_le_length (by omega)
section
variable (us pg st:Int)(wy:List WayD){k:Nat}(hk:k<5)
include hk
theorem rm:∀(m:Nat) (P:Nat→List Int) (ws:List Int),(hH us pg st wy k m P ws).1=de P k ((P k).take ((P k).length-m))
 | 0,P,ws=>by
   show P=_
   rw[Nat.sub_zero,List.take_length,eO]
 |m+1,P,ws=>by
  have e0:hH us pg st wy k (m+1) P ws=if gG P k then hH us pg st wy k m (gM P k) (oy us pg st wy (gZ P k) ws) else(P,ws):=rfl
  rw[e0]
  rcases List.eq_nil_or_concat (P k) with e|⟨xs,x,e⟩
  ·rw[if_neg (by rw[rJ P hk e];simp),e,List.take_nil]
   show P=de P k []
   rw[←e,eO]
  ·rw[List.concat_eq_append] at e
   obtain⟨b1,b2,b3⟩:=kY P hk e
   rw[if_pos b1,b3,rm m,kX,jK,e,vO]
theorem li {n:Nat}(H:cH pg st n)(hy:∀y∈wy,jq n y):∀(m:Nat) (P:Nat→List Int),pB P→bV n (fun P'=>P'=de P k ((P k).take ((P k).length-m))) (dG us pg st wy k m P)
 | 0,P,_=>aj n (by rw[Nat.sub_zero,List.take_length,eO])
 |m+1,P,h=>by
  refine aX (fun e=>au (pC H (tK h e) hy) fun _ _=>dw (li H hy m _ (tL h k)) fun P' q=>?_) (fun e=>aj n ?_)
  ·rcases List.eq_nil_or_concat (P k) with e1|⟨xs,x,e1⟩
   ·rw[rJ P hk e1] at e;cases e
   ·rw[List.concat_eq_append] at e1
    obtain⟨b1,b2,b3⟩:=kY P hk e1
    rw[q,b3,kX,jK,e1,vO]
  ·rcases List.eq_nil_or_concat (P k) with e1|⟨xs,x,e1⟩
   ·rw[e1,List.take_nil,←e1,eO]
   ·rw[List.concat_eq_append] at e1
    exact absurd (kY P hk e1).1 e
end
theorem Fi {d:Cfg}{P:Nat→List Int}(h:dr d P)(k:Nat)(m:Nat):dr d (de P k ((P k).take m)):=fun j hj=>by
 unfold de
 split
 ·rename_i e;subst e
  exact⟨by have:=(h j hj).1;simp;omega,fun a ha=>(h j hj).2 a (List.mem_of_mem_take ha)⟩
 ·exact h j hj
theorem ua (P:Nat→List Int){k:Nat}(hk:k<5)(a:Int):ea P k a (cZ P k+1)=de P k (P k++ [a]):=ko P hk a (by rw[dF P hk];omega)
theorem vP {d:Cfg}{P:Nat→List Int}(h:dr d P){k:Nat}(hk:k<5){a:Int}(ha:W64 a)(hl:((P k).length:Int)<d.pr):dr d (de P k (P k++ [a])):=fun j hj=>by
 unfold de
 split
 ·refine⟨by simp;omega,fun x hx=>?_⟩
  rcases List.mem_append.1 hx with q|q
  ·exact(h k hk).2 x q
  ·rw[List.mem_singleton.1 q];exact ha
 ·exact h j hj
section
variable {d:Cfg}(R:d.Ok){n:Nat}(H:cH d.pg d.st n)(hw:(n:Int)=d.words)(hn:n≤10000)
include R H hw hn
theorem ID {u k:Int}(h:oC d u k):wy3 d u k= [.room ((famC d).b (5 * u.toNat+k.toNat)) ((famC d).l (5 * u.toNat+k.toNat)),.room ((famC d).b (5 * d.cp.toNat+k.toNat)) ((famC d).l (5 * d.cp.toNat+k.toNat)),.home]:=by
 obtain⟨q0,q1,q2,q3⟩:=h
 obtain⟨_,a2,a3,_⟩:=iX (d:=d) (u:=u.toNat) (c:=k.toNat) (by omega) (by omega)
 obtain⟨_,b2,b3,_⟩:=ni (d:=d) (c:=k.toNat) (by have:=R.cp1;omega) (by omega)
 rw[a2,a3,b2,b3]
 unfold wy3 caV biV
 rw[show((u.toNat:Nat):Int)=u by omega,show((k.toNat:Nat):Int)=k by omega]
theorem xB {u k:Int}(h:oC d u k):∀y∈wy3 d u k,jq n y:=by
 rw[ID R H hw hn h]
 obtain⟨q0,q1,q2,q3⟩:=h
 have a1:=(iX (d:=d) (u:=u.toNat) (c:=k.toNat) (by omega) (by omega)).1
 have b1:=(ni (d:=d) (c:=k.toNat) (by have:=R.cp1;omega) (by omega)).1
 intro y hy
 simp only[List.mem_cons,List.not_mem_nil,or_false] at hy
 rcases hy with rfl|rfl|rfl
 ·exact BV R hw a1 H hn
 ·exact BV R hw b1 H hn
 ·trivial
theorem IE (u:Int)(P:Nat→List Int)(k a:Int):bH (gvP d u P k a):=
 aL (ai _) (aq (aL (mC _ _ _ _ _ _ _) (ai _)) fun _=>ai _)
theorem ub {u:Int}{P:Nat→List Int}{k:Nat}(h:oC d u k)(hP:dr d P):bV n (fun P'=>dr d P'∧((P' k).length:Int)<d.pr) (if d.pr≤cZ P k then dG d.us d.pg d.st (wy3 d u k) k d.ba.toNat P else aA P):=by
 have hk:k<5:=by have:=h.2.1;omega
 refine aX (fun q=>?_) (fun q=>aj n ⟨hP,by rw[dF P hk] at q;omega⟩)
 refine dw (li _ _ _ _ hk H (xB R H hw hn h) _ P hP.w) fun P' e=>?_
 subst e
 refine⟨Fi hP k _,?_⟩
 rw[jK]
 have h1:=(hP k hk).1
 have h2:=R.ba1
 have h3:=R.pr1
 rw[dF P hk] at q
 simp
 omega
theorem Kl (u:Int)(P:Nat→List Int)(k a:Int)(hP:dr d P)(ha:W64 a):bV n (fun x=>dr d x.2) (gvP d u P k a):=by
 unfold gvP
 refine aX (fun _=>aj n hP) (fun q=>?_)
 have h:=(jM R u k).1 q
 obtain⟨j,rfl⟩:∃j:Nat,k=j:=⟨k.toNat,by have:=h.1;omega⟩
 have hj:j<5:=by have:=h.2.1;omega
 refine au (ub R H hw hn h hP) fun P' hp=>aj n ?_
 show dr d (ea P' j a (cZ P' j+1))
 rw[ua P' hj]
 exact vP hp.1 hj ha hp.2
theorem Km (u:Int)(P:Nat→List Int)(k a:Int)(hP:dr d P)(ha:W64 a):bR n (gvP d u P k a) (fun ws=>(((),(gvW d u P k a ws).1),(gvW d u P k a ws).2)):=by
 by_cases q:caV d u k=0
 ·have nk:¬oC d u k:=fun z=>(jM R u k).2 z q
  unfold gvP gvW
  rw[if_pos q]
  refine a6 (ax n _) fun ws _=>?_
  rw[if_neg nk]
 ·have h:=(jM R u k).1 q
  obtain⟨j,rfl⟩:∃j:Nat,k=j:=⟨k.toNat,by have:=h.1;omega⟩
  have hj:j<5:=by have:=h.2.1;omega
  unfold gvP
  rw[if_neg q]
  by_cases hf:d.pr≤cZ P j
  ·rw[if_pos hf]
   have G:=ub R H hw hn h hP
   rw[if_pos hf] at G
   refine a6 (oz (oA H (xB R H hw hn h) j _ P hP.w) G fun P' hp=>ax n _) fun ws _=>?_
   unfold gvW vI
   rw[if_pos h]
   rw[dF P hj] at hf
   have e1:(P (j:Int).toNat).length=(P j).length:=by simp
   rw[if_pos (by simpa using hf)]
   rw[ID R H hw hn h]
   have e2:=tT d.us d.pg d.st (famC d) (5 * u.toNat+(j:Int).toNat) (5 * d.cp.toNat+(j:Int).toNat) j d.ba.toNat P ws
   have e3:=rm d.us d.pg d.st [.room ((famC d).b (5 * u.toNat+(j:Int).toNat)) ((famC d).l (5 * u.toNat+(j:Int).toNat)),.room ((famC d).b (5 * d.cp.toNat+(j:Int).toNat)) ((famC d).l (5 * d.cp.toNat+(j:Int).toNat)),.home] hj d.ba.toNat P ws
   rw[e2] at e3
   rw[e2]
   simp only[Int.toNat_natCast] at e3⊢
   rw[e3]
   rw[ua _ hj,ko _ hj a]
   rw[jK]
   have h1:=(hP j hj).1
   have h2:=R.ba1
   have h3:=R.pr1
   simp
   omega
  ·rw[if_neg hf]
   refine a6 (aD (ax n P) fun P'=>ax n _) fun ws _=>?_
   unfold gvW vI
   rw[if_pos h]
   rw[dF P hj] at hf
   rw[if_neg (by simpa using hf)]
   simp only[Int.toNat_natCast]
   rw[ua _ hj,ko _ hj a (by omega)]
theorem vQ:∀(k m:Nat) (P:Nat→List Int),bH (flN d k m P)
 | _,0,P=>ai _
 |k,m+1,P=>aq (mC _ _ _ _ _ _ _) fun P'=>vQ (k+1) m P'
theorem IG (P:Nat→List Int):bH (flP d P):=aq (vQ R H hw hn _ _ _) fun _=>ai _
theorem lj:∀y∈ [WayD.home],jq n y:=fun y hy=>by rw[List.mem_singleton.1 hy];trivial
theorem zN:∀(k m:Nat) (P:Nat→List Int),k+m≤5→pB P→bV n (fun P'=>pB P'∧(∀j,j<k→P' j=P j)∧∀j,k≤j→j<k+m→P' j= []) (flN d k m P)
 | _,0,P,_,h=>aj n ⟨h,fun _ _=>rfl,fun j h1 h2=>by omega⟩
 |k,m+1,P,hk,h=>by
  refine au (li _ _ _ _ (by omega) H (lj R H hw hn) _ P h) fun P1 e=>?_
  rw[Nat.sub_self,List.take_zero] at e
  subst e
  have hw1:pB (de P k []):=fun j hj a ha=>by
   unfold de at ha
   split at ha
   ·cases ha
   ·exact h j hj a ha
  refine dw (zN (k+1) m _ (by omega) hw1) fun P' q=>⟨q.1,fun j hj=>?_,fun j h1 h2=>?_⟩
  ·rw[q.2.1 j (by omega)];unfold de;rw[if_neg (by omega)]
  ·by_cases e:j=k
   ·subst e;rw[q.2.1 j (by omega),jK]
   ·exact q.2.2 j (by omega) (by omega)
theorem Kn (P:Nat→List Int)(hP:dr d P):bV n (fun x=>x.2=fun _=> []) (flP d P):=au (zN R H hw hn 0 5 P (by omega) hP.w) fun _ _=>aj n rfl
def Ko (d:Cfg):Nat→Nat→(Nat→List Int)→List Int→(Nat→List Int)×List Int
 | _,0,P,ws=>(P,ws)
 |k,m+1,P,ws=>Ko d (k+1) m (hH d.us d.pg d.st [.home] k (P k).length P ws).1 (hH d.us d.pg d.st [.home] k (P k).length P ws).2
theorem zO:∀(k m:Nat) (P:Nat→List Int),k+m≤5→pB P→bR n (flN d k m P) (fun ws=>Ko d k m P ws)
 | _,0,P,_,h=>ax n P
 |k,m+1,P,hk,h=>oz (oA H (lj R H hw hn) k _ P h) (tO H (lj R H hw hn) k _ P h) fun P1 q=>zO (k+1) m P1 (by omega) q.1
theorem IH (P:Nat→List Int)(ws:List Int):(Ko d 0 5 P ws).2=qr d.us d.pg d.st P ws:=by
 simp only[Ko]
 have L:=fun(k:Nat) (hk:k<5) (Q:Nat→List Int) (ws:List Int)=>ra d.us d.pg d.st hk _ Q ws rfl
 rw[L 0 (by omega)]
 simp only
 rw[L 1 (by omega)]
 simp only
 rw[L 2 (by omega)]
 simp only
 rw[L 3 (by omega)]
 simp only
 rw[L 4 (by omega)]
 simp only[de]
 rfl
theorem Kp (P:Nat→List Int)(hP:dr d P):bR n (flP d P) (fun ws=>(((),fun _=> []),qr d.us d.pg d.st P ws)):=
 a6 (aD (zO R H hw hn 0 5 P (by omega) hP.w) fun _=>ax n _) fun ws _=>by rw[←IH R H hw hn]
theorem oD:∀s∈famL (famC d) (famC d).m,d8 s.1 s.2 n:=fun s hs=>by
 obtain⟨i,hi,rfl⟩:=zD _ hs
 exact BV R hw hi H hn
theorem II:bH (drP d):=pA _ _ _ _ _
theorem Kq:bV n (fun _=>True) (drP d):=qZ H (lj R H hw hn) _ (oD R H hw hn)
theorem Kr:bR n (drP d) (fun ws=>((),ox d.us d.pg d.st (famC d) (famC d).m ws)):=
 a6 (q8 H (lj R H hw hn) _ (oD R H hw hn)) fun ws _=>by rw[pD]
end
section
variable (us pg st:Int)
def gJ (b l:Int):Nat→List Int→Prg (List Int)
 | 0,L=>aA L
 |m+1,L=>ar (ed b l) fun x=>if x.2 then gJ b l m (L++ [x.1]) else aA L
def mF (k:Int):Nat→List Int→Prg (List Int)
 | 0,L=>aA L
 |m+1,L=>ar (lU pg st k) fun r=>if r then ar (j9 us pg st k) fun x=>if x.2 then mF k m (L++ [x.1]) else aA L else aA L
def jr (k:Int)(m:Nat)(L:List Int):Prg (List Int):=ar (j9 us pg st k) fun x=>if x.2 then mF us pg st k (m-(L.length+1)) (L++ [x.1]) else aA L
def dk (b l:Int):Nat→List Int→List Int→List Int×List Int
 | 0,L,ws=>(L,ws)
 |m+1,L,ws=>if(bb b l ws).1.2 then dk b l m (L++ [(bb b l ws).1.1]) (bb b l ws).2 else(L,(bb b l ws).2)
def hU (k:Int):Nat→List Int→List Int→List Int×List Int
 | 0,L,ws=>(L,ws)
 |m+1,L,ws=>if tj pg st k ws then(if(dd us pg st k ws).1.2 then hU k m (L++ [(dd us pg st k ws).1.1]) (dd us pg st k ws).2 else(L,(dd us pg st k ws).2)) else(L,ws)
def xC (k:Int)(m:Nat)(L:List Int)(ws:List Int):List Int×List Int:=if(dd us pg st k ws).1.2 then hU us pg st k (m-(L.length+1)) (L++ [(dd us pg st k ws).1.1]) (dd us pg st k ws).2 else(L,(dd us pg st k ws).2)
theorem mG (b l:Int):∀(m:Nat) (L:List Int),bH (gJ b l m L)
 | 0,L=>ai _
 |m+1,L=>aq (qV _ _) fun x=>aL (mG b l m _) (ai _)
theorem rn (k:Int):∀(m:Nat) (L:List Int),bH (mF us pg st k m L)
 | 0,L=>ai _
 |m+1,L=>aq (A3 _ _ _) fun r=>aL (aq (sU _ _ _ _) fun x=>aL (rn k m _) (ai _)) (ai _)
theorem zP (k:Int)(m:Nat)(L:List Int):bH (jr us pg st k m L):=aq (sU _ _ _ _) fun x=>aL (rn us pg st k _ _) (ai _)
end
def kr (L:List Int):Prop:=∀a∈L,W64 a
theorem kr.nil:kr []:=fun a h=>by cases h
theorem kr.snoc {L:List Int}(h:kr L){a:Int}(ha:W64 a):kr (L++ [a]):=fun x hx=>by
 rcases List.mem_append.1 hx with q|q
 ·exact h x q
 ·rw[List.mem_singleton.1 q];exact ha
theorem js {b l:Int}{n:Nat}(H:d8 b l n):∀(m:Nat) (L:List Int),kr L→bV n (fun L'=>kr L'∧L'.length≤L.length+m) (gJ b l m L)
 | 0,L,h=>aj n ⟨h,by simp⟩
 |m+1,L,h=>au (gY H) fun x hx=>aX (fun _=>dw (js H m _ (h.snoc hx)) fun L' q=>⟨q.1,by have:=q.2;simp at this;omega⟩) (fun _=>aj n ⟨h,by omega⟩)
theorem oE {b l:Int}{n:Nat}(H:d8 b l n):∀(m:Nat) (L:List Int),bR n (gJ b l m L) (dk b l m L)
 | 0,L=>ax n _
 |m+1,L=>by
  refine a6 (aD (oq H) fun x=>bJ (fun _=>oE H m (L++ [x.1])) (fun _=>ax n L)) fun ws _=>?_
  have e:dk b l (m+1) L ws=if(bb b l ws).1.2 then dk b l m (L++ [(bb b l ws).1.1]) (bb b l ws).2 else(L,(bb b l ws).2):=rfl
  rw[e]
theorem NO (k:Int):0≤szV k∧szV k≤16:=by
 unfold szV
 (repeat' split)<;>omega
section
variable {us pg st:Int}{n:Nat}(H:cH pg st n)(hu:0≤us∧us+32 * pg≤1000000)
include H
theorem Dt (k:Int):bV n (fun _=>True) (lU pg st k):=au (ii H _ _ _) fun _ _=>aj n trivial
include hu
theorem ud (k:Int):bV n (fun x=>W64 x.1) (j9 us pg st k):=au (og H k) fun q hq=>aX (fun _=>aj n (by unfold W64;constructor<;>decide)) (fun h=>by
 have hq:=hq.resolve_left h
 have PB:=cu H.toPgIn hq
 have hq':=ay.1 hq
 refine au (bu n PB.2.2.2.1) fun b hb=>aX (fun _=>aj n (by unfold W64;constructor<;>decide)) (fun _=>au (bu n PB.2.1.2.1) fun was _=>au (gW H.toPgIn hq (rG hb _)) fun _ _=>au (gV H q k was hq) fun _ _=>aj n ?_)
 have h1: -1≤bP b (aw k)∧bP b (aw k)≤64:=by rcases Da b (aw k) with z|z<;>omega
 have h2:=NO k
 have h3: -16≤bP b (aw k) * szV k:=by
  have:(-1) * szV k≤bP b (aw k) * szV k:=Int.mul_le_mul_of_nonneg_right h1.1 h2.1
  omega
 have h4:bP b (aw k) * szV k≤64 * 16:=by
  have e1:bP b (aw k) * szV k≤64 * szV k:=Int.mul_le_mul_of_nonneg_right h1.2 h2.1
  omega
 unfold W64
 constructor<;>omega)
theorem ue (k:Int):∀(m:Nat) (L:List Int),kr L→bV n (fun L'=>kr L'∧L'.length≤L.length+m) (mF us pg st k m L)
 | 0,L,h=>aj n ⟨h,by simp⟩
 |m+1,L,h=>au (Dt H k) fun r _=>aX (fun _=>au (ud H hu k) fun x hx=>aX (fun _=>dw (ue k m _ (h.snoc hx)) fun L' q=>⟨q.1,by have:=q.2;simp at this;omega⟩) (fun _=>aj n ⟨h,by omega⟩)) (fun _=>aj n ⟨h,by omega⟩)
theorem uf (k:Int)(m:Nat)(L:List Int)(h:kr L)(hm:L.length<m):bV n (fun L'=>kr L'∧L'.length≤m) (jr us pg st k m L):=
 au (ud H hu k) fun x hx=>aX (fun _=>dw (ue H hu k _ _ (h.snoc hx)) fun L' q=>⟨q.1,by have:=q.2;simp at this;omega⟩) (fun _=>aj n ⟨h,by omega⟩)
omit hu
theorem ug (k:Int):∀(m:Nat) (L:List Int),bR n (mF us pg st k m L) (hU us pg st k m L)
 | 0,L=>ax n _
 |m+1,L=>by
  refine a6 (aD (EO H k) fun r=>bJ (fun _=>aD (qn H us k) fun x=>bJ (fun _=>ug k m (L++ [x.1])) (fun _=>ax n L)) (fun _=>ax n L)) fun ws _=>?_
  have e:hU us pg st k (m+1) L ws=if tj pg st k ws then(if(dd us pg st k ws).1.2 then hU us pg st k m (L++ [(dd us pg st k ws).1.1]) (dd us pg st k ws).2 else(L,(dd us pg st k ws).2)) else(L,ws):=rfl
  rw[e]
theorem BX (k:Int)(m:Nat)(L:List Int):bR n (jr us pg st k m L) (xC us pg st k m L):=
 aD (qn H us k) fun x=>bJ (fun _=>ug H k _ (L++ [x.1])) (fun _=>ax n L)
end
theorem uh (b l:Int):∀(m:Nat) (A L ws:List Int),dk b l m (A++L) ws=(A++(dk b l m L ws).1,(dk b l m L ws).2)
 | 0,A,L,ws=>rfl
 |m+1,A,L,ws=>by
  unfold dk
  split
  ·rw[List.append_assoc,uh b l m]
  ·rfl
theorem ui (us pg st k:Int):∀(m:Nat) (A L ws:List Int),hU us pg st k m (A++L) ws=(A++(hU us pg st k m L ws).1,(hU us pg st k m L ws).2)
 | 0,A,L,ws=>rfl
 |m+1,A,L,ws=>by
  unfold hU
  split
  ·split
   ·rw[List.append_assoc,ui us pg st k m]
   ·rfl
  ·rfl
def bE (k lim:Int):(Nat→List Int)→List Int→(Nat→List Int)
 |P,[]=>P
 |P,a::t=>bE k lim (ea P k a lim) t
theorem gK (k lim:Int)(x:Int):∀(L:List Int) (P:Nat→List Int),bE k lim P (L++ [x])=ea (bE k lim P L) k x lim
 | [],P=>rfl
 |a::t,P=>gK k lim x t _
section
variable (us pg st:Int)(S:Fam)(i0 i1:Nat)
theorem vR (k:Nat)(lim:Int)(P:Nat→List Int):∀(m:Nat) (L ws:List Int),fO us pg st S i0 i1 k 0 lim m (bE k lim P L) ws=(bE k lim P (dk (S.b i0) (S.l i0) m L ws).1,(dk (S.b i0) (S.l i0) m L ws).2)
 | 0,L,ws=>rfl
 |m+1,L,ws=>by
  have e1:fO us pg st S i0 i1 k 0 lim (m+1) (bE k lim P L) ws=if(bb (S.b i0) (S.l i0) ws).1.2 then fO us pg st S i0 i1 k 0 lim m (ea (bE k lim P L) k (bb (S.b i0) (S.l i0) ws).1.1 lim) (bb (S.b i0) (S.l i0) ws).2 else(bE k lim P L,(bb (S.b i0) (S.l i0) ws).2):=rfl
  rw[e1]
  unfold dk
  split
  ·rw[←gK,vR k lim P m]
  ·rfl
theorem vS (k:Nat)(lim:Int)(P:Nat→List Int):∀(m:Nat) (L ws:List Int),fO us pg st S i0 i1 k 1 lim m (bE k lim P L) ws=(bE k lim P (dk (S.b i1) (S.l i1) m L ws).1,(dk (S.b i1) (S.l i1) m L ws).2)
 | 0,L,ws=>rfl
 |m+1,L,ws=>by
  have e1:fO us pg st S i0 i1 k 1 lim (m+1) (bE k lim P L) ws=if(bb (S.b i1) (S.l i1) ws).1.2 then fO us pg st S i0 i1 k 1 lim m (ea (bE k lim P L) k (bb (S.b i1) (S.l i1) ws).1.1 lim) (bb (S.b i1) (S.l i1) ws).2 else(bE k lim P L,(bb (S.b i1) (S.l i1) ws).2):=rfl
  rw[e1]
  unfold dk
  split
  ·rw[←gK,vS k lim P m]
  ·rfl
theorem vT (k:Nat)(lim:Int)(P:Nat→List Int):∀(m:Nat) (L ws:List Int),fO us pg st S i0 i1 k 2 lim m (bE k lim P L) ws=(bE k lim P (hU us pg st k m L ws).1,(hU us pg st k m L ws).2)
 | 0,L,ws=>rfl
 |m+1,L,ws=>by
  have e0:jv us pg st S i0 i1 k 2 ws=if tj pg st k ws then dd us pg st k ws else((0,false),ws):=rfl
  have e1:fO us pg st S i0 i1 k 2 lim (m+1) (bE k lim P L) ws=if(jv us pg st S i0 i1 k 2 ws).1.2 then fO us pg st S i0 i1 k 2 lim m (ea (bE k lim P L) k (jv us pg st S i0 i1 k 2 ws).1.1 lim) (jv us pg st S i0 i1 k 2 ws).2 else(bE k lim P L,(jv us pg st S i0 i1 k 2 ws).2):=rfl
  rw[e1,e0]
  unfold hU
  cases tj pg st k ws with
  |false=>simp
  |true =>
   simp only[if_true]
   split
   ·rw[←gK,vT k lim P m]
   ·rfl
end
def mostV (d:Cfg):Nat:=(min d.ba (1+d.pr)).toNat
def xD (d:Cfg)(u k:Int):Prg (List Int):=
 ar (gJ (caV d u k) d.ca (mostV d) []) fun L=>if 0<L.length then aA L else
 ar (gJ (biV d k) d.bi (mostV d) []) fun L=>if 0<L.length then aA L else
 ar (jr d.us d.pg d.st k (mostV d) []) fun L=>if 0<L.length then aA L else aA []
def tkP (d:Cfg)(u:Int)(P:Nat→List Int)(k:Int):Prg ((Int×Bool)×(Nat→List Int)):=
 if caV d u k=0 then aA ((0,false),P)
 else if gG P k then aA ((gZ P k,true),gM P k)
 else ar (xD d u k) fun L=>aA ((L.headD 0,decide (0<L.length)),bE k d.pr P L.tail)
def Mu (d:Cfg)(u k:Int)(ws:List Int):List Int×List Int :=
 if 0<(dk (caV d u k) d.ca (mostV d) [] ws).1.length then dk (caV d u k) d.ca (mostV d) [] ws else
 if 0<(dk (biV d k) d.bi (mostV d) [] (dk (caV d u k) d.ca (mostV d) [] ws).2).1.length then dk (biV d k) d.bi (mostV d) [] (dk (caV d u k) d.ca (mostV d) [] ws).2 else
 xC d.us d.pg d.st k (mostV d) [] (dk (biV d k) d.bi (mostV d) [] (dk (caV d u k) d.ca (mostV d) [] ws).2).2
section
variable {d:Cfg}(R:d.Ok){n:Nat}(H:cH d.pg d.st n)(hw:(n:Int)=d.words)(hn:n≤10000)
include R H hw hn
theorem rL:mostV d=frM d+1:=by
 have h1:=R.ba1;have h2:=R.pr1
 unfold mostV frM
 split<;>omega
theorem IJ {u k:Int}(h:oC d u k):d8 (caV d u k) d.ca n∧d8 (biV d k) d.bi n:=by
 have h:=xB R H hw hn h
 exact⟨h (.room (caV d u k) d.ca) (by simp[wy3]),h (.room (biV d k) d.bi) (by simp[wy3])⟩
theorem Fj (u k:Int):bH (xD d u k):=
 aq (mG _ _ _ _) fun _=>aL (ai _) (aq (mG _ _ _ _) fun _=>aL (ai _) (aq (zP _ _ _ _ _ _) fun _=>aL (ai _) (ai _)))
theorem IK (u:Int)(P:Nat→List Int)(k:Int):bH (tkP d u P k):=
 aL (ai _) (aL (ai _) (aq (Fj R H hw hn _ _) fun _=>ai _))
theorem zQ {u k:Int}(h:oC d u k):bV n (fun L=>kr L∧L.length≤mostV d) (xD d u k):=by
 have h1:=IJ R H hw hn h
 have hm:0<mostV d:=by rw[rL R H hw hn];omega
 refine au (js h1.1 _ _ kr.nil) fun L q=>aX (fun _=>aj n ⟨q.1,by have:=q.2;simpa using this⟩) (fun _=>?_)
 refine au (js h1.2 _ _ kr.nil) fun L q=>aX (fun _=>aj n ⟨q.1,by have:=q.2;simpa using this⟩) (fun _=>?_)
 exact au (uf H (Ds R H hw hn) k _ [] kr.nil hm) fun L q=>aX (fun _=>aj n q) (fun _=>aj n ⟨kr.nil,by simp⟩)
theorem IL {u k:Int}(h:oC d u k):bR n (xD d u k) (Mu d u k):=by
 have h1:=IJ R H hw hn h
 refine a6 (aD (oE h1.1 _ []) fun L=>bJ (fun _=>ax n L) (fun _=>aD (oE h1.2 _ []) fun L2=>bJ (fun _=>ax n L2) (fun _=>aD (BX H k _ []) fun L3=>bJ (fun _=>ax n L3) (fun _=>ax n [])))) fun ws _=>?_
 unfold Mu
 split
 ·rfl
 ·split
  ·rfl
  ·split
   ·rfl
   ·rename_i q
    have e:(xC d.us d.pg d.st k (mostV d) [] (dk (biV d k) d.bi (mostV d) [] (dk (caV d u k) d.ca (mostV d) [] ws).2).2).1= []:=List.length_eq_zero_iff.1 (by omega)
    exact Prod.ext e.symm rfl
theorem lm {k:Nat}(hk:k<5):∀(L:List Int) (P:Nat→List Int),dr d P→kr L→((P k).length:Int)+L.length≤d.pr→dr d (bE k d.pr P L)
 | [],P,h,_,_=>h
 |a::t,P,h,hL,hl=>by
  simp only[List.length_cons] at hl
  show dr d (bE k d.pr (ea P k a d.pr) t)
  have e:=ko P hk a (lim:=d.pr) (by omega)
  rw[e]
  refine lm hk t _ (vP h hk (hL a (by simp)) (by omega)) (fun x hx=>hL x (by simp[hx])) ?_
  rw[jK];simp;omega
theorem zR {P:Nat→List Int}{k:Nat}(hk:k<5)(h:¬gG P k=true):P k= []:=by
 rcases List.eq_nil_or_concat (P k) with e|⟨xs,x,e⟩
 ·exact e
 ·rw[List.concat_eq_append] at e
  exact absurd (kY P hk e).1 h
theorem Ks (u:Int)(P:Nat→List Int)(k:Int)(hP:dr d P):bV n (fun x=>W64 x.1.1∧dr d x.2) (tkP d u P k):=by
 have w0:W64 0:=by unfold W64;constructor<;>decide
 refine aX (fun _=>aj n ⟨w0,hP⟩) (fun q=>?_)
 have h:=(jM R u k).1 q
 obtain⟨j,rfl⟩:∃j:Nat,k=j:=⟨k.toNat,by have:=h.1;omega⟩
 have hj:j<5:=by have:=h.2.1;omega
 refine aX (fun e=>aj n ⟨tK hP.w e,?_⟩) (fun e=>?_)
 ·exact fun i hi=>⟨by show((gM P j i).length:Int)≤d.pr;have:=(hP i hi).1;have:=tM P j i;omega,fun a ha=>tL hP.w j i hi a ha⟩
 ·refine au (zQ R H hw hn h) fun L hL=>aj n ⟨?_,?_⟩
  ·match L,hL.1 with
   | [],_=>exact w0
   |a::t,hL=>exact hL a (by simp)
  ·have e0:=zR R H hw hn hj e
   have hm:=hL.2
   rw[rL R H hw hn] at hm
   refine lm R H hw hn hj _ P hP (fun a ha=>hL.1 a (List.mem_of_mem_tail ha)) ?_
   have h1:=R.ba1;have h2:=R.pr1
   rw[e0,List.length_tail]
   unfold frM at hm
   simp
   split at hm<;>omega
theorem Kt (u:Int)(P:Nat→List Int)(k:Int)(hP:dr d P):bR n (tkP d u P k) (tkW d u P k):=by
 by_cases q:caV d u k=0
 ·have nk:¬oC d u k:=fun z=>(jM R u k).2 z q
  unfold tkP tkW
  rw[if_pos q]
  refine a6 (ax n _) fun ws _=>?_
  rw[if_neg nk]
 ·have h:=(jM R u k).1 q
  obtain⟨j,rfl⟩:∃j:Nat,k=j:=⟨k.toNat,by have:=h.1;omega⟩
  have hj:j<5:=by have:=h.2.1;omega
  obtain⟨q0,q1,q2,q3⟩:=id h
  obtain⟨_,a2,a3,_⟩:=iX (d:=d) (u:=u.toNat) (c:=(j:Int).toNat) (by omega) (by omega)
  obtain⟨_,b2,b3,_⟩:=ni (d:=d) (c:=(j:Int).toNat) (by have:=R.cp1;omega) (by omega)
  unfold tkP
  rw[if_neg q]
  by_cases e:gG P j=true
  ·rw[if_pos e]
   refine a6 (ax n _) fun ws _=>?_
   unfold tkW my
   rw[if_pos h]
   simp only[Int.toNat_natCast]
   rw[if_pos e]
  ·rw[if_neg e]
   refine a6 (aD (IL R H hw hn h) fun L=>ax n _) fun ws _=>?_
   unfold tkW my
   rw[if_pos h]
   simp only[Int.toNat_natCast] at a2 a3 b2 b3⊢
   rw[if_neg e]
   have ca:(famC d).b (5 * u.toNat+j)=caV d u j:=by rw[a2];unfold caV;rw[show((u.toNat:Nat):Int)=u by omega]
   have bi:(famC d).b (5 * d.cp.toNat+j)=biV d j:=by rw[b2];rfl
   have hm:=rL R H hw hn
   have P0:bE (j:Int) d.pr P []=P:=rfl
   unfold Mu
   rw[hm]
   have popE:∀b l ws,dk b l (frM d+1) [] ws=if 0<a8 l (wAt ws b) then((bb b l ws).1.1::(dk b l (frM d) [] (bb b l ws).2).1,(dk b l (frM d) [] (bb b l ws).2).2) else([],ws):=fun b l ws=>by
    have e1:dk b l (frM d+1) [] ws=if(bb b l ws).1.2 then dk b l (frM d) ([(bb b l ws).1.1]++ []) (bb b l ws).2 else([],(bb b l ws).2):=rfl
    rw[e1,uh]
    by_cases z:0<a8 l (wAt ws b)
    ·have:(bb b l ws).1.2=true:=by unfold bb;simp only[if_pos z]
     rw[if_pos z,if_pos this];rfl
    ·have:bb b l ws=((0,false),ws):=by unfold bb;simp only[if_neg z]
     rw[if_neg z,this];rfl
   have popT:∀b l ws,0<a8 l (wAt ws b)→(bb b l ws).1.2=true:=fun b l ws z=>by unfold bb;simp only[if_pos z]
   rw[popE,popE]
   have hk0:mu (famC d) (5 * u.toNat+j) (5 * d.cp.toNat+j) ws=if 0<a8 d.ca (wAt ws (caV d u j)) then 0 else if 0<a8 d.bi (wAt ws (biV d j)) then 1 else 2:=by
    unfold mu;rw[ca,a3,bi,b3]
   by_cases z0:0<a8 d.ca (wAt ws (caV d u j))
   ·rw[if_pos z0] at hk0
    simp only[if_pos z0]
    rw[hk0]
    have f0:jv d.us d.pg d.st (famC d) (5 * u.toNat+j) (5 * d.cp.toNat+j) (j:Int) (kZ 0) ws=bb (caV d u j) d.ca ws:=by
     show bb _ _ ws=_;rw[ca,a3]
    have M:=vR d.us d.pg d.st (famC d) (5 * u.toNat+j) (5 * d.cp.toNat+j) j d.pr P (frM d) [] (bb (caV d u j) d.ca ws).2
    rw[P0,ca,a3] at M
    rw[f0,if_pos (popT _ _ _ z0),M]
    simp
   ·rw[if_neg z0] at hk0
    simp only[if_neg z0,List.length_nil,Nat.lt_irrefl,if_false]
    by_cases z1:0<a8 d.bi (wAt ws (biV d j))
    ·rw[if_pos z1] at hk0
     simp only[if_pos z1]
     rw[hk0]
     have f0:jv d.us d.pg d.st (famC d) (5 * u.toNat+j) (5 * d.cp.toNat+j) (j:Int) (kZ 1) ws=bb (biV d j) d.bi ws:=by
      show bb _ _ ws=_;rw[bi,b3]
     have M:=vS d.us d.pg d.st (famC d) (5 * u.toNat+j) (5 * d.cp.toNat+j) j d.pr P (frM d) [] (bb (biV d j) d.bi ws).2
     rw[P0,bi,b3] at M
     rw[f0,if_pos (popT _ _ _ z1),M]
     simp
    ·rw[if_neg z1] at hk0
     simp only[if_neg z1,List.length_nil,Nat.lt_irrefl,if_false]
     rw[hk0]
     have f0:jv d.us d.pg d.st (famC d) (5 * u.toNat+j) (5 * d.cp.toNat+j) (j:Int) (kZ 2) ws=dd d.us d.pg d.st j ws:=rfl
     have M:=vT d.us d.pg d.st (famC d) (5 * u.toNat+j) (5 * d.cp.toNat+j) j d.pr P (frM d) [] (dd d.us d.pg d.st j ws).2
     rw[P0] at M
     rw[f0,M]
     have e2:xC d.us d.pg d.st j (frM d+1) [] ws=if(dd d.us d.pg d.st j ws).1.2 then hU d.us d.pg d.st j (frM d) ([(dd d.us d.pg d.st j ws).1.1]++ []) (dd d.us d.pg d.st j ws).2 else([],(dd d.us d.pg d.st j ws).2):=rfl
     rw[e2,ui]
     by_cases g:(dd d.us d.pg d.st j ws).1.2=true
     ·rw[if_pos g,if_pos g]
      simp
     ·rw[if_neg g,if_neg g]
      rfl
end
end Go.Proofs.YtddmeghbmdfgeaaGreatDoor
