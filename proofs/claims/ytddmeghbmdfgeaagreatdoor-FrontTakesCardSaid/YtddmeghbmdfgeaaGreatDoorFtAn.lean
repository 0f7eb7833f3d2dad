/-
  Layer 14's statements: whose step it is, and which of the blocks that were told is meant.
-/
import Derived.Test.YtddmeghbmdfgeaaGreatDoorFtAm
import Derived.Test.YtddmeghbmdfgeaaGreatDoorFtAl
import Derived.IntWalk
import Derived.Test.YtddmeghbmdfgeaaGreatDoorFtAf
import Derived.Test.YtddmeghbmdfgeaaGreatDoorFtAj
import Derived.Test.YtddmeghbmdfgeaaGreatDoorFtAg
set_option maxRecDepth 100000
set_option maxHeartbeats 8000000
set_option linter.all false
namespace Go.Proofs.YtddmeghbmdfgeaaGreatDoor
open Go.RowKit Go.Shelf
theorem IV (w:World):BlR w.heap.size (w.alloc (.cells #[] 48)) (.slice (some ⟨w.heap.size,0,none⟩) 0 0) [] :=
 ⟨rfl,.inr ⟨_,0,_,rfl,Nat.le_refl _,bz w _,Nat.le_refl _,by simp[maxLen],rfl,rfl⟩⟩
theorem BlR.own {base:Nat}{w:World}{v:Value}{its:List Bl}(h:BlR base w v its):∀k,v.ownBlock=some k→base≤k:=by
 intro k q
 rcases h.2 with⟨rfl,_⟩|⟨g,cap,cur,rfl,hb,_⟩
 ·cases q
 ·cases q;exact hb
theorem BlR.lt {base:Nat}{w:World}{v:Value}{its:List Bl}(h:BlR base w v its):∀k,v.ownBlock=some k→k<w.heap.size:=by
 intro k q
 rcases h.2 with⟨rfl,_⟩|⟨g,cap,cur,rfl,_,hb,_⟩
 ·cases q
 ·cases q;exact ac hb
theorem oq {w w':World}{base:Nat}{v:Value}{its:List Bl}(h:BlR base w v its){S:Nat→Prop}(t:Turned S w w')(hs:∀k,v.ownBlock=some k→¬S k):BlR base w' v its:=by
 refine⟨h.1,?_⟩
 rcases h.2 with q|⟨g,cap,cur,rfl,h2,h3,h4⟩
 ·exact .inl q
 ·exact .inr ⟨g,cap,cur,rfl,h2,(t.block g (ac h3) (hs g rfl)).trans h3,h4⟩
theorem rH {w w1 w2:World}{S T:Nat→Prop}(m:Turned S w w1)(t:Turned T w1 w2)(hs:∀k,T k→w.heap.size≤k):Turned S w w2 :=
 ⟨t.os.trans m.os,t.tape.trans m.tape,t.output.trans m.output,Nat.le_trans m.size t.size,fun k hk q=>by
  rw[t.block k (Nat.lt_of_lt_of_le hk m.size) (fun z=>by have:=hs k z;omega)];exact m.block k hk q⟩
theorem rO {P:Program}(w:World)(s off:Nat)(ty:TypeId)(v0 v1:Value)(d:TypeDesc)(h0:w.cell? ⟨s,off,none⟩=some v0)(h1:w.cell? ⟨s,off+1,none⟩=some v1)
 (hu:P.underlying ty=some d) (hd:(match d with| .struct _| .array _ _=>true|_=>false)=true) (hi:(P.info? ty).map (·.size)=some 2):
 (loadVar ty ⟨s,off,none⟩).run P w=.ok (.agg #[v0,v1]) w:=by
 have hl:(loadCells ⟨s,off,none⟩ [v0,v1].length).run P w=.ok [v0,v1].toArray w :=
  run_loadCells_list (P:=P) w ⟨s,off,none⟩ [v0,v1] (fun j v hv=>by
   rw[js]
   match j,hv with
   | 0,hv=>cases hv;exact h0
   | 1,hv=>cases hv;exact h1
   |j+2,hv=>simp at hv)
 cases hq:P.info? ty with
 |none=>simp[hq] at hi
 |some i =>
  have hs:i.size=2:=by simpa [hq] using hi
  have hagg:(isAgg ty).run P w=.ok true w:=by
   unfold isAgg
   rw[Sem.run_bind,run_underlying hu w]
   cases d<;>simp_all
  simp only[List.length_cons,List.length_nil,Nat.reduceAdd] at hl
  simp[loadVar,Sem.run_bind,hagg,sizeOf,typeInfo,hq,hs,hl]
theorem zY {P:Program}{ops:Array Oper}{C:World→Prop}{o:Oper}{a:Act}(hw:Region.wanted o (yielded ops a.tmps)=true)(ty:TypeId)(x:Operand)(ho:o.op=.load ty x)
 (s off:Nat) (hx:a.eval x=.pointer (some ⟨s,off,none⟩)) (v0 v1:Value) (d:TypeDesc) (hg:∀W,C W→W.cell? ⟨s,off,none⟩=some v0∧W.cell? ⟨s,off+1,none⟩=some v1)
 (hu:P.underlying ty=some d) (hd:(match d with| .struct _| .array _ _=>true|_=>false)=true) (hi:(P.info? ty).map (·.size)=some 2):bM P ops C o (.agg #[v0,v1]) a:=by
 refine .inl ⟨hw,fun W hW=>?_⟩
 obtain⟨h0,h1⟩:=hg W hW
 unfold execOp
 simp only[ho,hx,Instr.loadAt,Instr.sureAddr,Sem.run_bind,Sem.run_pure,Result.andThen_ok,rO W s off ty v0 v1 d h0 h1 hu hd hi]
theorem zZ {w w1 w2:World}{S:Nat→Prop}(m:ae w w1)(t:Turned S w1 w2)(hs:∀k,S k→w.heap.size≤k):ae w w2 :=
 ⟨t.os.trans m.os,t.tape.trans m.tape,t.output.trans m.output,Nat.le_trans m.size t.size,fun k hk _=>by
  rw[t.block k (Nat.lt_of_lt_of_le hk m.size) (fun q=>by have:=hs k q;omega)];exact Turned.block m k hk (fun q=>q)⟩
theorem Cf (x:Int):0≤IntKind.u64.wrap x:=sU x
def wkV (x:Int):Int:=IntKind.u64.wrap x % 2
theorem Nd (x:Int):wkV x=0∨wkV x=1:=by unfold wkV;omega
theorem OL (x:Int):wrap64 ((IntKind.u64.wrap x).tmod 2)=wkV x:=by
 rw[Int.tmod_eq_emod_of_nonneg (Cf x)]
 unfold wrap64 wkV;omega
theorem Fr (k x u c m:Int)(w:World):Calls Tryz.prog 38 #[.agg #[.int .i64 k,.int .i64 x,.int .i64 u,.int .i64 c,.int .i64 m]] w (aQ w (.int .i64 (wkV x))):=by
 obtain⟨w1,e1,hl1,m1,s1⟩:=en1 w (.cells #[.int .i64 k,.int .i64 x,.int .i64 u,.int .i64 c,.int .i64 m] 77)
 have c1:w1.cell? ⟨w.heap.size,1,none⟩=some (.int .i64 x):=by simp[World.cell?,hl1]
 have M1:=hQQ m1
 have hw:=hQQ (OL x)
 clear hl1 m1
 go_enter Tryz.func38,Tryz.ntmps38
 go_wp2_with fail
 rw[hw.o]
 refine bodyPost_ret (v:=.int .i64 (wkV x)) (by simp[results,Tryz.results38,go_sem]) rfl ⟨rfl,M1.o⟩
def xJ (b:Nat)(w:World)(its:List Bl)(val:Value→Value)(e:Ending)(w':World):Prop:=∃v,e=.returned (val v)∧BlR b w' v its∧ae w w'
def nthI (k:Int)(n:Nat):Nat:=(IntKind.u64.wrap k % (n:Int)).toNat
theorem KI (k:Int){n:Nat}(h:0<n):nthI k n<n:=by
 have h1:=Int.emod_nonneg (IntKind.u64.wrap k) (show(n:Int)≠0 by omega)
 have h2:=Int.emod_lt_of_pos (IntKind.u64.wrap k) (show 0<(n:Int) by omega)
 unfold nthI;omega
theorem Nf (k:Int){n:Nat}(h:0<n)(h':n≤1000000):IntKind.i64.wrap ((IntKind.u64.wrap k).tmod (n:Int))=(nthI k n:Int):=by
 have h1:=Int.emod_nonneg (IntKind.u64.wrap k) (show(n:Int)≠0 by omega)
 have h2:=Int.emod_lt_of_pos (IntKind.u64.wrap k) (show 0<(n:Int) by omega)
 rw[Int.tmod_eq_emod_of_nonneg (Cf k),IntWalk.i64_in _ (by omega)]
 unfold nthI;omega
theorem Ng (v:Value)(k:Int)(w:World)(h:BlR 0 w v []):Calls Tryz.prog 39 #[v,.int .i64 k] w (xJ 0 w [] (fun v=> .tuple #[.agg #[.int .i64 0,.int .i64 0],v,.bool false])):=by
 obtain⟨w1,e1,hl1,m1,s1⟩:=en1 w (.cells #[.int .i64 0,.int .i64 0] 48)
 have L1:=hQQ hl1
 have M1:=hQQ m1
 have HP:=hQQ (h.more m1)
 have HT:=h.lt
 obtain⟨av,cv,rfl,_,_,_⟩:=h.at
 simp only[List.length_nil] at HP HT⊢
 have FIN:Hq (∀W,ae w1 W→xJ 0 w [] (fun v=> .tuple #[.agg #[.int .i64 0,.int .i64 0],v,.bool false]) (.returned (.tuple #[.agg #[.int .i64 0,.int .i64 0],.slice av 0 cv,.bool false])) (W.setRow w.heap.size #[.int .i64 0,.int .i64 0])):=hQQ fun W hW =>
  ⟨_,rfl,oq (base:=0) (HP.o.more hW) (S:=fun k=>k=w.heap.size) (Turned.setRow (Turned.refl _ W) _ _ (fun _=>rfl)) (fun k q z=>by
    subst z
    have:=HT _ q
    omega),(M1.o.trans hW).setRow _ _ (by omega)⟩
 clear hl1 m1 h s1 HT
 go_enter Tryz.func39,Tryz.ntmps39
 go_wp2_with (refine wpList_store_row rfl 48 _ _ rfl _ _ rfl rfl 48 _ L1.o (by kernel_rfl) rfl (by simp[Value.oneCell']) ?_)
 refine bodyPost_ret (v:=.tuple #[.agg #[.int .i64 0,.int .i64 0],.slice av 0 cv,.bool false]) (se Tryz.results39 _ _ _ 48 _ (0,0) _ rfl (setRow_heap _ _ _ _ _ _ L1.o) Tryz.underlying48 rfl (by kernel_rfl)) rfl (FIN.o _ (ae.refl _))
theorem KJ (v:Value)(its:List Bl)(k x y:Int)(w:World)(h:BlR 0 w v its)(hl:its.length≤100000)(hm:its[nthI k its.length]?=some (x,y)):
 Calls Tryz.prog 39 #[v,.int .i64 k] w (xJ w.heap.size w (its.take (nthI k its.length)++its.drop (nthI k its.length+1)) (fun v=> .tuple #[.agg #[.int .i64 x,.int .i64 y],v,.bool true])):=by
 obtain⟨wr,e1,hl1,m1,s1⟩:=en1 w (.cells #[.int .i64 0,.int .i64 0] 48)
 have BR:=hQQ hl1
 have M1:=hQQ m1
 have HP:=hQQ (h.more m1)
 have HT:=h.lt
 obtain⟨av,cv,rfl,hnc,_,hr⟩:=(h.more m1).at
 obtain⟨m,hmm⟩:∃m,nthI k its.length=m:=⟨_,rfl⟩
 obtain⟨its',hits'⟩:∃its',its.take m++its.drop (m+1)=its':=⟨_,rfl⟩
 rw[hmm] at hm⊢
 rw[hits']
 have hmn:m<its.length:=(List.getElem?_eq_some_iff.1 hm).1
 have hrem:=Nf k (n:=its.length) (by omega) (by omega)
 rw[hmm] at hrem
 obtain⟨g,rfl,cc1,cc2⟩:=hr m _ hm
 simp only at cc1 cc2
 have hcv:g<w.heap.size:=HT g rfl
 have CA:Hq (∀i x,(blCells its)[i]?=some x→wr.cell? ⟨g,i,none⟩=some x):=hQQ (by
  obtain⟨a,cap,hv,_,_,hc⟩:=HP.o.reads
  cases hv
  intro i x hi
  exact(hc _ rfl).2 i x hi)
 have EI:=hQQ hits'
 have LL:=hQQ hl
 obtain⟨n,hn⟩:∃n,its.length=n:=⟨_,rfl⟩
 have HN:=hQQ hn
 rw[hn] at hmn hnc hrem
 rw[hn]
 have hmc:m≤cv:=by omega
 have HG:=hQQ hcv
 have S1:=hQQ s1
 have KW:Hq (∀W,Turned (fun b=>b=w.heap.size) wr W→∀i x,wr.cell? ⟨g,i,none⟩=some x→W.cell? ⟨g,i,none⟩=some x):=hQQ fun W hW i x hi=>by
  rw[World.cell?_of_block (w:=wr) (Turned.block hW g (by have:=S1.o;have:=HG.o;omega) (by have:=HG.o;omega))]
  exact hi
 have C1:=hQQ cc1
 have C2:=hQQ cc2
 have KX:Hq (∀W,Turned (fun b=>b=w.heap.size) wr W→W.cell? ⟨g,m * 2,none⟩=some (.int .i64 x)∧W.cell? ⟨g,m * 2+1,none⟩=some (.int .i64 y)):=hQQ fun W hW=>⟨KW.o W hW _ _ C1.o,KW.o W hW _ _ C2.o⟩
 have SL:Hq (∀W,Turned (fun b=>b=w.heap.size) wr W→zX W (.slice (some ⟨g,0,none⟩) m cv) (its.take m)):=hQQ fun W hW=>Cd (fun i x hi=>KW.o W hW _ _ (CA.o i x hi)) (by have:=HN.o;omega)
 have SH:Hq (∀W,Turned (fun b=>b=w.heap.size) wr W→zX W (.slice (some (hiB g m cv)) (n-(m+1)) (cv-(m+1))) (its.drop (m+1))):=hQQ fun W hW=>by
  have:=Ce (c:=cv-(m+1)) (fun i x hi=>KW.o W hW _ _ (CA.o i x hi)) (m:=m) (cv:=cv) (by have:=HN.o;omega) (by have:=HN.o;omega)
  rwa [HN.o] at this
 have FN:Hq (∀v9 wa,BlR w.heap.size wa v9 its'→Turned (fun b=>b=w.heap.size) wr wa→xJ w.heap.size w its' (fun v=> .tuple #[.agg #[.int .i64 x,.int .i64 y],v,.bool true]) (.returned (.tuple #[.agg #[.int .i64 x,.int .i64 y],v9,.bool true])) wa):=hQQ fun v9 wa ir t=>⟨v9,rfl,ir,zZ M1.o t (fun k q=>by omega)⟩
 have LW:Hq (w.heap.size≤wr.heap.size):=hQQ (by omega)
 have QW:Hq (IntKind.i64.wrap ((m:Int)+1)=(m:Int)+1):=hQQ (IntWalk.i64_in _ (by have:=LL.o;have:=HN.o;omega))
 have un:IntKind.u64.wrap (n:Int)=n:=IntWalk.u64_in _ (by omega)
 have n0:((n:Int)==0)=false:=by simp;omega
 have n1:decide ((n:Int)=0)=false:=by simp;omega
 have n2:(n:Int)≠0:=by omega
 clear hl1 m1 h s1 hr hl hn HP hits' hmm hm cc1 cc2 HT hcv
 go_enter Tryz.func39,Tryz.ntmps39
 go_wp2_with fail
 refine aO (fun W=>Turned (fun b=>b=w.heap.size) wr W) (by kernel_rfl) ?_
 change dg _ _ _ _ _ _ _ _ (wr.drewN 1)
 have MR:Hq (Turned (fun b=>b=w.heap.size) wr (wr.drewN 1)):=hQQ ((Turned.refl _ wr).drewN 1)
 have BQ:Hq ((wr.drewN 1).heap[w.heap.size]?=some (.cells #[.int .i64 0,.int .i64 0] 48 (0,0))):=hQQ BR.o
 generalize wr.drewN 1=wq at MR BQ⊢
 generalize hA:Act.mk _ _=A
 have HF:AG 34 A [(0,.slice (some ⟨g,0,none⟩) n cv),(4,.pointer (some ⟨w.heap.size,0,none⟩)),(7,.int .i64 (m:Int))]:=by
  rw[←hA];try simp only[pts,List.foldl]
  refine⟨⟨Nat.le_of_ble_eq_true rfl,rfl⟩,?_⟩
  intro z hz;simp only[List.mem_cons,List.not_mem_nil,or_false] at hz;rcases hz with rfl|rfl|rfl<;>rfl
 refine bL (fun a W=>a.eval (.tmp 4)=.pointer (some ⟨w.heap.size,0,none⟩)∧a.eval (.tmp 6)=.bool true∧a.defers= []∧∃v,a.eval (.tmp 5)=v∧BlR w.heap.size W v its'∧W.heap[w.heap.size]?=some (.cells #[.int .i64 x,.int .i64 y] 48 (0,0))∧Turned (fun b=>b=w.heap.size) wr W) (fun _=>False) [] (fun a W hd h=>h.elim) (fun _ _ _ _ _ h=>h) ?_ ?_
 ·skip
  rintro a9 wa ⟨hp,hs,hd,v9,hx,ir,hg,MS⟩
  have FIN:=hQQ (FN.o v9 wa ir MS)
  have HG:=hQQ hg
  clear HF hA MR ir MS hg
  obtain⟨ts,ds⟩:=a9
  simp only[Act.eval] at hs hx hp
  obtain rfl:ds= []:=hd
  go_wp2_with fail
  refine bodyPost_ret (v:=.tuple #[.agg #[.int .i64 x,.int .i64 y],v9,.bool true]) ((se Tryz.results39 _ _ _ 48 _ (0,0) _ hp HG.o Tryz.underlying48 rfl (by kernel_rfl)).trans (by rw[hx,hs])) rfl FIN.o
 intro QQ FINE FIND FINQ
 clear hA
 refine tqM 0 20 0 rfl (.inl rfl) rfl (by kernel_rfl) FINQ MR.o HF fun A β1 HF=>?_
 refine tqM 1 21 3 rfl (.inl rfl) rfl (by kernel_rfl) FINQ MR.o HF fun A β2 HF=>?_
 refine tqC 2 22 (.pointer (some ⟨g,m * 2,none⟩)) (by kernel_rfl) FINQ MR.o HF (by exact uV (ab rfl) rfl (HF.get 1 rfl) (HF.get 0 rfl) hmn) fun A β3 HF=>?_
 refine tqC 3 23 (.agg #[.int .i64 x,.int .i64 y]) (by kernel_rfl) FINQ MR.o HF (by exact zY (ab rfl) 48 _ rfl g (m * 2) (HF.get 0 rfl) (.int .i64 x) (.int .i64 y) _ (fun W hW=>KX.o W hW) Tryz.underlying48 rfl (by kernel_rfl)) fun A β4 HF=>?_
 refine tqM 5 25 4 rfl (.inl rfl) rfl (by kernel_rfl) FINQ MR.o HF fun A β5 HF=>?_
 refine tqM 6 26 7 rfl (.inl rfl) rfl (by kernel_rfl) FINQ MR.o HF fun A β6 HF=>?_
 refine tqC 7 27 (.slice (some ⟨g,0,none⟩) m cv) (by kernel_rfl) FINQ MR.o HF (by exact uT (ab rfl) rfl (HF.get 1 rfl) (HF.get 0 rfl) hmc) fun A β7 HF=>?_
 refine tqM 9 29 7 rfl (.inl rfl) rfl (by kernel_rfl) FINQ MR.o HF fun A β8 HF=>?_
 refine tqM 10 30 10 rfl (.inl rfl) rfl (by kernel_rfl) FINQ MR.o HF fun A β9 HF=>?_
 refine tqC 11 31 (.int .i64 ((m:Int)+1)) (by kernel_rfl) FINQ MR.o HF (by exact gR (ab rfl) rfl (HF.get 0 rfl) rfl _ QW.o) fun A β10 HF=>?_
 refine tqC 12 32 (.slice (some (hiB g m cv)) (n-(m+1)) (cv-(m+1))) (by kernel_rfl) FINQ MR.o HF (by exact uU (ab rfl) rfl (HF.get 2 rfl) (HF.get 0 rfl) hmn hnc) fun A β11 HF=>?_
 refine tqO 4 24 (by kernel_rfl) HF fun K hK=>?_
 refine KH rfl ?_
 have M1:Hq (Turned (fun b=>b=w.heap.size) wr (wq.alloc (.cells #[] 48))):=hQQ (MR.o.alloc _)
 have Z1:=hQQ (IV wq)
 have B1:=hQQ (((ae.refl wq).alloc (.cells #[] 48)).block BQ.o)
 refine hK _ _ M1.o fun A β12 HF=>?_
 clear hK K
 refine bo (i:=8) (some 28) (by kernel_rfl) rfl (ab rfl) rfl (fun K hK=>?_)
 refine xI _ _ rfl (HF.get 0 rfl) Z1.o (by simp) (HF.get 5 rfl) (SL.o _ M1.o) (by have:=LL.o;simp;omega) ?_
 intro v2 w2 r2 t2 k2
 obtain⟨a2,c2,hv2,_⟩:=r2.reads
 subst hv2
 have M2:Hq (Turned (fun b=>b=w.heap.size) wr w2):=hQQ (rH M1.o t2 (fun k q=>by have:=Z1.o.own k q;have:=MR.o.size;omega))
 have R2:Hq (BlR wq.heap.size w2 (.slice a2 ([]++its.take m).length c2) (its.take m)):=hQQ r2
 have G2:Hq (wq.heap.size≤w2.heap.size):=hQQ (by have:=t2.size;simp at this;omega)
 have B2:Hq (w2.heap[w.heap.size]?=some (.cells #[.int .i64 0,.int .i64 0] 48 (0,0))):=hQQ ((t2.block _ (ac B1.o) (fun q=>by have:=Z1.o.own _ q;have:=ac BQ.o;omega)).trans B1.o)
 refine hK _ _ M2.o ?_
 clear hK K r2 t2 k2
 replace HF:=HF.put 28 (.slice a2 ([]++its.take m).length c2) (by decide) rfl
 generalize β13:Act.put _ _ _=A at HF⊢
 refine bo (i:=13) (some 33) (by kernel_rfl) rfl (ab rfl) rfl (fun K hK=>?_)
 refine xI _ _ rfl (HF.get 0 rfl) R2.o (G2.o) (HF.get 2 rfl) (SH.o _ M2.o) (by have:=LL.o;simp;omega) ?_
 intro v3 w3 r3 t3 k3
 obtain⟨a3,c3,hv3,_⟩:=r3.reads
 subst hv3
 have M3:Hq (Turned (fun b=>b=w.heap.size) wr w3):=hQQ (rH M2.o t3 (fun k q=>by have:=R2.o.own k q;have:=MR.o.size;omega))
 have R3:Hq (BlR wq.heap.size w3 (.slice a3 (its.take m++its.drop (m+1)).length c3) its'):=hQQ (by rw[←EI.o];exact r3)
 have B3:Hq (w3.heap[w.heap.size]?=some (.cells #[.int .i64 0,.int .i64 0] 48 (0,0))):=hQQ ((t3.block _ (ac B2.o) (fun q=>by have:=R2.o.own _ q;have:=ac BQ.o;omega)).trans B2.o)
 have N3:Hq (∀k,Value.ownBlock (.slice a3 (its.take m++its.drop (m+1)).length c3)=some k→wq.heap.size≤k):=hQQ fun k q=>R3.o.own k q
 refine hK _ _ M3.o ?_
 clear hK K r3 t3 k3
 replace HF:=HF.put 33 (.slice a3 (its.take m++its.drop (m+1)).length c3) (by decide) rfl
 generalize β14:Act.put _ _ _=A at HF⊢
 obtain⟨n3,hn3⟩:∃n3,(its.take m++its.drop (m+1)).length=n3:=⟨_,rfl⟩
 rw[hn3] at HF R3 N3
 clear hn3
 have M4:Hq (Turned (fun b=>b=w.heap.size) wr (w3.setRow (w.heap.size) #[.int .i64 x,.int .i64 y])):=hQQ (Turned.setRow M3.o _ _ (fun _=>rfl))
 have tS:Turned (fun k=>k=w.heap.size) w3 (w3.setRow (w.heap.size) #[.int .i64 x,.int .i64 y]):=Turned.setRow (Turned.refl _ w3) _ _ (fun _=>rfl)
 have R4:Hq (BlR wq.heap.size (w3.setRow (w.heap.size) #[.int .i64 x,.int .i64 y]) (.slice a3 n3 c3) its'):=hQQ (oq R3.o tS (fun k q z=>by have:=N3.o k q;have:=ac BQ.o;omega))
 refine bo (i:=14) none (by kernel_rfl) rfl (ab rfl) rfl (fun K hK=>?_)
 refine wp_store_row 48 _ _ rfl (w.heap.size) #[.int .i64 x,.int .i64 y] (HF.get 15 rfl) (HF.get 10 rfl) 48 _ B3.o (by kernel_rfl) rfl (by simp[Value.oneCell']) ?_
 refine hK _ _ M4.o ?_
 clear hK K
 replace HF:=HF.skipO undef
 generalize hBN:Act.put _ _ _=A at HF⊢
 refine tqM 15 5 0 rfl (.inr rfl) rfl (by kernel_rfl) FINQ M4.o HF fun A β15 HF=>?_
 refine tqC 16 6 (.bool true) (by kernel_rfl) FINQ M4.o HF (by exact cR (ab rfl) _ rfl rfl) fun A β16 HF=>?_
 exact bU (by kernel_rfl) (FINE _ _ ⟨HF.get 17 rfl,HF.get 0 rfl,HF.1.2,_,HF.get 1 rfl,R4.o.low (Nat.le_trans LW.o MR.o.size),setRow_heap _ _ _ _ _ _ B3.o,M4.o⟩)
open Go.ChangeShapes Go.WideShapes Go.ChangeAt Go.Joins Go.Deep
abbrev gA:=Int×Int×Int×Int×Int
def Nh (l:List gA):Prop:=∀i∈l,W64 i.1∧W64 i.2.1∧W64 i.2.2.1∧W64 i.2.2.2.1∧W64 i.2.2.2.2
def gC (w:World)(a:Option Addr)(l:List gA):Prop :=
 l= []∨∃s o,a=some ⟨s,o,none⟩∧s<w.heap.size∧∀i t,l[i]?=some t→w.cell? ⟨s,o+i * 5,none⟩=some (.int .i64 t.1)∧w.cell? ⟨s,o+i * 5+1,none⟩=some (.int .i64 t.2.1)∧w.cell? ⟨s,o+i * 5+2,none⟩=some (.int .i64 t.2.2.1)∧w.cell? ⟨s,o+i * 5+3,none⟩=some (.int .i64 t.2.2.2.1)∧w.cell? ⟨s,o+i * 5+4,none⟩=some (.int .i64 t.2.2.2.2)
theorem gC.keep {w w':World}{a:Option Addr}{l:List gA}(h:gC w a l){S:Nat→Prop}(t:Turned S w w')(hs:l≠ []→∀k,iJ a k→¬S k):gC w' a l:=by
 rcases h with h|⟨s,o,rfl,hl,hc⟩
 ·exact .inl h
 ·by_cases e:l= []
  ·exact .inl e
  ·exact .inr ⟨s,o,rfl,Nat.lt_of_lt_of_le hl t.size,fun i u hi=>by
    obtain⟨c0,c1,c2,c3,c4⟩:=hc i u hi
    exact⟨eh t (hs e s rfl) c0,eh t (hs e s rfl) c1,eh t (hs e s rfl) c2,eh t (hs e s rfl) c3,eh t (hs e s rfl) c4⟩⟩
theorem gC.more {w w':World}{a:Option Addr}{l:List gA}(h:gC w a l)(t:ae w w'):gC w' a l:=h.keep t (fun _ _ _ q=>q)
theorem gC.lt {w:World}{a:Option Addr}{l:List gA}(h:gC w a l)(hne:l≠ []):∀b,iJ a b→b<w.heap.size:=fun b hb=>by
 obtain⟨s,o,rfl,hs,_⟩:=h.resolve_left hne
 have:s=b:=by simpa [iJ] using hb
 omega
section
variable {H:Type}{enc:TypeId×Value→H}{P:Program}{w:World}{base:Nat}{spare:Nat→Bool}{held:Bool}
theorem xK {t:TypeId}{f0 f1 f2 f3 f4:Field}{fuel:Nat}{cs:List Value}{x:DataW H×List MemPlace}(ht:P.underlying t=some (.struct #[f0,f1,f2,f3,f4]))(h:DataW.trod enc P w base spare held fuel t cs=some x):
 ∃y0 y1 y2 y3 y4 n,cs.length=P.cellsOf t∧DataW.trod enc P w base spare held n f0.type ((cs.drop f0.offset).take (P.cellsOf f0.type))=some y0∧DataW.trod enc P w base spare held n f1.type ((cs.drop f1.offset).take (P.cellsOf f1.type))=some y1∧DataW.trod enc P w base spare held n f2.type ((cs.drop f2.offset).take (P.cellsOf f2.type))=some y2∧DataW.trod enc P w base spare held n f3.type ((cs.drop f3.offset).take (P.cellsOf f3.type))=some y3∧DataW.trod enc P w base spare held n f4.type ((cs.drop f4.offset).take (P.cellsOf f4.type))=some y4:=by
 obtain⟨xs,n,_,rfl,hl,hlen,hf⟩:=DataW.trod_struct ht h
 match xs,hlen with
 | [y0,y1,y2,y3,y4],_=>exact⟨y0,y1,y2,y3,y4,n,hl,by simpa using hf 0 f0 rfl,by simpa using hf 1 f1 rfl,by simpa using hf 2 f2 rfl,by simpa using hf 3 f3 rfl,by simpa using hf 4 f4 rfl⟩
theorem Fs {t e:TypeId}{f0 f1 f2 f3 f4:Field}{a:Option Addr}{len cap:Nat}{d:DataW H}{p:List MemPlace}(ht:P.underlying t=some (.slice e))(hs:P.underlying e=some (.struct #[f0,f1,f2,f3,f4]))(hone:oneCellFields P #[f0,f1,f2,f3,f4]=true)(hC:P.cellsOf e=5)
 (u0:P.underlying f0.type=some (.int .i64)) (u1:P.underlying f1.type=some (.int .i64)) (u2:P.underlying f2.type=some (.int .i64)) (u3:P.underlying f3.type=some (.int .i64)) (u4:P.underlying f4.type=some (.int .i64))
 (h:DataW.Trod enc P w base spare held t (.slice a len cap) d p):∃l:List gA,l.length=len∧gC w a l∧Nh l∧l.length≤9223372036854775807:=by
 obtain⟨fuel,hf⟩:=h
 have zero:∀n,len=n→n=0→∃l:List gA,l.length=len∧gC w a l∧Nh l∧l.length≤9223372036854775807:=fun n h0 h1=>⟨[],by rw[h0,h1];rfl,.inl rfl,(fun p hp=>by cases hp),by simp⟩
 rcases open_slice ht hf with⟨hcs,_⟩|⟨x,l,c,m,n,D,Pl,hcs,_,hl,hm,hmm,_,hi⟩
 ·simp[Value.cells] at hcs
  obtain⟨rfl,rfl,rfl⟩:=hcs
  exact zero _ rfl rfl
 ·simp[Value.cells] at hcs
  obtain⟨rfl,rfl,rfl⟩:=hcs
  have key:∀i,i<len→∃g:gA,w.cell? (x.add (i * 5))=some (.int .i64 g.1)∧w.cell? (x.add (i * 5+1))=some (.int .i64 g.2.1)∧w.cell? (x.add (i * 5+2))=some (.int .i64 g.2.2.1)∧w.cell? (x.add (i * 5+3))=some (.int .i64 g.2.2.2.1)∧w.cell? (x.add (i * 5+4))=some (.int .i64 g.2.2.2.2)∧W64 g.1∧W64 g.2.1∧W64 g.2.2.1∧W64 g.2.2.2.1∧W64 g.2.2.2.2:=by
   intro i hil
   obtain⟨cs',hc,ht'⟩:=hi i (by have:=hmm;split at this<;>omega)
   rw[hC] at hc
   obtain⟨_,hcl,hat⟩:=World.cells?_some hc
   obtain⟨c0,c1,c2,c3,c4,rfl⟩:∃c0 c1 c2 c3 c4,cs'= [c0,c1,c2,c3,c4]:=by
    match cs',hcl with
    | [c0,c1,c2,c3,c4],_=>exact⟨c0,c1,c2,c3,c4,rfl⟩
   obtain⟨y0,y1,y2,y3,y4,n',_,h0,h1,h2,h3,h4⟩:=xK hs ht'
   obtain⟨o0,k0⟩:=hone_of hone 0 f0 rfl
   obtain⟨o1,k1⟩:=hone_of hone 1 f1 rfl
   obtain⟨o2,k2⟩:=hone_of hone 2 f2 rfl
   obtain⟨o3,k3⟩:=hone_of hone 3 f3 rfl
   obtain⟨o4,k4⟩:=hone_of hone 4 f4 rfl
   rw[o0,k0] at h0;rw[o1,k1] at h1;rw[o2,k2] at h2;rw[o3,k3] at h3;rw[o4,k4] at h4
   obtain⟨x0,e0,_,w0⟩:=DataW.trod_int u0 h0
   obtain⟨x1,e1,_,w1⟩:=DataW.trod_int u1 h1
   obtain⟨x2,e2,_,w2⟩:=DataW.trod_int u2 h2
   obtain⟨x3,e3,_,w3⟩:=DataW.trod_int u3 h3
   obtain⟨x4,e4,_,w4⟩:=DataW.trod_int u4 h4
   simp at e0 e1 e2 e3 e4
   subst e0 e1 e2 e3 e4
   have a0:=hat 0 (by omega)
   have a1:=hat 1 (by omega)
   have a2:=hat 2 (by omega)
   have a3:=hat 3 (by omega)
   have a4:=hat 4 (by omega)
   rw[Go.Deep.add_add] at a0 a1 a2 a3 a4
   exact⟨(x0,x1,x2,x3,x4),a0,a1,a2,a3,a4,yo w0,yo w1,yo w2,yo w3,yo w4⟩
  by_cases h0:len=0
  ·exact zero _ rfl h0
  ·obtain⟨s,o,spot⟩:=x
   obtain⟨g0,hg0,_⟩:=key 0 (by omega)
   have hspot:spot=none:=by simpa [Addr.add] using World.cell?_spot hg0
   subst hspot
   have hF:∀i,∃g:gA,i<len→w.cell? ⟨s,o+i * 5,none⟩=some (.int .i64 g.1)∧w.cell? ⟨s,o+i * 5+1,none⟩=some (.int .i64 g.2.1)∧w.cell? ⟨s,o+i * 5+2,none⟩=some (.int .i64 g.2.2.1)∧w.cell? ⟨s,o+i * 5+3,none⟩=some (.int .i64 g.2.2.2.1)∧w.cell? ⟨s,o+i * 5+4,none⟩=some (.int .i64 g.2.2.2.2)∧W64 g.1∧W64 g.2.1∧W64 g.2.2.1∧W64 g.2.2.2.1∧W64 g.2.2.2.2:=by
    intro i
    by_cases hil:i<len
    ·obtain⟨g,hg⟩:=key i hil
     exact⟨g,fun _=>by simp only[Nat.add_assoc];simp only[←EV];exact hg⟩
    ·exact⟨(0,0,0,0,0),fun q=>absurd q hil⟩
   have hm':cap≤9223372036854775807:=by unfold maxLen at hm;exact hm
   have hspec:=fun i hil=>Classical.choose_spec (hF i) hil
   refine⟨(List.range len).map fun i=>Classical.choose (hF i),by simp,.inr ⟨s,o,rfl,eW (hspec 0 (by omega)).1,fun i t ht=>?_⟩,fun t ht=>?_,by simp;omega⟩
   ·obtain⟨hil,rfl⟩:=H5 ht
    have q:=hspec i hil
    exact⟨q.1,q.2.1,q.2.2.1,q.2.2.2.1,q.2.2.2.2.1⟩
   ·obtain⟨i,hi',rfl⟩:=List.mem_map.1 ht
    exact(hspec i (by simpa using hi')).2.2.2.2.2
end
theorem gC.range {w:World}{s o:Nat}{l:List gA}(h:gC w (some ⟨s,o,none⟩) l){j:Nat}{t:gA}(hj:l[j]?=some t):∀i v,([Value.int .i64 t.1,Value.int .i64 t.2.1,Value.int .i64 t.2.2.1,Value.int .i64 t.2.2.2.1,Value.int .i64 t.2.2.2.2]:List Value)[i]?=some v→w.cell? ⟨s,o+j * 5+i,none⟩=some v:=by
 rcases h with e|⟨s',o',e,_,hc⟩
 ·rw[e] at hj;simp at hj
 ·simp at e
  obtain⟨rfl,rfl⟩:=e
  obtain⟨c0,c1,c2,c3,c4⟩:=hc j t hj
  intro i v hv
  match i,hv with
  | 0,hv=>cases hv;exact c0
  | 1,hv=>cases hv;exact c1
  | 2,hv=>cases hv;exact c2
  | 3,hv=>cases hv;exact c3
  | 4,hv=>cases hv;exact c4
  |i+5,hv=>simp at hv
open Go.Sort Go.Maps
def nV (d:Cfg)(u c:Int):Prop:=0≤c∧c<5∧0≤u∧u<d.cp
instance (d:Cfg)(u c:Int):Decidable (nV d u c):=by unfold nV;infer_instance
def frM (d:Cfg):Nat:=(if d.ba-1≤d.pr then d.ba-1 else d.pr).toNat
def tkW (d:Cfg)(u:Int)(P:Nat→List Int)(c:Int)(ws:List Int):((Int×Bool)×(Nat→List Int))×List Int :=
 if nV d u c then fQ d.us d.pg d.st (famC d) (5 * u.toNat+c.toNat) (5 * d.cp.toNat+c.toNat) c.toNat d.pr (frM d) P ws else(((0,false),P),ws)
def gvW (d:Cfg)(u:Int)(P:Nat→List Int)(c a:Int)(ws:List Int):(Nat→List Int)×List Int :=
 if nV d u c then vW d.us d.pg d.st (famC d) (5 * u.toNat+c.toNat) (5 * d.cp.toNat+c.toNat) c.toNat d.pr d.ba.toNat a P ws else(P,ws)
structure FSt where
 P0:Nat→List Int
 P1:Nat→List Int
 O:List Bl
def FSt.at (s:FSt)(x:Int):Nat→List Int:=if wkV x=0 then s.P0 else s.P1
def FSt.put (s:FSt)(x:Int)(P:Nat→List Int):FSt:=if wkV x=0 then⟨P,s.P1,s.O⟩ else⟨s.P0,P,s.O⟩
def FSt.out (s:FSt)(O:List Bl):FSt:=⟨s.P0,s.P1,O⟩
def FSt.all (s:FSt):List Bl:=puO s.P0++(puO s.P1++s.O)
def gM (d:Cfg)(u:Int):Int:=IntKind.u64.wrap u % d.cp
def pX (d:Cfg)(t:gA)(s:FSt)(ws:List Int):FSt×List Int :=
 if t.1=0∨t.1=1 then
  (((s.put t.2.1 (tkW d (gM d t.2.2.1) (s.at t.2.1) t.2.2.2.1 ws).1.2).out (if(tkW d (gM d t.2.2.1) (s.at t.2.1) t.2.2.2.1 ws).1.1.2 then s.O++ [((tkW d (gM d t.2.2.1) (s.at t.2.1) t.2.2.2.1 ws).1.1.1,t.2.2.2.1)] else s.O)),(tkW d (gM d t.2.2.1) (s.at t.2.1) t.2.2.2.1 ws).2)
 else if t.1=2∨t.1=3 then
  match s.O[nthI t.2.2.2.2 s.O.length]? with
  |none=>(s,ws)
  |some b=>(((s.put t.2.1 (gvW d (gM d t.2.2.1) (s.at t.2.1) b.2 b.1 ws).1).out (s.O.take (nthI t.2.2.2.2 s.O.length)++s.O.drop (nthI t.2.2.2.2 s.O.length+1))),(gvW d (gM d t.2.2.1) (s.at t.2.1) b.2 b.1 ws).2)
 else if t.1=4 then(s.put t.2.1 (fun _=> []),qV d.us d.pg d.st (s.at t.2.1) ws)
 else if t.1=5 then(s,oW d.us d.pg d.st (famC d) (famC d).m ws)
 else(s,ws)
def gZ (d:Cfg):List gA→FSt→List Int→FSt×List Int
 | [],s,ws=>(s,ws)
 |t::l,s,ws=>gZ d l (pX d t s ws).1 (pX d t s ws).2
structure FrS (d:Cfg)(n:Nat)(s:FSt)(ws:List Int):Prop where
 fri:∃C,FrI d.us d.pg d.st n (famC d) ws C s.all
 lim:(∀j,j<5→((s.P0 j).length:Int)≤d.pr)∧∀j,j<5→((s.P1 j).length:Int)≤d.pr
def FSt.oth (s:FSt)(x:Int):List Bl:=if wkV x=0 then puO s.P1 else puO s.P0
theorem FSt.perm (s:FSt)(x:Int):s.all.Perm (puO (s.at x)++(s.oth x++s.O)):=by
 unfold FSt.all FSt.at FSt.oth
 rcases Nd x with e|e
 ·simp only[e,if_true];exact List.Perm.refl _
 ·simp only[e,show ¬((1:Int)=0) by omega,if_false]
  rw[←List.append_assoc,←List.append_assoc]
  exact List.perm_append_comm.append_right _
theorem FSt.perm2 (s:FSt)(x:Int)(P:Nat→List Int)(O:List Bl):((s.put x P).out O).all.Perm (puO P++(s.oth x++O)):=by
 unfold FSt.all FSt.put FSt.out FSt.oth
 rcases Nd x with e|e
 ·simp only[e,if_true];exact List.Perm.refl _
 ·simp only[e,show ¬((1:Int)=0) by omega,if_false]
  rw[←List.append_assoc,←List.append_assoc]
  exact List.perm_append_comm.append_right _
theorem FSt.out_same (s:FSt)(x:Int)(P:Nat→List Int):(s.put x P).out s.O=s.put x P:=by
 unfold FSt.put FSt.out;split<;>rfl
theorem FSt.lim_at {d:Cfg}{s:FSt}(h:(∀j,j<5→((s.P0 j).length:Int)≤d.pr)∧∀j,j<5→((s.P1 j).length:Int)≤d.pr)(x:Int):∀j,j<5→((s.at x j).length:Int)≤d.pr:=by
 unfold FSt.at
 split
 ·exact h.1
 ·exact h.2
theorem FSt.lim_put {d:Cfg}{s:FSt}(h:(∀j,j<5→((s.P0 j).length:Int)≤d.pr)∧∀j,j<5→((s.P1 j).length:Int)≤d.pr)(x:Int){P:Nat→List Int}(hP:∀j,j<5→((P j).length:Int)≤d.pr)(O:List Bl):(∀j,j<5→((((s.put x P).out O).P0 j).length:Int)≤d.pr)∧∀j,j<5→((((s.put x P).out O).P1 j).length:Int)≤d.pr:=by
 unfold FSt.put FSt.out
 split
 ·exact⟨hP,h.2⟩
 ·exact⟨h.1,hP⟩
section
variable {d:Cfg}(R:d.Ok){n:Nat}(H:cF d.pg d.st n)(hw:(n:Int)=d.words)(hn:n≤10000)
include R H hw hn
theorem wh:0≤d.us∧d.us+32 * d.pg≤1000000:=by
 have hb:=nZ R
 have e:d.words=d.us+32 * d.pg:=rfl
 have e2:d.us=eT d.cp d.pg d.st d.ca d.bi:=rfl
 omega
theorem xL {u c:Int}(P:Nat→List Int)(hP:∀j,j<5→((P j).length:Int)≤d.pr){ws:List Int}{C:Nat→List Int}{O:List Bl}(h:FrI d.us d.pg d.st n (famC d) ws C (puO P++O)):
 tkW d u P c ws=(((0,false),P),ws)∨∃a P' X C',tkW d u P c ws=(((a,true),P'),X)∧FrI d.us d.pg d.st n (famC d) X C' (puO P'++((a,c)::O))∧∀j,j<5→((P' j).length:Int)≤d.pr:=by
 unfold tkW
 split
 ·rename_i q
  obtain⟨q0,q1,q2,q3⟩:=q
  obtain⟨a1,_,_,a4⟩:=gK (d:=d) (u:=u.toNat) (c:=c.toNat) (by omega) (by omega)
  obtain⟨b1,_,_,b4⟩:=j5 (d:=d) (c:=c.toNat) (by have:=R.cp1;omega) (by omega)
  have hm:((frM d:Nat):Int)≤d.pr:=by have:=R.pr1;have:=R.ba1;unfold frM;split<;>omega
  rcases IG H (mR R hw) hn (wh R H hw hn) a1 b1 (k:=c.toNat) (by omega) a4 b4 d.pr (frM d) hm P hP h with e|⟨a,P',X,C',e,h',hl⟩
  ·exact .inl e
  ·refine .inr ⟨a,P',X,C',e,?_,hl⟩
   rw[show((c.toNat:Nat):Int)=c by omega] at h'
   exact h'
 ·exact .inl rfl
theorem KN {u c a:Int}(hu:0≤u∧u<d.cp)(P:Nat→List Int)(hP:∀j,j<5→((P j).length:Int)≤d.pr){ws:List Int}{C:Nat→List Int}{O:List Bl}(h:FrI d.us d.pg d.st n (famC d) ws C (puO P++((a,c)::O))):
 ∃P' X C',gvW d u P c a ws=(P',X)∧FrI d.us d.pg d.st n (famC d) X C' (puO P'++O)∧∀j,j<5→((P' j).length:Int)≤d.pr:=by
 obtain⟨G,W⟩:=h.pgs
 obtain⟨_,_,c0,c4,_⟩:=BJ H W ((h.acc a c).2 (by simp))
 unfold gvW
 rw[if_pos ⟨c0,by omega,hu.1,hu.2⟩]
 obtain⟨a1,_,_,a4⟩:=gK (d:=d) (u:=u.toNat) (c:=c.toNat) (by omega) (by omega)
 obtain⟨b1,_,_,b4⟩:=j5 (d:=d) (c:=c.toNat) (by have:=R.cp1;omega) (by omega)
 refine II H (mR R hw) hn (wh R H hw hn) a1 b1 (k:=c.toNat) (by omega) a4 b4 R.pr1 (by have:=R.ba1;omega) P hP (C:=C) ?_
 rw[show((c.toNat:Nat):Int)=c by omega]
 exact h
theorem Ni (u:Int):0≤gM d u∧gM d u<d.cp:=by
 have:=R.cp1
 exact⟨Int.emod_nonneg _ (by omega),Int.emod_lt_of_pos _ (by omega)⟩
theorem Cg (t:gA){s:FSt}{ws:List Int}(h:FrS d n s ws):FrS d n (pX d t s ws).1 (pX d t s ws).2:=by
 obtain⟨⟨C,hC⟩,hl⟩:=h
 have hS:=mR R hw
 obtain⟨kind,x,u,c,m⟩:=t
 have hC1:=hC.perm (s.perm x)
 have hlx:=FSt.lim_at hl x
 unfold pX
 simp only
 split
 ·rcases xL R H hw hn (u:=gM d u) (c:=c) (s.at x) hlx hC1 with e|⟨a,P',X,C',e,h',hl'⟩
  ·rw[e]
   refine⟨⟨C,?_⟩,FSt.lim_put hl x hlx _⟩
   simp only[Bool.false_eq_true,if_false]
   exact hC1.perm (s.perm2 x _ _).symm
  ·rw[e]
   refine⟨⟨C',?_⟩,FSt.lim_put hl x hl' _⟩
   simp only[if_true]
   refine h'.perm (List.Perm.trans ?_ (s.perm2 x _ _).symm)
   refine List.Perm.append_left _ ?_
   rw[←List.append_assoc]
   exact List.perm_append_comm (l₁:=[(a,c)])
 ·split
  ·split
   ·exact⟨⟨C,hC⟩,hl⟩
   ·rename_i b hb
    have hm:=List.getElem?_eq_some_iff.1 hb
    have hO:s.O.Perm (b::(s.O.take (nthI m s.O.length)++s.O.drop (nthI m s.O.length+1))):=by
     have e1:s.O=s.O.take (nthI m s.O.length)++b::s.O.drop (nthI m s.O.length+1):=by
      obtain⟨hlt,hv⟩:=hm
      rw[←hv,←List.drop_eq_getElem_cons hlt,List.take_append_drop]
     exact(List.Perm.of_eq e1).trans List.perm_middle
    obtain⟨ba,bc⟩:=b
    have h2:FrI d.us d.pg d.st n (famC d) ws C (puO (s.at x)++((ba,bc)::(s.oth x++(s.O.take (nthI m s.O.length)++s.O.drop (nthI m s.O.length+1))))):=hC1.perm (List.Perm.append_left _ ((hO.append_left _).trans List.perm_middle))
    obtain⟨P',X,C',e,h',hl'⟩:=KN R H hw hn (Ni R H hw hn u) (s.at x) hlx h2
    simp only
    rw[e]
    exact⟨⟨C',h'.perm (s.perm2 x _ _).symm⟩,FSt.lim_put hl x hl' _⟩
  ·split
   ·simp only
    rw[←s.out_same x (fun _=> [])]
    refine⟨⟨C,?_⟩,FSt.lim_put hl x (P:=fun _=> []) (fun j _=>by have:=R.pr1;simp;omega) s.O⟩
    refine(Fp H hS hn (s.at x) hC1).perm ?_
    exact(s.perm2 x (fun _=> []) s.O).symm
   ·split
    ·obtain⟨C',h',_⟩:=Fq H hS hn hC
     exact⟨⟨C',h'⟩,hl⟩
    ·exact⟨⟨C,hC⟩,hl⟩
theorem rI:∀(l:List gA) {s:FSt} {ws:List Int},FrS d n s ws→FrS d n (gZ d l s ws).1 (gZ d l s ws).2
 | [],_,_,h=>h
 |t::l,_,_,h=>rI l (Cg R H hw hn t h)
theorem Ft:FrS d n ⟨fun _=> [],fun _=> [],[]⟩ (cQ n):=
 ⟨⟨_,Fj R H hw d.us⟩,fun j _=>by have:=R.pr1;simp;omega,fun j _=>by have:=R.pr1;simp;omega⟩
end
def dr (d:Cfg)(P:Nat→List Int):Prop:=∀j,j<5→((P j).length:Int)≤d.pr∧∀a∈P j,W64 a
theorem dr.nil {d:Cfg}(R:d.Ok):dr d (fun _=> []):=fun j _=>⟨by have:=R.pr1;simp;omega,fun a ha=>by cases ha⟩
structure o8 (d:Cfg)(n bt:Nat) where
 tkP:Int→(Nat→List Int)→Int→Prg ((Int×Bool)×(Nat→List Int))
 gvP:Int→(Nat→List Int)→Int→Int→Prg (Unit×(Nat→List Int))
 flP:(Nat→List Int)→Prg (Unit×(Nat→List Int))
 drP:Prg Unit
 tkS:∀u P c,bH (tkP u P c)
 gvS:∀u P c a,bH (gvP u P c a)
 flS:∀P,bH (flP P)
 drS:bH drP
 tkG:∀u P c,dr d P→bZ n (fun x=>W64 x.1.1∧dr d x.2) (tkP u P c)
 gvG:∀u P c a,dr d P→W64 a→bZ n (fun x=>dr d x.2) (gvP u P c a)
 flG:∀P,dr d P→bZ n (fun x=>x.2=fun _=> []) (flP P)
 drG:bZ n (fun _=>True) drP
 tkF:∀u P c,dr d P→ci n (tkP u P c) (tkW d u P c)
 gvF:∀u P c a,dr d P→W64 a→ci n (gvP u P c a) (fun ws=>(((),(gvW d u P c a ws).1),(gvW d u P c a ws).2))
 flF:∀P,dr d P→ci n (flP P) (fun ws=>(((),fun _=> []),qV d.us d.pg d.st P ws))
 drF:ci n drP (fun ws=>((),oW d.us d.pg d.st (famC d) (famC d).m ws))
 tkC:∀(F N:Nat→Prop) (p:Nat) (kn:Int→Option Int) (D:List KV) (w:World) (u c:Int) (f:Nat→Value) (P:Nat→List Int),aF w F p kn D→OkK kn→cI n D→dh bt w→¬F 0→¬F bt→(∀q,N q→q<w.heap.size)→cS (fun q=>N q∨F q) w f P→dr d P →
  Calls Tryz.prog 30 #[.pointer (some ⟨p,0,none⟩),.agg d.arr,.int .i64 u,.agg (puA f),.int .i64 c] w (iV w F N p kn (fun x v=> .tuple #[.int .i64 x.1,v,.bool x.2]) (tkP u P c kn D))
 gvC:∀(F N:Nat→Prop) (p:Nat) (kn:Int→Option Int) (D:List KV) (w:World) (u c a:Int) (f:Nat→Value) (P:Nat→List Int),aF w F p kn D→OkK kn→cI n D→dh bt w→¬F 0→¬F bt→(∀q,N q→q<w.heap.size)→cS (fun q=>N q∨F q) w f P→dr d P→W64 a →
  Calls Tryz.prog 40 #[.pointer (some ⟨p,0,none⟩),.agg d.arr,.int .i64 u,.agg (puA f),.int .i64 c,.int .i64 a] w (iV w F N p kn (fun _ v=>v) (gvP u P c a kn D))
 flC:∀(F N:Nat→Prop) (p:Nat) (kn:Int→Option Int) (D:List KV) (w:World) (f:Nat→Value) (P:Nat→List Int),aF w F p kn D→OkK kn→cI n D→dh bt w→¬F 0→¬F bt→(∀q,N q→q<w.heap.size)→cS (fun q=>N q∨F q) w f P→dr d P →
  Calls Tryz.prog 17 #[.pointer (some ⟨p,0,none⟩),.agg d.arr,.agg (puA f)] w (iV w F N p kn (fun _ v=>v) (flP P kn D))
 drC:∀(F:Nat→Prop) (p:Nat) (kn:Int→Option Int) (D:List KV) (w:World),aF w F p kn D→OkK kn→cI n D→dh bt w→¬F 0→¬F bt →
  Calls Tryz.prog 18 #[.pointer (some ⟨p,0,none⟩),.agg d.arr] w (aI w F p kn (fun _:Unit=> .tuple #[]) (drP kn D))
structure OkS (d:Cfg)(s:FSt):Prop where
 l0:dr d s.P0
 l1:dr d s.P1
 o:∀b∈s.O,W64 b.1
theorem OkS.at {d:Cfg}{s:FSt}(h:OkS d s)(x:Int):dr d (s.at x):=by
 unfold FSt.at
 split
 ·exact h.l0
 ·exact h.l1
theorem OkS.put {d:Cfg}{s:FSt}(h:OkS d s)(x:Int){P:Nat→List Int}(hP:dr d P){O:List Bl}(hO:∀b∈O,W64 b.1):OkS d ((s.put x P).out O):=by
 unfold FSt.put FSt.out
 split
 ·exact⟨hP,h.l1,hO⟩
 ·exact⟨h.l0,hP,hO⟩
theorem OkS.nil {d:Cfg}(R:d.Ok):OkS d ⟨fun _=> [],fun _=> [],[]⟩:=⟨dr.nil R,dr.nil R,fun b hb=>by cases hb⟩
theorem Ch {α β:Type}{n:Nat}{p:Prg α}{f:α→Prg β}{g:List Int→α×List Int}{k:α→List Int→β×List Int}{Q:α→Prop}(h:ci n p g)(G:bZ n Q p)(hf:∀x,Q x→ci n (f x) (k x)):ci n (aq p f) (fun ws=>k (g ws).1 (g ws).2):=fun zs D hn hz hD=>by
 obtain⟨D1,e1,a1,i1⟩:=h zs D hn hz hD
 obtain⟨D2,e2,a2,i2⟩:=hf (g (cy zs D)).1 (G.ok (jX hz) hD e1).2 zs D1 hn hz i1
 refine⟨D2,?_,?_,i2⟩
 ·rw[aj e1,e2,a1]
 ·rw[a2,a1]
section
variable {d:Cfg}{n bt:Nat}(T:o8 d n bt)
def dG (t:gA)(s:FSt):Prg FSt :=
 if t.1=0∨t.1=1 then aq (T.tkP (gM d t.2.2.1) (s.at t.2.1) t.2.2.2.1) fun x=>az ((s.put t.2.1 x.2).out (if x.1.2 then s.O++ [(x.1.1,t.2.2.2.1)] else s.O))
 else if t.1=2∨t.1=3 then
  match s.O[nthI t.2.2.2.2 s.O.length]? with
  |none=>az s
  |some b=>aq (T.gvP (gM d t.2.2.1) (s.at t.2.1) b.2 b.1) fun x=>az ((s.put t.2.1 x.2).out (s.O.take (nthI t.2.2.2.2 s.O.length)++s.O.drop (nthI t.2.2.2.2 s.O.length+1)))
 else if t.1=4 then aq (T.flP (s.at t.2.1)) fun x=>az (s.put t.2.1 x.2)
 else if t.1=5 then aq T.drP fun _=>az s
 else az s
def dT:List gA→FSt→Prg FSt
 | [],s=>az s
 |t::l,s=>aq (dG T t s) fun s'=>dT l s'
theorem Aa (t:gA)(s:FSt):bH (dG T t s):=by
 unfold dG
 refine aG (ar (T.tkS _ _ _) fun _=>ah _) (aG ?_ (aG (ar (T.flS _) fun _=>ah _) (aG (ar T.drS fun _=>ah _) (ah _))))
 split
 ·exact ah _
 ·exact ar (T.gvS _ _ _ _) fun _=>ah _
theorem lN:∀(l:List gA) (s:FSt),bH (dT T l s)
 | [],s=>ah _
 |t::l,s=>ar (Aa T t s) fun s'=>lN l s'
theorem uw (R:d.Ok)(t:gA){s:FSt}(h:OkS d s):bZ n (fun s'=>OkS d s'∧s'.O.length≤s.O.length+1) (dG T t s):=by
 unfold dG
 split
 ·refine aw (T.tkG _ _ _ (h.at _)) fun x hx=>ai n ⟨h.put _ hx.2 fun b hb=>?_,?_⟩
  ·split at hb
   ·rcases List.mem_append.1 hb with q|q
    ·exact h.o b q
    ·obtain rfl:=List.mem_singleton.1 q;exact hx.1
   ·exact h.o b hb
  ·have e:∀(s:FSt) O,(FSt.out s O).O=O:=fun _ _=>rfl
   rw[e];split<;>simp
 ·split
  ·split
   ·exact ai n ⟨h,by omega⟩
   ·rename_i b hb
    refine aw (T.gvG _ _ _ _ (h.at _) (h.o b (List.mem_of_getElem? hb))) fun x hx=>ai n ⟨h.put _ hx fun b' hb'=>?_,?_⟩
    ·rcases List.mem_append.1 hb' with q|q
     ·exact h.o b' (List.mem_of_mem_take q)
     ·exact h.o b' (List.mem_of_mem_drop q)
    ·have e:∀(s:FSt) O,(FSt.out s O).O=O:=fun _ _=>rfl
     rw[e];simp;omega
  ·split
   ·refine aw (T.flG _ (h.at _)) fun x hx=>ai n ?_
    rw[←s.out_same,hx]
    exact⟨h.put _ (dr.nil R) h.o,by show s.O.length≤_;omega⟩
   ·split
    ·exact aw T.drG fun _ _=>ai n ⟨h,by omega⟩
    ·exact ai n ⟨h,by omega⟩
theorem mU (R:d.Ok):∀(l:List gA) {s:FSt},OkS d s→bZ n (fun s'=>OkS d s'∧s'.O.length≤s.O.length+l.length) (dT T l s)
 | [],s,h=>ai n ⟨h,by simp⟩
 |t::l,s,h=>aw (uw T R t h) fun s' hs=>d8 (mU R l hs.1) fun s2 h2=>⟨h2.1,by have:=h2.2;have:=hs.2;simp;omega⟩
theorem Ci (t:gA){s:FSt}(h:OkS d s):ci n (dG T t s) (pX d t s):=by
 unfold dG
 have e:pX d t s=fun ws=>pX d t s ws:=rfl
 rw[e]
 unfold pX
 split
 ·exact aC (T.tkF _ _ _ (h.at _)) fun x=>au n _
 ·split
  ·split
   ·rename_i hb
    try simp only[hb]
    exact au n _
   ·rename_i b hb
    try simp only[hb]
    exact aC (T.gvF _ _ _ _ (h.at _) (h.o b (List.mem_of_getElem? hb))) fun x=>au n _
  ·split
   ·exact aC (T.flF _ (h.at _)) fun x=>au n _
   ·split
    ·exact aC T.drF fun x=>au n _
    ·exact au n _
theorem mV (R:d.Ok):∀(l:List gA) {s:FSt},OkS d s→ci n (dT T l s) (gZ d l s)
 | [],s,h=>au n _
 |t::l,s,h=>Ch (Ci T t h) (uw T R t h) fun s' hs=>mV R l hs.1
end
def wy3 (d:Cfg)(u k:Int):List WayD:= [.room (caV d u k) d.ca,.room (biV d k) d.bi,.home]
def gvP (d:Cfg)(u:Int)(P:Nat→List Int)(k a:Int):Prg (Unit×(Nat→List Int)):=
 if caV d u k=0 then az ((),P)
 else aq (if d.pr≤cP P k then dF d.us d.pg d.st (wy3 d u k) k d.ba.toNat P else az P) fun P'=>az ((),ed P' k a (cP P' k+1))
def flN (d:Cfg):Nat→Nat→(Nat→List Int)→Prg (Nat→List Int)
 | _,0,P=>az P
 |k,m+1,P=>aq (dF d.us d.pg d.st [.home] k (P k).length P) fun P'=>flN d (k+1) m P'
def flP (d:Cfg)(P:Nat→List Int):Prg (Unit×(Nat→List Int)):=aq (flN d 0 5 P) fun _=>az ((),fun _=> [])
def drP (d:Cfg):Prg Unit:=fj d.us d.pg d.st [.home] (famL (famC d) (famC d).m)
theorem cS.congr {F:Nat→Prop}{w:World}{f:Nat→Value}{P P':Nat→List Int}(h:cS F w f P)(e:∀j,j<5→P j=P' j):cS F w f P':=⟨fun j hj=>(e j hj)▸h.1 j hj,h.2⟩
section
variable {d:Cfg}(R:d.Ok)
include R
theorem ke (u k:Int):caV d u k≠0↔nV d u k:=by
 have h1:=R.ca1;have h2:=R.st1;have h3:=R.pg1
 unfold caV fF nV
 split
 ·rename_i h
  obtain⟨a,b,c,e⟩:=h
  refine⟨fun _=>⟨c,by omega,a,b⟩,fun _=>?_⟩
  have:0≤(5 * u+k) * (d.ca+1):=Int.mul_nonneg (by omega) (by omega)
  unfold du a8 aY aL
  omega
 ·rename_i h
  refine⟨fun q=>absurd rfl q,fun q=>absurd ⟨q.2.2.1,q.2.2.2,q.1,by omega⟩ h⟩
variable {n:Nat}(hw:(n:Int)=d.words)
include hw
theorem Cj {i:Nat}(hi:i<(famC d).m)(H:cF d.pg d.st n)(hn:n≤10000):eQ ((famC d).b i) ((famC d).l i) n:=BN H (mR R hw) hn hi
end
theorem dr.w {d:Cfg}{P:Nat→List Int}(h:dr d P):pU P:=fun j hj=>(h j hj).2
theorem dr.len {d:Cfg}(R:d.Ok){P:Nat→List Int}(h:dr d P):∀j,j<5→(P j).length≤1000000:=fun j hj=>by have:=(h j hj).1;have:=R.pr2;omega
theorem wl (xs:List Int)(x:Int)(m:Nat):(xs++ [x]).take ((xs++ [x]).length-(m+1))=xs.take (xs.length-m):=by
 rw[List.length_append,show xs.length+ [x].length-(m+1)=xs.length-m by simp]
 exact List.take_append_of_le_length (by omega)
section
variable (us pg st:Int)(wy:List WayD){k:Nat}(hk:k<5)
include hk
theorem rJ:∀(m:Nat) (P:Nat→List Int) (ws:List Int),(iw us pg st wy k m P ws).1=dk P k ((P k).take ((P k).length-m))
 | 0,P,ws=>by
   show P=_
   rw[Nat.sub_zero,List.take_length,eR]
 |m+1,P,ws=>by
  have e0:iw us pg st wy k (m+1) P ws=if gY P k then iw us pg st wy k m (ib P k) (oZ us pg st wy (iv P k) ws) else(P,ws):=rfl
  rw[e0]
  rcases List.eq_nil_or_concat (P k) with e|⟨xs,x,e⟩
  ·rw[if_neg (by rw[pR P hk e];simp),e,List.take_nil]
   show P=dk P k []
   rw[←e,eR]
  ·rw[List.concat_eq_append] at e
   obtain⟨b1,b2,b3⟩:=j6 P hk e
   rw[if_pos b1,b3,rJ m,lJ,j9,e,wl]
theorem lO {n:Nat}(H:cF pg st n)(hy:∀y∈wy,jP n y):∀(m:Nat) (P:Nat→List Int),pU P→bZ n (fun P'=>P'=dk P k ((P k).take ((P k).length-m))) (dF us pg st wy k m P)
 | 0,P,_=>ai n (by rw[Nat.sub_zero,List.take_length,eR])
 |m+1,P,h=>by
  refine aN (fun e=>aw (pV H (ug h e) hy) fun _ _=>d8 (lO H hy m _ (uh h k)) fun P' q=>?_) (fun e=>ai n ?_)
  ·rcases List.eq_nil_or_concat (P k) with e1|⟨xs,x,e1⟩
   ·rw[pR P hk e1] at e;cases e
   ·rw[List.concat_eq_append] at e1
    obtain⟨b1,b2,b3⟩:=j6 P hk e1
    rw[q,b3,lJ,j9,e1,wl]
  ·rcases List.eq_nil_or_concat (P k) with e1|⟨xs,x,e1⟩
   ·rw[e1,List.take_nil,←e1,eR]
   ·rw[List.concat_eq_append] at e1
    exact absurd (j6 P hk e1).1 e
end
theorem Fu {d:Cfg}{P:Nat→List Int}(h:dr d P)(k:Nat)(m:Nat):dr d (dk P k ((P k).take m)):=fun j hj=>by
 unfold dk
 split
 ·rename_i e;subst e
  exact⟨by have:=(h j hj).1;simp;omega,fun a ha=>(h j hj).2 a (List.mem_of_mem_take ha)⟩
 ·exact h j hj
theorem ux (P:Nat→List Int){k:Nat}(hk:k<5)(a:Int):ed P k a (cP P k+1)=dk P k (P k++ [a]):=kS P hk a (by rw[dR P hk];omega)
theorem wn {d:Cfg}{P:Nat→List Int}(h:dr d P){k:Nat}(hk:k<5){a:Int}(ha:W64 a)(hl:((P k).length:Int)<d.pr):dr d (dk P k (P k++ [a])):=fun j hj=>by
 unfold dk
 split
 ·refine⟨by simp;omega,fun x hx=>?_⟩
  rcases List.mem_append.1 hx with q|q
  ·exact(h k hk).2 x q
  ·rw[List.mem_singleton.1 q];exact ha
 ·exact h j hj
section
variable {d:Cfg}(R:d.Ok){n:Nat}(H:cF d.pg d.st n)(hw:(n:Int)=d.words)(hn:n≤10000)
include R H hw hn
theorem IW {u k:Int}(h:nV d u k):wy3 d u k= [.room ((famC d).b (5 * u.toNat+k.toNat)) ((famC d).l (5 * u.toNat+k.toNat)),.room ((famC d).b (5 * d.cp.toNat+k.toNat)) ((famC d).l (5 * d.cp.toNat+k.toNat)),.home]:=by
 obtain⟨q0,q1,q2,q3⟩:=h
 obtain⟨_,a2,a3,_⟩:=gK (d:=d) (u:=u.toNat) (c:=k.toNat) (by omega) (by omega)
 obtain⟨_,b2,b3,_⟩:=j5 (d:=d) (c:=k.toNat) (by have:=R.cp1;omega) (by omega)
 rw[a2,a3,b2,b3]
 unfold wy3 caV biV
 rw[show((u.toNat:Nat):Int)=u by omega,show((k.toNat:Nat):Int)=k by omega]
theorem xM {u k:Int}(h:nV d u k):∀y∈wy3 d u k,jP n y:=by
 rw[IW R H hw hn h]
 obtain⟨q0,q1,q2,q3⟩:=h
 have a1:=(gK (d:=d) (u:=u.toNat) (c:=k.toNat) (by omega) (by omega)).1
 have b1:=(j5 (d:=d) (c:=k.toNat) (by have:=R.cp1;omega) (by omega)).1
 intro y hy
 simp only[List.mem_cons,List.not_mem_nil,or_false] at hy
 rcases hy with rfl|rfl|rfl
 ·exact Cj R hw a1 H hn
 ·exact Cj R hw b1 H hn
 ·trivial
theorem IX (u:Int)(P:Nat→List Int)(k a:Int):bH (gvP d u P k a):=
 aG (ah _) (ar (aG (mT _ _ _ _ _ _ _) (ah _)) fun _=>ah _)
theorem uy {u:Int}{P:Nat→List Int}{k:Nat}(h:nV d u k)(hP:dr d P):bZ n (fun P'=>dr d P'∧((P' k).length:Int)<d.pr) (if d.pr≤cP P k then dF d.us d.pg d.st (wy3 d u k) k d.ba.toNat P else az P):=by
 have hk:k<5:=by have:=h.2.1;omega
 refine aN (fun q=>?_) (fun q=>ai n ⟨hP,by rw[dR P hk] at q;omega⟩)
 refine d8 (lO _ _ _ _ hk H (xM R H hw hn h) _ P hP.w) fun P' e=>?_
 subst e
 refine⟨Fu hP k _,?_⟩
 rw[j9]
 have h1:=(hP k hk).1
 have h2:=R.ba1
 have h3:=R.pr1
 rw[dR P hk] at q
 simp
 omega
theorem KO (u:Int)(P:Nat→List Int)(k a:Int)(hP:dr d P)(ha:W64 a):bZ n (fun x=>dr d x.2) (gvP d u P k a):=by
 unfold gvP
 refine aN (fun _=>ai n hP) (fun q=>?_)
 have h:=(ke R u k).1 q
 obtain⟨j,rfl⟩:∃j:Nat,k=j:=⟨k.toNat,by have:=h.1;omega⟩
 have hj:j<5:=by have:=h.2.1;omega
 refine aw (uy R H hw hn h hP) fun P' hp=>ai n ?_
 show dr d (ed P' j a (cP P' j+1))
 rw[ux P' hj]
 exact wn hp.1 hj ha hp.2
theorem KQ (u:Int)(P:Nat→List Int)(k a:Int)(hP:dr d P)(ha:W64 a):ci n (gvP d u P k a) (fun ws=>(((),(gvW d u P k a ws).1),(gvW d u P k a ws).2)):=by
 by_cases q:caV d u k=0
 ·have nk:¬nV d u k:=fun z=>(ke R u k).2 z q
  unfold gvP gvW
  rw[if_pos q]
  refine aX (au n _) fun ws _=>?_
  rw[if_neg nk]
 ·have h:=(ke R u k).1 q
  obtain⟨j,rfl⟩:∃j:Nat,k=j:=⟨k.toNat,by have:=h.1;omega⟩
  have hj:j<5:=by have:=h.2.1;omega
  unfold gvP
  rw[if_neg q]
  by_cases hf:d.pr≤cP P j
  ·rw[if_pos hf]
   have G:=uy R H hw hn h hP
   rw[if_pos hf] at G
   refine aX (o6 (o7 H (xM R H hw hn h) j _ P hP.w) G fun P' hp=>au n _) fun ws _=>?_
   unfold gvW vW
   rw[if_pos h]
   rw[dR P hj] at hf
   have e1:(P (j:Int).toNat).length=(P j).length:=by simp
   rw[if_pos (by simpa using hf)]
   rw[IW R H hw hn h]
   have e2:=uo d.us d.pg d.st (famC d) (5 * u.toNat+(j:Int).toNat) (5 * d.cp.toNat+(j:Int).toNat) j d.ba.toNat P ws
   have e3:=rJ d.us d.pg d.st [.room ((famC d).b (5 * u.toNat+(j:Int).toNat)) ((famC d).l (5 * u.toNat+(j:Int).toNat)),.room ((famC d).b (5 * d.cp.toNat+(j:Int).toNat)) ((famC d).l (5 * d.cp.toNat+(j:Int).toNat)),.home] hj d.ba.toNat P ws
   rw[e2] at e3
   rw[e2]
   simp only[Int.toNat_natCast] at e3⊢
   rw[e3]
   rw[ux _ hj,kS _ hj a]
   rw[j9]
   have h1:=(hP j hj).1
   have h2:=R.ba1
   have h3:=R.pr1
   simp
   omega
  ·rw[if_neg hf]
   refine aX (aC (au n P) fun P'=>au n _) fun ws _=>?_
   unfold gvW vW
   rw[if_pos h]
   rw[dR P hj] at hf
   rw[if_neg (by simpa using hf)]
   simp only[Int.toNat_natCast]
   rw[ux _ hj,kS _ hj a (by omega)]
theorem wo:∀(k m:Nat) (P:Nat→List Int),bH (flN d k m P)
 | _,0,P=>ah _
 |k,m+1,P=>ar (mT _ _ _ _ _ _ _) fun P'=>wo (k+1) m P'
theorem IY (P:Nat→List Int):bH (flP d P):=ar (wo R H hw hn _ _ _) fun _=>ah _
theorem lP:∀y∈ [WayD.home],jP n y:=fun y hy=>by rw[List.mem_singleton.1 hy];trivial
theorem Ab:∀(k m:Nat) (P:Nat→List Int),k+m≤5→pU P→bZ n (fun P'=>pU P'∧(∀j,j<k→P' j=P j)∧∀j,k≤j→j<k+m→P' j= []) (flN d k m P)
 | _,0,P,_,h=>ai n ⟨h,fun _ _=>rfl,fun j h1 h2=>by omega⟩
 |k,m+1,P,hk,h=>by
  refine aw (lO _ _ _ _ (by omega) H (lP R H hw hn) _ P h) fun P1 e=>?_
  rw[Nat.sub_self,List.take_zero] at e
  subst e
  have hw1:pU (dk P k []):=fun j hj a ha=>by
   unfold dk at ha
   split at ha
   ·cases ha
   ·exact h j hj a ha
  refine d8 (Ab (k+1) m _ (by omega) hw1) fun P' q=>⟨q.1,fun j hj=>?_,fun j h1 h2=>?_⟩
  ·rw[q.2.1 j (by omega)];unfold dk;rw[if_neg (by omega)]
  ·by_cases e:j=k
   ·subst e;rw[q.2.1 j (by omega),j9]
   ·exact q.2.2 j (by omega) (by omega)
theorem KR (P:Nat→List Int)(hP:dr d P):bZ n (fun x=>x.2=fun _=> []) (flP d P):=aw (Ab R H hw hn 0 5 P (by omega) hP.w) fun _ _=>ai n rfl
def KU (d:Cfg):Nat→Nat→(Nat→List Int)→List Int→(Nat→List Int)×List Int
 | _,0,P,ws=>(P,ws)
 |k,m+1,P,ws=>KU d (k+1) m (iw d.us d.pg d.st [.home] k (P k).length P ws).1 (iw d.us d.pg d.st [.home] k (P k).length P ws).2
theorem Ac:∀(k m:Nat) (P:Nat→List Int),k+m≤5→pU P→ci n (flN d k m P) (fun ws=>KU d k m P ws)
 | _,0,P,_,h=>au n P
 |k,m+1,P,hk,h=>o6 (o7 H (lP R H hw hn) k _ P h) (uk H (lP R H hw hn) k _ P h) fun P1 q=>Ac (k+1) m P1 (by omega) q.1
theorem IZ (P:Nat→List Int)(ws:List Int):(KU d 0 5 P ws).2=qV d.us d.pg d.st P ws:=by
 simp only[KU]
 have L:=fun(k:Nat) (hk:k<5) (Q:Nat→List Int) (ws:List Int)=>rB d.us d.pg d.st hk _ Q ws rfl
 rw[L 0 (by omega)]
 simp only
 rw[L 1 (by omega)]
 simp only
 rw[L 2 (by omega)]
 simp only
 rw[L 3 (by omega)]
 simp only
 rw[L 4 (by omega)]
 simp only[dk]
 rfl
theorem KY (P:Nat→List Int)(hP:dr d P):ci n (flP d P) (fun ws=>(((),fun _=> []),qV d.us d.pg d.st P ws)):=
 aX (aC (Ac R H hw hn 0 5 P (by omega) hP.w) fun _=>au n _) fun ws _=>by rw[←IZ R H hw hn]
theorem Ck:∀s∈famL (famC d) (famC d).m,eQ s.1 s.2 n:=fun s hs=>by
 obtain⟨i,hi,rfl⟩:=zR _ hs
 exact Cj R hw hi H hn
theorem I0:bH (drP d):=pT _ _ _ _ _
theorem KZ:bZ n (fun _=>True) (drP d):=ry H (lP R H hw hn) _ (Ck R H hw hn)
theorem K5:ci n (drP d) (fun ws=>((),oW d.us d.pg d.st (famC d) (famC d).m ws)):=
 aX (rz H (lP R H hw hn) _ (Ck R H hw hn)) fun ws _=>by rw[pW]
end
section
variable (us pg st:Int)
def hH (b l:Int):Nat→List Int→Prg (List Int)
 | 0,L=>az L
 |m+1,L=>aq (ee b l) fun x=>if x.2 then hH b l m (L++ [x.1]) else az L
def mW (k:Int):Nat→List Int→Prg (List Int)
 | 0,L=>az L
 |m+1,L=>aq (j0 pg st k) fun r=>if r then aq (kJ us pg st k) fun x=>if x.2 then mW k m (L++ [x.1]) else az L else az L
def jQ (k:Int)(m:Nat)(L:List Int):Prg (List Int):=aq (kJ us pg st k) fun x=>if x.2 then mW us pg st k (m-(L.length+1)) (L++ [x.1]) else az L
def dp (b l:Int):Nat→List Int→List Int→List Int×List Int
 | 0,L,ws=>(L,ws)
 |m+1,L,ws=>if(aZ b l ws).1.2 then dp b l m (L++ [(aZ b l ws).1.1]) (aZ b l ws).2 else(L,(aZ b l ws).2)
def iy (k:Int):Nat→List Int→List Int→List Int×List Int
 | 0,L,ws=>(L,ws)
 |m+1,L,ws=>if jg pg st k ws then(if(c7 us pg st k ws).1.2 then iy k m (L++ [(c7 us pg st k ws).1.1]) (c7 us pg st k ws).2 else(L,(c7 us pg st k ws).2)) else(L,ws)
def xN (k:Int)(m:Nat)(L:List Int)(ws:List Int):List Int×List Int:=if(c7 us pg st k ws).1.2 then iy us pg st k (m-(L.length+1)) (L++ [(c7 us pg st k ws).1.1]) (c7 us pg st k ws).2 else(L,(c7 us pg st k ws).2)
theorem mX (b l:Int):∀(m:Nat) (L:List Int),bH (hH b l m L)
 | 0,L=>ah _
 |m+1,L=>ar (ru _ _) fun x=>aG (mX b l m _) (ah _)
theorem rK (k:Int):∀(m:Nat) (L:List Int),bH (mW us pg st k m L)
 | 0,L=>ah _
 |m+1,L=>ar (tz _ _ _) fun r=>aG (ar (tE _ _ _ _) fun x=>aG (rK k m _) (ah _)) (ah _)
theorem Ad (k:Int)(m:Nat)(L:List Int):bH (jQ us pg st k m L):=ar (tE _ _ _ _) fun x=>aG (rK us pg st k _ _) (ah _)
end
def kU (L:List Int):Prop:=∀a∈L,W64 a
theorem kU.nil:kU []:=fun a h=>by cases h
theorem kU.snoc {L:List Int}(h:kU L){a:Int}(ha:W64 a):kU (L++ [a]):=fun x hx=>by
 rcases List.mem_append.1 hx with q|q
 ·exact h x q
 ·rw[List.mem_singleton.1 q];exact ha
theorem jR {b l:Int}{n:Nat}(H:eQ b l n):∀(m:Nat) (L:List Int),kU L→bZ n (fun L'=>kU L'∧L'.length≤L.length+m) (hH b l m L)
 | 0,L,h=>ai n ⟨h,by simp⟩
 |m+1,L,h=>aw (iu H) fun x hx=>aN (fun _=>d8 (jR H m _ (h.snoc hx)) fun L' q=>⟨q.1,by have:=q.2;simp at this;omega⟩) (fun _=>ai n ⟨h,by omega⟩)
theorem o9 {b l:Int}{n:Nat}(H:eQ b l n):∀(m:Nat) (L:List Int),ci n (hH b l m L) (dp b l m L)
 | 0,L=>au n _
 |m+1,L=>by
  refine aX (aC (oU H) fun x=>bh (fun _=>o9 H m (L++ [x.1])) (fun _=>au n L)) fun ws _=>?_
  have e:dp b l (m+1) L ws=if(aZ b l ws).1.2 then dp b l m (L++ [(aZ b l ws).1.1]) (aZ b l ws).2 else(L,(aZ b l ws).2):=rfl
  rw[e]
theorem Ow (k:Int):0≤szV k∧szV k≤16:=by
 unfold szV
 (repeat' split)<;>omega
section
variable {us pg st:Int}{n:Nat}(H:cF pg st n)(hu:0≤us∧us+32 * pg≤1000000)
include H
theorem DG (k:Int):bZ n (fun _=>True) (j0 pg st k):=aw (gg H _ _ _) fun _ _=>ai n trivial
include hu
theorem uz (k:Int):bZ n (fun x=>W64 x.1) (kJ us pg st k):=aw (oL H k) fun q hq=>aN (fun _=>ai n (by unfold W64;constructor<;>decide)) (fun h=>by
 have hq:=hq.resolve_left h
 have PB:=cx H.toPgIn hq
 have hq':=ay.1 hq
 refine aw (a6 n PB.2.2.2.1) fun b hb=>aN (fun _=>ai n (by unfold W64;constructor<;>decide)) (fun _=>aw (a6 n PB.2.1.2.1) fun was _=>aw (ip H.toPgIn hq (rZ hb _)) fun _ _=>aw (io H q k was hq) fun _ _=>ai n ?_)
 have h1: -1≤bS b (ax k)∧bS b (ax k)≤64:=by rcases Dm b (ax k) with z|z<;>omega
 have h2:=Ow k
 have h3: -16≤bS b (ax k) * szV k:=by
  have:(-1) * szV k≤bS b (ax k) * szV k:=Int.mul_le_mul_of_nonneg_right h1.1 h2.1
  omega
 have h4:bS b (ax k) * szV k≤64 * 16:=by
  have e1:bS b (ax k) * szV k≤64 * szV k:=Int.mul_le_mul_of_nonneg_right h1.2 h2.1
  omega
 unfold W64
 constructor<;>omega)
theorem uA (k:Int):∀(m:Nat) (L:List Int),kU L→bZ n (fun L'=>kU L'∧L'.length≤L.length+m) (mW us pg st k m L)
 | 0,L,h=>ai n ⟨h,by simp⟩
 |m+1,L,h=>aw (DG H k) fun r _=>aN (fun _=>aw (uz H hu k) fun x hx=>aN (fun _=>d8 (uA k m _ (h.snoc hx)) fun L' q=>⟨q.1,by have:=q.2;simp at this;omega⟩) (fun _=>ai n ⟨h,by omega⟩)) (fun _=>ai n ⟨h,by omega⟩)
theorem uB (k:Int)(m:Nat)(L:List Int)(h:kU L)(hm:L.length<m):bZ n (fun L'=>kU L'∧L'.length≤m) (jQ us pg st k m L):=
 aw (uz H hu k) fun x hx=>aN (fun _=>d8 (uA H hu k _ _ (h.snoc hx)) fun L' q=>⟨q.1,by have:=q.2;simp at this;omega⟩) (fun _=>ai n ⟨h,by omega⟩)
omit hu
theorem uC (k:Int):∀(m:Nat) (L:List Int),ci n (mW us pg st k m L) (iy us pg st k m L)
 | 0,L=>au n _
 |m+1,L=>by
  refine aX (aC (vT H k) fun r=>bh (fun _=>aC (qS H us k) fun x=>bh (fun _=>uC k m (L++ [x.1])) (fun _=>au n L)) (fun _=>au n L)) fun ws _=>?_
  have e:iy us pg st k (m+1) L ws=if jg pg st k ws then(if(c7 us pg st k ws).1.2 then iy us pg st k m (L++ [(c7 us pg st k ws).1.1]) (c7 us pg st k ws).2 else(L,(c7 us pg st k ws).2)) else(L,ws):=rfl
  rw[e]
theorem Cl (k:Int)(m:Nat)(L:List Int):ci n (jQ us pg st k m L) (xN us pg st k m L):=
 aC (qS H us k) fun x=>bh (fun _=>uC H k _ (L++ [x.1])) (fun _=>au n L)
end
theorem uD (b l:Int):∀(m:Nat) (A L ws:List Int),dp b l m (A++L) ws=(A++(dp b l m L ws).1,(dp b l m L ws).2)
 | 0,A,L,ws=>rfl
 |m+1,A,L,ws=>by
  unfold dp
  split
  ·rw[List.append_assoc,uD b l m]
  ·rfl
theorem uE (us pg st k:Int):∀(m:Nat) (A L ws:List Int),iy us pg st k m (A++L) ws=(A++(iy us pg st k m L ws).1,(iy us pg st k m L ws).2)
 | 0,A,L,ws=>rfl
 |m+1,A,L,ws=>by
  unfold iy
  split
  ·split
   ·rw[List.append_assoc,uE us pg st k m]
   ·rfl
  ·rfl
def bE (k lim:Int):(Nat→List Int)→List Int→(Nat→List Int)
 |P,[]=>P
 |P,a::t=>bE k lim (ed P k a lim) t
theorem hU (k lim:Int)(x:Int):∀(L:List Int) (P:Nat→List Int),bE k lim P (L++ [x])=ed (bE k lim P L) k x lim
 | [],P=>rfl
 |a::t,P=>hU k lim x t _
section
variable (us pg st:Int)(S:Fam)(i0 i1:Nat)
theorem wu (k:Nat)(lim:Int)(P:Nat→List Int):∀(m:Nat) (L ws:List Int),gh us pg st S i0 i1 k 0 lim m (bE k lim P L) ws=(bE k lim P (dp (S.b i0) (S.l i0) m L ws).1,(dp (S.b i0) (S.l i0) m L ws).2)
 | 0,L,ws=>rfl
 |m+1,L,ws=>by
  have e1:gh us pg st S i0 i1 k 0 lim (m+1) (bE k lim P L) ws=if(aZ (S.b i0) (S.l i0) ws).1.2 then gh us pg st S i0 i1 k 0 lim m (ed (bE k lim P L) k (aZ (S.b i0) (S.l i0) ws).1.1 lim) (aZ (S.b i0) (S.l i0) ws).2 else(bE k lim P L,(aZ (S.b i0) (S.l i0) ws).2):=rfl
  rw[e1]
  unfold dp
  split
  ·rw[←hU,wu k lim P m]
  ·rfl
theorem wv (k:Nat)(lim:Int)(P:Nat→List Int):∀(m:Nat) (L ws:List Int),gh us pg st S i0 i1 k 1 lim m (bE k lim P L) ws=(bE k lim P (dp (S.b i1) (S.l i1) m L ws).1,(dp (S.b i1) (S.l i1) m L ws).2)
 | 0,L,ws=>rfl
 |m+1,L,ws=>by
  have e1:gh us pg st S i0 i1 k 1 lim (m+1) (bE k lim P L) ws=if(aZ (S.b i1) (S.l i1) ws).1.2 then gh us pg st S i0 i1 k 1 lim m (ed (bE k lim P L) k (aZ (S.b i1) (S.l i1) ws).1.1 lim) (aZ (S.b i1) (S.l i1) ws).2 else(bE k lim P L,(aZ (S.b i1) (S.l i1) ws).2):=rfl
  rw[e1]
  unfold dp
  split
  ·rw[←hU,wv k lim P m]
  ·rfl
theorem ww (k:Nat)(lim:Int)(P:Nat→List Int):∀(m:Nat) (L ws:List Int),gh us pg st S i0 i1 k 2 lim m (bE k lim P L) ws=(bE k lim P (iy us pg st k m L ws).1,(iy us pg st k m L ws).2)
 | 0,L,ws=>rfl
 |m+1,L,ws=>by
  have e0:i9 us pg st S i0 i1 k 2 ws=if jg pg st k ws then c7 us pg st k ws else((0,false),ws):=rfl
  have e1:gh us pg st S i0 i1 k 2 lim (m+1) (bE k lim P L) ws=if(i9 us pg st S i0 i1 k 2 ws).1.2 then gh us pg st S i0 i1 k 2 lim m (ed (bE k lim P L) k (i9 us pg st S i0 i1 k 2 ws).1.1 lim) (i9 us pg st S i0 i1 k 2 ws).2 else(bE k lim P L,(i9 us pg st S i0 i1 k 2 ws).2):=rfl
  rw[e1,e0]
  unfold iy
  cases jg pg st k ws with
  |false=>simp
  |true =>
   simp only[if_true]
   split
   ·rw[←hU,ww k lim P m]
   ·rfl
end
def mostV (d:Cfg):Nat:=(min d.ba (1+d.pr)).toNat
def xO (d:Cfg)(u k:Int):Prg (List Int):=
 aq (hH (caV d u k) d.ca (mostV d) []) fun L=>if 0<L.length then az L else
 aq (hH (biV d k) d.bi (mostV d) []) fun L=>if 0<L.length then az L else
 aq (jQ d.us d.pg d.st k (mostV d) []) fun L=>if 0<L.length then az L else az []
def tkP (d:Cfg)(u:Int)(P:Nat→List Int)(k:Int):Prg ((Int×Bool)×(Nat→List Int)):=
 if caV d u k=0 then az ((0,false),P)
 else if gY P k then az ((iv P k,true),ib P k)
 else aq (xO d u k) fun L=>az ((L.headD 0,decide (0<L.length)),bE k d.pr P L.tail)
def Nj (d:Cfg)(u k:Int)(ws:List Int):List Int×List Int :=
 if 0<(dp (caV d u k) d.ca (mostV d) [] ws).1.length then dp (caV d u k) d.ca (mostV d) [] ws else
 if 0<(dp (biV d k) d.bi (mostV d) [] (dp (caV d u k) d.ca (mostV d) [] ws).2).1.length then dp (biV d k) d.bi (mostV d) [] (dp (caV d u k) d.ca (mostV d) [] ws).2 else
 xN d.us d.pg d.st k (mostV d) [] (dp (biV d k) d.bi (mostV d) [] (dp (caV d u k) d.ca (mostV d) [] ws).2).2
section
variable {d:Cfg}(R:d.Ok){n:Nat}(H:cF d.pg d.st n)(hw:(n:Int)=d.words)(hn:n≤10000)
include R H hw hn
theorem sg:mostV d=frM d+1:=by
 have h1:=R.ba1;have h2:=R.pr1
 unfold mostV frM
 split<;>omega
theorem I1 {u k:Int}(h:nV d u k):eQ (caV d u k) d.ca n∧eQ (biV d k) d.bi n:=by
 have h:=xM R H hw hn h
 exact⟨h (.room (caV d u k) d.ca) (by simp[wy3]),h (.room (biV d k) d.bi) (by simp[wy3])⟩
theorem Fv (u k:Int):bH (xO d u k):=
 ar (mX _ _ _ _) fun _=>aG (ah _) (ar (mX _ _ _ _) fun _=>aG (ah _) (ar (Ad _ _ _ _ _ _) fun _=>aG (ah _) (ah _)))
theorem I2 (u:Int)(P:Nat→List Int)(k:Int):bH (tkP d u P k):=
 aG (ah _) (aG (ah _) (ar (Fv R H hw hn _ _) fun _=>ah _))
theorem Ae {u k:Int}(h:nV d u k):bZ n (fun L=>kU L∧L.length≤mostV d) (xO d u k):=by
 have h1:=I1 R H hw hn h
 have hm:0<mostV d:=by rw[sg R H hw hn];omega
 refine aw (jR h1.1 _ _ kU.nil) fun L q=>aN (fun _=>ai n ⟨q.1,by have:=q.2;simpa using this⟩) (fun _=>?_)
 refine aw (jR h1.2 _ _ kU.nil) fun L q=>aN (fun _=>ai n ⟨q.1,by have:=q.2;simpa using this⟩) (fun _=>?_)
 exact aw (uB H (wh R H hw hn) k _ [] kU.nil hm) fun L q=>aN (fun _=>ai n q) (fun _=>ai n ⟨kU.nil,by simp⟩)
theorem I3 {u k:Int}(h:nV d u k):ci n (xO d u k) (Nj d u k):=by
 have h1:=I1 R H hw hn h
 refine aX (aC (o9 h1.1 _ []) fun L=>bh (fun _=>au n L) (fun _=>aC (o9 h1.2 _ []) fun L2=>bh (fun _=>au n L2) (fun _=>aC (Cl H k _ []) fun L3=>bh (fun _=>au n L3) (fun _=>au n [])))) fun ws _=>?_
 unfold Nj
 split
 ·rfl
 ·split
  ·rfl
  ·split
   ·rfl
   ·rename_i q
    have e:(xN d.us d.pg d.st k (mostV d) [] (dp (biV d k) d.bi (mostV d) [] (dp (caV d u k) d.ca (mostV d) [] ws).2).2).1= []:=List.length_eq_zero_iff.1 (by omega)
    exact Prod.ext e.symm rfl
theorem lQ {k:Nat}(hk:k<5):∀(L:List Int) (P:Nat→List Int),dr d P→kU L→((P k).length:Int)+L.length≤d.pr→dr d (bE k d.pr P L)
 | [],P,h,_,_=>h
 |a::t,P,h,hL,hl=>by
  simp only[List.length_cons] at hl
  show dr d (bE k d.pr (ed P k a d.pr) t)
  have e:=kS P hk a (lim:=d.pr) (by omega)
  rw[e]
  refine lQ hk t _ (wn h hk (hL a (by simp)) (by omega)) (fun x hx=>hL x (by simp[hx])) ?_
  rw[j9];simp;omega
theorem Af {P:Nat→List Int}{k:Nat}(hk:k<5)(h:¬gY P k=true):P k= []:=by
 rcases List.eq_nil_or_concat (P k) with e|⟨xs,x,e⟩
 ·exact e
 ·rw[List.concat_eq_append] at e
  exact absurd (j6 P hk e).1 h
theorem K6 (u:Int)(P:Nat→List Int)(k:Int)(hP:dr d P):bZ n (fun x=>W64 x.1.1∧dr d x.2) (tkP d u P k):=by
 have w0:W64 0:=by unfold W64;constructor<;>decide
 refine aN (fun _=>ai n ⟨w0,hP⟩) (fun q=>?_)
 have h:=(ke R u k).1 q
 obtain⟨j,rfl⟩:∃j:Nat,k=j:=⟨k.toNat,by have:=h.1;omega⟩
 have hj:j<5:=by have:=h.2.1;omega
 refine aN (fun e=>ai n ⟨ug hP.w e,?_⟩) (fun e=>?_)
 ·exact fun i hi=>⟨by show((ib P j i).length:Int)≤d.pr;have:=(hP i hi).1;have:=ui P j i;omega,fun a ha=>uh hP.w j i hi a ha⟩
 ·refine aw (Ae R H hw hn h) fun L hL=>ai n ⟨?_,?_⟩
  ·match L,hL.1 with
   | [],_=>exact w0
   |a::t,hL=>exact hL a (by simp)
  ·have e0:=Af R H hw hn hj e
   have hm:=hL.2
   rw[sg R H hw hn] at hm
   refine lQ R H hw hn hj _ P hP (fun a ha=>hL.1 a (List.mem_of_mem_tail ha)) ?_
   have h1:=R.ba1;have h2:=R.pr1
   rw[e0,List.length_tail]
   unfold frM at hm
   simp
   split at hm<;>omega
theorem K7 (u:Int)(P:Nat→List Int)(k:Int)(hP:dr d P):ci n (tkP d u P k) (tkW d u P k):=by
 by_cases q:caV d u k=0
 ·have nk:¬nV d u k:=fun z=>(ke R u k).2 z q
  unfold tkP tkW
  rw[if_pos q]
  refine aX (au n _) fun ws _=>?_
  rw[if_neg nk]
 ·have h:=(ke R u k).1 q
  obtain⟨j,rfl⟩:∃j:Nat,k=j:=⟨k.toNat,by have:=h.1;omega⟩
  have hj:j<5:=by have:=h.2.1;omega
  obtain⟨q0,q1,q2,q3⟩:=id h
  obtain⟨_,a2,a3,_⟩:=gK (d:=d) (u:=u.toNat) (c:=(j:Int).toNat) (by omega) (by omega)
  obtain⟨_,b2,b3,_⟩:=j5 (d:=d) (c:=(j:Int).toNat) (by have:=R.cp1;omega) (by omega)
  unfold tkP
  rw[if_neg q]
  by_cases e:gY P j=true
  ·rw[if_pos e]
   refine aX (au n _) fun ws _=>?_
   unfold tkW fQ
   rw[if_pos h]
   simp only[Int.toNat_natCast]
   rw[if_pos e]
  ·rw[if_neg e]
   refine aX (aC (I3 R H hw hn h) fun L=>au n _) fun ws _=>?_
   unfold tkW fQ
   rw[if_pos h]
   simp only[Int.toNat_natCast] at a2 a3 b2 b3⊢
   rw[if_neg e]
   have ca:(famC d).b (5 * u.toNat+j)=caV d u j:=by rw[a2];unfold caV;rw[show((u.toNat:Nat):Int)=u by omega]
   have bi:(famC d).b (5 * d.cp.toNat+j)=biV d j:=by rw[b2];rfl
   have hm:=sg R H hw hn
   have P0:bE (j:Int) d.pr P []=P:=rfl
   unfold Nj
   rw[hm]
   have popE:∀b l ws,dp b l (frM d+1) [] ws=if 0<a7 l (wAt ws b) then((aZ b l ws).1.1::(dp b l (frM d) [] (aZ b l ws).2).1,(dp b l (frM d) [] (aZ b l ws).2).2) else([],ws):=fun b l ws=>by
    have e1:dp b l (frM d+1) [] ws=if(aZ b l ws).1.2 then dp b l (frM d) ([(aZ b l ws).1.1]++ []) (aZ b l ws).2 else([],(aZ b l ws).2):=rfl
    rw[e1,uD]
    by_cases z:0<a7 l (wAt ws b)
    ·have:(aZ b l ws).1.2=true:=by unfold aZ;simp only[if_pos z]
     rw[if_pos z,if_pos this];rfl
    ·have:aZ b l ws=((0,false),ws):=by unfold aZ;simp only[if_neg z]
     rw[if_neg z,this];rfl
   have popT:∀b l ws,0<a7 l (wAt ws b)→(aZ b l ws).1.2=true:=fun b l ws z=>by unfold aZ;simp only[if_pos z]
   rw[popE,popE]
   have hk0:iT (famC d) (5 * u.toNat+j) (5 * d.cp.toNat+j) ws=if 0<a7 d.ca (wAt ws (caV d u j)) then 0 else if 0<a7 d.bi (wAt ws (biV d j)) then 1 else 2:=by
    unfold iT;rw[ca,a3,bi,b3]
   by_cases z0:0<a7 d.ca (wAt ws (caV d u j))
   ·rw[if_pos z0] at hk0
    simp only[if_pos z0]
    rw[hk0]
    have f0:i9 d.us d.pg d.st (famC d) (5 * u.toNat+j) (5 * d.cp.toNat+j) (j:Int) (ja 0) ws=aZ (caV d u j) d.ca ws:=by
     show aZ _ _ ws=_;rw[ca,a3]
    have M:=wu d.us d.pg d.st (famC d) (5 * u.toNat+j) (5 * d.cp.toNat+j) j d.pr P (frM d) [] (aZ (caV d u j) d.ca ws).2
    rw[P0,ca,a3] at M
    rw[f0,if_pos (popT _ _ _ z0),M]
    simp
   ·rw[if_neg z0] at hk0
    simp only[if_neg z0,List.length_nil,Nat.lt_irrefl,if_false]
    by_cases z1:0<a7 d.bi (wAt ws (biV d j))
    ·rw[if_pos z1] at hk0
     simp only[if_pos z1]
     rw[hk0]
     have f0:i9 d.us d.pg d.st (famC d) (5 * u.toNat+j) (5 * d.cp.toNat+j) (j:Int) (ja 1) ws=aZ (biV d j) d.bi ws:=by
      show aZ _ _ ws=_;rw[bi,b3]
     have M:=wv d.us d.pg d.st (famC d) (5 * u.toNat+j) (5 * d.cp.toNat+j) j d.pr P (frM d) [] (aZ (biV d j) d.bi ws).2
     rw[P0,bi,b3] at M
     rw[f0,if_pos (popT _ _ _ z1),M]
     simp
    ·rw[if_neg z1] at hk0
     simp only[if_neg z1,List.length_nil,Nat.lt_irrefl,if_false]
     rw[hk0]
     have f0:i9 d.us d.pg d.st (famC d) (5 * u.toNat+j) (5 * d.cp.toNat+j) (j:Int) (ja 2) ws=c7 d.us d.pg d.st j ws:=rfl
     have M:=ww d.us d.pg d.st (famC d) (5 * u.toNat+j) (5 * d.cp.toNat+j) j d.pr P (frM d) [] (c7 d.us d.pg d.st j ws).2
     rw[P0] at M
     rw[f0,M]
     have e2:xN d.us d.pg d.st j (frM d+1) [] ws=if(c7 d.us d.pg d.st j ws).1.2 then iy d.us d.pg d.st j (frM d) ([(c7 d.us d.pg d.st j ws).1.1]++ []) (c7 d.us d.pg d.st j ws).2 else([],(c7 d.us d.pg d.st j ws).2):=rfl
     rw[e2,uE]
     by_cases g:(c7 d.us d.pg d.st j ws).1.2=true
     ·rw[if_pos g,if_pos g]
      simp
     ·rw[if_neg g,if_neg g]
      rfl
end
attribute [local go_sem] Oper.semAt_some
def mea (kn:Int→Option Int)(D:List KV)(b l:Int):Nat :=
 match dN kn D b with
 |some y=>(a7 l y).toNat
 |none=>0
theorem I4 (kn:Int→Option Int)(D:List KV){b l:Int}(hl:0≤l):mea kn D b l≤l.toNat:=by
 unfold mea
 split
 ·rename_i y _
  have:=kP (y:=y) hl
  omega
 ·omega
theorem DH {n:Nat}{b l:Int}(H:eQ b l n){kn:Int→Option Int}{D D1:List KV}{a:Int}(hD:cI n D)(e:ee b l kn D=.ok (a,true) D1):mea kn D1 b l<mea kn D b l:=by
 have h1:=H.b1;have h0:=H.l0
 unfold ee kr lH at e
 cases er:cT b kn D with
 |need x=>rw[ag (ag (ag er))] at e;cases e
 |ok y D' =>
  obtain⟨rfl,hy⟩:=gV er
  rw[aj (aj (aj er))] at e
  simp only[Bool.false_eq_true,if_false] at e
  have hk:=kP (y:=y) h0
  split at e
  ·cases e
  ·rename_i hz
   have hpos:0<a7 l y:=by
    unfold dJ at hz
    split at hz
    ·omega
    ·omega
   cases e2:cT (dJ b l (a7 l y-1)) kn D' with
   |need x=>rw[ag e2] at e;cases e
   |ok z D2 =>
    obtain⟨rfl,_⟩:=gV e2
    rw[aj e2] at e
    have eD:D1=eE D2 b (a7 l y-1):=by cases e;rfl
    have hw1:dN kn D1 b=some (a7 l y-1):=by
     rw[eD]
     unfold dN eE
     rw[if_neg (by omega),if_neg (by omega),qq hD.asc,if_pos rfl];rfl
    unfold mea
    rw[hw1,hy]
    simp only
    have e3:a7 l (a7 l y-1)=a7 l y-1:=by
     generalize a7 l y=q at *
     unfold a7
     rw[if_pos (by omega)]
    rw[e3]
    omega
theorem kt {σ:Type}(Q:World→σ→Prop)(μ:σ→Nat):∃mes:World→Nat,∀w,(∃s,Q w s)→∃s,Q w s∧μ s=mes w∧∀s',Q w s'→mes w≤μ s':=by
 have key:∀w,∃m:Nat,(∃s,Q w s)→∃s,Q w s∧μ s=m∧∀s',Q w s'→m≤μ s':=fun w=>by
  by_cases h:∃s,Q w s
  ·obtain⟨s,hs⟩:=h
   have go:∀(k:Nat) (s:σ),Q w s→μ s≤k→∃s,Q w s∧∀s',Q w s'→μ s≤μ s':=by
    intro k
    induction k with
    |zero=>exact fun s hs hk=>⟨s,hs,fun s' _=>by omega⟩
    |succ k ih =>
     intro s hs hk
     by_cases hl:∃s',Q w s'∧μ s'<μ s
     ·obtain⟨s',q1,q2⟩:=hl
      exact ih s' q1 (by omega)
     ·exact⟨s,hs,fun s' q=>Nat.le_of_not_lt fun r=>hl ⟨s',q,r⟩⟩
   obtain⟨s,q1,q2⟩:=go (μ s) s hs (Nat.le_refl _)
   exact⟨μ s,fun _=>⟨s,q1,rfl,q2⟩⟩
  ·exact⟨0,fun q=>absurd q h⟩
 exact⟨fun w=>Classical.choose (key w),fun w=>Classical.choose_spec (key w)⟩
def xP (n:Nat)(kn:Int→Option Int)(p vb fb sb cap:Nat)(cur:Array Value)(sh:List (Int×Int)):xX LsS where
 enc s:= #[.int .i64 s.a]
 See s A:=aF A s.F p kn s.D∧cI n s.D∧A.heap[vb]?=some (.cells #[.pointer (some ⟨p,0,none⟩)] 43 (0,0))∧A.heap[fb]?=some (.cells #[.slice (some ⟨sb,0,none⟩) sh.length cap] 93 (0,0))∧∃fr,A.heap[sb]?=some (.cells cur 96 fr)
 Own s s' A B:=∃b l D1 F1 a,sh[s.i]?=some (b,l)∧ee b l kn s.D=.ok (a,true) D1∧s'=⟨s.i,s.P,D1,F1,a⟩∧aF B F1 p kn D1∧Turned s.F A B∧∀k,F1 k→s.F k∨A.heap.size≤k
 Fin s s' A B:=s'=s∧sh.length≤s.i∧ae A B
 Ned s ch A B:=∃b l a,sh[s.i]?=some (b,l)∧ee b l kn s.D=.need a∧ch=bB p∧bJ B p a∧Turned s.F A B
 Skp s s' A B:=∃b l D1 F1 a,sh[s.i]?=some (b,l)∧ee b l kn s.D=.ok (a,false) D1∧s'=⟨s.i+1,s.P,D1,F1,s.a⟩∧aF B F1 p kn D1∧Turned s.F A B∧∀k,F1 k→s.F k∨A.heap.size≤k
 Rel s s' A B:=s'.i=s.i∧(∀b l,sh[s.i]?=some (b,l)→dN kn s'.D b=dN kn s.D b)∧(∀k,s'.F k→s.F k∨A.heap.size≤k)∧A.heap.size≤B.heap.size∧∀k cs t fr,¬s.F k→A.heap[k]?=some (.cells cs t fr)→B.heap[k]?=some (.cells cs t fr)
theorem Ag (q:Nat)(hq:1≤q){n:Nat}(p vb fb sb cap:Nat)(cur:Array Value)(sh:List (Int×Int))(hsh:sh.length≤1000)(hcap:sh.length≤cap)(hok:∀s∈sh,eQ s.1 s.2 n)(hcur:∀i b l,sh[i]?=some (b,l)→cur[i * 2]?=some (.int .i64 b)∧cur[i * 2+1]?=some (.int .i64 l))(kn:Int→Option Int)(hk:OkK kn)(s0:LsS)(w0:World)(h00:s0.i=0):
 Al (xP n kn p vb fb sb cap cur sh) Fence.wide q Tryz.prog 88 #[.pointer (some ⟨fb,0,none⟩),.pointer (some ⟨vb,0,none⟩)] s0 w0:=by
 intro l J J' Je Jx W hW mJ mJ' mJe mJx hsee hown hfin hned hskp hY h0
 have HSEE:=hQQ hsee
 have HOWN:=hQQ hown
 have HFIN:=hQQ hfin
 have HNED:=hQQ hned
 have HSKP:=hQQ hskp
 have MJ:=hQQ mJ
 have HY:=hQQ hY
 have HJ0:=hQQ h0
 have HK:=hQQ hk
 have HOK:=hQQ hok
 have HCUR:=hQQ hcur
 have cf:=(aA (hsee _ _ h0).2.2.2.1).1
 clear hW mJ mJ' mJe mJx hsee hown hfin hned hskp hY h0 hk hok hcur
 refine callsIn_of_wp Tryz.func88 rfl trivial ?_ rfl
 simp only[Tryz.ntmps88,List.size_toArray,List.length_cons,List.length_nil,Nat.reduceAdd,Nat.reduceSub,Array.replicate_succ,Array.replicate_zero,List.push_toArray,List.append_toArray,List.nil_append,List.cons_append]
 gi_wp2
 clear cf
 gi_loopw [10] (fun u wr=>∃(j:Nat) (s:LsS),j≤sh.length∧u=.int .i64 (j:Int)∧s.i=j∧J s wr) (fun u _=>sh.length-(intOf u).toNat)
 case atStart=>exact⟨0,s0,Nat.zero_le _,rfl,h00,HJ0.o⟩
 case round =>
  obtain⟨j,s,hj,rfl,hsj,hJ⟩:=hrel
  by_cases hlt:j<sh.length
  ·have d1:decide ((j:Int)<(sh.length:Int))=true:=by simp;omega
   have d2:decide (j<sh.length)=true:=by simp[hlt]
   have q3:IntKind.i64.wrap ((j:Int)+1)=(j:Int)+1:=aB (by omega) (by omega)
   obtain⟨b,ll,hbl⟩:∃b ll,sh[j]?=some (b,ll):=⟨_,_,List.getElem?_eq_getElem hlt⟩
   have hst:eQ b ll n:=HOK.o (b,ll) (List.mem_of_getElem? hbl)
   obtain⟨_,_,_,_,fr,hsb⟩:=HSEE.o s wr hJ
   obtain⟨u1,u2⟩:=HCUR.o j b ll hbl
   have c1:wr.cell? ⟨sb,j * 2,none⟩=some (.int .i64 b):=by simp[World.cell?,hsb];exact u1
   have c2:wr.cell? ⟨sb,j * 2+1,none⟩=some (.int .i64 ll):=by simp[World.cell?,hsb];exact u2
   have SB:=hQQ hsb
   have HJ1:=hQQ hJ
   have HST:=hQQ hst
   have HBL:=hQQ hbl
   have HSJ:=hQQ hsj
   clear hsb u1 u2 hJ hst hbl hsj
   obtain⟨w1,e1,g1,m1,s1⟩:=bg wr (.cells #[.int .i64 b,.int .i64 ll] 96)
   have hF:¬s.F wr.heap.size:=fun z=>by have:=(HSEE.o s wr HJ1.o).1.lt _ z;omega
   have ST:Hq (∃s',s'.i=j∧J s' w1∧w1.heap[wr.heap.size]?=some (.cells #[.int .i64 b,.int .i64 ll] 96 (0,0))∧¬s'.F wr.heap.size):=hQQ ⟨s,HSJ.o,MJ.o _ _ _ HJ1.o m1,g1,hF⟩
   clear g1 m1 s1 hF SB
   gi_wp2
   clear c1 c2 e1 HJ1 HSJ
   generalize wr.heap.size=gB at ST⊢
   obtain⟨mes,hmes⟩:=kt (fun A s'=>s'.i=j∧J s' A∧A.heap[gB]?=some (.cells #[.int .i64 b,.int .i64 ll] 96 (0,0))∧¬s'.F gB) (fun s'=>mea kn s'.D b ll)
   have HM:=hQQ hmes
   clear hmes
   gi_loopw [6] (fun _ A=>∃s':LsS,s'.i=j∧J s' A∧A.heap[gB]?=some (.cells #[.int .i64 b,.int .i64 ll] 96 (0,0))∧¬s'.F gB) (fun _ A=>mes A)
   case atStart=>exact ST.o
   case round =>
    obtain⟨s1,⟨hs1,hJ1,hb1,hn1⟩,hme,hmin⟩:=HM.o _ hrel
    obtain⟨v1,v2,v3,v4,fr1,v5⟩:=HSEE.o s1 _ hJ1
    have c0:=(aA v3).1
    obtain⟨c1,c2⟩:=nU hb1
    have PO:=hQQ (IJ HST.o s1.F p kn s1.D wr v1 HK.o v2)
    have HJ:=hQQ hJ1
    have HB:=hQQ hb1
    have HN:=hQQ hn1
    have HS1:=hQQ hs1
    have HME:=hQQ hme
    have HBL1:Hq (sh[s1.i]?=some (b,ll)):=hQQ (by rw[hs1];exact HBL.o)
    have HV2:=hQQ v2
    clear v1 v2 v3 v4 v5 hs1 hJ1 hb1 hn1 hme hmin hrel
    gi_wp2
    refine⟨trivial,?_⟩
    gi_at_call 89
    refine(callsIn_wide.2 PO.o).mono ?_
    intro e W3 he
    clear c0 c1 c2 PO
    rcases hE:ee b ll kn s1.D with a'|⟨⟨x,ok⟩,D1⟩
    ·rw[hE] at he
     obtain⟨rfl,hd,ht⟩:=he
     exact⟨rfl,.inr ⟨_,rfl,HNED.o s1 _ wr W3 HJ.o ⟨b,ll,a',HBL1.o,hE,rfl,hd,ht⟩⟩⟩
    ·rw[hE] at he
     obtain⟨rfl,F1,hv1,ht1,hf1⟩:=he
     cases ok with
     |false =>
      have SK:=hQQ (HSKP.o s1 _ wr W3 HJ.o ⟨b,ll,D1,F1,x,HBL1.o,hE,rfl,hv1,ht1,hf1⟩)
      clear hv1 ht1 hf1 hE
      gi_wp2
      go_roundw
      case rel=>exact⟨j+1,_,by omega,by go_num,by show s1.i+1=j+1;rw[HS1.o],SK.o⟩
      case measure=>simp[intOf];omega
     |true =>
      have hJ':=HOWN.o s1 _ wr W3 HJ.o ⟨b,ll,D1,F1,x,HBL1.o,hE,rfl,hv1,ht1,hf1⟩
      have HB3:Hq (W3.heap[gB]?=some (.cells #[.int .i64 b,.int .i64 ll] 96 (0,0))):=hQQ ((ht1.block gB (ac HB.o) HN.o).trans HB.o)
      have HN3:Hq (¬F1 gB):=hQQ fun z=>by
       rcases hf1 gB z with r|r
       ·exact HN.o r
       ·have:=ac HB.o;omega
      have HMD:=hQQ (DH HST.o HV2.o hE)
      have y9:=HY.o _ W3 hJ'
      rw[show(xP n kn p vb fb sb cap cur sh).enc ⟨s1.i,s1.P,D1,F1,x⟩= #[.int .i64 x] from rfl] at y9
      obtain⟨fn,tmps,assign,body,hy,hR⟩:=y9
      clear hv1 ht1 hf1 hE hJ'
      gi_wp2
      refine hR.mono ?_
      rintro e W4 (⟨rfl,s',⟨r1,r2,r3,r4,r5⟩,hJ3⟩|⟨he,hJx3⟩)
      ·have HJ3:=hQQ hJ3
       have HB4:=hQQ (r5 gB _ _ _ HN3.o HB3.o)
       have HN4:Hq (¬s'.F gB):=hQQ fun z=>by
        rcases r3 gB z with r|r
        ·exact HN3.o r
        ·have:=ac HB3.o;omega
       have HI4:Hq (s'.i=j):=hQQ (r1.trans HS1.o)
       have hm4:mea kn s'.D b ll=mea kn D1 b ll:=by
        unfold mea
        rw[r2 b ll HBL1.o]
       have HLT:Hq (mes W4<mes wr):=hQQ (by
        obtain⟨s2,h2,h3,h4⟩:=HM.o W4 ⟨s',HI4.o,HJ3.o,HB4.o,HN4.o⟩
        have:=h4 s' ⟨HI4.o,HJ3.o,HB4.o,HN4.o⟩
        have:=HMD.o
        have:=HME.o
        omega)
       clear r1 r2 r3 r4 r5 hJ3 hR hy hm4
       gi_wp2
       go_roundw
       case rel=>exact⟨s',HI4.o,HJ3.o,HB4.o,HN4.o⟩
       case measure=>exact HLT.o
      ·rcases he with rfl|⟨ch,rfl⟩
       ·gi_wp2
        refine bodyPost_ret (results_none rfl _ _ _) rfl ?_
        exact .inl ⟨⟨_,rfl⟩,.inr hJx3⟩
       ·exact⟨rfl,.inr ⟨ch,rfl,hJx3⟩⟩
  ·have hi2:sh.length≤s.i:=by omega
   have d1:decide ((j:Int)<(sh.length:Int))=false:=by simp;omega
   have FI:=hQQ (HFIN.o s s wr wr hJ ⟨rfl,hi2,ae.refl _⟩)
   gi_wp2
   go_end0
   exact .inl ⟨⟨_,rfl⟩,.inl ⟨s,FI.o⟩⟩
attribute [local go_sem] Oper.semAt_some
structure UpS where
 i:Nat
 L:List Int
 D:List KV
 F:Nat→Prop
 G:Nat→Prop
 a:Int
inductive NxR where
 |told (i:Nat) (a:Int)
 |skip (i:Nat)
 |fin
abbrev Bxs:=List (Nat×Array Value×TypeId×(Nat×Nat))
def I5 (Bs:Bxs)(A:World):Prop:=∀b∈Bs,A.heap[b.1]?=some (.cells b.2.1 b.2.2.1 b.2.2.2)
def upI (n:Nat)(kn:Int→Option Int)(p most bt:Nat)(Bs:Bxs)(nx:Nat→Prg NxR):xX UpS where
 enc s:= #[.int .i64 s.a]
 See s A:=aF A s.F p kn s.D∧cI n s.D∧I5 Bs A∧(dh bt A∧¬s.F 0∧¬s.F bt)∧∀k,s.G k→k<A.heap.size
 Own s s' A B:=∃i' a D1 F1,nx s.i kn s.D=.ok (.told i' a) D1∧s'=⟨i',s.L,D1,F1,s.G,a⟩∧aF B F1 p kn D1∧Turned s.F A B∧∀k,F1 k→s.F k∨A.heap.size≤k
 Fin s s' A B:=∃D1 F1,nx s.i kn s.D=.ok .fin D1∧s'=⟨s.i,s.L,D1,F1,s.G,s.a⟩∧aF B F1 p kn D1∧Turned s.F A B∧∀k,F1 k→s.F k∨A.heap.size≤k
 Ned s ch A B:=∃a,nx s.i kn s.D=.need a∧ch=bB p∧bJ B p a∧Turned s.F A B
 Skp s s' A B:=∃i' D1 F1,nx s.i kn s.D=.ok (.skip i') D1∧s'=⟨i',s.L,D1,F1,s.G,s.a⟩∧aF B F1 p kn D1∧Turned s.F A B∧∀k,F1 k→s.F k∨A.heap.size≤k
 Rel s s' A B:=s'.i=s.i∧s'.D=s.D∧s'.F=s.F∧s'.L.length=s.L.length+1∧s'.L.length<most∧(∀k,s'.G k→s.G k∨A.heap.size≤k)∧A.heap.size≤B.heap.size∧∀k cs t fr,¬s.G k→A.heap[k]?=some (.cells cs t fr)→B.heap[k]?=some (.cells cs t fr)
def uW (sh:List (Int×Int))(i:Nat):Prg NxR:=match sh[i]? with
 |some s=>aq (ee s.1 s.2) fun x=>az (if x.2 then .told i x.1 else .skip (i+1))
 |none=>az .fin
theorem K8 {sh:List (Int×Int)}{i:Nat}{b l:Int}(h:sh[i]?=some (b,l)):uW sh i=aq (ee b l) fun x=>az (if x.2 then .told i x.1 else .skip (i+1)):=by
 unfold uW;rw[h]
theorem wC {sh:List (Int×Int)}{i:Nat}(h:sh[i]?=none):uW sh i=az .fin:=by
 unfold uW;rw[h]
def Ah (p vb fb sb cap:Nat)(cur:Array Value)(fr:Nat×Nat)(len:Nat):Bxs:= [(vb,#[.pointer (some ⟨p,0,none⟩)],43,(0,0)),(fb,#[.slice (some ⟨sb,0,none⟩) len cap],93,(0,0)),(sb,cur,96,fr)]
theorem xQ {p vb fb sb cap len:Nat}{cur:Array Value}{fr:Nat×Nat}{A:World}(h:I5 (Ah p vb fb sb cap cur fr len) A):A.heap[vb]?=some (.cells #[.pointer (some ⟨p,0,none⟩)] 43 (0,0))∧A.heap[fb]?=some (.cells #[.slice (some ⟨sb,0,none⟩) len cap] 93 (0,0))∧A.heap[sb]?=some (.cells cur 96 fr):=
 ⟨h (vb,#[.pointer (some ⟨p,0,none⟩)],43,(0,0)) (by simp[Ah]),h (fb,#[.slice (some ⟨sb,0,none⟩) len cap],93,(0,0)) (by simp[Ah]),h (sb,cur,96,fr) (by simp[Ah])⟩
theorem Fw (q:Nat)(hq:1≤q){n:Nat}(p most bt vb fb sb cap:Nat)(cur:Array Value)(fr:Nat×Nat)(sh:List (Int×Int))(hsh:sh.length≤1000)(hcap:sh.length≤cap)(hok:∀s∈sh,eQ s.1 s.2 n)(hcur:∀i b l,sh[i]?=some (b,l)→cur[i * 2]?=some (.int .i64 b)∧cur[i * 2+1]?=some (.int .i64 l))(kn:Int→Option Int)(hk:OkK kn)(s0:UpS)(w0:World)(h00:s0.i=0):
 Al (upI n kn p most bt (Ah p vb fb sb cap cur fr sh.length) (uW sh)) Fence.wide q Tryz.prog 88 #[.pointer (some ⟨fb,0,none⟩),.pointer (some ⟨vb,0,none⟩)] s0 w0:=by
 intro l J J' Je Jx W hW mJ mJ' mJe mJx hsee hown hfin hned hskp hY h0
 have HSEE:=hQQ hsee
 have HOWN:=hQQ hown
 have HFIN:=hQQ hfin
 have HNED:=hQQ hned
 have HSKP:=hQQ hskp
 have MJ:=hQQ mJ
 have HY:=hQQ hY
 have HJ0:=hQQ h0
 have HK:=hQQ hk
 have HOK:=hQQ hok
 have HCUR:=hQQ hcur
 have cf:=(aA (xQ (hsee _ _ h0).2.2.1).2.1).1
 clear hW mJ mJ' mJe mJx hsee hown hfin hned hskp hY h0 hk hok hcur
 refine callsIn_of_wp Tryz.func88 rfl trivial ?_ rfl
 simp only[Tryz.ntmps88,List.size_toArray,List.length_cons,List.length_nil,Nat.reduceAdd,Nat.reduceSub,Array.replicate_succ,Array.replicate_zero,List.push_toArray,List.append_toArray,List.nil_append,List.cons_append]
 gi_wp2
 clear cf
 gi_loopw [10] (fun u wr=>∃(j:Nat) (s:UpS),j≤sh.length∧u=.int .i64 (j:Int)∧s.i=j∧J s wr) (fun u _=>sh.length-(intOf u).toNat)
 case atStart=>exact⟨0,s0,Nat.zero_le _,rfl,h00,HJ0.o⟩
 case round =>
  obtain⟨j,s,hj,rfl,hsj,hJ⟩:=hrel
  by_cases hlt:j<sh.length
  ·have d1:decide ((j:Int)<(sh.length:Int))=true:=by simp;omega
   have d2:decide (j<sh.length)=true:=by simp[hlt]
   have q3:IntKind.i64.wrap ((j:Int)+1)=(j:Int)+1:=aB (by omega) (by omega)
   obtain⟨b,ll,hbl⟩:∃b ll,sh[j]?=some (b,ll):=⟨_,_,List.getElem?_eq_getElem hlt⟩
   have hst:eQ b ll n:=HOK.o (b,ll) (List.mem_of_getElem? hbl)
   obtain⟨_,_,hbx,_,hG⟩:=HSEE.o s wr hJ
   have hsb:=(xQ hbx).2.2
   obtain⟨u1,u2⟩:=HCUR.o j b ll hbl
   have c1:wr.cell? ⟨sb,j * 2,none⟩=some (.int .i64 b):=by simp[World.cell?,hsb];exact u1
   have c2:wr.cell? ⟨sb,j * 2+1,none⟩=some (.int .i64 ll):=by simp[World.cell?,hsb];exact u2
   have HJ1:=hQQ hJ
   have HST:=hQQ hst
   have HBL:=hQQ hbl
   have HSJ:=hQQ hsj
   have HG:=hQQ hG
   clear hsb u1 u2 hJ hst hbl hsj hG hbx
   obtain⟨w1,e1,g1,m1,s1⟩:=bg wr (.cells #[.int .i64 b,.int .i64 ll] 96)
   have hF:¬s.F wr.heap.size:=fun z=>by have:=(HSEE.o s wr HJ1.o).1.lt _ z;omega
   have hG2:¬s.G wr.heap.size:=fun z=>by have:=HG.o _ z;omega
   have ST:Hq (∃s',s'.i=j∧J s' w1∧w1.heap[wr.heap.size]?=some (.cells #[.int .i64 b,.int .i64 ll] 96 (0,0))∧¬s'.F wr.heap.size∧¬s'.G wr.heap.size):=hQQ ⟨s,HSJ.o,MJ.o _ _ _ HJ1.o m1,g1,hF,hG2⟩
   clear g1 m1 s1 hF hG2 HG
   gi_wp2
   clear c1 c2 e1 HJ1 HSJ
   generalize wr.heap.size=gB at ST⊢
   obtain⟨mes,hmes⟩:=kt (fun A (s':UpS)=>s'.i=j∧J s' A∧A.heap[gB]?=some (.cells #[.int .i64 b,.int .i64 ll] 96 (0,0))∧¬s'.F gB∧¬s'.G gB) (fun s'=>most-s'.L.length)
   have HM:=hQQ hmes
   clear hmes
   gi_loopw [6] (fun _ A=>∃s':UpS,s'.i=j∧J s' A∧A.heap[gB]?=some (.cells #[.int .i64 b,.int .i64 ll] 96 (0,0))∧¬s'.F gB∧¬s'.G gB) (fun _ A=>mes A)
   case atStart=>exact ST.o
   case round =>
    obtain⟨s1,⟨hs1,hJ1,hb1,hn1,hg1⟩,hme,hmin⟩:=HM.o _ hrel
    obtain⟨v1,v2,v3,v4,v5⟩:=HSEE.o s1 _ hJ1
    have c0:=(aA (xQ v3).1).1
    obtain⟨c1,c2⟩:=nU hb1
    have PO:=hQQ (IJ HST.o s1.F p kn s1.D wr v1 HK.o v2)
    have HJ:=hQQ hJ1
    have HB:=hQQ hb1
    have HN:=hQQ hn1
    have HG:=hQQ hg1
    have HS1:=hQQ hs1
    have HME:=hQQ hme
    have HNX:Hq (uW sh s1.i=aq (ee b ll) fun x=>az (if x.2 then .told s1.i x.1 else .skip (s1.i+1))):=hQQ (K8 (by rw[hs1];exact HBL.o))
    clear v1 v2 v3 v4 v5 hs1 hJ1 hb1 hn1 hg1 hme hmin hrel
    gi_wp2
    refine⟨trivial,?_⟩
    gi_at_call 89
    refine(callsIn_wide.2 PO.o).mono ?_
    intro e W3 he
    clear c0 c1 c2 PO
    rcases hE:ee b ll kn s1.D with a'|⟨⟨x,ok⟩,D1⟩
    ·rw[hE] at he
     obtain⟨rfl,hd,ht⟩:=he
     exact⟨rfl,.inr ⟨_,rfl,HNED.o s1 _ wr W3 HJ.o ⟨a',by rw[HNX.o];exact ag hE,rfl,hd,ht⟩⟩⟩
    ·rw[hE] at he
     obtain⟨rfl,F1,hv1,ht1,hf1⟩:=he
     cases ok with
     |false =>
      have SK:=hQQ (HSKP.o s1 _ wr W3 HJ.o ⟨s1.i+1,D1,F1,by rw[HNX.o];exact aj hE,rfl,hv1,ht1,hf1⟩)
      clear hv1 ht1 hf1 hE
      gi_wp2
      go_roundw
      case rel=>exact⟨j+1,_,by omega,by go_num,by show s1.i+1=j+1;rw[HS1.o],SK.o⟩
      case measure=>simp[intOf];omega
     |true =>
      have hJ':=HOWN.o s1 _ wr W3 HJ.o ⟨s1.i,x,D1,F1,by rw[HNX.o];exact aj hE,rfl,hv1,ht1,hf1⟩
      have HB3:Hq (W3.heap[gB]?=some (.cells #[.int .i64 b,.int .i64 ll] 96 (0,0))):=hQQ ((ht1.block gB (ac HB.o) HN.o).trans HB.o)
      have HN3:Hq (¬F1 gB):=hQQ fun z=>by
       rcases hf1 gB z with r|r
       ·exact HN.o r
       ·have:=ac HB.o;omega
      have y9:=HY.o _ W3 hJ'
      rw[show(upI n kn p most bt (Ah p vb fb sb cap cur fr sh.length) (uW sh)).enc ⟨s1.i,s1.L,D1,F1,s1.G,x⟩= #[.int .i64 x] from rfl] at y9
      obtain⟨fn,tmps,assign,body,hy,hR⟩:=y9
      clear hv1 ht1 hf1 hE hJ'
      gi_wp2
      refine hR.mono ?_
      rintro e W4 (⟨rfl,s',⟨r1,r2,r3,r4,r5,r6,r7,r8⟩,hJ3⟩|⟨he,hJx3⟩)
      ·have HJ3:=hQQ hJ3
       have HB4:=hQQ (r8 gB _ _ _ HG.o HB3.o)
       have HN4:Hq (¬s'.F gB):=hQQ (by rw[r3];exact HN3.o)
       have HG4:Hq (¬s'.G gB):=hQQ fun z=>by
        rcases r6 gB z with r|r
        ·exact HG.o r
        ·have:=ac HB3.o;omega
       have HI4:Hq (s'.i=j):=hQQ (r1.trans HS1.o)
       have HLT:Hq (mes W4<mes wr):=hQQ (by
        obtain⟨s2,h2,h3,h4⟩:=HM.o W4 ⟨s',HI4.o,HJ3.o,HB4.o,HN4.o,HG4.o⟩
        have h5:mes W4≤most-s'.L.length:=h4 s' ⟨HI4.o,HJ3.o,HB4.o,HN4.o,HG4.o⟩
        have h6:most-s1.L.length=mes wr:=HME.o
        have h7:s'.L.length=s1.L.length+1:=r4
        have h8:s'.L.length<most:=r5
        clear h2 h3 h4 r1 r2 r3 r4 r5 r6 r7 r8
        omega)
       clear r1 r2 r3 r4 r5 r6 r7 r8 hJ3 hR hy
       gi_wp2
       go_roundw
       case rel=>exact⟨s',HI4.o,HJ3.o,HB4.o,HN4.o,HG4.o⟩
       case measure=>exact HLT.o
      ·rcases he with rfl|⟨ch,rfl⟩
       ·gi_wp2
        refine bodyPost_ret (results_none rfl _ _ _) rfl ?_
        exact .inl ⟨⟨_,rfl⟩,.inr hJx3⟩
       ·exact⟨rfl,.inr ⟨ch,rfl,hJx3⟩⟩
  ·have hi2:sh.length≤s.i:=by omega
   have d1:decide ((j:Int)<(sh.length:Int))=false:=by simp;omega
   have hv:=(HSEE.o s wr hJ).1
   have FI:=hQQ (HFIN.o s _ wr wr hJ ⟨s.D,s.F,by rw[wC (List.getElem?_eq_none hi2)];rfl,rfl,hv,Turned.refl _ _,fun k q=> .inl q⟩)
   clear hv
   gi_wp2
   go_end0
   exact .inl ⟨⟨_,rfl⟩,.inl ⟨_,FI.o⟩⟩
def uX (us pg st k:Int)(i:Nat):Prg NxR:=if i=0 then aq (j0 pg st k) fun r=>az (if r then .skip 1 else .fin) else aq (kJ us pg st k) fun x=>az (if x.2 then .told 0 x.1 else .fin)
def Ai (p vb lb cb:Nat)(c:Cfg)(k:Int):Bxs:= [(vb,#[.pointer (some ⟨p,0,none⟩)],43,(0,0)),(lb,c.arr,28,(0,0)),(cb,#[.int .i64 k],3,(0,0))]
theorem nP {p vb lb cb:Nat}{c:Cfg}{k:Int}{A:World}(h:I5 (Ai p vb lb cb c k) A):A.heap[vb]?=some (.cells #[.pointer (some ⟨p,0,none⟩)] 43 (0,0))∧A.heap[lb]?=some (.cells c.arr 28 (0,0))∧A.heap[cb]?=some (.cells #[.int .i64 k] 3 (0,0)):=
 ⟨h (vb,#[.pointer (some ⟨p,0,none⟩)],43,(0,0)) (by simp[Ai]),h (lb,c.arr,28,(0,0)) (by simp[Ai]),h (cb,#[.int .i64 k],3,(0,0)) (by simp[Ai])⟩
theorem Cm (q:Nat)(hq:1≤q){c:Cfg}(R:c.Ok){n:Nat}(H:cF c.pg c.st n)(hn:n≤10000)(p most bt vb lb cb:Nat)(k:Int)(kn:Int→Option Int)(hk:OkK kn)(s0:UpS)(w0:World)(h00:s0.i=1):
 Al (upI n kn p most bt (Ai p vb lb cb c k) (uX c.us c.pg c.st k)) Fence.wide q Tryz.prog 122 #[.pointer (some ⟨vb,0,none⟩),.pointer (some ⟨lb,0,none⟩),.pointer (some ⟨cb,0,none⟩)] s0 w0:=by
 intro l J J' Je Jx W hW mJ mJ' mJe mJx hsee hown hfin hned hskp hY h0
 have HSEE:=hQQ hsee
 have HOWN:=hQQ hown
 have HFIN:=hQQ hfin
 have HNED:=hQQ hned
 have HSKP:=hQQ hskp
 have HY:=hQQ hY
 have HJ0:=hQQ h0
 have HK:=hQQ hk
 have HR:=hQQ R
 have HH:=hQQ H
 clear hW mJ mJ' mJe mJx hsee hown hfin hned hskp hY h0 hk R H
 refine callsIn_of_wp Tryz.func122 rfl trivial ?_ rfl
 simp only[Tryz.ntmps122,List.size_toArray,List.length_cons,List.length_nil,Nat.reduceAdd,Nat.reduceSub,Array.replicate_succ,Array.replicate_zero,List.push_toArray,List.append_toArray,List.nil_append,List.cons_append]
 obtain⟨mes,hmes⟩:=kt (fun A (s':UpS)=>s'.i=1∧J s' A) (fun s'=>most-s'.L.length)
 have HM:=hQQ hmes
 clear hmes
 gi_wp2
 gi_loopw [5] (fun _ A=>∃s':UpS,s'.i=1∧J s' A) (fun _ A=>mes A)
 case atStart=>exact⟨s0,h00,HJ0.o⟩
 case round =>
  obtain⟨s1,⟨hs1,hJ1⟩,hme,hmin⟩:=HM.o _ hrel
  obtain⟨v1,v2,v3,⟨v4,v5,v6⟩,v7⟩:=HSEE.o s1 _ hJ1
  have c0:=(aA (nP v3).1).1
  have LB:=hQQ (nP v3).2.1
  have c1:=(aA (nP v3).2.2).1
  have PO:=hQQ (MN HR.o HH.o hn s1.F p kn s1.D k wr v1 HK.o v2 bt v4 v5 v6)
  have HJ:=hQQ hJ1
  have HME:=hQQ hme
  have HNX:Hq (uX c.us c.pg c.st k s1.i=aq (kJ c.us c.pg c.st k) fun x=>az (if x.2 then .told 0 x.1 else .fin)):=hQQ (by unfold uX;rw[hs1];rfl)
  clear v1 v2 v3 v4 v5 v6 v7 hJ1 hme hmin hrel hs1
  gi_wp2_with (refine ej rfl 28 _ rfl _ rfl 28 _ _ _ LB.o Tryz.underlying28 rfl (by kernel_rfl) ?_)
  refine⟨trivial,?_⟩
  gi_at_call 123
  refine(callsIn_wide.2 PO.o).mono ?_
  intro e W3 he
  clear c0 c1 PO LB
  rcases hE:kJ c.us c.pg c.st k kn s1.D with a'|⟨⟨x,ok⟩,D1⟩
  ·rw[hE] at he
   obtain⟨rfl,hd,ht⟩:=he
   exact⟨rfl,.inr ⟨_,rfl,HNED.o s1 _ wr W3 HJ.o ⟨a',by rw[HNX.o];exact ag hE,rfl,hd,ht⟩⟩⟩
  ·rw[hE] at he
   obtain⟨rfl,F1,hv1,ht1,hf1⟩:=he
   cases ok with
   |false =>
    have FI:=hQQ (HFIN.o s1 _ wr W3 HJ.o ⟨D1,F1,by rw[HNX.o];exact aj hE,rfl,hv1,ht1,hf1⟩)
    clear hv1 ht1 hf1 hE
    gi_wp2
    refine⟨fun f hh=>(by cases hh),?_⟩
    gi_wp2
    refine⟨trivial,?_⟩
    gi_wp2
    refine bodyPost_ret (results_none rfl _ _ _) rfl ?_
    exact .inl ⟨⟨_,rfl⟩,.inl ⟨_,FI.o⟩⟩
   |true =>
    have hJ':=HOWN.o s1 _ wr W3 HJ.o ⟨0,x,D1,F1,by rw[HNX.o];exact aj hE,rfl,hv1,ht1,hf1⟩
    have y9:=HY.o _ W3 hJ'
    rw[show(upI n kn p most bt (Ai p vb lb cb c k) (uX c.us c.pg c.st k)).enc ⟨0,s1.L,D1,F1,s1.G,x⟩= #[.int .i64 x] from rfl] at y9
    obtain⟨fn,tmps,assign,body,hy,hR⟩:=y9
    clear hv1 ht1 hf1 hE hJ'
    gi_wp2
    refine hR.mono ?_
    rintro e W4 (⟨rfl,s',⟨r1,r2,r3,r4,r5,r6,r7,r8⟩,hJ3⟩|⟨he,hJx3⟩)
    ·obtain⟨v1,v2,v3,⟨v4,v5,v6⟩,v7⟩:=HSEE.o s' _ hJ3
     have c0:=(aA (nP v3).1).1
     have LB:=hQQ (nP v3).2.1
     have c1:=(aA (nP v3).2.2).1
     have PO:=hQQ (Hj HR.o HH.o s'.F p kn s'.D k W4 v1 HK.o v2 bt v4 v5 v6)
     have HJ4:=hQQ hJ3
     have HNX4:Hq (uX c.us c.pg c.st k s'.i=aq (j0 c.pg c.st k) fun r=>az (if r then .skip 1 else .fin)):=hQQ (by unfold uX;rw[r1];rfl)
     have HL4:Hq (s'.L.length=s1.L.length+1∧s'.L.length<most):=hQQ ⟨r4,r5⟩
     clear v1 v2 v3 v4 v5 v6 v7 r1 r2 r3 r4 r5 r6 r7 r8 hJ3 hR hy
     gi_wp2_with (refine ej rfl 28 _ rfl _ rfl 28 _ _ _ LB.o Tryz.underlying28 rfl (by kernel_rfl) ?_)
     refine⟨trivial,?_⟩
     gi_at_call 24
     refine(callsIn_wide.2 PO.o).mono ?_
     intro e W5 he
     clear c0 c1 PO LB
     rcases hE:j0 c.pg c.st k kn s'.D with a'|⟨ok,D2⟩
     ·rw[hE] at he
      obtain⟨rfl,hd,ht⟩:=he
      exact⟨rfl,.inr ⟨_,rfl,HNED.o s' _ W4 W5 HJ4.o ⟨a',by rw[HNX4.o];exact ag hE,rfl,hd,ht⟩⟩⟩
     ·rw[hE] at he
      obtain⟨rfl,F2,hv1,ht1,hf1⟩:=he
      cases ok with
      |false =>
       have FI:=hQQ (HFIN.o s' _ W4 W5 HJ4.o ⟨D2,F2,by rw[HNX4.o];exact aj hE,rfl,hv1,ht1,hf1⟩)
       clear hv1 ht1 hf1 hE
       gi_wp2
       refine bodyPost_ret (results_none rfl _ _ _) rfl ?_
       exact .inl ⟨⟨_,rfl⟩,.inl ⟨_,FI.o⟩⟩
      |true =>
       have SK:=hQQ (HSKP.o s' _ W4 W5 HJ4.o ⟨1,D2,F2,by rw[HNX4.o];exact aj hE,rfl,hv1,ht1,hf1⟩)
       have HLT:Hq (mes W5<mes wr):=hQQ (by
        obtain⟨s2,h2,h3,h4⟩:=HM.o W5 ⟨_,rfl,SK.o⟩
        have h5:mes W5≤most-s'.L.length:=h4 ⟨1,s'.L,D2,F2,s'.G,s'.a⟩ ⟨rfl,SK.o⟩
        have h6:most-s1.L.length=mes wr:=HME.o
        have h7:=HL4.o
        clear h2 h3 h4 hv1 ht1 hf1 hE
        omega)
       clear hv1 ht1 hf1 hE
       gi_wp2
       go_roundw
       case rel=>exact⟨_,rfl,SK.o⟩
       case measure=>exact HLT.o
    ·rcases he with rfl|⟨ch,rfl⟩
     ·gi_wp2
      refine⟨trivial,?_⟩
      gi_wp2
      refine bodyPost_ret (results_none rfl _ _ _) rfl ?_
      exact .inl ⟨⟨_,rfl⟩,.inr hJx3⟩
     ·exact⟨rfl,.inr ⟨ch,rfl,hJx3⟩⟩
def kg (b:Nat)(xs:List Int)(v:Value)(w:World)(F:Nat→Prop):Prop:=iM b F w v xs
end Go.Proofs.YtddmeghbmdfgeaaGreatDoor
