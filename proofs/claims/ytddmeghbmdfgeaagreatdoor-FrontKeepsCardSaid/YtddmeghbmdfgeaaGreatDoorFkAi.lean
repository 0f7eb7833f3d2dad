/-
  Blocks that were told, each with its class, in a row: how it lies, and what append makes of it.
-/
import Derived.Test.YtddmeghbmdfgeaaGreatDoorFkAd
import Derived.Laws.OwnMore
import Derived.Laws.AppendOwnNone
import Derived.Maps.AppendAt
import Derived.Shelf.Abstract
import Derived.Test.YtddmeghbmdfgeaaGreatDoorFkAh
import Derived.IntWalk
import Derived.Test.YtddmeghbmdfgeaaGreatDoorFkAg
import Derived.Test.YtddmeghbmdfgeaaGreatDoorFkAe
set_option maxRecDepth 100000
set_option maxHeartbeats 8000000
set_option linter.all false
namespace Go.Proofs.YtddmeghbmdfgeaaGreatDoor
open Go.RowKit Go.Shelf
abbrev Bl:=Int×Int
def blCells (its:List Bl):List Value:=its.flatMap fun p=> [.int .i64 p.1,.int .i64 p.2]
theorem uz (a b:List Bl):blCells (a++b)=blCells a++blCells b:=by simp[blCells]
theorem fI (p:Bl)(ps:List Bl):blCells (p::ps)=.int .i64 p.1:: .int .i64 p.2::blCells ps:=by simp[blCells]
theorem jT:∀ps:List Bl,(blCells ps).length=ps.length * 2
 | []=>rfl
 |p::ps=>by rw[fI,List.length_cons,List.length_cons,jT ps,List.length_cons];omega
theorem rD:∀(ps:List Bl) (i:Nat) (p:Bl),ps[i]?=some p→(blCells ps)[i * 2]?=some (.int .i64 p.1)∧(blCells ps)[i * 2+1]?=some (.int .i64 p.2)
 | [],i,p,h=>by cases h
 |q::ps,0,p,h=>by
  simp at h;subst h
  rw[fI];exact⟨rfl,rfl⟩
 |q::ps,i+1,p,h=>by
  have:=rD ps i p (by simpa using h)
  rw[fI,show(i+1) * 2=i * 2+1+1 by omega]
  exact this
theorem Av {ps:List Bl} :∀u∈blCells ps,u.oneCell'=true:=by
 intro u hu
 obtain⟨p,_,hp⟩:=List.mem_flatMap.1 hu
 rcases List.mem_cons.1 hp with rfl|hp
 ·rfl
 ·obtain rfl:=List.mem_singleton.1 hp;rfl
theorem yd (ps:List Bl)(i:Nat):blCells (ps.take i)=(blCells ps).take (i * 2):=by
 induction ps generalizing i with
 |nil=>simp[blCells]
 |cons p ps ih =>
  cases i with
  |zero=>simp[blCells]
  |succ i=>rw[List.take_succ_cons,fI,fI,ih,show(i+1) * 2=i * 2+1+1 by omega];rfl
theorem ye (ps:List Bl)(i:Nat):blCells (ps.drop i)=(blCells ps).drop (i * 2):=by
 induction ps generalizing i with
 |nil=>simp[blCells]
 |cons p ps ih =>
  cases i with
  |zero=>simp
  |succ i=>rw[List.drop_succ_cons,fI,ih,show(i+1) * 2=i * 2+1+1 by omega];rfl
theorem Jo:∃i:TypeInfo,Tryz.prog.info? 48=some i∧i.zero=some (.agg #[.int .i64 0,.int .i64 0])∧i.size=2∧i.bytes=16:=by
 have h1:(Tryz.prog.info? 48).map (·.size)=some 2:=by kernel_rfl
 have h2:(Tryz.prog.info? 48).bind (·.zero)=some (.agg #[.int .i64 0,.int .i64 0]):=by kernel_rfl
 have h3:(Tryz.prog.info? 48).map (·.bytes)=some 16:=by kernel_rfl
 cases q:Tryz.prog.info? 48 with
 |none=>rw[q] at h1;simp at h1
 |some i=>rw[q] at h1 h2 h3;exact⟨i,rfl,by simpa using h2,by simpa using h1,by simpa using h3⟩
def BlR (base:Nat)(w:World)(v:Value)(its:List Bl):Prop:=w.ownsRow base 48 2 v its.length (blCells its)
theorem BlR.nil (base:Nat)(w:World):BlR base w (.slice none 0 0) []:=World.ownsRow_nil w base _ 2
theorem BlR.more {base:Nat}{w w':World}{v:Value}{its:List Bl}(h:BlR base w v its)(m:ae w w'):BlR base w' v its:=pi h m
theorem BlR.low {base base':Nat}{w:World}{v:Value}{its:List Bl}(h:BlR base w v its)(hb:base'≤base):BlR base' w v its:=qW h hb
theorem BlR.keep {base:Nat}{w w':World}{v:Value}{its:List Bl}(h:BlR base w v its){S:Nat→Prop}(t:Turned S w w')(hs:∀k,S k→∃cs T fr,w.heap[k]?=some (.cells cs T fr)∧T≠48):BlR base w' v its:=by
 refine⟨h.1,?_⟩
 rcases h.2 with q|⟨g,cap,cur,h1,h2,h3,h4⟩
 ·exact .inl q
 ·refine .inr ⟨g,cap,cur,h1,h2,?_,h4⟩
  rw[t.block g (ac h3) (fun q=>by
   obtain⟨cs,T,fr,e,hne⟩:=hs g q
   rw[h3] at e;cases e;exact hne rfl)]
  exact h3
theorem BlR.one {base:Nat}{w:World}{v:Value}{its:List Bl}(h:BlR base w v its):v.oneCell'=true:=by
 rcases h.2 with⟨rfl,_⟩|⟨g,cap,cur,rfl,_⟩<;>rfl
theorem BlR.reads {base:Nat}{w:World}{v:Value}{its:List Bl}(h:BlR base w v its):
 ∃a cap,v=.slice a its.length cap∧its.length≤cap∧(a=none→cap=0)∧∀g,a=some g→g=⟨g.block,0,none⟩∧∀j u,(blCells its)[j]?=some u→w.cell? ⟨g.block,j,none⟩=some u:=by
 rcases h.2 with⟨rfl,h0⟩|⟨g,cap,cur,rfl,hb,hg,hn,_,hs,ht⟩
 ·exact⟨none,0,by rw[h0],by omega,fun _=>rfl,fun g q=>by cases q⟩
 ·refine⟨_,cap,rfl,hn,(fun q=>by cases q),fun q hq=>?_⟩
  cases hq
  refine⟨rfl,fun j u hj=>?_⟩
  have hj':j<its.length * 2:=by have:=(List.getElem?_eq_some_iff.1 hj).1;rw[jT] at this;exact this
  have e:cur.toList[j]?=some u:=by
   have h1:(cur.toList.take (its.length * 2))[j]?=some u:=by rw[ht];exact hj
   rw[List.getElem?_take,if_pos (by omega)] at h1
   exact h1
  simp[World.cell?,hg]
  simpa using e
theorem BlR.at {base:Nat}{w:World}{v:Value}{its:List Bl}(h:BlR base w v its):∃a cap,v=.slice a its.length cap∧its.length≤cap∧(a=none→cap=0)∧∀k p,its[k]?=some p→∃g,a=some ⟨g,0,none⟩∧w.cell? ⟨g,k * 2,none⟩=some (.int .i64 p.1)∧w.cell? ⟨g,k * 2+1,none⟩=some (.int .i64 p.2):=by
 obtain⟨a,cap,rfl,hc,h0,hr⟩:=h.reads
 refine⟨a,cap,rfl,hc,h0,fun k p hk=>?_⟩
 have hlt:=(List.getElem?_eq_some_iff.1 hk).1
 cases a with
 |none=>have:=h0 rfl;omega
 |some g =>
  obtain⟨e,hcell⟩:=hr g rfl
  obtain⟨q1,q2⟩:=rD its k p hk
  exact⟨g.block,by rw[←e],hcell _ _ q1,hcell _ _ q2⟩
def Aw (w:World)(u:Value)(news:List Bl):Prop:=(u=.slice none 0 0∧news= [])∨∃p c,u=.slice (some p) news.length c∧∀j x,(blCells news)[j]?=some x→w.cell? (p.add j)=some x
theorem yg {o:Oper}{a:Act}{K:Act→World→Prop}{Q:Exit→Act→World→Prop}{w:World}{base:Nat}{v u:Value}{its news:List Bl}(s x:Operand)
 (ho:o.op=.call { callee:= .builtin .append,args:= #[s,x],argTypes:= #[35,35] })
 (hs:a.eval s=v) (hv:BlR base w v its) (hb:base≤w.heap.size) (hx:a.eval x=u) (hu:Aw w u news) (hl:its.length+news.length≤1000000)
 (h:∀v' w',BlR base w' v' (its++news)→Turned (fun k=>v.ownBlock=some k) w w'→(∀k,v'.ownBlock=some k→v.ownBlock=some k∨k=w.heap.size)→K (a.put o.dst v') w'):o.wp Tryz.prog a w K Q:=by
 obtain⟨i,i1,i2,i3,i4⟩:=Jo
 rcases hu with⟨rfl,rfl⟩|⟨p,c,rfl,hc⟩
 ·have hrun:=run_append_owned_none (P:=Tryz.prog) (w:=w) base 35 o.type 48 i 2 Tryz.underlying35 i1 v its.length _ hv
  unfold Oper.wp
  simp[execOp,ho,resolve,invoke,builtin,hs,hx,hrun,Result.andThen]
  exact h _ _ (by simpa using hv) (Turned.refl _ _) (fun k q=> .inl q)
 ·obtain⟨v',w',hr,h2,h3,_,h5⟩:=run_append_own_at (P:=Tryz.prog) w base 35 o.type 48 i _ 2 16 Tryz.underlying35 i1 i2 i3 i4 rfl (by omega) v its.length _ hv p news.length c (blCells news) (jT news) hc Av (by simp only[maxLen];omega) (by omega) hb
  unfold Oper.wp execOp
  simp only[ho,resolve,invoke,builtin,Sem.run_bind,Sem.run_pure,Result.andThen_ok,List.map_toArray,List.map_cons,List.map_nil,hs,hx,hr]
  refine h v' w' ?_ ⟨h3.os,h3.tape,h3.output,h3.size,fun k hk hne=>h3.block k hk (fun e=>hne e.symm)⟩ (fun k q=>?_)
  ·unfold BlR
   rw[List.length_append,uz]
   exact h2
  ·rcases h5 with h5|h5
   ·exact .inl (by rw[←h5];exact q)
   ·rw[h5] at q;cases q;exact .inr rfl
section
variable {ops:Array Oper}{C:World→Prop}{o':Oper}{a:Act}
theorem vh {x y:Operand}{g n cap m:Nat}(hw:Region.wanted o' (yielded ops a.tmps)=true)(ho:o'.op=.slice 35 x none (some y) none)(hx:a.eval x=.slice (some ⟨g,0,none⟩) n cap)(hy:a.eval y=.int .i64 (m:Int))(hm:m≤cap):bU Tryz.prog ops C o' (.slice (some ⟨g,0,none⟩) m cap) a:=by
 have d1:decide (m≤cap)=true:=by simp[hm]
 refine .inl ⟨hw,fun W hW=>?_⟩
 unfold execOp
 generalize a.eval=ρ at hx hy⊢
 simp only[ho,hx,hy]
 go_simp
def hiB (g m cap:Nat):Addr:=if cap=m+1 then⟨g,0,none⟩ else⟨g,(m+1) * 2,none⟩
theorem vi {x y:Operand}{g n cap m:Nat}(hw:Region.wanted o' (yielded ops a.tmps)=true)(ho:o'.op=.slice 35 x (some y) none none)(hx:a.eval x=.slice (some ⟨g,0,none⟩) n cap)(hy:a.eval y=.int .i64 ((m:Int)+1))(hm:m<n)(hn:n≤cap):bU Tryz.prog ops C o' (.slice (some (hiB g m cap)) (n-(m+1)) (cap-(m+1))) a:=by
 refine .inl ⟨hw,fun W hW=>?_⟩
 unfold execOp
 generalize a.eval=ρ at hx hy⊢
 simp only[ho,hx,hy]
 go_simp
 rw[if_pos ⟨by omega,by omega⟩]
 unfold hiB
 split<;>rfl
theorem oa {x y:Operand}{g n cap m:Nat}(hw:Region.wanted o' (yielded ops a.tmps)=true)(ho:o'.op=.indexAddr 35 x y)(hx:a.eval x=.slice (some ⟨g,0,none⟩) n cap)(hy:a.eval y=.int .i64 (m:Int))(hm:m<n):bU Tryz.prog ops C o' (.pointer (some ⟨g,m * 2,none⟩)) a:=by
 have d1:decide (m<n)=true:=by simp[hm]
 refine .inl ⟨hw,fun W hW=>?_⟩
 unfold execOp
 generalize a.eval=ρ at hx hy⊢
 simp only[ho,hx,hy]
 go_simp
end
theorem Lh {o:Oper}{a:Act}{w:World}{K:Act→World→Prop}{Q:Exit→Act→World→Prop}(ho:o.op=.buildSlice 35 0 #[])(h:K (a.put o.dst (.slice (some ⟨w.heap.size,0,none⟩) 0 0)) (w.alloc (.cells #[] 48))):Oper.wp Tryz.prog o a w K Q:=by
 unfold Oper.wp Oper.upon execOp
 simp only[ho]
 generalize a.eval=ρ
 go_simp
 exact h
theorem CH {W:World}{g cv j:Nat}{its:List Bl}(hc:∀i x,(blCells its)[i]?=some x→W.cell? ⟨g,i,none⟩=some x)(hj:j≤its.length):Aw W (.slice (some ⟨g,0,none⟩) j cv) (its.take j):=by
 have hl:(its.take j).length=j:=by simp;omega
 refine .inr ⟨⟨g,0,none⟩,cv,by rw[hl],fun i x hi=>?_⟩
 rw[i7,Nat.zero_add]
 refine hc i x ?_
 rw[yd,List.getElem?_take] at hi
 split at hi
 ·exact hi
 ·cases hi
theorem CI {W:World}{g cv m c:Nat}{its:List Bl}(hc:∀i x,(blCells its)[i]?=some x→W.cell? ⟨g,i,none⟩=some x)(hm:m<its.length)(hn:its.length≤cv):Aw W (.slice (some (hiB g m cv)) (its.length-(m+1)) c) (its.drop (m+1)):=by
 have hl:(its.drop (m+1)).length=its.length-(m+1):=by simp
 refine .inr ⟨hiB g m cv,c,by rw[hl],fun i x hi=>?_⟩
 have hi':=(List.getElem?_eq_some_iff.1 hi).1
 rw[jT,hl] at hi'
 have e:hiB g m cv=⟨g,(m+1) * 2,none⟩:=by unfold hiB;rw[if_neg (by omega)]
 rw[e,i7]
 refine hc _ x ?_
 rw[ye,List.getElem?_drop] at hi
 exact hi
theorem AG.skipO {m:Nat}{a:Act}{L:List (Nat×Value)}(h:AG m a L)(v:Value):AG m (a.put none v) L:=h
theorem Jp (w:World):BlR w.heap.size (w.alloc (.cells #[] 48)) (.slice (some ⟨w.heap.size,0,none⟩) 0 0) [] :=
 ⟨rfl,.inr ⟨_,0,_,rfl,Nat.le_refl _,a7 w _,Nat.le_refl _,by simp[maxLen],rfl,rfl⟩⟩
theorem BlR.own {base:Nat}{w:World}{v:Value}{its:List Bl}(h:BlR base w v its):∀k,v.ownBlock=some k→base≤k:=by
 intro k q
 rcases h.2 with⟨rfl,_⟩|⟨g,cap,cur,rfl,hb,_⟩
 ·cases q
 ·cases q;exact hb
theorem BlR.lt {base:Nat}{w:World}{v:Value}{its:List Bl}(h:BlR base w v its):∀k,v.ownBlock=some k→k<w.heap.size:=by
 intro k q
 rcases h.2 with⟨rfl,_⟩|⟨g,cap,cur,rfl,_,hb,_⟩
 ·cases q
 ·cases q;exact ac hb
theorem oc {w w':World}{base:Nat}{v:Value}{its:List Bl}(h:BlR base w v its){S:Nat→Prop}(t:Turned S w w')(hs:∀k,v.ownBlock=some k→¬S k):BlR base w' v its:=by
 refine⟨h.1,?_⟩
 rcases h.2 with q|⟨g,cap,cur,rfl,h2,h3,h4⟩
 ·exact .inl q
 ·exact .inr ⟨g,cap,cur,rfl,h2,(t.block g (ac h3) (hs g rfl)).trans h3,h4⟩
theorem rE {w w1 w2:World}{S T:Nat→Prop}(m:Turned S w w1)(t:Turned T w1 w2)(hs:∀k,T k→w.heap.size≤k):Turned S w w2 :=
 ⟨t.os.trans m.os,t.tape.trans m.tape,t.output.trans m.output,Nat.le_trans m.size t.size,fun k hk q=>by
  rw[t.block k (Nat.lt_of_lt_of_le hk m.size) (fun z=>by have:=hs k z;omega)];exact m.block k hk q⟩
theorem rN {P:Program}(w:World)(s off:Nat)(ty:TypeId)(v0 v1:Value)(d:TypeDesc)(h0:w.cell? ⟨s,off,none⟩=some v0)(h1:w.cell? ⟨s,off+1,none⟩=some v1)
 (hu:P.underlying ty=some d) (hd:(match d with| .struct _| .array _ _=>true|_=>false)=true) (hi:(P.info? ty).map (·.size)=some 2):
 (loadVar ty ⟨s,off,none⟩).run P w=.ok (.agg #[v0,v1]) w:=by
 have hl:(loadCells ⟨s,off,none⟩ [v0,v1].length).run P w=.ok [v0,v1].toArray w :=
  run_loadCells_list (P:=P) w ⟨s,off,none⟩ [v0,v1] (fun j v hv=>by
   rw[i7]
   match j,hv with
   | 0,hv=>cases hv;exact h0
   | 1,hv=>cases hv;exact h1
   |j+2,hv=>simp at hv)
 cases hq:P.info? ty with
 |none=>simp[hq] at hi
 |some i =>
  have hs:i.size=2:=by simpa [hq] using hi
  have hagg:(isAgg ty).run P w=.ok true w:=by
   unfold isAgg
   rw[Sem.run_bind,run_underlying hu w]
   cases d<;>simp_all
  simp only[List.length_cons,List.length_nil,Nat.reduceAdd] at hl
  simp[loadVar,Sem.run_bind,hagg,sizeOf,typeInfo,hq,hs,hl]
theorem Ay {P:Program}{ops:Array Oper}{C:World→Prop}{o:Oper}{a:Act}(hw:Region.wanted o (yielded ops a.tmps)=true)(ty:TypeId)(x:Operand)(ho:o.op=.load ty x)
 (s off:Nat) (hx:a.eval x=.pointer (some ⟨s,off,none⟩)) (v0 v1:Value) (d:TypeDesc) (hg:∀W,C W→W.cell? ⟨s,off,none⟩=some v0∧W.cell? ⟨s,off+1,none⟩=some v1)
 (hu:P.underlying ty=some d) (hd:(match d with| .struct _| .array _ _=>true|_=>false)=true) (hi:(P.info? ty).map (·.size)=some 2):bU P ops C o (.agg #[v0,v1]) a:=by
 refine .inl ⟨hw,fun W hW=>?_⟩
 obtain⟨h0,h1⟩:=hg W hW
 unfold execOp
 simp only[ho,hx,Instr.loadAt,Instr.sureAddr,Sem.run_bind,Sem.run_pure,Result.andThen_ok,rN W s off ty v0 v1 d h0 h1 hu hd hi]
theorem Az {w w1 w2:World}{S:Nat→Prop}(m:ae w w1)(t:Turned S w1 w2)(hs:∀k,S k→w.heap.size≤k):ae w w2 :=
 ⟨t.os.trans m.os,t.tape.trans m.tape,t.output.trans m.output,Nat.le_trans m.size t.size,fun k hk _=>by
  rw[t.block k (Nat.lt_of_lt_of_le hk m.size) (fun q=>by have:=hs k q;omega)];exact Turned.block m k hk (fun q=>q)⟩
theorem CJ (x:Int):0≤IntKind.u64.wrap x:=sU x
def wkV (x:Int):Int:=IntKind.u64.wrap x % 2
theorem NK (x:Int):wkV x=0∨wkV x=1:=by unfold wkV;omega
theorem Pp (x:Int):wrap64 ((IntKind.u64.wrap x).tmod 2)=wkV x:=by
 rw[Int.tmod_eq_emod_of_nonneg (CJ x)]
 unfold wrap64 wkV;omega
theorem Gj (k x u c m:Int)(w:World):Calls Tryz.prog 38 #[.agg #[.int .i64 k,.int .i64 x,.int .i64 u,.int .i64 c,.int .i64 m]] w (aP w (.int .i64 (wkV x))):=by
 obtain⟨w1,e1,hl1,m1,s1⟩:=en1 w (.cells #[.int .i64 k,.int .i64 x,.int .i64 u,.int .i64 c,.int .i64 m] 77)
 have c1:w1.cell? ⟨w.heap.size,1,none⟩=some (.int .i64 x):=by simp[World.cell?,hl1]
 have M1:=hQQ m1
 have hw:=hQQ (Pp x)
 clear hl1 m1
 go_enter Tryz.func38,Tryz.ntmps38
 go_wp2_with fail
 rw[hw.o]
 refine bodyPost_ret (v:=.int .i64 (wkV x)) (by simp[results,Tryz.results38,go_sem]) rfl ⟨rfl,M1.o⟩
def yh (b:Nat)(w:World)(its:List Bl)(val:Value→Value)(e:Ending)(w':World):Prop:=∃v,e=.returned (val v)∧BlR b w' v its∧ae w w'
def nthI (k:Int)(n:Nat):Nat:=(IntKind.u64.wrap k % (n:Int)).toNat
theorem Li (k:Int){n:Nat}(h:0<n):nthI k n<n:=by
 have h1:=Int.emod_nonneg (IntKind.u64.wrap k) (show(n:Int)≠0 by omega)
 have h2:=Int.emod_lt_of_pos (IntKind.u64.wrap k) (show 0<(n:Int) by omega)
 unfold nthI;omega
theorem NO (k:Int){n:Nat}(h:0<n)(h':n≤1000000):IntKind.i64.wrap ((IntKind.u64.wrap k).tmod (n:Int))=(nthI k n:Int):=by
 have h1:=Int.emod_nonneg (IntKind.u64.wrap k) (show(n:Int)≠0 by omega)
 have h2:=Int.emod_lt_of_pos (IntKind.u64.wrap k) (show 0<(n:Int) by omega)
 rw[Int.tmod_eq_emod_of_nonneg (CJ k),IntWalk.i64_in _ (by omega)]
 unfold nthI;omega
theorem NQ (v:Value)(k:Int)(w:World)(h:BlR 0 w v []):Calls Tryz.prog 39 #[v,.int .i64 k] w (yh 0 w [] (fun v=> .tuple #[.agg #[.int .i64 0,.int .i64 0],v,.bool false])):=by
 obtain⟨w1,e1,hl1,m1,s1⟩:=en1 w (.cells #[.int .i64 0,.int .i64 0] 48)
 have L1:=hQQ hl1
 have M1:=hQQ m1
 have HP:=hQQ (h.more m1)
 have HT:=h.lt
 obtain⟨av,cv,rfl,_,_,_⟩:=h.at
 simp only[List.length_nil] at HP HT⊢
 have FIN:Hq (∀W,ae w1 W→yh 0 w [] (fun v=> .tuple #[.agg #[.int .i64 0,.int .i64 0],v,.bool false]) (.returned (.tuple #[.agg #[.int .i64 0,.int .i64 0],.slice av 0 cv,.bool false])) (W.setRow w.heap.size #[.int .i64 0,.int .i64 0])):=hQQ fun W hW =>
  ⟨_,rfl,oc (base:=0) (HP.o.more hW) (S:=fun k=>k=w.heap.size) (Turned.setRow (Turned.refl _ W) _ _ (fun _=>rfl)) (fun k q z=>by
    subst z
    have:=HT _ q
    omega),(M1.o.trans hW).setRow _ _ (by omega)⟩
 clear hl1 m1 h s1 HT
 go_enter Tryz.func39,Tryz.ntmps39
 go_wp2_with (refine wpList_store_row rfl 48 _ _ rfl _ _ rfl rfl 48 _ L1.o (by kernel_rfl) rfl (by simp[Value.oneCell']) ?_)
 refine bodyPost_ret (v:=.tuple #[.agg #[.int .i64 0,.int .i64 0],.slice av 0 cv,.bool false]) (sd Tryz.results39 _ _ _ 48 _ (0,0) _ rfl (setRow_heap _ _ _ _ _ _ L1.o) Tryz.underlying48 rfl (by kernel_rfl)) rfl (FIN.o _ (ae.refl _))
theorem Lj (v:Value)(its:List Bl)(k x y:Int)(w:World)(h:BlR 0 w v its)(hl:its.length≤100000)(hm:its[nthI k its.length]?=some (x,y)):
 Calls Tryz.prog 39 #[v,.int .i64 k] w (yh w.heap.size w (its.take (nthI k its.length)++its.drop (nthI k its.length+1)) (fun v=> .tuple #[.agg #[.int .i64 x,.int .i64 y],v,.bool true])):=by
 obtain⟨wr,e1,hl1,m1,s1⟩:=en1 w (.cells #[.int .i64 0,.int .i64 0] 48)
 have BR:=hQQ hl1
 have M1:=hQQ m1
 have HP:=hQQ (h.more m1)
 have HT:=h.lt
 obtain⟨av,cv,rfl,hnc,_,hr⟩:=(h.more m1).at
 obtain⟨m,hmm⟩:∃m,nthI k its.length=m:=⟨_,rfl⟩
 obtain⟨its',hits'⟩:∃its',its.take m++its.drop (m+1)=its':=⟨_,rfl⟩
 rw[hmm] at hm⊢
 rw[hits']
 have hmn:m<its.length:=(List.getElem?_eq_some_iff.1 hm).1
 have hrem:=NO k (n:=its.length) (by omega) (by omega)
 rw[hmm] at hrem
 obtain⟨g,rfl,cc1,cc2⟩:=hr m _ hm
 simp only at cc1 cc2
 have hcv:g<w.heap.size:=HT g rfl
 have CA:Hq (∀i x,(blCells its)[i]?=some x→wr.cell? ⟨g,i,none⟩=some x):=hQQ (by
  obtain⟨a,cap,hv,_,_,hc⟩:=HP.o.reads
  cases hv
  intro i x hi
  exact(hc _ rfl).2 i x hi)
 have EI:=hQQ hits'
 have LL:=hQQ hl
 obtain⟨n,hn⟩:∃n,its.length=n:=⟨_,rfl⟩
 have HN:=hQQ hn
 rw[hn] at hmn hnc hrem
 rw[hn]
 have hmc:m≤cv:=by omega
 have HG:=hQQ hcv
 have S1:=hQQ s1
 have KW:Hq (∀W,Turned (fun b=>b=w.heap.size) wr W→∀i x,wr.cell? ⟨g,i,none⟩=some x→W.cell? ⟨g,i,none⟩=some x):=hQQ fun W hW i x hi=>by
  rw[World.cell?_of_block (w:=wr) (Turned.block hW g (by have:=S1.o;have:=HG.o;omega) (by have:=HG.o;omega))]
  exact hi
 have C1:=hQQ cc1
 have C2:=hQQ cc2
 have KX:Hq (∀W,Turned (fun b=>b=w.heap.size) wr W→W.cell? ⟨g,m * 2,none⟩=some (.int .i64 x)∧W.cell? ⟨g,m * 2+1,none⟩=some (.int .i64 y)):=hQQ fun W hW=>⟨KW.o W hW _ _ C1.o,KW.o W hW _ _ C2.o⟩
 have SL:Hq (∀W,Turned (fun b=>b=w.heap.size) wr W→Aw W (.slice (some ⟨g,0,none⟩) m cv) (its.take m)):=hQQ fun W hW=>CH (fun i x hi=>KW.o W hW _ _ (CA.o i x hi)) (by have:=HN.o;omega)
 have SH:Hq (∀W,Turned (fun b=>b=w.heap.size) wr W→Aw W (.slice (some (hiB g m cv)) (n-(m+1)) (cv-(m+1))) (its.drop (m+1))):=hQQ fun W hW=>by
  have:=CI (c:=cv-(m+1)) (fun i x hi=>KW.o W hW _ _ (CA.o i x hi)) (m:=m) (cv:=cv) (by have:=HN.o;omega) (by have:=HN.o;omega)
  rwa [HN.o] at this
 have FN:Hq (∀v9 wa,BlR w.heap.size wa v9 its'→Turned (fun b=>b=w.heap.size) wr wa→yh w.heap.size w its' (fun v=> .tuple #[.agg #[.int .i64 x,.int .i64 y],v,.bool true]) (.returned (.tuple #[.agg #[.int .i64 x,.int .i64 y],v9,.bool true])) wa):=hQQ fun v9 wa ir t=>⟨v9,rfl,ir,Az M1.o t (fun k q=>by omega)⟩
 have LW:Hq (w.heap.size≤wr.heap.size):=hQQ (by omega)
 have QW:Hq (IntKind.i64.wrap ((m:Int)+1)=(m:Int)+1):=hQQ (IntWalk.i64_in _ (by have:=LL.o;have:=HN.o;omega))
 have un:IntKind.u64.wrap (n:Int)=n:=IntWalk.u64_in _ (by omega)
 have n0:((n:Int)==0)=false:=by simp;omega
 have n1:decide ((n:Int)=0)=false:=by simp;omega
 have n2:(n:Int)≠0:=by omega
 clear hl1 m1 h s1 hr hl hn HP hits' hmm hm cc1 cc2 HT hcv
 go_enter Tryz.func39,Tryz.ntmps39
 go_wp2_with fail
 refine aM (fun W=>Turned (fun b=>b=w.heap.size) wr W) (by kernel_rfl) ?_
 change dc _ _ _ _ _ _ _ _ (wr.drewN 1)
 have MR:Hq (Turned (fun b=>b=w.heap.size) wr (wr.drewN 1)):=hQQ ((Turned.refl _ wr).drewN 1)
 have BQ:Hq ((wr.drewN 1).heap[w.heap.size]?=some (.cells #[.int .i64 0,.int .i64 0] 48 (0,0))):=hQQ BR.o
 generalize wr.drewN 1=wq at MR BQ⊢
 generalize hA:Act.mk _ _=A
 have HF:AG 34 A [(0,.slice (some ⟨g,0,none⟩) n cv),(4,.pointer (some ⟨w.heap.size,0,none⟩)),(7,.int .i64 (m:Int))]:=by
  rw[←hA];try simp only[pts,List.foldl]
  refine⟨⟨Nat.le_of_ble_eq_true rfl,rfl⟩,?_⟩
  intro z hz;simp only[List.mem_cons,List.not_mem_nil,or_false] at hz;rcases hz with rfl|rfl|rfl<;>rfl
 refine bH (fun a W=>a.eval (.tmp 4)=.pointer (some ⟨w.heap.size,0,none⟩)∧a.eval (.tmp 6)=.bool true∧a.defers= []∧∃v,a.eval (.tmp 5)=v∧BlR w.heap.size W v its'∧W.heap[w.heap.size]?=some (.cells #[.int .i64 x,.int .i64 y] 48 (0,0))∧Turned (fun b=>b=w.heap.size) wr W) (fun _=>False) [] (fun a W hd h=>h.elim) (fun _ _ _ _ _ h=>h) ?_ ?_
 ·skip
  rintro a9 wa ⟨hp,hs,hd,v9,hx,ir,hg,MS⟩
  have FIN:=hQQ (FN.o v9 wa ir MS)
  have HG:=hQQ hg
  clear HF hA MR ir MS hg
  obtain⟨ts,ds⟩:=a9
  simp only[Act.eval] at hs hx hp
  obtain rfl:ds= []:=hd
  go_wp2_with fail
  refine bodyPost_ret (v:=.tuple #[.agg #[.int .i64 x,.int .i64 y],v9,.bool true]) ((sd Tryz.results39 _ _ _ 48 _ (0,0) _ hp HG.o Tryz.underlying48 rfl (by kernel_rfl)).trans (by rw[hx,hs])) rfl FIN.o
 intro QQ FINE FIND FINQ
 clear hA
 refine tqM 0 20 0 rfl (.inl rfl) rfl (by kernel_rfl) FINQ MR.o HF fun A β1 HF=>?_
 refine tqM 1 21 3 rfl (.inl rfl) rfl (by kernel_rfl) FINQ MR.o HF fun A β2 HF=>?_
 refine tqC 2 22 (.pointer (some ⟨g,m * 2,none⟩)) (by kernel_rfl) FINQ MR.o HF (by exact oa (ab rfl) rfl (HF.get 1 rfl) (HF.get 0 rfl) hmn) fun A β3 HF=>?_
 refine tqC 3 23 (.agg #[.int .i64 x,.int .i64 y]) (by kernel_rfl) FINQ MR.o HF (by exact Ay (ab rfl) 48 _ rfl g (m * 2) (HF.get 0 rfl) (.int .i64 x) (.int .i64 y) _ (fun W hW=>KX.o W hW) Tryz.underlying48 rfl (by kernel_rfl)) fun A β4 HF=>?_
 refine tqM 5 25 4 rfl (.inl rfl) rfl (by kernel_rfl) FINQ MR.o HF fun A β5 HF=>?_
 refine tqM 6 26 7 rfl (.inl rfl) rfl (by kernel_rfl) FINQ MR.o HF fun A β6 HF=>?_
 refine tqC 7 27 (.slice (some ⟨g,0,none⟩) m cv) (by kernel_rfl) FINQ MR.o HF (by exact vh (ab rfl) rfl (HF.get 1 rfl) (HF.get 0 rfl) hmc) fun A β7 HF=>?_
 refine tqM 9 29 7 rfl (.inl rfl) rfl (by kernel_rfl) FINQ MR.o HF fun A β8 HF=>?_
 refine tqM 10 30 10 rfl (.inl rfl) rfl (by kernel_rfl) FINQ MR.o HF fun A β9 HF=>?_
 refine tqC 11 31 (.int .i64 ((m:Int)+1)) (by kernel_rfl) FINQ MR.o HF (by exact gy (ab rfl) rfl (HF.get 0 rfl) rfl _ QW.o) fun A β10 HF=>?_
 refine tqC 12 32 (.slice (some (hiB g m cv)) (n-(m+1)) (cv-(m+1))) (by kernel_rfl) FINQ MR.o HF (by exact vi (ab rfl) rfl (HF.get 2 rfl) (HF.get 0 rfl) hmn hnc) fun A β11 HF=>?_
 refine tqO 4 24 (by kernel_rfl) HF fun K hK=>?_
 refine Lh rfl ?_
 have M1:Hq (Turned (fun b=>b=w.heap.size) wr (wq.alloc (.cells #[] 48))):=hQQ (MR.o.alloc _)
 have Z1:=hQQ (Jp wq)
 have B1:=hQQ (((ae.refl wq).alloc (.cells #[] 48)).block BQ.o)
 refine hK _ _ M1.o fun A β12 HF=>?_
 clear hK K
 refine bG (i:=8) (some 28) (by kernel_rfl) rfl (ab rfl) rfl (fun K hK=>?_)
 refine yg _ _ rfl (HF.get 0 rfl) Z1.o (by simp) (HF.get 5 rfl) (SL.o _ M1.o) (by have:=LL.o;simp;omega) ?_
 intro v2 w2 r2 t2 k2
 obtain⟨a2,c2,hv2,_⟩:=r2.reads
 subst hv2
 have M2:Hq (Turned (fun b=>b=w.heap.size) wr w2):=hQQ (rE M1.o t2 (fun k q=>by have:=Z1.o.own k q;have:=MR.o.size;omega))
 have R2:Hq (BlR wq.heap.size w2 (.slice a2 ([]++its.take m).length c2) (its.take m)):=hQQ r2
 have G2:Hq (wq.heap.size≤w2.heap.size):=hQQ (by have:=t2.size;simp at this;omega)
 have B2:Hq (w2.heap[w.heap.size]?=some (.cells #[.int .i64 0,.int .i64 0] 48 (0,0))):=hQQ ((t2.block _ (ac B1.o) (fun q=>by have:=Z1.o.own _ q;have:=ac BQ.o;omega)).trans B1.o)
 refine hK _ _ M2.o ?_
 clear hK K r2 t2 k2
 replace HF:=HF.put 28 (.slice a2 ([]++its.take m).length c2) (by decide) rfl
 generalize β13:Act.put _ _ _=A at HF⊢
 refine bG (i:=13) (some 33) (by kernel_rfl) rfl (ab rfl) rfl (fun K hK=>?_)
 refine yg _ _ rfl (HF.get 0 rfl) R2.o (G2.o) (HF.get 2 rfl) (SH.o _ M2.o) (by have:=LL.o;simp;omega) ?_
 intro v3 w3 r3 t3 k3
 obtain⟨a3,c3,hv3,_⟩:=r3.reads
 subst hv3
 have M3:Hq (Turned (fun b=>b=w.heap.size) wr w3):=hQQ (rE M2.o t3 (fun k q=>by have:=R2.o.own k q;have:=MR.o.size;omega))
 have R3:Hq (BlR wq.heap.size w3 (.slice a3 (its.take m++its.drop (m+1)).length c3) its'):=hQQ (by rw[←EI.o];exact r3)
 have B3:Hq (w3.heap[w.heap.size]?=some (.cells #[.int .i64 0,.int .i64 0] 48 (0,0))):=hQQ ((t3.block _ (ac B2.o) (fun q=>by have:=R2.o.own _ q;have:=ac BQ.o;omega)).trans B2.o)
 have N3:Hq (∀k,Value.ownBlock (.slice a3 (its.take m++its.drop (m+1)).length c3)=some k→wq.heap.size≤k):=hQQ fun k q=>R3.o.own k q
 refine hK _ _ M3.o ?_
 clear hK K r3 t3 k3
 replace HF:=HF.put 33 (.slice a3 (its.take m++its.drop (m+1)).length c3) (by decide) rfl
 generalize β14:Act.put _ _ _=A at HF⊢
 obtain⟨n3,hn3⟩:∃n3,(its.take m++its.drop (m+1)).length=n3:=⟨_,rfl⟩
 rw[hn3] at HF R3 N3
 clear hn3
 have M4:Hq (Turned (fun b=>b=w.heap.size) wr (w3.setRow (w.heap.size) #[.int .i64 x,.int .i64 y])):=hQQ (Turned.setRow M3.o _ _ (fun _=>rfl))
 have tS:Turned (fun k=>k=w.heap.size) w3 (w3.setRow (w.heap.size) #[.int .i64 x,.int .i64 y]):=Turned.setRow (Turned.refl _ w3) _ _ (fun _=>rfl)
 have R4:Hq (BlR wq.heap.size (w3.setRow (w.heap.size) #[.int .i64 x,.int .i64 y]) (.slice a3 n3 c3) its'):=hQQ (oc R3.o tS (fun k q z=>by have:=N3.o k q;have:=ac BQ.o;omega))
 refine bG (i:=14) none (by kernel_rfl) rfl (ab rfl) rfl (fun K hK=>?_)
 refine wp_store_row 48 _ _ rfl (w.heap.size) #[.int .i64 x,.int .i64 y] (HF.get 15 rfl) (HF.get 10 rfl) 48 _ B3.o (by kernel_rfl) rfl (by simp[Value.oneCell']) ?_
 refine hK _ _ M4.o ?_
 clear hK K
 replace HF:=HF.skipO undef
 generalize hBN:Act.put _ _ _=A at HF⊢
 refine tqM 15 5 0 rfl (.inr rfl) rfl (by kernel_rfl) FINQ M4.o HF fun A β15 HF=>?_
 refine tqC 16 6 (.bool true) (by kernel_rfl) FINQ M4.o HF (by exact cK (ab rfl) _ rfl rfl) fun A β16 HF=>?_
 exact bI (by kernel_rfl) (FINE _ _ ⟨HF.get 17 rfl,HF.get 0 rfl,HF.1.2,_,HF.get 1 rfl,R4.o.low (Nat.le_trans LW.o MR.o.size),setRow_heap _ _ _ _ _ _ B3.o,M4.o⟩)
open Go.ChangeShapes Go.WideShapes Go.ChangeAt Go.Joins Go.Deep
abbrev ge:=Int×Int×Int×Int×Int
def NR (l:List ge):Prop:=∀i∈l,W64 i.1∧W64 i.2.1∧W64 i.2.2.1∧W64 i.2.2.2.1∧W64 i.2.2.2.2
def gg (w:World)(a:Option Addr)(l:List ge):Prop :=
 l= []∨∃s o,a=some ⟨s,o,none⟩∧s<w.heap.size∧∀i t,l[i]?=some t→w.cell? ⟨s,o+i * 5,none⟩=some (.int .i64 t.1)∧w.cell? ⟨s,o+i * 5+1,none⟩=some (.int .i64 t.2.1)∧w.cell? ⟨s,o+i * 5+2,none⟩=some (.int .i64 t.2.2.1)∧w.cell? ⟨s,o+i * 5+3,none⟩=some (.int .i64 t.2.2.2.1)∧w.cell? ⟨s,o+i * 5+4,none⟩=some (.int .i64 t.2.2.2.2)
theorem gg.keep {w w':World}{a:Option Addr}{l:List ge}(h:gg w a l){S:Nat→Prop}(t:Turned S w w')(hs:l≠ []→∀k,ip a k→¬S k):gg w' a l:=by
 rcases h with h|⟨s,o,rfl,hl,hc⟩
 ·exact .inl h
 ·by_cases e:l= []
  ·exact .inl e
  ·exact .inr ⟨s,o,rfl,Nat.lt_of_lt_of_le hl t.size,fun i u hi=>by
    obtain⟨c0,c1,c2,c3,c4⟩:=hc i u hi
    exact⟨d9 t (hs e s rfl) c0,d9 t (hs e s rfl) c1,d9 t (hs e s rfl) c2,d9 t (hs e s rfl) c3,d9 t (hs e s rfl) c4⟩⟩
theorem gg.more {w w':World}{a:Option Addr}{l:List ge}(h:gg w a l)(t:ae w w'):gg w' a l:=h.keep t (fun _ _ _ q=>q)
theorem gg.lt {w:World}{a:Option Addr}{l:List ge}(h:gg w a l)(hne:l≠ []):∀b,ip a b→b<w.heap.size:=fun b hb=>by
 obtain⟨s,o,rfl,hs,_⟩:=h.resolve_left hne
 have:s=b:=by simpa [ip] using hb
 omega
section
variable {H:Type}{enc:TypeId×Value→H}{P:Program}{w:World}{base:Nat}{spare:Nat→Bool}{held:Bool}
theorem yi {t:TypeId}{f0 f1 f2 f3 f4:Field}{fuel:Nat}{cs:List Value}{x:DataW H×List MemPlace}(ht:P.underlying t=some (.struct #[f0,f1,f2,f3,f4]))(h:DataW.trod enc P w base spare held fuel t cs=some x):
 ∃y0 y1 y2 y3 y4 n,cs.length=P.cellsOf t∧DataW.trod enc P w base spare held n f0.type ((cs.drop f0.offset).take (P.cellsOf f0.type))=some y0∧DataW.trod enc P w base spare held n f1.type ((cs.drop f1.offset).take (P.cellsOf f1.type))=some y1∧DataW.trod enc P w base spare held n f2.type ((cs.drop f2.offset).take (P.cellsOf f2.type))=some y2∧DataW.trod enc P w base spare held n f3.type ((cs.drop f3.offset).take (P.cellsOf f3.type))=some y3∧DataW.trod enc P w base spare held n f4.type ((cs.drop f4.offset).take (P.cellsOf f4.type))=some y4:=by
 obtain⟨xs,n,_,rfl,hl,hlen,hf⟩:=DataW.trod_struct ht h
 match xs,hlen with
 | [y0,y1,y2,y3,y4],_=>exact⟨y0,y1,y2,y3,y4,n,hl,by simpa using hf 0 f0 rfl,by simpa using hf 1 f1 rfl,by simpa using hf 2 f2 rfl,by simpa using hf 3 f3 rfl,by simpa using hf 4 f4 rfl⟩
theorem Gk {t e:TypeId}{f0 f1 f2 f3 f4:Field}{a:Option Addr}{len cap:Nat}{d:DataW H}{p:List MemPlace}(ht:P.underlying t=some (.slice e))(hs:P.underlying e=some (.struct #[f0,f1,f2,f3,f4]))(hone:oneCellFields P #[f0,f1,f2,f3,f4]=true)(hC:P.cellsOf e=5)
 (u0:P.underlying f0.type=some (.int .i64)) (u1:P.underlying f1.type=some (.int .i64)) (u2:P.underlying f2.type=some (.int .i64)) (u3:P.underlying f3.type=some (.int .i64)) (u4:P.underlying f4.type=some (.int .i64))
 (h:DataW.Trod enc P w base spare held t (.slice a len cap) d p):∃l:List ge,l.length=len∧gg w a l∧NR l∧l.length≤9223372036854775807:=by
 obtain⟨fuel,hf⟩:=h
 have zero:∀n,len=n→n=0→∃l:List ge,l.length=len∧gg w a l∧NR l∧l.length≤9223372036854775807:=fun n h0 h1=>⟨[],by rw[h0,h1];rfl,.inl rfl,(fun p hp=>by cases hp),by simp⟩
 rcases open_slice ht hf with⟨hcs,_⟩|⟨x,l,c,m,n,D,Pl,hcs,_,hl,hm,hmm,_,hi⟩
 ·simp[Value.cells] at hcs
  obtain⟨rfl,rfl,rfl⟩:=hcs
  exact zero _ rfl rfl
 ·simp[Value.cells] at hcs
  obtain⟨rfl,rfl,rfl⟩:=hcs
  have key:∀i,i<len→∃g:ge,w.cell? (x.add (i * 5))=some (.int .i64 g.1)∧w.cell? (x.add (i * 5+1))=some (.int .i64 g.2.1)∧w.cell? (x.add (i * 5+2))=some (.int .i64 g.2.2.1)∧w.cell? (x.add (i * 5+3))=some (.int .i64 g.2.2.2.1)∧w.cell? (x.add (i * 5+4))=some (.int .i64 g.2.2.2.2)∧W64 g.1∧W64 g.2.1∧W64 g.2.2.1∧W64 g.2.2.2.1∧W64 g.2.2.2.2:=by
   intro i hil
   obtain⟨cs',hc,ht'⟩:=hi i (by have:=hmm;split at this<;>omega)
   rw[hC] at hc
   obtain⟨_,hcl,hat⟩:=World.cells?_some hc
   obtain⟨c0,c1,c2,c3,c4,rfl⟩:∃c0 c1 c2 c3 c4,cs'= [c0,c1,c2,c3,c4]:=by
    match cs',hcl with
    | [c0,c1,c2,c3,c4],_=>exact⟨c0,c1,c2,c3,c4,rfl⟩
   obtain⟨y0,y1,y2,y3,y4,n',_,h0,h1,h2,h3,h4⟩:=yi hs ht'
   obtain⟨o0,k0⟩:=hone_of hone 0 f0 rfl
   obtain⟨o1,k1⟩:=hone_of hone 1 f1 rfl
   obtain⟨o2,k2⟩:=hone_of hone 2 f2 rfl
   obtain⟨o3,k3⟩:=hone_of hone 3 f3 rfl
   obtain⟨o4,k4⟩:=hone_of hone 4 f4 rfl
   rw[o0,k0] at h0;rw[o1,k1] at h1;rw[o2,k2] at h2;rw[o3,k3] at h3;rw[o4,k4] at h4
   obtain⟨x0,e0,_,w0⟩:=DataW.trod_int u0 h0
   obtain⟨x1,e1,_,w1⟩:=DataW.trod_int u1 h1
   obtain⟨x2,e2,_,w2⟩:=DataW.trod_int u2 h2
   obtain⟨x3,e3,_,w3⟩:=DataW.trod_int u3 h3
   obtain⟨x4,e4,_,w4⟩:=DataW.trod_int u4 h4
   simp at e0 e1 e2 e3 e4
   subst e0 e1 e2 e3 e4
   have a0:=hat 0 (by omega)
   have a1:=hat 1 (by omega)
   have a2:=hat 2 (by omega)
   have a3:=hat 3 (by omega)
   have a4:=hat 4 (by omega)
   rw[Go.Deep.add_add] at a0 a1 a2 a3 a4
   exact⟨(x0,x1,x2,x3,x4),a0,a1,a2,a3,a4,yM w0,yM w1,yM w2,yM w3,yM w4⟩
  by_cases h0:len=0
  ·exact zero _ rfl h0
  ·obtain⟨s,o,spot⟩:=x
   obtain⟨g0,hg0,_⟩:=key 0 (by omega)
   have hspot:spot=none:=by simpa [Addr.add] using World.cell?_spot hg0
   subst hspot
   have hF:∀i,∃g:ge,i<len→w.cell? ⟨s,o+i * 5,none⟩=some (.int .i64 g.1)∧w.cell? ⟨s,o+i * 5+1,none⟩=some (.int .i64 g.2.1)∧w.cell? ⟨s,o+i * 5+2,none⟩=some (.int .i64 g.2.2.1)∧w.cell? ⟨s,o+i * 5+3,none⟩=some (.int .i64 g.2.2.2.1)∧w.cell? ⟨s,o+i * 5+4,none⟩=some (.int .i64 g.2.2.2.2)∧W64 g.1∧W64 g.2.1∧W64 g.2.2.1∧W64 g.2.2.2.1∧W64 g.2.2.2.2:=by
    intro i
    by_cases hil:i<len
    ·obtain⟨g,hg⟩:=key i hil
     exact⟨g,fun _=>by simp only[Nat.add_assoc];simp only[←Fz];exact hg⟩
    ·exact⟨(0,0,0,0,0),fun q=>absurd q hil⟩
   have hm':cap≤9223372036854775807:=by unfold maxLen at hm;exact hm
   have hspec:=fun i hil=>Classical.choose_spec (hF i) hil
   refine⟨(List.range len).map fun i=>Classical.choose (hF i),by simp,.inr ⟨s,o,rfl,eQ (hspec 0 (by omega)).1,fun i t ht=>?_⟩,fun t ht=>?_,by simp;omega⟩
   ·obtain⟨hil,rfl⟩:=IJ ht
    have q:=hspec i hil
    exact⟨q.1,q.2.1,q.2.2.1,q.2.2.2.1,q.2.2.2.2.1⟩
   ·obtain⟨i,hi',rfl⟩:=List.mem_map.1 ht
    exact(hspec i (by simpa using hi')).2.2.2.2.2
end
theorem gg.range {w:World}{s o:Nat}{l:List ge}(h:gg w (some ⟨s,o,none⟩) l){j:Nat}{t:ge}(hj:l[j]?=some t):∀i v,([Value.int .i64 t.1,Value.int .i64 t.2.1,Value.int .i64 t.2.2.1,Value.int .i64 t.2.2.2.1,Value.int .i64 t.2.2.2.2]:List Value)[i]?=some v→w.cell? ⟨s,o+j * 5+i,none⟩=some v:=by
 rcases h with e|⟨s',o',e,_,hc⟩
 ·rw[e] at hj;simp at hj
 ·simp at e
  obtain⟨rfl,rfl⟩:=e
  obtain⟨c0,c1,c2,c3,c4⟩:=hc j t hj
  intro i v hv
  match i,hv with
  | 0,hv=>cases hv;exact c0
  | 1,hv=>cases hv;exact c1
  | 2,hv=>cases hv;exact c2
  | 3,hv=>cases hv;exact c3
  | 4,hv=>cases hv;exact c4
  |i+5,hv=>simp at hv
open Go.Sort Go.Maps
def oO (d:Cfg)(u c:Int):Prop:=0≤c∧c<5∧0≤u∧u<d.cp
instance (d:Cfg)(u c:Int):Decidable (oO d u c):=by unfold oO;infer_instance
def frM (d:Cfg):Nat:=(if d.ba-1≤d.pr then d.ba-1 else d.pr).toNat
def tkW (d:Cfg)(u:Int)(P:Nat→List Int)(c:Int)(ws:List Int):((Int×Bool)×(Nat→List Int))×List Int :=
 if oO d u c then mG d.us d.pg d.st (famC d) (5 * u.toNat+c.toNat) (5 * d.cp.toNat+c.toNat) c.toNat d.pr (frM d) P ws else(((0,false),P),ws)
def gvW (d:Cfg)(u:Int)(P:Nat→List Int)(c a:Int)(ws:List Int):(Nat→List Int)×List Int :=
 if oO d u c then wo d.us d.pg d.st (famC d) (5 * u.toNat+c.toNat) (5 * d.cp.toNat+c.toNat) c.toNat d.pr d.ba.toNat a P ws else(P,ws)
structure FSt where
 P0:Nat→List Int
 P1:Nat→List Int
 O:List Bl
def FSt.at (s:FSt)(x:Int):Nat→List Int:=if wkV x=0 then s.P0 else s.P1
def FSt.put (s:FSt)(x:Int)(P:Nat→List Int):FSt:=if wkV x=0 then⟨P,s.P1,s.O⟩ else⟨s.P0,P,s.O⟩
def FSt.out (s:FSt)(O:List Bl):FSt:=⟨s.P0,s.P1,O⟩
def FSt.all (s:FSt):List Bl:=puO s.P0++(puO s.P1++s.O)
def gu (d:Cfg)(u:Int):Int:=IntKind.u64.wrap u % d.cp
def pV (d:Cfg)(t:ge)(s:FSt)(ws:List Int):FSt×List Int :=
 if t.1=0∨t.1=1 then
  (((s.put t.2.1 (tkW d (gu d t.2.2.1) (s.at t.2.1) t.2.2.2.1 ws).1.2).out (if(tkW d (gu d t.2.2.1) (s.at t.2.1) t.2.2.2.1 ws).1.1.2 then s.O++ [((tkW d (gu d t.2.2.1) (s.at t.2.1) t.2.2.2.1 ws).1.1.1,t.2.2.2.1)] else s.O)),(tkW d (gu d t.2.2.1) (s.at t.2.1) t.2.2.2.1 ws).2)
 else if t.1=2∨t.1=3 then
  match s.O[nthI t.2.2.2.2 s.O.length]? with
  |none=>(s,ws)
  |some b=>(((s.put t.2.1 (gvW d (gu d t.2.2.1) (s.at t.2.1) b.2 b.1 ws).1).out (s.O.take (nthI t.2.2.2.2 s.O.length)++s.O.drop (nthI t.2.2.2.2 s.O.length+1))),(gvW d (gu d t.2.2.1) (s.at t.2.1) b.2 b.1 ws).2)
 else if t.1=4 then(s.put t.2.1 (fun _=> []),qO d.us d.pg d.st (s.at t.2.1) ws)
 else if t.1=5 then(s,oK d.us d.pg d.st (famC d) (famC d).m ws)
 else(s,ws)
def gJ (d:Cfg):List ge→FSt→List Int→FSt×List Int
 | [],s,ws=>(s,ws)
 |t::l,s,ws=>gJ d l (pV d t s ws).1 (pV d t s ws).2
structure FrS (d:Cfg)(n:Nat)(s:FSt)(ws:List Int):Prop where
 fri:∃C,FrI d.us d.pg d.st n (famC d) ws C s.all
 lim:(∀j,j<5→((s.P0 j).length:Int)≤d.pr)∧∀j,j<5→((s.P1 j).length:Int)≤d.pr
def FSt.oth (s:FSt)(x:Int):List Bl:=if wkV x=0 then puO s.P1 else puO s.P0
theorem FSt.perm (s:FSt)(x:Int):s.all.Perm (puO (s.at x)++(s.oth x++s.O)):=by
 unfold FSt.all FSt.at FSt.oth
 rcases NK x with e|e
 ·simp only[e,if_true];exact List.Perm.refl _
 ·simp only[e,show ¬((1:Int)=0) by omega,if_false]
  rw[←List.append_assoc,←List.append_assoc]
  exact List.perm_append_comm.append_right _
theorem FSt.perm2 (s:FSt)(x:Int)(P:Nat→List Int)(O:List Bl):((s.put x P).out O).all.Perm (puO P++(s.oth x++O)):=by
 unfold FSt.all FSt.put FSt.out FSt.oth
 rcases NK x with e|e
 ·simp only[e,if_true];exact List.Perm.refl _
 ·simp only[e,show ¬((1:Int)=0) by omega,if_false]
  rw[←List.append_assoc,←List.append_assoc]
  exact List.perm_append_comm.append_right _
theorem FSt.out_same (s:FSt)(x:Int)(P:Nat→List Int):(s.put x P).out s.O=s.put x P:=by
 unfold FSt.put FSt.out;split<;>rfl
theorem FSt.lim_at {d:Cfg}{s:FSt}(h:(∀j,j<5→((s.P0 j).length:Int)≤d.pr)∧∀j,j<5→((s.P1 j).length:Int)≤d.pr)(x:Int):∀j,j<5→((s.at x j).length:Int)≤d.pr:=by
 unfold FSt.at
 split
 ·exact h.1
 ·exact h.2
theorem FSt.lim_put {d:Cfg}{s:FSt}(h:(∀j,j<5→((s.P0 j).length:Int)≤d.pr)∧∀j,j<5→((s.P1 j).length:Int)≤d.pr)(x:Int){P:Nat→List Int}(hP:∀j,j<5→((P j).length:Int)≤d.pr)(O:List Bl):(∀j,j<5→((((s.put x P).out O).P0 j).length:Int)≤d.pr)∧∀j,j<5→((((s.put x P).out O).P1 j).length:Int)≤d.pr:=by
 unfold FSt.put FSt.out
 split
 ·exact⟨hP,h.2⟩
 ·exact⟨h.1,hP⟩
section
variable {d:Cfg}(R:d.Ok){n:Nat}(H:cB d.pg d.st n)(hw:(n:Int)=d.words)(hn:n≤10000)
include R H hw hn
theorem uA:0≤d.us∧d.us+32 * d.pg≤1000000:=by
 have hb:=o8 R
 have e:d.words=d.us+32 * d.pg:=rfl
 have e2:d.us=fN d.cp d.pg d.st d.ca d.bi:=rfl
 omega
theorem Lk {u c:Int}(P:Nat→List Int)(hP:∀j,j<5→((P j).length:Int)≤d.pr){ws:List Int}{C:Nat→List Int}{O:List Bl}(h:FrI d.us d.pg d.st n (famC d) ws C (puO P++O)):
 tkW d u P c ws=(((0,false),P),ws)∨∃a P' X C',tkW d u P c ws=(((a,true),P'),X)∧FrI d.us d.pg d.st n (famC d) X C' (puO P'++((a,c)::O))∧∀j,j<5→((P' j).length:Int)≤d.pr:=by
 unfold tkW
 split
 ·rename_i q
  obtain⟨q0,q1,q2,q3⟩:=q
  obtain⟨a1,_,_,a4⟩:=i5 (d:=d) (u:=u.toNat) (c:=c.toNat) (by omega) (by omega)
  obtain⟨b1,_,_,b4⟩:=nD (d:=d) (c:=c.toNat) (by have:=R.cp1;omega) (by omega)
  have hm:((frM d:Nat):Int)≤d.pr:=by have:=R.pr1;have:=R.ba1;unfold frM;split<;>omega
  rcases Jd H (oJ R hw) hn (uA R H hw hn) a1 b1 (k:=c.toNat) (by omega) a4 b4 d.pr (frM d) hm P hP h with e|⟨a,P',X,C',e,h',hl⟩
  ·exact .inl e
  ·refine .inr ⟨a,P',X,C',e,?_,hl⟩
   rw[show((c.toNat:Nat):Int)=c by omega] at h'
   exact h'
 ·exact .inl rfl
theorem Ll {u c a:Int}(hu:0≤u∧u<d.cp)(P:Nat→List Int)(hP:∀j,j<5→((P j).length:Int)≤d.pr){ws:List Int}{C:Nat→List Int}{O:List Bl}(h:FrI d.us d.pg d.st n (famC d) ws C (puO P++((a,c)::O))):
 ∃P' X C',gvW d u P c a ws=(P',X)∧FrI d.us d.pg d.st n (famC d) X C' (puO P'++O)∧∀j,j<5→((P' j).length:Int)≤d.pr:=by
 obtain⟨G,W⟩:=h.pgs
 obtain⟨_,_,c0,c4,_⟩:=xT H W ((h.acc a c).2 (by simp))
 unfold gvW
 rw[if_pos ⟨c0,by omega,hu.1,hu.2⟩]
 obtain⟨a1,_,_,a4⟩:=i5 (d:=d) (u:=u.toNat) (c:=c.toNat) (by omega) (by omega)
 obtain⟨b1,_,_,b4⟩:=nD (d:=d) (c:=c.toNat) (by have:=R.cp1;omega) (by omega)
 refine Jg H (oJ R hw) hn (uA R H hw hn) a1 b1 (k:=c.toNat) (by omega) a4 b4 R.pr1 (by have:=R.ba1;omega) P hP (C:=C) ?_
 rw[show((c.toNat:Nat):Int)=c by omega]
 exact h
theorem NS (u:Int):0≤gu d u∧gu d u<d.cp:=by
 have:=R.cp1
 exact⟨Int.emod_nonneg _ (by omega),Int.emod_lt_of_pos _ (by omega)⟩
theorem CM (t:ge){s:FSt}{ws:List Int}(h:FrS d n s ws):FrS d n (pV d t s ws).1 (pV d t s ws).2:=by
 obtain⟨⟨C,hC⟩,hl⟩:=h
 have hS:=oJ R hw
 obtain⟨kind,x,u,c,m⟩:=t
 have hC1:=hC.perm (s.perm x)
 have hlx:=FSt.lim_at hl x
 unfold pV
 simp only
 split
 ·rcases Lk R H hw hn (u:=gu d u) (c:=c) (s.at x) hlx hC1 with e|⟨a,P',X,C',e,h',hl'⟩
  ·rw[e]
   refine⟨⟨C,?_⟩,FSt.lim_put hl x hlx _⟩
   simp only[Bool.false_eq_true,if_false]
   exact hC1.perm (s.perm2 x _ _).symm
  ·rw[e]
   refine⟨⟨C',?_⟩,FSt.lim_put hl x hl' _⟩
   simp only[if_true]
   refine h'.perm (List.Perm.trans ?_ (s.perm2 x _ _).symm)
   refine List.Perm.append_left _ ?_
   rw[←List.append_assoc]
   exact List.perm_append_comm (l₁:=[(a,c)])
 ·split
  ·split
   ·exact⟨⟨C,hC⟩,hl⟩
   ·rename_i b hb
    have hm:=List.getElem?_eq_some_iff.1 hb
    have hO:s.O.Perm (b::(s.O.take (nthI m s.O.length)++s.O.drop (nthI m s.O.length+1))):=by
     have e1:s.O=s.O.take (nthI m s.O.length)++b::s.O.drop (nthI m s.O.length+1):=by
      obtain⟨hlt,hv⟩:=hm
      rw[←hv,←List.drop_eq_getElem_cons hlt,List.take_append_drop]
     exact(List.Perm.of_eq e1).trans List.perm_middle
    obtain⟨ba,bc⟩:=b
    have h2:FrI d.us d.pg d.st n (famC d) ws C (puO (s.at x)++((ba,bc)::(s.oth x++(s.O.take (nthI m s.O.length)++s.O.drop (nthI m s.O.length+1))))):=hC1.perm (List.Perm.append_left _ ((hO.append_left _).trans List.perm_middle))
    obtain⟨P',X,C',e,h',hl'⟩:=Ll R H hw hn (NS R H hw hn u) (s.at x) hlx h2
    simp only
    rw[e]
    exact⟨⟨C',h'.perm (s.perm2 x _ _).symm⟩,FSt.lim_put hl x hl' _⟩
  ·split
   ·simp only
    rw[←s.out_same x (fun _=> [])]
    refine⟨⟨C,?_⟩,FSt.lim_put hl x (P:=fun _=> []) (fun j _=>by have:=R.pr1;simp;omega) s.O⟩
    refine(Gg H hS hn (s.at x) hC1).perm ?_
    exact(s.perm2 x (fun _=> []) s.O).symm
   ·split
    ·obtain⟨C',h',_⟩:=Gh H hS hn hC
     exact⟨⟨C',h'⟩,hl⟩
    ·exact⟨⟨C,hC⟩,hl⟩
theorem rF:∀(l:List ge) {s:FSt} {ws:List Int},FrS d n s ws→FrS d n (gJ d l s ws).1 (gJ d l s ws).2
 | [],_,_,h=>h
 |t::l,_,_,h=>rF l (CM R H hw hn t h)
theorem Gl:FrS d n ⟨fun _=> [],fun _=> [],[]⟩ (cJ n):=
 ⟨⟨_,Gb R H hw d.us⟩,fun j _=>by have:=R.pr1;simp;omega,fun j _=>by have:=R.pr1;simp;omega⟩
end
def dp (d:Cfg)(P:Nat→List Int):Prop:=∀j,j<5→((P j).length:Int)≤d.pr∧∀a∈P j,W64 a
theorem dp.nil {d:Cfg}(R:d.Ok):dp d (fun _=> []):=fun j _=>⟨by have:=R.pr1;simp;omega,fun a ha=>by cases ha⟩
structure uB (d:Cfg)(n bt:Nat) where
 tkP:Int→(Nat→List Int)→Int→Prg ((Int×Bool)×(Nat→List Int))
 gvP:Int→(Nat→List Int)→Int→Int→Prg (Unit×(Nat→List Int))
 flP:(Nat→List Int)→Prg (Unit×(Nat→List Int))
 drP:Prg Unit
 tkS:∀u P c,bh (tkP u P c)
 gvS:∀u P c a,bh (gvP u P c a)
 flS:∀P,bh (flP P)
 drS:bh drP
 tkG:∀u P c,dp d P→bQ n (fun x=>W64 x.1.1∧dp d x.2) (tkP u P c)
 gvG:∀u P c a,dp d P→W64 a→bQ n (fun x=>dp d x.2) (gvP u P c a)
 flG:∀P,dp d P→bQ n (fun x=>x.2=fun _=> []) (flP P)
 drG:bQ n (fun _=>True) drP
 tkF:∀u P c,dp d P→bJ n (tkP u P c) (tkW d u P c)
 gvF:∀u P c a,dp d P→W64 a→bJ n (gvP u P c a) (fun ws=>(((),(gvW d u P c a ws).1),(gvW d u P c a ws).2))
 flF:∀P,dp d P→bJ n (flP P) (fun ws=>(((),fun _=> []),qO d.us d.pg d.st P ws))
 drF:bJ n drP (fun ws=>((),oK d.us d.pg d.st (famC d) (famC d).m ws))
 tkC:∀(F N:Nat→Prop) (p:Nat) (kn:Int→Option Int) (D:List KV) (w:World) (u c:Int) (f:Nat→Value) (P:Nat→List Int),aD w F p kn D→OkK kn→cC n D→dd bt w→¬F 0→¬F bt→(∀q,N q→q<w.heap.size)→cL (fun q=>N q∨F q) w f P→dp d P →
  Calls Tryz.prog 30 #[.pointer (some ⟨p,0,none⟩),.agg d.arr,.int .i64 u,.agg (puA f),.int .i64 c] w (iA w F N p kn (fun x v=> .tuple #[.int .i64 x.1,v,.bool x.2]) (tkP u P c kn D))
 gvC:∀(F N:Nat→Prop) (p:Nat) (kn:Int→Option Int) (D:List KV) (w:World) (u c a:Int) (f:Nat→Value) (P:Nat→List Int),aD w F p kn D→OkK kn→cC n D→dd bt w→¬F 0→¬F bt→(∀q,N q→q<w.heap.size)→cL (fun q=>N q∨F q) w f P→dp d P→W64 a →
  Calls Tryz.prog 40 #[.pointer (some ⟨p,0,none⟩),.agg d.arr,.int .i64 u,.agg (puA f),.int .i64 c,.int .i64 a] w (iA w F N p kn (fun _ v=>v) (gvP u P c a kn D))
 flC:∀(F N:Nat→Prop) (p:Nat) (kn:Int→Option Int) (D:List KV) (w:World) (f:Nat→Value) (P:Nat→List Int),aD w F p kn D→OkK kn→cC n D→dd bt w→¬F 0→¬F bt→(∀q,N q→q<w.heap.size)→cL (fun q=>N q∨F q) w f P→dp d P →
  Calls Tryz.prog 17 #[.pointer (some ⟨p,0,none⟩),.agg d.arr,.agg (puA f)] w (iA w F N p kn (fun _ v=>v) (flP P kn D))
 drC:∀(F:Nat→Prop) (p:Nat) (kn:Int→Option Int) (D:List KV) (w:World),aD w F p kn D→OkK kn→cC n D→dd bt w→¬F 0→¬F bt →
  Calls Tryz.prog 18 #[.pointer (some ⟨p,0,none⟩),.agg d.arr] w (aG w F p kn (fun _:Unit=> .tuple #[]) (drP kn D))
structure OkS (d:Cfg)(s:FSt):Prop where
 l0:dp d s.P0
 l1:dp d s.P1
 o:∀b∈s.O,W64 b.1
theorem OkS.at {d:Cfg}{s:FSt}(h:OkS d s)(x:Int):dp d (s.at x):=by
 unfold FSt.at
 split
 ·exact h.l0
 ·exact h.l1
theorem OkS.put {d:Cfg}{s:FSt}(h:OkS d s)(x:Int){P:Nat→List Int}(hP:dp d P){O:List Bl}(hO:∀b∈O,W64 b.1):OkS d ((s.put x P).out O):=by
 unfold FSt.put FSt.out
 split
 ·exact⟨hP,h.l1,hO⟩
 ·exact⟨h.l0,hP,hO⟩
theorem OkS.nil {d:Cfg}(R:d.Ok):OkS d ⟨fun _=> [],fun _=> [],[]⟩:=⟨dp.nil R,dp.nil R,fun b hb=>by cases hb⟩
theorem CO {α β:Type}{n:Nat}{p:Prg α}{f:α→Prg β}{g:List Int→α×List Int}{k:α→List Int→β×List Int}{Q:α→Prop}(h:bJ n p g)(G:bQ n Q p)(hf:∀x,Q x→bJ n (f x) (k x)):bJ n (ak p f) (fun ws=>k (g ws).1 (g ws).2):=fun zs D hn hz hD=>by
 obtain⟨D1,e1,a1,i1⟩:=h zs D hn hz hD
 obtain⟨D2,e2,a2,i2⟩:=hf (g (bZ zs D)).1 (G.ok (jG hz) hD e1).2 zs D1 hn hz i1
 refine⟨D2,?_,?_,i2⟩
 ·rw[aj e1,e2,a1]
 ·rw[a2,a1]
section
variable {d:Cfg}{n bt:Nat}(T:uB d n bt)
def dG (t:ge)(s:FSt):Prg FSt :=
 if t.1=0∨t.1=1 then ak (T.tkP (gu d t.2.2.1) (s.at t.2.1) t.2.2.2.1) fun x=>ay ((s.put t.2.1 x.2).out (if x.1.2 then s.O++ [(x.1.1,t.2.2.2.1)] else s.O))
 else if t.1=2∨t.1=3 then
  match s.O[nthI t.2.2.2.2 s.O.length]? with
  |none=>ay s
  |some b=>ak (T.gvP (gu d t.2.2.1) (s.at t.2.1) b.2 b.1) fun x=>ay ((s.put t.2.1 x.2).out (s.O.take (nthI t.2.2.2.2 s.O.length)++s.O.drop (nthI t.2.2.2.2 s.O.length+1)))
 else if t.1=4 then ak (T.flP (s.at t.2.1)) fun x=>ay (s.put t.2.1 x.2)
 else if t.1=5 then ak T.drP fun _=>ay s
 else ay s
def dQ:List ge→FSt→Prg FSt
 | [],s=>ay s
 |t::l,s=>ak (dG T t s) fun s'=>dQ l s'
theorem AA (t:ge)(s:FSt):bh (dG T t s):=by
 unfold dG
 refine aH (aq (T.tkS _ _ _) fun _=>ah _) (aH ?_ (aH (aq (T.flS _) fun _=>ah _) (aH (aq T.drS fun _=>ah _) (ah _))))
 split
 ·exact ah _
 ·exact aq (T.gvS _ _ _ _) fun _=>ah _
theorem lx:∀(l:List ge) (s:FSt),bh (dQ T l s)
 | [],s=>ah _
 |t::l,s=>aq (AA T t s) fun s'=>lx l s'
theorem uC (R:d.Ok)(t:ge){s:FSt}(h:OkS d s):bQ n (fun s'=>OkS d s'∧s'.O.length≤s.O.length+1) (dG T t s):=by
 unfold dG
 split
 ·refine ar (T.tkG _ _ _ (h.at _)) fun x hx=>ai n ⟨h.put _ hx.2 fun b hb=>?_,?_⟩
  ·split at hb
   ·rcases List.mem_append.1 hb with q|q
    ·exact h.o b q
    ·obtain rfl:=List.mem_singleton.1 q;exact hx.1
   ·exact h.o b hb
  ·have e:∀(s:FSt) O,(FSt.out s O).O=O:=fun _ _=>rfl
   rw[e];split<;>simp
 ·split
  ·split
   ·exact ai n ⟨h,by omega⟩
   ·rename_i b hb
    refine ar (T.gvG _ _ _ _ (h.at _) (h.o b (List.mem_of_getElem? hb))) fun x hx=>ai n ⟨h.put _ hx fun b' hb'=>?_,?_⟩
    ·rcases List.mem_append.1 hb' with q|q
     ·exact h.o b' (List.mem_of_mem_take q)
     ·exact h.o b' (List.mem_of_mem_drop q)
    ·have e:∀(s:FSt) O,(FSt.out s O).O=O:=fun _ _=>rfl
     rw[e];simp;omega
  ·split
   ·refine ar (T.flG _ (h.at _)) fun x hx=>ai n ?_
    rw[←s.out_same,hx]
    exact⟨h.put _ (dp.nil R) h.o,by show s.O.length≤_;omega⟩
   ·split
    ·exact ar T.drG fun _ _=>ai n ⟨h,by omega⟩
    ·exact ai n ⟨h,by omega⟩
theorem mI (R:d.Ok):∀(l:List ge) {s:FSt},OkS d s→bQ n (fun s'=>OkS d s'∧s'.O.length≤s.O.length+l.length) (dQ T l s)
 | [],s,h=>ai n ⟨h,by simp⟩
 |t::l,s,h=>ar (uC T R t h) fun s' hs=>de (mI R l hs.1) fun s2 h2=>⟨h2.1,by have:=h2.2;have:=hs.2;simp;omega⟩
theorem CR (t:ge){s:FSt}(h:OkS d s):bJ n (dG T t s) (pV d t s):=by
 unfold dG
 have e:pV d t s=fun ws=>pV d t s ws:=rfl
 rw[e]
 unfold pV
 split
 ·exact aA (T.tkF _ _ _ (h.at _)) fun x=>au n _
 ·split
  ·split
   ·rename_i hb
    try simp only[hb]
    exact au n _
   ·rename_i b hb
    try simp only[hb]
    exact aA (T.gvF _ _ _ _ (h.at _) (h.o b (List.mem_of_getElem? hb))) fun x=>au n _
  ·split
   ·exact aA (T.flF _ (h.at _)) fun x=>au n _
   ·split
    ·exact aA T.drF fun x=>au n _
    ·exact au n _
theorem mK (R:d.Ok):∀(l:List ge) {s:FSt},OkS d s→bJ n (dQ T l s) (gJ d l s)
 | [],s,h=>au n _
 |t::l,s,h=>CO (CR T t h) (uC T R t h) fun s' hs=>mK R l hs.1
end
def wy3 (d:Cfg)(u k:Int):List WayD:= [.room (caV d u k) d.ca,.room (biV d k) d.bi,.home]
def gvP (d:Cfg)(u:Int)(P:Nat→List Int)(k a:Int):Prg (Unit×(Nat→List Int)):=
 if caV d u k=0 then ay ((),P)
 else ak (if d.pr≤cV P k then dF d.us d.pg d.st (wy3 d u k) k d.ba.toNat P else ay P) fun P'=>ay ((),d7 P' k a (cV P' k+1))
def flN (d:Cfg):Nat→Nat→(Nat→List Int)→Prg (Nat→List Int)
 | _,0,P=>ay P
 |k,m+1,P=>ak (dF d.us d.pg d.st [.home] k (P k).length P) fun P'=>flN d (k+1) m P'
def flP (d:Cfg)(P:Nat→List Int):Prg (Unit×(Nat→List Int)):=ak (flN d 0 5 P) fun _=>ay ((),fun _=> [])
def drP (d:Cfg):Prg Unit:=eY d.us d.pg d.st [.home] (famL (famC d) (famC d).m)
theorem cL.congr {F:Nat→Prop}{w:World}{f:Nat→Value}{P P':Nat→List Int}(h:cL F w f P)(e:∀j,j<5→P j=P' j):cL F w f P':=⟨fun j hj=>(e j hj)▸h.1 j hj,h.2⟩
section
variable {d:Cfg}(R:d.Ok)
include R
theorem jU (u k:Int):caV d u k≠0↔oO d u k:=by
 have h1:=R.ca1;have h2:=R.st1;have h3:=R.pg1
 unfold caV og oO
 split
 ·rename_i h
  obtain⟨a,b,c,e⟩:=h
  refine⟨fun _=>⟨c,by omega,a,b⟩,fun _=>?_⟩
  have:0≤(5 * u+k) * (d.ca+1):=Int.mul_nonneg (by omega) (by omega)
  unfold dq bd aZ aL
  omega
 ·rename_i h
  refine⟨fun q=>absurd rfl q,fun q=>absurd ⟨q.2.2.1,q.2.2.2,q.1,by omega⟩ h⟩
variable {n:Nat}(hw:(n:Int)=d.words)
include hw
theorem CT {i:Nat}(hi:i<(famC d).m)(H:cB d.pg d.st n)(hn:n≤10000):dY ((famC d).b i) ((famC d).l i) n:=Cw H (oJ R hw) hn hi
end
theorem dp.w {d:Cfg}{P:Nat→List Int}(h:dp d P):pR P:=fun j hj=>(h j hj).2
theorem dp.len {d:Cfg}(R:d.Ok){P:Nat→List Int}(h:dp d P):∀j,j<5→(P j).length≤1000000:=fun j hj=>by have:=(h j hj).1;have:=R.pr2;omega
theorem wD (xs:List Int)(x:Int)(m:Nat):(xs++ [x]).take ((xs++ [x]).length-(m+1))=xs.take (xs.length-m):=by
 rw[List.length_append,show xs.length+ [x].length-(m+1)=xs.length-m by simp]
 exact List.take_append_of_le_length (by omega)
section
variable (us pg st:Int)(wy:List WayD){k:Nat}(hk:k<5)
include hk
theorem rG:∀(m:Nat) (P:Nat→List Int) (ws:List Int),(ia us pg st wy k m P ws).1=c6 P k ((P k).take ((P k).length-m))
 | 0,P,ws=>by
   show P=_
   rw[Nat.sub_zero,List.take_length,eN]
 |m+1,P,ws=>by
  have e0:ia us pg st wy k (m+1) P ws=if gI P k then ia us pg st wy k m (gO P k) (oL us pg st wy (hU P k) ws) else(P,ws):=rfl
  rw[e0]
  rcases List.eq_nil_or_concat (P k) with e|⟨xs,x,e⟩
  ·rw[if_neg (by rw[se P hk e];simp),e,List.take_nil]
   show P=c6 P k []
   rw[←e,eN]
  ·rw[List.concat_eq_append] at e
   obtain⟨b1,b2,b3⟩:=lm P hk e
   rw[if_pos b1,b3,rG m,lj,jS,e,wD]
theorem ly {n:Nat}(H:cB pg st n)(hy:∀y∈wy,jw n y):∀(m:Nat) (P:Nat→List Int),pR P→bQ n (fun P'=>P'=c6 P k ((P k).take ((P k).length-m))) (dF us pg st wy k m P)
 | 0,P,_=>ai n (by rw[Nat.sub_zero,List.take_length,eN])
 |m+1,P,h=>by
  refine aO (fun e=>ar (pS H (uk h e) hy) fun _ _=>de (ly H hy m _ (ul h k)) fun P' q=>?_) (fun e=>ai n ?_)
  ·rcases List.eq_nil_or_concat (P k) with e1|⟨xs,x,e1⟩
   ·rw[se P hk e1] at e;cases e
   ·rw[List.concat_eq_append] at e1
    obtain⟨b1,b2,b3⟩:=lm P hk e1
    rw[q,b3,lj,jS,e1,wD]
  ·rcases List.eq_nil_or_concat (P k) with e1|⟨xs,x,e1⟩
   ·rw[e1,List.take_nil,←e1,eN]
   ·rw[List.concat_eq_append] at e1
    exact absurd (lm P hk e1).1 e
end
theorem Gm {d:Cfg}{P:Nat→List Int}(h:dp d P)(k:Nat)(m:Nat):dp d (c6 P k ((P k).take m)):=fun j hj=>by
 unfold c6
 split
 ·rename_i e;subst e
  exact⟨by have:=(h j hj).1;simp;omega,fun a ha=>(h j hj).2 a (List.mem_of_mem_take ha)⟩
 ·exact h j hj
theorem uD (P:Nat→List Int){k:Nat}(hk:k<5)(a:Int):d7 P k a (cV P k+1)=c6 P k (P k++ [a]):=kB P hk a (by rw[dZ P hk];omega)
theorem wE {d:Cfg}{P:Nat→List Int}(h:dp d P){k:Nat}(hk:k<5){a:Int}(ha:W64 a)(hl:((P k).length:Int)<d.pr):dp d (c6 P k (P k++ [a])):=fun j hj=>by
 unfold c6
 split
 ·refine⟨by simp;omega,fun x hx=>?_⟩
  rcases List.mem_append.1 hx with q|q
  ·exact(h k hk).2 x q
  ·rw[List.mem_singleton.1 q];exact ha
 ·exact h j hj
section
variable {d:Cfg}(R:d.Ok){n:Nat}(H:cB d.pg d.st n)(hw:(n:Int)=d.words)(hn:n≤10000)
include R H hw hn
theorem Jq {u k:Int}(h:oO d u k):wy3 d u k= [.room ((famC d).b (5 * u.toNat+k.toNat)) ((famC d).l (5 * u.toNat+k.toNat)),.room ((famC d).b (5 * d.cp.toNat+k.toNat)) ((famC d).l (5 * d.cp.toNat+k.toNat)),.home]:=by
 obtain⟨q0,q1,q2,q3⟩:=h
 obtain⟨_,a2,a3,_⟩:=i5 (d:=d) (u:=u.toNat) (c:=k.toNat) (by omega) (by omega)
 obtain⟨_,b2,b3,_⟩:=nD (d:=d) (c:=k.toNat) (by have:=R.cp1;omega) (by omega)
 rw[a2,a3,b2,b3]
 unfold wy3 caV biV
 rw[show((u.toNat:Nat):Int)=u by omega,show((k.toNat:Nat):Int)=k by omega]
theorem yj {u k:Int}(h:oO d u k):∀y∈wy3 d u k,jw n y:=by
 rw[Jq R H hw hn h]
 obtain⟨q0,q1,q2,q3⟩:=h
 have a1:=(i5 (d:=d) (u:=u.toNat) (c:=k.toNat) (by omega) (by omega)).1
 have b1:=(nD (d:=d) (c:=k.toNat) (by have:=R.cp1;omega) (by omega)).1
 intro y hy
 simp only[List.mem_cons,List.not_mem_nil,or_false] at hy
 rcases hy with rfl|rfl|rfl
 ·exact CT R hw a1 H hn
 ·exact CT R hw b1 H hn
 ·trivial
theorem Jr (u:Int)(P:Nat→List Int)(k a:Int):bh (gvP d u P k a):=
 aH (ah _) (aq (aH (mH _ _ _ _ _ _ _) (ah _)) fun _=>ah _)
theorem uE {u:Int}{P:Nat→List Int}{k:Nat}(h:oO d u k)(hP:dp d P):bQ n (fun P'=>dp d P'∧((P' k).length:Int)<d.pr) (if d.pr≤cV P k then dF d.us d.pg d.st (wy3 d u k) k d.ba.toNat P else ay P):=by
 have hk:k<5:=by have:=h.2.1;omega
 refine aO (fun q=>?_) (fun q=>ai n ⟨hP,by rw[dZ P hk] at q;omega⟩)
 refine de (ly _ _ _ _ hk H (yj R H hw hn h) _ P hP.w) fun P' e=>?_
 subst e
 refine⟨Gm hP k _,?_⟩
 rw[jS]
 have h1:=(hP k hk).1
 have h2:=R.ba1
 have h3:=R.pr1
 rw[dZ P hk] at q
 simp
 omega
theorem Lm (u:Int)(P:Nat→List Int)(k a:Int)(hP:dp d P)(ha:W64 a):bQ n (fun x=>dp d x.2) (gvP d u P k a):=by
 unfold gvP
 refine aO (fun _=>ai n hP) (fun q=>?_)
 have h:=(jU R u k).1 q
 obtain⟨j,rfl⟩:∃j:Nat,k=j:=⟨k.toNat,by have:=h.1;omega⟩
 have hj:j<5:=by have:=h.2.1;omega
 refine ar (uE R H hw hn h hP) fun P' hp=>ai n ?_
 show dp d (d7 P' j a (cV P' j+1))
 rw[uD P' hj]
 exact wE hp.1 hj ha hp.2
theorem Lo (u:Int)(P:Nat→List Int)(k a:Int)(hP:dp d P)(ha:W64 a):bJ n (gvP d u P k a) (fun ws=>(((),(gvW d u P k a ws).1),(gvW d u P k a ws).2)):=by
 by_cases q:caV d u k=0
 ·have nk:¬oO d u k:=fun z=>(jU R u k).2 z q
  unfold gvP gvW
  rw[if_pos q]
  refine aU (au n _) fun ws _=>?_
  rw[if_neg nk]
 ·have h:=(jU R u k).1 q
  obtain⟨j,rfl⟩:∃j:Nat,k=j:=⟨k.toNat,by have:=h.1;omega⟩
  have hj:j<5:=by have:=h.2.1;omega
  unfold gvP
  rw[if_neg q]
  by_cases hf:d.pr≤cV P j
  ·rw[if_pos hf]
   have G:=uE R H hw hn h hP
   rw[if_pos hf] at G
   refine aU (oM (oN H (yj R H hw hn h) j _ P hP.w) G fun P' hp=>au n _) fun ws _=>?_
   unfold gvW wo
   rw[if_pos h]
   rw[dZ P hj] at hf
   have e1:(P (j:Int).toNat).length=(P j).length:=by simp
   rw[if_pos (by simpa using hf)]
   rw[Jq R H hw hn h]
   have e2:=uu d.us d.pg d.st (famC d) (5 * u.toNat+(j:Int).toNat) (5 * d.cp.toNat+(j:Int).toNat) j d.ba.toNat P ws
   have e3:=rG d.us d.pg d.st [.room ((famC d).b (5 * u.toNat+(j:Int).toNat)) ((famC d).l (5 * u.toNat+(j:Int).toNat)),.room ((famC d).b (5 * d.cp.toNat+(j:Int).toNat)) ((famC d).l (5 * d.cp.toNat+(j:Int).toNat)),.home] hj d.ba.toNat P ws
   rw[e2] at e3
   rw[e2]
   simp only[Int.toNat_natCast] at e3⊢
   rw[e3]
   rw[uD _ hj,kB _ hj a]
   rw[jS]
   have h1:=(hP j hj).1
   have h2:=R.ba1
   have h3:=R.pr1
   simp
   omega
  ·rw[if_neg hf]
   refine aU (aA (au n P) fun P'=>au n _) fun ws _=>?_
   unfold gvW wo
   rw[if_pos h]
   rw[dZ P hj] at hf
   rw[if_neg (by simpa using hf)]
   simp only[Int.toNat_natCast]
   rw[uD _ hj,kB _ hj a (by omega)]
theorem wF:∀(k m:Nat) (P:Nat→List Int),bh (flN d k m P)
 | _,0,P=>ah _
 |k,m+1,P=>aq (mH _ _ _ _ _ _ _) fun P'=>wF (k+1) m P'
theorem Js (P:Nat→List Int):bh (flP d P):=aq (wF R H hw hn _ _ _) fun _=>ah _
theorem lz:∀y∈ [WayD.home],jw n y:=fun y hy=>by rw[List.mem_singleton.1 hy];trivial
theorem AB:∀(k m:Nat) (P:Nat→List Int),k+m≤5→pR P→bQ n (fun P'=>pR P'∧(∀j,j<k→P' j=P j)∧∀j,k≤j→j<k+m→P' j= []) (flN d k m P)
 | _,0,P,_,h=>ai n ⟨h,fun _ _=>rfl,fun j h1 h2=>by omega⟩
 |k,m+1,P,hk,h=>by
  refine ar (ly _ _ _ _ (by omega) H (lz R H hw hn) _ P h) fun P1 e=>?_
  rw[Nat.sub_self,List.take_zero] at e
  subst e
  have hw1:pR (c6 P k []):=fun j hj a ha=>by
   unfold c6 at ha
   split at ha
   ·cases ha
   ·exact h j hj a ha
  refine de (AB (k+1) m _ (by omega) hw1) fun P' q=>⟨q.1,fun j hj=>?_,fun j h1 h2=>?_⟩
  ·rw[q.2.1 j (by omega)];unfold c6;rw[if_neg (by omega)]
  ·by_cases e:j=k
   ·subst e;rw[q.2.1 j (by omega),jS]
   ·exact q.2.2 j (by omega) (by omega)
theorem Lp (P:Nat→List Int)(hP:dp d P):bQ n (fun x=>x.2=fun _=> []) (flP d P):=ar (AB R H hw hn 0 5 P (by omega) hP.w) fun _ _=>ai n rfl
def Lq (d:Cfg):Nat→Nat→(Nat→List Int)→List Int→(Nat→List Int)×List Int
 | _,0,P,ws=>(P,ws)
 |k,m+1,P,ws=>Lq d (k+1) m (ia d.us d.pg d.st [.home] k (P k).length P ws).1 (ia d.us d.pg d.st [.home] k (P k).length P ws).2
theorem AC:∀(k m:Nat) (P:Nat→List Int),k+m≤5→pR P→bJ n (flN d k m P) (fun ws=>Lq d k m P ws)
 | _,0,P,_,h=>au n P
 |k,m+1,P,hk,h=>oM (oN H (lz R H hw hn) k _ P h) (uq H (lz R H hw hn) k _ P h) fun P1 q=>AC (k+1) m P1 (by omega) q.1
theorem Jt (P:Nat→List Int)(ws:List Int):(Lq d 0 5 P ws).2=qO d.us d.pg d.st P ws:=by
 simp only[Lq]
 have L:=fun(k:Nat) (hk:k<5) (Q:Nat→List Int) (ws:List Int)=>rx d.us d.pg d.st hk _ Q ws rfl
 rw[L 0 (by omega)]
 simp only
 rw[L 1 (by omega)]
 simp only
 rw[L 2 (by omega)]
 simp only
 rw[L 3 (by omega)]
 simp only
 rw[L 4 (by omega)]
 simp only[c6]
 rfl
theorem Lr (P:Nat→List Int)(hP:dp d P):bJ n (flP d P) (fun ws=>(((),fun _=> []),qO d.us d.pg d.st P ws)):=
 aU (aA (AC R H hw hn 0 5 P (by omega) hP.w) fun _=>au n _) fun ws _=>by rw[←Jt R H hw hn]
theorem oP:∀s∈famL (famC d) (famC d).m,dY s.1 s.2 n:=fun s hs=>by
 obtain⟨i,hi,rfl⟩:=Ao _ hs
 exact CT R hw hi H hn
theorem Ju:bh (drP d):=pQ _ _ _ _ _
theorem Ls:bQ n (fun _=>True) (drP d):=ru H (lz R H hw hn) _ (oP R H hw hn)
theorem Lt:bJ n (drP d) (fun ws=>((),oK d.us d.pg d.st (famC d) (famC d).m ws)):=
 aU (rv H (lz R H hw hn) _ (oP R H hw hn)) fun ws _=>by rw[pT]
end
section
variable (us pg st:Int)
def gK (b l:Int):Nat→List Int→Prg (List Int)
 | 0,L=>ay L
 |m+1,L=>ak (d8 b l) fun x=>if x.2 then gK b l m (L++ [x.1]) else ay L
def mL (k:Int):Nat→List Int→Prg (List Int)
 | 0,L=>ay L
 |m+1,L=>ak (ma pg st k) fun r=>if r then ak (km us pg st k) fun x=>if x.2 then mL k m (L++ [x.1]) else ay L else ay L
def jx (k:Int)(m:Nat)(L:List Int):Prg (List Int):=ak (km us pg st k) fun x=>if x.2 then mL us pg st k (m-(L.length+1)) (L++ [x.1]) else ay L
def dh (b l:Int):Nat→List Int→List Int→List Int×List Int
 | 0,L,ws=>(L,ws)
 |m+1,L,ws=>if(aY b l ws).1.2 then dh b l m (L++ [(aY b l ws).1.1]) (aY b l ws).2 else(L,(aY b l ws).2)
def ib (k:Int):Nat→List Int→List Int→List Int×List Int
 | 0,L,ws=>(L,ws)
 |m+1,L,ws=>if tQ pg st k ws then(if(cZ us pg st k ws).1.2 then ib k m (L++ [(cZ us pg st k ws).1.1]) (cZ us pg st k ws).2 else(L,(cZ us pg st k ws).2)) else(L,ws)
def yk (k:Int)(m:Nat)(L:List Int)(ws:List Int):List Int×List Int:=if(cZ us pg st k ws).1.2 then ib us pg st k (m-(L.length+1)) (L++ [(cZ us pg st k ws).1.1]) (cZ us pg st k ws).2 else(L,(cZ us pg st k ws).2)
theorem mM (b l:Int):∀(m:Nat) (L:List Int),bh (gK b l m L)
 | 0,L=>ah _
 |m+1,L=>aq (rp _ _) fun x=>aH (mM b l m _) (ah _)
theorem rH (k:Int):∀(m:Nat) (L:List Int),bh (mL us pg st k m L)
 | 0,L=>ah _
 |m+1,L=>aq (Cd _ _ _) fun r=>aH (aq (tF _ _ _ _) fun x=>aH (rH k m _) (ah _)) (ah _)
theorem AE (k:Int)(m:Nat)(L:List Int):bh (jx us pg st k m L):=aq (tF _ _ _ _) fun x=>aH (rH us pg st k _ _) (ah _)
end
def kD (L:List Int):Prop:=∀a∈L,W64 a
theorem kD.nil:kD []:=fun a h=>by cases h
theorem kD.snoc {L:List Int}(h:kD L){a:Int}(ha:W64 a):kD (L++ [a]):=fun x hx=>by
 rcases List.mem_append.1 hx with q|q
 ·exact h x q
 ·rw[List.mem_singleton.1 q];exact ha
theorem jy {b l:Int}{n:Nat}(H:dY b l n):∀(m:Nat) (L:List Int),kD L→bQ n (fun L'=>kD L'∧L'.length≤L.length+m) (gK b l m L)
 | 0,L,h=>ai n ⟨h,by simp⟩
 |m+1,L,h=>ar (hH H) fun x hx=>aO (fun _=>de (jy H m _ (h.snoc hx)) fun L' q=>⟨q.1,by have:=q.2;simp at this;omega⟩) (fun _=>ai n ⟨h,by omega⟩)
theorem oQ {b l:Int}{n:Nat}(H:dY b l n):∀(m:Nat) (L:List Int),bJ n (gK b l m L) (dh b l m L)
 | 0,L=>au n _
 |m+1,L=>by
  refine aU (aA (oH H) fun x=>bE (fun _=>oQ H m (L++ [x.1])) (fun _=>au n L)) fun ws _=>?_
  have e:dh b l (m+1) L ws=if(aY b l ws).1.2 then dh b l m (L++ [(aY b l ws).1.1]) (aY b l ws).2 else(L,(aY b l ws).2):=rfl
  rw[e]
theorem Pb (k:Int):0≤szV k∧szV k≤16:=by
 unfold szV
 (repeat' split)<;>omega
section
variable {us pg st:Int}{n:Nat}(H:cB pg st n)(hu:0≤us∧us+32 * pg≤1000000)
include H
theorem Eh (k:Int):bQ n (fun _=>True) (ma pg st k):=ar (ik H _ _ _) fun _ _=>ai n trivial
include hu
theorem uF (k:Int):bQ n (fun x=>W64 x.1) (km us pg st k):=ar (oA H k) fun q hq=>aO (fun _=>ai n (by unfold W64;constructor<;>decide)) (fun h=>by
 have hq:=hq.resolve_left h
 have PB:=cj H.toPgIn hq
 have hq':=ax.1 hq
 refine ar (bb n PB.2.2.2.1) fun b hb=>aO (fun _=>ai n (by unfold W64;constructor<;>decide)) (fun _=>ar (bb n PB.2.1.2.1) fun was _=>ar (gY H.toPgIn hq (rY hb _)) fun _ _=>ar (gX H q k was hq) fun _ _=>ai n ?_)
 have h1: -1≤bP b (aw k)∧bP b (aw k)≤64:=by rcases DS b (aw k) with z|z<;>omega
 have h2:=Pb k
 have h3: -16≤bP b (aw k) * szV k:=by
  have:(-1) * szV k≤bP b (aw k) * szV k:=Int.mul_le_mul_of_nonneg_right h1.1 h2.1
  omega
 have h4:bP b (aw k) * szV k≤64 * 16:=by
  have e1:bP b (aw k) * szV k≤64 * szV k:=Int.mul_le_mul_of_nonneg_right h1.2 h2.1
  omega
 unfold W64
 constructor<;>omega)
theorem uG (k:Int):∀(m:Nat) (L:List Int),kD L→bQ n (fun L'=>kD L'∧L'.length≤L.length+m) (mL us pg st k m L)
 | 0,L,h=>ai n ⟨h,by simp⟩
 |m+1,L,h=>ar (Eh H k) fun r _=>aO (fun _=>ar (uF H hu k) fun x hx=>aO (fun _=>de (uG k m _ (h.snoc hx)) fun L' q=>⟨q.1,by have:=q.2;simp at this;omega⟩) (fun _=>ai n ⟨h,by omega⟩)) (fun _=>ai n ⟨h,by omega⟩)
theorem uH (k:Int)(m:Nat)(L:List Int)(h:kD L)(hm:L.length<m):bQ n (fun L'=>kD L'∧L'.length≤m) (jx us pg st k m L):=
 ar (uF H hu k) fun x hx=>aO (fun _=>de (uG H hu k _ _ (h.snoc hx)) fun L' q=>⟨q.1,by have:=q.2;simp at this;omega⟩) (fun _=>ai n ⟨h,by omega⟩)
omit hu
theorem uI (k:Int):∀(m:Nat) (L:List Int),bJ n (mL us pg st k m L) (ib us pg st k m L)
 | 0,L=>au n _
 |m+1,L=>by
  refine aU (aA (FJ H k) fun r=>bE (fun _=>aA (qK H us k) fun x=>bE (fun _=>uI k m (L++ [x.1])) (fun _=>au n L)) (fun _=>au n L)) fun ws _=>?_
  have e:ib us pg st k (m+1) L ws=if tQ pg st k ws then(if(cZ us pg st k ws).1.2 then ib us pg st k m (L++ [(cZ us pg st k ws).1.1]) (cZ us pg st k ws).2 else(L,(cZ us pg st k ws).2)) else(L,ws):=rfl
  rw[e]
theorem CW (k:Int)(m:Nat)(L:List Int):bJ n (jx us pg st k m L) (yk us pg st k m L):=
 aA (qK H us k) fun x=>bE (fun _=>uI H k _ (L++ [x.1])) (fun _=>au n L)
end
theorem uJ (b l:Int):∀(m:Nat) (A L ws:List Int),dh b l m (A++L) ws=(A++(dh b l m L ws).1,(dh b l m L ws).2)
 | 0,A,L,ws=>rfl
 |m+1,A,L,ws=>by
  unfold dh
  split
  ·rw[List.append_assoc,uJ b l m]
  ·rfl
theorem uK (us pg st k:Int):∀(m:Nat) (A L ws:List Int),ib us pg st k m (A++L) ws=(A++(ib us pg st k m L ws).1,(ib us pg st k m L ws).2)
 | 0,A,L,ws=>rfl
 |m+1,A,L,ws=>by
  unfold ib
  split
  ·split
   ·rw[List.append_assoc,uK us pg st k m]
   ·rfl
  ·rfl
def bu (k lim:Int):(Nat→List Int)→List Int→(Nat→List Int)
 |P,[]=>P
 |P,a::t=>bu k lim (d7 P k a lim) t
theorem gL (k lim:Int)(x:Int):∀(L:List Int) (P:Nat→List Int),bu k lim P (L++ [x])=d7 (bu k lim P L) k x lim
 | [],P=>rfl
 |a::t,P=>gL k lim x t _
section
variable (us pg st:Int)(S:Fam)(i0 i1:Nat)
theorem wG (k:Nat)(lim:Int)(P:Nat→List Int):∀(m:Nat) (L ws:List Int),fT us pg st S i0 i1 k 0 lim m (bu k lim P L) ws=(bu k lim P (dh (S.b i0) (S.l i0) m L ws).1,(dh (S.b i0) (S.l i0) m L ws).2)
 | 0,L,ws=>rfl
 |m+1,L,ws=>by
  have e1:fT us pg st S i0 i1 k 0 lim (m+1) (bu k lim P L) ws=if(aY (S.b i0) (S.l i0) ws).1.2 then fT us pg st S i0 i1 k 0 lim m (d7 (bu k lim P L) k (aY (S.b i0) (S.l i0) ws).1.1 lim) (aY (S.b i0) (S.l i0) ws).2 else(bu k lim P L,(aY (S.b i0) (S.l i0) ws).2):=rfl
  rw[e1]
  unfold dh
  split
  ·rw[←gL,wG k lim P m]
  ·rfl
theorem wH (k:Nat)(lim:Int)(P:Nat→List Int):∀(m:Nat) (L ws:List Int),fT us pg st S i0 i1 k 1 lim m (bu k lim P L) ws=(bu k lim P (dh (S.b i1) (S.l i1) m L ws).1,(dh (S.b i1) (S.l i1) m L ws).2)
 | 0,L,ws=>rfl
 |m+1,L,ws=>by
  have e1:fT us pg st S i0 i1 k 1 lim (m+1) (bu k lim P L) ws=if(aY (S.b i1) (S.l i1) ws).1.2 then fT us pg st S i0 i1 k 1 lim m (d7 (bu k lim P L) k (aY (S.b i1) (S.l i1) ws).1.1 lim) (aY (S.b i1) (S.l i1) ws).2 else(bu k lim P L,(aY (S.b i1) (S.l i1) ws).2):=rfl
  rw[e1]
  unfold dh
  split
  ·rw[←gL,wH k lim P m]
  ·rfl
theorem wI (k:Nat)(lim:Int)(P:Nat→List Int):∀(m:Nat) (L ws:List Int),fT us pg st S i0 i1 k 2 lim m (bu k lim P L) ws=(bu k lim P (ib us pg st k m L ws).1,(ib us pg st k m L ws).2)
 | 0,L,ws=>rfl
 |m+1,L,ws=>by
  have e0:jE us pg st S i0 i1 k 2 ws=if tQ pg st k ws then cZ us pg st k ws else((0,false),ws):=rfl
  have e1:fT us pg st S i0 i1 k 2 lim (m+1) (bu k lim P L) ws=if(jE us pg st S i0 i1 k 2 ws).1.2 then fT us pg st S i0 i1 k 2 lim m (d7 (bu k lim P L) k (jE us pg st S i0 i1 k 2 ws).1.1 lim) (jE us pg st S i0 i1 k 2 ws).2 else(bu k lim P L,(jE us pg st S i0 i1 k 2 ws).2):=rfl
  rw[e1,e0]
  unfold ib
  cases tQ pg st k ws with
  |false=>simp
  |true =>
   simp only[if_true]
   split
   ·rw[←gL,wI k lim P m]
   ·rfl
end
def mostV (d:Cfg):Nat:=(min d.ba (1+d.pr)).toNat
def ym (d:Cfg)(u k:Int):Prg (List Int):=
 ak (gK (caV d u k) d.ca (mostV d) []) fun L=>if 0<L.length then ay L else
 ak (gK (biV d k) d.bi (mostV d) []) fun L=>if 0<L.length then ay L else
 ak (jx d.us d.pg d.st k (mostV d) []) fun L=>if 0<L.length then ay L else ay []
def tkP (d:Cfg)(u:Int)(P:Nat→List Int)(k:Int):Prg ((Int×Bool)×(Nat→List Int)):=
 if caV d u k=0 then ay ((0,false),P)
 else if gI P k then ay ((hU P k,true),gO P k)
 else ak (ym d u k) fun L=>ay ((L.headD 0,decide (0<L.length)),bu k d.pr P L.tail)
def NT (d:Cfg)(u k:Int)(ws:List Int):List Int×List Int :=
 if 0<(dh (caV d u k) d.ca (mostV d) [] ws).1.length then dh (caV d u k) d.ca (mostV d) [] ws else
 if 0<(dh (biV d k) d.bi (mostV d) [] (dh (caV d u k) d.ca (mostV d) [] ws).2).1.length then dh (biV d k) d.bi (mostV d) [] (dh (caV d u k) d.ca (mostV d) [] ws).2 else
 yk d.us d.pg d.st k (mostV d) [] (dh (biV d k) d.bi (mostV d) [] (dh (caV d u k) d.ca (mostV d) [] ws).2).2
section
variable {d:Cfg}(R:d.Ok){n:Nat}(H:cB d.pg d.st n)(hw:(n:Int)=d.words)(hn:n≤10000)
include R H hw hn
theorem sg:mostV d=frM d+1:=by
 have h1:=R.ba1;have h2:=R.pr1
 unfold mostV frM
 split<;>omega
theorem Jv {u k:Int}(h:oO d u k):dY (caV d u k) d.ca n∧dY (biV d k) d.bi n:=by
 have h:=yj R H hw hn h
 exact⟨h (.room (caV d u k) d.ca) (by simp[wy3]),h (.room (biV d k) d.bi) (by simp[wy3])⟩
theorem Gn (u k:Int):bh (ym d u k):=
 aq (mM _ _ _ _) fun _=>aH (ah _) (aq (mM _ _ _ _) fun _=>aH (ah _) (aq (AE _ _ _ _ _ _) fun _=>aH (ah _) (ah _)))
theorem Jw (u:Int)(P:Nat→List Int)(k:Int):bh (tkP d u P k):=
 aH (ah _) (aH (ah _) (aq (Gn R H hw hn _ _) fun _=>ah _))
theorem AH {u k:Int}(h:oO d u k):bQ n (fun L=>kD L∧L.length≤mostV d) (ym d u k):=by
 have h1:=Jv R H hw hn h
 have hm:0<mostV d:=by rw[sg R H hw hn];omega
 refine ar (jy h1.1 _ _ kD.nil) fun L q=>aO (fun _=>ai n ⟨q.1,by have:=q.2;simpa using this⟩) (fun _=>?_)
 refine ar (jy h1.2 _ _ kD.nil) fun L q=>aO (fun _=>ai n ⟨q.1,by have:=q.2;simpa using this⟩) (fun _=>?_)
 exact ar (uH H (uA R H hw hn) k _ [] kD.nil hm) fun L q=>aO (fun _=>ai n q) (fun _=>ai n ⟨kD.nil,by simp⟩)
theorem Jy {u k:Int}(h:oO d u k):bJ n (ym d u k) (NT d u k):=by
 have h1:=Jv R H hw hn h
 refine aU (aA (oQ h1.1 _ []) fun L=>bE (fun _=>au n L) (fun _=>aA (oQ h1.2 _ []) fun L2=>bE (fun _=>au n L2) (fun _=>aA (CW H k _ []) fun L3=>bE (fun _=>au n L3) (fun _=>au n [])))) fun ws _=>?_
 unfold NT
 split
 ·rfl
 ·split
  ·rfl
  ·split
   ·rfl
   ·rename_i q
    have e:(yk d.us d.pg d.st k (mostV d) [] (dh (biV d k) d.bi (mostV d) [] (dh (caV d u k) d.ca (mostV d) [] ws).2).2).1= []:=List.length_eq_zero_iff.1 (by omega)
    exact Prod.ext e.symm rfl
theorem lA {k:Nat}(hk:k<5):∀(L:List Int) (P:Nat→List Int),dp d P→kD L→((P k).length:Int)+L.length≤d.pr→dp d (bu k d.pr P L)
 | [],P,h,_,_=>h
 |a::t,P,h,hL,hl=>by
  simp only[List.length_cons] at hl
  show dp d (bu k d.pr (d7 P k a d.pr) t)
  have e:=kB P hk a (lim:=d.pr) (by omega)
  rw[e]
  refine lA hk t _ (wE h hk (hL a (by simp)) (by omega)) (fun x hx=>hL x (by simp[hx])) ?_
  rw[jS];simp;omega
theorem AI {P:Nat→List Int}{k:Nat}(hk:k<5)(h:¬gI P k=true):P k= []:=by
 rcases List.eq_nil_or_concat (P k) with e|⟨xs,x,e⟩
 ·exact e
 ·rw[List.concat_eq_append] at e
  exact absurd (lm P hk e).1 h
theorem Lu (u:Int)(P:Nat→List Int)(k:Int)(hP:dp d P):bQ n (fun x=>W64 x.1.1∧dp d x.2) (tkP d u P k):=by
 have w0:W64 0:=by unfold W64;constructor<;>decide
 refine aO (fun _=>ai n ⟨w0,hP⟩) (fun q=>?_)
 have h:=(jU R u k).1 q
 obtain⟨j,rfl⟩:∃j:Nat,k=j:=⟨k.toNat,by have:=h.1;omega⟩
 have hj:j<5:=by have:=h.2.1;omega
 refine aO (fun e=>ai n ⟨uk hP.w e,?_⟩) (fun e=>?_)
 ·exact fun i hi=>⟨by show((gO P j i).length:Int)≤d.pr;have:=(hP i hi).1;have:=um P j i;omega,fun a ha=>ul hP.w j i hi a ha⟩
 ·refine ar (AH R H hw hn h) fun L hL=>ai n ⟨?_,?_⟩
  ·match L,hL.1 with
   | [],_=>exact w0
   |a::t,hL=>exact hL a (by simp)
  ·have e0:=AI R H hw hn hj e
   have hm:=hL.2
   rw[sg R H hw hn] at hm
   refine lA R H hw hn hj _ P hP (fun a ha=>hL.1 a (List.mem_of_mem_tail ha)) ?_
   have h1:=R.ba1;have h2:=R.pr1
   rw[e0,List.length_tail]
   unfold frM at hm
   simp
   split at hm<;>omega
theorem Lv (u:Int)(P:Nat→List Int)(k:Int)(hP:dp d P):bJ n (tkP d u P k) (tkW d u P k):=by
 by_cases q:caV d u k=0
 ·have nk:¬oO d u k:=fun z=>(jU R u k).2 z q
  unfold tkP tkW
  rw[if_pos q]
  refine aU (au n _) fun ws _=>?_
  rw[if_neg nk]
 ·have h:=(jU R u k).1 q
  obtain⟨j,rfl⟩:∃j:Nat,k=j:=⟨k.toNat,by have:=h.1;omega⟩
  have hj:j<5:=by have:=h.2.1;omega
  obtain⟨q0,q1,q2,q3⟩:=id h
  obtain⟨_,a2,a3,_⟩:=i5 (d:=d) (u:=u.toNat) (c:=(j:Int).toNat) (by omega) (by omega)
  obtain⟨_,b2,b3,_⟩:=nD (d:=d) (c:=(j:Int).toNat) (by have:=R.cp1;omega) (by omega)
  unfold tkP
  rw[if_neg q]
  by_cases e:gI P j=true
  ·rw[if_pos e]
   refine aU (au n _) fun ws _=>?_
   unfold tkW mG
   rw[if_pos h]
   simp only[Int.toNat_natCast]
   rw[if_pos e]
  ·rw[if_neg e]
   refine aU (aA (Jy R H hw hn h) fun L=>au n _) fun ws _=>?_
   unfold tkW mG
   rw[if_pos h]
   simp only[Int.toNat_natCast] at a2 a3 b2 b3⊢
   rw[if_neg e]
   have ca:(famC d).b (5 * u.toNat+j)=caV d u j:=by rw[a2];unfold caV;rw[show((u.toNat:Nat):Int)=u by omega]
   have bi:(famC d).b (5 * d.cp.toNat+j)=biV d j:=by rw[b2];rfl
   have hm:=sg R H hw hn
   have P0:bu (j:Int) d.pr P []=P:=rfl
   unfold NT
   rw[hm]
   have popE:∀b l ws,dh b l (frM d+1) [] ws=if 0<aX l (wAt ws b) then((aY b l ws).1.1::(dh b l (frM d) [] (aY b l ws).2).1,(dh b l (frM d) [] (aY b l ws).2).2) else([],ws):=fun b l ws=>by
    have e1:dh b l (frM d+1) [] ws=if(aY b l ws).1.2 then dh b l (frM d) ([(aY b l ws).1.1]++ []) (aY b l ws).2 else([],(aY b l ws).2):=rfl
    rw[e1,uJ]
    by_cases z:0<aX l (wAt ws b)
    ·have:(aY b l ws).1.2=true:=by unfold aY;simp only[if_pos z]
     rw[if_pos z,if_pos this];rfl
    ·have:aY b l ws=((0,false),ws):=by unfold aY;simp only[if_neg z]
     rw[if_neg z,this];rfl
   have popT:∀b l ws,0<aX l (wAt ws b)→(aY b l ws).1.2=true:=fun b l ws z=>by unfold aY;simp only[if_pos z]
   rw[popE,popE]
   have hk0:mF (famC d) (5 * u.toNat+j) (5 * d.cp.toNat+j) ws=if 0<aX d.ca (wAt ws (caV d u j)) then 0 else if 0<aX d.bi (wAt ws (biV d j)) then 1 else 2:=by
    unfold mF;rw[ca,a3,bi,b3]
   by_cases z0:0<aX d.ca (wAt ws (caV d u j))
   ·rw[if_pos z0] at hk0
    simp only[if_pos z0]
    rw[hk0]
    have f0:jE d.us d.pg d.st (famC d) (5 * u.toNat+j) (5 * d.cp.toNat+j) (j:Int) (lq 0) ws=aY (caV d u j) d.ca ws:=by
     show aY _ _ ws=_;rw[ca,a3]
    have M:=wG d.us d.pg d.st (famC d) (5 * u.toNat+j) (5 * d.cp.toNat+j) j d.pr P (frM d) [] (aY (caV d u j) d.ca ws).2
    rw[P0,ca,a3] at M
    rw[f0,if_pos (popT _ _ _ z0),M]
    simp
   ·rw[if_neg z0] at hk0
    simp only[if_neg z0,List.length_nil,Nat.lt_irrefl,if_false]
    by_cases z1:0<aX d.bi (wAt ws (biV d j))
    ·rw[if_pos z1] at hk0
     simp only[if_pos z1]
     rw[hk0]
     have f0:jE d.us d.pg d.st (famC d) (5 * u.toNat+j) (5 * d.cp.toNat+j) (j:Int) (lq 1) ws=aY (biV d j) d.bi ws:=by
      show aY _ _ ws=_;rw[bi,b3]
     have M:=wH d.us d.pg d.st (famC d) (5 * u.toNat+j) (5 * d.cp.toNat+j) j d.pr P (frM d) [] (aY (biV d j) d.bi ws).2
     rw[P0,bi,b3] at M
     rw[f0,if_pos (popT _ _ _ z1),M]
     simp
    ·rw[if_neg z1] at hk0
     simp only[if_neg z1,List.length_nil,Nat.lt_irrefl,if_false]
     rw[hk0]
     have f0:jE d.us d.pg d.st (famC d) (5 * u.toNat+j) (5 * d.cp.toNat+j) (j:Int) (lq 2) ws=cZ d.us d.pg d.st j ws:=rfl
     have M:=wI d.us d.pg d.st (famC d) (5 * u.toNat+j) (5 * d.cp.toNat+j) j d.pr P (frM d) [] (cZ d.us d.pg d.st j ws).2
     rw[P0] at M
     rw[f0,M]
     have e2:yk d.us d.pg d.st j (frM d+1) [] ws=if(cZ d.us d.pg d.st j ws).1.2 then ib d.us d.pg d.st j (frM d) ([(cZ d.us d.pg d.st j ws).1.1]++ []) (cZ d.us d.pg d.st j ws).2 else([],(cZ d.us d.pg d.st j ws).2):=rfl
     rw[e2,uK]
     by_cases g:(cZ d.us d.pg d.st j ws).1.2=true
     ·rw[if_pos g,if_pos g]
      simp
     ·rw[if_neg g,if_neg g]
      rfl
end
attribute [local go_sem] Oper.semAt_some
def mea (kn:Int→Option Int)(D:List KV)(b l:Int):Nat :=
 match dM kn D b with
 |some y=>(aX l y).toNat
 |none=>0
theorem Jz (kn:Int→Option Int)(D:List KV){b l:Int}(hl:0≤l):mea kn D b l≤l.toNat:=by
 unfold mea
 split
 ·rename_i y _
  have:=kw (y:=y) hl
  omega
 ·omega
theorem Ei {n:Nat}{b l:Int}(H:dY b l n){kn:Int→Option Int}{D D1:List KV}{a:Int}(hD:cC n D)(e:d8 b l kn D=.ok (a,true) D1):mea kn D1 b l<mea kn D b l:=by
 have h1:=H.b1;have h0:=H.l0
 unfold d8 j1 jO at e
 cases er:cS b kn D with
 |need x=>rw[ag (ag (ag er))] at e;cases e
 |ok y D' =>
  obtain⟨rfl,hy⟩:=gE er
  rw[aj (aj (aj er))] at e
  simp only[Bool.false_eq_true,if_false] at e
  have hk:=kw (y:=y) h0
  split at e
  ·cases e
  ·rename_i hz
   have hpos:0<aX l y:=by
    unfold dt at hz
    split at hz
    ·omega
    ·omega
   cases e2:cS (dt b l (aX l y-1)) kn D' with
   |need x=>rw[ag e2] at e;cases e
   |ok z D2 =>
    obtain⟨rfl,_⟩:=gE e2
    rw[aj e2] at e
    have eD:D1=ep D2 b (aX l y-1):=by cases e;rfl
    have hw1:dM kn D1 b=some (aX l y-1):=by
     rw[eD]
     unfold dM ep
     rw[if_neg (by omega),if_neg (by omega),qj hD.asc,if_pos rfl];rfl
    unfold mea
    rw[hw1,hy]
    simp only
    have e3:aX l (aX l y-1)=aX l y-1:=by
     generalize aX l y=q at *
     unfold aX
     rw[if_pos (by omega)]
    rw[e3]
    omega
theorem j2 {σ:Type}(Q:World→σ→Prop)(μ:σ→Nat):∃mes:World→Nat,∀w,(∃s,Q w s)→∃s,Q w s∧μ s=mes w∧∀s',Q w s'→mes w≤μ s':=by
 have key:∀w,∃m:Nat,(∃s,Q w s)→∃s,Q w s∧μ s=m∧∀s',Q w s'→m≤μ s':=fun w=>by
  by_cases h:∃s,Q w s
  ·obtain⟨s,hs⟩:=h
   have go:∀(k:Nat) (s:σ),Q w s→μ s≤k→∃s,Q w s∧∀s',Q w s'→μ s≤μ s':=by
    intro k
    induction k with
    |zero=>exact fun s hs hk=>⟨s,hs,fun s' _=>by omega⟩
    |succ k ih =>
     intro s hs hk
     by_cases hl:∃s',Q w s'∧μ s'<μ s
     ·obtain⟨s',q1,q2⟩:=hl
      exact ih s' q1 (by omega)
     ·exact⟨s,hs,fun s' q=>Nat.le_of_not_lt fun r=>hl ⟨s',q,r⟩⟩
   obtain⟨s,q1,q2⟩:=go (μ s) s hs (Nat.le_refl _)
   exact⟨μ s,fun _=>⟨s,q1,rfl,q2⟩⟩
  ·exact⟨0,fun q=>absurd q h⟩
 exact⟨fun w=>Classical.choose (key w),fun w=>Classical.choose_spec (key w)⟩
def yn (n:Nat)(kn:Int→Option Int)(p vb fb sb cap:Nat)(cur:Array Value)(sh:List (Int×Int)):yw LsS where
 enc s:= #[.int .i64 s.a]
 See s A:=aD A s.F p kn s.D∧cC n s.D∧A.heap[vb]?=some (.cells #[.pointer (some ⟨p,0,none⟩)] 43 (0,0))∧A.heap[fb]?=some (.cells #[.slice (some ⟨sb,0,none⟩) sh.length cap] 93 (0,0))∧∃fr,A.heap[sb]?=some (.cells cur 96 fr)
 Own s s' A B:=∃b l D1 F1 a,sh[s.i]?=some (b,l)∧d8 b l kn s.D=.ok (a,true) D1∧s'=⟨s.i,s.P,D1,F1,a⟩∧aD B F1 p kn D1∧Turned s.F A B∧∀k,F1 k→s.F k∨A.heap.size≤k
 Fin s s' A B:=s'=s∧sh.length≤s.i∧ae A B
 Ned s ch A B:=∃b l a,sh[s.i]?=some (b,l)∧d8 b l kn s.D=.need a∧ch=bg p∧bB B p a∧Turned s.F A B
 Skp s s' A B:=∃b l D1 F1 a,sh[s.i]?=some (b,l)∧d8 b l kn s.D=.ok (a,false) D1∧s'=⟨s.i+1,s.P,D1,F1,s.a⟩∧aD B F1 p kn D1∧Turned s.F A B∧∀k,F1 k→s.F k∨A.heap.size≤k
 Rel s s' A B:=s'.i=s.i∧(∀b l,sh[s.i]?=some (b,l)→dM kn s'.D b=dM kn s.D b)∧(∀k,s'.F k→s.F k∨A.heap.size≤k)∧A.heap.size≤B.heap.size∧∀k cs t fr,¬s.F k→A.heap[k]?=some (.cells cs t fr)→B.heap[k]?=some (.cells cs t fr)
theorem AJ (q:Nat)(hq:1≤q){n:Nat}(p vb fb sb cap:Nat)(cur:Array Value)(sh:List (Int×Int))(hsh:sh.length≤1000)(hcap:sh.length≤cap)(hok:∀s∈sh,dY s.1 s.2 n)(hcur:∀i b l,sh[i]?=some (b,l)→cur[i * 2]?=some (.int .i64 b)∧cur[i * 2+1]?=some (.int .i64 l))(kn:Int→Option Int)(hk:OkK kn)(s0:LsS)(w0:World)(h00:s0.i=0):
 A0 (yn n kn p vb fb sb cap cur sh) Fence.wide q Tryz.prog 88 #[.pointer (some ⟨fb,0,none⟩),.pointer (some ⟨vb,0,none⟩)] s0 w0:=by
 intro l J J' Je Jx W hW mJ mJ' mJe mJx hsee hown hfin hned hskp hY h0
 have HSEE:=hQQ hsee
 have HOWN:=hQQ hown
 have HFIN:=hQQ hfin
 have HNED:=hQQ hned
 have HSKP:=hQQ hskp
 have MJ:=hQQ mJ
 have HY:=hQQ hY
 have HJ0:=hQQ h0
 have HK:=hQQ hk
 have HOK:=hQQ hok
 have HCUR:=hQQ hcur
 have cf:=(aB (hsee _ _ h0).2.2.2.1).1
 clear hW mJ mJ' mJe mJx hsee hown hfin hned hskp hY h0 hk hok hcur
 refine callsIn_of_wp Tryz.func88 rfl trivial ?_ rfl
 simp only[Tryz.ntmps88,List.size_toArray,List.length_cons,List.length_nil,Nat.reduceAdd,Nat.reduceSub,Array.replicate_succ,Array.replicate_zero,List.push_toArray,List.append_toArray,List.nil_append,List.cons_append]
 gi_wp2
 clear cf
 gi_loopw [10] (fun u wr=>∃(j:Nat) (s:LsS),j≤sh.length∧u=.int .i64 (j:Int)∧s.i=j∧J s wr) (fun u _=>sh.length-(intOf u).toNat)
 case atStart=>exact⟨0,s0,Nat.zero_le _,rfl,h00,HJ0.o⟩
 case round =>
  obtain⟨j,s,hj,rfl,hsj,hJ⟩:=hrel
  by_cases hlt:j<sh.length
  ·have d1:decide ((j:Int)<(sh.length:Int))=true:=by simp;omega
   have d2:decide (j<sh.length)=true:=by simp[hlt]
   have q3:IntKind.i64.wrap ((j:Int)+1)=(j:Int)+1:=az (by omega) (by omega)
   obtain⟨b,ll,hbl⟩:∃b ll,sh[j]?=some (b,ll):=⟨_,_,List.getElem?_eq_getElem hlt⟩
   have hst:dY b ll n:=HOK.o (b,ll) (List.mem_of_getElem? hbl)
   obtain⟨_,_,_,_,fr,hsb⟩:=HSEE.o s wr hJ
   obtain⟨u1,u2⟩:=HCUR.o j b ll hbl
   have c1:wr.cell? ⟨sb,j * 2,none⟩=some (.int .i64 b):=by simp[World.cell?,hsb];exact u1
   have c2:wr.cell? ⟨sb,j * 2+1,none⟩=some (.int .i64 ll):=by simp[World.cell?,hsb];exact u2
   have SB:=hQQ hsb
   have HJ1:=hQQ hJ
   have HST:=hQQ hst
   have HBL:=hQQ hbl
   have HSJ:=hQQ hsj
   clear hsb u1 u2 hJ hst hbl hsj
   obtain⟨w1,e1,g1,m1,s1⟩:=a6 wr (.cells #[.int .i64 b,.int .i64 ll] 96)
   have hF:¬s.F wr.heap.size:=fun z=>by have:=(HSEE.o s wr HJ1.o).1.lt _ z;omega
   have ST:Hq (∃s',s'.i=j∧J s' w1∧w1.heap[wr.heap.size]?=some (.cells #[.int .i64 b,.int .i64 ll] 96 (0,0))∧¬s'.F wr.heap.size):=hQQ ⟨s,HSJ.o,MJ.o _ _ _ HJ1.o m1,g1,hF⟩
   clear g1 m1 s1 hF SB
   gi_wp2
   clear c1 c2 e1 HJ1 HSJ
   generalize wr.heap.size=gB at ST⊢
   obtain⟨mes,hmes⟩:=j2 (fun A s'=>s'.i=j∧J s' A∧A.heap[gB]?=some (.cells #[.int .i64 b,.int .i64 ll] 96 (0,0))∧¬s'.F gB) (fun s'=>mea kn s'.D b ll)
   have HM:=hQQ hmes
   clear hmes
   gi_loopw [6] (fun _ A=>∃s':LsS,s'.i=j∧J s' A∧A.heap[gB]?=some (.cells #[.int .i64 b,.int .i64 ll] 96 (0,0))∧¬s'.F gB) (fun _ A=>mes A)
   case atStart=>exact ST.o
   case round =>
    obtain⟨s1,⟨hs1,hJ1,hb1,hn1⟩,hme,hmin⟩:=HM.o _ hrel
    obtain⟨v1,v2,v3,v4,fr1,v5⟩:=HSEE.o s1 _ hJ1
    have c0:=(aB v3).1
    obtain⟨c1,c2⟩:=lr hb1
    have PO:=hQQ (Jh HST.o s1.F p kn s1.D wr v1 HK.o v2)
    have HJ:=hQQ hJ1
    have HB:=hQQ hb1
    have HN:=hQQ hn1
    have HS1:=hQQ hs1
    have HME:=hQQ hme
    have HBL1:Hq (sh[s1.i]?=some (b,ll)):=hQQ (by rw[hs1];exact HBL.o)
    have HV2:=hQQ v2
    clear v1 v2 v3 v4 v5 hs1 hJ1 hb1 hn1 hme hmin hrel
    gi_wp2
    refine⟨trivial,?_⟩
    gi_at_call 89
    refine(callsIn_wide.2 PO.o).mono ?_
    intro e W3 he
    clear c0 c1 c2 PO
    rcases hE:d8 b ll kn s1.D with a'|⟨⟨x,ok⟩,D1⟩
    ·rw[hE] at he
     obtain⟨rfl,hd,ht⟩:=he
     exact⟨rfl,.inr ⟨_,rfl,HNED.o s1 _ wr W3 HJ.o ⟨b,ll,a',HBL1.o,hE,rfl,hd,ht⟩⟩⟩
    ·rw[hE] at he
     obtain⟨rfl,F1,hv1,ht1,hf1⟩:=he
     cases ok with
     |false =>
      have SK:=hQQ (HSKP.o s1 _ wr W3 HJ.o ⟨b,ll,D1,F1,x,HBL1.o,hE,rfl,hv1,ht1,hf1⟩)
      clear hv1 ht1 hf1 hE
      gi_wp2
      go_roundw
      case rel=>exact⟨j+1,_,by omega,by go_num,by show s1.i+1=j+1;rw[HS1.o],SK.o⟩
      case measure=>simp[intOf];omega
     |true =>
      have hJ':=HOWN.o s1 _ wr W3 HJ.o ⟨b,ll,D1,F1,x,HBL1.o,hE,rfl,hv1,ht1,hf1⟩
      have HB3:Hq (W3.heap[gB]?=some (.cells #[.int .i64 b,.int .i64 ll] 96 (0,0))):=hQQ ((ht1.block gB (ac HB.o) HN.o).trans HB.o)
      have HN3:Hq (¬F1 gB):=hQQ fun z=>by
       rcases hf1 gB z with r|r
       ·exact HN.o r
       ·have:=ac HB.o;omega
      have HMD:=hQQ (Ei HST.o HV2.o hE)
      have y9:=HY.o _ W3 hJ'
      rw[show(yn n kn p vb fb sb cap cur sh).enc ⟨s1.i,s1.P,D1,F1,x⟩= #[.int .i64 x] from rfl] at y9
      obtain⟨fn,tmps,assign,body,hy,hR⟩:=y9
      clear hv1 ht1 hf1 hE hJ'
      gi_wp2
      refine hR.mono ?_
      rintro e W4 (⟨rfl,s',⟨r1,r2,r3,r4,r5⟩,hJ3⟩|⟨he,hJx3⟩)
      ·have HJ3:=hQQ hJ3
       have HB4:=hQQ (r5 gB _ _ _ HN3.o HB3.o)
       have HN4:Hq (¬s'.F gB):=hQQ fun z=>by
        rcases r3 gB z with r|r
        ·exact HN3.o r
        ·have:=ac HB3.o;omega
       have HI4:Hq (s'.i=j):=hQQ (r1.trans HS1.o)
       have hm4:mea kn s'.D b ll=mea kn D1 b ll:=by
        unfold mea
        rw[r2 b ll HBL1.o]
       have HLT:Hq (mes W4<mes wr):=hQQ (by
        obtain⟨s2,h2,h3,h4⟩:=HM.o W4 ⟨s',HI4.o,HJ3.o,HB4.o,HN4.o⟩
        have:=h4 s' ⟨HI4.o,HJ3.o,HB4.o,HN4.o⟩
        have:=HMD.o
        have:=HME.o
        omega)
       clear r1 r2 r3 r4 r5 hJ3 hR hy hm4
       gi_wp2
       go_roundw
       case rel=>exact⟨s',HI4.o,HJ3.o,HB4.o,HN4.o⟩
       case measure=>exact HLT.o
      ·rcases he with rfl|⟨ch,rfl⟩
       ·gi_wp2
        refine bodyPost_ret (results_none rfl _ _ _) rfl ?_
        exact .inl ⟨⟨_,rfl⟩,.inr hJx3⟩
       ·exact⟨rfl,.inr ⟨ch,rfl,hJx3⟩⟩
  ·have hi2:sh.length≤s.i:=by omega
   have d1:decide ((j:Int)<(sh.length:Int))=false:=by simp;omega
   have FI:=hQQ (HFIN.o s s wr wr hJ ⟨rfl,hi2,ae.refl _⟩)
   gi_wp2
   go_end0
   exact .inl ⟨⟨_,rfl⟩,.inl ⟨s,FI.o⟩⟩
attribute [local go_sem] Oper.semAt_some
structure UpS where
 i:Nat
 L:List Int
 D:List KV
 F:Nat→Prop
 G:Nat→Prop
 a:Int
inductive NxR where
 |told (i:Nat) (a:Int)
 |skip (i:Nat)
 |fin
abbrev Bxs:=List (Nat×Array Value×TypeId×(Nat×Nat))
def JA (Bs:Bxs)(A:World):Prop:=∀b∈Bs,A.heap[b.1]?=some (.cells b.2.1 b.2.2.1 b.2.2.2)
def upI (n:Nat)(kn:Int→Option Int)(p most bt:Nat)(Bs:Bxs)(nx:Nat→Prg NxR):yw UpS where
 enc s:= #[.int .i64 s.a]
 See s A:=aD A s.F p kn s.D∧cC n s.D∧JA Bs A∧(dd bt A∧¬s.F 0∧¬s.F bt)∧∀k,s.G k→k<A.heap.size
 Own s s' A B:=∃i' a D1 F1,nx s.i kn s.D=.ok (.told i' a) D1∧s'=⟨i',s.L,D1,F1,s.G,a⟩∧aD B F1 p kn D1∧Turned s.F A B∧∀k,F1 k→s.F k∨A.heap.size≤k
 Fin s s' A B:=∃D1 F1,nx s.i kn s.D=.ok .fin D1∧s'=⟨s.i,s.L,D1,F1,s.G,s.a⟩∧aD B F1 p kn D1∧Turned s.F A B∧∀k,F1 k→s.F k∨A.heap.size≤k
 Ned s ch A B:=∃a,nx s.i kn s.D=.need a∧ch=bg p∧bB B p a∧Turned s.F A B
 Skp s s' A B:=∃i' D1 F1,nx s.i kn s.D=.ok (.skip i') D1∧s'=⟨i',s.L,D1,F1,s.G,s.a⟩∧aD B F1 p kn D1∧Turned s.F A B∧∀k,F1 k→s.F k∨A.heap.size≤k
 Rel s s' A B:=s'.i=s.i∧s'.D=s.D∧s'.F=s.F∧s'.L.length=s.L.length+1∧s'.L.length<most∧(∀k,s'.G k→s.G k∨A.heap.size≤k)∧A.heap.size≤B.heap.size∧∀k cs t fr,¬s.G k→A.heap[k]?=some (.cells cs t fr)→B.heap[k]?=some (.cells cs t fr)
def vj (sh:List (Int×Int))(i:Nat):Prg NxR:=match sh[i]? with
 |some s=>ak (d8 s.1 s.2) fun x=>ay (if x.2 then .told i x.1 else .skip (i+1))
 |none=>ay .fin
theorem Lw {sh:List (Int×Int)}{i:Nat}{b l:Int}(h:sh[i]?=some (b,l)):vj sh i=ak (d8 b l) fun x=>ay (if x.2 then .told i x.1 else .skip (i+1)):=by
 unfold vj;rw[h]
theorem wJ {sh:List (Int×Int)}{i:Nat}(h:sh[i]?=none):vj sh i=ay .fin:=by
 unfold vj;rw[h]
def AK (p vb fb sb cap:Nat)(cur:Array Value)(fr:Nat×Nat)(len:Nat):Bxs:= [(vb,#[.pointer (some ⟨p,0,none⟩)],43,(0,0)),(fb,#[.slice (some ⟨sb,0,none⟩) len cap],93,(0,0)),(sb,cur,96,fr)]
theorem yo {p vb fb sb cap len:Nat}{cur:Array Value}{fr:Nat×Nat}{A:World}(h:JA (AK p vb fb sb cap cur fr len) A):A.heap[vb]?=some (.cells #[.pointer (some ⟨p,0,none⟩)] 43 (0,0))∧A.heap[fb]?=some (.cells #[.slice (some ⟨sb,0,none⟩) len cap] 93 (0,0))∧A.heap[sb]?=some (.cells cur 96 fr):=
 ⟨h (vb,#[.pointer (some ⟨p,0,none⟩)],43,(0,0)) (by simp[AK]),h (fb,#[.slice (some ⟨sb,0,none⟩) len cap],93,(0,0)) (by simp[AK]),h (sb,cur,96,fr) (by simp[AK])⟩
theorem Gp (q:Nat)(hq:1≤q){n:Nat}(p most bt vb fb sb cap:Nat)(cur:Array Value)(fr:Nat×Nat)(sh:List (Int×Int))(hsh:sh.length≤1000)(hcap:sh.length≤cap)(hok:∀s∈sh,dY s.1 s.2 n)(hcur:∀i b l,sh[i]?=some (b,l)→cur[i * 2]?=some (.int .i64 b)∧cur[i * 2+1]?=some (.int .i64 l))(kn:Int→Option Int)(hk:OkK kn)(s0:UpS)(w0:World)(h00:s0.i=0):
 A0 (upI n kn p most bt (AK p vb fb sb cap cur fr sh.length) (vj sh)) Fence.wide q Tryz.prog 88 #[.pointer (some ⟨fb,0,none⟩),.pointer (some ⟨vb,0,none⟩)] s0 w0:=by
 intro l J J' Je Jx W hW mJ mJ' mJe mJx hsee hown hfin hned hskp hY h0
 have HSEE:=hQQ hsee
 have HOWN:=hQQ hown
 have HFIN:=hQQ hfin
 have HNED:=hQQ hned
 have HSKP:=hQQ hskp
 have MJ:=hQQ mJ
 have HY:=hQQ hY
 have HJ0:=hQQ h0
 have HK:=hQQ hk
 have HOK:=hQQ hok
 have HCUR:=hQQ hcur
 have cf:=(aB (yo (hsee _ _ h0).2.2.1).2.1).1
 clear hW mJ mJ' mJe mJx hsee hown hfin hned hskp hY h0 hk hok hcur
 refine callsIn_of_wp Tryz.func88 rfl trivial ?_ rfl
 simp only[Tryz.ntmps88,List.size_toArray,List.length_cons,List.length_nil,Nat.reduceAdd,Nat.reduceSub,Array.replicate_succ,Array.replicate_zero,List.push_toArray,List.append_toArray,List.nil_append,List.cons_append]
 gi_wp2
 clear cf
 gi_loopw [10] (fun u wr=>∃(j:Nat) (s:UpS),j≤sh.length∧u=.int .i64 (j:Int)∧s.i=j∧J s wr) (fun u _=>sh.length-(intOf u).toNat)
 case atStart=>exact⟨0,s0,Nat.zero_le _,rfl,h00,HJ0.o⟩
 case round =>
  obtain⟨j,s,hj,rfl,hsj,hJ⟩:=hrel
  by_cases hlt:j<sh.length
  ·have d1:decide ((j:Int)<(sh.length:Int))=true:=by simp;omega
   have d2:decide (j<sh.length)=true:=by simp[hlt]
   have q3:IntKind.i64.wrap ((j:Int)+1)=(j:Int)+1:=az (by omega) (by omega)
   obtain⟨b,ll,hbl⟩:∃b ll,sh[j]?=some (b,ll):=⟨_,_,List.getElem?_eq_getElem hlt⟩
   have hst:dY b ll n:=HOK.o (b,ll) (List.mem_of_getElem? hbl)
   obtain⟨_,_,hbx,_,hG⟩:=HSEE.o s wr hJ
   have hsb:=(yo hbx).2.2
   obtain⟨u1,u2⟩:=HCUR.o j b ll hbl
   have c1:wr.cell? ⟨sb,j * 2,none⟩=some (.int .i64 b):=by simp[World.cell?,hsb];exact u1
   have c2:wr.cell? ⟨sb,j * 2+1,none⟩=some (.int .i64 ll):=by simp[World.cell?,hsb];exact u2
   have HJ1:=hQQ hJ
   have HST:=hQQ hst
   have HBL:=hQQ hbl
   have HSJ:=hQQ hsj
   have HG:=hQQ hG
   clear hsb u1 u2 hJ hst hbl hsj hG hbx
   obtain⟨w1,e1,g1,m1,s1⟩:=a6 wr (.cells #[.int .i64 b,.int .i64 ll] 96)
   have hF:¬s.F wr.heap.size:=fun z=>by have:=(HSEE.o s wr HJ1.o).1.lt _ z;omega
   have hG2:¬s.G wr.heap.size:=fun z=>by have:=HG.o _ z;omega
   have ST:Hq (∃s',s'.i=j∧J s' w1∧w1.heap[wr.heap.size]?=some (.cells #[.int .i64 b,.int .i64 ll] 96 (0,0))∧¬s'.F wr.heap.size∧¬s'.G wr.heap.size):=hQQ ⟨s,HSJ.o,MJ.o _ _ _ HJ1.o m1,g1,hF,hG2⟩
   clear g1 m1 s1 hF hG2 HG
   gi_wp2
   clear c1 c2 e1 HJ1 HSJ
   generalize wr.heap.size=gB at ST⊢
   obtain⟨mes,hmes⟩:=j2 (fun A (s':UpS)=>s'.i=j∧J s' A∧A.heap[gB]?=some (.cells #[.int .i64 b,.int .i64 ll] 96 (0,0))∧¬s'.F gB∧¬s'.G gB) (fun s'=>most-s'.L.length)
   have HM:=hQQ hmes
   clear hmes
   gi_loopw [6] (fun _ A=>∃s':UpS,s'.i=j∧J s' A∧A.heap[gB]?=some (.cells #[.int .i64 b,.int .i64 ll] 96 (0,0))∧¬s'.F gB∧¬s'.G gB) (fun _ A=>mes A)
   case atStart=>exact ST.o
   case round =>
    obtain⟨s1,⟨hs1,hJ1,hb1,hn1,hg1⟩,hme,hmin⟩:=HM.o _ hrel
    obtain⟨v1,v2,v3,v4,v5⟩:=HSEE.o s1 _ hJ1
    have c0:=(aB (yo v3).1).1
    obtain⟨c1,c2⟩:=lr hb1
    have PO:=hQQ (Jh HST.o s1.F p kn s1.D wr v1 HK.o v2)
    have HJ:=hQQ hJ1
    have HB:=hQQ hb1
    have HN:=hQQ hn1
    have HG:=hQQ hg1
    have HS1:=hQQ hs1
    have HME:=hQQ hme
    have HNX:Hq (vj sh s1.i=ak (d8 b ll) fun x=>ay (if x.2 then .told s1.i x.1 else .skip (s1.i+1))):=hQQ (Lw (by rw[hs1];exact HBL.o))
    clear v1 v2 v3 v4 v5 hs1 hJ1 hb1 hn1 hg1 hme hmin hrel
    gi_wp2
    refine⟨trivial,?_⟩
    gi_at_call 89
    refine(callsIn_wide.2 PO.o).mono ?_
    intro e W3 he
    clear c0 c1 c2 PO
    rcases hE:d8 b ll kn s1.D with a'|⟨⟨x,ok⟩,D1⟩
    ·rw[hE] at he
     obtain⟨rfl,hd,ht⟩:=he
     exact⟨rfl,.inr ⟨_,rfl,HNED.o s1 _ wr W3 HJ.o ⟨a',by rw[HNX.o];exact ag hE,rfl,hd,ht⟩⟩⟩
    ·rw[hE] at he
     obtain⟨rfl,F1,hv1,ht1,hf1⟩:=he
     cases ok with
     |false =>
      have SK:=hQQ (HSKP.o s1 _ wr W3 HJ.o ⟨s1.i+1,D1,F1,by rw[HNX.o];exact aj hE,rfl,hv1,ht1,hf1⟩)
      clear hv1 ht1 hf1 hE
      gi_wp2
      go_roundw
      case rel=>exact⟨j+1,_,by omega,by go_num,by show s1.i+1=j+1;rw[HS1.o],SK.o⟩
      case measure=>simp[intOf];omega
     |true =>
      have hJ':=HOWN.o s1 _ wr W3 HJ.o ⟨s1.i,x,D1,F1,by rw[HNX.o];exact aj hE,rfl,hv1,ht1,hf1⟩
      have HB3:Hq (W3.heap[gB]?=some (.cells #[.int .i64 b,.int .i64 ll] 96 (0,0))):=hQQ ((ht1.block gB (ac HB.o) HN.o).trans HB.o)
      have HN3:Hq (¬F1 gB):=hQQ fun z=>by
       rcases hf1 gB z with r|r
       ·exact HN.o r
       ·have:=ac HB.o;omega
      have y9:=HY.o _ W3 hJ'
      rw[show(upI n kn p most bt (AK p vb fb sb cap cur fr sh.length) (vj sh)).enc ⟨s1.i,s1.L,D1,F1,s1.G,x⟩= #[.int .i64 x] from rfl] at y9
      obtain⟨fn,tmps,assign,body,hy,hR⟩:=y9
      clear hv1 ht1 hf1 hE hJ'
      gi_wp2
      refine hR.mono ?_
      rintro e W4 (⟨rfl,s',⟨r1,r2,r3,r4,r5,r6,r7,r8⟩,hJ3⟩|⟨he,hJx3⟩)
      ·have HJ3:=hQQ hJ3
       have HB4:=hQQ (r8 gB _ _ _ HG.o HB3.o)
       have HN4:Hq (¬s'.F gB):=hQQ (by rw[r3];exact HN3.o)
       have HG4:Hq (¬s'.G gB):=hQQ fun z=>by
        rcases r6 gB z with r|r
        ·exact HG.o r
        ·have:=ac HB3.o;omega
       have HI4:Hq (s'.i=j):=hQQ (r1.trans HS1.o)
       have HLT:Hq (mes W4<mes wr):=hQQ (by
        obtain⟨s2,h2,h3,h4⟩:=HM.o W4 ⟨s',HI4.o,HJ3.o,HB4.o,HN4.o,HG4.o⟩
        have h5:mes W4≤most-s'.L.length:=h4 s' ⟨HI4.o,HJ3.o,HB4.o,HN4.o,HG4.o⟩
        have h6:most-s1.L.length=mes wr:=HME.o
        have h7:s'.L.length=s1.L.length+1:=r4
        have h8:s'.L.length<most:=r5
        clear h2 h3 h4 r1 r2 r3 r4 r5 r6 r7 r8
        omega)
       clear r1 r2 r3 r4 r5 r6 r7 r8 hJ3 hR hy
       gi_wp2
       go_roundw
       case rel=>exact⟨s',HI4.o,HJ3.o,HB4.o,HN4.o,HG4.o⟩
       case measure=>exact HLT.o
      ·rcases he with rfl|⟨ch,rfl⟩
       ·gi_wp2
        refine bodyPost_ret (results_none rfl _ _ _) rfl ?_
        exact .inl ⟨⟨_,rfl⟩,.inr hJx3⟩
       ·exact⟨rfl,.inr ⟨ch,rfl,hJx3⟩⟩
  ·have hi2:sh.length≤s.i:=by omega
   have d1:decide ((j:Int)<(sh.length:Int))=false:=by simp;omega
   have hv:=(HSEE.o s wr hJ).1
   have FI:=hQQ (HFIN.o s _ wr wr hJ ⟨s.D,s.F,by rw[wJ (List.getElem?_eq_none hi2)];rfl,rfl,hv,Turned.refl _ _,fun k q=> .inl q⟩)
   clear hv
   gi_wp2
   go_end0
   exact .inl ⟨⟨_,rfl⟩,.inl ⟨_,FI.o⟩⟩
def vo (us pg st k:Int)(i:Nat):Prg NxR:=if i=0 then ak (ma pg st k) fun r=>ay (if r then .skip 1 else .fin) else ak (km us pg st k) fun x=>ay (if x.2 then .told 0 x.1 else .fin)
def AM (p vb lb cb:Nat)(c:Cfg)(k:Int):Bxs:= [(vb,#[.pointer (some ⟨p,0,none⟩)],43,(0,0)),(lb,c.arr,28,(0,0)),(cb,#[.int .i64 k],3,(0,0))]
theorem nI {p vb lb cb:Nat}{c:Cfg}{k:Int}{A:World}(h:JA (AM p vb lb cb c k) A):A.heap[vb]?=some (.cells #[.pointer (some ⟨p,0,none⟩)] 43 (0,0))∧A.heap[lb]?=some (.cells c.arr 28 (0,0))∧A.heap[cb]?=some (.cells #[.int .i64 k] 3 (0,0)):=
 ⟨h (vb,#[.pointer (some ⟨p,0,none⟩)],43,(0,0)) (by simp[AM]),h (lb,c.arr,28,(0,0)) (by simp[AM]),h (cb,#[.int .i64 k],3,(0,0)) (by simp[AM])⟩
theorem CX (q:Nat)(hq:1≤q){c:Cfg}(R:c.Ok){n:Nat}(H:cB c.pg c.st n)(hn:n≤10000)(p most bt vb lb cb:Nat)(k:Int)(kn:Int→Option Int)(hk:OkK kn)(s0:UpS)(w0:World)(h00:s0.i=1):
 A0 (upI n kn p most bt (AM p vb lb cb c k) (vo c.us c.pg c.st k)) Fence.wide q Tryz.prog 122 #[.pointer (some ⟨vb,0,none⟩),.pointer (some ⟨lb,0,none⟩),.pointer (some ⟨cb,0,none⟩)] s0 w0:=by
 intro l J J' Je Jx W hW mJ mJ' mJe mJx hsee hown hfin hned hskp hY h0
 have HSEE:=hQQ hsee
 have HOWN:=hQQ hown
 have HFIN:=hQQ hfin
 have HNED:=hQQ hned
 have HSKP:=hQQ hskp
 have HY:=hQQ hY
 have HJ0:=hQQ h0
 have HK:=hQQ hk
 have HR:=hQQ R
 have HH:=hQQ H
 clear hW mJ mJ' mJe mJx hsee hown hfin hned hskp hY h0 hk R H
 refine callsIn_of_wp Tryz.func122 rfl trivial ?_ rfl
 simp only[Tryz.ntmps122,List.size_toArray,List.length_cons,List.length_nil,Nat.reduceAdd,Nat.reduceSub,Array.replicate_succ,Array.replicate_zero,List.push_toArray,List.append_toArray,List.nil_append,List.cons_append]
 obtain⟨mes,hmes⟩:=j2 (fun A (s':UpS)=>s'.i=1∧J s' A) (fun s'=>most-s'.L.length)
 have HM:=hQQ hmes
 clear hmes
 gi_wp2
 gi_loopw [5] (fun _ A=>∃s':UpS,s'.i=1∧J s' A) (fun _ A=>mes A)
 case atStart=>exact⟨s0,h00,HJ0.o⟩
 case round =>
  obtain⟨s1,⟨hs1,hJ1⟩,hme,hmin⟩:=HM.o _ hrel
  obtain⟨v1,v2,v3,⟨v4,v5,v6⟩,v7⟩:=HSEE.o s1 _ hJ1
  have c0:=(aB (nI v3).1).1
  have LB:=hQQ (nI v3).2.1
  have c1:=(aB (nI v3).2.2).1
  have PO:=hQQ (Nv HR.o HH.o hn s1.F p kn s1.D k wr v1 HK.o v2 bt v4 v5 v6)
  have HJ:=hQQ hJ1
  have HME:=hQQ hme
  have HNX:Hq (vo c.us c.pg c.st k s1.i=ak (km c.us c.pg c.st k) fun x=>ay (if x.2 then .told 0 x.1 else .fin)):=hQQ (by unfold vo;rw[hs1];rfl)
  clear v1 v2 v3 v4 v5 v6 v7 hJ1 hme hmin hrel hs1
  gi_wp2_with (refine ed rfl 28 _ rfl _ rfl 28 _ _ _ LB.o Tryz.underlying28 rfl (by kernel_rfl) ?_)
  refine⟨trivial,?_⟩
  gi_at_call 123
  refine(callsIn_wide.2 PO.o).mono ?_
  intro e W3 he
  clear c0 c1 PO LB
  rcases hE:km c.us c.pg c.st k kn s1.D with a'|⟨⟨x,ok⟩,D1⟩
  ·rw[hE] at he
   obtain⟨rfl,hd,ht⟩:=he
   exact⟨rfl,.inr ⟨_,rfl,HNED.o s1 _ wr W3 HJ.o ⟨a',by rw[HNX.o];exact ag hE,rfl,hd,ht⟩⟩⟩
  ·rw[hE] at he
   obtain⟨rfl,F1,hv1,ht1,hf1⟩:=he
   cases ok with
   |false =>
    have FI:=hQQ (HFIN.o s1 _ wr W3 HJ.o ⟨D1,F1,by rw[HNX.o];exact aj hE,rfl,hv1,ht1,hf1⟩)
    clear hv1 ht1 hf1 hE
    gi_wp2
    refine⟨fun f hh=>(by cases hh),?_⟩
    gi_wp2
    refine⟨trivial,?_⟩
    gi_wp2
    refine bodyPost_ret (results_none rfl _ _ _) rfl ?_
    exact .inl ⟨⟨_,rfl⟩,.inl ⟨_,FI.o⟩⟩
   |true =>
    have hJ':=HOWN.o s1 _ wr W3 HJ.o ⟨0,x,D1,F1,by rw[HNX.o];exact aj hE,rfl,hv1,ht1,hf1⟩
    have y9:=HY.o _ W3 hJ'
    rw[show(upI n kn p most bt (AM p vb lb cb c k) (vo c.us c.pg c.st k)).enc ⟨0,s1.L,D1,F1,s1.G,x⟩= #[.int .i64 x] from rfl] at y9
    obtain⟨fn,tmps,assign,body,hy,hR⟩:=y9
    clear hv1 ht1 hf1 hE hJ'
    gi_wp2
    refine hR.mono ?_
    rintro e W4 (⟨rfl,s',⟨r1,r2,r3,r4,r5,r6,r7,r8⟩,hJ3⟩|⟨he,hJx3⟩)
    ·obtain⟨v1,v2,v3,⟨v4,v5,v6⟩,v7⟩:=HSEE.o s' _ hJ3
     have c0:=(aB (nI v3).1).1
     have LB:=hQQ (nI v3).2.1
     have c1:=(aB (nI v3).2.2).1
     have PO:=hQQ (Nt HR.o HH.o s'.F p kn s'.D k W4 v1 HK.o v2 bt v4 v5 v6)
     have HJ4:=hQQ hJ3
     have HNX4:Hq (vo c.us c.pg c.st k s'.i=ak (ma c.pg c.st k) fun r=>ay (if r then .skip 1 else .fin)):=hQQ (by unfold vo;rw[r1];rfl)
     have HL4:Hq (s'.L.length=s1.L.length+1∧s'.L.length<most):=hQQ ⟨r4,r5⟩
     clear v1 v2 v3 v4 v5 v6 v7 r1 r2 r3 r4 r5 r6 r7 r8 hJ3 hR hy
     gi_wp2_with (refine ed rfl 28 _ rfl _ rfl 28 _ _ _ LB.o Tryz.underlying28 rfl (by kernel_rfl) ?_)
     refine⟨trivial,?_⟩
     gi_at_call 24
     refine(callsIn_wide.2 PO.o).mono ?_
     intro e W5 he
     clear c0 c1 PO LB
     rcases hE:ma c.pg c.st k kn s'.D with a'|⟨ok,D2⟩
     ·rw[hE] at he
      obtain⟨rfl,hd,ht⟩:=he
      exact⟨rfl,.inr ⟨_,rfl,HNED.o s' _ W4 W5 HJ4.o ⟨a',by rw[HNX4.o];exact ag hE,rfl,hd,ht⟩⟩⟩
     ·rw[hE] at he
      obtain⟨rfl,F2,hv1,ht1,hf1⟩:=he
      cases ok with
      |false =>
       have FI:=hQQ (HFIN.o s' _ W4 W5 HJ4.o ⟨D2,F2,by rw[HNX4.o];exact aj hE,rfl,hv1,ht1,hf1⟩)
       clear hv1 ht1 hf1 hE
       gi_wp2
       refine bodyPost_ret (results_none rfl _ _ _) rfl ?_
       exact .inl ⟨⟨_,rfl⟩,.inl ⟨_,FI.o⟩⟩
      |true =>
       have SK:=hQQ (HSKP.o s' _ W4 W5 HJ4.o ⟨1,D2,F2,by rw[HNX4.o];exact aj hE,rfl,hv1,ht1,hf1⟩)
       have HLT:Hq (mes W5<mes wr):=hQQ (by
        obtain⟨s2,h2,h3,h4⟩:=HM.o W5 ⟨_,rfl,SK.o⟩
        have h5:mes W5≤most-s'.L.length:=h4 ⟨1,s'.L,D2,F2,s'.G,s'.a⟩ ⟨rfl,SK.o⟩
        have h6:most-s1.L.length=mes wr:=HME.o
        have h7:=HL4.o
        clear h2 h3 h4 hv1 ht1 hf1 hE
        omega)
       clear hv1 ht1 hf1 hE
       gi_wp2
       go_roundw
       case rel=>exact⟨_,rfl,SK.o⟩
       case measure=>exact HLT.o
    ·rcases he with rfl|⟨ch,rfl⟩
     ·gi_wp2
      refine⟨trivial,?_⟩
      gi_wp2
      refine bodyPost_ret (results_none rfl _ _ _) rfl ?_
      exact .inl ⟨⟨_,rfl⟩,.inr hJx3⟩
     ·exact⟨rfl,.inr ⟨ch,rfl,hJx3⟩⟩
def oT (b:Int):Nat→Nat→List Int→Prg (List Int)
 | 0,_,xs=>ay xs
 |m+1,i,xs=>ak (cS (b+1+i)) fun y=>oT b m (i+1) (xs++ [y])
def oU (b l:Int):Prg (List Int):=ak (jO b l) fun m=>oT b m.toNat 0 []
theorem pW (b:Int):∀(m i:Nat) (xs:List Int),bh (oT b m i xs)
 | 0,_,_=>ah _
 |m+1,i,xs=>aq (dx _) fun y=>pW b m (i+1) _
theorem AN (b l:Int):bh (oU b l):=aq (pM b l) fun _=>pW _ _ _ _
theorem rI {b:Int}{n:Nat} :∀(m i:Nat) (xs:List Int),b+1+i+m≤n→bQ n (fun ys:List Int=>ys.length=xs.length+m) (oT b m i xs)
 | 0,_,xs,_=>ai n rfl
 |m+1,i,xs,h=>ar (bb n (by omega)) fun y _=>de (rI m (i+1) _ (by omega)) fun ys q=>by rw[q];simp;omega
theorem uL {b l:Int}{n:Nat}(H:dY b l n):bQ n (fun ys:List Int=>(ys.length:Int)≤l) (oU b l):=
 ar (gt H) fun m hm=>de (rI m.toNat 0 [] (by have:=H.hi;omega)) fun ys q=>by rw[q];simp;omega
def uM (b l:Int)(ws:List Int):List Int:=(List.range (aX l (wAt ws b)).toNat).map fun i:Nat=>wAt ws (b+1+(i:Int))
theorem rJ {b:Int}{n:Nat}(hb:0≤b):∀(m i:Nat) (xs:List Int),b+1+i+m≤n→bJ n (oT b m i xs) (fun ws=>(xs++(List.range m).map fun j:Nat=>wAt ws (b+1+((i+j:Nat):Int)),ws))
 | 0,i,xs,_=>aU (au n xs) fun ws _=>by simp
 |m+1,i,xs,h=>by
  refine aU (aA (dV (by omega) (by omega)) fun y=>rJ hb m (i+1) (xs++ [y]) (by omega)) fun ws _=>?_
  simp only[List.append_assoc,List.range_succ_eq_map,List.map_cons,List.map_map,List.cons_append,List.nil_append]
  congr 2
  congr 1
  refine List.map_congr_left fun j _=>?_
  show _=wAt ws (b+1+((i+(j+1):Nat):Int))
  congr 2
  omega
theorem CY {α β:Type}{n:Nat}{p:Prg α}{f:α→Prg β}{g:List Int→α×List Int}{k:α→List Int→β×List Int}{Q:α→Prop}(h:bJ n p g)(G:bQ n Q p)(hf:∀x,Q x→bJ n (f x) (k x)):bJ n (ak p f) (fun ws=>k (g ws).1 (g ws).2):=fun zs D hn hz hD=>by
 obtain⟨D1,e1,a1,i1⟩:=h zs D hn hz hD
 obtain⟨D2,e2,a2,i2⟩:=hf (g (bZ zs D)).1 (G.ok (jG hz) hD e1).2 zs D1 hn hz i1
 refine⟨D2,?_,?_,i2⟩
 ·rw[aj e1,e2,a1]
 ·rw[a2,a1]
theorem CZ {b l:Int}{n:Nat}(H:dY b l n):bJ n (oU b l) (fun ws=>(uM b l ws,ws)):=by
 have h1:=H.b1
 refine aU (CY (rq H) (gt H) fun m hm=>rJ (by omega) m.toNat 0 [] (by have:=H.hi;omega)) fun ws _=>?_
 unfold uM
 simp
theorem pX {ops:Array Oper}{rest:List Oper}{o:Oper}{a:Act}{Q:Exit→Act→World→Prop}{base:Nat}{w:World}{v:Value}{xs:List Int}(y:Int)(hgd:o.guard=none)(s x:Operand)
 (ho:o.op=.call { callee:= .builtin .append,args:= #[s,x],argTypes:= #[29,29] })
 (hs:a.eval s=v) (hn:Rw base w v xs) (hb:base≤w.heap.size) (hl:xs.length≤1000000)
 (hx:a.eval x=.slice (some ⟨w.heap.size,0,none⟩) 1 1)
 (h:∀v' w',Rw base w' v' (xs++ [y])→Turned (fun k=>v.ownBlock=some k) (w.alloc (.cells #[.int .i64 y] 3)) w'→(∀k,v'.ownBlock=some k→v.ownBlock=some k∨k=(w.alloc (.cells #[.int .i64 y] 3)).heap.size)→wpList Tryz.prog ops Q rest (a.put o.dst v') w'):wpList Tryz.prog ops Q (o::rest) a (w.alloc (.cells #[.int .i64 y] 3)):=by
 have m:ae w (w.alloc (.cells #[.int .i64 y] 3)):=(ae.refl w).alloc _
 exact wpList_plain hgd fun K hK=>Dz y s x ho hs (hn.more m) (by have:=m.size;omega) hl hx (a7 w _) (fun v' w' h1 h2 h3=>hK _ _ (h v' w' h1 h2 h3))
def eG (b:Nat)(xs:List Int)(v:Value)(w:World)(F:Nat→Prop):Prop:=dm b F w v xs
theorem NU {b l:Int}{n:Nat}(H:dY b l n)(hn:n≤10000)(F:Nat→Prop)(p:Nat)(kn:Int→Option Int)(D:List KV)(w:World)(hv:aD w F p kn D)(hk:OkK kn)(hD:cC n D):
 Calls Tryz.prog 46 #[.pointer (some ⟨p,0,none⟩),.int .i64 b,.int .i64 l] w (fm w F p kn (eG w.heap.size) (oU b l kn D)):=by
 obtain⟨Rr,hRr⟩:∃Rr,oU b l kn D=Rr:=⟨_,rfl⟩
 rw[hRr]
 obtain⟨w1,e1,hl1,m1,s1⟩:=a6 w (.cells #[.int .i64 b,.int .i64 l] 134)
 have nFl:¬F w.heap.size:=fun q=>by have:=hv.lt _ q;omega
 have MM:=hQQ m1
 have L0:=hQQ hl1
 have M0:=m0Z (hv.more m1) hD
 have KL:Hq (∀wr D' F',MidV w1 wr F (fun _=>False) p kn n D' F'→wr.heap[w.heap.size]?=some (.cells #[.int .i64 b,.int .i64 l] 134 (0,0))):=hQQ fun wr D' F' h=>eT h L0.o nFl (fun q=>q)
 have NEED:Hq (∀a w2,Rr=.need a→bB w2 p a→Turned (fun b=>F b∨False) w1 w2→fm w F p kn (eG w.heap.size) Rr (.panicked (bg p)) w2):=hQQ fun a w2 e hd ht=>kh MM.o (fun _ q=>q.elim) e hd ht
 have DONE:Hq (∀x v w2 D' F',Rr=.ok x D'→MidV w1 w2 F (fun _=>False) p kn n D' F'→(eG w.heap.size) x v w2 F'→fm w F p kn (eG w.heap.size) Rr (.returned v) w2):=hQQ fun x v w2 D' F' e h hp=>ki MM.o (fun _ q=>q.elim) h e hp
 have HK:=hQQ hk
 have HH:=hQQ H
 have HRr:=hQQ hRr
 have hw1:w.heap.size≤w1.heap.size:=by omega
 obtain⟨c0,c1⟩:=lr hl1
 clear hl1 m1 hv hD hk H nFl hRr
 go_enter Tryz.func46,Tryz.ntmps46
 go_wp2_with fail
 refine(xZ HH.o F p kn D w1 M0.o.view HK.o M0.o.inv).mono ?_
 intro e w2 he
 rcases M0.o.step (ae.refl _) HK.o (gt HH.o) he with⟨a',hE,rfl,hd',ht',_⟩|⟨m,D2,F2,hE,rfl,M2',hq2,_,_⟩
 ·exact⟨rfl,NEED.o a' w2 (HRr.o.symm.trans (ag hE)) hd' ht'⟩
 have R2:=hQQ ((aj hE).symm.trans HRr.o)
 have M2:=hQQ M2'
 have b1:=HH.o.b1;have hi1:=HH.o.hi;have ht1:=HH.o.top
 obtain⟨m0,m1⟩:=hq2
 obtain⟨mm,rfl⟩:∃mm:Nat,m=mm:=⟨m.toNat,by omega⟩
 rw[Int.toNat_natCast] at R2
 clear he hE M2' c0 c1 e1
 go_wp2_with fail
 go_loopw [8,16] (fun v i wr=>∃(k:Nat) (xs:List Int) (D':List KV) (F':Nat→Prop),i=.int .i64 (k:Int)∧k≤mm∧MidV w1 wr F (fun _=>False) p kn n D' F'∧dm w1.heap.size F' wr v xs∧xs.length=k∧oT b (mm-k) k xs kn D'=Rr) (fun _ i _=>mm-(intOf i).toNat)
 case atStart=>exact⟨0,[],D2,F2,rfl,Nat.zero_le _,M2.o,dm.nil _ _ _,rfl,R2.o⟩
 case round =>
  obtain⟨k,xs,D',F',rfl,hk,mi,ri,hl,hs⟩:=hrel
  by_cases hlt:k<mm
  ·have d1:decide ((k:Int)<(mm:Int))=true:=by simp;omega
   have q3:IntKind.i64.wrap ((k:Int)+1)=(k:Int)+1:=az (by omega) (by omega)
   rw[show mm-k=(mm-(k+1))+1 by omega] at hs
   have RI:=hQQ (show ak (cS (b+1+k)) (fun y=>oT b (mm-(k+1)) (k+1) (xs++ [y])) kn D'=Rr from hs)
   have MI:=hQQ mi
   have RWI:=hQQ ri
   have HL:=hQQ hl
   obtain⟨c0,c1⟩:=lr (KL.o _ _ _ mi)
   have WD:=hQQ (xY b l (k:Int) wr)
   rw[qP HH.o,show dt b l (k:Int)=b+1+k by unfold dt;rw[if_neg (by omega)]] at WD
   clear mi ri hl hs
   go_wp2_with fail
   refine WD.o.mono ?_
   rintro e w4 ⟨rfl,h4⟩
   have M4:=hQQ (MI.o.more h4)
   have R4:=hQQ (RWI.o.more h4)
   clear h4 c0 c1 WD
   go_wp2_with fail
   refine(jj F' p kn D' (b+1+k) w4 M4.o.view (by unfold W64;omega)).mono ?_
   intro e w5 he
   rcases M4.o.step (ae.refl _) HK.o (bb n (by omega)) he with⟨a',hE,rfl,hd',ht',_⟩|⟨y,D5,F5,hE,rfl,M5',hq5,hk5,hn5⟩
   ·exact⟨rfl,NEED.o a' w5 (RI.o.symm.trans (ag hE)) hd' ht'⟩
   have R5:=hQQ ((aj hE).symm.trans RI.o)
   have M5:=hQQ M5'
   have RW5:=hQQ (R4.o.went hk5 hn5)
   have HX:Hq (w1.heap.size≤w5.heap.size):=hQQ M5'.size
   have HL5:Hq (xs.length≤1000000):=hQQ (by have:=HL.o;omega)
   clear he hE M5' hk5 hn5
   go_wp2_with (at_builtin;refine pX y rfl _ _ rfl rfl RW5.o.1 HX.o HL5.o rfl ?_;intro v6 w6 h6 t6 k6;obtain⟨g1,g2⟩:=(M5.o.more ((ae.refl w5).alloc (.cells #[.int .i64 y] 3))).grew (RW5.o.more ((ae.refl w5).alloc _)) (Nat.le_refl _) t6 h6 k6;have M6:=hQQ g1;have R6:=hQQ g2;clear h6 t6 k6 g1 g2)
   go_roundw
   case rel=>exact⟨k+1,xs++ [y],D5,F5,by go_num,by omega,M6.o,R6.o,by rw[List.length_append,HL.o];rfl,R5.o⟩
   case measure=>simp[intOf];omega
  ·obtain rfl:k=mm:=by omega
   have d1:decide ((k:Int)<(k:Int))=false:=by simp
   rw[Nat.sub_self] at hs
   have FIN:=hQQ (DONE.o xs u8 wr D' F' hs.symm mi (ri.mono hw1))
   clear mi ri hl hs
   go_wp2_with fail
   go_ret
   exact FIN.o
attribute [local go_sem] Oper.semAt_some
theorem dm.cells {b:Nat}{F F':Nat→Prop}{w w':World}{v:Value}{xs:List Int}(h:dm b F w v xs)(hk:∀k cs t fr,¬F k→w.heap[k]?=some (.cells cs t fr)→w'.heap[k]?=some (.cells cs t fr))(hf:∀k,F' k→F k∨w.heap.size≤k):dm b F' w' v xs:=by
 obtain⟨r,n⟩:=h
 have key:∀k,v.ownBlock=some k→¬F' k:=fun k q z=>by
  rcases hf k z with y|y
  ·exact(n k q).1 y
  ·have:=(n k q).2.2;omega
 rcases r with⟨h1,q|⟨g,cap,cur,rfl,hb,hg,rest⟩⟩
 ·exact⟨⟨h1,.inl q⟩,fun k q'=>by rw[q.1] at q';cases q'⟩
 ·have hg':=hk g _ _ _ (n g rfl).1 hg
  exact⟨⟨h1,.inr ⟨g,cap,cur,rfl,hb,hg',rest⟩⟩,fun k q=>by
   have:g=k:=by simpa [Value.ownBlock] using q
   subst this
   exact⟨key g rfl,hb,ac hg'⟩⟩
theorem uN {Fc:Fence}{m:Nat}{ops:Array Oper}{rest:List Oper}{o:Oper}{a:Act}{Q:Exit→Act→World→Prop}{base:Nat}{w:World}{v:Value}{xs:List Int}(y:Int)(hgd:o.guard=none)(s x:Operand)
 (ho:o.op=.call { callee:= .builtin .append,args:= #[s,x],argTypes:= #[29,29] })
 (hs:a.eval s=v) (hn:Rw base w v xs) (hb:base≤w.heap.size) (hl:xs.length≤1000000)
 (hx:a.eval x=.slice (some ⟨w.heap.size,0,none⟩) 1 1)
 (h:∀g cap w',Rw base w' (.slice (some ⟨g,0,none⟩) (xs.length+1) cap) (xs++ [y])→Turned (fun k=>v.ownBlock=some k) (w.alloc (.cells #[.int .i64 y] 3)) w'→(v.ownBlock=some g∨g=(w.alloc (.cells #[.int .i64 y] 3)).heap.size)→wpListIn Fc m Tryz.prog ops Q rest (a.put o.dst (.slice (some ⟨g,0,none⟩) (xs.length+1) cap)) w'):wpListIn Fc m Tryz.prog ops Q (o::rest) a (w.alloc (.cells #[.int .i64 y] 3)):=by
 have mo:ae w (w.alloc (.cells #[.int .i64 y] 3)):=(ae.refl w).alloc _
 have hg:=a7 w (.cells #[.int .i64 y] 3)
 have hn2:=hn.more mo
 have hb2:=Nat.le_trans hb mo.size
 generalize w.alloc (.cells #[.int .i64 y] 3)=w1 at *
 obtain⟨i,i1,i2,i3,i4⟩:=jf
 refine wpListIn_plain hgd fun K hK'=>?_
 obtain⟨g,cap,w',hrun,h2,h3,h4,h5⟩:=run_append_lies (P:=Tryz.prog) w1 29 o.type base 3 i _ 1 8 Tryz.underlying29 i1 i2 i3 i4 rfl (by omega) v xs.length _ hn2 ⟨w.heap.size,0,none⟩ 1 1 [.int .i64 y] (by simp)
  (fun j u hu=>World.news_of_block hg j u (by simpa using hu)) (by intro u hu;simp at hu;subst hu;rfl) (by omega) (by simp only[maxLen];omega) (by omega) hb2 _ rfl
 have ht:Turned (fun k=>v.ownBlock=some k) w1 w':=⟨h3.os,h3.tape,h3.output,h3.size,fun k hk hne=>h3.block k hk (fun e=>hne e.symm)⟩
 have fin:=h g cap w' (by
  unfold Rw
  rw[List.length_append,List.map_append]
  exact h2) ht h4
 unfold Oper.wpIn
 refine⟨?_,?_⟩
 ·simp[Oper.about,ho,resolve,Target.leads,Sem.run_pure]
 ·rw[Oper.semAt_plain Fc _ _ (by rw[ho];intro c hc';cases hc')]
  simp[execOp,ho,resolve,invoke,builtin,hs,hx,hrun,Result.andThen]
  exact hK' _ _ fin
theorem NV {v:Value}{g m cap N:Nat}(h:v.ownBlock=some g∨g=N):∀k,(Value.slice (some ⟨g,0,none⟩) m cap).ownBlock=some k→v.ownBlock=some k∨k=N:=fun k q=>by
 have e:g=k:=by simpa [Value.ownBlock] using q
 subst e
 exact h
structure UpZ (w6:World)(F:Nat→Prop)(lb p:Nat)(kn:Int→Option Int)(n base:Nat)(Bs:Bxs)(Sem:UpS→Prop)(s:UpS)(A:World):Prop where
 on:OnV w6 A F (fun k=>k=lb) p kn n s.D s.F
 box:∃v,A.heap[lb]?=some (.cells #[v] 29 (0,0))∧dm base s.F A v s.L∧∀k,v.ownBlock=some k→s.G k
 gl:s.G lb
 g:∀k,s.G k→k<A.heap.size∧¬s.F k∧(k=lb∨w6.heap.size+2≤k)
 bx:JA Bs A
 nb:∀b∈Bs,¬s.F b.1∧¬s.G b.1
 sem:Sem s
namespace UpZ
variable {w6:World}{F:Nat→Prop}{lb p:Nat}{kn:Int→Option Int}{n base:Nat}{Bs:Bxs}{Sem:UpS→Prop}{s:UpS}{A B:World}
theorem stays (h:UpZ w6 F lb p kn n base Bs Sem s A)(on:OnV w6 B F (fun k=>k=lb) p kn n s.D s.F)(hs:A.heap.size≤B.heap.size)(hk:∀(k:Nat)(cs:Array Value)(t:TypeId)(fr:Nat×Nat),A.heap[k]?=some (.cells cs t fr)→B.heap[k]?=some (.cells cs t fr)):UpZ w6 F lb p kn n base Bs Sem s B:=by
 obtain⟨v,h1,h2,h3⟩:=h.box
 exact⟨on,⟨v,hk _ _ _ _ h1,h2.cells (fun k cs t fr _ q=>hk k cs t fr q) (fun k q=> .inl q),h3⟩,h.gl,fun k q=>⟨Nat.lt_of_lt_of_le (h.g k q).1 hs,(h.g k q).2⟩,fun b hb=>hk _ _ _ _ (h.bx b hb),h.nb,h.sem⟩
theorem books (hF:∀k,F k→k<w6.heap.size)(s:UpS):i8 w6.heap.size (UpZ w6 F lb p kn n base Bs Sem s):=
 ⟨fun {A A'} h m=>h.stays (h.on.more m) m.size fun k cs t fr q=>m.block q,
  fun {A r} r' h hl=>h.stays (h.on.put hF r' hl) (by simp) fun k cs t fr q=>(World.putObj_heap_other (by rintro rfl;rw[hl] at q;cases q)).trans q⟩
theorem went (h:UpZ w6 F lb p kn n base Bs Sem s A)(hsz:w6.heap.size+2≤A.heap.size){F1:Nat→Prop}{D1:List KV}(hv:aD B F1 p kn D1)(ht:Turned s.F A B)(hf:∀k,F1 k→s.F k∨A.heap.size≤k)(hi:cC n D1){Sem':UpS→Prop}{i:Nat}{a:Int}(hs:Sem' ⟨i,s.L,D1,F1,s.G,a⟩):UpZ w6 F lb p kn n base Bs Sem' ⟨i,s.L,D1,F1,s.G,a⟩ B:=by
 obtain⟨v,h1,h2,h3⟩:=h.box
 have keep:∀k,k<A.heap.size→¬s.F k→B.heap[k]?=A.heap[k]? :=fun k hk nk=>ht.block k hk nk
 refine⟨⟨hv,fun k q=>?_,am h.on.turn ht (fun k q=>(h.on.from' k q).imp .inl (fun r=>by omega)),hi⟩,⟨v,?_,h2.cells (fun k cs t fr nk q=>(keep k (ac q) nk).trans q) hf,h3⟩,h.gl,fun k q=>⟨Nat.lt_of_lt_of_le (h.g k q).1 ht.size,fun z=>?_,(h.g k q).2.2⟩,fun b hb=>?_,fun b hb=>⟨fun z=>?_,(h.nb b hb).2⟩,hs⟩
 ·rcases hf k q with r|r
  ·exact h.on.from' k r
  ·exact .inr (by omega)
 ·exact(keep lb (ac h1) (h.g lb h.gl).2.1).trans h1
 ·rcases hf k z with r|r
  ·exact(h.g k q).2.1 r
  ·have:=(h.g k q).1;omega
 ·have:=h.bx b hb
  exact(keep _ (ac this) (h.nb b hb).1).trans this
 ·rcases hf _ z with r|r
  ·exact(h.nb b hb).1 r
  ·have:=ac (h.bx b hb);omega
theorem push (h:UpZ w6 F lb p kn n base Bs Sem s A)(hsz:w6.heap.size+2≤A.heap.size){o:Obj}{v v':Value}{W2:World}(h1:A.heap[lb]?=some (.cells #[v] 29 (0,0)))(h3:∀k,v.ownBlock=some k→s.G k)(hr:Rw base W2 v' (s.L++ [s.a]))
 (ht:Turned (fun k=>v.ownBlock=some k) (A.alloc o) W2) (hv':∀k,v'.ownBlock=some k→v.ownBlock=some k∨k=(A.alloc o).heap.size) (hlb6:lb<w6.heap.size):
 W2.heap[lb]?=some (.cells #[v] 29 (0,0))∧bL (dI w6.heap.size) A (W2.setCell ⟨lb,0,none⟩ v')∧(W2.setCell ⟨lb,0,none⟩ v').heap[lb]?=some (.cells #[v'] 29 (0,0))∧A.heap.size≤(W2.setCell ⟨lb,0,none⟩ v').heap.size∧(∀k cs t fr,¬s.G k→A.heap[k]?=some (.cells cs t fr)→(W2.setCell ⟨lb,0,none⟩ v').heap[k]?=some (.cells cs t fr))∧(∀k,(s.G k∨v'.ownBlock=some k)→s.G k∨A.heap.size≤k) ∧
 ∀Sem':UpS→Prop,Sem' ⟨s.i,s.L++ [s.a],s.D,s.F,fun k=>s.G k∨v'.ownBlock=some k,s.a⟩→UpZ w6 F lb p kn n base Bs Sem' ⟨s.i,s.L++ [s.a],s.D,s.F,fun k=>s.G k∨v'.ownBlock=some k,s.a⟩ (W2.setCell ⟨lb,0,none⟩ v'):=by
 have m0:ae A (A.alloc o):=(ae.refl A).alloc o
 have tA:Turned (fun k=>v.ownBlock=some k) A W2:=am (Turned.mono m0 (fun _ _ q=>q.elim)) ht (fun k q=> .inl q)
 have tB:Turned (fun k=>v.ownBlock=some k∨k=lb) A (W2.setCell ⟨lb,0,none⟩ v'):=Turned.setCell (Turned.mono tA (fun k _ q=> .inl q)) ⟨lb,0,none⟩ v' (fun _=> .inr rfl)
 have hG:∀k,(v.ownBlock=some k∨k=lb)→s.G k:=by
  rintro k (q|rfl)
  ·exact h3 k q
  ·exact h.gl
 have own:∀k,v.ownBlock=some k→∃cur fr,A.heap[k]?=some (.cells cur 3 fr):=by
  obtain⟨u,q1,q2,q3⟩:=h.box
  rw[h1] at q1;cases q1
  intro k e
  rcases q2.1.2 with⟨rfl,_⟩|⟨g,cap,cur,rfl,hb,hg,_⟩
  ·cases e
  ·have:g=k:=by simpa [Value.ownBlock] using e
   subst this
   exact⟨_,_,hg⟩
 have nl:v.ownBlock≠some lb:=fun e=>by
  obtain⟨cur,fr,q⟩:=own lb e
  rw[h1] at q;cases q
 have hmap:∀k es cl,v.ownBlock=some k→A.heap[k]? ≠some (.map es cl):=fun k es cl e z=>by
  obtain⟨cur,fr,q⟩:=own k e
  rw[z] at q;cases q
 have hlb:v'.ownBlock≠some lb:=fun e=>by
  rcases hv' lb e with r|r
  ·exact nl r
  ·have:=m0.size;have:=ac h1;omega
 have hl2:W2.heap[lb]?=some (.cells #[v] 29 (0,0)):=(tA.block lb (ac h1) (fun q=>nl q)).trans h1
 have hl3:(W2.setCell ⟨lb,0,none⟩ v').heap[lb]?=some (.cells #[v'] 29 (0,0)):=kM v' hl2
 have keep:∀k,k<A.heap.size→¬s.G k→(W2.setCell ⟨lb,0,none⟩ v').heap[k]?=A.heap[k]? :=fun k hk nk=>tB.block k hk (fun q=>nk (hG k q))
 have grow:∀k,(s.G k∨v'.ownBlock=some k)→s.G k∨A.heap.size≤k:=by
  rintro k (q|q)
  ·exact .inl q
  ·rcases hv' k q with r|r
   ·exact .inl (h3 k r)
   ·right;rw[r];exact m0.size
 have nF:∀k,(s.G k∨v'.ownBlock=some k)→¬s.F k:=fun k q z=>by
  rcases grow k q with r|r
  ·exact(h.g k r).2.1 z
  ·have:=h.on.view.lt k z;omega
 have on':OnV w6 (W2.setCell ⟨lb,0,none⟩ v') F (fun k=>k=lb) p kn n s.D s.F:=by
  refine⟨h.on.view.keepS tB (fun k q z=>(h.g k (hG k z)).2.1 q) (fun k es cl z e=>?_),h.on.from',am h.on.turn tB (fun k z=>?_),h.on.inv⟩
  ·rcases z with z|rfl
   ·exact hmap k es cl z e
   ·rw[h1] at e;cases e
  ·rcases (h.g k (hG k z)).2.2 with r|r
   ·exact .inl (.inr r)
   ·exact .inr (by omega)
 have tC:Turned (fun k=>k=lb) W2 (W2.setCell ⟨lb,0,none⟩ v'):=Turned.setCell (Turned.refl _ W2) ⟨lb,0,none⟩ v' (fun _=>rfl)
 have hr3:Rw base (W2.setCell ⟨lb,0,none⟩ v') v' (s.L++ [s.a]):=hr.keepT tC (fun k q e=>hlb (e▸q))
 refine⟨hl2,bL.turned tB (fun k q=>by rcases q with q|q<;>omega) (fun k q z=>?_),hl3,tB.size,fun k cs t fr nk q=>(keep k (ac q) nk).trans q,grow,fun Sem' hs=>⟨on',⟨v',hl3,⟨hr3,fun k q=>⟨nF k (.inr q),(hr3.own q).1,(hr3.own q).2⟩⟩,fun k q=> .inr q⟩,.inl h.gl,fun k q=>⟨?_,nF k q,?_⟩,fun b hb=>?_,fun b hb=>⟨(h.nb b hb).1,fun z=>?_⟩,hs⟩⟩
 ·rcases (h.g k (hG k z)).2.2 with r|r
  ·rcases q with q|q<;>omega
  ·rcases q with q|q<;>omega
 ·rcases q with q|q
  ·exact Nat.lt_of_lt_of_le (h.g k q).1 tB.size
  ·exact(hr3.own q).2
 ·rcases grow k q with r|r
  ·exact(h.g k r).2.2
  ·exact .inr (by omega)
 ·have:=h.bx b hb
  exact(keep _ (ac this) (h.nb b hb).2).trans this
 ·rcases grow _ z with r|r
  ·exact(h.nb b hb).2 r
  ·have:=ac (h.bx b hb);omega
end UpZ
structure UpH (kn:Int→Option Int)(n most:Nat)(nx:Nat→Prg NxR)(Sem:Nat→List Int→List KV→Prop)(Sem':Nat→List Int→List KV→Int→Prop)(Rr:Res (List Int)):Prop where
 good:∀i,bQ n (fun _=>True) (nx i)
 told:∀i L D j a D1,Sem i L D→nx i kn D=.ok (.told j a) D1→Sem' j L D1 a
 skip:∀i L D j D1,Sem i L D→nx i kn D=.ok (.skip j) D1→Sem j L D1
 fin:∀i L D D1,Sem i L D→nx i kn D=.ok .fin D1→Rr=.ok L D1
 need:∀i L D a,Sem i L D→nx i kn D=.need a→Rr=.need a
 less:∀i L D a,Sem' i L D a→L.length<most
 more:∀i L D a,Sem' i L D a→L.length+1<most→Sem i (L++ [a]) D
 full:∀i L D a,Sem' i L D a→¬L.length+1<most→Rr=.ok (L++ [a]) D
theorem JB {w w6 W:World}{F:Nat→Prop}{p:Nat}{kn:Int→Option Int}{n:Nat}{Bs:Bxs}{Rr:Res (List Int)}{s:UpS}{x:Option (List Deferred)}(hF6:∀k,F k→k<w6.heap.size)(m6:ae w w6)(s6:w6.heap.size=w.heap.size+2)(h:UpZ w6 F (w.heap.size+1) p kn n w.heap.size Bs (fun s=>Rr=.ok s.L s.D) s W)(hdf:W.heap[w6.heap.size]?=some (.deferred x)):
 ∃v,W.heap[w.heap.size+1]?=some (.cells #[v] 29 (0,0))∧fm w F p kn (eG w.heap.size) Rr (.returned v) (W.putObj w6.heap.size (.deferred none)):=by
 obtain⟨v,h1,h2,h3⟩:=h.box
 refine⟨v,h1,?_⟩
 have hon:=h.on.view.keepS (S:=fun k=>k=w6.heap.size) (w':=W.putObj w6.heap.size (.deferred none)) (fE (Turned.refl _ W) _ _ (fun _=>rfl)) (fun k q e=>by subst e;rcases h.on.from' _ q with r|r;have:=hF6 _ r;omega;omega) (fun k es cl e q=>by subst e;rw[hdf] at q;cases q)
 have ht:Turned F w W:=am (Turned.mono m6 (fun k _ q=>(q.elim:F k))) h.on.turn (fun k q=>q.imp id (fun r=>by omega))
 have hs:=h.sem
 try simp only at hs
 rw[hs]
 refine⟨v,s.F,rfl,h2.cells (fun k cs t fr nk q=>(World.putObj_heap_other (by rintro rfl;rw[hdf] at q;cases q)).trans q) (fun k q=> .inl q),hon,fE ht _ _ (fun q=>by omega),fun k q=>(h.on.from' k q).imp id (fun r=>by omega)⟩
def UpX (w6:World)(F:Nat→Prop)(lb p:Nat)(kn:Int→Option Int)(n base:Nat)(Bs:Bxs)(Rr:Res (List Int)):Exit→World→Prop
 | .panic ch,W=>ch=bg p∧∃a,Rr=.need a∧oq w6 W F (fun k=>k=lb) p a
 | .exit i,W=>i=0∧∃s,UpZ w6 F lb p kn n base Bs (fun s=>Rr=.ok s.L s.D) s W
 | _,_=>False
theorem Gq {w6:World}{F:Nat→Prop}(hF:∀k,F k→k<w6.heap.size){lb p:Nat}{kn:Int→Option Int}{n base:Nat}{Bs:Bxs}{Rr:Res (List Int)}(e:Exit):i8 w6.heap.size (UpX w6 F lb p kn n base Bs Rr e):=by
 cases e with
 |panic ch=>exact⟨fun {A A'} h m=>by obtain⟨h1,a,h2,h3⟩:=h;exact⟨h1,a,h2,h3.more m⟩,fun {A r} r' h hl=>by obtain⟨h1,a,h2,h3⟩:=h;exact⟨h1,a,h2,h3.put hl rfl (by omega) _⟩⟩
 |exit i=>exact⟨fun {A A'} h m=>by obtain⟨h1,s,h2⟩:=h;exact⟨h1,s,(UpZ.books hF s).more h2 m⟩,fun {A r} r' h hl=>by obtain⟨h1,s,h2⟩:=h;exact⟨h1,s,(UpZ.books hF s).put r' h2 hl⟩⟩
 |ret=>exact⟨fun {A A'} h m=>h,fun {A r} r' h hl=>h⟩
 |normal=>exact⟨fun {A A'} h m=>h,fun {A r} r' h hl=>h⟩
 |goto _=>exact⟨fun {A A'} h m=>h,fun {A r} r' h hl=>h⟩
 |outgrown=>exact⟨fun {A A'} h m=>h,fun {A r} r' h hl=>h⟩
theorem JC {n most bt:Nat}(F:Nat→Prop)(p:Nat)(kn:Int→Option Int)(D:List KV)(hk:OkK kn){nx:Nat→Prg NxR}{Bs:Bxs}{gf:Nat}{lc:Array Value}(heg:∀args w,Sem.run Tryz.prog (callFunc gf args) w=.ok (.enter gf args) w)
 {Sem:Nat→List Int→List KV→Prop} {Sem':Nat→List Int→List KV→Int→Prop} {Rr:Res (List Int)} (U:UpH kn n most nx Sem Sem' Rr) (hm:most≤1000000) (i0:Nat) (w:World) (hseq:∀s0 w0,s0.i=i0→A0 (upI n kn p most bt Bs nx) Fence.wide 2 Tryz.prog gf lc s0 w0)
 (hv:aD w F p kn D) (hD:cC n D) (hs:dd bt w) (nF0:¬F 0) (nFb:¬F bt) (hb:JA Bs w) (hnb:∀b∈Bs,¬F b.1) (h0:Sem i0 [] D):
 Calls Tryz.prog 98 #[.int .i64 (most:Int),.func (.func gf) #[] lc] w (fm w F p kn (eG w.heap.size) Rr):=by
 refine(callsIn_wide (n:=3)).1 ?_
 refine iB Tryz.func98 rfl trivial ?_ rfl
 simp only[Tryz.ntmps98,List.size_toArray,List.length_cons,List.length_nil,Nat.reduceAdd,Nat.reduceSub,Array.replicate_succ,Array.replicate_zero,List.push_toArray,List.append_toArray,List.nil_append,List.cons_append]
 have hF0:∀k,F k→k<w.heap.size:=hv.lt
 obtain⟨w6,e6,hb0,hb1,m6,s6⟩:=gT w (.cells #[.int .i64 (most:Int)] 3) (.cells #[.slice none 0 0] 29)
 have hF6:∀k,F k→k<w6.heap.size:=fun k q=>by have:=hF0 k q;omega
 have hle:w.heap.size+2≤w6.heap.size:=by omega
 refine fx ?_
 gi_wp2
 refine fx ?_
 gi_wp2
 refine ss ?_
 refine fx ?_
 gi_wp2
 have HU:=hQQ U
 have HSQ:=hQQ hseq
 have HK:=hQQ hk
 have Z0:Hq (UpZ w6 F (w.heap.size+1) p kn n w.heap.size Bs (fun s=>Sem s.i s.L s.D) ⟨i0,[],D,F,fun k=>k=w.heap.size+1,0⟩ w6):=hQQ
  ⟨OnV.begin (hv.more m6) hD,⟨_,hb1,dm.nil _ _ _,fun k q=>by cases q⟩,rfl,fun k q=>⟨by subst q;omega,fun z=>by have:=hF0 k z;omega,.inl q⟩,fun b q=>m6.block (hb b q),fun b q=>⟨hnb b q,fun z=>by have:=ac (hb b q);omega⟩,h0⟩
 have KM:Hq (∀W D' F',OnV w6 W F (fun k=>k=w.heap.size+1) p kn n D' F'→W.heap[w.heap.size]?=some (.cells #[.int .i64 (most:Int)] 3 (0,0))):=hQQ fun W D' F' h=>(h.turn.block _ (by omega) (by rintro(q|q);have:=hF0 _ q;omega;omega)).trans hb0
 have KS:Hq (∀W D' F',OnV w6 W F (fun k=>k=w.heap.size+1) p kn n D' F'→dd bt W∧¬F' 0∧¬F' bt):=hQQ fun W D' F' h=>⟨(hs.more m6).keep h.turn (by rintro(q|q);exact nF0 q;have:=hs.lt0;omega) (by rintro(q|q);exact nFb q;have:=hs.lt;omega),fun q=>by rcases h.from' 0 q with r|r;exact nF0 r;omega,fun q=>by rcases h.from' bt q with r|r;exact nFb r;have:=hs.lt;omega⟩
 clear e6 U hseq hk hv hD hs nF0 nFb hb hnb h0 hb0 hb1
 refine oe ?_
 refine vq (upI n kn p most bt Bs nx) (gf:=gf) (lb:=lc) Tryz.func98 rfl (by omega) rfl trivial heg (HSQ.o ⟨i0,[],D,F,fun k=>k=w.heap.size+1,0⟩ w6 rfl) (ae.refl _) (fun s=>rfl)
  (UpZ w6 F (w.heap.size+1) p kn n w.heap.size Bs (fun s=>Sem s.i s.L s.D)) (UpZ w6 F (w.heap.size+1) p kn n w.heap.size Bs (fun s=>Sem' s.i s.L s.D s.a)) (UpZ w6 F (w.heap.size+1) p kn n w.heap.size Bs (fun s=>Rr=.ok s.L s.D)) (UpX w6 F (w.heap.size+1) p kn n w.heap.size Bs Rr) (UpZ.books hF6) (UpZ.books hF6) (UpZ.books hF6) (Gq hF6) Z0.o
  (fun s a' W=>UpZ w6 F (w.heap.size+1) p kn n w.heap.size Bs (fun s=>Sem' s.i s.L s.D s.a) s W∧a'= { tmps:= #[.int .i64 (most:Int),.func (.func gf) #[] lc,.pointer (some ⟨w.heap.size,0,none⟩),undef,.slice none 0 0,.pointer (some ⟨w.heap.size+1,0,none⟩),.int .i64 s.a,.func (.func gf) #[] lc,.int .i64 s.a,undef,undef,undef,undef,undef,undef,undef,undef,undef],defers:= [] })
  (fun s a'=>⟨fun {A A'} h m=>⟨(UpZ.books hF6 s).more h.1 m,h.2⟩,fun {A r} r' h hl=>⟨(UpZ.books hF6 s).put r' h.1 hl,h.2⟩⟩)
  (fun s A _ h=>⟨h.on.view,h.on.inv,h.bx,KS.o _ _ _ h.on,fun k q=>(h.g k q).1⟩)
  (fun s s' A B hz h o=>by
   obtain⟨j,a,D1,F1,hE,rfl,hv1,ht1,hf1⟩:=o
   exact⟨h.on.same hF6 hz ht1,h.went hz hv1 ht1 hf1 ((HU.o.good _).ok HK.o h.on.inv hE).1 (HU.o.told _ _ _ _ _ _ h.sem hE)⟩)
  (fun s s' A B hz h o=>by
   obtain⟨D1,F1,hE,rfl,hv1,ht1,hf1⟩:=o
   exact⟨h.on.same hF6 hz ht1,h.went hz hv1 ht1 hf1 ((HU.o.good _).ok HK.o h.on.inv hE).1 (HU.o.fin _ _ _ _ h.sem hE)⟩)
  (fun s ch A B hz h o=>by
   obtain⟨a,hE,rfl,hd,ht⟩:=o
   exact⟨h.on.same hF6 hz ht,rfl,a,HU.o.need _ _ _ _ h.sem hE,hd,am h.on.turn ht (fun k q=>(h.on.from' k q).imp .inl (fun r=>by omega))⟩)
  (fun s s' A B hz h o=>by
   obtain⟨j,D1,F1,hE,rfl,hv1,ht1,hf1⟩:=o
   exact⟨h.on.same hF6 hz ht1,h.went hz hv1 ht1 hf1 ((HU.o.good _).ok HK.o h.on.inv hE).1 (HU.o.skip _ _ _ _ _ h.sem hE)⟩)
  (fun s s' A B l r0 r1 r r' hA hB h=>by
   obtain⟨h1,h2,h3,h4,h5,h6,h7,h8⟩:=h
   refine⟨h1,h2,h3,h4,h5,fun k q=>(h6 k q).imp id (fun z=>by simpa using z),by simpa using h7,fun k cs t fr nk hk'=>?_⟩
   have e1:(A.putObj l (.loop r)).heap[k]?=some (.cells cs t fr):=(World.putObj_heap_other (by rintro rfl;rw[hA] at hk';cases hk')).trans hk'
   have e2:=h8 k cs t fr nk e1
   exact(World.putObj_heap_other (by rintro rfl;rw[hB] at e2;cases e2)).trans e2)
  ?assign ?body ?done ?stop ?dies
 case assign =>
  rintro l s W K hsz hI hK
  rw[show(upI n kn p most bt Bs nx).enc s= #[.int .i64 s.a] from rfl]
  gi_wp2
 case body =>
  rintro l s a' W hsz ⟨hI,rfl⟩
  obtain⟨v,hv1,hv2,hv3⟩:=hI.box
  have cb:=(aB hv1).1
  have HI:=hQQ hI
  have HB1:=hQQ hv1
  have HB2:=hQQ hv2
  have HB3:=hQQ hv3
  have hlt:=HU.o.less _ _ _ _ hI.sem
  have HBM:=hQQ (KM.o W _ _ hI.on)
  have NGM:Hq (¬s.G w.heap.size):=hQQ fun z=>by rcases (hI.g _ z).2.2 with r|r<;>omega
  clear hv1 hv2 hv3 hI
  gi_wp2_with (gi_at_builtin;refine uN (base:=w.heap.size) s.a rfl _ _ rfl rfl HB2.o.1 (by omega) (by omega) rfl ?_;intro g' cap' W2 hr2 ht2 hv2;obtain⟨hl2,p1,p2,p3,p4,p5,p6⟩:=HI.o.push hsz HB1.o HB3.o hr2 ht2 (NV hv2) (by omega);have c3:=(aB hl2).1;have d3:=(aB hl2).2;have c4:=(aB p2).1;have c5:=(aB (p4 _ _ _ _ NGM.o HBM.o)).1;have P1:=hQQ p1;have P3:=hQQ p3;have P4:=hQQ p4;have P5:=hQQ p5;have P6:=hQQ p6;clear hr2 ht2 hv2 hl2 p1 p2 p3 p4 p5 p6)
  ·rename_i hh
   exact⟨P1.o,rfl,_,P6.o (fun s=>Rr=.ok s.L s.D) (HU.o.full _ _ _ _ HI.o.sem (by omega))⟩
  ·rename_i hh
   exact⟨P1.o,⟨s.i,s.L++ [s.a],s.D,s.F,fun k=>s.G k∨(Value.slice (some ⟨g',0,none⟩) (s.L.length+1) cap').ownBlock=some k,s.a⟩,⟨rfl,rfl,rfl,by simp,by simp;omega,P5.o,P3.o,P4.o⟩,P6.o _ (HU.o.more _ _ _ _ HI.o.sem (by omega))⟩
 case done =>
  rintro s W hI hdf
  obtain⟨v,hv1,FIN⟩:=JB hF6 m6 s6 hI hdf
  have cb:=(aB hv1).1
  rw[s6] at hdf FIN
  have FIN:=hQQ FIN
  clear hI hv1
  refine rP ?_
  gi_wp2
  refine⟨by simp,.inl ⟨_,_,rfl,run_takeDeferred hdf,?_⟩⟩
  exact⟨v,(results_tmp (t:=4) rfl _ _ _).trans rfl,FIN.o⟩
 case stop =>
  rintro e cc W hj hx hdf
  cases e with
  |exit i =>
   obtain⟨rfl,s,hI⟩:=hx
   cases hj
   obtain⟨v,hv1,FIN⟩:=JB hF6 m6 s6 hI hdf
   have cb:=(aB hv1).1
   have FIN:=hQQ FIN
   clear hI hv1
   gi_wp2
   refine rP ?_
   gi_wp2
   refine⟨by simp,.inl ⟨_,_,rfl,run_takeDeferred hdf,?_⟩⟩
   exact⟨v,(results_tmp (t:=4) rfl _ _ _).trans rfl,FIN.o⟩
  |ret=>exact hx.elim
  |goto _=>exact hx.elim
  |normal=>cases hj
  |panic _=>cases hj
  |outgrown=>cases hj
 case dies =>
  rintro ch W ⟨rfl,a,h2,h3⟩ hdf
  have h4:=h3.put hdf rfl (Nat.le_refl _) (.deferred none)
  refine⟨by simp,.inl ⟨_,_,rfl,run_takeDeferred hdf,?_⟩⟩
  have ht:=am (Turned.mono m6 (fun k _ q=>(q.elim:F k))) h4.2 (fun k q=>q.imp id (fun r=>by omega))
  rw[h2]
  exact⟨rfl,h4.1,ht⟩
theorem fJ {β:Type}{p:Prg β}{f:β→NxR}{kn:Int→Option Int}{D D1:List KV}{y:NxR}(h:ak p (fun x=>ay (f x)) kn D=.ok y D1):∃x,p kn D=.ok x D1∧f x=y:=by
 cases e:p kn D with
 |need a=>rw[ag e] at h;cases h
 |ok x D2=>rw[aj e] at h;cases h;exact⟨x,rfl,rfl⟩
theorem qR {β:Type}{p:Prg β}{f:β→NxR}{kn:Int→Option Int}{D:List KV}{a:Int}(h:ak p (fun x=>ay (f x)) kn D=.need a):p kn D=.need a:=by
 cases e:p kn D with
 |need b=>rw[ag e] at h;cases h;rfl
 |ok x D2=>rw[aj e] at h;cases h
section
variable {b l:Int}{n most:Nat}(H:dY b l n)(kn:Int→Option Int)(Rr:Res (List Int))
def N0 (b l:Int)(most:Nat)(kn:Int→Option Int)(Rr:Res (List Int))(i:Nat)(L:List Int)(D:List KV):Prop:=L.length<most∧(i=0→gK b l (most-L.length) L kn D=Rr)∧(i≠0→Rr=.ok L D)
def Lx (b l:Int)(most:Nat)(kn:Int→Option Int)(Rr:Res (List Int))(i:Nat)(L:List Int)(D:List KV)(a:Int):Prop:=i=0∧L.length<most∧gK b l (most-(L.length+1)) (L++ [a]) kn D=Rr
include H
theorem Ly:UpH kn n most (vj [(b,l)]) (N0 b l most kn Rr) (Lx b l most kn Rr) Rr:=by
 have n0:vj [(b,l)] 0=ak (d8 b l) fun x=>ay (if x.2 then .told 0 x.1 else .skip 1):=rfl
 have n1:∀i,i≠0→vj [(b,l)] i=ay .fin:=fun i hi=>wJ (by simp;omega)
 have step:∀(L:List Int) D,L.length<most→gK b l (most-L.length) L kn D=Rr→ak (d8 b l) (fun x=>if x.2 then gK b l (most-(L.length+1)) (L++ [x.1]) else ay L) kn D=Rr:=fun L D hl h=>by
  obtain⟨m,hm⟩:∃m,most-L.length=m+1:=⟨most-L.length-1,by omega⟩
  rw[hm] at h
  rw[show most-(L.length+1)=m by omega]
  exact h
 refine⟨fun i=>?_,fun i L D j a D1 hs e=>?_,fun i L D j D1 hs e=>?_,fun i L D D1 hs e=>?_,fun i L D a hs e=>?_,fun i L D a hs=>hs.2.1,fun i L D a hs hl=>?_,fun i L D a hs hl=>?_⟩
 ·by_cases hi:i=0
  ·subst hi;rw[n0];exact ar (hH H) fun _ _=>ai n trivial
  ·rw[n1 i hi];exact ai n trivial
 ·by_cases hi:i=0
  ·subst hi;rw[n0] at e
   obtain⟨⟨x,ok⟩,e1,e2⟩:=fJ e
   cases ok with
   |false=>cases e2
   |true =>
    cases e2
    exact⟨rfl,hs.1,(aj e1).symm.trans (step L D hs.1 (hs.2.1 rfl))⟩
  ·rw[n1 i hi] at e;cases e
 ·by_cases hi:i=0
  ·subst hi;rw[n0] at e
   obtain⟨⟨x,ok⟩,e1,e2⟩:=fJ e
   cases ok with
   |true=>cases e2
   |false =>
    cases e2
    exact⟨hs.1,fun q=>(by cases q),fun _=>((aj e1).symm.trans (step L D hs.1 (hs.2.1 rfl))).symm⟩
  ·rw[n1 i hi] at e;cases e
 ·by_cases hi:i=0
  ·subst hi;rw[n0] at e
   obtain⟨⟨x,ok⟩,e1,e2⟩:=fJ e
   cases ok<;>cases e2
  ·rw[n1 i hi] at e;cases e;exact hs.2.2 hi
 ·by_cases hi:i=0
  ·subst hi;rw[n0] at e
   exact(step L D hs.1 (hs.2.1 rfl)).symm.trans (ag (qR e))
  ·rw[n1 i hi] at e;cases e
 ·obtain⟨rfl,h1,h2⟩:=hs
  exact⟨by simpa using hl,fun _=>by simpa using h2,fun q=>absurd rfl q⟩
 ·obtain⟨rfl,h1,h2⟩:=hs
  rw[show most-(L.length+1)=0 by omega] at h2
  exact h2.symm
end
section
variable {us pg st k:Int}{n most:Nat}(H:cB pg st n)(kn:Int→Option Int)(Rr:Res (List Int))
def Pc (us pg st k:Int)(most:Nat)(kn:Int→Option Int)(Rr:Res (List Int))(i:Nat)(L:List Int)(D:List KV):Prop:=L.length<most∧(i=0→mL us pg st k (most-L.length) L kn D=Rr)∧(i≠0→jx us pg st k most L kn D=Rr)
def Oa (us pg st k:Int)(most:Nat)(kn:Int→Option Int)(Rr:Res (List Int))(i:Nat)(L:List Int)(D:List KV)(a:Int):Prop:=i=0∧L.length<most∧mL us pg st k (most-(L.length+1)) (L++ [a]) kn D=Rr
include H
theorem JD:UpH kn n most (vo us pg st k) (Pc us pg st k most kn Rr) (Oa us pg st k most kn Rr) Rr:=by
 have n0:vo us pg st k 0=ak (ma pg st k) fun r=>ay (if r then .skip 1 else .fin):=rfl
 have n1:∀i,i≠0→vo us pg st k i=ak (km us pg st k) fun x=>ay (if x.2 then .told 0 x.1 else .fin):=fun i hi=>by unfold vo;rw[if_neg hi]
 have step:∀(L:List Int) D,L.length<most→mL us pg st k (most-L.length) L kn D=Rr→ak (ma pg st k) (fun r=>if r then jx us pg st k most L else ay L) kn D=Rr:=fun L D hl h=>by
  obtain⟨m,hm⟩:∃m,most-L.length=m+1:=⟨most-L.length-1,by omega⟩
  rw[hm] at h
  unfold jx
  rw[show most-(L.length+1)=m by omega]
  exact h
 refine⟨fun i=>?_,fun i L D j a D1 hs e=>?_,fun i L D j D1 hs e=>?_,fun i L D D1 hs e=>?_,fun i L D a hs e=>?_,fun i L D a hs=>hs.2.1,fun i L D a hs hl=>?_,fun i L D a hs hl=>?_⟩
 ·by_cases hi:i=0
  ·subst hi;rw[n0];exact ar (Eh H k) fun _ _=>ai n trivial
  ·rw[n1 i hi];exact ar (Fl H us k) fun _ _=>ai n trivial
 ·by_cases hi:i=0
  ·subst hi;rw[n0] at e
   obtain⟨ok,e1,e2⟩:=fJ e
   cases ok<;>cases e2
  ·rw[n1 i hi] at e
   obtain⟨⟨x,ok⟩,e1,e2⟩:=fJ e
   cases ok with
   |false=>cases e2
   |true =>
    cases e2
    exact⟨rfl,hs.1,(aj e1).symm.trans (hs.2.2 hi)⟩
 ·by_cases hi:i=0
  ·subst hi;rw[n0] at e
   obtain⟨ok,e1,e2⟩:=fJ e
   cases ok with
   |false=>cases e2
   |true =>
    cases e2
    exact⟨hs.1,fun q=>(by cases q),fun _=>(aj e1).symm.trans (step L D hs.1 (hs.2.1 rfl))⟩
  ·rw[n1 i hi] at e
   obtain⟨⟨x,ok⟩,e1,e2⟩:=fJ e
   cases ok<;>cases e2
 ·by_cases hi:i=0
  ·subst hi;rw[n0] at e
   obtain⟨ok,e1,e2⟩:=fJ e
   cases ok with
   |true=>cases e2
   |false=>exact((aj e1).symm.trans (step L D hs.1 (hs.2.1 rfl))).symm
  ·rw[n1 i hi] at e
   obtain⟨⟨x,ok⟩,e1,e2⟩:=fJ e
   cases ok with
   |true=>cases e2
   |false=>exact((aj e1).symm.trans (hs.2.2 hi)).symm
 ·by_cases hi:i=0
  ·subst hi;rw[n0] at e
   exact(step L D hs.1 (hs.2.1 rfl)).symm.trans (ag (qR e))
  ·rw[n1 i hi] at e
   exact(hs.2.2 hi).symm.trans (ag (qR e))
 ·obtain⟨rfl,h1,h2⟩:=hs
  exact⟨by simpa using hl,fun _=>by simpa using h2,fun q=>absurd rfl q⟩
 ·obtain⟨rfl,h1,h2⟩:=hs
  rw[show most-(L.length+1)=0 by omega] at h2
  exact h2.symm
end
section
variable {n:Nat}(F:Nat→Prop)(p:Nat)(kn:Int→Option Int)(D:List KV)(w:World)(hv:aD w F p kn D)(hk:OkK kn)(hD:cC n D){bt:Nat}(hs:dd bt w)(nF0:¬F 0)(nFb:¬F bt){most:Nat}(h1:1≤most)(hm:most≤1000000)
include hv hk hD hs nF0 nFb h1 hm
theorem JE {b l:Int}(H:dY b l n)(vb fb sb cap:Nat)(fr:Nat×Nat)(hcap:1≤cap)(bv:w.heap[vb]?=some (.cells #[.pointer (some ⟨p,0,none⟩)] 43 (0,0)))(bf:w.heap[fb]?=some (.cells #[.slice (some ⟨sb,0,none⟩) 1 cap] 93 (0,0)))(bs:w.heap[sb]?=some (.cells #[.int .i64 b,.int .i64 l] 96 fr))(nf:¬F vb∧¬F fb∧¬F sb):
 Calls Tryz.prog 98 #[.int .i64 (most:Int),.func (.func 88) #[] #[.pointer (some ⟨fb,0,none⟩),.pointer (some ⟨vb,0,none⟩)]] w (fm w F p kn (eG w.heap.size) (gK b l most [] kn D)):=by
 refine JC F p kn D hk (enters_of Tryz.func88 (by kernel_rfl) rfl) (Ly (most:=most) H kn _) hm 0 w (fun s0 w0 h0=>Gp 2 (by omega) p most bt vb fb sb cap #[.int .i64 b,.int .i64 l] fr [(b,l)] (by simp) (by simpa using hcap) (fun s hs=>?_) (fun i b' l' h=>?_) kn hk s0 w0 h0) hv hD hs nF0 nFb ?_ ?_ ⟨by show 0<most;omega,fun _=>rfl,fun q=>absurd rfl q⟩
 ·rw[List.mem_singleton.1 hs];exact H
 ·match i,h with
  | 0,h=>cases h;exact⟨rfl,rfl⟩
  |i+1,h=>simp at h
 ·intro x hx
  simp only[AK,List.mem_cons,List.not_mem_nil,or_false] at hx
  rcases hx with rfl|rfl|rfl
  ·exact bv
  ·exact bf
  ·exact bs
 ·intro x hx
  simp only[AK,List.mem_cons,List.not_mem_nil,or_false] at hx
  rcases hx with rfl|rfl|rfl
  ·exact nf.1
  ·exact nf.2.1
  ·exact nf.2.2
theorem Lz {c:Cfg}(R:c.Ok)(H:cB c.pg c.st n)(hn:n≤10000)(k:Int)(vb lb cb:Nat)(bv:w.heap[vb]?=some (.cells #[.pointer (some ⟨p,0,none⟩)] 43 (0,0)))(bl:w.heap[lb]?=some (.cells c.arr 28 (0,0)))(bc:w.heap[cb]?=some (.cells #[.int .i64 k] 3 (0,0)))(nf:¬F vb∧¬F lb∧¬F cb):
 Calls Tryz.prog 98 #[.int .i64 (most:Int),.func (.func 122) #[] #[.pointer (some ⟨vb,0,none⟩),.pointer (some ⟨lb,0,none⟩),.pointer (some ⟨cb,0,none⟩)]] w (fm w F p kn (eG w.heap.size) (jx c.us c.pg c.st k most [] kn D)):=by
 refine JC F p kn D hk (enters_of Tryz.func122 (by kernel_rfl) rfl) (JD (us:=c.us) (k:=k) (most:=most) H kn _) hm 1 w (fun s0 w0 h0=>CX 2 (by omega) R H hn p most bt vb lb cb k kn hk s0 w0 h0) hv hD hs nF0 nFb ?_ ?_ ⟨by show 0<most;omega,fun q=>(by cases q),fun _=>rfl⟩
 ·intro x hx
  simp only[AM,List.mem_cons,List.not_mem_nil,or_false] at hx
  rcases hx with rfl|rfl|rfl
  ·exact bv
  ·exact bl
  ·exact bc
 ·intro x hx
  simp only[AM,List.mem_cons,List.not_mem_nil,or_false] at hx
  rcases hx with rfl|rfl|rfl
  ·exact nf.1
  ·exact nf.2.1
  ·exact nf.2.2
end
end Go.Proofs.YtddmeghbmdfgeaaGreatDoor
