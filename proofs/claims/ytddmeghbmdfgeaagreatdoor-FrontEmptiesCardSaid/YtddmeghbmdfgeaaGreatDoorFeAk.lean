/-
  Blocks that were told, each with its class, in a row: how it lies, and what append makes of it.
-/
import Derived.Test.YtddmeghbmdfgeaaGreatDoorFeAe
import Derived.Laws.OwnMore
import Derived.Laws.AppendOwnNone
import Derived.Maps.AppendAt
import Derived.Shelf.Abstract
import Derived.Test.YtddmeghbmdfgeaaGreatDoorFeAi
import Derived.IntWalk
import Derived.Test.YtddmeghbmdfgeaaGreatDoorFeAh
import Derived.Test.YtddmeghbmdfgeaaGreatDoorFeAj
set_option maxRecDepth 100000
set_option maxHeartbeats 8000000
set_option linter.all false
namespace Go.Proofs.YtddmeghbmdfgeaaGreatDoor
open Go.RowKit Go.Shelf
abbrev Bl:=Int×Int
def blCells (its:List Bl):List Value:=its.flatMap fun p=> [.int .i64 p.1,.int .i64 p.2]
theorem uA (a b:List Bl):blCells (a++b)=blCells a++blCells b:=by simp[blCells]
theorem fK (p:Bl)(ps:List Bl):blCells (p::ps)=.int .i64 p.1:: .int .i64 p.2::blCells ps:=by simp[blCells]
theorem jV:∀ps:List Bl,(blCells ps).length=ps.length * 2
 | []=>rfl
 |p::ps=>by rw[fK,List.length_cons,List.length_cons,jV ps,List.length_cons];omega
theorem rB:∀(ps:List Bl) (i:Nat) (p:Bl),ps[i]?=some p→(blCells ps)[i * 2]?=some (.int .i64 p.1)∧(blCells ps)[i * 2+1]?=some (.int .i64 p.2)
 | [],i,p,h=>by cases h
 |q::ps,0,p,h=>by
  simp at h;subst h
  rw[fK];exact⟨rfl,rfl⟩
 |q::ps,i+1,p,h=>by
  have:=rB ps i p (by simpa using h)
  rw[fK,show(i+1) * 2=i * 2+1+1 by omega]
  exact this
theorem Aw {ps:List Bl} :∀u∈blCells ps,u.oneCell'=true:=by
 intro u hu
 obtain⟨p,_,hp⟩:=List.mem_flatMap.1 hu
 rcases List.mem_cons.1 hp with rfl|hp
 ·rfl
 ·obtain rfl:=List.mem_singleton.1 hp;rfl
theorem yg (ps:List Bl)(i:Nat):blCells (ps.take i)=(blCells ps).take (i * 2):=by
 induction ps generalizing i with
 |nil=>simp[blCells]
 |cons p ps ih =>
  cases i with
  |zero=>simp[blCells]
  |succ i=>rw[List.take_succ_cons,fK,fK,ih,show(i+1) * 2=i * 2+1+1 by omega];rfl
theorem yh (ps:List Bl)(i:Nat):blCells (ps.drop i)=(blCells ps).drop (i * 2):=by
 induction ps generalizing i with
 |nil=>simp[blCells]
 |cons p ps ih =>
  cases i with
  |zero=>simp
  |succ i=>rw[List.drop_succ_cons,fK,ih,show(i+1) * 2=i * 2+1+1 by omega];rfl
theorem Jz:∃i:TypeInfo,Tryz.prog.info? 48=some i∧i.zero=some (.agg #[.int .i64 0,.int .i64 0])∧i.size=2∧i.bytes=16:=by
 have h1:(Tryz.prog.info? 48).map (·.size)=some 2:=by kernel_rfl
 have h2:(Tryz.prog.info? 48).bind (·.zero)=some (.agg #[.int .i64 0,.int .i64 0]):=by kernel_rfl
 have h3:(Tryz.prog.info? 48).map (·.bytes)=some 16:=by kernel_rfl
 cases q:Tryz.prog.info? 48 with
 |none=>rw[q] at h1;simp at h1
 |some i=>rw[q] at h1 h2 h3;exact⟨i,rfl,by simpa using h2,by simpa using h1,by simpa using h3⟩
def BlR (base:Nat)(w:World)(v:Value)(its:List Bl):Prop:=w.ownsRow base 48 2 v its.length (blCells its)
theorem BlR.nil (base:Nat)(w:World):BlR base w (.slice none 0 0) []:=World.ownsRow_nil w base _ 2
theorem BlR.more {base:Nat}{w w':World}{v:Value}{its:List Bl}(h:BlR base w v its)(m:ae w w'):BlR base w' v its:=o9 h m
theorem BlR.low {base base':Nat}{w:World}{v:Value}{its:List Bl}(h:BlR base w v its)(hb:base'≤base):BlR base' w v its:=qS h hb
theorem BlR.keep {base:Nat}{w w':World}{v:Value}{its:List Bl}(h:BlR base w v its){S:Nat→Prop}(t:Turned S w w')(hs:∀k,S k→∃cs T fr,w.heap[k]?=some (.cells cs T fr)∧T≠48):BlR base w' v its:=by
 refine⟨h.1,?_⟩
 rcases h.2 with q|⟨g,cap,cur,h1,h2,h3,h4⟩
 ·exact .inl q
 ·refine .inr ⟨g,cap,cur,h1,h2,?_,h4⟩
  rw[t.block g (ac h3) (fun q=>by
   obtain⟨cs,T,fr,e,hne⟩:=hs g q
   rw[h3] at e;cases e;exact hne rfl)]
  exact h3
theorem BlR.one {base:Nat}{w:World}{v:Value}{its:List Bl}(h:BlR base w v its):v.oneCell'=true:=by
 rcases h.2 with⟨rfl,_⟩|⟨g,cap,cur,rfl,_⟩<;>rfl
theorem BlR.reads {base:Nat}{w:World}{v:Value}{its:List Bl}(h:BlR base w v its):
 ∃a cap,v=.slice a its.length cap∧its.length≤cap∧(a=none→cap=0)∧∀g,a=some g→g=⟨g.block,0,none⟩∧∀j u,(blCells its)[j]?=some u→w.cell? ⟨g.block,j,none⟩=some u:=by
 rcases h.2 with⟨rfl,h0⟩|⟨g,cap,cur,rfl,hb,hg,hn,_,hs,ht⟩
 ·exact⟨none,0,by rw[h0],by omega,fun _=>rfl,fun g q=>by cases q⟩
 ·refine⟨_,cap,rfl,hn,(fun q=>by cases q),fun q hq=>?_⟩
  cases hq
  refine⟨rfl,fun j u hj=>?_⟩
  have hj':j<its.length * 2:=by have:=(List.getElem?_eq_some_iff.1 hj).1;rw[jV] at this;exact this
  have e:cur.toList[j]?=some u:=by
   have h1:(cur.toList.take (its.length * 2))[j]?=some u:=by rw[ht];exact hj
   rw[List.getElem?_take,if_pos (by omega)] at h1
   exact h1
  simp[World.cell?,hg]
  simpa using e
theorem BlR.at {base:Nat}{w:World}{v:Value}{its:List Bl}(h:BlR base w v its):∃a cap,v=.slice a its.length cap∧its.length≤cap∧(a=none→cap=0)∧∀k p,its[k]?=some p→∃g,a=some ⟨g,0,none⟩∧w.cell? ⟨g,k * 2,none⟩=some (.int .i64 p.1)∧w.cell? ⟨g,k * 2+1,none⟩=some (.int .i64 p.2):=by
 obtain⟨a,cap,rfl,hc,h0,hr⟩:=h.reads
 refine⟨a,cap,rfl,hc,h0,fun k p hk=>?_⟩
 have hlt:=(List.getElem?_eq_some_iff.1 hk).1
 cases a with
 |none=>have:=h0 rfl;omega
 |some g =>
  obtain⟨e,hcell⟩:=hr g rfl
  obtain⟨q1,q2⟩:=rB its k p hk
  exact⟨g.block,by rw[←e],hcell _ _ q1,hcell _ _ q2⟩
def Ay (w:World)(u:Value)(news:List Bl):Prop:=(u=.slice none 0 0∧news= [])∨∃p c,u=.slice (some p) news.length c∧∀j x,(blCells news)[j]?=some x→w.cell? (p.add j)=some x
theorem yi {o:Oper}{a:Act}{K:Act→World→Prop}{Q:Exit→Act→World→Prop}{w:World}{base:Nat}{v u:Value}{its news:List Bl}(s x:Operand)
 (ho:o.op=.call { callee:= .builtin .append,args:= #[s,x],argTypes:= #[35,35] })
 (hs:a.eval s=v) (hv:BlR base w v its) (hb:base≤w.heap.size) (hx:a.eval x=u) (hu:Ay w u news) (hl:its.length+news.length≤1000000)
 (h:∀v' w',BlR base w' v' (its++news)→Turned (fun k=>v.ownBlock=some k) w w'→(∀k,v'.ownBlock=some k→v.ownBlock=some k∨k=w.heap.size)→K (a.put o.dst v') w'):o.wp Tryz.prog a w K Q:=by
 obtain⟨i,i1,i2,i3,i4⟩:=Jz
 rcases hu with⟨rfl,rfl⟩|⟨p,c,rfl,hc⟩
 ·have hrun:=run_append_owned_none (P:=Tryz.prog) (w:=w) base 35 o.type 48 i 2 Tryz.underlying35 i1 v its.length _ hv
  unfold Oper.wp
  simp[execOp,ho,resolve,invoke,builtin,hs,hx,hrun,Result.andThen]
  exact h _ _ (by simpa using hv) (Turned.refl _ _) (fun k q=> .inl q)
 ·obtain⟨v',w',hr,h2,h3,_,h5⟩:=run_append_own_at (P:=Tryz.prog) w base 35 o.type 48 i _ 2 16 Tryz.underlying35 i1 i2 i3 i4 rfl (by omega) v its.length _ hv p news.length c (blCells news) (jV news) hc Aw (by simp only[maxLen];omega) (by omega) hb
  unfold Oper.wp execOp
  simp only[ho,resolve,invoke,builtin,Sem.run_bind,Sem.run_pure,Result.andThen_ok,List.map_toArray,List.map_cons,List.map_nil,hs,hx,hr]
  refine h v' w' ?_ ⟨h3.os,h3.tape,h3.output,h3.size,fun k hk hne=>h3.block k hk (fun e=>hne e.symm)⟩ (fun k q=>?_)
  ·unfold BlR
   rw[List.length_append,uA]
   exact h2
  ·rcases h5 with h5|h5
   ·exact .inl (by rw[←h5];exact q)
   ·rw[h5] at q;cases q;exact .inr rfl
section
variable {ops:Array Oper}{C:World→Prop}{o':Oper}{a:Act}
theorem vg {x y:Operand}{g n cap m:Nat}(hw:Region.wanted o' (yielded ops a.tmps)=true)(ho:o'.op=.slice 35 x none (some y) none)(hx:a.eval x=.slice (some ⟨g,0,none⟩) n cap)(hy:a.eval y=.int .i64 (m:Int))(hm:m≤cap):bV Tryz.prog ops C o' (.slice (some ⟨g,0,none⟩) m cap) a:=by
 have d1:decide (m≤cap)=true:=by simp[hm]
 refine .inl ⟨hw,fun W hW=>?_⟩
 unfold execOp
 generalize a.eval=ρ at hx hy⊢
 simp only[ho,hx,hy]
 go_simp
def hiB (g m cap:Nat):Addr:=if cap=m+1 then⟨g,0,none⟩ else⟨g,(m+1) * 2,none⟩
theorem vh {x y:Operand}{g n cap m:Nat}(hw:Region.wanted o' (yielded ops a.tmps)=true)(ho:o'.op=.slice 35 x (some y) none none)(hx:a.eval x=.slice (some ⟨g,0,none⟩) n cap)(hy:a.eval y=.int .i64 ((m:Int)+1))(hm:m<n)(hn:n≤cap):bV Tryz.prog ops C o' (.slice (some (hiB g m cap)) (n-(m+1)) (cap-(m+1))) a:=by
 refine .inl ⟨hw,fun W hW=>?_⟩
 unfold execOp
 generalize a.eval=ρ at hx hy⊢
 simp only[ho,hx,hy]
 go_simp
 rw[if_pos ⟨by omega,by omega⟩]
 unfold hiB
 split<;>rfl
theorem vi {x y:Operand}{g n cap m:Nat}(hw:Region.wanted o' (yielded ops a.tmps)=true)(ho:o'.op=.indexAddr 35 x y)(hx:a.eval x=.slice (some ⟨g,0,none⟩) n cap)(hy:a.eval y=.int .i64 (m:Int))(hm:m<n):bV Tryz.prog ops C o' (.pointer (some ⟨g,m * 2,none⟩)) a:=by
 have d1:decide (m<n)=true:=by simp[hm]
 refine .inl ⟨hw,fun W hW=>?_⟩
 unfold execOp
 generalize a.eval=ρ at hx hy⊢
 simp only[ho,hx,hy]
 go_simp
end
theorem Lv {o:Oper}{a:Act}{w:World}{K:Act→World→Prop}{Q:Exit→Act→World→Prop}(ho:o.op=.buildSlice 35 0 #[])(h:K (a.put o.dst (.slice (some ⟨w.heap.size,0,none⟩) 0 0)) (w.alloc (.cells #[] 48))):Oper.wp Tryz.prog o a w K Q:=by
 unfold Oper.wp Oper.upon execOp
 simp only[ho]
 generalize a.eval=ρ
 go_simp
 exact h
theorem CX {W:World}{g cv j:Nat}{its:List Bl}(hc:∀i x,(blCells its)[i]?=some x→W.cell? ⟨g,i,none⟩=some x)(hj:j≤its.length):Ay W (.slice (some ⟨g,0,none⟩) j cv) (its.take j):=by
 have hl:(its.take j).length=j:=by simp;omega
 refine .inr ⟨⟨g,0,none⟩,cv,by rw[hl],fun i x hi=>?_⟩
 rw[ja,Nat.zero_add]
 refine hc i x ?_
 rw[yg,List.getElem?_take] at hi
 split at hi
 ·exact hi
 ·cases hi
theorem CY {W:World}{g cv m c:Nat}{its:List Bl}(hc:∀i x,(blCells its)[i]?=some x→W.cell? ⟨g,i,none⟩=some x)(hm:m<its.length)(hn:its.length≤cv):Ay W (.slice (some (hiB g m cv)) (its.length-(m+1)) c) (its.drop (m+1)):=by
 have hl:(its.drop (m+1)).length=its.length-(m+1):=by simp
 refine .inr ⟨hiB g m cv,c,by rw[hl],fun i x hi=>?_⟩
 have hi':=(List.getElem?_eq_some_iff.1 hi).1
 rw[jV,hl] at hi'
 have e:hiB g m cv=⟨g,(m+1) * 2,none⟩:=by unfold hiB;rw[if_neg (by omega)]
 rw[e,ja]
 refine hc _ x ?_
 rw[yh,List.getElem?_drop] at hi
 exact hi
theorem AG.skipO {m:Nat}{a:Act}{L:List (Nat×Value)}(h:AG m a L)(v:Value):AG m (a.put none v) L:=h
theorem JA (w:World):BlR w.heap.size (w.alloc (.cells #[] 48)) (.slice (some ⟨w.heap.size,0,none⟩) 0 0) [] :=
 ⟨rfl,.inr ⟨_,0,_,rfl,Nat.le_refl _,bh w _,Nat.le_refl _,by simp[maxLen],rfl,rfl⟩⟩
theorem BlR.own {base:Nat}{w:World}{v:Value}{its:List Bl}(h:BlR base w v its):∀k,v.ownBlock=some k→base≤k:=by
 intro k q
 rcases h.2 with⟨rfl,_⟩|⟨g,cap,cur,rfl,hb,_⟩
 ·cases q
 ·cases q;exact hb
theorem BlR.lt {base:Nat}{w:World}{v:Value}{its:List Bl}(h:BlR base w v its):∀k,v.ownBlock=some k→k<w.heap.size:=by
 intro k q
 rcases h.2 with⟨rfl,_⟩|⟨g,cap,cur,rfl,_,hb,_⟩
 ·cases q
 ·cases q;exact ac hb
theorem n6 {w w':World}{base:Nat}{v:Value}{its:List Bl}(h:BlR base w v its){S:Nat→Prop}(t:Turned S w w')(hs:∀k,v.ownBlock=some k→¬S k):BlR base w' v its:=by
 refine⟨h.1,?_⟩
 rcases h.2 with q|⟨g,cap,cur,rfl,h2,h3,h4⟩
 ·exact .inl q
 ·exact .inr ⟨g,cap,cur,rfl,h2,(t.block g (ac h3) (hs g rfl)).trans h3,h4⟩
theorem rC {w w1 w2:World}{S T:Nat→Prop}(m:Turned S w w1)(t:Turned T w1 w2)(hs:∀k,T k→w.heap.size≤k):Turned S w w2 :=
 ⟨t.os.trans m.os,t.tape.trans m.tape,t.output.trans m.output,Nat.le_trans m.size t.size,fun k hk q=>by
  rw[t.block k (Nat.lt_of_lt_of_le hk m.size) (fun z=>by have:=hs k z;omega)];exact m.block k hk q⟩
theorem rM {P:Program}(w:World)(s off:Nat)(ty:TypeId)(v0 v1:Value)(d:TypeDesc)(h0:w.cell? ⟨s,off,none⟩=some v0)(h1:w.cell? ⟨s,off+1,none⟩=some v1)
 (hu:P.underlying ty=some d) (hd:(match d with| .struct _| .array _ _=>true|_=>false)=true) (hi:(P.info? ty).map (·.size)=some 2):
 (loadVar ty ⟨s,off,none⟩).run P w=.ok (.agg #[v0,v1]) w:=by
 have hl:(loadCells ⟨s,off,none⟩ [v0,v1].length).run P w=.ok [v0,v1].toArray w :=
  run_loadCells_list (P:=P) w ⟨s,off,none⟩ [v0,v1] (fun j v hv=>by
   rw[ja]
   match j,hv with
   | 0,hv=>cases hv;exact h0
   | 1,hv=>cases hv;exact h1
   |j+2,hv=>simp at hv)
 cases hq:P.info? ty with
 |none=>simp[hq] at hi
 |some i =>
  have hs:i.size=2:=by simpa [hq] using hi
  have hagg:(isAgg ty).run P w=.ok true w:=by
   unfold isAgg
   rw[Sem.run_bind,run_underlying hu w]
   cases d<;>simp_all
  simp only[List.length_cons,List.length_nil,Nat.reduceAdd] at hl
  simp[loadVar,Sem.run_bind,hagg,sizeOf,typeInfo,hq,hs,hl]
theorem Az {P:Program}{ops:Array Oper}{C:World→Prop}{o:Oper}{a:Act}(hw:Region.wanted o (yielded ops a.tmps)=true)(ty:TypeId)(x:Operand)(ho:o.op=.load ty x)
 (s off:Nat) (hx:a.eval x=.pointer (some ⟨s,off,none⟩)) (v0 v1:Value) (d:TypeDesc) (hg:∀W,C W→W.cell? ⟨s,off,none⟩=some v0∧W.cell? ⟨s,off+1,none⟩=some v1)
 (hu:P.underlying ty=some d) (hd:(match d with| .struct _| .array _ _=>true|_=>false)=true) (hi:(P.info? ty).map (·.size)=some 2):bV P ops C o (.agg #[v0,v1]) a:=by
 refine .inl ⟨hw,fun W hW=>?_⟩
 obtain⟨h0,h1⟩:=hg W hW
 unfold execOp
 simp only[ho,hx,Instr.loadAt,Instr.sureAddr,Sem.run_bind,Sem.run_pure,Result.andThen_ok,rM W s off ty v0 v1 d h0 h1 hu hd hi]
theorem AA {w w1 w2:World}{S:Nat→Prop}(m:ae w w1)(t:Turned S w1 w2)(hs:∀k,S k→w.heap.size≤k):ae w w2 :=
 ⟨t.os.trans m.os,t.tape.trans m.tape,t.output.trans m.output,Nat.le_trans m.size t.size,fun k hk _=>by
  rw[t.block k (Nat.lt_of_lt_of_le hk m.size) (fun q=>by have:=hs k q;omega)];exact Turned.block m k hk (fun q=>q)⟩
theorem CZ (x:Int):0≤IntKind.u64.wrap x:=sU x
def wkV (x:Int):Int:=IntKind.u64.wrap x % 2
theorem Oe (x:Int):wkV x=0∨wkV x=1:=by unfold wkV;omega
theorem Pz (x:Int):wrap64 ((IntKind.u64.wrap x).tmod 2)=wkV x:=by
 rw[Int.tmod_eq_emod_of_nonneg (CZ x)]
 unfold wrap64 wkV;omega
theorem Gl (k x u c m:Int)(w:World):Calls Tryz.prog 38 #[.agg #[.int .i64 k,.int .i64 x,.int .i64 u,.int .i64 c,.int .i64 m]] w (aP w (.int .i64 (wkV x))):=by
 obtain⟨w1,e1,hl1,m1,s1⟩:=en1 w (.cells #[.int .i64 k,.int .i64 x,.int .i64 u,.int .i64 c,.int .i64 m] 77)
 have c1:w1.cell? ⟨w.heap.size,1,none⟩=some (.int .i64 x):=by simp[World.cell?,hl1]
 have M1:=hQQ m1
 have hw:=hQQ (Pz x)
 clear hl1 m1
 go_enter Tryz.func38,Tryz.ntmps38
 go_wp2_with fail
 rw[hw.o]
 refine bodyPost_ret (v:=.int .i64 (wkV x)) (by simp[results,Tryz.results38,go_sem]) rfl ⟨rfl,M1.o⟩
def yj (b:Nat)(w:World)(its:List Bl)(val:Value→Value)(e:Ending)(w':World):Prop:=∃v,e=.returned (val v)∧BlR b w' v its∧ae w w'
def nthI (k:Int)(n:Nat):Nat:=(IntKind.u64.wrap k % (n:Int)).toNat
theorem Lw (k:Int){n:Nat}(h:0<n):nthI k n<n:=by
 have h1:=Int.emod_nonneg (IntKind.u64.wrap k) (show(n:Int)≠0 by omega)
 have h2:=Int.emod_lt_of_pos (IntKind.u64.wrap k) (show 0<(n:Int) by omega)
 unfold nthI;omega
theorem Og (k:Int){n:Nat}(h:0<n)(h':n≤1000000):IntKind.i64.wrap ((IntKind.u64.wrap k).tmod (n:Int))=(nthI k n:Int):=by
 have h1:=Int.emod_nonneg (IntKind.u64.wrap k) (show(n:Int)≠0 by omega)
 have h2:=Int.emod_lt_of_pos (IntKind.u64.wrap k) (show 0<(n:Int) by omega)
 rw[Int.tmod_eq_emod_of_nonneg (CZ k),IntWalk.i64_in _ (by omega)]
 unfold nthI;omega
theorem Oh (v:Value)(k:Int)(w:World)(h:BlR 0 w v []):Calls Tryz.prog 39 #[v,.int .i64 k] w (yj 0 w [] (fun v=> .tuple #[.agg #[.int .i64 0,.int .i64 0],v,.bool false])):=by
 obtain⟨w1,e1,hl1,m1,s1⟩:=en1 w (.cells #[.int .i64 0,.int .i64 0] 48)
 have L1:=hQQ hl1
 have M1:=hQQ m1
 have HP:=hQQ (h.more m1)
 have HT:=h.lt
 obtain⟨av,cv,rfl,_,_,_⟩:=h.at
 simp only[List.length_nil] at HP HT⊢
 have FIN:Hq (∀W,ae w1 W→yj 0 w [] (fun v=> .tuple #[.agg #[.int .i64 0,.int .i64 0],v,.bool false]) (.returned (.tuple #[.agg #[.int .i64 0,.int .i64 0],.slice av 0 cv,.bool false])) (W.setRow w.heap.size #[.int .i64 0,.int .i64 0])):=hQQ fun W hW =>
  ⟨_,rfl,n6 (base:=0) (HP.o.more hW) (S:=fun k=>k=w.heap.size) (Turned.setRow (Turned.refl _ W) _ _ (fun _=>rfl)) (fun k q z=>by
    subst z
    have:=HT _ q
    omega),(M1.o.trans hW).setRow _ _ (by omega)⟩
 clear hl1 m1 h s1 HT
 go_enter Tryz.func39,Tryz.ntmps39
 go_wp2_with (refine wpList_store_row rfl 48 _ _ rfl _ _ rfl rfl 48 _ L1.o (by kernel_rfl) rfl (by simp[Value.oneCell']) ?_)
 refine bodyPost_ret (v:=.tuple #[.agg #[.int .i64 0,.int .i64 0],.slice av 0 cv,.bool false]) (sd Tryz.results39 _ _ _ 48 _ (0,0) _ rfl (setRow_heap _ _ _ _ _ _ L1.o) Tryz.underlying48 rfl (by kernel_rfl)) rfl (FIN.o _ (ae.refl _))
theorem Lx (v:Value)(its:List Bl)(k x y:Int)(w:World)(h:BlR 0 w v its)(hl:its.length≤100000)(hm:its[nthI k its.length]?=some (x,y)):
 Calls Tryz.prog 39 #[v,.int .i64 k] w (yj w.heap.size w (its.take (nthI k its.length)++its.drop (nthI k its.length+1)) (fun v=> .tuple #[.agg #[.int .i64 x,.int .i64 y],v,.bool true])):=by
 obtain⟨wr,e1,hl1,m1,s1⟩:=en1 w (.cells #[.int .i64 0,.int .i64 0] 48)
 have BR:=hQQ hl1
 have M1:=hQQ m1
 have HP:=hQQ (h.more m1)
 have HT:=h.lt
 obtain⟨av,cv,rfl,hnc,_,hr⟩:=(h.more m1).at
 obtain⟨m,hmm⟩:∃m,nthI k its.length=m:=⟨_,rfl⟩
 obtain⟨its',hits'⟩:∃its',its.take m++its.drop (m+1)=its':=⟨_,rfl⟩
 rw[hmm] at hm⊢
 rw[hits']
 have hmn:m<its.length:=(List.getElem?_eq_some_iff.1 hm).1
 have hrem:=Og k (n:=its.length) (by omega) (by omega)
 rw[hmm] at hrem
 obtain⟨g,rfl,cc1,cc2⟩:=hr m _ hm
 simp only at cc1 cc2
 have hcv:g<w.heap.size:=HT g rfl
 have CA:Hq (∀i x,(blCells its)[i]?=some x→wr.cell? ⟨g,i,none⟩=some x):=hQQ (by
  obtain⟨a,cap,hv,_,_,hc⟩:=HP.o.reads
  cases hv
  intro i x hi
  exact(hc _ rfl).2 i x hi)
 have EI:=hQQ hits'
 have LL:=hQQ hl
 obtain⟨n,hn⟩:∃n,its.length=n:=⟨_,rfl⟩
 have HN:=hQQ hn
 rw[hn] at hmn hnc hrem
 rw[hn]
 have hmc:m≤cv:=by omega
 have HG:=hQQ hcv
 have S1:=hQQ s1
 have KW:Hq (∀W,Turned (fun b=>b=w.heap.size) wr W→∀i x,wr.cell? ⟨g,i,none⟩=some x→W.cell? ⟨g,i,none⟩=some x):=hQQ fun W hW i x hi=>by
  rw[World.cell?_of_block (w:=wr) (Turned.block hW g (by have:=S1.o;have:=HG.o;omega) (by have:=HG.o;omega))]
  exact hi
 have C1:=hQQ cc1
 have C2:=hQQ cc2
 have KX:Hq (∀W,Turned (fun b=>b=w.heap.size) wr W→W.cell? ⟨g,m * 2,none⟩=some (.int .i64 x)∧W.cell? ⟨g,m * 2+1,none⟩=some (.int .i64 y)):=hQQ fun W hW=>⟨KW.o W hW _ _ C1.o,KW.o W hW _ _ C2.o⟩
 have SL:Hq (∀W,Turned (fun b=>b=w.heap.size) wr W→Ay W (.slice (some ⟨g,0,none⟩) m cv) (its.take m)):=hQQ fun W hW=>CX (fun i x hi=>KW.o W hW _ _ (CA.o i x hi)) (by have:=HN.o;omega)
 have SH:Hq (∀W,Turned (fun b=>b=w.heap.size) wr W→Ay W (.slice (some (hiB g m cv)) (n-(m+1)) (cv-(m+1))) (its.drop (m+1))):=hQQ fun W hW=>by
  have:=CY (c:=cv-(m+1)) (fun i x hi=>KW.o W hW _ _ (CA.o i x hi)) (m:=m) (cv:=cv) (by have:=HN.o;omega) (by have:=HN.o;omega)
  rwa [HN.o] at this
 have FN:Hq (∀v9 wa,BlR w.heap.size wa v9 its'→Turned (fun b=>b=w.heap.size) wr wa→yj w.heap.size w its' (fun v=> .tuple #[.agg #[.int .i64 x,.int .i64 y],v,.bool true]) (.returned (.tuple #[.agg #[.int .i64 x,.int .i64 y],v9,.bool true])) wa):=hQQ fun v9 wa ir t=>⟨v9,rfl,ir,AA M1.o t (fun k q=>by omega)⟩
 have LW:Hq (w.heap.size≤wr.heap.size):=hQQ (by omega)
 have QW:Hq (IntKind.i64.wrap ((m:Int)+1)=(m:Int)+1):=hQQ (IntWalk.i64_in _ (by have:=LL.o;have:=HN.o;omega))
 have un:IntKind.u64.wrap (n:Int)=n:=IntWalk.u64_in _ (by omega)
 have n0:((n:Int)==0)=false:=by simp;omega
 have n1:decide ((n:Int)=0)=false:=by simp;omega
 have n2:(n:Int)≠0:=by omega
 clear hl1 m1 h s1 hr hl hn HP hits' hmm hm cc1 cc2 HT hcv
 go_enter Tryz.func39,Tryz.ntmps39
 go_wp2_with fail
 refine aO (fun W=>Turned (fun b=>b=w.heap.size) wr W) (by kernel_rfl) ?_
 change dh _ _ _ _ _ _ _ _ (wr.drewN 1)
 have MR:Hq (Turned (fun b=>b=w.heap.size) wr (wr.drewN 1)):=hQQ ((Turned.refl _ wr).drewN 1)
 have BQ:Hq ((wr.drewN 1).heap[w.heap.size]?=some (.cells #[.int .i64 0,.int .i64 0] 48 (0,0))):=hQQ BR.o
 generalize wr.drewN 1=wq at MR BQ⊢
 generalize hA:Act.mk _ _=A
 have HF:AG 34 A [(0,.slice (some ⟨g,0,none⟩) n cv),(4,.pointer (some ⟨w.heap.size,0,none⟩)),(7,.int .i64 (m:Int))]:=by
  rw[←hA];try simp only[pts,List.foldl]
  refine⟨⟨Nat.le_of_ble_eq_true rfl,rfl⟩,?_⟩
  intro z hz;simp only[List.mem_cons,List.not_mem_nil,or_false] at hz;rcases hz with rfl|rfl|rfl<;>rfl
 refine bJ (fun a W=>a.eval (.tmp 4)=.pointer (some ⟨w.heap.size,0,none⟩)∧a.eval (.tmp 6)=.bool true∧a.defers= []∧∃v,a.eval (.tmp 5)=v∧BlR w.heap.size W v its'∧W.heap[w.heap.size]?=some (.cells #[.int .i64 x,.int .i64 y] 48 (0,0))∧Turned (fun b=>b=w.heap.size) wr W) (fun _=>False) [] (fun a W hd h=>h.elim) (fun _ _ _ _ _ h=>h) ?_ ?_
 ·skip
  rintro a9 wa ⟨hp,hs,hd,v9,hx,ir,hg,MS⟩
  have FIN:=hQQ (FN.o v9 wa ir MS)
  have HG:=hQQ hg
  clear HF hA MR ir MS hg
  obtain⟨ts,ds⟩:=a9
  simp only[Act.eval] at hs hx hp
  obtain rfl:ds= []:=hd
  go_wp2_with fail
  refine bodyPost_ret (v:=.tuple #[.agg #[.int .i64 x,.int .i64 y],v9,.bool true]) ((sd Tryz.results39 _ _ _ 48 _ (0,0) _ hp HG.o Tryz.underlying48 rfl (by kernel_rfl)).trans (by rw[hx,hs])) rfl FIN.o
 intro QQ FINE FIND FINQ
 clear hA
 refine tqM 0 20 0 rfl (.inl rfl) rfl (by kernel_rfl) FINQ MR.o HF fun A β1 HF=>?_
 refine tqM 1 21 3 rfl (.inl rfl) rfl (by kernel_rfl) FINQ MR.o HF fun A β2 HF=>?_
 refine tqC 2 22 (.pointer (some ⟨g,m * 2,none⟩)) (by kernel_rfl) FINQ MR.o HF (by exact vi (ab rfl) rfl (HF.get 1 rfl) (HF.get 0 rfl) hmn) fun A β3 HF=>?_
 refine tqC 3 23 (.agg #[.int .i64 x,.int .i64 y]) (by kernel_rfl) FINQ MR.o HF (by exact Az (ab rfl) 48 _ rfl g (m * 2) (HF.get 0 rfl) (.int .i64 x) (.int .i64 y) _ (fun W hW=>KX.o W hW) Tryz.underlying48 rfl (by kernel_rfl)) fun A β4 HF=>?_
 refine tqM 5 25 4 rfl (.inl rfl) rfl (by kernel_rfl) FINQ MR.o HF fun A β5 HF=>?_
 refine tqM 6 26 7 rfl (.inl rfl) rfl (by kernel_rfl) FINQ MR.o HF fun A β6 HF=>?_
 refine tqC 7 27 (.slice (some ⟨g,0,none⟩) m cv) (by kernel_rfl) FINQ MR.o HF (by exact vg (ab rfl) rfl (HF.get 1 rfl) (HF.get 0 rfl) hmc) fun A β7 HF=>?_
 refine tqM 9 29 7 rfl (.inl rfl) rfl (by kernel_rfl) FINQ MR.o HF fun A β8 HF=>?_
 refine tqM 10 30 10 rfl (.inl rfl) rfl (by kernel_rfl) FINQ MR.o HF fun A β9 HF=>?_
 refine tqC 11 31 (.int .i64 ((m:Int)+1)) (by kernel_rfl) FINQ MR.o HF (by exact eV (ab rfl) rfl (HF.get 0 rfl) rfl _ QW.o) fun A β10 HF=>?_
 refine tqC 12 32 (.slice (some (hiB g m cv)) (n-(m+1)) (cv-(m+1))) (by kernel_rfl) FINQ MR.o HF (by exact vh (ab rfl) rfl (HF.get 2 rfl) (HF.get 0 rfl) hmn hnc) fun A β11 HF=>?_
 refine tqO 4 24 (by kernel_rfl) HF fun K hK=>?_
 refine Lv rfl ?_
 have M1:Hq (Turned (fun b=>b=w.heap.size) wr (wq.alloc (.cells #[] 48))):=hQQ (MR.o.alloc _)
 have Z1:=hQQ (JA wq)
 have B1:=hQQ (((ae.refl wq).alloc (.cells #[] 48)).block BQ.o)
 refine hK _ _ M1.o fun A β12 HF=>?_
 clear hK K
 refine bF (i:=8) (some 28) (by kernel_rfl) rfl (ab rfl) rfl (fun K hK=>?_)
 refine yi _ _ rfl (HF.get 0 rfl) Z1.o (by simp) (HF.get 5 rfl) (SL.o _ M1.o) (by have:=LL.o;simp;omega) ?_
 intro v2 w2 r2 t2 k2
 obtain⟨a2,c2,hv2,_⟩:=r2.reads
 subst hv2
 have M2:Hq (Turned (fun b=>b=w.heap.size) wr w2):=hQQ (rC M1.o t2 (fun k q=>by have:=Z1.o.own k q;have:=MR.o.size;omega))
 have R2:Hq (BlR wq.heap.size w2 (.slice a2 ([]++its.take m).length c2) (its.take m)):=hQQ r2
 have G2:Hq (wq.heap.size≤w2.heap.size):=hQQ (by have:=t2.size;simp at this;omega)
 have B2:Hq (w2.heap[w.heap.size]?=some (.cells #[.int .i64 0,.int .i64 0] 48 (0,0))):=hQQ ((t2.block _ (ac B1.o) (fun q=>by have:=Z1.o.own _ q;have:=ac BQ.o;omega)).trans B1.o)
 refine hK _ _ M2.o ?_
 clear hK K r2 t2 k2
 replace HF:=HF.put 28 (.slice a2 ([]++its.take m).length c2) (by decide) rfl
 generalize β13:Act.put _ _ _=A at HF⊢
 refine bF (i:=13) (some 33) (by kernel_rfl) rfl (ab rfl) rfl (fun K hK=>?_)
 refine yi _ _ rfl (HF.get 0 rfl) R2.o (G2.o) (HF.get 2 rfl) (SH.o _ M2.o) (by have:=LL.o;simp;omega) ?_
 intro v3 w3 r3 t3 k3
 obtain⟨a3,c3,hv3,_⟩:=r3.reads
 subst hv3
 have M3:Hq (Turned (fun b=>b=w.heap.size) wr w3):=hQQ (rC M2.o t3 (fun k q=>by have:=R2.o.own k q;have:=MR.o.size;omega))
 have R3:Hq (BlR wq.heap.size w3 (.slice a3 (its.take m++its.drop (m+1)).length c3) its'):=hQQ (by rw[←EI.o];exact r3)
 have B3:Hq (w3.heap[w.heap.size]?=some (.cells #[.int .i64 0,.int .i64 0] 48 (0,0))):=hQQ ((t3.block _ (ac B2.o) (fun q=>by have:=R2.o.own _ q;have:=ac BQ.o;omega)).trans B2.o)
 have N3:Hq (∀k,Value.ownBlock (.slice a3 (its.take m++its.drop (m+1)).length c3)=some k→wq.heap.size≤k):=hQQ fun k q=>R3.o.own k q
 refine hK _ _ M3.o ?_
 clear hK K r3 t3 k3
 replace HF:=HF.put 33 (.slice a3 (its.take m++its.drop (m+1)).length c3) (by decide) rfl
 generalize β14:Act.put _ _ _=A at HF⊢
 obtain⟨n3,hn3⟩:∃n3,(its.take m++its.drop (m+1)).length=n3:=⟨_,rfl⟩
 rw[hn3] at HF R3 N3
 clear hn3
 have M4:Hq (Turned (fun b=>b=w.heap.size) wr (w3.setRow (w.heap.size) #[.int .i64 x,.int .i64 y])):=hQQ (Turned.setRow M3.o _ _ (fun _=>rfl))
 have tS:Turned (fun k=>k=w.heap.size) w3 (w3.setRow (w.heap.size) #[.int .i64 x,.int .i64 y]):=Turned.setRow (Turned.refl _ w3) _ _ (fun _=>rfl)
 have R4:Hq (BlR wq.heap.size (w3.setRow (w.heap.size) #[.int .i64 x,.int .i64 y]) (.slice a3 n3 c3) its'):=hQQ (n6 R3.o tS (fun k q z=>by have:=N3.o k q;have:=ac BQ.o;omega))
 refine bF (i:=14) none (by kernel_rfl) rfl (ab rfl) rfl (fun K hK=>?_)
 refine wp_store_row 48 _ _ rfl (w.heap.size) #[.int .i64 x,.int .i64 y] (HF.get 15 rfl) (HF.get 10 rfl) 48 _ B3.o (by kernel_rfl) rfl (by simp[Value.oneCell']) ?_
 refine hK _ _ M4.o ?_
 clear hK K
 replace HF:=HF.skipO undef
 generalize hBN:Act.put _ _ _=A at HF⊢
 refine tqM 15 5 0 rfl (.inr rfl) rfl (by kernel_rfl) FINQ M4.o HF fun A β15 HF=>?_
 refine tqC 16 6 (.bool true) (by kernel_rfl) FINQ M4.o HF (by exact cM (ab rfl) _ rfl rfl) fun A β16 HF=>?_
 exact bR (by kernel_rfl) (FINE _ _ ⟨HF.get 17 rfl,HF.get 0 rfl,HF.1.2,_,HF.get 1 rfl,R4.o.low (Nat.le_trans LW.o MR.o.size),setRow_heap _ _ _ _ _ _ B3.o,M4.o⟩)
open Go.ChangeShapes Go.WideShapes Go.ChangeAt Go.Joins Go.Deep
abbrev gi:=Int×Int×Int×Int×Int
def Oi (l:List gi):Prop:=∀i∈l,W64 i.1∧W64 i.2.1∧W64 i.2.2.1∧W64 i.2.2.2.1∧W64 i.2.2.2.2
def gj (w:World)(a:Option Addr)(l:List gi):Prop :=
 l= []∨∃s o,a=some ⟨s,o,none⟩∧s<w.heap.size∧∀i t,l[i]?=some t→w.cell? ⟨s,o+i * 5,none⟩=some (.int .i64 t.1)∧w.cell? ⟨s,o+i * 5+1,none⟩=some (.int .i64 t.2.1)∧w.cell? ⟨s,o+i * 5+2,none⟩=some (.int .i64 t.2.2.1)∧w.cell? ⟨s,o+i * 5+3,none⟩=some (.int .i64 t.2.2.2.1)∧w.cell? ⟨s,o+i * 5+4,none⟩=some (.int .i64 t.2.2.2.2)
theorem gj.keep {w w':World}{a:Option Addr}{l:List gi}(h:gj w a l){S:Nat→Prop}(t:Turned S w w')(hs:l≠ []→∀k,iq a k→¬S k):gj w' a l:=by
 rcases h with h|⟨s,o,rfl,hl,hc⟩
 ·exact .inl h
 ·by_cases e:l= []
  ·exact .inl e
  ·exact .inr ⟨s,o,rfl,Nat.lt_of_lt_of_le hl t.size,fun i u hi=>by
    obtain⟨c0,c1,c2,c3,c4⟩:=hc i u hi
    exact⟨ee t (hs e s rfl) c0,ee t (hs e s rfl) c1,ee t (hs e s rfl) c2,ee t (hs e s rfl) c3,ee t (hs e s rfl) c4⟩⟩
theorem gj.more {w w':World}{a:Option Addr}{l:List gi}(h:gj w a l)(t:ae w w'):gj w' a l:=h.keep t (fun _ _ _ q=>q)
theorem gj.lt {w:World}{a:Option Addr}{l:List gi}(h:gj w a l)(hne:l≠ []):∀b,iq a b→b<w.heap.size:=fun b hb=>by
 obtain⟨s,o,rfl,hs,_⟩:=h.resolve_left hne
 have:s=b:=by simpa [iq] using hb
 omega
section
variable {H:Type}{enc:TypeId×Value→H}{P:Program}{w:World}{base:Nat}{spare:Nat→Bool}{held:Bool}
theorem yk {t:TypeId}{f0 f1 f2 f3 f4:Field}{fuel:Nat}{cs:List Value}{x:DataW H×List MemPlace}(ht:P.underlying t=some (.struct #[f0,f1,f2,f3,f4]))(h:DataW.trod enc P w base spare held fuel t cs=some x):
 ∃y0 y1 y2 y3 y4 n,cs.length=P.cellsOf t∧DataW.trod enc P w base spare held n f0.type ((cs.drop f0.offset).take (P.cellsOf f0.type))=some y0∧DataW.trod enc P w base spare held n f1.type ((cs.drop f1.offset).take (P.cellsOf f1.type))=some y1∧DataW.trod enc P w base spare held n f2.type ((cs.drop f2.offset).take (P.cellsOf f2.type))=some y2∧DataW.trod enc P w base spare held n f3.type ((cs.drop f3.offset).take (P.cellsOf f3.type))=some y3∧DataW.trod enc P w base spare held n f4.type ((cs.drop f4.offset).take (P.cellsOf f4.type))=some y4:=by
 obtain⟨xs,n,_,rfl,hl,hlen,hf⟩:=DataW.trod_struct ht h
 match xs,hlen with
 | [y0,y1,y2,y3,y4],_=>exact⟨y0,y1,y2,y3,y4,n,hl,by simpa using hf 0 f0 rfl,by simpa using hf 1 f1 rfl,by simpa using hf 2 f2 rfl,by simpa using hf 3 f3 rfl,by simpa using hf 4 f4 rfl⟩
theorem Gm {t e:TypeId}{f0 f1 f2 f3 f4:Field}{a:Option Addr}{len cap:Nat}{d:DataW H}{p:List MemPlace}(ht:P.underlying t=some (.slice e))(hs:P.underlying e=some (.struct #[f0,f1,f2,f3,f4]))(hone:oneCellFields P #[f0,f1,f2,f3,f4]=true)(hC:P.cellsOf e=5)
 (u0:P.underlying f0.type=some (.int .i64)) (u1:P.underlying f1.type=some (.int .i64)) (u2:P.underlying f2.type=some (.int .i64)) (u3:P.underlying f3.type=some (.int .i64)) (u4:P.underlying f4.type=some (.int .i64))
 (h:DataW.Trod enc P w base spare held t (.slice a len cap) d p):∃l:List gi,l.length=len∧gj w a l∧Oi l∧l.length≤9223372036854775807:=by
 obtain⟨fuel,hf⟩:=h
 have zero:∀n,len=n→n=0→∃l:List gi,l.length=len∧gj w a l∧Oi l∧l.length≤9223372036854775807:=fun n h0 h1=>⟨[],by rw[h0,h1];rfl,.inl rfl,(fun p hp=>by cases hp),by simp⟩
 rcases open_slice ht hf with⟨hcs,_⟩|⟨x,l,c,m,n,D,Pl,hcs,_,hl,hm,hmm,_,hi⟩
 ·simp[Value.cells] at hcs
  obtain⟨rfl,rfl,rfl⟩:=hcs
  exact zero _ rfl rfl
 ·simp[Value.cells] at hcs
  obtain⟨rfl,rfl,rfl⟩:=hcs
  have key:∀i,i<len→∃g:gi,w.cell? (x.add (i * 5))=some (.int .i64 g.1)∧w.cell? (x.add (i * 5+1))=some (.int .i64 g.2.1)∧w.cell? (x.add (i * 5+2))=some (.int .i64 g.2.2.1)∧w.cell? (x.add (i * 5+3))=some (.int .i64 g.2.2.2.1)∧w.cell? (x.add (i * 5+4))=some (.int .i64 g.2.2.2.2)∧W64 g.1∧W64 g.2.1∧W64 g.2.2.1∧W64 g.2.2.2.1∧W64 g.2.2.2.2:=by
   intro i hil
   obtain⟨cs',hc,ht'⟩:=hi i (by have:=hmm;split at this<;>omega)
   rw[hC] at hc
   obtain⟨_,hcl,hat⟩:=World.cells?_some hc
   obtain⟨c0,c1,c2,c3,c4,rfl⟩:∃c0 c1 c2 c3 c4,cs'= [c0,c1,c2,c3,c4]:=by
    match cs',hcl with
    | [c0,c1,c2,c3,c4],_=>exact⟨c0,c1,c2,c3,c4,rfl⟩
   obtain⟨y0,y1,y2,y3,y4,n',_,h0,h1,h2,h3,h4⟩:=yk hs ht'
   obtain⟨o0,k0⟩:=hone_of hone 0 f0 rfl
   obtain⟨o1,k1⟩:=hone_of hone 1 f1 rfl
   obtain⟨o2,k2⟩:=hone_of hone 2 f2 rfl
   obtain⟨o3,k3⟩:=hone_of hone 3 f3 rfl
   obtain⟨o4,k4⟩:=hone_of hone 4 f4 rfl
   rw[o0,k0] at h0;rw[o1,k1] at h1;rw[o2,k2] at h2;rw[o3,k3] at h3;rw[o4,k4] at h4
   obtain⟨x0,e0,_,w0⟩:=DataW.trod_int u0 h0
   obtain⟨x1,e1,_,w1⟩:=DataW.trod_int u1 h1
   obtain⟨x2,e2,_,w2⟩:=DataW.trod_int u2 h2
   obtain⟨x3,e3,_,w3⟩:=DataW.trod_int u3 h3
   obtain⟨x4,e4,_,w4⟩:=DataW.trod_int u4 h4
   simp at e0 e1 e2 e3 e4
   subst e0 e1 e2 e3 e4
   have a0:=hat 0 (by omega)
   have a1:=hat 1 (by omega)
   have a2:=hat 2 (by omega)
   have a3:=hat 3 (by omega)
   have a4:=hat 4 (by omega)
   rw[Go.Deep.add_add] at a0 a1 a2 a3 a4
   exact⟨(x0,x1,x2,x3,x4),a0,a1,a2,a3,a4,yN w0,yN w1,yN w2,yN w3,yN w4⟩
  by_cases h0:len=0
  ·exact zero _ rfl h0
  ·obtain⟨s,o,spot⟩:=x
   obtain⟨g0,hg0,_⟩:=key 0 (by omega)
   have hspot:spot=none:=by simpa [Addr.add] using World.cell?_spot hg0
   subst hspot
   have hF:∀i,∃g:gi,i<len→w.cell? ⟨s,o+i * 5,none⟩=some (.int .i64 g.1)∧w.cell? ⟨s,o+i * 5+1,none⟩=some (.int .i64 g.2.1)∧w.cell? ⟨s,o+i * 5+2,none⟩=some (.int .i64 g.2.2.1)∧w.cell? ⟨s,o+i * 5+3,none⟩=some (.int .i64 g.2.2.2.1)∧w.cell? ⟨s,o+i * 5+4,none⟩=some (.int .i64 g.2.2.2.2)∧W64 g.1∧W64 g.2.1∧W64 g.2.2.1∧W64 g.2.2.2.1∧W64 g.2.2.2.2:=by
    intro i
    by_cases hil:i<len
    ·obtain⟨g,hg⟩:=key i hil
     exact⟨g,fun _=>by simp only[Nat.add_assoc];simp only[←FF];exact hg⟩
    ·exact⟨(0,0,0,0,0),fun q=>absurd q hil⟩
   have hm':cap≤9223372036854775807:=by unfold maxLen at hm;exact hm
   have hspec:=fun i hil=>Classical.choose_spec (hF i) hil
   refine⟨(List.range len).map fun i=>Classical.choose (hF i),by simp,.inr ⟨s,o,rfl,eS (hspec 0 (by omega)).1,fun i t ht=>?_⟩,fun t ht=>?_,by simp;omega⟩
   ·obtain⟨hil,rfl⟩:=IR ht
    have q:=hspec i hil
    exact⟨q.1,q.2.1,q.2.2.1,q.2.2.2.1,q.2.2.2.2.1⟩
   ·obtain⟨i,hi',rfl⟩:=List.mem_map.1 ht
    exact(hspec i (by simpa using hi')).2.2.2.2.2
end
theorem gj.range {w:World}{s o:Nat}{l:List gi}(h:gj w (some ⟨s,o,none⟩) l){j:Nat}{t:gi}(hj:l[j]?=some t):∀i v,([Value.int .i64 t.1,Value.int .i64 t.2.1,Value.int .i64 t.2.2.1,Value.int .i64 t.2.2.2.1,Value.int .i64 t.2.2.2.2]:List Value)[i]?=some v→w.cell? ⟨s,o+j * 5+i,none⟩=some v:=by
 rcases h with e|⟨s',o',e,_,hc⟩
 ·rw[e] at hj;simp at hj
 ·simp at e
  obtain⟨rfl,rfl⟩:=e
  obtain⟨c0,c1,c2,c3,c4⟩:=hc j t hj
  intro i v hv
  match i,hv with
  | 0,hv=>cases hv;exact c0
  | 1,hv=>cases hv;exact c1
  | 2,hv=>cases hv;exact c2
  | 3,hv=>cases hv;exact c3
  | 4,hv=>cases hv;exact c4
  |i+5,hv=>simp at hv
open Go.Sort Go.Maps
def oJ (d:Cfg)(u c:Int):Prop:=0≤c∧c<5∧0≤u∧u<d.cp
instance (d:Cfg)(u c:Int):Decidable (oJ d u c):=by unfold oJ;infer_instance
def frM (d:Cfg):Nat:=(if d.ba-1≤d.pr then d.ba-1 else d.pr).toNat
def tkW (d:Cfg)(u:Int)(P:Nat→List Int)(c:Int)(ws:List Int):((Int×Bool)×(Nat→List Int))×List Int :=
 if oJ d u c then mN d.us d.pg d.st (famC d) (5 * u.toNat+c.toNat) (5 * d.cp.toNat+c.toNat) c.toNat d.pr (frM d) P ws else(((0,false),P),ws)
def gvW (d:Cfg)(u:Int)(P:Nat→List Int)(c a:Int)(ws:List Int):(Nat→List Int)×List Int :=
 if oJ d u c then ww d.us d.pg d.st (famC d) (5 * u.toNat+c.toNat) (5 * d.cp.toNat+c.toNat) c.toNat d.pr d.ba.toNat a P ws else(P,ws)
structure FSt where
 P0:Nat→List Int
 P1:Nat→List Int
 O:List Bl
def FSt.at (s:FSt)(x:Int):Nat→List Int:=if wkV x=0 then s.P0 else s.P1
def FSt.put (s:FSt)(x:Int)(P:Nat→List Int):FSt:=if wkV x=0 then⟨P,s.P1,s.O⟩ else⟨s.P0,P,s.O⟩
def FSt.out (s:FSt)(O:List Bl):FSt:=⟨s.P0,s.P1,O⟩
def FSt.all (s:FSt):List Bl:=puO s.P0++(puO s.P1++s.O)
def gw (d:Cfg)(u:Int):Int:=IntKind.u64.wrap u % d.cp
def pO (d:Cfg)(t:gi)(s:FSt)(ws:List Int):FSt×List Int :=
 if t.1=0∨t.1=1 then
  (((s.put t.2.1 (tkW d (gw d t.2.2.1) (s.at t.2.1) t.2.2.2.1 ws).1.2).out (if(tkW d (gw d t.2.2.1) (s.at t.2.1) t.2.2.2.1 ws).1.1.2 then s.O++ [((tkW d (gw d t.2.2.1) (s.at t.2.1) t.2.2.2.1 ws).1.1.1,t.2.2.2.1)] else s.O)),(tkW d (gw d t.2.2.1) (s.at t.2.1) t.2.2.2.1 ws).2)
 else if t.1=2∨t.1=3 then
  match s.O[nthI t.2.2.2.2 s.O.length]? with
  |none=>(s,ws)
  |some b=>(((s.put t.2.1 (gvW d (gw d t.2.2.1) (s.at t.2.1) b.2 b.1 ws).1).out (s.O.take (nthI t.2.2.2.2 s.O.length)++s.O.drop (nthI t.2.2.2.2 s.O.length+1))),(gvW d (gw d t.2.2.1) (s.at t.2.1) b.2 b.1 ws).2)
 else if t.1=4 then(s.put t.2.1 (fun _=> []),ed d.us d.pg d.st (s.at t.2.1) ws)
 else if t.1=5 then(s,gh d.us d.pg d.st (famC d) (famC d).m ws)
 else(s,ws)
def gL (d:Cfg):List gi→FSt→List Int→FSt×List Int
 | [],s,ws=>(s,ws)
 |t::l,s,ws=>gL d l (pO d t s ws).1 (pO d t s ws).2
structure FrS (d:Cfg)(n:Nat)(s:FSt)(ws:List Int):Prop where
 fri:∃C,FrI d.us d.pg d.st n (famC d) ws C s.all
 lim:(∀j,j<5→((s.P0 j).length:Int)≤d.pr)∧∀j,j<5→((s.P1 j).length:Int)≤d.pr
def FSt.oth (s:FSt)(x:Int):List Bl:=if wkV x=0 then puO s.P1 else puO s.P0
theorem FSt.perm (s:FSt)(x:Int):s.all.Perm (puO (s.at x)++(s.oth x++s.O)):=by
 unfold FSt.all FSt.at FSt.oth
 rcases Oe x with e|e
 ·simp only[e,if_true];exact List.Perm.refl _
 ·simp only[e,show ¬((1:Int)=0) by omega,if_false]
  rw[←List.append_assoc,←List.append_assoc]
  exact List.perm_append_comm.append_right _
theorem FSt.perm2 (s:FSt)(x:Int)(P:Nat→List Int)(O:List Bl):((s.put x P).out O).all.Perm (puO P++(s.oth x++O)):=by
 unfold FSt.all FSt.put FSt.out FSt.oth
 rcases Oe x with e|e
 ·simp only[e,if_true];exact List.Perm.refl _
 ·simp only[e,show ¬((1:Int)=0) by omega,if_false]
  rw[←List.append_assoc,←List.append_assoc]
  exact List.perm_append_comm.append_right _
theorem FSt.out_same (s:FSt)(x:Int)(P:Nat→List Int):(s.put x P).out s.O=s.put x P:=by
 unfold FSt.put FSt.out;split<;>rfl
theorem FSt.lim_at {d:Cfg}{s:FSt}(h:(∀j,j<5→((s.P0 j).length:Int)≤d.pr)∧∀j,j<5→((s.P1 j).length:Int)≤d.pr)(x:Int):∀j,j<5→((s.at x j).length:Int)≤d.pr:=by
 unfold FSt.at
 split
 ·exact h.1
 ·exact h.2
theorem FSt.lim_put {d:Cfg}{s:FSt}(h:(∀j,j<5→((s.P0 j).length:Int)≤d.pr)∧∀j,j<5→((s.P1 j).length:Int)≤d.pr)(x:Int){P:Nat→List Int}(hP:∀j,j<5→((P j).length:Int)≤d.pr)(O:List Bl):(∀j,j<5→((((s.put x P).out O).P0 j).length:Int)≤d.pr)∧∀j,j<5→((((s.put x P).out O).P1 j).length:Int)≤d.pr:=by
 unfold FSt.put FSt.out
 split
 ·exact⟨hP,h.2⟩
 ·exact⟨h.1,hP⟩
section
variable {d:Cfg}(R:d.Ok){n:Nat}(H:cF d.pg d.st n)(hw:(n:Int)=d.words)(hn:n≤10000)
include R H hw hn
theorem AB:0≤d.us∧d.us+32 * d.pg≤1000000:=by
 have hb:=oV R
 have e:d.words=d.us+32 * d.pg:=rfl
 have e2:d.us=fQ d.cp d.pg d.st d.ca d.bi:=rfl
 omega
theorem Ly {u c:Int}(P:Nat→List Int)(hP:∀j,j<5→((P j).length:Int)≤d.pr){ws:List Int}{C:Nat→List Int}{O:List Bl}(h:FrI d.us d.pg d.st n (famC d) ws C (puO P++O)):
 tkW d u P c ws=(((0,false),P),ws)∨∃a P' X C',tkW d u P c ws=(((a,true),P'),X)∧FrI d.us d.pg d.st n (famC d) X C' (puO P'++((a,c)::O))∧∀j,j<5→((P' j).length:Int)≤d.pr:=by
 unfold tkW
 split
 ·rename_i q
  obtain⟨q0,q1,q2,q3⟩:=q
  obtain⟨a1,_,_,a4⟩:=i8 (d:=d) (u:=u.toNat) (c:=c.toNat) (by omega) (by omega)
  obtain⟨b1,_,_,b4⟩:=nE (d:=d) (c:=c.toNat) (by have:=R.cp1;omega) (by omega)
  have hm:((frM d:Nat):Int)≤d.pr:=by have:=R.pr1;have:=R.ba1;unfold frM;split<;>omega
  rcases Jn H (mK R hw) hn (AB R H hw hn) a1 b1 (k:=c.toNat) (by omega) a4 b4 d.pr (frM d) hm P hP h with e|⟨a,P',X,C',e,h',hl⟩
  ·exact .inl e
  ·refine .inr ⟨a,P',X,C',e,?_,hl⟩
   rw[show((c.toNat:Nat):Int)=c by omega] at h'
   exact h'
 ·exact .inl rfl
theorem Lz {u c a:Int}(hu:0≤u∧u<d.cp)(P:Nat→List Int)(hP:∀j,j<5→((P j).length:Int)≤d.pr){ws:List Int}{C:Nat→List Int}{O:List Bl}(h:FrI d.us d.pg d.st n (famC d) ws C (puO P++((a,c)::O))):
 ∃P' X C',gvW d u P c a ws=(P',X)∧FrI d.us d.pg d.st n (famC d) X C' (puO P'++O)∧∀j,j<5→((P' j).length:Int)≤d.pr:=by
 obtain⟨G,W⟩:=h.pgs
 obtain⟨_,_,c0,c4,_⟩:=xV H W ((h.acc a c).2 (by simp))
 unfold gvW
 rw[if_pos ⟨c0,by omega,hu.1,hu.2⟩]
 obtain⟨a1,_,_,a4⟩:=i8 (d:=d) (u:=u.toNat) (c:=c.toNat) (by omega) (by omega)
 obtain⟨b1,_,_,b4⟩:=nE (d:=d) (c:=c.toNat) (by have:=R.cp1;omega) (by omega)
 refine Jp H (mK R hw) hn (AB R H hw hn) a1 b1 (k:=c.toNat) (by omega) a4 b4 R.pr1 (by have:=R.ba1;omega) P hP (C:=C) ?_
 rw[show((c.toNat:Nat):Int)=c by omega]
 exact h
theorem Oj (u:Int):0≤gw d u∧gw d u<d.cp:=by
 have:=R.cp1
 exact⟨Int.emod_nonneg _ (by omega),Int.emod_lt_of_pos _ (by omega)⟩
theorem C5 (t:gi){s:FSt}{ws:List Int}(h:FrS d n s ws):FrS d n (pO d t s ws).1 (pO d t s ws).2:=by
 obtain⟨⟨C,hC⟩,hl⟩:=h
 have hS:=mK R hw
 obtain⟨kind,x,u,c,m⟩:=t
 have hC1:=hC.perm (s.perm x)
 have hlx:=FSt.lim_at hl x
 unfold pO
 simp only
 split
 ·rcases Ly R H hw hn (u:=gw d u) (c:=c) (s.at x) hlx hC1 with e|⟨a,P',X,C',e,h',hl'⟩
  ·rw[e]
   refine⟨⟨C,?_⟩,FSt.lim_put hl x hlx _⟩
   simp only[Bool.false_eq_true,if_false]
   exact hC1.perm (s.perm2 x _ _).symm
  ·rw[e]
   refine⟨⟨C',?_⟩,FSt.lim_put hl x hl' _⟩
   simp only[if_true]
   refine h'.perm (List.Perm.trans ?_ (s.perm2 x _ _).symm)
   refine List.Perm.append_left _ ?_
   rw[←List.append_assoc]
   exact List.perm_append_comm (l₁:=[(a,c)])
 ·split
  ·split
   ·exact⟨⟨C,hC⟩,hl⟩
   ·rename_i b hb
    have hm:=List.getElem?_eq_some_iff.1 hb
    have hO:s.O.Perm (b::(s.O.take (nthI m s.O.length)++s.O.drop (nthI m s.O.length+1))):=by
     have e1:s.O=s.O.take (nthI m s.O.length)++b::s.O.drop (nthI m s.O.length+1):=by
      obtain⟨hlt,hv⟩:=hm
      rw[←hv,←List.drop_eq_getElem_cons hlt,List.take_append_drop]
     exact(List.Perm.of_eq e1).trans List.perm_middle
    obtain⟨ba,bc⟩:=b
    have h2:FrI d.us d.pg d.st n (famC d) ws C (puO (s.at x)++((ba,bc)::(s.oth x++(s.O.take (nthI m s.O.length)++s.O.drop (nthI m s.O.length+1))))):=hC1.perm (List.Perm.append_left _ ((hO.append_left _).trans List.perm_middle))
    obtain⟨P',X,C',e,h',hl'⟩:=Lz R H hw hn (Oj R H hw hn u) (s.at x) hlx h2
    simp only
    rw[e]
    exact⟨⟨C',h'.perm (s.perm2 x _ _).symm⟩,FSt.lim_put hl x hl' _⟩
  ·split
   ·simp only
    rw[←s.out_same x (fun _=> [])]
    refine⟨⟨C,?_⟩,FSt.lim_put hl x (P:=fun _=> []) (fun j _=>by have:=R.pr1;simp;omega) s.O⟩
    refine(qJ H hS hn (s.at x) hC1).perm ?_
    exact(s.perm2 x (fun _=> []) s.O).symm
   ·split
    ·obtain⟨C',h',_⟩:=wG H hS hn hC
     exact⟨⟨C',h'⟩,hl⟩
    ·exact⟨⟨C,hC⟩,hl⟩
theorem rD:∀(l:List gi) {s:FSt} {ws:List Int},FrS d n s ws→FrS d n (gL d l s ws).1 (gL d l s ws).2
 | [],_,_,h=>h
 |t::l,_,_,h=>rD l (C5 R H hw hn t h)
theorem Gn:FrS d n ⟨fun _=> [],fun _=> [],[]⟩ (cL n):=
 ⟨⟨_,Gg R H hw d.us⟩,fun j _=>by have:=R.pr1;simp;omega,fun j _=>by have:=R.pr1;simp;omega⟩
end
def dr (d:Cfg)(P:Nat→List Int):Prop:=∀j,j<5→((P j).length:Int)≤d.pr∧∀a∈P j,W64 a
theorem dr.nil {d:Cfg}(R:d.Ok):dr d (fun _=> []):=fun j _=>⟨by have:=R.pr1;simp;omega,fun a ha=>by cases ha⟩
structure qK (d:Cfg)(n bt:Nat) where
 tkP:Int→(Nat→List Int)→Int→Prg ((Int×Bool)×(Nat→List Int))
 gvP:Int→(Nat→List Int)→Int→Int→Prg (Unit×(Nat→List Int))
 flP:(Nat→List Int)→Prg (Unit×(Nat→List Int))
 drP:Prg Unit
 tkS:∀u P c,bg (tkP u P c)
 gvS:∀u P c a,bg (gvP u P c a)
 flS:∀P,bg (flP P)
 drS:bg drP
 tkG:∀u P c,dr d P→bK n (fun x=>W64 x.1.1∧dr d x.2) (tkP u P c)
 gvG:∀u P c a,dr d P→W64 a→bK n (fun x=>dr d x.2) (gvP u P c a)
 flG:∀P,dr d P→bK n (fun x=>x.2=fun _=> []) (flP P)
 drG:bK n (fun _=>True) drP
 tkF:∀u P c,dr d P→bG n (tkP u P c) (tkW d u P c)
 gvF:∀u P c a,dr d P→W64 a→bG n (gvP u P c a) (fun ws=>(((),(gvW d u P c a ws).1),(gvW d u P c a ws).2))
 flF:∀P,dr d P→bG n (flP P) (fun ws=>(((),fun _=> []),ed d.us d.pg d.st P ws))
 drF:bG n drP (fun ws=>((),gh d.us d.pg d.st (famC d) (famC d).m ws))
 tkC:∀(F N:Nat→Prop) (p:Nat) (kn:Int→Option Int) (D:List KV) (w:World) (u c:Int) (f:Nat→Value) (P:Nat→List Int),aE w F p kn D→OkK kn→cD n D→df bt w→¬F 0→¬F bt→(∀q,N q→q<w.heap.size)→cN (fun q=>N q∨F q) w f P→dr d P →
  Calls Tryz.prog 30 #[.pointer (some ⟨p,0,none⟩),.agg d.arr,.int .i64 u,.agg (puA f),.int .i64 c] w (iB w F N p kn (fun x v=> .tuple #[.int .i64 x.1,v,.bool x.2]) (tkP u P c kn D))
 gvC:∀(F N:Nat→Prop) (p:Nat) (kn:Int→Option Int) (D:List KV) (w:World) (u c a:Int) (f:Nat→Value) (P:Nat→List Int),aE w F p kn D→OkK kn→cD n D→df bt w→¬F 0→¬F bt→(∀q,N q→q<w.heap.size)→cN (fun q=>N q∨F q) w f P→dr d P→W64 a →
  Calls Tryz.prog 40 #[.pointer (some ⟨p,0,none⟩),.agg d.arr,.int .i64 u,.agg (puA f),.int .i64 c,.int .i64 a] w (iB w F N p kn (fun _ v=>v) (gvP u P c a kn D))
 flC:∀(F N:Nat→Prop) (p:Nat) (kn:Int→Option Int) (D:List KV) (w:World) (f:Nat→Value) (P:Nat→List Int),aE w F p kn D→OkK kn→cD n D→df bt w→¬F 0→¬F bt→(∀q,N q→q<w.heap.size)→cN (fun q=>N q∨F q) w f P→dr d P →
  Calls Tryz.prog 17 #[.pointer (some ⟨p,0,none⟩),.agg d.arr,.agg (puA f)] w (iB w F N p kn (fun _ v=>v) (flP P kn D))
 drC:∀(F:Nat→Prop) (p:Nat) (kn:Int→Option Int) (D:List KV) (w:World),aE w F p kn D→OkK kn→cD n D→df bt w→¬F 0→¬F bt →
  Calls Tryz.prog 18 #[.pointer (some ⟨p,0,none⟩),.agg d.arr] w (aB w F p kn (fun _:Unit=> .tuple #[]) (drP kn D))
structure OkS (d:Cfg)(s:FSt):Prop where
 l0:dr d s.P0
 l1:dr d s.P1
 o:∀b∈s.O,W64 b.1
theorem OkS.at {d:Cfg}{s:FSt}(h:OkS d s)(x:Int):dr d (s.at x):=by
 unfold FSt.at
 split
 ·exact h.l0
 ·exact h.l1
theorem OkS.put {d:Cfg}{s:FSt}(h:OkS d s)(x:Int){P:Nat→List Int}(hP:dr d P){O:List Bl}(hO:∀b∈O,W64 b.1):OkS d ((s.put x P).out O):=by
 unfold FSt.put FSt.out
 split
 ·exact⟨hP,h.l1,hO⟩
 ·exact⟨h.l0,hP,hO⟩
theorem OkS.nil {d:Cfg}(R:d.Ok):OkS d ⟨fun _=> [],fun _=> [],[]⟩:=⟨dr.nil R,dr.nil R,fun b hb=>by cases hb⟩
theorem C6 {α β:Type}{n:Nat}{p:Prg α}{f:α→Prg β}{g:List Int→α×List Int}{k:α→List Int→β×List Int}{Q:α→Prop}(h:bG n p g)(G:bK n Q p)(hf:∀x,Q x→bG n (f x) (k x)):bG n (aq p f) (fun ws=>k (g ws).1 (g ws).2):=fun zs D hn hz hD=>by
 obtain⟨D1,e1,a1,i1⟩:=h zs D hn hz hD
 obtain⟨D2,e2,a2,i2⟩:=hf (g (ce zs D)).1 (G.ok (jI hz) hD e1).2 zs D1 hn hz i1
 refine⟨D2,?_,?_,i2⟩
 ·rw[aj e1,e2,a1]
 ·rw[a2,a1]
section
variable {d:Cfg}{n bt:Nat}(T:qK d n bt)
def dH (t:gi)(s:FSt):Prg FSt :=
 if t.1=0∨t.1=1 then aq (T.tkP (gw d t.2.2.1) (s.at t.2.1) t.2.2.2.1) fun x=>ay ((s.put t.2.1 x.2).out (if x.1.2 then s.O++ [(x.1.1,t.2.2.2.1)] else s.O))
 else if t.1=2∨t.1=3 then
  match s.O[nthI t.2.2.2.2 s.O.length]? with
  |none=>ay s
  |some b=>aq (T.gvP (gw d t.2.2.1) (s.at t.2.1) b.2 b.1) fun x=>ay ((s.put t.2.1 x.2).out (s.O.take (nthI t.2.2.2.2 s.O.length)++s.O.drop (nthI t.2.2.2.2 s.O.length+1)))
 else if t.1=4 then aq (T.flP (s.at t.2.1)) fun x=>ay (s.put t.2.1 x.2)
 else if t.1=5 then aq T.drP fun _=>ay s
 else ay s
def dQ:List gi→FSt→Prg FSt
 | [],s=>ay s
 |t::l,s=>aq (dH T t s) fun s'=>dQ l s'
theorem AC (t:gi)(s:FSt):bg (dH T t s):=by
 unfold dH
 refine aH (ak (T.tkS _ _ _) fun _=>ah _) (aH ?_ (aH (ak (T.flS _) fun _=>ah _) (aH (ak T.drS fun _=>ah _) (ah _))))
 split
 ·exact ah _
 ·exact ak (T.gvS _ _ _ _) fun _=>ah _
theorem lC:∀(l:List gi) (s:FSt),bg (dQ T l s)
 | [],s=>ah _
 |t::l,s=>ak (AC T t s) fun s'=>lC l s'
theorem uB (R:d.Ok)(t:gi){s:FSt}(h:OkS d s):bK n (fun s'=>OkS d s'∧s'.O.length≤s.O.length+1) (dH T t s):=by
 unfold dH
 split
 ·refine ar (T.tkG _ _ _ (h.at _)) fun x hx=>ai n ⟨h.put _ hx.2 fun b hb=>?_,?_⟩
  ·split at hb
   ·rcases List.mem_append.1 hb with q|q
    ·exact h.o b q
    ·obtain rfl:=List.mem_singleton.1 q;exact hx.1
   ·exact h.o b hb
  ·have e:∀(s:FSt) O,(FSt.out s O).O=O:=fun _ _=>rfl
   rw[e];split<;>simp
 ·split
  ·split
   ·exact ai n ⟨h,by omega⟩
   ·rename_i b hb
    refine ar (T.gvG _ _ _ _ (h.at _) (h.o b (List.mem_of_getElem? hb))) fun x hx=>ai n ⟨h.put _ hx fun b' hb'=>?_,?_⟩
    ·rcases List.mem_append.1 hb' with q|q
     ·exact h.o b' (List.mem_of_mem_take q)
     ·exact h.o b' (List.mem_of_mem_drop q)
    ·have e:∀(s:FSt) O,(FSt.out s O).O=O:=fun _ _=>rfl
     rw[e];simp;omega
  ·split
   ·refine ar (T.flG _ (h.at _)) fun x hx=>ai n ?_
    rw[←s.out_same,hx]
    exact⟨h.put _ (dr.nil R) h.o,by show s.O.length≤_;omega⟩
   ·split
    ·exact ar T.drG fun _ _=>ai n ⟨h,by omega⟩
    ·exact ai n ⟨h,by omega⟩
theorem mP (R:d.Ok):∀(l:List gi) {s:FSt},OkS d s→bK n (fun s'=>OkS d s'∧s'.O.length≤s.O.length+l.length) (dQ T l s)
 | [],s,h=>ai n ⟨h,by simp⟩
 |t::l,s,h=>ar (uB T R t h) fun s' hs=>cW (mP R l hs.1) fun s2 h2=>⟨h2.1,by have:=h2.2;have:=hs.2;simp;omega⟩
theorem C7 (t:gi){s:FSt}(h:OkS d s):bG n (dH T t s) (pO d t s):=by
 unfold dH
 have e:pO d t s=fun ws=>pO d t s ws:=rfl
 rw[e]
 unfold pO
 split
 ·exact aA (T.tkF _ _ _ (h.at _)) fun x=>au n _
 ·split
  ·split
   ·rename_i hb
    try simp only[hb]
    exact au n _
   ·rename_i b hb
    try simp only[hb]
    exact aA (T.gvF _ _ _ _ (h.at _) (h.o b (List.mem_of_getElem? hb))) fun x=>au n _
  ·split
   ·exact aA (T.flF _ (h.at _)) fun x=>au n _
   ·split
    ·exact aA T.drF fun x=>au n _
    ·exact au n _
theorem mQ (R:d.Ok):∀(l:List gi) {s:FSt},OkS d s→bG n (dQ T l s) (gL d l s)
 | [],s,h=>au n _
 |t::l,s,h=>C6 (C7 T t h) (uB T R t h) fun s' hs=>mQ R l hs.1
end
def wy3 (d:Cfg)(u k:Int):List WayD:= [.room (caV d u k) d.ca,.room (biV d k) d.bi,.home]
def gvP (d:Cfg)(u:Int)(P:Nat→List Int)(k a:Int):Prg (Unit×(Nat→List Int)):=
 if caV d u k=0 then ay ((),P)
 else aq (if d.pr≤cY P k then dG d.us d.pg d.st (wy3 d u k) k d.ba.toNat P else ay P) fun P'=>ay ((),d9 P' k a (cY P' k+1))
def flN (d:Cfg):Nat→Nat→(Nat→List Int)→Prg (Nat→List Int)
 | _,0,P=>ay P
 |k,m+1,P=>aq (dG d.us d.pg d.st [.home] k (P k).length P) fun P'=>flN d (k+1) m P'
def flP (d:Cfg)(P:Nat→List Int):Prg (Unit×(Nat→List Int)):=aq (flN d 0 5 P) fun _=>ay ((),fun _=> [])
def drP (d:Cfg):Prg Unit:=fc d.us d.pg d.st [.home] (famL (famC d) (famC d).m)
theorem cN.congr {F:Nat→Prop}{w:World}{f:Nat→Value}{P P':Nat→List Int}(h:cN F w f P)(e:∀j,j<5→P j=P' j):cN F w f P':=⟨fun j hj=>(e j hj)▸h.1 j hj,h.2⟩
section
variable {d:Cfg}(R:d.Ok)
include R
theorem jW (u k:Int):caV d u k≠0↔oJ d u k:=by
 have h1:=R.ca1;have h2:=R.st1;have h3:=R.pg1
 unfold caV od oJ
 split
 ·rename_i h
  obtain⟨a,b,c,e⟩:=h
  refine⟨fun _=>⟨c,by omega,a,b⟩,fun _=>?_⟩
  have:0≤(5 * u+k) * (d.ca+1):=Int.mul_nonneg (by omega) (by omega)
  unfold dt bo a8 aL
  omega
 ·rename_i h
  refine⟨fun q=>absurd rfl q,fun q=>absurd ⟨q.2.2.1,q.2.2.2,q.1,by omega⟩ h⟩
variable {n:Nat}(hw:(n:Int)=d.words)
include hw
theorem C8 {i:Nat}(hi:i<(famC d).m)(H:cF d.pg d.st n)(hn:n≤10000):d6 ((famC d).b i) ((famC d).l i) n:=CH H (mK R hw) hn hi
end
theorem dr.w {d:Cfg}{P:Nat→List Int}(h:dr d P):pL P:=fun j hj=>(h j hj).2
theorem dr.len {d:Cfg}(R:d.Ok){P:Nat→List Int}(h:dr d P):∀j,j<5→(P j).length≤1000000:=fun j hj=>by have:=(h j hj).1;have:=R.pr2;omega
theorem wI (xs:List Int)(x:Int)(m:Nat):(xs++ [x]).take ((xs++ [x]).length-(m+1))=xs.take (xs.length-m):=by
 rw[List.length_append,show xs.length+ [x].length-(m+1)=xs.length-m by simp]
 exact List.take_append_of_le_length (by omega)
section
variable (us pg st:Int)(wy:List WayD){k:Nat}(hk:k<5)
include hk
theorem rE:∀(m:Nat) (P:Nat→List Int) (ws:List Int),(ib us pg st wy k m P ws).1=de P k ((P k).take ((P k).length-m))
 | 0,P,ws=>by
   show P=_
   rw[Nat.sub_zero,List.take_length,eP]
 |m+1,P,ws=>by
  have e0:ib us pg st wy k (m+1) P ws=if gK P k then ib us pg st wy k m (gQ P k) (oG us pg st wy (ia P k) ws) else(P,ws):=rfl
  rw[e0]
  rcases List.eq_nil_or_concat (P k) with e|⟨xs,x,e⟩
  ·rw[if_neg (by rw[se P hk e];simp),e,List.take_nil]
   show P=de P k []
   rw[←e,eP]
  ·rw[List.concat_eq_append] at e
   obtain⟨b1,b2,b3⟩:=lx P hk e
   rw[if_pos b1,b3,rE m,lw,jU,e,wI]
theorem lD {n:Nat}(H:cF pg st n)(hy:∀y∈wy,jy n y):∀(m:Nat) (P:Nat→List Int),pL P→bK n (fun P'=>P'=de P k ((P k).take ((P k).length-m))) (dG us pg st wy k m P)
 | 0,P,_=>ai n (by rw[Nat.sub_zero,List.take_length,eP])
 |m+1,P,h=>by
  refine aW (fun e=>ar (pM H (ul h e) hy) fun _ _=>cW (lD H hy m _ (um h k)) fun P' q=>?_) (fun e=>ai n ?_)
  ·rcases List.eq_nil_or_concat (P k) with e1|⟨xs,x,e1⟩
   ·rw[se P hk e1] at e;cases e
   ·rw[List.concat_eq_append] at e1
    obtain⟨b1,b2,b3⟩:=lx P hk e1
    rw[q,b3,lw,jU,e1,wI]
  ·rcases List.eq_nil_or_concat (P k) with e1|⟨xs,x,e1⟩
   ·rw[e1,List.take_nil,←e1,eP]
   ·rw[List.concat_eq_append] at e1
    exact absurd (lx P hk e1).1 e
end
theorem Gp {d:Cfg}{P:Nat→List Int}(h:dr d P)(k:Nat)(m:Nat):dr d (de P k ((P k).take m)):=fun j hj=>by
 unfold de
 split
 ·rename_i e;subst e
  exact⟨by have:=(h j hj).1;simp;omega,fun a ha=>(h j hj).2 a (List.mem_of_mem_take ha)⟩
 ·exact h j hj
theorem uC (P:Nat→List Int){k:Nat}(hk:k<5)(a:Int):d9 P k a (cY P k+1)=de P k (P k++ [a]):=kH P hk a (by rw[d7 P hk];omega)
theorem wJ {d:Cfg}{P:Nat→List Int}(h:dr d P){k:Nat}(hk:k<5){a:Int}(ha:W64 a)(hl:((P k).length:Int)<d.pr):dr d (de P k (P k++ [a])):=fun j hj=>by
 unfold de
 split
 ·refine⟨by simp;omega,fun x hx=>?_⟩
  rcases List.mem_append.1 hx with q|q
  ·exact(h k hk).2 x q
  ·rw[List.mem_singleton.1 q];exact ha
 ·exact h j hj
section
variable {d:Cfg}(R:d.Ok){n:Nat}(H:cF d.pg d.st n)(hw:(n:Int)=d.words)(hn:n≤10000)
include R H hw hn
theorem JB {u k:Int}(h:oJ d u k):wy3 d u k= [.room ((famC d).b (5 * u.toNat+k.toNat)) ((famC d).l (5 * u.toNat+k.toNat)),.room ((famC d).b (5 * d.cp.toNat+k.toNat)) ((famC d).l (5 * d.cp.toNat+k.toNat)),.home]:=by
 obtain⟨q0,q1,q2,q3⟩:=h
 obtain⟨_,a2,a3,_⟩:=i8 (d:=d) (u:=u.toNat) (c:=k.toNat) (by omega) (by omega)
 obtain⟨_,b2,b3,_⟩:=nE (d:=d) (c:=k.toNat) (by have:=R.cp1;omega) (by omega)
 rw[a2,a3,b2,b3]
 unfold wy3 caV biV
 rw[show((u.toNat:Nat):Int)=u by omega,show((k.toNat:Nat):Int)=k by omega]
theorem ym {u k:Int}(h:oJ d u k):∀y∈wy3 d u k,jy n y:=by
 rw[JB R H hw hn h]
 obtain⟨q0,q1,q2,q3⟩:=h
 have a1:=(i8 (d:=d) (u:=u.toNat) (c:=k.toNat) (by omega) (by omega)).1
 have b1:=(nE (d:=d) (c:=k.toNat) (by have:=R.cp1;omega) (by omega)).1
 intro y hy
 simp only[List.mem_cons,List.not_mem_nil,or_false] at hy
 rcases hy with rfl|rfl|rfl
 ·exact C8 R hw a1 H hn
 ·exact C8 R hw b1 H hn
 ·trivial
theorem JC (u:Int)(P:Nat→List Int)(k a:Int):bg (gvP d u P k a):=
 aH (ah _) (ak (aH (mO _ _ _ _ _ _ _) (ah _)) fun _=>ah _)
theorem uD {u:Int}{P:Nat→List Int}{k:Nat}(h:oJ d u k)(hP:dr d P):bK n (fun P'=>dr d P'∧((P' k).length:Int)<d.pr) (if d.pr≤cY P k then dG d.us d.pg d.st (wy3 d u k) k d.ba.toNat P else ay P):=by
 have hk:k<5:=by have:=h.2.1;omega
 refine aW (fun q=>?_) (fun q=>ai n ⟨hP,by rw[d7 P hk] at q;omega⟩)
 refine cW (lD _ _ _ _ hk H (ym R H hw hn h) _ P hP.w) fun P' e=>?_
 subst e
 refine⟨Gp hP k _,?_⟩
 rw[jU]
 have h1:=(hP k hk).1
 have h2:=R.ba1
 have h3:=R.pr1
 rw[d7 P hk] at q
 simp
 omega
theorem LD (u:Int)(P:Nat→List Int)(k a:Int)(hP:dr d P)(ha:W64 a):bK n (fun x=>dr d x.2) (gvP d u P k a):=by
 unfold gvP
 refine aW (fun _=>ai n hP) (fun q=>?_)
 have h:=(jW R u k).1 q
 obtain⟨j,rfl⟩:∃j:Nat,k=j:=⟨k.toNat,by have:=h.1;omega⟩
 have hj:j<5:=by have:=h.2.1;omega
 refine ar (uD R H hw hn h hP) fun P' hp=>ai n ?_
 show dr d (d9 P' j a (cY P' j+1))
 rw[uC P' hj]
 exact wJ hp.1 hj ha hp.2
theorem LE (u:Int)(P:Nat→List Int)(k a:Int)(hP:dr d P)(ha:W64 a):bG n (gvP d u P k a) (fun ws=>(((),(gvW d u P k a ws).1),(gvW d u P k a ws).2)):=by
 by_cases q:caV d u k=0
 ·have nk:¬oJ d u k:=fun z=>(jW R u k).2 z q
  unfold gvP gvW
  rw[if_pos q]
  refine aU (au n _) fun ws _=>?_
  rw[if_neg nk]
 ·have h:=(jW R u k).1 q
  obtain⟨j,rfl⟩:∃j:Nat,k=j:=⟨k.toNat,by have:=h.1;omega⟩
  have hj:j<5:=by have:=h.2.1;omega
  unfold gvP
  rw[if_neg q]
  by_cases hf:d.pr≤cY P j
  ·rw[if_pos hf]
   have G:=uD R H hw hn h hP
   rw[if_pos hf] at G
   refine aU (oH (oI H (ym R H hw hn h) j _ P hP.w) G fun P' hp=>au n _) fun ws _=>?_
   unfold gvW ww
   rw[if_pos h]
   rw[d7 P hj] at hf
   have e1:(P (j:Int).toNat).length=(P j).length:=by simp
   rw[if_pos (by simpa using hf)]
   rw[JB R H hw hn h]
   have e2:=uv d.us d.pg d.st (famC d) (5 * u.toNat+(j:Int).toNat) (5 * d.cp.toNat+(j:Int).toNat) j d.ba.toNat P ws
   have e3:=rE d.us d.pg d.st [.room ((famC d).b (5 * u.toNat+(j:Int).toNat)) ((famC d).l (5 * u.toNat+(j:Int).toNat)),.room ((famC d).b (5 * d.cp.toNat+(j:Int).toNat)) ((famC d).l (5 * d.cp.toNat+(j:Int).toNat)),.home] hj d.ba.toNat P ws
   rw[e2] at e3
   rw[e2]
   simp only[Int.toNat_natCast] at e3⊢
   rw[e3]
   rw[uC _ hj,kH _ hj a]
   rw[jU]
   have h1:=(hP j hj).1
   have h2:=R.ba1
   have h3:=R.pr1
   simp
   omega
  ·rw[if_neg hf]
   refine aU (aA (au n P) fun P'=>au n _) fun ws _=>?_
   unfold gvW ww
   rw[if_pos h]
   rw[d7 P hj] at hf
   rw[if_neg (by simpa using hf)]
   simp only[Int.toNat_natCast]
   rw[uC _ hj,kH _ hj a (by omega)]
theorem wK:∀(k m:Nat) (P:Nat→List Int),bg (flN d k m P)
 | _,0,P=>ah _
 |k,m+1,P=>ak (mO _ _ _ _ _ _ _) fun P'=>wK (k+1) m P'
theorem JD (P:Nat→List Int):bg (flP d P):=ak (wK R H hw hn _ _ _) fun _=>ah _
theorem lE:∀y∈ [WayD.home],jy n y:=fun y hy=>by rw[List.mem_singleton.1 hy];trivial
theorem AE:∀(k m:Nat) (P:Nat→List Int),k+m≤5→pL P→bK n (fun P'=>pL P'∧(∀j,j<k→P' j=P j)∧∀j,k≤j→j<k+m→P' j= []) (flN d k m P)
 | _,0,P,_,h=>ai n ⟨h,fun _ _=>rfl,fun j h1 h2=>by omega⟩
 |k,m+1,P,hk,h=>by
  refine ar (lD _ _ _ _ (by omega) H (lE R H hw hn) _ P h) fun P1 e=>?_
  rw[Nat.sub_self,List.take_zero] at e
  subst e
  have hw1:pL (de P k []):=fun j hj a ha=>by
   unfold de at ha
   split at ha
   ·cases ha
   ·exact h j hj a ha
  refine cW (AE (k+1) m _ (by omega) hw1) fun P' q=>⟨q.1,fun j hj=>?_,fun j h1 h2=>?_⟩
  ·rw[q.2.1 j (by omega)];unfold de;rw[if_neg (by omega)]
  ·by_cases e:j=k
   ·subst e;rw[q.2.1 j (by omega),jU]
   ·exact q.2.2 j (by omega) (by omega)
theorem LH (P:Nat→List Int)(hP:dr d P):bK n (fun x=>x.2=fun _=> []) (flP d P):=ar (AE R H hw hn 0 5 P (by omega) hP.w) fun _ _=>ai n rfl
def LJ (d:Cfg):Nat→Nat→(Nat→List Int)→List Int→(Nat→List Int)×List Int
 | _,0,P,ws=>(P,ws)
 |k,m+1,P,ws=>LJ d (k+1) m (ib d.us d.pg d.st [.home] k (P k).length P ws).1 (ib d.us d.pg d.st [.home] k (P k).length P ws).2
theorem AH:∀(k m:Nat) (P:Nat→List Int),k+m≤5→pL P→bG n (flN d k m P) (fun ws=>LJ d k m P ws)
 | _,0,P,_,h=>au n P
 |k,m+1,P,hk,h=>oH (oI H (lE R H hw hn) k _ P h) (ur H (lE R H hw hn) k _ P h) fun P1 q=>AH (k+1) m P1 (by omega) q.1
theorem JE (P:Nat→List Int)(ws:List Int):(LJ d 0 5 P ws).2=ed d.us d.pg d.st P ws:=by
 simp only[LJ]
 have L:=fun(k:Nat) (hk:k<5) (Q:Nat→List Int) (ws:List Int)=>rt d.us d.pg d.st hk _ Q ws rfl
 rw[L 0 (by omega)]
 simp only
 rw[L 1 (by omega)]
 simp only
 rw[L 2 (by omega)]
 simp only
 rw[L 3 (by omega)]
 simp only
 rw[L 4 (by omega)]
 simp only[de]
 rfl
theorem LK (P:Nat→List Int)(hP:dr d P):bG n (flP d P) (fun ws=>(((),fun _=> []),ed d.us d.pg d.st P ws)):=
 aU (aA (AH R H hw hn 0 5 P (by omega) hP.w) fun _=>au n _) fun ws _=>by rw[←JE R H hw hn]
theorem oK:∀s∈famL (famC d) (famC d).m,d6 s.1 s.2 n:=fun s hs=>by
 obtain⟨i,hi,rfl⟩:=Ap _ hs
 exact C8 R hw hi H hn
theorem JF:bg (drP d):=pK _ _ _ _ _
theorem LM:bK n (fun _=>True) (drP d):=rq H (lE R H hw hn) _ (oK R H hw hn)
theorem LP:bG n (drP d) (fun ws=>((),gh d.us d.pg d.st (famC d) (famC d).m ws)):=
 aU (rr H (lE R H hw hn) _ (oK R H hw hn)) fun ws _=>by rw[pN]
end
section
variable (us pg st:Int)
def gM (b l:Int):Nat→List Int→Prg (List Int)
 | 0,L=>ay L
 |m+1,L=>aq (ea b l) fun x=>if x.2 then gM b l m (L++ [x.1]) else ay L
def mR (k:Int):Nat→List Int→Prg (List Int)
 | 0,L=>ay L
 |m+1,L=>aq (ms pg st k) fun r=>if r then aq (ku us pg st k) fun x=>if x.2 then mR k m (L++ [x.1]) else ay L else ay L
def jz (k:Int)(m:Nat)(L:List Int):Prg (List Int):=aq (ku us pg st k) fun x=>if x.2 then mR us pg st k (m-(L.length+1)) (L++ [x.1]) else ay L
def dm (b l:Int):Nat→List Int→List Int→List Int×List Int
 | 0,L,ws=>(L,ws)
 |m+1,L,ws=>if(a7 b l ws).1.2 then dm b l m (L++ [(a7 b l ws).1.1]) (a7 b l ws).2 else(L,(a7 b l ws).2)
def ic (k:Int):Nat→List Int→List Int→List Int×List Int
 | 0,L,ws=>(L,ws)
 |m+1,L,ws=>if tT pg st k ws then(if(dd us pg st k ws).1.2 then ic k m (L++ [(dd us pg st k ws).1.1]) (dd us pg st k ws).2 else(L,(dd us pg st k ws).2)) else(L,ws)
def yn (k:Int)(m:Nat)(L:List Int)(ws:List Int):List Int×List Int:=if(dd us pg st k ws).1.2 then ic us pg st k (m-(L.length+1)) (L++ [(dd us pg st k ws).1.1]) (dd us pg st k ws).2 else(L,(dd us pg st k ws).2)
theorem mS (b l:Int):∀(m:Nat) (L:List Int),bg (gM b l m L)
 | 0,L=>ah _
 |m+1,L=>ak (rm _ _) fun x=>aH (mS b l m _) (ah _)
theorem rF (k:Int):∀(m:Nat) (L:List Int),bg (mR us pg st k m L)
 | 0,L=>ah _
 |m+1,L=>ak (Ch _ _ _) fun r=>aH (ak (tF _ _ _ _) fun x=>aH (rF k m _) (ah _)) (ah _)
theorem AI (k:Int)(m:Nat)(L:List Int):bg (jz us pg st k m L):=ak (tF _ _ _ _) fun x=>aH (rF us pg st k _ _) (ah _)
end
def kK (L:List Int):Prop:=∀a∈L,W64 a
theorem kK.nil:kK []:=fun a h=>by cases h
theorem kK.snoc {L:List Int}(h:kK L){a:Int}(ha:W64 a):kK (L++ [a]):=fun x hx=>by
 rcases List.mem_append.1 hx with q|q
 ·exact h x q
 ·rw[List.mem_singleton.1 q];exact ha
theorem jA {b l:Int}{n:Nat}(H:d6 b l n):∀(m:Nat) (L:List Int),kK L→bK n (fun L'=>kK L'∧L'.length≤L.length+m) (gM b l m L)
 | 0,L,h=>ai n ⟨h,by simp⟩
 |m+1,L,h=>ar (hU H) fun x hx=>aW (fun _=>cW (jA H m _ (h.snoc hx)) fun L' q=>⟨q.1,by have:=q.2;simp at this;omega⟩) (fun _=>ai n ⟨h,by omega⟩)
theorem oL {b l:Int}{n:Nat}(H:d6 b l n):∀(m:Nat) (L:List Int),bG n (gM b l m L) (dm b l m L)
 | 0,L=>au n _
 |m+1,L=>by
  refine aU (aA (oE H) fun x=>bI (fun _=>oL H m (L++ [x.1])) (fun _=>au n L)) fun ws _=>?_
  have e:dm b l (m+1) L ws=if(a7 b l ws).1.2 then dm b l m (L++ [(a7 b l ws).1.1]) (a7 b l ws).2 else(L,(a7 b l ws).2):=rfl
  rw[e]
theorem Pk (k:Int):0≤szV k∧szV k≤16:=by
 unfold szV
 (repeat' split)<;>omega
section
variable {us pg st:Int}{n:Nat}(H:cF pg st n)(hu:0≤us∧us+32 * pg≤1000000)
include H
theorem Er (k:Int):bK n (fun _=>True) (ms pg st k):=ar (il H _ _ _) fun _ _=>ai n trivial
include hu
theorem uE (k:Int):bK n (fun x=>W64 x.1) (ku us pg st k):=ar (oy H k) fun q hq=>aW (fun _=>ai n (by unfold W64;constructor<;>decide)) (fun h=>by
 have hq:=hq.resolve_left h
 have PB:=cm H.toPgIn hq
 have hq':=ax.1 hq
 refine ar (bd n PB.2.2.2.1) fun b hb=>aW (fun _=>ai n (by unfold W64;constructor<;>decide)) (fun _=>ar (bd n PB.2.1.2.1) fun was _=>ar (gZ H.toPgIn hq (rY hb _)) fun _ _=>ar (gY H q k was hq) fun _ _=>ai n ?_)
 have h1: -1≤bP b (aw k)∧bP b (aw k)≤64:=by rcases Eb b (aw k) with z|z<;>omega
 have h2:=Pk k
 have h3: -16≤bP b (aw k) * szV k:=by
  have:(-1) * szV k≤bP b (aw k) * szV k:=Int.mul_le_mul_of_nonneg_right h1.1 h2.1
  omega
 have h4:bP b (aw k) * szV k≤64 * 16:=by
  have e1:bP b (aw k) * szV k≤64 * szV k:=Int.mul_le_mul_of_nonneg_right h1.2 h2.1
  omega
 unfold W64
 constructor<;>omega)
theorem uF (k:Int):∀(m:Nat) (L:List Int),kK L→bK n (fun L'=>kK L'∧L'.length≤L.length+m) (mR us pg st k m L)
 | 0,L,h=>ai n ⟨h,by simp⟩
 |m+1,L,h=>ar (Er H k) fun r _=>aW (fun _=>ar (uE H hu k) fun x hx=>aW (fun _=>cW (uF k m _ (h.snoc hx)) fun L' q=>⟨q.1,by have:=q.2;simp at this;omega⟩) (fun _=>ai n ⟨h,by omega⟩)) (fun _=>ai n ⟨h,by omega⟩)
theorem uG (k:Int)(m:Nat)(L:List Int)(h:kK L)(hm:L.length<m):bK n (fun L'=>kK L'∧L'.length≤m) (jz us pg st k m L):=
 ar (uE H hu k) fun x hx=>aW (fun _=>cW (uF H hu k _ _ (h.snoc hx)) fun L' q=>⟨q.1,by have:=q.2;simp at this;omega⟩) (fun _=>ai n ⟨h,by omega⟩)
omit hu
theorem uH (k:Int):∀(m:Nat) (L:List Int),bG n (mR us pg st k m L) (ic us pg st k m L)
 | 0,L=>au n _
 |m+1,L=>by
  refine aU (aA (FT H k) fun r=>bI (fun _=>aA (qE H us k) fun x=>bI (fun _=>uH k m (L++ [x.1])) (fun _=>au n L)) (fun _=>au n L)) fun ws _=>?_
  have e:ic us pg st k (m+1) L ws=if tT pg st k ws then(if(dd us pg st k ws).1.2 then ic us pg st k m (L++ [(dd us pg st k ws).1.1]) (dd us pg st k ws).2 else(L,(dd us pg st k ws).2)) else(L,ws):=rfl
  rw[e]
theorem Da (k:Int)(m:Nat)(L:List Int):bG n (jz us pg st k m L) (yn us pg st k m L):=
 aA (qE H us k) fun x=>bI (fun _=>uH H k _ (L++ [x.1])) (fun _=>au n L)
end
theorem uI (b l:Int):∀(m:Nat) (A L ws:List Int),dm b l m (A++L) ws=(A++(dm b l m L ws).1,(dm b l m L ws).2)
 | 0,A,L,ws=>rfl
 |m+1,A,L,ws=>by
  unfold dm
  split
  ·rw[List.append_assoc,uI b l m]
  ·rfl
theorem uJ (us pg st k:Int):∀(m:Nat) (A L ws:List Int),ic us pg st k m (A++L) ws=(A++(ic us pg st k m L ws).1,(ic us pg st k m L ws).2)
 | 0,A,L,ws=>rfl
 |m+1,A,L,ws=>by
  unfold ic
  split
  ·split
   ·rw[List.append_assoc,uJ us pg st k m]
   ·rfl
  ·rfl
def bz (k lim:Int):(Nat→List Int)→List Int→(Nat→List Int)
 |P,[]=>P
 |P,a::t=>bz k lim (d9 P k a lim) t
theorem gN (k lim:Int)(x:Int):∀(L:List Int) (P:Nat→List Int),bz k lim P (L++ [x])=d9 (bz k lim P L) k x lim
 | [],P=>rfl
 |a::t,P=>gN k lim x t _
section
variable (us pg st:Int)(S:Fam)(i0 i1:Nat)
theorem wL (k:Nat)(lim:Int)(P:Nat→List Int):∀(m:Nat) (L ws:List Int),fV us pg st S i0 i1 k 0 lim m (bz k lim P L) ws=(bz k lim P (dm (S.b i0) (S.l i0) m L ws).1,(dm (S.b i0) (S.l i0) m L ws).2)
 | 0,L,ws=>rfl
 |m+1,L,ws=>by
  have e1:fV us pg st S i0 i1 k 0 lim (m+1) (bz k lim P L) ws=if(a7 (S.b i0) (S.l i0) ws).1.2 then fV us pg st S i0 i1 k 0 lim m (d9 (bz k lim P L) k (a7 (S.b i0) (S.l i0) ws).1.1 lim) (a7 (S.b i0) (S.l i0) ws).2 else(bz k lim P L,(a7 (S.b i0) (S.l i0) ws).2):=rfl
  rw[e1]
  unfold dm
  split
  ·rw[←gN,wL k lim P m]
  ·rfl
theorem wM (k:Nat)(lim:Int)(P:Nat→List Int):∀(m:Nat) (L ws:List Int),fV us pg st S i0 i1 k 1 lim m (bz k lim P L) ws=(bz k lim P (dm (S.b i1) (S.l i1) m L ws).1,(dm (S.b i1) (S.l i1) m L ws).2)
 | 0,L,ws=>rfl
 |m+1,L,ws=>by
  have e1:fV us pg st S i0 i1 k 1 lim (m+1) (bz k lim P L) ws=if(a7 (S.b i1) (S.l i1) ws).1.2 then fV us pg st S i0 i1 k 1 lim m (d9 (bz k lim P L) k (a7 (S.b i1) (S.l i1) ws).1.1 lim) (a7 (S.b i1) (S.l i1) ws).2 else(bz k lim P L,(a7 (S.b i1) (S.l i1) ws).2):=rfl
  rw[e1]
  unfold dm
  split
  ·rw[←gN,wM k lim P m]
  ·rfl
theorem wN (k:Nat)(lim:Int)(P:Nat→List Int):∀(m:Nat) (L ws:List Int),fV us pg st S i0 i1 k 2 lim m (bz k lim P L) ws=(bz k lim P (ic us pg st k m L ws).1,(ic us pg st k m L ws).2)
 | 0,L,ws=>rfl
 |m+1,L,ws=>by
  have e0:jF us pg st S i0 i1 k 2 ws=if tT pg st k ws then dd us pg st k ws else((0,false),ws):=rfl
  have e1:fV us pg st S i0 i1 k 2 lim (m+1) (bz k lim P L) ws=if(jF us pg st S i0 i1 k 2 ws).1.2 then fV us pg st S i0 i1 k 2 lim m (d9 (bz k lim P L) k (jF us pg st S i0 i1 k 2 ws).1.1 lim) (jF us pg st S i0 i1 k 2 ws).2 else(bz k lim P L,(jF us pg st S i0 i1 k 2 ws).2):=rfl
  rw[e1,e0]
  unfold ic
  cases tT pg st k ws with
  |false=>simp
  |true =>
   simp only[if_true]
   split
   ·rw[←gN,wN k lim P m]
   ·rfl
end
def mostV (d:Cfg):Nat:=(min d.ba (1+d.pr)).toNat
def yo (d:Cfg)(u k:Int):Prg (List Int):=
 aq (gM (caV d u k) d.ca (mostV d) []) fun L=>if 0<L.length then ay L else
 aq (gM (biV d k) d.bi (mostV d) []) fun L=>if 0<L.length then ay L else
 aq (jz d.us d.pg d.st k (mostV d) []) fun L=>if 0<L.length then ay L else ay []
def tkP (d:Cfg)(u:Int)(P:Nat→List Int)(k:Int):Prg ((Int×Bool)×(Nat→List Int)):=
 if caV d u k=0 then ay ((0,false),P)
 else if gK P k then ay ((ia P k,true),gQ P k)
 else aq (yo d u k) fun L=>ay ((L.headD 0,decide (0<L.length)),bz k d.pr P L.tail)
def Ol (d:Cfg)(u k:Int)(ws:List Int):List Int×List Int :=
 if 0<(dm (caV d u k) d.ca (mostV d) [] ws).1.length then dm (caV d u k) d.ca (mostV d) [] ws else
 if 0<(dm (biV d k) d.bi (mostV d) [] (dm (caV d u k) d.ca (mostV d) [] ws).2).1.length then dm (biV d k) d.bi (mostV d) [] (dm (caV d u k) d.ca (mostV d) [] ws).2 else
 yn d.us d.pg d.st k (mostV d) [] (dm (biV d k) d.bi (mostV d) [] (dm (caV d u k) d.ca (mostV d) [] ws).2).2
section
variable {d:Cfg}(R:d.Ok){n:Nat}(H:cF d.pg d.st n)(hw:(n:Int)=d.words)(hn:n≤10000)
include R H hw hn
theorem sg:mostV d=frM d+1:=by
 have h1:=R.ba1;have h2:=R.pr1
 unfold mostV frM
 split<;>omega
theorem JG {u k:Int}(h:oJ d u k):d6 (caV d u k) d.ca n∧d6 (biV d k) d.bi n:=by
 have h:=ym R H hw hn h
 exact⟨h (.room (caV d u k) d.ca) (by simp[wy3]),h (.room (biV d k) d.bi) (by simp[wy3])⟩
theorem Gq (u k:Int):bg (yo d u k):=
 ak (mS _ _ _ _) fun _=>aH (ah _) (ak (mS _ _ _ _) fun _=>aH (ah _) (ak (AI _ _ _ _ _ _) fun _=>aH (ah _) (ah _)))
theorem JH (u:Int)(P:Nat→List Int)(k:Int):bg (tkP d u P k):=
 aH (ah _) (aH (ah _) (ak (Gq R H hw hn _ _) fun _=>ah _))
theorem AJ {u k:Int}(h:oJ d u k):bK n (fun L=>kK L∧L.length≤mostV d) (yo d u k):=by
 have h1:=JG R H hw hn h
 have hm:0<mostV d:=by rw[sg R H hw hn];omega
 refine ar (jA h1.1 _ _ kK.nil) fun L q=>aW (fun _=>ai n ⟨q.1,by have:=q.2;simpa using this⟩) (fun _=>?_)
 refine ar (jA h1.2 _ _ kK.nil) fun L q=>aW (fun _=>ai n ⟨q.1,by have:=q.2;simpa using this⟩) (fun _=>?_)
 exact ar (uG H (AB R H hw hn) k _ [] kK.nil hm) fun L q=>aW (fun _=>ai n q) (fun _=>ai n ⟨kK.nil,by simp⟩)
theorem JI {u k:Int}(h:oJ d u k):bG n (yo d u k) (Ol d u k):=by
 have h1:=JG R H hw hn h
 refine aU (aA (oL h1.1 _ []) fun L=>bI (fun _=>au n L) (fun _=>aA (oL h1.2 _ []) fun L2=>bI (fun _=>au n L2) (fun _=>aA (Da H k _ []) fun L3=>bI (fun _=>au n L3) (fun _=>au n [])))) fun ws _=>?_
 unfold Ol
 split
 ·rfl
 ·split
  ·rfl
  ·split
   ·rfl
   ·rename_i q
    have e:(yn d.us d.pg d.st k (mostV d) [] (dm (biV d k) d.bi (mostV d) [] (dm (caV d u k) d.ca (mostV d) [] ws).2).2).1= []:=List.length_eq_zero_iff.1 (by omega)
    exact Prod.ext e.symm rfl
theorem lF {k:Nat}(hk:k<5):∀(L:List Int) (P:Nat→List Int),dr d P→kK L→((P k).length:Int)+L.length≤d.pr→dr d (bz k d.pr P L)
 | [],P,h,_,_=>h
 |a::t,P,h,hL,hl=>by
  simp only[List.length_cons] at hl
  show dr d (bz k d.pr (d9 P k a d.pr) t)
  have e:=kH P hk a (lim:=d.pr) (by omega)
  rw[e]
  refine lF hk t _ (wJ h hk (hL a (by simp)) (by omega)) (fun x hx=>hL x (by simp[hx])) ?_
  rw[jU];simp;omega
theorem AK {P:Nat→List Int}{k:Nat}(hk:k<5)(h:¬gK P k=true):P k= []:=by
 rcases List.eq_nil_or_concat (P k) with e|⟨xs,x,e⟩
 ·exact e
 ·rw[List.concat_eq_append] at e
  exact absurd (lx P hk e).1 h
theorem LQ (u:Int)(P:Nat→List Int)(k:Int)(hP:dr d P):bK n (fun x=>W64 x.1.1∧dr d x.2) (tkP d u P k):=by
 have w0:W64 0:=by unfold W64;constructor<;>decide
 refine aW (fun _=>ai n ⟨w0,hP⟩) (fun q=>?_)
 have h:=(jW R u k).1 q
 obtain⟨j,rfl⟩:∃j:Nat,k=j:=⟨k.toNat,by have:=h.1;omega⟩
 have hj:j<5:=by have:=h.2.1;omega
 refine aW (fun e=>ai n ⟨ul hP.w e,?_⟩) (fun e=>?_)
 ·exact fun i hi=>⟨by show((gQ P j i).length:Int)≤d.pr;have:=(hP i hi).1;have:=uo P j i;omega,fun a ha=>um hP.w j i hi a ha⟩
 ·refine ar (AJ R H hw hn h) fun L hL=>ai n ⟨?_,?_⟩
  ·match L,hL.1 with
   | [],_=>exact w0
   |a::t,hL=>exact hL a (by simp)
  ·have e0:=AK R H hw hn hj e
   have hm:=hL.2
   rw[sg R H hw hn] at hm
   refine lF R H hw hn hj _ P hP (fun a ha=>hL.1 a (List.mem_of_mem_tail ha)) ?_
   have h1:=R.ba1;have h2:=R.pr1
   rw[e0,List.length_tail]
   unfold frM at hm
   simp
   split at hm<;>omega
theorem LR (u:Int)(P:Nat→List Int)(k:Int)(hP:dr d P):bG n (tkP d u P k) (tkW d u P k):=by
 by_cases q:caV d u k=0
 ·have nk:¬oJ d u k:=fun z=>(jW R u k).2 z q
  unfold tkP tkW
  rw[if_pos q]
  refine aU (au n _) fun ws _=>?_
  rw[if_neg nk]
 ·have h:=(jW R u k).1 q
  obtain⟨j,rfl⟩:∃j:Nat,k=j:=⟨k.toNat,by have:=h.1;omega⟩
  have hj:j<5:=by have:=h.2.1;omega
  obtain⟨q0,q1,q2,q3⟩:=id h
  obtain⟨_,a2,a3,_⟩:=i8 (d:=d) (u:=u.toNat) (c:=(j:Int).toNat) (by omega) (by omega)
  obtain⟨_,b2,b3,_⟩:=nE (d:=d) (c:=(j:Int).toNat) (by have:=R.cp1;omega) (by omega)
  unfold tkP
  rw[if_neg q]
  by_cases e:gK P j=true
  ·rw[if_pos e]
   refine aU (au n _) fun ws _=>?_
   unfold tkW mN
   rw[if_pos h]
   simp only[Int.toNat_natCast]
   rw[if_pos e]
  ·rw[if_neg e]
   refine aU (aA (JI R H hw hn h) fun L=>au n _) fun ws _=>?_
   unfold tkW mN
   rw[if_pos h]
   simp only[Int.toNat_natCast] at a2 a3 b2 b3⊢
   rw[if_neg e]
   have ca:(famC d).b (5 * u.toNat+j)=caV d u j:=by rw[a2];unfold caV;rw[show((u.toNat:Nat):Int)=u by omega]
   have bi:(famC d).b (5 * d.cp.toNat+j)=biV d j:=by rw[b2];rfl
   have hm:=sg R H hw hn
   have P0:bz (j:Int) d.pr P []=P:=rfl
   unfold Ol
   rw[hm]
   have popE:∀b l ws,dm b l (frM d+1) [] ws=if 0<a6 l (wAt ws b) then((a7 b l ws).1.1::(dm b l (frM d) [] (a7 b l ws).2).1,(dm b l (frM d) [] (a7 b l ws).2).2) else([],ws):=fun b l ws=>by
    have e1:dm b l (frM d+1) [] ws=if(a7 b l ws).1.2 then dm b l (frM d) ([(a7 b l ws).1.1]++ []) (a7 b l ws).2 else([],(a7 b l ws).2):=rfl
    rw[e1,uI]
    by_cases z:0<a6 l (wAt ws b)
    ·have:(a7 b l ws).1.2=true:=by unfold a7;simp only[if_pos z]
     rw[if_pos z,if_pos this];rfl
    ·have:a7 b l ws=((0,false),ws):=by unfold a7;simp only[if_neg z]
     rw[if_neg z,this];rfl
   have popT:∀b l ws,0<a6 l (wAt ws b)→(a7 b l ws).1.2=true:=fun b l ws z=>by unfold a7;simp only[if_pos z]
   rw[popE,popE]
   have hk0:mM (famC d) (5 * u.toNat+j) (5 * d.cp.toNat+j) ws=if 0<a6 d.ca (wAt ws (caV d u j)) then 0 else if 0<a6 d.bi (wAt ws (biV d j)) then 1 else 2:=by
    unfold mM;rw[ca,a3,bi,b3]
   by_cases z0:0<a6 d.ca (wAt ws (caV d u j))
   ·rw[if_pos z0] at hk0
    simp only[if_pos z0]
    rw[hk0]
    have f0:jF d.us d.pg d.st (famC d) (5 * u.toNat+j) (5 * d.cp.toNat+j) (j:Int) (ly 0) ws=a7 (caV d u j) d.ca ws:=by
     show a7 _ _ ws=_;rw[ca,a3]
    have M:=wL d.us d.pg d.st (famC d) (5 * u.toNat+j) (5 * d.cp.toNat+j) j d.pr P (frM d) [] (a7 (caV d u j) d.ca ws).2
    rw[P0,ca,a3] at M
    rw[f0,if_pos (popT _ _ _ z0),M]
    simp
   ·rw[if_neg z0] at hk0
    simp only[if_neg z0,List.length_nil,Nat.lt_irrefl,if_false]
    by_cases z1:0<a6 d.bi (wAt ws (biV d j))
    ·rw[if_pos z1] at hk0
     simp only[if_pos z1]
     rw[hk0]
     have f0:jF d.us d.pg d.st (famC d) (5 * u.toNat+j) (5 * d.cp.toNat+j) (j:Int) (ly 1) ws=a7 (biV d j) d.bi ws:=by
      show a7 _ _ ws=_;rw[bi,b3]
     have M:=wM d.us d.pg d.st (famC d) (5 * u.toNat+j) (5 * d.cp.toNat+j) j d.pr P (frM d) [] (a7 (biV d j) d.bi ws).2
     rw[P0,bi,b3] at M
     rw[f0,if_pos (popT _ _ _ z1),M]
     simp
    ·rw[if_neg z1] at hk0
     simp only[if_neg z1,List.length_nil,Nat.lt_irrefl,if_false]
     rw[hk0]
     have f0:jF d.us d.pg d.st (famC d) (5 * u.toNat+j) (5 * d.cp.toNat+j) (j:Int) (ly 2) ws=dd d.us d.pg d.st j ws:=rfl
     have M:=wN d.us d.pg d.st (famC d) (5 * u.toNat+j) (5 * d.cp.toNat+j) j d.pr P (frM d) [] (dd d.us d.pg d.st j ws).2
     rw[P0] at M
     rw[f0,M]
     have e2:yn d.us d.pg d.st j (frM d+1) [] ws=if(dd d.us d.pg d.st j ws).1.2 then ic d.us d.pg d.st j (frM d) ([(dd d.us d.pg d.st j ws).1.1]++ []) (dd d.us d.pg d.st j ws).2 else([],(dd d.us d.pg d.st j ws).2):=rfl
     rw[e2,uJ]
     by_cases g:(dd d.us d.pg d.st j ws).1.2=true
     ·rw[if_pos g,if_pos g]
      simp
     ·rw[if_neg g,if_neg g]
      rfl
end
attribute [local go_sem] Oper.semAt_some
def mea (kn:Int→Option Int)(D:List KV)(b l:Int):Nat :=
 match dM kn D b with
 |some y=>(a6 l y).toNat
 |none=>0
theorem JJ (kn:Int→Option Int)(D:List KV){b l:Int}(hl:0≤l):mea kn D b l≤l.toNat:=by
 unfold mea
 split
 ·rename_i y _
  have:=kE (y:=y) hl
  omega
 ·omega
theorem Es {n:Nat}{b l:Int}(H:d6 b l n){kn:Int→Option Int}{D D1:List KV}{a:Int}(hD:cD n D)(e:ea b l kn D=.ok (a,true) D1):mea kn D1 b l<mea kn D b l:=by
 have h1:=H.b1;have h0:=H.l0
 unfold ea j6 jQ at e
 cases er:cU b kn D with
 |need x=>rw[ag (ag (ag er))] at e;cases e
 |ok y D' =>
  obtain⟨rfl,hy⟩:=gG er
  rw[aj (aj (aj er))] at e
  simp only[Bool.false_eq_true,if_false] at e
  have hk:=kE (y:=y) h0
  split at e
  ·cases e
  ·rename_i hz
   have hpos:0<a6 l y:=by
    unfold dv at hz
    split at hz
    ·omega
    ·omega
   cases e2:cU (dv b l (a6 l y-1)) kn D' with
   |need x=>rw[ag e2] at e;cases e
   |ok z D2 =>
    obtain⟨rfl,_⟩:=gG e2
    rw[aj e2] at e
    have eD:D1=eC D2 b (a6 l y-1):=by cases e;rfl
    have hw1:dM kn D1 b=some (a6 l y-1):=by
     rw[eD]
     unfold dM eC
     rw[if_neg (by omega),if_neg (by omega),pY hD.asc,if_pos rfl];rfl
    unfold mea
    rw[hw1,hy]
    simp only
    have e3:a6 l (a6 l y-1)=a6 l y-1:=by
     generalize a6 l y=q at *
     unfold a6
     rw[if_pos (by omega)]
    rw[e3]
    omega
theorem j7 {σ:Type}(Q:World→σ→Prop)(μ:σ→Nat):∃mes:World→Nat,∀w,(∃s,Q w s)→∃s,Q w s∧μ s=mes w∧∀s',Q w s'→mes w≤μ s':=by
 have key:∀w,∃m:Nat,(∃s,Q w s)→∃s,Q w s∧μ s=m∧∀s',Q w s'→m≤μ s':=fun w=>by
  by_cases h:∃s,Q w s
  ·obtain⟨s,hs⟩:=h
   have go:∀(k:Nat) (s:σ),Q w s→μ s≤k→∃s,Q w s∧∀s',Q w s'→μ s≤μ s':=by
    intro k
    induction k with
    |zero=>exact fun s hs hk=>⟨s,hs,fun s' _=>by omega⟩
    |succ k ih =>
     intro s hs hk
     by_cases hl:∃s',Q w s'∧μ s'<μ s
     ·obtain⟨s',q1,q2⟩:=hl
      exact ih s' q1 (by omega)
     ·exact⟨s,hs,fun s' q=>Nat.le_of_not_lt fun r=>hl ⟨s',q,r⟩⟩
   obtain⟨s,q1,q2⟩:=go (μ s) s hs (Nat.le_refl _)
   exact⟨μ s,fun _=>⟨s,q1,rfl,q2⟩⟩
  ·exact⟨0,fun q=>absurd q h⟩
 exact⟨fun w=>Classical.choose (key w),fun w=>Classical.choose_spec (key w)⟩
def yp (n:Nat)(kn:Int→Option Int)(p vb fb sb cap:Nat)(cur:Array Value)(sh:List (Int×Int)):yz LsS where
 enc s:= #[.int .i64 s.a]
 See s A:=aE A s.F p kn s.D∧cD n s.D∧A.heap[vb]?=some (.cells #[.pointer (some ⟨p,0,none⟩)] 43 (0,0))∧A.heap[fb]?=some (.cells #[.slice (some ⟨sb,0,none⟩) sh.length cap] 93 (0,0))∧∃fr,A.heap[sb]?=some (.cells cur 96 fr)
 Own s s' A B:=∃b l D1 F1 a,sh[s.i]?=some (b,l)∧ea b l kn s.D=.ok (a,true) D1∧s'=⟨s.i,s.P,D1,F1,a⟩∧aE B F1 p kn D1∧Turned s.F A B∧∀k,F1 k→s.F k∨A.heap.size≤k
 Fin s s' A B:=s'=s∧sh.length≤s.i∧ae A B
 Ned s ch A B:=∃b l a,sh[s.i]?=some (b,l)∧ea b l kn s.D=.need a∧ch=aR p∧aN B p a∧Turned s.F A B
 Skp s s' A B:=∃b l D1 F1 a,sh[s.i]?=some (b,l)∧ea b l kn s.D=.ok (a,false) D1∧s'=⟨s.i+1,s.P,D1,F1,s.a⟩∧aE B F1 p kn D1∧Turned s.F A B∧∀k,F1 k→s.F k∨A.heap.size≤k
 Rel s s' A B:=s'.i=s.i∧(∀b l,sh[s.i]?=some (b,l)→dM kn s'.D b=dM kn s.D b)∧(∀k,s'.F k→s.F k∨A.heap.size≤k)∧A.heap.size≤B.heap.size∧∀k cs t fr,¬s.F k→A.heap[k]?=some (.cells cs t fr)→B.heap[k]?=some (.cells cs t fr)
theorem AM (q:Nat)(hq:1≤q){n:Nat}(p vb fb sb cap:Nat)(cur:Array Value)(sh:List (Int×Int))(hsh:sh.length≤1000)(hcap:sh.length≤cap)(hok:∀s∈sh,d6 s.1 s.2 n)(hcur:∀i b l,sh[i]?=some (b,l)→cur[i * 2]?=some (.int .i64 b)∧cur[i * 2+1]?=some (.int .i64 l))(kn:Int→Option Int)(hk:OkK kn)(s0:LsS)(w0:World)(h00:s0.i=0):
 A3 (yp n kn p vb fb sb cap cur sh) Fence.wide q Tryz.prog 88 #[.pointer (some ⟨fb,0,none⟩),.pointer (some ⟨vb,0,none⟩)] s0 w0:=by
 intro l J J' Je Jx W hW mJ mJ' mJe mJx hsee hown hfin hned hskp hY h0
 have HSEE:=hQQ hsee
 have HOWN:=hQQ hown
 have HFIN:=hQQ hfin
 have HNED:=hQQ hned
 have HSKP:=hQQ hskp
 have MJ:=hQQ mJ
 have HY:=hQQ hY
 have HJ0:=hQQ h0
 have HK:=hQQ hk
 have HOK:=hQQ hok
 have HCUR:=hQQ hcur
 have cf:=(aC (hsee _ _ h0).2.2.2.1).1
 clear hW mJ mJ' mJe mJx hsee hown hfin hned hskp hY h0 hk hok hcur
 refine callsIn_of_wp Tryz.func88 rfl trivial ?_ rfl
 simp only[Tryz.ntmps88,List.size_toArray,List.length_cons,List.length_nil,Nat.reduceAdd,Nat.reduceSub,Array.replicate_succ,Array.replicate_zero,List.push_toArray,List.append_toArray,List.nil_append,List.cons_append]
 gi_wp2
 clear cf
 gi_loopw [10] (fun u wr=>∃(j:Nat) (s:LsS),j≤sh.length∧u=.int .i64 (j:Int)∧s.i=j∧J s wr) (fun u _=>sh.length-(intOf u).toNat)
 case atStart=>exact⟨0,s0,Nat.zero_le _,rfl,h00,HJ0.o⟩
 case round =>
  obtain⟨j,s,hj,rfl,hsj,hJ⟩:=hrel
  by_cases hlt:j<sh.length
  ·have d1:decide ((j:Int)<(sh.length:Int))=true:=by simp;omega
   have d2:decide (j<sh.length)=true:=by simp[hlt]
   have q3:IntKind.i64.wrap ((j:Int)+1)=(j:Int)+1:=az (by omega) (by omega)
   obtain⟨b,ll,hbl⟩:∃b ll,sh[j]?=some (b,ll):=⟨_,_,List.getElem?_eq_getElem hlt⟩
   have hst:d6 b ll n:=HOK.o (b,ll) (List.mem_of_getElem? hbl)
   obtain⟨_,_,_,_,fr,hsb⟩:=HSEE.o s wr hJ
   obtain⟨u1,u2⟩:=HCUR.o j b ll hbl
   have c1:wr.cell? ⟨sb,j * 2,none⟩=some (.int .i64 b):=by simp[World.cell?,hsb];exact u1
   have c2:wr.cell? ⟨sb,j * 2+1,none⟩=some (.int .i64 ll):=by simp[World.cell?,hsb];exact u2
   have SB:=hQQ hsb
   have HJ1:=hQQ hJ
   have HST:=hQQ hst
   have HBL:=hQQ hbl
   have HSJ:=hQQ hsj
   clear hsb u1 u2 hJ hst hbl hsj
   obtain⟨w1,e1,g1,m1,s1⟩:=aZ wr (.cells #[.int .i64 b,.int .i64 ll] 96)
   have hF:¬s.F wr.heap.size:=fun z=>by have:=(HSEE.o s wr HJ1.o).1.lt _ z;omega
   have ST:Hq (∃s',s'.i=j∧J s' w1∧w1.heap[wr.heap.size]?=some (.cells #[.int .i64 b,.int .i64 ll] 96 (0,0))∧¬s'.F wr.heap.size):=hQQ ⟨s,HSJ.o,MJ.o _ _ _ HJ1.o m1,g1,hF⟩
   clear g1 m1 s1 hF SB
   gi_wp2
   clear c1 c2 e1 HJ1 HSJ
   generalize wr.heap.size=gB at ST⊢
   obtain⟨mes,hmes⟩:=j7 (fun A s'=>s'.i=j∧J s' A∧A.heap[gB]?=some (.cells #[.int .i64 b,.int .i64 ll] 96 (0,0))∧¬s'.F gB) (fun s'=>mea kn s'.D b ll)
   have HM:=hQQ hmes
   clear hmes
   gi_loopw [6] (fun _ A=>∃s':LsS,s'.i=j∧J s' A∧A.heap[gB]?=some (.cells #[.int .i64 b,.int .i64 ll] 96 (0,0))∧¬s'.F gB) (fun _ A=>mes A)
   case atStart=>exact ST.o
   case round =>
    obtain⟨s1,⟨hs1,hJ1,hb1,hn1⟩,hme,hmin⟩:=HM.o _ hrel
    obtain⟨v1,v2,v3,v4,fr1,v5⟩:=HSEE.o s1 _ hJ1
    have c0:=(aC v3).1
    obtain⟨c1,c2⟩:=lz hb1
    have PO:=hQQ (Jq HST.o s1.F p kn s1.D wr v1 HK.o v2)
    have HJ:=hQQ hJ1
    have HB:=hQQ hb1
    have HN:=hQQ hn1
    have HS1:=hQQ hs1
    have HME:=hQQ hme
    have HBL1:Hq (sh[s1.i]?=some (b,ll)):=hQQ (by rw[hs1];exact HBL.o)
    have HV2:=hQQ v2
    clear v1 v2 v3 v4 v5 hs1 hJ1 hb1 hn1 hme hmin hrel
    gi_wp2
    refine⟨trivial,?_⟩
    gi_at_call 89
    refine(callsIn_wide.2 PO.o).mono ?_
    intro e W3 he
    clear c0 c1 c2 PO
    rcases hE:ea b ll kn s1.D with a'|⟨⟨x,ok⟩,D1⟩
    ·rw[hE] at he
     obtain⟨rfl,hd,ht⟩:=he
     exact⟨rfl,.inr ⟨_,rfl,HNED.o s1 _ wr W3 HJ.o ⟨b,ll,a',HBL1.o,hE,rfl,hd,ht⟩⟩⟩
    ·rw[hE] at he
     obtain⟨rfl,F1,hv1,ht1,hf1⟩:=he
     cases ok with
     |false =>
      have SK:=hQQ (HSKP.o s1 _ wr W3 HJ.o ⟨b,ll,D1,F1,x,HBL1.o,hE,rfl,hv1,ht1,hf1⟩)
      clear hv1 ht1 hf1 hE
      gi_wp2
      go_roundw
      case rel=>exact⟨j+1,_,by omega,by go_num,by show s1.i+1=j+1;rw[HS1.o],SK.o⟩
      case measure=>simp[intOf];omega
     |true =>
      have hJ':=HOWN.o s1 _ wr W3 HJ.o ⟨b,ll,D1,F1,x,HBL1.o,hE,rfl,hv1,ht1,hf1⟩
      have HB3:Hq (W3.heap[gB]?=some (.cells #[.int .i64 b,.int .i64 ll] 96 (0,0))):=hQQ ((ht1.block gB (ac HB.o) HN.o).trans HB.o)
      have HN3:Hq (¬F1 gB):=hQQ fun z=>by
       rcases hf1 gB z with r|r
       ·exact HN.o r
       ·have:=ac HB.o;omega
      have HMD:=hQQ (Es HST.o HV2.o hE)
      have y9:=HY.o _ W3 hJ'
      rw[show(yp n kn p vb fb sb cap cur sh).enc ⟨s1.i,s1.P,D1,F1,x⟩= #[.int .i64 x] from rfl] at y9
      obtain⟨fn,tmps,assign,body,hy,hR⟩:=y9
      clear hv1 ht1 hf1 hE hJ'
      gi_wp2
      refine hR.mono ?_
      rintro e W4 (⟨rfl,s',⟨r1,r2,r3,r4,r5⟩,hJ3⟩|⟨he,hJx3⟩)
      ·have HJ3:=hQQ hJ3
       have HB4:=hQQ (r5 gB _ _ _ HN3.o HB3.o)
       have HN4:Hq (¬s'.F gB):=hQQ fun z=>by
        rcases r3 gB z with r|r
        ·exact HN3.o r
        ·have:=ac HB3.o;omega
       have HI4:Hq (s'.i=j):=hQQ (r1.trans HS1.o)
       have hm4:mea kn s'.D b ll=mea kn D1 b ll:=by
        unfold mea
        rw[r2 b ll HBL1.o]
       have HLT:Hq (mes W4<mes wr):=hQQ (by
        obtain⟨s2,h2,h3,h4⟩:=HM.o W4 ⟨s',HI4.o,HJ3.o,HB4.o,HN4.o⟩
        have:=h4 s' ⟨HI4.o,HJ3.o,HB4.o,HN4.o⟩
        have:=HMD.o
        have:=HME.o
        omega)
       clear r1 r2 r3 r4 r5 hJ3 hR hy hm4
       gi_wp2
       go_roundw
       case rel=>exact⟨s',HI4.o,HJ3.o,HB4.o,HN4.o⟩
       case measure=>exact HLT.o
      ·rcases he with rfl|⟨ch,rfl⟩
       ·gi_wp2
        refine bodyPost_ret (results_none rfl _ _ _) rfl ?_
        exact .inl ⟨⟨_,rfl⟩,.inr hJx3⟩
       ·exact⟨rfl,.inr ⟨ch,rfl,hJx3⟩⟩
  ·have hi2:sh.length≤s.i:=by omega
   have d1:decide ((j:Int)<(sh.length:Int))=false:=by simp;omega
   have FI:=hQQ (HFIN.o s s wr wr hJ ⟨rfl,hi2,ae.refl _⟩)
   gi_wp2
   go_end0
   exact .inl ⟨⟨_,rfl⟩,.inl ⟨s,FI.o⟩⟩
attribute [local go_sem] Oper.semAt_some
structure UpS where
 i:Nat
 L:List Int
 D:List KV
 F:Nat→Prop
 G:Nat→Prop
 a:Int
inductive NxR where
 |told (i:Nat) (a:Int)
 |skip (i:Nat)
 |fin
abbrev Bxs:=List (Nat×Array Value×TypeId×(Nat×Nat))
def JK (Bs:Bxs)(A:World):Prop:=∀b∈Bs,A.heap[b.1]?=some (.cells b.2.1 b.2.2.1 b.2.2.2)
def upI (n:Nat)(kn:Int→Option Int)(p most bt:Nat)(Bs:Bxs)(nx:Nat→Prg NxR):yz UpS where
 enc s:= #[.int .i64 s.a]
 See s A:=aE A s.F p kn s.D∧cD n s.D∧JK Bs A∧(df bt A∧¬s.F 0∧¬s.F bt)∧∀k,s.G k→k<A.heap.size
 Own s s' A B:=∃i' a D1 F1,nx s.i kn s.D=.ok (.told i' a) D1∧s'=⟨i',s.L,D1,F1,s.G,a⟩∧aE B F1 p kn D1∧Turned s.F A B∧∀k,F1 k→s.F k∨A.heap.size≤k
 Fin s s' A B:=∃D1 F1,nx s.i kn s.D=.ok .fin D1∧s'=⟨s.i,s.L,D1,F1,s.G,s.a⟩∧aE B F1 p kn D1∧Turned s.F A B∧∀k,F1 k→s.F k∨A.heap.size≤k
 Ned s ch A B:=∃a,nx s.i kn s.D=.need a∧ch=aR p∧aN B p a∧Turned s.F A B
 Skp s s' A B:=∃i' D1 F1,nx s.i kn s.D=.ok (.skip i') D1∧s'=⟨i',s.L,D1,F1,s.G,s.a⟩∧aE B F1 p kn D1∧Turned s.F A B∧∀k,F1 k→s.F k∨A.heap.size≤k
 Rel s s' A B:=s'.i=s.i∧s'.D=s.D∧s'.F=s.F∧s'.L.length=s.L.length+1∧s'.L.length<most∧(∀k,s'.G k→s.G k∨A.heap.size≤k)∧A.heap.size≤B.heap.size∧∀k cs t fr,¬s.G k→A.heap[k]?=some (.cells cs t fr)→B.heap[k]?=some (.cells cs t fr)
def vj (sh:List (Int×Int))(i:Nat):Prg NxR:=match sh[i]? with
 |some s=>aq (ea s.1 s.2) fun x=>ay (if x.2 then .told i x.1 else .skip (i+1))
 |none=>ay .fin
theorem LU {sh:List (Int×Int)}{i:Nat}{b l:Int}(h:sh[i]?=some (b,l)):vj sh i=aq (ea b l) fun x=>ay (if x.2 then .told i x.1 else .skip (i+1)):=by
 unfold vj;rw[h]
theorem wO {sh:List (Int×Int)}{i:Nat}(h:sh[i]?=none):vj sh i=ay .fin:=by
 unfold vj;rw[h]
def AN (p vb fb sb cap:Nat)(cur:Array Value)(fr:Nat×Nat)(len:Nat):Bxs:= [(vb,#[.pointer (some ⟨p,0,none⟩)],43,(0,0)),(fb,#[.slice (some ⟨sb,0,none⟩) len cap],93,(0,0)),(sb,cur,96,fr)]
theorem yq {p vb fb sb cap len:Nat}{cur:Array Value}{fr:Nat×Nat}{A:World}(h:JK (AN p vb fb sb cap cur fr len) A):A.heap[vb]?=some (.cells #[.pointer (some ⟨p,0,none⟩)] 43 (0,0))∧A.heap[fb]?=some (.cells #[.slice (some ⟨sb,0,none⟩) len cap] 93 (0,0))∧A.heap[sb]?=some (.cells cur 96 fr):=
 ⟨h (vb,#[.pointer (some ⟨p,0,none⟩)],43,(0,0)) (by simp[AN]),h (fb,#[.slice (some ⟨sb,0,none⟩) len cap],93,(0,0)) (by simp[AN]),h (sb,cur,96,fr) (by simp[AN])⟩
theorem Gr (q:Nat)(hq:1≤q){n:Nat}(p most bt vb fb sb cap:Nat)(cur:Array Value)(fr:Nat×Nat)(sh:List (Int×Int))(hsh:sh.length≤1000)(hcap:sh.length≤cap)(hok:∀s∈sh,d6 s.1 s.2 n)(hcur:∀i b l,sh[i]?=some (b,l)→cur[i * 2]?=some (.int .i64 b)∧cur[i * 2+1]?=some (.int .i64 l))(kn:Int→Option Int)(hk:OkK kn)(s0:UpS)(w0:World)(h00:s0.i=0):
 A3 (upI n kn p most bt (AN p vb fb sb cap cur fr sh.length) (vj sh)) Fence.wide q Tryz.prog 88 #[.pointer (some ⟨fb,0,none⟩),.pointer (some ⟨vb,0,none⟩)] s0 w0:=by
 intro l J J' Je Jx W hW mJ mJ' mJe mJx hsee hown hfin hned hskp hY h0
 have HSEE:=hQQ hsee
 have HOWN:=hQQ hown
 have HFIN:=hQQ hfin
 have HNED:=hQQ hned
 have HSKP:=hQQ hskp
 have MJ:=hQQ mJ
 have HY:=hQQ hY
 have HJ0:=hQQ h0
 have HK:=hQQ hk
 have HOK:=hQQ hok
 have HCUR:=hQQ hcur
 have cf:=(aC (yq (hsee _ _ h0).2.2.1).2.1).1
 clear hW mJ mJ' mJe mJx hsee hown hfin hned hskp hY h0 hk hok hcur
 refine callsIn_of_wp Tryz.func88 rfl trivial ?_ rfl
 simp only[Tryz.ntmps88,List.size_toArray,List.length_cons,List.length_nil,Nat.reduceAdd,Nat.reduceSub,Array.replicate_succ,Array.replicate_zero,List.push_toArray,List.append_toArray,List.nil_append,List.cons_append]
 gi_wp2
 clear cf
 gi_loopw [10] (fun u wr=>∃(j:Nat) (s:UpS),j≤sh.length∧u=.int .i64 (j:Int)∧s.i=j∧J s wr) (fun u _=>sh.length-(intOf u).toNat)
 case atStart=>exact⟨0,s0,Nat.zero_le _,rfl,h00,HJ0.o⟩
 case round =>
  obtain⟨j,s,hj,rfl,hsj,hJ⟩:=hrel
  by_cases hlt:j<sh.length
  ·have d1:decide ((j:Int)<(sh.length:Int))=true:=by simp;omega
   have d2:decide (j<sh.length)=true:=by simp[hlt]
   have q3:IntKind.i64.wrap ((j:Int)+1)=(j:Int)+1:=az (by omega) (by omega)
   obtain⟨b,ll,hbl⟩:∃b ll,sh[j]?=some (b,ll):=⟨_,_,List.getElem?_eq_getElem hlt⟩
   have hst:d6 b ll n:=HOK.o (b,ll) (List.mem_of_getElem? hbl)
   obtain⟨_,_,hbx,_,hG⟩:=HSEE.o s wr hJ
   have hsb:=(yq hbx).2.2
   obtain⟨u1,u2⟩:=HCUR.o j b ll hbl
   have c1:wr.cell? ⟨sb,j * 2,none⟩=some (.int .i64 b):=by simp[World.cell?,hsb];exact u1
   have c2:wr.cell? ⟨sb,j * 2+1,none⟩=some (.int .i64 ll):=by simp[World.cell?,hsb];exact u2
   have HJ1:=hQQ hJ
   have HST:=hQQ hst
   have HBL:=hQQ hbl
   have HSJ:=hQQ hsj
   have HG:=hQQ hG
   clear hsb u1 u2 hJ hst hbl hsj hG hbx
   obtain⟨w1,e1,g1,m1,s1⟩:=aZ wr (.cells #[.int .i64 b,.int .i64 ll] 96)
   have hF:¬s.F wr.heap.size:=fun z=>by have:=(HSEE.o s wr HJ1.o).1.lt _ z;omega
   have hG2:¬s.G wr.heap.size:=fun z=>by have:=HG.o _ z;omega
   have ST:Hq (∃s',s'.i=j∧J s' w1∧w1.heap[wr.heap.size]?=some (.cells #[.int .i64 b,.int .i64 ll] 96 (0,0))∧¬s'.F wr.heap.size∧¬s'.G wr.heap.size):=hQQ ⟨s,HSJ.o,MJ.o _ _ _ HJ1.o m1,g1,hF,hG2⟩
   clear g1 m1 s1 hF hG2 HG
   gi_wp2
   clear c1 c2 e1 HJ1 HSJ
   generalize wr.heap.size=gB at ST⊢
   obtain⟨mes,hmes⟩:=j7 (fun A (s':UpS)=>s'.i=j∧J s' A∧A.heap[gB]?=some (.cells #[.int .i64 b,.int .i64 ll] 96 (0,0))∧¬s'.F gB∧¬s'.G gB) (fun s'=>most-s'.L.length)
   have HM:=hQQ hmes
   clear hmes
   gi_loopw [6] (fun _ A=>∃s':UpS,s'.i=j∧J s' A∧A.heap[gB]?=some (.cells #[.int .i64 b,.int .i64 ll] 96 (0,0))∧¬s'.F gB∧¬s'.G gB) (fun _ A=>mes A)
   case atStart=>exact ST.o
   case round =>
    obtain⟨s1,⟨hs1,hJ1,hb1,hn1,hg1⟩,hme,hmin⟩:=HM.o _ hrel
    obtain⟨v1,v2,v3,v4,v5⟩:=HSEE.o s1 _ hJ1
    have c0:=(aC (yq v3).1).1
    obtain⟨c1,c2⟩:=lz hb1
    have PO:=hQQ (Jq HST.o s1.F p kn s1.D wr v1 HK.o v2)
    have HJ:=hQQ hJ1
    have HB:=hQQ hb1
    have HN:=hQQ hn1
    have HG:=hQQ hg1
    have HS1:=hQQ hs1
    have HME:=hQQ hme
    have HNX:Hq (vj sh s1.i=aq (ea b ll) fun x=>ay (if x.2 then .told s1.i x.1 else .skip (s1.i+1))):=hQQ (LU (by rw[hs1];exact HBL.o))
    clear v1 v2 v3 v4 v5 hs1 hJ1 hb1 hn1 hg1 hme hmin hrel
    gi_wp2
    refine⟨trivial,?_⟩
    gi_at_call 89
    refine(callsIn_wide.2 PO.o).mono ?_
    intro e W3 he
    clear c0 c1 c2 PO
    rcases hE:ea b ll kn s1.D with a'|⟨⟨x,ok⟩,D1⟩
    ·rw[hE] at he
     obtain⟨rfl,hd,ht⟩:=he
     exact⟨rfl,.inr ⟨_,rfl,HNED.o s1 _ wr W3 HJ.o ⟨a',by rw[HNX.o];exact ag hE,rfl,hd,ht⟩⟩⟩
    ·rw[hE] at he
     obtain⟨rfl,F1,hv1,ht1,hf1⟩:=he
     cases ok with
     |false =>
      have SK:=hQQ (HSKP.o s1 _ wr W3 HJ.o ⟨s1.i+1,D1,F1,by rw[HNX.o];exact aj hE,rfl,hv1,ht1,hf1⟩)
      clear hv1 ht1 hf1 hE
      gi_wp2
      go_roundw
      case rel=>exact⟨j+1,_,by omega,by go_num,by show s1.i+1=j+1;rw[HS1.o],SK.o⟩
      case measure=>simp[intOf];omega
     |true =>
      have hJ':=HOWN.o s1 _ wr W3 HJ.o ⟨s1.i,x,D1,F1,by rw[HNX.o];exact aj hE,rfl,hv1,ht1,hf1⟩
      have HB3:Hq (W3.heap[gB]?=some (.cells #[.int .i64 b,.int .i64 ll] 96 (0,0))):=hQQ ((ht1.block gB (ac HB.o) HN.o).trans HB.o)
      have HN3:Hq (¬F1 gB):=hQQ fun z=>by
       rcases hf1 gB z with r|r
       ·exact HN.o r
       ·have:=ac HB.o;omega
      have y9:=HY.o _ W3 hJ'
      rw[show(upI n kn p most bt (AN p vb fb sb cap cur fr sh.length) (vj sh)).enc ⟨s1.i,s1.L,D1,F1,s1.G,x⟩= #[.int .i64 x] from rfl] at y9
      obtain⟨fn,tmps,assign,body,hy,hR⟩:=y9
      clear hv1 ht1 hf1 hE hJ'
      gi_wp2
      refine hR.mono ?_
      rintro e W4 (⟨rfl,s',⟨r1,r2,r3,r4,r5,r6,r7,r8⟩,hJ3⟩|⟨he,hJx3⟩)
      ·have HJ3:=hQQ hJ3
       have HB4:=hQQ (r8 gB _ _ _ HG.o HB3.o)
       have HN4:Hq (¬s'.F gB):=hQQ (by rw[r3];exact HN3.o)
       have HG4:Hq (¬s'.G gB):=hQQ fun z=>by
        rcases r6 gB z with r|r
        ·exact HG.o r
        ·have:=ac HB3.o;omega
       have HI4:Hq (s'.i=j):=hQQ (r1.trans HS1.o)
       have HLT:Hq (mes W4<mes wr):=hQQ (by
        obtain⟨s2,h2,h3,h4⟩:=HM.o W4 ⟨s',HI4.o,HJ3.o,HB4.o,HN4.o,HG4.o⟩
        have h5:mes W4≤most-s'.L.length:=h4 s' ⟨HI4.o,HJ3.o,HB4.o,HN4.o,HG4.o⟩
        have h6:most-s1.L.length=mes wr:=HME.o
        have h7:s'.L.length=s1.L.length+1:=r4
        have h8:s'.L.length<most:=r5
        clear h2 h3 h4 r1 r2 r3 r4 r5 r6 r7 r8
        omega)
       clear r1 r2 r3 r4 r5 r6 r7 r8 hJ3 hR hy
       gi_wp2
       go_roundw
       case rel=>exact⟨s',HI4.o,HJ3.o,HB4.o,HN4.o,HG4.o⟩
       case measure=>exact HLT.o
      ·rcases he with rfl|⟨ch,rfl⟩
       ·gi_wp2
        refine bodyPost_ret (results_none rfl _ _ _) rfl ?_
        exact .inl ⟨⟨_,rfl⟩,.inr hJx3⟩
       ·exact⟨rfl,.inr ⟨ch,rfl,hJx3⟩⟩
  ·have hi2:sh.length≤s.i:=by omega
   have d1:decide ((j:Int)<(sh.length:Int))=false:=by simp;omega
   have hv:=(HSEE.o s wr hJ).1
   have FI:=hQQ (HFIN.o s _ wr wr hJ ⟨s.D,s.F,by rw[wO (List.getElem?_eq_none hi2)];rfl,rfl,hv,Turned.refl _ _,fun k q=> .inl q⟩)
   clear hv
   gi_wp2
   go_end0
   exact .inl ⟨⟨_,rfl⟩,.inl ⟨_,FI.o⟩⟩
def vo (us pg st k:Int)(i:Nat):Prg NxR:=if i=0 then aq (ms pg st k) fun r=>ay (if r then .skip 1 else .fin) else aq (ku us pg st k) fun x=>ay (if x.2 then .told 0 x.1 else .fin)
def AP (p vb lb cb:Nat)(c:Cfg)(k:Int):Bxs:= [(vb,#[.pointer (some ⟨p,0,none⟩)],43,(0,0)),(lb,c.arr,28,(0,0)),(cb,#[.int .i64 k],3,(0,0))]
theorem nI {p vb lb cb:Nat}{c:Cfg}{k:Int}{A:World}(h:JK (AP p vb lb cb c k) A):A.heap[vb]?=some (.cells #[.pointer (some ⟨p,0,none⟩)] 43 (0,0))∧A.heap[lb]?=some (.cells c.arr 28 (0,0))∧A.heap[cb]?=some (.cells #[.int .i64 k] 3 (0,0)):=
 ⟨h (vb,#[.pointer (some ⟨p,0,none⟩)],43,(0,0)) (by simp[AP]),h (lb,c.arr,28,(0,0)) (by simp[AP]),h (cb,#[.int .i64 k],3,(0,0)) (by simp[AP])⟩
theorem Db (q:Nat)(hq:1≤q){c:Cfg}(R:c.Ok){n:Nat}(H:cF c.pg c.st n)(hn:n≤10000)(p most bt vb lb cb:Nat)(k:Int)(kn:Int→Option Int)(hk:OkK kn)(s0:UpS)(w0:World)(h00:s0.i=1):
 A3 (upI n kn p most bt (AP p vb lb cb c k) (vo c.us c.pg c.st k)) Fence.wide q Tryz.prog 122 #[.pointer (some ⟨vb,0,none⟩),.pointer (some ⟨lb,0,none⟩),.pointer (some ⟨cb,0,none⟩)] s0 w0:=by
 intro l J J' Je Jx W hW mJ mJ' mJe mJx hsee hown hfin hned hskp hY h0
 have HSEE:=hQQ hsee
 have HOWN:=hQQ hown
 have HFIN:=hQQ hfin
 have HNED:=hQQ hned
 have HSKP:=hQQ hskp
 have HY:=hQQ hY
 have HJ0:=hQQ h0
 have HK:=hQQ hk
 have HR:=hQQ R
 have HH:=hQQ H
 clear hW mJ mJ' mJe mJx hsee hown hfin hned hskp hY h0 hk R H
 refine callsIn_of_wp Tryz.func122 rfl trivial ?_ rfl
 simp only[Tryz.ntmps122,List.size_toArray,List.length_cons,List.length_nil,Nat.reduceAdd,Nat.reduceSub,Array.replicate_succ,Array.replicate_zero,List.push_toArray,List.append_toArray,List.nil_append,List.cons_append]
 obtain⟨mes,hmes⟩:=j7 (fun A (s':UpS)=>s'.i=1∧J s' A) (fun s'=>most-s'.L.length)
 have HM:=hQQ hmes
 clear hmes
 gi_wp2
 gi_loopw [5] (fun _ A=>∃s':UpS,s'.i=1∧J s' A) (fun _ A=>mes A)
 case atStart=>exact⟨s0,h00,HJ0.o⟩
 case round =>
  obtain⟨s1,⟨hs1,hJ1⟩,hme,hmin⟩:=HM.o _ hrel
  obtain⟨v1,v2,v3,⟨v4,v5,v6⟩,v7⟩:=HSEE.o s1 _ hJ1
  have c0:=(aC (nI v3).1).1
  have LB:=hQQ (nI v3).2.1
  have c1:=(aC (nI v3).2.2).1
  have PO:=hQQ (NT HR.o HH.o hn s1.F p kn s1.D k wr v1 HK.o v2 bt v4 v5 v6)
  have HJ:=hQQ hJ1
  have HME:=hQQ hme
  have HNX:Hq (vo c.us c.pg c.st k s1.i=aq (ku c.us c.pg c.st k) fun x=>ay (if x.2 then .told 0 x.1 else .fin)):=hQQ (by unfold vo;rw[hs1];rfl)
  clear v1 v2 v3 v4 v5 v6 v7 hJ1 hme hmin hrel hs1
  gi_wp2_with (refine eh rfl 28 _ rfl _ rfl 28 _ _ _ LB.o Tryz.underlying28 rfl (by kernel_rfl) ?_)
  refine⟨trivial,?_⟩
  gi_at_call 123
  refine(callsIn_wide.2 PO.o).mono ?_
  intro e W3 he
  clear c0 c1 PO LB
  rcases hE:ku c.us c.pg c.st k kn s1.D with a'|⟨⟨x,ok⟩,D1⟩
  ·rw[hE] at he
   obtain⟨rfl,hd,ht⟩:=he
   exact⟨rfl,.inr ⟨_,rfl,HNED.o s1 _ wr W3 HJ.o ⟨a',by rw[HNX.o];exact ag hE,rfl,hd,ht⟩⟩⟩
  ·rw[hE] at he
   obtain⟨rfl,F1,hv1,ht1,hf1⟩:=he
   cases ok with
   |false =>
    have FI:=hQQ (HFIN.o s1 _ wr W3 HJ.o ⟨D1,F1,by rw[HNX.o];exact aj hE,rfl,hv1,ht1,hf1⟩)
    clear hv1 ht1 hf1 hE
    gi_wp2
    refine⟨fun f hh=>(by cases hh),?_⟩
    gi_wp2
    refine⟨trivial,?_⟩
    gi_wp2
    refine bodyPost_ret (results_none rfl _ _ _) rfl ?_
    exact .inl ⟨⟨_,rfl⟩,.inl ⟨_,FI.o⟩⟩
   |true =>
    have hJ':=HOWN.o s1 _ wr W3 HJ.o ⟨0,x,D1,F1,by rw[HNX.o];exact aj hE,rfl,hv1,ht1,hf1⟩
    have y9:=HY.o _ W3 hJ'
    rw[show(upI n kn p most bt (AP p vb lb cb c k) (vo c.us c.pg c.st k)).enc ⟨0,s1.L,D1,F1,s1.G,x⟩= #[.int .i64 x] from rfl] at y9
    obtain⟨fn,tmps,assign,body,hy,hR⟩:=y9
    clear hv1 ht1 hf1 hE hJ'
    gi_wp2
    refine hR.mono ?_
    rintro e W4 (⟨rfl,s',⟨r1,r2,r3,r4,r5,r6,r7,r8⟩,hJ3⟩|⟨he,hJx3⟩)
    ·obtain⟨v1,v2,v3,⟨v4,v5,v6⟩,v7⟩:=HSEE.o s' _ hJ3
     have c0:=(aC (nI v3).1).1
     have LB:=hQQ (nI v3).2.1
     have c1:=(aC (nI v3).2.2).1
     have PO:=hQQ (NR HR.o HH.o s'.F p kn s'.D k W4 v1 HK.o v2 bt v4 v5 v6)
     have HJ4:=hQQ hJ3
     have HNX4:Hq (vo c.us c.pg c.st k s'.i=aq (ms c.pg c.st k) fun r=>ay (if r then .skip 1 else .fin)):=hQQ (by unfold vo;rw[r1];rfl)
     have HL4:Hq (s'.L.length=s1.L.length+1∧s'.L.length<most):=hQQ ⟨r4,r5⟩
     clear v1 v2 v3 v4 v5 v6 v7 r1 r2 r3 r4 r5 r6 r7 r8 hJ3 hR hy
     gi_wp2_with (refine eh rfl 28 _ rfl _ rfl 28 _ _ _ LB.o Tryz.underlying28 rfl (by kernel_rfl) ?_)
     refine⟨trivial,?_⟩
     gi_at_call 24
     refine(callsIn_wide.2 PO.o).mono ?_
     intro e W5 he
     clear c0 c1 PO LB
     rcases hE:ms c.pg c.st k kn s'.D with a'|⟨ok,D2⟩
     ·rw[hE] at he
      obtain⟨rfl,hd,ht⟩:=he
      exact⟨rfl,.inr ⟨_,rfl,HNED.o s' _ W4 W5 HJ4.o ⟨a',by rw[HNX4.o];exact ag hE,rfl,hd,ht⟩⟩⟩
     ·rw[hE] at he
      obtain⟨rfl,F2,hv1,ht1,hf1⟩:=he
      cases ok with
      |false =>
       have FI:=hQQ (HFIN.o s' _ W4 W5 HJ4.o ⟨D2,F2,by rw[HNX4.o];exact aj hE,rfl,hv1,ht1,hf1⟩)
       clear hv1 ht1 hf1 hE
       gi_wp2
       refine bodyPost_ret (results_none rfl _ _ _) rfl ?_
       exact .inl ⟨⟨_,rfl⟩,.inl ⟨_,FI.o⟩⟩
      |true =>
       have SK:=hQQ (HSKP.o s' _ W4 W5 HJ4.o ⟨1,D2,F2,by rw[HNX4.o];exact aj hE,rfl,hv1,ht1,hf1⟩)
       have HLT:Hq (mes W5<mes wr):=hQQ (by
        obtain⟨s2,h2,h3,h4⟩:=HM.o W5 ⟨_,rfl,SK.o⟩
        have h5:mes W5≤most-s'.L.length:=h4 ⟨1,s'.L,D2,F2,s'.G,s'.a⟩ ⟨rfl,SK.o⟩
        have h6:most-s1.L.length=mes wr:=HME.o
        have h7:=HL4.o
        clear h2 h3 h4 hv1 ht1 hf1 hE
        omega)
       clear hv1 ht1 hf1 hE
       gi_wp2
       go_roundw
       case rel=>exact⟨_,rfl,SK.o⟩
       case measure=>exact HLT.o
    ·rcases he with rfl|⟨ch,rfl⟩
     ·gi_wp2
      refine⟨trivial,?_⟩
      gi_wp2
      refine bodyPost_ret (results_none rfl _ _ _) rfl ?_
      exact .inl ⟨⟨_,rfl⟩,.inr hJx3⟩
     ·exact⟨rfl,.inr ⟨ch,rfl,hJx3⟩⟩
def oM (b:Int):Nat→Nat→List Int→Prg (List Int)
 | 0,_,xs=>ay xs
 |m+1,i,xs=>aq (cU (b+1+i)) fun y=>oM b m (i+1) (xs++ [y])
def oN (b l:Int):Prg (List Int):=aq (jQ b l) fun m=>oM b m.toNat 0 []
theorem pP (b:Int):∀(m i:Nat) (xs:List Int),bg (oM b m i xs)
 | 0,_,_=>ah _
 |m+1,i,xs=>ak (dy _) fun y=>pP b m (i+1) _
theorem AQ (b l:Int):bg (oN b l):=ak (pG b l) fun _=>pP _ _ _ _
theorem rG {b:Int}{n:Nat} :∀(m i:Nat) (xs:List Int),b+1+i+m≤n→bK n (fun ys:List Int=>ys.length=xs.length+m) (oM b m i xs)
 | 0,_,xs,_=>ai n rfl
 |m+1,i,xs,h=>ar (bd n (by omega)) fun y _=>cW (rG m (i+1) _ (by omega)) fun ys q=>by rw[q];simp;omega
theorem uK {b l:Int}{n:Nat}(H:d6 b l n):bK n (fun ys:List Int=>(ys.length:Int)≤l) (oN b l):=
 ar (gu H) fun m hm=>cW (rG m.toNat 0 [] (by have:=H.hi;omega)) fun ys q=>by rw[q];simp;omega
def uL (b l:Int)(ws:List Int):List Int:=(List.range (a6 l (wAt ws b)).toNat).map fun i:Nat=>wAt ws (b+1+(i:Int))
theorem rH {b:Int}{n:Nat}(hb:0≤b):∀(m i:Nat) (xs:List Int),b+1+i+m≤n→bG n (oM b m i xs) (fun ws=>(xs++(List.range m).map fun j:Nat=>wAt ws (b+1+((i+j:Nat):Int)),ws))
 | 0,i,xs,_=>aU (au n xs) fun ws _=>by simp
 |m+1,i,xs,h=>by
  refine aU (aA (dW (by omega) (by omega)) fun y=>rH hb m (i+1) (xs++ [y]) (by omega)) fun ws _=>?_
  simp only[List.append_assoc,List.range_succ_eq_map,List.map_cons,List.map_map,List.cons_append,List.nil_append]
  congr 2
  congr 1
  refine List.map_congr_left fun j _=>?_
  show _=wAt ws (b+1+((i+(j+1):Nat):Int))
  congr 2
  omega
theorem Dc {α β:Type}{n:Nat}{p:Prg α}{f:α→Prg β}{g:List Int→α×List Int}{k:α→List Int→β×List Int}{Q:α→Prop}(h:bG n p g)(G:bK n Q p)(hf:∀x,Q x→bG n (f x) (k x)):bG n (aq p f) (fun ws=>k (g ws).1 (g ws).2):=fun zs D hn hz hD=>by
 obtain⟨D1,e1,a1,i1⟩:=h zs D hn hz hD
 obtain⟨D2,e2,a2,i2⟩:=hf (g (ce zs D)).1 (G.ok (jI hz) hD e1).2 zs D1 hn hz i1
 refine⟨D2,?_,?_,i2⟩
 ·rw[aj e1,e2,a1]
 ·rw[a2,a1]
theorem Dd {b l:Int}{n:Nat}(H:d6 b l n):bG n (oN b l) (fun ws=>(uL b l ws,ws)):=by
 have h1:=H.b1
 refine aU (Dc (rn H) (gu H) fun m hm=>rH (by omega) m.toNat 0 [] (by have:=H.hi;omega)) fun ws _=>?_
 unfold uL
 simp
theorem yr {ops:Array Oper}{rest:List Oper}{o:Oper}{a:Act}{Q:Exit→Act→World→Prop}{base:Nat}{w:World}{v:Value}{xs:List Int}(y:Int)(hgd:o.guard=none)(s x:Operand)
 (ho:o.op=.call { callee:= .builtin .append,args:= #[s,x],argTypes:= #[29,29] })
 (hs:a.eval s=v) (hn:Rw base w v xs) (hb:base≤w.heap.size) (hl:xs.length≤1000000)
 (hx:a.eval x=.slice (some ⟨w.heap.size,0,none⟩) 1 1)
 (h:∀v' w',Rw base w' v' (xs++ [y])→Turned (fun k=>v.ownBlock=some k) (w.alloc (.cells #[.int .i64 y] 3)) w'→(∀k,v'.ownBlock=some k→v.ownBlock=some k∨k=(w.alloc (.cells #[.int .i64 y] 3)).heap.size)→wpList Tryz.prog ops Q rest (a.put o.dst v') w'):wpList Tryz.prog ops Q (o::rest) a (w.alloc (.cells #[.int .i64 y] 3)):=by
 have m:ae w (w.alloc (.cells #[.int .i64 y] 3)):=(ae.refl w).alloc _
 exact wpList_plain hgd fun K hK=>DK y s x ho hs (hn.more m) (by have:=m.size;omega) hl hx (bh w _) (fun v' w' h1 h2 h3=>hK _ _ (h v' w' h1 h2 h3))
def eJ (b:Nat)(xs:List Int)(v:Value)(w:World)(F:Nat→Prop):Prop:=gv b F w v xs
theorem Om {b l:Int}{n:Nat}(H:d6 b l n)(hn:n≤10000)(F:Nat→Prop)(p:Nat)(kn:Int→Option Int)(D:List KV)(w:World)(hv:aE w F p kn D)(hk:OkK kn)(hD:cD n D):
 Calls Tryz.prog 46 #[.pointer (some ⟨p,0,none⟩),.int .i64 b,.int .i64 l] w (fy w F p kn (eJ w.heap.size) (oN b l kn D)):=by
 obtain⟨Rr,hRr⟩:∃Rr,oN b l kn D=Rr:=⟨_,rfl⟩
 rw[hRr]
 obtain⟨w1,e1,hl1,m1,s1⟩:=aZ w (.cells #[.int .i64 b,.int .i64 l] 134)
 have nFl:¬F w.heap.size:=fun q=>by have:=hv.lt _ q;omega
 have MM:=hQQ m1
 have L0:=hQQ hl1
 have M0:Hq (MidV w1 w1 F (fun _=>False) p kn n D F):=hQQ (MidV.begin (hv.more m1) hD)
 have KL:Hq (∀wr D' F',MidV w1 wr F (fun _=>False) p kn n D' F'→wr.heap[w.heap.size]?=some (.cells #[.int .i64 b,.int .i64 l] 134 (0,0))):=hQQ fun wr D' F' h=>cE h L0.o nFl (fun q=>q)
 have NEED:Hq (∀a w2,Rr=.need a→aN w2 p a→Turned (fun b=>F b∨False) w1 w2→fy w F p kn (eJ w.heap.size) Rr (.panicked (aR p)) w2):=hQQ fun a w2 e hd ht=>ko MM.o (fun _ q=>q.elim) e hd ht
 have DONE:Hq (∀x v w2 D' F',Rr=.ok x D'→MidV w1 w2 F (fun _=>False) p kn n D' F'→(eJ w.heap.size) x v w2 F'→fy w F p kn (eJ w.heap.size) Rr (.returned v) w2):=hQQ fun x v w2 D' F' e h hp=>kq MM.o (fun _ q=>q.elim) h e hp
 have HK:=hQQ hk
 have HH:=hQQ H
 have HRr:=hQQ hRr
 have hw1:w.heap.size≤w1.heap.size:=by omega
 obtain⟨c0,c1⟩:=lz hl1
 clear hl1 m1 hv hD hk H nFl hRr
 go_enter Tryz.func46,Tryz.ntmps46
 go_wp2_with fail
 refine(yc HH.o F p kn D w1 M0.o.view HK.o M0.o.inv).mono ?_
 intro e w2 he
 rcases M0.o.step (ae.refl _) HK.o (gu HH.o) he with⟨a',hE,rfl,hd',ht',_⟩|⟨m,D2,F2,hE,rfl,M2',hq2,_,_⟩
 ·exact⟨rfl,NEED.o a' w2 (HRr.o.symm.trans (ag hE)) hd' ht'⟩
 have R2:=hQQ ((aj hE).symm.trans HRr.o)
 have M2:=hQQ M2'
 have b1:=HH.o.b1;have hi1:=HH.o.hi;have ht1:=HH.o.top
 obtain⟨m0,m1⟩:=hq2
 obtain⟨mm,rfl⟩:∃mm:Nat,m=mm:=⟨m.toNat,by omega⟩
 rw[Int.toNat_natCast] at R2
 clear he hE M2' c0 c1 e1
 go_wp2_with fail
 go_loopw [8,16] (fun v i wr=>∃(k:Nat) (xs:List Int) (D':List KV) (F':Nat→Prop),i=.int .i64 (k:Int)∧k≤mm∧MidV w1 wr F (fun _=>False) p kn n D' F'∧gv w1.heap.size F' wr v xs∧xs.length=k∧oM b (mm-k) k xs kn D'=Rr) (fun _ i _=>mm-(intOf i).toNat)
 case atStart=>exact⟨0,[],D2,F2,rfl,Nat.zero_le _,M2.o,gv.nil _ _ _,rfl,R2.o⟩
 case round =>
  obtain⟨k,xs,D',F',rfl,hk,mi,ri,hl,hs⟩:=hrel
  by_cases hlt:k<mm
  ·have d1:decide ((k:Int)<(mm:Int))=true:=by simp;omega
   have q3:IntKind.i64.wrap ((k:Int)+1)=(k:Int)+1:=az (by omega) (by omega)
   rw[show mm-k=(mm-(k+1))+1 by omega] at hs
   have RI:=hQQ (show aq (cU (b+1+k)) (fun y=>oM b (mm-(k+1)) (k+1) (xs++ [y])) kn D'=Rr from hs)
   have MI:=hQQ mi
   have RWI:=hQQ ri
   have HL:=hQQ hl
   obtain⟨c0,c1⟩:=lz (KL.o _ _ _ mi)
   have WD:=hQQ (ya b l (k:Int) wr)
   rw[qH HH.o,show dv b l (k:Int)=b+1+k by unfold dv;rw[if_neg (by omega)]] at WD
   clear mi ri hl hs
   go_wp2_with fail
   refine WD.o.mono ?_
   rintro e w4 ⟨rfl,h4⟩
   have M4:=hQQ (MI.o.more h4)
   have R4:=hQQ (RWI.o.more h4)
   clear h4 c0 c1 WD
   go_wp2_with fail
   refine(jl F' p kn D' (b+1+k) w4 M4.o.view (by unfold W64;omega)).mono ?_
   intro e w5 he
   rcases M4.o.step (ae.refl _) HK.o (bd n (by omega)) he with⟨a',hE,rfl,hd',ht',_⟩|⟨y,D5,F5,hE,rfl,M5',hq5,hk5,hn5⟩
   ·exact⟨rfl,NEED.o a' w5 (RI.o.symm.trans (ag hE)) hd' ht'⟩
   have R5:=hQQ ((aj hE).symm.trans RI.o)
   have M5:=hQQ M5'
   have RW5:=hQQ (R4.o.went hk5 hn5)
   have HX:Hq (w1.heap.size≤w5.heap.size):=hQQ M5'.size
   have HL5:Hq (xs.length≤1000000):=hQQ (by have:=HL.o;omega)
   clear he hE M5' hk5 hn5
   go_wp2_with (at_builtin;refine yr y rfl _ _ rfl rfl RW5.o.1 HX.o HL5.o rfl ?_;intro v6 w6 h6 t6 k6;obtain⟨g1,g2⟩:=(M5.o.more ((ae.refl w5).alloc (.cells #[.int .i64 y] 3))).grew (RW5.o.more ((ae.refl w5).alloc _)) (Nat.le_refl _) t6 h6 k6;have M6:=hQQ g1;have R6:=hQQ g2;clear h6 t6 k6 g1 g2)
   go_roundw
   case rel=>exact⟨k+1,xs++ [y],D5,F5,by go_num,by omega,M6.o,R6.o,by rw[List.length_append,HL.o];rfl,R5.o⟩
   case measure=>simp[intOf];omega
  ·obtain rfl:k=mm:=by omega
   have d1:decide ((k:Int)<(k:Int))=false:=by simp
   rw[Nat.sub_self] at hs
   have FIN:=hQQ (DONE.o xs u8 wr D' F' hs.symm mi (ri.mono hw1))
   clear mi ri hl hs
   go_wp2_with fail
   go_ret
   exact FIN.o
end Go.Proofs.YtddmeghbmdfgeaaGreatDoor
