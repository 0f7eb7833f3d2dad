/-
  The landed package front: upTo: the first blocks that an iterator hands on are listed.
-/
import Derived.Test.YtddmeghbmdfgeaaGreatDoorFtAn
import Derived.Test.YtddmeghbmdfgeaaGreatDoorFtAj
import Derived.Test.YtddmeghbmdfgeaaGreatDoorFtAg
set_option maxRecDepth 100000
set_option maxHeartbeats 8000000
set_option linter.all false
namespace Go.Proofs.YtddmeghbmdfgeaaGreatDoor
open Go.RowKit Go.Sort Go.Maps Go.Shelf
attribute [local go_sem] Oper.semAt_some
theorem iM.cells {b:Nat}{F F':Nat→Prop}{w w':World}{v:Value}{xs:List Int}(h:iM b F w v xs)(hk:∀k cs t fr,¬F k→w.heap[k]?=some (.cells cs t fr)→w'.heap[k]?=some (.cells cs t fr))(hf:∀k,F' k→F k∨w.heap.size≤k):iM b F' w' v xs:=by
 obtain⟨r,n⟩:=h
 have key:∀k,v.ownBlock=some k→¬F' k:=fun k q z=>by
  rcases hf k z with y|y
  ·exact(n k q).1 y
  ·have:=(n k q).2.2;omega
 rcases r with⟨h1,q|⟨g,cap,cur,rfl,hb,hg,rest⟩⟩
 ·exact⟨⟨h1,.inl q⟩,fun k q'=>by rw[q.1] at q';cases q'⟩
 ·have hg':=hk g _ _ _ (n g rfl).1 hg
  exact⟨⟨h1,.inr ⟨g,cap,cur,rfl,hb,hg',rest⟩⟩,fun k q=>by
   have:g=k:=by simpa [Value.ownBlock] using q
   subst this
   exact⟨key g rfl,hb,ac hg'⟩⟩
theorem uF {Fc:Fence}{m:Nat}{ops:Array Oper}{rest:List Oper}{o:Oper}{a:Act}{Q:Exit→Act→World→Prop}{base:Nat}{w:World}{v:Value}{xs:List Int}(y:Int)(hgd:o.guard=none)(s x:Operand)
 (ho:o.op=.call { callee:= .builtin .append,args:= #[s,x],argTypes:= #[29,29] })
 (hs:a.eval s=v) (hn:Rw base w v xs) (hb:base≤w.heap.size) (hl:xs.length≤1000000)
 (hx:a.eval x=.slice (some ⟨w.heap.size,0,none⟩) 1 1)
 (h:∀g cap w',Rw base w' (.slice (some ⟨g,0,none⟩) (xs.length+1) cap) (xs++ [y])→Turned (fun k=>v.ownBlock=some k) (w.alloc (.cells #[.int .i64 y] 3)) w'→(v.ownBlock=some g∨g=(w.alloc (.cells #[.int .i64 y] 3)).heap.size)→wpListIn Fc m Tryz.prog ops Q rest (a.put o.dst (.slice (some ⟨g,0,none⟩) (xs.length+1) cap)) w'):wpListIn Fc m Tryz.prog ops Q (o::rest) a (w.alloc (.cells #[.int .i64 y] 3)):=by
 have mo:ae w (w.alloc (.cells #[.int .i64 y] 3)):=(ae.refl w).alloc _
 have hg:=bz w (.cells #[.int .i64 y] 3)
 have hn2:=hn.more mo
 have hb2:=Nat.le_trans hb mo.size
 generalize w.alloc (.cells #[.int .i64 y] 3)=w1 at *
 obtain⟨i,i1,i2,i3,i4⟩:=kB
 refine wpListIn_plain hgd fun K hK'=>?_
 obtain⟨g,cap,w',hrun,h2,h3,h4,h5⟩:=run_append_lies (P:=Tryz.prog) w1 29 o.type base 3 i _ 1 8 Tryz.underlying29 i1 i2 i3 i4 rfl (by omega) v xs.length _ hn2 ⟨w.heap.size,0,none⟩ 1 1 [.int .i64 y] (by simp)
  (fun j u hu=>World.news_of_block hg j u (by simpa using hu)) (by intro u hu;simp at hu;subst hu;rfl) (by omega) (by simp only[maxLen];omega) (by omega) hb2 _ rfl
 have ht:Turned (fun k=>v.ownBlock=some k) w1 w':=⟨h3.os,h3.tape,h3.output,h3.size,fun k hk hne=>h3.block k hk (fun e=>hne e.symm)⟩
 have fin:=h g cap w' (by
  unfold Rw
  rw[List.length_append,List.map_append]
  exact h2) ht h4
 unfold Oper.wpIn
 refine⟨?_,?_⟩
 ·simp[Oper.about,ho,resolve,Target.leads,Sem.run_pure]
 ·rw[Oper.semAt_plain Fc _ _ (by rw[ho];intro c hc';cases hc')]
  simp[execOp,ho,resolve,invoke,builtin,hs,hx,hrun,Result.andThen]
  exact hK' _ _ fin
theorem Nk {v:Value}{g m cap N:Nat}(h:v.ownBlock=some g∨g=N):∀k,(Value.slice (some ⟨g,0,none⟩) m cap).ownBlock=some k→v.ownBlock=some k∨k=N:=fun k q=>by
 have e:g=k:=by simpa [Value.ownBlock] using q
 subst e
 exact h
structure UpZ (w6:World)(F:Nat→Prop)(lb p:Nat)(kn:Int→Option Int)(n base:Nat)(Bs:Bxs)(Sem:UpS→Prop)(s:UpS)(A:World):Prop where
 on:OnV w6 A F (fun k=>k=lb) p kn n s.D s.F
 box:∃v,A.heap[lb]?=some (.cells #[v] 29 (0,0))∧iM base s.F A v s.L∧∀k,v.ownBlock=some k→s.G k
 gl:s.G lb
 g:∀k,s.G k→k<A.heap.size∧¬s.F k∧(k=lb∨w6.heap.size+2≤k)
 bx:I5 Bs A
 nb:∀b∈Bs,¬s.F b.1∧¬s.G b.1
 sem:Sem s
namespace UpZ
variable {w6:World}{F:Nat→Prop}{lb p:Nat}{kn:Int→Option Int}{n base:Nat}{Bs:Bxs}{Sem:UpS→Prop}{s:UpS}{A B:World}
theorem stays (h:UpZ w6 F lb p kn n base Bs Sem s A)(on:OnV w6 B F (fun k=>k=lb) p kn n s.D s.F)(hs:A.heap.size≤B.heap.size)(hk:∀(k:Nat)(cs:Array Value)(t:TypeId)(fr:Nat×Nat),A.heap[k]?=some (.cells cs t fr)→B.heap[k]?=some (.cells cs t fr)):UpZ w6 F lb p kn n base Bs Sem s B:=by
 obtain⟨v,h1,h2,h3⟩:=h.box
 exact⟨on,⟨v,hk _ _ _ _ h1,h2.cells (fun k cs t fr _ q=>hk k cs t fr q) (fun k q=> .inl q),h3⟩,h.gl,fun k q=>⟨Nat.lt_of_lt_of_le (h.g k q).1 hs,(h.g k q).2⟩,fun b hb=>hk _ _ _ _ (h.bx b hb),h.nb,h.sem⟩
theorem books (hF:∀k,F k→k<w6.heap.size)(s:UpS):jt w6.heap.size (UpZ w6 F lb p kn n base Bs Sem s):=
 ⟨fun {A A'} h m=>h.stays (h.on.more m) m.size fun k cs t fr q=>m.block q,
  fun {A r} r' h hl=>h.stays (h.on.put hF r' hl) (by simp) fun k cs t fr q=>(World.putObj_heap_other (by rintro rfl;rw[hl] at q;cases q)).trans q⟩
theorem went (h:UpZ w6 F lb p kn n base Bs Sem s A)(hsz:w6.heap.size+2≤A.heap.size){F1:Nat→Prop}{D1:List KV}(hv:aF B F1 p kn D1)(ht:Turned s.F A B)(hf:∀k,F1 k→s.F k∨A.heap.size≤k)(hi:cI n D1){Sem':UpS→Prop}{i:Nat}{a:Int}(hs:Sem' ⟨i,s.L,D1,F1,s.G,a⟩):UpZ w6 F lb p kn n base Bs Sem' ⟨i,s.L,D1,F1,s.G,a⟩ B:=by
 obtain⟨v,h1,h2,h3⟩:=h.box
 have keep:∀k,k<A.heap.size→¬s.F k→B.heap[k]?=A.heap[k]? :=fun k hk nk=>ht.block k hk nk
 refine⟨⟨hv,fun k q=>?_,ak h.on.turn ht (fun k q=>(h.on.from' k q).imp .inl (fun r=>by omega)),hi⟩,⟨v,?_,h2.cells (fun k cs t fr nk q=>(keep k (ac q) nk).trans q) hf,h3⟩,h.gl,fun k q=>⟨Nat.lt_of_lt_of_le (h.g k q).1 ht.size,fun z=>?_,(h.g k q).2.2⟩,fun b hb=>?_,fun b hb=>⟨fun z=>?_,(h.nb b hb).2⟩,hs⟩
 ·rcases hf k q with r|r
  ·exact h.on.from' k r
  ·exact .inr (by omega)
 ·exact(keep lb (ac h1) (h.g lb h.gl).2.1).trans h1
 ·rcases hf k z with r|r
  ·exact(h.g k q).2.1 r
  ·have:=(h.g k q).1;omega
 ·have:=h.bx b hb
  exact(keep _ (ac this) (h.nb b hb).1).trans this
 ·rcases hf _ z with r|r
  ·exact(h.nb b hb).1 r
  ·have:=ac (h.bx b hb);omega
theorem push (h:UpZ w6 F lb p kn n base Bs Sem s A)(hsz:w6.heap.size+2≤A.heap.size){o:Obj}{v v':Value}{W2:World}(h1:A.heap[lb]?=some (.cells #[v] 29 (0,0)))(h3:∀k,v.ownBlock=some k→s.G k)(hr:Rw base W2 v' (s.L++ [s.a]))
 (ht:Turned (fun k=>v.ownBlock=some k) (A.alloc o) W2) (hv':∀k,v'.ownBlock=some k→v.ownBlock=some k∨k=(A.alloc o).heap.size) (hlb6:lb<w6.heap.size):
 W2.heap[lb]?=some (.cells #[v] 29 (0,0))∧bR (dK w6.heap.size) A (W2.setCell ⟨lb,0,none⟩ v')∧(W2.setCell ⟨lb,0,none⟩ v').heap[lb]?=some (.cells #[v'] 29 (0,0))∧A.heap.size≤(W2.setCell ⟨lb,0,none⟩ v').heap.size∧(∀k cs t fr,¬s.G k→A.heap[k]?=some (.cells cs t fr)→(W2.setCell ⟨lb,0,none⟩ v').heap[k]?=some (.cells cs t fr))∧(∀k,(s.G k∨v'.ownBlock=some k)→s.G k∨A.heap.size≤k) ∧
 ∀Sem':UpS→Prop,Sem' ⟨s.i,s.L++ [s.a],s.D,s.F,fun k=>s.G k∨v'.ownBlock=some k,s.a⟩→UpZ w6 F lb p kn n base Bs Sem' ⟨s.i,s.L++ [s.a],s.D,s.F,fun k=>s.G k∨v'.ownBlock=some k,s.a⟩ (W2.setCell ⟨lb,0,none⟩ v'):=by
 have m0:ae A (A.alloc o):=(ae.refl A).alloc o
 have tA:Turned (fun k=>v.ownBlock=some k) A W2:=ak (Turned.mono m0 (fun _ _ q=>q.elim)) ht (fun k q=> .inl q)
 have tB:Turned (fun k=>v.ownBlock=some k∨k=lb) A (W2.setCell ⟨lb,0,none⟩ v'):=Turned.setCell (Turned.mono tA (fun k _ q=> .inl q)) ⟨lb,0,none⟩ v' (fun _=> .inr rfl)
 have hG:∀k,(v.ownBlock=some k∨k=lb)→s.G k:=by
  rintro k (q|rfl)
  ·exact h3 k q
  ·exact h.gl
 have own:∀k,v.ownBlock=some k→∃cur fr,A.heap[k]?=some (.cells cur 3 fr):=by
  obtain⟨u,q1,q2,q3⟩:=h.box
  rw[h1] at q1;cases q1
  intro k e
  rcases q2.1.2 with⟨rfl,_⟩|⟨g,cap,cur,rfl,hb,hg,_⟩
  ·cases e
  ·have:g=k:=by simpa [Value.ownBlock] using e
   subst this
   exact⟨_,_,hg⟩
 have nl:v.ownBlock≠some lb:=fun e=>by
  obtain⟨cur,fr,q⟩:=own lb e
  rw[h1] at q;cases q
 have hmap:∀k es cl,v.ownBlock=some k→A.heap[k]? ≠some (.map es cl):=fun k es cl e z=>by
  obtain⟨cur,fr,q⟩:=own k e
  rw[z] at q;cases q
 have hlb:v'.ownBlock≠some lb:=fun e=>by
  rcases hv' lb e with r|r
  ·exact nl r
  ·have:=m0.size;have:=ac h1;omega
 have hl2:W2.heap[lb]?=some (.cells #[v] 29 (0,0)):=(tA.block lb (ac h1) (fun q=>nl q)).trans h1
 have hl3:(W2.setCell ⟨lb,0,none⟩ v').heap[lb]?=some (.cells #[v'] 29 (0,0)):=li v' hl2
 have keep:∀k,k<A.heap.size→¬s.G k→(W2.setCell ⟨lb,0,none⟩ v').heap[k]?=A.heap[k]? :=fun k hk nk=>tB.block k hk (fun q=>nk (hG k q))
 have grow:∀k,(s.G k∨v'.ownBlock=some k)→s.G k∨A.heap.size≤k:=by
  rintro k (q|q)
  ·exact .inl q
  ·rcases hv' k q with r|r
   ·exact .inl (h3 k r)
   ·right;rw[r];exact m0.size
 have nF:∀k,(s.G k∨v'.ownBlock=some k)→¬s.F k:=fun k q z=>by
  rcases grow k q with r|r
  ·exact(h.g k r).2.1 z
  ·have:=h.on.view.lt k z;omega
 have on':OnV w6 (W2.setCell ⟨lb,0,none⟩ v') F (fun k=>k=lb) p kn n s.D s.F:=by
  refine⟨h.on.view.keepS tB (fun k q z=>(h.g k (hG k z)).2.1 q) (fun k es cl z e=>?_),h.on.from',ak h.on.turn tB (fun k z=>?_),h.on.inv⟩
  ·rcases z with z|rfl
   ·exact hmap k es cl z e
   ·rw[h1] at e;cases e
  ·rcases (h.g k (hG k z)).2.2 with r|r
   ·exact .inl (.inr r)
   ·exact .inr (by omega)
 have tC:Turned (fun k=>k=lb) W2 (W2.setCell ⟨lb,0,none⟩ v'):=Turned.setCell (Turned.refl _ W2) ⟨lb,0,none⟩ v' (fun _=>rfl)
 have hr3:Rw base (W2.setCell ⟨lb,0,none⟩ v') v' (s.L++ [s.a]):=hr.keepT tC (fun k q e=>hlb (e▸q))
 refine⟨hl2,bR.turned tB (fun k q=>by rcases q with q|q<;>omega) (fun k q z=>?_),hl3,tB.size,fun k cs t fr nk q=>(keep k (ac q) nk).trans q,grow,fun Sem' hs=>⟨on',⟨v',hl3,⟨hr3,fun k q=>⟨nF k (.inr q),(hr3.own q).1,(hr3.own q).2⟩⟩,fun k q=> .inr q⟩,.inl h.gl,fun k q=>⟨?_,nF k q,?_⟩,fun b hb=>?_,fun b hb=>⟨(h.nb b hb).1,fun z=>?_⟩,hs⟩⟩
 ·rcases (h.g k (hG k z)).2.2 with r|r
  ·rcases q with q|q<;>omega
  ·rcases q with q|q<;>omega
 ·rcases q with q|q
  ·exact Nat.lt_of_lt_of_le (h.g k q).1 tB.size
  ·exact(hr3.own q).2
 ·rcases grow k q with r|r
  ·exact(h.g k r).2.2
  ·exact .inr (by omega)
 ·have:=h.bx b hb
  exact(keep _ (ac this) (h.nb b hb).2).trans this
 ·rcases grow _ z with r|r
  ·exact(h.nb b hb).2 r
  ·have:=ac (h.bx b hb);omega
end UpZ
structure UpH (kn:Int→Option Int)(n most:Nat)(nx:Nat→Prg NxR)(Sem:Nat→List Int→List KV→Prop)(Sem':Nat→List Int→List KV→Int→Prop)(Rr:Res (List Int)):Prop where
 good:∀i,bZ n (fun _=>True) (nx i)
 told:∀i L D j a D1,Sem i L D→nx i kn D=.ok (.told j a) D1→Sem' j L D1 a
 skip:∀i L D j D1,Sem i L D→nx i kn D=.ok (.skip j) D1→Sem j L D1
 fin:∀i L D D1,Sem i L D→nx i kn D=.ok .fin D1→Rr=.ok L D1
 need:∀i L D a,Sem i L D→nx i kn D=.need a→Rr=.need a
 less:∀i L D a,Sem' i L D a→L.length<most
 more:∀i L D a,Sem' i L D a→L.length+1<most→Sem i (L++ [a]) D
 full:∀i L D a,Sem' i L D a→¬L.length+1<most→Rr=.ok (L++ [a]) D
theorem I6 {w w6 W:World}{F:Nat→Prop}{p:Nat}{kn:Int→Option Int}{n:Nat}{Bs:Bxs}{Rr:Res (List Int)}{s:UpS}{x:Option (List Deferred)}(hF6:∀k,F k→k<w6.heap.size)(m6:ae w w6)(s6:w6.heap.size=w.heap.size+2)(h:UpZ w6 F (w.heap.size+1) p kn n w.heap.size Bs (fun s=>Rr=.ok s.L s.D) s W)(hdf:W.heap[w6.heap.size]?=some (.deferred x)):
 ∃v,W.heap[w.heap.size+1]?=some (.cells #[v] 29 (0,0))∧ie w F p kn (kg w.heap.size) Rr (.returned v) (W.putObj w6.heap.size (.deferred none)):=by
 obtain⟨v,h1,h2,h3⟩:=h.box
 refine⟨v,h1,?_⟩
 have hon:=h.on.view.keepS (S:=fun k=>k=w6.heap.size) (w':=W.putObj w6.heap.size (.deferred none)) (fL (Turned.refl _ W) _ _ (fun _=>rfl)) (fun k q e=>by subst e;rcases h.on.from' _ q with r|r;have:=hF6 _ r;omega;omega) (fun k es cl e q=>by subst e;rw[hdf] at q;cases q)
 have ht:Turned F w W:=ak (Turned.mono m6 (fun k _ q=>(q.elim:F k))) h.on.turn (fun k q=>q.imp id (fun r=>by omega))
 have hs:=h.sem
 try simp only at hs
 rw[hs]
 refine⟨v,s.F,rfl,h2.cells (fun k cs t fr nk q=>(World.putObj_heap_other (by rintro rfl;rw[hdf] at q;cases q)).trans q) (fun k q=> .inl q),hon,fL ht _ _ (fun q=>by omega),fun k q=>(h.on.from' k q).imp id (fun r=>by omega)⟩
def UpX (w6:World)(F:Nat→Prop)(lb p:Nat)(kn:Int→Option Int)(n base:Nat)(Bs:Bxs)(Rr:Res (List Int)):Exit→World→Prop
 | .panic ch,W=>ch=bB p∧∃a,Rr=.need a∧oF w6 W F (fun k=>k=lb) p a
 | .exit i,W=>i=0∧∃s,UpZ w6 F lb p kn n base Bs (fun s=>Rr=.ok s.L s.D) s W
 | _,_=>False
theorem Fx {w6:World}{F:Nat→Prop}(hF:∀k,F k→k<w6.heap.size){lb p:Nat}{kn:Int→Option Int}{n base:Nat}{Bs:Bxs}{Rr:Res (List Int)}(e:Exit):jt w6.heap.size (UpX w6 F lb p kn n base Bs Rr e):=by
 cases e with
 |panic ch=>exact⟨fun {A A'} h m=>by obtain⟨h1,a,h2,h3⟩:=h;exact⟨h1,a,h2,h3.more m⟩,fun {A r} r' h hl=>by obtain⟨h1,a,h2,h3⟩:=h;exact⟨h1,a,h2,h3.put hl rfl (by omega) _⟩⟩
 |exit i=>exact⟨fun {A A'} h m=>by obtain⟨h1,s,h2⟩:=h;exact⟨h1,s,(UpZ.books hF s).more h2 m⟩,fun {A r} r' h hl=>by obtain⟨h1,s,h2⟩:=h;exact⟨h1,s,(UpZ.books hF s).put r' h2 hl⟩⟩
 |ret=>exact⟨fun {A A'} h m=>h,fun {A r} r' h hl=>h⟩
 |normal=>exact⟨fun {A A'} h m=>h,fun {A r} r' h hl=>h⟩
 |goto _=>exact⟨fun {A A'} h m=>h,fun {A r} r' h hl=>h⟩
 |outgrown=>exact⟨fun {A A'} h m=>h,fun {A r} r' h hl=>h⟩
theorem I7 {n most bt:Nat}(F:Nat→Prop)(p:Nat)(kn:Int→Option Int)(D:List KV)(hk:OkK kn){nx:Nat→Prg NxR}{Bs:Bxs}{gf:Nat}{lc:Array Value}(heg:∀args w,Sem.run Tryz.prog (callFunc gf args) w=.ok (.enter gf args) w)
 {Sem:Nat→List Int→List KV→Prop} {Sem':Nat→List Int→List KV→Int→Prop} {Rr:Res (List Int)} (U:UpH kn n most nx Sem Sem' Rr) (hm:most≤1000000) (i0:Nat) (w:World) (hseq:∀s0 w0,s0.i=i0→Al (upI n kn p most bt Bs nx) Fence.wide 2 Tryz.prog gf lc s0 w0)
 (hv:aF w F p kn D) (hD:cI n D) (hs:dh bt w) (nF0:¬F 0) (nFb:¬F bt) (hb:I5 Bs w) (hnb:∀b∈Bs,¬F b.1) (h0:Sem i0 [] D):
 Calls Tryz.prog 98 #[.int .i64 (most:Int),.func (.func gf) #[] lc] w (ie w F p kn (kg w.heap.size) Rr):=by
 refine(callsIn_wide (n:=3)).1 ?_
 refine iW Tryz.func98 rfl trivial ?_ rfl
 simp only[Tryz.ntmps98,List.size_toArray,List.length_cons,List.length_nil,Nat.reduceAdd,Nat.reduceSub,Array.replicate_succ,Array.replicate_zero,List.push_toArray,List.append_toArray,List.nil_append,List.cons_append]
 have hF0:∀k,F k→k<w.heap.size:=hv.lt
 obtain⟨w6,e6,hb0,hb1,m6,s6⟩:=ij w (.cells #[.int .i64 (most:Int)] 3) (.cells #[.slice none 0 0] 29)
 have hF6:∀k,F k→k<w6.heap.size:=fun k q=>by have:=hF0 k q;omega
 have hle:w.heap.size+2≤w6.heap.size:=by omega
 refine fE ?_
 gi_wp2
 refine fE ?_
 gi_wp2
 refine ss ?_
 refine fE ?_
 gi_wp2
 have HU:=hQQ U
 have HSQ:=hQQ hseq
 have HK:=hQQ hk
 have Z0:Hq (UpZ w6 F (w.heap.size+1) p kn n w.heap.size Bs (fun s=>Sem s.i s.L s.D) ⟨i0,[],D,F,fun k=>k=w.heap.size+1,0⟩ w6):=hQQ
  ⟨OnV.begin (hv.more m6) hD,⟨_,hb1,iM.nil _ _ _,fun k q=>by cases q⟩,rfl,fun k q=>⟨by subst q;omega,fun z=>by have:=hF0 k z;omega,.inl q⟩,fun b q=>m6.block (hb b q),fun b q=>⟨hnb b q,fun z=>by have:=ac (hb b q);omega⟩,h0⟩
 have KM:Hq (∀W D' F',OnV w6 W F (fun k=>k=w.heap.size+1) p kn n D' F'→W.heap[w.heap.size]?=some (.cells #[.int .i64 (most:Int)] 3 (0,0))):=hQQ fun W D' F' h=>(h.turn.block _ (by omega) (by rintro(q|q);have:=hF0 _ q;omega;omega)).trans hb0
 have KS:Hq (∀W D' F',OnV w6 W F (fun k=>k=w.heap.size+1) p kn n D' F'→dh bt W∧¬F' 0∧¬F' bt):=hQQ fun W D' F' h=>⟨(hs.more m6).keep h.turn (by rintro(q|q);exact nF0 q;have:=hs.lt0;omega) (by rintro(q|q);exact nFb q;have:=hs.lt;omega),fun q=>by rcases h.from' 0 q with r|r;exact nF0 r;omega,fun q=>by rcases h.from' bt q with r|r;exact nFb r;have:=hs.lt;omega⟩
 clear e6 U hseq hk hv hD hs nF0 nFb hb hnb h0 hb0 hb1
 refine oy ?_
 refine uZ (upI n kn p most bt Bs nx) (gf:=gf) (lb:=lc) Tryz.func98 rfl (by omega) rfl trivial heg (HSQ.o ⟨i0,[],D,F,fun k=>k=w.heap.size+1,0⟩ w6 rfl) (ae.refl _) (fun s=>rfl)
  (UpZ w6 F (w.heap.size+1) p kn n w.heap.size Bs (fun s=>Sem s.i s.L s.D)) (UpZ w6 F (w.heap.size+1) p kn n w.heap.size Bs (fun s=>Sem' s.i s.L s.D s.a)) (UpZ w6 F (w.heap.size+1) p kn n w.heap.size Bs (fun s=>Rr=.ok s.L s.D)) (UpX w6 F (w.heap.size+1) p kn n w.heap.size Bs Rr) (UpZ.books hF6) (UpZ.books hF6) (UpZ.books hF6) (Fx hF6) Z0.o
  (fun s a' W=>UpZ w6 F (w.heap.size+1) p kn n w.heap.size Bs (fun s=>Sem' s.i s.L s.D s.a) s W∧a'= { tmps:= #[.int .i64 (most:Int),.func (.func gf) #[] lc,.pointer (some ⟨w.heap.size,0,none⟩),undef,.slice none 0 0,.pointer (some ⟨w.heap.size+1,0,none⟩),.int .i64 s.a,.func (.func gf) #[] lc,.int .i64 s.a,undef,undef,undef,undef,undef,undef,undef,undef,undef],defers:= [] })
  (fun s a'=>⟨fun {A A'} h m=>⟨(UpZ.books hF6 s).more h.1 m,h.2⟩,fun {A r} r' h hl=>⟨(UpZ.books hF6 s).put r' h.1 hl,h.2⟩⟩)
  (fun s A _ h=>⟨h.on.view,h.on.inv,h.bx,KS.o _ _ _ h.on,fun k q=>(h.g k q).1⟩)
  (fun s s' A B hz h o=>by
   obtain⟨j,a,D1,F1,hE,rfl,hv1,ht1,hf1⟩:=o
   exact⟨h.on.same hF6 hz ht1,h.went hz hv1 ht1 hf1 ((HU.o.good _).ok HK.o h.on.inv hE).1 (HU.o.told _ _ _ _ _ _ h.sem hE)⟩)
  (fun s s' A B hz h o=>by
   obtain⟨D1,F1,hE,rfl,hv1,ht1,hf1⟩:=o
   exact⟨h.on.same hF6 hz ht1,h.went hz hv1 ht1 hf1 ((HU.o.good _).ok HK.o h.on.inv hE).1 (HU.o.fin _ _ _ _ h.sem hE)⟩)
  (fun s ch A B hz h o=>by
   obtain⟨a,hE,rfl,hd,ht⟩:=o
   exact⟨h.on.same hF6 hz ht,rfl,a,HU.o.need _ _ _ _ h.sem hE,hd,ak h.on.turn ht (fun k q=>(h.on.from' k q).imp .inl (fun r=>by omega))⟩)
  (fun s s' A B hz h o=>by
   obtain⟨j,D1,F1,hE,rfl,hv1,ht1,hf1⟩:=o
   exact⟨h.on.same hF6 hz ht1,h.went hz hv1 ht1 hf1 ((HU.o.good _).ok HK.o h.on.inv hE).1 (HU.o.skip _ _ _ _ _ h.sem hE)⟩)
  (fun s s' A B l r0 r1 r r' hA hB h=>by
   obtain⟨h1,h2,h3,h4,h5,h6,h7,h8⟩:=h
   refine⟨h1,h2,h3,h4,h5,fun k q=>(h6 k q).imp id (fun z=>by simpa using z),by simpa using h7,fun k cs t fr nk hk'=>?_⟩
   have e1:(A.putObj l (.loop r)).heap[k]?=some (.cells cs t fr):=(World.putObj_heap_other (by rintro rfl;rw[hA] at hk';cases hk')).trans hk'
   have e2:=h8 k cs t fr nk e1
   exact(World.putObj_heap_other (by rintro rfl;rw[hB] at e2;cases e2)).trans e2)
  ?assign ?body ?done ?stop ?dies
 case assign =>
  rintro l s W K hsz hI hK
  rw[show(upI n kn p most bt Bs nx).enc s= #[.int .i64 s.a] from rfl]
  gi_wp2
 case body =>
  rintro l s a' W hsz ⟨hI,rfl⟩
  obtain⟨v,hv1,hv2,hv3⟩:=hI.box
  have cb:=(aA hv1).1
  have HI:=hQQ hI
  have HB1:=hQQ hv1
  have HB2:=hQQ hv2
  have HB3:=hQQ hv3
  have hlt:=HU.o.less _ _ _ _ hI.sem
  have HBM:=hQQ (KM.o W _ _ hI.on)
  have NGM:Hq (¬s.G w.heap.size):=hQQ fun z=>by rcases (hI.g _ z).2.2 with r|r<;>omega
  clear hv1 hv2 hv3 hI
  gi_wp2_with (gi_at_builtin;refine uF (base:=w.heap.size) s.a rfl _ _ rfl rfl HB2.o.1 (by omega) (by omega) rfl ?_;intro g' cap' W2 hr2 ht2 hv2;obtain⟨hl2,p1,p2,p3,p4,p5,p6⟩:=HI.o.push hsz HB1.o HB3.o hr2 ht2 (Nk hv2) (by omega);have c3:=(aA hl2).1;have d3:=(aA hl2).2;have c4:=(aA p2).1;have c5:=(aA (p4 _ _ _ _ NGM.o HBM.o)).1;have P1:=hQQ p1;have P3:=hQQ p3;have P4:=hQQ p4;have P5:=hQQ p5;have P6:=hQQ p6;clear hr2 ht2 hv2 hl2 p1 p2 p3 p4 p5 p6)
  ·rename_i hh
   exact⟨P1.o,rfl,_,P6.o (fun s=>Rr=.ok s.L s.D) (HU.o.full _ _ _ _ HI.o.sem (by omega))⟩
  ·rename_i hh
   exact⟨P1.o,⟨s.i,s.L++ [s.a],s.D,s.F,fun k=>s.G k∨(Value.slice (some ⟨g',0,none⟩) (s.L.length+1) cap').ownBlock=some k,s.a⟩,⟨rfl,rfl,rfl,by simp,by simp;omega,P5.o,P3.o,P4.o⟩,P6.o _ (HU.o.more _ _ _ _ HI.o.sem (by omega))⟩
 case done =>
  rintro s W hI hdf
  obtain⟨v,hv1,FIN⟩:=I6 hF6 m6 s6 hI hdf
  have cb:=(aA hv1).1
  rw[s6] at hdf FIN
  have FIN:=hQQ FIN
  clear hI hv1
  refine rQ ?_
  gi_wp2
  refine⟨by simp,.inl ⟨_,_,rfl,run_takeDeferred hdf,?_⟩⟩
  exact⟨v,(results_tmp (t:=4) rfl _ _ _).trans rfl,FIN.o⟩
 case stop =>
  rintro e cc W hj hx hdf
  cases e with
  |exit i =>
   obtain⟨rfl,s,hI⟩:=hx
   cases hj
   obtain⟨v,hv1,FIN⟩:=I6 hF6 m6 s6 hI hdf
   have cb:=(aA hv1).1
   have FIN:=hQQ FIN
   clear hI hv1
   gi_wp2
   refine rQ ?_
   gi_wp2
   refine⟨by simp,.inl ⟨_,_,rfl,run_takeDeferred hdf,?_⟩⟩
   exact⟨v,(results_tmp (t:=4) rfl _ _ _).trans rfl,FIN.o⟩
  |ret=>exact hx.elim
  |goto _=>exact hx.elim
  |normal=>cases hj
  |panic _=>cases hj
  |outgrown=>cases hj
 case dies =>
  rintro ch W ⟨rfl,a,h2,h3⟩ hdf
  have h4:=h3.put hdf rfl (Nat.le_refl _) (.deferred none)
  refine⟨by simp,.inl ⟨_,_,rfl,run_takeDeferred hdf,?_⟩⟩
  have ht:=ak (Turned.mono m6 (fun k _ q=>(q.elim:F k))) h4.2 (fun k q=>q.imp id (fun r=>by omega))
  rw[h2]
  exact⟨rfl,h4.1,ht⟩
theorem fV {β:Type}{p:Prg β}{f:β→NxR}{kn:Int→Option Int}{D D1:List KV}{y:NxR}(h:aq p (fun x=>az (f x)) kn D=.ok y D1):∃x,p kn D=.ok x D1∧f x=y:=by
 cases e:p kn D with
 |need a=>rw[ag e] at h;cases h
 |ok x D2=>rw[aj e] at h;cases h;exact⟨x,rfl,rfl⟩
theorem qX {β:Type}{p:Prg β}{f:β→NxR}{kn:Int→Option Int}{D:List KV}{a:Int}(h:aq p (fun x=>az (f x)) kn D=.need a):p kn D=.need a:=by
 cases e:p kn D with
 |need b=>rw[ag e] at h;cases h;rfl
 |ok x D2=>rw[aj e] at h;cases h
section
variable {b l:Int}{n most:Nat}(H:eQ b l n)(kn:Int→Option Int)(Rr:Res (List Int))
def Nl (b l:Int)(most:Nat)(kn:Int→Option Int)(Rr:Res (List Int))(i:Nat)(L:List Int)(D:List KV):Prop:=L.length<most∧(i=0→hH b l (most-L.length) L kn D=Rr)∧(i≠0→Rr=.ok L D)
def K9 (b l:Int)(most:Nat)(kn:Int→Option Int)(Rr:Res (List Int))(i:Nat)(L:List Int)(D:List KV)(a:Int):Prop:=i=0∧L.length<most∧hH b l (most-(L.length+1)) (L++ [a]) kn D=Rr
include H
theorem La:UpH kn n most (uW [(b,l)]) (Nl b l most kn Rr) (K9 b l most kn Rr) Rr:=by
 have n0:uW [(b,l)] 0=aq (ee b l) fun x=>az (if x.2 then .told 0 x.1 else .skip 1):=rfl
 have n1:∀i,i≠0→uW [(b,l)] i=az .fin:=fun i hi=>wC (by simp;omega)
 have step:∀(L:List Int) D,L.length<most→hH b l (most-L.length) L kn D=Rr→aq (ee b l) (fun x=>if x.2 then hH b l (most-(L.length+1)) (L++ [x.1]) else az L) kn D=Rr:=fun L D hl h=>by
  obtain⟨m,hm⟩:∃m,most-L.length=m+1:=⟨most-L.length-1,by omega⟩
  rw[hm] at h
  rw[show most-(L.length+1)=m by omega]
  exact h
 refine⟨fun i=>?_,fun i L D j a D1 hs e=>?_,fun i L D j D1 hs e=>?_,fun i L D D1 hs e=>?_,fun i L D a hs e=>?_,fun i L D a hs=>hs.2.1,fun i L D a hs hl=>?_,fun i L D a hs hl=>?_⟩
 ·by_cases hi:i=0
  ·subst hi;rw[n0];exact aw (iu H) fun _ _=>ai n trivial
  ·rw[n1 i hi];exact ai n trivial
 ·by_cases hi:i=0
  ·subst hi;rw[n0] at e
   obtain⟨⟨x,ok⟩,e1,e2⟩:=fV e
   cases ok with
   |false=>cases e2
   |true =>
    cases e2
    exact⟨rfl,hs.1,(aj e1).symm.trans (step L D hs.1 (hs.2.1 rfl))⟩
  ·rw[n1 i hi] at e;cases e
 ·by_cases hi:i=0
  ·subst hi;rw[n0] at e
   obtain⟨⟨x,ok⟩,e1,e2⟩:=fV e
   cases ok with
   |true=>cases e2
   |false =>
    cases e2
    exact⟨hs.1,fun q=>(by cases q),fun _=>((aj e1).symm.trans (step L D hs.1 (hs.2.1 rfl))).symm⟩
  ·rw[n1 i hi] at e;cases e
 ·by_cases hi:i=0
  ·subst hi;rw[n0] at e
   obtain⟨⟨x,ok⟩,e1,e2⟩:=fV e
   cases ok<;>cases e2
  ·rw[n1 i hi] at e;cases e;exact hs.2.2 hi
 ·by_cases hi:i=0
  ·subst hi;rw[n0] at e
   exact(step L D hs.1 (hs.2.1 rfl)).symm.trans (ag (qX e))
  ·rw[n1 i hi] at e;cases e
 ·obtain⟨rfl,h1,h2⟩:=hs
  exact⟨by simpa using hl,fun _=>by simpa using h2,fun q=>absurd rfl q⟩
 ·obtain⟨rfl,h1,h2⟩:=hs
  rw[show most-(L.length+1)=0 by omega] at h2
  exact h2.symm
end
section
variable {us pg st k:Int}{n most:Nat}(H:cF pg st n)(kn:Int→Option Int)(Rr:Res (List Int))
def Ox (us pg st k:Int)(most:Nat)(kn:Int→Option Int)(Rr:Res (List Int))(i:Nat)(L:List Int)(D:List KV):Prop:=L.length<most∧(i=0→mW us pg st k (most-L.length) L kn D=Rr)∧(i≠0→jQ us pg st k most L kn D=Rr)
def Nm (us pg st k:Int)(most:Nat)(kn:Int→Option Int)(Rr:Res (List Int))(i:Nat)(L:List Int)(D:List KV)(a:Int):Prop:=i=0∧L.length<most∧mW us pg st k (most-(L.length+1)) (L++ [a]) kn D=Rr
include H
theorem I8:UpH kn n most (uX us pg st k) (Ox us pg st k most kn Rr) (Nm us pg st k most kn Rr) Rr:=by
 have n0:uX us pg st k 0=aq (j0 pg st k) fun r=>az (if r then .skip 1 else .fin):=rfl
 have n1:∀i,i≠0→uX us pg st k i=aq (kJ us pg st k) fun x=>az (if x.2 then .told 0 x.1 else .fin):=fun i hi=>by unfold uX;rw[if_neg hi]
 have step:∀(L:List Int) D,L.length<most→mW us pg st k (most-L.length) L kn D=Rr→aq (j0 pg st k) (fun r=>if r then jQ us pg st k most L else az L) kn D=Rr:=fun L D hl h=>by
  obtain⟨m,hm⟩:∃m,most-L.length=m+1:=⟨most-L.length-1,by omega⟩
  rw[hm] at h
  unfold jQ
  rw[show most-(L.length+1)=m by omega]
  exact h
 refine⟨fun i=>?_,fun i L D j a D1 hs e=>?_,fun i L D j D1 hs e=>?_,fun i L D D1 hs e=>?_,fun i L D a hs e=>?_,fun i L D a hs=>hs.2.1,fun i L D a hs hl=>?_,fun i L D a hs hl=>?_⟩
 ·by_cases hi:i=0
  ·subst hi;rw[n0];exact aw (DG H k) fun _ _=>ai n trivial
  ·rw[n1 i hi];exact aw (EG H us k) fun _ _=>ai n trivial
 ·by_cases hi:i=0
  ·subst hi;rw[n0] at e
   obtain⟨ok,e1,e2⟩:=fV e
   cases ok<;>cases e2
  ·rw[n1 i hi] at e
   obtain⟨⟨x,ok⟩,e1,e2⟩:=fV e
   cases ok with
   |false=>cases e2
   |true =>
    cases e2
    exact⟨rfl,hs.1,(aj e1).symm.trans (hs.2.2 hi)⟩
 ·by_cases hi:i=0
  ·subst hi;rw[n0] at e
   obtain⟨ok,e1,e2⟩:=fV e
   cases ok with
   |false=>cases e2
   |true =>
    cases e2
    exact⟨hs.1,fun q=>(by cases q),fun _=>(aj e1).symm.trans (step L D hs.1 (hs.2.1 rfl))⟩
  ·rw[n1 i hi] at e
   obtain⟨⟨x,ok⟩,e1,e2⟩:=fV e
   cases ok<;>cases e2
 ·by_cases hi:i=0
  ·subst hi;rw[n0] at e
   obtain⟨ok,e1,e2⟩:=fV e
   cases ok with
   |true=>cases e2
   |false=>exact((aj e1).symm.trans (step L D hs.1 (hs.2.1 rfl))).symm
  ·rw[n1 i hi] at e
   obtain⟨⟨x,ok⟩,e1,e2⟩:=fV e
   cases ok with
   |true=>cases e2
   |false=>exact((aj e1).symm.trans (hs.2.2 hi)).symm
 ·by_cases hi:i=0
  ·subst hi;rw[n0] at e
   exact(step L D hs.1 (hs.2.1 rfl)).symm.trans (ag (qX e))
  ·rw[n1 i hi] at e
   exact(hs.2.2 hi).symm.trans (ag (qX e))
 ·obtain⟨rfl,h1,h2⟩:=hs
  exact⟨by simpa using hl,fun _=>by simpa using h2,fun q=>absurd rfl q⟩
 ·obtain⟨rfl,h1,h2⟩:=hs
  rw[show most-(L.length+1)=0 by omega] at h2
  exact h2.symm
end
section
variable {n:Nat}(F:Nat→Prop)(p:Nat)(kn:Int→Option Int)(D:List KV)(w:World)(hv:aF w F p kn D)(hk:OkK kn)(hD:cI n D){bt:Nat}(hs:dh bt w)(nF0:¬F 0)(nFb:¬F bt){most:Nat}(h1:1≤most)(hm:most≤1000000)
include hv hk hD hs nF0 nFb h1 hm
theorem I9 {b l:Int}(H:eQ b l n)(vb fb sb cap:Nat)(fr:Nat×Nat)(hcap:1≤cap)(bv:w.heap[vb]?=some (.cells #[.pointer (some ⟨p,0,none⟩)] 43 (0,0)))(bf:w.heap[fb]?=some (.cells #[.slice (some ⟨sb,0,none⟩) 1 cap] 93 (0,0)))(bs:w.heap[sb]?=some (.cells #[.int .i64 b,.int .i64 l] 96 fr))(nf:¬F vb∧¬F fb∧¬F sb):
 Calls Tryz.prog 98 #[.int .i64 (most:Int),.func (.func 88) #[] #[.pointer (some ⟨fb,0,none⟩),.pointer (some ⟨vb,0,none⟩)]] w (ie w F p kn (kg w.heap.size) (hH b l most [] kn D)):=by
 refine I7 F p kn D hk (enters_of Tryz.func88 (by kernel_rfl) rfl) (La (most:=most) H kn _) hm 0 w (fun s0 w0 h0=>Fw 2 (by omega) p most bt vb fb sb cap #[.int .i64 b,.int .i64 l] fr [(b,l)] (by simp) (by simpa using hcap) (fun s hs=>?_) (fun i b' l' h=>?_) kn hk s0 w0 h0) hv hD hs nF0 nFb ?_ ?_ ⟨by show 0<most;omega,fun _=>rfl,fun q=>absurd rfl q⟩
 ·rw[List.mem_singleton.1 hs];exact H
 ·match i,h with
  | 0,h=>cases h;exact⟨rfl,rfl⟩
  |i+1,h=>simp at h
 ·intro x hx
  simp only[Ah,List.mem_cons,List.not_mem_nil,or_false] at hx
  rcases hx with rfl|rfl|rfl
  ·exact bv
  ·exact bf
  ·exact bs
 ·intro x hx
  simp only[Ah,List.mem_cons,List.not_mem_nil,or_false] at hx
  rcases hx with rfl|rfl|rfl
  ·exact nf.1
  ·exact nf.2.1
  ·exact nf.2.2
theorem Lb {c:Cfg}(R:c.Ok)(H:cF c.pg c.st n)(hn:n≤10000)(k:Int)(vb lb cb:Nat)(bv:w.heap[vb]?=some (.cells #[.pointer (some ⟨p,0,none⟩)] 43 (0,0)))(bl:w.heap[lb]?=some (.cells c.arr 28 (0,0)))(bc:w.heap[cb]?=some (.cells #[.int .i64 k] 3 (0,0)))(nf:¬F vb∧¬F lb∧¬F cb):
 Calls Tryz.prog 98 #[.int .i64 (most:Int),.func (.func 122) #[] #[.pointer (some ⟨vb,0,none⟩),.pointer (some ⟨lb,0,none⟩),.pointer (some ⟨cb,0,none⟩)]] w (ie w F p kn (kg w.heap.size) (jQ c.us c.pg c.st k most [] kn D)):=by
 refine I7 F p kn D hk (enters_of Tryz.func122 (by kernel_rfl) rfl) (I8 (us:=c.us) (k:=k) (most:=most) H kn _) hm 1 w (fun s0 w0 h0=>Cm 2 (by omega) R H hn p most bt vb lb cb k kn hk s0 w0 h0) hv hD hs nF0 nFb ?_ ?_ ⟨by show 0<most;omega,fun q=>(by cases q),fun _=>rfl⟩
 ·intro x hx
  simp only[Ai,List.mem_cons,List.not_mem_nil,or_false] at hx
  rcases hx with rfl|rfl|rfl
  ·exact bv
  ·exact bl
  ·exact bc
 ·intro x hx
  simp only[Ai,List.mem_cons,List.not_mem_nil,or_false] at hx
  rcases hx with rfl|rfl|rfl
  ·exact nf.1
  ·exact nf.2.1
  ·exact nf.2.2
end
theorem uG {o:Oper}{a:Act}{w:World}{K:Act→World→Prop}{Q:Exit→Act→World→Prop}{x:Operand}(ho:o.op=.buildSlice 93 1 #[(0,x)]){b l:Int}(hx:a.eval x=.agg #[.int .i64 b,.int .i64 l])(h:K (a.put o.dst (.slice (some ⟨w.heap.size,0,none⟩) 1 1)) (w.alloc (.cells #[.int .i64 b,.int .i64 l] 96))):Oper.wp Tryz.prog o a w K Q:=by
 unfold Oper.wp Oper.upon execOp
 simp only[ho]
 generalize a.eval=ρ at hx⊢
 go_simp
 exact h
theorem Cn {o:Oper}{a:Act}{w:World}{K:Act→World→Prop}{Q:Exit→Act→World→Prop}{x y z:Operand}(ho:o.op=.buildSlice 145 3 #[(0,x),(1,y),(2,z)]){fu fv ft:Fn}{lu lv lt:Array Value}(hx:a.eval x=.func fu #[] lu)(hy:a.eval y=.func fv #[] lv)(hz:a.eval z=.func ft #[] lt)(h:K (a.put o.dst (.slice (some ⟨w.heap.size,0,none⟩) 3 3)) (w.alloc (.cells #[.func fu #[] lu,.func fv #[] lv,.func ft #[] lt] 100))):Oper.wp Tryz.prog o a w K Q:=by
 unfold Oper.wp Oper.upon execOp
 simp only[ho]
 generalize a.eval=ρ at hx hy hz⊢
 go_simp
 exact h
structure FeB (d:Cfg)(u k:Int)(p v1 f1 s1 v2 f2 s2 v3 l3 cb rb:Nat)(F:Nat→Prop)(W:World):Prop where
 a1:W.heap[v1]?=some (.cells #[.pointer (some ⟨p,0,none⟩)] 43 (0,0))
 a2:W.heap[f1]?=some (.cells #[.slice (some ⟨s1,0,none⟩) 1 1] 93 (0,0))
 a3:W.heap[s1]?=some (.cells #[.int .i64 (caV d u k),.int .i64 d.ca] 96 (0,0))
 b1:W.heap[v2]?=some (.cells #[.pointer (some ⟨p,0,none⟩)] 43 (0,0))
 b2:W.heap[f2]?=some (.cells #[.slice (some ⟨s2,0,none⟩) 1 1] 93 (0,0))
 b3:W.heap[s2]?=some (.cells #[.int .i64 (biV d k),.int .i64 d.bi] 96 (0,0))
 c1:W.heap[v3]?=some (.cells #[.pointer (some ⟨p,0,none⟩)] 43 (0,0))
 c2:W.heap[l3]?=some (.cells d.arr 28 (0,0))
 c3:W.heap[cb]?=some (.cells #[.int .i64 k] 3 (0,0))
 r:W.heap[rb]?=some (.cells #[.func (.func 88) #[] #[.pointer (some ⟨f1,0,none⟩),.pointer (some ⟨v1,0,none⟩)],.func (.func 88) #[] #[.pointer (some ⟨f2,0,none⟩),.pointer (some ⟨v2,0,none⟩)],.func (.func 122) #[] #[.pointer (some ⟨v3,0,none⟩),.pointer (some ⟨l3,0,none⟩),.pointer (some ⟨cb,0,none⟩)]] 100 (0,0))
 n1:¬F v1∧¬F f1∧¬F s1
 n2:¬F v2∧¬F f2∧¬F s2
 n3:¬F v3∧¬F l3∧¬F cb
 n4:¬F rb
theorem FeB.went {d:Cfg}{u k:Int}{p v1 f1 s1 v2 f2 s2 v3 l3 cb rb:Nat}{F F':Nat→Prop}{w w':World}(h:FeB d u k p v1 f1 s1 v2 f2 s2 v3 l3 cb rb F w)(hk:∀b o,¬F b→w.heap[b]?=some o→w'.heap[b]?=some o)(hf:∀b,F' b→F b∨w.heap.size≤b):FeB d u k p v1 f1 s1 v2 f2 s2 v3 l3 cb rb F' w':=by
 have nf:∀b o,¬F b→w.heap[b]?=some o→¬F' b:=fun b o nb ho q=>by
  rcases hf b q with r|r
  ·exact nb r
  ·have:=ac ho;omega
 exact⟨hk _ _ h.n1.1 h.a1,hk _ _ h.n1.2.1 h.a2,hk _ _ h.n1.2.2 h.a3,hk _ _ h.n2.1 h.b1,hk _ _ h.n2.2.1 h.b2,hk _ _ h.n2.2.2 h.b3,hk _ _ h.n3.1 h.c1,hk _ _ h.n3.2.1 h.c2,hk _ _ h.n3.2.2 h.c3,hk _ _ h.n4 h.r,
  ⟨nf _ _ h.n1.1 h.a1,nf _ _ h.n1.2.1 h.a2,nf _ _ h.n1.2.2 h.a3⟩,⟨nf _ _ h.n2.1 h.b1,nf _ _ h.n2.2.1 h.b2,nf _ _ h.n2.2.2 h.b3⟩,⟨nf _ _ h.n3.1 h.c1,nf _ _ h.n3.2.1 h.c2,nf _ _ h.n3.2.2 h.c3⟩,nf _ _ h.n4 h.r⟩
def Lc (d:Cfg)(u k:Int):Nat→Prg (List Int)
 | 0=>aq (hH (caV d u k) d.ca (mostV d) []) fun L=>if 0<L.length then az L else
    aq (hH (biV d k) d.bi (mostV d) []) fun L=>if 0<L.length then az L else
    aq (jQ d.us d.pg d.st k (mostV d) []) fun L=>if 0<L.length then az L else az []
 | 1=>aq (hH (biV d k) d.bi (mostV d) []) fun L=>if 0<L.length then az L else
    aq (jQ d.us d.pg d.st k (mostV d) []) fun L=>if 0<L.length then az L else az []
 | 2=>aq (jQ d.us d.pg d.st k (mostV d) []) fun L=>if 0<L.length then az L else az []
 | _=>az []
theorem Fy {d:Cfg}(R:d.Ok){n:Nat}(H:cF d.pg d.st n)(hw:(n:Int)=d.words)(hn:n≤10000){bt:Nat}(F:Nat→Prop)(p:Nat)(kn:Int→Option Int)(D:List KV)(w:World)(u k:Int)
 (hv:aF w F p kn D) (hk:OkK kn) (hD:cI n D) (hs:dh bt w) (nF0:¬F 0) (nFb:¬F bt) (hq:nV d u k):
 Calls Tryz.prog 66 #[.pointer (some ⟨p,0,none⟩),.agg d.arr,.int .i64 u,.int .i64 k] w (ie w F p kn (kg w.heap.size) (xO d u k kn D)):=by
 obtain⟨Rr,hRr⟩:∃Rr,xO d u k kn D=Rr:=⟨_,rfl⟩
 rw[hRr]
 obtain⟨w1,e1,b0,m1,s1⟩:=bg w (.cells d.arr 28)
 have L0:=hQQ b0
 have HM:=hQQ m1
 have HR:=hQQ R
 have HH:=hQQ H
 have HK:=hQQ hk
 have HRr:=hQQ hRr
 have hST:=I1 R H hw hn hq
 have HST:=hQQ hST
 have h1:=R.ba1;have h2:=R.ba2;have h3:=R.pr1;have h4:=R.pr2
 have HMV:Hq ((mostV d:Int)=min d.ba (1+d.pr)):=hQQ (by unfold mostV;omega)
 have hmo:1≤mostV d∧mostV d≤1000000:=by unfold mostV;omega
 have qw:IntKind.i64.wrap (1+d.pr)=1+d.pr:=aB (by omega) (by omega)
 have HMO:=hQQ hmo
 have HUS:=hQQ (wh R H hw hn)
 clear b0 m1 R H hk hRr hST hmo
 go_enter Tryz.func66,Tryz.ntmps66
 go_wp2_with fail
 have hf:=IQ d
 have hf2:=Cc d
 refine bQ (by kernel_rfl) (by kernel_rfl) ?_
 refine aP rfl 28 _ rfl _ rfl 28 _ _ _ (fun W hW=>hW.block L0.o) Tryz.underlying28 rfl (by kernel_rfl) ?_
 iterate 1
  with_reducible refine wpQuiet_step (fun K hK=>?_)
  go_simp
  first
  |(refine hK _ ?_;clear hK K)
  |(apply Exists.intro
    refine⟨fun W hW=>?_,hK _ ?_⟩
    first
    |(go_at_call 20;exact Calls.more hW (dw HR.o W))
    clear hK K)
 iterate 1
  with_reducible refine wpQuiet_step (fun K hK=>?_)
  go_simp
  first
  |(refine hK _ ?_;clear hK K)
  |(apply Exists.intro
    refine⟨fun W hW=>?_,hK _ ?_⟩
    first
    |(go_simp;try rfl)
    clear hK K)
 refine aP rfl 28 _ rfl _ rfl 28 _ _ _ (fun W hW=>hW.block L0.o) Tryz.underlying28 rfl (by kernel_rfl) ?_
 iterate 1
  with_reducible refine wpQuiet_step (fun K hK=>?_)
  go_simp
  first
  |(refine hK _ ?_;clear hK K)
  |(apply Exists.intro
    refine⟨fun W hW=>?_,hK _ ?_⟩
    first
    |(go_at_call 20;exact Calls.more hW (dw HR.o W))
    clear hK K)
 iterate 1
  with_reducible refine wpQuiet_step (fun K hK=>?_)
  go_simp
  first
  |(refine hK _ ?_;clear hK K)
  |(apply Exists.intro
    refine⟨fun W hW=>?_,hK _ ?_⟩
    first
    |(go_simp;try rfl)
    clear hK K)
 iterate 1
  with_reducible refine wpQuiet_step (fun K hK=>?_)
  go_simp
  first
  |(refine hK _ ?_;clear hK K)
  |(apply Exists.intro
    refine⟨fun W hW=>?_,hK _ ?_⟩
    first
    |(go_simp;try rfl)
    clear hK K)
 with_reducible refine wpQuiet_step (fun K hK=>?_)
 go_simp
 apply Exists.intro
 refine⟨fun W hW=>by rw[←HMV.o],hK _ ?_⟩
 clear hK K
 iterate 1
  with_reducible refine wpQuiet_step (fun K hK=>?_)
  go_simp
  first
  |(refine hK _ ?_;clear hK K)
  |(apply Exists.intro
    refine⟨fun W hW=>?_,hK _ ?_⟩
    first
    |(go_simp;try rfl)
    clear hK K)
 refine wpQuiet_nil ?_
 intro wr mr
 have KC:Hq (∀W,ae wr W→W.heap[w.heap.size]?=some (.cells d.arr 28 (0,0))):=hQQ fun W hW=>hW.block (mr.block L0.o)
 have HM2:=hQQ (HM.o.trans mr)
 have Fq9:Hq (∀x,F x→x<wr.heap.size):=hQQ fun x q=>Nat.lt_of_lt_of_le (hv.lt x q) HM2.o.size
 clear mr hf hf2 qw e1 s1 h1 h2 h3 h4
 go_wp2_with fail
 refine aO (fun W=>W.heap[w.heap.size]?=some (.cells d.arr 28 (0,0))) (by kernel_rfl) ?_
 change dg _ _ _ _ _ _ _ _ (wr.drewN 1)
 have MR:Hq (ae wr (wr.drewN 1)):=hQQ ((ae.refl wr).drewN 1)
 generalize wr.drewN 1=wq at MR⊢
 generalize hA:Act.mk _ _=A
 have HF:AG 52 A [(0,.pointer (some ⟨p,0,none⟩)),(2,.int .i64 u),(3,.int .i64 k),(5,.pointer (some ⟨w.heap.size,0,none⟩))]:=by
  rw[←hA];try simp only[pts,List.foldl]
  refine⟨⟨Nat.le_of_ble_eq_true rfl,rfl⟩,?_⟩
  intro z hz;simp only[List.mem_cons,List.not_mem_nil,or_false] at hz;rcases hz with rfl|rfl|rfl|rfl<;>rfl
 refine bL (fun a W=>∃(u21 u22 u23 u24 u28 u29 u30 u34 u35 u36 u25 u26 u27 u31 u32 u33 u37:Value) (v1 f1 s1 v2 f2 s2 v3 l3 cb rb:Nat),a=(pts A [(21,u21),(22,u22),(23,u23),(24,u24),(28,u28),(29,u29),(30,u30),(34,u34),(35,u35),(36,u36),(40,.int .i64 0),(25,u25),(26,u26),(27,u27),(31,u31),(32,u32),(33,u33),(37,u37),(38,.slice (some ⟨rb,0,none⟩) 3 3),(39,.int .i64 3)])∧ae wr W∧FeB d u k p v1 f1 s1 v2 f2 s2 v3 l3 cb rb F W) (fun _=>False) [] (fun a W hd h=>h.elim) (fun _ _ _ _ _ h=>h) ?_ ?_
 ·skip
  rintro a9 wa ⟨u21,u22,u23,u24,u28,u29,u30,u34,u35,u36,u25,u26,u27,u31,u32,u33,u37,v1,f1,s1',v2,f2,s2',v3,l3,cb,rb,rfl,m9,hfe⟩
  rw[←hA];try simp only[pts,List.foldl]
  have MM:=hQQ (HM2.o.trans m9)
  have FE:=hQQ hfe
  have M0:Hq (MidV wa wa F (fun _=>False) p kn n D F):=hQQ (MidV.begin (hv.more MM.o) hD)
  have KS:Hq (∀W D' F',MidV wa W F (fun _=>False) p kn n D' F'→dh bt W∧¬F' 0∧¬F' bt):=hQQ fun W D' F' h=>⟨(hs.more MM.o).keep h.turn (by rintro(q|q);exact nF0 q;exact q) (by rintro(q|q);exact nFb q;exact q),fun q=>by rcases h.from' 0 q with r|r;exact nF0 r;have:=hs.lt0;have:=MM.o.size;omega,fun q=>by rcases h.from' bt q with r|r;exact nFb r;have:=hs.lt;have:=MM.o.size;omega⟩
  have NEED:Hq (∀a wz,Rr=.need a→bJ wz p a→Turned (fun b=>F b∨False) wa wz→ie w F p kn (kg w.heap.size) Rr (.panicked (bB p)) wz):=hQQ fun a wz e hd ht=>qJ MM.o (fun _ q=>q.elim) e hd ht
  have DONE:Hq (∀x v wz D' F',Rr=.ok x D'→MidV wa wz F (fun _=>False) p kn n D' F'→(kg w.heap.size) x v wz F'→ie w F p kn (kg w.heap.size) Rr (.returned v) wz):=hQQ fun x v wz D' F' e h hp=>qK MM.o (fun _ q=>q.elim) h e hp
  clear HF hA MR KC Fq9 m9 hfe hv hD hs
  go_simp
  go_wp2_with fail
  go_loopw [40] (fun i wr=>∃(j:Nat) (D':List KV) (F':Nat→Prop),j≤3∧i=.int .i64 (j:Int)∧MidV wa wr F (fun _=>False) p kn n D' F'∧FeB d u k p v1 f1 s1' v2 f2 s2' v3 l3 cb rb F' wr∧Lc d u k j kn D'=Rr) (fun i _=>3-(intOf i).toNat)
  case atStart=>exact⟨0,D,F,by omega,rfl,M0.o,FE.o,HRr.o⟩
  case round =>
   obtain⟨j,D',F',hj,rfl,hm,hb,he⟩:=hrel
   have MW:=hQQ hm
   have HB:=hQQ hb
   have HE:=hQQ he
   have hv5:=hm.view
   obtain⟨hs5,hs6,hs7⟩:=KS.o _ _ _ hm
   clear hm hb he
   rcases (show j=0∨j=1∨j=2∨j=3 by omega) with rfl|rfl|rfl|rfl
   ·have cl:wr.cell? ⟨rb,0,none⟩=some (.func (.func 88) #[] #[.pointer (some ⟨f1,0,none⟩),.pointer (some ⟨v1,0,none⟩)]):=by simp[World.cell?,HB.o.r]
    have WR5:=hQQ (I9 F' p kn D' wr hv5 HK.o MW.o.inv hs5 hs6 hs7 HMO.o.1 HMO.o.2 HST.o.1 v1 f1 s1' 1 (0,0) (by omega) HB.o.a1 HB.o.a2 HB.o.a3 HB.o.n1)
    clear hv5 hs5
    go_wp2_with fail
    refine WR5.o.mono ?_
    intro e w5 he
    rcases MW.o.stepR (ae.refl _) HK.o (jR HST.o.1 _ _ kU.nil) he with⟨a',hE,rfl,hd',ht',_⟩|⟨L5,D5,F5,v5,hE,rfl,hp5,M5,hq5,hk5,hf5⟩
    ·exact⟨rfl,NEED.o a' w5 (HE.o.symm.trans (ag hE)) hd' ht'⟩
    have E5:=hQQ ((aj hE).symm.trans HE.o)
    have M5:=hQQ M5
    obtain⟨a5,c5,hv5,hrd5⟩:=hp5.1.reads
    subst hv5
    have P5:=hQQ (hp5.mono (b':=w.heap.size) (Nat.le_trans MM.o.size MW.o.turn.size))
    have HB5:=hQQ (HB.o.went hk5 hf5)
    clear he hE hp5 hrd5 WR5 hk5 hf5 hq5 cl
    by_cases hl:0<L5.length
    ·have E6:Hq (Rr=.ok L5 D5):=hQQ (by
      have:=E5.o
      rw[if_pos hl] at this
      exact this.symm)
     have FIN:=hQQ (DONE.o _ _ _ _ _ E6.o M5.o P5.o)
     clear E5
     go_wp2_with fail
     go_ret
     exact FIN.o
    ·have E6:Hq (Lc d u k 1 kn D5=Rr):=hQQ (by
      have:=E5.o
      rw[if_neg hl] at this
      exact this)
     clear E5
     go_wp2_with fail
     go_roundw
     case rel=>exact⟨1,D5,F5,by omega,by go_num,M5.o,HB5.o,E6.o⟩
     case measure=>simp[intOf]
   ·have cl:wr.cell? ⟨rb,1,none⟩=some (.func (.func 88) #[] #[.pointer (some ⟨f2,0,none⟩),.pointer (some ⟨v2,0,none⟩)]):=by simp[World.cell?,HB.o.r]
    have WR5:=hQQ (I9 F' p kn D' wr hv5 HK.o MW.o.inv hs5 hs6 hs7 HMO.o.1 HMO.o.2 HST.o.2 v2 f2 s2' 1 (0,0) (by omega) HB.o.b1 HB.o.b2 HB.o.b3 HB.o.n2)
    clear hv5 hs5
    go_wp2_with fail
    refine WR5.o.mono ?_
    intro e w5 he
    rcases MW.o.stepR (ae.refl _) HK.o (jR HST.o.2 _ _ kU.nil) he with⟨a',hE,rfl,hd',ht',_⟩|⟨L5,D5,F5,v5,hE,rfl,hp5,M5,hq5,hk5,hf5⟩
    ·exact⟨rfl,NEED.o a' w5 (HE.o.symm.trans (ag hE)) hd' ht'⟩
    have E5:=hQQ ((aj hE).symm.trans HE.o)
    have M5:=hQQ M5
    obtain⟨a5,c5,hv5,hrd5⟩:=hp5.1.reads
    subst hv5
    have P5:=hQQ (hp5.mono (b':=w.heap.size) (Nat.le_trans MM.o.size MW.o.turn.size))
    have HB5:=hQQ (HB.o.went hk5 hf5)
    clear he hE hp5 hrd5 WR5 hk5 hf5 hq5 cl
    by_cases hl:0<L5.length
    ·have E6:Hq (Rr=.ok L5 D5):=hQQ (by
      have:=E5.o
      rw[if_pos hl] at this
      exact this.symm)
     have FIN:=hQQ (DONE.o _ _ _ _ _ E6.o M5.o P5.o)
     clear E5
     go_wp2_with fail
     go_ret
     exact FIN.o
    ·have E6:Hq (Lc d u k 2 kn D5=Rr):=hQQ (by
      have:=E5.o
      rw[if_neg hl] at this
      exact this)
     clear E5
     go_wp2_with fail
     go_roundw
     case rel=>exact⟨2,D5,F5,by omega,by go_num,M5.o,HB5.o,E6.o⟩
     case measure=>simp[intOf]
   ·have cl:wr.cell? ⟨rb,2,none⟩=some (.func (.func 122) #[] #[.pointer (some ⟨v3,0,none⟩),.pointer (some ⟨l3,0,none⟩),.pointer (some ⟨cb,0,none⟩)]):=by simp[World.cell?,HB.o.r]
    have WR5:=hQQ (Lb F' p kn D' wr hv5 HK.o MW.o.inv hs5 hs6 hs7 HMO.o.1 HMO.o.2 HR.o HH.o hn k v3 l3 cb HB.o.c1 HB.o.c2 HB.o.c3 HB.o.n3)
    clear hv5 hs5
    go_wp2_with fail
    refine WR5.o.mono ?_
    intro e w5 he
    rcases MW.o.stepR (ae.refl _) HK.o (uB HH.o HUS.o k _ [] kU.nil HMO.o.1) he with⟨a',hE,rfl,hd',ht',_⟩|⟨L5,D5,F5,v5,hE,rfl,hp5,M5,hq5,hk5,hf5⟩
    ·exact⟨rfl,NEED.o a' w5 (HE.o.symm.trans (ag hE)) hd' ht'⟩
    have E5:=hQQ ((aj hE).symm.trans HE.o)
    have M5:=hQQ M5
    obtain⟨a5,c5,hv5,hrd5⟩:=hp5.1.reads
    subst hv5
    have P5:=hQQ (hp5.mono (b':=w.heap.size) (Nat.le_trans MM.o.size MW.o.turn.size))
    have HB5:=hQQ (HB.o.went hk5 hf5)
    clear he hE hp5 hrd5 WR5 hk5 hf5 hq5 cl
    by_cases hl:0<L5.length
    ·have E6:Hq (Rr=.ok L5 D5):=hQQ (by
      have:=E5.o
      rw[if_pos hl] at this
      exact this.symm)
     have FIN:=hQQ (DONE.o _ _ _ _ _ E6.o M5.o P5.o)
     clear E5
     go_wp2_with fail
     go_ret
     exact FIN.o
    ·have E6:Hq (Lc d u k 3 kn D5=Rr):=hQQ (by
      have:=E5.o
      rw[if_neg hl] at this
      exact this)
     clear E5
     go_wp2_with fail
     go_roundw
     case rel=>exact⟨3,D5,F5,by omega,by go_num,M5.o,HB5.o,E6.o⟩
     case measure=>simp[intOf]
   ·have FIN:=hQQ (DONE.o [] (.slice none 0 0) _ _ _ HE.o.symm MW.o (iM.nil _ _ _))
    clear hv5 hs5
    go_wp2_with fail
    go_ret
    exact FIN.o
 intro QQ FINE FIND FINQ
 clear hA
 refine tqM 0 21 0 rfl (.inl rfl) rfl (by kernel_rfl) FINQ (KC.o _ MR.o) HF fun A β1 HF=>?_
 refine tqC 1 22 (.agg d.arr) (by kernel_rfl) FINQ (KC.o _ MR.o) HF (by exact aD (ab rfl) 28 _ rfl w.heap.size (HF.get 4 rfl) 28 _ _ _ (fun W hW=>hW) Tryz.underlying28 rfl (by kernel_rfl)) fun A β2 HF=>?_
 refine tqM 2 23 3 rfl (.inl rfl) rfl (by kernel_rfl) FINQ (KC.o _ MR.o) HF fun A β3 HF=>?_
 refine tqM 3 24 5 rfl (.inl rfl) rfl (by kernel_rfl) FINQ (KC.o _ MR.o) HF fun A β4 HF=>?_
 refine tqM 7 28 4 rfl (.inl rfl) rfl (by kernel_rfl) FINQ (KC.o _ MR.o) HF fun A β5 HF=>?_
 refine tqC 8 29 (.agg d.arr) (by kernel_rfl) FINQ (KC.o _ MR.o) HF (by exact aD (ab rfl) 28 _ rfl w.heap.size (HF.get 8 rfl) 28 _ _ _ (fun W hW=>hW) Tryz.underlying28 rfl (by kernel_rfl)) fun A β6 HF=>?_
 refine tqM 9 30 8 rfl (.inl rfl) rfl (by kernel_rfl) FINQ (KC.o _ MR.o) HF fun A β7 HF=>?_
 refine tqM 13 34 7 rfl (.inl rfl) rfl (by kernel_rfl) FINQ (KC.o _ MR.o) HF fun A β8 HF=>?_
 refine tqC 14 35 (.agg d.arr) (by kernel_rfl) FINQ (KC.o _ MR.o) HF (by exact aD (ab rfl) 28 _ rfl w.heap.size (HF.get 11 rfl) 28 _ _ _ (fun W hW=>hW) Tryz.underlying28 rfl (by kernel_rfl)) fun A β9 HF=>?_
 refine tqM 15 36 11 rfl (.inl rfl) rfl (by kernel_rfl) FINQ (KC.o _ MR.o) HF fun A β10 HF=>?_
 refine tqC 19 40 ((.int .i64 0)) (by kernel_rfl) FINQ (KC.o _ MR.o) HF (by exact bT (ab rfl) _ rfl rfl) fun A β11 HF=>?_
 refine tqO 4 25 (by kernel_rfl) HF fun K hK=>?_
 refine dE (v0:=.agg d.arr) (v1:=.int .i64 u) (v2:=.int .i64 k) rfl (HF.get 9 rfl) (HF.get 8 rfl) (HF.get 7 rfl) (enters_of Tryz.func74 (by kernel_rfl) rfl) ?_
 refine(xF HR.o u k wq).mono ?_
 rintro e w3 ⟨rfl,h9⟩
 have N3:=hQQ h9
 have M3:=hQQ (MR.o.trans h9)
 clear h9
 refine hK _ _ (KC.o _ M3.o) fun A β12 HF=>?_
 clear hK K
 refine tqO 5 26 (by kernel_rfl) HF fun K hK=>?_
 refine uG rfl (b:=caV d u k) (l:=d.ca) (HF.get 0 rfl) ?_
 obtain⟨w4,e1,b0,h1,s1⟩:=bg w3 (.cells #[.int .i64 (caV d u k),.int .i64 (d.ca)] 96)
 rw[e1]
 have S4:=hQQ b0
 have N4:=hQQ h1
 have M4:=hQQ (M3.o.trans h1)
 have Z4:=hQQ s1
 clear h1 b0 e1 s1
 refine hK _ _ (KC.o _ M4.o) fun A β13 HF=>?_
 clear hK K
 refine tqO 6 27 (by kernel_rfl) HF fun K hK=>?_
 refine bO (v0:=.pointer (some ⟨p,0,none⟩)) (v1:=.slice (some ⟨w3.heap.size,0,none⟩) 1 1) rfl (HF.get 12 rfl) (HF.get 0 rfl) (enters_of Tryz.func50 (by kernel_rfl) rfl) ?_
 refine(ur p (some ⟨w3.heap.size,0,none⟩) 1 1 w4).mono ?_
 rintro e w5 ⟨rfl,rfl⟩
 obtain⟨w5,e1,b0,b1,h1,s1⟩:=ij w4 (.cells #[.pointer (some ⟨p,0,none⟩)] 43) (.cells #[.slice (some ⟨w3.heap.size,0,none⟩) 1 1] 93)
 rw[e1]
 have V5:=hQQ b0
 have F5:=hQQ b1
 have N5:=hQQ h1
 have M5:=hQQ (M4.o.trans h1)
 have Z5:=hQQ s1
 clear h1 b0 b1 e1 s1
 refine hK _ _ (KC.o _ M5.o) fun A β14 HF=>?_
 clear hK K
 refine tqO 10 31 (by kernel_rfl) HF fun K hK=>?_
 refine bO (v0:=.agg d.arr) (v1:=.int .i64 k) rfl (HF.get 8 rfl) (HF.get 7 rfl) (enters_of Tryz.func75 (by kernel_rfl) rfl) ?_
 refine(IR HR.o k w5).mono ?_
 rintro e w6 ⟨rfl,h9⟩
 have N6:=hQQ h9
 have M6:=hQQ (M5.o.trans h9)
 clear h9
 refine hK _ _ (KC.o _ M6.o) fun A β15 HF=>?_
 clear hK K
 refine tqO 11 32 (by kernel_rfl) HF fun K hK=>?_
 refine uG rfl (b:=biV d k) (l:=d.bi) (HF.get 0 rfl) ?_
 obtain⟨w7,e1,b0,h1,s1⟩:=bg w6 (.cells #[.int .i64 (biV d k),.int .i64 (d.bi)] 96)
 rw[e1]
 have S7:=hQQ b0
 have N7:=hQQ h1
 have M7:=hQQ (M6.o.trans h1)
 have Z7:=hQQ s1
 clear h1 b0 e1 s1
 refine hK _ _ (KC.o _ M7.o) fun A β16 HF=>?_
 clear hK K
 refine tqO 12 33 (by kernel_rfl) HF fun K hK=>?_
 refine bO (v0:=.pointer (some ⟨p,0,none⟩)) (v1:=.slice (some ⟨w6.heap.size,0,none⟩) 1 1) rfl (HF.get 11 rfl) (HF.get 0 rfl) (enters_of Tryz.func50 (by kernel_rfl) rfl) ?_
 refine(ur p (some ⟨w6.heap.size,0,none⟩) 1 1 w7).mono ?_
 rintro e w8 ⟨rfl,rfl⟩
 obtain⟨w8,e1,b0,b1,h1,s1⟩:=ij w7 (.cells #[.pointer (some ⟨p,0,none⟩)] 43) (.cells #[.slice (some ⟨w6.heap.size,0,none⟩) 1 1] 93)
 rw[e1]
 have V8:=hQQ b0
 have F8:=hQQ b1
 have N8:=hQQ h1
 have M8:=hQQ (M7.o.trans h1)
 have Z8:=hQQ s1
 clear h1 b0 b1 e1 s1
 refine hK _ _ (KC.o _ M8.o) fun A β17 HF=>?_
 clear hK K
 refine tqO 16 37 (by kernel_rfl) HF fun K hK=>?_
 refine dE (v0:=.pointer (some ⟨p,0,none⟩)) (v1:=.agg d.arr) (v2:=.int .i64 k) rfl (HF.get 9 rfl) (HF.get 8 rfl) (HF.get 7 rfl) (enters_of Tryz.func97 (by kernel_rfl) rfl) ?_
 refine(Fm p d k w8).mono ?_
 rintro e w9 ⟨rfl,rfl⟩
 obtain⟨w9,e1,b0,b1,b2,h1,s1⟩:=jD w8 (.cells #[.pointer (some ⟨p,0,none⟩)] 43) (.cells d.arr 28) (.cells #[.int .i64 k] 3)
 rw[e1]
 have V9:=hQQ b0
 have L9:=hQQ b1
 have C9:=hQQ b2
 have N9:=hQQ h1
 have M9:=hQQ (M8.o.trans h1)
 have Z9:=hQQ s1
 clear h1 b0 b1 b2 e1 s1
 refine hK _ _ (KC.o _ M9.o) fun A β18 HF=>?_
 clear hK K
 refine tqO 17 38 (by kernel_rfl) HF fun K hK=>?_
 refine Cn rfl (HF.get 4 rfl) (HF.get 1 rfl) (HF.get 0 rfl) ?_
 obtain⟨w10,e1,b0,h1,s1⟩:=bg w9 (.cells #[.func (.func 88) #[] #[.pointer (some ⟨w4.heap.size+1,0,none⟩),.pointer (some ⟨w4.heap.size,0,none⟩)],.func (.func 88) #[] #[.pointer (some ⟨w7.heap.size+1,0,none⟩),.pointer (some ⟨w7.heap.size,0,none⟩)],.func (.func 122) #[] #[.pointer (some ⟨w8.heap.size,0,none⟩),.pointer (some ⟨w8.heap.size+1,0,none⟩),.pointer (some ⟨w8.heap.size+2,0,none⟩)]] 100)
 rw[e1]
 have B10:=hQQ b0
 have N10:=hQQ h1
 have M10:=hQQ (M9.o.trans h1)
 have Z10:=hQQ s1
 clear h1 b0 e1 s1
 refine hK _ _ (KC.o _ M10.o) fun A β19 HF=>?_
 clear hK K
 refine tqC 18 39 (.int .i64 3) (by kernel_rfl) FINQ (KC.o _ M10.o) HF (by exact(Or.inl ⟨(ab rfl),fun W hW=>by have h5:=(HF.getD 0 rfl);go_simp;try rfl⟩)) fun A β20 HF=>?_
 have FE:=(by
  have n5:ae w5 w10:=(((N6.o.trans N7.o).trans N8.o).trans N9.o).trans N10.o
  have n4:ae w4 w10:=N5.o.trans n5
  have n8:ae w8 w10:=N9.o.trans N10.o
  have n7:ae w7 w10:=N8.o.trans n8
  have z3:=M3.o.size;have z4:=Z4.o;have z5:=Z5.o;have z6:=N6.o.size;have z7:=Z7.o;have z8:=Z8.o;have z9:=Z9.o
  have nF:∀x,wr.heap.size≤x→¬F x:=fun x hx q=>by have:=Fq9.o x q;omega
  exact(⟨n5.block V5.o,n5.block F5.o,n4.block S4.o,n8.block V8.o,n8.block F8.o,n7.block S7.o,N10.o.block V9.o,N10.o.block L9.o,N10.o.block C9.o,B10.o,⟨nF _ (by omega),nF _ (by omega),nF _ (by omega)⟩,⟨nF _ (by omega),nF _ (by omega),nF _ (by omega)⟩,⟨nF _ (by omega),nF _ (by omega),nF _ (by omega)⟩,nF _ (by omega)⟩:FeB d u k p (w4.heap.size) (w4.heap.size+1) (w3.heap.size) (w7.heap.size) (w7.heap.size+1) (w6.heap.size) (w8.heap.size) (w8.heap.size+1) (w8.heap.size+2) (w9.heap.size) F w10))
 exact bU (by kernel_rfl) (FINE _ _ ⟨(.pointer (some ⟨p,0,none⟩)),(.agg d.arr),(.int .i64 u),(.int .i64 k),(.pointer (some ⟨p,0,none⟩)),(.agg d.arr),(.int .i64 k),(.pointer (some ⟨p,0,none⟩)),(.agg d.arr),(.int .i64 k),(.agg #[.int .i64 (caV d u k),.int .i64 d.ca]),(.slice (some ⟨w3.heap.size,0,none⟩) 1 1),(.func (.func 88) #[] #[.pointer (some ⟨w4.heap.size+1,0,none⟩),.pointer (some ⟨w4.heap.size,0,none⟩)]),(.agg #[.int .i64 (biV d k),.int .i64 d.bi]),(.slice (some ⟨w6.heap.size,0,none⟩) 1 1),(.func (.func 88) #[] #[.pointer (some ⟨w7.heap.size+1,0,none⟩),.pointer (some ⟨w7.heap.size,0,none⟩)]),(.func (.func 122) #[] #[.pointer (some ⟨w8.heap.size,0,none⟩),.pointer (some ⟨w8.heap.size+1,0,none⟩),.pointer (some ⟨w8.heap.size+2,0,none⟩)]),w4.heap.size,w4.heap.size+1,w3.heap.size,w7.heap.size,w7.heap.size+1,w6.heap.size,w8.heap.size,w8.heap.size+1,w8.heap.size+2,w9.heap.size,by rw[← β20,← β19,← β18,← β17,← β16,← β15,← β14,← β13,← β12,← β11,← β10,← β9,← β8,← β7,← β6,← β5,← β4,← β3,← β2,← β1]<;>rfl,M10.o,FE⟩)
section
variable {P:Program}{ops:Array Oper}{md:Region.Mode}{C:World→Prop}{L:Nat}{Q:Exit→Act→World→Prop}
def lR (P:Program)(md:Region.Mode)(ops:Array Oper)(C:World→Prop)(L:Nat)(Q:Exit→Act→World→Prop):Nat→Array Bool→Act→World→Prop
 | 0,d,a,w=>Region.ready md ops d= []∧Q .normal a w
 |f+1,d,a,w=>(Region.ready md ops d= []→Q .normal a w)∧∀i∈Region.ready md ops d,wpOp P ops Q i (fun a' w'=>((d.setIfInBounds i true).getD L true=true∨C w')∧lR P md ops C L Q f (d.setIfInBounds i true) a' w') a w
theorem Ja:∀(f:Nat) (d:Array Bool) (a:Act) (w:World),lR P md ops C L Q f d a w→wpAny P md ops Q f d a w:=by
 intro f
 induction f with
 |zero=>intro d a w h;exact h
 |succ f ih=>intro d a w h;exact⟨h.1,fun i hi=>wpOp_mono (fun a' w' z=>ih _ a' w' z.2) (h.2 i hi)⟩
def DI (md:Region.Mode)(ops:Array Oper)(L i:Nat):Bool :=
 match ops[L]? with
 |some o=>o.after.any fun e=>Region.binds md e && e.on==i
 |none=>false
theorem Co {i:Nat}(h:DI md ops L i=true){d:Array Bool}(hL:L∈Region.ready md ops d)(hun:d.getD i true=false):False:=by
 obtain⟨_,o,ho,hall⟩:=mem_ready.1 hL
 unfold DI at h
 rw[ho] at h
 rw[Array.any_eq_true] at h
 obtain⟨k,hk,hb⟩:=h
 simp only[Bool.and_eq_true,beq_iff_eq] at hb
 have h3:=hall o.after[k] (Array.getElem_mem hk) hb.1
 rw[hb.2,getD_both hun] at h3
 cases h3
theorem Aj {i:Nat}{oi:Oper}{v:Value}(hne:i≠L)(hi:ops[i]?=some oi)(hsel:∀(j:Nat)(o:Oper) cs b,ops[j]?=some o→o.op≠ .select cs b)
 (hQ:∀c a w,Q (.panic c) (a.put oi.dst v) w→Q (.panic c) a w):
 ∀(fuel:Nat) (listed:Array Bool) (a:Act) (w:World),(listed.getD L true=true∨C w) →
  (∀j oj,ops[j]?=some oj→j≠i→listed.getD j true=false→(∀e∈oj.after,Region.binds md e=true→e.on≠i)→oi.apart ops oj=true) →
  i∈Region.ready md ops listed→bM P ops (fun _=>True) oi v a →
  lR P md ops C L Q fuel (listed.setIfInBounds i true) (a.put oi.dst v) w→lR P md ops C L Q (fuel+1) listed a w:=by
 intro fuel
 induction fuel with
 |zero =>
  intro listed a w hC _ hr hy H
  refine⟨fun h=>(by rw[h] at hr;cases hr),fun j hj=>?_⟩
  by_cases hji:j=i
  ·subst hji;exact hy.wpOp hi trivial ⟨by rw[getD_set_ne true hne];exact hC,H⟩
  ·have:=ready_mono hj hji
   rw[H.1] at this
   cases this
 |succ fuel ih =>
  intro listed a w hC hfree hr hy H
  refine⟨fun h=>(by rw[h] at hr;cases hr),fun j hj=>?_⟩
  by_cases hji:j=i
  ·subst hji;exact hy.wpOp hi trivial ⟨by rw[getD_set_ne true hne];exact hC,H⟩
  ·have h1:=H.2 j (ready_mono hj hji)
   obtain⟨hjun,oj,hoj,hall⟩:=mem_ready.1 hj
   have hnot:∀e∈oj.after,Region.binds md e=true→e.on≠i:=fun e he hb heq=>by
    have h1:=hall e he hb
    have h0:=(mem_ready.1 hr).1
    rw[heq] at h1
    rcases Nat.lt_or_ge i listed.size with h'|h'
    ·simp[h'] at h0 h1;rw[h0] at h1;cases h1
    ·simp[Array.getElem?_eq_none h'] at h1
   have h2:=qC hoj (hfree j oj hoj hji hjun hnot) (fun cs b=>hsel i oi cs b hi) (fun cs b=>hsel j oj cs b hoj) hQ hy h1
   have hfree':∀k ok,ops[k]?=some ok→k≠i→(listed.setIfInBounds j true).getD k true=false →
    (∀e∈ok.after,Region.binds md e=true→e.on≠i)→oi.apart ops ok=true:=fun k ok hk hki hun hno=>by
    refine hfree k ok hk hki ?_ hno
    by_cases hjk:j=k
    ·subst hjk;exact hjun
    ·rw[getD_set_ne true hjk] at hun;exact hun
   refine wpOp_mono (fun a' w' h3=>?_) h2
   have h4:=h3.2.1
   rw[Array.setIfInBounds_comm _ _ (Ne.symm hji),getD_set_ne true hne] at h4
   have h5:=h4
   refine⟨h4,ih (listed.setIfInBounds j true) a' w' h5 hfree' (ready_mono hr (Ne.symm hji)) h3.1 ?_⟩
   rw[Array.setIfInBounds_comm _ _ hji]
   exact h3.2.2
theorem Cp {i:Nat}{oi:Oper}{v:Value}(hne:i≠L)(hL:DI md ops L i=true)(hi:ops[i]?=some oi)(hsel:∀(j:Nat)(o:Oper) cs b,ops[j]?=some o→o.op≠ .select cs b)
 (hQ:∀c a w,Q (.panic c) (a.put oi.dst v) w→Q (.panic c) a w):
 ∀(fuel:Nat) (listed:Array Bool) (a:Act) (w:World),listed.getD L true=false∧C w →
  (∀j oj,ops[j]?=some oj→j≠i→listed.getD j true=false→(∀e∈oj.after,Region.binds md e=true→e.on≠i)→oi.apart ops oj=true) →
  i∈Region.ready md ops listed→bM P ops C oi v a →
  lR P md ops C L Q fuel (listed.setIfInBounds i true) (a.put oi.dst v) w→lR P md ops C L Q (fuel+1) listed a w:=by
 intro fuel
 induction fuel with
 |zero =>
  intro listed a w hC _ hr hy H
  refine⟨fun h=>(by rw[h] at hr;cases hr),fun j hj=>?_⟩
  by_cases hji:j=i
  ·subst hji;exact hy.wpOp hi hC.2 ⟨.inr hC.2,H⟩
  ·have:=ready_mono hj hji
   rw[H.1] at this
   cases this
 |succ fuel ih =>
  intro listed a w hC hfree hr hy H
  refine⟨fun h=>(by rw[h] at hr;cases hr),fun j hj=>?_⟩
  by_cases hji:j=i
  ·subst hji;exact hy.wpOp hi hC.2 ⟨.inr hC.2,H⟩
  ·have h1:=H.2 j (ready_mono hj hji)
   obtain⟨hjun,oj,hoj,hall⟩:=mem_ready.1 hj
   have hnot:∀e∈oj.after,Region.binds md e=true→e.on≠i:=fun e he hb heq=>by
    have h1:=hall e he hb
    have h0:=(mem_ready.1 hr).1
    rw[heq] at h1
    rcases Nat.lt_or_ge i listed.size with h'|h'
    ·simp[h'] at h0 h1;rw[h0] at h1;cases h1
    ·simp[Array.getElem?_eq_none h'] at h1
   have h2:=qC hoj (hfree j oj hoj hji hjun hnot) (fun cs b=>hsel i oi cs b hi) (fun cs b=>hsel j oj cs b hoj) hQ hy h1
   have hfree':∀k ok,ops[k]?=some ok→k≠i→(listed.setIfInBounds j true).getD k true=false →
    (∀e∈ok.after,Region.binds md e=true→e.on≠i)→oi.apart ops ok=true:=fun k ok hk hki hun hno=>by
    refine hfree k ok hk hki ?_ hno
    by_cases hjk:j=k
    ·subst hjk;exact hjun
    ·rw[getD_set_ne true hjk] at hun;exact hun
   refine wpOp_mono (fun a' w' h3=>?_) h2
   have h4:=h3.2.1
   rw[Array.setIfInBounds_comm _ _ (Ne.symm hji),getD_set_ne true hne] at h4
   have hjL:j≠L:=fun e=>by subst e;exact Co hL hj (mem_ready.1 hr).1
   have h5:(listed.setIfInBounds j true).getD L true=false∧C w':=by
    rw[getD_set_ne true hjL,hC.1] at h4
    refine⟨by rw[getD_set_ne true hjL];exact hC.1,h4.resolve_left (by simp)⟩
   refine⟨h4,ih (listed.setIfInBounds j true) a' w' h5 hfree' (ready_mono hr (Ne.symm hji)) h3.1 ?_⟩
   rw[Array.setIfInBounds_comm _ _ hji]
   exact h3.2.2
theorem ce {i:Nat}{oi:Oper}{v:Value}{fuel:Nat}{listed:Array Bool}{a:Act}{w:World}(hL:DI md ops L i=true)(hne:(i==L)=false)(hu:listed.getD L true=false)(d:Option Tmp)(hi:ops[i]?=some oi)(hd:oi.dst=d)
 (hs:Region.noSelect ops=true) (hf:Region.free md ops listed i=true) (hr:(Region.ready md ops listed).contains i=true)
 (hQ:∀c a w,Q (.panic c) (a.put d v) w→Q (.panic c) a w) (hC:C w) (hy:bM P ops C oi v a)
 (h:lR P md ops C L Q fuel (listed.setIfInBounds i true) (a.put d v) w):lR P md ops C L Q (fuel+1) listed a w:=by
 subst hd
 exact Cp (by simpa using hne) hL hi (Region.noSelect_spec hs) hQ fuel listed a w ⟨hu,hC⟩ (Region.free_spec hi hf) (by simpa using hr) hy h
theorem pc {i:Nat}{oi:Oper}{v:Value}{fuel:Nat}{listed:Array Bool}{a:Act}{w:World}(hne:(i==L)=false)(d:Option Tmp)(hi:ops[i]?=some oi)(hd:oi.dst=d)
 (hs:Region.noSelect ops=true) (hf:Region.free md ops listed i=true) (hr:(Region.ready md ops listed).contains i=true)
 (hQ:∀c a w,Q (.panic c) (a.put d v) w→Q (.panic c) a w) (hC:C w) (hy:bM P ops (fun _=>True) oi v a)
 (h:lR P md ops C L Q fuel (listed.setIfInBounds i true) (a.put d v) w):lR P md ops C L Q (fuel+1) listed a w:=by
 subst hd
 exact Aj (by simpa using hne) hi (Region.noSelect_spec hs) hQ fuel listed a w (.inr hC) (Region.free_spec hi hf) (by simpa using hr) hy h
theorem qY {fuel:Nat}{listed:Array Bool}{a:Act}{w:World}(hr:Region.ready md ops listed= [])(h:Q .normal a w):lR P md ops C L Q fuel listed a w:=by
 cases fuel with
 |zero=>exact⟨hr,h⟩
 |succ f=>exact⟨fun _=>h,fun i hi=>(by rw[hr] at hi;cases hi)⟩
theorem fW {i:Nat}{o:Oper}{fuel:Nat}{listed:Array Bool}{a:Act}{w:World}(d:Option Tmp)(hr:Region.ready md ops listed= [i])(hi:ops[i]?=some o)(hw:Region.wanted o (yielded ops a.tmps)=true)(hd:o.dst=d)
 (h:∀K:Act→World→Prop,(∀v w',((listed.setIfInBounds i true).getD L true=true∨C w')→lR P md ops C L Q fuel (listed.setIfInBounds i true) (a.put d v) w'→K (a.put o.dst v) w')→Oper.wp P o a w K Q):lR P md ops C L Q (fuel+1) listed a w:=by
 subst hd
 refine⟨fun q=>(by rw[hr] at q;cases q),fun j hj=>?_⟩
 rw[hr] at hj
 obtain rfl:j=i:=by simpa using hj
 unfold Go.wpOp
 simp only[hi,hw,if_true]
 exact .inl (h _ (fun v w' hc hA=>⟨hc,hA⟩))
theorem jS {id:Nat}{a:Act}{w:World}(C:World→Prop)(L:Nat)(hm:P.follows .mixedOrders=true)(h:lR P .any ops C L Q ops.size (Array.replicate ops.size false) a { w with drawn:=w.drawn+1 }):(Code.region id ops true).wp P Q a w :=
 wp_region_any hm (Ja _ _ _ _ h)
theorem pd {f:Nat}{d:Array Bool}{a:Act}{w:World} (Φ:Act→World→Prop) (Ψ:World→Prop)(ch:List PanicEntry)(fp:∀a w,a.defers= []→Ψ w→Q (.panic ch) a w)(fq:∀c a k v w,Q (.panic c) (Act.put a (some k) v) w→Q (.panic c) a w)(fn:∀a w,Φ a w→Q .normal a w)
 (h:∀Q':Exit→Act→World→Prop,(∀a w,Φ a w→Q' .normal a w)→(∀a w,a.defers= []→Ψ w→Q' (.panic ch) a w)→(∀c a k v w,Q' (.panic c) (Act.put a (some k) v) w→Q' (.panic c) a w)→lR P md ops C L Q' f d a w):lR P md ops C L Q f d a w:=h Q fn fp fq
end
theorem Cq {o:Oper}{a:Act}{w:World}{K:Act→World→Prop}{Q:Exit→Act→World→Prop}{x y z:Operand}(ho:o.op=.buildSlice 136 3 #[(0,x),(1,y),(2,z)]){fu fv ft:Fn}{lu lv lt:Array Value}(hx:a.eval x=.func fu #[] lu)(hy:a.eval y=.func fv #[] lv)(hz:a.eval z=.func ft #[] lt)(h:K (a.put o.dst (.slice (some ⟨w.heap.size,0,none⟩) 3 3)) (w.alloc (.cells #[.func fu #[] lu,.func fv #[] lv,.func ft #[] lt] 103))):Oper.wp Tryz.prog o a w K Q:=by
 unfold Oper.wp Oper.upon execOp
 simp only[ho]
 generalize a.eval=ρ at hx hy hz⊢
 go_simp
 exact h
structure GvS (w:World)(F N:Nat→Prop)(p:Nat)(kn:Int→Option Int)(n:Nat)(D:List KV)(F1:Nat→Prop)(f:Nat→Value)(P:Nat→List Int)(W:World):Prop where
 view:aF W F1 p kn D
 from':∀k,F1 k→F k∨w.heap.size≤k
 turn:Turned F w W
 inv:cI n D
 box:W.heap[w.heap.size+1]?=some (.cells (puA f) 32 (0,0))
 pu:cS (fun q=>N q∨F1 q) W f P
 res:W.heap[w.heap.size+2]?=some (.cells #[.slice none 0 0,.slice none 0 0,.slice none 0 0,.slice none 0 0,.slice none 0 0] 32 (0,0))
 n1:¬F1 (w.heap.size+1)
 n2:¬F1 (w.heap.size+2)
theorem GvS.fin {w W wx:World}{F N F1:Nat→Prop}{p n:Nat}{kn:Int→Option Int}{D:List KV}{f f9:Nat→Value}{P P':Nat→List Int}(g:GvS w F N p kn n D F1 f P W)(mx:ae W wx)(px:cS (fun q=>N q∨F1 q) wx f9 P'):
 (wx.setRow (w.heap.size+1) (puA f9)).heap[w.heap.size+1]?=some (.cells (puA f9) 32 (0,0)) ∧
 (wx.setRow (w.heap.size+1) (puA f9)).heap[w.heap.size+2]?=some (.cells #[.slice none 0 0,.slice none 0 0,.slice none 0 0,.slice none 0 0,.slice none 0 0] 32 (0,0)) ∧
 ∀Rr,Rr=.ok ((),P') D→iV w F N p kn (fun(_:Unit) v=>v) Rr (.returned (.agg (puA f9))) ((wx.setRow (w.heap.size+1) (puA f9)).setRow (w.heap.size+2) (puA f9)):=by
 have b1:=mx.block g.box
 have b2:=mx.block g.res
 have x1:=setRow_heap wx (w.heap.size+1) _ (puA f9) _ _ b1
 have t1:Turned (fun k=>k=w.heap.size+1) wx (wx.setRow (w.heap.size+1) (puA f9)):=Turned.setRow (Turned.refl _ _) _ _ (fun _=>rfl)
 have x2:(wx.setRow (w.heap.size+1) (puA f9)).heap[w.heap.size+2]?=some (.cells #[.slice none 0 0,.slice none 0 0,.slice none 0 0,.slice none 0 0,.slice none 0 0] 32 (0,0)):=(t1.block _ (ac b2) (by omega)).trans b2
 generalize wx.setRow (w.heap.size+1) (puA f9)=wy at x1 x2 t1
 have t2:Turned (fun k=>k=w.heap.size+2) wy (wy.setRow (w.heap.size+2) (puA f9)):=Turned.setRow (Turned.refl _ _) _ _ (fun _=>rfl)
 refine⟨x1,x2,?_⟩
 rintro Rr rfl
 have v1:=(g.view.more mx).keepS t1 (fun k q e=>g.n1 (e▸q)) (fun k es cl e q=>by subst e;rw[b1] at q;cases q)
 have v2:=v1.keepS t2 (fun k q e=>g.n2 (e▸q)) (fun k es cl e q=>by subst e;rw[x2] at q;cases q)
 have p1:=px.keep t1 (fun k q=>by subst q;exact⟨_,_,_,b1,by decide⟩)
 have p2:=p1.keep t2 (fun k q=>by subst q;exact⟨_,_,_,x2,by decide⟩)
 refine⟨f9,F1,rfl,v2,?_,g.from',p2⟩
 exact ak (ak (ak (F':=fun _=>False) g.turn mx (fun _ q=>q.elim)) t1 (fun k q=> .inr (by omega))) t2 (fun k q=> .inr (by omega))
theorem Nn {d:Cfg}(R:d.Ok){n:Nat}(H:cF d.pg d.st n)(hw:(n:Int)=d.words)(hn:n≤10000){bt:Nat}(F N:Nat→Prop)(p:Nat)(kn:Int→Option Int)(D:List KV)(w:World)(u k a:Int)(f:Nat→Value)(P:Nat→List Int)
 (hv:aF w F p kn D) (hk:OkK kn) (hD:cI n D) (hs:dh bt w) (nF0:¬F 0) (nFb:¬F bt) (hN:∀k,N k→k<w.heap.size) (pu:cS (fun q=>N q∨F q) w f P) (hP:dr d P) (ha:W64 a):
 Calls Tryz.prog 40 #[.pointer (some ⟨p,0,none⟩),.agg d.arr,.int .i64 u,.agg (puA f),.int .i64 k,.int .i64 a] w (iV w F N p kn (fun _ v=>v) (gvP d u P k a kn D)):=by
 obtain⟨Rr,hRr⟩:∃Rr,gvP d u P k a kn D=Rr:=⟨_,rfl⟩
 rw[hRr]
 obtain⟨w3,e3,b0,b1,b2,m3,s3⟩:=jD w (.cells d.arr 28) (.cells (puA f) 32) (.cells #[.slice none 0 0,.slice none 0 0,.slice none 0 0,.slice none 0 0,.slice none 0 0] 32)
 have L0:=hQQ b0
 have BP:=hQQ b1
 have BZ:=hQQ b2
 have HM:=hQQ m3
 have HR:=hQQ R
 have HH:=hQQ H
 have HK:=hQQ hk
 have HS3:=hQQ s3
 have PU:=hQQ (pu.more m3)
 have HLN:=hQQ (hP.len R)
 clear b0 b1 b2 m3 s3 R H hk
 by_cases q:caV d u k=0
 ·have q0:(caV d u k != 0)=false:=by simp[q]
  unfold gvP at hRr
  rw[if_pos q] at hRr
  clear q
  go_enter Tryz.func40,Tryz.ntmps40
  go_wp2_with (refine aM rfl rfl rfl L0.o (by kernel_rfl) ?_)
  refine(sf HR.o u k w3).mono ?_
  rintro e w4 ⟨rfl,h4⟩
  rw[q0]
  have X1:=hQQ (h4.block BP.o)
  have X2:=hQQ (h4.block BZ.o)
  have AL:=hQQ (Pu.all1 pu.1)
  have mz:ae w (w4.setRow (w.heap.size+2) (puA f)):=(HM.o.trans h4).setRow _ _ (by omega)
  have FIN:Hq (iV w F N p kn (fun(_:Unit) v=>v) Rr (.returned (.agg (puA f))) (w4.setRow (w.heap.size+2) (puA f))):=hQQ (by
   have:Rr=.ok ((),P) D:=hRr.symm
   subst this
   exact⟨f,F,rfl,hv.more mz,Turned.mono mz (fun _ _ q=>q.elim),fun b q=> .inl q,pu.more mz⟩)
  clear h4 mz hRr
  go_wp2_with (first
   |(refine kY rfl rfl rfl X1.o (by kernel_rfl) ?_)
   |(refine wpList_store_row rfl 32 _ _ rfl _ (puA f) rfl rfl 32 _ X2.o (by kernel_rfl) rfl AL.o ?_))
  refine bodyPost_ret (v:=.agg (puA f)) (results_cell_row Tryz.results40 _ _ _ 32 _ (0,0) _ rfl (setRow_heap _ _ _ _ _ _ X2.o) Tryz.underlying32 rfl (by kernel_rfl)) rfl FIN.o
 ·have HQ:=hQQ ((ke HR.o u k).1 q)
  have q0:(caV d u k != 0)=true:=by simp[q]
  obtain⟨j,rfl⟩:∃j:Nat,k=j:=⟨k.toNat,by have:=HQ.o.1;omega⟩
  have hj:j<5:=by have:=HQ.o.2.1;omega
  unfold gvP at hRr
  rw[if_neg q] at hRr
  clear q
  go_enter Tryz.func40,Tryz.ntmps40
  go_wp2_with (refine aM rfl rfl rfl L0.o (by kernel_rfl) ?_)
  refine(sf HR.o u j w3).mono ?_
  rintro e w4 ⟨rfl,h4⟩
  rw[q0]
  have M4:=hQQ h4
  have L4:=hQQ (h4.block L0.o)
  have B4:=hQQ (h4.block BP.o)
  have PU4:=hQQ (PU.o.more h4)
  clear h4
  go_wp2_with fail
  have hf:=Cc d
  by_cases hful:d.pr≤cP P j
  ·have d1:decide (d.pr≤cP P j)=true:=by simp[hful]
   have HFUL:=hQQ hful
   rw[if_pos hful] at hRr
   have NEED:Hq (∀a' w2,dF d.us d.pg d.st (wy3 d u j) j d.ba.toNat P kn D=.need a'→bJ w2 p a'→Turned F w w2→iV w F N p kn (fun _ v=>v) Rr (.panicked (bB p)) w2):=hQQ fun a' w2 e hd ht=>by
    have:Rr=.need a':=hRr.symm.trans (ag e)
    subst this
    exact⟨rfl,hd,ht⟩
   have RR:Hq (∀P9 D9,dF d.us d.pg d.st (wy3 d u j) j d.ba.toNat P kn D=.ok P9 D9→Rr=.ok ((),ed P9 j a (cP P9 j+1)) D9):=hQQ fun P9 D9 e=>hRr.symm.trans (aj e)
   clear hful hRr
   refine bQ (by kernel_rfl) (by kernel_rfl) ?_
   refine aP rfl 32 _ rfl _ rfl 32 _ _ _ (fun W hW=>hW.block B4.o) Tryz.underlying32 rfl (by kernel_rfl) ?_
   iterate 1
    with_reducible refine wpQuiet_step (fun K hK=>?_)
    go_simp
    first
    |(refine hK _ ?_;clear hK K)
    |(apply Exists.intro
      refine⟨fun W hW=>?_,hK _ ?_⟩
      first
      |(go_simp;try rfl)
      clear hK K)
   iterate 1
    with_reducible refine wpQuiet_step (fun K hK=>?_)
    go_simp
    first
    |(refine hK _ ?_;clear hK K)
    |(apply Exists.intro
      refine⟨fun W hW=>?_,hK _ ?_⟩
      first
      |(have hl:=om f P j W (PU4.o.more hW).1;go_at_call 21;exact Calls.more hW hl)
      clear hK K)
   refine aP rfl 28 _ rfl _ rfl 28 _ _ _ (fun W hW=>hW.block L4.o) Tryz.underlying28 rfl (by kernel_rfl) ?_
   iterate 1
    with_reducible refine wpQuiet_step (fun K hK=>?_)
    go_simp
    first
    |(refine hK _ ?_;clear hK K)
    |(apply Exists.intro
      refine⟨fun W hW=>?_,hK _ ?_⟩
      first
      |(go_at_call 20;exact Calls.more hW (dw HR.o W))
      clear hK K)
   iterate 2
    with_reducible refine wpQuiet_step (fun K hK=>?_)
    go_simp
    first
    |(refine hK _ ?_;clear hK K)
    |(apply Exists.intro
      refine⟨fun W hW=>?_,hK _ ?_⟩
      first
      |(go_simp;try rfl)
      clear hK K)
   refine wpQuiet_nil ?_
   intro wr mr
   clear hf
   have MW:=hQQ mr
   have KC:Hq (∀W,ae wr W→W.heap[w.heap.size]?=some (.cells d.arr 28 (0,0))):=hQQ fun W hW=>hW.block (mr.block L4.o)
   have BP:=hQQ (mr.block B4.o)
   have BZ:=hQQ (mr.block (M4.o.block BZ.o))
   have PU:=hQQ (PU4.o.more mr)
   have HM:=hQQ (HM.o.trans (M4.o.trans mr))
   clear mr PU4 L4 B4
   go_wp2_with fail
   clear d1
   refine aO (fun W=>W.heap[w.heap.size]?=some (.cells d.arr 28 (0,0))) (by kernel_rfl) ?_
   change dg _ _ _ _ _ _ _ _ (wr.drewN 1)
   have MR:Hq (ae wr (wr.drewN 1)):=hQQ ((ae.refl wr).drewN 1)
   generalize wr.drewN 1=wq at MR⊢
   generalize hA:Act.mk _ _=A
   have HF:AG 59 A [(0,.pointer (some ⟨p,0,none⟩)),(2,.int .i64 u),(4,.int .i64 (j:Int)),(5,.int .i64 a),(7,.pointer (some ⟨w.heap.size,0,none⟩)),(9,.pointer (some ⟨w.heap.size+1,0,none⟩))]:=by
    rw[←hA];try simp only[pts,List.foldl]
    refine⟨⟨Nat.le_of_ble_eq_true rfl,rfl⟩,?_⟩
    intro z hz;simp only[List.mem_cons,List.not_mem_nil,or_false] at hz;rcases hz with rfl|rfl|rfl|rfl|rfl|rfl<;>rfl
   refine bL (fun a W=>∃(u26 u27 u31 u32 u33 u34 u37 u38 u39 u42 u43 u28 u29 u30 u35 u36 u40 u41 u44 u45 u46:Value),a=(pts A [(26,u26),(27,u27),(31,u31),(32,u32),(33,u33),(34,u34),(37,u37),(38,u38),(39,u39),(42,u42),(43,u43),(28,u28),(29,u29),(30,u30),(35,u35),(36,u36),(40,u40),(41,u41),(44,u44),(45,u45),(46,u46)])∧∃f9 P9 D9 F9,GvS w F N p kn n D9 F9 f9 P9 W∧dF d.us d.pg d.st (wy3 d u j) j d.ba.toNat P kn D=.ok P9 D9) (fun W=>iV w F N p kn (fun _ v=>v) Rr (.panicked (bB p)) W) (bB p) (fun a W hd h=>⟨hd,h⟩) (fun _ _ _ _ _ h=>h) ?_ ?_
   ·skip
    rintro a9 wa ⟨u26,u27,u31,u32,u33,u34,u37,u38,u39,u42,u43,u28,u29,u30,u35,u36,u40,u41,u44,u45,u46,rfl,f9,P9,D9,F9,hg,he⟩
    rw[←hA];try simp only[pts,List.foldl]
    have G9:=hQQ hg
    have E9:=hQQ he
    clear HF hA MR hg he
    go_simp
    clear KC PU
    have PU:Hq (cS (fun q=>N q∨F9 q) wa f9 P9):=hQQ G9.o.pu
    have BP:=hQQ G9.o.box
    have FL:Hq (∀q,N q∨F9 q→q<wa.heap.size):=hQQ fun q z=>z.elim (fun y=>Nat.lt_of_lt_of_le (hN q y) G9.o.turn.size) (G9.o.view.lt q)
    have LG:=(uy HR.o HH.o hw hn HQ.o hP)
    rw[if_pos HFUL.o] at LG
    have LG2:=(LG.ok HK.o hD E9.o).2
    have HLN:Hq (∀q,q<5→(P9 q).length≤1000000):=hQQ (LG2.1.len HR.o)
    have WR:Hq (IntKind.i64.wrap (cP P9 j+1)=cP P9 j+1):=hQQ (by rw[dR P9 hj];have:=HLN.o j hj;exact aB (by omega) (by omega))
    obtain⟨wr2,hwr⟩:∃x,x=wr:=⟨_,rfl⟩
    clear hwr wr2 LG LG2
    have RQ:=hQQ (RR.o P9 D9 E9.o)
    clear RR NEED E9 HFUL
    go_wp2_with fail
    refine jS (ae wa) 11 (by kernel_rfl) ?_
    change lR _ _ _ _ _ _ _ _ _ (wa.drewN 1)
    have MR:Hq (ae wa (wa.drewN 1)):=hQQ ((ae.refl wa).drewN 1)
    generalize wa.drewN 1=wq at MR⊢
    generalize hA:Act.mk _ _=A
    have HF:AG 59 A [(4,.int .i64 (j:Int)),(5,.int .i64 a),(9,.pointer (some ⟨w.heap.size+1,0,none⟩)),(12,.pointer (some ⟨w.heap.size+2,0,none⟩))]:=by
     rw[←hA];try simp only[pts,List.foldl]
     refine⟨⟨Nat.le_of_ble_eq_true rfl,rfl⟩,?_⟩
     intro z hz;simp only[List.mem_cons,List.not_mem_nil,or_false] at hz;rcases hz with rfl|rfl|rfl|rfl<;>rfl
    refine pd (fun aa W=>∃(u48 u49 u50 u51 u52 u53 u54 u55 u47 u56 u57:Value),aa=(Act.put (pts A [(48,u48),(49,u49),(50,u50),(51,u51),(52,u52),(53,u53),(54,u54),(55,u55),(47,u47),(56,u56),(57,u57)]) none undef)∧∃wx f9,ae wa wx∧cS (fun q=>N q∨F9 q) wx f9 (ed P9 j a (cP P9 j+1))∧W=wx.setRow (w.heap.size+1) (puA f9)) (fun _=>False) [] (fun a W hd h=>h.elim) (fun _ _ _ _ _ h=>h) ?_ ?_
    ·skip
     rintro a9 wb ⟨u48,u49,u50,u51,u52,u53,u54,u55,u47,u56,u57,rfl,wx,fz,mx,px,rfl⟩
     rw[←hA];try simp only[pts,List.foldl]
     obtain⟨e1,e2,e3⟩:=GvS.fin G9.o mx px
     have X1:=hQQ e1
     have X2:=hQQ e2
     have FIN:=hQQ (e3 Rr RQ.o)
     have AL:=hQQ (Pu.all1 px.1)
     clear HF hA MR e1 e2 e3 mx px
     go_simp
     go_wp2_with (first
      |(refine kY rfl rfl rfl X1.o (by kernel_rfl) ?_)
      |(refine wpList_store_row rfl 32 _ _ rfl _ (puA fz) rfl rfl 32 _ X2.o (by kernel_rfl) rfl AL.o ?_))
     refine bodyPost_ret (v:=.agg (puA fz)) (results_cell_row Tryz.results40 _ _ _ 32 _ (0,0) _ rfl (setRow_heap _ _ _ _ _ _ X2.o) Tryz.underlying32 rfl (by kernel_rfl)) rfl FIN.o
    intro QQ FINE FIND FINQ
    clear hA
    refine ce (i:=0) (v:=.agg (puA f9)) (by kernel_rfl) (by kernel_rfl) (by kernel_rfl) (some 48) rfl rfl (by kernel_rfl) (by kernel_rfl) (by kernel_rfl) (fun c a w=>FINQ c a _ _ w) MR.o (by exact aD (C:=(ae wa)) (ab rfl) 32 _ rfl (w.heap.size+1) (HF.get 2 rfl) 32 _ _ _ (fun W hW=>hW.block BP.o) Tryz.underlying32 rfl (by kernel_rfl)) ?_
    replace HF:=HF.put 48 (.agg (puA f9)) (by decide) rfl
    generalize β1:Act.put _ _ _=A at HF⊢
    refine ce (i:=1) (v:=.int .i64 (j:Int)) (by kernel_rfl) (by kernel_rfl) (by kernel_rfl) (some 49) rfl rfl (by kernel_rfl) (by kernel_rfl) (by kernel_rfl) (fun c a w=>FINQ c a _ _ w) MR.o (by exact bT (ab rfl) _ rfl (HF.get 1 rfl)) ?_
    replace HF:=HF.put 49 (.int .i64 (j:Int)) (by decide) rfl
    generalize β2:Act.put _ _ _=A at HF⊢
    refine ce (i:=2) (v:=.int .i64 a) (by kernel_rfl) (by kernel_rfl) (by kernel_rfl) (some 50) rfl rfl (by kernel_rfl) (by kernel_rfl) (by kernel_rfl) (fun c a w=>FINQ c a _ _ w) MR.o (by exact bT (ab rfl) _ rfl (HF.get 3 rfl)) ?_
    replace HF:=HF.put 50 (.int .i64 a) (by decide) rfl
    generalize β3:Act.put _ _ _=A at HF⊢
    refine ce (i:=3) (v:=.agg (puA f9)) (by kernel_rfl) (by kernel_rfl) (by kernel_rfl) (some 51) rfl rfl (by kernel_rfl) (by kernel_rfl) (by kernel_rfl) (fun c a w=>FINQ c a _ _ w) MR.o (by exact aD (C:=(ae wa)) (ab rfl) 32 _ rfl (w.heap.size+1) (HF.get 5 rfl) 32 _ _ _ (fun W hW=>hW.block BP.o) Tryz.underlying32 rfl (by kernel_rfl)) ?_
    replace HF:=HF.put 51 (.agg (puA f9)) (by decide) rfl
    generalize β4:Act.put _ _ _=A at HF⊢
    refine ce (i:=4) (v:=.int .i64 (j:Int)) (by kernel_rfl) (by kernel_rfl) (by kernel_rfl) (some 52) rfl rfl (by kernel_rfl) (by kernel_rfl) (by kernel_rfl) (fun c a w=>FINQ c a _ _ w) MR.o (by exact bT (ab rfl) _ rfl (HF.get 4 rfl)) ?_
    replace HF:=HF.put 52 (.int .i64 (j:Int)) (by decide) rfl
    generalize β5:Act.put _ _ _=A at HF⊢
    refine fW (i:=5) (some 53) (by kernel_rfl) rfl (ab rfl) rfl (fun K hK=>?_)
    refine bO (v0:=.agg (puA f9)) (v1:=.int .i64 (j:Int)) rfl (HF.get 1 rfl) (HF.get 0 rfl) (enters_of Tryz.func21 (by kernel_rfl) rfl) ?_
    refine(om f9 P9 j wq (PU.o.more MR.o).1).mono ?_
    rintro e w7 ⟨rfl,h7⟩
    have M7:=hQQ (MR.o.trans h7)
    clear h7
    refine hK _ _ (.inr M7.o) ?_
    clear hK K
    replace HF:=HF.put 53 (.int .i64 (cP P9 j)) (by decide) rfl
    generalize β6:Act.put _ _ _=A at HF⊢
    refine ce (i:=6) (v:=.int .i64 (cP P9 j+1)) (by kernel_rfl) (by kernel_rfl) (by kernel_rfl) (some 54) rfl rfl (by kernel_rfl) (by kernel_rfl) (by kernel_rfl) (fun c a w=>FINQ c a _ _ w) M7.o (by exact gR (ab rfl) rfl (HF.get 0 rfl) rfl _ WR.o) ?_
    replace HF:=HF.put 54 (.int .i64 (cP P9 j+1)) (by decide) rfl
    generalize β7:Act.put _ _ _=A at HF⊢
    refine fW (i:=7) (some 55) (by kernel_rfl) rfl (ab rfl) rfl (fun K hK=>?_)
    refine py (v0:=.agg (puA f9)) (v1:=.int .i64 (j:Int)) (v2:=.int .i64 a) (v3:=.int .i64 (cP P9 j+1)) rfl (HF.get 6 rfl) (HF.get 5 rfl) (HF.get 4 rfl) (HF.get 0 rfl) (enters_of Tryz.func67 (by kernel_rfl) rfl) ?_
    refine(xE (fun q=>¬(fun q=>N q∨F9 q) q) f9 P9 j a (cP P9 j+1) w7 (PU.o.more M7.o).1 PU.o.2 HLN.o).mono ?_
    intro e w8 he
    obtain⟨f8,rfl,h8,m8⟩:=eJ.at he (fun q z=>Nat.lt_of_lt_of_le (FL.o q z) M7.o.size)
    have P8:=hQQ h8
    have M8:=hQQ (M7.o.trans m8)
    clear he h8 m8
    refine hK _ _ (.inr M8.o) ?_
    clear hK K
    replace HF:=HF.put 55 (.tuple #[.agg (puA f8),.bool (dX P9 j (cP P9 j+1))]) (by decide) rfl
    generalize β8:Act.put _ _ _=A at HF⊢
    refine ce (i:=8) (v:=.tuple #[.agg (puA f8),.bool (dX P9 j (cP P9 j+1))]) (by kernel_rfl) (by kernel_rfl) (by kernel_rfl) (some 47) rfl rfl (by kernel_rfl) (by kernel_rfl) (by kernel_rfl) (fun c a w=>FINQ c a _ _ w) M8.o (by exact bT (ab rfl) _ rfl (HF.get 0 rfl)) ?_
    replace HF:=HF.put 47 (.tuple #[.agg (puA f8),.bool (dX P9 j (cP P9 j+1))]) (by decide) rfl
    generalize β9:Act.put _ _ _=A at HF⊢
    refine ce (i:=9) (v:=.agg (puA f8)) (by kernel_rfl) (by kernel_rfl) (by kernel_rfl) (some 56) rfl rfl (by kernel_rfl) (by kernel_rfl) (by kernel_rfl) (fun c a w=>FINQ c a _ _ w) M8.o (by exact(Or.inl ⟨(ab rfl),fun W hW=>by have h5:=(HF.getD 0 rfl);go_simp⟩)) ?_
    replace HF:=HF.put 56 (.agg (puA f8)) (by decide) rfl
    generalize β10:Act.put _ _ _=A at HF⊢
    refine pc (i:=10) (v:=.bool (dX P9 j (cP P9 j+1))) (by kernel_rfl) (some 57) rfl rfl (by kernel_rfl) (by kernel_rfl) (by kernel_rfl) (fun c a w=>FINQ c a _ _ w) M8.o (by exact(Or.inl ⟨(ab rfl),fun W hW=>by have h5:=(HF.getD 1 rfl);go_simp⟩)) ?_
    replace HF:=HF.put 57 (.bool (dX P9 j (cP P9 j+1))) (by decide) rfl
    generalize β11:Act.put _ _ _=A at HF⊢
    refine fW (i:=11) none (by kernel_rfl) rfl (ab rfl) rfl (fun K hK=>?_)
    refine wp_store_row 32 _ _ rfl (w.heap.size+1) _ (HF.get 13 rfl) (HF.get 1 rfl) 32 _ (M8.o.block BP.o) (by kernel_rfl) rfl (Pu.all1 P8.o.1) ?_
    refine hK _ _ (.inl (by kernel_rfl)) ?_
    exact qY (by kernel_rfl) (FINE _ _ ⟨(.agg (puA f9)),(.int .i64 (j:Int)),(.int .i64 a),(.agg (puA f9)),(.int .i64 (j:Int)),(.int .i64 (cP P9 j)),(.int .i64 (cP P9 j+1)),(.tuple #[.agg (puA f8),.bool (dX P9 j (cP P9 j+1))]),(.tuple #[.agg (puA f8),.bool (dX P9 j (cP P9 j+1))]),(.agg (puA f8)),(.bool (dX P9 j (cP P9 j+1))),by rw[← β11,← β10,← β9,← β8,← β7,← β6,← β5,← β4,← β3,← β2,← β1]<;>rfl,w8,f8,M8.o,P8.o,rfl⟩)
   intro QQ FINE FIND FINQ
   clear hA
   refine tqM 0 26 2 rfl (.inl rfl) rfl (by kernel_rfl) FINQ (KC.o _ MR.o) HF fun A β1 HF=>?_
   refine tqC 1 27 (.agg d.arr) (by kernel_rfl) FINQ (KC.o _ MR.o) HF (by exact aD (ab rfl) 28 _ rfl w.heap.size (HF.get 5 rfl) 28 _ _ _ (fun W hW=>hW) Tryz.underlying28 rfl (by kernel_rfl)) fun A β2 HF=>?_
   refine tqM 5 31 2 rfl (.inl rfl) rfl (by kernel_rfl) FINQ (KC.o _ MR.o) HF fun A β3 HF=>?_
   refine tqC 6 32 (.agg d.arr) (by kernel_rfl) FINQ (KC.o _ MR.o) HF (by exact aD (ab rfl) 28 _ rfl w.heap.size (HF.get 7 rfl) 28 _ _ _ (fun W hW=>hW) Tryz.underlying28 rfl (by kernel_rfl)) fun A β4 HF=>?_
   refine tqM 7 33 5 rfl (.inl rfl) rfl (by kernel_rfl) FINQ (KC.o _ MR.o) HF fun A β5 HF=>?_
   refine tqM 8 34 7 rfl (.inl rfl) rfl (by kernel_rfl) FINQ (KC.o _ MR.o) HF fun A β6 HF=>?_
   refine tqM 11 37 6 rfl (.inl rfl) rfl (by kernel_rfl) FINQ (KC.o _ MR.o) HF fun A β7 HF=>?_
   refine tqC 12 38 (.agg d.arr) (by kernel_rfl) FINQ (KC.o _ MR.o) HF (by exact aD (ab rfl) 28 _ rfl w.heap.size (HF.get 11 rfl) 28 _ _ _ (fun W hW=>hW) Tryz.underlying28 rfl (by kernel_rfl)) fun A β8 HF=>?_
   refine tqM 13 39 10 rfl (.inl rfl) rfl (by kernel_rfl) FINQ (KC.o _ MR.o) HF fun A β9 HF=>?_
   refine tqM 16 42 9 rfl (.inl rfl) rfl (by kernel_rfl) FINQ (KC.o _ MR.o) HF fun A β10 HF=>?_
   refine tqC 17 43 (.agg d.arr) (by kernel_rfl) FINQ (KC.o _ MR.o) HF (by exact aD (ab rfl) 28 _ rfl w.heap.size (HF.get 14 rfl) 28 _ _ _ (fun W hW=>hW) Tryz.underlying28 rfl (by kernel_rfl)) fun A β11 HF=>?_
   refine tqO 2 28 (by kernel_rfl) HF fun K hK=>?_
   refine nr (v0:=.agg d.arr) rfl (HF.get 9 rfl) (enters_of Tryz.func20 (by kernel_rfl) rfl) ?_
   refine(dw HR.o wq).mono ?_
   rintro e w7 ⟨rfl,h7⟩
   have N7:=hQQ h7
   have M7:=hQQ (MR.o.trans h7)
   clear h7
   refine hK _ _ (KC.o _ M7.o) fun A β12 HF=>?_
   clear hK K
   refine tqC 3 29 (.int .i64 d.ba) (by kernel_rfl) FINQ (KC.o _ M7.o) HF (by exact(Or.inl ⟨(ab rfl),fun W hW=>by have h5:=(HF.getD 0 rfl);have hf:=IQ d;go_simp⟩)) fun A β13 HF=>?_
   refine tqO 4 30 (by kernel_rfl) HF fun K hK=>?_
   refine dE (v0:=.pointer (some ⟨w.heap.size+1,0,none⟩)) (v1:=.int .i64 (j:Int)) (v2:=.int .i64 d.ba) rfl (HF.get 18 rfl) (HF.get 12 rfl) (HF.get 0 rfl) (enters_of Tryz.func48 (by kernel_rfl) rfl) ?_
   refine(DE (w.heap.size+1) j d.ba w7).mono ?_
   rintro e w8 ⟨rfl,rfl⟩
   obtain⟨w8,e8,b80,b81,b82,h8,s8⟩:=jD w7 (.cells #[.pointer (some ⟨w.heap.size+1,0,none⟩)] 102) (.cells #[.int .i64 (j:Int)] 3) (.cells #[.int .i64 d.ba] 3)
   rw[e8]
   have B80:=hQQ b80
   have B81:=hQQ b81
   have B82:=hQQ b82
   have N8:=hQQ h8
   have M8:=hQQ (M7.o.trans h8)
   clear h8 b80 b81 b82 e8 s8
   refine hK _ _ (KC.o _ M8.o) fun A β14 HF=>?_
   clear hK K
   refine tqO 9 35 (by kernel_rfl) HF fun K hK=>?_
   refine dE (v0:=.agg d.arr) (v1:=.int .i64 u) (v2:=.int .i64 (j:Int)) rfl (HF.get 10 rfl) (HF.get 9 rfl) (HF.get 8 rfl) (enters_of Tryz.func74 (by kernel_rfl) rfl) ?_
   refine(xF HR.o u j w8).mono ?_
   rintro e w9 ⟨rfl,h9⟩
   have N9:=hQQ h9
   have M9:=hQQ (M8.o.trans h9)
   clear h9
   refine hK _ _ (KC.o _ M9.o) fun A β15 HF=>?_
   clear hK K
   refine tqO 10 36 (by kernel_rfl) HF fun K hK=>?_
   refine bO (v0:=.pointer (some ⟨p,0,none⟩)) (v1:=.agg #[.int .i64 (caV d u j),.int .i64 d.ca]) rfl (HF.get 12 rfl) (HF.get 0 rfl) (enters_of Tryz.func73 (by kernel_rfl) rfl) ?_
   refine(zq0 p (caV d u j) (d.ca) w9).mono ?_
   rintro e w10 ⟨rfl,rfl⟩
   obtain⟨w10,e1,b0,b1,h1,s1⟩:=ij w9 (.cells #[.pointer (some ⟨p,0,none⟩)] 43) (.cells #[.int .i64 (caV d u j),.int .i64 (d.ca)] 96)
   rw[e1]
   have V10:=hQQ b0
   have S10:=hQQ b1
   have N10:=hQQ h1
   have M10:=hQQ (M9.o.trans h1)
   clear h1 b0 b1 e1 s1
   refine hK _ _ (KC.o _ M10.o) fun A β16 HF=>?_
   clear hK K
   refine tqO 14 40 (by kernel_rfl) HF fun K hK=>?_
   refine bO (v0:=.agg d.arr) (v1:=.int .i64 (j:Int)) rfl (HF.get 8 rfl) (HF.get 7 rfl) (enters_of Tryz.func75 (by kernel_rfl) rfl) ?_
   refine(IR HR.o j w10).mono ?_
   rintro e w11 ⟨rfl,h9⟩
   have N11:=hQQ h9
   have M11:=hQQ (M10.o.trans h9)
   clear h9
   refine hK _ _ (KC.o _ M11.o) fun A β17 HF=>?_
   clear hK K
   refine tqO 15 41 (by kernel_rfl) HF fun K hK=>?_
   refine bO (v0:=.pointer (some ⟨p,0,none⟩)) (v1:=.agg #[.int .i64 (biV d j),.int .i64 d.bi]) rfl (HF.get 10 rfl) (HF.get 0 rfl) (enters_of Tryz.func73 (by kernel_rfl) rfl) ?_
   refine(zq0 p (biV d j) (d.bi) w11).mono ?_
   rintro e w12 ⟨rfl,rfl⟩
   obtain⟨w12,e1,b0,b1,h1,s1⟩:=ij w11 (.cells #[.pointer (some ⟨p,0,none⟩)] 43) (.cells #[.int .i64 (biV d j),.int .i64 (d.bi)] 96)
   rw[e1]
   have V12:=hQQ b0
   have S12:=hQQ b1
   have N12:=hQQ h1
   have M12:=hQQ (M11.o.trans h1)
   clear h1 b0 b1 e1 s1
   refine hK _ _ (KC.o _ M12.o) fun A β18 HF=>?_
   clear hK K
   refine tqO 18 44 (by kernel_rfl) HF fun K hK=>?_
   refine bO (v0:=.pointer (some ⟨p,0,none⟩)) (v1:=.agg d.arr) rfl (HF.get 8 rfl) (HF.get 7 rfl) (enters_of Tryz.func49 (by kernel_rfl) rfl) ?_
   refine(Cb p d w12).mono ?_
   rintro e w13 ⟨rfl,rfl⟩
   obtain⟨w13,e1,b0,b1,h1,s1⟩:=ij w12 (.cells #[.pointer (some ⟨p,0,none⟩)] 43) (.cells d.arr 28)
   rw[e1]
   have V13:=hQQ b0
   have S13:=hQQ b1
   have N13:=hQQ h1
   have M13:=hQQ (M12.o.trans h1)
   clear h1 b0 b1 e1 s1
   refine hK _ _ (KC.o _ M13.o) fun A β19 HF=>?_
   clear hK K
   refine tqO 19 45 (by kernel_rfl) HF fun K hK=>?_
   refine Cq rfl (HF.get 3 rfl) (HF.get 1 rfl) (HF.get 0 rfl) ?_
   obtain⟨w14,e1,b14,h14,s14⟩:=bg w13 (.cells #[.func (.func 103) #[] #[.pointer (some ⟨w9.heap.size,0,none⟩),.pointer (some ⟨w9.heap.size+1,0,none⟩)],.func (.func 103) #[] #[.pointer (some ⟨w11.heap.size,0,none⟩),.pointer (some ⟨w11.heap.size+1,0,none⟩)],.func (.func 86) #[] #[.pointer (some ⟨w12.heap.size,0,none⟩),.pointer (some ⟨w12.heap.size+1,0,none⟩)]] 103)
   rw[e1]
   have B14:=hQQ b14
   have N14:=hQQ h14
   have M14:=hQQ (M13.o.trans h14)
   clear h14 b14 e1 s14
   refine hK _ _ (KC.o _ M14.o) fun A β20 HF=>?_
   clear hK K
   refine tqO 20 46 (by kernel_rfl) HF fun K hK=>?_
   refine bO (v0:=.func (.func 85) #[] #[.pointer (some ⟨w7.heap.size+2,0,none⟩),.pointer (some ⟨w7.heap.size,0,none⟩),.pointer (some ⟨w7.heap.size+1,0,none⟩)]) (v1:=.slice (some ⟨w13.heap.size,0,none⟩) 3 3) rfl (HF.get 6 rfl) (HF.get 0 rfl) (enters_of Tryz.func47 (by kernel_rfl) rfl) ?_
   have Fq9:∀q,F q→q<w.heap.size:=hv.lt
   have S13:=S13
   have M0:ae w w14:=HM.o.trans M14.o
   have z7:w.heap.size+3≤w7.heap.size:=by have:=M7.o.size;have:=ac BZ.o;omega
   have z9:w7.heap.size+3≤w9.heap.size:=by have:=N9.o.size;have:=ac B82.o;omega
   have z11:w9.heap.size+2≤w11.heap.size:=by have:=N11.o.size;have:=ac S10.o;omega
   have z12:w11.heap.size+2≤w12.heap.size:=by have:=ac S12.o;omega
   have z13:w12.heap.size+2≤w13.heap.size:=by have:=ac S13.o;omega
   have n12:ae w12 w14:=N13.o.trans N14.o
   have n10:ae w10 w14:=(N11.o.trans N12.o).trans n12
   have n8:ae w8 w14:=(N9.o.trans N10.o).trans n10
   have HN14:∀k,N k→k<w14.heap.size:=fun k q=>Nat.lt_of_lt_of_le (hN k q) M0.size
   have LV:=rF HR.o HH.o hn F N HN14 p kn D HK.o (wy:=wy3 d u j) (xM HR.o HH.o hw hn HQ.o) (by simp[wy3]) (w7.heap.size+2) w7.heap.size (w7.heap.size+1) (w.heap.size+1) d.ba.toNat (by have:=HR.o.ba2;omega) j f P (hv.more M0) hD (hs.more M0) nF0 nFb (by have:=hs.lt0;omega) (by have:=hs.lt;omega)
    (by have:=HR.o.ba1;have e:((d.ba.toNat:Nat):Int)=d.ba:=by omega
        unfold eF;rw[e];exact n8.block B82.o) (n8.block B80.o) (n8.block B81.o) (M14.o.block BP.o) (PU.o.more M14.o)
    ⟨fun q=>by have:=Fq9 _ q;omega,fun q=>by have:=Fq9 _ q;omega,fun q=>by have:=Fq9 _ q;omega,fun q=>by have:=Fq9 _ q;omega⟩ ⟨by omega,by omega,by omega⟩ hP.w HLN.o w13.heap.size 3 ⟨ac B14.o,fun q=>by have:=Fq9 _ q;omega,by omega⟩
    (by
     have nn:∀x,w.heap.size+2≤x→¬(F x∨x=w.heap.size+1):=fun x hx q=>by
      rcases q with q|q
      ·have:=Fq9 _ q;omega
      ·omega
     intro i hi
     have hi3:i<3:=hi
     rcases (show i=0∨i=1∨i=2 by omega) with rfl|rfl|rfl
     ·exact⟨_,by simp[World.cell?,B14.o],_,_,rfl,n10.block V10.o,n10.block S10.o,nn _ (by omega),nn _ (by omega)⟩
     ·exact⟨_,by simp[World.cell?,B14.o],_,_,rfl,n12.block V12.o,n12.block S12.o,nn _ (by omega),nn _ (by omega)⟩
     ·exact⟨_,by simp[World.cell?,B14.o],_,_,rfl,N14.o.block V13.o,N14.o.block S13.o,nn _ (by omega),nn _ (by omega)⟩)
   refine LV.mono ?_
   intro e w15 he
   rcases hE:dF d.us d.pg d.st (wy3 d u j) j d.ba.toNat P kn D with a'|⟨P15,D15⟩
   ·rw[hE] at he
    obtain⟨rfl,hd,ht⟩:=he
    exact FIND _ _ HF.1.2 (NEED.o a' w15 hE hd (ak (Turned.mono M0 (fun _ _ q=>q.elim)) ht (fun b q=>q.imp id (fun r=>by omega))))
   rw[hE] at he
   obtain⟨rfl,f15,F15,hv15,ht15,hf15,hi15,hb15,hp15⟩:=he
   have HE:=hQQ hE
   have nF15:∀b,b<w14.heap.size→¬F b→¬F15 b:=fun b hb nb q=>by rcases hf15 b q with r|r;exact nb r;omega
   have GV15:Hq (GvS w F N p kn n D15 F15 f15 P15 w15):=hQQ ⟨hv15,fun b q=>(hf15 b q).imp id (fun r=>by have:=M0.size;omega),ak (Turned.mono M0 (fun _ _ q=>q.elim)) ht15 (fun b q=>q.imp id (fun r=>by omega)),hi15,hb15,hp15,(ht15.block (w.heap.size+2) (by have:=M14.o.size;have:=ac BZ.o;omega) (by rintro(q|q);have:=Fq9 _ q;omega;omega)).trans (M14.o.block BZ.o),nF15 _ (by have:=M14.o.size;have:=ac BZ.o;omega) (fun q=>by have:=Fq9 _ q;omega),nF15 _ (by have:=M14.o.size;have:=ac BZ.o;omega) (fun q=>by have:=Fq9 _ q;omega)⟩
   have EQ15:=hQQ hE
   have L15:Hq (w15.heap[w.heap.size]?=some (.cells d.arr 28 (0,0))):=hQQ ((ht15.block w.heap.size (by have:=M14.o.size;have:=ac BZ.o;omega) (by rintro(q|q);have:=Fq9 _ q;omega;omega)).trans (KC.o _ M14.o))
   clear LV hE hv15 ht15 hf15 hi15 hb15 hp15 nF15 Fq9 M0 z7 z9 z11 z12 z13 n12 n10 n8
   refine hK _ _ L15.o fun A β21 HF=>?_
   clear hK K
   exact bU (by kernel_rfl) (FINE _ _ ⟨(.int .i64 (j:Int)),(.agg d.arr),(.pointer (some ⟨p,0,none⟩)),(.agg d.arr),(.int .i64 u),(.int .i64 (j:Int)),(.pointer (some ⟨p,0,none⟩)),(.agg d.arr),(.int .i64 (j:Int)),(.pointer (some ⟨p,0,none⟩)),(.agg d.arr),(.agg #[.int .i64 d.wk,.int .i64 d.cp,.int .i64 d.pg,.int .i64 d.st,.int .i64 d.tr,.int .i64 d.wt,.int .i64 d.ck,.int .i64 d.pr,.int .i64 d.ca,.int .i64 d.bi,.int .i64 d.ba]),(.int .i64 d.ba),(.func (.func 85) #[] #[.pointer (some ⟨w7.heap.size+2,0,none⟩),.pointer (some ⟨w7.heap.size,0,none⟩),.pointer (some ⟨w7.heap.size+1,0,none⟩)]),(.agg #[.int .i64 (caV d u j),.int .i64 d.ca]),(.func (.func 103) #[] #[.pointer (some ⟨w9.heap.size,0,none⟩),.pointer (some ⟨w9.heap.size+1,0,none⟩)]),(.agg #[.int .i64 (biV d j),.int .i64 d.bi]),(.func (.func 103) #[] #[.pointer (some ⟨w11.heap.size,0,none⟩),.pointer (some ⟨w11.heap.size+1,0,none⟩)]),(.func (.func 86) #[] #[.pointer (some ⟨w12.heap.size,0,none⟩),.pointer (some ⟨w12.heap.size+1,0,none⟩)]),(.slice (some ⟨w13.heap.size,0,none⟩) 3 3),(.tuple #[]),by rw[← β21,← β20,← β19,← β18,← β17,← β16,← β15,← β14,← β13,← β12,← β11,← β10,← β9,← β8,← β7,← β6,← β5,← β4,← β3,← β2,← β1]<;>rfl,f15,P15,D15,F15,GV15.o,EQ15.o⟩)
  ·have d1:decide (d.pr≤cP P j)=false:=by simp[hful]
   rw[if_neg hful] at hRr
   have RR:=hQQ (show Rr=.ok ((),ed P j a (cP P j+1)) D from hRr.symm)
   clear hful hRr
   refine bQ (by kernel_rfl) (by kernel_rfl) ?_
   refine aP rfl 32 _ rfl _ rfl 32 _ _ _ (fun W hW=>hW.block B4.o) Tryz.underlying32 rfl (by kernel_rfl) ?_
   iterate 1
    with_reducible refine wpQuiet_step (fun K hK=>?_)
    go_simp
    first
    |(refine hK _ ?_;clear hK K)
    |(apply Exists.intro
      refine⟨fun W hW=>?_,hK _ ?_⟩
      first
      |(go_simp;try rfl)
      clear hK K)
   iterate 1
    with_reducible refine wpQuiet_step (fun K hK=>?_)
    go_simp
    first
    |(refine hK _ ?_;clear hK K)
    |(apply Exists.intro
      refine⟨fun W hW=>?_,hK _ ?_⟩
      first
      |(have hl:=om f P j W (PU4.o.more hW).1;go_at_call 21;exact Calls.more hW hl)
      clear hK K)
   refine aP rfl 28 _ rfl _ rfl 28 _ _ _ (fun W hW=>hW.block L4.o) Tryz.underlying28 rfl (by kernel_rfl) ?_
   iterate 1
    with_reducible refine wpQuiet_step (fun K hK=>?_)
    go_simp
    first
    |(refine hK _ ?_;clear hK K)
    |(apply Exists.intro
      refine⟨fun W hW=>?_,hK _ ?_⟩
      first
      |(go_at_call 20;exact Calls.more hW (dw HR.o W))
      clear hK K)
   iterate 2
    with_reducible refine wpQuiet_step (fun K hK=>?_)
    go_simp
    first
    |(refine hK _ ?_;clear hK K)
    |(apply Exists.intro
      refine⟨fun W hW=>?_,hK _ ?_⟩
      first
      |(go_simp;try rfl)
      clear hK K)
   refine wpQuiet_nil ?_
   intro wr mr
   clear hf
   have MW:=hQQ mr
   have KC:Hq (∀W,ae wr W→W.heap[w.heap.size]?=some (.cells d.arr 28 (0,0))):=hQQ fun W hW=>hW.block (mr.block L4.o)
   have BP:=hQQ (mr.block B4.o)
   have BZ:=hQQ (mr.block (M4.o.block BZ.o))
   have PU:=hQQ (PU4.o.more mr)
   have HM:=hQQ (HM.o.trans (M4.o.trans mr))
   clear mr PU4 L4 B4
   have G9:Hq (GvS w F N p kn n D F f P wr):=hQQ ⟨hv.more HM.o,fun k q=> .inl q,Turned.mono HM.o (fun _ _ q=>q.elim),hD,BP.o,PU.o,BZ.o,fun q=>by have:=hv.lt _ q;omega,fun q=>by have:=hv.lt _ q;omega⟩
   have FL:Hq (∀q,N q∨F q→q<wr.heap.size):=hQQ fun q z=>z.elim (fun y=>Nat.lt_of_lt_of_le (hN q y) G9.o.turn.size) (G9.o.view.lt q)
   have WR:Hq (IntKind.i64.wrap (cP P j+1)=cP P j+1):=hQQ (by rw[dR P hj];have:=HLN.o j hj;exact aB (by omega) (by omega))
   have RQ:=RR
   clear d1 KC
   go_wp2_with fail
   refine jS (ae wr) 11 (by kernel_rfl) ?_
   change lR _ _ _ _ _ _ _ _ _ (wr.drewN 1)
   have MR:Hq (ae wr (wr.drewN 1)):=hQQ ((ae.refl wr).drewN 1)
   generalize wr.drewN 1=wq at MR⊢
   generalize hA:Act.mk _ _=A
   have HF:AG 59 A [(4,.int .i64 (j:Int)),(5,.int .i64 a),(9,.pointer (some ⟨w.heap.size+1,0,none⟩)),(12,.pointer (some ⟨w.heap.size+2,0,none⟩))]:=by
    rw[←hA];try simp only[pts,List.foldl]
    refine⟨⟨Nat.le_of_ble_eq_true rfl,rfl⟩,?_⟩
    intro z hz;simp only[List.mem_cons,List.not_mem_nil,or_false] at hz;rcases hz with rfl|rfl|rfl|rfl<;>rfl
   refine pd (fun aa W=>∃(u48 u49 u50 u51 u52 u53 u54 u55 u47 u56 u57:Value),aa=(Act.put (pts A [(48,u48),(49,u49),(50,u50),(51,u51),(52,u52),(53,u53),(54,u54),(55,u55),(47,u47),(56,u56),(57,u57)]) none undef)∧∃wx f9,ae wr wx∧cS (fun q=>N q∨F q) wx f9 (ed P j a (cP P j+1))∧W=wx.setRow (w.heap.size+1) (puA f9)) (fun _=>False) [] (fun a W hd h=>h.elim) (fun _ _ _ _ _ h=>h) ?_ ?_
   ·skip
    rintro a9 wb ⟨u48,u49,u50,u51,u52,u53,u54,u55,u47,u56,u57,rfl,wx,fz,mx,px,rfl⟩
    rw[←hA];try simp only[pts,List.foldl]
    obtain⟨e1,e2,e3⟩:=GvS.fin G9.o mx px
    have X1:=hQQ e1
    have X2:=hQQ e2
    have FIN:=hQQ (e3 Rr RQ.o)
    have AL:=hQQ (Pu.all1 px.1)
    clear HF hA MR e1 e2 e3 mx px
    go_simp
    go_wp2_with (first
     |(refine kY rfl rfl rfl X1.o (by kernel_rfl) ?_)
     |(refine wpList_store_row rfl 32 _ _ rfl _ (puA fz) rfl rfl 32 _ X2.o (by kernel_rfl) rfl AL.o ?_))
    refine bodyPost_ret (v:=.agg (puA fz)) (results_cell_row Tryz.results40 _ _ _ 32 _ (0,0) _ rfl (setRow_heap _ _ _ _ _ _ X2.o) Tryz.underlying32 rfl (by kernel_rfl)) rfl FIN.o
   intro QQ FINE FIND FINQ
   clear hA
   refine ce (i:=0) (v:=.agg (puA f)) (by kernel_rfl) (by kernel_rfl) (by kernel_rfl) (some 48) rfl rfl (by kernel_rfl) (by kernel_rfl) (by kernel_rfl) (fun c a w=>FINQ c a _ _ w) MR.o (by exact aD (C:=(ae wr)) (ab rfl) 32 _ rfl (w.heap.size+1) (HF.get 2 rfl) 32 _ _ _ (fun W hW=>hW.block BP.o) Tryz.underlying32 rfl (by kernel_rfl)) ?_
   replace HF:=HF.put 48 (.agg (puA f)) (by decide) rfl
   generalize β1:Act.put _ _ _=A at HF⊢
   refine ce (i:=1) (v:=.int .i64 (j:Int)) (by kernel_rfl) (by kernel_rfl) (by kernel_rfl) (some 49) rfl rfl (by kernel_rfl) (by kernel_rfl) (by kernel_rfl) (fun c a w=>FINQ c a _ _ w) MR.o (by exact bT (ab rfl) _ rfl (HF.get 1 rfl)) ?_
   replace HF:=HF.put 49 (.int .i64 (j:Int)) (by decide) rfl
   generalize β2:Act.put _ _ _=A at HF⊢
   refine ce (i:=2) (v:=.int .i64 a) (by kernel_rfl) (by kernel_rfl) (by kernel_rfl) (some 50) rfl rfl (by kernel_rfl) (by kernel_rfl) (by kernel_rfl) (fun c a w=>FINQ c a _ _ w) MR.o (by exact bT (ab rfl) _ rfl (HF.get 3 rfl)) ?_
   replace HF:=HF.put 50 (.int .i64 a) (by decide) rfl
   generalize β3:Act.put _ _ _=A at HF⊢
   refine ce (i:=3) (v:=.agg (puA f)) (by kernel_rfl) (by kernel_rfl) (by kernel_rfl) (some 51) rfl rfl (by kernel_rfl) (by kernel_rfl) (by kernel_rfl) (fun c a w=>FINQ c a _ _ w) MR.o (by exact aD (C:=(ae wr)) (ab rfl) 32 _ rfl (w.heap.size+1) (HF.get 5 rfl) 32 _ _ _ (fun W hW=>hW.block BP.o) Tryz.underlying32 rfl (by kernel_rfl)) ?_
   replace HF:=HF.put 51 (.agg (puA f)) (by decide) rfl
   generalize β4:Act.put _ _ _=A at HF⊢
   refine ce (i:=4) (v:=.int .i64 (j:Int)) (by kernel_rfl) (by kernel_rfl) (by kernel_rfl) (some 52) rfl rfl (by kernel_rfl) (by kernel_rfl) (by kernel_rfl) (fun c a w=>FINQ c a _ _ w) MR.o (by exact bT (ab rfl) _ rfl (HF.get 4 rfl)) ?_
   replace HF:=HF.put 52 (.int .i64 (j:Int)) (by decide) rfl
   generalize β5:Act.put _ _ _=A at HF⊢
   refine fW (i:=5) (some 53) (by kernel_rfl) rfl (ab rfl) rfl (fun K hK=>?_)
   refine bO (v0:=.agg (puA f)) (v1:=.int .i64 (j:Int)) rfl (HF.get 1 rfl) (HF.get 0 rfl) (enters_of Tryz.func21 (by kernel_rfl) rfl) ?_
   refine(om f P j wq (PU.o.more MR.o).1).mono ?_
   rintro e w7 ⟨rfl,h7⟩
   have M7:=hQQ (MR.o.trans h7)
   clear h7
   refine hK _ _ (.inr M7.o) ?_
   clear hK K
   replace HF:=HF.put 53 (.int .i64 (cP P j)) (by decide) rfl
   generalize β6:Act.put _ _ _=A at HF⊢
   refine ce (i:=6) (v:=.int .i64 (cP P j+1)) (by kernel_rfl) (by kernel_rfl) (by kernel_rfl) (some 54) rfl rfl (by kernel_rfl) (by kernel_rfl) (by kernel_rfl) (fun c a w=>FINQ c a _ _ w) M7.o (by exact gR (ab rfl) rfl (HF.get 0 rfl) rfl _ WR.o) ?_
   replace HF:=HF.put 54 (.int .i64 (cP P j+1)) (by decide) rfl
   generalize β7:Act.put _ _ _=A at HF⊢
   refine fW (i:=7) (some 55) (by kernel_rfl) rfl (ab rfl) rfl (fun K hK=>?_)
   refine py (v0:=.agg (puA f)) (v1:=.int .i64 (j:Int)) (v2:=.int .i64 a) (v3:=.int .i64 (cP P j+1)) rfl (HF.get 6 rfl) (HF.get 5 rfl) (HF.get 4 rfl) (HF.get 0 rfl) (enters_of Tryz.func67 (by kernel_rfl) rfl) ?_
   refine(xE (fun q=>¬(fun q=>N q∨F q) q) f P j a (cP P j+1) w7 (PU.o.more M7.o).1 PU.o.2 HLN.o).mono ?_
   intro e w8 he
   obtain⟨f8,rfl,h8,m8⟩:=eJ.at he (fun q z=>Nat.lt_of_lt_of_le (FL.o q z) M7.o.size)
   have P8:=hQQ h8
   have M8:=hQQ (M7.o.trans m8)
   clear he h8 m8
   refine hK _ _ (.inr M8.o) ?_
   clear hK K
   replace HF:=HF.put 55 (.tuple #[.agg (puA f8),.bool (dX P j (cP P j+1))]) (by decide) rfl
   generalize β8:Act.put _ _ _=A at HF⊢
   refine ce (i:=8) (v:=.tuple #[.agg (puA f8),.bool (dX P j (cP P j+1))]) (by kernel_rfl) (by kernel_rfl) (by kernel_rfl) (some 47) rfl rfl (by kernel_rfl) (by kernel_rfl) (by kernel_rfl) (fun c a w=>FINQ c a _ _ w) M8.o (by exact bT (ab rfl) _ rfl (HF.get 0 rfl)) ?_
   replace HF:=HF.put 47 (.tuple #[.agg (puA f8),.bool (dX P j (cP P j+1))]) (by decide) rfl
   generalize β9:Act.put _ _ _=A at HF⊢
   refine ce (i:=9) (v:=.agg (puA f8)) (by kernel_rfl) (by kernel_rfl) (by kernel_rfl) (some 56) rfl rfl (by kernel_rfl) (by kernel_rfl) (by kernel_rfl) (fun c a w=>FINQ c a _ _ w) M8.o (by exact(Or.inl ⟨(ab rfl),fun W hW=>by have h5:=(HF.getD 0 rfl);go_simp⟩)) ?_
   replace HF:=HF.put 56 (.agg (puA f8)) (by decide) rfl
   generalize β10:Act.put _ _ _=A at HF⊢
   refine pc (i:=10) (v:=.bool (dX P j (cP P j+1))) (by kernel_rfl) (some 57) rfl rfl (by kernel_rfl) (by kernel_rfl) (by kernel_rfl) (fun c a w=>FINQ c a _ _ w) M8.o (by exact(Or.inl ⟨(ab rfl),fun W hW=>by have h5:=(HF.getD 1 rfl);go_simp⟩)) ?_
   replace HF:=HF.put 57 (.bool (dX P j (cP P j+1))) (by decide) rfl
   generalize β11:Act.put _ _ _=A at HF⊢
   refine fW (i:=11) none (by kernel_rfl) rfl (ab rfl) rfl (fun K hK=>?_)
   refine wp_store_row 32 _ _ rfl (w.heap.size+1) _ (HF.get 13 rfl) (HF.get 1 rfl) 32 _ (M8.o.block BP.o) (by kernel_rfl) rfl (Pu.all1 P8.o.1) ?_
   refine hK _ _ (.inl (by kernel_rfl)) ?_
   exact qY (by kernel_rfl) (FINE _ _ ⟨(.agg (puA f)),(.int .i64 (j:Int)),(.int .i64 a),(.agg (puA f)),(.int .i64 (j:Int)),(.int .i64 (cP P j)),(.int .i64 (cP P j+1)),(.tuple #[.agg (puA f8),.bool (dX P j (cP P j+1))]),(.tuple #[.agg (puA f8),.bool (dX P j (cP P j+1))]),(.agg (puA f8)),(.bool (dX P j (cP P j+1))),by rw[← β11,← β10,← β9,← β8,← β7,← β6,← β5,← β4,← β3,← β2,← β1]<;>rfl,w8,f8,M8.o,P8.o,rfl⟩)
end Go.Proofs.YtddmeghbmdfgeaaGreatDoor
