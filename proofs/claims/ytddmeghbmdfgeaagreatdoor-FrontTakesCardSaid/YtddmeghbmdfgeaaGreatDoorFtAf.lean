/-
  A view within a range over a function: what is said of it between two rounds, and where a round has ended the run.
-/
import Derived.Test.YtddmeghbmdfgeaaGreatDoorFtAe
import Derived.Test.YtddmeghbmdfgeaaGreatDoorFtAa
import Derived.Deep.RegionHeld3
import Derived.OwnWalk
set_option maxRecDepth 100000
set_option maxHeartbeats 8000000
set_option linter.all false
namespace Go.Proofs.YtddmeghbmdfgeaaGreatDoor
open Go.RowKit Go.Sort Go.Maps Go.Shelf
theorem fL {S:Nat→Prop}{w w':World}(h:Turned S w w')(l:Nat)(o:Obj)(hl:l<w.heap.size→S l):Turned S w (w'.putObj l o):=
 ⟨h.os,h.tape,h.output,by simpa using h.size,fun k hk hs=>by
  rw[World.putObj_heap_other (by rintro rfl;exact hs (hl hk))];exact Turned.block h k hk hs⟩
structure OnV (w6 W:World)(F T:Nat→Prop)(p:Nat)(kn:Int→Option Int)(n:Nat)(D:List KV)(F':Nat→Prop):Prop where
 view:aF W F' p kn D
 from':∀k,F' k→F k∨w6.heap.size+2≤k
 turn:Turned (fun k=>F k∨T k) w6 W
 inv:cI n D
namespace OnV
variable {w6 W W':World}{F T F':Nat→Prop}{p n:Nat}{kn:Int→Option Int}{D:List KV}
theorem begin (hv:aF w6 F p kn D)(hD:cI n D):OnV w6 w6 F T p kn n D F:=⟨hv,fun k q=> .inl q,Turned.refl _ _,hD⟩
theorem more (h:OnV w6 W F T p kn n D F')(m:ae W W'):OnV w6 W' F T p kn n D F' :=
 ⟨h.view.more m,h.from',ak (F':=fun _=>False) h.turn m (fun _ q=>q.elim),h.inv⟩
theorem put (h:OnV w6 W F T p kn n D F')(hF:∀k,F k→k<w6.heap.size){r:Loop}(r':Loop)(hl:W.heap[w6.heap.size+1]?=some (.loop r)):OnV w6 (W.putObj (w6.heap.size+1) (.loop r')) F T p kn n D F' :=
 ⟨h.view.keepS (S:=fun k=>k=w6.heap.size+1) (fL (Turned.refl _ W) _ _ (fun _=>rfl))
  (fun k q e=>by subst e;rcases h.from' _ q with r|r;have:=hF _ r;omega;omega)
  (fun k es cl e q=>by subst e;rw[hl] at q;cases q),
  h.from',fL h.turn _ _ (fun q=>by omega),h.inv⟩
theorem box (h:OnV w6 W F T p kn n D F'){b:Nat}(hT:T b)(hF:∀k,F k→k<b)(hb:b<w6.heap.size)(v:Value){o:Obj}(ho:W.heap[b]?=some o)(hm:∀es cl,o≠ .map es cl):OnV w6 (W.setCell ⟨b,0,none⟩ v) F T p kn n D F' :=
 ⟨h.view.keepS (S:=fun k=>k=b) (Turned.setCell (S:=fun k=>k=b) (Turned.refl _ W) ⟨b,0,none⟩ v (fun _=>rfl))
  (fun k q e=>by subst e;rcases h.from' _ q with r|r;have:=hF _ r;omega;omega)
  (fun k es cl e q=>by subst e;rw[ho] at q;cases q;exact hm _ _ rfl),
  h.from',h.turn.setCell ⟨b,0,none⟩ v (fun _=> .inr hT),h.inv⟩
theorem step (h:OnV w6 W F T p kn n D F')(hs:w6.heap.size+2≤W.heap.size){D1:List KV}{v:Value}{e:Ending}(m:ae W W'){W2:World}(hd:gN W' F' p kn D1 v e W2)(hI:cI n D1):
 e=.returned v∧∃F1,OnV w6 W2 F T p kn n D1 F1∧Turned F' W W2:=by
 obtain⟨he,F1,hv,ht,hn⟩:=hd
 refine⟨he,F1,⟨hv,fun k q=>?_,ak (ak (F':=fun _=>False) h.turn m (fun _ q=>q.elim)) ht (fun k q=>(h.from' k q).imp .inl (fun r=>by omega)),hI⟩,ak (Turned.mono m (fun _ _ q=>q.elim)) ht (fun k q=> .inl q)⟩
 rcases hn k q with r|r
 ·exact h.from' k r
 ·have:=m.size;exact .inr (by omega)
theorem same (h:OnV w6 W F T p kn n D F')(hF:∀k,F k→k<w6.heap.size)(hs:w6.heap.size+2≤W.heap.size){W2:World}(t:Turned F' W W2):bR (dK w6.heap.size) W W2 :=
 bR.turned t (fun k q=>by rcases q with q|q<;>omega) (fun k q r=>by
  rcases h.from' k r with s|s
  ·have:=hF k s;rcases q with q|q<;>omega
  ·rcases q with q|q<;>omega)
theorem sameS (h:OnV w6 W F T p kn n D F'){S:Nat→Prop}(hS:∀k,S k→k<w6.heap.size∧¬F k){W2:World}(t:Turned F' W W2):bR S W W2 :=
 bR.turned t (fun k q=>Nat.lt_of_lt_of_le (hS k q).1 h.turn.size) (fun k q r=>by
  rcases h.from' k r with s|s
  ·exact(hS k q).2 s
  ·have:=(hS k q).1;omega)
end OnV
def oF (w6 W:World)(F T:Nat→Prop)(p:Nat)(a:Int):Prop:=bJ W p a∧Turned (fun k=>F k∨T k) w6 W
theorem oF.of {w6 W W' W2:World}{F T F':Nat→Prop}{p n:Nat}{kn:Int→Option Int}{D:List KV}(h:OnV w6 W F T p kn n D F')(hs:w6.heap.size≤W.heap.size)(m:ae W W'){a:Int}{e:Ending}(he:vq W' F' p a e W2):e=.panicked (bB p)∧oF w6 W2 F T p a∧Turned F' W W2 :=
 ⟨he.1,⟨he.2.1,ak (ak (F':=fun _=>False) h.turn m (fun _ q=>q.elim)) he.2.2 (fun k q=>(h.from' k q).imp .inl (fun r=>by omega))⟩,ak (Turned.mono m (fun _ _ q=>q.elim)) he.2.2 (fun k q=> .inl q)⟩
theorem oF.more {w6 W W':World}{F T:Nat→Prop}{p:Nat}{a:Int}(h:oF w6 W F T p a)(m:ae W W'):oF w6 W' F T p a :=
 ⟨h.1.keep m (fun q=>q),ak (F':=fun _=>False) h.2 m (fun _ q=>q.elim)⟩
theorem oF.put {w6 W:World}{F T:Nat→Prop}{p:Nat}{a:Int}(h:oF w6 W F T p a){l:Nat}{o:Obj}(hl:W.heap[l]?=some o)(ho:o.isCells=false)(hb:w6.heap.size≤l)(o':Obj):oF w6 (W.putObj l o') F T p a:=by
 refine⟨?_,fL h.2 _ _ (fun q=>by omega)⟩
 obtain⟨M,q,hp⟩:=h.1
 exact⟨M,q,(World.putObj_heap_other (by rintro rfl;rw[hl] at hp;cases hp;cases ho)).trans hp⟩
theorem GN {α:Type}{w w6 W:World}{F T:Nat→Prop}{p:Nat}{kn:Int→Option Int}{a:Int}{val:α→Value}{R:Res α}(m:ae w w6)(hT:∀k,T k→w.heap.size≤k)(h:oF w6 W F T p a)(hR:R=.need a):aI w F p kn val R (.panicked (bB p)) W :=
 aI.need hR ⟨rfl,h.1,ak (Turned.mono m (fun _ _ q=>q.elim)) h.2 (fun k q=>q.imp id (hT k))⟩
theorem JU {α:Type}{w w6 W W2:World}{F T F' S:Nat→Prop}{p n:Nat}{kn:Int→Option Int}{D:List KV}{val:α→Value}{R:Res α}{x:α}(m:ae w w6)(hT:∀k,T k→w.heap.size≤k)(h:OnV w6 W F T p kn n D F')(hR:R=.ok x D)
 (t:Turned S W W2) (hS:∀k,S k→w.heap.size≤k∧¬F' k) (hM:∀k es cl,S k→W.heap[k]? ≠some (.map es cl)):aI w F p kn val R (.returned (val x)) W2:=by
 refine aI.did hR ⟨rfl,F',h.view.keepS t (fun k q r=>(hS k r).2 q) hM,?_,fun k q=>(h.from' k q).imp id (fun r=>by have:=m.size;omega)⟩
 exact ak (ak (Turned.mono m (fun _ _ q=>q.elim)) h.turn (fun k q=>q.imp id (hT k))) t (fun k q=> .inr (hS k q).1)
section
variable (w6:World)(F:Nat→Prop)(b p:Nat)(tb:TypeId)(kn:Int→Option Int)(n:Nat)
def C5 (Sem:List KV→Value→Prop)(W:World):Prop:=∃F' D' v,OnV w6 W F (fun k=>k=b) p kn n D' F'∧W.heap[b]?=some (.cells #[v] tb (0,0))∧Sem D' v
def GP (NeedR:Int→Prop)(Ret:List KV→Value→Prop):Exit→World→Prop
 | .panic ch,W=>ch=bB p∧∃a,NeedR a∧oF w6 W F (fun k=>k=b) p a
 | .ret,W=>C5 w6 F b p tb kn n Ret W
 | _,_=>False
def Lr (Sem:List KV→Value→Prop)(tc:TypeId)(cs:Array Value)(acts:Nat→Act)(a':Act)(W:World):Prop :=
 ∃Bx F' D' v,w6.heap.size+2≤Bx∧¬F' Bx∧W.heap[Bx]?=some (.cells cs tc (0,0))∧OnV w6 W F (fun k=>k=b) p kn n D' F'∧W.heap[b]?=some (.cells #[v] tb (0,0))∧Sem D' v∧a'=acts Bx
end
section
variable {w6:World}{F:Nat→Prop}{b p:Nat}{tb:TypeId}{kn:Int→Option Int}{n:Nat}
theorem rg (hF:∀k,F k→k<w6.heap.size)(hb:b<w6.heap.size)(Sem:List KV→Value→Prop):jt w6.heap.size (C5 w6 F b p tb kn n Sem):=
 ⟨fun {A A'} h m=>by obtain⟨F',D',v,h1,h2,h3⟩:=h;exact⟨F',D',v,h1.more m,m.block h2,h3⟩,
  fun {A r} r' h hl=>by obtain⟨F',D',v,h1,h2,h3⟩:=h;exact⟨F',D',v,h1.put hF r' hl,(World.putObj_heap_other (by omega)).trans h2,h3⟩⟩
theorem yF (hF:∀k,F k→k<w6.heap.size)(hb:b<w6.heap.size)(NeedR:Int→Prop)(Ret:List KV→Value→Prop)(e:Exit):jt w6.heap.size (GP w6 F b p tb kn n NeedR Ret e):=by
 cases e with
 |panic ch =>
  exact⟨fun {A A'} h m=>by obtain⟨h1,a,h2,h3⟩:=h;exact⟨h1,a,h2,h3.more m⟩,
   fun {A r} r' h hl=>by obtain⟨h1,a,h2,h3⟩:=h;exact⟨h1,a,h2,h3.put hl rfl (by omega) _⟩⟩
 |ret=>exact rg hF hb Ret
 |normal=>exact⟨fun {A A'} h m=>h,fun {A r} r' h hl=>h⟩
 |exit _=>exact⟨fun {A A'} h m=>h,fun {A r} r' h hl=>h⟩
 |goto _=>exact⟨fun {A A'} h m=>h,fun {A r} r' h hl=>h⟩
 |outgrown=>exact⟨fun {A A'} h m=>h,fun {A r} r' h hl=>h⟩
theorem yG (hF:∀k,F k→k<w6.heap.size)(hb:b<w6.heap.size)(Sem:List KV→Value→Prop)(tc:TypeId)(cs:Array Value)(acts:Nat→Act)(a':Act):jt w6.heap.size (Lr w6 F b p tb kn n Sem tc cs acts a'):=
 ⟨fun {A A'} h m=>by obtain⟨Bx,F',D',v,h0,h1,h2,h3,h4,h5⟩:=h;exact⟨Bx,F',D',v,h0,h1,m.block h2,h3.more m,m.block h4,h5⟩,
  fun {A r} r' h hl=>by
   obtain⟨Bx,F',D',v,h0,h1,h2,h3,h4,h5⟩:=h
   exact⟨Bx,F',D',v,h0,h1,(World.putObj_heap_other (by omega)).trans h2,h3.put hF r' hl,(World.putObj_heap_other (by omega)).trans h4,h5⟩⟩
end
attribute [local go_sem] Oper.semAt_some
def xb:Array Value:= #[.int .i64 0,.int .i64 0,.int .i64 0,.int .i64 0,.int .i64 0,.int .i64 0,.int .i64 0,.int .i64 0,.int .i64 0,.int .i64 0,.int .i64 0,.int .i64 0,.int .i64 0,.int .i64 0,.int .i64 0,.int .i64 0,.int .i64 0,.int .i64 0,.int .i64 0,.int .i64 0,.int .i64 0,.int .i64 0,.int .i64 0,.int .i64 0,.int .i64 0]
theorem JV (c:Cfg)(k:Int):(ct c k).all (·.oneCell')=true:=by
 unfold ct
 rw[Array.all_push]
 have:c.arr.all (·.oneCell')=true:=k6 ..
 rw[this];rfl
theorem Ei (W:World)(c:Cfg)(k:Int):((W.alloc (.cells xb 139)).setRow W.heap.size (ct c k)).heap[W.heap.size]?=some (.cells (ct c k) 139 (0,0))∧ae W ((W.alloc (.cells xb 139)).setRow W.heap.size (ct c k)):=
 ⟨setRow_heap _ _ _ _ _ _ (bz W _),((ae.refl W).alloc _).setRow _ _ (Nat.le_refl _)⟩
theorem nq {S:Nat→Prop}{W W':World}(m:ae W W')(hS:∀k,S k→k<W.heap.size):bR S W W':=bR.turned m hS (fun _ _ q=>q)
attribute [local go_sem] Oper.semAt_some
theorem iZ {P:Program}{w:World}{ty:TypeId}{g:Nat}{v:Value}{d:TypeDesc}(hu:P.underlying ty=some d)(hd:(match d with| .struct _| .array _ _=>true|_=>false)=false)(hc:w.cell? ⟨g,0,none⟩=some v):(loadVar ty ⟨g,0,none⟩).run P w=.ok v w:=by
 have hagg:(isAgg ty).run P w=.ok false w:=by
  unfold isAgg
  rw[Sem.run_bind,run_underlying hu w]
  cases d<;>simp_all
 simp[loadVar,Sem.run_bind,hagg,hc,Result.andThen,go_sem]
section
variable {F:Fence}{n:Nat}{P:Program}{o:Oper}{a:Act}{w:World}{K:Act→World→Prop}{Q:Exit→Act→World→Prop}
theorem aK {ty:TypeId}{x:Operand}(ho:o.op=.load ty x){g:Nat}(hx:a.eval x=.pointer (some ⟨g,0,none⟩)){v:Value}(hr:(loadVar ty ⟨g,0,none⟩).run P w=.ok v w)(h:K (a.put o.dst v) w):o.wpIn F n P a w K Q:=by
 refine⟨by simp[Oper.about,ho],?_⟩
 rw[Oper.semAt_plain F _ _ (by rw[ho];intro c hc;cases hc)]
 simp[execOp,ho,hx,Instr.loadAt,Instr.sureAddr,Sem.run_bind,hr,Result.andThen]
 exact h
theorem cY {l f:Nat}{x0 x1 x2:Operand}{v0 v1 v2:Value}{ts:Array TypeId}(ho:o.op=.call { callee:= .value (.func f),args:= #[x0,x1,x2],argTypes:=ts })(h0:a.eval x0=v0)(h1:a.eval x1=v1)(h2:a.eval x2=v2)(he:∀(vs:Array Value)(w:World),Sem.run P (callFunc f vs) w=.ok (.enter f vs) w)
 (h:CallsIn Fence.wide (n-1) P f #[v0,v1,v2] w (fun| .returned v,w''=>K (a.put o.dst v) w''| .panicked ch,w''=>Q (.panic ch) a w''| .outgrown,_=>LetsOut Q)):o.wpIn (Fence.wide.inRound l) n P a w K Q:=by
 refine⟨fun _ _=>trivial,?_⟩
 have hv:a.eval (.func f)=.func (.func f) #[] #[]:=rfl
 rw[Oper.semAt_plain _ _ _ (by rw[ho];intro c hc;cases hc)]
 generalize a.eval=ρ at h0 h1 h2 hv⊢
 simp[execOp,ho,resolve,invoke,hv,h0,h1,h2,he,Sem.run_bind,Result.andThen,go_sem]
 exact⟨fun q=>by simp[Fence.inRound,Fence.wide] at q,CallsIn.inRound l h⟩
end
theorem GQ {c:Cfg}(R:c.Ok){n:Nat}(H:TblIn c.pg c.st n)(hn:n≤10000)(F:Nat→Prop)(p:Nat)(kn:Int→Option Int)(D:List KV)(x y:Int)(hx:W64 x)(w:World)(hv:aF w F p kn D)(hk:OkK kn)(hD:cI n D):
 Calls Tryz.prog 161 #[.pointer (some ⟨p,0,none⟩),.agg c.arr,.int .i64 x,.int .i64 y] w (aI w F p kn (fun s=> .int .i64 s) (gO c.pg c.st x y kn D)):=by
 obtain⟨Rr,hRr⟩:∃Rr,gO c.pg c.st x y kn D=Rr:=⟨_,rfl⟩
 rw[hRr]
 refine(callsIn_wide (n:=3)).1 ?_
 refine iW Tryz.func161 rfl trivial ?_ rfl
 simp only[Tryz.ntmps161,List.size_toArray,List.length_cons,List.length_nil,Nat.reduceAdd,Nat.reduceSub,Array.replicate_succ,Array.replicate_zero,List.push_toArray,List.append_toArray,List.nil_append,List.cons_append]
 refine fE ?_
 gi_wp2
 refine fE ?_
 gi_wp2
 refine ss ?_
 refine fE ?_
 obtain⟨w3,e3,hb0,hb1,hb2,m3,s3⟩:=jD w (.cells #[.pointer (some ⟨p,0,none⟩)] 43) (.cells c.arr 28) (.cells #[.int .i64 0] 3)
 rw[e3]
 clear e3
 have hld3:(loadVar 28 ⟨w.heap.size+1,0,none⟩).run Tryz.prog w3=.ok (.agg c.arr) w3:=run_loadVar_row w3 _ _ _ _ _ _ hb1 Tryz.underlying28 rfl (by kernel_rfl)
 have HB0:=hQQ hb0
 have HB1:=hQQ hb1
 have HB2:=hQQ hb2
 clear hb0 hb1 hb2
 gi_wp2_with (first
  |((with_reducible refine gQ ?_ 28 (.tmp 5) ?_ (w.heap.size+1) ?_ (.agg c.arr) ?_ ?_);rfl;rfl;rfl;exact hld3)
  |((with_reducible refine And.intro ?_ ?_);exact trivial;gi_at_call 165;refine(JT _ x y _).mono ?_;rintro e w' ⟨rfl,rfl⟩))
 obtain⟨hl,hp4,hp5⟩:=Eg c x y w3
 have m6:ae w3 (((w3.alloc (.cells c.arr 28)).alloc (.cells #[.int .i64 x] 3)).alloc (.cells #[.int .i64 y] 3)):=(((ae.refl _).alloc _).alloc _).alloc _
 have s6:(((w3.alloc (.cells c.arr 28)).alloc (.cells #[.int .i64 x] 3)).alloc (.cells #[.int .i64 y] 3)).heap.size=w.heap.size+6:=by simp[s3]
 rw[s3] at hl hp4 hp5
 generalize ((w3.alloc (.cells c.arr 28)).alloc (.cells #[.int .i64 x] 3)).alloc (.cells #[.int .i64 y] 3)=w6 at hl hp4 hp5 m6 s6⊢
 have hc0:=m6.block HB0.o
 have hc1:=m6.block HB1.o
 have hc2:=m6.block HB2.o
 have m06:=m3.trans m6
 have hv6:=hv.more m06
 have hF:=hv.lt
 have hF6:∀k,F k→k<w6.heap.size:=fun k q=>by have:=hF k q;omega
 have HR:=hQQ R
 have HK:=hQQ hk
 have HH:=hQQ H
 have HT:=hQQ (fun w=>CZ (c:=c) R x y hx w)
 have OE:=hQQ (Eh 2 (by omega) R x y hx (w.heap.size+3) (w.heap.size+3+1) (w.heap.size+3+2) w6 hl hp4 hp5)
 have hR0:(cm c.pg x y=true→iC c.pg c.st (el c.pg x y) (x / 4) 0 kn D=Rr)∧(cm c.pg x y=false→Rr=.ok 0 D):=by
  unfold gO at hRr
  unfold el
  cases hth:cm c.pg x y with
  |true=>rw[hth] at hRr;exact⟨fun _=>hRr,fun q=>(by cases q)⟩
  |false=>rw[hth] at hRr;exact⟨fun q=>(by cases q),fun _=>hRr.symm⟩
 have HR0:=hQQ hR0
 have ON0:=hQQ (OnV.begin (T:=fun k=>k=w.heap.size+2) hv6 hD)
 clear hRr R hk H hl hp4 hp5 hv hv6 hD hx m3 s3 hld3 HB0 HB1 HB2 m6 hR0
 have HC0:=hQQ hc0
 have HC1:=hQQ hc1
 have HC2:=hQQ hc2
 clear hc0 hc1 hc2
 have hNT:∀k,k=w.heap.size+2→w.heap.size≤k:=fun k q=>by omega
 have hb6:w.heap.size+2<w6.heap.size:=by omega
 refine oy ?_
 refine FW (N:=el c.pg x y) (gf:=170) (lb:=#[.pointer (some ⟨w.heap.size+3,0,none⟩),.pointer (some ⟨w.heap.size+3+1,0,none⟩),.pointer (some ⟨w.heap.size+3+2,0,none⟩)]) Tryz.func161 rfl (by omega) rfl trivial (enters_of Tryz.func170 (by kernel_rfl) rfl) OE.o (ae.refl _) (by rintro k (rfl|rfl|rfl)<;>omega) (fun _=>rfl)
  (fun i=>C5 w6 F (w.heap.size+2) p 3 kn n (fun D' v=>∃s:Int,v=.int .i64 s∧0≤s∧s≤4 * (i:Int)∧(cm c.pg x y=true→iC c.pg c.st (el c.pg x y-i) (x / 4+(i:Int)) s kn D'=Rr)∧(cm c.pg x y=false→D'=D∧s=0)))
  (fun e _=>GP w6 F (w.heap.size+2) p 3 kn n (fun a=>Rr=.need a) (fun _ _=>False) e)
  (fun i=>rg hF6 hb6 _) (fun e i=>yF hF6 hb6 _ _ e)
  ⟨F,D,_,ON0.o,HC2.o,0,rfl,by omega,by omega,fun h=>by simpa using HR0.o.1 h,fun _=>⟨rfl,rfl⟩⟩
  (fun i=>Lr w6 F (w.heap.size+2) p 3 kn n (fun D' v=>∃s:Int,v=.int .i64 s∧0≤s∧s≤4 * (i:Int)∧(cm c.pg x y=true→iC c.pg c.st (el c.pg x y-i) (x / 4+(i:Int)) s kn D'=Rr)∧(cm c.pg x y=false→D'=D∧s=0)) 139 (ct c (x / 4+(i:Int)))
   (fun Bx=> { tmps:= #[.pointer (some ⟨p,0,none⟩),.agg c.arr,.int .i64 x,.int .i64 y,.pointer (some ⟨w.heap.size,0,none⟩),.pointer (some ⟨w.heap.size+1,0,none⟩),undef,undef,.int .i64 0,.pointer (some ⟨w.heap.size+1+1,0,none⟩),.pointer (some ⟨Bx,0,none⟩),.agg c.arr,.int .i64 x,.int .i64 y,.func (.func 170) #[] #[.pointer (some ⟨w.heap.size+3,0,none⟩),.pointer (some ⟨w.heap.size+3+1,0,none⟩),.pointer (some ⟨w.heap.size+3+2,0,none⟩)],.agg (ct c (x / 4+(i:Int))),undef,undef,undef,undef,undef,undef],defers:= [] }))
  (fun i a'=>yG hF6 hb6 _ _ _ _ a') ?assign ?body ?done ?stop ?dies
 case assign =>
  rintro l i W K hi hsz ⟨F',D',v,h1,h2,h3⟩ hK
  obtain⟨hx1,hm1⟩:=Ei W c (x / 4+(i:Int))
  gi_wp2_with ((with_reducible refine jF ?_ 139 (.tmp 10) (.tmp 15) ?_ W.heap.size ?_ (ct c (x / 4+(i:Int))) ?_ 139 xb ?_ ?_ ?_ ?_ ?_);rfl;rfl;rfl;rfl;exact bz W _;kernel_rfl;rfl;exact JV c _)
  refine hK _ _ (nq hm1 (by rintro k (rfl|rfl)<;>omega)) (nq hm1 (by rintro k (rfl|rfl|rfl)<;>omega)) ?_
  exact⟨W.heap.size,F',D',v,hsz,fun q=>by have:=h1.view.lt _ q;omega,hx1,h1.more hm1,hm1.block h2,h3,rfl⟩
 case body =>
  rintro l i a' W hsz hi ⟨Bx,F',D',v,g0,g1,g2,g3,g4,⟨s,rfl,s0,s1,g5,g6⟩,rfl⟩
  have HEN:=enters_of Tryz.func166 (by kernel_rfl) rfl
  have hmx:Tryz.prog.follows .mixedOrders=true:=by kernel_rfl
  have hld:=run_loadVar_row (P:=Tryz.prog) W.drew Bx _ 139 _ _ _ g2 Tryz.underlying139 rfl (by kernel_rfl)
  have hcv:=(Turned.block g3.turn w.heap.size (by omega) (by rintro(q|q);have:=hF _ q;omega;omega)).trans HC0.o
  have cv:W.drew.cell? ⟨w.heap.size,0,none⟩=some (.pointer (some ⟨p,0,none⟩)):=(aA hcv).1
  have cs:W.drew.cell? ⟨w.heap.size+1+1,0,none⟩=some (.int .i64 s):=(aA (b:=w.heap.size+1+1) g4).1
  have hv1:(loadVar 43 ⟨w.heap.size,0,none⟩).run Tryz.prog W.drew=.ok (.pointer (some ⟨p,0,none⟩)) W.drew:=iZ Tryz.underlying43 rfl cv
  have hs1:(loadVar 3 ⟨w.heap.size+1+1,0,none⟩).run Tryz.prog W.drew=.ok (.int .i64 s) W.drew:=iZ Tryz.underlying3 rfl cs
  have hth:cm c.pg x y=true:=by
   cases q:cm c.pg x y with
   |true=>rfl
   |false=>unfold el at hi;rw[q] at hi;simp at hi
  have hN:el c.pg x y≤64:=by unfold el;rw[hth];exact(AM hth HR.o.pg2).2
  have hsem:=g5 hth
  rw[show el c.pg x y-i=(el c.pg x y-(i+1))+1 by omega] at hsem
  have hsem2:aq (jY c.pg c.st (x / 4+(i:Int)) 1) (fun z=>iC c.pg c.st (el c.pg x y-(i+1)) (x / 4+(i:Int)+1) (s+z)) kn D'=Rr:=hsem
  have TN:=hQQ (Ml HR.o HH.o hn F' p kn D' (x / 4+(i:Int)) 1 W.drew (g3.view.more (ae.refl W).drew) HK.o g3.inv)
  have G3:=hQQ g3
  have G4:=hQQ g4
  have HS:=hQQ hsem2
  clear hcv hsem hsem2 g3 g4 g5 g6 g2 cv cs
  refine wpIn_block ?_
  cases hm:jY c.pg c.st (x / 4+(i:Int)) 1 kn D' with
  |need a =>
   have FIN:Hq (∀W2 e,aI W.drew F' p kn (fun y:Int=>Value.int .i64 y) (.need a) e W2→e=.panicked (bB p)∧bR (dK w6.heap.size) W W2∧([]:List Deferred)= []∧GP w6 F (w.heap.size+2) p 3 kn n (fun a=>Rr=.need a) (fun _ _=>False) (.panic (bB p)) W2):=hQQ fun W2 e he=>by
    obtain⟨he',hend,ht⟩:=oF.of G3.o (by omega) (ae.refl W).drew he
    exact⟨he',G3.o.same hF6 hsz ht,rfl,rfl,a,HS.o.symm.trans (ag hm),hend⟩
   refine wpIn_region_any hmx ?_
   change wpAnyIn _ _ _ _ _ _ _ _ _ (World.drew _)
   refine wpAnyIn_ready (rs:=[0,1,2]) (by kernel_rfl) (by simp) ?_
   refine AllReadyIn.cons rfl (fun K hK=>?_) ?_
   ·rw[if_pos (by rfl)];refine aK rfl rfl hs1 ?_;refine hK _ _ ?_;clear hK K
    refine wpAnyIn_ready (rs:=[1,2]) (by kernel_rfl) (by simp) ?_
    refine AllReadyIn.cons rfl (fun K hK=>?_) ?_
    ·rw[if_pos (by rfl)];refine aK rfl rfl hld ?_;refine hK _ _ ?_;clear hK K
     refine wpAnyIn_ready (rs:=[2]) (by kernel_rfl) (by simp) ?_
     refine AllReadyIn.cons rfl (fun K hK=>?_) ?_
     ·rw[if_pos (by rfl)];refine aK rfl rfl hv1 ?_;refine hK _ _ ?_;clear hK K
      refine wpAnyIn_ready (rs:=[3]) (by kernel_rfl) (by simp) ?_
      refine AllReadyIn.cons rfl (fun K hK=>?_) ?_
      ·rw[if_pos (by rfl)];refine cY (v0:=.agg (ct c (x / 4+(i:Int)))) (v1:=.pointer (some ⟨p,0,none⟩)) (v2:=.int .i64 1) rfl rfl rfl rfl HEN ?_
       refine(callsIn_wide.2 TN.o).mono ?_
       intro e W2 he
       rw[hm] at he
       obtain⟨rfl,hfin⟩:=FIN.o W2 e he
       exact hfin
      exact AllReadyIn.nil
     exact AllReadyIn.nil
    refine AllReadyIn.cons rfl (fun K hK=>?_) ?_
    ·rw[if_pos (by rfl)];refine aK rfl rfl hv1 ?_;refine hK _ _ ?_;clear hK K
     refine wpAnyIn_ready (rs:=[1]) (by kernel_rfl) (by simp) ?_
     refine AllReadyIn.cons rfl (fun K hK=>?_) ?_
     ·rw[if_pos (by rfl)];refine aK rfl rfl hld ?_;refine hK _ _ ?_;clear hK K
      refine wpAnyIn_ready (rs:=[3]) (by kernel_rfl) (by simp) ?_
      refine AllReadyIn.cons rfl (fun K hK=>?_) ?_
      ·rw[if_pos (by rfl)];refine cY (v0:=.agg (ct c (x / 4+(i:Int)))) (v1:=.pointer (some ⟨p,0,none⟩)) (v2:=.int .i64 1) rfl rfl rfl rfl HEN ?_
       refine(callsIn_wide.2 TN.o).mono ?_
       intro e W2 he
       rw[hm] at he
       obtain⟨rfl,hfin⟩:=FIN.o W2 e he
       exact hfin
      exact AllReadyIn.nil
     exact AllReadyIn.nil
    exact AllReadyIn.nil
   refine AllReadyIn.cons rfl (fun K hK=>?_) ?_
   ·rw[if_pos (by rfl)];refine aK rfl rfl hld ?_;refine hK _ _ ?_;clear hK K
    refine wpAnyIn_ready (rs:=[0,2]) (by kernel_rfl) (by simp) ?_
    refine AllReadyIn.cons rfl (fun K hK=>?_) ?_
    ·rw[if_pos (by rfl)];refine aK rfl rfl hs1 ?_;refine hK _ _ ?_;clear hK K
     refine wpAnyIn_ready (rs:=[2]) (by kernel_rfl) (by simp) ?_
     refine AllReadyIn.cons rfl (fun K hK=>?_) ?_
     ·rw[if_pos (by rfl)];refine aK rfl rfl hv1 ?_;refine hK _ _ ?_;clear hK K
      refine wpAnyIn_ready (rs:=[3]) (by kernel_rfl) (by simp) ?_
      refine AllReadyIn.cons rfl (fun K hK=>?_) ?_
      ·rw[if_pos (by rfl)];refine cY (v0:=.agg (ct c (x / 4+(i:Int)))) (v1:=.pointer (some ⟨p,0,none⟩)) (v2:=.int .i64 1) rfl rfl rfl rfl HEN ?_
       refine(callsIn_wide.2 TN.o).mono ?_
       intro e W2 he
       rw[hm] at he
       obtain⟨rfl,hfin⟩:=FIN.o W2 e he
       exact hfin
      exact AllReadyIn.nil
     exact AllReadyIn.nil
    refine AllReadyIn.cons rfl (fun K hK=>?_) ?_
    ·rw[if_pos (by rfl)];refine aK rfl rfl hv1 ?_;refine hK _ _ ?_;clear hK K
     refine wpAnyIn_ready (rs:=[0,3]) (by kernel_rfl) (by simp) ?_
     refine AllReadyIn.cons rfl (fun K hK=>?_) ?_
     ·rw[if_pos (by rfl)];refine aK rfl rfl hs1 ?_;refine hK _ _ ?_;clear hK K
      refine wpAnyIn_ready (rs:=[3]) (by kernel_rfl) (by simp) ?_
      refine AllReadyIn.cons rfl (fun K hK=>?_) ?_
      ·rw[if_pos (by rfl)];refine cY (v0:=.agg (ct c (x / 4+(i:Int)))) (v1:=.pointer (some ⟨p,0,none⟩)) (v2:=.int .i64 1) rfl rfl rfl rfl HEN ?_
       refine(callsIn_wide.2 TN.o).mono ?_
       intro e W2 he
       rw[hm] at he
       obtain⟨rfl,hfin⟩:=FIN.o W2 e he
       exact hfin
      exact AllReadyIn.nil
     refine AllReadyIn.cons rfl (fun K hK=>?_) ?_
     ·rw[if_pos (by rfl)];refine cY (v0:=.agg (ct c (x / 4+(i:Int)))) (v1:=.pointer (some ⟨p,0,none⟩)) (v2:=.int .i64 1) rfl rfl rfl rfl HEN ?_
      refine(callsIn_wide.2 TN.o).mono ?_
      intro e W2 he
      rw[hm] at he
      obtain⟨rfl,hfin⟩:=FIN.o W2 e he
      exact hfin
     exact AllReadyIn.nil
    exact AllReadyIn.nil
   refine AllReadyIn.cons rfl (fun K hK=>?_) ?_
   ·rw[if_pos (by rfl)];refine aK rfl rfl hv1 ?_;refine hK _ _ ?_;clear hK K
    refine wpAnyIn_ready (rs:=[0,1]) (by kernel_rfl) (by simp) ?_
    refine AllReadyIn.cons rfl (fun K hK=>?_) ?_
    ·rw[if_pos (by rfl)];refine aK rfl rfl hs1 ?_;refine hK _ _ ?_;clear hK K
     refine wpAnyIn_ready (rs:=[1]) (by kernel_rfl) (by simp) ?_
     refine AllReadyIn.cons rfl (fun K hK=>?_) ?_
     ·rw[if_pos (by rfl)];refine aK rfl rfl hld ?_;refine hK _ _ ?_;clear hK K
      refine wpAnyIn_ready (rs:=[3]) (by kernel_rfl) (by simp) ?_
      refine AllReadyIn.cons rfl (fun K hK=>?_) ?_
      ·rw[if_pos (by rfl)];refine cY (v0:=.agg (ct c (x / 4+(i:Int)))) (v1:=.pointer (some ⟨p,0,none⟩)) (v2:=.int .i64 1) rfl rfl rfl rfl HEN ?_
       refine(callsIn_wide.2 TN.o).mono ?_
       intro e W2 he
       rw[hm] at he
       obtain⟨rfl,hfin⟩:=FIN.o W2 e he
       exact hfin
      exact AllReadyIn.nil
     exact AllReadyIn.nil
    refine AllReadyIn.cons rfl (fun K hK=>?_) ?_
    ·rw[if_pos (by rfl)];refine aK rfl rfl hld ?_;refine hK _ _ ?_;clear hK K
     refine wpAnyIn_ready (rs:=[0,3]) (by kernel_rfl) (by simp) ?_
     refine AllReadyIn.cons rfl (fun K hK=>?_) ?_
     ·rw[if_pos (by rfl)];refine aK rfl rfl hs1 ?_;refine hK _ _ ?_;clear hK K
      refine wpAnyIn_ready (rs:=[3]) (by kernel_rfl) (by simp) ?_
      refine AllReadyIn.cons rfl (fun K hK=>?_) ?_
      ·rw[if_pos (by rfl)];refine cY (v0:=.agg (ct c (x / 4+(i:Int)))) (v1:=.pointer (some ⟨p,0,none⟩)) (v2:=.int .i64 1) rfl rfl rfl rfl HEN ?_
       refine(callsIn_wide.2 TN.o).mono ?_
       intro e W2 he
       rw[hm] at he
       obtain⟨rfl,hfin⟩:=FIN.o W2 e he
       exact hfin
      exact AllReadyIn.nil
     refine AllReadyIn.cons rfl (fun K hK=>?_) ?_
     ·rw[if_pos (by rfl)];refine cY (v0:=.agg (ct c (x / 4+(i:Int)))) (v1:=.pointer (some ⟨p,0,none⟩)) (v2:=.int .i64 1) rfl rfl rfl rfl HEN ?_
      refine(callsIn_wide.2 TN.o).mono ?_
      intro e W2 he
      rw[hm] at he
      obtain⟨rfl,hfin⟩:=FIN.o W2 e he
      exact hfin
     exact AllReadyIn.nil
    exact AllReadyIn.nil
   exact AllReadyIn.nil
  |ok z D1 =>
   have FI2:Hq (∀W2 e,aI W.drew F' p kn (fun y:Int=>Value.int .i64 y) (.ok z D1) e W2→e=.returned (.int .i64 z)∧(loadVar 3 ⟨w.heap.size+1+1,0,none⟩).run Tryz.prog W2=.ok (.int .i64 s) W2∧W2.cell? ⟨w.heap.size+1+1,0,none⟩=some (.int .i64 s)∧W2.frozen? ⟨w.heap.size+1+1,0,none⟩=false ∧
    (bR (dK w6.heap.size) W (W2.setCell ⟨w.heap.size+1+1,0,none⟩ (.int .i64 (s+z)))∧bR (fun k=>k=w.heap.size+3∨k=w.heap.size+3+1∨k=w.heap.size+3+2) W (W2.setCell ⟨w.heap.size+1+1,0,none⟩ (.int .i64 (s+z)))∧C5 w6 F (w.heap.size+2) p 3 kn n (fun D' v=>∃s:Int,v=.int .i64 s∧0≤s∧s≤4 * ((i+1:Nat):Int)∧(cm c.pg x y=true→iC c.pg c.st (el c.pg x y-(i+1)) (x / 4+((i+1:Nat):Int)) s kn D'=Rr)∧(cm c.pg x y=false→D'=D∧s=0)) (W2.setCell ⟨w.heap.size+1+1,0,none⟩ (.int .i64 (s+z))))):=hQQ fun W2 e he=>by
    obtain⟨hI1,z0,z1⟩:=(qz HH.o _ 1 (by unfold W64;omega)).ok HK.o G3.o.inv hm
    obtain⟨he',F1,hon,ht⟩:=G3.o.step hsz (ae.refl W).drew he hI1
    have hbr:W2.heap[w.heap.size+2]?=some (.cells #[.int .i64 s] 3 (0,0)):=(Turned.block ht _ (by omega) (fun q=>by rcases G3.o.from' _ q with r|r;have:=hF _ r;omega;omega)).trans G4.o
    obtain⟨cr,fr,_⟩:=aA (b:=w.heap.size+1+1) hbr
    have hlt:=ac hbr
    have hsz2:=ht.size
    have tb:Turned (fun k=>k=w.heap.size+1+1) W2 (W2.setCell ⟨w.heap.size+1+1,0,none⟩ (.int .i64 (s+z))):=Turned.setCell (Turned.refl _ W2) _ _ (fun _=>rfl)
    refine⟨he',iZ Tryz.underlying3 rfl cr,cr,fr,?_,?_,F1,D1,_,hon.box (b:=w.heap.size+1+1) rfl (fun k q=>by have:=hF _ q;omega) (by omega) _ hbr (fun _ _ q=>by cases q),li (b:=w.heap.size+1+1) _ hbr,s+z,rfl,by omega,by omega,fun _=>?_,fun q=>by rw[hth] at q;cases q⟩
    ·exact(G3.o.same hF6 hsz ht).trans (bR.turned tb (fun k q=>by rcases q with q|q<;>omega) (fun k q r=>by rcases q with q|q<;>omega))
    ·exact(G3.o.sameS (by rintro k (rfl|rfl|rfl)<;>exact⟨by omega,fun q=>by have:=hF _ q;omega⟩) ht).trans (bR.turned tb (fun k q=>by rcases q with q|q|q<;>omega) (fun k q r=>by rcases q with q|q|q<;>omega))
    ·rw[show x / 4+((i+1:Nat):Int)=x / 4+(i:Int)+1 by omega]
     exact(aj hm).symm.trans HS.o
   have zb:=((qz HH.o _ 1 (by unfold W64;omega)).ok HK.o G3.o.inv hm).2
   have qw:IntKind.i64.wrap (s+z)=s+z:=aB (by omega) (by omega)
   refine wpIn_region_any hmx ?_
   change wpAnyIn _ _ _ _ _ _ _ _ _ (World.drew _)
   refine wpAnyIn_ready (rs:=[0,1,2]) (by kernel_rfl) (by simp) ?_
   refine AllReadyIn.cons rfl (fun K hK=>?_) ?_
   ·rw[if_pos (by rfl)];refine aK rfl rfl hs1 ?_;refine hK _ _ ?_;clear hK K
    refine wpAnyIn_ready (rs:=[1,2]) (by kernel_rfl) (by simp) ?_
    refine AllReadyIn.cons rfl (fun K hK=>?_) ?_
    ·rw[if_pos (by rfl)];refine aK rfl rfl hld ?_;refine hK _ _ ?_;clear hK K
     refine wpAnyIn_ready (rs:=[2]) (by kernel_rfl) (by simp) ?_
     refine AllReadyIn.cons rfl (fun K hK=>?_) ?_
     ·rw[if_pos (by rfl)];refine aK rfl rfl hv1 ?_;refine hK _ _ ?_;clear hK K
      refine wpAnyIn_ready (rs:=[3]) (by kernel_rfl) (by simp) ?_
      refine AllReadyIn.cons rfl (fun K hK=>?_) ?_
      ·rw[if_pos (by rfl)];refine cY (v0:=.agg (ct c (x / 4+(i:Int)))) (v1:=.pointer (some ⟨p,0,none⟩)) (v2:=.int .i64 1) rfl rfl rfl rfl HEN ?_
       refine(callsIn_wide.2 TN.o).mono ?_
       intro e W2 he
       rw[hm] at he
       obtain⟨rfl,hs2,cs2,fs2,hfin⟩:=FI2.o W2 e he
       have FIN:=hQQ hfin
       clear hfin he
       refine hK _ _ ?_;clear hK K
       refine wpAnyIn_ready (rs:=[4]) (by kernel_rfl) (by simp) ?_
       refine AllReadyIn.cons rfl (fun K hK=>?_) ?_
       ·go_simp;refine hK _ _ ?_;clear hK K
        refine wpAnyIn_ready (rs:=[5]) (by kernel_rfl) (by simp) ?_
        refine AllReadyIn.cons rfl (fun K hK=>?_) ?_
        ·go_simp;refine hK _ _ ?_;clear hK K
         refine wpAnyIn_done (by kernel_rfl) ?_ _
         exact FIN.o
        exact AllReadyIn.nil
       exact AllReadyIn.nil
      exact AllReadyIn.nil
     exact AllReadyIn.nil
    refine AllReadyIn.cons rfl (fun K hK=>?_) ?_
    ·rw[if_pos (by rfl)];refine aK rfl rfl hv1 ?_;refine hK _ _ ?_;clear hK K
     refine wpAnyIn_ready (rs:=[1]) (by kernel_rfl) (by simp) ?_
     refine AllReadyIn.cons rfl (fun K hK=>?_) ?_
     ·rw[if_pos (by rfl)];refine aK rfl rfl hld ?_;refine hK _ _ ?_;clear hK K
      refine wpAnyIn_ready (rs:=[3]) (by kernel_rfl) (by simp) ?_
      refine AllReadyIn.cons rfl (fun K hK=>?_) ?_
      ·rw[if_pos (by rfl)];refine cY (v0:=.agg (ct c (x / 4+(i:Int)))) (v1:=.pointer (some ⟨p,0,none⟩)) (v2:=.int .i64 1) rfl rfl rfl rfl HEN ?_
       refine(callsIn_wide.2 TN.o).mono ?_
       intro e W2 he
       rw[hm] at he
       obtain⟨rfl,hs2,cs2,fs2,hfin⟩:=FI2.o W2 e he
       have FIN:=hQQ hfin
       clear hfin he
       refine hK _ _ ?_;clear hK K
       refine wpAnyIn_ready (rs:=[4]) (by kernel_rfl) (by simp) ?_
       refine AllReadyIn.cons rfl (fun K hK=>?_) ?_
       ·go_simp;refine hK _ _ ?_;clear hK K
        refine wpAnyIn_ready (rs:=[5]) (by kernel_rfl) (by simp) ?_
        refine AllReadyIn.cons rfl (fun K hK=>?_) ?_
        ·go_simp;refine hK _ _ ?_;clear hK K
         refine wpAnyIn_done (by kernel_rfl) ?_ _
         exact FIN.o
        exact AllReadyIn.nil
       exact AllReadyIn.nil
      exact AllReadyIn.nil
     exact AllReadyIn.nil
    exact AllReadyIn.nil
   refine AllReadyIn.cons rfl (fun K hK=>?_) ?_
   ·rw[if_pos (by rfl)];refine aK rfl rfl hld ?_;refine hK _ _ ?_;clear hK K
    refine wpAnyIn_ready (rs:=[0,2]) (by kernel_rfl) (by simp) ?_
    refine AllReadyIn.cons rfl (fun K hK=>?_) ?_
    ·rw[if_pos (by rfl)];refine aK rfl rfl hs1 ?_;refine hK _ _ ?_;clear hK K
     refine wpAnyIn_ready (rs:=[2]) (by kernel_rfl) (by simp) ?_
     refine AllReadyIn.cons rfl (fun K hK=>?_) ?_
     ·rw[if_pos (by rfl)];refine aK rfl rfl hv1 ?_;refine hK _ _ ?_;clear hK K
      refine wpAnyIn_ready (rs:=[3]) (by kernel_rfl) (by simp) ?_
      refine AllReadyIn.cons rfl (fun K hK=>?_) ?_
      ·rw[if_pos (by rfl)];refine cY (v0:=.agg (ct c (x / 4+(i:Int)))) (v1:=.pointer (some ⟨p,0,none⟩)) (v2:=.int .i64 1) rfl rfl rfl rfl HEN ?_
       refine(callsIn_wide.2 TN.o).mono ?_
       intro e W2 he
       rw[hm] at he
       obtain⟨rfl,hs2,cs2,fs2,hfin⟩:=FI2.o W2 e he
       have FIN:=hQQ hfin
       clear hfin he
       refine hK _ _ ?_;clear hK K
       refine wpAnyIn_ready (rs:=[4]) (by kernel_rfl) (by simp) ?_
       refine AllReadyIn.cons rfl (fun K hK=>?_) ?_
       ·go_simp;refine hK _ _ ?_;clear hK K
        refine wpAnyIn_ready (rs:=[5]) (by kernel_rfl) (by simp) ?_
        refine AllReadyIn.cons rfl (fun K hK=>?_) ?_
        ·go_simp;refine hK _ _ ?_;clear hK K
         refine wpAnyIn_done (by kernel_rfl) ?_ _
         exact FIN.o
        exact AllReadyIn.nil
       exact AllReadyIn.nil
      exact AllReadyIn.nil
     exact AllReadyIn.nil
    refine AllReadyIn.cons rfl (fun K hK=>?_) ?_
    ·rw[if_pos (by rfl)];refine aK rfl rfl hv1 ?_;refine hK _ _ ?_;clear hK K
     refine wpAnyIn_ready (rs:=[0,3]) (by kernel_rfl) (by simp) ?_
     refine AllReadyIn.cons rfl (fun K hK=>?_) ?_
     ·rw[if_pos (by rfl)];refine aK rfl rfl hs1 ?_;refine hK _ _ ?_;clear hK K
      refine wpAnyIn_ready (rs:=[3]) (by kernel_rfl) (by simp) ?_
      refine AllReadyIn.cons rfl (fun K hK=>?_) ?_
      ·rw[if_pos (by rfl)];refine cY (v0:=.agg (ct c (x / 4+(i:Int)))) (v1:=.pointer (some ⟨p,0,none⟩)) (v2:=.int .i64 1) rfl rfl rfl rfl HEN ?_
       refine(callsIn_wide.2 TN.o).mono ?_
       intro e W2 he
       rw[hm] at he
       obtain⟨rfl,hs2,cs2,fs2,hfin⟩:=FI2.o W2 e he
       have FIN:=hQQ hfin
       clear hfin he
       refine hK _ _ ?_;clear hK K
       refine wpAnyIn_ready (rs:=[4]) (by kernel_rfl) (by simp) ?_
       refine AllReadyIn.cons rfl (fun K hK=>?_) ?_
       ·go_simp;refine hK _ _ ?_;clear hK K
        refine wpAnyIn_ready (rs:=[5]) (by kernel_rfl) (by simp) ?_
        refine AllReadyIn.cons rfl (fun K hK=>?_) ?_
        ·go_simp;refine hK _ _ ?_;clear hK K
         refine wpAnyIn_done (by kernel_rfl) ?_ _
         exact FIN.o
        exact AllReadyIn.nil
       exact AllReadyIn.nil
      exact AllReadyIn.nil
     refine AllReadyIn.cons rfl (fun K hK=>?_) ?_
     ·rw[if_pos (by rfl)];refine cY (v0:=.agg (ct c (x / 4+(i:Int)))) (v1:=.pointer (some ⟨p,0,none⟩)) (v2:=.int .i64 1) rfl rfl rfl rfl HEN ?_
      refine(callsIn_wide.2 TN.o).mono ?_
      intro e W2 he
      rw[hm] at he
      obtain⟨rfl,hs2,cs2,fs2,hfin⟩:=FI2.o W2 e he
      have FIN:=hQQ hfin
      clear hfin he
      refine hK _ _ ?_;clear hK K
      refine wpAnyIn_ready (rs:=[0]) (by kernel_rfl) (by simp) ?_
      refine AllReadyIn.cons rfl (fun K hK=>?_) ?_
      ·rw[if_pos (by rfl)];refine aK rfl rfl hs2 ?_;refine hK _ _ ?_;clear hK K
       refine wpAnyIn_ready (rs:=[4]) (by kernel_rfl) (by simp) ?_
       refine AllReadyIn.cons rfl (fun K hK=>?_) ?_
       ·go_simp;refine hK _ _ ?_;clear hK K
        refine wpAnyIn_ready (rs:=[5]) (by kernel_rfl) (by simp) ?_
        refine AllReadyIn.cons rfl (fun K hK=>?_) ?_
        ·go_simp;refine hK _ _ ?_;clear hK K
         refine wpAnyIn_done (by kernel_rfl) ?_ _
         exact FIN.o
        exact AllReadyIn.nil
       exact AllReadyIn.nil
      exact AllReadyIn.nil
     exact AllReadyIn.nil
    exact AllReadyIn.nil
   refine AllReadyIn.cons rfl (fun K hK=>?_) ?_
   ·rw[if_pos (by rfl)];refine aK rfl rfl hv1 ?_;refine hK _ _ ?_;clear hK K
    refine wpAnyIn_ready (rs:=[0,1]) (by kernel_rfl) (by simp) ?_
    refine AllReadyIn.cons rfl (fun K hK=>?_) ?_
    ·rw[if_pos (by rfl)];refine aK rfl rfl hs1 ?_;refine hK _ _ ?_;clear hK K
     refine wpAnyIn_ready (rs:=[1]) (by kernel_rfl) (by simp) ?_
     refine AllReadyIn.cons rfl (fun K hK=>?_) ?_
     ·rw[if_pos (by rfl)];refine aK rfl rfl hld ?_;refine hK _ _ ?_;clear hK K
      refine wpAnyIn_ready (rs:=[3]) (by kernel_rfl) (by simp) ?_
      refine AllReadyIn.cons rfl (fun K hK=>?_) ?_
      ·rw[if_pos (by rfl)];refine cY (v0:=.agg (ct c (x / 4+(i:Int)))) (v1:=.pointer (some ⟨p,0,none⟩)) (v2:=.int .i64 1) rfl rfl rfl rfl HEN ?_
       refine(callsIn_wide.2 TN.o).mono ?_
       intro e W2 he
       rw[hm] at he
       obtain⟨rfl,hs2,cs2,fs2,hfin⟩:=FI2.o W2 e he
       have FIN:=hQQ hfin
       clear hfin he
       refine hK _ _ ?_;clear hK K
       refine wpAnyIn_ready (rs:=[4]) (by kernel_rfl) (by simp) ?_
       refine AllReadyIn.cons rfl (fun K hK=>?_) ?_
       ·go_simp;refine hK _ _ ?_;clear hK K
        refine wpAnyIn_ready (rs:=[5]) (by kernel_rfl) (by simp) ?_
        refine AllReadyIn.cons rfl (fun K hK=>?_) ?_
        ·go_simp;refine hK _ _ ?_;clear hK K
         refine wpAnyIn_done (by kernel_rfl) ?_ _
         exact FIN.o
        exact AllReadyIn.nil
       exact AllReadyIn.nil
      exact AllReadyIn.nil
     exact AllReadyIn.nil
    refine AllReadyIn.cons rfl (fun K hK=>?_) ?_
    ·rw[if_pos (by rfl)];refine aK rfl rfl hld ?_;refine hK _ _ ?_;clear hK K
     refine wpAnyIn_ready (rs:=[0,3]) (by kernel_rfl) (by simp) ?_
     refine AllReadyIn.cons rfl (fun K hK=>?_) ?_
     ·rw[if_pos (by rfl)];refine aK rfl rfl hs1 ?_;refine hK _ _ ?_;clear hK K
      refine wpAnyIn_ready (rs:=[3]) (by kernel_rfl) (by simp) ?_
      refine AllReadyIn.cons rfl (fun K hK=>?_) ?_
      ·rw[if_pos (by rfl)];refine cY (v0:=.agg (ct c (x / 4+(i:Int)))) (v1:=.pointer (some ⟨p,0,none⟩)) (v2:=.int .i64 1) rfl rfl rfl rfl HEN ?_
       refine(callsIn_wide.2 TN.o).mono ?_
       intro e W2 he
       rw[hm] at he
       obtain⟨rfl,hs2,cs2,fs2,hfin⟩:=FI2.o W2 e he
       have FIN:=hQQ hfin
       clear hfin he
       refine hK _ _ ?_;clear hK K
       refine wpAnyIn_ready (rs:=[4]) (by kernel_rfl) (by simp) ?_
       refine AllReadyIn.cons rfl (fun K hK=>?_) ?_
       ·go_simp;refine hK _ _ ?_;clear hK K
        refine wpAnyIn_ready (rs:=[5]) (by kernel_rfl) (by simp) ?_
        refine AllReadyIn.cons rfl (fun K hK=>?_) ?_
        ·go_simp;refine hK _ _ ?_;clear hK K
         refine wpAnyIn_done (by kernel_rfl) ?_ _
         exact FIN.o
        exact AllReadyIn.nil
       exact AllReadyIn.nil
      exact AllReadyIn.nil
     refine AllReadyIn.cons rfl (fun K hK=>?_) ?_
     ·rw[if_pos (by rfl)];refine cY (v0:=.agg (ct c (x / 4+(i:Int)))) (v1:=.pointer (some ⟨p,0,none⟩)) (v2:=.int .i64 1) rfl rfl rfl rfl HEN ?_
      refine(callsIn_wide.2 TN.o).mono ?_
      intro e W2 he
      rw[hm] at he
      obtain⟨rfl,hs2,cs2,fs2,hfin⟩:=FI2.o W2 e he
      have FIN:=hQQ hfin
      clear hfin he
      refine hK _ _ ?_;clear hK K
      refine wpAnyIn_ready (rs:=[0]) (by kernel_rfl) (by simp) ?_
      refine AllReadyIn.cons rfl (fun K hK=>?_) ?_
      ·rw[if_pos (by rfl)];refine aK rfl rfl hs2 ?_;refine hK _ _ ?_;clear hK K
       refine wpAnyIn_ready (rs:=[4]) (by kernel_rfl) (by simp) ?_
       refine AllReadyIn.cons rfl (fun K hK=>?_) ?_
       ·go_simp;refine hK _ _ ?_;clear hK K
        refine wpAnyIn_ready (rs:=[5]) (by kernel_rfl) (by simp) ?_
        refine AllReadyIn.cons rfl (fun K hK=>?_) ?_
        ·go_simp;refine hK _ _ ?_;clear hK K
         refine wpAnyIn_done (by kernel_rfl) ?_ _
         exact FIN.o
        exact AllReadyIn.nil
       exact AllReadyIn.nil
      exact AllReadyIn.nil
     exact AllReadyIn.nil
    exact AllReadyIn.nil
   exact AllReadyIn.nil
 case done =>
  rintro W ⟨F',D',v,h1,h2,⟨s,rfl,s0,s1,h4,h5⟩⟩ hdf
  have hR:Rr=.ok s D':=by
   cases q:cm c.pg x y with
   |true=>have:=h4 q;rw[Nat.sub_self] at this;exact this.symm
   |false=>obtain⟨rfl,rfl⟩:=h5 q;exact HR0.o.2 q
  have cs:W.cell? ⟨w.heap.size+1+1,0,none⟩=some (.int .i64 s):=(aA (b:=w.heap.size+1+1) h2).1
  have FIN:=hQQ (JU (S:=fun k=>k=w6.heap.size) (val:=fun s:Int=>Value.int .i64 s) m06 hNT h1 hR (fL (Turned.refl _ W) _ (.deferred none) (fun _=>rfl)) (fun k q=>⟨by omega,fun r=>by rcases h1.from' k r with s|s;have:=hF _ s;omega;omega⟩)
   (fun k es cl q r=>by subst q;rw[hdf] at r;cases r))
  clear h1 h2 h4 h5 hR
  rw[s6] at hdf FIN
  refine rQ ?_
  gi_wp2
  refine⟨by simp,.inl ⟨_,_,rfl,run_takeDeferred hdf,?_⟩⟩
  refine⟨.int .i64 s,?_,FIN.o⟩
  exact(results_tmp (t:=8) rfl _ _ _).trans rfl
 case stop =>
  rintro i e cc W hj hi hx hdf
  cases e with
  |ret=>obtain⟨F',D',v,h1,h2,hR⟩:=hx;exact hR.elim
  |exit _=>exact hx.elim
  |goto _=>exact hx.elim
  |normal=>cases hj
  |panic _=>cases hj
  |outgrown=>cases hj
 case dies =>
  rintro i ch W hi ⟨rfl,a,hR,hend⟩ hdf
  exact⟨by simp,.inl ⟨_,_,rfl,run_takeDeferred hdf,GN m06 hNT (hend.put hdf rfl (Nat.le_refl _) _) hR⟩⟩
attribute [local go_sem] Oper.semAt_some
def aU (n lo hi:Int):Int:=lo+(IntKind.u64.wrap n).tmod (hi-lo+1)
theorem sU (n:Int):0≤IntKind.u64.wrap n:=by
 simp only[IntKind.wrap]
 first|exact Int.emod_nonneg _ (by decide)|(simp;done)|omega
theorem Ls (n lo hi:Int)(h:lo≤hi):0≤(IntKind.u64.wrap n).tmod (hi-lo+1)∧(IntKind.u64.wrap n).tmod (hi-lo+1)≤hi-lo:=by
 have h0:=sU n
 rw[Int.tmod_eq_emod_of_nonneg h0]
 have m0:=Int.emod_nonneg (IntKind.u64.wrap n) (show hi-lo+1≠0 by omega)
 have m1:=Int.emod_lt_of_pos (IntKind.u64.wrap n) (show 0<hi-lo+1 by omega)
 omega
theorem cW (n lo hi:Int)(h:lo≤hi):lo≤aU n lo hi∧aU n lo hi≤hi:=by
 have:=Ls n lo hi h
 unfold aU;omega
theorem AP (n lo hi:Int)(w:World)(h0:0≤lo)(h1:lo≤hi)(h2:hi≤1099511627776)(hn: -9223372036854775808≤n∧n≤9223372036854775807):
 Calls Tryz.prog 99 #[.int .i64 n,.int .i64 lo,.int .i64 hi] w fun e w'=>e=.returned (.int .i64 (aU n lo hi))∧w'=w:=by
 obtain⟨hn0,hn1⟩:=hn
 obtain⟨m0,m1⟩:=Ls n lo hi h1
 go_enter Tryz.func99,Tryz.ntmps99
 go_wp2_with fail
 go_ret
 exact⟨rfl,rfl⟩
variable (wk cp pg st tr wt ck pr ca bi ba:Int)(w:World)
theorem C6:cZ (aU wk 1 64) (aU cp 1 8) (aU pg 1 256) (aU st 1 64) (aU tr 0 16) (aU wt 0 64) (aU ck 1 1099511627776) (aU pr 1 8) (aU ca 0 8) (aU bi 0 16) (aU ba 1 8):=
 ⟨(cW wk 1 64 (by omega)).1,(cW wk 1 64 (by omega)).2,(cW cp 1 8 (by omega)).1,(cW cp 1 8 (by omega)).2,(cW pg 1 256 (by omega)).1,(cW pg 1 256 (by omega)).2,(cW st 1 64 (by omega)).1,(cW st 1 64 (by omega)).2,(cW tr 0 16 (by omega)).1,(cW tr 0 16 (by omega)).2,(cW wt 0 64 (by omega)).1,(cW wt 0 64 (by omega)).2,(cW ck 1 1099511627776 (by omega)).1,(cW ck 1 1099511627776 (by omega)).2,(cW pr 1 8 (by omega)).1,(cW pr 1 8 (by omega)).2,(cW ca 0 8 (by omega)).1,(cW ca 0 8 (by omega)).2,(cW bi 0 16 (by omega)).1,(cW bi 0 16 (by omega)).2,(cW ba 1 8 (by omega)).1,(cW ba 1 8 (by omega)).2⟩
theorem yH (wk0: -9223372036854775808≤wk∧wk≤9223372036854775807)(cp0: -9223372036854775808≤cp∧cp≤9223372036854775807)(pg0: -9223372036854775808≤pg∧pg≤9223372036854775807)(st0: -9223372036854775808≤st∧st≤9223372036854775807)(tr0: -9223372036854775808≤tr∧tr≤9223372036854775807)(wt0: -9223372036854775808≤wt∧wt≤9223372036854775807)(ck0: -9223372036854775808≤ck∧ck≤9223372036854775807)(pr0: -9223372036854775808≤pr∧pr≤9223372036854775807)(ca0: -9223372036854775808≤ca∧ca≤9223372036854775807)(bi0: -9223372036854775808≤bi∧bi≤9223372036854775807)(ba0: -9223372036854775808≤ba∧ba≤9223372036854775807):
 Calls Tryz.prog 68 #[.agg #[.int .i64 wk,.int .i64 cp,.int .i64 pg,.int .i64 st,.int .i64 tr,.int .i64 wt,.int .i64 ck,.int .i64 pr,.int .i64 ca,.int .i64 bi,.int .i64 ba]] w (aQ w (.agg #[.int .i64 (aU wk 1 64),.int .i64 (aU cp 1 8),.int .i64 (aU pg 1 256),.int .i64 (aU st 1 64),.int .i64 (aU tr 0 16),.int .i64 (aU wt 0 64),.int .i64 (aU ck 1 1099511627776),.int .i64 (aU pr 1 8),.int .i64 (aU ca 0 8),.int .i64 (aU bi 0 16),.int .i64 (aU ba 1 8)])):=by
 have HN:=hQQ (ii w 23 wk cp pg st tr wt ck pr ca bi ba)
 have Hwk:=hQQ wk0;clear wk0
 have Hcp:=hQQ cp0;clear cp0
 have Hpg:=hQQ pg0;clear pg0
 have Hst:=hQQ st0;clear st0
 have Htr:=hQQ tr0;clear tr0
 have Hwt:=hQQ wt0;clear wt0
 have Hck:=hQQ ck0;clear ck0
 have Hpr:=hQQ pr0;clear pr0
 have Hca:=hQQ ca0;clear ca0
 have Hbi:=hQQ bi0;clear bi0
 have Hba:=hQQ ba0;clear ba0
 have HS:Hq (((w.alloc (.cells #[.int .i64 wk,.int .i64 cp,.int .i64 pg,.int .i64 st,.int .i64 tr,.int .i64 wt,.int .i64 ck,.int .i64 pr,.int .i64 ca,.int .i64 bi,.int .i64 ba] 23)).alloc (.cells #[.int .i64 0,.int .i64 0,.int .i64 0,.int .i64 0,.int .i64 0,.int .i64 0,.int .i64 0,.int .i64 0,.int .i64 0,.int .i64 0,.int .i64 0] 23)).drew.cell? ⟨w.heap.size,0,none⟩=some (.int .i64 wk)∧((w.alloc (.cells #[.int .i64 wk,.int .i64 cp,.int .i64 pg,.int .i64 st,.int .i64 tr,.int .i64 wt,.int .i64 ck,.int .i64 pr,.int .i64 ca,.int .i64 bi,.int .i64 ba] 23)).alloc (.cells #[.int .i64 0,.int .i64 0,.int .i64 0,.int .i64 0,.int .i64 0,.int .i64 0,.int .i64 0,.int .i64 0,.int .i64 0,.int .i64 0,.int .i64 0] 23)).drew.cell? ⟨w.heap.size,1,none⟩=some (.int .i64 cp)∧((w.alloc (.cells #[.int .i64 wk,.int .i64 cp,.int .i64 pg,.int .i64 st,.int .i64 tr,.int .i64 wt,.int .i64 ck,.int .i64 pr,.int .i64 ca,.int .i64 bi,.int .i64 ba] 23)).alloc (.cells #[.int .i64 0,.int .i64 0,.int .i64 0,.int .i64 0,.int .i64 0,.int .i64 0,.int .i64 0,.int .i64 0,.int .i64 0,.int .i64 0,.int .i64 0] 23)).drew.cell? ⟨w.heap.size,2,none⟩=some (.int .i64 pg)∧((w.alloc (.cells #[.int .i64 wk,.int .i64 cp,.int .i64 pg,.int .i64 st,.int .i64 tr,.int .i64 wt,.int .i64 ck,.int .i64 pr,.int .i64 ca,.int .i64 bi,.int .i64 ba] 23)).alloc (.cells #[.int .i64 0,.int .i64 0,.int .i64 0,.int .i64 0,.int .i64 0,.int .i64 0,.int .i64 0,.int .i64 0,.int .i64 0,.int .i64 0,.int .i64 0] 23)).drew.cell? ⟨w.heap.size,3,none⟩=some (.int .i64 st)∧((w.alloc (.cells #[.int .i64 wk,.int .i64 cp,.int .i64 pg,.int .i64 st,.int .i64 tr,.int .i64 wt,.int .i64 ck,.int .i64 pr,.int .i64 ca,.int .i64 bi,.int .i64 ba] 23)).alloc (.cells #[.int .i64 0,.int .i64 0,.int .i64 0,.int .i64 0,.int .i64 0,.int .i64 0,.int .i64 0,.int .i64 0,.int .i64 0,.int .i64 0,.int .i64 0] 23)).drew.cell? ⟨w.heap.size,4,none⟩=some (.int .i64 tr)∧((w.alloc (.cells #[.int .i64 wk,.int .i64 cp,.int .i64 pg,.int .i64 st,.int .i64 tr,.int .i64 wt,.int .i64 ck,.int .i64 pr,.int .i64 ca,.int .i64 bi,.int .i64 ba] 23)).alloc (.cells #[.int .i64 0,.int .i64 0,.int .i64 0,.int .i64 0,.int .i64 0,.int .i64 0,.int .i64 0,.int .i64 0,.int .i64 0,.int .i64 0,.int .i64 0] 23)).drew.cell? ⟨w.heap.size,5,none⟩=some (.int .i64 wt)∧((w.alloc (.cells #[.int .i64 wk,.int .i64 cp,.int .i64 pg,.int .i64 st,.int .i64 tr,.int .i64 wt,.int .i64 ck,.int .i64 pr,.int .i64 ca,.int .i64 bi,.int .i64 ba] 23)).alloc (.cells #[.int .i64 0,.int .i64 0,.int .i64 0,.int .i64 0,.int .i64 0,.int .i64 0,.int .i64 0,.int .i64 0,.int .i64 0,.int .i64 0,.int .i64 0] 23)).drew.cell? ⟨w.heap.size,6,none⟩=some (.int .i64 ck)∧((w.alloc (.cells #[.int .i64 wk,.int .i64 cp,.int .i64 pg,.int .i64 st,.int .i64 tr,.int .i64 wt,.int .i64 ck,.int .i64 pr,.int .i64 ca,.int .i64 bi,.int .i64 ba] 23)).alloc (.cells #[.int .i64 0,.int .i64 0,.int .i64 0,.int .i64 0,.int .i64 0,.int .i64 0,.int .i64 0,.int .i64 0,.int .i64 0,.int .i64 0,.int .i64 0] 23)).drew.cell? ⟨w.heap.size,7,none⟩=some (.int .i64 pr)∧((w.alloc (.cells #[.int .i64 wk,.int .i64 cp,.int .i64 pg,.int .i64 st,.int .i64 tr,.int .i64 wt,.int .i64 ck,.int .i64 pr,.int .i64 ca,.int .i64 bi,.int .i64 ba] 23)).alloc (.cells #[.int .i64 0,.int .i64 0,.int .i64 0,.int .i64 0,.int .i64 0,.int .i64 0,.int .i64 0,.int .i64 0,.int .i64 0,.int .i64 0,.int .i64 0] 23)).drew.cell? ⟨w.heap.size,8,none⟩=some (.int .i64 ca)∧((w.alloc (.cells #[.int .i64 wk,.int .i64 cp,.int .i64 pg,.int .i64 st,.int .i64 tr,.int .i64 wt,.int .i64 ck,.int .i64 pr,.int .i64 ca,.int .i64 bi,.int .i64 ba] 23)).alloc (.cells #[.int .i64 0,.int .i64 0,.int .i64 0,.int .i64 0,.int .i64 0,.int .i64 0,.int .i64 0,.int .i64 0,.int .i64 0,.int .i64 0,.int .i64 0] 23)).drew.cell? ⟨w.heap.size,9,none⟩=some (.int .i64 bi)∧((w.alloc (.cells #[.int .i64 wk,.int .i64 cp,.int .i64 pg,.int .i64 st,.int .i64 tr,.int .i64 wt,.int .i64 ck,.int .i64 pr,.int .i64 ca,.int .i64 bi,.int .i64 ba] 23)).alloc (.cells #[.int .i64 0,.int .i64 0,.int .i64 0,.int .i64 0,.int .i64 0,.int .i64 0,.int .i64 0,.int .i64 0,.int .i64 0,.int .i64 0,.int .i64 0] 23)).drew.cell? ⟨w.heap.size,10,none⟩=some (.int .i64 ba)):=HN.o.cells ((((ae.refl _).alloc _)).drew)
 go_enter Tryz.func68,Tryz.ntmps68
 go_wp2_with fail
 go_region_held3 (fun w'=>w'.cell? ⟨w.heap.size,0,none⟩=some (.int .i64 wk)∧w'.cell? ⟨w.heap.size,1,none⟩=some (.int .i64 cp)∧w'.cell? ⟨w.heap.size,2,none⟩=some (.int .i64 pg)∧w'.cell? ⟨w.heap.size,3,none⟩=some (.int .i64 st)∧w'.cell? ⟨w.heap.size,4,none⟩=some (.int .i64 tr)∧w'.cell? ⟨w.heap.size,5,none⟩=some (.int .i64 wt)∧w'.cell? ⟨w.heap.size,6,none⟩=some (.int .i64 ck)∧w'.cell? ⟨w.heap.size,7,none⟩=some (.int .i64 pr)∧w'.cell? ⟨w.heap.size,8,none⟩=some (.int .i64 ca)∧w'.cell? ⟨w.heap.size,9,none⟩=some (.int .i64 bi)∧w'.cell? ⟨w.heap.size,10,none⟩=some (.int .i64 ba))
  (first|exact HS.o|go_keep)
  (first|(go_at_call 99;refine(AP _ _ _ _ (by omega) (by omega) (by omega) (by first|exact Hwk.o|exact Hcp.o|exact Hpg.o|exact Hst.o|exact Htr.o|exact Hwt.o|exact Hck.o|exact Hpr.o|exact Hca.o|exact Hbi.o|exact Hba.o)).mono ?_;rintro e w' ⟨rfl,rfl⟩))
 all_goals go_wp2_with fail
 all_goals refine bodyPost_ret (v:=.agg #[.int .i64 (aU wk 1 64),.int .i64 (aU cp 1 8),.int .i64 (aU pg 1 256),.int .i64 (aU st 1 64),.int .i64 (aU tr 0 16),.int .i64 (aU wt 0 64),.int .i64 (aU ck 1 1099511627776),.int .i64 (aU pr 1 8),.int .i64 (aU ca 0 8),.int .i64 (aU bi 0 16),.int .i64 (aU ba 1 8)]) (by simp[results,Tryz.results68,go_sem]) rfl ⟨rfl,?_⟩
 all_goals first|exact(((ae.refl _).alloc _).alloc _).drew|exact((ae.refl _).alloc _).alloc _
theorem mh {x:Int}(h:(Lit.int .i64 x).wf=true): -9223372036854775808≤x:=by
 simp only[Lit.wf,Bool.and_eq_true,decide_eq_true_eq] at h
 have e:IntKind.i64.min= -9223372036854775808:=by decide
 omega
theorem mi {x:Int}(h:(Lit.int .i64 x).wf=true):x≤9223372036854775807:=by
 simp only[Lit.wf,Bool.and_eq_true,decide_eq_true_eq] at h
 have e:IntKind.i64.max=9223372036854775807:=by decide
 omega
theorem AQ (y0 y1 y2 y3 y4 y5 y6 y7 y8 y9 y10:Int)(f0:(Lit.int .i64 y0).wf=true)(f1:(Lit.int .i64 y1).wf=true)(f2:(Lit.int .i64 y2).wf=true)(f3:(Lit.int .i64 y3).wf=true)(f4:(Lit.int .i64 y4).wf=true)(f5:(Lit.int .i64 y5).wf=true)(f6:(Lit.int .i64 y6).wf=true)(f7:(Lit.int .i64 y7).wf=true)(f8:(Lit.int .i64 y8).wf=true)(f9:(Lit.int .i64 y9).wf=true)(f10:(Lit.int .i64 y10).wf=true):
 ∃wk cp pg st tr wt ck pr ca bi ba,cZ wk cp pg st tr wt ck pr ca bi ba∧Hq (∀W,Calls Tryz.prog 68 #[.agg #[.int .i64 y0,.int .i64 y1,.int .i64 y2,.int .i64 y3,.int .i64 y4,.int .i64 y5,.int .i64 y6,.int .i64 y7,.int .i64 y8,.int .i64 y9,.int .i64 y10]] W (aQ W (.agg #[.int .i64 wk,.int .i64 cp,.int .i64 pg,.int .i64 st,.int .i64 tr,.int .i64 wt,.int .i64 ck,.int .i64 pr,.int .i64 ca,.int .i64 bi,.int .i64 ba]))):=
 ⟨(aU y0 1 64),(aU y1 1 8),(aU y2 1 256),(aU y3 1 64),(aU y4 0 16),(aU y5 0 64),(aU y6 1 1099511627776),(aU y7 1 8),(aU y8 0 8),(aU y9 0 16),(aU y10 1 8),C6 y0 y1 y2 y3 y4 y5 y6 y7 y8 y9 y10,fun W=>yH y0 y1 y2 y3 y4 y5 y6 y7 y8 y9 y10 W ⟨mh f0,mi f0⟩ ⟨mh f1,mi f1⟩ ⟨mh f2,mi f2⟩ ⟨mh f3,mi f3⟩ ⟨mh f4,mi f4⟩ ⟨mh f5,mi f5⟩ ⟨mh f6,mi f6⟩ ⟨mh f7,mi f7⟩ ⟨mh f8,mi f8⟩ ⟨mh f9,mi f9⟩ ⟨mh f10,mi f10⟩⟩
variable (wk cp pg st tr wt ck pr ca bi ba:Int)(w:World)
theorem Mm (R:cZ wk cp pg st tr wt ck pr ca bi ba):
 Calls Tryz.prog 167 #[.agg #[.int .i64 wk,.int .i64 cp,.int .i64 pg,.int .i64 st,.int .i64 tr,.int .i64 wt,.int .i64 ck,.int .i64 pr,.int .i64 ca,.int .i64 bi,.int .i64 ba]] w (aQ w (.int .i64 (aY st))):=by
 have h_st1:=R.st1
 have h_st2:=R.st2
 go_enter Tryz.func167,Tryz.ntmps167
 go_wp2
 go_ret
 exact⟨rfl,(ae.refl _).alloc _⟩
theorem JW (R:cZ wk cp pg st tr wt ck pr ca bi ba):
 Calls Tryz.prog 168 #[.agg #[.int .i64 wk,.int .i64 cp,.int .i64 pg,.int .i64 st,.int .i64 tr,.int .i64 wt,.int .i64 ck,.int .i64 pr,.int .i64 ca,.int .i64 bi,.int .i64 ba]] w (aQ w (.int .i64 (aL pg))):=by
 have h_pg1:=R.pg1
 have h_pg2:=R.pg2
 go_enter Tryz.func168,Tryz.ntmps168
 go_wp2
 go_ret
 exact⟨rfl,(ae.refl _).alloc _⟩
theorem Mn (R:cZ wk cp pg st tr wt ck pr ca bi ba):
 Calls Tryz.prog 163 #[.agg #[.int .i64 wk,.int .i64 cp,.int .i64 pg,.int .i64 st,.int .i64 tr,.int .i64 wt,.int .i64 ck,.int .i64 pr,.int .i64 ca,.int .i64 bi,.int .i64 ba]] w (aQ w (.int .i64 (a8 st pg))):=by
 have HR:=hQQ R
 have b1:=su R
 have b2:=ph R
 have h1:=R.pg1
 have h2:=R.pg2
 have q0:IntKind.i64.wrap (aY st+aL pg)=aY st+aL pg:=aB (by omega) (by omega)
 have q1:IntKind.i64.wrap (5 * pg)=5 * pg:=aB (by omega) (by omega)
 have q2:IntKind.i64.wrap (aY st+aL pg+5 * pg)=aY st+aL pg+5 * pg:=aB (by omega) (by omega)
 have HC:=hQQ (ii w 73 wk cp pg st tr wt ck pr ca bi ba)
 have HM:Hq (ae w (w.alloc (.cells #[.int .i64 wk,.int .i64 cp,.int .i64 pg,.int .i64 st,.int .i64 tr,.int .i64 wt,.int .i64 ck,.int .i64 pr,.int .i64 ca,.int .i64 bi,.int .i64 ba] 73))):=(ae.refl w).alloc _
 clear R
 go_enter Tryz.func163,Tryz.ntmps163
 go_wp2_with fail
 generalize w.alloc (.cells #[.int .i64 wk,.int .i64 cp,.int .i64 pg,.int .i64 st,.int .i64 tr,.int .i64 wt,.int .i64 ck,.int .i64 pr,.int .i64 ca,.int .i64 bi,.int .i64 ba] 73)=W0 at *
 have hne:∃W,ae W0 W:=⟨W0,ae.refl _⟩
 refine bQ (by kernel_rfl) (by kernel_rfl) ?_
 iterate 11
  with_reducible refine wpQuiet_step (fun K hK=>?_)
  go_simp
  first
  |(refine hK _ ?_;clear hK K)
  |(apply Exists.intro
    refine⟨fun W hW=>?_,hK _ ?_⟩
    first
    |(go_at_call 167;exact Calls.more hW (Mm _ _ _ _ _ _ _ _ _ _ _ _ HR.o))
    |(go_at_call 168;exact Calls.more hW (JW _ _ _ _ _ _ _ _ _ _ _ _ HR.o))
    |(obtain⟨e0,e1,e2,e3,e4,e5,e6,e7,e8,e9,e10⟩:=HC.o.cells hW;go_simp;try rfl)
    clear hK K)
 refine wpQuiet_nil ?_
 intro W hW
 have HW:=hQQ hW
 clear hW
 go_wp2_with fail
 go_ret
 exact⟨rfl,HM.o.trans HW.o⟩
theorem JX (R:cZ wk cp pg st tr wt ck pr ca bi ba):
 Calls Tryz.prog 155 #[.agg #[.int .i64 wk,.int .i64 cp,.int .i64 pg,.int .i64 st,.int .i64 tr,.int .i64 wt,.int .i64 ck,.int .i64 pr,.int .i64 ca,.int .i64 bi,.int .i64 ba]] w (aQ w (.int .i64 (du st pg))):=by
 have b1:=wE R
 have HR:=hQQ R
 have e:=(ii w 73 wk cp pg st tr wt ck pr ca bi ba).cells (ae.refl _)
 clear R
 go_enter Tryz.func155,Tryz.ntmps155
 go_wp2_with fail
 refine(Mn _ _ _ _ _ _ _ _ _ _ _ _ HR.o).mono ?_
 rintro e w1 ⟨rfl,h1⟩
 go_wp2_with fail
 go_ret
 exact⟨rfl,((ae.refl _).alloc _).trans h1⟩
theorem Od (R:cZ wk cp pg st tr wt ck pr ca bi ba):
 Calls Tryz.prog 144 #[.agg #[.int .i64 wk,.int .i64 cp,.int .i64 pg,.int .i64 st,.int .i64 tr,.int .i64 wt,.int .i64 ck,.int .i64 pr,.int .i64 ca,.int .i64 bi,.int .i64 ba]] w (aQ w (.int .i64 (fX cp pg st ca))):=by
 have HR:=hQQ R
 have b1:=rR R
 have b2:=qn R
 have h1:=R.cp1
 have h2:=R.cp2
 have h3:=R.ca1
 have h4:=R.ca2
 have q0:IntKind.i64.wrap (5 * cp)=5 * cp:=aB (by omega) (by omega)
 have q1:IntKind.i64.wrap (ca+1)=ca+1:=aB (by omega) (by omega)
 have q2:IntKind.i64.wrap (5 * cp * (ca+1))=5 * cp * (ca+1):=aB (by omega) (by omega)
 have q3:IntKind.i64.wrap (du st pg+5 * cp * (ca+1))=du st pg+5 * cp * (ca+1):=aB (by omega) (by omega)
 have HC:=hQQ (ii w 73 wk cp pg st tr wt ck pr ca bi ba)
 have HM:Hq (ae w (w.alloc (.cells #[.int .i64 wk,.int .i64 cp,.int .i64 pg,.int .i64 st,.int .i64 tr,.int .i64 wt,.int .i64 ck,.int .i64 pr,.int .i64 ca,.int .i64 bi,.int .i64 ba] 73))):=(ae.refl w).alloc _
 clear R
 go_enter Tryz.func144,Tryz.ntmps144
 go_wp2_with fail
 generalize w.alloc (.cells #[.int .i64 wk,.int .i64 cp,.int .i64 pg,.int .i64 st,.int .i64 tr,.int .i64 wt,.int .i64 ck,.int .i64 pr,.int .i64 ca,.int .i64 bi,.int .i64 ba] 73)=W0 at *
 have hne:∃W,ae W0 W:=⟨W0,ae.refl _⟩
 refine bQ (by kernel_rfl) (by kernel_rfl) ?_
 iterate 13
  with_reducible refine wpQuiet_step (fun K hK=>?_)
  go_simp
  first
  |(refine hK _ ?_;clear hK K)
  |(apply Exists.intro
    refine⟨fun W hW=>?_,hK _ ?_⟩
    first
    |(go_at_call 155;exact Calls.more hW (JX _ _ _ _ _ _ _ _ _ _ _ _ HR.o))
    |(obtain⟨e0,e1,e2,e3,e4,e5,e6,e7,e8,e9,e10⟩:=HC.o.cells hW;go_simp;try rfl)
    clear hK K)
 refine wpQuiet_nil ?_
 intro W hW
 have HW:=hQQ hW
 clear hW
 go_wp2_with fail
 go_ret
 exact⟨rfl,HM.o.trans HW.o⟩
theorem Oe (R:cZ wk cp pg st tr wt ck pr ca bi ba):
 Calls Tryz.prog 124 #[.agg #[.int .i64 wk,.int .i64 cp,.int .i64 pg,.int .i64 st,.int .i64 tr,.int .i64 wt,.int .i64 ck,.int .i64 pr,.int .i64 ca,.int .i64 bi,.int .i64 ba]] w (aQ w (.int .i64 (eK cp pg st ca bi))):=by
 have HR:=hQQ R
 have b1:=CH R
 have h1:=R.bi1
 have h2:=R.bi2
 have q0:IntKind.i64.wrap (bi+1)=bi+1:=aB (by omega) (by omega)
 have q1:IntKind.i64.wrap (5 * (bi+1))=5 * (bi+1):=aB (by omega) (by omega)
 have q2:IntKind.i64.wrap (fX cp pg st ca+5 * (bi+1))=fX cp pg st ca+5 * (bi+1):=aB (by omega) (by omega)
 have HC:=hQQ (ii w 73 wk cp pg st tr wt ck pr ca bi ba)
 have HM:Hq (ae w (w.alloc (.cells #[.int .i64 wk,.int .i64 cp,.int .i64 pg,.int .i64 st,.int .i64 tr,.int .i64 wt,.int .i64 ck,.int .i64 pr,.int .i64 ca,.int .i64 bi,.int .i64 ba] 73))):=(ae.refl w).alloc _
 clear R
 go_enter Tryz.func124,Tryz.ntmps124
 go_wp2_with fail
 generalize w.alloc (.cells #[.int .i64 wk,.int .i64 cp,.int .i64 pg,.int .i64 st,.int .i64 tr,.int .i64 wt,.int .i64 ck,.int .i64 pr,.int .i64 ca,.int .i64 bi,.int .i64 ba] 73)=W0 at *
 have hne:∃W,ae W0 W:=⟨W0,ae.refl _⟩
 refine bQ (by kernel_rfl) (by kernel_rfl) ?_
 iterate 9
  with_reducible refine wpQuiet_step (fun K hK=>?_)
  go_simp
  first
  |(refine hK _ ?_;clear hK K)
  |(apply Exists.intro
    refine⟨fun W hW=>?_,hK _ ?_⟩
    first
    |(go_at_call 144;exact Calls.more hW (Od _ _ _ _ _ _ _ _ _ _ _ _ HR.o))
    |(obtain⟨e0,e1,e2,e3,e4,e5,e6,e7,e8,e9,e10⟩:=HC.o.cells hW;go_simp;try rfl)
    clear hK K)
 refine wpQuiet_nil ?_
 intro W hW
 have HW:=hQQ hW
 clear hW
 go_wp2_with fail
 go_ret
 exact⟨rfl,HM.o.trans HW.o⟩
theorem Og (R:cZ wk cp pg st tr wt ck pr ca bi ba):
 Calls Tryz.prog 102 #[.agg #[.int .i64 wk,.int .i64 cp,.int .i64 pg,.int .i64 st,.int .i64 tr,.int .i64 wt,.int .i64 ck,.int .i64 pr,.int .i64 ca,.int .i64 bi,.int .i64 ba]] w (aQ w (.int .i64 (eT cp pg st ca bi))):=by
 have HR:=hQQ R
 have b1:=sw R
 have h1:=R.pg1
 have h2:=R.pg2
 have q0:IntKind.i64.wrap (32 * pg)=32 * pg:=aB (by omega) (by omega)
 have q1:IntKind.i64.wrap (eK cp pg st ca bi+32 * pg)=eK cp pg st ca bi+32 * pg:=aB (by omega) (by omega)
 have q2:IntKind.i64.wrap (eK cp pg st ca bi+32 * pg+127)=eK cp pg st ca bi+32 * pg+127:=aB (by omega) (by omega)
 have q3:IntKind.i64.wrap ((eK cp pg st ca bi+32 * pg+127) / 128 * 128)=(eK cp pg st ca bi+32 * pg+127) / 128 * 128:=aB (by omega) (by omega)
 have qd:IntKind.i64.wrap ((eK cp pg st ca bi+32 * pg+127).tdiv 128)=(eK cp pg st ca bi+32 * pg+127) / 128:=by
  rw[Int.tdiv_eq_ediv_of_nonneg (by omega)];exact aB (by omega) (by omega)
 have HC:=hQQ (ii w 73 wk cp pg st tr wt ck pr ca bi ba)
 have HM:Hq (ae w (w.alloc (.cells #[.int .i64 wk,.int .i64 cp,.int .i64 pg,.int .i64 st,.int .i64 tr,.int .i64 wt,.int .i64 ck,.int .i64 pr,.int .i64 ca,.int .i64 bi,.int .i64 ba] 73))):=(ae.refl w).alloc _
 clear R
 go_enter Tryz.func102,Tryz.ntmps102
 go_wp2_with fail
 generalize w.alloc (.cells #[.int .i64 wk,.int .i64 cp,.int .i64 pg,.int .i64 st,.int .i64 tr,.int .i64 wt,.int .i64 ck,.int .i64 pr,.int .i64 ca,.int .i64 bi,.int .i64 ba] 73)=W0 at *
 have hne:∃W,ae W0 W:=⟨W0,ae.refl _⟩
 refine bQ (by kernel_rfl) (by kernel_rfl) ?_
 iterate 11
  with_reducible refine wpQuiet_step (fun K hK=>?_)
  go_simp
  first
  |(refine hK _ ?_;clear hK K)
  |(apply Exists.intro
    refine⟨fun W hW=>?_,hK _ ?_⟩
    first
    |(go_at_call 124;exact Calls.more hW (Oe _ _ _ _ _ _ _ _ _ _ _ _ HR.o))
    |(obtain⟨e0,e1,e2,e3,e4,e5,e6,e7,e8,e9,e10⟩:=HC.o.cells hW;go_simp;try rfl)
    clear hK K)
 refine wpQuiet_nil ?_
 intro W hW
 have HW:=hQQ hW
 clear hW
 go_wp2_with fail
 go_ret
 exact⟨rfl,HM.o.trans HW.o⟩
theorem Mo (R:cZ wk cp pg st tr wt ck pr ca bi ba):
 Calls Tryz.prog 72 #[.agg #[.int .i64 wk,.int .i64 cp,.int .i64 pg,.int .i64 st,.int .i64 tr,.int .i64 wt,.int .i64 ck,.int .i64 pr,.int .i64 ca,.int .i64 bi,.int .i64 ba]] w (aQ w (.int .i64 (eY cp pg st ca bi))):=by
 have HR:=hQQ R
 have b1:=nZ R
 have h1:=R.pg1
 have h2:=R.pg2
 have q0:IntKind.i64.wrap (32 * pg)=32 * pg:=aB (by omega) (by omega)
 have q1:IntKind.i64.wrap (eT cp pg st ca bi+32 * pg)=eT cp pg st ca bi+32 * pg:=aB (by omega) (by omega)
 have HC:=hQQ (ii w 73 wk cp pg st tr wt ck pr ca bi ba)
 have HM:Hq (ae w (w.alloc (.cells #[.int .i64 wk,.int .i64 cp,.int .i64 pg,.int .i64 st,.int .i64 tr,.int .i64 wt,.int .i64 ck,.int .i64 pr,.int .i64 ca,.int .i64 bi,.int .i64 ba] 73))):=(ae.refl w).alloc _
 clear R
 go_enter Tryz.func72,Tryz.ntmps72
 go_wp2_with fail
 generalize w.alloc (.cells #[.int .i64 wk,.int .i64 cp,.int .i64 pg,.int .i64 st,.int .i64 tr,.int .i64 wt,.int .i64 ck,.int .i64 pr,.int .i64 ca,.int .i64 bi,.int .i64 ba] 73)=W0 at *
 have hne:∃W,ae W0 W:=⟨W0,ae.refl _⟩
 refine bQ (by kernel_rfl) (by kernel_rfl) ?_
 iterate 8
  with_reducible refine wpQuiet_step (fun K hK=>?_)
  go_simp
  first
  |(refine hK _ ?_;clear hK K)
  |(apply Exists.intro
    refine⟨fun W hW=>?_,hK _ ?_⟩
    first
    |(go_at_call 102;exact Calls.more hW (Og _ _ _ _ _ _ _ _ _ _ _ _ HR.o))
    |(obtain⟨e0,e1,e2,e3,e4,e5,e6,e7,e8,e9,e10⟩:=HC.o.cells hW;go_simp;try rfl)
    clear hK K)
 refine wpQuiet_nil ?_
 intro W hW
 have HW:=hQQ hW
 clear hW
 go_wp2_with fail
 go_ret
 exact⟨rfl,HM.o.trans HW.o⟩
variable (wk cp pg st tr wt ck pr ca bi ba:Int)(w:World)
section
variable {P:Program}{ops:Array Oper}{rest:List Oper}{o:Oper}{a:Act}{w:World}{Q:Exit→Act→World→Prop}
theorem rM (hw:Region.wanted o (yielded ops a.tmps)=true)(ty:TypeId)(x:Operand)(ho:o.op=.load ty x)(g i:Nat)(hx:a.eval x=.pointer (some ⟨g,i,none⟩))(k:IntKind)(hu:P.underlying ty=some (.int k))(v:Value)(hc:w.cell? ⟨g,i,none⟩=some v)
 (h:wpList P ops Q rest (a.put o.dst v) w):wpList P ops Q (o::rest) a w :=
 dU hw fun K hK=>by
  have hr:(loadVar ty ⟨g,i,none⟩).run P w=.ok v w:=eN hu rfl hc
  unfold Oper.wp Oper.upon execOp
  simp only[ho,hx,Instr.loadAt,Instr.sureAddr,Sem.run_bind,Sem.run_pure,Result.andThen_ok,hr]
  exact hK _ _ h
theorem ik (hw:Region.wanted o (yielded ops a.tmps)=true)(ty:TypeId)(x y:Operand)(ho:o.op=.store ty x y)(hd:o.dst=none)(g i:Nat)(hx:a.eval x=.pointer (some ⟨g,i,none⟩))(z:Int)(hy:a.eval y=.int .i64 z)(cs:Array Value)(t:TypeId)(hg:w.heap[g]?=some (.cells cs t (0,0)))(hi:i<cs.size)(hsz:(P.info? ty).map (·.size)=some 1)
 (h:∀w',w'.heap[g]?=some (.cells (cs.setIfInBounds i (.int .i64 z)) t (0,0))→Turned (fun k=>k=g) w w'→wpList P ops Q rest a w'):wpList P ops Q (o::rest) a w :=
 dU hw fun K hK=>by
  have hc:w.cell? ⟨g,i,none⟩=some cs[i]:=by rw[cell_of_row w g i cs t _ hg,Array.getElem?_eq_getElem hi]
  have hf:w.frozen? ⟨g,i,none⟩=false:=frozen_of_row w g i cs t hg
  have hs:(Instr.storeAt ty (.pointer (some ⟨g,i,none⟩)) (.int .i64 z)).run P w=.ok () (w.setCell ⟨g,i,none⟩ (.int .i64 z)):=by
   cases hq:P.info? ty with
   |none=>rw[hq] at hsz;simp at hsz
   |some d =>
    rw[hq] at hsz
    have hs1:d.size=1:=by simpa using hsz
    simp[hc,hf,go_sem,sizeOf,typeInfo,hq,hs1]
  have:=hK _ _ (h _ (bD (.int .i64 z) hg) (Turned.setCell (Turned.refl _ w) ⟨g,i,none⟩ (.int .i64 z) (fun _=>rfl)))
  unfold Oper.wp Oper.upon execOp
  simp only[ho,hx,hy,Sem.run_bind,Sem.run_pure,hs,Result.andThen_ok,hd]
  exact this
end
def lj (c:Cfg):Cfg:= { wk:=1+c.wk % 4,cp:=1+c.cp % 2,pg:=1+c.pg % 9,st:=1+c.st % 4,tr:=c.tr,wt:=c.wt,ck:=c.ck,pr:=1+c.pr % 3,ca:=c.ca % 3,bi:=c.bi % 4,ba:=1+c.ba % 3 }
structure Cfg.Small (c:Cfg):Prop where
 ok:c.Ok
 cp2:c.cp≤2
 pg9:c.pg≤9
 st4:c.st≤4
 ca2:c.ca≤2
 bi3:c.bi≤3
theorem rh {c:Cfg}(R:c.Ok):(lj c).Small:=by
 have h1:=R.wk1;have h2:=R.cp1;have h3:=R.pg1;have h4:=R.st1;have h5:=R.tr1;have h6:=R.tr2;have h7:=R.wt1;have h8:=R.wt2;have h9:=R.ck1;have h10:=R.ck2;have h11:=R.pr1;have h12:=R.ca1;have h13:=R.bi1;have h14:=R.ba1
 unfold lj
 refine⟨?_,?_,?_,?_,?_,?_⟩<;>try (show _≤_;simp only;omega)
 constructor<;>(simp only;omega)
theorem Cfg.Small.words {c:Cfg}(S:c.Small):160≤c.words∧c.words≤800:=by
 have hb:=Am S.ok
 refine⟨hb.1,?_⟩
 have h1:=S.cp2;have h2:=S.pg9;have h3:=S.st4;have h4:=S.ca2;have h5:=S.bi3
 have c0:=S.ok.cp1;have c1:=S.ok.ca1;have c2:=S.ok.bi1;have c3:=S.ok.pg1
 have pb:c.cp * (c.ca+1)≤2 * 3:=Int.mul_le_mul h1 (by omega) (by omega) (by omega)
 have pa:5 * c.cp * (c.ca+1)=5 * (c.cp * (c.ca+1)):=by rw[Int.mul_assoc]
 unfold Cfg.words eY eT eK fX du a8 aY aL
 rw[pa]
 omega
theorem Cfg.Small.tbl {c:Cfg}(S:c.Small){n:Nat}(hn:(n:Int)=c.words):TblIn c.pg c.st n:=by
 refine⟨S.ok.st1,S.ok.st2,S.ok.pg1,S.ok.pg2,?_⟩
 rw[hn]
 have h1:=sw S.ok;have h2:=nZ S.ok;have h3:=S.ok.pg1
 have h4:aY c.st+aL c.pg≤a8 c.st c.pg:=by unfold a8;omega
 have h5:a8 c.st c.pg≤eK c.cp c.pg c.st c.ca c.bi:=by
  have:=qn S.ok;have:=S.ok.bi1
  unfold eK fX du;omega
 show _≤eY c.cp c.pg c.st c.ca c.bi
 unfold eY
 omega
theorem vB {c:Cfg}(R:c.Ok)(y0 y1 y2 y3 y4 y5 y6 y7 y8 y9 y10:Int)(v:Value)(w:World)(hS:∀W,Calls Tryz.prog 68 #[v] W (aQ W (.agg #[.int .i64 c.wk,.int .i64 c.cp,.int .i64 c.pg,.int .i64 c.st,.int .i64 c.tr,.int .i64 c.wt,.int .i64 c.ck,.int .i64 c.pr,.int .i64 c.ca,.int .i64 c.bi,.int .i64 c.ba])))(hv:v=.agg #[.int .i64 y0,.int .i64 y1,.int .i64 y2,.int .i64 y3,.int .i64 y4,.int .i64 y5,.int .i64 y6,.int .i64 y7,.int .i64 y8,.int .i64 y9,.int .i64 y10]):
 Calls Tryz.prog 31 #[v] w (aQ w (.agg (lj c).cells)):=by
 have h1:=R.wk1;have h2:=R.cp1;have h3:=R.pg1;have h4:=R.st1;have h11:=R.pr1;have h12:=R.ca1;have h13:=R.bi1;have h14:=R.ba1
 have g1:=R.wk2;have g2:=R.cp2;have g3:=R.pg2;have g4:=R.st2;have g11:=R.pr2;have g12:=R.ca2;have g13:=R.bi2;have g14:=R.ba2
 have t0:c.wk.tmod 4=c.wk % 4:=Int.tmod_eq_emod_of_nonneg (by omega)
 have t1:c.cp.tmod 2=c.cp % 2:=Int.tmod_eq_emod_of_nonneg (by omega)
 have t2:c.pg.tmod 9=c.pg % 9:=Int.tmod_eq_emod_of_nonneg (by omega)
 have t3:c.st.tmod 4=c.st % 4:=Int.tmod_eq_emod_of_nonneg (by omega)
 have t7:c.pr.tmod 3=c.pr % 3:=Int.tmod_eq_emod_of_nonneg (by omega)
 have t8:c.ca.tmod 3=c.ca % 3:=Int.tmod_eq_emod_of_nonneg (by omega)
 have t9:c.bi.tmod 4=c.bi % 4:=Int.tmod_eq_emod_of_nonneg (by omega)
 have t10:c.ba.tmod 3=c.ba % 3:=Int.tmod_eq_emod_of_nonneg (by omega)
 have q0:IntKind.i64.wrap (1+c.wk % 4)=1+c.wk % 4:=aB (by omega) (by omega)
 have q1:IntKind.i64.wrap (1+c.cp % 2)=1+c.cp % 2:=aB (by omega) (by omega)
 have q2:IntKind.i64.wrap (1+c.pg % 9)=1+c.pg % 9:=aB (by omega) (by omega)
 have q3:IntKind.i64.wrap (1+c.st % 4)=1+c.st % 4:=aB (by omega) (by omega)
 have q7:IntKind.i64.wrap (1+c.pr % 3)=1+c.pr % 3:=aB (by omega) (by omega)
 have q10:IntKind.i64.wrap (1+c.ba % 3)=1+c.ba % 3:=aB (by omega) (by omega)
 have HS:=hQQ hS
 clear hS R h1 h2 h3 h4 h11 h12 h13 h14 g1 g2 g3 g4 g11 g12 g13 g14
 subst hv
 have HA0:=hQQ (aW w #[.int .i64 y0,.int .i64 y1,.int .i64 y2,.int .i64 y3,.int .i64 y4,.int .i64 y5,.int .i64 y6,.int .i64 y7,.int .i64 y8,.int .i64 y9,.int .i64 y10] 23)
 have HA:Hq (((w.alloc (.cells #[.int .i64 y0,.int .i64 y1,.int .i64 y2,.int .i64 y3,.int .i64 y4,.int .i64 y5,.int .i64 y6,.int .i64 y7,.int .i64 y8,.int .i64 y9,.int .i64 y10] 23)).alloc (.cells #[.int .i64 0,.int .i64 0,.int .i64 0,.int .i64 0,.int .i64 0,.int .i64 0,.int .i64 0,.int .i64 0,.int .i64 0,.int .i64 0,.int .i64 0] 23)).heap[w.heap.size]?=some (.cells #[.int .i64 y0,.int .i64 y1,.int .i64 y2,.int .i64 y3,.int .i64 y4,.int .i64 y5,.int .i64 y6,.int .i64 y7,.int .i64 y8,.int .i64 y9,.int .i64 y10] 23 (0,0))):=((ae.refl _).alloc _).block HA0.o
 have HZ0:Hq (((w.alloc (.cells #[.int .i64 y0,.int .i64 y1,.int .i64 y2,.int .i64 y3,.int .i64 y4,.int .i64 y5,.int .i64 y6,.int .i64 y7,.int .i64 y8,.int .i64 y9,.int .i64 y10] 23)).alloc (.cells #[.int .i64 0,.int .i64 0,.int .i64 0,.int .i64 0,.int .i64 0,.int .i64 0,.int .i64 0,.int .i64 0,.int .i64 0,.int .i64 0,.int .i64 0] 23)).heap[w.heap.size+1]?=some (.cells #[.int .i64 0,.int .i64 0,.int .i64 0,.int .i64 0,.int .i64 0,.int .i64 0,.int .i64 0,.int .i64 0,.int .i64 0,.int .i64 0,.int .i64 0] 23 (0,0))):=by
  have:=aW (w.alloc (.cells #[.int .i64 y0,.int .i64 y1,.int .i64 y2,.int .i64 y3,.int .i64 y4,.int .i64 y5,.int .i64 y6,.int .i64 y7,.int .i64 y8,.int .i64 y9,.int .i64 y10] 23)) #[.int .i64 0,.int .i64 0,.int .i64 0,.int .i64 0,.int .i64 0,.int .i64 0,.int .i64 0,.int .i64 0,.int .i64 0,.int .i64 0,.int .i64 0] 23
  rwa [World.size_alloc] at this
 have HM:Hq (ae w ((w.alloc (.cells #[.int .i64 y0,.int .i64 y1,.int .i64 y2,.int .i64 y3,.int .i64 y4,.int .i64 y5,.int .i64 y6,.int .i64 y7,.int .i64 y8,.int .i64 y9,.int .i64 y10] 23)).alloc (.cells #[.int .i64 0,.int .i64 0,.int .i64 0,.int .i64 0,.int .i64 0,.int .i64 0,.int .i64 0,.int .i64 0,.int .i64 0,.int .i64 0,.int .i64 0] 23))):=((ae.refl w).alloc _).alloc _
 go_enter Tryz.func31,Tryz.ntmps31
 go_wp2_with (refine sx rfl rfl rfl HA.o (by kernel_rfl) ?_)
 refine(HS.o _).mono ?_
 rintro e w4 ⟨rfl,m4⟩
 have HB4:=hQQ (setRow_heap w4 w.heap.size _ #[.int .i64 c.wk,.int .i64 c.cp,.int .i64 c.pg,.int .i64 c.st,.int .i64 c.tr,.int .i64 c.wt,.int .i64 c.ck,.int .i64 c.pr,.int .i64 c.ca,.int .i64 c.bi,.int .i64 c.ba] _ _ (m4.block HA.o))
 have HZ4:Hq ((w4.setRow w.heap.size #[.int .i64 c.wk,.int .i64 c.cp,.int .i64 c.pg,.int .i64 c.st,.int .i64 c.tr,.int .i64 c.wt,.int .i64 c.ck,.int .i64 c.pr,.int .i64 c.ca,.int .i64 c.bi,.int .i64 c.ba]).heap[w.heap.size+1]?=_):=hQQ ((setRow_other w4 w.heap.size (w.heap.size+1) #[.int .i64 c.wk,.int .i64 c.cp,.int .i64 c.pg,.int .i64 c.st,.int .i64 c.tr,.int .i64 c.wt,.int .i64 c.ck,.int .i64 c.pr,.int .i64 c.ca,.int .i64 c.bi,.int .i64 c.ba] (by omega)).trans (m4.block HZ0.o))
 have HM4:Hq (ae w (w4.setRow w.heap.size #[.int .i64 c.wk,.int .i64 c.cp,.int .i64 c.pg,.int .i64 c.st,.int .i64 c.tr,.int .i64 c.wt,.int .i64 c.ck,.int .i64 c.pr,.int .i64 c.ca,.int .i64 c.bi,.int .i64 c.ba])):=(HM.o.trans m4).setRow _ _ (Nat.le_refl _)
 have HX4:=hQQ (m4.block HA.o)
 clear m4
 have hw1:w.heap.size+1<(w4.setRow w.heap.size #[.int .i64 c.wk,.int .i64 c.cp,.int .i64 c.pg,.int .i64 c.st,.int .i64 c.tr,.int .i64 c.wt,.int .i64 c.ck,.int .i64 c.pr,.int .i64 c.ca,.int .i64 c.bi,.int .i64 c.ba]).heap.size:=ac HZ4.o
 go_wp2_with (first
  |(refine wpList_store_row rfl 23 _ _ rfl _ _ rfl rfl 23 _ HX4.o (by kernel_rfl) rfl (by simp[Value.oneCell']) ?_;generalize w4.setRow w.heap.size #[.int .i64 c.wk,.int .i64 c.cp,.int .i64 c.pg,.int .i64 c.st,.int .i64 c.tr,.int .i64 c.wt,.int .i64 c.ck,.int .i64 c.pr,.int .i64 c.ca,.int .i64 c.bi,.int .i64 c.ba]=w5 at HB4 HZ4 HM4 hw1⊢;have HB:=HB4;have HZ:=HZ4;have HT:=HM4;clear HX4 HB4 HZ4 HM4)
  |(refine rM rfl 3 _ rfl w.heap.size _ rfl .i64 Tryz.underlying3 _ (bd HB.o (ae.refl _) rfl) ?_)
  |(refine ik rfl 3 _ _ rfl rfl w.heap.size _ rfl _ rfl _ _ HB.o (by simp) (by kernel_rfl) ?_;intro w6 hb6 ht6;simp only[List.setIfInBounds_toArray,List.set_cons_zero,List.set_cons_succ] at hb6;have HZ:=hQQ ((Turned.block ht6 (w.heap.size+1) (ac HZ.o) (by omega)).trans HZ.o);have HT:Hq (ae w w6):=hQQ (Turned.mono (ak (F:=fun _=>False) HT.o ht6 (fun k q=> .inr (by omega))) (fun _ _ q=>q));have HB:=hQQ hb6;clear hb6 ht6)
  |(refine sx rfl rfl rfl HB.o (by kernel_rfl) ?_)
  |(refine wpList_store_row rfl 23 _ _ rfl _ _ rfl rfl 23 _ HZ.o (by kernel_rfl) rfl (by simp[Value.oneCell']) ?_))
 refine bodyPost_ret (v:=.agg (lj c).cells) (results_cell_row Tryz.results31 _ _ _ 23 _ (0,0) _ rfl (setRow_heap _ _ _ _ _ _ HZ.o) Tryz.underlying23 rfl (by kernel_rfl)) rfl ⟨rfl,?_⟩
 exact HT.o.setRow _ _ (by omega)
def cQ (n:Nat):List Int:=List.replicate n 0
theorem kD (n:Nat):(cQ n).length=n:=by simp[cQ]
theorem AR (n:Nat):(madeCells (Value.int .i64 0).cells (n * 1)).toList=(cQ n).map (Value.int .i64):=by
 apply List.ext_getElem
 ·simp[madeCells,cQ,Value.cells]
 ·intro i h1 h2
  simp[madeCells,cQ,Value.cells,Nat.mod_one]
theorem gF (n:Nat):OkW (cQ n):=fun x hx=>by
 have:=List.eq_of_mem_replicate hx
 subst this;unfold W64;omega
def Ws (w:World)(g cap:Nat)(zs:List Int):Prop:=∃cur:Array Value,w.heap[g]?=some (.cells cur 3 (0,0))∧zs.length≤cap∧cap≤maxLen∧cur.size=cap∧∀i,i<zs.length→cur[i]?=some (.int .i64 (zs.getD i 0))
theorem Ws.of_rw {w:World}{base g cap:Nat}{zs:List Int}(h:Rw base w (.slice (some ⟨g,0,none⟩) zs.length cap) zs):Ws w g cap zs:=by
 rcases h.2 with⟨q,_⟩|⟨g',cap',cur,q,hb,hg,h1,h2,h3,h4⟩
 ·cases q
 ·cases q
  refine⟨cur,hg,h1,h2,by simpa using h3,fun i hi=>?_⟩
  have h5:(cur.toList.take (zs.length * 1))[i]?=some (.int .i64 (zs.getD i 0)):=by
   rw[h4,List.getElem?_map,List.getElem?_eq_getElem hi];simp[List.getD,hi]
  rw[List.getElem?_take,if_pos (by omega)] at h5
  simpa using h5
theorem Ws.cell {w:World}{g cap:Nat}{zs:List Int}(h:Ws w g cap zs){i:Nat}(hi:i<zs.length):w.cell? ⟨g,i,none⟩=some (.int .i64 (zs.getD i 0)):=by
 obtain⟨cur,hg,_,_,_,h4⟩:=h
 rw[cell_of_row w g i _ _ _ hg,h4 i hi]
theorem Ws.lt {w:World}{g cap:Nat}{zs:List Int}(h:Ws w g cap zs):g<w.heap.size:=by
 obtain⟨cur,hg,_⟩:=h
 exact ac hg
theorem Ws.keep {S:Nat→Prop}{w w':World}{g cap:Nat}{zs:List Int}(h:Ws w g cap zs)(t:Turned S w w')(hs:¬S g):Ws w' g cap zs:=by
 obtain⟨cur,hg,q⟩:=h
 exact⟨cur,(t.block g (ac hg) hs).trans hg,q⟩
theorem Ws.more {w w':World}{g cap:Nat}{zs:List Int}(h:Ws w g cap zs)(t:ae w w'):Ws w' g cap zs:=by
 obtain⟨cur,hg,q⟩:=h
 exact⟨cur,t.block hg,q⟩
theorem Ws.words {w:World}{g cap:Nat}{zs:List Int}(h:Ws w g cap zs):jW w (some ⟨g,0,none⟩) zs :=
 .inr ⟨g,0,rfl,h.lt,fun i hi=>by rw[Nat.zero_add];exact h.cell hi⟩
section
variable {P:Program}{ops:Array Oper}{md:Region.Mode}{C:World→Prop}{Q:Exit→Act→World→Prop}
def bM (P:Program)(ops:Array Oper)(C:World→Prop)(o:Oper)(v:Value)(a:Act):Prop :=
 (Region.wanted o (yielded ops a.tmps)=true∧∀w,C w→(execOp a.eval o).run P w=.ok (.value v) w) ∨
 (Region.wanted o (yielded ops a.tmps)=false∧v=undef)
theorem bM.wpOp {i:Nat}{o:Oper}{v:Value}{a:Act}(hi:ops[i]?=some o)(hy:bM P ops C o v a)
 {K:Act→World→Prop} {w:World} (hC:C w) (h:K (a.put o.dst v) w):wpOp P ops Q i K a w:=by
 unfold Go.wpOp
 simp only[hi]
 rcases hy with⟨hw,hv⟩|⟨hw,rfl⟩
 ·simp only[hw,if_true,Oper.wp,hv w hC,Oper.upon];exact .inl h
 ·simp only[hw,Bool.false_eq_true,if_false];exact h
theorem bM.of_same {o:Oper}{v:Value}{a a':Act}(hy:bM P ops C o v a)(he:execOp a'.eval o=execOp a.eval o)
 (hw:Region.wanted o (yielded ops a'.tmps)=Region.wanted o (yielded ops a.tmps)):bM P ops C o v a':=by
 unfold bM at *
 rw[he,hw]
 exact hy
theorem qC {j:Nat}{oi oj:Oper}{v:Value}(hj:ops[j]?=some oj)(hap:oi.apart ops oj=true)
 (hsi:∀cs b,oi.op≠ .select cs b) (hsj:∀cs b,oj.op≠ .select cs b)
 (hQ:∀c a w,Q (.panic c) (a.put oi.dst v) w→Q (.panic c) a w) {K:Act→World→Prop} {a:Act} {w:World}
 (hy:bM P ops C oi v a) (h:wpOp P ops Q j K (a.put oi.dst v) w):
 wpOp P ops Q j (fun a' w'=>bM P ops C oi v a'∧K (a'.put oi.dst v) w') a w:=by
 obtain⟨h1,h2,h3⟩:=Oper.apart_spec hap
 have keep:∀(a:Act),bM P ops C oi v a→∀u,bM P ops C oi v (a.put oj.dst u):=fun a hy u =>
  hy.of_same (execOp_put oi hsi a oj.dst u h3) (wanted_put oi a oj.dst u h3)
 have keepD:∀d,bM P ops C oi v { a with defers:=d::a.defers } :=fun d=>hy.of_same rfl rfl
 unfold wpOp at *
 simp only[hj] at *
 rw[wanted_put oj a oi.dst v h1] at h
 split
 ·rename_i hw
  simp only[hw,if_true] at h
  rcases h with h|⟨hasks,hlets⟩
  case inr=>exact .inr ⟨by unfold Oper.asks at *;rw[execOp_put oj hsj a oi.dst v h1] at hasks;exact hasks,hlets⟩
  refine .inl ?_
  unfold Oper.wp at *
  rw[execOp_put oj hsj a oi.dst v h1] at h
  generalize (execOp a.eval oj).run P w=r at *
  cases r with
  |ok n w' =>
   cases n<;>simp only[Oper.upon] at h⊢
   case value u=>exact⟨keep a hy u,by rw[←Act.put_comm a v u h2];exact h⟩
   case skip=>exact⟨keep a hy _,by rw[←Act.put_comm a v undef h2];exact h⟩
   case defer d =>
    refine⟨keep _ (keepD d) _,?_⟩
    rw[←Act.put_comm _ v undef h2,←Act.put_defers]
    exact h
   case enter f args =>
    refine Calls.mono h fun e w'' he=>?_
    cases e with
    |returned u=>exact⟨keep a hy u,by rw[←Act.put_comm a v u h2];exact he⟩
    |panicked c=>exact hQ _ _ _ he
    |outgrown=>exact he
   case row row args=>exact Rows.mono h fun u w'' he=>⟨keep a hy u,by rw[←Act.put_comm a v u h2];exact he⟩
  |halt x w' =>
   cases x<;>simp only[Oper.upon] at h⊢
   case panic u=>exact hQ _ _ _ h
 ·rename_i hw
  simp only[hw] at h
  exact⟨keep a hy _,by rw[←Act.put_comm a v undef h2];exact h⟩
def dg (P:Program)(md:Region.Mode)(ops:Array Oper)(C:World→Prop)(Q:Exit→Act→World→Prop):Nat→Array Bool→Act→World→Prop
 | 0,d,a,w=>Region.ready md ops d= []∧Q .normal a w
 |f+1,d,a,w=>(Region.ready md ops d= []→Q .normal a w)∧∀i∈Region.ready md ops d,wpOp P ops Q i (fun a' w'=>C w'∧dg P md ops C Q f (d.setIfInBounds i true) a' w') a w
theorem GR:∀(f:Nat) (d:Array Bool) (a:Act) (w:World),dg P md ops C Q f d a w→wpAny P md ops Q f d a w:=by
 intro f
 induction f with
 |zero=>intro d a w h;exact h
 |succ f ih=>intro d a w h;exact⟨h.1,fun i hi=>wpOp_mono (fun a' w' z=>ih _ a' w' z.2) (h.2 i hi)⟩
theorem AU {i:Nat}{oi:Oper}{v:Value}(hi:ops[i]?=some oi)(hsel:∀(j:Nat)(o:Oper) cs b,ops[j]?=some o→o.op≠ .select cs b)
 (hQ:∀c a w,Q (.panic c) (a.put oi.dst v) w→Q (.panic c) a w):
 ∀(fuel:Nat) (listed:Array Bool) (a:Act) (w:World),C w →
  (∀j oj,ops[j]?=some oj→j≠i→listed.getD j true=false→(∀e∈oj.after,Region.binds md e=true→e.on≠i)→oi.apart ops oj=true) →
  i∈Region.ready md ops listed→bM P ops C oi v a →
  dg P md ops C Q fuel (listed.setIfInBounds i true) (a.put oi.dst v) w→dg P md ops C Q (fuel+1) listed a w:=by
 intro fuel
 induction fuel with
 |zero =>
  intro listed a w hC _ hr hy H
  refine⟨fun h=>(by rw[h] at hr;cases hr),fun j hj=>?_⟩
  by_cases hji:j=i
  ·subst hji;exact hy.wpOp hi hC ⟨hC,H⟩
  ·have:=ready_mono hj hji
   rw[H.1] at this
   cases this
 |succ fuel ih =>
  intro listed a w hC hfree hr hy H
  refine⟨fun h=>(by rw[h] at hr;cases hr),fun j hj=>?_⟩
  by_cases hji:j=i
  ·subst hji;exact hy.wpOp hi hC ⟨hC,H⟩
  ·have h1:=H.2 j (ready_mono hj hji)
   obtain⟨hjun,oj,hoj,hall⟩:=mem_ready.1 hj
   have hnot:∀e∈oj.after,Region.binds md e=true→e.on≠i:=fun e he hb heq=>by
    have h1:=hall e he hb
    have h0:=(mem_ready.1 hr).1
    rw[heq] at h1
    rcases Nat.lt_or_ge i listed.size with h'|h'
    ·simp[h'] at h0 h1;rw[h0] at h1;cases h1
    ·simp[Array.getElem?_eq_none h'] at h1
   have h2:=qC hoj (hfree j oj hoj hji hjun hnot) (fun cs b=>hsel i oi cs b hi) (fun cs b=>hsel j oj cs b hoj) hQ hy h1
   have hfree':∀k ok,ops[k]?=some ok→k≠i→(listed.setIfInBounds j true).getD k true=false →
    (∀e∈ok.after,Region.binds md e=true→e.on≠i)→oi.apart ops ok=true:=fun k ok hk hki hun hno=>by
    refine hfree k ok hk hki ?_ hno
    by_cases hjk:j=k
    ·subst hjk;exact hjun
    ·rw[getD_set_ne true hjk] at hun;exact hun
   refine wpOp_mono (fun a' w' h3=>⟨h3.2.1,ih (listed.setIfInBounds j true) a' w' h3.2.1 hfree' (ready_mono hr (Ne.symm hji)) h3.1 ?_⟩) h2
   rw[Array.setIfInBounds_comm _ _ hji]
   exact h3.2.2
theorem Ej {i:Nat}{oi:Oper}{v:Value}{fuel:Nat}{listed:Array Bool}{a:Act}{w:World}(hi:ops[i]?=some oi)
 (hs:Region.noSelect ops=true) (hf:Region.free md ops listed i=true) (hr:(Region.ready md ops listed).contains i=true)
 (hQ:∀c a w,Q (.panic c) (a.put oi.dst v) w→Q (.panic c) a w) (hC:C w) (hy:bM P ops C oi v a)
 (h:dg P md ops C Q fuel (listed.setIfInBounds i true) (a.put oi.dst v) w):dg P md ops C Q (fuel+1) listed a w :=
 AU hi (Region.noSelect_spec hs) hQ fuel listed a w hC (Region.free_spec hi hf) (by simpa using hr) hy h
theorem gv {i:Nat}{oi:Oper}{v:Value}{fuel:Nat}{listed:Array Bool}{a:Act}{w:World}(d:Option Tmp)(hi:ops[i]?=some oi)(hd:oi.dst=d)
 (hs:Region.noSelect ops=true) (hf:Region.free md ops listed i=true) (hr:(Region.ready md ops listed).contains i=true)
 (hQ:∀c a w,Q (.panic c) (a.put d v) w→Q (.panic c) a w) (hC:C w) (hy:bM P ops C oi v a)
 (h:dg P md ops C Q fuel (listed.setIfInBounds i true) (a.put d v) w):dg P md ops C Q (fuel+1) listed a w:=by
 subst hd;exact Ej hi hs hf hr hQ hC hy h
theorem yI {i:Nat}{o:Oper}{fuel:Nat}{listed:Array Bool}{a:Act}{w:World}(hr:Region.ready md ops listed= [i])(hi:ops[i]?=some o)(hw:Region.wanted o (yielded ops a.tmps)=true)
 (h:Oper.wp P o a w (fun a' w'=>C w'∧dg P md ops C Q fuel (listed.setIfInBounds i true) a' w') Q):dg P md ops C Q (fuel+1) listed a w:=by
 refine⟨fun q=>(by rw[hr] at q;cases q),fun j hj=>?_⟩
 rw[hr] at hj
 obtain rfl:j=i:=by simpa using hj
 unfold Go.wpOp
 simp only[hi,hw,if_true]
 exact .inl h
theorem bU {fuel:Nat}{listed:Array Bool}{a:Act}{w:World}(hr:Region.ready md ops listed= [])(h:Q .normal a w):dg P md ops C Q fuel listed a w:=by
 cases fuel with
 |zero=>exact⟨hr,h⟩
 |succ f=>exact⟨fun _=>h,fun i hi=>(by rw[hr] at hi;cases hi)⟩
theorem aD {o:Oper}{a:Act}(hw:Region.wanted o (yielded ops a.tmps)=true)(ty:TypeId)(x:Operand)(ho:o.op=.load ty x)(g:Nat)(hx:a.eval x=.pointer (some ⟨g,0,none⟩))(t:TypeId)(cs:Array Value)(fr:Nat×Nat)(d:TypeDesc)(hg:∀w,C w→w.heap[g]?=some (.cells cs t fr))
 (hu:P.underlying ty=some d) (hd:(match d with| .struct _| .array _ _=>true|_=>false)=true) (hi:(P.info? ty).map (·.size)=some cs.size):bM P ops C o (.agg cs) a:=by
 refine .inl ⟨hw,fun w hC=>?_⟩
 unfold execOp
 simp only[ho,hx,Instr.loadAt,Instr.sureAddr,Sem.run_bind,Sem.run_pure,Result.andThen_ok,run_loadVar_row w g t ty cs fr d (hg w hC) hu hd hi]
end
theorem aO {P:Program}{ops:Array Oper}{id:Nat}{a:Act}{w:World}{Q:Exit→Act→World→Prop}(C:World→Prop)(hm:P.follows .mixedOrders=true)
 (h:dg P .any ops C Q ops.size (Array.replicate ops.size false) a { w with drawn:=w.drawn+1 }):(Code.region id ops true).wp P Q a w:=wp_region_any hm (GR _ _ _ _ h)
end Go.Proofs.YtddmeghbmdfgeaaGreatDoor
