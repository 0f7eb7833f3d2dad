/-
  Regions that draw their order: what an operation there yields, or comes to; what is known of a frame.
-/
import Derived.Test.YtddmeghbmdfgeaaGreatDoorFtAf
import Derived.Test.YtddmeghbmdfgeaaGreatDoorFtAe
import Derived.ScopeJumps
import Derived.WalkMore
set_option maxRecDepth 100000
set_option maxHeartbeats 8000000
set_option linter.all false
namespace Go.Proofs.YtddmeghbmdfgeaaGreatDoor
open Go.RowKit
section
variable {P:Program}{o:Oper}{a:Act}{w:World}{K:Act→World→Prop}{Q:Exit→Act→World→Prop}
theorem Nv {f:Nat}{ts:Array TypeId}(ho:o.op=.call { callee:= .value (.func f),args:= #[],argTypes:=ts })(he:∀(vs:Array Value)(w:World),Sem.run P (callFunc f vs) w=.ok (.enter f vs) w)
 (h:Calls P f #[] w (fun| .returned v,w''=>K (a.put o.dst v) w''| .panicked ch,w''=>Q (.panic ch) a w''| .outgrown,_=>LetsOut Q)):o.wp P a w K Q:=by
 have hv:a.eval (.func f)=.func (.func f) #[] #[]:=rfl
 unfold Oper.wp Oper.upon
 generalize hρ:a.eval=ρ at hv⊢
 simp[execOp,ho,resolve,invoke,hv,he,Sem.run_bind,Result.andThen,go_sem]
 exact h
theorem nr {f:Nat}{x0:Operand}{v0:Value}{ts:Array TypeId}(ho:o.op=.call { callee:= .value (.func f),args:= #[x0],argTypes:=ts })(h0:a.eval x0=v0)(he:∀(vs:Array Value)(w:World),Sem.run P (callFunc f vs) w=.ok (.enter f vs) w)
 (h:Calls P f #[v0] w (fun| .returned v,w''=>K (a.put o.dst v) w''| .panicked ch,w''=>Q (.panic ch) a w''| .outgrown,_=>LetsOut Q)):o.wp P a w K Q:=by
 have hv:a.eval (.func f)=.func (.func f) #[] #[]:=rfl
 unfold Oper.wp Oper.upon
 generalize hρ:a.eval=ρ at h0 hv⊢
 simp[execOp,ho,resolve,invoke,hv,h0,he,Sem.run_bind,Result.andThen,go_sem]
 exact h
theorem bO {f:Nat}{x0 x1:Operand}{v0 v1:Value}{ts:Array TypeId}(ho:o.op=.call { callee:= .value (.func f),args:= #[x0,x1],argTypes:=ts })(h0:a.eval x0=v0)(h1:a.eval x1=v1)(he:∀(vs:Array Value)(w:World),Sem.run P (callFunc f vs) w=.ok (.enter f vs) w)
 (h:Calls P f #[v0,v1] w (fun| .returned v,w''=>K (a.put o.dst v) w''| .panicked ch,w''=>Q (.panic ch) a w''| .outgrown,_=>LetsOut Q)):o.wp P a w K Q:=by
 have hv:a.eval (.func f)=.func (.func f) #[] #[]:=rfl
 unfold Oper.wp Oper.upon
 generalize hρ:a.eval=ρ at h0 h1 hv⊢
 simp[execOp,ho,resolve,invoke,hv,h0,h1,he,Sem.run_bind,Result.andThen,go_sem]
 exact h
end
theorem Ek {P:Program}{md:Region.Mode}{ops:Array Oper}{Q:Exit→Act→World→Prop}{n:Nat}{dn:Array Bool}{a:Act}{w:World} (Φ:World→Prop)(ch:List PanicEntry)(fin:∀a w,a.defers= []→Φ w→Q (.panic ch) a w)(h:∀Q':Exit→Act→World→Prop,(∀a w,a.defers= []→Φ w→Q' (.panic ch) a w)→wpAny P md ops Q' n dn a w):wpAny P md ops Q n dn a w:=h Q fin
def AG (m:Nat)(a:Act)(L:List (Nat×Value)):Prop:=(m≤a.tmps.size∧a.defers= [])∧∀q∈L,a.eval (.tmp q.1)=q.2
theorem AG.put {m:Nat}{a:Act}{L:List (Nat×Value)}(h:AG m a L)(d:Nat)(v:Value)(hd:d<m)(hn:L.all (fun q=>q.1 != d)=true):AG m (a.put (some d) v) ((d,v)::L):=by
 have hs:=h.1.1
 refine⟨⟨by simp[Act.put];exact hs,h.1.2⟩,?_⟩
 intro q hq
 rcases List.mem_cons.1 hq with rfl|hq
 ·have hlt:d<a.tmps.size:=by omega
  simp[Act.put,Act.eval,Array.getD,hlt]
 ·rw[Act.eval_put (by have:=List.all_eq_true.1 hn q hq;simp at this;rintro _ ⟨⟩;simp[this])]
  exact h.2 q hq
theorem AG.get {m:Nat}{a:Act}{L:List (Nat×Value)}(h:AG m a L)(i:Nat){k:Nat}{v:Value}(hm:L[i]?=some (k,v)):a.eval (.tmp k)=v:=h.2 (k,v) (List.mem_of_getElem? hm)
theorem JY {P:Program}{md:Region.Mode}{ops:Array Oper}{Q:Exit→Act→World→Prop}{n:Nat}{dn:Array Bool}{A:Act}{W:World}(m:Nat)(L:List (Nat×Value))(hA:AG m A L)(h:∀a,AG m a L→wpAny P md ops Q n dn a W):wpAny P md ops Q n dn A W:=h A hA
section
variable {P:Program}{o:Oper}{a:Act}{w:World}{K:Act→World→Prop}{Q:Exit→Act→World→Prop}
theorem dE {f:Nat}{x0 x1 x2:Operand}{v0 v1 v2:Value}{ts:Array TypeId}(ho:o.op=.call { callee:= .value (.func f),args:= #[x0,x1,x2],argTypes:=ts })(h0:a.eval x0=v0)(h1:a.eval x1=v1)(h2:a.eval x2=v2)(he:∀(vs:Array Value)(w:World),Sem.run P (callFunc f vs) w=.ok (.enter f vs) w)
 (h:Calls P f #[v0,v1,v2] w (fun| .returned v,w''=>K (a.put o.dst v) w''| .panicked ch,w''=>Q (.panic ch) a w''| .outgrown,_=>LetsOut Q)):o.wp P a w K Q:=by
 have hv:a.eval (.func f)=.func (.func f) #[] #[]:=rfl
 unfold Oper.wp Oper.upon
 generalize hρ:a.eval=ρ at h0 h1 h2 hv⊢
 simp[execOp,ho,resolve,invoke,hv,h0,h1,h2,he,Sem.run_bind,Result.andThen,go_sem]
 exact h
theorem El {xf:Operand}{f:Nat}{clo:Array Value}{x0:Operand}{v0:Value}{ts:Array TypeId}(ho:o.op=.call { callee:= .value xf,args:= #[x0],argTypes:=ts })(hf:a.eval xf=.func (.func f) #[] clo)(h0:a.eval x0=v0)(he:∀(vs:Array Value)(w:World),Sem.run P (callFunc f vs) w=.ok (.enter f vs) w)
 (h:Calls P f (#[v0]++clo) w (fun| .returned v,w''=>K (a.put o.dst v) w''| .panicked ch,w''=>Q (.panic ch) a w''| .outgrown,_=>LetsOut Q)):o.wp P a w K Q:=by
 unfold Oper.wp Oper.upon
 generalize hρ:a.eval=ρ at h0 hf⊢
 simp[execOp,ho,resolve,invoke,hf,h0,he,Sem.run_bind,Result.andThen,go_sem]
 exact h
end
theorem bL {P:Program}{md:Region.Mode}{ops:Array Oper}{C:World→Prop}{Q:Exit→Act→World→Prop}{f:Nat}{d:Array Bool}{a:Act}{w:World} (Φ:Act→World→Prop) (Ψ:World→Prop)(ch:List PanicEntry)(fp:∀a w,a.defers= []→Ψ w→Q (.panic ch) a w)(fq:∀c a k v w,Q (.panic c) (Act.put a (some k) v) w→Q (.panic c) a w)(fn:∀a w,Φ a w→Q .normal a w)
 (h:∀Q':Exit→Act→World→Prop,(∀a w,Φ a w→Q' .normal a w)→(∀a w,a.defers= []→Ψ w→Q' (.panic ch) a w)→(∀c a k v w,Q' (.panic c) (Act.put a (some k) v) w→Q' (.panic c) a w)→dg P md ops C Q' f d a w):dg P md ops C Q f d a w:=h Q fn fp fq
theorem JZ {P:Program}{md:Region.Mode}{ops:Array Oper}{C:World→Prop}{Q:Exit→Act→World→Prop}{n:Nat}{dn:Array Bool}{A:Act}{W:World}(m:Nat)(L:List (Nat×Value))(hA:AG m A L)(h:∀a,AG m a L→dg P md ops C Q n dn a W):dg P md ops C Q n dn A W:=h A hA
theorem AG.getD {m:Nat}{a:Act}{L:List (Nat×Value)}(h:AG m a L)(i:Nat){k:Nat}{v:Value}(hm:L[i]?=some (k,v)):a.tmps[k]?.getD undef=v:=by
 have:=h.get i hm
 simpa [Act.eval] using this
section
variable {P:Program}{ops:Array Oper}{md:Region.Mode}{C:World→Prop}{Q:Exit→Act→World→Prop}
theorem cG {o:Oper}{tmps:Array Value}(g:Nat)(b:Bool)(d:Tmp)(hg:o.guard=some (g,b))(hd:(ops[g]?).bind (·.dst)=some d)(h:tmps[d]?=some (.bool b)):Region.wanted o (yielded ops tmps)=true:=by
 simp[Region.wanted,hg,yielded,hd,h]
theorem ab {o:Oper}{f:Nat→Option Bool}(hg:o.guard=none):Region.wanted o f=true:=by simp[Region.wanted,hg]
theorem AG.at {m:Nat}{a:Act}{L:List (Nat×Value)}(h:AG m a L){k:Nat}(hk:k<m)(i:Nat){v:Value}(hm:L[i]?=some (k,v)):a.tmps[k]?=some v:=by
 have h1:=h.getD i hm
 have hl:k<a.tmps.size:=Nat.lt_of_lt_of_le hk h.1.1
 rw[Array.getElem?_eq_getElem hl] at h1⊢
 simpa using h1
theorem bT {o:Oper}{a:Act}{v:Value}(hw:Region.wanted o (yielded ops a.tmps)=true)(x:Operand)(ho:o.op=.move x)(hx:a.eval x=v):bM P ops C o v a :=
 .inl ⟨hw,fun w _=>by unfold execOp;simp only[ho,hx];rfl⟩
theorem Lt {o:Oper}{a:Act}{b:Bool}{x:Operand}(hw:Region.wanted o (yielded ops a.tmps)=true)(ho:o.op=.unOp .not 4 x)(hx:a.eval x=.bool b):bM Tryz.prog ops C o (.bool (!b)) a :=
 .inl ⟨hw,fun w _=>by unfold execOp;generalize a.eval=ρ at hx⊢;simp only[ho,hx];go_simp⟩
theorem eG {o:Oper}{a:Act}{v:Value}{x y z:Operand}(hw:Region.wanted o (yielded ops a.tmps)=true)(ho:o.op=.pick x y z)(hx:a.eval x=.bool true)(hy:a.eval y=v):bM Tryz.prog ops C o v a :=
 .inl ⟨hw,fun w _=>by unfold execOp;generalize a.eval=ρ at hx hy⊢;simp only[ho,hx,hy];go_simp⟩
theorem bo {i:Nat}{o:Oper}{fuel:Nat}{listed:Array Bool}{a:Act}{w:World}(d:Option Tmp)(hr:Region.ready md ops listed= [i])(hi:ops[i]?=some o)(hw:Region.wanted o (yielded ops a.tmps)=true)(hd:o.dst=d)
 (h:∀K:Act→World→Prop,(∀v w',C w'→dg P md ops C Q fuel (listed.setIfInBounds i true) (a.put d v) w'→K (a.put o.dst v) w')→Oper.wp P o a w K Q):dg P md ops C Q (fuel+1) listed a w:=by
 subst hd
 exact yI hr hi hw (h _ (fun v w' hc hA=>⟨hc,hA⟩))
theorem gG {i:Nat}{o:Oper}{fuel:Nat}{listed:Array Bool}{a:Act}{w:World}(hr:Region.ready md ops listed= [i])(hr2:Region.ready md ops (listed.setIfInBounds i true)= [])(hi:ops[i]?=some o)(hw:Region.wanted o (yielded ops a.tmps)=true)
 (h:∀K:Act→World→Prop,(∀v w',C w'→Q .normal (a.put o.dst v) w'→K (a.put o.dst v) w')→Oper.wp P o a w K Q):dg P md ops C Q (fuel+1) listed a w :=
 yI hr hi hw (h _ (fun v w' hc hq=>⟨hc,bU hr2 hq⟩))
variable {o:Oper}{a:Act}{w:World}{K:Act→World→Prop}
theorem jH {f:Nat}{x0 x1 x2 x3 x4:Operand}{v0 v1 v2 v3 v4:Value}{ts:Array TypeId}(ho:o.op=.call { callee:= .value (.func f),args:= #[x0,x1,x2,x3,x4],argTypes:=ts })(h0:a.eval x0=v0)(h1:a.eval x1=v1)(h2:a.eval x2=v2)(h3:a.eval x3=v3)(h4:a.eval x4=v4)(he:∀(vs:Array Value)(w:World),Sem.run P (callFunc f vs) w=.ok (.enter f vs) w)
 (h:Calls P f #[v0,v1,v2,v3,v4] w (fun| .returned v,w''=>K (a.put o.dst v) w''| .panicked ch,w''=>Q (.panic ch) a w''| .outgrown,_=>LetsOut Q)):o.wp P a w K Q:=by
 have hv:a.eval (.func f)=.func (.func f) #[] #[]:=rfl
 unfold Oper.wp Oper.upon
 generalize hρ:a.eval=ρ at h0 h1 h2 h3 h4 hv⊢
 simp[execOp,ho,resolve,invoke,hv,h0,h1,h2,h3,h4,he,Sem.run_bind,Result.andThen,go_sem]
 exact h
theorem iD {x y:Operand}(ho:o.op=.store 4 x y)(g:Nat)(hx:a.eval x=.pointer (some ⟨g,0,none⟩))(b:Bool)(hy:a.eval y=.bool b)(v:Value)(hb:w.heap[g]?=some (.cells #[v] 4 (0,0)))(h:K (a.put o.dst undef) (w.setCell ⟨g,0,none⟩ (.bool b))):Oper.wp Tryz.prog o a w K Q:=by
 obtain⟨hc,hf,hl⟩:w.cell? ⟨g,0,none⟩=some v∧w.frozen? ⟨g,0,none⟩=false∧g<w.heap.size:=⟨by simp[World.cell?,hb],by simp[World.frozen?,hb],ac hb⟩
 unfold Oper.wp Oper.upon execOp
 simp only[ho,hx,hy]
 go_simp
 exact h
end
section
variable {P:Program}{ops:Array Oper}{md:Region.Mode}{C:World→Prop}{Q:Exit→Act→World→Prop}{o:Oper}{a:Act}{v:Value}
theorem dz {tmps:Array Value}(g:Nat)(b:Bool)(d:Tmp)(hg:o.guard=some (g,b))(hd:(ops[g]?).bind (·.dst)=some d)(h:tmps[d]?=some (.bool (!b))):Region.wanted o (yielded ops tmps)=false:=by
 cases b<;>simp[Region.wanted,hg,yielded,hd,h]
theorem Nw {tmps:Array Value}(g:Nat)(b:Bool)(d:Tmp)(hg:o.guard=some (g,b))(hd:(ops[g]?).bind (·.dst)=some d)(h:tmps[d]?=some undef):Region.wanted o (yielded ops tmps)=false:=by
 cases b<;>simp[Region.wanted,hg,yielded,hd,h,undef]
theorem cK (hw:Region.wanted o (yielded ops a.tmps)=false):bM P ops C o undef a:= .inr ⟨hw,rfl⟩
theorem kl {x y z:Operand}(hw:Region.wanted o (yielded ops a.tmps)=true)(ho:o.op=.pick x y z)(hx:a.eval x=.bool false)(hz:a.eval z=v):bM Tryz.prog ops C o v a :=
 .inl ⟨hw,fun w _=>by unfold execOp;generalize a.eval=ρ at hx hz⊢;simp only[ho,hx,hz];go_simp⟩
theorem dV (hw:Region.wanted o (yielded ops a.tmps)=true)(x:Operand)(ho:o.op=.load 3 x)(g:Nat)(hx:a.eval x=.pointer (some ⟨g,0,none⟩))(z:Int)(hg:∀w,C w→w.heap[g]?=some (.cells #[.int .i64 z] 3 (0,0))):bM Tryz.prog ops C o (.int .i64 z) a :=
 .inl ⟨hw,fun w hC=>by
  have hl:(loadVar 3 ⟨g,0,none⟩).run Tryz.prog w=.ok (.int .i64 z) w:=eN Tryz.underlying3 rfl (by simp[World.cell?,hg w hC])
  unfold execOp
  simp only[ho,hx,Instr.loadAt,Instr.sureAddr,Sem.run_bind,Sem.run_pure,Result.andThen_ok,hl]⟩
theorem gR {x y:Operand}{u z:Int}(hw:Region.wanted o (yielded ops a.tmps)=true)(ho:o.op=.binOp .add 3 x y 3)(hx:a.eval x=.int .i64 u)(hy:a.eval y=.int .i64 z)(t:Int)(hq:IntKind.i64.wrap (u+z)=t):bM Tryz.prog ops C o (.int .i64 t) a :=
 .inl ⟨hw,fun w _=>by unfold execOp;generalize a.eval=ρ at hx hy⊢;simp only[ho,hx,hy];subst hq;go_simp⟩
theorem yJ {x y:Operand}{u z:Int}(hw:Region.wanted o (yielded ops a.tmps)=true)(ho:o.op=.binOp .eql 3 x y 3)(hx:a.eval x=.int .i64 u)(hy:a.eval y=.int .i64 z)(b:Bool)(hb:(u==z)=b):bM Tryz.prog ops C o (.bool b) a :=
 .inl ⟨hw,fun w _=>by unfold execOp;generalize a.eval=ρ at hx hy⊢;simp only[ho,hx,hy];subst hb;go_simp⟩
variable {w:World}{K:Act→World→Prop}
theorem py {f:Nat}{x0 x1 x2 x3:Operand}{v0 v1 v2 v3:Value}{ts:Array TypeId}(ho:o.op=.call { callee:= .value (.func f),args:= #[x0,x1,x2,x3],argTypes:=ts })(h0:a.eval x0=v0)(h1:a.eval x1=v1)(h2:a.eval x2=v2)(h3:a.eval x3=v3)(he:∀(vs:Array Value)(w:World),Sem.run P (callFunc f vs) w=.ok (.enter f vs) w)
 (h:Calls P f #[v0,v1,v2,v3] w (fun| .returned v,w''=>K (a.put o.dst v) w''| .panicked ch,w''=>Q (.panic ch) a w''| .outgrown,_=>LetsOut Q)):o.wp P a w K Q:=by
 have hv:a.eval (.func f)=.func (.func f) #[] #[]:=rfl
 unfold Oper.wp Oper.upon
 generalize hρ:a.eval=ρ at h0 h1 h2 h3 hv⊢
 simp[execOp,ho,resolve,invoke,hv,h0,h1,h2,h3,he,Sem.run_bind,Result.andThen,go_sem]
 exact h
end
section
variable {P:Program}{ops:Array Oper}{md:Region.Mode}{C:World→Prop}{Q:Exit→Act→World→Prop}
theorem kE {i j:Nat}{oi oj:Oper}{fuel:Nat}{listed:Array Bool}{a:Act}{w:World}(di dj:Option Tmp)(hr:Region.ready md ops listed= [i,j])(hi:ops[i]?=some oi)(hj:ops[j]?=some oj)(wi:Region.wanted oi (yielded ops a.tmps)=true)(wj:Region.wanted oj (yielded ops a.tmps)=true)(hdi:oi.dst=di)(hdj:oj.dst=dj)
 (h1:∀K:Act→World→Prop,(∀v w',C w'→dg P md ops C Q fuel (listed.setIfInBounds i true) (a.put di v) w'→K (a.put oi.dst v) w')→Oper.wp P oi a w K Q)
 (h2:∀K:Act→World→Prop,(∀v w',C w'→dg P md ops C Q fuel (listed.setIfInBounds j true) (a.put dj v) w'→K (a.put oj.dst v) w')→Oper.wp P oj a w K Q):dg P md ops C Q (fuel+1) listed a w:=by
 subst hdi
 subst hdj
 refine⟨fun q=>(by rw[hr] at q;cases q),fun k hk=>?_⟩
 rw[hr] at hk
 rcases List.mem_cons.1 hk with rfl|hk
 ·unfold Go.wpOp
  simp only[hi,wi,if_true]
  exact .inl (h1 _ (fun v w' hc hA=>⟨hc,hA⟩))
 ·obtain rfl:=List.mem_singleton.1 hk
  unfold Go.wpOp
  simp only[hj,wj,if_true]
  exact .inl (h2 _ (fun v w' hc hA=>⟨hc,hA⟩))
theorem cR {o:Oper}{a:Act}{v:Value}(hw:Region.wanted o (yielded ops a.tmps)=true)(x:Operand)(ho:o.op=.assign x)(hx:a.eval x=v):bM P ops C o v a :=
 .inl ⟨hw,fun w _=>by unfold execOp;simp only[ho,hx];rfl⟩
theorem AG.sub {m:Nat}{a:Act}{L L':List (Nat×Value)}(h:AG m a L)(hs:∀q∈L',q∈L):AG m a L':=⟨h.1,fun q hq=>h.2 q (hs q hq)⟩
variable {o:Oper}{a:Act}{w:World}{K:Act→World→Prop}
theorem Em {x:Operand}(ho:o.op=.buildSlice 29 1 #[(0,x)])(z:Int)(hx:a.eval x=.int .i64 z)(h:K (a.put o.dst (.slice (some ⟨w.heap.size,0,none⟩) 1 1)) (w.alloc (.cells #[.int .i64 z] 3))):Oper.wp Tryz.prog o a w K Q:=by
 unfold Oper.wp Oper.upon execOp
 simp only[ho]
 generalize a.eval=ρ at hx⊢
 go_simp
 exact h
theorem J1 {base g:Nat}{v:Value}{xs:List Int}(y:Int)(s x:Operand)
 (ho:o.op=.call { callee:= .builtin .append,args:= #[s,x],argTypes:= #[29,29] })
 (hs:a.eval s=v) (hn:Rw base w v xs) (hb:base≤w.heap.size) (hl:xs.length≤1000000)
 (hx:a.eval x=.slice (some ⟨g,0,none⟩) 1 1) (hg:w.heap[g]?=some (.cells #[.int .i64 y] 3 (0,0)))
 (h:∀v' w',Rw base w' v' (xs++ [y])→Turned (fun k=>v.ownBlock=some k) w w'→(∀k,v'.ownBlock=some k→v.ownBlock=some k∨k=w.heap.size)→K (a.put o.dst v') w'):o.wp Tryz.prog a w K Q:=by
 obtain⟨i,i1,i2,i3,i4⟩:=kB
 refine wp_append_lies w s x 29 ho base 3 i _ 1 8 Tryz.underlying29 i1 i2 i3 i4 rfl (by omega) v xs.length _ hs hn ⟨g,0,none⟩ 1 1 [.int .i64 y] hx (by simp)
  (fun j u hu=>World.news_of_block hg j u (by simpa using hu)) (by intro u hu;simp at hu;subst hu;rfl) (by omega) (by simp only[maxLen];omega) (by omega) hb _ rfl ?_
 intro g' cap w1 hown hgrow h4 _
 have ht:Turned (fun k=>v.ownBlock=some k) w w1:=⟨hgrow.os,hgrow.tape,hgrow.output,hgrow.size,fun k hk hne=>hgrow.block k hk (fun e=>hne e.symm)⟩
 refine h _ w1 ?_ ht (fun k q=>?_)
 ·unfold Rw
  rw[List.length_append,List.map_append]
  exact hown
 ·have:k=g':=by simpa [Value.ownBlock,eq_comm] using q
  subst this
  exact h4
end
section
variable {P:Program}{ops:Array Oper}{C:World→Prop}{o:Oper}{a:Act}
theorem fd (hw:Region.wanted o (yielded ops a.tmps)=true)(ty:TypeId)(x:Operand)(ho:o.op=.load ty x)(g i:Nat)(hx:a.eval x=.pointer (some ⟨g,i,none⟩))(v:Value)(d:TypeDesc)(hu:P.underlying ty=some d)(hd:(match d with| .struct _| .array _ _=>true|_=>false)=false)(hg:∀w,C w→w.cell? ⟨g,i,none⟩=some v):bM P ops C o v a :=
 .inl ⟨hw,fun w hC=>by
  have hl:(loadVar ty ⟨g,i,none⟩).run P w=.ok v w:=eN hu hd (hg w hC)
  unfold execOp
  simp only[ho,hx,Instr.loadAt,Instr.sureAddr,Sem.run_bind,Sem.run_pure,Result.andThen_ok,hl]⟩
end
def Mp (md:Region.Mode)(ops:Array Oper)(listed:Array Bool)(i d m:Nat)(L:List (Nat×Value)):Bool:=Region.noSelect ops && (Region.free md ops listed i && ((Region.ready md ops listed).contains i && (decide (i<ops.size) && (((ops.getD i default).dst==some d) && (decide (d<m) && L.all (fun q=>q.1 != d))))))
section
variable {P:Program}{md:Region.Mode}{ops:Array Oper}{C:World→Prop}{Q:Exit→Act→World→Prop}{fuel:Nat}{listed:Array Bool}{a:Act}{w:World}{m:Nat}{L:List (Nat×Value)}
theorem tqC (i d:Nat)(v:Value)(hB:Mp md ops listed i d m L=true)(hQ:∀c a k v w,Q (.panic c) (Act.put a (some k) v) w→Q (.panic c) a w)(hC:C w)(HF:AG m a L)(hy:bM P ops C (ops.getD i default) v a)
 (h:∀A,Act.put a (some d) v=A→AG m A ((d,v)::L)→dg P md ops C Q fuel (listed.setIfInBounds i true) A w):dg P md ops C Q (fuel+1) listed a w:=by
 unfold Mp at hB
 simp only[Bool.and_eq_true] at hB
 obtain⟨h1,h2,h3,h4,h5,h6,h7⟩:=hB
 have h4:=of_decide_eq_true h4
 have hi:ops[i]?=some (ops.getD i default):=by rw[Array.getElem?_eq_getElem h4];simp[Array.getD,h4]
 exact gv (some d) hi (eq_of_beq h5) h1 h2 h3 (fun c a w=>hQ c a _ _ w) hC hy (h _ rfl (HF.put d v (of_decide_eq_true h6) h7))
theorem tqM (i d k:Nat){s:Nat}{v:Value}(hL:L[k]?=some (s,v))(ho:(ops.getD i default).op=.move (.tmp s)∨(ops.getD i default).op=.assign (.tmp s))(hg:(ops.getD i default).guard=none)(hB:Mp md ops listed i d m L=true)(hQ:∀c a k v w,Q (.panic c) (Act.put a (some k) v) w→Q (.panic c) a w)(hC:C w)(HF:AG m a L)
 (h:∀A,Act.put a (some d) v=A→AG m A ((d,v)::L)→dg P md ops C Q fuel (listed.setIfInBounds i true) A w):dg P md ops C Q (fuel+1) listed a w :=
 tqC i d v hB hQ hC HF (by
  rcases ho with ho|ho
  ·exact bT (ab hg) _ ho (HF.get k hL)
  ·exact cR (ab hg) _ ho (HF.get k hL)) h
def Oh (md:Region.Mode)(ops:Array Oper)(listed:Array Bool)(i d m:Nat)(L:List (Nat×Value)):Bool:=(Region.ready md ops listed== [i]) && (decide (i<ops.size) && ((ops.getD i default).guard.isNone && (((ops.getD i default).dst==some d) && (decide (d<m) && L.all (fun q=>q.1 != d)))))
theorem tqO (i d:Nat)(hB:Oh md ops listed i d m L=true)(HF:AG m a L)
 (h:∀K:Act→World→Prop,(∀v w',C w'→(∀A,Act.put a (some d) v=A→AG m A ((d,v)::L)→dg P md ops C Q fuel (listed.setIfInBounds i true) A w')→K (a.put (ops.getD i default).dst v) w')→Oper.wp P (ops.getD i default) a w K Q):dg P md ops C Q (fuel+1) listed a w:=by
 unfold Oh at hB
 simp only[Bool.and_eq_true] at hB
 obtain⟨h1,h2,h3,h5,h6,h7⟩:=hB
 have h4:=of_decide_eq_true h2
 have hi:ops[i]?=some (ops.getD i default):=by rw[Array.getElem?_eq_getElem h4];simp[Array.getD,h4]
 exact bo (some d) (eq_of_beq h1) hi (ab (Option.isNone_iff_eq_none.1 h3)) (eq_of_beq h5) fun K hK=>h K fun v w' hc hA=>hK v w' hc (hA _ rfl (HF.put d v (of_decide_eq_true h6) h7))
end
abbrev pts (A:Act)(l:List (Nat×Value)):Act:=l.foldl (fun a q=>a.put (some q.1) q.2) A
open Go.Sort Go.Maps Go.Shelf
theorem Oi {c:Cfg}(R:c.Ok)(w:World):Calls Tryz.prog 32 #[.agg c.cells] w (aQ w (.tuple #[.agg c.arr,.int .i64 0])):=Gf c.wk c.cp c.pg c.st c.tr c.wt c.ck c.pr c.ca c.bi c.ba w R
theorem GT {c:Cfg}(R:c.Ok)(w:World):Calls Tryz.prog 72 #[.agg c.cells] w (aQ w (.int .i64 c.words)):=Mo c.wk c.cp c.pg c.st c.tr c.wt c.ck c.pr c.ca c.bi c.ba w R
theorem En (c:Cfg)(W:World):(Instr.build 73 #[(0,.agg c.cells)]).run Tryz.prog W=.ok (.agg c.cells) W:=run_build W _ _ _ (by kernel_rfl)
theorem il (c:Cfg):c.cells.all (·.oneCell')=true:=by simp[Cfg.cells,Value.oneCell']
theorem ns (c:Cfg):c.arr.all (·.oneCell')=true:=k6 ..
theorem AV {ops:Array Oper}{rest:List Oper}{o:Oper}{a:Act}{w:World}{Q:Exit→Act→World→Prop}(hw:Region.wanted o (yielded ops a.tmps)=true)(x:Operand)(ho:o.op=.build 73 #[(0,x)])(c:Cfg)
 (hx:a.eval x=.agg c.cells) (h:wpList Tryz.prog ops Q rest (a.put o.dst (.agg c.cells)) w):wpList Tryz.prog ops Q (o::rest) a w :=
 dU hw fun K hK=>by
  have hb:=En c w
  unfold Oper.wp execOp
  simp only[ho,List.map_toArray,List.map_cons,List.map_nil,hx,Sem.run_bind,hb,Result.andThen_ok]
  exact hK _ _ h
theorem yK {P:Program}{fn:Func}{p q u:Tmp}{tp tq:TypeId}(h:fn.results= #[.cell p tp,.cell q tq,.tmp u])(tmps:Array Value)(w:World)(g g':Nat)(v v':Value)(hp:tmps.getD p undef=.pointer (some ⟨g,0,none⟩))(hq:tmps.getD q undef=.pointer (some ⟨g',0,none⟩))
 (h1:(loadVar tp ⟨g,0,none⟩).run P w=.ok v w) (h2:(loadVar tq ⟨g',0,none⟩).run P w=.ok v' w):(results fn tmps).run P w=.ok (.tuple #[v,v',tmps.getD u undef]) w:=by
 have hp':tmps[p]?.getD undef=.pointer (some ⟨g,0,none⟩):=by simpa using hp
 have hq':tmps[q]?.getD undef=.pointer (some ⟨g',0,none⟩):=by simpa using hq
 simp[results,h,asAddr,hp',hq',h1,h2,Sem.run_bind,Result.andThen]
def GU (w:World)(c:Cfg)(e:Ending)(w':World):Prop :=
 ∃(g n:Nat),(n:Int)=c.words∧e=.returned (.tuple #[.agg c.arr,.agg c.cells,.slice (some ⟨g,0,none⟩) n n])∧Rw w.heap.size w' (.slice (some ⟨g,0,none⟩) n n) (cQ n)∧ae w w'
section
variable {P:Program}{o:Oper}{a:Act}{w:World}{K:Act→World→Prop}{Q:Exit→Act→World→Prop}
theorem sV {f:Nat}{x0:Operand}{v0:Value}{ts:Array TypeId}(ho:o.op=.call { callee:= .value (.func f),args:= #[x0],argTypes:=ts })(h0:a.eval x0=v0)(he:∀(vs:Array Value)(w:World),Sem.run P (callFunc f vs) w=.ok (.enter f vs) w)
 (h:Calls P f #[v0] w (fun| .returned v,w''=>K (a.put o.dst v) w''| .panicked ch,w''=>Q (.panic ch) a w''| .outgrown,_=>LetsOut Q)):o.wp P a w K Q:=by
 have hv:a.eval (.func f)=.func (.func f) #[] #[]:=rfl
 unfold Oper.wp Oper.upon
 generalize hρ:a.eval=ρ at h0 hv⊢
 simp[execOp,ho,resolve,invoke,hv,h0,he,Sem.run_bind,Result.andThen,go_sem]
 exact h
theorem xd {t e:TypeId}{x:Operand}(ho:o.op=.makeSlice t x x){n:Nat}{L:Int}(hx:a.eval x=.int .i64 L)(hL:L=(n:Int))(i:TypeInfo)(z:Value)(h1:P.underlying t=some (.slice e))(h2:P.info? e=some i)(h3:i.zero=some z)(h4:i.size=1)(b2:i.bytes * n≤281474976710656)(b3:n≤maxLen)
 (h:∀w',w'.ownsRow w.heap.size e 1 (.slice (some ⟨w.heap.size,0,none⟩) n n) n (madeCells z.cells (n * 1)).toList→w.grownBy w' none→K (a.put o.dst (.slice (some ⟨w.heap.size,0,none⟩) n n)) w'):o.wp P a w K Q:=by
 obtain⟨w',hrun,r1,r2⟩:=run_make_full (P:=P) (w:=w) w.heap.size t e i z 1 h1 h2 h3 h4 .i64 .i64 n b2 b3 (Nat.le_refl _)
 subst hL
 unfold Oper.wp Oper.upon
 generalize hρ:a.eval=ρ at hx⊢
 simp[execOp,ho,hx,hrun,Result.andThen,Sem.run_bind]
 exact h w' r1 r2
theorem qD {x:Operand}(ho:o.op=.assign x){v:Value}(hx:a.eval x=v)(h:K (a.put o.dst v) w):o.wp P a w K Q:=by
 unfold Oper.wp execOp
 simp only[ho,hx]
 exact h
theorem dL {md:Region.Mode}{ops:Array Oper}{fuel:Nat}{listed:Array Bool}{i:Nat}{rs:List Nat}(d:Option Tmp)(ho:ops[i]?=some o)(hg:o.guard=none)(hd:o.dst=d)
 (h:∀K':Act→World→Prop,(∀v w,wpAny P md ops Q fuel (listed.setIfInBounds i true) (a.put d v) w→K' (a.put o.dst v) w)→Oper.wp P o a w K' Q)
 (hs:AllReady P md ops Q fuel listed a w rs):AllReady P md ops Q fuel listed a w (i::rs):=
 AllReady.cons ho (fun K hK=>by
  rw[if_pos (by simp[Region.wanted,hg])]
  exact h K fun v w' q=>hK _ _ (by rw[hd];exact q)) hs
end
def AF (a:Act)(L:List (Nat×Value)):Prop:=(22≤a.tmps.size∧a.defers= [])∧∀q∈L,a.eval (.tmp q.1)=q.2
structure BS (w w6:World)(d:Cfg)(x1 x2:Array Value)(W:World):Prop where
 a1:W.heap[w6.heap.size]?=some (.cells d.arr 28 (0,0))
 a2:W.heap[w6.heap.size+1]?=some (.cells d.cells 73 (0,0))
 r1:W.heap[w.heap.size+1]?=some (.cells x1 28 (0,0))
 r2:W.heap[w.heap.size+2]?=some (.cells x2 73 (0,0))
 more:ae w W
 s6:w.heap.size+3≤w6.heap.size
theorem BS.step {w w6 W W':World}{d:Cfg}{x1 x2:Array Value}(h:BS w w6 d x1 x2 W)(m:ae W W'):BS w w6 d x1 x2 W':=⟨m.block h.a1,m.block h.a2,m.block h.r1,m.block h.r2,h.more.trans m,h.s6⟩
theorem BS.put1 {w w6 W:World}{d:Cfg}{x1 x2:Array Value}(h:BS w w6 d x1 x2 W)(ys:Array Value):BS w w6 d ys x2 (W.setRow (w.heap.size+1) ys):=
 ⟨(setRow_other _ _ _ _ (by have:=h.s6;omega)).trans h.a1,(setRow_other _ _ _ _ (by have:=h.s6;omega)).trans h.a2,setRow_heap _ _ _ _ _ _ h.r1,(setRow_other _ _ _ _ (by omega)).trans h.r2,h.more.setRow _ _ (by omega),h.s6⟩
theorem BS.put2 {w w6 W:World}{d:Cfg}{x1 x2:Array Value}(h:BS w w6 d x1 x2 W)(ys:Array Value):BS w w6 d x1 ys (W.setRow (w.heap.size+2) ys):=
 ⟨(setRow_other _ _ _ _ (by have:=h.s6;omega)).trans h.a1,(setRow_other _ _ _ _ (by have:=h.s6;omega)).trans h.a2,(setRow_other _ _ _ _ (by omega)).trans h.r1,setRow_heap _ _ _ _ _ _ h.r2,h.more.setRow _ _ (by omega),h.s6⟩
theorem qE {w W:World}{g k n:Nat}{v:Value}{xs:List Int}{cs:Array Value}(h:Rw w.heap.size W v xs)(hk:∀g',v.ownBlock=some g'→g'≠k):Rw w.heap.size (W.setRow k cs) v xs:=by
 refine⟨h.1,?_⟩
 rcases h.2 with q|⟨g,cap,cur,h1,h2,h3,h4⟩
 ·exact .inl q
 ·exact .inr ⟨g,cap,cur,h1,h2,(setRow_other _ _ _ _ (hk g (by rw[h1];rfl))).trans h3,h4⟩
abbrev lm:Array Value:= #[.int .i64 0,.int .i64 0,.int .i64 0,.int .i64 0,.int .i64 0,.int .i64 0,.int .i64 0,.int .i64 0,.int .i64 0,.int .i64 0,.int .i64 0]
abbrev gw:Array Value:= #[.int .i64 0,.int .i64 0,.int .i64 0,.int .i64 0,.int .i64 0,.int .i64 0,.int .i64 0,.int .i64 0,.int .i64 0,.int .i64 0,.int .i64 0,.int .i64 0,.int .i64 0,.int .i64 0,.int .i64 0,.int .i64 0,.int .i64 0,.int .i64 0,.int .i64 0,.int .i64 0,.int .i64 0,.int .i64 0,.int .i64 0,.int .i64 0]
theorem Eo {c:Cfg}(R:c.Ok)(y0 y1 y2 y3 y4 y5 y6 y7 y8 y9 y10:Int)(w:World)(hS:∀W,Calls Tryz.prog 68 #[.agg #[.int .i64 y0,.int .i64 y1,.int .i64 y2,.int .i64 y3,.int .i64 y4,.int .i64 y5,.int .i64 y6,.int .i64 y7,.int .i64 y8,.int .i64 y9,.int .i64 y10]] W (aQ W (.agg #[.int .i64 c.wk,.int .i64 c.cp,.int .i64 c.pg,.int .i64 c.st,.int .i64 c.tr,.int .i64 c.wt,.int .i64 c.ck,.int .i64 c.pr,.int .i64 c.ca,.int .i64 c.bi,.int .i64 c.ba]))):
 Calls Tryz.prog 36 #[.agg #[.int .i64 y0,.int .i64 y1,.int .i64 y2,.int .i64 y3,.int .i64 y4,.int .i64 y5,.int .i64 y6,.int .i64 y7,.int .i64 y8,.int .i64 y9,.int .i64 y10]] w (GU w (lj c)):=by
 have S:=rh R
 have SM:=hQQ (fun W=>vB R y0 y1 y2 y3 y4 y5 y6 y7 y8 y9 y10 _ W hS rfl)
 generalize lj c=d at S SM⊢
 have RR:=hQQ S.ok
 obtain⟨wd0,wd1⟩:=S.words
 clear hS R S
 obtain⟨n,hn⟩:∃n:Nat,(n:Int)=d.words:=⟨d.words.toNat,by omega⟩
 obtain⟨i0,hi0,hz0,hz1,hz2⟩:=kB
 obtain⟨w3,e3,hb0,hb1,hb2,m3,s3⟩:=jD w (.cells #[.int .i64 y0,.int .i64 y1,.int .i64 y2,.int .i64 y3,.int .i64 y4,.int .i64 y5,.int .i64 y6,.int .i64 y7,.int .i64 y8,.int .i64 y9,.int .i64 y10] 23) (.cells gw 28) (.cells lm 73)
 have e4:((w.alloc (.cells #[.int .i64 y0,.int .i64 y1,.int .i64 y2,.int .i64 y3,.int .i64 y4,.int .i64 y5,.int .i64 y6,.int .i64 y7,.int .i64 y8,.int .i64 y9,.int .i64 y10] 23)).alloc (.cells #[.int .i64 0,.int .i64 0,.int .i64 0,.int .i64 0,.int .i64 0,.int .i64 0,.int .i64 0,.int .i64 0,.int .i64 0,.int .i64 0,.int .i64 0,.int .i64 0,.int .i64 0,.int .i64 0,.int .i64 0,.int .i64 0,.int .i64 0,.int .i64 0,.int .i64 0,.int .i64 0,.int .i64 0,.int .i64 0,.int .i64 0,.int .i64 0] 28)).alloc (.cells #[.int .i64 0,.int .i64 0,.int .i64 0,.int .i64 0,.int .i64 0,.int .i64 0,.int .i64 0,.int .i64 0,.int .i64 0,.int .i64 0,.int .i64 0] 73)=w3:=e3
 clear e3
 have H0:=hQQ hb0
 have H1:=hQQ hb1
 have H2:=hQQ hb2
 have M3:=hQQ m3
 clear hb0 hb1 hb2 m3
 go_enter Tryz.func36,Tryz.ntmps36
 go_wp2_with (refine sx rfl rfl rfl H0.o (by kernel_rfl) ?_)
 refine(SM.o _).mono ?_
 rintro e w4 ⟨rfl,m4⟩
 have H0:=hQQ (m4.block H0.o)
 have H1:=hQQ (m4.block H1.o)
 have H2:=hQQ (m4.block H2.o)
 have M4:=hQQ (M3.o.trans m4)
 have s4:w.heap.size+3≤w4.heap.size:=by have:=m4.size;omega
 clear m4
 go_wp2_with (first
  |(refine wpList_store_row rfl 23 _ _ rfl w.heap.size _ rfl rfl 23 _ H0.o (by kernel_rfl) rfl (il d) ?_)
  |(refine sx rfl rfl rfl (setRow_heap _ _ _ _ _ _ H0.o) (by kernel_rfl) ?_))
 have K0:=hQQ (setRow_heap w4 w.heap.size _ d.cells _ _ H0.o)
 have K1:=hQQ ((setRow_other w4 w.heap.size (w.heap.size+1) d.cells (by omega)).trans H1.o)
 have K2:=hQQ ((setRow_other w4 w.heap.size (w.heap.size+2) d.cells (by omega)).trans H2.o)
 have M5:Hq (ae w (w4.setRow w.heap.size d.cells)):=hQQ (M4.o.setRow _ _ (Nat.le_refl _))
 have s5:w.heap.size+3≤(w4.setRow w.heap.size d.cells).heap.size:=by simpa using s4
 clear H0 H1 H2 M4 s4
 generalize w4.setRow w.heap.size d.cells=w5 at K0 K1 K2 M5 s5⊢
 refine(Oi RR.o _).mono ?_
 rintro e w6 ⟨rfl,m6⟩
 have A1:=aW w6 gw 28
 have L0:=hQQ (m6.block K0.o)
 have L1:=hQQ (m6.block K1.o)
 have L2:=hQQ (m6.block K2.o)
 have M6:=hQQ (M5.o.trans m6)
 have s6:w.heap.size+3≤w6.heap.size:=by have:=m6.size;omega
 clear K0 K1 K2 M5 s5 m6
 have m7:ae w6 ((w6.alloc (.cells gw 28)).setRow w6.heap.size d.arr):=((ae.refl w6).alloc _).setRow _ _ (Nat.le_refl _)
 have B1:=hQQ (setRow_heap _ _ _ d.arr _ _ A1)
 have B0:=hQQ (m7.block L0.o)
 have B2:=hQQ (m7.block L1.o)
 have B3:=hQQ (m7.block L2.o)
 have M7:=hQQ (M6.o.trans m7)
 have s7:((w6.alloc (.cells gw 28)).setRow w6.heap.size d.arr).heap.size=w6.heap.size+1:=by simp
 go_wp2_with (first
  |(refine wpList_store_row rfl 28 _ _ rfl w6.heap.size _ rfl rfl 28 gw A1 (by kernel_rfl) rfl (ns d) ?_)
  |(refine sx rfl rfl rfl B0.o (by kernel_rfl) ?_)
  |((with_reducible refine AV ?_ (.tmp 15) ?_ d ?_ ?_);rfl;rfl;rfl)
  |(refine wpList_store_row rfl 73 _ _ rfl (w6.heap.size+1) _ rfl rfl 73 lm (by rw[←s7];exact aW _ _ _) (by kernel_rfl) rfl (il d) ?_))
 generalize hw7:World.setRow (World.alloc w6 _) w6.heap.size d.arr=w7
 have F7:w7.heap.size=w6.heap.size+1:=by rw[←hw7];exact s7
 have A7:=aW w7 lm 73
 have m7':ae w6 w7:=by rw[←hw7];exact m7
 have G1:w7.heap[w6.heap.size]?=some (.cells d.arr 28 (0,0)):=by rw[←hw7];exact B1.o
 rw[F7] at A7
 generalize hw8:World.setRow (World.alloc w7 _) (w6.heap.size+1) d.cells=w8
 have m8:ae w7 w8:=by rw[←hw8];exact((ae.refl w7).alloc _).setRow _ _ (by omega)
 have m68:=m7'.trans m8
 have N1:=hQQ (m8.block G1)
 have N2:Hq (w8.heap[w6.heap.size+1]?=some (.cells d.cells 73 (0,0))):=hQQ (by rw[←hw8];exact setRow_heap _ _ _ _ _ _ A7)
 have N3:=hQQ (m68.block L1.o)
 have N4:=hQQ (m68.block L2.o)
 have M8:=hQQ (M6.o.trans m68)
 have s8:w6.heap.size+2≤w8.heap.size:=ac N2.o
 clear hw7 hw8 m7 m7' G1 A7 F7 m8 m68 B0 B1 B2 B3 M7 s7 A1 L0 L1 L2 M6 SM
 have HEN:=enters_of Tryz.func72 (by kernel_rfl) rfl
 have hmx:Tryz.prog.follows .mixedOrders=true:=by kernel_rfl
 have HBY:i0.bytes * n≤281474976710656:=by rw[hz2];omega
 have HML:n≤maxLen:=by unfold maxLen;omega
 have HMK:Hq (∀(W W3:World) (x1 x2:Array Value),BS w w6 d x1 x2 W→W3.ownsRow W.heap.size 3 1 (.slice (some ⟨W.heap.size,0,none⟩) n n) n (madeCells (Value.int .i64 0).cells (n * 1)).toList→W.grownBy W3 none→BS w w6 d x1 x2 W3∧Rw w.heap.size W3 (.slice (some ⟨W.heap.size,0,none⟩) n n) (cQ n)∧w.heap.size+3≤W.heap.size):=hQQ fun W W3 x1 x2 hb q1 q2=>by
  have m:ae W W3:=⟨q2.os,q2.tape,q2.output,q2.size,fun k hk _=>q2.block k hk (by simp)⟩
  have:=hb.s6
  have:=ac hb.a1
  rw[AR] at q1
  refine⟨hb.step m,?_,by omega⟩
  unfold Rw
  rw[kD]
  exact ra q1 (by omega)
 refine aO (fun W=>∃x1 x2,BS w w6 d x1 x2 W) hmx ?_
 have BB:BS w w6 d gw lm (w8.drewN 1):=⟨N1.o,N2.o,N3.o,N4.o,M8.o.drewN 1,by omega⟩
 clear N1 N2 N3 N4 M8 wd0 wd1 hz2
 change dg _ _ _ _ _ _ _ _ (w8.drewN 1)
 generalize w8.drewN 1=W2 at BB⊢
 refine bL (fun a W=>a.eval (.tmp 2)=.pointer (some ⟨w.heap.size+1,0,none⟩)∧a.eval (.tmp 3)=.pointer (some ⟨w.heap.size+2,0,none⟩)∧∃g,a.eval (.tmp 4)=.slice (some ⟨g,0,none⟩) n n∧Rw w.heap.size W (.slice (some ⟨g,0,none⟩) n n) (cQ n)∧BS w w6 d d.arr d.cells W∧a.defers= []) (fun _=>False) [] (fun a W hd h=>h.elim) (fun _ _ _ _ _ h=>h) ?_ ?_
 ·rintro a W ⟨t2,t3,g,t4,RG,BB,hdf⟩
  go_wp2_with fail
  have h4:a.tmps.getD 4 undef=.slice (some ⟨g,0,none⟩) n n:=t4
  refine bodyPost_ret (yK Tryz.results36 _ _ (w.heap.size+1) (w.heap.size+2) _ _ t2 t3 (run_loadVar_row _ _ _ _ _ _ _ BB.r1 Tryz.underlying28 rfl (by kernel_rfl)) (run_loadVar_row _ _ _ _ _ _ _ BB.r2 Tryz.underlying73 rfl (by kernel_rfl))) hdf ?_
  exact⟨g,n,hn,by rw[h4],RG,BB.more⟩
 intro QQ FIN FIND FINQ
 refine JZ 22 [(5,.pointer (some ⟨w6.heap.size,0,none⟩)),(7,.pointer (some ⟨w6.heap.size+1,0,none⟩)),(2,.pointer (some ⟨w.heap.size+1,0,none⟩)),(3,.pointer (some ⟨w.heap.size+2,0,none⟩))] ⟨⟨Nat.le_of_ble_eq_true rfl,rfl⟩,?_⟩ (fun A HF=>?_)
 ·intro q hq
  simp only[List.mem_cons,List.not_mem_nil,or_false] at hq
  rcases hq with rfl|rfl|rfl|rfl<;>rfl
 refine gv (i:=0) (v:=.agg d.arr) (some 17) rfl rfl (by kernel_rfl) (by kernel_rfl) (by kernel_rfl) (fun c a w=>FINQ c a _ _ w) ⟨_,_,BB⟩ (by exact aD (C:=(fun W=>∃x1 x2,BS w w6 d x1 x2 W)) (ab rfl) 28 _ rfl (w6.heap.size) (HF.get 0 rfl) 28 _ _ _ (fun W hW=>by obtain⟨_,_,h⟩:=hW;exact h.a1) Tryz.underlying28 rfl (by kernel_rfl)) ?_
 replace HF:=HF.put 17 (.agg d.arr) (by decide) rfl
 generalize Act.put _ _ _=A at HF⊢
 refine gv (i:=1) (v:=.agg d.cells) (some 18) rfl rfl (by kernel_rfl) (by kernel_rfl) (by kernel_rfl) (fun c a w=>FINQ c a _ _ w) ⟨_,_,BB⟩ (by exact aD (C:=(fun W=>∃x1 x2,BS w w6 d x1 x2 W)) (ab rfl) 73 _ rfl (w6.heap.size+1) (HF.get 2 rfl) 73 _ _ _ (fun W hW=>by obtain⟨_,_,h⟩:=hW;exact h.a2) Tryz.underlying73 rfl (by kernel_rfl)) ?_
 replace HF:=HF.put 18 (.agg d.cells) (by decide) rfl
 generalize Act.put _ _ _=A at HF⊢
 refine gv (i:=2) (v:=.agg d.cells) (some 19) rfl rfl (by kernel_rfl) (by kernel_rfl) (by kernel_rfl) (fun c a w=>FINQ c a _ _ w) ⟨_,_,BB⟩ (by exact aD (C:=(fun W=>∃x1 x2,BS w w6 d x1 x2 W)) (ab rfl) 73 _ rfl (w6.heap.size+1) (HF.get 3 rfl) 73 _ _ _ (fun W hW=>by obtain⟨_,_,h⟩:=hW;exact h.a2) Tryz.underlying73 rfl (by kernel_rfl)) ?_
 replace HF:=HF.put 19 (.agg d.cells) (by decide) rfl
 generalize Act.put _ _ _=A at HF⊢
 refine bo (i:=3) (some 20) (by kernel_rfl) rfl (ab rfl) rfl (fun K hK=>?_)
 refine sV (v0:=.agg d.cells) rfl (HF.get 0 rfl) HEN ?_
 refine(GT RR.o _).mono ?_
 rintro e W4 ⟨rfl,m2⟩
 have BB:=BB.step m2
 clear m2
 refine hK _ _ ⟨_,_,BB⟩ ?_
 clear hK K
 replace HF:=HF.put 20 (.int .i64 d.words) (by decide) rfl
 generalize Act.put _ _ _=A at HF⊢
 refine kE (i:=4) (j:=5) (some 21) none (by kernel_rfl) rfl rfl (ab rfl) (ab rfl) rfl rfl (fun K hK=>?_) (fun K hK=>?_)
 ·refine xd (n:=n) rfl (HF.get 0 rfl) hn.symm i0 (.int .i64 0) Tryz.underlying29 hi0 hz0 hz1 HBY HML ?_
  intro W3 q1 q2
  obtain⟨BB,RG,HGn⟩:=HMK.o _ _ _ _ BB q1 q2
  clear q1 q2
  generalize HGG:W4.heap.size=GG at RG HGn⊢
  refine hK _ _ ⟨_,_,BB⟩ ?_
  clear hK K
  replace HF:=HF.put 21 (.slice (some ⟨GG,0,none⟩) n n) (by decide) rfl
  generalize Act.put _ _ _=A at HF⊢
  refine bo (i:=5) none (by kernel_rfl) rfl (ab rfl) rfl (fun K hK=>?_)
  refine wp_store_row 28 _ _ rfl (w.heap.size+1) _ (HF.get 7 rfl) (HF.get 4 rfl) 28 gw BB.r1 (by kernel_rfl) rfl (ns d) ?_
  have RG:=qE (k:=w.heap.size+1) (cs:=d.arr) (g:=0) (n:=0) RG (fun g' q=>by cases q;show GG≠_;omega)
  have BB:=BB.put1 d.arr
  refine hK _ _ ⟨_,_,BB⟩ ?_
  clear hK K
  rw[show ∀(a:Act) (v:Value),a.put none v=a from fun _ _=>rfl]
  generalize World.setRow _ _ _=W5 at BB RG⊢
  refine bo (i:=6) none (by kernel_rfl) rfl (ab rfl) rfl (fun K hK=>?_)
  refine wp_store_row 73 _ _ rfl (w.heap.size+2) _ (HF.get 8 rfl) (HF.get 3 rfl) 73 lm BB.r2 (by kernel_rfl) rfl (il d) ?_
  have RG:=qE (k:=w.heap.size+2) (cs:=d.cells) (g:=0) (n:=0) RG (fun g' q=>by cases q;show GG≠_;omega)
  have BB:=BB.put2 d.cells
  refine hK _ _ ⟨_,_,BB⟩ ?_
  clear hK K
  rw[show ∀(a:Act) (v:Value),a.put none v=a from fun _ _=>rfl]
  generalize World.setRow _ _ _=W6 at BB RG⊢
  refine bo (i:=7) (some 4) (by kernel_rfl) rfl (ab rfl) rfl (fun K hK=>?_)
  refine qD rfl (HF.get 0 rfl) ?_
  refine hK _ _ ⟨_,_,BB⟩ ?_
  clear hK K
  replace HF:=HF.put 4 (.slice (some ⟨GG,0,none⟩) n n) (by decide) rfl
  generalize Act.put _ _ _=A at HF⊢
  exact bU (by kernel_rfl) (FIN _ _ ⟨HF.get 8 rfl,HF.get 9 rfl,_,HF.get 0 rfl,RG,BB,HF.1.2⟩)
 ·refine wp_store_row 28 _ _ rfl (w.heap.size+1) _ (HF.get 6 rfl) (HF.get 3 rfl) 28 gw BB.r1 (by kernel_rfl) rfl (ns d) ?_
  have BB:=BB.put1 d.arr
  refine hK _ _ ⟨_,_,BB⟩ ?_
  clear hK K
  rw[show ∀(a:Act) (v:Value),a.put none v=a from fun _ _=>rfl]
  generalize World.setRow _ _ _=W5 at BB⊢
  refine kE (i:=4) (j:=6) (some 21) none (by kernel_rfl) rfl rfl (ab rfl) (ab rfl) rfl rfl (fun K hK=>?_) (fun K hK=>?_)
  ·refine xd (n:=n) rfl (HF.get 0 rfl) hn.symm i0 (.int .i64 0) Tryz.underlying29 hi0 hz0 hz1 HBY HML ?_
   intro W3 q1 q2
   obtain⟨BB,RG,HGn⟩:=HMK.o _ _ _ _ BB q1 q2
   clear q1 q2
   generalize HGG:W5.heap.size=GG at RG HGn⊢
   refine hK _ _ ⟨_,_,BB⟩ ?_
   clear hK K
   replace HF:=HF.put 21 (.slice (some ⟨GG,0,none⟩) n n) (by decide) rfl
   generalize Act.put _ _ _=A at HF⊢
   refine bo (i:=6) none (by kernel_rfl) rfl (ab rfl) rfl (fun K hK=>?_)
   refine wp_store_row 73 _ _ rfl (w.heap.size+2) _ (HF.get 8 rfl) (HF.get 3 rfl) 73 lm BB.r2 (by kernel_rfl) rfl (il d) ?_
   have RG:=qE (k:=w.heap.size+2) (cs:=d.cells) (g:=0) (n:=0) RG (fun g' q=>by cases q;show GG≠_;omega)
   have BB:=BB.put2 d.cells
   refine hK _ _ ⟨_,_,BB⟩ ?_
   clear hK K
   rw[show ∀(a:Act) (v:Value),a.put none v=a from fun _ _=>rfl]
   generalize World.setRow _ _ _=W6 at BB RG⊢
   refine bo (i:=7) (some 4) (by kernel_rfl) rfl (ab rfl) rfl (fun K hK=>?_)
   refine qD rfl (HF.get 0 rfl) ?_
   refine hK _ _ ⟨_,_,BB⟩ ?_
   clear hK K
   replace HF:=HF.put 4 (.slice (some ⟨GG,0,none⟩) n n) (by decide) rfl
   generalize Act.put _ _ _=A at HF⊢
   exact bU (by kernel_rfl) (FIN _ _ ⟨HF.get 8 rfl,HF.get 9 rfl,_,HF.get 0 rfl,RG,BB,HF.1.2⟩)
  ·refine wp_store_row 73 _ _ rfl (w.heap.size+2) _ (HF.get 7 rfl) (HF.get 2 rfl) 73 lm BB.r2 (by kernel_rfl) rfl (il d) ?_
   have BB:=BB.put2 d.cells
   refine hK _ _ ⟨_,_,BB⟩ ?_
   clear hK K
   rw[show ∀(a:Act) (v:Value),a.put none v=a from fun _ _=>rfl]
   generalize World.setRow _ _ _=W6 at BB⊢
   refine bo (i:=4) (some 21) (by kernel_rfl) rfl (ab rfl) rfl (fun K hK=>?_)
   refine xd (n:=n) rfl (HF.get 0 rfl) hn.symm i0 (.int .i64 0) Tryz.underlying29 hi0 hz0 hz1 HBY HML ?_
   intro W3 q1 q2
   obtain⟨BB,RG,HGn⟩:=HMK.o _ _ _ _ BB q1 q2
   clear q1 q2
   generalize HGG:W6.heap.size=GG at RG HGn⊢
   refine hK _ _ ⟨_,_,BB⟩ ?_
   clear hK K
   replace HF:=HF.put 21 (.slice (some ⟨GG,0,none⟩) n n) (by decide) rfl
   generalize Act.put _ _ _=A at HF⊢
   refine bo (i:=7) (some 4) (by kernel_rfl) rfl (ab rfl) rfl (fun K hK=>?_)
   refine qD rfl (HF.get 0 rfl) ?_
   refine hK _ _ ⟨_,_,BB⟩ ?_
   clear hK K
   replace HF:=HF.put 4 (.slice (some ⟨GG,0,none⟩) n n) (by decide) rfl
   generalize Act.put _ _ _=A at HF⊢
   exact bU (by kernel_rfl) (FIN _ _ ⟨HF.get 8 rfl,HF.get 9 rfl,_,HF.get 0 rfl,RG,BB,HF.1.2⟩)
def gS (pg st x y:Int)(ws:List Int):Int×List Int:=if cm pg x y then rU pg st (spanV x y) (x / 4) 0 ws else(0,ws)
def GV (pg st:Int)(ws:List Int):Int:=GJ pg st (aL pg).toNat 0 0 ws
section
variable {pg st:Int}{n:Nat}(H:TblIn pg st n)
include H
theorem yL (x y:Int):bZ n (fun _=>True) (gO pg st x y):=by
 unfold gO;split
 ·exact d8 (wV H _ _ 0 (by omega)) (fun _ _=>trivial)
 ·exact ai n trivial
theorem yM (x y:Int):ci n (gO pg st x y) (gS pg st x y):=by
 unfold gO
 split
 ·rename_i h
  exact aX (wY H _ _ 0) (fun ws _=>by unfold gS;rw[if_pos h])
 ·rename_i h
  exact aX (au n 0) (fun ws _=>by unfold gS;rw[if_neg h])
end
structure Off (pg st:Int)(ws ws':List Int):Prop where
 len:ws'.length=ws.length
 ok:OkW ws→OkW ws'
 eq:∀i:Int,0≤i→(∀k,bV pg k=true→i≠dY pg st k)→wAt ws' i=wAt ws i
structure OV (pg st:Int)(zs xs:List Int)(k:Nat):Prop where
 len:xs.length=zs.length
 eq:∀i:Int,0≤i→(∀j,bV pg j=true→(k:Int)≤j→i≠dY pg st j)→wAt xs i=wAt zs i
structure Ep (ws ws':List Int)(S:Int→Prop):Prop where
 len:ws'.length=ws.length
 eq:∀i:Int,0≤i→(S i→wAt ws' i=1)∧(¬S i→wAt ws' i=wAt ws i)
theorem Er (ws:List Int)(S:Int→Prop)(h:∀i,¬S i):Ep ws ws S:=⟨rfl,fun i _=>⟨fun q=>absurd q (h i),fun _=>rfl⟩⟩
theorem Es {pg st:Int}{n:Nat}(H:TblIn pg st n){ws a:List Int}{S:Int→Prop}(h:Ep ws a S)(hn:ws.length=n){k:Int}(hk:bV pg k=true):Ep ws (mg pg st k 1 a).2 (fun i=>S i∨i=dY pg st k):=by
 obtain⟨t0,t1,t2⟩:=pt H hk
 have hv:∀i:Int,0≤i→wAt (mg pg st k 1 a).2 i=if i=dY pg st k then 1 else wAt a i:=fun i h0=>by
  unfold mg
  rw[if_pos hk]
  split
  ·rename_i q
   have:wAt a (dY pg st k)=1:=by
    unfold bP at q;rw[hk] at q;simpa using q
   split
   ·rename_i e;rw[e];exact this
   ·rfl
  ·rw[show(fJ pg k,a.set (dY pg st k).toNat 1).2=a.set (dY pg st k).toNat 1 from rfl,dH (by omega) h0 (by rw[h.len,hn];exact t1)]
 refine⟨by rw[GK];exact h.len,fun i h0=>⟨fun q=>?_,fun q=>?_⟩⟩
 ·rw[hv i h0]
  split
  ·rfl
  ·rename_i e;exact(h.eq i h0).1 (q.resolve_right e)
 ·rw[hv i h0,if_neg (fun e=>q (.inr e))]
  exact(h.eq i h0).2 (fun r=>q (.inl r))
theorem yN {pg st:Int}{n:Nat}(H:TblIn pg st n)(m:Nat):∀(k s:Int) (ws a:List Int) (S:Int→Prop),ws.length=n→Ep ws a S→(∀i:Nat,i<m→bV pg (k+i)=true)→Ep ws (rU pg st m k s a).2 (fun i=>S i∨∃j:Nat,j<m∧i=dY pg st (k+j)):=by
 induction m with
 |zero =>
  intro k s ws a S hn h hc
  exact⟨h.len,fun i h0=>⟨fun q=>by rcases q with q|⟨j,hj,_⟩;exact(h.eq i h0).1 q;omega,fun q=>(h.eq i h0).2 (fun r=>q (.inl r))⟩⟩
 |succ m ih =>
  intro k s ws a S hn h hc
  have h1:=Es H h hn (by simpa using hc 0 (by omega))
  have h2:=ih (k+1) (s+(mg pg st k 1 a).1) ws _ _ hn h1 (fun i hi=>by have:=hc (i+1) (by omega);rwa [show k+((i+1:Nat):Int)=k+1+(i:Int) by omega] at this)
  refine⟨h2.len,fun i h0=>?_⟩
  have e:(S i∨∃j:Nat,j<m+1∧i=dY pg st (k+j))↔((S i∨i=dY pg st k)∨∃j:Nat,j<m∧i=dY pg st (k+1+j)):=by
   constructor
   ·rintro(q|⟨j,hj,q⟩)
    ·exact .inl (.inl q)
    ·cases j with
     |zero=>exact .inl (.inr (by simpa using q))
     |succ j=>exact .inr ⟨j,by omega,by rw[q];congr 1;omega⟩
   ·rintro((q|q)|⟨j,hj,q⟩)
    ·exact .inl q
    ·exact .inr ⟨0,by omega,by simpa using q⟩
    ·exact .inr ⟨j+1,by omega,by rw[q];congr 1;omega⟩
  exact⟨fun q=>(h2.eq i h0).1 (e.1 q),fun q=>(h2.eq i h0).2 (fun r=>q (e.2 r))⟩
theorem Oj (w:World)(x1 x2 y1 y2:Array Value)(t1 t2:TypeId):∃W,(((w.alloc (.cells x1 t1)).alloc (.cells x2 t2)).setRow w.heap.size y1).setRow (w.heap.size+1) y2=W ∧
 ((w.alloc (.cells x1 t1)).alloc (.cells x2 t2)).heap[w.heap.size]?=some (.cells x1 t1 (0,0))∧(((w.alloc (.cells x1 t1)).alloc (.cells x2 t2)).setRow w.heap.size y1).heap[w.heap.size+1]?=some (.cells x2 t2 (0,0)) ∧
 W.heap[w.heap.size]?=some (.cells y1 t1 (0,0))∧ae w W∧w.heap.size+2≤W.heap.size:=by
 have h0:=aW w x1 t1
 have s0:(w.alloc (.cells x1 t1)).heap.size=w.heap.size+1:=by simp
 have m0:ae w (w.alloc (.cells x1 t1)):=(ae.refl _).alloc _
 generalize w.alloc (.cells x1 t1)=w1 at h0 s0 m0⊢
 have h1:=aW w1 x2 t2
 rw[s0] at h1
 have s1:(w1.alloc (.cells x2 t2)).heap.size=w.heap.size+2:=by simp[s0]
 have m1:ae w1 (w1.alloc (.cells x2 t2)):=(ae.refl _).alloc _
 generalize w1.alloc (.cells x2 t2)=w2 at h1 s1 m1⊢
 have a0:=m1.block h0
 refine⟨_,rfl,a0,(setRow_other _ _ _ _ (by omega)).trans h1,(setRow_other _ _ _ _ (by omega)).trans (setRow_heap _ _ _ _ _ _ a0),((m0.trans m1).setRow _ _ (by omega)).setRow _ _ (by omega),?_⟩
 simp[s1]
theorem Et (w:World)(g k:Nat)(h:w.heap[g]?=some (.cells (pf (cQ k)) 3 (0,0))):jW w (some ⟨g,0,none⟩) (cQ k):=
 .inr ⟨g,0,rfl,ac h,fun i hi=>by
  rw[Nat.zero_add,cell_of_row w g i _ _ _ h]
  rw[kD] at hi
  simp[pf,cQ,hi]⟩
theorem sW (k:Nat)(hk:k≤1000000)(w:World):
 (Instr.makeSlice 29 (.int .i64 (k:Int)) (.int .i64 (k:Int))).run Tryz.prog w=.ok (.slice (some ⟨w.heap.size,0,none⟩) k k) (w.alloc (.cells (pf (cQ k)) 3)):=by
 obtain⟨i,hi,hz,hs,hb⟩:=kB
 have:=run_make (P:=Tryz.prog) w 29 3 i (.int .i64 0) Tryz.underlying29 hi hz .i64 .i64 k k (by omega) (by omega) (by rw[hb];omega) (by omega)
 rw[this]
 simp only[Int.toNat_natCast,hs,Nat.mul_one]
 have e:madeCells (Value.int .i64 0).cells k=pf (cQ k):=by
  apply Array.ext
  ·simp[size_madeCells,pf,cQ]
  ·intro j h1 h2
   simp[madeCells,pf,cQ,Value.cells,Nat.mod_one]
 rw[e]
def TrC (c:Cfg)(g1:Nat)(W:World):Prop:=W.heap[g1]?=some (.cells c.arr 28 (0,0))
structure TrY (c:Cfg)(g1 g2:Nat)(w:World):Prop where
 h1:w.heap[g1]?=some (.cells c.arr 28 (0,0))
 h2:∃b,fR g2 w b
def af (pg p:Int):Bool:=decide (0≤p) && decide (p<pg)
theorem ay {pg p:Int} :af pg p=true↔0≤p∧p<pg:=by simp[af]
theorem sX {pg p:Int} :af pg p=false↔¬(0≤p∧p<pg):=by
 cases h:af pg p with
 |true=>simp[ay.1 h]
 |false=>simp only[true_iff];intro q;rw[ay.2 q] at h;cases h
def kA (pg st p:Int):Int:=aY st+aL pg+p
def cA (pg st p:Int):Int:=aY st+aL pg+pg+p
def bA (pg st p:Int):Int:=aY st+aL pg+2 * pg+p
theorem Lu {pg st p:Int}(h:af pg p=true):dD pg st 0 p=kA pg st p:=by unfold dD kA;rw[if_pos (ay.1 h)];omega
theorem sY {pg st p:Int}(h:af pg p=true):dD pg st 1 p=cA pg st p:=by unfold dD cA;rw[if_pos (ay.1 h)];omega
theorem C7 {pg st p:Int}(h:af pg p=true):dD pg st 2 p=bA pg st p:=by unfold dD bA;rw[if_pos (ay.1 h)]
theorem Lv {pg st i p:Int}(h:af pg p=false):dD pg st i p=0:=by unfold dD;rw[if_neg (sX.1 h)]
def fC (pg st p:Int):Prg Int:=if af pg p then cT (kA pg st p) else az (-1)
def lT (pg st p k x:Int):Prg Unit:=aq (cU (kA pg st p) k) fun _=>aq (cU (cA pg st p) x) fun _=>cU (bA pg st p) 0
def pz (pg st:Int):Nat→Int→Prg Bool
 | 0,_=>az true
 |m+1,q=>aq (fC pg st q) (fun k=>if k=0 then pz pg st m (q+1) else az false)
def pA (pg st p n:Int):Prg Bool:=if cm pg p n then pz pg st n.toNat p else az false
def jd (pg st k:Int):Nat→Int→Prg Unit
 | 0,_=>az ()
 |m+1,q=>aq (lT pg st q k 0) fun _=>jd pg st k m (q+1)
def oG (k:Int):Bool:=decide (1≤k) && decide (k≤5)
theorem J2 {k:Int} :oG k=true↔1≤k∧k≤5:=by simp[oG]
def oH (k n:Int):Bool:=decide (k=6) ||(oG k && decide (n=1))
theorem J3 {k n:Int} :oH k n=true↔k=6∨(1≤k∧k≤5∧n=1):=by simp[oH,oG,and_assoc]
def jI (pg st p n k:Int):Prg Bool:=if oH k n then aq (pA pg st p n) (fun b=>if b then aq (gO pg st p n) (fun _=>aq (lT pg st p k (if k=6 then n else 0)) (fun _=>aq (jd pg st 7 (n-1).toNat (p+1)) (fun _=>az true))) else az false) else az false
def oc (pg st p:Int):Prg Int:=aq (fC pg st p) (fun k=>if oG k then az 1 else if k=6 then aq (cT (cA pg st p)) (fun x=>az (max 1 (min x (pg-p)))) else az 0)
def mj (pg st p:Int):Prg Int:=aq (oc pg st p) (fun n=>aq (jd pg st 0 n.toNat p) (fun _=>az n))
def mn (pg st q:Int):Prg Bool:=aq (fC pg st q) (fun k=>az (decide (k=0)))
def ms (pg st q:Int):Prg Bool:=aq (dS pg st (ofV q)) (fun b=>if b then mn pg st q else az false)
def km (f:Int→Prg Bool):Nat→Int→Prg (Option Int)
 | 0,_=>az none
 |m+1,q=>aq (f q) (fun b=>if b then km f m (q+1) else az (some q))
def jJ (f:Int→Prg Bool)(pg n step:Int):Nat→Int→Prg Int
 | 0,_=>az (-1)
 |m+1,p=>if p≤pg-n then aq (km f n.toNat p) (fun r=>match r with|none=>az p|some q=>jJ f pg n step m ((q / step+1) * step)) else az (-1)
def ny (f:Int→Prg Bool)(pg n step:Int):Prg Int:=jJ f pg n step (pg.toNat+1) 0
def i5 (pg st n step:Int):Prg Int:=if 1≤n∧1≤step then aq (ny (ms pg st) pg n step) (fun p=>if p= -1 then ny (mn pg st) pg n step else az p) else az (-1)
theorem lq (pg st p:Int):bH (fC pg st p):=aG (dl _) (ah _)
theorem vC (pg st p k x:Int):bH (lT pg st p k x):=ar (c6 _ _) (fun _=>ar (c6 _ _) (fun _=>c6 _ _))
theorem AW (pg st:Int)(m:Nat):∀q,bH (pz pg st m q):=by
 induction m with
 |zero=>intro q;exact ah _
 |succ m ih=>intro q;exact ar (lq _ _ _) (fun _=>aG (ih _) (ah _))
theorem Eu (pg st p n:Int):bH (pA pg st p n):=aG (AW _ _ _ _) (ah _)
theorem ta (pg st k:Int)(m:Nat):∀q,bH (jd pg st k m q):=by
 induction m with
 |zero=>intro q;exact ah _
 |succ m ih=>intro q;exact ar (vC _ _ _ _ _) (fun _=>ih _)
theorem AX (pg st p n k:Int):bH (jI pg st p n k):=
 aG (ar (Eu _ _ _ _) (fun _=>aG (ar (wW _ _ _ _) (fun _=>ar (vC _ _ _ _ _) (fun _=>ar (ta _ _ _ _ _) (fun _=>ah _)))) (ah _))) (ah _)
theorem Ev (pg st p:Int):bH (oc pg st p):=ar (lq _ _ _) (fun _=>aG (ah _) (aG (ar (dl _) (fun _=>ah _)) (ah _)))
theorem AY (pg st p:Int):bH (mj pg st p):=ar (Ev _ _ _) (fun _=>ar (ta _ _ _ _ _) (fun _=>ah _))
theorem td (pg st q:Int):bH (mn pg st q):=ar (lq _ _ _) (fun _=>ah _)
theorem A0 (pg st q:Int):bH (ms pg st q):=ar (pw _ _ _) (fun _=>aG (td _ _ _) (ah _))
theorem yO {f:Int→Prg Bool}(hf:∀q,bH (f q))(m:Nat):∀q,bH (km f m q):=by
 induction m with
 |zero=>intro q;exact ah _
 |succ m ih=>intro q;exact ar (hf q) (fun _=>aG (ih _) (ah _))
theorem ri {f:Int→Prg Bool}(hf:∀q,bH (f q))(pg n step:Int)(m:Nat):∀p,bH (jJ f pg n step m p):=by
 induction m with
 |zero=>intro q;exact ah _
 |succ m ih =>
  intro q
  refine aG (ar (yO hf _ _) (fun r=>?_)) (ah _)
  cases r with
  |none=>exact ah _
  |some q=>exact ih _
theorem te (pg st n step:Int):bH (i5 pg st n step):=aG (ar (ri (A0 pg st) _ _ _ _ _) (fun _=>aG (ri (td pg st) _ _ _ _ _) (ah _))) (ah _)
structure PgIn (pg st:Int)(n:Nat):Prop extends TblIn pg st n where
 top5:aY st+aL pg+5 * pg≤n
theorem aN {α:Type}{n:Nat}{Q:α→Prop}{c:Prop} [Decidable c] {p q:Prg α}(h1:c→bZ n Q p)(h2:¬c→bZ n Q q):bZ n Q (if c then p else q):=by
 split
 ·rename_i h;exact h1 h
 ·rename_i h;exact h2 h
section
variable {pg st:Int}{n:Nat}(H:PgIn pg st n)
include H
theorem cx {p:Int}(h:af pg p=true):(4≤kA pg st p∧kA pg st p<n∧W64 (kA pg st p))∧(4≤cA pg st p∧cA pg st p<n∧W64 (cA pg st p))∧(4≤bA pg st p∧bA pg st p<n∧W64 (bA pg st p)):=by
 have h0:=ay.1 h
 have h1:=H.st1;have h2:=H.st2;have h3:=H.top5;have h4:=H.pg1;have h5:=H.pg2
 unfold kA cA bA W64
 unfold aL aY at *
 omega
theorem gH (p:Int):bZ n W64 (fC pg st p):=
 aN (fun h=>a6 n (cx H h).1.2.1) (fun _=>ai n (by unfold W64;omega))
theorem pB {p:Int}(h:af pg p=true){k x:Int}(hk:W64 k)(hx:W64 x):bZ n (fun _=>True) (lT pg st p k x):=by
 obtain⟨⟨_,a1,a2⟩,⟨_,b1,b2⟩,_,c1,c2⟩:=cx H h
 exact aw (aR n a2 a1 hk) (fun _ _=>aw (aR n b2 b1 hx) (fun _ _=>aR n c2 c1 (by unfold W64;omega)))
theorem vD (m:Nat):∀q,bZ n (fun _=>True) (pz pg st m q):=by
 induction m with
 |zero=>intro q;exact ai n trivial
 |succ m ih=>intro q;exact aw (gH H q) (fun k _=>aN (fun _=>ih _) (fun _=>ai n trivial))
theorem qF {k:Int}(hk:W64 k)(m:Nat):∀q,(∀i:Nat,i<m→af pg (q+i)=true)→bZ n (fun _=>True) (jd pg st k m q):=by
 induction m with
 |zero=>intro q _;exact ai n trivial
 |succ m ih =>
  intro q h
  exact aw (pB H (by simpa using h 0 (by omega)) hk (by unfold W64;omega)) (fun _ _=>ih _ (fun i hi=>by have:=h (i+1) (by omega);rwa [show q+((i+1:Nat):Int)=q+1+(i:Int) by omega] at this))
theorem pC (x y:Int):bZ n (fun _=>True) (gO pg st x y):=yL H.toTblIn x y
theorem vE (p m k:Int)(hk:W64 k)(hm:W64 m):bZ n (fun _=>True) (jI pg st p m k):=by
 unfold jI pA
 refine aN (fun hf=>?_) (fun _=>ai n trivial)
 cases h:cm pg p m with
 |false=>exact aw (ai n (Q:=fun b:Bool=>b=false) rfl) (fun b hb=>by subst hb;exact ai n trivial)
 |true =>
  obtain⟨q0,q1,q2⟩:=d6.1 h
  have hx:W64 (if k=6 then m else 0):=by
   split
   ·exact hm
   ·unfold W64;omega
  exact aw (vD H _ _) (fun b _=>aN (fun _=>aw (pC H _ _) (fun _ _=>aw (pB H (ay.2 ⟨by omega,by omega⟩) hk hx) (fun _ _=>aw (qF H (by unfold W64;omega) _ _ (fun i hi=>ay.2 ⟨by omega,by omega⟩)) (fun _ _=>ai n trivial)))) (fun _=>ai n trivial))
theorem tf (p:Int):bZ n (fun x:Int=>x=0∨af pg p=true∧1≤x∧x≤pg-p) (oc pg st p):=by
 unfold oc fC
 cases h:af pg p with
 |false=>exact aw (ai n (Q:=fun k:Int=>k= -1) rfl) (fun k hk=>by subst hk;exact ai n (.inl rfl))
 |true =>
  have:=ay.1 h
  exact aw (a6 n (cx H h).1.2.1) (fun k _=>aN (fun _=>ai n (.inr ⟨rfl,by omega,by omega⟩)) (fun _=>aN (fun _=>aw (a6 n (cx H h).2.1.2.1) (fun x _=>ai n (.inr ⟨rfl,by omega,by omega⟩))) (fun _=>ai n (.inl rfl))))
theorem qG (p:Int):bZ n (fun x:Int=>0≤x∧x≤256) (mj pg st p):=by
 have h5:=H.pg2
 exact aw (tf H p) (fun x hx=>by
  have hb:∀i:Nat,i<x.toNat→af pg (p+i)=true:=fun i hi=>by
   rcases hx with rfl|⟨h,h1,h2⟩
   ·simp at hi
   ·have:=ay.1 h;exact ay.2 ⟨by omega,by omega⟩
  exact aw (qF H (by unfold W64;omega) _ _ hb) (fun _ _=>ai n (by
   rcases hx with rfl|⟨h,h1,h2⟩
   ·omega
   ·have:=ay.1 h;omega)))
theorem kF (q:Int):bZ n (fun _=>True) (mn pg st q):=aw (gH H q) (fun _ _=>ai n trivial)
theorem qH (q:Int):bZ n (fun _=>True) (ms pg st q):=aw (jZ H.toTblIn _) (fun b _=>aN (fun _=>kF H q) (fun _=>ai n trivial))
theorem A3 {f:Int→Prg Bool}(hf:∀q,bZ n (fun _=>True) (f q))(m:Nat):∀q:Int,bZ n (fun r:Option Int=>∀x,r=some x→q≤x∧x<q+m) (km f m q):=by
 induction m with
 |zero=>intro q;exact ai n (fun x h=>by cases h)
 |succ m ih=>intro q;exact aw (hf q) (fun b _=>aN (fun _=>d8 (ih _) (fun r hr x hx=>by have:=hr x hx;omega)) (fun _=>ai n (fun x hx=>by cases hx;omega)))
theorem oI {f:Int→Prg Bool}(hf:∀q,bZ n (fun _=>True) (f q))(m step:Int)(hm:1≤m)(hs:1≤step)(j:Nat):∀p:Int,0≤p→bZ n (fun x:Int=> -1≤x∧x<pg) (jJ f pg m step j p):=by
 have h4:=H.pg1
 induction j with
 |zero=>intro p _;exact ai n (by omega)
 |succ j ih =>
  intro p hp
  refine aN (fun h=>aw (A3 H hf _ _) (fun r hr=>?_)) (fun _=>ai n (by omega))
  cases r with
  |none=>exact ai n (by omega)
  |some q =>
   have:=hr q rfl
   refine ih _ (Int.mul_nonneg ?_ (by omega))
   have:=Int.ediv_nonneg (a:=q) (b:=step) (by omega) (by omega)
   omega
theorem kG (m step:Int):bZ n (fun x:Int=> -1≤x∧x<pg) (i5 pg st m step):=by
 have h4:=H.pg1
 exact aN (fun h=>aw (oI H (qH H) m step h.1 h.2 _ 0 (by omega)) (fun p hp=>aN (fun _=>oI H (kF H) m step h.1 h.2 _ 0 (by omega)) (fun _=>ai n hp))) (fun _=>ai n (by omega))
end
theorem bh {α:Type}{n:Nat}{c:Prop} [Decidable c] {p q:Prg α}{g h:List Int→α×List Int}(hp:c→ci n p g)(hq:¬c→ci n q h):ci n (if c then p else q) (fun ws=>if c then g ws else h ws):=by
 by_cases e:c
 ·simp only[if_pos e];exact hp e
 ·simp only[if_neg e];exact hq e
theorem gx {α β:Type}{n:Nat}{p:Prg α}{f:α→Prg β}{g:List Int→α×List Int}{k:α→List Int→β×List Int}{Q:α→Prop}(h:ci n p g)(hq:∀ws,ws.length=n→Q (g ws).1)(hf:∀x,Q x→ci n (f x) (k x)):ci n (aq p f) (fun ws=>k (g ws).1 (g ws).2):=fun zs D hn hz hD=>by
 obtain⟨D1,e1,a1,i1⟩:=h zs D hn hz hD
 obtain⟨D2,e2,a2,i2⟩:=hf (g (cy zs D)).1 (hq _ (by rw[d7];exact hn)) zs D1 hn hz i1
 refine⟨D2,?_,?_,i2⟩
 ·rw[aj e1,e2,a1]
 ·rw[a2,a1]
def nA (pg st p:Int):Int:=aY st+aL pg+3 * pg+p
def vA (pg st p:Int):Int:=aY st+aL pg+4 * pg+p
theorem C8 {pg st p:Int}(h:af pg p=true):dD pg st 3 p=nA pg st p:=by unfold dD nA;rw[if_pos (ay.1 h)]
theorem GW {pg st p:Int}(h:af pg p=true):dD pg st 4 p=vA pg st p:=by unfold dD vA;rw[if_pos (ay.1 h)]
def im (pg x:Int):Int:=if af pg (IntKind.i64.wrap (x-1)) then IntKind.i64.wrap (x-1) else -1
def ep (pg a:Int):Prg Int:=if a=0 then az (-1) else aq (cT a) (fun x=>az (im pg x))
def lr (pg st p:Int):Nat→Int→List Int→Prg (List Int×Bool)
 | 0,_,l=>az (l,false)
 |m+1,a,l=>aq (ep pg a) (fun q=>if q=p then az (l,true) else if q= -1 then az (l,false) else lr pg st p m (nA pg st q) (l++ [q]))
def ls (pg st p c f:Int):Prg (List Int×Bool):=lr pg st p pg.toNat (aH pg st c f) []
def fe (pg st h p q:Int):Prg Unit:=aq (if p= -1 then cU h (q+1) else cU (nA pg st p) (q+1)) (fun _=>if q= -1 then az () else cU (vA pg st q) (p+1))
def jk (pg st p c f:Int):Prg Bool:=if aH pg st c f=0 then az false else if af pg p then aq (ep pg (aH pg st c f)) (fun q=>aq (fe pg st (aH pg st c f) p q) fun _=>aq (fe pg st (aH pg st c f) (-1) p) fun _=>az true) else az false
def cE (l:List Int):Int:=l.getD (l.length-1) (-1)
def fT (pg st p c f:Int):Prg Bool:=if af pg p then aq (ls pg st p c f) (fun r=>if r.2 then aq (ep pg (nA pg st p)) (fun q=>aq (fe pg st (aH pg st c f) (cE r.1) q) fun _=>aq (cU (nA pg st p) 0) fun _=>aq (cU (vA pg st p) 0) fun _=>az true) else az false) else az false
def fl (pg st c:Int):Nat→Int→Prg Int
 | 0,_=>az (-1)
 |m+1,f=>aq (ep pg (aH pg st c f)) (fun q=>if q= -1 then fl pg st c m (f+1) else az q)
theorem jl (pg a:Int):bH (ep pg a):=aG (ah _) (ar (dl _) (fun _=>ah _))
theorem xe (pg st p:Int)(m:Nat):∀a l,bH (lr pg st p m a l):=by
 induction m with
 |zero=>intro a l;exact ah _
 |succ m ih=>intro a l;exact ar (jl _ _) (fun _=>aG (ah _) (aG (ah _) (ih _ _)))
theorem yP (pg st p c f:Int):bH (ls pg st p c f):=xe _ _ _ _ _ _
theorem lw (pg st h p q:Int):bH (fe pg st h p q):=ar (aG (c6 _ _) (c6 _ _)) (fun _=>aG (ah _) (c6 _ _))
theorem xg (pg st p c f:Int):bH (jk pg st p c f):=aG (ah _) (aG (ar (jl _ _) (fun _=>ar (lw _ _ _ _ _) (fun _=>ar (lw _ _ _ _ _) (fun _=>ah _)))) (ah _))
theorem th (pg st p c f:Int):bH (fT pg st p c f):=aG (ar (yP _ _ _ _ _) (fun _=>aG (ar (jl _ _) (fun _=>ar (lw _ _ _ _ _) (fun _=>ar (c6 _ _) (fun _=>ar (c6 _ _) (fun _=>ah _))))) (ah _))) (ah _)
theorem mt (pg st c:Int)(m:Nat):∀f,bH (fl pg st c m f):=by
 induction m with
 |zero=>intro f;exact ah _
 |succ m ih=>intro f;exact ar (jl _ _) (fun _=>aG (ih _) (ah _))
structure cF (pg st:Int)(n:Nat):Prop extends PgIn pg st n where
 top62:aY st+aL pg+5 * pg+62≤n
theorem bG {pg st c f:Int}{n:Nat}(H:cF pg st n):0≤aH pg st c f∧aH pg st c f<n∧W64 (aH pg st c f):=by
 have h1:=H.st1;have h2:=H.st2;have h3:=H.top62;have h4:=H.pg1;have h5:=H.pg2
 have hc:0≤aL pg∧aL pg≤64:=by unfold aL;omega
 have ht:0≤aY st:=by unfold aY;omega
 unfold aH
 split
 ·rename_i h
  obtain⟨c0,c4,f1,fs⟩:=h
  have:c=0∨c=1∨c=2∨c=3∨c=4:=by omega
  unfold a8 W64 aY at *
  rcases this with rfl|rfl|rfl|rfl|rfl<;>simp[gj,fG] at fs⊢ <;>omega
 ·unfold W64;omega
section
variable {pg st:Int}{n:Nat}(H:cF pg st n)
include H
theorem eH {p:Int}(h:af pg p=true):(4≤nA pg st p∧nA pg st p<n∧W64 (nA pg st p))∧(4≤vA pg st p∧vA pg st p<n∧W64 (vA pg st p)):=by
 have h0:=ay.1 h
 have h1:=H.st1;have h2:=H.st2;have h3:=H.top62;have h4:=H.pg1;have h5:=H.pg2
 unfold nA vA W64
 unfold aL aY at *
 omega
theorem yQ (x:Int):im pg x= -1∨af pg (im pg x)=true:=by
 unfold im
 split
 ·rename_i h;exact .inr h
 ·exact .inl rfl
theorem dt {a:Int}(ha:a<n):bZ n (fun q:Int=>q= -1∨af pg q=true) (ep pg a):=
 aN (fun _=>ai n (.inl rfl)) (fun _=>aw (a6 n ha) (fun x _=>ai n (yQ H x)))
theorem yR {p:Int}(m:Nat):∀(a:Int) (l:List Int),a<n→(∀x∈l,af pg x=true)→bZ n (fun r:List Int×Bool=>(∀x∈r.1,af pg x=true)∧r.1.length≤l.length+m) (lr pg st p m a l):=by
 induction m with
 |zero=>intro a l _ hl;exact ai n ⟨hl,by simp⟩
 |succ m ih =>
  intro a l ha hl
  exact aw (dt H ha) (fun q hq=>aN (fun _=>ai n ⟨hl,by simp⟩) (fun _=>aN (fun _=>ai n ⟨hl,by simp⟩) (fun hne=>by
   have hp:af pg q=true:=hq.resolve_left hne
   exact d8 (ih _ _ (eH H hp).1.2.1 (fun x hx=>by
    rcases List.mem_append.1 hx with h|h
    ·exact hl x h
    ·rw[List.mem_singleton.1 h];exact hp)) (fun r hr=>⟨hr.1,by have:=hr.2;simp at this;omega⟩))))
theorem oJ (p c f:Int):bZ n (fun r:List Int×Bool=>(∀x∈r.1,af pg x=true)∧r.1.length≤256) (ls pg st p c f):=d8 (yR H _ _ _ (bG H).2.1 (fun x hx=>by cases hx)) (fun r hr=>⟨hr.1,by have h1:=hr.2;have h2:=H.pg2;simp only[List.length_nil] at h1;omega⟩)
theorem od {q:Int}(hq:q= -1∨af pg q=true):W64 (q+1):=by
 have h5:=H.pg2
 rcases hq with rfl|h
 ·unfold W64;omega
 ·have:=ay.1 h;unfold W64;omega
theorem dW {h p q:Int}(h1:W64 h)(h2:h<n)(hp:p= -1∨af pg p=true)(hq:q= -1∨af pg q=true):bZ n (fun _=>True) (fe pg st h p q):=
 aw (Q:=fun _=>True) (aN (fun _=>aR n h1 h2 (od H hq)) (fun hne=>aR n (eH H (hp.resolve_left hne)).1.2.2 (eH H (hp.resolve_left hne)).1.2.1 (od H hq)))
  (fun _ _=>aN (fun _=>ai n trivial) (fun hne=>aR n (eH H (hq.resolve_left hne)).2.2.2 (eH H (hq.resolve_left hne)).2.2.1 (od H hp)))
theorem mu (p c f:Int):bZ n (fun _=>True) (jk pg st p c f):=
 aN (fun _=>ai n trivial) (fun _=>aN (fun hp=>aw (dt H (bG H).2.1) (fun q hq=>aw (dW H (bG H).2.2 (bG H).2.1 (.inr hp) hq) (fun _ _=>aw (dW H (bG H).2.2 (bG H).2.1 (.inl rfl) (.inr hp)) (fun _ _=>ai n trivial)))) (fun _=>ai n trivial))
theorem lx {l:List Int}(hl:∀x∈l,af pg x=true):cE l= -1∨af pg (cE l)=true:=by
 unfold cE
 rcases Nat.eq_zero_or_pos l.length with h|h
 ·refine .inl ?_
  rw[List.length_eq_zero_iff.1 h];rfl
 ·refine .inr (hl _ ?_)
  rw[List.getD_eq_getElem?_getD,List.getElem?_eq_getElem (by omega)]
  exact List.getElem_mem _
theorem ko (p c f:Int):bZ n (fun _=>True) (fT pg st p c f):=
 aN (fun hp=>aw (oJ H _ _ _) (fun r hr=>aN (fun _=>aw (dt H (eH H hp).1.2.1) (fun q hq=>aw (dW H (bG H).2.2 (bG H).2.1 (lx H hr.1) hq) (fun _ _=>aw (aR n (eH H hp).1.2.2 (eH H hp).1.2.1 (by unfold W64;omega)) (fun _ _=>aw (aR n (eH H hp).2.2.2 (eH H hp).2.2.1 (by unfold W64;omega)) (fun _ _=>ai n trivial))))) (fun _=>ai n trivial))) (fun _=>ai n trivial)
theorem gg (c:Int)(m:Nat):∀f,bZ n (fun q:Int=>q= -1∨af pg q=true) (fl pg st c m f):=by
 induction m with
 |zero=>intro f;exact ai n (.inl rfl)
 |succ m ih=>intro f;exact aw (dt H (bG H).2.1) (fun q hq=>aN (fun _=>ih _) (fun _=>ai n hq))
end
theorem mw {c:Cfg}(R:c.Ok)(w:World)(k:Int):Calls Tryz.prog 136 #[.agg c.arr,.int .i64 k] w (aQ w (.int .i64 (dD c.pg c.st 3 k))):=NR R w k
theorem qI {c:Cfg}(R:c.Ok)(w:World)(k:Int):Calls Tryz.prog 147 #[.agg c.arr,.int .i64 k] w (aQ w (.int .i64 (dD c.pg c.st 4 k))):=NS R w k
theorem ly {c:Cfg}(R:c.Ok)(w:World)(k f:Int):Calls Tryz.prog 93 #[.agg c.arr,.int .i64 k,.int .i64 f] w (aQ w (.int .i64 (aH c.pg c.st k f))):=NT R w k f
theorem iL {c:Cfg}(R:c.Ok){n:Nat}(H:cF c.pg c.st n)(q:Int)(w:World):Calls Tryz.prog 117 #[.agg c.arr,.int .i64 q] w (aQ w (.bool (af c.pg q))):=by
 have hz:(dD c.pg c.st 3 q != 0)=af c.pg q:=by
  cases h:af c.pg q with
  |true=>rw[C8 h];have:=(eH H h).1.1;simp;omega
  |false=>rw[Lv h];rfl
 obtain⟨w1,e1,hl1,m1,s1⟩:=bg w (.cells c.arr 28)
 have L0:=hQQ hl1
 have MM:=hQQ m1
 have HR:=hQQ R
 clear hl1 m1 R H
 go_enter Tryz.func117,Tryz.ntmps117
 go_wp2_with (first|(refine aM rfl rfl rfl L0.o (by kernel_rfl) ?_)|(refine aM rfl rfl rfl L0.o (by kernel_rfl) ?_))
 refine(mw HR.o _ q).mono ?_
 rintro e w2 ⟨rfl,h2⟩
 have H2:=hQQ (MM.o.trans h2)
 clear h2
 go_wp2_with fail
 go_ret
 first
 |exact⟨rfl,H2.o⟩
 |exact⟨by rw[←hz],H2.o⟩
theorem my {c:Cfg}(R:c.Ok){n:Nat}(H:cF c.pg c.st n)(F:Nat→Prop)(p:Nat)(kn:Int→Option Int)(D:List KV)(a:Int)(ha:W64 a)(hn:a<n)(w:World)(hv:aF w F p kn D)(hk:OkK kn)(hD:cI n D):
 Calls Tryz.prog 92 #[.pointer (some ⟨p,0,none⟩),.agg c.arr,.int .i64 a] w (aI w F p kn (fun x=> .int .i64 x) (ep c.pg a kn D)):=by
 obtain⟨Rr,hRr⟩:∃Rr,ep c.pg a kn D=Rr:=⟨_,rfl⟩
 rw[hRr]
 obtain⟨w1,e1,hl1,m1,s1⟩:=bg w (.cells c.arr 28)
 have nFl:¬F w.heap.size:=fun q=>by have:=hv.lt _ q;omega
 have MM:=hQQ m1
 have L0:=hQQ hl1
 have M0:=m0Z (hv.more m1) hD
 have KL:=klZ (p:=p) (kn:=kn) (n:=n) L0.o nFl
 have NEED:=ndZ (F:=F) (p:=p) (kn:=kn) (R:=Rr) (fun x:Int=>Value.int .i64 x) MM.o
 have DONE:=dnZ (F:=F) (p:=p) (n:=n) (kn:=kn) (R:=Rr) (fun x:Int=>Value.int .i64 x) MM.o
 have HK:=hQQ hk
 have HR:=hQQ R
 have HH:=hQQ H
 clear hl1 m1 hv hD hk R H nFl
 unfold ep at hRr
 by_cases a0:a=0
 ·rw[if_pos a0] at hRr
  have d0:(a==0)=true:=by simp[a0]
  have FIN:=hQQ (DONE.o (-1) w1 D F hRr.symm M0.o)
  clear hRr a0
  go_enter Tryz.func92,Tryz.ntmps92
  go_wp2_with fail
  go_ret
  exact FIN.o
 ·rw[if_neg a0] at hRr
  have d0:(a==0)=false:=by simp[a0]
  have HRr:=hQQ hRr
  clear hRr a0
  go_enter Tryz.func92,Tryz.ntmps92
  go_wp2_with fail
  refine(iK F p kn D a w1 M0.o.view ha).mono ?_
  intro e w2 he
  rcases M0.o.step (ae.refl _) HK.o (a6 n hn) he with⟨a',hE,rfl,hd',ht',_⟩|⟨x2,D2,F2,hE,rfl,M2,hq2,_,_⟩
  ·exact⟨rfl,NEED.o a' w2 (HRr.o.symm.trans (ag hE)) hd' ht'⟩
  have L2:=hQQ (KL.o _ _ _ M2)
  have R2:=hQQ ((aj hE).symm.trans HRr.o)
  have M2:=hQQ M2
  clear he hE
  have HV:=hQQ (show Rr=.ok (im c.pg x2) D2 from R2.o.symm)
  clear R2
  unfold im at HV
  obtain⟨y,qy⟩:∃y,IntKind.i64.wrap (x2-1)=y:=⟨_,rfl⟩
  rw[qy] at HV
  go_wp2_with (first|(refine aM rfl rfl rfl L2.o (by kernel_rfl) ?_)|(refine aM rfl rfl rfl L2.o (by kernel_rfl) ?_))
  clear qy
  refine(iL HR.o HH.o y _).mono ?_
  rintro e w3 ⟨rfl,h3⟩
  have M3:=hQQ (M2.o.more h3)
  clear h3
  cases hb:af c.pg y with
  |true =>
   have FIN:=hQQ (DONE.o y w3 D2 F2 (by have:=HV.o;rw[if_pos hb] at this;exact this) M3.o)
   clear HV hb
   go_wp2_with fail
   go_ret
   exact FIN.o
  |false =>
   have FIN:=hQQ (DONE.o (-1) w3 D2 F2 (by have:=HV.o;rw[if_neg (by rw[hb];simp)] at this;exact this) M3.o)
   clear HV hb
   go_wp2_with fail
   go_ret
   exact FIN.o
theorem rV {c:Cfg}(R:c.Ok){n:Nat}(H:cF c.pg c.st n)(hn:n≤10000)(F:Nat→Prop)(p:Nat)(kn:Int→Option Int)(D:List KV)(h x y:Int)(h1:W64 h)(h2:h<n)(hx:x= -1∨af c.pg x=true)(hy:y= -1∨af c.pg y=true)(w:World)(hv:aF w F p kn D)(hk:OkK kn)(hD:cI n D):
 Calls Tryz.prog 146 #[.pointer (some ⟨p,0,none⟩),.agg c.arr,.int .i64 h,.int .i64 x,.int .i64 y] w (aI w F p kn (fun _:Unit=> .tuple #[]) (fe c.pg c.st h x y kn D)):=by
 obtain⟨Rr,hRr⟩:∃Rr,fe c.pg c.st h x y kn D=Rr:=⟨_,rfl⟩
 rw[hRr]
 obtain⟨w1,e1,hl1,m1,s1⟩:=bg w (.cells c.arr 28)
 have nFl:¬F w.heap.size:=fun q=>by have:=hv.lt _ q;omega
 have MM:=hQQ m1
 have L0:=hQQ hl1
 have M0:=m0Z (hv.more m1) hD
 have KL:=klZ (p:=p) (kn:=kn) (n:=n) L0.o nFl
 have NEED:=ndZ (F:=F) (p:=p) (kn:=kn) (R:=Rr) (fun _:Unit=>Value.tuple #[]) MM.o
 have DONE:=dnZ (F:=F) (p:=p) (n:=n) (kn:=kn) (R:=Rr) (fun _:Unit=>Value.tuple #[]) MM.o
 have HK:=hQQ hk
 have HR:=hQQ R
 have HH:=hQQ H
 clear hl1 m1 hv hD hk R H nFl
 unfold fe at hRr
 have pg2:=HR.o.pg2
 have hxw:=od HH.o hx
 have hyw:=od HH.o hy
 have qx:IntKind.i64.wrap (x+1)=x+1:=aB hxw.1 hxw.2
 have qy:IntKind.i64.wrap (y+1)=y+1:=aB hyw.1 hyw.2
 have GX:=hQQ hxw
 have GY:=hQQ hyw
 have PX:=hQQ hx
 have PY:=hQQ hy
 have PH:=hQQ (And.intro h1 h2)
 clear hxw hyw hx hy h1 h2
 by_cases ex:x= -1
 ·have d0:(x== -1)=true:=by simp[ex]
  rw[if_pos ex] at hRr
  have HRr:=hQQ hRr
  clear hRr ex
  go_enter Tryz.func146,Tryz.ntmps146
  go_wp2_with fail
  refine(dq F p kn D h (y+1) w1 M0.o.view (by have:=M0.o.inv.len;omega)).mono ?_
  intro e w2 he
  rcases M0.o.step (ae.refl _) HK.o (aR n PH.o.1 PH.o.2 GY.o) he with⟨a',hE,rfl,hd',ht',_⟩|⟨x2,D2,F2,hE,rfl,M2,hq2,_,_⟩
  ·exact⟨rfl,NEED.o a' w2 (HRr.o.symm.trans (ag hE)) hd' ht'⟩
  have L2:=hQQ (KL.o _ _ _ M2)
  have R2:=hQQ ((aj hE).symm.trans HRr.o)
  have M2:=hQQ M2
  clear he hE
  by_cases ey:y= -1
  ·have d1:(y != -1)=false:=by simp[ey]
   have FIN:=hQQ (DONE.o () w2 D2 F2 (by have:=R2.o;rw[if_pos ey] at this;exact this.symm) M2.o)
   clear R2 ey
   go_wp2_with fail
   go_end0
   exact FIN.o
  ·have d1:(y != -1)=true:=by simp[ey]
   have hpy:=PY.o.resolve_left ey
   have P4:=hQQ (GW (st:=c.st) hpy)
   have NY:=hQQ (eH HH.o hpy)
   have R2':=hQQ (by have:=R2.o;rw[if_neg ey] at this;exact this)
   clear R2 ey hpy
   go_wp2_with (first|(refine aM rfl rfl rfl L2.o (by kernel_rfl) ?_)|(refine aM rfl rfl rfl L2.o (by kernel_rfl) ?_))
   refine(qI HR.o _ y).mono ?_
   rw[P4.o]
   rintro e w3 ⟨rfl,h3⟩
   have M3:=hQQ (M2.o.more h3)
   clear h3
   go_wp2_with fail
   refine(dq F2 p kn D2 _ (x+1) w3 M3.o.view (by have:=M3.o.inv.len;omega)).mono ?_
   intro e w4 he
   rcases M3.o.step (ae.refl _) HK.o (aR n NY.o.2.2.2 NY.o.2.2.1 GX.o) he with⟨a',hE,rfl,hd',ht',_⟩|⟨x4,D4,F4,hE,rfl,M4,hq4,_,_⟩
   ·exact⟨rfl,NEED.o a' w4 (R2'.o.symm.trans hE) hd' ht'⟩
   have FIN:=hQQ (DONE.o () w4 D4 F4 (R2'.o.symm.trans hE) M4)
   clear he hE M4
   go_wp2_with fail
   go_end0
   exact FIN.o
 ·have d0:(x== -1)=false:=by simp[ex]
  rw[if_neg ex] at hRr
  have hpx:=PX.o.resolve_left ex
  have HRr:=hQQ hRr
  have P3:=hQQ (C8 (st:=c.st) hpx)
  have NB:=hQQ (eH HH.o hpx)
  clear hRr ex hpx
  go_enter Tryz.func146,Tryz.ntmps146
  go_wp2_with (first|(refine aM rfl rfl rfl L0.o (by kernel_rfl) ?_)|(refine aM rfl rfl rfl L0.o (by kernel_rfl) ?_))
  refine(mw HR.o _ x).mono ?_
  rw[P3.o]
  rintro e w5 ⟨rfl,h5⟩
  have M5:=hQQ (M0.o.more h5)
  clear h5
  go_wp2_with fail
  refine(dq F p kn D _ (y+1) w5 M5.o.view (by have:=M5.o.inv.len;omega)).mono ?_
  intro e w2 he
  rcases M5.o.step (ae.refl _) HK.o (aR n NB.o.1.2.2 NB.o.1.2.1 GY.o) he with⟨a',hE,rfl,hd',ht',_⟩|⟨x2,D2,F2,hE,rfl,M2,hq2,_,_⟩
  ·exact⟨rfl,NEED.o a' w2 (HRr.o.symm.trans (ag hE)) hd' ht'⟩
  have L2:=hQQ (KL.o _ _ _ M2)
  have R2:=hQQ ((aj hE).symm.trans HRr.o)
  have M2:=hQQ M2
  clear he hE
  by_cases ey:y= -1
  ·have d1:(y != -1)=false:=by simp[ey]
   have FIN:=hQQ (DONE.o () w2 D2 F2 (by have:=R2.o;rw[if_pos ey] at this;exact this.symm) M2.o)
   clear R2 ey
   go_wp2_with fail
   go_end0
   exact FIN.o
  ·have d1:(y != -1)=true:=by simp[ey]
   have hpy:=PY.o.resolve_left ey
   have P4:=hQQ (GW (st:=c.st) hpy)
   have NY:=hQQ (eH HH.o hpy)
   have R2':=hQQ (by have:=R2.o;rw[if_neg ey] at this;exact this)
   clear R2 ey hpy
   go_wp2_with (first|(refine aM rfl rfl rfl L2.o (by kernel_rfl) ?_)|(refine aM rfl rfl rfl L2.o (by kernel_rfl) ?_))
   refine(qI HR.o _ y).mono ?_
   rw[P4.o]
   rintro e w3 ⟨rfl,h3⟩
   have M3:=hQQ (M2.o.more h3)
   clear h3
   go_wp2_with fail
   refine(dq F2 p kn D2 _ (x+1) w3 M3.o.view (by have:=M3.o.inv.len;omega)).mono ?_
   intro e w4 he
   rcases M3.o.step (ae.refl _) HK.o (aR n NY.o.2.2.2 NY.o.2.2.1 GX.o) he with⟨a',hE,rfl,hd',ht',_⟩|⟨x4,D4,F4,hE,rfl,M4,hq4,_,_⟩
   ·exact⟨rfl,NEED.o a' w4 (R2'.o.symm.trans hE) hd' ht'⟩
   have FIN:=hQQ (DONE.o () w4 D4 F4 (R2'.o.symm.trans hE) M4)
   clear he hE M4
   go_wp2_with fail
   go_end0
   exact FIN.o
def ie {α:Type}(w:World)(F:Nat→Prop)(p:Nat)(kn:Int→Option Int)(Post:α→Value→World→(Nat→Prop)→Prop)(R:Res α)(e:Ending)(w':World):Prop :=
 match R with
 | .need a=>vq w F p a e w'
 | .ok x D=>∃v F',e=.returned v∧Post x v w' F'∧aF w' F' p kn D∧Turned F w w'∧∀k,F' k→F k∨w.heap.size≤k
def iM (b:Nat)(F:Nat→Prop)(w:World)(v:Value)(xs:List Int):Prop:=Rw b w v xs∧(∀k,v.ownBlock=some k→¬F k∧b≤k∧k<w.heap.size)
theorem iM.nil (b:Nat)(F:Nat→Prop)(w:World):iM b F w (.slice none 0 0) []:=⟨Rw.nil _ _,fun k q=>by cases q⟩
theorem Rw.own {b:Nat}{w:World}{v:Value}{xs:List Int}(h:Rw b w v xs){k:Nat}(q:v.ownBlock=some k):b≤k∧k<w.heap.size:=by
 rcases h.2 with⟨rfl,_⟩|⟨g,cap,cur,rfl,hb,hg,_⟩
 ·cases q
 ·have:g=k:=by simpa [Value.ownBlock] using q
  subst this
  exact⟨hb,ac hg⟩
theorem Rw.keepT {b:Nat}{S:Nat→Prop}{w w':World}{v:Value}{xs:List Int}(h:Rw b w v xs)(t:Turned S w w')(hs:∀k,v.ownBlock=some k→¬S k):Rw b w' v xs:=by
 refine⟨h.1,?_⟩
 rcases h.2 with q|⟨g,cap,cur,rfl,hb,hg,r⟩
 ·exact .inl q
 ·exact .inr ⟨g,cap,cur,rfl,hb,(t.block g (ac hg) (hs g rfl)).trans hg,r⟩
theorem iM.more {b:Nat}{F:Nat→Prop}{w w':World}{v:Value}{xs:List Int}(h:iM b F w v xs)(m:ae w w'):iM b F w' v xs :=
 ⟨h.1.more m,fun k q=>⟨(h.2 k q).1,(h.2 k q).2.1,Nat.lt_of_lt_of_le (h.2 k q).2.2 m.size⟩⟩
theorem iM.went {b:Nat}{F F':Nat→Prop}{w w':World}{v:Value}{xs:List Int}(h:iM b F w v xs)(hk:∀k o,¬F k→w.heap[k]?=some o→w'.heap[k]?=some o)(hf:∀k,F' k→F k∨w.heap.size≤k):iM b F' w' v xs:=by
 obtain⟨r,n⟩:=h
 have key:∀k,v.ownBlock=some k→¬F' k:=fun k q z=>by
  rcases hf k z with y|y
  ·exact(n k q).1 y
  ·have:=(n k q).2.2;omega
 rcases r with⟨h1,q|⟨g,cap,cur,rfl,hb,hg,rest⟩⟩
 ·exact⟨⟨h1,.inl q⟩,fun k q'=>by rw[q.1] at q';cases q'⟩
 ·have hg':=hk g _ (n g rfl).1 hg
  exact⟨⟨h1,.inr ⟨g,cap,cur,rfl,hb,hg',rest⟩⟩,fun k q=>by
   have:g=k:=by simpa [Value.ownBlock] using q
   subst this
   exact⟨key g rfl,hb,ac hg'⟩⟩
theorem iM.mono {b b':Nat}{F:Nat→Prop}{w:World}{v:Value}{xs:List Int}(h:iM b F w v xs)(hb:b'≤b):iM b' F w v xs:=⟨h.1.mono hb,fun k q=>⟨(h.2 k q).1,by have:=(h.2 k q).2.1;omega,(h.2 k q).2.2⟩⟩
namespace MidV
variable {W wr w1 w2:World}{F S F':Nat→Prop}{p n:Nat}{kn:Int→Option Int}{D:List KV}
theorem stepR {α:Type}{Post:α→Value→World→(Nat→Prop)→Prop}{Q:α→Prop}{pr:Prg α}{e:Ending}(h:MidV W wr F S p kn n D F')(m:ae wr w1)(hk:OkK kn)(G:bZ n Q pr)(he:ie w1 F' p kn Post (pr kn D) e w2):
 (∃a,pr kn D=.need a∧e=.panicked (bB p)∧bJ w2 p a∧Turned (fun b=>F b∨S b) W w2∧∀b o,¬F' b→wr.heap[b]?=some o→w2.heap[b]?=some o) ∨
 (∃x D1 F1 v,pr kn D=.ok x D1∧e=.returned v∧Post x v w2 F1∧MidV W w2 F S p kn n D1 F1∧Q x∧(∀b o,¬F' b→wr.heap[b]?=some o→w2.heap[b]?=some o)∧∀b,F1 b→F' b∨wr.heap.size≤b):=by
 have hm:=h.more m
 have hs:=m.size
 have hK:∀t,Turned F' w1 t→∀b o,¬F' b→wr.heap[b]?=some o→t.heap[b]?=some o:=fun t ht b o nb hb=>(ht.block b (ac (m.block hb)) nb).trans (m.block hb)
 cases hE:pr kn D with
 |need a =>
  rw[hE] at he
  obtain⟨h1,h2,h3⟩:=he
  exact .inl ⟨a,rfl,h1,h2,ak hm.turn h3 (fun k q=>(h.from' k q).imp .inl id),hK _ h3⟩
 |ok x D1 =>
  rw[hE] at he
  obtain⟨v,F1,h1,hp,hv,ht,hn⟩:=he
  obtain⟨i1,q1⟩:=G.ok hk h.inv hE
  refine .inr ⟨x,D1,F1,v,rfl,h1,hp,⟨hv,fun k q=>?_,ak hm.turn ht (fun k q=>(h.from' k q).imp .inl id),i1⟩,q1,hK _ ht,fun b q=>(hn b q).imp id (fun r=>by omega)⟩
  rcases hn k q with r|r
  ·exact h.from' k r
  ·have:=hm.size;exact .inr (by omega)
theorem grew {v v':Value}{b:Nat}{xs ys:List Int}(h:MidV W wr F S p kn n D F')(hr:iM b F' wr v xs)(hb:W.heap.size≤b)(t:Turned (fun k=>v.ownBlock=some k) wr w1)(hr':Rw b w1 v' ys)(hv':∀k,v'.ownBlock=some k→v.ownBlock=some k∨k=wr.heap.size):MidV W w1 F S p kn n D F'∧iM b F' w1 v' ys:=by
 have lt:=h.view.lt
 have hnc:∀(k:Nat) es cl,v.ownBlock=some k→wr.heap[k]? ≠some (.map es cl):=fun k es cl q z=>by
  rcases hr.1.2 with⟨q',_⟩|⟨g,cap,cur,q',_,hg,_⟩
  ·rw[q'] at q;cases q
  ·rw[q'] at q
   have:g=k:=by simpa [Value.ownBlock] using q
   subst this
   rw[hg] at z;cases z
 refine⟨⟨h.view.keepS t (fun k q e=>(hr.2 k e).1 q) (fun k es cl e q=>hnc k es cl e q),h.from',ak h.turn t (fun k q=> .inr (by have:=(hr.2 k q).2.1;omega)),h.inv⟩,hr',fun k q=>?_⟩
 have hl:=hr'.own q
 refine⟨fun z=>?_,hl.1,hl.2⟩
 rcases hv' k q with r|r
 ·exact(hr.2 k r).1 z
 ·have:=lt k z;omega
end MidV
theorem qJ {α:Type}{w w1 w2:World}{F S:Nat→Prop}{p:Nat}{kn:Int→Option Int}{Post:α→Value→World→(Nat→Prop)→Prop}{R:Res α}{a:Int}(m:ae w w1)(hS:∀b,S b→w.heap.size≤b)(hR:R=.need a)(hd:bJ w2 p a)(ht:Turned (fun b=>F b∨S b) w1 w2):ie w F p kn Post R (.panicked (bB p)) w2:=by
 subst hR
 exact⟨rfl,hd,ak (Turned.mono m (fun _ _ q=>q.elim)) ht (fun k q=>q.imp id (hS k))⟩
theorem qK {α:Type}{w w1 w2:World}{F S F':Nat→Prop}{p n:Nat}{kn:Int→Option Int}{Post:α→Value→World→(Nat→Prop)→Prop}{R:Res α}{x:α}{D:List KV}{v:Value}(m:ae w w1)(hS:∀b,S b→w.heap.size≤b)(h:MidV w1 w2 F S p kn n D F')(hR:R=.ok x D)(hp:Post x v w2 F'):ie w F p kn Post R (.returned v) w2:=by
 subst hR
 exact⟨v,F',rfl,hp,h.view,ak (Turned.mono m (fun _ _ q=>q.elim)) h.turn (fun k q=>q.imp id (hS k)),fun k q=>(h.from' k q).imp id (fun r=>Nat.le_trans m.size r)⟩
def pD (b:Nat)(r:List Int×Bool)(v:Value)(w:World)(F:Nat→Prop):Prop:=∃u,v=.tuple #[u,.bool r.2]∧iM b F w u r.1
theorem A4 {c:Cfg}(R:c.Ok){n:Nat}(H:cF c.pg c.st n)(F:Nat→Prop)(p:Nat)(kn:Int→Option Int)(D:List KV)(q cl f:Int)(w:World)(hv:aF w F p kn D)(hk:OkK kn)(hD:cI n D):
 Calls Tryz.prog 145 #[.pointer (some ⟨p,0,none⟩),.agg c.arr,.int .i64 q,.int .i64 cl,.int .i64 f] w (ie w F p kn (pD w.heap.size) (ls c.pg c.st q cl f kn D)):=by
 obtain⟨Rr,hRr⟩:∃Rr,ls c.pg c.st q cl f kn D=Rr:=⟨_,rfl⟩
 rw[hRr]
 obtain⟨w1,e1,hl1,m1,s1⟩:=bg w (.cells c.arr 28)
 have nFl:¬F w.heap.size:=fun q=>by have:=hv.lt _ q;omega
 have MM:=hQQ m1
 have L0:=hQQ hl1
 have M0:=m0Z (hv.more m1) hD
 have KL:=klZ (p:=p) (kn:=kn) (n:=n) L0.o nFl
 have NEED:Hq (∀a w2,Rr=.need a→bJ w2 p a→Turned (fun b=>F b∨False) w1 w2→ie w F p kn (pD w.heap.size) Rr (.panicked (bB p)) w2):=hQQ fun a w2 e hd ht=>qJ MM.o (fun _ q=>q.elim) e hd ht
 have DONE:Hq (∀x v w2 D' F',Rr=.ok x D'→MidV w1 w2 F (fun _=>False) p kn n D' F'→(pD w.heap.size) x v w2 F'→ie w F p kn (pD w.heap.size) Rr (.returned v) w2):=hQQ fun x v w2 D' F' e h hp=>qK MM.o (fun _ q=>q.elim) h e hp
 have HK:=hQQ hk
 have HR:=hQQ R
 have HH:=hQQ H
 clear hl1 m1 hv hD hk R H nFl
 unfold ls at hRr
 have HRr:=hQQ hRr
 have hfl:=fK c
 have pg1:=HR.o.pg1
 have pg2:=HR.o.pg2
 have hw1:w.heap.size≤w1.heap.size:=by omega
 clear hRr
 go_enter Tryz.func145,Tryz.ntmps145
 go_wp2_with fail
 refine wp_scope_jumps 0 (fun a' w'=>∃(v:Value) (b:Bool) (u12 u13 u14 u15 u16 u17 u18 u19 u20 u21 u22 u23 u24 u25 u26 u27 u28 u29 u30 u31 u32 u33 u34 u35 u36 u37 u38 u39 u40 u41 u42:Value),a'= { tmps:= #[.pointer (some ⟨p,0,none⟩),.agg c.arr,.int .i64 q,.int .i64 cl,.int .i64 f,undef,.pointer (some ⟨w.heap.size,0,none⟩),undef,undef,undef,v,.bool b,u12,u13,u14,u15,u16,u17,u18,u19,u20,u21,u22,u23,u24,u25,u26,u27,u28,u29,u30,u31,u32,u33,u34,u35,u36,u37,u38,u39,u40,u41,u42],defers:= [] } ∧∃(l:List Int) (D4:List KV) (F4:Nat→Prop),Rr=.ok (l,b) D4∧MidV w1 w' F (fun _=>False) p kn n D4 F4∧iM w1.heap.size F4 w' v l) (fun _ _=>0) rfl ?_ ?_
 ·go_wp2_with (first|(refine aM rfl rfl rfl L0.o (by kernel_rfl) ?_)|(refine aM rfl rfl rfl L0.o (by kernel_rfl) ?_))
  refine(ly HR.o _ cl f).mono ?_
  rintro e w2 ⟨rfl,h2⟩
  have M2:=hQQ (M0.o.more h2)
  have L2:=hQQ (KL.o _ _ _ M2.o)
  clear h2
  go_wp2_with (first|(refine aM rfl rfl rfl L2.o (by kernel_rfl) ?_)|(refine aM rfl rfl rfl L2.o (by kernel_rfl) ?_))
  refine(dw HR.o _).mono ?_
  rintro e w3 ⟨rfl,h3⟩
  have M3:=hQQ (M2.o.more h3)
  clear h3 M2 L2
  go_wp2_with fail
  go_loopw [10,11,12,21] (fun u10 v11 v12 v21 wr=>∃(v10:Value) (i:Nat) (a:Int) (l:List Int) (D':List KV) (F':Nat→Prop),v10=u10∧v11=.bool false∧v21=.int .i64 (i:Int)∧(i:Int)≤c.pg∧v12=.int .i64 a∧W64 a∧a<n∧MidV w1 wr F (fun _=>False) p kn n D' F'∧iM w1.heap.size F' wr v10 l∧l.length=i∧lr c.pg c.st q (c.pg.toNat-i) a l kn D'=Rr) (fun _ _ _ v21 _=>c.pg.toNat-(intOf v21).toNat)
  case atStart=>exact⟨_,0,_,[],D,F,rfl,rfl,rfl,by omega,rfl,(bG HH.o).2.2,(bG HH.o).2.1,M3.o,iM.nil _ _ _,rfl,HRr.o⟩
  case round =>
   clear M3 HRr
   obtain⟨v10,i,a,l,D',F',rfl,rfl,rfl,hi,rfl,haw,han,MI,RWI,hl,hrest⟩:=hrel
   have MI:=hQQ MI
   have RWI:=hQQ RWI
   have LI:=hQQ (KL.o _ _ _ MI.o)
   have qi:IntKind.i64.wrap ((i:Int)+1)=(i:Int)+1:=aB (by omega) (by omega)
   by_cases hlt:(i:Int)<c.pg
   ·have d3:decide ((i:Int)<c.pg)=true:=by simp[hlt]
    rw[show c.pg.toNat-i=(c.pg.toNat-(i+1))+1 by omega] at hrest
    have RI:=hQQ (show aq (ep c.pg a) (fun x=>if x=q then az (l,true) else if x= -1 then az (l,false) else lr c.pg c.st q (c.pg.toNat-(i+1)) (nA c.pg c.st x) (l++ [x])) kn D'=Rr from hrest)
    clear hrest
    go_wp2_with (first|(refine aM rfl rfl rfl LI.o (by kernel_rfl) ?_)|(refine aM rfl rfl rfl LI.o (by kernel_rfl) ?_))
    refine(my HR.o HH.o F' p kn D' a haw han wr MI.o.view HK.o MI.o.inv).mono ?_
    intro e w4 he
    rcases MI.o.step (ae.refl _) HK.o (dt HH.o han) he with⟨a',hE,rfl,hd',ht',_⟩|⟨x4,D4,F4,hE,rfl,M4,hq4,hkp,hnw⟩
    ·exact⟨rfl,NEED.o a' w4 (RI.o.symm.trans (ag hE)) hd' ht'⟩
    have R4:=hQQ ((aj hE).symm.trans RI.o)
    have RW4:=hQQ (RWI.o.went hkp hnw)
    have M4:=hQQ M4
    clear he hE hkp hnw
    by_cases ex:x4=q
    ·have d4:(x4==q)=true:=by simp[ex]
     have E4:=hQQ (show Rr=.ok (l,true) D4 from by have:=R4.o;rw[if_pos ex] at this;exact this.symm)
     clear R4 ex
     go_wp2_with fail
     go_step3
     refine⟨rfl,v10,true,_,_,_,_,_,_,_,_,_,_,_,_,_,_,_,_,_,_,_,_,_,_,_,_,_,_,_,_,_,_,_,rfl,⟨l,D4,F4,E4.o,M4.o,RW4.o⟩⟩
    have d4:(x4==q)=false:=by simp[ex]
    by_cases en:x4= -1
    ·have d5:(x4== -1)=true:=by simp[en]
     have E4:=hQQ (show Rr=.ok (l,false) D4 from by have:=R4.o;rw[if_neg ex,if_pos en] at this;exact this.symm)
     clear R4 ex en
     go_wp2_with fail
     go_step3
     refine⟨rfl,v10,false,_,_,_,_,_,_,_,_,_,_,_,_,_,_,_,_,_,_,_,_,_,_,_,_,_,_,_,_,_,_,_,rfl,⟨l,D4,F4,E4.o,M4.o,RW4.o⟩⟩
    have d5:(x4== -1)=false:=by simp[en]
    have hpx:=hq4.resolve_left en
    have P3:=hQQ (C8 (st:=c.st) hpx)
    have NB:=hQQ (eH HH.o hpx)
    have NX:=hQQ (show lr c.pg c.st q (c.pg.toNat-(i+1)) (nA c.pg c.st x4) (l++ [x4]) kn D4=Rr from by have:=R4.o;rw[if_neg ex,if_neg en] at this;exact this)
    clear R4 ex en hq4 hpx haw han
    go_wp2_with fail
    refine aO (TrC c w.heap.size) (by kernel_rfl) ?_
    have MR:=hQQ (M4.o.more ((ae.refl w4).drewN 1))
    have RR:=hQQ (RW4.o.more ((ae.refl w4).drewN 1))
    change dg _ _ _ _ _ _ _ _ (w4.drewN 1)
    generalize w4.drewN 1=wq at MR RR⊢
    clear M4 RW4 MI RWI LI
    generalize hA:Act.mk _ _=A
    have HF:AG 43 A [(6,.pointer (some ⟨w.heap.size,0,none⟩)),(13,.int .i64 x4),(10,v10)]:=by
     rw[←hA];try simp only[pts,List.foldl]
     refine⟨⟨Nat.le_of_ble_eq_true rfl,rfl⟩,?_⟩
     intro z hz;simp only[List.mem_cons,List.not_mem_nil,or_false] at hz;rcases hz with rfl|rfl|rfl<;>rfl
    refine bL (fun a W=>∃(u28 u29 u32 u33 u30 u31 u34 v':Value) (D9:List KV) (F9:Nat→Prop),a=(pts A [(28,u28),(29,u29),(32,u32),(33,u33),(30,u30),(31,u31),(34,u34),(10,v'),(12,.int .i64 (nA c.pg c.st x4))])∧MidV w1 W F (fun _=>False) p kn n D4 F4∧iM w1.heap.size F4 W v' (l++ [x4])) (fun W=>ie w F p kn (pD w.heap.size) Rr (.panicked (bB p)) W) (bB p) (fun a W hd h=>⟨hd,h⟩) (fun _ _ _ _ _ h=>h) ?_ ?_
    ·rintro a wa ⟨u28,u29,u32,u33,u30,u31,u34,v',_,_,rfl,MS,RS⟩
     rw[←hA];try simp only[pts,List.foldl]
     have MS:=hQQ MS
     have RS:=hQQ RS
     clear HF hA MR RR
     go_wp2_with fail
     go_roundw
     case rel=>exact⟨_,i+1,_,l++ [x4],D4,F4,rfl,rfl,by go_num,by omega,rfl,NB.o.1.2.2,NB.o.1.2.1,MS.o,RS.o,by simp[hl],NX.o⟩
     case measure=>simp[intOf];omega
    intro QQ FINE FIND FINQ
    clear hA
    refine gv (i:=0) (v:=v10) (some 28) rfl rfl (by kernel_rfl) (by kernel_rfl) (by kernel_rfl) (fun c a w=>FINQ c a _ _ w) (KL.o _ _ _ MR.o) (by exact bT (ab rfl) _ rfl (HF.get 2 rfl)) ?_
    replace HF:AG 43 A [(6,.pointer (some ⟨w.heap.size,0,none⟩)),(13,.int .i64 x4)]:=HF.sub (fun z hz=>by simp only[List.mem_cons,List.not_mem_nil,or_false] at hz⊢;rcases hz with h|h;exact .inl h;exact .inr (.inl h))
    replace HF:=HF.put 28 (v10) (by decide) rfl
    generalize hB1:Act.put _ _ _=A at HF⊢
    refine tqM 1 29 2 rfl (.inl rfl) rfl (by kernel_rfl) FINQ (KL.o _ _ _ MR.o) HF fun A hB2 HF=>?_
    refine tqC 4 32 (.agg c.arr) (by kernel_rfl) FINQ (KL.o _ _ _ MR.o) HF (by exact aD (ab rfl) 28 _ rfl w.heap.size (HF.get 2 rfl) 28 _ _ _ (fun W hW=>hW) Tryz.underlying28 rfl (by kernel_rfl)) fun A hB3 HF=>?_
    refine tqM 5 33 4 rfl (.inl rfl) rfl (by kernel_rfl) FINQ (KL.o _ _ _ MR.o) HF fun A hB4 HF=>?_
    refine bo (i:=2) (some 30) (by kernel_rfl) rfl (ab rfl) rfl (fun K hK=>?_)
    refine Em rfl x4 (HF.get 2 rfl) ?_
    have MRb:=hQQ (MR.o.more ((ae.refl wq).alloc (.cells #[.int .i64 x4] 3)))
    have RRb:=hQQ (RR.o.more ((ae.refl wq).alloc (.cells #[.int .i64 x4] 3)))
    have BL:=hQQ (bz wq (.cells #[.int .i64 x4] 3))
    refine hK _ _ (KL.o _ _ _ MRb.o) ?_
    clear hK K
    generalize hg:wq.heap.size=gb at BL⊢
    generalize wq.alloc (.cells #[.int .i64 x4] 3)=wqb at MRb RRb BL⊢
    clear hg
    replace HF:=HF.put 30 (.slice (some ⟨gb,0,none⟩) 1 1) (by decide) rfl
    generalize hB5:Act.put _ _ _=A at HF⊢
    refine tqO 3 31 (by kernel_rfl) HF fun K hK=>?_
    refine J1 (xs:=l) x4 _ _ rfl (HF.get 4 rfl) RRb.o.1 (by have:=MRb.o.size;omega) (by omega) (HF.get 0 rfl) BL.o ?_
    intro v' wqba hr' ht' hv'
    obtain⟨mA,rA⟩:=MRb.o.grew RRb.o (Nat.le_refl _) ht' hr' hv'
    have MA:=hQQ mA
    have RA:=hQQ rA
    clear mA rA hr' ht' hv'
    refine hK _ _ (KL.o _ _ _ MA.o) fun A hB6 HF=>?_
    clear hK K
    refine tqO 6 34 (by kernel_rfl) HF fun K hK=>?_
    refine bO (v0:=.agg c.arr) (v1:=.int .i64 x4) rfl (HF.get 3 rfl) (HF.get 2 rfl) (enters_of Tryz.func136 (by kernel_rfl) rfl) ?_
    refine(mw HR.o wqba x4).mono ?_
    rw[P3.o]
    rintro e wqban ⟨rfl,hn'⟩
    have MAn:=hQQ (MA.o.more hn')
    have RAn:=hQQ (RA.o.more hn')
    skip
    clear hn'
    refine hK _ _ (KL.o _ _ _ MAn.o) fun A hB7 HF=>?_
    clear hK K
    refine tqM 7 10 1 rfl (.inr rfl) rfl (by kernel_rfl) FINQ (KL.o _ _ _ MAn.o) HF fun A hC1 HF=>?_
    refine tqM 8 12 1 rfl (.inr rfl) rfl (by kernel_rfl) FINQ (KL.o _ _ _ MAn.o) HF fun A hC2 HF=>?_
    exact bU (by kernel_rfl) (FINE _ _ ⟨_,_,_,_,_,_,_,v',D4,F4,by rw[←hC2,←hC1,←hB7,←hB6,←hB5,←hB4,←hB3,←hB2,←hB1]<;>rfl,MAn.o,RAn.o⟩)
   ·have hie:(i:Int)=c.pg:=by omega
    have d3:decide ((i:Int)<c.pg)=false:=by simp;omega
    rw[show c.pg.toNat-i=0 by omega] at hrest
    have FIN:=hQQ (DONE.o (l,false) (.tuple #[v10,.bool false]) wr D' F' hrest.symm MI.o ⟨v10,rfl,RWI.o.mono hw1⟩)
    clear hrest
    go_wp2_with fail
    go_step3
    go_wp2_with fail
    go_ret2
    exact FIN.o
 ·rintro a w' ⟨v,b,u12,u13,u14,u15,u16,u17,u18,u19,u20,u21,u22,u23,u24,u25,u26,u27,u28,u29,u30,u31,u32,u33,u34,u35,u36,u37,u38,u39,u40,u41,u42,rfl,l,D4,F4,hE,MS,RS⟩
  have FIN:=hQQ (DONE.o (l,b) (.tuple #[v,.bool b]) w' D4 F4 hE MS ⟨v,rfl,RS.mono hw1⟩)
  clear hE MS RS
  go_wp2_with fail
  go_ret2
  exact FIN.o
end Go.Proofs.YtddmeghbmdfgeaaGreatDoor
