/-
  Regions that draw their order: what an operation there yields, or comes to; what is known of a frame.
-/
import Derived.Test.YtddmeghbmdfgeaaGreatDoorFlAg
import Derived.Test.YtddmeghbmdfgeaaGreatDoorFlAe
import Derived.Test.YtddmeghbmdfgeaaGreatDoorFlAf
set_option maxRecDepth 100000
set_option maxHeartbeats 8000000
set_option linter.unusedVariables false
set_option linter.unusedSimpArgs false
set_option linter.unusedSectionVars false
namespace Go.Proofs.YtddmeghbmdfgeaaGreatDoor
open Go.RowKit
section
variable {P:Program}{o:Oper}{a:Act}{w:World}{K:Act→World→Prop}{Q:Exit→Act→World→Prop}
theorem MQ {f:Nat}{ts:Array TypeId}(ho:o.op=.call { callee:= .value (.func f),args:= #[],argTypes:=ts })(he:∀(vs:Array Value)(w:World),Sem.run P (callFunc f vs) w=.ok (.enter f vs) w)
 (h:Calls P f #[] w (fun| .returned v,w''=>K (a.put o.dst v) w''| .panicked ch,w''=>Q (.panic ch) a w''| .outgrown,_=>LetsOut Q)):o.wp P a w K Q:=by
 have hv:a.eval (.func f)=.func (.func f) #[] #[]:=rfl
 unfold Oper.wp Oper.upon
 generalize hρ:a.eval=ρ at hv⊢
 simp[execOp,ho,resolve,invoke,hv,he,Sem.run_bind,Result.andThen,go_sem]
 exact h
theorem mP {f:Nat}{x0:Operand}{v0:Value}{ts:Array TypeId}(ho:o.op=.call { callee:= .value (.func f),args:= #[x0],argTypes:=ts })(h0:a.eval x0=v0)(he:∀(vs:Array Value)(w:World),Sem.run P (callFunc f vs) w=.ok (.enter f vs) w)
 (h:Calls P f #[v0] w (fun| .returned v,w''=>K (a.put o.dst v) w''| .panicked ch,w''=>Q (.panic ch) a w''| .outgrown,_=>LetsOut Q)):o.wp P a w K Q:=by
 have hv:a.eval (.func f)=.func (.func f) #[] #[]:=rfl
 unfold Oper.wp Oper.upon
 generalize hρ:a.eval=ρ at h0 hv⊢
 simp[execOp,ho,resolve,invoke,hv,h0,he,Sem.run_bind,Result.andThen,go_sem]
 exact h
theorem bI {f:Nat}{x0 x1:Operand}{v0 v1:Value}{ts:Array TypeId}(ho:o.op=.call { callee:= .value (.func f),args:= #[x0,x1],argTypes:=ts })(h0:a.eval x0=v0)(h1:a.eval x1=v1)(he:∀(vs:Array Value)(w:World),Sem.run P (callFunc f vs) w=.ok (.enter f vs) w)
 (h:Calls P f #[v0,v1] w (fun| .returned v,w''=>K (a.put o.dst v) w''| .panicked ch,w''=>Q (.panic ch) a w''| .outgrown,_=>LetsOut Q)):o.wp P a w K Q:=by
 have hv:a.eval (.func f)=.func (.func f) #[] #[]:=rfl
 unfold Oper.wp Oper.upon
 generalize hρ:a.eval=ρ at h0 h1 hv⊢
 simp[execOp,ho,resolve,invoke,hv,h0,h1,he,Sem.run_bind,Result.andThen,go_sem]
 exact h
end
theorem DX {P:Program}{md:Region.Mode}{ops:Array Oper}{Q:Exit→Act→World→Prop}{n:Nat}{dn:Array Bool}{a:Act}{w:World} (Φ:World→Prop)(ch:List PanicEntry)(fin:∀a w,a.defers= []→Φ w→Q (.panic ch) a w)(h:∀Q':Exit→Act→World→Prop,(∀a w,a.defers= []→Φ w→Q' (.panic ch) a w)→wpAny P md ops Q' n dn a w):wpAny P md ops Q n dn a w:=h Q fin
def AG (m:Nat)(a:Act)(L:List (Nat×Value)):Prop:=(m≤a.tmps.size∧a.defers= [])∧∀q∈L,a.eval (.tmp q.1)=q.2
theorem AG.put {m:Nat}{a:Act}{L:List (Nat×Value)}(h:AG m a L)(d:Nat)(v:Value)(hd:d<m)(hn:L.all (fun q=>q.1 != d)=true):AG m (a.put (some d) v) ((d,v)::L):=by
 have hs:=h.1.1
 refine⟨⟨by simp[Act.put];exact hs,h.1.2⟩,?_⟩
 intro q hq
 rcases List.mem_cons.1 hq with rfl|hq
 ·have hlt:d<a.tmps.size:=by omega
  simp[Act.put,Act.eval,Array.getD,hlt]
 ·rw[Act.eval_put (by have:=List.all_eq_true.1 hn q hq;simp at this;rintro _ ⟨⟩;simp[this])]
  exact h.2 q hq
theorem AG.get {m:Nat}{a:Act}{L:List (Nat×Value)}(h:AG m a L)(i:Nat){k:Nat}{v:Value}(hm:L[i]?=some (k,v)):a.eval (.tmp k)=v:=h.2 (k,v) (List.mem_of_getElem? hm)
theorem JD {P:Program}{md:Region.Mode}{ops:Array Oper}{Q:Exit→Act→World→Prop}{n:Nat}{dn:Array Bool}{A:Act}{W:World}(m:Nat)(L:List (Nat×Value))(hA:AG m A L)(h:∀a,AG m a L→wpAny P md ops Q n dn a W):wpAny P md ops Q n dn A W:=h A hA
section
variable {P:Program}{o:Oper}{a:Act}{w:World}{K:Act→World→Prop}{Q:Exit→Act→World→Prop}
theorem dP {f:Nat}{x0 x1 x2:Operand}{v0 v1 v2:Value}{ts:Array TypeId}(ho:o.op=.call { callee:= .value (.func f),args:= #[x0,x1,x2],argTypes:=ts })(h0:a.eval x0=v0)(h1:a.eval x1=v1)(h2:a.eval x2=v2)(he:∀(vs:Array Value)(w:World),Sem.run P (callFunc f vs) w=.ok (.enter f vs) w)
 (h:Calls P f #[v0,v1,v2] w (fun| .returned v,w''=>K (a.put o.dst v) w''| .panicked ch,w''=>Q (.panic ch) a w''| .outgrown,_=>LetsOut Q)):o.wp P a w K Q:=by
 have hv:a.eval (.func f)=.func (.func f) #[] #[]:=rfl
 unfold Oper.wp Oper.upon
 generalize hρ:a.eval=ρ at h0 h1 h2 hv⊢
 simp[execOp,ho,resolve,invoke,hv,h0,h1,h2,he,Sem.run_bind,Result.andThen,go_sem]
 exact h
theorem DY {xf:Operand}{f:Nat}{clo:Array Value}{x0:Operand}{v0:Value}{ts:Array TypeId}(ho:o.op=.call { callee:= .value xf,args:= #[x0],argTypes:=ts })(hf:a.eval xf=.func (.func f) #[] clo)(h0:a.eval x0=v0)(he:∀(vs:Array Value)(w:World),Sem.run P (callFunc f vs) w=.ok (.enter f vs) w)
 (h:Calls P f (#[v0]++clo) w (fun| .returned v,w''=>K (a.put o.dst v) w''| .panicked ch,w''=>Q (.panic ch) a w''| .outgrown,_=>LetsOut Q)):o.wp P a w K Q:=by
 unfold Oper.wp Oper.upon
 generalize hρ:a.eval=ρ at h0 hf⊢
 simp[execOp,ho,resolve,invoke,hf,h0,he,Sem.run_bind,Result.andThen,go_sem]
 exact h
end
theorem bK {P:Program}{md:Region.Mode}{ops:Array Oper}{C:World→Prop}{Q:Exit→Act→World→Prop}{f:Nat}{d:Array Bool}{a:Act}{w:World} (Φ:Act→World→Prop) (Ψ:World→Prop)(ch:List PanicEntry)(fp:∀a w,a.defers= []→Ψ w→Q (.panic ch) a w)(fq:∀c a k v w,Q (.panic c) (Act.put a (some k) v) w→Q (.panic c) a w)(fn:∀a w,Φ a w→Q .normal a w)
 (h:∀Q':Exit→Act→World→Prop,(∀a w,Φ a w→Q' .normal a w)→(∀a w,a.defers= []→Ψ w→Q' (.panic ch) a w)→(∀c a k v w,Q' (.panic c) (Act.put a (some k) v) w→Q' (.panic c) a w)→dq P md ops C Q' f d a w):dq P md ops C Q f d a w:=h Q fn fp fq
theorem JE {P:Program}{md:Region.Mode}{ops:Array Oper}{C:World→Prop}{Q:Exit→Act→World→Prop}{n:Nat}{dn:Array Bool}{A:Act}{W:World}(m:Nat)(L:List (Nat×Value))(hA:AG m A L)(h:∀a,AG m a L→dq P md ops C Q n dn a W):dq P md ops C Q n dn A W:=h A hA
theorem AG.getD {m:Nat}{a:Act}{L:List (Nat×Value)}(h:AG m a L)(i:Nat){k:Nat}{v:Value}(hm:L[i]?=some (k,v)):a.tmps[k]?.getD undef=v:=by
 have:=h.get i hm
 simpa [Act.eval] using this
section
variable {P:Program}{ops:Array Oper}{md:Region.Mode}{C:World→Prop}{Q:Exit→Act→World→Prop}
theorem cL {o:Oper}{tmps:Array Value}(g:Nat)(b:Bool)(d:Tmp)(hg:o.guard=some (g,b))(hd:(ops[g]?).bind (·.dst)=some d)(h:tmps[d]?=some (.bool b)):Region.wanted o (yielded ops tmps)=true:=by
 simp[Region.wanted,hg,yielded,hd,h]
theorem ab {o:Oper}{f:Nat→Option Bool}(hg:o.guard=none):Region.wanted o f=true:=by simp[Region.wanted,hg]
theorem AG.at {m:Nat}{a:Act}{L:List (Nat×Value)}(h:AG m a L){k:Nat}(hk:k<m)(i:Nat){v:Value}(hm:L[i]?=some (k,v)):a.tmps[k]?=some v:=by
 have h1:=h.getD i hm
 have hl:k<a.tmps.size:=Nat.lt_of_lt_of_le hk h.1.1
 rw[Array.getElem?_eq_getElem hl] at h1⊢
 simpa using h1
theorem aH {o:Oper}{a:Act}{v:Value}(hw:Region.wanted o (yielded ops a.tmps)=true)(x:Operand)(ho:o.op=.move x)(hx:a.eval x=v):bT P ops C o v a :=
 .inl ⟨hw,fun w _=>by unfold execOp;simp only[ho,hx];rfl⟩
theorem ig {o:Oper}{a:Act}{v:Value}{x y z:Operand}(hw:Region.wanted o (yielded ops a.tmps)=true)(ho:o.op=.pick x y z)(hx:a.eval x=.bool true)(hy:a.eval y=v):bT Tryz.prog ops C o v a :=
 .inl ⟨hw,fun w _=>by unfold execOp;generalize a.eval=ρ at hx hy⊢;simp only[ho,hx,hy];go_simp⟩
theorem az {i:Nat}{o:Oper}{fuel:Nat}{listed:Array Bool}{a:Act}{w:World}(d:Option Tmp)(hr:Region.ready md ops listed= [i])(hi:ops[i]?=some o)(hw:Region.wanted o (yielded ops a.tmps)=true)(hd:o.dst=d)
 (h:∀K:Act→World→Prop,(∀v w',C w'→dq P md ops C Q fuel (listed.setIfInBounds i true) (a.put d v) w'→K (a.put o.dst v) w')→Oper.wp P o a w K Q):dq P md ops C Q (fuel+1) listed a w:=by
 subst hd
 exact yr hr hi hw (h _ (fun v w' hc hA=>⟨hc,hA⟩))
theorem mQ {i:Nat}{o:Oper}{fuel:Nat}{listed:Array Bool}{a:Act}{w:World}(hr:Region.ready md ops listed= [i])(hr2:Region.ready md ops (listed.setIfInBounds i true)= [])(hi:ops[i]?=some o)(hw:Region.wanted o (yielded ops a.tmps)=true)
 (h:∀K:Act→World→Prop,(∀v w',C w'→Q .normal (a.put o.dst v) w'→K (a.put o.dst v) w')→Oper.wp P o a w K Q):dq P md ops C Q (fuel+1) listed a w :=
 yr hr hi hw (h _ (fun v w' hc hq=>⟨hc,bQ hr2 hq⟩))
variable {o:Oper}{a:Act}{w:World}{K:Act→World→Prop}
theorem j2 {f:Nat}{x0 x1 x2 x3 x4:Operand}{v0 v1 v2 v3 v4:Value}{ts:Array TypeId}(ho:o.op=.call { callee:= .value (.func f),args:= #[x0,x1,x2,x3,x4],argTypes:=ts })(h0:a.eval x0=v0)(h1:a.eval x1=v1)(h2:a.eval x2=v2)(h3:a.eval x3=v3)(h4:a.eval x4=v4)(he:∀(vs:Array Value)(w:World),Sem.run P (callFunc f vs) w=.ok (.enter f vs) w)
 (h:Calls P f #[v0,v1,v2,v3,v4] w (fun| .returned v,w''=>K (a.put o.dst v) w''| .panicked ch,w''=>Q (.panic ch) a w''| .outgrown,_=>LetsOut Q)):o.wp P a w K Q:=by
 have hv:a.eval (.func f)=.func (.func f) #[] #[]:=rfl
 unfold Oper.wp Oper.upon
 generalize hρ:a.eval=ρ at h0 h1 h2 h3 h4 hv⊢
 simp[execOp,ho,resolve,invoke,hv,h0,h1,h2,h3,h4,he,Sem.run_bind,Result.andThen,go_sem]
 exact h
end
section
variable {P:Program}{ops:Array Oper}{md:Region.Mode}{C:World→Prop}{Q:Exit→Act→World→Prop}{o:Oper}{a:Act}{v:Value}
theorem uz {x y z:Operand}(hw:Region.wanted o (yielded ops a.tmps)=true)(ho:o.op=.pick x y z)(hx:a.eval x=.bool false)(hz:a.eval z=v):bT Tryz.prog ops C o v a :=
 .inl ⟨hw,fun w _=>by unfold execOp;generalize a.eval=ρ at hx hz⊢;simp only[ho,hx,hz];go_simp⟩
theorem jC (hw:Region.wanted o (yielded ops a.tmps)=true)(x:Operand)(ho:o.op=.load 3 x)(g:Nat)(hx:a.eval x=.pointer (some ⟨g,0,none⟩))(z:Int)(hg:∀w,C w→w.heap[g]?=some (.cells #[.int .i64 z] 3 (0,0))):bT Tryz.prog ops C o (.int .i64 z) a :=
 .inl ⟨hw,fun w hC=>by
  have hl:(loadVar 3 ⟨g,0,none⟩).run Tryz.prog w=.ok (.int .i64 z) w:=fC Tryz.underlying3 rfl (by simp[World.cell?,hg w hC])
  unfold execOp
  simp only[ho,hx,Instr.loadAt,Instr.sureAddr,Sem.run_bind,Sem.run_pure,Result.andThen_ok,hl]⟩
theorem gw {x y:Operand}{u z:Int}(hw:Region.wanted o (yielded ops a.tmps)=true)(ho:o.op=.binOp .add 3 x y 3)(hx:a.eval x=.int .i64 u)(hy:a.eval y=.int .i64 z)(t:Int)(hq:IntKind.i64.wrap (u+z)=t):bT Tryz.prog ops C o (.int .i64 t) a :=
 .inl ⟨hw,fun w _=>by unfold execOp;generalize a.eval=ρ at hx hy⊢;simp only[ho,hx,hy];subst hq;go_simp⟩
theorem yt {x y:Operand}{u z:Int}(hw:Region.wanted o (yielded ops a.tmps)=true)(ho:o.op=.binOp .eql 3 x y 3)(hx:a.eval x=.int .i64 u)(hy:a.eval y=.int .i64 z)(b:Bool)(hb:(u==z)=b):bT Tryz.prog ops C o (.bool b) a :=
 .inl ⟨hw,fun w _=>by unfold execOp;generalize a.eval=ρ at hx hy⊢;simp only[ho,hx,hy];subst hb;go_simp⟩
variable {w:World}{K:Act→World→Prop}
theorem sB {f:Nat}{x0 x1 x2 x3:Operand}{v0 v1 v2 v3:Value}{ts:Array TypeId}(ho:o.op=.call { callee:= .value (.func f),args:= #[x0,x1,x2,x3],argTypes:=ts })(h0:a.eval x0=v0)(h1:a.eval x1=v1)(h2:a.eval x2=v2)(h3:a.eval x3=v3)(he:∀(vs:Array Value)(w:World),Sem.run P (callFunc f vs) w=.ok (.enter f vs) w)
 (h:Calls P f #[v0,v1,v2,v3] w (fun| .returned v,w''=>K (a.put o.dst v) w''| .panicked ch,w''=>Q (.panic ch) a w''| .outgrown,_=>LetsOut Q)):o.wp P a w K Q:=by
 have hv:a.eval (.func f)=.func (.func f) #[] #[]:=rfl
 unfold Oper.wp Oper.upon
 generalize hρ:a.eval=ρ at h0 h1 h2 h3 hv⊢
 simp[execOp,ho,resolve,invoke,hv,h0,h1,h2,h3,he,Sem.run_bind,Result.andThen,go_sem]
 exact h
end
section
variable {P:Program}{ops:Array Oper}{md:Region.Mode}{C:World→Prop}{Q:Exit→Act→World→Prop}
theorem j3 {i j:Nat}{oi oj:Oper}{fuel:Nat}{listed:Array Bool}{a:Act}{w:World}(di dj:Option Tmp)(hr:Region.ready md ops listed= [i,j])(hi:ops[i]?=some oi)(hj:ops[j]?=some oj)(wi:Region.wanted oi (yielded ops a.tmps)=true)(wj:Region.wanted oj (yielded ops a.tmps)=true)(hdi:oi.dst=di)(hdj:oj.dst=dj)
 (h1:∀K:Act→World→Prop,(∀v w',C w'→dq P md ops C Q fuel (listed.setIfInBounds i true) (a.put di v) w'→K (a.put oi.dst v) w')→Oper.wp P oi a w K Q)
 (h2:∀K:Act→World→Prop,(∀v w',C w'→dq P md ops C Q fuel (listed.setIfInBounds j true) (a.put dj v) w'→K (a.put oj.dst v) w')→Oper.wp P oj a w K Q):dq P md ops C Q (fuel+1) listed a w:=by
 subst hdi
 subst hdj
 refine⟨fun q=>(by rw[hr] at q;cases q),fun k hk=>?_⟩
 rw[hr] at hk
 rcases List.mem_cons.1 hk with rfl|hk
 ·unfold Go.wpOp
  simp only[hi,wi,if_true]
  exact .inl (h1 _ (fun v w' hc hA=>⟨hc,hA⟩))
 ·obtain rfl:=List.mem_singleton.1 hk
  unfold Go.wpOp
  simp only[hj,wj,if_true]
  exact .inl (h2 _ (fun v w' hc hA=>⟨hc,hA⟩))
theorem cy {o:Oper}{a:Act}{v:Value}(hw:Region.wanted o (yielded ops a.tmps)=true)(x:Operand)(ho:o.op=.assign x)(hx:a.eval x=v):bT P ops C o v a :=
 .inl ⟨hw,fun w _=>by unfold execOp;simp only[ho,hx];rfl⟩
theorem AG.sub {m:Nat}{a:Act}{L L':List (Nat×Value)}(h:AG m a L)(hs:∀q∈L',q∈L):AG m a L':=⟨h.1,fun q hq=>h.2 q (hs q hq)⟩
variable {o:Oper}{a:Act}{w:World}{K:Act→World→Prop}
theorem DZ {x:Operand}(ho:o.op=.buildSlice 29 1 #[(0,x)])(z:Int)(hx:a.eval x=.int .i64 z)(h:K (a.put o.dst (.slice (some ⟨w.heap.size,0,none⟩) 1 1)) (w.alloc (.cells #[.int .i64 z] 3))):Oper.wp Tryz.prog o a w K Q:=by
 unfold Oper.wp Oper.upon execOp
 simp only[ho]
 generalize a.eval=ρ at hx⊢
 go_simp
 exact h
theorem CH {base g:Nat}{v:Value}{xs:List Int}(y:Int)(s x:Operand)
 (ho:o.op=.call { callee:= .builtin .append,args:= #[s,x],argTypes:= #[29,29] })
 (hs:a.eval s=v) (hn:Rw base w v xs) (hb:base≤w.heap.size) (hl:xs.length≤1000000)
 (hx:a.eval x=.slice (some ⟨g,0,none⟩) 1 1) (hg:w.heap[g]?=some (.cells #[.int .i64 y] 3 (0,0)))
 (h:∀v' w',Rw base w' v' (xs++ [y])→Turned (fun k=>v.ownBlock=some k) w w'→(∀k,v'.ownBlock=some k→v.ownBlock=some k∨k=w.heap.size)→K (a.put o.dst v') w'):o.wp Tryz.prog a w K Q:=by
 obtain⟨i,i1,i2,i3,i4⟩:=jc
 refine wp_append_lies w s x 29 ho base 3 i _ 1 8 Tryz.underlying29 i1 i2 i3 i4 rfl (by omega) v xs.length _ hs hn ⟨g,0,none⟩ 1 1 [.int .i64 y] hx (by simp)
  (fun j u hu=>World.news_of_block hg j u (by simpa using hu)) (by intro u hu;simp at hu;subst hu;rfl) (by omega) (by simp only[maxLen];omega) (by omega) hb _ rfl ?_
 intro g' cap w1 hown hgrow h4 _
 have ht:Turned (fun k=>v.ownBlock=some k) w w1:=⟨hgrow.os,hgrow.tape,hgrow.output,hgrow.size,fun k hk hne=>hgrow.block k hk (fun e=>hne e.symm)⟩
 refine h _ w1 ?_ ht (fun k q=>?_)
 ·unfold Rw
  rw[List.length_append,List.map_append]
  exact hown
 ·have:k=g':=by simpa [Value.ownBlock,eq_comm] using q
  subst this
  exact h4
end
section
variable {P:Program}{ops:Array Oper}{C:World→Prop}{o:Oper}{a:Act}
theorem dS (hw:Region.wanted o (yielded ops a.tmps)=true)(ty:TypeId)(x:Operand)(ho:o.op=.load ty x)(g i:Nat)(hx:a.eval x=.pointer (some ⟨g,i,none⟩))(v:Value)(d:TypeDesc)(hu:P.underlying ty=some d)(hd:(match d with| .struct _| .array _ _=>true|_=>false)=false)(hg:∀w,C w→w.cell? ⟨g,i,none⟩=some v):bT P ops C o v a :=
 .inl ⟨hw,fun w hC=>by
  have hl:(loadVar ty ⟨g,i,none⟩).run P w=.ok v w:=fC hu hd (hg w hC)
  unfold execOp
  simp only[ho,hx,Instr.loadAt,Instr.sureAddr,Sem.run_bind,Sem.run_pure,Result.andThen_ok,hl]⟩
end
def Lx (md:Region.Mode)(ops:Array Oper)(listed:Array Bool)(i d m:Nat)(L:List (Nat×Value)):Bool:=Region.noSelect ops && (Region.free md ops listed i && ((Region.ready md ops listed).contains i && (decide (i<ops.size) && (((ops.getD i default).dst==some d) && (decide (d<m) && L.all (fun q=>q.1 != d))))))
section
variable {P:Program}{md:Region.Mode}{ops:Array Oper}{C:World→Prop}{Q:Exit→Act→World→Prop}{fuel:Nat}{listed:Array Bool}{a:Act}{w:World}{m:Nat}{L:List (Nat×Value)}
theorem tqC (i d:Nat)(v:Value)(hB:Lx md ops listed i d m L=true)(hQ:∀c a k v w,Q (.panic c) (Act.put a (some k) v) w→Q (.panic c) a w)(hC:C w)(HF:AG m a L)(hy:bT P ops C (ops.getD i default) v a)
 (h:∀A,Act.put a (some d) v=A→AG m A ((d,v)::L)→dq P md ops C Q fuel (listed.setIfInBounds i true) A w):dq P md ops C Q (fuel+1) listed a w:=by
 unfold Lx at hB
 simp only[Bool.and_eq_true] at hB
 obtain⟨h1,h2,h3,h4,h5,h6,h7⟩:=hB
 have h4:=of_decide_eq_true h4
 have hi:ops[i]?=some (ops.getD i default):=by rw[Array.getElem?_eq_getElem h4];simp[Array.getD,h4]
 exact aG (some d) hi (eq_of_beq h5) h1 h2 h3 (fun c a w=>hQ c a _ _ w) hC hy (h _ rfl (HF.put d v (of_decide_eq_true h6) h7))
theorem tqM (i d k:Nat){s:Nat}{v:Value}(hL:L[k]?=some (s,v))(ho:(ops.getD i default).op=.move (.tmp s)∨(ops.getD i default).op=.assign (.tmp s))(hg:(ops.getD i default).guard=none)(hB:Lx md ops listed i d m L=true)(hQ:∀c a k v w,Q (.panic c) (Act.put a (some k) v) w→Q (.panic c) a w)(hC:C w)(HF:AG m a L)
 (h:∀A,Act.put a (some d) v=A→AG m A ((d,v)::L)→dq P md ops C Q fuel (listed.setIfInBounds i true) A w):dq P md ops C Q (fuel+1) listed a w :=
 tqC i d v hB hQ hC HF (by
  rcases ho with ho|ho
  ·exact aH (ab hg) _ ho (HF.get k hL)
  ·exact cy (ab hg) _ ho (HF.get k hL)) h
end
abbrev pts (A:Act)(l:List (Nat×Value)):Act:=l.foldl (fun a q=>a.put (some q.1) q.2) A
open Go.Sort Go.Maps Go.Shelf
theorem Nv {c:Cfg}(R:c.Ok)(w:World):Calls Tryz.prog 32 #[.agg c.cells] w (aU w (.tuple #[.agg c.arr,.int .i64 0])):=FM c.wk c.cp c.pg c.st c.tr c.wt c.ck c.pr c.ca c.bi c.ba w R
theorem Gz {c:Cfg}(R:c.Ok)(w:World):Calls Tryz.prog 72 #[.agg c.cells] w (aU w (.int .i64 c.words)):=Lw c.wk c.cp c.pg c.st c.tr c.wt c.ck c.pr c.ca c.bi c.ba w R
theorem Ea (c:Cfg)(W:World):(Instr.build 73 #[(0,.agg c.cells)]).run Tryz.prog W=.ok (.agg c.cells) W:=run_build W _ _ _ (by kernel_rfl)
theorem gg (c:Cfg):c.cells.all (·.oneCell')=true:=by simp[Cfg.cells,Value.oneCell']
theorem mR (c:Cfg):c.arr.all (·.oneCell')=true:=kx ..
theorem AC {ops:Array Oper}{rest:List Oper}{o:Oper}{a:Act}{w:World}{Q:Exit→Act→World→Prop}(hw:Region.wanted o (yielded ops a.tmps)=true)(x:Operand)(ho:o.op=.build 73 #[(0,x)])(c:Cfg)
 (hx:a.eval x=.agg c.cells) (h:wpList Tryz.prog ops Q rest (a.put o.dst (.agg c.cells)) w):wpList Tryz.prog ops Q (o::rest) a w :=
 eC hw fun K hK=>by
  have hb:=Ea c w
  unfold Oper.wp execOp
  simp only[ho,List.map_toArray,List.map_cons,List.map_nil,hx,Sem.run_bind,hb,Result.andThen_ok]
  exact hK _ _ h
theorem yu {P:Program}{fn:Func}{p q u:Tmp}{tp tq:TypeId}(h:fn.results= #[.cell p tp,.cell q tq,.tmp u])(tmps:Array Value)(w:World)(g g':Nat)(v v':Value)(hp:tmps.getD p undef=.pointer (some ⟨g,0,none⟩))(hq:tmps.getD q undef=.pointer (some ⟨g',0,none⟩))
 (h1:(loadVar tp ⟨g,0,none⟩).run P w=.ok v w) (h2:(loadVar tq ⟨g',0,none⟩).run P w=.ok v' w):(results fn tmps).run P w=.ok (.tuple #[v,v',tmps.getD u undef]) w:=by
 have hp':tmps[p]?.getD undef=.pointer (some ⟨g,0,none⟩):=by simpa using hp
 have hq':tmps[q]?.getD undef=.pointer (some ⟨g',0,none⟩):=by simpa using hq
 simp[results,h,asAddr,hp',hq',h1,h2,Sem.run_bind,Result.andThen]
def GA (w:World)(c:Cfg)(e:Ending)(w':World):Prop :=
 ∃(g n:Nat),(n:Int)=c.words∧e=.returned (.tuple #[.agg c.arr,.agg c.cells,.slice (some ⟨g,0,none⟩) n n])∧Rw w.heap.size w' (.slice (some ⟨g,0,none⟩) n n) (cO n)∧ae w w'
section
variable {P:Program}{o:Oper}{a:Act}{w:World}{K:Act→World→Prop}{Q:Exit→Act→World→Prop}
theorem sC {f:Nat}{x0:Operand}{v0:Value}{ts:Array TypeId}(ho:o.op=.call { callee:= .value (.func f),args:= #[x0],argTypes:=ts })(h0:a.eval x0=v0)(he:∀(vs:Array Value)(w:World),Sem.run P (callFunc f vs) w=.ok (.enter f vs) w)
 (h:Calls P f #[v0] w (fun| .returned v,w''=>K (a.put o.dst v) w''| .panicked ch,w''=>Q (.panic ch) a w''| .outgrown,_=>LetsOut Q)):o.wp P a w K Q:=by
 have hv:a.eval (.func f)=.func (.func f) #[] #[]:=rfl
 unfold Oper.wp Oper.upon
 generalize hρ:a.eval=ρ at h0 hv⊢
 simp[execOp,ho,resolve,invoke,hv,h0,he,Sem.run_bind,Result.andThen,go_sem]
 exact h
theorem wQ {t e:TypeId}{x:Operand}(ho:o.op=.makeSlice t x x){n:Nat}{L:Int}(hx:a.eval x=.int .i64 L)(hL:L=(n:Int))(i:TypeInfo)(z:Value)(h1:P.underlying t=some (.slice e))(h2:P.info? e=some i)(h3:i.zero=some z)(h4:i.size=1)(b2:i.bytes * n≤281474976710656)(b3:n≤maxLen)
 (h:∀w',w'.ownsRow w.heap.size e 1 (.slice (some ⟨w.heap.size,0,none⟩) n n) n (madeCells z.cells (n * 1)).toList→w.grownBy w' none→K (a.put o.dst (.slice (some ⟨w.heap.size,0,none⟩) n n)) w'):o.wp P a w K Q:=by
 obtain⟨w',hrun,r1,r2⟩:=run_make_full (P:=P) (w:=w) w.heap.size t e i z 1 h1 h2 h3 h4 .i64 .i64 n b2 b3 (Nat.le_refl _)
 subst hL
 unfold Oper.wp Oper.upon
 generalize hρ:a.eval=ρ at hx⊢
 simp[execOp,ho,hx,hrun,Result.andThen,Sem.run_bind]
 exact h w' r1 r2
theorem pW {x:Operand}(ho:o.op=.assign x){v:Value}(hx:a.eval x=v)(h:K (a.put o.dst v) w):o.wp P a w K Q:=by
 unfold Oper.wp execOp
 simp only[ho,hx]
 exact h
theorem dL {md:Region.Mode}{ops:Array Oper}{fuel:Nat}{listed:Array Bool}{i:Nat}{rs:List Nat}(d:Option Tmp)(ho:ops[i]?=some o)(hg:o.guard=none)(hd:o.dst=d)
 (h:∀K':Act→World→Prop,(∀v w,wpAny P md ops Q fuel (listed.setIfInBounds i true) (a.put d v) w→K' (a.put o.dst v) w)→Oper.wp P o a w K' Q)
 (hs:AllReady P md ops Q fuel listed a w rs):AllReady P md ops Q fuel listed a w (i::rs):=
 AllReady.cons ho (fun K hK=>by
  rw[if_pos (by simp[Region.wanted,hg])]
  exact h K fun v w' q=>hK _ _ (by rw[hd];exact q)) hs
end
def AF (a:Act)(L:List (Nat×Value)):Prop:=(22≤a.tmps.size∧a.defers= [])∧∀q∈L,a.eval (.tmp q.1)=q.2
structure BS (w w6:World)(d:Cfg)(x1 x2:Array Value)(W:World):Prop where
 a1:W.heap[w6.heap.size]?=some (.cells d.arr 28 (0,0))
 a2:W.heap[w6.heap.size+1]?=some (.cells d.cells 73 (0,0))
 r1:W.heap[w.heap.size+1]?=some (.cells x1 28 (0,0))
 r2:W.heap[w.heap.size+2]?=some (.cells x2 73 (0,0))
 more:ae w W
 s6:w.heap.size+3≤w6.heap.size
theorem BS.step {w w6 W W':World}{d:Cfg}{x1 x2:Array Value}(h:BS w w6 d x1 x2 W)(m:ae W W'):BS w w6 d x1 x2 W':=⟨m.block h.a1,m.block h.a2,m.block h.r1,m.block h.r2,h.more.trans m,h.s6⟩
theorem BS.put1 {w w6 W:World}{d:Cfg}{x1 x2:Array Value}(h:BS w w6 d x1 x2 W)(ys:Array Value):BS w w6 d ys x2 (W.setRow (w.heap.size+1) ys):=
 ⟨(setRow_other _ _ _ _ (by have:=h.s6;omega)).trans h.a1,(setRow_other _ _ _ _ (by have:=h.s6;omega)).trans h.a2,setRow_heap _ _ _ _ _ _ h.r1,(setRow_other _ _ _ _ (by omega)).trans h.r2,h.more.setRow _ _ (by omega),h.s6⟩
theorem BS.put2 {w w6 W:World}{d:Cfg}{x1 x2:Array Value}(h:BS w w6 d x1 x2 W)(ys:Array Value):BS w w6 d x1 ys (W.setRow (w.heap.size+2) ys):=
 ⟨(setRow_other _ _ _ _ (by have:=h.s6;omega)).trans h.a1,(setRow_other _ _ _ _ (by have:=h.s6;omega)).trans h.a2,(setRow_other _ _ _ _ (by omega)).trans h.r1,setRow_heap _ _ _ _ _ _ h.r2,h.more.setRow _ _ (by omega),h.s6⟩
theorem pX {w W:World}{g k n:Nat}{v:Value}{xs:List Int}{cs:Array Value}(h:Rw w.heap.size W v xs)(hk:∀g',v.ownBlock=some g'→g'≠k):Rw w.heap.size (W.setRow k cs) v xs:=by
 refine⟨h.1,?_⟩
 rcases h.2 with q|⟨g,cap,cur,h1,h2,h3,h4⟩
 ·exact .inl q
 ·exact .inr ⟨g,cap,cur,h1,h2,(setRow_other _ _ _ _ (hk g (by rw[h1];rfl))).trans h3,h4⟩
abbrev iC:Array Value:= #[.int .i64 0,.int .i64 0,.int .i64 0,.int .i64 0,.int .i64 0,.int .i64 0,.int .i64 0,.int .i64 0,.int .i64 0,.int .i64 0,.int .i64 0]
abbrev fV:Array Value:= #[.int .i64 0,.int .i64 0,.int .i64 0,.int .i64 0,.int .i64 0,.int .i64 0,.int .i64 0,.int .i64 0,.int .i64 0,.int .i64 0,.int .i64 0,.int .i64 0,.int .i64 0,.int .i64 0,.int .i64 0,.int .i64 0,.int .i64 0,.int .i64 0,.int .i64 0,.int .i64 0,.int .i64 0,.int .i64 0,.int .i64 0,.int .i64 0]
theorem Eb {c:Cfg}(R:c.Ok)(y0 y1 y2 y3 y4 y5 y6 y7 y8 y9 y10:Int)(w:World)(hS:∀W,Calls Tryz.prog 68 #[.agg #[.int .i64 y0,.int .i64 y1,.int .i64 y2,.int .i64 y3,.int .i64 y4,.int .i64 y5,.int .i64 y6,.int .i64 y7,.int .i64 y8,.int .i64 y9,.int .i64 y10]] W (aU W (.agg #[.int .i64 c.wk,.int .i64 c.cp,.int .i64 c.pg,.int .i64 c.st,.int .i64 c.tr,.int .i64 c.wt,.int .i64 c.ck,.int .i64 c.pr,.int .i64 c.ca,.int .i64 c.bi,.int .i64 c.ba]))):
 Calls Tryz.prog 36 #[.agg #[.int .i64 y0,.int .i64 y1,.int .i64 y2,.int .i64 y3,.int .i64 y4,.int .i64 y5,.int .i64 y6,.int .i64 y7,.int .i64 y8,.int .i64 y9,.int .i64 y10]] w (GA w (kH c)):=by
 have S:=qK R
 have SM:=hQQ (fun W=>vg R y0 y1 y2 y3 y4 y5 y6 y7 y8 y9 y10 _ W hS rfl)
 generalize kH c=d at S SM⊢
 have RR:=hQQ S.ok
 obtain⟨wd0,wd1⟩:=S.words
 clear hS R S
 obtain⟨n,hn⟩:∃n:Nat,(n:Int)=d.words:=⟨d.words.toNat,by omega⟩
 obtain⟨i0,hi0,hz0,hz1,hz2⟩:=jc
 obtain⟨w3,e3,hb0,hb1,hb2,m3,s3⟩:=kG w (.cells #[.int .i64 y0,.int .i64 y1,.int .i64 y2,.int .i64 y3,.int .i64 y4,.int .i64 y5,.int .i64 y6,.int .i64 y7,.int .i64 y8,.int .i64 y9,.int .i64 y10] 23) (.cells fV 28) (.cells iC 73)
 have e4:((w.alloc (.cells #[.int .i64 y0,.int .i64 y1,.int .i64 y2,.int .i64 y3,.int .i64 y4,.int .i64 y5,.int .i64 y6,.int .i64 y7,.int .i64 y8,.int .i64 y9,.int .i64 y10] 23)).alloc (.cells #[.int .i64 0,.int .i64 0,.int .i64 0,.int .i64 0,.int .i64 0,.int .i64 0,.int .i64 0,.int .i64 0,.int .i64 0,.int .i64 0,.int .i64 0,.int .i64 0,.int .i64 0,.int .i64 0,.int .i64 0,.int .i64 0,.int .i64 0,.int .i64 0,.int .i64 0,.int .i64 0,.int .i64 0,.int .i64 0,.int .i64 0,.int .i64 0] 28)).alloc (.cells #[.int .i64 0,.int .i64 0,.int .i64 0,.int .i64 0,.int .i64 0,.int .i64 0,.int .i64 0,.int .i64 0,.int .i64 0,.int .i64 0,.int .i64 0] 73)=w3:=e3
 clear e3
 have H0:=hQQ hb0
 have H1:=hQQ hb1
 have H2:=hQQ hb2
 have M3:=hQQ m3
 clear hb0 hb1 hb2 m3
 go_enter Tryz.func36,Tryz.ntmps36
 go_wp2_with (refine wpList_load_row rfl 23 _ rfl w.heap.size rfl 23 _ _ _ H0.o Tryz.underlying23 rfl (by kernel_rfl) ?_)
 refine(SM.o _).mono ?_
 rintro e w4 ⟨rfl,m4⟩
 have H0:=hQQ (m4.block H0.o)
 have H1:=hQQ (m4.block H1.o)
 have H2:=hQQ (m4.block H2.o)
 have M4:=hQQ (M3.o.trans m4)
 have s4:w.heap.size+3≤w4.heap.size:=by have:=m4.size;omega
 clear m4
 go_wp2_with (first
  |(refine wpList_store_row rfl 23 _ _ rfl w.heap.size _ rfl rfl 23 _ H0.o (by kernel_rfl) rfl (gg d) ?_)
  |(refine wpList_load_row rfl 23 _ rfl w.heap.size rfl 23 _ _ _ (setRow_heap _ _ _ _ _ _ H0.o) Tryz.underlying23 rfl (by kernel_rfl) ?_))
 have K0:=hQQ (setRow_heap w4 w.heap.size _ d.cells _ _ H0.o)
 have K1:=hQQ ((setRow_other w4 w.heap.size (w.heap.size+1) d.cells (by omega)).trans H1.o)
 have K2:=hQQ ((setRow_other w4 w.heap.size (w.heap.size+2) d.cells (by omega)).trans H2.o)
 have M5:Hq (ae w (w4.setRow w.heap.size d.cells)):=hQQ (M4.o.setRow _ _ (Nat.le_refl _))
 have s5:w.heap.size+3≤(w4.setRow w.heap.size d.cells).heap.size:=by simpa using s4
 clear H0 H1 H2 M4 s4
 generalize w4.setRow w.heap.size d.cells=w5 at K0 K1 K2 M5 s5⊢
 refine(Nv RR.o _).mono ?_
 rintro e w6 ⟨rfl,m6⟩
 have A1:=a7 w6 fV 28
 have L0:=hQQ (m6.block K0.o)
 have L1:=hQQ (m6.block K1.o)
 have L2:=hQQ (m6.block K2.o)
 have M6:=hQQ (M5.o.trans m6)
 have s6:w.heap.size+3≤w6.heap.size:=by have:=m6.size;omega
 clear K0 K1 K2 M5 s5 m6
 have m7:ae w6 ((w6.alloc (.cells fV 28)).setRow w6.heap.size d.arr):=((ae.refl w6).alloc _).setRow _ _ (Nat.le_refl _)
 have B1:=hQQ (setRow_heap _ _ _ d.arr _ _ A1)
 have B0:=hQQ (m7.block L0.o)
 have B2:=hQQ (m7.block L1.o)
 have B3:=hQQ (m7.block L2.o)
 have M7:=hQQ (M6.o.trans m7)
 have s7:((w6.alloc (.cells fV 28)).setRow w6.heap.size d.arr).heap.size=w6.heap.size+1:=by simp
 go_wp2_with (first
  |(refine wpList_store_row rfl 28 _ _ rfl w6.heap.size _ rfl rfl 28 fV A1 (by kernel_rfl) rfl (mR d) ?_)
  |(refine wpList_load_row rfl 23 _ rfl w.heap.size rfl 23 _ _ _ B0.o Tryz.underlying23 rfl (by kernel_rfl) ?_)
  |((with_reducible refine AC ?_ (.tmp 15) ?_ d ?_ ?_);rfl;rfl;rfl)
  |(refine wpList_store_row rfl 73 _ _ rfl (w6.heap.size+1) _ rfl rfl 73 iC (by rw[←s7];exact a7 _ _ _) (by kernel_rfl) rfl (gg d) ?_))
 generalize hw7:World.setRow (World.alloc w6 _) w6.heap.size d.arr=w7
 have F7:w7.heap.size=w6.heap.size+1:=by rw[←hw7];exact s7
 have A7:=a7 w7 iC 73
 have m7':ae w6 w7:=by rw[←hw7];exact m7
 have G1:w7.heap[w6.heap.size]?=some (.cells d.arr 28 (0,0)):=by rw[←hw7];exact B1.o
 rw[F7] at A7
 generalize hw8:World.setRow (World.alloc w7 _) (w6.heap.size+1) d.cells=w8
 have m8:ae w7 w8:=by rw[←hw8];exact((ae.refl w7).alloc _).setRow _ _ (by omega)
 have m68:=m7'.trans m8
 have N1:=hQQ (m8.block G1)
 have N2:Hq (w8.heap[w6.heap.size+1]?=some (.cells d.cells 73 (0,0))):=hQQ (by rw[←hw8];exact setRow_heap _ _ _ _ _ _ A7)
 have N3:=hQQ (m68.block L1.o)
 have N4:=hQQ (m68.block L2.o)
 have M8:=hQQ (M6.o.trans m68)
 have s8:w6.heap.size+2≤w8.heap.size:=ac N2.o
 clear hw7 hw8 m7 m7' G1 A7 F7 m8 m68 B0 B1 B2 B3 M7 s7 A1 L0 L1 L2 M6 SM
 have HEN:=enters_of Tryz.func72 (by kernel_rfl) rfl
 have hmx:Tryz.prog.follows .mixedOrders=true:=by kernel_rfl
 have HBY:i0.bytes * n≤281474976710656:=by rw[hz2];omega
 have HML:n≤maxLen:=by unfold maxLen;omega
 have HMK:Hq (∀(W W3:World) (x1 x2:Array Value),BS w w6 d x1 x2 W→W3.ownsRow W.heap.size 3 1 (.slice (some ⟨W.heap.size,0,none⟩) n n) n (madeCells (Value.int .i64 0).cells (n * 1)).toList→W.grownBy W3 none→BS w w6 d x1 x2 W3∧Rw w.heap.size W3 (.slice (some ⟨W.heap.size,0,none⟩) n n) (cO n)∧w.heap.size+3≤W.heap.size):=hQQ fun W W3 x1 x2 hb q1 q2=>by
  have m:ae W W3:=⟨q2.os,q2.tape,q2.output,q2.size,fun k hk _=>q2.block k hk (by simp)⟩
  have:=hb.s6
  have:=ac hb.a1
  rw[AA] at q1
  refine⟨hb.step m,?_,by omega⟩
  unfold Rw
  rw[j1]
  exact qE q1 (by omega)
 refine aR (fun W=>∃x1 x2,BS w w6 d x1 x2 W) hmx ?_
 have BB:BS w w6 d fV iC (w8.drewN 1):=⟨N1.o,N2.o,N3.o,N4.o,M8.o.drewN 1,by omega⟩
 clear N1 N2 N3 N4 M8 wd0 wd1 hz2
 change dq _ _ _ _ _ _ _ _ (w8.drewN 1)
 generalize w8.drewN 1=W2 at BB⊢
 refine bK (fun a W=>a.eval (.tmp 2)=.pointer (some ⟨w.heap.size+1,0,none⟩)∧a.eval (.tmp 3)=.pointer (some ⟨w.heap.size+2,0,none⟩)∧∃g,a.eval (.tmp 4)=.slice (some ⟨g,0,none⟩) n n∧Rw w.heap.size W (.slice (some ⟨g,0,none⟩) n n) (cO n)∧BS w w6 d d.arr d.cells W∧a.defers= []) (fun _=>False) [] (fun a W hd h=>h.elim) (fun _ _ _ _ _ h=>h) ?_ ?_
 ·rintro a W ⟨t2,t3,g,t4,RG,BB,hdf⟩
  go_wp2_with fail
  have h4:a.tmps.getD 4 undef=.slice (some ⟨g,0,none⟩) n n:=t4
  refine bodyPost_ret (yu Tryz.results36 _ _ (w.heap.size+1) (w.heap.size+2) _ _ t2 t3 (run_loadVar_row _ _ _ _ _ _ _ BB.r1 Tryz.underlying28 rfl (by kernel_rfl)) (run_loadVar_row _ _ _ _ _ _ _ BB.r2 Tryz.underlying73 rfl (by kernel_rfl))) hdf ?_
  exact⟨g,n,hn,by rw[h4],RG,BB.more⟩
 intro QQ FIN FIND FINQ
 refine JE 22 [(5,.pointer (some ⟨w6.heap.size,0,none⟩)),(7,.pointer (some ⟨w6.heap.size+1,0,none⟩)),(2,.pointer (some ⟨w.heap.size+1,0,none⟩)),(3,.pointer (some ⟨w.heap.size+2,0,none⟩))] ⟨⟨Nat.le_of_ble_eq_true rfl,rfl⟩,?_⟩ (fun A HF=>?_)
 ·intro q hq
  simp only[List.mem_cons,List.not_mem_nil,or_false] at hq
  rcases hq with rfl|rfl|rfl|rfl<;>rfl
 refine aG (i:=0) (v:=.agg d.arr) (some 17) rfl rfl (by kernel_rfl) (by kernel_rfl) (by kernel_rfl) (fun c a w=>FINQ c a _ _ w) ⟨_,_,BB⟩ (by exact aF (C:=(fun W=>∃x1 x2,BS w w6 d x1 x2 W)) (ab rfl) 28 _ rfl (w6.heap.size) (HF.get 0 rfl) 28 _ _ _ (fun W hW=>by obtain⟨_,_,h⟩:=hW;exact h.a1) Tryz.underlying28 rfl (by kernel_rfl)) ?_
 replace HF:=HF.put 17 (.agg d.arr) (by decide) rfl
 generalize Act.put _ _ _=A at HF⊢
 refine aG (i:=1) (v:=.agg d.cells) (some 18) rfl rfl (by kernel_rfl) (by kernel_rfl) (by kernel_rfl) (fun c a w=>FINQ c a _ _ w) ⟨_,_,BB⟩ (by exact aF (C:=(fun W=>∃x1 x2,BS w w6 d x1 x2 W)) (ab rfl) 73 _ rfl (w6.heap.size+1) (HF.get 2 rfl) 73 _ _ _ (fun W hW=>by obtain⟨_,_,h⟩:=hW;exact h.a2) Tryz.underlying73 rfl (by kernel_rfl)) ?_
 replace HF:=HF.put 18 (.agg d.cells) (by decide) rfl
 generalize Act.put _ _ _=A at HF⊢
 refine aG (i:=2) (v:=.agg d.cells) (some 19) rfl rfl (by kernel_rfl) (by kernel_rfl) (by kernel_rfl) (fun c a w=>FINQ c a _ _ w) ⟨_,_,BB⟩ (by exact aF (C:=(fun W=>∃x1 x2,BS w w6 d x1 x2 W)) (ab rfl) 73 _ rfl (w6.heap.size+1) (HF.get 3 rfl) 73 _ _ _ (fun W hW=>by obtain⟨_,_,h⟩:=hW;exact h.a2) Tryz.underlying73 rfl (by kernel_rfl)) ?_
 replace HF:=HF.put 19 (.agg d.cells) (by decide) rfl
 generalize Act.put _ _ _=A at HF⊢
 refine az (i:=3) (some 20) (by kernel_rfl) rfl (ab rfl) rfl (fun K hK=>?_)
 refine sC (v0:=.agg d.cells) rfl (HF.get 0 rfl) HEN ?_
 refine(Gz RR.o _).mono ?_
 rintro e W4 ⟨rfl,m2⟩
 have BB:=BB.step m2
 clear m2
 refine hK _ _ ⟨_,_,BB⟩ ?_
 clear hK K
 replace HF:=HF.put 20 (.int .i64 d.words) (by decide) rfl
 generalize Act.put _ _ _=A at HF⊢
 refine j3 (i:=4) (j:=5) (some 21) none (by kernel_rfl) rfl rfl (ab rfl) (ab rfl) rfl rfl (fun K hK=>?_) (fun K hK=>?_)
 ·refine wQ (n:=n) rfl (HF.get 0 rfl) hn.symm i0 (.int .i64 0) Tryz.underlying29 hi0 hz0 hz1 HBY HML ?_
  intro W3 q1 q2
  obtain⟨BB,RG,HGn⟩:=HMK.o _ _ _ _ BB q1 q2
  clear q1 q2
  generalize HGG:W4.heap.size=GG at RG HGn⊢
  refine hK _ _ ⟨_,_,BB⟩ ?_
  clear hK K
  replace HF:=HF.put 21 (.slice (some ⟨GG,0,none⟩) n n) (by decide) rfl
  generalize Act.put _ _ _=A at HF⊢
  refine az (i:=5) none (by kernel_rfl) rfl (ab rfl) rfl (fun K hK=>?_)
  refine wp_store_row 28 _ _ rfl (w.heap.size+1) _ (HF.get 7 rfl) (HF.get 4 rfl) 28 fV BB.r1 (by kernel_rfl) rfl (mR d) ?_
  have RG:=pX (k:=w.heap.size+1) (cs:=d.arr) (g:=0) (n:=0) RG (fun g' q=>by cases q;show GG≠_;omega)
  have BB:=BB.put1 d.arr
  refine hK _ _ ⟨_,_,BB⟩ ?_
  clear hK K
  rw[show ∀(a:Act) (v:Value),a.put none v=a from fun _ _=>rfl]
  generalize World.setRow _ _ _=W5 at BB RG⊢
  refine az (i:=6) none (by kernel_rfl) rfl (ab rfl) rfl (fun K hK=>?_)
  refine wp_store_row 73 _ _ rfl (w.heap.size+2) _ (HF.get 8 rfl) (HF.get 3 rfl) 73 iC BB.r2 (by kernel_rfl) rfl (gg d) ?_
  have RG:=pX (k:=w.heap.size+2) (cs:=d.cells) (g:=0) (n:=0) RG (fun g' q=>by cases q;show GG≠_;omega)
  have BB:=BB.put2 d.cells
  refine hK _ _ ⟨_,_,BB⟩ ?_
  clear hK K
  rw[show ∀(a:Act) (v:Value),a.put none v=a from fun _ _=>rfl]
  generalize World.setRow _ _ _=W6 at BB RG⊢
  refine az (i:=7) (some 4) (by kernel_rfl) rfl (ab rfl) rfl (fun K hK=>?_)
  refine pW rfl (HF.get 0 rfl) ?_
  refine hK _ _ ⟨_,_,BB⟩ ?_
  clear hK K
  replace HF:=HF.put 4 (.slice (some ⟨GG,0,none⟩) n n) (by decide) rfl
  generalize Act.put _ _ _=A at HF⊢
  exact bQ (by kernel_rfl) (FIN _ _ ⟨HF.get 8 rfl,HF.get 9 rfl,_,HF.get 0 rfl,RG,BB,HF.1.2⟩)
 ·refine wp_store_row 28 _ _ rfl (w.heap.size+1) _ (HF.get 6 rfl) (HF.get 3 rfl) 28 fV BB.r1 (by kernel_rfl) rfl (mR d) ?_
  have BB:=BB.put1 d.arr
  refine hK _ _ ⟨_,_,BB⟩ ?_
  clear hK K
  rw[show ∀(a:Act) (v:Value),a.put none v=a from fun _ _=>rfl]
  generalize World.setRow _ _ _=W5 at BB⊢
  refine j3 (i:=4) (j:=6) (some 21) none (by kernel_rfl) rfl rfl (ab rfl) (ab rfl) rfl rfl (fun K hK=>?_) (fun K hK=>?_)
  ·refine wQ (n:=n) rfl (HF.get 0 rfl) hn.symm i0 (.int .i64 0) Tryz.underlying29 hi0 hz0 hz1 HBY HML ?_
   intro W3 q1 q2
   obtain⟨BB,RG,HGn⟩:=HMK.o _ _ _ _ BB q1 q2
   clear q1 q2
   generalize HGG:W5.heap.size=GG at RG HGn⊢
   refine hK _ _ ⟨_,_,BB⟩ ?_
   clear hK K
   replace HF:=HF.put 21 (.slice (some ⟨GG,0,none⟩) n n) (by decide) rfl
   generalize Act.put _ _ _=A at HF⊢
   refine az (i:=6) none (by kernel_rfl) rfl (ab rfl) rfl (fun K hK=>?_)
   refine wp_store_row 73 _ _ rfl (w.heap.size+2) _ (HF.get 8 rfl) (HF.get 3 rfl) 73 iC BB.r2 (by kernel_rfl) rfl (gg d) ?_
   have RG:=pX (k:=w.heap.size+2) (cs:=d.cells) (g:=0) (n:=0) RG (fun g' q=>by cases q;show GG≠_;omega)
   have BB:=BB.put2 d.cells
   refine hK _ _ ⟨_,_,BB⟩ ?_
   clear hK K
   rw[show ∀(a:Act) (v:Value),a.put none v=a from fun _ _=>rfl]
   generalize World.setRow _ _ _=W6 at BB RG⊢
   refine az (i:=7) (some 4) (by kernel_rfl) rfl (ab rfl) rfl (fun K hK=>?_)
   refine pW rfl (HF.get 0 rfl) ?_
   refine hK _ _ ⟨_,_,BB⟩ ?_
   clear hK K
   replace HF:=HF.put 4 (.slice (some ⟨GG,0,none⟩) n n) (by decide) rfl
   generalize Act.put _ _ _=A at HF⊢
   exact bQ (by kernel_rfl) (FIN _ _ ⟨HF.get 8 rfl,HF.get 9 rfl,_,HF.get 0 rfl,RG,BB,HF.1.2⟩)
  ·refine wp_store_row 73 _ _ rfl (w.heap.size+2) _ (HF.get 7 rfl) (HF.get 2 rfl) 73 iC BB.r2 (by kernel_rfl) rfl (gg d) ?_
   have BB:=BB.put2 d.cells
   refine hK _ _ ⟨_,_,BB⟩ ?_
   clear hK K
   rw[show ∀(a:Act) (v:Value),a.put none v=a from fun _ _=>rfl]
   generalize World.setRow _ _ _=W6 at BB⊢
   refine az (i:=4) (some 21) (by kernel_rfl) rfl (ab rfl) rfl (fun K hK=>?_)
   refine wQ (n:=n) rfl (HF.get 0 rfl) hn.symm i0 (.int .i64 0) Tryz.underlying29 hi0 hz0 hz1 HBY HML ?_
   intro W3 q1 q2
   obtain⟨BB,RG,HGn⟩:=HMK.o _ _ _ _ BB q1 q2
   clear q1 q2
   generalize HGG:W6.heap.size=GG at RG HGn⊢
   refine hK _ _ ⟨_,_,BB⟩ ?_
   clear hK K
   replace HF:=HF.put 21 (.slice (some ⟨GG,0,none⟩) n n) (by decide) rfl
   generalize Act.put _ _ _=A at HF⊢
   refine az (i:=7) (some 4) (by kernel_rfl) rfl (ab rfl) rfl (fun K hK=>?_)
   refine pW rfl (HF.get 0 rfl) ?_
   refine hK _ _ ⟨_,_,BB⟩ ?_
   clear hK K
   replace HF:=HF.put 4 (.slice (some ⟨GG,0,none⟩) n n) (by decide) rfl
   generalize Act.put _ _ _=A at HF⊢
   exact bQ (by kernel_rfl) (FIN _ _ ⟨HF.get 8 rfl,HF.get 9 rfl,_,HF.get 0 rfl,RG,BB,HF.1.2⟩)
def gx (pg st x y:Int)(ws:List Int):Int×List Int:=if cm pg x y then rC pg st (spanV x y) (x / 4) 0 ws else(0,ws)
def GB (pg st:Int)(ws:List Int):Int:=Gr pg st (aO pg).toNat 0 0 ws
section
variable {pg st:Int}{n:Nat}(H:TblIn pg st n)
include H
theorem yv (x y:Int):bV n (fun _=>True) (gu pg st x y):=by
 unfold gu;split
 ·exact dw (wK H _ _ 0 (by omega)) (fun _ _=>trivial)
 ·exact aj n trivial
theorem yw (x y:Int):bR n (gu pg st x y) (gx pg st x y):=by
 unfold gu
 split
 ·rename_i h
  exact a6 (wN H _ _ 0) (fun ws _=>by unfold gx;rw[if_pos h])
 ·rename_i h
  exact a6 (ax n 0) (fun ws _=>by unfold gx;rw[if_neg h])
end
structure Off (pg st:Int)(ws ws':List Int):Prop where
 len:ws'.length=ws.length
 ok:OkW ws→OkW ws'
 eq:∀i:Int,0≤i→(∀k,bS pg k=true→i≠dW pg st k)→wAt ws' i=wAt ws i
structure Ol (pg st:Int)(zs xs:List Int)(k:Nat):Prop where
 len:xs.length=zs.length
 eq:∀i:Int,0≤i→(∀j,bS pg j=true→(k:Int)≤j→i≠dW pg st j)→wAt xs i=wAt zs i
structure Ec (ws ws':List Int)(S:Int→Prop):Prop where
 len:ws'.length=ws.length
 eq:∀i:Int,0≤i→(S i→wAt ws' i=1)∧(¬S i→wAt ws' i=wAt ws i)
theorem Ed (ws:List Int)(S:Int→Prop)(h:∀i,¬S i):Ec ws ws S:=⟨rfl,fun i _=>⟨fun q=>absurd q (h i),fun _=>rfl⟩⟩
theorem Ee {pg st:Int}{n:Nat}(H:TblIn pg st n){ws a:List Int}{S:Int→Prop}(h:Ec ws a S)(hn:ws.length=n){k:Int}(hk:bS pg k=true):Ec ws (lH pg st k 1 a).2 (fun i=>S i∨i=dW pg st k):=by
 obtain⟨t0,t1,t2⟩:=oV H hk
 have hv:∀i:Int,0≤i→wAt (lH pg st k 1 a).2 i=if i=dW pg st k then 1 else wAt a i:=fun i h0=>by
  unfold lH
  rw[if_pos hk]
  split
  ·rename_i q
   have:wAt a (dW pg st k)=1:=by
    unfold bL at q;rw[hk] at q;simpa using q
   split
   ·rename_i e;rw[e];exact this
   ·rfl
  ·rw[show(fw pg k,a.set (dW pg st k).toNat 1).2=a.set (dW pg st k).toNat 1 from rfl,dI (by omega) h0 (by rw[h.len,hn];exact t1)]
 refine⟨by rw[Gs];exact h.len,fun i h0=>⟨fun q=>?_,fun q=>?_⟩⟩
 ·rw[hv i h0]
  split
  ·rfl
  ·rename_i e;exact(h.eq i h0).1 (q.resolve_right e)
 ·rw[hv i h0,if_neg (fun e=>q (.inr e))]
  exact(h.eq i h0).2 (fun r=>q (.inl r))
theorem yx {pg st:Int}{n:Nat}(H:TblIn pg st n)(m:Nat):∀(k s:Int) (ws a:List Int) (S:Int→Prop),ws.length=n→Ec ws a S→(∀i:Nat,i<m→bS pg (k+i)=true)→Ec ws (rC pg st m k s a).2 (fun i=>S i∨∃j:Nat,j<m∧i=dW pg st (k+j)):=by
 induction m with
 |zero =>
  intro k s ws a S hn h hc
  exact⟨h.len,fun i h0=>⟨fun q=>by rcases q with q|⟨j,hj,_⟩;exact(h.eq i h0).1 q;omega,fun q=>(h.eq i h0).2 (fun r=>q (.inl r))⟩⟩
 |succ m ih =>
  intro k s ws a S hn h hc
  have h1:=Ee H h hn (by simpa using hc 0 (by omega))
  have h2:=ih (k+1) (s+(lH pg st k 1 a).1) ws _ _ hn h1 (fun i hi=>by have:=hc (i+1) (by omega);rwa [show k+((i+1:Nat):Int)=k+1+(i:Int) by omega] at this)
  refine⟨h2.len,fun i h0=>?_⟩
  have e:(S i∨∃j:Nat,j<m+1∧i=dW pg st (k+j))↔((S i∨i=dW pg st k)∨∃j:Nat,j<m∧i=dW pg st (k+1+j)):=by
   constructor
   ·rintro(q|⟨j,hj,q⟩)
    ·exact .inl (.inl q)
    ·cases j with
     |zero=>exact .inl (.inr (by simpa using q))
     |succ j=>exact .inr ⟨j,by omega,by rw[q];congr 1;omega⟩
   ·rintro((q|q)|⟨j,hj,q⟩)
    ·exact .inl q
    ·exact .inr ⟨0,by omega,by simpa using q⟩
    ·exact .inr ⟨j+1,by omega,by rw[q];congr 1;omega⟩
  exact⟨fun q=>(h2.eq i h0).1 (e.1 q),fun q=>(h2.eq i h0).2 (fun r=>q (e.2 r))⟩
theorem Nw (w:World)(x1 x2 y1 y2:Array Value)(t1 t2:TypeId):∃W,(((w.alloc (.cells x1 t1)).alloc (.cells x2 t2)).setRow w.heap.size y1).setRow (w.heap.size+1) y2=W ∧
 ((w.alloc (.cells x1 t1)).alloc (.cells x2 t2)).heap[w.heap.size]?=some (.cells x1 t1 (0,0))∧(((w.alloc (.cells x1 t1)).alloc (.cells x2 t2)).setRow w.heap.size y1).heap[w.heap.size+1]?=some (.cells x2 t2 (0,0)) ∧
 W.heap[w.heap.size]?=some (.cells y1 t1 (0,0))∧ae w W∧w.heap.size+2≤W.heap.size:=by
 have h0:=a7 w x1 t1
 have s0:(w.alloc (.cells x1 t1)).heap.size=w.heap.size+1:=by simp
 have m0:ae w (w.alloc (.cells x1 t1)):=(ae.refl _).alloc _
 generalize w.alloc (.cells x1 t1)=w1 at h0 s0 m0⊢
 have h1:=a7 w1 x2 t2
 rw[s0] at h1
 have s1:(w1.alloc (.cells x2 t2)).heap.size=w.heap.size+2:=by simp[s0]
 have m1:ae w1 (w1.alloc (.cells x2 t2)):=(ae.refl _).alloc _
 generalize w1.alloc (.cells x2 t2)=w2 at h1 s1 m1⊢
 have a0:=m1.block h0
 refine⟨_,rfl,a0,(setRow_other _ _ _ _ (by omega)).trans h1,(setRow_other _ _ _ _ (by omega)).trans (setRow_heap _ _ _ _ _ _ a0),((m0.trans m1).setRow _ _ (by omega)).setRow _ _ (by omega),?_⟩
 simp[s1]
theorem Ef (w:World)(g k:Nat)(h:w.heap[g]?=some (.cells (oJ (cO k)) 3 (0,0))):jx w (some ⟨g,0,none⟩) (cO k):=
 .inr ⟨g,0,rfl,ac h,fun i hi=>by
  rw[Nat.zero_add,cell_of_row w g i _ _ _ h]
  rw[j1] at hi
  simp[oJ,cO,hi]⟩
theorem sD (k:Nat)(hk:k≤1000000)(w:World):
 (Instr.makeSlice 29 (.int .i64 (k:Int)) (.int .i64 (k:Int))).run Tryz.prog w=.ok (.slice (some ⟨w.heap.size,0,none⟩) k k) (w.alloc (.cells (oJ (cO k)) 3)):=by
 obtain⟨i,hi,hz,hs,hb⟩:=jc
 have:=run_make (P:=Tryz.prog) w 29 3 i (.int .i64 0) Tryz.underlying29 hi hz .i64 .i64 k k (by omega) (by omega) (by rw[hb];omega) (by omega)
 rw[this]
 simp only[Int.toNat_natCast,hs,Nat.mul_one]
 have e:madeCells (Value.int .i64 0).cells k=oJ (cO k):=by
  apply Array.ext
  ·simp[size_madeCells,oJ,cO]
  ·intro j h1 h2
   simp[madeCells,oJ,cO,Value.cells,Nat.mod_one]
 rw[e]
def TrC (c:Cfg)(g1:Nat)(W:World):Prop:=W.heap[g1]?=some (.cells c.arr 28 (0,0))
structure TrY (c:Cfg)(g1 g2:Nat)(w:World):Prop where
 h1:w.heap[g1]?=some (.cells c.arr 28 (0,0))
 h2:∃b,Od g2 w b
def ag (pg p:Int):Bool:=decide (0≤p) && decide (p<pg)
theorem ay {pg p:Int} :ag pg p=true↔0≤p∧p<pg:=by simp[ag]
theorem sE {pg p:Int} :ag pg p=false↔¬(0≤p∧p<pg):=by
 cases h:ag pg p with
 |true=>simp[ay.1 h]
 |false=>simp only[true_iff];intro q;rw[ay.2 q] at h;cases h
def kA (pg st p:Int):Int:=bd st+aO pg+p
def cA (pg st p:Int):Int:=bd st+aO pg+pg+p
def bA (pg st p:Int):Int:=bd st+aO pg+2 * pg+p
theorem K5 {pg st p:Int}(h:ag pg p=true):dE pg st 0 p=kA pg st p:=by unfold dE kA;rw[if_pos (ay.1 h)];omega
theorem sG {pg st p:Int}(h:ag pg p=true):dE pg st 1 p=cA pg st p:=by unfold dE cA;rw[if_pos (ay.1 h)];omega
theorem CI {pg st p:Int}(h:ag pg p=true):dE pg st 2 p=bA pg st p:=by unfold dE bA;rw[if_pos (ay.1 h)]
theorem K6 {pg st i p:Int}(h:ag pg p=false):dE pg st i p=0:=by unfold dE;rw[if_neg (sE.1 h)]
def fg (pg st p:Int):Prg Int:=if ag pg p then cW (kA pg st p) else aA (-1)
def ls (pg st p k x:Int):Prg Unit:=ar (cP (kA pg st p) k) fun _=>ar (cP (cA pg st p) x) fun _=>cP (bA pg st p) 0
def oZ (pg st:Int):Nat→Int→Prg Bool
 | 0,_=>aA true
 |m+1,q=>ar (fg pg st q) (fun k=>if k=0 then oZ pg st m (q+1) else aA false)
def o6 (pg st p n:Int):Prg Bool:=if cm pg p n then oZ pg st n.toNat p else aA false
def iI (pg st k:Int):Nat→Int→Prg Unit
 | 0,_=>aA ()
 |m+1,q=>ar (ls pg st q k 0) fun _=>iI pg st k m (q+1)
def n6 (k:Int):Bool:=decide (1≤k) && decide (k≤5)
theorem JF {k:Int} :n6 k=true↔1≤k∧k≤5:=by simp[n6]
def oa (k n:Int):Bool:=decide (k=6) ||(n6 k && decide (n=1))
theorem JG {k n:Int} :oa k n=true↔k=6∨(1≤k∧k≤5∧n=1):=by simp[oa,n6,and_assoc]
def ji (pg st p n k:Int):Prg Bool:=if oa k n then ar (o6 pg st p n) (fun b=>if b then ar (gu pg st p n) (fun _=>ar (ls pg st p k (if k=6 then n else 0)) (fun _=>ar (iI pg st 7 (n-1).toNat (p+1)) (fun _=>aA true))) else aA false) else aA false
def nI (pg st p:Int):Prg Int:=ar (fg pg st p) (fun k=>if n6 k then aA 1 else if k=6 then ar (cW (cA pg st p)) (fun x=>aA (max 1 (min x (pg-p)))) else aA 0)
def lK (pg st p:Int):Prg Int:=ar (nI pg st p) (fun n=>ar (iI pg st 0 n.toNat p) (fun _=>aA n))
def lL (pg st q:Int):Prg Bool:=ar (fg pg st q) (fun k=>aA (decide (k=0)))
def lN (pg st q:Int):Prg Bool:=ar (dR pg st (ofV q)) (fun b=>if b then lL pg st q else aA false)
def jR (f:Int→Prg Bool):Nat→Int→Prg (Option Int)
 | 0,_=>aA none
 |m+1,q=>ar (f q) (fun b=>if b then jR f m (q+1) else aA (some q))
def jj (f:Int→Prg Bool)(pg n step:Int):Nat→Int→Prg Int
 | 0,_=>aA (-1)
 |m+1,p=>if p≤pg-n then ar (jR f n.toNat p) (fun r=>match r with|none=>aA p|some q=>jj f pg n step m ((q / step+1) * step)) else aA (-1)
def mS (f:Int→Prg Bool)(pg n step:Int):Prg Int:=jj f pg n step (pg.toNat+1) 0
def kI (pg st n step:Int):Prg Int:=if 1≤n∧1≤step then ar (mS (lN pg st) pg n step) (fun p=>if p= -1 then mS (lL pg st) pg n step else aA p) else aA (-1)
theorem kJ (pg st p:Int):bH (fg pg st p):=aL (dA _) (ai _)
theorem vh (pg st p k x:Int):bH (ls pg st p k x):=aq (cX _ _) (fun _=>aq (cX _ _) (fun _=>cX _ _))
theorem AE (pg st:Int)(m:Nat):∀q,bH (oZ pg st m q):=by
 induction m with
 |zero=>intro q;exact ai _
 |succ m ih=>intro q;exact aq (kJ _ _ _) (fun _=>aL (ih _) (ai _))
theorem Eg (pg st p n:Int):bH (o6 pg st p n):=aL (AE _ _ _ _) (ai _)
theorem sH (pg st k:Int)(m:Nat):∀q,bH (iI pg st k m q):=by
 induction m with
 |zero=>intro q;exact ai _
 |succ m ih=>intro q;exact aq (vh _ _ _ _ _) (fun _=>ih _)
theorem AH (pg st p n k:Int):bH (ji pg st p n k):=
 aL (aq (Eg _ _ _ _) (fun _=>aL (aq (wL _ _ _ _) (fun _=>aq (vh _ _ _ _ _) (fun _=>aq (sH _ _ _ _ _) (fun _=>ai _)))) (ai _))) (ai _)
theorem Eh (pg st p:Int):bH (nI pg st p):=aq (kJ _ _ _) (fun _=>aL (ai _) (aL (aq (dA _) (fun _=>ai _)) (ai _)))
theorem AI (pg st p:Int):bH (lK pg st p):=aq (Eh _ _ _) (fun _=>aq (sH _ _ _ _ _) (fun _=>ai _))
theorem sI (pg st q:Int):bH (lL pg st q):=aq (kJ _ _ _) (fun _=>ai _)
theorem AJ (pg st q:Int):bH (lN pg st q):=aq (oW _ _ _) (fun _=>aL (sI _ _ _) (ai _))
theorem yz {f:Int→Prg Bool}(hf:∀q,bH (f q))(m:Nat):∀q,bH (jR f m q):=by
 induction m with
 |zero=>intro q;exact ai _
 |succ m ih=>intro q;exact aq (hf q) (fun _=>aL (ih _) (ai _))
theorem qL {f:Int→Prg Bool}(hf:∀q,bH (f q))(pg n step:Int)(m:Nat):∀p,bH (jj f pg n step m p):=by
 induction m with
 |zero=>intro q;exact ai _
 |succ m ih =>
  intro q
  refine aL (aq (yz hf _ _) (fun r=>?_)) (ai _)
  cases r with
  |none=>exact ai _
  |some q=>exact ih _
theorem AK (pg st n step:Int):bH (kI pg st n step):=aL (aq (qL (AJ pg st) _ _ _ _ _) (fun _=>aL (qL (sI pg st) _ _ _ _ _) (ai _))) (ai _)
structure PgIn (pg st:Int)(n:Nat):Prop extends TblIn pg st n where
 top5:bd st+aO pg+5 * pg≤n
theorem aX {α:Type}{n:Nat}{Q:α→Prop}{c:Prop} [Decidable c] {p q:Prg α}(h1:c→bV n Q p)(h2:¬c→bV n Q q):bV n Q (if c then p else q):=by
 split
 ·rename_i h;exact h1 h
 ·rename_i h;exact h2 h
section
variable {pg st:Int}{n:Nat}(H:PgIn pg st n)
include H
theorem cu {p:Int}(h:ag pg p=true):(4≤kA pg st p∧kA pg st p<n∧W64 (kA pg st p))∧(4≤cA pg st p∧cA pg st p<n∧W64 (cA pg st p))∧(4≤bA pg st p∧bA pg st p<n∧W64 (bA pg st p)):=by
 have h0:=ay.1 h
 have h1:=H.st1;have h2:=H.st2;have h3:=H.top5;have h4:=H.pg1;have h5:=H.pg2
 unfold kA cA bA W64
 unfold aO bd at *
 omega
theorem gh (p:Int):bV n W64 (fg pg st p):=
 aX (fun h=>bu n (cu H h).1.2.1) (fun _=>aj n (by unfold W64;omega))
theorem o7 {p:Int}(h:ag pg p=true){k x:Int}(hk:W64 k)(hx:W64 x):bV n (fun _=>True) (ls pg st p k x):=by
 obtain⟨⟨_,a1,a2⟩,⟨_,b1,b2⟩,_,c1,c2⟩:=cu H h
 exact au (aV n a2 a1 hk) (fun _ _=>au (aV n b2 b1 hx) (fun _ _=>aV n c2 c1 (by unfold W64;omega)))
theorem vi (m:Nat):∀q,bV n (fun _=>True) (oZ pg st m q):=by
 induction m with
 |zero=>intro q;exact aj n trivial
 |succ m ih=>intro q;exact au (gh H q) (fun k _=>aX (fun _=>ih _) (fun _=>aj n trivial))
theorem pY {k:Int}(hk:W64 k)(m:Nat):∀q,(∀i:Nat,i<m→ag pg (q+i)=true)→bV n (fun _=>True) (iI pg st k m q):=by
 induction m with
 |zero=>intro q _;exact aj n trivial
 |succ m ih =>
  intro q h
  exact au (o7 H (by simpa using h 0 (by omega)) hk (by unfold W64;omega)) (fun _ _=>ih _ (fun i hi=>by have:=h (i+1) (by omega);rwa [show q+((i+1:Nat):Int)=q+1+(i:Int) by omega] at this))
theorem o8 (x y:Int):bV n (fun _=>True) (gu pg st x y):=yv H.toTblIn x y
theorem vj (p m k:Int)(hk:W64 k)(hm:W64 m):bV n (fun _=>True) (ji pg st p m k):=by
 unfold ji o6
 refine aX (fun hf=>?_) (fun _=>aj n trivial)
 cases h:cm pg p m with
 |false=>exact au (aj n (Q:=fun b:Bool=>b=false) rfl) (fun b hb=>by subst hb;exact aj n trivial)
 |true =>
  obtain⟨q0,q1,q2⟩:=dZ.1 h
  have hx:W64 (if k=6 then m else 0):=by
   split
   ·exact hm
   ·unfold W64;omega
  exact au (vi H _ _) (fun b _=>aX (fun _=>au (o8 H _ _) (fun _ _=>au (o7 H (ay.2 ⟨by omega,by omega⟩) hk hx) (fun _ _=>au (pY H (by unfold W64;omega) _ _ (fun i hi=>ay.2 ⟨by omega,by omega⟩)) (fun _ _=>aj n trivial)))) (fun _=>aj n trivial))
theorem sJ (p:Int):bV n (fun x:Int=>x=0∨ag pg p=true∧1≤x∧x≤pg-p) (nI pg st p):=by
 unfold nI fg
 cases h:ag pg p with
 |false=>exact au (aj n (Q:=fun k:Int=>k= -1) rfl) (fun k hk=>by subst hk;exact aj n (.inl rfl))
 |true =>
  have:=ay.1 h
  exact au (bu n (cu H h).1.2.1) (fun k _=>aX (fun _=>aj n (.inr ⟨rfl,by omega,by omega⟩)) (fun _=>aX (fun _=>au (bu n (cu H h).2.1.2.1) (fun x _=>aj n (.inr ⟨rfl,by omega,by omega⟩))) (fun _=>aj n (.inl rfl))))
theorem pZ (p:Int):bV n (fun x:Int=>0≤x∧x≤256) (lK pg st p):=by
 have h5:=H.pg2
 exact au (sJ H p) (fun x hx=>by
  have hb:∀i:Nat,i<x.toNat→ag pg (p+i)=true:=fun i hi=>by
   rcases hx with rfl|⟨h,h1,h2⟩
   ·simp at hi
   ·have:=ay.1 h;exact ay.2 ⟨by omega,by omega⟩
  exact au (pY H (by unfold W64;omega) _ _ hb) (fun _ _=>aj n (by
   rcases hx with rfl|⟨h,h1,h2⟩
   ·omega
   ·have:=ay.1 h;omega)))
theorem j4 (q:Int):bV n (fun _=>True) (lL pg st q):=au (gh H q) (fun _ _=>aj n trivial)
theorem p7 (q:Int):bV n (fun _=>True) (lN pg st q):=au (jB H.toTblIn _) (fun b _=>aX (fun _=>j4 H q) (fun _=>aj n trivial))
theorem AM {f:Int→Prg Bool}(hf:∀q,bV n (fun _=>True) (f q))(m:Nat):∀q:Int,bV n (fun r:Option Int=>∀x,r=some x→q≤x∧x<q+m) (jR f m q):=by
 induction m with
 |zero=>intro q;exact aj n (fun x h=>by cases h)
 |succ m ih=>intro q;exact au (hf q) (fun b _=>aX (fun _=>dw (ih _) (fun r hr x hx=>by have:=hr x hx;omega)) (fun _=>aj n (fun x hx=>by cases hx;omega)))
theorem oc {f:Int→Prg Bool}(hf:∀q,bV n (fun _=>True) (f q))(m step:Int)(hm:1≤m)(hs:1≤step)(j:Nat):∀p:Int,0≤p→bV n (fun x:Int=> -1≤x∧x<pg) (jj f pg m step j p):=by
 have h4:=H.pg1
 induction j with
 |zero=>intro p _;exact aj n (by omega)
 |succ j ih =>
  intro p hp
  refine aX (fun h=>au (AM H hf _ _) (fun r hr=>?_)) (fun _=>aj n (by omega))
  cases r with
  |none=>exact aj n (by omega)
  |some q =>
   have:=hr q rfl
   refine ih _ (Int.mul_nonneg ?_ (by omega))
   have:=Int.ediv_nonneg (a:=q) (b:=step) (by omega) (by omega)
   omega
theorem vo (m step:Int):bV n (fun x:Int=> -1≤x∧x<pg) (kI pg st m step):=by
 have h4:=H.pg1
 exact aX (fun h=>au (oc H (p7 H) m step h.1 h.2 _ 0 (by omega)) (fun p hp=>aX (fun _=>oc H (j4 H) m step h.1 h.2 _ 0 (by omega)) (fun _=>aj n hp))) (fun _=>aj n (by omega))
end
theorem bJ {α:Type}{n:Nat}{c:Prop} [Decidable c] {p q:Prg α}{g h:List Int→α×List Int}(hp:c→bR n p g)(hq:¬c→bR n q h):bR n (if c then p else q) (fun ws=>if c then g ws else h ws):=by
 by_cases e:c
 ·simp only[if_pos e];exact hp e
 ·simp only[if_neg e];exact hq e
theorem fW {α β:Type}{n:Nat}{p:Prg α}{f:α→Prg β}{g:List Int→α×List Int}{k:α→List Int→β×List Int}{Q:α→Prop}(h:bR n p g)(hq:∀ws,ws.length=n→Q (g ws).1)(hf:∀x,Q x→bR n (f x) (k x)):bR n (ar p f) (fun ws=>k (g ws).1 (g ws).2):=fun zs D hn hz hD=>by
 obtain⟨D1,e1,a1,i1⟩:=h zs D hn hz hD
 obtain⟨D2,e2,a2,i2⟩:=hf (g (cj zs D)).1 (hq _ (by rw[d6];exact hn)) zs D1 hn hz i1
 refine⟨D2,?_,?_,i2⟩
 ·rw[ak e1,e2,a1]
 ·rw[a2,a1]
def nA (pg st p:Int):Int:=bd st+aO pg+3 * pg+p
def vA (pg st p:Int):Int:=bd st+aO pg+4 * pg+p
theorem CJ {pg st p:Int}(h:ag pg p=true):dE pg st 3 p=nA pg st p:=by unfold dE nA;rw[if_pos (ay.1 h)]
theorem GF {pg st p:Int}(h:ag pg p=true):dE pg st 4 p=vA pg st p:=by unfold dE vA;rw[if_pos (ay.1 h)]
def gU (pg x:Int):Int:=if ag pg (IntKind.i64.wrap (x-1)) then IntKind.i64.wrap (x-1) else -1
def ep (pg a:Int):Prg Int:=if a=0 then aA (-1) else ar (cW a) (fun x=>aA (gU pg x))
def kK (pg st p:Int):Nat→Int→List Int→Prg (List Int×Bool)
 | 0,_,l=>aA (l,false)
 |m+1,a,l=>ar (ep pg a) (fun q=>if q=p then aA (l,true) else if q= -1 then aA (l,false) else kK pg st p m (nA pg st q) (l++ [q]))
def kL (pg st p c f:Int):Prg (List Int×Bool):=kK pg st p pg.toNat (aI pg st c f) []
def eT (pg st h p q:Int):Prg Unit:=ar (if p= -1 then cP h (q+1) else cP (nA pg st p) (q+1)) (fun _=>if q= -1 then aA () else cP (vA pg st q) (p+1))
def iP (pg st p c f:Int):Prg Bool:=if aI pg st c f=0 then aA false else if ag pg p then ar (ep pg (aI pg st c f)) (fun q=>ar (eT pg st (aI pg st c f) p q) fun _=>ar (eT pg st (aI pg st c f) (-1) p) fun _=>aA true) else aA false
def cB (l:List Int):Int:=l.getD (l.length-1) (-1)
def fD (pg st p c f:Int):Prg Bool:=if ag pg p then ar (kL pg st p c f) (fun r=>if r.2 then ar (ep pg (nA pg st p)) (fun q=>ar (eT pg st (aI pg st c f) (cB r.1) q) fun _=>ar (cP (nA pg st p) 0) fun _=>ar (cP (vA pg st p) 0) fun _=>aA true) else aA false) else aA false
def eY (pg st c:Int):Nat→Int→Prg Int
 | 0,_=>aA (-1)
 |m+1,f=>ar (ep pg (aI pg st c f)) (fun q=>if q= -1 then eY pg st c m (f+1) else aA q)
theorem iQ (pg a:Int):bH (ep pg a):=aL (ai _) (aq (dA _) (fun _=>ai _))
theorem wR (pg st p:Int)(m:Nat):∀a l,bH (kK pg st p m a l):=by
 induction m with
 |zero=>intro a l;exact ai _
 |succ m ih=>intro a l;exact aq (iQ _ _) (fun _=>aL (ai _) (aL (ai _) (ih _ _)))
theorem yA (pg st p c f:Int):bH (kL pg st p c f):=wR _ _ _ _ _ _
theorem kM (pg st h p q:Int):bH (eT pg st h p q):=aq (aL (cX _ _) (cX _ _)) (fun _=>aL (ai _) (cX _ _))
theorem wS (pg st p c f:Int):bH (iP pg st p c f):=aL (ai _) (aL (aq (iQ _ _) (fun _=>aq (kM _ _ _ _ _) (fun _=>aq (kM _ _ _ _ _) (fun _=>ai _)))) (ai _))
theorem sK (pg st p c f:Int):bH (fD pg st p c f):=aL (aq (yA _ _ _ _ _) (fun _=>aL (aq (iQ _ _) (fun _=>aq (kM _ _ _ _ _) (fun _=>aq (cX _ _) (fun _=>aq (cX _ _) (fun _=>ai _))))) (ai _))) (ai _)
theorem lO (pg st c:Int)(m:Nat):∀f,bH (eY pg st c m f):=by
 induction m with
 |zero=>intro f;exact ai _
 |succ m ih=>intro f;exact aq (iQ _ _) (fun _=>aL (ih _) (ai _))
structure cH (pg st:Int)(n:Nat):Prop extends PgIn pg st n where
 top62:bd st+aO pg+5 * pg+62≤n
theorem bG {pg st c f:Int}{n:Nat}(H:cH pg st n):0≤aI pg st c f∧aI pg st c f<n∧W64 (aI pg st c f):=by
 have h1:=H.st1;have h2:=H.st2;have h3:=H.top62;have h4:=H.pg1;have h5:=H.pg2
 have hc:0≤aO pg∧aO pg≤64:=by unfold aO;omega
 have ht:0≤bd st:=by unfold bd;omega
 unfold aI
 split
 ·rename_i h
  obtain⟨c0,c4,f1,fs⟩:=h
  have:c=0∨c=1∨c=2∨c=3∨c=4:=by omega
  unfold bz W64 bd at *
  rcases this with rfl|rfl|rfl|rfl|rfl<;>simp[fR,fm] at fs⊢ <;>omega
 ·unfold W64;omega
section
variable {pg st:Int}{n:Nat}(H:cH pg st n)
include H
theorem eF {p:Int}(h:ag pg p=true):(4≤nA pg st p∧nA pg st p<n∧W64 (nA pg st p))∧(4≤vA pg st p∧vA pg st p<n∧W64 (vA pg st p)):=by
 have h0:=ay.1 h
 have h1:=H.st1;have h2:=H.st2;have h3:=H.top62;have h4:=H.pg1;have h5:=H.pg2
 unfold nA vA W64
 unfold aO bd at *
 omega
theorem yB (x:Int):gU pg x= -1∨ag pg (gU pg x)=true:=by
 unfold gU
 split
 ·rename_i h;exact .inr h
 ·exact .inl rfl
theorem dp {a:Int}(ha:a<n):bV n (fun q:Int=>q= -1∨ag pg q=true) (ep pg a):=
 aX (fun _=>aj n (.inl rfl)) (fun _=>au (bu n ha) (fun x _=>aj n (yB H x)))
theorem yC {p:Int}(m:Nat):∀(a:Int) (l:List Int),a<n→(∀x∈l,ag pg x=true)→bV n (fun r:List Int×Bool=>(∀x∈r.1,ag pg x=true)∧r.1.length≤l.length+m) (kK pg st p m a l):=by
 induction m with
 |zero=>intro a l _ hl;exact aj n ⟨hl,by simp⟩
 |succ m ih =>
  intro a l ha hl
  exact au (dp H ha) (fun q hq=>aX (fun _=>aj n ⟨hl,by simp⟩) (fun _=>aX (fun _=>aj n ⟨hl,by simp⟩) (fun hne=>by
   have hp:ag pg q=true:=hq.resolve_left hne
   exact dw (ih _ _ (eF H hp).1.2.1 (fun x hx=>by
    rcases List.mem_append.1 hx with h|h
    ·exact hl x h
    ·rw[List.mem_singleton.1 h];exact hp)) (fun r hr=>⟨hr.1,by have:=hr.2;simp at this;omega⟩))))
theorem od (p c f:Int):bV n (fun r:List Int×Bool=>(∀x∈r.1,ag pg x=true)∧r.1.length≤256) (kL pg st p c f):=dw (yC H _ _ _ (bG H).2.1 (fun x hx=>by cases hx)) (fun r hr=>⟨hr.1,by have h1:=hr.2;have h2:=H.pg2;simp only[List.length_nil] at h1;omega⟩)
theorem nJ {q:Int}(hq:q= -1∨ag pg q=true):W64 (q+1):=by
 have h5:=H.pg2
 rcases hq with rfl|h
 ·unfold W64;omega
 ·have:=ay.1 h;unfold W64;omega
theorem dU {h p q:Int}(h1:W64 h)(h2:h<n)(hp:p= -1∨ag pg p=true)(hq:q= -1∨ag pg q=true):bV n (fun _=>True) (eT pg st h p q):=
 au (Q:=fun _=>True) (aX (fun _=>aV n h1 h2 (nJ H hq)) (fun hne=>aV n (eF H (hp.resolve_left hne)).1.2.2 (eF H (hp.resolve_left hne)).1.2.1 (nJ H hq)))
  (fun _ _=>aX (fun _=>aj n trivial) (fun hne=>aV n (eF H (hq.resolve_left hne)).2.2.2 (eF H (hq.resolve_left hne)).2.2.1 (nJ H hp)))
theorem lP (p c f:Int):bV n (fun _=>True) (iP pg st p c f):=
 aX (fun _=>aj n trivial) (fun _=>aX (fun hp=>au (dp H (bG H).2.1) (fun q hq=>au (dU H (bG H).2.2 (bG H).2.1 (.inr hp) hq) (fun _ _=>au (dU H (bG H).2.2 (bG H).2.1 (.inl rfl) (.inr hp)) (fun _ _=>aj n trivial)))) (fun _=>aj n trivial))
theorem kN {l:List Int}(hl:∀x∈l,ag pg x=true):cB l= -1∨ag pg (cB l)=true:=by
 unfold cB
 rcases Nat.eq_zero_or_pos l.length with h|h
 ·refine .inl ?_
  rw[List.length_eq_zero_iff.1 h];rfl
 ·refine .inr (hl _ ?_)
  rw[List.getD_eq_getElem?_getD,List.getElem?_eq_getElem (by omega)]
  exact List.getElem_mem _
theorem jS (p c f:Int):bV n (fun _=>True) (fD pg st p c f):=
 aX (fun hp=>au (od H _ _ _) (fun r hr=>aX (fun _=>au (dp H (eF H hp).1.2.1) (fun q hq=>au (dU H (bG H).2.2 (bG H).2.1 (kN H hr.1) hq) (fun _ _=>au (aV n (eF H hp).1.2.2 (eF H hp).1.2.1 (by unfold W64;omega)) (fun _ _=>au (aV n (eF H hp).2.2.2 (eF H hp).2.2.1 (by unfold W64;omega)) (fun _ _=>aj n trivial))))) (fun _=>aj n trivial))) (fun _=>aj n trivial)
theorem ii (c:Int)(m:Nat):∀f,bV n (fun q:Int=>q= -1∨ag pg q=true) (eY pg st c m f):=by
 induction m with
 |zero=>intro f;exact aj n (.inl rfl)
 |succ m ih=>intro f;exact au (dp H (bG H).2.1) (fun q hq=>aX (fun _=>ih _) (fun _=>aj n hq))
end
theorem lQ {c:Cfg}(R:c.Ok)(w:World)(k:Int):Calls Tryz.prog 136 #[.agg c.arr,.int .i64 k] w (aU w (.int .i64 (dE c.pg c.st 3 k))):=Ni R w k
theorem p8 {c:Cfg}(R:c.Ok)(w:World)(k:Int):Calls Tryz.prog 147 #[.agg c.arr,.int .i64 k] w (aU w (.int .i64 (dE c.pg c.st 4 k))):=Nj R w k
theorem kO {c:Cfg}(R:c.Ok)(w:World)(k f:Int):Calls Tryz.prog 93 #[.agg c.arr,.int .i64 k,.int .i64 f] w (aU w (.int .i64 (aI c.pg c.st k f))):=Nk R w k f
theorem io {c:Cfg}(R:c.Ok){n:Nat}(H:cH c.pg c.st n)(q:Int)(w:World):Calls Tryz.prog 117 #[.agg c.arr,.int .i64 q] w (aU w (.bool (ag c.pg q))):=by
 have hz:(dE c.pg c.st 3 q != 0)=ag c.pg q:=by
  cases h:ag c.pg q with
  |true=>rw[CJ h];have:=(eF H h).1.1;simp;omega
  |false=>rw[K6 h];rfl
 obtain⟨w1,e1,hl1,m1,s1⟩:=bg w (.cells c.arr 28)
 have L0:=hQQ hl1
 have MM:=hQQ m1
 have HR:=hQQ R
 clear hl1 m1 R H
 go_enter Tryz.func117,Tryz.ntmps117
 go_wp2_with (refine af rfl 28 _ rfl _ rfl 28 _ _ _ L0.o Tryz.underlying28 rfl (by kernel_rfl) ?_)
 refine(lQ HR.o _ q).mono ?_
 rintro e w2 ⟨rfl,h2⟩
 have H2:=hQQ (MM.o.trans h2)
 clear h2
 go_wp2_with fail
 go_ret
 first
 |exact⟨rfl,H2.o⟩
 |exact⟨by rw[←hz],H2.o⟩
theorem lR {c:Cfg}(R:c.Ok){n:Nat}(H:cH c.pg c.st n)(F:Nat→Prop)(p:Nat)(kn:Int→Option Int)(D:List KV)(a:Int)(ha:W64 a)(hn:a<n)(w:World)(hv:aK w F p kn D)(hk:OkK kn)(hD:cF n D):
 Calls Tryz.prog 92 #[.pointer (some ⟨p,0,none⟩),.agg c.arr,.int .i64 a] w (aC w F p kn (fun x=> .int .i64 x) (ep c.pg a kn D)):=by
 obtain⟨Rr,hRr⟩:∃Rr,ep c.pg a kn D=Rr:=⟨_,rfl⟩
 rw[hRr]
 obtain⟨w1,e1,hl1,m1,s1⟩:=bg w (.cells c.arr 28)
 have nFl:¬F w.heap.size:=fun q=>by have:=hv.lt _ q;omega
 have MM:=hQQ m1
 have L0:=hQQ hl1
 have M0:Hq (MidV w1 w1 F (fun _=>False) p kn n D F):=hQQ (MidV.begin (hv.more m1) hD)
 have KL:Hq (∀wr D' F',MidV w1 wr F (fun _=>False) p kn n D' F'→wr.heap[w.heap.size]?=some (.cells c.arr 28 (0,0))):=hQQ fun wr D' F' h=>cI h L0.o nFl (fun q=>q)
 have NEED:Hq (∀a w2,Rr=.need a→aQ w2 p a→Turned (fun b=>F b∨False) w1 w2→aC w F p kn (fun x:Int=>Value.int .i64 x) Rr (.panicked (aY p)) w2):=hQQ fun a w2 e hd ht=>cx MM.o (fun _ q=>q.elim) e hd ht
 have DONE:Hq (∀x w2 D' F',Rr=.ok x D'→MidV w1 w2 F (fun _=>False) p kn n D' F'→aC w F p kn (fun x:Int=>Value.int .i64 x) Rr (.returned ((fun x:Int=>Value.int .i64 x) x)) w2):=hQQ fun x w2 D' F' e h=>bZ MM.o (fun _ q=>q.elim) h e
 have HK:=hQQ hk
 have HR:=hQQ R
 have HH:=hQQ H
 clear hl1 m1 hv hD hk R H nFl
 unfold ep at hRr
 by_cases a0:a=0
 ·rw[if_pos a0] at hRr
  have d0:(a==0)=true:=by simp[a0]
  have FIN:=hQQ (DONE.o (-1) w1 D F hRr.symm M0.o)
  clear hRr a0
  go_enter Tryz.func92,Tryz.ntmps92
  go_wp2_with fail
  go_ret
  exact FIN.o
 ·rw[if_neg a0] at hRr
  have d0:(a==0)=false:=by simp[a0]
  have HRr:=hQQ hRr
  clear hRr a0
  go_enter Tryz.func92,Tryz.ntmps92
  go_wp2_with fail
  refine(jf F p kn D a w1 M0.o.view ha).mono ?_
  intro e w2 he
  rcases M0.o.step (ae.refl _) HK.o (bu n hn) he with⟨a',hE,rfl,hd',ht',_⟩|⟨x2,D2,F2,hE,rfl,M2,hq2,_,_⟩
  ·exact⟨rfl,NEED.o a' w2 (HRr.o.symm.trans (ah hE)) hd' ht'⟩
  have L2:=hQQ (KL.o _ _ _ M2)
  have R2:=hQQ ((ak hE).symm.trans HRr.o)
  have M2:=hQQ M2
  clear he hE
  have HV:=hQQ (show Rr=.ok (gU c.pg x2) D2 from R2.o.symm)
  clear R2
  unfold gU at HV
  obtain⟨y,qy⟩:∃y,IntKind.i64.wrap (x2-1)=y:=⟨_,rfl⟩
  rw[qy] at HV
  go_wp2_with (refine af rfl 28 _ rfl _ rfl 28 _ _ _ L2.o Tryz.underlying28 rfl (by kernel_rfl) ?_)
  clear qy
  refine(io HR.o HH.o y _).mono ?_
  rintro e w3 ⟨rfl,h3⟩
  have M3:=hQQ (M2.o.more h3)
  clear h3
  cases hb:ag c.pg y with
  |true =>
   have FIN:=hQQ (DONE.o y w3 D2 F2 (by have:=HV.o;rw[if_pos hb] at this;exact this) M3.o)
   clear HV hb
   go_wp2_with fail
   go_ret
   exact FIN.o
  |false =>
   have FIN:=hQQ (DONE.o (-1) w3 D2 F2 (by have:=HV.o;rw[if_neg (by rw[hb];simp)] at this;exact this) M3.o)
   clear HV hb
   go_wp2_with fail
   go_ret
   exact FIN.o
theorem rD {c:Cfg}(R:c.Ok){n:Nat}(H:cH c.pg c.st n)(hn:n≤10000)(F:Nat→Prop)(p:Nat)(kn:Int→Option Int)(D:List KV)(h x y:Int)(h1:W64 h)(h2:h<n)(hx:x= -1∨ag c.pg x=true)(hy:y= -1∨ag c.pg y=true)(w:World)(hv:aK w F p kn D)(hk:OkK kn)(hD:cF n D):
 Calls Tryz.prog 146 #[.pointer (some ⟨p,0,none⟩),.agg c.arr,.int .i64 h,.int .i64 x,.int .i64 y] w (aC w F p kn (fun _:Unit=> .tuple #[]) (eT c.pg c.st h x y kn D)):=by
 obtain⟨Rr,hRr⟩:∃Rr,eT c.pg c.st h x y kn D=Rr:=⟨_,rfl⟩
 rw[hRr]
 obtain⟨w1,e1,hl1,m1,s1⟩:=bg w (.cells c.arr 28)
 have nFl:¬F w.heap.size:=fun q=>by have:=hv.lt _ q;omega
 have MM:=hQQ m1
 have L0:=hQQ hl1
 have M0:Hq (MidV w1 w1 F (fun _=>False) p kn n D F):=hQQ (MidV.begin (hv.more m1) hD)
 have KL:Hq (∀wr D' F',MidV w1 wr F (fun _=>False) p kn n D' F'→wr.heap[w.heap.size]?=some (.cells c.arr 28 (0,0))):=hQQ fun wr D' F' h=>cI h L0.o nFl (fun q=>q)
 have NEED:Hq (∀a w2,Rr=.need a→aQ w2 p a→Turned (fun b=>F b∨False) w1 w2→aC w F p kn (fun _:Unit=>Value.tuple #[]) Rr (.panicked (aY p)) w2):=hQQ fun a w2 e hd ht=>cx MM.o (fun _ q=>q.elim) e hd ht
 have DONE:Hq (∀x w2 D' F',Rr=.ok x D'→MidV w1 w2 F (fun _=>False) p kn n D' F'→aC w F p kn (fun _:Unit=>Value.tuple #[]) Rr (.returned ((fun _:Unit=>Value.tuple #[]) x)) w2):=hQQ fun x w2 D' F' e h=>bZ MM.o (fun _ q=>q.elim) h e
 have HK:=hQQ hk
 have HR:=hQQ R
 have HH:=hQQ H
 clear hl1 m1 hv hD hk R H nFl
 unfold eT at hRr
 have pg2:=HR.o.pg2
 have hxw:=nJ HH.o hx
 have hyw:=nJ HH.o hy
 have qx:IntKind.i64.wrap (x+1)=x+1:=aB hxw.1 hxw.2
 have qy:IntKind.i64.wrap (y+1)=y+1:=aB hyw.1 hyw.2
 have GX:=hQQ hxw
 have GY:=hQQ hyw
 have PX:=hQQ hx
 have PY:=hQQ hy
 have PH:=hQQ (And.intro h1 h2)
 clear hxw hyw hx hy h1 h2
 by_cases ex:x= -1
 ·have d0:(x== -1)=true:=by simp[ex]
  rw[if_pos ex] at hRr
  have HRr:=hQQ hRr
  clear hRr ex
  go_enter Tryz.func146,Tryz.ntmps146
  go_wp2_with fail
  refine(dl F p kn D h (y+1) w1 M0.o.view (by have:=M0.o.inv.len;omega)).mono ?_
  intro e w2 he
  rcases M0.o.step (ae.refl _) HK.o (aV n PH.o.1 PH.o.2 GY.o) he with⟨a',hE,rfl,hd',ht',_⟩|⟨x2,D2,F2,hE,rfl,M2,hq2,_,_⟩
  ·exact⟨rfl,NEED.o a' w2 (HRr.o.symm.trans (ah hE)) hd' ht'⟩
  have L2:=hQQ (KL.o _ _ _ M2)
  have R2:=hQQ ((ak hE).symm.trans HRr.o)
  have M2:=hQQ M2
  clear he hE
  by_cases ey:y= -1
  ·have d1:(y != -1)=false:=by simp[ey]
   have FIN:=hQQ (DONE.o () w2 D2 F2 (by have:=R2.o;rw[if_pos ey] at this;exact this.symm) M2.o)
   clear R2 ey
   go_wp2_with fail
   go_end0
   exact FIN.o
  ·have d1:(y != -1)=true:=by simp[ey]
   have hpy:=PY.o.resolve_left ey
   have P4:=hQQ (GF (st:=c.st) hpy)
   have NY:=hQQ (eF HH.o hpy)
   have R2':=hQQ (by have:=R2.o;rw[if_neg ey] at this;exact this)
   clear R2 ey hpy
   go_wp2_with (refine af rfl 28 _ rfl _ rfl 28 _ _ _ L2.o Tryz.underlying28 rfl (by kernel_rfl) ?_)
   refine(p8 HR.o _ y).mono ?_
   rw[P4.o]
   rintro e w3 ⟨rfl,h3⟩
   have M3:=hQQ (M2.o.more h3)
   clear h3
   go_wp2_with fail
   refine(dl F2 p kn D2 _ (x+1) w3 M3.o.view (by have:=M3.o.inv.len;omega)).mono ?_
   intro e w4 he
   rcases M3.o.step (ae.refl _) HK.o (aV n NY.o.2.2.2 NY.o.2.2.1 GX.o) he with⟨a',hE,rfl,hd',ht',_⟩|⟨x4,D4,F4,hE,rfl,M4,hq4,_,_⟩
   ·exact⟨rfl,NEED.o a' w4 (R2'.o.symm.trans hE) hd' ht'⟩
   have FIN:=hQQ (DONE.o () w4 D4 F4 (R2'.o.symm.trans hE) M4)
   clear he hE M4
   go_wp2_with fail
   go_end0
   exact FIN.o
 ·have d0:(x== -1)=false:=by simp[ex]
  rw[if_neg ex] at hRr
  have hpx:=PX.o.resolve_left ex
  have HRr:=hQQ hRr
  have P3:=hQQ (CJ (st:=c.st) hpx)
  have NB:=hQQ (eF HH.o hpx)
  clear hRr ex hpx
  go_enter Tryz.func146,Tryz.ntmps146
  go_wp2_with (refine af rfl 28 _ rfl _ rfl 28 _ _ _ L0.o Tryz.underlying28 rfl (by kernel_rfl) ?_)
  refine(lQ HR.o _ x).mono ?_
  rw[P3.o]
  rintro e w5 ⟨rfl,h5⟩
  have M5:=hQQ (M0.o.more h5)
  clear h5
  go_wp2_with fail
  refine(dl F p kn D _ (y+1) w5 M5.o.view (by have:=M5.o.inv.len;omega)).mono ?_
  intro e w2 he
  rcases M5.o.step (ae.refl _) HK.o (aV n NB.o.1.2.2 NB.o.1.2.1 GY.o) he with⟨a',hE,rfl,hd',ht',_⟩|⟨x2,D2,F2,hE,rfl,M2,hq2,_,_⟩
  ·exact⟨rfl,NEED.o a' w2 (HRr.o.symm.trans (ah hE)) hd' ht'⟩
  have L2:=hQQ (KL.o _ _ _ M2)
  have R2:=hQQ ((ak hE).symm.trans HRr.o)
  have M2:=hQQ M2
  clear he hE
  by_cases ey:y= -1
  ·have d1:(y != -1)=false:=by simp[ey]
   have FIN:=hQQ (DONE.o () w2 D2 F2 (by have:=R2.o;rw[if_pos ey] at this;exact this.symm) M2.o)
   clear R2 ey
   go_wp2_with fail
   go_end0
   exact FIN.o
  ·have d1:(y != -1)=true:=by simp[ey]
   have hpy:=PY.o.resolve_left ey
   have P4:=hQQ (GF (st:=c.st) hpy)
   have NY:=hQQ (eF HH.o hpy)
   have R2':=hQQ (by have:=R2.o;rw[if_neg ey] at this;exact this)
   clear R2 ey hpy
   go_wp2_with (refine af rfl 28 _ rfl _ rfl 28 _ _ _ L2.o Tryz.underlying28 rfl (by kernel_rfl) ?_)
   refine(p8 HR.o _ y).mono ?_
   rw[P4.o]
   rintro e w3 ⟨rfl,h3⟩
   have M3:=hQQ (M2.o.more h3)
   clear h3
   go_wp2_with fail
   refine(dl F2 p kn D2 _ (x+1) w3 M3.o.view (by have:=M3.o.inv.len;omega)).mono ?_
   intro e w4 he
   rcases M3.o.step (ae.refl _) HK.o (aV n NY.o.2.2.2 NY.o.2.2.1 GX.o) he with⟨a',hE,rfl,hd',ht',_⟩|⟨x4,D4,F4,hE,rfl,M4,hq4,_,_⟩
   ·exact⟨rfl,NEED.o a' w4 (R2'.o.symm.trans hE) hd' ht'⟩
   have FIN:=hQQ (DONE.o () w4 D4 F4 (R2'.o.symm.trans hE) M4)
   clear he hE M4
   go_wp2_with fail
   go_end0
   exact FIN.o
end Go.Proofs.YtddmeghbmdfgeaaGreatDoor
