/-
  Layer 14's statements begin with any steps: the program that does them, over what front's functions come to.
-/
import Derived.Test.YtddmeghbmdfgeaaGreatDoorFlAr
import Derived.Test.YtddmeghbmdfgeaaGreatDoorFlAv
import Derived.Test.YtddmeghbmdfgeaaGreatDoorFlAe
import Derived.Deep.AppendSrc
import Derived.Test.YtddmeghbmdfgeaaGreatDoorFlAh
set_option maxRecDepth 100000
set_option maxHeartbeats 8000000
set_option linter.unusedVariables false
set_option linter.unusedSimpArgs false
set_option linter.unusedSectionVars false
namespace Go.Proofs.YtddmeghbmdfgeaaGreatDoor
open Go.RowKit Go.Sort Go.Maps Go.Shelf
structure AgK (c:Cfg)(a:Option Addr)(capl:Nat)(l:List fY)(g2 g3 g4 bt:Nat)(w:World):Prop where
 h2:w.heap[g2]?=some (.cells #[.slice a l.length capl] 24 (0,0))
 h3:w.heap[g3]?=some (.cells c.cells 73 (0,0))
 h4:w.heap[g4]?=some (.cells c.arr 28 (0,0))
 ins:fZ w a l
 sz:dg bt w
def AgO (a:Option Addr)(l:List fY)(g2 g3 g4 bt k:Nat):Prop:=k=g2∨k=g3∨k=g4∨k=0∨k=bt∨(l≠ []∧im a k)
section
variable {c:Cfg}{a:Option Addr}{capl:Nat}{l:List fY}{g2 g3 g4 bt:Nat}{w w':World}
theorem AgK.keep {S:Nat→Prop}(h:AgK c a capl l g2 g3 g4 bt w)(t:Turned S w w')(n:∀k,AgO a l g2 g3 g4 bt k→¬S k):AgK c a capl l g2 g3 g4 bt w' :=
 ⟨(t.block _ (ac h.h2) (n _ (.inl rfl))).trans h.h2,(t.block _ (ac h.h3) (n _ (.inr (.inl rfl)))).trans h.h3,(t.block _ (ac h.h4) (n _ (.inr (.inr (.inl rfl))))).trans h.h4,h.ins.keep t (fun e k hk=>n k (.inr (.inr (.inr (.inr (.inr ⟨e,hk⟩)))))),h.sz.keep t (n _ (.inr (.inr (.inr (.inl rfl))))) (n _ (.inr (.inr (.inr (.inr (.inl rfl))))))⟩
theorem AgK.more (h:AgK c a capl l g2 g3 g4 bt w)(m:ae w w'):AgK c a capl l g2 g3 g4 bt w':=h.keep m (fun _ _ q=>q)
theorem AgK.lt (h:AgK c a capl l g2 g3 g4 bt w){k:Nat}(hk:AgO a l g2 g3 g4 bt k):k<w.heap.size:=by
 rcases hk with rfl|rfl|rfl|rfl|rfl|⟨e,hk⟩
 ·exact ac h.h2
 ·exact ac h.h3
 ·exact ac h.h4
 ·exact h.sz.lt0
 ·exact h.sz.lt
 ·exact h.ins.lt e k hk
end
def AgY (c:Cfg)(a:Option Addr)(capl:Nat)(l:List fY)(g1 g2 g3 g4 bt:Nat)(pre:List Value)(ok:Value)(w:World):Prop:=AgK c a capl l g2 g3 g4 bt w∧∃fs o,StB w g1 pre fs o ok
def jX (b:Nat)(F:Nat→Prop)(w:World)(v:Value)(its:List Bl):Prop:=BlR b w v its∧∀q,v.ownBlock=some q→¬F q∧b≤q
def AgX (b g1:Nat)(pre:List Value)(ok:Value)(s:FSt)(w:World):Prop:=∃fs o,StB w g1 pre fs o ok∧Pu w (fs 0) s.P0∧Pu w (fs 1) s.P1∧BlR b w o s.O∧PuN (fun q=>b≤q) (fs 0)∧PuN (fun q=>b≤q) (fs 1)
structure AgM (b g1:Nat)(pre:List Value)(ok:Value)(d:Cfg)(F':Nat→Prop)(s:FSt)(fs:Nat→Nat→Value)(o:Value)(w:World):Prop where
 st:StB w g1 pre fs o ok
 p0:cR (fun q=>q<b∨F' q) w (fs 0) s.P0
 p1:cR (fun q=>q<b∨F' q) w (fs 1) s.P1
 row:jX b F' w o s.O
 okS:OkS d s
theorem jX.more {b:Nat}{F:Nat→Prop}{w w':World}{v:Value}{its:List Bl}(h:jX b F w v its)(m:ae w w'):jX b F w' v its:=⟨h.1.more m,h.2⟩
theorem jX.nil (b:Nat)(F:Nat→Prop)(w:World):jX b F w (.slice none 0 0) []:=⟨BlR.nil b w,fun q e=>by cases e⟩
theorem jX.stay {b:Nat}{F F1:Nat→Prop}{w w':World}{v:Value}{its:List Bl}(h:jX b F w v its)(s:∀g o,¬F g→w.heap[g]?=some o→w'.heap[g]?=some o)(n:∀g,F1 g→F g∨w.heap.size≤g):jX b F1 w' v its:=by
 refine⟨⟨h.1.1,?_⟩,fun q e=>⟨fun z=>?_,(h.2 q e).2⟩⟩
 ·rcases h.1.2 with q|⟨g,cap,cur,rfl,h2,h3,h4⟩
  ·exact .inl q
  ·exact .inr ⟨g,cap,cur,rfl,h2,s _ _ (h.2 g rfl).1 h3,h4⟩
 ·rcases n q z with r|r
  ·exact(h.2 q e).1 r
  ·have:=h.1.lt q e;omega
theorem AgM.more {b g1:Nat}{pre:List Value}{ok:Value}{d:Cfg}{F':Nat→Prop}{s:FSt}{fs:Nat→Nat→Value}{o:Value}{w w':World}(h:AgM b g1 pre ok d F' s fs o w)(m:ae w w'):AgM b g1 pre ok d F' s fs o w':=⟨h.st.more m,h.p0.more m,h.p1.more m,h.row.more m,h.okS⟩
theorem AgM.stay {b g1:Nat}{pre:List Value}{ok:Value}{d:Cfg}{F' F1:Nat→Prop}{s:FSt}{fs:Nat→Nat→Value}{o:Value}{w w':World}(h:AgM b g1 pre ok d F' s fs o w)(ng:¬F' g1)(k:∀g o,¬F' g→w.heap[g]?=some o→w'.heap[g]?=some o)(n:∀g,F1 g→F' g∨w.heap.size≤g):AgM b g1 pre ok d F1 s fs o w':=⟨⟨h.st.1,k _ _ ng h.st.2⟩,h.p0.stayN k n,h.p1.stayN k n,h.row.stay k n,h.okS⟩
section
variable {d:Cfg}{n bt:Nat}(T:uI d n bt)
theorem IY (x u c m:Int)(s:FSt)(f:FSt→Prg FSt):ar (dH T (5,x,u,c,m) s) f=ar T.drP fun _=>f s:=by
 have:dH T (5,x,u,c,m) s=ar T.drP fun _=>aA s:=by simp[dH]
 rw[this,dm];rfl
theorem IZ (x u c m:Int)(s:FSt)(f:FSt→Prg FSt):ar (dH T (4,x,u,c,m) s) f=ar (T.flP (s.at x)) fun y=>f (s.put x y.2):=by
 have:dH T (4,x,u,c,m) s=ar (T.flP (s.at x)) fun y=>aA (s.put x y.2):=by simp[dH]
 rw[this,dm];rfl
theorem I0 (k x u c m:Int)(hk:k=0∨k=1)(s:FSt)(f:FSt→Prg FSt):ar (dH T (k,x,u,c,m) s) f=ar (T.tkP (gq d u) (s.at x) c) fun y=>f ((s.put x y.2).out (if y.1.2 then s.O++ [(y.1.1,c)] else s.O)):=by
 have:dH T (k,x,u,c,m) s=ar (T.tkP (gq d u) (s.at x) c) fun y=>aA ((s.put x y.2).out (if y.1.2 then s.O++ [(y.1.1,c)] else s.O)):=by simp only[dH];rw[if_pos hk]
 rw[this,dm];rfl
theorem Fo (k x u c m:Int)(hk:k=2∨k=3)(s:FSt)(h:s.O[nthI m s.O.length]?=none)(f:FSt→Prg FSt):ar (dH T (k,x,u,c,m) s) f=f s:=by
 have:dH T (k,x,u,c,m) s=aA s:=by simp only[dH];rw[if_neg (by omega),if_pos hk,h]
 rw[this];rfl
theorem Fp (k x u c m:Int)(hk:k=2∨k=3)(s:FSt){b:Bl}(h:s.O[nthI m s.O.length]?=some b)(f:FSt→Prg FSt):ar (dH T (k,x,u,c,m) s) f=ar (T.gvP (gq d u) (s.at x) b.2 b.1) fun y=>f ((s.put x y.2).out (s.O.take (nthI m s.O.length)++s.O.drop (nthI m s.O.length+1))):=by
 have:dH T (k,x,u,c,m) s=ar (T.gvP (gq d u) (s.at x) b.2 b.1) fun y=>aA ((s.put x y.2).out (s.O.take (nthI m s.O.length)++s.O.drop (nthI m s.O.length+1))):=by simp only[dH];rw[if_neg (by omega),if_pos hk,h]
 rw[this,dm];rfl
theorem Fq (k x u c m:Int)(hk:k<0∨5<k)(s:FSt)(f:FSt→Prg FSt):ar (dH T (k,x,u,c,m) s) f=f s:=by
 have:dH T (k,x,u,c,m) s=aA s:=by simp only[dH];rw[if_neg (by omega),if_neg (by omega),if_neg (by omega),if_neg (by omega)]
 rw[this];rfl
end
theorem FSt.put_O (s:FSt)(x:Int)(P:Nat→List Int):(s.put x P).O=s.O:=by unfold FSt.put;split<;>rfl
theorem MidV.setR {W wr:World}{F S F':Nat→Prop}{p n:Nat}{kn:Int→Option Int}{D:List KV}(h:MidV W wr F S p kn n D F'){b:Nat}(hS:b<W.heap.size→S b)(nF:¬F' b)(cs':Array Value){cs:Array Value}{t:TypeId}{fr:Nat×Nat}(hb:wr.heap[b]?=some (.cells cs t fr)):MidV W (wr.setRow b cs') F S p kn n D F' :=
 have T:Turned (fun k=>k=b) wr (wr.setRow b cs'):=Turned.setRow (Turned.refl _ wr) b cs' (fun _=>rfl)
 ⟨h.view.keepS (S:=fun k=>k=b) T (fun k q e=>nF (e▸q)) (fun k es cl e q=>by subst e;rw[hb] at q;cases q),
  h.from',am h.turn T (fun k q=>by
   subst q
   rcases Nat.lt_or_ge k W.heap.size with r|r
   ·exact .inl (.inr (hS r))
   ·exact .inr r),h.inv⟩
theorem I1 (x:Int):∃wk:Nat,wk<2∧wkV x=(wk:Int):=by
 rcases Mp x with e|e
 ·exact⟨0,by omega,e⟩
 ·exact⟨1,by omega,e⟩
section
variable {b g1:Nat}{pre:List Value}{ok:Value}{d:Cfg}{F':Nat→Prop}{s:FSt}{fs:Nat→Nat→Value}{o:Value}{w:World}{x:Int}
theorem AgM.at0 (h:AgM b g1 pre ok d F' s fs o w)(e:wkV x=0):cR (fun q=>q<b∨F' q) w (fs 0) (s.at x):=by unfold FSt.at;rw[if_pos e];exact h.p0
theorem AgM.at1 (h:AgM b g1 pre ok d F' s fs o w)(e:wkV x=1):cR (fun q=>q<b∨F' q) w (fs 1) (s.at x):=by unfold FSt.at;rw[if_neg (by omega)];exact h.p1
theorem AgM.turn (h:AgM b g1 pre ok d F' s fs o w){w':World}(t:Turned (fun k=>k=g1) w w'):(∀f P,cR (fun q=>q<b∨F' q) w f P→cR (fun q=>q<b∨F' q) w' f P)∧jX b F' w' o s.O:=by
 have hs:∀T:TypeId,T≠37→∀k,k=g1→∃cs U fr,w.heap[k]?=some (.cells cs U fr)∧U≠T:=fun T hT k q=>by subst q;exact⟨_,_,_,h.st.2,fun e=>hT e.symm⟩
 exact⟨fun f P q=>q.keep t (hs _ (by decide)),h.row.1.keep t (hs _ (by decide)),h.row.2⟩
theorem AgM.put0 (h:AgM b g1 pre ok d F' s fs o w)(e:wkV x=0)(f:Nat→Value)(P:Nat→List Int)(hp:cR (fun q=>q<b∨F' q) w f P)(hl:dr d P)(cur:Array Value)(hc:cur=(stL pre fs o ok).toArray):
 AgM b g1 pre ok d F' (s.put x P) (nE fs 0 f) o (w.setRow g1 (cur.toList.take 25++(puA f).toList++cur.toList.drop (25+(puA f).size)).toArray):=by
 obtain⟨t1,t2⟩:=h.turn (w':=w.setRow g1 (cur.toList.take 25++(puA f).toList++cur.toList.drop (25+(puA f).size)).toArray) (Turned.setRow (Turned.refl _ w) _ _ (fun _=>rfl))
 have s2:=h.st.put (n:=0) (by omega) f cur hc
 have e2:s.put x P=⟨P,s.P1,s.O⟩:=by unfold FSt.put;rw[if_pos e]
 rw[e2]
 exact⟨s2,t1 _ _ hp,t1 _ _ h.p1,t2,hl,h.okS.l1,h.okS.o⟩
theorem AgM.put1 (h:AgM b g1 pre ok d F' s fs o w)(e:wkV x=1)(f:Nat→Value)(P:Nat→List Int)(hp:cR (fun q=>q<b∨F' q) w f P)(hl:dr d P)(cur:Array Value)(hc:cur=(stL pre fs o ok).toArray):
 AgM b g1 pre ok d F' (s.put x P) (nE fs 1 f) o (w.setRow g1 (cur.toList.take 30++(puA f).toList++cur.toList.drop (30+(puA f).size)).toArray):=by
 obtain⟨t1,t2⟩:=h.turn (w':=w.setRow g1 (cur.toList.take 30++(puA f).toList++cur.toList.drop (30+(puA f).size)).toArray) (Turned.setRow (Turned.refl _ w) _ _ (fun _=>rfl))
 have s2:=h.st.put (n:=1) (by omega) f cur hc
 have e2:s.put x P=⟨s.P0,P,s.O⟩:=by unfold FSt.put;rw[if_neg (by omega)]
 rw[e2]
 exact⟨s2,t1 _ _ h.p0,t1 _ _ hp,t2,h.okS.l0,hl,h.okS.o⟩
theorem AgM.atk (h:AgM b g1 pre ok d F' s fs o w){wk:Nat}(hw:wk<2)(e:wkV x=(wk:Int)):cR (fun q=>q<b∨F' q) w (fs wk) (s.at x):=by
 rcases (show wk=0∨wk=1 by omega) with rfl|rfl
 ·exact h.at0 e
 ·exact h.at1 e
theorem AgM.putk (h:AgM b g1 pre ok d F' s fs o w){wk:Nat}(hw:wk<2)(e:wkV x=(wk:Int))(f:Nat→Value)(P:Nat→List Int)(hp:cR (fun q=>q<b∨F' q) w f P)(hl:dr d P)(cur:Array Value)(hc:cur=(stL pre fs o ok).toArray):
 AgM b g1 pre ok d F' (s.put x P) (nE fs wk f) o (w.setRow g1 (cur.toList.take (25+wk * 5)++(puA f).toList++cur.toList.drop (25+wk * 5+(puA f).size)).toArray):=by
 rcases (show wk=0∨wk=1 by omega) with rfl|rfl
 ·exact h.put0 e f P hp hl cur hc
 ·exact h.put1 e f P hp hl cur hc
end
theorem jX.turnS {b g1:Nat}{F:Nat→Prop}{w w':World}{v:Value}{its:List Bl}{pre:List Value}{fs:Nat→Nat→Value}{o ok:Value}(h:jX b F w v its)(st:StB w g1 pre fs o ok)(t:Turned (fun k=>k=g1) w w'):jX b F w' v its :=
 ⟨h.1.keep t (fun k q=>by subst q;exact⟨_,_,_,st.2,by decide⟩),h.2⟩
theorem MidV.setC {W wr:World}{F F':Nat→Prop}{p n g1:Nat}{kn:Int→Option Int}{D:List KV}{pre:List Value}{fs:Nat→Nat→Value}{o ok:Value}(h:MidV W wr F (fun b=>b=g1) p kn n D F')(st:StB wr g1 pre fs o ok)(nF:¬F' g1){v:Value} :MidV W (wr.setCell ⟨g1,35,none⟩ v) F (fun b=>b=g1) p kn n D F':=by
 rw[setCell_eq_setRow wr g1 35 _ _ (0,0) v st.2]
 exact h.setR (fun _=>rfl) nF _ st.2
theorem AgM.putO {b g1:Nat}{pre:List Value}{ok:Value}{d:Cfg}{F':Nat→Prop}{s:FSt}{fs:Nat→Nat→Value}{o:Value}{w:World}(h:AgM b g1 pre ok d F' s fs o w){v:Value}{its:List Bl}(hr:jX b F' w v its)(hO:∀q∈its,W64 q.1):AgM b g1 pre ok d F' (s.out its) fs v (w.setCell ⟨g1,35,none⟩ v):=by
 have t:Turned (fun k=>k=g1) w (w.setCell ⟨g1,35,none⟩ v):=Turned.setCell (Turned.refl _ w) _ _ (fun _=>rfl)
 obtain⟨t1,_⟩:=h.turn t
 exact⟨h.st.put35 v,t1 _ _ h.p0,t1 _ _ h.p1,hr.turnS h.st t,h.okS.l0,h.okS.l1,hO⟩
theorem I2 {P:Program}{o:Oper}{a:Act}{w:World}{K:Act→World→Prop}{Q:Exit→Act→World→Prop}{f:Nat}{x0 x1 x2 x3 x4 x5:Operand}{v0 v1 v2 v3 v4 v5:Value}{ts:Array TypeId}(ho:o.op=.call { callee:= .value (.func f),args:= #[x0,x1,x2,x3,x4,x5],argTypes:=ts })(h0:a.eval x0=v0)(h1:a.eval x1=v1)(h2:a.eval x2=v2)(h3:a.eval x3=v3)(h4:a.eval x4=v4)(h5:a.eval x5=v5)(he:∀(vs:Array Value)(w:World),Sem.run P (callFunc f vs) w=.ok (.enter f vs) w)
 (h:Calls P f #[v0,v1,v2,v3,v4,v5] w (fun| .returned v,w''=>K (a.put o.dst v) w''| .panicked ch,w''=>Q (.panic ch) a w''| .outgrown,_=>LetsOut Q)):o.wp P a w K Q:=by
 have hv:a.eval (.func f)=.func (.func f) #[] #[]:=rfl
 unfold Oper.wp Oper.upon
 generalize hρ:a.eval=ρ at h0 h1 h2 h3 h4 h5 hv⊢
 simp[execOp,ho,resolve,invoke,hv,h0,h1,h2,h3,h4,h5,he,Sem.run_bind,Result.andThen,go_sem]
 exact h
theorem AgM.box {b g1:Nat}{pre:List Value}{ok:Value}{d:Cfg}{F':Nat→Prop}{s:FSt}{fs:Nat→Nat→Value}{o:Value}{w w':World}(h:AgM b g1 pre ok d F' s fs o w){gP:Nat}(t:Turned (fun k=>k=gP) w w'){cs:Array Value}{fr:Nat×Nat}(hg:w.heap[gP]?=some (.cells cs 32 fr))(ne:gP≠g1):AgM b g1 pre ok d F' s fs o w' :=
 have hs:∀T:TypeId,T≠32→∀k,k=gP→∃cs U fr,w.heap[k]?=some (.cells cs U fr)∧U≠T:=fun T hT k q=>by subst q;exact⟨_,_,_,hg,fun e=>hT e.symm⟩
 ⟨h.st.keep t (fun q=>ne q.symm),h.p0.keep t (hs _ (by decide)),h.p1.keep t (hs _ (by decide)),⟨h.row.1.keep t (hs _ (by decide)),h.row.2⟩,h.okS⟩
theorem FSt.out_self (s:FSt):s.out s.O=s:=rfl
theorem Cj {ops:Array Oper}{rest:List Oper}{o:Oper}{a:Act}{Q:Exit→Act→World→Prop}{base:Nat}{w:World}{v:Value}{its:List Bl}(p q:Int)(hgd:o.guard=none)(s x:Operand)
 (ho:o.op=.call { callee:= .builtin .append,args:= #[s,x],argTypes:= #[35,35] })
 (hs:a.eval s=v) (hn:BlR base w v its) (hb:base≤w.heap.size) (hl:its.length<1000000)
 (hx:a.eval x=.slice (some ⟨w.heap.size,0,none⟩) 1 1)
 (h:∀v' w',BlR base w' v' (its++ [(p,q)])→Turned (fun k=>v.ownBlock=some k) w w'→(∀k,v'.ownBlock=some k→v.ownBlock=some k∨w.heap.size≤k)→wpList Tryz.prog ops Q rest (a.put o.dst v') w'):wpList Tryz.prog ops Q (o::rest) a (w.alloc (.cells #[.int .i64 p,.int .i64 q] 48)):=by
 have hB:=bh w (.cells #[.int .i64 p,.int .i64 q] 48)
 have m:ae w (w.alloc (.cells #[.int .i64 p,.int .i64 q] 48)):=(ae.refl w).alloc _
 refine wpList_plain hgd fun K hK=>xy (base:=base) (its:=its) (news:=[(p,q)]) s x ho hs (hn.more m) (by have:=m.size;omega) hx (.inr ⟨⟨w.heap.size,0,none⟩,1,rfl,fun j u hu=>World.news_of_block hB j u (by simpa [blCells] using hu)⟩) (by simp only[List.length_cons,List.length_nil];omega) (fun v' w' h1 h2 h3=>hK _ _ (h v' w' h1 (am (Turned.mono m (fun _ _ q=>q.elim)) h2 (fun k z=> .inl z)) (fun k e=>(h3 k e).imp id (fun r=>by have:=m.size;omega))))
theorem KI {c:Cfg}{W0 wz wc:World}{F F9:Nat→Prop}{p n g1:Nat}{kn:Int→Option Int}{D9:List KV}{pre:List Value}{ok:Value}{s:FSt}{fs:Nat→Nat→Value}{o:Value}(M:MidV W0 wz F (fun b=>b=g1) p kn n D9 F9)(A:AgM W0.heap.size g1 pre ok c F9 s fs o wz)(t:Turned (fun k=>o.ownBlock=some k) wz wc):
 MidV W0 wc F (fun b=>b=g1) p kn n D9 F9∧StB wc g1 pre fs o ok∧cR (fun q=>q<W0.heap.size∨F9 q) wc (fs 0) s.P0∧cR (fun q=>q<W0.heap.size∨F9 q) wc (fs 1) s.P1:=by
 have ty:∀k,o.ownBlock=some k→∃cs fr,wz.heap[k]?=some (.cells cs 48 fr):=fun k e=>by
  rcases A.row.1.2 with⟨q,_⟩|⟨g,cap,cur,q,_,hg,_⟩
  ·rw[q] at e;cases e
  ·rw[q] at e
   have:g=k:=by simpa [Value.ownBlock] using e
   subst this
   exact⟨_,_,hg⟩
 have hs:∀T:TypeId,T≠48→∀k,o.ownBlock=some k→∃cs U fr,wz.heap[k]?=some (.cells cs U fr)∧U≠T:=fun T hT k e=>by
  obtain⟨cs,fr,h⟩:=ty k e
  exact⟨cs,_,fr,h,fun q=>hT q.symm⟩
 refine⟨⟨M.view.keepS t (fun k q e=>(A.row.2 k e).1 q) (fun k es cl e q=>by obtain⟨cs,fr,h⟩:=ty k e;rw[h] at q;cases q),M.from',am M.turn t (fun k e=> .inr (A.row.2 k e).2),M.inv⟩,A.st.keep t (fun e=>?_),A.p0.keep t (hs _ (by decide)),A.p1.keep t (hs _ (by decide))⟩
 obtain⟨cs,fr,h⟩:=ty g1 e
 have h2:=A.st.2
 rw[h] at h2
 injection h2 with h2
 injection h2 with _ h2
 exact absurd h2 (by decide)
theorem AgM.putO2 {b g1:Nat}{pre:List Value}{ok:Value}{d:Cfg}{F':Nat→Prop}{s:FSt}{fs:Nat→Nat→Value}{o:Value}{w:World}(st:StB w g1 pre fs o ok)(p0:cR (fun q=>q<b∨F' q) w (fs 0) s.P0)(p1:cR (fun q=>q<b∨F' q) w (fs 1) s.P1)(okS:OkS d s){v:Value}{its:List Bl}(hr:jX b F' w v its)(hO:∀q∈its,W64 q.1):AgM b g1 pre ok d F' (s.out its) fs v (w.setCell ⟨g1,35,none⟩ v):=by
 have t:Turned (fun k=>k=g1) w (w.setCell ⟨g1,35,none⟩ v):=Turned.setCell (Turned.refl _ w) _ _ (fun _=>rfl)
 have hs:∀T:TypeId,T≠37→∀k,k=g1→∃cs U fr,w.heap[k]?=some (.cells cs U fr)∧U≠T:=fun T hT k q=>by subst q;exact⟨_,_,_,st.2,fun e=>hT e.symm⟩
 exact⟨st.put35 v,p0.keep t (hs _ (by decide)),p1.keep t (hs _ (by decide)),hr.turnS st t,okS.l0,okS.l1,hO⟩
theorem mH {P:Program}{ops:Array Oper}{C:World→Prop}{o:Oper}{a:Act}(hw:Region.wanted o (yielded ops a.tmps)=true)(ty:TypeId)(x:Operand)(ho:o.op=.load ty x)(g off:Nat)(hx:a.eval x=.pointer (some ⟨g,off,none⟩))(cs:List Value)(d:TypeDesc)(hg:∀w,C w→w.rangeAt g off cs)(hu:P.underlying ty=some d)(hd:d.isRow=true)(hi:(P.info? ty).map (·.size)=some cs.length):bT P ops C o (.agg cs.toArray) a :=
 .inl ⟨hw,fun w hC=>by
  unfold execOp
  simp only[ho,hx,Instr.loadAt,Instr.sureAddr,Sem.run_bind,Sem.run_pure,Result.andThen_ok,run_loadVar_mid w g off ty cs d (hg w hC) hu hd hi]⟩
theorem nR {o:Oper}{a:Act}{w:World}{K:Act→World→Prop}{Q:Exit→Act→World→Prop}(ho:o.op=.alloc 32)(h:K (a.put o.dst (.pointer (some ⟨w.heap.size,0,none⟩))) (w.alloc (.cells #[.slice none 0 0,.slice none 0 0,.slice none 0 0,.slice none 0 0,.slice none 0 0] 32))):Oper.wp Tryz.prog o a w K Q:=by
 unfold Oper.wp Oper.upon execOp
 simp only[ho]
 generalize a.eval=ρ
 go_simp
 exact h
theorem MH {c:Cfg}(R:c.Ok){n bt:Nat}(T:uI c n bt)(F:Nat→Prop)(p g1 g2 g3 g4:Nat)(kn:Int→Option Int)(a:Option Addr)(capl:Nat)(l:List fY)(hll:l.length≤1000)(sF:FSt)(pre:List Value)(ok:Value)(W0:World)(hv:aK W0 F p kn [])(hk:OkK kn)(hY:AgY c a capl l g1 g2 g3 g4 bt pre ok W0)(nF:∀k,AgO a l g2 g3 g4 bt k→¬F k)(n1:¬F g1)(ne:∀k,AgO a l g2 g3 g4 bt k→k≠g1)
 (ht:∀z D,dT T l ⟨fun _=> [],fun _=> [],[]⟩ kn []=.ok z D→z=sF):
 Calls Tryz.prog 37 #[.pointer (some ⟨p,0,none⟩),.pointer (some ⟨g1,0,none⟩),.pointer (some ⟨g2,0,none⟩),.pointer (some ⟨g3,0,none⟩),.pointer (some ⟨g4,0,none⟩)] W0 (gO W0 F (fun b=>b=g1) (fun w'=>AgY c a capl l g1 g2 g3 g4 bt pre ok w') (fun w'=>AgX W0.heap.size g1 pre ok sF w') p kn (fo (dT T l ⟨fun _=> [],fun _=> [],[]⟩ kn []))):=by
 obtain⟨Rr,hR⟩:∃Rr,dT T l ⟨fun _=> [],fun _=> [],[]⟩ kn []=Rr:=⟨_,rfl⟩
 rw[hR] at ht⊢
 obtain⟨hK,fs0,o0,h1⟩:=hY
 have l1:=h1.lt
 have HK:=hQQ hk
 have HR:=hQQ R
 have KT:Hq (∀wr,Turned (fun b=>F b∨b=g1) W0 wr→AgK c a capl l g2 g3 g4 bt wr):=hQQ fun wr t=>hK.keep t (fun k q=>by rintro(z|z);exact nF k q z;exact ne k q z)
 have N1:Hq (∀wr D' F',MidV W0 wr F (fun b=>b=g1) p kn n D' F'→¬F' g1):=hQQ fun wr D' F' h=>h.off l1 n1
 have NZ:Hq (∀wr D' F',MidV W0 wr F (fun b=>b=g1) p kn n D' F'→¬F' 0∧¬F' bt):=hQQ fun wr D' F' h=>⟨h.off (hK.lt (.inr (.inr (.inr (.inl rfl))))) (nF _ (.inr (.inr (.inr (.inl rfl))))),h.off (hK.lt (.inr (.inr (.inr (.inr (.inl rfl)))))) (nF _ (.inr (.inr (.inr (.inr (.inl rfl))))))⟩
 have NEED:Hq (∀x w2,Rr=.need x→aQ w2 p x→Turned (fun b=>F b∨b=g1) W0 w2→(∃fs o,StB w2 g1 pre fs o ok)→gO W0 F (fun b=>b=g1) (fun w'=>AgY c a capl l g1 g2 g3 g4 bt pre ok w') (fun w'=>AgX W0.heap.size g1 pre ok sF w') p kn (fo Rr) (.panicked (aY p)) w2):=hQQ fun x w2 e hd' ht' q =>
  wI (nY e) hd' ht' ⟨KT.o _ ht',q⟩
 have DONE:Hq (∀x w2 D F' fs o,Rr=.ok x D→MidV W0 w2 F (fun b=>b=g1) p kn n D F'→AgM W0.heap.size g1 pre ok c F' x fs o w2→gO W0 F (fun b=>b=g1) (fun w'=>AgY c a capl l g1 g2 g3 g4 bt pre ok w') (fun w'=>AgX W0.heap.size g1 pre ok sF w') p kn (fo Rr) (.returned (.tuple #[])) w2):=hQQ fun x w2 D F' fs o e h b=>by
  have:=ht x D e
  subst this
  exact wJ h (su e) ⟨KT.o _ h.turn,_,_,b.st⟩ ⟨_,_,b.st,b.p0.1,b.p1.1,b.row.1,fun c hc q e=>Nat.le_of_not_lt fun z=>b.p0.2 c hc q e (.inl z),fun c hc q e=>Nat.le_of_not_lt fun z=>b.p1.2 c hc q e (.inl z)⟩
 have M0:Hq (MidV W0 W0 F (fun b=>b=g1) p kn n [] F):=hQQ (MidV.begin hv (d7 n))
 have HL:=hQQ hll
 have HRr:=hQQ hR
 obtain⟨cur,hcur⟩:∃cur,(stL pre fs0 o0 ok).toArray=cur:=⟨_,rfl⟩
 have hg1:=h1.2
 rw[hcur] at hg1
 have hsz:cur.size=37:=by rw[←hcur,List.size_toArray];exact ny h1.1 _ _ _
 obtain⟨w1,e1⟩:∃w1,W0.setRow g1 (cur.toList.take 25++(#[.slice none 0 0,.slice none 0 0,.slice none 0 0,.slice none 0 0,.slice none 0 0,.slice none 0 0,.slice none 0 0,.slice none 0 0,.slice none 0 0,.slice none 0 0]:Array Value).toList++cur.toList.drop (25+(#[.slice none 0 0,.slice none 0 0,.slice none 0 0,.slice none 0 0,.slice none 0 0,.slice none 0 0,.slice none 0 0,.slice none 0 0,.slice none 0 0,.slice none 0 0]:Array Value).size)).toArray=w1:=⟨_,rfl⟩
 have s1:StB w1 g1 pre (fun _ _=> .slice none 0 0) o0 ok:=by rw[←e1];exact h1.zero cur hcur.symm _ rfl
 have t1:Turned (fun b=>b=g1) W0 w1:=by rw[←e1];exact Turned.setRow (Turned.refl _ W0) _ _ (fun _=>rfl)
 have x1:=s1.row
 have x2:=s1.froz 35
 obtain⟨w2,e2⟩:∃w2,w1.setCell ⟨g1,35,none⟩ (.slice none 0 0)=w2:=⟨_,rfl⟩
 have s2:StB w2 g1 pre (fun _ _=> .slice none 0 0) (.slice none 0 0) ok:=by rw[←e2];exact s1.put35 _
 have t2:Turned (fun b=>b=g1) W0 w2:=by rw[←e2];exact Turned.setCell t1 _ _ (fun _=>rfl)
 have M2:Hq (MidV W0 w2 F (fun b=>b=g1) p kn n [] F):=hQQ ⟨hv.keepS t2 (fun k q e=>n1 (e▸q)) (fun k es cl e q=>by subst e;rw[h1.2] at q;cases q),fun k q=> .inl q,t2.mono (fun k _ q=> .inr q),d7 n⟩
 have A2:Hq (AgM W0.heap.size g1 pre ok c F ⟨fun _=> [],fun _=> [],[]⟩ (fun _ _=> .slice none 0 0) (.slice none 0 0) w2):=hQQ ⟨s2,cR.nil _ _,cR.nil _ _,jX.nil _ _ _,OkS.nil R⟩
 clear hv hk R hR ht h1 hK nF n1 hll s1 s2 t1 t2 hcur
 go_enter Tryz.func37,Tryz.ntmps37
 go_wp2_with (refine gL rfl 33 _ _ rfl g1 25 _ rfl rfl 37 cur hg1 (by rw[hsz];exact Nat.le_of_ble_eq_true rfl) (by kernel_rfl) (by simp[Value.oneCell']) ?_;rw[e1])
 clear x1 x2 e1 e2 hg1 hsz l1
 go_loopw [6] (fun i wr=>∃(j:Nat) (s:FSt) (fs:Nat→Nat→Value) (o:Value) (D:List KV) (F':Nat→Prop),i=.int .i64 (j:Int)∧j≤l.length∧s.O.length≤j∧MidV W0 wr F (fun b=>b=g1) p kn n D F'∧AgM W0.heap.size g1 pre ok c F' s fs o wr∧dT T (l.drop j) s kn D=Rr) (fun i _=>l.length-(intOf i).toNat)
 case atStart=>exact⟨0,_,_,_,[],F,rfl,Nat.zero_le _,by simp,M2.o,A2.o,by simpa using HRr.o⟩
 case round =>
  obtain⟨j,st,fs,o,D1,F1,rfl,hj,hbl,M1',A1',E1'⟩:=hrel
  clear M0 M2 A2 HRr
  have M1:=hQQ M1'
  have A1:=hQQ A1'
  have KK:=hQQ (KT.o _ M1'.turn)
  have c2:=(aE KK.o.h2).1
  have HBL:=hQQ hbl
  clear M1' A1'
  by_cases hlt:j<l.length
  ·have d1:decide ((j:Int)<(l.length:Int))=true:=by simp;omega
   obtain⟨⟨kind,x,u,cl,m⟩,hjt⟩:∃t,l[j]?=some t:=⟨_,List.getElem?_eq_getElem hlt⟩
   rw[Hl hjt] at E1'
   have E2:=hQQ (show ar (dH T (kind,x,u,cl,m) st) (fun s'=>dT T (l.drop (j+1)) s') kn D1=Rr from E1')
   obtain⟨sb,so,ha,hs,_⟩:=KK.o.ins.resolve_left (by intro q;rw[q] at hlt;simp at hlt)
   subst ha
   have hrg:=KK.o.ins.range hjt
   have hjx:(j:Int)<(l.length:Int):=by omega
   have hjy:(0:Int)≤(j:Int):=by omega
   obtain⟨w3,e3⟩:∃w3,(wr.alloc (.cells #[.int .i64 0,.int .i64 0,.int .i64 0,.int .i64 0,.int .i64 0] 77)).setRow wr.heap.size #[.int .i64 kind,.int .i64 x,.int .i64 u,.int .i64 cl,.int .i64 m]=w3:=⟨_,rfl⟩
   have hb3:w3.heap[wr.heap.size]?=some (.cells #[.int .i64 kind,.int .i64 x,.int .i64 u,.int .i64 cl,.int .i64 m] 77 (0,0)):=by rw[←e3];exact setRow_heap _ _ _ _ _ _ (a7 _ _ _)
   have m3:ae wr w3:=by rw[←e3];exact((ae.refl wr).alloc _).setRow _ _ (Nat.le_refl _)
   have M3:=hQQ m3
   have HB:=hQQ hb3
   clear E1' hjt
   go_wp2_with (first|(refine wpList_load_mid rfl 77 _ rfl sb (so+j * 5) rfl [.int .i64 kind,.int .i64 x,.int .i64 u,.int .i64 cl,.int .i64 m] _ hrg Tryz.underlying77 rfl (by kernel_rfl) ?_)|(refine wpList_store_row rfl 77 _ _ rfl _ _ rfl rfl 77 _ (a7 _ _ _) (by kernel_rfl) rfl (by simp[Value.oneCell']) ?_;rw[e3])|(refine wpList_load_row rfl 77 _ rfl _ rfl 77 _ _ _ hb3 Tryz.underlying77 rfl (by kernel_rfl) ?_))
   refine(Ff _ _ _ _ _ w3).mono ?_
   rintro e w4 ⟨rfl,m4⟩
   have M4:=hQQ (M3.o.trans m4)
   have k4:=KK.o.more M4.o
   have HB4:=hQQ (m4.block HB.o)
   have y0:w4.cell? ⟨wr.heap.size,0,none⟩=some (.int .i64 kind):=by simp[World.cell?,HB4.o]
   have y2:w4.cell? ⟨wr.heap.size,2,none⟩=some (.int .i64 u):=by simp[World.cell?,HB4.o]
   have y3:w4.cell? ⟨wr.heap.size,3,none⟩=some (.int .i64 cl):=by simp[World.cell?,HB4.o]
   have y4:w4.cell? ⟨wr.heap.size,4,none⟩=some (.int .i64 m):=by simp[World.cell?,HB4.o]
   have z1:w4.cell? ⟨g3,1,none⟩=some (.int .i64 c.cp):=by simp[World.cell?,k4.h3,Cfg.cells]
   have cp1:=HR.o.cp1
   have cp2:=HR.o.cp2
   have uc:IntKind.u64.wrap c.cp=c.cp:=IntWalk.u64_in _ (by omega)
   have n0:(c.cp==0)=false:=by simp;omega
   have n1:decide (c.cp=0)=false:=by simp;omega
   have n2:c.cp≠0:=by omega
   have hrem:wrap64 ((IntKind.u64.wrap u).tmod c.cp)=gq c u:=by
    have h1:=Int.emod_nonneg (IntKind.u64.wrap u) (show c.cp≠0 by omega)
    have h2:=Int.emod_lt_of_pos (IntKind.u64.wrap u) (show 0<c.cp by omega)
    rw[Int.tmod_eq_emod_of_nonneg (BN u)]
    unfold wrap64 gq;omega
   have hl0:=HL.o
   clear hb3 m3 m4 hrg k4 e3
   by_cases kd:kind<0∨5<kind
   ·have q0:(kind==0)=false:=by simp;omega
    have q1:(kind==1)=false:=by simp;omega
    have q2:(kind==2)=false:=by simp;omega
    have q3:(kind==3)=false:=by simp;omega
    have q4:(kind==4)=false:=by simp;omega
    have q5:(kind==5)=false:=by simp;omega
    have E9:=hQQ (show dT T (l.drop (j+1)) st kn D1=Rr from by
     have:=E2.o
     rw[Fq T _ _ _ _ _ kd] at this
     exact this)
    clear kd y3 y4
    go_wp2_with fail
    go_roundw
    case rel=>exact⟨j+1,st,_,_,D1,F1,by go_num,by omega,by have:=HBL.o;omega,M1.o.more M4.o,A1.o.more M4.o,E9.o⟩
    case measure=>simp[intOf];omega
   ·have hk6:kind=0∨kind=1∨kind=2∨kind=3∨kind=4∨kind=5:=by omega
    clear kd
    by_cases k5:kind=5
    ·subst k5
     have E9:=hQQ (show ar T.drP (fun _=>dT T (l.drop (j+1)) st) kn D1=Rr from(by have:=E2.o;rw[IY] at this;exact this))
     clear hk6 y3 y4
     have GO:=hQQ ((KK.o.more M4.o).h4)
     go_wp2_with (refine wpList_load_row rfl 28 _ rfl _ rfl 28 _ _ _ GO.o Tryz.underlying28 rfl (by kernel_rfl) ?_)
     refine(T.drC F1 p kn D1 w4 (M1.o.more M4.o).view HK.o M1.o.inv (KK.o.more M4.o).sz (NZ.o _ _ _ M1.o).1 (NZ.o _ _ _ M1.o).2).mono ?_
     intro e w5 he
     rcases M1.o.step M4.o HK.o T.drG he with⟨a',hE,rfl,hd',ht',hk6⟩|⟨x6,D6,F6,hE,rfl,M6',_,hk6,hf6⟩
     ·exact⟨rfl,NEED.o a' w5 (E9.o.symm.trans (ah hE)) hd' ht' ⟨_,_,A1.o.st.1,hk6 _ _ (N1.o _ _ _ M1.o) A1.o.st.2⟩⟩
     have R6:=hQQ ((ak hE).symm.trans E9.o)
     have A6:=hQQ (A1.o.stay (N1.o _ _ _ M1.o) hk6 hf6)
     have M6:=hQQ M6'
     clear he hE hk6 hf6 M6' y0 y2 z1
     go_wp2_with fail
     go_roundw
     case rel=>exact⟨j+1,st,_,_,D6,F6,by go_num,by omega,by have:=HBL.o;omega,M6.o,A6.o,R6.o⟩
     case measure=>simp[intOf];omega
    ·by_cases k4:kind=4
     ·subst k4
      have E9:=hQQ (show ar (T.flP (st.at x)) (fun y=>dT T (l.drop (j+1)) (st.put x y.2)) kn D1=Rr from(by have:=E2.o;rw[IZ] at this;exact this))
      have KC:Hq (∀W D' F',MidV W0 W F (fun b=>b=g1) p kn n D' F'∧AgM W0.heap.size g1 pre ok c F' st fs o W→AgK c (some ⟨sb,so,none⟩) capl l g2 g3 g4 bt W):=hQQ fun W D' F' h=>KT.o _ h.1.turn
      clear hk6 k5 y3 y4
      have M4':Hq (MidV W0 w4 F (fun b=>b=g1) p kn n D1 F1∧AgM W0.heap.size g1 pre ok c F1 st fs o w4):=hQQ ⟨M1.o.more M4.o,A1.o.more M4.o⟩
      obtain⟨wk,hwk0,ex⟩:=I1 x
      have hwk:=hQQ hwk0
      have hwi:(wk:Int)<2:=by omega
      rw[ex]
      go_wp2_with fail
      clear M4 M1 A1 KK c2 y0 y2 z1 HB HB4
      have M4:=M4'
      refine aR (fun W=>AgK c (some ⟨sb,so,none⟩) capl l g2 g3 g4 bt W) (by kernel_rfl) ?_
      have MR:Hq (MidV W0 (w4.drewN 1) F (fun b=>b=g1) p kn n D1 F1∧AgM W0.heap.size g1 pre ok c F1 (st) (fs) o (w4.drewN 1)):=hQQ ⟨M4.o.1.more ((ae.refl w4).drewN 1),M4.o.2.more ((ae.refl w4).drewN 1)⟩
      change dq _ _ _ _ _ _ _ _ (w4.drewN 1)
      generalize w4.drewN 1=wq at MR⊢
      generalize hA:Act.mk _ _=A
      have HF:AG 120 A [(0,.pointer (some ⟨p,0,none⟩)),(1,.pointer (some ⟨g1,0,none⟩)),(4,.pointer (some ⟨g4,0,none⟩)),(8,.int .i64 (wk:Int))]:=by
       rw[←hA];try simp only[pts,List.foldl]
       refine⟨⟨Nat.le_of_ble_eq_true rfl,rfl⟩,?_⟩
       intro z hz;simp only[List.mem_cons,List.not_mem_nil,or_false] at hz;rcases hz with rfl|rfl|rfl|rfl<;>rfl
      refine bK (fun a W=>∃(u105 u106 u107 u108 u109 u110 u113 u111 u112 u114:Value) (f9:Nat→Value) (D9:List KV) (F9:Nat→Prop),a=(Act.put (pts A [(105,u105),(106,u106),(107,u107),(108,u108),(109,u109),(110,u110),(113,u113),(111,u111),(112,u112),(114,u114)]) none undef)∧(MidV W0 W F (fun b=>b=g1) p kn n D9 F9∧AgM W0.heap.size g1 pre ok c F9 (st.put x (fun _=> [])) (nE fs wk f9) o W)∧dT T (l.drop (j+1)) (st.put x (fun _=> [])) kn D9=Rr) (fun W=>gO W0 F (fun b=>b=g1) (fun w'=>AgY c (some ⟨sb,so,none⟩) capl l g1 g2 g3 g4 bt pre ok w') (fun w'=>AgX W0.heap.size g1 pre ok sF w') p kn (fo Rr) (.panicked (aY p)) W) (aY p) (fun a W hd h=>⟨hd,h⟩) (fun _ _ _ _ _ h=>h) ?_ ?_
      ·skip
       rintro a9 w9 ⟨u105,u106,u107,u108,u109,u110,u113,u111,u112,u114,f9,D9,F9,rfl,MS,R9'⟩
       rw[←hA];try simp only[pts,List.foldl]
       have M9:=hQQ MS
       have R9:=hQQ R9'
       clear MS R9' HF hA MR
       go_simp
       go_wp2_with fail
       go_roundw
       case rel=>exact⟨j+1,st.put x (fun _=> []),nE fs wk f9,o,D9,F9,by go_num,by omega,by rw[FSt.put_O];have:=HBL.o;omega,M9.o.1,M9.o.2,R9.o⟩
       case measure=>simp[intOf];omega
      intro QQ FINE FIND FINQ
      clear hA
      refine tqM 0 105 3 rfl (.inl rfl) rfl (by kernel_rfl) FINQ (KC.o _ _ _ MR.o) HF fun A hB1_105 HF=>?_
      refine tqM 1 106 1 rfl (.inl rfl) rfl (by kernel_rfl) FINQ (KC.o _ _ _ MR.o) HF fun A hB2_106 HF=>?_
      refine tqC 2 107 (.agg c.arr) (by kernel_rfl) FINQ (KC.o _ _ _ MR.o) HF (by exact aF (ab rfl) 28 _ rfl g4 (HF.get 4 rfl) 28 _ _ _ (fun W hW=>hW.h4) Tryz.underlying28 rfl (by kernel_rfl)) fun A hB3_107 HF=>?_
      refine tqM 3 108 6 rfl (.inl rfl) rfl (by kernel_rfl) FINQ (KC.o _ _ _ MR.o) HF fun A hB4_108 HF=>?_
      refine tqC 4 109 (.pointer (some ⟨g1,25,none⟩)) (by kernel_rfl) FINQ (KC.o _ _ _ MR.o) HF (by exact(Or.inl ⟨(ab rfl),fun W hW=>by have h5:=(HF.getD 5 rfl);go_simp⟩)) fun A hB5_109 HF=>?_
      refine tqC 5 110 (.pointer (some ⟨g1,25+wk * 5,none⟩)) (by kernel_rfl) FINQ (KC.o _ _ _ MR.o) HF (by exact(Or.inl ⟨(ab rfl),fun W hW=>by have h5:=(HF.getD 0 rfl);have h6:=(HF.getD 1 rfl);go_simp⟩)) fun A hB6_110 HF=>?_
      refine tqC 8 113 (.pointer (some ⟨g1,25,none⟩)) (by kernel_rfl) FINQ (KC.o _ _ _ MR.o) HF (by exact(Or.inl ⟨(ab rfl),fun W hW=>by have h5:=(HF.getD 7 rfl);go_simp⟩)) fun A hB7_113 HF=>?_
      refine az (i:=6) (some 111) (by kernel_rfl) rfl (ab rfl) rfl (fun K hK=>?_)
      refine wp_load_mid 32 _ rfl g1 (25+wk * 5) (HF.get 1 rfl) (puA (fs wk)).toList _ (MR.o.2.st.range (n:=wk) hwk.o) Tryz.underlying32 rfl (by kernel_rfl) ?_
      refine hK _ _ (KC.o _ _ _ MR.o) ?_
      clear hK K
      replace HF:=HF.put 111 (.agg (puA (fs wk)).toList.toArray) (by decide) rfl
      generalize hB8_111:Act.put _ _ _=A at HF⊢
      refine az (i:=7) (some 112) (by kernel_rfl) rfl (ab rfl) rfl (fun K hK=>?_)
      refine dP (v0:=.pointer (some ⟨p,0,none⟩)) (v1:=.agg c.arr) (v2:=.agg (puA (fs wk)).toList.toArray) rfl (HF.get 6 rfl) (HF.get 5 rfl) (HF.get 0 rfl) (enters_of Tryz.func17 (by kernel_rfl) rfl) ?_
      refine(T.flC F1 (fun q=>q<W0.heap.size) p kn D1 wq (fs wk) (st.at x) MR.o.1.view HK.o MR.o.1.inv (KC.o _ _ _ MR.o).sz (NZ.o _ _ _ MR.o.1).1 (NZ.o _ _ _ MR.o.1).2 (fun q z=>Nat.lt_of_lt_of_le z MR.o.1.size) (MR.o.2.atk hwk.o ex) (MR.o.2.okS.at x)).mono ?_
      intro e w7 he
      rcases MR.o.1.stepP (ae.refl _) HK.o (T.flG _ (MR.o.2.okS.at x)) he with⟨a',hE,rfl,hd',ht',hk6⟩|⟨x6,f6,D6,F6,hE,rfl,M6',hp6,hq6,hk6,hf6⟩
      ·exact FIND _ _ HF.1.2 (NEED.o a' w7 (E9.o.symm.trans (ah hE)) hd' ht' ⟨_,_,MR.o.2.st.1,hk6 _ _ (N1.o _ _ _ MR.o.1) MR.o.2.st.2⟩)
      have R6:=hQQ ((ak hE).symm.trans E9.o)
      rw[hq6] at R6 hp6
      have M6:Hq (MidV W0 w7 F (fun b=>b=g1) p kn n D6 F6∧AgM W0.heap.size g1 pre ok c F6 (st) (fs) o w7):=hQQ ⟨M6',MR.o.2.stay (N1.o _ _ _ MR.o.1) hk6 hf6⟩
      have P6:=hQQ hp6
      clear he hE hk6 hf6 hq6 hp6
      refine hK _ _ (KC.o _ _ _ M6.o) ?_
      clear hK K
      replace HF:=HF.put 112 (.agg (puA f6)) (by decide) rfl
      generalize hB9_112:Act.put _ _ _=A at HF⊢
      refine tqC 9 114 (.pointer (some ⟨g1,25+wk * 5,none⟩)) (by kernel_rfl) FINQ (KC.o _ _ _ M6.o) HF (by exact(Or.inl ⟨(ab rfl),fun W hW=>by have h5:=(HF.getD 2 rfl);have h6:=(HF.getD 8 rfl);go_simp⟩)) fun A hB10_114 HF=>?_
      obtain⟨cur,hcur⟩:∃cur,(stL pre fs o ok).toArray=cur:=⟨_,rfl⟩
      have hg:=M6.o.2.st.2
      rw[hcur] at hg
      have hsz:cur.size=37:=by rw[←hcur,List.size_toArray];exact ny M6.o.2.st.1 _ _ _
      have A7:=M6.o.2.putk hwk.o ex f6 (fun _=> []) P6.o (dr.nil HR.o) cur hcur.symm
      have M7:=M6.o.1.setR (b:=g1) (fun _=>rfl) (N1.o _ _ _ M6.o.1) (cur.toList.take (25+wk * 5)++(puA f6).toList++cur.toList.drop (25+wk * 5+(puA f6).size)).toArray hg
      refine mQ (i:=10) (by kernel_rfl) (by kernel_rfl) rfl (ab rfl) (fun K hK=>?_)
      refine jW 32 _ _ rfl g1 (25+wk * 5) (puA f6) (HF.get 0 rfl) (HF.get 1 rfl) 37 cur hg (by rw[hsz];show 25+wk * 5+5≤37;have:=hwk.o;omega) (by kernel_rfl) (Pu.all1 P6.o.1) ?_
      refine hK _ _ (KT.o _ M7.turn) (FINE _ _ ⟨(.int .i64 (wk:Int)),(.pointer (some ⟨p,0,none⟩)),(.agg c.arr),(.int .i64 (wk:Int)),(.pointer (some ⟨g1,25,none⟩)),(.pointer (some ⟨g1,25+wk * 5,none⟩)),(.pointer (some ⟨g1,25,none⟩)),(.agg (puA (fs wk)).toList.toArray),(.agg (puA f6)),(.pointer (some ⟨g1,25+wk * 5,none⟩)),f6,D6,F6,?_,⟨M7,A7⟩,R6.o⟩)
      rw[←hB10_114,←hB9_112,←hB8_111,←hB7_113,←hB6_110,←hB5_109,←hB4_108,←hB3_107,←hB2_106,←hB1_105];rfl
     ·by_cases k01:kind=0∨kind=1
      ·have hk01:=hQQ k01
       clear hk6 k4 k5
       have E9:=hQQ (show ar (T.tkP (gq c u) (st.at x) cl) (fun y=>dT T (l.drop (j+1)) ((st.put x y.2).out (if y.1.2 then st.O++ [(y.1.1,cl)] else st.O))) kn D1=Rr from by have:=E2.o;rw[I0 T _ _ _ _ _ k01] at this;exact this)
       obtain⟨kd,hkd⟩:∃kd,kd=kind:=⟨_,rfl⟩
       rw[←hkd] at HB4
       clear E2 HB hkd
       rcases k01 with rfl|rfl
       all_goals
        skip
        have HG1:Hq (g1<wr.heap.size):=hQQ A1.o.st.lt
        have HW0:Hq (W0.heap.size≤wr.heap.size):=hQQ M1.o.size
        have NA:Hq (¬F1 wr.heap.size):=hQQ fun q=>by have:=M1.o.view.lt _ q;omega
        have KC:Hq (∀W D' F',(MidV W0 W F (fun b=>b=g1) p kn n D' F'∧AgM W0.heap.size g1 pre ok c F' st fs o W∧W.heap[wr.heap.size]?=some (.cells #[.int .i64 kd,.int .i64 x,.int .i64 u,.int .i64 cl,.int .i64 m] 77 (0,0)))→AgK c (some ⟨sb,so,none⟩) capl l g2 g3 g4 bt W∧W.heap[wr.heap.size]?=some (.cells #[.int .i64 kd,.int .i64 x,.int .i64 u,.int .i64 cl,.int .i64 m] 77 (0,0))∧StB W g1 pre fs o ok):=hQQ fun W D' F' h=>⟨KT.o _ h.1.turn,h.2.2,h.2.1.st⟩
        have M4':Hq (MidV W0 w4 F (fun b=>b=g1) p kn n D1 F1∧AgM W0.heap.size g1 pre ok c F1 st fs o w4∧w4.heap[wr.heap.size]?=some (.cells #[.int .i64 kd,.int .i64 x,.int .i64 u,.int .i64 cl,.int .i64 m] 77 (0,0))):=hQQ ⟨M1.o.more M4.o,A1.o.more M4.o,HB4.o⟩
        obtain⟨wk,hwk0,ex⟩:=I1 x
        have hwk:=hQQ hwk0
        have hwi:(wk:Int)<2:=by omega
        rw[ex]
        go_wp2_with fail
        rw[hrem]
        clear M4 M1 A1 KK c2 y0 y2 y3 y4 z1 HB4 hk01
        have M4:=M4'
        refine aR (fun W=>AgK c (some ⟨sb,so,none⟩) capl l g2 g3 g4 bt W∧W.heap[wr.heap.size]?=some (.cells #[.int .i64 kd,.int .i64 x,.int .i64 u,.int .i64 cl,.int .i64 m] 77 (0,0))∧StB W g1 pre fs o ok) (by kernel_rfl) ?_
        have MR:Hq (MidV W0 (w4.drewN 1) F (fun b=>b=g1) p kn n D1 F1∧AgM W0.heap.size g1 pre ok c F1 st fs o (w4.drewN 1)∧(w4.drewN 1).heap[wr.heap.size]?=some (.cells #[.int .i64 kd,.int .i64 x,.int .i64 u,.int .i64 cl,.int .i64 m] 77 (0,0))):=hQQ ⟨M4.o.1.more ((ae.refl w4).drewN 1),M4.o.2.1.more ((ae.refl w4).drewN 1),((ae.refl w4).drewN 1).block M4.o.2.2⟩
        change dq _ _ _ _ _ _ _ _ (w4.drewN 1)
        generalize w4.drewN 1=wq at MR⊢
        generalize hA:Act.mk _ _=A
        have HF:AG 120 A [(0,.pointer (some ⟨p,0,none⟩)),(1,.pointer (some ⟨g1,0,none⟩)),(4,.pointer (some ⟨g4,0,none⟩)),(7,.pointer (some ⟨wr.heap.size,0,none⟩)),(8,.int .i64 (wk:Int)),(9,.int .i64 (gq c u))]:=by
         rw[←hA];try simp only[pts,List.foldl]
         refine⟨⟨Nat.le_of_ble_eq_true rfl,rfl⟩,?_⟩
         intro z hz;simp only[List.mem_cons,List.not_mem_nil,or_false] at hz;rcases hz with rfl|rfl|rfl|rfl|rfl|rfl<;>rfl
        refine bK (fun a W=>∃(u46 u47 u48 u49 u50 u51 u52 u53 u54 u55 u45 u56 u57 u58:Value) (gP:Nat) (X:Int) (B:Bool) (f9:Nat→Value) (P9:Nat→List Int) (D9:List KV) (F9:Nat→Prop),(a=(Act.put (Act.put (pts A [(46,u46),(47,u47),(48,u48),(49,u49),(50,u50),(51,u51),(52,u52),(53,u53),(54,u54),(55,u55),(45,u45),(56,u56),(57,u57),(58,u58),(11,.pointer (some ⟨gP,0,none⟩)),(10,.int .i64 X)]) none undef) (some 12) (.bool B))∨a=(Act.put (Act.put (pts A [(46,u46),(47,u47),(48,u48),(49,u49),(50,u50),(51,u51),(52,u52),(53,u53),(54,u54),(11,.pointer (some ⟨gP,0,none⟩)),(55,u55),(45,u45),(56,u56),(57,u57),(58,u58),(10,.int .i64 X)]) none undef) (some 12) (.bool B)))∧(MidV W0 W F (fun b=>b=g1) p kn n D9 F9∧AgM W0.heap.size g1 pre ok c F9 st fs o W∧W.heap[wr.heap.size]?=some (.cells #[.int .i64 kd,.int .i64 x,.int .i64 u,.int .i64 cl,.int .i64 m] 77 (0,0)))∧W.heap[gP]?=some (.cells (puA f9) 32 (0,0))∧cR (fun q=>q<W0.heap.size∨F9 q) W f9 P9∧(W64 X∧dr c P9)∧dT T (l.drop (j+1)) ((st.put x P9).out (if B then st.O++ [(X,cl)] else st.O)) kn D9=Rr) (fun W=>gO W0 F (fun b=>b=g1) (fun w'=>AgY c (some ⟨sb,so,none⟩) capl l g1 g2 g3 g4 bt pre ok w') (fun w'=>AgX W0.heap.size g1 pre ok sF w') p kn (fo Rr) (.panicked (aY p)) W) (aY p) (fun a W hd h=>⟨hd,h⟩) (fun _ _ _ _ _ h=>h) ?_ ?_
        ·skip
         rintro a9 w9 ⟨u46,u47,u48,u49,u50,u51,u52,u53,u54,u55,u45,u56,u57,u58,gP,X,B,f9,P9,D9,F9,hn,MS,hb9,hp9,hl9,R9'⟩
         have E:(Act.put (Act.put (pts A [(46,u46),(47,u47),(48,u48),(49,u49),(50,u50),(51,u51),(52,u52),(53,u53),(54,u54),(11,.pointer (some ⟨gP,0,none⟩)),(55,u55),(45,u45),(56,u56),(57,u57),(58,u58),(10,.int .i64 X)]) none undef) (some 12) (.bool B))=(Act.put (Act.put (pts A [(46,u46),(47,u47),(48,u48),(49,u49),(50,u50),(51,u51),(52,u52),(53,u53),(54,u54),(55,u55),(45,u45),(56,u56),(57,u57),(58,u58),(11,.pointer (some ⟨gP,0,none⟩)),(10,.int .i64 X)]) none undef) (some 12) (.bool B)):=by rw[←hA];kernel_rfl
         have hn:a9=(Act.put (Act.put (pts A [(46,u46),(47,u47),(48,u48),(49,u49),(50,u50),(51,u51),(52,u52),(53,u53),(54,u54),(55,u55),(45,u45),(56,u56),(57,u57),(58,u58),(11,.pointer (some ⟨gP,0,none⟩)),(10,.int .i64 X)]) none undef) (some 12) (.bool B)):=by
          rcases hn with q|q
          ·exact q
          ·exact q.trans E
         subst hn
         rw[←hA];try simp only[pts,List.foldl]
         have M9:=hQQ MS
         have B9:=hQQ hb9
         have P9':=hQQ hp9
         have L9:=hQQ hl9
         have R9:=hQQ R9'
         clear MS hb9 hp9 hl9 R9' HF hA MR E hn
         obtain⟨cur9,hcur9⟩:∃cur9,(stL pre fs o ok).toArray=cur9:=⟨_,rfl⟩
         have hg9:=M9.o.2.1.st.2
         rw[hcur9] at hg9
         have hsz9:cur9.size=37:=by rw[←hcur9,List.size_toArray];exact ny M9.o.2.1.st.1 _ _ _
         obtain⟨wz,ewz⟩:∃wz,w9.setRow g1 (cur9.toList.take (25+wk * 5)++(puA f9).toList++cur9.toList.drop ((25+wk * 5)+(puA f9).size)).toArray=wz:=⟨_,rfl⟩
         have AZ:Hq (AgM W0.heap.size g1 pre ok c F9 (st.put x P9) (nE fs wk f9) o wz):=hQQ (by rw[←ewz];exact M9.o.2.1.putk hwk.o ex f9 P9 P9'.o L9.o.2 cur9 hcur9.symm)
         have MZ:Hq (MidV W0 wz F (fun b=>b=g1) p kn n D9 F9):=hQQ (by rw[←ewz];exact M9.o.1.setR (b:=g1) (fun _=>rfl) (N1.o _ _ _ M9.o.1) _ hg9)
         have YZ:Hq (wz.heap[wr.heap.size]?=some (.cells #[.int .i64 kd,.int .i64 x,.int .i64 u,.int .i64 cl,.int .i64 m] 77 (0,0))):=hQQ (by
          rw[←ewz]
          exact((Turned.setRow (Turned.refl _ w9) (S:=fun k=>k=g1) _ _ (fun _=>rfl)).block _ (ac M9.o.2.2) (by have:=HG1.o;omega)).trans M9.o.2.2)
         have ST9:=hQQ hg9
         have SZ9:=hQQ hsz9
         have AL9:=hQQ (Pu.all1 P9'.o.1)
         clear hcur9 hg9 hsz9
         cases B with
         |false =>
          go_simp
          go_wp2_with (first
           |(refine wpList_load_row rfl 32 _ rfl gP rfl 32 _ _ _ B9.o Tryz.underlying32 rfl (by kernel_rfl) ?_)
           |(refine gL rfl 32 _ _ rfl g1 (25+wk * 5) (puA f9) rfl rfl 37 cur9 ST9.o (by rw[SZ9.o];show 25+wk * 5+5≤37;have:=hwk.o;omega) (by kernel_rfl) AL9.o ?_;rw[ewz]))
          go_roundw
          case rel=>exact⟨j+1,st.put x P9,nE fs wk f9,o,D9,F9,by go_num,by omega,by rw[FSt.put_O];have:=HBL.o;omega,MZ.o,AZ.o,by have h9:=R9.o;simp only[Bool.false_eq_true,if_false] at h9;rw[←FSt.put_O st x P9,FSt.out_self] at h9;exact h9⟩
          case measure=>simp[intOf];omega
         |true =>
          have x35:=AZ.o.st.row
          have x36:=AZ.o.st.froz 35
          have y3:wz.cell? ⟨wr.heap.size,3,none⟩=some (.int .i64 cl):=by simp[World.cell?,YZ.o]
          have HRW:=hQQ AZ.o.row.1
          rw[FSt.put_O] at HRW
          have NXT:Hq (∀v' wc,BlR W0.heap.size wc v' (st.O++ [(X,cl)])→Turned (fun k=>o.ownBlock=some k) wz wc→(∀k,v'.ownBlock=some k→o.ownBlock=some k∨wz.heap.size≤k)→(StB wc g1 pre (nE fs wk f9) o ok∧MidV W0 (wc.setCell ⟨g1,35,none⟩ v') F (fun b=>b=g1) p kn n D9 F9∧AgM W0.heap.size g1 pre ok c F9 ((st.put x P9).out (st.O++ [(X,cl)])) (nE fs wk f9) v' (wc.setCell ⟨g1,35,none⟩ v'))):=hQQ fun v' wc h1 h2 h3=>by
           obtain⟨q1,q2,q3,q4⟩:=KI MZ.o AZ.o h2
           refine⟨q2,q1.setC q2 (N1.o _ _ _ q1),AgM.putO2 q2 q3 q4 AZ.o.okS ⟨h1,fun k e=>⟨fun z=>?_,?_⟩⟩ (fun q hq=>?_)⟩
           ·rcases h3 k e with r|r
            ·exact(AZ.o.row.2 k r).1 z
            ·have:=MZ.o.view.lt k z;omega
           ·rcases h3 k e with r|r
            ·exact(AZ.o.row.2 k r).2
            ·have:=MZ.o.size;omega
           ·rcases List.mem_append.1 hq with r|r
            ·exact M9.o.2.1.okS.o q r
            ·rw[List.mem_singleton.1 r];exact L9.o.1
          have HLN:Hq (st.O.length<1000000):=hQQ (by have:=HBL.o;have:=HL.o;omega)
          have HSZ:Hq (W0.heap.size≤wz.heap.size):=hQQ MZ.o.size
          go_simp
          go_wp2_with (first
           |(refine wpList_load_row rfl 32 _ rfl gP rfl 32 _ _ _ B9.o Tryz.underlying32 rfl (by kernel_rfl) ?_)
           |(refine gL rfl 32 _ _ rfl g1 (25+wk * 5) (puA f9) rfl rfl 37 cur9 ST9.o (by rw[SZ9.o];show 25+wk * 5+5≤37;have:=hwk.o;omega) (by kernel_rfl) AL9.o ?_;rw[ewz])
           |(at_builtin;refine Cj X cl rfl _ _ rfl rfl HRW.o HSZ.o HLN.o rfl ?_;intro v5 wc h5 t5 k5;obtain⟨a5,c5,rfl,_⟩:=h5.reads;obtain⟨n1',n2',n3'⟩:=NXT.o _ wc h5 t5 k5;rw[show(st.O++ [(X,cl)]).length=st.O.length+1 by simp] at n2' n3';have x45:=n1'.row;have x46:=n1'.froz 35;have N2:=hQQ n2';have N3:=hQQ n3';clear h5 t5 k5 n1' n2' n3'))
          go_roundw
          case rel=>exact⟨j+1,(st.put x P9).out (st.O++ [(X,cl)]),nE fs wk f9,_,D9,F9,by go_num,by omega,by show(st.O++ [(X,cl)]).length≤_;have:=HBL.o;simp;omega,N2.o,N3.o,R9.o⟩
          case measure=>simp[intOf];omega
        intro QQ FINE FIND FINQ
        clear hA
        refine tqM 0 46 0 rfl (.inl rfl) rfl (by kernel_rfl) FINQ (KC.o _ _ _ MR.o) HF fun A hB1_46 HF=>?_
        refine tqC 1 47 (.agg c.arr) (by kernel_rfl) FINQ (KC.o _ _ _ MR.o) HF (by exact aF (ab rfl) 28 _ rfl g4 (HF.get 3 rfl) 28 _ _ _ (fun W hW=>hW.1.h4) Tryz.underlying28 rfl (by kernel_rfl)) fun A hB2_47 HF=>?_
        refine tqM 2 48 7 rfl (.inl rfl) rfl (by kernel_rfl) FINQ (KC.o _ _ _ MR.o) HF fun A hB3_48 HF=>?_
        refine tqM 3 49 7 rfl (.inl rfl) rfl (by kernel_rfl) FINQ (KC.o _ _ _ MR.o) HF fun A hB4_49 HF=>?_
        refine tqC 4 50 (.pointer (some ⟨g1,25,none⟩)) (by kernel_rfl) FINQ (KC.o _ _ _ MR.o) HF (by exact(Or.inl ⟨(ab rfl),fun W hW=>by have h5:=(HF.getD 5 rfl);go_simp⟩)) fun A hB5_50 HF=>?_
        refine tqC 5 51 (.pointer (some ⟨g1,25+wk * 5,none⟩)) (by kernel_rfl) FINQ (KC.o _ _ _ MR.o) HF (by exact(Or.inl ⟨(ab rfl),fun W hW=>by have h5:=(HF.getD 0 rfl);have h6:=(HF.getD 1 rfl);go_simp⟩)) fun A hB6_51 HF=>?_
        refine tqC 6 52 (.agg (puA (fs wk)).toList.toArray) (by kernel_rfl) FINQ (KC.o _ _ _ MR.o) HF (by exact mH (ab rfl) 32 _ rfl g1 (25+wk * 5) (HF.get 0 rfl) (puA (fs wk)).toList _ (fun W hW=>hW.2.2.range (n:=wk) hwk.o) Tryz.underlying32 rfl (by kernel_rfl)) fun A hB7_52 HF=>?_
        refine tqC 7 53 (.pointer (some ⟨wr.heap.size,3,none⟩)) (by kernel_rfl) FINQ (KC.o _ _ _ MR.o) HF (by exact(Or.inl ⟨(ab rfl),fun W hW=>by have h5:=(HF.getD 10 rfl);go_simp⟩)) fun A hB8_53 HF=>?_
        refine tqC 8 54 (.int .i64 cl) (by kernel_rfl) FINQ (KC.o _ _ _ MR.o) HF (by exact dS (ab rfl) 3 _ rfl (wr.heap.size) 3 (HF.get 0 rfl) (.int .i64 cl) _ Tryz.underlying3 rfl (fun W hW=>by simp[World.cell?,hW.2.1])) fun A hB9_54 HF=>?_
        refine j3 (i:=9) (j:=14) (some 55) (some 11) (by kernel_rfl) rfl rfl (ab rfl) (ab rfl) rfl rfl (fun K hK=>?_) (fun K hK=>?_)
        ·refine j2 (v0:=.pointer (some ⟨p,0,none⟩)) (v1:=.agg c.arr) (v2:=.int .i64 (gq c u)) (v3:=.agg (puA (fs wk)).toList.toArray) (v4:=.int .i64 cl) rfl (HF.get 8 rfl) (HF.get 7 rfl) (HF.get 6 rfl) (HF.get 2 rfl) (HF.get 0 rfl) (enters_of Tryz.func30 (by kernel_rfl) rfl) ?_
         refine(T.tkC F1 (fun q=>q<W0.heap.size) p kn D1 wq (gq c u) cl (fs wk) (st.at x) MR.o.1.view HK.o MR.o.1.inv (KT.o _ MR.o.1.turn).sz (NZ.o _ _ _ MR.o.1).1 (NZ.o _ _ _ MR.o.1).2 (fun q z=>Nat.lt_of_lt_of_le z MR.o.1.size) (MR.o.2.1.atk hwk.o ex) (MR.o.2.1.okS.at x)).mono ?_
         intro e w7 he
         rcases MR.o.1.stepP (ae.refl _) HK.o (T.tkG _ _ _ (MR.o.2.1.okS.at x)) he with⟨a',hE,rfl,hd',ht',hk6⟩|⟨x6,f6,D6,F6,hE,rfl,M6',hp6,hq6,hk6,hf6⟩
         ·exact FIND _ _ HF.1.2 (NEED.o a' w7 (E9.o.symm.trans (ah hE)) hd' ht' ⟨_,_,MR.o.2.1.st.1,hk6 _ _ (N1.o _ _ _ MR.o.1) MR.o.2.1.st.2⟩)
         have R6:=hQQ ((ak hE).symm.trans E9.o)
         have M6:Hq (MidV W0 w7 F (fun b=>b=g1) p kn n D6 F6∧AgM W0.heap.size g1 pre ok c F6 st fs o w7∧w7.heap[wr.heap.size]?=some (.cells #[.int .i64 kd,.int .i64 x,.int .i64 u,.int .i64 cl,.int .i64 m] 77 (0,0))):=hQQ ⟨M6',MR.o.2.1.stay (N1.o _ _ _ MR.o.1) hk6 hf6,hk6 _ _ NA.o MR.o.2.2⟩
         have P6:=hQQ hp6
         have L6:=hQQ hq6
         refine hK _ _ (KC.o _ _ _ M6.o) ?_
         clear hK K
         replace HF:=HF.put 55 (.tuple #[.int .i64 x6.1.1,.agg (puA f6),.bool x6.1.2]) (by decide) rfl
         generalize hB10_55:Act.put _ _ _=A at HF⊢
         refine tqM 10 45 0 rfl (.inl rfl) rfl (by kernel_rfl) FINQ (KC.o _ _ _ M6.o) HF fun A hB11_45 HF=>?_
         refine tqC 11 56 (.int .i64 x6.1.1) (by kernel_rfl) FINQ (KC.o _ _ _ M6.o) HF (by exact(Or.inl ⟨(ab rfl),fun W hW=>by have h5:=(HF.getD 0 rfl);go_simp⟩)) fun A hB12_56 HF=>?_
         refine tqC 12 57 (.agg (puA f6)) (by kernel_rfl) FINQ (KC.o _ _ _ M6.o) HF (by exact(Or.inl ⟨(ab rfl),fun W hW=>by have h5:=(HF.getD 1 rfl);go_simp⟩)) fun A hB13_57 HF=>?_
         refine tqC 13 58 (.bool x6.1.2) (by kernel_rfl) FINQ (KC.o _ _ _ M6.o) HF (by exact(Or.inl ⟨(ab rfl),fun W hW=>by have h5:=(HF.getD 2 rfl);go_simp⟩)) fun A hB14_58 HF=>?_
         refine az (i:=14) (some 11) (by kernel_rfl) rfl (ab rfl) rfl (fun K hK=>?_)
         refine nR rfl ?_
         obtain⟨w8,e8,z8,m8,s8⟩:=en1 w7 (.cells #[.slice none 0 0,.slice none 0 0,.slice none 0 0,.slice none 0 0,.slice none 0 0] 32)
         rw[e8]
         have M8:Hq (MidV W0 w8 F (fun b=>b=g1) p kn n D6 F6∧AgM W0.heap.size g1 pre ok c F6 st fs o w8∧w8.heap[wr.heap.size]?=some (.cells #[.int .i64 kd,.int .i64 x,.int .i64 u,.int .i64 cl,.int .i64 m] 77 (0,0))):=hQQ ⟨M6.o.1.more m8,M6.o.2.1.more m8,m8.block M6.o.2.2⟩
         have P8:=hQQ (cR.more P6.o m8)
         refine hK _ _ (KC.o _ _ _ M8.o) ?_
         clear hK K e8
         replace HF:=HF.put 11 (.pointer (some ⟨w7.heap.size,0,none⟩)) (by decide) rfl
         generalize hB15_11:Act.put _ _ _=A at HF⊢
         have hsz:wr.heap.size<w7.heap.size:=ac M6.o.2.2
         -- the three that are left
         refine tqM 15 10 3 rfl (.inr rfl) rfl (by kernel_rfl) FINQ (KC.o _ _ _ M8.o) HF fun A hB16_10 HF=>?_
         have gne:w7.heap.size≠g1:=by have:=HG1.o;have:=hsz;omega
         have TS:Turned (fun k=>k=w7.heap.size) w8 (w8.setRow (w7.heap.size) (puA f6)):=Turned.setRow (Turned.refl _ _) _ _ (fun _=>rfl)
         have M9:Hq (MidV W0 (w8.setRow (w7.heap.size) (puA f6)) F (fun b=>b=g1) p kn n D6 F6∧AgM W0.heap.size g1 pre ok c F6 st fs o (w8.setRow (w7.heap.size) (puA f6))∧(w8.setRow (w7.heap.size) (puA f6)).heap[wr.heap.size]?=some (.cells #[.int .i64 kd,.int .i64 x,.int .i64 u,.int .i64 cl,.int .i64 m] 77 (0,0))):=hQQ ⟨M8.o.1.setR (b:=w7.heap.size) (fun q=>absurd q (by have:=HW0.o;have:=hsz;omega)) (fun q=>by have:=M6.o.1.view.lt _ q;omega) (puA f6) z8,M8.o.2.1.box TS z8 gne,(TS.block _ (ac M8.o.2.2) (by have:=hsz;omega)).trans M8.o.2.2⟩
         have P9:=hQQ (cR.keep P8.o TS (fun k q=>by subst q;exact⟨_,_,_,z8,by decide⟩))
         have B9:=hQQ (setRow_heap _ _ _ (puA f6) _ _ z8)
         refine az (i:=16) none (by kernel_rfl) rfl (ab rfl) rfl (fun K hK=>?_)
         refine wp_store_row 32 _ _ rfl (w7.heap.size) _ (HF.get 1 rfl) (HF.get 3 rfl) 32 _ z8 (by kernel_rfl) rfl (Pu.all1 P8.o.1) ?_
         refine hK _ _ (KC.o _ _ _ M9.o) ?_
         clear hK K
         replace HF:=HF.skipO undef
         generalize hBN:Act.put _ none undef=A at HF⊢
         refine tqM 17 12 2 rfl (.inr rfl) rfl (by kernel_rfl) FINQ (KC.o _ _ _ M9.o) HF fun A hB18_12 HF=>?_
         exact bQ (by kernel_rfl) (FINE _ _ ⟨(.pointer (some ⟨p,0,none⟩)),(.agg c.arr),(.int .i64 (gq c u)),(.int .i64 (wk:Int)),(.pointer (some ⟨g1,25,none⟩)),(.pointer (some ⟨g1,25+wk * 5,none⟩)),(.agg (puA (fs wk)).toList.toArray),(.pointer (some ⟨wr.heap.size,3,none⟩)),(.int .i64 cl),(.tuple #[.int .i64 x6.1.1,.agg (puA f6),.bool x6.1.2]),(.tuple #[.int .i64 x6.1.1,.agg (puA f6),.bool x6.1.2]),(.int .i64 x6.1.1),(.agg (puA f6)),(.bool x6.1.2),w7.heap.size,x6.1.1,x6.1.2,f6,x6.2,D6,F6,Or.inl (by rw[←hB18_12,←hBN,←hB16_10,←hB15_11,←hB14_58,←hB13_57,←hB12_56,←hB11_45,←hB10_55,←hB9_54,←hB8_53,←hB7_52,←hB6_51,←hB5_50,←hB4_49,←hB3_48,←hB2_47,←hB1_46]<;>rfl),M9.o,B9.o,P9.o,L6.o,R6.o⟩)
        ·refine nR rfl ?_
         obtain⟨w7,e7,z7,m7,s7⟩:=en1 wq (.cells #[.slice none 0 0,.slice none 0 0,.slice none 0 0,.slice none 0 0,.slice none 0 0] 32)
         rw[e7]
         have M7:Hq (MidV W0 w7 F (fun b=>b=g1) p kn n D1 F1∧AgM W0.heap.size g1 pre ok c F1 st fs o w7∧w7.heap[wr.heap.size]?=some (.cells #[.int .i64 kd,.int .i64 x,.int .i64 u,.int .i64 cl,.int .i64 m] 77 (0,0))):=hQQ ⟨MR.o.1.more m7,MR.o.2.1.more m7,m7.block MR.o.2.2⟩
         refine hK _ _ (KC.o _ _ _ M7.o) ?_
         clear hK K e7
         replace HF:=HF.put 11 (.pointer (some ⟨wq.heap.size,0,none⟩)) (by decide) rfl
         generalize hB10_11:Act.put _ _ _=A at HF⊢
         refine az (i:=9) (some 55) (by kernel_rfl) rfl (ab rfl) rfl (fun K hK=>?_)
         have NP:¬F1 wq.heap.size:=fun q=>by have:=MR.o.1.view.lt _ q;omega
         refine j2 (v0:=.pointer (some ⟨p,0,none⟩)) (v1:=.agg c.arr) (v2:=.int .i64 (gq c u)) (v3:=.agg (puA (fs wk)).toList.toArray) (v4:=.int .i64 cl) rfl (HF.get 9 rfl) (HF.get 8 rfl) (HF.get 7 rfl) (HF.get 3 rfl) (HF.get 1 rfl) (enters_of Tryz.func30 (by kernel_rfl) rfl) ?_
         refine(T.tkC F1 (fun q=>q<W0.heap.size) p kn D1 w7 (gq c u) cl (fs wk) (st.at x) M7.o.1.view HK.o M7.o.1.inv (KT.o _ M7.o.1.turn).sz (NZ.o _ _ _ M7.o.1).1 (NZ.o _ _ _ M7.o.1).2 (fun q z=>Nat.lt_of_lt_of_le z M7.o.1.size) (M7.o.2.1.atk hwk.o ex) (M7.o.2.1.okS.at x)).mono ?_
         intro e w8 he
         rcases M7.o.1.stepP (ae.refl _) HK.o (T.tkG _ _ _ (M7.o.2.1.okS.at x)) he with⟨a',hE,rfl,hd',ht',hk6⟩|⟨x6,f6,D6,F6,hE,rfl,M6',hp6,hq6,hk6,hf6⟩
         ·exact FIND _ _ HF.1.2 (NEED.o a' w8 (E9.o.symm.trans (ah hE)) hd' ht' ⟨_,_,M7.o.2.1.st.1,hk6 _ _ (N1.o _ _ _ M7.o.1) M7.o.2.1.st.2⟩)
         have R6:=hQQ ((ak hE).symm.trans E9.o)
         have M6:Hq (MidV W0 w8 F (fun b=>b=g1) p kn n D6 F6∧AgM W0.heap.size g1 pre ok c F6 st fs o w8∧w8.heap[wr.heap.size]?=some (.cells #[.int .i64 kd,.int .i64 x,.int .i64 u,.int .i64 cl,.int .i64 m] 77 (0,0))):=hQQ ⟨M6',M7.o.2.1.stay (N1.o _ _ _ M7.o.1) hk6 hf6,hk6 _ _ NA.o M7.o.2.2⟩
         have P6:=hQQ hp6
         have L6:=hQQ hq6
         have z8:=hk6 _ _ NP z7
         have NP6:¬F6 wq.heap.size:=fun q=>by rcases hf6 _ q with r|r;exact NP r;have:=ac z7;omega
         refine hK _ _ (KC.o _ _ _ M6.o) ?_
         clear hK K
         replace HF:=HF.put 55 (.tuple #[.int .i64 x6.1.1,.agg (puA f6),.bool x6.1.2]) (by decide) rfl
         generalize hB11_55:Act.put _ _ _=A at HF⊢
         refine tqM 10 45 0 rfl (.inl rfl) rfl (by kernel_rfl) FINQ (KC.o _ _ _ M6.o) HF fun A hB12_45 HF=>?_
         refine tqC 11 56 (.int .i64 x6.1.1) (by kernel_rfl) FINQ (KC.o _ _ _ M6.o) HF (by exact(Or.inl ⟨(ab rfl),fun W hW=>by have h5:=(HF.getD 0 rfl);go_simp⟩)) fun A hB13_56 HF=>?_
         refine tqC 12 57 (.agg (puA f6)) (by kernel_rfl) FINQ (KC.o _ _ _ M6.o) HF (by exact(Or.inl ⟨(ab rfl),fun W hW=>by have h5:=(HF.getD 1 rfl);go_simp⟩)) fun A hB14_57 HF=>?_
         refine tqC 13 58 (.bool x6.1.2) (by kernel_rfl) FINQ (KC.o _ _ _ M6.o) HF (by exact(Or.inl ⟨(ab rfl),fun W hW=>by have h5:=(HF.getD 2 rfl);go_simp⟩)) fun A hB15_58 HF=>?_
         have hsz:wr.heap.size<wq.heap.size:=ac MR.o.2.2
         refine tqM 15 10 2 rfl (.inr rfl) rfl (by kernel_rfl) FINQ (KC.o _ _ _ M6.o) HF fun A hB16_10 HF=>?_
         have gne:wq.heap.size≠g1:=by have:=HG1.o;have:=hsz;omega
         have TS:Turned (fun k=>k=wq.heap.size) w8 (w8.setRow (wq.heap.size) (puA f6)):=Turned.setRow (Turned.refl _ _) _ _ (fun _=>rfl)
         have M9:Hq (MidV W0 (w8.setRow (wq.heap.size) (puA f6)) F (fun b=>b=g1) p kn n D6 F6∧AgM W0.heap.size g1 pre ok c F6 st fs o (w8.setRow (wq.heap.size) (puA f6))∧(w8.setRow (wq.heap.size) (puA f6)).heap[wr.heap.size]?=some (.cells #[.int .i64 kd,.int .i64 x,.int .i64 u,.int .i64 cl,.int .i64 m] 77 (0,0))):=hQQ ⟨M6.o.1.setR (b:=wq.heap.size) (fun q=>absurd q (by have:=HW0.o;have:=hsz;omega)) NP6 (puA f6) z8,M6.o.2.1.box TS z8 gne,(TS.block _ (ac M6.o.2.2) (by have:=hsz;omega)).trans M6.o.2.2⟩
         have P9:=hQQ (cR.keep P6.o TS (fun k q=>by subst q;exact⟨_,_,_,z8,by decide⟩))
         have B9:=hQQ (setRow_heap _ _ _ (puA f6) _ _ z8)
         refine az (i:=16) none (by kernel_rfl) rfl (ab rfl) rfl (fun K hK=>?_)
         refine wp_store_row 32 _ _ rfl (wq.heap.size) _ (HF.get 6 rfl) (HF.get 2 rfl) 32 _ z8 (by kernel_rfl) rfl (Pu.all1 P6.o.1) ?_
         refine hK _ _ (KC.o _ _ _ M9.o) ?_
         clear hK K
         replace HF:=HF.skipO undef
         generalize hBN:Act.put _ none undef=A at HF⊢
         refine tqM 17 12 1 rfl (.inr rfl) rfl (by kernel_rfl) FINQ (KC.o _ _ _ M9.o) HF fun A hB18_12 HF=>?_
         exact bQ (by kernel_rfl) (FINE _ _ ⟨(.pointer (some ⟨p,0,none⟩)),(.agg c.arr),(.int .i64 (gq c u)),(.int .i64 (wk:Int)),(.pointer (some ⟨g1,25,none⟩)),(.pointer (some ⟨g1,25+wk * 5,none⟩)),(.agg (puA (fs wk)).toList.toArray),(.pointer (some ⟨wr.heap.size,3,none⟩)),(.int .i64 cl),(.tuple #[.int .i64 x6.1.1,.agg (puA f6),.bool x6.1.2]),(.tuple #[.int .i64 x6.1.1,.agg (puA f6),.bool x6.1.2]),(.int .i64 x6.1.1),(.agg (puA f6)),(.bool x6.1.2),wq.heap.size,x6.1.1,x6.1.2,f6,x6.2,D6,F6,Or.inr (by rw[←hB18_12,←hBN,←hB16_10,←hB15_58,←hB14_57,←hB13_56,←hB12_45,←hB11_55,←hB10_11,←hB9_54,←hB8_53,←hB7_52,←hB6_51,←hB5_50,←hB4_49,←hB3_48,←hB2_47,←hB1_46]<;>rfl),M9.o,B9.o,P9.o,L6.o,R6.o⟩)
      ·have k23:kind=2∨kind=3:=by omega
       have q01:(kind==0)=false:=by simp;omega
       have q11:(kind==1)=false:=by simp;omega
       clear hk6 k4 k5 k01
       by_cases hO:st.O= []
       ·have E9:=hQQ (show dT T (l.drop (j+1)) st kn D1=Rr from by have:=E2.o;rw[Fo T _ _ _ _ _ k23 st (by rw[hO];simp)] at this;exact this)
        have hrow:BlR 0 w4 o []:=by
         have:=(A1.o.more M4.o).row.1.low (Nat.zero_le _)
         rw[hO] at this;exact this
        have NN:=hQQ (Mr o m w4 hrow)
        have z35:=(A1.o.more M4.o).st.row
        obtain⟨ao,co,rfl,_⟩:=hrow.reads
        clear hrow y3
        rcases k23 with rfl|rfl
        all_goals
         go_wp2_with fail
         refine NN.o.mono ?_
         rintro e w5 ⟨v5,rfl,h5,m5⟩
         obtain⟨a5,c5,rfl,_⟩:=h5.reads
         have M5:=hQQ (M4.o.trans m5)
         have M6:=hQQ (M5.o.trans (((ae.refl w5).alloc (.cells #[.int .i64 0,.int .i64 0] 48)).setRow w5.heap.size #[.int .i64 0,.int .i64 0] (Nat.le_refl _)))
         clear h5 m5 y0 y2 y4 z1 z35
         go_wp2_with (refine wpList_store_row rfl 48 _ _ rfl _ _ rfl rfl 48 _ (a7 _ _ _) (by kernel_rfl) rfl (by simp[Value.oneCell']) ?_)
         go_roundw
         case rel=>exact⟨j+1,st,_,_,D1,F1,by go_num,by omega,by have:=HBL.o;omega,M1.o.more M6.o,A1.o.more M6.o,E9.o⟩
         case measure=>simp[intOf];omega
       ·have hln:0<st.O.length:=by cases hc:st.O with|nil=>exact absurd hc hO|cons _ _=>simp
        obtain⟨⟨bx,bc⟩,hm⟩:∃q,st.O[nthI m st.O.length]?=some q:=⟨_,List.getElem?_eq_getElem (Kh m hln)⟩
        have E9:=hQQ (show ar (T.gvP (gq c u) (st.at x) bc bx) (fun y=>dT T (l.drop (j+1)) ((st.put x y.2).out (st.O.take (nthI m st.O.length)++st.O.drop (nthI m st.O.length+1)))) kn D1=Rr from by have:=E2.o;rw[Fp T _ _ _ _ _ k23 st hm] at this;exact this)
        have HW6:Hq (W64 bx):=hQQ (A1.o.okS.o (bx,bc) (List.mem_of_getElem? hm))
        have HO6:Hq (∀q∈st.O.take (nthI m st.O.length)++st.O.drop (nthI m st.O.length+1),W64 q.1):=hQQ fun q hq=>by
         rcases List.mem_append.1 hq with z|z
         ·exact A1.o.okS.o q (List.mem_of_mem_take z)
         ·exact A1.o.okS.o q (List.mem_of_mem_drop z)
        have NN:=hQQ (Ki o st.O m bx bc w4 ((A1.o.more M4.o).row.1.low (Nat.zero_le _)) (by have:=HBL.o;omega) hm)
        have z35:=(A1.o.more M4.o).st.row
        obtain⟨ao,co,ho',_⟩:=(A1.o.more M4.o).row.1.at
        clear y3 hm hO
        subst ho'
        clear E2 HB HB4
        rcases k23 with rfl|rfl
        all_goals
         go_wp2_with fail
         refine NN.o.mono ?_
         rintro e w5 ⟨v5,rfl,h5,m5⟩
         obtain⟨a5,c5,rfl,_⟩:=h5.reads
         obtain⟨w6,e6⟩:∃w6,(w5.alloc (.cells #[.int .i64 0,.int .i64 0] 48)).setRow w5.heap.size #[.int .i64 bx,.int .i64 bc]=w6:=⟨_,rfl⟩
         have hb6:w6.heap[w5.heap.size]?=some (.cells #[.int .i64 bx,.int .i64 bc] 48 (0,0)):=by rw[←e6];exact setRow_heap _ _ _ _ _ _ (a7 _ _ _)
         have m6:ae w5 w6:=by rw[←e6];exact((ae.refl w5).alloc _).setRow _ _ (Nat.le_refl _)
         have mm:=M4.o.trans m5
         have lv:∀q,F1 q→q<wr.heap.size:=fun q z=>M1.o.view.lt q z
         obtain⟨gb,hgb⟩:∃gb,w5.heap.size=gb:=⟨_,rfl⟩
         have NB:Hq (¬F1 gb):=hQQ fun z=>by have:=lv _ z;have:=mm.size;omega
         have NG:Hq (gb≠g1):=hQQ (by have:=(A1.o.more mm).st.lt;omega)
         have OW:jX W0.heap.size F1 w5 _ _:=⟨h5.low (by have:=M1.o.size;have:=M4.o.size;omega),fun q e=>⟨fun z=>by have:=lv _ z;have:=h5.own q e;have:=M4.o.size;omega,by have:=h5.own q e;have:=M1.o.size;have:=M4.o.size;omega⟩⟩
         rw[hgb] at hb6
         have HGB:=hQQ hgb
         have M6:Hq (MidV W0 w6 F (fun b=>b=g1) p kn n D1 F1∧AgM W0.heap.size g1 pre ok c F1 st fs (.slice ao st.O.length co) w6∧w6.heap[gb]?=some (.cells #[.int .i64 bx,.int .i64 bc] 48 (0,0))∧jX W0.heap.size F1 w6 (.slice a5 (st.O.take (nthI m st.O.length)++st.O.drop (nthI m st.O.length+1)).length c5) (st.O.take (nthI m st.O.length)++st.O.drop (nthI m st.O.length+1))):=hQQ ⟨M1.o.more (mm.trans m6),A1.o.more (mm.trans m6),hb6,OW.more m6⟩
         have KC:Hq (∀W D' F',MidV W0 W F (fun b=>b=g1) p kn n D' F'→W.heap[gb]?=some (.cells #[.int .i64 bx,.int .i64 bc] 48 (0,0))→AgK c (some ⟨sb,so,none⟩) capl l g2 g3 g4 bt W∧W.heap[gb]?=some (.cells #[.int .i64 bx,.int .i64 bc] 48 (0,0))):=hQQ fun W D' F' h q=>⟨KT.o _ h.turn,q⟩
         clear hgb h5 m5 m6 mm lv OW hb6 y0 y2 y4 z1 z35 c2 M1 A1 KK M4 NN hln
         obtain⟨wk,hwk0,ex⟩:=I1 x
         have hwk:=hQQ hwk0
         have hwi:(wk:Int)<2:=by omega
         rw[ex]
         go_wp2_with (refine wpList_store_row rfl 48 _ _ rfl _ _ rfl rfl 48 _ (a7 _ _ _) (by kernel_rfl) rfl (by simp[Value.oneCell']) ?_;rw[e6])
         rw[HGB.o]
         refine aR (fun W=>AgK c (some ⟨sb,so,none⟩) capl l g2 g3 g4 bt W∧W.heap[gb]?=some (.cells #[.int .i64 bx,.int .i64 bc] 48 (0,0))) (by kernel_rfl) ?_
         have MR:Hq (MidV W0 (w6.drewN 1) F (fun b=>b=g1) p kn n D1 F1∧AgM W0.heap.size g1 pre ok c F1 st fs (.slice ao st.O.length co) (w6.drewN 1)∧(w6.drewN 1).heap[gb]?=some (.cells #[.int .i64 bx,.int .i64 bc] 48 (0,0))∧jX W0.heap.size F1 (w6.drewN 1) (.slice a5 (st.O.take (nthI m st.O.length)++st.O.drop (nthI m st.O.length+1)).length c5) (st.O.take (nthI m st.O.length)++st.O.drop (nthI m st.O.length+1))):=hQQ ⟨M6.o.1.more ((ae.refl w6).drewN 1),M6.o.2.1.more ((ae.refl w6).drewN 1),((ae.refl w6).drewN 1).block M6.o.2.2.1,M6.o.2.2.2.more ((ae.refl w6).drewN 1)⟩
         change dq _ _ _ _ _ _ _ _ (w6.drewN 1)
         generalize w6.drewN 1=wq at MR⊢
         generalize hA:Act.mk _ _=A
         have HF:AG 120 A [(0,.pointer (some ⟨p,0,none⟩)),(1,.pointer (some ⟨g1,0,none⟩)),(4,.pointer (some ⟨g4,0,none⟩)),(8,.int .i64 (wk:Int)),(9,.int .i64 (gq c u)),(13,.pointer (some ⟨gb,0,none⟩))]:=by
          rw[←hA];try simp only[pts,List.foldl]
          refine⟨⟨Nat.le_of_ble_eq_true rfl,rfl⟩,?_⟩
          intro z hz;simp only[List.mem_cons,List.not_mem_nil,or_false] at hz;rcases hz with rfl|rfl|rfl|rfl|rfl|rfl<;>rfl
         refine bK (fun a W=>∃(u86 u87 u88 u89 u90 u91 u92 u94 u95 u96 u97 u99 u93 u98 u100:Value) (P9:Nat→List Int) (f9:Nat→Value) (D9:List KV) (F9:Nat→Prop),a=(Act.put (pts A [(86,u86),(87,u87),(88,u88),(89,u89),(90,u90),(91,u91),(92,u92),(94,u94),(95,u95),(96,u96),(97,u97),(99,u99),(93,u93),(98,u98),(100,u100)]) none undef)∧(MidV W0 W F (fun b=>b=g1) p kn n D9 F9∧AgM W0.heap.size g1 pre ok c F9 (st.put x P9) (nE fs wk f9) (.slice ao st.O.length co) W)∧jX W0.heap.size F9 W (.slice a5 (st.O.take (nthI m st.O.length)++st.O.drop (nthI m st.O.length+1)).length c5) (st.O.take (nthI m st.O.length)++st.O.drop (nthI m st.O.length+1))∧dT T (l.drop (j+1)) ((st.put x P9).out (st.O.take (nthI m st.O.length)++st.O.drop (nthI m st.O.length+1))) kn D9=Rr) (fun W=>gO W0 F (fun b=>b=g1) (fun w'=>AgY c (some ⟨sb,so,none⟩) capl l g1 g2 g3 g4 bt pre ok w') (fun w'=>AgX W0.heap.size g1 pre ok sF w') p kn (fo Rr) (.panicked (aY p)) W) (aY p) (fun a W hd h=>⟨hd,h⟩) (fun _ _ _ _ _ h=>h) ?_ ?_
         ·skip
          rintro a9 w9 ⟨u86,u87,u88,u89,u90,u91,u92,u94,u95,u96,u97,u99,u93,u98,u100,P9,f9,D9,F9,rfl,MS,OS,R9'⟩
          rw[←hA];try simp only[pts,List.foldl]
          have M9:=hQQ MS
          have R9:=hQQ R9'
          have O9:=hQQ OS
          have x35:=MS.2.st.row
          have x36:=MS.2.st.froz 35
          clear MS OS R9' HF hA MR
          go_simp
          go_wp2_with fail
          go_roundw
          case rel=>exact⟨j+1,(st.put x P9).out (st.O.take (nthI m st.O.length)++st.O.drop (nthI m st.O.length+1)),nE fs wk f9,_,D9,F9,by go_num,by omega,by show(st.O.take (nthI m st.O.length)++st.O.drop (nthI m st.O.length+1)).length≤_;have:=HBL.o;simp;omega,M9.o.1.setC M9.o.2.st (N1.o _ _ _ M9.o.1),M9.o.2.putO (by have q9:=O9.o;simp only[List.length_append,List.length_take,List.length_drop] at q9;exact q9) HO6.o,R9.o⟩
          case measure=>simp[intOf];omega
         intro QQ FINE FIND FINQ
         clear hA
         refine tqM 0 86 3 rfl (.inl rfl) rfl (by kernel_rfl) FINQ (KC.o _ _ _ MR.o.1 MR.o.2.2.1) HF fun A hB1_86 HF=>?_
         refine tqM 1 87 1 rfl (.inl rfl) rfl (by kernel_rfl) FINQ (KC.o _ _ _ MR.o.1 MR.o.2.2.1) HF fun A hB2_87 HF=>?_
         refine tqC 2 88 (.agg c.arr) (by kernel_rfl) FINQ (KC.o _ _ _ MR.o.1 MR.o.2.2.1) HF (by exact aF (ab rfl) 28 _ rfl g4 (HF.get 4 rfl) 28 _ _ _ (fun W hW=>hW.1.h4) Tryz.underlying28 rfl (by kernel_rfl)) fun A hB3_88 HF=>?_
         refine tqM 3 89 7 rfl (.inl rfl) rfl (by kernel_rfl) FINQ (KC.o _ _ _ MR.o.1 MR.o.2.2.1) HF fun A hB4_89 HF=>?_
         refine tqM 4 90 7 rfl (.inl rfl) rfl (by kernel_rfl) FINQ (KC.o _ _ _ MR.o.1 MR.o.2.2.1) HF fun A hB5_90 HF=>?_
         refine tqC 5 91 (.pointer (some ⟨g1,25,none⟩)) (by kernel_rfl) FINQ (KC.o _ _ _ MR.o.1 MR.o.2.2.1) HF (by exact(Or.inl ⟨(ab rfl),fun W hW=>by have h5:=(HF.getD 6 rfl);go_simp⟩)) fun A hB6_91 HF=>?_
         refine tqC 6 92 (.pointer (some ⟨g1,25+wk * 5,none⟩)) (by kernel_rfl) FINQ (KC.o _ _ _ MR.o.1 MR.o.2.2.1) HF (by exact(Or.inl ⟨(ab rfl),fun W hW=>by have h5:=(HF.getD 0 rfl);have h6:=(HF.getD 1 rfl);go_simp⟩)) fun A hB7_92 HF=>?_
         refine tqC 8 94 (.pointer (some ⟨gb,1,none⟩)) (by kernel_rfl) FINQ (KC.o _ _ _ MR.o.1 MR.o.2.2.1) HF (by exact(Or.inl ⟨(ab rfl),fun W hW=>by have h5:=(HF.getD 12 rfl);go_simp⟩)) fun A hB8_94 HF=>?_
         refine tqC 9 95 (.int .i64 bc) (by kernel_rfl) FINQ (KC.o _ _ _ MR.o.1 MR.o.2.2.1) HF (by exact dS (ab rfl) 3 _ rfl gb 1 (HF.get 0 rfl) (.int .i64 bc) _ Tryz.underlying3 rfl (fun W hW=>by simp[World.cell?,hW.2])) fun A hB9_95 HF=>?_
         refine tqC 10 96 (.pointer (some ⟨gb,0,none⟩)) (by kernel_rfl) FINQ (KC.o _ _ _ MR.o.1 MR.o.2.2.1) HF (by exact(Or.inl ⟨(ab rfl),fun W hW=>by have h5:=(HF.getD 14 rfl);go_simp⟩)) fun A hB10_96 HF=>?_
         refine tqC 11 97 (.int .i64 bx) (by kernel_rfl) FINQ (KC.o _ _ _ MR.o.1 MR.o.2.2.1) HF (by exact dS (ab rfl) 3 _ rfl gb 0 (HF.get 0 rfl) (.int .i64 bx) _ Tryz.underlying3 rfl (fun W hW=>by simp[World.cell?,hW.2])) fun A hB11_97 HF=>?_
         refine tqC 13 99 (.pointer (some ⟨g1,25,none⟩)) (by kernel_rfl) FINQ (KC.o _ _ _ MR.o.1 MR.o.2.2.1) HF (by exact(Or.inl ⟨(ab rfl),fun W hW=>by have h5:=(HF.getD 12 rfl);go_simp⟩)) fun A hB12_99 HF=>?_
         refine az (i:=7) (some 93) (by kernel_rfl) rfl (ab rfl) rfl (fun K hK=>?_)
         refine wp_load_mid 32 _ rfl g1 (25+wk * 5) (HF.get 5 rfl) (puA (fs wk)).toList _ (MR.o.2.1.st.range (n:=wk) hwk.o) Tryz.underlying32 rfl (by kernel_rfl) ?_
         refine hK _ _ (KC.o _ _ _ MR.o.1 MR.o.2.2.1) ?_
         clear hK K
         replace HF:=HF.put 93 (.agg (puA (fs wk)).toList.toArray) (by decide) rfl
         generalize hB13_93:Act.put _ _ _=A at HF⊢
         refine az (i:=12) (some 98) (by kernel_rfl) rfl (ab rfl) rfl (fun K hK=>?_)
         refine I2 (v0:=.pointer (some ⟨p,0,none⟩)) (v1:=.agg c.arr) (v2:=.int .i64 (gq c u)) (v3:=.agg (puA (fs wk)).toList.toArray) (v4:=.int .i64 bc) (v5:=.int .i64 bx) rfl (HF.get 11 rfl) (HF.get 10 rfl) (HF.get 9 rfl) (HF.get 0 rfl) (HF.get 4 rfl) (HF.get 2 rfl) (enters_of Tryz.func40 (by kernel_rfl) rfl) ?_
         refine(T.gvC F1 (fun q=>q<W0.heap.size) p kn D1 wq (gq c u) bc bx (fs wk) (st.at x) MR.o.1.view HK.o MR.o.1.inv (KT.o _ MR.o.1.turn).sz (NZ.o _ _ _ MR.o.1).1 (NZ.o _ _ _ MR.o.1).2 (fun q z=>Nat.lt_of_lt_of_le z MR.o.1.size) (MR.o.2.1.atk hwk.o ex) (MR.o.2.1.okS.at x) HW6.o).mono ?_
         intro e w7 he
         rcases MR.o.1.stepP (ae.refl _) HK.o (T.gvG _ _ _ _ (MR.o.2.1.okS.at x) HW6.o) he with⟨a',hE,rfl,hd',ht',hk6⟩|⟨x6,f6,D6,F6,hE,rfl,M6',hp6,hq6,hk6,hf6⟩
         ·exact FIND _ _ HF.1.2 (NEED.o a' w7 (E9.o.symm.trans (ah hE)) hd' ht' ⟨_,_,MR.o.2.1.st.1,hk6 _ _ (N1.o _ _ _ MR.o.1) MR.o.2.1.st.2⟩)
         have R6:=hQQ ((ak hE).symm.trans E9.o)
         have M7:Hq (MidV W0 w7 F (fun b=>b=g1) p kn n D6 F6∧AgM W0.heap.size g1 pre ok c F6 st fs (.slice ao st.O.length co) w7∧w7.heap[gb]?=some (.cells #[.int .i64 bx,.int .i64 bc] 48 (0,0))∧jX W0.heap.size F6 w7 (.slice a5 (st.O.take (nthI m st.O.length)++st.O.drop (nthI m st.O.length+1)).length c5) (st.O.take (nthI m st.O.length)++st.O.drop (nthI m st.O.length+1))):=hQQ ⟨M6',MR.o.2.1.stay (N1.o _ _ _ MR.o.1) hk6 hf6,hk6 _ _ NB.o MR.o.2.2.1,MR.o.2.2.2.stay hk6 hf6⟩
         have P6:=hQQ hp6
         have L6:=hQQ hq6
         clear he hE hk6 hf6 hq6 hp6
         refine hK _ _ (KC.o _ _ _ M7.o.1 M7.o.2.2.1) ?_
         clear hK K
         replace HF:=HF.put 98 (.agg (puA f6)) (by decide) rfl
         generalize hB14_98:Act.put _ _ _=A at HF⊢
         refine tqC 14 100 (.pointer (some ⟨g1,25+wk * 5,none⟩)) (by kernel_rfl) FINQ (KC.o _ _ _ M7.o.1 M7.o.2.2.1) HF (by exact(Or.inl ⟨(ab rfl),fun W hW=>by have h5:=(HF.getD 2 rfl);have h6:=(HF.getD 13 rfl);go_simp⟩)) fun A hB15_100 HF=>?_
         obtain⟨cur,hcur⟩:∃cur,(stL pre fs (.slice ao st.O.length co) ok).toArray=cur:=⟨_,rfl⟩
         have hg:=M7.o.2.1.st.2
         rw[hcur] at hg
         have hsz:cur.size=37:=by rw[←hcur,List.size_toArray];exact ny M7.o.2.1.st.1 _ _ _
         have A8:=M7.o.2.1.putk hwk.o ex f6 x6.2 P6.o L6.o cur hcur.symm
         have M8:=M7.o.1.setR (b:=g1) (fun _=>rfl) (N1.o _ _ _ M7.o.1) (cur.toList.take (25+wk * 5)++(puA f6).toList++cur.toList.drop (25+wk * 5+(puA f6).size)).toArray hg
         have T8:Turned (fun k=>k=g1) w7 (w7.setRow g1 (cur.toList.take (25+wk * 5)++(puA f6).toList++cur.toList.drop (25+wk * 5+(puA f6).size)).toArray):=Turned.setRow (Turned.refl _ w7) _ _ (fun _=>rfl)
         have B8:=(T8.block gb (ac M7.o.2.2.1) NG.o).trans M7.o.2.2.1
         have O8:=M7.o.2.2.2.turnS M7.o.2.1.st T8
         refine mQ (i:=15) (by kernel_rfl) (by kernel_rfl) rfl (ab rfl) (fun K hK=>?_)
         refine jW 32 _ _ rfl g1 (25+wk * 5) (puA f6) (HF.get 0 rfl) (HF.get 1 rfl) 37 cur hg (by rw[hsz];show 25+wk * 5+5≤37;have:=hwk.o;omega) (by kernel_rfl) (Pu.all1 P6.o.1) ?_
         refine hK _ _ ⟨KT.o _ M8.turn,B8⟩ (FINE _ _ ⟨(.int .i64 (wk:Int)),(.pointer (some ⟨p,0,none⟩)),(.agg c.arr),(.int .i64 (gq c u)),(.int .i64 (wk:Int)),(.pointer (some ⟨g1,25,none⟩)),(.pointer (some ⟨g1,25+wk * 5,none⟩)),(.pointer (some ⟨gb,1,none⟩)),(.int .i64 bc),(.pointer (some ⟨gb,0,none⟩)),(.int .i64 bx),(.pointer (some ⟨g1,25,none⟩)),(.agg (puA (fs wk)).toList.toArray),(.agg (puA f6)),(.pointer (some ⟨g1,25+wk * 5,none⟩)),x6.2,f6,D6,F6,?_,⟨M8,A8⟩,O8,R6.o⟩)
         rw[←hB15_100,←hB14_98,←hB13_93,←hB12_99,←hB11_97,←hB10_96,←hB9_95,←hB8_94,←hB7_92,←hB6_91,←hB5_90,←hB4_89,←hB3_88,←hB2_87,←hB1_86];rfl
  ·have d1:decide ((j:Int)<(l.length:Int))=false:=by simp;omega
   have hjl:j=l.length:=by omega
   have E2:=hQQ (show Res.ok st D1=Rr from by rw[hjl,List.drop_length] at E1';exact E1')
   clear E1' hjl
   go_wp2_with fail
   go_end0
   exact DONE.o st _ D1 F1 _ _ E2.o.symm M1.o A1.o
theorem I3 (y0 y1 y2 y3 y4 y5 y6 y7 y8 y9 y10:Int)(f0:(Lit.int .i64 y0).wf=true)(f1:(Lit.int .i64 y1).wf=true)(f2:(Lit.int .i64 y2).wf=true)(f3:(Lit.int .i64 y3).wf=true)(f4:(Lit.int .i64 y4).wf=true)(f5:(Lit.int .i64 y5).wf=true)(f6:(Lit.int .i64 y6).wf=true)(f7:(Lit.int .i64 y7).wf=true)(f8:(Lit.int .i64 y8).wf=true)(f9:(Lit.int .i64 y9).wf=true)(f10:(Lit.int .i64 y10).wf=true):∃d:Cfg,d.Small∧Hq (∀W,Calls Tryz.prog 36 #[.agg #[.int .i64 y0,.int .i64 y1,.int .i64 y2,.int .i64 y3,.int .i64 y4,.int .i64 y5,.int .i64 y6,.int .i64 y7,.int .i64 y8,.int .i64 y9,.int .i64 y10]] W (GA W d)):=by
 obtain⟨wk,cp,pg,st,tr,wt,ck,pr,ca,bi,ba,R0,S0⟩:=Az y0 y1 y2 y3 y4 y5 y6 y7 y8 y9 y10 f0 f1 f2 f3 f4 f5 f6 f7 f8 f9 f10
 have R:Cfg.Ok ⟨wk,cp,pg,st,tr,wt,ck,pr,ca,bi,ba⟩:=R0
 exact⟨_,qK R,fun W=>Eb R y0 y1 y2 y3 y4 y5 y6 y7 y8 y9 y10 W S0.out⟩
end Go.Proofs.YtddmeghbmdfgeaaGreatDoor
