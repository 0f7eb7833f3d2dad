/-
  An arena in memory, and what a call turns: the words that the walks over package arena speak with.
-/
import Derived.WalkKit
import Derived.Deep.Draws
import Derived.Deep.Quiet
import Derived.Deep.QuietTactic
import Derived.BigQuiet
import Derived.RegionTactic
import Derived.RangeFuncNested
import Derived.RangeFuncCalls
import Derived.RangeFuncLeaves
import Derived.OwnWalkIn
import Derived.TacticsInMore
import Derived.Test.YtddmeghbmdfgeaaGreatDoorRows
import Derived.WalkSpells
import Derived.WalkLawsBesides
import Derived.Outline
import Derived.IntWalk
import Derived.Lib.Hide
import Derived.Laws.Rows
import Derived.Laws.Tables
import Derived.StillTail
import Derived.Orders
set_option maxRecDepth 100000
set_option maxHeartbeats 8000000
set_option linter.all false
namespace Go.Proofs.YtddmeghbmdfgeaaGreatDoor
def Hq (p:Prop):Prop:=p
theorem Hq.o {p:Prop}(h:Hq p):p:=h
theorem Hq.out {p:Prop}(h:Hq p):p:=h
theorem hQQ {p:Prop}(h:p):Hq p:=h
end Go.Proofs.YtddmeghbmdfgeaaGreatDoor
namespace Go.Proofs.YtddmeghbmdfgeaaGreatDoor
open Go.RowKit
structure Turned (S:Nat→Prop)(w w':World):Prop where
 os:w'.os=w.os
 tape:w'.tape=w.tape
 output:w'.output=w.output
 size:w.heap.size≤w'.heap.size
 block:∀k,k<w.heap.size→¬S k→w'.heap[k]?=w.heap[k]?
namespace Turned
variable {S S':Nat→Prop}{w w' w'':World}
theorem refl (S:Nat→Prop)(w:World):Turned S w w:=⟨rfl,rfl,rfl,Nat.le_refl _,fun _ _ _=>rfl⟩
theorem trans (h:Turned S w w')(k:Turned S w' w''):Turned S w w'' :=
 ⟨k.os.trans h.os,k.tape.trans h.tape,k.output.trans h.output,Nat.le_trans h.size k.size,
  fun i hi hs=>(k.block i (Nat.lt_of_lt_of_le hi h.size) hs).trans (h.block i hi hs)⟩
theorem mono (h:Turned S w w')(hs:∀k,k<w.heap.size→S k→S' k):Turned S' w w' :=
 ⟨h.os,h.tape,h.output,h.size,fun i hi hn=>h.block i hi (fun q=>hn (hs i hi q))⟩
theorem drew (h:Turned S w w'):Turned S w w'.drew:=⟨h.os,h.tape,h.output,h.size,h.block⟩
theorem drewN (h:Turned S w w')(n:Nat):Turned S w (w'.drewN n):=⟨h.os,h.tape,h.output,h.size,h.block⟩
theorem alloc (h:Turned S w w')(o:Obj):Turned S w (w'.alloc o):=
 h.trans ⟨rfl,rfl,rfl,by simp,fun k hk _=>Below.heap_alloc _ _ _ hk⟩
theorem setCell (h:Turned S w w')(p:Addr)(u:Value)(hp:p.block<w.heap.size→S p.block):Turned S w (w'.setCell p u):=
 ⟨h.os,h.tape,h.output,by have:=h.size;simpa using this,fun k hk hs=>by
  rw[Below.heap_setCell _ _ _ _ (by intro e;subst e;exact hs (hp hk))];exact h.block k hk hs⟩
theorem below (h:Turned S w w'){B:Nat}(hB:B≤w.heap.size)(hs:∀k,S k→B≤k):Below B w w' :=
 ⟨h.os,h.tape,h.output,h.size,fun k hk=>h.block k (by omega) (fun q=>by have:=hs k q;omega)⟩
end Turned
def pf (ws:List Int):Array Value:=(ws.map (Value.int .i64)).toArray
structure At (T:Nat)(w:World)(a b:Nat)(ws:List Int)(c:Int):Prop where
 head:w.heap[a]?=some (.cells #[.slice (some ⟨b,0,none⟩) ws.length ws.length,.int .i64 c] T (0,0))
 row:w.heap[b]?=some (.cells (pf ws) 3 (0,0))
 ne:a≠b
theorem ac {w:World}{k:Nat}{o:Obj}(h:w.heap[k]?=some o):k<w.heap.size:=by
 by_cases q:k<w.heap.size
 ·exact q
 ·rw[Array.getElem?_eq_none (by omega)] at h;cases h
theorem eW {w:World}{k o:Nat}{v:Value}(h:w.cell? ⟨k,o,none⟩=some v):k<w.heap.size:=by
 by_cases q:k<w.heap.size
 ·exact q
 ·unfold World.cell? at h;rw[Array.getElem?_eq_none (by simpa using q)] at h;cases h
namespace At
variable {T:Nat}{w w':World}{a b:Nat}{ws:List Int}{c:Int}
theorem la (h:At T w a b ws c):a<w.heap.size:=ac h.head
theorem lb (h:At T w a b ws c):b<w.heap.size:=ac h.row
theorem keep (h:At T w a b ws c){S:Nat→Prop}(t:Turned S w w')(ha:¬S a)(hb:¬S b):At T w' a b ws c :=
 ⟨by rw[t.block a h.la ha];exact h.head,by rw[t.block b h.lb hb];exact h.row,h.ne⟩
theorem c0 (h:At T w a b ws c):w.cell? ⟨a,0,none⟩=some (.slice (some ⟨b,0,none⟩) ws.length ws.length):=by simp[World.cell?,h.head]
theorem c1 (h:At T w a b ws c):w.cell? ⟨a,1,none⟩=some (.int .i64 c):=by simp[World.cell?,h.head]
theorem f0 (h:At T w a b ws c):w.frozen? ⟨a,0,none⟩=false:=by simp[World.frozen?,h.head]
theorem f1 (h:At T w a b ws c):w.frozen? ⟨a,1,none⟩=false:=by simp[World.frozen?,h.head]
theorem wd (h:At T w a b ws c){i:Nat}(hi:i<ws.length):w.cell? ⟨b,i,none⟩=some (.int .i64 (ws.getD i 0)):=by
 simp[World.cell?,h.row,pf,hi,List.getD]
theorem drew (h:At T w a b ws c):At T w.drew a b ws c:=⟨h.head,h.row,h.ne⟩
theorem drewN (h:At T w a b ws c)(n:Nat):At T (w.drewN n) a b ws c:=⟨h.head,h.row,h.ne⟩
theorem alloc (h:At T w a b ws c)(o:Obj):At T (w.alloc o) a b ws c:=h.keep ((Turned.refl (fun _=>False) w).alloc o) (fun q=>q) (fun q=>q)
end At
theorem js (b o j:Nat):(⟨b,o,none⟩:Addr).add j=⟨b,o+j,none⟩:=by
 unfold Addr.add
 by_cases q:j=0
 ·subst q;simp
 ·simp[q]
theorem bz (w:World)(o:Obj):(w.alloc o).heap[w.heap.size]?=some o:=by
 show(w.heap.push o)[w.heap.size]?=_
 simp
def ae (w w':World):Prop:=Turned (fun _=>False) w w'
theorem ae.refl (w:World):ae w w:=Turned.refl _ _
theorem ae.trans {w w' w'':World}(h:ae w w')(k:ae w' w''):ae w w'':=Turned.trans h k
theorem ae.alloc {w w':World}(h:ae w w')(o:Obj):ae w (w'.alloc o):=Turned.alloc h o
theorem ae.drew {w w':World}(h:ae w w'):ae w w'.drew:=Turned.drew h
theorem ae.drewN {w w':World}(h:ae w w')(n:Nat):ae w (w'.drewN n):=Turned.drewN h n
theorem ae.block {w w':World}(h:ae w w'){k:Nat}{o:Obj}(hk:w.heap[k]?=some o):w'.heap[k]?=some o:=by
 rw[Turned.block h k (ac hk) (fun q=>q)];exact hk
theorem ae.cell {w w':World}(h:ae w w'){k o:Nat}{v:Value}(hc:w.cell? ⟨k,o,none⟩=some v):w'.cell? ⟨k,o,none⟩=some v:=by
 rw[World.cell?_of_block (w:=w) (Turned.block h k (eW hc) (fun q=>q))];exact hc
def aQ (w:World)(v:Value)(e:Ending)(w':World):Prop:=e=.returned v∧ae w w'
theorem bQ {P:Program}{id:Nat}{Q:Exit→Act→World→Prop}{a:Act}{w:World}{l:List Oper}(hm:P.follows .mixedOrders=true)(hB:Region.lexB .any l.toArray=true)
 (h:wpQuiet P l.toArray (ae w) (fun a'=>∀w',ae w w'→Q .normal a' w') l a):(Code.region id l.toArray true).wp P Q a w :=
 wp_region_quiet (C:=ae w) hm hB ((ae.refl w).drewN 1) (by simpa using h)
theorem ox {P:Program}{ops:Array Oper}{C:World→Prop}{Q:Act→Prop}{a:Act}{o:Oper}{rest:List Oper}(v:Value)(hw:Region.wanted o (yielded ops a.tmps)=true)
 (hy:∀W,C W→o.quietAt P a C W v) (h:wpQuiet P ops C Q rest (a.put o.dst v)):wpQuiet P ops C Q (o::rest) a:=by
 unfold wpQuiet;rw[if_pos hw];exact⟨v,hy,h⟩
theorem Calls.more {P:Program}{f:FuncId}{args:Array Value}{w W:World}{v:Value}(hW:ae w W)(h:Calls P f args W (aQ W v)):Calls P f args W fun e w''=>e=.returned v∧ae w w'' :=
 h.mono fun _ _ ⟨he,hm⟩=>⟨he,hW.trans hm⟩
variable {F:Fence}{n:Nat}{P:Program}
def DQ (P:Program)(l:Nat)(R:Ending→World→Prop):Exit→Act→World→Prop
 | .panic chain,a,w=>a.defers= []∧R (.panicked chain) w
 |e,a,w=>roundPost P l R e a w
theorem sn {l:Nat}{f:FuncId}{fn:Func}{tmps:Array Value}{assign body:Code}{w:World}{R:Ending→World→Prop}(hF:F.fn f)(hf:P.funcs[f]?=some fn)
 (h:assign.wpIn (F.inRound l) n P (Exit.then (fun a₁ w₁=>∃w₂,(Instr.beginRound l).run P w₁= .ok () w₂∧body.wpIn (F.inRound l) n P (DQ P l R) a₁ w₂) (fun _ _ _=>False)) { tmps:=tmps,defers:= [] } w):
 RoundIn F n P l f tmps assign body w R:=by
 refine⟨hF,fun c cs hr=>?_⟩
 obtain⟨b,hb⟩:∃b:Frame,b= { (default:Frame) with fn:=f,kind:= .normal,roundOf:=some l } :=⟨_,rfl⟩
 have bf:b.fn=f:=by rw[hb]
 have bk:b.kind=.normal:=by rw[hb]
 have br:b.roundOf=some l:=by rw[hb]
 have start:Frame.round l f tmps assign body .normal=b.atR { tmps:=tmps,defers:= [] } [.code assign,.beginRound,.code body]:=by simp[Frame.round,Frame.atR,bf,bk,br]
 have room:(F.inRound l).room ((c::cs).length+1+n):=hr
 have inn:(F.inRound l).fn b.fn:=by rw[bf];exact hF
 have calm:∀ {a todo W},(b.atR a todo).about P W=none→(lone (b.atR a todo) (c::cs) W).fenced P F:=fun q=>fenced_calm (F:=F) (fr:=b.atR _ _) (by exact inn) room q
 obtain⟨e,a₁,w₁,hq,way⟩:=h b [.beginRound,.code body] (c::cs) br inn room
 rw[←start] at way
 cases e with
 |normal =>
  obtain⟨w₂,hbegin,hbody⟩:=hq
  obtain⟨e₂,a₂,w₃,hq₂,way₂⟩:=hbody b [] (c::cs) br inn room
  have here:StepsIn (Machine.fenced P F) P (lone (Frame.round l f tmps assign body .normal) (c::cs) w) (lone (b.atR a₁ [.code body]) (c::cs) w₂):=StepsIn.trans way (.one (calm rfl) (stepR_beginRound br hbegin))
  have some':b.roundOf.isSome=true:=by rw[br];rfl
  cases e₂ with
  |normal=>obtain⟨v,w₄,h1,h2⟩:=hq₂;exact⟨.returned v,w₄,h2,StepsIn.trans here (StepsIn.trans way₂ (.one (calm rfl) (stepR_round_end br bk h1)))⟩
  |ret=>obtain⟨v,w₄,h1,h2⟩:=hq₂;obtain⟨k₁,s⟩:=way₂.2 some';exact⟨.returned v,w₄,h2,StepsIn.trans here (StepsIn.trans s (.one (calm rfl) (stepR_round_ret br bk h1)))⟩
  |exit id=>obtain⟨v,w₄,h1,h2⟩:=hq₂;obtain⟨k₁,hk,s⟩:=way₂.2 some' rfl;exact⟨.returned v,w₄,h2,StepsIn.trans here (StepsIn.trans s (.one (calm rfl) (stepR_round_exit br bk hk h1)))⟩
  |goto t=>obtain⟨v,w₄,h1,h2⟩:=hq₂;obtain⟨k₁,hk,s⟩:=way₂.2 some' rfl;exact⟨.returned v,w₄,h2,StepsIn.trans here (StepsIn.trans s (.one (calm rfl) (stepR_round_goto br bk hk h1)))⟩
  |panic chain =>
   obtain⟨hd,h2⟩:=hq₂
   obtain⟨todo,s⟩:=way₂
   have lv:Frame.leaving P { b.atR a₂ todo with mode:= .panicking chain } w₃ (.panicked chain):=⟨rfl,hd,fn,by show P.funcs[b.fn]?=_;rw[bf];exact hf⟩
   exact⟨.panicked chain,w₃,h2,StepsIn.trans here (StepsIn.trans s (.one (fenced_leaving (F:=F) (by exact inn) room lv) (step_leave_panicked lv)))⟩
  |outgrown=>exact hq₂.elim
 |exit id=>exact hq.elim
 |goto t=>exact hq.elim
 |ret=>exact hq.elim
 |panic chain=>exact hq.elim
 |outgrown=>exact hq.elim
def sr (f0:FuncId)(F:Fence)(n:Nat)(P:Program)(c:Code)(Q:Exit→Act→World→Prop)(a:Act)(w:World):Prop :=
 ∀(b:Frame) (k:List Item) (cs:List Frame),b.roundOf=F.round→b.fn=f0→F.fn b.fn→F.room (cs.length+1+n) →
  ∃e a' w',Q e a' w'∧ArrivesIn (Machine.fenced P F) P (lone (b.atR a (.code c::k)) cs w) b k cs e a' w'
theorem rQ {f0:FuncId}{c:Code}{Q:Exit→Act→World→Prop}{a:Act}{w:World}(h:c.wpIn F n P Q a w):sr f0 F n P c Q a w :=
 fun b k cs hro _ hb hr=>h b k cs hro hb hr
theorem ss {f0:FuncId}{x y:Code}{Q:Exit→Act→World→Prop}{a:Act}{w:World}(h:sr f0 F n P x (Exit.then (sr f0 F n P y Q) Q) a w):sr f0 F n P (.seq x y) Q a w:=by
 intro b k cs hro hf hb hr
 have first:StepsIn (Machine.fenced P F) P (lone (b.atR a (.code (.seq x y)::k)) cs w) (lone (b.atR a (.code x:: .code y::k)) cs w):= .one (fenced_calm hb hr rfl) stepR_seq
 obtain⟨e,a₁,w₁,hq,way⟩:=h b (.code y::k) cs hro hf hb hr
 by_cases he:e=.normal
 ·subst he
  obtain⟨e₂,a₂,w₂,hq₂,way₂⟩:=hq b k cs hro hf hb hr
  exact⟨e₂,a₂,w₂,hq₂,.of_steps (StepsIn.trans first way) way₂⟩
 ·refine⟨e,a₁,w₁,?_,.of_steps first (.pass (x:=.code y) rfl (fun _ _=> .inl he) way)⟩
  cases e<;>first|exact hq|exact(he rfl).elim
theorem fE {f0:FuncId}{x y:Code}{Q:Exit→Act→World→Prop}{a:Act}{w:World}(h:x.wpIn F n P (Exit.then (sr f0 F n P y Q) Q) a w):sr f0 F n P (.seq x y) Q a w :=
 ss (rQ h)
theorem oy {f0:FuncId}{id:Nat}{x:Code}{Q:Exit→Act→World→Prop}{a:Act}{w:World}(h:sr f0 F n P x (Exit.inBlock id Q) a w):sr f0 F n P (.block id x) Q a w:=by
 intro b k cs hro hf hb hr
 have first:StepsIn (Machine.fenced P F) P (lone (b.atR a (.code (.block id x)::k)) cs w) (lone (b.atR a (.code x:: .inBlock id::k)) cs w):= .one (fenced_calm hb hr rfl) stepR_block
 obtain⟨e,a₁,w₁,hq,way⟩:=h b (.inBlock id::k) cs hro hf hb hr
 have gone:∀l,gotoIn l (.inBlock id::k)=gotoIn l k:=fun l=>by simp[gotoIn]
 cases e with
 |normal=>exact⟨.normal,a₁,w₁,hq,StepsIn.trans first (StepsIn.trans way (.one (fenced_calm hb hr rfl) stepR_inBlock))⟩
 |goto l=>exact⟨.goto l,a₁,w₁,hq,fun k' hk=>StepsIn.trans first (way.1 k' (by rw[gone];exact hk)),fun q hk=>let ⟨k₁,h1,h2⟩:=way.2 q (by rw[gone];exact hk); ⟨k₁,h1,StepsIn.trans first h2⟩⟩
 |exit i =>
  by_cases hi:i=id
  ·subst hi
   simp only[Exit.inBlock,if_true] at hq
   exact⟨.normal,a₁,w₁,hq,StepsIn.trans first (way.1 k (by simp[exitTo]))⟩
  ·simp only[Exit.inBlock,hi,if_false] at hq
   have out:exitTo i (.inBlock id::k)=exitTo i k:=by simp[exitTo,show(id==i)=false by simp;exact fun q=>hi q.symm]
   exact⟨.exit i,a₁,w₁,hq,fun k' hk=>StepsIn.trans first (way.1 k' (by rw[out];exact hk)),fun q hk=>let ⟨k₁,h1,h2⟩:=way.2 q (by rw[out];exact hk); ⟨k₁,h1,StepsIn.trans first h2⟩⟩
 |ret=>exact⟨_,a₁,w₁,hq,.of_steps first way⟩
 |panic ch=>exact⟨_,a₁,w₁,hq,.of_steps first way⟩
 |outgrown=>exact⟨_,a₁,w₁,hq,.of_steps first way⟩
theorem iW {f:FuncId}{fn:Func}{c:Code}{args:Array Value}{w:World}{R:Ending→World→Prop}(hf:P.funcs[f]?=some fn)(hb:fn.body=some c)(hF:F.fn f)
 (h:sr f F n P c (bodyPostM F n P fn R) { tmps:=args++Array.replicate (fn.ntmps-args.size) undef,defers:= [] } w) (hro:F.round=none):CallsIn F n P f args w R:=by
 refine⟨hF,fun cs hr=>?_⟩
 obtain⟨b,hb0⟩:∃b:Frame,b= { (default:Frame) with fn:=f,kind:= .normal,roundOf:=none } :=⟨_,rfl⟩
 have bf:b.fn=f:=by rw[hb0]
 have bk:b.kind=.normal:=by rw[hb0]
 have br:b.roundOf=none:=by rw[hb0]
 have inn:F.fn b.fn:=by rw[bf];exact hF
 have hfb:P.funcs[b.fn]?=some fn:=by rw[bf];exact hf
 have start:Frame.enter P f args .normal=b.atR { tmps:=args++Array.replicate (fn.ntmps-args.size) undef,defers:= [] } [.code c]:=by simp[Frame.enter,Frame.atR,hf,hb,bf,bk,br]
 obtain⟨e,a',w',hq,way⟩:=h b [] cs (by rw[br,hro]) bf inn hr
 rw[←start] at way
 have leave:∀(u:FrameMode) (todo:List Item),LeavesInM F n P fn a'.tmps R a'.defers u w'→StepsIn (Machine.fenced P F) P (lone (Frame.enter P f args .normal) cs w) (lone { b.atR a' todo with mode:=u } cs w') →
  ∃e w' fr,R e w'∧ComesIn (Machine.fenced P F) P (lone (Frame.enter P f args .normal) cs w) (lone fr cs w') e∧fr.fn=f∧fr.leaving P w' e:=fun u todo hl s=>by
  obtain⟨e',w'',fr',h1,h2,h3,h4⟩:=leaves_stepsInM (F:=F) (n:=n) a'.defers u w' { b.atR a' todo with mode:=u } cs rfl rfl rfl hfb bk inn hr hl
  exact⟨e',w'',fr',h1,ComesIn.of_steps s h2,h3.trans bf,h4⟩
 cases e with
 |normal=>exact leave .returning [] hq (StepsIn.trans way (.one (fenced_calm (fr:=b.atR a' []) inn hr rfl) (stepR_end br)))
 |ret=>obtain⟨todo,s⟩:=way.1 br;exact leave .returning todo hq s
 |panic chain=>obtain⟨todo,s⟩:=way;exact leave (.panicking chain) todo hq s
 |exit id=>exact hq.elim
 |goto l=>exact hq.elim
 |outgrown=>exact⟨.outgrown,w',b,hq,way.resolve_left (by rw[bk];simp),bf,trivial⟩
def bR (S:Nat→Prop)(W W':World):Prop:=∀k,S k→W'.heap[k]?=W.heap[k]?
theorem bR.trans {S:Nat→Prop}{A B C:World}(h:bR S A B)(k:bR S B C):bR S A C:=fun i hi=>(k i hi).trans (h i hi)
theorem bR.put {S:Nat→Prop}(W:World)(l:Nat)(o:Obj)(hl:¬S l):bR S W (W.putObj l o):=fun i hi=>World.putObj_heap_other (fun e=>hl (e▸hi))
theorem bR.turned {S T:Nat→Prop}{W W':World}(h:Turned T W W')(hl:∀k,S k→k<W.heap.size)(ht:∀k,S k→¬T k):bR S W W':=fun i hi=>Turned.block h i (hl i hi) (ht i hi)
structure jt (B:Nat)(I:World→Prop):Prop where
 more:∀ {A A':World},I A→ae A A'→I A'
 put:∀ {A:World} {r:Loop} (r':Loop),I A→A.heap[B+1]?=some (.loop r)→I (A.putObj (B+1) (.loop r'))
def dK (B k:Nat):Prop:=k=B∨k=B+1
def CG (F:Fence)(n:Nat)(P:Program)(gf:Nat)(lb:Array Value)(enc:Nat→Array Value)(N:Nat)(S:Nat→Prop)(w0:World):Prop :=
 ∀(l:Nat) (J:Nat→World→Prop) (Jx:Ending→Nat→World→Prop) (W:World),ae w0 W→(∀k A B,J k A→ae A B→J k B)→(∀e k A B,Jx e k A→ae A B→Jx e k B) →
  (∀k W1,k<N→J k W1→YieldAt F (n-1) P l (enc k) W1 fun e W'=>(e=.returned (.bool true)∧J (k+1) W'∧bR S W1 W')∨((e=.returned (.bool false)∨∃c,e=.panicked c)∧Jx e k W'))→J 0 W →
  CallsIn F n P gf (#[.func (.yield l) #[] #[]]++lb) W fun e W'=>((∃v,e=.returned v)∧(J N W'∨∃k,k<N∧Jx (.returned (.bool false)) k W'))∨(∃c k,e=.panicked c∧k<N∧Jx e k W')
def qm:Exit→Option Code
 | .ret=>some .ret
 | .exit id=>some (.exit id)
 | .goto t=>some (.goto t)
 | _=>none
def FU (B:Nat)(S:Nat→Prop)(I:Nat→World→Prop)(Ix:Exit→Nat→World→Prop)(k:Nat)(W:World):Exit→Act→World→Prop
 | .normal,_,W'=>bR (dK B) W W'∧bR S W W'∧I (k+1) W'
 | .panic c,a,W'=>bR (dK B) W W'∧a.defers= []∧Ix (.panic c) k W'
 | .outgrown,_,_=>False
 |e,_,W'=>bR (dK B) W W'∧Ix e k W'
theorem FW {f0:FuncId}{fn0:Func}(hf0:P.funcs[f0]?=some fn0){g:Operand}{ps:Array Tmp}{assign body:Code}{Q:Exit→Act→World→Prop}{a:Act}{w:World}
 (hro:F.round=none) (h1:1≤n) {gf:Nat} {lb:Array Value} (hg:a.eval g=.func (.func gf) #[] lb) (hFg:F.fn gf) (eg:∀args w,(callFunc gf args).run P w=.ok (.enter gf args) w)
 {enc:Nat→Array Value} {N:Nat} {S:Nat→Prop} {w0:World} (hseq:CG F (n-1) P gf lb enc N S w0) (hw0:ae w0 w) (hS:∀k,S k→k<w.heap.size) (hps:∀k,(enc k).size=ps.size)
 (I:Nat→World→Prop) (Ix:Exit→Nat→World→Prop) (hI:∀i,jt w.heap.size (I i)) (hIx:∀e i,jt w.heap.size (Ix e i)) (h0:I 0 w) (Ax:Nat→Act→World→Prop) (hAx:∀k a',jt w.heap.size (Ax k a'))
 (hassign:∀(l k:Nat) (W:World) (K:Act→World→Prop),k<N→w.heap.size+2≤W.heap.size→I k W→(∀a' W',bR (dK w.heap.size) W W'→bR S W W'→Ax k a' W'→K a' W') →
  assign.wpIn (F.inRound l) (n-1-1) P (Exit.then K (fun _ _ _=>False)) { tmps:=(ps.zip (enc k)).foldl (fun t (p,v)=>t.setIfInBounds p v) a.tmps,defers:= [] } W)
 (hbody:∀(l k:Nat) (a':Act) (W:World),w.heap.size+2≤W.heap.size→k<N→Ax k a' W→body.wpIn (F.inRound l) (n-1-1) P (FU w.heap.size S I Ix k W) a' W)
 (hdone:∀W:World,I N W→W.heap[w.heap.size]?=some (.deferred (some []))→Q .normal { a with defers:= { target:= .collected w.heap.size,args:= #[] } ::a.defers } W)
 (hstop:∀(k:Nat) (e:Exit) (c:Code) (W:World),qm e=some c→k<N→Ix e k W→W.heap[w.heap.size]?=some (.deferred (some []))→c.wpIn F n P Q { a with defers:= { target:= .collected w.heap.size,args:= #[] } ::a.defers } W)
 (hpanic:∀(k:Nat) (ch:List PanicEntry) (W:World),k<N→Ix (.panic ch) k W→W.heap[w.heap.size]?=some (.deferred (some []))→Q (.panic ch) { a with defers:= { target:= .collected w.heap.size,args:= #[] } ::a.defers } W):
 sr f0 F n P (Code.rangeFunc g ps assign body) Q a w:=by
 intro b k cs hrb hf hb hr
 have hfb:P.funcs[b.fn]?=some fn0:=by rw[hf];exact hf0
 -- the record,at its states
 obtain⟨rec,hrec⟩:∃rec:LoopState→Option Code→Loop,rec=fun st pe=> { state:=st,pending:=pe,fn:=b.fn,tmps:=a.tmps,params:=ps,assign,body,defers:=w.heap.size } :=⟨_,rfl⟩
 obtain⟨W1,hW1⟩:∃W1,(w.alloc (.deferred (some []))).alloc (.loop (rec .ready none))=W1:=⟨_,rfl⟩
 have m1:ae w W1:=by rw[←hW1];exact((ae.refl w).alloc _).alloc _
 have L1:W1.heap[w.heap.size+1]?=some (.loop (rec .ready none)):=by
  rw[←hW1];have:=bz (w.alloc (.deferred (some []))) (.loop (rec .ready none));rwa [World.size_alloc] at this
 have D1:W1.heap[w.heap.size]?=some (.deferred (some [])):=by
  rw[←hW1];exact((ae.refl _).alloc _).block (bz w _)
 -- what is said between two rounds,and where a round has left
 obtain⟨J,hJ⟩:∃J:Nat→World→Prop,J=fun i W=>I i W∧W.heap[w.heap.size+1]?=some (.loop (rec .ready none))∧W.heap[w.heap.size]?=some (.deferred (some [])):=⟨_,rfl⟩
 obtain⟨Jx,hJx⟩:∃Jx:Ending→Nat→World→Prop,Jx=fun e i W=>(match e with
  | .panicked ch=>Ix (.panic ch) i W
  | _=>∃x c,qm x=some c∧Ix x i W∧W.heap[w.heap.size+1]?=some (.loop (rec .done (some c))))∧W.heap[w.heap.size]?=some (.deferred (some [])):=⟨_,rfl⟩
 have enter:(Instr.enterLoop b.fn a.tmps ps assign body b.roundOf).run P w=.ok (w.heap.size+1,[{ target:= .collected w.heap.size,args:= #[] }]) W1:=by
  rw[hrb,hro,←hW1,hrec];exact run_enterLoop_outer _ _ _ _ _
 have resol:(resolve a.eval (rangeCall g (w.heap.size+1)) 0).run P W1=.ok { target:= .fn (.func gf) lb,args:= #[.func (.yield (w.heap.size+1)) #[] #[]] } W1:=by
  simp only[resolve,hg];simp[go_sem]
 have invok:(invoke (.fn (.func gf) lb) #[.func (.yield (w.heap.size+1)) #[] #[]]).run P W1=.ok (.enter gf (#[.func (.yield (w.heap.size+1)) #[] #[]]++lb)) W1:=by
  simp[invoke,go_sem,eg]
 have lead:∀f',Target.leads P W1 (.fn (.func gf) lb) #[.func (.yield (w.heap.size+1)) #[] #[]]=some f'→F.fn f':=fun f' hf'=>by
  simp[Target.leads] at hf';subst hf';exact hFg
 have h00:(lone (b.atR a (.code (.rangeFunc g ps assign body)::k)) cs w).fenced P F:=by
  refine fenced_lone (.inl hb) (fun f' hf'=>lead f' ?_) (Fence.room_le hr (by omega))
  have hev:=Frame.eval_atR b a (.code (.rangeFunc g ps assign body)::k)
  simp only[Frame.atR] at hev
  simp only[Frame.about,Frame.atR,enter,hev,resol] at hf'
  exact hf'
 have step0:=stepR_rangeFunc (P:=P) (b:=b) (a:=a) (k:=k) (cs:=cs) (w:=w) enter resol invok
 have room1:F.room ((b.atR { a with defers:= [{ target:= .collected w.heap.size,args:= #[] }]++a.defers } (.inRangeFunc (w.heap.size+1)::k)::cs).length+1+(n-1)):=Fence.room_enter hr (fun _=>h1)
 have call:=hseq (w.heap.size+1) J Jx W1 (hw0.trans m1)
  (fun i A B hs m=>by rw[hJ] at hs⊢;exact⟨(hI i).more hs.1 m,m.block hs.2.1,m.block hs.2.2⟩)
  (fun e i A B hs m=>by
   rw[hJx] at hs⊢
   refine⟨?_,m.block hs.2⟩
   cases e with
   |panicked ch=>exact(hIx _ i).more hs.1 m
   |returned v=>obtain⟨x,c,q1,q2,q3⟩:=hs.1;exact⟨x,c,q1,(hIx _ i).more q2 m,m.block q3⟩
   |outgrown=>obtain⟨x,c,q1,q2,q3⟩:=hs.1;exact⟨x,c,q1,(hIx _ i).more q2 m,m.block q3⟩)
  ?round (by rw[hJ];exact⟨(hI 0).more h0 m1,L1,D1⟩)
 case round =>
  intro i W hi hs
  rw[hJ] at hs
  obtain⟨hin,hl,hd⟩:=hs
  have hy:=run_yield (P:=P) (args:=enc i) hl (by rw[hrec];exact hps i)
  rw[hrec] at hy
  refine⟨b.fn,_,assign,body,hy,sn hb hfb (hassign _ i W _ hi (ac hl) hin ?_)⟩
  clear hy
  intro a' Wa ka sa xa
  have la:=(ka _ (.inr rfl)).trans hl
  have da:=(ka _ (.inl rfl)).trans hd
  have lta:w.heap.size+1<Wa.heap.size:=ac la
  refine⟨_,run_beginRound la (by rw[hrec]),?_⟩
  have nS:¬S (w.heap.size+1):=fun q=>by have:=hS _ q;omega
  obtain⟨Wb,hWb⟩:∃Wb,Wa.putObj (w.heap.size+1) (.loop { rec .ready none with state:= .busy })=Wb:=⟨_,rfl⟩
  have lb2:Wb.heap[w.heap.size+1]?=some (.loop { rec .ready none with state:= .busy }):=by rw[←hWb];exact World.putObj_heap_same lta
  have db:Wb.heap[w.heap.size]?=some (.deferred (some [])):=by rw[←hWb];exact(World.putObj_heap_other (by omega)).trans da
  have sb:bR S W Wb:=sa.trans (by rw[←hWb];exact bR.put _ _ _ nS)
  rw[hWb]
  refine wpIn_mono (hbody _ i a' Wb (ac lb2) hi (by rw[←hWb];exact(hAx i a').put _ xa la)) ?_
  -- the record behind the body,and the round's end
  have fin:∀(jump:Option Code) (W3:World),bR (dK w.heap.size) Wb W3 →
   (Instr.endRound (w.heap.size+1) jump).run P W3=.ok (.bool jump.isNone) (W3.putObj (w.heap.size+1) (.loop (rec (if jump.isNone then .ready else .done) jump))) ∧
   W3.heap[w.heap.size+1]?=some (.loop { rec .ready none with state:= .busy }) ∧
   (W3.putObj (w.heap.size+1) (.loop (rec (if jump.isNone then .ready else .done) jump))).heap[w.heap.size+1]?=some (.loop (rec (if jump.isNone then .ready else .done) jump)) ∧
   (W3.putObj (w.heap.size+1) (.loop (rec (if jump.isNone then .ready else .done) jump))).heap[w.heap.size]?=some (.deferred (some [])):=fun jump W3 k3=>by
   have l3:=(k3 _ (.inr rfl)).trans lb2
   have e3:=run_endRound (P:=P) jump l3
   rw[hrec] at e3⊢
   exact⟨e3,by rw[hrec] at l3;exact l3,World.putObj_heap_same (ac l3),(World.putObj_heap_other (by omega)).trans ((k3 _ (.inl rfl)).trans db)⟩
  have left':∀(x:Exit) (c:Code) (W3:World),qm x=some c→bR (dK w.heap.size) Wb W3→Ix x i W3→∃v w',(Instr.endRound (w.heap.size+1) (some c)).run P W3=.ok v w' ∧
   ((Ending.returned v=.returned (.bool true)∧J (i+1) w'∧bR S W w')∨((Ending.returned v=.returned (.bool false)∨∃c,Ending.returned v=.panicked c)∧Jx (.returned v) i w')):=fun x c W3 hx k3 hix=>by
   obtain⟨r1,r2,r3,r4⟩:=fin (some c) W3 k3
   refine⟨_,_,r1,.inr ⟨.inl rfl,?_⟩⟩
   rw[hJx]
   exact⟨⟨x,c,hx,(hIx x i).put _ hix r2,r3⟩,r4⟩
  rintro e a3 W3 hp
  cases e with
  |normal =>
   obtain⟨k3,s3,i3⟩:=hp
   obtain⟨r1,r2,r3,r4⟩:=fin none W3 k3
   refine⟨_,_,r1,.inl ⟨rfl,?_,(sb.trans s3).trans (bR.put _ _ _ nS)⟩⟩
   rw[hJ]
   exact⟨(hI (i+1)).put _ i3 r2,r3,r4⟩
  |ret=>exact left' .ret _ W3 rfl hp.1 hp.2
  |exit id=>exact left' (.exit id) _ W3 rfl hp.1 hp.2
  |goto t=>exact left' (.goto t) _ W3 rfl hp.1 hp.2
  |panic ch =>
   obtain⟨k3,d3,i3⟩:=hp
   refine⟨d3,.inr ⟨.inr ⟨ch,rfl⟩,?_⟩⟩
   rw[hJx]
   exact⟨i3,(k3 _ (.inl rfl)).trans db⟩
  |outgrown=>exact hp.elim
 obtain⟨_,callee⟩:=call
 obtain⟨e,w₃,fr,hR,hsteps,hfn,hleave⟩:=callee (b.atR { a with defers:= [{ target:= .collected w.heap.size,args:= #[] }]++a.defers } (.inRangeFunc (w.heap.size+1)::k)::cs) room1
 rcases hR with⟨⟨v,rfl⟩,hR⟩|⟨ch,i,rfl,hi,hR⟩
 ·have lv:(lone fr (b.atR { a with defers:= [{ target:= .collected w.heap.size,args:= #[] }]++a.defers } (.inRangeFunc (w.heap.size+1)::k)::cs) w₃).fenced P F:=fenced_leaving (hfn▸hFg) room1 hleave
  have back:∀(jump:Option Code) (w₄:World),(Instr.endLoop (w.heap.size+1)).run P w₃= .ok jump w₄ →
   StepsIn (Machine.fenced P F) P (lone (b.atR a (.code (.rangeFunc g ps assign body)::k)) cs w) (lone (b.atR { a with defers:= { target:= .collected w.heap.size,args:= #[] } ::a.defers } ((jump.map Item.code).toList++k)) cs w₄):=fun jump w₄ hend=>by
   refine .head h00 step0 (StepsIn.trans hsteps (.head lv ?_ (.one (fenced_calm (fr:=b.atR { a with defers:= { target:= .collected w.heap.size,args:= #[] } ::a.defers } (.endRangeFunc (w.heap.size+1)::k)) hb hr rfl) (stepR_endRangeFunc hend))))
   exact(step_leave_returned hleave).trans (by rw[finish_atR_inRangeFunc];rfl)
  rcases hR with hR|⟨i,hi,hR⟩
  ·rw[hJ] at hR
   obtain⟨i3,l3,d3⟩:=hR
   have e3:=run_endLoop (P:=P) l3 (by rw[hrec];simp)
   have e4:(Instr.endLoop (w.heap.size+1)).run P w₃= .ok none (w₃.putObj (w.heap.size+1) (.loop { rec .ready none with state:= .exhausted })):=by rw[hrec] at e3⊢;exact e3
   exact⟨.normal,_,_,hdone _ ((hI N).put _ i3 l3) ((World.putObj_heap_other (o:=.loop { rec .ready none with state:= .exhausted }) (by omega)).trans d3),back none _ e4⟩
  ·rw[hJx] at hR
   obtain⟨⟨x,c,q1,q2,l3⟩,d3⟩:=hR
   have e3:=run_endLoop (P:=P) l3 (by rw[hrec];simp)
   obtain⟨e',a'',w₅,hq,way⟩:=hstop i x c _ q1 hi ((hIx x i).put _ q2 l3) ((World.putObj_heap_other (o:=.loop { rec .done (some c) with state:= .exhausted }) (by omega)).trans d3) b k cs hrb hb hr
   have e4:(Instr.endLoop (w.heap.size+1)).run P w₃= .ok (some c) (w₃.putObj (w.heap.size+1) (.loop { rec .done (some c) with state:= .exhausted })):=by rw[hrec] at e3⊢;exact e3
   exact⟨e',a'',w₅,hq,.of_steps (back (some c) _ e4) way⟩
 ·have lv:(lone fr (b.atR { a with defers:= [{ target:= .collected w.heap.size,args:= #[] }]++a.defers } (.inRangeFunc (w.heap.size+1)::k)::cs) w₃).fenced P F:=fenced_leaving (hfn▸hFg) room1 hleave
  rw[hJx] at hR
  refine⟨.panic ch,_,w₃,hpanic i ch w₃ hi hR.1 hR.2,.inRangeFunc (w.heap.size+1)::k,.head h00 step0 (StepsIn.trans hsteps (.one lv ?_))⟩
  exact(step_leave_panicked hleave).trans (by rw[←Frame.raise_atR];rfl)
variable {F:Fence}{n:Nat}{P:Program}
structure xX (σ:Type) where
 enc:σ→Array Value
 See:σ→World→Prop
 Own:σ→σ→World→World→Prop
 Fin:σ→σ→World→World→Prop
 Ned:σ→List PanicEntry→World→World→Prop
 Skp:σ→σ→World→World→Prop
 Rel:σ→σ→World→World→Prop
def Al {σ:Type}(T:xX σ)(F:Fence)(n:Nat)(P:Program)(gf:Nat)(lb:Array Value)(s0:σ)(w0:World):Prop :=
 ∀(l:Nat) (J J' Je:σ→World→Prop) (Jx:Ending→World→Prop) (W:World),ae w0 W →
  (∀s A B,J s A→ae A B→J s B)→(∀s A B,J' s A→ae A B→J' s B)→(∀s A B,Je s A→ae A B→Je s B)→(∀e A B,Jx e A→ae A B→Jx e B) →
  (∀s A,J s A→T.See s A)→(∀s s' A B,J s A→T.Own s s' A B→J' s' B)→(∀s s' A B,J s A→T.Fin s s' A B→Je s' B)→(∀s c A B,J s A→T.Ned s c A B→Jx (.panicked c) B)→(∀s s' A B,J s A→T.Skp s s' A B→J s' B) →
  (∀s A,J' s A→YieldAt F (n-1) P l (T.enc s) A fun e B=>(e=.returned (.bool true)∧∃s',T.Rel s s' A B∧J s' B)∨((e=.returned (.bool false)∨∃c,e=.panicked c)∧Jx e B))→J s0 W →
  CallsIn F n P gf (#[.func (.yield l) #[] #[]]++lb) W fun e B=>((∃v,e=.returned v)∧((∃s,Je s B)∨Jx (.returned (.bool false)) B))∨∃c,e=.panicked c∧Jx (.panicked c) B
def na {σ:Type}(T:xX σ)(B:Nat)(I:σ→World→Prop)(Ix:Exit→World→Prop)(s:σ)(W:World):Exit→Act→World→Prop
 | .normal,_,W'=>bR (dK B) W W'∧∃s',T.Rel s s' W W'∧I s' W'
 | .panic c,a,W'=>bR (dK B) W W'∧a.defers= []∧Ix (.panic c) W'
 | .outgrown,_,_=>False
 |e,_,W'=>bR (dK B) W W'∧Ix e W'
theorem uZ {σ:Type}(T:xX σ){f0:FuncId}{fn0:Func}(hf0:P.funcs[f0]?=some fn0){g:Operand}{ps:Array Tmp}{assign body:Code}{Q:Exit→Act→World→Prop}{a:Act}{w:World}
 (hro:F.round=none) (h1:1≤n) {gf:Nat} {lb:Array Value} (hg:a.eval g=.func (.func gf) #[] lb) (hFg:F.fn gf) (eg:∀args w,(callFunc gf args).run P w=.ok (.enter gf args) w)
 {s0:σ} {w0:World} (hseq:Al T F (n-1) P gf lb s0 w0) (hw0:ae w0 w) (hps:∀s,(T.enc s).size=ps.size)
 (I I' Ie:σ→World→Prop) (Ix:Exit→World→Prop) (hI:∀s,jt w.heap.size (I s)) (hI':∀s,jt w.heap.size (I' s)) (hIe:∀s,jt w.heap.size (Ie s)) (hIx:∀e,jt w.heap.size (Ix e)) (h0:I s0 w) (Ax:σ→Act→World→Prop) (hAx:∀s a',jt w.heap.size (Ax s a'))
 (hsee:∀s A,w.heap.size+2≤A.heap.size→I s A→T.See s A)
 (hown:∀s s' A B,w.heap.size+2≤A.heap.size→I s A→T.Own s s' A B→bR (dK w.heap.size) A B∧I' s' B)
 (hfin:∀s s' A B,w.heap.size+2≤A.heap.size→I s A→T.Fin s s' A B→bR (dK w.heap.size) A B∧Ie s' B)
 (hned:∀s c A B,w.heap.size+2≤A.heap.size→I s A→T.Ned s c A B→bR (dK w.heap.size) A B∧Ix (.panic c) B)
 (hskp:∀s s' A B,w.heap.size+2≤A.heap.size→I s A→T.Skp s s' A B→bR (dK w.heap.size) A B∧I s' B)
 (hrel:∀s s' A B l (r0 r1 r r':Loop),A.heap[l]?=some (.loop r0)→B.heap[l]?=some (.loop r1)→T.Rel s s' (A.putObj l (.loop r)) B→T.Rel s s' A (B.putObj l (.loop r')))
 (hassign:∀(l:Nat) (s:σ) (W:World) (K:Act→World→Prop),w.heap.size+2≤W.heap.size→I' s W→(∀a',Ax s a' W→K a' W) →
  assign.wpIn (F.inRound l) (n-1-1) P (Exit.then K (fun _ _ _=>False)) { tmps:=(ps.zip (T.enc s)).foldl (fun t (p,v)=>t.setIfInBounds p v) a.tmps,defers:= [] } W)
 (hbody:∀(l:Nat) (s:σ) (a':Act) (W:World),w.heap.size+2≤W.heap.size→Ax s a' W→body.wpIn (F.inRound l) (n-1-1) P (na T w.heap.size I Ix s W) a' W)
 (hdone:∀(s:σ) (W:World),Ie s W→W.heap[w.heap.size]?=some (.deferred (some []))→Q .normal { a with defers:= { target:= .collected w.heap.size,args:= #[] } ::a.defers } W)
 (hstop:∀(e:Exit) (c:Code) (W:World),qm e=some c→Ix e W→W.heap[w.heap.size]?=some (.deferred (some []))→c.wpIn F n P Q { a with defers:= { target:= .collected w.heap.size,args:= #[] } ::a.defers } W)
 (hpanic:∀(ch:List PanicEntry) (W:World),Ix (.panic ch) W→W.heap[w.heap.size]?=some (.deferred (some []))→Q (.panic ch) { a with defers:= { target:= .collected w.heap.size,args:= #[] } ::a.defers } W):
 sr f0 F n P (Code.rangeFunc g ps assign body) Q a w:=by
 intro b k cs hrb hf hb hr
 have hfb:P.funcs[b.fn]?=some fn0:=by rw[hf];exact hf0
 -- the record,at its states
 obtain⟨rec,hrec⟩:∃rec:LoopState→Option Code→Loop,rec=fun st pe=> { state:=st,pending:=pe,fn:=b.fn,tmps:=a.tmps,params:=ps,assign,body,defers:=w.heap.size } :=⟨_,rfl⟩
 obtain⟨W1,hW1⟩:∃W1,(w.alloc (.deferred (some []))).alloc (.loop (rec .ready none))=W1:=⟨_,rfl⟩
 have m1:ae w W1:=by rw[←hW1];exact((ae.refl w).alloc _).alloc _
 have L1:W1.heap[w.heap.size+1]?=some (.loop (rec .ready none)):=by
  rw[←hW1];have:=bz (w.alloc (.deferred (some []))) (.loop (rec .ready none));rwa [World.size_alloc] at this
 have D1:W1.heap[w.heap.size]?=some (.deferred (some [])):=by
  rw[←hW1];exact((ae.refl _).alloc _).block (bz w _)
 -- what is said between two rounds,and where a round has left
 obtain⟨Bk,hBk⟩:∃Bk:World→Prop,Bk=fun W=>W.heap[w.heap.size+1]?=some (.loop (rec .ready none))∧W.heap[w.heap.size]?=some (.deferred (some [])):=⟨_,rfl⟩
 have bkM:∀ {A B:World},Bk A→ae A B→Bk B:=fun {A B} h m=>by rw[hBk] at h⊢;exact⟨m.block h.1,m.block h.2⟩
 have bkS:∀ {A B:World},Bk A→bR (dK w.heap.size) A B→Bk B:=fun {A B} h m=>by rw[hBk] at h⊢;exact⟨(m _ (.inr rfl)).trans h.1,(m _ (.inl rfl)).trans h.2⟩
 have bkL:∀ {A:World},Bk A→w.heap.size+2≤A.heap.size:=fun {A} h=>by rw[hBk] at h;exact ac h.1
 obtain⟨Jx,hJx⟩:∃Jx:Ending→World→Prop,Jx=fun e W=>(match e with
  | .panicked ch=>Ix (.panic ch) W
  | _=>∃x c,qm x=some c∧Ix x W∧W.heap[w.heap.size+1]?=some (.loop (rec .done (some c))))∧W.heap[w.heap.size]?=some (.deferred (some [])):=⟨_,rfl⟩
 have enter:(Instr.enterLoop b.fn a.tmps ps assign body b.roundOf).run P w=.ok (w.heap.size+1,[{ target:= .collected w.heap.size,args:= #[] }]) W1:=by
  rw[hrb,hro,←hW1,hrec];exact run_enterLoop_outer _ _ _ _ _
 have resol:(resolve a.eval (rangeCall g (w.heap.size+1)) 0).run P W1=.ok { target:= .fn (.func gf) lb,args:= #[.func (.yield (w.heap.size+1)) #[] #[]] } W1:=by
  simp only[resolve,hg];simp[go_sem]
 have invok:(invoke (.fn (.func gf) lb) #[.func (.yield (w.heap.size+1)) #[] #[]]).run P W1=.ok (.enter gf (#[.func (.yield (w.heap.size+1)) #[] #[]]++lb)) W1:=by
  simp[invoke,go_sem,eg]
 have lead:∀f',Target.leads P W1 (.fn (.func gf) lb) #[.func (.yield (w.heap.size+1)) #[] #[]]=some f'→F.fn f':=fun f' hf'=>by
  simp[Target.leads] at hf';subst hf';exact hFg
 have h00:(lone (b.atR a (.code (.rangeFunc g ps assign body)::k)) cs w).fenced P F:=by
  refine fenced_lone (.inl hb) (fun f' hf'=>lead f' ?_) (Fence.room_le hr (by omega))
  have hev:=Frame.eval_atR b a (.code (.rangeFunc g ps assign body)::k)
  simp only[Frame.atR] at hev
  simp only[Frame.about,Frame.atR,enter,hev,resol] at hf'
  exact hf'
 have step0:=stepR_rangeFunc (P:=P) (b:=b) (a:=a) (k:=k) (cs:=cs) (w:=w) enter resol invok
 have room1:F.room ((b.atR { a with defers:= [{ target:= .collected w.heap.size,args:= #[] }]++a.defers } (.inRangeFunc (w.heap.size+1)::k)::cs).length+1+(n-1)):=Fence.room_enter hr (fun _=>h1)
 have bk1:Bk W1:=by rw[hBk];exact⟨L1,D1⟩
 have call:=hseq (w.heap.size+1) (fun s W=>I s W∧Bk W) (fun s W=>I' s W∧Bk W) (fun s W=>Ie s W∧Bk W) Jx W1 (hw0.trans m1)
  (fun s A B hs m=>⟨(hI s).more hs.1 m,bkM hs.2 m⟩) (fun s A B hs m=>⟨(hI' s).more hs.1 m,bkM hs.2 m⟩) (fun s A B hs m=>⟨(hIe s).more hs.1 m,bkM hs.2 m⟩)
  (fun e A B hs m=>by
   rw[hJx] at hs⊢
   refine⟨?_,m.block hs.2⟩
   cases e with
   |panicked ch=>exact(hIx _).more hs.1 m
   |returned v=>obtain⟨x,c,q1,q2,q3⟩:=hs.1;exact⟨x,c,q1,(hIx _).more q2 m,m.block q3⟩
   |outgrown=>obtain⟨x,c,q1,q2,q3⟩:=hs.1;exact⟨x,c,q1,(hIx _).more q2 m,m.block q3⟩)
  (fun s A h=>hsee s A (bkL h.2) h.1)
  (fun s s' A B h o=>⟨(hown s s' A B (bkL h.2) h.1 o).2,bkS h.2 (hown s s' A B (bkL h.2) h.1 o).1⟩)
  (fun s s' A B h o=>⟨(hfin s s' A B (bkL h.2) h.1 o).2,bkS h.2 (hfin s s' A B (bkL h.2) h.1 o).1⟩)
  (fun s c A B h o=>by
   obtain⟨q1,q2⟩:=hned s c A B (bkL h.2) h.1 o
   have:=bkS h.2 q1
   rw[hBk] at this
   rw[hJx]
   exact⟨q2,this.2⟩)
  (fun s s' A B h o=>⟨(hskp s s' A B (bkL h.2) h.1 o).2,bkS h.2 (hskp s s' A B (bkL h.2) h.1 o).1⟩)
  ?round ⟨(hI s0).more h0 m1,bk1⟩
 case round =>
  rintro s W ⟨hin,hbk⟩
  have hbk':=hbk
  rw[hBk] at hbk'
  obtain⟨hl,hd⟩:=hbk'
  have hy:=run_yield (P:=P) (args:=T.enc s) hl (by rw[hrec];exact hps s)
  rw[hrec] at hy
  refine⟨b.fn,_,assign,body,hy,sn hb hfb (hassign _ s W _ (ac hl) hin ?_)⟩
  clear hy
  intro a' xa
  have la:=hl
  have da:=hd
  have lta:w.heap.size+1<W.heap.size:=ac la
  refine⟨_,run_beginRound la (by rw[hrec]),?_⟩
  obtain⟨Wb,hWb⟩:∃Wb,W.putObj (w.heap.size+1) (.loop { rec .ready none with state:= .busy })=Wb:=⟨_,rfl⟩
  have lb2:Wb.heap[w.heap.size+1]?=some (.loop { rec .ready none with state:= .busy }):=by rw[←hWb];exact World.putObj_heap_same lta
  have db:Wb.heap[w.heap.size]?=some (.deferred (some [])):=by rw[←hWb];exact(World.putObj_heap_other (by omega)).trans da
  rw[hWb]
  refine wpIn_mono (hbody _ s a' Wb (ac lb2) (by rw[←hWb];exact(hAx s a').put _ xa la)) ?_
  -- the record behind the body,and the round's end
  have fin:∀(jump:Option Code) (W3:World),bR (dK w.heap.size) Wb W3 →
   (Instr.endRound (w.heap.size+1) jump).run P W3=.ok (.bool jump.isNone) (W3.putObj (w.heap.size+1) (.loop (rec (if jump.isNone then .ready else .done) jump))) ∧
   W3.heap[w.heap.size+1]?=some (.loop { rec .ready none with state:= .busy }) ∧
   (W3.putObj (w.heap.size+1) (.loop (rec (if jump.isNone then .ready else .done) jump))).heap[w.heap.size+1]?=some (.loop (rec (if jump.isNone then .ready else .done) jump)) ∧
   (W3.putObj (w.heap.size+1) (.loop (rec (if jump.isNone then .ready else .done) jump))).heap[w.heap.size]?=some (.deferred (some [])):=fun jump W3 k3=>by
   have l3:=(k3 _ (.inr rfl)).trans lb2
   have e3:=run_endRound (P:=P) jump l3
   rw[hrec] at e3⊢
   exact⟨e3,by rw[hrec] at l3;exact l3,World.putObj_heap_same (ac l3),(World.putObj_heap_other (by omega)).trans ((k3 _ (.inl rfl)).trans db)⟩
  have left':∀(x:Exit) (c:Code) (W3:World),qm x=some c→bR (dK w.heap.size) Wb W3→Ix x W3→∃v w',(Instr.endRound (w.heap.size+1) (some c)).run P W3=.ok v w' ∧
   ((Ending.returned v=.returned (.bool true)∧∃s',T.Rel s s' W w'∧(I s' w'∧Bk w'))∨((Ending.returned v=.returned (.bool false)∨∃c,Ending.returned v=.panicked c)∧Jx (.returned v) w')):=fun x c W3 hx k3 hix=>by
   obtain⟨r1,r2,r3,r4⟩:=fin (some c) W3 k3
   refine⟨_,_,r1,.inr ⟨.inl rfl,?_⟩⟩
   rw[hJx]
   exact⟨⟨x,c,hx,(hIx x).put _ hix r2,r3⟩,r4⟩
  rintro e a3 W3 hp
  cases e with
  |normal =>
   obtain⟨k3,s',hs',i3⟩:=hp
   obtain⟨r1,r2,r3,r4⟩:=fin none W3 k3
   refine⟨_,_,r1,.inl ⟨rfl,s',hrel s s' W W3 _ _ _ _ _ la r2 (by rw[hWb];exact hs'),(hI s').put _ i3 r2,?_⟩⟩
   rw[hBk]
   exact⟨r3,r4⟩
  |ret=>exact left' .ret _ W3 rfl hp.1 hp.2
  |exit id=>exact left' (.exit id) _ W3 rfl hp.1 hp.2
  |goto t=>exact left' (.goto t) _ W3 rfl hp.1 hp.2
  |panic ch =>
   obtain⟨k3,d3,i3⟩:=hp
   refine⟨d3,.inr ⟨.inr ⟨ch,rfl⟩,?_⟩⟩
   rw[hJx]
   exact⟨i3,(k3 _ (.inl rfl)).trans db⟩
  |outgrown=>exact hp.elim
 obtain⟨_,callee⟩:=call
 obtain⟨e,w₃,fr,hR,hsteps,hfn,hleave⟩:=callee (b.atR { a with defers:= [{ target:= .collected w.heap.size,args:= #[] }]++a.defers } (.inRangeFunc (w.heap.size+1)::k)::cs) room1
 rcases hR with⟨⟨v,rfl⟩,hR⟩|⟨ch,rfl,hR⟩
 ·have lv:(lone fr (b.atR { a with defers:= [{ target:= .collected w.heap.size,args:= #[] }]++a.defers } (.inRangeFunc (w.heap.size+1)::k)::cs) w₃).fenced P F:=fenced_leaving (hfn▸hFg) room1 hleave
  have back:∀(jump:Option Code) (w₄:World),(Instr.endLoop (w.heap.size+1)).run P w₃= .ok jump w₄ →
   StepsIn (Machine.fenced P F) P (lone (b.atR a (.code (.rangeFunc g ps assign body)::k)) cs w) (lone (b.atR { a with defers:= { target:= .collected w.heap.size,args:= #[] } ::a.defers } ((jump.map Item.code).toList++k)) cs w₄):=fun jump w₄ hend=>by
   refine .head h00 step0 (StepsIn.trans hsteps (.head lv ?_ (.one (fenced_calm (fr:=b.atR { a with defers:= { target:= .collected w.heap.size,args:= #[] } ::a.defers } (.endRangeFunc (w.heap.size+1)::k)) hb hr rfl) (stepR_endRangeFunc hend))))
   exact(step_leave_returned hleave).trans (by rw[finish_atR_inRangeFunc];rfl)
  rcases hR with⟨s,i3,hbk⟩|hR
  ·rw[hBk] at hbk
   obtain⟨l3,d3⟩:=hbk
   have e3:=run_endLoop (P:=P) l3 (by rw[hrec];simp)
   have e4:(Instr.endLoop (w.heap.size+1)).run P w₃= .ok none (w₃.putObj (w.heap.size+1) (.loop { rec .ready none with state:= .exhausted })):=by rw[hrec] at e3⊢;exact e3
   exact⟨.normal,_,_,hdone s _ ((hIe s).put _ i3 l3) ((World.putObj_heap_other (o:=.loop { rec .ready none with state:= .exhausted }) (by omega)).trans d3),back none _ e4⟩
  ·rw[hJx] at hR
   obtain⟨⟨x,c,q1,q2,l3⟩,d3⟩:=hR
   have e3:=run_endLoop (P:=P) l3 (by rw[hrec];simp)
   obtain⟨e',a'',w₅,hq,way⟩:=hstop x c _ q1 ((hIx x).put _ q2 l3) ((World.putObj_heap_other (o:=.loop { rec .done (some c) with state:= .exhausted }) (by omega)).trans d3) b k cs hrb hb hr
   have e4:(Instr.endLoop (w.heap.size+1)).run P w₃= .ok (some c) (w₃.putObj (w.heap.size+1) (.loop { rec .done (some c) with state:= .exhausted })):=by rw[hrec] at e3⊢;exact e3
   exact⟨e',a'',w₅,hq,.of_steps (back (some c) _ e4) way⟩
 ·have lv:(lone fr (b.atR { a with defers:= [{ target:= .collected w.heap.size,args:= #[] }]++a.defers } (.inRangeFunc (w.heap.size+1)::k)::cs) w₃).fenced P F:=fenced_leaving (hfn▸hFg) room1 hleave
  rw[hJx] at hR
  refine⟨.panic ch,_,w₃,hpanic ch w₃ hR.1 hR.2,.inRangeFunc (w.heap.size+1)::k,.head h00 step0 (StepsIn.trans hsteps (.one lv ?_))⟩
  exact(step_leave_panicked hleave).trans (by rw[←Frame.raise_atR];rfl)
structure cZ (wk cp pg st tr wt ck pr ca bi ba:Int):Prop where
 wk1:1≤wk
 wk2:wk≤64
 cp1:1≤cp
 cp2:cp≤8
 pg1:1≤pg
 pg2:pg≤256
 st1:1≤st
 st2:st≤64
 tr1:0≤tr
 tr2:tr≤16
 wt1:0≤wt
 wt2:wt≤64
 ck1:1≤ck
 ck2:ck≤1099511627776
 pr1:1≤pr
 pr2:pr≤8
 ca1:0≤ca
 ca2:ca≤8
 bi1:0≤bi
 bi2:bi≤16
 ba1:1≤ba
 ba2:ba≤8
def aY (st:Int):Int:=3+st
def aL (pg:Int):Int:=(pg+3) / 4
def a8 (st pg:Int):Int:=aY st+aL pg+5 * pg
def du (st pg:Int):Int:=a8 st pg+62
def fX (cp pg st ca:Int):Int:=du st pg+5 * cp * (ca+1)
def eK (cp pg st ca bi:Int):Int:=fX cp pg st ca+5 * (bi+1)
def eT (cp pg st ca bi:Int):Int:=(eK cp pg st ca bi+32 * pg+127) / 128 * 128
def eY (cp pg st ca bi:Int):Int:=eT cp pg st ca bi+32 * pg
theorem aB {x:Int}(h0: -9223372036854775808≤x)(h1:x≤9223372036854775807):IntKind.i64.wrap x=x:=IntWalk.i64_in _ (by omega)
section
variable {wk cp pg st tr wt ck pr ca bi ba:Int}(R:cZ wk cp pg st tr wt ck pr ca bi ba)
include R
theorem su:4≤aY st∧aY st≤67:=by have:=R.st1;have:=R.st2;unfold aY;omega
theorem ph:1≤aL pg∧aL pg≤64:=by have:=R.pg1;have:=R.pg2;unfold aL;omega
theorem wE:10≤a8 st pg∧a8 st pg≤1411:=by have:=su R;have:=ph R;have:=R.pg1;have:=R.pg2;unfold a8;omega
theorem rR:72≤du st pg∧du st pg≤1473:=by have:=wE R;unfold du;omega
theorem Ny:1≤cp * (ca+1)∧cp * (ca+1)≤72:=by
 have h1:=R.cp1;have h2:=R.cp2;have h3:=R.ca1;have h4:=R.ca2
 constructor
 ·have:=Int.mul_le_mul h1 (show(1:Int)≤ca+1 by omega) (by omega) (by omega)
  omega
 ·have:=Int.mul_le_mul h2 (show ca+1≤9 by omega) (by omega) (by omega)
  omega
theorem qn:5≤5 * cp * (ca+1)∧5 * cp * (ca+1)≤360:=by
 have:=Ny R
 rw[Int.mul_assoc];omega
theorem CH:77≤fX cp pg st ca∧fX cp pg st ca≤1833:=by have:=rR R;have:=qn R;unfold fX;omega
theorem sw:82≤eK cp pg st ca bi∧eK cp pg st ca bi≤1918:=by have:=CH R;have:=R.bi1;have:=R.bi2;unfold eK;omega
theorem nZ:128≤eT cp pg st ca bi∧eT cp pg st ca bi≤10240∧eK cp pg st ca bi+32 * pg≤eT cp pg st ca bi:=by have:=sw R;have:=R.pg1;have:=R.pg2;unfold eT;omega
theorem Am:160≤eY cp pg st ca bi∧eY cp pg st ca bi≤18432:=by have:=nZ R;have:=R.pg1;have:=R.pg2;unfold eY;omega
end
def FX (w:World)(k:Nat)(T:Nat)(wk cp pg st tr wt ck pr ca bi ba:Int):Prop:=w.heap[k]?=some (.cells #[.int .i64 wk,.int .i64 cp,.int .i64 pg,.int .i64 st,.int .i64 tr,.int .i64 wt,.int .i64 ck,.int .i64 pr,.int .i64 ca,.int .i64 bi,.int .i64 ba] T (0,0))
theorem ii (w:World)(T:Nat)(wk cp pg st tr wt ck pr ca bi ba:Int):FX (w.alloc (.cells #[.int .i64 wk,.int .i64 cp,.int .i64 pg,.int .i64 st,.int .i64 tr,.int .i64 wt,.int .i64 ck,.int .i64 pr,.int .i64 ca,.int .i64 bi,.int .i64 ba] T)) w.heap.size T wk cp pg st tr wt ck pr ca bi ba:=bz w _
theorem FX.cells {w W:World}{k T:Nat}{wk cp pg st tr wt ck pr ca bi ba:Int}(h:FX w k T wk cp pg st tr wt ck pr ca bi ba)(hW:ae w W):
 W.cell? ⟨k,0,none⟩=some (.int .i64 wk)∧W.cell? ⟨k,1,none⟩=some (.int .i64 cp)∧W.cell? ⟨k,2,none⟩=some (.int .i64 pg)∧W.cell? ⟨k,3,none⟩=some (.int .i64 st)∧W.cell? ⟨k,4,none⟩=some (.int .i64 tr)∧W.cell? ⟨k,5,none⟩=some (.int .i64 wt)∧W.cell? ⟨k,6,none⟩=some (.int .i64 ck)∧W.cell? ⟨k,7,none⟩=some (.int .i64 pr)∧W.cell? ⟨k,8,none⟩=some (.int .i64 ca)∧W.cell? ⟨k,9,none⟩=some (.int .i64 bi)∧W.cell? ⟨k,10,none⟩=some (.int .i64 ba):=by
 have:=hW.block h
 simp[World.cell?,this]
theorem LE {a b A B:Int}(h0:0≤a)(h1:a≤A)(h2:0≤b)(h3:b≤B):0≤a * b∧a * b≤A * B :=
 ⟨Int.mul_nonneg h0 h2,Int.mul_le_mul h1 h3 h2 (by omega)⟩
def dY (pg st k:Int):Int:=if 0≤k∧k<aL pg then aY st+k else 0
def dD (pg st n p:Int):Int:=if 0≤p∧p<pg then aY st+aL pg+n * pg+p else 0
def xY (cp pg st ca bi p:Int):Int:=if 0≤p∧p<pg then eT cp pg st ca bi+32 * p else 0
def oz (cp pg st ca bi c:Int):Int:=if 0≤c∧c≤4 then fX cp pg st ca+c * (bi+1) else 0
def fF (cp pg st ca u c:Int):Int:=if 0≤u∧u<cp∧0≤c∧c≤4 then du st pg+(5 * u+c) * (ca+1) else 0
def gj (c:Int):Int:=if c≤0 then 32 else if c=1 then 16 else if c=2 then 8 else if c=3 then 4 else if c=4 then 2 else 1
def fG (c:Int):Int:=if c≤0 then 0 else if c=1 then 32 else if c=2 then 48 else if c=3 then 56 else 60
def aH (pg st c f:Int):Int:=if 0≤c∧c≤4∧1≤f∧f≤gj c then a8 st pg+fG c+f-1 else 0
theorem xZ (c:Int)(h0:0≤c)(h4:c≤4):2≤gj c∧gj c≤32:=by
 have:c=0∨c=1∨c=2∨c=3∨c=4:=by omega
 rcases this with rfl|rfl|rfl|rfl|rfl<;>decide
theorem Jv (c:Int)(h0:0≤c)(h4:c≤4):0≤fG c∧fG c≤60:=by
 have:c=0∨c=1∨c=2∨c=3∨c=4:=by omega
 rcases this with rfl|rfl|rfl|rfl|rfl<;>decide
def btw (n lo hi:Int):Bool:=decide (lo≤n) && decide (n≤hi)
variable (wk cp pg st tr wt ck pr ca bi ba:Int) in
def wF:Bool:=btw wk 1 64 && btw cp 1 8 && btw pg 1 256 && btw st 1 64 && btw tr 0 16 && btw wt 0 64 && btw ck 1 1099511627776 && btw pr 1 8 && btw ca 0 8 && btw bi 0 16 && btw ba 1 8
section
variable {P:Program}{ops:Array Oper}{rest:List Oper}{o:Oper}{a:Act}{w:World}{Q:Exit→Act→World→Prop}
theorem dU (hw:Region.wanted o (yielded ops a.tmps)=true)
 (h:∀K:Act→World→Prop,(∀a w,wpList P ops Q rest a w→K a w)→o.wp P a w K Q):wpList P ops Q (o::rest) a w :=
 wpList_step fun K hK=>by simp only[hw,if_true];exact h K hK
theorem eL (hw:Region.wanted o (yielded ops a.tmps)=true)(ty:TypeId)(x:Operand)(ho:o.op=.load ty x)
 (g:Nat) (hx:a.eval x=.pointer (some ⟨g,0,none⟩)) (t:TypeId) (cs:Array Value) (fr:Nat×Nat) (d:TypeDesc) (hg:w.heap[g]?=some (.cells cs t fr))
 (hu:P.underlying ty=some d) (hd:(match d with| .struct _| .array _ _=>true|_=>false)=true) (hi:(P.info? ty).map (·.size)=some cs.size)
 (h:wpList P ops Q rest (a.put o.dst (.agg cs)) w):wpList P ops Q (o::rest) a w :=
 dU hw fun _ hK=>wp_load_row ty x ho g hx t cs fr d hg hu hd hi (hK _ _ h)
theorem aP {C:World→Prop}{Q:Act→Prop}(hw:Region.wanted o (yielded ops a.tmps)=true)(ty:TypeId)(x:Operand)(ho:o.op=.load ty x)
 (g:Nat) (hx:a.eval x=.pointer (some ⟨g,0,none⟩)) (t:TypeId) (cs:Array Value) (fr:Nat×Nat) (d:TypeDesc) (hg:∀W,C W→W.heap[g]?=some (.cells cs t fr))
 (hu:P.underlying ty=some d) (hd:(match d with| .struct _| .array _ _=>true|_=>false)=true) (hi:(P.info? ty).map (·.size)=some cs.size)
 (h:wpQuiet P ops C Q rest (a.put o.dst (.agg cs))):wpQuiet P ops C Q (o::rest) a:=by
 refine ox (.agg cs) hw (fun W hW=>?_) h
 unfold Oper.quietAt execOp
 simp only[ho,hx,Instr.loadAt,Instr.sureAddr,Sem.run_bind,Sem.run_pure,Result.andThen_ok,run_loadVar_row W g t ty cs fr d (hg W hW) hu hd hi]
 exact⟨rfl,rfl⟩
end
section
variable {P:Program}{w:World}
theorem eN {ty:TypeId}{g i:Nat}{v:Value}{d:TypeDesc}(hu:P.underlying ty=some d)(hd:(match d with| .struct _| .array _ _=>true|_=>false)=false)(hc:w.cell? ⟨g,i,none⟩=some v):(loadVar ty ⟨g,i,none⟩).run P w=.ok v w:=by
 have hagg:(isAgg ty).run P w=.ok false w:=by
  unfold isAgg
  rw[Sem.run_bind,run_underlying hu w]
  cases d<;>simp_all
 simp[loadVar,Sem.run_bind,hagg,hc,Result.andThen,go_sem]
end
theorem uJ {P:Program}{t e:TypeId}{n:Nat}{cs:Array Value}{i:Nat}{v:Value}{q:IntKind}(W:World)(hu:P.underlying t=some (.array n e))(he:P.underlying e=some (.int q))(hz:(P.info? e).map (·.size)=some 1)
 (hi:i<n) (hv:cs[i]?=some v):(Instr.index t (.agg cs) (.int .i64 i)).run P W=.ok v W:=by
 have hagg:(isAgg e).run P W=.ok false W:=by
  unfold isAgg
  rw[Sem.run_bind,run_underlying he W]
  rfl
 cases hq:P.info? e with
 |none=>simp[hq] at hz
 |some d =>
  have hs:d.size=1:=by simpa [hq] using hz
  have hin:(0:Int)≤(i:Int)∧(i:Int)<(n:Int):=by omega
  simp[Instr.index,asIntOf,Sem.run_bind,run_underlying hu W,hin,part,hagg,sizeOf,typeInfo,hq,hs,hv]
  intro q;omega
theorem Turned.setRow {S:Nat→Prop}{w w':World}(h:Turned S w w')(g:Nat)(cs:Array Value)(hg:g<w.heap.size→S g):Turned S w (w'.setRow g cs):=
 ⟨h.os,h.tape,h.output,by have:=h.size;simpa using this,fun k hk hs=>by
  rw[setRow_other w' g k cs (by intro e;subst e;exact hs (hg hk))];exact h.block k hk hs⟩
theorem ae.setRow {w w':World}(h:ae w w')(g:Nat)(cs:Array Value)(hg:w.heap.size≤g):ae w (w'.setRow g cs):=Turned.setRow h g cs (fun q=>by omega)
theorem bd {w W:World}{k:Nat}{cs:Array Value}{t:Nat}{fr:Nat×Nat}(h:w.heap[k]?=some (.cells cs t fr))(hW:ae w W){j:Nat}{v:Value}(hv:cs[j]?=some v):W.cell? ⟨k,j,none⟩=some v:=by
 rw[cell_of_row W k j cs t fr (hW.block h)];exact hv
theorem aW (w:World)(cs:Array Value)(t:TypeId):(w.alloc (.cells cs t)).heap[w.heap.size]?=some (.cells cs t (0,0)):=bz w _
theorem aM {ops:Array Oper}{rest:List Oper}{o:Oper}{a:Act}{w:World}{Q:Exit→Act→World→Prop}{x:Operand}{g:Nat}{t:TypeId}{cs:Array Value}{fr:Nat×Nat}(hw:Region.wanted o (yielded ops a.tmps)=true)(ho:o.op=.load 28 x)(hx:a.eval x=.pointer (some ⟨g,0,none⟩))(hg:w.heap[g]?=some (.cells cs t fr))(hi:(Tryz.prog.info? 28).map (·.size)=some cs.size)(h:wpList Tryz.prog ops Q rest (a.put o.dst (.agg cs)) w):wpList Tryz.prog ops Q (o::rest) a w:=eL hw 28 x ho g hx t cs fr _ hg Tryz.underlying28 rfl hi h
theorem kY {ops:Array Oper}{rest:List Oper}{o:Oper}{a:Act}{w:World}{Q:Exit→Act→World→Prop}{x:Operand}{g:Nat}{t:TypeId}{cs:Array Value}{fr:Nat×Nat}(hw:Region.wanted o (yielded ops a.tmps)=true)(ho:o.op=.load 32 x)(hx:a.eval x=.pointer (some ⟨g,0,none⟩))(hg:w.heap[g]?=some (.cells cs t fr))(hi:(Tryz.prog.info? 32).map (·.size)=some cs.size)(h:wpList Tryz.prog ops Q rest (a.put o.dst (.agg cs)) w):wpList Tryz.prog ops Q (o::rest) a w:=eL hw 32 x ho g hx t cs fr _ hg Tryz.underlying32 rfl hi h
theorem sx {ops:Array Oper}{rest:List Oper}{o:Oper}{a:Act}{w:World}{Q:Exit→Act→World→Prop}{x:Operand}{g:Nat}{t:TypeId}{cs:Array Value}{fr:Nat×Nat}(hw:Region.wanted o (yielded ops a.tmps)=true)(ho:o.op=.load 23 x)(hx:a.eval x=.pointer (some ⟨g,0,none⟩))(hg:w.heap[g]?=some (.cells cs t fr))(hi:(Tryz.prog.info? 23).map (·.size)=some cs.size)(h:wpList Tryz.prog ops Q rest (a.put o.dst (.agg cs)) w):wpList Tryz.prog ops Q (o::rest) a w:=eL hw 23 x ho g hx t cs fr _ hg Tryz.underlying23 rfl hi h
def dM (a b i:Int):Int:=if 0≤i∧i<b-a then a+i else 0
def aJ (wk cp pg st tr wt ck pr ca bi ba:Int)(S:Nat→Int):Array Value:= #[.int .i64 wk,.int .i64 cp,.int .i64 pg,.int .i64 st,.int .i64 tr,.int .i64 wt,.int .i64 ck,.int .i64 pr,.int .i64 ca,.int .i64 bi,.int .i64 ba,.int .i64 (S 0),.int .i64 (S 1),.int .i64 (S 2),.int .i64 (S 3),.int .i64 (S 4),.int .i64 (S 5),.int .i64 (S 6),.int .i64 (S 7),.int .i64 (S 8),.int .i64 (S 9),.int .i64 (S 10),.int .i64 (S 11),.int .i64 (S 12)]
theorem kZ (wk cp pg st tr wt ck pr ca bi ba:Int)(S:Nat→Int)(p:Nat)(hp:p≤12):(aJ wk cp pg st tr wt ck pr ca bi ba S)[11+p]?=some (.int .i64 (S p)):=by
 have:p=0∨p=1∨p=2∨p=3∨p=4∨p=5∨p=6∨p=7∨p=8∨p=9∨p=10∨p=11∨p=12:=by omega
 rcases this with rfl|rfl|rfl|rfl|rfl|rfl|rfl|rfl|rfl|rfl|rfl|rfl|rfl<;>rfl
theorem k6 (wk cp pg st tr wt ck pr ca bi ba:Int)(S:Nat→Int):(aJ wk cp pg st tr wt ck pr ca bi ba S).all (·.oneCell')=true:=by simp[aJ,Value.oneCell']
structure ic (cp pg st ca bi:Int)(S:Nat→Int):Prop where
 lo:0≤S 0
 up:∀p,p<12→S p≤S (p+1)
 hi:S 12≤1000000
 cp0:0≤cp
 cp1:cp≤8
 pg0:0≤pg
 pg1:pg≤256
 st0:0≤st
 st1:st≤64
 ca0:0≤ca
 ca1:ca≤8
 bi0:0≤bi
 bi1:bi≤16
 empty:st=0→S 12=0
theorem ic.all {cp pg st ca bi:Int}{S:Nat→Int}(h:ic cp pg st ca bi S):0≤S 0∧S 0≤S 1∧S 1≤S 2∧S 2≤S 3∧S 3≤S 4∧S 4≤S 5∧S 5≤S 6∧S 6≤S 7∧S 7≤S 8∧S 8≤S 9∧S 9≤S 10∧S 10≤S 11∧S 11≤S 12∧S 12≤1000000 :=
 ⟨h.lo,h.up 0 (by omega),h.up 1 (by omega),h.up 2 (by omega),h.up 3 (by omega),h.up 4 (by omega),h.up 5 (by omega),h.up 6 (by omega),h.up 7 (by omega),h.up 8 (by omega),h.up 9 (by omega),h.up 10 (by omega),h.up 11 (by omega),h.hi⟩
theorem ic.bounds {cp pg st ca bi:Int}{S:Nat→Int}(h:ic cp pg st ca bi S)(p:Nat)(hp:p≤12):0≤S p∧S p≤1000000:=by
 obtain⟨r0,r1,r2,r3,r4,r5,r6,r7,r8,r9,r10,r11,r12,r13⟩:=h.all
 have:p=0∨p=1∨p=2∨p=3∨p=4∨p=5∨p=6∨p=7∨p=8∨p=9∨p=10∨p=11∨p=12:=by omega
 rcases this with rfl|rfl|rfl|rfl|rfl|rfl|rfl|rfl|rfl|rfl|rfl|rfl|rfl<;>omega
theorem ji (n lo hi:Int)(w:World):
 Calls Tryz.prog 61 #[.int .i64 n,.int .i64 lo,.int .i64 hi] w fun e w'=>e=.returned (.bool (btw n lo hi))∧w'=w:=by
 cases c0:decide (lo≤n) with
 |false =>
  rw[show btw n lo hi=false by simp[btw,c0]]
  go_enter Tryz.func61,Tryz.ntmps61
  go_wp2
  go_ret
  exact⟨rfl,rfl⟩
 |true =>
  cases c1:decide (n≤hi) with
  |false =>
   rw[show btw n lo hi=false by simp[btw,c1]]
   go_enter Tryz.func61,Tryz.ntmps61
   go_wp2
   go_ret
   exact⟨rfl,rfl⟩
  |true =>
   rw[show btw n lo hi=true by simp[btw,c0,c1]]
   go_enter Tryz.func61,Tryz.ntmps61
   go_wp2
   go_ret
   exact⟨rfl,rfl⟩
theorem oA (c:Int)(w:World):
 Calls Tryz.prog 62 #[.int .i64 c] w fun e w'=>e=.returned (.bool (btw c 0 4))∧w'=w:=by
 go_enter Tryz.func62,Tryz.ntmps62
 go_wp2_with fail
 refine(ji _ _ _ _).mono ?_
 rintro e w1 ⟨rfl,rfl⟩
 go_wp2_with fail
 go_ret
 exact⟨rfl,rfl⟩
theorem FY (a:Int)(h0:0≤a)(h1:a≤1000000)(w:World):
 Calls Tryz.prog 71 #[.int .i64 a] w fun e w'=>e=.returned (.int .i64 ((a+127) / 128 * 128))∧w'=w:=by
 have q0:IntKind.i64.wrap (a+128)=a+128:=aB (by omega) (by omega)
 have q1:IntKind.i64.wrap (a+128-1)=a+127:=by rw[aB (by omega) (by omega)];omega
 have q2:IntKind.i64.wrap ((a+127).tdiv 128)=(a+127) / 128:=by rw[Int.tdiv_eq_ediv_of_nonneg (by omega)];exact aB (by omega) (by omega)
 have q3:IntKind.i64.wrap ((a+127) / 128 * 128)=(a+127) / 128 * 128:=aB (by omega) (by omega)
 go_enter Tryz.func71,Tryz.ntmps71
 go_wp2_with fail
 go_ret
 exact⟨rfl,rfl⟩
theorem Jw (wk cp pg st tr wt ck pr ca bi ba:Int)(h0:0≤pg)(h1:pg≤256)(w:World):
 Calls Tryz.prog 100 #[.agg #[.int .i64 wk,.int .i64 cp,.int .i64 pg,.int .i64 st,.int .i64 tr,.int .i64 wt,.int .i64 ck,.int .i64 pr,.int .i64 ca,.int .i64 bi,.int .i64 ba]] w (aQ w (.int .i64 (aL pg))):=by
 have q0:IntKind.i64.wrap (pg+4)=pg+4:=aB (by omega) (by omega)
 have q1:IntKind.i64.wrap (pg+4-1)=pg+3:=by rw[aB (by omega) (by omega)];omega
 have q2:IntKind.i64.wrap ((pg+3).tdiv 4)=aL pg:=by rw[Int.tdiv_eq_ediv_of_nonneg (by omega)];exact aB (by omega) (by omega)
 go_enter Tryz.func100,Tryz.ntmps100
 go_wp2_with fail
 go_ret
 exact⟨rfl,(ae.refl _).alloc _⟩
theorem wG (c:Nat)(h:c≤4)(w:World):
 Calls Tryz.prog 118 #[.int .i64 c] w fun e w'=>e=.returned (.int .i64 (gj c))∧w'=w:=by
 have hc:c=0∨c=1∨c=2∨c=3∨c=4:=by omega
 rcases hc with rfl|rfl|rfl|rfl|rfl <;>
 ·go_enter Tryz.func118,Tryz.ntmps118
  go_wp2_with fail
  go_ret
  exact⟨rfl,rfl⟩
def k7 (c:Nat):Int:=if c=5 then 62 else fG c
theorem ya (k:Nat)(h:k≤4):k7 k+gj k=k7 (k+1)∧0≤k7 k∧k7 k≤60:=by
 have hc:k=0∨k=1∨k=2∨k=3∨k=4:=by omega
 rcases hc with rfl|rfl|rfl|rfl|rfl<;>decide
theorem DR (k:Nat)(h:k≤4):k7 k=fG k:=if_neg (by omega)
theorem qZ (c:Nat)(h:c≤5)(w:World):
 Calls Tryz.prog 101 #[.int .i64 c] w fun e w'=>e=.returned (.int .i64 (k7 c))∧w'=w:=by
 go_enter Tryz.func101,Tryz.ntmps101
 go_wp2_with fail
 go_loop [3,4,6] (fun n _ i=>∃k:Nat,k≤c∧i=.int .i64 k∧n=.int .i64 (k7 k)) (fun _ _ i=>c-(intOf i).toNat)
 case atStart=>exact⟨0,Nat.zero_le _,rfl,rfl⟩
 case round =>
  obtain⟨k,hk,rfl,rfl⟩:=hrel
  by_cases hlt:k<c
  ·obtain⟨a1,a2,a3⟩:=ya k (by omega)
   have b4:=xZ k (by omega) (by omega)
   have q0:IntKind.i64.wrap (k7 k+gj k)=k7 (k+1):=by rw[a1];exact aB (by omega) (by omega)
   clear a1
   have d0:decide ((k:Int)<(c:Int))=true:=by simp;omega
   go_wp2_with fail
   refine(wG k (by omega) _).mono ?_
   rintro e w1 ⟨rfl,rfl⟩
   go_wp2_with fail
   go_round
   case rel=>exact⟨k+1,by omega,by go_num,rfl⟩
   case measure=>simp[intOf];omega
  ·have he:k=c:=by omega
   subst he
   have d0:decide ((k:Int)<(k:Int))=false:=by simp
   go_wp2_with fail
   go_ret
   exact⟨rfl,rfl⟩
variable (wk cp pg st tr wt ck pr ca bi ba:Int)(S:Nat→Int)(w:World)
theorem n6 (p:Nat)(i:Int)(hp:p<12)(R:ic cp pg st ca bi S):
 Calls Tryz.prog 63 #[.agg (aJ wk cp pg st tr wt ck pr ca bi ba S),.int .i64 p,.int .i64 i] w (aQ w (.int .i64 (dM (S p) (S (p+1)) i))):=by
 have h0:=(R.bounds p (by omega)).1
 have h1:=R.up p hp
 have h2:=(R.bounds (p+1) (by omega)).2
 clear R
 have e1:=kZ wk cp pg st tr wt ck pr ca bi ba S p (by omega)
 have e2:=kZ wk cp pg st tr wt ck pr ca bi ba S (p+1) (by omega)
 generalize aJ wk cp pg st tr wt ck pr ca bi ba S=L at *
 generalize S p=a at *
 generalize S (p+1)=b at *
 have HC:=hQQ (aW w L 28)
 have HM:Hq (ae w (w.alloc (.cells L 28))):=(ae.refl w).alloc _
 have q0:IntKind.i64.wrap ((p:Int)+1)=((p+1:Nat):Int):=by rw[aB (by omega) (by omega)];omega
 have q1:IntKind.i64.wrap (b-a)=b-a:=aB (by omega) (by omega)
 have r0:(0:Int)≤(p:Int)+1:=by omega
 have r1:(p:Int)+1<13:=by omega
 have r2:(p:Int)<13:=by omega
 by_cases c0:i<0
 ·have d0:decide (i<0)=true:=by simp;omega
  rw[show dM a b i=0 from if_neg (by omega)]
  go_enter Tryz.func63,Tryz.ntmps63
  go_wp2_with fail
  generalize w.alloc (.cells L 28)=W0 at *
  have hne:∃W,ae W0 W:=⟨W0,ae.refl _⟩
  refine bQ (by kernel_rfl) (by kernel_rfl) ?_
  iterate 16
   with_reducible refine wpQuiet_step (fun K hK=>?_)
   go_simp
   first
   |(refine hK _ ?_;clear hK K)
   |(apply Exists.intro
     refine⟨fun W hW=>?_,hK _ ?_⟩
     first
     |(have x1:=bd HC.o hW e1;have x2:=bd HC.o hW e2;go_simp;try rfl)
     clear hK K)
  refine wpQuiet_nil ?_
  intro W hW
  have HW:=hQQ hW
  have x1:=bd HC.o hW e1
  clear hW
  go_wp2_with fail
  go_ret
  exact⟨rfl,HM.o.trans HW.o⟩
 ·have d0:decide (i<0)=false:=by simp;omega
  by_cases c1:i<b-a
  ·have d1:decide (b-a≤i)=false:=by simp;omega
   have q2:IntKind.i64.wrap (a+i)=a+i:=aB (by omega) (by omega)
   rw[show dM a b i=a+i from if_pos (by omega)]
   go_enter Tryz.func63,Tryz.ntmps63
   go_wp2_with fail
   generalize w.alloc (.cells L 28)=W0 at *
   have hne:∃W,ae W0 W:=⟨W0,ae.refl _⟩
   refine bQ (by kernel_rfl) (by kernel_rfl) ?_
   iterate 16
    with_reducible refine wpQuiet_step (fun K hK=>?_)
    go_simp
    first
    |(refine hK _ ?_;clear hK K)
    |(apply Exists.intro
      refine⟨fun W hW=>?_,hK _ ?_⟩
      first
      |(have x1:=bd HC.o hW e1;have x2:=bd HC.o hW e2;go_simp;try rfl)
      clear hK K)
   refine wpQuiet_nil ?_
   intro W hW
   have HW:=hQQ hW
   have x1:=bd HC.o hW e1
   clear hW
   go_wp2_with fail
   go_ret
   exact⟨rfl,HM.o.trans HW.o⟩
  ·have d1:decide (b-a≤i)=true:=by simp;omega
   rw[show dM a b i=0 from if_neg (by omega)]
   go_enter Tryz.func63,Tryz.ntmps63
   go_wp2_with fail
   generalize w.alloc (.cells L 28)=W0 at *
   have hne:∃W,ae W0 W:=⟨W0,ae.refl _⟩
   refine bQ (by kernel_rfl) (by kernel_rfl) ?_
   iterate 16
    with_reducible refine wpQuiet_step (fun K hK=>?_)
    go_simp
    first
    |(refine hK _ ?_;clear hK K)
    |(apply Exists.intro
      refine⟨fun W hW=>?_,hK _ ?_⟩
      first
      |(have x1:=bd HC.o hW e1;have x2:=bd HC.o hW e2;go_simp;try rfl)
      clear hK K)
   refine wpQuiet_nil ?_
   intro W hW
   have HW:=hQQ hW
   have x1:=bd HC.o hW e1
   clear hW
   go_wp2_with fail
   go_ret
   exact⟨rfl,HM.o.trans HW.o⟩
theorem LH (k:Int)(R:ic cp pg st ca bi S):
 Calls Tryz.prog 137 #[.agg (aJ wk cp pg st tr wt ck pr ca bi ba S),.int .i64 k] w (aQ w (.int .i64 (dM (S 1) (S 2) k))):=by
 obtain⟨r0,r1,r2,r3,r4,r5,r6,r7,r8,r9,r10,r11,r12,r13⟩:=R.all
 have HC:=hQQ (aW w (aJ wk cp pg st tr wt ck pr ca bi ba S) 28)
 go_enter Tryz.func137,Tryz.ntmps137
 go_wp2_with (first|refine aM rfl rfl rfl HC.o (by kernel_rfl) ?_|refine aM rfl rfl rfl HC.o (by kernel_rfl) ?_)
 refine(n6 wk cp pg st tr wt ck pr ca bi ba S _ 1 k (by omega) R).mono ?_
 rintro e w1 ⟨rfl,h1⟩
 go_wp2_with fail
 go_ret
 exact⟨rfl,((ae.refl _).alloc _).trans h1⟩
theorem ND (k:Int)(R:ic cp pg st ca bi S):
 Calls Tryz.prog 90 #[.agg (aJ wk cp pg st tr wt ck pr ca bi ba S),.int .i64 k] w (aQ w (.int .i64 (dM (S 2) (S 3) k))):=by
 obtain⟨r0,r1,r2,r3,r4,r5,r6,r7,r8,r9,r10,r11,r12,r13⟩:=R.all
 have HC:=hQQ (aW w (aJ wk cp pg st tr wt ck pr ca bi ba S) 28)
 go_enter Tryz.func90,Tryz.ntmps90
 go_wp2_with (first|refine aM rfl rfl rfl HC.o (by kernel_rfl) ?_|refine aM rfl rfl rfl HC.o (by kernel_rfl) ?_)
 refine(n6 wk cp pg st tr wt ck pr ca bi ba S _ 2 k (by omega) R).mono ?_
 rintro e w1 ⟨rfl,h1⟩
 go_wp2_with fail
 go_ret
 exact⟨rfl,((ae.refl _).alloc _).trans h1⟩
theorem LJ (k:Int)(R:ic cp pg st ca bi S):
 Calls Tryz.prog 134 #[.agg (aJ wk cp pg st tr wt ck pr ca bi ba S),.int .i64 k] w (aQ w (.int .i64 (dM (S 3) (S 4) k))):=by
 obtain⟨r0,r1,r2,r3,r4,r5,r6,r7,r8,r9,r10,r11,r12,r13⟩:=R.all
 have HC:=hQQ (aW w (aJ wk cp pg st tr wt ck pr ca bi ba S) 28)
 go_enter Tryz.func134,Tryz.ntmps134
 go_wp2_with (first|refine aM rfl rfl rfl HC.o (by kernel_rfl) ?_|refine aM rfl rfl rfl HC.o (by kernel_rfl) ?_)
 refine(n6 wk cp pg st tr wt ck pr ca bi ba S _ 3 k (by omega) R).mono ?_
 rintro e w1 ⟨rfl,h1⟩
 go_wp2_with fail
 go_ret
 exact⟨rfl,((ae.refl _).alloc _).trans h1⟩
theorem NH (k:Int)(R:ic cp pg st ca bi S):
 Calls Tryz.prog 108 #[.agg (aJ wk cp pg st tr wt ck pr ca bi ba S),.int .i64 k] w (aQ w (.int .i64 (dM (S 4) (S 5) k))):=by
 obtain⟨r0,r1,r2,r3,r4,r5,r6,r7,r8,r9,r10,r11,r12,r13⟩:=R.all
 have HC:=hQQ (aW w (aJ wk cp pg st tr wt ck pr ca bi ba S) 28)
 go_enter Tryz.func108,Tryz.ntmps108
 go_wp2_with (first|refine aM rfl rfl rfl HC.o (by kernel_rfl) ?_|refine aM rfl rfl rfl HC.o (by kernel_rfl) ?_)
 refine(n6 wk cp pg st tr wt ck pr ca bi ba S _ 4 k (by omega) R).mono ?_
 rintro e w1 ⟨rfl,h1⟩
 go_wp2_with fail
 go_ret
 exact⟨rfl,((ae.refl _).alloc _).trans h1⟩
theorem NI (k:Int)(R:ic cp pg st ca bi S):
 Calls Tryz.prog 136 #[.agg (aJ wk cp pg st tr wt ck pr ca bi ba S),.int .i64 k] w (aQ w (.int .i64 (dM (S 5) (S 6) k))):=by
 obtain⟨r0,r1,r2,r3,r4,r5,r6,r7,r8,r9,r10,r11,r12,r13⟩:=R.all
 have HC:=hQQ (aW w (aJ wk cp pg st tr wt ck pr ca bi ba S) 28)
 go_enter Tryz.func136,Tryz.ntmps136
 go_wp2_with (first|refine aM rfl rfl rfl HC.o (by kernel_rfl) ?_|refine aM rfl rfl rfl HC.o (by kernel_rfl) ?_)
 refine(n6 wk cp pg st tr wt ck pr ca bi ba S _ 5 k (by omega) R).mono ?_
 rintro e w1 ⟨rfl,h1⟩
 go_wp2_with fail
 go_ret
 exact⟨rfl,((ae.refl _).alloc _).trans h1⟩
theorem NJ (k:Int)(R:ic cp pg st ca bi S):
 Calls Tryz.prog 147 #[.agg (aJ wk cp pg st tr wt ck pr ca bi ba S),.int .i64 k] w (aQ w (.int .i64 (dM (S 6) (S 7) k))):=by
 obtain⟨r0,r1,r2,r3,r4,r5,r6,r7,r8,r9,r10,r11,r12,r13⟩:=R.all
 have HC:=hQQ (aW w (aJ wk cp pg st tr wt ck pr ca bi ba S) 28)
 go_enter Tryz.func147,Tryz.ntmps147
 go_wp2_with (first|refine aM rfl rfl rfl HC.o (by kernel_rfl) ?_|refine aM rfl rfl rfl HC.o (by kernel_rfl) ?_)
 refine(n6 wk cp pg st tr wt ck pr ca bi ba S _ 6 k (by omega) R).mono ?_
 rintro e w1 ⟨rfl,h1⟩
 go_wp2_with fail
 go_ret
 exact⟨rfl,((ae.refl _).alloc _).trans h1⟩
theorem FZ:Calls Tryz.prog 14 #[.agg (aJ wk cp pg st tr wt ck pr ca bi ba S)] w (aQ w (.int .i64 (S 11))):=by
 have HC:=hQQ (aW w (aJ wk cp pg st tr wt ck pr ca bi ba S) 28)
 have x22:=bd HC.o (ae.refl _) (show(aJ wk cp pg st tr wt ck pr ca bi ba S)[22]?=some (.int .i64 (S 11)) from rfl)
 go_enter Tryz.func14,Tryz.ntmps14
 go_wp2_with fail
 go_ret
 exact⟨rfl,(ae.refl _).alloc _⟩
theorem Ao:Calls Tryz.prog 15 #[.agg (aJ wk cp pg st tr wt ck pr ca bi ba S)] w (aQ w (.int .i64 (S 12))):=by
 have HC:=hQQ (aW w (aJ wk cp pg st tr wt ck pr ca bi ba S) 28)
 have x23:=bd HC.o (ae.refl _) (show(aJ wk cp pg st tr wt ck pr ca bi ba S)[23]?=some (.int .i64 (S 12)) from rfl)
 go_enter Tryz.func15,Tryz.ntmps15
 go_wp2_with fail
 go_ret
 exact⟨rfl,(ae.refl _).alloc _⟩
variable (wk cp pg st tr wt ck pr ca bi ba:Int)(S:Nat→Int)(w:World)
def qo (S:Nat→Int)(c f:Int):Int:=if 0≤c∧c≤4∧1≤f∧f≤gj c then dM (S 7) (S 8) (fG c+f-1) else 0
def nh (cp ca:Int)(S:Nat→Int)(u c:Int):Int:=if 0≤u∧u<cp∧0≤c∧c≤4 then dM (S 8) (S 9) ((u * 5+c) * (ca+1)) else 0
def yc (bi:Int)(S:Nat→Int)(c:Int):Int:=if 0≤c∧c≤4 then dM (S 9) (S 10) (c * (bi+1)) else 0
def sy (pg:Int)(S:Nat→Int)(p:Int):Int:=if 0≤p∧p<pg then dM (S 11) (S 12) (p * 32) else 0
theorem kx {n lo hi:Int}(h0:lo≤n)(h1:n≤hi):btw n lo hi=true:=by simp[btw,h0,h1]
theorem jo {n lo hi:Int}(h:¬(lo≤n∧n≤hi)):btw n lo hi=false:=by
 cases q:btw n lo hi with
 |false=>rfl
 |true=>simp[btw] at q;exact absurd q h
theorem Jy:Calls Tryz.prog 20 #[.agg (aJ wk cp pg st tr wt ck pr ca bi ba S)] w (aQ w (.agg #[.int .i64 wk,.int .i64 cp,.int .i64 pg,.int .i64 st,.int .i64 tr,.int .i64 wt,.int .i64 ck,.int .i64 pr,.int .i64 ca,.int .i64 bi,.int .i64 ba])):=by
 have HC0:=hQQ (aW w (aJ wk cp pg st tr wt ck pr ca bi ba S) 28)
 have HC:Hq (((w.alloc (.cells (aJ wk cp pg st tr wt ck pr ca bi ba S) 28)).alloc (.cells #[.int .i64 0,.int .i64 0,.int .i64 0,.int .i64 0,.int .i64 0,.int .i64 0,.int .i64 0,.int .i64 0,.int .i64 0,.int .i64 0,.int .i64 0] 23)).heap[w.heap.size]?=some (.cells (aJ wk cp pg st tr wt ck pr ca bi ba S) 28 (0,0))):=((ae.refl _).alloc _).block HC0.o
 have x0:=bd HC.o (ae.refl _) (show(aJ wk cp pg st tr wt ck pr ca bi ba S)[0]?=some (.int .i64 wk) from rfl)
 have x1:=bd HC.o (ae.refl _) (show(aJ wk cp pg st tr wt ck pr ca bi ba S)[1]?=some (.int .i64 cp) from rfl)
 have x2:=bd HC.o (ae.refl _) (show(aJ wk cp pg st tr wt ck pr ca bi ba S)[2]?=some (.int .i64 pg) from rfl)
 have x3:=bd HC.o (ae.refl _) (show(aJ wk cp pg st tr wt ck pr ca bi ba S)[3]?=some (.int .i64 st) from rfl)
 have x4:=bd HC.o (ae.refl _) (show(aJ wk cp pg st tr wt ck pr ca bi ba S)[4]?=some (.int .i64 tr) from rfl)
 have x5:=bd HC.o (ae.refl _) (show(aJ wk cp pg st tr wt ck pr ca bi ba S)[5]?=some (.int .i64 wt) from rfl)
 have x6:=bd HC.o (ae.refl _) (show(aJ wk cp pg st tr wt ck pr ca bi ba S)[6]?=some (.int .i64 ck) from rfl)
 have x7:=bd HC.o (ae.refl _) (show(aJ wk cp pg st tr wt ck pr ca bi ba S)[7]?=some (.int .i64 pr) from rfl)
 have x8:=bd HC.o (ae.refl _) (show(aJ wk cp pg st tr wt ck pr ca bi ba S)[8]?=some (.int .i64 ca) from rfl)
 have x9:=bd HC.o (ae.refl _) (show(aJ wk cp pg st tr wt ck pr ca bi ba S)[9]?=some (.int .i64 bi) from rfl)
 have x10:=bd HC.o (ae.refl _) (show(aJ wk cp pg st tr wt ck pr ca bi ba S)[10]?=some (.int .i64 ba) from rfl)
 go_enter Tryz.func20,Tryz.ntmps20
 go_wp2_with fail
 refine bodyPost_ret (v:=.agg #[.int .i64 wk,.int .i64 cp,.int .i64 pg,.int .i64 st,.int .i64 tr,.int .i64 wt,.int .i64 ck,.int .i64 pr,.int .i64 ca,.int .i64 bi,.int .i64 ba]) (by simp[results,Tryz.results20,go_sem]) rfl ⟨rfl,?_⟩
 exact((ae.refl _).alloc _).alloc _
theorem NK (c f:Int)(R:ic cp pg st ca bi S):
 Calls Tryz.prog 93 #[.agg (aJ wk cp pg st tr wt ck pr ca bi ba S),.int .i64 c,.int .i64 f] w (aQ w (.int .i64 (qo S c f))):=by
 obtain⟨r0,r1,r2,r3,r4,r5,r6,r7,r8,r9,r10,r11,r12,r13⟩:=R.all
 have HC:=hQQ (aW w (aJ wk cp pg st tr wt ck pr ca bi ba S) 28)
 have HM:Hq (ae w (w.alloc (.cells (aJ wk cp pg st tr wt ck pr ca bi ba S) 28))):=(ae.refl w).alloc _
 by_cases hc:0≤c∧c≤4
 ·obtain⟨k,rfl⟩:∃k:Nat,c=k:=⟨c.toNat,by omega⟩
  have hk:k≤4:=by omega
  have b1:=kx hc.1 hc.2
  by_cases hf:1≤f∧f≤gj k
  ·have b2:=kx hf.1 hf.2
   have b3:=xZ k (by omega) (by omega)
   have b4:=Jv k (by omega) (by omega)
   rw[show qo S k f=dM (S 7) (S 8) (fG k+f-1) from if_pos (by omega)]
   have q0:IntKind.i64.wrap (fG k+f)=fG k+f:=aB (by omega) (by omega)
   have q1:IntKind.i64.wrap (fG k+f-1)=fG k+f-1:=aB (by omega) (by omega)
   have HW:=hQQ (fun W=>n6 wk cp pg st tr wt ck pr ca bi ba S W 7 (fG k+f-1) (by omega) R)
   have HA:=hQQ (fun W=>qZ k (by omega) W)
   rw[DR k hk] at HA
   go_enter Tryz.func93,Tryz.ntmps93
   go_wp2_with fail
   refine(oA _ _).mono ?_
   rintro e w1 ⟨rfl,rfl⟩
   rw[b1]
   go_wp2_with fail
   refine(wG k hk _).mono ?_
   rintro e w2 ⟨rfl,rfl⟩
   go_wp2_with fail
   refine(ji _ _ _ _).mono ?_
   rintro e w3 ⟨rfl,rfl⟩
   rw[b2]
   go_wp2_with fail
   generalize w.alloc (.cells (aJ wk cp pg st tr wt ck pr ca bi ba S) 28)=W0 at *
   have hne:∃W,ae W0 W:=⟨W0,ae.refl _⟩
   refine bQ (by kernel_rfl) (by kernel_rfl) ?_
   iterate 8
    first
    |(refine aP rfl 28 _ rfl _ rfl 28 _ _ _ (fun W hW=>hW.block HC.o) Tryz.underlying28 rfl (by kernel_rfl) ?_)
    |(with_reducible refine wpQuiet_step (fun K hK=>?_)
      go_simp
      first
      |(refine hK _ ?_;clear hK K)
      |(apply Exists.intro
        refine⟨fun W hW=>?_,hK _ ?_⟩
        first
      |(go_at_call 101;exact(HA.o W).mono (fun _ _ ⟨he,hw⟩=>⟨he,hw▸hW⟩))
      |(go_at_call 63;exact Calls.more hW (HW.o W))
        |(skip; (try go_simp);try rfl)
        clear hK K))
   refine wpQuiet_nil ?_
   intro W hW
   have HX:=hQQ hW
   clear hW
   go_wp2_with fail
   go_ret
   exact⟨rfl,HM.o.trans HX.o⟩
  ·have b2:=jo hf
   rw[show qo S k f=0 from if_neg (by omega)]
   go_enter Tryz.func93,Tryz.ntmps93
   go_wp2_with fail
   refine(oA _ _).mono ?_
   rintro e w1 ⟨rfl,rfl⟩
   rw[b1]
   go_wp2_with fail
   refine(wG k hk _).mono ?_
   rintro e w2 ⟨rfl,rfl⟩
   go_wp2_with fail
   refine(ji _ _ _ _).mono ?_
   rintro e w3 ⟨rfl,rfl⟩
   rw[b2]
   go_wp2_with fail
   go_ret
   exact⟨rfl,HM.o⟩
 ·have b1:=jo hc
  rw[show qo S c f=0 from if_neg (by omega)]
  go_enter Tryz.func93,Tryz.ntmps93
  go_wp2_with fail
  refine(oA _ _).mono ?_
  rintro e w1 ⟨rfl,rfl⟩
  rw[b1]
  go_wp2_with fail
  go_ret
  exact⟨rfl,HM.o⟩
theorem LK (u c:Int)(R:ic cp pg st ca bi S):
 Calls Tryz.prog 28 #[.agg (aJ wk cp pg st tr wt ck pr ca bi ba S),.int .i64 u,.int .i64 c] w (aQ w (.int .i64 (nh cp ca S u c))):=by
 obtain⟨r0,r1,r2,r3,r4,r5,r6,r7,r8,r9,r10,r11,r12,r13⟩:=R.all
 have HC:=hQQ (aW w (aJ wk cp pg st tr wt ck pr ca bi ba S) 28)
 have HM:Hq (ae w (w.alloc (.cells (aJ wk cp pg st tr wt ck pr ca bi ba S) 28))):=(ae.refl w).alloc _
 have g1:=R.cp0
 have g2:=R.cp1
 have g3:=R.ca0
 have g4:=R.ca1
 have x1:=bd HC.o (ae.refl _) (show(aJ wk cp pg st tr wt ck pr ca bi ba S)[1]?=some (.int .i64 cp) from rfl)
 have x8:=bd HC.o (ae.refl _) (show(aJ wk cp pg st tr wt ck pr ca bi ba S)[8]?=some (.int .i64 ca) from rfl)
 have q0:IntKind.i64.wrap (cp-1)=cp-1:=aB (by omega) (by omega)
 by_cases hu:0≤u∧u≤cp-1
 ·have b1:=kx hu.1 hu.2
  by_cases hc:0≤c∧c≤4
  ·have b2:=kx hc.1 hc.2
   rw[show nh cp ca S u c=dM (S 8) (S 9) ((u * 5+c) * (ca+1)) from if_pos (by omega)]
   have g5:=LE (a:=u * 5+c) (b:=ca+1) (A:=39) (B:=9) (by omega) (by omega) (by omega) (by omega)
   have q1:IntKind.i64.wrap (u * 5)=u * 5:=aB (by omega) (by omega)
   have q2:IntKind.i64.wrap (u * 5+c)=u * 5+c:=aB (by omega) (by omega)
   have q3:IntKind.i64.wrap (ca+1)=ca+1:=aB (by omega) (by omega)
   have q4:IntKind.i64.wrap ((u * 5+c) * (ca+1))=(u * 5+c) * (ca+1):=aB (by omega) (by omega)
   have HW:=hQQ (fun W=>n6 wk cp pg st tr wt ck pr ca bi ba S W 8 ((u * 5+c) * (ca+1)) (by omega) R)
   go_enter Tryz.func28,Tryz.ntmps28
   go_wp2_with fail
   refine(ji _ _ _ _).mono ?_
   rintro e w1 ⟨rfl,rfl⟩
   rw[b1]
   go_wp2_with fail
   refine(oA _ _).mono ?_
   rintro e w2 ⟨rfl,rfl⟩
   rw[b2]
   go_wp2_with (first|refine aM rfl rfl rfl HC.o (by kernel_rfl) ?_|refine aM rfl rfl rfl HC.o (by kernel_rfl) ?_)
   refine(HW.o _).mono ?_
   rintro e w3 ⟨rfl,h3⟩
   go_wp2_with fail
   go_ret
   exact⟨rfl,HM.o.trans h3⟩
  ·have b2:=jo hc
   rw[show nh cp ca S u c=0 from if_neg (by omega)]
   go_enter Tryz.func28,Tryz.ntmps28
   go_wp2_with fail
   refine(ji _ _ _ _).mono ?_
   rintro e w1 ⟨rfl,rfl⟩
   rw[b1]
   go_wp2_with fail
   refine(oA _ _).mono ?_
   rintro e w2 ⟨rfl,rfl⟩
   rw[b2]
   go_wp2_with fail
   go_ret
   exact⟨rfl,HM.o⟩
 ·have b1:=jo hu
  rw[show nh cp ca S u c=0 from if_neg (by omega)]
  go_enter Tryz.func28,Tryz.ntmps28
  go_wp2_with fail
  refine(ji _ _ _ _).mono ?_
  rintro e w1 ⟨rfl,rfl⟩
  rw[b1]
  go_wp2_with fail
  go_ret
  exact⟨rfl,HM.o⟩
theorem OG (c:Int)(R:ic cp pg st ca bi S):
 Calls Tryz.prog 29 #[.agg (aJ wk cp pg st tr wt ck pr ca bi ba S),.int .i64 c] w (aQ w (.int .i64 (yc bi S c))):=by
 obtain⟨r0,r1,r2,r3,r4,r5,r6,r7,r8,r9,r10,r11,r12,r13⟩:=R.all
 have HC:=hQQ (aW w (aJ wk cp pg st tr wt ck pr ca bi ba S) 28)
 have HM:Hq (ae w (w.alloc (.cells (aJ wk cp pg st tr wt ck pr ca bi ba S) 28))):=(ae.refl w).alloc _
 have g3:=R.bi0
 have g4:=R.bi1
 have x9:=bd HC.o (ae.refl _) (show(aJ wk cp pg st tr wt ck pr ca bi ba S)[9]?=some (.int .i64 bi) from rfl)
 by_cases hc:0≤c∧c≤4
 ·have b2:=kx hc.1 hc.2
  rw[show yc bi S c=dM (S 9) (S 10) (c * (bi+1)) from if_pos (by omega)]
  have g5:=LE (a:=c) (b:=bi+1) (A:=4) (B:=17) (by omega) (by omega) (by omega) (by omega)
  have q3:IntKind.i64.wrap (bi+1)=bi+1:=aB (by omega) (by omega)
  have q4:IntKind.i64.wrap (c * (bi+1))=c * (bi+1):=aB (by omega) (by omega)
  have HW:=hQQ (fun W=>n6 wk cp pg st tr wt ck pr ca bi ba S W 9 (c * (bi+1)) (by omega) R)
  go_enter Tryz.func29,Tryz.ntmps29
  go_wp2_with fail
  refine(oA _ _).mono ?_
  rintro e w2 ⟨rfl,rfl⟩
  rw[b2]
  go_wp2_with (first|refine aM rfl rfl rfl HC.o (by kernel_rfl) ?_|refine aM rfl rfl rfl HC.o (by kernel_rfl) ?_)
  refine(HW.o _).mono ?_
  rintro e w3 ⟨rfl,h3⟩
  go_wp2_with fail
  go_ret
  exact⟨rfl,HM.o.trans h3⟩
 ·have b2:=jo hc
  rw[show yc bi S c=0 from if_neg (by omega)]
  go_enter Tryz.func29,Tryz.ntmps29
  go_wp2_with fail
  refine(oA _ _).mono ?_
  rintro e w2 ⟨rfl,rfl⟩
  rw[b2]
  go_wp2_with fail
  go_ret
  exact⟨rfl,HM.o⟩
theorem NO (p:Int)(R:ic cp pg st ca bi S):
 Calls Tryz.prog 143 #[.agg (aJ wk cp pg st tr wt ck pr ca bi ba S),.int .i64 p] w (aQ w (.int .i64 (sy pg S p))):=by
 obtain⟨r0,r1,r2,r3,r4,r5,r6,r7,r8,r9,r10,r11,r12,r13⟩:=R.all
 have HC:=hQQ (aW w (aJ wk cp pg st tr wt ck pr ca bi ba S) 28)
 have HM:Hq (ae w (w.alloc (.cells (aJ wk cp pg st tr wt ck pr ca bi ba S) 28))):=(ae.refl w).alloc _
 have g3:=R.pg0
 have g4:=R.pg1
 have x2:=bd HC.o (ae.refl _) (show(aJ wk cp pg st tr wt ck pr ca bi ba S)[2]?=some (.int .i64 pg) from rfl)
 have q0:IntKind.i64.wrap (pg-1)=pg-1:=aB (by omega) (by omega)
 by_cases hc:0≤p∧p≤pg-1
 ·have b2:=kx hc.1 hc.2
  rw[show sy pg S p=dM (S 11) (S 12) (p * 32) from if_pos (by omega)]
  have q4:IntKind.i64.wrap (p * 32)=p * 32:=aB (by omega) (by omega)
  have HW:=hQQ (fun W=>n6 wk cp pg st tr wt ck pr ca bi ba S W 11 (p * 32) (by omega) R)
  go_enter Tryz.func143,Tryz.ntmps143
  go_wp2_with fail
  refine(ji _ _ _ _).mono ?_
  rintro e w2 ⟨rfl,rfl⟩
  rw[b2]
  go_wp2_with (first|refine aM rfl rfl rfl HC.o (by kernel_rfl) ?_|refine aM rfl rfl rfl HC.o (by kernel_rfl) ?_)
  refine(HW.o _).mono ?_
  rintro e w3 ⟨rfl,h3⟩
  go_wp2_with fail
  go_ret
  exact⟨rfl,HM.o.trans h3⟩
 ·have b2:=jo hc
  rw[show sy pg S p=0 from if_neg (by omega)]
  go_enter Tryz.func143,Tryz.ntmps143
  go_wp2_with fail
  refine(ji _ _ _ _).mono ?_
  rintro e w2 ⟨rfl,rfl⟩
  rw[b2]
  go_wp2_with fail
  go_ret
  exact⟨rfl,HM.o⟩
theorem DS (a:Int)(R:ic cp pg st ca bi S)(c0:S 11≤a)(c1:a<S 12):
 Calls Tryz.prog 79 #[.agg (aJ wk cp pg st tr wt ck pr ca bi ba S),.int .i64 a] w (aQ w (.tuple #[.int .i64 ((a-S 11) / 32),.int .i64 ((a-S 11) % 32),.bool true])):=by
 obtain⟨r0,r1,r2,r3,r4,r5,r6,r7,r8,r9,r10,r11,r12,r13⟩:=R.all
 have HC:=hQQ (aW w (aJ wk cp pg st tr wt ck pr ca bi ba S) 28)
 have HM:Hq (ae w (w.alloc (.cells (aJ wk cp pg st tr wt ck pr ca bi ba S) 28))):=(ae.refl w).alloc _
 have HU:=hQQ (fun W=>FZ wk cp pg st tr wt ck pr ca bi ba S W)
 have HWd:=hQQ (fun W=>Ao wk cp pg st tr wt ck pr ca bi ba S W)
 have d0:decide (a<S 11)=false:=by simp;omega
 have d1:decide (S 12≤a)=false:=by simp;omega
 have q1:IntKind.i64.wrap (a-S 11)=a-S 11:=aB (by omega) (by omega)
 have q2:IntKind.i64.wrap ((a-S 11).tdiv 32)=(a-S 11) / 32:=by rw[Int.tdiv_eq_ediv_of_nonneg (by omega)];exact aB (by omega) (by omega)
 have q3:IntKind.i64.wrap ((a-S 11).tmod 32)=(a-S 11) % 32:=by rw[Int.tmod_eq_emod_of_nonneg (by omega)];exact aB (by omega) (by omega)
 have q4:(a-S 11).tmod 32=(a-S 11) % 32:=Int.tmod_eq_emod_of_nonneg (by omega)
 go_enter Tryz.func79,Tryz.ntmps79
 go_wp2_with (first|refine aM rfl rfl rfl HC.o (by kernel_rfl) ?_|refine aM rfl rfl rfl HC.o (by kernel_rfl) ?_)
 refine(HU.o _).mono ?_
 rintro e w1 ⟨rfl,h1⟩
 have H1:=hQQ (HM.o.trans h1)
 have HC:=hQQ (h1.block HC.o)
 clear h1
 go_wp2_with (first|refine aM rfl rfl rfl HC.o (by kernel_rfl) ?_|refine aM rfl rfl rfl HC.o (by kernel_rfl) ?_)
 refine(HWd.o _).mono ?_
 rintro e w2 ⟨rfl,h2⟩
 have H2:=hQQ (H1.o.trans h2)
 have HC:=hQQ (h2.block HC.o)
 clear h2
 go_wp2_with (first|refine aM rfl rfl rfl HC.o (by kernel_rfl) ?_|refine aM rfl rfl rfl HC.o (by kernel_rfl) ?_)
 refine(HU.o _).mono ?_
 rintro e w3 ⟨rfl,h3⟩
 go_wp2_with fail
 go_ret3
 exact⟨rfl,H2.o.trans h3⟩
theorem Ap (a:Int)(R:ic cp pg st ca bi S)(c:a<S 11∨S 12≤a):
 Calls Tryz.prog 79 #[.agg (aJ wk cp pg st tr wt ck pr ca bi ba S),.int .i64 a] w (aQ w (.tuple #[.int .i64 0,.int .i64 0,.bool false])):=by
 obtain⟨r0,r1,r2,r3,r4,r5,r6,r7,r8,r9,r10,r11,r12,r13⟩:=R.all
 have HC:=hQQ (aW w (aJ wk cp pg st tr wt ck pr ca bi ba S) 28)
 have HM:Hq (ae w (w.alloc (.cells (aJ wk cp pg st tr wt ck pr ca bi ba S) 28))):=(ae.refl w).alloc _
 have HU:=hQQ (fun W=>FZ wk cp pg st tr wt ck pr ca bi ba S W)
 have HWd:=hQQ (fun W=>Ao wk cp pg st tr wt ck pr ca bi ba S W)
 by_cases c0:a<S 11
 ·have d0:decide (a<S 11)=true:=by simp;omega
  go_enter Tryz.func79,Tryz.ntmps79
  go_wp2_with (first|refine aM rfl rfl rfl HC.o (by kernel_rfl) ?_|refine aM rfl rfl rfl HC.o (by kernel_rfl) ?_)
  refine(HU.o _).mono ?_
  rintro e w1 ⟨rfl,h1⟩
  go_wp2_with fail
  go_ret3
  exact⟨rfl,HM.o.trans h1⟩
 ·have d0:decide (a<S 11)=false:=by simp;omega
  have d1:decide (S 12≤a)=true:=by simp;omega
  go_enter Tryz.func79,Tryz.ntmps79
  go_wp2_with (first|refine aM rfl rfl rfl HC.o (by kernel_rfl) ?_|refine aM rfl rfl rfl HC.o (by kernel_rfl) ?_)
  refine(HU.o _).mono ?_
  rintro e w1 ⟨rfl,h1⟩
  have H1:=hQQ (HM.o.trans h1)
  have HC:=hQQ (h1.block HC.o)
  clear h1
  go_wp2_with (first|refine aM rfl rfl rfl HC.o (by kernel_rfl) ?_|refine aM rfl rfl rfl HC.o (by kernel_rfl) ?_)
  refine(HWd.o _).mono ?_
  rintro e w2 ⟨rfl,h2⟩
  go_wp2_with fail
  go_ret3
  exact⟨rfl,H1.o.trans h2⟩
section
variable {P:Program}{ops:Array Oper}{md:Region.Mode}{C:World→Prop}
def DT (P:Program)(md:Region.Mode)(ops:Array Oper)(C:World→Prop)(n:Nat)(L:Array Bool→Act→Prop):Nat→Array Bool→Act→Prop
 | 0,d,a=>L d a
 |f+1,d,a=>Region.ready md ops d≠ []∧∀i∈Region.ready md ops d,i<n∧qOp P ops C i (DT P md ops C n L f (d.setIfInBounds i true)) a
theorem yd {n g:Nat}{L:Array Bool→Act→Prop}{Q:Exit→Act→World→Prop}(hL:∀d a w,C w→L d a→wpAny P md ops Q g d a w)(f:Nat):
 ∀(d:Array Bool) (a:Act) (w:World),C w→DT P md ops C n L f d a→wpAny P md ops Q (f+g) d a w:=by
 induction f with
 |zero=>intro d a w hw h;rw[Nat.zero_add];exact hL _ _ _ hw h
 |succ f ih =>
  intro d a w hw h
  rw[Nat.add_right_comm]
  exact⟨fun q=>absurd q h.1,fun i hi=>wpOp_of_qOp hw (fun a' w' hw' k=>ih _ a' w' hw' k) (h.2 i hi).2⟩
theorem sB {n i:Nat}{o:Oper}{v:Value}{L:Array Bool→Act→Prop}(hi:ops[i]?=some o)(hsel:∀(j:Nat)(o:Oper) cs b,ops[j]?=some o→o.op≠ .select cs b)
 (hwait:∀d,HeadInv md ops n d→d.getD i true=false→∀t,n≤t→t∉Region.ready md ops d) (hin:i<n)
 (hend:∀d a,L d a→∀j∈Region.ready md ops d,n≤j) (f:Nat):
 ∀(d:Array Bool) (a:Act),HeadInv md ops n d →
  (∀j p,ops[j]?=some p→j≠i→d.getD j true=false→(∀e∈p.after,Region.binds md e=true→e.on≠i)→o.apart ops p=true) →
  i∈Region.ready md ops d→YieldsIn P ops C o v a →
  DT P md ops C n L f (d.setIfInBounds i true) (a.put o.dst v)→DT P md ops C n L (f+1) d a:=by
 induction f with
 |zero =>
  intro d a inv _ hr hy H
  refine⟨fun q=>(by rw[q] at hr;cases hr),fun j hj=>?_⟩
  have hlt:j<n:=Nat.lt_of_not_le fun q=>hwait d inv (mem_ready.1 hr).1 j q hj
  refine⟨hlt,?_⟩
  by_cases e:j=i
  ·subst e;exact hy.qOp hi H
  ·exact absurd (hend _ _ H j (ready_mono hj e)) (by omega)
 |succ f ih =>
  intro d a inv hfree hr hy H
  have hun:=(mem_ready.1 hr).1
  refine⟨fun q=>(by rw[q] at hr;cases hr),fun j hj=>?_⟩
  have hlt:j<n:=Nat.lt_of_not_le fun q=>hwait d inv hun j q hj
  refine⟨hlt,?_⟩
  by_cases e:j=i
  ·subst e;exact hy.qOp hi H
  ·obtain⟨hjun,p,hp,hall⟩:=mem_ready.1 hj
   have hno:∀e∈p.after,Region.binds md e=true→e.on≠i:=fun e he hb q=>by
    have:=hall e he hb
    rw[q,getD_both hun] at this
    cases this
   have k:=qOp_put hp (hfree j p hp e hjun hno) (fun cs b=>hsel i o cs b hi) (fun cs b=>hsel j p cs b hp) hy (H.2 j (ready_mono hj e)).2
   refine qOp_mono (fun a' z=>ih (d.setIfInBounds j true) a' (inv.set hj hlt) (fun x q hx hxi hun' hno'=>hfree x q hx hxi ?_ hno') (ready_mono hr (Ne.symm e)) z.1 ?_) k
   ·by_cases y:j=x
    ·subst y;exact hjun
    ·rw[getD_set_ne true y] at hun';exact hun'
   ·rw[Array.setIfInBounds_comm _ _ e];exact z.2
theorem Ga {n g k0:Nat}{Z:Act→Prop}(hsel:Region.noSelect ops=true)(hwait:∀i,k0≤i→i<n→∀d,HeadInv md ops n d→d.getD i true=false→∀t,n≤t→t∉Region.ready md ops d)(l:List Oper):
 ∀(k:Nat) (d:Array Bool) (a:Act),k0≤k→(∀j,j<l.length→l[j]?=ops[k+j]?)→k+l.length=n→HeadInv md ops n d →
 Region.lexHead md ops g l.length k d=true→wpQuiet P ops C Z l a →
 DT P md ops C n (fun d' a'=>Region.seqB md ops g n d'=true∧Z a') l.length d a:=by
 induction l with
 |nil =>
  intro k d a _ _ hk _ hB h
  have:k=n:=by simpa using hk
  subst this
  exact⟨by simpa [Region.lexHead] using hB,h⟩
 |cons o l ih =>
  intro k d a hk0 hl hk inv hB h
  have h0:ops[k]?=some o:=by simpa using (hl 0 (by simp)).symm
  simp only[List.length_cons,Region.lexHead,Bool.and_eq_true] at hB hk
  have hr:k∈Region.ready md ops d:=by simpa using hB.1.1
  have hst:qOp P ops C k (wpQuiet P ops C Z l) a:=by unfold qOp;simp only[h0];exact h
  obtain⟨v,hy,hK⟩:=yieldsIn_of_qOp h0 hst
  exact sB h0 (Region.noSelect_spec hsel) (hwait k hk0 (by omega)) (by omega) (fun _ _ z=>seqB_ready z.1) l.length d a inv (Region.free_spec h0 hB.1.2) hr hy
   (ih (k+1) _ _ (by omega) (fun j hj=>by have:=hl (j+1) (by simp;omega);simpa [Nat.add_assoc,Nat.add_comm 1 j] using this) (by omega) (inv.set hr (by omega)) hB.2 hK)
end
theorem lY {P:Program}{C:World→Prop}{id:Nat}{Q:Exit→Act→World→Prop}{a:Act}{w:World}{l:List Oper}(n:Nat)(hm:P.follows .mixedOrders=true)(hB:Region.lexTailB .any l.toArray n=true)
 (hC:C { w with drawn:=w.drawn+1 }) (h:wpQuiet P l.toArray C (fun a'=>∀w',C w'→wpList P l.toArray Q (l.drop n) a' w') (l.take n) a):(Code.region id l.toArray true).wp P Q a w:=by
 simp only[Region.lexTailB,Bool.and_eq_true,decide_eq_true_eq] at hB
 obtain⟨⟨⟨⟨hsel,hn⟩,hs⟩,hc⟩,hlex⟩:=hB
 have hn':n<l.length:=by simpa using hn
 have ht:(l.take n).length=n:=by simp;omega
 have hd:(l.drop n).length=l.toArray.size-n:=by simp
 have inv:HeadInv .any l.toArray n (Array.replicate l.toArray.size false):=
  ⟨by simp,fun j p _ q=>(by rw[getD_replicate_false] at q;cases q),fun t _ q=>getD_in (by simpa using q) (getD_replicate_false _ _)⟩
 have H:=Ga (md:=.any) (g:=l.toArray.size-n) (k0:=0) hsel (fun i _ hi d inv hun t ht=>tail_waits hs hc hn inv _ i rfl hi hun t ht) (l.take n) 0 _ a (by omega) (fun j hj=>by
  have:j<n:=by rw[ht] at hj;exact hj
  simp[this]) (by simpa using ht) inv (by rw[ht];exact hlex) h
 have K:=yd (Q:=Q) (g:=l.toArray.size-n) (fun d a' w' hw z=>by
  have:=wpAny_of_seq (md:=.any) (Q':=Q) (l.drop n) n d a' w' (fun j=>by simp[List.getElem?_drop]) (by rw[hd];exact z.1) (z.2 w' hw)
  rwa [hd] at this) _ _ _ _ hC H
 rw[ht,show n+(l.toArray.size-n)=l.toArray.size by omega] at K
 exact wp_region_any hm K
def ye (md:Region.Mode)(ops:Array Oper)(k n:Nat):Bool :=
 (List.range n).all fun i=>decide (i<k) ||(List.range (n+1)).any fun j=>decide (i<j) && Region.waitsFor md ops j i
theorem bI {P:Program}{id:Nat}{Q:Exit→Act→World→Prop}{a:Act}{w:World}{l:List Oper}(n:Nat)(hm:P.follows .mixedOrders=true)(hB:Region.lexTailB .any l.toArray n=true)
 (h:wpQuiet P l.toArray (ae w) (fun a'=>∀w',ae w w'→wpList P l.toArray Q (l.drop n) a' w') (l.take n) a):(Code.region id l.toArray true).wp P Q a w :=
 lY (C:=ae w) n hm hB ((ae.refl w).drewN 1) h
def ni (cp pg st ca bi:Int):Array Value:= #[.int .i64 st,.int .i64 (aL pg),.int .i64 pg,.int .i64 pg,.int .i64 pg,.int .i64 pg,.int .i64 pg,.int .i64 62,.int .i64 (cp * 5 * (ca+1)),.int .i64 (5 * (bi+1)),.int .i64 (pg * 32),.int .i64 (pg * 32)]
variable (wk cp pg st tr wt ck pr ca bi ba:Int)(w:World)
theorem Gb (R:cZ wk cp pg st tr wt ck pr ca bi ba):Calls Tryz.prog 70 #[.agg #[.int .i64 wk,.int .i64 cp,.int .i64 pg,.int .i64 st,.int .i64 tr,.int .i64 wt,.int .i64 ck,.int .i64 pr,.int .i64 ca,.int .i64 bi,.int .i64 ba]] w (aQ w (.agg (ni cp pg st ca bi))):=by
 have g1:=R.cp1
 have g2:=R.cp2
 have g3:=R.ca1
 have g4:=R.ca2
 have g5:=R.bi1
 have g6:=R.bi2
 have g7:=R.pg1
 have g8:=R.pg2
 have g9:=LE (a:=cp * 5) (b:=ca+1) (A:=40) (B:=9) (by omega) (by omega) (by omega) (by omega)
 have q0:IntKind.i64.wrap (cp * 5)=cp * 5:=aB (by omega) (by omega)
 have q1:IntKind.i64.wrap (ca+1)=ca+1:=aB (by omega) (by omega)
 have q2:IntKind.i64.wrap (cp * 5 * (ca+1))=cp * 5 * (ca+1):=aB (by omega) (by omega)
 have q3:IntKind.i64.wrap (bi+1)=bi+1:=aB (by omega) (by omega)
 have q4:IntKind.i64.wrap (5 * (bi+1))=5 * (bi+1):=aB (by omega) (by omega)
 have q5:IntKind.i64.wrap (pg * 32)=pg * 32:=aB (by omega) (by omega)
 have HH:Hq (∀W,Calls Tryz.prog 101 #[.int .i64 5] W fun e w'=>e=.returned (.int .i64 62)∧w'=W):=fun W=>qZ 5 (by omega) W
 have HK:=hQQ (fun W=>Jw wk cp pg st tr wt ck pr ca bi ba (by omega) g8 W)
 have HC0:=hQQ (aW w #[.int .i64 wk,.int .i64 cp,.int .i64 pg,.int .i64 st,.int .i64 tr,.int .i64 wt,.int .i64 ck,.int .i64 pr,.int .i64 ca,.int .i64 bi,.int .i64 ba] 23)
 have HC:Hq (((w.alloc (.cells #[.int .i64 wk,.int .i64 cp,.int .i64 pg,.int .i64 st,.int .i64 tr,.int .i64 wt,.int .i64 ck,.int .i64 pr,.int .i64 ca,.int .i64 bi,.int .i64 ba] 23)).alloc (.cells #[.int .i64 0,.int .i64 0,.int .i64 0,.int .i64 0,.int .i64 0,.int .i64 0,.int .i64 0,.int .i64 0,.int .i64 0,.int .i64 0,.int .i64 0,.int .i64 0] 122)).heap[w.heap.size]?=some (.cells #[.int .i64 wk,.int .i64 cp,.int .i64 pg,.int .i64 st,.int .i64 tr,.int .i64 wt,.int .i64 ck,.int .i64 pr,.int .i64 ca,.int .i64 bi,.int .i64 ba] 23 (0,0))):=((ae.refl _).alloc _).block HC0.o
 have HB:Hq (((w.alloc (.cells #[.int .i64 wk,.int .i64 cp,.int .i64 pg,.int .i64 st,.int .i64 tr,.int .i64 wt,.int .i64 ck,.int .i64 pr,.int .i64 ca,.int .i64 bi,.int .i64 ba] 23)).alloc (.cells #[.int .i64 0,.int .i64 0,.int .i64 0,.int .i64 0,.int .i64 0,.int .i64 0,.int .i64 0,.int .i64 0,.int .i64 0,.int .i64 0,.int .i64 0,.int .i64 0] 122)).heap[w.heap.size+1]?=some (.cells #[.int .i64 0,.int .i64 0,.int .i64 0,.int .i64 0,.int .i64 0,.int .i64 0,.int .i64 0,.int .i64 0,.int .i64 0,.int .i64 0,.int .i64 0,.int .i64 0] 122 (0,0))):=by
  have:=aW (w.alloc (.cells #[.int .i64 wk,.int .i64 cp,.int .i64 pg,.int .i64 st,.int .i64 tr,.int .i64 wt,.int .i64 ck,.int .i64 pr,.int .i64 ca,.int .i64 bi,.int .i64 ba] 23)) #[.int .i64 0,.int .i64 0,.int .i64 0,.int .i64 0,.int .i64 0,.int .i64 0,.int .i64 0,.int .i64 0,.int .i64 0,.int .i64 0,.int .i64 0,.int .i64 0] 122
  rwa [World.size_alloc] at this
 have HM:Hq (ae w ((w.alloc (.cells #[.int .i64 wk,.int .i64 cp,.int .i64 pg,.int .i64 st,.int .i64 tr,.int .i64 wt,.int .i64 ck,.int .i64 pr,.int .i64 ca,.int .i64 bi,.int .i64 ba] 23)).alloc (.cells #[.int .i64 0,.int .i64 0,.int .i64 0,.int .i64 0,.int .i64 0,.int .i64 0,.int .i64 0,.int .i64 0,.int .i64 0,.int .i64 0,.int .i64 0,.int .i64 0] 122))):=((ae.refl w).alloc _).alloc _
 clear R g9
 go_enter Tryz.func70,Tryz.ntmps70
 go_wp2_with fail
 generalize (w.alloc (.cells #[.int .i64 wk,.int .i64 cp,.int .i64 pg,.int .i64 st,.int .i64 tr,.int .i64 wt,.int .i64 ck,.int .i64 pr,.int .i64 ca,.int .i64 bi,.int .i64 ba] 23)).alloc (.cells #[.int .i64 0,.int .i64 0,.int .i64 0,.int .i64 0,.int .i64 0,.int .i64 0,.int .i64 0,.int .i64 0,.int .i64 0,.int .i64 0,.int .i64 0,.int .i64 0] 122)=W0 at *
 have hne:∃W,ae W0 W:=⟨W0,ae.refl _⟩
 refine bI 33 (by kernel_rfl) (by kernel_rfl) ?_
 simp only[List.take_succ_cons,List.take_zero,List.drop_succ_cons,List.drop_zero]
 iterate 33
  first
  |(refine aP rfl 23 _ rfl _ rfl 23 _ _ _ (fun W hW=>hW.block HC.o) Tryz.underlying23 rfl (by kernel_rfl) ?_)
  |(with_reducible refine wpQuiet_step (fun K hK=>?_)
    go_simp
    first
    |(refine hK _ ?_;clear hK K)
    |(apply Exists.intro
      refine⟨fun W hW=>?_,hK _ ?_⟩
      first
      |(go_at_call 101;exact(HH.o W).mono (fun _ _ ⟨he,hw⟩=>⟨he,hw▸hW⟩))
      |(go_at_call 100;exact Calls.more hW (HK.o W))
      |(have x1:=bd HC.o hW (show(#[.int .i64 wk,.int .i64 cp,.int .i64 pg,.int .i64 st,.int .i64 tr,.int .i64 wt,.int .i64 ck,.int .i64 pr,.int .i64 ca,.int .i64 bi,.int .i64 ba]:Array Value)[1]?=some (.int .i64 cp) from rfl);have x2:=bd HC.o hW (show(#[.int .i64 wk,.int .i64 cp,.int .i64 pg,.int .i64 st,.int .i64 tr,.int .i64 wt,.int .i64 ck,.int .i64 pr,.int .i64 ca,.int .i64 bi,.int .i64 ba]:Array Value)[2]?=some (.int .i64 pg) from rfl);have x3:=bd HC.o hW (show(#[.int .i64 wk,.int .i64 cp,.int .i64 pg,.int .i64 st,.int .i64 tr,.int .i64 wt,.int .i64 ck,.int .i64 pr,.int .i64 ca,.int .i64 bi,.int .i64 ba]:Array Value)[3]?=some (.int .i64 st) from rfl);have x8:=bd HC.o hW (show(#[.int .i64 wk,.int .i64 cp,.int .i64 pg,.int .i64 st,.int .i64 tr,.int .i64 wt,.int .i64 ck,.int .i64 pr,.int .i64 ca,.int .i64 bi,.int .i64 ba]:Array Value)[8]?=some (.int .i64 ca) from rfl);have x9:=bd HC.o hW (show(#[.int .i64 wk,.int .i64 cp,.int .i64 pg,.int .i64 st,.int .i64 tr,.int .i64 wt,.int .i64 ck,.int .i64 pr,.int .i64 ca,.int .i64 bi,.int .i64 ba]:Array Value)[9]?=some (.int .i64 bi) from rfl); (try go_simp);try rfl)
      clear hK K))
 refine wpQuiet_nil ?_
 intro W hW
 have HX:=hQQ hW
 clear hW
 refine wpList_store_row rfl 122 _ _ rfl _ _ rfl rfl 122 _ (HX.o.block HB.o) (by kernel_rfl) rfl (by simp[Value.oneCell']) ?_
 have HR:=hQQ (setRow_heap W _ _ (ni cp pg st ca bi) _ _ (HX.o.block HB.o))
 have HY:Hq (ae w (W.setRow (w.heap.size+1) (ni cp pg st ca bi))):=(HM.o.trans HX.o).setRow _ _ (by omega)
 go_wp2_with fail
 refine bodyPost_ret (v:=.agg (ni cp pg st ca bi)) (results_cell_row Tryz.results70 _ _ _ 122 _ (0,0) _ rfl HR.o Tryz.underlying122 rfl (by kernel_rfl)) rfl ⟨rfl,?_⟩
 exact HY.o
theorem LM :
 Calls Tryz.prog 69 #[.agg #[.int .i64 wk,.int .i64 cp,.int .i64 pg,.int .i64 st,.int .i64 tr,.int .i64 wt,.int .i64 ck,.int .i64 pr,.int .i64 ca,.int .i64 bi,.int .i64 ba]] w (aQ w (.int .i64 (if wF wk cp pg st tr wt ck pr ca bi ba=true then 0 else 2))):=by
 go_enter Tryz.func69,Tryz.ntmps69
 go_wp2_with (go_at_call 61;refine(ji _ _ _ _).mono ?_;rintro e w1 ⟨rfl,rfl⟩)
 all_goals go_ret
 all_goals exact⟨by simp_all [wF],(ae.refl _).alloc _⟩
def aE (cp pg st ca bi:Int):Nat→Int
 | 0=>3
 | 1=>aY st
 | 2=>aY st+aL pg
 | 3=>aY st+aL pg+1 * pg
 | 4=>aY st+aL pg+2 * pg
 | 5=>aY st+aL pg+3 * pg
 | 6=>aY st+aL pg+4 * pg
 | 7=>a8 st pg
 | 8=>du st pg
 | 9=>fX cp pg st ca
 | 10=>eK cp pg st ca bi
 | 11=>eT cp pg st ca bi
 | _=>eY cp pg st ca bi
def lS (cp pg st ca bi:Int)(k:Nat):Int:=if k=11 then eK cp pg st ca bi+pg * 32 else aE cp pg st ca bi k
def yg (cp pg st ca bi:Int):Nat→Int
 | 0=>st
 | 1=>aL pg
 | 2=>pg
 | 3=>pg
 | 4=>pg
 | 5=>pg
 | 6=>pg
 | 7=>62
 | 8=>cp * 5 * (ca+1)
 | 9=>5 * (bi+1)
 | _=>pg * 32
def wH (S:Nat→Int)(k p:Nat):Int:=if p<k then S p else 0
theorem Aq {k:Nat}(h:k<12):k=0∨k=1∨k=2∨k=3∨k=4∨k=5∨k=6∨k=7∨k=8∨k=9∨k=10∨k=11:=by omega
theorem Gc {k:Nat}(h:k≤12):k=0∨k=1∨k=2∨k=3∨k=4∨k=5∨k=6∨k=7∨k=8∨k=9∨k=10∨k=11∨k=12:=by omega
theorem Ar {k:Nat}(h:k<12):(ni cp pg st ca bi)[k]?=some (.int .i64 (yg cp pg st ca bi k)):=by
 rcases Aq h with rfl|rfl|rfl|rfl|rfl|rfl|rfl|rfl|rfl|rfl|rfl|rfl<;>rfl
theorem OH (a b:Int):a * 5 * b=5 * a * b:=by rw[Int.mul_comm a 5]
theorem uK {k:Nat}(h:k<11):aE cp pg st ca bi k=lS cp pg st ca bi k:=(if_neg (by omega)).symm
theorem DU {k:Nat}(h:k<12):aE cp pg st ca bi k+yg cp pg st ca bi k=lS cp pg st ca bi (k+1):=by
 rcases Aq h with rfl|rfl|rfl|rfl|rfl|rfl|rfl|rfl|rfl|rfl|rfl|rfl <;>
  simp only[aE,yg,lS,aY,a8,du,fX,eK,eY,OH]<;>(try simp)<;>(try omega)
theorem wI:(lS cp pg st ca bi 11+127) / 128 * 128=aE cp pg st ca bi 11:=by
 simp only[lS,aE,eT]
 rw[Int.mul_comm pg 32];rfl
theorem Jz {S:Nat→Int}{k:Nat}(h:k≤12):(aJ wk cp pg st tr wt ck pr ca bi ba (wH S k)).setIfInBounds (11+k) (.int .i64 (S k))=aJ wk cp pg st tr wt ck pr ca bi ba (wH S (k+1)):=by
 rcases Gc h with rfl|rfl|rfl|rfl|rfl|rfl|rfl|rfl|rfl|rfl|rfl|rfl|rfl<;>rfl
theorem Gd (S:Nat→Int): #[.int .i64 wk,.int .i64 cp,.int .i64 pg,.int .i64 st,.int .i64 tr,.int .i64 wt,.int .i64 ck,.int .i64 pr,.int .i64 ca,.int .i64 bi,.int .i64 ba,.int .i64 0,.int .i64 0,.int .i64 0,.int .i64 0,.int .i64 0,.int .i64 0,.int .i64 0,.int .i64 0,.int .i64 0,.int .i64 0,.int .i64 0,.int .i64 0,.int .i64 0]=aJ wk cp pg st tr wt ck pr ca bi ba (wH S 0):=rfl
section
variable {wk cp pg st tr wt ck pr ca bi ba}
theorem pi (R:cZ wk cp pg st tr wt ck pr ca bi ba){k:Nat}(h:k≤12):0≤aE cp pg st ca bi k∧aE cp pg st ca bi k≤18432:=by
 have b1:=su R;have b2:=ph R;have b3:=wE R;have b4:=rR R;have b5:=CH R;have b6:=sw R;have b7:=nZ R;have b8:=Am R
 have b9:=R.pg1;have b10:=R.pg2
 have hh:a8 st pg=aY st+aL pg+5 * pg:=rfl
 rcases Gc h with rfl|rfl|rfl|rfl|rfl|rfl|rfl|rfl|rfl|rfl|rfl|rfl|rfl<;>simp only[aE]<;>omega
theorem Ge (R:cZ wk cp pg st tr wt ck pr ca bi ba){k:Nat}(h:k≤12):0≤lS cp pg st ca bi k∧lS cp pg st ca bi k≤18432:=by
 unfold lS
 have b6:=sw R;have b9:=R.pg1;have b10:=R.pg2
 split
 ·omega
 ·exact pi R h
theorem c8 (R:cZ wk cp pg st tr wt ck pr ca bi ba):ic cp pg st ca bi (aE cp pg st ca bi):= {
 lo:=(pi R (by omega)).1
 up:=by
  intro p hp
  have b1:=su R;have b2:=ph R;have b3:=wE R;have b4:=rR R;have b5:=CH R;have b6:=sw R;have b7:=nZ R;have b8:=Am R
  have b9:=R.pg1;have b10:=R.pg2
  have b11:=qn R;have b12:=R.bi1
  have hh:a8 st pg=aY st+aL pg+5 * pg:=rfl
  have hc:du st pg=a8 st pg+62:=rfl
  have hb:fX cp pg st ca=du st pg+5 * cp * (ca+1):=rfl
  have hl:eK cp pg st ca bi=fX cp pg st ca+5 * (bi+1):=rfl
  have hw:eY cp pg st ca bi=eT cp pg st ca bi+32 * pg:=rfl
  rcases Aq hp with rfl|rfl|rfl|rfl|rfl|rfl|rfl|rfl|rfl|rfl|rfl|rfl<;>simp only[aE]<;>omega
 hi:=by have:=(pi R (k:=12) (by omega)).2;omega
 cp0:=by have:=R.cp1;omega
 cp1:=R.cp2
 pg0:=by have:=R.pg1;omega
 pg1:=R.pg2
 st0:=by have:=R.st1;omega
 st1:=R.st2
 ca0:=R.ca1
 ca1:=R.ca2
 bi0:=R.bi1
 bi1:=R.bi2
 empty:=fun q=>by have:=R.st1;omega }
end
end Go.Proofs.YtddmeghbmdfgeaaGreatDoor
