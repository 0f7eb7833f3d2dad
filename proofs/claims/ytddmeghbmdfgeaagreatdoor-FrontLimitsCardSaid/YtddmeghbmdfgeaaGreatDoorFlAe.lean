/-
  Rows of pairs that a call has made for itself: how they are kept and read, what append makes of them, and the statements' own comparison of two of them.
-/
import Derived.Test.YtddmeghbmdfgeaaGreatDoorFlAd
import Derived.Test.YtddmeghbmdfgeaaGreatDoorChecked
import Derived.Deep.AppendLies
import Derived.WalkSpells
import Derived.Handy
import Derived.Deep.DeepMust
import Derived.Recover
import Derived.RangeFuncBox
import Derived.RangeFuncLeaves
import Derived.RangeFuncCalls
import Derived.Shelf.Abstract
import Derived.OwnWalkIn
import Derived.TacticsInMore
import Derived.LoopNIn
import Derived.LoopIn
import Derived.Carry
import Derived.RangeFuncNested
import Derived.Maps.OwnIn
import Derived.Test.YtddmeghbmdfgeaaGreatDoorRows
import Derived.Test.YtddmeghbmdfgeaaGreatDoorFlAa
import Derived.WalkKit
import Derived.WalkLawsBesides
import Derived.Outline
import Derived.Lib.Hide
import Derived.Shelf.SlicesG.Clone
set_option maxRecDepth 100000
set_option maxHeartbeats 8000000
set_option linter.unusedVariables false
set_option linter.unusedSimpArgs false
set_option linter.unusedSectionVars false
namespace Go.Proofs.YtddmeghbmdfgeaaGreatDoor
open Go.RowKit Go.Sort Go.Maps
theorem iA {S:Nat→Prop}{wa w w':World}{v:Value}{e:TypeId}{s n:Nat}{xs:List Value}(hW:Turned S wa w)(h:w.ownsRow wa.heap.size e s v n xs)(g:w.grownBy w' v.ownBlock):Turned S wa w' :=
 ⟨g.os.trans hW.os,g.tape.trans hW.tape,g.output.trans hW.output,Nat.le_trans hW.size g.size,fun k hk hs=>by
  rw[g.block k (Nat.lt_of_lt_of_le hk hW.size) (by
   rcases h.2 with⟨rfl,_⟩|⟨b,cap,cur,rfl,hb,_⟩
   ·simp[Value.ownBlock]
   ·simp only[Value.ownBlock,ne_eq,Option.some.injEq];omega)]
  exact Turned.block hW k hk hs⟩
theorem kD {w w':World}{base:Nat}{e:TypeId}{s n:Nat}{v:Value}{xs:List Value}(h:w.ownsRow base e s v n xs){S:Nat→Prop}(hW:Turned S w w')(hs:∀k,base≤k→¬S k):w'.ownsRow base e s v n xs:=by
 refine⟨h.1,?_⟩
 rcases h.2 with q|⟨g,cap,cur,h1,h2,h3,h4⟩
 ·exact .inl q
 ·exact .inr ⟨g,cap,cur,h1,h2,by rw[Turned.block hW g (ac h3) (hs g h2)];exact h3,h4⟩
theorem nH {w:World}{base base':Nat}{e:TypeId}{s n:Nat}{v:Value}{xs:List Value}(h:w.ownsRow base e s v n xs)(hb:base'≤base):w.ownsRow base' e s v n xs:=by
 refine⟨h.1,?_⟩
 rcases h.2 with q|⟨g,cap,cur,h1,h2,h3,h4⟩
 ·exact .inl q
 ·exact .inr ⟨g,cap,cur,h1,by omega,h3,h4⟩
def dX (ps:List KV):List Value:=ps.flatMap fun p=> [.int .i64 p.1,.int .i64 p.2]
theorem ja (ps:List KV)(p:KV):dX (ps++ [p])=dX ps++ [.int .i64 p.1,.int .i64 p.2]:=by simp[dX]
theorem jb (p:KV)(ps:List KV):dX (p::ps)=.int .i64 p.1:: .int .i64 p.2::dX ps:=by simp[dX]
theorem jN:∀ps:List KV,(dX ps).length=ps.length * 2
 | []=>rfl
 |p::ps=>by rw[jb,List.length_cons,List.length_cons,jN ps,List.length_cons];omega
theorem jO:∀(ps:List KV) (i:Nat) (p:KV),ps[i]?=some p→(dX ps)[i * 2]?=some (.int .i64 p.1)∧(dX ps)[i * 2+1]?=some (.int .i64 p.2)
 | [],i,p,h=>by cases h
 |q::ps,0,p,h=>by
  simp at h;subst h
  rw[jb];exact⟨rfl,rfl⟩
 |q::ps,i+1,p,h=>by
  have:=jO ps i p (by simpa using h)
  rw[jb,show(i+1) * 2=i * 2+1+1 by omega]
  exact this
theorem uV:∃i:TypeInfo,Tryz.prog.info? 88=some i∧i.zero=some (.agg #[.int .i64 0,.int .i64 0])∧i.size=2∧i.bytes=16:=by
 have h1:(Tryz.prog.info? 88).map (·.size)=some 2:=by kernel_rfl
 have h2:(Tryz.prog.info? 88).bind (·.zero)=some (.agg #[.int .i64 0,.int .i64 0]):=by kernel_rfl
 have h3:(Tryz.prog.info? 88).map (·.bytes)=some 16:=by kernel_rfl
 cases q:Tryz.prog.info? 88 with
 |none=>rw[q] at h1;simp at h1
 |some i=>rw[q] at h1 h2 h3;exact⟨i,rfl,by simpa using h2,by simpa using h1,by simpa using h3⟩
def PRw (base:Nat)(w:World)(v:Value)(ps:List KV):Prop:=w.ownsRow base 88 2 v ps.length (dX ps)
theorem PRw.nil (base:Nat)(w:World):PRw base w (.slice none 0 0) []:=World.ownsRow_nil w base _ 2
theorem PRw.keep {base:Nat}{w w':World}{v:Value}{ps:List KV}(h:PRw base w v ps){S:Nat→Prop}(hW:Turned S w w')(hs:∀k,base≤k→¬S k):PRw base w' v ps:=kD h hW hs
theorem PRw.more {base:Nat}{w w':World}{v:Value}{ps:List KV}(h:PRw base w v ps)(hW:ae w w'):PRw base w' v ps:=kD h hW (fun _ _ q=>q)
theorem PRw.mono {base base':Nat}{w:World}{v:Value}{ps:List KV}(h:PRw base w v ps)(hb:base'≤base):PRw base' w v ps:=nH h hb
theorem PRw.reads {base:Nat}{w:World}{v:Value}{ps:List KV}(h:PRw base w v ps):∃a cap,v=.slice a ps.length cap∧oO w a ps∧∀k,im a k→base≤k:=by
 rcases h.2 with⟨rfl,h0⟩|⟨g,cap,cur,rfl,hb,hg,_,_,hs,ht⟩
 ·have:ps= []:=List.length_eq_zero_iff.1 h0
  subst this
  exact⟨none,0,rfl,.inl rfl,fun k hk=>by cases hk⟩
 ·refine⟨_,cap,rfl,.inr ⟨g,0,rfl,ac hg,fun i t hi=>?_⟩,fun k hk=>by cases hk;exact hb⟩
  have hil:=(List.getElem?_eq_some_iff.1 hi).1
  have hcell:∀j u,(dX ps)[j]?=some u→w.cell? ⟨g,0+j,none⟩=some u:=fun j u hj=>by
   have hj':j<ps.length * 2:=by have:=(List.getElem?_eq_some_iff.1 hj).1;rw[jN] at this;exact this
   have e:cur.toList[j]?=some u:=by
    have h1:(cur.toList.take (ps.length * 2))[j]?=some u:=by rw[ht];exact hj
    rw[List.getElem?_take,if_pos (by omega)] at h1
    exact h1
   simp[World.cell?,hg]
   simpa using e
  obtain⟨p1,p2⟩:=jO ps i t hi
  exact⟨hcell _ _ p1,by have:=hcell _ _ p2;rwa [←Nat.add_assoc] at this⟩
theorem yb {ops:Array Oper}{rest:List Oper}{o:Oper}{a:Act}{Q:Exit→Act→World→Prop}{S:Nat→Prop}{w wa:World}{v:Value}{ps:List KV}(p q:Int)(hgd:o.guard=none)(s x:Operand)
 (ho:o.op=.call { callee:= .builtin .append,args:= #[s,x],argTypes:= #[39,39] })
 (hs:a.eval s=v) (hn:PRw wa.heap.size w v ps) (hW:Turned S wa w) (hl:ps.length≤1000000)
 (hx:a.eval x=.slice (some ⟨w.heap.size,0,none⟩) 1 1)
 (h:∀g cap w',PRw wa.heap.size w' (.slice (some ⟨g,0,none⟩) (ps.length+1) cap) (ps++ [(p,q)])→Turned S wa w'→(∀k ob,w.heap[k]?=some ob→v.ownBlock≠some k→w'.heap[k]?=some ob)→wpList Tryz.prog ops Q rest (a.put o.dst (.slice (some ⟨g,0,none⟩) (ps.length+1) cap)) w'):wpList Tryz.prog ops Q (o::rest) a (w.alloc (.cells #[.int .i64 p,.int .i64 q] 88)):=by
 obtain⟨i,i1,i2,i3,i4⟩:=uV
 have hn':=hn.more ((ae.refl w).alloc (.cells #[.int .i64 p,.int .i64 q] 88))
 have hB:=bh w (.cells #[.int .i64 p,.int .i64 q] 88)
 refine wpList_append_lies _ hgd s x 39 ho wa.heap.size 88 i _ 2 16 Tryz.underlying39 i1 i2 i3 i4 rfl (by omega) v ps.length _ hs hn' ⟨w.heap.size,0,none⟩ 1 1 [.int .i64 p,.int .i64 q] hx (by simp)
  (fun j u hu=>World.news_of_block hB j u (by simpa using hu)) (by intro u hu;simp at hu;rcases hu with rfl|rfl<;>rfl) (by omega) (by simp only[maxLen];omega) (by omega) (by have:=hW.size;simp;omega) _ rfl ?_
 intro g cap w1 hown hgrow _ _
 refine h g cap w1 ?_ (iA (hW.alloc _) hn' hgrow) (fun k ob hk hne=>?_)
 ·unfold PRw
  rw[List.length_append,ja]
  exact hown
 ·rw[hgrow.block k (by have:=ac hk;simp;omega) (Ne.symm hne),Below.heap_alloc _ _ _ (ac hk)];exact hk
theorem pQ {P:Program}(w:World)(d:Nat)(t:TypeId) {a b c}(h:P.underlying t=some (.func a b c))(f:Fn)(xs ys:Array Value):
 (Op.equalIn (d+1) t (.func f xs ys) .nilFunc).run P w=.ok false w:=by
 simp[Op.equalIn,run_underlying h]
theorem kE {P:Program}(w:World)(t:TypeId) {a b c}(h:P.underlying t=some (.func a b c))(f:Fn)(xs ys:Array Value):Sem.run P (binOp BinOp.eql t (Value.func f xs ys) Value.nilFunc) w=.ok (.bool false) w:=by
 have:Sem.run P (Op.equal t (Value.func f xs ys) Value.nilFunc) w=.ok false w:=pQ w 9999 t h f xs ys
 simp[binOp,this]
theorem aE {w:World}{b:Nat}{v:Value}{T:TypeId}(h:w.heap[b]?=some (.cells #[v] T (0,0))):w.cell? ⟨b,0,none⟩=some v∧w.frozen? ⟨b,0,none⟩=false∧b<w.heap.size :=
 ⟨by simp[World.cell?,h],by simp[World.frozen?,h],ac h⟩
theorem kF {w:World}{b:Nat}{v:Value}{T:TypeId}(x:Value)(h:w.heap[b]?=some (.cells #[v] T (0,0))):(w.setCell ⟨b,0,none⟩ x).heap[b]?=some (.cells #[x] T (0,0)):=by
 have:=bD (o:=0) x h
 simpa using this
structure wD (wa W:World)(b:Nat)(ps:List KV):Prop where
 ex:∃v,W.heap[b]?=some (.cells #[v] 39 (0,0))∧PRw wa.heap.size W v ps
 turn:Turned (fun k=>k=b) wa W
theorem wD.more {wa W W':World}{b:Nat}{ps:List KV}(h:wD wa W b ps)(t:ae W W'):wD wa W' b ps:=by
 obtain⟨v,hb,hv⟩:=h.ex
 exact⟨⟨v,t.block hb,hv.more t⟩,am (F':=fun _=>False) h.turn t (fun _ q=>q.elim)⟩
theorem Jp (wa W:World)(b:Nat)(ps:List KV)(x y:Int)(hlt:b<wa.heap.size)(h:wD wa W b ps)(hl:ps.length≤100000):
 Calls Tryz.prog 106 #[.int .i64 x,.int .i64 y,.pointer (some ⟨b,0,none⟩)] W fun e w'=>e=.returned (.bool true)∧wD wa w' b (ps++ [(x,y)]):=by
 obtain⟨v,hb,hv⟩:=h.ex
 obtain⟨c0,f0,l0⟩:=aE hb
 have HB:=hQQ hb
 have HV:=hQQ hv
 have HT:=hQQ h.turn
 have FIN:Hq (∀v' w',PRw wa.heap.size w' v' (ps++ [(x,y)])→Turned (fun k=>k=b) wa w'→w'.heap[b]?=some (.cells #[v] 39 (0,0))→wD wa (w'.setCell ⟨b,0,none⟩ v') b (ps++ [(x,y)])):=hQQ fun v' w' hp ht hbb =>
  ⟨⟨v',kF v' hbb,hp.keep (bF (S:=fun k=>k=b) (Turned.refl _ w') (fun _=>rfl) v') (fun k hk e=>by omega)⟩,bF ht (fun _=>rfl) v'⟩
 have NE:Hq (∀k,v.ownBlock=some k→k≠b):=hQQ fun k hk e=>by have:=hv.lt k hk;omega
 clear h hb hv
 go_enter Tryz.func106,Tryz.ntmps106
 go_wp2_with (at_builtin;refine yb (S:=fun k=>k=b) (wa:=wa) (v:=v) (ps:=ps) x y rfl _ _ rfl rfl HV.o HT.o (by omega) rfl ?_;intro g' c' w1 hp1 ht1 hk1;have H1:=hQQ hp1;have T1:=hQQ ht1;have B1:=hQQ (hk1 b _ HB.o (fun e=>NE.o b e rfl));have c1:=(aE B1.o).1;have f1:=(aE B1.o).2.1;clear hp1 ht1 hk1)
 go_ret
 exact⟨rfl,FIN.o _ _ H1.o T1.o B1.o⟩
theorem DP (F:Nat→Prop)(q:Nat)(D:List KV)(b:Nat)(W:World)(h:fh W F q D)(hb:W.heap[b]?=some (.cells #[.slice none 0 0] 39 (0,0)))(hF:¬F b):
 Calls Tryz.prog 105 #[.pointer (some ⟨q,0,none⟩),.func (.func 106) #[] #[.pointer (some ⟨b,0,none⟩)]] W fun e w'=>e=.returned (.tuple #[])∧Turned (fun k=>k=b) W w'∧∃v,w'.heap[b]?=some (.cells #[v] 39 (0,0))∧PRw W.heap.size w' v D:=by
 have hq:∀w,Sem.run Tryz.prog (binOp BinOp.eql 132 (Value.func (.func 106) #[] #[.pointer (some ⟨b,0,none⟩)]) Value.nilFunc) w=.ok (.bool false) w:=fun w=>kE w _ Tryz.underlying132 _ _ _
 have hlb:=ac hb
 have hsm:=h.small
 have CP:=hQQ (Jm F q D W h)
 have HB:=hQQ hb
 clear h hb hF
 go_enter Tryz.func105,Tryz.ntmps105
 go_wp2_with fail
 refine CP.o.mono ?_
 rintro e w1 ⟨Fc,c,rfl,mc,M1,nc⟩
 have MC:=hQQ mc
 have K1:=hQQ M1
 have T0:=hQQ (show wD w1 w1 b [] from⟨⟨_,M1.block HB.o,PRw.nil _ _⟩,Turned.refl _ _⟩)
 have hlb1:b<w1.heap.size:=Nat.lt_of_lt_of_le hlb M1.size
 have NC:Hq (∀x,Fc x→¬x=b):=hQQ (fun x hx q=>by have:=nc x hx;omega)
 have FIN:Hq (∀wr,wD w1 wr b D→Turned (fun k=>k=b) W wr∧∃v,wr.heap[b]?=some (.cells #[v] 39 (0,0))∧PRw W.heap.size wr v D):=hQQ fun wr ht=>by
  obtain⟨v,h1,h2⟩:=ht.ex
  exact⟨(Turned.mono K1.o (fun _ _ q=>q.elim)).trans ht.turn,v,h1,h2.mono K1.o.size⟩
 clear mc M1 nc
 go_wp2_with fail
 refine(Gd Fc c D w1 MC.o).mono ?_
 rintro e w2 ⟨rfl,h2⟩
 obtain rfl:w2=w1:=h2
 go_wp2_with fail
 go_loopw [15] (fun i wr=>∃t:Nat,t≤D.length∧i=.int .i64 (t:Nat)∧wD w2 wr b (D.take t)) (fun i _=>D.length-(intOf i).toNat)
 case atStart=>exact⟨0,Nat.zero_le _,rfl,T0.o⟩
 case round =>
  obtain⟨t,ht,rfl,htell⟩:=hrel
  have T3:=hQQ htell;have C3:=hQQ (MC.o.keep htell.turn NC.o)
  clear htell
  by_cases hlt3:t<D.length
  ·obtain⟨x,hx⟩:∃x,D[t]?=some x:=⟨_,List.getElem?_eq_getElem hlt3⟩
   have TK:Hq (D.take (t+1)=D.take t++ [x]):=hQQ (by rw[List.take_add_one,hx];rfl)
   have HX:=hQQ hx
   clear hx
   obtain⟨xk,xv⟩:=x
   go_wp2_with fail
   refine(Nq Fc c D t (xk,xv) wr C3.o HX.o).mono ?_
   rintro e w4 ⟨rfl,n4,rfl⟩
   have C4:=hQQ (C3.o.more (fU wr n4));have T4:=hQQ (T3.o.more (fU wr n4))
   clear C3 T3
   generalize wr.drewN n4=w4 at C4 T4⊢
   simp only
   go_wp2_with fail
   refine(Jp w2 w4 b (D.take t) xk xv hlb1 T4.o (by simp;omega)).mono ?_
   rintro e w5 ⟨rfl,htell⟩
   have T5:=hQQ htell
   clear htell C4 T4
   go_wp2_with fail
   go_roundw
   case rel=>exact⟨t+1,by omega,by go_num,by rw[TK.o];exact T5.o⟩
   case measure=>simp[intOf];omega
  ·obtain rfl:t=D.length:=by omega
   have FIN2:Hq (∀wr',wr'=wr→Turned (fun k=>k=b) W wr'∧∃v,wr'.heap[b]?=some (.cells #[v] 39 (0,0))∧PRw W.heap.size wr' v D):=hQQ (fun wr' e=>by subst e;exact FIN.o _ (by have:=T3.o;rwa [List.take_length] at this))
   go_wp2_with fail
   go_end0
   exact⟨rfl,FIN2.o _ rfl⟩
theorem Cx (F:Nat→Prop)(p q:Nat)(D:List KV)(W:World)(hp:W.cell? ⟨p,2,none⟩=some (.pointer (some ⟨q,0,none⟩)))(hm:fh W F q D):
 Calls Tryz.prog 78 #[.pointer (some ⟨p,0,none⟩)] W fun e w'=>∃v,e=.returned v∧PRw W.heap.size w' v D∧ae W w':=by
 have M1:ae W (W.alloc (.cells #[.slice none 0 0] 39)):=(ae.refl W).alloc _
 have hb:=bh W (.cells #[.slice none 0 0] 39)
 have E:=hQQ (DP F q D W.heap.size _ (hm.more M1) hb (fun r=>by have:=hm.lt _ r;omega))
 have hp1:=M1.cell hp
 have hlp:=eQ hp
 have HM:=hQQ M1
 clear hm hb M1
 go_enter Tryz.func78,Tryz.ntmps78
 go_wp2_with fail
 refine E.o.mono ?_
 rintro e w1 ⟨rfl,ht,v,hv,hr⟩
 have FIN:Hq (PRw W.heap.size w1 v D∧ae W w1):=hQQ ⟨hr.mono (by simp),Turned.mono (am (F:=fun _=>False) HM.o ht (fun k hk=> .inr (by omega))) (fun _ _ q=>q)⟩
 obtain⟨c0,f0,l0⟩:=aE hv
 clear ht hr hv
 go_wp2_with fail
 go_ret
 exact⟨_,rfl,FIN.o⟩
theorem Ao (v:Value)(w:World):(Instr.typeAssert (.iface 113 v) 20 113 true).run Tryz.prog w=.ok (.tuple #[v,.bool true]) w:=by kernel_rfl
theorem yc (w:World):(Instr.typeAssert .nilIface 20 113 true).run Tryz.prog w=.ok (.tuple #[.agg #[.pointer none],.bool false]) w:=by kernel_rfl
def wE (w:World)(p bn:Nat)(a:Int)(w':World):Prop:=aQ w' p a∧w'.heap[bn]?=some (.cells #[.int .i64 a] 3 (0,0))∧Turned (fun k=>k=p∨k=bn) w w'
theorem uW (p bv bn:Nat)(a n:Int)(w:World)(h:aQ w p a)(hv:w.heap[bv]?=some (.cells #[.pointer (some ⟨p,0,none⟩)] 43 (0,0)))(hn:w.heap[bn]?=some (.cells #[.int .i64 n] 3 (0,0)))(h1:bv≠p)(h2:bn≠p)(h3:bv≠bn):
 CallsD Tryz.prog 77 #[.pointer (some ⟨bv,0,none⟩),.pointer (some ⟨bn,0,none⟩)] (.panicking (aY p)) w fun e u' w' =>
  e=.returned (.tuple #[])∧u'= .panicking [{ v:= .iface 113 (.agg #[.pointer (some ⟨p,0,none⟩)]),recovered:=true }]∧wE w p bn a w':=by
 have hq:=fun w=>Gk ⟨p,0,none⟩ w
 obtain⟨M,q,hp⟩:=h
 obtain⟨c0,c1,c2,c3,cf,cl⟩:=cT hp
 obtain⟨v0,vf,vl⟩:=aE hv
 obtain⟨n0,nf,nl⟩:=aE hn
 refine callsD_of_wpS Tryz.func77 rfl fun c₀ cs hu=>?_
 apply wpS_seq
 apply wpS_region
 simp[wpOpsS,go_sem,recoverD,hu,Tryz.ntmps77,Exit.thenS,v0,c0,cf,vf]
 apply wpS_seq
 apply wpS_seq
 apply wpS_region
 simp[wpOpsS,go_sem,recoverD,hu,aY,Exit.thenS,Array.replicate_succ,v0,c0,cf,vf,Ao]
 have t1:Turned (fun k=>k=p∨k=bn) w ((w.setCell ⟨p,0,none⟩ (.pointer none)).alloc (.cells #[.pointer (some ⟨p,0,none⟩)] 113)):=Turned.alloc (bF (Turned.refl _ w) (fun _=> .inl rfl) _) _
 have hp1:((w.setCell ⟨p,0,none⟩ (.pointer none)).alloc (.cells #[.pointer (some ⟨p,0,none⟩)] 113)).heap[p]?=some (.cells (cD none M q a) 110 (0,0)):=by
  rw[Below.heap_alloc _ _ _ (by simpa using cl)]
  have:=bD (o:=0) (.pointer none) hp
  simpa [cD] using this
 have hv1:((w.setCell ⟨p,0,none⟩ (.pointer none)).alloc (.cells #[.pointer (some ⟨p,0,none⟩)] 113)).heap[bv]?=some (.cells #[.pointer (some ⟨p,0,none⟩)] 43 (0,0)):=by
  rw[Turned.block t1 bv vl (by omega)];exact hv
 have hs1:=bh (w.setCell ⟨p,0,none⟩ (.pointer none)) (.cells #[.pointer (some ⟨p,0,none⟩)] 113)
 rw[show(w.setCell ⟨p,0,none⟩ (.pointer none)).heap.size=w.heap.size by simp] at hs1
 have hn1:((w.setCell ⟨p,0,none⟩ (.pointer none)).alloc (.cells #[.pointer (some ⟨p,0,none⟩)] 113)).heap[bn]?=some (.cells #[.int .i64 n] 3 (0,0)):=by
  rw[Below.heap_alloc _ _ _ (by simpa using nl),Below.heap_setCell _ _ _ _ h2];exact hn
 generalize (w.setCell ⟨p,0,none⟩ (.pointer none)).alloc (.cells #[.pointer (some ⟨p,0,none⟩)] 113)=W1 at t1 hp1 hv1 hs1 hn1⊢
 generalize w.heap.size=bs at hs1⊢
 obtain⟨_,_,_,x3,_,xl⟩:=cT hp1
 obtain⟨y0,yf,yl⟩:=aE hv1
 obtain⟨z0,zf,zl⟩:=aE hs1
 obtain⟨n1,nf1,nl1⟩:=aE hn1
 have FIN:Hq (wE w p bn a (W1.setCell ⟨bn,0,none⟩ (.int .i64 a))):=hQQ ⟨⟨M,q,by rw[Below.heap_setCell _ _ _ _ (Ne.symm h2)];exact hp1⟩,kF _ hn1,bF t1 (fun _=> .inr rfl) _⟩
 clear c0 c1 c2 c3 cf cl v0 vf vl n0 nf nl hp hv hn hp1 hv1 hs1 hn1 t1
 refine wpS_of_wp ?_
 go_wp2_with fail
 refine wpS_of_wp ?_
 go_wp2_with fail
 exact⟨rfl,_,rfl,_,results_none rfl _ _ _,rfl,rfl,FIN.o⟩
theorem sj (p bv bn M q:Nat)(n:Int)(w:World)(hp:w.heap[p]?=some (.cells (cD (some ⟨p,0,none⟩) M q (-1)) 110 (0,0)))(hv:w.heap[bv]?=some (.cells #[.pointer (some ⟨p,0,none⟩)] 43 (0,0)))(hn:w.heap[bn]?=some (.cells #[.int .i64 n] 3 (0,0)))(h1:bv≠p)(h2:bn≠p)(h3:bv≠bn):
 CallsD Tryz.prog 77 #[.pointer (some ⟨bv,0,none⟩),.pointer (some ⟨bn,0,none⟩)] .returning w fun e u' w' =>
  e=.returned (.tuple #[])∧u'= .returning∧wE w p bn (-1) w':=by
 obtain⟨c0,c1,c2,c3,cf,cl⟩:=cT hp
 obtain⟨v0,vf,vl⟩:=aE hv
 obtain⟨n0,nf,nl⟩:=aE hn
 refine callsD_of_wpS Tryz.func77 rfl fun c₀ cs hu=>?_
 apply wpS_seq
 apply wpS_region
 simp[wpOpsS,go_sem,recoverD,hu,Tryz.ntmps77,Exit.thenS,v0,c0,cf,vf]
 apply wpS_seq
 apply wpS_seq
 apply wpS_region
 simp[wpOpsS,go_sem,recoverD,hu,aY,Exit.thenS,Array.replicate_succ,v0,c0,cf,vf,yc]
 have t1:Turned (fun k=>k=p∨k=bn) w ((w.setCell ⟨p,0,none⟩ (.pointer none)).alloc (.cells #[.pointer none] 113)):=Turned.alloc (bF (Turned.refl _ w) (fun _=> .inl rfl) _) _
 have hp1:((w.setCell ⟨p,0,none⟩ (.pointer none)).alloc (.cells #[.pointer none] 113)).heap[p]?=some (.cells (cD none M q (-1)) 110 (0,0)):=by
  rw[Below.heap_alloc _ _ _ (by simpa using cl)]
  have:=bD (o:=0) (.pointer none) hp
  simpa [cD] using this
 have hv1:((w.setCell ⟨p,0,none⟩ (.pointer none)).alloc (.cells #[.pointer none] 113)).heap[bv]?=some (.cells #[.pointer (some ⟨p,0,none⟩)] 43 (0,0)):=by
  rw[Turned.block t1 bv vl (by omega)];exact hv
 have hn1:((w.setCell ⟨p,0,none⟩ (.pointer none)).alloc (.cells #[.pointer none] 113)).heap[bn]?=some (.cells #[.int .i64 n] 3 (0,0)):=by
  rw[Below.heap_alloc _ _ _ (by simpa using nl),Below.heap_setCell _ _ _ _ h2];exact hn
 generalize (w.setCell ⟨p,0,none⟩ (.pointer none)).alloc (.cells #[.pointer none] 113)=W1 at t1 hp1 hv1 hn1⊢
 obtain⟨_,_,_,x3,_,xl⟩:=cT hp1
 obtain⟨y0,yf,yl⟩:=aE hv1
 obtain⟨n1,nf1,nl1⟩:=aE hn1
 have FIN:Hq (wE w p bn (-1) (W1.setCell ⟨bn,0,none⟩ (.int .i64 (-1)))):=hQQ ⟨⟨M,q,by rw[Below.heap_setCell _ _ _ _ (Ne.symm h2)];exact hp1⟩,kF _ hn1,bF t1 (fun _=> .inr rfl) _⟩
 clear c0 c1 c2 c3 cf cl v0 vf vl n0 nf nl hp hv hn hp1 hv1 hn1 t1
 refine wpS_of_wp ?_
 go_wp2_with fail
 refine wpS_of_wp ?_
 go_wp2_with fail
 refine⟨rfl,.returning,?_,_,results_none rfl _ _ _,rfl,rfl,FIN.o⟩
 cases c₀
 simp_all
structure Gn (w W:World)(F:Nat→Prop)(p bv bn:Nat)(kn:Int→Option Int):Prop where
 view:aK W F p kn []
 v:W.heap[bv]?=some (.cells #[.pointer (some ⟨p,0,none⟩)] 43 (0,0))
 n:W.heap[bn]?=some (.cells #[.int .i64 0] 3 (0,0))
 more:ae w W
 new:∀k,F k→w.heap.size≤k
 fv:¬F bv
 fn:¬F bn
 vn:bv≠bn
 lv:w.heap.size≤bv
 ln:w.heap.size≤bn
 lp:w.heap.size≤p
theorem yd {w w1:World}{M q n:Nat}{F0:Nat→Prop}{kn:Int→Option Int}(hk:KnownAt w M n kn)(hm:fh w1 F0 q [])(hM:ae (w.alloc (.cells #[.int .i64 0] 3)) w1)(hn:∀k,F0 k→(w.alloc (.cells #[.int .i64 0] 3)).heap.size≤k):
 ∃F,Gn w ((w1.alloc (.cells (cD (some ⟨w1.heap.size,0,none⟩) M q (-1)) 110)).alloc (.cells #[.pointer (some ⟨w1.heap.size,0,none⟩)] 43)) F w1.heap.size (w1.heap.size+1) w.heap.size kn:=by
 have m0:ae w (w.alloc (.cells #[.int .i64 0] 3)):=(ae.refl w).alloc _
 have hb:=bh w (.cells #[.int .i64 0] 3)
 have hs0:(w.alloc (.cells #[.int .i64 0] 3)).heap.size=w.heap.size+1:=by simp
 rw[hs0] at hn
 have h1:=hM.size
 rw[hs0] at h1
 have hp:=bh w1 (.cells (cD (some ⟨w1.heap.size,0,none⟩) M q (-1)) 110)
 have m2:ae w1 (w1.alloc (.cells (cD (some ⟨w1.heap.size,0,none⟩) M q (-1)) 110)):=(ae.refl w1).alloc _
 have hs2:(w1.alloc (.cells (cD (some ⟨w1.heap.size,0,none⟩) M q (-1)) 110)).heap.size=w1.heap.size+1:=by simp
 generalize w1.alloc (.cells (cD (some ⟨w1.heap.size,0,none⟩) M q (-1)) 110)=w2 at hp m2 hs2⊢
 have hv:=bh w2 (.cells #[.pointer (some ⟨w1.heap.size,0,none⟩)] 43)
 rw[hs2] at hv
 have m3:ae w2 (w2.alloc (.cells #[.pointer (some ⟨w1.heap.size,0,none⟩)] 43)):=(ae.refl w2).alloc _
 have hs3:(w2.alloc (.cells #[.pointer (some ⟨w1.heap.size,0,none⟩)] 43)).heap.size=w1.heap.size+2:=by simp[hs2]
 generalize w2.alloc (.cells #[.pointer (some ⟨w1.heap.size,0,none⟩)] 43)=w3 at hv m3 hs3⊢
 have lM:=hk.lt
 have all:ae w w3:=((m0.trans hM).trans m2).trans m3
 refine⟨fun k=>F0 k∨k=w1.heap.size,⟨⟨⟨M,q,n,F0,m3.block hp,hk.more all,(hm.more m2).more m3,.inr rfl,fun k hk=>⟨.inl hk,fun e=>by have:=hm.lt k hk;omega⟩,fun r=>?_⟩,fun k r=>?_⟩,hv,m3.block (m2.block (hM.block hb)),all,fun k r=>?_,fun r=>?_,fun r=>?_,by omega,by omega,Nat.le_refl _,by omega⟩⟩
 ·rcases r with r|r
  ·have:=hn M r;omega
  ·omega
 ·rcases r with r|r
  ·have:=hm.lt k r;omega
  ·omega
 ·rcases r with r|r
  ·have:=hn k r;omega
  ·omega
 ·rcases r with r|r
  ·have:=hm.lt _ r;omega
  ·omega
 ·rcases r with r|r
  ·have:=hn _ r;omega
  ·omega
theorem oP {w W w2 w3:World}{F S:Nat→Prop}{p bv bn:Nat}{kn:Int→Option Int}(hb:Gn w W F p bv bn kn)(t:Turned (fun k=>F k∨S k) W w2)(t':Turned (fun k=>k=p∨k=bn) w2 w3):Turned S w w3:=by
 have m:Turned S w W:=Turned.mono hb.more (fun _ _ q=>q.elim)
 have h1:Turned S w w2:=am m t (fun k q=>by rcases q with q|q;exact .inr (hb.new k q);exact .inl q)
 exact am h1 t' (fun k q=>by have:=hb.lp;have:=hb.ln;rcases q with q|q<;>exact .inr (by omega))
theorem rB {w W w2:World}{F S:Nat→Prop}{p bv bn:Nat}{kn:Int→Option Int}(hb:Gn w W F p bv bn kn)(hS:∀k,S k→k<w.heap.size)(t:Turned (fun k=>F k∨S k) W w2):
 w2.heap[bv]?=some (.cells #[.pointer (some ⟨p,0,none⟩)] 43 (0,0))∧w2.heap[bn]?=some (.cells #[.int .i64 0] 3 (0,0))∧bv≠p∧bn≠p:=by
 obtain⟨M,q,n,F0,hp,_,_,fp,_⟩:=hb.view.ex
 refine⟨?_,?_,fun e=>hb.fv (e▸fp),fun e=>hb.fn (e▸fp)⟩
 ·rw[Turned.block t bv (ac hb.v) (fun q=>by rcases q with q|q;exact hb.fv q;have:=hS _ q;have:=hb.lv;omega)];exact hb.v
 ·rw[Turned.block t bn (ac hb.n) (fun q=>by rcases q with q|q;exact hb.fn q;have:=hS _ q;have:=hb.ln;omega)];exact hb.n
open Go.Shelf
attribute [local go_sem] Oper.semAt_some
theorem jP {w w':World}(h:Below w.heap.size w w'):ae w w':=⟨h.1,h.2,h.3,h.4,fun k hk _=>h.5 k hk⟩
def ff (a b:Nat)(w w':World):Prop:=w'.heap[a]?=w.heap[a]? ∧w'.heap[b]?=w.heap[b]?
theorem ff.refl (a b:Nat)(w:World):ff a b w w:=⟨rfl,rfl⟩
theorem ff.trans {a b:Nat}{w w' w'':World}(h:ff a b w w')(k:ff a b w' w''):ff a b w w'':=⟨k.1.trans h.1,k.2.trans h.2⟩
theorem ff.cell2 {a b o:Nat}{w w':World}{v:Value}(h:ff a b w w')(hc:w.cell? ⟨b,o,none⟩=some v):w'.cell? ⟨b,o,none⟩=some v:=by
 rw[World.cell?_of_block (w:=w) h.2];exact hc
theorem sl {a b n:Nat}(ha:a<n)(hb:b<n)(W:World)(l:Nat)(o o':Obj)(hl:n≤l)(h:W.heap[l]?=some o) (_:o.isCells=false) (_:o.isWalk=false):ff a b W (W.putObj l o'):=
 ⟨World.putObj_heap_other (by omega),World.putObj_heap_other (by omega)⟩
def Lo (l:List KV)(i:Nat):KV:=l.getD i (0,0)
attribute [local go_sem] Oper.semAt_some
def Oc (ps:List KV)(pre:List Nat)(x:Int):Option Int:=look (pre.reverse.map (Lo ps)) x
structure Oi (w:World)(ps:List KV)(pre:List Nat)(W:World):Prop where
 box:Boxed W (w.heap.size+1) 83 (.map (some w.heap.size))
 known:KnownAt W w.heap.size pre.length (Oc ps pre)
 below:Below w.heap.size w W
 big:w.heap.size+3≤W.heap.size
def wAt (ws:List Int)(i:Int):Int:=ws.getD i.toNat 0
def cj (ws:List Int)(D:List KV):List Int:=D.foldl (fun z p=>z.set p.1.toNat p.2) ws
def jZ (ws:List Int)(D:List KV):Bool:=D.all fun p=>decide (p.1<ws.length)
def doP (sem:List KV→Ran)(ws:List Int):Nat→List KV→Option (List Int×List KV)
 | 0,_=>none
 |n+1,K=>match sem K with
  | .need a=>if a<ws.length then doP sem ws n (K++ [(a,wAt ws a)]) else none
  | .done D=>if jZ ws D then some (cj ws D,K) else none
theorem d6 (D:List KV):∀ws,(cj ws D).length=ws.length:=by
 induction D with
 |nil=>intro ws;rfl
 |cons p D ih=>intro ws;show(cj (ws.set _ _) D).length=_;rw[ih];simp
theorem ye (ws:List Int)(D:List KV)(p:KV):cj ws (D++ [p])=(cj ws D).set p.1.toNat p.2:=by simp[cj,List.foldl_append]
theorem DQ {D:List KV}{i:Nat}{p:KV}(h:D[i]?=some p):D.take (i+1)=D.take i++ [p]:=by rw[List.take_add_one,h];rfl
theorem Ap (ws:List Int)(D:List KV)(p:KV):jZ ws (D++ [p])=(jZ ws D && decide (p.1<ws.length)):=by simp[jZ,List.all_append]
theorem DR {ws:List Int}{D:List KV}{i:Nat}{p:KV}(h:D[i]?=some p)(hp:¬p.1<ws.length):jZ ws D=false:=by
 unfold jZ
 rw[List.all_eq_false]
 exact⟨p,List.mem_of_getElem? h,by simpa using hp⟩
structure jQ (ws:List Int)(K:List KV):Prop where
 at':∀p∈K,0≤p.1∧p.1<ws.length∧p.2=wAt ws p.1
 once:(K.map (·.1)).Nodup
theorem oQ (ws:List Int):jQ ws []:=⟨(fun p h=>by cases h),by simp⟩
theorem uX {ws:List Int}{K:List KV}(h:jQ ws K){a:Int}(h0:0≤a)(h1:a<ws.length)(hn:look K a=none):jQ ws (K++ [(a,wAt ws a)]):=by
 refine⟨fun p hp=>?_,?_⟩
 ·rcases List.mem_append.1 hp with q|q
  ·exact h.at' p q
  ·simp at q;subst q;exact⟨h0,h1,rfl⟩
 ·rw[List.map_append,List.nodup_append]
  refine⟨h.once,by simp,fun x hx y hy e=>?_⟩
  simp at hy;subst hy;subst e
  obtain⟨p,hp,rfl⟩:=List.mem_map.1 hx
  exact ib.1 hn p hp rfl
theorem lF (M:Nat):∀xs:List Int,xs.Nodup→(∀x∈xs,0≤x∧x<M)→xs.length≤M:=by
 induction M with
 |zero =>
  intro xs _ h
  cases xs with
  |nil=>simp
  |cons a l=>have:=h a (by simp);omega
 |succ M ih =>
  intro xs hn h
  by_cases hm:(M:Int)∈xs
  ·have h1:=ih (xs.erase (M:Int)) (hn.erase _) (fun x hx=>by
    have hx':=(List.Nodup.mem_erase_iff hn).1 hx
    have:=h x hx'.2
    have:=hx'.1
    omega)
   have h2:=List.length_erase_of_mem hm
   omega
  ·have h1:=ih xs hn (fun x hx=>by
    have:=h x hx
    have:x≠(M:Int):=fun e=>hm (e▸hx)
    omega)
   omega
theorem jQ.len {ws:List Int}{K:List KV}(h:jQ ws K):K.length≤ws.length:=by
 have:=lF ws.length (K.map (·.1)) h.once fun x hx=>by
  obtain⟨p,hp,rfl⟩:=List.mem_map.1 hx
  exact⟨(h.at' p hp).1,(h.at' p hp).2.1⟩
 simpa using this
theorem uY {K:List KV}{a x:Int}(h:look K a=none):(fun y=>if y=a then some x else look K y)=look (K++ [(a,x)]):=by
 funext y
 rw[lE,gd]
 by_cases e:y=a
 ·subst e;rw[if_pos rfl,if_pos rfl,h];rfl
 ·rw[if_neg e,if_neg (fun q=>e q.symm),Gb];cases look K y<;>rfl
def OkW (ws:List Int):Prop:=∀x∈ws,W64 x
theorem Aq {ws:List Int}(h:OkW ws)(i:Int):W64 (wAt ws i):=by
 unfold wAt
 by_cases q:i.toNat<ws.length
 ·have:ws.getD i.toNat 0=ws[i.toNat]:=by simp[List.getD,q]
  rw[this];exact h _ (List.getElem_mem q)
 ·have:ws.getD i.toNat 0=0:=by simp[List.getD,List.getElem?_eq_none (show ws.length≤i.toNat by omega)]
  rw[this];unfold W64;omega
def wF (ws:List Int)(b:Nat)(sem:List KV→Ran):Prop:=∀K,jQ ws K→Lm (look K) b (sem K)
theorem yg {b:Nat}{sem:List KV→Ran}{ws:List Int}{K:List KV}{a:Int}{R:Option (List Int×List KV)}(hK:jQ ws K)(hf:Lm (look K) b (sem K))(hs:sem K=.need a)(ha:a<ws.length)(hR:doP sem ws (ws.length+1-K.length) K=R):
 jQ ws (K++ [(a,wAt ws a)])∧doP sem ws (ws.length+1-(K++ [(a,wAt ws a)]).length) (K++ [(a,wAt ws a)])=R∧0≤a∧look K a=none:=by
 rw[hs] at hf
 have h1:=uX hK hf.1 ha hf.2.2
 have h2:=hK.len
 refine⟨h1,?_,hf.1,hf.2.2⟩
 rw[show ws.length+1-K.length=(ws.length-K.length)+1 by omega] at hR
 unfold doP at hR
 rw[hs] at hR
 simp only[if_pos ha] at hR
 rw[List.length_append,List.length_singleton,show ws.length+1-(K.length+1)=ws.length-K.length by omega]
 exact hR
theorem Cy {sem:List KV→Ran}{ws:List Int}{K:List KV}{a:Int}{R:Option (List Int×List KV)}(hK:jQ ws K)(hs:sem K=.need a)(ha:¬a<ws.length)(hR:doP sem ws (ws.length+1-K.length) K=R):R=none:=by
 have h2:=hK.len
 rw[show ws.length+1-K.length=(ws.length-K.length)+1 by omega] at hR
 unfold doP at hR
 rw[hs] at hR
 simp only[if_neg ha] at hR
 exact hR.symm
theorem yh {sem:List KV→Ran}{ws:List Int}{K D:List KV}{R:Option (List Int×List KV)}(hK:jQ ws K)(hs:sem K=.done D)(hR:doP sem ws (ws.length+1-K.length) K=R):R=if jZ ws D then some (cj ws D,K) else none:=by
 have h2:=hK.len
 rw[show ws.length+1-K.length=(ws.length-K.length)+1 by omega] at hR
 unfold doP at hR
 rw[hs] at hR
 exact hR.symm
theorem oT {w w':World}{base:Nat}{e:TypeId}{s n:Nat}{v:Value}{xs:List Value}(h:w.ownsRow base e s v n xs)(hW:ae w w'):w'.ownsRow base e s v n xs:=by
 refine⟨h.1,?_⟩
 rcases h.2 with q|⟨g,cap,cur,h1,h2,h3,h4⟩
 ·exact .inl q
 ·exact .inr ⟨g,cap,cur,h1,h2,hW.block h3,h4⟩
theorem qE {w:World}{base base':Nat}{e:TypeId}{s n:Nat}{v:Value}{xs:List Value}(h:w.ownsRow base e s v n xs)(hb:base'≤base):w.ownsRow base' e s v n xs:=by
 refine⟨h.1,?_⟩
 rcases h.2 with q|⟨g,cap,cur,h1,h2,h3,h4⟩
 ·exact .inl q
 ·exact .inr ⟨g,cap,cur,h1,by omega,h3,h4⟩
theorem ux {wa w w':World}{v:Value}{e:TypeId}{s n:Nat}{xs:List Value}(hW:ae wa w)(h:w.ownsRow wa.heap.size e s v n xs)(g:w.grownBy w' v.ownBlock):ae wa w' :=
 ⟨g.os.trans hW.os,g.tape.trans hW.tape,g.output.trans hW.output,Nat.le_trans hW.size g.size,fun k hk _=>by
  rw[g.block k (Nat.lt_of_lt_of_le hk hW.size) (by
   rcases h.2 with⟨rfl,_⟩|⟨b,cap,cur,rfl,hb,_⟩
   ·simp[Value.ownBlock]
   ·simp only[Value.ownBlock,ne_eq,Option.some.injEq];omega)]
  exact Turned.block hW k hk (fun q=>q)⟩
theorem jc:∃i:TypeInfo,Tryz.prog.info? 3=some i∧i.zero=some (.int .i64 0)∧i.size=1∧i.bytes=8:=by
 have h1:(Tryz.prog.info? 3).map (·.size)=some 1:=by kernel_rfl
 have h2:(Tryz.prog.info? 3).bind (·.zero)=some (.int .i64 0):=by kernel_rfl
 have h3:(Tryz.prog.info? 3).map (·.bytes)=some 8:=by kernel_rfl
 cases q:Tryz.prog.info? 3 with
 |none=>rw[q] at h1;simp at h1
 |some i=>rw[q] at h1 h2 h3;exact⟨i,rfl,by simpa using h2,by simpa using h1,by simpa using h3⟩
def Rw (base:Nat)(w:World)(v:Value)(xs:List Int):Prop:=w.ownsRow base 3 1 v xs.length (xs.map (Value.int .i64))
theorem Rw.nil (base:Nat)(w:World):Rw base w (.slice none 0 0) []:=World.ownsRow_nil w base _ 1
theorem Rw.more {base:Nat}{w w':World}{v:Value}{xs:List Int}(h:Rw base w v xs)(hW:ae w w'):Rw base w' v xs:=oT h hW
theorem Rw.mono {base base':Nat}{w:World}{v:Value}{xs:List Int}(h:Rw base w v xs)(hb:base'≤base):Rw base' w v xs:=by
 refine⟨h.1,?_⟩
 rcases h.2 with q|⟨g,cap,cur,h1,h2,h3,h4⟩
 ·exact .inl q
 ·exact .inr ⟨g,cap,cur,h1,by omega,h3,h4⟩
theorem Rw.reads {base:Nat}{w:World}{v:Value}{xs:List Int}(h:Rw base w v xs):
 ∃a cap,v=.slice a xs.length cap∧∀k,k<xs.length→∃g,a=some ⟨g,0,none⟩∧base≤g∧g<w.heap.size∧∀j,j<xs.length→w.cell? ⟨g,j,none⟩=some (.int .i64 (xs.getD j 0)):=by
 rcases h.2 with⟨rfl,h0⟩|⟨g,cap,cur,rfl,hb,hg,_,_,hs,ht⟩
 ·exact⟨none,0,by rw[h0],fun k hk=>by omega⟩
 ·refine⟨_,cap,rfl,fun k hk=>⟨g,rfl,hb,ac hg,fun j hj=>?_⟩⟩
  rw[World.cell?_of_block (w:=w) (w':=w) rfl]
  have e:cur.toList[j]?=some (.int .i64 (xs.getD j 0)):=by
   have h1:(cur.toList.take (xs.length * 1))[j]?=some (.int .i64 (xs.getD j 0)):=by
    rw[ht,List.getElem?_map,List.getElem?_eq_getElem hj];simp[List.getD,hj]
   rw[List.getElem?_take,if_pos (by omega)] at h1
   exact h1
  simp[World.cell?,hg]
  simpa using e
def Gp (w:World)(xs:List Int)(e:Ending)(w':World):Prop:=∃v,e=.returned v∧Rw w.heap.size w' v xs∧ae w w'
theorem uZ (xs:List Int)(v1 v2:Value)(b1 b2:Nat)(w:World)(hl:xs.length≤1000000)(h1:Rw b1 w v1 xs)(h2:Rw b2 w v2 xs):
 Calls Tryz.prog 35 #[v1,v2] w (aU w (.bool true)):=by
 obtain⟨a1,c1,rfl,r1⟩:=h1.reads
 obtain⟨a2,c2,rfl,r2⟩:=h2.reads
 clear h1 h2
 have HM:Hq (ae w w):=ae.refl w
 by_cases h0:xs.length=0
 ·rw[h0]
  clear r1 r2 h0 hl
  go_enter Tryz.func35,Tryz.ntmps35
  go_wp2_with fail
  go_loop [5] (fun i=>i=.int .i64 0) (fun _=>0)
  case atStart=>rfl
  case round =>
   obtain rfl:=hrel
   go_wp2_with fail
   go_ret
   exact⟨rfl,HM.o⟩
 ·obtain⟨g1,rfl,_,hg1,q1⟩:=r1 0 (by omega)
  obtain⟨g2,rfl,_,hg2,q2⟩:=r2 0 (by omega)
  have H1:=hQQ q1
  have H2:=hQQ q2
  clear r1 r2 q1 q2
  go_enter Tryz.func35,Tryz.ntmps35
  go_wp2_with fail
  go_loopw [5] (fun i wr=>∃k:Nat,k≤xs.length∧i=.int .i64 k∧ae w wr) (fun i _=>xs.length-(intOf i).toNat)
  case atStart=>exact⟨0,Nat.zero_le _,rfl,HM.o⟩
  case round =>
   obtain⟨k,hk,rfl,ht⟩:=hrel
   by_cases hlt:k<xs.length
   ·have x1:=ht.cell (H1.o k hlt)
    have x2:=ht.cell (H2.o k hlt)
    have Ht:=hQQ ht
    clear ht
    generalize xs.getD k 0=z at x1 x2
    go_wp2_with fail
    go_quiet (fail)
    go_wp2_with fail
    go_roundw
    case rel=>exact⟨k+1,by omega,by go_num,Ht.o.drewN _⟩
    case measure=>simp[intOf];omega
   ·go_wp2_with fail
    go_ret
    exact⟨rfl,ht⟩
def jx (w:World)(a:Option Addr)(zs:List Int):Prop :=
 zs= []∨∃s o,a=some ⟨s,o,none⟩∧s<w.heap.size∧∀i,i<zs.length→w.cell? ⟨s,o+i,none⟩=some (.int .i64 (zs.getD i 0))
theorem qF (a:Option Addr)(cap:Nat)(zs:List Int)(w:World)(h:jx w a zs)(hl:zs.length≤1000000):
 Calls Tryz.prog 41 #[.slice a zs.length cap] w fun e w'=>∃a' cap',e=.returned (.slice a' zs.length cap')∧RowAt w' 3 (zs.map (Value.int .i64)) a' cap'∧(∀k,c6 a' k→w.heap.size≤k)∧ae w w':=by
 have fin:∀ {v':Value} {w':World},w'.ownsRow w.heap.size 3 1 v' zs.length (zs.map (Value.int .i64))→Below w.heap.size w w'→∃a' cap',Ending.returned v'= .returned (.slice a' zs.length cap')∧RowAt w' 3 (zs.map (Value.int .i64)) a' cap'∧(∀k,c6 a' k→w.heap.size≤k)∧ae w w':=by
  intro v' w' ho hb
  obtain⟨a',cap',rfl,hr,hn,_⟩:=RowAt.of_own ho
  exact⟨a',cap',rfl,hr,hn,jP hb⟩
 cases a with
 |none =>
  obtain rfl:zs= []:=by
   rcases h with h|⟨s,o,h,_⟩
   ·exact h
   ·cases h
  refine(AnyG.slices_Clone_int_nil Tryz.lCloneN 0 cap w).mono ?_
  rintro e w' ⟨rfl,rfl⟩
  exact⟨none,0,rfl,RowAt.nil _ _,(fun k hk=>by cases hk),ae.refl _⟩
 |some b =>
  by_cases h0:zs= []
  ·subst h0
   refine(AnyG.slices_Clone_int_zero Tryz.lCloneN b cap w).mono ?_
   rintro e w' ⟨v',rfl,ho,_,hb⟩
   exact fin ho hb
  ·obtain⟨s,o,e,hs,hc⟩:=h.resolve_left h0
   cases e
   refine(AnyG.slices_Clone_int Tryz.lCloneN s o zs.length cap zs w (Nat.le_refl _) (by omega) hc).mono ?_
   rintro e w' ⟨v',rfl,ho,_,hb⟩
   rw[List.take_length] at ho
   exact fin ho hb
def jd (w:World)(zs:List Int)(D:List KV)(a:Option Addr)(cap:Nat)(vn:Value)(e:Ending)(w':World):Prop :=
 Turned (c6 a) w w'∧((jZ zs D=true∧e=.returned (.tuple #[.slice a zs.length cap,vn,.int .i64 0])∧RowAt w' 3 ((cj zs D).map (Value.int .i64)) a cap) ∨
  (jZ zs D=false∧e=.returned (.tuple #[.slice none 0 0,.slice none 0 0,.int .i64 3])))
theorem vd (zs:List Int)(D:List KV)(a ad an:Option Addr)(cap cd n cn:Nat)(w:World)(hr:RowAt w 3 (zs.map (Value.int .i64)) a cap)(hd:oO w ad D)(hl:D.length≤1000000)(hz:zs.length≤1000000)(hD:OkD D)(hne:∀k,im ad k→¬c6 a k):
 Calls Tryz.prog 43 #[.slice a zs.length cap,.slice an n cn,.slice ad D.length cd] w (jd w zs D a cap (.slice an n cn)):=by
 have HR:=hQQ hr;have HD:=hQQ hd;have HO:=hQQ hD;have HN:=hQQ hne
 clear hr hd hD hne
 go_enter Tryz.func43,Tryz.ntmps43
 go_wp2_with fail
 go_loopw [13] (fun u wr=>∃i:Nat,u=.int .i64 i∧i≤D.length∧jZ zs (D.take i)=true∧RowAt wr 3 ((cj zs (D.take i)).map (Value.int .i64)) a cap∧Turned (c6 a) w wr) (fun u _=>D.length-(intOf u).toNat)
 case atStart=>exact⟨0,rfl,by omega,rfl,HR.o,Turned.refl _ _⟩
 case round =>
  obtain⟨i,rfl,hi,hf,hr,ht⟩:=hrel
  have HF:=hQQ hf;have HR2:=hQQ hr;have HT:=hQQ ht
  clear hf hr ht
  by_cases hlt:i<D.length
  ·obtain⟨⟨k,v⟩,hp⟩:∃p,D[i]?=some p:=⟨_,List.getElem?_eq_getElem hlt⟩
   obtain⟨s,o,rfl,hs,hc⟩:=(HD.o.keep HT.o HN.o).resolve_left (by intro q;rw[q] at hlt;simp at hlt)
   obtain⟨c0,c1⟩:=hc i _ hp
   simp only at c0 c1
   obtain⟨hk0,_,_⟩:=HO.o _ (List.mem_of_getElem? hp)
   simp only at hk0
   have HP:=hQQ hp
   clear hc hp
   by_cases hk:k<zs.length
   ·obtain⟨j,rfl⟩:∃j:Nat,k=j:=⟨k.toNat,by omega⟩
    have d1:decide ((zs.length:Int)≤(j:Int))=false:=by simp;omega
    have hj:j<zs.length:=by omega
    have hlen:=d6 (D.take i) zs
    have hrow:=HR2.o
    rcases hrow with⟨rfl,rfl,hx⟩|⟨g,cur,rfl,hg,hn,hm,hsz,htk⟩
    ·have:=congrArg List.length hx;rw[List.length_map,hlen,List.length_nil] at this;omega
    have hgl:=ac hg
    have hcell:wr.cell? ⟨g,j,none⟩=cur[j]? :=by simp[World.cell?,hg]
    have hcell2:∃u,wr.cell? ⟨g,j,none⟩=some u:=by
     have:j<cur.size:=by rw[List.length_map,hlen] at hn;omega
     exact⟨cur[j],by rw[hcell,Array.getElem?_eq_getElem this]⟩
    obtain⟨u0,hu⟩:=hcell2
    have hfr:wr.frozen? ⟨g,j,none⟩=false:=by simp[World.frozen?,hg]
    have NX:Hq (jZ zs (D.take (i+1))=true∧RowAt ((wr.setCell ⟨g,j,none⟩ (.int .i64 v)).alloc (.cells #[.int .i64 (j:Int),.int .i64 v] 88)) 3 ((cj zs (D.take (i+1))).map (Value.int .i64)) (some ⟨g,0,none⟩) cap∧Turned (c6 (some ⟨g,0,none⟩)) w ((wr.setCell ⟨g,j,none⟩ (.int .i64 v)).alloc (.cells #[.int .i64 (j:Int),.int .i64 v] 88))):=hQQ (by
     rw[DQ HP.o,Ap,ye,HF.o]
     refine⟨by simp;omega,?_,(bF HT.o (fun _=>rfl) _).alloc _⟩
     have r2:=uM (i:=j) (.int .i64 v) HR2.o (by simp[hlen];omega)
     have r3:=r2.keep ((ae.refl _).alloc (.cells #[.int .i64 (j:Int),.int .i64 v] 88)) (fun _ _ q=>q)
     simpa [List.map_set] using r3)
    clear hn hm hsz htk hg hcell hk
    go_wp2_with fail
    go_roundw
    case rel=>exact⟨i+1,by go_num,by omega,NX.o.1,NX.o.2.1,NX.o.2.2⟩
    case measure=>simp[intOf];omega
   ·have d1:decide ((zs.length:Int)≤k)=true:=by simp;omega
    have FIN:Hq (∀w',ae wr w'→jd w zs D a cap (.slice an n cn) (.returned (.tuple #[.slice none 0 0,.slice none 0 0,.int .i64 3])) w'):=hQQ fun w' t=>⟨am (F':=fun _=>False) HT.o t (fun _ q=>q.elim),.inr ⟨DR HP.o hk,rfl⟩⟩
    have HM:Hq (∀o,ae wr (wr.alloc o)):=hQQ fun o=>(ae.refl wr).alloc o
    clear hk
    go_wp2_with fail
    go_ret3
    exact FIN.o _ (HM.o _)
  ·obtain rfl:i=D.length:=by omega
   have FIN:Hq (jd w zs D a cap (.slice an n cn) (.returned (.tuple #[.slice a zs.length cap,.slice an n cn,.int .i64 0])) wr):=hQQ ⟨HT.o,.inl ⟨by have:=HF.o;rwa [List.take_length] at this,rfl,by have:=HR2.o;rwa [List.take_length] at this⟩⟩
   go_wp2_with fail
   go_ret3
   exact FIN.o
def qG:Value→Nat
 | .slice _ n _=>n
 | _=>0
structure Oj (w wb wr:World)(M:Nat)(zs:List Int)(sem:List KV→Ran)(R:Option (List Int×List KV))(K:List KV)(v:Value):Prop where
 okn:jQ zs K
 res:doP sem zs (zs.length+1-K.length) K=R
 row:PRw wb.heap.size wr v K
 known:KnownAt wr M K.length (look K)
 turn:Turned (fun k=>k=M) wb wr
theorem KnownAt.of_block {w w':World}{M n:Nat}{kn:Int→Option Int}(h:KnownAt w M n kn)(e:∀ob,w.heap[M]?=some ob→w'.heap[M]?=some ob):KnownAt w' M n kn:=by
 obtain⟨D,⟨es,clock,hb,F⟩,hk⟩:=h
 exact⟨D,⟨es,clock,e _ hb,F⟩,hk⟩
def gO (w:World)(F S:Nat→Prop)(Y X:World→Prop)(p:Nat)(kn:Int→Option Int)(R:Ran)(e:Ending)(w':World):Prop :=
 match R with
 | .need a=>e=.panicked (aY p)∧aQ w' p a∧Turned (fun k=>F k∨S k) w w'∧Y w'
 | .done D=>e=.returned (.tuple #[])∧(∃F',aK w' F' p kn D)∧Turned (fun k=>F k∨S k) w w'∧Y w'∧X w'
def Nr (w:World)(S:Nat→Prop)(Y X:World→Prop)(R:Ran)(e:Ending)(w':World):Prop :=
 match R with
 | .need a=>e=.returned (.tuple #[.int .i64 a,.slice none 0 0])∧Turned S w w'∧Y w'
 | .done D=>∃v p,e=.returned (.tuple #[.int .i64 (-1),v])∧PRw w.heap.size w' v D∧Turned S w w'∧Y w'∧X w'∧aQ w' p (-1)
theorem Jq (kn:Int→Option Int)(R:Ran)(M n:Nat)(w:World)(hk:KnownAt w M n kn)(f:Nat)(cap:Array Value)(S:Nat→Prop)(Y X:World→Prop)
 (henter:∀args w,Sem.run Tryz.prog (callFunc f args) w=.ok (.enter f args) w) (hS:∀k,S k→k<w.heap.size) (hY:∀w' w'',Y w'→Turned (fun k=>w.heap.size≤k) w' w''→Y w'') (hX:∀w' w'',X w'→Turned (fun k=>w.heap.size≤k) w' w''→X w'') (hY0:Y w)
 (hprog:∀(W:World) (F:Nat→Prop) (p:Nat),ae w W→Y W→aK W F p kn []→(∀k,F k→w.heap.size≤k)→Calls Tryz.prog f (#[.pointer (some ⟨p,0,none⟩)]++cap) W (gO W F S Y X p kn R)):
 Calls Tryz.prog 42 #[.map (some M),.func (.func f) #[] cap] w (Nr w S Y X R):=by
 have hq:∀w,Sem.run Tryz.prog (binOp BinOp.eql 52 (Value.func (.func f) #[] cap) Value.nilFunc) w=.ok (.bool false) w:=fun w=>kE w _ Tryz.underlying52 _ _ _
 have hmf:∀(fn:Fn) (first cap:Array Value) (w:World),(Instr.makeFunc fn first cap).run Tryz.prog w=.ok (.func fn first cap) w:=fun _ _ _ _=>rfl
 have HK:=hQQ hk
 have HS:=hQQ hS
 have HX:=hQQ hX
 have HY:=hQQ hY
 have HY0:=hQQ hY0
 have HP:=hQQ hprog
 clear hk hS hX hY hY0 hprog
 go_enter_defers Tryz.func42,Tryz.ntmps42
 go_wp2_with fail
 refine(Ge _).mono ?_
 rintro e w1 ⟨F0,q,rfl,m1,M1,n1⟩
 obtain⟨F,hbeg⟩:=yd HK.o m1 M1 n1
 have HB:=hQQ hbeg
 have hws:w.heap.size<w1.heap.size:=by have:=M1.size;simp at this;omega
 clear hbeg m1 M1 n1
 go_wp2_with fail
 change Calls _ _ _ ((w1.alloc (.cells (cD (some ⟨w1.heap.size,0,none⟩) M q (-1)) 110)).alloc (.cells #[.pointer (some ⟨w1.heap.size,0,none⟩)] 43)) _
 generalize (w1.alloc (.cells (cD (some ⟨w1.heap.size,0,none⟩) M q (-1)) 110)).alloc (.cells #[.pointer (some ⟨w1.heap.size,0,none⟩)] 43)=W at HB⊢
 generalize w1.heap.size+1=bv at HB⊢
 generalize w1.heap.size=p at HB⊢
 have hlw:Hq (∀k,k<w.heap.size→k≠bv∧k≠p):=hQQ fun k hk=>by have:=HB.o.lv;have:=HB.o.lp;omega
 clear hws
 refine(HP.o W F p HB.o.more (HY.o _ _ HY0.o (Turned.mono HB.o.more (fun _ _ q=>q.elim))) HB.o.view HB.o.new).mono ?_
 intro e w2 he
 cases R with
 |need a =>
  obtain⟨rfl,hd,ht,hy⟩:=he
  obtain⟨hv2,hn2,ne1,ne2⟩:=rB HB.o HS.o ht
  change bodyPostD _ _ _ (Exit.panic (aY p)) _ _
  refine leaves_cons (f:=77) (args:=#[.pointer (some ⟨bv,0,none⟩),.pointer (some ⟨w.heap.size,0,none⟩)]) (by simp) (by simp[go_sem]) ?_
  refine(uW p bv w.heap.size a 0 w2 hd hv2 hn2 ne1 ne2 HB.o.vn).mono ?_
  rintro e u' w3 ⟨rfl,rfl,hc⟩
  obtain⟨b0,_,_⟩:=aE hc.2.1
  have FIN:Turned S w w3∧Y w3:=⟨oP HB.o ht hc.2.2,HY.o _ _ hy (hc.2.2.mono (fun k _ q=>by have:=HB.o.lp;rcases q with q|q<;>omega))⟩
  simp[Leaves,settle,results,Tryz.results42,go_sem,b0]
  exact⟨rfl,FIN⟩
 |done D =>
  obtain⟨rfl,⟨F',hv⟩,ht,hy,hx⟩:=he
  obtain⟨hv2,hn2,ne1,ne2⟩:=rB HB.o HS.o ht
  obtain⟨M',q',n',F0',hp2,hk2,hm2,fp2,f02,fM2⟩:=hv.ex
  obtain⟨c0,c1,c2,c3,cf,cl⟩:=cT hp2
  obtain⟨v0,vf,vl⟩:=aE hv2
  have TOLD:=hQQ (Cx F0' p q' D w2 c2 hm2)
  have HT:=hQQ ht
  have HX2:=hQQ hx
  have HY2:=hQQ hy
  have HP2:=hQQ hp2
  have HV2:=hQQ hv2
  have HN2:=hQQ hn2
  clear hv hk2 hm2 fp2 f02 fM2 hp2 hv2 hn2 ht hx hy
  go_wp2_with fail
  refine TOLD.o.mono ?_
  rintro e w3 ⟨v,rfl,hr,hm3⟩
  obtain⟨n0,nf,nl⟩:=aE (hm3.block HN2.o)
  have HR:=hQQ hr
  have HM3:=hQQ hm3
  clear hr hm3
  go_wp2_with fail
  have t4:Turned (fun k=>k=p∨k=w.heap.size) w3 (w3.setCell ⟨w.heap.size,0,none⟩ (.int .i64 (-1))):=bF (Turned.refl _ w3) (fun _=> .inr rfl) _
  have hp4:(w3.setCell ⟨w.heap.size,0,none⟩ (.int .i64 (-1))).heap[p]?=_:=(Below.heap_setCell _ _ _ _ (Ne.symm ne2)).trans (HM3.o.block HP2.o)
  have hv4:(w3.setCell ⟨w.heap.size,0,none⟩ (.int .i64 (-1))).heap[bv]?=_:=(Below.heap_setCell _ _ _ _ HB.o.vn).trans (HM3.o.block HV2.o)
  have hn4:=kF (.int .i64 (-1)) (HM3.o.block HN2.o)
  have hm3:=HM3.o
  have hr:=HR.o
  have hlp2:=cl
  have hln2:w.heap.size<w2.heap.size:=ac HN2.o
  generalize w3.setCell ⟨w.heap.size,0,none⟩ (.int .i64 (-1))=w4 at t4 hp4 hv4 hn4⊢
  refine leaves_cons (f:=77) (args:=#[.pointer (some ⟨bv,0,none⟩),.pointer (some ⟨w.heap.size,0,none⟩)]) (by simp) (by simp[go_sem]) ?_
  refine(sj p bv w.heap.size M' q' (-1) w4 hp4 hv4 hn4 ne1 ne2 HB.o.vn).mono ?_
  rintro e u' w5 ⟨rfl,rfl,hc⟩
  obtain⟨b0,_,_⟩:=aE hc.2.1
  have t35:Turned (fun k=>k=p∨k=w.heap.size) w3 w5:=t4.trans hc.2.2
  have FIN:Nr w S Y X (.done D) (.returned (.tuple #[.int .i64 (-1),v])) w5:=by
   refine⟨v,p,rfl,(hr.keep t35 (fun k hk q=>by rcases q with q|q<;>omega)).mono (by omega),?_,?_,?_,hc.1⟩
   ·exact oP HB.o HT.o ((Turned.mono hm3 (fun _ _ q=>q.elim)).trans t35)
   ·have hlp:=HB.o.lp
    exact HY.o w2 w5 HY2.o ((Turned.mono hm3 (fun _ _ q=>q.elim)).trans (t35.mono (fun k _ q=>by rcases q with q|q<;>omega)))
   ·have hlp:=HB.o.lp
    exact HX.o w2 w5 HX2.o ((Turned.mono hm3 (fun _ _ q=>q.elim)).trans (t35.mono (fun k _ q=>by rcases q with q|q<;>omega)))
  simp[Leaves,settle,results,Tryz.results42,go_sem,b0]
  exact FIN
theorem oU {ops:Array Oper}{rest:List Oper}{o:Oper}{a:Act}{Q:Exit→Act→World→Prop}{S:Nat→Prop}{w wa:World}{v:Value}{ps:List KV}(p q:Int)(hgd:o.guard=none)(s x:Operand)
 (ho:o.op=.call { callee:= .builtin .append,args:= #[s,x],argTypes:= #[39,39] })
 (hs:a.eval s=v) (hn:PRw wa.heap.size w v ps) (hW:Turned S wa w) (hl:ps.length≤1000000)
 (hx:a.eval x=.slice (some ⟨w.heap.size,0,none⟩) 1 1)
 (h:∀g cap w',PRw wa.heap.size w' (.slice (some ⟨g,0,none⟩) (ps.length+1) cap) (ps++ [(p,q)])→Turned S wa w'→(∀k ob,w.heap[k]?=some ob→v.ownBlock≠some k→w'.heap[k]?=some ob)→Turned (fun k=>v.ownBlock=some k) w w'→wpList Tryz.prog ops Q rest (a.put o.dst (.slice (some ⟨g,0,none⟩) (ps.length+1) cap)) w'):wpList Tryz.prog ops Q (o::rest) a (w.alloc (.cells #[.int .i64 p,.int .i64 q] 88)):=by
 obtain⟨i,i1,i2,i3,i4⟩:=uV
 have hn':=hn.more ((ae.refl w).alloc (.cells #[.int .i64 p,.int .i64 q] 88))
 have hB:=bh w (.cells #[.int .i64 p,.int .i64 q] 88)
 refine wpList_append_lies _ hgd s x 39 ho wa.heap.size 88 i _ 2 16 Tryz.underlying39 i1 i2 i3 i4 rfl (by omega) v ps.length _ hs hn' ⟨w.heap.size,0,none⟩ 1 1 [.int .i64 p,.int .i64 q] hx (by simp)
  (fun j u hu=>World.news_of_block hB j u (by simpa using hu)) (by intro u hu;simp at hu;rcases hu with rfl|rfl<;>rfl) (by omega) (by simp only[maxLen];omega) (by omega) (by have:=hW.size;simp;omega) _ rfl ?_
 intro g cap w1 hown hgrow _ _
 have ht:Turned (fun k=>v.ownBlock=some k) w w1:=⟨hgrow.os,hgrow.tape,hgrow.output,Nat.le_trans (by simp) hgrow.size,fun k hk hne=>by
  rw[hgrow.block k (by simp;omega) (fun e=>hne e.symm),Below.heap_alloc _ _ _ hk]⟩
 refine h g cap w1 ?_ (iA (hW.alloc _) hn' hgrow) (fun k ob hk hne=>by rw[Turned.block ht k (ac hk) hne];exact hk) ht
 unfold PRw
 rw[List.length_append,ja]
 exact hown
def Jr (w:World)(S:Nat→Prop)(Y X:World→Prop)(R:Option (List Int×List KV))(e:Ending)(w':World):Prop :=
 match R with
 |none=>e=.returned (.tuple #[.slice none 0 0,.slice none 0 0,.int .i64 3])∧Turned S w w'∧Y w'
 |some (ws,K)=>∃v1 v2,e=.returned (.tuple #[v1,v2,.int .i64 0])∧Rw w.heap.size w' v1 ws∧PRw w.heap.size w' v2 K∧Turned S w w'∧Y w'∧X w'
structure OnY (w wb wr:World)(S:Nat→Prop)(Y:World→Prop)(M:Nat)(zs:List Int)(sem:List KV→Ran)(R:Option (List Int×List KV))(K:List KV)(v:Value):Prop where
 okn:jQ zs K
 res:doP sem zs (zs.length+1-K.length) K=R
 row:PRw wb.heap.size wr v K
 known:KnownAt wr M K.length (look K)
 turn:Turned (fun k=>k=M∨S k) wb wr
 y:Y wr
theorem Js {w wb wr w2 w3:World}{S:Nat→Prop}{Y X:World→Prop}{M:Nat}{zs:List Int}{sem:List KV→Ran}{R:Option (List Int×List KV)}{K D:List KV}{a' an:Option Addr}{cap' cn:Nat}{e:Ending}(h:OnY w wb wr S Y M zs sem R K (.slice an K.length cn))(hs:sem K=.done D)(mb:ae w wb)(hM:w.heap.size≤M)
 (hl:∀k,c6 a' k→w.heap.size≤k∧k<wb.heap.size) (hS:∀k,S k→k<w.heap.size) (m2:Turned S wr w2) (hf:jd w2 zs D a' cap' (.slice an K.length cn) e w3)
 (hY:∀w' w'',Y w'→Turned (fun k=>w.heap.size≤k) w' w''→Y w'') (hX:∀w' w'',X w'→Turned (fun k=>w.heap.size≤k) w' w''→X w'') (y2:Y w2) (x2:X w2):Jr w S Y X R e w3:=by
 have hR:=yh h.okn hs h.res
 have mbS:Turned S w wb:=Turned.mono mb (fun _ _ q=>q.elim)
 have t3:Turned S w w3:=by
  have t1:Turned S w wr:=am mbS h.turn (fun k q=>by rcases q with q|q;exact .inr (by omega);exact .inl q)
  exact am (am t1 m2 (fun k q=> .inl q)) hf.1 (fun k q=> .inr (hl k q).1)
 have t23:Turned (fun k=>w.heap.size≤k) w2 w3:=hf.1.mono (fun k _ q=>(hl k q).1)
 rcases hf.2 with⟨h1,h2,h3⟩|⟨h1,h2⟩
 ·rw[hR,if_pos h1]
  have hlen:(cj zs D).length=zs.length:=d6 D zs
  refine⟨_,_,h2,?_,?_,t3,hY _ _ y2 t23,hX _ _ x2 t23⟩
  ·have:=h3.own (base:=w.heap.size) (fun k q=>(hl k q).1)
   unfold Rw
   rw[List.length_map,hlen] at this
   rw[hlen];exact this
  ·have hb:=mb.size
   exact((h.row.keep m2 (fun k hk q=>by have:=hS k q;omega)).keep hf.1 (fun k hk q=>by have:=(hl k q).2;omega)).mono mb.size
 ·rw[hR,h1]
  exact⟨h2,t3,hY _ _ y2 t23⟩
theorem Lp (a:Option Addr)(cap:Nat)(zs:List Int)(sem:List KV→Ran)(R:Option (List Int×List KV))(b:Nat)(w:World)(hz:jx w a zs)(hlen:zs.length≤1000)(hok:OkW zs)(hfine:wF zs b sem)(hb:b≤100000)(hR:doP sem zs (zs.length+1) []=R)(f:Nat)(clo:Array Value)(S:Nat→Prop)(Y X:World→Prop)(hS:∀k,S k→k<w.heap.size)
 (hY:∀w' w'',Y w'→Turned (fun k=>w.heap.size≤k) w' w''→Y w'') (hX:∀w' w'',X w'→Turned (fun k=>w.heap.size≤k) w' w''→X w'') (hY0:Y w)
 (henter:∀args w,Sem.run Tryz.prog (callFunc f args) w=.ok (.enter f args) w)
 (hprog:∀(K:List KV),jQ zs K→∀(W:World) (F:Nat→Prop) (p:Nat),Turned S w W→Y W→aK W F p (look K) []→(∀k,F k→w.heap.size≤k)→Calls Tryz.prog f (#[.pointer (some ⟨p,0,none⟩)]++clo) W (gO W F S Y X p (look K) (sem K))):
 Calls Tryz.prog 9 #[.slice a zs.length cap,.func (.func f) #[] clo] w (Jr w S Y X R):=by
 have hmm:= @run_makeMap Tryz.prog
 have CL:=hQQ (qF a cap zs w hz (by omega))
 have HOK:=hQQ hok
 have HF:=hQQ hfine
 have HR0:=hQQ hR
 have HE:=hQQ henter
 have HP:=hQQ hprog
 have HSS:=hQQ hS
 have HY:=hQQ hY
 have HX:=hQQ hX
 have HY0:=hQQ hY0
 clear hz hok hfine hR henter hprog hS hY hX hY0
 go_enter Tryz.func9,Tryz.ntmps9
 go_wp2_with fail
 refine CL.o.mono ?_
 rintro e w1 ⟨a',cap',rfl,hr1,hn1,hm1⟩
 have DO0:Hq (OnY w (w1.alloc (.map #[] 0)) (w1.alloc (.map #[] 0)) S Y w1.heap.size zs sem R [] (.slice none 0 0)):=hQQ
  ⟨oQ zs,HR0.o,PRw.nil _ _,KnownAt.made w1,Turned.refl _ _,HY.o _ _ HY0.o (Turned.mono (hm1.alloc _) (fun _ _ q=>q.elim))⟩
 have MB:Hq (ae w (w1.alloc (.map #[] 0))):=hQQ (hm1.alloc _)
 have RB:=hQQ (hr1.keep ((ae.refl w1).alloc (.map #[] 0)) (fun _ _ q=>q))
 have HL:Hq (∀k,c6 a' k→w.heap.size≤k∧k<(w1.alloc (.map #[] 0)).heap.size∧k≠w1.heap.size):=hQQ fun k q=>⟨hn1 k q,by have:=hr1.lt k q;simp;omega,by have:=hr1.lt k q;omega⟩
 have hwM:w.heap.size≤w1.heap.size:=hm1.size
 have hMb:w1.heap.size<(w1.alloc (.map #[] 0)).heap.size:=by simp
 clear hr1 hn1 hm1 CL
 go_wp2_with fail
 generalize w1.alloc (.map #[] 0)=wb at DO0 MB RB HL hMb⊢
 generalize w1.heap.size=M at DO0 HL hwM hMb⊢
 go_loopw [8] (fun u8 wr=>∃K,OnY w wb wr S Y M zs sem R K u8∧qG u8=K.length) (fun u8 _=>zs.length+1-qG u8)
 case atStart=>exact⟨[],DO0.o,rfl⟩
 case round =>
  obtain⟨K,hdo,hln⟩:=hrel
  obtain⟨an,cn,rfl,hpn,_⟩:=hdo.row.reads
  have DO:=hQQ hdo
  have hKl:=hdo.okn.len
  have hsz:w.heap.size≤wr.heap.size:=Nat.le_trans MB.o.size hdo.turn.size
  have hmr:Turned S w wr:=am (Turned.mono MB.o (fun _ _ q=>q.elim)) hdo.turn (fun k q=>by rcases q with q|q;exact .inr (by omega);exact .inl q)
  have LS:=hQQ (fun k (q:S k)=>HSS.o k q)
  have RUN:=hQQ (Jq (look K) (sem K) M K.length wr hdo.known f clo S Y X HE.o (fun k q=>Nat.lt_of_lt_of_le (HSS.o k q) hsz) (fun w' w'' h t=>HY.o w' w'' h (t.mono (fun k _ q=>Nat.le_trans hsz q))) (fun w' w'' h t=>HX.o w' w'' h (t.mono (fun k _ q=>Nat.le_trans hsz q))) hdo.y
   (fun W F p m y v n=>HP.o K hdo.okn W F p (am (F':=fun _=>False) hmr m (fun _ q=>q.elim)) y v (fun k hk=>Nat.le_trans hsz (n k hk))))
  have HFK:=hQQ (HF.o K hdo.okn)
  have RW:Hq (RowAt wr 3 (zs.map (Value.int .i64)) a' cap'):=hQQ (RB.o.keep hdo.turn (fun k q e=>by rcases e with e|e;exact(HL.o k q).2.2 e;have:=HSS.o k e;have:=(HL.o k q).1;omega))
  clear hdo hpn hmr hsz DO0 hln
  go_wp2_with fail
  refine RUN.o.mono ?_
  intro e w2 he
  cases hs:sem K with
  |need x =>
   rw[hs] at he
   obtain⟨rfl,hm2,hy2⟩:=he
   have HS:=hQQ hs
   have hx0:0≤x:=by have:=HFK.o;rw[hs] at this;exact this.1
   clear hs RUN
   obtain⟨j,rfl⟩:∃j:Nat,x=j:=⟨x.toNat,by omega⟩
   have HM2:Hq (Turned S wr w2):=hQQ hm2
   have Y2:=hQQ hy2
   have nSM:¬S M:=fun q=>by have:=HSS.o M q;omega
   have nSa:∀k,c6 a' k→¬S k:=fun k q r=>by have:=HSS.o k r;have:=(HL.o k q).1;omega
   have bW:w.heap.size≤wb.heap.size:=MB.o.size
   clear hm2 hy2
   have HFJ:=HFK.o
   rw[HS.o] at HFJ
   by_cases hj:j<zs.length
   ·obtain⟨q1,q2,q3,q4⟩:=yg DO.o.okn HFK.o HS.o (by omega) DO.o.res
    have d1:decide ((zs.length:Int)≤(j:Int))=false:=by simp;omega
    have d3:decide (zs.length≤j)=false:=by simp;omega
    have d2:decide ((j:Int)<0)=false:=by simp
    have hrow:=RW.o.keep HM2.o nSa
    obtain⟨g,rfl,hg,hcell,_⟩:=hrow.reads (by simp;omega)
    have hgM:g≠M:=(HL.o g rfl).2.2
    have cw:w2.cell? ⟨g,j,none⟩=some (.int .i64 (wAt zs j)):=by
     refine hcell j _ ?_
     unfold wAt
     rw[List.getElem?_map,List.getElem?_eq_getElem hj]
     simp[List.getD,hj]
    obtain⟨w3,hst,hk3,ht3⟩:=(DO.o.known.keep HM2.o nSM).store HFJ.2.1 (Aq HOK.o j) (by unfold maxLen;omega)
    rw[uY q4] at hk3
    have T23:=hQQ ht3
    have K3:=hQQ hk3
    have cw3:=eh ht3 hgM cw
    have hg3:g<w3.heap.size:=Nat.lt_of_lt_of_le hg ht3.size
    have TB3:Hq (Turned (fun k=>k=M∨S k) wb w3):=hQQ ((am DO.o.turn HM2.o (fun _ q=> .inl (.inr q))).trans (ht3.mono (fun _ _ q=> .inl q)))
    have YW3:Hq (Y w3):=hQQ (HY.o _ _ Y2.o (ht3.mono (fun k _ q=>by subst q;exact hwM)))
    have R3:Hq (PRw wb.heap.size w3 (.slice an K.length cn) K):=hQQ ((DO.o.row.keep HM2.o (fun k hk q=>by have:=HSS.o k q;omega)).keep ht3 (fun k hk e=>by omega))
    have NX:Hq (∀w4 v,PRw wb.heap.size w4 v (K++ [((j:Int),wAt zs j)])→Turned (fun k=>k=M∨S k) wb w4→(∀k ob,w3.heap[k]?=some ob→(Value.slice an K.length cn).ownBlock≠some k→w4.heap[k]?=some ob)→Y w4→OnY w wb w4 S Y M zs sem R (K++ [((j:Int),wAt zs j)]) v):=hQQ fun w4 v h1 h2 h3 h5 =>
     ⟨q1,q2,h1,by rw[List.length_append];exact K3.o.of_block (fun ob ho=>h3 M ob ho (fun e=>by have:=(DO.o.row.lt M e).1;omega)),h2,h5⟩
    clear hrow hcell hk3 ht3 q1 q2 q3 q4 HFJ
    generalize wAt zs j=z at cw hst cw3 NX
    go_wp2_with (at_builtin;refine oU (S:=fun k=>k=M∨S k) (wa:=wb) (ps:=K) (j:Int) z rfl _ _ rfl rfl R3.o TB3.o (by omega) rfl ?_;intro g4 c4 w4 h4 t4 k4 u4;have N4:=hQQ (NX.o _ _ h4 t4 k4 (HY.o _ _ YW3.o (u4.mono (fun k _ q=>Nat.le_trans bW (DO.o.row.lt k q).1))));clear h4 t4 k4 u4)
    go_roundw
    case rel=>exact⟨_,N4.o,by simp[qG]⟩
    case measure=>simp[qG];omega
   ·have hn:=Cy DO.o.okn HS.o (by omega) DO.o.res
    subst hn
    have d1:decide ((zs.length:Int)≤(j:Int))=true:=by simp;omega
    have d3:decide (zs.length≤j)=true:=by simp;omega
    have d2:decide ((j:Int)<0)=false:=by simp
    have FIN:Hq (Jr w S Y X none (.returned (.tuple #[.slice none 0 0,.slice none 0 0,.int .i64 3])) w2):=hQQ ⟨rfl,am (am (Turned.mono MB.o (fun _ _ q=>q.elim)) DO.o.turn (fun k q=>by rcases q with q|q;exact .inr (by omega);exact .inl q)) HM2.o (fun k q=> .inl q),Y2.o⟩
    clear HFJ hj
    go_wp2_with fail
    go_ret3
    exact FIN.o
  |done D =>
   rw[hs] at he
   obtain⟨v,p,rfl,hr,hm2,hy2,hx2,_⟩:=he
   have nSa:∀k,c6 a' k→¬S k:=fun k q r=>by have:=HSS.o k r;have:=(HL.o k q).1;omega
   obtain⟨ad,cd,rfl,hpd,hbd⟩:=hr.reads
   have hfk:=HFK.o
   rw[hs] at hfk
   have FINI:=hQQ (vd zs D a' ad an cap' cd K.length cn w2 (RW.o.keep hm2 nSa) hpd (by have:=hfk.2.2;omega) (by omega) hfk.1 (fun k q r=>by have:=hbd k q;have:=(HL.o k r).2.1;have:=DO.o.turn.size;omega))
   have FIN:Hq (∀e w3,jd w2 zs D a' cap' (.slice an K.length cn) e w3→Jr w S Y X R e w3):=hQQ fun e w3 h=>Js DO.o hs MB.o hwM (fun k q=>⟨(HL.o k q).1,(HL.o k q).2.1⟩) HSS.o hm2 h HY.o HX.o hy2 hx2
   clear hs RUN hr hm2 hpd hbd hfk hy2 hx2
   go_wp2_with fail
   refine FINI.o.mono ?_
   intro e w3 he
   have hfin:=FIN.o e w3 he
   rcases he.2 with⟨_,rfl,_⟩|⟨_,rfl⟩
   ·have F2:=hQQ hfin
    clear hfin he
    go_wp2_with fail
    go_ret3
    exact F2.o
   ·have F2:=hQQ hfin
    clear hfin he
    go_wp2_with fail
    go_ret3
    exact F2.o
inductive Res (α:Type) where
 |need (a:Int)
 |ok (x:α) (D:List KV)
abbrev Prg (α:Type):=(Int→Option Int)→List KV→Res α
def aA {α:Type}(x:α):Prg α:=fun _ D=> .ok x D
def ar {α β:Type}(p:Prg α)(f:α→Prg β):Prg β:=fun kn D=>match p kn D with
 | .need a=> .need a
 | .ok x D'=>f x kn D'
def cW (a:Int):Prg Int:=fun kn D=>match dN kn D a with
 |none=> .need a
 |some y=> .ok y D
def cP (a x:Int):Prg Unit:=fun _ D=> .ok () (eE D a x)
def fo {α:Type} :Res α→Ran
 | .need a=> .need a
 | .ok _ D=> .done D
theorem ah {α β:Type}{p:Prg α}{f:α→Prg β}{kn:Int→Option Int}{D:List KV}{a:Int}(h:p kn D=.need a):ar p f kn D=.need a:=by unfold ar;rw[h]
theorem ak {α β:Type}{p:Prg α}{f:α→Prg β}{kn:Int→Option Int}{D D':List KV}{x:α}(h:p kn D=.ok x D'):ar p f kn D=f x kn D':=by unfold ar;rw[h]
theorem eS {kn:Int→Option Int}{D:List KV}{a y:Int}(h:dN kn D a=some y):cW a kn D=.ok y D:=by unfold cW;rw[h]
theorem je {kn:Int→Option Int}{D:List KV}{a:Int}(h:dN kn D a=none):cW a kn D=.need a:=by unfold cW;rw[h]
structure cF (n:Nat)(D:List KV):Prop where
 ok:OkD D
 asc:Asc D
 lt:∀p∈D,p.1<n
theorem d7 (n:Nat):cF n []:=⟨Jn,Cv,fun p h=>by cases h⟩
theorem cF.len {n:Nat}{D:List KV}(h:cF n D):D.length≤n:=by
 have hn:(D.map (·.1)).Nodup:=by
  have:=h.asc
  unfold Asc at this
  rw[List.Nodup,List.pairwise_map]
  exact this.imp (fun h=>by omega)
 have:=lF n (D.map (·.1)) hn fun x hx=>by
  obtain⟨p,hp,rfl⟩:=List.mem_map.1 hx
  exact⟨(h.ok p hp).1,h.lt p hp⟩
 simpa using this
theorem cF.fits {zs:List Int}{D:List KV}(h:cF zs.length D):jZ zs D=true:=by
 unfold jZ;rw[List.all_eq_true];intro p hp;simpa using h.lt p hp
theorem cF.write {n:Nat}{D:List KV}(h:cF n D){a x:Int}(ha:W64 a)(hn:a<n)(hx:W64 x):cF n (eE D a x):=
 ⟨DM h.ok ha hx,DN h.asc a x,fun p hp=>by
  unfold eE at hp
  split at hp
  ·exact h.lt p hp
  ·rcases xY hp with rfl|q
   ·exact hn
   ·exact h.lt p q⟩
def bV {α:Type}(n:Nat)(Q:α→Prop)(p:Prg α):Prop:=∀kn D,OkK kn→cF n D→match p kn D with
 | .need a=>0≤a∧a<n∧kn a=none
 | .ok x D'=>cF n D'∧Q x
def bH {α:Type}(p:Prg α):Prop:=∀kn kn' D,(∀a v,kn a=some v→kn' a=some v)→(∃a,p kn D=.need a)∨p kn D=p kn' D
theorem aj {α:Type}(n:Nat){Q:α→Prop}{x:α}(h:Q x):bV n Q (aA x):=fun _ _ _ hD=>⟨hD,h⟩
theorem au {α β:Type}{n:Nat}{Q:α→Prop}{Q':β→Prop}{p:Prg α}{f:α→Prg β}(h:bV n Q p)(hf:∀x,Q x→bV n Q' (f x)):bV n Q' (ar p f):=fun kn D hk hD=>by
 have h1:=h kn D hk hD
 cases e:p kn D with
 |need a=>rw[ah e];rw[e] at h1;exact h1
 |ok x D'=>rw[ak e];rw[e] at h1;exact hf x h1.2 kn D' hk h1.1
theorem bu (n:Nat){a:Int}(ha:a<n):bV n W64 (cW a):=fun kn D hk hD=>by
 cases e:dN kn D a with
 |none=>rw[je e];obtain⟨h0,_,h2⟩:=uQ e;exact⟨h0,ha,h2⟩
 |some y=>rw[eS e];exact⟨hD,Cw hk hD.ok e⟩
theorem aV (n:Nat){a x:Int}(ha:W64 a)(hn:a<n)(hx:W64 x):bV n (fun _=>True) (cP a x):=fun kn D hk hD=>⟨hD.write ha hn hx,trivial⟩
theorem dw {α:Type}{n:Nat}{Q Q':α→Prop}{p:Prg α}(h:bV n Q p)(hq:∀x,Q x→Q' x):bV n Q' p:=fun kn D hk hD=>by
 have h1:=h kn D hk hD
 cases e:p kn D with
 |need a=>rw[e] at h1;exact h1
 |ok x D'=>rw[e] at h1;exact⟨h1.1,hq x h1.2⟩
theorem bV.ok {α:Type}{n:Nat}{Q:α→Prop}{p:Prg α}(h:bV n Q p){kn:Int→Option Int}{D:List KV}(hk:OkK kn)(hD:cF n D){x:α}{D':List KV}(e:p kn D=.ok x D'):cF n D'∧Q x:=by
 have:=h kn D hk hD;rw[e] at this;exact this
theorem ai {α:Type}(x:α):bH (aA x):=fun _ _ _ _=> .inr rfl
theorem aq {α β:Type}{p:Prg α}{f:α→Prg β}(h:bH p)(hf:∀x,bH (f x)):bH (ar p f):=fun kn kn' D hk=>by
 rcases h kn kn' D hk with⟨a,e⟩|e
 ·exact .inl ⟨a,ah e⟩
 ·cases e1:p kn D with
  |need a=>exact .inl ⟨a,ah e1⟩
  |ok x D'=>rw[ak e1,ak (e.symm.trans e1)];exact hf x kn kn' D' hk
theorem dA (a:Int):bH (cW a):=fun kn kn' D hk=>by
 cases e:dN kn D a with
 |none=>exact .inl ⟨a,je e⟩
 |some y =>
  refine .inr ?_
  rw[eS e,eS]
  unfold dN at e⊢
  split
  ·rename_i q;rw[if_pos q] at e;exact e
  ·rename_i q
   rw[if_neg q] at e
   cases e1:look D a with
   |none=>rw[e1] at e;simp at e⊢;exact hk a y e
   |some v=>rw[e1] at e;simpa using e
theorem cX (a x:Int):bH (cP a x):=fun _ _ _ _=> .inr rfl
theorem aL {α:Type}{c:Prop} [Decidable c] {p q:Prg α}(h1:bH p)(h2:bH q):bH (if c then p else q):=by
 split
 ·exact h1
 ·exact h2
def sm (zs:List Int):Int→Option Int:=fun a=>if 0≤a∧a<zs.length then some (wAt zs a) else none
theorem jy {zs:List Int}(h:OkW zs):OkK (sm zs):=fun a v e=>by
 unfold sm at e
 split at e
 ·cases e;exact Aq h a
 ·cases e
theorem sn {zs:List Int}{K:List KV}(h:jQ zs K):∀a v,look K a=some v→sm zs a=some v:=fun a v e=>by
 obtain⟨h0,h1,h2⟩:=h.at' _ (oN e)
 simp only at h0 h1 h2
 unfold sm
 rw[if_pos ⟨h0,h1⟩,h2]
theorem sr {zs:List Int}{K:List KV}(h:jQ zs K)(hz:OkW zs):OkK (look K):=fun a v e=>jy hz a v (sn h a v e)
theorem wG {α:Type}{zs:List Int}{p:Prg α}{Q:α→Prop}{x:α}{D:List KV}(hS:bH p)(hG:bV zs.length Q p)(hz:OkW zs)(hf:p (sm zs) []=.ok x D):
 ∀(n:Nat) (K:List KV),jQ zs K→zs.length+1=K.length+n→∃K',jQ zs K'∧doP (fun K=>fo (p (look K) [])) zs n K=some (cj zs D,K')
 | 0,K,hK,hn=>by have:=hK.len;omega
 |n+1,K,hK,hn=>by
  have hg:=hG (look K) [] (sr hK hz) (d7 _)
  have hD:=(hG.ok (jy hz) (d7 _) hf).1
  unfold doP
  rcases hS (look K) (sm zs) [] (sn hK) with⟨a,e⟩|e
  ·rw[e] at hg⊢
   obtain⟨h0,h1,h2⟩:=hg
   simp only[fo]
   rw[if_pos h1]
   exact wG hS hG hz hf n _ (uX hK h0 h1 h2) (by simp;omega)
  ·rw[e,hf]
   simp only[fo]
   rw[if_pos hD.fits]
   exact⟨K,hK,rfl⟩
theorem ss {α:Type}{zs:List Int}{p:Prg α}{x y:α}{D D':List KV}{K:List KV}(hS:bH p)(hK:jQ zs K)(hf:p (sm zs) []=.ok x D)(h:p (look K) []=.ok y D'):y=x∧D'=D:=by
 rcases hS (look K) (sm zs) [] (sn hK) with⟨a,e⟩|e
 ·rw[h] at e;cases e
 ·rw[h,hf] at e;cases e;exact⟨rfl,rfl⟩
theorem wH {α:Type}{zs:List Int}{p:Prg α}{Q:α→Prop}(hG:bV zs.length Q p)(hz:OkW zs)(hl:zs.length≤100000):wF zs zs.length (fun K=>fo (p (look K) [])):=fun K hK=>by
 have hg:=hG (look K) [] (sr hK hz) (d7 _)
 show Lm (look K) _ (fo (p (look K) []))
 cases e:p (look K) [] with
 |need a=>rw[e] at hg;exact⟨hg.1,by have:=hg.2.1;unfold W64;constructor<;>omega,hg.2.2⟩
 |ok x D=>rw[e] at hg;exact⟨hg.1.ok,hg.1.asc,hg.1.len⟩
theorem nX {D:List KV}(hA:Asc D)(zs:List Int)(h0:∀p∈D,0≤p.1∧p.1<zs.length)(i:Int)(hi:0≤i∧i<zs.length):wAt (cj zs D) i=(look D i).getD (wAt zs i):=by
 induction D generalizing zs with
 |nil=>rfl
 |cons p D ih =>
  have hA':Asc D:=by unfold Asc at hA⊢;exact(List.pairwise_cons.1 hA).2
  have hp:=h0 p (by simp)
  show wAt (cj (zs.set p.1.toNat p.2) D) i=_
  rw[ih hA' _ (fun q hq=>by have:=h0 q (by simp[hq]);simpa using this) (by simpa using hi)]
  rw[gd]
  by_cases e:p.1=i
  ·rw[if_pos e]
   have hn:look D i=none:=ib.2 (fun q hq=>by
    unfold Asc at hA
    have:=(List.pairwise_cons.1 hA).1 q hq
    omega)
   rw[hn]
   subst e
   unfold wAt
   simp only[List.getD,Option.getD_some]
   rw[List.getElem?_set_self (by omega)]
   rfl
  ·rw[if_neg e]
   have:wAt (zs.set p.1.toNat p.2) i=wAt zs i:=by
    unfold wAt
    simp only[List.getD]
    rw[List.getElem?_set_ne (by omega)]
   rw[this]
theorem ve {xs ys:List Int}(hl:xs.length=ys.length)(h:∀i:Int,0≤i→i<xs.length→wAt xs i=wAt ys i):xs=ys:=by
 apply List.ext_getElem hl
 intro i h1 h2
 have:=h (i:Int) (by omega) (by omega)
 simpa [wAt,List.getD,h1,h2] using this
theorem dI {ws:List Int}{a x i:Int}(ha:0≤a)(hi:0≤i)(hn:a<ws.length):wAt (ws.set a.toNat x) i=if i=a then x else wAt ws i:=by
 unfold wAt
 simp only[List.getD]
 by_cases e:i=a
 ·subst e
  rw[if_pos rfl,List.getElem?_set_self (by omega)]
  rfl
 ·rw[if_neg e,List.getElem?_set_ne (by omega)]
theorem yi {n:Nat}{zs:List Int}{D:List KV}(hn:zs.length=n)(h:cF n D){a x:Int}(ha:0≤a)(hl:a<n)(hw:W64 a)(hx:W64 x):cj zs (eE D a x)=(cj zs D).set a.toNat x:=by
 have h2:=h.write hw hl hx
 subst hn
 apply ve
 ·simp[d6]
 ·intro i h0 h1
  rw[d6] at h1
  rw[nX h2.asc zs (fun p hp=>⟨(h2.ok p hp).1,h2.lt p hp⟩) i ⟨h0,h1⟩,dI ha h0 (by rw[d6];exact hl),
   nX h.asc zs (fun p hp=>⟨(h.ok p hp).1,h.lt p hp⟩) i ⟨h0,h1⟩]
  unfold eE
  rw[if_neg (by omega),pO h.asc]
  split<;>rfl
theorem yj {zs:List Int}{D:List KV}(h:cF zs.length D){a:Int}(h0:0≤a)(h1:a<zs.length):dN (sm zs) D a=some (wAt (cj zs D) a):=by
 rw[nX h.asc zs (fun p hp=>⟨(h.ok p hp).1,h.lt p hp⟩) a ⟨h0,h1⟩]
 unfold dN sm
 rw[if_neg (by omega),if_pos ⟨h0,h1⟩]
 cases look D a<;>rfl
def bR {α:Type}(n:Nat)(p:Prg α)(g:List Int→α×List Int):Prop:=∀zs D,zs.length=n→OkW zs→cF n D→∃D',p (sm zs) D=.ok (g (cj zs D)).1 D'∧cj zs D'=(g (cj zs D)).2∧cF n D'
theorem ax {α:Type}(n:Nat)(x:α):bR n (aA x) (fun ws=>(x,ws)):=fun zs D _ _ hD=>⟨D,rfl,rfl,hD⟩
theorem aD {α β:Type}{n:Nat}{p:Prg α}{f:α→Prg β}{g:List Int→α×List Int}{k:α→List Int→β×List Int}(h:bR n p g)(hf:∀x,bR n (f x) (k x)):bR n (ar p f) (fun ws=>k (g ws).1 (g ws).2):=fun zs D hn hz hD=>by
 obtain⟨D1,e1,a1,i1⟩:=h zs D hn hz hD
 obtain⟨D2,e2,a2,i2⟩:=hf (g (cj zs D)).1 zs D1 hn hz i1
 refine⟨D2,?_,?_,i2⟩
 ·rw[ak e1,e2,a1]
 ·rw[a2,a1]
theorem dY {n:Nat}{a:Int}(h0:0≤a)(h1:a<n):bR n (cW a) (fun ws=>(wAt ws a,ws)):=fun zs D hn hz hD=>by
 subst hn
 exact⟨D,eS (yj hD h0 h1),rfl,hD⟩
theorem df {n:Nat}{a x:Int}(h0:0≤a)(h1:a<n)(hw:W64 a)(hx:W64 x):bR n (cP a x) (fun ws=>((),ws.set a.toNat x)):=fun zs D hn hz hD =>
 ⟨_,rfl,yi hn hD h0 h1 hw hx,hD.write hw h1 hx⟩
theorem a6 {α:Type}{n:Nat}{p:Prg α}{g k:List Int→α×List Int}(h:bR n p g)(e:∀ws,ws.length=n→g ws=k ws):bR n p k:=fun zs D hn hz hD=>by
 rw[←e (cj zs D) (by rw[d6];exact hn)]
 exact h zs D hn hz hD
theorem Cz {α:Type}{zs:List Int}{p:Prg α}{Q:α→Prop}{g:List Int→α×List Int}(hS:bH p)(hG:bV zs.length Q p)(hz:OkW zs)(hF:bR zs.length p g):
 ∃K,doP (fun K=>fo (p (look K) [])) zs (zs.length+1) []=some ((g zs).2,K)∧jQ zs K∧∀K,jQ zs K→∀y D,p (look K) []=.ok y D→y=(g zs).1:=by
 obtain⟨D,e,a,i⟩:=hF zs [] rfl hz (d7 _)
 have e0:cj zs []=zs:=rfl
 rw[e0] at e a
 obtain⟨K,hK,hd⟩:=wG hS hG hz e (zs.length+1) [] (oQ zs) (by simp)
 exact⟨K,by rw[hd,a],hK,fun K hK y D' h=>(ss hS hK e h).1⟩
end Go.Proofs.YtddmeghbmdfgeaaGreatDoor
