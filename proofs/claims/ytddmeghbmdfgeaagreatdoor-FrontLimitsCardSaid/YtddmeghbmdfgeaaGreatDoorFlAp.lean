/-
  The landed package purse: rows that stand and are read, and how many of a class a purse has.
-/
import Derived.Test.YtddmeghbmdfgeaaGreatDoorFlAe
import Derived.Test.YtddmeghbmdfgeaaGreatDoorFlAa
import Derived.Deep.AppendSrc
import Derived.Laws.AppendOwnNone
import Derived.Test.YtddmeghbmdfgeaaGreatDoorFlAo
import Derived.Test.YtddmeghbmdfgeaaGreatDoorFlAg
import Derived.Test.YtddmeghbmdfgeaaGreatDoorFlAm
set_option maxRecDepth 100000
set_option maxHeartbeats 8000000
set_option linter.unusedVariables false
set_option linter.unusedSimpArgs false
set_option linter.unusedSectionVars false
namespace Go.Proofs.YtddmeghbmdfgeaaGreatDoor
open Go.RowKit
theorem en1 (w:World)(o0:Obj):∃w1,w.alloc o0=w1∧w1.heap[w.heap.size]?=some o0∧ae w w1∧w1.heap.size=w.heap.size+1:=⟨_,rfl,bh w o0,(ae.refl _).alloc _,by simp⟩
theorem en2 (w:World)(o0 o1:Obj):∃w2,(w.alloc o0).alloc o1=w2∧w2.heap[w.heap.size]?=some o0∧w2.heap[w.heap.size+1]?=some o1∧ae w w2∧w2.heap.size=w.heap.size+2:=by
 obtain⟨w1,e1,h0,m0,s0⟩:=en1 w o0
 rw[e1]
 obtain⟨w2,e2,h1,m1,s1⟩:=en1 w1 o1
 rw[s0] at h1
 exact⟨w2,e2,m1.block h0,h1,m0.trans m1,by omega⟩
def Rd (w:World)(v:Value)(xs:List Int):Prop :=
 ∃a cap,v=.slice a xs.length cap∧xs.length≤cap∧cap≤maxLen∧((a=none∧cap=0)∨∃g cur,a=some ⟨g,0,none⟩∧w.heap[g]?=some (.cells cur 3 (0,0))∧cap≤cur.size∧cur.toList.take xs.length=xs.map (Value.int .i64))
namespace Rd
variable {w w':World}{v:Value}{xs:List Int}
theorem nil (w:World):Rd w (.slice none 0 0) []:=⟨none,0,rfl,Nat.le_refl _,Nat.zero_le _,.inl ⟨rfl,rfl⟩⟩
theorem keep (h:Rd w v xs){S:Nat→Prop}(t:Turned S w w')(hs:∀k,S k→∃cs T fr,w.heap[k]?=some (.cells cs T fr)∧T≠3):Rd w' v xs:=by
 obtain⟨a,cap,hv,h1,h2,q⟩:=h
 refine⟨a,cap,hv,h1,h2,q.imp id ?_⟩
 rintro⟨g,cur,rfl,hg,r⟩
 refine⟨g,cur,rfl,?_,r⟩
 rw[t.block g (ac hg) (fun q=>by
  obtain⟨cs,T,fr,e,hne⟩:=hs g q
  rw[hg] at e;cases e;exact hne rfl)]
 exact hg
theorem more (h:Rd w v xs)(m:ae w w'):Rd w' v xs:=h.keep m (fun _ q=>q.elim)
theorem of_rw {base:Nat}(h:Rw base w v xs):Rd w v xs:=by
 rcases h.2 with⟨rfl,h0⟩|⟨g,cap,cur,rfl,_,hg,h1,h2,hs,ht⟩
 ·have:xs= []:=List.length_eq_zero_iff.1 h0
  subst this;exact nil w
 ·exact⟨_,cap,rfl,h1,h2,.inr ⟨g,cur,rfl,hg,by omega,by simpa using ht⟩⟩
theorem one (h:Rd w v xs):v.oneCell'=true:=by obtain⟨a,cap,rfl,_⟩:=h;rfl
theorem news (h:Rd w v xs):∃a cap,v=.slice a xs.length cap∧∀p,a=some p→∀j u,(xs.map (Value.int .i64))[j]?=some u→w.cell? (p.add j)=some u:=by
 obtain⟨a,cap,rfl,h1,h2,q⟩:=h
 refine⟨a,cap,rfl,fun p hp j u hj=>?_⟩
 rcases q with⟨rfl,rfl⟩|⟨g,cur,rfl,hg,hc,ht⟩
 ·cases hp
 ·cases hp
  rw[iZ]
  have hj':=(List.getElem?_eq_some_iff.1 hj).1
  simp at hj'
  rw[←ht,List.getElem?_take,if_pos hj'] at hj
  simp[World.cell?,hg]
  simpa using hj
theorem cell (h:Rd w v xs):∃a cap,v=.slice a xs.length cap∧xs.length≤cap∧∀k,k<xs.length→∃g,a=some ⟨g,0,none⟩∧w.cell? ⟨g,k,none⟩=some (.int .i64 (xs.getD k 0)):=by
 obtain⟨a,cap,hv,h1,h2,q⟩:=h
 refine⟨a,cap,hv,h1,fun k hk=>?_⟩
 rcases q with⟨rfl,rfl⟩|⟨g,cur,rfl,hg,hc,ht⟩
 ·omega
 ·refine⟨g,rfl,?_⟩
  have e:(cur.toList.take xs.length)[k]?=some (.int .i64 (xs.getD k 0)):=by rw[ht];simp[List.getElem?_eq_getElem hk]
  rw[List.getElem?_take,if_pos hk] at e
  simp[World.cell?,hg]
  simpa using e
theorem first (h:Rd w v xs){n:Nat}(hn:n≤xs.length):∃a,(∃cap,v=.slice a xs.length cap∧n≤cap∧(a=none→cap=0))∧Rd w (.slice a n n) (xs.take n):=by
 obtain⟨a,cap,rfl,h1,h2,q⟩:=h
 have hl:(xs.take n).length=n:=by simp;omega
 refine⟨a,⟨cap,rfl,by omega,?_⟩,a,n,by rw[hl],by omega,by omega,?_⟩
 ·rintro rfl
  rcases q with q|⟨g,cur,e,_⟩
  ·exact q.2
  ·cases e
 ·rcases q with⟨rfl,rfl⟩|⟨g,cur,rfl,hg,hc,ht⟩
  ·exact .inl ⟨rfl,by omega⟩
  ·refine .inr ⟨g,cur,rfl,hg,by omega,?_⟩
   rw[hl,List.map_take,←ht,List.take_take,Nat.min_eq_left hn]
end Rd
def puA (f:Nat→Value):Array Value:= #[f 0,f 1,f 2,f 3,f 4]
theorem Bv (f:Nat→Value){c:Nat}(hc:c<5):(puA f)[c]?=some (f c):=by
 match c,hc with
 | 0,_=>rfl
 | 1,_=>rfl
 | 2,_=>rfl
 | 3,_=>rfl
 | 4,_=>rfl
def jp (f:Nat→Value)(c:Nat)(v:Value):Nat→Value:=fun k=>if k=c then v else f k
theorem Di (f:Nat→Value){c:Nat}(hc:c<5)(v:Value):(puA f).setIfInBounds c v=puA (jp f c v):=by
 match c,hc with
 | 0,_=>rfl
 | 1,_=>rfl
 | 2,_=>rfl
 | 3,_=>rfl
 | 4,_=>rfl
def Pu (w:World)(f:Nat→Value)(P:Nat→List Int):Prop:=∀c,c<5→Rd w (f c) (P c)
theorem Pu.more {w w':World}{f:Nat→Value}{P:Nat→List Int}(h:Pu w f P)(m:ae w w'):Pu w' f P:=fun c hc=>(h c hc).more m
theorem Pu.keep {w w':World}{f:Nat→Value}{P:Nat→List Int}(h:Pu w f P){S:Nat→Prop}(t:Turned S w w')(hs:∀k,S k→∃cs T fr,w.heap[k]?=some (.cells cs T fr)∧T≠3):Pu w' f P:=fun c hc=>(h c hc).keep t hs
theorem Pu.all1 {w:World}{f:Nat→Value}{P:Nat→List Int}(h:Pu w f P):(puA f).all (·.oneCell')=true:=by
 simp[puA,(h 0 (by omega)).one,(h 1 (by omega)).one,(h 2 (by omega)).one,(h 3 (by omega)).one,(h 4 (by omega)).one]
theorem km {w:World}{g:Nat}{f:Nat→Value}{T:TypeId}(h:w.heap[g]?=some (.cells (puA f) T (0,0))){c:Nat}(hc:c<5):w.cell? ⟨g,c,none⟩=some (f c):=by
 rw[cell_of_row w _ _ _ _ _ h];exact Bv f hc
def iL (c:Int):Bool:=decide (0≤c) && decide (c<5)
theorem ms {c:Int}(h:iL c=true):∃k:Nat,c=k∧k<5:=by
 simp[iL] at h
 exact⟨c.toNat,by omega,by omega⟩
theorem xo {k:Nat}(h:k<5):iL k=true:=by simp[iL];omega
theorem np (c:Int)(w:World):Calls Tryz.prog 52 #[.int .i64 c] w (aU w (.bool (iL c))):=by
 by_cases h0:0≤c
 ·have d0:decide (0≤c)=true:=by simp[h0]
  go_enter Tryz.func52,Tryz.ntmps52
  go_wp2_with fail
  go_ret
  exact⟨by simp[iL,d0],ae.refl _⟩
 ·have d0:decide (0≤c)=false:=by simp;omega
  go_enter Tryz.func52,Tryz.ntmps52
  go_wp2_with fail
  go_ret
  exact⟨by simp[iL,d0],ae.refl _⟩
def cZ (P:Nat→List Int)(c:Int):Int:=if iL c then(P c.toNat).length else 0
theorem mt (f:Nat→Value)(P:Nat→List Int)(c:Int)(w:World)(h:Pu w f P):Calls Tryz.prog 21 #[.agg (puA f),.int .i64 c] w (aU w (.int .i64 (cZ P c))):=by
 obtain⟨w1,e1,hl1,m1,s1⟩:=en1 w (.cells (puA f) 32)
 have L0:=hQQ hl1
 have M1:=hQQ m1
 have HP:=hQQ (h.more m1)
 clear m1 h s1
 cases hc:iL c with
 |false =>
  have C:=hQQ (fun W=>np c W)
  rw[hc] at C
  have FIN:cZ P c=0:=by simp[cZ,hc]
  rw[FIN]
  clear hc FIN hl1 HP
  go_enter Tryz.func21,Tryz.ntmps21
  go_wp2_with fail
  refine(C.o w1).mono ?_
  rintro e w2 ⟨rfl,h2⟩
  have M2:=hQQ (M1.o.trans h2)
  clear h2
  go_wp2_with fail
  go_ret
  exact⟨rfl,M2.o⟩
 |true =>
  obtain⟨k,rfl,hk⟩:=ms hc
  have C:=hQQ (fun W=>np k W)
  rw[hc] at C
  have FIN:cZ P k=(P k).length:=by simp[cZ,hc]
  rw[FIN]
  have hm:=hQQ hk
  obtain⟨a,cap,hf,_,_⟩:=HP.o k hk
  have X:Hq (∀W,ae w1 W→W.cell? ⟨w.heap.size,k,none⟩=some (.slice a (P k).length cap)):=hQQ fun W hW=>(km (hW.block L0.o) hk).trans (by rw[hf])
  clear hc FIN hl1 HP hf
  go_enter Tryz.func21,Tryz.ntmps21
  go_wp2_with fail
  refine(C.o w1).mono ?_
  rintro e w2 ⟨rfl,h2⟩
  have M2:=hQQ (M1.o.trans h2)
  have x1:=X.o w2 h2
  clear h2
  go_wp2_with fail
  go_ret
  exact⟨rfl,M2.o⟩
theorem zu {ops:Array Oper}{rest:List Oper}{o:Oper}{a:Act}{Q:Exit→Act→World→Prop}{w:World}{b:Option Addr}{xs:List Int}(y:Int)(n:Nat)(hgd:o.guard=none)(s x:Operand)
 (ho:o.op=.call { callee:= .builtin .append,args:= #[s,x],argTypes:= #[29,29] })
 (hs:a.eval s=.slice b n n) (hn:Rd w (.slice b n n) xs) (hl:xs.length≤1000000) (hnl:xs.length=n)
 (hx:a.eval x=.slice (some ⟨w.heap.size,0,none⟩) 1 1)
 (h:∀g cap w',w.heap.size≤g→Rd w' (.slice (some ⟨g,0,none⟩) (n+1) cap) (xs++ [y])→ae w w'→wpList Tryz.prog ops Q rest (a.put o.dst (.slice (some ⟨g,0,none⟩) (n+1) cap)) w'):wpList Tryz.prog ops Q (o::rest) a (w.alloc (.cells #[.int .i64 y] 3)):=by
 obtain⟨i,i1,i2,i3,i4⟩:=jc
 have hn':=hn.more ((ae.refl w).alloc (.cells #[.int .i64 y] 3))
 have hW:ae w (w.alloc (.cells #[.int .i64 y] 3)):=(ae.refl w).alloc _
 have hB:=bh w (.cells #[.int .i64 y] 3)
 have hsz:w.heap.size≤(w.alloc (.cells #[.int .i64 y] 3)).heap.size:=by simp
 generalize w.alloc (.cells #[.int .i64 y] 3)=w1 at hn' hB hW hsz⊢
 refine wpList_plain hgd fun K hK=>?_
 have hsrc:Src Tryz.prog i.size 29 (.slice (some ⟨w.heap.size,0,none⟩) 1 1) 1 [.int .i64 y] w1:=Src.ofSlice w1 Tryz.underlying29 _ 1 1 _ (by simp[i3]) (fun j u hu=>World.news_of_block hB j u (by simpa using hu)) (by intro u hu;simp at hu;subst hu;rfl)
 obtain⟨a',cap',e',hnews⟩:=hn'.news
 have hold:(Builtin.firstCells i.size n (.slice b n n)).run Tryz.prog w1.drew=.ok (xs.map (Value.int .i64)).toArray w1.drew:=by
  cases b with
  |none =>
   obtain⟨a0,c0,q1,q2,q3,q4⟩:=hn
   cases q1
   rcases q4 with⟨_,q⟩|⟨g,cur,q,_⟩
   ·have:xs= []:=List.length_eq_zero_iff.1 (by omega)
    subst this
    exact run_firstCells_none _ _ _ _ _
   ·cases q
  |some p =>
   cases e'
   exact run_firstCells_some w1.drew i.size _ p _ _ _ (by simp[i3]) (fun j u hu=>by rw[World.cell?_of_block (w:=w1) (w':=w1.drew) rfl];exact hnews p rfl j u hu)
 have hr:=run_append_grow_src (P:=Tryz.prog) w1 29 29 o.type 3 i _ Tryz.underlying29 i1 i2 b n n _ hold _ 1 _ hsrc (by omega) (by omega) (growslice_fits (by omega) (by rw[i4];omega))
 unfold Oper.wp execOp
 simp only[ho,resolve,invoke,builtin,Sem.run_bind,Sem.run_pure,Result.andThen_ok,List.map_toArray,List.map_cons,List.map_nil,hs,hx,hr]
 refine hK _ _ (h w1.heap.size _ _ hsz ?_ ((hW.drew).alloc _))
 have hge:=grownCap_ge w1 (n+1) n 3
 have hle:=grownCap_le_maxLen w1 (n+1) n 3 (by simp only[maxLen];omega)
 refine⟨_,_,by rw[List.length_append,hnl];rfl,by simp[hnl];omega,hle,.inr ⟨_,_,rfl,bh w1.drew _,?_,?_⟩⟩
 ·simp[size_zeroCells,Value.cells,hnl];omega
 ·have e2:(xs++ [y]).length=(xs.map (Value.int .i64)++ [Value.int .i64 y]).length:=by simp
  have e3:(xs++ [y]).map (Value.int .i64)=xs.map (Value.int .i64)++ [.int .i64 y]:=by simp
  rw[Array.toList_append,e3,e2]
  exact List.take_left' rfl
theorem uE {ops:Array Oper}{rest:List Oper}{o:Oper}{a:Act}{Q:Exit→Act→World→Prop}{w wa:World}{v u:Value}{xs ys:List Int}(hgd:o.guard=none)(s x:Operand)
 (ho:o.op=.call { callee:= .builtin .append,args:= #[s,x],argTypes:= #[29,29] })
 (hs:a.eval s=v) (hn:Rw wa.heap.size w v xs) (hW:ae wa w) (hl:xs.length+ys.length≤1000000)
 (hx:a.eval x=u) (hu:Rd w u ys)
 (h:∀v' w',Rw wa.heap.size w' v' (xs++ys)→ae wa w'→wpList Tryz.prog ops Q rest (a.put o.dst v') w'):wpList Tryz.prog ops Q (o::rest) a w:=by
 obtain⟨i,i1,i2,i3,i4⟩:=jc
 obtain⟨ad,cap,rfl,hnews⟩:=hu.news
 cases ad with
 |none =>
  have:ys= []∧cap=0:=by
   obtain⟨a0,c0,q1,q2,q3,q4⟩:=hu
   cases q1
   rcases q4 with⟨_,q⟩|⟨g,cur,q,_⟩
   ·exact⟨List.length_eq_zero_iff.1 (by omega),q⟩
   ·cases q
  obtain⟨rfl,rfl⟩:=this
  refine wpList_append_own_none hgd s x 29 ho wa.heap.size 3 i 1 Tryz.underlying29 i1 v xs.length _ hs hn hx ?_
  have:=h v w (by simpa using hn) hW
  exact this
 |some p =>
  refine wpList_append_own_at (P:=Tryz.prog) w hgd s x 29 ho wa.heap.size 3 i _ 1 8 Tryz.underlying29 i1 i2 i3 i4 rfl (by omega) v xs.length _ hs hn p ys.length cap (ys.map (Value.int .i64)) hx (by simp)
   (hnews p rfl) (by intro u hu;obtain⟨y,_,rfl⟩:=List.mem_map.1 hu;rfl) (by simp only[maxLen];omega) (by omega) hW.size ?_
  intro v' w1 hown hgrow _ _
  refine h v' w1 ?_ (ux hW hn hgrow)
  unfold Rw
  rw[List.length_append,List.map_append]
  exact hown
theorem xp {P:Program}{fn:Func}{p u:Tmp}{ty:TypeId}(h:fn.results= #[.cell p ty,.tmp u])(tmps:Array Value)(w:World)(g:Nat)(t:TypeId)(cs:Array Value)(fr:Nat×Nat)(d:TypeDesc)
 (hp:tmps.getD p undef=.pointer (some ⟨g,0,none⟩)) (hg:w.heap[g]?=some (.cells cs t fr))
 (hu:P.underlying ty=some d) (hd:(match d with| .struct _| .array _ _=>true|_=>false)=true) (hi:(P.info? ty).map (·.size)=some cs.size):
 (results fn tmps).run P w=.ok (.tuple #[.agg cs,tmps.getD u undef]) w:=by
 rw[results_cell_tmp h,hp]
 simp[asAddr,run_loadVar_row w g t ty cs fr d hg hu hd hi]
def dV (P:Nat→List Int)(c l:Int):Bool:=iL c && decide (cZ P c<l)
def ea (P:Nat→List Int)(c a l:Int):Nat→List Int:=if dV P c l then(fun k=>if k=c.toNat then P k++ [a] else P k) else P
theorem dF (P:Nat→List Int){k:Nat}(hk:k<5):cZ P k=(P k).length:=by simp[cZ,xo hk]
theorem Dj (P:Nat→List Int){c:Int}(hc:iL c=false):cZ P c=0:=by simp[cZ,hc]
def gG (P:Nat→List Int)(c:Int):Bool:=decide (0<cZ P c)
def gZ (P:Nat→List Int)(c:Int):Int:=if gG P c then(P c.toNat).getD ((P c.toNat).length-1) 0 else 0
def gM (P:Nat→List Int)(c:Int):Nat→List Int:=if gG P c then(fun k=>if k=c.toNat then(P k).take ((P k).length-1) else P k) else P
theorem rI {P:Program}{fn:Func}{p u u':Tmp}{ty:TypeId}(h:fn.results= #[.cell p ty,.tmp u,.tmp u'])(tmps:Array Value)(w:World)(g:Nat)(t:TypeId)(cs:Array Value)(fr:Nat×Nat)(d:TypeDesc)
 (hp:tmps.getD p undef=.pointer (some ⟨g,0,none⟩)) (hg:w.heap[g]?=some (.cells cs t fr))
 (hu:P.underlying ty=some d) (hd:(match d with| .struct _| .array _ _=>true|_=>false)=true) (hi:(P.info? ty).map (·.size)=some cs.size):
 (results fn tmps).run P w=.ok (.tuple #[.agg cs,tmps.getD u undef,tmps.getD u' undef]) w:=by
 have hp':tmps[p]?.getD undef=.pointer (some ⟨g,0,none⟩):=by simpa using hp
 simp[results,h,hp',asAddr,run_loadVar_row w g t ty cs fr d hg hu hd hi]
open Go.Sort Go.Maps Go.Shelf
def Dk:Fam:=⟨5,fun _=>0,fun _=>0,fun i=>(i:Int)⟩
def puO (P:Nat→List Int):List (Int×Int):=ee Dk P 5
theorem zv (P:Nat→List Int){k:Nat}(hk:k<5)(a:Int):(puO (de P k (P k++ [a]))).Perm ((a,(k:Int))::puO P):=by
 have:=kl Dk P k (P k) a 5 hk
 rw[eO] at this
 exact this
theorem Dl (P:Nat→List Int){k:Nat}(hk:k<5){xs:List Int}{x:Int}(e:P k=xs++ [x]):(puO P).Perm ((x,(k:Int))::puO (de P k xs)):=by
 have:=kl Dk P k xs x 5 hk
 rw[←e,eO] at this
 exact this
theorem ko (P:Nat→List Int){k:Nat}(hk:k<5)(a:Int){lim:Int}(h:((P k).length:Int)<lim):ea P k a lim=de P k (P k++ [a]):=by
 have hb:dV P k lim=true:=by simp[dV,xo hk,dF P hk];omega
 unfold ea
 rw[if_pos hb]
 funext j
 unfold de
 by_cases e:j=k
 ·subst e;simp
 ·simp[e]
theorem kY (P:Nat→List Int){k:Nat}(hk:k<5){xs:List Int}{x:Int}(e:P k=xs++ [x]):gG P k=true∧gZ P k=x∧gM P k=de P k xs:=by
 have hb:gG P k=true:=by simp[gG,dF P hk,e]
 refine⟨hb,?_,?_⟩
 ·unfold gZ;rw[if_pos hb];simp[e]
 ·unfold gM
  rw[if_pos hb]
  funext j
  unfold de
  by_cases z:j=k
  ·subst z;simp[e]
  ·simp[z]
theorem rJ (P:Nat→List Int){k:Nat}(hk:k<5)(e:P k= []):gG P k=false:=by simp[gG,dF P hk,e]
section
variable (us pg st:Int)(S:Fam)(i0 i1:Nat)
def jv (k:Int):Nat→List Int→(Int×Bool)×List Int
 | 0,ws=>bb (S.b i0) (S.l i0) ws
 | 1,ws=>bb (S.b i1) (S.l i1) ws
 | 2,ws=>if tj pg st k ws then dd us pg st k ws else((0,false),ws)
 | _,ws=>dd us pg st k ws
def fO (k kind:Nat)(lim:Int):Nat→(Nat→List Int)→List Int→(Nat→List Int)×List Int
 | 0,P,ws=>(P,ws)
 |m+1,P,ws=>if(jv us pg st S i0 i1 k kind ws).1.2 then fO k kind lim m (ea P k (jv us pg st S i0 i1 k kind ws).1.1 lim) (jv us pg st S i0 i1 k kind ws).2 else(P,(jv us pg st S i0 i1 k kind ws).2)
def mu (ws:List Int):Nat:=if 0<a8 (S.l i0) (wAt ws (S.b i0)) then 0 else if 0<a8 (S.l i1) (wAt ws (S.b i1)) then 1 else 2
def kZ (kind:Nat):Nat:=if kind=2 then 3 else kind
def my (k:Nat)(lim:Int)(m:Nat)(P:Nat→List Int)(ws:List Int):((Int×Bool)×(Nat→List Int))×List Int :=
 if gG P k then(((gZ P k,true),gM P k),ws)
 else if(jv us pg st S i0 i1 k (kZ (mu S i0 i1 ws)) ws).1.2 then
  ((((jv us pg st S i0 i1 k (kZ (mu S i0 i1 ws)) ws).1.1,true),(fO us pg st S i0 i1 k (mu S i0 i1 ws) lim m P (jv us pg st S i0 i1 k (kZ (mu S i0 i1 ws)) ws).2).1),(fO us pg st S i0 i1 k (mu S i0 i1 ws) lim m P (jv us pg st S i0 i1 k (kZ (mu S i0 i1 ws)) ws).2).2)
 else(((0,false),P),(jv us pg st S i0 i1 k (kZ (mu S i0 i1 ws)) ws).2)
def tH (a:Int)(ws:List Int):List Int :=
 if(cK (S.b i0) (S.l i0) a ws).1 then(cK (S.b i0) (S.l i0) a ws).2
 else if(cK (S.b i1) (S.l i1) a (cK (S.b i0) (S.l i0) a ws).2).1 then(cK (S.b i1) (S.l i1) a (cK (S.b i0) (S.l i0) a ws).2).2
 else(gQ us pg st a (cK (S.b i1) (S.l i1) a (cK (S.b i0) (S.l i0) a ws).2).2).2
def jI (k:Nat):Nat→(Nat→List Int)→List Int→(Nat→List Int)×List Int
 | 0,P,ws=>(P,ws)
 |m+1,P,ws=>if gG P k then jI k m (gM P k) (tH us pg st S i0 i1 (gZ P k) ws) else(P,ws)
def vI (k:Nat)(lim:Int)(m:Nat)(a:Int)(P:Nat→List Int)(ws:List Int):(Nat→List Int)×List Int :=
 if lim≤((P k).length:Int) then(ea (jI us pg st S i0 i1 k m P ws).1 k a lim,(jI us pg st S i0 i1 k m P ws).2) else(ea P k a lim,ws)
end
def iH (us pg st:Int):List Int→List Int→List Int
 | [],ws=>ws
 |a::t,ws=>(gQ us pg st a (iH us pg st t ws)).2
def qr (us pg st:Int)(P:Nat→List Int)(ws:List Int):List Int:=iH us pg st (P 4) (iH us pg st (P 3) (iH us pg st (P 2) (iH us pg st (P 1) (iH us pg st (P 0) ws))))
def il (us pg st b l:Int):Nat→List Int→List Int
 | 0,ws=>ws
 |m+1,ws=>if(bb b l ws).1.2 then il us pg st b l m (gQ us pg st (bb b l ws).1.1 (bb b l ws).2).2 else ws
def ox (us pg st:Int)(S:Fam):Nat→List Int→List Int
 | 0,ws=>ws
 |m+1,ws=>il us pg st (S.b m) (S.l m) ((S.l m).toNat+1) (ox us pg st S m ws)
section
variable {us pg st:Int}{n:Nat}{S:Fam}(H:cH pg st n)(hS:S.In (bz st pg+62) n)(hn:n≤10000)(hu:0≤us∧us+32 * pg≤1000000)
include H hS hn hu
theorem Ka {ws:List Int}{C:Nat→List Int}{O:List (Int×Int)}(h:FrI us pg st n S ws C O){a k:Int}(hm:(a,k)∈O):W64 a:=by
 obtain⟨G,P⟩:=h.pgs
 obtain⟨a0,a1,_⟩:=Ij H P ((h.acc a k).2 (List.mem_append_left _ hm))
 exact⟨by omega,by omega⟩
variable {i0 i1 k:Nat}(h0:i0<S.m)(h1:i1<S.m)(hk:k<5)(k0:S.k i0=k)(k1:S.k i1=k)
include h0 h1 hk k0 k1
theorem Dm (kind:Nat){ws:List Int}{C:Nat→List Int}{O:List (Int×Int)}(h:FrI us pg st n S ws C O):
 jv us pg st S i0 i1 k kind ws=((0,false),ws)∨∃a X C',jv us pg st S i0 i1 k kind ws=((a,true),X)∧FrI us pg st n S X C' ((a,(k:Int))::O):=by
 have gr:dd us pg st k ws=((0,false),ws)∨∃a X C',dd us pg st k ws=((a,true),X)∧FrI us pg st n S X C' ((a,(k:Int))::O):=by
  rcases h.grab H hS hn k with e|⟨a,X,e,_,_,_,_,_,h'⟩
  ·exact .inl e
  ·exact .inr ⟨a,X,C,e,h'⟩
 match kind with
 | 0 =>
   rcases h.pop H hS hn h0 with⟨_,e⟩|⟨xs,x,X,_,e,h'⟩
   ·exact .inl e
   ·rw[k0] at h';exact .inr ⟨x,X,_,e,h'⟩
 | 1 =>
   rcases h.pop H hS hn h1 with⟨_,e⟩|⟨xs,x,X,_,e,h'⟩
   ·exact .inl e
   ·rw[k1] at h';exact .inr ⟨x,X,_,e,h'⟩
 | 2 =>
   cases hr:tj pg st k ws with
   |false=>exact .inl (by simp[jv,hr])
   |true =>
    have:jv us pg st S i0 i1 k 2 ws=dd us pg st k ws:=by simp[jv,hr]
    rw[this];exact gr
 |kind+3=>exact gr
theorem zw (kind:Nat)(lim:Int):∀(m:Nat) (P:Nat→List Int) {ws:List Int} {C:Nat→List Int} {O:List (Int×Int)},FrI us pg st n S ws C (puO P++O)→((P k).length:Int)+m≤lim →
 ∃C',FrI us pg st n S (fO us pg st S i0 i1 k kind lim m P ws).2 C' (puO (fO us pg st S i0 i1 k kind lim m P ws).1++O)∧(((fO us pg st S i0 i1 k kind lim m P ws).1 k).length:Int)≤lim∧∀j,j≠k→(fO us pg st S i0 i1 k kind lim m P ws).1 j=P j
 | 0,P,ws,C,O,h,hl=>⟨C,h,by simpa [fO] using hl,fun _ _=>rfl⟩
 |m+1,P,ws,C,O,h,hl=>by
  rcases Dm H hS hn hu h0 h1 hk k0 k1 kind h with e|⟨a,X,C',e,h'⟩
  ·refine⟨C,?_,?_,?_⟩<;>simp only[fO,e]
   ·exact h
   ·simp;omega
   ·simp
  ·have hlt:((P k).length:Int)<lim:=by omega
   have hp:=ko P hk a hlt
   have h2:FrI us pg st n S X C' (puO (ea P k a lim)++O):=by
    rw[hp]
    refine h'.perm ?_
    have:=(zv P hk a).symm.append_right O
    simpa using this
   have hlen:(((ea P k a lim) k).length:Int)+m≤lim:=by rw[hp];unfold de;simp;omega
   obtain⟨C2,q1,q2,q3⟩:=zw kind lim m (ea P k a lim) h2 hlen
   have em:fO us pg st S i0 i1 k kind lim (m+1) P ws=fO us pg st S i0 i1 k kind lim m (ea P k a lim) X:=by simp[fO,e]
   rw[em]
   refine⟨C2,q1,q2,fun j hj=>?_⟩
   rw[q3 j hj,hp];unfold de;rw[if_neg hj]
theorem Im (lim:Int)(m:Nat)(hm:(m:Int)≤lim)(P:Nat→List Int)(hP:∀j,j<5→((P j).length:Int)≤lim){ws:List Int}{C:Nat→List Int}{O:List (Int×Int)}(h:FrI us pg st n S ws C (puO P++O)):
 my us pg st S i0 i1 k lim m P ws=(((0,false),P),ws)∨∃a P' X C',my us pg st S i0 i1 k lim m P ws=(((a,true),P'),X)∧FrI us pg st n S X C' (puO P'++((a,(k:Int))::O))∧∀j,j<5→((P' j).length:Int)≤lim:=by
 rcases List.eq_nil_or_concat (P k) with e|⟨xs,x,e⟩
 ·have hb:=rJ P hk e
  rcases Dm H hS hn hu h0 h1 hk k0 k1 (kZ (mu S i0 i1 ws)) h with e2|⟨a,X,C',e2,h'⟩
  ·exact .inl (by simp[my,hb,e2])
  ·have h2:FrI us pg st n S X C' (puO P++((a,(k:Int))::O)):=h'.perm (by rw[←List.cons_append];exact(List.perm_middle (l₁:=puO P)).symm)
   obtain⟨C2,q1,q2,q3⟩:=zw H hS hn hu h0 h1 hk k0 k1 (mu S i0 i1 ws) lim m P h2 (by rw[e];simpa using hm)
   refine .inr ⟨a,_,_,C2,by simp[my,hb,e2],q1,fun j hj=>?_⟩
   by_cases z:j=k
   ·subst z;exact q2
   ·rw[q3 j z];exact hP j hj
 ·rw[List.concat_eq_append] at e
  obtain⟨b1,b2,b3⟩:=kY P hk e
  refine .inr ⟨x,gM P k,ws,C,by simp[my,b1,b2],?_,fun j hj=>?_⟩
  ·rw[b3]
   refine h.perm (((Dl P hk e).append_right O).trans ?_)
   rw[List.cons_append]
   exact(List.perm_middle (l₁:=puO (de P k xs))).symm
  ·rw[b3];unfold de
   have:=hP j hj
   split
   ·rename_i z;subst z;rw[e] at this;simp at this;omega
   ·exact this
theorem Io {a:Int}{ws:List Int}{C:Nat→List Int}{O:List (Int×Int)}(h:FrI us pg st n S ws C ((a,(k:Int))::O)):∃C',FrI us pg st n S (tH us pg st S i0 i1 a ws) C' O:=by
 have ha:=Ka H hS hn hu h (List.mem_cons_self ..)
 rcases FrI.push H hS hn h0 (by rw[k0];exact h) ha with⟨_,X,e,h'⟩|⟨_,e⟩
 ·exact⟨_,by simp only[tH,e];exact h'⟩
 ·rcases FrI.push H hS hn h1 (by rw[k1];exact h) ha with⟨_,X,e2,h'⟩|⟨_,e2⟩
  ·exact⟨_,by simp only[tH,e,e2];exact h'⟩
  ·obtain⟨X,e3,h'⟩:=h.back H hS hn
   exact⟨_,by simp only[tH,e,e2,e3];exact h'⟩
theorem zx:∀(m:Nat) (P:Nat→List Int) {ws:List Int} {C:Nat→List Int} {O:List (Int×Int)},FrI us pg st n S ws C (puO P++O) →
 ∃C',FrI us pg st n S (jI us pg st S i0 i1 k m P ws).2 C' (puO (jI us pg st S i0 i1 k m P ws).1++O)∧((jI us pg st S i0 i1 k m P ws).1 k).length=(P k).length-m∧∀j,j≠k→(jI us pg st S i0 i1 k m P ws).1 j=P j
 | 0,P,ws,C,O,h=>⟨C,h,rfl,fun _ _=>rfl⟩
 |m+1,P,ws,C,O,h=>by
  rcases List.eq_nil_or_concat (P k) with e|⟨xs,x,e⟩
  ·have hb:=rJ P hk e
   have em:jI us pg st S i0 i1 k (m+1) P ws=(P,ws):=by simp[jI,hb]
   rw[em]
   exact⟨C,h,by simp[e],fun _ _=>rfl⟩
  ·rw[List.concat_eq_append] at e
   obtain⟨b1,b2,b3⟩:=kY P hk e
   have h2:FrI us pg st n S ws C ((x,(k:Int))::(puO (de P k xs)++O)):=h.perm ((Dl P hk e).append_right O)
   obtain⟨C1,h3⟩:=Io H hS hn hu h0 h1 hk k0 k1 h2
   obtain⟨C2,q1,q2,q3⟩:=zx m (de P k xs) h3
   have em:jI us pg st S i0 i1 k (m+1) P ws=jI us pg st S i0 i1 k m (de P k xs) (tH us pg st S i0 i1 x ws):=by simp[jI,b1,b2,b3]
   rw[em]
   refine⟨C2,q1,?_,fun j hj=>?_⟩
   ·rw[q2,e];unfold de;simp
   ·rw[q3 j hj];unfold de;rw[if_neg hj]
theorem Ip {lim:Int}{m:Nat}(hl:1≤lim)(hm:1≤m)(P:Nat→List Int)(hP:∀j,j<5→((P j).length:Int)≤lim){a:Int}{ws:List Int}{C:Nat→List Int}{O:List (Int×Int)}(h:FrI us pg st n S ws C (puO P++((a,(k:Int))::O))):
 ∃P' X C',vI us pg st S i0 i1 k lim m a P ws=(P',X)∧FrI us pg st n S X C' (puO P'++O)∧∀j,j<5→((P' j).length:Int)≤lim:=by
 have fin:∀(Q:Nat→List Int) (X:List Int) (C':Nat→List Int),FrI us pg st n S X C' (puO Q++((a,(k:Int))::O))→((Q k).length:Int)<lim→(∀j,j<5→((Q j).length:Int)≤lim)→FrI us pg st n S X C' (puO (ea Q k a lim)++O)∧∀j,j<5→(((ea Q k a lim) j).length:Int)≤lim:=fun Q X C' hq hlt hQ=>by
  rw[ko Q hk a hlt]
  refine⟨hq.perm ?_,fun j hj=>?_⟩
  ·refine List.perm_middle.trans ?_
   have:=(zv Q hk a).symm.append_right O
   simpa using this
  ·unfold de
   split
   ·simp;omega
   ·exact hQ j hj
 by_cases hf:lim≤((P k).length:Int)
 ·obtain⟨C1,q1,q2,q3⟩:=zx H hS hn hu h0 h1 hk k0 k1 m P h
  have:=hP k hk
  obtain⟨f1,f2⟩:=fin _ _ _ q1 (by rw[q2];omega) (fun j hj=>by
   by_cases z:j=k
   ·subst z;rw[q2];omega
   ·rw[q3 j z];exact hP j hj)
  exact⟨_,_,C1,by simp only[vI];rw[if_pos hf],f1,f2⟩
 ·obtain⟨f1,f2⟩:=fin P ws C h (by omega) hP
  exact⟨_,_,C,by simp only[vI];rw[if_neg hf],f1,f2⟩
end
def iv (b l:Int):Array Value:= #[.int .i64 b,.int .i64 l]
theorem k7 {w:World}{g:Nat}{a b:Int}{t:TypeId}(h:w.heap[g]?=some (.cells #[.int .i64 a,.int .i64 b] t (0,0))):w.cell? ⟨g,0,none⟩=some (.int .i64 a)∧w.cell? ⟨g,1,none⟩=some (.int .i64 b):=by
 refine⟨?_,?_⟩<;>simp[World.cell?,h]
def ld (b l:Int):Bool:=decide (0<b) && decide (0≤l)
theorem zy (b l:Int)(w:World):Calls Tryz.prog 109 #[.agg (iv b l)] w (aU w (.bool (ld b l))):=by
 obtain⟨w1,e1,h1,m1,s1⟩:=bg w (.cells (iv b l) 134)
 obtain⟨c0,c1⟩:=k7 h1
 have MM:=hQQ m1
 unfold ld
 clear h1 m1
 cases hb:decide (0<b) with
 |true =>
  have d0:decide (0<b)=true:=hb
  go_enter Tryz.func109,Tryz.ntmps109
  go_wp2_with fail
  go_ret
  exact⟨rfl,MM.o⟩
 |false =>
  have d0:decide (0<b)=false:=hb
  go_enter Tryz.func109,Tryz.ntmps109
  go_wp2_with fail
  go_ret
  exact⟨rfl,MM.o⟩
def jJ (b l:Int):Int:=if ld b l=true then min l (wrap64 (9223372036854775807-b)) else 0
theorem Dn (b l:Int)(w:World):Calls Tryz.prog 110 #[.agg (iv b l)] w (aU w (.int .i64 (jJ b l))):=by
 obtain⟨w1,e1,h1,m1,s1⟩:=bg w (.cells (iv b l) 134)
 obtain⟨c0,c1⟩:=k7 h1
 have MM:=hQQ m1
 unfold jJ
 have TH:=hQQ (zy b l w1)
 have H1:=hQQ h1
 clear h1 m1
 cases hb:ld b l with
 |true =>
  rw[hb] at TH
  rw[if_pos rfl]
  clear hb
  go_enter Tryz.func110,Tryz.ntmps110
  go_wp2_with fail
  refine TH.o.mono ?_
  rintro e w2 ⟨rfl,h2⟩
  obtain⟨d0,d1⟩:=k7 (h2.block H1.o)
  have M2:=hQQ (MM.o.trans h2)
  clear h2 c0 c1
  go_wp2_with fail
  go_ret
  exact⟨rfl,M2.o⟩
 |false =>
  rw[hb] at TH
  rw[if_neg (by simp)]
  clear hb
  go_enter Tryz.func110,Tryz.ntmps110
  go_wp2_with fail
  refine TH.o.mono ?_
  rintro e w2 ⟨rfl,h2⟩
  have M2:=hQQ (MM.o.trans h2)
  clear h2
  go_wp2_with fail
  go_ret
  exact⟨rfl,M2.o⟩
theorem lf {x:Int}(h0: -9223372036854775808≤x)(h1:x≤9223372036854775807):wrap64 x=x:=by unfold wrap64;omega
theorem vJ {b l:Int}{n:Nat}(H:d8 b l n):jJ b l=l:=by
 have h1:=H.b1;have h0:=H.l0;have hh:=H.hi;have ht:=H.top
 unfold jJ ld
 rw[if_pos (by simp;omega),lf (by omega) (by omega)];omega
def pz (b l k:Int):Int:=if k<0∨jJ b l≤k then 0 else wrap64 (wrap64 (b+1)+k)
theorem qt {b l k:Int}{n:Nat}(H:d8 b l n):pz b l k=dv b l k:=by
 have h1:=H.b1;have h0:=H.l0;have hh:=H.hi;have ht:=H.top
 unfold pz dv
 rw[vJ H]
 split
 ·rfl
 ·rw[lf (x:=b+1) (by omega) (by omega),lf (by omega) (by omega)]
theorem xq (b l k:Int)(w:World):Calls Tryz.prog 84 #[.agg (iv b l),.int .i64 k] w (aU w (.int .i64 (pz b l k))):=by
 obtain⟨w1,e1,h1,m1,s1⟩:=bg w (.cells (iv b l) 134)
 obtain⟨c0,c1⟩:=k7 h1
 have MM:=hQQ m1
 unfold pz
 have MO:=hQQ (Dn b l w1)
 have H1:=hQQ h1
 clear h1 m1
 by_cases k0:k<0
 ·have d0:decide (k<0)=true:=by simp[k0]
  rw[if_pos (.inl k0)]
  clear k0
  go_enter Tryz.func84,Tryz.ntmps84
  go_wp2_with fail
  go_ret
  exact⟨rfl,MM.o⟩
 ·have d0:decide (k<0)=false:=by simp;omega
  by_cases k1:jJ b l≤k
  ·rw[if_pos (.inr k1)]
   generalize jJ b l=mo at *
   have d1:decide (mo≤k)=true:=by simp[k1]
   clear k0 k1
   go_enter Tryz.func84,Tryz.ntmps84
   go_wp2_with fail
   refine MO.o.mono ?_
   rintro e w2 ⟨rfl,h2⟩
   have M2:=hQQ (MM.o.trans h2)
   clear h2
   go_wp2_with fail
   go_ret
   exact⟨rfl,M2.o⟩
  ·rw[if_neg (by omega)]
   generalize jJ b l=mo at *
   have d1:decide (mo≤k)=false:=by simp;omega
   clear k0 k1
   go_enter Tryz.func84,Tryz.ntmps84
   go_wp2_with fail
   refine MO.o.mono ?_
   rintro e w2 ⟨rfl,h2⟩
   obtain⟨e0,e1⟩:=k7 (h2.block H1.o)
   have M2:=hQQ (MM.o.trans h2)
   clear h2 c0 c1
   go_wp2_with fail
   go_ret
   exact⟨rfl,M2.o⟩
theorem Kb (b l k:Int)(w:World):Calls Tryz.prog 115 #[.agg (iv b l),.int .i64 k] w (aU w (.int .i64 (pz b l (wrap64 (k-1))))):=by
 obtain⟨w1,e1,h1,m1,s1⟩:=bg w (.cells (iv b l) 134)
 obtain⟨c0,c1⟩:=k7 h1
 have MM:=hQQ m1
 clear h1 m1
 go_enter Tryz.func115,Tryz.ntmps115
 go_wp2_with fail
 refine(xq b l _ _).mono ?_
 rintro e w2 ⟨rfl,h2⟩
 have M2:=hQQ (MM.o.trans h2)
 clear h2
 go_wp2_with fail
 go_ret
 exact⟨rfl,M2.o⟩
theorem xr {b l:Int}{n:Nat}(H:d8 b l n)(F:Nat→Prop)(p:Nat)(kn:Int→Option Int)(D:List KV)(w:World)(hv:aK w F p kn D)(hk:OkK kn)(hD:cF n D):
 Calls Tryz.prog 83 #[.agg (iv b l),.pointer (some ⟨p,0,none⟩)] w (aC w F p kn (fun x=> .int .i64 x) (jG b l kn D)):=by
 obtain⟨Rr,hRr⟩:∃Rr,jG b l kn D=Rr:=⟨_,rfl⟩
 rw[hRr]
 obtain⟨w1,e1,hl1,m1,s1⟩:=bg w (.cells (iv b l) 134)
 obtain⟨c0,c1⟩:=k7 hl1
 have nFl:¬F w.heap.size:=fun q=>by have:=hv.lt _ q;omega
 have MM:=hQQ m1
 have L0:=hQQ hl1
 have M0:Hq (MidV w1 w1 F (fun _=>False) p kn n D F):=hQQ (MidV.begin (hv.more m1) hD)
 have KL:Hq (∀wr D' F',MidV w1 wr F (fun _=>False) p kn n D' F'→wr.heap[w.heap.size]?=some (.cells (iv b l) 134 (0,0))):=hQQ fun wr D' F' h=>cI h L0.o nFl (fun q=>q)
 have NEED:Hq (∀a w2,Rr=.need a→aQ w2 p a→Turned (fun b=>F b∨False) w1 w2→aC w F p kn (fun x:Int=>Value.int .i64 x) Rr (.panicked (aY p)) w2):=hQQ fun a w2 e hd ht=>cx MM.o (fun _ q=>q.elim) e hd ht
 have DONE:Hq (∀x w2 D' F',Rr=.ok x D'→MidV w1 w2 F (fun _=>False) p kn n D' F'→aC w F p kn (fun x:Int=>Value.int .i64 x) Rr (.returned ((fun x:Int=>Value.int .i64 x) x)) w2):=hQQ fun x w2 D' F' e h=>bZ MM.o (fun _ q=>q.elim) h e
 have h1:=H.b1;have h0:=H.l0;have hh:=H.hi;have ht:=H.top
 have TH:=zy b l w1
 rw[show ld b l=true by unfold ld;simp;omega] at TH
 have TH:=hQQ TH
 have MO:=hQQ (fun w'=>(vJ H)▸Dn b l w')
 have HK:=hQQ hk
 have HRr:=hQQ hRr
 clear hl1 m1 hv hD hk nFl hRr
 go_enter Tryz.func83,Tryz.ntmps83
 go_wp2_with fail
 refine TH.o.mono ?_
 rintro e w2 ⟨rfl,h2⟩
 have M2:=hQQ (M0.o.more h2)
 obtain⟨d0,d1⟩:=k7 (KL.o _ _ _ M2.o)
 clear h2 c0 c1
 go_wp2_with fail
 refine(jf F p kn D b w2 M2.o.view (by unfold W64;omega)).mono ?_
 intro e w3 he
 rcases M2.o.step (ae.refl _) HK.o (bu n (by omega)) he with⟨a',hE,rfl,hd',ht',_⟩|⟨y,D3,F3,hE,rfl,M3,hq3,_,_⟩
 ·exact⟨rfl,NEED.o a' w3 (HRr.o.symm.trans (ah hE)) hd' ht'⟩
 have FIN:=hQQ (DONE.o (a8 l y) w3 D3 F3 (HRr.o.symm.trans (ak hE)) M3)
 have DON:=hQQ (fun w4 (h4:ae w3 w4)=>DONE.o (a8 l y) w4 D3 F3 (HRr.o.symm.trans (ak hE)) (M3.more h4))
 obtain⟨f0,f1⟩:=k7 (KL.o _ _ _ M3)
 have M3:=hQQ M3
 clear he hE d0 d1
 by_cases y0:0≤y
 ·have g0:decide (0≤y)=true:=by simp[y0]
  by_cases y1:y≤l
  ·have g1:decide (y≤l)=true:=by simp[y1]
   rw[show a8 l y=y by unfold a8;rw[if_pos ⟨y0,y1⟩]] at DON
   clear y0 y1 FIN
   go_wp2_with fail
   refine(MO.o _).mono ?_
   rintro e w4 ⟨rfl,h4⟩
   have D4:=hQQ (DON.o w4 h4)
   clear h4
   go_wp2_with fail
   go_ret
   exact D4.o
  ·have g1:decide (y≤l)=false:=by simp;omega
   rw[show a8 l y=0 by unfold a8;rw[if_neg (by omega)]] at DON
   clear y0 y1 FIN
   go_wp2_with fail
   refine(MO.o _).mono ?_
   rintro e w4 ⟨rfl,h4⟩
   have D4:=hQQ (DON.o w4 h4)
   clear h4
   go_wp2_with fail
   go_ret
   exact D4.o
 ·have g0:decide (0≤y)=false:=by simp;omega
  rw[show a8 l y=0 by unfold a8;rw[if_neg (by omega)]] at FIN
  clear y0 DON
  go_wp2_with fail
  go_ret
  exact FIN.o
theorem zA {b l:Int}{n:Nat}(H:d8 b l n)(F:Nat→Prop)(p:Nat)(kn:Int→Option Int)(D:List KV)(w:World)(hv:aK w F p kn D)(hk:OkK kn)(hD:cF n D):
 Calls Tryz.prog 114 #[.agg (iv b l),.pointer (some ⟨p,0,none⟩),.func (.func 84) #[] #[]] w (aC w F p kn (fun x:Int×Int=> .tuple #[.int .i64 x.1,.int .i64 x.2]) (jU true b l kn D)):=by
 obtain⟨Rr,hRr⟩:∃Rr,jU true b l kn D=Rr:=⟨_,rfl⟩
 rw[hRr]
 obtain⟨w1,e1,hl1,m1,s1⟩:=bg w (.cells (iv b l) 134)
 obtain⟨c0,c1⟩:=k7 hl1
 have nFl:¬F w.heap.size:=fun q=>by have:=hv.lt _ q;omega
 have MM:=hQQ m1
 have L0:=hQQ hl1
 have M0:Hq (MidV w1 w1 F (fun _=>False) p kn n D F):=hQQ (MidV.begin (hv.more m1) hD)
 have KL:Hq (∀wr D' F',MidV w1 wr F (fun _=>False) p kn n D' F'→wr.heap[w.heap.size]?=some (.cells (iv b l) 134 (0,0))):=hQQ fun wr D' F' h=>cI h L0.o nFl (fun q=>q)
 have NEED:Hq (∀a w2,Rr=.need a→aQ w2 p a→Turned (fun b=>F b∨False) w1 w2→aC w F p kn (fun x:Int×Int=>Value.tuple #[.int .i64 x.1,.int .i64 x.2]) Rr (.panicked (aY p)) w2):=hQQ fun a w2 e hd ht=>cx MM.o (fun _ q=>q.elim) e hd ht
 have DONE:Hq (∀(x:Int×Int) w2 D' F',Rr=.ok x D'→MidV w1 w2 F (fun _=>False) p kn n D' F'→aC w F p kn (fun x:Int×Int=>Value.tuple #[.int .i64 x.1,.int .i64 x.2]) Rr (.returned (.tuple #[.int .i64 x.1,.int .i64 x.2])) w2):=hQQ fun x w2 D' F' e h=>bZ MM.o (fun _ q=>q.elim) h e
 have h1:=H.b1;have h0:=H.l0;have hh:=H.hi;have ht:=H.top
 have HK:=hQQ hk
 have HH:=hQQ H
 have HRr:=hQQ hRr
 clear hl1 m1 hv hD hk nFl hRr
 go_enter Tryz.func114,Tryz.ntmps114
 go_wp2_with fail
 refine(xr HH.o F p kn D w1 M0.o.view HK.o M0.o.inv).mono ?_
 intro e w3 he
 rcases M0.o.step (ae.refl _) HK.o (gn HH.o) he with⟨a',hE,rfl,hd',ht',_⟩|⟨y,D3,F3,hE,rfl,M3,hq3,_,_⟩
 ·exact⟨rfl,NEED.o a' w3 (HRr.o.symm.trans (ah hE)) hd' ht'⟩
 have DON:=hQQ (fun w4 (h4:ae w3 w4)=>DONE.o (y,dv b l (if true then y else y-1)) w4 D3 F3 (HRr.o.symm.trans (ak hE)) (M3.more h4))
 obtain⟨d0,d1⟩:=k7 (KL.o _ _ _ M3)
 have hy0:=hq3.1
 have hy1:=hq3.2
 have W0:=hQQ (qt (k:=y) HH.o)
 have q1:=lf (x:=y-1) (by omega) (by omega)
 clear he hE c0 c1 hq3 M3
 go_wp2_with fail
 refine(xq b l _ _).mono ?_
 rw[W0.o]
 rintro e w4 ⟨rfl,h4⟩
 have D4:=hQQ (DON.o w4 h4)
 clear h4
 go_wp2_with fail
 go_ret2
 exact D4.o
theorem zB {b l:Int}{n:Nat}(H:d8 b l n)(F:Nat→Prop)(p:Nat)(kn:Int→Option Int)(D:List KV)(w:World)(hv:aK w F p kn D)(hk:OkK kn)(hD:cF n D):
 Calls Tryz.prog 114 #[.agg (iv b l),.pointer (some ⟨p,0,none⟩),.func (.func 115) #[] #[]] w (aC w F p kn (fun x:Int×Int=> .tuple #[.int .i64 x.1,.int .i64 x.2]) (jU false b l kn D)):=by
 obtain⟨Rr,hRr⟩:∃Rr,jU false b l kn D=Rr:=⟨_,rfl⟩
 rw[hRr]
 obtain⟨w1,e1,hl1,m1,s1⟩:=bg w (.cells (iv b l) 134)
 obtain⟨c0,c1⟩:=k7 hl1
 have nFl:¬F w.heap.size:=fun q=>by have:=hv.lt _ q;omega
 have MM:=hQQ m1
 have L0:=hQQ hl1
 have M0:Hq (MidV w1 w1 F (fun _=>False) p kn n D F):=hQQ (MidV.begin (hv.more m1) hD)
 have KL:Hq (∀wr D' F',MidV w1 wr F (fun _=>False) p kn n D' F'→wr.heap[w.heap.size]?=some (.cells (iv b l) 134 (0,0))):=hQQ fun wr D' F' h=>cI h L0.o nFl (fun q=>q)
 have NEED:Hq (∀a w2,Rr=.need a→aQ w2 p a→Turned (fun b=>F b∨False) w1 w2→aC w F p kn (fun x:Int×Int=>Value.tuple #[.int .i64 x.1,.int .i64 x.2]) Rr (.panicked (aY p)) w2):=hQQ fun a w2 e hd ht=>cx MM.o (fun _ q=>q.elim) e hd ht
 have DONE:Hq (∀(x:Int×Int) w2 D' F',Rr=.ok x D'→MidV w1 w2 F (fun _=>False) p kn n D' F'→aC w F p kn (fun x:Int×Int=>Value.tuple #[.int .i64 x.1,.int .i64 x.2]) Rr (.returned (.tuple #[.int .i64 x.1,.int .i64 x.2])) w2):=hQQ fun x w2 D' F' e h=>bZ MM.o (fun _ q=>q.elim) h e
 have h1:=H.b1;have h0:=H.l0;have hh:=H.hi;have ht:=H.top
 have HK:=hQQ hk
 have HH:=hQQ H
 have HRr:=hQQ hRr
 clear hl1 m1 hv hD hk nFl hRr
 go_enter Tryz.func114,Tryz.ntmps114
 go_wp2_with fail
 refine(xr HH.o F p kn D w1 M0.o.view HK.o M0.o.inv).mono ?_
 intro e w3 he
 rcases M0.o.step (ae.refl _) HK.o (gn HH.o) he with⟨a',hE,rfl,hd',ht',_⟩|⟨y,D3,F3,hE,rfl,M3,hq3,_,_⟩
 ·exact⟨rfl,NEED.o a' w3 (HRr.o.symm.trans (ah hE)) hd' ht'⟩
 have DON:=hQQ (fun w4 (h4:ae w3 w4)=>DONE.o (y,dv b l (if false then y else y-1)) w4 D3 F3 (HRr.o.symm.trans (ak hE)) (M3.more h4))
 obtain⟨d0,d1⟩:=k7 (KL.o _ _ _ M3)
 have hy0:=hq3.1
 have hy1:=hq3.2
 have W0:=hQQ (qt (k:=y-1) HH.o)
 have q1:=lf (x:=y-1) (by omega) (by omega)
 clear he hE c0 c1 hq3 M3
 go_wp2_with fail
 refine(Kb b l _ _).mono ?_
 rw[q1,W0.o]
 rintro e w4 ⟨rfl,h4⟩
 have D4:=hQQ (DON.o w4 h4)
 clear h4
 go_wp2_with fail
 go_ret2
 exact D4.o
theorem Kc {b l:Int}{n:Nat}(H:d8 b l n)(F:Nat→Prop)(p:Nat)(kn:Int→Option Int)(D:List KV)(x:Int)(hx:W64 x)(w:World)(hv:aK w F p kn D)(hk:OkK kn)(hD:cF n D):
 Calls Tryz.prog 104 #[.pointer (some ⟨p,0,none⟩),.int .i64 b,.int .i64 l,.int .i64 x] w (aC w F p kn (fun b=> .bool b) (jH b l x kn D)):=by
 obtain⟨Rr,hRr⟩:∃Rr,jH b l x kn D=Rr:=⟨_,rfl⟩
 rw[hRr]
 have M0:Hq (MidV w w F (fun _=>False) p kn n D F):=hQQ (MidV.begin hv hD)
 have MM:=hQQ (ae.refl w)
 have NEED:Hq (∀a w2,Rr=.need a→aQ w2 p a→Turned (fun b=>F b∨False) w w2→aC w F p kn (fun x:Bool=>Value.bool x) Rr (.panicked (aY p)) w2):=hQQ fun a w2 e hd ht=>cx MM.o (fun _ q=>q.elim) e hd ht
 have DONE:Hq (∀x w2 D' F',Rr=.ok x D'→MidV w w2 F (fun _=>False) p kn n D' F'→aC w F p kn (fun x:Bool=>Value.bool x) Rr (.returned ((fun x:Bool=>Value.bool x) x)) w2):=hQQ fun x w2 D' F' e h=>bZ MM.o (fun _ q=>q.elim) h e
 have h1:=H.b1;have h0:=H.l0;have hh:=H.hi;have ht:=H.top
 have HX:=hQQ hx
 have HK:=hQQ hk
 have HH:=hQQ H
 have HRr:=hQQ hRr
 clear hv hD hk hRr hx
 go_enter Tryz.func104,Tryz.ntmps104
 go_wp2_with fail
 refine(zA HH.o F p kn D w M0.o.view HK.o M0.o.inv).mono ?_
 intro e w3 he
 rcases M0.o.step (ae.refl _) HK.o (kW HH.o true) he with⟨a',hE,rfl,hd',ht',_⟩|⟨y,D3,F3,hE,rfl,M3,hq3,_,_⟩
 ·exact⟨rfl,NEED.o a' w3 (HRr.o.symm.trans (ah hE)) hd' ht'⟩
 obtain⟨y,z⟩:=y
 obtain⟨q0,q1,q2⟩:=hq3
 simp only at q0 q1 q2
 have R3:=hQQ ((ak hE).symm.trans HRr.o)
 have M3:=hQQ M3
 clear he hE
 by_cases z0:z=0
 ·have FIN:=hQQ (DONE.o false w3 D3 F3 (by have:=R3.o;rw[if_pos z0] at this;exact this.symm) M3.o)
  have g0:(z==0)=true:=by simp[z0]
  clear z0 R3 q2
  go_wp2_with fail
  go_ret
  exact FIN.o
 ·have g0:(z==0)=false:=by simp[z0]
  have R3':=R3.o
  simp only[] at R3'
  rw[if_neg z0] at R3'
  have RB:=hQQ R3'
  clear R3' R3
  have q3:=hQQ (q2.resolve_left z0)
  have q4:=lf (x:=y+1) (by omega) (by omega)
  clear z0 q2
  go_wp2_with fail
  refine(dl F3 p kn D3 z x w3 M3.o.view (by have:=M3.o.inv.len;omega)).mono ?_
  intro e w4 he
  rcases M3.o.step (ae.refl _) HK.o (aV n (by have:=q3.o;unfold W64;omega) (by have:=q3.o;omega) HX.o) he with⟨a',hE,rfl,hd',ht',_⟩|⟨x4,D4,F4,hE,rfl,M4,hq4,_,_⟩
  ·exact⟨rfl,NEED.o a' w4 (RB.o.symm.trans (ah hE)) hd' ht'⟩
  have R4:=hQQ ((ak hE).symm.trans RB.o)
  have M4:=hQQ M4
  clear he hE
  go_wp2_with fail
  refine(dl F4 p kn D4 b (y+1) w4 M4.o.view (by have:=M4.o.inv.len;omega)).mono ?_
  intro e w5 he
  rcases M4.o.step (ae.refl _) HK.o (aV n (by unfold W64;omega) (by omega) (by unfold W64;omega)) he with⟨a',hE,rfl,hd',ht',_⟩|⟨x5,D5,F5,hE,rfl,M5,hq5,_,_⟩
  ·exact⟨rfl,NEED.o a' w5 (R4.o.symm.trans (ah hE)) hd' ht'⟩
  have FIN:=hQQ (DONE.o true w5 D5 F5 (by have:=(ak hE).symm.trans R4.o;exact this.symm) M5)
  clear he hE
  go_wp2_with fail
  go_ret
  exact FIN.o
theorem Iq {b l:Int}{n:Nat}(H:d8 b l n)(F:Nat→Prop)(p:Nat)(kn:Int→Option Int)(D:List KV)(w:World)(hv:aK w F p kn D)(hk:OkK kn)(hD:cF n D):
 Calls Tryz.prog 89 #[.pointer (some ⟨p,0,none⟩),.int .i64 b,.int .i64 l] w (aC w F p kn (fun x:Int×Bool=> .tuple #[.int .i64 x.1,.bool x.2]) (ed b l kn D)):=by
 obtain⟨Rr,hRr⟩:∃Rr,ed b l kn D=Rr:=⟨_,rfl⟩
 rw[hRr]
 have M0:Hq (MidV w w F (fun _=>False) p kn n D F):=hQQ (MidV.begin hv hD)
 have MM:=hQQ (ae.refl w)
 have NEED:Hq (∀a w2,Rr=.need a→aQ w2 p a→Turned (fun b=>F b∨False) w w2→aC w F p kn (fun x:Int×Bool=>Value.tuple #[.int .i64 x.1,.bool x.2]) Rr (.panicked (aY p)) w2):=hQQ fun a w2 e hd ht=>cx MM.o (fun _ q=>q.elim) e hd ht
 have DONE:Hq (∀(x:Int×Bool) w2 D' F',Rr=.ok x D'→MidV w w2 F (fun _=>False) p kn n D' F'→aC w F p kn (fun x:Int×Bool=>Value.tuple #[.int .i64 x.1,.bool x.2]) Rr (.returned (.tuple #[.int .i64 x.1,.bool x.2])) w2):=hQQ fun x w2 D' F' e h=>bZ MM.o (fun _ q=>q.elim) h e
 have h1:=H.b1;have h0:=H.l0;have hh:=H.hi;have ht:=H.top
 have HK:=hQQ hk
 have HH:=hQQ H
 have HRr:=hQQ hRr
 clear hv hD hk hRr
 go_enter Tryz.func89,Tryz.ntmps89
 go_wp2_with fail
 refine(zB HH.o F p kn D w M0.o.view HK.o M0.o.inv).mono ?_
 intro e w3 he
 rcases M0.o.step (ae.refl _) HK.o (kW HH.o false) he with⟨a',hE,rfl,hd',ht',_⟩|⟨y,D3,F3,hE,rfl,M3,hq3,_,_⟩
 ·exact⟨rfl,NEED.o a' w3 (HRr.o.symm.trans (ah hE)) hd' ht'⟩
 obtain⟨y,z⟩:=y
 obtain⟨q0,q1,q2⟩:=hq3
 simp only at q0 q1 q2
 have R3:=hQQ ((ak hE).symm.trans HRr.o)
 have M3:=hQQ M3
 clear he hE
 by_cases z0:z=0
 ·have FIN:=hQQ (DONE.o (0,false) w3 D3 F3 (by have:=R3.o;rw[if_pos z0] at this;exact this.symm) M3.o)
  have g0:(z==0)=true:=by simp[z0]
  clear z0 R3 q2
  go_wp2_with fail
  go_ret2
  exact FIN.o
 ·have g0:(z==0)=false:=by simp[z0]
  have R3':=R3.o
  simp only[] at R3'
  rw[if_neg z0] at R3'
  have RB:=hQQ R3'
  clear R3' R3
  have q3:=hQQ (q2.resolve_left z0)
  have q4:=lf (x:=y-1) (by omega) (by omega)
  clear z0 q2
  go_wp2_with fail
  refine(jf F3 p kn D3 z w3 M3.o.view (by have:=q3.o;unfold W64;omega)).mono ?_
  intro e w4 he
  rcases M3.o.step (ae.refl _) HK.o (bu n (by have:=q3.o;omega)) he with⟨a',hE,rfl,hd',ht',_⟩|⟨x4,D4,F4,hE,rfl,M4,hq4,_,_⟩
  ·exact⟨rfl,NEED.o a' w4 (RB.o.symm.trans (ah hE)) hd' ht'⟩
  have R4:=hQQ ((ak hE).symm.trans RB.o)
  have M4:=hQQ M4
  clear he hE
  go_wp2_with fail
  refine(dl F4 p kn D4 b (y-1) w4 M4.o.view (by have:=M4.o.inv.len;omega)).mono ?_
  intro e w5 he
  rcases M4.o.step (ae.refl _) HK.o (aV n (by unfold W64;omega) (by omega) (by unfold W64;omega)) he with⟨a',hE,rfl,hd',ht',_⟩|⟨x5,D5,F5,hE,rfl,M5,hq5,_,_⟩
  ·exact⟨rfl,NEED.o a' w5 (R4.o.symm.trans (ah hE)) hd' ht'⟩
  have FIN:=hQQ (DONE.o (x4,true) w5 D5 F5 (by have:=(ak hE).symm.trans R4.o;exact this.symm) M5)
  clear he hE
  go_wp2_with fail
  go_ret2
  exact FIN.o
inductive WayD where
 |room (b l:Int)
 |home
def jq (n:Nat):WayD→Prop
 | .room b l=>d8 b l n
 | .home=>True
section
variable (us pg st:Int)
def zC:WayD→Int→Prg Bool
 | .room b l,a=>jH b l a
 | .home,a=>qT us pg st a
def lB:List WayD→Int→Prg Unit
 | [],_=>aA ()
 |y::t,a=>ar (zC us pg st y a) fun b=>if b then aA () else lB t a
def dG (wy:List WayD)(k:Int):Nat→(Nat→List Int)→Prg (Nat→List Int)
 | 0,P=>aA P
 |m+1,P=>if gG P k then ar (lB us pg st wy (gZ P k)) fun _=>dG wy k m (gM P k) else aA P
def kq (wy:List WayD)(b l:Int):Nat→Prg Unit
 | 0=>aA ()
 |m+1=>ar (ed b l) fun x=>if x.2 then ar (lB us pg st wy x.1) fun _=>kq wy b l m else aA ()
def eW (wy:List WayD):List (Int×Int)→Prg Unit
 | []=>aA ()
 |s::t=>ar (kq us pg st wy s.1 s.2 (s.2.toNat+1)) fun _=>eW wy t
def tI:WayD→Int→List Int→Bool×List Int
 | .room b l,a,ws=>cK b l a ws
 | .home,a,ws=>gQ us pg st a ws
def oy:List WayD→Int→List Int→List Int
 | [],_,ws=>ws
 |y::t,a,ws=>if(tI us pg st y a ws).1 then(tI us pg st y a ws).2 else oy t a (tI us pg st y a ws).2
def hH (wy:List WayD)(k:Int):Nat→(Nat→List Int)→List Int→(Nat→List Int)×List Int
 | 0,P,ws=>(P,ws)
 |m+1,P,ws=>if gG P k then hH wy k m (gM P k) (oy us pg st wy (gZ P k) ws) else(P,ws)
def qY (wy:List WayD)(b l:Int):Nat→List Int→List Int
 | 0,ws=>ws
 |m+1,ws=>if(bb b l ws).1.2 then qY wy b l m (oy us pg st wy (bb b l ws).1.1 (bb b l ws).2) else(bb b l ws).2
def nq (wy:List WayD):List (Int×Int)→List Int→List Int
 | [],ws=>ws
 |s::t,ws=>nq wy t (qY us pg st wy s.1 s.2 (s.2.toNat+1) ws)
theorem E0 (y:WayD)(a:Int):bH (zC us pg st y a):=by
 cases y with
 |room b l=>exact xn _ _ _
 |home=>exact Ba _ _ _ _
theorem qu:∀(wy:List WayD) (a:Int),bH (lB us pg st wy a)
 | [],a=>ai _
 |y::t,a=>aq (E0 us pg st y a) fun b=>aL (ai _) (qu t a)
theorem mC (wy:List WayD)(k:Int):∀(m:Nat) (P:Nat→List Int),bH (dG us pg st wy k m P)
 | 0,P=>ai _
 |m+1,P=>aL (aq (qu us pg st _ _) fun _=>mC wy k m _) (ai _)
theorem tJ (wy:List WayD)(b l:Int):∀m,bH (kq us pg st wy b l m)
 | 0=>ai _
 |m+1=>aq (qV _ _) fun x=>aL (aq (qu us pg st _ _) fun _=>tJ wy b l m) (ai _)
theorem pA (wy:List WayD):∀t,bH (eW us pg st wy t)
 | []=>ai _
 |s::t=>aq (tJ us pg st _ _ _ _) fun _=>pA wy t
end
theorem jK (P:Nat→List Int)(k:Nat)(xs:List Int):de P k xs k=xs:=by simp[de]
def pB (P:Nat→List Int):Prop:=∀j,j<5→∀a∈P j,W64 a
theorem tK {P:Nat→List Int}(h:pB P){k:Int}(e:gG P k=true):W64 (gZ P k):=by
 have e':=e
 unfold gG at e'
 have hl:0<cZ P k:=by simpa using e'
 unfold cZ at hl
 split at hl
 ·rename_i hb
  obtain⟨j,rfl,hj⟩:=ms hb
  unfold gZ
  rw[if_pos e]
  simp only[Int.toNat_natCast] at hl⊢
  refine h j hj _ ?_
  rw[List.getD_eq_getElem?_getD,List.getElem?_eq_getElem (by omega)]
  exact List.getElem_mem _
 ·omega
theorem tL {P:Nat→List Int}(h:pB P)(k:Int):pB (gM P k):=fun j hj a ha=>by
 unfold gM at ha
 split at ha
 ·simp only at ha
  split at ha
  ·exact h j hj a (List.mem_of_mem_take ha)
  ·exact h j hj a ha
 ·exact h j hj a ha
theorem tM (P:Nat→List Int)(k:Int)(j:Nat):(gM P k j).length≤(P j).length:=by
 unfold gM
 split
 ·simp only
  split
  ·simp
  ·exact Nat.le_refl _
 ·exact Nat.le_refl _
theorem oz {α β:Type}{n:Nat}{p:Prg α}{f:α→Prg β}{g:List Int→α×List Int}{k:α→List Int→β×List Int}{Q:α→Prop}(h:bR n p g)(G:bV n Q p)(hf:∀x,Q x→bR n (f x) (k x)):bR n (ar p f) (fun ws=>k (g ws).1 (g ws).2):=fun zs D hn hz hD=>by
 obtain⟨D1,e1,a1,i1⟩:=h zs D hn hz hD
 obtain⟨D2,e2,a2,i2⟩:=hf (g (cj zs D)).1 (G.ok (jy hz) hD e1).2 zs D1 hn hz i1
 refine⟨D2,?_,?_,i2⟩
 ·rw[ak e1,e2,a1]
 ·rw[a2,a1]
section
variable {us pg st:Int}{n:Nat}(H:cH pg st n)
include H
theorem tN {y:WayD}(hy:jq n y){a:Int}(ha:W64 a):bV n (fun _=>True) (zC us pg st y a):=by
 cases y with
 |room b l=>exact zt hy ha
 |home=>exact vx H us a
theorem pC {a:Int}(ha:W64 a):∀ {wy:List WayD},(∀y∈wy,jq n y)→bV n (fun _=>True) (lB us pg st wy a)
 | [],_=>aj n trivial
 |y::t,h=>au (tN H (h y (by simp)) ha) fun b _=>aX (fun _=>aj n trivial) (fun _=>pC ha fun z hz=>h z (by simp[hz]))
theorem tO {wy:List WayD}(hy:∀y∈wy,jq n y)(k:Int):∀(m:Nat) (P:Nat→List Int),pB P→bV n (fun P'=>pB P'∧∀j,(P' j).length≤(P j).length) (dG us pg st wy k m P)
 | 0,P,h=>aj n ⟨h,fun _=>Nat.le_refl _⟩
 |m+1,P,h=>aX (fun e=>au (pC H (tK h e) hy) fun _ _=>dw (tO hy k m _ (tL h k)) fun P' q=>⟨q.1,fun j=>Nat.le_trans (q.2 j) (tM P k j)⟩) (fun _=>aj n ⟨h,fun _=>Nat.le_refl _⟩)
theorem vK {wy:List WayD}(hy:∀y∈wy,jq n y){b l:Int}(hs:d8 b l n):∀m,bV n (fun _=>True) (kq us pg st wy b l m)
 | 0=>aj n trivial
 |m+1=>au (gY hs) fun x hx=>aX (fun _=>au (pC H hx hy) fun _ _=>vK hy hs m) (fun _=>aj n trivial)
theorem qZ {wy:List WayD}(hy:∀y∈wy,jq n y):∀t:List (Int×Int),(∀s∈t,d8 s.1 s.2 n)→bV n (fun _=>True) (eW us pg st wy t)
 | [],_=>aj n trivial
 |s::t,h=>au (vK H hy (h s (by simp)) _) fun _ _=>qZ hy t fun z hz=>h z (by simp[hz])
theorem Ir {y:WayD}(hy:jq n y){a:Int}(ha:W64 a):bR n (zC us pg st y a) (tI us pg st y a):=by
 cases y with
 |room b l=>exact qX hy ha
 |home=>exact vF H us a
theorem tP {a:Int}(ha:W64 a):∀ {wy:List WayD},(∀y∈wy,jq n y)→bR n (lB us pg st wy a) (fun ws=>((),oy us pg st wy a ws))
 | [],_=>ax n _
 |y::t,h=>by
  refine a6 (aD (Ir H (h y (by simp)) ha) fun b=>bJ (fun _=>ax n ()) (fun _=>tP ha fun z hz=>h z (by simp[hz]))) fun ws _=>?_
  show _=((),oy us pg st (y::t) a ws)
  have e:oy us pg st (y::t) a ws=if(tI us pg st y a ws).1 then(tI us pg st y a ws).2 else oy us pg st t a (tI us pg st y a ws).2:=rfl
  rw[e]
  cases (tI us pg st y a ws).1<;>rfl
theorem oA {wy:List WayD}(hy:∀y∈wy,jq n y)(k:Int):∀(m:Nat) (P:Nat→List Int),pB P→bR n (dG us pg st wy k m P) (fun ws=>hH us pg st wy k m P ws)
 | 0,P,h=>ax n _
 |m+1,P,h=>by
  refine a6 (bJ (fun e=>aD (tP H (tK h e) hy) fun _=>oA hy k m _ (tL h k)) (fun _=>ax n P)) fun ws _=>?_
  have e:hH us pg st wy k (m+1) P ws=if gG P k then hH us pg st wy k m (gM P k) (oy us pg st wy (gZ P k) ws) else(P,ws):=rfl
  rw[e]
theorem vL {wy:List WayD}(hy:∀y∈wy,jq n y){b l:Int}(hs:d8 b l n):∀m,bR n (kq us pg st wy b l m) (fun ws=>((),qY us pg st wy b l m ws))
 | 0=>ax n _
 |m+1=>by
  refine a6 (oz (oq hs) (gY hs) fun x hx=>bJ (fun _=>aD (tP H hx hy) fun _=>vL hy hs m) (fun _=>ax n ())) fun ws _=>?_
  have e:qY us pg st wy b l (m+1) ws=if(bb b l ws).1.2 then qY us pg st wy b l m (oy us pg st wy (bb b l ws).1.1 (bb b l ws).2) else(bb b l ws).2:=rfl
  rw[e]
  cases (bb b l ws).1.2<;>rfl
theorem q8 {wy:List WayD}(hy:∀y∈wy,jq n y):∀t:List (Int×Int),(∀s∈t,d8 s.1 s.2 n)→bR n (eW us pg st wy t) (fun ws=>((),nq us pg st wy t ws))
 | [],_=>ax n _
 |s::t,h=>aD (vL H hy (h s (by simp)) _) fun _=>q8 hy t fun z hz=>h z (by simp[hz])
end
section
variable (us pg st:Int)(S:Fam)(i0 i1:Nat)
theorem tQ (a:Int)(ws:List Int):oy us pg st [.home] a ws=(gQ us pg st a ws).2:=by
 have e:oy us pg st [.home] a ws=if(tI us pg st .home a ws).1 then(tI us pg st .home a ws).2 else(tI us pg st .home a ws).2:=rfl
 rw[e,ite_self];rfl
theorem Iu (a:Int)(ws:List Int):oy us pg st [.room (S.b i0) (S.l i0),.room (S.b i1) (S.l i1),.home] a ws=tH us pg st S i0 i1 a ws:=by
 have e:oy us pg st [.room (S.b i0) (S.l i0),.room (S.b i1) (S.l i1),.home] a ws=if(cK (S.b i0) (S.l i0) a ws).1 then(cK (S.b i0) (S.l i0) a ws).2
  else if(cK (S.b i1) (S.l i1) a (cK (S.b i0) (S.l i0) a ws).2).1 then(cK (S.b i1) (S.l i1) a (cK (S.b i0) (S.l i0) a ws).2).2
  else oy us pg st [.home] a (cK (S.b i1) (S.l i1) a (cK (S.b i0) (S.l i0) a ws).2).2:=rfl
 rw[e,tQ];rfl
theorem tT (k:Nat):∀(m:Nat) (P:Nat→List Int) (ws:List Int),hH us pg st [.room (S.b i0) (S.l i0),.room (S.b i1) (S.l i1),.home] k m P ws=jI us pg st S i0 i1 k m P ws
 | 0,P,ws=>rfl
 |m+1,P,ws=>by
  unfold hH jI
  rw[Iu,tT k m]
theorem tU (x:Int):∀(l:List Int) (ws:List Int),iH us pg st (l++ [x]) ws=iH us pg st l (gQ us pg st x ws).2
 | [],ws=>rfl
 |a::t,ws=>by
  show(gQ us pg st a (iH us pg st (t++ [x]) ws)).2=_
  rw[tU x t ws];rfl
theorem ra {k:Nat}(hk:k<5):∀(m:Nat) (P:Nat→List Int) (ws:List Int),(P k).length=m→hH us pg st [.home] k m P ws=(de P k [],iH us pg st (P k) ws)
 | 0,P,ws,h=>by
   have e:=List.length_eq_zero_iff.1 h
   rw[e]
   have:de P k []=P:=by rw[←e];exact eO P k
   rw[this];rfl
 |m+1,P,ws,h=>by
  obtain⟨xs,x,e⟩:∃xs x,P k=xs++ [x]:=⟨(P k).dropLast,(P k).getLast (by intro q;rw[q] at h;simp at h),(List.dropLast_concat_getLast _).symm⟩
  obtain⟨e1,e2,e3⟩:=kY P hk e
  unfold hH
  rw[if_pos e1,e2,e3,tQ,ra hk m _ _ (by rw[jK];rw[e] at h;simpa using h)]
  rw[kX,jK,e,tU]
theorem rc (b l:Int):∀(m:Nat) (ws:List Int),qY us pg st [.home] b l m ws=il us pg st b l m ws
 | 0,ws=>rfl
 |m+1,ws=>by
  unfold qY il
  rw[tQ]
  split
  ·exact rc b l m _
  ·rename_i h
   unfold bb at h⊢
   simp only at h⊢
   by_cases q:0<a8 l (wAt ws b)
   ·rw[if_pos q] at h;simp at h
   ·rw[if_neg q]
theorem rd (wy:List WayD)(s:Int×Int):∀(t:List (Int×Int)) (ws:List Int),nq us pg st wy (t++ [s]) ws=qY us pg st wy s.1 s.2 (s.2.toNat+1) (nq us pg st wy t ws)
 | [],ws=>rfl
 |z::t,ws=>rd wy s t _
def famL (S:Fam):Nat→List (Int×Int)
 | 0=> []
 |m+1=>famL S m++ [(S.b m,S.l m)]
theorem pD:∀(m:Nat) (ws:List Int),nq us pg st [.home] (famL S m) ws=ox us pg st S m ws
 | 0,ws=>rfl
 |m+1,ws=>by
  show nq us pg st [.home] (famL S m++ [(S.b m,S.l m)]) ws=_
  rw[rd,rc,pD m ws];rfl
theorem zD {m:Nat}{s:Int×Int}(h:s∈famL S m):∃i,i<m∧s=(S.b i,S.l i):=by
 induction m with
 |zero=>cases h
 |succ m ih =>
  rcases List.mem_append.1 h with h|h
  ·obtain⟨i,hi,e⟩:=ih h;exact⟨i,by omega,e⟩
  ·exact⟨m,by omega,List.mem_singleton.1 h⟩
end
def PuN (O:Nat→Prop)(f:Nat→Value):Prop:=∀c,c<5→∀q,(f c).ownBlock=some q→O q
theorem PuN.mono {O O':Nat→Prop}{f:Nat→Value}(h:PuN O f)(m:∀q,O q→O' q):PuN O' f:=fun c hc q e=>m q (h c hc q e)
theorem PuN.nil (O:Nat→Prop):PuN O (fun _=> .slice none 0 0):=fun _ _ _ e=>by cases e
theorem Pu.lt {w:World}{f:Nat→Value}{P:Nat→List Int}(h:Pu w f P):PuN (fun q=>q<w.heap.size) f:=fun c hc q e=>by
 obtain⟨a,cap,hv,_,_,z⟩:=h c hc
 rw[hv] at e
 rcases z with⟨rfl,_⟩|⟨g,cur,rfl,hg,_⟩
 ·cases e
 ·cases e;exact ac hg
theorem Pu.off {w w':World}{f:Nat→Value}{P:Nat→List Int}{S:Nat→Prop}(h:Pu w f P)(n:PuN (fun q=>¬S q) f)(t:Turned S w w'):Pu w' f P:=fun c hc=>by
 obtain⟨a,cap,hv,h1,h2,z⟩:=h c hc
 refine⟨a,cap,hv,h1,h2,z.imp id ?_⟩
 rintro⟨g,cur,rfl,hg,r⟩
 exact⟨g,cur,rfl,(t.block g (ac hg) (n c hc g (by rw[hv];rfl))).trans hg,r⟩
def eI (w:World)(O:Nat→Prop)(P:Nat→List Int)(val:Value→Value)(e:Ending)(w':World):Prop:=∃f,e=.returned (val (.agg (puA f)))∧Pu w' f P∧ae w w'∧PuN (fun q=>O q∨w.heap.size≤q) f
theorem zE (f:Nat→Value)(P:Nat→List Int)(k n:Nat)(w:World)(h:Pu w f P)(hk:k<5)(hn:n≤(P k).length)(hl:(P k).length≤1000000):
 Calls Tryz.prog 96 #[.agg (puA f),.int .i64 k,.int .i64 n] w (fun e w'=>∃a,e=.returned (.slice a n n)∧Rd w' (.slice a n n) ((P k).take n)∧ae w w'∧∀q,(Value.slice a n n).ownBlock=some q→(f k).ownBlock=some q):=by
 obtain⟨w1,e1,hl1,m1,s1⟩:=en1 w (.cells (puA f) 32)
 have M1:=hQQ m1
 obtain⟨a,⟨cap,hf,hc,h0⟩,hr⟩:=((h k hk).more m1).first hn
 have x1:w1.cell? ⟨w.heap.size,k,none⟩=some (.slice a (P k).length cap):=(km hl1 hk).trans (by rw[hf])
 have HR:=hQQ hr
 have HO:Hq (∀q,(Value.slice a n n).ownBlock=some q→(f k).ownBlock=some q):=hQQ (fun q e=>by rw[hf];cases a<;>exact e)
 clear m1 h s1 hl1 hf hr
 have hm:=hk
 generalize (P k).length=m at *
 go_enter Tryz.func96,Tryz.ntmps96
 cases a with
 |none =>
  obtain rfl:=h0 rfl
  obtain rfl:n=0:=by omega
  go_wp2_with fail
  go_ret
  exact⟨_,rfl,HR.o,M1.o,HO.o⟩
 |some p =>
  clear h0
  go_wp2_with fail
  go_ret
  exact⟨_,rfl,HR.o,M1.o,HO.o⟩
theorem Bz (O:Nat→Prop)(f:Nat→Value)(P:Nat→List Int)(c a l:Int)(w:World)(h:Pu w f P)(ho:PuN O f)(hb:dV P c l=false):
 Calls Tryz.prog 67 #[.agg (puA f),.int .i64 c,.int .i64 a,.int .i64 l] w (eI w O P (fun v=> .tuple #[v,.bool false])):=by
 obtain⟨z0,hz0⟩:∃z:Array Value,z= #[.slice none 0 0,.slice none 0 0,.slice none 0 0,.slice none 0 0,.slice none 0 0]:=⟨_,rfl⟩
 obtain⟨w2,e2,hl1,hl2,m2,s2⟩:=en2 w (.cells (puA f) 32) (.cells #[.slice none 0 0,.slice none 0 0,.slice none 0 0,.slice none 0 0,.slice none 0 0] 32)
 have L1:=hQQ hl1
 have L2:=hQQ hl2
 have M2:=hQQ m2
 have HP:=hQQ (h.more m2)
 have HL:=hQQ (fun W (hW:ae w2 W)=>mt f P c W (HP.o.more hW))
 have HC:=hQQ (fun W=>np c W)
 have H1:=hQQ h.all1
 have FIN:Hq (∀W,ae w2 W→eI w O P (fun v=> .tuple #[v,.bool false]) (.returned (.tuple #[.agg (puA f),.bool false])) (W.setRow (w.heap.size+1) (puA f))):=hQQ fun W hW =>
  ⟨f,rfl,(HP.o.more hW).keep (S:=fun k=>k=w.heap.size+1) (Turned.setRow (Turned.refl _ W) _ _ (fun _=>rfl)) (fun k q=>by subst q;exact⟨_,_,_,hW.block L2.o,by decide⟩),(M2.o.trans hW).setRow _ _ (by omega),ho.mono (fun _ z=> .inl z)⟩
 clear hl1 hl2 m2 h s2 ho
 cases hc:iL c with
 |false =>
  rw[hc] at HC
  rw[Dj P hc] at HL
  clear hc hb
  go_enter Tryz.func67,Tryz.ntmps67
  go_wp2_with (refine wpList_load_row rfl 32 _ rfl _ rfl 32 _ _ _ L1.o Tryz.underlying32 rfl (by kernel_rfl) ?_)
  refine(HL.o w2 (ae.refl _)).mono ?_
  rintro e w3 ⟨rfl,h3⟩
  have M3:=hQQ h3
  clear h3
  go_wp2_with fail
  refine(HC.o w3).mono ?_
  rintro e w4 ⟨rfl,h4⟩
  have M4:=hQQ (M3.o.trans h4)
  clear h4
  go_wp2_with (first|(refine wpList_load_row rfl 32 _ rfl _ rfl 32 _ _ _ (M4.o.block L1.o) Tryz.underlying32 rfl (by kernel_rfl) ?_)|(refine wpList_store_row rfl 32 _ _ rfl _ _ rfl rfl 32 _ (M4.o.block L2.o) (by kernel_rfl) rfl H1.o ?_))
  refine bodyPost_ret (v:=.tuple #[.agg (puA f),.bool false]) (xp Tryz.results67 _ _ _ 32 _ (0,0) _ rfl (setRow_heap _ _ _ _ _ _ (M4.o.block L2.o)) Tryz.underlying32 rfl (by kernel_rfl)) rfl (FIN.o _ M4.o)
 |true =>
  rw[hc] at HC
  obtain⟨n,hn⟩:∃n,cZ P c=n:=⟨_,rfl⟩
  rw[hn] at HL
  have hb2:decide (l≤n)=true:=by simp[dV,hc,hn] at hb;simpa using hb
  clear hc hb hn
  go_enter Tryz.func67,Tryz.ntmps67
  go_wp2_with (refine wpList_load_row rfl 32 _ rfl _ rfl 32 _ _ _ L1.o Tryz.underlying32 rfl (by kernel_rfl) ?_)
  refine(HL.o w2 (ae.refl _)).mono ?_
  rintro e w3 ⟨rfl,h3⟩
  have M3:=hQQ h3
  clear h3
  go_wp2_with fail
  refine(HC.o w3).mono ?_
  rintro e w4 ⟨rfl,h4⟩
  have M4:=hQQ (M3.o.trans h4)
  clear h4
  go_wp2_with (first|(refine wpList_load_row rfl 32 _ rfl _ rfl 32 _ _ _ (M4.o.block L1.o) Tryz.underlying32 rfl (by kernel_rfl) ?_)|(refine wpList_store_row rfl 32 _ _ rfl _ _ rfl rfl 32 _ (M4.o.block L2.o) (by kernel_rfl) rfl H1.o ?_))
  refine bodyPost_ret (v:=.tuple #[.agg (puA f),.bool false]) (xp Tryz.results67 _ _ _ 32 _ (0,0) _ rfl (setRow_heap _ _ _ _ _ _ (M4.o.block L2.o)) Tryz.underlying32 rfl (by kernel_rfl)) rfl (FIN.o _ M4.o)
theorem zF (O:Nat→Prop)(f:Nat→Value)(P:Nat→List Int)(k:Nat)(a l:Int)(w:World)(h:Pu w f P)(ho:PuN O f)(hk:k<5)(hl:(P k).length<l)(hL:(P k).length≤1000000):
 Calls Tryz.prog 67 #[.agg (puA f),.int .i64 k,.int .i64 a,.int .i64 l] w (eI w O (fun j=>if j=k then P j++ [a] else P j) (fun v=> .tuple #[v,.bool true])):=by
 obtain⟨w2,e2,hl1,hl2,m2,s2⟩:=en2 w (.cells (puA f) 32) (.cells #[.slice none 0 0,.slice none 0 0,.slice none 0 0,.slice none 0 0,.slice none 0 0] 32)
 have L1:=hQQ hl1
 have L2:=hQQ hl2
 have M2:=hQQ m2
 have HP:=hQQ (h.more m2)
 have HL:=hQQ (fun W (hW:ae w2 W)=>mt f P k W (HP.o.more hW))
 rw[dF P hk] at HL
 have HC:=hQQ (fun W=>np k W)
 rw[xo hk] at HC
 have HF:=hQQ (fun W (hW:ae w2 W)=>zE f P k (P k).length W (HP.o.more hW) hk (Nat.le_refl _) hL)
 rw[List.take_length] at HF
 have FIN:Hq (∀W v,ae w2 W→Rd W v (P k++ [a])→(∀q,v.ownBlock=some q→O q∨w.heap.size≤q)→(((W.setCell ⟨w.heap.size,k,none⟩ v).setRow (w.heap.size+1) (puA (jp f k v))).heap[w.heap.size+1]?=some (.cells (puA (jp f k v)) 32 (0,0)))∧(W.setCell ⟨w.heap.size,k,none⟩ v).heap[w.heap.size]?=some (.cells (puA (jp f k v)) 32 (0,0))∧(W.setCell ⟨w.heap.size,k,none⟩ v).heap[w.heap.size+1]?=W.heap[w.heap.size+1]? ∧(puA (jp f k v)).all (·.oneCell')=true ∧
  eI w O (fun j=>if j=k then P j++ [a] else P j) (fun v=> .tuple #[v,.bool true]) (.returned (.tuple #[.agg (puA (jp f k v)),.bool true])) ((W.setCell ⟨w.heap.size,k,none⟩ v).setRow (w.heap.size+1) (puA (jp f k v)))):=hQQ fun W v hW hv hvo=>by
  have q1:=hW.block L1.o
  have q2:=hW.block L2.o
  have q3:=heap_setCell_same W _ k _ _ v q1
  rw[Di f hk] at q3
  have q4:(W.setCell ⟨w.heap.size,k,none⟩ v).heap[w.heap.size+1]?=W.heap[w.heap.size+1]? :=heap_setCell_other W _ _ v (by simp)
  have t1:Turned (fun j=>j=w.heap.size) W (W.setCell ⟨w.heap.size,k,none⟩ v):=Turned.setCell (Turned.refl _ W) _ _ (fun _=>rfl)
  have t2:Turned (fun j=>j=w.heap.size∨j=w.heap.size+1) W ((W.setCell ⟨w.heap.size,k,none⟩ v).setRow (w.heap.size+1) (puA (jp f k v))):=Turned.setRow (t1.mono fun _ _ q=> .inl q) _ _ (fun _=> .inr rfl)
  have hpu:Pu W (jp f k v) (fun j=>if j=k then P j++ [a] else P j):=fun c hc=>by
   unfold jp
   by_cases e:c=k
   ·subst e;simpa using hv
   ·simpa [e] using (HP.o.more hW) c hc
  have hno:PuN (fun q=>O q∨w.heap.size≤q) (jp f k v):=fun c hc q e=>by
   unfold jp at e
   by_cases z:c=k
   ·subst z;exact hvo q (by simpa using e)
   ·rw[if_neg z] at e;exact .inl (ho c hc q e)
  refine⟨setRow_heap _ _ _ _ _ _ (q4.trans q2),q3,q4,hpu.all1,_,rfl,hpu.keep t2 ?_,?_,hno⟩
  ·rintro j (rfl|rfl)
   ·exact⟨_,_,_,q1,by decide⟩
   ·exact⟨_,_,_,q2,by decide⟩
  ·exact(Turned.setCell (M2.o.trans hW) _ _ (fun q=>by simp at q)).setRow _ _ (by omega)
 have hm:=hQQ hk
 have d0:decide (l≤((P k).length:Int))=false:=by simp;omega
 obtain⟨n,hn⟩:∃n,(P k).length=n:=⟨_,rfl⟩
 have HN:=hQQ hn
 rw[hn] at HL HF d0 hL hl
 clear hn
 have HB:=hQQ (fun q e=>ho k hk q e)
 have MS:=hQQ (Nat.le_trans m2.size (Nat.le_refl _))
 clear hl1 hl2 m2 h s2 ho
 go_enter Tryz.func67,Tryz.ntmps67
 go_wp2_with (refine wpList_load_row rfl 32 _ rfl _ rfl 32 _ _ _ L1.o Tryz.underlying32 rfl (by kernel_rfl) ?_)
 refine(HL.o w2 (ae.refl _)).mono ?_
 rintro e w3 ⟨rfl,h3⟩
 have M3:=hQQ h3
 clear h3
 go_wp2_with fail
 refine(HC.o w3).mono ?_
 rintro e w4 ⟨rfl,h4⟩
 have M4:=hQQ (M3.o.trans h4)
 clear h4
 go_wp2_with (refine wpList_load_row rfl 32 _ rfl _ rfl 32 _ _ _ (M4.o.block L1.o) Tryz.underlying32 rfl (by kernel_rfl) ?_)
 refine(HF.o w4 M4.o).mono ?_
 rintro e w5 ⟨b,rfl,h5,m5,o5⟩
 have R5:=hQQ h5
 have O5:=hQQ o5
 have M5:=hQQ (M4.o.trans m5)
 clear h5 m5 o5
 go_wp2_with (first
  |(at_builtin
    refine zu a n rfl _ _ rfl rfl R5.o (by rw[HN.o];exact hL) HN.o rfl ?_
    intro g cap w6 hg hr hm6
    have M6:=hQQ (M5.o.trans hm6)
    have F6:=hQQ (FIN.o w6 _ M6.o hr (fun q e=> .inr (by cases e;exact Nat.le_trans MS.o (Nat.le_trans M5.o.size hg))))
    have x1:=km (M6.o.block L1.o) hk
    have x2:=frozen_of_row w6 w.heap.size k _ _ (M6.o.block L1.o)
    clear hg hr hm6 R5)
  |(refine wpList_load_row rfl 32 _ rfl _ rfl 32 _ _ _ F6.o.2.1 Tryz.underlying32 rfl (by kernel_rfl) ?_)
  |(refine wpList_store_row rfl 32 _ _ rfl _ _ rfl rfl 32 _ (F6.o.2.2.1.trans (M6.o.block L2.o)) (by kernel_rfl) rfl F6.o.2.2.2.1 ?_))
 refine bodyPost_ret (v:=.tuple #[.agg _,.bool true]) (xp Tryz.results67 _ _ _ 32 _ (0,0) _ rfl F6.o.1 Tryz.underlying32 rfl (by kernel_rfl)) rfl F6.o.2.2.2.2
theorem xt (O:Nat→Prop)(f:Nat→Value)(P:Nat→List Int)(c a l:Int)(w:World)(h:Pu w f P)(ho:PuN O f)(hL:∀k,k<5→(P k).length≤1000000):
 Calls Tryz.prog 67 #[.agg (puA f),.int .i64 c,.int .i64 a,.int .i64 l] w (eI w O (ea P c a l) (fun v=> .tuple #[v,.bool (dV P c l)])):=by
 cases hb:dV P c l with
 |false =>
  have:=Bz O f P c a l w h ho hb
  simpa [ea,hb] using this
 |true =>
  have hb':=hb
  simp[dV] at hb'
  obtain⟨k,rfl,hk⟩:=ms hb'.1
  rw[dF P hk] at hb'
  have:=zF O f P k a l w h ho hk hb'.2 (hL k hk)
  simpa [ea,hb] using this
theorem E3 (O:Nat→Prop)(f:Nat→Value)(P:Nat→List Int)(c:Int)(w:World)(h:Pu w f P)(ho:PuN O f)(hb:cZ P c=0):
 Calls Tryz.prog 65 #[.agg (puA f),.int .i64 c] w (eI w O P (fun v=> .tuple #[v,.int .i64 0,.bool false])):=by
 obtain⟨w2,e2,hl1,hl2,m2,s2⟩:=en2 w (.cells (puA f) 32) (.cells #[.slice none 0 0,.slice none 0 0,.slice none 0 0,.slice none 0 0,.slice none 0 0] 32)
 have L1:=hQQ hl1
 have L2:=hQQ hl2
 have M2:=hQQ m2
 have HP:=hQQ (h.more m2)
 have HL:=hQQ (fun W (hW:ae w2 W)=>mt f P c W (HP.o.more hW))
 rw[hb] at HL
 have H1:=hQQ h.all1
 have FIN:Hq (∀W,ae w2 W→eI w O P (fun v=> .tuple #[v,.int .i64 0,.bool false]) (.returned (.tuple #[.agg (puA f),.int .i64 0,.bool false])) (W.setRow (w.heap.size+1) (puA f))):=hQQ fun W hW =>
  ⟨f,rfl,(HP.o.more hW).keep (S:=fun k=>k=w.heap.size+1) (Turned.setRow (Turned.refl _ W) _ _ (fun _=>rfl)) (fun k q=>by subst q;exact⟨_,_,_,hW.block L2.o,by decide⟩),(M2.o.trans hW).setRow _ _ (by omega),ho.mono (fun _ z=> .inl z)⟩
 clear hl1 hl2 m2 h s2 ho hb
 go_enter Tryz.func65,Tryz.ntmps65
 go_wp2_with (refine wpList_load_row rfl 32 _ rfl _ rfl 32 _ _ _ L1.o Tryz.underlying32 rfl (by kernel_rfl) ?_)
 refine(HL.o w2 (ae.refl _)).mono ?_
 rintro e w3 ⟨rfl,h3⟩
 have M4:=hQQ h3
 clear h3
 go_wp2_with (first|(refine wpList_load_row rfl 32 _ rfl _ rfl 32 _ _ _ (M4.o.block L1.o) Tryz.underlying32 rfl (by kernel_rfl) ?_)|(refine wpList_store_row rfl 32 _ _ rfl _ _ rfl rfl 32 _ (M4.o.block L2.o) (by kernel_rfl) rfl H1.o ?_))
 refine bodyPost_ret (v:=.tuple #[.agg (puA f),.int .i64 0,.bool false]) (rI Tryz.results65 _ _ _ 32 _ (0,0) _ rfl (setRow_heap _ _ _ _ _ _ (M4.o.block L2.o)) Tryz.underlying32 rfl (by kernel_rfl)) rfl (FIN.o _ M4.o)
theorem BA (O:Nat→Prop)(f:Nat→Value)(P:Nat→List Int)(k m:Nat)(w:World)(h:Pu w f P)(ho:PuN O f)(hk:k<5)(hm:(P k).length=m+1)(hL:m+1≤1000000):
 Calls Tryz.prog 65 #[.agg (puA f),.int .i64 k] w (eI w O (fun j=>if j=k then(P j).take m else P j) (fun v=> .tuple #[v,.int .i64 ((P k).getD m 0),.bool true])):=by
 obtain⟨w2,e2,hl1,hl2,m2,s2⟩:=en2 w (.cells (puA f) 32) (.cells #[.slice none 0 0,.slice none 0 0,.slice none 0 0,.slice none 0 0,.slice none 0 0] 32)
 have L1:=hQQ hl1
 have L2:=hQQ hl2
 have M2:=hQQ m2
 have HP:=hQQ (h.more m2)
 have HL:=hQQ (fun W (hW:ae w2 W)=>mt f P k W (HP.o.more hW))
 rw[dF P hk,hm] at HL
 have HF:=hQQ (fun W (hW:ae w2 W)=>zE f P k m W (HP.o.more hW) hk (by omega) (by omega))
 have HX:Hq (∀W,ae w2 W→∃a cap,W.cell? ⟨w.heap.size,k,none⟩=some (.slice (some ⟨a,0,none⟩) (m+1) cap)∧W.cell? ⟨a,m,none⟩=some (.int .i64 ((P k).getD m 0))):=hQQ fun W hW=>by
  obtain⟨a,cap,hf,_,hc⟩:=(HP.o.more hW k hk).cell
  obtain⟨g,rfl,hx⟩:=hc m (by omega)
  exact⟨g,cap,(km (hW.block L1.o) hk).trans (by rw[hf,hm]),hx⟩
 have FIN:Hq (∀W v,ae w2 W→Rd W v ((P k).take m)→(∀q,v.ownBlock=some q→O q∨w.heap.size≤q)→(((W.setCell ⟨w.heap.size,k,none⟩ v).setRow (w.heap.size+1) (puA (jp f k v))).heap[w.heap.size+1]?=some (.cells (puA (jp f k v)) 32 (0,0)))∧(W.setCell ⟨w.heap.size,k,none⟩ v).heap[w.heap.size]?=some (.cells (puA (jp f k v)) 32 (0,0))∧(W.setCell ⟨w.heap.size,k,none⟩ v).heap[w.heap.size+1]?=W.heap[w.heap.size+1]? ∧(puA (jp f k v)).all (·.oneCell')=true ∧
  eI w O (fun j=>if j=k then(P j).take m else P j) (fun v=> .tuple #[v,.int .i64 ((P k).getD m 0),.bool true]) (.returned (.tuple #[.agg (puA (jp f k v)),.int .i64 ((P k).getD m 0),.bool true])) ((W.setCell ⟨w.heap.size,k,none⟩ v).setRow (w.heap.size+1) (puA (jp f k v)))):=hQQ fun W v hW hv hvo=>by
  have q1:=hW.block L1.o
  have q2:=hW.block L2.o
  have q3:=heap_setCell_same W _ k _ _ v q1
  rw[Di f hk] at q3
  have q4:(W.setCell ⟨w.heap.size,k,none⟩ v).heap[w.heap.size+1]?=W.heap[w.heap.size+1]? :=heap_setCell_other W _ _ v (by simp)
  have t1:Turned (fun j=>j=w.heap.size) W (W.setCell ⟨w.heap.size,k,none⟩ v):=Turned.setCell (Turned.refl _ W) _ _ (fun _=>rfl)
  have t2:Turned (fun j=>j=w.heap.size∨j=w.heap.size+1) W ((W.setCell ⟨w.heap.size,k,none⟩ v).setRow (w.heap.size+1) (puA (jp f k v))):=Turned.setRow (t1.mono fun _ _ q=> .inl q) _ _ (fun _=> .inr rfl)
  have hpu:Pu W (jp f k v) (fun j=>if j=k then(P j).take m else P j):=fun c hc=>by
   unfold jp
   by_cases e:c=k
   ·subst e;simpa using hv
   ·simpa [e] using (HP.o.more hW) c hc
  have hno:PuN (fun q=>O q∨w.heap.size≤q) (jp f k v):=fun c hc q e=>by
   unfold jp at e
   by_cases z:c=k
   ·subst z;exact hvo q (by simpa using e)
   ·rw[if_neg z] at e;exact .inl (ho c hc q e)
  refine⟨setRow_heap _ _ _ _ _ _ (q4.trans q2),q3,q4,hpu.all1,_,rfl,hpu.keep t2 ?_,?_,hno⟩
  ·rintro j (rfl|rfl)
   ·exact⟨_,_,_,q1,by decide⟩
   ·exact⟨_,_,_,q2,by decide⟩
  ·exact(Turned.setCell (M2.o.trans hW) _ _ (fun q=>by simp at q)).setRow _ _ (by omega)
 have hm0:=hQQ hk
 obtain⟨x,hx⟩:∃x,(P k).getD m 0=x:=⟨_,rfl⟩
 rw[hx] at HX FIN⊢
 have HB:=hQQ (fun q e=>ho k hk q e)
 have MS:=hQQ (Nat.le_trans m2.size (Nat.le_refl _))
 clear hl1 hl2 m2 h s2 ho hm hx
 go_enter Tryz.func65,Tryz.ntmps65
 go_wp2_with (refine wpList_load_row rfl 32 _ rfl _ rfl 32 _ _ _ L1.o Tryz.underlying32 rfl (by kernel_rfl) ?_)
 refine(HL.o w2 (ae.refl _)).mono ?_
 rintro e w4 ⟨rfl,h4⟩
 have M4:=hQQ h4
 obtain⟨a,cap,x1,x2⟩:=HX.o w4 h4
 clear h4
 go_wp2_with (refine wpList_load_row rfl 32 _ rfl _ rfl 32 _ _ _ (M4.o.block L1.o) Tryz.underlying32 rfl (by kernel_rfl) ?_)
 refine(HF.o w4 M4.o).mono ?_
 rintro e w5 ⟨b,rfl,h5,m5,o5⟩
 have M5:=hQQ (M4.o.trans m5)
 have F6:=hQQ (FIN.o w5 _ M5.o h5 (fun q e=> .inl (HB.o q (o5 q e))))
 have x3:=km (M5.o.block L1.o) hk
 have x4:=frozen_of_row w5 w.heap.size k _ _ (M5.o.block L1.o)
 clear h5 m5 o5 x1 x2
 go_wp2_with (first
  |(refine wpList_load_row rfl 32 _ rfl _ rfl 32 _ _ _ F6.o.2.1 Tryz.underlying32 rfl (by kernel_rfl) ?_)
  |(refine wpList_store_row rfl 32 _ _ rfl _ _ rfl rfl 32 _ (F6.o.2.2.1.trans (M5.o.block L2.o)) (by kernel_rfl) rfl F6.o.2.2.2.1 ?_))
 refine bodyPost_ret (v:=.tuple #[.agg _,.int .i64 x,.bool true]) (rI Tryz.results65 _ _ _ 32 _ (0,0) _ rfl F6.o.1 Tryz.underlying32 rfl (by kernel_rfl)) rfl F6.o.2.2.2.2
theorem Iv (O:Nat→Prop)(f:Nat→Value)(P:Nat→List Int)(c:Int)(w:World)(h:Pu w f P)(ho:PuN O f)(hL:∀k,k<5→(P k).length≤1000000):
 Calls Tryz.prog 65 #[.agg (puA f),.int .i64 c] w (eI w O (gM P c) (fun v=> .tuple #[v,.int .i64 (gZ P c),.bool (gG P c)])):=by
 cases hb:gG P c with
 |false =>
  have h0:cZ P c=0:=by simp[gG] at hb;unfold cZ at *;split at hb<;>simp_all
  have:=E3 O f P c w h ho h0
  simpa [gM,gZ,hb] using this
 |true =>
  have hb':=hb
  simp[gG] at hb'
  have hc:iL c=true:=by
   cases q:iL c with
   |true=>rfl
   |false=>rw[Dj P q] at hb';omega
  obtain⟨k,rfl,hk⟩:=ms hc
  rw[dF P hk] at hb'
  obtain⟨m,hm⟩:∃m,(P k).length=m+1:=⟨(P k).length-1,by omega⟩
  have:=BA O f P k m w h ho hk hm (by have:=hL k hk;omega)
  have e1:gZ P k=(P k).getD m 0:=by simp[gZ,hb,hm]
  have e2:gM P k=fun j=>if j=k then(P j).take m else P j:=by
   unfold gM
   rw[if_pos hb]
   funext j
   by_cases e:j=k
   ·subst e;simp[hm]
   ·simp[e]
  rw[e1,e2]
  exact this
end Go.Proofs.YtddmeghbmdfgeaaGreatDoor
