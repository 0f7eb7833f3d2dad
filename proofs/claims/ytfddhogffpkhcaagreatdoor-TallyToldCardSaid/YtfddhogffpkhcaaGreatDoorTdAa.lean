/-
  Things by numbers, in order, as lists: what a key has, what put and cut make of a list that rises, and of one without an order.
-/
import Derived.Lib.Hide
import Derived.WalkKit
import Derived.Deep.Draws
import Derived.Deep.Quiet
import Derived.Deep.QuietTactic
import Derived.BigQuiet
import Derived.RegionTactic
import Derived.Test.YtfddhogffpkhcaaGreatDoorRows
import Derived.WalkSpells
import Derived.WalkLawsBesides
import Derived.Outline
import Derived.IntWalk
import Derived.Laws.Rows
import Derived.Laws.Tables
import Derived.StillTail
import Derived.Orders
import Derived.Laws.ResultCell
set_option maxRecDepth 100000
set_option maxHeartbeats 8000000
set_option linter.all false
namespace Go.Proofs.YtfddhogffpkhcaaGreatDoor
def Hq (p:Prop):Prop:=p
theorem Hq.o {p:Prop}(h:Hq p):p:=h
theorem Hq.out {p:Prop}(h:Hq p):p:=h
theorem hQQ {p:Prop}(h:p):Hq p:=h
end Go.Proofs.YtfddhogffpkhcaaGreatDoor
namespace Go.Proofs.YtfddhogffpkhcaaGreatDoor
abbrev KV:=Int×Int
def gy (D:List KV):List Int:=D.map (·.1)
def lK (D:List KV):List Int:=D.map (·.2)
def Asc (D:List KV):Prop:=D.Pairwise (fun a b=>a.1<b.1)
def look (D:List KV)(k:Int):Option Int:=(D.find? (fun p=>p.1==k)).map (·.2)
def pos (D:List KV)(k:Int):Nat:=D.countP (fun p=>decide (p.1<k))
def wR (D:List KV)(k:Int):List KV:=D.filter (fun p=>decide (p.1<k))
def more (D:List KV)(k:Int):List KV:=D.filter (fun p=>decide (k<p.1))
def su (D:List KV)(k:Int)(v:Int):List KV:=wR D k++(k,v)::more D k
def JK (D:List KV)(k:Int):List KV:=D.filter (fun p=>decide (p.1≠k))
theorem yM:Asc []:=List.Pairwise.nil
@[simp] theorem CN (k:Int):look [] k=none:=rfl
theorem fQ (p:KV)(D:List KV)(k:Int):look (p::D) k=if p.1=k then some p.2 else look D k:=by
 unfold look
 rw[List.find?_cons]
 by_cases h:p.1=k
 ·simp[h]
 ·have:(p.1==k)=false:=by simpa using h
  simp[this,h]
theorem j4 (A B:List KV)(k:Int):look (A++B) k=(look A k).or (look B k):=by
 induction A with
 |nil=>simp
 |cons p A ih=>rw[List.cons_append,fQ,fQ];split<;>simp[ih]
theorem rb {D:List KV}{k:Int}(h:∀p∈D,p.1≠k):look D k=none:=by
 induction D with
 |nil=>rfl
 |cons p D ih=>rw[fQ,if_neg (h p (by simp))];exact ih fun q hq=>h q (by simp[hq])
theorem gG {D:List KV}{k:Int} :look D k=none↔∀p∈D,p.1≠k:=by
 refine⟨fun h=>?_,rb⟩
 induction D with
 |nil=>simp
 |cons p D ih =>
  rw[fQ] at h
  split at h
  ·cases h
  ·intro q hq
   rcases List.mem_cons.1 hq with rfl|hq
   ·assumption
   ·exact ih h q hq
theorem mt {D:List KV}{k:Int}{v:Int}(h:look D k=some v):(k,v)∈D:=by
 induction D with
 |nil=>cases h
 |cons p D ih =>
  rw[fQ] at h
  split at h
  ·rename_i e
   subst e;cases h;simp
  ·exact List.mem_cons_of_mem _ (ih h)
theorem Asc.part {D:List KV}(h:Asc D)(k:Int):∃A B,D=A++B∧A.length=pos D k∧(∀p∈A,p.1<k)∧(∀p∈B,k≤p.1):=by
 induction D with
 |nil=>exact⟨[],[],rfl,rfl,by simp,by simp⟩
 |cons p D ih =>
  have hc:=List.pairwise_cons.1 h
  by_cases hp:p.1<k
  ·obtain⟨A,B,e,hl,ha,hb⟩:=ih hc.2
   refine⟨p::A,B,by rw[e];rfl,?_,?_,hb⟩
   ·simp[pos,List.countP_cons,hp] at hl⊢;exact hl
   ·intro q hq
    rcases List.mem_cons.1 hq with rfl|hq
    ·exact hp
    ·exact ha q hq
  ·refine⟨[],p::D,rfl,?_,by simp,?_⟩
   ·unfold pos
    rw[List.length_nil,eq_comm,List.countP_eq_zero]
    intro q hq
    rcases List.mem_cons.1 hq with rfl|hq
    ·simpa using hp
    ·have:=hc.1 q hq;simp;omega
   ·intro q hq
    rcases List.mem_cons.1 hq with rfl|hq
    ·omega
    ·have:=hc.1 q hq;omega
theorem Asc.without {D:List KV}(h:Asc D){k:Int}(hk:look D k=none):∃A B,D=A++B∧A.length=pos D k∧(∀p∈A,p.1<k)∧(∀p∈B,k<p.1):=by
 obtain⟨A,B,e,hl,ha,hb⟩:=h.part k
 refine⟨A,B,e,hl,ha,fun p hp=>?_⟩
 have h1:=hb p hp
 have h2:=gG.1 hk p (by rw[e];simp[hp])
 omega
theorem Asc.with {D:List KV}(h:Asc D){k:Int}{v:Int}(hk:look D k=some v):∃A B,D=A++(k,v)::B∧A.length=pos D k∧(∀p∈A,p.1<k)∧(∀p∈B,k<p.1):=by
 obtain⟨A,B,e,hl,ha,hb⟩:=h.part k
 have hm:(k,v)∈B:=by
  have:=mt hk
  rw[e,List.mem_append] at this
  rcases this with q|q
  ·have:=ha _ q;simp at this
  ·exact q
 have hB:Asc B:=by unfold Asc at h;rw[e,List.pairwise_append] at h;exact h.2.1
 match B,hB,hm,hb,e with
 |p::B,hB,hm,hb,e =>
  have hc:=List.pairwise_cons.1 hB
  have hp:p=(k,v):=by
   rcases List.mem_cons.1 hm with q|q
   ·exact q.symm
   ·have h1:=hc.1 _ q
    have h2:=hb p (by simp)
    simp at h1
    omega
  subst hp
  exact⟨A,B,e,hl,ha,fun q hq=>hc.1 q hq⟩
theorem jv {D:List KV}{f:KV→Bool}(h:∀p∈D,f p=true):D.filter f=D:=List.filter_eq_self.2 h
theorem oD {D:List KV}{f:KV→Bool}(h:∀p∈D,f p=false):D.filter f= []:=List.filter_eq_nil_iff.2 fun p hp=>by rw[h p hp];simp
theorem pn {A B:List KV}{k:Int}(ha:∀p∈A,p.1<k)(hb:∀p∈B,k≤p.1):wR (A++B) k=A:=by
 unfold wR
 rw[List.filter_append,jv (fun p hp=>by simpa using ha p hp),oD (fun p hp=>by have:=hb p hp;simp;omega),List.append_nil]
theorem po {A B:List KV}{k:Int}(ha:∀p∈A,p.1≤k)(hb:∀p∈B,k<p.1):more (A++B) k=B:=by
 unfold more
 rw[List.filter_append,oD (D:=A) (fun p hp=>by have:=ha p hp;simp;omega),jv (D:=B) (fun p hp=>by simpa using hb p hp),List.nil_append]
theorem CO {A B:List KV}{k:Int}(ha:∀p∈A,p.1<k)(hb:∀p∈B,k<p.1)(v:Int):su (A++B) k v=A++(k,v)::B:=by
 unfold su
 rw[pn ha (fun p hp=>by have:=hb p hp;omega),po (fun p hp=>by have:=ha p hp;omega) hb]
theorem CQ {A B:List KV}{k:Int}{u:Int}(ha:∀p∈A,p.1<k)(hb:∀p∈B,k<p.1)(v:Int):su (A++(k,u)::B) k v=A++(k,v)::B:=by
 unfold su
 rw[pn ha (fun p hp=>by rcases List.mem_cons.1 hp with rfl|q; · exact Int.le_refl _
                        ·have:=hb p q;omega)]
 rw[show A++(k,u)::B=(A++ [(k,u)])++B by simp,po (fun p hp=>by
  rcases List.mem_append.1 hp with q|q
  ·have:=ha p q;omega
  ·simp at q;rw[q];exact Int.le_refl _) hb]
theorem JL {A B:List KV}{k:Int}{u:Int}(ha:∀p∈A,p.1<k)(hb:∀p∈B,k<p.1):JK (A++(k,u)::B) k=A++B:=by
 unfold JK
 rw[List.filter_append,List.filter_cons,if_neg (by simp),jv (fun p hp=>by have:=ha p hp;simp;omega),jv (fun p hp=>by have:=hb p hp;simp;omega)]
theorem Gg {A B:List KV}(hA:Asc A)(hB:Asc B){k:Int}(ha:∀p∈A,p.1<k)(hb:∀p∈B,k<p.1)(v:Int):Asc (A++(k,v)::B):=by
 unfold Asc at *
 rw[List.pairwise_append,List.pairwise_cons]
 refine⟨hA,⟨fun p hp=>hb p hp,hB⟩,fun p hp q hq=>?_⟩
 rcases List.mem_cons.1 hq with rfl|hq
 ·exact ha p hp
 ·have h1:=ha p hp;have h2:=hb q hq;omega
theorem pp {D:List KV}(h:Asc D)(f:KV→Bool):Asc (D.filter f):=List.Pairwise.filter f h
theorem CS {D:List KV}(h:Asc D)(k:Int)(v:Int):Asc (su D k v):=
 Gg (pp h _) (pp h _) (fun p hp=>by simpa using (List.mem_filter.1 hp).2) (fun p hp=>by simpa using (List.mem_filter.1 hp).2) v
theorem pq {A B:List KV}{k:Int}(ha:∀p∈A,p.1<k)(v:Int)(x:Int):look (A++(k,v)::B) x=if x=k then some v else(look A x).or (look B x):=by
 rw[j4,fQ]
 by_cases hx:x=k
 ·subst hx
  rw[rb (fun p hp=>by have:=ha p hp;omega)];simp
 ·rw[if_neg (fun q=>hx q.symm),if_neg hx]
theorem Ap {D:List KV}(h:Asc D)(k:Int)(v:Int)(x:Int):look (su D k v) x=if x=k then some v else look D x:=by
 cases hk:look D k with
 |none =>
  obtain⟨A,B,rfl,_,ha,hb⟩:=h.without hk
  rw[CO ha hb,pq ha,j4]
 |some u =>
  obtain⟨A,B,rfl,_,ha,hb⟩:=h.with hk
  rw[CQ ha hb,pq ha,pq ha];split<;>rfl
def W64 (x:Int):Prop:= -9223372036854775808≤x∧x≤9223372036854775807
abbrev Kw:=Int×Int×Int
inductive Ran where
 |need (a:Int)
 |done (D:List KV)
def gM (kn:Int→Option Int)(D:List KV)(a:Int):Option Int :=
 if a<0 then some 0 else(look D a).or (kn a)
def jw (D:List KV)(a x:Int):List KV:=if a<0 then D else su D a x
def OkK (kn:Int→Option Int):Prop:=∀a v,kn a=some v→W64 v
def OkD (D:List KV):Prop:=∀p∈D,0≤p.1∧W64 p.1∧W64 p.2
theorem Gi:OkD []:=fun p h=>by cases h
theorem tY {D:List KV}{k v:Int}{p:KV}(h:p∈su D k v):p=(k,v)∨p∈D:=by
 unfold su wR more at h
 rw[List.mem_append,List.mem_cons] at h
 rcases h with h|h|h
 ·exact .inr (List.mem_filter.1 h).1
 ·exact .inl h
 ·exact .inr (List.mem_filter.1 h).1
theorem Aq {D:List KV}(h:OkD D){a x:Int}(ha:W64 a)(hx:W64 x):OkD (jw D a x):=by
 unfold jw
 split
 ·exact h
 ·intro p hp
  rcases tY hp with rfl|hp
  ·exact⟨by simp;omega,ha,hx⟩
  ·exact h p hp
theorem Ar {D:List KV}(h:Asc D)(a x:Int):Asc (jw D a x):=by
 unfold jw
 split
 ·exact h
 ·exact CS h a x
theorem yN {kn:Int→Option Int}(hk:OkK kn){D:List KV}(hD:OkD D){a y:Int}(h:gM kn D a=some y):W64 y:=by
 unfold gM at h
 split at h
 ·cases h;unfold W64;omega
 ·cases e:look D a with
  |none=>rw[e] at h;exact hk a y (by simpa using h)
  |some v =>
   rw[e] at h
   have:v=y:=by simpa using h
   subst this
   exact(hD _ (mt e)).2.2
theorem rc {kn:Int→Option Int}{D:List KV}{a:Int}(h:gM kn D a=none):0≤a∧look D a=none∧kn a=none:=by
 unfold gM at h
 split at h
 ·cases h
 ·cases e:look D a with
  |none=>rw[e] at h;exact⟨by omega,rfl,by simpa using h⟩
  |some v=>rw[e] at h;simp at h
def IJ (kn:Int→Option Int)(n:Nat):Ran→Prop
 | .need a=>0≤a∧W64 a∧kn a=none
 | .done D=>OkD D∧Asc D∧D.length≤n
section
variable {kn:Int→Option Int}{l:List Kw}{i:Nat}{k a b x y:Int}{D:List KV}{R:Ran}
end
def wAt (ws:List Int)(i:Int):Int:=ws.getD i.toNat 0
def bG (ws:List Int)(D:List KV):List Int:=D.foldl (fun z p=>z.set p.1.toNat p.2) ws
def jb (ws:List Int)(D:List KV):Bool:=D.all fun p=>decide (p.1<ws.length)
def doP (sem:List KV→Ran)(ws:List Int):Nat→List KV→Option (List Int×List KV)
 | 0,_=>none
 |n+1,K=>match sem K with
  | .need a=>if a<ws.length then doP sem ws n (K++ [(a,wAt ws a)]) else none
  | .done D=>if jb ws D then some (bG ws D,K) else none
theorem dS (D:List KV):∀ws,(bG ws D).length=ws.length:=by
 induction D with
 |nil=>intro ws;rfl
 |cons p D ih=>intro ws;show(bG (ws.set _ _) D).length=_;rw[ih];simp
theorem tZ (ws:List Int)(D:List KV)(p:KV):bG ws (D++ [p])=(bG ws D).set p.1.toNat p.2:=by simp[bG,List.foldl_append]
theorem Au {D:List KV}{i:Nat}{p:KV}(h:D[i]?=some p):D.take (i+1)=D.take i++ [p]:=by rw[List.take_add_one,h];rfl
theorem wS (ws:List Int)(D:List KV)(p:KV):jb ws (D++ [p])=(jb ws D && decide (p.1<ws.length)):=by simp[jb,List.all_append]
theorem Av {ws:List Int}{D:List KV}{i:Nat}{p:KV}(h:D[i]?=some p)(hp:¬p.1<ws.length):jb ws D=false:=by
 unfold jb
 rw[List.all_eq_false]
 exact⟨p,List.mem_of_getElem? h,by simpa using hp⟩
structure jx (ws:List Int)(K:List KV):Prop where
 at':∀p∈K,0≤p.1∧p.1<ws.length∧p.2=wAt ws p.1
 once:(K.map (·.1)).Nodup
theorem ua (ws:List Int):jx ws []:=⟨(fun p h=>by cases h),by simp⟩
theorem rd {ws:List Int}{K:List KV}(h:jx ws K){a:Int}(h0:0≤a)(h1:a<ws.length)(hn:look K a=none):jx ws (K++ [(a,wAt ws a)]):=by
 refine⟨fun p hp=>?_,?_⟩
 ·rcases List.mem_append.1 hp with q|q
  ·exact h.at' p q
  ·simp at q;subst q;exact⟨h0,h1,rfl⟩
 ·rw[List.map_append,List.nodup_append]
  refine⟨h.once,by simp,fun x hx y hy e=>?_⟩
  simp at hy;subst hy;subst e
  obtain⟨p,hp,rfl⟩:=List.mem_map.1 hx
  exact gG.1 hn p hp rfl
theorem j5 (M:Nat):∀xs:List Int,xs.Nodup→(∀x∈xs,0≤x∧x<M)→xs.length≤M:=by
 induction M with
 |zero =>
  intro xs _ h
  cases xs with
  |nil=>simp
  |cons a l=>have:=h a (by simp);omega
 |succ M ih =>
  intro xs hn h
  by_cases hm:(M:Int)∈xs
  ·have h1:=ih (xs.erase (M:Int)) (hn.erase _) (fun x hx=>by
    have hx':=(List.Nodup.mem_erase_iff hn).1 hx
    have:=h x hx'.2
    have:=hx'.1
    omega)
   have h2:=List.length_erase_of_mem hm
   omega
  ·have h1:=ih xs hn (fun x hx=>by
    have:=h x hx
    have:x≠(M:Int):=fun e=>hm (e▸hx)
    omega)
   omega
theorem jx.len {ws:List Int}{K:List KV}(h:jx ws K):K.length≤ws.length:=by
 have:=j5 ws.length (K.map (·.1)) h.once fun x hx=>by
  obtain⟨p,hp,rfl⟩:=List.mem_map.1 hx
  exact⟨(h.at' p hp).1,(h.at' p hp).2.1⟩
 simpa using this
theorem Aw {K:List KV}{a x:Int}(h:look K a=none):(fun y=>if y=a then some x else look K y)=look (K++ [(a,x)]):=by
 funext y
 rw[j4,fQ]
 by_cases e:y=a
 ·subst e;rw[if_pos rfl,if_pos rfl,h];rfl
 ·rw[if_neg e,if_neg (fun q=>e q.symm),CN];cases look K y<;>rfl
def OkW (ws:List Int):Prop:=∀x∈ws,W64 x
theorem CU {ws:List Int}(h:OkW ws)(i:Int):W64 (wAt ws i):=by
 unfold wAt
 by_cases q:i.toNat<ws.length
 ·have:ws.getD i.toNat 0=ws[i.toNat]:=by simp[List.getD,q]
  rw[this];exact h _ (List.getElem_mem q)
 ·have:ws.getD i.toNat 0=0:=by simp[List.getD,List.getElem?_eq_none (show ws.length≤i.toNat by omega)]
  rw[this];unfold W64;omega
def yO (ws:List Int)(b:Nat)(sem:List KV→Ran):Prop:=∀K,jx ws K→IJ (look K) b (sem K)
theorem CW {b:Nat}{sem:List KV→Ran}{ws:List Int}{K:List KV}{a:Int}{R:Option (List Int×List KV)}(hK:jx ws K)(hf:IJ (look K) b (sem K))(hs:sem K=.need a)(ha:a<ws.length)(hR:doP sem ws (ws.length+1-K.length) K=R):
 jx ws (K++ [(a,wAt ws a)])∧doP sem ws (ws.length+1-(K++ [(a,wAt ws a)]).length) (K++ [(a,wAt ws a)])=R∧0≤a∧look K a=none:=by
 rw[hs] at hf
 have h1:=rd hK hf.1 ha hf.2.2
 have h2:=hK.len
 refine⟨h1,?_,hf.1,hf.2.2⟩
 rw[show ws.length+1-K.length=(ws.length-K.length)+1 by omega] at hR
 unfold doP at hR
 rw[hs] at hR
 simp only[if_pos ha] at hR
 rw[List.length_append,List.length_singleton,show ws.length+1-(K.length+1)=ws.length-K.length by omega]
 exact hR
theorem Gj {sem:List KV→Ran}{ws:List Int}{K:List KV}{a:Int}{R:Option (List Int×List KV)}(hK:jx ws K)(hs:sem K=.need a)(ha:¬a<ws.length)(hR:doP sem ws (ws.length+1-K.length) K=R):R=none:=by
 have h2:=hK.len
 rw[show ws.length+1-K.length=(ws.length-K.length)+1 by omega] at hR
 unfold doP at hR
 rw[hs] at hR
 simp only[if_neg ha] at hR
 exact hR.symm
theorem CX {sem:List KV→Ran}{ws:List Int}{K D:List KV}{R:Option (List Int×List KV)}(hK:jx ws K)(hs:sem K=.done D)(hR:doP sem ws (ws.length+1-K.length) K=R):R=if jb ws D then some (bG ws D,K) else none:=by
 have h2:=hK.len
 rw[show ws.length+1-K.length=(ws.length-K.length)+1 by omega] at hR
 unfold doP at hR
 rw[hs] at hR
 exact hR.symm
inductive Res (α:Type) where
 |need (a:Int)
 |ok (x:α) (D:List KV)
abbrev Prg (α:Type):=(Int→Option Int)→List KV→Res α
def aK {α:Type}(x:α):Prg α:=fun _ D=> .ok x D
def aJ {α β:Type}(p:Prg α)(f:α→Prg β):Prg β:=fun kn D=>match p kn D with
 | .need a=> .need a
 | .ok x D'=>f x kn D'
def dJ (a:Int):Prg Int:=fun kn D=>match gM kn D a with
 |none=> .need a
 |some y=> .ok y D
def eL (a x:Int):Prg Unit:=fun _ D=> .ok () (jw D a x)
def hZ {α:Type} :Res α→Ran
 | .need a=> .need a
 | .ok _ D=> .done D
theorem bK {α β:Type}{p:Prg α}{f:α→Prg β}{kn:Int→Option Int}{D:List KV}{a:Int}(h:p kn D=.need a):aJ p f kn D=.need a:=by unfold aJ;rw[h]
theorem bE {α β:Type}{p:Prg α}{f:α→Prg β}{kn:Int→Option Int}{D D':List KV}{x:α}(h:p kn D=.ok x D'):aJ p f kn D=f x kn D':=by unfold aJ;rw[h]
theorem gA {kn:Int→Option Int}{D:List KV}{a y:Int}(h:gM kn D a=some y):dJ a kn D=.ok y D:=by unfold dJ;rw[h]
theorem jy {kn:Int→Option Int}{D:List KV}{a:Int}(h:gM kn D a=none):dJ a kn D=.need a:=by unfold dJ;rw[h]
structure fy (n:Nat)(D:List KV):Prop where
 ok:OkD D
 asc:Asc D
 lt:∀p∈D,p.1<n
theorem fZ (n:Nat):fy n []:=⟨Gi,yM,fun p h=>by cases h⟩
theorem fy.len {n:Nat}{D:List KV}(h:fy n D):D.length≤n:=by
 have hn:(D.map (·.1)).Nodup:=by
  have:=h.asc
  unfold Asc at this
  rw[List.Nodup,List.pairwise_map]
  exact this.imp (fun h=>by omega)
 have:=j5 n (D.map (·.1)) hn fun x hx=>by
  obtain⟨p,hp,rfl⟩:=List.mem_map.1 hx
  exact⟨(h.ok p hp).1,h.lt p hp⟩
 simpa using this
theorem fy.fits {zs:List Int}{D:List KV}(h:fy zs.length D):jb zs D=true:=by
 unfold jb;rw[List.all_eq_true];intro p hp;simpa using h.lt p hp
theorem fy.write {n:Nat}{D:List KV}(h:fy n D){a x:Int}(ha:W64 a)(hn:a<n)(hx:W64 x):fy n (jw D a x):=
 ⟨Aq h.ok ha hx,Ar h.asc a x,fun p hp=>by
  unfold jw at hp
  split at hp
  ·exact h.lt p hp
  ·rcases tY hp with rfl|q
   ·exact hn
   ·exact h.lt p q⟩
def fX {α:Type}(n:Nat)(Q:α→Prop)(p:Prg α):Prop:=∀kn D,OkK kn→fy n D→match p kn D with
 | .need a=>0≤a∧a<n∧kn a=none
 | .ok x D'=>fy n D'∧Q x
def eG {α:Type}(p:Prg α):Prop:=∀kn kn' D,(∀a v,kn a=some v→kn' a=some v)→(∃a,p kn D=.need a)∨p kn D=p kn' D
theorem cH {α:Type}(n:Nat){Q:α→Prop}{x:α}(h:Q x):fX n Q (aK x):=fun _ _ _ hD=>⟨hD,h⟩
theorem cU {α β:Type}{n:Nat}{Q:α→Prop}{Q':β→Prop}{p:Prg α}{f:α→Prg β}(h:fX n Q p)(hf:∀x,Q x→fX n Q' (f x)):fX n Q' (aJ p f):=fun kn D hk hD=>by
 have h1:=h kn D hk hD
 cases e:p kn D with
 |need a=>rw[bK e];rw[e] at h1;exact h1
 |ok x D'=>rw[bE e];rw[e] at h1;exact hf x h1.2 kn D' hk h1.1
theorem fi (n:Nat){a:Int}(ha:a<n):fX n W64 (dJ a):=fun kn D hk hD=>by
 cases e:gM kn D a with
 |none=>rw[jy e];obtain⟨h0,_,h2⟩:=rc e;exact⟨h0,ha,h2⟩
 |some y=>rw[gA e];exact⟨hD,yN hk hD.ok e⟩
theorem fX.ok {α:Type}{n:Nat}{Q:α→Prop}{p:Prg α}(h:fX n Q p){kn:Int→Option Int}{D:List KV}(hk:OkK kn)(hD:fy n D){x:α}{D':List KV}(e:p kn D=.ok x D'):fy n D'∧Q x:=by
 have:=h kn D hk hD;rw[e] at this;exact this
theorem ci {α:Type}(x:α):eG (aK x):=fun _ _ _ _=> .inr rfl
theorem cL {α β:Type}{p:Prg α}{f:α→Prg β}(h:eG p)(hf:∀x,eG (f x)):eG (aJ p f):=fun kn kn' D hk=>by
 rcases h kn kn' D hk with⟨a,e⟩|e
 ·exact .inl ⟨a,bK e⟩
 ·cases e1:p kn D with
  |need a=>exact .inl ⟨a,bK e1⟩
  |ok x D'=>rw[bE e1,bE (e.symm.trans e1)];exact hf x kn kn' D' hk
theorem iu (a:Int):eG (dJ a):=fun kn kn' D hk=>by
 cases e:gM kn D a with
 |none=>exact .inl ⟨a,jy e⟩
 |some y =>
  refine .inr ?_
  rw[gA e,gA]
  unfold gM at e⊢
  split
  ·rename_i q;rw[if_pos q] at e;exact e
  ·rename_i q
   rw[if_neg q] at e
   cases e1:look D a with
   |none=>rw[e1] at e;simp at e⊢;exact hk a y e
   |some v=>rw[e1] at e;simpa using e
theorem fR {α:Type}{c:Prop} [Decidable c] {p q:Prg α}(h1:eG p)(h2:eG q):eG (if c then p else q):=by
 split
 ·exact h1
 ·exact h2
def pt (zs:List Int):Int→Option Int:=fun a=>if 0≤a∧a<zs.length then some (wAt zs a) else none
theorem sw {zs:List Int}(h:OkW zs):OkK (pt zs):=fun a v e=>by
 unfold pt at e
 split at e
 ·cases e;exact CU h a
 ·cases e
theorem pu {zs:List Int}{K:List KV}(h:jx zs K):∀a v,look K a=some v→pt zs a=some v:=fun a v e=>by
 obtain⟨h0,h1,h2⟩:=h.at' _ (mt e)
 simp only at h0 h1 h2
 unfold pt
 rw[if_pos ⟨h0,h1⟩,h2]
theorem sx {zs:List Int}{K:List KV}(h:jx zs K)(hz:OkW zs):OkK (look K):=fun a v e=>sw hz a v (pu h a v e)
theorem yP {α:Type}{zs:List Int}{p:Prg α}{Q:α→Prop}{x:α}{D:List KV}(hS:eG p)(hG:fX zs.length Q p)(hz:OkW zs)(hf:p (pt zs) []=.ok x D):
 ∀(n:Nat) (K:List KV),jx zs K→zs.length+1=K.length+n→∃K',jx zs K'∧doP (fun K=>hZ (p (look K) [])) zs n K=some (bG zs D,K')
 | 0,K,hK,hn=>by have:=hK.len;omega
 |n+1,K,hK,hn=>by
  have hg:=hG (look K) [] (sx hK hz) (fZ _)
  have hD:=(hG.ok (sw hz) (fZ _) hf).1
  unfold doP
  rcases hS (look K) (pt zs) [] (pu hK) with⟨a,e⟩|e
  ·rw[e] at hg⊢
   obtain⟨h0,h1,h2⟩:=hg
   simp only[hZ]
   rw[if_pos h1]
   exact yP hS hG hz hf n _ (rd hK h0 h1 h2) (by simp;omega)
  ·rw[e,hf]
   simp only[hZ]
   rw[if_pos hD.fits]
   exact⟨K,hK,rfl⟩
theorem wT {α:Type}{zs:List Int}{p:Prg α}{x y:α}{D D':List KV}{K:List KV}(hS:eG p)(hK:jx zs K)(hf:p (pt zs) []=.ok x D)(h:p (look K) []=.ok y D'):y=x∧D'=D:=by
 rcases hS (look K) (pt zs) [] (pu hK) with⟨a,e⟩|e
 ·rw[h] at e;cases e
 ·rw[h,hf] at e;cases e;exact⟨rfl,rfl⟩
theorem yQ {α:Type}{zs:List Int}{p:Prg α}{Q:α→Prop}(hG:fX zs.length Q p)(hz:OkW zs)(hl:zs.length≤100000):yO zs zs.length (fun K=>hZ (p (look K) [])):=fun K hK=>by
 have hg:=hG (look K) [] (sx hK hz) (fZ _)
 show IJ (look K) _ (hZ (p (look K) []))
 cases e:p (look K) [] with
 |need a=>rw[e] at hg;exact⟨hg.1,by have:=hg.2.1;unfold W64;constructor<;>omega,hg.2.2⟩
 |ok x D=>rw[e] at hg;exact⟨hg.1.ok,hg.1.asc,hg.1.len⟩
theorem lL {D:List KV}(hA:Asc D)(zs:List Int)(h0:∀p∈D,0≤p.1∧p.1<zs.length)(i:Int)(hi:0≤i∧i<zs.length):wAt (bG zs D) i=(look D i).getD (wAt zs i):=by
 induction D generalizing zs with
 |nil=>rfl
 |cons p D ih =>
  have hA':Asc D:=by unfold Asc at hA⊢;exact(List.pairwise_cons.1 hA).2
  have hp:=h0 p (by simp)
  show wAt (bG (zs.set p.1.toNat p.2) D) i=_
  rw[ih hA' _ (fun q hq=>by have:=h0 q (by simp[hq]);simpa using this) (by simpa using hi)]
  rw[fQ]
  by_cases e:p.1=i
  ·rw[if_pos e]
   have hn:look D i=none:=gG.2 (fun q hq=>by
    unfold Asc at hA
    have:=(List.pairwise_cons.1 hA).1 q hq
    omega)
   rw[hn]
   subst e
   unfold wAt
   simp only[List.getD,Option.getD_some]
   rw[List.getElem?_set_self (by omega)]
   rfl
  ·rw[if_neg e]
   have:wAt (zs.set p.1.toNat p.2) i=wAt zs i:=by
    unfold wAt
    simp only[List.getD]
    rw[List.getElem?_set_ne (by omega)]
   rw[this]
theorem ik {xs ys:List Int}(hl:xs.length=ys.length)(h:∀i:Int,0≤i→i<xs.length→wAt xs i=wAt ys i):xs=ys:=by
 apply List.ext_getElem hl
 intro i h1 h2
 have:=h (i:Int) (by omega) (by omega)
 simpa [wAt,List.getD,h1,h2] using this
theorem bL {ws:List Int}{a x i:Int}(ha:0≤a)(hi:0≤i)(hn:a<ws.length):wAt (ws.set a.toNat x) i=if i=a then x else wAt ws i:=by
 unfold wAt
 simp only[List.getD]
 by_cases e:i=a
 ·subst e
  rw[if_pos rfl,List.getElem?_set_self (by omega)]
  rfl
 ·rw[if_neg e,List.getElem?_set_ne (by omega)]
theorem uc {n:Nat}{zs:List Int}{D:List KV}(hn:zs.length=n)(h:fy n D){a x:Int}(ha:0≤a)(hl:a<n)(hw:W64 a)(hx:W64 x):bG zs (jw D a x)=(bG zs D).set a.toNat x:=by
 have h2:=h.write hw hl hx
 subst hn
 apply ik
 ·simp[dS]
 ·intro i h0 h1
  rw[dS] at h1
  rw[lL h2.asc zs (fun p hp=>⟨(h2.ok p hp).1,h2.lt p hp⟩) i ⟨h0,h1⟩,bL ha h0 (by rw[dS];exact hl),
   lL h.asc zs (fun p hp=>⟨(h.ok p hp).1,h.lt p hp⟩) i ⟨h0,h1⟩]
  unfold jw
  rw[if_neg (by omega),Ap h.asc]
  split<;>rfl
theorem ud {zs:List Int}{D:List KV}(h:fy zs.length D){a:Int}(h0:0≤a)(h1:a<zs.length):gM (pt zs) D a=some (wAt (bG zs D) a):=by
 rw[lL h.asc zs (fun p hp=>⟨(h.ok p hp).1,h.lt p hp⟩) a ⟨h0,h1⟩]
 unfold gM pt
 rw[if_neg (by omega),if_pos ⟨h0,h1⟩]
 cases look D a<;>rfl
def bO {α:Type}(n:Nat)(p:Prg α)(g:List Int→α×List Int):Prop:=∀zs D,zs.length=n→OkW zs→fy n D→∃D',p (pt zs) D=.ok (g (bG zs D)).1 D'∧bG zs D'=(g (bG zs D)).2∧fy n D'
theorem az {α:Type}(n:Nat)(x:α):bO n (aK x) (fun ws=>(x,ws)):=fun zs D _ _ hD=>⟨D,rfl,rfl,hD⟩
theorem aE {α β:Type}{n:Nat}{p:Prg α}{f:α→Prg β}{g:List Int→α×List Int}{k:α→List Int→β×List Int}(h:bO n p g)(hf:∀x,bO n (f x) (k x)):bO n (aJ p f) (fun ws=>k (g ws).1 (g ws).2):=fun zs D hn hz hD=>by
 obtain⟨D1,e1,a1,i1⟩:=h zs D hn hz hD
 obtain⟨D2,e2,a2,i2⟩:=hf (g (bG zs D)).1 zs D1 hn hz i1
 refine⟨D2,?_,?_,i2⟩
 ·rw[bE e1,e2,a1]
 ·rw[a2,a1]
theorem cV {n:Nat}{a:Int}(h0:0≤a)(h1:a<n):bO n (dJ a) (fun ws=>(wAt ws a,ws)):=fun zs D hn hz hD=>by
 subst hn
 exact⟨D,gA (ud hD h0 h1),rfl,hD⟩
theorem cM {n:Nat}{a x:Int}(h0:0≤a)(h1:a<n)(hw:W64 a)(hx:W64 x):bO n (eL a x) (fun ws=>((),ws.set a.toNat x)):=fun zs D hn hz hD =>
 ⟨_,rfl,uc hn hD h0 h1 hw hx,hD.write hw h1 hx⟩
theorem bg {α:Type}{n:Nat}{p:Prg α}{g k:List Int→α×List Int}(h:bO n p g)(e:∀ws,ws.length=n→g ws=k ws):bO n p k:=fun zs D hn hz hD=>by
 rw[←e (bG zs D) (by rw[dS];exact hn)]
 exact h zs D hn hz hD
theorem yR {α:Type}{zs:List Int}{p:Prg α}{Q:α→Prop}{g:List Int→α×List Int}(hS:eG p)(hG:fX zs.length Q p)(hz:OkW zs)(hF:bO zs.length p g):
 ∃K,doP (fun K=>hZ (p (look K) [])) zs (zs.length+1) []=some ((g zs).2,K)∧jx zs K∧∀K,jx zs K→∀y D,p (look K) []=.ok y D→y=(g zs).1:=by
 obtain⟨D,e,a,i⟩:=hF zs [] rfl hz (fZ _)
 have e0:bG zs []=zs:=rfl
 rw[e0] at e a
 obtain⟨K,hK,hd⟩:=yP hS hG hz e (zs.length+1) [] (ua zs) (by simp)
 exact⟨K,by rw[hd,a],hK,fun K hK y D' h=>(wT hS hK e h).1⟩
structure lN (b l:Int)(n:Nat):Prop where
 b1:1≤b
 l0:0≤l
 hi:b+l<n
 top:n≤10000
def cJ (l y:Int):Int:=if 0≤y∧y≤l then y else 0
def sy (b l:Int):Prg Int:=aJ (dJ b) fun y=>aK (cJ l y)
def gH (b l k:Int):Int:=if k<0∨l≤k then 0 else b+1+k
def wU (up:Bool)(b l:Int):Prg (Int×Int):=aJ (sy b l) fun n=>aK (n,gH b l (if up then n else n-1))
def yS (b l x:Int):Prg Bool:=aJ (wU true b l) fun p=>if p.2=0 then aK false else aJ (eL p.2 x) fun _=>aJ (eL b (p.1+1)) fun _=>aK true
def CY (b l:Int):Prg (Int×Bool):=aJ (wU false b l) fun p=>if p.2=0 then aK (0,false) else aJ (dJ p.2) fun y=>aJ (eL b (p.1-1)) fun _=>aK (y,true)
theorem mu {l y:Int}(h:0≤l):0≤cJ l y∧cJ l y≤l:=by unfold cJ;split<;>omega
theorem Ip {b l:Int}{n:Nat}(H:lN b l n):fX n (fun x=>0≤x∧x≤l) (sy b l):=
 cU (fi n (by have:=H.hi;have:=H.l0;omega)) fun y _=>cH n (mu H.l0)
def cm (b l x:Int)(ws:List Int):Bool×List Int :=
 let n:=cJ l (wAt ws b)
 if n<l then(true,(ws.set (b+1+n).toNat x).set b.toNat (n+1)) else(false,ws)
def dd (b l:Int)(ws:List Int):(Int×Bool)×List Int :=
 let n:=cJ l (wAt ws b)
 if 0<n then((wAt ws (b+n),true),ws.set b.toNat (n-1)) else((0,false),ws)
theorem ue {b l:Int}{n:Nat}(H:lN b l n):bO n (sy b l) (fun ws=>(cJ l (wAt ws b),ws)):=
 aE (cV (by have:=H.b1;omega) (by have:=H.hi;have:=H.l0;omega)) fun _=>az n _
theorem pw {b l:Int}{n:Nat}(H:lN b l n)(up:Bool):bO n (wU up b l) (fun ws=>((cJ l (wAt ws b),gH b l (if up then cJ l (wAt ws b) else cJ l (wAt ws b)-1)),ws)):=
 aE (ue H) fun _=>az n _
theorem uf {b l x:Int}{n:Nat}(H:lN b l n)(hx:W64 x):bO n (yS b l x) (cm b l x):=fun zs D hn hz hD=>by
 have hh:=H.hi;have ht:=H.top;have h1:=H.b1;have h0:=H.l0
 obtain⟨D1,e1,a1,i1⟩:=pw H true zs D hn hz hD
 have hk:=mu (y:=wAt (bG zs D) b) h0
 unfold yS
 rw[bE e1]
 unfold cm
 simp only[if_true] at *
 by_cases q:cJ l (wAt (bG zs D) b)<l
 ·have e:gH b l (cJ l (wAt (bG zs D) b))=b+1+cJ l (wAt (bG zs D) b):=by unfold gH;rw[if_neg (by omega)]
  rw[e] at e1⊢
  rw[if_pos q,if_neg (by omega)]
  generalize cJ l (wAt (bG zs D) b)=m at *
  obtain⟨D2,e2,a2,i2⟩:=cM (n:=n) (a:=b+1+m) (x:=x) (by omega) (by omega) (by unfold W64;omega) hx zs D1 hn hz i1
  obtain⟨D3,e3,a3,i3⟩:=cM (n:=n) (a:=b) (x:=m+1) (by omega) (by omega) (by unfold W64;omega) (by unfold W64;omega) zs D2 hn hz i2
  rw[bE e2,bE e3]
  exact⟨D3,rfl,by rw[a3,a2,a1],i3⟩
 ·have e:gH b l (cJ l (wAt (bG zs D) b))=0:=by unfold gH;rw[if_pos (by omega)]
  rw[e] at e1⊢
  rw[if_neg q,if_pos rfl]
  exact⟨D1,rfl,a1,i1⟩
theorem wV {b l:Int}{n:Nat}(H:lN b l n):bO n (CY b l) (dd b l):=fun zs D hn hz hD=>by
 have hh:=H.hi;have ht:=H.top;have h1:=H.b1;have h0:=H.l0
 obtain⟨D1,e1,a1,i1⟩:=pw H false zs D hn hz hD
 have hk:=mu (y:=wAt (bG zs D) b) h0
 unfold CY
 rw[bE e1]
 unfold dd
 simp only[Bool.false_eq_true,if_false] at *
 by_cases q:0<cJ l (wAt (bG zs D) b)
 ·have e:gH b l (cJ l (wAt (bG zs D) b)-1)=b+cJ l (wAt (bG zs D) b):=by unfold gH;rw[if_neg (by omega)];omega
  rw[e] at e1⊢
  rw[if_pos q,if_neg (by omega)]
  generalize cJ l (wAt (bG zs D) b)=m at *
  obtain⟨D2,e2,a2,i2⟩:=cV (n:=n) (a:=b+m) (by omega) (by omega) zs D1 hn hz i1
  obtain⟨D3,e3,a3,i3⟩:=cM (n:=n) (a:=b) (x:=m-1) (by omega) (by omega) (by unfold W64;omega) (by unfold W64;omega) zs D2 hn hz i2
  rw[bE e2,bE e3]
  refine⟨D3,?_,by rw[a3,a2,a1],i3⟩
  rw[a1]
  rfl
 ·have e:gH b l (cJ l (wAt (bG zs D) b)-1)=0:=by unfold gH;rw[if_pos (by omega)]
  rw[e] at e1⊢
  rw[if_neg q,if_pos rfl]
  exact⟨D1,rfl,a1,i1⟩
structure fw (ws:List Int)(b l:Int)(xs:List Int):Prop where
 cnt:wAt ws b=xs.length
 fit:(xs.length:Int)≤l
 at':∀j:Nat,j<xs.length→wAt ws (b+1+j)=xs.getD j 0
theorem fw.kept {ws:List Int}{b l:Int}{xs:List Int}(h:fw ws b l xs):cJ l (wAt ws b)=xs.length:=by
 rw[h.cnt];unfold cJ;rw[if_pos ⟨by omega,h.fit⟩]
theorem nC (xs:List Int)(x:Int)(j:Nat):(xs++ [x]).getD j 0=if j=xs.length then x else xs.getD j 0:=by
 by_cases e:j=xs.length
 ·subst e;simp[List.getD]
 ·rw[if_neg e]
  by_cases q:j<xs.length
  ·simp[List.getD,List.getElem?_append,q]
  ·rw[List.getD,List.getD,List.getElem?_eq_none (show(xs++ [x]).length≤j by simp;omega),List.getElem?_eq_none (show xs.length≤j by omega)]
theorem fw.push {ws:List Int}{b l x:Int}{xs:List Int}{n:Nat}(h:fw ws b l xs)(H:lN b l n)(hl:ws.length=n):(cm b l x ws).1=decide ((xs.length:Int)<l)∧(cm b l x ws).2.length=n∧fw (cm b l x ws).2 b l (if(xs.length:Int)<l then xs++ [x] else xs):=by
 have hh:=H.hi;have h1:=H.b1;have h0:=H.l0
 have hk:=h.kept
 unfold cm
 simp only[hk]
 by_cases q:(xs.length:Int)<l
 ·rw[if_pos q,if_pos q]
  refine⟨by simp[q],by simp[hl],?_,by simp;omega,fun j hj=>?_⟩
  ·show wAt ((ws.set _ _).set b.toNat _) b=_
   rw[bL (by omega) (by omega) (by simp;omega),if_pos rfl];simp
  ·show wAt ((ws.set _ _).set b.toNat _) (b+1+j)=_
   rw[bL (by omega) (by omega) (by simp;omega),if_neg (by omega),bL (by omega) (by omega) (by omega),nC]
   by_cases e:j=xs.length
   ·rw[if_pos (by omega),if_pos e]
   ·rw[if_neg (by omega),if_neg e]
    simp at hj
    exact h.at' j (by omega)
 ·rw[if_neg q,if_neg q]
  exact⟨by simp[q],hl,h⟩
theorem fw.pop {ws:List Int}{b l x:Int}{xs:List Int}{n:Nat}(h:fw ws b l (xs++ [x]))(H:lN b l n)(hl:ws.length=n):(dd b l ws).1=(x,true)∧(dd b l ws).2.length=n∧fw (dd b l ws).2 b l xs:=by
 have hh:=H.hi;have h1:=H.b1;have h0:=H.l0
 have hk:=h.kept
 have hf:=h.fit
 simp at hk hf
 have ha:=h.at' xs.length (by simp)
 rw[nC,if_pos rfl] at ha
 unfold dd
 simp only[hk]
 rw[if_pos (by omega)]
 refine⟨?_,by simp[hl],?_,by omega,fun j hj=>?_⟩
 ·show(wAt ws (b+((xs.length:Int)+1)),true)=_
  rw[show b+((xs.length:Int)+1)=b+1+(xs.length:Int) by omega,ha]
 ·show wAt (ws.set b.toNat _) b=_
  rw[bL (by omega) (by omega) (by omega),if_pos rfl];omega
 ·show wAt (ws.set b.toNat _) (b+1+j)=_
  rw[bL (by omega) (by omega) (by omega),if_neg (by omega),h.at' j (by simp;omega),nC,if_neg (by omega)]
theorem fw.none {ws:List Int}{b l:Int}(h:fw ws b l []):dd b l ws=((0,false),ws):=by
 have hk:=h.kept
 unfold dd
 simp only[hk]
 simp
theorem C5 {ws:List Int}{b l x:Int}{n:Nat}(H:lN b l n)(hl:ws.length=n):(cm b l x ws).2.length=n∧∀i:Int,0≤i→(i<b∨b+l<i)→wAt (cm b l x ws).2 i=wAt ws i:=by
 have hh:=H.hi;have h1:=H.b1;have h0:=H.l0
 have hk:=mu (y:=wAt ws b) h0
 unfold cm
 simp only
 split
 ·refine⟨by simp[hl],fun i hi ho=>?_⟩
  show wAt ((ws.set _ _).set b.toNat _) i=_
  rw[bL (by omega) (by omega) (by simp;omega),if_neg (by omega),bL (by omega) (by omega) (by omega),if_neg (by omega)]
 ·exact⟨hl,fun i _ _=>rfl⟩
theorem Gk {ws:List Int}{b l:Int}{n:Nat}(H:lN b l n)(hl:ws.length=n):(dd b l ws).2.length=n∧∀i:Int,0≤i→(i<b∨b+l<i)→wAt (dd b l ws).2 i=wAt ws i:=by
 have hh:=H.hi;have h1:=H.b1;have h0:=H.l0
 unfold dd
 simp only
 split
 ·refine⟨by simp[hl],fun i hi ho=>?_⟩
  show wAt (ws.set b.toNat _) i=_
  rw[bL (by omega) (by omega) (by omega),if_neg (by omega)]
 ·exact⟨hl,fun i _ _=>rfl⟩
open Go.RowKit
structure Turned (S:Nat→Prop)(w w':World):Prop where
 os:w'.os=w.os
 tape:w'.tape=w.tape
 output:w'.output=w.output
 size:w.heap.size≤w'.heap.size
 block:∀k,k<w.heap.size→¬S k→w'.heap[k]?=w.heap[k]?
namespace Turned
variable {S S':Nat→Prop}{w w' w'':World}
theorem refl (S:Nat→Prop)(w:World):Turned S w w:=⟨rfl,rfl,rfl,Nat.le_refl _,fun _ _ _=>rfl⟩
theorem trans (h:Turned S w w')(k:Turned S w' w''):Turned S w w'' :=
 ⟨k.os.trans h.os,k.tape.trans h.tape,k.output.trans h.output,Nat.le_trans h.size k.size,
  fun i hi hs=>(k.block i (Nat.lt_of_lt_of_le hi h.size) hs).trans (h.block i hi hs)⟩
theorem mono (h:Turned S w w')(hs:∀k,k<w.heap.size→S k→S' k):Turned S' w w' :=
 ⟨h.os,h.tape,h.output,h.size,fun i hi hn=>h.block i hi (fun q=>hn (hs i hi q))⟩
theorem drew (h:Turned S w w'):Turned S w w'.drew:=⟨h.os,h.tape,h.output,h.size,h.block⟩
theorem drewN (h:Turned S w w')(n:Nat):Turned S w (w'.drewN n):=⟨h.os,h.tape,h.output,h.size,h.block⟩
theorem alloc (h:Turned S w w')(o:Obj):Turned S w (w'.alloc o):=
 h.trans ⟨rfl,rfl,rfl,by simp,fun k hk _=>Below.heap_alloc _ _ _ hk⟩
theorem setCell (h:Turned S w w')(p:Addr)(u:Value)(hp:p.block<w.heap.size→S p.block):Turned S w (w'.setCell p u):=
 ⟨h.os,h.tape,h.output,by have:=h.size;simpa using this,fun k hk hs=>by
  rw[Below.heap_setCell _ _ _ _ (by intro e;subst e;exact hs (hp hk))];exact h.block k hk hs⟩
theorem below (h:Turned S w w'){B:Nat}(hB:B≤w.heap.size)(hs:∀k,S k→B≤k):Below B w w' :=
 ⟨h.os,h.tape,h.output,h.size,fun k hk=>h.block k (by omega) (fun q=>by have:=hs k q;omega)⟩
end Turned
def iQ (ws:List Int):Array Value:=(ws.map (Value.int .i64)).toArray
structure At (T:Nat)(w:World)(a b:Nat)(ws:List Int)(c:Int):Prop where
 head:w.heap[a]?=some (.cells #[.slice (some ⟨b,0,none⟩) ws.length ws.length,.int .i64 c] T (0,0))
 row:w.heap[b]?=some (.cells (iQ ws) 3 (0,0))
 ne:a≠b
theorem ac {w:World}{k:Nat}{o:Obj}(h:w.heap[k]?=some o):k<w.heap.size:=by
 by_cases q:k<w.heap.size
 ·exact q
 ·rw[Array.getElem?_eq_none (by omega)] at h;cases h
theorem dA {w:World}{k o:Nat}{v:Value}(h:w.cell? ⟨k,o,none⟩=some v):k<w.heap.size:=by
 by_cases q:k<w.heap.size
 ·exact q
 ·unfold World.cell? at h;rw[Array.getElem?_eq_none (by simpa using q)] at h;cases h
namespace At
variable {T:Nat}{w w':World}{a b:Nat}{ws:List Int}{c:Int}
theorem la (h:At T w a b ws c):a<w.heap.size:=ac h.head
theorem lb (h:At T w a b ws c):b<w.heap.size:=ac h.row
theorem keep (h:At T w a b ws c){S:Nat→Prop}(t:Turned S w w')(ha:¬S a)(hb:¬S b):At T w' a b ws c :=
 ⟨by rw[t.block a h.la ha];exact h.head,by rw[t.block b h.lb hb];exact h.row,h.ne⟩
theorem c0 (h:At T w a b ws c):w.cell? ⟨a,0,none⟩=some (.slice (some ⟨b,0,none⟩) ws.length ws.length):=by simp[World.cell?,h.head]
theorem c1 (h:At T w a b ws c):w.cell? ⟨a,1,none⟩=some (.int .i64 c):=by simp[World.cell?,h.head]
theorem f0 (h:At T w a b ws c):w.frozen? ⟨a,0,none⟩=false:=by simp[World.frozen?,h.head]
theorem f1 (h:At T w a b ws c):w.frozen? ⟨a,1,none⟩=false:=by simp[World.frozen?,h.head]
theorem wd (h:At T w a b ws c){i:Nat}(hi:i<ws.length):w.cell? ⟨b,i,none⟩=some (.int .i64 (ws.getD i 0)):=by
 simp[World.cell?,h.row,iQ,hi,List.getD]
theorem drew (h:At T w a b ws c):At T w.drew a b ws c:=⟨h.head,h.row,h.ne⟩
theorem drewN (h:At T w a b ws c)(n:Nat):At T (w.drewN n) a b ws c:=⟨h.head,h.row,h.ne⟩
theorem alloc (h:At T w a b ws c)(o:Obj):At T (w.alloc o) a b ws c:=h.keep ((Turned.refl (fun _=>False) w).alloc o) (fun q=>q) (fun q=>q)
end At
theorem eV (b o j:Nat):(⟨b,o,none⟩:Addr).add j=⟨b,o+j,none⟩:=by
 unfold Addr.add
 by_cases q:j=0
 ·subst q;simp
 ·simp[q]
theorem bm (w:World)(o:Obj):(w.alloc o).heap[w.heap.size]?=some o:=by
 show(w.heap.push o)[w.heap.size]?=_
 simp
def ae (w w':World):Prop:=Turned (fun _=>False) w w'
theorem ae.refl (w:World):ae w w:=Turned.refl _ _
theorem ae.trans {w w' w'':World}(h:ae w w')(k:ae w' w''):ae w w'':=Turned.trans h k
theorem ae.alloc {w w':World}(h:ae w w')(o:Obj):ae w (w'.alloc o):=Turned.alloc h o
theorem ae.drew {w w':World}(h:ae w w'):ae w w'.drew:=Turned.drew h
theorem ae.drewN {w w':World}(h:ae w w')(n:Nat):ae w (w'.drewN n):=Turned.drewN h n
theorem ae.block {w w':World}(h:ae w w'){k:Nat}{o:Obj}(hk:w.heap[k]?=some o):w'.heap[k]?=some o:=by
 rw[Turned.block h k (ac hk) (fun q=>q)];exact hk
theorem ae.cell {w w':World}(h:ae w w'){k o:Nat}{v:Value}(hc:w.cell? ⟨k,o,none⟩=some v):w'.cell? ⟨k,o,none⟩=some v:=by
 rw[World.cell?_of_block (w:=w) (Turned.block h k (dA hc) (fun q=>q))];exact hc
def aF (w:World)(v:Value)(e:Ending)(w':World):Prop:=e=.returned v∧ae w w'
theorem aw {P:Program}{id:Nat}{Q:Exit→Act→World→Prop}{a:Act}{w:World}{l:List Oper}(hm:P.follows .mixedOrders=true)(hB:Region.lexB .any l.toArray=true)
 (h:wpQuiet P l.toArray (ae w) (fun a'=>∀w',ae w w'→Q .normal a' w') l a):(Code.region id l.toArray true).wp P Q a w :=
 wp_region_quiet (C:=ae w) hm hB ((ae.refl w).drewN 1) (by simpa using h)
theorem wW {P:Program}{ops:Array Oper}{C:World→Prop}{Q:Act→Prop}{a:Act}{o:Oper}{rest:List Oper}(v:Value)(hw:Region.wanted o (yielded ops a.tmps)=true)
 (hy:∀W,C W→o.quietAt P a C W v) (h:wpQuiet P ops C Q rest (a.put o.dst v)):wpQuiet P ops C Q (o::rest) a:=by
 unfold wpQuiet;rw[if_pos hw];exact⟨v,hy,h⟩
theorem Calls.more {P:Program}{f:FuncId}{args:Array Value}{w W:World}{v:Value}(hW:ae w W)(h:Calls P f args W (aF W v)):Calls P f args W fun e w''=>e=.returned v∧ae w w'' :=
 h.mono fun _ _ ⟨he,hm⟩=>⟨he,hW.trans hm⟩
structure bP (wk cp pg st tr wt ck pr ca bi ba:Int):Prop where
 wk1:1≤wk
 wk2:wk≤64
 cp1:1≤cp
 cp2:cp≤8
 pg1:1≤pg
 pg2:pg≤256
 st1:1≤st
 st2:st≤64
 tr1:0≤tr
 tr2:tr≤16
 wt1:0≤wt
 wt2:wt≤64
 ck1:1≤ck
 ck2:ck≤1099511627776
 pr1:1≤pr
 pr2:pr≤8
 ca1:0≤ca
 ca2:ca≤8
 bi1:0≤bi
 bi2:bi≤16
 ba1:1≤ba
 ba2:ba≤8
def aN (st:Int):Int:=3+st
def aD (pg:Int):Int:=(pg+3) / 4
def aO (st pg:Int):Int:=aN st+aD pg+5 * pg
def cD (st pg:Int):Int:=aO st pg+62
def dY (cp pg st ca:Int):Int:=cD st pg+5 * cp * (ca+1)
def cF (cp pg st ca bi:Int):Int:=dY cp pg st ca+5 * (bi+1)
def bH (cp pg st ca bi:Int):Int:=(cF cp pg st ca bi+32 * pg+127) / 128 * 128
def cW (cp pg st ca bi:Int):Int:=bH cp pg st ca bi+32 * pg
theorem am {x:Int}(h0: -9223372036854775808≤x)(h1:x≤9223372036854775807):IntKind.i64.wrap x=x:=IntWalk.i64_in _ (by omega)
section
variable {wk cp pg st tr wt ck pr ca bi ba:Int}(R:bP wk cp pg st tr wt ck pr ca bi ba)
include R
theorem lO:4≤aN st∧aN st≤67:=by have:=R.st1;have:=R.st2;unfold aN;omega
theorem jz:1≤aD pg∧aD pg≤64:=by have:=R.pg1;have:=R.pg2;unfold aD;omega
theorem lP:10≤aO st pg∧aO st pg≤1411:=by have:=lO R;have:=jz R;have:=R.pg1;have:=R.pg2;unfold aO;omega
theorem kQ:72≤cD st pg∧cD st pg≤1473:=by have:=lP R;unfold cD;omega
theorem JM:1≤cp * (ca+1)∧cp * (ca+1)≤72:=by
 have h1:=R.cp1;have h2:=R.cp2;have h3:=R.ca1;have h4:=R.ca2
 constructor
 ·have:=Int.mul_le_mul h1 (show(1:Int)≤ca+1 by omega) (by omega) (by omega)
  omega
 ·have:=Int.mul_le_mul h2 (show ca+1≤9 by omega) (by omega) (by omega)
  omega
theorem j6:5≤5 * cp * (ca+1)∧5 * cp * (ca+1)≤360:=by
 have:=JM R
 rw[Int.mul_assoc];omega
theorem ug:77≤dY cp pg st ca∧dY cp pg st ca≤1833:=by have:=kQ R;have:=j6 R;unfold dY;omega
theorem jV:82≤cF cp pg st ca bi∧cF cp pg st ca bi≤1918:=by have:=ug R;have:=R.bi1;have:=R.bi2;unfold cF;omega
theorem eS:128≤bH cp pg st ca bi∧bH cp pg st ca bi≤10240∧cF cp pg st ca bi+32 * pg≤bH cp pg st ca bi:=by have:=jV R;have:=R.pg1;have:=R.pg2;unfold bH;omega
theorem lQ:160≤cW cp pg st ca bi∧cW cp pg st ca bi≤18432:=by have:=eS R;have:=R.pg1;have:=R.pg2;unfold cW;omega
end
def C6 (w:World)(k:Nat)(T:Nat)(wk cp pg st tr wt ck pr ca bi ba:Int):Prop:=w.heap[k]?=some (.cells #[.int .i64 wk,.int .i64 cp,.int .i64 pg,.int .i64 st,.int .i64 tr,.int .i64 wt,.int .i64 ck,.int .i64 pr,.int .i64 ca,.int .i64 bi,.int .i64 ba] T (0,0))
theorem aP (w:World)(T:Nat)(wk cp pg st tr wt ck pr ca bi ba:Int):C6 (w.alloc (.cells #[.int .i64 wk,.int .i64 cp,.int .i64 pg,.int .i64 st,.int .i64 tr,.int .i64 wt,.int .i64 ck,.int .i64 pr,.int .i64 ca,.int .i64 bi,.int .i64 ba] T)) w.heap.size T wk cp pg st tr wt ck pr ca bi ba:=bm w _
theorem C6.cells {w W:World}{k T:Nat}{wk cp pg st tr wt ck pr ca bi ba:Int}(h:C6 w k T wk cp pg st tr wt ck pr ca bi ba)(hW:ae w W):
 W.cell? ⟨k,0,none⟩=some (.int .i64 wk)∧W.cell? ⟨k,1,none⟩=some (.int .i64 cp)∧W.cell? ⟨k,2,none⟩=some (.int .i64 pg)∧W.cell? ⟨k,3,none⟩=some (.int .i64 st)∧W.cell? ⟨k,4,none⟩=some (.int .i64 tr)∧W.cell? ⟨k,5,none⟩=some (.int .i64 wt)∧W.cell? ⟨k,6,none⟩=some (.int .i64 ck)∧W.cell? ⟨k,7,none⟩=some (.int .i64 pr)∧W.cell? ⟨k,8,none⟩=some (.int .i64 ca)∧W.cell? ⟨k,9,none⟩=some (.int .i64 bi)∧W.cell? ⟨k,10,none⟩=some (.int .i64 ba):=by
 have:=hW.block h
 simp[World.cell?,this]
theorem Gl {a b A B:Int}(h0:0≤a)(h1:a≤A)(h2:0≤b)(h3:b≤B):0≤a * b∧a * b≤A * B :=
 ⟨Int.mul_nonneg h0 h2,Int.mul_le_mul h1 h3 h2 (by omega)⟩
def cI (pg st k:Int):Int:=if 0≤k∧k<aD pg then aN st+k else 0
def cN (pg st n p:Int):Int:=if 0≤p∧p<pg then aN st+aD pg+n * pg+p else 0
def j7 (cp pg st ca bi p:Int):Int:=if 0≤p∧p<pg then bH cp pg st ca bi+32 * p else 0
def qH (cp pg st ca bi c:Int):Int:=if 0≤c∧c≤4 then dY cp pg st ca+c * (bi+1) else 0
def ie (cp pg st ca bi a:Int):Int:=if bH cp pg st ca bi≤a∧a<cW cp pg st ca bi then cF cp pg st ca bi+a-bH cp pg st ca bi else 0
def fA (cp pg st ca u c:Int):Int:=if 0≤u∧u<cp∧0≤c∧c≤4 then cD st pg+(5 * u+c) * (ca+1) else 0
def dB (c:Int):Int:=if c≤0 then 32 else if c=1 then 16 else if c=2 then 8 else if c=3 then 4 else if c=4 then 2 else 1
def dI (c:Int):Int:=if c≤0 then 0 else if c=1 then 32 else if c=2 then 48 else if c=3 then 56 else 60
def aC (pg st c f:Int):Int:=if 0≤c∧c≤4∧1≤f∧f≤dB c then aO st pg+dI c+f-1 else 0
theorem wX (i:Int)(h0:0≤i)(h5:i<5):dB i / 2=dB (i+1)∧1≤dB i∧dB i≤32:=by
 have:i=0∨i=1∨i=2∨i=3∨i=4:=by omega
 rcases this with rfl|rfl|rfl|rfl|rfl<;>decide
theorem iw (c:Int)(h0:0≤c)(h4:c≤4):2≤dB c∧dB c≤32:=by
 have:c=0∨c=1∨c=2∨c=3∨c=4:=by omega
 rcases this with rfl|rfl|rfl|rfl|rfl<;>decide
theorem lR (i:Int)(h0:0≤i)(h5:i<4):dI i+dB i=dI (i+1)∧0≤dI i∧dI i≤60:=by
 have:i=0∨i=1∨i=2∨i=3:=by omega
 rcases this with rfl|rfl|rfl|rfl<;>decide
theorem sA (c:Int)(h0:0≤c)(h4:c≤4):0≤dI c∧dI c≤60:=by
 have:c=0∨c=1∨c=2∨c=3∨c=4:=by omega
 rcases this with rfl|rfl|rfl|rfl|rfl<;>decide
def btw (n lo hi:Int):Bool:=decide (lo≤n) && decide (n≤hi)
variable (wk cp pg st tr wt ck pr ca bi ba:Int) in
def sB:Bool:=btw wk 1 64 && btw cp 1 8 && btw pg 1 256 && btw st 1 64 && btw tr 0 16 && btw wt 0 64 && btw ck 1 1099511627776 && btw pr 1 8 && btw ca 0 8 && btw bi 0 16 && btw ba 1 8
section
variable {P:Program}{ops:Array Oper}{rest:List Oper}{o:Oper}{a:Act}{w:World}{Q:Exit→Act→World→Prop}
theorem eI (hw:Region.wanted o (yielded ops a.tmps)=true)
 (h:∀K:Act→World→Prop,(∀a w,wpList P ops Q rest a w→K a w)→o.wp P a w K Q):wpList P ops Q (o::rest) a w :=
 wpList_step fun K hK=>by simp only[hw,if_true];exact h K hK
theorem cX (hw:Region.wanted o (yielded ops a.tmps)=true)(ty:TypeId)(x:Operand)(ho:o.op=.load ty x)
 (g:Nat) (hx:a.eval x=.pointer (some ⟨g,0,none⟩)) (t:TypeId) (cs:Array Value) (fr:Nat×Nat) (d:TypeDesc) (hg:w.heap[g]?=some (.cells cs t fr))
 (hu:P.underlying ty=some d) (hd:(match d with| .struct _| .array _ _=>true|_=>false)=true) (hi:(P.info? ty).map (·.size)=some cs.size)
 (h:wpList P ops Q rest (a.put o.dst (.agg cs)) w):wpList P ops Q (o::rest) a w :=
 eI hw fun _ hK=>wp_load_row ty x ho g hx t cs fr d hg hu hd hi (hK _ _ h)
theorem ai {C:World→Prop}{Q:Act→Prop}(hw:Region.wanted o (yielded ops a.tmps)=true)(ty:TypeId)(x:Operand)(ho:o.op=.load ty x)
 (g:Nat) (hx:a.eval x=.pointer (some ⟨g,0,none⟩)) (t:TypeId) (cs:Array Value) (fr:Nat×Nat) (d:TypeDesc) (hg:∀W,C W→W.heap[g]?=some (.cells cs t fr))
 (hu:P.underlying ty=some d) (hd:(match d with| .struct _| .array _ _=>true|_=>false)=true) (hi:(P.info? ty).map (·.size)=some cs.size)
 (h:wpQuiet P ops C Q rest (a.put o.dst (.agg cs))):wpQuiet P ops C Q (o::rest) a:=by
 refine wW (.agg cs) hw (fun W hW=>?_) h
 unfold Oper.quietAt execOp
 simp only[ho,hx,Instr.loadAt,Instr.sureAddr,Sem.run_bind,Sem.run_pure,Result.andThen_ok,run_loadVar_row W g t ty cs fr d (hg W hW) hu hd hi]
 exact⟨rfl,rfl⟩
end
section
variable {P:Program}{w:World}
theorem jc {ty:TypeId}{g i:Nat}{v:Value}{d:TypeDesc}(hu:P.underlying ty=some d)(hd:(match d with| .struct _| .array _ _=>true|_=>false)=false)(hc:w.cell? ⟨g,i,none⟩=some v):(loadVar ty ⟨g,i,none⟩).run P w=.ok v w:=by
 have hagg:(isAgg ty).run P w=.ok false w:=by
  unfold isAgg
  rw[Sem.run_bind,run_underlying hu w]
  cases d<;>simp_all
 simp[loadVar,Sem.run_bind,hagg,hc,Result.andThen,go_sem]
end
theorem qI {P:Program}{t e:TypeId}{n:Nat}{cs:Array Value}{i:Nat}{v:Value}{q:IntKind}(W:World)(hu:P.underlying t=some (.array n e))(he:P.underlying e=some (.int q))(hz:(P.info? e).map (·.size)=some 1)
 (hi:i<n) (hv:cs[i]?=some v):(Instr.index t (.agg cs) (.int .i64 i)).run P W=.ok v W:=by
 have hagg:(isAgg e).run P W=.ok false W:=by
  unfold isAgg
  rw[Sem.run_bind,run_underlying he W]
  rfl
 cases hq:P.info? e with
 |none=>simp[hq] at hz
 |some d =>
  have hs:d.size=1:=by simpa [hq] using hz
  have hin:(0:Int)≤(i:Int)∧(i:Int)<(n:Int):=by omega
  simp[Instr.index,asIntOf,Sem.run_bind,run_underlying hu W,hin,part,hagg,sizeOf,typeInfo,hq,hs,hv]
  intro q;omega
theorem Turned.setRow {S:Nat→Prop}{w w':World}(h:Turned S w w')(g:Nat)(cs:Array Value)(hg:g<w.heap.size→S g):Turned S w (w'.setRow g cs):=
 ⟨h.os,h.tape,h.output,by have:=h.size;simpa using this,fun k hk hs=>by
  rw[setRow_other w' g k cs (by intro e;subst e;exact hs (hg hk))];exact h.block k hk hs⟩
theorem ae.setRow {w w':World}(h:ae w w')(g:Nat)(cs:Array Value)(hg:w.heap.size≤g):ae w (w'.setRow g cs):=Turned.setRow h g cs (fun q=>by omega)
theorem aB {w W:World}{k:Nat}{cs:Array Value}{t:Nat}{fr:Nat×Nat}(h:w.heap[k]?=some (.cells cs t fr))(hW:ae w W){j:Nat}{v:Value}(hv:cs[j]?=some v):W.cell? ⟨k,j,none⟩=some v:=by
 rw[cell_of_row W k j cs t fr (hW.block h)];exact hv
theorem aH (w:World)(cs:Array Value)(t:TypeId):(w.alloc (.cells cs t)).heap[w.heap.size]?=some (.cells cs t (0,0)):=bm w _
theorem aA {ops:Array Oper}{rest:List Oper}{o:Oper}{a:Act}{w:World}{Q:Exit→Act→World→Prop}{x:Operand}{g:Nat}{t:TypeId}{cs:Array Value}{fr:Nat×Nat}(hw:Region.wanted o (yielded ops a.tmps)=true)(ho:o.op=.load 27 x)(hx:a.eval x=.pointer (some ⟨g,0,none⟩))(hg:w.heap[g]?=some (.cells cs t fr))(hi:(Tryz.prog.info? 27).map (·.size)=some cs.size)(h:wpList Tryz.prog ops Q rest (a.put o.dst (.agg cs)) w):wpList Tryz.prog ops Q (o::rest) a w:=cX hw 27 x ho g hx t cs fr _ hg Tryz.underlying27 rfl hi h
theorem cQ {ops:Array Oper}{rest:List Oper}{o:Oper}{a:Act}{w:World}{Q:Exit→Act→World→Prop}{x:Operand}{g:Nat}{t:TypeId}{cs:Array Value}{fr:Nat×Nat}(hw:Region.wanted o (yielded ops a.tmps)=true)(ho:o.op=.load 33 x)(hx:a.eval x=.pointer (some ⟨g,0,none⟩))(hg:w.heap[g]?=some (.cells cs t fr))(hi:(Tryz.prog.info? 33).map (·.size)=some cs.size)(h:wpList Tryz.prog ops Q rest (a.put o.dst (.agg cs)) w):wpList Tryz.prog ops Q (o::rest) a w:=cX hw 33 x ho g hx t cs fr _ hg Tryz.underlying33 rfl hi h
theorem uh {ops:Array Oper}{rest:List Oper}{o:Oper}{a:Act}{w:World}{Q:Exit→Act→World→Prop}{x:Operand}{g:Nat}{t:TypeId}{cs:Array Value}{fr:Nat×Nat}(hw:Region.wanted o (yielded ops a.tmps)=true)(ho:o.op=.load 23 x)(hx:a.eval x=.pointer (some ⟨g,0,none⟩))(hg:w.heap[g]?=some (.cells cs t fr))(hi:(Tryz.prog.info? 23).map (·.size)=some cs.size)(h:wpList Tryz.prog ops Q rest (a.put o.dst (.agg cs)) w):wpList Tryz.prog ops Q (o::rest) a w:=cX hw 23 x ho g hx t cs fr _ hg Tryz.underlying23 rfl hi h
theorem C7 {ops:Array Oper}{rest:List Oper}{o:Oper}{a:Act}{w:World}{Q:Exit→Act→World→Prop}{x:Operand}{g:Nat}{t:TypeId}{cs:Array Value}{fr:Nat×Nat}(hw:Region.wanted o (yielded ops a.tmps)=true)(ho:o.op=.load 38 x)(hx:a.eval x=.pointer (some ⟨g,0,none⟩))(hg:w.heap[g]?=some (.cells cs t fr))(hi:(Tryz.prog.info? 38).map (·.size)=some cs.size)(h:wpList Tryz.prog ops Q rest (a.put o.dst (.agg cs)) w):wpList Tryz.prog ops Q (o::rest) a w:=cX hw 38 x ho g hx t cs fr _ hg Tryz.underlying38 rfl hi h
def fE (a b i:Int):Int:=if 0≤i∧i<b-a then a+i else 0
def aQ (wk cp pg st tr wt ck pr ca bi ba:Int)(S:Nat→Int):Array Value:= #[.int .i64 wk,.int .i64 cp,.int .i64 pg,.int .i64 st,.int .i64 tr,.int .i64 wt,.int .i64 ck,.int .i64 pr,.int .i64 ca,.int .i64 bi,.int .i64 ba,.int .i64 (S 0),.int .i64 (S 1),.int .i64 (S 2),.int .i64 (S 3),.int .i64 (S 4),.int .i64 (S 5),.int .i64 (S 6),.int .i64 (S 7),.int .i64 (S 8),.int .i64 (S 9),.int .i64 (S 10),.int .i64 (S 11),.int .i64 (S 12)]
theorem jA (wk cp pg st tr wt ck pr ca bi ba:Int)(S:Nat→Int)(p:Nat)(hp:p≤12):(aQ wk cp pg st tr wt ck pr ca bi ba S)[11+p]?=some (.int .i64 (S p)):=by
 have:p=0∨p=1∨p=2∨p=3∨p=4∨p=5∨p=6∨p=7∨p=8∨p=9∨p=10∨p=11∨p=12:=by omega
 rcases this with rfl|rfl|rfl|rfl|rfl|rfl|rfl|rfl|rfl|rfl|rfl|rfl|rfl<;>rfl
theorem lS (wk cp pg st tr wt ck pr ca bi ba:Int)(S:Nat→Int):(aQ wk cp pg st tr wt ck pr ca bi ba S).all (·.oneCell')=true:=by simp[aQ,Value.oneCell']
structure jW (cp pg st ca bi:Int)(S:Nat→Int):Prop where
 lo:0≤S 0
 up:∀p,p<12→S p≤S (p+1)
 hi:S 12≤1000000
 cp0:0≤cp
 cp1:cp≤8
 pg0:0≤pg
 pg1:pg≤256
 st0:0≤st
 st1:st≤64
 ca0:0≤ca
 ca1:ca≤8
 bi0:0≤bi
 bi1:bi≤16
 empty:st=0→S 12=0
theorem jW.all {cp pg st ca bi:Int}{S:Nat→Int}(h:jW cp pg st ca bi S):0≤S 0∧S 0≤S 1∧S 1≤S 2∧S 2≤S 3∧S 3≤S 4∧S 4≤S 5∧S 5≤S 6∧S 6≤S 7∧S 7≤S 8∧S 8≤S 9∧S 9≤S 10∧S 10≤S 11∧S 11≤S 12∧S 12≤1000000 :=
 ⟨h.lo,h.up 0 (by omega),h.up 1 (by omega),h.up 2 (by omega),h.up 3 (by omega),h.up 4 (by omega),h.up 5 (by omega),h.up 6 (by omega),h.up 7 (by omega),h.up 8 (by omega),h.up 9 (by omega),h.up 10 (by omega),h.up 11 (by omega),h.hi⟩
theorem jW.bounds {cp pg st ca bi:Int}{S:Nat→Int}(h:jW cp pg st ca bi S)(p:Nat)(hp:p≤12):0≤S p∧S p≤1000000:=by
 obtain⟨r0,r1,r2,r3,r4,r5,r6,r7,r8,r9,r10,r11,r12,r13⟩:=h.all
 have:p=0∨p=1∨p=2∨p=3∨p=4∨p=5∨p=6∨p=7∨p=8∨p=9∨p=10∨p=11∨p=12:=by omega
 rcases this with rfl|rfl|rfl|rfl|rfl|rfl|rfl|rfl|rfl|rfl|rfl|rfl|rfl<;>omega
theorem sC (n lo hi:Int)(w:World):
 Calls Tryz.prog 69 #[.int .i64 n,.int .i64 lo,.int .i64 hi] w fun e w'=>e=.returned (.bool (btw n lo hi))∧w'=w:=by
 cases c0:decide (lo≤n) with
 |false =>
  rw[show btw n lo hi=false by simp[btw,c0]]
  go_enter Tryz.func69,Tryz.ntmps69
  go_wp2
  go_ret
  exact⟨rfl,rfl⟩
 |true =>
  cases c1:decide (n≤hi) with
  |false =>
   rw[show btw n lo hi=false by simp[btw,c1]]
   go_enter Tryz.func69,Tryz.ntmps69
   go_wp2
   go_ret
   exact⟨rfl,rfl⟩
  |true =>
   rw[show btw n lo hi=true by simp[btw,c0,c1]]
   go_enter Tryz.func69,Tryz.ntmps69
   go_wp2
   go_ret
   exact⟨rfl,rfl⟩
theorem C8 (a:Int)(h0:0≤a)(h1:a≤1000000)(w:World):
 Calls Tryz.prog 33 #[.int .i64 a] w fun e w'=>e=.returned (.int .i64 ((a+127) / 128 * 128))∧w'=w:=by
 have q0:IntKind.i64.wrap (a+128)=a+128:=am (by omega) (by omega)
 have q1:IntKind.i64.wrap (a+128-1)=a+127:=by rw[am (by omega) (by omega)];omega
 have q2:IntKind.i64.wrap ((a+127).tdiv 128)=(a+127) / 128:=by rw[Int.tdiv_eq_ediv_of_nonneg (by omega)];exact am (by omega) (by omega)
 have q3:IntKind.i64.wrap ((a+127) / 128 * 128)=(a+127) / 128 * 128:=am (by omega) (by omega)
 go_enter Tryz.func33,Tryz.ntmps33
 go_wp2_with fail
 go_ret
 exact⟨rfl,rfl⟩
theorem Gm (wk cp pg st tr wt ck pr ca bi ba:Int)(h0:0≤pg)(h1:pg≤256)(w:World):
 Calls Tryz.prog 70 #[.agg #[.int .i64 wk,.int .i64 cp,.int .i64 pg,.int .i64 st,.int .i64 tr,.int .i64 wt,.int .i64 ck,.int .i64 pr,.int .i64 ca,.int .i64 bi,.int .i64 ba]] w (aF w (.int .i64 (aD pg))):=by
 have q0:IntKind.i64.wrap (pg+4)=pg+4:=am (by omega) (by omega)
 have q1:IntKind.i64.wrap (pg+4-1)=pg+3:=by rw[am (by omega) (by omega)];omega
 have q2:IntKind.i64.wrap ((pg+3).tdiv 4)=aD pg:=by rw[Int.tdiv_eq_ediv_of_nonneg (by omega)];exact am (by omega) (by omega)
 go_enter Tryz.func70,Tryz.ntmps70
 go_wp2_with fail
 go_ret
 exact⟨rfl,(ae.refl _).alloc _⟩
theorem Gn (c:Nat)(h:c≤4)(w:World):
 Calls Tryz.prog 111 #[.int .i64 c] w fun e w'=>e=.returned (.int .i64 (dB c))∧w'=w:=by
 have hc:c=0∨c=1∨c=2∨c=3∨c=4:=by omega
 rcases hc with rfl|rfl|rfl|rfl|rfl <;>
 ·go_enter Tryz.func111,Tryz.ntmps111
  go_wp2_with fail
  go_ret
  exact⟨rfl,rfl⟩
def j8 (c:Nat):Int:=if c=5 then 62 else dI c
theorem ui (k:Nat)(h:k≤4):j8 k+dB k=j8 (k+1)∧0≤j8 k∧j8 k≤60:=by
 have hc:k=0∨k=1∨k=2∨k=3∨k=4:=by omega
 rcases hc with rfl|rfl|rfl|rfl|rfl<;>decide
theorem uj (c:Nat)(h:c≤5)(w:World):
 Calls Tryz.prog 71 #[.int .i64 c] w fun e w'=>e=.returned (.int .i64 (j8 c))∧w'=w:=by
 go_enter Tryz.func71,Tryz.ntmps71
 go_wp2_with fail
 go_loop [3,4,6] (fun n _ i=>∃k:Nat,k≤c∧i=.int .i64 k∧n=.int .i64 (j8 k)) (fun _ _ i=>c-(intOf i).toNat)
 case atStart=>exact⟨0,Nat.zero_le _,rfl,rfl⟩
 case round =>
  obtain⟨k,hk,rfl,rfl⟩:=hrel
  by_cases hlt:k<c
  ·obtain⟨a1,a2,a3⟩:=ui k (by omega)
   have b4:=iw k (by omega) (by omega)
   have q0:IntKind.i64.wrap (j8 k+dB k)=j8 (k+1):=by rw[a1];exact am (by omega) (by omega)
   clear a1
   have d0:decide ((k:Int)<(c:Int))=true:=by simp;omega
   go_wp2_with fail
   refine(Gn k (by omega) _).mono ?_
   rintro e w1 ⟨rfl,rfl⟩
   go_wp2_with fail
   go_round
   case rel=>exact⟨k+1,by omega,by go_num,rfl⟩
   case measure=>simp[intOf];omega
  ·have he:k=c:=by omega
   subst he
   have d0:decide ((k:Int)<(k:Int))=false:=by simp
   go_wp2_with fail
   go_ret
   exact⟨rfl,rfl⟩
variable (wk cp pg st tr wt ck pr ca bi ba:Int)(S:Nat→Int)(w:World)
theorem re (p:Nat)(i:Int)(hp:p<12)(R:jW cp pg st ca bi S):
 Calls Tryz.prog 75 #[.agg (aQ wk cp pg st tr wt ck pr ca bi ba S),.int .i64 p,.int .i64 i] w (aF w (.int .i64 (fE (S p) (S (p+1)) i))):=by
 have h0:=(R.bounds p (by omega)).1
 have h1:=R.up p hp
 have h2:=(R.bounds (p+1) (by omega)).2
 clear R
 have e1:=jA wk cp pg st tr wt ck pr ca bi ba S p (by omega)
 have e2:=jA wk cp pg st tr wt ck pr ca bi ba S (p+1) (by omega)
 generalize aQ wk cp pg st tr wt ck pr ca bi ba S=L at *
 generalize S p=a at *
 generalize S (p+1)=b at *
 have HC:=hQQ (aH w L 33)
 have HM:Hq (ae w (w.alloc (.cells L 33))):=(ae.refl w).alloc _
 have q0:IntKind.i64.wrap ((p:Int)+1)=((p+1:Nat):Int):=by rw[am (by omega) (by omega)];omega
 have q1:IntKind.i64.wrap (b-a)=b-a:=am (by omega) (by omega)
 have r0:(0:Int)≤(p:Int)+1:=by omega
 have r1:(p:Int)+1<13:=by omega
 have r2:(p:Int)<13:=by omega
 by_cases c0:i<0
 ·have d0:decide (i<0)=true:=by simp;omega
  rw[show fE a b i=0 from if_neg (by omega)]
  go_enter Tryz.func75,Tryz.ntmps75
  go_wp2_with fail
  generalize w.alloc (.cells L 33)=W0 at *
  have hne:∃W,ae W0 W:=⟨W0,ae.refl _⟩
  refine aw (by kernel_rfl) (by kernel_rfl) ?_
  iterate 16
   with_reducible refine wpQuiet_step (fun K hK=>?_)
   go_simp
   first
   |(refine hK _ ?_;clear hK K)
   |(apply Exists.intro
     refine⟨fun W hW=>?_,hK _ ?_⟩
     first
     |(have x1:=aB HC.o hW e1;have x2:=aB HC.o hW e2;go_simp;try rfl)
     clear hK K)
  refine wpQuiet_nil ?_
  intro W hW
  have HW:=hQQ hW
  have x1:=aB HC.o hW e1
  clear hW
  go_wp2_with fail
  go_ret
  exact⟨rfl,HM.o.trans HW.o⟩
 ·have d0:decide (i<0)=false:=by simp;omega
  by_cases c1:i<b-a
  ·have d1:decide (b-a≤i)=false:=by simp;omega
   have q2:IntKind.i64.wrap (a+i)=a+i:=am (by omega) (by omega)
   rw[show fE a b i=a+i from if_pos (by omega)]
   go_enter Tryz.func75,Tryz.ntmps75
   go_wp2_with fail
   generalize w.alloc (.cells L 33)=W0 at *
   have hne:∃W,ae W0 W:=⟨W0,ae.refl _⟩
   refine aw (by kernel_rfl) (by kernel_rfl) ?_
   iterate 16
    with_reducible refine wpQuiet_step (fun K hK=>?_)
    go_simp
    first
    |(refine hK _ ?_;clear hK K)
    |(apply Exists.intro
      refine⟨fun W hW=>?_,hK _ ?_⟩
      first
      |(have x1:=aB HC.o hW e1;have x2:=aB HC.o hW e2;go_simp;try rfl)
      clear hK K)
   refine wpQuiet_nil ?_
   intro W hW
   have HW:=hQQ hW
   have x1:=aB HC.o hW e1
   clear hW
   go_wp2_with fail
   go_ret
   exact⟨rfl,HM.o.trans HW.o⟩
  ·have d1:decide (b-a≤i)=true:=by simp;omega
   rw[show fE a b i=0 from if_neg (by omega)]
   go_enter Tryz.func75,Tryz.ntmps75
   go_wp2_with fail
   generalize w.alloc (.cells L 33)=W0 at *
   have hne:∃W,ae W0 W:=⟨W0,ae.refl _⟩
   refine aw (by kernel_rfl) (by kernel_rfl) ?_
   iterate 16
    with_reducible refine wpQuiet_step (fun K hK=>?_)
    go_simp
    first
    |(refine hK _ ?_;clear hK K)
    |(apply Exists.intro
      refine⟨fun W hW=>?_,hK _ ?_⟩
      first
      |(have x1:=aB HC.o hW e1;have x2:=aB HC.o hW e2;go_simp;try rfl)
      clear hK K)
   refine wpQuiet_nil ?_
   intro W hW
   have HW:=hQQ hW
   have x1:=aB HC.o hW e1
   clear hW
   go_wp2_with fail
   go_ret
   exact⟨rfl,HM.o.trans HW.o⟩
theorem IK (k:Int)(R:jW cp pg st ca bi S):
 Calls Tryz.prog 142 #[.agg (aQ wk cp pg st tr wt ck pr ca bi ba S),.int .i64 k] w (aF w (.int .i64 (fE (S 1) (S 2) k))):=by
 obtain⟨r0,r1,r2,r3,r4,r5,r6,r7,r8,r9,r10,r11,r12,r13⟩:=R.all
 have HC:=hQQ (aH w (aQ wk cp pg st tr wt ck pr ca bi ba S) 33)
 go_enter Tryz.func142,Tryz.ntmps142
 go_wp2_with (first|refine cQ rfl rfl rfl HC.o (by kernel_rfl) ?_|refine cQ rfl rfl rfl HC.o (by kernel_rfl) ?_)
 refine(re wk cp pg st tr wt ck pr ca bi ba S _ 1 k (by omega) R).mono ?_
 rintro e w1 ⟨rfl,h1⟩
 go_wp2_with fail
 go_ret
 exact⟨rfl,((ae.refl _).alloc _).trans h1⟩
theorem JO (k:Int)(R:jW cp pg st ca bi S):
 Calls Tryz.prog 37 #[.agg (aQ wk cp pg st tr wt ck pr ca bi ba S),.int .i64 k] w (aF w (.int .i64 (fE (S 2) (S 3) k))):=by
 obtain⟨r0,r1,r2,r3,r4,r5,r6,r7,r8,r9,r10,r11,r12,r13⟩:=R.all
 have HC:=hQQ (aH w (aQ wk cp pg st tr wt ck pr ca bi ba S) 33)
 go_enter Tryz.func37,Tryz.ntmps37
 go_wp2_with (first|refine cQ rfl rfl rfl HC.o (by kernel_rfl) ?_|refine cQ rfl rfl rfl HC.o (by kernel_rfl) ?_)
 refine(re wk cp pg st tr wt ck pr ca bi ba S _ 2 k (by omega) R).mono ?_
 rintro e w1 ⟨rfl,h1⟩
 go_wp2_with fail
 go_ret
 exact⟨rfl,((ae.refl _).alloc _).trans h1⟩
theorem IL (k:Int)(R:jW cp pg st ca bi S):
 Calls Tryz.prog 79 #[.agg (aQ wk cp pg st tr wt ck pr ca bi ba S),.int .i64 k] w (aF w (.int .i64 (fE (S 3) (S 4) k))):=by
 obtain⟨r0,r1,r2,r3,r4,r5,r6,r7,r8,r9,r10,r11,r12,r13⟩:=R.all
 have HC:=hQQ (aH w (aQ wk cp pg st tr wt ck pr ca bi ba S) 33)
 go_enter Tryz.func79,Tryz.ntmps79
 go_wp2_with (first|refine cQ rfl rfl rfl HC.o (by kernel_rfl) ?_|refine cQ rfl rfl rfl HC.o (by kernel_rfl) ?_)
 refine(re wk cp pg st tr wt ck pr ca bi ba S _ 3 k (by omega) R).mono ?_
 rintro e w1 ⟨rfl,h1⟩
 go_wp2_with fail
 go_ret
 exact⟨rfl,((ae.refl _).alloc _).trans h1⟩
theorem JP (k:Int)(R:jW cp pg st ca bi S):
 Calls Tryz.prog 119 #[.agg (aQ wk cp pg st tr wt ck pr ca bi ba S),.int .i64 k] w (aF w (.int .i64 (fE (S 4) (S 5) k))):=by
 obtain⟨r0,r1,r2,r3,r4,r5,r6,r7,r8,r9,r10,r11,r12,r13⟩:=R.all
 have HC:=hQQ (aH w (aQ wk cp pg st tr wt ck pr ca bi ba S) 33)
 go_enter Tryz.func119,Tryz.ntmps119
 go_wp2_with (first|refine cQ rfl rfl rfl HC.o (by kernel_rfl) ?_|refine cQ rfl rfl rfl HC.o (by kernel_rfl) ?_)
 refine(re wk cp pg st tr wt ck pr ca bi ba S _ 4 k (by omega) R).mono ?_
 rintro e w1 ⟨rfl,h1⟩
 go_wp2_with fail
 go_ret
 exact⟨rfl,((ae.refl _).alloc _).trans h1⟩
theorem Iq:Calls Tryz.prog 53 #[.agg (aQ wk cp pg st tr wt ck pr ca bi ba S)] w (aF w (.int .i64 (S 11))):=by
 have HC:=hQQ (aH w (aQ wk cp pg st tr wt ck pr ca bi ba S) 33)
 have x22:=aB HC.o (ae.refl _) (show(aQ wk cp pg st tr wt ck pr ca bi ba S)[22]?=some (.int .i64 (S 11)) from rfl)
 go_enter Tryz.func53,Tryz.ntmps53
 go_wp2_with fail
 go_ret
 exact⟨rfl,(ae.refl _).alloc _⟩
theorem Da:Calls Tryz.prog 54 #[.agg (aQ wk cp pg st tr wt ck pr ca bi ba S)] w (aF w (.int .i64 (S 12))):=by
 have HC:=hQQ (aH w (aQ wk cp pg st tr wt ck pr ca bi ba S) 33)
 have x23:=aB HC.o (ae.refl _) (show(aQ wk cp pg st tr wt ck pr ca bi ba S)[23]?=some (.int .i64 (S 12)) from rfl)
 go_enter Tryz.func54,Tryz.ntmps54
 go_wp2_with fail
 go_ret
 exact⟨rfl,(ae.refl _).alloc _⟩
variable (wk cp pg st tr wt ck pr ca bi ba:Int)(S:Nat→Int)(w:World)
def nD (S:Nat→Int)(a:Int):Int:=if S 11≤a∧a<S 12 then fE (S 10) (S 11) (a-S 11) else 0
def px (pg:Int)(S:Nat→Int)(p:Int):Int:=if 0≤p∧p<pg then fE (S 11) (S 12) (p * 32) else 0
theorem Db {n lo hi:Int}(h0:lo≤n)(h1:n≤hi):btw n lo hi=true:=by simp[btw,h0,h1]
theorem Ay {n lo hi:Int}(h:¬(lo≤n∧n≤hi)):btw n lo hi=false:=by
 cases q:btw n lo hi with
 |false=>rfl
 |true=>simp[btw] at q;exact absurd q h
theorem Gp:Calls Tryz.prog 42 #[.agg (aQ wk cp pg st tr wt ck pr ca bi ba S)] w (aF w (.agg #[.int .i64 wk,.int .i64 cp,.int .i64 pg,.int .i64 st,.int .i64 tr,.int .i64 wt,.int .i64 ck,.int .i64 pr,.int .i64 ca,.int .i64 bi,.int .i64 ba])):=by
 have HC0:=hQQ (aH w (aQ wk cp pg st tr wt ck pr ca bi ba S) 33)
 have HC:Hq (((w.alloc (.cells (aQ wk cp pg st tr wt ck pr ca bi ba S) 33)).alloc (.cells #[.int .i64 0,.int .i64 0,.int .i64 0,.int .i64 0,.int .i64 0,.int .i64 0,.int .i64 0,.int .i64 0,.int .i64 0,.int .i64 0,.int .i64 0] 23)).heap[w.heap.size]?=some (.cells (aQ wk cp pg st tr wt ck pr ca bi ba S) 33 (0,0))):=((ae.refl _).alloc _).block HC0.o
 have x0:=aB HC.o (ae.refl _) (show(aQ wk cp pg st tr wt ck pr ca bi ba S)[0]?=some (.int .i64 wk) from rfl)
 have x1:=aB HC.o (ae.refl _) (show(aQ wk cp pg st tr wt ck pr ca bi ba S)[1]?=some (.int .i64 cp) from rfl)
 have x2:=aB HC.o (ae.refl _) (show(aQ wk cp pg st tr wt ck pr ca bi ba S)[2]?=some (.int .i64 pg) from rfl)
 have x3:=aB HC.o (ae.refl _) (show(aQ wk cp pg st tr wt ck pr ca bi ba S)[3]?=some (.int .i64 st) from rfl)
 have x4:=aB HC.o (ae.refl _) (show(aQ wk cp pg st tr wt ck pr ca bi ba S)[4]?=some (.int .i64 tr) from rfl)
 have x5:=aB HC.o (ae.refl _) (show(aQ wk cp pg st tr wt ck pr ca bi ba S)[5]?=some (.int .i64 wt) from rfl)
 have x6:=aB HC.o (ae.refl _) (show(aQ wk cp pg st tr wt ck pr ca bi ba S)[6]?=some (.int .i64 ck) from rfl)
 have x7:=aB HC.o (ae.refl _) (show(aQ wk cp pg st tr wt ck pr ca bi ba S)[7]?=some (.int .i64 pr) from rfl)
 have x8:=aB HC.o (ae.refl _) (show(aQ wk cp pg st tr wt ck pr ca bi ba S)[8]?=some (.int .i64 ca) from rfl)
 have x9:=aB HC.o (ae.refl _) (show(aQ wk cp pg st tr wt ck pr ca bi ba S)[9]?=some (.int .i64 bi) from rfl)
 have x10:=aB HC.o (ae.refl _) (show(aQ wk cp pg st tr wt ck pr ca bi ba S)[10]?=some (.int .i64 ba) from rfl)
 go_enter Tryz.func42,Tryz.ntmps42
 go_wp2_with fail
 refine bodyPost_ret (v:=.agg #[.int .i64 wk,.int .i64 cp,.int .i64 pg,.int .i64 st,.int .i64 tr,.int .i64 wt,.int .i64 ck,.int .i64 pr,.int .i64 ca,.int .i64 bi,.int .i64 ba]) (by simp[results,Tryz.results42,go_sem]) rfl ⟨rfl,?_⟩
 exact((ae.refl _).alloc _).alloc _
theorem JQ (p:Int)(R:jW cp pg st ca bi S):
 Calls Tryz.prog 78 #[.agg (aQ wk cp pg st tr wt ck pr ca bi ba S),.int .i64 p] w (aF w (.int .i64 (px pg S p))):=by
 obtain⟨r0,r1,r2,r3,r4,r5,r6,r7,r8,r9,r10,r11,r12,r13⟩:=R.all
 have HC:=hQQ (aH w (aQ wk cp pg st tr wt ck pr ca bi ba S) 33)
 have HM:Hq (ae w (w.alloc (.cells (aQ wk cp pg st tr wt ck pr ca bi ba S) 33))):=(ae.refl w).alloc _
 have g3:=R.pg0
 have g4:=R.pg1
 have x2:=aB HC.o (ae.refl _) (show(aQ wk cp pg st tr wt ck pr ca bi ba S)[2]?=some (.int .i64 pg) from rfl)
 have q0:IntKind.i64.wrap (pg-1)=pg-1:=am (by omega) (by omega)
 by_cases hc:0≤p∧p≤pg-1
 ·have b2:=Db hc.1 hc.2
  rw[show px pg S p=fE (S 11) (S 12) (p * 32) from if_pos (by omega)]
  have q4:IntKind.i64.wrap (p * 32)=p * 32:=am (by omega) (by omega)
  have HW:=hQQ (fun W=>re wk cp pg st tr wt ck pr ca bi ba S W 11 (p * 32) (by omega) R)
  go_enter Tryz.func78,Tryz.ntmps78
  go_wp2_with fail
  refine(sC _ _ _ _).mono ?_
  rintro e w2 ⟨rfl,rfl⟩
  rw[b2]
  go_wp2_with (first|refine cQ rfl rfl rfl HC.o (by kernel_rfl) ?_|refine cQ rfl rfl rfl HC.o (by kernel_rfl) ?_)
  refine(HW.o _).mono ?_
  rintro e w3 ⟨rfl,h3⟩
  go_wp2_with fail
  go_ret
  exact⟨rfl,HM.o.trans h3⟩
 ·have b2:=Ay hc
  rw[show px pg S p=0 from if_neg (by omega)]
  go_enter Tryz.func78,Tryz.ntmps78
  go_wp2_with fail
  refine(sC _ _ _ _).mono ?_
  rintro e w2 ⟨rfl,rfl⟩
  rw[b2]
  go_wp2_with fail
  go_ret
  exact⟨rfl,HM.o⟩
theorem JR (a:Int)(R:jW cp pg st ca bi S):
 Calls Tryz.prog 91 #[.agg (aQ wk cp pg st tr wt ck pr ca bi ba S),.int .i64 a] w (aF w (.int .i64 (nD S a))):=by
 obtain⟨r0,r1,r2,r3,r4,r5,r6,r7,r8,r9,r10,r11,r12,r13⟩:=R.all
 have HC:=hQQ (aH w (aQ wk cp pg st tr wt ck pr ca bi ba S) 33)
 have HM:Hq (ae w (w.alloc (.cells (aQ wk cp pg st tr wt ck pr ca bi ba S) 33))):=(ae.refl w).alloc _
 have HU:=hQQ (fun W=>Iq wk cp pg st tr wt ck pr ca bi ba S W)
 have HWd:=hQQ (fun W=>Da wk cp pg st tr wt ck pr ca bi ba S W)
 by_cases c0:a<S 11
 ·have d0:decide (a<S 11)=true:=by simp;omega
  rw[show nD S a=0 from if_neg (by omega)]
  go_enter Tryz.func91,Tryz.ntmps91
  go_wp2_with (first|refine cQ rfl rfl rfl HC.o (by kernel_rfl) ?_|refine cQ rfl rfl rfl HC.o (by kernel_rfl) ?_)
  refine(HU.o _).mono ?_
  rintro e w1 ⟨rfl,h1⟩
  go_wp2_with fail
  go_ret
  exact⟨rfl,HM.o.trans h1⟩
 ·have d0:decide (a<S 11)=false:=by simp;omega
  by_cases c1:a<S 12
  ·have d1:decide (S 12≤a)=false:=by simp;omega
   rw[show nD S a=fE (S 10) (S 11) (a-S 11) from if_pos (by omega)]
   have q1:IntKind.i64.wrap (a-S 11)=a-S 11:=am (by omega) (by omega)
   have HW:=hQQ (fun W=>re wk cp pg st tr wt ck pr ca bi ba S W 10 (a-S 11) (by omega) R)
   go_enter Tryz.func91,Tryz.ntmps91
   go_wp2_with (first|refine cQ rfl rfl rfl HC.o (by kernel_rfl) ?_|refine cQ rfl rfl rfl HC.o (by kernel_rfl) ?_)
   refine(HU.o _).mono ?_
   rintro e w1 ⟨rfl,h1⟩
   have H1:=hQQ (HM.o.trans h1)
   have HC:=hQQ (h1.block HC.o)
   clear h1
   go_wp2_with (first|refine cQ rfl rfl rfl HC.o (by kernel_rfl) ?_|refine cQ rfl rfl rfl HC.o (by kernel_rfl) ?_)
   refine(HWd.o _).mono ?_
   rintro e w2 ⟨rfl,h2⟩
   have H2:=hQQ (H1.o.trans h2)
   have HC:=hQQ (h2.block HC.o)
   clear h2
   go_wp2_with fail
   have hne:∃W,ae w2 W:=⟨w2,ae.refl _⟩
   refine aw (by kernel_rfl) (by kernel_rfl) ?_
   iterate 7
    first
    |(refine ai rfl 33 _ rfl _ rfl 33 _ _ _ (fun W hW=>hW.block HC.o) Tryz.underlying33 rfl (by kernel_rfl) ?_)
    |(with_reducible refine wpQuiet_step (fun K hK=>?_)
      go_simp
      first
      |(refine hK _ ?_;clear hK K)
      |(apply Exists.intro
        refine⟨fun W hW=>?_,hK _ ?_⟩
        first
      |(go_at_call 53;exact Calls.more hW (HU.o W))
      |(go_at_call 75;exact Calls.more hW (HW.o W))
        |(skip; (try go_simp);try rfl)
        clear hK K))
   refine wpQuiet_nil ?_
   intro W hW
   have HX:=hQQ hW
   clear hW
   go_wp2_with fail
   go_ret
   exact⟨rfl,H2.o.trans HX.o⟩
  ·have d1:decide (S 12≤a)=true:=by simp;omega
   rw[show nD S a=0 from if_neg (by omega)]
   go_enter Tryz.func91,Tryz.ntmps91
   go_wp2_with (first|refine cQ rfl rfl rfl HC.o (by kernel_rfl) ?_|refine cQ rfl rfl rfl HC.o (by kernel_rfl) ?_)
   refine(HU.o _).mono ?_
   rintro e w1 ⟨rfl,h1⟩
   have H1:=hQQ (HM.o.trans h1)
   have HC:=hQQ (h1.block HC.o)
   clear h1
   go_wp2_with (first|refine cQ rfl rfl rfl HC.o (by kernel_rfl) ?_|refine cQ rfl rfl rfl HC.o (by kernel_rfl) ?_)
   refine(HWd.o _).mono ?_
   rintro e w2 ⟨rfl,h2⟩
   go_wp2_with fail
   go_ret
   exact⟨rfl,H1.o.trans h2⟩
section
variable {P:Program}{ops:Array Oper}{md:Region.Mode}{C:World→Prop}
def Az (P:Program)(md:Region.Mode)(ops:Array Oper)(C:World→Prop)(n:Nat)(L:Array Bool→Act→Prop):Nat→Array Bool→Act→Prop
 | 0,d,a=>L d a
 |f+1,d,a=>Region.ready md ops d≠ []∧∀i∈Region.ready md ops d,i<n∧qOp P ops C i (Az P md ops C n L f (d.setIfInBounds i true)) a
theorem uk {n g:Nat}{L:Array Bool→Act→Prop}{Q:Exit→Act→World→Prop}(hL:∀d a w,C w→L d a→wpAny P md ops Q g d a w)(f:Nat):
 ∀(d:Array Bool) (a:Act) (w:World),C w→Az P md ops C n L f d a→wpAny P md ops Q (f+g) d a w:=by
 induction f with
 |zero=>intro d a w hw h;rw[Nat.zero_add];exact hL _ _ _ hw h
 |succ f ih =>
  intro d a w hw h
  rw[Nat.add_right_comm]
  exact⟨fun q=>absurd q h.1,fun i hi=>wpOp_of_qOp hw (fun a' w' hw' k=>ih _ a' w' hw' k) (h.2 i hi).2⟩
theorem py {n i:Nat}{o:Oper}{v:Value}{L:Array Bool→Act→Prop}(hi:ops[i]?=some o)(hsel:∀(j:Nat)(o:Oper) cs b,ops[j]?=some o→o.op≠ .select cs b)
 (hwait:∀d,HeadInv md ops n d→d.getD i true=false→∀t,n≤t→t∉Region.ready md ops d) (hin:i<n)
 (hend:∀d a,L d a→∀j∈Region.ready md ops d,n≤j) (f:Nat):
 ∀(d:Array Bool) (a:Act),HeadInv md ops n d →
  (∀j p,ops[j]?=some p→j≠i→d.getD j true=false→(∀e∈p.after,Region.binds md e=true→e.on≠i)→o.apart ops p=true) →
  i∈Region.ready md ops d→YieldsIn P ops C o v a →
  Az P md ops C n L f (d.setIfInBounds i true) (a.put o.dst v)→Az P md ops C n L (f+1) d a:=by
 induction f with
 |zero =>
  intro d a inv _ hr hy H
  refine⟨fun q=>(by rw[q] at hr;cases hr),fun j hj=>?_⟩
  have hlt:j<n:=Nat.lt_of_not_le fun q=>hwait d inv (mem_ready.1 hr).1 j q hj
  refine⟨hlt,?_⟩
  by_cases e:j=i
  ·subst e;exact hy.qOp hi H
  ·exact absurd (hend _ _ H j (ready_mono hj e)) (by omega)
 |succ f ih =>
  intro d a inv hfree hr hy H
  have hun:=(mem_ready.1 hr).1
  refine⟨fun q=>(by rw[q] at hr;cases hr),fun j hj=>?_⟩
  have hlt:j<n:=Nat.lt_of_not_le fun q=>hwait d inv hun j q hj
  refine⟨hlt,?_⟩
  by_cases e:j=i
  ·subst e;exact hy.qOp hi H
  ·obtain⟨hjun,p,hp,hall⟩:=mem_ready.1 hj
   have hno:∀e∈p.after,Region.binds md e=true→e.on≠i:=fun e he hb q=>by
    have:=hall e he hb
    rw[q,getD_both hun] at this
    cases this
   have k:=qOp_put hp (hfree j p hp e hjun hno) (fun cs b=>hsel i o cs b hi) (fun cs b=>hsel j p cs b hp) hy (H.2 j (ready_mono hj e)).2
   refine qOp_mono (fun a' z=>ih (d.setIfInBounds j true) a' (inv.set hj hlt) (fun x q hx hxi hun' hno'=>hfree x q hx hxi ?_ hno') (ready_mono hr (Ne.symm e)) z.1 ?_) k
   ·by_cases y:j=x
    ·subst y;exact hjun
    ·rw[getD_set_ne true y] at hun';exact hun'
   ·rw[Array.setIfInBounds_comm _ _ e];exact z.2
theorem Dc {n g k0:Nat}{Z:Act→Prop}(hsel:Region.noSelect ops=true)(hwait:∀i,k0≤i→i<n→∀d,HeadInv md ops n d→d.getD i true=false→∀t,n≤t→t∉Region.ready md ops d)(l:List Oper):
 ∀(k:Nat) (d:Array Bool) (a:Act),k0≤k→(∀j,j<l.length→l[j]?=ops[k+j]?)→k+l.length=n→HeadInv md ops n d →
 Region.lexHead md ops g l.length k d=true→wpQuiet P ops C Z l a →
 Az P md ops C n (fun d' a'=>Region.seqB md ops g n d'=true∧Z a') l.length d a:=by
 induction l with
 |nil =>
  intro k d a _ _ hk _ hB h
  have:k=n:=by simpa using hk
  subst this
  exact⟨by simpa [Region.lexHead] using hB,h⟩
 |cons o l ih =>
  intro k d a hk0 hl hk inv hB h
  have h0:ops[k]?=some o:=by simpa using (hl 0 (by simp)).symm
  simp only[List.length_cons,Region.lexHead,Bool.and_eq_true] at hB hk
  have hr:k∈Region.ready md ops d:=by simpa using hB.1.1
  have hst:qOp P ops C k (wpQuiet P ops C Z l) a:=by unfold qOp;simp only[h0];exact h
  obtain⟨v,hy,hK⟩:=yieldsIn_of_qOp h0 hst
  exact py h0 (Region.noSelect_spec hsel) (hwait k hk0 (by omega)) (by omega) (fun _ _ z=>seqB_ready z.1) l.length d a inv (Region.free_spec h0 hB.1.2) hr hy
   (ih (k+1) _ _ (by omega) (fun j hj=>by have:=hl (j+1) (by simp;omega);simpa [Nat.add_assoc,Nat.add_comm 1 j] using this) (by omega) (inv.set hr (by omega)) hB.2 hK)
end
theorem j9 {P:Program}{C:World→Prop}{id:Nat}{Q:Exit→Act→World→Prop}{a:Act}{w:World}{l:List Oper}(n:Nat)(hm:P.follows .mixedOrders=true)(hB:Region.lexTailB .any l.toArray n=true)
 (hC:C { w with drawn:=w.drawn+1 }) (h:wpQuiet P l.toArray C (fun a'=>∀w',C w'→wpList P l.toArray Q (l.drop n) a' w') (l.take n) a):(Code.region id l.toArray true).wp P Q a w:=by
 simp only[Region.lexTailB,Bool.and_eq_true,decide_eq_true_eq] at hB
 obtain⟨⟨⟨⟨hsel,hn⟩,hs⟩,hc⟩,hlex⟩:=hB
 have hn':n<l.length:=by simpa using hn
 have ht:(l.take n).length=n:=by simp;omega
 have hd:(l.drop n).length=l.toArray.size-n:=by simp
 have inv:HeadInv .any l.toArray n (Array.replicate l.toArray.size false):=
  ⟨by simp,fun j p _ q=>(by rw[getD_replicate_false] at q;cases q),fun t _ q=>getD_in (by simpa using q) (getD_replicate_false _ _)⟩
 have H:=Dc (md:=.any) (g:=l.toArray.size-n) (k0:=0) hsel (fun i _ hi d inv hun t ht=>tail_waits hs hc hn inv _ i rfl hi hun t ht) (l.take n) 0 _ a (by omega) (fun j hj=>by
  have:j<n:=by rw[ht] at hj;exact hj
  simp[this]) (by simpa using ht) inv (by rw[ht];exact hlex) h
 have K:=uk (Q:=Q) (g:=l.toArray.size-n) (fun d a' w' hw z=>by
  have:=wpAny_of_seq (md:=.any) (Q':=Q) (l.drop n) n d a' w' (fun j=>by simp[List.getElem?_drop]) (by rw[hd];exact z.1) (z.2 w' hw)
  rwa [hd] at this) _ _ _ _ hC H
 rw[ht,show n+(l.toArray.size-n)=l.toArray.size by omega] at K
 exact wp_region_any hm K
def ul (md:Region.Mode)(ops:Array Oper)(k n:Nat):Bool :=
 (List.range n).all fun i=>decide (i<k) ||(List.range (n+1)).any fun j=>decide (i<j) && Region.waitsFor md ops j i
theorem au {P:Program}{id:Nat}{Q:Exit→Act→World→Prop}{a:Act}{w:World}{l:List Oper}(n:Nat)(hm:P.follows .mixedOrders=true)(hB:Region.lexTailB .any l.toArray n=true)
 (h:wpQuiet P l.toArray (ae w) (fun a'=>∀w',ae w w'→wpList P l.toArray Q (l.drop n) a' w') (l.take n) a):(Code.region id l.toArray true).wp P Q a w :=
 j9 (C:=ae w) n hm hB ((ae.refl w).drewN 1) h
def kR (cp pg st ca bi:Int):Array Value:= #[.int .i64 st,.int .i64 (aD pg),.int .i64 pg,.int .i64 pg,.int .i64 pg,.int .i64 pg,.int .i64 pg,.int .i64 62,.int .i64 (cp * 5 * (ca+1)),.int .i64 (5 * (bi+1)),.int .i64 (pg * 32),.int .i64 (pg * 32)]
variable (wk cp pg st tr wt ck pr ca bi ba:Int)(w:World)
theorem Dd (R:bP wk cp pg st tr wt ck pr ca bi ba):Calls Tryz.prog 32 #[.agg #[.int .i64 wk,.int .i64 cp,.int .i64 pg,.int .i64 st,.int .i64 tr,.int .i64 wt,.int .i64 ck,.int .i64 pr,.int .i64 ca,.int .i64 bi,.int .i64 ba]] w (aF w (.agg (kR cp pg st ca bi))):=by
 have g1:=R.cp1
 have g2:=R.cp2
 have g3:=R.ca1
 have g4:=R.ca2
 have g5:=R.bi1
 have g6:=R.bi2
 have g7:=R.pg1
 have g8:=R.pg2
 have g9:=Gl (a:=cp * 5) (b:=ca+1) (A:=40) (B:=9) (by omega) (by omega) (by omega) (by omega)
 have q0:IntKind.i64.wrap (cp * 5)=cp * 5:=am (by omega) (by omega)
 have q1:IntKind.i64.wrap (ca+1)=ca+1:=am (by omega) (by omega)
 have q2:IntKind.i64.wrap (cp * 5 * (ca+1))=cp * 5 * (ca+1):=am (by omega) (by omega)
 have q3:IntKind.i64.wrap (bi+1)=bi+1:=am (by omega) (by omega)
 have q4:IntKind.i64.wrap (5 * (bi+1))=5 * (bi+1):=am (by omega) (by omega)
 have q5:IntKind.i64.wrap (pg * 32)=pg * 32:=am (by omega) (by omega)
 have HH:Hq (∀W,Calls Tryz.prog 71 #[.int .i64 5] W fun e w'=>e=.returned (.int .i64 62)∧w'=W):=fun W=>uj 5 (by omega) W
 have HK:=hQQ (fun W=>Gm wk cp pg st tr wt ck pr ca bi ba (by omega) g8 W)
 have HC0:=hQQ (aH w #[.int .i64 wk,.int .i64 cp,.int .i64 pg,.int .i64 st,.int .i64 tr,.int .i64 wt,.int .i64 ck,.int .i64 pr,.int .i64 ca,.int .i64 bi,.int .i64 ba] 23)
 have HC:Hq (((w.alloc (.cells #[.int .i64 wk,.int .i64 cp,.int .i64 pg,.int .i64 st,.int .i64 tr,.int .i64 wt,.int .i64 ck,.int .i64 pr,.int .i64 ca,.int .i64 bi,.int .i64 ba] 23)).alloc (.cells #[.int .i64 0,.int .i64 0,.int .i64 0,.int .i64 0,.int .i64 0,.int .i64 0,.int .i64 0,.int .i64 0,.int .i64 0,.int .i64 0,.int .i64 0,.int .i64 0] 73)).heap[w.heap.size]?=some (.cells #[.int .i64 wk,.int .i64 cp,.int .i64 pg,.int .i64 st,.int .i64 tr,.int .i64 wt,.int .i64 ck,.int .i64 pr,.int .i64 ca,.int .i64 bi,.int .i64 ba] 23 (0,0))):=((ae.refl _).alloc _).block HC0.o
 have HB:Hq (((w.alloc (.cells #[.int .i64 wk,.int .i64 cp,.int .i64 pg,.int .i64 st,.int .i64 tr,.int .i64 wt,.int .i64 ck,.int .i64 pr,.int .i64 ca,.int .i64 bi,.int .i64 ba] 23)).alloc (.cells #[.int .i64 0,.int .i64 0,.int .i64 0,.int .i64 0,.int .i64 0,.int .i64 0,.int .i64 0,.int .i64 0,.int .i64 0,.int .i64 0,.int .i64 0,.int .i64 0] 73)).heap[w.heap.size+1]?=some (.cells #[.int .i64 0,.int .i64 0,.int .i64 0,.int .i64 0,.int .i64 0,.int .i64 0,.int .i64 0,.int .i64 0,.int .i64 0,.int .i64 0,.int .i64 0,.int .i64 0] 73 (0,0))):=by
  have:=aH (w.alloc (.cells #[.int .i64 wk,.int .i64 cp,.int .i64 pg,.int .i64 st,.int .i64 tr,.int .i64 wt,.int .i64 ck,.int .i64 pr,.int .i64 ca,.int .i64 bi,.int .i64 ba] 23)) #[.int .i64 0,.int .i64 0,.int .i64 0,.int .i64 0,.int .i64 0,.int .i64 0,.int .i64 0,.int .i64 0,.int .i64 0,.int .i64 0,.int .i64 0,.int .i64 0] 73
  rwa [World.size_alloc] at this
 have HM:Hq (ae w ((w.alloc (.cells #[.int .i64 wk,.int .i64 cp,.int .i64 pg,.int .i64 st,.int .i64 tr,.int .i64 wt,.int .i64 ck,.int .i64 pr,.int .i64 ca,.int .i64 bi,.int .i64 ba] 23)).alloc (.cells #[.int .i64 0,.int .i64 0,.int .i64 0,.int .i64 0,.int .i64 0,.int .i64 0,.int .i64 0,.int .i64 0,.int .i64 0,.int .i64 0,.int .i64 0,.int .i64 0] 73))):=((ae.refl w).alloc _).alloc _
 clear R g9
 go_enter Tryz.func32,Tryz.ntmps32
 go_wp2_with fail
 generalize (w.alloc (.cells #[.int .i64 wk,.int .i64 cp,.int .i64 pg,.int .i64 st,.int .i64 tr,.int .i64 wt,.int .i64 ck,.int .i64 pr,.int .i64 ca,.int .i64 bi,.int .i64 ba] 23)).alloc (.cells #[.int .i64 0,.int .i64 0,.int .i64 0,.int .i64 0,.int .i64 0,.int .i64 0,.int .i64 0,.int .i64 0,.int .i64 0,.int .i64 0,.int .i64 0,.int .i64 0] 73)=W0 at *
 have hne:∃W,ae W0 W:=⟨W0,ae.refl _⟩
 refine au 33 (by kernel_rfl) (by kernel_rfl) ?_
 simp only[List.take_succ_cons,List.take_zero,List.drop_succ_cons,List.drop_zero]
 iterate 33
  first
  |(refine ai rfl 23 _ rfl _ rfl 23 _ _ _ (fun W hW=>hW.block HC.o) Tryz.underlying23 rfl (by kernel_rfl) ?_)
  |(with_reducible refine wpQuiet_step (fun K hK=>?_)
    go_simp
    first
    |(refine hK _ ?_;clear hK K)
    |(apply Exists.intro
      refine⟨fun W hW=>?_,hK _ ?_⟩
      first
      |(go_at_call 71;exact(HH.o W).mono (fun _ _ ⟨he,hw⟩=>⟨he,hw▸hW⟩))
      |(go_at_call 70;exact Calls.more hW (HK.o W))
      |(have x1:=aB HC.o hW (show(#[.int .i64 wk,.int .i64 cp,.int .i64 pg,.int .i64 st,.int .i64 tr,.int .i64 wt,.int .i64 ck,.int .i64 pr,.int .i64 ca,.int .i64 bi,.int .i64 ba]:Array Value)[1]?=some (.int .i64 cp) from rfl);have x2:=aB HC.o hW (show(#[.int .i64 wk,.int .i64 cp,.int .i64 pg,.int .i64 st,.int .i64 tr,.int .i64 wt,.int .i64 ck,.int .i64 pr,.int .i64 ca,.int .i64 bi,.int .i64 ba]:Array Value)[2]?=some (.int .i64 pg) from rfl);have x3:=aB HC.o hW (show(#[.int .i64 wk,.int .i64 cp,.int .i64 pg,.int .i64 st,.int .i64 tr,.int .i64 wt,.int .i64 ck,.int .i64 pr,.int .i64 ca,.int .i64 bi,.int .i64 ba]:Array Value)[3]?=some (.int .i64 st) from rfl);have x8:=aB HC.o hW (show(#[.int .i64 wk,.int .i64 cp,.int .i64 pg,.int .i64 st,.int .i64 tr,.int .i64 wt,.int .i64 ck,.int .i64 pr,.int .i64 ca,.int .i64 bi,.int .i64 ba]:Array Value)[8]?=some (.int .i64 ca) from rfl);have x9:=aB HC.o hW (show(#[.int .i64 wk,.int .i64 cp,.int .i64 pg,.int .i64 st,.int .i64 tr,.int .i64 wt,.int .i64 ck,.int .i64 pr,.int .i64 ca,.int .i64 bi,.int .i64 ba]:Array Value)[9]?=some (.int .i64 bi) from rfl); (try go_simp);try rfl)
      clear hK K))
 refine wpQuiet_nil ?_
 intro W hW
 have HX:=hQQ hW
 clear hW
 refine wpList_store_row rfl 73 _ _ rfl _ _ rfl rfl 73 _ (HX.o.block HB.o) (by kernel_rfl) rfl (by simp[Value.oneCell']) ?_
 have HR:=hQQ (setRow_heap W _ _ (kR cp pg st ca bi) _ _ (HX.o.block HB.o))
 have HY:Hq (ae w (W.setRow (w.heap.size+1) (kR cp pg st ca bi))):=(HM.o.trans HX.o).setRow _ _ (by omega)
 go_wp2_with fail
 refine bodyPost_ret (v:=.agg (kR cp pg st ca bi)) (results_cell_row Tryz.results32 _ _ _ 73 _ (0,0) _ rfl HR.o Tryz.underlying73 rfl (by kernel_rfl)) rfl ⟨rfl,?_⟩
 exact HY.o
theorem zq0 :
 Calls Tryz.prog 31 #[.agg #[.int .i64 wk,.int .i64 cp,.int .i64 pg,.int .i64 st,.int .i64 tr,.int .i64 wt,.int .i64 ck,.int .i64 pr,.int .i64 ca,.int .i64 bi,.int .i64 ba]] w (aF w (.int .i64 (if sB wk cp pg st tr wt ck pr ca bi ba=true then 0 else 2))):=by
 go_enter Tryz.func31,Tryz.ntmps31
 go_wp2_with (go_at_call 69;refine(sC _ _ _ _).mono ?_;rintro e w1 ⟨rfl,rfl⟩)
 all_goals go_ret
 all_goals exact⟨by simp_all [sB],(ae.refl _).alloc _⟩
def aI (cp pg st ca bi:Int):Nat→Int
 | 0=>3
 | 1=>aN st
 | 2=>aN st+aD pg
 | 3=>aN st+aD pg+1 * pg
 | 4=>aN st+aD pg+2 * pg
 | 5=>aN st+aD pg+3 * pg
 | 6=>aN st+aD pg+4 * pg
 | 7=>aO st pg
 | 8=>cD st pg
 | 9=>dY cp pg st ca
 | 10=>cF cp pg st ca bi
 | 11=>bH cp pg st ca bi
 | _=>cW cp pg st ca bi
def jX (cp pg st ca bi:Int)(k:Nat):Int:=if k=11 then cF cp pg st ca bi+pg * 32 else aI cp pg st ca bi k
def un (cp pg st ca bi:Int):Nat→Int
 | 0=>st
 | 1=>aD pg
 | 2=>pg
 | 3=>pg
 | 4=>pg
 | 5=>pg
 | 6=>pg
 | 7=>62
 | 8=>cp * 5 * (ca+1)
 | 9=>5 * (bi+1)
 | _=>pg * 32
def sD (S:Nat→Int)(k p:Nat):Int:=if p<k then S p else 0
theorem wY {k:Nat}(h:k<12):k=0∨k=1∨k=2∨k=3∨k=4∨k=5∨k=6∨k=7∨k=8∨k=9∨k=10∨k=11:=by omega
theorem De {k:Nat}(h:k≤12):k=0∨k=1∨k=2∨k=3∨k=4∨k=5∨k=6∨k=7∨k=8∨k=9∨k=10∨k=11∨k=12:=by omega
theorem wZ {k:Nat}(h:k<12):(kR cp pg st ca bi)[k]?=some (.int .i64 (un cp pg st ca bi k)):=by
 rcases wY h with rfl|rfl|rfl|rfl|rfl|rfl|rfl|rfl|rfl|rfl|rfl|rfl<;>rfl
theorem Kx (a b:Int):a * 5 * b=5 * a * b:=by rw[Int.mul_comm a 5]
theorem qJ {k:Nat}(h:k<11):aI cp pg st ca bi k=jX cp pg st ca bi k:=(if_neg (by omega)).symm
theorem AA {k:Nat}(h:k<12):aI cp pg st ca bi k+un cp pg st ca bi k=jX cp pg st ca bi (k+1):=by
 rcases wY h with rfl|rfl|rfl|rfl|rfl|rfl|rfl|rfl|rfl|rfl|rfl|rfl <;>
  simp only[aI,un,jX,aN,aO,cD,dY,cF,cW,Kx]<;>(try simp)<;>(try omega)
theorem sE:(jX cp pg st ca bi 11+127) / 128 * 128=aI cp pg st ca bi 11:=by
 simp only[jX,aI,bH]
 rw[Int.mul_comm pg 32];rfl
theorem Gq {S:Nat→Int}{k:Nat}(h:k≤12):(aQ wk cp pg st tr wt ck pr ca bi ba (sD S k)).setIfInBounds (11+k) (.int .i64 (S k))=aQ wk cp pg st tr wt ck pr ca bi ba (sD S (k+1)):=by
 rcases De h with rfl|rfl|rfl|rfl|rfl|rfl|rfl|rfl|rfl|rfl|rfl|rfl|rfl<;>rfl
theorem Df (S:Nat→Int): #[.int .i64 wk,.int .i64 cp,.int .i64 pg,.int .i64 st,.int .i64 tr,.int .i64 wt,.int .i64 ck,.int .i64 pr,.int .i64 ca,.int .i64 bi,.int .i64 ba,.int .i64 0,.int .i64 0,.int .i64 0,.int .i64 0,.int .i64 0,.int .i64 0,.int .i64 0,.int .i64 0,.int .i64 0,.int .i64 0,.int .i64 0,.int .i64 0,.int .i64 0]=aQ wk cp pg st tr wt ck pr ca bi ba (sD S 0):=rfl
section
variable {wk cp pg st tr wt ck pr ca bi ba}
theorem mw (R:bP wk cp pg st tr wt ck pr ca bi ba){k:Nat}(h:k≤12):0≤aI cp pg st ca bi k∧aI cp pg st ca bi k≤18432:=by
 have b1:=lO R;have b2:=jz R;have b3:=lP R;have b4:=kQ R;have b5:=ug R;have b6:=jV R;have b7:=eS R;have b8:=lQ R
 have b9:=R.pg1;have b10:=R.pg2
 have hh:aO st pg=aN st+aD pg+5 * pg:=rfl
 rcases De h with rfl|rfl|rfl|rfl|rfl|rfl|rfl|rfl|rfl|rfl|rfl|rfl|rfl<;>simp only[aI]<;>omega
theorem Dg (R:bP wk cp pg st tr wt ck pr ca bi ba){k:Nat}(h:k≤12):0≤jX cp pg st ca bi k∧jX cp pg st ca bi k≤18432:=by
 unfold jX
 have b6:=jV R;have b9:=R.pg1;have b10:=R.pg2
 split
 ·omega
 ·exact mw R h
theorem fj (R:bP wk cp pg st tr wt ck pr ca bi ba):jW cp pg st ca bi (aI cp pg st ca bi):= {
 lo:=(mw R (by omega)).1
 up:=by
  intro p hp
  have b1:=lO R;have b2:=jz R;have b3:=lP R;have b4:=kQ R;have b5:=ug R;have b6:=jV R;have b7:=eS R;have b8:=lQ R
  have b9:=R.pg1;have b10:=R.pg2
  have b11:=j6 R;have b12:=R.bi1
  have hh:aO st pg=aN st+aD pg+5 * pg:=rfl
  have hc:cD st pg=aO st pg+62:=rfl
  have hb:dY cp pg st ca=cD st pg+5 * cp * (ca+1):=rfl
  have hl:cF cp pg st ca bi=dY cp pg st ca+5 * (bi+1):=rfl
  have hw:cW cp pg st ca bi=bH cp pg st ca bi+32 * pg:=rfl
  rcases wY hp with rfl|rfl|rfl|rfl|rfl|rfl|rfl|rfl|rfl|rfl|rfl|rfl<;>simp only[aI]<;>omega
 hi:=by have:=(mw R (k:=12) (by omega)).2;omega
 cp0:=by have:=R.cp1;omega
 cp1:=R.cp2
 pg0:=by have:=R.pg1;omega
 pg1:=R.pg2
 st0:=by have:=R.st1;omega
 st1:=R.st2
 ca0:=R.ca1
 ca1:=R.ca2
 bi0:=R.bi1
 bi1:=R.bi2
 empty:=fun q=>by have:=R.st1;omega }
end
variable (wk cp pg st tr wt ck pr ca bi ba:Int)(w:World)
theorem sF {P:Program}{fn:Func}{p u:Tmp}{ty:TypeId}(h:fn.results= #[.cell p ty,.tmp u])(tmps:Array Value)(w:World)(g:Nat)(t:TypeId)(cs:Array Value)(fr:Nat×Nat)(d:TypeDesc)
 (hp:tmps.getD p undef=.pointer (some ⟨g,0,none⟩)) (hg:w.heap[g]?=some (.cells cs t fr))
 (hu:P.underlying ty=some d) (hd:(match d with| .struct _| .array _ _=>true|_=>false)=true) (hi:(P.info? ty).map (·.size)=some cs.size):
 (results fn tmps).run P w=.ok (.tuple #[.agg cs,tmps.getD u undef]) w:=by
 rw[results_cell_tmp h,hp]
 simp[asAddr,run_loadVar_row w g t ty cs fr d hg hu hd hi]
theorem AF (R:bP wk cp pg st tr wt ck pr ca bi ba):sB wk cp pg st tr wt ck pr ca bi ba=true:=by
 obtain⟨h0,h1,h2,h3,h4,h5,h6,h7,h8,h9,h10,h11,h12,h13,h14,h15,h16,h17,h18,h19,h20,h21⟩:=R
 simp[sB,btw, *]
theorem Dh (R:bP wk cp pg st tr wt ck pr ca bi ba):Calls Tryz.prog 9 #[.agg #[.int .i64 wk,.int .i64 cp,.int .i64 pg,.int .i64 st,.int .i64 tr,.int .i64 wt,.int .i64 ck,.int .i64 pr,.int .i64 ca,.int .i64 bi,.int .i64 ba]] w (aF w (.tuple #[.agg (aQ wk cp pg st tr wt ck pr ca bi ba (aI cp pg st ca bi)),.int .i64 0])):=by
 have HC0:=hQQ (aH w #[.int .i64 wk,.int .i64 cp,.int .i64 pg,.int .i64 st,.int .i64 tr,.int .i64 wt,.int .i64 ck,.int .i64 pr,.int .i64 ca,.int .i64 bi,.int .i64 ba] 23)
 have HC:Hq (((w.alloc (.cells #[.int .i64 wk,.int .i64 cp,.int .i64 pg,.int .i64 st,.int .i64 tr,.int .i64 wt,.int .i64 ck,.int .i64 pr,.int .i64 ca,.int .i64 bi,.int .i64 ba] 23)).alloc (.cells #[.int .i64 0,.int .i64 0,.int .i64 0,.int .i64 0,.int .i64 0,.int .i64 0,.int .i64 0,.int .i64 0,.int .i64 0,.int .i64 0,.int .i64 0,.int .i64 0,.int .i64 0,.int .i64 0,.int .i64 0,.int .i64 0,.int .i64 0,.int .i64 0,.int .i64 0,.int .i64 0,.int .i64 0,.int .i64 0,.int .i64 0,.int .i64 0] 33)).heap[w.heap.size]?=some (.cells #[.int .i64 wk,.int .i64 cp,.int .i64 pg,.int .i64 st,.int .i64 tr,.int .i64 wt,.int .i64 ck,.int .i64 pr,.int .i64 ca,.int .i64 bi,.int .i64 ba] 23 (0,0))):=((ae.refl _).alloc _).block HC0.o
 have HB:Hq (((w.alloc (.cells #[.int .i64 wk,.int .i64 cp,.int .i64 pg,.int .i64 st,.int .i64 tr,.int .i64 wt,.int .i64 ck,.int .i64 pr,.int .i64 ca,.int .i64 bi,.int .i64 ba] 23)).alloc (.cells #[.int .i64 0,.int .i64 0,.int .i64 0,.int .i64 0,.int .i64 0,.int .i64 0,.int .i64 0,.int .i64 0,.int .i64 0,.int .i64 0,.int .i64 0,.int .i64 0,.int .i64 0,.int .i64 0,.int .i64 0,.int .i64 0,.int .i64 0,.int .i64 0,.int .i64 0,.int .i64 0,.int .i64 0,.int .i64 0,.int .i64 0,.int .i64 0] 33)).heap[w.heap.size+1]?=some (.cells #[.int .i64 0,.int .i64 0,.int .i64 0,.int .i64 0,.int .i64 0,.int .i64 0,.int .i64 0,.int .i64 0,.int .i64 0,.int .i64 0,.int .i64 0,.int .i64 0,.int .i64 0,.int .i64 0,.int .i64 0,.int .i64 0,.int .i64 0,.int .i64 0,.int .i64 0,.int .i64 0,.int .i64 0,.int .i64 0,.int .i64 0,.int .i64 0] 33 (0,0))):=by
  have:=aH (w.alloc (.cells #[.int .i64 wk,.int .i64 cp,.int .i64 pg,.int .i64 st,.int .i64 tr,.int .i64 wt,.int .i64 ck,.int .i64 pr,.int .i64 ca,.int .i64 bi,.int .i64 ba] 23)) #[.int .i64 0,.int .i64 0,.int .i64 0,.int .i64 0,.int .i64 0,.int .i64 0,.int .i64 0,.int .i64 0,.int .i64 0,.int .i64 0,.int .i64 0,.int .i64 0,.int .i64 0,.int .i64 0,.int .i64 0,.int .i64 0,.int .i64 0,.int .i64 0,.int .i64 0,.int .i64 0,.int .i64 0,.int .i64 0,.int .i64 0,.int .i64 0] 33
  rwa [World.size_alloc] at this
 have HM:Hq (ae w ((w.alloc (.cells #[.int .i64 wk,.int .i64 cp,.int .i64 pg,.int .i64 st,.int .i64 tr,.int .i64 wt,.int .i64 ck,.int .i64 pr,.int .i64 ca,.int .i64 bi,.int .i64 ba] 23)).alloc (.cells #[.int .i64 0,.int .i64 0,.int .i64 0,.int .i64 0,.int .i64 0,.int .i64 0,.int .i64 0,.int .i64 0,.int .i64 0,.int .i64 0,.int .i64 0,.int .i64 0,.int .i64 0,.int .i64 0,.int .i64 0,.int .i64 0,.int .i64 0,.int .i64 0,.int .i64 0,.int .i64 0,.int .i64 0,.int .i64 0,.int .i64 0,.int .i64 0] 33))):=((ae.refl w).alloc _).alloc _
 have HK:=hQQ (fun W=>zq0 wk cp pg st tr wt ck pr ca bi ba W)
 rw[if_pos (AF _ _ _ _ _ _ _ _ _ _ _ R)] at HK
 have HL:=hQQ (fun W=>Dd wk cp pg st tr wt ck pr ca bi ba W R)
 have HRR:=hQQ R
 have HS:=hQQ (Df wk cp pg st tr wt ck pr ca bi ba (aI cp pg st ca bi))
 have Hlen:Hq (((w.alloc (.cells #[.int .i64 wk,.int .i64 cp,.int .i64 pg,.int .i64 st,.int .i64 tr,.int .i64 wt,.int .i64 ck,.int .i64 pr,.int .i64 ca,.int .i64 bi,.int .i64 ba] 23)).alloc (.cells #[.int .i64 0,.int .i64 0,.int .i64 0,.int .i64 0,.int .i64 0,.int .i64 0,.int .i64 0,.int .i64 0,.int .i64 0,.int .i64 0,.int .i64 0,.int .i64 0,.int .i64 0,.int .i64 0,.int .i64 0,.int .i64 0,.int .i64 0,.int .i64 0,.int .i64 0,.int .i64 0,.int .i64 0,.int .i64 0,.int .i64 0,.int .i64 0] 33)).heap.size=w.heap.size+1+1):=by rw[World.size_alloc,World.size_alloc];exact rfl
 clear R
 go_enter Tryz.func9,Tryz.ntmps9
 go_wp2_with (refine uh rfl rfl rfl (HC.o) (by kernel_rfl) ?_)
 refine(HK.o _).mono ?_
 rintro e w1 ⟨rfl,h1⟩
 have H1:=hQQ h1
 have HC1:=hQQ (h1.block HC.o)
 have HB1:=hQQ (h1.block HB.o)
 have HM1:=hQQ (HM.o.trans h1)
 have hs1:=h1.size
 have hs1:w.heap.size+2≤w1.heap.size:=by have:=Hlen.o;omega
 have Hs1:=hQQ hs1
 clear h1
 have HC1b:Hq (((w1.alloc (.cells #[.int .i64 0,.int .i64 0,.int .i64 0,.int .i64 0,.int .i64 0,.int .i64 0,.int .i64 0,.int .i64 0,.int .i64 0,.int .i64 0,.int .i64 0,.int .i64 0,.int .i64 0,.int .i64 0,.int .i64 0,.int .i64 0,.int .i64 0,.int .i64 0,.int .i64 0,.int .i64 0,.int .i64 0,.int .i64 0,.int .i64 0,.int .i64 0] 33)).setRow w1.heap.size #[.int .i64 wk,.int .i64 cp,.int .i64 pg,.int .i64 st,.int .i64 tr,.int .i64 wt,.int .i64 ck,.int .i64 pr,.int .i64 ca,.int .i64 bi,.int .i64 ba,.int .i64 0,.int .i64 0,.int .i64 0,.int .i64 0,.int .i64 0,.int .i64 0,.int .i64 0,.int .i64 0,.int .i64 0,.int .i64 0,.int .i64 0,.int .i64 0,.int .i64 0]).heap[w.heap.size]?=some (.cells #[.int .i64 wk,.int .i64 cp,.int .i64 pg,.int .i64 st,.int .i64 tr,.int .i64 wt,.int .i64 ck,.int .i64 pr,.int .i64 ca,.int .i64 bi,.int .i64 ba] 23 (0,0))):=by
  rw[setRow_other _ _ _ _ (by omega)];exact((ae.refl _).alloc _).block HC1.o
 clear hs1
 go_wp2_with (first
  |(refine uh rfl rfl rfl (HC1.o) (by kernel_rfl) ?_)
  |(refine wpList_store_row rfl 33 _ _ rfl _ _ rfl rfl 33 _ (aH w1 #[.int .i64 0,.int .i64 0,.int .i64 0,.int .i64 0,.int .i64 0,.int .i64 0,.int .i64 0,.int .i64 0,.int .i64 0,.int .i64 0,.int .i64 0,.int .i64 0,.int .i64 0,.int .i64 0,.int .i64 0,.int .i64 0,.int .i64 0,.int .i64 0,.int .i64 0,.int .i64 0,.int .i64 0,.int .i64 0,.int .i64 0,.int .i64 0] 33) (by kernel_rfl) rfl (by simp[Value.oneCell']) ?_)
  |(refine uh rfl rfl rfl (HC1b.o) (by kernel_rfl) ?_))
 have HMA:Hq (ae w ((w1.alloc (.cells #[.int .i64 0,.int .i64 0,.int .i64 0,.int .i64 0,.int .i64 0,.int .i64 0,.int .i64 0,.int .i64 0,.int .i64 0,.int .i64 0,.int .i64 0,.int .i64 0,.int .i64 0,.int .i64 0,.int .i64 0,.int .i64 0,.int .i64 0,.int .i64 0,.int .i64 0,.int .i64 0,.int .i64 0,.int .i64 0,.int .i64 0,.int .i64 0] 33)).setRow w1.heap.size #[.int .i64 wk,.int .i64 cp,.int .i64 pg,.int .i64 st,.int .i64 tr,.int .i64 wt,.int .i64 ck,.int .i64 pr,.int .i64 ca,.int .i64 bi,.int .i64 ba,.int .i64 0,.int .i64 0,.int .i64 0,.int .i64 0,.int .i64 0,.int .i64 0,.int .i64 0,.int .i64 0,.int .i64 0,.int .i64 0,.int .i64 0,.int .i64 0,.int .i64 0])):=(HM1.o.alloc _).setRow _ _ (by have:=Hs1.o;omega)
 have HBA:Hq (((w1.alloc (.cells #[.int .i64 0,.int .i64 0,.int .i64 0,.int .i64 0,.int .i64 0,.int .i64 0,.int .i64 0,.int .i64 0,.int .i64 0,.int .i64 0,.int .i64 0,.int .i64 0,.int .i64 0,.int .i64 0,.int .i64 0,.int .i64 0,.int .i64 0,.int .i64 0,.int .i64 0,.int .i64 0,.int .i64 0,.int .i64 0,.int .i64 0,.int .i64 0] 33)).setRow w1.heap.size #[.int .i64 wk,.int .i64 cp,.int .i64 pg,.int .i64 st,.int .i64 tr,.int .i64 wt,.int .i64 ck,.int .i64 pr,.int .i64 ca,.int .i64 bi,.int .i64 ba,.int .i64 0,.int .i64 0,.int .i64 0,.int .i64 0,.int .i64 0,.int .i64 0,.int .i64 0,.int .i64 0,.int .i64 0,.int .i64 0,.int .i64 0,.int .i64 0,.int .i64 0]).heap[w1.heap.size]?=some (.cells (aQ wk cp pg st tr wt ck pr ca bi ba (sD (aI cp pg st ca bi) 0)) 33 (0,0))):=setRow_heap _ _ _ _ _ _ (aH w1 #[.int .i64 0,.int .i64 0,.int .i64 0,.int .i64 0,.int .i64 0,.int .i64 0,.int .i64 0,.int .i64 0,.int .i64 0,.int .i64 0,.int .i64 0,.int .i64 0,.int .i64 0,.int .i64 0,.int .i64 0,.int .i64 0,.int .i64 0,.int .i64 0,.int .i64 0,.int .i64 0,.int .i64 0,.int .i64 0,.int .i64 0,.int .i64 0] 33)
 have HRA:Hq (((w1.alloc (.cells #[.int .i64 0,.int .i64 0,.int .i64 0,.int .i64 0,.int .i64 0,.int .i64 0,.int .i64 0,.int .i64 0,.int .i64 0,.int .i64 0,.int .i64 0,.int .i64 0,.int .i64 0,.int .i64 0,.int .i64 0,.int .i64 0,.int .i64 0,.int .i64 0,.int .i64 0,.int .i64 0,.int .i64 0,.int .i64 0,.int .i64 0,.int .i64 0] 33)).setRow w1.heap.size #[.int .i64 wk,.int .i64 cp,.int .i64 pg,.int .i64 st,.int .i64 tr,.int .i64 wt,.int .i64 ck,.int .i64 pr,.int .i64 ca,.int .i64 bi,.int .i64 ba,.int .i64 0,.int .i64 0,.int .i64 0,.int .i64 0,.int .i64 0,.int .i64 0,.int .i64 0,.int .i64 0,.int .i64 0,.int .i64 0,.int .i64 0,.int .i64 0,.int .i64 0]).heap[w.heap.size+1]?=some (.cells #[.int .i64 0,.int .i64 0,.int .i64 0,.int .i64 0,.int .i64 0,.int .i64 0,.int .i64 0,.int .i64 0,.int .i64 0,.int .i64 0,.int .i64 0,.int .i64 0,.int .i64 0,.int .i64 0,.int .i64 0,.int .i64 0,.int .i64 0,.int .i64 0,.int .i64 0,.int .i64 0,.int .i64 0,.int .i64 0,.int .i64 0,.int .i64 0] 33 (0,0))):=by
  rw[setRow_other _ _ _ _ (by have:=Hs1.o;omega)];exact((ae.refl _).alloc _).block HB1.o
 refine(HL.o _).mono ?_
 rintro e w2 ⟨rfl,h2⟩
 have HM2:=hQQ (HMA.o.trans h2)
 have HB2:=hQQ (h2.block HBA.o)
 have HR2:=hQQ (h2.block HRA.o)
 clear h2
 clear HC0 HC HB HM HK HL HS Hlen H1 HC1 HB1 HC1b HMA HBA HRA HM1
 go_wp2_with fail
 go_loopw [6,7,8,19] (fun nx _ _ i wr=>∃k:Nat,k≤12∧i=.int .i64 k∧nx=.int .i64 (jX cp pg st ca bi k)∧wr.heap[w1.heap.size]?=some (.cells (aQ wk cp pg st tr wt ck pr ca bi ba (sD (aI cp pg st ca bi) k)) 33 (0,0))∧wr.heap[w.heap.size+1]?=some (.cells #[.int .i64 0,.int .i64 0,.int .i64 0,.int .i64 0,.int .i64 0,.int .i64 0,.int .i64 0,.int .i64 0,.int .i64 0,.int .i64 0,.int .i64 0,.int .i64 0,.int .i64 0,.int .i64 0,.int .i64 0,.int .i64 0,.int .i64 0,.int .i64 0,.int .i64 0,.int .i64 0,.int .i64 0,.int .i64 0,.int .i64 0,.int .i64 0] 33 (0,0))∧ae w wr) (fun _ _ _ i _=>12-(intOf i).toNat)
 case atStart=>exact⟨0,by omega,rfl,rfl,HB2.o,HR2.o,HM2.o⟩
 case round =>
  clear HB2 HR2 HM2
  obtain⟨k,hk,rfl,rfl,hb,hr,hm⟩:=hrel
  have nb:=Dg HRR.o hk
  have sb:=mw HRR.o hk
  have xc:wr.cell? ⟨w1.heap.size,11+k,none⟩=some (.int .i64 (sD (aI cp pg st ca bi) k k)):=by rw[cell_of_row _ _ _ _ _ _ hb];exact jA wk cp pg st tr wt ck pr ca bi ba _ k hk
  have xf:wr.frozen? ⟨w1.heap.size,11+k,none⟩=false:=by simp[World.frozen?,hb]
  have HE:=hQQ (setCell_eq_setRow wr w1.heap.size (11+k) _ 33 (0,0) (.int .i64 (aI cp pg st ca bi k)) hb)
  have HN:=hQQ (setRow_heap wr w1.heap.size _ ((aQ wk cp pg st tr wt ck pr ca bi ba (sD (aI cp pg st ca bi) k)).setIfInBounds (11+k) (.int .i64 (aI cp pg st ca bi k))) 33 (0,0) hb)
  rw[Gq wk cp pg st tr wt ck pr ca bi ba hk] at HE HN
  have HO:Hq ((wr.setRow w1.heap.size (aQ wk cp pg st tr wt ck pr ca bi ba (sD (aI cp pg st ca bi) (k+1)))).heap[w.heap.size+1]?=some (.cells #[.int .i64 0,.int .i64 0,.int .i64 0,.int .i64 0,.int .i64 0,.int .i64 0,.int .i64 0,.int .i64 0,.int .i64 0,.int .i64 0,.int .i64 0,.int .i64 0,.int .i64 0,.int .i64 0,.int .i64 0,.int .i64 0,.int .i64 0,.int .i64 0,.int .i64 0,.int .i64 0,.int .i64 0,.int .i64 0,.int .i64 0,.int .i64 0] 33 (0,0))):=by
   rw[setRow_other _ _ _ _ (by have:=Hs1.o;omega)];exact hr
  have HP:Hq (ae w (wr.setRow w1.heap.size (aQ wk cp pg st tr wt ck pr ca bi ba (sD (aI cp pg st ca bi) (k+1))))):=hm.setRow _ _ (by have:=Hs1.o;omega)
  clear hb hr hm
  by_cases hlt:k<12
  ·have d0:decide ((k:Int)<12)=true:=by simp;omega
   have hl:∀W,(Instr.index 73 (.agg (kR cp pg st ca bi)) (.int .i64 k)).run Tryz.prog W=.ok (.int .i64 (un cp pg st ca bi k)) W:=fun W=>qI W Tryz.underlying73 Tryz.underlying3 (by kernel_rfl) hlt (wZ cp pg st ca bi hlt)
   have HQ:=hQQ (AA cp pg st ca bi hlt)
   have nb2:=Dg HRR.o (show k+1≤12 by omega)
   have q0:IntKind.i64.wrap (aI cp pg st ca bi k+un cp pg st ca bi k)=jX cp pg st ca bi (k+1):=by rw[HQ.o];exact am (by omega) (by omega)
   have r0:(0:Int)≤(k:Int):=by omega
   have r1:(k:Int)<13:=by omega
   by_cases h11:k=11
   ·have d1:decide ((k:Int)=11)=true:=by simp;omega
    have HU:Hq ((jX cp pg st ca bi k+127) / 128 * 128=aI cp pg st ca bi k):=by subst h11;exact sE cp pg st ca bi
    have d2:((k:Int)==11)=true:=by simp;omega
    have d3:decide (k=11)=true:=by simp;omega
    clear h11
    go_wp2_with fail
    refine(C8 _ nb.1 (by omega) _).mono ?_
    rw[HU.o]
    rintro e w3 ⟨rfl,rfl⟩
    go_wp2_with fail
    rw[HE.o]
    go_roundw
    case rel=>exact⟨k+1,by omega,by go_num,rfl,HN.o,HO.o,HP.o⟩
    case measure=>simp[intOf];omega
   ·have d1:decide ((k:Int)=11)=false:=by simp;omega
    rw[←qJ cp pg st ca bi (by omega:k<11)]
    go_wp2_with fail
    rw[HE.o]
    go_roundw
    case rel=>exact⟨k+1,by omega,by go_num,rfl,HN.o,HO.o,HP.o⟩
    case measure=>simp[intOf];omega
  ·have he:k=12:=by omega
   subst he
   rw[show jX cp pg st ca bi 12=aI cp pg st ca bi 12 from rfl]
   go_wp2_with (first
    |(refine cQ rfl rfl rfl (HN.o) (by kernel_rfl) ?_)
    |(rw[HE.o];refine cQ rfl rfl rfl (HN.o) (by kernel_rfl) ?_)
    |(refine wpList_store_row rfl 33 _ _ rfl _ _ rfl rfl 33 _ HO.o (by kernel_rfl) rfl (lS ..) ?_))
   have HF:=hQQ (setRow_heap _ (w.heap.size+1) _ (aQ wk cp pg st tr wt ck pr ca bi ba (aI cp pg st ca bi)) _ _ HO.o)
   have HG:Hq (ae w ((wr.setRow w1.heap.size (aQ wk cp pg st tr wt ck pr ca bi ba (aI cp pg st ca bi))).setRow (w.heap.size+1) (aQ wk cp pg st tr wt ck pr ca bi ba (aI cp pg st ca bi)))):=HP.o.setRow _ _ (by omega)
   refine bodyPost_ret (v:=.tuple #[.agg (aQ wk cp pg st tr wt ck pr ca bi ba (aI cp pg st ca bi)),.int .i64 0]) (sF Tryz.results9 _ _ _ 33 _ (0,0) _ rfl HF.o Tryz.underlying33 rfl (by kernel_rfl)) rfl ⟨rfl,HG.o⟩
section
variable {wk cp pg st tr wt ck pr ca bi ba:Int}
theorem IP (R:bP wk cp pg st tr wt ck pr ca bi ba)(k:Int):fE ((aI cp pg st ca bi) 1) ((aI cp pg st ca bi) 2) k=cI pg st k:=by
 show(if 0≤k∧k<aN st+aD pg-aN st then _ else _)=_
 unfold cI
 rw[show aN st+aD pg-aN st=aD pg by omega]
 rfl
theorem Di (R:bP wk cp pg st tr wt ck pr ca bi ba)(p:Int):fE ((aI cp pg st ca bi) 2) ((aI cp pg st ca bi) 3) p=cN pg st 0 p:=by
 simp only[fE,aI,cN,aO]
 by_cases h:0≤p∧p<pg
 ·rw[if_pos (by omega),if_pos h]<;>(try omega)
 ·rw[if_neg (by omega),if_neg h]
theorem Dj (R:bP wk cp pg st tr wt ck pr ca bi ba)(p:Int):fE ((aI cp pg st ca bi) 3) ((aI cp pg st ca bi) 4) p=cN pg st 1 p:=by
 simp only[fE,aI,cN,aO]
 by_cases h:0≤p∧p<pg
 ·rw[if_pos (by omega),if_pos h]<;>(try omega)
 ·rw[if_neg (by omega),if_neg h]
theorem Dk (R:bP wk cp pg st tr wt ck pr ca bi ba)(p:Int):fE ((aI cp pg st ca bi) 4) ((aI cp pg st ca bi) 5) p=cN pg st 2 p:=by
 simp only[fE,aI,cN,aO]
 by_cases h:0≤p∧p<pg
 ·rw[if_pos (by omega),if_pos h]<;>(try omega)
 ·rw[if_neg (by omega),if_neg h]
theorem Gr (R:bP wk cp pg st tr wt ck pr ca bi ba)(a:Int):nD (aI cp pg st ca bi) a=ie cp pg st ca bi a:=by
 unfold nD ie
 have b:=eS R
 by_cases h:bH cp pg st ca bi≤a∧a<cW cp pg st ca bi
 ·rw[if_pos h,if_pos (show(aI cp pg st ca bi) 11≤a∧a<(aI cp pg st ca bi) 12 from h)]
  have:cW cp pg st ca bi=bH cp pg st ca bi+32 * pg:=rfl
  simp only[fE,aI]
  rw[if_pos (by omega)];omega
 ·rw[if_neg h,if_neg (show ¬((aI cp pg st ca bi) 11≤a∧a<(aI cp pg st ca bi) 12) from h)]
theorem Gs (R:bP wk cp pg st tr wt ck pr ca bi ba)(p:Int):px pg (aI cp pg st ca bi) p=j7 cp pg st ca bi p:=by
 unfold px j7
 by_cases h:0≤p∧p<pg
 ·rw[if_pos h,if_pos h]
  simp only[fE,aI,cW]
  rw[if_pos (by omega)];omega
 ·rw[if_neg h,if_neg h]
end
variable {wk cp pg st tr wt ck pr ca bi ba:Int}(R:bP wk cp pg st tr wt ck pr ca bi ba)(w:World)
theorem IQ (R:bP wk cp pg st tr wt ck pr ca bi ba)(w:World)(k:Int):Calls Tryz.prog 142 #[.agg (aQ wk cp pg st tr wt ck pr ca bi ba (aI cp pg st ca bi)),.int .i64 k] w (aF w (.int .i64 (cI pg st k))):=by
 rw[←IP R k];exact IK wk cp pg st tr wt ck pr ca bi ba (aI cp pg st ca bi) w k (fj R)
theorem JS (R:bP wk cp pg st tr wt ck pr ca bi ba)(w:World)(k:Int):Calls Tryz.prog 37 #[.agg (aQ wk cp pg st tr wt ck pr ca bi ba (aI cp pg st ca bi)),.int .i64 k] w (aF w (.int .i64 (cN pg st 0 k))):=by
 rw[←Di R k];exact JO wk cp pg st tr wt ck pr ca bi ba (aI cp pg st ca bi) w k (fj R)
theorem IT (R:bP wk cp pg st tr wt ck pr ca bi ba)(w:World)(k:Int):Calls Tryz.prog 79 #[.agg (aQ wk cp pg st tr wt ck pr ca bi ba (aI cp pg st ca bi)),.int .i64 k] w (aF w (.int .i64 (cN pg st 1 k))):=by
 rw[←Dj R k];exact IL wk cp pg st tr wt ck pr ca bi ba (aI cp pg st ca bi) w k (fj R)
theorem JT (R:bP wk cp pg st tr wt ck pr ca bi ba)(w:World)(k:Int):Calls Tryz.prog 119 #[.agg (aQ wk cp pg st tr wt ck pr ca bi ba (aI cp pg st ca bi)),.int .i64 k] w (aF w (.int .i64 (cN pg st 2 k))):=by
 rw[←Dk R k];exact JP wk cp pg st tr wt ck pr ca bi ba (aI cp pg st ca bi) w k (fj R)
theorem JU (R:bP wk cp pg st tr wt ck pr ca bi ba)(w:World)(a:Int):Calls Tryz.prog 91 #[.agg (aQ wk cp pg st tr wt ck pr ca bi ba (aI cp pg st ca bi)),.int .i64 a] w (aF w (.int .i64 (ie cp pg st ca bi a))):=by
 rw[←Gr R a];exact JR wk cp pg st tr wt ck pr ca bi ba (aI cp pg st ca bi) w a (fj R)
theorem Ir (R:bP wk cp pg st tr wt ck pr ca bi ba)(w:World)(p:Int):Calls Tryz.prog 78 #[.agg (aQ wk cp pg st tr wt ck pr ca bi ba (aI cp pg st ca bi)),.int .i64 p] w (aF w (.int .i64 (j7 cp pg st ca bi p))):=by
 rw[←Gs R p];exact JQ wk cp pg st tr wt ck pr ca bi ba (aI cp pg st ca bi) w p (fj R)
theorem JV (R:bP wk cp pg st tr wt ck pr ca bi ba)(w:World):Calls Tryz.prog 53 #[.agg (aQ wk cp pg st tr wt ck pr ca bi ba (aI cp pg st ca bi))] w (aF w (.int .i64 (bH cp pg st ca bi))):=Iq wk cp pg st tr wt ck pr ca bi ba (aI cp pg st ca bi) w
theorem IU (R:bP wk cp pg st tr wt ck pr ca bi ba)(w:World):Calls Tryz.prog 54 #[.agg (aQ wk cp pg st tr wt ck pr ca bi ba (aI cp pg st ca bi))] w (aF w (.int .i64 (cW cp pg st ca bi))):=Da wk cp pg st tr wt ck pr ca bi ba (aI cp pg st ca bi) w
theorem Gt (R:bP wk cp pg st tr wt ck pr ca bi ba)(w:World):Calls Tryz.prog 42 #[.agg (aQ wk cp pg st tr wt ck pr ca bi ba (aI cp pg st ca bi))] w (aF w (.agg #[.int .i64 wk,.int .i64 cp,.int .i64 pg,.int .i64 st,.int .i64 tr,.int .i64 wt,.int .i64 ck,.int .i64 pr,.int .i64 ca,.int .i64 bi,.int .i64 ba])):=Gp wk cp pg st tr wt ck pr ca bi ba (aI cp pg st ca bi) w
end Go.Proofs.YtfddhogffpkhcaaGreatDoor
