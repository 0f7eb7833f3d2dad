/-
  What a function that is handed a view comes to; on the way through a program that is handed a view: between two calls.
-/
import Derived.Test.YtddmeghbmdfgeaaGreatDoorFlAe
import Derived.Test.YtddmeghbmdfgeaaGreatDoorFlAa
import Derived.Test.YtddmeghbmdfgeaaGreatDoorFlAb
import Derived.RangeFuncBox
import Derived.Shelf.Abstract
import Derived.LoopNIn
import Derived.LoopIn
set_option maxRecDepth 100000
set_option maxHeartbeats 8000000
set_option linter.unusedVariables false
set_option linter.unusedSimpArgs false
set_option linter.unusedSectionVars false
namespace Go.Proofs.YtddmeghbmdfgeaaGreatDoor
open Go.RowKit Go.Sort Go.Maps Go.Shelf
theorem aK.keepS {w w':World}{F S:Nat→Prop}{p:Nat}{kn:Int→Option Int}{D:List KV}(h:aK w F p kn D)(ht:Turned S w w')(hs:∀k,F k→¬S k)(hM:∀k es cl,S k→w.heap[k]? ≠some (.map es cl)):aK w' F p kn D:=by
 obtain⟨M,q,n,F0,hp,hk,hm,fp,f0,fM⟩:=h.ex
 have nM:¬S M:=by
  obtain⟨D',⟨es,clock,hb,_⟩,_⟩:=hk
  intro q
  exact hM M _ _ q hb
 exact⟨⟨M,q,n,F0,by rw[Turned.block ht p (ac hp) (hs p fp)];exact hp,hk.keep ht nM,hm.keep ht (fun k q=>hs k (f0 k q).1),fp,f0,fM⟩,fun k hk=>Nat.lt_of_lt_of_le (h.lt k hk) ht.size⟩
theorem jz {W:World}{g:Nat}{v:Value}{t:TypeId}(h:W.heap[g]?=some (.cells #[v] t (0,0)))(z:Value):(W.setCell ⟨g,0,none⟩ z).heap[g]?=some (.cells #[z] t (0,0)):=by
 have:=bD (o:=0) z h
 simpa using this
def aC {α:Type}(w:World)(F:Nat→Prop)(p:Nat)(kn:Int→Option Int)(val:α→Value)(R:Res α)(e:Ending)(w':World):Prop :=
 match R with
 | .need a=>uT w F p a e w'
 | .ok x D=>gt w F p kn D (val x) e w'
theorem aC.from {α:Type}{w w2 w':World}{F F':Nat→Prop}{p:Nat}{kn:Int→Option Int}{val:α→Value}{R:Res α}{e:Ending}(t:Turned F w w2)(n:∀k,F' k→F k∨w.heap.size≤k)(h:aC w2 F' p kn val R e w'):aC w F p kn val R e w':=by
 cases R with
 |need a=>exact⟨h.1,h.2.1,am t h.2.2 n⟩
 |ok x D =>
  obtain⟨he,F1,hv,ht,hn⟩:=h
  refine⟨he,F1,hv,am t ht n,fun k hk=>?_⟩
  rcases hn k hk with q|q
  ·exact n k q
  ·exact .inr (Nat.le_trans t.size q)
theorem aC.after {α:Type}{w w2 w':World}{F:Nat→Prop}{p:Nat}{kn:Int→Option Int}{val:α→Value}{R:Res α}{e:Ending}(t:ae w w2)(h:aC w2 F p kn val R e w'):aC w F p kn val R e w' :=
 h.from (Turned.mono t (fun _ _ q=>q.elim)) (fun k q=> .inl q)
theorem aC.need {α:Type}{w w':World}{F:Nat→Prop}{p:Nat}{kn:Int→Option Int}{val:α→Value}{R:Res α}{e:Ending}{a:Int}(hR:R=.need a)(h:uT w F p a e w'):aC w F p kn val R e w':=by subst hR;exact h
theorem aC.did {α:Type}{w w':World}{F:Nat→Prop}{p:Nat}{kn:Int→Option Int}{val:α→Value}{R:Res α}{e:Ending}{x:α}{D:List KV}(hR:R=.ok x D)(h:gt w F p kn D (val x) e w'):aC w F p kn val R e w':=by subst hR;exact h
theorem aC.same {α:Type}{w w':World}{F:Nat→Prop}{p:Nat}{kn:Int→Option Int}{D:List KV}{val:α→Value}{R:Res α}{x:α}(hR:R=.ok x D)(hv:aK w F p kn D)(t:ae w w'):aC w F p kn val R (.returned (val x)) w':=by
 subst hR;exact gt.same hv t
def Lq {α β:Type}(f:α→β):Res α→Res β
 | .need a=> .need a
 | .ok x D=> .ok (f x) D
theorem aC.map {α β:Type}{w w':World}{F:Nat→Prop}{p:Nat}{kn:Int→Option Int}{val:α→Value}{val':β→Value}(f:α→β){R:Res α}{x:α}{D:List KV}{v:Value}(hR:R=.ok x D)(h:aC w F p kn val R (.returned v) w'):aC w F p kn val' (Lq f R) (.returned (val' (f x))) w':=by
 subst hR
 obtain⟨_,F',hv,ht,hn⟩:=h
 exact⟨rfl,F',hv,ht,hn⟩
theorem aC.mapN {α β:Type}{w w':World}{F:Nat→Prop}{p:Nat}{kn:Int→Option Int}{val:α→Value}{val':β→Value}(f:α→β){R:Res α}{a:Int}{e:Ending}(hR:R=.need a)(h:aC w F p kn val R e w'):aC w F p kn val' (Lq f R) e w':=by
 subst hR
 exact h
structure MidV (W wr:World)(F S:Nat→Prop)(p:Nat)(kn:Int→Option Int)(n:Nat)(D:List KV)(F':Nat→Prop):Prop where
 view:aK wr F' p kn D
 from':∀k,F' k→F k∨W.heap.size≤k
 turn:Turned (fun b=>F b∨S b) W wr
 inv:cF n D
namespace MidV
variable {W wr w1 w2:World}{F S F':Nat→Prop}{p n:Nat}{kn:Int→Option Int}{D:List KV}
theorem begin (hv:aK W F p kn D)(hD:cF n D):MidV W W F S p kn n D F:=⟨hv,fun k q=> .inl q,Turned.refl _ _,hD⟩
theorem more (h:MidV W wr F S p kn n D F')(m:ae wr w1):MidV W w1 F S p kn n D F' :=
 ⟨h.view.more m,h.from',am (F':=fun _=>False) h.turn m (fun _ q=>q.elim),h.inv⟩
theorem size (h:MidV W wr F S p kn n D F'):W.heap.size≤wr.heap.size:=h.turn.size
theorem off (h:MidV W wr F S p kn n D F'){b:Nat}(hb:b<W.heap.size)(nF:¬F b):¬F' b:=fun q=>by
 rcases h.from' b q with r|r
 ·exact nF r
 ·omega
theorem box (h:MidV W wr F S p kn n D F'){b:Nat}(hS:b<W.heap.size→S b)(nF:¬F' b)(v:Value){cs:Array Value}{t:TypeId}{fr:Nat×Nat}(hb:wr.heap[b]?=some (.cells cs t fr)):MidV W (wr.setCell ⟨b,0,none⟩ v) F S p kn n D F' :=
 ⟨h.view.keepS (S:=fun k=>k=b) (Turned.setCell (S:=fun k=>k=b) (Turned.refl _ wr) ⟨b,0,none⟩ v (fun _=>rfl)) (fun k q e=>nF (e▸q)) (fun k es cl e q=>by subst e;rw[hb] at q;cases q),
  h.from',am h.turn (Turned.setCell (S:=fun k=>k=b) (Turned.refl _ wr) ⟨b,0,none⟩ v (fun _=>rfl)) (fun k q=>by
   subst q
   rcases Nat.lt_or_ge k W.heap.size with r|r
   ·exact .inl (.inr (hS r))
   ·exact .inr r),h.inv⟩
theorem step {α:Type}{val:α→Value}{Q:α→Prop}{pr:Prg α}{e:Ending}(h:MidV W wr F S p kn n D F')(m:ae wr w1)(hk:OkK kn)(G:bV n Q pr)(he:aC w1 F' p kn val (pr kn D) e w2):
 (∃a,pr kn D=.need a∧e=.panicked (aY p)∧aQ w2 p a∧Turned (fun b=>F b∨S b) W w2∧∀b o,¬F' b→wr.heap[b]?=some o→w2.heap[b]?=some o) ∨
 (∃x D1 F1,pr kn D=.ok x D1∧e=.returned (val x)∧MidV W w2 F S p kn n D1 F1∧Q x∧(∀b o,¬F' b→wr.heap[b]?=some o→w2.heap[b]?=some o)∧∀b,F1 b→F' b∨wr.heap.size≤b):=by
 have hm:=h.more m
 have hs:=m.size
 have hK:∀t,Turned F' w1 t→∀b o,¬F' b→wr.heap[b]?=some o→t.heap[b]?=some o:=fun t ht b o nb hb=>(ht.block b (ac (m.block hb)) nb).trans (m.block hb)
 cases hE:pr kn D with
 |need a =>
  rw[hE] at he
  obtain⟨h1,h2,h3⟩:=he
  exact .inl ⟨a,rfl,h1,h2,am hm.turn h3 (fun k q=>(h.from' k q).imp .inl id),hK _ h3⟩
 |ok x D1 =>
  rw[hE] at he
  obtain⟨h1,F1,hv,ht,hn⟩:=he
  obtain⟨i1,q1⟩:=G.ok hk h.inv hE
  refine .inr ⟨x,D1,F1,rfl,h1,⟨hv,fun k q=>?_,am hm.turn ht (fun k q=>(h.from' k q).imp .inl id),i1⟩,q1,hK _ ht,fun b q=>(hn b q).imp id (fun r=>by omega)⟩
  rcases hn k q with r|r
  ·exact h.from' k r
  ·have:=hm.size;exact .inr (by omega)
end MidV
theorem wI {W w2:World}{F S:Nat→Prop}{Y X:World→Prop}{p:Nat}{kn:Int→Option Int}{R:Ran}{a:Int}(hR:R=.need a)(hd:aQ w2 p a)(ht:Turned (fun b=>F b∨S b) W w2)(hy:Y w2):gO W F S Y X p kn R (.panicked (aY p)) w2:=by
 subst hR;exact⟨rfl,hd,ht,hy⟩
theorem wJ {W wr:World}{F S F':Nat→Prop}{Y X:World→Prop}{p n:Nat}{kn:Int→Option Int}{D:List KV}{R:Ran}(h:MidV W wr F S p kn n D F')(hR:R=.done D)(hy:Y wr)(hx:X wr):gO W F S Y X p kn R (.returned (.tuple #[])) wr:=by
 subst hR;exact⟨rfl,⟨F',h.view⟩,h.turn,hy,hx⟩
theorem dm {α β γ:Type}(p:Prg α)(f:α→Prg β)(g:β→Prg γ):ar (ar p f) g=ar p (fun x=>ar (f x) g):=by
 funext kn D;unfold ar;cases p kn D<;>rfl
theorem CD {α β:Type}(f:α→β)(p:Prg α)(kn:Int→Option Int)(D:List KV):Lq f (p kn D)=ar p (fun x=>aA (f x)) kn D:=by
 unfold ar;cases p kn D<;>rfl
def Od (g:Nat)(w:World)(b:Bool):Prop:=w.heap[g]?=some (.cells #[.bool b] 4 (0,0))
theorem nY {α:Type}{R:Res α}{a:Int}(h:R=.need a):fo R=.need a:=by rw[h];rfl
theorem su {α:Type}{R:Res α}{x:α}{D:List KV}(h:R=.ok x D):fo R=.done D:=by rw[h];rfl
theorem bg (w:World)(o0:Obj):∃w1,w.alloc o0=w1∧w1.heap[w.heap.size]?=some o0∧ae w w1∧w1.heap.size=w.heap.size+1:=⟨_,rfl,bh w o0,(ae.refl _).alloc _,by simp⟩
theorem gS (w:World)(o0 o1:Obj):∃w2,(w.alloc o0).alloc o1=w2∧w2.heap[w.heap.size]?=some o0∧w2.heap[w.heap.size+1]?=some o1∧ae w w2∧w2.heap.size=w.heap.size+2:=by
 obtain⟨w1,e1,h0,m0,s0⟩:=bg w o0
 rw[e1]
 obtain⟨w2,e2,h1,m1,s1⟩:=bg w1 o1
 rw[s0] at h1
 exact⟨w2,e2,m1.block h0,h1,m0.trans m1,by omega⟩
theorem kG (w:World)(o0 o1 o2:Obj):∃w3,((w.alloc o0).alloc o1).alloc o2=w3∧w3.heap[w.heap.size]?=some o0∧w3.heap[w.heap.size+1]?=some o1∧w3.heap[w.heap.size+2]?=some o2∧ae w w3∧w3.heap.size=w.heap.size+3:=by
 have h0:=bh w o0
 have s0:(w.alloc o0).heap.size=w.heap.size+1:=by simp
 have m0:ae w (w.alloc o0):=(ae.refl _).alloc _
 generalize w.alloc o0=w1 at h0 s0 m0⊢
 have h1:=bh w1 o1
 rw[s0] at h1
 have s1:(w1.alloc o1).heap.size=w.heap.size+2:=by simp[s0]
 have m1:ae w1 (w1.alloc o1):=(ae.refl _).alloc _
 generalize w1.alloc o1=w2 at h1 s1 m1⊢
 have h2:=bh w2 o2
 rw[s1] at h2
 have m2:ae w2 (w2.alloc o2):=(ae.refl _).alloc _
 exact⟨_,rfl,m2.block (m1.block h0),m2.block h1,h2,(m0.trans m1).trans m2,by simp[s1]⟩
theorem cx {α:Type}{w w1 w2:World}{F S:Nat→Prop}{p:Nat}{kn:Int→Option Int}{val:α→Value}{R:Res α}{a:Int}(m:ae w w1)(hS:∀b,S b→w.heap.size≤b)(hR:R=.need a)(hd:aQ w2 p a)(ht:Turned (fun b=>F b∨S b) w1 w2):aC w F p kn val R (.panicked (aY p)) w2 :=
 aC.need hR ⟨rfl,hd,am (Turned.mono m (fun _ _ q=>q.elim)) ht (fun k q=>q.imp id (hS k))⟩
theorem bZ {α:Type}{w w1 w2:World}{F S F':Nat→Prop}{p n:Nat}{kn:Int→Option Int}{val:α→Value}{R:Res α}{x:α}{D:List KV}(m:ae w w1)(hS:∀b,S b→w.heap.size≤b)(h:MidV w1 w2 F S p kn n D F')(hR:R=.ok x D):aC w F p kn val R (.returned (val x)) w2 :=
 aC.did hR ⟨rfl,F',h.view,am (Turned.mono m (fun _ _ q=>q.elim)) h.turn (fun k q=>q.imp id (hS k)),fun k q=>(h.from' k q).imp id (fun r=>Nat.le_trans m.size r)⟩
theorem cI {w1 w2:World}{F S F':Nat→Prop}{p n:Nat}{kn:Int→Option Int}{D:List KV}(h:MidV w1 w2 F S p kn n D F'){b:Nat}{o:Obj}(hb:w1.heap[b]?=some o)(nF:¬F b)(nS:¬S b):w2.heap[b]?=some o :=
 (h.turn.block b (ac hb) (by rintro(q|q);exact nF q;exact nS q)).trans hb
theorem jf (F:Nat→Prop)(p:Nat)(kn:Int→Option Int)(D:List KV)(a:Int)(w:World)(h:aK w F p kn D)(hw:W64 a):
 Calls Tryz.prog 27 #[.pointer (some ⟨p,0,none⟩),.int .i64 a] w (aC w F p kn (fun x=> .int .i64 x) (cW a kn D)):=by
 cases e:dN kn D a with
 |none=>exact(iV F p kn D a w h hw e).mono (fun _ _ he=>aC.need (je e) he)
 |some y =>
  refine(mN F p kn D a y w h hw e).mono ?_
  rintro _ _ ⟨rfl,n,rfl⟩
  exact aC.same (eS e) h ((ae.refl w).drewN n)
theorem dl (F:Nat→Prop)(p:Nat)(kn:Int→Option Int)(D:List KV)(a x:Int)(w:World)(h:aK w F p kn D)(hs:D.length<100000):
 Calls Tryz.prog 116 #[.pointer (some ⟨p,0,none⟩),.int .i64 a,.int .i64 x] w (aC w F p kn (fun _:Unit=> .tuple #[]) (cP a x kn D)):=
 (ya F p kn D a x w h hs).mono (fun _ _ he=>aC.did rfl he)
def bS (pg k:Int):Bool:=decide (0≤k) && decide (k<aO pg)
theorem dc {pg k:Int} :bS pg k=true↔0≤k∧k<aO pg:=by simp[bS]
theorem yk {pg k:Int} :bS pg k=false↔¬(0≤k∧k<aO pg):=by
 cases h:bS pg k with
 |true=>simp[dc.1 h]
 |false=>simp only[true_iff];intro q;rw[dc.2 q] at h;cases h
theorem lG {pg st k:Int}(h:bS pg k=true):dW pg st k=bd st+k:=if_pos (dc.1 h)
theorem Jt {pg st k:Int}(h:bS pg k=false):dW pg st k=0:=if_neg (yk.1 h)
def ofV (p:Int):Int:=if p<0 then -1 else p / 4
def pR (pg k:Int):Int:=if bS pg k then 4 * k else 0
def fw (pg k:Int):Int:=if bS pg k then min 4 (pg-4 * k) else 0
def cm (pg p n:Int):Bool:=decide (0≤p) && (decide (1≤n) && decide (n≤pg-p))
theorem dZ {pg p n:Int} :cm pg p n=true↔0≤p∧1≤n∧n≤pg-p:=by simp[cm]
def dR (pg st k:Int):Prg Bool:=if bS pg k then ar (cW (dW pg st k)) (fun y=>aA (decide (y=1))) else aA false
def jA (pg st k x:Int):Prg Int:=if bS pg k then ar (dR pg st k) (fun b=>if b=decide (x=1) then aA 0 else ar (cP (dW pg st k) x) (fun _=>aA (fw pg k))) else aA 0
def ie (pg st:Int):Nat→Int→Int→Prg Int
 | 0,_,s=>aA s
 |m+1,k,s=>ar (jA pg st k 1) (fun x=>ie pg st m (k+1) (s+x))
def Gq (pg st:Int):Nat→Int→Int→Prg Int
 | 0,_,s=>aA s
 |m+1,k,s=>ar (dR pg st k) (fun b=>Gq pg st m (k+1) (s+if b then fw pg k else 0))
def spanV (p n:Int):Nat:=((p+n-1) / 4-p / 4+1).toNat
def gu (pg st p n:Int):Prg Int:=if cm pg p n then ie pg st (spanV p n) (p / 4) 0 else aA 0
def Ar (pg st:Int):Prg Int:=Gq pg st (aO pg).toNat 0 0
structure TblIn (pg st:Int)(n:Nat):Prop where
 st1:1≤st
 st2:st≤64
 pg1:1≤pg
 pg2:pg≤256
 top:bd st+aO pg≤n
section
variable {pg st:Int}{n:Nat}(H:TblIn pg st n)
include H
theorem oV {k:Int}(h:bS pg k=true):4≤dW pg st k∧dW pg st k<n∧W64 (dW pg st k):=by
 rw[lG h]
 have:=dc.1 h
 have h1:=H.st1;have h2:=H.st2;have h3:=H.top;have h4:=H.pg1;have h5:=H.pg2
 unfold aO at *
 unfold bd W64 at *
 omega
theorem Lr (k:Int):0≤fw pg k∧fw pg k≤4:=by
 unfold fw
 split
 ·rename_i h
  have:=dc.1 h
  have:=H.pg1
  unfold aO at *
  omega
 ·omega
theorem jB (k:Int):bV n (fun _=>True) (dR pg st k):=by
 unfold dR
 split
 ·rename_i h
  exact au (bu n (oV H h).2.1) (fun y _=>aj n trivial)
 ·exact aj n trivial
theorem pS (k x:Int)(hx:W64 x):bV n (fun y=>0≤y∧y≤4) (jA pg st k x):=by
 unfold jA
 split
 ·rename_i h
  obtain⟨h0,h1,h2⟩:=oV H h
  refine au (jB H k) (fun b _=>?_)
  split
  ·exact aj n (by omega)
  ·exact au (aV n h2 h1 hx) (fun _ _=>aj n (Lr H k))
 ·exact aj n (by omega)
theorem wK (m:Nat):∀k s:Int,0≤s→bV n (fun y:Int=>0≤y∧y≤s+4 * m) (ie pg st m k s):=by
 induction m with
 |zero=>intro k s h;exact aj n (by omega)
 |succ m ih =>
  intro k s h
  exact au (pS H k 1 (by unfold W64;omega)) (fun x hx=>dw (ih _ _ (by omega)) (fun y hy=>by omega))
end
theorem oW (pg st k:Int):bH (dR pg st k):=by
 unfold dR
 exact aL (aq (dA _) (fun _=>ai _)) (ai _)
theorem Au (pg st k x:Int):bH (jA pg st k x):=by
 unfold jA
 exact aL (aq (oW _ _ _) (fun _=>aL (ai _) (aq (cX _ _) (fun _=>ai _)))) (ai _)
theorem uy (pg st:Int)(m:Nat):∀k s,bH (ie pg st m k s):=by
 induction m with
 |zero=>intro k s;exact ai _
 |succ m ih=>intro k s;exact aq (Au _ _ _ _) (fun x=>ih _ _)
theorem wL (pg st p n:Int):bH (gu pg st p n):=aL (uy _ _ _ _ _) (ai _)
theorem Av {pg p n:Int}(h:cm pg p n=true)(h2:pg≤256):(spanV p n:Int)=(p+n-1) / 4-p / 4+1∧spanV p n≤64:=by
 obtain⟨h0,h1,h3⟩:=dZ.1 h
 unfold spanV;omega
theorem wM {pg p n:Int}(h:cm pg p n=true)(i:Nat)(hi:i<spanV p n):bS pg (p / 4+i)=true:=by
 obtain⟨h0,h1,h3⟩:=dZ.1 h
 rw[dc]
 unfold spanV at hi
 unfold aO
 omega
def bL (pg st:Int)(ws:List Int)(k:Int):Bool:=bS pg k && decide (wAt ws (dW pg st k)=1)
def lH (pg st:Int)(k x:Int)(ws:List Int):Int×List Int :=
 if bS pg k then(if bL pg st ws k=decide (x=1) then(0,ws) else(fw pg k,ws.set (dW pg st k).toNat x)) else(0,ws)
def rC (pg st:Int):Nat→Int→Int→List Int→Int×List Int
 | 0,_,s,ws=>(s,ws)
 |m+1,k,s,ws=>rC pg st m (k+1) (s+(lH pg st k 1 ws).1) (lH pg st k 1 ws).2
def Gr (pg st:Int):Nat→Int→Int→List Int→Int
 | 0,_,s,_=>s
 |m+1,k,s,ws=>Gr pg st m (k+1) (s+if bL pg st ws k then fw pg k else 0) ws
section
variable {pg st:Int}{n:Nat}(H:TblIn pg st n)
include H
theorem qH (k:Int):bR n (dR pg st k) (fun ws=>(bL pg st ws k,ws)):=by
 unfold dR bL
 split
 ·rename_i h
  obtain⟨h0,h1,h2⟩:=oV H h
  exact a6 (aD (dY (by omega) h1) (fun y=>ax n (decide (y=1)))) (fun ws _=>by simp[h])
 ·rename_i h
  exact a6 (ax n false) (fun ws _=>by simp[h])
theorem DS (k x:Int)(hx:W64 x):bR n (jA pg st k x) (lH pg st k x):=by
 unfold jA
 split
 ·rename_i h
  obtain⟨h0,h1,h2⟩:=oV H h
  have hb:∀b:Bool,bR n (if b=decide (x=1) then aA 0 else ar (cP (dW pg st k) x) (fun _=>aA (fw pg k))) (fun ws=>if b=decide (x=1) then(0,ws) else(fw pg k,ws.set (dW pg st k).toNat x)):=fun b=>by
   by_cases e:b=decide (x=1)
   ·rw[if_pos e];exact a6 (ax n 0) (fun ws _=>by rw[if_pos e])
   ·rw[if_neg e];exact a6 (aD (df (by omega) h1 h2 hx) (fun _=>ax n (fw pg k))) (fun ws _=>by rw[if_neg e])
  exact a6 (aD (qH H k) hb) (fun ws _=>by unfold lH;rw[if_pos h])
 ·rename_i h
  exact a6 (ax n 0) (fun ws _=>by unfold lH;rw[if_neg h])
theorem wN (m:Nat):∀k s,bR n (ie pg st m k s) (rC pg st m k s):=by
 induction m with
 |zero=>intro k s;exact ax n s
 |succ m ih=>intro k s;exact aD (DS H k 1 (by unfold W64;omega)) (fun x=>ih (k+1) (s+x))
end
theorem Gs (pg st k x:Int)(ws:List Int):(lH pg st k x ws).2.length=ws.length:=by
 unfold lH;split
 ·split<;>simp
 ·rfl
structure Cfg where
 wk:Int
 cp:Int
 pg:Int
 st:Int
 tr:Int
 wt:Int
 ck:Int
 pr:Int
 ca:Int
 bi:Int
 ba:Int
def Cfg.Ok (c:Cfg):Prop:=cV c.wk c.cp c.pg c.st c.tr c.wt c.ck c.pr c.ca c.bi c.ba
def Cfg.starts (c:Cfg):Nat→Int:=aJ c.cp c.pg c.st c.ca c.bi
def Cfg.arr (c:Cfg):Array Value:=aM c.wk c.cp c.pg c.st c.tr c.wt c.ck c.pr c.ca c.bi c.ba c.starts
def Cfg.cells (c:Cfg):Array Value:= #[.int .i64 c.wk,.int .i64 c.cp,.int .i64 c.pg,.int .i64 c.st,.int .i64 c.tr,.int .i64 c.wt,.int .i64 c.ck,.int .i64 c.pr,.int .i64 c.ca,.int .i64 c.bi,.int .i64 c.ba]
def Cfg.words (c:Cfg):Int:=eR c.cp c.pg c.st c.ca c.bi
def ct (c:Cfg)(k:Int):Array Value:=c.arr.push (.int .i64 k)
theorem Ju {c:Cfg}(R:c.Ok)(w:World)(k:Int):Calls Tryz.prog 137 #[.agg c.arr,.int .i64 k] w (aU w (.int .i64 (dW c.pg c.st k))):=Lh R w k
theorem dx {c:Cfg}(R:c.Ok)(w:World):Calls Tryz.prog 20 #[.agg c.arr] w (aU w (.agg #[.int .i64 c.wk,.int .i64 c.cp,.int .i64 c.pg,.int .i64 c.st,.int .i64 c.tr,.int .i64 c.wt,.int .i64 c.ck,.int .i64 c.pr,.int .i64 c.ca,.int .i64 c.bi,.int .i64 c.ba])):=Jg R w
theorem Jv {c:Cfg}(R:c.Ok)(w:World):Calls Tryz.prog 15 #[.agg c.arr] w (aU w (.int .i64 c.words)):=Li R w
theorem fx (c:Cfg)(W:World):(Instr.field 23 (.agg #[.int .i64 c.wk,.int .i64 c.cp,.int .i64 c.pg,.int .i64 c.st,.int .i64 c.tr,.int .i64 c.wt,.int .i64 c.ck,.int .i64 c.pr,.int .i64 c.ca,.int .i64 c.bi,.int .i64 c.ba]) 2).run Tryz.prog W=.ok (.int .i64 c.pg) W:=by kernel_rfl
theorem qI (c:Cfg)(k:Int)(W:World):(Instr.build 139 #[(0,.agg c.arr),(1,.int .i64 k)]).run Tryz.prog W=.ok (.agg (ct c k)) W:=run_build W _ _ _ (by kernel_rfl)
theorem ym (c:Cfg)(k:Int):(ct c k)[24]?=some (.int .i64 k):=by rfl
theorem yn (c:Cfg)(k:Int):∀j,j<24→(ct c k)[j]?=c.arr[j]? :=fun j hj=>by
 unfold ct
 rw[Array.getElem?_push,if_neg (by show j≠24;omega)]
theorem pT {P:Program}(w:World)(g:Nat)(t ty:TypeId)(cs hs:Array Value)(fr:Nat×Nat)(d:TypeDesc)(hg:w.heap[g]?=some (.cells cs t fr))(hc:∀j,j<hs.size→cs[j]?=hs[j]?)
 (hu:P.underlying ty=some d) (hd:(match d with| .struct _| .array _ _=>true|_=>false)=true) (hi:(P.info? ty).map (·.size)=some hs.size):
 (loadVar ty ⟨g,0,none⟩).run P w=.ok (.agg hs) w:=by
 have hl:(loadCells ⟨g,0,none⟩ hs.toList.length).run P w=.ok hs.toList.toArray w :=
  run_loadCells_list (P:=P) w ⟨g,0,none⟩ hs.toList (fun j v hv=>by
   have hj:j<hs.size:=by have:=(List.getElem?_eq_some_iff.1 hv).1;simpa using this
   rw[iZ,Nat.zero_add,cell_of_row w g j cs t fr hg,hc j hj]
   simpa using hv)
 cases hq:P.info? ty with
 |none=>simp[hq] at hi
 |some i =>
  have hs:i.size=hs.size:=by simpa [hq] using hi
  have hagg:(isAgg ty).run P w=.ok true w:=by
   unfold isAgg
   rw[Sem.run_bind,run_underlying hu w]
   cases d<;>simp_all
  simp only[Array.length_toList,Array.toArray_toList] at hl
  simp[loadVar,Sem.run_bind,hagg,sizeOf,typeInfo,hq,hs,hl]
theorem j0 {P:Program}{ops:Array Oper}{rest:List Oper}{o:Oper}{a:Act}{w:World}{Q:Exit→Act→World→Prop}(hw:Region.wanted o (yielded ops a.tmps)=true)(ty:TypeId)(x:Operand)(ho:o.op=.load ty x)
 (g:Nat) (hx:a.eval x=.pointer (some ⟨g,0,none⟩)) (t:TypeId) (cs hs:Array Value) (fr:Nat×Nat) (d:TypeDesc) (hg:w.heap[g]?=some (.cells cs t fr)) (hc:∀j,j<hs.size→cs[j]?=hs[j]?)
 (hu:P.underlying ty=some d) (hd:(match d with| .struct _| .array _ _=>true|_=>false)=true) (hi:(P.info? ty).map (·.size)=some hs.size)
 (h:wpList P ops Q rest (a.put o.dst (.agg hs)) w):wpList P ops Q (o::rest) a w :=
 eC hw fun K hK=>by
  unfold Oper.wp Oper.upon execOp
  simp only[ho,hx,Instr.loadAt,Instr.sureAddr,Sem.run_bind,Sem.run_pure,Result.andThen_ok,pT w g t ty cs hs fr d hg hc hu hd hi]
  exact hK _ _ h
theorem Ls (p:Int)(h0: -9223372036854775808≤p)(h1:p≤9223372036854775807)(w:World):Calls Tryz.prog 57 #[.int .i64 p] w fun e w'=>e=.returned (.int .i64 (ofV p))∧w'=w:=by
 by_cases c:p<0
 ·rw[show ofV p= -1 from if_pos c]
  go_enter Tryz.func57,Tryz.ntmps57
  go_wp2_with fail
  go_ret
  exact⟨rfl,rfl⟩
 ·rw[show ofV p=p / 4 from if_neg c]
  have q2:IntKind.i64.wrap (p.tdiv 4)=p / 4:=by rw[Int.tdiv_eq_ediv_of_nonneg (by omega)];exact aB (by omega) (by omega)
  have d0:decide (p<0)=false:=by simp;omega
  go_enter Tryz.func57,Tryz.ntmps57
  go_wp2_with fail
  go_ret
  exact⟨rfl,rfl⟩
theorem Aw {c:Cfg}(R:c.Ok)(k:Int)(w:World):Calls Tryz.prog 120 #[.agg (ct c k)] w (aU w (.int .i64 (dW c.pg c.st k))):=by
 have HC:=hQQ (a7 w (ct c k) 139)
 have x24:=bo HC.o (ae.refl _) (ym c k)
 have HM:Hq (ae w (w.alloc (.cells (ct c k) 139))):=(ae.refl w).alloc _
 go_enter Tryz.func120,Tryz.ntmps120
 go_wp2_with (refine j0 rfl 28 _ rfl _ rfl 139 _ c.arr _ _ HC.o (yn c k) Tryz.underlying28 rfl (by kernel_rfl) ?_)
 refine(Ju R _ k).mono ?_
 rintro e w1 ⟨rfl,h1⟩
 go_wp2_with fail
 go_ret
 exact⟨rfl,HM.o.trans h1⟩
theorem Gt {c:Cfg}(R:c.Ok)(k:Int):(dW c.pg c.st k==0)= !bS c.pg k:=by
 have h1:=R.st1
 cases h:bS c.pg k with
 |true =>
  rw[lG h]
  have:=dc.1 h
  unfold bd
  simp;omega
 |false=>rw[Jt h];rfl
theorem pU {c:Cfg}(R:c.Ok)(k:Int)(w:World):Calls Tryz.prog 119 #[.agg (ct c k)] w (aU w (.bool (!bS c.pg k))):=by
 have HC:=hQQ (a7 w (ct c k) 139)
 have HM:Hq (ae w (w.alloc (.cells (ct c k) 139))):=(ae.refl w).alloc _
 have b0:=Gt R k
 go_enter Tryz.func119,Tryz.ntmps119
 go_wp2_with (refine wpList_load_row rfl 139 _ rfl _ rfl 139 _ _ _ HC.o Tryz.underlying139 rfl (by kernel_rfl) ?_)
 refine(Aw R k _).mono ?_
 rintro e w1 ⟨rfl,h1⟩
 go_wp2_with fail
 go_ret
 exact⟨rfl,HM.o.trans h1⟩
theorem Jw {c:Cfg}(R:c.Ok)(k:Int)(w:World):Calls Tryz.prog 172 #[.agg (ct c k)] w (aU w (.tuple #[.int .i64 (pR c.pg k),.int .i64 (fw c.pg k)])):=by
 have HC:=hQQ (a7 w (ct c k) 139)
 have HM:Hq (ae w (w.alloc (.cells (ct c k) 139))):=(ae.refl w).alloc _
 cases h:bS c.pg k with
 |false =>
  rw[show pR c.pg k=0 by unfold pR;rw[h];rfl,show fw c.pg k=0 by unfold fw;rw[h];rfl]
  go_enter Tryz.func172,Tryz.ntmps172
  go_wp2_with (refine wpList_load_row rfl 139 _ rfl _ rfl 139 _ _ _ HC.o Tryz.underlying139 rfl (by kernel_rfl) ?_)
  refine(pU R k _).mono ?_
  rw[h]
  rintro e w1 ⟨rfl,h1⟩
  go_wp2_with fail
  go_ret2
  exact⟨rfl,HM.o.trans h1⟩
 |true =>
  have hfl:=fx c
  have hb:=dc.1 h
  have p1:=R.pg1
  have p2:=R.pg2
  have hu:4 * k<c.pg∧k<64:=by unfold aO at hb;omega
  have q0:IntKind.i64.wrap (k * 4)=4 * k:=by rw[aB (by omega) (by omega)];omega
  have q1:IntKind.i64.wrap (c.pg-4 * k)=c.pg-4 * k:=aB (by omega) (by omega)
  rw[show pR c.pg k=4 * k by unfold pR;rw[h];rfl,show fw c.pg k=min 4 (c.pg-4 * k) by unfold fw;rw[h];rfl]
  generalize hz:c.pg-4 * k=z at q1
  have R':=hQQ R
  clear hb hu p1 p2
  have zz:=hQQ hz
  clear hz
  go_enter Tryz.func172,Tryz.ntmps172
  go_wp2_with (refine wpList_load_row rfl 139 _ rfl _ rfl 139 _ _ _ HC.o Tryz.underlying139 rfl (by kernel_rfl) ?_)
  refine(pU R'.o k _).mono ?_
  rw[h]
  rintro e w1 ⟨rfl,h1⟩
  have HC1:=hQQ (h1.block HC.o)
  have HM1:=hQQ (HM.o.trans h1)
  have x24:=bo HC1.o (ae.refl _) (ym c k)
  clear h1
  go_wp2_with (refine j0 rfl 28 _ rfl _ rfl 139 _ c.arr _ _ HC1.o (yn c k) Tryz.underlying28 rfl (by kernel_rfl) ?_)
  refine(dx R'.o _).mono ?_
  rintro e w2 ⟨rfl,h2⟩
  have HM2:=hQQ (HM1.o.trans h2)
  have q3:=zz.o
  clear h2
  go_wp2_with fail
  go_ret2
  exact⟨rfl,HM2.o⟩
theorem KU {c:Cfg}(R:c.Ok){k:Int}(h:bS c.pg k=true):W64 (dW c.pg c.st k):=by
 rw[lG h]
 have:=dc.1 h
 have h1:=rS R;have h2:=oK R
 unfold W64;omega
theorem sw {c:Cfg}(R:c.Ok)(F:Nat→Prop)(p:Nat)(kn:Int→Option Int)(D:List KV)(k:Int)(w:World)(hv:aK w F p kn D):
 Calls Tryz.prog 94 #[.agg (ct c k),.pointer (some ⟨p,0,none⟩)] w (aC w F p kn (fun b=> .bool b) (dR c.pg c.st k kn D)):=by
 have HC:=hQQ (a7 w (ct c k) 139)
 have HM:Hq (ae w (w.alloc (.cells (ct c k) 139))):=(ae.refl w).alloc _
 have HV:=hQQ hv
 have HR:=hQQ R
 clear hv
 cases h:bS c.pg k with
 |false =>
  have FIN:Hq (∀w',ae w w'→aC w F p kn (fun b=> .bool b) (dR c.pg c.st k kn D) (.returned (.bool false)) w'):=hQQ fun w' m=>aC.same (by unfold dR;rw[h];rfl) HV.o m
  go_enter Tryz.func94,Tryz.ntmps94
  go_wp2_with (refine wpList_load_row rfl 139 _ rfl _ rfl 139 _ _ _ HC.o Tryz.underlying139 rfl (by kernel_rfl) ?_)
  refine(pU HR.o k _).mono ?_
  rw[h]
  rintro e w1 ⟨rfl,h1⟩
  have HM1:=hQQ (HM.o.trans h1)
  clear h1
  go_wp2_with fail
  go_ret
  exact FIN.o _ HM1.o
 |true =>
  have hR:dR c.pg c.st k kn D=ar (cW (dW c.pg c.st k)) (fun y=>aA (decide (y=1))) kn D:=by unfold dR;rw[h];rfl
  rw[hR]
  have HW:=hQQ (KU R h)
  go_enter Tryz.func94,Tryz.ntmps94
  go_wp2_with (refine wpList_load_row rfl 139 _ rfl _ rfl 139 _ _ _ HC.o Tryz.underlying139 rfl (by kernel_rfl) ?_)
  refine(pU HR.o k _).mono ?_
  rw[h]
  rintro e w1 ⟨rfl,h1⟩
  have HM1:=hQQ (HM.o.trans h1)
  have HC1:=hQQ (h1.block HC.o)
  clear h1
  go_wp2_with (refine af rfl 139 _ rfl _ rfl 139 _ _ _ HC1.o Tryz.underlying139 rfl (by kernel_rfl) ?_)
  refine(Aw HR.o k _).mono ?_
  rintro e w2 ⟨rfl,h2⟩
  have HM2:=hQQ (HM1.o.trans h2)
  clear h2
  have HV2:=hQQ (HV.o.more HM2.o)
  cases hw:dN kn D (dW c.pg c.st k) with
  |none =>
   have HN:=hQQ hw
   clear hw
   go_wp2_with fail
   refine(iV F p kn D _ w2 HV2.o HW.o HN.o).mono ?_
   intro e w3 he
   obtain rfl:=he.1
   exact⟨rfl,aC.after HM2.o (aC.need (ah (je HN.o)) he)⟩
  |some y =>
   have HN:=hQQ hw
   have FIN:Hq (∀n,aC w F p kn (fun b=> .bool b) (ar (cW (dW c.pg c.st k)) (fun y=>aA (decide (y=1))) kn D) (.returned (.bool (decide (y=1)))) (w2.drewN n)):=hQQ fun n=>aC.same (by rw[ak (eS HN.o)];rfl) HV.o (HM2.o.drewN n)
   have b1:(y==1)=decide (y=1):=by by_cases q:y=1<;>simp[q]
   clear hw
   go_wp2_with fail
   refine(mN F p kn D _ y w2 HV2.o HW.o HN.o).mono ?_
   rintro e w3 ⟨rfl,n,rfl⟩
   go_wp2_with fail
   go_ret
   exact FIN.o n
theorem Lt {c:Cfg}(R:c.Ok){n:Nat}(H:TblIn c.pg c.st n)(hn:n≤10000)(F:Nat→Prop)(p:Nat)(kn:Int→Option Int)(D:List KV)(k x:Int)(w:World)(hv:aK w F p kn D)(hk:OkK kn)(hD:cF n D):
 Calls Tryz.prog 166 #[.agg (ct c k),.pointer (some ⟨p,0,none⟩),.int .i64 x] w (aC w F p kn (fun y=> .int .i64 y) (jA c.pg c.st k x kn D)):=by
 have HC:=hQQ (a7 w (ct c k) 139)
 have HM:Hq (ae w (w.alloc (.cells (ct c k) 139))):=(ae.refl w).alloc _
 have HV:=hQQ hv
 have HR:=hQQ R
 have HK:=hQQ hk
 have HD:=hQQ hD
 have HH:=hQQ H
 clear hv hk hD H
 cases h:bS c.pg k with
 |false =>
  have FIN:Hq (∀w',ae w w'→aC w F p kn (fun y=> .int .i64 y) (jA c.pg c.st k x kn D) (.returned (.int .i64 0)) w'):=hQQ fun w' m=>aC.same (by unfold jA;rw[h];rfl) HV.o m
  go_enter Tryz.func166,Tryz.ntmps166
  go_wp2_with (refine wpList_load_row rfl 139 _ rfl _ rfl 139 _ _ _ HC.o Tryz.underlying139 rfl (by kernel_rfl) ?_)
  refine(pU HR.o k _).mono ?_
  rw[h]
  rintro e w1 ⟨rfl,h1⟩
  have HM1:=hQQ (HM.o.trans h1)
  clear h1
  go_wp2_with fail
  go_ret
  exact FIN.o _ HM1.o
 |true =>
  have hR:jA c.pg c.st k x kn D=ar (dR c.pg c.st k) (fun b=>if b=decide (x=1) then aA 0 else ar (cP (dW c.pg c.st k) x) (fun _=>aA (fw c.pg k))) kn D:=by unfold jA;rw[h];rfl
  rw[hR]
  have HW:=hQQ (KU R h)
  go_enter Tryz.func166,Tryz.ntmps166
  go_wp2_with (refine wpList_load_row rfl 139 _ rfl _ rfl 139 _ _ _ HC.o Tryz.underlying139 rfl (by kernel_rfl) ?_)
  refine(pU HR.o k _).mono ?_
  rw[h]
  rintro e w1 ⟨rfl,h1⟩
  have HM1:=hQQ (HM.o.trans h1)
  have HC1:=hQQ (h1.block HC.o)
  clear h1
  have HV1:=hQQ (HV.o.more HM1.o)
  have bx:(x==1)=decide (x=1):=by by_cases q:x=1<;>simp[q]
  go_wp2_with (refine af rfl 139 _ rfl _ rfl 139 _ _ _ HC1.o Tryz.underlying139 rfl (by kernel_rfl) ?_)
  refine(sw HR.o F p kn D k w1 HV1.o).mono ?_
  intro e w2 he
  cases hm:dR c.pg c.st k kn D with
  |need a =>
   rw[hm] at he
   obtain rfl:=he.1
   have FIN:=aC.after (kn:=kn) HM1.o (aC.need (val:=fun y:Int=>Value.int .i64 y) (ah (f:=fun b:Bool=>if b=decide (x=1) then aA (0:Int) else ar (cP (dW c.pg c.st k) x) (fun _=>aA (fw c.pg k))) hm) he)
   exact⟨rfl,FIN⟩
  |ok b D1 =>
   rw[hm] at he
   have HB:=hQQ hm
   have hI1:=((jB HH.o k).ok HK.o HD.o hm).1
   obtain⟨rfl,F1,hv2,ht2,hn2⟩:=he
   have lD1:D1.length<100000:=by have:=hI1.len;omega
   have HV2:=hQQ hv2
   have HT2:Hq (Turned F w w2):=hQQ (am (Turned.mono HM1.o (fun _ _ q=>q.elim)) ht2 (fun k q=> .inl q))
   have HN1:=hQQ hn2
   have HN2:Hq (∀k,F1 k→F k∨w.heap.size≤k):=hQQ fun k q=>(hn2 k q).imp id (fun r=>Nat.le_trans HM1.o.size r)
   have nC:¬F w.heap.size:=fun q=>by have:=HV.o.lt _ q;omega
   have HC2:Hq (w2.heap[w.heap.size]?=_):=hQQ ((Turned.block ht2 _ (ac HC1.o) nC).trans HC1.o)
   clear hm hI1 hv2 ht2 hn2
   by_cases hb:b=decide (x=1)
   ·have FIN:Hq (∀w',ae w2 w'→aC w F p kn (fun y=> .int .i64 y) (ar (dR c.pg c.st k) (fun b=>if b=decide (x=1) then aA 0 else ar (cP (dW c.pg c.st k) x) (fun _=>aA (fw c.pg k))) kn D) (.returned (.int .i64 0)) w'):=hQQ fun w' m =>
     aC.from HT2.o HN2.o (aC.same (by rw[ak HB.o,if_pos hb];rfl) HV2.o m)
    have be:(b==decide (x=1))=true:=by simp[hb]
    clear hb
    go_wp2_with fail
    go_ret
    exact FIN.o _ (ae.refl _)
   ·have FIN:Hq (∀w0 e w',ae w2 w0→gt w0 F1 p kn (eE D1 (dW c.pg c.st k) x) (.tuple #[]) e w'→e=.returned (.tuple #[])∧Turned F1 w0 w'∧∀w'',ae w' w''→aC w F p kn (fun y=> .int .i64 y) (ar (dR c.pg c.st k) (fun b=>if b=decide (x=1) then aA 0 else ar (cP (dW c.pg c.st k) x) (fun _=>aA (fw c.pg k))) kn D) (.returned (.int .i64 (fw c.pg k))) w''):=hQQ fun w0 e w' m hd=>by
     obtain⟨he,F2,hv3,ht3,hn3⟩:=hd
     refine⟨he,ht3,fun w'' m2=>?_⟩
     refine aC.from HT2.o HN2.o (aC.did (x:=fw c.pg k) (D:=eE D1 (dW c.pg c.st k) x) (by rw[ak HB.o,if_neg hb];rfl) ⟨rfl,F2,hv3.more m2,?_,fun k q=>(hn3 k q).imp id (fun r=>Nat.le_trans m.size r)⟩)
     exact am (F':=fun _=>False) (am (Turned.mono m (fun _ _ q=>q.elim)) ht3 (fun k q=> .inl q)) m2 (fun _ q=>q.elim)
    have be:(b==decide (x=1))=false:=by simp[hb]
    clear hb
    go_wp2_with (refine wpList_load_row rfl 139 _ rfl _ rfl 139 _ _ _ HC2.o Tryz.underlying139 rfl (by kernel_rfl) ?_)
    refine(Aw HR.o k _).mono ?_
    rintro e w3 ⟨rfl,h3⟩
    have HM3:=hQQ h3
    have HV3:=hQQ (HV2.o.more h3)
    have HC3:=hQQ (h3.block HC2.o)
    clear h3
    go_wp2_with fail
    refine(ya F1 p kn D1 (dW c.pg c.st k) x w3 HV3.o lD1).mono ?_
    intro e w4 he
    obtain⟨rfl,ht4,hf⟩:=FIN.o w3 e w4 HM3.o he
    have HF:=hQQ hf
    have nC1:¬F1 w.heap.size:=fun q=>by
     have h0:w.heap.size<w1.heap.size:=ac HC1.o
     rcases HN1.o _ q with r|r
     ·exact nC r
     ·omega
    have HC4:Hq (w4.heap[w.heap.size]?=_):=hQQ ((Turned.block ht4 _ (ac HC3.o) nC1).trans HC3.o)
    clear hf he ht4
    go_wp2_with (refine wpList_load_row rfl 139 _ rfl _ rfl 139 _ _ _ HC4.o Tryz.underlying139 rfl (by kernel_rfl) ?_)
    refine(Jw HR.o k _).mono ?_
    rintro e w5 ⟨rfl,h5⟩
    have HM5:=hQQ h5
    clear h5
    go_wp2_with fail
    go_ret
    exact HF.o _ HM5.o
attribute [local go_sem] Oper.semAt_some
section
variable {F:Fence}{n:Nat}{P:Program}{ops:Array Oper}{rest:List Oper}{o:Oper}{a:Act}{w:World}{Q:Exit→Act→World→Prop}
theorem gv (hw:Region.wanted o (yielded ops a.tmps)=true)(ty:TypeId)(x:Operand)(ho:o.op=.load ty x)(g:Nat)(hx:a.eval x=.pointer (some ⟨g,0,none⟩))(v:Value)
 (hr:(loadVar ty ⟨g,0,none⟩).run P w=.ok v w) (h:wpListIn F n P ops Q rest (a.put o.dst v) w):wpListIn F n P ops Q (o::rest) a w :=
 BigFrame.wpListIn_want hw fun K hK=>by
  refine⟨by simp[Oper.about,ho],?_⟩
  rw[Oper.semAt_plain F _ _ (by rw[ho];intro c hc;cases hc)]
  simp[execOp,ho,hx,Instr.loadAt,Instr.sureAddr,Sem.run_bind,hr,Result.andThen]
  exact hK _ _ h
theorem ej (hw:Region.wanted o (yielded ops a.tmps)=true)(ty:TypeId)(x:Operand)(ho:o.op=.load ty x)
 (g:Nat) (hx:a.eval x=.pointer (some ⟨g,0,none⟩)) (t:TypeId) (cs:Array Value) (fr:Nat×Nat) (d:TypeDesc) (hg:w.heap[g]?=some (.cells cs t fr))
 (hu:P.underlying ty=some d) (hd:(match d with| .struct _| .array _ _=>true|_=>false)=true) (hi:(P.info? ty).map (·.size)=some cs.size)
 (h:wpListIn F n P ops Q rest (a.put o.dst (.agg cs)) w):wpListIn F n P ops Q (o::rest) a w :=
 gv hw ty x ho g hx _ (run_loadVar_row w g t ty cs fr d hg hu hd hi) h
theorem jg (hw:Region.wanted o (yielded ops a.tmps)=true)(ty:TypeId)(x y:Operand)(ho:o.op=.store ty x y)
 (g:Nat) (hx:a.eval x=.pointer (some ⟨g,0,none⟩)) (cells:Array Value) (hy:a.eval y=.agg cells) (t:TypeId) (old:Array Value) (hg:w.heap[g]?=some (.cells old t (0,0)))
 (hi:(P.info? ty).map (·.size)=some cells.size) (hsz:old.size=cells.size) (hone:cells.all (·.oneCell')=true)
 (h:wpListIn F n P ops Q rest (a.put o.dst (.tuple #[])) (w.setRow g cells)):wpListIn F n P ops Q (o::rest) a w :=
 BigFrame.wpListIn_want hw fun K hK=>by
  refine⟨by simp[Oper.about,ho],?_⟩
  rw[Oper.semAt_plain F _ _ (by rw[ho];intro c hc;cases hc)]
  have hs:=run_storeVar_row (P:=P) w g t ty old cells hg hi hsz hone
  simp[execOp,ho,hx,hy,Instr.storeAt,Instr.sureAddr,Sem.run_bind,hs,Result.andThen]
  exact hK _ _ h
end
theorem sx {F:Fence}{n:Nat}{ops:Array Oper}{rest:List Oper}{o:Oper}{a:Act}{w:World}{Q:Exit→Act→World→Prop}(hw:Region.wanted o (yielded ops a.tmps)=true)(x y:Operand)(ho:o.op=.build 139 #[(0,x),(1,y)])(c:Cfg)(k:Int)
 (hx:a.eval x=.agg c.arr) (hy:a.eval y=.int .i64 k) (h:wpListIn F n Tryz.prog ops Q rest (a.put o.dst (.agg (ct c k))) w):wpListIn F n Tryz.prog ops Q (o::rest) a w :=
 BigFrame.wpListIn_want hw fun K hK=>by
  refine⟨by simp[Oper.about,ho],?_⟩
  rw[Oper.semAt_plain F _ _ (by rw[ho];intro c hc;cases hc)]
  have hb:=qI c k w
  simp only[execOp,ho,List.map_toArray,List.map_cons,List.map_nil,hx,hy,Sem.run_bind,hb,Result.andThen_ok]
  exact hK _ _ h
theorem wO {ops:Array Oper}{rest:List Oper}{o:Oper}{a:Act}{w:World}{Q:Exit→Act→World→Prop}(hw:Region.wanted o (yielded ops a.tmps)=true)(x y:Operand)(ho:o.op=.build 139 #[(0,x),(1,y)])(c:Cfg)(k:Int)
 (hx:a.eval x=.agg c.arr) (hy:a.eval y=.int .i64 k) (h:wpList Tryz.prog ops Q rest (a.put o.dst (.agg (ct c k))) w):wpList Tryz.prog ops Q (o::rest) a w :=
 eC hw fun K hK=>by
  have hb:=qI c k w
  unfold Oper.wp execOp
  simp only[ho,List.map_toArray,List.map_cons,List.map_nil,hx,hy,Sem.run_bind,hb,Result.andThen_ok]
  exact hK _ _ h
theorem CE {c:Cfg}(R:c.Ok)(p n:Int)(hp:W64 p)(w:World):Calls Tryz.prog 171 #[.agg c.arr,.int .i64 p,.int .i64 n] w (aU w (.bool (cm c.pg p n))):=by
 have HC:=hQQ (a7 w c.arr 28)
 have HM:Hq (ae w (w.alloc (.cells c.arr 28))):=(ae.refl w).alloc _
 have hfl:=fx c
 have p1:=R.pg1
 have p2:=R.pg2
 by_cases c0:0≤p
 ·by_cases c1:1≤n
  ·have q1:IntKind.i64.wrap (c.pg-p)=c.pg-p:=by unfold W64 at hp;exact aB (by omega) (by omega)
   rw[show cm c.pg p n=decide (n≤c.pg-p) by unfold cm;simp[c0,c1]]
   clear p1 p2 hp
   go_enter Tryz.func171,Tryz.ntmps171
   go_wp2_with (refine af rfl 28 _ rfl _ rfl 28 _ _ _ HC.o Tryz.underlying28 rfl (by kernel_rfl) ?_)
   refine(dx R _).mono ?_
   rintro e w2 ⟨rfl,h2⟩
   have HM2:=hQQ (HM.o.trans h2)
   clear h2
   go_wp2_with fail
   go_ret
   exact⟨rfl,HM2.o⟩
  ·rw[show cm c.pg p n=false by unfold cm;simp[c1]]
   have d1:decide (1≤n)=false:=by simp;omega
   go_enter Tryz.func171,Tryz.ntmps171
   go_wp2_with fail
   go_ret
   exact⟨rfl,HM.o⟩
 ·rw[show cm c.pg p n=false by unfold cm;simp[c0]]
  have d0:decide (0≤p)=false:=by simp;omega
  go_enter Tryz.func171,Tryz.ntmps171
  go_wp2_with fail
  go_ret
  exact⟨rfl,HM.o⟩
def el (pg p n:Int):Nat:=if cm pg p n then spanV p n else 0
def c7 (w:World)(b:Nat)(x:Int):Prop:=w.heap[b]?=some (.cells #[.int .i64 x] 3 (0,0))
theorem Jy (n:Nat){c:Cfg}(p q:Int)(w:World):
 CallsIn Fence.wide n Tryz.prog 165 #[.agg c.arr,.int .i64 p,.int .i64 q] w fun e w' =>
  e=.returned (.func (.func 170) #[] #[.pointer (some ⟨w.heap.size,0,none⟩),.pointer (some ⟨w.heap.size+1,0,none⟩),.pointer (some ⟨w.heap.size+2,0,none⟩)]) ∧
  w'=((w.alloc (.cells c.arr 28)).alloc (.cells #[.int .i64 p] 3)).alloc (.cells #[.int .i64 q] 3):=by
 refine callsIn_of_wp Tryz.func165 rfl trivial ?_ rfl
 simp only[Tryz.ntmps165,List.size_toArray,List.length_cons,List.length_nil,Nat.reduceAdd,Nat.reduceSub,Array.replicate_succ,Array.replicate_zero,List.push_toArray,List.append_toArray,List.nil_append,List.cons_append]
 gi_wp2
 go_ret
 exact⟨rfl,rfl⟩
theorem DT (c:Cfg)(p q:Int)(w:World):
 (((w.alloc (.cells c.arr 28)).alloc (.cells #[.int .i64 p] 3)).alloc (.cells #[.int .i64 q] 3)).heap[w.heap.size]?=some (.cells c.arr 28 (0,0)) ∧
 c7 (((w.alloc (.cells c.arr 28)).alloc (.cells #[.int .i64 p] 3)).alloc (.cells #[.int .i64 q] 3)) (w.heap.size+1) p ∧
 c7 (((w.alloc (.cells c.arr 28)).alloc (.cells #[.int .i64 p] 3)).alloc (.cells #[.int .i64 q] 3)) (w.heap.size+2) q:=by
 have h0:=bh w (.cells c.arr 28)
 have s0:(w.alloc (.cells c.arr 28)).heap.size=w.heap.size+1:=by simp
 generalize w.alloc (.cells c.arr 28)=w1 at h0 s0⊢
 have h1:=bh w1 (.cells #[.int .i64 p] 3)
 rw[s0] at h1
 have s1:(w1.alloc (.cells #[.int .i64 p] 3)).heap.size=w.heap.size+2:=by simp[s0]
 have m1:ae w1 (w1.alloc (.cells #[.int .i64 p] 3)):=(ae.refl _).alloc _
 generalize w1.alloc (.cells #[.int .i64 p] 3)=w2 at h1 s1 m1⊢
 have h2:=bh w2 (.cells #[.int .i64 q] 3)
 rw[s1] at h2
 have m2:ae w2 (w2.alloc (.cells #[.int .i64 q] 3)):=(ae.refl _).alloc _
 exact⟨m2.block (m1.block h0),m2.block h1,h2⟩
theorem DU (n:Nat)(hn:1≤n){c:Cfg}(R:c.Ok)(p q:Int)(hp:W64 p)(bl bp bq:Nat)(w0:World)(hl:w0.heap[bl]?=some (.cells c.arr 28 (0,0)))(hbp:c7 w0 bp p)(hbq:c7 w0 bq q):
 Cr Fence.wide n Tryz.prog 170 #[.pointer (some ⟨bl,0,none⟩),.pointer (some ⟨bp,0,none⟩),.pointer (some ⟨bq,0,none⟩)] (fun i=> #[.agg (ct c (p / 4+(i:Int)))]) (el c.pg p q) (fun k=>k=bl∨k=bp∨k=bq) w0:=by
 intro l J Jx W hW hJ hJx hY h0
 have HL:=hQQ (hW.block hl)
 have HP:=hQQ (hW.block hbp)
 have HQ:=hQQ (hW.block hbq)
 have HR:=hQQ R
 have cp:=(aE HP.o).1
 have cq:=(aE HQ.o).1
 have TH:=hQQ (fun w=>CE (c:=c) R p q hp w)
 have HJ:=hQQ hJ
 have HJx:=hQQ hJx
 have HY:=hQQ hY
 clear hl hbp hbq hW hJ hJx hY
 refine callsIn_of_wp Tryz.func170 rfl trivial ?_ rfl
 simp only[Tryz.ntmps170,List.size_toArray,List.length_cons,List.length_nil,Nat.reduceAdd,Nat.reduceSub,Array.replicate_succ,Array.replicate_zero,List.push_toArray,List.append_toArray,List.nil_append,List.cons_append]
 cases hth:cm c.pg p q with
 |false =>
  have hN:el c.pg p q=0:=by unfold el;rw[hth];rfl
  rw[hN] at HY⊢
  gi_wp2_with (first
   |(refine ej rfl 28 _ rfl _ rfl 28 _ _ _ HL.o Tryz.underlying28 rfl (by kernel_rfl) ?_)
   |((with_reducible refine And.intro ?_ ?_);exact trivial;gi_at_call 171;refine(callsIn_wide.2 (TH.o _)).mono ?_;rw[hth];rintro e w' ⟨rfl,h1⟩;have M1:=hQQ h1;clear h1))
  refine bodyPost_ret (results_none rfl _ _ _) rfl ?_
  exact .inl ⟨⟨_,rfl⟩,.inl (HJ.o _ _ _ h0 M1.o)⟩
 |true =>
  have hN:el c.pg p q=spanV p q:=by unfold el;rw[hth];rfl
  rw[hN] at HY⊢
  obtain⟨r0,r1,r2⟩:=dZ.1 hth
  have pg2:=R.pg2
  have q1:IntKind.i64.wrap (p+q)=p+q:=aB (by omega) (by omega)
  have q2:IntKind.i64.wrap (p+q-1)=p+q-1:=aB (by omega) (by omega)
  have o1:ofV p=p / 4:=if_neg (by omega)
  have o2:ofV (p+q-1)=(p+q-1) / 4:=if_neg (by omega)
  obtain⟨sp,_⟩:=Av hth pg2
  have OP:=hQQ (fun w=>Ls p (by omega) (by omega) w)
  have OQ:=hQQ (fun w=>Ls (p+q-1) (by omega) (by omega) w)
  rw[o1] at OP
  rw[o2] at OQ
  clear o1 o2 r1 R hp
  gi_wp2_with (first
   |(refine ej rfl 28 _ rfl _ rfl 28 _ _ _ HL.o Tryz.underlying28 rfl (by kernel_rfl) ?_)
   |((with_reducible refine And.intro ?_ ?_);exact trivial;gi_at_call 171;refine(callsIn_wide.2 (TH.o _)).mono ?_;rw[hth];rintro e w' ⟨rfl,h1⟩;have M1:=hQQ h1;have cp1:=h1.cell cp;clear h1)
   |((with_reducible refine And.intro ?_ ?_);exact trivial;gi_at_call 57;refine(callsIn_wide.2 (OP.o _)).mono ?_;rintro e w' ⟨rfl,rfl⟩))
  have J0:=hQQ (HJ.o _ _ _ h0 M1.o)
  have HL1:=hQQ (M1.o.block HL.o)
  have HP1:=hQQ (M1.o.block HP.o)
  have HQ1:=hQQ (M1.o.block HQ.o)
  clear cp cq cp1 h0
  gi_loopw [5] (fun u wr=>∃i:Nat,i≤spanV p q∧u=.int .i64 (p / 4+(i:Int))∧J i wr∧wr.heap[bl]?=some (.cells c.arr 28 (0,0))∧c7 wr bp p∧c7 wr bq q) (fun u _=>((p+q-1) / 4+1-intOf u).toNat)
  case atStart=>exact⟨0,Nat.zero_le _,by simp,J0.o,HL1.o,HP1.o,HQ1.o⟩
  case round =>
   obtain⟨i,hi,rfl,hJi,hli,hpi,hqi⟩:=hrel
   have cpi:=(aE hpi).1
   have cqi:=(aE hqi).1
   have HLi:=hQQ hli
   have HPi:=hQQ hpi
   have HQi:=hQQ hqi
   have HJi:=hQQ hJi
   clear hli hpi hqi hJi
   by_cases hlt:i<spanV p q
   ·obtain⟨fn,tmps,assign,body,hy,hR⟩:=HY.o i wr hlt HJi.o
    have hld:(loadVar 28 ⟨bl,0,none⟩).run Tryz.prog wr=.ok (.agg c.arr) wr:=run_loadVar_row wr bl _ _ _ _ _ HLi.o Tryz.underlying28 rfl (by kernel_rfl)
    have d1:decide (p / 4+(i:Int)≤(p+q-1) / 4)=true:=by simp;omega
    have q3:IntKind.i64.wrap (p / 4+(i:Int)+1)=p / 4+(i:Int)+1:=aB (by omega) (by omega)
    gi_wp2_with (first
     |((with_reducible refine gv ?_ 28 (.tmp 1) ?_ bl ?_ (.agg c.arr) ?_ ?_);rfl;rfl;rfl;exact hld)
     |((with_reducible refine sx ?_ (.tmp 23) (.tmp 24) ?_ c (p / 4+(i:Int)) ?_ ?_ ?_);rfl;rfl;rfl;rfl)
     |((with_reducible refine And.intro ?_ ?_);exact trivial;gi_at_call 57;refine(callsIn_wide.2 (OQ.o _)).mono ?_;rintro e w' ⟨rfl,rfl⟩))
    refine hR.mono ?_
    rintro e W3 (⟨rfl,hJ3,hs3⟩|⟨he,hJx3⟩)
    ·have HL3:=hQQ ((hs3 bl (.inl rfl)).trans HLi.o)
     have HP3:=hQQ ((hs3 bp (.inr (.inl rfl))).trans HPi.o)
     have HQ3:=hQQ ((hs3 bq (.inr (.inr rfl))).trans HQi.o)
     clear hs3
     gi_wp2
     go_roundw
     case rel=>exact⟨i+1,by omega,by go_num,hJ3,HL3.o,HP3.o,HQ3.o⟩
     case measure=>simp[intOf];omega
    ·rcases he with rfl|⟨ch,rfl⟩
     ·gi_wp2
      refine bodyPost_ret (results_none rfl _ _ _) rfl ?_
      exact .inl ⟨⟨_,rfl⟩,.inr ⟨i,hlt,hJx3⟩⟩
     ·exact⟨rfl,.inr ⟨ch,i,rfl,hlt,hJx3⟩⟩
   ·obtain rfl:i=spanV p q:=by omega
    have d1:decide (p / 4+((spanV p q:Nat):Int)≤(p+q-1) / 4)=false:=by simp;omega
    gi_wp2_with (first
     |((with_reducible refine And.intro ?_ ?_);exact trivial;gi_at_call 57;refine(callsIn_wide.2 (OQ.o _)).mono ?_;rintro e w' ⟨rfl,rfl⟩))
    go_end0
    exact .inl ⟨⟨_,rfl⟩,.inl HJi.o⟩
theorem jh {α:Type}{w w':World}{F:Nat→Prop}{p:Nat}{kn:Int→Option Int}{val:α→Value}{R:Res α}{e:Ending}(h:aC w F p kn val R e w'):(∃a,R=.need a∧e=.panicked (aY p))∨∃x D,R=.ok x D∧e=.returned (val x):=by
 cases R with
 |need a=>exact .inl ⟨a,rfl,h.1⟩
 |ok x D=>exact .inr ⟨x,D,rfl,h.1⟩
theorem Gu {c:Cfg}(R:c.Ok)(F:Nat→Prop)(p:Nat)(kn:Int→Option Int)(D:List KV)(k:Int)(w:World)(hv:aK w F p kn D):
 Calls Tryz.prog 56 #[.pointer (some ⟨p,0,none⟩),.agg c.arr,.int .i64 k] w (aC w F p kn (fun b=> .bool b) (dR c.pg c.st k kn D)):=by
 have HC:=hQQ (a7 w c.arr 28)
 have HM:Hq (ae w (w.alloc (.cells c.arr 28))):=(ae.refl w).alloc _
 have HV:=hQQ (hv.more HM.o)
 clear hv
 go_enter Tryz.func56,Tryz.ntmps56
 go_wp2_with (first|refine wpList_load_row rfl 28 _ rfl _ rfl 28 _ _ _ HC.o Tryz.underlying28 rfl (by kernel_rfl) ?_|((with_reducible refine wO ?_ (.tmp 7) (.tmp 8) ?_ c k ?_ ?_ ?_);rfl;rfl;rfl;rfl))
 refine(sw R F p kn D k _ HV.o).mono ?_
 intro e w1 he
 have FIN:=hQQ (he.after HM.o)
 rcases jh he with⟨a,_,rfl⟩|⟨x,D',_,rfl⟩
 ·exact⟨rfl,FIN.o⟩
 ·clear he
  go_wp2_with fail
  go_ret
  exact FIN.o
theorem fy {S:Nat→Prop}{w w':World}(h:Turned S w w')(l:Nat)(o:Obj)(hl:l<w.heap.size→S l):Turned S w (w'.putObj l o):=
 ⟨h.os,h.tape,h.output,by simpa using h.size,fun k hk hs=>by
  rw[World.putObj_heap_other (by rintro rfl;exact hs (hl hk))];exact Turned.block h k hk hs⟩
structure OnV (w6 W:World)(F T:Nat→Prop)(p:Nat)(kn:Int→Option Int)(n:Nat)(D:List KV)(F':Nat→Prop):Prop where
 view:aK W F' p kn D
 from':∀k,F' k→F k∨w6.heap.size+2≤k
 turn:Turned (fun k=>F k∨T k) w6 W
 inv:cF n D
namespace OnV
variable {w6 W W':World}{F T F':Nat→Prop}{p n:Nat}{kn:Int→Option Int}{D:List KV}
theorem begin (hv:aK w6 F p kn D)(hD:cF n D):OnV w6 w6 F T p kn n D F:=⟨hv,fun k q=> .inl q,Turned.refl _ _,hD⟩
theorem more (h:OnV w6 W F T p kn n D F')(m:ae W W'):OnV w6 W' F T p kn n D F' :=
 ⟨h.view.more m,h.from',am (F':=fun _=>False) h.turn m (fun _ q=>q.elim),h.inv⟩
theorem put (h:OnV w6 W F T p kn n D F')(hF:∀k,F k→k<w6.heap.size){r:Loop}(r':Loop)(hl:W.heap[w6.heap.size+1]?=some (.loop r)):OnV w6 (W.putObj (w6.heap.size+1) (.loop r')) F T p kn n D F' :=
 ⟨h.view.keepS (S:=fun k=>k=w6.heap.size+1) (fy (Turned.refl _ W) _ _ (fun _=>rfl))
  (fun k q e=>by subst e;rcases h.from' _ q with r|r;have:=hF _ r;omega;omega)
  (fun k es cl e q=>by subst e;rw[hl] at q;cases q),
  h.from',fy h.turn _ _ (fun q=>by omega),h.inv⟩
theorem box (h:OnV w6 W F T p kn n D F'){b:Nat}(hT:T b)(hF:∀k,F k→k<b)(hb:b<w6.heap.size)(v:Value){o:Obj}(ho:W.heap[b]?=some o)(hm:∀es cl,o≠ .map es cl):OnV w6 (W.setCell ⟨b,0,none⟩ v) F T p kn n D F' :=
 ⟨h.view.keepS (S:=fun k=>k=b) (Turned.setCell (S:=fun k=>k=b) (Turned.refl _ W) ⟨b,0,none⟩ v (fun _=>rfl))
  (fun k q e=>by subst e;rcases h.from' _ q with r|r;have:=hF _ r;omega;omega)
  (fun k es cl e q=>by subst e;rw[ho] at q;cases q;exact hm _ _ rfl),
  h.from',h.turn.setCell ⟨b,0,none⟩ v (fun _=> .inr hT),h.inv⟩
theorem step (h:OnV w6 W F T p kn n D F')(hs:w6.heap.size+2≤W.heap.size){D1:List KV}{v:Value}{e:Ending}(m:ae W W'){W2:World}(hd:gt W' F' p kn D1 v e W2)(hI:cF n D1):
 e=.returned v∧∃F1,OnV w6 W2 F T p kn n D1 F1∧Turned F' W W2:=by
 obtain⟨he,F1,hv,ht,hn⟩:=hd
 refine⟨he,F1,⟨hv,fun k q=>?_,am (am (F':=fun _=>False) h.turn m (fun _ q=>q.elim)) ht (fun k q=>(h.from' k q).imp .inl (fun r=>by omega)),hI⟩,am (Turned.mono m (fun _ _ q=>q.elim)) ht (fun k q=> .inl q)⟩
 rcases hn k q with r|r
 ·exact h.from' k r
 ·have:=m.size;exact .inr (by omega)
theorem same (h:OnV w6 W F T p kn n D F')(hF:∀k,F k→k<w6.heap.size)(hs:w6.heap.size+2≤W.heap.size){W2:World}(t:Turned F' W W2):bM (dJ w6.heap.size) W W2 :=
 bM.turned t (fun k q=>by rcases q with q|q<;>omega) (fun k q r=>by
  rcases h.from' k r with s|s
  ·have:=hF k s;rcases q with q|q<;>omega
  ·rcases q with q|q<;>omega)
theorem sameS (h:OnV w6 W F T p kn n D F'){S:Nat→Prop}(hS:∀k,S k→k<w6.heap.size∧¬F k){W2:World}(t:Turned F' W W2):bM S W W2 :=
 bM.turned t (fun k q=>Nat.lt_of_lt_of_le (hS k q).1 h.turn.size) (fun k q r=>by
  rcases h.from' k r with s|s
  ·exact(hS k q).2 s
  ·have:=(hS k q).1;omega)
end OnV
def nZ (w6 W:World)(F T:Nat→Prop)(p:Nat)(a:Int):Prop:=aQ W p a∧Turned (fun k=>F k∨T k) w6 W
theorem nZ.of {w6 W W' W2:World}{F T F':Nat→Prop}{p n:Nat}{kn:Int→Option Int}{D:List KV}(h:OnV w6 W F T p kn n D F')(hs:w6.heap.size≤W.heap.size)(m:ae W W'){a:Int}{e:Ending}(he:uT W' F' p a e W2):e=.panicked (aY p)∧nZ w6 W2 F T p a∧Turned F' W W2 :=
 ⟨he.1,⟨he.2.1,am (am (F':=fun _=>False) h.turn m (fun _ q=>q.elim)) he.2.2 (fun k q=>(h.from' k q).imp .inl (fun r=>by omega))⟩,am (Turned.mono m (fun _ _ q=>q.elim)) he.2.2 (fun k q=> .inl q)⟩
theorem nZ.more {w6 W W':World}{F T:Nat→Prop}{p:Nat}{a:Int}(h:nZ w6 W F T p a)(m:ae W W'):nZ w6 W' F T p a :=
 ⟨h.1.keep m (fun q=>q),am (F':=fun _=>False) h.2 m (fun _ q=>q.elim)⟩
theorem nZ.put {w6 W:World}{F T:Nat→Prop}{p:Nat}{a:Int}(h:nZ w6 W F T p a){l:Nat}{o:Obj}(hl:W.heap[l]?=some o)(ho:o.isCells=false)(hb:w6.heap.size≤l)(o':Obj):nZ w6 (W.putObj l o') F T p a:=by
 refine⟨?_,fy h.2 _ _ (fun q=>by omega)⟩
 obtain⟨M,q,hp⟩:=h.1
 exact⟨M,q,(World.putObj_heap_other (by rintro rfl;rw[hl] at hp;cases hp;cases ho)).trans hp⟩
theorem Gv {α:Type}{w w6 W:World}{F T:Nat→Prop}{p:Nat}{kn:Int→Option Int}{a:Int}{val:α→Value}{R:Res α}(m:ae w w6)(hT:∀k,T k→w.heap.size≤k)(h:nZ w6 W F T p a)(hR:R=.need a):aC w F p kn val R (.panicked (aY p)) W :=
 aC.need hR ⟨rfl,h.1,am (Turned.mono m (fun _ _ q=>q.elim)) h.2 (fun k q=>q.imp id (hT k))⟩
theorem Jz {α:Type}{w w6 W W2:World}{F T F' S:Nat→Prop}{p n:Nat}{kn:Int→Option Int}{D:List KV}{val:α→Value}{R:Res α}{x:α}(m:ae w w6)(hT:∀k,T k→w.heap.size≤k)(h:OnV w6 W F T p kn n D F')(hR:R=.ok x D)
 (t:Turned S W W2) (hS:∀k,S k→w.heap.size≤k∧¬F' k) (hM:∀k es cl,S k→W.heap[k]? ≠some (.map es cl)):aC w F p kn val R (.returned (val x)) W2:=by
 refine aC.did hR ⟨rfl,F',h.view.keepS t (fun k q r=>(hS k r).2 q) hM,?_,fun k q=>(h.from' k q).imp id (fun r=>by have:=m.size;omega)⟩
 exact am (am (Turned.mono m (fun _ _ q=>q.elim)) h.turn (fun k q=>q.imp id (hT k))) t (fun k q=> .inr (hS k q).1)
section
variable (w6:World)(F:Nat→Prop)(b p:Nat)(tb:TypeId)(kn:Int→Option Int)(n:Nat)
def CF (Sem:List KV→Value→Prop)(W:World):Prop:=∃F' D' v,OnV w6 W F (fun k=>k=b) p kn n D' F'∧W.heap[b]?=some (.cells #[v] tb (0,0))∧Sem D' v
def Gw (NeedR:Int→Prop)(Ret:List KV→Value→Prop):Exit→World→Prop
 | .panic ch,W=>ch=aY p∧∃a,NeedR a∧nZ w6 W F (fun k=>k=b) p a
 | .ret,W=>CF w6 F b p tb kn n Ret W
 | _,_=>False
def KY (Sem:List KV→Value→Prop)(tc:TypeId)(cs:Array Value)(acts:Nat→Act)(a':Act)(W:World):Prop :=
 ∃Bx F' D' v,w6.heap.size+2≤Bx∧¬F' Bx∧W.heap[Bx]?=some (.cells cs tc (0,0))∧OnV w6 W F (fun k=>k=b) p kn n D' F'∧W.heap[b]?=some (.cells #[v] tb (0,0))∧Sem D' v∧a'=acts Bx
end
section
variable {w6:World}{F:Nat→Prop}{b p:Nat}{tb:TypeId}{kn:Int→Option Int}{n:Nat}
theorem qJ (hF:∀k,F k→k<w6.heap.size)(hb:b<w6.heap.size)(Sem:List KV→Value→Prop):i5 w6.heap.size (CF w6 F b p tb kn n Sem):=
 ⟨fun {A A'} h m=>by obtain⟨F',D',v,h1,h2,h3⟩:=h;exact⟨F',D',v,h1.more m,m.block h2,h3⟩,
  fun {A r} r' h hl=>by obtain⟨F',D',v,h1,h2,h3⟩:=h;exact⟨F',D',v,h1.put hF r' hl,(World.putObj_heap_other (by omega)).trans h2,h3⟩⟩
theorem yo (hF:∀k,F k→k<w6.heap.size)(hb:b<w6.heap.size)(NeedR:Int→Prop)(Ret:List KV→Value→Prop)(e:Exit):i5 w6.heap.size (Gw w6 F b p tb kn n NeedR Ret e):=by
 cases e with
 |panic ch =>
  exact⟨fun {A A'} h m=>by obtain⟨h1,a,h2,h3⟩:=h;exact⟨h1,a,h2,h3.more m⟩,
   fun {A r} r' h hl=>by obtain⟨h1,a,h2,h3⟩:=h;exact⟨h1,a,h2,h3.put hl rfl (by omega) _⟩⟩
 |ret=>exact qJ hF hb Ret
 |normal=>exact⟨fun {A A'} h m=>h,fun {A r} r' h hl=>h⟩
 |exit _=>exact⟨fun {A A'} h m=>h,fun {A r} r' h hl=>h⟩
 |goto _=>exact⟨fun {A A'} h m=>h,fun {A r} r' h hl=>h⟩
 |outgrown=>exact⟨fun {A A'} h m=>h,fun {A r} r' h hl=>h⟩
theorem yp (hF:∀k,F k→k<w6.heap.size)(hb:b<w6.heap.size)(Sem:List KV→Value→Prop)(tc:TypeId)(cs:Array Value)(acts:Nat→Act)(a':Act):i5 w6.heap.size (KY w6 F b p tb kn n Sem tc cs acts a'):=
 ⟨fun {A A'} h m=>by obtain⟨Bx,F',D',v,h0,h1,h2,h3,h4,h5⟩:=h;exact⟨Bx,F',D',v,h0,h1,m.block h2,h3.more m,m.block h4,h5⟩,
  fun {A r} r' h hl=>by
   obtain⟨Bx,F',D',v,h0,h1,h2,h3,h4,h5⟩:=h
   exact⟨Bx,F',D',v,h0,h1,(World.putObj_heap_other (by omega)).trans h2,h3.put hF r' hl,(World.putObj_heap_other (by omega)).trans h4,h5⟩⟩
end
attribute [local go_sem] Oper.semAt_some
def wP:Array Value:= #[.int .i64 0,.int .i64 0,.int .i64 0,.int .i64 0,.int .i64 0,.int .i64 0,.int .i64 0,.int .i64 0,.int .i64 0,.int .i64 0,.int .i64 0,.int .i64 0,.int .i64 0,.int .i64 0,.int .i64 0,.int .i64 0,.int .i64 0,.int .i64 0,.int .i64 0,.int .i64 0,.int .i64 0,.int .i64 0,.int .i64 0,.int .i64 0,.int .i64 0]
theorem JA (c:Cfg)(k:Int):(ct c k).all (·.oneCell')=true:=by
 unfold ct
 rw[Array.all_push]
 have:c.arr.all (·.oneCell')=true:=kx ..
 rw[this];rfl
theorem DV (W:World)(c:Cfg)(k:Int):((W.alloc (.cells wP 139)).setRow W.heap.size (ct c k)).heap[W.heap.size]?=some (.cells (ct c k) 139 (0,0))∧ae W ((W.alloc (.cells wP 139)).setRow W.heap.size (ct c k)):=
 ⟨setRow_heap _ _ _ _ _ _ (bh W _),((ae.refl W).alloc _).setRow _ _ (Nat.le_refl _)⟩
theorem mO {S:Nat→Prop}{W W':World}(m:ae W W')(hS:∀k,S k→k<W.heap.size):bM S W W':=bM.turned m hS (fun _ _ q=>q)
end Go.Proofs.YtddmeghbmdfgeaaGreatDoor
