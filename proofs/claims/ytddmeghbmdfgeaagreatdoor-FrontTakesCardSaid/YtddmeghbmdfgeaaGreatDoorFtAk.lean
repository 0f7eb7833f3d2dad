/-
  What the document's own functions of extents do with words.
-/
import Derived.Test.YtddmeghbmdfgeaaGreatDoorFtAj
import Derived.Test.YtddmeghbmdfgeaaGreatDoorFtAg
set_option maxRecDepth 100000
set_option maxHeartbeats 8000000
set_option linter.all false
namespace Go.Proofs.YtddmeghbmdfgeaaGreatDoor
open Go.RowKit Go.Sort Go.Maps Go.Shelf
def opN (pg st:Int)(ws:List Int)(mp:Bool):Nat→Int→Bool
 | 0,_=>true
 |m+1,q=>(decide (aV pg st ws q=0) && (!mp ||bP pg st ws (ofV q))) && opN pg st ws mp m (q+1)
theorem OD (pg st:Int)(ws:List Int)(mp:Bool)(m:Nat):∀q:Int,opN pg st ws mp m q=true↔∀i:Int,q≤i→i<q+m→aV pg st ws i=0∧(mp=true→bP pg st ws (ofV i)=true):=by
 induction m with
 |zero=>intro q;exact⟨fun _ i h0 h1=>by omega,fun _=>rfl⟩
 |succ m ih =>
  intro q
  show((decide (aV pg st ws q=0) && (!mp ||bP pg st ws (ofV q))) && opN pg st ws mp m (q+1))=true↔_
  rw[Bool.and_eq_true,Bool.and_eq_true,ih]
  constructor
  ·rintro⟨⟨h0,h1⟩,h2⟩ i hi hl
   by_cases e:i=q
   ·subst e
    refine⟨by simpa using h0,fun hm=>?_⟩
    rw[hm] at h1;simpa using h1
   ·exact h2 i (by omega) (by omega)
  ·intro h
   obtain⟨a,b⟩:=h q (by omega) (by omega)
   refine⟨⟨by simpa using a,?_⟩,fun i hi hl=>h i (by omega) (by omega)⟩
   cases mp with
   |false=>rfl
   |true=>simpa using b rfl
def Dp (f:Int→Bool)(pg m q:Int):Prop:=q≤pg-m∧∀i,q≤i→i<q+m→f i=true
theorem Br {f:Int→Bool}(m:Nat):∀q:Int,oh f m q=none→∀i,q≤i→i<q+m→f i=true:=by
 induction m with
 |zero=>intro q _ i h0 h1;omega
 |succ m ih =>
  intro q h i h0 h1
  have h:(if f q then oh f m (q+1) else some q)=none:=h
  by_cases e:f q=true
  ·rw[if_pos e] at h
   by_cases ei:i=q
   ·rw[ei];exact e
   ·exact ih (q+1) h i (by omega) (by omega)
  ·rw[if_neg e] at h;cases h
theorem Bt {f:Int→Bool}(m:Nat):∀q x:Int,oh f m q=some x→q≤x∧x<q+m∧f x=false:=by
 induction m with
 |zero=>intro q x h;cases h
 |succ m ih =>
  intro q x h
  have h:(if f q then oh f m (q+1) else some q)=some x:=h
  by_cases e:f q=true
  ·rw[if_pos e] at h
   obtain⟨a,b,c⟩:=ih (q+1) x h
   exact⟨by omega,by omega,c⟩
  ·rw[if_neg e] at h
   cases h
   exact⟨by omega,by omega,by simpa using e⟩
theorem Bu {f:Int→Bool}{pg m step:Int}(h1:1≤m)(h2:1≤step)(j:Nat):∀p d:Int,p=d * step→0≤p→pg<p+j →
 (pM f pg m step j p= -1∧∀k:Int,p≤k * step→¬Dp f pg m (k * step))∨∃k:Int,pM f pg m step j p=k * step∧p≤k * step∧Dp f pg m (k * step)∧∀l:Int,p≤l * step→l * step<k * step→¬Dp f pg m (l * step):=by
 induction j with
 |zero=>intro p d hp h0 hj;exact .inl ⟨rfl,fun k hk hh=>by have:=hh.1;omega⟩
 |succ j ih =>
  intro p d hp h0 hj
  unfold pM
  by_cases e:p≤pg-m
  ·rw[if_pos e]
   cases hs:oh f m.toNat p with
   |none =>
    have:=Br _ _ hs
    exact .inr ⟨d,hp,by omega,⟨by omega,fun i a b=>this i (by omega) (by omega)⟩,fun l a b=>by omega⟩
   |some q =>
    obtain⟨s0,s1,s2⟩:=Bt _ _ _ hs
    have q0:q / step * step≤q:=Int.ediv_mul_le q (by omega)
    have q1:q<(q / step+1) * step:=Int.lt_ediv_add_one_mul_self q (by omega)
    have skip:∀l:Int,p≤l * step→l * step<(q / step+1) * step→¬Dp f pg m (l * step):=fun l a b hh=>by
     have hl:l<q / step+1:=Int.lt_of_mul_lt_mul_right b (by omega)
     have hl2:l * step≤q / step * step:=Int.mul_le_mul_of_nonneg_right (by omega) (by omega)
     have:=hh.2 q (by omega) (by omega)
     rw[s2] at this;cases this
    rcases ih ((q / step+1) * step) (q / step+1) rfl (by omega) (by omega) with⟨a,b⟩|⟨k,a,b,c,d'⟩
    ·refine .inl ⟨a,fun k hk=>?_⟩
     rcases Int.lt_or_le (k * step) ((q / step+1) * step) with z|z
     ·exact skip k hk z
     ·exact b k z
    ·refine .inr ⟨k,a,by omega,c,fun l hl hl2=>?_⟩
     rcases Int.lt_or_le (l * step) ((q / step+1) * step) with z|z
     ·exact skip l hl z
     ·exact d' l z hl2
  ·rw[if_neg e]
   exact .inl ⟨rfl,fun k hk hh=>by have:=hh.1;omega⟩
section
variable {pg st:Int}{n:Nat}(H:PgIn pg st n)
include H
end
def cj (pg a:Int)(ws:List Int):Int:=if a=0 then -1 else im pg (wAt ws a)
def plThrV (pg st p:Int):Nat→Int→List Int→List Int→List Int×Bool
 | 0,_,l,_=>(l,false)
 |m+1,a,l,ws=>if cj pg a ws=p then(l,true) else if cj pg a ws= -1 then(l,false) else plThrV pg st p m (nA pg st (cj pg a ws)) (l++ [cj pg a ws]) ws
def cV (pg st h p q:Int)(ws:List Int):List Int:=if q= -1 then ws.set (if p= -1 then h else nA pg st p).toNat (q+1) else(ws.set (if p= -1 then h else nA pg st p).toNat (q+1)).set (vA pg st q).toNat (p+1)
def eI (pg st p c f:Int)(ws:List Int):Bool×List Int:=if aH pg st c f≠0∧af pg p=true then(true,cV pg st (aH pg st c f) (-1) p (cV pg st (aH pg st c f) p (cj pg (aH pg st c f) ws) ws)) else(false,ws)
def cD (pg st p c f:Int)(ws:List Int):Bool×List Int:=if af pg p=true∧(plThrV pg st p pg.toNat (aH pg st c f) [] ws).2=true then(true,((cV pg st (aH pg st c f) (cE (plThrV pg st p pg.toNat (aH pg st c f) [] ws).1) (cj pg (nA pg st p) ws) ws).set (nA pg st p).toNat 0).set (vA pg st p).toNat 0) else(false,ws)
def df (pg st c:Int):Nat→Int→List Int→Int
 | 0,_,_=> -1
 |m+1,f,ws=>if cj pg (aH pg st c f) ws= -1 then df pg st c m (f+1) ws else cj pg (aH pg st c f) ws
section
variable {pg st:Int}{n:Nat}(H:cF pg st n)
include H
theorem j2 {a:Int}(h0:0≤a)(ha:a<n):ci n (ep pg a) (fun ws=>(cj pg a ws,ws)):=by
 unfold ep cj
 by_cases e:a=0
 ·simp only[if_pos e];exact au n (-1)
 ·simp only[if_neg e];exact aC (dI h0 ha) (fun x=>au n (im pg x))
theorem tM (a:Int)(ws:List Int):cj pg a ws= -1∨af pg (cj pg a ws)=true:=by
 unfold cj
 split
 ·exact .inl rfl
 ·exact yQ H _
theorem zr (p:Int)(m:Nat):∀(a:Int) (l:List Int),0≤a→a<n→ci n (lr pg st p m a l) (fun ws=>(plThrV pg st p m a l ws,ws)):=by
 induction m with
 |zero=>intro a l _ _;exact au n (l,false)
 |succ m ih =>
  intro a l h0 ha
  refine aX (gx (Q:=fun q:Int=>q= -1∨af pg q=true) (j2 H h0 ha) (fun ws _=>tM H a ws) (fun q hq=>bh (fun _=>au n (l,true)) (fun _=>bh (fun _=>au n (l,false)) (fun hne=>by
   have hp:=hq.resolve_left hne
   have:=(eH H hp).1
   exact ih (nA pg st q) (l++ [q]) (by omega) this.2.1)))) (fun ws _=>?_)
  show _=(if cj pg a ws=p then(l,true) else if cj pg a ws= -1 then(l,false) else plThrV pg st p m (nA pg st (cj pg a ws)) (l++ [cj pg a ws]) ws,ws)
  by_cases e:cj pg a ws=p
  ·simp only[if_pos e]
  ·by_cases e2:cj pg a ws= -1
   ·simp only[if_neg e,if_pos e2]
   ·simp only[if_neg e,if_neg e2]
theorem Bv (p c f:Int):ci n (ls pg st p c f) (fun ws=>(plThrV pg st p pg.toNat (aH pg st c f) [] ws,ws)):=zr H p _ _ _ (bG H).1 (bG H).2.1
theorem mM {h p q:Int}(h0:0≤h)(h1:W64 h)(h2:h<n)(hp:p= -1∨af pg p=true)(hq:q= -1∨af pg q=true):ci n (fe pg st h p q) (fun ws=>((),cV pg st h p q ws)):=by
 have first:ci n (if p= -1 then cU h (q+1) else cU (nA pg st p) (q+1)) (fun ws=>((),ws.set (if p= -1 then h else nA pg st p).toNat (q+1))):=by
  by_cases e:p= -1
  ·simp only[if_pos e];exact dm h0 h2 h1 (od H hq)
  ·simp only[if_neg e]
   obtain⟨⟨a,b,c⟩,_⟩:=eH H (hp.resolve_left e)
   exact dm (by omega) b c (od H hq)
 refine aX (aC first (fun _=>bh (fun _=>au n ()) (fun hne=>by
  obtain⟨_,a,b,c⟩:=eH H (hq.resolve_left hne)
  exact dm (by omega) b c (od H hp)))) (fun ws _=>?_)
 unfold cV
 by_cases e:q= -1
 ·simp only[if_pos e]
 ·simp only[if_neg e]
theorem zt (p c f:Int):ci n (jk pg st p c f) (eI pg st p c f):=by
 unfold jk
 by_cases hz:aH pg st c f=0
 ·rw[if_pos hz]
  exact aX (au n false) (fun ws _=>by unfold eI;rw[if_neg (by rintro⟨a,_⟩;exact a hz)])
 rw[if_neg hz]
 cases hp:af pg p with
 |false=>exact aX (au n false) (fun ws _=>by unfold eI;rw[if_neg (by rintro⟨_,a⟩;rw[hp] at a;cases a)])
 |true =>
  rw[if_pos rfl]
  obtain⟨b0,b1,b2⟩:=bG (c:=c) (f:=f) H
  refine aX (gx (Q:=fun q:Int=>q= -1∨af pg q=true) (j2 H b0 b1) (fun ws _=>tM H _ ws) (fun q hq=>aC (mM H b0 b2 b1 (.inr hp) hq) (fun _=>aC (mM H b0 b2 b1 (.inl rfl) (.inr hp)) (fun _=>au n true)))) (fun ws _=>?_)
  unfold eI
  rw[if_pos ⟨hz,hp⟩]
theorem EW (p:Int)(m:Nat)(ws:List Int):∀(a:Int) (l:List Int),(∀x∈l,af pg x=true)→∀x∈(plThrV pg st p m a l ws).1,af pg x=true:=by
 induction m with
 |zero=>intro a l hl;exact hl
 |succ m ih =>
  intro a l hl
  unfold plThrV
  split
  ·exact hl
  ·split
   ·exact hl
   ·rename_i hne
    exact ih _ _ (fun x hx=>by
     rcases List.mem_append.1 hx with h|h
     ·exact hl x h
     ·rw[List.mem_singleton.1 h];exact(tM H a ws).resolve_left hne)
theorem uP (p c f:Int):ci n (fT pg st p c f) (cD pg st p c f):=by
 unfold fT
 cases hp:af pg p with
 |false=>exact aX (au n false) (fun ws _=>by unfold cD;rw[if_neg (by rintro⟨a,_⟩;rw[hp] at a;cases a)])
 |true =>
  rw[if_pos rfl]
  obtain⟨b0,b1,b2⟩:=bG (c:=c) (f:=f) H
  obtain⟨⟨a0,a1,a2⟩,c0,c1,c2⟩:=eH H hp
  refine aX (gx (Q:=fun r:List Int×Bool=>∀x∈r.1,af pg x=true) (Bv H p c f) (fun ws _=>EW H _ _ _ _ _ (fun x hx=>by cases hx)) (fun r hr=>bh (fun _=>gx (Q:=fun q:Int=>q= -1∨af pg q=true) (j2 H (by omega) a1) (fun ws _=>tM H _ ws) (fun q hq=>aC (mM H b0 b2 b1 (lx H hr) hq) (fun _=>aC (dm (by omega) a1 a2 (by unfold W64;omega)) (fun _=>aC (dm (by omega) c1 c2 (by unfold W64;omega)) (fun _=>au n true))))) (fun _=>au n false))) (fun ws _=>?_)
  unfold cD
  by_cases e:(plThrV pg st p pg.toNat (aH pg st c f) [] ws).2=true
  ·simp only[if_pos e,if_pos (And.intro hp e)]
  ·simp only[if_neg e];rw[if_neg (fun q=>e q.2)]
theorem ol (c:Int)(m:Nat):∀f,ci n (fl pg st c m f) (fun ws=>(df pg st c m f ws,ws)):=by
 induction m with
 |zero=>intro f;exact au n (-1)
 |succ m ih =>
  intro f
  obtain⟨b0,b1,b2⟩:=bG (c:=c) (f:=f) H
  refine aX (aC (j2 H b0 b1) (fun q=>bh (fun _=>ih (f+1)) (fun _=>au n q))) (fun ws _=>?_)
  show _=(if cj pg (aH pg st c f) ws= -1 then df pg st c m (f+1) ws else cj pg (aH pg st c f) ws,ws)
  by_cases e:cj pg (aH pg st c f) ws= -1
  ·simp only[if_pos e]
  ·simp only[if_neg e]
end
def dy (pg st a:Int):Prop:=a8 st pg≤a∧a<a8 st pg+62
theorem iG {pg st c f:Int}(h:aH pg st c f≠0):dy pg st (aH pg st c f)∧0≤c∧c≤4∧1≤f∧f≤gj c:=by
 unfold aH at h⊢
 split
 ·rename_i g
  refine⟨?_,g.1,g.2.1,g.2.2.1,g.2.2.2⟩
  obtain⟨c0,c4,f1,fs⟩:=g
  have:c=0∨c=1∨c=2∨c=3∨c=4:=by omega
  unfold dy
  rcases this with rfl|rfl|rfl|rfl|rfl<;>simp[gj,fG] at fs⊢ <;>omega
 ·rename_i g;rw[if_neg g] at h;exact absurd rfl h
theorem H7 {pg st c f c' f':Int}(h:aH pg st c f≠0)(e:aH pg st c f=aH pg st c' f'):c=c'∧f=f':=by
 have g:=(iG h).2
 have g':=(iG (e▸h)).2
 unfold aH at e
 rw[if_pos ⟨g.1,g.2.1,g.2.2.1,g.2.2.2⟩,if_pos ⟨g'.1,g'.2.1,g'.2.2.1,g'.2.2.2⟩] at e
 obtain⟨c0,c4,f1,fs⟩:=g
 obtain⟨d0,d4,k1,ks⟩:=g'
 have h1:c=0∨c=1∨c=2∨c=3∨c=4:=by omega
 have h2:c'=0∨c'=1∨c'=2∨c'=3∨c'=4:=by omega
 rcases h1 with rfl|rfl|rfl|rfl|rfl<;>rcases h2 with rfl|rfl|rfl|rfl|rfl<;>simp[gj,fG] at fs ks e⊢ <;>omega
def hd1:List Int→Int
 | []=>0
 |p::_=>p+1
def gd:List Int→Int
 | []=> -1
 |p::_=>p
theorem Dq (l:List Int):hd1 l=gd l+1:=by cases l<;>rfl
def nxL:List Int→Int→Int
 | [],_=>0
 |x::t,p=>if x=p then hd1 t else nxL t p
def pvL:Int→List Int→Int→Int
 | _,[],_=>0
 |k,x::t,p=>if x=p then k else pvL (x+1) t p
theorem gy (l:List Int)(x:Int):cE (l++ [x])=x:=by simp[cE,List.getD]
theorem tN (x:Int)(l:List Int)(h:l≠ []):cE (x::l)=cE l:=by
 obtain⟨s,y,rfl⟩:∃s y,l=s++ [y]:=⟨l.dropLast,l.getLast h,(List.dropLast_concat_getLast h).symm⟩
 rw[gy,show x::(s++ [y])=(x::s)++ [y] from rfl,gy]
theorem vP (l m:List Int)(h:m≠ []):cE (l++m)=cE m:=by
 obtain⟨s,y,rfl⟩:∃s y,m=s++ [y]:=⟨m.dropLast,m.getLast h,(List.dropLast_concat_getLast h).symm⟩
 rw[gy,←List.append_assoc,gy]
theorem vQ (l:List Int)(h:l≠ []):cE l∈l:=by
 obtain⟨s,y,rfl⟩:∃s y,l=s++ [y]:=⟨l.dropLast,l.getLast h,(List.dropLast_concat_getLast h).symm⟩
 rw[gy];simp
theorem mN (u v:List Int)(r:Int)(h:r∉u):nxL (u++r::v) r=hd1 v:=by
 induction u with
 |nil=>show(if r=r then hd1 v else _)=_;rw[if_pos rfl]
 |cons x u ih =>
  show(if x=r then _ else nxL (u++r::v) r)=_
  rw[if_neg (fun e=>h (by simp[e])),ih (fun q=>h (by simp[q]))]
theorem MQ (u v:List Int)(r:Int)(h:r∉u):∀k,pvL k (u++r::v) r=if u= [] then k else cE u+1:=by
 induction u with
 |nil=>intro k;show(if r=r then k else _)=_;rw[if_pos rfl,if_pos rfl]
 |cons x u ih =>
  intro k
  show(if x=r then k else pvL (x+1) (u++r::v) r)=_
  rw[if_neg (fun e=>h (by simp[e])),ih (fun q=>h (by simp[q]))]
  by_cases hu:u= []
  ·subst hu;rfl
  ·rw[if_neg hu,if_neg (show ¬x::u= [] by simp),tN x u hu]
theorem nJ (u v:List Int)(r:Int)(h:r∉u):pvL 0 (u++r::v) r=cE u+1:=by
 rw[MQ u v r h]
 split
 ·rename_i e;subst e;rfl
 ·rfl
theorem kK {l:List Int}{p:Int}(h:p∈l):∃s t,l=s++p::t∧p∉s:=by
 induction l with
 |nil=>cases h
 |cons x l ih =>
  by_cases e:x=p
  ·exact⟨[],l,by rw[e];rfl,by simp⟩
  ·obtain⟨s,t,rfl,hs⟩:=ih ((List.mem_cons.1 h).resolve_left (fun q=>e q.symm))
   exact⟨x::s,t,rfl,by simp only[List.mem_cons];rintro(q|q);exact e q.symm;exact hs q⟩
structure Ln (pg st:Int)(G:Int→List Int)(ws:List Int):Prop where
 head:∀a,dy pg st a→wAt ws a=hd1 (G a)
 page:∀a,dy pg st a→∀p∈G a,af pg p=true
 nodup:∀a,dy pg st a→(G a).Nodup
 apart:∀a b p,dy pg st a→dy pg st b→p∈G a→p∈G b→a=b
 next:∀a p,dy pg st a→p∈G a→wAt ws (nA pg st p)=nxL (G a) p
 prev:∀a p,dy pg st a→p∈G a→wAt ws (vA pg st p)=pvL 0 (G a) p
 free:∀p,af pg p=true→(∀a,dy pg st a→p∉G a)→wAt ws (nA pg st p)=0∧wAt ws (vA pg st p)=0
structure ea (pg st:Int)(ws ws':List Int):Prop where
 len:ws'.length=ws.length
 off:∀i:Int,0≤i→¬dy pg st i→(∀p,af pg p=true→i≠nA pg st p∧i≠vA pg st p)→wAt ws' i=wAt ws i
theorem ea.refl (pg st:Int)(ws:List Int):ea pg st ws ws:=⟨rfl,fun _ _ _ _=>rfl⟩
theorem ea.trans {pg st:Int}{a b c:List Int}(h:ea pg st a b)(g:ea pg st b c):ea pg st a c:=⟨g.len.trans h.len,fun i h0 h1 h2=>(g.off i h0 h1 h2).trans (h.off i h0 h1 h2)⟩
theorem Ln.uniq {pg st:Int}{G:Int→List Int}{ws ws':List Int}(h:Ln pg st G ws)(g:Ln pg st G ws')(o:ea pg st ws ws'):ws'=ws :=
 vz o.len (fun i h0 _=>by
  by_cases e:dy pg st i
  ·rw[h.head i e,g.head i e]
  by_cases e2:∃p,af pg p=true∧(i=nA pg st p∨i=vA pg st p)
  ·obtain⟨p,hp,hi⟩:=e2
   by_cases m:∃a,dy pg st a∧p∈G a
   ·obtain⟨a,ha,m⟩:=m
    rcases hi with rfl|rfl
    ·rw[h.next a p ha m,g.next a p ha m]
    ·rw[h.prev a p ha m,g.prev a p ha m]
   ·have m':∀a,dy pg st a→p∉G a:=fun a ha q=>m ⟨a,ha,q⟩
    rcases hi with rfl|rfl
    ·rw[(h.free p hp m').1,(g.free p hp m').1]
    ·rw[(h.free p hp m').2,(g.free p hp m').2]
  ·exact o.off i h0 e (fun p hp=>⟨fun q=>e2 ⟨p,hp,.inl q⟩,fun q=>e2 ⟨p,hp,.inr q⟩⟩))
section
variable {pg st:Int}{n:Nat}(H:cF pg st n)
include H
theorem qQ {a:Int}(h:dy pg st a):4≤a∧a<n∧W64 a:=by
 have h1:=H.st1;have h2:=H.st2;have h3:=H.top62;have h4:=H.pg1;have h5:=H.pg2
 unfold dy a8 W64 at *
 unfold aL aY at *
 omega
theorem j3 {a p:Int}(h:dy pg st a)(hp:af pg p=true):a≠nA pg st p∧a≠vA pg st p:=by
 have:=ay.1 hp;have h4:=H.pg1
 unfold dy a8 at h
 unfold nA vA
 omega
theorem jf {p q:Int}(hp:af pg p=true)(hq:af pg q=true):nA pg st p≠vA pg st q:=by
 have:=ay.1 hp;have:=ay.1 hq
 unfold nA vA;omega
theorem Km {x:Int}(h:af pg x=true):im pg (x+1)=x:=by
 have:=ay.1 h;have h5:=H.pg2
 unfold im
 rw[show IntKind.i64.wrap (x+1-1)=x by rw[show x+1-1=x by omega];exact aB (by omega) (by omega),if_pos h]
theorem EX:im pg 0= -1:=by
 unfold im
 rw[show IntKind.i64.wrap (0-1)= -1 from aB (by omega) (by omega),if_neg (by rw[sX.2 (by omega)];simp)]
theorem Kn {l:List Int}(h:∀p∈l,af pg p=true):im pg (hd1 l)=gd l:=by
 cases l with
 |nil=>exact EX H
 |cons x t=>exact Km H (h x (by simp))
theorem sd {l:List Int}{a:Int}{ws:List Int}(ha:0<a)(hw:wAt ws a=hd1 l)(h:∀p∈l,af pg p=true):cj pg a ws=gd l:=by
 unfold cj
 rw[if_neg (by omega),hw]
 exact Kn H h
theorem Ly {l:List Int}(h:∀p∈l,af pg p=true)(hn:l.Nodup):l.length≤pg.toNat :=
 ma pg.toNat l hn (fun p hp=>by have:=ay.1 (h p hp);omega)
theorem H8 {p a:Int}{G:Int→List Int}{ws:List Int}(L:Ln pg st G ws)(ha:dy pg st a)(m:Nat):∀(s t:List Int) (at':Int),G a=s++t→0<at'→wAt ws at'=hd1 t →
 (∀t1 t2,t=t1++p::t2→p∉t1→t1.length<m→plThrV pg st p m at' s ws=(s++t1,true)) ∧
 (p∉t→t.length≤m→(plThrV pg st p m at' s ws).1=s++t∧(p≠ -1→(plThrV pg st p m at' s ws).2=false)):=by
 induction m with
 |zero =>
  intro s t at' hG h0 hw
  refine⟨fun t1 t2 _ _ h=>absurd h (by omega),fun _ h=>?_⟩
  have:t= []:=List.length_eq_zero_iff.1 (by omega)
  subst this
  exact⟨by show s=s++ [];simp,fun _=>rfl⟩
 |succ m ih =>
  intro s t at' hG h0 hw
  have hpt:∀x∈t,af pg x=true:=fun x hx=>L.page a ha x (by rw[hG];simp[hx])
  have hl:=sd H h0 hw hpt
  unfold plThrV
  rw[hl]
  cases t with
  |nil =>
   refine⟨fun t1 t2 e _ _=>by simp at e,fun _ _=>?_⟩
   rw[show gd []= -1 from rfl]
   by_cases e:(-1:Int)=p
   ·simp only[if_pos e];exact⟨by simp,fun q=>absurd e.symm q⟩
   ·simp only[if_neg e,if_true];exact⟨by simp,fun _=>by simp⟩
  |cons x t =>
   have hx:=hpt x (by simp)
   have hxp:=ay.1 hx
   have hxm:x∈G a:=by rw[hG];simp
   have hnd:=L.nodup a ha
   rw[hG] at hnd
   have hxs:x∉s:=fun q=>by
    have:=List.nodup_append.1 hnd
    exact this.2.2 x q x (by simp) rfl
   have hnx:wAt ws (nA pg st x)=hd1 t:=by rw[L.next a x ha hxm,hG,mN s t x hxs]
   have I:=ih (s++ [x]) t (nA pg st x) (by rw[hG];simp) (by have:=(eH H hx).1.1;omega) hnx
   show(∀t1 t2,x::t=t1++p::t2→p∉t1→t1.length<m+1→(if x=p then(s,true) else if x= -1 then(s,false) else plThrV pg st p m (nA pg st x) (s++ [x]) ws)=(s++t1,true))∧(p∉x::t→(x::t).length≤m+1→(if x=p then(s,true) else if x= -1 then(s,false) else plThrV pg st p m (nA pg st x) (s++ [x]) ws).1=s++x::t∧(p≠ -1→(if x=p then(s,true) else if x= -1 then(s,false) else plThrV pg st p m (nA pg st x) (s++ [x]) ws).2=false))
   refine⟨fun t1 t2 e hn hm=>?_,fun hn hm=>?_⟩
   ·cases t1 with
    |nil =>
     have:x=p:=by simp at e;exact e.1
     rw[if_pos this];simp
    |cons y t1 =>
     simp only[List.cons_append,List.cons.injEq] at e
     obtain⟨rfl,e⟩:=e
     rw[if_neg (fun q=>hn (by simp[q])),if_neg (by omega),I.1 t1 t2 e (fun q=>hn (by simp[q])) (by simp at hm;omega)]
     simp
   ·have hne:x≠p:=fun q=>hn (by simp[q])
    rw[if_neg hne,if_neg (by omega)]
    have:=I.2 (fun q=>hn (by simp[q])) (by simp at hm;omega)
    exact⟨by rw[this.1];simp,this.2⟩
theorem Ko {p a:Int}{G:Int→List Int}{ws:List Int}(L:Ln pg st G ws)(ha:dy pg st a){s t:List Int}(hG:G a=s++p::t)(hs:p∉s):plThrV pg st p pg.toNat a [] ws=(s,true):=by
 have hl:=Ly H (L.page a ha) (L.nodup a ha)
 rw[hG] at hl
 simp at hl
 have:=(H8 H (p:=p) L ha pg.toNat [] (G a) a rfl (by have:=(qQ H ha).1;omega) (L.head a ha)).1 s t hG hs (by omega)
 simpa using this
theorem Kp {p a:Int}{G:Int→List Int}{ws:List Int}(L:Ln pg st G ws)(ha:dy pg st a)(hp:p∉G a):(plThrV pg st p pg.toNat a [] ws).1=G a∧(p≠ -1→(plThrV pg st p pg.toNat a [] ws).2=false):=by
 have:=(H8 H (p:=p) L ha pg.toNat [] (G a) a rfl (by have:=(qQ H ha).1;omega) (L.head a ha)).2 hp (Ly H (L.page a ha) (L.nodup a ha))
 simpa using this
theorem Ia {p:Int}(ws:List Int):(plThrV pg st p pg.toNat 0 [] ws).1= []∧(p≠ -1→(plThrV pg st p pg.toNat 0 [] ws).2=false):=by
 obtain⟨m,hm⟩:∃m,pg.toNat=m+1:=⟨pg.toNat-1,by have:=H.pg1;omega⟩
 rw[hm]
 have h0:cj pg 0 ws= -1:=by unfold cj;rw[if_pos rfl]
 unfold plThrV
 rw[h0]
 by_cases e:(-1:Int)=p
 ·rw[if_pos e];exact⟨rfl,fun q=>absurd e.symm q⟩
 ·rw[if_neg e,if_pos rfl];exact⟨rfl,fun _=>rfl⟩
theorem xw {h p q:Int}(hh:dy pg st h)(hp:p= -1∨af pg p=true)(hq:q= -1∨af pg q=true){ws:List Int}(hn:ws.length=n){i:Int}(hi:0≤i):
 wAt (cV pg st h p q ws) i=if q≠ -1∧i=vA pg st q then p+1 else if i=(if p= -1 then h else nA pg st p) then q+1 else wAt ws i:=by
 have hb:4≤(if p= -1 then h else nA pg st p)∧(if p= -1 then h else nA pg st p)<n:=by
  by_cases e:p= -1
  ·rw[if_pos e];exact⟨(qQ H hh).1,(qQ H hh).2.1⟩
  ·rw[if_neg e];have:=(eH H (hp.resolve_left e)).1;exact⟨this.1,this.2.1⟩
 unfold cV
 by_cases e:q= -1
 ·rw[if_pos e,dH (by omega) hi (by omega),if_neg (fun z:q≠ -1∧i=vA pg st q=>z.1 e)]
 ·have:=(eH H (hq.resolve_left e)).2
  rw[if_neg e,dH (by omega) hi (by simp;omega),dH (by omega) hi (by omega)]
  by_cases e2:i=vA pg st q
  ·rw[if_pos e2,if_pos ⟨e,e2⟩]
  ·rw[if_neg e2,if_neg (fun z:q≠ -1∧i=vA pg st q=>e2 z.2)]
theorem kL (h p q:Int)(ws:List Int):(cV pg st h p q ws).length=ws.length:=by unfold cV;split<;>simp
end
def uQ (G:Int→List Int)(a:Int)(l:List Int):Int→List Int:=fun b=>if b=a then l else G b
theorem dv (G:Int→List Int)(a:Int)(l:List Int):uQ G a l a=l:=if_pos rfl
theorem dC (G:Int→List Int)(a:Int)(l:List Int){b:Int}(h:b≠a):uQ G a l b=G b:=if_neg h
section
variable {pg st:Int}{n:Nat}(H:cF pg st n)
include H
theorem Kq {c f p:Int}{G:Int→List Int}{ws:List Int}(L:Ln pg st G ws)(hn:ws.length=n)(hz:aH pg st c f≠0)(hp:af pg p=true)(hf:∀a,dy pg st a→p∉G a):
 Ln pg st (uQ G (aH pg st c f) (p::G (aH pg st c f))) (eI pg st p c f ws).2∧ea pg st ws (eI pg st p c f ws).2:=by
 have hv:eI pg st p c f ws=(true,cV pg st (aH pg st c f) (-1) p (cV pg st (aH pg st c f) p (cj pg (aH pg st c f) ws) ws)):=by unfold eI;rw[if_pos ⟨hz,hp⟩]
 have ha:=(iG hz).1
 rw[hv]
 generalize aH pg st c f=a at ha hz
 show Ln pg st (uQ G a (p::G a)) (cV pg st a (-1) p (cV pg st a p (cj pg a ws) ws))∧ea pg st ws (cV pg st a (-1) p (cV pg st a p (cj pg a ws) ws))
 have ha4:=(qQ H ha).1
 rw[sd H (by omega) (L.head a ha) (L.page a ha)]
 have hq:gd (G a)= -1∨af pg (gd (G a))=true:=by
  cases e:G a with
  |nil=>exact .inl rfl
  |cons x t=>exact .inr (L.page a ha x (by rw[e];simp))
 have hpp:=ay.1 hp
 have hne:p≠ -1:=by omega
 have val:∀i:Int,0≤i→wAt (cV pg st a (-1) p (cV pg st a p (gd (G a)) ws)) i=if i=vA pg st p then 0 else if i=a then p+1 else if gd (G a)≠ -1∧i=vA pg st (gd (G a)) then p+1 else if i=nA pg st p then hd1 (G a) else wAt ws i:=fun i hi=>by
  rw[xw H ha (.inl rfl) (.inr hp) (by rw[kL H];exact hn) hi,xw H ha (.inr hp) hq hn hi,if_pos rfl,if_neg hne,Dq]
  by_cases e:i=vA pg st p
  ·rw[if_pos ⟨hne,e⟩,if_pos e];omega
  ·rw[if_neg (fun z:p≠ -1∧i=vA pg st p=>e z.2),if_neg e]
 have hlen:(cV pg st a (-1) p (cV pg st a p (gd (G a)) ws)).length=ws.length:=by rw[kL H,kL H]
 generalize cV pg st a (-1) p (cV pg st a p (gd (G a)) ws)=xs at val hlen
 have hfa:=hf a ha
 have qmem:gd (G a)≠ -1→gd (G a)∈G a:=fun e=>by
  cases e2:G a with
  |nil=>rw[e2] at e;exact absurd rfl e
  |cons x t=>simp[gd]
 have pos1:=fun(b:Int) (hb:dy pg st b)=>(qQ H hb).1
 have posn:=fun(r:Int) (hr:af pg r=true)=>(eH H hr).1.1
 have posv:=fun(r:Int) (hr:af pg r=true)=>(eH H hr).2.1
 have injn:∀r,nA pg st r=nA pg st p→r=p:=fun r e=>by unfold nA at e;omega
 have injv:∀r s,vA pg st r=vA pg st s→r=s:=fun r s e=>by unfold vA at e;omega
 refine⟨⟨fun b hb=>?_,fun b hb r hr=>?_,fun b hb=>?_,fun b b' r hb hb' hr hr'=>?_,fun b r hb hr=>?_,fun b r hb hr=>?_,fun r hr hno=>?_⟩,?_,fun i h0 h1 h2=>?_⟩
 ·have nv:=j3 H hb hp
  rw[val b (by have:=pos1 b hb;omega),if_neg nv.2]
  by_cases e:b=a
  ·rw[if_pos e,e,dv];rfl
  ·rw[if_neg e,dC _ _ _ e,if_neg (fun z=>(j3 H hb (L.page a ha _ (qmem z.1))).2 z.2),if_neg nv.1]
   exact L.head b hb
 ·by_cases e:b=a
  ·subst e
   rw[dv] at hr
   rcases List.mem_cons.1 hr with rfl|hr
   ·exact hp
   ·exact L.page b hb r hr
  ·rw[dC _ _ _ e] at hr;exact L.page b hb r hr
 ·by_cases e:b=a
  ·subst e
   rw[dv]
   exact List.nodup_cons.2 ⟨hfa,L.nodup b hb⟩
  ·rw[dC _ _ _ e];exact L.nodup b hb
 ·have cas:∀b,dy pg st b→r∈uQ G a (p::G a) b→(b=a∧r=p)∨r∈G b:=fun b hb hr=>by
   by_cases e:b=a
   ·subst e
    rw[dv] at hr
    rcases List.mem_cons.1 hr with h|h
    ·exact .inl ⟨rfl,h⟩
    ·exact .inr h
   ·rw[dC _ _ _ e] at hr;exact .inr hr
  rcases cas b hb hr with⟨e,h⟩|h
  ·rcases cas b' hb' hr' with⟨e',_⟩|h'
   ·rw[e,e']
   ·rw[h] at h';exact absurd h' (hf b' hb')
  ·rcases cas b' hb' hr' with⟨e',h'⟩|h'
   ·rw[h'] at h;exact absurd h (hf b hb)
   ·exact L.apart b b' r hb hb' h h'
 ·have hrp:af pg r=true:=by
   by_cases e:b=a
   ·subst e
    rw[dv] at hr
    rcases List.mem_cons.1 hr with rfl|hr
    ·exact hp
    ·exact L.page b hb r hr
   ·rw[dC _ _ _ e] at hr;exact L.page b hb r hr
  have p0:=posn r hrp
  rw[val _ (by omega),if_neg (jf H hrp hp),if_neg (fun e=>(j3 H ha hrp).1 e.symm),if_neg (fun z=>jf H hrp (L.page a ha _ (qmem z.1)) z.2)]
  by_cases e:r=p
  ·subst e
   have:b=a:=by
    rcases Classical.em (b=a) with h|h
    ·exact h
    ·rw[dC _ _ _ h] at hr;exact absurd hr (hf b hb)
   subst this
   rw[if_pos rfl,dv]
   exact(mN [] (G b) r (by simp)).symm
  ·rw[if_neg (fun z=>e (injn r z))]
   by_cases e2:b=a
   ·subst e2
    rw[dv] at hr⊢
    have hr:=(List.mem_cons.1 hr).resolve_left e
    rw[L.next b r hb hr]
    show _=if p=r then _ else nxL (G b) r
    rw[if_neg (fun z=>e z.symm)]
   ·rw[dC _ _ _ e2] at hr⊢
    exact L.next b r hb hr
 ·have hrp:af pg r=true:=by
   by_cases e:b=a
   ·subst e
    rw[dv] at hr
    rcases List.mem_cons.1 hr with rfl|hr
    ·exact hp
    ·exact L.page b hb r hr
   ·rw[dC _ _ _ e] at hr;exact L.page b hb r hr
  have p0:=posv r hrp
  rw[val _ (by omega)]
  by_cases e:r=p
  ·subst e
   have:b=a:=by
    rcases Classical.em (b=a) with h|h
    ·exact h
    ·rw[dC _ _ _ h] at hr;exact absurd hr (hf b hb)
   subst this
   rw[if_pos rfl,dv]
   exact(nJ [] (G b) r (by simp)).symm
  ·rw[if_neg (fun z=>e (injv r p z)),if_neg (fun z=>(j3 H ha hrp).2 z.symm)]
   by_cases e2:b=a
   ·subst e2
    rw[dv] at hr⊢
    have hr:=(List.mem_cons.1 hr).resolve_left e
    have e5:pvL 0 (p::G b) r=pvL (p+1) (G b) r:=by show(if p=r then 0 else pvL (p+1) (G b) r)=_;rw[if_neg (fun z=>e z.symm)]
    rw[e5]
    by_cases e3:r=gd (G b)
    ·have hq1:gd (G b)≠ -1:=by have:=ay.1 hrp;omega
     rw[if_pos ⟨hq1,by rw[e3]⟩]
     cases e4:G b with
     |nil=>rw[e4] at hr;cases hr
     |cons x t =>
      rw[e4] at e3
      have:x=r:=e3.symm
      show _=if x=r then p+1 else _
      rw[if_pos this]
    ·rw[if_neg (fun z=>e3 (injv _ _ z.2)),if_neg (fun z=>(jf H hp hrp) z.symm),L.prev b r hb hr]
     cases e4:G b with
     |nil=>rw[e4] at hr;cases hr
     |cons x t =>
      rw[e4] at e3
      have:x≠r:=fun z=>e3 z.symm
      show(if x=r then 0 else pvL (x+1) t r)=if x=r then p+1 else pvL (x+1) t r
      rw[if_neg this,if_neg this]
   ·rw[dC _ _ _ e2] at hr⊢
    rw[if_neg (fun z=>e2 (L.apart b a r hb ha hr (by rw[injv _ _ z.2];exact qmem z.1))),if_neg (fun z=>(jf H hp hrp) z.symm)]
    exact L.prev b r hb hr
 ·have hrne:r≠p:=fun e=>hno a ha (by rw[dv,e];simp)
  have hno':∀b,dy pg st b→r∉G b:=fun b hb q=>by
   by_cases e:b=a
   ·subst e;exact hno b hb (by rw[dv];simp[q])
   ·exact hno b hb (by rw[dC _ _ _ e];exact q)
  have:=L.free r hr hno'
  have p0:=posn r hr
  have p1:=posv r hr
  rw[val _ (by omega),val _ (by omega)]
  rw[if_neg (jf H hr hp),if_neg (fun z=>(j3 H ha hr).1 z.symm),if_neg (fun z=>jf H hr (L.page a ha _ (qmem z.1)) z.2),if_neg (fun z=>hrne (injn r z))]
  rw[if_neg (fun z=>hrne (injv r p z)),if_neg (fun z=>(j3 H ha hr).2 z.symm),if_neg (fun z=>hno' a ha (by rw[injv _ _ z.2];exact qmem z.1)),if_neg (fun z=>(jf H hp hr) z.symm)]
  exact this
 ·exact hlen
 ·rw[val i h0,if_neg (h2 p hp).2,if_neg (fun e=>h1 (by rw[e];exact ha)),if_neg (fun z=>(h2 _ (L.page a ha _ (qmem z.1))).2 z.2),if_neg (h2 p hp).1]
theorem EY {c f p:Int}{G:Int→List Int}{ws:List Int}(L:Ln pg st G ws)(hn:ws.length=n)(hz:aH pg st c f≠0){s t:List Int}(hG:G (aH pg st c f)=s++p::t)(hs:p∉s):
 (cD pg st p c f ws).1=true∧Ln pg st (uQ G (aH pg st c f) (s++t)) (cD pg st p c f ws).2∧ea pg st ws (cD pg st p c f ws).2:=by
 have ha:=(iG hz).1
 have hpm:p∈G (aH pg st c f):=by rw[hG];simp
 have hp:=L.page _ ha p hpm
 have thr:=Ko H L ha hG hs
 have hv:cD pg st p c f ws=(true,((cV pg st (aH pg st c f) (cE s) (cj pg (nA pg st p) ws) ws).set (nA pg st p).toNat 0).set (vA pg st p).toNat 0):=by
  unfold cD
  rw[thr,if_pos ⟨hp,rfl⟩]
 rw[hv]
 refine⟨rfl,?_⟩
 generalize aH pg st c f=a at ha hz hG hpm
 show Ln pg st (uQ G a (s++t)) (((cV pg st a (cE s) (cj pg (nA pg st p) ws) ws).set (nA pg st p).toNat 0).set (vA pg st p).toNat 0)∧ea pg st ws (((cV pg st a (cE s) (cj pg (nA pg st p) ws) ws).set (nA pg st p).toNat 0).set (vA pg st p).toNat 0)
 have hpgl:=L.page a ha
 have hnd:=L.nodup a ha
 rw[hG] at hpgl hnd
 have hna:=List.nodup_append.1 hnd
 have hpt:p∉t:=(List.nodup_cons.1 hna.2.1).1
 have hst:∀x,x∈s→x∉t:=fun x h1 h2=>hna.2.2 x h1 x (by simp[h2]) rfl
 have hnp:wAt ws (nA pg st p)=hd1 t:=by rw[L.next a p ha hpm,hG,mN s t p hs]
 obtain⟨⟨a0,a1,a2⟩,c0,c1,c2⟩:=eH H hp
 have htp:∀x∈t,af pg x=true:=fun x hx=>hpgl x (by simp[hx])
 have hsp:∀x∈s,af pg x=true:=fun x hx=>hpgl x (by simp[hx])
 rw[sd H (by omega) hnp htp]
 have hq:gd t= -1∨af pg (gd t)=true:=by
  cases t with
  |nil=>exact .inl rfl
  |cons x t=>exact .inr (htp x (by simp))
 have hb:=lx H hsp
 have val:∀i:Int,0≤i→wAt (((cV pg st a (cE s) (gd t) ws).set (nA pg st p).toNat 0).set (vA pg st p).toNat 0) i=if i=vA pg st p then 0 else if i=nA pg st p then 0 else if gd t≠ -1∧i=vA pg st (gd t) then cE s+1 else if i=(if cE s= -1 then a else nA pg st (cE s)) then hd1 t else wAt ws i:=fun i hi=>by
  rw[dH (by omega) hi (by simp[kL H];omega),dH (by omega) hi (by rw[kL H];omega),xw H ha hb hq hn hi,Dq]
 have hlen:(((cV pg st a (cE s) (gd t) ws).set (nA pg st p).toNat 0).set (vA pg st p).toNat 0).length=ws.length:=by simp[kL H]
 generalize ((cV pg st a (cE s) (gd t) ws).set (nA pg st p).toNat 0).set (vA pg st p).toNat 0=xs at val hlen
 have hpp:=ay.1 hp
 have pos1:=fun(b:Int) (hb:dy pg st b)=>(qQ H hb).1
 have posn:=fun(r:Int) (hr:af pg r=true)=>(eH H hr).1.1
 have posv:=fun(r:Int) (hr:af pg r=true)=>(eH H hr).2.1
 have injn:∀r s,nA pg st r=nA pg st s→r=s:=fun r s e=>by unfold nA at e;omega
 have injv:∀r s,vA pg st r=vA pg st s→r=s:=fun r s e=>by unfold vA at e;omega
 have qmem:gd t≠ -1→gd t∈t:=fun e=>by
  cases t with
  |nil=>exact absurd rfl e
  |cons x t=>simp[gd]
 have bmem:cE s≠ -1→cE s∈s:=fun e=>vQ s (fun z=>by rw[z] at e;exact e rfl)
 have snil:cE s= -1→s= []:=fun e=>by
  rcases Classical.em (s= []) with z|z
  ·exact z
  ·have:=ay.1 (hsp _ (vQ s z));omega
 have mem':∀b r,dy pg st b→r∈uQ G a (s++t) b→r∈G b∧r≠p:=fun b r hb hr=>by
  by_cases e:b=a
  ·subst e
   rw[dv] at hr
   refine⟨?_,fun z=>?_⟩
   ·rw[hG]
    rcases List.mem_append.1 hr with h|h<;>simp[h]
   ·rw[z] at hr
    rcases List.mem_append.1 hr with h|h
    ·exact hs h
    ·exact hpt h
  ·rw[dC _ _ _ e] at hr
   exact⟨hr,fun z=>e (L.apart b a p hb ha (z▸hr) hpm)⟩
 have qin:∀r,gd t≠ -1∧vA pg st r=vA pg st (gd t)→r∈t:=fun r z=>by rw[injv _ _ z.2];exact qmem z.1
 have ga:∀r,r∈s∨r∈t→r∈G a:=fun r h=>by rw[hG];rcases h with h|h<;>simp[h]
 refine⟨⟨fun b hb=>?_,fun b hb r hr=>L.page b hb r (mem' b r hb hr).1,fun b hb=>?_,fun b b' r hb hb' hr hr'=>L.apart b b' r hb hb' (mem' b r hb hr).1 (mem' b' r hb' hr').1,fun b r hb hr=>?_,fun b r hb hr=>?_,fun r hr hno=>?_⟩,hlen,fun i h0 h1 h2=>?_⟩
 ·have nv:=j3 H hb hp
  rw[val b (by have:=pos1 b hb;omega),if_neg nv.2,if_neg nv.1,if_neg (fun z=>(j3 H hb (htp _ (qmem z.1))).2 z.2)]
  by_cases e:b=a
  ·subst e
   rw[dv]
   by_cases e2:cE s= -1
   ·rw[if_pos e2,if_pos rfl,snil e2];rfl
   ·rw[if_neg e2,if_neg (j3 H hb (hsp _ (bmem e2))).1,L.head b hb,hG]
    cases s with
    |nil=>exact absurd rfl e2
    |cons x s=>rfl
  ·rw[dC _ _ _ e]
   by_cases e2:cE s= -1
   ·rw[if_pos e2,if_neg e];exact L.head b hb
   ·rw[if_neg e2,if_neg (j3 H hb (hsp _ (bmem e2))).1];exact L.head b hb
 ·by_cases e:b=a
  ·subst e
   rw[dv]
   refine List.nodup_append.2 ⟨hna.1,(List.nodup_cons.1 hna.2.1).2,fun x hx y hy z=>?_⟩
   subst z
   exact hst x hx hy
  ·rw[dC _ _ _ e];exact L.nodup b hb
 ·obtain⟨hr1,hrp⟩:=mem' b r hb hr
  have hrg:=L.page b hb r hr1
  have p0:=posn r hrg
  rw[val _ (by omega),if_neg (jf H hrg hp),if_neg (fun z=>hrp (injn _ _ z)),if_neg (fun z=>jf H hrg (htp _ (qmem z.1)) z.2)]
  have hh:nA pg st r≠a:=fun z=>(j3 H ha hrg).1 z.symm
  by_cases e:b=a
  ·subst e
   rw[dv] at hr⊢
   by_cases e2:r=cE s
   ·have hs0:cE s≠ -1:=by rw[←e2];have:=ay.1 hrg;omega
    rw[if_neg hs0,if_pos (by rw[e2])]
    obtain⟨s',y,rfl⟩:∃s' y,s=s'++ [y]:=⟨s.dropLast,s.getLast (fun z=>hs0 (by rw[z];rfl)),(List.dropLast_concat_getLast _).symm⟩
    rw[gy] at e2
    subst e2
    have:r∉s':=fun q=>(List.nodup_append.1 hna.1).2.2 r q r (by simp) rfl
    rw[List.append_assoc]
    exact(mN s' t r this).symm
   ·have hif:nA pg st r≠(if cE s= -1 then b else nA pg st (cE s)):=by
     by_cases e3:cE s= -1
     ·rw[if_pos e3];exact hh
     ·rw[if_neg e3];exact fun z=>e2 (injn _ _ z)
    rw[if_neg hif,L.next b r hb hr1,hG]
    rcases List.mem_append.1 hr with h|h
    ·obtain⟨u,v,rfl,hu⟩:=kK h
     have hv:v≠ []:=fun z=>e2 (by rw[z,gy])
     obtain⟨y,v',rfl⟩:=List.exists_cons_of_ne_nil hv
     have h1:(u++r::y::v')++p::t=u++r::(y::(v'++p::t)):=by simp
     have h2:(u++r::y::v')++t=u++r::(y::(v'++t)):=by simp
     rw[h1,h2,mN u _ r hu,mN u _ r hu]
     rfl
    ·obtain⟨u,v,rfl,hu⟩:=kK h
     have hrs:r∉s:=fun q=>hst r q h
     have h1:s++p::(u++r::v)=(s++p::u)++r::v:=by simp
     have h2:s++(u++r::v)=(s++u)++r::v:=by simp
     rw[h1,h2,mN _ v r (by simp;exact⟨hrs,hrp,hu⟩),mN _ v r (by simp;exact⟨hrs,hu⟩)]
  ·rw[dC _ _ _ e] at hr⊢
   have hif:nA pg st r≠(if cE s= -1 then a else nA pg st (cE s)):=by
    by_cases e3:cE s= -1
    ·rw[if_pos e3];exact hh
    ·rw[if_neg e3];exact fun z=>e (L.apart b a r hb ha hr (by rw[injn _ _ z];exact ga _ (.inl (bmem e3))))
   rw[if_neg hif]
   exact L.next b r hb hr
 ·obtain⟨hr1,hrp⟩:=mem' b r hb hr
  have hrg:=L.page b hb r hr1
  have p0:=posv r hrg
  rw[val _ (by omega),if_neg (fun z=>hrp (injv _ _ z)),if_neg (fun z=>jf H hp hrg z.symm)]
  have hif:vA pg st r≠(if cE s= -1 then a else nA pg st (cE s)):=by
   by_cases e3:cE s= -1
   ·rw[if_pos e3];exact fun z=>(j3 H ha hrg).2 z.symm
   ·rw[if_neg e3];exact fun z=>jf H (hsp _ (bmem e3)) hrg z.symm
  by_cases e:b=a
  ·subst e
   rw[dv] at hr⊢
   by_cases e2:gd t≠ -1∧vA pg st r=vA pg st (gd t)
   ·rw[if_pos e2]
    have hrt:=qin r e2
    have hr':=injv _ _ e2.2
    cases t with
    |nil=>cases hrt
    |cons x t' =>
     have:x=r:=hr'.symm
     subst this
     exact(nJ s t' x (fun q=>hst x q (by simp))).symm
   ·rw[if_neg e2,if_neg hif,L.prev b r hb hr1,hG]
    rcases List.mem_append.1 hr with h|h
    ·obtain⟨u,v,rfl,hu⟩:=kK h
     have h1:(u++r::v)++p::t=u++r::(v++p::t):=by simp
     have h2:(u++r::v)++t=u++r::(v++t):=by simp
     rw[h1,h2,nJ u _ r hu,nJ u _ r hu]
    ·obtain⟨u,v,rfl,hu⟩:=kK h
     have hrs:r∉s:=fun q=>hst r q h
     have hun:u≠ []:=fun z=>e2 (by subst z;exact⟨by show r≠ -1;have:=ay.1 hrg;omega,rfl⟩)
     have h1:s++p::(u++r::v)=(s++p::u)++r::v:=by simp
     have h2:s++(u++r::v)=(s++u)++r::v:=by simp
     rw[h1,h2,nJ _ v r (by simp;exact⟨hrs,hrp,hu⟩),nJ _ v r (by simp;exact⟨hrs,hu⟩),vP s (p::u) (by simp),tN p u hun,vP s u hun]
  ·rw[dC _ _ _ e] at hr⊢
   rw[if_neg (fun z=>e (L.apart b a r hb ha hr (ga _ (.inr (qin r z))))),if_neg hif]
   exact L.prev b r hb hr
 ·have p0:=posn r hr
  have p1:=posv r hr
  rw[val _ (by omega),val _ (by omega)]
  by_cases e:r=p
  ·subst e
   rw[if_neg (jf H hr hr),if_pos rfl,if_pos rfl]
   exact⟨rfl,rfl⟩
  ·have hno':∀b,dy pg st b→r∉G b:=fun b hb q=>by
    by_cases e2:b=a
    ·subst e2
     refine hno b hb ?_
     rw[dv]
     rw[hG] at q
     rcases List.mem_append.1 q with h|h
     ·simp[h]
     ·simp[(List.mem_cons.1 h).resolve_left e]
    ·exact hno b hb (by rw[dC _ _ _ e2];exact q)
   have fr:=L.free r hr hno'
   have hif1:nA pg st r≠(if cE s= -1 then a else nA pg st (cE s)):=by
    by_cases e3:cE s= -1
    ·rw[if_pos e3];exact fun z=>(j3 H ha hr).1 z.symm
    ·rw[if_neg e3];exact fun z=>hno' a ha (by rw[injn _ _ z];exact ga _ (.inl (bmem e3)))
   have hif2:vA pg st r≠(if cE s= -1 then a else nA pg st (cE s)):=by
    by_cases e3:cE s= -1
    ·rw[if_pos e3];exact fun z=>(j3 H ha hr).2 z.symm
    ·rw[if_neg e3];exact fun z=>jf H (hsp _ (bmem e3)) hr z.symm
   rw[if_neg (jf H hr hp),if_neg (fun z=>e (injn _ _ z)),if_neg (fun z=>jf H hr (htp _ (qmem z.1)) z.2),if_neg hif1]
   rw[if_neg (fun z=>e (injv _ _ z)),if_neg (fun z=>jf H hp hr z.symm),if_neg (fun z=>hno' a ha (ga _ (.inr (qin r z)))),if_neg hif2]
   exact fr
 ·have hif:i≠(if cE s= -1 then a else nA pg st (cE s)):=by
   by_cases e3:cE s= -1
   ·rw[if_pos e3];exact fun z=>h1 (by rw[z];exact ha)
   ·rw[if_neg e3];exact(h2 _ (hsp _ (bmem e3))).1
  rw[val i h0,if_neg (h2 p hp).2,if_neg (h2 p hp).1,if_neg (fun z=>(h2 _ (htp _ (qmem z.1))).2 z.2),if_neg hif]
theorem vR {c f p:Int}{G:Int→List Int}{ws:List Int}(L:Ln pg st G ws)(h:af pg p=true→aH pg st c f≠0→p∉G (aH pg st c f)):cD pg st p c f ws=(false,ws):=by
 unfold cD
 refine if_neg (fun z=>?_)
 have hp:=ay.1 z.1
 by_cases e:aH pg st c f=0
 ·have:=(Ia H (p:=p) ws).2 (by omega)
  rw[e,this] at z
  cases z.2
 ·have:=(Kp H L (iG e).1 (h z.1 e)).2 (by omega)
  rw[this] at z
  cases z.2
end
theorem Ib {pg st:Int}{n:Nat}(H:cF pg st n):Ln pg st (fun _=> []) (cQ n):=by
 have hz:∀i:Int,wAt (cQ n) i=0:=fun i=>by
  unfold wAt cQ
  simp only[List.getD,List.getElem?_replicate]
  split<;>rfl
 exact⟨fun a _=>hz a,fun a _ p h=>(by cases h),fun a _=>List.nodup_nil,fun a b p _ _ h=>(by cases h),fun a p _ h=>(by cases h),fun a p _ h=>(by cases h),fun p _ _=>⟨hz _,hz _⟩⟩
section
variable {pg st:Int}{n:Nat}(H:cF pg st n)
include H
end
structure InL (pg st:Int)(G:Int→List Int)(ins:List Int):Prop where
 len:ins.length=pg.toNat
 at':∀p,af pg p=true→(wAt ins p=0∧∀a,dy pg st a→p∉G a)∨(∃c f,aH pg st c f≠0∧p∈G (aH pg st c f)∧wAt ins p=100 * c+f)
section
variable {pg st:Int}{n:Nat}(H:cF pg st n)
include H
end
theorem ea.symm {pg st:Int}{a b:List Int}(h:ea pg st a b):ea pg st b a:=⟨h.len.symm,fun i h0 h1 h2=>(h.off i h0 h1 h2).symm⟩
structure OY (pg st h:Int)(ps:List Int)(ws:List Int)(i:Nat)(ws':List Int):Prop where
 hd:wAt ws' h=if i=0 then 0 else hd1 ps
 nx:∀k,k<i→wAt ws' (nA pg st (ps.getD k 0))=if k+1<ps.length then ps.getD (k+1) 0+1 else 0
 pv:∀k,k<i→wAt ws' (vA pg st (ps.getD k 0))=if k=0 then 0 else ps.getD (k-1) 0+1
 off:∀x:Int,0≤x→x≠h→(∀k,k<i→x≠nA pg st (ps.getD k 0)∧x≠vA pg st (ps.getD k 0))→wAt ws' x=wAt ws x
section
variable {pg st:Int}{n:Nat}(H:cF pg st n)
include H
end
theorem Dr {n:Nat}{zs:List Int}{D:List KV}(hz:OkW zs)(h:cI n D)(hn:zs.length=n):OkW (cy zs D):=by
 subst hn
 intro x hx
 obtain⟨i,hi,rfl⟩:=List.getElem_of_mem hx
 have hl:i<zs.length:=by rw[d7] at hi;exact hi
 have h1:=yB (zs:=zs) h (a:=(i:Int)) (by omega) (by omega)
 have h2:wAt (cy zs D) (i:Int)=(cy zs D)[i]:=by simp[wAt,List.getD,hi]
 rw[←h2]
 exact CR (jX hz) h.ok h1
theorem xx {ws:List Int}(h:OkW ws)(a:Int):W64 (wAt ws a):=by
 unfold wAt
 by_cases e:a.toNat<ws.length
 ·rw[List.getD,List.getElem?_eq_getElem e];exact h _ (List.getElem_mem e)
 ·rw[List.getD,List.getElem?_eq_none (by omega)];unfold W64;constructor<;>decide
theorem tO {α β:Type}{n:Nat}{p:Prg α}{f:α→Prg β}{g:List Int→α×List Int}{k:α→List Int→β×List Int}{Q:α→Prop}(h:ci n p g)(hq:∀ws,ws.length=n→OkW ws→Q (g ws).1)(hf:∀x,Q x→ci n (f x) (k x)):ci n (aq p f) (fun ws=>k (g ws).1 (g ws).2):=fun zs D hn hz hD=>by
 obtain⟨D1,e1,a1,i1⟩:=h zs D hn hz hD
 obtain⟨D2,e2,a2,i2⟩:=hf (g (cy zs D)).1 (hq _ (by rw[d7];exact hn) (Dr hz hD hn)) zs D1 hn hz i1
 refine⟨D2,?_,?_,i2⟩
 ·rw[aj e1,e2,a1]
 ·rw[a2,a1]
def lD (pg st k x:Int)(ws:List Int):Int×List Int :=
 if x= -1 then(if(iP pg st (fO pg st 1 1 ws) 1 (k+1) ws).1 then fO pg st 1 1 ws else -1,(iP pg st (fO pg st 1 1 ws) 1 (k+1) ws).2) else(x,ws)
def gW (pg st k:Int)(ws:List Int):Int×List Int:=if ax k=0 then(-1,ws) else lD pg st k (df pg st k (ax k).toNat 1 ws) ws
def qR (pg st q k b:Int)(ws:List Int):List Int:=if dQ k b=ax k then(Dn pg st q ws).2 else(ws.set (bA pg st q).toNat b).set (cA pg st q).toNat (dQ k b)
def mO (pg st q k was:Int)(ws:List Int):List Int:=(eI pg st q k (cH pg st (cD pg st q k was ws).2 q) (cD pg st q k was ws).2).2
def gX (pg st q k was b:Int)(ws:List Int):List Int:=mO pg st q k was (qR pg st q k b ws)
def oP (us pg st k q:Int)(ws:List Int):(Int×Bool)×List Int :=
 if q= -1 then((0,false),ws) else if bS (dd pg st ws q) (ax k)= -1 then((0,false),ws)
 else((us+32 * q+bS (dd pg st ws q) (ax k) * szV k,true),gX pg st q k (cH pg st ws q) (setV (dd pg st ws q) (bS (dd pg st ws q) (ax k))) ws)
def c7 (us pg st k:Int)(ws:List Int):(Int×Bool)×List Int:=oP us pg st k (gW pg st k ws).1 (gW pg st k ws).2
def lE (pg st q wd x:Int)(ws:List Int):TkA :=
 if ax (IntKind.i64.wrap (x-1))=0 then none else if wd % szV (IntKind.i64.wrap (x-1))≠0 then none
 else some (q,IntKind.i64.wrap (x-1),wd / szV (IntKind.i64.wrap (x-1)),eP (dd pg st ws q) (wd / szV (IntKind.i64.wrap (x-1))))
def ge (us pg st a:Int)(ws:List Int):TkA:=if us≤a∧a<us+32 * pg then lE pg st ((a-us) / 32) ((a-us) % 32) (aV pg st ws ((a-us) / 32)) ws else none
def xy (pg st:Int)(x:Option (Int×Int×Int))(ws:List Int):Bool×List Int :=
 match x with
 |some (q,k,i)=>(true,gX pg st q k (cH pg st ws q) (clearV (dd pg st ws q) i) ws)
 |none=>(false,ws)
def ig (us pg st a:Int)(ws:List Int):Bool×List Int:=xy pg st (gI (ge us pg st a ws)) ws
def jg (pg st k:Int)(ws:List Int):Bool:=df pg st k (ax k).toNat 1 ws != -1
section
variable {pg st:Int}{n:Nat}(H:cF pg st n)
include H
theorem jM {q:Int}(hq:af pg q=true):(0≤cA pg st q∧cA pg st q<n∧W64 (cA pg st q))∧0≤bA pg st q∧bA pg st q<n∧W64 (bA pg st q):=by
 obtain⟨_,⟨b0,b1,b2⟩,c0,c1,c2⟩:=cx H.toPgIn hq
 exact⟨⟨by omega,b1,b2⟩,by omega,c1,c2⟩
theorem EZ (k:Int)(m:Nat)(ws:List Int):∀f,df pg st k m f ws= -1∨af pg (df pg st k m f ws)=true:=by
 induction m with
 |zero=>intro f;exact .inl rfl
 |succ m ih =>
  intro f
  show(if _ then _ else _)= -1∨af pg (if _ then _ else _)=true
  split
  ·exact ih _
  ·exact tM H _ _
theorem zu {k:Int}(hk:0≤k∧k≤4)(x:Int):ci n (if x= -1 then aq (i5 pg st 1 1) (fun y=>aq (jI pg st y 1 (k+1)) fun b=>az (if b then y else -1)) else az x) (lD pg st k x):=by
 unfold lD
 exact bh (fun _=>aC (qP H.toPgIn 1 1) fun y=>aC (EO H.toPgIn y 1 (k+1) (by unfold W64;omega) vI) fun b=>au n _) (fun _=>au n x)
theorem Bz (k:Int):ci n (lA pg st k) (gW pg st k):=by
 unfold lA gW
 exact bh (fun _=>au n _) (fun h=>aC (ol H k _ 1) fun x=>zu H (fx h) x)
theorem E0 {y m k:Int}{ws:List Int}(h:(iP pg st y m k ws).1=true):af pg y=true:=by
 unfold iP at h
 split at h
 ·rename_i e
  simp at e
  have:=(tL.1 e.2).1
  have:=d6.1 this
  exact ay.2 ⟨by omega,by omega⟩
 ·cases h
theorem Kr (k:Int)(ws:List Int):(gW pg st k ws).1= -1∨af pg (gW pg st k ws).1=true:=by
 unfold gW
 split
 ·exact .inl rfl
 ·unfold lD
  split
  ·show(if _ then _ else _)= -1∨af pg (if _ then _ else _)=true
   split
   ·rename_i e;exact .inr (E0 H e)
   ·exact .inl rfl
  ·exact EZ H k _ ws 1
theorem tP {q k b:Int}(hq:af pg q=true)(hb:W64 b):ci n (gU pg st q k b) (fun ws=>((),qR pg st q k b ws)):=by
 obtain⟨⟨b0,b1,b2⟩,c0,c1,c2⟩:=jM H hq
 unfold gU
 refine aX (bh (fun _=>aC (EP H.toPgIn q) fun _=>au n ()) (fun _=>aC (dm c0 c1 c2 hb) fun _=>aC (dm b0 b1 b2 (x:=dQ k b) (by have:=cnt_b b k;unfold W64;omega)) fun _=>au n _)) (fun ws _=>?_)
 unfold qR
 split<;>rfl
theorem tQ {q:Int}(hq:af pg q=true)(k was:Int):ci n (i8 pg st q k was) (fun ws=>((),mO pg st q k was ws)):=by
 obtain⟨⟨b0,b1,b2⟩,_⟩:=jM H hq
 exact aC (uP H q k was) fun _=>aC (dI b0 b1) fun f=>aC (zt H q k f) fun _=>au n ()
theorem BA (us k:Int){q:Int}(hq:q= -1∨af pg q=true):ci n (if q= -1 then az (0,false) else aq (cT (bA pg st q)) fun b =>
 if bS b (ax k)= -1 then az (0,false) else aq (cT (cA pg st q)) fun was =>
  aq (gU pg st q k (setV b (bS b (ax k)))) fun _=>aq (i8 pg st q k was) fun _=>az (us+32 * q+bS b (ax k) * szV k,true)) (oP us pg st k q):=by
 unfold oP
 refine bh (fun _=>au n _) (fun h=>?_)
 have hq:=hq.resolve_left h
 obtain⟨⟨b0,b1,b2⟩,c0,c1,c2⟩:=jM H hq
 refine aX (tO (Q:=W64) (dI c0 c1) (fun ws _ ho=>xx ho _) fun b hb=>bh (fun _=>au n ((0:Int),false)) fun _=>aC (dI b0 b1) fun was=>aC (tP H hq (rZ hb _)) fun _=>aC (tQ H hq k was) fun _=>au n (us+32 * q+bS b (ax k) * szV k,true)) (fun ws _=>?_)
 rfl
theorem qS (us k:Int):ci n (kJ us pg st k) (c7 us pg st k):=
 gx (Q:=fun q=>q= -1∨af pg q=true) (Bz H k) (fun ws _=>Kr H k ws) fun q hq=>BA H us k hq
theorem zv {q:Int}(hq:af pg q=true)(wd x:Int):ci n (jK pg st q wd x) (fun ws=>(lE pg st q wd x ws,ws)):=by
 obtain⟨_,c0,c1,c2⟩:=jM H hq
 unfold jK
 refine aX (bh (fun _=>au n _) (fun _=>bh (fun _=>au n _) (fun _=>aC (dI c0 c1) fun b=>au n _))) (fun ws _=>?_)
 unfold lE
 split
 ·rfl
 ·split<;>rfl
theorem zw {q:Int}(hq:af pg q=true)(wd:Int):ci n (aq (fC pg st q) fun x=>jK pg st q wd x) (fun ws=>(lE pg st q wd (aV pg st ws q) ws,ws)):=
 aX (aC (nH H.toPgIn q) fun x=>zv H hq wd x) (fun ws _=>rfl)
theorem BD (us a:Int):ci n (gc us pg st a) (fun ws=>(ge us pg st a ws,ws)):=by
 unfold gc
 generalize hq:(a-us) / 32=q
 generalize hw:(a-us) % 32=wd
 refine aX (bh (fun h=>zw H (by rw[←hq];exact(nG h).1) wd) (fun _=>au n (none:TkA))) (fun ws _=>?_)
 unfold ge
 rw[hq,hw]
 split<;>rfl
theorem Ks {us a:Int}{ws:List Int}{q k i:Int}{t:Bool}(h:ge us pg st a ws=some (q,k,i,t)):af pg q=true∧0≤k∧k≤4:=by
 unfold ge at h
 split at h
 ·rename_i hin
  unfold lE at h
  split at h
  ·cases h
  ·rename_i hz
   split at h
   ·cases h
   ·cases h
    have:=fx hz
    exact⟨(nG hin).1,this.1,this.2⟩
 ·cases h
theorem uR {q:Int}(hq:af pg q=true)(k i:Int):ci n (mG pg st q k i) (fun ws=>(true,gX pg st q k (cH pg st ws q) (clearV (dd pg st ws q) i) ws)):=by
 obtain⟨⟨b0,b1,b2⟩,c0,c1,c2⟩:=jM H hq
 refine aX (aC (dI b0 b1) fun was=>tO (Q:=W64) (dI c0 c1) (fun ws _ ho=>xx ho _) fun b hb=>aC (tP H hq (kI hb i)) fun _=>aC (tQ H hq k was) fun _=>au n true) (fun ws _=>?_)
 rfl
theorem zx (x:Option (Int×Int×Int))(hx:∀q k i,x=some (q,k,i)→af pg q=true):ci n (Bj pg st x) (xy pg st x):=by
 cases x with
 |none=>exact au n _
 |some y =>
  obtain⟨q,k,i⟩:=y
  exact uR H (hx q k i rfl) k i
theorem vS (us a:Int):ci n (rr us pg st a) (ig us pg st a):=
 gx (k:=fun x ws=>xy pg st (gI x) ws) (Q:=fun x:TkA=>∀q k i t,x=some (q,k,i,t)→af pg q=true) (BD H us a) (fun ws _ q k i t e=>(Ks H e).1) fun x hx=>zx H _ fun q k i e=>hx q k i true (iq e)
theorem vT (k:Int):ci n (j0 pg st k) (fun ws=>(jg pg st k ws,ws)):=aC (ol H k _ 1) fun x=>au n _
end
theorem mP (j:Nat):eO 0 j=false:=by simp[eO,xi]
theorem lF {k:Int} :((endN (ax k):Nat):Int)=ax k:=by
 have:=et k
 unfold endN;omega
theorem E3 (k:Int):dQ k 0=ax k:=by
 have:onN 0 (endN (ax k))= []:=List.filter_eq_nil_iff.2 (fun j _=>by rw[mP];simp)
 unfold dQ dx
 rw[this];simp
theorem tT {b k:Int}{j:Nat}(hj:(j:Int)<ax k)(hb:eO b j=false):dQ k (setV b (j:Int))=dQ k b-1:=by
 have hs:=et k
 have he:=lF (k:=k)
 have:=Mw (w:=b) (i:=(j:Int)) (xj (by omega)) (by simpa using hb) (endN (ax k)) (xm _)
 rw[if_pos (by omega)] at this
 unfold dQ dx
 omega
theorem BE {b k:Int}(h:1≤dQ k b):∃j:Nat,bS b (ax k)=(j:Int)∧(j:Int)<ax k∧eO b j=false∧dQ k (setV b (j:Int))=dQ k b-1:=by
 have he:=lF (k:=k)
 rcases EC b (endN (ax k)) with⟨_,ha⟩|⟨j,hj,e,hb,_⟩
 ·have:=Mv ha
  unfold dQ dx at h
  omega
 ·exact⟨j,e,by omega,hb,tT (by omega) hb⟩
theorem BF {k:Int}(h:ax k≠0):bS 0 (ax k)=0:=by
 have hs:=et k
 have he:=lF (k:=k)
 exact nD (w:=0) (k:=endN (ax k)) (j:=0) (by omega) (mP 0) (fun i hi=>by omega)
theorem BH {b k i:Int}(hw:W64 b)(h0:0≤i)(h1:i<ax k)(h:eP b i=true):dQ k (clearV b i)=dQ k b+1:=by
 have hs:=et k
 have hi:inR i=true:=(fg i).2 ⟨h0,by omega⟩
 obtain⟨j,rfl⟩:∃j:Nat,i=(j:Int):=⟨i.toNat,by omega⟩
 have hb:eO (clearV b (j:Int)) j=false:=by
  have:=vG (w:=b) hi
  unfold eP at this
  rw[hi] at this
  simpa using this
 have e:=tT (b:=clearV b (j:Int)) (k:=k) h1 hb
 rw[EB hw.1 hw.2 hi h] at e
 omega
def NoL (pg st i:Int):Prop:=¬dy pg st i∧∀p,af pg p=true→i≠nA pg st p∧i≠vA pg st p
section
variable {pg st:Int}{n:Nat}(H:cF pg st n)
include H
theorem Ds {q:Int}(h:af pg q=true):NoL pg st (kA pg st q):=by
 have:=ay.1 h
 refine⟨fun z=>?_,fun p hp=>?_⟩
 ·unfold dy a8 kA at z;omega
 ·have:=ay.1 hp;unfold kA nA vA;omega
theorem zy {q:Int}(h:af pg q=true):NoL pg st (cA pg st q):=by
 have:=ay.1 h
 refine⟨fun z=>?_,fun p hp=>?_⟩
 ·unfold dy a8 cA at z;omega
 ·have:=ay.1 hp;unfold cA nA vA;omega
theorem zA {q:Int}(h:af pg q=true):NoL pg st (bA pg st q):=by
 have:=ay.1 h
 refine⟨fun z=>?_,fun p hp=>?_⟩
 ·unfold dy a8 bA at z;omega
 ·have:=ay.1 hp;unfold bA nA vA;omega
theorem Ic {j:Int}(h:bV pg j=true):NoL pg st (dY pg st j):=by
 have:=de.1 h
 have h1:=H.pg1
 rw[me h]
 refine⟨fun z=>?_,fun p hp=>?_⟩
 ·unfold dy a8 at z;omega
 ·have:=ay.1 hp;unfold nA vA;omega
theorem ea.kind {a b:List Int}(o:ea pg st a b)(p:Int):aV pg st b p=aV pg st a p:=by
 cases h:af pg p with
 |false=>rw[iQ h,iQ h]
 |true =>
  have h0:=(cx H.toPgIn h).1.1
  rw[j1 h,j1 h,o.off _ (by omega) (Ds H h).1 (Ds H h).2]
theorem ea.cnt {a b:List Int}(o:ea pg st a b){p:Int}(h:af pg p=true):cH pg st b p=cH pg st a p :=
 o.off _ (jM H h).1.1 (zy H h).1 (zy H h).2
theorem ea.bit {a b:List Int}(o:ea pg st a b){p:Int}(h:af pg p=true):dd pg st b p=dd pg st a p :=
 o.off _ (jM H h).2.1 (zA H h).1 (zA H h).2
theorem ea.map {a b:List Int}(o:ea pg st a b)(j:Int):bP pg st b j=bP pg st a j:=by
 unfold bP
 cases h:bV pg j with
 |false=>rfl
 |true =>
  have h0:=(pt H.toTblIn h).1
  rw[o.off _ (by omega) (Ic H h).1 (Ic H h).2]
theorem Ln.same {G:Int→List Int}{a b:List Int}(L:Ln pg st G a)(h:∀i,0≤i→¬NoL pg st i→wAt b i=wAt a i):Ln pg st G b:=by
 have hh:∀i,dy pg st i→wAt b i=wAt a i:=fun i hi=>h i (by have:=(qQ H hi).1;omega) (fun z=>z.1 hi)
 have hn:∀p,af pg p=true→wAt b (nA pg st p)=wAt a (nA pg st p)∧wAt b (vA pg st p)=wAt a (vA pg st p):=fun p hp =>
  ⟨h _ (by have:=(eH H hp).1.1;omega) (fun z=>(z.2 p hp).1 rfl),h _ (by have:=(eH H hp).2.1;omega) (fun z=>(z.2 p hp).2 rfl)⟩
 refine⟨fun i hi=>by rw[hh i hi];exact L.head i hi,L.page,L.nodup,L.apart,fun i p hi hp=>?_,fun i p hi hp=>?_,fun p hp hf=>?_⟩
 ·rw[(hn p (L.page i hi p hp)).1];exact L.next i p hi hp
 ·rw[(hn p (L.page i hi p hp)).2];exact L.prev i p hi hp
 ·rw[(hn p hp).1,(hn p hp).2];exact L.free p hp hf
structure Mod (pg st:Int)(n:Nat)(q f':Int)(T:List Int→List Int):Prop where
 len:∀a,a.length=n→(T a).length=n
 off:∀a b,a.length=n→b.length=n→ea pg st a b→ea pg st (T a) (T b)
 no:∀a,a.length=n→∀i,0≤i→¬NoL pg st i→wAt (T a) i=wAt a i
 cnt:∀a,a.length=n→cH pg st (T a) q=f'
def gJ (pg st q b f:Int)(ws:List Int):List Int:=(ws.set (bA pg st q).toNat b).set (cA pg st q).toNat f
theorem jn {q:Int}(h:af pg q=true)(b f:Int){ws:List Int}(hn:ws.length=n){i:Int}(hi:0≤i):wAt (gJ pg st q b f ws) i=if i=cA pg st q then f else if i=bA pg st q then b else wAt ws i:=by
 obtain⟨⟨b0,b1,_⟩,c0,c1,_⟩:=jM H h
 unfold gJ
 rw[dH b0 hi (by simp[hn];exact b1),dH c0 hi (by rw[hn];exact c1)]
theorem tU {q:Int}(h:af pg q=true)(b f:Int):Mod pg st n q f (gJ pg st q b f):=by
 refine⟨fun a e=>by simp[gJ,e],fun a a' e e' o=>⟨by simp[gJ,e,e'],fun i h0 h1 h2=>?_⟩,fun a e i h0 h1=>?_,fun a e=>?_⟩
 ·rw[jn H h b f e' h0,jn H h b f e h0,o.off i h0 h1 h2]
 ·have k1:i≠cA pg st q:=fun z=>h1 (by rw[z];exact zy H h)
  have k2:i≠bA pg st q:=fun z=>h1 (by rw[z];exact zA H h)
  rw[jn H h b f e h0,if_neg k1,if_neg k2]
 ·show wAt (gJ pg st q b f a) (cA pg st q)=f
  rw[jn H h b f e (jM H h).1.1,if_pos rfl]
theorem Id {q:Int}(h:af pg q=true)(k x:Int):Mod pg st n q x (fN pg st q k x):=by
 refine⟨fun a e=>by rw[fm H.toPgIn];exact e,fun a a' e e' o=>⟨by rw[fm H.toPgIn,fm H.toPgIn,e,e'],fun i h0 h1 h2=>?_⟩,fun a e i h0 h1=>?_,fun a e=>?_⟩
 ·rw[iE H.toPgIn h k x e' h0,iE H.toPgIn h k x e h0,o.off i h0 h1 h2]
 ·have k1:i≠cA pg st q:=fun z=>h1 (by rw[z];exact zy H h)
  have k2:i≠bA pg st q:=fun z=>h1 (by rw[z];exact zA H h)
  have k3:i≠kA pg st q:=fun z=>h1 (by rw[z];exact Ds H h)
  rw[iE H.toPgIn h k x e h0,if_neg k2,if_neg k1,if_neg k3]
 ·rw[mL H.toPgIn h k x e h,if_pos rfl]
def zB (pg st:Int)(G:Int→List Int)(k f:Int)(s t:List Int):Int→List Int:=if aH pg st k f=0 then G else uQ G (aH pg st k f) (s++t)
def Ig (pg st:Int)(G:Int→List Int)(q k f:Int):Int→List Int:=if aH pg st k f=0 then G else uQ G (aH pg st k f) (q::G (aH pg st k f))
theorem Ih {q k f:Int}(hq:af pg q=true){G:Int→List Int}{ws:List Int}(L:Ln pg st G ws)(hn:ws.length=n)(hf:∀a,dy pg st a→q∉G a):
 Ln pg st (Ig pg st G q k f) (eI pg st q k f ws).2∧ea pg st ws (eI pg st q k f ws).2:=by
 unfold Ig
 by_cases hz:aH pg st k f=0
 ·have e:eI pg st q k f ws=(false,ws):=by unfold eI;exact if_neg (fun z=>z.1 hz)
  rw[if_pos hz,e]
  exact⟨L,ea.refl _ _ _⟩
 ·rw[if_neg hz]
  exact Kq H L hn hz hq hf
theorem Ii {q k f:Int}{G:Int→List Int}{s t:List Int}(hin:aH pg st k f≠0→G (aH pg st k f)=s++q::t∧q∉s){ws:List Int}(L:Ln pg st G ws)(hn:ws.length=n):
 Ln pg st (zB pg st G k f s t) (cD pg st q k f ws).2∧ea pg st ws (cD pg st q k f ws).2:=by
 unfold zB
 by_cases hz:aH pg st k f=0
 ·rw[if_pos hz,vR H L (fun _ z=>absurd hz z)]
  exact⟨L,ea.refl _ _ _⟩
 ·rw[if_neg hz]
  obtain⟨h1,h2⟩:=hin hz
  exact(EY H L hn hz h1 h2).2
theorem Ot {q k f f':Int}{T:List Int→List Int}(M:Mod pg st n q f' T)(hq:af pg q=true){G:Int→List Int}{ws:List Int}(L:Ln pg st G ws)(hn:ws.length=n)
 (hin:∀a,dy pg st a→(q∈G a↔aH pg st k f=a)):
 ∃G1 G2,Ln pg st G1 (cD pg st q k f ws).2∧ea pg st ws (cD pg st q k f ws).2∧(cD pg st q k f ws).2.length=n∧(∀a,dy pg st a→q∉G1 a) ∧
  Ln pg st G2 (mO pg st q k f (T ws))∧ea pg st (T ws) (mO pg st q k f (T ws)) ∧
  (eI pg st q k f' (T (cD pg st q k f ws).2)).2=mO pg st q k f (T ws) ∧
  (∀a p,dy pg st a→p≠q→(p∈G2 a↔p∈G a))∧∀a,dy pg st a→(q∈G2 a↔aH pg st k f'=a):=by
 obtain⟨s,t,hst⟩:∃s t,aH pg st k f≠0→G (aH pg st k f)=s++q::t∧q∉s:=by
  by_cases hz:aH pg st k f=0
  ·exact⟨[],[],fun z=>absurd hz z⟩
  ·obtain⟨s,t,h1,h2⟩:=kK ((hin _ (iG hz).1).2 rfl)
   exact⟨s,t,fun _=>⟨h1,h2⟩⟩
 have m1:∀a,dy pg st a→q∉zB pg st G k f s t a:=fun a ha hm=>by
  unfold zB at hm
  by_cases hz:aH pg st k f=0
  ·rw[if_pos hz] at hm
   have:=(hin a ha).1 hm
   rw[hz] at this
   have:=(qQ H ha).1
   omega
  ·rw[if_neg hz] at hm
   obtain⟨h1,h2⟩:=hst hz
   by_cases e:a=aH pg st k f
   ·subst e
    rw[dv] at hm
    have nd:=L.nodup _ (iG hz).1
    rw[h1] at nd
    rcases List.mem_append.1 hm with z|z
    ·exact h2 z
    ·exact(List.nodup_cons.1 (List.nodup_append.1 nd).2.1).1 z
   ·rw[dC _ _ _ e] at hm
    exact e ((hin a ha).1 hm).symm
 have m2:∀a p,dy pg st a→p≠q→(p∈zB pg st G k f s t a↔p∈G a):=fun a p ha hp=>by
  unfold zB
  by_cases hz:aH pg st k f=0
  ·rw[if_pos hz]
  ·rw[if_neg hz]
   obtain⟨h1,h2⟩:=hst hz
   by_cases e:a=aH pg st k f
   ·subst e
    rw[dv,h1]
    simp[hp]
   ·rw[dC _ _ _ e]
 obtain⟨L1,o1⟩:=Ii H hst L hn
 have hB:(T ws).length=n:=M.len _ hn
 have LB:Ln pg st G (T ws):=L.same H (M.no ws hn)
 obtain⟨L2,o2⟩:=Ii H hst LB hB
 have n1:(cD pg st q k f ws).2.length=n:=o1.len.trans hn
 have n2:(cD pg st q k f (T ws)).2.length=n:=o2.len.trans hB
 have ec:cH pg st (cD pg st q k f (T ws)).2 q=f':=by rw[o2.cnt H hq,M.cnt ws hn]
 have em:mO pg st q k f (T ws)=(eI pg st q k f' (cD pg st q k f (T ws)).2).2:=by unfold mO;rw[ec]
 obtain⟨L3,o3⟩:=Ih H (k:=k) (f:=f') hq L2 n2 m1
 have LT:Ln pg st (zB pg st G k f s t) (T (cD pg st q k f ws).2):=L1.same H (M.no _ n1)
 obtain⟨L4,o4⟩:=Ih H (k:=k) (f:=f') hq LT (M.len _ n1) m1
 have oB:=o2.trans o3
 have oY:=(M.off _ _ hn n1 o1).trans o4
 refine⟨_,Ig pg st (zB pg st G k f s t) q k f',L1,o1,n1,m1,by rw[em];exact L3,by rw[em];exact oB,?_,fun a p ha hp=>?_,fun a ha=>?_⟩
 ·rw[em]
  exact Ln.uniq L3 L4 (oB.symm.trans oY)
 ·rw[←m2 a p ha hp]
  unfold Ig
  by_cases hz:aH pg st k f'=0
  ·rw[if_pos hz]
  ·rw[if_neg hz]
   by_cases e:a=aH pg st k f'
   ·subst e;rw[dv];simp[hp]
   ·rw[dC _ _ _ e]
 ·unfold Ig
  by_cases hz:aH pg st k f'=0
  ·rw[if_pos hz]
   exact⟨fun z=>absurd z (m1 a ha),fun z=>by have:=(qQ H ha).1;omega⟩
  ·rw[if_neg hz]
   by_cases e:a=aH pg st k f'
   ·subst e;rw[dv];simp
   ·rw[dC _ _ _ e]
    exact⟨fun z=>absurd z (m1 a ha),fun z=>absurd z.symm e⟩
end
structure PgF (pg st:Int)(G:Int→List Int)(ws:List Int):Prop where
 kd:∀p,af pg p=true→0≤aV pg st ws p∧aV pg st ws p≤5
 free:∀p,af pg p=true→aV pg st ws p=0→cH pg st ws p=0∧dd pg st ws p=0
 map:∀p,af pg p=true→aV pg st ws p≠0→bP pg st ws (p / 4)=true
 cnt:∀p,af pg p=true→1≤aV pg st ws p→cH pg st ws p=dQ (aV pg st ws p-1) (dd pg st ws p)∧cH pg st ws p<ax (aV pg st ws p-1)
 mem:∀a p,dy pg st a→(p∈G a↔af pg p=true∧1≤aV pg st ws p∧aH pg st (aV pg st ws p-1) (cH pg st ws p)=a)
structure PgW (pg st:Int)(G:Int→List Int)(ws:List Int):Prop where
 ln:Ln pg st G ws
 f:PgF pg st G ws
section
variable {pg st:Int}{n:Nat}(H:cF pg st n)
include H
theorem PgF.off {G:Int→List Int}{a b:List Int}(F:PgF pg st G a)(o:ea pg st a b):PgF pg st G b:=by
 refine⟨fun p hp=>by rw[o.kind H];exact F.kd p hp,fun p hp=>by rw[o.kind H,o.cnt H hp,o.bit H hp];exact F.free p hp,fun p hp=>by rw[o.kind H,o.map H];exact F.map p hp,fun p hp=>by rw[o.kind H,o.cnt H hp,o.bit H hp];exact F.cnt p hp,fun x p hx=>?_⟩
 rw[F.mem x p hx]
 constructor
 ·rintro⟨h1,h2,h3⟩
  exact⟨h1,by rw[o.kind H];exact h2,by rw[o.kind H,o.cnt H h1];exact h3⟩
 ·rintro⟨h1,h2,h3⟩
  rw[o.kind H] at h2
  rw[o.kind H,o.cnt H h1] at h3
  exact⟨h1,h2,h3⟩
theorem PgF.turn {G G2:Int→List Int}{a b:List Int}(F:PgF pg st G a){q:Int}(hq:af pg q=true){k f c:Int}
 (hk:∀p,af pg p=true→aV pg st b p=if p=q then k else aV pg st a p) (hc:∀p,af pg p=true→cH pg st b p=if p=q then f else cH pg st a p) (hb:∀p,af pg p=true→dd pg st b p=if p=q then c else dd pg st a p)
 (hm:∀p,af pg p=true→p≠q→bP pg st a (p / 4)=true→bP pg st b (p / 4)=true) (hmq:k≠0→bP pg st b (q / 4)=true)
 (k0:0≤k∧k≤5) (kf:k=0→f=0∧c=0) (kc:1≤k→f=dQ (k-1) c∧f<ax (k-1))
 (g1:∀x p,dy pg st x→p≠q→(p∈G2 x↔p∈G x)) (g2:∀x,dy pg st x→(q∈G2 x↔1≤k∧aH pg st (k-1) f=x)):PgF pg st G2 b:=by
 refine⟨fun p hp=>?_,fun p hp=>?_,fun p hp=>?_,fun p hp=>?_,fun x p hx=>?_⟩
 ·rw[hk p hp];split
  ·exact k0
  ·exact F.kd p hp
 ·rw[hk p hp,hc p hp,hb p hp];split
  ·exact kf
  ·exact F.free p hp
 ·rw[hk p hp];split
  ·rename_i e;rw[e];exact hmq
  ·rename_i e;exact fun z=>hm p hp e (F.map p hp z)
 ·rw[hk p hp,hc p hp,hb p hp];split
  ·exact kc
  ·exact F.cnt p hp
 ·by_cases e:p=q
  ·subst e
   rw[g2 x hx,hk p hq,hc p hq,if_pos rfl,if_pos rfl]
   exact⟨fun z=>⟨hq,z⟩,fun z=>z.2⟩
  ·rw[g1 x p hx e,F.mem x p hx]
   constructor
   ·rintro⟨h1,h2⟩
    rw[hk p h1,hc p h1,if_neg e,if_neg e];exact⟨h1,h2⟩
   ·rintro⟨h1,h2⟩
    rw[hk p h1,hc p h1,if_neg e,if_neg e] at h2;exact⟨h1,h2⟩
theorem jq {q:Int}(h:af pg q=true)(b f:Int){ws:List Int}(hn:ws.length=n)(p:Int):aV pg st (gJ pg st q b f ws) p=aV pg st ws p:=by
 cases hp:af pg p with
 |false=>rw[iQ hp,iQ hp]
 |true =>
  have h0:=(cx H.toPgIn hp).1.1
  have:=ay.1 h;have:=ay.1 hp
  rw[j1 hp,j1 hp,jn H h b f hn (by omega),if_neg (by unfold kA cA;omega),if_neg (by unfold kA bA;omega)]
theorem kM {q:Int}(h:af pg q=true)(b f:Int){ws:List Int}(hn:ws.length=n){p:Int}(hp:af pg p=true):cH pg st (gJ pg st q b f ws) p=if p=q then f else cH pg st ws p:=by
 have:=ay.1 h;have:=ay.1 hp
 unfold cH
 rw[jn H h b f hn (jM H hp).1.1]
 by_cases e:p=q
 ·rw[if_pos e,if_pos (by rw[e])]
 ·rw[if_neg e,if_neg (by unfold cA;omega),if_neg (by unfold cA bA;omega)]
theorem kN {q:Int}(h:af pg q=true)(b f:Int){ws:List Int}(hn:ws.length=n){p:Int}(hp:af pg p=true):dd pg st (gJ pg st q b f ws) p=if p=q then b else dd pg st ws p:=by
 have:=ay.1 h;have:=ay.1 hp
 unfold dd
 rw[jn H h b f hn (jM H hp).2.1,if_neg (by unfold cA bA;omega)]
 by_cases e:p=q
 ·rw[if_pos e,if_pos (by rw[e])]
 ·rw[if_neg e,if_neg (by unfold bA;omega)]
theorem kO {q:Int}(h:af pg q=true)(b f:Int){ws:List Int}(hn:ws.length=n)(j:Int):bP pg st (gJ pg st q b f ws) j=bP pg st ws j:=by
 unfold bP
 cases hj:bV pg j with
 |false=>rfl
 |true =>
  have h0:=(pt H.toTblIn hj).1
  obtain⟨t0,t1,t2⟩:=mK H.toPgIn hj h
  rw[jn H h b f hn (by omega),if_neg t1,if_neg t2]
theorem MT {G:Int→List Int}{ws:List Int}(L:Ln pg st G ws){k f:Int}(h0:aH pg st k f≠0):cj pg (aH pg st k f) ws=gd (G (aH pg st k f)):=by
 have ha:=(iG h0).1
 have:=(qQ H ha).1
 exact sd H (by omega) (L.head _ ha) (L.page _ ha)
theorem Ij {G:Int→List Int}{ws:List Int}(L:Ln pg st G ws){k:Int}(hk:0≤k∧k≤4)(m:Nat):∀f:Int,1≤f→f+m=ax k+1 →
 (df pg st k m f ws= -1∧∀x,f≤x→x≤ax k→G (aH pg st k x)= []) ∨
 ∃x t,f≤x∧x≤ax k∧aH pg st k x≠0∧G (aH pg st k x)=df pg st k m f ws::t∧∀y,f≤y→y<x→G (aH pg st k y)= []:=by
 have hs:=ED hk
 have hh:∀x,1≤x→x≤ax k→aH pg st k x≠0:=fun x h1 h2=>by
  have h3:=H.st1;have h4:=H.pg1
  unfold aH;rw[if_pos ⟨hk.1,hk.2,h1,by omega⟩]
  unfold a8 aY aL fG
  (repeat' split)<;>omega
 induction m with
 |zero=>intro f h1 h2;exact .inl ⟨rfl,fun x h3 h4=>by omega⟩
 |succ m ih =>
  intro f h1 h2
  have hz:=hh f h1 (by omega)
  have hl:=MT H L hz
  show(((if cj pg (aH pg st k f) ws= -1 then df pg st k m (f+1) ws else cj pg (aH pg st k f) ws)= -1)∧_)∨∃x t,f≤x∧x≤ax k∧aH pg st k x≠0∧G (aH pg st k x)=(if cj pg (aH pg st k f) ws= -1 then df pg st k m (f+1) ws else cj pg (aH pg st k f) ws)::t∧_
  rw[hl]
  cases hG:G (aH pg st k f) with
  |nil =>
   rw[show gd ([]:List Int)= -1 from rfl,if_pos rfl]
   rcases ih (f+1) (by omega) (by omega) with⟨h3,h4⟩|⟨x,t,h3,h4,h5,h6,h7⟩
   ·refine .inl ⟨h3,fun x h5 h6=>?_⟩
    by_cases e:x=f
    ·rw[e];exact hG
    ·exact h4 x (by omega) h6
   ·refine .inr ⟨x,t,by omega,h4,h5,h6,fun y h8 h9=>?_⟩
    by_cases e:y=f
    ·rw[e];exact hG
    ·exact h7 y (by omega) h9
  |cons p t =>
   have hp:=ay.1 (L.page _ (iG hz).1 p (by rw[hG];simp))
   rw[show gd (p::t)=p from rfl,if_neg (by omega)]
   exact .inr ⟨f,t,Int.le_refl _,by omega,hz,hG,fun y h8 h9=>by omega⟩
theorem Ik (ws:List Int):(fO pg st 1 1 ws= -1∧∀p,af pg p=true→aV pg st ws p≠0)∨(af pg (fO pg st 1 1 ws)=true∧aV pg st ws (fO pg st 1 1 ws)=0):=by
 have h1:=H.pg1
 have key:∀f:Int→Bool,(mI f pg 1 1= -1∧∀p,af pg p=true→f p=false)∨(af pg (mI f pg 1 1)=true∧f (mI f pg 1 1)=true):=fun f=>by
  rcases Bu (f:=f) (pg:=pg) (m:=1) (step:=1) (by omega) (by omega) (pg.toNat+1) 0 0 rfl (by omega) (by omega) with⟨e,hn⟩|⟨k,e,h0,hh,_⟩
  ·refine .inl ⟨e,fun p hp=>?_⟩
   have hp:=ay.1 hp
   cases hf:f p with
   |false=>rfl
   |true =>
    refine absurd ?_ (hn p (by omega))
    rw[Int.mul_one]
    exact⟨by omega,fun i i0 i1=>by rw[show i=p by omega];exact hf⟩
  ·rw[Int.mul_one] at e hh h0
   have e:mI f pg 1 1=k:=e
   rw[e]
   exact .inr ⟨ay.2 ⟨h0,by have:=hh.1;omega⟩,hh.2 k (by omega) (by omega)⟩
 unfold fO
 rw[if_pos ⟨by omega,by omega⟩]
 rcases key (tH pg st ws) with⟨e,hn⟩|⟨e,hf⟩
 ·rw[if_pos e]
  rcases key (vM pg st ws) with⟨e2,hn2⟩|⟨e2,hf2⟩
  ·refine .inl ⟨e2,fun p hp=>?_⟩
   have:=hn2 p hp
   simpa [vM] using this
  ·refine .inr ⟨e2,?_⟩
   simpa [vM] using hf2
 ·have:=ay.1 e
  rw[if_neg (by omega)]
  refine .inr ⟨e,?_⟩
  simp[tH] at hf
  exact hf.2
theorem Il {y k:Int}(hk:0≤k∧k≤4){ws:List Int}(hn:ws.length=n)(hy:af pg y=true)(h0:aV pg st ws y=0):(iP pg st y 1 (k+1) ws).1=true∧H4 pg st y 1 (k+1) ws (iP pg st y 1 (k+1) ws).2:=by
 have hp:=ay.1 hy
 have ht:cm pg y 1=true:=d6.2 ⟨hp.1,by omega,by omega⟩
 have hv:tG pg st y 1 ws=true:=tL.2 ⟨ht,fun i i0 i1=>by rw[show i=y by omega];exact h0⟩
 have hf:oH (k+1) 1=true:=J3.2 (.inr ⟨by omega,by omega,rfl⟩)
 have T:=ET H.toPgIn (p:=y) (m:=1) (k:=k+1) hn ht
 unfold iP
 rw[hf,hv]
 exact⟨rfl,T⟩
theorem Kt {y m k:Int}{a b:List Int}(T:H4 pg st y m k a b):∀i,0≤i→¬NoL pg st i→wAt b i=wAt a i:=fun i h0 h1 =>
 T.off i h0 (fun p hp=>⟨fun z=>h1 (by rw[z];exact Ds H hp),fun z=>h1 (by rw[z];exact zy H hp),fun z=>h1 (by rw[z];exact zA H hp)⟩) (fun j hj z=>h1 (by rw[z];exact Ic H hj))
theorem pO {α:Type}{p:Prg α}{g:List Int→α×List Int}(hF:ci n p g){ws:List Int}(hn:ws.length=n)(ho:OkW ws):OkW (g ws).2∧(g ws).2.length=n:=by
 obtain⟨D,_,a,i⟩:=hF ws [] hn ho (dP _)
 have a:cy ws D=(g ws).2:=a
 rw[←a]
 exact⟨Dr ho i hn,by rw[d7];exact hn⟩
end
section
variable {pg st:Int}{n:Nat}(H:cF pg st n)
include H
theorem oQ (us:Int){k:Int}(h:ax k=0)(ws:List Int):c7 us pg st k ws=((0,false),ws):=by
 unfold c7 gW
 rw[if_pos h]
 unfold oP
 rw[if_pos rfl]
theorem E8 {m k:Int}(ws:List Int):iP pg st (-1) m k ws=(false,ws):=by
 have:tG pg st (-1) m ws=false:=by
  cases e:tG pg st (-1) m ws with
  |false=>rfl
  |true=>have:=d6.1 (tL.1 e).1;omega
 unfold iP
 rw[this]
 simp
theorem oT (us:Int){k:Int}(hs:ax k≠0){ws:List Int}(h1:df pg st k (ax k).toNat 1 ws= -1)(h2:fO pg st 1 1 ws= -1):c7 us pg st k ws=((0,false),ws):=by
 have e:gW pg st k ws=(-1,ws):=by
  unfold gW lD
  rw[if_neg hs,h1,if_pos rfl,h2,E8 H]
  rfl
 unfold c7
 rw[e]
 unfold oP
 rw[if_pos rfl]
theorem Fa {k:Int}(hs:ax k≠0){ws:List Int}{q:Int}(h1:df pg st k (ax k).toNat 1 ws=q)(hq:q≠ -1):gW pg st k ws=(q,ws):=by
 unfold gW lD
 rw[if_neg hs,h1,if_neg hq]
theorem Fb {k:Int}(hs:ax k≠0){ws:List Int}{y:Int}(h1:df pg st k (ax k).toNat 1 ws= -1)(h2:fO pg st 1 1 ws=y)(h3:(iP pg st y 1 (k+1) ws).1=true):gW pg st k ws=(y,(iP pg st y 1 (k+1) ws).2):=by
 unfold gW lD
 rw[if_neg hs,h1,if_pos rfl,h2,h3]
 rfl
theorem tV {q k b f:Int}(ho:dQ k b=f)(hf:f≠ax k)(ws:List Int):qR pg st q k b ws=gJ pg st q b f ws:=by
 unfold qR gJ
 rw[if_neg (by rw[ho];exact hf),ho]
structure pP (pg st:Int)(n:Nat)(q k f f':Int)(T:List Int→List Int)(ws:List Int)(G G1 G2:Int→List Int)(u X:List Int):Prop where
 eu:(cD pg st q k f ws).2=u
 l1:Ln pg st G1 u
 nu:u.length=n
 o1:ea pg st ws u
 m1:∀a,dy pg st a→q∉G1 a
 lt:Ln pg st G1 (T u)
 nt:(T u).length=n
 eX:(eI pg st q k f' (T u)).2=X
 eM:mO pg st q k f (T ws)=X
 l2:Ln pg st G2 X
 o2:ea pg st (T ws) X
 m2:∀a p,dy pg st a→p≠q→(p∈G2 a↔p∈G a)
 m3:∀a,dy pg st a→(q∈G2 a↔aH pg st k f'=a)
theorem xz {q k f f':Int}{T:List Int→List Int}(M:Mod pg st n q f' T)(hq:af pg q=true){G:Int→List Int}{ws:List Int}(L:Ln pg st G ws)(hn:ws.length=n)
 (hin:∀a,dy pg st a→(q∈G a↔aH pg st k f=a)):∃G1 G2 u X,pP pg st n q k f f' T ws G G1 G2 u X:=by
 obtain⟨G1,G2,h1,h2,h3,h4,h5,h6,h7,h8,h9⟩:=Ot H M hq L hn hin
 exact⟨G1,G2,_,_,⟨rfl,h1,h3,h2,h4,h1.same H (M.no _ h3),M.len _ h3,h7,rfl,h5,h6,h8,h9⟩⟩
theorem tW (us:Int){k:Int}(hs:ax k≠0){G:Int→List Int}{ws:List Int}(P:PgW pg st G ws)(hn:ws.length=n){q:Int}(h1:df pg st k (ax k).toNat 1 ws=q)(hq:q≠ -1):
 ∃(j:Nat) (G1 G2:Int→List Int) (u X:List Int),af pg q=true∧aV pg st ws q=k+1∧1≤cH pg st ws q∧(∀y,1≤y→y<cH pg st ws q→G (aH pg st k y)= []) ∧
  bS (dd pg st ws q) (ax k)=(j:Int)∧(j:Int)<ax k∧eO (dd pg st ws q) j=false ∧
  pP pg st n q k (cH pg st ws q) (cH pg st ws q-1) (gJ pg st q (setV (dd pg st ws q) j) (cH pg st ws q-1)) ws G G1 G2 u X ∧
  c7 us pg st k ws=((us+32 * q+j * szV k,true),X)∧PgW pg st G2 X:=by
 have hk:=fx hs
 obtain⟨L,F⟩:=P
 rcases Ij H L hk (ax k).toNat 1 (by omega) (by have:=et k;omega) with⟨e,_⟩|⟨x,t,x1,x2,hz,hG,hno⟩
 ·exact absurd (h1.symm.trans e) hq
 rw[h1] at hG
 have ha:=(iG hz).1
 have hm:=(F.mem _ q ha).1 (by rw[hG];simp)
 obtain⟨hqp,hk1,hh⟩:=hm
 have hkb:=F.kd q hqp
 have hc:=F.cnt q hqp hk1
 have inj:=H7 hz hh.symm
 have ek:aV pg st ws q=k+1:=by omega
 have ef:cH pg st ws q=x:=inj.2.symm
 rw[ek] at hc
 have hop:dQ k (dd pg st ws q)=cH pg st ws q:=by rw[hc.1];congr 1;omega
 obtain⟨j,hj1,hj2,hj3,hj4⟩:=BE (b:=dd pg st ws q) (k:=k) (by omega)
 have hlt:cH pg st ws q<ax k:=by have:=hc.2;rwa [show k+1-1=k by omega] at this
 obtain⟨G1,G2,u,X,M⟩:=xz H (tU H hqp (setV (dd pg st ws q) j) (cH pg st ws q-1)) hqp L hn (k:=k) (f:=cH pg st ws q) (fun a h=>by
  rw[F.mem a q h,ek,show k+1-1=k by omega]
  exact⟨fun z=>z.2.2,fun z=>⟨hqp,by omega,z⟩⟩)
 refine⟨j,G1,G2,u,X,hqp,ek,by omega,fun y y1 y2=>hno y y1 (by omega),hj1,hj2,hj3,M,?_,M.l2,?_⟩
 ·unfold c7
  rw[Fa H hs h1 hq]
  unfold oP
  rw[if_neg hq,if_neg (by rw[hj1];omega),hj1]
  unfold gX
  rw[tV H (f:=cH pg st ws q-1) (by rw[hj4,hop]) (by omega),M.eM]
 ·refine PgF.off H (a:=gJ pg st q (setV (dd pg st ws q) j) (cH pg st ws q-1) ws) ?_ M.o2
  refine F.turn H hqp (k:=k+1) (f:=cH pg st ws q-1) (c:=setV (dd pg st ws q) j) (fun p hp=>?_) (fun p hp=>kM H hqp _ _ hn hp) (fun p hp=>kN H hqp _ _ hn hp) (fun p _ _ h=>by rw[kO H hqp _ _ hn];exact h) (fun _=>by rw[kO H hqp _ _ hn];exact F.map q hqp (by omega)) (by omega) (by omega) (fun _=>?_) M.m2 (fun a h=>?_)
  ·rw[jq H hqp _ _ hn];split
   ·rename_i e;rw[e];exact ek
   ·rfl
  ·rw[show k+1-1=k by omega,hj4,hop];omega
  ·rw[M.m3 a h,show k+1-1=k by omega]
   exact⟨fun z=>⟨by omega,z⟩,fun z=>z.2⟩
theorem tX (us:Int){k:Int}(hs:ax k≠0){G:Int→List Int}{ws:List Int}(P:PgW pg st G ws)(hn:ws.length=n){y:Int}(h1:df pg st k (ax k).toNat 1 ws= -1)(h2:fO pg st 1 1 ws=y)(hy:y≠ -1):
 ∃(G1 G2:Int→List Int) (w1 X:List Int),af pg y=true∧aV pg st ws y=0∧iP pg st y 1 (k+1) ws=(true,w1)∧H4 pg st y 1 (k+1) ws w1∧w1.length=n∧Ln pg st G w1 ∧
  pP pg st n y k 0 (ax k-1) (gJ pg st y (setV 0 0) (ax k-1)) w1 G G1 G2 w1 X ∧
  c7 us pg st k ws=((us+32 * y,true),X)∧PgW pg st G2 X:=by
 have hk:=fx hs
 have hsl:=et k
 obtain⟨L,F⟩:=P
 have hfy:=(Ik H ws).resolve_left (fun z=>hy (h2.symm.trans z.1))
 rw[h2] at hfy
 obtain⟨hyp,hk0⟩:=hfy
 obtain⟨t1,T⟩:=Il H hk hn hyp hk0
 obtain⟨w1,ew⟩:∃w1,(iP pg st y 1 (k+1) ws).2=w1:=⟨_,rfl⟩
 rw[ew] at T
 have n1:w1.length=n:=T.len.trans hn
 have L1:Ln pg st G w1:=L.same H (Kt H T)
 have hno:∀a,dy pg st a→y∉G a:=fun a h z=>by have:=((F.mem a y h).1 z).2.1;omega
 have hb1:dd pg st w1 y=0:=by rw[T.bit y hyp,if_pos (by omega)]
 have hc1:cH pg st w1 y=0:=by rw[T.cnt y hyp,if_pos rfl,if_neg (by omega)]
 have hz0:aH pg st k 0=0:=by unfold aH;rw[if_neg (by omega)]
 have hos:dQ k (setV 0 0)=ax k-1:=by
  have:=tT (b:=0) (k:=k) (j:=0) (by omega) (mP 0)
  rw[E3] at this
  exact this
 obtain⟨G1,G2,u,X,M⟩:=xz H (tU H hyp (setV 0 0) (ax k-1)) hyp L1 n1 (k:=k) (f:=0) (fun a h=>⟨fun z=>absurd z (hno a h),fun z=>by have:=(qQ H h).1;omega⟩)
 have eu:u=w1:=by rw[←M.eu,vR H L1 (fun _ z=>absurd hz0 z)]
 subst eu
 refine⟨G1,G2,u,X,hyp,hk0,Prod.ext t1 ew,T,n1,L1,M,?_,M.l2,?_⟩
 ·unfold c7
  rw[Fb H hs h1 h2 t1,ew]
  unfold oP
  rw[if_neg hy]
  show(if bS (dd pg st u y) (ax k)= -1 then _ else _)=_
  rw[hb1,BF hs,if_neg (by omega),hc1]
  unfold gX
  rw[tV H (f:=ax k-1) hos (by omega),M.eM]
  simp
 ·refine PgF.off H (a:=gJ pg st y (setV 0 0) (ax k-1) u) ?_ M.o2
  refine F.turn H hyp (k:=k+1) (f:=ax k-1) (c:=setV 0 0) (fun p hp=>?_) (fun p hp=>?_) (fun p hp=>?_) (fun p hp hne h=>?_) (fun _=>?_) (by omega) (by omega) (fun _=>?_) M.m2 (fun a h=>?_)
  ·rw[jq H hyp _ _ n1,T.kind]
   by_cases e:p=y
   ·rw[if_pos e,if_pos e]
   ·rw[if_neg e,if_neg e,if_neg (by omega)]
  ·rw[kM H hyp _ _ n1 hp,T.cnt p hp]
   by_cases e:p=y
   ·rw[if_pos e,if_pos e]
   ·rw[if_neg e,if_neg e,if_neg e,if_neg (by omega)]
  ·rw[kN H hyp _ _ n1 hp,T.bit p hp]
   by_cases e:p=y
   ·rw[if_pos e,if_pos e]
   ·rw[if_neg e,if_neg e,if_neg (by omega)]
  ·rw[kO H hyp _ _ n1,T.map _ (zp hp),h];rfl
  ·rw[kO H hyp _ _ n1,T.map _ (zp hyp)]
   simp
  ·rw[show k+1-1=k by omega,hos]
   exact⟨rfl,by omega⟩
  ·rw[M.m3 a h,show k+1-1=k by omega]
   exact⟨fun z=>⟨by omega,z⟩,fun z=>z.2⟩
theorem tY {us a:Int}{G:Int→List Int}{ws:List Int}(F:PgF pg st G ws){q k i:Int}{t:Bool}(h:ge us pg st a ws=some (q,k,i,t)):
 af pg q=true∧aV pg st ws q=k+1∧0≤k∧k≤4∧0≤i∧i<ax k∧t=eP (dd pg st ws q) i∧a=us+32 * q+i * szV k:=by
 unfold ge at h
 split at h
 ·rename_i hin
  obtain⟨hq,hw⟩:=nG hin
  have hkd:=F.kd _ hq
  have hwr:IntKind.i64.wrap (aV pg st ws ((a-us) / 32)-1)=aV pg st ws ((a-us) / 32)-1:=aB (by omega) (by omega)
  unfold lE at h
  rw[hwr] at h
  split at h
  ·cases h
  ·rename_i hz
   split at h
   ·cases h
   ·rename_i hm
    have hk:=fx hz
    obtain⟨z,hzk⟩:∃z:Nat,aV pg st ws ((a-us) / 32)-1=(z:Int):=⟨_,(Int.toNat_of_nonneg hk.1).symm⟩
    simp only[Option.some.injEq,Prod.mk.injEq] at h
    obtain⟨rfl,rfl,rfl,rfl⟩:=h
    rw[hzk] at hk hm⊢
    have hsb:=Ke (k:=z) (by omega)
    have hm:(a-us) % 32 % szV (z:Int)=0:=by simpa using hm
    have hsz:=rn (k:=z) (by omega)
    have hd:=Int.emod_add_mul_ediv ((a-us) % 32) (szV (z:Int))
    rw[hm] at hd
    refine⟨hq,by omega,hk.1,hk.2,Int.ediv_nonneg hw.1 (by omega),?_,rfl,?_⟩
    ·have hz4:z=0∨z=1∨z=2∨z=3∨z=4:=by omega
     generalize (a-us) % 32=wd at hw hm⊢
     rcases hz4 with rfl|rfl|rfl|rfl|rfl
     ·show wd / 1<32;omega
     ·show wd / 2<16;omega
     ·show wd / 4<8;omega
     ·show wd / 8<4;omega
     ·show wd / 16<2;omega
    ·rw[Int.mul_comm ((a-us) % 32 / szV (z:Int)) (szV (z:Int))]
     omega
 ·cases h
theorem zC (us:Int){a:Int}{G:Int→List Int}{ws:List Int}(P:PgW pg st G ws)(hn:ws.length=n)(ho:OkW ws){q k i:Int}(h:gI (ge us pg st a ws)=some (q,k,i)):
 af pg q=true∧aV pg st ws q=k+1∧0≤k∧k≤4∧0≤i∧i<ax k∧eP (dd pg st ws q) i=true∧a=us+32 * q+i * szV k∧0≤cH pg st ws q∧cH pg st ws q<ax k ∧
 (cH pg st ws q+1≠ax k→∃G1 G2 u X,pP pg st n q k (cH pg st ws q) (cH pg st ws q+1) (gJ pg st q (clearV (dd pg st ws q) i) (cH pg st ws q+1)) ws G G1 G2 u X∧ig us pg st a ws=(true,X)∧PgW pg st G2 X) ∧
 (cH pg st ws q+1=ax k→∃G1 G2 u X,pP pg st n q k (cH pg st ws q) 0 (fN pg st q 0 0) ws G G1 G2 u X∧ig us pg st a ws=(true,X)∧PgW pg st G2 X):=by
 obtain⟨L,F⟩:=P
 obtain⟨hq,ek,k0,k4,i0,i1,ht,ha⟩:=tY H F (iq h)
 have hc:=F.cnt q hq (by omega)
 rw[ek,show k+1-1=k by omega] at hc
 have hcb:=cnt_b (dd pg st ws q) k
 have hcl:=BH (b:=dd pg st ws q) (k:=k) (xx ho _) i0 i1 ht.symm
 have hin:∀a,dy pg st a→(q∈G a↔aH pg st k (cH pg st ws q)=a):=fun a h=>by
  rw[F.mem a q h,ek,show k+1-1=k by omega]
  exact⟨fun z=>z.2.2,fun z=>⟨hq,by omega,z⟩⟩
 refine⟨hq,ek,k0,k4,i0,i1,ht.symm,ha,by omega,hc.2,fun hne=>?_,fun he=>?_⟩
 ·obtain⟨G1,G2,u,X,M⟩:=xz H (tU H hq (clearV (dd pg st ws q) i) (cH pg st ws q+1)) hq L hn (k:=k) (f:=cH pg st ws q) hin
  refine⟨G1,G2,u,X,M,?_,M.l2,?_⟩
  ·unfold ig
   rw[h]
   show(true,gX _ _ _ _ _ _ _)=_
   unfold gX
   rw[tV H (f:=cH pg st ws q+1) (by rw[hcl,hc.1]) hne,M.eM]
  ·refine PgF.off H (a:=gJ pg st q (clearV (dd pg st ws q) i) (cH pg st ws q+1) ws) ?_ M.o2
   refine F.turn H hq (k:=k+1) (f:=cH pg st ws q+1) (c:=clearV (dd pg st ws q) i) (fun p hp=>?_) (fun p hp=>kM H hq _ _ hn hp) (fun p hp=>kN H hq _ _ hn hp) (fun p _ _ h=>by rw[kO H hq _ _ hn];exact h) (fun _=>by rw[kO H hq _ _ hn];exact F.map q hq (by omega)) (by omega) (by omega) (fun _=>?_) M.m2 (fun a h=>?_)
   ·rw[jq H hq _ _ hn];split
    ·rename_i e;rw[e];exact ek
    ·rfl
   ·rw[show k+1-1=k by omega,hcl,hc.1]
    exact⟨rfl,by omega⟩
   ·rw[M.m3 a h,show k+1-1=k by omega]
    exact⟨fun z=>⟨by omega,z⟩,fun z=>z.2⟩
 ·obtain⟨G1,G2,u,X,M⟩:=xz H (Id H hq 0 0) hq L hn (k:=k) (f:=cH pg st ws q) hin
  have hd:(Dn pg st q ws).2=fN pg st q 0 0 ws:=by
   have hl:rN pg st q ws=1:=by unfold rN;rw[ek,if_pos (J2.2 ⟨by omega,by omega⟩)]
   unfold Dn
   rw[hl]
   rfl
  refine⟨G1,G2,u,X,M,?_,M.l2,?_⟩
  ·unfold ig
   rw[h]
   show(true,gX _ _ _ _ _ _ _)=_
   unfold gX qR
   rw[if_pos (by rw[hcl,←hc.1];exact he),hd,M.eM]
  ·refine PgF.off H (a:=fN pg st q 0 0 ws) ?_ M.o2
   have hz0:aH pg st k 0=0:=by unfold aH;rw[if_neg (by omega)]
   refine F.turn H hq (k:=0) (f:=0) (c:=0) (fun p hp=>nI H.toPgIn hq 0 0 hn p) (fun p hp=>mL H.toPgIn hq 0 0 hn hp) (fun p hp=>pN H.toPgIn hq 0 0 hn hp) (fun p _ _ h=>by rw[tJ H.toPgIn hq 0 0 hn];exact h) (fun z=>absurd rfl z) (by omega) (fun _=>⟨rfl,rfl⟩) (fun z=>by omega) M.m2 (fun a h=>?_)
   rw[M.m3 a h,hz0]
   have:=(qQ H h).1
   exact⟨fun z=>by omega,fun z=>by omega⟩
theorem Ku {us a:Int}{ws:List Int}(h:gI (ge us pg st a ws)=none):ig us pg st a ws=(false,ws):=by
 unfold ig
 rw[h]
 rfl
end
theorem Im (c:Cfg)(p:Nat)(x:TkA):∃cs i b,tD c p x=.tuple #[.agg cs,.int .i64 i,.bool b]∧cs.size=27∧cs.all (·.oneCell')=true∧((b=false∧gI x=none)∨∃q k,x=some (q,k,i,true)∧cs=bK c p q k∧b=true):=by
 match x with
 |none=>exact⟨pgZ,0,false,rfl,rfl,by kernel_rfl,.inl ⟨rfl,rfl⟩⟩
 |some (q,k,i,false)=>exact⟨bK c p q k,i,false,rfl,by kernel_rfl,qO ..,.inl ⟨rfl,rfl⟩⟩
 |some (q,k,i,true)=>exact⟨bK c p q k,i,true,rfl,by kernel_rfl,qO ..,.inr ⟨q,k,rfl,rfl,rfl⟩⟩
theorem zD (w:World)(cs:Array Value):∃w1,(w.alloc (.cells #[Value.pointer none,Value.int IntKind.i64 0,Value.int IntKind.i64 0,Value.int IntKind.i64 0,Value.int IntKind.i64 0,Value.int IntKind.i64 0,Value.int IntKind.i64 0,Value.int IntKind.i64 0,Value.int IntKind.i64 0,Value.int IntKind.i64 0,Value.int IntKind.i64 0,Value.int IntKind.i64 0,Value.int IntKind.i64 0,Value.int IntKind.i64 0,Value.int IntKind.i64 0,Value.int IntKind.i64 0,Value.int IntKind.i64 0,Value.int IntKind.i64 0,Value.int IntKind.i64 0,Value.int IntKind.i64 0,Value.int IntKind.i64 0,Value.int IntKind.i64 0,Value.int IntKind.i64 0,Value.int IntKind.i64 0,Value.int IntKind.i64 0,Value.int IntKind.i64 0,Value.int IntKind.i64 0] 90)).setRow w.heap.size cs=w1∧w1.heap[w.heap.size]?=some (.cells cs 90 (0,0))∧ae w w1 :=
 ⟨_,rfl,setRow_heap _ _ _ _ _ _ (aW w _ _),((ae.refl w).alloc _).setRow _ _ (Nat.le_refl _)⟩
theorem OF {c:Cfg}(R:c.Ok){n:Nat}(H:cF c.pg c.st n)(hn:n≤10000)(F:Nat→Prop)(p:Nat)(kn:Int→Option Int)(D:List KV)(ad:Int)(w:World)(hv:aF w F p kn D)(hk:OkK kn)(hD:cI n D)(bt:Nat)(hs:dh bt w)(nF0:¬F 0)(nFb:¬F bt):
 Calls Tryz.prog 11 #[.pointer (some ⟨p,0,none⟩),.agg c.arr,.int .i64 ad] w (aI w F p kn (fun x:Int×Bool=> .tuple #[.int .i64 x.1,.bool x.2]) (Hn c.us c.pg c.st ad kn D)):=by
 obtain⟨Rr,hRr⟩:∃Rr,Hn c.us c.pg c.st ad kn D=Rr:=⟨_,rfl⟩
 rw[hRr]
 obtain⟨w1,e1,hl1,m1,s1⟩:=bg w (.cells c.arr 28)
 have nFl:¬F w.heap.size:=fun q=>by have:=hv.lt _ q;omega
 have MM:=hQQ m1
 have L0:=hQQ hl1
 have M0:=m0Z (hv.more m1) hD
 have KL:=klZ (p:=p) (kn:=kn) (n:=n) L0.o nFl
 have NEED:=ndZ (F:=F) (p:=p) (kn:=kn) (R:=Rr) (fun x:Int×Bool=>Value.tuple #[.int .i64 x.1,.bool x.2]) MM.o
 have DONE:=dnZ (F:=F) (p:=p) (n:=n) (kn:=kn) (R:=Rr) (fun x:Int×Bool=>Value.tuple #[.int .i64 x.1,.bool x.2]) MM.o
 have HK:=hQQ hk
 have HR:=hQQ R
 have HH:=hQQ H
 clear hl1 m1 hv hD hk R H nFl
 have SZ:Hq (∀wr D' F',MidV w1 wr F (fun _=>False) p kn n D' F'→dh bt wr):=hQQ fun wr D' F' h=>(hs.more MM.o).keep h.turn (by rintro(q|q);exact nF0 q;exact q) (by rintro(q|q);exact nFb q;exact q)
 have NF:Hq (∀wr D' F',MidV w1 wr F (fun _=>False) p kn n D' F'→¬F' 0∧¬F' bt):=hQQ fun wr D' F' h=>⟨h.off (hs.more MM.o).lt0 nF0,h.off (hs.more MM.o).lt nFb⟩
 have HRr:=hQQ (show aq (gc c.us c.pg c.st ad) (fun x=>zm (gI x)) kn D=Rr from hRr)
 clear hRr hs nF0 nFb
 go_enter Tryz.func11,Tryz.ntmps11
 go_wp2_with (first|(refine aM rfl rfl rfl L0.o (by kernel_rfl) ?_)|(refine aM rfl rfl rfl L0.o (by kernel_rfl) ?_))
 refine(Dl HR.o HH.o hn F p kn D ad w1 M0.o.view HK.o M0.o.inv bt (SZ.o _ _ _ M0.o) (NF.o _ _ _ M0.o).1 (NF.o _ _ _ M0.o).2).mono ?_
 intro e w2 he
 rcases M0.o.step (ae.refl _) HK.o (lC HH.o.toPgIn ad) he with⟨a',hE,rfl,hd',ht',_⟩|⟨x2,D2,F2,hE,rfl,M2,hq2,_,_⟩
 ·exact⟨rfl,NEED.o a' w2 (HRr.o.symm.trans (ag hE)) hd' ht'⟩
 have L2:=hQQ (KL.o _ _ _ M2)
 have R2:=hQQ ((aj hE).symm.trans HRr.o)
 have M2:=hQQ M2
 clear he hE
 obtain⟨cs,i,b,ev,hsz,h1,hb⟩:=Im c p x2
 rw[ev]
 obtain⟨w3,e3,b3,m3⟩:=zD w2 cs
 have H1:=hQQ h1
 have HSZ:=hQQ hsz
 clear h1 hsz ev
 have M3:=hQQ (M2.o.more m3)
 rcases hb with⟨rfl,hy⟩|⟨q,k,rfl,rfl,rfl⟩
 ·have FIN:=hQQ (DONE.o (0,false) w3 D2 F2 (by have:=R2.o;rw[hy] at this;exact this.symm) M3.o)
  clear R2 hy
  go_wp2_with (refine wpList_store_row rfl 90 _ _ rfl _ _ rfl rfl 90 _ (aW _ _ _) (by rw[HSZ.o];kernel_rfl) (by rw[HSZ.o];rfl) H1.o (e3.symm▸ ?_))
  go_ret2
  exact FIN.o
 ·have FIN:=hQQ (DONE.o (k,true) w3 D2 F2 R2.o.symm M3.o)
  obtain⟨c0,c25,c26⟩:=lB b3
  clear R2
  go_wp2_with (refine wpList_store_row rfl 90 _ _ rfl _ _ rfl rfl 90 _ (aW _ _ _) (by rw[HSZ.o];kernel_rfl) (by rw[HSZ.o];rfl) H1.o (e3.symm▸ ?_))
  go_ret2
  exact FIN.o
theorem Io {c:Cfg}(R:c.Ok){n:Nat}(H:cF c.pg c.st n)(hn:n≤10000)(F:Nat→Prop)(p:Nat)(kn:Int→Option Int)(D:List KV)(ad:Int)(w:World)(hv:aF w F p kn D)(hk:OkK kn)(hD:cI n D)(bt:Nat)(hs:dh bt w)(nF0:¬F 0)(nFb:¬F bt):
 Calls Tryz.prog 87 #[.pointer (some ⟨p,0,none⟩),.agg c.arr,.int .i64 ad] w (aI w F p kn (fun b:Bool=> .bool b) (rr c.us c.pg c.st ad kn D)):=by
 obtain⟨Rr,hRr⟩:∃Rr,rr c.us c.pg c.st ad kn D=Rr:=⟨_,rfl⟩
 rw[hRr]
 obtain⟨w1,e1,hl1,m1,s1⟩:=bg w (.cells c.arr 28)
 have nFl:¬F w.heap.size:=fun q=>by have:=hv.lt _ q;omega
 have MM:=hQQ m1
 have L0:=hQQ hl1
 have M0:=m0Z (hv.more m1) hD
 have KL:=klZ (p:=p) (kn:=kn) (n:=n) L0.o nFl
 have NEED:=ndZ (F:=F) (p:=p) (kn:=kn) (R:=Rr) (fun b:Bool=>Value.bool b) MM.o
 have DONE:=dnZ (F:=F) (p:=p) (n:=n) (kn:=kn) (R:=Rr) (fun b:Bool=>Value.bool b) MM.o
 have HK:=hQQ hk
 have HR:=hQQ R
 have HH:=hQQ H
 clear hl1 m1 hv hD hk R H nFl
 have SZ:Hq (∀wr D' F',MidV w1 wr F (fun _=>False) p kn n D' F'→dh bt wr):=hQQ fun wr D' F' h=>(hs.more MM.o).keep h.turn (by rintro(q|q);exact nF0 q;exact q) (by rintro(q|q);exact nFb q;exact q)
 have NF:Hq (∀wr D' F',MidV w1 wr F (fun _=>False) p kn n D' F'→¬F' 0∧¬F' bt):=hQQ fun wr D' F' h=>⟨h.off (hs.more MM.o).lt0 nF0,h.off (hs.more MM.o).lt nFb⟩
 have HRr:=hQQ (show aq (gc c.us c.pg c.st ad) (fun x=>Bj c.pg c.st (gI x)) kn D=Rr from hRr)
 have HN:=hQQ hn
 clear hRr hs nF0 nFb
 have hmf:∀(fn:Fn) (first cap:Array Value) (w:World),(Instr.makeFunc fn first cap).run Tryz.prog w=.ok (.func fn first cap) w:=fun _ _ _ _=>rfl
 go_enter_defers Tryz.func87,Tryz.ntmps87
 go_wp2_with (first|(refine aM rfl rfl rfl L0.o (by kernel_rfl) ?_)|(refine aM rfl rfl rfl L0.o (by kernel_rfl) ?_))
 refine(Dl HR.o HH.o hn F p kn D ad w1 M0.o.view HK.o M0.o.inv bt (SZ.o _ _ _ M0.o) (NF.o _ _ _ M0.o).1 (NF.o _ _ _ M0.o).2).mono ?_
 intro e w2 he
 rcases M0.o.step (ae.refl _) HK.o (lC HH.o.toPgIn ad) he with⟨a',hE,rfl,hd',ht',_⟩|⟨x2,D2,F2,hE,rfl,M2,hq2,hk2,hf2⟩
 ·exact NEED.o a' w2 (HRr.o.symm.trans (ag hE)) hd' ht'
 have R2:=hQQ ((aj hE).symm.trans HRr.o)
 have M2:=hQQ M2
 have HE2:=hQQ hE
 clear he hE hk2 hf2
 obtain⟨cs,i,b,ev,hsz,h1,hb⟩:=Im c p x2
 rw[ev]
 obtain⟨w3,e3,b3,m3⟩:=zD w2 cs
 have H1:=hQQ h1
 have HSZ:=hQQ hsz
 clear h1 hsz ev
 have M3:=hQQ (M2.o.more m3)
 have nFg:¬F2 w2.heap.size:=fun z=>by have:=M2.o.view.lt _ z;omega
 rcases hb with⟨rfl,hy⟩|⟨q,k,rfl,rfl,rfl⟩
 ·have FIN:=hQQ (DONE.o false w3 D2 F2 (by have:=R2.o;rw[hy] at this;exact this.symm) M3.o)
  clear R2 hy
  go_wp2_with (refine wpList_store_row rfl 90 _ _ rfl _ _ rfl rfl 90 _ (aW _ _ _) (by rw[HSZ.o];kernel_rfl) (by rw[HSZ.o];rfl) H1.o (e3.symm▸ ?_))
  refine⟨_,results_tmp (t:=6) rfl _ _ _,?_⟩
  exact FIN.o
 ·have HQ:=hQQ (hq2 q k i true rfl).1
  have PB:=hQQ (cx HH.o.toPgIn HQ.o)
  obtain⟨b,hwb,-⟩:=Bi HE2.o
  have R2:=hQQ (show mG c.pg c.st q k i kn D2=Rr from R2.o)
  have WB0:=hQQ hwb
  clear HE2 hq2 hwb
  go_wp2_with (first|(refine wpList_store_row rfl 90 _ _ rfl _ _ rfl rfl 90 _ (aW _ _ _) (by rw[HSZ.o];kernel_rfl) (by rw[HSZ.o];rfl) H1.o (e3.symm▸ ?_))|(refine wpList_load_row rfl 90 _ rfl _ rfl 90 _ _ _ b3 Tryz.underlying90 rfl (by kernel_rfl) ?_))
  have BG:=hQQ b3
  clear e3 m3 b3 M2
  generalize w2.heap.size=gb at BG nFg
  refine(Dk HR.o HH.o.toPgIn HN.o F2 p kn D2 q k HQ.o w3 M3.o.view HK.o M3.o.inv).mono ?_
  intro e w7 he
  rcases M3.o.stepR (ae.refl _) HK.o (a6 n PB.o.2.1.2.1) he with⟨a',hE,rfl,hd',ht',_⟩|⟨was,D6,F6,vm,hE,rfl,⟨gm,wm,rfl,hgm,hwm,hne,nm,nw,bm,bw⟩,M6,hq6,hk6,hf6⟩
  ·exact NEED.o a' w7 (R2.o.symm.trans (ag hE)) hd' ht'
  obtain⟨rfl,_⟩:=gV hE
  have R6:=hQQ ((aj hE).symm.trans R2.o)
  have R6:=hQQ ((aj (eZ WB0.o)).symm.trans R6.o)
  have BG:=hQQ (hk6 _ _ nFg BG.o)
  have BM:=hQQ bm
  have BW:=hQQ bw
  have NM:=hQQ nm
  have NW:=hQQ nw
  have M6:=hQQ M6
  have HB0:Hq (W64 b):=hQQ ((a6 n PB.o.2.2.2.1).ok HK.o M6.o.inv (eZ WB0.o)).2
  clear he hE bm bw nm nw hgm hwm hne hk6 hf6 hq6 M3 R2 nFg
  have YB:=hQQ (fun W (hW:ae w7 W)=>De HR.o HH.o.toPgIn F6 p kn D6 q k b HN.o HQ.o W (M6.o.view.more hW) WB0.o)
  have YS:=hQQ (fun W=>Hm (i:=i) HB0.o W)
  obtain⟨nb',hnb'⟩:∃nb',clearV b i=nb':=⟨_,rfl⟩
  have HB:=hQQ (kI HB0.o i)
  have HC:=hQQ (And.intro (cnt_b (clearV b i) k).1 (cnt_b (clearV b i) k).2.1)
  rw[hnb'] at YS R6 HB HC
  clear hnb'
  go_wp2_with fail
  refine bI 5 (by kernel_rfl) (by kernel_rfl) ?_
  simp only[List.take_succ_cons,List.take_zero,List.drop_succ_cons,List.drop_zero]
  refine aP rfl 90 _ rfl gb rfl 90 _ _ _ (fun W hW=>hW.block BG.o) Tryz.underlying90 rfl (by kernel_rfl) ?_
  refine aP rfl 90 _ rfl gb rfl 90 _ _ _ (fun W hW=>hW.block BG.o) Tryz.underlying90 rfl (by kernel_rfl) ?_
  iterate 1
   with_reducible refine wpQuiet_step (fun K hK=>?_)
   go_simp
   first
   |(refine hK _ ?_;clear hK K)
   |(apply Exists.intro
     refine⟨fun W hW=>?_,hK _ ?_⟩
     first
     |(go_at_call 82;exact Calls.more hW (YB.o W hW))
     |(go_simp;try rfl)
     clear hK K)
  iterate 1
   with_reducible refine wpQuiet_step (fun K hK=>?_)
   go_simp
   first
   |(refine hK _ ?_;clear hK K)
   |(apply Exists.intro
     refine⟨fun W hW=>?_,hK _ ?_⟩
     first
     |(go_simp;try rfl)
     clear hK K)
  iterate 1
   with_reducible refine wpQuiet_step (fun K hK=>?_)
   go_simp
   first
   |(refine hK _ ?_;clear hK K)
   |(apply Exists.intro
     refine⟨fun W hW=>?_,hK _ ?_⟩
     first
     |(go_at_call 113;exact Calls.more hW (YS.o W))
     |(go_simp;try rfl)
     clear hK K)
  refine wpQuiet_nil ?_
  intro w8 h8
  have M8:=hQQ (M6.o.more h8)
  have BM8:=hQQ (h8.block BM.o)
  have BW8:=hQQ (h8.block BW.o)
  clear h8
  go_wp2_with fail
  refine(Lx HR.o HH.o.toPgIn hn F6 p kn D6 q k nb' HQ.o HB.o HC.o w8 M8.o.view HK.o M8.o.inv bt (SZ.o _ _ _ M8.o) (NF.o _ _ _ M8.o).1 (NF.o _ _ _ M8.o).2).mono ?_
  intro e w9 he
  rcases M8.o.step (ae.refl _) HK.o (ip HH.o.toPgIn HQ.o HB.o) he with⟨a',hE,rfl,hd',ht',hk'⟩|⟨x9,D9,F9,hE,rfl,M9,hq9,hk9,hf9⟩
  ·have NE:=hQQ (NEED.o a')
   have R9:=hQQ (R6.o.symm.trans (ag hE))
   change bodyPostD _ _ _ (Exit.panic (bB p)) _ _
   refine leaves_cons (f:=129) (args:=#[.pointer (some ⟨gm,0,none⟩),.pointer (some ⟨wm,0,none⟩)]) (by simp) (by simp[go_sem]) ?_
   refine(ze HR.o HH.o p a' q k was gm wm w9 hd' (hk' _ _ NM.o BM8.o) (hk' _ _ NW.o BW8.o) _).mono ?_
   rintro e u' w10 ⟨rfl,rfl,h10⟩
   exact NE.o w10 R9.o (hd'.keep h10 (fun q=>q)) (ak ht' h10 (fun _ q=>q.elim))
  have R9:=hQQ ((aj hE).symm.trans R6.o)
  have BM9:=hQQ (hk9 _ _ NM.o BM8.o)
  have BW9:=hQQ (hk9 _ _ NW.o BW8.o)
  have NM9:=hQQ (show ¬F9 gm from fun z=>by rcases hf9 _ z with q|q;exact NM.o q;have:=ac BM8.o;omega)
  have M9:=hQQ M9
  clear he hE hk9 hf9 hq9 M8 BM8 BW8
  clear BG YB YS HB HC WB0 HB0 M6 BM BW NM NW SZ NF R6 L0 M0
  go_wp2_with fail
  refine leaves_cons (f:=129) (args:=#[.pointer (some ⟨gm,0,none⟩),.pointer (some ⟨wm,0,none⟩)]) (by simp) (by simp[go_sem]) ?_
  refine(zi HR.o HH.o hn F9 p kn D9 q k was HQ.o gm wm w9 M9.o.view HK.o M9.o.inv BM9.o BW9.o NM9.o _).mono ?_
  rintro e u' w13 ⟨rfl,he⟩
  rcases M9.o.step (ae.refl _) HK.o (io HH.o q k was HQ.o) he with⟨a',hE,rfl,hd',ht',_⟩|⟨x11,D11,F11,hE,rfl,M11,_,_,_⟩
  ·exact NEED.o a' w13 (R9.o.symm.trans (ag hE)) hd' ht'
  have FIN:=hQQ (DONE.o true w13 D11 F11 (R9.o.symm.trans (aj hE)) M11)
  refine⟨_,results_tmp (t:=6) rfl _ _ _,?_⟩
  exact FIN.o
section
variable {pg st:Int}{n:Nat}(H:cF pg st n)
include H
theorem tZ (k:Int):bZ n (fun _=>True) (j0 pg st k):=aw (gg H _ _ _) fun _ _=>ai n trivial
end
section
variable {pg st:Int}{n:Nat}(H:cF pg st n)
include H
theorem vU:PgW pg st (fun _=> []) (cQ n):=by
 have hz:∀i:Int,wAt (cQ n) i=0:=fun i=>by
  unfold wAt cQ
  simp only[List.getD,List.getElem?_replicate]
  split<;>rfl
 have hk:∀p,af pg p=true→aV pg st (cQ n) p=0:=fun p hp=>by unfold aV;rw[if_pos hp];exact hz _
 refine⟨Ib H,⟨fun p hp=>by rw[hk p hp];omega,fun p hp _=>⟨hz _,hz _⟩,fun p hp h=>absurd (hk p hp) h,fun p hp h=>?_,fun a p ha=>⟨fun h=>(by cases h),fun h=>?_⟩⟩⟩
 ·rw[hk p hp] at h;omega
 ·have:=hk p h.1;have:=h.2.1;omega
end
theorem Ip {k:Int} :szV k=0↔ax k=0:=by
 unfold szV ax
 (repeat' split)<;>simp
structure FlI (pg st q:Int)(ws:List Int)(p:Int)(s:Int×Bool):Prop where
 free:s.2=true↔∃x,0≤x∧x<p∧aV pg st ws x=0
 least:(s.1=0∧∀x,0≤x→x<p→0<szV q→aV pg st ws x=q+1→dQ q (dd pg st ws x)≤0) ∨
  (0<szV q∧0<s.1∧(∃x,0≤x∧x<p∧aV pg st ws x=q+1∧dQ q (dd pg st ws x)=s.1)∧∀x,0≤x→x<p→aV pg st ws x=q+1→0<dQ q (dd pg st ws x)→s.1≤dQ q (dd pg st ws x))
section
variable {pg st:Int}{n:Nat}(H:cF pg st n)
include H
end
end Go.Proofs.YtddmeghbmdfgeaaGreatDoor
