/-
  Words that hold lists of pages: what linking and unlinking leaves.
-/
import Derived.Test.YtddmeghbmdfgeaaGreatDoorFlAm
set_option maxRecDepth 100000
set_option maxHeartbeats 8000000
set_option linter.unusedVariables false
set_option linter.unusedSimpArgs false
set_option linter.unusedSectionVars false
namespace Go.Proofs.YtddmeghbmdfgeaaGreatDoor
def dz (pg st a:Int):Prop:=bz st pg≤a∧a<bz st pg+62
theorem ik {pg st c f:Int}(h:aI pg st c f≠0):dz pg st (aI pg st c f)∧0≤c∧c≤4∧1≤f∧f≤fR c:=by
 unfold aI at h⊢
 split
 ·rename_i g
  refine⟨?_,g.1,g.2.1,g.2.2.1,g.2.2.2⟩
  obtain⟨c0,c4,f1,fs⟩:=g
  have:c=0∨c=1∨c=2∨c=3∨c=4:=by omega
  unfold dz
  rcases this with rfl|rfl|rfl|rfl|rfl<;>simp[fR,fm] at fs⊢ <;>omega
 ·rename_i g;rw[if_neg g] at h;exact absurd rfl h
theorem Hm {pg st c f c' f':Int}(h:aI pg st c f≠0)(e:aI pg st c f=aI pg st c' f'):c=c'∧f=f':=by
 have g:=(ik h).2
 have g':=(ik (e▸h)).2
 unfold aI at e
 rw[if_pos ⟨g.1,g.2.1,g.2.2.1,g.2.2.2⟩,if_pos ⟨g'.1,g'.2.1,g'.2.2.1,g'.2.2.2⟩] at e
 obtain⟨c0,c4,f1,fs⟩:=g
 obtain⟨d0,d4,k1,ks⟩:=g'
 have h1:c=0∨c=1∨c=2∨c=3∨c=4:=by omega
 have h2:c'=0∨c'=1∨c'=2∨c'=3∨c'=4:=by omega
 rcases h1 with rfl|rfl|rfl|rfl|rfl<;>rcases h2 with rfl|rfl|rfl|rfl|rfl<;>simp[fR,fm] at fs ks e⊢ <;>omega
def hd1:List Int→Int
 | []=>0
 |p::_=>p+1
def fL:List Int→Int
 | []=> -1
 |p::_=>p
theorem Dd (l:List Int):hd1 l=fL l+1:=by cases l<;>rfl
def nxL:List Int→Int→Int
 | [],_=>0
 |x::t,p=>if x=p then hd1 t else nxL t p
def pvL:Int→List Int→Int→Int
 | _,[],_=>0
 |k,x::t,p=>if x=p then k else pvL (x+1) t p
theorem fX (l:List Int)(x:Int):cB (l++ [x])=x:=by simp[cB,List.getD]
theorem th (x:Int)(l:List Int)(h:l≠ []):cB (x::l)=cB l:=by
 obtain⟨s,y,rfl⟩:∃s y,l=s++ [y]:=⟨l.dropLast,l.getLast h,(List.dropLast_concat_getLast h).symm⟩
 rw[fX,show x::(s++ [y])=(x::s)++ [y] from rfl,fX]
theorem vC (l m:List Int)(h:m≠ []):cB (l++m)=cB m:=by
 obtain⟨s,y,rfl⟩:∃s y,m=s++ [y]:=⟨m.dropLast,m.getLast h,(List.dropLast_concat_getLast h).symm⟩
 rw[fX,←List.append_assoc,fX]
theorem vD (l:List Int)(h:l≠ []):cB l∈l:=by
 obtain⟨s,y,rfl⟩:∃s y,l=s++ [y]:=⟨l.dropLast,l.getLast h,(List.dropLast_concat_getLast h).symm⟩
 rw[fX];simp
theorem mh (u v:List Int)(r:Int)(h:r∉u):nxL (u++r::v) r=hd1 v:=by
 induction u with
 |nil=>show(if r=r then hd1 v else _)=_;rw[if_pos rfl]
 |cons x u ih =>
  show(if x=r then _ else nxL (u++r::v) r)=_
  rw[if_neg (fun e=>h (by simp[e])),ih (fun q=>h (by simp[q]))]
theorem Mj (u v:List Int)(r:Int)(h:r∉u):∀k,pvL k (u++r::v) r=if u= [] then k else cB u+1:=by
 induction u with
 |nil=>intro k;show(if r=r then k else _)=_;rw[if_pos rfl,if_pos rfl]
 |cons x u ih =>
  intro k
  show(if x=r then k else pvL (x+1) (u++r::v) r)=_
  rw[if_neg (fun e=>h (by simp[e])),ih (fun q=>h (by simp[q]))]
  by_cases hu:u= []
  ·subst hu;rfl
  ·rw[if_neg hu,if_neg (show ¬x::u= [] by simp),th x u hu]
theorem mZ (u v:List Int)(r:Int)(h:r∉u):pvL 0 (u++r::v) r=cB u+1:=by
 rw[Mj u v r h]
 split
 ·rename_i e;subst e;rfl
 ·rfl
theorem kb {l:List Int}{p:Int}(h:p∈l):∃s t,l=s++p::t∧p∉s:=by
 induction l with
 |nil=>cases h
 |cons x l ih =>
  by_cases e:x=p
  ·exact⟨[],l,by rw[e];rfl,by simp⟩
  ·obtain⟨s,t,rfl,hs⟩:=ih ((List.mem_cons.1 h).resolve_left (fun q=>e q.symm))
   exact⟨x::s,t,rfl,by simp only[List.mem_cons];rintro(q|q);exact e q.symm;exact hs q⟩
structure Ln (pg st:Int)(G:Int→List Int)(ws:List Int):Prop where
 head:∀a,dz pg st a→wAt ws a=hd1 (G a)
 page:∀a,dz pg st a→∀p∈G a,ag pg p=true
 nodup:∀a,dz pg st a→(G a).Nodup
 apart:∀a b p,dz pg st a→dz pg st b→p∈G a→p∈G b→a=b
 next:∀a p,dz pg st a→p∈G a→wAt ws (nA pg st p)=nxL (G a) p
 prev:∀a p,dz pg st a→p∈G a→wAt ws (vA pg st p)=pvL 0 (G a) p
 free:∀p,ag pg p=true→(∀a,dz pg st a→p∉G a)→wAt ws (nA pg st p)=0∧wAt ws (vA pg st p)=0
structure d9 (pg st:Int)(ws ws':List Int):Prop where
 len:ws'.length=ws.length
 off:∀i:Int,0≤i→¬dz pg st i→(∀p,ag pg p=true→i≠nA pg st p∧i≠vA pg st p)→wAt ws' i=wAt ws i
theorem d9.refl (pg st:Int)(ws:List Int):d9 pg st ws ws:=⟨rfl,fun _ _ _ _=>rfl⟩
theorem d9.trans {pg st:Int}{a b c:List Int}(h:d9 pg st a b)(g:d9 pg st b c):d9 pg st a c:=⟨g.len.trans h.len,fun i h0 h1 h2=>(g.off i h0 h1 h2).trans (h.off i h0 h1 h2)⟩
theorem Ln.uniq {pg st:Int}{G:Int→List Int}{ws ws':List Int}(h:Ln pg st G ws)(g:Ln pg st G ws')(o:d9 pg st ws ws'):ws'=ws :=
 ve o.len (fun i h0 _=>by
  by_cases e:dz pg st i
  ·rw[h.head i e,g.head i e]
  by_cases e2:∃p,ag pg p=true∧(i=nA pg st p∨i=vA pg st p)
  ·obtain⟨p,hp,hi⟩:=e2
   by_cases m:∃a,dz pg st a∧p∈G a
   ·obtain⟨a,ha,m⟩:=m
    rcases hi with rfl|rfl
    ·rw[h.next a p ha m,g.next a p ha m]
    ·rw[h.prev a p ha m,g.prev a p ha m]
   ·have m':∀a,dz pg st a→p∉G a:=fun a ha q=>m ⟨a,ha,q⟩
    rcases hi with rfl|rfl
    ·rw[(h.free p hp m').1,(g.free p hp m').1]
    ·rw[(h.free p hp m').2,(g.free p hp m').2]
  ·exact o.off i h0 e (fun p hp=>⟨fun q=>e2 ⟨p,hp,.inl q⟩,fun q=>e2 ⟨p,hp,.inr q⟩⟩))
section
variable {pg st:Int}{n:Nat}(H:cH pg st n)
include H
theorem ql {a:Int}(h:dz pg st a):4≤a∧a<n∧W64 a:=by
 have h1:=H.st1;have h2:=H.st2;have h3:=H.top62;have h4:=H.pg1;have h5:=H.pg2
 unfold dz bz W64 at *
 unfold aO bd at *
 omega
theorem jF {a p:Int}(h:dz pg st a)(hp:ag pg p=true):a≠nA pg st p∧a≠vA pg st p:=by
 have:=ay.1 hp;have h4:=H.pg1
 unfold dz bz at h
 unfold nA vA
 omega
theorem iK {p q:Int}(hp:ag pg p=true)(hq:ag pg q=true):nA pg st p≠vA pg st q:=by
 have:=ay.1 hp;have:=ay.1 hq
 unfold nA vA;omega
theorem JY {x:Int}(h:ag pg x=true):gU pg (x+1)=x:=by
 have:=ay.1 h;have h5:=H.pg2
 unfold gU
 rw[show IntKind.i64.wrap (x+1-1)=x by rw[show x+1-1=x by omega];exact aB (by omega) (by omega),if_pos h]
theorem EJ:gU pg 0= -1:=by
 unfold gU
 rw[show IntKind.i64.wrap (0-1)= -1 from aB (by omega) (by omega),if_neg (by rw[sE.2 (by omega)];simp)]
theorem JZ {l:List Int}(h:∀p∈l,ag pg p=true):gU pg (hd1 l)=fL l:=by
 cases l with
 |nil=>exact EJ H
 |cons x t=>exact JY H (h x (by simp))
theorem rH {l:List Int}{a:Int}{ws:List Int}(ha:0<a)(hw:wAt ws a=hd1 l)(h:∀p∈l,ag pg p=true):ci pg a ws=fL l:=by
 unfold ci
 rw[if_neg (by omega),hw]
 exact JZ H h
theorem K9 {l:List Int}(h:∀p∈l,ag pg p=true)(hn:l.Nodup):l.length≤pg.toNat :=
 lF pg.toNat l hn (fun p hp=>by have:=ay.1 (h p hp);omega)
theorem Hn {p a:Int}{G:Int→List Int}{ws:List Int}(L:Ln pg st G ws)(ha:dz pg st a)(m:Nat):∀(s t:List Int) (at':Int),G a=s++t→0<at'→wAt ws at'=hd1 t →
 (∀t1 t2,t=t1++p::t2→p∉t1→t1.length<m→plThrV pg st p m at' s ws=(s++t1,true)) ∧
 (p∉t→t.length≤m→(plThrV pg st p m at' s ws).1=s++t∧(p≠ -1→(plThrV pg st p m at' s ws).2=false)):=by
 induction m with
 |zero =>
  intro s t at' hG h0 hw
  refine⟨fun t1 t2 _ _ h=>absurd h (by omega),fun _ h=>?_⟩
  have:t= []:=List.length_eq_zero_iff.1 (by omega)
  subst this
  exact⟨by show s=s++ [];simp,fun _=>rfl⟩
 |succ m ih =>
  intro s t at' hG h0 hw
  have hpt:∀x∈t,ag pg x=true:=fun x hx=>L.page a ha x (by rw[hG];simp[hx])
  have hl:=rH H h0 hw hpt
  unfold plThrV
  rw[hl]
  cases t with
  |nil =>
   refine⟨fun t1 t2 e _ _=>by simp at e,fun _ _=>?_⟩
   rw[show fL []= -1 from rfl]
   by_cases e:(-1:Int)=p
   ·simp only[if_pos e];exact⟨by simp,fun q=>absurd e.symm q⟩
   ·simp only[if_neg e,if_true];exact⟨by simp,fun _=>by simp⟩
  |cons x t =>
   have hx:=hpt x (by simp)
   have hxp:=ay.1 hx
   have hxm:x∈G a:=by rw[hG];simp
   have hnd:=L.nodup a ha
   rw[hG] at hnd
   have hxs:x∉s:=fun q=>by
    have:=List.nodup_append.1 hnd
    exact this.2.2 x q x (by simp) rfl
   have hnx:wAt ws (nA pg st x)=hd1 t:=by rw[L.next a x ha hxm,hG,mh s t x hxs]
   have I:=ih (s++ [x]) t (nA pg st x) (by rw[hG];simp) (by have:=(eF H hx).1.1;omega) hnx
   show(∀t1 t2,x::t=t1++p::t2→p∉t1→t1.length<m+1→(if x=p then(s,true) else if x= -1 then(s,false) else plThrV pg st p m (nA pg st x) (s++ [x]) ws)=(s++t1,true))∧(p∉x::t→(x::t).length≤m+1→(if x=p then(s,true) else if x= -1 then(s,false) else plThrV pg st p m (nA pg st x) (s++ [x]) ws).1=s++x::t∧(p≠ -1→(if x=p then(s,true) else if x= -1 then(s,false) else plThrV pg st p m (nA pg st x) (s++ [x]) ws).2=false))
   refine⟨fun t1 t2 e hn hm=>?_,fun hn hm=>?_⟩
   ·cases t1 with
    |nil =>
     have:x=p:=by simp at e;exact e.1
     rw[if_pos this];simp
    |cons y t1 =>
     simp only[List.cons_append,List.cons.injEq] at e
     obtain⟨rfl,e⟩:=e
     rw[if_neg (fun q=>hn (by simp[q])),if_neg (by omega),I.1 t1 t2 e (fun q=>hn (by simp[q])) (by simp at hm;omega)]
     simp
   ·have hne:x≠p:=fun q=>hn (by simp[q])
    rw[if_neg hne,if_neg (by omega)]
    have:=I.2 (fun q=>hn (by simp[q])) (by simp at hm;omega)
    exact⟨by rw[this.1];simp,this.2⟩
theorem J1 {p a:Int}{G:Int→List Int}{ws:List Int}(L:Ln pg st G ws)(ha:dz pg st a){s t:List Int}(hG:G a=s++p::t)(hs:p∉s):plThrV pg st p pg.toNat a [] ws=(s,true):=by
 have hl:=K9 H (L.page a ha) (L.nodup a ha)
 rw[hG] at hl
 simp at hl
 have:=(Hn H (p:=p) L ha pg.toNat [] (G a) a rfl (by have:=(ql H ha).1;omega) (L.head a ha)).1 s t hG hs (by omega)
 simpa using this
theorem J2 {p a:Int}{G:Int→List Int}{ws:List Int}(L:Ln pg st G ws)(ha:dz pg st a)(hp:p∉G a):(plThrV pg st p pg.toNat a [] ws).1=G a∧(p≠ -1→(plThrV pg st p pg.toNat a [] ws).2=false):=by
 have:=(Hn H (p:=p) L ha pg.toNat [] (G a) a rfl (by have:=(ql H ha).1;omega) (L.head a ha)).2 hp (K9 H (L.page a ha) (L.nodup a ha))
 simpa using this
theorem Ho {p:Int}(ws:List Int):(plThrV pg st p pg.toNat 0 [] ws).1= []∧(p≠ -1→(plThrV pg st p pg.toNat 0 [] ws).2=false):=by
 obtain⟨m,hm⟩:∃m,pg.toNat=m+1:=⟨pg.toNat-1,by have:=H.pg1;omega⟩
 rw[hm]
 have h0:ci pg 0 ws= -1:=by unfold ci;rw[if_pos rfl]
 unfold plThrV
 rw[h0]
 by_cases e:(-1:Int)=p
 ·rw[if_pos e];exact⟨rfl,fun q=>absurd e.symm q⟩
 ·rw[if_neg e,if_pos rfl];exact⟨rfl,fun _=>rfl⟩
theorem xh {h p q:Int}(hh:dz pg st h)(hp:p= -1∨ag pg p=true)(hq:q= -1∨ag pg q=true){ws:List Int}(hn:ws.length=n){i:Int}(hi:0≤i):
 wAt (cQ pg st h p q ws) i=if q≠ -1∧i=vA pg st q then p+1 else if i=(if p= -1 then h else nA pg st p) then q+1 else wAt ws i:=by
 have hb:4≤(if p= -1 then h else nA pg st p)∧(if p= -1 then h else nA pg st p)<n:=by
  by_cases e:p= -1
  ·rw[if_pos e];exact⟨(ql H hh).1,(ql H hh).2.1⟩
  ·rw[if_neg e];have:=(eF H (hp.resolve_left e)).1;exact⟨this.1,this.2.1⟩
 unfold cQ
 by_cases e:q= -1
 ·rw[if_pos e,dI (by omega) hi (by omega),if_neg (fun z:q≠ -1∧i=vA pg st q=>z.1 e)]
 ·have:=(eF H (hq.resolve_left e)).2
  rw[if_neg e,dI (by omega) hi (by simp;omega),dI (by omega) hi (by omega)]
  by_cases e2:i=vA pg st q
  ·rw[if_pos e2,if_pos ⟨e,e2⟩]
  ·rw[if_neg e2,if_neg (fun z:q≠ -1∧i=vA pg st q=>e2 z.2)]
theorem ke (h p q:Int)(ws:List Int):(cQ pg st h p q ws).length=ws.length:=by unfold cQ;split<;>simp
end
def uC (G:Int→List Int)(a:Int)(l:List Int):Int→List Int:=fun b=>if b=a then l else G b
theorem du (G:Int→List Int)(a:Int)(l:List Int):uC G a l a=l:=if_pos rfl
theorem dD (G:Int→List Int)(a:Int)(l:List Int){b:Int}(h:b≠a):uC G a l b=G b:=if_neg h
section
variable {pg st:Int}{n:Nat}(H:cH pg st n)
include H
theorem J3 {c f p:Int}{G:Int→List Int}{ws:List Int}(L:Ln pg st G ws)(hn:ws.length=n)(hz:aI pg st c f≠0)(hp:ag pg p=true)(hf:∀a,dz pg st a→p∉G a):
 Ln pg st (uC G (aI pg st c f) (p::G (aI pg st c f))) (eH pg st p c f ws).2∧d9 pg st ws (eH pg st p c f ws).2:=by
 have hv:eH pg st p c f ws=(true,cQ pg st (aI pg st c f) (-1) p (cQ pg st (aI pg st c f) p (ci pg (aI pg st c f) ws) ws)):=by unfold eH;rw[if_pos ⟨hz,hp⟩]
 have ha:=(ik hz).1
 rw[hv]
 generalize aI pg st c f=a at ha hz
 show Ln pg st (uC G a (p::G a)) (cQ pg st a (-1) p (cQ pg st a p (ci pg a ws) ws))∧d9 pg st ws (cQ pg st a (-1) p (cQ pg st a p (ci pg a ws) ws))
 have ha4:=(ql H ha).1
 rw[rH H (by omega) (L.head a ha) (L.page a ha)]
 have hq:fL (G a)= -1∨ag pg (fL (G a))=true:=by
  cases e:G a with
  |nil=>exact .inl rfl
  |cons x t=>exact .inr (L.page a ha x (by rw[e];simp))
 have hpp:=ay.1 hp
 have hne:p≠ -1:=by omega
 have val:∀i:Int,0≤i→wAt (cQ pg st a (-1) p (cQ pg st a p (fL (G a)) ws)) i=if i=vA pg st p then 0 else if i=a then p+1 else if fL (G a)≠ -1∧i=vA pg st (fL (G a)) then p+1 else if i=nA pg st p then hd1 (G a) else wAt ws i:=fun i hi=>by
  rw[xh H ha (.inl rfl) (.inr hp) (by rw[ke H];exact hn) hi,xh H ha (.inr hp) hq hn hi,if_pos rfl,if_neg hne,Dd]
  by_cases e:i=vA pg st p
  ·rw[if_pos ⟨hne,e⟩,if_pos e];omega
  ·rw[if_neg (fun z:p≠ -1∧i=vA pg st p=>e z.2),if_neg e]
 have hlen:(cQ pg st a (-1) p (cQ pg st a p (fL (G a)) ws)).length=ws.length:=by rw[ke H,ke H]
 generalize cQ pg st a (-1) p (cQ pg st a p (fL (G a)) ws)=xs at val hlen
 have hfa:=hf a ha
 have qmem:fL (G a)≠ -1→fL (G a)∈G a:=fun e=>by
  cases e2:G a with
  |nil=>rw[e2] at e;exact absurd rfl e
  |cons x t=>simp[fL]
 have pos1:=fun(b:Int) (hb:dz pg st b)=>(ql H hb).1
 have posn:=fun(r:Int) (hr:ag pg r=true)=>(eF H hr).1.1
 have posv:=fun(r:Int) (hr:ag pg r=true)=>(eF H hr).2.1
 have injn:∀r,nA pg st r=nA pg st p→r=p:=fun r e=>by unfold nA at e;omega
 have injv:∀r s,vA pg st r=vA pg st s→r=s:=fun r s e=>by unfold vA at e;omega
 refine⟨⟨fun b hb=>?_,fun b hb r hr=>?_,fun b hb=>?_,fun b b' r hb hb' hr hr'=>?_,fun b r hb hr=>?_,fun b r hb hr=>?_,fun r hr hno=>?_⟩,?_,fun i h0 h1 h2=>?_⟩
 ·have nv:=jF H hb hp
  rw[val b (by have:=pos1 b hb;omega),if_neg nv.2]
  by_cases e:b=a
  ·rw[if_pos e,e,du];rfl
  ·rw[if_neg e,dD _ _ _ e,if_neg (fun z=>(jF H hb (L.page a ha _ (qmem z.1))).2 z.2),if_neg nv.1]
   exact L.head b hb
 ·by_cases e:b=a
  ·subst e
   rw[du] at hr
   rcases List.mem_cons.1 hr with rfl|hr
   ·exact hp
   ·exact L.page b hb r hr
  ·rw[dD _ _ _ e] at hr;exact L.page b hb r hr
 ·by_cases e:b=a
  ·subst e
   rw[du]
   exact List.nodup_cons.2 ⟨hfa,L.nodup b hb⟩
  ·rw[dD _ _ _ e];exact L.nodup b hb
 ·have cas:∀b,dz pg st b→r∈uC G a (p::G a) b→(b=a∧r=p)∨r∈G b:=fun b hb hr=>by
   by_cases e:b=a
   ·subst e
    rw[du] at hr
    rcases List.mem_cons.1 hr with h|h
    ·exact .inl ⟨rfl,h⟩
    ·exact .inr h
   ·rw[dD _ _ _ e] at hr;exact .inr hr
  rcases cas b hb hr with⟨e,h⟩|h
  ·rcases cas b' hb' hr' with⟨e',_⟩|h'
   ·rw[e,e']
   ·rw[h] at h';exact absurd h' (hf b' hb')
  ·rcases cas b' hb' hr' with⟨e',h'⟩|h'
   ·rw[h'] at h;exact absurd h (hf b hb)
   ·exact L.apart b b' r hb hb' h h'
 ·have hrp:ag pg r=true:=by
   by_cases e:b=a
   ·subst e
    rw[du] at hr
    rcases List.mem_cons.1 hr with rfl|hr
    ·exact hp
    ·exact L.page b hb r hr
   ·rw[dD _ _ _ e] at hr;exact L.page b hb r hr
  have p0:=posn r hrp
  rw[val _ (by omega),if_neg (iK H hrp hp),if_neg (fun e=>(jF H ha hrp).1 e.symm),if_neg (fun z=>iK H hrp (L.page a ha _ (qmem z.1)) z.2)]
  by_cases e:r=p
  ·subst e
   have:b=a:=by
    rcases Classical.em (b=a) with h|h
    ·exact h
    ·rw[dD _ _ _ h] at hr;exact absurd hr (hf b hb)
   subst this
   rw[if_pos rfl,du]
   exact(mh [] (G b) r (by simp)).symm
  ·rw[if_neg (fun z=>e (injn r z))]
   by_cases e2:b=a
   ·subst e2
    rw[du] at hr⊢
    have hr:=(List.mem_cons.1 hr).resolve_left e
    rw[L.next b r hb hr]
    show _=if p=r then _ else nxL (G b) r
    rw[if_neg (fun z=>e z.symm)]
   ·rw[dD _ _ _ e2] at hr⊢
    exact L.next b r hb hr
 ·have hrp:ag pg r=true:=by
   by_cases e:b=a
   ·subst e
    rw[du] at hr
    rcases List.mem_cons.1 hr with rfl|hr
    ·exact hp
    ·exact L.page b hb r hr
   ·rw[dD _ _ _ e] at hr;exact L.page b hb r hr
  have p0:=posv r hrp
  rw[val _ (by omega)]
  by_cases e:r=p
  ·subst e
   have:b=a:=by
    rcases Classical.em (b=a) with h|h
    ·exact h
    ·rw[dD _ _ _ h] at hr;exact absurd hr (hf b hb)
   subst this
   rw[if_pos rfl,du]
   exact(mZ [] (G b) r (by simp)).symm
  ·rw[if_neg (fun z=>e (injv r p z)),if_neg (fun z=>(jF H ha hrp).2 z.symm)]
   by_cases e2:b=a
   ·subst e2
    rw[du] at hr⊢
    have hr:=(List.mem_cons.1 hr).resolve_left e
    have e5:pvL 0 (p::G b) r=pvL (p+1) (G b) r:=by show(if p=r then 0 else pvL (p+1) (G b) r)=_;rw[if_neg (fun z=>e z.symm)]
    rw[e5]
    by_cases e3:r=fL (G b)
    ·have hq1:fL (G b)≠ -1:=by have:=ay.1 hrp;omega
     rw[if_pos ⟨hq1,by rw[e3]⟩]
     cases e4:G b with
     |nil=>rw[e4] at hr;cases hr
     |cons x t =>
      rw[e4] at e3
      have:x=r:=e3.symm
      show _=if x=r then p+1 else _
      rw[if_pos this]
    ·rw[if_neg (fun z=>e3 (injv _ _ z.2)),if_neg (fun z=>(iK H hp hrp) z.symm),L.prev b r hb hr]
     cases e4:G b with
     |nil=>rw[e4] at hr;cases hr
     |cons x t =>
      rw[e4] at e3
      have:x≠r:=fun z=>e3 z.symm
      show(if x=r then 0 else pvL (x+1) t r)=if x=r then p+1 else pvL (x+1) t r
      rw[if_neg this,if_neg this]
   ·rw[dD _ _ _ e2] at hr⊢
    rw[if_neg (fun z=>e2 (L.apart b a r hb ha hr (by rw[injv _ _ z.2];exact qmem z.1))),if_neg (fun z=>(iK H hp hrp) z.symm)]
    exact L.prev b r hb hr
 ·have hrne:r≠p:=fun e=>hno a ha (by rw[du,e];simp)
  have hno':∀b,dz pg st b→r∉G b:=fun b hb q=>by
   by_cases e:b=a
   ·subst e;exact hno b hb (by rw[du];simp[q])
   ·exact hno b hb (by rw[dD _ _ _ e];exact q)
  have:=L.free r hr hno'
  have p0:=posn r hr
  have p1:=posv r hr
  rw[val _ (by omega),val _ (by omega)]
  rw[if_neg (iK H hr hp),if_neg (fun z=>(jF H ha hr).1 z.symm),if_neg (fun z=>iK H hr (L.page a ha _ (qmem z.1)) z.2),if_neg (fun z=>hrne (injn r z))]
  rw[if_neg (fun z=>hrne (injv r p z)),if_neg (fun z=>(jF H ha hr).2 z.symm),if_neg (fun z=>hno' a ha (by rw[injv _ _ z.2];exact qmem z.1)),if_neg (fun z=>(iK H hp hr) z.symm)]
  exact this
 ·exact hlen
 ·rw[val i h0,if_neg (h2 p hp).2,if_neg (fun e=>h1 (by rw[e];exact ha)),if_neg (fun z=>(h2 _ (L.page a ha _ (qmem z.1))).2 z.2),if_neg (h2 p hp).1]
theorem EK {c f p:Int}{G:Int→List Int}{ws:List Int}(L:Ln pg st G ws)(hn:ws.length=n)(hz:aI pg st c f≠0){s t:List Int}(hG:G (aI pg st c f)=s++p::t)(hs:p∉s):
 (cE pg st p c f ws).1=true∧Ln pg st (uC G (aI pg st c f) (s++t)) (cE pg st p c f ws).2∧d9 pg st ws (cE pg st p c f ws).2:=by
 have ha:=(ik hz).1
 have hpm:p∈G (aI pg st c f):=by rw[hG];simp
 have hp:=L.page _ ha p hpm
 have thr:=J1 H L ha hG hs
 have hv:cE pg st p c f ws=(true,((cQ pg st (aI pg st c f) (cB s) (ci pg (nA pg st p) ws) ws).set (nA pg st p).toNat 0).set (vA pg st p).toNat 0):=by
  unfold cE
  rw[thr,if_pos ⟨hp,rfl⟩]
 rw[hv]
 refine⟨rfl,?_⟩
 generalize aI pg st c f=a at ha hz hG hpm
 show Ln pg st (uC G a (s++t)) (((cQ pg st a (cB s) (ci pg (nA pg st p) ws) ws).set (nA pg st p).toNat 0).set (vA pg st p).toNat 0)∧d9 pg st ws (((cQ pg st a (cB s) (ci pg (nA pg st p) ws) ws).set (nA pg st p).toNat 0).set (vA pg st p).toNat 0)
 have hpgl:=L.page a ha
 have hnd:=L.nodup a ha
 rw[hG] at hpgl hnd
 have hna:=List.nodup_append.1 hnd
 have hpt:p∉t:=(List.nodup_cons.1 hna.2.1).1
 have hst:∀x,x∈s→x∉t:=fun x h1 h2=>hna.2.2 x h1 x (by simp[h2]) rfl
 have hnp:wAt ws (nA pg st p)=hd1 t:=by rw[L.next a p ha hpm,hG,mh s t p hs]
 obtain⟨⟨a0,a1,a2⟩,c0,c1,c2⟩:=eF H hp
 have htp:∀x∈t,ag pg x=true:=fun x hx=>hpgl x (by simp[hx])
 have hsp:∀x∈s,ag pg x=true:=fun x hx=>hpgl x (by simp[hx])
 rw[rH H (by omega) hnp htp]
 have hq:fL t= -1∨ag pg (fL t)=true:=by
  cases t with
  |nil=>exact .inl rfl
  |cons x t=>exact .inr (htp x (by simp))
 have hb:=kN H hsp
 have val:∀i:Int,0≤i→wAt (((cQ pg st a (cB s) (fL t) ws).set (nA pg st p).toNat 0).set (vA pg st p).toNat 0) i=if i=vA pg st p then 0 else if i=nA pg st p then 0 else if fL t≠ -1∧i=vA pg st (fL t) then cB s+1 else if i=(if cB s= -1 then a else nA pg st (cB s)) then hd1 t else wAt ws i:=fun i hi=>by
  rw[dI (by omega) hi (by simp[ke H];omega),dI (by omega) hi (by rw[ke H];omega),xh H ha hb hq hn hi,Dd]
 have hlen:(((cQ pg st a (cB s) (fL t) ws).set (nA pg st p).toNat 0).set (vA pg st p).toNat 0).length=ws.length:=by simp[ke H]
 generalize ((cQ pg st a (cB s) (fL t) ws).set (nA pg st p).toNat 0).set (vA pg st p).toNat 0=xs at val hlen
 have hpp:=ay.1 hp
 have pos1:=fun(b:Int) (hb:dz pg st b)=>(ql H hb).1
 have posn:=fun(r:Int) (hr:ag pg r=true)=>(eF H hr).1.1
 have posv:=fun(r:Int) (hr:ag pg r=true)=>(eF H hr).2.1
 have injn:∀r s,nA pg st r=nA pg st s→r=s:=fun r s e=>by unfold nA at e;omega
 have injv:∀r s,vA pg st r=vA pg st s→r=s:=fun r s e=>by unfold vA at e;omega
 have qmem:fL t≠ -1→fL t∈t:=fun e=>by
  cases t with
  |nil=>exact absurd rfl e
  |cons x t=>simp[fL]
 have bmem:cB s≠ -1→cB s∈s:=fun e=>vD s (fun z=>by rw[z] at e;exact e rfl)
 have snil:cB s= -1→s= []:=fun e=>by
  rcases Classical.em (s= []) with z|z
  ·exact z
  ·have:=ay.1 (hsp _ (vD s z));omega
 have mem':∀b r,dz pg st b→r∈uC G a (s++t) b→r∈G b∧r≠p:=fun b r hb hr=>by
  by_cases e:b=a
  ·subst e
   rw[du] at hr
   refine⟨?_,fun z=>?_⟩
   ·rw[hG]
    rcases List.mem_append.1 hr with h|h<;>simp[h]
   ·rw[z] at hr
    rcases List.mem_append.1 hr with h|h
    ·exact hs h
    ·exact hpt h
  ·rw[dD _ _ _ e] at hr
   exact⟨hr,fun z=>e (L.apart b a p hb ha (z▸hr) hpm)⟩
 have qin:∀r,fL t≠ -1∧vA pg st r=vA pg st (fL t)→r∈t:=fun r z=>by rw[injv _ _ z.2];exact qmem z.1
 have ga:∀r,r∈s∨r∈t→r∈G a:=fun r h=>by rw[hG];rcases h with h|h<;>simp[h]
 refine⟨⟨fun b hb=>?_,fun b hb r hr=>L.page b hb r (mem' b r hb hr).1,fun b hb=>?_,fun b b' r hb hb' hr hr'=>L.apart b b' r hb hb' (mem' b r hb hr).1 (mem' b' r hb' hr').1,fun b r hb hr=>?_,fun b r hb hr=>?_,fun r hr hno=>?_⟩,hlen,fun i h0 h1 h2=>?_⟩
 ·have nv:=jF H hb hp
  rw[val b (by have:=pos1 b hb;omega),if_neg nv.2,if_neg nv.1,if_neg (fun z=>(jF H hb (htp _ (qmem z.1))).2 z.2)]
  by_cases e:b=a
  ·subst e
   rw[du]
   by_cases e2:cB s= -1
   ·rw[if_pos e2,if_pos rfl,snil e2];rfl
   ·rw[if_neg e2,if_neg (jF H hb (hsp _ (bmem e2))).1,L.head b hb,hG]
    cases s with
    |nil=>exact absurd rfl e2
    |cons x s=>rfl
  ·rw[dD _ _ _ e]
   by_cases e2:cB s= -1
   ·rw[if_pos e2,if_neg e];exact L.head b hb
   ·rw[if_neg e2,if_neg (jF H hb (hsp _ (bmem e2))).1];exact L.head b hb
 ·by_cases e:b=a
  ·subst e
   rw[du]
   refine List.nodup_append.2 ⟨hna.1,(List.nodup_cons.1 hna.2.1).2,fun x hx y hy z=>?_⟩
   subst z
   exact hst x hx hy
  ·rw[dD _ _ _ e];exact L.nodup b hb
 ·obtain⟨hr1,hrp⟩:=mem' b r hb hr
  have hrg:=L.page b hb r hr1
  have p0:=posn r hrg
  rw[val _ (by omega),if_neg (iK H hrg hp),if_neg (fun z=>hrp (injn _ _ z)),if_neg (fun z=>iK H hrg (htp _ (qmem z.1)) z.2)]
  have hh:nA pg st r≠a:=fun z=>(jF H ha hrg).1 z.symm
  by_cases e:b=a
  ·subst e
   rw[du] at hr⊢
   by_cases e2:r=cB s
   ·have hs0:cB s≠ -1:=by rw[←e2];have:=ay.1 hrg;omega
    rw[if_neg hs0,if_pos (by rw[e2])]
    obtain⟨s',y,rfl⟩:∃s' y,s=s'++ [y]:=⟨s.dropLast,s.getLast (fun z=>hs0 (by rw[z];rfl)),(List.dropLast_concat_getLast _).symm⟩
    rw[fX] at e2
    subst e2
    have:r∉s':=fun q=>(List.nodup_append.1 hna.1).2.2 r q r (by simp) rfl
    rw[List.append_assoc]
    exact(mh s' t r this).symm
   ·have hif:nA pg st r≠(if cB s= -1 then b else nA pg st (cB s)):=by
     by_cases e3:cB s= -1
     ·rw[if_pos e3];exact hh
     ·rw[if_neg e3];exact fun z=>e2 (injn _ _ z)
    rw[if_neg hif,L.next b r hb hr1,hG]
    rcases List.mem_append.1 hr with h|h
    ·obtain⟨u,v,rfl,hu⟩:=kb h
     have hv:v≠ []:=fun z=>e2 (by rw[z,fX])
     obtain⟨y,v',rfl⟩:=List.exists_cons_of_ne_nil hv
     have h1:(u++r::y::v')++p::t=u++r::(y::(v'++p::t)):=by simp
     have h2:(u++r::y::v')++t=u++r::(y::(v'++t)):=by simp
     rw[h1,h2,mh u _ r hu,mh u _ r hu]
     rfl
    ·obtain⟨u,v,rfl,hu⟩:=kb h
     have hrs:r∉s:=fun q=>hst r q h
     have h1:s++p::(u++r::v)=(s++p::u)++r::v:=by simp
     have h2:s++(u++r::v)=(s++u)++r::v:=by simp
     rw[h1,h2,mh _ v r (by simp;exact⟨hrs,hrp,hu⟩),mh _ v r (by simp;exact⟨hrs,hu⟩)]
  ·rw[dD _ _ _ e] at hr⊢
   have hif:nA pg st r≠(if cB s= -1 then a else nA pg st (cB s)):=by
    by_cases e3:cB s= -1
    ·rw[if_pos e3];exact hh
    ·rw[if_neg e3];exact fun z=>e (L.apart b a r hb ha hr (by rw[injn _ _ z];exact ga _ (.inl (bmem e3))))
   rw[if_neg hif]
   exact L.next b r hb hr
 ·obtain⟨hr1,hrp⟩:=mem' b r hb hr
  have hrg:=L.page b hb r hr1
  have p0:=posv r hrg
  rw[val _ (by omega),if_neg (fun z=>hrp (injv _ _ z)),if_neg (fun z=>iK H hp hrg z.symm)]
  have hif:vA pg st r≠(if cB s= -1 then a else nA pg st (cB s)):=by
   by_cases e3:cB s= -1
   ·rw[if_pos e3];exact fun z=>(jF H ha hrg).2 z.symm
   ·rw[if_neg e3];exact fun z=>iK H (hsp _ (bmem e3)) hrg z.symm
  by_cases e:b=a
  ·subst e
   rw[du] at hr⊢
   by_cases e2:fL t≠ -1∧vA pg st r=vA pg st (fL t)
   ·rw[if_pos e2]
    have hrt:=qin r e2
    have hr':=injv _ _ e2.2
    cases t with
    |nil=>cases hrt
    |cons x t' =>
     have:x=r:=hr'.symm
     subst this
     exact(mZ s t' x (fun q=>hst x q (by simp))).symm
   ·rw[if_neg e2,if_neg hif,L.prev b r hb hr1,hG]
    rcases List.mem_append.1 hr with h|h
    ·obtain⟨u,v,rfl,hu⟩:=kb h
     have h1:(u++r::v)++p::t=u++r::(v++p::t):=by simp
     have h2:(u++r::v)++t=u++r::(v++t):=by simp
     rw[h1,h2,mZ u _ r hu,mZ u _ r hu]
    ·obtain⟨u,v,rfl,hu⟩:=kb h
     have hrs:r∉s:=fun q=>hst r q h
     have hun:u≠ []:=fun z=>e2 (by subst z;exact⟨by show r≠ -1;have:=ay.1 hrg;omega,rfl⟩)
     have h1:s++p::(u++r::v)=(s++p::u)++r::v:=by simp
     have h2:s++(u++r::v)=(s++u)++r::v:=by simp
     rw[h1,h2,mZ _ v r (by simp;exact⟨hrs,hrp,hu⟩),mZ _ v r (by simp;exact⟨hrs,hu⟩),vC s (p::u) (by simp),th p u hun,vC s u hun]
  ·rw[dD _ _ _ e] at hr⊢
   rw[if_neg (fun z=>e (L.apart b a r hb ha hr (ga _ (.inr (qin r z))))),if_neg hif]
   exact L.prev b r hb hr
 ·have p0:=posn r hr
  have p1:=posv r hr
  rw[val _ (by omega),val _ (by omega)]
  by_cases e:r=p
  ·subst e
   rw[if_neg (iK H hr hr),if_pos rfl,if_pos rfl]
   exact⟨rfl,rfl⟩
  ·have hno':∀b,dz pg st b→r∉G b:=fun b hb q=>by
    by_cases e2:b=a
    ·subst e2
     refine hno b hb ?_
     rw[du]
     rw[hG] at q
     rcases List.mem_append.1 q with h|h
     ·simp[h]
     ·simp[(List.mem_cons.1 h).resolve_left e]
    ·exact hno b hb (by rw[dD _ _ _ e2];exact q)
   have fr:=L.free r hr hno'
   have hif1:nA pg st r≠(if cB s= -1 then a else nA pg st (cB s)):=by
    by_cases e3:cB s= -1
    ·rw[if_pos e3];exact fun z=>(jF H ha hr).1 z.symm
    ·rw[if_neg e3];exact fun z=>hno' a ha (by rw[injn _ _ z];exact ga _ (.inl (bmem e3)))
   have hif2:vA pg st r≠(if cB s= -1 then a else nA pg st (cB s)):=by
    by_cases e3:cB s= -1
    ·rw[if_pos e3];exact fun z=>(jF H ha hr).2 z.symm
    ·rw[if_neg e3];exact fun z=>iK H (hsp _ (bmem e3)) hr z.symm
   rw[if_neg (iK H hr hp),if_neg (fun z=>e (injn _ _ z)),if_neg (fun z=>iK H hr (htp _ (qmem z.1)) z.2),if_neg hif1]
   rw[if_neg (fun z=>e (injv _ _ z)),if_neg (fun z=>iK H hp hr z.symm),if_neg (fun z=>hno' a ha (ga _ (.inr (qin r z)))),if_neg hif2]
   exact fr
 ·have hif:i≠(if cB s= -1 then a else nA pg st (cB s)):=by
   by_cases e3:cB s= -1
   ·rw[if_pos e3];exact fun z=>h1 (by rw[z];exact ha)
   ·rw[if_neg e3];exact(h2 _ (hsp _ (bmem e3))).1
  rw[val i h0,if_neg (h2 p hp).2,if_neg (h2 p hp).1,if_neg (fun z=>(h2 _ (htp _ (qmem z.1))).2 z.2),if_neg hif]
theorem vE {c f p:Int}{G:Int→List Int}{ws:List Int}(L:Ln pg st G ws)(h:ag pg p=true→aI pg st c f≠0→p∉G (aI pg st c f)):cE pg st p c f ws=(false,ws):=by
 unfold cE
 refine if_neg (fun z=>?_)
 have hp:=ay.1 z.1
 by_cases e:aI pg st c f=0
 ·have:=(Ho H (p:=p) ws).2 (by omega)
  rw[e,this] at z
  cases z.2
 ·have:=(J2 H L (ik e).1 (h z.1 e)).2 (by omega)
  rw[this] at z
  cases z.2
end
theorem Hp {pg st:Int}{n:Nat}(H:cH pg st n):Ln pg st (fun _=> []) (cO n):=by
 have hz:∀i:Int,wAt (cO n) i=0:=fun i=>by
  unfold wAt cO
  simp only[List.getD,List.getElem?_replicate]
  split<;>rfl
 exact⟨fun a _=>hz a,fun a _ p h=>(by cases h),fun a _=>List.nodup_nil,fun a b p _ _ h=>(by cases h),fun a p _ h=>(by cases h),fun a p _ h=>(by cases h),fun p _ _=>⟨hz _,hz _⟩⟩
section
variable {pg st:Int}{n:Nat}(H:cH pg st n)
include H
end
structure InL (pg st:Int)(G:Int→List Int)(ins:List Int):Prop where
 len:ins.length=pg.toNat
 at':∀p,ag pg p=true→(wAt ins p=0∧∀a,dz pg st a→p∉G a)∨(∃c f,aI pg st c f≠0∧p∈G (aI pg st c f)∧wAt ins p=100 * c+f)
section
variable {pg st:Int}{n:Nat}(H:cH pg st n)
include H
end
open Go.RowKit Go.Sort Go.Maps Go.Shelf
theorem d9.symm {pg st:Int}{a b:List Int}(h:d9 pg st a b):d9 pg st b a:=⟨h.len.symm,fun i h0 h1 h2=>(h.off i h0 h1 h2).symm⟩
structure Oo (pg st h:Int)(ps:List Int)(ws:List Int)(i:Nat)(ws':List Int):Prop where
 hd:wAt ws' h=if i=0 then 0 else hd1 ps
 nx:∀k,k<i→wAt ws' (nA pg st (ps.getD k 0))=if k+1<ps.length then ps.getD (k+1) 0+1 else 0
 pv:∀k,k<i→wAt ws' (vA pg st (ps.getD k 0))=if k=0 then 0 else ps.getD (k-1) 0+1
 off:∀x:Int,0≤x→x≠h→(∀k,k<i→x≠nA pg st (ps.getD k 0)∧x≠vA pg st (ps.getD k 0))→wAt ws' x=wAt ws x
section
variable {pg st:Int}{n:Nat}(H:cH pg st n)
include H
end
theorem De {n:Nat}{zs:List Int}{D:List KV}(hz:OkW zs)(h:cF n D)(hn:zs.length=n):OkW (cj zs D):=by
 subst hn
 intro x hx
 obtain⟨i,hi,rfl⟩:=List.getElem_of_mem hx
 have hl:i<zs.length:=by rw[d6] at hi;exact hi
 have h1:=yj (zs:=zs) h (a:=(i:Int)) (by omega) (by omega)
 have h2:wAt (cj zs D) (i:Int)=(cj zs D)[i]:=by simp[wAt,List.getD,hi]
 rw[←h2]
 exact Cw (jy hz) h.ok h1
theorem xi {ws:List Int}(h:OkW ws)(a:Int):W64 (wAt ws a):=by
 unfold wAt
 by_cases e:a.toNat<ws.length
 ·rw[List.getD,List.getElem?_eq_getElem e];exact h _ (List.getElem_mem e)
 ·rw[List.getD,List.getElem?_eq_none (by omega)];unfold W64;constructor<;>decide
theorem ti {α β:Type}{n:Nat}{p:Prg α}{f:α→Prg β}{g:List Int→α×List Int}{k:α→List Int→β×List Int}{Q:α→Prop}(h:bR n p g)(hq:∀ws,ws.length=n→OkW ws→Q (g ws).1)(hf:∀x,Q x→bR n (f x) (k x)):bR n (ar p f) (fun ws=>k (g ws).1 (g ws).2):=fun zs D hn hz hD=>by
 obtain⟨D1,e1,a1,i1⟩:=h zs D hn hz hD
 obtain⟨D2,e2,a2,i2⟩:=hf (g (cj zs D)).1 (hq _ (by rw[d6];exact hn) (De hz hD hn)) zs D1 hn hz i1
 refine⟨D2,?_,?_,i2⟩
 ·rw[ak e1,e2,a1]
 ·rw[a2,a1]
def kS (pg st k x:Int)(ws:List Int):Int×List Int :=
 if x= -1 then(if(iq pg st (jl pg st 1 1 ws) 1 (k+1) ws).1 then jl pg st 1 1 ws else -1,(iq pg st (jl pg st 1 1 ws) 1 (k+1) ws).2) else(x,ws)
def gD (pg st k:Int)(ws:List Int):Int×List Int:=if aw k=0 then(-1,ws) else kS pg st k (dh pg st k (aw k).toNat 1 ws) ws
def qm (pg st q k b:Int)(ws:List Int):List Int:=if dQ k b=aw k then(Db pg st q ws).2 else(ws.set (bA pg st q).toNat b).set (cA pg st q).toNat (dQ k b)
def mj (pg st q k was:Int)(ws:List Int):List Int:=(eH pg st q k (cG pg st (cE pg st q k was ws).2 q) (cE pg st q k was ws).2).2
def gE (pg st q k was b:Int)(ws:List Int):List Int:=mj pg st q k was (qm pg st q k b ws)
def oo (us pg st k q:Int)(ws:List Int):(Int×Bool)×List Int :=
 if q= -1 then((0,false),ws) else if bP (c8 pg st ws q) (aw k)= -1 then((0,false),ws)
 else((us+32 * q+bP (c8 pg st ws q) (aw k) * szV k,true),gE pg st q k (cG pg st ws q) (setV (c8 pg st ws q) (bP (c8 pg st ws q) (aw k))) ws)
def dd (us pg st k:Int)(ws:List Int):(Int×Bool)×List Int:=oo us pg st k (gD pg st k ws).1 (gD pg st k ws).2
def kT (pg st q wd x:Int)(ws:List Int):TkA :=
 if aw (IntKind.i64.wrap (x-1))=0 then none else if wd % szV (IntKind.i64.wrap (x-1))≠0 then none
 else some (q,IntKind.i64.wrap (x-1),wd / szV (IntKind.i64.wrap (x-1)),eG (c8 pg st ws q) (wd / szV (IntKind.i64.wrap (x-1))))
def fN (us pg st a:Int)(ws:List Int):TkA:=if us≤a∧a<us+32 * pg then kT pg st ((a-us) / 32) ((a-us) % 32) (aZ pg st ws ((a-us) / 32)) ws else none
def xj (pg st:Int)(x:Option (Int×Int×Int))(ws:List Int):Bool×List Int :=
 match x with
 |some (q,k,i)=>(true,gE pg st q k (cG pg st ws q) (clearV (c8 pg st ws q) i) ws)
 |none=>(false,ws)
def gQ (us pg st a:Int)(ws:List Int):Bool×List Int:=xj pg st (gi (fN us pg st a ws)) ws
def tj (pg st k:Int)(ws:List Int):Bool:=dh pg st k (aw k).toNat 1 ws != -1
section
variable {pg st:Int}{n:Nat}(H:cH pg st n)
include H
theorem jn {q:Int}(hq:ag pg q=true):(0≤cA pg st q∧cA pg st q<n∧W64 (cA pg st q))∧0≤bA pg st q∧bA pg st q<n∧W64 (bA pg st q):=by
 obtain⟨_,⟨b0,b1,b2⟩,c0,c1,c2⟩:=cu H.toPgIn hq
 exact⟨⟨by omega,b1,b2⟩,by omega,c1,c2⟩
theorem EM (k:Int)(m:Nat)(ws:List Int):∀f,dh pg st k m f ws= -1∨ag pg (dh pg st k m f ws)=true:=by
 induction m with
 |zero=>intro f;exact .inl rfl
 |succ m ih =>
  intro f
  show(if _ then _ else _)= -1∨ag pg (if _ then _ else _)=true
  split
  ·exact ih _
  ·exact tf H _ _
theorem za {k:Int}(hk:0≤k∧k≤4)(x:Int):bR n (if x= -1 then ar (kI pg st 1 1) (fun y=>ar (ji pg st y 1 (k+1)) fun b=>aA (if b then y else -1)) else aA x) (kS pg st k x):=by
 unfold kS
 exact bJ (fun _=>aD (EC H.toPgIn 1 1) fun y=>aD (Ez H.toPgIn y 1 (k+1) (by unfold W64;omega) vu) fun b=>ax n _) (fun _=>ax n x)
theorem Bi (k:Int):bR n (kP pg st k) (gD pg st k):=by
 unfold kP gD
 exact bJ (fun _=>ax n _) (fun h=>aD (nO H k _ 1) fun x=>za H (fd h) x)
theorem EN {y m k:Int}{ws:List Int}(h:(iq pg st y m k ws).1=true):ag pg y=true:=by
 unfold iq at h
 split at h
 ·rename_i e
  simp at e
  have:=(te.1 e.2).1
  have:=dZ.1 this
  exact ay.2 ⟨by omega,by omega⟩
 ·cases h
theorem J4 (k:Int)(ws:List Int):(gD pg st k ws).1= -1∨ag pg (gD pg st k ws).1=true:=by
 unfold gD
 split
 ·exact .inl rfl
 ·unfold kS
  split
  ·show(if _ then _ else _)= -1∨ag pg (if _ then _ else _)=true
   split
   ·rename_i e;exact .inr (EN H e)
   ·exact .inl rfl
  ·exact EM H k _ ws 1
theorem tk {q k b:Int}(hq:ag pg q=true)(hb:W64 b):bR n (gA pg st q k b) (fun ws=>((),qm pg st q k b ws)):=by
 obtain⟨⟨b0,b1,b2⟩,c0,c1,c2⟩:=jn H hq
 unfold gA
 refine a6 (bJ (fun _=>aD (EA H.toPgIn q) fun _=>ax n ()) (fun _=>aD (df c0 c1 c2 hb) fun _=>aD (df b0 b1 b2 (x:=dQ k b) (by have:=cnt_b b k;unfold W64;omega)) fun _=>ax n _)) (fun ws _=>?_)
 unfold qm
 split<;>rfl
theorem tn {q:Int}(hq:ag pg q=true)(k was:Int):bR n (iG pg st q k was) (fun ws=>((),mj pg st q k was ws)):=by
 obtain⟨⟨b0,b1,b2⟩,_⟩:=jn H hq
 exact aD (uB H q k was) fun _=>aD (dY b0 b1) fun f=>aD (yZ H q k f) fun _=>ax n ()
theorem Bj (us k:Int){q:Int}(hq:q= -1∨ag pg q=true):bR n (if q= -1 then aA (0,false) else ar (cW (bA pg st q)) fun b =>
 if bP b (aw k)= -1 then aA (0,false) else ar (cW (cA pg st q)) fun was =>
  ar (gA pg st q k (setV b (bP b (aw k)))) fun _=>ar (iG pg st q k was) fun _=>aA (us+32 * q+bP b (aw k) * szV k,true)) (oo us pg st k q):=by
 unfold oo
 refine bJ (fun _=>ax n _) (fun h=>?_)
 have hq:=hq.resolve_left h
 obtain⟨⟨b0,b1,b2⟩,c0,c1,c2⟩:=jn H hq
 refine a6 (ti (Q:=W64) (dY c0 c1) (fun ws _ ho=>xi ho _) fun b hb=>bJ (fun _=>ax n ((0:Int),false)) fun _=>aD (dY b0 b1) fun was=>aD (tk H hq (rG hb _)) fun _=>aD (tn H hq k was) fun _=>ax n (us+32 * q+bP b (aw k) * szV k,true)) (fun ws _=>?_)
 rfl
theorem qn (us k:Int):bR n (j9 us pg st k) (dd us pg st k):=
 fW (Q:=fun q=>q= -1∨ag pg q=true) (Bi H k) (fun ws _=>J4 H k ws) fun q hq=>Bj H us k hq
theorem zc {q:Int}(hq:ag pg q=true)(wd x:Int):bR n (jk pg st q wd x) (fun ws=>(kT pg st q wd x ws,ws)):=by
 obtain⟨_,c0,c1,c2⟩:=jn H hq
 unfold jk
 refine a6 (bJ (fun _=>ax n _) (fun _=>bJ (fun _=>ax n _) (fun _=>aD (dY c0 c1) fun b=>ax n _))) (fun ws _=>?_)
 unfold kT
 split
 ·rfl
 ·split<;>rfl
theorem zd {q:Int}(hq:ag pg q=true)(wd:Int):bR n (ar (fg pg st q) fun x=>jk pg st q wd x) (fun ws=>(kT pg st q wd (aZ pg st ws q) ws,ws)):=
 a6 (aD (mX H.toPgIn q) fun x=>zc H hq wd x) (fun ws _=>rfl)
theorem Bn (us a:Int):bR n (fK us pg st a) (fun ws=>(fN us pg st a ws,ws)):=by
 unfold fK
 generalize hq:(a-us) / 32=q
 generalize hw:(a-us) % 32=wd
 refine a6 (bJ (fun h=>zd H (by rw[←hq];exact(mW h).1) wd) (fun _=>ax n (none:TkA))) (fun ws _=>?_)
 unfold fN
 rw[hq,hw]
 split<;>rfl
theorem J5 {us a:Int}{ws:List Int}{q k i:Int}{t:Bool}(h:fN us pg st a ws=some (q,k,i,t)):ag pg q=true∧0≤k∧k≤4:=by
 unfold fN at h
 split at h
 ·rename_i hin
  unfold kT at h
  split at h
  ·cases h
  ·rename_i hz
   split at h
   ·cases h
   ·cases h
    have:=fd hz
    exact⟨(mW hin).1,this.1,this.2⟩
 ·cases h
theorem uD {q:Int}(hq:ag pg q=true)(k i:Int):bR n (lX pg st q k i) (fun ws=>(true,gE pg st q k (cG pg st ws q) (clearV (c8 pg st ws q) i) ws)):=by
 obtain⟨⟨b0,b1,b2⟩,c0,c1,c2⟩:=jn H hq
 refine a6 (aD (dY b0 b1) fun was=>ti (Q:=W64) (dY c0 c1) (fun ws _ ho=>xi ho _) fun b hb=>aD (tk H hq (j8 hb i)) fun _=>aD (tn H hq k was) fun _=>ax n true) (fun ws _=>?_)
 rfl
theorem ze (x:Option (Int×Int×Int))(hx:∀q k i,x=some (q,k,i)→ag pg q=true):bR n (A9 pg st x) (xj pg st x):=by
 cases x with
 |none=>exact ax n _
 |some y =>
  obtain⟨q,k,i⟩:=y
  exact uD H (hx q k i rfl) k i
theorem vF (us a:Int):bR n (qT us pg st a) (gQ us pg st a):=
 fW (k:=fun x ws=>xj pg st (gi x) ws) (Q:=fun x:TkA=>∀q k i t,x=some (q,k,i,t)→ag pg q=true) (Bn H us a) (fun ws _ q k i t e=>(J5 H e).1) fun x hx=>ze H _ fun q k i e=>hx q k i true (gX e)
theorem EO (k:Int):bR n (lU pg st k) (fun ws=>(tj pg st k ws,ws)):=aD (nO H k _ 1) fun x=>ax n _
end
theorem mn (j:Nat):eL 0 j=false:=by simp[eL,wU]
theorem kU {k:Int} :((endN (aw k):Nat):Int)=aw k:=by
 have:=eN k
 unfold endN;omega
theorem EP (k:Int):dQ k 0=aw k:=by
 have:onN 0 (endN (aw k))= []:=List.filter_eq_nil_iff.2 (fun j _=>by rw[mn];simp)
 unfold dQ dy
 rw[this];simp
theorem tt {b k:Int}{j:Nat}(hj:(j:Int)<aw k)(hb:eL b j=false):dQ k (setV b (j:Int))=dQ k b-1:=by
 have hs:=eN k
 have he:=kU (k:=k)
 have:=LP (w:=b) (i:=(j:Int)) (wV (by omega)) (by simpa using hb) (endN (aw k)) (wW _)
 rw[if_pos (by omega)] at this
 unfold dQ dy
 omega
theorem Bo {b k:Int}(h:1≤dQ k b):∃j:Nat,bP b (aw k)=(j:Int)∧(j:Int)<aw k∧eL b j=false∧dQ k (setV b (j:Int))=dQ k b-1:=by
 have he:=kU (k:=k)
 rcases Eo b (endN (aw k)) with⟨_,ha⟩|⟨j,hj,e,hb,_⟩
 ·have:=LK ha
  unfold dQ dy at h
  omega
 ·exact⟨j,e,by omega,hb,tt (by omega) hb⟩
theorem Bp {k:Int}(h:aw k≠0):bP 0 (aw k)=0:=by
 have hs:=eN k
 have he:=kU (k:=k)
 exact mU (w:=0) (k:=endN (aw k)) (j:=0) (by omega) (mn 0) (fun i hi=>by omega)
theorem Bq {b k i:Int}(hw:W64 b)(h0:0≤i)(h1:i<aw k)(h:eG b i=true):dQ k (clearV b i)=dQ k b+1:=by
 have hs:=eN k
 have hi:inR i=true:=(eU i).2 ⟨h0,by omega⟩
 obtain⟨j,rfl⟩:∃j:Nat,i=(j:Int):=⟨i.toNat,by omega⟩
 have hb:eL (clearV b (j:Int)) j=false:=by
  have:=vr (w:=b) hi
  unfold eG at this
  rw[hi] at this
  simpa using this
 have e:=tt (b:=clearV b (j:Int)) (k:=k) h1 hb
 rw[En hw.1 hw.2 hi h] at e
 omega
def NoL (pg st i:Int):Prop:=¬dz pg st i∧∀p,ag pg p=true→i≠nA pg st p∧i≠vA pg st p
section
variable {pg st:Int}{n:Nat}(H:cH pg st n)
include H
theorem Df {q:Int}(h:ag pg q=true):NoL pg st (kA pg st q):=by
 have:=ay.1 h
 refine⟨fun z=>?_,fun p hp=>?_⟩
 ·unfold dz bz kA at z;omega
 ·have:=ay.1 hp;unfold kA nA vA;omega
theorem zg {q:Int}(h:ag pg q=true):NoL pg st (cA pg st q):=by
 have:=ay.1 h
 refine⟨fun z=>?_,fun p hp=>?_⟩
 ·unfold dz bz cA at z;omega
 ·have:=ay.1 hp;unfold cA nA vA;omega
theorem zh {q:Int}(h:ag pg q=true):NoL pg st (bA pg st q):=by
 have:=ay.1 h
 refine⟨fun z=>?_,fun p hp=>?_⟩
 ·unfold dz bz bA at z;omega
 ·have:=ay.1 hp;unfold bA nA vA;omega
theorem Hr {j:Int}(h:bS pg j=true):NoL pg st (dW pg st j):=by
 have:=dc.1 h
 have h1:=H.pg1
 rw[lG h]
 refine⟨fun z=>?_,fun p hp=>?_⟩
 ·unfold dz bz at z;omega
 ·have:=ay.1 hp;unfold nA vA;omega
theorem d9.kind {a b:List Int}(o:d9 pg st a b)(p:Int):aZ pg st b p=aZ pg st a p:=by
 cases h:ag pg p with
 |false=>rw[iu h,iu h]
 |true =>
  have h0:=(cu H.toPgIn h).1.1
  rw[jD h,jD h,o.off _ (by omega) (Df H h).1 (Df H h).2]
theorem d9.cnt {a b:List Int}(o:d9 pg st a b){p:Int}(h:ag pg p=true):cG pg st b p=cG pg st a p :=
 o.off _ (jn H h).1.1 (zg H h).1 (zg H h).2
theorem d9.bit {a b:List Int}(o:d9 pg st a b){p:Int}(h:ag pg p=true):c8 pg st b p=c8 pg st a p :=
 o.off _ (jn H h).2.1 (zh H h).1 (zh H h).2
theorem d9.map {a b:List Int}(o:d9 pg st a b)(j:Int):bL pg st b j=bL pg st a j:=by
 unfold bL
 cases h:bS pg j with
 |false=>rfl
 |true =>
  have h0:=(oV H.toTblIn h).1
  rw[o.off _ (by omega) (Hr H h).1 (Hr H h).2]
theorem Ln.same {G:Int→List Int}{a b:List Int}(L:Ln pg st G a)(h:∀i,0≤i→¬NoL pg st i→wAt b i=wAt a i):Ln pg st G b:=by
 have hh:∀i,dz pg st i→wAt b i=wAt a i:=fun i hi=>h i (by have:=(ql H hi).1;omega) (fun z=>z.1 hi)
 have hn:∀p,ag pg p=true→wAt b (nA pg st p)=wAt a (nA pg st p)∧wAt b (vA pg st p)=wAt a (vA pg st p):=fun p hp =>
  ⟨h _ (by have:=(eF H hp).1.1;omega) (fun z=>(z.2 p hp).1 rfl),h _ (by have:=(eF H hp).2.1;omega) (fun z=>(z.2 p hp).2 rfl)⟩
 refine⟨fun i hi=>by rw[hh i hi];exact L.head i hi,L.page,L.nodup,L.apart,fun i p hi hp=>?_,fun i p hi hp=>?_,fun p hp hf=>?_⟩
 ·rw[(hn p (L.page i hi p hp)).1];exact L.next i p hi hp
 ·rw[(hn p (L.page i hi p hp)).2];exact L.prev i p hi hp
 ·rw[(hn p hp).1,(hn p hp).2];exact L.free p hp hf
structure Mod (pg st:Int)(n:Nat)(q f':Int)(T:List Int→List Int):Prop where
 len:∀a,a.length=n→(T a).length=n
 off:∀a b,a.length=n→b.length=n→d9 pg st a b→d9 pg st (T a) (T b)
 no:∀a,a.length=n→∀i,0≤i→¬NoL pg st i→wAt (T a) i=wAt a i
 cnt:∀a,a.length=n→cG pg st (T a) q=f'
def gj (pg st q b f:Int)(ws:List Int):List Int:=(ws.set (bA pg st q).toNat b).set (cA pg st q).toNat f
theorem iT {q:Int}(h:ag pg q=true)(b f:Int){ws:List Int}(hn:ws.length=n){i:Int}(hi:0≤i):wAt (gj pg st q b f ws) i=if i=cA pg st q then f else if i=bA pg st q then b else wAt ws i:=by
 obtain⟨⟨b0,b1,_⟩,c0,c1,_⟩:=jn H h
 unfold gj
 rw[dI b0 hi (by simp[hn];exact b1),dI c0 hi (by rw[hn];exact c1)]
theorem tu {q:Int}(h:ag pg q=true)(b f:Int):Mod pg st n q f (gj pg st q b f):=by
 refine⟨fun a e=>by simp[gj,e],fun a a' e e' o=>⟨by simp[gj,e,e'],fun i h0 h1 h2=>?_⟩,fun a e i h0 h1=>?_,fun a e=>?_⟩
 ·rw[iT H h b f e' h0,iT H h b f e h0,o.off i h0 h1 h2]
 ·have k1:i≠cA pg st q:=fun z=>h1 (by rw[z];exact zg H h)
  have k2:i≠bA pg st q:=fun z=>h1 (by rw[z];exact zh H h)
  rw[iT H h b f e h0,if_neg k1,if_neg k2]
 ·show wAt (gj pg st q b f a) (cA pg st q)=f
  rw[iT H h b f e (jn H h).1.1,if_pos rfl]
theorem Hs {q:Int}(h:ag pg q=true)(k x:Int):Mod pg st n q x (fB pg st q k x):=by
 refine⟨fun a e=>by rw[eZ H.toPgIn];exact e,fun a a' e e' o=>⟨by rw[eZ H.toPgIn,eZ H.toPgIn,e,e'],fun i h0 h1 h2=>?_⟩,fun a e i h0 h1=>?_,fun a e=>?_⟩
 ·rw[ij H.toPgIn h k x e' h0,ij H.toPgIn h k x e h0,o.off i h0 h1 h2]
 ·have k1:i≠cA pg st q:=fun z=>h1 (by rw[z];exact zg H h)
  have k2:i≠bA pg st q:=fun z=>h1 (by rw[z];exact zh H h)
  have k3:i≠kA pg st q:=fun z=>h1 (by rw[z];exact Df H h)
  rw[ij H.toPgIn h k x e h0,if_neg k2,if_neg k1,if_neg k3]
 ·rw[me H.toPgIn h k x e h,if_pos rfl]
def zi (pg st:Int)(G:Int→List Int)(k f:Int)(s t:List Int):Int→List Int:=if aI pg st k f=0 then G else uC G (aI pg st k f) (s++t)
def Hu (pg st:Int)(G:Int→List Int)(q k f:Int):Int→List Int:=if aI pg st k f=0 then G else uC G (aI pg st k f) (q::G (aI pg st k f))
theorem Hv {q k f:Int}(hq:ag pg q=true){G:Int→List Int}{ws:List Int}(L:Ln pg st G ws)(hn:ws.length=n)(hf:∀a,dz pg st a→q∉G a):
 Ln pg st (Hu pg st G q k f) (eH pg st q k f ws).2∧d9 pg st ws (eH pg st q k f ws).2:=by
 unfold Hu
 by_cases hz:aI pg st k f=0
 ·have e:eH pg st q k f ws=(false,ws):=by unfold eH;exact if_neg (fun z=>z.1 hz)
  rw[if_pos hz,e]
  exact⟨L,d9.refl _ _ _⟩
 ·rw[if_neg hz]
  exact J3 H L hn hz hq hf
theorem Hw {q k f:Int}{G:Int→List Int}{s t:List Int}(hin:aI pg st k f≠0→G (aI pg st k f)=s++q::t∧q∉s){ws:List Int}(L:Ln pg st G ws)(hn:ws.length=n):
 Ln pg st (zi pg st G k f s t) (cE pg st q k f ws).2∧d9 pg st ws (cE pg st q k f ws).2:=by
 unfold zi
 by_cases hz:aI pg st k f=0
 ·rw[if_pos hz,vE H L (fun _ z=>absurd hz z)]
  exact⟨L,d9.refl _ _ _⟩
 ·rw[if_neg hz]
  obtain⟨h1,h2⟩:=hin hz
  exact(EK H L hn hz h1 h2).2
theorem NI {q k f f':Int}{T:List Int→List Int}(M:Mod pg st n q f' T)(hq:ag pg q=true){G:Int→List Int}{ws:List Int}(L:Ln pg st G ws)(hn:ws.length=n)
 (hin:∀a,dz pg st a→(q∈G a↔aI pg st k f=a)):
 ∃G1 G2,Ln pg st G1 (cE pg st q k f ws).2∧d9 pg st ws (cE pg st q k f ws).2∧(cE pg st q k f ws).2.length=n∧(∀a,dz pg st a→q∉G1 a) ∧
  Ln pg st G2 (mj pg st q k f (T ws))∧d9 pg st (T ws) (mj pg st q k f (T ws)) ∧
  (eH pg st q k f' (T (cE pg st q k f ws).2)).2=mj pg st q k f (T ws) ∧
  (∀a p,dz pg st a→p≠q→(p∈G2 a↔p∈G a))∧∀a,dz pg st a→(q∈G2 a↔aI pg st k f'=a):=by
 obtain⟨s,t,hst⟩:∃s t,aI pg st k f≠0→G (aI pg st k f)=s++q::t∧q∉s:=by
  by_cases hz:aI pg st k f=0
  ·exact⟨[],[],fun z=>absurd hz z⟩
  ·obtain⟨s,t,h1,h2⟩:=kb ((hin _ (ik hz).1).2 rfl)
   exact⟨s,t,fun _=>⟨h1,h2⟩⟩
 have m1:∀a,dz pg st a→q∉zi pg st G k f s t a:=fun a ha hm=>by
  unfold zi at hm
  by_cases hz:aI pg st k f=0
  ·rw[if_pos hz] at hm
   have:=(hin a ha).1 hm
   rw[hz] at this
   have:=(ql H ha).1
   omega
  ·rw[if_neg hz] at hm
   obtain⟨h1,h2⟩:=hst hz
   by_cases e:a=aI pg st k f
   ·subst e
    rw[du] at hm
    have nd:=L.nodup _ (ik hz).1
    rw[h1] at nd
    rcases List.mem_append.1 hm with z|z
    ·exact h2 z
    ·exact(List.nodup_cons.1 (List.nodup_append.1 nd).2.1).1 z
   ·rw[dD _ _ _ e] at hm
    exact e ((hin a ha).1 hm).symm
 have m2:∀a p,dz pg st a→p≠q→(p∈zi pg st G k f s t a↔p∈G a):=fun a p ha hp=>by
  unfold zi
  by_cases hz:aI pg st k f=0
  ·rw[if_pos hz]
  ·rw[if_neg hz]
   obtain⟨h1,h2⟩:=hst hz
   by_cases e:a=aI pg st k f
   ·subst e
    rw[du,h1]
    simp[hp]
   ·rw[dD _ _ _ e]
 obtain⟨L1,o1⟩:=Hw H hst L hn
 have hB:(T ws).length=n:=M.len _ hn
 have LB:Ln pg st G (T ws):=L.same H (M.no ws hn)
 obtain⟨L2,o2⟩:=Hw H hst LB hB
 have n1:(cE pg st q k f ws).2.length=n:=o1.len.trans hn
 have n2:(cE pg st q k f (T ws)).2.length=n:=o2.len.trans hB
 have ec:cG pg st (cE pg st q k f (T ws)).2 q=f':=by rw[o2.cnt H hq,M.cnt ws hn]
 have em:mj pg st q k f (T ws)=(eH pg st q k f' (cE pg st q k f (T ws)).2).2:=by unfold mj;rw[ec]
 obtain⟨L3,o3⟩:=Hv H (k:=k) (f:=f') hq L2 n2 m1
 have LT:Ln pg st (zi pg st G k f s t) (T (cE pg st q k f ws).2):=L1.same H (M.no _ n1)
 obtain⟨L4,o4⟩:=Hv H (k:=k) (f:=f') hq LT (M.len _ n1) m1
 have oB:=o2.trans o3
 have oY:=(M.off _ _ hn n1 o1).trans o4
 refine⟨_,Hu pg st (zi pg st G k f s t) q k f',L1,o1,n1,m1,by rw[em];exact L3,by rw[em];exact oB,?_,fun a p ha hp=>?_,fun a ha=>?_⟩
 ·rw[em]
  exact Ln.uniq L3 L4 (oB.symm.trans oY)
 ·rw[←m2 a p ha hp]
  unfold Hu
  by_cases hz:aI pg st k f'=0
  ·rw[if_pos hz]
  ·rw[if_neg hz]
   by_cases e:a=aI pg st k f'
   ·subst e;rw[du];simp[hp]
   ·rw[dD _ _ _ e]
 ·unfold Hu
  by_cases hz:aI pg st k f'=0
  ·rw[if_pos hz]
   exact⟨fun z=>absurd z (m1 a ha),fun z=>by have:=(ql H ha).1;omega⟩
  ·rw[if_neg hz]
   by_cases e:a=aI pg st k f'
   ·subst e;rw[du];simp
   ·rw[dD _ _ _ e]
    exact⟨fun z=>absurd z (m1 a ha),fun z=>absurd z.symm e⟩
end
structure PgF (pg st:Int)(G:Int→List Int)(ws:List Int):Prop where
 kd:∀p,ag pg p=true→0≤aZ pg st ws p∧aZ pg st ws p≤5
 free:∀p,ag pg p=true→aZ pg st ws p=0→cG pg st ws p=0∧c8 pg st ws p=0
 map:∀p,ag pg p=true→aZ pg st ws p≠0→bL pg st ws (p / 4)=true
 cnt:∀p,ag pg p=true→1≤aZ pg st ws p→cG pg st ws p=dQ (aZ pg st ws p-1) (c8 pg st ws p)∧cG pg st ws p<aw (aZ pg st ws p-1)
 mem:∀a p,dz pg st a→(p∈G a↔ag pg p=true∧1≤aZ pg st ws p∧aI pg st (aZ pg st ws p-1) (cG pg st ws p)=a)
structure PgW (pg st:Int)(G:Int→List Int)(ws:List Int):Prop where
 ln:Ln pg st G ws
 f:PgF pg st G ws
section
variable {pg st:Int}{n:Nat}(H:cH pg st n)
include H
theorem PgF.off {G:Int→List Int}{a b:List Int}(F:PgF pg st G a)(o:d9 pg st a b):PgF pg st G b:=by
 refine⟨fun p hp=>by rw[o.kind H];exact F.kd p hp,fun p hp=>by rw[o.kind H,o.cnt H hp,o.bit H hp];exact F.free p hp,fun p hp=>by rw[o.kind H,o.map H];exact F.map p hp,fun p hp=>by rw[o.kind H,o.cnt H hp,o.bit H hp];exact F.cnt p hp,fun x p hx=>?_⟩
 rw[F.mem x p hx]
 constructor
 ·rintro⟨h1,h2,h3⟩
  exact⟨h1,by rw[o.kind H];exact h2,by rw[o.kind H,o.cnt H h1];exact h3⟩
 ·rintro⟨h1,h2,h3⟩
  rw[o.kind H] at h2
  rw[o.kind H,o.cnt H h1] at h3
  exact⟨h1,h2,h3⟩
theorem PgF.turn {G G2:Int→List Int}{a b:List Int}(F:PgF pg st G a){q:Int}(hq:ag pg q=true){k f c:Int}
 (hk:∀p,ag pg p=true→aZ pg st b p=if p=q then k else aZ pg st a p) (hc:∀p,ag pg p=true→cG pg st b p=if p=q then f else cG pg st a p) (hb:∀p,ag pg p=true→c8 pg st b p=if p=q then c else c8 pg st a p)
 (hm:∀p,ag pg p=true→p≠q→bL pg st a (p / 4)=true→bL pg st b (p / 4)=true) (hmq:k≠0→bL pg st b (q / 4)=true)
 (k0:0≤k∧k≤5) (kf:k=0→f=0∧c=0) (kc:1≤k→f=dQ (k-1) c∧f<aw (k-1))
 (g1:∀x p,dz pg st x→p≠q→(p∈G2 x↔p∈G x)) (g2:∀x,dz pg st x→(q∈G2 x↔1≤k∧aI pg st (k-1) f=x)):PgF pg st G2 b:=by
 refine⟨fun p hp=>?_,fun p hp=>?_,fun p hp=>?_,fun p hp=>?_,fun x p hx=>?_⟩
 ·rw[hk p hp];split
  ·exact k0
  ·exact F.kd p hp
 ·rw[hk p hp,hc p hp,hb p hp];split
  ·exact kf
  ·exact F.free p hp
 ·rw[hk p hp];split
  ·rename_i e;rw[e];exact hmq
  ·rename_i e;exact fun z=>hm p hp e (F.map p hp z)
 ·rw[hk p hp,hc p hp,hb p hp];split
  ·exact kc
  ·exact F.cnt p hp
 ·by_cases e:p=q
  ·subst e
   rw[g2 x hx,hk p hq,hc p hq,if_pos rfl,if_pos rfl]
   exact⟨fun z=>⟨hq,z⟩,fun z=>z.2⟩
  ·rw[g1 x p hx e,F.mem x p hx]
   constructor
   ·rintro⟨h1,h2⟩
    rw[hk p h1,hc p h1,if_neg e,if_neg e];exact⟨h1,h2⟩
   ·rintro⟨h1,h2⟩
    rw[hk p h1,hc p h1,if_neg e,if_neg e] at h2;exact⟨h1,h2⟩
theorem iW {q:Int}(h:ag pg q=true)(b f:Int){ws:List Int}(hn:ws.length=n)(p:Int):aZ pg st (gj pg st q b f ws) p=aZ pg st ws p:=by
 cases hp:ag pg p with
 |false=>rw[iu hp,iu hp]
 |true =>
  have h0:=(cu H.toPgIn hp).1.1
  have:=ay.1 h;have:=ay.1 hp
  rw[jD hp,jD hp,iT H h b f hn (by omega),if_neg (by unfold kA cA;omega),if_neg (by unfold kA bA;omega)]
theorem kg {q:Int}(h:ag pg q=true)(b f:Int){ws:List Int}(hn:ws.length=n){p:Int}(hp:ag pg p=true):cG pg st (gj pg st q b f ws) p=if p=q then f else cG pg st ws p:=by
 have:=ay.1 h;have:=ay.1 hp
 unfold cG
 rw[iT H h b f hn (jn H hp).1.1]
 by_cases e:p=q
 ·rw[if_pos e,if_pos (by rw[e])]
 ·rw[if_neg e,if_neg (by unfold cA;omega),if_neg (by unfold cA bA;omega)]
theorem kh {q:Int}(h:ag pg q=true)(b f:Int){ws:List Int}(hn:ws.length=n){p:Int}(hp:ag pg p=true):c8 pg st (gj pg st q b f ws) p=if p=q then b else c8 pg st ws p:=by
 have:=ay.1 h;have:=ay.1 hp
 unfold c8
 rw[iT H h b f hn (jn H hp).2.1,if_neg (by unfold cA bA;omega)]
 by_cases e:p=q
 ·rw[if_pos e,if_pos (by rw[e])]
 ·rw[if_neg e,if_neg (by unfold bA;omega)]
theorem ki {q:Int}(h:ag pg q=true)(b f:Int){ws:List Int}(hn:ws.length=n)(j:Int):bL pg st (gj pg st q b f ws) j=bL pg st ws j:=by
 unfold bL
 cases hj:bS pg j with
 |false=>rfl
 |true =>
  have h0:=(oV H.toTblIn hj).1
  obtain⟨t0,t1,t2⟩:=ma H.toPgIn hj h
  rw[iT H h b f hn (by omega),if_neg t1,if_neg t2]
theorem Mk {G:Int→List Int}{ws:List Int}(L:Ln pg st G ws){k f:Int}(h0:aI pg st k f≠0):ci pg (aI pg st k f) ws=fL (G (aI pg st k f)):=by
 have ha:=(ik h0).1
 have:=(ql H ha).1
 exact rH H (by omega) (L.head _ ha) (L.page _ ha)
theorem Hx {G:Int→List Int}{ws:List Int}(L:Ln pg st G ws){k:Int}(hk:0≤k∧k≤4)(m:Nat):∀f:Int,1≤f→f+m=aw k+1 →
 (dh pg st k m f ws= -1∧∀x,f≤x→x≤aw k→G (aI pg st k x)= []) ∨
 ∃x t,f≤x∧x≤aw k∧aI pg st k x≠0∧G (aI pg st k x)=dh pg st k m f ws::t∧∀y,f≤y→y<x→G (aI pg st k y)= []:=by
 have hs:=Ep hk
 have hh:∀x,1≤x→x≤aw k→aI pg st k x≠0:=fun x h1 h2=>by
  have h3:=H.st1;have h4:=H.pg1
  unfold aI;rw[if_pos ⟨hk.1,hk.2,h1,by omega⟩]
  unfold bz bd aO fm
  (repeat' split)<;>omega
 induction m with
 |zero=>intro f h1 h2;exact .inl ⟨rfl,fun x h3 h4=>by omega⟩
 |succ m ih =>
  intro f h1 h2
  have hz:=hh f h1 (by omega)
  have hl:=Mk H L hz
  show(((if ci pg (aI pg st k f) ws= -1 then dh pg st k m (f+1) ws else ci pg (aI pg st k f) ws)= -1)∧_)∨∃x t,f≤x∧x≤aw k∧aI pg st k x≠0∧G (aI pg st k x)=(if ci pg (aI pg st k f) ws= -1 then dh pg st k m (f+1) ws else ci pg (aI pg st k f) ws)::t∧_
  rw[hl]
  cases hG:G (aI pg st k f) with
  |nil =>
   rw[show fL ([]:List Int)= -1 from rfl,if_pos rfl]
   rcases ih (f+1) (by omega) (by omega) with⟨h3,h4⟩|⟨x,t,h3,h4,h5,h6,h7⟩
   ·refine .inl ⟨h3,fun x h5 h6=>?_⟩
    by_cases e:x=f
    ·rw[e];exact hG
    ·exact h4 x (by omega) h6
   ·refine .inr ⟨x,t,by omega,h4,h5,h6,fun y h8 h9=>?_⟩
    by_cases e:y=f
    ·rw[e];exact hG
    ·exact h7 y (by omega) h9
  |cons p t =>
   have hp:=ay.1 (L.page _ (ik hz).1 p (by rw[hG];simp))
   rw[show fL (p::t)=p from rfl,if_neg (by omega)]
   exact .inr ⟨f,t,Int.le_refl _,by omega,hz,hG,fun y h8 h9=>by omega⟩
theorem Hy (ws:List Int):(jl pg st 1 1 ws= -1∧∀p,ag pg p=true→aZ pg st ws p≠0)∨(ag pg (jl pg st 1 1 ws)=true∧aZ pg st ws (jl pg st 1 1 ws)=0):=by
 have h1:=H.pg1
 have key:∀f:Int→Bool,(lZ f pg 1 1= -1∧∀p,ag pg p=true→f p=false)∨(ag pg (lZ f pg 1 1)=true∧f (lZ f pg 1 1)=true):=fun f=>by
  rcases Bg (f:=f) (pg:=pg) (m:=1) (step:=1) (by omega) (by omega) (pg.toNat+1) 0 0 rfl (by omega) (by omega) with⟨e,hn⟩|⟨k,e,h0,hh,_⟩
  ·refine .inl ⟨e,fun p hp=>?_⟩
   have hp:=ay.1 hp
   cases hf:f p with
   |false=>rfl
   |true =>
    refine absurd ?_ (hn p (by omega))
    rw[Int.mul_one]
    exact⟨by omega,fun i i0 i1=>by rw[show i=p by omega];exact hf⟩
  ·rw[Int.mul_one] at e hh h0
   have e:lZ f pg 1 1=k:=e
   rw[e]
   exact .inr ⟨ay.2 ⟨h0,by have:=hh.1;omega⟩,hh.2 k (by omega) (by omega)⟩
 unfold jl
 rw[if_pos ⟨by omega,by omega⟩]
 rcases key (sX pg st ws) with⟨e,hn⟩|⟨e,hf⟩
 ·rw[if_pos e]
  rcases key (vy pg st ws) with⟨e2,hn2⟩|⟨e2,hf2⟩
  ·refine .inl ⟨e2,fun p hp=>?_⟩
   have:=hn2 p hp
   simpa [vy] using this
  ·refine .inr ⟨e2,?_⟩
   simpa [vy] using hf2
 ·have:=ay.1 e
  rw[if_neg (by omega)]
  refine .inr ⟨e,?_⟩
  simp[sX] at hf
  exact hf.2
theorem Hz {y k:Int}(hk:0≤k∧k≤4){ws:List Int}(hn:ws.length=n)(hy:ag pg y=true)(h0:aZ pg st ws y=0):(iq pg st y 1 (k+1) ws).1=true∧Hj pg st y 1 (k+1) ws (iq pg st y 1 (k+1) ws).2:=by
 have hp:=ay.1 hy
 have ht:cm pg y 1=true:=dZ.2 ⟨hp.1,by omega,by omega⟩
 have hv:sW pg st y 1 ws=true:=te.2 ⟨ht,fun i i0 i1=>by rw[show i=y by omega];exact h0⟩
 have hf:oa (k+1) 1=true:=JG.2 (.inr ⟨by omega,by omega,rfl⟩)
 have T:=EF H.toPgIn (p:=y) (m:=1) (k:=k+1) hn ht
 unfold iq
 rw[hf,hv]
 exact⟨rfl,T⟩
theorem J6 {y m k:Int}{a b:List Int}(T:Hj pg st y m k a b):∀i,0≤i→¬NoL pg st i→wAt b i=wAt a i:=fun i h0 h1 =>
 T.off i h0 (fun p hp=>⟨fun z=>h1 (by rw[z];exact Df H hp),fun z=>h1 (by rw[z];exact zg H hp),fun z=>h1 (by rw[z];exact zh H hp)⟩) (fun j hj z=>h1 (by rw[z];exact Hr H hj))
theorem pq {α:Type}{p:Prg α}{g:List Int→α×List Int}(hF:bR n p g){ws:List Int}(hn:ws.length=n)(ho:OkW ws):OkW (g ws).2∧(g ws).2.length=n:=by
 obtain⟨D,_,a,i⟩:=hF ws [] hn ho (d7 _)
 have a:cj ws D=(g ws).2:=a
 rw[←a]
 exact⟨De ho i hn,by rw[d6];exact hn⟩
end
section
variable {pg st:Int}{n:Nat}(H:cH pg st n)
include H
theorem tv (us:Int){k:Int}(h:aw k=0)(ws:List Int):dd us pg st k ws=((0,false),ws):=by
 unfold dd gD
 rw[if_pos h]
 unfold oo
 rw[if_pos rfl]
theorem EQ {m k:Int}(ws:List Int):iq pg st (-1) m k ws=(false,ws):=by
 have:sW pg st (-1) m ws=false:=by
  cases e:sW pg st (-1) m ws with
  |false=>rfl
  |true=>have:=dZ.1 (te.1 e).1;omega
 unfold iq
 rw[this]
 simp
theorem tw (us:Int){k:Int}(hs:aw k≠0){ws:List Int}(h1:dh pg st k (aw k).toNat 1 ws= -1)(h2:jl pg st 1 1 ws= -1):dd us pg st k ws=((0,false),ws):=by
 have e:gD pg st k ws=(-1,ws):=by
  unfold gD kS
  rw[if_neg hs,h1,if_pos rfl,h2,EQ H]
  rfl
 unfold dd
 rw[e]
 unfold oo
 rw[if_pos rfl]
theorem ER {k:Int}(hs:aw k≠0){ws:List Int}{q:Int}(h1:dh pg st k (aw k).toNat 1 ws=q)(hq:q≠ -1):gD pg st k ws=(q,ws):=by
 unfold gD kS
 rw[if_neg hs,h1,if_neg hq]
theorem ES {k:Int}(hs:aw k≠0){ws:List Int}{y:Int}(h1:dh pg st k (aw k).toNat 1 ws= -1)(h2:jl pg st 1 1 ws=y)(h3:(iq pg st y 1 (k+1) ws).1=true):gD pg st k ws=(y,(iq pg st y 1 (k+1) ws).2):=by
 unfold gD kS
 rw[if_neg hs,h1,if_pos rfl,h2,h3]
 rfl
theorem tz {q k b f:Int}(ho:dQ k b=f)(hf:f≠aw k)(ws:List Int):qm pg st q k b ws=gj pg st q b f ws:=by
 unfold qm gj
 rw[if_neg (by rw[ho];exact hf),ho]
structure pt (pg st:Int)(n:Nat)(q k f f':Int)(T:List Int→List Int)(ws:List Int)(G G1 G2:Int→List Int)(u X:List Int):Prop where
 eu:(cE pg st q k f ws).2=u
 l1:Ln pg st G1 u
 nu:u.length=n
 o1:d9 pg st ws u
 m1:∀a,dz pg st a→q∉G1 a
 lt:Ln pg st G1 (T u)
 nt:(T u).length=n
 eX:(eH pg st q k f' (T u)).2=X
 eM:mj pg st q k f (T ws)=X
 l2:Ln pg st G2 X
 o2:d9 pg st (T ws) X
 m2:∀a p,dz pg st a→p≠q→(p∈G2 a↔p∈G a)
 m3:∀a,dz pg st a→(q∈G2 a↔aI pg st k f'=a)
theorem xm {q k f f':Int}{T:List Int→List Int}(M:Mod pg st n q f' T)(hq:ag pg q=true){G:Int→List Int}{ws:List Int}(L:Ln pg st G ws)(hn:ws.length=n)
 (hin:∀a,dz pg st a→(q∈G a↔aI pg st k f=a)):∃G1 G2 u X,pt pg st n q k f f' T ws G G1 G2 u X:=by
 obtain⟨G1,G2,h1,h2,h3,h4,h5,h6,h7,h8,h9⟩:=NI H M hq L hn hin
 exact⟨G1,G2,_,_,⟨rfl,h1,h3,h2,h4,h1.same H (M.no _ h3),M.len _ h3,h7,rfl,h5,h6,h8,h9⟩⟩
theorem zj (us:Int){k:Int}(hs:aw k≠0){G:Int→List Int}{ws:List Int}(P:PgW pg st G ws)(hn:ws.length=n){q:Int}(h1:dh pg st k (aw k).toNat 1 ws=q)(hq:q≠ -1):
 ∃(j:Nat) (G1 G2:Int→List Int) (u X:List Int),ag pg q=true∧aZ pg st ws q=k+1∧1≤cG pg st ws q∧(∀y,1≤y→y<cG pg st ws q→G (aI pg st k y)= []) ∧
  bP (c8 pg st ws q) (aw k)=(j:Int)∧(j:Int)<aw k∧eL (c8 pg st ws q) j=false ∧
  pt pg st n q k (cG pg st ws q) (cG pg st ws q-1) (gj pg st q (setV (c8 pg st ws q) j) (cG pg st ws q-1)) ws G G1 G2 u X ∧
  dd us pg st k ws=((us+32 * q+j * szV k,true),X)∧PgW pg st G2 X:=by
 have hk:=fd hs
 obtain⟨L,F⟩:=P
 rcases Hx H L hk (aw k).toNat 1 (by omega) (by have:=eN k;omega) with⟨e,_⟩|⟨x,t,x1,x2,hz,hG,hno⟩
 ·exact absurd (h1.symm.trans e) hq
 rw[h1] at hG
 have ha:=(ik hz).1
 have hm:=(F.mem _ q ha).1 (by rw[hG];simp)
 obtain⟨hqp,hk1,hh⟩:=hm
 have hkb:=F.kd q hqp
 have hc:=F.cnt q hqp hk1
 have inj:=Hm hz hh.symm
 have ek:aZ pg st ws q=k+1:=by omega
 have ef:cG pg st ws q=x:=inj.2.symm
 rw[ek] at hc
 have hop:dQ k (c8 pg st ws q)=cG pg st ws q:=by rw[hc.1];congr 1;omega
 obtain⟨j,hj1,hj2,hj3,hj4⟩:=Bo (b:=c8 pg st ws q) (k:=k) (by omega)
 have hlt:cG pg st ws q<aw k:=by have:=hc.2;rwa [show k+1-1=k by omega] at this
 obtain⟨G1,G2,u,X,M⟩:=xm H (tu H hqp (setV (c8 pg st ws q) j) (cG pg st ws q-1)) hqp L hn (k:=k) (f:=cG pg st ws q) (fun a h=>by
  rw[F.mem a q h,ek,show k+1-1=k by omega]
  exact⟨fun z=>z.2.2,fun z=>⟨hqp,by omega,z⟩⟩)
 refine⟨j,G1,G2,u,X,hqp,ek,by omega,fun y y1 y2=>hno y y1 (by omega),hj1,hj2,hj3,M,?_,M.l2,?_⟩
 ·unfold dd
  rw[ER H hs h1 hq]
  unfold oo
  rw[if_neg hq,if_neg (by rw[hj1];omega),hj1]
  unfold gE
  rw[tz H (f:=cG pg st ws q-1) (by rw[hj4,hop]) (by omega),M.eM]
 ·refine PgF.off H (a:=gj pg st q (setV (c8 pg st ws q) j) (cG pg st ws q-1) ws) ?_ M.o2
  refine F.turn H hqp (k:=k+1) (f:=cG pg st ws q-1) (c:=setV (c8 pg st ws q) j) (fun p hp=>?_) (fun p hp=>kg H hqp _ _ hn hp) (fun p hp=>kh H hqp _ _ hn hp) (fun p _ _ h=>by rw[ki H hqp _ _ hn];exact h) (fun _=>by rw[ki H hqp _ _ hn];exact F.map q hqp (by omega)) (by omega) (by omega) (fun _=>?_) M.m2 (fun a h=>?_)
  ·rw[iW H hqp _ _ hn];split
   ·rename_i e;rw[e];exact ek
   ·rfl
  ·rw[show k+1-1=k by omega,hj4,hop];omega
  ·rw[M.m3 a h,show k+1-1=k by omega]
   exact⟨fun z=>⟨by omega,z⟩,fun z=>z.2⟩
theorem zk (us:Int){k:Int}(hs:aw k≠0){G:Int→List Int}{ws:List Int}(P:PgW pg st G ws)(hn:ws.length=n){y:Int}(h1:dh pg st k (aw k).toNat 1 ws= -1)(h2:jl pg st 1 1 ws=y)(hy:y≠ -1):
 ∃(G1 G2:Int→List Int) (w1 X:List Int),ag pg y=true∧aZ pg st ws y=0∧iq pg st y 1 (k+1) ws=(true,w1)∧Hj pg st y 1 (k+1) ws w1∧w1.length=n∧Ln pg st G w1 ∧
  pt pg st n y k 0 (aw k-1) (gj pg st y (setV 0 0) (aw k-1)) w1 G G1 G2 w1 X ∧
  dd us pg st k ws=((us+32 * y,true),X)∧PgW pg st G2 X:=by
 have hk:=fd hs
 have hsl:=eN k
 obtain⟨L,F⟩:=P
 have hfy:=(Hy H ws).resolve_left (fun z=>hy (h2.symm.trans z.1))
 rw[h2] at hfy
 obtain⟨hyp,hk0⟩:=hfy
 obtain⟨t1,T⟩:=Hz H hk hn hyp hk0
 obtain⟨w1,ew⟩:∃w1,(iq pg st y 1 (k+1) ws).2=w1:=⟨_,rfl⟩
 rw[ew] at T
 have n1:w1.length=n:=T.len.trans hn
 have L1:Ln pg st G w1:=L.same H (J6 H T)
 have hno:∀a,dz pg st a→y∉G a:=fun a h z=>by have:=((F.mem a y h).1 z).2.1;omega
 have hb1:c8 pg st w1 y=0:=by rw[T.bit y hyp,if_pos (by omega)]
 have hc1:cG pg st w1 y=0:=by rw[T.cnt y hyp,if_pos rfl,if_neg (by omega)]
 have hz0:aI pg st k 0=0:=by unfold aI;rw[if_neg (by omega)]
 have hos:dQ k (setV 0 0)=aw k-1:=by
  have:=tt (b:=0) (k:=k) (j:=0) (by omega) (mn 0)
  rw[EP] at this
  exact this
 obtain⟨G1,G2,u,X,M⟩:=xm H (tu H hyp (setV 0 0) (aw k-1)) hyp L1 n1 (k:=k) (f:=0) (fun a h=>⟨fun z=>absurd z (hno a h),fun z=>by have:=(ql H h).1;omega⟩)
 have eu:u=w1:=by rw[←M.eu,vE H L1 (fun _ z=>absurd hz0 z)]
 subst eu
 refine⟨G1,G2,u,X,hyp,hk0,Prod.ext t1 ew,T,n1,L1,M,?_,M.l2,?_⟩
 ·unfold dd
  rw[ES H hs h1 h2 t1,ew]
  unfold oo
  rw[if_neg hy]
  show(if bP (c8 pg st u y) (aw k)= -1 then _ else _)=_
  rw[hb1,Bp hs,if_neg (by omega),hc1]
  unfold gE
  rw[tz H (f:=aw k-1) hos (by omega),M.eM]
  simp
 ·refine PgF.off H (a:=gj pg st y (setV 0 0) (aw k-1) u) ?_ M.o2
  refine F.turn H hyp (k:=k+1) (f:=aw k-1) (c:=setV 0 0) (fun p hp=>?_) (fun p hp=>?_) (fun p hp=>?_) (fun p hp hne h=>?_) (fun _=>?_) (by omega) (by omega) (fun _=>?_) M.m2 (fun a h=>?_)
  ·rw[iW H hyp _ _ n1,T.kind]
   by_cases e:p=y
   ·rw[if_pos e,if_pos e]
   ·rw[if_neg e,if_neg e,if_neg (by omega)]
  ·rw[kg H hyp _ _ n1 hp,T.cnt p hp]
   by_cases e:p=y
   ·rw[if_pos e,if_pos e]
   ·rw[if_neg e,if_neg e,if_neg e,if_neg (by omega)]
  ·rw[kh H hyp _ _ n1 hp,T.bit p hp]
   by_cases e:p=y
   ·rw[if_pos e,if_pos e]
   ·rw[if_neg e,if_neg e,if_neg (by omega)]
  ·rw[ki H hyp _ _ n1,T.map _ (yX hp),h];rfl
  ·rw[ki H hyp _ _ n1,T.map _ (yX hyp)]
   simp
  ·rw[show k+1-1=k by omega,hos]
   exact⟨rfl,by omega⟩
  ·rw[M.m3 a h,show k+1-1=k by omega]
   exact⟨fun z=>⟨by omega,z⟩,fun z=>z.2⟩
theorem tD {us a:Int}{G:Int→List Int}{ws:List Int}(F:PgF pg st G ws){q k i:Int}{t:Bool}(h:fN us pg st a ws=some (q,k,i,t)):
 ag pg q=true∧aZ pg st ws q=k+1∧0≤k∧k≤4∧0≤i∧i<aw k∧t=eG (c8 pg st ws q) i∧a=us+32 * q+i * szV k:=by
 unfold fN at h
 split at h
 ·rename_i hin
  obtain⟨hq,hw⟩:=mW hin
  have hkd:=F.kd _ hq
  have hwr:IntKind.i64.wrap (aZ pg st ws ((a-us) / 32)-1)=aZ pg st ws ((a-us) / 32)-1:=aB (by omega) (by omega)
  unfold kT at h
  rw[hwr] at h
  split at h
  ·cases h
  ·rename_i hz
   split at h
   ·cases h
   ·rename_i hm
    have hk:=fd hz
    obtain⟨z,hzk⟩:∃z:Nat,aZ pg st ws ((a-us) / 32)-1=(z:Int):=⟨_,(Int.toNat_of_nonneg hk.1).symm⟩
    simp only[Option.some.injEq,Prod.mk.injEq] at h
    obtain⟨rfl,rfl,rfl,rfl⟩:=h
    rw[hzk] at hk hm⊢
    have hsb:=JQ (k:=z) (by omega)
    have hm:(a-us) % 32 % szV (z:Int)=0:=by simpa using hm
    have hsz:=qP (k:=z) (by omega)
    have hd:=Int.emod_add_mul_ediv ((a-us) % 32) (szV (z:Int))
    rw[hm] at hd
    refine⟨hq,by omega,hk.1,hk.2,Int.ediv_nonneg hw.1 (by omega),?_,rfl,?_⟩
    ·have hz4:z=0∨z=1∨z=2∨z=3∨z=4:=by omega
     generalize (a-us) % 32=wd at hw hm⊢
     rcases hz4 with rfl|rfl|rfl|rfl|rfl
     ·show wd / 1<32;omega
     ·show wd / 2<16;omega
     ·show wd / 4<8;omega
     ·show wd / 8<4;omega
     ·show wd / 16<2;omega
    ·rw[Int.mul_comm ((a-us) % 32 / szV (z:Int)) (szV (z:Int))]
     omega
 ·cases h
theorem zm (us:Int){a:Int}{G:Int→List Int}{ws:List Int}(P:PgW pg st G ws)(hn:ws.length=n)(ho:OkW ws){q k i:Int}(h:gi (fN us pg st a ws)=some (q,k,i)):
 ag pg q=true∧aZ pg st ws q=k+1∧0≤k∧k≤4∧0≤i∧i<aw k∧eG (c8 pg st ws q) i=true∧a=us+32 * q+i * szV k∧0≤cG pg st ws q∧cG pg st ws q<aw k ∧
 (cG pg st ws q+1≠aw k→∃G1 G2 u X,pt pg st n q k (cG pg st ws q) (cG pg st ws q+1) (gj pg st q (clearV (c8 pg st ws q) i) (cG pg st ws q+1)) ws G G1 G2 u X∧gQ us pg st a ws=(true,X)∧PgW pg st G2 X) ∧
 (cG pg st ws q+1=aw k→∃G1 G2 u X,pt pg st n q k (cG pg st ws q) 0 (fB pg st q 0 0) ws G G1 G2 u X∧gQ us pg st a ws=(true,X)∧PgW pg st G2 X):=by
 obtain⟨L,F⟩:=P
 obtain⟨hq,ek,k0,k4,i0,i1,ht,ha⟩:=tD H F (gX h)
 have hc:=F.cnt q hq (by omega)
 rw[ek,show k+1-1=k by omega] at hc
 have hcb:=cnt_b (c8 pg st ws q) k
 have hcl:=Bq (b:=c8 pg st ws q) (k:=k) (xi ho _) i0 i1 ht.symm
 have hin:∀a,dz pg st a→(q∈G a↔aI pg st k (cG pg st ws q)=a):=fun a h=>by
  rw[F.mem a q h,ek,show k+1-1=k by omega]
  exact⟨fun z=>z.2.2,fun z=>⟨hq,by omega,z⟩⟩
 refine⟨hq,ek,k0,k4,i0,i1,ht.symm,ha,by omega,hc.2,fun hne=>?_,fun he=>?_⟩
 ·obtain⟨G1,G2,u,X,M⟩:=xm H (tu H hq (clearV (c8 pg st ws q) i) (cG pg st ws q+1)) hq L hn (k:=k) (f:=cG pg st ws q) hin
  refine⟨G1,G2,u,X,M,?_,M.l2,?_⟩
  ·unfold gQ
   rw[h]
   show(true,gE _ _ _ _ _ _ _)=_
   unfold gE
   rw[tz H (f:=cG pg st ws q+1) (by rw[hcl,hc.1]) hne,M.eM]
  ·refine PgF.off H (a:=gj pg st q (clearV (c8 pg st ws q) i) (cG pg st ws q+1) ws) ?_ M.o2
   refine F.turn H hq (k:=k+1) (f:=cG pg st ws q+1) (c:=clearV (c8 pg st ws q) i) (fun p hp=>?_) (fun p hp=>kg H hq _ _ hn hp) (fun p hp=>kh H hq _ _ hn hp) (fun p _ _ h=>by rw[ki H hq _ _ hn];exact h) (fun _=>by rw[ki H hq _ _ hn];exact F.map q hq (by omega)) (by omega) (by omega) (fun _=>?_) M.m2 (fun a h=>?_)
   ·rw[iW H hq _ _ hn];split
    ·rename_i e;rw[e];exact ek
    ·rfl
   ·rw[show k+1-1=k by omega,hcl,hc.1]
    exact⟨rfl,by omega⟩
   ·rw[M.m3 a h,show k+1-1=k by omega]
    exact⟨fun z=>⟨by omega,z⟩,fun z=>z.2⟩
 ·obtain⟨G1,G2,u,X,M⟩:=xm H (Hs H hq 0 0) hq L hn (k:=k) (f:=cG pg st ws q) hin
  have hd:(Db pg st q ws).2=fB pg st q 0 0 ws:=by
   have hl:rt pg st q ws=1:=by unfold rt;rw[ek,if_pos (JF.2 ⟨by omega,by omega⟩)]
   unfold Db
   rw[hl]
   rfl
  refine⟨G1,G2,u,X,M,?_,M.l2,?_⟩
  ·unfold gQ
   rw[h]
   show(true,gE _ _ _ _ _ _ _)=_
   unfold gE qm
   rw[if_pos (by rw[hcl,←hc.1];exact he),hd,M.eM]
  ·refine PgF.off H (a:=fB pg st q 0 0 ws) ?_ M.o2
   have hz0:aI pg st k 0=0:=by unfold aI;rw[if_neg (by omega)]
   refine F.turn H hq (k:=0) (f:=0) (c:=0) (fun p hp=>mY H.toPgIn hq 0 0 hn p) (fun p hp=>me H.toPgIn hq 0 0 hn hp) (fun p hp=>pp H.toPgIn hq 0 0 hn hp) (fun p _ _ h=>by rw[ta H.toPgIn hq 0 0 hn];exact h) (fun z=>absurd rfl z) (by omega) (fun _=>⟨rfl,rfl⟩) (fun z=>by omega) M.m2 (fun a h=>?_)
   rw[M.m3 a h,hz0]
   have:=(ql H h).1
   exact⟨fun z=>by omega,fun z=>by omega⟩
theorem J7 {us a:Int}{ws:List Int}(h:gi (fN us pg st a ws)=none):gQ us pg st a ws=(false,ws):=by
 unfold gQ
 rw[h]
 rfl
end
end Go.Proofs.YtddmeghbmdfgeaaGreatDoor
