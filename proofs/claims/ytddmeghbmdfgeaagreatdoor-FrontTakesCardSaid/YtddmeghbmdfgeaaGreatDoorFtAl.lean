/-
  Layer 11: a block that is grabbed, and returned, leaves the pages as they were.
-/
import Derived.Test.YtddmeghbmdfgeaaGreatDoorFtAk
import Derived.Test.YtddmeghbmdfgeaaGreatDoorFtAe
import Derived.Test.YtddmeghbmdfgeaaGreatDoorFtAa
import Derived.Deep.AppendSrc
import Derived.Laws.AppendOwnNone
import Derived.Test.YtddmeghbmdfgeaaGreatDoorFtAf
set_option maxRecDepth 100000
set_option maxHeartbeats 8000000
set_option linter.all false
namespace Go.Proofs.YtddmeghbmdfgeaaGreatDoor
open Go.RowKit Go.Sort Go.Maps Go.Shelf
theorem Iq {us pg st:Int}{ws:List Int}{q k:Int}{j:Nat}(hq:af pg q=true)(hk:0≤k∧k≤4)(hj:(j:Int)<ax k)(ek:aV pg st ws q=k+1):
 ge us pg st (us+32 * q+j * szV k) ws=some (q,k,(j:Int),eP (dd pg st ws q) j):=by
 have hp:=ay.1 hq
 obtain⟨z,rfl⟩:∃z:Nat,k=(z:Int):=⟨k.toNat,by omega⟩
 have hz4:z=0∨z=1∨z=2∨z=3∨z=4:=by omega
 have key:ax (z:Int)≠0∧0<szV (z:Int)∧0≤(j:Int) * szV (z:Int)∧(j:Int) * szV (z:Int)<32:=by
  rcases hz4 with rfl|rfl|rfl|rfl|rfl
  ·have hj:(j:Int)<32:=hj
   refine⟨by decide,by decide,?_,?_⟩<;>(show _;simp only[show szV ((0:Nat):Int)=1 from rfl];omega)
  ·have hj:(j:Int)<16:=hj
   refine⟨by decide,by decide,?_,?_⟩<;>(show _;simp only[show szV ((1:Nat):Int)=2 from rfl];omega)
  ·have hj:(j:Int)<8:=hj
   refine⟨by decide,by decide,?_,?_⟩<;>(show _;simp only[show szV ((2:Nat):Int)=4 from rfl];omega)
  ·have hj:(j:Int)<4:=hj
   refine⟨by decide,by decide,?_,?_⟩<;>(show _;simp only[show szV ((3:Nat):Int)=8 from rfl];omega)
  ·have hj:(j:Int)<2:=hj
   refine⟨by decide,by decide,?_,?_⟩<;>(show _;simp only[show szV ((4:Nat):Int)=16 from rfl];omega)
 obtain⟨k1,k2,k3,k4⟩:=key
 have hd:(j:Int) * szV (z:Int) / szV (z:Int)=(j:Int):=Int.mul_ediv_cancel _ (by omega)
 have hm:(j:Int) * szV (z:Int) % szV (z:Int)=0:=Int.mul_emod_left _ _
 obtain⟨x,hx⟩:∃x,(j:Int) * szV (z:Int)=x:=⟨_,rfl⟩
 rw[hx] at k3 k4 hd hm⊢
 have e1:(us+32 * q+x-us) / 32=q:=by omega
 have e2:(us+32 * q+x-us) % 32=x:=by omega
 unfold ge
 rw[if_pos (by omega),e1,e2,ek]
 unfold lE
 rw[show IntKind.i64.wrap ((z:Int)+1-1)=(z:Int) by rw[show(z:Int)+1-1=(z:Int) by omega];exact aB (by omega) (by omega),if_neg k1,if_neg (by rw[hm];simp),hd]
theorem pQ (us:Int){pg q k:Int}{j:Nat}(hq:af pg q=true)(k0:0≤k)(k4:k≤4)(hj:(j:Int)<ax k):(us+32 * q+j * szV k-us) / 32=q:=by
 obtain⟨z,rfl⟩:∃z:Nat,k=(z:Int):=⟨k.toNat,by omega⟩
 have hz4:z=0∨z=1∨z=2∨z=3∨z=4:=by omega
 rcases hz4 with rfl|rfl|rfl|rfl|rfl
 ·have hj:(j:Int)<32:=hj
  rw[show szV ((0:Nat):Int)=1 from rfl];omega
 ·have hj:(j:Int)<16:=hj
  rw[show szV ((1:Nat):Int)=2 from rfl];omega
 ·have hj:(j:Int)<8:=hj
  rw[show szV ((2:Nat):Int)=4 from rfl];omega
 ·have hj:(j:Int)<4:=hj
  rw[show szV ((3:Nat):Int)=8 from rfl];omega
 ·have hj:(j:Int)<2:=hj
  rw[show szV ((4:Nat):Int)=16 from rfl];omega
section
variable {pg st:Int}{n:Nat}(H:cF pg st n)
include H
theorem Ir (us k:Int){G:Int→List Int}{ws:List Int}(P:PgW pg st G ws)(hn:ws.length=n):
 (c7 us pg st k ws=((0,false),ws)) ∨
 ∃(q:Int) (j:Nat) (f:Int) (G2:Int→List Int) (X:List Int),af pg q=true∧0≤k∧k≤4∧(j:Int)<ax k∧eP (dd pg st ws q) j=false∧c7 us pg st k ws=((us+32 * q+j * szV k,true),X)∧PgW pg st G2 X ∧
  (∀p,af pg p=true→aV pg st X p=(if p=q then k+1 else aV pg st ws p)∧cH pg st X p=(if p=q then f else cH pg st ws p)∧dd pg st X p=(if p=q then setV (dd pg st ws q) j else dd pg st ws p)) ∧
  ((aV pg st ws q=k+1∧f+1=cH pg st ws q)∨(aV pg st ws q=0∧f+1=ax k)):=by
 by_cases hs:ax k=0
 ·exact .inl (oQ H us hs ws)
 have hk:=fx hs
 by_cases h1:df pg st k (ax k).toNat 1 ws= -1
 ·by_cases h2:fO pg st 1 1 ws= -1
  ·exact .inl (oT H us hs h1 h2)
  ·obtain⟨y,hy⟩:∃y,fO pg st 1 1 ws=y:=⟨_,rfl⟩
   rw[hy] at h2
   obtain⟨G1,G2,w1,X,hyp,hk0,_,T,n1,_,M,e,Q⟩:=tX H us hs P hn h1 hy h2
   have hf:=P.f.free y hyp hk0
   refine .inr ⟨y,0,ax k-1,G2,X,hyp,hk.1,hk.2,by have:=et k;simp;omega,by rw[hf.2];simp[eP,mP],by rw[e];simp,Q,fun p hp=>⟨?_,?_,?_⟩,.inr ⟨hk0,by omega⟩⟩
   ·rw[ea.kind H M.o2,jq H hyp _ _ n1,T.kind]
    by_cases e:p=y
    ·rw[if_pos e,if_pos e]
    ·rw[if_neg e,if_neg e,if_neg (by omega)]
   ·rw[ea.cnt H M.o2 hp,kM H hyp _ _ n1 hp,T.cnt p hp]
    by_cases e:p=y
    ·rw[if_pos e,if_pos e]
    ·rw[if_neg e,if_neg e,if_neg e,if_neg (by omega)]
   ·rw[ea.bit H M.o2 hp,kN H hyp _ _ n1 hp,T.bit p hp]
    by_cases e:p=y
    ·rw[if_pos e,if_pos e,hf.2];rfl
    ·rw[if_neg e,if_neg e,if_neg (by omega)]
 ·obtain⟨q,hq⟩:∃q,df pg st k (ax k).toNat 1 ws=q:=⟨_,rfl⟩
  rw[hq] at h1
  obtain⟨j,G1,G2,u,X,hqp,ek,c1,_,_,hj,hb,M,e,Q⟩:=tW H us hs P hn hq h1
  refine .inr ⟨q,j,cH pg st ws q-1,G2,X,hqp,hk.1,hk.2,hj,by unfold eP;simp[hb],e,Q,fun p hp=>⟨?_,?_,?_⟩,.inl ⟨ek,by omega⟩⟩
  ·rw[ea.kind H M.o2,jq H hqp _ _ hn]
   by_cases e:p=q
   ·rw[if_pos e,e,ek]
   ·rw[if_neg e]
  ·rw[ea.cnt H M.o2 hp,kM H hqp _ _ hn hp]
  ·rw[ea.bit H M.o2 hp,kN H hqp _ _ hn hp]
end
section
variable {pg st:Int}{n:Nat}(H:cF pg st n)
include H
theorem Iu (us:Int){a:Int}{G:Int→List Int}{ws:List Int}(P:PgW pg st G ws)(hn:ws.length=n)(ho:OkW ws){q k i:Int}(h:gI (ge us pg st a ws)=some (q,k,i)):
 ∃(G2:Int→List Int) (X:List Int),ig us pg st a ws=(true,X)∧PgW pg st G2 X ∧
  (∀p,af pg p=true→aV pg st X p=(if p=q then(if cH pg st ws q+1=ax k then 0 else k+1) else aV pg st ws p)∧cH pg st X p=(if p=q then(if cH pg st ws q+1=ax k then 0 else cH pg st ws q+1) else cH pg st ws p) ∧
   dd pg st X p=(if p=q then(if cH pg st ws q+1=ax k then 0 else clearV (dd pg st ws q) i) else dd pg st ws p)):=by
 obtain⟨hq,ek,_,_,_,_,_,_,_,_,y1,y2⟩:=zC H us P hn ho h
 by_cases he:cH pg st ws q+1=ax k
 ·obtain⟨G1,G2,u,X,M,e,Q⟩:=y2 he
  refine⟨G2,X,e,Q,fun p hp=>⟨?_,?_,?_⟩⟩
  ·rw[ea.kind H M.o2,nI H.toPgIn hq 0 0 hn p,if_pos he]
  ·rw[ea.cnt H M.o2 hp,mL H.toPgIn hq 0 0 hn hp,if_pos he]
  ·rw[ea.bit H M.o2 hp,pN H.toPgIn hq 0 0 hn hp,if_pos he]
 ·obtain⟨G1,G2,u,X,M,e,Q⟩:=y1 he
  refine⟨G2,X,e,Q,fun p hp=>⟨?_,?_,?_⟩⟩
  ·rw[ea.kind H M.o2,jq H hq _ _ hn,if_neg he]
   by_cases z:p=q
   ·rw[if_pos z,z,ek]
   ·rw[if_neg z]
  ·rw[ea.cnt H M.o2 hp,kM H hq _ _ hn hp,if_neg he]
  ·rw[ea.bit H M.o2 hp,kN H hq _ _ hn hp,if_neg he]
end
theorem Iv {w:Int}{m j:Nat} :j∈onN w m↔j<m∧eO w j=true:=by simp[onN]
theorem Dt {k b:Int}{i j:Nat}(h:dQ k b+1=ax k)(hi:(i:Int)<ax k)(hj:(j:Int)<ax k)(bi:eP b i=true)(bj:eP b j=true):i=j:=by
 have hs:=et k
 have he:=lF (k:=k)
 have hl:(onN b (endN (ax k))).length=1:=by unfold dQ dx at h;omega
 obtain⟨x,hx⟩:=List.length_eq_one_iff.1 hl
 have m1:i∈onN b (endN (ax k)):=Iv.2 ⟨by omega,by rw[←xo (by omega)];exact bi⟩
 have m2:j∈onN b (endN (ax k)):=Iv.2 ⟨by omega,by rw[←xo (by omega)];exact bj⟩
 rw[hx] at m1 m2
 rw[List.mem_singleton.1 m1,List.mem_singleton.1 m2]
def tkC (us pg st:Int)(ws:List Int)(a:Int):Option Int:=(gI (ge us pg st a ws)).map (·.2.1)
structure lW (pg st:Int)(a b:List Int):Prop where
 len:b.length=a.length
 off:∀i:Int,a8 st pg+62≤i→wAt b i=wAt a i
theorem lW.refl (pg st:Int)(a:List Int):lW pg st a a:=⟨rfl,fun _ _=>rfl⟩
theorem lW.trans {pg st:Int}{a b c:List Int}(h:lW pg st a b)(g:lW pg st b c):lW pg st a c:=⟨g.len.trans h.len,fun i hi=>(g.off i hi).trans (h.off i hi)⟩
structure t6 (pg st:Int)(a b:List Int):Prop where
 len:b.length=a.length
 off:∀i:Int,0≤i→i<a8 st pg+62→wAt b i=wAt a i
theorem szj {k:Int}{j:Nat}(k0:0≤k)(k4:k≤4)(hj:(j:Int)<ax k):0<szV k∧0≤(j:Int) * szV k∧(j:Int) * szV k<32:=by
 obtain⟨z,rfl⟩:∃z:Nat,k=(z:Int):=⟨k.toNat,by omega⟩
 have hz4:z=0∨z=1∨z=2∨z=3∨z=4:=by omega
 rcases hz4 with rfl|rfl|rfl|rfl|rfl
 ·have hj:(j:Int)<32:=hj
  rw[show szV ((0:Nat):Int)=1 from rfl];omega
 ·have hj:(j:Int)<16:=hj
  rw[show szV ((1:Nat):Int)=2 from rfl];omega
 ·have hj:(j:Int)<8:=hj
  rw[show szV ((2:Nat):Int)=4 from rfl];omega
 ·have hj:(j:Int)<4:=hj
  rw[show szV ((3:Nat):Int)=8 from rfl];omega
 ·have hj:(j:Int)<2:=hj
  rw[show szV ((4:Nat):Int)=16 from rfl];omega
theorem BI {k:Int}(k0:0≤k)(k4:k≤4)(h:0<szV k)(q:Int):32 * q % szV k=0:=by
 obtain⟨z,rfl⟩:∃z:Nat,k=(z:Int):=⟨k.toNat,by omega⟩
 have hz4:z=0∨z=1∨z=2∨z=3∨z=4:=by omega
 rcases hz4 with rfl|rfl|rfl|rfl|rfl
 ·rw[show szV ((0:Nat):Int)=1 from rfl];omega
 ·rw[show szV ((1:Nat):Int)=2 from rfl];omega
 ·rw[show szV ((2:Nat):Int)=4 from rfl];omega
 ·rw[show szV ((3:Nat):Int)=8 from rfl];omega
 ·rw[show szV ((4:Nat):Int)=16 from rfl];omega
section
variable {pg st:Int}{n:Nat}(H:cF pg st n)
include H
theorem kq {p:Int}(hp:af pg p=true):(0≤kA pg st p∧kA pg st p<a8 st pg+62)∧(0≤cA pg st p∧cA pg st p<a8 st pg+62)∧(0≤bA pg st p∧bA pg st p<a8 st pg+62)∧(0≤nA pg st p∧nA pg st p<a8 st pg+62)∧(0≤vA pg st p∧vA pg st p<a8 st pg+62):=by
 have:=ay.1 hp
 have h1:=H.st1;have h4:=H.pg1
 have hc:0≤aL pg:=by unfold aL;omega
 have ht:0≤aY st:=by unfold aY;omega
 unfold kA cA bA nA vA a8
 refine⟨⟨?_,?_⟩,⟨?_,?_⟩,⟨?_,?_⟩,⟨?_,?_⟩,?_,?_⟩<;>omega
theorem Du {k:Int}(hk:bV pg k=true):0≤dY pg st k∧dY pg st k<a8 st pg+62:=by
 have h1:=H.st1;have h4:=H.pg1
 have:=de.1 hk
 have ht:0≤aY st:=by unfold aY;omega
 rw[me hk]
 unfold a8
 omega
theorem Iw {i:Int}(hi:a8 st pg+62≤i):¬dy pg st i∧∀p,af pg p=true→i≠nA pg st p∧i≠vA pg st p:=by
 refine⟨fun h=>by unfold dy at h;omega,fun p hp=>?_⟩
 obtain⟨_,_,_,h1,h2⟩:=kq H hp
 exact⟨by omega,by omega⟩
theorem lG {a b:List Int}(o:ea pg st a b):lW pg st a b:=⟨o.len,fun i hi=>by
 have:=Iw H hi
 have h1:=H.st1;have h4:=H.pg1
 have hc:0≤aL pg:=by unfold aL;omega
 have ht:0≤aY st:=by unfold aY;omega
 exact o.off i (by unfold a8 at hi;omega) this.1 this.2⟩
theorem qT {q:Int}(hq:af pg q=true)(b f:Int){ws:List Int}(hn:ws.length=n):lW pg st ws (gJ pg st q b f ws):=⟨by simp[gJ],fun i hi=>by
 obtain⟨_,⟨h1,h2⟩,⟨h3,h4⟩,_⟩:=kq H hq
 rw[jn H hq b f hn (by omega),if_neg (by omega),if_neg (by omega)]⟩
theorem Fd {q:Int}(hq:af pg q=true)(k x:Int){ws:List Int}(hn:ws.length=n):lW pg st ws (fN pg st q k x ws):=⟨fm H.toPgIn _ _ _ _,fun i hi=>by
 obtain⟨⟨h5,h6⟩,⟨h1,h2⟩,⟨h3,h4⟩,_⟩:=kq H hq
 rw[iE H.toPgIn hq k x hn (by omega),if_neg (by omega),if_neg (by omega),if_neg (by omega)]⟩
theorem Fe {p m k:Int}{a b:List Int}(T:H4 pg st p m k a b):lW pg st a b:=⟨T.len,fun i hi=>by
 have h1:=H.st1;have h4:=H.pg1
 have hc:0≤aL pg:=by unfold aL;omega
 have ht:0≤aY st:=by unfold aY;omega
 refine T.off i (by unfold a8 at hi;omega) (fun p hp=>?_) (fun k hk=>?_)
 ·obtain⟨⟨_,h1⟩,⟨_,h2⟩,⟨_,h3⟩,_⟩:=kq H hp
  exact⟨by omega,by omega,by omega⟩
 ·have:=Du H hk;omega⟩
theorem Ff (us k:Int){G:Int→List Int}{ws:List Int}(P:PgW pg st G ws)(hn:ws.length=n):lW pg st ws (c7 us pg st k ws).2:=by
 by_cases hs:ax k=0
 ·rw[oQ H us hs ws];exact lW.refl _ _ _
 ·by_cases h1:df pg st k (ax k).toNat 1 ws= -1
  ·by_cases h2:fO pg st 1 1 ws= -1
   ·rw[oT H us hs h1 h2];exact lW.refl _ _ _
   ·obtain⟨G1,G2,w1,X,hy,_,_,T,n1,_,M,e,_⟩:=tX H us hs P hn h1 rfl h2
    rw[e]
    exact((Fe H T).trans (qT H hy _ _ n1)).trans (lG H M.o2)
  ·obtain⟨j,G1,G2,u,X,hq,_,_,_,_,_,_,M,e,_⟩:=tW H us hs P hn rfl h1
   rw[e]
   exact(qT H hq _ _ hn).trans (lG H M.o2)
theorem Fg (us a:Int){G:Int→List Int}{ws:List Int}(P:PgW pg st G ws)(hn:ws.length=n)(ho:OkW ws):lW pg st ws (ig us pg st a ws).2:=by
 cases h:gI (ge us pg st a ws) with
 |none=>rw[Ku H h];exact lW.refl _ _ _
 |some x =>
  obtain⟨q,k,i⟩:=x
  obtain⟨hq,_,_,_,_,_,_,_,_,_,y1,y2⟩:=zC H us P hn ho h
  by_cases he:cH pg st ws q+1=ax k
  ·obtain⟨G1,G2,u,X,M,e,_⟩:=y2 he
   rw[e];exact(Fd H hq _ _ hn).trans (lG H M.o2)
  ·obtain⟨G1,G2,u,X,M,e,_⟩:=y1 he
   rw[e];exact(qT H hq _ _ hn).trans (lG H M.o2)
theorem fh {a b:List Int}(F:t6 pg st a b)(p:Int):aV pg st b p=aV pg st a p:=by
 unfold aV
 split
 ·rename_i hp
  obtain⟨⟨h1,h2⟩,_⟩:=kq H hp
  exact F.off _ h1 h2
 ·rfl
theorem nK {a b:List Int}(F:t6 pg st a b){p:Int}(hp:af pg p=true):cH pg st b p=cH pg st a p:=by
 obtain⟨_,⟨h1,h2⟩,_⟩:=kq H hp
 exact F.off _ h1 h2
theorem nL {a b:List Int}(F:t6 pg st a b){p:Int}(hp:af pg p=true):dd pg st b p=dd pg st a p:=by
 obtain⟨_,_,⟨h1,h2⟩,_⟩:=kq H hp
 exact F.off _ h1 h2
theorem Fh {a b:List Int}(F:t6 pg st a b)(k:Int):bP pg st b k=bP pg st a k:=by
 unfold bP
 cases hk:bV pg k with
 |false=>rfl
 |true =>
  obtain⟨h1,h2⟩:=Du H hk
  rw[F.off _ h1 h2]
theorem vV {a b:List Int}(F:t6 pg st a b){G:Int→List Int}(P:PgW pg st G a):PgW pg st G b:=by
 obtain⟨L,Q⟩:=P
 have h1:=H.st1;have h4:=H.pg1
 have hc:0≤aL pg:=by unfold aL;omega
 have ht:0≤aY st:=by unfold aY;omega
 refine⟨⟨fun x hx=>?_,L.page,L.nodup,L.apart,fun x p hx hp=>?_,fun x p hx hp=>?_,fun p hp hn=>?_⟩,⟨fun p hp=>?_,fun p hp h=>?_,fun p hp h=>?_,fun p hp h=>?_,fun x p hx=>?_⟩⟩
 ·rw[F.off x (by unfold dy a8 at hx;omega) (by unfold dy at hx;omega)];exact L.head x hx
 ·obtain⟨_,_,_,⟨n1,n2⟩,_⟩:=kq H (L.page x hx p hp)
  rw[F.off _ n1 n2];exact L.next x p hx hp
 ·obtain⟨_,_,_,_,v1,v2⟩:=kq H (L.page x hx p hp)
  rw[F.off _ v1 v2];exact L.prev x p hx hp
 ·obtain⟨_,_,_,⟨n1,n2⟩,v1,v2⟩:=kq H hp
  rw[F.off _ n1 n2,F.off _ v1 v2];exact L.free p hp hn
 ·rw[fh H F];exact Q.kd p hp
 ·rw[fh H F] at h;rw[nK H F hp,nL H F hp];exact Q.free p hp h
 ·rw[fh H F] at h;rw[Fh H F];exact Q.map p hp h
 ·rw[fh H F] at h⊢;rw[nK H F hp,nL H F hp];exact Q.cnt p hp h
 ·rw[Q.mem x p hx]
  constructor
  ·rintro⟨z1,z2,z3⟩
   refine⟨z1,?_,?_⟩
   ·rw[fh H F];exact z2
   ·rw[fh H F,nK H F z1];exact z3
  ·rintro⟨z1,z2,z3⟩
   rw[fh H F] at z2 z3
   rw[nK H F z1] at z3
   exact⟨z1,z2,z3⟩
theorem jN {us a k:Int}{G:Int→List Int}{ws:List Int}(P:PgW pg st G ws):
 tkC us pg st ws a=some k↔∃(q:Int) (j:Nat),af pg q=true∧0≤k∧k≤4∧(j:Int)<ax k∧aV pg st ws q=k+1∧eP (dd pg st ws q) j=true∧a=us+32 * q+j * szV k:=by
 constructor
 ·intro h
  unfold tkC at h
  cases hx:gI (ge us pg st a ws) with
  |none=>rw[hx] at h;cases h
  |some x =>
   obtain⟨q,k',i⟩:=x
   rw[hx] at h
   simp at h
   subst h
   obtain⟨hq,ek,k0,k4,i0,i1,ht,ha⟩:=tY H P.f (iq hx)
   obtain⟨j,rfl⟩:∃j:Nat,i=j:=⟨i.toNat,by omega⟩
   exact⟨q,j,hq,k0,k4,i1,ek,ht.symm,ha⟩
 ·rintro⟨q,j,hq,k0,k4,hj,ek,hb,rfl⟩
  unfold tkC
  rw[Iq hq ⟨k0,k4⟩ hj ek,hb]
  rfl
theorem Iy {us a:Int}{x y:List Int}(F:t6 pg st x y){G:Int→List Int}(P:PgW pg st G x):tkC us pg st y a=tkC us pg st x a:=by
 apply Option.ext
 intro k
 have e1:=jN H (us:=us) (a:=a) (k:=k) (vV H F P)
 have e2:=jN H (us:=us) (a:=a) (k:=k) P
 rw[e1,e2]
 constructor
 ·rintro⟨q,j,hq,k0,k4,hj,ek,hb,ha⟩
  rw[fh H F] at ek;rw[nL H F hq] at hb
  exact⟨q,j,hq,k0,k4,hj,ek,hb,ha⟩
 ·rintro⟨q,j,hq,k0,k4,hj,ek,hb,ha⟩
  exact⟨q,j,hq,k0,k4,hj,by rw[fh H F];exact ek,by rw[nL H F hq];exact hb,ha⟩
theorem zE {us k q q':Int}{j j':Nat}(hq:af pg q=true)(hq':af pg q'=true)(k0:0≤k)(k4:k≤4)(hj:(j:Int)<ax k)(hj':(j':Int)<ax k)(e:us+32 * q+j * szV k=us+32 * q'+j' * szV k):q=q'∧j=j':=by
 have e1:=pQ us hq k0 k4 hj
 have e2:=pQ us hq' k0 k4 hj'
 have eq:q=q':=by rw[←e1,←e2,e]
 subst eq
 refine⟨rfl,?_⟩
 have hs:szV k≠0:=fun z=>by
  have:=Ip.1 z
  omega
 have:(j:Int) * szV k=(j':Int) * szV k:=by omega
 have:=Int.eq_of_mul_eq_mul_right hs this
 omega
theorem zF {us k k' q q':Int}{j j':Nat}(hq:af pg q=true)(hq':af pg q'=true)(k0:0≤k)(k4:k≤4)(k0':0≤k')(k4':k'≤4)(hj:(j:Int)<ax k)(hj':(j':Int)<ax k')(e:us+32 * q+j * szV k=us+32 * q'+j' * szV k'):q=q':=by
 have e1:=pQ us hq k0 k4 hj
 have e2:=pQ us hq' k0' k4' hj'
 rw[←e1,←e2,e]
theorem zG {k:Int}(k0:0≤k)(k4:k≤4){j:Nat}(hj:(j:Int)<ax k):inR (j:Int)=true:=(fg _).2 ⟨by omega,by have:=et k;omega⟩
theorem Iz (us k:Int){G:Int→List Int}{ws:List Int}(P:PgW pg st G ws)(hn:ws.length=n):
 (c7 us pg st k ws=((0,false),ws)) ∨
 ∃(a:Int) (G2:Int→List Int) (X:List Int),c7 us pg st k ws=((a,true),X)∧PgW pg st G2 X∧lW pg st ws X∧0≤k∧k≤4∧tkC us pg st ws a=none∧tkC us pg st X a=some k∧(∀b,b≠a→tkC us pg st X b=tkC us pg st ws b)∧us≤a∧a<us+32 * pg∧(a-us) % szV k=0:=by
 rcases Ir H us k P hn with e|⟨q,j,f,G2,X,hq,k0,k4,hj,hb,e,Q,hp,hw⟩
 ·exact .inl e
 have hin:=zG H k0 k4 hj
 have T:=Ff H us k P hn
 rw[e] at T
 have hp1:=fun p h=>(hp p h).1
 have hp3:=fun p h=>(hp p h).2.2
 have hkq:=hp1 q hq;rw[if_pos rfl] at hkq
 have hbq:=hp3 q hq;rw[if_pos rfl] at hbq
 have hfree:aV pg st ws q=k+1∨(aV pg st ws q=0∧∀i:Int,eP (dd pg st ws q) i=false):=by
  rcases hw with⟨w1,_⟩|⟨w1,_⟩
  ·exact .inl w1
  ·exact .inr ⟨w1,fun i=>by rw[(P.f.free q hq w1).2];simp[eP,mP]⟩
 obtain⟨kz,kz1,kz2⟩:=szj k0 k4 hj
 have hqq:=ay.1 hq
 refine .inr ⟨us+32 * q+j * szV k,G2,X,e,Q,T,k0,k4,?_,?_,fun b hne=>?_,by omega,by omega,?_⟩
 ·cases z:tkC us pg st ws (us+32 * q+j * szV k) with
  |none=>rfl
  |some k' =>
   obtain⟨q',j',hq',k0',k4',hj',ek,hb',ha⟩:=(jN H P).1 z
   obtain rfl:=zF H hq hq' k0 k4 k0' k4' hj hj' ha
   rcases hfree with w|⟨_,w⟩
   ·have:k'=k:=by omega
    subst this
    obtain⟨_,rfl⟩:=zE H hq hq k0 k4 hj hj' ha
    rw[hb] at hb';cases hb'
   ·rw[w] at hb';cases hb'
 ·exact(jN H Q).2 ⟨q,j,hq,k0,k4,hj,hkq,by rw[hbq];exact J7 hin,rfl⟩
 ·apply Option.ext
  intro c
  rw[jN H Q,jN H P]
  constructor
  ·rintro⟨q',j',hq',c0,c4,hj',ek,hb',rfl⟩
   rw[hp1 q' hq'] at ek
   rw[hp3 q' hq'] at hb'
   by_cases z:q'=q
   ·subst z
    rw[if_pos rfl] at ek hb'
    have:c=k:=by omega
    subst this
    have nj:j'≠j:=fun y=>hne (by rw[y])
    rw[oe hin (by omega)] at hb'
    rcases hfree with w|⟨_,w⟩
    ·exact⟨q',j',hq',c0,c4,hj',by omega,hb',rfl⟩
    ·rw[w] at hb';cases hb'
   ·rw[if_neg z] at ek hb'
    exact⟨q',j',hq',c0,c4,hj',ek,hb',rfl⟩
  ·rintro⟨q',j',hq',c0,c4,hj',ek,hb',rfl⟩
   refine⟨q',j',hq',c0,c4,hj',?_,?_,rfl⟩
   ·rw[hp1 q' hq']
    by_cases z:q'=q
    ·subst z
     rcases hfree with w|⟨_,w⟩
     ·rw[if_pos rfl];omega
     ·rw[w] at hb';cases hb'
    ·rw[if_neg z];exact ek
   ·rw[hp3 q' hq']
    by_cases z:q'=q
    ·subst z
     rw[if_pos rfl]
     rcases hfree with w|⟨_,w⟩
     ·have:c=k:=by omega
      subst this
      have nj:j'≠j:=fun y=>hne (by rw[y])
      rw[oe hin (by omega)];exact hb'
     ·rw[w] at hb';cases hb'
    ·rw[if_neg z];exact hb'
 ·have e1:us+32 * q+j * szV k-us=32 * q+j * szV k:=by omega
  rw[e1,Int.add_emod,Int.mul_emod_left,Int.add_zero,Int.emod_emod_of_dvd _ (Int.dvd_refl _)]
  have:(32:Int) * q % szV k=0:=BI k0 k4 kz q
  exact this
theorem IA (us:Int){a k:Int}{G:Int→List Int}{ws:List Int}(P:PgW pg st G ws)(hn:ws.length=n)(ho:OkW ws)(h:tkC us pg st ws a=some k):
 ∃(G2:Int→List Int) (X:List Int),ig us pg st a ws=(true,X)∧PgW pg st G2 X∧lW pg st ws X∧tkC us pg st X a=none∧(∀b,b≠a→tkC us pg st X b=tkC us pg st ws b):=by
 have h0:=h
 unfold tkC at h0
 cases hx:gI (ge us pg st a ws) with
 |none=>rw[hx] at h0;cases h0
 |some x =>
  obtain⟨q,k',i⟩:=x
  rw[hx] at h0
  simp at h0
  subst h0
  have T:=Fg H us a P hn ho
  obtain⟨hq,ek,k0,k4,i0,i1,ht,ha⟩:=tY H P.f (iq hx)
  obtain⟨j,rfl⟩:∃j:Nat,i=j:=⟨i.toNat,by omega⟩
  have hin:=zG H k0 k4 i1
  obtain⟨G2,X,e,Q,hp⟩:=Iu H us P hn ho hx
  rw[e] at T
  have hc:=P.f.cnt q hq (by omega)
  rw[ek,show k'+1-1=k' by omega] at hc
  have ht:=ht.symm
  refine⟨G2,X,e,Q,T,?_,fun b hne=>?_⟩
  ·cases z:tkC us pg st X a with
   |none=>rfl
   |some c =>
    obtain⟨q',j',hq',c0,c4,hj',ek',hb',ha'⟩:=(jN H Q).1 z
    obtain rfl:=zF H hq hq' k0 k4 c0 c4 i1 hj' (ha.symm.trans ha')
    obtain⟨p1,_,p3⟩:=hp q hq
    rw[if_pos rfl] at p1 p3
    by_cases he:cH pg st ws q+1=ax k'
    ·rw[if_pos he] at p1;omega
    ·rw[if_neg he] at p1 p3
     have:c=k':=by omega
     subst this
     obtain⟨_,rfl⟩:=zE H hq hq k0 k4 i1 hj' (ha.symm.trans ha')
     rw[p3,vG hin] at hb'
     cases hb'
  ·apply Option.ext
   intro c
   rw[jN H Q,jN H P]
   constructor
   ·rintro⟨q',j',hq',c0,c4,hj',ek',hb',rfl⟩
    obtain⟨p1,_,p3⟩:=hp q' hq'
    by_cases z:q'=q
    ·subst z
     rw[if_pos rfl] at p1 p3
     by_cases he:cH pg st ws q'+1=ax k'
     ·rw[if_pos he] at p1;omega
     ·rw[if_neg he] at p1 p3
      have:c=k':=by omega
      subst this
      have nj:j'≠j:=fun y=>hne (by rw[y,ha])
      rw[p3,lU hin (by omega)] at hb'
      exact⟨q',j',hq',c0,c4,hj',ek,hb',rfl⟩
    ·rw[if_neg z] at p1 p3
     exact⟨q',j',hq',c0,c4,hj',by rw[←p1];exact ek',by rw[←p3];exact hb',rfl⟩
   ·rintro⟨q',j',hq',c0,c4,hj',ek',hb',rfl⟩
    obtain⟨p1,_,p3⟩:=hp q' hq'
    refine⟨q',j',hq',c0,c4,hj',?_,?_,rfl⟩
    all_goals by_cases z:q'=q
    ·subst z
     have:c=k':=by omega
     subst this
     have nj:j'≠j:=fun y=>hne (by rw[y,ha])
     rw[if_pos rfl] at p1
     by_cases he:cH pg st ws q'+1=ax c
     ·exact absurd (Dt (by omega) i1 hj' ht hb') (fun y=>nj y.symm)
     ·rw[if_neg he] at p1;exact p1
    ·rw[if_neg z] at p1;rw[p1];exact ek'
    ·subst z
     have:c=k':=by omega
     subst this
     have nj:j'≠j:=fun y=>hne (by rw[y,ha])
     rw[if_pos rfl] at p3
     by_cases he:cH pg st ws q'+1=ax c
     ·exact absurd (Dt (by omega) i1 hj' ht hb') (fun y=>nj y.symm)
     ·rw[if_neg he] at p3
      rw[p3,lU hin (by omega)];exact hb'
    ·rw[if_neg z] at p3;rw[p3];exact hb'
theorem Fi (us a:Int):tkC us pg st (cQ n) a=none:=by
 have P:=vU H
 cases z:tkC us pg st (cQ n) a with
 |none=>rfl
 |some k =>
  obtain⟨q,j,hq,k0,k4,hj,ek,_⟩:=(jN H P).1 z
  have hz:∀i:Int,wAt (cQ n) i=0:=fun i=>by
   unfold wAt cQ
   simp only[List.getD,List.getElem?_replicate]
   split<;>rfl
  unfold aV at ek
  rw[if_pos hq,hz] at ek
  omega
theorem BJ {us a k:Int}{G:Int→List Int}{ws:List Int}(P:PgW pg st G ws)(h:tkC us pg st ws a=some k):us≤a∧a<us+32 * pg∧0≤k∧k≤4∧(a-us) % szV k=0∧ax k≠0:=by
 obtain⟨q,j,hq,k0,k4,hj,_,_,rfl⟩:=(jN H P).1 h
 obtain⟨kz,kz1,kz2⟩:=szj k0 k4 hj
 have hqq:=ay.1 hq
 refine⟨by omega,by omega,k0,k4,?_,by omega⟩
 have e1:us+32 * q+j * szV k-us=32 * q+j * szV k:=by omega
 rw[e1,Int.add_emod,Int.mul_emod_left,Int.add_zero,Int.emod_emod_of_dvd _ (Int.dvd_refl _)]
 exact BI k0 k4 kz q
theorem Kv (us k:Int){G:Int→List Int}{ws:List Int}(P:PgW pg st G ws)(hn:ws.length=n):(c7 us pg st k ws).1.2=true↔ax k≠0∧(jg pg st k ws=true∨fO pg st 1 1 ws≠ -1):=by
 by_cases hs:ax k=0
 ·rw[oQ H us hs ws]
  exact⟨fun h=>by simp at h,fun h=>absurd hs h.1⟩
 ·by_cases h1:df pg st k (ax k).toNat 1 ws= -1
  ·have hr:jg pg st k ws=false:=by unfold jg;rw[h1];rfl
   by_cases h2:fO pg st 1 1 ws= -1
   ·rw[oT H us hs h1 h2,hr]
    exact⟨fun h=>by simp at h,fun h=>by rcases h.2 with z|z;simp at z;exact absurd h2 z⟩
   ·obtain⟨G1,G2,w1,X,_,_,_,_,_,_,_,e,_⟩:=tX H us hs P hn h1 rfl h2
    rw[e]
    exact⟨fun _=>⟨hs,.inr h2⟩,fun _=>rfl⟩
  ·have hr:jg pg st k ws=true:=by unfold jg;simpa using h1
   obtain⟨j,G1,G2,u,X,_,_,_,_,_,_,_,_,e,_⟩:=tW H us hs P hn rfl h1
   rw[e]
   exact⟨fun _=>⟨hs,.inl hr⟩,fun _=>rfl⟩
end
structure eQ (b l:Int)(n:Nat):Prop where
 b1:1≤b
 l0:0≤l
 hi:b+l<n
 top:n≤10000
def a7 (l y:Int):Int:=if 0≤y∧y≤l then y else 0
def lH (b l:Int):Prg Int:=aq (cT b) fun y=>az (a7 l y)
def dJ (b l k:Int):Int:=if k<0∨l≤k then 0 else b+1+k
def kr (up:Bool)(b l:Int):Prg (Int×Int):=aq (lH b l) fun n=>az (n,dJ b l (if up then n else n-1))
def j4 (b l x:Int):Prg Bool:=aq (kr true b l) fun p=>if p.2=0 then az false else aq (cU p.2 x) fun _=>aq (cU b (p.1+1)) fun _=>az true
def ee (b l:Int):Prg (Int×Bool):=aq (kr false b l) fun p=>if p.2=0 then az (0,false) else aq (cT p.2) fun y=>aq (cU b (p.1-1)) fun _=>az (y,true)
theorem kP {l y:Int}(h:0≤l):0≤a7 l y∧a7 l y≤l:=by unfold a7;split<;>omega
theorem xA (b l:Int):bH (lH b l):=ar (dl b) fun _=>ah _
theorem mQ {b l:Int}{n:Nat}(H:eQ b l n):bZ n (fun x=>0≤x∧x≤l) (lH b l):=
 aw (a6 n (by have:=H.hi;have:=H.l0;omega)) fun y _=>ai n (kP H.l0)
theorem rt (up:Bool)(b l:Int):bH (kr up b l):=ar (xA b l) fun _=>ah _
def OJ (b l:Int)(p:Int×Int):Prop:=0≤p.1∧p.1≤l∧(p.2=0∨(b+1≤p.2∧p.2≤b+l))
theorem IC (b l k:Int):dJ b l k=0∨(b+1≤dJ b l k∧dJ b l k≤b+l):=by unfold dJ;split<;>omega
theorem lI {b l:Int}{n:Nat}(H:eQ b l n)(up:Bool):bZ n (OJ b l) (kr up b l):=
 aw (mQ H) fun y hy=>ai n ⟨hy.1,hy.2,IC b l _⟩
theorem xB (b l x:Int):bH (j4 b l x):=
 ar (rt true b l) fun _=>aG (ah _) (ar (c6 _ _) fun _=>ar (c6 _ _) fun _=>ah _)
theorem zH {b l x:Int}{n:Nat}(H:eQ b l n)(hx:W64 x):bZ n (fun _=>True) (j4 b l x):=by
 have hh:=H.hi;have ht:=H.top;have h1:=H.b1;have h0:=H.l0
 refine aw (lI H true) fun p hp=>?_
 obtain⟨q0,q1,q2⟩:=hp
 split
 ·exact ai n trivial
 ·rename_i q3
  have q4:=q2.resolve_left q3
  exact aw (aR n (by unfold W64;omega) (by omega) hx) fun _ _=>aw (aR n (by unfold W64;omega) (by omega) (by unfold W64;omega)) fun _ _=>ai n trivial
theorem ru (b l:Int):bH (ee b l):=
 ar (rt false b l) fun _=>aG (ah _) (ar (dl _) fun _=>ar (c6 _ _) fun _=>ah _)
theorem iu {b l:Int}{n:Nat}(H:eQ b l n):bZ n (fun p=>W64 p.1) (ee b l):=by
 have hh:=H.hi;have ht:=H.top;have h1:=H.b1;have h0:=H.l0
 refine aw (lI H false) fun p hp=>?_
 obtain⟨q0,q1,q2⟩:=hp
 split
 ·exact ai n (by unfold W64;constructor<;>decide)
 ·rename_i q3
  have q4:=q2.resolve_left q3
  exact aw (a6 n (by omega)) fun y hy=>aw (aR n (by unfold W64;omega) (by omega) (by unfold W64;omega)) fun _ _=>ai n hy
def cL (b l x:Int)(ws:List Int):Bool×List Int :=
 let n:=a7 l (wAt ws b)
 if n<l then(true,(ws.set (b+1+n).toNat x).set b.toNat (n+1)) else(false,ws)
def aZ (b l:Int)(ws:List Int):(Int×Bool)×List Int :=
 let n:=a7 l (wAt ws b)
 if 0<n then((wAt ws (b+n),true),ws.set b.toNat (n-1)) else((0,false),ws)
theorem zI {b l:Int}{n:Nat}(H:eQ b l n):ci n (lH b l) (fun ws=>(a7 l (wAt ws b),ws)):=
 aC (dI (by have:=H.b1;omega) (by have:=H.hi;have:=H.l0;omega)) fun _=>au n _
theorem ua {b l:Int}{n:Nat}(H:eQ b l n)(up:Bool):ci n (kr up b l) (fun ws=>((a7 l (wAt ws b),dJ b l (if up then a7 l (wAt ws b) else a7 l (wAt ws b)-1)),ws)):=
 aC (zI H) fun _=>au n _
theorem rv {b l x:Int}{n:Nat}(H:eQ b l n)(hx:W64 x):ci n (j4 b l x) (cL b l x):=fun zs D hn hz hD=>by
 have hh:=H.hi;have ht:=H.top;have h1:=H.b1;have h0:=H.l0
 obtain⟨D1,e1,a1,i1⟩:=ua H true zs D hn hz hD
 have hk:=kP (y:=wAt (cy zs D) b) h0
 unfold j4
 rw[aj e1]
 unfold cL
 simp only[if_true] at *
 by_cases q:a7 l (wAt (cy zs D) b)<l
 ·have e:dJ b l (a7 l (wAt (cy zs D) b))=b+1+a7 l (wAt (cy zs D) b):=by unfold dJ;rw[if_neg (by omega)]
  rw[e] at e1⊢
  rw[if_pos q,if_neg (by omega)]
  generalize a7 l (wAt (cy zs D) b)=m at *
  obtain⟨D2,e2,a2,i2⟩:=dm (n:=n) (a:=b+1+m) (x:=x) (by omega) (by omega) (by unfold W64;omega) hx zs D1 hn hz i1
  obtain⟨D3,e3,a3,i3⟩:=dm (n:=n) (a:=b) (x:=m+1) (by omega) (by omega) (by unfold W64;omega) (by unfold W64;omega) zs D2 hn hz i2
  rw[aj e2,aj e3]
  exact⟨D3,rfl,by rw[a3,a2,a1],i3⟩
 ·have e:dJ b l (a7 l (wAt (cy zs D) b))=0:=by unfold dJ;rw[if_pos (by omega)]
  rw[e] at e1⊢
  rw[if_neg q,if_pos rfl]
  exact⟨D1,rfl,a1,i1⟩
theorem oU {b l:Int}{n:Nat}(H:eQ b l n):ci n (ee b l) (aZ b l):=fun zs D hn hz hD=>by
 have hh:=H.hi;have ht:=H.top;have h1:=H.b1;have h0:=H.l0
 obtain⟨D1,e1,a1,i1⟩:=ua H false zs D hn hz hD
 have hk:=kP (y:=wAt (cy zs D) b) h0
 unfold ee
 rw[aj e1]
 unfold aZ
 simp only[Bool.false_eq_true,if_false] at *
 by_cases q:0<a7 l (wAt (cy zs D) b)
 ·have e:dJ b l (a7 l (wAt (cy zs D) b)-1)=b+a7 l (wAt (cy zs D) b):=by unfold dJ;rw[if_neg (by omega)];omega
  rw[e] at e1⊢
  rw[if_pos q,if_neg (by omega)]
  generalize a7 l (wAt (cy zs D) b)=m at *
  obtain⟨D2,e2,a2,i2⟩:=dI (n:=n) (a:=b+m) (by omega) (by omega) zs D1 hn hz i1
  obtain⟨D3,e3,a3,i3⟩:=dm (n:=n) (a:=b) (x:=m-1) (by omega) (by omega) (by unfold W64;omega) (by unfold W64;omega) zs D2 hn hz i2
  rw[aj e2,aj e3]
  refine⟨D3,?_,by rw[a3,a2,a1],i3⟩
  rw[a1]
  rfl
 ·have e:dJ b l (a7 l (wAt (cy zs D) b)-1)=0:=by unfold dJ;rw[if_pos (by omega)]
  rw[e] at e1⊢
  rw[if_neg q,if_pos rfl]
  exact⟨D1,rfl,a1,i1⟩
structure iR (ws:List Int)(b l:Int)(xs:List Int):Prop where
 cnt:wAt ws b=xs.length
 fit:(xs.length:Int)≤l
 at':∀j:Nat,j<xs.length→wAt ws (b+1+j)=xs.getD j 0
theorem iR.kept {ws:List Int}{b l:Int}{xs:List Int}(h:iR ws b l xs):a7 l (wAt ws b)=xs.length:=by
 rw[h.cnt];unfold a7;rw[if_pos ⟨by omega,h.fit⟩]
theorem qU (xs:List Int)(x:Int)(j:Nat):(xs++ [x]).getD j 0=if j=xs.length then x else xs.getD j 0:=by
 by_cases e:j=xs.length
 ·subst e;simp[List.getD]
 ·rw[if_neg e]
  by_cases q:j<xs.length
  ·simp[List.getD,List.getElem?_append,q]
  ·rw[List.getD,List.getD,List.getElem?_eq_none (show(xs++ [x]).length≤j by simp;omega),List.getElem?_eq_none (show xs.length≤j by omega)]
theorem iR.push {ws:List Int}{b l x:Int}{xs:List Int}{n:Nat}(h:iR ws b l xs)(H:eQ b l n)(hl:ws.length=n):(cL b l x ws).1=decide ((xs.length:Int)<l)∧(cL b l x ws).2.length=n∧iR (cL b l x ws).2 b l (if(xs.length:Int)<l then xs++ [x] else xs):=by
 have hh:=H.hi;have h1:=H.b1;have h0:=H.l0
 have hk:=h.kept
 unfold cL
 simp only[hk]
 by_cases q:(xs.length:Int)<l
 ·rw[if_pos q,if_pos q]
  refine⟨by simp[q],by simp[hl],?_,by simp;omega,fun j hj=>?_⟩
  ·show wAt ((ws.set _ _).set b.toNat _) b=_
   rw[dH (by omega) (by omega) (by simp;omega),if_pos rfl];simp
  ·show wAt ((ws.set _ _).set b.toNat _) (b+1+j)=_
   rw[dH (by omega) (by omega) (by simp;omega),if_neg (by omega),dH (by omega) (by omega) (by omega),qU]
   by_cases e:j=xs.length
   ·rw[if_pos (by omega),if_pos e]
   ·rw[if_neg (by omega),if_neg e]
    simp at hj
    exact h.at' j (by omega)
 ·rw[if_neg q,if_neg q]
  exact⟨by simp[q],hl,h⟩
theorem iR.pop {ws:List Int}{b l x:Int}{xs:List Int}{n:Nat}(h:iR ws b l (xs++ [x]))(H:eQ b l n)(hl:ws.length=n):(aZ b l ws).1=(x,true)∧(aZ b l ws).2.length=n∧iR (aZ b l ws).2 b l xs:=by
 have hh:=H.hi;have h1:=H.b1;have h0:=H.l0
 have hk:=h.kept
 have hf:=h.fit
 simp at hk hf
 have ha:=h.at' xs.length (by simp)
 rw[qU,if_pos rfl] at ha
 unfold aZ
 simp only[hk]
 rw[if_pos (by omega)]
 refine⟨?_,by simp[hl],?_,by omega,fun j hj=>?_⟩
 ·show(wAt ws (b+((xs.length:Int)+1)),true)=_
  rw[show b+((xs.length:Int)+1)=b+1+(xs.length:Int) by omega,ha]
 ·show wAt (ws.set b.toNat _) b=_
  rw[dH (by omega) (by omega) (by omega),if_pos rfl];omega
 ·show wAt (ws.set b.toNat _) (b+1+j)=_
  rw[dH (by omega) (by omega) (by omega),if_neg (by omega),h.at' j (by simp;omega),qU,if_neg (by omega)]
theorem iR.none {ws:List Int}{b l:Int}(h:iR ws b l []):aZ b l ws=((0,false),ws):=by
 have hk:=h.kept
 unfold aZ
 simp only[hk]
 simp
theorem ID {ws:List Int}{b l x:Int}{n:Nat}(H:eQ b l n)(hl:ws.length=n):(cL b l x ws).2.length=n∧∀i:Int,0≤i→(i<b∨b+l<i)→wAt (cL b l x ws).2 i=wAt ws i:=by
 have hh:=H.hi;have h1:=H.b1;have h0:=H.l0
 have hk:=kP (y:=wAt ws b) h0
 unfold cL
 simp only
 split
 ·refine⟨by simp[hl],fun i hi ho=>?_⟩
  show wAt ((ws.set _ _).set b.toNat _) i=_
  rw[dH (by omega) (by omega) (by simp;omega),if_neg (by omega),dH (by omega) (by omega) (by omega),if_neg (by omega)]
 ·exact⟨hl,fun i _ _=>rfl⟩
theorem Kw {ws:List Int}{b l:Int}{n:Nat}(H:eQ b l n)(hl:ws.length=n):(aZ b l ws).2.length=n∧∀i:Int,0≤i→(i<b∨b+l<i)→wAt (aZ b l ws).2 i=wAt ws i:=by
 have hh:=H.hi;have h1:=H.b1;have h0:=H.l0
 unfold aZ
 simp only
 split
 ·refine⟨by simp[hl],fun i hi ho=>?_⟩
  show wAt (ws.set b.toNat _) i=_
  rw[dH (by omega) (by omega) (by omega),if_neg (by omega)]
 ·exact⟨hl,fun i _ _=>rfl⟩
structure Fam where
 m:Nat
 b:Nat→Int
 l:Nat→Int
 k:Nat→Int
structure Fam.In (S:Fam)(lo:Int)(n:Nat):Prop where
 lo:∀i,i<S.m→lo≤S.b i∧0≤S.l i∧S.b i+S.l i<n
 ap:∀i j,i<j→j<S.m→S.b i+S.l i<S.b j
def dk (C:Nat→List Int)(i:Nat)(xs:List Int):Nat→List Int:=fun j=>if j=i then xs else C j
theorem eR (C:Nat→List Int)(i:Nat):dk C i (C i)=C:=by funext j;unfold dk;split<;>simp_all
theorem lJ (C:Nat→List Int)(i:Nat)(xs ys:List Int):dk (dk C i xs) i ys=dk C i ys:=by funext j;unfold dk;split<;>rfl
def eS (S:Fam)(C:Nat→List Int):Nat→List (Int×Int)
 | 0=> []
 |m+1=>eS S C m++(C m).map fun a=>(a,S.k m)
theorem oV (S:Fam)(C:Nat→List Int)(i:Nat)(xs:List Int):∀m,m≤i→eS S (dk C i xs) m=eS S C m
 | 0,_=>rfl
 |m+1,h=>by
  rw[eS,eS,oV S C i xs m (by omega)]
  have:dk C i xs m=C m:=by unfold dk;rw[if_neg (by omega)]
  rw[this]
theorem kQ (S:Fam)(C:Nat→List Int)(i:Nat)(xs:List Int)(x:Int):∀m,i<m→(eS S (dk C i (xs++ [x])) m).Perm ((x,S.k i)::eS S (dk C i xs) m)
 | 0,h=>by omega
 |m+1,h=>by
  rw[eS,eS]
  by_cases e:m=i
  ·subst e
   rw[oV S C m _ m (Nat.le_refl _),oV S C m _ m (Nat.le_refl _)]
   have e1:dk C m (xs++ [x]) m=xs++ [x]:=by unfold dk;rw[if_pos rfl]
   have e2:dk C m xs m=xs:=by unfold dk;rw[if_pos rfl]
   rw[e1,e2,List.map_append,←List.append_assoc]
   exact List.perm_append_comm
  ·have e1:dk C i (xs++ [x]) m=dk C i xs m:=by unfold dk;rw[if_neg e,if_neg e]
   rw[e1]
   exact(kQ S C i xs x m (by omega)).append_right _
structure FrI (us pg st:Int)(n:Nat)(S:Fam)(ws:List Int)(C:Nat→List Int)(O:List (Int×Int)):Prop where
 len:ws.length=n
 ok:OkW ws
 pgs:∃G,PgW pg st G ws
 keeps:∀i,i<S.m→iR ws (S.b i) (S.l i) (C i)
 nodup:((O++eS S C S.m).map (·.1)).Nodup
 acc:∀a k,tkC us pg st ws a=some k↔(a,k)∈O++eS S C S.m
theorem FrI.perm {us pg st:Int}{n:Nat}{S:Fam}{ws:List Int}{C:Nat→List Int}{O O':List (Int×Int)}(h:FrI us pg st n S ws C O)(p:O.Perm O'):FrI us pg st n S ws C O' :=
 ⟨h.len,h.ok,h.pgs,h.keeps,((p.append_right _).map _).nodup_iff.1 h.nodup,fun a k=>(h.acc a k).trans (p.append_right _).mem_iff⟩
theorem iR.off {ws ws':List Int}{b l:Int}{xs:List Int}(h:iR ws b l xs)(o:∀i:Int,b≤i→i≤b+l→wAt ws' i=wAt ws i):iR ws' b l xs:=by
 have hf:=h.fit
 exact⟨by rw[o b (by omega) (by omega)];exact h.cnt,h.fit,fun j hj=>by rw[o _ (by omega) (by omega)];exact h.at' j hj⟩
section
variable {us pg st:Int}{n:Nat}{S:Fam}(H:cF pg st n)(hS:S.In (a8 st pg+62) n)(hn:n≤10000)
include H hS hn
theorem BN {i:Nat}(hi:i<S.m):eQ (S.b i) (S.l i) n:=by
 have h1:=H.st1;have h4:=H.pg1
 have hc:0≤aL pg:=by unfold aL;omega
 have ht:0≤aY st:=by unfold aY;omega
 obtain⟨a1,a2,a3⟩:=hS.lo i hi
 exact⟨by unfold a8 at a1;omega,a2,a3,hn⟩
theorem ub {ws ws':List Int}(T:lW pg st ws ws'){C:Nat→List Int}(h:∀i,i<S.m→iR ws (S.b i) (S.l i) (C i)):∀i,i<S.m→iR ws' (S.b i) (S.l i) (C i):=fun i hi =>
 (h i hi).off fun j h1 h2=>T.off j (by have:=(hS.lo i hi).1;omega)
theorem FrI.grab {ws:List Int}{C:Nat→List Int}{O:List (Int×Int)}(h:FrI us pg st n S ws C O)(k:Int):
 c7 us pg st k ws=((0,false),ws)∨∃a X,c7 us pg st k ws=((a,true),X)∧0≤k∧k≤4∧us≤a∧a<us+32 * pg∧(a-us) % szV k=0∧FrI us pg st n S X C ((a,k)::O):=by
 obtain⟨G,P⟩:=h.pgs
 rcases Iz H us k P h.len with e|⟨a,G2,X,e,Q,T,k0,k4,n0,n1,no,a0,a1,a2⟩
 ·exact .inl e
 ·have hw:=pO H (qS H us k) h.len h.ok
  rw[e] at hw
  refine .inr ⟨a,X,e,k0,k4,a0,a1,a2,hw.2,hw.1,⟨G2,Q⟩,ub H hS hn T h.keeps,?_,fun b c=>?_⟩
  ·rw[List.cons_append,List.map_cons,List.nodup_cons]
   refine⟨fun z=>?_,h.nodup⟩
   obtain⟨⟨a',c⟩,hc,rfl⟩:=List.mem_map.1 z
   have:=(h.acc a' c).2 hc
   rw[n0] at this;cases this
  ·rw[List.cons_append,List.mem_cons]
   by_cases z:b=a
   ·subst z
    rw[n1]
    constructor
    ·intro q;cases q;exact .inl rfl
    ·rintro(q|q)
     ·cases q;rfl
     ·have:=(h.acc b c).2 q
      rw[n0] at this;cases this
   ·rw[no b z,h.acc b c]
    exact⟨.inr,fun q=>q.resolve_left fun y=>z (by cases y;rfl)⟩
theorem FrI.back {ws:List Int}{C:Nat→List Int}{O:List (Int×Int)}{a k:Int}(h:FrI us pg st n S ws C ((a,k)::O)):
 ∃X,ig us pg st a ws=(true,X)∧FrI us pg st n S X C O:=by
 obtain⟨G,P⟩:=h.pgs
 have ht:tkC us pg st ws a=some k:=(h.acc a k).2 (by simp)
 obtain⟨G2,X,e,Q,T,n0,no⟩:=IA H us P h.len h.ok ht
 have hw:=pO H (vS H us a) h.len h.ok
 rw[e] at hw
 have hnd:=h.nodup
 rw[List.cons_append,List.map_cons,List.nodup_cons] at hnd
 refine⟨X,e,hw.2,hw.1,⟨G2,Q⟩,ub H hS hn T h.keeps,hnd.2,fun b c=>?_⟩
 by_cases z:b=a
 ·subst z
  rw[n0]
  refine⟨(fun q=>by cases q),fun q=>?_⟩
  exact absurd (List.mem_map.2 ⟨(b,c),q,rfl⟩) hnd.1
 ·rw[no b z,h.acc b c,List.cons_append,List.mem_cons]
  exact⟨fun q=>q.resolve_left fun y=>z (by cases y;rfl),.inr⟩
theorem FrI.turn {ws X:List Int}{C:Nat→List Int}{O O':List (Int×Int)}(h:FrI us pg st n S ws C O){i:Nat}(hi:i<S.m)(hX:X.length=n)(oX:OkW X)(hoff:∀j:Int,0≤j→(j<S.b i∨S.b i+S.l i<j)→wAt X j=wAt ws j){xs:List Int}(hk:iR X (S.b i) (S.l i) xs)(hp:(O++eS S C S.m).Perm (O'++eS S (dk C i xs) S.m)):FrI us pg st n S X (dk C i xs) O':=by
 obtain⟨G,P⟩:=h.pgs
 have h1:=H.st1;have h4:=H.pg1
 have hc:0≤aL pg:=by unfold aL;omega
 have ht:0≤aY st:=by unfold aY;omega
 have hb:=hS.lo i hi
 have F:t6 pg st ws X:=⟨by rw[hX,h.len],fun j h0 hj=>hoff j h0 (.inl (by omega))⟩
 refine⟨hX,oX,⟨G,vV H F P⟩,fun j hj=>?_,(hp.map _).nodup_iff.1 h.nodup,fun a k=>?_⟩
 ·by_cases e:j=i
  ·subst e
   unfold dk;rw[if_pos rfl];exact hk
  ·unfold dk;rw[if_neg e]
   refine(h.keeps j hj).off fun x x0 x1=>hoff x (by have:=(hS.lo j hj).1;unfold a8 at this;omega) ?_
   rcases Nat.lt_or_gt_of_ne e with q|q
   ·have:=hS.ap j i q hi;omega
   ·have:=hS.ap i j q hj;omega
 ·rw[Iy H F P,h.acc a k];exact hp.mem_iff
theorem FrI.pop {ws:List Int}{C:Nat→List Int}{O:List (Int×Int)}(h:FrI us pg st n S ws C O){i:Nat}(hi:i<S.m):
 (C i= []∧aZ (S.b i) (S.l i) ws=((0,false),ws))∨∃xs x X,C i=xs++ [x]∧aZ (S.b i) (S.l i) ws=((x,true),X)∧FrI us pg st n S X (dk C i xs) ((x,S.k i)::O):=by
 have hst:=BN H hS hn hi
 have hk:=h.keeps i hi
 rcases List.eq_nil_or_concat (C i) with e|⟨xs,x,e⟩
 ·rw[e] at hk
  exact .inl ⟨e,hk.none⟩
 ·rw[List.concat_eq_append] at e
  rw[e] at hk
  obtain⟨e1,e2,e3⟩:=hk.pop hst h.len
  obtain⟨_,o2⟩:=Kw hst h.len
  have hw:=pO H (oU hst) h.len h.ok
  refine .inr ⟨xs,x,(aZ (S.b i) (S.l i) ws).2,e,by rw[←e1],h.turn H hS hn hi hw.2 hw.1 o2 e3 ?_⟩
  have:=kQ S C i xs x S.m hi
  rw[←e,eR] at this
  refine(this.append_left O).trans ?_
  rw[List.cons_append]
  exact List.perm_middle
theorem FrI.push {ws:List Int}{C:Nat→List Int}{O:List (Int×Int)}{i:Nat}{a:Int}(hi:i<S.m)(h:FrI us pg st n S ws C ((a,S.k i)::O))(ha:W64 a):
 (((C i).length:Int)<S.l i∧∃X,cL (S.b i) (S.l i) a ws=(true,X)∧FrI us pg st n S X (dk C i (C i++ [a])) O)∨(S.l i≤((C i).length:Int)∧cL (S.b i) (S.l i) a ws=(false,ws)):=by
 have hst:=BN H hS hn hi
 have hk:=h.keeps i hi
 obtain⟨e1,e2,e3⟩:=hk.push (x:=a) hst h.len
 obtain⟨_,o2⟩:=ID (x:=a) hst h.len
 by_cases hl:((C i).length:Int)<S.l i
 ·rw[if_pos hl] at e3
  have hw:=pO H (rv hst ha) h.len h.ok
  refine .inl ⟨hl,(cL (S.b i) (S.l i) a ws).2,?_,h.turn H hS hn hi hw.2 hw.1 o2 e3 ?_⟩
  ·have:(cL (S.b i) (S.l i) a ws).1=true:=by rw[e1];simpa using hl
   rw[←this]
  ·have:=kQ S C i (C i) a S.m hi
   rw[eR] at this
   refine List.Perm.trans ?_ (this.append_left O).symm
   rw[List.cons_append]
   exact List.perm_middle.symm
 ·refine .inr ⟨by omega,?_⟩
  have hk2:=hk.kept
  have hf:=hk.fit
  unfold cL
  simp only[hk2]
  rw[if_neg hl]
end
def famC (d:Cfg):Fam where
 m:=5 * d.cp.toNat+5
 b:=fun i=>if i<5 * d.cp.toNat then du d.st d.pg+i * (d.ca+1) else fX d.cp d.pg d.st d.ca+((i:Int)-5 * d.cp) * (d.bi+1)
 l:=fun i=>if i<5 * d.cp.toNat then d.ca else d.bi
 k:=fun i=>(i % 5:Nat)
theorem BO (d:Cfg)(i:Nat):(famC d).b i=if i<5 * d.cp.toNat then du d.st d.pg+i * (d.ca+1) else fX d.cp d.pg d.st d.ca+((i:Int)-5 * d.cp) * (d.bi+1):=rfl
theorem IE (d:Cfg)(i:Nat):(famC d).l i=if i<5 * d.cp.toNat then d.ca else d.bi:=rfl
theorem gK {d:Cfg}{u c:Nat}(hu:(u:Int)<d.cp)(hc:c<5):5 * u+c<(famC d).m∧(famC d).b (5 * u+c)=fF d.cp d.pg d.st d.ca u c∧(famC d).l (5 * u+c)=d.ca∧(famC d).k (5 * u+c)=c:=by
 have h:5 * u+c<5 * d.cp.toNat:=by omega
 refine⟨by show _<5 * d.cp.toNat+5;omega,?_,?_,?_⟩
 ·show(if _ then _ else _)=_
  rw[if_pos h]
  unfold fF
  rw[if_pos (by omega)]
  simp
 ·show(if _ then _ else _)=_
  rw[if_pos h]
 ·show(((5 * u+c) % 5:Nat):Int)=_
  omega
theorem j5 {d:Cfg}{c:Nat}(hp:0≤d.cp)(hc:c<5):5 * d.cp.toNat+c<(famC d).m∧(famC d).b (5 * d.cp.toNat+c)=oz d.cp d.pg d.st d.ca d.bi c∧(famC d).l (5 * d.cp.toNat+c)=d.bi∧(famC d).k (5 * d.cp.toNat+c)=c:=by
 have h:¬(5 * d.cp.toNat+c<5 * d.cp.toNat):=by omega
 refine⟨by show _<5 * d.cp.toNat+5;omega,?_,?_,?_⟩
 ·show(if _ then _ else _)=_
  rw[if_neg h]
  unfold oz
  rw[if_pos (by omega)]
  congr 2
  omega
 ·show(if _ then _ else _)=_
  rw[if_neg h]
 ·show(((5 * d.cp.toNat+c) % 5:Nat):Int)=_
  omega
theorem mR {d:Cfg}(R:d.Ok){n:Nat}(hn:(n:Int)=d.words):(famC d).In (a8 d.st d.pg+62) n:=by
 have h1:=R.cp1;have h2:=R.ca1;have h3:=R.bi1
 have hl:=sw R;have hu:=nZ R;have hp:=R.pg1
 have hcp:((d.cp.toNat:Nat):Int)=d.cp:=by omega
 have top:eK d.cp d.pg d.st d.ca d.bi<n:=by
  rw[hn]
  show _<eY d.cp d.pg d.st d.ca d.bi
  unfold eY
  omega
 have p5:=qn R
 -- steps of the caches,and of the bins
 have s1:∀i:Nat,i<5 * d.cp.toNat→(i:Int) * (d.ca+1)+d.ca+1≤5 * d.cp * (d.ca+1)∧0≤(i:Int) * (d.ca+1):=fun i hi=>by
  have:((i:Int)+1) * (d.ca+1)≤5 * d.cp * (d.ca+1):=Int.mul_le_mul_of_nonneg_right (by omega) (by omega)
  have e:((i:Int)+1) * (d.ca+1)=(i:Int) * (d.ca+1)+d.ca+1:=by rw[Int.add_mul];omega
  exact⟨by omega,Int.mul_nonneg (by omega) (by omega)⟩
 have s2:∀j:Int,0≤j→j<5→j * (d.bi+1)+d.bi+1≤5 * (d.bi+1)∧0≤j * (d.bi+1):=fun j h0 hj=>by
  have:(j+1) * (d.bi+1)≤5 * (d.bi+1):=Int.mul_le_mul_of_nonneg_right (by omega) (by omega)
  have e:(j+1) * (d.bi+1)=j * (d.bi+1)+d.bi+1:=by rw[Int.add_mul];omega
  exact⟨by omega,Int.mul_nonneg (by omega) (by omega)⟩
 refine⟨fun i hi=>?_,fun i j hij hj=>?_⟩
 ·have hi:i<5 * d.cp.toNat+5:=hi
  rw[BO,IE]
  by_cases q:i<5 * d.cp.toNat
  ·rw[if_pos q,if_pos q]
   obtain⟨a,b⟩:=s1 i q
   unfold eK fX at top
   unfold du at *
   refine⟨by omega,h2,by omega⟩
  ·rw[if_neg q,if_neg q]
   obtain⟨a,b⟩:=s2 ((i:Int)-5 * d.cp) (by omega) (by omega)
   unfold eK at top
   have:du d.st d.pg≤fX d.cp d.pg d.st d.ca:=by unfold fX;omega
   have e:du d.st d.pg=a8 d.st d.pg+62:=rfl
   refine⟨by omega,h3,by omega⟩
 ·have hj:j<5 * d.cp.toNat+5:=hj
  rw[BO,IE,BO]
  by_cases q:j<5 * d.cp.toNat
  ·have qi:i<5 * d.cp.toNat:=by omega
   rw[if_pos qi,if_pos qi,if_pos q]
   have:((i:Int)+1) * (d.ca+1)≤(j:Int) * (d.ca+1):=Int.mul_le_mul_of_nonneg_right (by omega) (by omega)
   have e:((i:Int)+1) * (d.ca+1)=(i:Int) * (d.ca+1)+d.ca+1:=by rw[Int.add_mul];omega
   omega
  ·rw[if_neg q]
   by_cases qi:i<5 * d.cp.toNat
   ·rw[if_pos qi,if_pos qi]
    obtain⟨a,b⟩:=s1 i qi
    obtain⟨c1,c2⟩:=s2 ((j:Int)-5 * d.cp) (by omega) (by omega)
    unfold fX
    omega
   ·rw[if_neg qi,if_neg qi]
    have:((i:Int)-5 * d.cp+1) * (d.bi+1)≤((j:Int)-5 * d.cp) * (d.bi+1):=Int.mul_le_mul_of_nonneg_right (by omega) (by omega)
    have e:((i:Int)-5 * d.cp+1) * (d.bi+1)=((i:Int)-5 * d.cp) * (d.bi+1)+d.bi+1:=by rw[Int.add_mul];omega
    omega
theorem Fj {d:Cfg}(R:d.Ok){n:Nat}(H:cF d.pg d.st n)(hn:(n:Int)=d.words)(us:Int):FrI us d.pg d.st n (famC d) (cQ n) (fun _=> []) []:=by
 have hk:∀m,eS (famC d) (fun _=> []) m= []:=by
  intro m
  induction m with
  |zero=>rfl
  |succ m ih=>rw[eS,ih];rfl
 have hz:∀i:Int,wAt (cQ n) i=0:=fun i=>by
  unfold wAt cQ
  simp only[List.getD,List.getElem?_replicate]
  split<;>rfl
 refine⟨kD n,gF n,⟨_,vU H⟩,fun i hi=>⟨by rw[hz];rfl,((mR R hn).lo i hi).2.1,fun j hj=>by simp at hj⟩,by rw[hk];exact List.nodup_nil,fun a k=>?_⟩
 rw[hk,Fi H us a]
 exact⟨(fun q=>by cases q),(fun q=>by cases q)⟩
theorem en1 (w:World)(o0:Obj):∃w1,w.alloc o0=w1∧w1.heap[w.heap.size]?=some o0∧ae w w1∧w1.heap.size=w.heap.size+1:=⟨_,rfl,bz w o0,(ae.refl _).alloc _,by simp⟩
theorem en2 (w:World)(o0 o1:Obj):∃w2,(w.alloc o0).alloc o1=w2∧w2.heap[w.heap.size]?=some o0∧w2.heap[w.heap.size+1]?=some o1∧ae w w2∧w2.heap.size=w.heap.size+2:=by
 obtain⟨w1,e1,h0,m0,s0⟩:=en1 w o0
 rw[e1]
 obtain⟨w2,e2,h1,m1,s1⟩:=en1 w1 o1
 rw[s0] at h1
 exact⟨w2,e2,m1.block h0,h1,m0.trans m1,by omega⟩
def Rd (w:World)(v:Value)(xs:List Int):Prop :=
 ∃a cap,v=.slice a xs.length cap∧xs.length≤cap∧cap≤maxLen∧((a=none∧cap=0)∨∃g cur,a=some ⟨g,0,none⟩∧w.heap[g]?=some (.cells cur 3 (0,0))∧cap≤cur.size∧cur.toList.take xs.length=xs.map (Value.int .i64))
namespace Rd
variable {w w':World}{v:Value}{xs:List Int}
theorem nil (w:World):Rd w (.slice none 0 0) []:=⟨none,0,rfl,Nat.le_refl _,Nat.zero_le _,.inl ⟨rfl,rfl⟩⟩
theorem keep (h:Rd w v xs){S:Nat→Prop}(t:Turned S w w')(hs:∀k,S k→∃cs T fr,w.heap[k]?=some (.cells cs T fr)∧T≠3):Rd w' v xs:=by
 obtain⟨a,cap,hv,h1,h2,q⟩:=h
 refine⟨a,cap,hv,h1,h2,q.imp id ?_⟩
 rintro⟨g,cur,rfl,hg,r⟩
 refine⟨g,cur,rfl,?_,r⟩
 rw[t.block g (ac hg) (fun q=>by
  obtain⟨cs,T,fr,e,hne⟩:=hs g q
  rw[hg] at e;cases e;exact hne rfl)]
 exact hg
theorem more (h:Rd w v xs)(m:ae w w'):Rd w' v xs:=h.keep m (fun _ q=>q.elim)
theorem of_rw {base:Nat}(h:Rw base w v xs):Rd w v xs:=by
 rcases h.2 with⟨rfl,h0⟩|⟨g,cap,cur,rfl,_,hg,h1,h2,hs,ht⟩
 ·have:xs= []:=List.length_eq_zero_iff.1 h0
  subst this;exact nil w
 ·exact⟨_,cap,rfl,h1,h2,.inr ⟨g,cur,rfl,hg,by omega,by simpa using ht⟩⟩
theorem one (h:Rd w v xs):v.oneCell'=true:=by obtain⟨a,cap,rfl,_⟩:=h;rfl
theorem news (h:Rd w v xs):∃a cap,v=.slice a xs.length cap∧∀p,a=some p→∀j u,(xs.map (Value.int .i64))[j]?=some u→w.cell? (p.add j)=some u:=by
 obtain⟨a,cap,rfl,h1,h2,q⟩:=h
 refine⟨a,cap,rfl,fun p hp j u hj=>?_⟩
 rcases q with⟨rfl,rfl⟩|⟨g,cur,rfl,hg,hc,ht⟩
 ·cases hp
 ·cases hp
  rw[js]
  have hj':=(List.getElem?_eq_some_iff.1 hj).1
  simp at hj'
  rw[←ht,List.getElem?_take,if_pos hj'] at hj
  simp[World.cell?,hg]
  simpa using hj
theorem cell (h:Rd w v xs):∃a cap,v=.slice a xs.length cap∧xs.length≤cap∧∀k,k<xs.length→∃g,a=some ⟨g,0,none⟩∧w.cell? ⟨g,k,none⟩=some (.int .i64 (xs.getD k 0)):=by
 obtain⟨a,cap,hv,h1,h2,q⟩:=h
 refine⟨a,cap,hv,h1,fun k hk=>?_⟩
 rcases q with⟨rfl,rfl⟩|⟨g,cur,rfl,hg,hc,ht⟩
 ·omega
 ·refine⟨g,rfl,?_⟩
  have e:(cur.toList.take xs.length)[k]?=some (.int .i64 (xs.getD k 0)):=by rw[ht];simp[List.getElem?_eq_getElem hk]
  rw[List.getElem?_take,if_pos hk] at e
  simp[World.cell?,hg]
  simpa using e
theorem first (h:Rd w v xs){n:Nat}(hn:n≤xs.length):∃a,(∃cap,v=.slice a xs.length cap∧n≤cap∧(a=none→cap=0))∧Rd w (.slice a n n) (xs.take n):=by
 obtain⟨a,cap,rfl,h1,h2,q⟩:=h
 have hl:(xs.take n).length=n:=by simp;omega
 refine⟨a,⟨cap,rfl,by omega,?_⟩,a,n,by rw[hl],by omega,by omega,?_⟩
 ·rintro rfl
  rcases q with q|⟨g,cur,e,_⟩
  ·exact q.2
  ·cases e
 ·rcases q with⟨rfl,rfl⟩|⟨g,cur,rfl,hg,hc,ht⟩
  ·exact .inl ⟨rfl,by omega⟩
  ·refine .inr ⟨g,cur,rfl,hg,by omega,?_⟩
   rw[hl,List.map_take,←ht,List.take_take,Nat.min_eq_left hn]
end Rd
def puA (f:Nat→Value):Array Value:= #[f 0,f 1,f 2,f 3,f 4]
theorem BT (f:Nat→Value){c:Nat}(hc:c<5):(puA f)[c]?=some (f c):=by
 match c,hc with
 | 0,_=>rfl
 | 1,_=>rfl
 | 2,_=>rfl
 | 3,_=>rfl
 | 4,_=>rfl
def jO (f:Nat→Value)(c:Nat)(v:Value):Nat→Value:=fun k=>if k=c then v else f k
theorem Dv (f:Nat→Value){c:Nat}(hc:c<5)(v:Value):(puA f).setIfInBounds c v=puA (jO f c v):=by
 match c,hc with
 | 0,_=>rfl
 | 1,_=>rfl
 | 2,_=>rfl
 | 3,_=>rfl
 | 4,_=>rfl
def Pu (w:World)(f:Nat→Value)(P:Nat→List Int):Prop:=∀c,c<5→Rd w (f c) (P c)
theorem Pu.more {w w':World}{f:Nat→Value}{P:Nat→List Int}(h:Pu w f P)(m:ae w w'):Pu w' f P:=fun c hc=>(h c hc).more m
theorem Pu.keep {w w':World}{f:Nat→Value}{P:Nat→List Int}(h:Pu w f P){S:Nat→Prop}(t:Turned S w w')(hs:∀k,S k→∃cs T fr,w.heap[k]?=some (.cells cs T fr)∧T≠3):Pu w' f P:=fun c hc=>(h c hc).keep t hs
theorem Pu.all1 {w:World}{f:Nat→Value}{P:Nat→List Int}(h:Pu w f P):(puA f).all (·.oneCell')=true:=by
 simp[puA,(h 0 (by omega)).one,(h 1 (by omega)).one,(h 2 (by omega)).one,(h 3 (by omega)).one,(h 4 (by omega)).one]
theorem kR {w:World}{g:Nat}{f:Nat→Value}{T:TypeId}(h:w.heap[g]?=some (.cells (puA f) T (0,0))){c:Nat}(hc:c<5):w.cell? ⟨g,c,none⟩=some (f c):=by
 rw[cell_of_row w _ _ _ _ _ h];exact BT f hc
def jh (c:Int):Bool:=decide (0≤c) && decide (c<5)
theorem mS {c:Int}(h:jh c=true):∃k:Nat,c=k∧k<5:=by
 simp[jh] at h
 exact⟨c.toNat,by omega,by omega⟩
theorem xC {k:Nat}(h:k<5):jh k=true:=by simp[jh];omega
theorem nN (c:Int)(w:World):Calls Tryz.prog 52 #[.int .i64 c] w (aQ w (.bool (jh c))):=by
 by_cases h0:0≤c
 ·have d0:decide (0≤c)=true:=by simp[h0]
  go_enter Tryz.func52,Tryz.ntmps52
  go_wp2_with fail
  go_ret
  exact⟨by simp[jh,d0],ae.refl _⟩
 ·have d0:decide (0≤c)=false:=by simp;omega
  go_enter Tryz.func52,Tryz.ntmps52
  go_wp2_with fail
  go_ret
  exact⟨by simp[jh,d0],ae.refl _⟩
def cP (P:Nat→List Int)(c:Int):Int:=if jh c then(P c.toNat).length else 0
theorem om (f:Nat→Value)(P:Nat→List Int)(c:Int)(w:World)(h:Pu w f P):Calls Tryz.prog 21 #[.agg (puA f),.int .i64 c] w (aQ w (.int .i64 (cP P c))):=by
 obtain⟨w1,e1,hl1,m1,s1⟩:=en1 w (.cells (puA f) 32)
 have L0:=hQQ hl1
 have M1:=hQQ m1
 have HP:=hQQ (h.more m1)
 clear m1 h s1
 cases hc:jh c with
 |false =>
  have C:=hQQ (fun W=>nN c W)
  rw[hc] at C
  have FIN:cP P c=0:=by simp[cP,hc]
  rw[FIN]
  clear hc FIN hl1 HP
  go_enter Tryz.func21,Tryz.ntmps21
  go_wp2_with fail
  refine(C.o w1).mono ?_
  rintro e w2 ⟨rfl,h2⟩
  have M2:=hQQ (M1.o.trans h2)
  clear h2
  go_wp2_with fail
  go_ret
  exact⟨rfl,M2.o⟩
 |true =>
  obtain⟨k,rfl,hk⟩:=mS hc
  have C:=hQQ (fun W=>nN k W)
  rw[hc] at C
  have FIN:cP P k=(P k).length:=by simp[cP,hc]
  rw[FIN]
  have hm:=hQQ hk
  obtain⟨a,cap,hf,_,_⟩:=HP.o k hk
  have X:Hq (∀W,ae w1 W→W.cell? ⟨w.heap.size,k,none⟩=some (.slice a (P k).length cap)):=hQQ fun W hW=>(kR (hW.block L0.o) hk).trans (by rw[hf])
  clear hc FIN hl1 HP hf
  go_enter Tryz.func21,Tryz.ntmps21
  go_wp2_with fail
  refine(C.o w1).mono ?_
  rintro e w2 ⟨rfl,h2⟩
  have M2:=hQQ (M1.o.trans h2)
  have x1:=X.o w2 h2
  clear h2
  go_wp2_with fail
  go_ret
  exact⟨rfl,M2.o⟩
theorem zJ {ops:Array Oper}{rest:List Oper}{o:Oper}{a:Act}{Q:Exit→Act→World→Prop}{w:World}{b:Option Addr}{xs:List Int}(y:Int)(n:Nat)(hgd:o.guard=none)(s x:Operand)
 (ho:o.op=.call { callee:= .builtin .append,args:= #[s,x],argTypes:= #[29,29] })
 (hs:a.eval s=.slice b n n) (hn:Rd w (.slice b n n) xs) (hl:xs.length≤1000000) (hnl:xs.length=n)
 (hx:a.eval x=.slice (some ⟨w.heap.size,0,none⟩) 1 1)
 (h:∀g cap w',w.heap.size≤g→Rd w' (.slice (some ⟨g,0,none⟩) (n+1) cap) (xs++ [y])→ae w w'→wpList Tryz.prog ops Q rest (a.put o.dst (.slice (some ⟨g,0,none⟩) (n+1) cap)) w'):wpList Tryz.prog ops Q (o::rest) a (w.alloc (.cells #[.int .i64 y] 3)):=by
 obtain⟨i,i1,i2,i3,i4⟩:=kB
 have hn':=hn.more ((ae.refl w).alloc (.cells #[.int .i64 y] 3))
 have hW:ae w (w.alloc (.cells #[.int .i64 y] 3)):=(ae.refl w).alloc _
 have hB:=bz w (.cells #[.int .i64 y] 3)
 have hsz:w.heap.size≤(w.alloc (.cells #[.int .i64 y] 3)).heap.size:=by simp
 generalize w.alloc (.cells #[.int .i64 y] 3)=w1 at hn' hB hW hsz⊢
 refine wpList_plain hgd fun K hK=>?_
 have hsrc:Src Tryz.prog i.size 29 (.slice (some ⟨w.heap.size,0,none⟩) 1 1) 1 [.int .i64 y] w1:=Src.ofSlice w1 Tryz.underlying29 _ 1 1 _ (by simp[i3]) (fun j u hu=>World.news_of_block hB j u (by simpa using hu)) (by intro u hu;simp at hu;subst hu;rfl)
 obtain⟨a',cap',e',hnews⟩:=hn'.news
 have hold:(Builtin.firstCells i.size n (.slice b n n)).run Tryz.prog w1.drew=.ok (xs.map (Value.int .i64)).toArray w1.drew:=by
  cases b with
  |none =>
   obtain⟨a0,c0,q1,q2,q3,q4⟩:=hn
   cases q1
   rcases q4 with⟨_,q⟩|⟨g,cur,q,_⟩
   ·have:xs= []:=List.length_eq_zero_iff.1 (by omega)
    subst this
    exact run_firstCells_none _ _ _ _ _
   ·cases q
  |some p =>
   cases e'
   exact run_firstCells_some w1.drew i.size _ p _ _ _ (by simp[i3]) (fun j u hu=>by rw[World.cell?_of_block (w:=w1) (w':=w1.drew) rfl];exact hnews p rfl j u hu)
 have hr:=run_append_grow_src (P:=Tryz.prog) w1 29 29 o.type 3 i _ Tryz.underlying29 i1 i2 b n n _ hold _ 1 _ hsrc (by omega) (by omega) (growslice_fits (by omega) (by rw[i4];omega))
 unfold Oper.wp execOp
 simp only[ho,resolve,invoke,builtin,Sem.run_bind,Sem.run_pure,Result.andThen_ok,List.map_toArray,List.map_cons,List.map_nil,hs,hx,hr]
 refine hK _ _ (h w1.heap.size _ _ hsz ?_ ((hW.drew).alloc _))
 have hge:=grownCap_ge w1 (n+1) n 3
 have hle:=grownCap_le_maxLen w1 (n+1) n 3 (by simp only[maxLen];omega)
 refine⟨_,_,by rw[List.length_append,hnl];rfl,by simp[hnl];omega,hle,.inr ⟨_,_,rfl,bz w1.drew _,?_,?_⟩⟩
 ·simp[size_zeroCells,Value.cells,hnl];omega
 ·have e2:(xs++ [y]).length=(xs.map (Value.int .i64)++ [Value.int .i64 y]).length:=by simp
  have e3:(xs++ [y]).map (Value.int .i64)=xs.map (Value.int .i64)++ [.int .i64 y]:=by simp
  rw[Array.toList_append,e3,e2]
  exact List.take_left' rfl
theorem uS {ops:Array Oper}{rest:List Oper}{o:Oper}{a:Act}{Q:Exit→Act→World→Prop}{w wa:World}{v u:Value}{xs ys:List Int}(hgd:o.guard=none)(s x:Operand)
 (ho:o.op=.call { callee:= .builtin .append,args:= #[s,x],argTypes:= #[29,29] })
 (hs:a.eval s=v) (hn:Rw wa.heap.size w v xs) (hW:ae wa w) (hl:xs.length+ys.length≤1000000)
 (hx:a.eval x=u) (hu:Rd w u ys)
 (h:∀v' w',Rw wa.heap.size w' v' (xs++ys)→ae wa w'→wpList Tryz.prog ops Q rest (a.put o.dst v') w'):wpList Tryz.prog ops Q (o::rest) a w:=by
 obtain⟨i,i1,i2,i3,i4⟩:=kB
 obtain⟨ad,cap,rfl,hnews⟩:=hu.news
 cases ad with
 |none =>
  have:ys= []∧cap=0:=by
   obtain⟨a0,c0,q1,q2,q3,q4⟩:=hu
   cases q1
   rcases q4 with⟨_,q⟩|⟨g,cur,q,_⟩
   ·exact⟨List.length_eq_zero_iff.1 (by omega),q⟩
   ·cases q
  obtain⟨rfl,rfl⟩:=this
  refine wpList_append_own_none hgd s x 29 ho wa.heap.size 3 i 1 Tryz.underlying29 i1 v xs.length _ hs hn hx ?_
  have:=h v w (by simpa using hn) hW
  exact this
 |some p =>
  refine wpList_append_own_at (P:=Tryz.prog) w hgd s x 29 ho wa.heap.size 3 i _ 1 8 Tryz.underlying29 i1 i2 i3 i4 rfl (by omega) v xs.length _ hs hn p ys.length cap (ys.map (Value.int .i64)) hx (by simp)
   (hnews p rfl) (by intro u hu;obtain⟨y,_,rfl⟩:=List.mem_map.1 hu;rfl) (by simp only[maxLen];omega) (by omega) hW.size ?_
  intro v' w1 hown hgrow _ _
  refine h v' w1 ?_ (uM hW hn hgrow)
  unfold Rw
  rw[List.length_append,List.map_append]
  exact hown
theorem xD {P:Program}{fn:Func}{p u:Tmp}{ty:TypeId}(h:fn.results= #[.cell p ty,.tmp u])(tmps:Array Value)(w:World)(g:Nat)(t:TypeId)(cs:Array Value)(fr:Nat×Nat)(d:TypeDesc)
 (hp:tmps.getD p undef=.pointer (some ⟨g,0,none⟩)) (hg:w.heap[g]?=some (.cells cs t fr))
 (hu:P.underlying ty=some d) (hd:(match d with| .struct _| .array _ _=>true|_=>false)=true) (hi:(P.info? ty).map (·.size)=some cs.size):
 (results fn tmps).run P w=.ok (.tuple #[.agg cs,tmps.getD u undef]) w:=by
 rw[results_cell_tmp h,hp]
 simp[asAddr,run_loadVar_row w g t ty cs fr d hg hu hd hi]
def dX (P:Nat→List Int)(c l:Int):Bool:=jh c && decide (cP P c<l)
def ed (P:Nat→List Int)(c a l:Int):Nat→List Int:=if dX P c l then(fun k=>if k=c.toNat then P k++ [a] else P k) else P
theorem dR (P:Nat→List Int){k:Nat}(hk:k<5):cP P k=(P k).length:=by simp[cP,xC hk]
theorem Dw (P:Nat→List Int){c:Int}(hc:jh c=false):cP P c=0:=by simp[cP,hc]
def gY (P:Nat→List Int)(c:Int):Bool:=decide (0<cP P c)
def iv (P:Nat→List Int)(c:Int):Int:=if gY P c then(P c.toNat).getD ((P c.toNat).length-1) 0 else 0
def ib (P:Nat→List Int)(c:Int):Nat→List Int:=if gY P c then(fun k=>if k=c.toNat then(P k).take ((P k).length-1) else P k) else P
theorem se {P:Program}{fn:Func}{p u u':Tmp}{ty:TypeId}(h:fn.results= #[.cell p ty,.tmp u,.tmp u'])(tmps:Array Value)(w:World)(g:Nat)(t:TypeId)(cs:Array Value)(fr:Nat×Nat)(d:TypeDesc)
 (hp:tmps.getD p undef=.pointer (some ⟨g,0,none⟩)) (hg:w.heap[g]?=some (.cells cs t fr))
 (hu:P.underlying ty=some d) (hd:(match d with| .struct _| .array _ _=>true|_=>false)=true) (hi:(P.info? ty).map (·.size)=some cs.size):
 (results fn tmps).run P w=.ok (.tuple #[.agg cs,tmps.getD u undef,tmps.getD u' undef]) w:=by
 have hp':tmps[p]?.getD undef=.pointer (some ⟨g,0,none⟩):=by simpa using hp
 simp[results,h,hp',asAddr,run_loadVar_row w g t ty cs fr d hg hu hd hi]
def Dx:Fam:=⟨5,fun _=>0,fun _=>0,fun i=>(i:Int)⟩
def puO (P:Nat→List Int):List (Int×Int):=eS Dx P 5
theorem zK (P:Nat→List Int){k:Nat}(hk:k<5)(a:Int):(puO (dk P k (P k++ [a]))).Perm ((a,(k:Int))::puO P):=by
 have:=kQ Dx P k (P k) a 5 hk
 rw[eR] at this
 exact this
theorem Dy (P:Nat→List Int){k:Nat}(hk:k<5){xs:List Int}{x:Int}(e:P k=xs++ [x]):(puO P).Perm ((x,(k:Int))::puO (dk P k xs)):=by
 have:=kQ Dx P k xs x 5 hk
 rw[←e,eR] at this
 exact this
theorem kS (P:Nat→List Int){k:Nat}(hk:k<5)(a:Int){lim:Int}(h:((P k).length:Int)<lim):ed P k a lim=dk P k (P k++ [a]):=by
 have hb:dX P k lim=true:=by simp[dX,xC hk,dR P hk];omega
 unfold ed
 rw[if_pos hb]
 funext j
 unfold dk
 by_cases e:j=k
 ·subst e;simp
 ·simp[e]
theorem j6 (P:Nat→List Int){k:Nat}(hk:k<5){xs:List Int}{x:Int}(e:P k=xs++ [x]):gY P k=true∧iv P k=x∧ib P k=dk P k xs:=by
 have hb:gY P k=true:=by simp[gY,dR P hk,e]
 refine⟨hb,?_,?_⟩
 ·unfold iv;rw[if_pos hb];simp[e]
 ·unfold ib
  rw[if_pos hb]
  funext j
  unfold dk
  by_cases z:j=k
  ·subst z;simp[e]
  ·simp[z]
theorem pR (P:Nat→List Int){k:Nat}(hk:k<5)(e:P k= []):gY P k=false:=by simp[gY,dR P hk,e]
section
variable (us pg st:Int)(S:Fam)(i0 i1:Nat)
def i9 (k:Int):Nat→List Int→(Int×Bool)×List Int
 | 0,ws=>aZ (S.b i0) (S.l i0) ws
 | 1,ws=>aZ (S.b i1) (S.l i1) ws
 | 2,ws=>if jg pg st k ws then c7 us pg st k ws else((0,false),ws)
 | _,ws=>c7 us pg st k ws
def gh (k kind:Nat)(lim:Int):Nat→(Nat→List Int)→List Int→(Nat→List Int)×List Int
 | 0,P,ws=>(P,ws)
 |m+1,P,ws=>if(i9 us pg st S i0 i1 k kind ws).1.2 then gh k kind lim m (ed P k (i9 us pg st S i0 i1 k kind ws).1.1 lim) (i9 us pg st S i0 i1 k kind ws).2 else(P,(i9 us pg st S i0 i1 k kind ws).2)
def iT (ws:List Int):Nat:=if 0<a7 (S.l i0) (wAt ws (S.b i0)) then 0 else if 0<a7 (S.l i1) (wAt ws (S.b i1)) then 1 else 2
def ja (kind:Nat):Nat:=if kind=2 then 3 else kind
def fQ (k:Nat)(lim:Int)(m:Nat)(P:Nat→List Int)(ws:List Int):((Int×Bool)×(Nat→List Int))×List Int :=
 if gY P k then(((iv P k,true),ib P k),ws)
 else if(i9 us pg st S i0 i1 k (ja (iT S i0 i1 ws)) ws).1.2 then
  ((((i9 us pg st S i0 i1 k (ja (iT S i0 i1 ws)) ws).1.1,true),(gh us pg st S i0 i1 k (iT S i0 i1 ws) lim m P (i9 us pg st S i0 i1 k (ja (iT S i0 i1 ws)) ws).2).1),(gh us pg st S i0 i1 k (iT S i0 i1 ws) lim m P (i9 us pg st S i0 i1 k (ja (iT S i0 i1 ws)) ws).2).2)
 else(((0,false),P),(i9 us pg st S i0 i1 k (ja (iT S i0 i1 ws)) ws).2)
def ud (a:Int)(ws:List Int):List Int :=
 if(cL (S.b i0) (S.l i0) a ws).1 then(cL (S.b i0) (S.l i0) a ws).2
 else if(cL (S.b i1) (S.l i1) a (cL (S.b i0) (S.l i0) a ws).2).1 then(cL (S.b i1) (S.l i1) a (cL (S.b i0) (S.l i0) a ws).2).2
 else(ig us pg st a (cL (S.b i1) (S.l i1) a (cL (S.b i0) (S.l i0) a ws).2).2).2
def j7 (k:Nat):Nat→(Nat→List Int)→List Int→(Nat→List Int)×List Int
 | 0,P,ws=>(P,ws)
 |m+1,P,ws=>if gY P k then j7 k m (ib P k) (ud us pg st S i0 i1 (iv P k) ws) else(P,ws)
def vW (k:Nat)(lim:Int)(m:Nat)(a:Int)(P:Nat→List Int)(ws:List Int):(Nat→List Int)×List Int :=
 if lim≤((P k).length:Int) then(ed (j7 us pg st S i0 i1 k m P ws).1 k a lim,(j7 us pg st S i0 i1 k m P ws).2) else(ed P k a lim,ws)
end
def jb (us pg st:Int):List Int→List Int→List Int
 | [],ws=>ws
 |a::t,ws=>(ig us pg st a (jb us pg st t ws)).2
def qV (us pg st:Int)(P:Nat→List Int)(ws:List Int):List Int:=jb us pg st (P 4) (jb us pg st (P 3) (jb us pg st (P 2) (jb us pg st (P 1) (jb us pg st (P 0) ws))))
def iH (us pg st b l:Int):Nat→List Int→List Int
 | 0,ws=>ws
 |m+1,ws=>if(aZ b l ws).1.2 then iH us pg st b l m (ig us pg st (aZ b l ws).1.1 (aZ b l ws).2).2 else ws
def oW (us pg st:Int)(S:Fam):Nat→List Int→List Int
 | 0,ws=>ws
 |m+1,ws=>iH us pg st (S.b m) (S.l m) ((S.l m).toNat+1) (oW us pg st S m ws)
section
variable {us pg st:Int}{n:Nat}{S:Fam}(H:cF pg st n)(hS:S.In (a8 st pg+62) n)(hn:n≤10000)(hu:0≤us∧us+32 * pg≤1000000)
include H hS hn hu
theorem Kx {ws:List Int}{C:Nat→List Int}{O:List (Int×Int)}(h:FrI us pg st n S ws C O){a k:Int}(hm:(a,k)∈O):W64 a:=by
 obtain⟨G,P⟩:=h.pgs
 obtain⟨a0,a1,_⟩:=BJ H P ((h.acc a k).2 (List.mem_append_left _ hm))
 exact⟨by omega,by omega⟩
variable {i0 i1 k:Nat}(h0:i0<S.m)(h1:i1<S.m)(hk:k<5)(k0:S.k i0=k)(k1:S.k i1=k)
include h0 h1 hk k0 k1
theorem Dz (kind:Nat){ws:List Int}{C:Nat→List Int}{O:List (Int×Int)}(h:FrI us pg st n S ws C O):
 i9 us pg st S i0 i1 k kind ws=((0,false),ws)∨∃a X C',i9 us pg st S i0 i1 k kind ws=((a,true),X)∧FrI us pg st n S X C' ((a,(k:Int))::O):=by
 have gr:c7 us pg st k ws=((0,false),ws)∨∃a X C',c7 us pg st k ws=((a,true),X)∧FrI us pg st n S X C' ((a,(k:Int))::O):=by
  rcases h.grab H hS hn k with e|⟨a,X,e,_,_,_,_,_,h'⟩
  ·exact .inl e
  ·exact .inr ⟨a,X,C,e,h'⟩
 match kind with
 | 0 =>
   rcases h.pop H hS hn h0 with⟨_,e⟩|⟨xs,x,X,_,e,h'⟩
   ·exact .inl e
   ·rw[k0] at h';exact .inr ⟨x,X,_,e,h'⟩
 | 1 =>
   rcases h.pop H hS hn h1 with⟨_,e⟩|⟨xs,x,X,_,e,h'⟩
   ·exact .inl e
   ·rw[k1] at h';exact .inr ⟨x,X,_,e,h'⟩
 | 2 =>
   cases hr:jg pg st k ws with
   |false=>exact .inl (by simp[i9,hr])
   |true =>
    have:i9 us pg st S i0 i1 k 2 ws=c7 us pg st k ws:=by simp[i9,hr]
    rw[this];exact gr
 |kind+3=>exact gr
theorem zL (kind:Nat)(lim:Int):∀(m:Nat) (P:Nat→List Int) {ws:List Int} {C:Nat→List Int} {O:List (Int×Int)},FrI us pg st n S ws C (puO P++O)→((P k).length:Int)+m≤lim →
 ∃C',FrI us pg st n S (gh us pg st S i0 i1 k kind lim m P ws).2 C' (puO (gh us pg st S i0 i1 k kind lim m P ws).1++O)∧(((gh us pg st S i0 i1 k kind lim m P ws).1 k).length:Int)≤lim∧∀j,j≠k→(gh us pg st S i0 i1 k kind lim m P ws).1 j=P j
 | 0,P,ws,C,O,h,hl=>⟨C,h,by simpa [gh] using hl,fun _ _=>rfl⟩
 |m+1,P,ws,C,O,h,hl=>by
  rcases Dz H hS hn hu h0 h1 hk k0 k1 kind h with e|⟨a,X,C',e,h'⟩
  ·refine⟨C,?_,?_,?_⟩<;>simp only[gh,e]
   ·exact h
   ·simp;omega
   ·simp
  ·have hlt:((P k).length:Int)<lim:=by omega
   have hp:=kS P hk a hlt
   have h2:FrI us pg st n S X C' (puO (ed P k a lim)++O):=by
    rw[hp]
    refine h'.perm ?_
    have:=(zK P hk a).symm.append_right O
    simpa using this
   have hlen:(((ed P k a lim) k).length:Int)+m≤lim:=by rw[hp];unfold dk;simp;omega
   obtain⟨C2,q1,q2,q3⟩:=zL kind lim m (ed P k a lim) h2 hlen
   have em:gh us pg st S i0 i1 k kind lim (m+1) P ws=gh us pg st S i0 i1 k kind lim m (ed P k a lim) X:=by simp[gh,e]
   rw[em]
   refine⟨C2,q1,q2,fun j hj=>?_⟩
   rw[q3 j hj,hp];unfold dk;rw[if_neg hj]
theorem IG (lim:Int)(m:Nat)(hm:(m:Int)≤lim)(P:Nat→List Int)(hP:∀j,j<5→((P j).length:Int)≤lim){ws:List Int}{C:Nat→List Int}{O:List (Int×Int)}(h:FrI us pg st n S ws C (puO P++O)):
 fQ us pg st S i0 i1 k lim m P ws=(((0,false),P),ws)∨∃a P' X C',fQ us pg st S i0 i1 k lim m P ws=(((a,true),P'),X)∧FrI us pg st n S X C' (puO P'++((a,(k:Int))::O))∧∀j,j<5→((P' j).length:Int)≤lim:=by
 rcases List.eq_nil_or_concat (P k) with e|⟨xs,x,e⟩
 ·have hb:=pR P hk e
  rcases Dz H hS hn hu h0 h1 hk k0 k1 (ja (iT S i0 i1 ws)) h with e2|⟨a,X,C',e2,h'⟩
  ·exact .inl (by simp[fQ,hb,e2])
  ·have h2:FrI us pg st n S X C' (puO P++((a,(k:Int))::O)):=h'.perm (by rw[←List.cons_append];exact(List.perm_middle (l₁:=puO P)).symm)
   obtain⟨C2,q1,q2,q3⟩:=zL H hS hn hu h0 h1 hk k0 k1 (iT S i0 i1 ws) lim m P h2 (by rw[e];simpa using hm)
   refine .inr ⟨a,_,_,C2,by simp[fQ,hb,e2],q1,fun j hj=>?_⟩
   by_cases z:j=k
   ·subst z;exact q2
   ·rw[q3 j z];exact hP j hj
 ·rw[List.concat_eq_append] at e
  obtain⟨b1,b2,b3⟩:=j6 P hk e
  refine .inr ⟨x,ib P k,ws,C,by simp[fQ,b1,b2],?_,fun j hj=>?_⟩
  ·rw[b3]
   refine h.perm (((Dy P hk e).append_right O).trans ?_)
   rw[List.cons_append]
   exact(List.perm_middle (l₁:=puO (dk P k xs))).symm
  ·rw[b3];unfold dk
   have:=hP j hj
   split
   ·rename_i z;subst z;rw[e] at this;simp at this;omega
   ·exact this
theorem IH {a:Int}{ws:List Int}{C:Nat→List Int}{O:List (Int×Int)}(h:FrI us pg st n S ws C ((a,(k:Int))::O)):∃C',FrI us pg st n S (ud us pg st S i0 i1 a ws) C' O:=by
 have ha:=Kx H hS hn hu h (List.mem_cons_self ..)
 rcases FrI.push H hS hn h0 (by rw[k0];exact h) ha with⟨_,X,e,h'⟩|⟨_,e⟩
 ·exact⟨_,by simp only[ud,e];exact h'⟩
 ·rcases FrI.push H hS hn h1 (by rw[k1];exact h) ha with⟨_,X,e2,h'⟩|⟨_,e2⟩
  ·exact⟨_,by simp only[ud,e,e2];exact h'⟩
  ·obtain⟨X,e3,h'⟩:=h.back H hS hn
   exact⟨_,by simp only[ud,e,e2,e3];exact h'⟩
theorem zM:∀(m:Nat) (P:Nat→List Int) {ws:List Int} {C:Nat→List Int} {O:List (Int×Int)},FrI us pg st n S ws C (puO P++O) →
 ∃C',FrI us pg st n S (j7 us pg st S i0 i1 k m P ws).2 C' (puO (j7 us pg st S i0 i1 k m P ws).1++O)∧((j7 us pg st S i0 i1 k m P ws).1 k).length=(P k).length-m∧∀j,j≠k→(j7 us pg st S i0 i1 k m P ws).1 j=P j
 | 0,P,ws,C,O,h=>⟨C,h,rfl,fun _ _=>rfl⟩
 |m+1,P,ws,C,O,h=>by
  rcases List.eq_nil_or_concat (P k) with e|⟨xs,x,e⟩
  ·have hb:=pR P hk e
   have em:j7 us pg st S i0 i1 k (m+1) P ws=(P,ws):=by simp[j7,hb]
   rw[em]
   exact⟨C,h,by simp[e],fun _ _=>rfl⟩
  ·rw[List.concat_eq_append] at e
   obtain⟨b1,b2,b3⟩:=j6 P hk e
   have h2:FrI us pg st n S ws C ((x,(k:Int))::(puO (dk P k xs)++O)):=h.perm ((Dy P hk e).append_right O)
   obtain⟨C1,h3⟩:=IH H hS hn hu h0 h1 hk k0 k1 h2
   obtain⟨C2,q1,q2,q3⟩:=zM m (dk P k xs) h3
   have em:j7 us pg st S i0 i1 k (m+1) P ws=j7 us pg st S i0 i1 k m (dk P k xs) (ud us pg st S i0 i1 x ws):=by simp[j7,b1,b2,b3]
   rw[em]
   refine⟨C2,q1,?_,fun j hj=>?_⟩
   ·rw[q2,e];unfold dk;simp
   ·rw[q3 j hj];unfold dk;rw[if_neg hj]
theorem II {lim:Int}{m:Nat}(hl:1≤lim)(hm:1≤m)(P:Nat→List Int)(hP:∀j,j<5→((P j).length:Int)≤lim){a:Int}{ws:List Int}{C:Nat→List Int}{O:List (Int×Int)}(h:FrI us pg st n S ws C (puO P++((a,(k:Int))::O))):
 ∃P' X C',vW us pg st S i0 i1 k lim m a P ws=(P',X)∧FrI us pg st n S X C' (puO P'++O)∧∀j,j<5→((P' j).length:Int)≤lim:=by
 have fin:∀(Q:Nat→List Int) (X:List Int) (C':Nat→List Int),FrI us pg st n S X C' (puO Q++((a,(k:Int))::O))→((Q k).length:Int)<lim→(∀j,j<5→((Q j).length:Int)≤lim)→FrI us pg st n S X C' (puO (ed Q k a lim)++O)∧∀j,j<5→(((ed Q k a lim) j).length:Int)≤lim:=fun Q X C' hq hlt hQ=>by
  rw[kS Q hk a hlt]
  refine⟨hq.perm ?_,fun j hj=>?_⟩
  ·refine List.perm_middle.trans ?_
   have:=(zK Q hk a).symm.append_right O
   simpa using this
  ·unfold dk
   split
   ·simp;omega
   ·exact hQ j hj
 by_cases hf:lim≤((P k).length:Int)
 ·obtain⟨C1,q1,q2,q3⟩:=zM H hS hn hu h0 h1 hk k0 k1 m P h
  have:=hP k hk
  obtain⟨f1,f2⟩:=fin _ _ _ q1 (by rw[q2];omega) (fun j hj=>by
   by_cases z:j=k
   ·subst z;rw[q2];omega
   ·rw[q3 j z];exact hP j hj)
  exact⟨_,_,C1,by simp only[vW];rw[if_pos hf],f1,f2⟩
 ·obtain⟨f1,f2⟩:=fin P ws C h (by omega) hP
  exact⟨_,_,C,by simp only[vW];rw[if_neg hf],f1,f2⟩
end
def iU (b l:Int):Array Value:= #[.int .i64 b,.int .i64 l]
theorem nU {w:World}{g:Nat}{a b:Int}{t:TypeId}(h:w.heap[g]?=some (.cells #[.int .i64 a,.int .i64 b] t (0,0))):w.cell? ⟨g,0,none⟩=some (.int .i64 a)∧w.cell? ⟨g,1,none⟩=some (.int .i64 b):=by
 refine⟨?_,?_⟩<;>simp[World.cell?,h]
def lK (b l:Int):Bool:=decide (0<b) && decide (0≤l)
theorem zN (b l:Int)(w:World):Calls Tryz.prog 109 #[.agg (iU b l)] w (aQ w (.bool (lK b l))):=by
 obtain⟨w1,e1,h1,m1,s1⟩:=bg w (.cells (iU b l) 134)
 obtain⟨c0,c1⟩:=nU h1
 have MM:=hQQ m1
 unfold lK
 clear h1 m1
 cases hb:decide (0<b) with
 |true =>
  have d0:decide (0<b)=true:=hb
  go_enter Tryz.func109,Tryz.ntmps109
  go_wp2_with fail
  go_ret
  exact⟨rfl,MM.o⟩
 |false =>
  have d0:decide (0<b)=false:=hb
  go_enter Tryz.func109,Tryz.ntmps109
  go_wp2_with fail
  go_ret
  exact⟨rfl,MM.o⟩
def j8 (b l:Int):Int:=if lK b l=true then min l (wrap64 (9223372036854775807-b)) else 0
theorem DA (b l:Int)(w:World):Calls Tryz.prog 110 #[.agg (iU b l)] w (aQ w (.int .i64 (j8 b l))):=by
 obtain⟨w1,e1,h1,m1,s1⟩:=bg w (.cells (iU b l) 134)
 obtain⟨c0,c1⟩:=nU h1
 have MM:=hQQ m1
 unfold j8
 have TH:=hQQ (zN b l w1)
 have H1:=hQQ h1
 clear h1 m1
 cases hb:lK b l with
 |true =>
  rw[hb] at TH
  rw[if_pos rfl]
  clear hb
  go_enter Tryz.func110,Tryz.ntmps110
  go_wp2_with fail
  refine TH.o.mono ?_
  rintro e w2 ⟨rfl,h2⟩
  obtain⟨d0,d1⟩:=nU (h2.block H1.o)
  have M2:=hQQ (MM.o.trans h2)
  clear h2 c0 c1
  go_wp2_with fail
  go_ret
  exact⟨rfl,M2.o⟩
 |false =>
  rw[hb] at TH
  rw[if_neg (by simp)]
  clear hb
  go_enter Tryz.func110,Tryz.ntmps110
  go_wp2_with fail
  refine TH.o.mono ?_
  rintro e w2 ⟨rfl,h2⟩
  have M2:=hQQ (MM.o.trans h2)
  clear h2
  go_wp2_with fail
  go_ret
  exact⟨rfl,M2.o⟩
theorem lL {x:Int}(h0: -9223372036854775808≤x)(h1:x≤9223372036854775807):wrap64 x=x:=by unfold wrap64;omega
theorem vX {b l:Int}{n:Nat}(H:eQ b l n):j8 b l=l:=by
 have h1:=H.b1;have h0:=H.l0;have hh:=H.hi;have ht:=H.top
 unfold j8 lK
 rw[if_pos (by simp;omega),lL (by omega) (by omega)];omega
def pS (b l k:Int):Int:=if k<0∨j8 b l≤k then 0 else wrap64 (wrap64 (b+1)+k)
theorem vY {b l k:Int}{n:Nat}(H:eQ b l n):pS b l k=dJ b l k:=by
 have h1:=H.b1;have h0:=H.l0;have hh:=H.hi;have ht:=H.top
 unfold pS dJ
 rw[vX H]
 split
 ·rfl
 ·rw[lL (x:=b+1) (by omega) (by omega),lL (by omega) (by omega)]
theorem DB (b l k:Int)(w:World):Calls Tryz.prog 84 #[.agg (iU b l),.int .i64 k] w (aQ w (.int .i64 (pS b l k))):=by
 obtain⟨w1,e1,h1,m1,s1⟩:=bg w (.cells (iU b l) 134)
 obtain⟨c0,c1⟩:=nU h1
 have MM:=hQQ m1
 unfold pS
 have MO:=hQQ (DA b l w1)
 have H1:=hQQ h1
 clear h1 m1
 by_cases k0:k<0
 ·have d0:decide (k<0)=true:=by simp[k0]
  rw[if_pos (.inl k0)]
  clear k0
  go_enter Tryz.func84,Tryz.ntmps84
  go_wp2_with fail
  go_ret
  exact⟨rfl,MM.o⟩
 ·have d0:decide (k<0)=false:=by simp;omega
  by_cases k1:j8 b l≤k
  ·rw[if_pos (.inr k1)]
   generalize j8 b l=mo at *
   have d1:decide (mo≤k)=true:=by simp[k1]
   clear k0 k1
   go_enter Tryz.func84,Tryz.ntmps84
   go_wp2_with fail
   refine MO.o.mono ?_
   rintro e w2 ⟨rfl,h2⟩
   have M2:=hQQ (MM.o.trans h2)
   clear h2
   go_wp2_with fail
   go_ret
   exact⟨rfl,M2.o⟩
  ·rw[if_neg (by omega)]
   generalize j8 b l=mo at *
   have d1:decide (mo≤k)=false:=by simp;omega
   clear k0 k1
   go_enter Tryz.func84,Tryz.ntmps84
   go_wp2_with fail
   refine MO.o.mono ?_
   rintro e w2 ⟨rfl,h2⟩
   obtain⟨e0,e1⟩:=nU (h2.block H1.o)
   have M2:=hQQ (MM.o.trans h2)
   clear h2 c0 c1
   go_wp2_with fail
   go_ret
   exact⟨rfl,M2.o⟩
theorem Ky (b l k:Int)(w:World):Calls Tryz.prog 115 #[.agg (iU b l),.int .i64 k] w (aQ w (.int .i64 (pS b l (wrap64 (k-1))))):=by
 obtain⟨w1,e1,h1,m1,s1⟩:=bg w (.cells (iU b l) 134)
 obtain⟨c0,c1⟩:=nU h1
 have MM:=hQQ m1
 clear h1 m1
 go_enter Tryz.func115,Tryz.ntmps115
 go_wp2_with fail
 refine(DB b l _ _).mono ?_
 rintro e w2 ⟨rfl,h2⟩
 have M2:=hQQ (MM.o.trans h2)
 clear h2
 go_wp2_with fail
 go_ret
 exact⟨rfl,M2.o⟩
theorem DC {b l:Int}{n:Nat}(H:eQ b l n)(F:Nat→Prop)(p:Nat)(kn:Int→Option Int)(D:List KV)(w:World)(hv:aF w F p kn D)(hk:OkK kn)(hD:cI n D):
 Calls Tryz.prog 83 #[.agg (iU b l),.pointer (some ⟨p,0,none⟩)] w (aI w F p kn (fun x=> .int .i64 x) (lH b l kn D)):=by
 obtain⟨Rr,hRr⟩:∃Rr,lH b l kn D=Rr:=⟨_,rfl⟩
 rw[hRr]
 obtain⟨w1,e1,hl1,m1,s1⟩:=bg w (.cells (iU b l) 134)
 obtain⟨c0,c1⟩:=nU hl1
 have nFl:¬F w.heap.size:=fun q=>by have:=hv.lt _ q;omega
 have MM:=hQQ m1
 have L0:=hQQ hl1
 have M0:=m0Z (hv.more m1) hD
 have KL:Hq (∀wr D' F',MidV w1 wr F (fun _=>False) p kn n D' F'→wr.heap[w.heap.size]?=some (.cells (iU b l) 134 (0,0))):=hQQ fun wr D' F' h=>fS h L0.o nFl (fun q=>q)
 have NEED:=ndZ (F:=F) (p:=p) (kn:=kn) (R:=Rr) (fun x:Int=>Value.int .i64 x) MM.o
 have DONE:=dnZ (F:=F) (p:=p) (n:=n) (kn:=kn) (R:=Rr) (fun x:Int=>Value.int .i64 x) MM.o
 have h1:=H.b1;have h0:=H.l0;have hh:=H.hi;have ht:=H.top
 have TH:=zN b l w1
 rw[show lK b l=true by unfold lK;simp;omega] at TH
 have TH:=hQQ TH
 have MO:=hQQ (fun w'=>(vX H)▸DA b l w')
 have HK:=hQQ hk
 have HRr:=hQQ hRr
 clear hl1 m1 hv hD hk nFl hRr
 go_enter Tryz.func83,Tryz.ntmps83
 go_wp2_with fail
 refine TH.o.mono ?_
 rintro e w2 ⟨rfl,h2⟩
 have M2:=hQQ (M0.o.more h2)
 obtain⟨d0,d1⟩:=nU (KL.o _ _ _ M2.o)
 clear h2 c0 c1
 go_wp2_with fail
 refine(iK F p kn D b w2 M2.o.view (by unfold W64;omega)).mono ?_
 intro e w3 he
 rcases M2.o.step (ae.refl _) HK.o (a6 n (by omega)) he with⟨a',hE,rfl,hd',ht',_⟩|⟨y,D3,F3,hE,rfl,M3,hq3,_,_⟩
 ·exact⟨rfl,NEED.o a' w3 (HRr.o.symm.trans (ag hE)) hd' ht'⟩
 have FIN:=hQQ (DONE.o (a7 l y) w3 D3 F3 (HRr.o.symm.trans (aj hE)) M3)
 have DON:=hQQ (fun w4 (h4:ae w3 w4)=>DONE.o (a7 l y) w4 D3 F3 (HRr.o.symm.trans (aj hE)) (M3.more h4))
 obtain⟨f0,f1⟩:=nU (KL.o _ _ _ M3)
 have M3:=hQQ M3
 clear he hE d0 d1
 by_cases y0:0≤y
 ·have g0:decide (0≤y)=true:=by simp[y0]
  by_cases y1:y≤l
  ·have g1:decide (y≤l)=true:=by simp[y1]
   rw[show a7 l y=y by unfold a7;rw[if_pos ⟨y0,y1⟩]] at DON
   clear y0 y1 FIN
   go_wp2_with fail
   refine(MO.o _).mono ?_
   rintro e w4 ⟨rfl,h4⟩
   have D4:=hQQ (DON.o w4 h4)
   clear h4
   go_wp2_with fail
   go_ret
   exact D4.o
  ·have g1:decide (y≤l)=false:=by simp;omega
   rw[show a7 l y=0 by unfold a7;rw[if_neg (by omega)]] at DON
   clear y0 y1 FIN
   go_wp2_with fail
   refine(MO.o _).mono ?_
   rintro e w4 ⟨rfl,h4⟩
   have D4:=hQQ (DON.o w4 h4)
   clear h4
   go_wp2_with fail
   go_ret
   exact D4.o
 ·have g0:decide (0≤y)=false:=by simp;omega
  rw[show a7 l y=0 by unfold a7;rw[if_neg (by omega)]] at FIN
  clear y0 DON
  go_wp2_with fail
  go_ret
  exact FIN.o
theorem zO {b l:Int}{n:Nat}(H:eQ b l n)(F:Nat→Prop)(p:Nat)(kn:Int→Option Int)(D:List KV)(w:World)(hv:aF w F p kn D)(hk:OkK kn)(hD:cI n D):
 Calls Tryz.prog 114 #[.agg (iU b l),.pointer (some ⟨p,0,none⟩),.func (.func 84) #[] #[]] w (aI w F p kn (fun x:Int×Int=> .tuple #[.int .i64 x.1,.int .i64 x.2]) (kr true b l kn D)):=by
 obtain⟨Rr,hRr⟩:∃Rr,kr true b l kn D=Rr:=⟨_,rfl⟩
 rw[hRr]
 obtain⟨w1,e1,hl1,m1,s1⟩:=bg w (.cells (iU b l) 134)
 obtain⟨c0,c1⟩:=nU hl1
 have nFl:¬F w.heap.size:=fun q=>by have:=hv.lt _ q;omega
 have MM:=hQQ m1
 have L0:=hQQ hl1
 have M0:=m0Z (hv.more m1) hD
 have KL:Hq (∀wr D' F',MidV w1 wr F (fun _=>False) p kn n D' F'→wr.heap[w.heap.size]?=some (.cells (iU b l) 134 (0,0))):=hQQ fun wr D' F' h=>fS h L0.o nFl (fun q=>q)
 have NEED:=ndZ (F:=F) (p:=p) (kn:=kn) (R:=Rr) (fun x:Int×Int=>Value.tuple #[.int .i64 x.1,.int .i64 x.2]) MM.o
 have DONE:Hq (∀(x:Int×Int) w2 D' F',Rr=.ok x D'→MidV w1 w2 F (fun _=>False) p kn n D' F'→aI w F p kn (fun x:Int×Int=>Value.tuple #[.int .i64 x.1,.int .i64 x.2]) Rr (.returned (.tuple #[.int .i64 x.1,.int .i64 x.2])) w2):=hQQ fun x w2 D' F' e h=>fI MM.o (fun _ q=>q.elim) h e
 have h1:=H.b1;have h0:=H.l0;have hh:=H.hi;have ht:=H.top
 have HK:=hQQ hk
 have HH:=hQQ H
 have HRr:=hQQ hRr
 clear hl1 m1 hv hD hk nFl hRr
 go_enter Tryz.func114,Tryz.ntmps114
 go_wp2_with fail
 refine(DC HH.o F p kn D w1 M0.o.view HK.o M0.o.inv).mono ?_
 intro e w3 he
 rcases M0.o.step (ae.refl _) HK.o (mQ HH.o) he with⟨a',hE,rfl,hd',ht',_⟩|⟨y,D3,F3,hE,rfl,M3,hq3,_,_⟩
 ·exact⟨rfl,NEED.o a' w3 (HRr.o.symm.trans (ag hE)) hd' ht'⟩
 have DON:=hQQ (fun w4 (h4:ae w3 w4)=>DONE.o (y,dJ b l (if true then y else y-1)) w4 D3 F3 (HRr.o.symm.trans (aj hE)) (M3.more h4))
 obtain⟨d0,d1⟩:=nU (KL.o _ _ _ M3)
 have hy0:=hq3.1
 have hy1:=hq3.2
 have W0:=hQQ (vY (k:=y) HH.o)
 have q1:=lL (x:=y-1) (by omega) (by omega)
 clear he hE c0 c1 hq3 M3
 go_wp2_with fail
 refine(DB b l _ _).mono ?_
 rw[W0.o]
 rintro e w4 ⟨rfl,h4⟩
 have D4:=hQQ (DON.o w4 h4)
 clear h4
 go_wp2_with fail
 go_ret2
 exact D4.o
theorem zP {b l:Int}{n:Nat}(H:eQ b l n)(F:Nat→Prop)(p:Nat)(kn:Int→Option Int)(D:List KV)(w:World)(hv:aF w F p kn D)(hk:OkK kn)(hD:cI n D):
 Calls Tryz.prog 114 #[.agg (iU b l),.pointer (some ⟨p,0,none⟩),.func (.func 115) #[] #[]] w (aI w F p kn (fun x:Int×Int=> .tuple #[.int .i64 x.1,.int .i64 x.2]) (kr false b l kn D)):=by
 obtain⟨Rr,hRr⟩:∃Rr,kr false b l kn D=Rr:=⟨_,rfl⟩
 rw[hRr]
 obtain⟨w1,e1,hl1,m1,s1⟩:=bg w (.cells (iU b l) 134)
 obtain⟨c0,c1⟩:=nU hl1
 have nFl:¬F w.heap.size:=fun q=>by have:=hv.lt _ q;omega
 have MM:=hQQ m1
 have L0:=hQQ hl1
 have M0:=m0Z (hv.more m1) hD
 have KL:Hq (∀wr D' F',MidV w1 wr F (fun _=>False) p kn n D' F'→wr.heap[w.heap.size]?=some (.cells (iU b l) 134 (0,0))):=hQQ fun wr D' F' h=>fS h L0.o nFl (fun q=>q)
 have NEED:=ndZ (F:=F) (p:=p) (kn:=kn) (R:=Rr) (fun x:Int×Int=>Value.tuple #[.int .i64 x.1,.int .i64 x.2]) MM.o
 have DONE:Hq (∀(x:Int×Int) w2 D' F',Rr=.ok x D'→MidV w1 w2 F (fun _=>False) p kn n D' F'→aI w F p kn (fun x:Int×Int=>Value.tuple #[.int .i64 x.1,.int .i64 x.2]) Rr (.returned (.tuple #[.int .i64 x.1,.int .i64 x.2])) w2):=hQQ fun x w2 D' F' e h=>fI MM.o (fun _ q=>q.elim) h e
 have h1:=H.b1;have h0:=H.l0;have hh:=H.hi;have ht:=H.top
 have HK:=hQQ hk
 have HH:=hQQ H
 have HRr:=hQQ hRr
 clear hl1 m1 hv hD hk nFl hRr
 go_enter Tryz.func114,Tryz.ntmps114
 go_wp2_with fail
 refine(DC HH.o F p kn D w1 M0.o.view HK.o M0.o.inv).mono ?_
 intro e w3 he
 rcases M0.o.step (ae.refl _) HK.o (mQ HH.o) he with⟨a',hE,rfl,hd',ht',_⟩|⟨y,D3,F3,hE,rfl,M3,hq3,_,_⟩
 ·exact⟨rfl,NEED.o a' w3 (HRr.o.symm.trans (ag hE)) hd' ht'⟩
 have DON:=hQQ (fun w4 (h4:ae w3 w4)=>DONE.o (y,dJ b l (if false then y else y-1)) w4 D3 F3 (HRr.o.symm.trans (aj hE)) (M3.more h4))
 obtain⟨d0,d1⟩:=nU (KL.o _ _ _ M3)
 have hy0:=hq3.1
 have hy1:=hq3.2
 have W0:=hQQ (vY (k:=y-1) HH.o)
 have q1:=lL (x:=y-1) (by omega) (by omega)
 clear he hE c0 c1 hq3 M3
 go_wp2_with fail
 refine(Ky b l _ _).mono ?_
 rw[q1,W0.o]
 rintro e w4 ⟨rfl,h4⟩
 have D4:=hQQ (DON.o w4 h4)
 clear h4
 go_wp2_with fail
 go_ret2
 exact D4.o
theorem Kz {b l:Int}{n:Nat}(H:eQ b l n)(F:Nat→Prop)(p:Nat)(kn:Int→Option Int)(D:List KV)(x:Int)(hx:W64 x)(w:World)(hv:aF w F p kn D)(hk:OkK kn)(hD:cI n D):
 Calls Tryz.prog 104 #[.pointer (some ⟨p,0,none⟩),.int .i64 b,.int .i64 l,.int .i64 x] w (aI w F p kn (fun b=> .bool b) (j4 b l x kn D)):=by
 obtain⟨Rr,hRr⟩:∃Rr,j4 b l x kn D=Rr:=⟨_,rfl⟩
 rw[hRr]
 have M0:Hq (MidV w w F (fun _=>False) p kn n D F):=hQQ (MidV.begin hv hD)
 have MM:=hQQ (ae.refl w)
 have NEED:Hq (∀a w2,Rr=.need a→bJ w2 p a→Turned (fun b=>F b∨False) w w2→aI w F p kn (fun x:Bool=>Value.bool x) Rr (.panicked (bB p)) w2):=hQQ fun a w2 e hd ht=>jE MM.o (fun _ q=>q.elim) e hd ht
 have DONE:Hq (∀x w2 D' F',Rr=.ok x D'→MidV w w2 F (fun _=>False) p kn n D' F'→aI w F p kn (fun x:Bool=>Value.bool x) Rr (.returned ((fun x:Bool=>Value.bool x) x)) w2):=hQQ fun x w2 D' F' e h=>fI MM.o (fun _ q=>q.elim) h e
 have h1:=H.b1;have h0:=H.l0;have hh:=H.hi;have ht:=H.top
 have HX:=hQQ hx
 have HK:=hQQ hk
 have HH:=hQQ H
 have HRr:=hQQ hRr
 clear hv hD hk hRr hx
 go_enter Tryz.func104,Tryz.ntmps104
 go_wp2_with fail
 refine(zO HH.o F p kn D w M0.o.view HK.o M0.o.inv).mono ?_
 intro e w3 he
 rcases M0.o.step (ae.refl _) HK.o (lI HH.o true) he with⟨a',hE,rfl,hd',ht',_⟩|⟨y,D3,F3,hE,rfl,M3,hq3,_,_⟩
 ·exact⟨rfl,NEED.o a' w3 (HRr.o.symm.trans (ag hE)) hd' ht'⟩
 obtain⟨y,z⟩:=y
 obtain⟨q0,q1,q2⟩:=hq3
 simp only at q0 q1 q2
 have R3:=hQQ ((aj hE).symm.trans HRr.o)
 have M3:=hQQ M3
 clear he hE
 by_cases z0:z=0
 ·have FIN:=hQQ (DONE.o false w3 D3 F3 (by have:=R3.o;rw[if_pos z0] at this;exact this.symm) M3.o)
  have g0:(z==0)=true:=by simp[z0]
  clear z0 R3 q2
  go_wp2_with fail
  go_ret
  exact FIN.o
 ·have g0:(z==0)=false:=by simp[z0]
  have R3':=R3.o
  simp only[] at R3'
  rw[if_neg z0] at R3'
  have RB:=hQQ R3'
  clear R3' R3
  have q3:=hQQ (q2.resolve_left z0)
  have q4:=lL (x:=y+1) (by omega) (by omega)
  clear z0 q2
  go_wp2_with fail
  refine(dq F3 p kn D3 z x w3 M3.o.view (by have:=M3.o.inv.len;omega)).mono ?_
  intro e w4 he
  rcases M3.o.step (ae.refl _) HK.o (aR n (by have:=q3.o;unfold W64;omega) (by have:=q3.o;omega) HX.o) he with⟨a',hE,rfl,hd',ht',_⟩|⟨x4,D4,F4,hE,rfl,M4,hq4,_,_⟩
  ·exact⟨rfl,NEED.o a' w4 (RB.o.symm.trans (ag hE)) hd' ht'⟩
  have R4:=hQQ ((aj hE).symm.trans RB.o)
  have M4:=hQQ M4
  clear he hE
  go_wp2_with fail
  refine(dq F4 p kn D4 b (y+1) w4 M4.o.view (by have:=M4.o.inv.len;omega)).mono ?_
  intro e w5 he
  rcases M4.o.step (ae.refl _) HK.o (aR n (by unfold W64;omega) (by omega) (by unfold W64;omega)) he with⟨a',hE,rfl,hd',ht',_⟩|⟨x5,D5,F5,hE,rfl,M5,hq5,_,_⟩
  ·exact⟨rfl,NEED.o a' w5 (R4.o.symm.trans (ag hE)) hd' ht'⟩
  have FIN:=hQQ (DONE.o true w5 D5 F5 (by have:=(aj hE).symm.trans R4.o;exact this.symm) M5)
  clear he hE
  go_wp2_with fail
  go_ret
  exact FIN.o
theorem IJ {b l:Int}{n:Nat}(H:eQ b l n)(F:Nat→Prop)(p:Nat)(kn:Int→Option Int)(D:List KV)(w:World)(hv:aF w F p kn D)(hk:OkK kn)(hD:cI n D):
 Calls Tryz.prog 89 #[.pointer (some ⟨p,0,none⟩),.int .i64 b,.int .i64 l] w (aI w F p kn (fun x:Int×Bool=> .tuple #[.int .i64 x.1,.bool x.2]) (ee b l kn D)):=by
 obtain⟨Rr,hRr⟩:∃Rr,ee b l kn D=Rr:=⟨_,rfl⟩
 rw[hRr]
 have M0:Hq (MidV w w F (fun _=>False) p kn n D F):=hQQ (MidV.begin hv hD)
 have MM:=hQQ (ae.refl w)
 have NEED:Hq (∀a w2,Rr=.need a→bJ w2 p a→Turned (fun b=>F b∨False) w w2→aI w F p kn (fun x:Int×Bool=>Value.tuple #[.int .i64 x.1,.bool x.2]) Rr (.panicked (bB p)) w2):=hQQ fun a w2 e hd ht=>jE MM.o (fun _ q=>q.elim) e hd ht
 have DONE:Hq (∀(x:Int×Bool) w2 D' F',Rr=.ok x D'→MidV w w2 F (fun _=>False) p kn n D' F'→aI w F p kn (fun x:Int×Bool=>Value.tuple #[.int .i64 x.1,.bool x.2]) Rr (.returned (.tuple #[.int .i64 x.1,.bool x.2])) w2):=hQQ fun x w2 D' F' e h=>fI MM.o (fun _ q=>q.elim) h e
 have h1:=H.b1;have h0:=H.l0;have hh:=H.hi;have ht:=H.top
 have HK:=hQQ hk
 have HH:=hQQ H
 have HRr:=hQQ hRr
 clear hv hD hk hRr
 go_enter Tryz.func89,Tryz.ntmps89
 go_wp2_with fail
 refine(zP HH.o F p kn D w M0.o.view HK.o M0.o.inv).mono ?_
 intro e w3 he
 rcases M0.o.step (ae.refl _) HK.o (lI HH.o false) he with⟨a',hE,rfl,hd',ht',_⟩|⟨y,D3,F3,hE,rfl,M3,hq3,_,_⟩
 ·exact⟨rfl,NEED.o a' w3 (HRr.o.symm.trans (ag hE)) hd' ht'⟩
 obtain⟨y,z⟩:=y
 obtain⟨q0,q1,q2⟩:=hq3
 simp only at q0 q1 q2
 have R3:=hQQ ((aj hE).symm.trans HRr.o)
 have M3:=hQQ M3
 clear he hE
 by_cases z0:z=0
 ·have FIN:=hQQ (DONE.o (0,false) w3 D3 F3 (by have:=R3.o;rw[if_pos z0] at this;exact this.symm) M3.o)
  have g0:(z==0)=true:=by simp[z0]
  clear z0 R3 q2
  go_wp2_with fail
  go_ret2
  exact FIN.o
 ·have g0:(z==0)=false:=by simp[z0]
  have R3':=R3.o
  simp only[] at R3'
  rw[if_neg z0] at R3'
  have RB:=hQQ R3'
  clear R3' R3
  have q3:=hQQ (q2.resolve_left z0)
  have q4:=lL (x:=y-1) (by omega) (by omega)
  clear z0 q2
  go_wp2_with fail
  refine(iK F3 p kn D3 z w3 M3.o.view (by have:=q3.o;unfold W64;omega)).mono ?_
  intro e w4 he
  rcases M3.o.step (ae.refl _) HK.o (a6 n (by have:=q3.o;omega)) he with⟨a',hE,rfl,hd',ht',_⟩|⟨x4,D4,F4,hE,rfl,M4,hq4,_,_⟩
  ·exact⟨rfl,NEED.o a' w4 (RB.o.symm.trans (ag hE)) hd' ht'⟩
  have R4:=hQQ ((aj hE).symm.trans RB.o)
  have M4:=hQQ M4
  clear he hE
  go_wp2_with fail
  refine(dq F4 p kn D4 b (y-1) w4 M4.o.view (by have:=M4.o.inv.len;omega)).mono ?_
  intro e w5 he
  rcases M4.o.step (ae.refl _) HK.o (aR n (by unfold W64;omega) (by omega) (by unfold W64;omega)) he with⟨a',hE,rfl,hd',ht',_⟩|⟨x5,D5,F5,hE,rfl,M5,hq5,_,_⟩
  ·exact⟨rfl,NEED.o a' w5 (R4.o.symm.trans (ag hE)) hd' ht'⟩
  have FIN:=hQQ (DONE.o (x4,true) w5 D5 F5 (by have:=(aj hE).symm.trans R4.o;exact this.symm) M5)
  clear he hE
  go_wp2_with fail
  go_ret2
  exact FIN.o
end Go.Proofs.YtddmeghbmdfgeaaGreatDoor
