/-
  Words behind pages' calls: which pages are of which class, which of their blocks are taken, and in which list each is.
-/
import Derived.Test.YtfddhogffpkhcaaGreatDoorTdAe
import Derived.Test.YtfddhogffpkhcaaGreatDoorTdAd
set_option maxRecDepth 100000
set_option maxHeartbeats 8000000
set_option linter.all false
namespace Go.Proofs.YtfddhogffpkhcaaGreatDoor
theorem kI (j:Nat):dm 0 j=false:=by simp[dm,fo]
theorem jK {k:Int} :((et (ao k):Nat):Int)=ao k:=by
 have:=dN k
 unfold et;omega
theorem Bz (k:Int):eA k 0=ao k:=by
 have:onN 0 (et (ao k))= []:=List.filter_eq_nil_iff.2 (fun j _=>by rw[kI];simp)
 unfold eA gh
 rw[this];simp
theorem p9 {b k:Int}{j:Nat}(hj:(j:Int)<ao k)(hb:dm b j=false):eA k (eQ b (j:Int))=eA k b-1:=by
 have hs:=dN k
 have he:=jK (k:=k)
 have:=I7 (w:=b) (i:=(j:Int)) (tg (by omega)) (by simpa using hb) (et (ao k)) (mI _)
 rw[if_pos (by omega)] at this
 unfold eA gh
 omega
theorem yi {b k:Int}(h:1≤eA k b):∃j:Nat,cO b (ao k)=(j:Int)∧(j:Int)<ao k∧dm b j=false∧eA k (eQ b (j:Int))=eA k b-1:=by
 have he:=jK (k:=k)
 rcases A2 b (et (ao k)) with⟨_,ha⟩|⟨j,hj,e,hb,_⟩
 ·have:=I6 ha
  unfold eA gh at h
  omega
 ·exact⟨j,e,by omega,hb,p9 (by omega) hb⟩
theorem qa {k:Int}(h:ao k≠0):cO 0 (ao k)=0:=by
 have hs:=dN k
 have he:=jK (k:=k)
 exact kZ (w:=0) (k:=et (ao k)) (j:=0) (by omega) (kI 0) (fun i hi=>by omega)
theorem yj {b k i:Int}(hw:W64 b)(h0:0≤i)(h1:i<ao k)(h:cK b i=true):eA k (cC b i)=eA k b+1:=by
 have hs:=dN k
 have hi:inR i=true:=(dr i).2 ⟨h0,by omega⟩
 obtain⟨j,rfl⟩:∃j:Nat,i=(j:Int):=⟨i.toNat,by omega⟩
 have hb:dm (cC b (j:Int)) j=false:=by
  have:=ru (w:=b) hi
  unfold cK at this
  rw[hi] at this
  simpa using this
 have e:=p9 (b:=cC b (j:Int)) (k:=k) h1 hb
 rw[A1 hw.1 hw.2 hi h] at e
 omega
def NoL (pg st i:Int):Prop:=¬cE pg st i∧∀p,af pg p=true→i≠nA pg st p∧i≠vA pg st p
section
variable {pg st:Int}{n:Nat}(H:cB pg st n)
include H
theorem vu {q:Int}(h:af pg q=true):NoL pg st (kA pg st q):=by
 have:=ag.1 h
 refine⟨fun z=>?_,fun p hp=>?_⟩
 ·unfold cE aO kA at z;omega
 ·have:=ag.1 hp;unfold kA nA vA;omega
theorem rK {q:Int}(h:af pg q=true):NoL pg st (cA pg st q):=by
 have:=ag.1 h
 refine⟨fun z=>?_,fun p hp=>?_⟩
 ·unfold cE aO cA at z;omega
 ·have:=ag.1 hp;unfold cA nA vA;omega
theorem rM {q:Int}(h:af pg q=true):NoL pg st (bA pg st q):=by
 have:=ag.1 h
 refine⟨fun z=>?_,fun p hp=>?_⟩
 ·unfold cE aO bA at z;omega
 ·have:=ag.1 hp;unfold bA nA vA;omega
theorem EG {j:Int}(h:aU pg j=true):NoL pg st (cI pg st j):=by
 have:=bT.1 h
 have h1:=H.pg1
 rw[i7 h]
 refine⟨fun z=>?_,fun p hp=>?_⟩
 ·unfold cE aO at z;omega
 ·have:=ag.1 hp;unfold nA vA;omega
theorem dy.kind {a b:List Int}(o:dy pg st a b)(p:Int):aj pg st b p=aj pg st a p:=by
 cases h:af pg p with
 |false=>rw[dE h,dE h]
 |true =>
  have h0:=(cG H.toPgIn h).1.1
  rw[fI h,fI h,o.off _ (by omega) (vu H h).1 (vu H h).2]
theorem dy.cnt {a b:List Int}(o:dy pg st a b){p:Int}(h:af pg p=true):aL pg st b p=aL pg st a p :=
 o.off _ (iH H h).1.1 (rK H h).1 (rK H h).2
theorem dy.bit {a b:List Int}(o:dy pg st a b){p:Int}(h:af pg p=true):bz pg st b p=bz pg st a p :=
 o.off _ (iH H h).2.1 (rM H h).1 (rM H h).2
theorem dy.map {a b:List Int}(o:dy pg st a b)(j:Int):aG pg st b j=aG pg st a j:=by
 unfold aG
 cases h:aU pg j with
 |false=>rfl
 |true =>
  have h0:=(jZ H.toTblIn h).1
  rw[o.off _ (by omega) (EG H h).1 (EG H h).2]
theorem Ln.same {G:Int→List Int}{a b:List Int}(L:Ln pg st G a)(h:∀i,0≤i→¬NoL pg st i→wAt b i=wAt a i):Ln pg st G b:=by
 have hh:∀i,cE pg st i→wAt b i=wAt a i:=fun i hi=>h i (by have:=(jI H hi).1;omega) (fun z=>z.1 hi)
 have hn:∀p,af pg p=true→wAt b (nA pg st p)=wAt a (nA pg st p)∧wAt b (vA pg st p)=wAt a (vA pg st p):=fun p hp =>
  ⟨h _ (by have:=(ii H hp).1.1;omega) (fun z=>(z.2 p hp).1 rfl),h _ (by have:=(ii H hp).2.1;omega) (fun z=>(z.2 p hp).2 rfl)⟩
 refine⟨fun i hi=>by rw[hh i hi];exact L.head i hi,L.page,L.nodup,L.apart,fun i p hi hp=>?_,fun i p hi hp=>?_,fun p hp hf=>?_⟩
 ·rw[(hn p (L.page i hi p hp)).1];exact L.next i p hi hp
 ·rw[(hn p (L.page i hi p hp)).2];exact L.prev i p hi hp
 ·rw[(hn p hp).1,(hn p hp).2];exact L.free p hp hf
structure Mod (pg st:Int)(n:Nat)(q f':Int)(T:List Int→List Int):Prop where
 len:∀a,a.length=n→(T a).length=n
 off:∀a b,a.length=n→b.length=n→dy pg st a b→dy pg st (T a) (T b)
 no:∀a,a.length=n→∀i,0≤i→¬NoL pg st i→wAt (T a) i=wAt a i
 cnt:∀a,a.length=n→aL pg st (T a) q=f'
def ct (pg st q b f:Int)(ws:List Int):List Int:=(ws.set (bA pg st q).toNat b).set (cA pg st q).toNat f
theorem gK {q:Int}(h:af pg q=true)(b f:Int){ws:List Int}(hn:ws.length=n){i:Int}(hi:0≤i):wAt (ct pg st q b f ws) i=if i=cA pg st q then f else if i=bA pg st q then b else wAt ws i:=by
 obtain⟨⟨b0,b1,_⟩,c0,c1,_⟩:=iH H h
 unfold ct
 rw[bL b0 hi (by simp[hn];exact b1),bL c0 hi (by rw[hn];exact c1)]
theorem qb {q:Int}(h:af pg q=true)(b f:Int):Mod pg st n q f (ct pg st q b f):=by
 refine⟨fun a e=>by simp[ct,e],fun a a' e e' o=>⟨by simp[ct,e,e'],fun i h0 h1 h2=>?_⟩,fun a e i h0 h1=>?_,fun a e=>?_⟩
 ·rw[gK H h b f e' h0,gK H h b f e h0,o.off i h0 h1 h2]
 ·have k1:i≠cA pg st q:=fun z=>h1 (by rw[z];exact rK H h)
  have k2:i≠bA pg st q:=fun z=>h1 (by rw[z];exact rM H h)
  rw[gK H h b f e h0,if_neg k1,if_neg k2]
 ·show wAt (ct pg st q b f a) (cA pg st q)=f
  rw[gK H h b f e (iH H h).1.1,if_pos rfl]
theorem EH {q:Int}(h:af pg q=true)(k x:Int):Mod pg st n q x (bD pg st q k x):=by
 refine⟨fun a e=>by rw[bJ H.toPgIn];exact e,fun a a' e e' o=>⟨by rw[bJ H.toPgIn,bJ H.toPgIn,e,e'],fun i h0 h1 h2=>?_⟩,fun a e i h0 h1=>?_,fun a e=>?_⟩
 ·rw[dt H.toPgIn h k x e' h0,dt H.toPgIn h k x e h0,o.off i h0 h1 h2]
 ·have k1:i≠cA pg st q:=fun z=>h1 (by rw[z];exact rK H h)
  have k2:i≠bA pg st q:=fun z=>h1 (by rw[z];exact rM H h)
  have k3:i≠kA pg st q:=fun z=>h1 (by rw[z];exact vu H h)
  rw[dt H.toPgIn h k x e h0,if_neg k2,if_neg k1,if_neg k3]
 ·rw[kE H.toPgIn h k x e h,if_pos rfl]
def vv (pg st:Int)(G:Int→List Int)(k f:Int)(s t:List Int):Int→List Int:=if aC pg st k f=0 then G else pZ G (aC pg st k f) (s++t)
def EJ (pg st:Int)(G:Int→List Int)(q k f:Int):Int→List Int:=if aC pg st k f=0 then G else pZ G (aC pg st k f) (q::G (aC pg st k f))
theorem EK {q k f:Int}(hq:af pg q=true){G:Int→List Int}{ws:List Int}(L:Ln pg st G ws)(hn:ws.length=n)(hf:∀a,cE pg st a→q∉G a):
 Ln pg st (EJ pg st G q k f) (bZ pg st q k f ws).2∧dy pg st ws (bZ pg st q k f ws).2:=by
 unfold EJ
 by_cases hz:aC pg st k f=0
 ·have e:bZ pg st q k f ws=(false,ws):=by unfold bZ;exact if_neg (fun z=>z.1 hz)
  rw[if_pos hz,e]
  exact⟨L,dy.refl _ _ _⟩
 ·rw[if_neg hz]
  exact zy H L hn hz hq hf
theorem EL {q k f:Int}{G:Int→List Int}{s t:List Int}(hin:aC pg st k f≠0→G (aC pg st k f)=s++q::t∧q∉s){ws:List Int}(L:Ln pg st G ws)(hn:ws.length=n):
 Ln pg st (vv pg st G k f s t) (aY pg st q k f ws).2∧dy pg st ws (aY pg st q k f ws).2:=by
 unfold vv
 by_cases hz:aC pg st k f=0
 ·rw[if_pos hz,k8 H L (fun _ z=>absurd hz z)]
  exact⟨L,dy.refl _ _ _⟩
 ·rw[if_neg hz]
  obtain⟨h1,h2⟩:=hin hz
  exact(nY H L hn hz h1 h2).2
theorem Ke {q k f f':Int}{T:List Int→List Int}(M:Mod pg st n q f' T)(hq:af pg q=true){G:Int→List Int}{ws:List Int}(L:Ln pg st G ws)(hn:ws.length=n)
 (hin:∀a,cE pg st a→(q∈G a↔aC pg st k f=a)):
 ∃G1 G2,Ln pg st G1 (aY pg st q k f ws).2∧dy pg st ws (aY pg st q k f ws).2∧(aY pg st q k f ws).2.length=n∧(∀a,cE pg st a→q∉G1 a) ∧
  Ln pg st G2 (kH pg st q k f (T ws))∧dy pg st (T ws) (kH pg st q k f (T ws)) ∧
  (bZ pg st q k f' (T (aY pg st q k f ws).2)).2=kH pg st q k f (T ws) ∧
  (∀a p,cE pg st a→p≠q→(p∈G2 a↔p∈G a))∧∀a,cE pg st a→(q∈G2 a↔aC pg st k f'=a):=by
 obtain⟨s,t,hst⟩:∃s t,aC pg st k f≠0→G (aC pg st k f)=s++q::t∧q∉s:=by
  by_cases hz:aC pg st k f=0
  ·exact⟨[],[],fun z=>absurd hz z⟩
  ·obtain⟨s,t,h1,h2⟩:=im ((hin _ (dF hz).1).2 rfl)
   exact⟨s,t,fun _=>⟨h1,h2⟩⟩
 have m1:∀a,cE pg st a→q∉vv pg st G k f s t a:=fun a ha hm=>by
  unfold vv at hm
  by_cases hz:aC pg st k f=0
  ·rw[if_pos hz] at hm
   have:=(hin a ha).1 hm
   rw[hz] at this
   have:=(jI H ha).1
   omega
  ·rw[if_neg hz] at hm
   obtain⟨h1,h2⟩:=hst hz
   by_cases e:a=aC pg st k f
   ·subst e
    rw[bR] at hm
    have nd:=L.nodup _ (dF hz).1
    rw[h1] at nd
    rcases List.mem_append.1 hm with z|z
    ·exact h2 z
    ·exact(List.nodup_cons.1 (List.nodup_append.1 nd).2.1).1 z
   ·rw[bM _ _ _ e] at hm
    exact e ((hin a ha).1 hm).symm
 have m2:∀a p,cE pg st a→p≠q→(p∈vv pg st G k f s t a↔p∈G a):=fun a p ha hp=>by
  unfold vv
  by_cases hz:aC pg st k f=0
  ·rw[if_pos hz]
  ·rw[if_neg hz]
   obtain⟨h1,h2⟩:=hst hz
   by_cases e:a=aC pg st k f
   ·subst e
    rw[bR,h1]
    simp[hp]
   ·rw[bM _ _ _ e]
 obtain⟨L1,o1⟩:=EL H hst L hn
 have hB:(T ws).length=n:=M.len _ hn
 have LB:Ln pg st G (T ws):=L.same H (M.no ws hn)
 obtain⟨L2,o2⟩:=EL H hst LB hB
 have n1:(aY pg st q k f ws).2.length=n:=o1.len.trans hn
 have n2:(aY pg st q k f (T ws)).2.length=n:=o2.len.trans hB
 have ec:aL pg st (aY pg st q k f (T ws)).2 q=f':=by rw[o2.cnt H hq,M.cnt ws hn]
 have em:kH pg st q k f (T ws)=(bZ pg st q k f' (aY pg st q k f (T ws)).2).2:=by unfold kH;rw[ec]
 obtain⟨L3,o3⟩:=EK H (k:=k) (f:=f') hq L2 n2 m1
 have LT:Ln pg st (vv pg st G k f s t) (T (aY pg st q k f ws).2):=L1.same H (M.no _ n1)
 obtain⟨L4,o4⟩:=EK H (k:=k) (f:=f') hq LT (M.len _ n1) m1
 have oB:=o2.trans o3
 have oY:=(M.off _ _ hn n1 o1).trans o4
 refine⟨_,EJ pg st (vv pg st G k f s t) q k f',L1,o1,n1,m1,by rw[em];exact L3,by rw[em];exact oB,?_,fun a p ha hp=>?_,fun a ha=>?_⟩
 ·rw[em]
  exact Ln.uniq L3 L4 (oB.symm.trans oY)
 ·rw[←m2 a p ha hp]
  unfold EJ
  by_cases hz:aC pg st k f'=0
  ·rw[if_pos hz]
  ·rw[if_neg hz]
   by_cases e:a=aC pg st k f'
   ·subst e;rw[bR];simp[hp]
   ·rw[bM _ _ _ e]
 ·unfold EJ
  by_cases hz:aC pg st k f'=0
  ·rw[if_pos hz]
   exact⟨fun z=>absurd z (m1 a ha),fun z=>by have:=(jI H ha).1;omega⟩
  ·rw[if_neg hz]
   by_cases e:a=aC pg st k f'
   ·subst e;rw[bR];simp
   ·rw[bM _ _ _ e]
    exact⟨fun z=>absurd z (m1 a ha),fun z=>absurd z.symm e⟩
end
structure PgF (pg st:Int)(G:Int→List Int)(ws:List Int):Prop where
 wf:Wf pg st ws
 cnt:∀p,af pg p=true→1≤aj pg st ws p∧aj pg st ws p≤5→aL pg st ws p=eA (aj pg st ws p-1) (bz pg st ws p)∧aL pg st ws p<ao (aj pg st ws p-1)
 mem:∀a p,cE pg st a→(p∈G a↔af pg p=true∧(1≤aj pg st ws p∧aj pg st ws p≤5)∧aC pg st (aj pg st ws p-1) (aL pg st ws p)=a)
structure PgW (pg st:Int)(G:Int→List Int)(ws:List Int):Prop where
 ln:Ln pg st G ws
 f:PgF pg st G ws
theorem PgF.kd {pg st:Int}{G:Int→List Int}{ws:List Int}(F:PgF pg st G ws):∀p,af pg p=true→0≤aj pg st ws p∧aj pg st ws p≤7:=F.wf.b
theorem PgF.free {pg st:Int}{G:Int→List Int}{ws:List Int}(F:PgF pg st G ws):∀p,af pg p=true→aj pg st ws p=0→aL pg st ws p=0∧bz pg st ws p=0:=fun p _=>F.wf.free p
theorem PgF.map {pg st:Int}{G:Int→List Int}{ws:List Int}(F:PgF pg st G ws):∀p,af pg p=true→aj pg st ws p≠0→aG pg st ws (p / 4)=true:=F.wf.map
theorem Wf.alike {pg st:Int}{a b:List Int}(w:Wf pg st a)(hk:∀p,aj pg st b p=aj pg st a p)(hc:∀p,af pg p=true→aL pg st b p=aL pg st a p)(hb:∀p,af pg p=true→bz pg st b p=bz pg st a p)(hm:∀p,af pg p=true→aG pg st b (p / 4)=aG pg st a (p / 4)):Wf pg st b:=by
 refine⟨fun p hp=>by rw[hk];exact w.b p hp,fun p e=>by rw[hk] at e⊢;exact w.rest p e,fun p e=>?_,fun p e=>?_,fun p hp e=>by rw[hk] at e;rw[hm p hp];exact w.map p hp e⟩
 ·rw[hk] at e
  have hp:=ag.2 (fJ (pg:=pg) (ws:=a) (st:=st) (p:=p) (by omega))
  obtain⟨r0,r1,r2,r3⟩:=w.run p e
  rw[hc p hp]
  exact⟨r0,r1,fun i i0 i1=>by rw[hk];exact r2 i i0 i1,by rw[hk];exact r3⟩
 ·rw[hk] at e
  have hp:=ag.2 (fJ (pg:=pg) (ws:=a) (st:=st) (p:=p) (by omega))
  rw[hc p hp,hb p hp]
  exact w.free p e
theorem Wf.turn {pg st:Int}{a b:List Int}(w:Wf pg st a){q:Int}(hq:af pg q=true){k f c:Int}(kq:aj pg st a q≤5)
 (hk:∀p,af pg p=true→aj pg st b p=if p=q then k else aj pg st a p) (hc:∀p,af pg p=true→aL pg st b p=if p=q then f else aL pg st a p) (hb:∀p,af pg p=true→bz pg st b p=if p=q then c else bz pg st a p)
 (hm:∀p,af pg p=true→p≠q→aG pg st a (p / 4)=true→aG pg st b (p / 4)=true) (hmq:k≠0→aG pg st b (q / 4)=true)
 (k0:0≤k∧k≤5) (kf:k=0→f=0∧c=0):Wf pg st b:=by
 have hout:∀p,p≠q→aj pg st b p=aj pg st a p:=fun p e=>by
  cases hp:af pg p with
  |true=>rw[hk p hp,if_neg e]
  |false=>rw[dE hp,dE hp]
 have hqq:aj pg st b q=k:=by rw[hk q hq,if_pos rfl]
 have pg_of:∀p,aj pg st b p≠ -1→af pg p=true:=fun p e=>ag.2 (fJ (pg:=pg) (ws:=b) (st:=st) (p:=p) e)
 refine⟨fun p hp=>?_,fun p e=>?_,fun p e=>?_,fun p e=>?_,fun p hp e=>?_⟩
 ·rw[hk p hp];split
  ·omega
  ·exact w.b p hp
 ·have hpq:p≠q:=fun z=>by rw[z,hqq] at e;omega
  rw[hout p hpq] at e
  have h1:=w.rest p e
  have:p-1≠q:=fun z=>by rw[z] at h1;omega
  rw[hout _ this];exact h1
 ·have hpq:p≠q:=fun z=>by rw[z,hqq] at e;omega
  rw[hc p (pg_of p (by omega)),if_neg hpq]
  rw[hout p hpq] at e
  obtain⟨r0,r1,r2,r3⟩:=w.run p e
  refine⟨r0,r1,fun i i0 i1=>?_,fun z=>r3 ?_⟩
  ·have h1:=r2 i i0 i1
   have:i≠q:=fun z=>by rw[z] at h1;omega
   rw[hout i this];exact h1
  ·have:p+aL pg st a p≠q:=fun y=>by rw[y,hqq] at z;omega
   rwa [hout _ this] at z
 ·have hp:=pg_of p (by omega)
  rw[hc p hp,hb p hp]
  by_cases z:p=q
  ·rw[if_pos z,if_pos z];rw[z,hqq] at e;exact kf e
  ·rw[if_neg z,if_neg z];rw[hout p z] at e;exact w.free p e
 ·rw[hk p hp] at e
  by_cases z:p=q
  ·rw[if_pos z] at e;rw[z];exact hmq e
  ·rw[if_neg z] at e;exact hm p hp z (w.map p hp e)
section
variable {pg st:Int}{n:Nat}(H:cB pg st n)
include H
theorem PgF.off {G:Int→List Int}{a b:List Int}(F:PgF pg st G a)(o:dy pg st a b):PgF pg st G b:=by
 refine⟨F.wf.alike (fun p=>o.kind H p) (fun p hp=>o.cnt H hp) (fun p hp=>o.bit H hp) (fun p hp=>o.map H _),fun p hp=>by rw[o.kind H,o.cnt H hp,o.bit H hp];exact F.cnt p hp,fun x p hx=>?_⟩
 rw[F.mem x p hx]
 constructor
 ·rintro⟨h1,h2,h3⟩
  exact⟨h1,by rw[o.kind H];exact h2,by rw[o.kind H,o.cnt H h1];exact h3⟩
 ·rintro⟨h1,h2,h3⟩
  rw[o.kind H] at h2
  rw[o.kind H,o.cnt H h1] at h3
  exact⟨h1,h2,h3⟩
theorem PgF.turn {G G2:Int→List Int}{a b:List Int}(F:PgF pg st G a){q:Int}(hq:af pg q=true){k f c:Int}(kq:aj pg st a q≤5)
 (hk:∀p,af pg p=true→aj pg st b p=if p=q then k else aj pg st a p) (hc:∀p,af pg p=true→aL pg st b p=if p=q then f else aL pg st a p) (hb:∀p,af pg p=true→bz pg st b p=if p=q then c else bz pg st a p)
 (hm:∀p,af pg p=true→p≠q→aG pg st a (p / 4)=true→aG pg st b (p / 4)=true) (hmq:k≠0→aG pg st b (q / 4)=true)
 (k0:0≤k∧k≤5) (kf:k=0→f=0∧c=0) (kc:1≤k→f=eA (k-1) c∧f<ao (k-1))
 (g1:∀x p,cE pg st x→p≠q→(p∈G2 x↔p∈G x)) (g2:∀x,cE pg st x→(q∈G2 x↔1≤k∧aC pg st (k-1) f=x)):PgF pg st G2 b:=by
 refine⟨F.wf.turn hq kq hk hc hb hm hmq k0 kf,fun p hp=>?_,fun x p hx=>?_⟩
 ·rw[hk p hp,hc p hp,hb p hp];split
  ·exact fun z=>kc z.1
  ·exact F.cnt p hp
 ·by_cases e:p=q
  ·subst e
   rw[g2 x hx,hk p hq,hc p hq,if_pos rfl,if_pos rfl]
   exact⟨fun z=>⟨hq,⟨z.1,k0.2⟩,z.2⟩,fun z=>⟨z.2.1.1,z.2.2⟩⟩
  ·rw[g1 x p hx e,F.mem x p hx]
   constructor
   ·rintro⟨h1,h2⟩
    rw[hk p h1,hc p h1,if_neg e,if_neg e];exact⟨h1,h2⟩
   ·rintro⟨h1,h2⟩
    rw[hk p h1,hc p h1,if_neg e,if_neg e] at h2;exact⟨h1,h2⟩
theorem fU {q:Int}(h:af pg q=true)(b f:Int){ws:List Int}(hn:ws.length=n)(p:Int):aj pg st (ct pg st q b f ws) p=aj pg st ws p:=by
 cases hp:af pg p with
 |false=>rw[dE hp,dE hp]
 |true =>
  have h0:=(cG H.toPgIn hp).1.1
  have:=ag.1 h;have:=ag.1 hp
  rw[fI hp,fI hp,gK H h b f hn (by omega),if_neg (by unfold kA cA;omega),if_neg (by unfold kA bA;omega)]
theorem iI {q:Int}(h:af pg q=true)(b f:Int){ws:List Int}(hn:ws.length=n){p:Int}(hp:af pg p=true):aL pg st (ct pg st q b f ws) p=if p=q then f else aL pg st ws p:=by
 have:=ag.1 h;have:=ag.1 hp
 unfold aL
 rw[gK H h b f hn (iH H hp).1.1]
 by_cases e:p=q
 ·rw[if_pos e,if_pos (by rw[e])]
 ·rw[if_neg e,if_neg (by unfold cA;omega),if_neg (by unfold cA bA;omega)]
theorem iJ {q:Int}(h:af pg q=true)(b f:Int){ws:List Int}(hn:ws.length=n){p:Int}(hp:af pg p=true):bz pg st (ct pg st q b f ws) p=if p=q then b else bz pg st ws p:=by
 have:=ag.1 h;have:=ag.1 hp
 unfold bz
 rw[gK H h b f hn (iH H hp).2.1,if_neg (by unfold cA bA;omega)]
 by_cases e:p=q
 ·rw[if_pos e,if_pos (by rw[e])]
 ·rw[if_neg e,if_neg (by unfold bA;omega)]
theorem gX {q:Int}(h:af pg q=true)(b f:Int){ws:List Int}(hn:ws.length=n)(j:Int):aG pg st (ct pg st q b f ws) j=aG pg st ws j:=by
 unfold aG
 cases hj:aU pg j with
 |false=>rfl
 |true =>
  have h0:=(jZ H.toTblIn hj).1
  obtain⟨t0,t1,t2⟩:=kD H.toPgIn hj h
  rw[gK H h b f hn (by omega),if_neg t1,if_neg t2]
theorem Ji {G:Int→List Int}{ws:List Int}(L:Ln pg st G ws){k f:Int}(h0:aC pg st k f≠0):aW pg (aC pg st k f) ws=ff (G (aC pg st k f)):=by
 have ha:=(dF h0).1
 have:=(jI H ha).1
 exact mP H (by omega) (L.head _ ha) (L.page _ ha)
theorem EM {G:Int→List Int}{ws:List Int}(L:Ln pg st G ws){k:Int}(hk:0≤k∧k≤4)(m:Nat):∀f:Int,1≤f→f+m=ao k+1 →
 (bB pg st k m f ws= -1∧∀x,f≤x→x≤ao k→G (aC pg st k x)= []) ∨
 ∃x t,f≤x∧x≤ao k∧aC pg st k x≠0∧G (aC pg st k x)=bB pg st k m f ws::t∧∀y,f≤y→y<x→G (aC pg st k y)= []:=by
 have hs:=rz hk
 have hh:∀x,1≤x→x≤ao k→aC pg st k x≠0:=fun x h1 h2=>by
  have h3:=H.st1;have h4:=H.pg1
  unfold aC;rw[if_pos ⟨hk.1,hk.2,h1,by omega⟩]
  unfold aO aN aD dI
  (repeat' split)<;>omega
 induction m with
 |zero=>intro f h1 h2;exact .inl ⟨rfl,fun x h3 h4=>by omega⟩
 |succ m ih =>
  intro f h1 h2
  have hz:=hh f h1 (by omega)
  have hl:=Ji H L hz
  show(((if aW pg (aC pg st k f) ws= -1 then bB pg st k m (f+1) ws else aW pg (aC pg st k f) ws)= -1)∧_)∨∃x t,f≤x∧x≤ao k∧aC pg st k x≠0∧G (aC pg st k x)=(if aW pg (aC pg st k f) ws= -1 then bB pg st k m (f+1) ws else aW pg (aC pg st k f) ws)::t∧_
  rw[hl]
  cases hG:G (aC pg st k f) with
  |nil =>
   rw[show ff ([]:List Int)= -1 from rfl,if_pos rfl]
   rcases ih (f+1) (by omega) (by omega) with⟨h3,h4⟩|⟨x,t,h3,h4,h5,h6,h7⟩
   ·refine .inl ⟨h3,fun x h5 h6=>?_⟩
    by_cases e:x=f
    ·rw[e];exact hG
    ·exact h4 x (by omega) h6
   ·refine .inr ⟨x,t,by omega,h4,h5,h6,fun y h8 h9=>?_⟩
    by_cases e:y=f
    ·rw[e];exact hG
    ·exact h7 y (by omega) h9
  |cons p t =>
   have hp:=ag.1 (L.page _ (dF hz).1 p (by rw[hG];simp))
   rw[show ff (p::t)=p from rfl,if_neg (by omega)]
   exact .inr ⟨f,t,Int.le_refl _,by omega,hz,hG,fun y h8 h9=>by omega⟩
theorem EO (ws:List Int):(dD pg st 1 1 ws= -1∧∀p,af pg p=true→aj pg st ws p≠0)∨(af pg (dD pg st 1 1 ws)=true∧aj pg st ws (dD pg st 1 1 ws)=0):=by
 have h1:=H.pg1
 have key:∀f:Int→Bool,(cj f pg 1 1= -1∧∀p,af pg p=true→f p=false)∨(af pg (cj f pg 1 1)=true∧f (cj f pg 1 1)=true):=fun f=>by
  rcases jG (f:=f) (pg:=pg) (m:=1) (step:=1) (by omega) (by omega) (pg.toNat+1) 0 0 rfl (by omega) (by omega) with⟨e,hn⟩|⟨k,e,h0,hh,_⟩
  ·refine .inl ⟨e,fun p hp=>?_⟩
   have hp:=ag.1 hp
   cases hf:f p with
   |false=>rfl
   |true =>
    refine absurd ?_ (hn p (by omega))
    rw[Int.mul_one]
    exact⟨by omega,fun i i0 i1=>by rw[show i=p by omega];exact hf⟩
  ·rw[Int.mul_one] at e hh h0
   have e:cj f pg 1 1=k:=e
   rw[e]
   exact .inr ⟨ag.2 ⟨h0,by have:=hh.1;omega⟩,hh.2 k (by omega) (by omega)⟩
 unfold dD
 rw[if_pos ⟨by omega,by omega⟩]
 rcases key (dW pg st ws) with⟨e,hn⟩|⟨e,hf⟩
 ·rw[if_pos e]
  rcases key (fH pg st ws) with⟨e2,hn2⟩|⟨e2,hf2⟩
  ·refine .inl ⟨e2,fun p hp=>?_⟩
   have:=hn2 p hp
   simpa [fH] using this
  ·refine .inr ⟨e2,?_⟩
   simpa [fH] using hf2
 ·have:=ag.1 e
  rw[if_neg (by omega)]
  refine .inr ⟨e,?_⟩
  simp[dW] at hf
  exact hf.2
theorem EP {y k:Int}(hk:0≤k∧k≤4){ws:List Int}(hn:ws.length=n)(hy:af pg y=true)(h0:aj pg st ws y=0):(dP pg st y 1 (k+1) ws).1=true∧Bf pg st y 1 (k+1) ws (dP pg st y 1 (k+1) ws).2:=by
 have hp:=ag.1 hy
 have ht:aZ pg y 1=true:=bo.2 ⟨hp.1,by omega,by omega⟩
 have hv:j3 pg st y 1 ws=true:=fa.2 ⟨ht,fun i i0 i1=>by rw[show i=y by omega];exact h0⟩
 have hf:qR (k+1) 1=true:=mH.2 (.inr ⟨by omega,by omega,rfl⟩)
 have T:=rF H.toPgIn (p:=y) (m:=1) (k:=k+1) hn ht
 unfold dP
 rw[hf,hv]
 exact⟨rfl,T⟩
theorem zB {y m k:Int}{a b:List Int}(T:Bf pg st y m k a b):∀i,0≤i→¬NoL pg st i→wAt b i=wAt a i:=fun i h0 h1 =>
 T.off i h0 (fun p hp=>⟨fun z=>h1 (by rw[z];exact vu H hp),fun z=>h1 (by rw[z];exact rK H hp),fun z=>h1 (by rw[z];exact rM H hp)⟩) (fun j hj z=>h1 (by rw[z];exact EG H hj))
theorem jj {α:Type}{p:Prg α}{g:List Int→α×List Int}(hF:bO n p g){ws:List Int}(hn:ws.length=n)(ho:OkW ws):OkW (g ws).2∧(g ws).2.length=n:=by
 obtain⟨D,_,a,i⟩:=hF ws [] hn ho (fZ _)
 have a:bG ws D=(g ws).2:=a
 rw[←a]
 exact⟨zA ho i hn,by rw[dS];exact hn⟩
end
section
variable {pg st:Int}{n:Nat}(H:cB pg st n)
include H
theorem mi (us:Int){k:Int}(h:ao k=0)(ws:List Int):dR us pg st k ws=((0,false),ws):=by
 unfold dR gi
 rw[if_pos h]
 unfold mh
 rw[if_pos rfl]
theorem BE {m k:Int}(ws:List Int):dP pg st (-1) m k ws=(false,ws):=by
 have:j3 pg st (-1) m ws=false:=by
  cases e:j3 pg st (-1) m ws with
  |false=>rfl
  |true=>have:=bo.1 (fa.1 e).1;omega
 unfold dP
 rw[this]
 simp
theorem mj (us:Int){k:Int}(hs:ao k≠0){ws:List Int}(h1:bB pg st k (ao k).toNat 1 ws= -1)(h2:dD pg st 1 1 ws= -1):dR us pg st k ws=((0,false),ws):=by
 have e:gi pg st k ws=(-1,ws):=by
  unfold gi jJ
  rw[if_neg hs,h1,if_pos rfl,h2,BE H]
  rfl
 unfold dR
 rw[e]
 unfold mh
 rw[if_pos rfl]
theorem BF {k:Int}(hs:ao k≠0){ws:List Int}{q:Int}(h1:bB pg st k (ao k).toNat 1 ws=q)(hq:q≠ -1):gi pg st k ws=(q,ws):=by
 unfold gi jJ
 rw[if_neg hs,h1,if_neg hq]
theorem BI {k:Int}(hs:ao k≠0){ws:List Int}{y:Int}(h1:bB pg st k (ao k).toNat 1 ws= -1)(h2:dD pg st 1 1 ws=y)(h3:(dP pg st y 1 (k+1) ws).1=true):gi pg st k ws=(y,(dP pg st y 1 (k+1) ws).2):=by
 unfold gi jJ
 rw[if_neg hs,h1,if_pos rfl,h2,h3]
 rfl
theorem qc {q k b f:Int}(ho:eA k b=f)(hf:f≠ao k)(ws:List Int):oa pg st q k b ws=ct pg st q b f ws:=by
 unfold oa ct
 rw[if_neg (by rw[ho];exact hf),ho]
structure mS (pg st:Int)(n:Nat)(q k f f':Int)(T:List Int→List Int)(ws:List Int)(G G1 G2:Int→List Int)(u X:List Int):Prop where
 eu:(aY pg st q k f ws).2=u
 l1:Ln pg st G1 u
 nu:u.length=n
 o1:dy pg st ws u
 m1:∀a,cE pg st a→q∉G1 a
 lt:Ln pg st G1 (T u)
 nt:(T u).length=n
 eX:(bZ pg st q k f' (T u)).2=X
 eM:kH pg st q k f (T ws)=X
 l2:Ln pg st G2 X
 o2:dy pg st (T ws) X
 m2:∀a p,cE pg st a→p≠q→(p∈G2 a↔p∈G a)
 m3:∀a,cE pg st a→(q∈G2 a↔aC pg st k f'=a)
theorem tx {q k f f':Int}{T:List Int→List Int}(M:Mod pg st n q f' T)(hq:af pg q=true){G:Int→List Int}{ws:List Int}(L:Ln pg st G ws)(hn:ws.length=n)
 (hin:∀a,cE pg st a→(q∈G a↔aC pg st k f=a)):∃G1 G2 u X,mS pg st n q k f f' T ws G G1 G2 u X:=by
 obtain⟨G1,G2,h1,h2,h3,h4,h5,h6,h7,h8,h9⟩:=Ke H M hq L hn hin
 exact⟨G1,G2,_,_,⟨rfl,h1,h3,h2,h4,h1.same H (M.no _ h3),M.len _ h3,h7,rfl,h5,h6,h8,h9⟩⟩
theorem qe (us:Int){k:Int}(hs:ao k≠0){G:Int→List Int}{ws:List Int}(P:PgW pg st G ws)(hn:ws.length=n){q:Int}(h1:bB pg st k (ao k).toNat 1 ws=q)(hq:q≠ -1):
 ∃(j:Nat) (G1 G2:Int→List Int) (u X:List Int),af pg q=true∧aj pg st ws q=k+1∧1≤aL pg st ws q∧(∀y,1≤y→y<aL pg st ws q→G (aC pg st k y)= []) ∧
  cO (bz pg st ws q) (ao k)=(j:Int)∧(j:Int)<ao k∧dm (bz pg st ws q) j=false ∧
  mS pg st n q k (aL pg st ws q) (aL pg st ws q-1) (ct pg st q (eQ (bz pg st ws q) j) (aL pg st ws q-1)) ws G G1 G2 u X ∧
  dR us pg st k ws=((us+32 * q+j * szV k,true),X)∧PgW pg st G2 X:=by
 have hk:=eK hs
 obtain⟨L,F⟩:=P
 rcases EM H L hk (ao k).toNat 1 (by omega) (by have:=dN k;omega) with⟨e,_⟩|⟨x,t,x1,x2,hz,hG,hno⟩
 ·exact absurd (h1.symm.trans e) hq
 rw[h1] at hG
 have ha:=(dF hz).1
 have hm:=(F.mem _ q ha).1 (by rw[hG];simp)
 obtain⟨hqp,hk1,hh⟩:=hm
 have hkb:=F.kd q hqp
 have hc:=F.cnt q hqp hk1
 have inj:=Ey hz hh.symm
 have ek:aj pg st ws q=k+1:=by omega
 have ef:aL pg st ws q=x:=inj.2.symm
 rw[ek] at hc
 have hop:eA k (bz pg st ws q)=aL pg st ws q:=by rw[hc.1];congr 1;omega
 obtain⟨j,hj1,hj2,hj3,hj4⟩:=yi (b:=bz pg st ws q) (k:=k) (by omega)
 have hlt:aL pg st ws q<ao k:=by have:=hc.2;rwa [show k+1-1=k by omega] at this
 obtain⟨G1,G2,u,X,M⟩:=tx H (qb H hqp (eQ (bz pg st ws q) j) (aL pg st ws q-1)) hqp L hn (k:=k) (f:=aL pg st ws q) (fun a h=>by
  rw[F.mem a q h,ek,show k+1-1=k by omega]
  exact⟨fun z=>z.2.2,fun z=>⟨hqp,by omega,z⟩⟩)
 refine⟨j,G1,G2,u,X,hqp,ek,by omega,fun y y1 y2=>hno y y1 (by omega),hj1,hj2,hj3,M,?_,M.l2,?_⟩
 ·unfold dR
  rw[BF H hs h1 hq]
  unfold mh
  rw[if_neg hq,if_neg (by rw[hj1];omega),hj1]
  unfold gj
  rw[qc H (f:=aL pg st ws q-1) (by rw[hj4,hop]) (by omega),M.eM]
 ·refine PgF.off H (a:=ct pg st q (eQ (bz pg st ws q) j) (aL pg st ws q-1) ws) ?_ M.o2
  refine F.turn H hqp (k:=k+1) (f:=aL pg st ws q-1) (c:=eQ (bz pg st ws q) j) (by omega) (fun p hp=>?_) (fun p hp=>iI H hqp _ _ hn hp) (fun p hp=>iJ H hqp _ _ hn hp) (fun p _ _ h=>by rw[gX H hqp _ _ hn];exact h) (fun _=>by rw[gX H hqp _ _ hn];exact F.map q hqp (by omega)) (by omega) (by omega) (fun _=>?_) M.m2 (fun a h=>?_)
  ·rw[fU H hqp _ _ hn];split
   ·rename_i e;rw[e];exact ek
   ·rfl
  ·rw[show k+1-1=k by omega,hj4,hop];omega
  ·rw[M.m3 a h,show k+1-1=k by omega]
   exact⟨fun z=>⟨by omega,z⟩,fun z=>z.2⟩
theorem qg (us:Int){k:Int}(hs:ao k≠0){G:Int→List Int}{ws:List Int}(P:PgW pg st G ws)(hn:ws.length=n){y:Int}(h1:bB pg st k (ao k).toNat 1 ws= -1)(h2:dD pg st 1 1 ws=y)(hy:y≠ -1):
 ∃(G1 G2:Int→List Int) (w1 X:List Int),af pg y=true∧aj pg st ws y=0∧dP pg st y 1 (k+1) ws=(true,w1)∧Bf pg st y 1 (k+1) ws w1∧w1.length=n∧Ln pg st G w1 ∧
  mS pg st n y k 0 (ao k-1) (ct pg st y (eQ 0 0) (ao k-1)) w1 G G1 G2 w1 X ∧
  dR us pg st k ws=((us+32 * y,true),X)∧PgW pg st G2 X:=by
 have hk:=eK hs
 have hsl:=dN k
 obtain⟨L,F⟩:=P
 have hfy:=(EO H ws).resolve_left (fun z=>hy (h2.symm.trans z.1))
 rw[h2] at hfy
 obtain⟨hyp,hk0⟩:=hfy
 obtain⟨t1,T⟩:=EP H hk hn hyp hk0
 obtain⟨w1,ew⟩:∃w1,(dP pg st y 1 (k+1) ws).2=w1:=⟨_,rfl⟩
 rw[ew] at T
 have n1:w1.length=n:=T.len.trans hn
 have L1:Ln pg st G w1:=L.same H (zB H T)
 have hno:∀a,cE pg st a→y∉G a:=fun a h z=>by have:=((F.mem a y h).1 z).2.1;omega
 have hb1:bz pg st w1 y=0:=by rw[T.bit y hyp,if_pos (by omega)]
 have hc1:aL pg st w1 y=0:=by rw[T.cnt y hyp,if_pos rfl,if_neg (by omega)]
 have hz0:aC pg st k 0=0:=by unfold aC;rw[if_neg (by omega)]
 have hos:eA k (eQ 0 0)=ao k-1:=by
  have:=p9 (b:=0) (k:=k) (j:=0) (by omega) (kI 0)
  rw[Bz] at this
  exact this
 obtain⟨G1,G2,u,X,M⟩:=tx H (qb H hyp (eQ 0 0) (ao k-1)) hyp L1 n1 (k:=k) (f:=0) (fun a h=>⟨fun z=>absurd z (hno a h),fun z=>by have:=(jI H h).1;omega⟩)
 have eu:u=w1:=by rw[←M.eu,k8 H L1 (fun _ z=>absurd hz0 z)]
 subst eu
 refine⟨G1,G2,u,X,hyp,hk0,Prod.ext t1 ew,T,n1,L1,M,?_,M.l2,?_⟩
 ·unfold dR
  rw[BI H hs h1 h2 t1,ew]
  unfold mh
  rw[if_neg hy]
  show(if cO (bz pg st u y) (ao k)= -1 then _ else _)=_
  rw[hb1,qa hs,if_neg (by omega),hc1]
  unfold gj
  rw[qc H (f:=ao k-1) hos (by omega),M.eM]
  simp
 ·refine PgF.off H (a:=ct pg st y (eQ 0 0) (ao k-1) u) ?_ M.o2
  refine F.turn H hyp (k:=k+1) (f:=ao k-1) (c:=eQ 0 0) (by omega) (fun p hp=>?_) (fun p hp=>?_) (fun p hp=>?_) (fun p hp hne h=>?_) (fun _=>?_) (by omega) (by omega) (fun _=>?_) M.m2 (fun a h=>?_)
  ·rw[fU H hyp _ _ n1,T.kind]
   by_cases e:p=y
   ·rw[if_pos e,if_pos e]
   ·rw[if_neg e,if_neg e,if_neg (by omega)]
  ·rw[iI H hyp _ _ n1 hp,T.cnt p hp]
   by_cases e:p=y
   ·rw[if_pos e,if_pos e]
   ·rw[if_neg e,if_neg e,if_neg e,if_neg (by omega)]
  ·rw[iJ H hyp _ _ n1 hp,T.bit p hp]
   by_cases e:p=y
   ·rw[if_pos e,if_pos e]
   ·rw[if_neg e,if_neg e,if_neg (by omega)]
  ·rw[gX H hyp _ _ n1,T.map _ (pU hp),h];rfl
  ·rw[gX H hyp _ _ n1,T.map _ (pU hyp)]
   simp
  ·rw[show k+1-1=k by omega,hos]
   exact⟨rfl,by omega⟩
  ·rw[M.m3 a h,show k+1-1=k by omega]
   exact⟨fun z=>⟨by omega,z⟩,fun z=>z.2⟩
theorem qh {us a:Int}{G:Int→List Int}{ws:List Int}(F:PgF pg st G ws){q k i:Int}{t:Bool}(h:dp us pg st a ws=some (q,k,i,t)):
 af pg q=true∧aj pg st ws q=k+1∧0≤k∧k≤4∧0≤i∧i<ao k∧t=cK (bz pg st ws q) i∧a=us+32 * q+i * szV k:=by
 unfold dp at h
 split at h
 ·rename_i hin
  obtain⟨hq,hw⟩:=mK hin
  have hkd:=F.kd _ hq
  have hwr:IntKind.i64.wrap (aj pg st ws ((a-us) / 32)-1)=aj pg st ws ((a-us) / 32)-1:=am (by omega) (by omega)
  unfold ij at h
  rw[hwr] at h
  split at h
  ·cases h
  ·rename_i hz
   split at h
   ·cases h
   ·rename_i hm
    have hk:=eK hz
    obtain⟨z,hzk⟩:∃z:Nat,aj pg st ws ((a-us) / 32)-1=(z:Int):=⟨_,(Int.toNat_of_nonneg hk.1).symm⟩
    simp only[Option.some.injEq,Prod.mk.injEq] at h
    obtain⟨rfl,rfl,rfl,rfl⟩:=h
    rw[hzk] at hk hm⊢
    have hsb:=uS (k:=z) (by omega)
    have hm:(a-us) % 32 % szV (z:Int)=0:=by simpa using hm
    have hsz:=kB (k:=z) (by omega)
    have hd:=Int.emod_add_mul_ediv ((a-us) % 32) (szV (z:Int))
    rw[hm] at hd
    refine⟨hq,by omega,hk.1,hk.2,Int.ediv_nonneg hw.1 (by omega),?_,rfl,?_⟩
    ·have hz4:z=0∨z=1∨z=2∨z=3∨z=4:=by omega
     generalize (a-us) % 32=wd at hw hm⊢
     rcases hz4 with rfl|rfl|rfl|rfl|rfl
     ·show wd / 1<32;omega
     ·show wd / 2<16;omega
     ·show wd / 4<8;omega
     ·show wd / 8<4;omega
     ·show wd / 16<2;omega
    ·rw[Int.mul_comm ((a-us) % 32 / szV (z:Int)) (szV (z:Int))]
     omega
 ·cases h
theorem mT (us:Int){a:Int}{G:Int→List Int}{ws:List Int}(P:PgW pg st G ws)(hn:ws.length=n)(ho:OkW ws){q k i:Int}(h:gU (dp us pg st a ws)=some (q,k,i)):
 af pg q=true∧aj pg st ws q=k+1∧0≤k∧k≤4∧0≤i∧i<ao k∧cK (bz pg st ws q) i=true∧a=us+32 * q+i * szV k∧0≤aL pg st ws q∧aL pg st ws q<ao k ∧
 (aL pg st ws q+1≠ao k→∃G1 G2 u X,mS pg st n q k (aL pg st ws q) (aL pg st ws q+1) (ct pg st q (cC (bz pg st ws q) i) (aL pg st ws q+1)) ws G G1 G2 u X∧fT us pg st a ws=(true,X)∧PgW pg st G2 X) ∧
 (aL pg st ws q+1=ao k→∃G1 G2 u X,mS pg st n q k (aL pg st ws q) 0 (bD pg st q 0 0) ws G G1 G2 u X∧fT us pg st a ws=(true,X)∧PgW pg st G2 X):=by
 obtain⟨L,F⟩:=P
 obtain⟨hq,ek,k0,k4,i0,i1,ht,ha⟩:=qh H F (iE h)
 have hc:=F.cnt q hq (by omega)
 rw[ek,show k+1-1=k by omega] at hc
 have hcb:=IB (bz pg st ws q) k
 have hcl:=yj (b:=bz pg st ws q) (k:=k) (mR ho _) i0 i1 ht.symm
 have hin:∀a,cE pg st a→(q∈G a↔aC pg st k (aL pg st ws q)=a):=fun a h=>by
  rw[F.mem a q h,ek,show k+1-1=k by omega]
  exact⟨fun z=>z.2.2,fun z=>⟨hq,by omega,z⟩⟩
 refine⟨hq,ek,k0,k4,i0,i1,ht.symm,ha,by omega,hc.2,fun hne=>?_,fun he=>?_⟩
 ·obtain⟨G1,G2,u,X,M⟩:=tx H (qb H hq (cC (bz pg st ws q) i) (aL pg st ws q+1)) hq L hn (k:=k) (f:=aL pg st ws q) hin
  refine⟨G1,G2,u,X,M,?_,M.l2,?_⟩
  ·unfold fT
   rw[h]
   show(true,gj _ _ _ _ _ _ _)=_
   unfold gj
   rw[qc H (f:=aL pg st ws q+1) (by rw[hcl,hc.1]) hne,M.eM]
  ·refine PgF.off H (a:=ct pg st q (cC (bz pg st ws q) i) (aL pg st ws q+1) ws) ?_ M.o2
   refine F.turn H hq (k:=k+1) (f:=aL pg st ws q+1) (c:=cC (bz pg st ws q) i) (by omega) (fun p hp=>?_) (fun p hp=>iI H hq _ _ hn hp) (fun p hp=>iJ H hq _ _ hn hp) (fun p _ _ h=>by rw[gX H hq _ _ hn];exact h) (fun _=>by rw[gX H hq _ _ hn];exact F.map q hq (by omega)) (by omega) (by omega) (fun _=>?_) M.m2 (fun a h=>?_)
   ·rw[fU H hq _ _ hn];split
    ·rename_i e;rw[e];exact ek
    ·rfl
   ·rw[show k+1-1=k by omega,hcl,hc.1]
    exact⟨rfl,by omega⟩
   ·rw[M.m3 a h,show k+1-1=k by omega]
    exact⟨fun z=>⟨by omega,z⟩,fun z=>z.2⟩
 ·obtain⟨G1,G2,u,X,M⟩:=tx H (EH H hq 0 0) hq L hn (k:=k) (f:=aL pg st ws q) hin
  have hd:(dQ pg st q ws).2=bD pg st q 0 0 ws:=by
   have hl:dX pg st q ws=1:=by unfold dX;rw[ek,if_pos (ta.2 ⟨by omega,by omega⟩)]
   unfold dQ
   rw[hl]
   rfl
  refine⟨G1,G2,u,X,M,?_,M.l2,?_⟩
  ·unfold fT
   rw[h]
   show(true,gj _ _ _ _ _ _ _)=_
   unfold gj oa
   rw[if_pos (by rw[hcl,←hc.1];exact he),hd,M.eM]
  ·refine PgF.off H (a:=bD pg st q 0 0 ws) ?_ M.o2
   have hz0:aC pg st k 0=0:=by unfold aC;rw[if_neg (by omega)]
   refine F.turn H hq (k:=0) (f:=0) (c:=0) (by omega) (fun p hp=>k7 H.toPgIn hq 0 0 hn p) (fun p hp=>kE H.toPgIn hq 0 0 hn hp) (fun p hp=>mM H.toPgIn hq 0 0 hn hp) (fun p _ _ h=>by rw[pS H.toPgIn hq 0 0 hn];exact h) (fun z=>absurd rfl z) (by omega) (fun _=>⟨rfl,rfl⟩) (fun z=>by omega) M.m2 (fun a h=>?_)
   rw[M.m3 a h,hz0]
   have:=(jI H h).1
   exact⟨fun z=>by omega,fun z=>by omega⟩
theorem tz {us a:Int}{ws:List Int}(h:gU (dp us pg st a ws)=none):fT us pg st a ws=(false,ws):=by
 unfold fT
 rw[h]
 rfl
end
open Go.RowKit
theorem od (c:Nat)(h4:c≤4)(w:World):
 Calls Tryz.prog 164 #[.int .i64 c] w (aF w (.int .i64 (dB c))):=by
 go_enter Tryz.func164,Tryz.ntmps164
 go_wp2_with fail
 go_loop [3,4] (fun n i=>∃k:Nat,k≤c∧i=.int .i64 k∧n=.int .i64 (dB k)) (fun _ i=>c-(intOf i).toNat)
 case atStart=>exact⟨0,Nat.zero_le _,rfl,rfl⟩
 case round =>
  obtain⟨k,hk,rfl,rfl⟩:=hrel
  by_cases hlt:k<c
  ·have d5:decide ((k:Int)<5)=true:=by simp;omega
   obtain⟨s1,s2,s3⟩:=wX k (by omega) (by omega)
   have HS:=hQQ s1;clear s1
   go_wp2_with fail
   go_round
   case rel=>exact⟨k+1,by omega,by go_num,by rw[HS.o];go_num⟩
   case measure=>simp[intOf];omega
  ·have he:k=c:=by omega
   subst he
   go_wp2_with fail
   go_ret
   exact⟨rfl,ae.refl _⟩
variable (wk cp pg st tr wt ck pr ca bi ba:Int)(w:World)
theorem jk (a:Int)(R:bP wk cp pg st tr wt ck pr ca bi ba)(c0:bH cp pg st ca bi≤a)(c1:a<cW cp pg st ca bi):
 Calls Tryz.prog 65 #[.agg #[.int .i64 wk,.int .i64 cp,.int .i64 pg,.int .i64 st,.int .i64 tr,.int .i64 wt,.int .i64 ck,.int .i64 pr,.int .i64 ca,.int .i64 bi,.int .i64 ba],.int .i64 a] w (aF w (.tuple #[.int .i64 ((a-bH cp pg st ca bi) / 32),.int .i64 ((a-bH cp pg st ca bi) % 32),.bool true])):=by
 have HR:=hQQ R
 have b1:=lQ R
 have b2:=eS R
 have d0:decide (a<bH cp pg st ca bi)=false:=by simp;omega
 have d1:decide (cW cp pg st ca bi≤a)=false:=by simp;omega
 have HN:=hQQ (aP w 27 wk cp pg st tr wt ck pr ca bi ba)
 obtain⟨e0,e1,e2,e3,e4,e5,e6,e7,e8,e9,e10⟩:=HN.o.cells (ae.refl _)
 clear R
 go_enter Tryz.func65,Tryz.ntmps65
 go_wp2_with fail
 refine(kp _ _ _ _ _ _ _ _ _ _ _ _ HR.o).mono ?_
 rintro e w1 ⟨rfl,h1⟩
 obtain⟨e0,e1,e2,e3,e4,e5,e6,e7,e8,e9,e10⟩:=HN.o.cells h1
 go_wp2_with fail
 refine(nL _ _ _ _ _ _ _ _ _ _ _ _ HR.o).mono ?_
 rintro e w2 ⟨rfl,h2⟩
 obtain⟨e0,e1,e2,e3,e4,e5,e6,e7,e8,e9,e10⟩:=HN.o.cells (h1.trans h2)
 go_wp2_with fail
 refine(kp _ _ _ _ _ _ _ _ _ _ _ _ HR.o).mono ?_
 rintro e w3 ⟨rfl,h3⟩
 go_wp2_with fail
 go_ret3
 exact⟨rfl,((((ae.refl _).alloc _).trans h1).trans h2).trans h3⟩
theorem qj (a:Int)(R:bP wk cp pg st tr wt ck pr ca bi ba)(c:a<bH cp pg st ca bi∨cW cp pg st ca bi≤a):
 Calls Tryz.prog 65 #[.agg #[.int .i64 wk,.int .i64 cp,.int .i64 pg,.int .i64 st,.int .i64 tr,.int .i64 wt,.int .i64 ck,.int .i64 pr,.int .i64 ca,.int .i64 bi,.int .i64 ba],.int .i64 a] w (aF w (.tuple #[.int .i64 0,.int .i64 0,.bool false])):=by
 have HR:=hQQ R
 have b1:=lQ R
 have b2:=eS R
 have HN:=hQQ (aP w 27 wk cp pg st tr wt ck pr ca bi ba)
 obtain⟨e0,e1,e2,e3,e4,e5,e6,e7,e8,e9,e10⟩:=HN.o.cells (ae.refl _)
 clear R
 by_cases c0:a<bH cp pg st ca bi
 ·have d0:decide (a<bH cp pg st ca bi)=true:=by simp;omega
  clear c
  go_enter Tryz.func65,Tryz.ntmps65
  go_wp2_with fail
  refine(kp _ _ _ _ _ _ _ _ _ _ _ _ HR.o).mono ?_
  rintro e w1 ⟨rfl,h1⟩
  go_wp2_with fail
  go_ret3
  exact⟨rfl,((ae.refl _).alloc _).trans h1⟩
 ·have d0:decide (a<bH cp pg st ca bi)=false:=by simp;omega
  have d1:decide (cW cp pg st ca bi≤a)=true:=by simp;omega
  clear c
  go_enter Tryz.func65,Tryz.ntmps65
  go_wp2_with fail
  refine(kp _ _ _ _ _ _ _ _ _ _ _ _ HR.o).mono ?_
  rintro e w1 ⟨rfl,h1⟩
  obtain⟨e0,e1,e2,e3,e4,e5,e6,e7,e8,e9,e10⟩:=HN.o.cells h1
  go_wp2_with fail
  refine(nL _ _ _ _ _ _ _ _ _ _ _ _ HR.o).mono ?_
  rintro e w2 ⟨rfl,h2⟩
  go_wp2_with fail
  go_ret3
  exact⟨rfl,(((ae.refl _).alloc _).trans h1).trans h2⟩
variable (wk cp pg st tr wt ck pr ca bi ba:Int)(w:World)
theorem yk (c f:Int)(h:c<0∨4<c):
 Calls Tryz.prog 162 #[.agg #[.int .i64 wk,.int .i64 cp,.int .i64 pg,.int .i64 st,.int .i64 tr,.int .i64 wt,.int .i64 ck,.int .i64 pr,.int .i64 ca,.int .i64 bi,.int .i64 ba],.int .i64 c,.int .i64 f] w (aF w (.int .i64 (aC pg st c f))):=by
 rw[show aC pg st c f=0 from if_neg (by omega)]
 by_cases c0:c<0
 ·have d0:decide (c<0)=true:=by simp;omega
  clear h
  go_enter Tryz.func162,Tryz.ntmps162
  go_wp2_with fail
  go_ret
  exact⟨rfl,(ae.refl _).alloc _⟩
 ·have d0:decide (c<0)=false:=by simp;omega
  have d1:decide (4<c)=true:=by simp;omega
  clear h
  go_enter Tryz.func162,Tryz.ntmps162
  go_wp2_with fail
  go_ret
  exact⟨rfl,(ae.refl _).alloc _⟩
theorem ES (c:Nat)(f:Int)(R:bP wk cp pg st tr wt ck pr ca bi ba)(hc4:c≤4)(f0:1≤f)(f1:f≤dB c):
 Calls Tryz.prog 162 #[.agg #[.int .i64 wk,.int .i64 cp,.int .i64 pg,.int .i64 st,.int .i64 tr,.int .i64 wt,.int .i64 ck,.int .i64 pr,.int .i64 ca,.int .i64 bi,.int .i64 ba],.int .i64 c,.int .i64 f] w (aF w (.int .i64 (aC pg st c f))):=by
 rw[show aC pg st c f=aO st pg+dI c+f-1 from if_pos (by omega)]
 have HR:=hQQ R
 have b1:=lP R
 have b2:=iw c (by omega) (by omega)
 have b3:=sA c (by omega) (by omega)
 have d0:decide ((c:Int)<0)=false:=by simp
 have d1:decide ((4:Int)<(c:Int))=false:=by simp;omega
 have t0:decide ((1:Int)≤f)=true:=by simp;omega
 have t1:decide (f≤dB c)=true:=by simp;omega
 have q0:IntKind.i64.wrap (aO st pg+dI c)=aO st pg+dI c:=am (by omega) (by omega)
 have q1:IntKind.i64.wrap (aO st pg+dI c+f)=aO st pg+dI c+f:=am (by omega) (by omega)
 have q2:IntKind.i64.wrap (aO st pg+dI c+f-1)=aO st pg+dI c+f-1:=am (by omega) (by omega)
 have HC:=hQQ (aP w 27 wk cp pg st tr wt ck pr ca bi ba)
 have HM:Hq (ae w (w.alloc (.cells #[.int .i64 wk,.int .i64 cp,.int .i64 pg,.int .i64 st,.int .i64 tr,.int .i64 wt,.int .i64 ck,.int .i64 pr,.int .i64 ca,.int .i64 bi,.int .i64 ba] 27))):=(ae.refl w).alloc _
 clear R
 go_enter Tryz.func162,Tryz.ntmps162
 go_wp2_with fail
 generalize w.alloc (.cells #[.int .i64 wk,.int .i64 cp,.int .i64 pg,.int .i64 st,.int .i64 tr,.int .i64 wt,.int .i64 ck,.int .i64 pr,.int .i64 ca,.int .i64 bi,.int .i64 ba] 27)=W0 at *
 go_loopw [7,8] (fun n i wr=>∃k:Nat,k≤c∧i=.int .i64 k∧n=.int .i64 (dI k)∧ae W0 wr) (fun _ i _=>c-(intOf i).toNat)
 case atStart=>exact⟨0,Nat.zero_le _,rfl,rfl,ae.refl _⟩
 case round =>
  obtain⟨k,hk,rfl,rfl,hm⟩:=hrel
  by_cases hlt:k<c
  ·obtain⟨a1,a2,a3⟩:=lR k (by omega) (by omega)
   have b4:=iw k (by omega) (by omega)
   have HA:=hQQ a1;clear a1
   have Hm:=hQQ hm;clear hm
   go_wp2_with fail
   refine(od k (by omega) _).mono ?_
   rintro e w1 ⟨rfl,h1⟩
   have H2:=hQQ (Hm.o.trans h1);clear h1
   go_wp2_with fail
   go_roundw
   case rel=>exact⟨k+1,by omega,by go_num,by rw[HA.o];go_num,H2.o⟩
   case measure=>simp[intOf];omega
  ·have he:k=c:=by omega
   subst he
   have HMr:=hQQ hm;clear hm
   have hne:∃W,ae wr W:=⟨wr,ae.refl _⟩
   go_wp2_with fail
   refine aw (by kernel_rfl) (by kernel_rfl) ?_
   iterate 17
    with_reducible refine wpQuiet_step (fun K hK=>?_)
    go_simp
    first
    |(refine hK _ ?_;clear hK K)
    |(apply Exists.intro
      refine⟨fun W hW=>?_,hK _ ?_⟩
      first
      |(go_at_call 143;exact Calls.more hW (sV _ _ _ _ _ _ _ _ _ _ _ _ HR.o))
      |(go_at_call 87;exact Calls.more hW (jF _ _))
      |(go_at_call 164;exact Calls.more hW (od k hc4 _))
      |(obtain⟨e0,e1,e2,e3,e4,e5,e6,e7,e8,e9,e10⟩:=HC.o.cells (HMr.o.trans hW);go_simp;try rfl)
      clear hK K)
   refine wpQuiet_nil ?_
   intro W hW
   have HW:=hQQ hW
   clear hW
   go_wp2_with fail
   go_ret
   exact⟨rfl,(HM.o.trans HMr.o).trans HW.o⟩
theorem BJ (c:Nat)(f:Int)(R:bP wk cp pg st tr wt ck pr ca bi ba)(hc4:c≤4)(f0:¬1≤f):
 Calls Tryz.prog 162 #[.agg #[.int .i64 wk,.int .i64 cp,.int .i64 pg,.int .i64 st,.int .i64 tr,.int .i64 wt,.int .i64 ck,.int .i64 pr,.int .i64 ca,.int .i64 bi,.int .i64 ba],.int .i64 c,.int .i64 f] w (aF w (.int .i64 (aC pg st c f))):=by
 rw[show aC pg st c f=0 from if_neg (by omega)]
 have HR:=hQQ R
 have b1:=lP R
 have b2:=iw c (by omega) (by omega)
 have b3:=sA c (by omega) (by omega)
 have d0:decide ((c:Int)<0)=false:=by simp
 have d1:decide ((4:Int)<(c:Int))=false:=by simp;omega
 have t0:decide ((1:Int)≤f)=false:=by simp;omega
 have HC:=hQQ (aP w 27 wk cp pg st tr wt ck pr ca bi ba)
 have HM:Hq (ae w (w.alloc (.cells #[.int .i64 wk,.int .i64 cp,.int .i64 pg,.int .i64 st,.int .i64 tr,.int .i64 wt,.int .i64 ck,.int .i64 pr,.int .i64 ca,.int .i64 bi,.int .i64 ba] 27))):=(ae.refl w).alloc _
 clear R
 go_enter Tryz.func162,Tryz.ntmps162
 go_wp2_with fail
 generalize w.alloc (.cells #[.int .i64 wk,.int .i64 cp,.int .i64 pg,.int .i64 st,.int .i64 tr,.int .i64 wt,.int .i64 ck,.int .i64 pr,.int .i64 ca,.int .i64 bi,.int .i64 ba] 27)=W0 at *
 go_loopw [7,8] (fun n i wr=>∃k:Nat,k≤c∧i=.int .i64 k∧n=.int .i64 (dI k)∧ae W0 wr) (fun _ i _=>c-(intOf i).toNat)
 case atStart=>exact⟨0,Nat.zero_le _,rfl,rfl,ae.refl _⟩
 case round =>
  obtain⟨k,hk,rfl,rfl,hm⟩:=hrel
  by_cases hlt:k<c
  ·obtain⟨a1,a2,a3⟩:=lR k (by omega) (by omega)
   have b4:=iw k (by omega) (by omega)
   have HA:=hQQ a1;clear a1
   have Hm:=hQQ hm;clear hm
   go_wp2_with fail
   refine(od k (by omega) _).mono ?_
   rintro e w1 ⟨rfl,h1⟩
   have H2:=hQQ (Hm.o.trans h1);clear h1
   go_wp2_with fail
   go_roundw
   case rel=>exact⟨k+1,by omega,by go_num,by rw[HA.o];go_num,H2.o⟩
   case measure=>simp[intOf];omega
  ·have he:k=c:=by omega
   subst he
   have HMr:=hQQ hm;clear hm
   have hne:∃W,ae wr W:=⟨wr,ae.refl _⟩
   go_wp2_with fail
   refine aw (by kernel_rfl) (by kernel_rfl) ?_
   iterate 17
    with_reducible refine wpQuiet_step (fun K hK=>?_)
    go_simp
    first
    |(refine hK _ ?_;clear hK K)
    |(apply Exists.intro
      refine⟨fun W hW=>?_,hK _ ?_⟩
      first
      |(go_at_call 143;exact Calls.more hW (sV _ _ _ _ _ _ _ _ _ _ _ _ HR.o))
      |(go_at_call 87;exact Calls.more hW (fB _ _))
      |(go_at_call 164;exact Calls.more hW (od k hc4 _))
      |(obtain⟨e0,e1,e2,e3,e4,e5,e6,e7,e8,e9,e10⟩:=HC.o.cells (HMr.o.trans hW);go_simp;try rfl)
      clear hK K)
   refine wpQuiet_nil ?_
   intro W hW
   have HW:=hQQ hW
   clear hW
   go_wp2_with fail
   go_ret
   exact⟨rfl,(HM.o.trans HMr.o).trans HW.o⟩
theorem ym (c:Nat)(f:Int)(R:bP wk cp pg st tr wt ck pr ca bi ba)(hc4:c≤4)(f0:1≤f)(f1:¬f≤dB c):
 Calls Tryz.prog 162 #[.agg #[.int .i64 wk,.int .i64 cp,.int .i64 pg,.int .i64 st,.int .i64 tr,.int .i64 wt,.int .i64 ck,.int .i64 pr,.int .i64 ca,.int .i64 bi,.int .i64 ba],.int .i64 c,.int .i64 f] w (aF w (.int .i64 (aC pg st c f))):=by
 rw[show aC pg st c f=0 from if_neg (by omega)]
 have HR:=hQQ R
 have b1:=lP R
 have b2:=iw c (by omega) (by omega)
 have b3:=sA c (by omega) (by omega)
 have d0:decide ((c:Int)<0)=false:=by simp
 have d1:decide ((4:Int)<(c:Int))=false:=by simp;omega
 have t0:decide ((1:Int)≤f)=true:=by simp;omega
 have t1:decide (f≤dB c)=false:=by simp;omega
 have HC:=hQQ (aP w 27 wk cp pg st tr wt ck pr ca bi ba)
 have HM:Hq (ae w (w.alloc (.cells #[.int .i64 wk,.int .i64 cp,.int .i64 pg,.int .i64 st,.int .i64 tr,.int .i64 wt,.int .i64 ck,.int .i64 pr,.int .i64 ca,.int .i64 bi,.int .i64 ba] 27))):=(ae.refl w).alloc _
 clear R
 go_enter Tryz.func162,Tryz.ntmps162
 go_wp2_with fail
 generalize w.alloc (.cells #[.int .i64 wk,.int .i64 cp,.int .i64 pg,.int .i64 st,.int .i64 tr,.int .i64 wt,.int .i64 ck,.int .i64 pr,.int .i64 ca,.int .i64 bi,.int .i64 ba] 27)=W0 at *
 go_loopw [7,8] (fun n i wr=>∃k:Nat,k≤c∧i=.int .i64 k∧n=.int .i64 (dI k)∧ae W0 wr) (fun _ i _=>c-(intOf i).toNat)
 case atStart=>exact⟨0,Nat.zero_le _,rfl,rfl,ae.refl _⟩
 case round =>
  obtain⟨k,hk,rfl,rfl,hm⟩:=hrel
  by_cases hlt:k<c
  ·obtain⟨a1,a2,a3⟩:=lR k (by omega) (by omega)
   have b4:=iw k (by omega) (by omega)
   have HA:=hQQ a1;clear a1
   have Hm:=hQQ hm;clear hm
   go_wp2_with fail
   refine(od k (by omega) _).mono ?_
   rintro e w1 ⟨rfl,h1⟩
   have H2:=hQQ (Hm.o.trans h1);clear h1
   go_wp2_with fail
   go_roundw
   case rel=>exact⟨k+1,by omega,by go_num,by rw[HA.o];go_num,H2.o⟩
   case measure=>simp[intOf];omega
  ·have he:k=c:=by omega
   subst he
   have HMr:=hQQ hm;clear hm
   have hne:∃W,ae wr W:=⟨wr,ae.refl _⟩
   go_wp2_with fail
   refine aw (by kernel_rfl) (by kernel_rfl) ?_
   iterate 17
    with_reducible refine wpQuiet_step (fun K hK=>?_)
    go_simp
    first
    |(refine hK _ ?_;clear hK K)
    |(apply Exists.intro
      refine⟨fun W hW=>?_,hK _ ?_⟩
      first
      |(go_at_call 143;exact Calls.more hW (sV _ _ _ _ _ _ _ _ _ _ _ _ HR.o))
      |(go_at_call 87;exact Calls.more hW (fB _ _))
      |(go_at_call 164;exact Calls.more hW (od k hc4 _))
      |(obtain⟨e0,e1,e2,e3,e4,e5,e6,e7,e8,e9,e10⟩:=HC.o.cells (HMr.o.trans hW);go_simp;try rfl)
      clear hK K)
   refine wpQuiet_nil ?_
   intro W hW
   have HW:=hQQ hW
   clear hW
   go_wp2_with fail
   go_ret
   exact⟨rfl,(HM.o.trans HMr.o).trans HW.o⟩
theorem Kf (c f:Int)(R:bP wk cp pg st tr wt ck pr ca bi ba):
 Calls Tryz.prog 162 #[.agg #[.int .i64 wk,.int .i64 cp,.int .i64 pg,.int .i64 st,.int .i64 tr,.int .i64 wt,.int .i64 ck,.int .i64 pr,.int .i64 ca,.int .i64 bi,.int .i64 ba],.int .i64 c,.int .i64 f] w (aF w (.int .i64 (aC pg st c f))):=by
 by_cases h:c<0∨4<c
 ·exact yk wk cp pg st tr wt ck pr ca bi ba w c f h
 obtain⟨k,rfl⟩:∃k:Nat,c=k:=⟨c.toNat,by omega⟩
 by_cases f0:1≤f
 ·by_cases f1:f≤dB k
  ·exact ES wk cp pg st tr wt ck pr ca bi ba w k f R (by omega) f0 f1
  ·exact ym wk cp pg st tr wt ck pr ca bi ba w k f R (by omega) f0 f1
 ·exact BJ wk cp pg st tr wt ck pr ca bi ba w k f R (by omega) f0
open Go.Sort Go.Maps Go.Shelf
theorem ph {c:Cfg}(R:c.Ok)(w:World)(k f:Int):Calls Tryz.prog 162 #[.agg c.cells,.int .i64 k,.int .i64 f] w (aF w (.int .i64 (aC c.pg c.st k f))):=Kf c.wk c.cp c.pg c.st c.tr c.wt c.ck c.pr c.ca c.bi c.ba w k f R
theorem mU {c:Cfg}(R:c.Ok)(w:World)(k:Int):Calls Tryz.prog 155 #[.agg c.cells,.int .i64 k] w (aF w (.int .i64 (cN c.pg c.st 3 k))):=J3 c.wk c.cp c.pg c.st c.tr c.wt c.ck c.pr c.ca c.bi c.ba w k R
theorem tA {c:Cfg}(R:c.Ok)(w:World)(k:Int):Calls Tryz.prog 156 #[.agg c.cells,.int .i64 k] w (aF w (.int .i64 (cN c.pg c.st 4 k))):=J4 c.wk c.cp c.pg c.st c.tr c.wt c.ck c.pr c.ca c.bi c.ba w k R
theorem k9 {c:Cfg}(R:c.Ok)(q k f:Int)(w:World):Calls Tryz.prog 154 #[.agg c.cells,.int .i64 q,.int .i64 k,.int .i64 f] w (aF w (.bool (af c.pg q && (aC c.pg c.st k f != 0)))):=by
 have hc:=aH w c.cells 27
 have HC:=hQQ hc
 have x2:(w.alloc (.cells c.cells 27)).cell? ⟨w.heap.size,2,none⟩=some (.int .i64 c.pg):=aB hc (ae.refl _) rfl
 have HM:Hq (ae w (w.alloc (.cells c.cells 27))):=(ae.refl w).alloc _
 have HR:=hQQ R
 unfold af
 clear hc R
 by_cases a:0≤q
 ·have d1:decide (0≤q)=true:=by simpa using a
  by_cases b:q<c.pg
  ·have d2:decide (q<c.pg)=true:=by simpa using b
   rw[d1,d2]
   simp only[Bool.true_and]
   clear a b
   go_enter Tryz.func154,Tryz.ntmps154
   go_wp2_with (first|(refine aA rfl rfl rfl HC.o (by kernel_rfl) ?_)|(refine aA rfl rfl rfl HC.o (by kernel_rfl) ?_))
   refine(ph HR.o _ k f).mono ?_
   rintro e w1 ⟨rfl,h1⟩
   have HM1:=hQQ (HM.o.trans h1)
   clear h1
   go_wp2_with fail
   go_ret
   exact⟨rfl,HM1.o⟩
  ·have d2:decide (q<c.pg)=false:=by simpa using b
   rw[d1,d2]
   simp only[Bool.true_and,Bool.false_and]
   clear a b
   go_enter Tryz.func154,Tryz.ntmps154
   go_wp2_with fail
   go_ret
   exact⟨rfl,HM.o⟩
 ·have d1:decide (0≤q)=false:=by simpa using a
  rw[d1]
  simp only[Bool.false_and]
  clear a
  go_enter Tryz.func154,Tryz.ntmps154
  go_wp2_with fail
  go_ret
  exact⟨rfl,HM.o⟩
theorem Hh {l:List Int}(hd:l.Nodup){k:Nat}(hk:k<l.length):nxL l (l.getD k 0)=hd1 (l.drop (k+1)):=by
 have hs:l=l.take k++l.getD k 0::l.drop (k+1):=by
  rw[List.getD_eq_getElem?_getD,List.getElem?_eq_getElem hk];simp
 have hnd:l.getD k 0∉l.take k:=by
  have hh:=hd
  rw[hs] at hh
  intro q
  exact(List.nodup_append.1 hh).2.2 _ q _ (by simp) rfl
 have h1:=i8 (l.take k) (l.drop (k+1)) _ hnd
 rw[←hs] at h1
 exact h1
theorem BK {l:List Int}{k:Nat}(hk:k<l.length):l.drop k=l.getD k 0::l.drop (k+1):=by
 rw[List.drop_eq_getElem_cons hk,List.getD_eq_getElem?_getD,List.getElem?_eq_getElem hk];rfl
theorem rN {l:List Int}{k:Nat}(hk:k<l.length):l.take (k+1)=l.take k++ [l.getD k 0]:=by
 rw[List.take_add_one,List.getElem?_eq_getElem hk,List.getD_eq_getElem?_getD,List.getElem?_eq_getElem hk];rfl
def IC (w:World)(xs:List Int)(e:Ending)(w':World):Prop:=∃v,e=.returned v∧Rw w.heap.size w' v xs∧ae w w'∧(xs= []→v=.slice none 0 0)
def listG (pg st:Int)(G:Int→List Int)(k f:Int):List Int:=if aC pg st k f=0 then [] else G (aC pg st k f)
theorem mV {c:Cfg}(R:c.Ok)(ws:List Int)(H:cB c.pg c.st ws.length)(hl:ws.length≤1000){G:Int→List Int}(L:Ln c.pg c.st G ws)(g cap:Nat)(k f:Int)(w:World)(hw:Ws w g cap ws):
 Calls Tryz.prog 153 #[.agg c.cells,.slice (some ⟨g,0,none⟩) ws.length cap,.int .i64 k,.int .i64 f] w (IC w (listG c.pg c.st G k f)):=by
 have hc:=aH w c.cells 27
 have HC:=hQQ hc
 have HM:Hq (ae w (w.alloc (.cells c.cells 27))):=hQQ ((ae.refl w).alloc _)
 have HR:=hQQ R
 have HW:=hQQ hw
 by_cases hz:aC c.pg c.st k f=0
 ·have YH:Hq (∀W,Calls Tryz.prog 162 #[.agg c.cells,.int .i64 k,.int .i64 f] W (aF W (.int .i64 0))):=hQQ fun W=>by have:=ph R W k f;rwa [hz] at this
  rw[show listG c.pg c.st G k f= [] from if_pos hz]
  clear hc R hw hz
  go_enter Tryz.func153,Tryz.ntmps153
  go_wp2_with (first|(refine aA rfl rfl rfl HC.o (by kernel_rfl) ?_)|(refine aA rfl rfl rfl HC.o (by kernel_rfl) ?_))
  refine(YH.o _).mono ?_
  rintro e w1 ⟨rfl,h1⟩
  have HM1:=hQQ (HM.o.trans h1)
  clear h1
  go_wp2_with fail
  go_ret
  exact⟨_,rfl,Rw.nil _ _,HM1.o,fun _=>rfl⟩
 obtain⟨ha,k0,k1,f0,f1⟩:=dF hz
 obtain⟨b0,b1,_⟩:=jI H ha
 rw[show listG c.pg c.st G k f=G (aC c.pg c.st k f) from if_neg hz]
 have hz':(aC c.pg c.st k f==0)=false:=by simpa using hz
 have hsh:=vh H (L.page _ ha) (L.nodup _ ha)
 have hhd:=L.head _ ha
 have hpg:=L.page _ ha
 have hnx:=fun p hp=>L.next _ p ha hp
 have hnd:=L.nodup _ ha
 have YH:Hq (∀W,Calls Tryz.prog 162 #[.agg c.cells,.int .i64 k,.int .i64 f] W (aF W (.int .i64 (aC c.pg c.st k f)))):=hQQ fun W=>ph R W k f
 obtain⟨a,hae⟩:∃a,aC c.pg c.st k f=a:=⟨_,rfl⟩
 rw[hae] at b0 b1 hz' hsh hhd hpg hnx hnd YH
 rw[hae]
 obtain⟨l,hle⟩:∃l,G a=l:=⟨_,rfl⟩
 rw[hle] at hsh hhd hpg hnx hnd
 rw[hle]
 obtain⟨m,rfl⟩:∃m:Nat,a=(m:Int):=⟨a.toNat,by omega⟩
 have hm:m<ws.length:=by omega
 have CA:Hq (∀W,ae w W→W.cell? ⟨g,m,none⟩=some (.int .i64 (hd1 l))):=hQQ fun W hW=>by
  have:=(hw.more hW).cell hm
  rw[this]
  have:ws.getD m 0=hd1 l:=hhd
  rw[this]
 have NX:Hq (∀p,p∈l→∃b:Nat,nA c.pg c.st p=(b:Int)∧b<ws.length∧∀W,ae w W→W.cell? ⟨g,b,none⟩=some (.int .i64 (nxL l p))):=hQQ fun p hp=>by
  obtain⟨⟨q0,q1,_⟩,_⟩:=ii H (hpg p hp)
  obtain⟨b,hb⟩:∃b:Nat,nA c.pg c.st p=(b:Int):=⟨(nA c.pg c.st p).toNat,by omega⟩
  refine⟨b,hb,by omega,fun W hW=>?_⟩
  have h1:=(hw.more hW).cell (i:=b) (by omega)
  have h2:=hnx p hp
  rw[hb] at h2
  have h2:ws.getD b 0=nxL l p:=h2
  rw[h1,h2]
 have HPG:=hQQ hpg
 have HND:=hQQ hnd
 have pg1:=R.pg1
 have pg2:=R.pg2
 have x2:(w.alloc (.cells c.cells 27)).cell? ⟨w.heap.size,2,none⟩=some (.int .i64 c.pg):=aB hc (ae.refl _) rfl
 have X2:=hQQ x2
 clear hc R hw hz L ha k0 k1 f0 f1 b0 hhd hpg hnx hnd hae hle HW x2 b1
 go_enter Tryz.func153,Tryz.ntmps153
 go_wp2_with (first|(refine aA rfl rfl rfl HC.o (by kernel_rfl) ?_)|(refine aA rfl rfl rfl HC.o (by kernel_rfl) ?_))
 refine(YH.o _).mono ?_
 rintro e w1 ⟨rfl,h1⟩
 have M1:=hQQ (HM.o.trans h1)
 have ca:=CA.o _ M1.o
 have HC1:=hQQ (h1.block HC.o)
 have X3:=hQQ (h1.cell X2.o)
 clear h1 YH CA HC X2
 go_wp2_with fail
 clear ca
 go_loopw [10,11,12] (fun v10 v11 v12 wr=>∃j:Nat,v12=.int .i64 (j:Int)∧j≤l.length∧v11=.int .i64 (hd1 (l.drop j))∧Rw w1.heap.size wr v10 (l.take j)∧ae w1 wr∧(j=0→v10=.slice none 0 0)) (fun _ _ v12 _=>l.length-(intOf v12).toNat)
 case atStart=>exact⟨0,rfl,by omega,rfl,Rw.nil _ _,ae.refl _,fun _=>rfl⟩
 case round =>
  obtain⟨j,rfl,hj,rfl,hr,ht,hv0⟩:=hrel
  have q1:IntKind.i64.wrap ((j:Int)+1)=(j:Int)+1:=am (by omega) (by omega)
  have x3:=ht.cell X3.o
  by_cases hlt:j<l.length
  ·have d1:decide ((j:Int)<c.pg)=true:=by simp;omega
   have hmem:=cT hlt
   obtain⟨b,hb,hbl,cb⟩:=NX.o _ hmem
   have hP:=ag.1 (HPG.o _ hmem)
   have P3:=(DZ (st:=c.st) (HPG.o _ hmem)).trans hb
   have hnext:=Hh HND.o hlt
   have hts:=rN hlt
   rw[BK hlt]
   obtain⟨P,hPe⟩:∃P,l.getD j 0=P:=⟨_,rfl⟩
   rw[hPe] at hb cb hP P3 hnext hts⊢
   rw[hnext] at cb
   have hd1e:hd1 (P::l.drop (j+1))=P+1:=rfl
   rw[hd1e]
   have d2:decide ((0:Int)<P+1)=true:=by simp;omega
   have q2:IntKind.i64.wrap (P+1-1)=P:=by rw[show P+1-1=P by omega];exact am (by omega) (by omega)
   have CB:=hQQ cb
   have PP3:=hQQ P3
   have HRW:=hQQ hr
   have HT:=hQQ ht
   have HTS:=hQQ hts
   have HX3:=hQQ x3
   clear hmem cb P3 hnext hts hPe hr ht hd1e hv0
   go_wp2_with (first|(at_builtin;refine kg _ rfl _ _ rfl rfl HRW.o HT.o (by simp;omega) rfl ?_;intro v' w2 hr2 hm2;have HR2:=hQQ hr2;have HM2:=hQQ hm2;have HC2:=hQQ (hm2.block HC1.o);clear hr2 hm2)|(first|(refine aA rfl rfl rfl HC2.o (by kernel_rfl) ?_)|(refine aA rfl rfl rfl HC2.o (by kernel_rfl) ?_)))
   refine(mU HR.o _ P).mono ?_
   rw[PP3.o]
   rintro e w3 ⟨rfl,h3⟩
   have HM3:=hQQ (HM2.o.trans h3)
   have HR3:=hQQ (HR2.o.more h3)
   have cb:=CB.o _ (M1.o.trans HM3.o)
   clear h3
   go_wp2_with fail
   go_roundw
   case rel=>exact⟨j+1,by go_num,by omega,rfl,by rw[HTS.o];exact HR3.o,HM3.o,fun e=>by omega⟩
   case measure=>simp[intOf];omega
  ·obtain rfl:j=l.length:=by omega
   rw[List.drop_length]
   rw[List.take_length] at hr
   have hd0:hd1 []=0:=rfl
   rw[hd0]
   have FIN:=hQQ (show IC w l (.returned _) wr from⟨_,rfl,hr.mono M1.o.size,M1.o.trans ht,fun e=>hv0 (by rw[e];rfl)⟩)
   clear hr ht hv0
   by_cases hp:(l.length:Int)<c.pg
   ·have d1:decide ((l.length:Int)<c.pg)=true:=by simpa using hp
    clear hp
    go_wp2_with fail
    go_ret
    exact FIN.o
   ·have d1:decide ((l.length:Int)<c.pg)=false:=by simpa using hp
    clear hp
    go_wp2_with fail
    go_ret
    exact FIN.o
theorem Hi {pg st:Int}{n:Nat}(H:cB pg st n){G:Int→List Int}{ws:List Int}(L:Ln pg st G ws){q f:Int}(h0:aC pg st q f≠0):aW pg (aC pg st q f) ws=ff (G (aC pg st q f)):=by
 have ha:=(dF h0).1
 exact mP H (by have:=(jI H ha).1;omega) (L.head _ ha) (L.page _ ha)
theorem rO {c:Cfg}(R:c.Ok)(ws:List Int)(H:cB c.pg c.st ws.length)(hl:ws.length≤1000){G:Int→List Int}(L:Ln c.pg c.st G ws)(g cap:Nat)(k:Int)(w:World)(hw:Ws w g cap ws):
 Calls Tryz.prog 144 #[.agg c.cells,.slice (some ⟨g,0,none⟩) ws.length cap,.int .i64 k] w (aF w (.int .i64 (bB c.pg c.st k (ao k).toNat 1 ws))):=by
 have hc:=aH w c.cells 27
 have HC:=hQQ hc
 have HM:Hq (ae w (w.alloc (.cells c.cells 27))):=hQQ ((ae.refl w).alloc _)
 have HR:=hQQ R
 have HW:=hQQ hw
 have HH:=hQQ H
 have HLn:=hQQ L
 obtain⟨res,hres⟩:∃res,bB c.pg c.st k (ao k).toNat 1 ws=res:=⟨_,rfl⟩
 rw[hres]
 have HRES:=hQQ hres
 have hsl:=uT k
 obtain⟨w1,e1⟩:∃w1,w.alloc (.cells c.cells 27)=w1:=⟨_,rfl⟩
 rw[e1] at HC HM
 clear hc R hw H L hres
 go_enter Tryz.func144,Tryz.ntmps144
 go_wp2_with fail
 clear e1
 go_loopw [7] (fun v7 wr=>∃f:Int,v7=.int .i64 f∧1≤f∧f≤33∧ae w1 wr∧bB c.pg c.st k (ao k+1-f).toNat f ws=res) (fun v7 _=>(33-intOf v7).toNat)
 case atStart=>exact⟨1,rfl,by omega,by omega,ae.refl _,by rw[show ao k+1-1=ao k by omega];exact HRES.o⟩
 case round =>
  clear HRES
  obtain⟨f,rfl,f1,f2,ht,hrest⟩:=hrel
  have MW:=hQQ (HM.o.trans ht)
  have HC1:=hQQ (ht.block HC.o)
  have HT:=hQQ ht
  have qf:IntKind.i64.wrap (f+1)=f+1:=am (by omega) (by omega)
  by_cases hf:f≤32
  ·have d1:decide (f≤32)=true:=by simpa using hf
   have REST:=hQQ hrest
   clear ht hrest
   go_wp2_with (first|(refine aA rfl rfl rfl HC1.o (by kernel_rfl) ?_)|(refine aA rfl rfl rfl HC1.o (by kernel_rfl) ?_))
   refine(mV HR.o ws HH.o hl HLn.o g cap k f wr (HW.o.more MW.o)).mono ?_
   rintro e w2 ⟨v,rfl,hr,h2,_⟩
   have MW2:=hQQ (MW.o.trans h2)
   have HT2:=hQQ (HT.o.trans h2)
   obtain⟨a1,c1,rfl,hrd⟩:=hr.reads
   clear h2
   have hcase:(listG c.pg c.st G k f= []∧bB c.pg c.st k (ao k+1-(f+1)).toNat (f+1) ws=res)∨(0<(listG c.pg c.st G k f).length∧(listG c.pg c.st G k f).getD 0 0=res):=by
    have hrest:=REST.o
    by_cases hz:aC c.pg c.st k f=0
    ·refine .inl ⟨if_pos hz,?_⟩
     by_cases hm:f≤ao k
     ·obtain⟨m,hm2⟩:∃m:Nat,(ao k+1-f).toNat=m+1:=⟨(ao k-f).toNat,by omega⟩
      rw[hm2] at hrest
      have hrest:(if aW c.pg (aC c.pg c.st k f) ws= -1 then bB c.pg c.st k m (f+1) ws else aW c.pg (aC c.pg c.st k f) ws)=res:=hrest
      rw[hz] at hrest
      have h0:aW c.pg 0 ws= -1:=if_pos rfl
      rw[if_pos h0] at hrest
      rw[show(ao k+1-(f+1)).toNat=m by omega]
      exact hrest
     ·rw[show(ao k+1-f).toNat=0 by omega] at hrest
      rw[show(ao k+1-(f+1)).toNat=0 by omega]
      exact hrest
    ·obtain⟨ha,k0,k1,_,f3⟩:=dF hz
     have hse:=rz ⟨k0,k1⟩
     obtain⟨m,hm2⟩:∃m:Nat,(ao k+1-f).toNat=m+1:=⟨(ao k-f).toNat,by omega⟩
     rw[hm2] at hrest
     have hrest:(if aW c.pg (aC c.pg c.st k f) ws= -1 then bB c.pg c.st k m (f+1) ws else aW c.pg (aC c.pg c.st k f) ws)=res:=hrest
     rw[Hi HH.o HLn.o hz] at hrest
     rw[show listG c.pg c.st G k f=G (aC c.pg c.st k f) from if_neg hz]
     have hpg:=HLn.o.page _ ha
     match G (aC c.pg c.st k f),hrest,hpg with
     | [],hrest,_ =>
       refine .inl ⟨rfl,?_⟩
       rw[show(ao k+1-(f+1)).toNat=m by omega]
       simpa [ff] using hrest
     |x::l,hrest,hpg =>
      have hx:=(ag.1 (hpg x (by simp))).1
      refine .inr ⟨by simp,?_⟩
      have hrest:(if x= -1 then bB c.pg c.st k m (f+1) ws else x)=res:=hrest
      rw[if_neg (by omega)] at hrest
      exact hrest
   generalize listG c.pg c.st G k f=l at hcase hrd
   clear REST
   rcases hcase with⟨h0,hn⟩|⟨h0,hn⟩
   ·subst h0
    have HN:=hQQ hn
    clear hn hrd hr
    go_wp2_with fail
    go_roundw
    case rel=>exact⟨f+1,by go_num,by omega,by omega,HT2.o,HN.o⟩
    case measure=>simp[intOf];omega
   ·obtain⟨ga,rfl,_,_,hcell⟩:=hrd 0 h0
    have ca:=hcell 0 h0
    rw[hn] at ca
    have d2:decide ((0:Int)<(l.length:Int))=true:=by simp;omega
    have d3:decide (0<l.length)=true:=by simp;omega
    clear hn hrd hcell hr
    go_wp2_with fail
    go_ret
    exact⟨rfl,MW2.o⟩
  ·have d1:decide (f≤32)=false:=by simpa using hf
   have hres:(-1:Int)=res:=by
    rw[←hrest,show(ao k+1-f).toNat=0 by omega];rfl
   subst hres
   clear hrest ht
   go_wp2_with fail
   go_ret
   exact⟨rfl,MW.o⟩
theorem mW {c:Cfg}(R:c.Ok)(ws:List Int)(H:cB c.pg c.st ws.length)(hl:ws.length≤1000)(k f:Int)(hz:aC c.pg c.st k f≠0)(ps:List Int)(hp:∀p∈ps,af c.pg p=true)(hpl:ps.length≤1000)(g cap:Nat)(vp:Value)(bp:Nat)(w:World)(hw:Ws w g cap ws)(hr:Rw bp w vp ps)(hno:∀kk,vp.ownBlock=some kk→kk≠g):
 Calls Tryz.prog 157 #[.agg c.cells,.slice (some ⟨g,0,none⟩) ws.length cap,.int .i64 k,.int .i64 f,vp] w (fun e w'=>e=.returned (.tuple #[])∧Ws w' g cap (n6 c.pg c.st (aC c.pg c.st k f) ps ws)∧Turned (fun b=>b=g) w w'):=by
 have hc:=aH w c.cells 27
 have HR:=hQQ R
 have hgl:=hw.lt
 have HPG:=hQQ hp
 have pg1:=R.pg1
 have pg2:=R.pg2
 obtain⟨ha,_,_,_,_⟩:=dF hz
 obtain⟨b0,b1,_⟩:=jI H ha
 have YH:Hq (∀W,Calls Tryz.prog 162 #[.agg c.cells,.int .i64 k,.int .i64 f] W (aF W (.int .i64 (aC c.pg c.st k f)))):=hQQ fun W=>ph R W k f
 obtain⟨h,hhe⟩:∃h,aC c.pg c.st k f=h:=⟨_,rfl⟩
 rw[hhe] at YH b0 b1 ha⊢
 obtain⟨m,hm⟩:∃m:Nat,h=(m:Int):=⟨h.toNat,by omega⟩
 have hml:m<ws.length:=by omega
 have NV:Hq (∀p,af c.pg p=true→∃b3 b4:Nat,nA c.pg c.st p=(b3:Int)∧vA c.pg c.st p=(b4:Int)∧b3<ws.length∧b4<ws.length):=hQQ fun p hp=>by
  obtain⟨⟨q0,q1,_⟩,⟨q2,q3,_⟩⟩:=ii H hp
  exact⟨(nA c.pg c.st p).toNat,(vA c.pg c.st p).toNat,by omega,by omega,by omega,by omega⟩
 obtain⟨w1,e1⟩:∃w1,w.alloc (.cells c.cells 27)=w1:=⟨_,rfl⟩
 have m1:ae w w1:=by rw[←e1];exact(ae.refl w).alloc _
 rw[e1] at hc
 have KL:Hq (∀wr,Turned (fun b=>b=g) w1 wr→wr.heap[w.heap.size]?=some (.cells c.cells 27 (0,0))∧Rw bp wr vp ps):=hQQ fun wr t=>⟨(t.block _ (ac hc) (by omega)).trans hc,Rw.keepT (Rw.more hr m1) t (fun kk q=>hno kk q)⟩
 obtain⟨ap,cp,rfl,_⟩:=hr.reads
 have X1:=hQQ (hw.more m1)
 have T1:Hq (Turned (fun b=>b=g) w1 w1):=hQQ (Turned.refl _ _)
 have HC1:=hQQ hc
 have M1:=hQQ m1
 have HE:=hQQ hhe
 have HMm:=hQQ hm
 clear hc R hw hr hno hz H ha hp m1 b0 b1 hhe
 go_enter Tryz.func157,Tryz.ntmps157
 go_wp2_with (first|(refine aA rfl rfl rfl HC1.o (by kernel_rfl) ?_)|(refine aA rfl rfl rfl HC1.o (by kernel_rfl) ?_))
 clear e1
 rw[hm] at YH
 refine(YH.o _).mono ?_
 rintro e w2 ⟨rfl,h2⟩
 have T2:Hq (Turned (fun b=>b=g) w1 w2):=hQQ (Turned.mono h2 (fun _ _ q=>q.elim))
 have X2:=hQQ (X1.o.more h2)
 clear h2
 have c3:=X2.o.cell (i:=m) hml
 have f3:=X2.o.froz m
 have l3:=X2.o.lt
 obtain⟨w3,e3⟩:∃w3,World.setCell w2 ⟨g,m,none⟩ (.int .i64 0)=w3:=⟨_,rfl⟩
 have X3:Hq (Ws w3 g cap (ws.set m 0)):=hQQ (by rw[←e3];exact X2.o.set hml _)
 have T3:Hq (Turned (fun b=>b=g) w1 w3):=hQQ (by rw[←e3];exact Turned.setCell T2.o _ _ (fun _=>rfl))
 go_wp2_with fail
 clear c3 f3 l3 e3
 have START:=hQQ (show Ws w3 g cap (gV c.pg c.st h ps 0 ws) from by
  have:gV c.pg c.st h ps 0 ws=ws.set m 0:=by unfold gV;rw[HMm.o];rfl
  rw[this];exact X3.o)
 go_loopw [10] (fun v10 wr=>∃j:Nat,v10=.int .i64 (j:Int)∧j≤ps.length∧Ws wr g cap (gV c.pg c.st h ps j ws)∧Turned (fun b=>b=g) w1 wr) (fun v10 _=>ps.length-(intOf v10).toNat)
 case atStart=>exact⟨0,rfl,by omega,START.o,T3.o⟩
 case round =>
  clear START X3 T3 X2 T2 X1 T1
  obtain⟨j,rfl,hj,hX,hT⟩:=hrel
  have X:=hQQ hX
  have T:=hQQ hT
  have q1:IntKind.i64.wrap ((j:Int)+1)=(j:Int)+1:=am (by omega) (by omega)
  obtain⟨hL,hR⟩:=KL.o _ hT
  by_cases hlt:j<ps.length
  ·have d1:decide ((j:Int)<(ps.length:Int))=true:=by simp;omega
   obtain⟨ap',cp',e',hrd⟩:=hR.reads
   simp only[Value.slice.injEq] at e'
   obtain⟨rfl,_,rfl⟩:=e'
   obtain⟨gp,rfl,_,_,hcell⟩:=hrd j hlt
   have KR:Hq (∀wx,Turned (fun b=>b=g) w1 wx→∀i,i<ps.length→wx.cell? ⟨gp,i,none⟩=some (.int .i64 (ps.getD i 0))):=hQQ fun wx t i hi=>by
    obtain⟨ap',cp',e',hrd'⟩:=(KL.o _ t).2.reads
    simp only[Value.slice.injEq] at e'
    obtain⟨ea,_,_⟩:=e'
    obtain⟨g2,e2,_,_,hc2⟩:=hrd' i hi
    rw[←ea] at e2
    simp only[Option.some.injEq,Addr.mk.injEq,and_true] at e2
    rw[e2]
    exact hc2 i hi
   have cP:=hcell j hlt
   have HCELL:=hQQ hcell
   clear hcell
   have hmem:=cT hlt
   obtain⟨P,hPe⟩:∃P,ps.getD j 0=P:=⟨_,rfl⟩
   rw[hPe] at cP hmem
   obtain⟨b3,b4,hb3,hb4,l3,l4⟩:=NV.o P (HPG.o P hmem)
   have P3:=hQQ ((DZ (st:=c.st) (HPG.o P hmem)).trans hb3)
   have P4:=hQQ ((IA (st:=c.st) (HPG.o P hmem)).trans hb4)
   have HL:=hQQ hL
   have hPp:=ag.1 (HPG.o P hmem)
   have qP:IntKind.i64.wrap (P+1)=P+1:=am (by omega) (by omega)
   obtain⟨xs,hxs⟩:∃xs,gV c.pg c.st h ps j ws=xs:=⟨_,rfl⟩
   have hxl:xs.length=ws.length:=by rw[←hxs];exact p4 _ _ _ _ _ _
   have hnext:gV c.pg c.st h ps (j+1) ws=l9 c.pg c.st h ps j (nZ c.pg c.st h ps j ((xs.set b3 0).set b4 0)):=by
    show l9 c.pg c.st h ps j (nZ c.pg c.st h ps j (oU c.pg c.st h ps j (gV c.pg c.st h ps j ws)))=_
    rw[hxs];unfold oU;rw[hPe,hb3,hb4];rfl
   rw[hxs] at X
   clear hX hT hL hR hrd hxs
   go_wp2_with (first|(refine aA rfl rfl rfl HL.o (by kernel_rfl) ?_)|(refine aA rfl rfl rfl HL.o (by kernel_rfl) ?_))
   refine(mU HR.o _ P).mono ?_
   rw[P3.o]
   rintro e wa ⟨rfl,ha⟩
   have Ta:Hq (Turned (fun b=>b=g) w1 wa):=hQQ (T.o.trans (Turned.mono ha (fun _ _ q=>q.elim)))
   have Xa:=hQQ (X.o.more ha)
   clear ha
   have cb:=Xa.o.cell (i:=b3) (by omega)
   have fb:=Xa.o.froz b3
   have lb:=Xa.o.lt
   obtain⟨wb,eb⟩:∃wb,World.setCell wa ⟨g,b3,none⟩ (.int .i64 0)=wb:=⟨_,rfl⟩
   have Xb:Hq (Ws wb g cap (xs.set b3 0)):=hQQ (by rw[←eb];exact Xa.o.set (by omega) _)
   have Tb:Hq (Turned (fun b=>b=g) w1 wb):=hQQ (by rw[←eb];exact Turned.setCell Ta.o _ _ (fun _=>rfl))
   have HLb:=hQQ (KL.o _ Tb.o).1
   clear cP
   go_wp2_with (first|(refine aA rfl rfl rfl HLb.o (by kernel_rfl) ?_)|(refine aA rfl rfl rfl HLb.o (by kernel_rfl) ?_))
   clear cb fb lb eb
   refine(tA HR.o _ P).mono ?_
   rw[P4.o]
   rintro e wc ⟨rfl,hc⟩
   have Tc:Hq (Turned (fun b=>b=g) w1 wc):=hQQ (Tb.o.trans (Turned.mono hc (fun _ _ q=>q.elim)))
   have Xc:=hQQ (Xb.o.more hc)
   clear hc
   have cd:=Xc.o.cell (i:=b4) (by simp;omega)
   have fd:=Xc.o.froz b4
   have ld:=Xc.o.lt
   obtain⟨wd,ed⟩:∃wd,World.setCell wc ⟨g,b4,none⟩ (.int .i64 0)=wd:=⟨_,rfl⟩
   have Xd:Hq (Ws wd g cap ((xs.set b3 0).set b4 0)):=hQQ (by rw[←ed];exact Xc.o.set (by simp;omega) _)
   have Td:Hq (Turned (fun b=>b=g) w1 wd):=hQQ (by rw[←ed];exact Turned.setCell Tc.o _ _ (fun _=>rfl))
   have HLd:=hQQ (KL.o _ Td.o).1
   by_cases hj0:j=0
   ·have dj:((j:Int)==0)=true:=by simp[hj0]
    have hB:nZ c.pg c.st h ps j ((xs.set b3 0).set b4 0)=((xs.set b3 0).set b4 0).set m (P+1):=by unfold nZ;rw[if_pos hj0,hPe,HMm.o];rfl
    rw[hB] at hnext
    have HN:=hQQ hnext
    clear hj0 hB hnext
    go_wp2_with (first|(refine aA rfl rfl rfl HLd.o (by kernel_rfl) ?_)|(refine aA rfl rfl rfl HLd.o (by kernel_rfl) ?_))
    clear cd fd ld ed
    refine(YH.o _).mono ?_
    rintro e we ⟨rfl,he⟩
    have Te:Hq (Turned (fun b=>b=g) w1 we):=hQQ (Td.o.trans (Turned.mono he (fun _ _ q=>q.elim)))
    have Xe:=hQQ (Xd.o.more he)
    clear he
    have ck:=Xe.o.cell (i:=m) (by simp;omega)
    have fk:=Xe.o.froz m
    have lk:=Xe.o.lt
    obtain⟨wk,ek⟩:∃wk,World.setCell we ⟨g,m,none⟩ (.int .i64 (P+1))=wk:=⟨_,rfl⟩
    have Xk:Hq (Ws wk g cap (((xs.set b3 0).set b4 0).set m (P+1))):=hQQ (by rw[←ek];exact Xe.o.set (by simp;omega) _)
    have Tk:Hq (Turned (fun b=>b=g) w1 wk):=hQQ (by rw[←ek];exact Turned.setCell Te.o _ _ (fun _=>rfl))
    by_cases hlast:j+1<ps.length
    ·have d8:decide (((j:Int)+1)<(ps.length:Int))=true:=by simp;omega
     have cz5:=KR.o _ Tk.o (j+1) hlast
     obtain⟨zv,hzv⟩:∃zv,ps.getD (j+1) 0=zv:=⟨_,rfl⟩
     rw[hzv] at cz5
     have hzp:=ag.1 (HPG.o zv (by rw[←hzv];exact cT hlast))
     have qz:IntKind.i64.wrap (zv+1)=zv+1:=am (by omega) (by omega)
     have hC:l9 c.pg c.st h ps j ((((xs.set b3 0).set b4 0).set m (P+1)))=((((xs.set b3 0).set b4 0).set m (P+1))).set b3 (zv+1):=by unfold l9;rw[if_pos hlast,hPe,hb3,hzv];rfl
     have HC':=hQQ hC
     have HL5:=hQQ (KL.o _ Tk.o).1
     have hjx:(j:Int)+1<(ps.length:Int):=by omega
     have hjy:(0:Int)≤(j:Int)+1:=by omega
     clear hC hlast hzv
     go_wp2_with fail
     refine au 11 (by kernel_rfl) (by kernel_rfl) ?_
     simp only[List.take_succ_cons,List.take_zero,List.drop_succ_cons,List.drop_zero]
     iterate 1
      with_reducible refine wpQuiet_step (fun K hK=>?_)
      go_simp
      first
      |(refine hK _ ?_;clear hK K)
      |(apply Exists.intro
        refine⟨fun W hW=>?_,hK _ ?_⟩
        first
        |(go_simp;try rfl)
        clear hK K)
     refine ai rfl 27 _ rfl _ rfl 27 _ _ _ (fun W hW=>hW.block HL5.o) Tryz.underlying27 rfl (by kernel_rfl) ?_
     iterate 9
      with_reducible refine wpQuiet_step (fun K hK=>?_)
      go_simp
      first
      |(refine hK _ ?_;clear hK K)
      |(apply Exists.intro
        refine⟨fun W hW=>?_,hK _ ?_⟩
        first
        |(go_at_call 155;have:=mU HR.o W P;rw[P3.o] at this;exact Calls.more hW this)
        |(have cz':=hW.cell cz5;go_simp;try rfl)
        clear hK K)
     refine wpQuiet_nil ?_
     intro w6 m6
     have T6:Hq (Turned (fun b=>b=g) w1 w6):=hQQ (Tk.o.trans (Turned.mono m6 (fun _ _ q=>q.elim)))
     have X6:=hQQ (Xk.o.more m6)
     clear m6
     have c7:=X6.o.cell (i:=b3) (by simp;omega)
     have f7:=X6.o.froz b3
     have l7:=X6.o.lt
     obtain⟨w7,e7⟩:∃w7,World.setCell w6 ⟨g,b3,none⟩ (.int .i64 (zv+1))=w7:=⟨_,rfl⟩
     have X7:Hq (Ws w7 g cap (((((xs.set b3 0).set b4 0).set m (P+1))).set b3 (zv+1))):=hQQ (by rw[←e7];exact X6.o.set (by simp;omega) _)
     have T7:Hq (Turned (fun b=>b=g) w1 w7):=hQQ (by rw[←e7];exact Turned.setCell T6.o _ _ (fun _=>rfl))
     go_wp2_with fail
     clear c7 f7 l7 e7
     go_roundw
     case rel=>exact⟨j+1,by go_num,by omega,by rw[HN.o,HC'.o];exact X7.o,T7.o⟩
     case measure=>simp[intOf];omega
    ·have d8:decide (((j:Int)+1)<(ps.length:Int))=false:=by simp;omega
     have hC:l9 c.pg c.st h ps j ((((xs.set b3 0).set b4 0).set m (P+1)))=(((xs.set b3 0).set b4 0).set m (P+1)):=by unfold l9;rw[if_neg hlast]
     have HC':=hQQ hC
     clear hC hlast
     go_wp2_with fail
     go_roundw
     case rel=>exact⟨j+1,by go_num,by omega,by rw[HN.o,HC'.o];exact Xk.o,Tk.o⟩
     case measure=>simp[intOf];omega
   ·have dj:((j:Int)==0)=false:=by simpa using hj0
    have dj2:decide ((j:Int)=0)=false:=by simpa using hj0
    obtain⟨j1,hj1⟩:∃j1,j-1=j1:=⟨_,rfl⟩
    have cy5:=KR.o _ Td.o j1 (by omega)
    obtain⟨yv,hyv⟩:∃yv,ps.getD j1 0=yv:=⟨_,rfl⟩
    rw[hyv] at cy5
    have hyp:=ag.1 (HPG.o yv (by rw[←hyv];exact cT (by omega)))
    have qy:IntKind.i64.wrap (yv+1)=yv+1:=am (by omega) (by omega)
    have qj1:IntKind.i64.wrap ((j:Int)-1)=(j1:Int):=by rw[am (by omega) (by omega)];omega
    have hj1x:(j1:Int)<(ps.length:Int):=by omega
    have hj1n:j1<ps.length:=by omega
    have hB:nZ c.pg c.st h ps j ((xs.set b3 0).set b4 0)=((xs.set b3 0).set b4 0).set b4 (yv+1):=by unfold nZ;rw[if_neg hj0,hPe,hb4,hj1,hyv];rfl
    rw[hB] at hnext
    have HN:=hQQ hnext
    clear hj0 hB hnext hj1 hyv
    go_wp2_with fail
    clear cd fd ld ed
    refine au 11 (by kernel_rfl) (by kernel_rfl) ?_
    simp only[List.take_succ_cons,List.take_zero,List.drop_succ_cons,List.drop_zero]
    iterate 1
     with_reducible refine wpQuiet_step (fun K hK=>?_)
     go_simp
     first
     |(refine hK _ ?_;clear hK K)
     |(apply Exists.intro
       refine⟨fun W hW=>?_,hK _ ?_⟩
       first
       |(go_simp;try rfl)
       clear hK K)
    refine ai rfl 27 _ rfl _ rfl 27 _ _ _ (fun W hW=>hW.block HLd.o) Tryz.underlying27 rfl (by kernel_rfl) ?_
    iterate 9
     with_reducible refine wpQuiet_step (fun K hK=>?_)
     go_simp
     first
     |(refine hK _ ?_;clear hK K)
     |(apply Exists.intro
       refine⟨fun W hW=>?_,hK _ ?_⟩
       first
       |(go_at_call 156;have:=tA HR.o W P;rw[P4.o] at this;exact Calls.more hW this)
       |(have cy':=hW.cell cy5;go_simp;try rfl)
       clear hK K)
    refine wpQuiet_nil ?_
    intro we me
    have Te:Hq (Turned (fun b=>b=g) w1 we):=hQQ (Td.o.trans (Turned.mono me (fun _ _ q=>q.elim)))
    have Xe:=hQQ (Xd.o.more me)
    clear me cy5
    have ck:=Xe.o.cell (i:=b4) (by simp;omega)
    have fk:=Xe.o.froz b4
    have lk:=Xe.o.lt
    obtain⟨wk,ek⟩:∃wk,World.setCell we ⟨g,b4,none⟩ (.int .i64 (yv+1))=wk:=⟨_,rfl⟩
    have Xk:Hq (Ws wk g cap (((xs.set b3 0).set b4 0).set b4 (yv+1))):=hQQ (by rw[←ek];exact Xe.o.set (by simp;omega) _)
    have Tk:Hq (Turned (fun b=>b=g) w1 wk):=hQQ (by rw[←ek];exact Turned.setCell Te.o _ _ (fun _=>rfl))
    by_cases hlast:j+1<ps.length
    ·have d8:decide (((j:Int)+1)<(ps.length:Int))=true:=by simp;omega
     have cz5:=KR.o _ Tk.o (j+1) hlast
     obtain⟨zv,hzv⟩:∃zv,ps.getD (j+1) 0=zv:=⟨_,rfl⟩
     rw[hzv] at cz5
     have hzp:=ag.1 (HPG.o zv (by rw[←hzv];exact cT hlast))
     have qz:IntKind.i64.wrap (zv+1)=zv+1:=am (by omega) (by omega)
     have hC:l9 c.pg c.st h ps j ((((xs.set b3 0).set b4 0).set b4 (yv+1)))=((((xs.set b3 0).set b4 0).set b4 (yv+1))).set b3 (zv+1):=by unfold l9;rw[if_pos hlast,hPe,hb3,hzv];rfl
     have HC':=hQQ hC
     have HL5:=hQQ (KL.o _ Tk.o).1
     have hjx:(j:Int)+1<(ps.length:Int):=by omega
     have hjy:(0:Int)≤(j:Int)+1:=by omega
     clear hC hlast hzv
     go_wp2_with fail
     refine au 11 (by kernel_rfl) (by kernel_rfl) ?_
     simp only[List.take_succ_cons,List.take_zero,List.drop_succ_cons,List.drop_zero]
     iterate 1
      with_reducible refine wpQuiet_step (fun K hK=>?_)
      go_simp
      first
      |(refine hK _ ?_;clear hK K)
      |(apply Exists.intro
        refine⟨fun W hW=>?_,hK _ ?_⟩
        first
        |(go_simp;try rfl)
        clear hK K)
     refine ai rfl 27 _ rfl _ rfl 27 _ _ _ (fun W hW=>hW.block HL5.o) Tryz.underlying27 rfl (by kernel_rfl) ?_
     iterate 9
      with_reducible refine wpQuiet_step (fun K hK=>?_)
      go_simp
      first
      |(refine hK _ ?_;clear hK K)
      |(apply Exists.intro
        refine⟨fun W hW=>?_,hK _ ?_⟩
        first
        |(go_at_call 155;have:=mU HR.o W P;rw[P3.o] at this;exact Calls.more hW this)
        |(have cz':=hW.cell cz5;go_simp;try rfl)
        clear hK K)
     refine wpQuiet_nil ?_
     intro w6 m6
     have T6:Hq (Turned (fun b=>b=g) w1 w6):=hQQ (Tk.o.trans (Turned.mono m6 (fun _ _ q=>q.elim)))
     have X6:=hQQ (Xk.o.more m6)
     clear m6
     have c7:=X6.o.cell (i:=b3) (by simp;omega)
     have f7:=X6.o.froz b3
     have l7:=X6.o.lt
     obtain⟨w7,e7⟩:∃w7,World.setCell w6 ⟨g,b3,none⟩ (.int .i64 (zv+1))=w7:=⟨_,rfl⟩
     have X7:Hq (Ws w7 g cap (((((xs.set b3 0).set b4 0).set b4 (yv+1))).set b3 (zv+1))):=hQQ (by rw[←e7];exact X6.o.set (by simp;omega) _)
     have T7:Hq (Turned (fun b=>b=g) w1 w7):=hQQ (by rw[←e7];exact Turned.setCell T6.o _ _ (fun _=>rfl))
     go_wp2_with fail
     clear c7 f7 l7 e7
     go_roundw
     case rel=>exact⟨j+1,by go_num,by omega,by rw[HN.o,HC'.o];exact X7.o,T7.o⟩
     case measure=>simp[intOf];omega
    ·have d8:decide (((j:Int)+1)<(ps.length:Int))=false:=by simp;omega
     have hC:l9 c.pg c.st h ps j ((((xs.set b3 0).set b4 0).set b4 (yv+1)))=(((xs.set b3 0).set b4 0).set b4 (yv+1)):=by unfold l9;rw[if_neg hlast]
     have HC':=hQQ hC
     clear hC hlast
     go_wp2_with fail
     go_roundw
     case rel=>exact⟨j+1,by go_num,by omega,by rw[HN.o,HC'.o];exact Xk.o,Tk.o⟩
     case measure=>simp[intOf];omega
  ·obtain rfl:j=ps.length:=by omega
   have d1:decide ((ps.length:Int)<(ps.length:Int))=false:=by simp
   have FIN:=hQQ (And.intro hX (Turned.trans (Turned.mono M1.o (fun _ _ q=>q.elim)) hT))
   clear hX hT hL hR
   go_wp2_with fail
   go_end0
   exact⟨rfl,FIN.o.1,FIN.o.2⟩
theorem RowP.turn {w w1 w2:World}{g:Nat}(m:ae w w1)(t:Turned (fun b=>b=g) w1 w2):Turned (fun b=>b=g) w w2:=(Turned.mono m (fun _ _ q=>q.elim)).trans t
theorem ql {o:Oper}{a:Act}{K:Act→World→Prop}{Q:Exit→Act→World→Prop}{w:World}{base b2:Nat}{v v2:Value}{xs ys:List Int}(s x:Operand)
 (ho:o.op=.call { callee:= .builtin .append,args:= #[s,x],argTypes:= #[28,28] })
 (hs:a.eval s=v) (hn:Rw base w v xs) (hb:base≤w.heap.size) (hl:xs.length≤1000000)
 (hx:a.eval x=v2) (hr:Rw b2 w v2 ys) (hy:0<ys.length∧ys.length≤1000000)
 (h:∀v' w',Rw base w' v' (xs++ys)→Turned (fun k=>v.ownBlock=some k) w w'→(∀k,v'.ownBlock=some k→v.ownBlock=some k∨k=w.heap.size)→K (a.put o.dst v') w'):o.wp Tryz.prog a w K Q:=by
 obtain⟨i,i1,i2,i3,i4⟩:=iA
 obtain⟨ax,cx,rfl,hrd⟩:=hr.reads
 obtain⟨gx,rfl,_,_,hc⟩:=hrd 0 hy.1
 refine wp_append_lies w s x 28 ho base 3 i _ 1 8 Tryz.underlying28 i1 i2 i3 i4 rfl (by omega) v xs.length _ hs hn ⟨gx,0,none⟩ ys.length cx (ys.map (Value.int .i64)) hx (by simp)
  (fun j u hu=>?_) (by intro u hu;obtain⟨z,_,rfl⟩:=List.mem_map.1 hu;rfl) hy.1 (by simp only[maxLen];omega) (by omega) hb _ rfl ?_
 ·rw[List.getElem?_map] at hu
  by_cases hj:j<ys.length
  ·rw[List.getElem?_eq_getElem hj] at hu
   simp only[Option.map_some,Option.some.injEq] at hu
   rw[eV,Nat.zero_add,hc j hj,←hu,List.getD_eq_getElem?_getD,List.getElem?_eq_getElem hj];rfl
  ·rw[List.getElem?_eq_none (by omega)] at hu;cases hu
 ·intro g' cap w1 hown hgrow h4 _
  have ht:Turned (fun k=>v.ownBlock=some k) w w1:=⟨hgrow.os,hgrow.tape,hgrow.output,hgrow.size,fun k hk hne=>hgrow.block k hk (fun e=>hne e.symm)⟩
  refine h _ w1 ?_ ht (fun k q=>?_)
  ·unfold Rw
   rw[List.length_append,List.map_append]
   exact hown
  ·have:k=g':=by simpa [Value.ownBlock,eq_comm] using q
   subst this
   exact h4
theorem zC (w:World)(a:Int):Rw 0 (w.alloc (.cells #[.int .i64 a] 3)) (.slice (some ⟨w.heap.size,0,none⟩) 1 1) [a]:=by
 have h:=bm w (.cells #[.int .i64 a] 3)
 exact Ws.rw' (base:=0) (zs:=[a]) (cap:=1) ⟨_,h,Nat.le_refl _,by unfold maxLen;omega,rfl,fun i hi=>by
  match i,hi with
  | 0,_=>rfl⟩ (Nat.zero_le _)
theorem gY {a:Act}{i j:Nat}{x y:Value}(h:i≠j):Act.put (Act.put a (some i) x) (some j) y=Act.put (Act.put a (some j) y) (some i) x:=by
 simp only[Act.put,Act.mk.injEq,and_true]
 exact Array.setIfInBounds_comm _ _ h
theorem vw {o:Oper}{a:Act}{K:Act→World→Prop}{Q:Exit→Act→World→Prop}{w:World}{g n cap:Nat}(s x:Operand)
 (ho:o.op=.call { callee:= .builtin .append,args:= #[s,x],argTypes:= #[28,28] })
 (hs:a.eval s=.slice (some ⟨g,0,none⟩) n cap) (hx:a.eval x=.slice none 0 0) (hn:n≤cap)
 (h:K (a.put o.dst (.slice (some ⟨g,0,none⟩) n cap)) w):o.wp Tryz.prog a w K Q:=by
 unfold Oper.wp execOp
 generalize a.eval=ρ at hs hx⊢
 simp only[ho,resolve,invoke,builtin,Sem.run_bind,Sem.run_pure,Result.andThen_ok,List.map_toArray,List.map_cons,List.map_nil,hs,hx]
 go_simp
 exact h
theorem Hk {c:Cfg}{ws:List Int}(H:cB c.pg c.st ws.length){G:Int→List Int}(L:Ln c.pg c.st G ws){q k f:Int}(hq:af c.pg q=true)(hz:aC c.pg c.st k f≠0)(hf:∀a,cE c.pg c.st a→q∉G a):bZ c.pg c.st q k f ws=(true,n6 c.pg c.st (aC c.pg c.st k f) (q::listG c.pg c.st G k f) ws):=by
 have:=Bs H L rfl hz hq hf
 rw[show listG c.pg c.st G k f=G (aC c.pg c.st k f) from if_neg hz,this]
 unfold bZ
 rw[if_pos ⟨hz,hq⟩]
theorem ET {c:Cfg}(R:c.Ok)(ws:List Int)(H:cB c.pg c.st ws.length)(hl:ws.length≤1000){G:Int→List Int}(L:Ln c.pg c.st G ws)(q k f:Int)(hf:af c.pg q=true→∀a,cE c.pg c.st a→q∉G a)(g cap:Nat)(w:World)(hw:Ws w g cap ws):
 Calls Tryz.prog 148 #[.agg c.cells,.slice (some ⟨g,0,none⟩) ws.length cap,.int .i64 q,.int .i64 k,.int .i64 f] w (fun e w'=>e=.returned (.bool (bZ c.pg c.st q k f ws).1)∧Ws w' g cap (bZ c.pg c.st q k f ws).2∧Turned (fun b=>b=g) w w'):=by
 have hc:=aH w c.cells 27
 have HC:=hQQ hc
 have HM:Hq (ae w (w.alloc (.cells c.cells 27))):=hQQ ((ae.refl w).alloc _)
 have HR:=hQQ R
 have HW:=hQQ hw
 have HH:=hQQ H
 have HLn:=hQQ L
 have hgl:=hw.lt
 obtain⟨w1,e1⟩:∃w1,w.alloc (.cells c.cells 27)=w1:=⟨_,rfl⟩
 rw[e1] at HC HM
 by_cases hth:af c.pg q=true∧aC c.pg c.st k f≠0
 ·obtain⟨hq,hz⟩:=hth
  have hr:=Hk H L hq hz (hf hq)
  obtain⟨ha,_,_,_,_⟩:=dF hz
  have hsh:=vh H (L.page _ ha) (L.nodup _ ha)
  have pg1:=R.pg1
  have pg2:=R.pg2
  have hll:(listG c.pg c.st G k f).length≤256:=by rw[show listG c.pg c.st G k f=G (aC c.pg c.st k f) from if_neg hz];omega
  have HPS:Hq (∀p∈q::listG c.pg c.st G k f,af c.pg p=true):=hQQ fun p hp=>by
   rcases List.mem_cons.1 hp with rfl|hp
   ·exact hq
   ·rw[show listG c.pg c.st G k f=G (aC c.pg c.st k f) from if_neg hz] at hp
    exact L.page _ ha p hp
  have hcond:(af c.pg q && (aC c.pg c.st k f != 0))=true:=by simp[hq,hz]
  have YT:Hq (∀W,Calls Tryz.prog 154 #[.agg c.cells,.int .i64 q,.int .i64 k,.int .i64 f] W (aF W (.bool true))):=hQQ fun W=>by have:=k9 R q k f W;rwa [hcond] at this
  have HRES:=hQQ hr
  rw[e1] at hc
  have KC:Hq (∀W,ae w1 W→W.heap[w.heap.size]?=some (.cells c.cells 27 (0,0))):=hQQ fun W t=>t.block hc
  have KT:Hq (∀W,Turned (fun b=>b=g) w1 W→W.heap[w.heap.size]?=some (.cells c.cells 27 (0,0))):=hQQ fun W t=>(t.block _ (ac hc) (by omega)).trans hc
  have HW1:=hQQ (HW.o.more HM.o)
  have s1:=HM.o.size
  have MM:=HM
  clear hc R hw H L hf hr ha hsh pg1 pg2 hcond hq
  go_enter Tryz.func148,Tryz.ntmps148
  go_wp2_with (first|(refine aA rfl rfl rfl HC.o (by kernel_rfl) ?_)|(refine aA rfl rfl rfl HC.o (by kernel_rfl) ?_))
  clear e1
  refine(YT.o _).mono ?_
  rintro e w3 ⟨rfl,h3⟩
  have M3:=hQQ h3
  clear h3
  go_wp2_with fail
  clear HM HW HC
  refine dg (fun W=>W.heap[w.heap.size]?=some (.cells c.cells 27 (0,0))) (by kernel_rfl) ?_
  have MR:=hQQ (M3.o.trans ((ae.refl w3).drewN 1))
  change eY _ _ _ _ _ _ _ _ (w3.drewN 1)
  generalize w3.drewN 1=wq at MR⊢
  generalize hA:Act.mk _ _=A
  have HF:AG 30 A [(1,.slice (some ⟨g,0,none⟩) ws.length cap),(2,.int .i64 q),(3,.int .i64 k),(4,.int .i64 f),(5,.pointer (some ⟨w.heap.size,0,none⟩))]:=by
   rw[←hA];try simp only[pts,List.foldl]
   refine⟨⟨Nat.le_of_ble_eq_true rfl,rfl⟩,?_⟩
   intro z hz;simp only[List.mem_cons,List.not_mem_nil,or_false] at hz;rcases hz with rfl|rfl|rfl|rfl|rfl<;>rfl
  refine eZ (fun a W=>∃(u17 u18 u19 u20 u21 u23 u24 u25 u26 u22 u27 u28 u29:Value),a=(pts A [(17,u17),(18,u18),(19,u19),(20,u20),(21,u21),(23,u23),(24,u24),(25,u25),(26,u26),(22,u22),(27,u27),(28,u28),(29,u29)])∧Ws W g cap (n6 c.pg c.st (aC c.pg c.st k f) (q::listG c.pg c.st G k f) ws)∧Turned (fun b=>b=g) w1 W) (fun _=>False) [] (fun a W hd h=>h.elim) (fun _ _ _ _ _ h=>h) ?_ ?_
  ·skip
   rintro a wa ⟨u17,u18,u19,u20,u21,u23,u24,u25,u26,u22,u27,u28,u29,rfl,hX,hT⟩
   rw[←hA];try simp only[pts,List.foldl]
   have FIN:=hQQ (And.intro hX hT)
   clear HF hA MR hX hT
   go_simp
   go_wp2_with fail
   go_ret
   exact⟨by rw[HRES.o];rfl,by rw[HRES.o];exact FIN.o.1,RowP.turn MM.o FIN.o.2⟩
  intro QQ FINE FIND FINQ
  clear hA
  refine tqC 0 17 (.agg c.cells) (by kernel_rfl) FINQ (KC.o _ MR.o) HF (by exact bF (ah rfl) 27 _ rfl w.heap.size (HF.get 4 rfl) 27 _ _ _ (fun W hW=>hW) Tryz.underlying27 rfl (by kernel_rfl)) fun A β1 HF=>?_
  refine tqM 1 18 1 rfl (.inl rfl) rfl (by kernel_rfl) FINQ (KC.o _ MR.o) HF fun A β2 HF=>?_
  refine tqM 2 19 4 rfl (.inl rfl) rfl (by kernel_rfl) FINQ (KC.o _ MR.o) HF fun A β3 HF=>?_
  refine tqM 3 20 6 rfl (.inl rfl) rfl (by kernel_rfl) FINQ (KC.o _ MR.o) HF fun A β4 HF=>?_
  refine tqM 4 21 5 rfl (.inl rfl) rfl (by kernel_rfl) FINQ (KC.o _ MR.o) HF fun A β5 HF=>?_
  refine tqC 6 23 (.agg c.cells) (by kernel_rfl) FINQ (KC.o _ MR.o) HF (by exact bF (ah rfl) 27 _ rfl w.heap.size (HF.get 9 rfl) 27 _ _ _ (fun W hW=>hW) Tryz.underlying27 rfl (by kernel_rfl)) fun A β6 HF=>?_
  refine tqM 7 24 6 rfl (.inl rfl) rfl (by kernel_rfl) FINQ (KC.o _ MR.o) HF fun A β7 HF=>?_
  refine tqM 8 25 9 rfl (.inl rfl) rfl (by kernel_rfl) FINQ (KC.o _ MR.o) HF fun A β8 HF=>?_
  refine tqM 9 26 11 rfl (.inl rfl) rfl (by kernel_rfl) FINQ (KC.o _ MR.o) HF fun A β9 HF=>?_
  refine DP (i:=5) (j:=10) (some 22) (some 27) (by kernel_rfl) rfl rfl (ah rfl) (ah rfl) rfl rfl (fun K hK=>?_) (fun K hK=>?_)
  ·refine ro rfl q (HF.get 4 rfl) ?_
   obtain⟨w4,e4⟩:∃w4,wq.alloc (.cells #[.int .i64 q] 3)=w4:=⟨_,rfl⟩
   have m4:ae wq w4:=by rw[←e4];exact(ae.refl _).alloc _
   have RB:Hq (Rw 0 w4 (.slice (some ⟨wq.heap.size,0,none⟩) 1 1) [q]):=hQQ (by rw[←e4];exact zC wq q)
   have M4:=hQQ (MR.o.trans m4)
   have hgb:w1.heap.size≤wq.heap.size:=MR.o.size
   rw[e4]
   refine hK _ _ (KC.o _ M4.o) ?_
   clear hK K
   replace HF:=HF.put 22 (.slice (some ⟨wq.heap.size,0,none⟩) 1 1) (by decide) rfl
   generalize β10:Act.put _ _ _=A at HF⊢
   refine tqO 10 27 (by kernel_rfl) HF fun K hK=>?_
   refine iC (v0:=.agg c.cells) (v1:=.slice (some ⟨g,0,none⟩) ws.length cap) (v2:=.int .i64 k) (v3:=.int .i64 f) rfl (HF.get 4 rfl) (HF.get 3 rfl) (HF.get 2 rfl) (HF.get 1 rfl) (enters_of Tryz.func153 (by kernel_rfl) rfl) ?_
   refine(mV HR.o ws HH.o hl HLn.o g cap k f w4 (HW1.o.more M4.o)).mono ?_
   rintro e w5 ⟨vl,rfl,hrl,m5,hnil⟩
   have RL:=hQQ hrl
   have M5:=hQQ (M4.o.trans m5)
   have HNIL:=hQQ hnil
   clear hrl hnil
   replace RB:=hQQ (Rw.more RB.o m5)
   refine hK _ _ (KC.o _ M5.o) fun A β11 HF=>?_
   clear hK K
   by_cases hl0:listG c.pg c.st G k f= []
   ·have hv:=HNIL.o hl0
    subst hv
    refine tqO 11 28 (by kernel_rfl) HF fun K hK=>?_
    refine vw _ _ rfl (HF.get 1 rfl) (HF.get 0 rfl) (Nat.le_refl _) ?_
    refine hK _ _ (KC.o _ M5.o) fun A β12 HF=>?_
    clear hK K
    have RP:Hq (Rw 0 w5 (.slice (some ⟨wq.heap.size,0,none⟩) 1 1) (q::listG c.pg c.st G k f)):=hQQ (by rw[hl0];exact RB.o)
    have NP:Hq (∀kk,(Value.slice (some ⟨wq.heap.size,0,none⟩) 1 1).ownBlock=some kk→kk≠g):=hQQ (fun kk e=>by have hh:kk=wq.heap.size:=(by simpa [Value.ownBlock,eq_comm] using e);omega)
    have TP:Hq (Turned (fun b=>b=g) w1 w5):=hQQ (Turned.mono M5.o (fun _ _ z=>z.elim))
    refine tqO 12 29 (by kernel_rfl) HF fun K hK=>?_
    refine ku (v0:=.agg c.cells) (v1:=.slice (some ⟨g,0,none⟩) ws.length cap) (v2:=.int .i64 k) (v3:=.int .i64 f) (v4:=.slice (some ⟨wq.heap.size,0,none⟩) 1 1) rfl (HF.get 11 rfl) (HF.get 10 rfl) (HF.get 9 rfl) (HF.get 8 rfl) (HF.get 0 rfl) (enters_of Tryz.func157 (by kernel_rfl) rfl) ?_
    refine(mW HR.o ws HH.o hl k f hz (q::listG c.pg c.st G k f) HPS.o (by simp;omega) g cap _ 0 w5 (HW1.o.more M5.o) RP.o NP.o).mono ?_
    rintro e w8 ⟨rfl,hw8,ht8⟩
    have T8:=TP.o.trans ht8
    refine hK _ _ (KT.o _ T8) fun A β13 HF=>?_
    clear hK K
    exact el (by kernel_rfl) (FINE _ _ ⟨(.agg c.cells),(.slice (some ⟨g,0,none⟩) ws.length cap),(.int .i64 k),(.int .i64 f),(.int .i64 q),(.agg c.cells),(.slice (some ⟨g,0,none⟩) ws.length cap),(.int .i64 k),(.int .i64 f),(.slice (some ⟨wq.heap.size,0,none⟩) 1 1),(.slice none 0 0),(.slice (some ⟨wq.heap.size,0,none⟩) 1 1),(.tuple #[]),by rw[← β13,← β12,← β11,← β10,← β9,← β8,← β7,← β6,← β5,← β4,← β3,← β2,← β1]<;>rfl,hw8,T8⟩)
   ·refine tqO 11 28 (by kernel_rfl) HF fun K hK=>?_
    refine ql _ _ rfl (HF.get 1 rfl) RB.o (Nat.zero_le _) (by simp) (HF.get 0 rfl) RL.o ⟨List.length_pos_iff.2 hl0,by omega⟩ ?_
    intro vp wp hrp htp hvp
    have TP:Hq (Turned (fun b=>b=g) w1 wp):=hQQ (aq (Turned.mono M5.o (fun _ _ z=>z.elim)) htp (fun kk e=> .inr (by have hh:kk=wq.heap.size:=(by simpa [Value.ownBlock,eq_comm] using e);omega)))
    have RP:Hq (Rw 0 wp vp (q::listG c.pg c.st G k f)):=hQQ hrp
    have hsz:=M5.o.size
    have NP:Hq (∀kk,vp.ownBlock=some kk→kk≠g):=hQQ (fun kk e=>by
     rcases hvp kk e with z|z
     ·have:kk=wq.heap.size:=by simpa [Value.ownBlock,eq_comm] using z
      omega
     ·omega)
    have HTP:=hQQ htp
    have HGP:Hq (¬(Value.slice (some ⟨wq.heap.size,0,none⟩) 1 1).ownBlock=some g):=hQQ (fun e=>by have hh:g=wq.heap.size:=(by simpa [Value.ownBlock,eq_comm] using e);omega)
    clear hrp htp hvp
    refine hK _ _ (KT.o _ TP.o) fun A β12 HF=>?_
    clear hK K
    refine tqO 12 29 (by kernel_rfl) HF fun K hK=>?_
    refine ku (v0:=.agg c.cells) (v1:=.slice (some ⟨g,0,none⟩) ws.length cap) (v2:=.int .i64 k) (v3:=.int .i64 f) (v4:=vp) rfl (HF.get 11 rfl) (HF.get 10 rfl) (HF.get 9 rfl) (HF.get 8 rfl) (HF.get 0 rfl) (enters_of Tryz.func157 (by kernel_rfl) rfl) ?_
    refine(mW HR.o ws HH.o hl k f hz (q::listG c.pg c.st G k f) HPS.o (by simp;omega) g cap _ 0 wp ((HW1.o.more M5.o).keep (Turned.mono HTP.o (fun _ _ z=>z)) HGP.o) RP.o NP.o).mono ?_
    rintro e w8 ⟨rfl,hw8,ht8⟩
    have T8:=TP.o.trans ht8
    refine hK _ _ (KT.o _ T8) fun A β13 HF=>?_
    clear hK K
    exact el (by kernel_rfl) (FINE _ _ ⟨(.agg c.cells),(.slice (some ⟨g,0,none⟩) ws.length cap),(.int .i64 k),(.int .i64 f),(.int .i64 q),(.agg c.cells),(.slice (some ⟨g,0,none⟩) ws.length cap),(.int .i64 k),(.int .i64 f),(.slice (some ⟨wq.heap.size,0,none⟩) 1 1),(vl),(vp),(.tuple #[]),by rw[← β13,← β12,← β11,← β10,← β9,← β8,← β7,← β6,← β5,← β4,← β3,← β2,← β1]<;>rfl,hw8,T8⟩)
  ·refine iC (v0:=.agg c.cells) (v1:=.slice (some ⟨g,0,none⟩) ws.length cap) (v2:=.int .i64 k) (v3:=.int .i64 f) rfl (HF.get 3 rfl) (HF.get 2 rfl) (HF.get 1 rfl) (HF.get 0 rfl) (enters_of Tryz.func153 (by kernel_rfl) rfl) ?_
   refine(mV HR.o ws HH.o hl HLn.o g cap k f wq (HW1.o.more MR.o)).mono ?_
   rintro e w4 ⟨vl,rfl,hrl,m4,hnil⟩
   have RL:=hQQ hrl
   have M4:=hQQ (MR.o.trans m4)
   have HNIL:=hQQ hnil
   clear hrl hnil
   refine hK _ _ (KC.o _ M4.o) ?_
   clear hK K
   replace HF:=HF.put 27 (vl) (by decide) rfl
   generalize β10:Act.put _ _ _=A at HF⊢
   refine tqO 5 22 (by kernel_rfl) HF fun K hK=>?_
   refine ro rfl q (HF.get 5 rfl) ?_
   obtain⟨w5,e5⟩:∃w5,w4.alloc (.cells #[.int .i64 q] 3)=w5:=⟨_,rfl⟩
   have m5:ae w4 w5:=by rw[←e5];exact(ae.refl _).alloc _
   have RB:Hq (Rw 0 w5 (.slice (some ⟨w4.heap.size,0,none⟩) 1 1) [q]):=hQQ (by rw[←e5];exact zC w4 q)
   have M5:=hQQ (M4.o.trans m5)
   have hgb:w1.heap.size≤w4.heap.size:=M4.o.size
   rw[e5]
   replace RL:=hQQ (Rw.more RL.o m5)
   refine hK _ _ (KC.o _ M5.o) fun A β11 HF=>?_
   clear hK K
   by_cases hl0:listG c.pg c.st G k f= []
   ·have hv:=HNIL.o hl0
    subst hv
    refine tqO 11 28 (by kernel_rfl) HF fun K hK=>?_
    refine vw _ _ rfl (HF.get 0 rfl) (HF.get 1 rfl) (Nat.le_refl _) ?_
    refine hK _ _ (KC.o _ M5.o) fun A β12 HF=>?_
    clear hK K
    have RP:Hq (Rw 0 w5 (.slice (some ⟨w4.heap.size,0,none⟩) 1 1) (q::listG c.pg c.st G k f)):=hQQ (by rw[hl0];exact RB.o)
    have NP:Hq (∀kk,(Value.slice (some ⟨w4.heap.size,0,none⟩) 1 1).ownBlock=some kk→kk≠g):=hQQ (fun kk e=>by have hh:kk=w4.heap.size:=(by simpa [Value.ownBlock,eq_comm] using e);omega)
    have TP:Hq (Turned (fun b=>b=g) w1 w5):=hQQ (Turned.mono M5.o (fun _ _ z=>z.elim))
    refine tqO 12 29 (by kernel_rfl) HF fun K hK=>?_
    refine ku (v0:=.agg c.cells) (v1:=.slice (some ⟨g,0,none⟩) ws.length cap) (v2:=.int .i64 k) (v3:=.int .i64 f) (v4:=.slice (some ⟨w4.heap.size,0,none⟩) 1 1) rfl (HF.get 11 rfl) (HF.get 10 rfl) (HF.get 9 rfl) (HF.get 8 rfl) (HF.get 0 rfl) (enters_of Tryz.func157 (by kernel_rfl) rfl) ?_
    refine(mW HR.o ws HH.o hl k f hz (q::listG c.pg c.st G k f) HPS.o (by simp;omega) g cap _ 0 w5 (HW1.o.more M5.o) RP.o NP.o).mono ?_
    rintro e w8 ⟨rfl,hw8,ht8⟩
    have T8:=TP.o.trans ht8
    refine hK _ _ (KT.o _ T8) fun A β13 HF=>?_
    clear hK K
    exact el (by kernel_rfl) (FINE _ _ ⟨(.agg c.cells),(.slice (some ⟨g,0,none⟩) ws.length cap),(.int .i64 k),(.int .i64 f),(.int .i64 q),(.agg c.cells),(.slice (some ⟨g,0,none⟩) ws.length cap),(.int .i64 k),(.int .i64 f),(.slice (some ⟨w4.heap.size,0,none⟩) 1 1),(.slice none 0 0),(.slice (some ⟨w4.heap.size,0,none⟩) 1 1),(.tuple #[]),by rw[← β13,← β12,← β11,← β10,← β9,← β8,← β7,← β6,← β5,← β4,← β3,← β2,← β1]; (try simp only[pts,List.foldl]);rw[gY (i:=27) (j:=22) (by decide)],hw8,T8⟩)
   ·refine tqO 11 28 (by kernel_rfl) HF fun K hK=>?_
    refine ql _ _ rfl (HF.get 0 rfl) RB.o (Nat.zero_le _) (by simp) (HF.get 1 rfl) RL.o ⟨List.length_pos_iff.2 hl0,by omega⟩ ?_
    intro vp wp hrp htp hvp
    have TP:Hq (Turned (fun b=>b=g) w1 wp):=hQQ (aq (Turned.mono M5.o (fun _ _ z=>z.elim)) htp (fun kk e=> .inr (by have hh:kk=w4.heap.size:=(by simpa [Value.ownBlock,eq_comm] using e);omega)))
    have RP:Hq (Rw 0 wp vp (q::listG c.pg c.st G k f)):=hQQ hrp
    have hsz:=M5.o.size
    have NP:Hq (∀kk,vp.ownBlock=some kk→kk≠g):=hQQ (fun kk e=>by
     rcases hvp kk e with z|z
     ·have:kk=w4.heap.size:=by simpa [Value.ownBlock,eq_comm] using z
      omega
     ·omega)
    have HTP:=hQQ htp
    have HGP:Hq (¬(Value.slice (some ⟨w4.heap.size,0,none⟩) 1 1).ownBlock=some g):=hQQ (fun e=>by have hh:g=w4.heap.size:=(by simpa [Value.ownBlock,eq_comm] using e);omega)
    clear hrp htp hvp
    refine hK _ _ (KT.o _ TP.o) fun A β12 HF=>?_
    clear hK K
    refine tqO 12 29 (by kernel_rfl) HF fun K hK=>?_
    refine ku (v0:=.agg c.cells) (v1:=.slice (some ⟨g,0,none⟩) ws.length cap) (v2:=.int .i64 k) (v3:=.int .i64 f) (v4:=vp) rfl (HF.get 11 rfl) (HF.get 10 rfl) (HF.get 9 rfl) (HF.get 8 rfl) (HF.get 0 rfl) (enters_of Tryz.func157 (by kernel_rfl) rfl) ?_
    refine(mW HR.o ws HH.o hl k f hz (q::listG c.pg c.st G k f) HPS.o (by simp;omega) g cap _ 0 wp ((HW1.o.more M5.o).keep (Turned.mono HTP.o (fun _ _ z=>z)) HGP.o) RP.o NP.o).mono ?_
    rintro e w8 ⟨rfl,hw8,ht8⟩
    have T8:=TP.o.trans ht8
    refine hK _ _ (KT.o _ T8) fun A β13 HF=>?_
    clear hK K
    exact el (by kernel_rfl) (FINE _ _ ⟨(.agg c.cells),(.slice (some ⟨g,0,none⟩) ws.length cap),(.int .i64 k),(.int .i64 f),(.int .i64 q),(.agg c.cells),(.slice (some ⟨g,0,none⟩) ws.length cap),(.int .i64 k),(.int .i64 f),(.slice (some ⟨w4.heap.size,0,none⟩) 1 1),(vl),(vp),(.tuple #[]),by rw[← β13,← β12,← β11,← β10,← β9,← β8,← β7,← β6,← β5,← β4,← β3,← β2,← β1]; (try simp only[pts,List.foldl]);rw[gY (i:=27) (j:=22) (by decide)],hw8,T8⟩)
 ·have hcond:(af c.pg q && (aC c.pg c.st k f != 0))=false:=by
   cases e:af c.pg q with
   |false=>rfl
   |true =>
    have:aC c.pg c.st k f=0:=Classical.byContradiction fun z=>hth ⟨e,z⟩
    simp[this]
  have YT:Hq (∀W,Calls Tryz.prog 154 #[.agg c.cells,.int .i64 q,.int .i64 k,.int .i64 f] W (aF W (.bool false))):=hQQ fun W=>by have:=k9 R q k f W;rwa [hcond] at this
  have hr:bZ c.pg c.st q k f ws=(false,ws):=by unfold bZ;rw[if_neg (fun z=>hth ⟨z.2,z.1⟩)]
  rw[hr]
  clear hc R hw H L hf hcond hth hr
  go_enter Tryz.func148,Tryz.ntmps148
  go_wp2_with (first|(refine aA rfl rfl rfl HC.o (by kernel_rfl) ?_)|(refine aA rfl rfl rfl HC.o (by kernel_rfl) ?_))
  clear e1
  refine(YT.o _).mono ?_
  rintro e w3 ⟨rfl,h3⟩
  have M3:=hQQ (HM.o.trans h3)
  clear h3
  go_wp2_with fail
  go_ret
  exact⟨rfl,HW.o.more M3.o,Turned.mono M3.o (fun _ _ z=>z.elim)⟩
theorem Hl {c:Cfg}{ws:List Int}(H:cB c.pg c.st ws.length){G:Int→List Int}(L:Ln c.pg c.st G ws){q k f:Int}(hz:aC c.pg c.st k f≠0){s t:List Int}(hG:G (aC c.pg c.st k f)=s++q::t)(hs:q∉s):aY c.pg c.st q k f ws=(true,n6 c.pg c.st (aC c.pg c.st k f) (s++t) ((ws.set (nA c.pg c.st q).toNat 0).set (vA c.pg c.st q).toNat 0)):=by
 rw[vm H L rfl hz hG hs]
 exact Prod.ext (nY H L rfl hz hG hs).1 rfl
def restL (l:List Int)(q:Int):List Int:=l.filter (fun x=>decide (x≠q))
theorem yn {l:List Int}{q:Int}{j:Nat}(hj:j<l.length):restL (l.take (j+1)) q=if l.getD j 0=q then restL (l.take j) q else restL (l.take j) q++ [l.getD j 0]:=by
 rw[rN hj]
 unfold restL
 rw[List.filter_append]
 by_cases e:l.getD j 0=q
 ·rw[if_pos e,e];simp
 ·rw[if_neg e];simp only[List.filter_cons,List.filter_nil]
  have:decide (l.getD j 0≠q)=true:=by simpa using e
  rw[if_pos this]
theorem vx (l:List Int)(q:Int):(restL l q).length≤l.length:=List.length_filter_le _ _
theorem qm {c:Cfg}(R:c.Ok)(ws:List Int)(H:cB c.pg c.st ws.length)(hl:ws.length≤1000){G:Int→List Int}(L:Ln c.pg c.st G ws)(q k f:Int)(g cap:Nat)(w:World)(hw:Ws w g cap ws):
 Calls Tryz.prog 145 #[.agg c.cells,.slice (some ⟨g,0,none⟩) ws.length cap,.int .i64 q,.int .i64 k,.int .i64 f] w (fun e w'=>e=.returned (.bool (aY c.pg c.st q k f ws).1)∧Ws w' g cap (aY c.pg c.st q k f ws).2∧Turned (fun b=>b=g) w w'):=by
 have hc:=aH w c.cells 27
 have HC:=hQQ hc
 have HM:Hq (ae w (w.alloc (.cells c.cells 27))):=hQQ ((ae.refl w).alloc _)
 have HR:=hQQ R
 have HW:=hQQ hw
 have HH:=hQQ H
 have HLn:=hQQ L
 have hgl:=hw.lt
 obtain⟨w1,e1⟩:∃w1,w.alloc (.cells c.cells 27)=w1:=⟨_,rfl⟩
 rw[e1] at HC HM
 by_cases hth:af c.pg q=true∧aC c.pg c.st k f≠0
 ·obtain⟨hq,hz⟩:=hth
  obtain⟨ha,_,_,_,_⟩:=dF hz
  have hsh:=vh H (L.page _ ha) (L.nodup _ ha)
  have pg1:=R.pg1
  have pg2:=R.pg2
  have hlG:listG c.pg c.st G k f=G (aC c.pg c.st k f):=if_neg hz
  have hll:(listG c.pg c.st G k f).length≤256:=by rw[hlG];omega
  have hcond:(af c.pg q && (aC c.pg c.st k f != 0))=true:=by simp[hq,hz]
  have YT:Hq (∀W,Calls Tryz.prog 154 #[.agg c.cells,.int .i64 q,.int .i64 k,.int .i64 f] W (aF W (.bool true))):=hQQ fun W=>by have:=k9 R q k f W;rwa [hcond] at this
  rw[e1] at hc
  have hdec:(q∉G (aC c.pg c.st k f)∧restL (listG c.pg c.st G k f) q=listG c.pg c.st G k f∧aY c.pg c.st q k f ws=(false,ws)) ∨
   ((restL (listG c.pg c.st G k f) q).length<(listG c.pg c.st G k f).length∧aY c.pg c.st q k f ws=(true,n6 c.pg c.st (aC c.pg c.st k f) (restL (listG c.pg c.st G k f) q) ((ws.set (nA c.pg c.st q).toNat 0).set (vA c.pg c.st q).toNat 0))):=by
   rw[hlG]
   by_cases hm:q∈G (aC c.pg c.st k f)
   ·obtain⟨s,t,hG,hs⟩:=im hm
    have hnd:=L.nodup _ ha
    rw[hG] at hnd
    have ht:q∉t:=(List.nodup_cons.1 (List.nodup_append.1 hnd).2.1).1
    refine .inr ?_
    have hr:restL (G (aC c.pg c.st k f)) q=s++t:=by rw[hG];exact yd H hs ht
    rw[hr,Hl H L hz hG hs,hG]
    exact⟨by simp,rfl⟩
   ·exact .inl ⟨hm,List.filter_eq_self.2 (fun a h=>by simp;rintro rfl;exact hm h),k8 H L (fun _ _=>hm)⟩
  have HPS:Hq (∀p∈restL (listG c.pg c.st G k f) q,af c.pg p=true):=hQQ fun p hp=>by
   have:=(List.mem_filter.1 hp).1
   rw[hlG] at this
   exact L.page _ ha p this
  obtain⟨⟨q0,q1,_⟩,⟨q2,q3,_⟩⟩:=ii H hq
  obtain⟨b3,hb3⟩:∃b:Nat,nA c.pg c.st q=(b:Int):=⟨(nA c.pg c.st q).toNat,by omega⟩
  obtain⟨b4,hb4⟩:∃b:Nat,vA c.pg c.st q=(b:Int):=⟨(vA c.pg c.st q).toNat,by omega⟩
  have l3:b3<ws.length:=by omega
  have l4:b4<ws.length:=by omega
  have P3:=hQQ ((DZ (st:=c.st) hq).trans hb3)
  have P4:=hQQ ((IA (st:=c.st) hq).trans hb4)
  have HS:Hq ((ws.set (nA c.pg c.st q).toNat 0).set (vA c.pg c.st q).toNat 0=(ws.set b3 0).set b4 0):=hQQ (by rw[hb3,hb4];rfl)
  have KC:Hq (∀W,Turned (fun b=>b=g) w1 W→W.heap[w.heap.size]?=some (.cells c.cells 27 (0,0))):=hQQ fun W t=>(t.block _ (ac hc) (by omega)).trans hc
  have HW1:=hQQ (HW.o.more HM.o)
  have s1:=HM.o.size
  have MM:=HM
  have HDEC:=hQQ hdec
  clear hc R hw H L ha hsh pg1 pg2 hcond hq hdec hlG hb3 hb4 q0 q1 q2 q3
  go_enter Tryz.func145,Tryz.ntmps145
  go_wp2_with (first|(refine aA rfl rfl rfl HC.o (by kernel_rfl) ?_)|(refine aA rfl rfl rfl HC.o (by kernel_rfl) ?_))
  clear e1
  refine(YT.o _).mono ?_
  rintro e w3 ⟨rfl,h3⟩
  have M3:=hQQ h3
  have HC3:=hQQ (h3.block HC.o)
  clear h3
  go_wp2_with (first|(refine aA rfl rfl rfl HC3.o (by kernel_rfl) ?_)|(refine aA rfl rfl rfl HC3.o (by kernel_rfl) ?_))
  refine(mV HR.o ws HH.o hl HLn.o g cap k f w3 (HW1.o.more M3.o)).mono ?_
  rintro e w4 ⟨vl,rfl,hrl,m4,_⟩
  have RL:=hQQ hrl
  have M4:=hQQ (M3.o.trans m4)
  obtain⟨l,hle⟩:∃l,listG c.pg c.st G k f=l:=⟨_,rfl⟩
  rw[hle] at hll HDEC HPS RL
  obtain⟨al,cl,rfl,hrd⟩:=RL.o.reads
  have HRD:=hQQ hrd
  clear hrl m4 hle hrd HC HC3 HM HW
  go_wp2_with fail
  go_loopw [11,13] (fun v11 v13 wr=>∃j:Nat,v13=.int .i64 (j:Int)∧j≤l.length∧Rw w4.heap.size wr v11 (restL (l.take j) q)∧ae w4 wr) (fun _ v13 _=>l.length-(intOf v13).toNat)
  case atStart=>exact⟨0,rfl,by omega,Rw.nil _ _,ae.refl _⟩
  case round =>
   obtain⟨j,rfl,hj,hr,ht⟩:=hrel
   have q1:IntKind.i64.wrap ((j:Int)+1)=(j:Int)+1:=am (by omega) (by omega)
   have HRW:=hQQ hr
   have HT:=hQQ ht
   clear hr ht
   by_cases hlt:j<l.length
   ·have d1:decide ((j:Int)<(l.length:Int))=true:=by simp;omega
    obtain⟨ga,rfl,_,_,hcell⟩:=HRD.o j hlt
    have ca:=HT.o.cell (hcell j hlt)
    have hrt:=yn (q:=q) hlt
    have hrl:=vx (l.take j) q
    have hlx:(l.take j).length≤256:=by simp;omega
    obtain⟨y,hy⟩:∃y,l.getD j 0=y:=⟨_,rfl⟩
    rw[hy] at ca hrt
    have HRT:=hQQ hrt
    have hjx:(j:Int)<(l.length:Int):=by omega
    clear hcell hy hrt
    by_cases e:y=q
    ·have d2:(y != q)=false:=by simp[e]
     have HE:=hQQ e
     clear e
     go_wp2_with fail
     go_roundw
     case rel=>exact⟨j+1,by go_num,by omega,by rw[HRT.o,if_pos HE.o];exact HRW.o,HT.o⟩
     case measure=>simp[intOf];omega
    ·have d2:(y != q)=true:=by simpa using e
     have HE:=hQQ e
     clear e
     go_wp2_with (first|(at_builtin;refine kg _ rfl _ _ rfl rfl HRW.o HT.o (by omega) rfl ?_;intro v' w5 hr5 hm5;have HR5:=hQQ hr5;have HM5:=hQQ hm5;clear hr5 hm5))
     go_roundw
     case rel=>exact⟨j+1,by go_num,by omega,by rw[HRT.o,if_neg HE.o];exact HR5.o,HM5.o⟩
     case measure=>simp[intOf];omega
   ·obtain rfl:j=l.length:=by omega
    have d1:decide ((l.length:Int)<(l.length:Int))=false:=by simp
    rw[List.take_length] at HRW
    obtain⟨ax,cx,rfl,_⟩:=HRW.o.reads
    have FW:=hQQ (HW1.o.more (M4.o.trans HT.o))
    have FT:=hQQ (M4.o.trans HT.o)
    rcases HDEC.o with⟨_,hre,hres⟩|⟨hre,hres⟩
    ·rw[hre] at HRW⊢
     have HRS:=hQQ hres
     clear hre hres
     go_wp2_with fail
     go_ret
     exact⟨by rw[HRS.o];rfl,by rw[HRS.o];exact FW.o,RowP.turn MM.o (Turned.mono FT.o (fun _ _ z=>z.elim))⟩
    ·have HRS:=hQQ hres
     have d2:(((restL l q).length:Int)==(l.length:Int))=false:=by simpa using (show ¬((restL l q).length:Int)=(l.length:Int) by omega)
     have d3:((restL l q).length==l.length)=false:=by simpa using (show ¬(restL l q).length=l.length by omega)
     have d4:decide ((restL l q).length=l.length)=false:=by simpa using (show ¬(restL l q).length=l.length by omega)
     have hrl:=vx l q
     obtain⟨rs,hrs⟩:∃rs,restL l q=rs:=⟨_,rfl⟩
     rw[hrs] at HRW d2 d3 d4 hrl HRS HPS
     rw[hrs]
     have T4:Hq (Turned (fun b=>b=g) w1 wr):=hQQ (Turned.mono FT.o (fun _ _ z=>z.elim))
     have HL4:=hQQ (KC.o _ T4.o)
     have UR:Hq (Turned (fun b=>b=g) wr wr):=hQQ (Turned.refl _ _)
     clear hre hres hrs
     go_wp2_with (first|(refine aA rfl rfl rfl HL4.o (by kernel_rfl) ?_)|(refine aA rfl rfl rfl HL4.o (by kernel_rfl) ?_))
     refine(mU HR.o _ q).mono ?_
     rw[P3.o]
     rintro e wa ⟨rfl,ha⟩
     have Ta:Hq (Turned (fun b=>b=g) w1 wa):=hQQ (T4.o.trans (Turned.mono ha (fun _ _ q=>q.elim)))
     have Ua:Hq (Turned (fun b=>b=g) wr wa):=hQQ (UR.o.trans (Turned.mono ha (fun _ _ q=>q.elim)))
     have Xa:=hQQ (FW.o.more ha)
     clear ha
     have cb:=Xa.o.cell (i:=b3) l3
     have fb:=Xa.o.froz b3
     have lb:=Xa.o.lt
     obtain⟨wb,eb⟩:∃wb,World.setCell wa ⟨g,b3,none⟩ (.int .i64 0)=wb:=⟨_,rfl⟩
     have Xb:Hq (Ws wb g cap (ws.set b3 0)):=hQQ (by rw[←eb];exact Xa.o.set l3 _)
     have Tb:Hq (Turned (fun b=>b=g) w1 wb):=hQQ (by rw[←eb];exact Turned.setCell Ta.o _ _ (fun _=>rfl))
     have HLb:=hQQ (KC.o _ Tb.o)
     have Ub:Hq (Turned (fun b=>b=g) wr wb):=hQQ (by rw[←eb];exact Turned.setCell Ua.o _ _ (fun _=>rfl))
     go_wp2_with (first|(refine aA rfl rfl rfl HLb.o (by kernel_rfl) ?_)|(refine aA rfl rfl rfl HLb.o (by kernel_rfl) ?_))
     clear cb fb lb eb
     refine(tA HR.o _ q).mono ?_
     rw[P4.o]
     rintro e wc ⟨rfl,hc⟩
     have Tc:Hq (Turned (fun b=>b=g) w1 wc):=hQQ (Tb.o.trans (Turned.mono hc (fun _ _ q=>q.elim)))
     have Uc:Hq (Turned (fun b=>b=g) wr wc):=hQQ (Ub.o.trans (Turned.mono hc (fun _ _ q=>q.elim)))
     have Xc:=hQQ (Xb.o.more hc)
     clear hc
     have cd:=Xc.o.cell (i:=b4) (by simp;omega)
     have fd:=Xc.o.froz b4
     have ld:=Xc.o.lt
     obtain⟨wd,ed⟩:∃wd,World.setCell wc ⟨g,b4,none⟩ (.int .i64 0)=wd:=⟨_,rfl⟩
     have Xd:Hq (Ws wd g cap ((ws.set b3 0).set b4 0)):=hQQ (by rw[←ed];exact Xc.o.set (by simp;omega) _)
     have Td:Hq (Turned (fun b=>b=g) w1 wd):=hQQ (by rw[←ed];exact Turned.setCell Tc.o _ _ (fun _=>rfl))
     have HLd:=hQQ (KC.o _ Td.o)
     have NP:Hq (∀kk,(Value.slice ax rs.length cx).ownBlock=some kk→kk≠g∧w4.heap.size≤kk):=hQQ fun kk e=>by
      have:=(Rw.own HRW.o e).1
      have:=M4.o.size
      omega
     have RD:Hq (Rw w4.heap.size wd (.slice ax rs.length cx) rs):=hQQ (by
      have t0:Turned (fun b=>b=g) wr wd:=by
       rw[←ed]
       refine Turned.setCell ?_ _ _ (fun _=>rfl)
       exact Uc.o
      exact HRW.o.keepT t0 (fun kk e=>(NP.o kk e).1))
     go_wp2_with (first|(refine aA rfl rfl rfl HLd.o (by kernel_rfl) ?_)|(refine aA rfl rfl rfl HLd.o (by kernel_rfl) ?_))
     clear cd fd ld ed
     have lay:=mW HR.o ((ws.set b3 0).set b4 0) (by simpa using HH.o) (by simpa using hl) k f hz rs HPS.o (by omega) g cap _ _ wd Xd.o RD.o (fun kk e=>(NP.o kk e).1)
     have hlen2:((ws.set b3 0).set b4 0).length=ws.length:=by simp
     rw[hlen2] at lay
     refine lay.mono ?_
     rintro e w9 ⟨rfl,h9,t9⟩
     have F9:=hQQ h9
     have G9:=hQQ (Td.o.trans t9)
     clear h9 t9 lay
     go_wp2_with fail
     go_ret
     exact⟨by rw[HRS.o];rfl,by rw[HRS.o,HS.o];exact F9.o,RowP.turn MM.o G9.o⟩
 ·have hcond:(af c.pg q && (aC c.pg c.st k f != 0))=false:=by
   cases e:af c.pg q with
   |false=>rfl
   |true =>
    have:aC c.pg c.st k f=0:=Classical.byContradiction fun z=>hth ⟨e,z⟩
    simp[this]
  have YT:Hq (∀W,Calls Tryz.prog 154 #[.agg c.cells,.int .i64 q,.int .i64 k,.int .i64 f] W (aF W (.bool false))):=hQQ fun W=>by have:=k9 R q k f W;rwa [hcond] at this
  have hr:=k8 H L (c:=k) (f:=f) (p:=q) (fun a b=>absurd ⟨a,b⟩ hth)
  rw[hr]
  clear hc R hw H L hcond hth hr
  go_enter Tryz.func145,Tryz.ntmps145
  go_wp2_with (first|(refine aA rfl rfl rfl HC.o (by kernel_rfl) ?_)|(refine aA rfl rfl rfl HC.o (by kernel_rfl) ?_))
  clear e1
  refine(YT.o _).mono ?_
  rintro e w3 ⟨rfl,h3⟩
  have M3:=hQQ (HM.o.trans h3)
  clear h3
  go_wp2_with fail
  go_ret
  exact⟨rfl,HW.o.more M3.o,Turned.mono M3.o (fun _ _ z=>z.elim)⟩
theorem BL {c:Cfg}(R:c.Ok)(w:World):Calls Tryz.prog 124 #[.agg c.cells] w (aF w (.int .i64 (aD c.pg))):=iV c.wk c.cp c.pg c.st c.tr c.wt c.ck c.pr c.ca c.bi c.ba w R
theorem vz {c:Cfg}(R:c.Ok)(k:Int)(w:World):Calls Tryz.prog 86 #[.agg c.cells,.int .i64 k] w (aF w (.int .i64 (cI c.pg c.st k))):=Ky c.wk c.cp c.pg c.st c.tr c.wt c.ck c.pr c.ca c.bi c.ba w k R
theorem KE (p:Int)(h0: -9223372036854775808≤p)(h1:p≤9223372036854775807)(w:World):Calls Tryz.prog 45 #[.int .i64 p] w fun e w'=>e=.returned (.int .i64 (ofV p))∧w'=w:=by
 by_cases c:p<0
 ·rw[show ofV p= -1 from if_pos c]
  go_enter Tryz.func45,Tryz.ntmps45
  go_wp2_with fail
  go_ret
  exact⟨rfl,rfl⟩
 ·rw[show ofV p=p / 4 from if_neg c]
  have q2:IntKind.i64.wrap (p.tdiv 4)=p / 4:=by rw[Int.tdiv_eq_ediv_of_nonneg (by omega)];exact am (by omega) (by omega)
  have d0:decide (p<0)=false:=by simp;omega
  go_enter Tryz.func45,Tryz.ntmps45
  go_wp2_with fail
  go_ret
  exact⟨rfl,rfl⟩
theorem jL {c:Cfg}(R:c.Ok)(k:Int)(w:World):Calls Tryz.prog 85 #[.agg c.cells,.int .i64 k] w (aF w (.bool (aU c.pg k))):=by
 have HC:=hQQ (aH w c.cells 27)
 have HM:Hq (ae w (w.alloc (.cells c.cells 27))):=(ae.refl w).alloc _
 by_cases h:0≤k
 ·have d0:decide (0≤k)=true:=by simp[h]
  have hk:aU c.pg k=decide (k<aD c.pg):=by unfold aU;rw[d0];rfl
  rw[hk]
  go_enter Tryz.func85,Tryz.ntmps85
  go_wp2_with (refine aA rfl rfl rfl HC.o (by kernel_rfl) ?_)
  refine(BL R _).mono ?_
  rintro e w1 ⟨rfl,h1⟩
  go_wp2_with fail
  go_ret
  exact⟨rfl,HM.o.trans h1⟩
 ·have d0:decide (0≤k)=false:=by simp[h]
  have hk:aU c.pg k=false:=by unfold aU;rw[d0];rfl
  rw[hk]
  go_enter Tryz.func85,Tryz.ntmps85
  go_wp2_with fail
  go_ret
  exact⟨rfl,HM.o⟩
theorem qn {c:Cfg}(R:c.Ok)(ws:List Int)(H:TblIn c.pg c.st ws.length)(hl:ws.length≤1000)(g cap:Nat)(k:Int)(w:World)(hw:Ws w g cap ws):
 Calls Tryz.prog 44 #[.agg c.cells,.slice (some ⟨g,0,none⟩) ws.length cap,.int .i64 k] w (aF w (.bool (aG c.pg c.st ws k))):=by
 have HC:=hQQ (aH w c.cells 27)
 have HM:Hq (ae w (w.alloc (.cells c.cells 27))):=(ae.refl w).alloc _
 have R':=hQQ R
 have HW:=hQQ hw
 cases h:aU c.pg k with
 |false =>
  rw[show aG c.pg c.st ws k=false by unfold aG;rw[h];rfl]
  clear hw R
  go_enter Tryz.func44,Tryz.ntmps44
  go_wp2_with (refine aA rfl rfl rfl HC.o (by kernel_rfl) ?_)
  refine(jL R'.o k _).mono ?_
  rw[h]
  rintro e w1 ⟨rfl,h1⟩
  have HM1:=hQQ (HM.o.trans h1)
  clear h1
  go_wp2_with fail
  go_ret
  exact⟨rfl,HM1.o⟩
 |true =>
  obtain⟨t0,t1,t2⟩:=jZ H h
  obtain⟨m,hm⟩:∃m:Nat,cI c.pg c.st k=(m:Int):=⟨(cI c.pg c.st k).toNat,by omega⟩
  have hmj:m<ws.length:=by omega
  have hv:aG c.pg c.st ws k=decide (ws.getD m 0=1):=by unfold aG;rw[h,hm];rfl
  rw[hv]
  have YT:Hq (∀W,Calls Tryz.prog 86 #[.agg c.cells,.int .i64 k] W (aF W (.int .i64 (m:Int)))):=hQQ (fun W=>by have:=vz R k W;rw[hm] at this;exact this)
  have HX:Hq (∀W,ae w W→W.cell? ⟨g,m,none⟩=some (.int .i64 (ws.getD m 0))):=hQQ (fun W hW=>(hw.more hW).cell hmj)
  generalize ws.getD m 0=z at HX⊢
  have b1:(z==1)=decide (z=1):=by by_cases q:z=1<;>simp[q]
  clear hw R hm t0 t1 t2 hv HW
  go_enter Tryz.func44,Tryz.ntmps44
  go_wp2_with (refine aA rfl rfl rfl HC.o (by kernel_rfl) ?_)
  refine(jL R'.o k _).mono ?_
  rw[h]
  rintro e w1 ⟨rfl,h1⟩
  have HC1:=hQQ (h1.block HC.o)
  have HM1:=hQQ (HM.o.trans h1)
  clear h1
  go_wp2_with (refine aA rfl rfl rfl HC1.o (by kernel_rfl) ?_)
  refine(YT.o _).mono ?_
  rintro e w2 ⟨rfl,h2⟩
  have HM2:=hQQ (HM1.o.trans h2)
  have x1:=HX.o _ HM2.o
  clear h2
  go_wp2_with fail
  go_ret
  exact⟨rfl,HM2.o⟩
theorem Kg {c:Cfg}(R:c.Ok)(x y:Int)(hx:W64 x)(w:World):Calls Tryz.prog 132 #[.agg c.cells,.int .i64 x,.int .i64 y] w (aF w (.bool (aZ c.pg x y))):=by
 have hc:=aH w c.cells 27
 have x2:(w.alloc (.cells c.cells 27)).cell? ⟨w.heap.size,2,none⟩=some (.int .i64 c.pg):=aB hc (ae.refl _) rfl
 have HM:Hq (ae w (w.alloc (.cells c.cells 27))):=(ae.refl w).alloc _
 have p1:=R.pg1
 have p2:=R.pg2
 have q0:aZ c.pg x y=(decide (1≤y) && decide (0≤x) && decide (x<c.pg) && decide (y≤c.pg-x)):=by
  unfold aZ
  by_cases a:1≤y<;>by_cases b:0≤x<;>by_cases d:y≤c.pg-x<;>simp[a,b,d]
  omega
 rw[q0]
 clear q0 hc
 unfold W64 at hx
 by_cases a:1≤y
 ·have d1:decide (1≤y)=true:=by simp[a]
  by_cases b:0≤x
  ·have d2:decide (0≤x)=true:=by simp[b]
   by_cases d:x<c.pg
   ·have d3:decide (x<c.pg)=true:=by simp[d]
    have q1:IntKind.i64.wrap (c.pg-x)=c.pg-x:=am (by omega) (by omega)
    rw[d1,d2,d3]
    simp only[Bool.true_and,Bool.and_true]
    clear a b d p1 p2 hx R
    go_enter Tryz.func132,Tryz.ntmps132
    go_wp2_with fail
    go_ret
    exact⟨rfl,HM.o⟩
   ·have d3:decide (x<c.pg)=false:=by simp;omega
    rw[d1,d2,d3]
    simp only[Bool.true_and,Bool.and_true,Bool.false_and,Bool.and_false]
    clear a b d p1 p2 hx R
    go_enter Tryz.func132,Tryz.ntmps132
    go_wp2_with fail
    go_ret
    exact⟨rfl,HM.o⟩
  ·have d2:decide (0≤x)=false:=by simp[b]
   rw[d1,d2]
   simp only[Bool.true_and,Bool.and_true,Bool.false_and,Bool.and_false]
   clear a b p1 p2 hx R
   go_enter Tryz.func132,Tryz.ntmps132
   go_wp2_with fail
   go_ret
   exact⟨rfl,HM.o⟩
 ·have d1:decide (1≤y)=false:=by simp[a]
  rw[d1]
  simp only[Bool.true_and,Bool.and_true,Bool.false_and,Bool.and_false]
  clear a p1 p2 hx R
  go_enter Tryz.func132,Tryz.ntmps132
  go_wp2_with fail
  go_ret
  exact⟨rfl,HM.o⟩
def qo (w:World)(g cap:Nat)(v:Value)(ws:List Int)(e:Ending)(w':World):Prop:=e=.returned v∧Ws w' g cap ws∧Turned (fun b=>b=g) w w'
theorem turned_more {S:Nat→Prop}{w w':World}(m:ae w w'):Turned S w w':=Turned.mono m (fun _ _ q=>q.elim)
theorem Jj {c:Cfg}(R:c.Ok)(ws:List Int)(H:TblIn c.pg c.st ws.length)(hl:ws.length≤1000)(g cap:Nat)(k x:Int)(w:World)(hw:Ws w g cap ws):
 Calls Tryz.prog 134 #[.agg c.cells,.slice (some ⟨g,0,none⟩) ws.length cap,.int .i64 k,.int .i64 x] w (qo w g cap (.bool (decide (0<(fF c.pg c.st k x ws).1))) (fF c.pg c.st k x ws).2):=by
 have HC:=hQQ (aH w c.cells 27)
 have HM:Hq (ae w (w.alloc (.cells c.cells 27))):=(ae.refl w).alloc _
 have R':=hQQ R
 have HW:=hQQ hw
 cases h:aU c.pg k with
 |false =>
  rw[show fF c.pg c.st k x ws=(0,ws) by unfold fF;rw[h];rfl]
  clear hw R
  go_enter Tryz.func134,Tryz.ntmps134
  go_wp2_with (refine aA rfl rfl rfl HC.o (by kernel_rfl) ?_)
  refine(jL R'.o k _).mono ?_
  rw[h]
  rintro e w1 ⟨rfl,h1⟩
  have HM1:=hQQ (HM.o.trans h1)
  clear h1
  go_wp2_with fail
  go_ret
  exact⟨rfl,HW.o.more HM1.o,turned_more HM1.o⟩
 |true =>
  obtain⟨t0,t1,t2⟩:=jZ H h
  obtain⟨m,hm⟩:∃m:Nat,cI c.pg c.st k=(m:Int):=⟨(cI c.pg c.st k).toNat,by omega⟩
  have hmj:m<ws.length:=by omega
  have YT:Hq (∀W,Calls Tryz.prog 86 #[.agg c.cells,.int .i64 k] W (aF W (.int .i64 (m:Int)))):=hQQ (fun W=>by have:=vz R k W;rw[hm] at this;exact this)
  have RM:=hQQ (fun W (hW:ae w W)=>qn R ws H hl g cap k W (hw.more hW))
  have hs:=IY h
  have e1:decide (0<dv c.pg k)=true:=by simp;omega
  have hT:fF c.pg c.st k x ws=if aG c.pg c.st ws k=decide (x=1) then(0,ws) else(dv c.pg k,ws.set m x):=by unfold fF;rw[h,hm];rfl
  rw[hT]
  generalize aG c.pg c.st ws k=b at RM⊢
  by_cases hx:x=1
  ·cases b with
   |false =>
    have d0:(x==1)=true:=by simp[hx]
    have d1:decide (x=1)=true:=by simp[hx]
    rw[d1]
    rw[if_neg (by decide)]
    show Calls _ _ _ _ (qo w g cap (.bool (decide (0<dv c.pg k))) (ws.set m x))
    rw[e1]
    clear hw R hm t0 t1 t2 hT hs e1 hx d1
    go_enter Tryz.func134,Tryz.ntmps134
    go_wp2_with (refine aA rfl rfl rfl HC.o (by kernel_rfl) ?_)
    refine(jL R'.o k _).mono ?_
    rw[h]
    rintro e w1 ⟨rfl,h1⟩
    have HC1:=hQQ (h1.block HC.o)
    have HM1:=hQQ (HM.o.trans h1)
    clear h1
    go_wp2_with (refine aA rfl rfl rfl HC1.o (by kernel_rfl) ?_)
    refine(RM.o _ HM1.o).mono ?_
    rintro e w2 ⟨rfl,h2⟩
    have HC2:=hQQ (h2.block HC1.o)
    have HM2:=hQQ (HM1.o.trans h2)
    clear h2
    go_wp2_with (refine aA rfl rfl rfl HC2.o (by kernel_rfl) ?_)
    refine(YT.o _).mono ?_
    rintro e w3 ⟨rfl,h3⟩
    have HM3:=hQQ (HM2.o.trans h3)
    have x1:=(HW.o.more HM3.o).cell hmj
    have x2:=(HW.o.more HM3.o).froz m
    have FIN:=hQQ (And.intro ((HW.o.more HM3.o).set hmj x) ((turned_more (S:=fun b=>b=g) HM3.o).setCell ⟨g,m,none⟩ (.int .i64 x) (fun _=>rfl)))
    clear h3
    go_wp2_with fail
    go_ret
    exact⟨rfl,FIN.o.1,FIN.o.2⟩
   |true =>
    have d0:(x==1)=true:=by simp[hx]
    have d1:decide (x=1)=true:=by simp[hx]
    rw[d1]
    rw[if_pos rfl]
    clear hw R hm t0 t1 t2 hT hs e1 hx d1
    go_enter Tryz.func134,Tryz.ntmps134
    go_wp2_with (refine aA rfl rfl rfl HC.o (by kernel_rfl) ?_)
    refine(jL R'.o k _).mono ?_
    rw[h]
    rintro e w1 ⟨rfl,h1⟩
    have HC1:=hQQ (h1.block HC.o)
    have HM1:=hQQ (HM.o.trans h1)
    clear h1
    go_wp2_with (refine aA rfl rfl rfl HC1.o (by kernel_rfl) ?_)
    refine(RM.o _ HM1.o).mono ?_
    rintro e w2 ⟨rfl,h2⟩
    have HC2:=hQQ (h2.block HC1.o)
    have HM2:=hQQ (HM1.o.trans h2)
    clear h2
    go_wp2_with fail
    go_ret
    exact⟨rfl,HW.o.more HM2.o,turned_more HM2.o⟩
  ·cases b with
   |false =>
    have d0:(x==1)=false:=by simp[hx]
    have d1:decide (x=1)=false:=by simp[hx]
    rw[d1]
    rw[if_pos rfl]
    clear hw R hm t0 t1 t2 hT hs e1 hx d1
    go_enter Tryz.func134,Tryz.ntmps134
    go_wp2_with (refine aA rfl rfl rfl HC.o (by kernel_rfl) ?_)
    refine(jL R'.o k _).mono ?_
    rw[h]
    rintro e w1 ⟨rfl,h1⟩
    have HC1:=hQQ (h1.block HC.o)
    have HM1:=hQQ (HM.o.trans h1)
    clear h1
    go_wp2_with (refine aA rfl rfl rfl HC1.o (by kernel_rfl) ?_)
    refine(RM.o _ HM1.o).mono ?_
    rintro e w2 ⟨rfl,h2⟩
    have HC2:=hQQ (h2.block HC1.o)
    have HM2:=hQQ (HM1.o.trans h2)
    clear h2
    go_wp2_with fail
    go_ret
    exact⟨rfl,HW.o.more HM2.o,turned_more HM2.o⟩
   |true =>
    have d0:(x==1)=false:=by simp[hx]
    have d1:decide (x=1)=false:=by simp[hx]
    rw[d1]
    rw[if_neg (by decide)]
    show Calls _ _ _ _ (qo w g cap (.bool (decide (0<dv c.pg k))) (ws.set m x))
    rw[e1]
    clear hw R hm t0 t1 t2 hT hs e1 hx d1
    go_enter Tryz.func134,Tryz.ntmps134
    go_wp2_with (refine aA rfl rfl rfl HC.o (by kernel_rfl) ?_)
    refine(jL R'.o k _).mono ?_
    rw[h]
    rintro e w1 ⟨rfl,h1⟩
    have HC1:=hQQ (h1.block HC.o)
    have HM1:=hQQ (HM.o.trans h1)
    clear h1
    go_wp2_with (refine aA rfl rfl rfl HC1.o (by kernel_rfl) ?_)
    refine(RM.o _ HM1.o).mono ?_
    rintro e w2 ⟨rfl,h2⟩
    have HC2:=hQQ (h2.block HC1.o)
    have HM2:=hQQ (HM1.o.trans h2)
    clear h2
    go_wp2_with (refine aA rfl rfl rfl HC2.o (by kernel_rfl) ?_)
    refine(YT.o _).mono ?_
    rintro e w3 ⟨rfl,h3⟩
    have HM3:=hQQ (HM2.o.trans h3)
    have x1:=(HW.o.more HM3.o).cell hmj
    have x2:=(HW.o.more HM3.o).froz m
    have FIN:=hQQ (And.intro ((HW.o.more HM3.o).set hmj x) ((turned_more (S:=fun b=>b=g) HM3.o).setCell ⟨g,m,none⟩ (.int .i64 x) (fun _=>rfl)))
    clear h3
    go_wp2_with fail
    go_ret
    exact⟨rfl,FIN.o.1,FIN.o.2⟩
theorem zD {p:Int}(h:0≤p):ofV p=p / 4:=if_neg (by omega)
theorem oe (p:Int)(h0: -9223372036854775808≤p)(h1:p≤9223372036854775807)(w:World):Calls Tryz.prog 45 #[.int .i64 p] w (aF w (.int .i64 (ofV p))):=by
 refine(KE p h0 h1 w).mono ?_
 rintro e w' ⟨rfl,rfl⟩
 exact⟨rfl,ae.refl _⟩
theorem Hn {c:Cfg}(R:c.Ok)(ws:List Int)(H:TblIn c.pg c.st ws.length)(hl:ws.length≤1000)(g cap:Nat)(w:World)(hw:Ws w g cap ws):
 Calls Tryz.prog 133 #[.agg c.cells,.slice (some ⟨g,0,none⟩) ws.length cap] w (aF w (.int .i64 (eD c.pg c.st ws))):=by
 have HC:=hQQ (aH w c.cells 27)
 have HM:Hq (ae w (w.alloc (.cells c.cells 27))):=(ae.refl w).alloc _
 have p1:=R.pg1
 have p2:=R.pg2
 rw[←oI c.pg c.st ws p1]
 have RM:=hQQ (fun k W (hW:ae w W)=>qn R ws H hl g cap k W (hw.more hW))
 have CB:=hQQ (uN c.pg c.st ws)
 clear R H hw
 go_enter Tryz.func133,Tryz.ntmps133
 go_wp2_with fail
 go_loopw [5,6] (fun nv pv wr=>∃p:Nat,(p:Int)≤c.pg∧pv=.int .i64 p∧nv=.int .i64 (en c.pg c.st ws p)∧ae (w.alloc (.cells c.cells 27)) wr) (fun _ pv _=>c.pg.toNat-(intOf pv).toNat)
 case atStart=>exact⟨0,by omega,rfl,rfl,ae.refl _⟩
 case round =>
  obtain⟨p,hp,rfl,rfl,ht⟩:=hrel
  have hc:=ht.block HC.o
  have x2:wr.cell? ⟨w.heap.size,2,none⟩=some (.int .i64 c.pg):=aB hc (ae.refl _) rfl
  have HC1:=hQQ hc
  have HT:=hQQ ht
  have cb:=CB.o p
  clear hc ht
  by_cases hlt:(p:Int)<c.pg
  ·have d0:decide ((p:Int)<c.pg)=true:=by simp[hlt]
   have hq:ofV (p:Int)=(p:Int) / 4:=zD (by omega)
   have q1:IntKind.i64.wrap ((p:Int)+1)=(p:Int)+1:=am (by omega) (by omega)
   have q2:IntKind.i64.wrap (en c.pg c.st ws p+1)=en c.pg c.st ws p+1:=am (by omega) (by omega)
   have OF:=hQQ (fun W=>by have:=oe (p:Int) (by omega) (by omega) W;rw[hq] at this;exact this)
   have hs:en c.pg c.st ws (p+1)=en c.pg c.st ws p+if aG c.pg c.st ws ((p:Int) / 4) then 1 else 0:=rfl
   have RK:=hQQ (RM.o ((p:Int) / 4))
   have HLT:=hQQ hlt
   generalize aG c.pg c.st ws ((p:Int) / 4)=b at RK hs
   have HS:=hQQ hs
   have CB0:=hQQ cb
   generalize en c.pg c.st ws p=z at HS q2 CB0⊢
   clear hq hs hlt cb
   go_wp2_with fail
   refine aw (by kernel_rfl) (by kernel_rfl) ?_
   iterate 5
    first
    |(refine ai rfl 27 _ rfl _ rfl 27 _ _ _ (fun W hW=>hW.block HC1.o) Tryz.underlying27 rfl (by kernel_rfl) ?_)
    |(with_reducible refine wpQuiet_step (fun K hK=>?_)
      go_simp
      first
      |(refine hK _ ?_;clear hK K)
      |(apply Exists.intro
        refine⟨fun W hW=>?_,hK _ ?_⟩
        first
        |(go_at_call 45;exact Calls.more hW (OF.o W))
        |(go_at_call 44;exact Calls.more hW (RK.o W ((HM.o.trans HT.o).trans hW)))
        |((try go_simp);try rfl)
        clear hK K))
   refine wpQuiet_nil ?_
   intro w2 m2
   have T2:=hQQ (HT.o.trans m2)
   clear m2
   cases b with
   |true =>
    go_wp2_with fail
    exact⟨⟨p+1,by have:=HLT.o;omega,by go_num,by rw[HS.o];rfl,T2.o⟩,by have:=HLT.o;simp[intOf];omega⟩
   |false =>
    go_wp2_with fail
    exact⟨⟨p+1,by have:=HLT.o;omega,by go_num,by rw[HS.o];simp,T2.o⟩,by have:=HLT.o;simp[intOf];omega⟩
  ·have d0:decide ((p:Int)<c.pg)=false:=by simp[hlt]
   have hpe:p=c.pg.toNat:=by omega
   have FIN:=hQQ (HM.o.trans HT.o)
   have HE:Hq (en c.pg c.st ws p=en c.pg c.st ws c.pg.toNat):=hQQ (by rw[←hpe])
   clear hlt hpe cb
   go_wp2_with fail
   go_ret
   exact⟨by rw[←HE.o];rfl,FIN.o⟩
theorem zE {pg st:Int}{n m:Nat}(H:TblIn pg st n)(e:m=n):TblIn pg st m:=e▸H
theorem EU {c:Cfg}(R:c.Ok)(ws:List Int)(H:TblIn c.pg c.st ws.length)(hl:ws.length≤1000)(g cap:Nat)(x y:Int)(hx:W64 x)(w:World)(hw:Ws w g cap ws):
 Calls Tryz.prog 106 #[.agg c.cells,.slice (some ⟨g,0,none⟩) ws.length cap,.int .i64 x,.int .i64 y] w (qo w g cap (.int .i64 (co c.pg c.st x y ws).1) (co c.pg c.st x y ws).2):=by
 have HC:=hQQ (aH w c.cells 27)
 have HM:Hq (ae w (w.alloc (.cells c.cells 27))):=(ae.refl w).alloc _
 have p1:=R.pg1
 have p2:=R.pg2
 have RA:=hQQ (fun W=>Kg R x y hx W)
 have RCN:=hQQ (fun(a:List Int) (e:a.length=ws.length) (W:World) (hW:Ws W g cap a)=>by have:=Hn R a (zE H e) (by omega) g cap W hW;rw[e] at this;exact this)
 have RT:=hQQ (fun(a:List Int) (e:a.length=ws.length) (k:Int) (W:World) (hW:Ws W g cap a)=>by have:=Jj R a (zE H e) (by omega) g cap k 1 W hW;rw[e] at this;exact this)
 have HW:=hQQ hw
 have HH:=hQQ H
 have hgl:=hw.lt
 clear R H hw
 cases h:aZ c.pg x y with
 |false =>
  rw[show co c.pg c.st x y ws=(0,ws) by unfold co;rw[h];rfl]
  rw[h] at RA
  clear h hx
  go_enter Tryz.func106,Tryz.ntmps106
  go_wp2_with (refine aA rfl rfl rfl HC.o (by kernel_rfl) ?_)
  refine(RA.o _).mono ?_
  rintro e w1 ⟨rfl,h1⟩
  have HM1:=hQQ (HM.o.trans h1)
  clear h1
  go_wp2_with fail
  go_ret
  exact⟨rfl,HW.o.more HM1.o,turned_more HM1.o⟩
 |true =>
  have hth:=h
  obtain⟨i0,i1,i2⟩:=bo.1 h
  rw[h] at RA
  have q3:IntKind.i64.wrap (x+y)=x+y:=am (by omega) (by omega)
  have cb0:=zk (st:=c.st) ws p1 p2
  have cb1:=zk (st:=c.st) (co c.pg c.st x y ws).2 p1 p2
  have hcd:=sZ HH.o x y ws rfl
  have HTH:=hQQ hth
  clear h hx hth
  go_enter Tryz.func106,Tryz.ntmps106
  go_wp2_with (refine aA rfl rfl rfl HC.o (by kernel_rfl) ?_)
  refine(RA.o _).mono ?_
  rintro e w1 ⟨rfl,h1⟩
  have HC1:=hQQ (h1.block HC.o)
  have HM1:=hQQ (HM.o.trans h1)
  clear h1
  go_wp2_with (refine aA rfl rfl rfl HC1.o (by kernel_rfl) ?_)
  refine(RCN.o ws rfl _ (HW.o.more HM1.o)).mono ?_
  rintro e w2 ⟨rfl,h2⟩
  have HC2:=hQQ (h2.block HC1.o)
  have HM2:=hQQ (HM1.o.trans h2)
  clear h2
  have HCD:=hQQ (And.intro cb0 (And.intro cb1 hcd))
  generalize eD c.pg c.st ws=z0 at HCD⊢
  clear cb0 cb1 hcd
  go_wp2_with fail
  go_loopw [10] (fun pv wr=>∃(p:Int) (a:List Int),x≤p∧p≤x+y∧pv=.int .i64 p∧Ws wr g cap a∧Hq (oT ws a (fun i=>∃q:Int,x≤q∧q<p∧i=cI c.pg c.st (q / 4)))∧Turned (fun b=>b=g) w2 wr) (fun pv _=>(x+y-intOf pv).toNat)
  case atStart=>exact⟨x,ws,by omega,by omega,rfl,HW.o.more HM2.o,hQQ (nO ws _ (fun i=>by rintro⟨q,h0,h1,_⟩;omega)),Turned.refl _ _⟩
  case round =>
   obtain⟨p,a,hp0,hp1,rfl,hws,hon,ht⟩:=hrel
   have hal:=hon.out.len
   have HC3:=hQQ ((ht.block w.heap.size (ac HC2.o) (by omega)).trans HC2.o)
   have HT:=hQQ ht
   have HWS:=hQQ hws
   clear ht hws
   by_cases hlt:p<x+y
   ·have d0:decide (p<x+y)=true:=by simp[hlt]
    have hq:ofV p=p / 4:=zD (by omega)
    have q1:IntKind.i64.wrap (p+1)=p+1:=am (by omega) (by omega)
    have OF:=hQQ (fun W=>by have:=oe p (by omega) (by omega) W;rw[hq] at this;exact this)
    have hck:aU c.pg (p / 4)=true:=bT.2 (by unfold aD;omega)
    have hn1:=rp HH.o hon.out rfl hck
    have HNX:Hq (oT ws (fF c.pg c.st (p / 4) 1 a).2 (fun i=>∃q:Int,x≤q∧q<p+1∧i=cI c.pg c.st (q / 4))):=⟨hn1.len,fun i h0=>by
     have e:(∃q:Int,x≤q∧q<p+1∧i=cI c.pg c.st (q / 4))↔((∃q:Int,x≤q∧q<p∧i=cI c.pg c.st (q / 4))∨i=cI c.pg c.st (p / 4)):=by
      constructor
      ·rintro⟨q,a0,a1,a2⟩
       by_cases e:q=p
       ·subst e;exact .inr a2
       ·exact .inl ⟨q,a0,by omega,a2⟩
      ·rintro(⟨q,a0,a1,a2⟩|a2)
       ·exact⟨q,a0,by omega,a2⟩
       ·exact⟨p,hp0,by omega,a2⟩
     exact⟨fun r=>(hn1.eq i h0).1 (e.1 r),fun r=>(hn1.eq i h0).2 (fun s=>r (e.2 s))⟩⟩
    have HB:=hQQ (And.intro hp0 (And.intro hp1 hlt))
    have TT:=hQQ (fun W (hW:ae wr W)=>RT.o a hal (p / 4) W (HWS.o.more hW))
    clear hq hck hn1 hlt hp0 hp1 hon hal i1 i2
    go_wp2_with fail
    refine au 4 (by kernel_rfl) (by kernel_rfl) ?_
    simp only[List.take_succ_cons,List.take_zero,List.drop_succ_cons,List.drop_zero]
    iterate 4
     first
     |(refine ai rfl 27 _ rfl _ rfl 27 _ _ _ (fun W hW=>hW.block HC3.o) Tryz.underlying27 rfl (by kernel_rfl) ?_)
     |(with_reducible refine wpQuiet_step (fun K hK=>?_)
       go_simp
       first
       |(refine hK _ ?_;clear hK K)
       |(apply Exists.intro
         refine⟨fun W hW=>?_,hK _ ?_⟩
         first
         |(go_at_call 45;exact Calls.more hW (OF.o W))
         |((try go_simp);try rfl)
         clear hK K))
    refine wpQuiet_nil ?_
    intro w4 m4
    have T4:=hQQ (HT.o.trans (turned_more m4))
    have TW:=hQQ (TT.o w4 m4)
    clear m4
    go_wp2_with fail
    refine TW.o.mono ?_
    rintro e w5 ⟨rfl,hw5,ht5⟩
    have T5:=hQQ (T4.o.trans ht5)
    have W5:=hQQ hw5
    clear ht5 hw5
    go_wp2_with fail
    exact⟨⟨p+1,_,by have:=HB.o;omega,by have:=HB.o;omega,by go_num,W5.o,HNX,T5.o⟩,by have:=HB.o;simp[intOf];omega⟩
   ·have d0:decide (p<x+y)=false:=by simp[hlt]
    obtain rfl:p=x+y:=by omega
    have ha:a=(co c.pg c.st x y ws).2:=xF HH.o rfl HTH.o hon.out
    have RC2:=hQQ (RCN.o a hal wr HWS.o)
    have HAE:=hQQ ha
    have hz:=HCD.o
    rw[←ha] at hz
    have q5:IntKind.i64.wrap (eD c.pg c.st a-z0)=(co c.pg c.st x y ws).1:=by rw[am (by omega) (by omega)];omega
    have FT:=hQQ ((turned_more (S:=fun b=>b=g) HM2.o).trans HT.o)
    clear hlt hp0 hp1 hon ha hz hal i1 i2
    generalize eD c.pg c.st a=z1 at q5 RC2
    have Q5:=hQQ q5
    go_wp2_with (refine aA rfl rfl rfl HC3.o (by kernel_rfl) ?_)
    refine RC2.o.mono ?_
    rintro e w6 ⟨rfl,h6⟩
    have FW:=hQQ (HWS.o.more h6)
    have FT6:=hQQ (FT.o.trans (turned_more h6))
    clear h6
    go_wp2_with fail
    go_ret
    exact⟨rfl,by rw[←HAE.o];exact FW.o,FT6.o⟩
theorem lc {c:Cfg}(R:c.Ok)(k:Int)(w:World):Calls Tryz.prog 84 #[.agg c.cells,.int .i64 k] w (aF w (.int .i64 (cN c.pg c.st 0 k))):=J1 c.wk c.cp c.pg c.st c.tr c.wt c.ck c.pr c.ca c.bi c.ba w k R
theorem jl {c:Cfg}(R:c.Ok)(k:Int)(w:World):Calls Tryz.prog 48 #[.agg c.cells,.int .i64 k] w (aF w (.int .i64 (cN c.pg c.st 1 k))):=I0 c.wk c.cp c.pg c.st c.tr c.wt c.ck c.pr c.ca c.bi c.ba w k R
theorem lf {c:Cfg}(R:c.Ok)(k:Int)(w:World):Calls Tryz.prog 52 #[.agg c.cells,.int .i64 k] w (aF w (.int .i64 (cN c.pg c.st 2 k))):=J2 c.wk c.cp c.pg c.st c.tr c.wt c.ck c.pr c.ca c.bi c.ba w k R
theorem lg {c:Cfg}(R:c.Ok)(ws:List Int)(H:PgIn c.pg c.st ws.length)(hl:ws.length≤1000)(g cap:Nat)(p:Int)(w:World)(hw:Ws w g cap ws):
 Calls Tryz.prog 43 #[.agg c.cells,.slice (some ⟨g,0,none⟩) ws.length cap,.int .i64 p] w (aF w (.int .i64 (aj c.pg c.st ws p))):=by
 by_cases hp:af c.pg p=true
 ·obtain⟨⟨q0,q1,_⟩,_⟩:=cG H hp
  obtain⟨b,hb⟩:∃b:Nat,kA c.pg c.st p=(b:Int):=⟨(kA c.pg c.st p).toNat,by omega⟩
  have hbl:b<ws.length:=by omega
  have P:=hQQ ((pH (st:=c.st) hp).trans hb)
  have hv:aj c.pg c.st ws p=ws.getD b 0:=by rw[fI hp,hb];rfl
  rw[hv]
  obtain⟨z,hz⟩:∃z,ws.getD b 0=z:=⟨_,rfl⟩
  rw[hz]
  have hpp:=ag.1 hp
  have hc:=aH w c.cells 27
  have HR:=hQQ R
  have HH:=hQQ H
  have hgl:=hw.lt
  obtain⟨w1,e1⟩:∃w1,w.alloc (.cells c.cells 27)=w1:=⟨_,rfl⟩
  have m1:ae w w1:=by rw[←e1];exact(ae.refl w).alloc _
  rw[e1] at hc
  have HC:=hQQ hc
  have HM:=hQQ m1
  have HW:=hQQ (hw.more m1)
  have x2:w1.cell? ⟨w.heap.size,2,none⟩=some (.int .i64 c.pg):=aB hc (ae.refl _) rfl
  have X2:=hQQ x2
  have pg1:=R.pg1
  have pg2:=R.pg2
  clear x2 m1 hw R H hc
  have CZ:Hq (∀W,ae w1 W→W.cell? ⟨g,b,none⟩=some (.int .i64 z)):=hQQ fun W hW=>by rw[←hz];exact(HW.o.more hW).cell hbl
  have x2:=X2.o
  have d1:decide (p<0)=false:=by simp;omega
  have d2:decide (c.pg≤p)=false:=by simp;omega
  clear hv hz hb q0 q1 hp
  go_enter Tryz.func43,Tryz.ntmps43
  go_wp2_with (first|(refine aA rfl rfl rfl HC.o (by kernel_rfl) ?_)|(refine aA rfl rfl rfl HC.o (by kernel_rfl) ?_))
  clear e1
  refine(lc HR.o p _).mono ?_
  rw[P.o]
  rintro e w3 ⟨rfl,h3⟩
  have cz:=CZ.o _ h3
  have M3:=hQQ (HM.o.trans h3)
  clear h3
  go_wp2_with fail
  go_ret
  exact⟨rfl,M3.o⟩
 ·have hp:af c.pg p=false:=by simpa using hp
  rw[dE hp]
  have hpp:=lX.1 hp
  have hc:=aH w c.cells 27
  have HR:=hQQ R
  have HH:=hQQ H
  have hgl:=hw.lt
  obtain⟨w1,e1⟩:∃w1,w.alloc (.cells c.cells 27)=w1:=⟨_,rfl⟩
  have m1:ae w w1:=by rw[←e1];exact(ae.refl w).alloc _
  rw[e1] at hc
  have HC:=hQQ hc
  have HM:=hQQ m1
  have HW:=hQQ (hw.more m1)
  have x2:w1.cell? ⟨w.heap.size,2,none⟩=some (.int .i64 c.pg):=aB hc (ae.refl _) rfl
  have X2:=hQQ x2
  have pg1:=R.pg1
  have pg2:=R.pg2
  clear x2 m1 hw R H hc
  have x2:=X2.o
  clear hp
  by_cases h0:p<0
  ·have d1:decide (p<0)=true:=by simpa using h0
   go_enter Tryz.func43,Tryz.ntmps43
   go_wp2_with fail
   go_ret
   exact⟨rfl,HM.o⟩
  ·have d1:decide (p<0)=false:=by simpa using h0
   have d2:decide (c.pg≤p)=true:=by simp;omega
   go_enter Tryz.func43,Tryz.ntmps43
   go_wp2_with fail
   go_ret
   exact⟨rfl,HM.o⟩
theorem EV {c:Cfg}(R:c.Ok)(ws:List Int)(H:PgIn c.pg c.st ws.length)(hl:ws.length≤1000)(wf:Wf c.pg c.st ws)(g cap:Nat)(p:Int)(w:World)(hw:Ws w g cap ws):
 Calls Tryz.prog 108 #[.agg c.cells,.slice (some ⟨g,0,none⟩) ws.length cap,.int .i64 p] w (aF w (.int .i64 (lZ c.pg c.st p ws))):=by
 have WF:=hQQ wf
 by_cases hk:aj c.pg c.st ws p≤0
 ·rw[Ex H wf hk]
  clear wf
  have hc:=aH w c.cells 27
  have HR:=hQQ R
  have HH:=hQQ H
  have hgl:=hw.lt
  obtain⟨w1,e1⟩:∃w1,w.alloc (.cells c.cells 27)=w1:=⟨_,rfl⟩
  have m1:ae w w1:=by rw[←e1];exact(ae.refl w).alloc _
  rw[e1] at hc
  have HC:=hQQ hc
  have HM:=hQQ m1
  have HW:=hQQ (hw.more m1)
  have x2:w1.cell? ⟨w.heap.size,2,none⟩=some (.int .i64 c.pg):=aB hc (ae.refl _) rfl
  have X2:=hQQ x2
  have pg1:=R.pg1
  have pg2:=R.pg2
  clear x2 m1 hw R H hc
  have d1:decide (aj c.pg c.st ws p≤0)=true:=by simpa using hk
  clear hk
  go_enter Tryz.func108,Tryz.ntmps108
  go_wp2_with (first|(refine aA rfl rfl rfl HC.o (by kernel_rfl) ?_)|(refine aA rfl rfl rfl HC.o (by kernel_rfl) ?_))
  clear e1
  refine(lg HR.o ws HH.o hl g cap p w1 HW.o).mono ?_
  rintro e w3 ⟨rfl,h3⟩
  have M3:=hQQ (HM.o.trans h3)
  clear h3
  go_wp2_with fail
  go_ret
  exact⟨rfl,M3.o⟩
 ·have hpp:=fJ (pg:=c.pg) (st:=c.st) (ws:=ws) (p:=p) (by omega)
  obtain⟨res,hres⟩:∃res,lZ c.pg c.st p ws=res:=⟨_,rfl⟩
  rw[hres]
  have HRES:=hQQ hres
  have HK1:=hQQ hk
  clear wf hres
  have hc:=aH w c.cells 27
  have HR:=hQQ R
  have HH:=hQQ H
  have hgl:=hw.lt
  obtain⟨w1,e1⟩:∃w1,w.alloc (.cells c.cells 27)=w1:=⟨_,rfl⟩
  have m1:ae w w1:=by rw[←e1];exact(ae.refl w).alloc _
  rw[e1] at hc
  have HC:=hQQ hc
  have HM:=hQQ m1
  have HW:=hQQ (hw.more m1)
  have x2:w1.cell? ⟨w.heap.size,2,none⟩=some (.int .i64 c.pg):=aB hc (ae.refl _) rfl
  have X2:=hQQ x2
  have pg1:=R.pg1
  have pg2:=R.pg2
  clear x2 m1 hw R H hc
  have d1:decide (aj c.pg c.st ws p≤0)=false:=by simp;omega
  clear hk
  go_enter Tryz.func108,Tryz.ntmps108
  go_wp2_with (first|(refine aA rfl rfl rfl HC.o (by kernel_rfl) ?_)|(refine aA rfl rfl rfl HC.o (by kernel_rfl) ?_))
  clear e1
  refine(lg HR.o ws HH.o hl g cap p w1 HW.o).mono ?_
  rintro e w3 ⟨rfl,h3⟩
  have M3:=hQQ h3
  clear h3
  go_wp2_with fail
  go_loopw [2] (fun v2 wr=>∃q:Int,v2=.int .i64 q∧0≤q∧q<c.pg∧1≤aj c.pg c.st ws q∧ae w1 wr∧jg c.pg c.st (q+2).toNat q ws=jg c.pg c.st (p+2).toNat p ws) (fun v2 _=>(intOf v2).toNat)
  case atStart=>exact⟨p,rfl,hpp.1,hpp.2,by have:=HK1.o;omega,M3.o,rfl⟩
  case round =>
   obtain⟨q,rfl,q0,q1,qk,ht,hq⟩:=hrel
   have HT:=hQQ ht
   have HC1:=hQQ (ht.block HC.o)
   have HQ:=hQQ hq
   have w1q:IntKind.i64.wrap (q-1)=q-1:=am (by omega) (by omega)
   clear ht hq
   by_cases h7:aj c.pg c.st ws q=7
   ·obtain⟨f0,f1,f2⟩:=Ew HH.o WF.o h7
    have F2:=hQQ f2
    have d2:decide (0<q)=true:=by simpa using f0
    have d3:(aj c.pg c.st ws q==7)=true:=by simp[h7]
    clear f2 h7
    go_wp2_with (first|(refine aA rfl rfl rfl HC1.o (by kernel_rfl) ?_)|(refine aA rfl rfl rfl HC1.o (by kernel_rfl) ?_))
    refine(lg HR.o ws HH.o hl g cap q wr (HW.o.more HT.o)).mono ?_
    rintro e w5 ⟨rfl,h5⟩
    have M5:=hQQ (HT.o.trans h5)
    clear h5
    go_wp2_with fail
    go_roundw
    case rel=>exact⟨q-1,by go_num,by omega,by omega,f1,M5.o,F2.o.symm.trans HQ.o⟩
    case measure=>simp[intOf];omega
   ·have hst:=pW HH.o (ws:=ws) q0 h7
    have hfin:q=res:=by
     rw[←HRES.o]
     unfold lZ
     rw[←HQ.o,hst,if_neg (by omega)]
    have d3:(aj c.pg c.st ws q==7)=false:=by simpa using h7
    have d4:decide (aj c.pg c.st ws q=7)=false:=by simpa using h7
    have HF:=hQQ hfin
    clear hst hfin h7
    by_cases hq0:0<q
    ·have d2:decide (0<q)=true:=by simpa using hq0
     go_wp2_with (first|(refine aA rfl rfl rfl HC1.o (by kernel_rfl) ?_)|(refine aA rfl rfl rfl HC1.o (by kernel_rfl) ?_))
     refine(lg HR.o ws HH.o hl g cap q wr (HW.o.more HT.o)).mono ?_
     rintro e w5 ⟨rfl,h5⟩
     have M5:=hQQ (HM.o.trans (HT.o.trans h5))
     clear h5
     go_wp2_with fail
     go_ret
     exact⟨by rw[←HF.o];rfl,M5.o⟩
    ·have d2:decide (0<q)=false:=by simpa using hq0
     have M5:=hQQ (HM.o.trans HT.o)
     go_wp2_with fail
     go_ret
     exact⟨by rw[←HF.o];rfl,M5.o⟩
theorem EW {c:Cfg}(R:c.Ok)(ws:List Int)(H:PgIn c.pg c.st ws.length)(hl:ws.length≤1000)(g cap:Nat)(p k x:Int)(hp:af c.pg p=true)(w:World)(hw:Ws w g cap ws):
 Calls Tryz.prog 107 #[.agg c.cells,.slice (some ⟨g,0,none⟩) ws.length cap,.int .i64 p,.int .i64 k,.int .i64 x] w (qo w g cap (.tuple #[]) (bD c.pg c.st p k x ws)):=by
 obtain⟨⟨q0,q1,_⟩,⟨q2,q3,_⟩,⟨q4,q5,_⟩⟩:=cG H hp
 obtain⟨b0,hb0⟩:∃b:Nat,kA c.pg c.st p=(b:Int):=⟨(kA c.pg c.st p).toNat,by omega⟩
 obtain⟨b1,hb1⟩:∃b:Nat,cA c.pg c.st p=(b:Int):=⟨(cA c.pg c.st p).toNat,by omega⟩
 obtain⟨b2,hb2⟩:∃b:Nat,bA c.pg c.st p=(b:Int):=⟨(bA c.pg c.st p).toNat,by omega⟩
 have l0:b0<ws.length:=by omega
 have l1:b1<ws.length:=by omega
 have l2:b2<ws.length:=by omega
 have P0:=hQQ ((pH (st:=c.st) hp).trans hb0)
 have P1:=hQQ ((pI (st:=c.st) hp).trans hb1)
 have P2:=hQQ ((pJ (st:=c.st) hp).trans hb2)
 have hv:bD c.pg c.st p k x ws=((ws.set b0 k).set b1 x).set b2 0:=by unfold bD;rw[hb0,hb1,hb2];rfl
 rw[hv]
 clear hv hb0 hb1 hb2 q0 q1 q2 q3 q4 q5 hp
 have hc:=aH w c.cells 27
 have HR:=hQQ R
 have HH:=hQQ H
 have hgl:=hw.lt
 obtain⟨w1,e1⟩:∃w1,w.alloc (.cells c.cells 27)=w1:=⟨_,rfl⟩
 have m1:ae w w1:=by rw[←e1];exact(ae.refl w).alloc _
 rw[e1] at hc
 have HC:=hQQ hc
 have HM:=hQQ m1
 have HW:=hQQ (hw.more m1)
 have x2:w1.cell? ⟨w.heap.size,2,none⟩=some (.int .i64 c.pg):=aB hc (ae.refl _) rfl
 have X2:=hQQ x2
 have pg1:=R.pg1
 have pg2:=R.pg2
 clear x2 m1 hw R H hc
 have T1:Hq (Turned (fun b=>b=g) w1 w1):=hQQ (Turned.refl _ _)
 have KC:Hq (∀W,Turned (fun b=>b=g) w1 W→W.heap[w.heap.size]?=some (.cells c.cells 27 (0,0))):=hQQ fun W t=>(t.block _ (ac HC.o) (by omega)).trans HC.o
 go_enter Tryz.func107,Tryz.ntmps107
 go_wp2_with (first|(refine aA rfl rfl rfl HC.o (by kernel_rfl) ?_)|(refine aA rfl rfl rfl HC.o (by kernel_rfl) ?_))
 clear e1
 refine(lc HR.o p _).mono ?_
 rw[P0.o]
 rintro e wa ⟨rfl,ha⟩
 have Ta:Hq (Turned (fun b=>b=g) w1 wa):=hQQ (T1.o.trans (turned_more ha))
 have Xa:=hQQ (HW.o.more ha)
 clear ha
 have cb:=Xa.o.cell (i:=b0) l0
 have fb:=Xa.o.froz b0
 have lb:=Xa.o.lt
 obtain⟨wb,eb⟩:∃wb,World.setCell wa ⟨g,b0,none⟩ (.int .i64 k)=wb:=⟨_,rfl⟩
 have Xb:Hq (Ws wb g cap (ws.set b0 k)):=hQQ (by rw[←eb];exact Xa.o.set l0 _)
 have Tb:Hq (Turned (fun b=>b=g) w1 wb):=hQQ (by rw[←eb];exact Turned.setCell Ta.o _ _ (fun _=>rfl))
 have HLb:=hQQ (KC.o _ Tb.o)
 go_wp2_with (first|(refine aA rfl rfl rfl HLb.o (by kernel_rfl) ?_)|(refine aA rfl rfl rfl HLb.o (by kernel_rfl) ?_))
 clear cb fb lb eb
 refine(jl HR.o p _).mono ?_
 rw[P1.o]
 rintro e wc ⟨rfl,hc⟩
 have Tc:Hq (Turned (fun b=>b=g) w1 wc):=hQQ (Tb.o.trans (turned_more hc))
 have Xc:=hQQ (Xb.o.more hc)
 clear hc
 have cd:=Xc.o.cell (i:=b1) (by simp;omega)
 have fd:=Xc.o.froz b1
 have ld:=Xc.o.lt
 obtain⟨wd,ed⟩:∃wd,World.setCell wc ⟨g,b1,none⟩ (.int .i64 x)=wd:=⟨_,rfl⟩
 have Xd:Hq (Ws wd g cap ((ws.set b0 k).set b1 x)):=hQQ (by rw[←ed];exact Xc.o.set (by simp;omega) _)
 have Td:Hq (Turned (fun b=>b=g) w1 wd):=hQQ (by rw[←ed];exact Turned.setCell Tc.o _ _ (fun _=>rfl))
 have HLd:=hQQ (KC.o _ Td.o)
 go_wp2_with (first|(refine aA rfl rfl rfl HLd.o (by kernel_rfl) ?_)|(refine aA rfl rfl rfl HLd.o (by kernel_rfl) ?_))
 clear cd fd ld ed
 refine(lf HR.o p _).mono ?_
 rw[P2.o]
 rintro e wf ⟨rfl,hf⟩
 have Tf:Hq (Turned (fun b=>b=g) w1 wf):=hQQ (Td.o.trans (turned_more hf))
 have Xf:=hQQ (Xd.o.more hf)
 clear hf
 have ch:=Xf.o.cell (i:=b2) (by simp;omega)
 have fh:=Xf.o.froz b2
 have lh:=Xf.o.lt
 obtain⟨wh,eh⟩:∃wh,World.setCell wf ⟨g,b2,none⟩ (.int .i64 0)=wh:=⟨_,rfl⟩
 have Xh:Hq (Ws wh g cap (((ws.set b0 k).set b1 x).set b2 0)):=hQQ (by rw[←eh];exact Xf.o.set (by simp;omega) _)
 have Th:Hq (Turned (fun b=>b=g) w1 wh):=hQQ (by rw[←eh];exact Turned.setCell Tf.o _ _ (fun _=>rfl))
 go_wp2_with fail
 clear ch fh lh eh
 go_end0
 exact⟨rfl,Xh.o,(turned_more HM.o).trans Th.o⟩
theorem tB {c:Cfg}(R:c.Ok)(ws:List Int)(H:PgIn c.pg c.st ws.length)(hl:ws.length≤1000)(g cap:Nat)(p n:Int)(mp:Bool)(w:World)(hw:Ws w g cap ws):
 Calls Tryz.prog 105 #[.agg c.cells,.slice (some ⟨g,0,none⟩) ws.length cap,.int .i64 p,.int .i64 n,.bool mp] w (aF w (.bool (opV c.pg c.st ws p n mp))):=by
 cases ht:aZ c.pg p n with
 |false =>
  rw[show opV c.pg c.st ws p n mp=false by unfold opV;rw[ht];rfl]
  have hh:¬(0≤p∧1≤n∧n≤c.pg-p):=fun q=>by rw[bo.2 q] at ht;cases ht
  clear ht
  have hc:=aH w c.cells 27
  have HR:=hQQ R
  have HH:=hQQ H
  have hgl:=hw.lt
  obtain⟨w1,e1⟩:∃w1,w.alloc (.cells c.cells 27)=w1:=⟨_,rfl⟩
  have m1:ae w w1:=by rw[←e1];exact(ae.refl w).alloc _
  rw[e1] at hc
  have HC:=hQQ hc
  have HM:=hQQ m1
  have HW:=hQQ (hw.more m1)
  have x2:w1.cell? ⟨w.heap.size,2,none⟩=some (.int .i64 c.pg):=aB hc (ae.refl _) rfl
  have X2:=hQQ x2
  have pg1:=R.pg1
  have pg2:=R.pg2
  clear x2 m1 hw R H hc
  have x2:=X2.o
  by_cases h0:p<0
  ·have d1:decide (p<0)=true:=by simpa using h0
   clear hh h0
   go_enter Tryz.func105,Tryz.ntmps105
   go_wp2_with fail
   go_ret
   exact⟨rfl,HM.o⟩
  ·have d1:decide (p<0)=false:=by simp;omega
   by_cases h1:c.pg≤p
   ·have d2:decide (c.pg≤p)=true:=by simpa using h1
    clear hh h0 h1
    go_enter Tryz.func105,Tryz.ntmps105
    go_wp2_with fail
    go_ret
    exact⟨rfl,HM.o⟩
   ·have d2:decide (c.pg≤p)=false:=by simp;omega
    by_cases h2:n<1
    ·have d3:decide (n<1)=true:=by simpa using h2
     clear hh h0 h1 h2
     go_enter Tryz.func105,Tryz.ntmps105
     go_wp2_with fail
     go_ret
     exact⟨rfl,HM.o⟩
    ·have d3:decide (n<1)=false:=by simp;omega
     have d4:decide (c.pg-p<n)=true:=by simp;omega
     have q4:IntKind.i64.wrap (c.pg-p)=c.pg-p:=am (by omega) (by omega)
     clear hh h0 h1 h2
     go_enter Tryz.func105,Tryz.ntmps105
     go_wp2_with fail
     go_ret
     exact⟨rfl,HM.o⟩
 |true =>
  obtain⟨t0,t1,t2⟩:=bo.1 ht
  obtain⟨res,hres⟩:∃res,opN c.pg c.st ws mp n.toNat p=res:=⟨_,rfl⟩
  rw[show opV c.pg c.st ws p n mp=res by unfold opV;rw[ht,hres];rfl]
  have HRES:=hQQ hres
  clear ht hres
  have hc:=aH w c.cells 27
  have HR:=hQQ R
  have HH:=hQQ H
  have hgl:=hw.lt
  obtain⟨w1,e1⟩:∃w1,w.alloc (.cells c.cells 27)=w1:=⟨_,rfl⟩
  have m1:ae w w1:=by rw[←e1];exact(ae.refl w).alloc _
  rw[e1] at hc
  have HC:=hQQ hc
  have HM:=hQQ m1
  have HW:=hQQ (hw.more m1)
  have x2:w1.cell? ⟨w.heap.size,2,none⟩=some (.int .i64 c.pg):=aB hc (ae.refl _) rfl
  have X2:=hQQ x2
  have pg1:=R.pg1
  have pg2:=R.pg2
  clear x2 m1 hw R H hc
  have x2:=X2.o
  have d1:decide (p<0)=false:=by simp;omega
  have d2:decide (c.pg≤p)=false:=by simp;omega
  have d3:decide (n<1)=false:=by simp;omega
  have d4:decide (c.pg-p<n)=false:=by simp;omega
  have q4:IntKind.i64.wrap (c.pg-p)=c.pg-p:=am (by omega) (by omega)
  have q5:IntKind.i64.wrap (p+n)=p+n:=am (by omega) (by omega)
  go_enter Tryz.func105,Tryz.ntmps105
  go_wp2_with fail
  clear e1 x2 d1 d2 d3 d4 q4
  go_loopw [11] (fun v11 wr=>∃j:Nat,v11=.int .i64 (p+(j:Int))∧(j:Int)≤n∧ae w1 wr∧opN c.pg c.st ws mp (n.toNat-j) (p+(j:Int))=res) (fun v11 _=>(p+n-intOf v11).toNat)
  case atStart=>exact⟨0,by simp,by omega,ae.refl _,by simpa using HRES.o⟩
  case round =>
   clear HRES
   obtain⟨j,rfl,hj,htw,hrest⟩:=hrel
   have HT:=hQQ htw
   have HC1:=hQQ (htw.block HC.o)
   have HW1:=hQQ (HW.o.more htw)
   clear htw
   obtain⟨i,hi⟩:∃i:Int,p+(j:Int)=i:=⟨_,rfl⟩
   rw[hi]
   have hi1:i=p+(j:Int):=hi.symm
   by_cases hlt:i<p+n
   ·have d1:decide (i<p+n)=true:=by simpa using hlt
    rw[show n.toNat-j=(n.toNat-(j+1))+1 by omega,hi] at hrest
    have REST:=hQQ (show((decide (aj c.pg c.st ws i=0) && (!mp ||aG c.pg c.st ws (ofV i))) && opN c.pg c.st ws mp (n.toNat-(j+1)) (i+1))=res from hrest)
    have q6:IntKind.i64.wrap (i+1)=i+1:=am (by omega) (by omega)
    have OF:=hQQ (fun W=>oe i (by omega) (by omega) W)
    have KD:=hQQ (fun W (hW:ae wr W)=>lg HR.o ws HH.o hl g cap i W (HW1.o.more hW))
    have MD:=hQQ (fun W (hW:ae wr W)=>qn HR.o ws HH.o.toTblIn hl g cap (ofV i) W (HW1.o.more hW))
    have HI:=hQQ hi1
    clear hrest hi hi1
    by_cases hk:aj c.pg c.st ws i=0
    ·have dk:(aj c.pg c.st ws i != 0)=false:=by simp[hk]
     cases mp with
     |false =>
      have R3:=hQQ (show opN c.pg c.st ws false (n.toNat-(j+1)) (i+1)=res from by have h:=REST.o;simpa [hk] using h)
      clear hk REST
      go_wp2_with fail
      refine aw (by kernel_rfl) (by kernel_rfl) ?_
      refine ai rfl 27 _ rfl _ rfl 27 _ _ _ (fun W hW=>hW.block HC1.o) Tryz.underlying27 rfl (by kernel_rfl) ?_
      iterate 7
       with_reducible refine wpQuiet_step (fun K hK=>?_)
       go_simp
       first
       |(refine hK _ ?_;clear hK K)
       |(apply Exists.intro
         refine⟨fun W hW=>?_,hK _ ?_⟩
         first
         |(go_at_call 43;exact Calls.more hW (KD.o W hW))
         |(go_simp;try rfl)
         clear hK K)
      iterate 8
       with_reducible refine wpQuiet_step (fun K hK=>?_)
       go_simp
       first
       |(refine hK _ ?_;clear hK K)
       |(apply Exists.intro
         refine⟨fun W hW=>?_,hK _ ?_⟩
         first
         |(go_simp;try rfl)
         clear hK K)
      refine wpQuiet_nil ?_
      intro w4 m4
      have M4:=hQQ (HT.o.trans m4)
      clear m4
      go_wp2_with fail
      go_roundw
      case rel=>exact⟨j+1,by rw[HI.o];go_num,by have:=HI.o;omega,M4.o,by have:=HI.o;rw[show p+((j+1:Nat):Int)=i+1 by omega];exact R3.o⟩
      case measure=>simp[intOf];omega
     |true =>
      cases hm:aG c.pg c.st ws (ofV i) with
      |true =>
       rw[hm] at MD
       have R3:=hQQ (show opN c.pg c.st ws true (n.toNat-(j+1)) (i+1)=res from by have h:=REST.o;simpa [hk,hm] using h)
       clear hk hm REST
       go_wp2_with fail
       refine aw (by kernel_rfl) (by kernel_rfl) ?_
       refine ai rfl 27 _ rfl _ rfl 27 _ _ _ (fun W hW=>hW.block HC1.o) Tryz.underlying27 rfl (by kernel_rfl) ?_
       iterate 7
        with_reducible refine wpQuiet_step (fun K hK=>?_)
        go_simp
        first
        |(refine hK _ ?_;clear hK K)
        |(apply Exists.intro
          refine⟨fun W hW=>?_,hK _ ?_⟩
          first
          |(go_at_call 43;exact Calls.more hW (KD.o W hW))
          |(go_simp;try rfl)
          clear hK K)
       refine ai rfl 27 _ rfl _ rfl 27 _ _ _ (fun W hW=>hW.block HC1.o) Tryz.underlying27 rfl (by kernel_rfl) ?_
       iterate 7
        with_reducible refine wpQuiet_step (fun K hK=>?_)
        go_simp
        first
        |(refine hK _ ?_;clear hK K)
        |(apply Exists.intro
          refine⟨fun W hW=>?_,hK _ ?_⟩
          first
          |(go_at_call 45;exact Calls.more hW (OF.o W))
          |(go_at_call 44;exact Calls.more hW (MD.o W hW))
          |(go_simp;try rfl)
          clear hK K)
       refine wpQuiet_nil ?_
       intro w4 m4
       have M4:=hQQ (HT.o.trans m4)
       clear m4
       go_wp2_with fail
       go_roundw
       case rel=>exact⟨j+1,by rw[HI.o];go_num,by have:=HI.o;omega,M4.o,by have:=HI.o;rw[show p+((j+1:Nat):Int)=i+1 by omega];exact R3.o⟩
       case measure=>simp[intOf];omega
      |false =>
       rw[hm] at MD
       have HF:=hQQ (show false=res from by have h:=REST.o;simpa [hk,hm] using h)
       clear hk hm REST
       go_wp2_with fail
       refine aw (by kernel_rfl) (by kernel_rfl) ?_
       refine ai rfl 27 _ rfl _ rfl 27 _ _ _ (fun W hW=>hW.block HC1.o) Tryz.underlying27 rfl (by kernel_rfl) ?_
       iterate 7
        with_reducible refine wpQuiet_step (fun K hK=>?_)
        go_simp
        first
        |(refine hK _ ?_;clear hK K)
        |(apply Exists.intro
          refine⟨fun W hW=>?_,hK _ ?_⟩
          first
          |(go_at_call 43;exact Calls.more hW (KD.o W hW))
          |(go_simp;try rfl)
          clear hK K)
       refine ai rfl 27 _ rfl _ rfl 27 _ _ _ (fun W hW=>hW.block HC1.o) Tryz.underlying27 rfl (by kernel_rfl) ?_
       iterate 7
        with_reducible refine wpQuiet_step (fun K hK=>?_)
        go_simp
        first
        |(refine hK _ ?_;clear hK K)
        |(apply Exists.intro
          refine⟨fun W hW=>?_,hK _ ?_⟩
          first
          |(go_at_call 45;exact Calls.more hW (OF.o W))
          |(go_at_call 44;exact Calls.more hW (MD.o W hW))
          |(go_simp;try rfl)
          clear hK K)
       refine wpQuiet_nil ?_
       intro w4 m4
       have M4:=hQQ (HT.o.trans m4)
       clear m4
       go_wp2_with fail
       go_ret
       exact⟨by have h:=HF.o;subst h;rfl,HM.o.trans M4.o⟩
    ·have dk:(aj c.pg c.st ws i != 0)=true:=by simpa using hk
     have HF:=hQQ (show false=res from by have h:=REST.o;simpa [hk] using h)
     clear hk REST
     go_wp2_with fail
     refine aw (by kernel_rfl) (by kernel_rfl) ?_
     refine ai rfl 27 _ rfl _ rfl 27 _ _ _ (fun W hW=>hW.block HC1.o) Tryz.underlying27 rfl (by kernel_rfl) ?_
     iterate 7
      with_reducible refine wpQuiet_step (fun K hK=>?_)
      go_simp
      first
      |(refine hK _ ?_;clear hK K)
      |(apply Exists.intro
        refine⟨fun W hW=>?_,hK _ ?_⟩
        first
        |(go_at_call 43;exact Calls.more hW (KD.o W hW))
        |(go_simp;try rfl)
        clear hK K)
     iterate 8
      with_reducible refine wpQuiet_step (fun K hK=>?_)
      go_simp
      first
      |(refine hK _ ?_;clear hK K)
      |(apply Exists.intro
        refine⟨fun W hW=>?_,hK _ ?_⟩
        first
        |(go_simp;try rfl)
        clear hK K)
     refine wpQuiet_nil ?_
     intro w4 m4
     have M4:=hQQ (HT.o.trans m4)
     clear m4
     go_wp2_with fail
     go_ret
     exact⟨by have h:=HF.o;subst h;rfl,HM.o.trans M4.o⟩
   ·have d1:decide (i<p+n)=false:=by simpa using hlt
    rw[show n.toNat-j=0 by omega] at hrest
    have he:true=res:=hrest
    subst he
    have FIN:=hQQ (HM.o.trans HT.o)
    clear hrest hi hi1
    go_wp2_with fail
    go_ret
    exact⟨rfl,FIN.o⟩
end Go.Proofs.YtfddhogffpkhcaaGreatDoor
