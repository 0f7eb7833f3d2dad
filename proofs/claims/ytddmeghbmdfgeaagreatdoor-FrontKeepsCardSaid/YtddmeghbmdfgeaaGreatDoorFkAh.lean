/-
  Stacks as plain programs: keeping a thing, and telling the last one; what they do over words.
-/
import Derived.Test.YtddmeghbmdfgeaaGreatDoorFkAc
import Derived.Test.YtddmeghbmdfgeaaGreatDoorFkAg
import Derived.Test.YtddmeghbmdfgeaaGreatDoorFkAa
import Derived.Deep.AppendSrc
import Derived.Laws.AppendOwnNone
import Derived.Test.YtddmeghbmdfgeaaGreatDoorFkAd
import Derived.Test.YtddmeghbmdfgeaaGreatDoorFkAf
import Derived.Laws.Tables
set_option maxRecDepth 100000
set_option maxHeartbeats 8000000
set_option linter.all false
namespace Go.Proofs.YtddmeghbmdfgeaaGreatDoor
structure dY (b l:Int)(n:Nat):Prop where
 b1:1≤b
 l0:0≤l
 hi:b+l<n
 top:n≤10000
def aX (l y:Int):Int:=if 0≤y∧y≤l then y else 0
def jO (b l:Int):Prg Int:=ak (cS b) fun y=>ay (aX l y)
def dt (b l k:Int):Int:=if k<0∨l≤k then 0 else b+1+k
def j1 (up:Bool)(b l:Int):Prg (Int×Int):=ak (jO b l) fun n=>ay (n,dt b l (if up then n else n-1))
def jP (b l x:Int):Prg Bool:=ak (j1 true b l) fun p=>if p.2=0 then ay false else ak (cM p.2 x) fun _=>ak (cM b (p.1+1)) fun _=>ay true
def d8 (b l:Int):Prg (Int×Bool):=ak (j1 false b l) fun p=>if p.2=0 then ay (0,false) else ak (cS p.2) fun y=>ak (cM b (p.1-1)) fun _=>ay (y,true)
theorem kw {l y:Int}(h:0≤l):0≤aX l y∧aX l y≤l:=by unfold aX;split<;>omega
theorem pM (b l:Int):bh (jO b l):=aq (dx b) fun _=>ah _
theorem gt {b l:Int}{n:Nat}(H:dY b l n):bQ n (fun x=>0≤x∧x≤l) (jO b l):=
 ar (bb n (by have:=H.hi;have:=H.l0;omega)) fun y _=>ai n (kw H.l0)
theorem ro (up:Bool)(b l:Int):bh (j1 up b l):=aq (pM b l) fun _=>ah _
def Po (b l:Int)(p:Int×Int):Prop:=0≤p.1∧p.1≤l∧(p.2=0∨(b+1≤p.2∧p.2≤b+l))
theorem Ja (b l k:Int):dt b l k=0∨(b+1≤dt b l k∧dt b l k≤b+l):=by unfold dt;split<;>omega
theorem li {b l:Int}{n:Nat}(H:dY b l n)(up:Bool):bQ n (Po b l) (j1 up b l):=
 ar (gt H) fun y hy=>ai n ⟨hy.1,hy.2,Ja b l _⟩
theorem xU (b l x:Int):bh (jP b l x):=
 aq (ro true b l) fun _=>aH (ah _) (aq (cT _ _) fun _=>aq (cT _ _) fun _=>ah _)
theorem Ae {b l x:Int}{n:Nat}(H:dY b l n)(hx:W64 x):bQ n (fun _=>True) (jP b l x):=by
 have hh:=H.hi;have ht:=H.top;have h1:=H.b1;have h0:=H.l0
 refine ar (li H true) fun p hp=>?_
 obtain⟨q0,q1,q2⟩:=hp
 split
 ·exact ai n trivial
 ·rename_i q3
  have q4:=q2.resolve_left q3
  exact ar (aQ n (by unfold W64;omega) (by omega) hx) fun _ _=>ar (aQ n (by unfold W64;omega) (by omega) (by unfold W64;omega)) fun _ _=>ai n trivial
theorem rp (b l:Int):bh (d8 b l):=
 aq (ro false b l) fun _=>aH (ah _) (aq (dx _) fun _=>aq (cT _ _) fun _=>ah _)
theorem hH {b l:Int}{n:Nat}(H:dY b l n):bQ n (fun p=>W64 p.1) (d8 b l):=by
 have hh:=H.hi;have ht:=H.top;have h1:=H.b1;have h0:=H.l0
 refine ar (li H false) fun p hp=>?_
 obtain⟨q0,q1,q2⟩:=hp
 split
 ·exact ai n (by unfold W64;constructor<;>decide)
 ·rename_i q3
  have q4:=q2.resolve_left q3
  exact ar (bb n (by omega)) fun y hy=>ar (aQ n (by unfold W64;omega) (by omega) (by unfold W64;omega)) fun _ _=>ai n hy
def cF (b l x:Int)(ws:List Int):Bool×List Int :=
 let n:=aX l (wAt ws b)
 if n<l then(true,(ws.set (b+1+n).toNat x).set b.toNat (n+1)) else(false,ws)
def aY (b l:Int)(ws:List Int):(Int×Bool)×List Int :=
 let n:=aX l (wAt ws b)
 if 0<n then((wAt ws (b+n),true),ws.set b.toNat (n-1)) else((0,false),ws)
theorem rq {b l:Int}{n:Nat}(H:dY b l n):bJ n (jO b l) (fun ws=>(aX l (wAt ws b),ws)):=
 aA (dV (by have:=H.b1;omega) (by have:=H.hi;have:=H.l0;omega)) fun _=>au n _
theorem uf {b l:Int}{n:Nat}(H:dY b l n)(up:Bool):bJ n (j1 up b l) (fun ws=>((aX l (wAt ws b),dt b l (if up then aX l (wAt ws b) else aX l (wAt ws b)-1)),ws)):=
 aA (rq H) fun _=>au n _
theorem rr {b l x:Int}{n:Nat}(H:dY b l n)(hx:W64 x):bJ n (jP b l x) (cF b l x):=fun zs D hn hz hD=>by
 have hh:=H.hi;have ht:=H.top;have h1:=H.b1;have h0:=H.l0
 obtain⟨D1,e1,a1,i1⟩:=uf H true zs D hn hz hD
 have hk:=kw (y:=wAt (bZ zs D) b) h0
 unfold jP
 rw[aj e1]
 unfold cF
 simp only[if_true] at *
 by_cases q:aX l (wAt (bZ zs D) b)<l
 ·have e:dt b l (aX l (wAt (bZ zs D) b))=b+1+aX l (wAt (bZ zs D) b):=by unfold dt;rw[if_neg (by omega)]
  rw[e] at e1⊢
  rw[if_pos q,if_neg (by omega)]
  generalize aX l (wAt (bZ zs D) b)=m at *
  obtain⟨D2,e2,a2,i2⟩:=df (n:=n) (a:=b+1+m) (x:=x) (by omega) (by omega) (by unfold W64;omega) hx zs D1 hn hz i1
  obtain⟨D3,e3,a3,i3⟩:=df (n:=n) (a:=b) (x:=m+1) (by omega) (by omega) (by unfold W64;omega) (by unfold W64;omega) zs D2 hn hz i2
  rw[aj e2,aj e3]
  exact⟨D3,rfl,by rw[a3,a2,a1],i3⟩
 ·have e:dt b l (aX l (wAt (bZ zs D) b))=0:=by unfold dt;rw[if_pos (by omega)]
  rw[e] at e1⊢
  rw[if_neg q,if_pos rfl]
  exact⟨D1,rfl,a1,i1⟩
theorem oH {b l:Int}{n:Nat}(H:dY b l n):bJ n (d8 b l) (aY b l):=fun zs D hn hz hD=>by
 have hh:=H.hi;have ht:=H.top;have h1:=H.b1;have h0:=H.l0
 obtain⟨D1,e1,a1,i1⟩:=uf H false zs D hn hz hD
 have hk:=kw (y:=wAt (bZ zs D) b) h0
 unfold d8
 rw[aj e1]
 unfold aY
 simp only[Bool.false_eq_true,if_false] at *
 by_cases q:0<aX l (wAt (bZ zs D) b)
 ·have e:dt b l (aX l (wAt (bZ zs D) b)-1)=b+aX l (wAt (bZ zs D) b):=by unfold dt;rw[if_neg (by omega)];omega
  rw[e] at e1⊢
  rw[if_pos q,if_neg (by omega)]
  generalize aX l (wAt (bZ zs D) b)=m at *
  obtain⟨D2,e2,a2,i2⟩:=dV (n:=n) (a:=b+m) (by omega) (by omega) zs D1 hn hz i1
  obtain⟨D3,e3,a3,i3⟩:=df (n:=n) (a:=b) (x:=m-1) (by omega) (by omega) (by unfold W64;omega) (by unfold W64;omega) zs D2 hn hz i2
  rw[aj e2,aj e3]
  refine⟨D3,?_,by rw[a3,a2,a1],i3⟩
  rw[a1]
  rfl
 ·have e:dt b l (aX l (wAt (bZ zs D) b)-1)=0:=by unfold dt;rw[if_pos (by omega)]
  rw[e] at e1⊢
  rw[if_neg q,if_pos rfl]
  exact⟨D1,rfl,a1,i1⟩
structure gH (ws:List Int)(b l:Int)(xs:List Int):Prop where
 cnt:wAt ws b=xs.length
 fit:(xs.length:Int)≤l
 at':∀j:Nat,j<xs.length→wAt ws (b+1+j)=xs.getD j 0
theorem gH.kept {ws:List Int}{b l:Int}{xs:List Int}(h:gH ws b l xs):aX l (wAt ws b)=xs.length:=by
 rw[h.cnt];unfold aX;rw[if_pos ⟨by omega,h.fit⟩]
theorem qN (xs:List Int)(x:Int)(j:Nat):(xs++ [x]).getD j 0=if j=xs.length then x else xs.getD j 0:=by
 by_cases e:j=xs.length
 ·subst e;simp[List.getD]
 ·rw[if_neg e]
  by_cases q:j<xs.length
  ·simp[List.getD,List.getElem?_append,q]
  ·rw[List.getD,List.getD,List.getElem?_eq_none (show(xs++ [x]).length≤j by simp;omega),List.getElem?_eq_none (show xs.length≤j by omega)]
theorem gH.push {ws:List Int}{b l x:Int}{xs:List Int}{n:Nat}(h:gH ws b l xs)(H:dY b l n)(hl:ws.length=n):(cF b l x ws).1=decide ((xs.length:Int)<l)∧(cF b l x ws).2.length=n∧gH (cF b l x ws).2 b l (if(xs.length:Int)<l then xs++ [x] else xs):=by
 have hh:=H.hi;have h1:=H.b1;have h0:=H.l0
 have hk:=h.kept
 unfold cF
 simp only[hk]
 by_cases q:(xs.length:Int)<l
 ·rw[if_pos q,if_pos q]
  refine⟨by simp[q],by simp[hl],?_,by simp;omega,fun j hj=>?_⟩
  ·show wAt ((ws.set _ _).set b.toNat _) b=_
   rw[dH (by omega) (by omega) (by simp;omega),if_pos rfl];simp
  ·show wAt ((ws.set _ _).set b.toNat _) (b+1+j)=_
   rw[dH (by omega) (by omega) (by simp;omega),if_neg (by omega),dH (by omega) (by omega) (by omega),qN]
   by_cases e:j=xs.length
   ·rw[if_pos (by omega),if_pos e]
   ·rw[if_neg (by omega),if_neg e]
    simp at hj
    exact h.at' j (by omega)
 ·rw[if_neg q,if_neg q]
  exact⟨by simp[q],hl,h⟩
theorem gH.pop {ws:List Int}{b l x:Int}{xs:List Int}{n:Nat}(h:gH ws b l (xs++ [x]))(H:dY b l n)(hl:ws.length=n):(aY b l ws).1=(x,true)∧(aY b l ws).2.length=n∧gH (aY b l ws).2 b l xs:=by
 have hh:=H.hi;have h1:=H.b1;have h0:=H.l0
 have hk:=h.kept
 have hf:=h.fit
 simp at hk hf
 have ha:=h.at' xs.length (by simp)
 rw[qN,if_pos rfl] at ha
 unfold aY
 simp only[hk]
 rw[if_pos (by omega)]
 refine⟨?_,by simp[hl],?_,by omega,fun j hj=>?_⟩
 ·show(wAt ws (b+((xs.length:Int)+1)),true)=_
  rw[show b+((xs.length:Int)+1)=b+1+(xs.length:Int) by omega,ha]
 ·show wAt (ws.set b.toNat _) b=_
  rw[dH (by omega) (by omega) (by omega),if_pos rfl];omega
 ·show wAt (ws.set b.toNat _) (b+1+j)=_
  rw[dH (by omega) (by omega) (by omega),if_neg (by omega),h.at' j (by simp;omega),qN,if_neg (by omega)]
theorem gH.none {ws:List Int}{b l:Int}(h:gH ws b l []):aY b l ws=((0,false),ws):=by
 have hk:=h.kept
 unfold aY
 simp only[hk]
 simp
theorem Jb {ws:List Int}{b l x:Int}{n:Nat}(H:dY b l n)(hl:ws.length=n):(cF b l x ws).2.length=n∧∀i:Int,0≤i→(i<b∨b+l<i)→wAt (cF b l x ws).2 i=wAt ws i:=by
 have hh:=H.hi;have h1:=H.b1;have h0:=H.l0
 have hk:=kw (y:=wAt ws b) h0
 unfold cF
 simp only
 split
 ·refine⟨by simp[hl],fun i hi ho=>?_⟩
  show wAt ((ws.set _ _).set b.toNat _) i=_
  rw[dH (by omega) (by omega) (by simp;omega),if_neg (by omega),dH (by omega) (by omega) (by omega),if_neg (by omega)]
 ·exact⟨hl,fun i _ _=>rfl⟩
theorem K9 {ws:List Int}{b l:Int}{n:Nat}(H:dY b l n)(hl:ws.length=n):(aY b l ws).2.length=n∧∀i:Int,0≤i→(i<b∨b+l<i)→wAt (aY b l ws).2 i=wAt ws i:=by
 have hh:=H.hi;have h1:=H.b1;have h0:=H.l0
 unfold aY
 simp only
 split
 ·refine⟨by simp[hl],fun i hi ho=>?_⟩
  show wAt (ws.set b.toNat _) i=_
  rw[dH (by omega) (by omega) (by omega),if_neg (by omega)]
 ·exact⟨hl,fun i _ _=>rfl⟩
open Go.RowKit Go.Sort Go.Maps Go.Shelf
structure Fam where
 m:Nat
 b:Nat→Int
 l:Nat→Int
 k:Nat→Int
structure Fam.In (S:Fam)(lo:Int)(n:Nat):Prop where
 lo:∀i,i<S.m→lo≤S.b i∧0≤S.l i∧S.b i+S.l i<n
 ap:∀i j,i<j→j<S.m→S.b i+S.l i<S.b j
def c6 (C:Nat→List Int)(i:Nat)(xs:List Int):Nat→List Int:=fun j=>if j=i then xs else C j
theorem eN (C:Nat→List Int)(i:Nat):c6 C i (C i)=C:=by funext j;unfold c6;split<;>simp_all
theorem lj (C:Nat→List Int)(i:Nat)(xs ys:List Int):c6 (c6 C i xs) i ys=c6 C i ys:=by funext j;unfold c6;split<;>rfl
def dK (S:Fam)(C:Nat→List Int):Nat→List (Int×Int)
 | 0=> []
 |m+1=>dK S C m++(C m).map fun a=>(a,S.k m)
theorem oI (S:Fam)(C:Nat→List Int)(i:Nat)(xs:List Int):∀m,m≤i→dK S (c6 C i xs) m=dK S C m
 | 0,_=>rfl
 |m+1,h=>by
  rw[dK,dK,oI S C i xs m (by omega)]
  have:c6 C i xs m=C m:=by unfold c6;rw[if_neg (by omega)]
  rw[this]
theorem kx (S:Fam)(C:Nat→List Int)(i:Nat)(xs:List Int)(x:Int):∀m,i<m→(dK S (c6 C i (xs++ [x])) m).Perm ((x,S.k i)::dK S (c6 C i xs) m)
 | 0,h=>by omega
 |m+1,h=>by
  rw[dK,dK]
  by_cases e:m=i
  ·subst e
   rw[oI S C m _ m (Nat.le_refl _),oI S C m _ m (Nat.le_refl _)]
   have e1:c6 C m (xs++ [x]) m=xs++ [x]:=by unfold c6;rw[if_pos rfl]
   have e2:c6 C m xs m=xs:=by unfold c6;rw[if_pos rfl]
   rw[e1,e2,List.map_append,←List.append_assoc]
   exact List.perm_append_comm
  ·have e1:c6 C i (xs++ [x]) m=c6 C i xs m:=by unfold c6;rw[if_neg e,if_neg e]
   rw[e1]
   exact(kx S C i xs x m (by omega)).append_right _
structure FrI (us pg st:Int)(n:Nat)(S:Fam)(ws:List Int)(C:Nat→List Int)(O:List (Int×Int)):Prop where
 len:ws.length=n
 ok:OkW ws
 pgs:∃G,PgW pg st G ws
 keeps:∀i,i<S.m→gH ws (S.b i) (S.l i) (C i)
 nodup:((O++dK S C S.m).map (·.1)).Nodup
 acc:∀a k,tkC us pg st ws a=some k↔(a,k)∈O++dK S C S.m
theorem FrI.perm {us pg st:Int}{n:Nat}{S:Fam}{ws:List Int}{C:Nat→List Int}{O O':List (Int×Int)}(h:FrI us pg st n S ws C O)(p:O.Perm O'):FrI us pg st n S ws C O' :=
 ⟨h.len,h.ok,h.pgs,h.keeps,((p.append_right _).map _).nodup_iff.1 h.nodup,fun a k=>(h.acc a k).trans (p.append_right _).mem_iff⟩
theorem gH.off {ws ws':List Int}{b l:Int}{xs:List Int}(h:gH ws b l xs)(o:∀i:Int,b≤i→i≤b+l→wAt ws' i=wAt ws i):gH ws' b l xs:=by
 have hf:=h.fit
 exact⟨by rw[o b (by omega) (by omega)];exact h.cnt,h.fit,fun j hj=>by rw[o _ (by omega) (by omega)];exact h.at' j hj⟩
section
variable {us pg st:Int}{n:Nat}{S:Fam}(H:cB pg st n)(hS:S.In (bd st pg+62) n)(hn:n≤10000)
include H hS hn
theorem Cw {i:Nat}(hi:i<S.m):dY (S.b i) (S.l i) n:=by
 have h1:=H.st1;have h4:=H.pg1
 have hc:0≤aL pg:=by unfold aL;omega
 have ht:0≤aZ st:=by unfold aZ;omega
 obtain⟨a1,a2,a3⟩:=hS.lo i hi
 exact⟨by unfold bd at a1;omega,a2,a3,hn⟩
theorem ug {ws ws':List Int}(T:lH pg st ws ws'){C:Nat→List Int}(h:∀i,i<S.m→gH ws (S.b i) (S.l i) (C i)):∀i,i<S.m→gH ws' (S.b i) (S.l i) (C i):=fun i hi =>
 (h i hi).off fun j h1 h2=>T.off j (by have:=(hS.lo i hi).1;omega)
theorem FrI.grab {ws:List Int}{C:Nat→List Int}{O:List (Int×Int)}(h:FrI us pg st n S ws C O)(k:Int):
 cZ us pg st k ws=((0,false),ws)∨∃a X,cZ us pg st k ws=((a,true),X)∧0≤k∧k≤4∧us≤a∧a<us+32 * pg∧(a-us) % szV k=0∧FrI us pg st n S X C ((a,k)::O):=by
 obtain⟨G,P⟩:=h.pgs
 rcases I8 H us k P h.len with e|⟨a,G2,X,e,Q,T,k0,k4,n0,n1,no,a0,a1,a2⟩
 ·exact .inl e
 ·have hw:=pJ H (qK H us k) h.len h.ok
  rw[e] at hw
  refine .inr ⟨a,X,e,k0,k4,a0,a1,a2,hw.2,hw.1,⟨G2,Q⟩,ug H hS hn T h.keeps,?_,fun b c=>?_⟩
  ·rw[List.cons_append,List.map_cons,List.nodup_cons]
   refine⟨fun z=>?_,h.nodup⟩
   obtain⟨⟨a',c⟩,hc,rfl⟩:=List.mem_map.1 z
   have:=(h.acc a' c).2 hc
   rw[n0] at this;cases this
  ·rw[List.cons_append,List.mem_cons]
   by_cases z:b=a
   ·subst z
    rw[n1]
    constructor
    ·intro q;cases q;exact .inl rfl
    ·rintro(q|q)
     ·cases q;rfl
     ·have:=(h.acc b c).2 q
      rw[n0] at this;cases this
   ·rw[no b z,h.acc b c]
    exact⟨.inr,fun q=>q.resolve_left fun y=>z (by cases y;rfl)⟩
theorem FrI.back {ws:List Int}{C:Nat→List Int}{O:List (Int×Int)}{a k:Int}(h:FrI us pg st n S ws C ((a,k)::O)):
 ∃X,gR us pg st a ws=(true,X)∧FrI us pg st n S X C O:=by
 obtain⟨G,P⟩:=h.pgs
 have ht:tkC us pg st ws a=some k:=(h.acc a k).2 (by simp)
 obtain⟨G2,X,e,Q,T,n0,no⟩:=I9 H us P h.len h.ok ht
 have hw:=pJ H (wg H us a) h.len h.ok
 rw[e] at hw
 have hnd:=h.nodup
 rw[List.cons_append,List.map_cons,List.nodup_cons] at hnd
 refine⟨X,e,hw.2,hw.1,⟨G2,Q⟩,ug H hS hn T h.keeps,hnd.2,fun b c=>?_⟩
 by_cases z:b=a
 ·subst z
  rw[n0]
  refine⟨(fun q=>by cases q),fun q=>?_⟩
  exact absurd (List.mem_map.2 ⟨(b,c),q,rfl⟩) hnd.1
 ·rw[no b z,h.acc b c,List.cons_append,List.mem_cons]
  exact⟨fun q=>q.resolve_left fun y=>z (by cases y;rfl),.inr⟩
theorem FrI.turn {ws X:List Int}{C:Nat→List Int}{O O':List (Int×Int)}(h:FrI us pg st n S ws C O){i:Nat}(hi:i<S.m)(hX:X.length=n)(oX:OkW X)(hoff:∀j:Int,0≤j→(j<S.b i∨S.b i+S.l i<j)→wAt X j=wAt ws j){xs:List Int}(hk:gH X (S.b i) (S.l i) xs)(hp:(O++dK S C S.m).Perm (O'++dK S (c6 C i xs) S.m)):FrI us pg st n S X (c6 C i xs) O':=by
 obtain⟨G,P⟩:=h.pgs
 have h1:=H.st1;have h4:=H.pg1
 have hc:0≤aL pg:=by unfold aL;omega
 have ht:0≤aZ st:=by unfold aZ;omega
 have hb:=hS.lo i hi
 have F:ue pg st ws X:=⟨by rw[hX,h.len],fun j h0 hj=>hoff j h0 (.inl (by omega))⟩
 refine⟨hX,oX,⟨G,wl H F P⟩,fun j hj=>?_,(hp.map _).nodup_iff.1 h.nodup,fun a k=>?_⟩
 ·by_cases e:j=i
  ·subst e
   unfold c6;rw[if_pos rfl];exact hk
  ·unfold c6;rw[if_neg e]
   refine(h.keeps j hj).off fun x x0 x1=>hoff x (by have:=(hS.lo j hj).1;unfold bd at this;omega) ?_
   rcases Nat.lt_or_gt_of_ne e with q|q
   ·have:=hS.ap j i q hi;omega
   ·have:=hS.ap i j q hj;omega
 ·rw[I7 H F P,h.acc a k];exact hp.mem_iff
theorem FrI.pop {ws:List Int}{C:Nat→List Int}{O:List (Int×Int)}(h:FrI us pg st n S ws C O){i:Nat}(hi:i<S.m):
 (C i= []∧aY (S.b i) (S.l i) ws=((0,false),ws))∨∃xs x X,C i=xs++ [x]∧aY (S.b i) (S.l i) ws=((x,true),X)∧FrI us pg st n S X (c6 C i xs) ((x,S.k i)::O):=by
 have hst:=Cw H hS hn hi
 have hk:=h.keeps i hi
 rcases List.eq_nil_or_concat (C i) with e|⟨xs,x,e⟩
 ·rw[e] at hk
  exact .inl ⟨e,hk.none⟩
 ·rw[List.concat_eq_append] at e
  rw[e] at hk
  obtain⟨e1,e2,e3⟩:=hk.pop hst h.len
  obtain⟨_,o2⟩:=K9 hst h.len
  have hw:=pJ H (oH hst) h.len h.ok
  refine .inr ⟨xs,x,(aY (S.b i) (S.l i) ws).2,e,by rw[←e1],h.turn H hS hn hi hw.2 hw.1 o2 e3 ?_⟩
  have:=kx S C i xs x S.m hi
  rw[←e,eN] at this
  refine(this.append_left O).trans ?_
  rw[List.cons_append]
  exact List.perm_middle
theorem FrI.push {ws:List Int}{C:Nat→List Int}{O:List (Int×Int)}{i:Nat}{a:Int}(hi:i<S.m)(h:FrI us pg st n S ws C ((a,S.k i)::O))(ha:W64 a):
 (((C i).length:Int)<S.l i∧∃X,cF (S.b i) (S.l i) a ws=(true,X)∧FrI us pg st n S X (c6 C i (C i++ [a])) O)∨(S.l i≤((C i).length:Int)∧cF (S.b i) (S.l i) a ws=(false,ws)):=by
 have hst:=Cw H hS hn hi
 have hk:=h.keeps i hi
 obtain⟨e1,e2,e3⟩:=hk.push (x:=a) hst h.len
 obtain⟨_,o2⟩:=Jb (x:=a) hst h.len
 by_cases hl:((C i).length:Int)<S.l i
 ·rw[if_pos hl] at e3
  have hw:=pJ H (rr hst ha) h.len h.ok
  refine .inl ⟨hl,(cF (S.b i) (S.l i) a ws).2,?_,h.turn H hS hn hi hw.2 hw.1 o2 e3 ?_⟩
  ·have:(cF (S.b i) (S.l i) a ws).1=true:=by rw[e1];simpa using hl
   rw[←this]
  ·have:=kx S C i (C i) a S.m hi
   rw[eN] at this
   refine List.Perm.trans ?_ (this.append_left O).symm
   rw[List.cons_append]
   exact List.perm_middle.symm
 ·refine .inr ⟨by omega,?_⟩
  have hk2:=hk.kept
  have hf:=hk.fit
  unfold cF
  simp only[hk2]
  rw[if_neg hl]
end
def famC (d:Cfg):Fam where
 m:=5 * d.cp.toNat+5
 b:=fun i=>if i<5 * d.cp.toNat then dq d.st d.pg+i * (d.ca+1) else fL d.cp d.pg d.st d.ca+((i:Int)-5 * d.cp) * (d.bi+1)
 l:=fun i=>if i<5 * d.cp.toNat then d.ca else d.bi
 k:=fun i=>(i % 5:Nat)
theorem Cx (d:Cfg)(i:Nat):(famC d).b i=if i<5 * d.cp.toNat then dq d.st d.pg+i * (d.ca+1) else fL d.cp d.pg d.st d.ca+((i:Int)-5 * d.cp) * (d.bi+1):=rfl
theorem Jc (d:Cfg)(i:Nat):(famC d).l i=if i<5 * d.cp.toNat then d.ca else d.bi:=rfl
theorem i5 {d:Cfg}{u c:Nat}(hu:(u:Int)<d.cp)(hc:c<5):5 * u+c<(famC d).m∧(famC d).b (5 * u+c)=og d.cp d.pg d.st d.ca u c∧(famC d).l (5 * u+c)=d.ca∧(famC d).k (5 * u+c)=c:=by
 have h:5 * u+c<5 * d.cp.toNat:=by omega
 refine⟨by show _<5 * d.cp.toNat+5;omega,?_,?_,?_⟩
 ·show(if _ then _ else _)=_
  rw[if_pos h]
  unfold og
  rw[if_pos (by omega)]
  simp
 ·show(if _ then _ else _)=_
  rw[if_pos h]
 ·show(((5 * u+c) % 5:Nat):Int)=_
  omega
theorem nD {d:Cfg}{c:Nat}(hp:0≤d.cp)(hc:c<5):5 * d.cp.toNat+c<(famC d).m∧(famC d).b (5 * d.cp.toNat+c)=Ew d.cp d.pg d.st d.ca d.bi c∧(famC d).l (5 * d.cp.toNat+c)=d.bi∧(famC d).k (5 * d.cp.toNat+c)=c:=by
 have h:¬(5 * d.cp.toNat+c<5 * d.cp.toNat):=by omega
 refine⟨by show _<5 * d.cp.toNat+5;omega,?_,?_,?_⟩
 ·show(if _ then _ else _)=_
  rw[if_neg h]
  unfold Ew
  rw[if_pos (by omega)]
  congr 2
  omega
 ·show(if _ then _ else _)=_
  rw[if_neg h]
 ·show(((5 * d.cp.toNat+c) % 5:Nat):Int)=_
  omega
theorem oJ {d:Cfg}(R:d.Ok){n:Nat}(hn:(n:Int)=d.words):(famC d).In (bd d.st d.pg+62) n:=by
 have h1:=R.cp1;have h2:=R.ca1;have h3:=R.bi1
 have hl:=sw R;have hu:=o8 R;have hp:=R.pg1
 have hcp:((d.cp.toNat:Nat):Int)=d.cp:=by omega
 have top:eH d.cp d.pg d.st d.ca d.bi<n:=by
  rw[hn]
  show _<eR d.cp d.pg d.st d.ca d.bi
  unfold eR
  omega
 have p5:=qg R
 -- steps of the caches,and of the bins
 have s1:∀i:Nat,i<5 * d.cp.toNat→(i:Int) * (d.ca+1)+d.ca+1≤5 * d.cp * (d.ca+1)∧0≤(i:Int) * (d.ca+1):=fun i hi=>by
  have:((i:Int)+1) * (d.ca+1)≤5 * d.cp * (d.ca+1):=Int.mul_le_mul_of_nonneg_right (by omega) (by omega)
  have e:((i:Int)+1) * (d.ca+1)=(i:Int) * (d.ca+1)+d.ca+1:=by rw[Int.add_mul];omega
  exact⟨by omega,Int.mul_nonneg (by omega) (by omega)⟩
 have s2:∀j:Int,0≤j→j<5→j * (d.bi+1)+d.bi+1≤5 * (d.bi+1)∧0≤j * (d.bi+1):=fun j h0 hj=>by
  have:(j+1) * (d.bi+1)≤5 * (d.bi+1):=Int.mul_le_mul_of_nonneg_right (by omega) (by omega)
  have e:(j+1) * (d.bi+1)=j * (d.bi+1)+d.bi+1:=by rw[Int.add_mul];omega
  exact⟨by omega,Int.mul_nonneg (by omega) (by omega)⟩
 refine⟨fun i hi=>?_,fun i j hij hj=>?_⟩
 ·have hi:i<5 * d.cp.toNat+5:=hi
  rw[Cx,Jc]
  by_cases q:i<5 * d.cp.toNat
  ·rw[if_pos q,if_pos q]
   obtain⟨a,b⟩:=s1 i q
   unfold eH fL at top
   unfold dq at *
   refine⟨by omega,h2,by omega⟩
  ·rw[if_neg q,if_neg q]
   obtain⟨a,b⟩:=s2 ((i:Int)-5 * d.cp) (by omega) (by omega)
   unfold eH at top
   have:dq d.st d.pg≤fL d.cp d.pg d.st d.ca:=by unfold fL;omega
   have e:dq d.st d.pg=bd d.st d.pg+62:=rfl
   refine⟨by omega,h3,by omega⟩
 ·have hj:j<5 * d.cp.toNat+5:=hj
  rw[Cx,Jc,Cx]
  by_cases q:j<5 * d.cp.toNat
  ·have qi:i<5 * d.cp.toNat:=by omega
   rw[if_pos qi,if_pos qi,if_pos q]
   have:((i:Int)+1) * (d.ca+1)≤(j:Int) * (d.ca+1):=Int.mul_le_mul_of_nonneg_right (by omega) (by omega)
   have e:((i:Int)+1) * (d.ca+1)=(i:Int) * (d.ca+1)+d.ca+1:=by rw[Int.add_mul];omega
   omega
  ·rw[if_neg q]
   by_cases qi:i<5 * d.cp.toNat
   ·rw[if_pos qi,if_pos qi]
    obtain⟨a,b⟩:=s1 i qi
    obtain⟨c1,c2⟩:=s2 ((j:Int)-5 * d.cp) (by omega) (by omega)
    unfold fL
    omega
   ·rw[if_neg qi,if_neg qi]
    have:((i:Int)-5 * d.cp+1) * (d.bi+1)≤((j:Int)-5 * d.cp) * (d.bi+1):=Int.mul_le_mul_of_nonneg_right (by omega) (by omega)
    have e:((i:Int)-5 * d.cp+1) * (d.bi+1)=((i:Int)-5 * d.cp) * (d.bi+1)+d.bi+1:=by rw[Int.add_mul];omega
    omega
def fw (us pg st:Int)(ws:List Int):Nat→Nat
 | 0=>0
 |m+1=>fw us pg st ws m+(if(tkC us pg st ws (us+m)).isSome then 1 else 0)
theorem pN (us pg st:Int)(ws:List Int):∀m,fw us pg st ws m=(((List.range m).map fun i:Nat=>us+(i:Int)).filter fun a=>(tkC us pg st ws a).isSome).length
 | 0=>rfl
 |m+1=>by
  rw[fw,pN us pg st ws m,List.range_succ,List.map_append,List.filter_append,List.length_append]
  congr 1
  simp only[List.map_cons,List.map_nil,List.filter_cons,List.filter_nil]
  split<;>rfl
theorem Ga {us pg st:Int}{ws:List Int}{all:List (Int×Int)}(hnd:(all.map (·.1)).Nodup)(hacc:∀a k,tkC us pg st ws a=some k↔(a,k)∈all){m:Nat}(hin:∀p∈all,us≤p.1∧p.1<us+m):fw us pg st ws m=all.length:=by
 rw[pN,show all.length=(all.map (·.1)).length by simp]
 refine(List.Perm.length_eq ?_)
 rw[List.perm_ext_iff_of_nodup]
 ·intro a
  rw[List.mem_filter,List.mem_map,List.mem_map]
  constructor
  ·rintro⟨_,h⟩
   obtain⟨k,hk⟩:=Option.isSome_iff_exists.1 h
   exact⟨(a,k),(hacc a k).1 hk,rfl⟩
  ·rintro⟨⟨a',k⟩,hp,rfl⟩
   obtain⟨i1,i2⟩:=hin _ hp
   refine⟨⟨(a' - us).toNat,List.mem_range.2 (by simp only at i1 i2;omega),by simp only at i1;omega⟩,?_⟩
   rw[(hacc a' k).2 hp];rfl
 ·exact List.Pairwise.filter _ (List.Pairwise.map _ (fun x y h=>by omega) (List.nodup_range (n:=m)))
 ·exact hnd
theorem Gb {d:Cfg}(R:d.Ok){n:Nat}(H:cB d.pg d.st n)(hn:(n:Int)=d.words)(us:Int):FrI us d.pg d.st n (famC d) (cJ n) (fun _=> []) []:=by
 have hk:∀m,dK (famC d) (fun _=> []) m= []:=by
  intro m
  induction m with
  |zero=>rfl
  |succ m ih=>rw[dK,ih];rfl
 have hz:∀i:Int,wAt (cJ n) i=0:=fun i=>by
  unfold wAt cJ
  simp only[List.getD,List.getElem?_replicate]
  split<;>rfl
 refine⟨j9 n,gn n,⟨_,wh H⟩,fun i hi=>⟨by rw[hz];rfl,((oJ R hn).lo i hi).2.1,fun j hj=>by simp at hj⟩,by rw[hk];exact List.nodup_nil,fun a k=>?_⟩
 rw[hk,FZ H us a]
 exact⟨(fun q=>by cases q),(fun q=>by cases q)⟩
theorem en1 (w:World)(o0:Obj):∃w1,w.alloc o0=w1∧w1.heap[w.heap.size]?=some o0∧ae w w1∧w1.heap.size=w.heap.size+1:=⟨_,rfl,a7 w o0,(ae.refl _).alloc _,by simp⟩
theorem en2 (w:World)(o0 o1:Obj):∃w2,(w.alloc o0).alloc o1=w2∧w2.heap[w.heap.size]?=some o0∧w2.heap[w.heap.size+1]?=some o1∧ae w w2∧w2.heap.size=w.heap.size+2:=by
 obtain⟨w1,e1,h0,m0,s0⟩:=en1 w o0
 rw[e1]
 obtain⟨w2,e2,h1,m1,s1⟩:=en1 w1 o1
 rw[s0] at h1
 exact⟨w2,e2,m1.block h0,h1,m0.trans m1,by omega⟩
def Rd (w:World)(v:Value)(xs:List Int):Prop :=
 ∃a cap,v=.slice a xs.length cap∧xs.length≤cap∧cap≤maxLen∧((a=none∧cap=0)∨∃g cur,a=some ⟨g,0,none⟩∧w.heap[g]?=some (.cells cur 3 (0,0))∧cap≤cur.size∧cur.toList.take xs.length=xs.map (Value.int .i64))
namespace Rd
variable {w w':World}{v:Value}{xs:List Int}
theorem nil (w:World):Rd w (.slice none 0 0) []:=⟨none,0,rfl,Nat.le_refl _,Nat.zero_le _,.inl ⟨rfl,rfl⟩⟩
theorem keep (h:Rd w v xs){S:Nat→Prop}(t:Turned S w w')(hs:∀k,S k→∃cs T fr,w.heap[k]?=some (.cells cs T fr)∧T≠3):Rd w' v xs:=by
 obtain⟨a,cap,hv,h1,h2,q⟩:=h
 refine⟨a,cap,hv,h1,h2,q.imp id ?_⟩
 rintro⟨g,cur,rfl,hg,r⟩
 refine⟨g,cur,rfl,?_,r⟩
 rw[t.block g (ac hg) (fun q=>by
  obtain⟨cs,T,fr,e,hne⟩:=hs g q
  rw[hg] at e;cases e;exact hne rfl)]
 exact hg
theorem more (h:Rd w v xs)(m:ae w w'):Rd w' v xs:=h.keep m (fun _ q=>q.elim)
theorem of_rw {base:Nat}(h:Rw base w v xs):Rd w v xs:=by
 rcases h.2 with⟨rfl,h0⟩|⟨g,cap,cur,rfl,_,hg,h1,h2,hs,ht⟩
 ·have:xs= []:=List.length_eq_zero_iff.1 h0
  subst this;exact nil w
 ·exact⟨_,cap,rfl,h1,h2,.inr ⟨g,cur,rfl,hg,by omega,by simpa using ht⟩⟩
theorem one (h:Rd w v xs):v.oneCell'=true:=by obtain⟨a,cap,rfl,_⟩:=h;rfl
theorem news (h:Rd w v xs):∃a cap,v=.slice a xs.length cap∧∀p,a=some p→∀j u,(xs.map (Value.int .i64))[j]?=some u→w.cell? (p.add j)=some u:=by
 obtain⟨a,cap,rfl,h1,h2,q⟩:=h
 refine⟨a,cap,rfl,fun p hp j u hj=>?_⟩
 rcases q with⟨rfl,rfl⟩|⟨g,cur,rfl,hg,hc,ht⟩
 ·cases hp
 ·cases hp
  rw[i7]
  have hj':=(List.getElem?_eq_some_iff.1 hj).1
  simp at hj'
  rw[←ht,List.getElem?_take,if_pos hj'] at hj
  simp[World.cell?,hg]
  simpa using hj
theorem cell (h:Rd w v xs):∃a cap,v=.slice a xs.length cap∧xs.length≤cap∧∀k,k<xs.length→∃g,a=some ⟨g,0,none⟩∧w.cell? ⟨g,k,none⟩=some (.int .i64 (xs.getD k 0)):=by
 obtain⟨a,cap,hv,h1,h2,q⟩:=h
 refine⟨a,cap,hv,h1,fun k hk=>?_⟩
 rcases q with⟨rfl,rfl⟩|⟨g,cur,rfl,hg,hc,ht⟩
 ·omega
 ·refine⟨g,rfl,?_⟩
  have e:(cur.toList.take xs.length)[k]?=some (.int .i64 (xs.getD k 0)):=by rw[ht];simp[List.getElem?_eq_getElem hk]
  rw[List.getElem?_take,if_pos hk] at e
  simp[World.cell?,hg]
  simpa using e
theorem first (h:Rd w v xs){n:Nat}(hn:n≤xs.length):∃a,(∃cap,v=.slice a xs.length cap∧n≤cap∧(a=none→cap=0))∧Rd w (.slice a n n) (xs.take n):=by
 obtain⟨a,cap,rfl,h1,h2,q⟩:=h
 have hl:(xs.take n).length=n:=by simp;omega
 refine⟨a,⟨cap,rfl,by omega,?_⟩,a,n,by rw[hl],by omega,by omega,?_⟩
 ·rintro rfl
  rcases q with q|⟨g,cur,e,_⟩
  ·exact q.2
  ·cases e
 ·rcases q with⟨rfl,rfl⟩|⟨g,cur,rfl,hg,hc,ht⟩
  ·exact .inl ⟨rfl,by omega⟩
  ·refine .inr ⟨g,cur,rfl,hg,by omega,?_⟩
   rw[hl,List.map_take,←ht,List.take_take,Nat.min_eq_left hn]
end Rd
def puA (f:Nat→Value):Array Value:= #[f 0,f 1,f 2,f 3,f 4]
theorem xV (f:Nat→Value){c:Nat}(hc:c<5):(puA f)[c]?=some (f c):=by
 match c,hc with
 | 0,_=>rfl
 | 1,_=>rfl
 | 2,_=>rfl
 | 3,_=>rfl
 | 4,_=>rfl
def jv (f:Nat→Value)(c:Nat)(v:Value):Nat→Value:=fun k=>if k=c then v else f k
theorem Ea (f:Nat→Value){c:Nat}(hc:c<5)(v:Value):(puA f).setIfInBounds c v=puA (jv f c v):=by
 match c,hc with
 | 0,_=>rfl
 | 1,_=>rfl
 | 2,_=>rfl
 | 3,_=>rfl
 | 4,_=>rfl
def Pu (w:World)(f:Nat→Value)(P:Nat→List Int):Prop:=∀c,c<5→Rd w (f c) (P c)
theorem Pu.more {w w':World}{f:Nat→Value}{P:Nat→List Int}(h:Pu w f P)(m:ae w w'):Pu w' f P:=fun c hc=>(h c hc).more m
theorem Pu.keep {w w':World}{f:Nat→Value}{P:Nat→List Int}(h:Pu w f P){S:Nat→Prop}(t:Turned S w w')(hs:∀k,S k→∃cs T fr,w.heap[k]?=some (.cells cs T fr)∧T≠3):Pu w' f P:=fun c hc=>(h c hc).keep t hs
theorem Pu.all1 {w:World}{f:Nat→Value}{P:Nat→List Int}(h:Pu w f P):(puA f).all (·.oneCell')=true:=by
 simp[puA,(h 0 (by omega)).one,(h 1 (by omega)).one,(h 2 (by omega)).one,(h 3 (by omega)).one,(h 4 (by omega)).one]
theorem ky {w:World}{g:Nat}{f:Nat→Value}{T:TypeId}(h:w.heap[g]?=some (.cells (puA f) T (0,0))){c:Nat}(hc:c<5):w.cell? ⟨g,c,none⟩=some (f c):=by
 rw[cell_of_row w _ _ _ _ _ h];exact xV f hc
def iO (c:Int):Bool:=decide (0≤c) && decide (c<5)
theorem mE {c:Int}(h:iO c=true):∃k:Nat,c=k∧k<5:=by
 simp[iO] at h
 exact⟨c.toNat,by omega,by omega⟩
theorem xW {k:Nat}(h:k<5):iO k=true:=by simp[iO];omega
theorem nE (c:Int)(w:World):Calls Tryz.prog 52 #[.int .i64 c] w (aP w (.bool (iO c))):=by
 by_cases h0:0≤c
 ·have d0:decide (0≤c)=true:=by simp[h0]
  go_enter Tryz.func52,Tryz.ntmps52
  go_wp2_with fail
  go_ret
  exact⟨by simp[iO,d0],ae.refl _⟩
 ·have d0:decide (0≤c)=false:=by simp;omega
  go_enter Tryz.func52,Tryz.ntmps52
  go_wp2_with fail
  go_ret
  exact⟨by simp[iO,d0],ae.refl _⟩
def cV (P:Nat→List Int)(c:Int):Int:=if iO c then(P c.toNat).length else 0
theorem pO (f:Nat→Value)(P:Nat→List Int)(c:Int)(w:World)(h:Pu w f P):Calls Tryz.prog 21 #[.agg (puA f),.int .i64 c] w (aP w (.int .i64 (cV P c))):=by
 obtain⟨w1,e1,hl1,m1,s1⟩:=en1 w (.cells (puA f) 32)
 have L0:=hQQ hl1
 have M1:=hQQ m1
 have HP:=hQQ (h.more m1)
 clear m1 h s1
 cases hc:iO c with
 |false =>
  have C:=hQQ (fun W=>nE c W)
  rw[hc] at C
  have FIN:cV P c=0:=by simp[cV,hc]
  rw[FIN]
  clear hc FIN hl1 HP
  go_enter Tryz.func21,Tryz.ntmps21
  go_wp2_with fail
  refine(C.o w1).mono ?_
  rintro e w2 ⟨rfl,h2⟩
  have M2:=hQQ (M1.o.trans h2)
  clear h2
  go_wp2_with fail
  go_ret
  exact⟨rfl,M2.o⟩
 |true =>
  obtain⟨k,rfl,hk⟩:=mE hc
  have C:=hQQ (fun W=>nE k W)
  rw[hc] at C
  have FIN:cV P k=(P k).length:=by simp[cV,hc]
  rw[FIN]
  have hm:=hQQ hk
  obtain⟨a,cap,hf,_,_⟩:=HP.o k hk
  have X:Hq (∀W,ae w1 W→W.cell? ⟨w.heap.size,k,none⟩=some (.slice a (P k).length cap)):=hQQ fun W hW=>(ky (hW.block L0.o) hk).trans (by rw[hf])
  clear hc FIN hl1 HP hf
  go_enter Tryz.func21,Tryz.ntmps21
  go_wp2_with fail
  refine(C.o w1).mono ?_
  rintro e w2 ⟨rfl,h2⟩
  have M2:=hQQ (M1.o.trans h2)
  have x1:=X.o w2 h2
  clear h2
  go_wp2_with fail
  go_ret
  exact⟨rfl,M2.o⟩
theorem Af {ops:Array Oper}{rest:List Oper}{o:Oper}{a:Act}{Q:Exit→Act→World→Prop}{w:World}{b:Option Addr}{xs:List Int}(y:Int)(n:Nat)(hgd:o.guard=none)(s x:Operand)
 (ho:o.op=.call { callee:= .builtin .append,args:= #[s,x],argTypes:= #[29,29] })
 (hs:a.eval s=.slice b n n) (hn:Rd w (.slice b n n) xs) (hl:xs.length≤1000000) (hnl:xs.length=n)
 (hx:a.eval x=.slice (some ⟨w.heap.size,0,none⟩) 1 1)
 (h:∀g cap w',w.heap.size≤g→Rd w' (.slice (some ⟨g,0,none⟩) (n+1) cap) (xs++ [y])→ae w w'→wpList Tryz.prog ops Q rest (a.put o.dst (.slice (some ⟨g,0,none⟩) (n+1) cap)) w'):wpList Tryz.prog ops Q (o::rest) a (w.alloc (.cells #[.int .i64 y] 3)):=by
 obtain⟨i,i1,i2,i3,i4⟩:=jf
 have hn':=hn.more ((ae.refl w).alloc (.cells #[.int .i64 y] 3))
 have hW:ae w (w.alloc (.cells #[.int .i64 y] 3)):=(ae.refl w).alloc _
 have hB:=a7 w (.cells #[.int .i64 y] 3)
 have hsz:w.heap.size≤(w.alloc (.cells #[.int .i64 y] 3)).heap.size:=by simp
 generalize w.alloc (.cells #[.int .i64 y] 3)=w1 at hn' hB hW hsz⊢
 refine wpList_plain hgd fun K hK=>?_
 have hsrc:Src Tryz.prog i.size 29 (.slice (some ⟨w.heap.size,0,none⟩) 1 1) 1 [.int .i64 y] w1:=Src.ofSlice w1 Tryz.underlying29 _ 1 1 _ (by simp[i3]) (fun j u hu=>World.news_of_block hB j u (by simpa using hu)) (by intro u hu;simp at hu;subst hu;rfl)
 obtain⟨a',cap',e',hnews⟩:=hn'.news
 have hold:(Builtin.firstCells i.size n (.slice b n n)).run Tryz.prog w1.drew=.ok (xs.map (Value.int .i64)).toArray w1.drew:=by
  cases b with
  |none =>
   obtain⟨a0,c0,q1,q2,q3,q4⟩:=hn
   cases q1
   rcases q4 with⟨_,q⟩|⟨g,cur,q,_⟩
   ·have:xs= []:=List.length_eq_zero_iff.1 (by omega)
    subst this
    exact run_firstCells_none _ _ _ _ _
   ·cases q
  |some p =>
   cases e'
   exact run_firstCells_some w1.drew i.size _ p _ _ _ (by simp[i3]) (fun j u hu=>by rw[World.cell?_of_block (w:=w1) (w':=w1.drew) rfl];exact hnews p rfl j u hu)
 have hr:=run_append_grow_src (P:=Tryz.prog) w1 29 29 o.type 3 i _ Tryz.underlying29 i1 i2 b n n _ hold _ 1 _ hsrc (by omega) (by omega) (growslice_fits (by omega) (by rw[i4];omega))
 unfold Oper.wp execOp
 simp only[ho,resolve,invoke,builtin,Sem.run_bind,Sem.run_pure,Result.andThen_ok,List.map_toArray,List.map_cons,List.map_nil,hs,hx,hr]
 refine hK _ _ (h w1.heap.size _ _ hsz ?_ ((hW.drew).alloc _))
 have hge:=grownCap_ge w1 (n+1) n 3
 have hle:=grownCap_le_maxLen w1 (n+1) n 3 (by simp only[maxLen];omega)
 refine⟨_,_,by rw[List.length_append,hnl];rfl,by simp[hnl];omega,hle,.inr ⟨_,_,rfl,a7 w1.drew _,?_,?_⟩⟩
 ·simp[size_zeroCells,Value.cells,hnl];omega
 ·have e2:(xs++ [y]).length=(xs.map (Value.int .i64)++ [Value.int .i64 y]).length:=by simp
  have e3:(xs++ [y]).map (Value.int .i64)=xs.map (Value.int .i64)++ [.int .i64 y]:=by simp
  rw[Array.toList_append,e3,e2]
  exact List.take_left' rfl
theorem nZ {ops:Array Oper}{rest:List Oper}{o:Oper}{a:Act}{Q:Exit→Act→World→Prop}{w wa:World}{v u:Value}{xs ys:List Int}(hgd:o.guard=none)(s x:Operand)
 (ho:o.op=.call { callee:= .builtin .append,args:= #[s,x],argTypes:= #[29,29] })
 (hs:a.eval s=v) (hn:Rw wa.heap.size w v xs) (hW:ae wa w) (hl:xs.length+ys.length≤1000000)
 (hx:a.eval x=u) (hu:Rd w u ys)
 (h:∀v' w',Rw wa.heap.size w' v' (xs++ys)→ae wa w'→wpList Tryz.prog ops Q rest (a.put o.dst v') w'):wpList Tryz.prog ops Q (o::rest) a w:=by
 obtain⟨i,i1,i2,i3,i4⟩:=jf
 obtain⟨ad,cap,rfl,hnews⟩:=hu.news
 cases ad with
 |none =>
  have:ys= []∧cap=0:=by
   obtain⟨a0,c0,q1,q2,q3,q4⟩:=hu
   cases q1
   rcases q4 with⟨_,q⟩|⟨g,cur,q,_⟩
   ·exact⟨List.length_eq_zero_iff.1 (by omega),q⟩
   ·cases q
  obtain⟨rfl,rfl⟩:=this
  refine wpList_append_own_none hgd s x 29 ho wa.heap.size 3 i 1 Tryz.underlying29 i1 v xs.length _ hs hn hx ?_
  have:=h v w (by simpa using hn) hW
  exact this
 |some p =>
  refine wpList_append_own_at (P:=Tryz.prog) w hgd s x 29 ho wa.heap.size 3 i _ 1 8 Tryz.underlying29 i1 i2 i3 i4 rfl (by omega) v xs.length _ hs hn p ys.length cap (ys.map (Value.int .i64)) hx (by simp)
   (hnews p rfl) (by intro u hu;obtain⟨y,_,rfl⟩:=List.mem_map.1 hu;rfl) (by simp only[maxLen];omega) (by omega) hW.size ?_
  intro v' w1 hown hgrow _ _
  refine h v' w1 ?_ (uX hW hn hgrow)
  unfold Rw
  rw[List.length_append,List.map_append]
  exact hown
theorem xX {P:Program}{fn:Func}{p u:Tmp}{ty:TypeId}(h:fn.results= #[.cell p ty,.tmp u])(tmps:Array Value)(w:World)(g:Nat)(t:TypeId)(cs:Array Value)(fr:Nat×Nat)(d:TypeDesc)
 (hp:tmps.getD p undef=.pointer (some ⟨g,0,none⟩)) (hg:w.heap[g]?=some (.cells cs t fr))
 (hu:P.underlying ty=some d) (hd:(match d with| .struct _| .array _ _=>true|_=>false)=true) (hi:(P.info? ty).map (·.size)=some cs.size):
 (results fn tmps).run P w=.ok (.tuple #[.agg cs,tmps.getD u undef]) w:=by
 rw[results_cell_tmp h,hp]
 simp[asAddr,run_loadVar_row w g t ty cs fr d hg hu hd hi]
def dS (P:Nat→List Int)(c l:Int):Bool:=iO c && decide (cV P c<l)
def d7 (P:Nat→List Int)(c a l:Int):Nat→List Int:=if dS P c l then(fun k=>if k=c.toNat then P k++ [a] else P k) else P
theorem dZ (P:Nat→List Int){k:Nat}(hk:k<5):cV P k=(P k).length:=by simp[cV,xW hk]
theorem Eb (P:Nat→List Int){c:Int}(hc:iO c=false):cV P c=0:=by simp[cV,hc]
def gI (P:Nat→List Int)(c:Int):Bool:=decide (0<cV P c)
def hU (P:Nat→List Int)(c:Int):Int:=if gI P c then(P c.toNat).getD ((P c.toNat).length-1) 0 else 0
def gO (P:Nat→List Int)(c:Int):Nat→List Int:=if gI P c then(fun k=>if k=c.toNat then(P k).take ((P k).length-1) else P k) else P
theorem sd {P:Program}{fn:Func}{p u u':Tmp}{ty:TypeId}(h:fn.results= #[.cell p ty,.tmp u,.tmp u'])(tmps:Array Value)(w:World)(g:Nat)(t:TypeId)(cs:Array Value)(fr:Nat×Nat)(d:TypeDesc)
 (hp:tmps.getD p undef=.pointer (some ⟨g,0,none⟩)) (hg:w.heap[g]?=some (.cells cs t fr))
 (hu:P.underlying ty=some d) (hd:(match d with| .struct _| .array _ _=>true|_=>false)=true) (hi:(P.info? ty).map (·.size)=some cs.size):
 (results fn tmps).run P w=.ok (.tuple #[.agg cs,tmps.getD u undef,tmps.getD u' undef]) w:=by
 have hp':tmps[p]?.getD undef=.pointer (some ⟨g,0,none⟩):=by simpa using hp
 simp[results,h,hp',asAddr,run_loadVar_row w g t ty cs fr d hg hu hd hi]
def wn:Fam:=⟨5,fun _=>0,fun _=>0,fun i=>(i:Int)⟩
def puO (P:Nat→List Int):List (Int×Int):=dK wn P 5
theorem Ag (P:Nat→List Int){k:Nat}(hk:k<5)(a:Int):(puO (c6 P k (P k++ [a]))).Perm ((a,(k:Int))::puO P):=by
 have:=kx wn P k (P k) a 5 hk
 rw[eN] at this
 exact this
theorem Ec (P:Nat→List Int){k:Nat}(hk:k<5){xs:List Int}{x:Int}(e:P k=xs++ [x]):(puO P).Perm ((x,(k:Int))::puO (c6 P k xs)):=by
 have:=kx wn P k xs x 5 hk
 rw[←e,eN] at this
 exact this
theorem kB (P:Nat→List Int){k:Nat}(hk:k<5)(a:Int){lim:Int}(h:((P k).length:Int)<lim):d7 P k a lim=c6 P k (P k++ [a]):=by
 have hb:dS P k lim=true:=by simp[dS,xW hk,dZ P hk];omega
 unfold d7
 rw[if_pos hb]
 funext j
 unfold c6
 by_cases e:j=k
 ·subst e;simp
 ·simp[e]
theorem lm (P:Nat→List Int){k:Nat}(hk:k<5){xs:List Int}{x:Int}(e:P k=xs++ [x]):gI P k=true∧hU P k=x∧gO P k=c6 P k xs:=by
 have hb:gI P k=true:=by simp[gI,dZ P hk,e]
 refine⟨hb,?_,?_⟩
 ·unfold hU;rw[if_pos hb];simp[e]
 ·unfold gO
  rw[if_pos hb]
  funext j
  unfold c6
  by_cases z:j=k
  ·subst z;simp[e]
  ·simp[z]
theorem se (P:Nat→List Int){k:Nat}(hk:k<5)(e:P k= []):gI P k=false:=by simp[gI,dZ P hk,e]
section
variable (us pg st:Int)(S:Fam)(i0 i1:Nat)
def jE (k:Int):Nat→List Int→(Int×Bool)×List Int
 | 0,ws=>aY (S.b i0) (S.l i0) ws
 | 1,ws=>aY (S.b i1) (S.l i1) ws
 | 2,ws=>if tQ pg st k ws then cZ us pg st k ws else((0,false),ws)
 | _,ws=>cZ us pg st k ws
def fT (k kind:Nat)(lim:Int):Nat→(Nat→List Int)→List Int→(Nat→List Int)×List Int
 | 0,P,ws=>(P,ws)
 |m+1,P,ws=>if(jE us pg st S i0 i1 k kind ws).1.2 then fT k kind lim m (d7 P k (jE us pg st S i0 i1 k kind ws).1.1 lim) (jE us pg st S i0 i1 k kind ws).2 else(P,(jE us pg st S i0 i1 k kind ws).2)
def mF (ws:List Int):Nat:=if 0<aX (S.l i0) (wAt ws (S.b i0)) then 0 else if 0<aX (S.l i1) (wAt ws (S.b i1)) then 1 else 2
def lq (kind:Nat):Nat:=if kind=2 then 3 else kind
def mG (k:Nat)(lim:Int)(m:Nat)(P:Nat→List Int)(ws:List Int):((Int×Bool)×(Nat→List Int))×List Int :=
 if gI P k then(((hU P k,true),gO P k),ws)
 else if(jE us pg st S i0 i1 k (lq (mF S i0 i1 ws)) ws).1.2 then
  ((((jE us pg st S i0 i1 k (lq (mF S i0 i1 ws)) ws).1.1,true),(fT us pg st S i0 i1 k (mF S i0 i1 ws) lim m P (jE us pg st S i0 i1 k (lq (mF S i0 i1 ws)) ws).2).1),(fT us pg st S i0 i1 k (mF S i0 i1 ws) lim m P (jE us pg st S i0 i1 k (lq (mF S i0 i1 ws)) ws).2).2)
 else(((0,false),P),(jE us pg st S i0 i1 k (lq (mF S i0 i1 ws)) ws).2)
def uh (a:Int)(ws:List Int):List Int :=
 if(cF (S.b i0) (S.l i0) a ws).1 then(cF (S.b i0) (S.l i0) a ws).2
 else if(cF (S.b i1) (S.l i1) a (cF (S.b i0) (S.l i0) a ws).2).1 then(cF (S.b i1) (S.l i1) a (cF (S.b i0) (S.l i0) a ws).2).2
 else(gR us pg st a (cF (S.b i1) (S.l i1) a (cF (S.b i0) (S.l i0) a ws).2).2).2
def jQ (k:Nat):Nat→(Nat→List Int)→List Int→(Nat→List Int)×List Int
 | 0,P,ws=>(P,ws)
 |m+1,P,ws=>if gI P k then jQ k m (gO P k) (uh us pg st S i0 i1 (hU P k) ws) else(P,ws)
def wo (k:Nat)(lim:Int)(m:Nat)(a:Int)(P:Nat→List Int)(ws:List Int):(Nat→List Int)×List Int :=
 if lim≤((P k).length:Int) then(d7 (jQ us pg st S i0 i1 k m P ws).1 k a lim,(jQ us pg st S i0 i1 k m P ws).2) else(d7 P k a lim,ws)
end
def iJ (us pg st:Int):List Int→List Int→List Int
 | [],ws=>ws
 |a::t,ws=>(gR us pg st a (iJ us pg st t ws)).2
def qO (us pg st:Int)(P:Nat→List Int)(ws:List Int):List Int:=iJ us pg st (P 4) (iJ us pg st (P 3) (iJ us pg st (P 2) (iJ us pg st (P 1) (iJ us pg st (P 0) ws))))
def io (us pg st b l:Int):Nat→List Int→List Int
 | 0,ws=>ws
 |m+1,ws=>if(aY b l ws).1.2 then io us pg st b l m (gR us pg st (aY b l ws).1.1 (aY b l ws).2).2 else ws
def oK (us pg st:Int)(S:Fam):Nat→List Int→List Int
 | 0,ws=>ws
 |m+1,ws=>io us pg st (S.b m) (S.l m) ((S.l m).toNat+1) (oK us pg st S m ws)
section
variable {us pg st:Int}{n:Nat}{S:Fam}(H:cB pg st n)(hS:S.In (bd st pg+62) n)(hn:n≤10000)(hu:0≤us∧us+32 * pg≤1000000)
include H hS hn hu
theorem La {ws:List Int}{C:Nat→List Int}{O:List (Int×Int)}(h:FrI us pg st n S ws C O){a k:Int}(hm:(a,k)∈O):W64 a:=by
 obtain⟨G,P⟩:=h.pgs
 obtain⟨a0,a1,_⟩:=xT H P ((h.acc a k).2 (List.mem_append_left _ hm))
 exact⟨by omega,by omega⟩
variable {i0 i1 k:Nat}(h0:i0<S.m)(h1:i1<S.m)(hk:k<5)(k0:S.k i0=k)(k1:S.k i1=k)
include h0 h1 hk k0 k1
theorem Ed (kind:Nat){ws:List Int}{C:Nat→List Int}{O:List (Int×Int)}(h:FrI us pg st n S ws C O):
 jE us pg st S i0 i1 k kind ws=((0,false),ws)∨∃a X C',jE us pg st S i0 i1 k kind ws=((a,true),X)∧FrI us pg st n S X C' ((a,(k:Int))::O):=by
 have gr:cZ us pg st k ws=((0,false),ws)∨∃a X C',cZ us pg st k ws=((a,true),X)∧FrI us pg st n S X C' ((a,(k:Int))::O):=by
  rcases h.grab H hS hn k with e|⟨a,X,e,_,_,_,_,_,h'⟩
  ·exact .inl e
  ·exact .inr ⟨a,X,C,e,h'⟩
 match kind with
 | 0 =>
   rcases h.pop H hS hn h0 with⟨_,e⟩|⟨xs,x,X,_,e,h'⟩
   ·exact .inl e
   ·rw[k0] at h';exact .inr ⟨x,X,_,e,h'⟩
 | 1 =>
   rcases h.pop H hS hn h1 with⟨_,e⟩|⟨xs,x,X,_,e,h'⟩
   ·exact .inl e
   ·rw[k1] at h';exact .inr ⟨x,X,_,e,h'⟩
 | 2 =>
   cases hr:tQ pg st k ws with
   |false=>exact .inl (by simp[jE,hr])
   |true =>
    have:jE us pg st S i0 i1 k 2 ws=cZ us pg st k ws:=by simp[jE,hr]
    rw[this];exact gr
 |kind+3=>exact gr
theorem Ah (kind:Nat)(lim:Int):∀(m:Nat) (P:Nat→List Int) {ws:List Int} {C:Nat→List Int} {O:List (Int×Int)},FrI us pg st n S ws C (puO P++O)→((P k).length:Int)+m≤lim →
 ∃C',FrI us pg st n S (fT us pg st S i0 i1 k kind lim m P ws).2 C' (puO (fT us pg st S i0 i1 k kind lim m P ws).1++O)∧(((fT us pg st S i0 i1 k kind lim m P ws).1 k).length:Int)≤lim∧∀j,j≠k→(fT us pg st S i0 i1 k kind lim m P ws).1 j=P j
 | 0,P,ws,C,O,h,hl=>⟨C,h,by simpa [fT] using hl,fun _ _=>rfl⟩
 |m+1,P,ws,C,O,h,hl=>by
  rcases Ed H hS hn hu h0 h1 hk k0 k1 kind h with e|⟨a,X,C',e,h'⟩
  ·refine⟨C,?_,?_,?_⟩<;>simp only[fT,e]
   ·exact h
   ·simp;omega
   ·simp
  ·have hlt:((P k).length:Int)<lim:=by omega
   have hp:=kB P hk a hlt
   have h2:FrI us pg st n S X C' (puO (d7 P k a lim)++O):=by
    rw[hp]
    refine h'.perm ?_
    have:=(Ag P hk a).symm.append_right O
    simpa using this
   have hlen:(((d7 P k a lim) k).length:Int)+m≤lim:=by rw[hp];unfold c6;simp;omega
   obtain⟨C2,q1,q2,q3⟩:=Ah kind lim m (d7 P k a lim) h2 hlen
   have em:fT us pg st S i0 i1 k kind lim (m+1) P ws=fT us pg st S i0 i1 k kind lim m (d7 P k a lim) X:=by simp[fT,e]
   rw[em]
   refine⟨C2,q1,q2,fun j hj=>?_⟩
   rw[q3 j hj,hp];unfold c6;rw[if_neg hj]
theorem Jd (lim:Int)(m:Nat)(hm:(m:Int)≤lim)(P:Nat→List Int)(hP:∀j,j<5→((P j).length:Int)≤lim){ws:List Int}{C:Nat→List Int}{O:List (Int×Int)}(h:FrI us pg st n S ws C (puO P++O)):
 mG us pg st S i0 i1 k lim m P ws=(((0,false),P),ws)∨∃a P' X C',mG us pg st S i0 i1 k lim m P ws=(((a,true),P'),X)∧FrI us pg st n S X C' (puO P'++((a,(k:Int))::O))∧∀j,j<5→((P' j).length:Int)≤lim:=by
 rcases List.eq_nil_or_concat (P k) with e|⟨xs,x,e⟩
 ·have hb:=se P hk e
  rcases Ed H hS hn hu h0 h1 hk k0 k1 (lq (mF S i0 i1 ws)) h with e2|⟨a,X,C',e2,h'⟩
  ·exact .inl (by simp[mG,hb,e2])
  ·have h2:FrI us pg st n S X C' (puO P++((a,(k:Int))::O)):=h'.perm (by rw[←List.cons_append];exact(List.perm_middle (l₁:=puO P)).symm)
   obtain⟨C2,q1,q2,q3⟩:=Ah H hS hn hu h0 h1 hk k0 k1 (mF S i0 i1 ws) lim m P h2 (by rw[e];simpa using hm)
   refine .inr ⟨a,_,_,C2,by simp[mG,hb,e2],q1,fun j hj=>?_⟩
   by_cases z:j=k
   ·subst z;exact q2
   ·rw[q3 j z];exact hP j hj
 ·rw[List.concat_eq_append] at e
  obtain⟨b1,b2,b3⟩:=lm P hk e
  refine .inr ⟨x,gO P k,ws,C,by simp[mG,b1,b2],?_,fun j hj=>?_⟩
  ·rw[b3]
   refine h.perm (((Ec P hk e).append_right O).trans ?_)
   rw[List.cons_append]
   exact(List.perm_middle (l₁:=puO (c6 P k xs))).symm
  ·rw[b3];unfold c6
   have:=hP j hj
   split
   ·rename_i z;subst z;rw[e] at this;simp at this;omega
   ·exact this
theorem Jf {a:Int}{ws:List Int}{C:Nat→List Int}{O:List (Int×Int)}(h:FrI us pg st n S ws C ((a,(k:Int))::O)):∃C',FrI us pg st n S (uh us pg st S i0 i1 a ws) C' O:=by
 have ha:=La H hS hn hu h (List.mem_cons_self ..)
 rcases FrI.push H hS hn h0 (by rw[k0];exact h) ha with⟨_,X,e,h'⟩|⟨_,e⟩
 ·exact⟨_,by simp only[uh,e];exact h'⟩
 ·rcases FrI.push H hS hn h1 (by rw[k1];exact h) ha with⟨_,X,e2,h'⟩|⟨_,e2⟩
  ·exact⟨_,by simp only[uh,e,e2];exact h'⟩
  ·obtain⟨X,e3,h'⟩:=h.back H hS hn
   exact⟨_,by simp only[uh,e,e2,e3];exact h'⟩
theorem Ai:∀(m:Nat) (P:Nat→List Int) {ws:List Int} {C:Nat→List Int} {O:List (Int×Int)},FrI us pg st n S ws C (puO P++O) →
 ∃C',FrI us pg st n S (jQ us pg st S i0 i1 k m P ws).2 C' (puO (jQ us pg st S i0 i1 k m P ws).1++O)∧((jQ us pg st S i0 i1 k m P ws).1 k).length=(P k).length-m∧∀j,j≠k→(jQ us pg st S i0 i1 k m P ws).1 j=P j
 | 0,P,ws,C,O,h=>⟨C,h,rfl,fun _ _=>rfl⟩
 |m+1,P,ws,C,O,h=>by
  rcases List.eq_nil_or_concat (P k) with e|⟨xs,x,e⟩
  ·have hb:=se P hk e
   have em:jQ us pg st S i0 i1 k (m+1) P ws=(P,ws):=by simp[jQ,hb]
   rw[em]
   exact⟨C,h,by simp[e],fun _ _=>rfl⟩
  ·rw[List.concat_eq_append] at e
   obtain⟨b1,b2,b3⟩:=lm P hk e
   have h2:FrI us pg st n S ws C ((x,(k:Int))::(puO (c6 P k xs)++O)):=h.perm ((Ec P hk e).append_right O)
   obtain⟨C1,h3⟩:=Jf H hS hn hu h0 h1 hk k0 k1 h2
   obtain⟨C2,q1,q2,q3⟩:=Ai m (c6 P k xs) h3
   have em:jQ us pg st S i0 i1 k (m+1) P ws=jQ us pg st S i0 i1 k m (c6 P k xs) (uh us pg st S i0 i1 x ws):=by simp[jQ,b1,b2,b3]
   rw[em]
   refine⟨C2,q1,?_,fun j hj=>?_⟩
   ·rw[q2,e];unfold c6;simp
   ·rw[q3 j hj];unfold c6;rw[if_neg hj]
theorem Jg {lim:Int}{m:Nat}(hl:1≤lim)(hm:1≤m)(P:Nat→List Int)(hP:∀j,j<5→((P j).length:Int)≤lim){a:Int}{ws:List Int}{C:Nat→List Int}{O:List (Int×Int)}(h:FrI us pg st n S ws C (puO P++((a,(k:Int))::O))):
 ∃P' X C',wo us pg st S i0 i1 k lim m a P ws=(P',X)∧FrI us pg st n S X C' (puO P'++O)∧∀j,j<5→((P' j).length:Int)≤lim:=by
 have fin:∀(Q:Nat→List Int) (X:List Int) (C':Nat→List Int),FrI us pg st n S X C' (puO Q++((a,(k:Int))::O))→((Q k).length:Int)<lim→(∀j,j<5→((Q j).length:Int)≤lim)→FrI us pg st n S X C' (puO (d7 Q k a lim)++O)∧∀j,j<5→(((d7 Q k a lim) j).length:Int)≤lim:=fun Q X C' hq hlt hQ=>by
  rw[kB Q hk a hlt]
  refine⟨hq.perm ?_,fun j hj=>?_⟩
  ·refine List.perm_middle.trans ?_
   have:=(Ag Q hk a).symm.append_right O
   simpa using this
  ·unfold c6
   split
   ·simp;omega
   ·exact hQ j hj
 by_cases hf:lim≤((P k).length:Int)
 ·obtain⟨C1,q1,q2,q3⟩:=Ai H hS hn hu h0 h1 hk k0 k1 m P h
  have:=hP k hk
  obtain⟨f1,f2⟩:=fin _ _ _ q1 (by rw[q2];omega) (fun j hj=>by
   by_cases z:j=k
   ·subst z;rw[q2];omega
   ·rw[q3 j z];exact hP j hj)
  exact⟨_,_,C1,by simp only[wo];rw[if_pos hf],f1,f2⟩
 ·obtain⟨f1,f2⟩:=fin P ws C h (by omega) hP
  exact⟨_,_,C,by simp only[wo];rw[if_neg hf],f1,f2⟩
end
def iz (b l:Int):Array Value:= #[.int .i64 b,.int .i64 l]
theorem lr {w:World}{g:Nat}{a b:Int}{t:TypeId}(h:w.heap[g]?=some (.cells #[.int .i64 a,.int .i64 b] t (0,0))):w.cell? ⟨g,0,none⟩=some (.int .i64 a)∧w.cell? ⟨g,1,none⟩=some (.int .i64 b):=by
 refine⟨?_,?_⟩<;>simp[World.cell?,h]
def ls (b l:Int):Bool:=decide (0<b) && decide (0≤l)
theorem Aj (b l:Int)(w:World):Calls Tryz.prog 109 #[.agg (iz b l)] w (aP w (.bool (ls b l))):=by
 obtain⟨w1,e1,h1,m1,s1⟩:=a6 w (.cells (iz b l) 134)
 obtain⟨c0,c1⟩:=lr h1
 have MM:=hQQ m1
 unfold ls
 clear h1 m1
 cases hb:decide (0<b) with
 |true =>
  have d0:decide (0<b)=true:=hb
  go_enter Tryz.func109,Tryz.ntmps109
  go_wp2_with fail
  go_ret
  exact⟨rfl,MM.o⟩
 |false =>
  have d0:decide (0<b)=false:=hb
  go_enter Tryz.func109,Tryz.ntmps109
  go_wp2_with fail
  go_ret
  exact⟨rfl,MM.o⟩
def jR (b l:Int):Int:=if ls b l=true then min l (wrap64 (9223372036854775807-b)) else 0
theorem Ee (b l:Int)(w:World):Calls Tryz.prog 110 #[.agg (iz b l)] w (aP w (.int .i64 (jR b l))):=by
 obtain⟨w1,e1,h1,m1,s1⟩:=a6 w (.cells (iz b l) 134)
 obtain⟨c0,c1⟩:=lr h1
 have MM:=hQQ m1
 unfold jR
 have TH:=hQQ (Aj b l w1)
 have H1:=hQQ h1
 clear h1 m1
 cases hb:ls b l with
 |true =>
  rw[hb] at TH
  rw[if_pos rfl]
  clear hb
  go_enter Tryz.func110,Tryz.ntmps110
  go_wp2_with fail
  refine TH.o.mono ?_
  rintro e w2 ⟨rfl,h2⟩
  obtain⟨d0,d1⟩:=lr (h2.block H1.o)
  have M2:=hQQ (MM.o.trans h2)
  clear h2 c0 c1
  go_wp2_with fail
  go_ret
  exact⟨rfl,M2.o⟩
 |false =>
  rw[hb] at TH
  rw[if_neg (by simp)]
  clear hb
  go_enter Tryz.func110,Tryz.ntmps110
  go_wp2_with fail
  refine TH.o.mono ?_
  rintro e w2 ⟨rfl,h2⟩
  have M2:=hQQ (MM.o.trans h2)
  clear h2
  go_wp2_with fail
  go_ret
  exact⟨rfl,M2.o⟩
theorem lw {x:Int}(h0: -9223372036854775808≤x)(h1:x≤9223372036854775807):wrap64 x=x:=by unfold wrap64;omega
theorem wu {b l:Int}{n:Nat}(H:dY b l n):jR b l=l:=by
 have h1:=H.b1;have h0:=H.l0;have hh:=H.hi;have ht:=H.top
 unfold jR ls
 rw[if_pos (by simp;omega),lw (by omega) (by omega)];omega
def pP (b l k:Int):Int:=if k<0∨jR b l≤k then 0 else wrap64 (wrap64 (b+1)+k)
theorem qP {b l k:Int}{n:Nat}(H:dY b l n):pP b l k=dt b l k:=by
 have h1:=H.b1;have h0:=H.l0;have hh:=H.hi;have ht:=H.top
 unfold pP dt
 rw[wu H]
 split
 ·rfl
 ·rw[lw (x:=b+1) (by omega) (by omega),lw (by omega) (by omega)]
theorem xY (b l k:Int)(w:World):Calls Tryz.prog 84 #[.agg (iz b l),.int .i64 k] w (aP w (.int .i64 (pP b l k))):=by
 obtain⟨w1,e1,h1,m1,s1⟩:=a6 w (.cells (iz b l) 134)
 obtain⟨c0,c1⟩:=lr h1
 have MM:=hQQ m1
 unfold pP
 have MO:=hQQ (Ee b l w1)
 have H1:=hQQ h1
 clear h1 m1
 by_cases k0:k<0
 ·have d0:decide (k<0)=true:=by simp[k0]
  rw[if_pos (.inl k0)]
  clear k0
  go_enter Tryz.func84,Tryz.ntmps84
  go_wp2_with fail
  go_ret
  exact⟨rfl,MM.o⟩
 ·have d0:decide (k<0)=false:=by simp;omega
  by_cases k1:jR b l≤k
  ·rw[if_pos (.inr k1)]
   generalize jR b l=mo at *
   have d1:decide (mo≤k)=true:=by simp[k1]
   clear k0 k1
   go_enter Tryz.func84,Tryz.ntmps84
   go_wp2_with fail
   refine MO.o.mono ?_
   rintro e w2 ⟨rfl,h2⟩
   have M2:=hQQ (MM.o.trans h2)
   clear h2
   go_wp2_with fail
   go_ret
   exact⟨rfl,M2.o⟩
  ·rw[if_neg (by omega)]
   generalize jR b l=mo at *
   have d1:decide (mo≤k)=false:=by simp;omega
   clear k0 k1
   go_enter Tryz.func84,Tryz.ntmps84
   go_wp2_with fail
   refine MO.o.mono ?_
   rintro e w2 ⟨rfl,h2⟩
   obtain⟨e0,e1⟩:=lr (h2.block H1.o)
   have M2:=hQQ (MM.o.trans h2)
   clear h2 c0 c1
   go_wp2_with fail
   go_ret
   exact⟨rfl,M2.o⟩
theorem Lb (b l k:Int)(w:World):Calls Tryz.prog 115 #[.agg (iz b l),.int .i64 k] w (aP w (.int .i64 (pP b l (wrap64 (k-1))))):=by
 obtain⟨w1,e1,h1,m1,s1⟩:=a6 w (.cells (iz b l) 134)
 obtain⟨c0,c1⟩:=lr h1
 have MM:=hQQ m1
 clear h1 m1
 go_enter Tryz.func115,Tryz.ntmps115
 go_wp2_with fail
 refine(xY b l _ _).mono ?_
 rintro e w2 ⟨rfl,h2⟩
 have M2:=hQQ (MM.o.trans h2)
 clear h2
 go_wp2_with fail
 go_ret
 exact⟨rfl,M2.o⟩
theorem xZ {b l:Int}{n:Nat}(H:dY b l n)(F:Nat→Prop)(p:Nat)(kn:Int→Option Int)(D:List KV)(w:World)(hv:aD w F p kn D)(hk:OkK kn)(hD:cC n D):
 Calls Tryz.prog 83 #[.agg (iz b l),.pointer (some ⟨p,0,none⟩)] w (aG w F p kn (fun x=> .int .i64 x) (jO b l kn D)):=by
 obtain⟨Rr,hRr⟩:∃Rr,jO b l kn D=Rr:=⟨_,rfl⟩
 rw[hRr]
 obtain⟨w1,e1,hl1,m1,s1⟩:=a6 w (.cells (iz b l) 134)
 obtain⟨c0,c1⟩:=lr hl1
 have nFl:¬F w.heap.size:=fun q=>by have:=hv.lt _ q;omega
 have MM:=hQQ m1
 have L0:=hQQ hl1
 have M0:=m0Z (hv.more m1) hD
 have KL:Hq (∀wr D' F',MidV w1 wr F (fun _=>False) p kn n D' F'→wr.heap[w.heap.size]?=some (.cells (iz b l) 134 (0,0))):=hQQ fun wr D' F' h=>eT h L0.o nFl (fun q=>q)
 have NEED:=ndZ (F:=F) (p:=p) (kn:=kn) (R:=Rr) (fun x:Int=>Value.int .i64 x) MM.o
 have DONE:=dnZ (F:=F) (p:=p) (n:=n) (kn:=kn) (R:=Rr) (fun x:Int=>Value.int .i64 x) MM.o
 have h1:=H.b1;have h0:=H.l0;have hh:=H.hi;have ht:=H.top
 have TH:=Aj b l w1
 rw[show ls b l=true by unfold ls;simp;omega] at TH
 have TH:=hQQ TH
 have MO:=hQQ (fun w'=>(wu H)▸Ee b l w')
 have HK:=hQQ hk
 have HRr:=hQQ hRr
 clear hl1 m1 hv hD hk nFl hRr
 go_enter Tryz.func83,Tryz.ntmps83
 go_wp2_with fail
 refine TH.o.mono ?_
 rintro e w2 ⟨rfl,h2⟩
 have M2:=hQQ (M0.o.more h2)
 obtain⟨d0,d1⟩:=lr (KL.o _ _ _ M2.o)
 clear h2 c0 c1
 go_wp2_with fail
 refine(jj F p kn D b w2 M2.o.view (by unfold W64;omega)).mono ?_
 intro e w3 he
 rcases M2.o.step (ae.refl _) HK.o (bb n (by omega)) he with⟨a',hE,rfl,hd',ht',_⟩|⟨y,D3,F3,hE,rfl,M3,hq3,_,_⟩
 ·exact⟨rfl,NEED.o a' w3 (HRr.o.symm.trans (ag hE)) hd' ht'⟩
 have FIN:=hQQ (DONE.o (aX l y) w3 D3 F3 (HRr.o.symm.trans (aj hE)) M3)
 have DON:=hQQ (fun w4 (h4:ae w3 w4)=>DONE.o (aX l y) w4 D3 F3 (HRr.o.symm.trans (aj hE)) (M3.more h4))
 obtain⟨f0,f1⟩:=lr (KL.o _ _ _ M3)
 have M3:=hQQ M3
 clear he hE d0 d1
 by_cases y0:0≤y
 ·have g0:decide (0≤y)=true:=by simp[y0]
  by_cases y1:y≤l
  ·have g1:decide (y≤l)=true:=by simp[y1]
   rw[show aX l y=y by unfold aX;rw[if_pos ⟨y0,y1⟩]] at DON
   clear y0 y1 FIN
   go_wp2_with fail
   refine(MO.o _).mono ?_
   rintro e w4 ⟨rfl,h4⟩
   have D4:=hQQ (DON.o w4 h4)
   clear h4
   go_wp2_with fail
   go_ret
   exact D4.o
  ·have g1:decide (y≤l)=false:=by simp;omega
   rw[show aX l y=0 by unfold aX;rw[if_neg (by omega)]] at DON
   clear y0 y1 FIN
   go_wp2_with fail
   refine(MO.o _).mono ?_
   rintro e w4 ⟨rfl,h4⟩
   have D4:=hQQ (DON.o w4 h4)
   clear h4
   go_wp2_with fail
   go_ret
   exact D4.o
 ·have g0:decide (0≤y)=false:=by simp;omega
  rw[show aX l y=0 by unfold aX;rw[if_neg (by omega)]] at FIN
  clear y0 DON
  go_wp2_with fail
  go_ret
  exact FIN.o
theorem Ak {b l:Int}{n:Nat}(H:dY b l n)(F:Nat→Prop)(p:Nat)(kn:Int→Option Int)(D:List KV)(w:World)(hv:aD w F p kn D)(hk:OkK kn)(hD:cC n D):
 Calls Tryz.prog 114 #[.agg (iz b l),.pointer (some ⟨p,0,none⟩),.func (.func 84) #[] #[]] w (aG w F p kn (fun x:Int×Int=> .tuple #[.int .i64 x.1,.int .i64 x.2]) (j1 true b l kn D)):=by
 obtain⟨Rr,hRr⟩:∃Rr,j1 true b l kn D=Rr:=⟨_,rfl⟩
 rw[hRr]
 obtain⟨w1,e1,hl1,m1,s1⟩:=a6 w (.cells (iz b l) 134)
 obtain⟨c0,c1⟩:=lr hl1
 have nFl:¬F w.heap.size:=fun q=>by have:=hv.lt _ q;omega
 have MM:=hQQ m1
 have L0:=hQQ hl1
 have M0:=m0Z (hv.more m1) hD
 have KL:Hq (∀wr D' F',MidV w1 wr F (fun _=>False) p kn n D' F'→wr.heap[w.heap.size]?=some (.cells (iz b l) 134 (0,0))):=hQQ fun wr D' F' h=>eT h L0.o nFl (fun q=>q)
 have NEED:=ndZ (F:=F) (p:=p) (kn:=kn) (R:=Rr) (fun x:Int×Int=>Value.tuple #[.int .i64 x.1,.int .i64 x.2]) MM.o
 have DONE:Hq (∀(x:Int×Int) w2 D' F',Rr=.ok x D'→MidV w1 w2 F (fun _=>False) p kn n D' F'→aG w F p kn (fun x:Int×Int=>Value.tuple #[.int .i64 x.1,.int .i64 x.2]) Rr (.returned (.tuple #[.int .i64 x.1,.int .i64 x.2])) w2):=hQQ fun x w2 D' F' e h=>fB MM.o (fun _ q=>q.elim) h e
 have h1:=H.b1;have h0:=H.l0;have hh:=H.hi;have ht:=H.top
 have HK:=hQQ hk
 have HH:=hQQ H
 have HRr:=hQQ hRr
 clear hl1 m1 hv hD hk nFl hRr
 go_enter Tryz.func114,Tryz.ntmps114
 go_wp2_with fail
 refine(xZ HH.o F p kn D w1 M0.o.view HK.o M0.o.inv).mono ?_
 intro e w3 he
 rcases M0.o.step (ae.refl _) HK.o (gt HH.o) he with⟨a',hE,rfl,hd',ht',_⟩|⟨y,D3,F3,hE,rfl,M3,hq3,_,_⟩
 ·exact⟨rfl,NEED.o a' w3 (HRr.o.symm.trans (ag hE)) hd' ht'⟩
 have DON:=hQQ (fun w4 (h4:ae w3 w4)=>DONE.o (y,dt b l (if true then y else y-1)) w4 D3 F3 (HRr.o.symm.trans (aj hE)) (M3.more h4))
 obtain⟨d0,d1⟩:=lr (KL.o _ _ _ M3)
 have hy0:=hq3.1
 have hy1:=hq3.2
 have W0:=hQQ (qP (k:=y) HH.o)
 have q1:=lw (x:=y-1) (by omega) (by omega)
 clear he hE c0 c1 hq3 M3
 go_wp2_with fail
 refine(xY b l _ _).mono ?_
 rw[W0.o]
 rintro e w4 ⟨rfl,h4⟩
 have D4:=hQQ (DON.o w4 h4)
 clear h4
 go_wp2_with fail
 go_ret2
 exact D4.o
theorem Al {b l:Int}{n:Nat}(H:dY b l n)(F:Nat→Prop)(p:Nat)(kn:Int→Option Int)(D:List KV)(w:World)(hv:aD w F p kn D)(hk:OkK kn)(hD:cC n D):
 Calls Tryz.prog 114 #[.agg (iz b l),.pointer (some ⟨p,0,none⟩),.func (.func 115) #[] #[]] w (aG w F p kn (fun x:Int×Int=> .tuple #[.int .i64 x.1,.int .i64 x.2]) (j1 false b l kn D)):=by
 obtain⟨Rr,hRr⟩:∃Rr,j1 false b l kn D=Rr:=⟨_,rfl⟩
 rw[hRr]
 obtain⟨w1,e1,hl1,m1,s1⟩:=a6 w (.cells (iz b l) 134)
 obtain⟨c0,c1⟩:=lr hl1
 have nFl:¬F w.heap.size:=fun q=>by have:=hv.lt _ q;omega
 have MM:=hQQ m1
 have L0:=hQQ hl1
 have M0:=m0Z (hv.more m1) hD
 have KL:Hq (∀wr D' F',MidV w1 wr F (fun _=>False) p kn n D' F'→wr.heap[w.heap.size]?=some (.cells (iz b l) 134 (0,0))):=hQQ fun wr D' F' h=>eT h L0.o nFl (fun q=>q)
 have NEED:=ndZ (F:=F) (p:=p) (kn:=kn) (R:=Rr) (fun x:Int×Int=>Value.tuple #[.int .i64 x.1,.int .i64 x.2]) MM.o
 have DONE:Hq (∀(x:Int×Int) w2 D' F',Rr=.ok x D'→MidV w1 w2 F (fun _=>False) p kn n D' F'→aG w F p kn (fun x:Int×Int=>Value.tuple #[.int .i64 x.1,.int .i64 x.2]) Rr (.returned (.tuple #[.int .i64 x.1,.int .i64 x.2])) w2):=hQQ fun x w2 D' F' e h=>fB MM.o (fun _ q=>q.elim) h e
 have h1:=H.b1;have h0:=H.l0;have hh:=H.hi;have ht:=H.top
 have HK:=hQQ hk
 have HH:=hQQ H
 have HRr:=hQQ hRr
 clear hl1 m1 hv hD hk nFl hRr
 go_enter Tryz.func114,Tryz.ntmps114
 go_wp2_with fail
 refine(xZ HH.o F p kn D w1 M0.o.view HK.o M0.o.inv).mono ?_
 intro e w3 he
 rcases M0.o.step (ae.refl _) HK.o (gt HH.o) he with⟨a',hE,rfl,hd',ht',_⟩|⟨y,D3,F3,hE,rfl,M3,hq3,_,_⟩
 ·exact⟨rfl,NEED.o a' w3 (HRr.o.symm.trans (ag hE)) hd' ht'⟩
 have DON:=hQQ (fun w4 (h4:ae w3 w4)=>DONE.o (y,dt b l (if false then y else y-1)) w4 D3 F3 (HRr.o.symm.trans (aj hE)) (M3.more h4))
 obtain⟨d0,d1⟩:=lr (KL.o _ _ _ M3)
 have hy0:=hq3.1
 have hy1:=hq3.2
 have W0:=hQQ (qP (k:=y-1) HH.o)
 have q1:=lw (x:=y-1) (by omega) (by omega)
 clear he hE c0 c1 hq3 M3
 go_wp2_with fail
 refine(Lb b l _ _).mono ?_
 rw[q1,W0.o]
 rintro e w4 ⟨rfl,h4⟩
 have D4:=hQQ (DON.o w4 h4)
 clear h4
 go_wp2_with fail
 go_ret2
 exact D4.o
theorem Lc {b l:Int}{n:Nat}(H:dY b l n)(F:Nat→Prop)(p:Nat)(kn:Int→Option Int)(D:List KV)(x:Int)(hx:W64 x)(w:World)(hv:aD w F p kn D)(hk:OkK kn)(hD:cC n D):
 Calls Tryz.prog 104 #[.pointer (some ⟨p,0,none⟩),.int .i64 b,.int .i64 l,.int .i64 x] w (aG w F p kn (fun b=> .bool b) (jP b l x kn D)):=by
 obtain⟨Rr,hRr⟩:∃Rr,jP b l x kn D=Rr:=⟨_,rfl⟩
 rw[hRr]
 have M0:Hq (MidV w w F (fun _=>False) p kn n D F):=hQQ (MidV.begin hv hD)
 have MM:=hQQ (ae.refl w)
 have NEED:Hq (∀a w2,Rr=.need a→bB w2 p a→Turned (fun b=>F b∨False) w w2→aG w F p kn (fun x:Bool=>Value.bool x) Rr (.panicked (bg p)) w2):=hQQ fun a w2 e hd ht=>ji MM.o (fun _ q=>q.elim) e hd ht
 have DONE:Hq (∀x w2 D' F',Rr=.ok x D'→MidV w w2 F (fun _=>False) p kn n D' F'→aG w F p kn (fun x:Bool=>Value.bool x) Rr (.returned ((fun x:Bool=>Value.bool x) x)) w2):=hQQ fun x w2 D' F' e h=>fB MM.o (fun _ q=>q.elim) h e
 have h1:=H.b1;have h0:=H.l0;have hh:=H.hi;have ht:=H.top
 have HX:=hQQ hx
 have HK:=hQQ hk
 have HH:=hQQ H
 have HRr:=hQQ hRr
 clear hv hD hk hRr hx
 go_enter Tryz.func104,Tryz.ntmps104
 go_wp2_with fail
 refine(Ak HH.o F p kn D w M0.o.view HK.o M0.o.inv).mono ?_
 intro e w3 he
 rcases M0.o.step (ae.refl _) HK.o (li HH.o true) he with⟨a',hE,rfl,hd',ht',_⟩|⟨y,D3,F3,hE,rfl,M3,hq3,_,_⟩
 ·exact⟨rfl,NEED.o a' w3 (HRr.o.symm.trans (ag hE)) hd' ht'⟩
 obtain⟨y,z⟩:=y
 obtain⟨q0,q1,q2⟩:=hq3
 simp only at q0 q1 q2
 have R3:=hQQ ((aj hE).symm.trans HRr.o)
 have M3:=hQQ M3
 clear he hE
 by_cases z0:z=0
 ·have FIN:=hQQ (DONE.o false w3 D3 F3 (by have:=R3.o;rw[if_pos z0] at this;exact this.symm) M3.o)
  have g0:(z==0)=true:=by simp[z0]
  clear z0 R3 q2
  go_wp2_with fail
  go_ret
  exact FIN.o
 ·have g0:(z==0)=false:=by simp[z0]
  have R3':=R3.o
  simp only[] at R3'
  rw[if_neg z0] at R3'
  have RB:=hQQ R3'
  clear R3' R3
  have q3:=hQQ (q2.resolve_left z0)
  have q4:=lw (x:=y+1) (by omega) (by omega)
  clear z0 q2
  go_wp2_with fail
  refine(dk F3 p kn D3 z x w3 M3.o.view (by have:=M3.o.inv.len;omega)).mono ?_
  intro e w4 he
  rcases M3.o.step (ae.refl _) HK.o (aQ n (by have:=q3.o;unfold W64;omega) (by have:=q3.o;omega) HX.o) he with⟨a',hE,rfl,hd',ht',_⟩|⟨x4,D4,F4,hE,rfl,M4,hq4,_,_⟩
  ·exact⟨rfl,NEED.o a' w4 (RB.o.symm.trans (ag hE)) hd' ht'⟩
  have R4:=hQQ ((aj hE).symm.trans RB.o)
  have M4:=hQQ M4
  clear he hE
  go_wp2_with fail
  refine(dk F4 p kn D4 b (y+1) w4 M4.o.view (by have:=M4.o.inv.len;omega)).mono ?_
  intro e w5 he
  rcases M4.o.step (ae.refl _) HK.o (aQ n (by unfold W64;omega) (by omega) (by unfold W64;omega)) he with⟨a',hE,rfl,hd',ht',_⟩|⟨x5,D5,F5,hE,rfl,M5,hq5,_,_⟩
  ·exact⟨rfl,NEED.o a' w5 (R4.o.symm.trans (ag hE)) hd' ht'⟩
  have FIN:=hQQ (DONE.o true w5 D5 F5 (by have:=(aj hE).symm.trans R4.o;exact this.symm) M5)
  clear he hE
  go_wp2_with fail
  go_ret
  exact FIN.o
theorem Jh {b l:Int}{n:Nat}(H:dY b l n)(F:Nat→Prop)(p:Nat)(kn:Int→Option Int)(D:List KV)(w:World)(hv:aD w F p kn D)(hk:OkK kn)(hD:cC n D):
 Calls Tryz.prog 89 #[.pointer (some ⟨p,0,none⟩),.int .i64 b,.int .i64 l] w (aG w F p kn (fun x:Int×Bool=> .tuple #[.int .i64 x.1,.bool x.2]) (d8 b l kn D)):=by
 obtain⟨Rr,hRr⟩:∃Rr,d8 b l kn D=Rr:=⟨_,rfl⟩
 rw[hRr]
 have M0:Hq (MidV w w F (fun _=>False) p kn n D F):=hQQ (MidV.begin hv hD)
 have MM:=hQQ (ae.refl w)
 have NEED:Hq (∀a w2,Rr=.need a→bB w2 p a→Turned (fun b=>F b∨False) w w2→aG w F p kn (fun x:Int×Bool=>Value.tuple #[.int .i64 x.1,.bool x.2]) Rr (.panicked (bg p)) w2):=hQQ fun a w2 e hd ht=>ji MM.o (fun _ q=>q.elim) e hd ht
 have DONE:Hq (∀(x:Int×Bool) w2 D' F',Rr=.ok x D'→MidV w w2 F (fun _=>False) p kn n D' F'→aG w F p kn (fun x:Int×Bool=>Value.tuple #[.int .i64 x.1,.bool x.2]) Rr (.returned (.tuple #[.int .i64 x.1,.bool x.2])) w2):=hQQ fun x w2 D' F' e h=>fB MM.o (fun _ q=>q.elim) h e
 have h1:=H.b1;have h0:=H.l0;have hh:=H.hi;have ht:=H.top
 have HK:=hQQ hk
 have HH:=hQQ H
 have HRr:=hQQ hRr
 clear hv hD hk hRr
 go_enter Tryz.func89,Tryz.ntmps89
 go_wp2_with fail
 refine(Al HH.o F p kn D w M0.o.view HK.o M0.o.inv).mono ?_
 intro e w3 he
 rcases M0.o.step (ae.refl _) HK.o (li HH.o false) he with⟨a',hE,rfl,hd',ht',_⟩|⟨y,D3,F3,hE,rfl,M3,hq3,_,_⟩
 ·exact⟨rfl,NEED.o a' w3 (HRr.o.symm.trans (ag hE)) hd' ht'⟩
 obtain⟨y,z⟩:=y
 obtain⟨q0,q1,q2⟩:=hq3
 simp only at q0 q1 q2
 have R3:=hQQ ((aj hE).symm.trans HRr.o)
 have M3:=hQQ M3
 clear he hE
 by_cases z0:z=0
 ·have FIN:=hQQ (DONE.o (0,false) w3 D3 F3 (by have:=R3.o;rw[if_pos z0] at this;exact this.symm) M3.o)
  have g0:(z==0)=true:=by simp[z0]
  clear z0 R3 q2
  go_wp2_with fail
  go_ret2
  exact FIN.o
 ·have g0:(z==0)=false:=by simp[z0]
  have R3':=R3.o
  simp only[] at R3'
  rw[if_neg z0] at R3'
  have RB:=hQQ R3'
  clear R3' R3
  have q3:=hQQ (q2.resolve_left z0)
  have q4:=lw (x:=y-1) (by omega) (by omega)
  clear z0 q2
  go_wp2_with fail
  refine(jj F3 p kn D3 z w3 M3.o.view (by have:=q3.o;unfold W64;omega)).mono ?_
  intro e w4 he
  rcases M3.o.step (ae.refl _) HK.o (bb n (by have:=q3.o;omega)) he with⟨a',hE,rfl,hd',ht',_⟩|⟨x4,D4,F4,hE,rfl,M4,hq4,_,_⟩
  ·exact⟨rfl,NEED.o a' w4 (RB.o.symm.trans (ag hE)) hd' ht'⟩
  have R4:=hQQ ((aj hE).symm.trans RB.o)
  have M4:=hQQ M4
  clear he hE
  go_wp2_with fail
  refine(dk F4 p kn D4 b (y-1) w4 M4.o.view (by have:=M4.o.inv.len;omega)).mono ?_
  intro e w5 he
  rcases M4.o.step (ae.refl _) HK.o (aQ n (by unfold W64;omega) (by omega) (by unfold W64;omega)) he with⟨a',hE,rfl,hd',ht',_⟩|⟨x5,D5,F5,hE,rfl,M5,hq5,_,_⟩
  ·exact⟨rfl,NEED.o a' w5 (R4.o.symm.trans (ag hE)) hd' ht'⟩
  have FIN:=hQQ (DONE.o (x4,true) w5 D5 F5 (by have:=(aj hE).symm.trans R4.o;exact this.symm) M5)
  clear he hE
  go_wp2_with fail
  go_ret2
  exact FIN.o
inductive WayD where
 |room (b l:Int)
 |home
def jw (n:Nat):WayD→Prop
 | .room b l=>dY b l n
 | .home=>True
section
variable (us pg st:Int)
def Am:WayD→Int→Prg Bool
 | .room b l,a=>jP b l a
 | .home,a=>rn us pg st a
def lI:List WayD→Int→Prg Unit
 | [],_=>ay ()
 |y::t,a=>ak (Am us pg st y a) fun b=>if b then ay () else lI t a
def dF (wy:List WayD)(k:Int):Nat→(Nat→List Int)→Prg (Nat→List Int)
 | 0,P=>ay P
 |m+1,P=>if gI P k then ak (lI us pg st wy (hU P k)) fun _=>dF wy k m (gO P k) else ay P
def kC (wy:List WayD)(b l:Int):Nat→Prg Unit
 | 0=>ay ()
 |m+1=>ak (d8 b l) fun x=>if x.2 then ak (lI us pg st wy x.1) fun _=>kC wy b l m else ay ()
def eY (wy:List WayD):List (Int×Int)→Prg Unit
 | []=>ay ()
 |s::t=>ak (kC us pg st wy s.1 s.2 (s.2.toNat+1)) fun _=>eY wy t
def ui:WayD→Int→List Int→Bool×List Int
 | .room b l,a,ws=>cF b l a ws
 | .home,a,ws=>gR us pg st a ws
def oL:List WayD→Int→List Int→List Int
 | [],_,ws=>ws
 |y::t,a,ws=>if(ui us pg st y a ws).1 then(ui us pg st y a ws).2 else oL t a (ui us pg st y a ws).2
def ia (wy:List WayD)(k:Int):Nat→(Nat→List Int)→List Int→(Nat→List Int)×List Int
 | 0,P,ws=>(P,ws)
 |m+1,P,ws=>if gI P k then ia wy k m (gO P k) (oL us pg st wy (hU P k) ws) else(P,ws)
def rt (wy:List WayD)(b l:Int):Nat→List Int→List Int
 | 0,ws=>ws
 |m+1,ws=>if(aY b l ws).1.2 then rt wy b l m (oL us pg st wy (aY b l ws).1.1 (aY b l ws).2) else(aY b l ws).2
def nG (wy:List WayD):List (Int×Int)→List Int→List Int
 | [],ws=>ws
 |s::t,ws=>nG wy t (rt us pg st wy s.1 s.2 (s.2.toNat+1) ws)
theorem Gc (y:WayD)(a:Int):bh (Am us pg st y a):=by
 cases y with
 |room b l=>exact xU _ _ _
 |home=>exact Ch _ _ _ _
theorem qQ:∀(wy:List WayD) (a:Int),bh (lI us pg st wy a)
 | [],a=>ah _
 |y::t,a=>aq (Gc us pg st y a) fun b=>aH (ah _) (qQ t a)
theorem mH (wy:List WayD)(k:Int):∀(m:Nat) (P:Nat→List Int),bh (dF us pg st wy k m P)
 | 0,P=>ah _
 |m+1,P=>aH (aq (qQ us pg st _ _) fun _=>mH wy k m _) (ah _)
theorem uj (wy:List WayD)(b l:Int):∀m,bh (kC us pg st wy b l m)
 | 0=>ah _
 |m+1=>aq (rp _ _) fun x=>aH (aq (qQ us pg st _ _) fun _=>uj wy b l m) (ah _)
theorem pQ (wy:List WayD):∀t,bh (eY us pg st wy t)
 | []=>ah _
 |s::t=>aq (uj us pg st _ _ _ _) fun _=>pQ wy t
end
theorem jS (P:Nat→List Int)(k:Nat)(xs:List Int):c6 P k xs k=xs:=by simp[c6]
def pR (P:Nat→List Int):Prop:=∀j,j<5→∀a∈P j,W64 a
theorem uk {P:Nat→List Int}(h:pR P){k:Int}(e:gI P k=true):W64 (hU P k):=by
 have e':=e
 unfold gI at e'
 have hl:0<cV P k:=by simpa using e'
 unfold cV at hl
 split at hl
 ·rename_i hb
  obtain⟨j,rfl,hj⟩:=mE hb
  unfold hU
  rw[if_pos e]
  simp only[Int.toNat_natCast] at hl⊢
  refine h j hj _ ?_
  rw[List.getD_eq_getElem?_getD,List.getElem?_eq_getElem (by omega)]
  exact List.getElem_mem _
 ·omega
theorem ul {P:Nat→List Int}(h:pR P)(k:Int):pR (gO P k):=fun j hj a ha=>by
 unfold gO at ha
 split at ha
 ·simp only at ha
  split at ha
  ·exact h j hj a (List.mem_of_mem_take ha)
  ·exact h j hj a ha
 ·exact h j hj a ha
theorem um (P:Nat→List Int)(k:Int)(j:Nat):(gO P k j).length≤(P j).length:=by
 unfold gO
 split
 ·simp only
  split
  ·simp
  ·exact Nat.le_refl _
 ·exact Nat.le_refl _
theorem oM {α β:Type}{n:Nat}{p:Prg α}{f:α→Prg β}{g:List Int→α×List Int}{k:α→List Int→β×List Int}{Q:α→Prop}(h:bJ n p g)(G:bQ n Q p)(hf:∀x,Q x→bJ n (f x) (k x)):bJ n (ak p f) (fun ws=>k (g ws).1 (g ws).2):=fun zs D hn hz hD=>by
 obtain⟨D1,e1,a1,i1⟩:=h zs D hn hz hD
 obtain⟨D2,e2,a2,i2⟩:=hf (g (bZ zs D)).1 (G.ok (jG hz) hD e1).2 zs D1 hn hz i1
 refine⟨D2,?_,?_,i2⟩
 ·rw[aj e1,e2,a1]
 ·rw[a2,a1]
section
variable {us pg st:Int}{n:Nat}(H:cB pg st n)
include H
theorem uo {y:WayD}(hy:jw n y){a:Int}(ha:W64 a):bQ n (fun _=>True) (Am us pg st y a):=by
 cases y with
 |room b l=>exact Ae hy ha
 |home=>exact vU H us a
theorem pS {a:Int}(ha:W64 a):∀ {wy:List WayD},(∀y∈wy,jw n y)→bQ n (fun _=>True) (lI us pg st wy a)
 | [],_=>ai n trivial
 |y::t,h=>ar (uo H (h y (by simp)) ha) fun b _=>aO (fun _=>ai n trivial) (fun _=>pS ha fun z hz=>h z (by simp[hz]))
theorem uq {wy:List WayD}(hy:∀y∈wy,jw n y)(k:Int):∀(m:Nat) (P:Nat→List Int),pR P→bQ n (fun P'=>pR P'∧∀j,(P' j).length≤(P j).length) (dF us pg st wy k m P)
 | 0,P,h=>ai n ⟨h,fun _=>Nat.le_refl _⟩
 |m+1,P,h=>aO (fun e=>ar (pS H (uk h e) hy) fun _ _=>de (uq hy k m _ (ul h k)) fun P' q=>⟨q.1,fun j=>Nat.le_trans (q.2 j) (um P k j)⟩) (fun _=>ai n ⟨h,fun _=>Nat.le_refl _⟩)
theorem wv {wy:List WayD}(hy:∀y∈wy,jw n y){b l:Int}(hs:dY b l n):∀m,bQ n (fun _=>True) (kC us pg st wy b l m)
 | 0=>ai n trivial
 |m+1=>ar (hH hs) fun x hx=>aO (fun _=>ar (pS H hx hy) fun _ _=>wv hy hs m) (fun _=>ai n trivial)
theorem ru {wy:List WayD}(hy:∀y∈wy,jw n y):∀t:List (Int×Int),(∀s∈t,dY s.1 s.2 n)→bQ n (fun _=>True) (eY us pg st wy t)
 | [],_=>ai n trivial
 |s::t,h=>ar (wv H hy (h s (by simp)) _) fun _ _=>ru hy t fun z hz=>h z (by simp[hz])
theorem Ji {y:WayD}(hy:jw n y){a:Int}(ha:W64 a):bJ n (Am us pg st y a) (ui us pg st y a):=by
 cases y with
 |room b l=>exact rr hy ha
 |home=>exact wg H us a
theorem ur {a:Int}(ha:W64 a):∀ {wy:List WayD},(∀y∈wy,jw n y)→bJ n (lI us pg st wy a) (fun ws=>((),oL us pg st wy a ws))
 | [],_=>au n _
 |y::t,h=>by
  refine aU (aA (Ji H (h y (by simp)) ha) fun b=>bE (fun _=>au n ()) (fun _=>ur ha fun z hz=>h z (by simp[hz]))) fun ws _=>?_
  show _=((),oL us pg st (y::t) a ws)
  have e:oL us pg st (y::t) a ws=if(ui us pg st y a ws).1 then(ui us pg st y a ws).2 else oL us pg st t a (ui us pg st y a ws).2:=rfl
  rw[e]
  cases (ui us pg st y a ws).1<;>rfl
theorem oN {wy:List WayD}(hy:∀y∈wy,jw n y)(k:Int):∀(m:Nat) (P:Nat→List Int),pR P→bJ n (dF us pg st wy k m P) (fun ws=>ia us pg st wy k m P ws)
 | 0,P,h=>au n _
 |m+1,P,h=>by
  refine aU (bE (fun e=>aA (ur H (uk h e) hy) fun _=>oN hy k m _ (ul h k)) (fun _=>au n P)) fun ws _=>?_
  have e:ia us pg st wy k (m+1) P ws=if gI P k then ia us pg st wy k m (gO P k) (oL us pg st wy (hU P k) ws) else(P,ws):=rfl
  rw[e]
theorem ww {wy:List WayD}(hy:∀y∈wy,jw n y){b l:Int}(hs:dY b l n):∀m,bJ n (kC us pg st wy b l m) (fun ws=>((),rt us pg st wy b l m ws))
 | 0=>au n _
 |m+1=>by
  refine aU (oM (oH hs) (hH hs) fun x hx=>bE (fun _=>aA (ur H hx hy) fun _=>ww hy hs m) (fun _=>au n ())) fun ws _=>?_
  have e:rt us pg st wy b l (m+1) ws=if(aY b l ws).1.2 then rt us pg st wy b l m (oL us pg st wy (aY b l ws).1.1 (aY b l ws).2) else(aY b l ws).2:=rfl
  rw[e]
  cases (aY b l ws).1.2<;>rfl
theorem rv {wy:List WayD}(hy:∀y∈wy,jw n y):∀t:List (Int×Int),(∀s∈t,dY s.1 s.2 n)→bJ n (eY us pg st wy t) (fun ws=>((),nG us pg st wy t ws))
 | [],_=>au n _
 |s::t,h=>aA (ww H hy (h s (by simp)) _) fun _=>rv hy t fun z hz=>h z (by simp[hz])
end
section
variable (us pg st:Int)(S:Fam)(i0 i1:Nat)
theorem ut (a:Int)(ws:List Int):oL us pg st [.home] a ws=(gR us pg st a ws).2:=by
 have e:oL us pg st [.home] a ws=if(ui us pg st .home a ws).1 then(ui us pg st .home a ws).2 else(ui us pg st .home a ws).2:=rfl
 rw[e,ite_self];rfl
theorem Jj (a:Int)(ws:List Int):oL us pg st [.room (S.b i0) (S.l i0),.room (S.b i1) (S.l i1),.home] a ws=uh us pg st S i0 i1 a ws:=by
 have e:oL us pg st [.room (S.b i0) (S.l i0),.room (S.b i1) (S.l i1),.home] a ws=if(cF (S.b i0) (S.l i0) a ws).1 then(cF (S.b i0) (S.l i0) a ws).2
  else if(cF (S.b i1) (S.l i1) a (cF (S.b i0) (S.l i0) a ws).2).1 then(cF (S.b i1) (S.l i1) a (cF (S.b i0) (S.l i0) a ws).2).2
  else oL us pg st [.home] a (cF (S.b i1) (S.l i1) a (cF (S.b i0) (S.l i0) a ws).2).2:=rfl
 rw[e,ut];rfl
theorem uu (k:Nat):∀(m:Nat) (P:Nat→List Int) (ws:List Int),ia us pg st [.room (S.b i0) (S.l i0),.room (S.b i1) (S.l i1),.home] k m P ws=jQ us pg st S i0 i1 k m P ws
 | 0,P,ws=>rfl
 |m+1,P,ws=>by
  unfold ia jQ
  rw[Jj,uu k m]
theorem uv (x:Int):∀(l:List Int) (ws:List Int),iJ us pg st (l++ [x]) ws=iJ us pg st l (gR us pg st x ws).2
 | [],ws=>rfl
 |a::t,ws=>by
  show(gR us pg st a (iJ us pg st (t++ [x]) ws)).2=_
  rw[uv x t ws];rfl
theorem rx {k:Nat}(hk:k<5):∀(m:Nat) (P:Nat→List Int) (ws:List Int),(P k).length=m→ia us pg st [.home] k m P ws=(c6 P k [],iJ us pg st (P k) ws)
 | 0,P,ws,h=>by
   have e:=List.length_eq_zero_iff.1 h
   rw[e]
   have:c6 P k []=P:=by rw[←e];exact eN P k
   rw[this];rfl
 |m+1,P,ws,h=>by
  obtain⟨xs,x,e⟩:∃xs x,P k=xs++ [x]:=⟨(P k).dropLast,(P k).getLast (by intro q;rw[q] at h;simp at h),(List.dropLast_concat_getLast _).symm⟩
  obtain⟨e1,e2,e3⟩:=lm P hk e
  unfold ia
  rw[if_pos e1,e2,e3,ut,rx hk m _ _ (by rw[jS];rw[e] at h;simpa using h)]
  rw[lj,jS,e,uv]
theorem ry (b l:Int):∀(m:Nat) (ws:List Int),rt us pg st [.home] b l m ws=io us pg st b l m ws
 | 0,ws=>rfl
 |m+1,ws=>by
  unfold rt io
  rw[ut]
  split
  ·exact ry b l m _
  ·rename_i h
   unfold aY at h⊢
   simp only at h⊢
   by_cases q:0<aX l (wAt ws b)
   ·rw[if_pos q] at h;simp at h
   ·rw[if_neg q]
theorem rz (wy:List WayD)(s:Int×Int):∀(t:List (Int×Int)) (ws:List Int),nG us pg st wy (t++ [s]) ws=rt us pg st wy s.1 s.2 (s.2.toNat+1) (nG us pg st wy t ws)
 | [],ws=>rfl
 |z::t,ws=>rz wy s t _
def famL (S:Fam):Nat→List (Int×Int)
 | 0=> []
 |m+1=>famL S m++ [(S.b m,S.l m)]
theorem pT:∀(m:Nat) (ws:List Int),nG us pg st [.home] (famL S m) ws=oK us pg st S m ws
 | 0,ws=>rfl
 |m+1,ws=>by
  show nG us pg st [.home] (famL S m++ [(S.b m,S.l m)]) ws=_
  rw[rz,ry,pT m ws];rfl
theorem Ao {m:Nat}{s:Int×Int}(h:s∈famL S m):∃i,i<m∧s=(S.b i,S.l i):=by
 induction m with
 |zero=>cases h
 |succ m ih =>
  rcases List.mem_append.1 h with h|h
  ·obtain⟨i,hi,e⟩:=ih h;exact⟨i,by omega,e⟩
  ·exact⟨m,by omega,List.mem_singleton.1 h⟩
end
def PuN (O:Nat→Prop)(f:Nat→Value):Prop:=∀c,c<5→∀q,(f c).ownBlock=some q→O q
theorem PuN.mono {O O':Nat→Prop}{f:Nat→Value}(h:PuN O f)(m:∀q,O q→O' q):PuN O' f:=fun c hc q e=>m q (h c hc q e)
theorem PuN.nil (O:Nat→Prop):PuN O (fun _=> .slice none 0 0):=fun _ _ _ e=>by cases e
theorem Pu.lt {w:World}{f:Nat→Value}{P:Nat→List Int}(h:Pu w f P):PuN (fun q=>q<w.heap.size) f:=fun c hc q e=>by
 obtain⟨a,cap,hv,_,_,z⟩:=h c hc
 rw[hv] at e
 rcases z with⟨rfl,_⟩|⟨g,cur,rfl,hg,_⟩
 ·cases e
 ·cases e;exact ac hg
theorem Pu.off {w w':World}{f:Nat→Value}{P:Nat→List Int}{S:Nat→Prop}(h:Pu w f P)(n:PuN (fun q=>¬S q) f)(t:Turned S w w'):Pu w' f P:=fun c hc=>by
 obtain⟨a,cap,hv,h1,h2,z⟩:=h c hc
 refine⟨a,cap,hv,h1,h2,z.imp id ?_⟩
 rintro⟨g,cur,rfl,hg,r⟩
 exact⟨g,cur,rfl,(t.block g (ac hg) (n c hc g (by rw[hv];rfl))).trans hg,r⟩
def eF (w:World)(O:Nat→Prop)(P:Nat→List Int)(val:Value→Value)(e:Ending)(w':World):Prop:=∃f,e=.returned (val (.agg (puA f)))∧Pu w' f P∧ae w w'∧PuN (fun q=>O q∨w.heap.size≤q) f
theorem Ap (f:Nat→Value)(P:Nat→List Int)(k n:Nat)(w:World)(h:Pu w f P)(hk:k<5)(hn:n≤(P k).length)(hl:(P k).length≤1000000):
 Calls Tryz.prog 96 #[.agg (puA f),.int .i64 k,.int .i64 n] w (fun e w'=>∃a,e=.returned (.slice a n n)∧Rd w' (.slice a n n) ((P k).take n)∧ae w w'∧∀q,(Value.slice a n n).ownBlock=some q→(f k).ownBlock=some q):=by
 obtain⟨w1,e1,hl1,m1,s1⟩:=en1 w (.cells (puA f) 32)
 have M1:=hQQ m1
 obtain⟨a,⟨cap,hf,hc,h0⟩,hr⟩:=((h k hk).more m1).first hn
 have x1:w1.cell? ⟨w.heap.size,k,none⟩=some (.slice a (P k).length cap):=(ky hl1 hk).trans (by rw[hf])
 have HR:=hQQ hr
 have HO:Hq (∀q,(Value.slice a n n).ownBlock=some q→(f k).ownBlock=some q):=hQQ (fun q e=>by rw[hf];cases a<;>exact e)
 clear m1 h s1 hl1 hf hr
 have hm:=hk
 generalize (P k).length=m at *
 go_enter Tryz.func96,Tryz.ntmps96
 cases a with
 |none =>
  obtain rfl:=h0 rfl
  obtain rfl:n=0:=by omega
  go_wp2_with fail
  go_ret
  exact⟨_,rfl,HR.o,M1.o,HO.o⟩
 |some p =>
  clear h0
  go_wp2_with fail
  go_ret
  exact⟨_,rfl,HR.o,M1.o,HO.o⟩
theorem Cy (O:Nat→Prop)(f:Nat→Value)(P:Nat→List Int)(c a l:Int)(w:World)(h:Pu w f P)(ho:PuN O f)(hb:dS P c l=false):
 Calls Tryz.prog 67 #[.agg (puA f),.int .i64 c,.int .i64 a,.int .i64 l] w (eF w O P (fun v=> .tuple #[v,.bool false])):=by
 obtain⟨z0,hz0⟩:∃z:Array Value,z= #[.slice none 0 0,.slice none 0 0,.slice none 0 0,.slice none 0 0,.slice none 0 0]:=⟨_,rfl⟩
 obtain⟨w2,e2,hl1,hl2,m2,s2⟩:=en2 w (.cells (puA f) 32) (.cells #[.slice none 0 0,.slice none 0 0,.slice none 0 0,.slice none 0 0,.slice none 0 0] 32)
 have L1:=hQQ hl1
 have L2:=hQQ hl2
 have M2:=hQQ m2
 have HP:=hQQ (h.more m2)
 have HL:=hQQ (fun W (hW:ae w2 W)=>pO f P c W (HP.o.more hW))
 have HC:=hQQ (fun W=>nE c W)
 have H1:=hQQ h.all1
 have FIN:Hq (∀W,ae w2 W→eF w O P (fun v=> .tuple #[v,.bool false]) (.returned (.tuple #[.agg (puA f),.bool false])) (W.setRow (w.heap.size+1) (puA f))):=hQQ fun W hW =>
  ⟨f,rfl,(HP.o.more hW).keep (S:=fun k=>k=w.heap.size+1) (Turned.setRow (Turned.refl _ W) _ _ (fun _=>rfl)) (fun k q=>by subst q;exact⟨_,_,_,hW.block L2.o,by decide⟩),(M2.o.trans hW).setRow _ _ (by omega),ho.mono (fun _ z=> .inl z)⟩
 clear hl1 hl2 m2 h s2 ho
 cases hc:iO c with
 |false =>
  rw[hc] at HC
  rw[Eb P hc] at HL
  clear hc hb
  go_enter Tryz.func67,Tryz.ntmps67
  go_wp2_with (refine kE rfl rfl rfl L1.o (by kernel_rfl) ?_)
  refine(HL.o w2 (ae.refl _)).mono ?_
  rintro e w3 ⟨rfl,h3⟩
  have M3:=hQQ h3
  clear h3
  go_wp2_with fail
  refine(HC.o w3).mono ?_
  rintro e w4 ⟨rfl,h4⟩
  have M4:=hQQ (M3.o.trans h4)
  clear h4
  go_wp2_with (first|(refine kE rfl rfl rfl (M4.o.block L1.o) (by kernel_rfl) ?_)|(refine wpList_store_row rfl 32 _ _ rfl _ _ rfl rfl 32 _ (M4.o.block L2.o) (by kernel_rfl) rfl H1.o ?_))
  refine bodyPost_ret (v:=.tuple #[.agg (puA f),.bool false]) (xX Tryz.results67 _ _ _ 32 _ (0,0) _ rfl (setRow_heap _ _ _ _ _ _ (M4.o.block L2.o)) Tryz.underlying32 rfl (by kernel_rfl)) rfl (FIN.o _ M4.o)
 |true =>
  rw[hc] at HC
  obtain⟨n,hn⟩:∃n,cV P c=n:=⟨_,rfl⟩
  rw[hn] at HL
  have hb2:decide (l≤n)=true:=by simp[dS,hc,hn] at hb;simpa using hb
  clear hc hb hn
  go_enter Tryz.func67,Tryz.ntmps67
  go_wp2_with (refine kE rfl rfl rfl L1.o (by kernel_rfl) ?_)
  refine(HL.o w2 (ae.refl _)).mono ?_
  rintro e w3 ⟨rfl,h3⟩
  have M3:=hQQ h3
  clear h3
  go_wp2_with fail
  refine(HC.o w3).mono ?_
  rintro e w4 ⟨rfl,h4⟩
  have M4:=hQQ (M3.o.trans h4)
  clear h4
  go_wp2_with (first|(refine kE rfl rfl rfl (M4.o.block L1.o) (by kernel_rfl) ?_)|(refine wpList_store_row rfl 32 _ _ rfl _ _ rfl rfl 32 _ (M4.o.block L2.o) (by kernel_rfl) rfl H1.o ?_))
  refine bodyPost_ret (v:=.tuple #[.agg (puA f),.bool false]) (xX Tryz.results67 _ _ _ 32 _ (0,0) _ rfl (setRow_heap _ _ _ _ _ _ (M4.o.block L2.o)) Tryz.underlying32 rfl (by kernel_rfl)) rfl (FIN.o _ M4.o)
theorem Aq (O:Nat→Prop)(f:Nat→Value)(P:Nat→List Int)(k:Nat)(a l:Int)(w:World)(h:Pu w f P)(ho:PuN O f)(hk:k<5)(hl:(P k).length<l)(hL:(P k).length≤1000000):
 Calls Tryz.prog 67 #[.agg (puA f),.int .i64 k,.int .i64 a,.int .i64 l] w (eF w O (fun j=>if j=k then P j++ [a] else P j) (fun v=> .tuple #[v,.bool true])):=by
 obtain⟨w2,e2,hl1,hl2,m2,s2⟩:=en2 w (.cells (puA f) 32) (.cells #[.slice none 0 0,.slice none 0 0,.slice none 0 0,.slice none 0 0,.slice none 0 0] 32)
 have L1:=hQQ hl1
 have L2:=hQQ hl2
 have M2:=hQQ m2
 have HP:=hQQ (h.more m2)
 have HL:=hQQ (fun W (hW:ae w2 W)=>pO f P k W (HP.o.more hW))
 rw[dZ P hk] at HL
 have HC:=hQQ (fun W=>nE k W)
 rw[xW hk] at HC
 have HF:=hQQ (fun W (hW:ae w2 W)=>Ap f P k (P k).length W (HP.o.more hW) hk (Nat.le_refl _) hL)
 rw[List.take_length] at HF
 have FIN:Hq (∀W v,ae w2 W→Rd W v (P k++ [a])→(∀q,v.ownBlock=some q→O q∨w.heap.size≤q)→(((W.setCell ⟨w.heap.size,k,none⟩ v).setRow (w.heap.size+1) (puA (jv f k v))).heap[w.heap.size+1]?=some (.cells (puA (jv f k v)) 32 (0,0)))∧(W.setCell ⟨w.heap.size,k,none⟩ v).heap[w.heap.size]?=some (.cells (puA (jv f k v)) 32 (0,0))∧(W.setCell ⟨w.heap.size,k,none⟩ v).heap[w.heap.size+1]?=W.heap[w.heap.size+1]? ∧(puA (jv f k v)).all (·.oneCell')=true ∧
  eF w O (fun j=>if j=k then P j++ [a] else P j) (fun v=> .tuple #[v,.bool true]) (.returned (.tuple #[.agg (puA (jv f k v)),.bool true])) ((W.setCell ⟨w.heap.size,k,none⟩ v).setRow (w.heap.size+1) (puA (jv f k v)))):=hQQ fun W v hW hv hvo=>by
  have q1:=hW.block L1.o
  have q2:=hW.block L2.o
  have q3:=heap_setCell_same W _ k _ _ v q1
  rw[Ea f hk] at q3
  have q4:(W.setCell ⟨w.heap.size,k,none⟩ v).heap[w.heap.size+1]?=W.heap[w.heap.size+1]? :=heap_setCell_other W _ _ v (by simp)
  have t1:Turned (fun j=>j=w.heap.size) W (W.setCell ⟨w.heap.size,k,none⟩ v):=Turned.setCell (Turned.refl _ W) _ _ (fun _=>rfl)
  have t2:Turned (fun j=>j=w.heap.size∨j=w.heap.size+1) W ((W.setCell ⟨w.heap.size,k,none⟩ v).setRow (w.heap.size+1) (puA (jv f k v))):=Turned.setRow (t1.mono fun _ _ q=> .inl q) _ _ (fun _=> .inr rfl)
  have hpu:Pu W (jv f k v) (fun j=>if j=k then P j++ [a] else P j):=fun c hc=>by
   unfold jv
   by_cases e:c=k
   ·subst e;simpa using hv
   ·simpa [e] using (HP.o.more hW) c hc
  have hno:PuN (fun q=>O q∨w.heap.size≤q) (jv f k v):=fun c hc q e=>by
   unfold jv at e
   by_cases z:c=k
   ·subst z;exact hvo q (by simpa using e)
   ·rw[if_neg z] at e;exact .inl (ho c hc q e)
  refine⟨setRow_heap _ _ _ _ _ _ (q4.trans q2),q3,q4,hpu.all1,_,rfl,hpu.keep t2 ?_,?_,hno⟩
  ·rintro j (rfl|rfl)
   ·exact⟨_,_,_,q1,by decide⟩
   ·exact⟨_,_,_,q2,by decide⟩
  ·exact(Turned.setCell (M2.o.trans hW) _ _ (fun q=>by simp at q)).setRow _ _ (by omega)
 have hm:=hQQ hk
 have d0:decide (l≤((P k).length:Int))=false:=by simp;omega
 obtain⟨n,hn⟩:∃n,(P k).length=n:=⟨_,rfl⟩
 have HN:=hQQ hn
 rw[hn] at HL HF d0 hL hl
 clear hn
 have HB:=hQQ (fun q e=>ho k hk q e)
 have MS:=hQQ (Nat.le_trans m2.size (Nat.le_refl _))
 clear hl1 hl2 m2 h s2 ho
 go_enter Tryz.func67,Tryz.ntmps67
 go_wp2_with (refine kE rfl rfl rfl L1.o (by kernel_rfl) ?_)
 refine(HL.o w2 (ae.refl _)).mono ?_
 rintro e w3 ⟨rfl,h3⟩
 have M3:=hQQ h3
 clear h3
 go_wp2_with fail
 refine(HC.o w3).mono ?_
 rintro e w4 ⟨rfl,h4⟩
 have M4:=hQQ (M3.o.trans h4)
 clear h4
 go_wp2_with (refine kE rfl rfl rfl (M4.o.block L1.o) (by kernel_rfl) ?_)
 refine(HF.o w4 M4.o).mono ?_
 rintro e w5 ⟨b,rfl,h5,m5,o5⟩
 have R5:=hQQ h5
 have O5:=hQQ o5
 have M5:=hQQ (M4.o.trans m5)
 clear h5 m5 o5
 go_wp2_with (first
  |(at_builtin
    refine Af a n rfl _ _ rfl rfl R5.o (by rw[HN.o];exact hL) HN.o rfl ?_
    intro g cap w6 hg hr hm6
    have M6:=hQQ (M5.o.trans hm6)
    have F6:=hQQ (FIN.o w6 _ M6.o hr (fun q e=> .inr (by cases e;exact Nat.le_trans MS.o (Nat.le_trans M5.o.size hg))))
    have x1:=ky (M6.o.block L1.o) hk
    have x2:=frozen_of_row w6 w.heap.size k _ _ (M6.o.block L1.o)
    clear hg hr hm6 R5)
  |(refine kE rfl rfl rfl F6.o.2.1 (by kernel_rfl) ?_)
  |(refine wpList_store_row rfl 32 _ _ rfl _ _ rfl rfl 32 _ (F6.o.2.2.1.trans (M6.o.block L2.o)) (by kernel_rfl) rfl F6.o.2.2.2.1 ?_))
 refine bodyPost_ret (v:=.tuple #[.agg _,.bool true]) (xX Tryz.results67 _ _ _ 32 _ (0,0) _ rfl F6.o.1 Tryz.underlying32 rfl (by kernel_rfl)) rfl F6.o.2.2.2.2
theorem ya (O:Nat→Prop)(f:Nat→Value)(P:Nat→List Int)(c a l:Int)(w:World)(h:Pu w f P)(ho:PuN O f)(hL:∀k,k<5→(P k).length≤1000000):
 Calls Tryz.prog 67 #[.agg (puA f),.int .i64 c,.int .i64 a,.int .i64 l] w (eF w O (d7 P c a l) (fun v=> .tuple #[v,.bool (dS P c l)])):=by
 cases hb:dS P c l with
 |false =>
  have:=Cy O f P c a l w h ho hb
  simpa [d7,hb] using this
 |true =>
  have hb':=hb
  simp[dS] at hb'
  obtain⟨k,rfl,hk⟩:=mE hb'.1
  rw[dZ P hk] at hb'
  have:=Aq O f P k a l w h ho hk hb'.2 (hL k hk)
  simpa [d7,hb] using this
theorem Gd (O:Nat→Prop)(f:Nat→Value)(P:Nat→List Int)(c:Int)(w:World)(h:Pu w f P)(ho:PuN O f)(hb:cV P c=0):
 Calls Tryz.prog 65 #[.agg (puA f),.int .i64 c] w (eF w O P (fun v=> .tuple #[v,.int .i64 0,.bool false])):=by
 obtain⟨w2,e2,hl1,hl2,m2,s2⟩:=en2 w (.cells (puA f) 32) (.cells #[.slice none 0 0,.slice none 0 0,.slice none 0 0,.slice none 0 0,.slice none 0 0] 32)
 have L1:=hQQ hl1
 have L2:=hQQ hl2
 have M2:=hQQ m2
 have HP:=hQQ (h.more m2)
 have HL:=hQQ (fun W (hW:ae w2 W)=>pO f P c W (HP.o.more hW))
 rw[hb] at HL
 have H1:=hQQ h.all1
 have FIN:Hq (∀W,ae w2 W→eF w O P (fun v=> .tuple #[v,.int .i64 0,.bool false]) (.returned (.tuple #[.agg (puA f),.int .i64 0,.bool false])) (W.setRow (w.heap.size+1) (puA f))):=hQQ fun W hW =>
  ⟨f,rfl,(HP.o.more hW).keep (S:=fun k=>k=w.heap.size+1) (Turned.setRow (Turned.refl _ W) _ _ (fun _=>rfl)) (fun k q=>by subst q;exact⟨_,_,_,hW.block L2.o,by decide⟩),(M2.o.trans hW).setRow _ _ (by omega),ho.mono (fun _ z=> .inl z)⟩
 clear hl1 hl2 m2 h s2 ho hb
 go_enter Tryz.func65,Tryz.ntmps65
 go_wp2_with (refine kE rfl rfl rfl L1.o (by kernel_rfl) ?_)
 refine(HL.o w2 (ae.refl _)).mono ?_
 rintro e w3 ⟨rfl,h3⟩
 have M4:=hQQ h3
 clear h3
 go_wp2_with (first|(refine kE rfl rfl rfl (M4.o.block L1.o) (by kernel_rfl) ?_)|(refine wpList_store_row rfl 32 _ _ rfl _ _ rfl rfl 32 _ (M4.o.block L2.o) (by kernel_rfl) rfl H1.o ?_))
 refine bodyPost_ret (v:=.tuple #[.agg (puA f),.int .i64 0,.bool false]) (sd Tryz.results65 _ _ _ 32 _ (0,0) _ rfl (setRow_heap _ _ _ _ _ _ (M4.o.block L2.o)) Tryz.underlying32 rfl (by kernel_rfl)) rfl (FIN.o _ M4.o)
theorem Cz (O:Nat→Prop)(f:Nat→Value)(P:Nat→List Int)(k m:Nat)(w:World)(h:Pu w f P)(ho:PuN O f)(hk:k<5)(hm:(P k).length=m+1)(hL:m+1≤1000000):
 Calls Tryz.prog 65 #[.agg (puA f),.int .i64 k] w (eF w O (fun j=>if j=k then(P j).take m else P j) (fun v=> .tuple #[v,.int .i64 ((P k).getD m 0),.bool true])):=by
 obtain⟨w2,e2,hl1,hl2,m2,s2⟩:=en2 w (.cells (puA f) 32) (.cells #[.slice none 0 0,.slice none 0 0,.slice none 0 0,.slice none 0 0,.slice none 0 0] 32)
 have L1:=hQQ hl1
 have L2:=hQQ hl2
 have M2:=hQQ m2
 have HP:=hQQ (h.more m2)
 have HL:=hQQ (fun W (hW:ae w2 W)=>pO f P k W (HP.o.more hW))
 rw[dZ P hk,hm] at HL
 have HF:=hQQ (fun W (hW:ae w2 W)=>Ap f P k m W (HP.o.more hW) hk (by omega) (by omega))
 have HX:Hq (∀W,ae w2 W→∃a cap,W.cell? ⟨w.heap.size,k,none⟩=some (.slice (some ⟨a,0,none⟩) (m+1) cap)∧W.cell? ⟨a,m,none⟩=some (.int .i64 ((P k).getD m 0))):=hQQ fun W hW=>by
  obtain⟨a,cap,hf,_,hc⟩:=(HP.o.more hW k hk).cell
  obtain⟨g,rfl,hx⟩:=hc m (by omega)
  exact⟨g,cap,(ky (hW.block L1.o) hk).trans (by rw[hf,hm]),hx⟩
 have FIN:Hq (∀W v,ae w2 W→Rd W v ((P k).take m)→(∀q,v.ownBlock=some q→O q∨w.heap.size≤q)→(((W.setCell ⟨w.heap.size,k,none⟩ v).setRow (w.heap.size+1) (puA (jv f k v))).heap[w.heap.size+1]?=some (.cells (puA (jv f k v)) 32 (0,0)))∧(W.setCell ⟨w.heap.size,k,none⟩ v).heap[w.heap.size]?=some (.cells (puA (jv f k v)) 32 (0,0))∧(W.setCell ⟨w.heap.size,k,none⟩ v).heap[w.heap.size+1]?=W.heap[w.heap.size+1]? ∧(puA (jv f k v)).all (·.oneCell')=true ∧
  eF w O (fun j=>if j=k then(P j).take m else P j) (fun v=> .tuple #[v,.int .i64 ((P k).getD m 0),.bool true]) (.returned (.tuple #[.agg (puA (jv f k v)),.int .i64 ((P k).getD m 0),.bool true])) ((W.setCell ⟨w.heap.size,k,none⟩ v).setRow (w.heap.size+1) (puA (jv f k v)))):=hQQ fun W v hW hv hvo=>by
  have q1:=hW.block L1.o
  have q2:=hW.block L2.o
  have q3:=heap_setCell_same W _ k _ _ v q1
  rw[Ea f hk] at q3
  have q4:(W.setCell ⟨w.heap.size,k,none⟩ v).heap[w.heap.size+1]?=W.heap[w.heap.size+1]? :=heap_setCell_other W _ _ v (by simp)
  have t1:Turned (fun j=>j=w.heap.size) W (W.setCell ⟨w.heap.size,k,none⟩ v):=Turned.setCell (Turned.refl _ W) _ _ (fun _=>rfl)
  have t2:Turned (fun j=>j=w.heap.size∨j=w.heap.size+1) W ((W.setCell ⟨w.heap.size,k,none⟩ v).setRow (w.heap.size+1) (puA (jv f k v))):=Turned.setRow (t1.mono fun _ _ q=> .inl q) _ _ (fun _=> .inr rfl)
  have hpu:Pu W (jv f k v) (fun j=>if j=k then(P j).take m else P j):=fun c hc=>by
   unfold jv
   by_cases e:c=k
   ·subst e;simpa using hv
   ·simpa [e] using (HP.o.more hW) c hc
  have hno:PuN (fun q=>O q∨w.heap.size≤q) (jv f k v):=fun c hc q e=>by
   unfold jv at e
   by_cases z:c=k
   ·subst z;exact hvo q (by simpa using e)
   ·rw[if_neg z] at e;exact .inl (ho c hc q e)
  refine⟨setRow_heap _ _ _ _ _ _ (q4.trans q2),q3,q4,hpu.all1,_,rfl,hpu.keep t2 ?_,?_,hno⟩
  ·rintro j (rfl|rfl)
   ·exact⟨_,_,_,q1,by decide⟩
   ·exact⟨_,_,_,q2,by decide⟩
  ·exact(Turned.setCell (M2.o.trans hW) _ _ (fun q=>by simp at q)).setRow _ _ (by omega)
 have hm0:=hQQ hk
 obtain⟨x,hx⟩:∃x,(P k).getD m 0=x:=⟨_,rfl⟩
 rw[hx] at HX FIN⊢
 have HB:=hQQ (fun q e=>ho k hk q e)
 have MS:=hQQ (Nat.le_trans m2.size (Nat.le_refl _))
 clear hl1 hl2 m2 h s2 ho hm hx
 go_enter Tryz.func65,Tryz.ntmps65
 go_wp2_with (refine kE rfl rfl rfl L1.o (by kernel_rfl) ?_)
 refine(HL.o w2 (ae.refl _)).mono ?_
 rintro e w4 ⟨rfl,h4⟩
 have M4:=hQQ h4
 obtain⟨a,cap,x1,x2⟩:=HX.o w4 h4
 clear h4
 go_wp2_with (refine kE rfl rfl rfl (M4.o.block L1.o) (by kernel_rfl) ?_)
 refine(HF.o w4 M4.o).mono ?_
 rintro e w5 ⟨b,rfl,h5,m5,o5⟩
 have M5:=hQQ (M4.o.trans m5)
 have F6:=hQQ (FIN.o w5 _ M5.o h5 (fun q e=> .inl (HB.o q (o5 q e))))
 have x3:=ky (M5.o.block L1.o) hk
 have x4:=frozen_of_row w5 w.heap.size k _ _ (M5.o.block L1.o)
 clear h5 m5 o5 x1 x2
 go_wp2_with (first
  |(refine kE rfl rfl rfl F6.o.2.1 (by kernel_rfl) ?_)
  |(refine wpList_store_row rfl 32 _ _ rfl _ _ rfl rfl 32 _ (F6.o.2.2.1.trans (M5.o.block L2.o)) (by kernel_rfl) rfl F6.o.2.2.2.1 ?_))
 refine bodyPost_ret (v:=.tuple #[.agg _,.int .i64 x,.bool true]) (sd Tryz.results65 _ _ _ 32 _ (0,0) _ rfl F6.o.1 Tryz.underlying32 rfl (by kernel_rfl)) rfl F6.o.2.2.2.2
theorem Jk (O:Nat→Prop)(f:Nat→Value)(P:Nat→List Int)(c:Int)(w:World)(h:Pu w f P)(ho:PuN O f)(hL:∀k,k<5→(P k).length≤1000000):
 Calls Tryz.prog 65 #[.agg (puA f),.int .i64 c] w (eF w O (gO P c) (fun v=> .tuple #[v,.int .i64 (hU P c),.bool (gI P c)])):=by
 cases hb:gI P c with
 |false =>
  have h0:cV P c=0:=by simp[gI] at hb;unfold cV at *;split at hb<;>simp_all
  have:=Gd O f P c w h ho h0
  simpa [gO,hU,hb] using this
 |true =>
  have hb':=hb
  simp[gI] at hb'
  have hc:iO c=true:=by
   cases q:iO c with
   |true=>rfl
   |false=>rw[Eb P q] at hb';omega
  obtain⟨k,rfl,hk⟩:=mE hc
  rw[dZ P hk] at hb'
  obtain⟨m,hm⟩:∃m,(P k).length=m+1:=⟨(P k).length-1,by omega⟩
  have:=Cz O f P k m w h ho hk hm (by have:=hL k hk;omega)
  have e1:hU P k=(P k).getD m 0:=by simp[hU,hb,hm]
  have e2:gO P k=fun j=>if j=k then(P j).take m else P j:=by
   unfold gO
   rw[if_pos hb]
   funext j
   by_cases e:j=k
   ·subst e;simp[hm]
   ·simp[e]
  rw[e1,e2]
  exact this
def cL (F:Nat→Prop)(w:World)(f:Nat→Value)(P:Nat→List Int):Prop:=Pu w f P∧PuN (fun q=>¬F q) f
theorem cL.nil (F:Nat→Prop)(w:World):cL F w (fun _=> .slice none 0 0) (fun _=> []):=⟨fun _ _=>Rd.nil w,PuN.nil _⟩
theorem cL.more {F:Nat→Prop}{w w':World}{f:Nat→Value}{P:Nat→List Int}(h:cL F w f P)(m:ae w w'):cL F w' f P:=⟨h.1.more m,h.2⟩
theorem cL.stay {F F1:Nat→Prop}{w w':World}{f:Nat→Value}{P:Nat→List Int}(h:cL F w f P)(s:∀b o,¬F b→w.heap[b]?=some o→w'.heap[b]?=some o)(n:∀b,F1 b→F b∨w.heap.size≤b):cL F1 w' f P:=by
 refine⟨fun c hc=>?_,fun c hc q e z=>?_⟩
 ·obtain⟨a,cap,hv,h1,h2,z⟩:=h.1 c hc
  refine⟨a,cap,hv,h1,h2,z.imp id ?_⟩
  rintro⟨g,cur,rfl,hg,r⟩
  exact⟨g,cur,rfl,s _ _ (h.2 c hc g (by rw[hv];rfl)) hg,r⟩
 ·rcases n q z with r|r
  ·exact h.2 c hc q e r
  ·have:=h.1.lt c hc q e
   omega
theorem cL.keep {F:Nat→Prop}{w w':World}{f:Nat→Value}{P:Nat→List Int}(h:cL F w f P){S:Nat→Prop}(t:Turned S w w')(hs:∀k,S k→∃cs T fr,w.heap[k]?=some (.cells cs T fr)∧T≠3):cL F w' f P:=⟨h.1.keep t hs,h.2⟩
theorem cL.stayN {F F1 N:Nat→Prop}{w w':World}{f:Nat→Value}{P:Nat→List Int}(h:cL (fun q=>N q∨F q) w f P)(s:∀b o,¬F b→w.heap[b]?=some o→w'.heap[b]?=some o)(n:∀b,F1 b→F b∨w.heap.size≤b):cL (fun q=>N q∨F1 q) w' f P :=
 h.stay (fun b o nb hb=>s b o (fun q=>nb (.inr q)) hb) (fun b q=>by
  rcases q with q|q
  ·exact .inl (.inl q)
  ·exact(n b q).imp .inr id)
theorem eF.at {F:Nat→Prop}{w w':World}{P:Nat→List Int}{val:Value→Value}{e:Ending}(h:eF w (fun q=>¬F q) P val e w')(l:∀q,F q→q<w.heap.size):∃f,e=.returned (val (.agg (puA f)))∧cL F w' f P∧ae w w':=by
 obtain⟨f,e1,h1,m1,n1⟩:=h
 refine⟨f,e1,⟨h1,n1.mono fun q z y=>?_⟩,m1⟩
 rcases z with z|z
 ·exact z y
 ·have:=l q y;omega
def iA {α:Type}(w:World)(F N:Nat→Prop)(p:Nat)(kn:Int→Option Int)(val:α→Value→Value)(R:Res (α×(Nat→List Int)))(e:Ending)(w':World):Prop :=
 match R with
 | .need a=>vz w F p a e w'
 | .ok x D=>∃f F',e=.returned (val x.1 (.agg (puA f)))∧aD w' F' p kn D∧Turned F w w'∧(∀k,F' k→F k∨w.heap.size≤k)∧cL (fun q=>N q∨F' q) w' f x.2
theorem MidV.stepP {α:Type}{W wr w1 w2:World}{F S F' N:Nat→Prop}{p n:Nat}{kn:Int→Option Int}{D:List KV}{val:α→Value→Value}{Q:(α×(Nat→List Int))→Prop}{pr:Prg (α×(Nat→List Int))}{e:Ending}(h:MidV W wr F S p kn n D F')(m:ae wr w1)(hk:OkK kn)(G:bQ n Q pr)(he:iA w1 F' N p kn val (pr kn D) e w2):
 (∃a,pr kn D=.need a∧e=.panicked (bg p)∧bB w2 p a∧Turned (fun b=>F b∨S b) W w2∧∀b o,¬F' b→wr.heap[b]?=some o→w2.heap[b]?=some o) ∨
 (∃x f D1 F1,pr kn D=.ok x D1∧e=.returned (val x.1 (.agg (puA f)))∧MidV W w2 F S p kn n D1 F1∧cL (fun q=>N q∨F1 q) w2 f x.2∧Q x∧(∀b o,¬F' b→wr.heap[b]?=some o→w2.heap[b]?=some o)∧∀b,F1 b→F' b∨wr.heap.size≤b):=by
 have hm:=h.more m
 have hs:=m.size
 have hK:∀t,Turned F' w1 t→∀b o,¬F' b→wr.heap[b]?=some o→t.heap[b]?=some o:=fun t ht b o nb hb=>(ht.block b (ac (m.block hb)) nb).trans (m.block hb)
 cases hE:pr kn D with
 |need a =>
  rw[hE] at he
  obtain⟨h1,h2,h3⟩:=he
  exact .inl ⟨a,rfl,h1,h2,am hm.turn h3 (fun k q=>(h.from' k q).imp .inl id),hK _ h3⟩
 |ok x D1 =>
  rw[hE] at he
  obtain⟨f,F1,h1,hv,ht,hn,hp⟩:=he
  obtain⟨i1,q1⟩:=G.ok hk h.inv hE
  refine .inr ⟨x,f,D1,F1,rfl,h1,⟨hv,fun k q=>?_,am hm.turn ht (fun k q=>(h.from' k q).imp .inl id),i1⟩,hp,q1,hK _ ht,fun b q=>(hn b q).imp id (fun r=>by omega)⟩
  rcases hn k q with r|r
  ·exact h.from' k r
  ·have:=hm.size;exact .inr (by omega)
attribute [local go_sem] Oper.semAt_some
theorem rB {o:Oper}{a:Act}{w:World}{K:Act→World→Prop}{Q:Exit→Act→World→Prop}(ho:o.op=.alloc 32)(h:K (a.put o.dst (.pointer (some ⟨w.heap.size,0,none⟩))) (w.alloc (.cells #[.slice none 0 0,.slice none 0 0,.slice none 0 0,.slice none 0 0,.slice none 0 0] 32))):Oper.wp Tryz.prog o a w K Q:=by
 unfold Oper.wp Oper.upon execOp
 simp only[ho]
 generalize a.eval=ρ
 go_simp
 exact h
theorem AG.skipN {m:Nat}{a:Act}{L:List (Nat×Value)}(h:AG m a L)(v:Value):AG m (a.put none v) L:=h
def PuF (O:Nat→Prop)(w:World)(f:Nat→Value)(P:Nat→List Int):Prop:=Pu w f P∧PuN O f
theorem PuF.more {O:Nat→Prop}{w w':World}{f:Nat→Value}{P:Nat→List Int}(h:PuF O w f P)(m:ae w w'):PuF O w' f P:=⟨h.1.more m,h.2⟩
theorem PuF.keep {O:Nat→Prop}{w w':World}{f:Nat→Value}{P:Nat→List Int}(h:PuF O w f P){S:Nat→Prop}(t:Turned S w w')(hs:∀k,S k→∃cs T fr,w.heap[k]?=some (.cells cs T fr)∧T≠3):PuF O w' f P:=⟨h.1.keep t hs,h.2⟩
structure LsS where
 i:Nat
 P:Nat→List Int
 D:List KV
 F:Nat→Prop
 a:Int
def ND (f:Nat→Value)(q:Nat):Prop:=∃c,c<5∧(f c).ownBlock=some q
def CD (nb qb cb pb:Nat)(m:Nat)(k:Int):yw LsS where
 enc s:= #[.int .i64 s.a]
 See s A:=et A nb m∧A.heap[qb]?=some (.cells #[.pointer (some ⟨pb,0,none⟩)] 102 (0,0))∧et A cb k∧∃f,A.heap[pb]?=some (.cells (puA f) 32 (0,0))∧Pu A f s.P∧∀j,j<5→(s.P j).length≤1000000
 Own s s' A B:=s.i<m∧gI s.P k=true∧s'=⟨s.i+1,gO s.P k,s.D,s.F,hU s.P k⟩∧∃f f',A.heap[pb]?=some (.cells (puA f) 32 (0,0))∧B.heap[pb]?=some (.cells (puA f') 32 (0,0))∧Turned (fun q=>q=pb) A B∧Pu B f' (gO s.P k)∧PuN (fun q=>ND f q∨A.heap.size≤q) f'
 Fin s s' A B:=s'=s∧(m≤s.i∨gI s.P k=false)∧ae A B
 Ned _ _ _ _:=False
 Skp _ _ _ _:=False
 Rel s s' _ _:=s'.i=s.i
theorem CE (q:Nat)(hq:1≤q)(nb qb cb pb:Nat)(m:Nat)(hm:m≤1000000)(k:Int)(s0:LsS)(w0:World)(h00:s0.i=0):
 A0 (CD nb qb cb pb m k) Fence.wide q Tryz.prog 85 #[.pointer (some ⟨nb,0,none⟩),.pointer (some ⟨qb,0,none⟩),.pointer (some ⟨cb,0,none⟩)] s0 w0:=by
 intro l J J' Je Jx W hW mJ mJ' mJe mJx hsee hown hfin hned hskp hY h0
 have HSEE:=hQQ hsee
 have HOWN:=hQQ hown
 have HFIN:=hQQ hfin
 have HY:=hQQ hY
 have HJ0:=hQQ h0
 have bn:=(hsee _ _ h0).1
 have cn:=(aB bn).1
 clear hW mJ mJ' mJe mJx hsee hown hfin hned hskp hY h0 bn
 refine callsIn_of_wp Tryz.func85 rfl trivial ?_ rfl
 simp only[Tryz.ntmps85,List.size_toArray,List.length_cons,List.length_nil,Nat.reduceAdd,Nat.reduceSub,Array.replicate_succ,Array.replicate_zero,List.push_toArray,List.append_toArray,List.nil_append,List.cons_append]
 gi_wp2
 clear cn
 gi_loopw [9] (fun u wr=>∃(i:Nat) (s:LsS),i≤m∧u=.int .i64 (i:Int)∧s.i=i∧J s wr) (fun u _=>m-(intOf u).toNat)
 case atStart=>exact⟨0,s0,Nat.zero_le _,rfl,h00,HJ0.o⟩
 case round =>
  obtain⟨i,s,hi,rfl,hsi,hJ⟩:=hrel
  by_cases hlt:i<m
  ·have d1:decide ((i:Int)<(m:Int))=true:=by simp;omega
   have q3:IntKind.i64.wrap ((i:Int)+1)=(i:Int)+1:=az (by omega) (by omega)
   obtain⟨_,sq,sc,f,bp,pu,hl⟩:=HSEE.o s wr hJ
   have HJ1:=hQQ hJ
   have BQ:=hQQ sq
   have CQ:=hQQ (aB sq).1
   have BC:=hQQ sc
   have BP:=hQQ bp
   have HI:=hQQ (show s.i<m by omega)
   have HSI:=hQQ hsi
   obtain⟨OO,hOO⟩:∃OO:Nat→Prop,(fun q=>ND f q∨wr.heap.size≤q)=OO:=⟨_,rfl⟩
   have CL:Hq (∀W,ae wr W→Calls Tryz.prog 65 #[.agg (puA f),.int .i64 k] W (fun e W'=>∃f',e=.returned (.tuple #[.agg (puA f'),.int .i64 (hU s.P k),.bool (gI s.P k)])∧PuF OO W' f' (gO s.P k)∧ae W W')):=hQQ fun W hW=>(Jk (ND f) f s.P k W (pu.more hW) (fun c hc q e=>⟨c,hc,e⟩) hl).mono fun e W' ⟨f',e1,h1,m1,n1⟩=>⟨f',e1,⟨h1,by rw[←hOO];exact n1.mono fun q z=>z.imp id (fun y=>Nat.le_trans hW.size y)⟩,m1⟩
   have HO:=hQQ hOO
   obtain⟨X,hX⟩:∃X,hU s.P k=X:=⟨_,rfl⟩
   obtain⟨B,hB⟩:∃B,gI s.P k=B:=⟨_,rfl⟩
   obtain⟨PN,hP⟩:∃PN,gO s.P k=PN:=⟨_,rfl⟩
   rw[hX,hB,hP] at CL
   have HX:=hQQ hX
   have HB:=hQQ hB
   have HP:=hQQ hP
   clear hX hB hP hOO bp pu hl sq sc hJ hsi
   gi_wp2
   refine wpIn_wide.2 ?_
   refine aM (ae wr) (by kernel_rfl) ?_
   change dc _ _ _ _ _ _ _ _ (wr.drewN 1)
   have MR:Hq (ae wr (wr.drewN 1)):=hQQ ((ae.refl wr).drewN 1)
   generalize wr.drewN 1=wq at MR⊢
   generalize hA:Act.mk _ _=A
   have HF:AG 30 A [(0,.func (.yield l) #[] #[]),(1,.pointer (some ⟨nb,0,none⟩)),(2,.pointer (some ⟨qb,0,none⟩)),(3,.pointer (some ⟨cb,0,none⟩)),(8,.int .i64 (m:Int)),(9,.int .i64 (i:Int))]:=by
    rw[←hA];try simp only[pts,List.foldl]
    refine⟨⟨Nat.le_of_ble_eq_true rfl,rfl⟩,?_⟩
    intro z hz;simp only[List.mem_cons,List.not_mem_nil,or_false] at hz;rcases hz with rfl|rfl|rfl|rfl|rfl|rfl<;>rfl
   refine bH (fun a W=>∃(u12 u13 u14 u15 u16 u11 u17 u18 u19:Value) (g:Nat) (f9:Nat→Value),(a=(Act.put (Act.put (Act.put (pts A [(12,u12),(13,u13),(14,u14),(15,u15),(16,u16),(11,u11),(17,u17),(18,u18),(19,u19),(5,.pointer (some ⟨g,0,none⟩))]) none undef) (some 6) (.int .i64 X)) (some 7) (.bool B))∨a=(Act.put (Act.put (Act.put (pts A [(12,u12),(13,u13),(14,u14),(15,u15),(5,.pointer (some ⟨g,0,none⟩)),(16,u16),(11,u11),(17,u17),(18,u18),(19,u19)]) none undef) (some 6) (.int .i64 X)) (some 7) (.bool B)))∧W.heap[g]?=some (.cells (puA f9) 32 (0,0))∧PuF OO W f9 PN∧ae wr W∧wr.heap.size≤g) (fun _=>False) [] (fun a W hd h=>h.elim) (fun _ _ _ _ _ h=>h) ?_ ?_
   ·skip
    rintro a9 wa ⟨u12,u13,u14,u15,u16,u11,u17,u18,u19,g,f9,hn,h9,p9,m9,hg9⟩
    have E:(Act.put (Act.put (Act.put (pts A [(12,u12),(13,u13),(14,u14),(15,u15),(5,.pointer (some ⟨g,0,none⟩)),(16,u16),(11,u11),(17,u17),(18,u18),(19,u19)]) none undef) (some 6) (.int .i64 X)) (some 7) (.bool B))=(Act.put (Act.put (Act.put (pts A [(12,u12),(13,u13),(14,u14),(15,u15),(16,u16),(11,u11),(17,u17),(18,u18),(19,u19),(5,.pointer (some ⟨g,0,none⟩))]) none undef) (some 6) (.int .i64 X)) (some 7) (.bool B)):=by rw[←hA];kernel_rfl
    have hn:a9=(Act.put (Act.put (Act.put (pts A [(12,u12),(13,u13),(14,u14),(15,u15),(16,u16),(11,u11),(17,u17),(18,u18),(19,u19),(5,.pointer (some ⟨g,0,none⟩))]) none undef) (some 6) (.int .i64 X)) (some 7) (.bool B)):=by
     rcases hn with q|q
     ·exact q
     ·exact q.trans E
    subst hn
    rw[←hA];try simp only[pts,List.foldl]
    have H9:=hQQ h9
    have P9:=hQQ p9
    have M9:=hQQ m9
    have BQ9:=hQQ (m9.block BQ.o)
    have BP9:=hQQ (m9.block BP.o)
    clear HF hA MR E h9 p9 hg9 m9 CL CQ hn
    go_simp
    cases B with
    |false =>
     have FI:=hQQ (HFIN.o s s wr wa HJ1.o ⟨rfl,.inr HB.o,M9.o⟩)
     gi_wp2
     refine bodyPost_ret (results_none rfl _ _ _) rfl ?_
     exact .inl ⟨⟨_,rfl⟩,.inl ⟨s,FI.o⟩⟩
    |true =>
     obtain⟨wb,eb⟩:∃wb,wa.setRow pb (puA f9)=wb:=⟨_,rfl⟩
     have hb9:wb.heap[pb]?=some (.cells (puA f9) 32 (0,0)):=by rw[←eb];exact setRow_heap _ _ _ _ _ _ BP9.o
     have t9:Turned (fun z=>z=pb) wr wb:=by rw[←eb];exact(M9.o.mono (fun _ _ q=>q.elim)).setRow _ _ (fun _=>rfl)
     have pu9:PuF OO wb f9 PN:=by rw[←eb];exact PuF.keep P9.o (S:=fun z=>z=pb) (Turned.setRow (Turned.refl _ _) _ _ (fun _=>rfl)) (fun z q=>by subst q;exact⟨_,_,_,BP9.o,by decide⟩)
     have J9:=hQQ (HOWN.o s _ wr wb HJ1.o ⟨HI.o,HB.o,rfl,f,f9,BP.o,hb9,t9,by rw[HP.o];exact pu9.1,by rw[HO.o];exact pu9.2⟩)
     have cq9:=(aB BQ9.o).1
     have y9:=HY.o _ wb J9.o
     rw[show(CD nb qb cb pb m k).enc ⟨s.i+1,gO s.P k,s.D,s.F,hU s.P k⟩= #[.int .i64 X] by rw[←HX.o];rfl] at y9
     obtain⟨fn,tmps,assign,body,hy,hR⟩:=y9
     clear hb9 t9 pu9
     gi_wp2_with (first
      |(refine ed rfl 32 _ rfl g rfl 32 _ _ _ H9.o Tryz.underlying32 rfl (by kernel_rfl) ?_)
      |(refine jk rfl 32 _ _ rfl pb rfl (puA f9) rfl 32 _ BP9.o (by kernel_rfl) rfl (Pu.all1 P9.o.1) ?_;rw[eb]))
     refine hR.mono ?_
     rintro e W3 (⟨rfl,s',hrel',hJ3⟩|⟨he,hJx3⟩)
     ·have HJ3:=hQQ hJ3
      have HR3:=hQQ hrel'
      clear hJ3 hrel' hy hR cq9 eb
      gi_wp2
      go_roundw
      case rel=>exact⟨i+1,s',by omega,by go_num,by have h3:s'.i=s.i+1:=HR3.o;have:=HSI.o;omega,HJ3.o⟩
      case measure=>simp[intOf];omega
     ·rcases he with rfl|⟨ch,rfl⟩
      ·gi_wp2
       refine bodyPost_ret (results_none rfl _ _ _) rfl ?_
       exact .inl ⟨⟨_,rfl⟩,.inr hJx3⟩
      ·exact⟨rfl,.inr ⟨ch,rfl,hJx3⟩⟩
   intro QQ FINE FIND FINQ
   clear hA
   refine tqC 0 12 (.pointer (some ⟨pb,0,none⟩)) (by kernel_rfl) FINQ MR.o HF (by exact dA (ab rfl) 102 _ rfl qb 0 (HF.get 2 rfl) (.pointer (some ⟨pb,0,none⟩)) _ Tryz.underlying102 rfl (fun W hW=>hW.cell CQ.o)) fun A β1 HF=>?_
   refine tqC 1 13 (.pointer (some ⟨pb,0,none⟩)) (by kernel_rfl) FINQ MR.o HF (by exact(Or.inl ⟨(ab rfl),fun W hW=>by have h5:=(HF.getD 0 rfl);go_simp⟩)) fun A β2 HF=>?_
   refine tqC 2 14 (.agg (puA f)) (by kernel_rfl) FINQ MR.o HF (by exact aC (ab rfl) 32 _ rfl pb (HF.get 0 rfl) 32 _ _ _ (fun W hW=>hW.block BP.o) Tryz.underlying32 rfl (by kernel_rfl)) fun A β3 HF=>?_
   refine tqC 3 15 (.int .i64 k) (by kernel_rfl) FINQ MR.o HF (by exact jK (ab rfl) _ rfl cb (HF.get 6 rfl) _ (fun W hW=>hW.block BC.o)) fun A β4 HF=>?_
   refine ke (i:=4) (j:=9) (some 16) (some 5) (by kernel_rfl) rfl rfl (ab rfl) (ab rfl) rfl rfl (fun K hK=>?_) (fun K hK=>?_)
   ·refine bO rfl (HF.get 1 rfl) (HF.get 0 rfl) (enters_of Tryz.func65 (by kernel_rfl) rfl) ?_
    refine(CL.o wq MR.o).mono ?_
    rintro e w7 ⟨f7,rfl,h7,m7⟩
    have P7:=hQQ h7
    have M7:=hQQ (MR.o.trans m7)
    refine hK _ _ M7.o ?_
    clear hK K m7
    replace HF:=HF.put 16 (.tuple #[.agg (puA f7),.int .i64 X,.bool B]) (by decide) rfl
    generalize β5:Act.put _ _ _=A at HF⊢
    refine tqM 5 11 0 rfl (.inl rfl) rfl (by kernel_rfl) FINQ M7.o HF fun A β6 HF=>?_
    refine tqC 6 17 (.agg (puA f7)) (by kernel_rfl) FINQ M7.o HF (by exact(Or.inl ⟨(ab rfl),fun W hW=>by have h5:=(HF.getD 0 rfl);go_simp⟩)) fun A β7 HF=>?_
    refine tqC 7 18 (.int .i64 X) (by kernel_rfl) FINQ M7.o HF (by exact(Or.inl ⟨(ab rfl),fun W hW=>by have h5:=(HF.getD 1 rfl);go_simp⟩)) fun A β8 HF=>?_
    refine tqC 8 19 (.bool B) (by kernel_rfl) FINQ M7.o HF (by exact(Or.inl ⟨(ab rfl),fun W hW=>by have h5:=(HF.getD 2 rfl);go_simp⟩)) fun A β9 HF=>?_
    refine bG (i:=9) (some 5) (by kernel_rfl) rfl (ab rfl) rfl (fun K hK=>?_)
    refine rB rfl ?_
    obtain⟨w8,e8,z8,m8,s8⟩:=en1 w7 (.cells #[.slice none 0 0,.slice none 0 0,.slice none 0 0,.slice none 0 0,.slice none 0 0] 32)
    rw[e8]
    have M8:=hQQ (M7.o.trans m8)
    refine hK _ _ M8.o ?_
    clear hK K e8
    replace HF:=HF.put 5 (.pointer (some ⟨w7.heap.size,0,none⟩)) (by decide) rfl
    generalize β10:Act.put _ _ _=A at HF⊢
    have GE:wr.heap.size≤w7.heap.size:=M7.o.size
    have MF:Hq (ae wr (w8.setRow w7.heap.size (puA f7))):=hQQ (M8.o.setRow _ _ GE)
    refine bG (i:=10) none (by kernel_rfl) rfl (ab rfl) rfl (fun K hK=>?_)
    refine wp_store_row 32 _ _ rfl (w7.heap.size) _ (HF.get 0 rfl) (HF.get 3 rfl) 32 _ z8 (by kernel_rfl) rfl (Pu.all1 (P7.o.more m8).1) ?_
    refine hK _ _ MF.o ?_
    clear hK K
    replace HF:=HF.skipN undef
    generalize hBN:Act.put _ none undef=A at HF⊢
    refine tqM 11 6 2 rfl (.inr rfl) rfl (by kernel_rfl) FINQ MF.o HF fun A β12 HF=>?_
    refine tqM 12 7 2 rfl (.inr rfl) rfl (by kernel_rfl) FINQ MF.o HF fun A β13 HF=>?_
    exact bI (by kernel_rfl) (FINE _ _ ⟨(.pointer (some ⟨pb,0,none⟩)),(.pointer (some ⟨pb,0,none⟩)),(.agg (puA f)),(.int .i64 k),(.tuple #[.agg (puA f7),.int .i64 X,.bool B]),(.tuple #[.agg (puA f7),.int .i64 X,.bool B]),(.agg (puA f7)),(.int .i64 X),(.bool B),w7.heap.size,f7,Or.inl (by rw[← β13,← β12,←hBN,← β10,← β9,← β8,← β7,← β6,← β5,← β4,← β3,← β2,← β1]<;>rfl),setRow_heap _ _ _ _ _ _ z8,(PuF.keep (P7.o.more m8) (S:=fun k=>k=w7.heap.size) (Turned.setRow (Turned.refl _ _) _ _ (fun _=>rfl)) (fun k q=>by subst q;exact⟨_,_,_,z8,by decide⟩)),MF.o,GE⟩)
   ·refine rB rfl ?_
    obtain⟨w7,e7,z7,m7,s7⟩:=en1 wq (.cells #[.slice none 0 0,.slice none 0 0,.slice none 0 0,.slice none 0 0,.slice none 0 0] 32)
    rw[e7]
    have M7:=hQQ (MR.o.trans m7)
    refine hK _ _ M7.o ?_
    clear hK K e7
    replace HF:=HF.put 5 (.pointer (some ⟨wq.heap.size,0,none⟩)) (by decide) rfl
    generalize β5:Act.put _ _ _=A at HF⊢
    refine tqO 4 16 (by kernel_rfl) HF fun K hK=>?_
    refine bO rfl (HF.get 2 rfl) (HF.get 1 rfl) (enters_of Tryz.func65 (by kernel_rfl) rfl) ?_
    refine(CL.o w7 M7.o).mono ?_
    rintro e w8 ⟨f8,rfl,h8,m8⟩
    have P8:=hQQ h8
    have M8:=hQQ (M7.o.trans m8)
    refine hK _ _ M8.o fun A β6 HF=>?_
    clear hK K
    refine tqM 5 11 0 rfl (.inl rfl) rfl (by kernel_rfl) FINQ M8.o HF fun A β7 HF=>?_
    refine tqC 6 17 (.agg (puA f8)) (by kernel_rfl) FINQ M8.o HF (by exact(Or.inl ⟨(ab rfl),fun W hW=>by have h5:=(HF.getD 0 rfl);go_simp⟩)) fun A β8 HF=>?_
    refine tqC 7 18 (.int .i64 X) (by kernel_rfl) FINQ M8.o HF (by exact(Or.inl ⟨(ab rfl),fun W hW=>by have h5:=(HF.getD 1 rfl);go_simp⟩)) fun A β9 HF=>?_
    refine tqC 8 19 (.bool B) (by kernel_rfl) FINQ M8.o HF (by exact(Or.inl ⟨(ab rfl),fun W hW=>by have h5:=(HF.getD 2 rfl);go_simp⟩)) fun A β10 HF=>?_
    have GE:wr.heap.size≤wq.heap.size:=MR.o.size
    have MF:Hq (ae wr (w8.setRow wq.heap.size (puA f8))):=hQQ (M8.o.setRow _ _ GE)
    refine bG (i:=10) none (by kernel_rfl) rfl (ab rfl) rfl (fun K hK=>?_)
    refine wp_store_row 32 _ _ rfl (wq.heap.size) _ (HF.get 5 rfl) (HF.get 2 rfl) 32 _ (m8.block z7) (by kernel_rfl) rfl (Pu.all1 P8.o.1) ?_
    refine hK _ _ MF.o ?_
    clear hK K
    replace HF:=HF.skipN undef
    generalize hBN:Act.put _ none undef=A at HF⊢
    refine tqM 11 6 1 rfl (.inr rfl) rfl (by kernel_rfl) FINQ MF.o HF fun A β12 HF=>?_
    refine tqM 12 7 1 rfl (.inr rfl) rfl (by kernel_rfl) FINQ MF.o HF fun A β13 HF=>?_
    exact bI (by kernel_rfl) (FINE _ _ ⟨(.pointer (some ⟨pb,0,none⟩)),(.pointer (some ⟨pb,0,none⟩)),(.agg (puA f)),(.int .i64 k),(.tuple #[.agg (puA f8),.int .i64 X,.bool B]),(.tuple #[.agg (puA f8),.int .i64 X,.bool B]),(.agg (puA f8)),(.int .i64 X),(.bool B),wq.heap.size,f8,Or.inr (by rw[← β13,← β12,←hBN,← β10,← β9,← β8,← β7,← β6,← β5,← β4,← β3,← β2,← β1]<;>rfl),setRow_heap _ _ _ _ _ _ (m8.block z7),(PuF.keep P8.o (S:=fun k=>k=wq.heap.size) (Turned.setRow (Turned.refl _ _) _ _ (fun _=>rfl)) (fun k q=>by subst q;exact⟨_,_,_,(m8.block z7),by decide⟩)),MF.o,GE⟩)
  ·have hi2:m≤s.i:=by omega
   have d1:decide ((i:Int)<(m:Int))=false:=by simp;omega
   have FI:=hQQ (HFIN.o s s wr wr hJ ⟨rfl,.inl hi2,ae.refl _⟩)
   gi_wp2
   go_end0
   exact .inl ⟨⟨_,rfl⟩,.inl ⟨s,FI.o⟩⟩
section
variable {n:Nat}(F:Nat→Prop)(p:Nat)(kn:Int→Option Int)(D:List KV)(w:World)(hv:aD w F p kn D)(hk:OkK kn)(hD:cC n D)
include hv hk hD
theorem Ld {b l:Int}(HS:dY b l n){a:Int}(ha:W64 a)(vb sb:Nat)(h1:w.heap[vb]?=some (.cells #[.pointer (some ⟨p,0,none⟩)] 43 (0,0)))(h2:w.heap[sb]?=some (.cells #[.int .i64 b,.int .i64 l] 96 (0,0))):
 Calls Tryz.prog 103 #[.int .i64 a,.pointer (some ⟨vb,0,none⟩),.pointer (some ⟨sb,0,none⟩)] w (aG w F p kn (fun b:Bool=> .bool b) (jP b l a kn D)):=by
 have K:=hQQ (Lc HS F p kn D a ha w hv hk hD)
 have c1:=(aB h1).1
 obtain⟨c2,c3⟩:=lr h2
 clear hv hk hD h1 h2 HS ha
 go_enter Tryz.func103,Tryz.ntmps103
 go_wp2_with fail
 refine K.o.mono ?_
 intro e w1 he
 have FIN:=hQQ he
 rcases jl he with⟨a',_,rfl⟩|⟨x,D',_,rfl⟩
 ·exact⟨rfl,FIN.o⟩
 ·clear he
  go_wp2_with fail
  go_ret
  exact FIN.o
theorem Le {c:Cfg}(R:c.Ok)(H:cB c.pg c.st n)(hn:n≤10000)(bt:Nat)(hs:dd bt w)(nF0:¬F 0)(nFb:¬F bt)(a:Int)(vb lb:Nat)(h1:w.heap[vb]?=some (.cells #[.pointer (some ⟨p,0,none⟩)] 43 (0,0)))(h2:w.heap[lb]?=some (.cells c.arr 28 (0,0))):
 Calls Tryz.prog 86 #[.int .i64 a,.pointer (some ⟨vb,0,none⟩),.pointer (some ⟨lb,0,none⟩)] w (aG w F p kn (fun b:Bool=> .bool b) (rn c.us c.pg c.st a kn D)):=by
 have K:=hQQ (IZ R H hn F p kn D a w hv hk hD bt hs nF0 nFb)
 have c1:=(aB h1).1
 have H2:=hQQ h2
 clear hv hk hD h1 h2 H R hs nF0 nFb
 go_enter Tryz.func86,Tryz.ntmps86
 go_wp2_with (refine aK rfl rfl rfl H2.o (by kernel_rfl) ?_)
 refine K.o.mono ?_
 intro e w1 he
 have FIN:=hQQ he
 rcases jl he with⟨a',_,rfl⟩|⟨x,D',_,rfl⟩
 ·exact⟨rfl,FIN.o⟩
 ·clear he
  go_wp2_with fail
  go_ret
  exact FIN.o
end
theorem Jl (p:Nat)(b l:Int)(w:World):Calls Tryz.prog 73 #[.pointer (some ⟨p,0,none⟩),.agg #[.int .i64 b,.int .i64 l]] w fun e w' =>
 e=.returned (.func (.func 103) #[] #[.pointer (some ⟨w.heap.size,0,none⟩),.pointer (some ⟨w.heap.size+1,0,none⟩)])∧w'=(w.alloc (.cells #[.pointer (some ⟨p,0,none⟩)] 43)).alloc (.cells #[.int .i64 b,.int .i64 l] 96):=by
 go_enter Tryz.func73,Tryz.ntmps73
 go_wp2_with fail
 go_ret
 exact⟨rfl,rfl⟩
theorem CF (p:Nat)(c:Cfg)(w:World):Calls Tryz.prog 49 #[.pointer (some ⟨p,0,none⟩),.agg c.arr] w fun e w' =>
 e=.returned (.func (.func 86) #[] #[.pointer (some ⟨w.heap.size,0,none⟩),.pointer (some ⟨w.heap.size+1,0,none⟩)])∧w'=(w.alloc (.cells #[.pointer (some ⟨p,0,none⟩)] 43)).alloc (.cells c.arr 28):=by
 go_enter Tryz.func49,Tryz.ntmps49
 go_wp2_with fail
 go_ret
 exact⟨rfl,rfl⟩
theorem Ef (pb:Nat)(k m:Int)(w:World):Calls Tryz.prog 48 #[.pointer (some ⟨pb,0,none⟩),.int .i64 k,.int .i64 m] w fun e w' =>
 e=.returned (.func (.func 85) #[] #[.pointer (some ⟨w.heap.size+2,0,none⟩),.pointer (some ⟨w.heap.size,0,none⟩),.pointer (some ⟨w.heap.size+1,0,none⟩)])∧w'=((w.alloc (.cells #[.pointer (some ⟨pb,0,none⟩)] 102)).alloc (.cells #[.int .i64 k] 3)).alloc (.cells #[.int .i64 m] 3):=by
 go_enter Tryz.func48,Tryz.ntmps48
 go_wp2_with fail
 go_ret
 exact⟨rfl,rfl⟩
theorem uw (p:Nat)(v:Option Addr)(len cap:Nat)(w:World):Calls Tryz.prog 50 #[.pointer (some ⟨p,0,none⟩),.slice v len cap] w fun e w' =>
 e=.returned (.func (.func 88) #[] #[.pointer (some ⟨w.heap.size+1,0,none⟩),.pointer (some ⟨w.heap.size,0,none⟩)])∧w'=(w.alloc (.cells #[.pointer (some ⟨p,0,none⟩)] 43)).alloc (.cells #[.slice v len cap] 93):=by
 go_enter Tryz.func50,Tryz.ntmps50
 go_wp2_with fail
 go_ret
 exact⟨rfl,rfl⟩
theorem Ge (p:Nat)(c:Cfg)(k:Int)(w:World):Calls Tryz.prog 97 #[.pointer (some ⟨p,0,none⟩),.agg c.arr,.int .i64 k] w fun e w' =>
 e=.returned (.func (.func 122) #[] #[.pointer (some ⟨w.heap.size,0,none⟩),.pointer (some ⟨w.heap.size+1,0,none⟩),.pointer (some ⟨w.heap.size+2,0,none⟩)])∧w'=((w.alloc (.cells #[.pointer (some ⟨p,0,none⟩)] 43)).alloc (.cells c.arr 28)).alloc (.cells #[.int .i64 k] 3):=by
 go_enter Tryz.func97,Tryz.ntmps97
 go_wp2_with fail
 go_ret
 exact⟨rfl,rfl⟩
attribute [local go_sem] Oper.semAt_some
def ux (c:Cfg)(p:Nat)(w:World)(N:Nat→Prop):WayD→Value→Prop
 | .room b l,v=>∃vb sb,v=.func (.func 103) #[] #[.pointer (some ⟨vb,0,none⟩),.pointer (some ⟨sb,0,none⟩)]∧w.heap[vb]?=some (.cells #[.pointer (some ⟨p,0,none⟩)] 43 (0,0))∧w.heap[sb]?=some (.cells #[.int .i64 b,.int .i64 l] 96 (0,0))∧¬N vb∧¬N sb
 | .home,v=>∃vb lb,v=.func (.func 86) #[] #[.pointer (some ⟨vb,0,none⟩),.pointer (some ⟨lb,0,none⟩)]∧w.heap[vb]?=some (.cells #[.pointer (some ⟨p,0,none⟩)] 43 (0,0))∧w.heap[lb]?=some (.cells c.arr 28 (0,0))∧¬N vb∧¬N lb
theorem ux.keep {c:Cfg}{p:Nat}{w w':World}{N:Nat→Prop}{y:WayD}{v:Value}(h:ux c p w N y v)(t:Turned N w w'):ux c p w' N y v:=by
 cases y with
 |room b l=>obtain⟨vb,sb,e,h1,h2,n1,n2⟩:=h;exact⟨vb,sb,e,(t.block _ (ac h1) n1).trans h1,(t.block _ (ac h2) n2).trans h2,n1,n2⟩
 |home=>obtain⟨vb,sb,e,h1,h2,n1,n2⟩:=h;exact⟨vb,sb,e,(t.block _ (ac h1) n1).trans h1,(t.block _ (ac h2) n2).trans h2,n1,n2⟩
def n6 {σ:Type}(Z:σ→World→Prop):Prop:=∀s A B,Z s A→A.heap.size≤B.heap.size→(∀(k:Nat) (cs:Array Value) (t:TypeId) (fr:Nat×Nat),A.heap[k]?=some (.cells cs t fr)→B.heap[k]?=some (.cells cs t fr))→Z s B
theorem n6.more {σ:Type}{Z:σ→World→Prop}(h:n6 Z){s:σ}{A B:World}(z:Z s A)(m:ae A B):Z s B:=h s A B z m.size fun k cs t fr q=>m.block q
theorem n6.put {σ:Type}{Z:σ→World→Prop}(h:n6 Z){s:σ}{A:World}(z:Z s A){k:Nat}{o:Obj}(o':Obj)(hl:A.heap[k]?=some o)(ho:o.isCells=false):Z s (A.putObj k o'):=
 h s A _ z (by simp) fun j cs t fr q=>(World.putObj_heap_other (by rintro rfl;rw[hl] at q;cases q;cases ho)).trans q
structure LvO (w6:World)(F T:Nat→Prop)(p:Nat)(kn:Int→Option Int)(n:Nat)(Z:LsS→World→Prop)(s:LsS)(A:World):Prop where
 on:OnV w6 A F T p kn n s.D s.F
 z:Z s A
theorem LvO.books {w6:World}{F T:Nat→Prop}{p:Nat}{kn:Int→Option Int}{n:Nat}{Z:LsS→World→Prop}(hZ:n6 Z)(hF:∀k,F k→k<w6.heap.size)(s:LsS):i8 w6.heap.size (LvO w6 F T p kn n Z s):=
 ⟨fun {A A'} h m=>⟨h.on.more m,hZ.more h.z m⟩,fun {A r} r' h hl=>⟨h.on.put hF r' hl,hZ.put h.z (.loop r') hl rfl⟩⟩
def LvX (w6:World)(F T:Nat→Prop)(p:Nat)(Need:Int→Prop):Exit→World→Prop
 | .panic ch,W=>ch=bg p∧∃a,Need a∧oq w6 W F T p a
 | _,_=>False
theorem Gf {w6:World}{F T:Nat→Prop}{p:Nat}{Need:Int→Prop}(e:Exit):i8 w6.heap.size (LvX w6 F T p Need e):=by
 cases e with
 |panic ch=>exact⟨fun {A A'} h m=>by obtain⟨h1,a,h2,h3⟩:=h;exact⟨h1,a,h2,h3.more m⟩,fun {A r} r' h hl=>by obtain⟨h1,a,h2,h3⟩:=h;exact⟨h1,a,h2,h3.put hl rfl (by omega) _⟩⟩
 |ret=>exact⟨fun {A A'} h m=>h,fun {A r} r' h hl=>h⟩
 |normal=>exact⟨fun {A A'} h m=>h,fun {A r} r' h hl=>h⟩
 |exit _=>exact⟨fun {A A'} h m=>h,fun {A r} r' h hl=>h⟩
 |goto _=>exact⟨fun {A A'} h m=>h,fun {A r} r' h hl=>h⟩
 |outgrown=>exact⟨fun {A A'} h m=>h,fun {A r} r' h hl=>h⟩
structure LvH (w:World)(F T:Nat→Prop)(p:Nat)(kn:Int→Option Int)(n:Nat)(c:Cfg)(wy:List WayD)(It:yw LsS)(Z Z' Z2:LsS→World→Prop)(Need:Int→Prop):Prop where
 enc:∀s,It.enc s= #[.int .i64 s.a]
 sZ:n6 Z
 sZ':n6 Z'
 sZ2:n6 Z2
 see:∀w6 s A,w.heap.size≤w6.heap.size→LvO w6 F T p kn n Z s A→It.See s A
 own:∀w6 s s' A B,w.heap.size≤w6.heap.size→w6.heap.size+2≤A.heap.size→LvO w6 F T p kn n Z s A→It.Own s s' A B→bL (dI w6.heap.size) A B∧LvO w6 F T p kn n Z' s' B
 fin:∀w6 s s' A B,w.heap.size≤w6.heap.size→w6.heap.size+2≤A.heap.size→LvO w6 F T p kn n Z s A→It.Fin s s' A B→bL (dI w6.heap.size) A B∧LvO w6 F T p kn n Z2 s' B
 ned:∀w6 s ch A B,w.heap.size≤w6.heap.size→w6.heap.size+2≤A.heap.size→LvO w6 F T p kn n Z s A→It.Ned s ch A B→bL (dI w6.heap.size) A B∧LvX w6 F T p Need (.panic ch) B
 skp:∀w6 s s' A B,w.heap.size≤w6.heap.size→w6.heap.size+2≤A.heap.size→LvO w6 F T p kn n Z s A→It.Skp s s' A B→bL (dI w6.heap.size) A B∧LvO w6 F T p kn n Z s' B
 rel:∀s s' A B l (r0 r1 r r':Loop),A.heap[l]?=some (.loop r0)→B.heap[l]?=some (.loop r1)→It.Rel s s' (A.putObj l (.loop r)) B→It.Rel s s' A (B.putObj l (.loop r'))
 word:∀s A,Z' s A→W64 s.a
 did:∀s A B D1 F1,Z' s A→cC n s.D→lI c.us c.pg c.st wy s.a kn s.D=.ok () D1→A.heap.size≤B.heap.size→(∀b o,¬s.F b→A.heap[b]?=some o→B.heap[b]?=some o)→(∀b,F1 b→s.F b∨A.heap.size≤b)→∃s',It.Rel s s' A B∧s'.D=D1∧s'.F=F1∧Z s' B
 nd:∀s A a,Z' s A→lI c.us c.pg c.st wy s.a kn s.D=.need a→Need a
def O3 (w:World)(F T:Nat→Prop)(p:Nat)(kn:Int→Option Int)(n:Nat)(Z2:LsS→World→Prop)(Need:Int→Prop)(e:Ending)(w':World):Prop :=
 (∃a,Need a∧e=.panicked (bg p)∧bB w' p a∧Turned (fun b=>F b∨T b) w w') ∨
 ∃s,e=.returned (.tuple #[])∧aD w' s.F p kn s.D∧Turned (fun b=>F b∨T b) w w'∧(∀k,s.F k→F k∨w.heap.size≤k)∧cC n s.D∧Z2 s w'
theorem Eg {c:Cfg}(R:c.Ok){n:Nat}(H:cB c.pg c.st n)(hn:n≤10000){bt:Nat}(F T:Nat→Prop)(p:Nat)(kn:Int→Option Int)(hk:OkK kn){wy:List WayD}(hok:∀y∈wy,jw n y)(hwl:wy.length≤1000){It:yw LsS}{gf:Nat}{lb:Array Value}(heg:∀args w,Sem.run Tryz.prog (callFunc gf args) w=.ok (.enter gf args) w)
 {Z Z' Z2:LsS→World→Prop} {Need:Int→Prop} (s0:LsS) (w:World) (L:LvH w F T p kn n c wy It Z Z' Z2 Need) (hseq:A0 It Fence.wide 2 Tryz.prog gf lb s0 w)
 (hF:s0.F=F) (hv:aD w F p kn s0.D) (hD:cC n s0.D) (hz:Z s0 w) (hs:dd bt w) (nF0:¬F 0) (nFb:¬F bt) (hT:∀k,T k→k<w.heap.size∧¬F k) (nT0:¬T 0) (nTb:¬T bt)
 (wb cap:Nat) (hwb:wb<w.heap.size∧¬F wb∧¬T wb) (hwy:∀j (hj:j<wy.length),∃v,w.cell? ⟨wb,j,none⟩=some v∧ux c p w (fun b=>F b∨T b) wy[j] v):
 Calls Tryz.prog 47 #[.func (.func gf) #[] lb,.slice (some ⟨wb,0,none⟩) wy.length cap] w (O3 w F T p kn n Z2 Need):=by
 refine(callsIn_wide (n:=3)).1 ?_
 refine iB Tryz.func47 rfl trivial ?_ rfl
 simp only[Tryz.ntmps47,List.size_toArray,List.length_cons,List.length_nil,Nat.reduceAdd,Nat.reduceSub,Array.replicate_succ,Array.replicate_zero,List.push_toArray,List.append_toArray,List.nil_append,List.cons_append]
 have hF0:∀k,F k→k<w.heap.size:=hv.lt
 obtain⟨w6,e6,hb6,m6,s6⟩:=a6 w (.cells #[.slice (some ⟨wb,0,none⟩) wy.length cap] 136)
 have hF6:∀k,F k→k<w6.heap.size:=fun k q=>by have:=hF0 k q;omega
 have hT6:∀k,T k→k<w6.heap.size:=fun k q=>by have:=(hT k q).1;omega
 refine fx ?_
 gi_wp2
 clear e6
 refine fx ?_
 gi_wp2
 have HL:=hQQ L
 have HSQ:=hQQ hseq
 have HO:=hQQ hok
 have HK:=hQQ hk
 have HR:=hQQ R
 have HH:=hQQ H
 have HB6:=hQQ hb6
 have hle:w.heap.size≤w6.heap.size:=by omega
 have h0:Hq (LvO w6 F T p kn n Z s0 w6):=hQQ ⟨by rw[hF];exact OnV.begin (hv.more m6) hD,L.sZ.more hz m6⟩
 -- what stands all the while
 have KB:Hq (∀W D' F',OnV w6 W F T p kn n D' F'→W.heap[w.heap.size]?=some (.cells #[.slice (some ⟨wb,0,none⟩) wy.length cap] 136 (0,0))):=hQQ fun W D' F' h=>(h.turn.block _ (by omega) (by rintro(q|q);have:=hF0 _ q;omega;have:=(hT _ q).1;omega)).trans hb6
 have KW:Hq (∀W D' F',OnV w6 W F T p kn n D' F'→∀j (hj:j<wy.length),∃v,W.cell? ⟨wb,j,none⟩=some v∧ux c p W (fun b=>F b∨T b) wy[j] v):=hQQ fun W D' F' h j hj=>by
  obtain⟨v,h1,h2⟩:=hwy j hj
  have t:=Turned.trans (Turned.mono m6 (fun _ _ q=>q.elim)) h.turn
  refine⟨v,?_,h2.keep t⟩
  rw[World.cell?_of_block (w:=w) (t.block wb hwb.1 (by rintro(q|q);exact hwb.2.1 q;exact hwb.2.2 q))];exact h1
 have KS:Hq (∀W D' F',OnV w6 W F T p kn n D' F'→dd bt W∧¬F' 0∧¬F' bt):=hQQ fun W D' F' h=>⟨(hs.more m6).keep h.turn (by rintro(q|q);exact nF0 q;exact nT0 q) (by rintro(q|q);exact nFb q;exact nTb q),fun q=>by rcases h.from' 0 q with r|r;exact nF0 r;omega,fun q=>by rcases h.from' bt q with r|r;exact nFb r;have:=hs.lt;omega⟩
 clear L hseq hok hk R H hb6 hz hv hD hwy hs
 refine oe ?_
 refine vq It (gf:=gf) (lb:=lb) Tryz.func47 rfl (by omega) rfl trivial heg HSQ.o m6 (fun s=>by rw[HL.o.enc];rfl)
  (LvO w6 F T p kn n Z) (LvO w6 F T p kn n Z') (LvO w6 F T p kn n Z2) (LvX w6 F T p Need) (LvO.books HL.o.sZ hF6) (LvO.books HL.o.sZ' hF6) (LvO.books HL.o.sZ2 hF6) Gf h0.o
  (fun s a' W=>LvO w6 F T p kn n Z' s W∧a'= { tmps:= #[.func (.func gf) #[] lb,.slice (some ⟨wb,0,none⟩) wy.length cap,undef,.pointer (some ⟨w.heap.size,0,none⟩),.int .i64 s.a,undef,undef,.func (.func gf) #[] lb,.int .i64 s.a,undef,undef,undef,undef,undef,undef,undef,undef,undef,undef],defers:= [] })
  (fun s a'=>⟨fun {A A'} h m=>⟨(LvO.books HL.o.sZ' hF6 s).more h.1 m,h.2⟩,fun {A r} r' h hl=>⟨(LvO.books HL.o.sZ' hF6 s).put r' h.1 hl,h.2⟩⟩)
  (fun s A _ h=>HL.o.see w6 s A hle h) (fun s s' A B hs h o=>HL.o.own w6 s s' A B hle hs h o) (fun s s' A B hs h o=>HL.o.fin w6 s s' A B hle hs h o) (fun s ch A B hs h o=>HL.o.ned w6 s ch A B hle hs h o) (fun s s' A B hs h o=>HL.o.skp w6 s s' A B hle hs h o) HL.o.rel
  ?assign ?body ?done ?stop ?dies
 case assign =>
  rintro l s W K hsz hI hK
  rw[HL.o.enc]
  gi_wp2
 case body =>
  rintro l s a' W hsz ⟨hI,rfl⟩
  obtain⟨Rt,hRt⟩:∃Rt,lI c.us c.pg c.st wy s.a kn s.D=Rt:=⟨_,rfl⟩
  have HI:=hQQ hI
  have HWD:=hQQ (HL.o.word s W hI.z)
  have HDID:=hQQ (fun B D1 F1 (e:Rt=.ok () D1)=>HL.o.did s W B D1 F1 hI.z hI.on.inv (hRt.trans e))
  have HND:=hQQ (fun a (e:Rt=.need a)=>HL.o.nd s W a hI.z (hRt.trans e))
  have HRT:=hQQ hRt
  have cb:=(aB (KB.o _ _ _ hI.on)).1
  have BK:Hq (∀wr:World,(∀b o,¬s.F b→W.heap[b]?=some o→wr.heap[b]?=some o)→bL (dI w6.heap.size) W wr):=hQQ fun wr h k q=>by
   have hk:k<W.heap.size:=by rcases q with q|q<;>omega
   rw[Array.getElem?_eq_getElem hk]
   exact h k _ (fun r=>by rcases hI.on.from' k r with z|z;have:=hF6 _ z;rcases q with q|q<;>omega;rcases q with q|q<;>omega) (Array.getElem?_eq_getElem hk)
  clear hI hRt
  gi_wp2
  clear cb
  gi_loopw [11] (fun u wr=>∃(j:Nat) (D1:List KV) (F1:Nat→Prop),j≤wy.length∧u=.int .i64 (j:Int)∧OnV w6 wr F T p kn n D1 F1∧lI c.us c.pg c.st (wy.drop j) s.a kn D1=Rt∧W.heap.size≤wr.heap.size∧(∀b o,¬s.F b→W.heap[b]?=some o→wr.heap[b]?=some o)∧(∀b,F1 b→s.F b∨W.heap.size≤b)) (fun u _=>wy.length-(intOf u).toNat)
  case atStart=>exact⟨0,s.D,s.F,Nat.zero_le _,rfl,HI.o.on,HRT.o,Nat.le_refl _,fun _ _ _ h=>h,fun _ h=> .inl h⟩
  case round =>
   obtain⟨j,D1,F1,hj,rfl,hon,hsem,hsw,hkeep,hfrom⟩:=hrel
   have ON:=hQQ hon
   have KP:=hQQ hkeep
   have FR:=hQQ hfrom
   have SW:=hQQ hsw
   have KP3:Hq (∀(S:Nat→Prop) (X:World),Turned S wr X→(∀b,S b→F1 b)→∀b o,¬s.F b→W.heap[b]?=some o→X.heap[b]?=some o):=hQQ fun S X t hS b o nb hb=>(t.block b (ac (hkeep b o nb hb)) (fun q=>by
    rcases hfrom b (hS b q) with r|r
    ·exact nb r
    ·have:=ac hb;omega)).trans (hkeep b o nb hb)
   by_cases hlt:j<wy.length
   ·have d1:decide ((j:Int)<(wy.length:Int))=true:=by simp;omega
    have q3:IntKind.i64.wrap ((j:Int)+1)=(j:Int)+1:=az (by omega) (by omega)
    obtain⟨v,hc,hway⟩:=KW.o _ _ _ hon j hlt
    have hdr:wy.drop j=wy[j]::wy.drop (j+1):=List.drop_eq_getElem_cons hlt
    have hmem:=HO.o wy[j] (List.getElem_mem hlt)
    rw[hdr] at hsem
    have hsem':ak (Am c.us c.pg c.st wy[j] s.a) (fun b=>if b then ay () else lI c.us c.pg c.st (wy.drop (j+1)) s.a) kn D1=Rt:=hsem
    have HS:=hQQ hsem'
    generalize wy[j]=y at hway hmem HS
    have HM:=hQQ hmem
    obtain⟨ksz,kf0,kfb⟩:=KS.o _ _ _ hon
    have CK:Hq (∀f lb',v=.func (.func f) #[] lb'→f=f):=hQQ fun _ _ _=>rfl
    have HCALL:Hq (∃f lb',v=.func (.func f) #[] lb'∧(f=103∨f=86)∧Calls Tryz.prog f (#[.int .i64 s.a]++lb') wr (aG wr F1 p kn (fun b:Bool=> .bool b) (Am c.us c.pg c.st y s.a kn D1))):=hQQ (by
     cases y with
     |room b l =>
      obtain⟨vb,sb,rfl,h1,h2,_,_⟩:=hway
      exact⟨_,_,rfl,.inl rfl,Ld F1 p kn D1 wr hon.view HK.o hon.inv hmem HWD.o vb sb h1 h2⟩
     |home =>
      obtain⟨vb,lb',rfl,h1,h2,_,_⟩:=hway
      exact⟨_,_,rfl,.inr rfl,Le F1 p kn D1 wr hon.view HK.o hon.inv HR.o HH.o hn bt ksz kf0 kfb s.a vb lb' h1 h2⟩)
    clear hon hsem hsem' hsw hkeep hfrom hway hmem ksz kf0 kfb hdr CK
    obtain⟨f,lb',rfl,hf,hcall⟩:=HCALL.o
    have hcall:=hQQ hcall
    clear HCALL
    rcases hf with rfl|rfl
    ·skip
     gi_wp2
     refine⟨trivial,(CallsIn.inRound l (callsIn_wide.2 hcall.o)).mono ?_⟩
     intro e W3 he
     cases hE:Am c.us c.pg c.st y s.a kn D1 with
     |need a =>
      rw[hE] at he
      obtain⟨rfl,hend,ht⟩:=oq.of ON.o (by have:=SW.o;omega) (ae.refl wr) he
      exact⟨BK.o W3 (KP3.o F1 W3 ht (fun _ q=>q)),rfl,rfl,a,HND.o a (HS.o.symm.trans (ag hE)),hend⟩
     |ok b D3 =>
      rw[hE] at he
      obtain⟨rfl,F3,hv3,ht3,hn3⟩:=he
      have hi3:=((uo HH.o HM.o HWD.o).ok HK.o ON.o.inv hE).1
      have ON3:Hq (OnV w6 W3 F T p kn n D3 F3):=hQQ ⟨hv3,fun k q=>by
       rcases hn3 k q with r|r
       ·exact ON.o.from' k r
       ·have:=SW.o;exact .inr (by omega),am ON.o.turn ht3 (fun k q=>(ON.o.from' k q).imp .inl (fun r=>by omega)),hi3⟩
      have KP4:=hQQ (KP3.o F1 W3 ht3 (fun _ q=>q))
      have FR4:Hq (∀b,F3 b→s.F b∨W.heap.size≤b):=hQQ fun b q=>by
       rcases hn3 b q with r|r
       ·exact FR.o b r
       ·have:=SW.o;exact .inr (by omega)
      have SW4:=hQQ (Nat.le_trans SW.o ht3.size)
      have HS3:=hQQ ((aj hE).symm.trans HS.o)
      clear hv3 ht3 hn3 hi3 hE hcall KP FR SW ON
      cases b with
      |true =>
       obtain⟨s',r1,r2,r3,z⟩:=HDID.o W3 D3 F3 HS3.o.symm SW4.o KP4.o FR4.o
       have FI:Hq (mQ It w6.heap.size (LvO w6 F T p kn n Z) (LvX w6 F T p Need) s W .normal { tmps:= #[],defers:= [] } W3):=hQQ ⟨BK.o W3 KP4.o,s',r1,by rw[r2,r3];exact ON3.o,z⟩
       clear r1 r2 r3 z
       gi_wp2
       exact FI.o
      |false =>
       gi_wp2
       go_roundw
       case rel=>exact⟨j+1,D3,F3,by omega,by go_num,ON3.o,HS3.o,SW4.o,KP4.o,FR4.o⟩
       case measure=>simp[intOf];omega
    ·skip
     gi_wp2
     refine⟨trivial,(CallsIn.inRound l (callsIn_wide.2 hcall.o)).mono ?_⟩
     intro e W3 he
     cases hE:Am c.us c.pg c.st y s.a kn D1 with
     |need a =>
      rw[hE] at he
      obtain⟨rfl,hend,ht⟩:=oq.of ON.o (by have:=SW.o;omega) (ae.refl wr) he
      exact⟨BK.o W3 (KP3.o F1 W3 ht (fun _ q=>q)),rfl,rfl,a,HND.o a (HS.o.symm.trans (ag hE)),hend⟩
     |ok b D3 =>
      rw[hE] at he
      obtain⟨rfl,F3,hv3,ht3,hn3⟩:=he
      have hi3:=((uo HH.o HM.o HWD.o).ok HK.o ON.o.inv hE).1
      have ON3:Hq (OnV w6 W3 F T p kn n D3 F3):=hQQ ⟨hv3,fun k q=>by
       rcases hn3 k q with r|r
       ·exact ON.o.from' k r
       ·have:=SW.o;exact .inr (by omega),am ON.o.turn ht3 (fun k q=>(ON.o.from' k q).imp .inl (fun r=>by omega)),hi3⟩
      have KP4:=hQQ (KP3.o F1 W3 ht3 (fun _ q=>q))
      have FR4:Hq (∀b,F3 b→s.F b∨W.heap.size≤b):=hQQ fun b q=>by
       rcases hn3 b q with r|r
       ·exact FR.o b r
       ·have:=SW.o;exact .inr (by omega)
      have SW4:=hQQ (Nat.le_trans SW.o ht3.size)
      have HS3:=hQQ ((aj hE).symm.trans HS.o)
      clear hv3 ht3 hn3 hi3 hE hcall KP FR SW ON
      cases b with
      |true =>
       obtain⟨s',r1,r2,r3,z⟩:=HDID.o W3 D3 F3 HS3.o.symm SW4.o KP4.o FR4.o
       have FI:Hq (mQ It w6.heap.size (LvO w6 F T p kn n Z) (LvX w6 F T p Need) s W .normal { tmps:= #[],defers:= [] } W3):=hQQ ⟨BK.o W3 KP4.o,s',r1,by rw[r2,r3];exact ON3.o,z⟩
       clear r1 r2 r3 z
       gi_wp2
       exact FI.o
      |false =>
       gi_wp2
       go_roundw
       case rel=>exact⟨j+1,D3,F3,by omega,by go_num,ON3.o,HS3.o,SW4.o,KP4.o,FR4.o⟩
       case measure=>simp[intOf];omega
   ·obtain rfl:j=wy.length:=by omega
    have d1:decide ((wy.length:Int)<(wy.length:Int))=false:=by simp
    rw[List.drop_length] at hsem
    obtain⟨s',r1,r2,r3,z⟩:=HDID.o wr D1 F1 hsem.symm SW.o KP.o FR.o
    have FI:Hq (mQ It w6.heap.size (LvO w6 F T p kn n Z) (LvX w6 F T p Need) s W .normal { tmps:= #[],defers:= [] } wr):=hQQ ⟨BK.o wr KP.o,s',r1,by rw[r2,r3];exact ON.o,z⟩
    clear r1 r2 r3 z hsem hon hsw hkeep hfrom
    gi_wp2
    exact FI.o
 case done =>
  rintro s W hI hdf
  have hon:=hI.on.view.keepS (S:=fun k=>k=w6.heap.size) (w':=W.putObj w6.heap.size (.deferred none)) (fE (Turned.refl _ W) _ _ (fun _=>rfl)) (fun k q e=>by subst e;rcases hI.on.from' _ q with r|r;have:=hF6 _ r;omega;omega) (fun k es cl e q=>by subst e;rw[hdf] at q;cases q)
  have ht:Turned (fun b=>F b∨T b) w (W.putObj w6.heap.size (.deferred none)):=fE (Turned.trans (Turned.mono m6 (fun _ _ q=>q.elim)) hI.on.turn) _ _ (fun q=>by omega)
  have FIN:Hq (O3 w F T p kn n Z2 Need (.returned (.tuple #[])) (W.putObj w6.heap.size (.deferred none))):=hQQ (.inr ⟨s,rfl,hon,ht,fun k q=>(hI.on.from' k q).imp id (fun r=>by omega),hI.on.inv,HL.o.sZ2.put hI.z (.deferred none) hdf rfl⟩)
  clear hon ht
  refine⟨by simp,.inl ⟨_,_,rfl,run_takeDeferred hdf,?_⟩⟩
  refine⟨.tuple #[],?_,FIN.o⟩
  simp[results,Tryz.f47,go_sem]
 case stop =>
  rintro e cc W hj hx hdf
  cases e<;>cases hx<;>cases hj
 case dies =>
  rintro ch W ⟨h1,a,h2,h3⟩ hdf
  have h4:=h3.put hdf rfl (Nat.le_refl _) (.deferred none)
  exact⟨by simp,.inl ⟨_,_,rfl,run_takeDeferred hdf,.inl ⟨a,h2,by rw[h1],h4.1,Turned.trans (Turned.mono m6 (fun _ _ q=>q.elim)) h4.2⟩⟩⟩
theorem cL.cells {F:Nat→Prop}{A B:World}{f:Nat→Value}{P:Nat→List Int}(h:cL F A f P)(s:∀(k:Nat)(cs:Array Value)(t:TypeId)(fr:Nat×Nat),A.heap[k]?=some (.cells cs t fr)→B.heap[k]?=some (.cells cs t fr)):cL F B f P:=by
 refine⟨fun c hc=>?_,h.2⟩
 obtain⟨a,cap,hv,h1,h2,z⟩:=h.1 c hc
 refine⟨a,cap,hv,h1,h2,z.imp id ?_⟩
 rintro⟨g,cur,rfl,hg,r⟩
 exact⟨g,cur,rfl,s _ _ _ _ hg,r⟩
structure LsZ (N:Nat→Prop)(nb qb cb pb m:Nat)(k:Int)(Sem:LsS→Prop)(s:LsS)(A:World):Prop where
 bn:et A nb m
 bq:A.heap[qb]?=some (.cells #[.pointer (some ⟨pb,0,none⟩)] 102 (0,0))
 bc:et A cb k
 pu:∃f,A.heap[pb]?=some (.cells (puA f) 32 (0,0))∧cL (fun q=>N q∨s.F q) A f s.P
 nf:¬s.F nb∧¬s.F qb∧¬s.F cb∧¬s.F pb
 ne:nb≠pb∧qb≠pb∧cb≠pb
 len:pR s.P∧∀j,j<5→(s.P j).length≤1000000
 sem:Sem s
theorem LsZ.stays (N:Nat→Prop)(nb qb cb pb m:Nat)(k:Int)(Sem:LsS→Prop):n6 (LsZ N nb qb cb pb m k Sem):=fun s A B h _ t =>
 ⟨t _ _ _ _ h.bn,t _ _ _ _ h.bq,t _ _ _ _ h.bc,by obtain⟨f,h1,h2⟩:=h.pu;exact⟨f,t _ _ _ _ h1,h2.cells t⟩,h.nf,h.ne,h.len,h.sem⟩
def Pa (w:World)(F N:Nat→Prop)(pb p:Nat)(kn:Int→Option Int)(n:Nat)(R:Res (Nat→List Int))(e:Ending)(w':World):Prop :=
 match R with
 | .need a=>e=.panicked (bg p)∧bB w' p a∧Turned (fun b=>F b∨b=pb) w w'
 | .ok P D=>e=.returned (.tuple #[])∧∃f F',aD w' F' p kn D∧Turned (fun b=>F b∨b=pb) w w'∧(∀k,F' k→F k∨w.heap.size≤k)∧cC n D∧w'.heap[pb]?=some (.cells (puA f) 32 (0,0))∧cL (fun q=>N q∨F' q) w' f P
theorem Lf {c:Cfg}{n:Nat}(F N:Nat→Prop)(p:Nat)(kn:Int→Option Int)(w:World)(wy:List WayD)(nb qb cb pb m:Nat)(k:Int)(Rr:Res (Nat→List Int))(hF:∀k,F k→k<w.heap.size)(hN:∀k,N k→k<w.heap.size)(hpb:pb<w.heap.size∧¬F pb):
 LvH w F (fun b=>b=pb) p kn n c wy (CD nb qb cb pb m k) (LsZ N nb qb cb pb m k fun s=>s.i≤m∧dF c.us c.pg c.st wy k (m-s.i) s.P kn s.D=Rr)
  (LsZ N nb qb cb pb m k fun s=>s.i≤m∧W64 s.a∧ak (lI c.us c.pg c.st wy s.a) (fun _=>dF c.us c.pg c.st wy k (m-s.i) s.P) kn s.D=Rr)
  (LsZ N nb qb cb pb m k fun s=>Rr=.ok s.P s.D) (fun a=>Rr=.need a) where
 enc s:=rfl
 sZ:=LsZ.stays N nb qb cb pb m k _
 sZ':=LsZ.stays N nb qb cb pb m k _
 sZ2:=LsZ.stays N nb qb cb pb m k _
 see w6 s A _ h:=by
  obtain⟨f,h1,h2⟩:=h.z.pu
  exact⟨h.z.bn,h.z.bq,h.z.bc,f,h1,h2.1,h.z.len.2⟩
 own w6 s s' A B hle hsz h o:=by
  obtain⟨hi,hb,rfl,f,f',b1,b2,t,pu,pn⟩:=o
  obtain⟨f0,g1,g2⟩:=h.z.pu
  obtain⟨g,hg⟩:∃g,g=puA f:=⟨_,rfl⟩
  have hff:∀j,j<5→f j=f0 j:=fun j hj=>by
   rw[b1] at g1
   have e:puA f=puA f0:=by injection g1 with g1;injection g1 with g1
   have:=xV f hj
   rw[e,xV f0 hj] at this
   exact(Option.some.inj this).symm
  have keep:∀b o,b≠pb→A.heap[b]?=some o→B.heap[b]?=some o:=fun b o nb ho=>(t.block b (ac ho) nb).trans ho
  refine⟨bL.turned t (fun j q=>by rcases q with q|q<;>omega) (fun j q r=>by rcases q with q|q<;>omega),⟨?_,?_⟩⟩
  ·refine⟨h.on.view.keepS t (fun j q e=>h.z.nf.2.2.2 (e▸q)) (fun j es cl e q=>by subst e;rw[b1] at q;cases q),h.on.from',am h.on.turn t (fun j q=> .inl (.inr q)),h.on.inv⟩
  ·refine⟨keep _ _ h.z.ne.1 h.z.bn,keep _ _ h.z.ne.2.1 h.z.bq,keep _ _ h.z.ne.2.2 h.z.bc,⟨f',b2,pu,pn.mono fun q z=>?_⟩,h.z.nf,h.z.ne,⟨ul h.z.len.1 k,fun j hj=>Nat.le_trans (um s.P k j) (h.z.len.2 j hj)⟩,?_⟩
   ·rcases z with⟨c,hc,e⟩|z
    ·exact g2.2 c hc q (by rw[←hff c hc];exact e)
    ·rintro(y|y)
     ·have:=hN q y
      have:=h.on.turn.size
      omega
     ·have:=h.on.view.lt q y
      omega
   ·obtain⟨q1,q2⟩:=h.z.sem
    refine⟨by show s.i+1≤m;omega,uk h.z.len.1 hb,?_⟩
    rw[show m-s.i=(m-(s.i+1))+1 by omega] at q2
    have e:dF c.us c.pg c.st wy k ((m-(s.i+1))+1) s.P=if gI s.P k then ak (lI c.us c.pg c.st wy (hU s.P k)) (fun _=>dF c.us c.pg c.st wy k (m-(s.i+1)) (gO s.P k)) else ay s.P:=rfl
    rw[e,if_pos hb] at q2
    exact q2
 fin w6 s s' A B hle hsz h o:=by
  obtain⟨rfl,hb,mo⟩:=o
  refine⟨mU mo (fun j q=>by rcases q with q|q<;>omega),h.on.more mo,?_⟩
  have h2:=(LsZ.stays N nb qb cb pb m k _).more h.z mo
  refine⟨h2.bn,h2.bq,h2.bc,h2.pu,h2.nf,h2.ne,h2.len,?_⟩
  obtain⟨q1,q2⟩:=h.z.sem
  rcases Nat.lt_or_ge s'.i m with hlt|hge
  ·have hb:=hb.resolve_left (by omega)
   rw[show m-s'.i=(m-(s'.i+1))+1 by omega] at q2
   have e:dF c.us c.pg c.st wy k ((m-(s'.i+1))+1) s'.P=if gI s'.P k then ak (lI c.us c.pg c.st wy (hU s'.P k)) (fun _=>dF c.us c.pg c.st wy k (m-(s'.i+1)) (gO s'.P k)) else ay s'.P:=rfl
   rw[e,if_neg (by rw[hb];simp)] at q2
   exact q2.symm
  ·rw[show m-s'.i=0 by omega] at q2
   exact q2.symm
 ned w6 s ch A B _ _ _ o:=o.elim
 skp w6 s s' A B _ _ _ o:=o.elim
 rel s s' A B l r0 r1 r r' _ _ h:=h
 word s A h:=h.sem.2.1
 did s A B D1 F1 h hD e hsz hk hf:=by
  have keep:∀b o,¬s.F b→A.heap[b]?=some o→B.heap[b]?=some o:=hk
  obtain⟨f,g1,g2⟩:=h.pu
  have nf:∀b o,¬s.F b→A.heap[b]?=some o→¬F1 b:=fun b o nb ho q=>by
   rcases hf b q with r|r
   ·exact nb r
   ·have:=ac ho;omega
  refine⟨⟨s.i,s.P,D1,F1,s.a⟩,rfl,rfl,rfl,keep _ _ h.nf.1 h.bn,keep _ _ h.nf.2.1 h.bq,keep _ _ h.nf.2.2.1 h.bc,⟨f,keep _ _ h.nf.2.2.2 g1,g2.stayN hk hf⟩,⟨nf _ _ h.nf.1 h.bn,nf _ _ h.nf.2.1 h.bq,nf _ _ h.nf.2.2.1 h.bc,nf _ _ h.nf.2.2.2 g1⟩,h.ne,h.len,h.sem.1,?_⟩
  exact(aj e).symm.trans h.sem.2.2
 nd s A a h e:=h.sem.2.2.symm.trans (ag e)
theorem rC {c:Cfg}(R:c.Ok){n:Nat}(H:cB c.pg c.st n)(hn:n≤10000){bt:Nat}{w:World}(F N:Nat→Prop)(hN:∀k,N k→k<w.heap.size)(p:Nat)(kn:Int→Option Int)(D:List KV)(hk:OkK kn){wy:List WayD}(hok:∀y∈wy,jw n y)(hwl:wy.length≤1000)(nb qb cb pb m:Nat)(hm:m≤1000000)(k:Int)(f:Nat→Value)(P:Nat→List Int)
 (hv:aD w F p kn D) (hD:cC n D) (hs:dd bt w) (nF0:¬F 0) (nFb:¬F bt) (np0:pb≠0) (npb:pb≠bt)
 (bn:et w nb m) (bq:w.heap[qb]?=some (.cells #[.pointer (some ⟨pb,0,none⟩)] 102 (0,0))) (bc:et w cb k) (bp:w.heap[pb]?=some (.cells (puA f) 32 (0,0))) (pu:cL (fun q=>N q∨F q) w f P)
 (nf:¬F nb∧¬F qb∧¬F cb∧¬F pb) (ne:nb≠pb∧qb≠pb∧cb≠pb) (hW:pR P) (hl:∀j,j<5→(P j).length≤1000000)
 (wb cap:Nat) (hwb:wb<w.heap.size∧¬F wb∧wb≠pb) (hwy:∀j (hj:j<wy.length),∃v,w.cell? ⟨wb,j,none⟩=some v∧ux c p w (fun b=>F b∨b=pb) wy[j] v):
 Calls Tryz.prog 47 #[.func (.func 85) #[] #[.pointer (some ⟨nb,0,none⟩),.pointer (some ⟨qb,0,none⟩),.pointer (some ⟨cb,0,none⟩)],.slice (some ⟨wb,0,none⟩) wy.length cap] w (Pa w F N pb p kn n (dF c.us c.pg c.st wy k m P kn D)):=by
 refine(Eg R H hn F (fun b=>b=pb) p kn hk hok hwl (enters_of Tryz.func85 (by kernel_rfl) rfl) ⟨0,P,D,F,0⟩ w (Lf F N p kn w wy nb qb cb pb m k _ hv.lt hN ⟨ac bp,nf.2.2.2⟩) (CE 2 (by omega) nb qb cb pb m hm k _ w rfl) rfl hv hD
  ⟨bn,bq,bc,⟨f,bp,pu⟩,nf,ne,⟨hW,hl⟩,Nat.zero_le _,rfl⟩ hs nF0 nFb (fun j q=>by subst q;exact⟨ac bp,nf.2.2.2⟩) (fun e=>np0 e.symm) (fun e=>npb e.symm) wb cap hwb hwy).mono ?_
 rintro e w' (⟨a,hN,rfl,hd,ht⟩|⟨s,rfl,hv',ht,hf,hi,hz⟩)
 ·have hN:dF c.us c.pg c.st wy k m P kn D=.need a:=hN
  rw[hN]
  exact⟨rfl,hd,ht⟩
 ·have hS:dF c.us c.pg c.st wy k m P kn D=.ok s.P s.D:=hz.sem
  rw[hS]
  obtain⟨f',g1,g2⟩:=hz.pu
  exact⟨rfl,f',s.F,hv',ht,hf,hi,g1,g2⟩
theorem NH (c:Cfg)(W:World):(Instr.field 23 (.agg #[.int .i64 c.wk,.int .i64 c.cp,.int .i64 c.pg,.int .i64 c.st,.int .i64 c.tr,.int .i64 c.wt,.int .i64 c.ck,.int .i64 c.pr,.int .i64 c.ca,.int .i64 c.bi,.int .i64 c.ba]) 1).run Tryz.prog W=.ok (.int .i64 c.cp) W:=by kernel_rfl
theorem CG (c:Cfg)(W:World):(Instr.field 23 (.agg #[.int .i64 c.wk,.int .i64 c.cp,.int .i64 c.pg,.int .i64 c.st,.int .i64 c.tr,.int .i64 c.wt,.int .i64 c.ck,.int .i64 c.pr,.int .i64 c.ca,.int .i64 c.bi,.int .i64 c.ba]) 7).run Tryz.prog W=.ok (.int .i64 c.pr) W:=by kernel_rfl
theorem NI (c:Cfg)(W:World):(Instr.field 23 (.agg #[.int .i64 c.wk,.int .i64 c.cp,.int .i64 c.pg,.int .i64 c.st,.int .i64 c.tr,.int .i64 c.wt,.int .i64 c.ck,.int .i64 c.pr,.int .i64 c.ca,.int .i64 c.bi,.int .i64 c.ba]) 8).run Tryz.prog W=.ok (.int .i64 c.ca) W:=by kernel_rfl
theorem NJ (c:Cfg)(W:World):(Instr.field 23 (.agg #[.int .i64 c.wk,.int .i64 c.cp,.int .i64 c.pg,.int .i64 c.st,.int .i64 c.tr,.int .i64 c.wt,.int .i64 c.ck,.int .i64 c.pr,.int .i64 c.ca,.int .i64 c.bi,.int .i64 c.ba]) 9).run Tryz.prog W=.ok (.int .i64 c.bi) W:=by kernel_rfl
theorem Jm (c:Cfg)(W:World):(Instr.field 23 (.agg #[.int .i64 c.wk,.int .i64 c.cp,.int .i64 c.pg,.int .i64 c.st,.int .i64 c.tr,.int .i64 c.wt,.int .i64 c.ck,.int .i64 c.pr,.int .i64 c.ca,.int .i64 c.bi,.int .i64 c.ba]) 10).run Tryz.prog W=.ok (.int .i64 c.ba) W:=by kernel_rfl
theorem Ar (b l:Int)(W:World):(Instr.build 96 #[(0,.int .i64 b),(1,.int .i64 l)]).run Tryz.prog W=.ok (.agg #[.int .i64 b,.int .i64 l]) W:=run_build W _ _ _ (by kernel_rfl)
def caV (d:Cfg)(u k:Int):Int:=og d.cp d.pg d.st d.ca u k
def biV (d:Cfg)(k:Int):Int:=Ew d.cp d.pg d.st d.ca d.bi k
theorem sf {c:Cfg}(R:c.Ok)(u k:Int)(w:World):Calls Tryz.prog 64 #[.agg c.arr,.int .i64 u,.int .i64 k] w (aP w (.bool (caV c u k != 0))):=by
 obtain⟨w1,e1,hl1,m1,s1⟩:=a6 w (.cells c.arr 28)
 have MM:=hQQ m1
 have L0:=hQQ hl1
 have HC:=hQQ (Ha R w1 u k)
 clear hl1 m1 R
 go_enter Tryz.func64,Tryz.ntmps64
 go_wp2_with (refine aK rfl rfl rfl L0.o (by kernel_rfl) ?_)
 refine HC.o.mono ?_
 rintro e w2 ⟨rfl,h2⟩
 have M2:=hQQ (MM.o.trans h2)
 clear h2
 go_wp2_with fail
 go_ret
 exact⟨rfl,M2.o⟩
theorem yc {c:Cfg}(R:c.Ok)(u k:Int)(w:World):Calls Tryz.prog 74 #[.agg c.arr,.int .i64 u,.int .i64 k] w (aP w (.agg #[.int .i64 (caV c u k),.int .i64 c.ca])):=by
 obtain⟨w2,e2,hl1,hl2,m2,s2⟩:=gT w (.cells c.arr 28) (.cells #[.int .i64 0,.int .i64 0] 96)
 have MM:=hQQ m2
 have L0:=hQQ hl1
 have L1:=hQQ hl2
 have HR:=hQQ R
 have hf:=NI c
 have hb:=Ar (caV c u k) c.ca
 clear hl1 hl2 m2 R
 go_enter Tryz.func74,Tryz.ntmps74
 go_wp2_with fail
 refine bM 8 (by kernel_rfl) (by kernel_rfl) ?_
 simp only[List.take_succ_cons,List.take_zero,List.drop_succ_cons,List.drop_zero]
 refine aN rfl 28 _ rfl _ rfl 28 _ _ _ (fun W hW=>hW.block L0.o) Tryz.underlying28 rfl (by kernel_rfl) ?_
 iterate 2
  with_reducible refine wpQuiet_step (fun K hK=>?_)
  go_simp
  first
  |(refine hK _ ?_;clear hK K)
  |(apply Exists.intro
    refine⟨fun W hW=>?_,hK _ ?_⟩
    first
    |(go_simp;try rfl)
    clear hK K)
 iterate 1
  with_reducible refine wpQuiet_step (fun K hK=>?_)
  go_simp
  first
  |(refine hK _ ?_;clear hK K)
  |(apply Exists.intro
    refine⟨fun W hW=>?_,hK _ ?_⟩
    first
    |(have hc:=Ha HR.o W u k;go_at_call 28;exact Calls.more hW hc)
    clear hK K)
 refine aN rfl 28 _ rfl _ rfl 28 _ _ _ (fun W hW=>hW.block L0.o) Tryz.underlying28 rfl (by kernel_rfl) ?_
 iterate 1
  with_reducible refine wpQuiet_step (fun K hK=>?_)
  go_simp
  first
  |(refine hK _ ?_;clear hK K)
  |(apply Exists.intro
    refine⟨fun W hW=>?_,hK _ ?_⟩
    first
    |(go_at_call 20;exact Calls.more hW (dD HR.o W))
    clear hK K)
 iterate 2
  with_reducible refine wpQuiet_step (fun K hK=>?_)
  go_simp
  first
  |(refine hK _ ?_;clear hK K)
  |(apply Exists.intro
    refine⟨fun W hW=>?_,hK _ ?_⟩
    first
    |(go_simp;try rfl)
    clear hK K)
 refine wpQuiet_nil ?_
 intro w4 m4
 have L4:=hQQ (m4.block L1.o)
 have M4:=hQQ (MM.o.trans m4)
 have L5:=hQQ (setRow_heap w4 (w.heap.size+1) _ #[.int .i64 (caV c u k),.int .i64 c.ca] _ _ L4.o)
 have M5:Hq (ae w (w4.setRow (w.heap.size+1) #[.int .i64 (caV c u k),.int .i64 c.ca])):=hQQ (M4.o.setRow _ _ (by omega))
 clear hf hb m4
 go_wp2_with (refine wpList_store_row rfl 96 _ _ rfl _ _ rfl rfl 96 _ L4.o (by kernel_rfl) rfl (by simp[Value.oneCell']) ?_)
 refine bodyPost_ret (v:=.agg #[.int .i64 (caV c u k),.int .i64 c.ca]) (results_cell_row Tryz.results74 _ _ _ 96 _ (0,0) _ rfl L5.o Tryz.underlying96 rfl (by kernel_rfl)) rfl ⟨rfl,M5.o⟩
theorem Jn {c:Cfg}(R:c.Ok)(k:Int)(w:World):Calls Tryz.prog 75 #[.agg c.arr,.int .i64 k] w (aP w (.agg #[.int .i64 (biV c k),.int .i64 c.bi])):=by
 obtain⟨w2,e2,hl1,hl2,m2,s2⟩:=gT w (.cells c.arr 28) (.cells #[.int .i64 0,.int .i64 0] 96)
 have MM:=hQQ m2
 have L0:=hQQ hl1
 have L1:=hQQ hl2
 have HR:=hQQ R
 have hf:=NJ c
 have hb:=Ar (biV c k) c.bi
 clear hl1 hl2 m2 R
 go_enter Tryz.func75,Tryz.ntmps75
 go_wp2_with fail
 refine bM 7 (by kernel_rfl) (by kernel_rfl) ?_
 simp only[List.take_succ_cons,List.take_zero,List.drop_succ_cons,List.drop_zero]
 refine aN rfl 28 _ rfl _ rfl 28 _ _ _ (fun W hW=>hW.block L0.o) Tryz.underlying28 rfl (by kernel_rfl) ?_
 iterate 1
  with_reducible refine wpQuiet_step (fun K hK=>?_)
  go_simp
  first
  |(refine hK _ ?_;clear hK K)
  |(apply Exists.intro
    refine⟨fun W hW=>?_,hK _ ?_⟩
    first
    |(go_simp;try rfl)
    clear hK K)
 iterate 1
  with_reducible refine wpQuiet_step (fun K hK=>?_)
  go_simp
  first
  |(refine hK _ ?_;clear hK K)
  |(apply Exists.intro
    refine⟨fun W hW=>?_,hK _ ?_⟩
    first
    |(have hc:=Pm HR.o W k;go_at_call 29;exact Calls.more hW hc)
    clear hK K)
 refine aN rfl 28 _ rfl _ rfl 28 _ _ _ (fun W hW=>hW.block L0.o) Tryz.underlying28 rfl (by kernel_rfl) ?_
 iterate 1
  with_reducible refine wpQuiet_step (fun K hK=>?_)
  go_simp
  first
  |(refine hK _ ?_;clear hK K)
  |(apply Exists.intro
    refine⟨fun W hW=>?_,hK _ ?_⟩
    first
    |(go_at_call 20;exact Calls.more hW (dD HR.o W))
    clear hK K)
 iterate 2
  with_reducible refine wpQuiet_step (fun K hK=>?_)
  go_simp
  first
  |(refine hK _ ?_;clear hK K)
  |(apply Exists.intro
    refine⟨fun W hW=>?_,hK _ ?_⟩
    first
    |(go_simp;try rfl)
    clear hK K)
 refine wpQuiet_nil ?_
 intro w4 m4
 have L4:=hQQ (m4.block L1.o)
 have M4:=hQQ (MM.o.trans m4)
 have L5:=hQQ (setRow_heap w4 (w.heap.size+1) _ #[.int .i64 (biV c k),.int .i64 c.bi] _ _ L4.o)
 have M5:Hq (ae w (w4.setRow (w.heap.size+1) #[.int .i64 (biV c k),.int .i64 c.bi])):=hQQ (M4.o.setRow _ _ (by omega))
 clear hf hb m4
 go_wp2_with (refine wpList_store_row rfl 96 _ _ rfl _ _ rfl rfl 96 _ L4.o (by kernel_rfl) rfl (by simp[Value.oneCell']) ?_)
 refine bodyPost_ret (v:=.agg #[.int .i64 (biV c k),.int .i64 c.bi]) (results_cell_row Tryz.results75 _ _ _ 96 _ (0,0) _ rfl L5.o Tryz.underlying96 rfl (by kernel_rfl)) rfl ⟨rfl,M5.o⟩
theorem Au (S:Fam)(C:Nat→List Int):∀m,(∀j,j<m→C j= [])→dK S C m= []
 | 0,_=>rfl
 |m+1,h=>by rw[dK,Au S C m (fun j hj=>h j (by omega)),h m (by omega)];rfl
def pU (C:Nat→List Int):Nat→List Int
 | 0=> []
 |m+1=>pU C m++C m
theorem nH (S:Fam)(C:Nat→List Int):∀m,(dK S C m).map (·.1)=pU C m
 | 0=>rfl
 |m+1=>by
  rw[dK,List.map_append,nH S C m,pU]
  simp[Function.comp_def]
section
variable {us pg st:Int}{n:Nat}{S:Fam}(H:cB pg st n)(hS:S.In (bd st pg+62) n)(hn:n≤10000)
include H hS hn
theorem i6 {C:Nat→List Int}{k:Int} :∀(l:List Int) {ws:List Int} {O:List (Int×Int)},FrI us pg st n S ws C ((l.map fun a=>(a,k))++O)→FrI us pg st n S (iJ us pg st l ws) C O
 | [],ws,O,h=>h
 |a::t,ws,O,h=>by
  have h2:FrI us pg st n S ws C ((t.map fun a=>(a,k))++((a,k)::O)):=h.perm (by rw[List.map_cons,List.cons_append];exact List.perm_middle.symm)
  obtain⟨X,e,h3⟩:=(i6 t h2).back H hS hn
  rw[iJ,e]
  exact h3
theorem Gg (P:Nat→List Int){ws:List Int}{C:Nat→List Int}{O:List (Int×Int)}(h:FrI us pg st n S ws C (puO P++O)):FrI us pg st n S (qO us pg st P ws) C O:=by
 have e:puO P++O=((P 0).map fun a=>(a,((0:Nat):Int)))++(((P 1).map fun a=>(a,((1:Nat):Int)))++(((P 2).map fun a=>(a,((2:Nat):Int)))++(((P 3).map fun a=>(a,((3:Nat):Int)))++(((P 4).map fun a=>(a,((4:Nat):Int)))++O)))):=by
  simp[puO,dK,wn]
 rw[e] at h
 unfold qO
 exact i6 H hS hn (P 4) (i6 H hS hn (P 3) (i6 H hS hn (P 2) (i6 H hS hn (P 1) (i6 H hS hn (P 0) h))))
theorem uy {i:Nat}(hi:i<S.m):∀(m:Nat) {ws:List Int} {C:Nat→List Int} {O:List (Int×Int)},FrI us pg st n S ws C O→(C i).length≤m→FrI us pg st n S (io us pg st (S.b i) (S.l i) m ws) (c6 C i []) O
 | 0,ws,C,O,h,hl=>by
   have e:C i= []:=List.length_eq_zero_iff.1 (by omega)
   rw[←e,eN];exact h
 |m+1,ws,C,O,h,hl=>by
  rcases h.pop H hS hn hi with⟨e,e2⟩|⟨xs,x,X,e,e2,h2⟩
  ·have em:io us pg st (S.b i) (S.l i) (m+1) ws=ws:=by simp[io,e2]
   rw[em,←e,eN];exact h
  ·obtain⟨Y,e3,h3⟩:=h2.back H hS hn
   have em:io us pg st (S.b i) (S.l i) (m+1) ws=io us pg st (S.b i) (S.l i) m Y:=by simp[io,e2,e3]
   have:=uy hi m h3 (by unfold c6;simp;rw[e] at hl;simp at hl;omega)
   rw[lj] at this
   rw[em];exact this
theorem Lg {ws:List Int}{C:Nat→List Int}{O:List (Int×Int)}(h:FrI us pg st n S ws C O){i:Nat}(hi:i<S.m):((C i).length:Int)≤S.l i:=(h.keeps i hi).fit
theorem wC {ws:List Int}{C:Nat→List Int}{O:List (Int×Int)}(h:FrI us pg st n S ws C O):∀m,m≤S.m→∃C',FrI us pg st n S (oK us pg st S m ws) C' O∧∀j,j<m→C' j= []
 | 0,_=>⟨C,h,fun j hj=>by omega⟩
 |m+1,hm=>by
  obtain⟨C1,h1,e1⟩:=wC h m (by omega)
  have hf:=Lg H hS hn h1 (i:=m) (by omega)
  refine⟨_,uy H hS hn (i:=m) (by omega) ((S.l m).toNat+1) h1 (by omega),fun j hj=>?_⟩
  unfold c6
  split
  ·rfl
  ·exact e1 j (by omega)
theorem Gh {ws:List Int}{C:Nat→List Int}{O:List (Int×Int)}(h:FrI us pg st n S ws C O):∃C',FrI us pg st n S (oK us pg st S S.m ws) C' O∧dK S C' S.m= []:=by
 obtain⟨C',h1,h2⟩:=wC H hS hn h S.m (Nat.le_refl _)
 exact⟨C',h1,Au S C' S.m h2⟩
theorem Gi {ws:List Int}{C:Nat→List Int}{O:List (Int×Int)}(h:FrI us pg st n S ws C O){m:Nat}(hm:us+32 * pg≤us+m):fw us pg st ws m=(O++dK S C S.m).length:=by
 obtain⟨G,P⟩:=h.pgs
 refine Ga h.nodup h.acc fun p hp=>?_
 obtain⟨a0,a1,_⟩:=xT H P ((h.acc p.1 p.2).2 hp)
 exact⟨a0,by omega⟩
variable (hu:0≤us∧us+32 * pg≤1000000){i0 i1 k:Nat}(h0:i0<S.m)(h1:i1<S.m)(hk:k<5)(k0:S.k i0=k)(k1:S.k i1=k)
include hu h0 h1 hk k0 k1
end
end Go.Proofs.YtddmeghbmdfgeaaGreatDoor
