/-
  The programs of pages over words.
-/
import Derived.Test.YtddmeghbmdfgeaaGreatDoorFeAh
import Derived.Test.YtddmeghbmdfgeaaGreatDoorFeAd
import Derived.Test.YtddmeghbmdfgeaaGreatDoorFeAc
import Derived.Test.YtddmeghbmdfgeaaGreatDoorFeAa
import Derived.Deep.AppendSrc
import Derived.Laws.AppendOwnNone
set_option maxRecDepth 100000
set_option maxHeartbeats 8000000
set_option linter.all false
namespace Go.Proofs.YtddmeghbmdfgeaaGreatDoor
theorem Ef {n:Nat}{zs:List Int}{D:List KV}(hz:OkW zs)(h:cD n D)(hn:zs.length=n):OkW (ce zs D):=by
 subst hn
 intro x hx
 obtain⟨i,hi,rfl⟩:=List.getElem_of_mem hx
 have hl:i<zs.length:=by rw[dY] at hi;exact hi
 have h1:=yX (zs:=zs) h (a:=(i:Int)) (by omega) (by omega)
 have h2:wAt (ce zs D) (i:Int)=(ce zs D)[i]:=by simp[wAt,List.getD,hi]
 rw[←h2]
 exact DA (jI hz) h.ok h1
theorem xR {ws:List Int}(h:OkW ws)(a:Int):W64 (wAt ws a):=by
 unfold wAt
 by_cases e:a.toNat<ws.length
 ·rw[List.getD,List.getElem?_eq_getElem e];exact h _ (List.getElem_mem e)
 ·rw[List.getD,List.getElem?_eq_none (by omega)];unfold W64;constructor<;>decide
theorem tQ {α β:Type}{n:Nat}{p:Prg α}{f:α→Prg β}{g:List Int→α×List Int}{k:α→List Int→β×List Int}{Q:α→Prop}(h:bG n p g)(hq:∀ws,ws.length=n→OkW ws→Q (g ws).1)(hf:∀x,Q x→bG n (f x) (k x)):bG n (aq p f) (fun ws=>k (g ws).1 (g ws).2):=fun zs D hn hz hD=>by
 obtain⟨D1,e1,a1,i1⟩:=h zs D hn hz hD
 obtain⟨D2,e2,a2,i2⟩:=hf (g (ce zs D)).1 (hq _ (by rw[dY];exact hn) (Ef hz hD hn)) zs D1 hn hz i1
 refine⟨D2,?_,?_,i2⟩
 ·rw[aj e1,e2,a1]
 ·rw[a2,a1]
def lm (pg st k x:Int)(ws:List Int):Int×List Int :=
 if x= -1 then(if(iy pg st (jt pg st 1 1 ws) 1 (k+1) ws).1 then jt pg st 1 1 ws else -1,(iy pg st (jt pg st 1 1 ws) 1 (k+1) ws).2) else(x,ws)
def gH (pg st k:Int)(ws:List Int):Int×List Int:=if aw k=0 then(-1,ws) else lm pg st k (dl pg st k (aw k).toNat 1 ws) ws
def qD (pg st q k b:Int)(ws:List Int):List Int:=if dE k b=aw k then(Ec pg st q ws).2 else(ws.set (bA pg st q).toNat b).set (cA pg st q).toNat (dE k b)
def mH (pg st q k was:Int)(ws:List Int):List Int:=(eH pg st q k (cG pg st (cB pg st q k was ws).2 q) (cB pg st q k was ws).2).2
def gI (pg st q k was b:Int)(ws:List Int):List Int:=mH pg st q k was (qD pg st q k b ws)
def oD (us pg st k q:Int)(ws:List Int):(Int×Bool)×List Int :=
 if q= -1 then((0,false),ws) else if bP (c6 pg st ws q) (aw k)= -1 then((0,false),ws)
 else((us+32 * q+bP (c6 pg st ws q) (aw k) * szV k,true),gI pg st q k (cG pg st ws q) (setV (c6 pg st ws q) (bP (c6 pg st ws q) (aw k))) ws)
def dd (us pg st k:Int)(ws:List Int):(Int×Bool)×List Int:=oD us pg st k (gH pg st k ws).1 (gH pg st k ws).2
def lq (pg st q wd x:Int)(ws:List Int):TkA :=
 if aw (IntKind.i64.wrap (x-1))=0 then none else if wd % szV (IntKind.i64.wrap (x-1))≠0 then none
 else some (q,IntKind.i64.wrap (x-1),wd / szV (IntKind.i64.wrap (x-1)),eG (c6 pg st ws q) (wd / szV (IntKind.i64.wrap (x-1))))
def fw (us pg st a:Int)(ws:List Int):TkA:=if us≤a∧a<us+32 * pg then lq pg st ((a-us) / 32) ((a-us) % 32) (aX pg st ws ((a-us) / 32)) ws else none
def xS (pg st:Int)(x:Option (Int×Int×Int))(ws:List Int):Bool×List Int :=
 match x with
 |some (q,k,i)=>(true,gI pg st q k (cG pg st ws q) (clearV (c6 pg st ws q) i) ws)
 |none=>(false,ws)
def gS (us pg st a:Int)(ws:List Int):Bool×List Int:=xS pg st (fB (fw us pg st a ws)) ws
def Cv:Option (Int×Int×Int)→Int×Bool
 |some (_,k,_)=>(k,true)
 |none=>(0,false)
def wl (us pg st a:Int)(ws:List Int):Int×Bool:=Cv (fB (fw us pg st a ws))
def tT (pg st k:Int)(ws:List Int):Bool:=dl pg st k (aw k).toNat 1 ws != -1
section
variable {pg st:Int}{n:Nat}(H:cF pg st n)
include H
theorem jv {q:Int}(hq:af pg q=true):(0≤cA pg st q∧cA pg st q<n∧W64 (cA pg st q))∧0≤bA pg st q∧bA pg st q<n∧W64 (bA pg st q):=by
 obtain⟨_,⟨b0,b1,b2⟩,c0,c1,c2⟩:=cm H.toPgIn hq
 exact⟨⟨by omega,b1,b2⟩,by omega,c1,c2⟩
theorem FO (k:Int)(m:Nat)(ws:List Int):∀f,dl pg st k m f ws= -1∨af pg (dl pg st k m f ws)=true:=by
 induction m with
 |zero=>intro f;exact .inl rfl
 |succ m ih =>
  intro f
  show(if _ then _ else _)= -1∨af pg (if _ then _ else _)=true
  split
  ·exact ih _
  ·exact tO H _ _
theorem zR {k:Int}(hk:0≤k∧k≤4)(x:Int):bG n (if x= -1 then aq (kZ pg st 1 1) (fun y=>aq (jo pg st y 1 (k+1)) fun b=>ay (if b then y else -1)) else ay x) (lm pg st k x):=by
 unfold lm
 exact bI (fun _=>aA (Fz H.toPgIn 1 1) fun y=>aA (Fv H.toPgIn y 1 (k+1) (by unfold W64;omega) vS) fun b=>au n _) (fun _=>au n x)
theorem Cw (k:Int):bG n (li pg st k) (gH pg st k):=by
 unfold li gH
 exact bI (fun _=>au n _) (fun h=>aA (nX H k _ 1) fun x=>zR H (fl h) x)
theorem FP {y m k:Int}{ws:List Int}(h:(iy pg st y m k ws).1=true):af pg y=true:=by
 unfold iy at h
 split at h
 ·rename_i e
  simp at e
  have:=(tN.1 e.2).1
  have:=dX.1 this
  exact ax.2 ⟨by omega,by omega⟩
 ·cases h
theorem Lh (k:Int)(ws:List Int):(gH pg st k ws).1= -1∨af pg (gH pg st k ws).1=true:=by
 unfold gH
 split
 ·exact .inl rfl
 ·unfold lm
  split
  ·show(if _ then _ else _)= -1∨af pg (if _ then _ else _)=true
   split
   ·rename_i e;exact .inr (FP H e)
   ·exact .inl rfl
  ·exact FO H k _ ws 1
theorem tU {q k b:Int}(hq:af pg q=true)(hb:W64 b):bG n (gF pg st q k b) (fun ws=>((),qD pg st q k b ws)):=by
 obtain⟨⟨b0,b1,b2⟩,c0,c1,c2⟩:=jv H hq
 unfold gF
 refine aU (bI (fun _=>aA (Fw H.toPgIn q) fun _=>au n ()) (fun _=>aA (dg c0 c1 c2 hb) fun _=>aA (dg b0 b1 b2 (x:=dE k b) (by have:=cnt_b b k;unfold W64;omega)) fun _=>au n _)) (fun ws _=>?_)
 unfold qD
 split<;>rfl
theorem tV {q:Int}(hq:af pg q=true)(k was:Int):bG n (iK pg st q k was) (fun ws=>((),mH pg st q k was ws)):=by
 obtain⟨⟨b0,b1,b2⟩,_⟩:=jv H hq
 exact aA (uZ H q k was) fun _=>aA (dW b0 b1) fun f=>aA (zQ H q k f) fun _=>au n ()
theorem Cx (us k:Int){q:Int}(hq:q= -1∨af pg q=true):bG n (if q= -1 then ay (0,false) else aq (cU (bA pg st q)) fun b =>
 if bP b (aw k)= -1 then ay (0,false) else aq (cU (cA pg st q)) fun was =>
  aq (gF pg st q k (setV b (bP b (aw k)))) fun _=>aq (iK pg st q k was) fun _=>ay (us+32 * q+bP b (aw k) * szV k,true)) (oD us pg st k q):=by
 unfold oD
 refine bI (fun _=>au n _) (fun h=>?_)
 have hq:=hq.resolve_left h
 obtain⟨⟨b0,b1,b2⟩,c0,c1,c2⟩:=jv H hq
 refine aU (tQ (Q:=W64) (dW c0 c1) (fun ws _ ho=>xR ho _) fun b hb=>bI (fun _=>au n ((0:Int),false)) fun _=>aA (dW b0 b1) fun was=>aA (tU H hq (rY hb _)) fun _=>aA (tV H hq k was) fun _=>au n (us+32 * q+bP b (aw k) * szV k,true)) (fun ws _=>?_)
 rfl
theorem qE (us k:Int):bG n (ku us pg st k) (dd us pg st k):=
 ge (Q:=fun q=>q= -1∨af pg q=true) (Cw H k) (fun ws _=>Lh H k ws) fun q hq=>Cx H us k hq
theorem zS {q:Int}(hq:af pg q=true)(wd x:Int):bG n (jr pg st q wd x) (fun ws=>(lq pg st q wd x ws,ws)):=by
 obtain⟨_,c0,c1,c2⟩:=jv H hq
 unfold jr
 refine aU (bI (fun _=>au n _) (fun _=>bI (fun _=>au n _) (fun _=>aA (dW c0 c1) fun b=>au n _))) (fun ws _=>?_)
 unfold lq
 split
 ·rfl
 ·split<;>rfl
theorem zT {q:Int}(hq:af pg q=true)(wd:Int):bG n (aq (eN pg st q) fun x=>jr pg st q wd x) (fun ws=>(lq pg st q wd (aX pg st ws q) ws,ws)):=
 aU (aA (kw H.toPgIn q) fun x=>zS H hq wd x) (fun ws _=>rfl)
theorem tW (us a:Int):bG n (fT us pg st a) (fun ws=>(fw us pg st a ws,ws)):=by
 unfold fT
 generalize hq:(a-us) / 32=q
 generalize hw:(a-us) % 32=wd
 refine aU (bI (fun h=>zT H (by rw[←hq];exact(nr h).1) wd) (fun _=>au n (none:TkA))) (fun ws _=>?_)
 unfold fw
 rw[hq,hw]
 split<;>rfl
theorem Li {us a:Int}{ws:List Int}{q k i:Int}{t:Bool}(h:fw us pg st a ws=some (q,k,i,t)):af pg q=true∧0≤k∧k≤4:=by
 unfold fw at h
 split at h
 ·rename_i hin
  unfold lq at h
  split at h
  ·cases h
  ·rename_i hz
   split at h
   ·cases h
   ·cases h
    have:=fl hz
    exact⟨(nr hin).1,this.1,this.2⟩
 ·cases h
theorem ve {q:Int}(hq:af pg q=true)(k i:Int):bG n (mw pg st q k i) (fun ws=>(true,gI pg st q k (cG pg st ws q) (clearV (c6 pg st ws q) i) ws)):=by
 obtain⟨⟨b0,b1,b2⟩,c0,c1,c2⟩:=jv H hq
 refine aU (aA (dW b0 b1) fun was=>tQ (Q:=W64) (dW c0 c1) (fun ws _ ho=>xR ho _) fun b hb=>aA (tU H hq (kt hb i)) fun _=>aA (tV H hq k was) fun _=>au n true) (fun ws _=>?_)
 rfl
theorem zU (x:Option (Int×Int×Int))(hx:∀q k i,x=some (q,k,i)→af pg q=true):bG n (Ck pg st x) (xS pg st x):=by
 cases x with
 |none=>exact au n _
 |some y =>
  obtain⟨q,k,i⟩:=y
  exact ve H (hx q k i rfl) k i
theorem wn (us a:Int):bG n (rj us pg st a) (gS us pg st a):=
 ge (k:=fun x ws=>xS pg st (fB x) ws) (Q:=fun x:TkA=>∀q k i t,x=some (q,k,i,t)→af pg q=true) (tW H us a) (fun ws _ q k i t e=>(Li H e).1) fun x hx=>zU H _ fun q k i e=>hx q k i true (hH e)
theorem Cy (x:Option (Int×Int×Int)):bG n (tD x) (fun ws=>(Cv x,ws)):=by
 cases x with
 |none=>exact au n _
 |some y=>exact au n _
theorem FQ (us a:Int):bG n (tE us pg st a) (fun ws=>(wl us pg st a ws,ws)):=
 aA (k:=fun x ws=>(Cv (fB x),ws)) (tW H us a) fun x=>Cy H _
theorem FT (k:Int):bG n (ms pg st k) (fun ws=>(tT pg st k ws,ws)):=aA (nX H k _ 1) fun x=>au n _
end
theorem mI (j:Nat):eO 0 j=false:=by simp[eO,xH]
theorem jw {k:Int} :((endN (aw k):Nat):Int)=aw k:=by
 have:=ep k
 unfold endN;omega
theorem FU (k:Int):dE k 0=aw k:=by
 have:onN 0 (endN (aw k))= []:=List.filter_eq_nil_iff.2 (fun j _=>by rw[mI];simp)
 unfold dE dk
 rw[this];simp
theorem tX {b k:Int}{j:Nat}(hj:(j:Int)<aw k)(hb:eO b j=false):dE k (setV b (j:Int))=dE k b-1:=by
 have hs:=ep k
 have he:=jw (k:=k)
 have:=ND (w:=b) (i:=(j:Int)) (xI (by omega)) (by simpa using hb) (endN (aw k)) (xJ _)
 rw[if_pos (by omega)] at this
 unfold dE dk
 omega
theorem Cz {b k:Int}(h:1≤dE k b):∃j:Nat,bP b (aw k)=(j:Int)∧(j:Int)<aw k∧eO b j=false∧dE k (setV b (j:Int))=dE k b-1:=by
 have he:=jw (k:=k)
 rcases Fk b (endN (aw k)) with⟨_,ha⟩|⟨j,hj,e,hb,_⟩
 ·have:=Ny ha
  unfold dE dk at h
  omega
 ·exact⟨j,e,by omega,hb,tX (by omega) hb⟩
theorem CE {k:Int}(h:aw k≠0):bP 0 (aw k)=0:=by
 have hs:=ep k
 have he:=jw (k:=k)
 exact np (w:=0) (k:=endN (aw k)) (j:=0) (by omega) (mI 0) (fun i hi=>by omega)
theorem CF {b k i:Int}(hw:W64 b)(h0:0≤i)(h1:i<aw k)(h:eG b i=true):dE k (clearV b i)=dE k b+1:=by
 have hs:=ep k
 have hi:inR i=true:=(eZ i).2 ⟨h0,by omega⟩
 obtain⟨j,rfl⟩:∃j:Nat,i=(j:Int):=⟨i.toNat,by omega⟩
 have hb:eO (clearV b (j:Int)) j=false:=by
  have:=vQ (w:=b) hi
  unfold eG at this
  rw[hi] at this
  simpa using this
 have e:=tX (b:=clearV b (j:Int)) (k:=k) h1 hb
 rw[Fj hw.1 hw.2 hi h] at e
 omega
def NoL (pg st i:Int):Prop:=¬dx pg st i∧∀p,af pg p=true→i≠nA pg st p∧i≠vA pg st p
section
variable {pg st:Int}{n:Nat}(H:cF pg st n)
include H
theorem Eg {q:Int}(h:af pg q=true):NoL pg st (kA pg st q):=by
 have:=ax.1 h
 refine⟨fun z=>?_,fun p hp=>?_⟩
 ·unfold dx bo kA at z;omega
 ·have:=ax.1 hp;unfold kA nA vA;omega
theorem zV {q:Int}(h:af pg q=true):NoL pg st (cA pg st q):=by
 have:=ax.1 h
 refine⟨fun z=>?_,fun p hp=>?_⟩
 ·unfold dx bo cA at z;omega
 ·have:=ax.1 hp;unfold cA nA vA;omega
theorem zW {q:Int}(h:af pg q=true):NoL pg st (bA pg st q):=by
 have:=ax.1 h
 refine⟨fun z=>?_,fun p hp=>?_⟩
 ·unfold dx bo bA at z;omega
 ·have:=ax.1 hp;unfold bA nA vA;omega
theorem IY {j:Int}(h:bS pg j=true):NoL pg st (dU pg st j):=by
 have:=dc.1 h
 have h1:=H.pg1
 rw[lT h]
 refine⟨fun z=>?_,fun p hp=>?_⟩
 ·unfold dx bo at z;omega
 ·have:=ax.1 hp;unfold nA vA;omega
theorem d8.kind {a b:List Int}(o:d8 pg st a b)(p:Int):aX pg st b p=aX pg st a p:=by
 cases h:af pg p with
 |false=>rw[iz h,iz h]
 |true =>
  have h0:=(cm H.toPgIn h).1.1
  rw[jN h,jN h,o.off _ (by omega) (Eg H h).1 (Eg H h).2]
theorem d8.cnt {a b:List Int}(o:d8 pg st a b){p:Int}(h:af pg p=true):cG pg st b p=cG pg st a p :=
 o.off _ (jv H h).1.1 (zV H h).1 (zV H h).2
theorem d8.bit {a b:List Int}(o:d8 pg st a b){p:Int}(h:af pg p=true):c6 pg st b p=c6 pg st a p :=
 o.off _ (jv H h).2.1 (zW H h).1 (zW H h).2
theorem d8.map {a b:List Int}(o:d8 pg st a b)(j:Int):bL pg st b j=bL pg st a j:=by
 unfold bL
 cases h:bS pg j with
 |false=>rfl
 |true =>
  have h0:=(pd H.toTblIn h).1
  rw[o.off _ (by omega) (IY H h).1 (IY H h).2]
theorem Ln.same {G:Int→List Int}{a b:List Int}(L:Ln pg st G a)(h:∀i,0≤i→¬NoL pg st i→wAt b i=wAt a i):Ln pg st G b:=by
 have hh:∀i,dx pg st i→wAt b i=wAt a i:=fun i hi=>h i (by have:=(qC H hi).1;omega) (fun z=>z.1 hi)
 have hn:∀p,af pg p=true→wAt b (nA pg st p)=wAt a (nA pg st p)∧wAt b (vA pg st p)=wAt a (vA pg st p):=fun p hp =>
  ⟨h _ (by have:=(eF H hp).1.1;omega) (fun z=>(z.2 p hp).1 rfl),h _ (by have:=(eF H hp).2.1;omega) (fun z=>(z.2 p hp).2 rfl)⟩
 refine⟨fun i hi=>by rw[hh i hi];exact L.head i hi,L.page,L.nodup,L.apart,fun i p hi hp=>?_,fun i p hi hp=>?_,fun p hp hf=>?_⟩
 ·rw[(hn p (L.page i hi p hp)).1];exact L.next i p hi hp
 ·rw[(hn p (L.page i hi p hp)).2];exact L.prev i p hi hp
 ·rw[(hn p hp).1,(hn p hp).2];exact L.free p hp hf
structure Mod (pg st:Int)(n:Nat)(q f':Int)(T:List Int→List Int):Prop where
 len:∀a,a.length=n→(T a).length=n
 off:∀a b,a.length=n→b.length=n→d8 pg st a b→d8 pg st (T a) (T b)
 no:∀a,a.length=n→∀i,0≤i→¬NoL pg st i→wAt (T a) i=wAt a i
 cnt:∀a,a.length=n→cG pg st (T a) q=f'
def gt (pg st q b f:Int)(ws:List Int):List Int:=(ws.set (bA pg st q).toNat b).set (cA pg st q).toNat f
theorem iY {q:Int}(h:af pg q=true)(b f:Int){ws:List Int}(hn:ws.length=n){i:Int}(hi:0≤i):wAt (gt pg st q b f ws) i=if i=cA pg st q then f else if i=bA pg st q then b else wAt ws i:=by
 obtain⟨⟨b0,b1,_⟩,c0,c1,_⟩:=jv H h
 unfold gt
 rw[dI b0 hi (by simp[hn];exact b1),dI c0 hi (by rw[hn];exact c1)]
theorem tY {q:Int}(h:af pg q=true)(b f:Int):Mod pg st n q f (gt pg st q b f):=by
 refine⟨fun a e=>by simp[gt,e],fun a a' e e' o=>⟨by simp[gt,e,e'],fun i h0 h1 h2=>?_⟩,fun a e i h0 h1=>?_,fun a e=>?_⟩
 ·rw[iY H h b f e' h0,iY H h b f e h0,o.off i h0 h1 h2]
 ·have k1:i≠cA pg st q:=fun z=>h1 (by rw[z];exact zV H h)
  have k2:i≠bA pg st q:=fun z=>h1 (by rw[z];exact zW H h)
  rw[iY H h b f e h0,if_neg k1,if_neg k2]
 ·show wAt (gt pg st q b f a) (cA pg st q)=f
  rw[iY H h b f e (jv H h).1.1,if_pos rfl]
theorem IZ {q:Int}(h:af pg q=true)(k x:Int):Mod pg st n q x (fG pg st q k x):=by
 refine⟨fun a e=>by rw[ff H.toPgIn];exact e,fun a a' e e' o=>⟨by rw[ff H.toPgIn,ff H.toPgIn,e,e'],fun i h0 h1 h2=>?_⟩,fun a e i h0 h1=>?_,fun a e=>?_⟩
 ·rw[im H.toPgIn h k x e' h0,im H.toPgIn h k x e h0,o.off i h0 h1 h2]
 ·have k1:i≠cA pg st q:=fun z=>h1 (by rw[z];exact zV H h)
  have k2:i≠bA pg st q:=fun z=>h1 (by rw[z];exact zW H h)
  have k3:i≠kA pg st q:=fun z=>h1 (by rw[z];exact Eg H h)
  rw[im H.toPgIn h k x e h0,if_neg k2,if_neg k1,if_neg k3]
 ·rw[mE H.toPgIn h k x e h,if_pos rfl]
def zX (pg st:Int)(G:Int→List Int)(k f:Int)(s t:List Int):Int→List Int:=if aG pg st k f=0 then G else vd G (aG pg st k f) (s++t)
def I0 (pg st:Int)(G:Int→List Int)(q k f:Int):Int→List Int:=if aG pg st k f=0 then G else vd G (aG pg st k f) (q::G (aG pg st k f))
theorem I1 {q k f:Int}(hq:af pg q=true){G:Int→List Int}{ws:List Int}(L:Ln pg st G ws)(hn:ws.length=n)(hf:∀a,dx pg st a→q∉G a):
 Ln pg st (I0 pg st G q k f) (eH pg st q k f ws).2∧d8 pg st ws (eH pg st q k f ws).2:=by
 unfold I0
 by_cases hz:aG pg st k f=0
 ·have e:eH pg st q k f ws=(false,ws):=by unfold eH;exact if_neg (fun z=>z.1 hz)
  rw[if_pos hz,e]
  exact⟨L,d8.refl _ _ _⟩
 ·rw[if_neg hz]
  exact Lg H L hn hz hq hf
theorem I2 {q k f:Int}{G:Int→List Int}{s t:List Int}(hin:aG pg st k f≠0→G (aG pg st k f)=s++q::t∧q∉s){ws:List Int}(L:Ln pg st G ws)(hn:ws.length=n):
 Ln pg st (zX pg st G k f s t) (cB pg st q k f ws).2∧d8 pg st ws (cB pg st q k f ws).2:=by
 unfold zX
 by_cases hz:aG pg st k f=0
 ·rw[if_pos hz,wh H L (fun _ z=>absurd hz z)]
  exact⟨L,d8.refl _ _ _⟩
 ·rw[if_neg hz]
  obtain⟨h1,h2⟩:=hin hz
  exact(FM H L hn hz h1 h2).2
theorem Ph {q k f f':Int}{T:List Int→List Int}(M:Mod pg st n q f' T)(hq:af pg q=true){G:Int→List Int}{ws:List Int}(L:Ln pg st G ws)(hn:ws.length=n)
 (hin:∀a,dx pg st a→(q∈G a↔aG pg st k f=a)):
 ∃G1 G2,Ln pg st G1 (cB pg st q k f ws).2∧d8 pg st ws (cB pg st q k f ws).2∧(cB pg st q k f ws).2.length=n∧(∀a,dx pg st a→q∉G1 a) ∧
  Ln pg st G2 (mH pg st q k f (T ws))∧d8 pg st (T ws) (mH pg st q k f (T ws)) ∧
  (eH pg st q k f' (T (cB pg st q k f ws).2)).2=mH pg st q k f (T ws) ∧
  (∀a p,dx pg st a→p≠q→(p∈G2 a↔p∈G a))∧∀a,dx pg st a→(q∈G2 a↔aG pg st k f'=a):=by
 obtain⟨s,t,hst⟩:∃s t,aG pg st k f≠0→G (aG pg st k f)=s++q::t∧q∉s:=by
  by_cases hz:aG pg st k f=0
  ·exact⟨[],[],fun z=>absurd hz z⟩
  ·obtain⟨s,t,h1,h2⟩:=kx ((hin _ (io hz).1).2 rfl)
   exact⟨s,t,fun _=>⟨h1,h2⟩⟩
 have m1:∀a,dx pg st a→q∉zX pg st G k f s t a:=fun a ha hm=>by
  unfold zX at hm
  by_cases hz:aG pg st k f=0
  ·rw[if_pos hz] at hm
   have:=(hin a ha).1 hm
   rw[hz] at this
   have:=(qC H ha).1
   omega
  ·rw[if_neg hz] at hm
   obtain⟨h1,h2⟩:=hst hz
   by_cases e:a=aG pg st k f
   ·subst e
    rw[du] at hm
    have nd:=L.nodup _ (io hz).1
    rw[h1] at nd
    rcases List.mem_append.1 hm with z|z
    ·exact h2 z
    ·exact(List.nodup_cons.1 (List.nodup_append.1 nd).2.1).1 z
   ·rw[dB _ _ _ e] at hm
    exact e ((hin a ha).1 hm).symm
 have m2:∀a p,dx pg st a→p≠q→(p∈zX pg st G k f s t a↔p∈G a):=fun a p ha hp=>by
  unfold zX
  by_cases hz:aG pg st k f=0
  ·rw[if_pos hz]
  ·rw[if_neg hz]
   obtain⟨h1,h2⟩:=hst hz
   by_cases e:a=aG pg st k f
   ·subst e
    rw[du,h1]
    simp[hp]
   ·rw[dB _ _ _ e]
 obtain⟨L1,o1⟩:=I2 H hst L hn
 have hB:(T ws).length=n:=M.len _ hn
 have LB:Ln pg st G (T ws):=L.same H (M.no ws hn)
 obtain⟨L2,o2⟩:=I2 H hst LB hB
 have n1:(cB pg st q k f ws).2.length=n:=o1.len.trans hn
 have n2:(cB pg st q k f (T ws)).2.length=n:=o2.len.trans hB
 have ec:cG pg st (cB pg st q k f (T ws)).2 q=f':=by rw[o2.cnt H hq,M.cnt ws hn]
 have em:mH pg st q k f (T ws)=(eH pg st q k f' (cB pg st q k f (T ws)).2).2:=by unfold mH;rw[ec]
 obtain⟨L3,o3⟩:=I1 H (k:=k) (f:=f') hq L2 n2 m1
 have LT:Ln pg st (zX pg st G k f s t) (T (cB pg st q k f ws).2):=L1.same H (M.no _ n1)
 obtain⟨L4,o4⟩:=I1 H (k:=k) (f:=f') hq LT (M.len _ n1) m1
 have oB:=o2.trans o3
 have oY:=(M.off _ _ hn n1 o1).trans o4
 refine⟨_,I0 pg st (zX pg st G k f s t) q k f',L1,o1,n1,m1,by rw[em];exact L3,by rw[em];exact oB,?_,fun a p ha hp=>?_,fun a ha=>?_⟩
 ·rw[em]
  exact Ln.uniq L3 L4 (oB.symm.trans oY)
 ·rw[←m2 a p ha hp]
  unfold I0
  by_cases hz:aG pg st k f'=0
  ·rw[if_pos hz]
  ·rw[if_neg hz]
   by_cases e:a=aG pg st k f'
   ·subst e;rw[du];simp[hp]
   ·rw[dB _ _ _ e]
 ·unfold I0
  by_cases hz:aG pg st k f'=0
  ·rw[if_pos hz]
   exact⟨fun z=>absurd z (m1 a ha),fun z=>by have:=(qC H ha).1;omega⟩
  ·rw[if_neg hz]
   by_cases e:a=aG pg st k f'
   ·subst e;rw[du];simp
   ·rw[dB _ _ _ e]
    exact⟨fun z=>absurd z (m1 a ha),fun z=>absurd z.symm e⟩
end
structure PgF (pg st:Int)(G:Int→List Int)(ws:List Int):Prop where
 kd:∀p,af pg p=true→0≤aX pg st ws p∧aX pg st ws p≤5
 free:∀p,af pg p=true→aX pg st ws p=0→cG pg st ws p=0∧c6 pg st ws p=0
 map:∀p,af pg p=true→aX pg st ws p≠0→bL pg st ws (p / 4)=true
 cnt:∀p,af pg p=true→1≤aX pg st ws p→cG pg st ws p=dE (aX pg st ws p-1) (c6 pg st ws p)∧cG pg st ws p<aw (aX pg st ws p-1)
 mem:∀a p,dx pg st a→(p∈G a↔af pg p=true∧1≤aX pg st ws p∧aG pg st (aX pg st ws p-1) (cG pg st ws p)=a)
structure PgW (pg st:Int)(G:Int→List Int)(ws:List Int):Prop where
 ln:Ln pg st G ws
 f:PgF pg st G ws
section
variable {pg st:Int}{n:Nat}(H:cF pg st n)
include H
theorem PgF.off {G:Int→List Int}{a b:List Int}(F:PgF pg st G a)(o:d8 pg st a b):PgF pg st G b:=by
 refine⟨fun p hp=>by rw[o.kind H];exact F.kd p hp,fun p hp=>by rw[o.kind H,o.cnt H hp,o.bit H hp];exact F.free p hp,fun p hp=>by rw[o.kind H,o.map H];exact F.map p hp,fun p hp=>by rw[o.kind H,o.cnt H hp,o.bit H hp];exact F.cnt p hp,fun x p hx=>?_⟩
 rw[F.mem x p hx]
 constructor
 ·rintro⟨h1,h2,h3⟩
  exact⟨h1,by rw[o.kind H];exact h2,by rw[o.kind H,o.cnt H h1];exact h3⟩
 ·rintro⟨h1,h2,h3⟩
  rw[o.kind H] at h2
  rw[o.kind H,o.cnt H h1] at h3
  exact⟨h1,h2,h3⟩
theorem PgF.turn {G G2:Int→List Int}{a b:List Int}(F:PgF pg st G a){q:Int}(hq:af pg q=true){k f c:Int}
 (hk:∀p,af pg p=true→aX pg st b p=if p=q then k else aX pg st a p) (hc:∀p,af pg p=true→cG pg st b p=if p=q then f else cG pg st a p) (hb:∀p,af pg p=true→c6 pg st b p=if p=q then c else c6 pg st a p)
 (hm:∀p,af pg p=true→p≠q→bL pg st a (p / 4)=true→bL pg st b (p / 4)=true) (hmq:k≠0→bL pg st b (q / 4)=true)
 (k0:0≤k∧k≤5) (kf:k=0→f=0∧c=0) (kc:1≤k→f=dE (k-1) c∧f<aw (k-1))
 (g1:∀x p,dx pg st x→p≠q→(p∈G2 x↔p∈G x)) (g2:∀x,dx pg st x→(q∈G2 x↔1≤k∧aG pg st (k-1) f=x)):PgF pg st G2 b:=by
 refine⟨fun p hp=>?_,fun p hp=>?_,fun p hp=>?_,fun p hp=>?_,fun x p hx=>?_⟩
 ·rw[hk p hp];split
  ·exact k0
  ·exact F.kd p hp
 ·rw[hk p hp,hc p hp,hb p hp];split
  ·exact kf
  ·exact F.free p hp
 ·rw[hk p hp];split
  ·rename_i e;rw[e];exact hmq
  ·rename_i e;exact fun z=>hm p hp e (F.map p hp z)
 ·rw[hk p hp,hc p hp,hb p hp];split
  ·exact kc
  ·exact F.cnt p hp
 ·by_cases e:p=q
  ·subst e
   rw[g2 x hx,hk p hq,hc p hq,if_pos rfl,if_pos rfl]
   exact⟨fun z=>⟨hq,z⟩,fun z=>z.2⟩
  ·rw[g1 x p hx e,F.mem x p hx]
   constructor
   ·rintro⟨h1,h2⟩
    rw[hk p h1,hc p h1,if_neg e,if_neg e];exact⟨h1,h2⟩
   ·rintro⟨h1,h2⟩
    rw[hk p h1,hc p h1,if_neg e,if_neg e] at h2;exact⟨h1,h2⟩
theorem i7 {q:Int}(h:af pg q=true)(b f:Int){ws:List Int}(hn:ws.length=n)(p:Int):aX pg st (gt pg st q b f ws) p=aX pg st ws p:=by
 cases hp:af pg p with
 |false=>rw[iz hp,iz hp]
 |true =>
  have h0:=(cm H.toPgIn hp).1.1
  have:=ax.1 h;have:=ax.1 hp
  rw[jN hp,jN hp,iY H h b f hn (by omega),if_neg (by unfold kA cA;omega),if_neg (by unfold kA bA;omega)]
theorem kB {q:Int}(h:af pg q=true)(b f:Int){ws:List Int}(hn:ws.length=n){p:Int}(hp:af pg p=true):cG pg st (gt pg st q b f ws) p=if p=q then f else cG pg st ws p:=by
 have:=ax.1 h;have:=ax.1 hp
 unfold cG
 rw[iY H h b f hn (jv H hp).1.1]
 by_cases e:p=q
 ·rw[if_pos e,if_pos (by rw[e])]
 ·rw[if_neg e,if_neg (by unfold cA;omega),if_neg (by unfold cA bA;omega)]
theorem kC {q:Int}(h:af pg q=true)(b f:Int){ws:List Int}(hn:ws.length=n){p:Int}(hp:af pg p=true):c6 pg st (gt pg st q b f ws) p=if p=q then b else c6 pg st ws p:=by
 have:=ax.1 h;have:=ax.1 hp
 unfold c6
 rw[iY H h b f hn (jv H hp).2.1,if_neg (by unfold cA bA;omega)]
 by_cases e:p=q
 ·rw[if_pos e,if_pos (by rw[e])]
 ·rw[if_neg e,if_neg (by unfold bA;omega)]
theorem kD {q:Int}(h:af pg q=true)(b f:Int){ws:List Int}(hn:ws.length=n)(j:Int):bL pg st (gt pg st q b f ws) j=bL pg st ws j:=by
 unfold bL
 cases hj:bS pg j with
 |false=>rfl
 |true =>
  have h0:=(pd H.toTblIn hj).1
  obtain⟨t0,t1,t2⟩:=mD H.toPgIn hj h
  rw[iY H h b f hn (by omega),if_neg t1,if_neg t2]
theorem N0 {G:Int→List Int}{ws:List Int}(L:Ln pg st G ws){k f:Int}(h0:aG pg st k f≠0):bZ pg (aG pg st k f) ws=fU (G (aG pg st k f)):=by
 have ha:=(io h0).1
 have:=(qC H ha).1
 exact rZ H (by omega) (L.head _ ha) (L.page _ ha)
theorem I3 {G:Int→List Int}{ws:List Int}(L:Ln pg st G ws){k:Int}(hk:0≤k∧k≤4)(m:Nat):∀f:Int,1≤f→f+m=aw k+1 →
 (dl pg st k m f ws= -1∧∀x,f≤x→x≤aw k→G (aG pg st k x)= []) ∨
 ∃x t,f≤x∧x≤aw k∧aG pg st k x≠0∧G (aG pg st k x)=dl pg st k m f ws::t∧∀y,f≤y→y<x→G (aG pg st k y)= []:=by
 have hs:=Fl hk
 have hh:∀x,1≤x→x≤aw k→aG pg st k x≠0:=fun x h1 h2=>by
  have h3:=H.st1;have h4:=H.pg1
  unfold aG;rw[if_pos ⟨hk.1,hk.2,h1,by omega⟩]
  unfold bo a8 aL fD
  (repeat' split)<;>omega
 induction m with
 |zero=>intro f h1 h2;exact .inl ⟨rfl,fun x h3 h4=>by omega⟩
 |succ m ih =>
  intro f h1 h2
  have hz:=hh f h1 (by omega)
  have hl:=N0 H L hz
  show(((if bZ pg (aG pg st k f) ws= -1 then dl pg st k m (f+1) ws else bZ pg (aG pg st k f) ws)= -1)∧_)∨∃x t,f≤x∧x≤aw k∧aG pg st k x≠0∧G (aG pg st k x)=(if bZ pg (aG pg st k f) ws= -1 then dl pg st k m (f+1) ws else bZ pg (aG pg st k f) ws)::t∧_
  rw[hl]
  cases hG:G (aG pg st k f) with
  |nil =>
   rw[show fU ([]:List Int)= -1 from rfl,if_pos rfl]
   rcases ih (f+1) (by omega) (by omega) with⟨h3,h4⟩|⟨x,t,h3,h4,h5,h6,h7⟩
   ·refine .inl ⟨h3,fun x h5 h6=>?_⟩
    by_cases e:x=f
    ·rw[e];exact hG
    ·exact h4 x (by omega) h6
   ·refine .inr ⟨x,t,by omega,h4,h5,h6,fun y h8 h9=>?_⟩
    by_cases e:y=f
    ·rw[e];exact hG
    ·exact h7 y (by omega) h9
  |cons p t =>
   have hp:=ax.1 (L.page _ (io hz).1 p (by rw[hG];simp))
   rw[show fU (p::t)=p from rfl,if_neg (by omega)]
   exact .inr ⟨f,t,Int.le_refl _,by omega,hz,hG,fun y h8 h9=>by omega⟩
theorem I4 (ws:List Int):(jt pg st 1 1 ws= -1∧∀p,af pg p=true→aX pg st ws p≠0)∨(af pg (jt pg st 1 1 ws)=true∧aX pg st ws (jt pg st 1 1 ws)=0):=by
 have h1:=H.pg1
 have key:∀f:Int→Bool,(mC f pg 1 1= -1∧∀p,af pg p=true→f p=false)∨(af pg (mC f pg 1 1)=true∧f (mC f pg 1 1)=true):=fun f=>by
  rcases Ct (f:=f) (pg:=pg) (m:=1) (step:=1) (by omega) (by omega) (pg.toNat+1) 0 0 rfl (by omega) (by omega) with⟨e,hn⟩|⟨k,e,h0,hh,_⟩
  ·refine .inl ⟨e,fun p hp=>?_⟩
   have hp:=ax.1 hp
   cases hf:f p with
   |false=>rfl
   |true =>
    refine absurd ?_ (hn p (by omega))
    rw[Int.mul_one]
    exact⟨by omega,fun i i0 i1=>by rw[show i=p by omega];exact hf⟩
  ·rw[Int.mul_one] at e hh h0
   have e:mC f pg 1 1=k:=e
   rw[e]
   exact .inr ⟨ax.2 ⟨h0,by have:=hh.1;omega⟩,hh.2 k (by omega) (by omega)⟩
 unfold jt
 rw[if_pos ⟨by omega,by omega⟩]
 rcases key (tJ pg st ws) with⟨e,hn⟩|⟨e,hf⟩
 ·rw[if_pos e]
  rcases key (vX pg st ws) with⟨e2,hn2⟩|⟨e2,hf2⟩
  ·refine .inl ⟨e2,fun p hp=>?_⟩
   have:=hn2 p hp
   simpa [vX] using this
  ·refine .inr ⟨e2,?_⟩
   simpa [vX] using hf2
 ·have:=ax.1 e
  rw[if_neg (by omega)]
  refine .inr ⟨e,?_⟩
  simp[tJ] at hf
  exact hf.2
theorem I5 {y k:Int}(hk:0≤k∧k≤4){ws:List Int}(hn:ws.length=n)(hy:af pg y=true)(h0:aX pg st ws y=0):(iy pg st y 1 (k+1) ws).1=true∧IQ pg st y 1 (k+1) ws (iy pg st y 1 (k+1) ws).2:=by
 have hp:=ax.1 hy
 have ht:ci pg y 1=true:=dX.2 ⟨hp.1,by omega,by omega⟩
 have hv:tH pg st y 1 ws=true:=tN.2 ⟨ht,fun i i0 i1=>by rw[show i=y by omega];exact h0⟩
 have hf:oq (k+1) 1=true:=KG.2 (.inr ⟨by omega,by omega,rfl⟩)
 have T:=FD H.toPgIn (p:=y) (m:=1) (k:=k+1) hn ht
 unfold iy
 rw[hf,hv]
 exact⟨rfl,T⟩
theorem Lj {y m k:Int}{a b:List Int}(T:IQ pg st y m k a b):∀i,0≤i→¬NoL pg st i→wAt b i=wAt a i:=fun i h0 h1 =>
 T.off i h0 (fun p hp=>⟨fun z=>h1 (by rw[z];exact Eg H hp),fun z=>h1 (by rw[z];exact zV H hp),fun z=>h1 (by rw[z];exact zW H hp)⟩) (fun j hj z=>h1 (by rw[z];exact IY H hj))
theorem pD {α:Type}{p:Prg α}{g:List Int→α×List Int}(hF:bG n p g){ws:List Int}(hn:ws.length=n)(ho:OkW ws):OkW (g ws).2∧(g ws).2.length=n:=by
 obtain⟨D,_,a,i⟩:=hF ws [] hn ho (dZ _)
 have a:ce ws D=(g ws).2:=a
 rw[←a]
 exact⟨Ef ho i hn,by rw[dY];exact hn⟩
end
section
variable {pg st:Int}{n:Nat}(H:cF pg st n)
include H
theorem tZ (us:Int){k:Int}(h:aw k=0)(ws:List Int):dd us pg st k ws=((0,false),ws):=by
 unfold dd gH
 rw[if_pos h]
 unfold oD
 rw[if_pos rfl]
theorem FW {m k:Int}(ws:List Int):iy pg st (-1) m k ws=(false,ws):=by
 have:tH pg st (-1) m ws=false:=by
  cases e:tH pg st (-1) m ws with
  |false=>rfl
  |true=>have:=dX.1 (tN.1 e).1;omega
 unfold iy
 rw[this]
 simp
theorem ua (us:Int){k:Int}(hs:aw k≠0){ws:List Int}(h1:dl pg st k (aw k).toNat 1 ws= -1)(h2:jt pg st 1 1 ws= -1):dd us pg st k ws=((0,false),ws):=by
 have e:gH pg st k ws=(-1,ws):=by
  unfold gH lm
  rw[if_neg hs,h1,if_pos rfl,h2,FW H]
  rfl
 unfold dd
 rw[e]
 unfold oD
 rw[if_pos rfl]
theorem FX {k:Int}(hs:aw k≠0){ws:List Int}{q:Int}(h1:dl pg st k (aw k).toNat 1 ws=q)(hq:q≠ -1):gH pg st k ws=(q,ws):=by
 unfold gH lm
 rw[if_neg hs,h1,if_neg hq]
theorem FY {k:Int}(hs:aw k≠0){ws:List Int}{y:Int}(h1:dl pg st k (aw k).toNat 1 ws= -1)(h2:jt pg st 1 1 ws=y)(h3:(iy pg st y 1 (k+1) ws).1=true):gH pg st k ws=(y,(iy pg st y 1 (k+1) ws).2):=by
 unfold gH lm
 rw[if_neg hs,h1,if_pos rfl,h2,h3]
 rfl
theorem ud {q k b f:Int}(ho:dE k b=f)(hf:f≠aw k)(ws:List Int):qD pg st q k b ws=gt pg st q b f ws:=by
 unfold qD gt
 rw[if_neg (by rw[ho];exact hf),ho]
structure pE (pg st:Int)(n:Nat)(q k f f':Int)(T:List Int→List Int)(ws:List Int)(G G1 G2:Int→List Int)(u X:List Int):Prop where
 eu:(cB pg st q k f ws).2=u
 l1:Ln pg st G1 u
 nu:u.length=n
 o1:d8 pg st ws u
 m1:∀a,dx pg st a→q∉G1 a
 lt:Ln pg st G1 (T u)
 nt:(T u).length=n
 eX:(eH pg st q k f' (T u)).2=X
 eM:mH pg st q k f (T ws)=X
 l2:Ln pg st G2 X
 o2:d8 pg st (T ws) X
 m2:∀a p,dx pg st a→p≠q→(p∈G2 a↔p∈G a)
 m3:∀a,dx pg st a→(q∈G2 a↔aG pg st k f'=a)
theorem xT {q k f f':Int}{T:List Int→List Int}(M:Mod pg st n q f' T)(hq:af pg q=true){G:Int→List Int}{ws:List Int}(L:Ln pg st G ws)(hn:ws.length=n)
 (hin:∀a,dx pg st a→(q∈G a↔aG pg st k f=a)):∃G1 G2 u X,pE pg st n q k f f' T ws G G1 G2 u X:=by
 obtain⟨G1,G2,h1,h2,h3,h4,h5,h6,h7,h8,h9⟩:=Ph H M hq L hn hin
 exact⟨G1,G2,_,_,⟨rfl,h1,h3,h2,h4,h1.same H (M.no _ h3),M.len _ h3,h7,rfl,h5,h6,h8,h9⟩⟩
theorem zY (us:Int){k:Int}(hs:aw k≠0){G:Int→List Int}{ws:List Int}(P:PgW pg st G ws)(hn:ws.length=n){q:Int}(h1:dl pg st k (aw k).toNat 1 ws=q)(hq:q≠ -1):
 ∃(j:Nat) (G1 G2:Int→List Int) (u X:List Int),af pg q=true∧aX pg st ws q=k+1∧1≤cG pg st ws q∧(∀y,1≤y→y<cG pg st ws q→G (aG pg st k y)= []) ∧
  bP (c6 pg st ws q) (aw k)=(j:Int)∧(j:Int)<aw k∧eO (c6 pg st ws q) j=false ∧
  pE pg st n q k (cG pg st ws q) (cG pg st ws q-1) (gt pg st q (setV (c6 pg st ws q) j) (cG pg st ws q-1)) ws G G1 G2 u X ∧
  dd us pg st k ws=((us+32 * q+j * szV k,true),X)∧PgW pg st G2 X:=by
 have hk:=fl hs
 obtain⟨L,F⟩:=P
 rcases I3 H L hk (aw k).toNat 1 (by omega) (by have:=ep k;omega) with⟨e,_⟩|⟨x,t,x1,x2,hz,hG,hno⟩
 ·exact absurd (h1.symm.trans e) hq
 rw[h1] at hG
 have ha:=(io hz).1
 have hm:=(F.mem _ q ha).1 (by rw[hG];simp)
 obtain⟨hqp,hk1,hh⟩:=hm
 have hkb:=F.kd q hqp
 have hc:=F.cnt q hqp hk1
 have inj:=IU hz hh.symm
 have ek:aX pg st ws q=k+1:=by omega
 have ef:cG pg st ws q=x:=inj.2.symm
 rw[ek] at hc
 have hop:dE k (c6 pg st ws q)=cG pg st ws q:=by rw[hc.1];congr 1;omega
 obtain⟨j,hj1,hj2,hj3,hj4⟩:=Cz (b:=c6 pg st ws q) (k:=k) (by omega)
 have hlt:cG pg st ws q<aw k:=by have:=hc.2;rwa [show k+1-1=k by omega] at this
 obtain⟨G1,G2,u,X,M⟩:=xT H (tY H hqp (setV (c6 pg st ws q) j) (cG pg st ws q-1)) hqp L hn (k:=k) (f:=cG pg st ws q) (fun a h=>by
  rw[F.mem a q h,ek,show k+1-1=k by omega]
  exact⟨fun z=>z.2.2,fun z=>⟨hqp,by omega,z⟩⟩)
 refine⟨j,G1,G2,u,X,hqp,ek,by omega,fun y y1 y2=>hno y y1 (by omega),hj1,hj2,hj3,M,?_,M.l2,?_⟩
 ·unfold dd
  rw[FX H hs h1 hq]
  unfold oD
  rw[if_neg hq,if_neg (by rw[hj1];omega),hj1]
  unfold gI
  rw[ud H (f:=cG pg st ws q-1) (by rw[hj4,hop]) (by omega),M.eM]
 ·refine PgF.off H (a:=gt pg st q (setV (c6 pg st ws q) j) (cG pg st ws q-1) ws) ?_ M.o2
  refine F.turn H hqp (k:=k+1) (f:=cG pg st ws q-1) (c:=setV (c6 pg st ws q) j) (fun p hp=>?_) (fun p hp=>kB H hqp _ _ hn hp) (fun p hp=>kC H hqp _ _ hn hp) (fun p _ _ h=>by rw[kD H hqp _ _ hn];exact h) (fun _=>by rw[kD H hqp _ _ hn];exact F.map q hqp (by omega)) (by omega) (by omega) (fun _=>?_) M.m2 (fun a h=>?_)
  ·rw[i7 H hqp _ _ hn];split
   ·rename_i e;rw[e];exact ek
   ·rfl
  ·rw[show k+1-1=k by omega,hj4,hop];omega
  ·rw[M.m3 a h,show k+1-1=k by omega]
   exact⟨fun z=>⟨by omega,z⟩,fun z=>z.2⟩
theorem zZ (us:Int){k:Int}(hs:aw k≠0){G:Int→List Int}{ws:List Int}(P:PgW pg st G ws)(hn:ws.length=n){y:Int}(h1:dl pg st k (aw k).toNat 1 ws= -1)(h2:jt pg st 1 1 ws=y)(hy:y≠ -1):
 ∃(G1 G2:Int→List Int) (w1 X:List Int),af pg y=true∧aX pg st ws y=0∧iy pg st y 1 (k+1) ws=(true,w1)∧IQ pg st y 1 (k+1) ws w1∧w1.length=n∧Ln pg st G w1 ∧
  pE pg st n y k 0 (aw k-1) (gt pg st y (setV 0 0) (aw k-1)) w1 G G1 G2 w1 X ∧
  dd us pg st k ws=((us+32 * y,true),X)∧PgW pg st G2 X:=by
 have hk:=fl hs
 have hsl:=ep k
 obtain⟨L,F⟩:=P
 have hfy:=(I4 H ws).resolve_left (fun z=>hy (h2.symm.trans z.1))
 rw[h2] at hfy
 obtain⟨hyp,hk0⟩:=hfy
 obtain⟨t1,T⟩:=I5 H hk hn hyp hk0
 obtain⟨w1,ew⟩:∃w1,(iy pg st y 1 (k+1) ws).2=w1:=⟨_,rfl⟩
 rw[ew] at T
 have n1:w1.length=n:=T.len.trans hn
 have L1:Ln pg st G w1:=L.same H (Lj H T)
 have hno:∀a,dx pg st a→y∉G a:=fun a h z=>by have:=((F.mem a y h).1 z).2.1;omega
 have hb1:c6 pg st w1 y=0:=by rw[T.bit y hyp,if_pos (by omega)]
 have hc1:cG pg st w1 y=0:=by rw[T.cnt y hyp,if_pos rfl,if_neg (by omega)]
 have hz0:aG pg st k 0=0:=by unfold aG;rw[if_neg (by omega)]
 have hos:dE k (setV 0 0)=aw k-1:=by
  have:=tX (b:=0) (k:=k) (j:=0) (by omega) (mI 0)
  rw[FU] at this
  exact this
 obtain⟨G1,G2,u,X,M⟩:=xT H (tY H hyp (setV 0 0) (aw k-1)) hyp L1 n1 (k:=k) (f:=0) (fun a h=>⟨fun z=>absurd z (hno a h),fun z=>by have:=(qC H h).1;omega⟩)
 have eu:u=w1:=by rw[←M.eu,wh H L1 (fun _ z=>absurd hz0 z)]
 subst eu
 refine⟨G1,G2,u,X,hyp,hk0,Prod.ext t1 ew,T,n1,L1,M,?_,M.l2,?_⟩
 ·unfold dd
  rw[FY H hs h1 h2 t1,ew]
  unfold oD
  rw[if_neg hy]
  show(if bP (c6 pg st u y) (aw k)= -1 then _ else _)=_
  rw[hb1,CE hs,if_neg (by omega),hc1]
  unfold gI
  rw[ud H (f:=aw k-1) hos (by omega),M.eM]
  simp
 ·refine PgF.off H (a:=gt pg st y (setV 0 0) (aw k-1) u) ?_ M.o2
  refine F.turn H hyp (k:=k+1) (f:=aw k-1) (c:=setV 0 0) (fun p hp=>?_) (fun p hp=>?_) (fun p hp=>?_) (fun p hp hne h=>?_) (fun _=>?_) (by omega) (by omega) (fun _=>?_) M.m2 (fun a h=>?_)
  ·rw[i7 H hyp _ _ n1,T.kind]
   by_cases e:p=y
   ·rw[if_pos e,if_pos e]
   ·rw[if_neg e,if_neg e,if_neg (by omega)]
  ·rw[kB H hyp _ _ n1 hp,T.cnt p hp]
   by_cases e:p=y
   ·rw[if_pos e,if_pos e]
   ·rw[if_neg e,if_neg e,if_neg e,if_neg (by omega)]
  ·rw[kC H hyp _ _ n1 hp,T.bit p hp]
   by_cases e:p=y
   ·rw[if_pos e,if_pos e]
   ·rw[if_neg e,if_neg e,if_neg (by omega)]
  ·rw[kD H hyp _ _ n1,T.map _ (zO hp),h];rfl
  ·rw[kD H hyp _ _ n1,T.map _ (zO hyp)]
   simp
  ·rw[show k+1-1=k by omega,hos]
   exact⟨rfl,by omega⟩
  ·rw[M.m3 a h,show k+1-1=k by omega]
   exact⟨fun z=>⟨by omega,z⟩,fun z=>z.2⟩
theorem ue {us a:Int}{G:Int→List Int}{ws:List Int}(F:PgF pg st G ws){q k i:Int}{t:Bool}(h:fw us pg st a ws=some (q,k,i,t)):
 af pg q=true∧aX pg st ws q=k+1∧0≤k∧k≤4∧0≤i∧i<aw k∧t=eG (c6 pg st ws q) i∧a=us+32 * q+i * szV k:=by
 unfold fw at h
 split at h
 ·rename_i hin
  obtain⟨hq,hw⟩:=nr hin
  have hkd:=F.kd _ hq
  have hwr:IntKind.i64.wrap (aX pg st ws ((a-us) / 32)-1)=aX pg st ws ((a-us) / 32)-1:=az (by omega) (by omega)
  unfold lq at h
  rw[hwr] at h
  split at h
  ·cases h
  ·rename_i hz
   split at h
   ·cases h
   ·rename_i hm
    have hk:=fl hz
    obtain⟨z,hzk⟩:∃z:Nat,aX pg st ws ((a-us) / 32)-1=(z:Int):=⟨_,(Int.toNat_of_nonneg hk.1).symm⟩
    simp only[Option.some.injEq,Prod.mk.injEq] at h
    obtain⟨rfl,rfl,rfl,rfl⟩:=h
    rw[hzk] at hk hm⊢
    have hsb:=KZ (k:=z) (by omega)
    have hm:(a-us) % 32 % szV (z:Int)=0:=by simpa using hm
    have hsz:=re (k:=z) (by omega)
    have hd:=Int.emod_add_mul_ediv ((a-us) % 32) (szV (z:Int))
    rw[hm] at hd
    refine⟨hq,by omega,hk.1,hk.2,Int.ediv_nonneg hw.1 (by omega),?_,rfl,?_⟩
    ·have hz4:z=0∨z=1∨z=2∨z=3∨z=4:=by omega
     generalize (a-us) % 32=wd at hw hm⊢
     rcases hz4 with rfl|rfl|rfl|rfl|rfl
     ·show wd / 1<32;omega
     ·show wd / 2<16;omega
     ·show wd / 4<8;omega
     ·show wd / 8<4;omega
     ·show wd / 16<2;omega
    ·rw[Int.mul_comm ((a-us) % 32 / szV (z:Int)) (szV (z:Int))]
     omega
 ·cases h
theorem Aa (us:Int){a:Int}{G:Int→List Int}{ws:List Int}(P:PgW pg st G ws)(hn:ws.length=n)(ho:OkW ws){q k i:Int}(h:fB (fw us pg st a ws)=some (q,k,i)):
 af pg q=true∧aX pg st ws q=k+1∧0≤k∧k≤4∧0≤i∧i<aw k∧eG (c6 pg st ws q) i=true∧a=us+32 * q+i * szV k∧0≤cG pg st ws q∧cG pg st ws q<aw k ∧
 (cG pg st ws q+1≠aw k→∃G1 G2 u X,pE pg st n q k (cG pg st ws q) (cG pg st ws q+1) (gt pg st q (clearV (c6 pg st ws q) i) (cG pg st ws q+1)) ws G G1 G2 u X∧gS us pg st a ws=(true,X)∧PgW pg st G2 X) ∧
 (cG pg st ws q+1=aw k→∃G1 G2 u X,pE pg st n q k (cG pg st ws q) 0 (fG pg st q 0 0) ws G G1 G2 u X∧gS us pg st a ws=(true,X)∧PgW pg st G2 X):=by
 obtain⟨L,F⟩:=P
 obtain⟨hq,ek,k0,k4,i0,i1,ht,ha⟩:=ue H F (hH h)
 have hc:=F.cnt q hq (by omega)
 rw[ek,show k+1-1=k by omega] at hc
 have hcb:=cnt_b (c6 pg st ws q) k
 have hcl:=CF (b:=c6 pg st ws q) (k:=k) (xR ho _) i0 i1 ht.symm
 have hin:∀a,dx pg st a→(q∈G a↔aG pg st k (cG pg st ws q)=a):=fun a h=>by
  rw[F.mem a q h,ek,show k+1-1=k by omega]
  exact⟨fun z=>z.2.2,fun z=>⟨hq,by omega,z⟩⟩
 refine⟨hq,ek,k0,k4,i0,i1,ht.symm,ha,by omega,hc.2,fun hne=>?_,fun he=>?_⟩
 ·obtain⟨G1,G2,u,X,M⟩:=xT H (tY H hq (clearV (c6 pg st ws q) i) (cG pg st ws q+1)) hq L hn (k:=k) (f:=cG pg st ws q) hin
  refine⟨G1,G2,u,X,M,?_,M.l2,?_⟩
  ·unfold gS
   rw[h]
   show(true,gI _ _ _ _ _ _ _)=_
   unfold gI
   rw[ud H (f:=cG pg st ws q+1) (by rw[hcl,hc.1]) hne,M.eM]
  ·refine PgF.off H (a:=gt pg st q (clearV (c6 pg st ws q) i) (cG pg st ws q+1) ws) ?_ M.o2
   refine F.turn H hq (k:=k+1) (f:=cG pg st ws q+1) (c:=clearV (c6 pg st ws q) i) (fun p hp=>?_) (fun p hp=>kB H hq _ _ hn hp) (fun p hp=>kC H hq _ _ hn hp) (fun p _ _ h=>by rw[kD H hq _ _ hn];exact h) (fun _=>by rw[kD H hq _ _ hn];exact F.map q hq (by omega)) (by omega) (by omega) (fun _=>?_) M.m2 (fun a h=>?_)
   ·rw[i7 H hq _ _ hn];split
    ·rename_i e;rw[e];exact ek
    ·rfl
   ·rw[show k+1-1=k by omega,hcl,hc.1]
    exact⟨rfl,by omega⟩
   ·rw[M.m3 a h,show k+1-1=k by omega]
    exact⟨fun z=>⟨by omega,z⟩,fun z=>z.2⟩
 ·obtain⟨G1,G2,u,X,M⟩:=xT H (IZ H hq 0 0) hq L hn (k:=k) (f:=cG pg st ws q) hin
  have hd:(Ec pg st q ws).2=fG pg st q 0 0 ws:=by
   have hl:rL pg st q ws=1:=by unfold rL;rw[ek,if_pos (KF.2 ⟨by omega,by omega⟩)]
   unfold Ec
   rw[hl]
   rfl
  refine⟨G1,G2,u,X,M,?_,M.l2,?_⟩
  ·unfold gS
   rw[h]
   show(true,gI _ _ _ _ _ _ _)=_
   unfold gI qD
   rw[if_pos (by rw[hcl,←hc.1];exact he),hd,M.eM]
  ·refine PgF.off H (a:=fG pg st q 0 0 ws) ?_ M.o2
   have hz0:aG pg st k 0=0:=by unfold aG;rw[if_neg (by omega)]
   refine F.turn H hq (k:=0) (f:=0) (c:=0) (fun p hp=>ns H.toPgIn hq 0 0 hn p) (fun p hp=>mE H.toPgIn hq 0 0 hn hp) (fun p hp=>pC H.toPgIn hq 0 0 hn hp) (fun p _ _ h=>by rw[tL H.toPgIn hq 0 0 hn];exact h) (fun z=>absurd rfl z) (by omega) (fun _=>⟨rfl,rfl⟩) (fun z=>by omega) M.m2 (fun a h=>?_)
   rw[M.m3 a h,hz0]
   have:=(qC H h).1
   exact⟨fun z=>by omega,fun z=>by omega⟩
theorem Lk {us a:Int}{ws:List Int}(h:fB (fw us pg st a ws)=none):gS us pg st a ws=(false,ws):=by
 unfold gS
 rw[h]
 rfl
end
open Go.RowKit Go.Sort Go.Maps Go.Shelf
theorem I6 (c:Cfg)(p:Nat)(x:TkA):∃cs i b,tz c p x=.tuple #[.agg cs,.int .i64 i,.bool b]∧cs.size=27∧cs.all (·.oneCell')=true∧((b=false∧fB x=none)∨∃q k,x=some (q,k,i,true)∧cs=bE c p q k∧b=true):=by
 match x with
 |none=>exact⟨pgZ,0,false,rfl,rfl,by kernel_rfl,.inl ⟨rfl,rfl⟩⟩
 |some (q,k,i,false)=>exact⟨bE c p q k,i,false,rfl,by kernel_rfl,qB ..,.inl ⟨rfl,rfl⟩⟩
 |some (q,k,i,true)=>exact⟨bE c p q k,i,true,rfl,by kernel_rfl,qB ..,.inr ⟨q,k,rfl,rfl,rfl⟩⟩
theorem Ab (w:World)(cs:Array Value):∃w1,(w.alloc (.cells #[Value.pointer none,Value.int IntKind.i64 0,Value.int IntKind.i64 0,Value.int IntKind.i64 0,Value.int IntKind.i64 0,Value.int IntKind.i64 0,Value.int IntKind.i64 0,Value.int IntKind.i64 0,Value.int IntKind.i64 0,Value.int IntKind.i64 0,Value.int IntKind.i64 0,Value.int IntKind.i64 0,Value.int IntKind.i64 0,Value.int IntKind.i64 0,Value.int IntKind.i64 0,Value.int IntKind.i64 0,Value.int IntKind.i64 0,Value.int IntKind.i64 0,Value.int IntKind.i64 0,Value.int IntKind.i64 0,Value.int IntKind.i64 0,Value.int IntKind.i64 0,Value.int IntKind.i64 0,Value.int IntKind.i64 0,Value.int IntKind.i64 0,Value.int IntKind.i64 0,Value.int IntKind.i64 0] 90)).setRow w.heap.size cs=w1∧w1.heap[w.heap.size]?=some (.cells cs 90 (0,0))∧ae w w1 :=
 ⟨_,rfl,setRow_heap _ _ _ _ _ _ (aY w _ _),((ae.refl w).alloc _).setRow _ _ (Nat.le_refl _)⟩
theorem Ll {c:Cfg}(R:c.Ok){n:Nat}(H:cF c.pg c.st n)(hn:n≤10000)(F:Nat→Prop)(p:Nat)(kn:Int→Option Int)(D:List KV)(ad:Int)(w:World)(hv:aE w F p kn D)(hk:OkK kn)(hD:cD n D)(bt:Nat)(hs:df bt w)(nF0:¬F 0)(nFb:¬F bt):
 Calls Tryz.prog 11 #[.pointer (some ⟨p,0,none⟩),.agg c.arr,.int .i64 ad] w (aB w F p kn (fun x:Int×Bool=> .tuple #[.int .i64 x.1,.bool x.2]) (tE c.us c.pg c.st ad kn D)):=by
 obtain⟨Rr,hRr⟩:∃Rr,tE c.us c.pg c.st ad kn D=Rr:=⟨_,rfl⟩
 rw[hRr]
 obtain⟨w1,e1,hl1,m1,s1⟩:=aZ w (.cells c.arr 28)
 have nFl:¬F w.heap.size:=fun q=>by have:=hv.lt _ q;omega
 have MM:=hQQ m1
 have L0:=hQQ hl1
 have M0:Hq (MidV w1 w1 F (fun _=>False) p kn n D F):=hQQ (MidV.begin (hv.more m1) hD)
 have KL:Hq (∀wr D' F',MidV w1 wr F (fun _=>False) p kn n D' F'→wr.heap[w.heap.size]?=some (.cells c.arr 28 (0,0))):=hQQ fun wr D' F' h=>cE h L0.o nFl (fun q=>q)
 have NEED:Hq (∀a w2,Rr=.need a→aN w2 p a→Turned (fun b=>F b∨False) w1 w2→aB w F p kn (fun x:Int×Bool=>Value.tuple #[.int .i64 x.1,.bool x.2]) Rr (.panicked (aR p)) w2):=hQQ fun a w2 e hd ht=>ct MM.o (fun _ q=>q.elim) e hd ht
 have DONE:Hq (∀x w2 D' F',Rr=.ok x D'→MidV w1 w2 F (fun _=>False) p kn n D' F'→aB w F p kn (fun x:Int×Bool=>Value.tuple #[.int .i64 x.1,.bool x.2]) Rr (.returned ((fun x:Int×Bool=>Value.tuple #[.int .i64 x.1,.bool x.2]) x)) w2):=hQQ fun x w2 D' F' e h=>bQ MM.o (fun _ q=>q.elim) h e
 have HK:=hQQ hk
 have HR:=hQQ R
 have HH:=hQQ H
 clear hl1 m1 hv hD hk R H nFl
 have SZ:Hq (∀wr D' F',MidV w1 wr F (fun _=>False) p kn n D' F'→df bt wr):=hQQ fun wr D' F' h=>(hs.more MM.o).keep h.turn (by rintro(q|q);exact nF0 q;exact q) (by rintro(q|q);exact nFb q;exact q)
 have NF:Hq (∀wr D' F',MidV w1 wr F (fun _=>False) p kn n D' F'→¬F' 0∧¬F' bt):=hQQ fun wr D' F' h=>⟨h.off (hs.more MM.o).lt0 nF0,h.off (hs.more MM.o).lt nFb⟩
 have HRr:=hQQ (show aq (fT c.us c.pg c.st ad) (fun x=>tD (fB x)) kn D=Rr from hRr)
 clear hRr hs nF0 nFb
 go_enter Tryz.func11,Tryz.ntmps11
 go_wp2_with (first|(refine aI rfl rfl rfl L0.o (by kernel_rfl) ?_)|(refine aI rfl rfl rfl L0.o (by kernel_rfl) ?_))
 refine(Ea HR.o HH.o hn F p kn D ad w1 M0.o.view HK.o M0.o.inv bt (SZ.o _ _ _ M0.o) (NF.o _ _ _ M0.o).1 (NF.o _ _ _ M0.o).2).mono ?_
 intro e w2 he
 rcases M0.o.step (ae.refl _) HK.o (js HH.o.toPgIn ad) he with⟨a',hE,rfl,hd',ht',_⟩|⟨x2,D2,F2,hE,rfl,M2,hq2,_,_⟩
 ·exact⟨rfl,NEED.o a' w2 (HRr.o.symm.trans (ag hE)) hd' ht'⟩
 have L2:=hQQ (KL.o _ _ _ M2)
 have R2:=hQQ ((aj hE).symm.trans HRr.o)
 have M2:=hQQ M2
 clear he hE
 obtain⟨cs,i,b,ev,hsz,h1,hb⟩:=I6 c p x2
 rw[ev]
 obtain⟨w3,e3,b3,m3⟩:=Ab w2 cs
 have H1:=hQQ h1
 have HSZ:=hQQ hsz
 clear h1 hsz ev
 have M3:=hQQ (M2.o.more m3)
 rcases hb with⟨rfl,hy⟩|⟨q,k,rfl,rfl,rfl⟩
 ·have FIN:=hQQ (DONE.o (0,false) w3 D2 F2 (by have:=R2.o;rw[hy] at this;exact this.symm) M3.o)
  clear R2 hy
  go_wp2_with (refine wpList_store_row rfl 90 _ _ rfl _ _ rfl rfl 90 _ (aY _ _ _) (by rw[HSZ.o];kernel_rfl) (by rw[HSZ.o];rfl) H1.o (e3.symm▸ ?_))
  go_ret2
  exact FIN.o
 ·have FIN:=hQQ (DONE.o (k,true) w3 D2 F2 R2.o.symm M3.o)
  obtain⟨c0,c25,c26⟩:=lj b3
  clear R2
  go_wp2_with (refine wpList_store_row rfl 90 _ _ rfl _ _ rfl rfl 90 _ (aY _ _ _) (by rw[HSZ.o];kernel_rfl) (by rw[HSZ.o];rfl) H1.o (e3.symm▸ ?_))
  go_ret2
  exact FIN.o
theorem I7 {c:Cfg}(R:c.Ok){n:Nat}(H:cF c.pg c.st n)(hn:n≤10000)(F:Nat→Prop)(p:Nat)(kn:Int→Option Int)(D:List KV)(ad:Int)(w:World)(hv:aE w F p kn D)(hk:OkK kn)(hD:cD n D)(bt:Nat)(hs:df bt w)(nF0:¬F 0)(nFb:¬F bt):
 Calls Tryz.prog 87 #[.pointer (some ⟨p,0,none⟩),.agg c.arr,.int .i64 ad] w (aB w F p kn (fun b:Bool=> .bool b) (rj c.us c.pg c.st ad kn D)):=by
 obtain⟨Rr,hRr⟩:∃Rr,rj c.us c.pg c.st ad kn D=Rr:=⟨_,rfl⟩
 rw[hRr]
 obtain⟨w1,e1,hl1,m1,s1⟩:=aZ w (.cells c.arr 28)
 have nFl:¬F w.heap.size:=fun q=>by have:=hv.lt _ q;omega
 have MM:=hQQ m1
 have L0:=hQQ hl1
 have M0:Hq (MidV w1 w1 F (fun _=>False) p kn n D F):=hQQ (MidV.begin (hv.more m1) hD)
 have KL:Hq (∀wr D' F',MidV w1 wr F (fun _=>False) p kn n D' F'→wr.heap[w.heap.size]?=some (.cells c.arr 28 (0,0))):=hQQ fun wr D' F' h=>cE h L0.o nFl (fun q=>q)
 have NEED:Hq (∀a w2,Rr=.need a→aN w2 p a→Turned (fun b=>F b∨False) w1 w2→aB w F p kn (fun b:Bool=>Value.bool b) Rr (.panicked (aR p)) w2):=hQQ fun a w2 e hd ht=>ct MM.o (fun _ q=>q.elim) e hd ht
 have DONE:Hq (∀x w2 D' F',Rr=.ok x D'→MidV w1 w2 F (fun _=>False) p kn n D' F'→aB w F p kn (fun b:Bool=>Value.bool b) Rr (.returned ((fun b:Bool=>Value.bool b) x)) w2):=hQQ fun x w2 D' F' e h=>bQ MM.o (fun _ q=>q.elim) h e
 have HK:=hQQ hk
 have HR:=hQQ R
 have HH:=hQQ H
 clear hl1 m1 hv hD hk R H nFl
 have SZ:Hq (∀wr D' F',MidV w1 wr F (fun _=>False) p kn n D' F'→df bt wr):=hQQ fun wr D' F' h=>(hs.more MM.o).keep h.turn (by rintro(q|q);exact nF0 q;exact q) (by rintro(q|q);exact nFb q;exact q)
 have NF:Hq (∀wr D' F',MidV w1 wr F (fun _=>False) p kn n D' F'→¬F' 0∧¬F' bt):=hQQ fun wr D' F' h=>⟨h.off (hs.more MM.o).lt0 nF0,h.off (hs.more MM.o).lt nFb⟩
 have HRr:=hQQ (show aq (fT c.us c.pg c.st ad) (fun x=>Ck c.pg c.st (fB x)) kn D=Rr from hRr)
 have HN:=hQQ hn
 clear hRr hs nF0 nFb
 have hmf:∀(fn:Fn) (first cap:Array Value) (w:World),(Instr.makeFunc fn first cap).run Tryz.prog w=.ok (.func fn first cap) w:=fun _ _ _ _=>rfl
 go_enter_defers Tryz.func87,Tryz.ntmps87
 go_wp2_with (first|(refine aI rfl rfl rfl L0.o (by kernel_rfl) ?_)|(refine aI rfl rfl rfl L0.o (by kernel_rfl) ?_))
 refine(Ea HR.o HH.o hn F p kn D ad w1 M0.o.view HK.o M0.o.inv bt (SZ.o _ _ _ M0.o) (NF.o _ _ _ M0.o).1 (NF.o _ _ _ M0.o).2).mono ?_
 intro e w2 he
 rcases M0.o.step (ae.refl _) HK.o (js HH.o.toPgIn ad) he with⟨a',hE,rfl,hd',ht',_⟩|⟨x2,D2,F2,hE,rfl,M2,hq2,hk2,hf2⟩
 ·exact NEED.o a' w2 (HRr.o.symm.trans (ag hE)) hd' ht'
 have R2:=hQQ ((aj hE).symm.trans HRr.o)
 have M2:=hQQ M2
 have HE2:=hQQ hE
 clear he hE hk2 hf2
 obtain⟨cs,i,b,ev,hsz,h1,hb⟩:=I6 c p x2
 rw[ev]
 obtain⟨w3,e3,b3,m3⟩:=Ab w2 cs
 have H1:=hQQ h1
 have HSZ:=hQQ hsz
 clear h1 hsz ev
 have M3:=hQQ (M2.o.more m3)
 have nFg:¬F2 w2.heap.size:=fun z=>by have:=M2.o.view.lt _ z;omega
 rcases hb with⟨rfl,hy⟩|⟨q,k,rfl,rfl,rfl⟩
 ·have FIN:=hQQ (DONE.o false w3 D2 F2 (by have:=R2.o;rw[hy] at this;exact this.symm) M3.o)
  clear R2 hy
  go_wp2_with (refine wpList_store_row rfl 90 _ _ rfl _ _ rfl rfl 90 _ (aY _ _ _) (by rw[HSZ.o];kernel_rfl) (by rw[HSZ.o];rfl) H1.o (e3.symm▸ ?_))
  refine⟨_,results_tmp (t:=6) rfl _ _ _,?_⟩
  exact FIN.o
 ·have HQ:=hQQ (hq2 q k i true rfl).1
  have PB:=hQQ (cm HH.o.toPgIn HQ.o)
  obtain⟨b,hwb,-⟩:=Cj HE2.o
  have R2:=hQQ (show mw c.pg c.st q k i kn D2=Rr from R2.o)
  have WB0:=hQQ hwb
  clear HE2 hq2 hwb
  go_wp2_with (first|(refine wpList_store_row rfl 90 _ _ rfl _ _ rfl rfl 90 _ (aY _ _ _) (by rw[HSZ.o];kernel_rfl) (by rw[HSZ.o];rfl) H1.o (e3.symm▸ ?_))|(refine wpList_load_row rfl 90 _ rfl _ rfl 90 _ _ _ b3 Tryz.underlying90 rfl (by kernel_rfl) ?_))
  have BG:=hQQ b3
  clear e3 m3 b3 M2
  generalize w2.heap.size=gb at BG nFg
  refine(DZ HR.o HH.o.toPgIn HN.o F2 p kn D2 q k HQ.o w3 M3.o.view HK.o M3.o.inv).mono ?_
  intro e w7 he
  rcases M3.o.stepR (ae.refl _) HK.o (bd n PB.o.2.1.2.1) he with⟨a',hE,rfl,hd',ht',_⟩|⟨was,D6,F6,vm,hE,rfl,⟨gm,wm,rfl,hgm,hwm,hne,nm,nw,bm,bw⟩,M6,hq6,hk6,hf6⟩
  ·exact NEED.o a' w7 (R2.o.symm.trans (ag hE)) hd' ht'
  obtain⟨rfl,_⟩:=gG hE
  have R6:=hQQ ((aj hE).symm.trans R2.o)
  have R6:=hQQ ((aj (eU WB0.o)).symm.trans R6.o)
  have BG:=hQQ (hk6 _ _ nFg BG.o)
  have BM:=hQQ bm
  have BW:=hQQ bw
  have NM:=hQQ nm
  have NW:=hQQ nw
  have M6:=hQQ M6
  have HB0:Hq (W64 b):=hQQ ((bd n PB.o.2.2.2.1).ok HK.o M6.o.inv (eU WB0.o)).2
  clear he hE bm bw nm nw hgm hwm hne hk6 hf6 hq6 M3 R2 nFg
  have YB:=hQQ (fun W (hW:ae w7 W)=>DT HR.o HH.o.toPgIn F6 p kn D6 q k b HN.o HQ.o W (M6.o.view.more hW) WB0.o)
  have YS:=hQQ (fun W=>ID (i:=i) HB0.o W)
  obtain⟨nb',hnb'⟩:∃nb',clearV b i=nb':=⟨_,rfl⟩
  have HB:=hQQ (kt HB0.o i)
  have HC:=hQQ (And.intro (cnt_b (clearV b i) k).1 (cnt_b (clearV b i) k).2.1)
  rw[hnb'] at YS R6 HB HC
  clear hnb'
  go_wp2_with fail
  refine bO 5 (by kernel_rfl) (by kernel_rfl) ?_
  simp only[List.take_succ_cons,List.take_zero,List.drop_succ_cons,List.drop_zero]
  refine aM rfl 90 _ rfl gb rfl 90 _ _ _ (fun W hW=>hW.block BG.o) Tryz.underlying90 rfl (by kernel_rfl) ?_
  refine aM rfl 90 _ rfl gb rfl 90 _ _ _ (fun W hW=>hW.block BG.o) Tryz.underlying90 rfl (by kernel_rfl) ?_
  iterate 1
   with_reducible refine wpQuiet_step (fun K hK=>?_)
   go_simp
   first
   |(refine hK _ ?_;clear hK K)
   |(apply Exists.intro
     refine⟨fun W hW=>?_,hK _ ?_⟩
     first
     |(go_at_call 82;exact Calls.more hW (YB.o W hW))
     |(go_simp;try rfl)
     clear hK K)
  iterate 1
   with_reducible refine wpQuiet_step (fun K hK=>?_)
   go_simp
   first
   |(refine hK _ ?_;clear hK K)
   |(apply Exists.intro
     refine⟨fun W hW=>?_,hK _ ?_⟩
     first
     |(go_simp;try rfl)
     clear hK K)
  iterate 1
   with_reducible refine wpQuiet_step (fun K hK=>?_)
   go_simp
   first
   |(refine hK _ ?_;clear hK K)
   |(apply Exists.intro
     refine⟨fun W hW=>?_,hK _ ?_⟩
     first
     |(go_at_call 113;exact Calls.more hW (YS.o W))
     |(go_simp;try rfl)
     clear hK K)
  refine wpQuiet_nil ?_
  intro w8 h8
  have M8:=hQQ (M6.o.more h8)
  have BM8:=hQQ (h8.block BM.o)
  have BW8:=hQQ (h8.block BW.o)
  clear h8
  go_wp2_with fail
  refine(ME HR.o HH.o.toPgIn hn F6 p kn D6 q k nb' HQ.o HB.o HC.o w8 M8.o.view HK.o M8.o.inv bt (SZ.o _ _ _ M8.o) (NF.o _ _ _ M8.o).1 (NF.o _ _ _ M8.o).2).mono ?_
  intro e w9 he
  rcases M8.o.step (ae.refl _) HK.o (gZ HH.o.toPgIn HQ.o HB.o) he with⟨a',hE,rfl,hd',ht',hk'⟩|⟨x9,D9,F9,hE,rfl,M9,hq9,hk9,hf9⟩
  ·have NE:=hQQ (NEED.o a')
   have R9:=hQQ (R6.o.symm.trans (ag hE))
   change bodyPostD _ _ _ (Exit.panic (aR p)) _ _
   refine leaves_cons (f:=129) (args:=#[.pointer (some ⟨gm,0,none⟩),.pointer (some ⟨wm,0,none⟩)]) (by simp) (by simp[go_sem]) ?_
   refine(zF HR.o HH.o p a' q k was gm wm w9 hd' (hk' _ _ NM.o BM8.o) (hk' _ _ NW.o BW8.o) _).mono ?_
   rintro e u' w10 ⟨rfl,rfl,h10⟩
   exact NE.o w10 R9.o (hd'.keep h10 (fun q=>q)) (am ht' h10 (fun _ q=>q.elim))
  have R9:=hQQ ((aj hE).symm.trans R6.o)
  have BM9:=hQQ (hk9 _ _ NM.o BM8.o)
  have BW9:=hQQ (hk9 _ _ NW.o BW8.o)
  have NM9:=hQQ (show ¬F9 gm from fun z=>by rcases hf9 _ z with q|q;exact NM.o q;have:=ac BM8.o;omega)
  have M9:=hQQ M9
  clear he hE hk9 hf9 hq9 M8 BM8 BW8
  clear BG YB YS HB HC WB0 HB0 M6 BM BW NM NW SZ NF R6 L0 M0
  go_wp2_with fail
  refine leaves_cons (f:=129) (args:=#[.pointer (some ⟨gm,0,none⟩),.pointer (some ⟨wm,0,none⟩)]) (by simp) (by simp[go_sem]) ?_
  refine(zI HR.o HH.o hn F9 p kn D9 q k was HQ.o gm wm w9 M9.o.view HK.o M9.o.inv BM9.o BW9.o NM9.o _).mono ?_
  rintro e u' w13 ⟨rfl,he⟩
  rcases M9.o.step (ae.refl _) HK.o (gY HH.o q k was HQ.o) he with⟨a',hE,rfl,hd',ht',_⟩|⟨x11,D11,F11,hE,rfl,M11,_,_,_⟩
  ·exact NEED.o a' w13 (R9.o.symm.trans (ag hE)) hd' ht'
  have FIN:=hQQ (DONE.o true w13 D11 F11 (R9.o.symm.trans (aj hE)) M11)
  refine⟨_,results_tmp (t:=6) rfl _ _ _,?_⟩
  exact FIN.o
section
variable {pg st:Int}{n:Nat}(H:cF pg st n)
include H
end
section
variable {pg st:Int}{n:Nat}(H:cF pg st n)
include H
theorem wo:PgW pg st (fun _=> []) (cL n):=by
 have hz:∀i:Int,wAt (cL n) i=0:=fun i=>by
  unfold wAt cL
  simp only[List.getD,List.getElem?_replicate]
  split<;>rfl
 have hk:∀p,af pg p=true→aX pg st (cL n) p=0:=fun p hp=>by unfold aX;rw[if_pos hp];exact hz _
 refine⟨IX H,⟨fun p hp=>by rw[hk p hp];omega,fun p hp _=>⟨hz _,hz _⟩,fun p hp h=>absurd (hk p hp) h,fun p hp h=>?_,fun a p ha=>⟨fun h=>(by cases h),fun h=>?_⟩⟩⟩
 ·rw[hk p hp] at h;omega
 ·have:=hk p h.1;have:=h.2.1;omega
end
theorem I8 {k:Int} :szV k=0↔aw k=0:=by
 unfold szV aw
 (repeat' split)<;>simp
structure FlI (pg st q:Int)(ws:List Int)(p:Int)(s:Int×Bool):Prop where
 free:s.2=true↔∃x,0≤x∧x<p∧aX pg st ws x=0
 least:(s.1=0∧∀x,0≤x→x<p→0<szV q→aX pg st ws x=q+1→dE q (c6 pg st ws x)≤0) ∨
  (0<szV q∧0<s.1∧(∃x,0≤x∧x<p∧aX pg st ws x=q+1∧dE q (c6 pg st ws x)=s.1)∧∀x,0≤x→x<p→aX pg st ws x=q+1→0<dE q (c6 pg st ws x)→s.1≤dE q (c6 pg st ws x))
section
variable {pg st:Int}{n:Nat}(H:cF pg st n)
include H
end
theorem I9 {us pg st:Int}{ws:List Int}{q k:Int}{j:Nat}(hq:af pg q=true)(hk:0≤k∧k≤4)(hj:(j:Int)<aw k)(ek:aX pg st ws q=k+1):
 fw us pg st (us+32 * q+j * szV k) ws=some (q,k,(j:Int),eG (c6 pg st ws q) j):=by
 have hp:=ax.1 hq
 obtain⟨z,rfl⟩:∃z:Nat,k=(z:Int):=⟨k.toNat,by omega⟩
 have hz4:z=0∨z=1∨z=2∨z=3∨z=4:=by omega
 have key:aw (z:Int)≠0∧0<szV (z:Int)∧0≤(j:Int) * szV (z:Int)∧(j:Int) * szV (z:Int)<32:=by
  rcases hz4 with rfl|rfl|rfl|rfl|rfl
  ·have hj:(j:Int)<32:=hj
   refine⟨by decide,by decide,?_,?_⟩<;>(show _;simp only[show szV ((0:Nat):Int)=1 from rfl];omega)
  ·have hj:(j:Int)<16:=hj
   refine⟨by decide,by decide,?_,?_⟩<;>(show _;simp only[show szV ((1:Nat):Int)=2 from rfl];omega)
  ·have hj:(j:Int)<8:=hj
   refine⟨by decide,by decide,?_,?_⟩<;>(show _;simp only[show szV ((2:Nat):Int)=4 from rfl];omega)
  ·have hj:(j:Int)<4:=hj
   refine⟨by decide,by decide,?_,?_⟩<;>(show _;simp only[show szV ((3:Nat):Int)=8 from rfl];omega)
  ·have hj:(j:Int)<2:=hj
   refine⟨by decide,by decide,?_,?_⟩<;>(show _;simp only[show szV ((4:Nat):Int)=16 from rfl];omega)
 obtain⟨k1,k2,k3,k4⟩:=key
 have hd:(j:Int) * szV (z:Int) / szV (z:Int)=(j:Int):=Int.mul_ediv_cancel _ (by omega)
 have hm:(j:Int) * szV (z:Int) % szV (z:Int)=0:=Int.mul_emod_left _ _
 obtain⟨x,hx⟩:∃x,(j:Int) * szV (z:Int)=x:=⟨_,rfl⟩
 rw[hx] at k3 k4 hd hm⊢
 have e1:(us+32 * q+x-us) / 32=q:=by omega
 have e2:(us+32 * q+x-us) % 32=x:=by omega
 unfold fw
 rw[if_pos (by omega),e1,e2,ek]
 unfold lq
 rw[show IntKind.i64.wrap ((z:Int)+1-1)=(z:Int) by rw[show(z:Int)+1-1=(z:Int) by omega];exact az (by omega) (by omega),if_neg k1,if_neg (by rw[hm];simp),hd]
theorem pF (us:Int){pg q k:Int}{j:Nat}(hq:af pg q=true)(k0:0≤k)(k4:k≤4)(hj:(j:Int)<aw k):(us+32 * q+j * szV k-us) / 32=q:=by
 obtain⟨z,rfl⟩:∃z:Nat,k=(z:Int):=⟨k.toNat,by omega⟩
 have hz4:z=0∨z=1∨z=2∨z=3∨z=4:=by omega
 rcases hz4 with rfl|rfl|rfl|rfl|rfl
 ·have hj:(j:Int)<32:=hj
  rw[show szV ((0:Nat):Int)=1 from rfl];omega
 ·have hj:(j:Int)<16:=hj
  rw[show szV ((1:Nat):Int)=2 from rfl];omega
 ·have hj:(j:Int)<8:=hj
  rw[show szV ((2:Nat):Int)=4 from rfl];omega
 ·have hj:(j:Int)<4:=hj
  rw[show szV ((3:Nat):Int)=8 from rfl];omega
 ·have hj:(j:Int)<2:=hj
  rw[show szV ((4:Nat):Int)=16 from rfl];omega
section
variable {pg st:Int}{n:Nat}(H:cF pg st n)
include H
theorem Ja (us k:Int){G:Int→List Int}{ws:List Int}(P:PgW pg st G ws)(hn:ws.length=n):
 (dd us pg st k ws=((0,false),ws)) ∨
 ∃(q:Int) (j:Nat) (f:Int) (G2:Int→List Int) (X:List Int),af pg q=true∧0≤k∧k≤4∧(j:Int)<aw k∧eG (c6 pg st ws q) j=false∧dd us pg st k ws=((us+32 * q+j * szV k,true),X)∧PgW pg st G2 X ∧
  (∀p,af pg p=true→aX pg st X p=(if p=q then k+1 else aX pg st ws p)∧cG pg st X p=(if p=q then f else cG pg st ws p)∧c6 pg st X p=(if p=q then setV (c6 pg st ws q) j else c6 pg st ws p)) ∧
  ((aX pg st ws q=k+1∧f+1=cG pg st ws q)∨(aX pg st ws q=0∧f+1=aw k)):=by
 by_cases hs:aw k=0
 ·exact .inl (tZ H us hs ws)
 have hk:=fl hs
 by_cases h1:dl pg st k (aw k).toNat 1 ws= -1
 ·by_cases h2:jt pg st 1 1 ws= -1
  ·exact .inl (ua H us hs h1 h2)
  ·obtain⟨y,hy⟩:∃y,jt pg st 1 1 ws=y:=⟨_,rfl⟩
   rw[hy] at h2
   obtain⟨G1,G2,w1,X,hyp,hk0,_,T,n1,_,M,e,Q⟩:=zZ H us hs P hn h1 hy h2
   have hf:=P.f.free y hyp hk0
   refine .inr ⟨y,0,aw k-1,G2,X,hyp,hk.1,hk.2,by have:=ep k;simp;omega,by rw[hf.2];simp[eG,mI],by rw[e];simp,Q,fun p hp=>⟨?_,?_,?_⟩,.inr ⟨hk0,by omega⟩⟩
   ·rw[d8.kind H M.o2,i7 H hyp _ _ n1,T.kind]
    by_cases e:p=y
    ·rw[if_pos e,if_pos e]
    ·rw[if_neg e,if_neg e,if_neg (by omega)]
   ·rw[d8.cnt H M.o2 hp,kB H hyp _ _ n1 hp,T.cnt p hp]
    by_cases e:p=y
    ·rw[if_pos e,if_pos e]
    ·rw[if_neg e,if_neg e,if_neg e,if_neg (by omega)]
   ·rw[d8.bit H M.o2 hp,kC H hyp _ _ n1 hp,T.bit p hp]
    by_cases e:p=y
    ·rw[if_pos e,if_pos e,hf.2];rfl
    ·rw[if_neg e,if_neg e,if_neg (by omega)]
 ·obtain⟨q,hq⟩:∃q,dl pg st k (aw k).toNat 1 ws=q:=⟨_,rfl⟩
  rw[hq] at h1
  obtain⟨j,G1,G2,u,X,hqp,ek,c1,_,_,hj,hb,M,e,Q⟩:=zY H us hs P hn hq h1
  refine .inr ⟨q,j,cG pg st ws q-1,G2,X,hqp,hk.1,hk.2,hj,by unfold eG;simp[hb],e,Q,fun p hp=>⟨?_,?_,?_⟩,.inl ⟨ek,by omega⟩⟩
  ·rw[d8.kind H M.o2,i7 H hqp _ _ hn]
   by_cases e:p=q
   ·rw[if_pos e,e,ek]
   ·rw[if_neg e]
  ·rw[d8.cnt H M.o2 hp,kB H hqp _ _ hn hp]
  ·rw[d8.bit H M.o2 hp,kC H hqp _ _ hn hp]
end
section
variable {pg st:Int}{n:Nat}(H:cF pg st n)
include H
theorem Jb (us:Int){a:Int}{G:Int→List Int}{ws:List Int}(P:PgW pg st G ws)(hn:ws.length=n)(ho:OkW ws){q k i:Int}(h:fB (fw us pg st a ws)=some (q,k,i)):
 ∃(G2:Int→List Int) (X:List Int),gS us pg st a ws=(true,X)∧PgW pg st G2 X ∧
  (∀p,af pg p=true→aX pg st X p=(if p=q then(if cG pg st ws q+1=aw k then 0 else k+1) else aX pg st ws p)∧cG pg st X p=(if p=q then(if cG pg st ws q+1=aw k then 0 else cG pg st ws q+1) else cG pg st ws p) ∧
   c6 pg st X p=(if p=q then(if cG pg st ws q+1=aw k then 0 else clearV (c6 pg st ws q) i) else c6 pg st ws p)):=by
 obtain⟨hq,ek,_,_,_,_,_,_,_,_,y1,y2⟩:=Aa H us P hn ho h
 by_cases he:cG pg st ws q+1=aw k
 ·obtain⟨G1,G2,u,X,M,e,Q⟩:=y2 he
  refine⟨G2,X,e,Q,fun p hp=>⟨?_,?_,?_⟩⟩
  ·rw[d8.kind H M.o2,ns H.toPgIn hq 0 0 hn p,if_pos he]
  ·rw[d8.cnt H M.o2 hp,mE H.toPgIn hq 0 0 hn hp,if_pos he]
  ·rw[d8.bit H M.o2 hp,pC H.toPgIn hq 0 0 hn hp,if_pos he]
 ·obtain⟨G1,G2,u,X,M,e,Q⟩:=y1 he
  refine⟨G2,X,e,Q,fun p hp=>⟨?_,?_,?_⟩⟩
  ·rw[d8.kind H M.o2,i7 H hq _ _ hn,if_neg he]
   by_cases z:p=q
   ·rw[if_pos z,z,ek]
   ·rw[if_neg z]
  ·rw[d8.cnt H M.o2 hp,kB H hq _ _ hn hp,if_neg he]
  ·rw[d8.bit H M.o2 hp,kC H hq _ _ hn hp,if_neg he]
end
theorem CG {w:Int}{m j:Nat} :j∈onN w m↔j<m∧eO w j=true:=by simp[onN]
theorem Eh {k b:Int}{i j:Nat}(h:dE k b+1=aw k)(hi:(i:Int)<aw k)(hj:(j:Int)<aw k)(bi:eG b i=true)(bj:eG b j=true):i=j:=by
 have hs:=ep k
 have he:=jw (k:=k)
 have hl:(onN b (endN (aw k))).length=1:=by unfold dE dk at h;omega
 obtain⟨x,hx⟩:=List.length_eq_one_iff.1 hl
 have m1:i∈onN b (endN (aw k)):=CG.2 ⟨by omega,by rw[←rV (by omega)];exact bi⟩
 have m2:j∈onN b (endN (aw k)):=CG.2 ⟨by omega,by rw[←rV (by omega)];exact bj⟩
 rw[hx] at m1 m2
 rw[List.mem_singleton.1 m1,List.mem_singleton.1 m2]
theorem Jc {k b:Int}(h:dE k b<aw k):∃j:Nat,(j:Int)<aw k∧eG b j=true:=by
 have hs:=ep k
 have he:=jw (k:=k)
 have hl:0<(onN b (endN (aw k))).length:=by unfold dE dk at h;omega
 obtain⟨j,hj⟩:=List.exists_mem_of_length_pos hl
 obtain⟨j1,j2⟩:=CG.1 hj
 exact⟨j,by omega,by rw[rV (by omega)];exact j2⟩
def tkC (us pg st:Int)(ws:List Int)(a:Int):Option Int:=(fB (fw us pg st a ws)).map (·.2.1)
theorem xU (us pg st a:Int)(ws:List Int):wl us pg st a ws=match tkC us pg st ws a with|some k=>(k,true)|none=>(0,false):=by
 unfold wl tkC
 cases fB (fw us pg st a ws) with
 |none=>rfl
 |some x=>obtain⟨q,k,i⟩:=x;rfl
structure lN (pg st:Int)(a b:List Int):Prop where
 len:b.length=a.length
 off:∀i:Int,bo st pg+62≤i→wAt b i=wAt a i
theorem lN.refl (pg st:Int)(a:List Int):lN pg st a a:=⟨rfl,fun _ _=>rfl⟩
theorem lN.trans {pg st:Int}{a b c:List Int}(h:lN pg st a b)(g:lN pg st b c):lN pg st a c:=⟨g.len.trans h.len,fun i hi=>(g.off i hi).trans (h.off i hi)⟩
structure uf (pg st:Int)(a b:List Int):Prop where
 len:b.length=a.length
 off:∀i:Int,0≤i→i<bo st pg+62→wAt b i=wAt a i
theorem szj {k:Int}{j:Nat}(k0:0≤k)(k4:k≤4)(hj:(j:Int)<aw k):0<szV k∧0≤(j:Int) * szV k∧(j:Int) * szV k<32:=by
 obtain⟨z,rfl⟩:∃z:Nat,k=(z:Int):=⟨k.toNat,by omega⟩
 have hz4:z=0∨z=1∨z=2∨z=3∨z=4:=by omega
 rcases hz4 with rfl|rfl|rfl|rfl|rfl
 ·have hj:(j:Int)<32:=hj
  rw[show szV ((0:Nat):Int)=1 from rfl];omega
 ·have hj:(j:Int)<16:=hj
  rw[show szV ((1:Nat):Int)=2 from rfl];omega
 ·have hj:(j:Int)<8:=hj
  rw[show szV ((2:Nat):Int)=4 from rfl];omega
 ·have hj:(j:Int)<4:=hj
  rw[show szV ((3:Nat):Int)=8 from rfl];omega
 ·have hj:(j:Int)<2:=hj
  rw[show szV ((4:Nat):Int)=16 from rfl];omega
theorem Jd {k:Int}(k0:0≤k)(k4:k≤4)(h:0<szV k)(q:Int):32 * q % szV k=0:=by
 obtain⟨z,rfl⟩:∃z:Nat,k=(z:Int):=⟨k.toNat,by omega⟩
 have hz4:z=0∨z=1∨z=2∨z=3∨z=4:=by omega
 rcases hz4 with rfl|rfl|rfl|rfl|rfl
 ·rw[show szV ((0:Nat):Int)=1 from rfl];omega
 ·rw[show szV ((1:Nat):Int)=2 from rfl];omega
 ·rw[show szV ((2:Nat):Int)=4 from rfl];omega
 ·rw[show szV ((3:Nat):Int)=8 from rfl];omega
 ·rw[show szV ((4:Nat):Int)=16 from rfl];omega
section
variable {pg st:Int}{n:Nat}(H:cF pg st n)
include H
theorem j5 {p:Int}(hp:af pg p=true):(0≤kA pg st p∧kA pg st p<bo st pg+62)∧(0≤cA pg st p∧cA pg st p<bo st pg+62)∧(0≤bA pg st p∧bA pg st p<bo st pg+62)∧(0≤nA pg st p∧nA pg st p<bo st pg+62)∧(0≤vA pg st p∧vA pg st p<bo st pg+62):=by
 have:=ax.1 hp
 have h1:=H.st1;have h4:=H.pg1
 have hc:0≤aL pg:=by unfold aL;omega
 have ht:0≤a8 st:=by unfold a8;omega
 unfold kA cA bA nA vA bo
 refine⟨⟨?_,?_⟩,⟨?_,?_⟩,⟨?_,?_⟩,⟨?_,?_⟩,?_,?_⟩<;>omega
theorem Ei {k:Int}(hk:bS pg k=true):0≤dU pg st k∧dU pg st k<bo st pg+62:=by
 have h1:=H.st1;have h4:=H.pg1
 have:=dc.1 hk
 have ht:0≤a8 st:=by unfold a8;omega
 rw[lT hk]
 unfold bo
 omega
theorem Jf {i:Int}(hi:bo st pg+62≤i):¬dx pg st i∧∀p,af pg p=true→i≠nA pg st p∧i≠vA pg st p:=by
 refine⟨fun h=>by unfold dx at h;omega,fun p hp=>?_⟩
 obtain⟨_,_,_,h1,h2⟩:=j5 H hp
 exact⟨by omega,by omega⟩
theorem lr {a b:List Int}(o:d8 pg st a b):lN pg st a b:=⟨o.len,fun i hi=>by
 have:=Jf H hi
 have h1:=H.st1;have h4:=H.pg1
 have hc:0≤aL pg:=by unfold aL;omega
 have ht:0≤a8 st:=by unfold a8;omega
 exact o.off i (by unfold bo at hi;omega) this.1 this.2⟩
theorem qF {q:Int}(hq:af pg q=true)(b f:Int){ws:List Int}(hn:ws.length=n):lN pg st ws (gt pg st q b f ws):=⟨by simp[gt],fun i hi=>by
 obtain⟨_,⟨h1,h2⟩,⟨h3,h4⟩,_⟩:=j5 H hq
 rw[iY H hq b f hn (by omega),if_neg (by omega),if_neg (by omega)]⟩
theorem FZ {q:Int}(hq:af pg q=true)(k x:Int){ws:List Int}(hn:ws.length=n):lN pg st ws (fG pg st q k x ws):=⟨ff H.toPgIn _ _ _ _,fun i hi=>by
 obtain⟨⟨h5,h6⟩,⟨h1,h2⟩,⟨h3,h4⟩,_⟩:=j5 H hq
 rw[im H.toPgIn hq k x hn (by omega),if_neg (by omega),if_neg (by omega),if_neg (by omega)]⟩
theorem Ga {p m k:Int}{a b:List Int}(T:IQ pg st p m k a b):lN pg st a b:=⟨T.len,fun i hi=>by
 have h1:=H.st1;have h4:=H.pg1
 have hc:0≤aL pg:=by unfold aL;omega
 have ht:0≤a8 st:=by unfold a8;omega
 refine T.off i (by unfold bo at hi;omega) (fun p hp=>?_) (fun k hk=>?_)
 ·obtain⟨⟨_,h1⟩,⟨_,h2⟩,⟨_,h3⟩,_⟩:=j5 H hp
  exact⟨by omega,by omega,by omega⟩
 ·have:=Ei H hk;omega⟩
theorem Gb (us k:Int){G:Int→List Int}{ws:List Int}(P:PgW pg st G ws)(hn:ws.length=n):lN pg st ws (dd us pg st k ws).2:=by
 by_cases hs:aw k=0
 ·rw[tZ H us hs ws];exact lN.refl _ _ _
 ·by_cases h1:dl pg st k (aw k).toNat 1 ws= -1
  ·by_cases h2:jt pg st 1 1 ws= -1
   ·rw[ua H us hs h1 h2];exact lN.refl _ _ _
   ·obtain⟨G1,G2,w1,X,hy,_,_,T,n1,_,M,e,_⟩:=zZ H us hs P hn h1 rfl h2
    rw[e]
    exact((Ga H T).trans (qF H hy _ _ n1)).trans (lr H M.o2)
  ·obtain⟨j,G1,G2,u,X,hq,_,_,_,_,_,_,M,e,_⟩:=zY H us hs P hn rfl h1
   rw[e]
   exact(qF H hq _ _ hn).trans (lr H M.o2)
theorem Gc (us a:Int){G:Int→List Int}{ws:List Int}(P:PgW pg st G ws)(hn:ws.length=n)(ho:OkW ws):lN pg st ws (gS us pg st a ws).2:=by
 cases h:fB (fw us pg st a ws) with
 |none=>rw[Lk H h];exact lN.refl _ _ _
 |some x =>
  obtain⟨q,k,i⟩:=x
  obtain⟨hq,_,_,_,_,_,_,_,_,_,y1,y2⟩:=Aa H us P hn ho h
  by_cases he:cG pg st ws q+1=aw k
  ·obtain⟨G1,G2,u,X,M,e,_⟩:=y2 he
   rw[e];exact(FZ H hq _ _ hn).trans (lr H M.o2)
  ·obtain⟨G1,G2,u,X,M,e,_⟩:=y1 he
   rw[e];exact(qF H hq _ _ hn).trans (lr H M.o2)
theorem fa {a b:List Int}(F:uf pg st a b)(p:Int):aX pg st b p=aX pg st a p:=by
 unfold aX
 split
 ·rename_i hp
  obtain⟨⟨h1,h2⟩,_⟩:=j5 H hp
  exact F.off _ h1 h2
 ·rfl
theorem nB {a b:List Int}(F:uf pg st a b){p:Int}(hp:af pg p=true):cG pg st b p=cG pg st a p:=by
 obtain⟨_,⟨h1,h2⟩,_⟩:=j5 H hp
 exact F.off _ h1 h2
theorem nD {a b:List Int}(F:uf pg st a b){p:Int}(hp:af pg p=true):c6 pg st b p=c6 pg st a p:=by
 obtain⟨_,_,⟨h1,h2⟩,_⟩:=j5 H hp
 exact F.off _ h1 h2
theorem Gd {a b:List Int}(F:uf pg st a b)(k:Int):bL pg st b k=bL pg st a k:=by
 unfold bL
 cases hk:bS pg k with
 |false=>rfl
 |true =>
  obtain⟨h1,h2⟩:=Ei H hk
  rw[F.off _ h1 h2]
theorem wu {a b:List Int}(F:uf pg st a b){G:Int→List Int}(P:PgW pg st G a):PgW pg st G b:=by
 obtain⟨L,Q⟩:=P
 have h1:=H.st1;have h4:=H.pg1
 have hc:0≤aL pg:=by unfold aL;omega
 have ht:0≤a8 st:=by unfold a8;omega
 refine⟨⟨fun x hx=>?_,L.page,L.nodup,L.apart,fun x p hx hp=>?_,fun x p hx hp=>?_,fun p hp hn=>?_⟩,⟨fun p hp=>?_,fun p hp h=>?_,fun p hp h=>?_,fun p hp h=>?_,fun x p hx=>?_⟩⟩
 ·rw[F.off x (by unfold dx bo at hx;omega) (by unfold dx at hx;omega)];exact L.head x hx
 ·obtain⟨_,_,_,⟨n1,n2⟩,_⟩:=j5 H (L.page x hx p hp)
  rw[F.off _ n1 n2];exact L.next x p hx hp
 ·obtain⟨_,_,_,_,v1,v2⟩:=j5 H (L.page x hx p hp)
  rw[F.off _ v1 v2];exact L.prev x p hx hp
 ·obtain⟨_,_,_,⟨n1,n2⟩,v1,v2⟩:=j5 H hp
  rw[F.off _ n1 n2,F.off _ v1 v2];exact L.free p hp hn
 ·rw[fa H F];exact Q.kd p hp
 ·rw[fa H F] at h;rw[nB H F hp,nD H F hp];exact Q.free p hp h
 ·rw[fa H F] at h;rw[Gd H F];exact Q.map p hp h
 ·rw[fa H F] at h⊢;rw[nB H F hp,nD H F hp];exact Q.cnt p hp h
 ·rw[Q.mem x p hx]
  constructor
  ·rintro⟨z1,z2,z3⟩
   refine⟨z1,?_,?_⟩
   ·rw[fa H F];exact z2
   ·rw[fa H F,nB H F z1];exact z3
  ·rintro⟨z1,z2,z3⟩
   rw[fa H F] at z2 z3
   rw[nB H F z1] at z3
   exact⟨z1,z2,z3⟩
theorem iL {us a k:Int}{G:Int→List Int}{ws:List Int}(P:PgW pg st G ws):
 tkC us pg st ws a=some k↔∃(q:Int) (j:Nat),af pg q=true∧0≤k∧k≤4∧(j:Int)<aw k∧aX pg st ws q=k+1∧eG (c6 pg st ws q) j=true∧a=us+32 * q+j * szV k:=by
 constructor
 ·intro h
  unfold tkC at h
  cases hx:fB (fw us pg st a ws) with
  |none=>rw[hx] at h;cases h
  |some x =>
   obtain⟨q,k',i⟩:=x
   rw[hx] at h
   simp at h
   subst h
   obtain⟨hq,ek,k0,k4,i0,i1,ht,ha⟩:=ue H P.f (hH hx)
   obtain⟨j,rfl⟩:∃j:Nat,i=j:=⟨i.toNat,by omega⟩
   exact⟨q,j,hq,k0,k4,i1,ek,ht.symm,ha⟩
 ·rintro⟨q,j,hq,k0,k4,hj,ek,hb,rfl⟩
  unfold tkC
  rw[I9 hq ⟨k0,k4⟩ hj ek,hb]
  rfl
theorem Jg {us a:Int}{x y:List Int}(F:uf pg st x y){G:Int→List Int}(P:PgW pg st G x):tkC us pg st y a=tkC us pg st x a:=by
 apply Option.ext
 intro k
 have e1:=iL H (us:=us) (a:=a) (k:=k) (wu H F P)
 have e2:=iL H (us:=us) (a:=a) (k:=k) P
 rw[e1,e2]
 constructor
 ·rintro⟨q,j,hq,k0,k4,hj,ek,hb,ha⟩
  rw[fa H F] at ek;rw[nD H F hq] at hb
  exact⟨q,j,hq,k0,k4,hj,ek,hb,ha⟩
 ·rintro⟨q,j,hq,k0,k4,hj,ek,hb,ha⟩
  exact⟨q,j,hq,k0,k4,hj,by rw[fa H F];exact ek,by rw[nD H F hq];exact hb,ha⟩
theorem Ac {us k q q':Int}{j j':Nat}(hq:af pg q=true)(hq':af pg q'=true)(k0:0≤k)(k4:k≤4)(hj:(j:Int)<aw k)(hj':(j':Int)<aw k)(e:us+32 * q+j * szV k=us+32 * q'+j' * szV k):q=q'∧j=j':=by
 have e1:=pF us hq k0 k4 hj
 have e2:=pF us hq' k0 k4 hj'
 have eq:q=q':=by rw[←e1,←e2,e]
 subst eq
 refine⟨rfl,?_⟩
 have hs:szV k≠0:=fun z=>by
  have:=I8.1 z
  omega
 have:(j:Int) * szV k=(j':Int) * szV k:=by omega
 have:=Int.eq_of_mul_eq_mul_right hs this
 omega
theorem Ad {us k k' q q':Int}{j j':Nat}(hq:af pg q=true)(hq':af pg q'=true)(k0:0≤k)(k4:k≤4)(k0':0≤k')(k4':k'≤4)(hj:(j:Int)<aw k)(hj':(j':Int)<aw k')(e:us+32 * q+j * szV k=us+32 * q'+j' * szV k'):q=q':=by
 have e1:=pF us hq k0 k4 hj
 have e2:=pF us hq' k0' k4' hj'
 rw[←e1,←e2,e]
theorem Ae {k:Int}(k0:0≤k)(k4:k≤4){j:Nat}(hj:(j:Int)<aw k):inR (j:Int)=true:=(eZ _).2 ⟨by omega,by have:=ep k;omega⟩
theorem Jh (us k:Int){G:Int→List Int}{ws:List Int}(P:PgW pg st G ws)(hn:ws.length=n):
 (dd us pg st k ws=((0,false),ws)) ∨
 ∃(a:Int) (G2:Int→List Int) (X:List Int),dd us pg st k ws=((a,true),X)∧PgW pg st G2 X∧lN pg st ws X∧0≤k∧k≤4∧tkC us pg st ws a=none∧tkC us pg st X a=some k∧(∀b,b≠a→tkC us pg st X b=tkC us pg st ws b)∧us≤a∧a<us+32 * pg∧(a-us) % szV k=0:=by
 rcases Ja H us k P hn with e|⟨q,j,f,G2,X,hq,k0,k4,hj,hb,e,Q,hp,hw⟩
 ·exact .inl e
 have hin:=Ae H k0 k4 hj
 have T:=Gb H us k P hn
 rw[e] at T
 have hp1:=fun p h=>(hp p h).1
 have hp3:=fun p h=>(hp p h).2.2
 have hkq:=hp1 q hq;rw[if_pos rfl] at hkq
 have hbq:=hp3 q hq;rw[if_pos rfl] at hbq
 have hfree:aX pg st ws q=k+1∨(aX pg st ws q=0∧∀i:Int,eG (c6 pg st ws q) i=false):=by
  rcases hw with⟨w1,_⟩|⟨w1,_⟩
  ·exact .inl w1
  ·exact .inr ⟨w1,fun i=>by rw[(P.f.free q hq w1).2];simp[eG,mI]⟩
 obtain⟨kz,kz1,kz2⟩:=szj k0 k4 hj
 have hqq:=ax.1 hq
 refine .inr ⟨us+32 * q+j * szV k,G2,X,e,Q,T,k0,k4,?_,?_,fun b hne=>?_,by omega,by omega,?_⟩
 ·cases z:tkC us pg st ws (us+32 * q+j * szV k) with
  |none=>rfl
  |some k' =>
   obtain⟨q',j',hq',k0',k4',hj',ek,hb',ha⟩:=(iL H P).1 z
   obtain rfl:=Ad H hq hq' k0 k4 k0' k4' hj hj' ha
   rcases hfree with w|⟨_,w⟩
   ·have:k'=k:=by omega
    subst this
    obtain⟨_,rfl⟩:=Ac H hq hq k0 k4 hj hj' ha
    rw[hb] at hb';cases hb'
   ·rw[w] at hb';cases hb'
 ·exact(iL H Q).2 ⟨q,j,hq,k0,k4,hj,hkq,by rw[hbq];exact KN hin,rfl⟩
 ·apply Option.ext
  intro c
  rw[iL H Q,iL H P]
  constructor
  ·rintro⟨q',j',hq',c0,c4,hj',ek,hb',rfl⟩
   rw[hp1 q' hq'] at ek
   rw[hp3 q' hq'] at hb'
   by_cases z:q'=q
   ·subst z
    rw[if_pos rfl] at ek hb'
    have:c=k:=by omega
    subst this
    have nj:j'≠j:=fun y=>hne (by rw[y])
    rw[nU hin (by omega)] at hb'
    rcases hfree with w|⟨_,w⟩
    ·exact⟨q',j',hq',c0,c4,hj',by omega,hb',rfl⟩
    ·rw[w] at hb';cases hb'
   ·rw[if_neg z] at ek hb'
    exact⟨q',j',hq',c0,c4,hj',ek,hb',rfl⟩
  ·rintro⟨q',j',hq',c0,c4,hj',ek,hb',rfl⟩
   refine⟨q',j',hq',c0,c4,hj',?_,?_,rfl⟩
   ·rw[hp1 q' hq']
    by_cases z:q'=q
    ·subst z
     rcases hfree with w|⟨_,w⟩
     ·rw[if_pos rfl];omega
     ·rw[w] at hb';cases hb'
    ·rw[if_neg z];exact ek
   ·rw[hp3 q' hq']
    by_cases z:q'=q
    ·subst z
     rw[if_pos rfl]
     rcases hfree with w|⟨_,w⟩
     ·have:c=k:=by omega
      subst this
      have nj:j'≠j:=fun y=>hne (by rw[y])
      rw[nU hin (by omega)];exact hb'
     ·rw[w] at hb';cases hb'
    ·rw[if_neg z];exact hb'
 ·have e1:us+32 * q+j * szV k-us=32 * q+j * szV k:=by omega
  rw[e1,Int.add_emod,Int.mul_emod_left,Int.add_zero,Int.emod_emod_of_dvd _ (Int.dvd_refl _)]
  have:(32:Int) * q % szV k=0:=Jd k0 k4 kz q
  exact this
theorem Ji (us:Int){a k:Int}{G:Int→List Int}{ws:List Int}(P:PgW pg st G ws)(hn:ws.length=n)(ho:OkW ws)(h:tkC us pg st ws a=some k):
 ∃(G2:Int→List Int) (X:List Int),gS us pg st a ws=(true,X)∧PgW pg st G2 X∧lN pg st ws X∧tkC us pg st X a=none∧(∀b,b≠a→tkC us pg st X b=tkC us pg st ws b):=by
 have h0:=h
 unfold tkC at h0
 cases hx:fB (fw us pg st a ws) with
 |none=>rw[hx] at h0;cases h0
 |some x =>
  obtain⟨q,k',i⟩:=x
  rw[hx] at h0
  simp at h0
  subst h0
  have T:=Gc H us a P hn ho
  obtain⟨hq,ek,k0,k4,i0,i1,ht,ha⟩:=ue H P.f (hH hx)
  obtain⟨j,rfl⟩:∃j:Nat,i=j:=⟨i.toNat,by omega⟩
  have hin:=Ae H k0 k4 i1
  obtain⟨G2,X,e,Q,hp⟩:=Jb H us P hn ho hx
  rw[e] at T
  have hc:=P.f.cnt q hq (by omega)
  rw[ek,show k'+1-1=k' by omega] at hc
  have ht:=ht.symm
  refine⟨G2,X,e,Q,T,?_,fun b hne=>?_⟩
  ·cases z:tkC us pg st X a with
   |none=>rfl
   |some c =>
    obtain⟨q',j',hq',c0,c4,hj',ek',hb',ha'⟩:=(iL H Q).1 z
    obtain rfl:=Ad H hq hq' k0 k4 c0 c4 i1 hj' (ha.symm.trans ha')
    obtain⟨p1,_,p3⟩:=hp q hq
    rw[if_pos rfl] at p1 p3
    by_cases he:cG pg st ws q+1=aw k'
    ·rw[if_pos he] at p1;omega
    ·rw[if_neg he] at p1 p3
     have:c=k':=by omega
     subst this
     obtain⟨_,rfl⟩:=Ac H hq hq k0 k4 i1 hj' (ha.symm.trans ha')
     rw[p3,vQ hin] at hb'
     cases hb'
  ·apply Option.ext
   intro c
   rw[iL H Q,iL H P]
   constructor
   ·rintro⟨q',j',hq',c0,c4,hj',ek',hb',rfl⟩
    obtain⟨p1,_,p3⟩:=hp q' hq'
    by_cases z:q'=q
    ·subst z
     rw[if_pos rfl] at p1 p3
     by_cases he:cG pg st ws q'+1=aw k'
     ·rw[if_pos he] at p1;omega
     ·rw[if_neg he] at p1 p3
      have:c=k':=by omega
      subst this
      have nj:j'≠j:=fun y=>hne (by rw[y,ha])
      rw[p3,lJ hin (by omega)] at hb'
      exact⟨q',j',hq',c0,c4,hj',ek,hb',rfl⟩
    ·rw[if_neg z] at p1 p3
     exact⟨q',j',hq',c0,c4,hj',by rw[←p1];exact ek',by rw[←p3];exact hb',rfl⟩
   ·rintro⟨q',j',hq',c0,c4,hj',ek',hb',rfl⟩
    obtain⟨p1,_,p3⟩:=hp q' hq'
    refine⟨q',j',hq',c0,c4,hj',?_,?_,rfl⟩
    all_goals by_cases z:q'=q
    ·subst z
     have:c=k':=by omega
     subst this
     have nj:j'≠j:=fun y=>hne (by rw[y,ha])
     rw[if_pos rfl] at p1
     by_cases he:cG pg st ws q'+1=aw c
     ·exact absurd (Eh (by omega) i1 hj' ht hb') (fun y=>nj y.symm)
     ·rw[if_neg he] at p1;exact p1
    ·rw[if_neg z] at p1;rw[p1];exact ek'
    ·subst z
     have:c=k':=by omega
     subst this
     have nj:j'≠j:=fun y=>hne (by rw[y,ha])
     rw[if_pos rfl] at p3
     by_cases he:cG pg st ws q'+1=aw c
     ·exact absurd (Eh (by omega) i1 hj' ht hb') (fun y=>nj y.symm)
     ·rw[if_neg he] at p3
      rw[p3,lJ hin (by omega)];exact hb'
    ·rw[if_neg z] at p3;rw[p3];exact hb'
theorem Jj {us:Int}{G:Int→List Int}{ws:List Int}(P:PgW pg st G ws)(h:∀a,tkC us pg st ws a=none):∀p,af pg p=true→aX pg st ws p=0:=by
 intro p hp
 apply Classical.byContradiction
 intro hne
 have hkd:=P.f.kd p hp
 obtain⟨c1,c2⟩:=P.f.cnt p hp (by omega)
 rw[c1] at c2
 obtain⟨j,hj,hb⟩:=Jc c2
 have:=(iL H (us:=us) P).2 ⟨p,j,hp,by omega,by omega,hj,by omega,hb,rfl⟩
 rw[h] at this
 cases this
theorem Ge (us a:Int):tkC us pg st (cL n) a=none:=by
 have P:=wo H
 cases z:tkC us pg st (cL n) a with
 |none=>rfl
 |some k =>
  obtain⟨q,j,hq,k0,k4,hj,ek,_⟩:=(iL H P).1 z
  have hz:∀i:Int,wAt (cL n) i=0:=fun i=>by
   unfold wAt cL
   simp only[List.getD,List.getElem?_replicate]
   split<;>rfl
  unfold aX at ek
  rw[if_pos hq,hz] at ek
  omega
theorem xV {us a k:Int}{G:Int→List Int}{ws:List Int}(P:PgW pg st G ws)(h:tkC us pg st ws a=some k):us≤a∧a<us+32 * pg∧0≤k∧k≤4∧(a-us) % szV k=0∧aw k≠0:=by
 obtain⟨q,j,hq,k0,k4,hj,_,_,rfl⟩:=(iL H P).1 h
 obtain⟨kz,kz1,kz2⟩:=szj k0 k4 hj
 have hqq:=ax.1 hq
 refine⟨by omega,by omega,k0,k4,?_,by omega⟩
 have e1:us+32 * q+j * szV k-us=32 * q+j * szV k:=by omega
 rw[e1,Int.add_emod,Int.mul_emod_left,Int.add_zero,Int.emod_emod_of_dvd _ (Int.dvd_refl _)]
 exact Jd k0 k4 kz q
end
structure d6 (b l:Int)(n:Nat):Prop where
 b1:1≤b
 l0:0≤l
 hi:b+l<n
 top:n≤10000
def a6 (l y:Int):Int:=if 0≤y∧y≤l then y else 0
def jQ (b l:Int):Prg Int:=aq (cU b) fun y=>ay (a6 l y)
def dv (b l k:Int):Int:=if k<0∨l≤k then 0 else b+1+k
def j6 (up:Bool)(b l:Int):Prg (Int×Int):=aq (jQ b l) fun n=>ay (n,dv b l (if up then n else n-1))
def jR (b l x:Int):Prg Bool:=aq (j6 true b l) fun p=>if p.2=0 then ay false else aq (cO p.2 x) fun _=>aq (cO b (p.1+1)) fun _=>ay true
def ea (b l:Int):Prg (Int×Bool):=aq (j6 false b l) fun p=>if p.2=0 then ay (0,false) else aq (cU p.2) fun y=>aq (cO b (p.1-1)) fun _=>ay (y,true)
theorem kE {l y:Int}(h:0≤l):0≤a6 l y∧a6 l y≤l:=by unfold a6;split<;>omega
theorem pG (b l:Int):bg (jQ b l):=ak (dy b) fun _=>ah _
theorem gu {b l:Int}{n:Nat}(H:d6 b l n):bK n (fun x=>0≤x∧x≤l) (jQ b l):=
 ar (bd n (by have:=H.hi;have:=H.l0;omega)) fun y _=>ai n (kE H.l0)
theorem rk (up:Bool)(b l:Int):bg (j6 up b l):=ak (pG b l) fun _=>ah _
def Py (b l:Int)(p:Int×Int):Prop:=0≤p.1∧p.1≤l∧(p.2=0∨(b+1≤p.2∧p.2≤b+l))
theorem Jk (b l k:Int):dv b l k=0∨(b+1≤dv b l k∧dv b l k≤b+l):=by unfold dv;split<;>omega
theorem ls {b l:Int}{n:Nat}(H:d6 b l n)(up:Bool):bK n (Py b l) (j6 up b l):=
 ar (gu H) fun y hy=>ai n ⟨hy.1,hy.2,Jk b l _⟩
theorem xW (b l x:Int):bg (jR b l x):=
 ak (rk true b l) fun _=>aH (ah _) (ak (cV _ _) fun _=>ak (cV _ _) fun _=>ah _)
theorem Af {b l x:Int}{n:Nat}(H:d6 b l n)(hx:W64 x):bK n (fun _=>True) (jR b l x):=by
 have hh:=H.hi;have ht:=H.top;have h1:=H.b1;have h0:=H.l0
 refine ar (ls H true) fun p hp=>?_
 obtain⟨q0,q1,q2⟩:=hp
 split
 ·exact ai n trivial
 ·rename_i q3
  have q4:=q2.resolve_left q3
  exact ar (aQ n (by unfold W64;omega) (by omega) hx) fun _ _=>ar (aQ n (by unfold W64;omega) (by omega) (by unfold W64;omega)) fun _ _=>ai n trivial
theorem rm (b l:Int):bg (ea b l):=
 ak (rk false b l) fun _=>aH (ah _) (ak (dy _) fun _=>ak (cV _ _) fun _=>ah _)
theorem hU {b l:Int}{n:Nat}(H:d6 b l n):bK n (fun p=>W64 p.1) (ea b l):=by
 have hh:=H.hi;have ht:=H.top;have h1:=H.b1;have h0:=H.l0
 refine ar (ls H false) fun p hp=>?_
 obtain⟨q0,q1,q2⟩:=hp
 split
 ·exact ai n (by unfold W64;constructor<;>decide)
 ·rename_i q3
  have q4:=q2.resolve_left q3
  exact ar (bd n (by omega)) fun y hy=>ar (aQ n (by unfold W64;omega) (by omega) (by unfold W64;omega)) fun _ _=>ai n hy
def cI (b l x:Int)(ws:List Int):Bool×List Int :=
 let n:=a6 l (wAt ws b)
 if n<l then(true,(ws.set (b+1+n).toNat x).set b.toNat (n+1)) else(false,ws)
def a7 (b l:Int)(ws:List Int):(Int×Bool)×List Int :=
 let n:=a6 l (wAt ws b)
 if 0<n then((wAt ws (b+n),true),ws.set b.toNat (n-1)) else((0,false),ws)
theorem rn {b l:Int}{n:Nat}(H:d6 b l n):bG n (jQ b l) (fun ws=>(a6 l (wAt ws b),ws)):=
 aA (dW (by have:=H.b1;omega) (by have:=H.hi;have:=H.l0;omega)) fun _=>au n _
theorem ug {b l:Int}{n:Nat}(H:d6 b l n)(up:Bool):bG n (j6 up b l) (fun ws=>((a6 l (wAt ws b),dv b l (if up then a6 l (wAt ws b) else a6 l (wAt ws b)-1)),ws)):=
 aA (rn H) fun _=>au n _
theorem ro {b l x:Int}{n:Nat}(H:d6 b l n)(hx:W64 x):bG n (jR b l x) (cI b l x):=fun zs D hn hz hD=>by
 have hh:=H.hi;have ht:=H.top;have h1:=H.b1;have h0:=H.l0
 obtain⟨D1,e1,a1,i1⟩:=ug H true zs D hn hz hD
 have hk:=kE (y:=wAt (ce zs D) b) h0
 unfold jR
 rw[aj e1]
 unfold cI
 simp only[if_true] at *
 by_cases q:a6 l (wAt (ce zs D) b)<l
 ·have e:dv b l (a6 l (wAt (ce zs D) b))=b+1+a6 l (wAt (ce zs D) b):=by unfold dv;rw[if_neg (by omega)]
  rw[e] at e1⊢
  rw[if_pos q,if_neg (by omega)]
  generalize a6 l (wAt (ce zs D) b)=m at *
  obtain⟨D2,e2,a2,i2⟩:=dg (n:=n) (a:=b+1+m) (x:=x) (by omega) (by omega) (by unfold W64;omega) hx zs D1 hn hz i1
  obtain⟨D3,e3,a3,i3⟩:=dg (n:=n) (a:=b) (x:=m+1) (by omega) (by omega) (by unfold W64;omega) (by unfold W64;omega) zs D2 hn hz i2
  rw[aj e2,aj e3]
  exact⟨D3,rfl,by rw[a3,a2,a1],i3⟩
 ·have e:dv b l (a6 l (wAt (ce zs D) b))=0:=by unfold dv;rw[if_pos (by omega)]
  rw[e] at e1⊢
  rw[if_neg q,if_pos rfl]
  exact⟨D1,rfl,a1,i1⟩
theorem oE {b l:Int}{n:Nat}(H:d6 b l n):bG n (ea b l) (a7 b l):=fun zs D hn hz hD=>by
 have hh:=H.hi;have ht:=H.top;have h1:=H.b1;have h0:=H.l0
 obtain⟨D1,e1,a1,i1⟩:=ug H false zs D hn hz hD
 have hk:=kE (y:=wAt (ce zs D) b) h0
 unfold ea
 rw[aj e1]
 unfold a7
 simp only[Bool.false_eq_true,if_false] at *
 by_cases q:0<a6 l (wAt (ce zs D) b)
 ·have e:dv b l (a6 l (wAt (ce zs D) b)-1)=b+a6 l (wAt (ce zs D) b):=by unfold dv;rw[if_neg (by omega)];omega
  rw[e] at e1⊢
  rw[if_pos q,if_neg (by omega)]
  generalize a6 l (wAt (ce zs D) b)=m at *
  obtain⟨D2,e2,a2,i2⟩:=dW (n:=n) (a:=b+m) (by omega) (by omega) zs D1 hn hz i1
  obtain⟨D3,e3,a3,i3⟩:=dg (n:=n) (a:=b) (x:=m-1) (by omega) (by omega) (by unfold W64;omega) (by unfold W64;omega) zs D2 hn hz i2
  rw[aj e2,aj e3]
  refine⟨D3,?_,by rw[a3,a2,a1],i3⟩
  rw[a1]
  rfl
 ·have e:dv b l (a6 l (wAt (ce zs D) b)-1)=0:=by unfold dv;rw[if_pos (by omega)]
  rw[e] at e1⊢
  rw[if_neg q,if_pos rfl]
  exact⟨D1,rfl,a1,i1⟩
structure gJ (ws:List Int)(b l:Int)(xs:List Int):Prop where
 cnt:wAt ws b=xs.length
 fit:(xs.length:Int)≤l
 at':∀j:Nat,j<xs.length→wAt ws (b+1+j)=xs.getD j 0
theorem gJ.kept {ws:List Int}{b l:Int}{xs:List Int}(h:gJ ws b l xs):a6 l (wAt ws b)=xs.length:=by
 rw[h.cnt];unfold a6;rw[if_pos ⟨by omega,h.fit⟩]
theorem qG (xs:List Int)(x:Int)(j:Nat):(xs++ [x]).getD j 0=if j=xs.length then x else xs.getD j 0:=by
 by_cases e:j=xs.length
 ·subst e;simp[List.getD]
 ·rw[if_neg e]
  by_cases q:j<xs.length
  ·simp[List.getD,List.getElem?_append,q]
  ·rw[List.getD,List.getD,List.getElem?_eq_none (show(xs++ [x]).length≤j by simp;omega),List.getElem?_eq_none (show xs.length≤j by omega)]
theorem gJ.push {ws:List Int}{b l x:Int}{xs:List Int}{n:Nat}(h:gJ ws b l xs)(H:d6 b l n)(hl:ws.length=n):(cI b l x ws).1=decide ((xs.length:Int)<l)∧(cI b l x ws).2.length=n∧gJ (cI b l x ws).2 b l (if(xs.length:Int)<l then xs++ [x] else xs):=by
 have hh:=H.hi;have h1:=H.b1;have h0:=H.l0
 have hk:=h.kept
 unfold cI
 simp only[hk]
 by_cases q:(xs.length:Int)<l
 ·rw[if_pos q,if_pos q]
  refine⟨by simp[q],by simp[hl],?_,by simp;omega,fun j hj=>?_⟩
  ·show wAt ((ws.set _ _).set b.toNat _) b=_
   rw[dI (by omega) (by omega) (by simp;omega),if_pos rfl];simp
  ·show wAt ((ws.set _ _).set b.toNat _) (b+1+j)=_
   rw[dI (by omega) (by omega) (by simp;omega),if_neg (by omega),dI (by omega) (by omega) (by omega),qG]
   by_cases e:j=xs.length
   ·rw[if_pos (by omega),if_pos e]
   ·rw[if_neg (by omega),if_neg e]
    simp at hj
    exact h.at' j (by omega)
 ·rw[if_neg q,if_neg q]
  exact⟨by simp[q],hl,h⟩
theorem gJ.pop {ws:List Int}{b l x:Int}{xs:List Int}{n:Nat}(h:gJ ws b l (xs++ [x]))(H:d6 b l n)(hl:ws.length=n):(a7 b l ws).1=(x,true)∧(a7 b l ws).2.length=n∧gJ (a7 b l ws).2 b l xs:=by
 have hh:=H.hi;have h1:=H.b1;have h0:=H.l0
 have hk:=h.kept
 have hf:=h.fit
 simp at hk hf
 have ha:=h.at' xs.length (by simp)
 rw[qG,if_pos rfl] at ha
 unfold a7
 simp only[hk]
 rw[if_pos (by omega)]
 refine⟨?_,by simp[hl],?_,by omega,fun j hj=>?_⟩
 ·show(wAt ws (b+((xs.length:Int)+1)),true)=_
  rw[show b+((xs.length:Int)+1)=b+1+(xs.length:Int) by omega,ha]
 ·show wAt (ws.set b.toNat _) b=_
  rw[dI (by omega) (by omega) (by omega),if_pos rfl];omega
 ·show wAt (ws.set b.toNat _) (b+1+j)=_
  rw[dI (by omega) (by omega) (by omega),if_neg (by omega),h.at' j (by simp;omega),qG,if_neg (by omega)]
theorem gJ.none {ws:List Int}{b l:Int}(h:gJ ws b l []):a7 b l ws=((0,false),ws):=by
 have hk:=h.kept
 unfold a7
 simp only[hk]
 simp
theorem Jl {ws:List Int}{b l x:Int}{n:Nat}(H:d6 b l n)(hl:ws.length=n):(cI b l x ws).2.length=n∧∀i:Int,0≤i→(i<b∨b+l<i)→wAt (cI b l x ws).2 i=wAt ws i:=by
 have hh:=H.hi;have h1:=H.b1;have h0:=H.l0
 have hk:=kE (y:=wAt ws b) h0
 unfold cI
 simp only
 split
 ·refine⟨by simp[hl],fun i hi ho=>?_⟩
  show wAt ((ws.set _ _).set b.toNat _) i=_
  rw[dI (by omega) (by omega) (by simp;omega),if_neg (by omega),dI (by omega) (by omega) (by omega),if_neg (by omega)]
 ·exact⟨hl,fun i _ _=>rfl⟩
theorem Lm {ws:List Int}{b l:Int}{n:Nat}(H:d6 b l n)(hl:ws.length=n):(a7 b l ws).2.length=n∧∀i:Int,0≤i→(i<b∨b+l<i)→wAt (a7 b l ws).2 i=wAt ws i:=by
 have hh:=H.hi;have h1:=H.b1;have h0:=H.l0
 unfold a7
 simp only
 split
 ·refine⟨by simp[hl],fun i hi ho=>?_⟩
  show wAt (ws.set b.toNat _) i=_
  rw[dI (by omega) (by omega) (by omega),if_neg (by omega)]
 ·exact⟨hl,fun i _ _=>rfl⟩
structure Fam where
 m:Nat
 b:Nat→Int
 l:Nat→Int
 k:Nat→Int
structure Fam.In (S:Fam)(lo:Int)(n:Nat):Prop where
 lo:∀i,i<S.m→lo≤S.b i∧0≤S.l i∧S.b i+S.l i<n
 ap:∀i j,i<j→j<S.m→S.b i+S.l i<S.b j
def de (C:Nat→List Int)(i:Nat)(xs:List Int):Nat→List Int:=fun j=>if j=i then xs else C j
theorem eP (C:Nat→List Int)(i:Nat):de C i (C i)=C:=by funext j;unfold de;split<;>simp_all
theorem lw (C:Nat→List Int)(i:Nat)(xs ys:List Int):de (de C i xs) i ys=de C i ys:=by funext j;unfold de;split<;>rfl
def dF (S:Fam)(C:Nat→List Int):Nat→List (Int×Int)
 | 0=> []
 |m+1=>dF S C m++(C m).map fun a=>(a,S.k m)
theorem oF (S:Fam)(C:Nat→List Int)(i:Nat)(xs:List Int):∀m,m≤i→dF S (de C i xs) m=dF S C m
 | 0,_=>rfl
 |m+1,h=>by
  rw[dF,dF,oF S C i xs m (by omega)]
  have:de C i xs m=C m:=by unfold de;rw[if_neg (by omega)]
  rw[this]
theorem kF (S:Fam)(C:Nat→List Int)(i:Nat)(xs:List Int)(x:Int):∀m,i<m→(dF S (de C i (xs++ [x])) m).Perm ((x,S.k i)::dF S (de C i xs) m)
 | 0,h=>by omega
 |m+1,h=>by
  rw[dF,dF]
  by_cases e:m=i
  ·subst e
   rw[oF S C m _ m (Nat.le_refl _),oF S C m _ m (Nat.le_refl _)]
   have e1:de C m (xs++ [x]) m=xs++ [x]:=by unfold de;rw[if_pos rfl]
   have e2:de C m xs m=xs:=by unfold de;rw[if_pos rfl]
   rw[e1,e2,List.map_append,←List.append_assoc]
   exact List.perm_append_comm
  ·have e1:de C i (xs++ [x]) m=de C i xs m:=by unfold de;rw[if_neg e,if_neg e]
   rw[e1]
   exact(kF S C i xs x m (by omega)).append_right _
structure FrI (us pg st:Int)(n:Nat)(S:Fam)(ws:List Int)(C:Nat→List Int)(O:List (Int×Int)):Prop where
 len:ws.length=n
 ok:OkW ws
 pgs:∃G,PgW pg st G ws
 keeps:∀i,i<S.m→gJ ws (S.b i) (S.l i) (C i)
 nodup:((O++dF S C S.m).map (·.1)).Nodup
 acc:∀a k,tkC us pg st ws a=some k↔(a,k)∈O++dF S C S.m
theorem FrI.perm {us pg st:Int}{n:Nat}{S:Fam}{ws:List Int}{C:Nat→List Int}{O O':List (Int×Int)}(h:FrI us pg st n S ws C O)(p:O.Perm O'):FrI us pg st n S ws C O' :=
 ⟨h.len,h.ok,h.pgs,h.keeps,((p.append_right _).map _).nodup_iff.1 h.nodup,fun a k=>(h.acc a k).trans (p.append_right _).mem_iff⟩
theorem gJ.off {ws ws':List Int}{b l:Int}{xs:List Int}(h:gJ ws b l xs)(o:∀i:Int,b≤i→i≤b+l→wAt ws' i=wAt ws i):gJ ws' b l xs:=by
 have hf:=h.fit
 exact⟨by rw[o b (by omega) (by omega)];exact h.cnt,h.fit,fun j hj=>by rw[o _ (by omega) (by omega)];exact h.at' j hj⟩
section
variable {us pg st:Int}{n:Nat}{S:Fam}(H:cF pg st n)(hS:S.In (bo st pg+62) n)(hn:n≤10000)
include H hS hn
theorem CH {i:Nat}(hi:i<S.m):d6 (S.b i) (S.l i) n:=by
 have h1:=H.st1;have h4:=H.pg1
 have hc:0≤aL pg:=by unfold aL;omega
 have ht:0≤a8 st:=by unfold a8;omega
 obtain⟨a1,a2,a3⟩:=hS.lo i hi
 exact⟨by unfold bo at a1;omega,a2,a3,hn⟩
theorem uh {ws ws':List Int}(T:lN pg st ws ws'){C:Nat→List Int}(h:∀i,i<S.m→gJ ws (S.b i) (S.l i) (C i)):∀i,i<S.m→gJ ws' (S.b i) (S.l i) (C i):=fun i hi =>
 (h i hi).off fun j h1 h2=>T.off j (by have:=(hS.lo i hi).1;omega)
theorem FrI.grab {ws:List Int}{C:Nat→List Int}{O:List (Int×Int)}(h:FrI us pg st n S ws C O)(k:Int):
 dd us pg st k ws=((0,false),ws)∨∃a X,dd us pg st k ws=((a,true),X)∧0≤k∧k≤4∧us≤a∧a<us+32 * pg∧(a-us) % szV k=0∧FrI us pg st n S X C ((a,k)::O):=by
 obtain⟨G,P⟩:=h.pgs
 rcases Jh H us k P h.len with e|⟨a,G2,X,e,Q,T,k0,k4,n0,n1,no,a0,a1,a2⟩
 ·exact .inl e
 ·have hw:=pD H (qE H us k) h.len h.ok
  rw[e] at hw
  refine .inr ⟨a,X,e,k0,k4,a0,a1,a2,hw.2,hw.1,⟨G2,Q⟩,uh H hS hn T h.keeps,?_,fun b c=>?_⟩
  ·rw[List.cons_append,List.map_cons,List.nodup_cons]
   refine⟨fun z=>?_,h.nodup⟩
   obtain⟨⟨a',c⟩,hc,rfl⟩:=List.mem_map.1 z
   have:=(h.acc a' c).2 hc
   rw[n0] at this;cases this
  ·rw[List.cons_append,List.mem_cons]
   by_cases z:b=a
   ·subst z
    rw[n1]
    constructor
    ·intro q;cases q;exact .inl rfl
    ·rintro(q|q)
     ·cases q;rfl
     ·have:=(h.acc b c).2 q
      rw[n0] at this;cases this
   ·rw[no b z,h.acc b c]
    exact⟨.inr,fun q=>q.resolve_left fun y=>z (by cases y;rfl)⟩
theorem FrI.back {ws:List Int}{C:Nat→List Int}{O:List (Int×Int)}{a k:Int}(h:FrI us pg st n S ws C ((a,k)::O)):
 ∃X,gS us pg st a ws=(true,X)∧FrI us pg st n S X C O:=by
 obtain⟨G,P⟩:=h.pgs
 have ht:tkC us pg st ws a=some k:=(h.acc a k).2 (by simp)
 obtain⟨G2,X,e,Q,T,n0,no⟩:=Ji H us P h.len h.ok ht
 have hw:=pD H (wn H us a) h.len h.ok
 rw[e] at hw
 have hnd:=h.nodup
 rw[List.cons_append,List.map_cons,List.nodup_cons] at hnd
 refine⟨X,e,hw.2,hw.1,⟨G2,Q⟩,uh H hS hn T h.keeps,hnd.2,fun b c=>?_⟩
 by_cases z:b=a
 ·subst z
  rw[n0]
  refine⟨(fun q=>by cases q),fun q=>?_⟩
  exact absurd (List.mem_map.2 ⟨(b,c),q,rfl⟩) hnd.1
 ·rw[no b z,h.acc b c,List.cons_append,List.mem_cons]
  exact⟨fun q=>q.resolve_left fun y=>z (by cases y;rfl),.inr⟩
theorem FrI.turn {ws X:List Int}{C:Nat→List Int}{O O':List (Int×Int)}(h:FrI us pg st n S ws C O){i:Nat}(hi:i<S.m)(hX:X.length=n)(oX:OkW X)(hoff:∀j:Int,0≤j→(j<S.b i∨S.b i+S.l i<j)→wAt X j=wAt ws j){xs:List Int}(hk:gJ X (S.b i) (S.l i) xs)(hp:(O++dF S C S.m).Perm (O'++dF S (de C i xs) S.m)):FrI us pg st n S X (de C i xs) O':=by
 obtain⟨G,P⟩:=h.pgs
 have h1:=H.st1;have h4:=H.pg1
 have hc:0≤aL pg:=by unfold aL;omega
 have ht:0≤a8 st:=by unfold a8;omega
 have hb:=hS.lo i hi
 have F:uf pg st ws X:=⟨by rw[hX,h.len],fun j h0 hj=>hoff j h0 (.inl (by omega))⟩
 refine⟨hX,oX,⟨G,wu H F P⟩,fun j hj=>?_,(hp.map _).nodup_iff.1 h.nodup,fun a k=>?_⟩
 ·by_cases e:j=i
  ·subst e
   unfold de;rw[if_pos rfl];exact hk
  ·unfold de;rw[if_neg e]
   refine(h.keeps j hj).off fun x x0 x1=>hoff x (by have:=(hS.lo j hj).1;unfold bo at this;omega) ?_
   rcases Nat.lt_or_gt_of_ne e with q|q
   ·have:=hS.ap j i q hi;omega
   ·have:=hS.ap i j q hj;omega
 ·rw[Jg H F P,h.acc a k];exact hp.mem_iff
theorem FrI.pop {ws:List Int}{C:Nat→List Int}{O:List (Int×Int)}(h:FrI us pg st n S ws C O){i:Nat}(hi:i<S.m):
 (C i= []∧a7 (S.b i) (S.l i) ws=((0,false),ws))∨∃xs x X,C i=xs++ [x]∧a7 (S.b i) (S.l i) ws=((x,true),X)∧FrI us pg st n S X (de C i xs) ((x,S.k i)::O):=by
 have hst:=CH H hS hn hi
 have hk:=h.keeps i hi
 rcases List.eq_nil_or_concat (C i) with e|⟨xs,x,e⟩
 ·rw[e] at hk
  exact .inl ⟨e,hk.none⟩
 ·rw[List.concat_eq_append] at e
  rw[e] at hk
  obtain⟨e1,e2,e3⟩:=hk.pop hst h.len
  obtain⟨_,o2⟩:=Lm hst h.len
  have hw:=pD H (oE hst) h.len h.ok
  refine .inr ⟨xs,x,(a7 (S.b i) (S.l i) ws).2,e,by rw[←e1],h.turn H hS hn hi hw.2 hw.1 o2 e3 ?_⟩
  have:=kF S C i xs x S.m hi
  rw[←e,eP] at this
  refine(this.append_left O).trans ?_
  rw[List.cons_append]
  exact List.perm_middle
theorem FrI.push {ws:List Int}{C:Nat→List Int}{O:List (Int×Int)}{i:Nat}{a:Int}(hi:i<S.m)(h:FrI us pg st n S ws C ((a,S.k i)::O))(ha:W64 a):
 (((C i).length:Int)<S.l i∧∃X,cI (S.b i) (S.l i) a ws=(true,X)∧FrI us pg st n S X (de C i (C i++ [a])) O)∨(S.l i≤((C i).length:Int)∧cI (S.b i) (S.l i) a ws=(false,ws)):=by
 have hst:=CH H hS hn hi
 have hk:=h.keeps i hi
 obtain⟨e1,e2,e3⟩:=hk.push (x:=a) hst h.len
 obtain⟨_,o2⟩:=Jl (x:=a) hst h.len
 by_cases hl:((C i).length:Int)<S.l i
 ·rw[if_pos hl] at e3
  have hw:=pD H (ro hst ha) h.len h.ok
  refine .inl ⟨hl,(cI (S.b i) (S.l i) a ws).2,?_,h.turn H hS hn hi hw.2 hw.1 o2 e3 ?_⟩
  ·have:(cI (S.b i) (S.l i) a ws).1=true:=by rw[e1];simpa using hl
   rw[←this]
  ·have:=kF S C i (C i) a S.m hi
   rw[eP] at this
   refine List.Perm.trans ?_ (this.append_left O).symm
   rw[List.cons_append]
   exact List.perm_middle.symm
 ·refine .inr ⟨by omega,?_⟩
  have hk2:=hk.kept
  have hf:=hk.fit
  unfold cI
  simp only[hk2]
  rw[if_neg hl]
end
def famC (d:Cfg):Fam where
 m:=5 * d.cp.toNat+5
 b:=fun i=>if i<5 * d.cp.toNat then dt d.st d.pg+i * (d.ca+1) else fO d.cp d.pg d.st d.ca+((i:Int)-5 * d.cp) * (d.bi+1)
 l:=fun i=>if i<5 * d.cp.toNat then d.ca else d.bi
 k:=fun i=>(i % 5:Nat)
theorem CI (d:Cfg)(i:Nat):(famC d).b i=if i<5 * d.cp.toNat then dt d.st d.pg+i * (d.ca+1) else fO d.cp d.pg d.st d.ca+((i:Int)-5 * d.cp) * (d.bi+1):=rfl
theorem Jm (d:Cfg)(i:Nat):(famC d).l i=if i<5 * d.cp.toNat then d.ca else d.bi:=rfl
theorem i8 {d:Cfg}{u c:Nat}(hu:(u:Int)<d.cp)(hc:c<5):5 * u+c<(famC d).m∧(famC d).b (5 * u+c)=od d.cp d.pg d.st d.ca u c∧(famC d).l (5 * u+c)=d.ca∧(famC d).k (5 * u+c)=c:=by
 have h:5 * u+c<5 * d.cp.toNat:=by omega
 refine⟨by show _<5 * d.cp.toNat+5;omega,?_,?_,?_⟩
 ·show(if _ then _ else _)=_
  rw[if_pos h]
  unfold od
  rw[if_pos (by omega)]
  simp
 ·show(if _ then _ else _)=_
  rw[if_pos h]
 ·show(((5 * u+c) % 5:Nat):Int)=_
  omega
theorem nE {d:Cfg}{c:Nat}(hp:0≤d.cp)(hc:c<5):5 * d.cp.toNat+c<(famC d).m∧(famC d).b (5 * d.cp.toNat+c)=Ez d.cp d.pg d.st d.ca d.bi c∧(famC d).l (5 * d.cp.toNat+c)=d.bi∧(famC d).k (5 * d.cp.toNat+c)=c:=by
 have h:¬(5 * d.cp.toNat+c<5 * d.cp.toNat):=by omega
 refine⟨by show _<5 * d.cp.toNat+5;omega,?_,?_,?_⟩
 ·show(if _ then _ else _)=_
  rw[if_neg h]
  unfold Ez
  rw[if_pos (by omega)]
  congr 2
  omega
 ·show(if _ then _ else _)=_
  rw[if_neg h]
 ·show(((5 * d.cp.toNat+c) % 5:Nat):Int)=_
  omega
theorem mK {d:Cfg}(R:d.Ok){n:Nat}(hn:(n:Int)=d.words):(famC d).In (bo d.st d.pg+62) n:=by
 have h1:=R.cp1;have h2:=R.ca1;have h3:=R.bi1
 have hl:=su R;have hu:=oV R;have hp:=R.pg1
 have hcp:((d.cp.toNat:Nat):Int)=d.cp:=by omega
 have top:eK d.cp d.pg d.st d.ca d.bi<n:=by
  rw[hn]
  show _<eT d.cp d.pg d.st d.ca d.bi
  unfold eT
  omega
 have p5:=pW R
 -- steps of the caches,and of the bins
 have s1:∀i:Nat,i<5 * d.cp.toNat→(i:Int) * (d.ca+1)+d.ca+1≤5 * d.cp * (d.ca+1)∧0≤(i:Int) * (d.ca+1):=fun i hi=>by
  have:((i:Int)+1) * (d.ca+1)≤5 * d.cp * (d.ca+1):=Int.mul_le_mul_of_nonneg_right (by omega) (by omega)
  have e:((i:Int)+1) * (d.ca+1)=(i:Int) * (d.ca+1)+d.ca+1:=by rw[Int.add_mul];omega
  exact⟨by omega,Int.mul_nonneg (by omega) (by omega)⟩
 have s2:∀j:Int,0≤j→j<5→j * (d.bi+1)+d.bi+1≤5 * (d.bi+1)∧0≤j * (d.bi+1):=fun j h0 hj=>by
  have:(j+1) * (d.bi+1)≤5 * (d.bi+1):=Int.mul_le_mul_of_nonneg_right (by omega) (by omega)
  have e:(j+1) * (d.bi+1)=j * (d.bi+1)+d.bi+1:=by rw[Int.add_mul];omega
  exact⟨by omega,Int.mul_nonneg (by omega) (by omega)⟩
 refine⟨fun i hi=>?_,fun i j hij hj=>?_⟩
 ·have hi:i<5 * d.cp.toNat+5:=hi
  rw[CI,Jm]
  by_cases q:i<5 * d.cp.toNat
  ·rw[if_pos q,if_pos q]
   obtain⟨a,b⟩:=s1 i q
   unfold eK fO at top
   unfold dt at *
   refine⟨by omega,h2,by omega⟩
  ·rw[if_neg q,if_neg q]
   obtain⟨a,b⟩:=s2 ((i:Int)-5 * d.cp) (by omega) (by omega)
   unfold eK at top
   have:dt d.st d.pg≤fO d.cp d.pg d.st d.ca:=by unfold fO;omega
   have e:dt d.st d.pg=bo d.st d.pg+62:=rfl
   refine⟨by omega,h3,by omega⟩
 ·have hj:j<5 * d.cp.toNat+5:=hj
  rw[CI,Jm,CI]
  by_cases q:j<5 * d.cp.toNat
  ·have qi:i<5 * d.cp.toNat:=by omega
   rw[if_pos qi,if_pos qi,if_pos q]
   have:((i:Int)+1) * (d.ca+1)≤(j:Int) * (d.ca+1):=Int.mul_le_mul_of_nonneg_right (by omega) (by omega)
   have e:((i:Int)+1) * (d.ca+1)=(i:Int) * (d.ca+1)+d.ca+1:=by rw[Int.add_mul];omega
   omega
  ·rw[if_neg q]
   by_cases qi:i<5 * d.cp.toNat
   ·rw[if_pos qi,if_pos qi]
    obtain⟨a,b⟩:=s1 i qi
    obtain⟨c1,c2⟩:=s2 ((j:Int)-5 * d.cp) (by omega) (by omega)
    unfold fO
    omega
   ·rw[if_neg qi,if_neg qi]
    have:((i:Int)-5 * d.cp+1) * (d.bi+1)≤((j:Int)-5 * d.cp) * (d.bi+1):=Int.mul_le_mul_of_nonneg_right (by omega) (by omega)
    have e:((i:Int)-5 * d.cp+1) * (d.bi+1)=((i:Int)-5 * d.cp) * (d.bi+1)+d.bi+1:=by rw[Int.add_mul];omega
    omega
def fJ (us pg st:Int)(ws:List Int):Nat→Nat
 | 0=>0
 |m+1=>fJ us pg st ws m+(if(tkC us pg st ws (us+m)).isSome then 1 else 0)
theorem pH (us pg st:Int)(ws:List Int):∀m,fJ us pg st ws m=(((List.range m).map fun i:Nat=>us+(i:Int)).filter fun a=>(tkC us pg st ws a).isSome).length
 | 0=>rfl
 |m+1=>by
  rw[fJ,pH us pg st ws m,List.range_succ,List.map_append,List.filter_append,List.length_append]
  congr 1
  simp only[List.map_cons,List.map_nil,List.filter_cons,List.filter_nil]
  split<;>rfl
theorem Gf {us pg st:Int}{ws:List Int}{all:List (Int×Int)}(hnd:(all.map (·.1)).Nodup)(hacc:∀a k,tkC us pg st ws a=some k↔(a,k)∈all){m:Nat}(hin:∀p∈all,us≤p.1∧p.1<us+m):fJ us pg st ws m=all.length:=by
 rw[pH,show all.length=(all.map (·.1)).length by simp]
 refine(List.Perm.length_eq ?_)
 rw[List.perm_ext_iff_of_nodup]
 ·intro a
  rw[List.mem_filter,List.mem_map,List.mem_map]
  constructor
  ·rintro⟨_,h⟩
   obtain⟨k,hk⟩:=Option.isSome_iff_exists.1 h
   exact⟨(a,k),(hacc a k).1 hk,rfl⟩
  ·rintro⟨⟨a',k⟩,hp,rfl⟩
   obtain⟨i1,i2⟩:=hin _ hp
   refine⟨⟨(a' - us).toNat,List.mem_range.2 (by simp only at i1 i2;omega),by simp only at i1;omega⟩,?_⟩
   rw[(hacc a' k).2 hp];rfl
 ·exact List.Pairwise.filter _ (List.Pairwise.map _ (fun x y h=>by omega) (List.nodup_range (n:=m)))
 ·exact hnd
theorem Gg {d:Cfg}(R:d.Ok){n:Nat}(H:cF d.pg d.st n)(hn:(n:Int)=d.words)(us:Int):FrI us d.pg d.st n (famC d) (cL n) (fun _=> []) []:=by
 have hk:∀m,dF (famC d) (fun _=> []) m= []:=by
  intro m
  induction m with
  |zero=>rfl
  |succ m ih=>rw[dF,ih];rfl
 have hz:∀i:Int,wAt (cL n) i=0:=fun i=>by
  unfold wAt cL
  simp only[List.getD,List.getElem?_replicate]
  split<;>rfl
 refine⟨kh n,gq n,⟨_,wo H⟩,fun i hi=>⟨by rw[hz];rfl,((mK R hn).lo i hi).2.1,fun j hj=>by simp at hj⟩,by rw[hk];exact List.nodup_nil,fun a k=>?_⟩
 rw[hk,Ge H us a]
 exact⟨(fun q=>by cases q),(fun q=>by cases q)⟩
theorem en1 (w:World)(o0:Obj):∃w1,w.alloc o0=w1∧w1.heap[w.heap.size]?=some o0∧ae w w1∧w1.heap.size=w.heap.size+1:=⟨_,rfl,bh w o0,(ae.refl _).alloc _,by simp⟩
theorem en2 (w:World)(o0 o1:Obj):∃w2,(w.alloc o0).alloc o1=w2∧w2.heap[w.heap.size]?=some o0∧w2.heap[w.heap.size+1]?=some o1∧ae w w2∧w2.heap.size=w.heap.size+2:=by
 obtain⟨w1,e1,h0,m0,s0⟩:=en1 w o0
 rw[e1]
 obtain⟨w2,e2,h1,m1,s1⟩:=en1 w1 o1
 rw[s0] at h1
 exact⟨w2,e2,m1.block h0,h1,m0.trans m1,by omega⟩
def Rd (w:World)(v:Value)(xs:List Int):Prop :=
 ∃a cap,v=.slice a xs.length cap∧xs.length≤cap∧cap≤maxLen∧((a=none∧cap=0)∨∃g cur,a=some ⟨g,0,none⟩∧w.heap[g]?=some (.cells cur 3 (0,0))∧cap≤cur.size∧cur.toList.take xs.length=xs.map (Value.int .i64))
namespace Rd
variable {w w':World}{v:Value}{xs:List Int}
theorem nil (w:World):Rd w (.slice none 0 0) []:=⟨none,0,rfl,Nat.le_refl _,Nat.zero_le _,.inl ⟨rfl,rfl⟩⟩
theorem keep (h:Rd w v xs){S:Nat→Prop}(t:Turned S w w')(hs:∀k,S k→∃cs T fr,w.heap[k]?=some (.cells cs T fr)∧T≠3):Rd w' v xs:=by
 obtain⟨a,cap,hv,h1,h2,q⟩:=h
 refine⟨a,cap,hv,h1,h2,q.imp id ?_⟩
 rintro⟨g,cur,rfl,hg,r⟩
 refine⟨g,cur,rfl,?_,r⟩
 rw[t.block g (ac hg) (fun q=>by
  obtain⟨cs,T,fr,e,hne⟩:=hs g q
  rw[hg] at e;cases e;exact hne rfl)]
 exact hg
theorem more (h:Rd w v xs)(m:ae w w'):Rd w' v xs:=h.keep m (fun _ q=>q.elim)
theorem of_rw {base:Nat}(h:Rw base w v xs):Rd w v xs:=by
 rcases h.2 with⟨rfl,h0⟩|⟨g,cap,cur,rfl,_,hg,h1,h2,hs,ht⟩
 ·have:xs= []:=List.length_eq_zero_iff.1 h0
  subst this;exact nil w
 ·exact⟨_,cap,rfl,h1,h2,.inr ⟨g,cur,rfl,hg,by omega,by simpa using ht⟩⟩
theorem one (h:Rd w v xs):v.oneCell'=true:=by obtain⟨a,cap,rfl,_⟩:=h;rfl
theorem news (h:Rd w v xs):∃a cap,v=.slice a xs.length cap∧∀p,a=some p→∀j u,(xs.map (Value.int .i64))[j]?=some u→w.cell? (p.add j)=some u:=by
 obtain⟨a,cap,rfl,h1,h2,q⟩:=h
 refine⟨a,cap,rfl,fun p hp j u hj=>?_⟩
 rcases q with⟨rfl,rfl⟩|⟨g,cur,rfl,hg,hc,ht⟩
 ·cases hp
 ·cases hp
  rw[ja]
  have hj':=(List.getElem?_eq_some_iff.1 hj).1
  simp at hj'
  rw[←ht,List.getElem?_take,if_pos hj'] at hj
  simp[World.cell?,hg]
  simpa using hj
theorem cell (h:Rd w v xs):∃a cap,v=.slice a xs.length cap∧xs.length≤cap∧∀k,k<xs.length→∃g,a=some ⟨g,0,none⟩∧w.cell? ⟨g,k,none⟩=some (.int .i64 (xs.getD k 0)):=by
 obtain⟨a,cap,hv,h1,h2,q⟩:=h
 refine⟨a,cap,hv,h1,fun k hk=>?_⟩
 rcases q with⟨rfl,rfl⟩|⟨g,cur,rfl,hg,hc,ht⟩
 ·omega
 ·refine⟨g,rfl,?_⟩
  have e:(cur.toList.take xs.length)[k]?=some (.int .i64 (xs.getD k 0)):=by rw[ht];simp[List.getElem?_eq_getElem hk]
  rw[List.getElem?_take,if_pos hk] at e
  simp[World.cell?,hg]
  simpa using e
theorem first (h:Rd w v xs){n:Nat}(hn:n≤xs.length):∃a,(∃cap,v=.slice a xs.length cap∧n≤cap∧(a=none→cap=0))∧Rd w (.slice a n n) (xs.take n):=by
 obtain⟨a,cap,rfl,h1,h2,q⟩:=h
 have hl:(xs.take n).length=n:=by simp;omega
 refine⟨a,⟨cap,rfl,by omega,?_⟩,a,n,by rw[hl],by omega,by omega,?_⟩
 ·rintro rfl
  rcases q with q|⟨g,cur,e,_⟩
  ·exact q.2
  ·cases e
 ·rcases q with⟨rfl,rfl⟩|⟨g,cur,rfl,hg,hc,ht⟩
  ·exact .inl ⟨rfl,by omega⟩
  ·refine .inr ⟨g,cur,rfl,hg,by omega,?_⟩
   rw[hl,List.map_take,←ht,List.take_take,Nat.min_eq_left hn]
end Rd
def puA (f:Nat→Value):Array Value:= #[f 0,f 1,f 2,f 3,f 4]
theorem xX (f:Nat→Value){c:Nat}(hc:c<5):(puA f)[c]?=some (f c):=by
 match c,hc with
 | 0,_=>rfl
 | 1,_=>rfl
 | 2,_=>rfl
 | 3,_=>rfl
 | 4,_=>rfl
def jx (f:Nat→Value)(c:Nat)(v:Value):Nat→Value:=fun k=>if k=c then v else f k
theorem Ej (f:Nat→Value){c:Nat}(hc:c<5)(v:Value):(puA f).setIfInBounds c v=puA (jx f c v):=by
 match c,hc with
 | 0,_=>rfl
 | 1,_=>rfl
 | 2,_=>rfl
 | 3,_=>rfl
 | 4,_=>rfl
def Pu (w:World)(f:Nat→Value)(P:Nat→List Int):Prop:=∀c,c<5→Rd w (f c) (P c)
theorem Pu.more {w w':World}{f:Nat→Value}{P:Nat→List Int}(h:Pu w f P)(m:ae w w'):Pu w' f P:=fun c hc=>(h c hc).more m
theorem Pu.keep {w w':World}{f:Nat→Value}{P:Nat→List Int}(h:Pu w f P){S:Nat→Prop}(t:Turned S w w')(hs:∀k,S k→∃cs T fr,w.heap[k]?=some (.cells cs T fr)∧T≠3):Pu w' f P:=fun c hc=>(h c hc).keep t hs
theorem Pu.all1 {w:World}{f:Nat→Value}{P:Nat→List Int}(h:Pu w f P):(puA f).all (·.oneCell')=true:=by
 simp[puA,(h 0 (by omega)).one,(h 1 (by omega)).one,(h 2 (by omega)).one,(h 3 (by omega)).one,(h 4 (by omega)).one]
theorem kG {w:World}{g:Nat}{f:Nat→Value}{T:TypeId}(h:w.heap[g]?=some (.cells (puA f) T (0,0))){c:Nat}(hc:c<5):w.cell? ⟨g,c,none⟩=some (f c):=by
 rw[cell_of_row w _ _ _ _ _ h];exact xX f hc
def iR (c:Int):Bool:=decide (0≤c) && decide (c<5)
theorem mL {c:Int}(h:iR c=true):∃k:Nat,c=k∧k<5:=by
 simp[iR] at h
 exact⟨c.toNat,by omega,by omega⟩
theorem xY {k:Nat}(h:k<5):iR k=true:=by simp[iR];omega
theorem nG (c:Int)(w:World):Calls Tryz.prog 52 #[.int .i64 c] w (aP w (.bool (iR c))):=by
 by_cases h0:0≤c
 ·have d0:decide (0≤c)=true:=by simp[h0]
  go_enter Tryz.func52,Tryz.ntmps52
  go_wp2_with fail
  go_ret
  exact⟨by simp[iR,d0],ae.refl _⟩
 ·have d0:decide (0≤c)=false:=by simp;omega
  go_enter Tryz.func52,Tryz.ntmps52
  go_wp2_with fail
  go_ret
  exact⟨by simp[iR,d0],ae.refl _⟩
def cY (P:Nat→List Int)(c:Int):Int:=if iR c then(P c.toNat).length else 0
theorem pI (f:Nat→Value)(P:Nat→List Int)(c:Int)(w:World)(h:Pu w f P):Calls Tryz.prog 21 #[.agg (puA f),.int .i64 c] w (aP w (.int .i64 (cY P c))):=by
 obtain⟨w1,e1,hl1,m1,s1⟩:=en1 w (.cells (puA f) 32)
 have L0:=hQQ hl1
 have M1:=hQQ m1
 have HP:=hQQ (h.more m1)
 clear m1 h s1
 cases hc:iR c with
 |false =>
  have C:=hQQ (fun W=>nG c W)
  rw[hc] at C
  have FIN:cY P c=0:=by simp[cY,hc]
  rw[FIN]
  clear hc FIN hl1 HP
  go_enter Tryz.func21,Tryz.ntmps21
  go_wp2_with fail
  refine(C.o w1).mono ?_
  rintro e w2 ⟨rfl,h2⟩
  have M2:=hQQ (M1.o.trans h2)
  clear h2
  go_wp2_with fail
  go_ret
  exact⟨rfl,M2.o⟩
 |true =>
  obtain⟨k,rfl,hk⟩:=mL hc
  have C:=hQQ (fun W=>nG k W)
  rw[hc] at C
  have FIN:cY P k=(P k).length:=by simp[cY,hc]
  rw[FIN]
  have hm:=hQQ hk
  obtain⟨a,cap,hf,_,_⟩:=HP.o k hk
  have X:Hq (∀W,ae w1 W→W.cell? ⟨w.heap.size,k,none⟩=some (.slice a (P k).length cap)):=hQQ fun W hW=>(kG (hW.block L0.o) hk).trans (by rw[hf])
  clear hc FIN hl1 HP hf
  go_enter Tryz.func21,Tryz.ntmps21
  go_wp2_with fail
  refine(C.o w1).mono ?_
  rintro e w2 ⟨rfl,h2⟩
  have M2:=hQQ (M1.o.trans h2)
  have x1:=X.o w2 h2
  clear h2
  go_wp2_with fail
  go_ret
  exact⟨rfl,M2.o⟩
theorem Ag {ops:Array Oper}{rest:List Oper}{o:Oper}{a:Act}{Q:Exit→Act→World→Prop}{w:World}{b:Option Addr}{xs:List Int}(y:Int)(n:Nat)(hgd:o.guard=none)(s x:Operand)
 (ho:o.op=.call { callee:= .builtin .append,args:= #[s,x],argTypes:= #[29,29] })
 (hs:a.eval s=.slice b n n) (hn:Rd w (.slice b n n) xs) (hl:xs.length≤1000000) (hnl:xs.length=n)
 (hx:a.eval x=.slice (some ⟨w.heap.size,0,none⟩) 1 1)
 (h:∀g cap w',w.heap.size≤g→Rd w' (.slice (some ⟨g,0,none⟩) (n+1) cap) (xs++ [y])→ae w w'→wpList Tryz.prog ops Q rest (a.put o.dst (.slice (some ⟨g,0,none⟩) (n+1) cap)) w'):wpList Tryz.prog ops Q (o::rest) a (w.alloc (.cells #[.int .i64 y] 3)):=by
 obtain⟨i,i1,i2,i3,i4⟩:=ji
 have hn':=hn.more ((ae.refl w).alloc (.cells #[.int .i64 y] 3))
 have hW:ae w (w.alloc (.cells #[.int .i64 y] 3)):=(ae.refl w).alloc _
 have hB:=bh w (.cells #[.int .i64 y] 3)
 have hsz:w.heap.size≤(w.alloc (.cells #[.int .i64 y] 3)).heap.size:=by simp
 generalize w.alloc (.cells #[.int .i64 y] 3)=w1 at hn' hB hW hsz⊢
 refine wpList_plain hgd fun K hK=>?_
 have hsrc:Src Tryz.prog i.size 29 (.slice (some ⟨w.heap.size,0,none⟩) 1 1) 1 [.int .i64 y] w1:=Src.ofSlice w1 Tryz.underlying29 _ 1 1 _ (by simp[i3]) (fun j u hu=>World.news_of_block hB j u (by simpa using hu)) (by intro u hu;simp at hu;subst hu;rfl)
 obtain⟨a',cap',e',hnews⟩:=hn'.news
 have hold:(Builtin.firstCells i.size n (.slice b n n)).run Tryz.prog w1.drew=.ok (xs.map (Value.int .i64)).toArray w1.drew:=by
  cases b with
  |none =>
   obtain⟨a0,c0,q1,q2,q3,q4⟩:=hn
   cases q1
   rcases q4 with⟨_,q⟩|⟨g,cur,q,_⟩
   ·have:xs= []:=List.length_eq_zero_iff.1 (by omega)
    subst this
    exact run_firstCells_none _ _ _ _ _
   ·cases q
  |some p =>
   cases e'
   exact run_firstCells_some w1.drew i.size _ p _ _ _ (by simp[i3]) (fun j u hu=>by rw[World.cell?_of_block (w:=w1) (w':=w1.drew) rfl];exact hnews p rfl j u hu)
 have hr:=run_append_grow_src (P:=Tryz.prog) w1 29 29 o.type 3 i _ Tryz.underlying29 i1 i2 b n n _ hold _ 1 _ hsrc (by omega) (by omega) (growslice_fits (by omega) (by rw[i4];omega))
 unfold Oper.wp execOp
 simp only[ho,resolve,invoke,builtin,Sem.run_bind,Sem.run_pure,Result.andThen_ok,List.map_toArray,List.map_cons,List.map_nil,hs,hx,hr]
 refine hK _ _ (h w1.heap.size _ _ hsz ?_ ((hW.drew).alloc _))
 have hge:=grownCap_ge w1 (n+1) n 3
 have hle:=grownCap_le_maxLen w1 (n+1) n 3 (by simp only[maxLen];omega)
 refine⟨_,_,by rw[List.length_append,hnl];rfl,by simp[hnl];omega,hle,.inr ⟨_,_,rfl,bh w1.drew _,?_,?_⟩⟩
 ·simp[size_zeroCells,Value.cells,hnl];omega
 ·have e2:(xs++ [y]).length=(xs.map (Value.int .i64)++ [Value.int .i64 y]).length:=by simp
  have e3:(xs++ [y]).map (Value.int .i64)=xs.map (Value.int .i64)++ [.int .i64 y]:=by simp
  rw[Array.toList_append,e3,e2]
  exact List.take_left' rfl
theorem nY {ops:Array Oper}{rest:List Oper}{o:Oper}{a:Act}{Q:Exit→Act→World→Prop}{w wa:World}{v u:Value}{xs ys:List Int}(hgd:o.guard=none)(s x:Operand)
 (ho:o.op=.call { callee:= .builtin .append,args:= #[s,x],argTypes:= #[29,29] })
 (hs:a.eval s=v) (hn:Rw wa.heap.size w v xs) (hW:ae wa w) (hl:xs.length+ys.length≤1000000)
 (hx:a.eval x=u) (hu:Rd w u ys)
 (h:∀v' w',Rw wa.heap.size w' v' (xs++ys)→ae wa w'→wpList Tryz.prog ops Q rest (a.put o.dst v') w'):wpList Tryz.prog ops Q (o::rest) a w:=by
 obtain⟨i,i1,i2,i3,i4⟩:=ji
 obtain⟨ad,cap,rfl,hnews⟩:=hu.news
 cases ad with
 |none =>
  have:ys= []∧cap=0:=by
   obtain⟨a0,c0,q1,q2,q3,q4⟩:=hu
   cases q1
   rcases q4 with⟨_,q⟩|⟨g,cur,q,_⟩
   ·exact⟨List.length_eq_zero_iff.1 (by omega),q⟩
   ·cases q
  obtain⟨rfl,rfl⟩:=this
  refine wpList_append_own_none hgd s x 29 ho wa.heap.size 3 i 1 Tryz.underlying29 i1 v xs.length _ hs hn hx ?_
  have:=h v w (by simpa using hn) hW
  exact this
 |some p =>
  refine wpList_append_own_at (P:=Tryz.prog) w hgd s x 29 ho wa.heap.size 3 i _ 1 8 Tryz.underlying29 i1 i2 i3 i4 rfl (by omega) v xs.length _ hs hn p ys.length cap (ys.map (Value.int .i64)) hx (by simp)
   (hnews p rfl) (by intro u hu;obtain⟨y,_,rfl⟩:=List.mem_map.1 hu;rfl) (by simp only[maxLen];omega) (by omega) hW.size ?_
  intro v' w1 hown hgrow _ _
  refine h v' w1 ?_ (uV hW hn hgrow)
  unfold Rw
  rw[List.length_append,List.map_append]
  exact hown
theorem xZ {P:Program}{fn:Func}{p u:Tmp}{ty:TypeId}(h:fn.results= #[.cell p ty,.tmp u])(tmps:Array Value)(w:World)(g:Nat)(t:TypeId)(cs:Array Value)(fr:Nat×Nat)(d:TypeDesc)
 (hp:tmps.getD p undef=.pointer (some ⟨g,0,none⟩)) (hg:w.heap[g]?=some (.cells cs t fr))
 (hu:P.underlying ty=some d) (hd:(match d with| .struct _| .array _ _=>true|_=>false)=true) (hi:(P.info? ty).map (·.size)=some cs.size):
 (results fn tmps).run P w=.ok (.tuple #[.agg cs,tmps.getD u undef]) w:=by
 rw[results_cell_tmp h,hp]
 simp[asAddr,run_loadVar_row w g t ty cs fr d hg hu hd hi]
def dT (P:Nat→List Int)(c l:Int):Bool:=iR c && decide (cY P c<l)
def d9 (P:Nat→List Int)(c a l:Int):Nat→List Int:=if dT P c l then(fun k=>if k=c.toNat then P k++ [a] else P k) else P
theorem d7 (P:Nat→List Int){k:Nat}(hk:k<5):cY P k=(P k).length:=by simp[cY,xY hk]
theorem Ek (P:Nat→List Int){c:Int}(hc:iR c=false):cY P c=0:=by simp[cY,hc]
def gK (P:Nat→List Int)(c:Int):Bool:=decide (0<cY P c)
def ia (P:Nat→List Int)(c:Int):Int:=if gK P c then(P c.toNat).getD ((P c.toNat).length-1) 0 else 0
def gQ (P:Nat→List Int)(c:Int):Nat→List Int:=if gK P c then(fun k=>if k=c.toNat then(P k).take ((P k).length-1) else P k) else P
theorem sd {P:Program}{fn:Func}{p u u':Tmp}{ty:TypeId}(h:fn.results= #[.cell p ty,.tmp u,.tmp u'])(tmps:Array Value)(w:World)(g:Nat)(t:TypeId)(cs:Array Value)(fr:Nat×Nat)(d:TypeDesc)
 (hp:tmps.getD p undef=.pointer (some ⟨g,0,none⟩)) (hg:w.heap[g]?=some (.cells cs t fr))
 (hu:P.underlying ty=some d) (hd:(match d with| .struct _| .array _ _=>true|_=>false)=true) (hi:(P.info? ty).map (·.size)=some cs.size):
 (results fn tmps).run P w=.ok (.tuple #[.agg cs,tmps.getD u undef,tmps.getD u' undef]) w:=by
 have hp':tmps[p]?.getD undef=.pointer (some ⟨g,0,none⟩):=by simpa using hp
 simp[results,h,hp',asAddr,run_loadVar_row w g t ty cs fr d hg hu hd hi]
end Go.Proofs.YtddmeghbmdfgeaaGreatDoor
