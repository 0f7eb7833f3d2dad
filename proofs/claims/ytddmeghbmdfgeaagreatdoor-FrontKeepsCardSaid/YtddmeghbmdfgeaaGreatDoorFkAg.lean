/-
  What package extent's functions do over words.
-/
import Derived.Test.YtddmeghbmdfgeaaGreatDoorFkAe
import Derived.Test.YtddmeghbmdfgeaaGreatDoorFkAc
import Derived.ProofKit
import Derived.OpenShut
import Derived.Deep.Slices
import Derived.Deep.Fields
import Derived.Lib.SmallJoins
import Derived.Test.YtddmeghbmdfgeaaGreatDoorFkAd
import Derived.Test.YtddmeghbmdfgeaaGreatDoorFkAf
set_option maxRecDepth 100000
set_option maxHeartbeats 8000000
set_option linter.all false
namespace Go.Proofs.YtddmeghbmdfgeaaGreatDoor
def aV (pg st:Int)(ws:List Int)(p:Int):Int:=if af pg p then wAt ws (kA pg st p) else -1
def cD (pg st:Int)(ws:List Int)(p:Int):Int:=wAt ws (cA pg st p)
def cX (pg st:Int)(ws:List Int)(p:Int):Int:=wAt ws (bA pg st p)
def fF (pg st p k x:Int)(ws:List Int):List Int:=((ws.set (kA pg st p).toNat k).set (cA pg st p).toNat x).set (bA pg st p).toNat 0
def tG (pg st:Int):Nat→Int→List Int→Bool
 | 0,_,_=>true
 |m+1,q,ws=>decide (aV pg st ws q=0) && tG pg st m (q+1) ws
def tH (pg st p n:Int)(ws:List Int):Bool:=ce pg p n && tG pg st n.toNat p ws
def iu (pg st k:Int):Nat→Int→List Int→List Int
 | 0,_,ws=>ws
 |m+1,q,ws=>iu pg st k m (q+1) (fF pg st q k 0 ws)
def iw (pg st p n k:Int)(ws:List Int):Bool×List Int:=if ow k n && tH pg st p n ws then(true,iu pg st 7 (n-1).toNat (p+1) (fF pg st p k (if k=6 then n else 0) (gA pg st p n ws).2)) else(false,ws)
def rM (pg st p:Int)(ws:List Int):Int:=if ou (aV pg st ws p) then 1 else if aV pg st ws p=6 then max 1 (min (cD pg st ws p) (pg-p)) else 0
def DT (pg st p:Int)(ws:List Int):Int×List Int:=(rM pg st p ws,iu pg st 0 (rM pg st p ws).toNat p ws)
def tI (pg st:Int)(ws:List Int)(q:Int):Bool:=bK pg st ws (ofV q) && decide (aV pg st ws q=0)
def vV (pg st:Int)(ws:List Int)(q:Int):Bool:=decide (aV pg st ws q=0)
def nX (f:Int→Bool):Nat→Int→Option Int
 | 0,_=>none
 |m+1,q=>if f q then nX f m (q+1) else some q
def pH (f:Int→Bool)(pg n step:Int):Nat→Int→Int
 | 0,_=> -1
 |m+1,p=>if p≤pg-n then(match nX f n.toNat p with|none=>p|some q=>pH f pg n step m ((q / step+1) * step)) else -1
def mn (f:Int→Bool)(pg n step:Int):Int:=pH f pg n step (pg.toNat+1) 0
def jr (pg st n step:Int)(ws:List Int):Int:=if 1≤n∧1≤step then(if mn (tI pg st ws) pg n step= -1 then mn (vV pg st ws) pg n step else mn (tI pg st ws) pg n step) else -1
section
variable {pg st:Int}{n:Nat}(H:PgIn pg st n)
include H
theorem np (p:Int):bJ n (fh pg st p) (fun ws=>(aV pg st ws p,ws)):=by
 unfold fh aV
 cases h:af pg p with
 |true=>exact aU (dV (by have:=(cj H h).1.1;omega) (cj H h).1.2.1) (fun ws _=>by simp)
 |false=>exact aU (au n (-1)) (fun ws _=>by simp)
theorem zL {p:Int}(h:af pg p=true){k x:Int}(hk:W64 k)(hx:W64 x):bJ n (lD pg st p k x) (fun ws=>((),fF pg st p k x ws)):=by
 obtain⟨⟨a0,a1,a2⟩,⟨b0,b1,b2⟩,c0,c1,c2⟩:=cj H h
 exact aA (df (by omega) a1 a2 hk) (fun _=>aA (df (by omega) b1 b2 hx) (fun _=>df (by omega) c1 c2 (by unfold W64;omega)))
theorem Fr (m:Nat):∀q,bJ n (pp pg st m q) (fun ws=>(tG pg st m q ws,ws)):=by
 induction m with
 |zero=>intro q;exact au n true
 |succ m ih =>
  intro q
  refine aU (aA (np H q) (fun k=>bE (fun _=>ih (q+1)) (fun _=>au n false))) (fun ws _=>?_)
  show _=(decide (aV pg st ws q=0) && tG pg st m (q+1) ws,ws)
  by_cases e:aV pg st ws q=0<;>simp[e]
theorem Iz (p m:Int):bJ n (pq pg st p m) (fun ws=>(tH pg st p m ws,ws)):=by
 refine aU (bE (fun _=>Fr H m.toNat p) (fun _=>au n false)) (fun ws _=>?_)
 unfold tH
 cases ce pg p m<;>simp
theorem vW {k:Int}(hk:W64 k)(m:Nat):∀q,(∀i:Nat,i<m→af pg (q+i)=true)→bJ n (iK pg st k m q) (fun ws=>((),iu pg st k m q ws)):=by
 induction m with
 |zero=>intro q _;exact au n ()
 |succ m ih =>
  intro q h
  exact aA (zL H (by simpa using h 0 (by omega)) hk (by unfold W64;omega)) (fun _=>ih _ (fun i hi=>by have:=h (i+1) (by omega);rwa [show q+((i+1:Nat):Int)=q+1+(i:Int) by omega] at this))
theorem Fs (p m k:Int)(hk:W64 k)(hm:W64 m):bJ n (jm pg st p m k) (iw pg st p m k):=by
 unfold jm
 have hx:W64 (if k=6 then m else 0):=by
  split
  ·exact hm
  ·unfold W64;omega
 cases h:ce pg p m with
 |false =>
  unfold pq
  rw[h]
  have z:bJ n (ay false) (iw pg st p m k):=aU (au n false) (fun ws _=>by
   unfold iw tH
   rw[h]
   simp)
  by_cases hf:ow k m=true
  ·rw[if_pos hf];exact z
  ·rw[if_neg hf];exact z
 |true =>
  obtain⟨q0,q1,q2⟩:=dW.1 h
  refine aU (bE (fun _=>aA (Iz H p m) (fun b=>bE (fun _=>aA (zj H.toTblIn p m) (fun _=>aA (zL H (ax.2 ⟨by omega,by omega⟩) hk hx) (fun _=>aA (vW H (by unfold W64;omega) (m-1).toNat (p+1) (fun i hi=>ax.2 ⟨by omega,by omega⟩)) (fun _=>au n true)))) (fun _=>au n false))) (fun _=>au n false)) (fun ws _=>?_)
  unfold iw
  by_cases hf:ow k m=true<;>by_cases hv:tH pg st p m ws=true<;>simp[hf,hv]
theorem IA (p:Int):bJ n (nT pg st p) (fun ws=>(rM pg st p ws,ws)):=by
 cases h:af pg p with
 |true =>
  obtain⟨_,⟨b0,b1,_⟩,_⟩:=cj H h
  refine aU (aA (np H p) (fun k=>bE (fun _=>au n 1) (fun _=>bE (fun _=>aA (dV (a:=cA pg st p) (by omega) b1) (fun x=>au n (max 1 (min x (pg-p))))) (fun _=>au n 0)))) (fun ws _=>?_)
  unfold rM cD
  by_cases e:ou (aV pg st ws p)=true
  ·simp only[if_pos e]
  ·by_cases e2:aV pg st ws p=6
   ·simp only[if_neg e,if_pos e2]
   ·simp only[if_neg e,if_neg e2]
 |false =>
  unfold nT fh
  rw[h]
  refine aU (au n (0:Int)) (fun ws _=>?_)
  unfold rM aV
  rw[h];rfl
theorem O0 (p:Int)(ws:List Int):rM pg st p ws=0∨af pg p=true∧1≤rM pg st p ws∧rM pg st p ws≤pg-p:=by
 cases h:af pg p with
 |true =>
  have:=ax.1 h
  unfold rM
  by_cases e:ou (aV pg st ws p)=true
  ·rw[if_pos e];exact .inr ⟨rfl,by omega,by omega⟩
  ·by_cases e2:aV pg st ws p=6
   ·rw[if_neg e,if_pos e2];exact .inr ⟨rfl,by omega,by omega⟩
   ·rw[if_neg e,if_neg e2];exact .inl rfl
 |false =>
  refine .inl ?_
  unfold rM aV
  rw[h];rfl
theorem Ft (p:Int):bJ n (lS pg st p) (DT pg st p):=
 aU (gc (Q:=fun x:Int=>x=0∨af pg p=true∧1≤x∧x≤pg-p) (IA H p) (fun ws _=>O0 H p ws) (fun x hx=>aA (vW H (by unfold W64;omega) x.toNat p (fun i hi=>by
  rcases hx with rfl|⟨h,h1,h2⟩
  ·simp at hi
  ·have:=ax.1 h;exact ax.2 ⟨by omega,by omega⟩)) (fun _=>au n x))) (fun ws _=>rfl)
theorem vX (q:Int):bJ n (lT pg st q) (fun ws=>(vV pg st ws q,ws)):=aA (np H q) (fun k=>au n (decide (k=0)))
theorem Fu (q:Int):bJ n (lU pg st q) (fun ws=>(tI pg st ws q,ws)):=by
 refine aU (aA (qZ H.toTblIn (ofV q)) (fun b=>bE (fun _=>vX H q) (fun _=>au n false))) (fun ws _=>?_)
 unfold tI vV
 by_cases e:bK pg st ws (ofV q)=true<;>simp[e]
theorem Ck {f:Int→Prg Bool}{g:List Int→Int→Bool}(hf:∀q,bJ n (f q) (fun ws=>(g ws q,ws)))(m:Nat):∀q,bJ n (jY f m q) (fun ws=>(nX (g ws) m q,ws)):=by
 induction m with
 |zero=>intro q;exact au n none
 |succ m ih =>
  intro q
  refine aU (aA (hf q) (fun b=>bE (fun _=>ih (q+1)) (fun _=>au n (some q)))) (fun ws _=>?_)
  show _=((if g ws q then nX (g ws) m (q+1) else some q),ws)
  by_cases e:g ws q=true<;>simp[e]
theorem tJ {f:Int→Prg Bool}{g:List Int→Int→Bool}(hf:∀q,bJ n (f q) (fun ws=>(g ws q,ws)))(m step:Int)(j:Nat):∀p,bJ n (jn f pg m step j p) (fun ws=>(pH (g ws) pg m step j p,ws)):=by
 induction j with
 |zero=>intro p;exact au n (-1)
 |succ j ih =>
  intro p
  refine aU (bE (fun _=>aA (Ck H hf m.toNat p) (fun r=>(?_:bJ n _ (fun ws=>((match r with|none=>p|some q=>pH (g ws) pg m step j ((q / step+1) * step)),ws))))) (fun _=>au n (-1))) (fun ws _=>?_)
  ·cases r with
   |none=>exact au n p
   |some q=>exact ih _
  ·show _=((if p≤pg-m then(match nX (g ws) m.toNat p with|none=>p|some q=>pH (g ws) pg m step j ((q / step+1) * step)) else -1),ws)
   by_cases e:p≤pg-m<;>simp[e]
theorem Fv (m step:Int):bJ n (kR pg st m step) (fun ws=>(jr pg st m step ws,ws)):=by
 refine aU (bE (fun _=>aA (tJ H (Fu H) m step (pg.toNat+1) 0) (fun p=>bE (fun _=>tJ H (vX H) m step (pg.toNat+1) 0) (fun _=>au n p))) (fun _=>au n (-1))) (fun ws _=>?_)
 unfold jr mn
 by_cases e:1≤m∧1≤step
 ·simp only[if_pos e]
  by_cases e2:pH (tI pg st ws) pg m step (pg.toNat+1) 0= -1
  ·simp only[if_pos e2]
  ·simp only[if_neg e2]
 ·simp only[if_neg e]
end
theorem jL {pg st:Int}{ws:List Int}{p:Int}(h:af pg p=true):aV pg st ws p=wAt ws (kA pg st p):=by unfold aV;rw[h];rfl
theorem iy {pg st:Int}{ws:List Int}{p:Int}(h:af pg p=false):aV pg st ws p= -1:=by unfold aV;rw[h];rfl
section
variable {pg st:Int}{n:Nat}(H:PgIn pg st n)
include H
theorem fa (p k x:Int)(ws:List Int):(fF pg st p k x ws).length=ws.length:=by simp[fF]
theorem il {p:Int}(h:af pg p=true)(k x:Int){ws:List Int}(hn:ws.length=n){i:Int}(hi:0≤i):wAt (fF pg st p k x ws) i=if i=bA pg st p then 0 else if i=cA pg st p then x else if i=kA pg st p then k else wAt ws i:=by
 obtain⟨⟨a0,a1,a2⟩,⟨b0,b1,b2⟩,c0,c1,c2⟩:=cj H h
 unfold fF
 rw[dH (by omega) hi (by simp[hn];exact c1),dH (by omega) hi (by simp[hn];exact b1),dH (by omega) hi (by rw[hn];exact a1)]
theorem ms {k p:Int}(hk:bR pg k=true)(h:af pg p=true):dT pg st k≠kA pg st p∧dT pg st k≠cA pg st p∧dT pg st k≠bA pg st p:=by
 have:=cY.1 hk;have:=ax.1 h;have:=H.pg1
 rw[lO hk];unfold kA cA bA;omega
theorem nq {p:Int}(h:af pg p=true)(k x:Int){ws:List Int}(hn:ws.length=n)(q:Int):aV pg st (fF pg st p k x ws) q=if q=p then k else aV pg st ws q:=by
 cases hq:af pg q with
 |false =>
  rw[iy hq,iy hq,if_neg (by rintro rfl;rw[h] at hq;cases hq)]
 |true =>
  have h0:=(cj H hq).1.1
  have:=ax.1 h;have:=ax.1 hq
  rw[jL hq,jL hq,il H h k x hn (by omega),if_neg (by unfold kA bA;omega),if_neg (by unfold kA cA;omega)]
  by_cases e:q=p
  ·rw[if_pos e,if_pos (by rw[e])]
  ·rw[if_neg e,if_neg (by unfold kA;omega)]
theorem mt {p:Int}(h:af pg p=true)(k x:Int){ws:List Int}(hn:ws.length=n){q:Int}(hq:af pg q=true):cD pg st (fF pg st p k x ws) q=if q=p then x else cD pg st ws q:=by
 have h0:=(cj H hq).2.1.1
 have:=ax.1 h;have:=ax.1 hq
 unfold cD
 rw[il H h k x hn (by omega),if_neg (by unfold cA bA;omega)]
 by_cases e:q=p
 ·rw[if_pos e,if_pos (by rw[e])]
 ·rw[if_neg e,if_neg (by unfold cA;omega),if_neg (by unfold cA kA;omega)]
theorem pI {p:Int}(h:af pg p=true)(k x:Int){ws:List Int}(hn:ws.length=n){q:Int}(hq:af pg q=true):cX pg st (fF pg st p k x ws) q=if q=p then 0 else cX pg st ws q:=by
 have h0:=(cj H hq).2.2.1
 have:=ax.1 h;have:=ax.1 hq
 unfold cX
 rw[il H h k x hn (by omega)]
 by_cases e:q=p
 ·rw[if_pos e,if_pos (by rw[e])]
 ·rw[if_neg e,if_neg (by unfold bA;omega),if_neg (by unfold cA bA;omega),if_neg (by unfold bA kA;omega)]
theorem tK {p:Int}(h:af pg p=true)(k x:Int){ws:List Int}(hn:ws.length=n)(j:Int):bK pg st (fF pg st p k x ws) j=bK pg st ws j:=by
 unfold bK
 cases hj:bR pg j with
 |false=>rfl
 |true =>
  have h0:=(pl H.toTblIn hj).1
  obtain⟨t0,t1,t2⟩:=ms H hj h
  rw[il H h k x hn (by omega),if_neg t2,if_neg t1,if_neg t0]
theorem IC (k:Int)(m:Nat):∀(q:Int) (ws:List Int),(iu pg st k m q ws).length=ws.length:=by
 induction m with
 |zero=>intro q ws;rfl
 |succ m ih=>intro q ws;show(iu pg st k m (q+1) _).length=_;rw[ih,fa H]
theorem js {m:Nat}{q:Int}(h:∀i:Nat,i<m+1→af pg (q+i)=true):af pg q=true∧∀i:Nat,i<m→af pg (q+1+i)=true :=
 ⟨by simpa using h 0 (by omega),fun i hi=>by have:=h (i+1) (by omega);rwa [show q+((i+1:Nat):Int)=q+1+(i:Int) by omega] at this⟩
theorem Fw (k:Int)(m:Nat):∀(q:Int) (ws:List Int),ws.length=n→(∀i:Nat,i<m→af pg (q+i)=true)→∀p,aV pg st (iu pg st k m q ws) p=if q≤p∧p<q+m then k else aV pg st ws p:=by
 induction m with
 |zero=>intro q ws _ _ p;rw[if_neg (by omega)];rfl
 |succ m ih =>
  intro q ws hn h p
  obtain⟨h0,h1⟩:=js H h
  show aV pg st (iu pg st k m (q+1) (fF pg st q k 0 ws)) p=_
  rw[ih _ _ (by rw[fa H];exact hn) h1,nq H h0 k 0 hn]
  by_cases e:p=q
  ·rw[if_neg (by omega),if_pos e,if_pos (by omega)]
  ·rw[if_neg e]
   by_cases e2:q+1≤p∧p<q+1+(m:Int)
   ·rw[if_pos e2,if_pos (by omega)]
   ·rw[if_neg e2,if_neg (by omega)]
theorem ID (k:Int)(m:Nat):∀(q:Int) (ws:List Int),ws.length=n→(∀i:Nat,i<m→af pg (q+i)=true)→∀p,af pg p=true→cD pg st (iu pg st k m q ws) p=if q≤p∧p<q+m then 0 else cD pg st ws p:=by
 induction m with
 |zero=>intro q ws _ _ p _;rw[if_neg (by omega)];rfl
 |succ m ih =>
  intro q ws hn h p hp
  obtain⟨h0,h1⟩:=js H h
  show cD pg st (iu pg st k m (q+1) (fF pg st q k 0 ws)) p=_
  rw[ih _ _ (by rw[fa H];exact hn) h1 p hp,mt H h0 k 0 hn hp]
  by_cases e:p=q
  ·rw[if_neg (by omega),if_pos e,if_pos (by omega)]
  ·rw[if_neg e]
   by_cases e2:q+1≤p∧p<q+1+(m:Int)
   ·rw[if_pos e2,if_pos (by omega)]
   ·rw[if_neg e2,if_neg (by omega)]
theorem IE (k:Int)(m:Nat):∀(q:Int) (ws:List Int),ws.length=n→(∀i:Nat,i<m→af pg (q+i)=true)→∀p,af pg p=true→cX pg st (iu pg st k m q ws) p=if q≤p∧p<q+m then 0 else cX pg st ws p:=by
 induction m with
 |zero=>intro q ws _ _ p _;rw[if_neg (by omega)];rfl
 |succ m ih =>
  intro q ws hn h p hp
  obtain⟨h0,h1⟩:=js H h
  show cX pg st (iu pg st k m (q+1) (fF pg st q k 0 ws)) p=_
  rw[ih _ _ (by rw[fa H];exact hn) h1 p hp,pI H h0 k 0 hn hp]
  by_cases e:p=q
  ·rw[if_neg (by omega),if_pos e,if_pos (by omega)]
  ·rw[if_neg e]
   by_cases e2:q+1≤p∧p<q+1+(m:Int)
   ·rw[if_pos e2,if_pos (by omega)]
   ·rw[if_neg e2,if_neg (by omega)]
theorem IG (k:Int)(m:Nat):∀(q:Int) (ws:List Int),ws.length=n→(∀i:Nat,i<m→af pg (q+i)=true)→∀j,bK pg st (iu pg st k m q ws) j=bK pg st ws j:=by
 induction m with
 |zero=>intro q ws _ _ j;rfl
 |succ m ih =>
  intro q ws hn h j
  obtain⟨h0,h1⟩:=js H h
  show bK pg st (iu pg st k m (q+1) (fF pg st q k 0 ws)) j=_
  rw[ih _ _ (by rw[fa H];exact hn) h1 j,tK H h0 k 0 hn]
theorem IH (k:Int)(m:Nat):∀(q:Int) (ws:List Int),ws.length=n→(∀i:Nat,i<m→af pg (q+i)=true)→∀i,0≤i→(∀p,af pg p=true→i≠kA pg st p∧i≠cA pg st p∧i≠bA pg st p)→wAt (iu pg st k m q ws) i=wAt ws i:=by
 induction m with
 |zero=>intro q ws _ _ i _ _;rfl
 |succ m ih =>
  intro q ws hn h i hi ho
  obtain⟨h0,h1⟩:=js H h
  obtain⟨o1,o2,o3⟩:=ho q h0
  show wAt (iu pg st k m (q+1) (fF pg st q k 0 ws)) i=_
  rw[ih _ _ (by rw[fa H];exact hn) h1 i hi ho,il H h0 k 0 hn hi,if_neg o3,if_neg o2,if_neg o1]
end
structure Tab (pg st:Int)(ws ws':List Int):Prop where
 len:ws'.length=ws.length
 off:∀i:Int,0≤i→(∀k,bR pg k=true→i≠dT pg st k)→wAt ws' i=wAt ws i
section
variable {pg st:Int}{n:Nat}(H:PgIn pg st n)
include H
theorem Tab.kind {ws ws':List Int}(h:Tab pg st ws ws')(p:Int):aV pg st ws' p=aV pg st ws p:=by
 cases hp:af pg p with
 |false=>rw[iy hp,iy hp]
 |true=>rw[jL hp,jL hp,h.off _ (by have:=(cj H hp).1.1;omega) (fun k hk e=>(ms H hk hp).1 e.symm)]
theorem Tab.cnt {ws ws':List Int}(h:Tab pg st ws ws'){p:Int}(hp:af pg p=true):cD pg st ws' p=cD pg st ws p :=
 h.off _ (by have:=(cj H hp).2.1.1;omega) (fun k hk e=>(ms H hk hp).2.1 e.symm)
theorem Tab.bit {ws ws':List Int}(h:Tab pg st ws ws'){p:Int}(hp:af pg p=true):cX pg st ws' p=cX pg st ws p :=
 h.off _ (by have:=(cj H hp).2.2.1;omega) (fun k hk e=>(ms H hk hp).2.2 e.symm)
theorem tL {x y:Int}(ht:ce pg x y=true){ws:List Int}(hn:ws.length=n):EX ws (gA pg st x y ws).2 (fun i=>∃j:Nat,j<spanV x y∧i=dT pg st (x / 4+j)):=by
 have h2:=zk H.toTblIn (spanV x y) (x / 4) 0 ws ws (fun _=>False) hn (EY ws _ (fun _ q=>q)) (fun i hi=>xt ht i hi)
 unfold gA
 rw[if_pos ht]
 exact⟨h2.len,fun i h0=>⟨fun q=>(h2.eq i h0).1 (.inr q),fun q=>(h2.eq i h0).2 (by rintro(r|r);exact r;exact q r)⟩⟩
theorem KN {x y:Int}(ht:ce pg x y=true){ws:List Int}(hn:ws.length=n):Tab pg st ws (gA pg st x y ws).2 :=
 ⟨(tL H ht hn).len,fun i h0 ho=>((tL H ht hn).eq i h0).2 (by rintro⟨j,hj,e⟩;exact ho _ (xt ht j hj) e)⟩
theorem KO {x y:Int}(ht:ce pg x y=true){ws:List Int}(hn:ws.length=n){j:Int}(hj:bR pg j=true):bK pg st (gA pg st x y ws).2 j=(bK pg st ws j ||(decide (x / 4≤j) && decide (j≤(x+y-1) / 4))):=by
 have h:=tL H ht hn
 obtain⟨t0,t1,t2⟩:=pl H.toTblIn hj
 obtain⟨s1,s2⟩:=Bq ht H.pg2
 unfold bK
 rw[hj]
 by_cases e:x / 4≤j∧j≤(x+y-1) / 4
 ·rw[(h.eq _ (by omega)).1 ⟨(j-x / 4).toNat,by omega,by congr 1;omega⟩]
  simp[e]
 ·rw[(h.eq _ (by omega)).2 (by
   rintro⟨i,hi,q⟩
   have hc:=xt ht i hi
   rw[lO hj,lO hc] at q
   omega)]
  by_cases e1:x / 4≤j
  ·have:¬j≤(x+y-1) / 4:=fun q=>e ⟨e1,q⟩
   simp[this]
  ·simp[e1]
end
structure Wf (pg st:Int)(ws:List Int):Prop where
 b:∀p,af pg p=true→0≤aV pg st ws p∧aV pg st ws p≤7
 rest:∀p,aV pg st ws p=7→aV pg st ws (p-1)=6∨aV pg st ws (p-1)=7
 run:∀p,aV pg st ws p=6→1≤cD pg st ws p∧cD pg st ws p≤pg-p∧(∀i,p<i→i<p+cD pg st ws p→aV pg st ws i=7)∧aV pg st ws (p+cD pg st ws p)≠7
 free:∀p,aV pg st ws p=0→cD pg st ws p=0∧cX pg st ws p=0
 map:∀p,af pg p=true→aV pg st ws p≠0→bK pg st ws (p / 4)=true
theorem Fx (pg st:Int)(ws:List Int)(m:Nat):∀q:Int,tG pg st m q ws=true↔∀i:Int,q≤i→i<q+m→aV pg st ws i=0:=by
 induction m with
 |zero=>intro q;simp only[tG,true_iff];intro i h0 h1;omega
 |succ m ih =>
  intro q
  show(decide (aV pg st ws q=0) && tG pg st m (q+1) ws)=true↔_
  rw[Bool.and_eq_true,decide_eq_true_eq,ih]
  constructor
  ·rintro⟨h0,h1⟩ i a0 a1
   by_cases e:i=q
   ·rw[e];exact h0
   ·exact h1 i (by omega) (by omega)
  ·intro h
   exact⟨h q (by omega) (by omega),fun i a0 a1=>h i (by omega) (by omega)⟩
theorem tM {pg st p n:Int}{ws:List Int} :tH pg st p n ws=true↔ce pg p n=true∧∀i:Int,p≤i→i<p+n→aV pg st ws i=0:=by
 unfold tH
 rw[Bool.and_eq_true,Fx]
 constructor
 ·rintro⟨h0,h1⟩
  obtain⟨a,b,c⟩:=dW.1 h0
  exact⟨h0,fun i a0 a1=>h1 i a0 (by omega)⟩
 ·rintro⟨h0,h1⟩
  exact⟨h0,fun i a0 a1=>h1 i a0 (by obtain⟨a,b,c⟩:=dW.1 h0;omega)⟩
theorem zM {pg p:Int}(h:af pg p=true):bR pg (p / 4)=true:=by
 have:=ax.1 h
 rw[cY];unfold aL;omega
section
variable {pg st:Int}{n:Nat}(H:PgIn pg st n)
include H
structure II (pg st p m k:Int)(ws ws':List Int):Prop where
 len:ws'.length=ws.length
 kind:∀q,aV pg st ws' q=if q=p then k else if p<q∧q<p+m then 7 else aV pg st ws q
 cnt:∀q,af pg q=true→cD pg st ws' q=if q=p then(if k=6 then m else 0) else if p<q∧q<p+m then 0 else cD pg st ws q
 bit:∀q,af pg q=true→cX pg st ws' q=if p≤q∧q<p+m then 0 else cX pg st ws q
 map:∀j,bR pg j=true→bK pg st ws' j=(bK pg st ws j ||(decide (p / 4≤j) && decide (j≤(p+m-1) / 4)))
 off:∀i:Int,0≤i→(∀p,af pg p=true→i≠kA pg st p∧i≠cA pg st p∧i≠bA pg st p)→(∀k,bR pg k=true→i≠dT pg st k)→wAt ws' i=wAt ws i
theorem Fy {p m k:Int}{ws:List Int}(hn:ws.length=n)(ht:ce pg p m=true):II pg st p m k ws (iu pg st 7 (m-1).toNat (p+1) (fF pg st p k (if k=6 then m else 0) (gA pg st p m ws).2)):=by
 obtain⟨t0,t1,t2⟩:=dW.1 ht
 have T:=KN H ht hn
 have hE:(gA pg st p m ws).2.length=n:=T.len.trans hn
 have hp:af pg p=true:=ax.2 ⟨by omega,by omega⟩
 have hP:(fF pg st p k (if k=6 then m else 0) (gA pg st p m ws).2).length=n:=by rw[fa H];exact hE
 have hr:∀i:Nat,i<(m-1).toNat→af pg (p+1+i)=true:=fun i hi=>ax.2 ⟨by omega,by omega⟩
 have hc:(((m-1).toNat:Nat):Int)=m-1:=by omega
 refine⟨by rw[IC H,fa H,T.len],fun q=>?_,fun q hq=>?_,fun q hq=>?_,fun j hj=>?_,fun i h0 o1 o2=>?_⟩
 ·rw[Fw H _ _ _ _ hP hr,nq H hp _ _ hE,T.kind H,hc]
  by_cases e:q=p
  ·rw[if_neg (by omega),if_pos e,if_pos e]
  ·rw[if_neg e,if_neg e]
   by_cases e2:p<q∧q<p+m
   ·rw[if_pos (by omega),if_pos e2]
   ·rw[if_neg (by omega),if_neg e2]
 ·rw[ID H _ _ _ _ hP hr q hq,mt H hp _ _ hE hq,T.cnt H hq,hc]
  by_cases e:q=p
  ·rw[if_neg (by omega),if_pos e,if_pos e]
  ·rw[if_neg e,if_neg e]
   by_cases e2:p<q∧q<p+m
   ·rw[if_pos (by omega),if_pos e2]
   ·rw[if_neg (by omega),if_neg e2]
 ·rw[IE H _ _ _ _ hP hr q hq,pI H hp _ _ hE hq,T.bit H hq,hc]
  by_cases e:q=p
  ·rw[if_neg (by omega),if_pos e,if_pos (by omega)]
  ·rw[if_neg e]
   by_cases e2:p<q∧q<p+m
   ·rw[if_pos (by omega),if_pos (by omega)]
   ·rw[if_neg (by omega),if_neg (by omega)]
 ·rw[IG H _ _ _ _ hP hr,tK H hp _ _ hE,KO H ht hn hj]
 ·obtain⟨o3,o4,o5⟩:=o1 p hp
  rw[IH H _ _ _ _ hP hr i h0 o1,il H hp _ _ hE h0,if_neg o5,if_neg o4,if_neg o3,T.off i h0 o2]
structure Pv (pg st p m:Int)(ws ws':List Int):Prop where
 len:ws'.length=ws.length
 kind:∀q,aV pg st ws' q=if p≤q∧q<p+m then 0 else aV pg st ws q
 cnt:∀q,af pg q=true→cD pg st ws' q=if p≤q∧q<p+m then 0 else cD pg st ws q
 bit:∀q,af pg q=true→cX pg st ws' q=if p≤q∧q<p+m then 0 else cX pg st ws q
 map:∀j,bK pg st ws' j=bK pg st ws j
 off:∀i:Int,0≤i→(∀p,af pg p=true→i≠kA pg st p∧i≠cA pg st p∧i≠bA pg st p)→wAt ws' i=wAt ws i
end
open Go.ChangeShapes Go.WideShapes Go.ChangeAt Go.RowKit Go.Joins Go.Deep
theorem Fz (b o j:Nat):(⟨b,o,none⟩:Addr).add j=⟨b,o+j,none⟩:=by
 unfold Addr.add
 by_cases q:j=0
 ·subst q;simp
 ·simp[q]
theorem IJ {α:Type}{n:Nat}{f:Nat→α}{i:Nat}{t:α}(h:((List.range n).map f)[i]?=some t):i<n∧t=f i:=by
 rw[List.getElem?_map] at h
 by_cases q:i<n
 ·rw[List.getElem?_range q] at h;exact⟨q,by simpa using h.symm⟩
 ·rw[List.getElem?_eq_none (by simpa using q)] at h;cases h
section
variable {H:Type}{enc:TypeId×Value→H}{P:Program}{w:World}{base:Nat}{spare:Nat→Bool}{held:Bool}
end
section
variable {H:Type}{enc:TypeId×Value→H}{P:Program}{w:World}{base:Nat}{spare:Nat→Bool}{held:Bool}
end
theorem zN {α:Type}{l:List α}{j:Nat}{x:α}(h:l[j]?=some x):l.drop j=x::l.drop (j+1):=by
 have hj:j<l.length:=by
  rcases Nat.lt_or_ge j l.length with q|q
  ·exact q
  ·rw[List.getElem?_eq_none q] at h;cases h
 rw[List.drop_eq_getElem_cons hj]
 rw[List.getElem?_eq_getElem hj] at h
 cases h;rfl
open Go.Sort Go.Maps Go.Shelf
def Nw (pg st k:Int)(ws:List Int):Bool:=tH pg st (qn pg k) (fC pg k) ws
section
variable {pg st:Int}{n:Nat}(H:PgIn pg st n)
include H
structure Ph (pg st:Int)(lo s:Int)(ws:List Int)(r:Int×List Int):Prop where
 tab:Tab pg st ws r.2
 wf:Wf pg st r.2
 cnt:H7 pg st r.2=H7 pg st ws-(r.1-s)
 le:s≤r.1
 map:∀j,bR pg j=true→bK pg st r.2 j=if lo≤j then(bK pg st ws j && !Nw pg st j ws) else bK pg st ws j
end
section
variable {pg st:Int}{n:Nat}(H:PgIn pg st n)
include H
end
def opN (pg st:Int)(ws:List Int)(mp:Bool):Nat→Int→Bool
 | 0,_=>true
 |m+1,q=>(decide (aV pg st ws q=0) && (!mp ||bK pg st ws (ofV q))) && opN pg st ws mp m (q+1)
theorem Pi (pg st:Int)(ws:List Int)(mp:Bool)(m:Nat):∀q:Int,opN pg st ws mp m q=true↔∀i:Int,q≤i→i<q+m→aV pg st ws i=0∧(mp=true→bK pg st ws (ofV i)=true):=by
 induction m with
 |zero=>intro q;exact⟨fun _ i h0 h1=>by omega,fun _=>rfl⟩
 |succ m ih =>
  intro q
  show((decide (aV pg st ws q=0) && (!mp ||bK pg st ws (ofV q))) && opN pg st ws mp m (q+1))=true↔_
  rw[Bool.and_eq_true,Bool.and_eq_true,ih]
  constructor
  ·rintro⟨⟨h0,h1⟩,h2⟩ i hi hl
   by_cases e:i=q
   ·subst e
    refine⟨by simpa using h0,fun hm=>?_⟩
    rw[hm] at h1;simpa using h1
   ·exact h2 i (by omega) (by omega)
  ·intro h
   obtain⟨a,b⟩:=h q (by omega) (by omega)
   refine⟨⟨by simpa using a,?_⟩,fun i hi hl=>h i (by omega) (by omega)⟩
   cases mp with
   |false=>rfl
   |true=>simpa using b rfl
def DU (f:Int→Bool)(pg m q:Int):Prop:=q≤pg-m∧∀i,q≤i→i<q+m→f i=true
theorem Cl {f:Int→Bool}(m:Nat):∀q:Int,nX f m q=none→∀i,q≤i→i<q+m→f i=true:=by
 induction m with
 |zero=>intro q _ i h0 h1;omega
 |succ m ih =>
  intro q h i h0 h1
  have h:(if f q then nX f m (q+1) else some q)=none:=h
  by_cases e:f q=true
  ·rw[if_pos e] at h
   by_cases ei:i=q
   ·rw[ei];exact e
   ·exact ih (q+1) h i (by omega) (by omega)
  ·rw[if_neg e] at h;cases h
theorem Cm {f:Int→Bool}(m:Nat):∀q x:Int,nX f m q=some x→q≤x∧x<q+m∧f x=false:=by
 induction m with
 |zero=>intro q x h;cases h
 |succ m ih =>
  intro q x h
  have h:(if f q then nX f m (q+1) else some q)=some x:=h
  by_cases e:f q=true
  ·rw[if_pos e] at h
   obtain⟨a,b,c⟩:=ih (q+1) x h
   exact⟨by omega,by omega,c⟩
  ·rw[if_neg e] at h
   cases h
   exact⟨by omega,by omega,by simpa using e⟩
theorem Cn {f:Int→Bool}{pg m step:Int}(h1:1≤m)(h2:1≤step)(j:Nat):∀p d:Int,p=d * step→0≤p→pg<p+j →
 (pH f pg m step j p= -1∧∀k:Int,p≤k * step→¬DU f pg m (k * step))∨∃k:Int,pH f pg m step j p=k * step∧p≤k * step∧DU f pg m (k * step)∧∀l:Int,p≤l * step→l * step<k * step→¬DU f pg m (l * step):=by
 induction j with
 |zero=>intro p d hp h0 hj;exact .inl ⟨rfl,fun k hk hh=>by have:=hh.1;omega⟩
 |succ j ih =>
  intro p d hp h0 hj
  unfold pH
  by_cases e:p≤pg-m
  ·rw[if_pos e]
   cases hs:nX f m.toNat p with
   |none =>
    have:=Cl _ _ hs
    exact .inr ⟨d,hp,by omega,⟨by omega,fun i a b=>this i (by omega) (by omega)⟩,fun l a b=>by omega⟩
   |some q =>
    obtain⟨s0,s1,s2⟩:=Cm _ _ _ hs
    have q0:q / step * step≤q:=Int.ediv_mul_le q (by omega)
    have q1:q<(q / step+1) * step:=Int.lt_ediv_add_one_mul_self q (by omega)
    have skip:∀l:Int,p≤l * step→l * step<(q / step+1) * step→¬DU f pg m (l * step):=fun l a b hh=>by
     have hl:l<q / step+1:=Int.lt_of_mul_lt_mul_right b (by omega)
     have hl2:l * step≤q / step * step:=Int.mul_le_mul_of_nonneg_right (by omega) (by omega)
     have:=hh.2 q (by omega) (by omega)
     rw[s2] at this;cases this
    rcases ih ((q / step+1) * step) (q / step+1) rfl (by omega) (by omega) with⟨a,b⟩|⟨k,a,b,c,d'⟩
    ·refine .inl ⟨a,fun k hk=>?_⟩
     rcases Int.lt_or_le (k * step) ((q / step+1) * step) with z|z
     ·exact skip k hk z
     ·exact b k z
    ·refine .inr ⟨k,a,by omega,c,fun l hl hl2=>?_⟩
     rcases Int.lt_or_le (l * step) ((q / step+1) * step) with z|z
     ·exact skip l hl z
     ·exact d' l z hl2
  ·rw[if_neg e]
   exact .inl ⟨rfl,fun k hk hh=>by have:=hh.1;omega⟩
section
variable {pg st:Int}{n:Nat}(H:PgIn pg st n)
include H
end
def bV (pg a:Int)(ws:List Int):Int:=if a=0 then -1 else gW pg (wAt ws a)
def plThrV (pg st p:Int):Nat→Int→List Int→List Int→List Int×Bool
 | 0,_,l,_=>(l,false)
 |m+1,a,l,ws=>if bV pg a ws=p then(l,true) else if bV pg a ws= -1 then(l,false) else plThrV pg st p m (nA pg st (bV pg a ws)) (l++ [bV pg a ws]) ws
def cN (pg st h p q:Int)(ws:List Int):List Int:=if q= -1 then ws.set (if p= -1 then h else nA pg st p).toNat (q+1) else(ws.set (if p= -1 then h else nA pg st p).toNat (q+1)).set (vA pg st q).toNat (p+1)
def eE (pg st p c f:Int)(ws:List Int):Bool×List Int:=if aF pg st c f≠0∧af pg p=true then(true,cN pg st (aF pg st c f) (-1) p (cN pg st (aF pg st c f) p (bV pg (aF pg st c f) ws) ws)) else(false,ws)
def cx (pg st p c f:Int)(ws:List Int):Bool×List Int:=if af pg p=true∧(plThrV pg st p pg.toNat (aF pg st c f) [] ws).2=true then(true,((cN pg st (aF pg st c f) (cy (plThrV pg st p pg.toNat (aF pg st c f) [] ws).1) (bV pg (nA pg st p) ws) ws).set (nA pg st p).toNat 0).set (vA pg st p).toNat 0) else(false,ws)
def dg (pg st c:Int):Nat→Int→List Int→Int
 | 0,_,_=> -1
 |m+1,f,ws=>if bV pg (aF pg st c f) ws= -1 then dg pg st c m (f+1) ws else bV pg (aF pg st c f) ws
section
variable {pg st:Int}{n:Nat}(H:cB pg st n)
include H
theorem jM {a:Int}(h0:0≤a)(ha:a<n):bJ n (eh pg a) (fun ws=>(bV pg a ws,ws)):=by
 unfold eh bV
 by_cases e:a=0
 ·simp only[if_pos e];exact au n (-1)
 ·simp only[if_neg e];exact aA (dV h0 ha) (fun x=>au n (gW pg x))
theorem tN (a:Int)(ws:List Int):bV pg a ws= -1∨af pg (bV pg a ws)=true:=by
 unfold bV
 split
 ·exact .inl rfl
 ·exact zo H _
theorem zO (p:Int)(m:Nat):∀(a:Int) (l:List Int),0≤a→a<n→bJ n (kT pg st p m a l) (fun ws=>(plThrV pg st p m a l ws,ws)):=by
 induction m with
 |zero=>intro a l _ _;exact au n (l,false)
 |succ m ih =>
  intro a l h0 ha
  refine aU (gc (Q:=fun q:Int=>q= -1∨af pg q=true) (jM H h0 ha) (fun ws _=>tN H a ws) (fun q hq=>bE (fun _=>au n (l,true)) (fun _=>bE (fun _=>au n (l,false)) (fun hne=>by
   have hp:=hq.resolve_left hne
   have:=(eC H hp).1
   exact ih (nA pg st q) (l++ [q]) (by omega) this.2.1)))) (fun ws _=>?_)
  show _=(if bV pg a ws=p then(l,true) else if bV pg a ws= -1 then(l,false) else plThrV pg st p m (nA pg st (bV pg a ws)) (l++ [bV pg a ws]) ws,ws)
  by_cases e:bV pg a ws=p
  ·simp only[if_pos e]
  ·by_cases e2:bV pg a ws= -1
   ·simp only[if_neg e,if_pos e2]
   ·simp only[if_neg e,if_neg e2]
theorem Co (p c f:Int):bJ n (kU pg st p c f) (fun ws=>(plThrV pg st p pg.toNat (aF pg st c f) [] ws,ws)):=zO H p _ _ _ (bD H).1 (bD H).2.1
theorem mu {h p q:Int}(h0:0≤h)(h1:W64 h)(h2:h<n)(hp:p= -1∨af pg p=true)(hq:q= -1∨af pg q=true):bJ n (eU pg st h p q) (fun ws=>((),cN pg st h p q ws)):=by
 have first:bJ n (if p= -1 then cM h (q+1) else cM (nA pg st p) (q+1)) (fun ws=>((),ws.set (if p= -1 then h else nA pg st p).toNat (q+1))):=by
  by_cases e:p= -1
  ·simp only[if_pos e];exact df h0 h2 h1 (nU H hq)
  ·simp only[if_neg e]
   obtain⟨⟨a,b,c⟩,_⟩:=eC H (hp.resolve_left e)
   exact df (by omega) b c (nU H hq)
 refine aU (aA first (fun _=>bE (fun _=>au n ()) (fun hne=>by
  obtain⟨_,a,b,c⟩:=eC H (hq.resolve_left hne)
  exact df (by omega) b c (nU H hp)))) (fun ws _=>?_)
 unfold cN
 by_cases e:q= -1
 ·simp only[if_pos e]
 ·simp only[if_neg e]
theorem zP (p c f:Int):bJ n (iR pg st p c f) (eE pg st p c f):=by
 unfold iR
 by_cases hz:aF pg st c f=0
 ·rw[if_pos hz]
  exact aU (au n false) (fun ws _=>by unfold eE;rw[if_neg (by rintro⟨a,_⟩;exact a hz)])
 rw[if_neg hz]
 cases hp:af pg p with
 |false=>exact aU (au n false) (fun ws _=>by unfold eE;rw[if_neg (by rintro⟨_,a⟩;rw[hp] at a;cases a)])
 |true =>
  rw[if_pos rfl]
  obtain⟨b0,b1,b2⟩:=bD (c:=c) (f:=f) H
  refine aU (gc (Q:=fun q:Int=>q= -1∨af pg q=true) (jM H b0 b1) (fun ws _=>tN H _ ws) (fun q hq=>aA (mu H b0 b2 b1 (.inr hp) hq) (fun _=>aA (mu H b0 b2 b1 (.inl rfl) (.inr hp)) (fun _=>au n true)))) (fun ws _=>?_)
  unfold eE
  rw[if_pos ⟨hz,hp⟩]
theorem FA (p:Int)(m:Nat)(ws:List Int):∀(a:Int) (l:List Int),(∀x∈l,af pg x=true)→∀x∈(plThrV pg st p m a l ws).1,af pg x=true:=by
 induction m with
 |zero=>intro a l hl;exact hl
 |succ m ih =>
  intro a l hl
  unfold plThrV
  split
  ·exact hl
  ·split
   ·exact hl
   ·rename_i hne
    exact ih _ _ (fun x hx=>by
     rcases List.mem_append.1 hx with h|h
     ·exact hl x h
     ·rw[List.mem_singleton.1 h];exact(tN H a ws).resolve_left hne)
theorem vd (p c f:Int):bJ n (fH pg st p c f) (cx pg st p c f):=by
 unfold fH
 cases hp:af pg p with
 |false=>exact aU (au n false) (fun ws _=>by unfold cx;rw[if_neg (by rintro⟨a,_⟩;rw[hp] at a;cases a)])
 |true =>
  rw[if_pos rfl]
  obtain⟨b0,b1,b2⟩:=bD (c:=c) (f:=f) H
  obtain⟨⟨a0,a1,a2⟩,c0,c1,c2⟩:=eC H hp
  refine aU (gc (Q:=fun r:List Int×Bool=>∀x∈r.1,af pg x=true) (Co H p c f) (fun ws _=>FA H _ _ _ _ _ (fun x hx=>by cases hx)) (fun r hr=>bE (fun _=>gc (Q:=fun q:Int=>q= -1∨af pg q=true) (jM H (by omega) a1) (fun ws _=>tN H _ ws) (fun q hq=>aA (mu H b0 b2 b1 (kW H hr) hq) (fun _=>aA (df (by omega) a1 a2 (by unfold W64;omega)) (fun _=>aA (df (by omega) c1 c2 (by unfold W64;omega)) (fun _=>au n true))))) (fun _=>au n false))) (fun ws _=>?_)
  unfold cx
  by_cases e:(plThrV pg st p pg.toNat (aF pg st c f) [] ws).2=true
  ·simp only[if_pos e,if_pos (And.intro hp e)]
  ·simp only[if_neg e];rw[if_neg (fun q=>e q.2)]
theorem nY (c:Int)(m:Nat):∀f,bJ n (eZ pg st c m f) (fun ws=>(dg pg st c m f ws,ws)):=by
 induction m with
 |zero=>intro f;exact au n (-1)
 |succ m ih =>
  intro f
  obtain⟨b0,b1,b2⟩:=bD (c:=c) (f:=f) H
  refine aU (aA (jM H b0 b1) (fun q=>bE (fun _=>ih (f+1)) (fun _=>au n q))) (fun ws _=>?_)
  show _=(if bV pg (aF pg st c f) ws= -1 then dg pg st c m (f+1) ws else bV pg (aF pg st c f) ws,ws)
  by_cases e:bV pg (aF pg st c f) ws= -1
  ·simp only[if_pos e]
  ·simp only[if_neg e]
end
def dw (pg st a:Int):Prop:=bd st pg≤a∧a<bd st pg+62
theorem im {pg st c f:Int}(h:aF pg st c f≠0):dw pg st (aF pg st c f)∧0≤c∧c≤4∧1≤f∧f≤fV c:=by
 unfold aF at h⊢
 split
 ·rename_i g
  refine⟨?_,g.1,g.2.1,g.2.2.1,g.2.2.2⟩
  obtain⟨c0,c4,f1,fs⟩:=g
  have:c=0∨c=1∨c=2∨c=3∨c=4:=by omega
  unfold dw
  rcases this with rfl|rfl|rfl|rfl|rfl<;>simp[fV,fy] at fs⊢ <;>omega
 ·rename_i g;rw[if_neg g] at h;exact absurd rfl h
theorem IK {pg st c f c' f':Int}(h:aF pg st c f≠0)(e:aF pg st c f=aF pg st c' f'):c=c'∧f=f':=by
 have g:=(im h).2
 have g':=(im (e▸h)).2
 unfold aF at e
 rw[if_pos ⟨g.1,g.2.1,g.2.2.1,g.2.2.2⟩,if_pos ⟨g'.1,g'.2.1,g'.2.2.1,g'.2.2.2⟩] at e
 obtain⟨c0,c4,f1,fs⟩:=g
 obtain⟨d0,d4,k1,ks⟩:=g'
 have h1:c=0∨c=1∨c=2∨c=3∨c=4:=by omega
 have h2:c'=0∨c'=1∨c'=2∨c'=3∨c'=4:=by omega
 rcases h1 with rfl|rfl|rfl|rfl|rfl<;>rcases h2 with rfl|rfl|rfl|rfl|rfl<;>simp[fV,fy] at fs ks e⊢ <;>omega
def hd1:List Int→Int
 | []=>0
 |p::_=>p+1
def fS:List Int→Int
 | []=> -1
 |p::_=>p
theorem DV (l:List Int):hd1 l=fS l+1:=by cases l<;>rfl
def nxL:List Int→Int→Int
 | [],_=>0
 |x::t,p=>if x=p then hd1 t else nxL t p
def pvL:Int→List Int→Int→Int
 | _,[],_=>0
 |k,x::t,p=>if x=p then k else pvL (x+1) t p
theorem gd (l:List Int)(x:Int):cy (l++ [x])=x:=by simp[cy,List.getD]
theorem tO (x:Int)(l:List Int)(h:l≠ []):cy (x::l)=cy l:=by
 obtain⟨s,y,rfl⟩:∃s y,l=s++ [y]:=⟨l.dropLast,l.getLast h,(List.dropLast_concat_getLast h).symm⟩
 rw[gd,show x::(s++ [y])=(x::s)++ [y] from rfl,gd]
theorem vY (l m:List Int)(h:m≠ []):cy (l++m)=cy m:=by
 obtain⟨s,y,rfl⟩:∃s y,m=s++ [y]:=⟨m.dropLast,m.getLast h,(List.dropLast_concat_getLast h).symm⟩
 rw[gd,←List.append_assoc,gd]
theorem vZ (l:List Int)(h:l≠ []):cy l∈l:=by
 obtain⟨s,y,rfl⟩:∃s y,l=s++ [y]:=⟨l.dropLast,l.getLast h,(List.dropLast_concat_getLast h).symm⟩
 rw[gd];simp
theorem mw (u v:List Int)(r:Int)(h:r∉u):nxL (u++r::v) r=hd1 v:=by
 induction u with
 |nil=>show(if r=r then hd1 v else _)=_;rw[if_pos rfl]
 |cons x u ih =>
  show(if x=r then _ else nxL (u++r::v) r)=_
  rw[if_neg (fun e=>h (by simp[e])),ih (fun q=>h (by simp[q]))]
theorem Nx (u v:List Int)(r:Int)(h:r∉u):∀k,pvL k (u++r::v) r=if u= [] then k else cy u+1:=by
 induction u with
 |nil=>intro k;show(if r=r then k else _)=_;rw[if_pos rfl,if_pos rfl]
 |cons x u ih =>
  intro k
  show(if x=r then k else pvL (x+1) (u++r::v) r)=_
  rw[if_neg (fun e=>h (by simp[e])),ih (fun q=>h (by simp[q]))]
  by_cases hu:u= []
  ·subst hu;rfl
  ·rw[if_neg hu,if_neg (show ¬x::u= [] by simp),tO x u hu]
theorem nr (u v:List Int)(r:Int)(h:r∉u):pvL 0 (u++r::v) r=cy u+1:=by
 rw[Nx u v r h]
 split
 ·rename_i e;subst e;rfl
 ·rfl
theorem ko {l:List Int}{p:Int}(h:p∈l):∃s t,l=s++p::t∧p∉s:=by
 induction l with
 |nil=>cases h
 |cons x l ih =>
  by_cases e:x=p
  ·exact⟨[],l,by rw[e];rfl,by simp⟩
  ·obtain⟨s,t,rfl,hs⟩:=ih ((List.mem_cons.1 h).resolve_left (fun q=>e q.symm))
   exact⟨x::s,t,rfl,by simp only[List.mem_cons];rintro(q|q);exact e q.symm;exact hs q⟩
structure Ln (pg st:Int)(G:Int→List Int)(ws:List Int):Prop where
 head:∀a,dw pg st a→wAt ws a=hd1 (G a)
 page:∀a,dw pg st a→∀p∈G a,af pg p=true
 nodup:∀a,dw pg st a→(G a).Nodup
 apart:∀a b p,dw pg st a→dw pg st b→p∈G a→p∈G b→a=b
 next:∀a p,dw pg st a→p∈G a→wAt ws (nA pg st p)=nxL (G a) p
 prev:∀a p,dw pg st a→p∈G a→wAt ws (vA pg st p)=pvL 0 (G a) p
 free:∀p,af pg p=true→(∀a,dw pg st a→p∉G a)→wAt ws (nA pg st p)=0∧wAt ws (vA pg st p)=0
structure d6 (pg st:Int)(ws ws':List Int):Prop where
 len:ws'.length=ws.length
 off:∀i:Int,0≤i→¬dw pg st i→(∀p,af pg p=true→i≠nA pg st p∧i≠vA pg st p)→wAt ws' i=wAt ws i
theorem d6.refl (pg st:Int)(ws:List Int):d6 pg st ws ws:=⟨rfl,fun _ _ _ _=>rfl⟩
theorem d6.trans {pg st:Int}{a b c:List Int}(h:d6 pg st a b)(g:d6 pg st b c):d6 pg st a c:=⟨g.len.trans h.len,fun i h0 h1 h2=>(g.off i h0 h1 h2).trans (h.off i h0 h1 h2)⟩
theorem Ln.uniq {pg st:Int}{G:Int→List Int}{ws ws':List Int}(h:Ln pg st G ws)(g:Ln pg st G ws')(o:d6 pg st ws ws'):ws'=ws :=
 vI o.len (fun i h0 _=>by
  by_cases e:dw pg st i
  ·rw[h.head i e,g.head i e]
  by_cases e2:∃p,af pg p=true∧(i=nA pg st p∨i=vA pg st p)
  ·obtain⟨p,hp,hi⟩:=e2
   by_cases m:∃a,dw pg st a∧p∈G a
   ·obtain⟨a,ha,m⟩:=m
    rcases hi with rfl|rfl
    ·rw[h.next a p ha m,g.next a p ha m]
    ·rw[h.prev a p ha m,g.prev a p ha m]
   ·have m':∀a,dw pg st a→p∉G a:=fun a ha q=>m ⟨a,ha,q⟩
    rcases hi with rfl|rfl
    ·rw[(h.free p hp m').1,(g.free p hp m').1]
    ·rw[(h.free p hp m').2,(g.free p hp m').2]
  ·exact o.off i h0 e (fun p hp=>⟨fun q=>e2 ⟨p,hp,.inl q⟩,fun q=>e2 ⟨p,hp,.inr q⟩⟩))
section
variable {pg st:Int}{n:Nat}(H:cB pg st n)
include H
theorem qI {a:Int}(h:dw pg st a):4≤a∧a<n∧W64 a:=by
 have h1:=H.st1;have h2:=H.st2;have h3:=H.top62;have h4:=H.pg1;have h5:=H.pg2
 unfold dw bd W64 at *
 unfold aL aZ at *
 omega
theorem jN {a p:Int}(h:dw pg st a)(hp:af pg p=true):a≠nA pg st p∧a≠vA pg st p:=by
 have:=ax.1 hp;have h4:=H.pg1
 unfold dw bd at h
 unfold nA vA
 omega
theorem iM {p q:Int}(hp:af pg p=true)(hq:af pg q=true):nA pg st p≠vA pg st q:=by
 have:=ax.1 hp;have:=ax.1 hq
 unfold nA vA;omega
theorem KQ {x:Int}(h:af pg x=true):gW pg (x+1)=x:=by
 have:=ax.1 h;have h5:=H.pg2
 unfold gW
 rw[show IntKind.i64.wrap (x+1-1)=x by rw[show x+1-1=x by omega];exact az (by omega) (by omega),if_pos h]
theorem FC:gW pg 0= -1:=by
 unfold gW
 rw[show IntKind.i64.wrap (0-1)= -1 from az (by omega) (by omega),if_neg (by rw[sY.2 (by omega)];simp)]
theorem KR {l:List Int}(h:∀p∈l,af pg p=true):gW pg (hd1 l)=fS l:=by
 cases l with
 |nil=>exact FC H
 |cons x t=>exact KQ H (h x (by simp))
theorem rZ {l:List Int}{a:Int}{ws:List Int}(ha:0<a)(hw:wAt ws a=hd1 l)(h:∀p∈l,af pg p=true):bV pg a ws=fS l:=by
 unfold bV
 rw[if_neg (by omega),hw]
 exact KR H h
theorem Mo {l:List Int}(h:∀p∈l,af pg p=true)(hn:l.Nodup):l.length≤pg.toNat :=
 lN pg.toNat l hn (fun p hp=>by have:=ax.1 (h p hp);omega)
theorem IL {p a:Int}{G:Int→List Int}{ws:List Int}(L:Ln pg st G ws)(ha:dw pg st a)(m:Nat):∀(s t:List Int) (at':Int),G a=s++t→0<at'→wAt ws at'=hd1 t →
 (∀t1 t2,t=t1++p::t2→p∉t1→t1.length<m→plThrV pg st p m at' s ws=(s++t1,true)) ∧
 (p∉t→t.length≤m→(plThrV pg st p m at' s ws).1=s++t∧(p≠ -1→(plThrV pg st p m at' s ws).2=false)):=by
 induction m with
 |zero =>
  intro s t at' hG h0 hw
  refine⟨fun t1 t2 _ _ h=>absurd h (by omega),fun _ h=>?_⟩
  have:t= []:=List.length_eq_zero_iff.1 (by omega)
  subst this
  exact⟨by show s=s++ [];simp,fun _=>rfl⟩
 |succ m ih =>
  intro s t at' hG h0 hw
  have hpt:∀x∈t,af pg x=true:=fun x hx=>L.page a ha x (by rw[hG];simp[hx])
  have hl:=rZ H h0 hw hpt
  unfold plThrV
  rw[hl]
  cases t with
  |nil =>
   refine⟨fun t1 t2 e _ _=>by simp at e,fun _ _=>?_⟩
   rw[show fS []= -1 from rfl]
   by_cases e:(-1:Int)=p
   ·simp only[if_pos e];exact⟨by simp,fun q=>absurd e.symm q⟩
   ·simp only[if_neg e,if_true];exact⟨by simp,fun _=>by simp⟩
  |cons x t =>
   have hx:=hpt x (by simp)
   have hxp:=ax.1 hx
   have hxm:x∈G a:=by rw[hG];simp
   have hnd:=L.nodup a ha
   rw[hG] at hnd
   have hxs:x∉s:=fun q=>by
    have:=List.nodup_append.1 hnd
    exact this.2.2 x q x (by simp) rfl
   have hnx:wAt ws (nA pg st x)=hd1 t:=by rw[L.next a x ha hxm,hG,mw s t x hxs]
   have I:=ih (s++ [x]) t (nA pg st x) (by rw[hG];simp) (by have:=(eC H hx).1.1;omega) hnx
   show(∀t1 t2,x::t=t1++p::t2→p∉t1→t1.length<m+1→(if x=p then(s,true) else if x= -1 then(s,false) else plThrV pg st p m (nA pg st x) (s++ [x]) ws)=(s++t1,true))∧(p∉x::t→(x::t).length≤m+1→(if x=p then(s,true) else if x= -1 then(s,false) else plThrV pg st p m (nA pg st x) (s++ [x]) ws).1=s++x::t∧(p≠ -1→(if x=p then(s,true) else if x= -1 then(s,false) else plThrV pg st p m (nA pg st x) (s++ [x]) ws).2=false))
   refine⟨fun t1 t2 e hn hm=>?_,fun hn hm=>?_⟩
   ·cases t1 with
    |nil =>
     have:x=p:=by simp at e;exact e.1
     rw[if_pos this];simp
    |cons y t1 =>
     simp only[List.cons_append,List.cons.injEq] at e
     obtain⟨rfl,e⟩:=e
     rw[if_neg (fun q=>hn (by simp[q])),if_neg (by omega),I.1 t1 t2 e (fun q=>hn (by simp[q])) (by simp at hm;omega)]
     simp
   ·have hne:x≠p:=fun q=>hn (by simp[q])
    rw[if_neg hne,if_neg (by omega)]
    have:=I.2 (fun q=>hn (by simp[q])) (by simp at hm;omega)
    exact⟨by rw[this.1];simp,this.2⟩
theorem KU {p a:Int}{G:Int→List Int}{ws:List Int}(L:Ln pg st G ws)(ha:dw pg st a){s t:List Int}(hG:G a=s++p::t)(hs:p∉s):plThrV pg st p pg.toNat a [] ws=(s,true):=by
 have hl:=Mo H (L.page a ha) (L.nodup a ha)
 rw[hG] at hl
 simp at hl
 have:=(IL H (p:=p) L ha pg.toNat [] (G a) a rfl (by have:=(qI H ha).1;omega) (L.head a ha)).1 s t hG hs (by omega)
 simpa using this
theorem KY {p a:Int}{G:Int→List Int}{ws:List Int}(L:Ln pg st G ws)(ha:dw pg st a)(hp:p∉G a):(plThrV pg st p pg.toNat a [] ws).1=G a∧(p≠ -1→(plThrV pg st p pg.toNat a [] ws).2=false):=by
 have:=(IL H (p:=p) L ha pg.toNat [] (G a) a rfl (by have:=(qI H ha).1;omega) (L.head a ha)).2 hp (Mo H (L.page a ha) (L.nodup a ha))
 simpa using this
theorem IM {p:Int}(ws:List Int):(plThrV pg st p pg.toNat 0 [] ws).1= []∧(p≠ -1→(plThrV pg st p pg.toNat 0 [] ws).2=false):=by
 obtain⟨m,hm⟩:∃m,pg.toNat=m+1:=⟨pg.toNat-1,by have:=H.pg1;omega⟩
 rw[hm]
 have h0:bV pg 0 ws= -1:=by unfold bV;rw[if_pos rfl]
 unfold plThrV
 rw[h0]
 by_cases e:(-1:Int)=p
 ·rw[if_pos e];exact⟨rfl,fun q=>absurd e.symm q⟩
 ·rw[if_neg e,if_pos rfl];exact⟨rfl,fun _=>rfl⟩
theorem xN {h p q:Int}(hh:dw pg st h)(hp:p= -1∨af pg p=true)(hq:q= -1∨af pg q=true){ws:List Int}(hn:ws.length=n){i:Int}(hi:0≤i):
 wAt (cN pg st h p q ws) i=if q≠ -1∧i=vA pg st q then p+1 else if i=(if p= -1 then h else nA pg st p) then q+1 else wAt ws i:=by
 have hb:4≤(if p= -1 then h else nA pg st p)∧(if p= -1 then h else nA pg st p)<n:=by
  by_cases e:p= -1
  ·rw[if_pos e];exact⟨(qI H hh).1,(qI H hh).2.1⟩
  ·rw[if_neg e];have:=(eC H (hp.resolve_left e)).1;exact⟨this.1,this.2.1⟩
 unfold cN
 by_cases e:q= -1
 ·rw[if_pos e,dH (by omega) hi (by omega),if_neg (fun z:q≠ -1∧i=vA pg st q=>z.1 e)]
 ·have:=(eC H (hq.resolve_left e)).2
  rw[if_neg e,dH (by omega) hi (by simp;omega),dH (by omega) hi (by omega)]
  by_cases e2:i=vA pg st q
  ·rw[if_pos e2,if_pos ⟨e,e2⟩]
  ·rw[if_neg e2,if_neg (fun z:q≠ -1∧i=vA pg st q=>e2 z.2)]
theorem kq (h p q:Int)(ws:List Int):(cN pg st h p q ws).length=ws.length:=by unfold cN;split<;>simp
end
def ve (G:Int→List Int)(a:Int)(l:List Int):Int→List Int:=fun b=>if b=a then l else G b
theorem dr (G:Int→List Int)(a:Int)(l:List Int):ve G a l a=l:=if_pos rfl
theorem dB (G:Int→List Int)(a:Int)(l:List Int){b:Int}(h:b≠a):ve G a l b=G b:=if_neg h
section
variable {pg st:Int}{n:Nat}(H:cB pg st n)
include H
theorem KZ {c f p:Int}{G:Int→List Int}{ws:List Int}(L:Ln pg st G ws)(hn:ws.length=n)(hz:aF pg st c f≠0)(hp:af pg p=true)(hf:∀a,dw pg st a→p∉G a):
 Ln pg st (ve G (aF pg st c f) (p::G (aF pg st c f))) (eE pg st p c f ws).2∧d6 pg st ws (eE pg st p c f ws).2:=by
 have hv:eE pg st p c f ws=(true,cN pg st (aF pg st c f) (-1) p (cN pg st (aF pg st c f) p (bV pg (aF pg st c f) ws) ws)):=by unfold eE;rw[if_pos ⟨hz,hp⟩]
 have ha:=(im hz).1
 rw[hv]
 generalize aF pg st c f=a at ha hz
 show Ln pg st (ve G a (p::G a)) (cN pg st a (-1) p (cN pg st a p (bV pg a ws) ws))∧d6 pg st ws (cN pg st a (-1) p (cN pg st a p (bV pg a ws) ws))
 have ha4:=(qI H ha).1
 rw[rZ H (by omega) (L.head a ha) (L.page a ha)]
 have hq:fS (G a)= -1∨af pg (fS (G a))=true:=by
  cases e:G a with
  |nil=>exact .inl rfl
  |cons x t=>exact .inr (L.page a ha x (by rw[e];simp))
 have hpp:=ax.1 hp
 have hne:p≠ -1:=by omega
 have val:∀i:Int,0≤i→wAt (cN pg st a (-1) p (cN pg st a p (fS (G a)) ws)) i=if i=vA pg st p then 0 else if i=a then p+1 else if fS (G a)≠ -1∧i=vA pg st (fS (G a)) then p+1 else if i=nA pg st p then hd1 (G a) else wAt ws i:=fun i hi=>by
  rw[xN H ha (.inl rfl) (.inr hp) (by rw[kq H];exact hn) hi,xN H ha (.inr hp) hq hn hi,if_pos rfl,if_neg hne,DV]
  by_cases e:i=vA pg st p
  ·rw[if_pos ⟨hne,e⟩,if_pos e];omega
  ·rw[if_neg (fun z:p≠ -1∧i=vA pg st p=>e z.2),if_neg e]
 have hlen:(cN pg st a (-1) p (cN pg st a p (fS (G a)) ws)).length=ws.length:=by rw[kq H,kq H]
 generalize cN pg st a (-1) p (cN pg st a p (fS (G a)) ws)=xs at val hlen
 have hfa:=hf a ha
 have qmem:fS (G a)≠ -1→fS (G a)∈G a:=fun e=>by
  cases e2:G a with
  |nil=>rw[e2] at e;exact absurd rfl e
  |cons x t=>simp[fS]
 have pos1:=fun(b:Int) (hb:dw pg st b)=>(qI H hb).1
 have posn:=fun(r:Int) (hr:af pg r=true)=>(eC H hr).1.1
 have posv:=fun(r:Int) (hr:af pg r=true)=>(eC H hr).2.1
 have injn:∀r,nA pg st r=nA pg st p→r=p:=fun r e=>by unfold nA at e;omega
 have injv:∀r s,vA pg st r=vA pg st s→r=s:=fun r s e=>by unfold vA at e;omega
 refine⟨⟨fun b hb=>?_,fun b hb r hr=>?_,fun b hb=>?_,fun b b' r hb hb' hr hr'=>?_,fun b r hb hr=>?_,fun b r hb hr=>?_,fun r hr hno=>?_⟩,?_,fun i h0 h1 h2=>?_⟩
 ·have nv:=jN H hb hp
  rw[val b (by have:=pos1 b hb;omega),if_neg nv.2]
  by_cases e:b=a
  ·rw[if_pos e,e,dr];rfl
  ·rw[if_neg e,dB _ _ _ e,if_neg (fun z=>(jN H hb (L.page a ha _ (qmem z.1))).2 z.2),if_neg nv.1]
   exact L.head b hb
 ·by_cases e:b=a
  ·subst e
   rw[dr] at hr
   rcases List.mem_cons.1 hr with rfl|hr
   ·exact hp
   ·exact L.page b hb r hr
  ·rw[dB _ _ _ e] at hr;exact L.page b hb r hr
 ·by_cases e:b=a
  ·subst e
   rw[dr]
   exact List.nodup_cons.2 ⟨hfa,L.nodup b hb⟩
  ·rw[dB _ _ _ e];exact L.nodup b hb
 ·have cas:∀b,dw pg st b→r∈ve G a (p::G a) b→(b=a∧r=p)∨r∈G b:=fun b hb hr=>by
   by_cases e:b=a
   ·subst e
    rw[dr] at hr
    rcases List.mem_cons.1 hr with h|h
    ·exact .inl ⟨rfl,h⟩
    ·exact .inr h
   ·rw[dB _ _ _ e] at hr;exact .inr hr
  rcases cas b hb hr with⟨e,h⟩|h
  ·rcases cas b' hb' hr' with⟨e',_⟩|h'
   ·rw[e,e']
   ·rw[h] at h';exact absurd h' (hf b' hb')
  ·rcases cas b' hb' hr' with⟨e',h'⟩|h'
   ·rw[h'] at h;exact absurd h (hf b hb)
   ·exact L.apart b b' r hb hb' h h'
 ·have hrp:af pg r=true:=by
   by_cases e:b=a
   ·subst e
    rw[dr] at hr
    rcases List.mem_cons.1 hr with rfl|hr
    ·exact hp
    ·exact L.page b hb r hr
   ·rw[dB _ _ _ e] at hr;exact L.page b hb r hr
  have p0:=posn r hrp
  rw[val _ (by omega),if_neg (iM H hrp hp),if_neg (fun e=>(jN H ha hrp).1 e.symm),if_neg (fun z=>iM H hrp (L.page a ha _ (qmem z.1)) z.2)]
  by_cases e:r=p
  ·subst e
   have:b=a:=by
    rcases Classical.em (b=a) with h|h
    ·exact h
    ·rw[dB _ _ _ h] at hr;exact absurd hr (hf b hb)
   subst this
   rw[if_pos rfl,dr]
   exact(mw [] (G b) r (by simp)).symm
  ·rw[if_neg (fun z=>e (injn r z))]
   by_cases e2:b=a
   ·subst e2
    rw[dr] at hr⊢
    have hr:=(List.mem_cons.1 hr).resolve_left e
    rw[L.next b r hb hr]
    show _=if p=r then _ else nxL (G b) r
    rw[if_neg (fun z=>e z.symm)]
   ·rw[dB _ _ _ e2] at hr⊢
    exact L.next b r hb hr
 ·have hrp:af pg r=true:=by
   by_cases e:b=a
   ·subst e
    rw[dr] at hr
    rcases List.mem_cons.1 hr with rfl|hr
    ·exact hp
    ·exact L.page b hb r hr
   ·rw[dB _ _ _ e] at hr;exact L.page b hb r hr
  have p0:=posv r hrp
  rw[val _ (by omega)]
  by_cases e:r=p
  ·subst e
   have:b=a:=by
    rcases Classical.em (b=a) with h|h
    ·exact h
    ·rw[dB _ _ _ h] at hr;exact absurd hr (hf b hb)
   subst this
   rw[if_pos rfl,dr]
   exact(nr [] (G b) r (by simp)).symm
  ·rw[if_neg (fun z=>e (injv r p z)),if_neg (fun z=>(jN H ha hrp).2 z.symm)]
   by_cases e2:b=a
   ·subst e2
    rw[dr] at hr⊢
    have hr:=(List.mem_cons.1 hr).resolve_left e
    have e5:pvL 0 (p::G b) r=pvL (p+1) (G b) r:=by show(if p=r then 0 else pvL (p+1) (G b) r)=_;rw[if_neg (fun z=>e z.symm)]
    rw[e5]
    by_cases e3:r=fS (G b)
    ·have hq1:fS (G b)≠ -1:=by have:=ax.1 hrp;omega
     rw[if_pos ⟨hq1,by rw[e3]⟩]
     cases e4:G b with
     |nil=>rw[e4] at hr;cases hr
     |cons x t =>
      rw[e4] at e3
      have:x=r:=e3.symm
      show _=if x=r then p+1 else _
      rw[if_pos this]
    ·rw[if_neg (fun z=>e3 (injv _ _ z.2)),if_neg (fun z=>(iM H hp hrp) z.symm),L.prev b r hb hr]
     cases e4:G b with
     |nil=>rw[e4] at hr;cases hr
     |cons x t =>
      rw[e4] at e3
      have:x≠r:=fun z=>e3 z.symm
      show(if x=r then 0 else pvL (x+1) t r)=if x=r then p+1 else pvL (x+1) t r
      rw[if_neg this,if_neg this]
   ·rw[dB _ _ _ e2] at hr⊢
    rw[if_neg (fun z=>e2 (L.apart b a r hb ha hr (by rw[injv _ _ z.2];exact qmem z.1))),if_neg (fun z=>(iM H hp hrp) z.symm)]
    exact L.prev b r hb hr
 ·have hrne:r≠p:=fun e=>hno a ha (by rw[dr,e];simp)
  have hno':∀b,dw pg st b→r∉G b:=fun b hb q=>by
   by_cases e:b=a
   ·subst e;exact hno b hb (by rw[dr];simp[q])
   ·exact hno b hb (by rw[dB _ _ _ e];exact q)
  have:=L.free r hr hno'
  have p0:=posn r hr
  have p1:=posv r hr
  rw[val _ (by omega),val _ (by omega)]
  rw[if_neg (iM H hr hp),if_neg (fun z=>(jN H ha hr).1 z.symm),if_neg (fun z=>iM H hr (L.page a ha _ (qmem z.1)) z.2),if_neg (fun z=>hrne (injn r z))]
  rw[if_neg (fun z=>hrne (injv r p z)),if_neg (fun z=>(jN H ha hr).2 z.symm),if_neg (fun z=>hno' a ha (by rw[injv _ _ z.2];exact qmem z.1)),if_neg (fun z=>(iM H hp hr) z.symm)]
  exact this
 ·exact hlen
 ·rw[val i h0,if_neg (h2 p hp).2,if_neg (fun e=>h1 (by rw[e];exact ha)),if_neg (fun z=>(h2 _ (L.page a ha _ (qmem z.1))).2 z.2),if_neg (h2 p hp).1]
theorem FD {c f p:Int}{G:Int→List Int}{ws:List Int}(L:Ln pg st G ws)(hn:ws.length=n)(hz:aF pg st c f≠0){s t:List Int}(hG:G (aF pg st c f)=s++p::t)(hs:p∉s):
 (cx pg st p c f ws).1=true∧Ln pg st (ve G (aF pg st c f) (s++t)) (cx pg st p c f ws).2∧d6 pg st ws (cx pg st p c f ws).2:=by
 have ha:=(im hz).1
 have hpm:p∈G (aF pg st c f):=by rw[hG];simp
 have hp:=L.page _ ha p hpm
 have thr:=KU H L ha hG hs
 have hv:cx pg st p c f ws=(true,((cN pg st (aF pg st c f) (cy s) (bV pg (nA pg st p) ws) ws).set (nA pg st p).toNat 0).set (vA pg st p).toNat 0):=by
  unfold cx
  rw[thr,if_pos ⟨hp,rfl⟩]
 rw[hv]
 refine⟨rfl,?_⟩
 generalize aF pg st c f=a at ha hz hG hpm
 show Ln pg st (ve G a (s++t)) (((cN pg st a (cy s) (bV pg (nA pg st p) ws) ws).set (nA pg st p).toNat 0).set (vA pg st p).toNat 0)∧d6 pg st ws (((cN pg st a (cy s) (bV pg (nA pg st p) ws) ws).set (nA pg st p).toNat 0).set (vA pg st p).toNat 0)
 have hpgl:=L.page a ha
 have hnd:=L.nodup a ha
 rw[hG] at hpgl hnd
 have hna:=List.nodup_append.1 hnd
 have hpt:p∉t:=(List.nodup_cons.1 hna.2.1).1
 have hst:∀x,x∈s→x∉t:=fun x h1 h2=>hna.2.2 x h1 x (by simp[h2]) rfl
 have hnp:wAt ws (nA pg st p)=hd1 t:=by rw[L.next a p ha hpm,hG,mw s t p hs]
 obtain⟨⟨a0,a1,a2⟩,c0,c1,c2⟩:=eC H hp
 have htp:∀x∈t,af pg x=true:=fun x hx=>hpgl x (by simp[hx])
 have hsp:∀x∈s,af pg x=true:=fun x hx=>hpgl x (by simp[hx])
 rw[rZ H (by omega) hnp htp]
 have hq:fS t= -1∨af pg (fS t)=true:=by
  cases t with
  |nil=>exact .inl rfl
  |cons x t=>exact .inr (htp x (by simp))
 have hb:=kW H hsp
 have val:∀i:Int,0≤i→wAt (((cN pg st a (cy s) (fS t) ws).set (nA pg st p).toNat 0).set (vA pg st p).toNat 0) i=if i=vA pg st p then 0 else if i=nA pg st p then 0 else if fS t≠ -1∧i=vA pg st (fS t) then cy s+1 else if i=(if cy s= -1 then a else nA pg st (cy s)) then hd1 t else wAt ws i:=fun i hi=>by
  rw[dH (by omega) hi (by simp[kq H];omega),dH (by omega) hi (by rw[kq H];omega),xN H ha hb hq hn hi,DV]
 have hlen:(((cN pg st a (cy s) (fS t) ws).set (nA pg st p).toNat 0).set (vA pg st p).toNat 0).length=ws.length:=by simp[kq H]
 generalize ((cN pg st a (cy s) (fS t) ws).set (nA pg st p).toNat 0).set (vA pg st p).toNat 0=xs at val hlen
 have hpp:=ax.1 hp
 have pos1:=fun(b:Int) (hb:dw pg st b)=>(qI H hb).1
 have posn:=fun(r:Int) (hr:af pg r=true)=>(eC H hr).1.1
 have posv:=fun(r:Int) (hr:af pg r=true)=>(eC H hr).2.1
 have injn:∀r s,nA pg st r=nA pg st s→r=s:=fun r s e=>by unfold nA at e;omega
 have injv:∀r s,vA pg st r=vA pg st s→r=s:=fun r s e=>by unfold vA at e;omega
 have qmem:fS t≠ -1→fS t∈t:=fun e=>by
  cases t with
  |nil=>exact absurd rfl e
  |cons x t=>simp[fS]
 have bmem:cy s≠ -1→cy s∈s:=fun e=>vZ s (fun z=>by rw[z] at e;exact e rfl)
 have snil:cy s= -1→s= []:=fun e=>by
  rcases Classical.em (s= []) with z|z
  ·exact z
  ·have:=ax.1 (hsp _ (vZ s z));omega
 have mem':∀b r,dw pg st b→r∈ve G a (s++t) b→r∈G b∧r≠p:=fun b r hb hr=>by
  by_cases e:b=a
  ·subst e
   rw[dr] at hr
   refine⟨?_,fun z=>?_⟩
   ·rw[hG]
    rcases List.mem_append.1 hr with h|h<;>simp[h]
   ·rw[z] at hr
    rcases List.mem_append.1 hr with h|h
    ·exact hs h
    ·exact hpt h
  ·rw[dB _ _ _ e] at hr
   exact⟨hr,fun z=>e (L.apart b a p hb ha (z▸hr) hpm)⟩
 have qin:∀r,fS t≠ -1∧vA pg st r=vA pg st (fS t)→r∈t:=fun r z=>by rw[injv _ _ z.2];exact qmem z.1
 have ga:∀r,r∈s∨r∈t→r∈G a:=fun r h=>by rw[hG];rcases h with h|h<;>simp[h]
 refine⟨⟨fun b hb=>?_,fun b hb r hr=>L.page b hb r (mem' b r hb hr).1,fun b hb=>?_,fun b b' r hb hb' hr hr'=>L.apart b b' r hb hb' (mem' b r hb hr).1 (mem' b' r hb' hr').1,fun b r hb hr=>?_,fun b r hb hr=>?_,fun r hr hno=>?_⟩,hlen,fun i h0 h1 h2=>?_⟩
 ·have nv:=jN H hb hp
  rw[val b (by have:=pos1 b hb;omega),if_neg nv.2,if_neg nv.1,if_neg (fun z=>(jN H hb (htp _ (qmem z.1))).2 z.2)]
  by_cases e:b=a
  ·subst e
   rw[dr]
   by_cases e2:cy s= -1
   ·rw[if_pos e2,if_pos rfl,snil e2];rfl
   ·rw[if_neg e2,if_neg (jN H hb (hsp _ (bmem e2))).1,L.head b hb,hG]
    cases s with
    |nil=>exact absurd rfl e2
    |cons x s=>rfl
  ·rw[dB _ _ _ e]
   by_cases e2:cy s= -1
   ·rw[if_pos e2,if_neg e];exact L.head b hb
   ·rw[if_neg e2,if_neg (jN H hb (hsp _ (bmem e2))).1];exact L.head b hb
 ·by_cases e:b=a
  ·subst e
   rw[dr]
   refine List.nodup_append.2 ⟨hna.1,(List.nodup_cons.1 hna.2.1).2,fun x hx y hy z=>?_⟩
   subst z
   exact hst x hx hy
  ·rw[dB _ _ _ e];exact L.nodup b hb
 ·obtain⟨hr1,hrp⟩:=mem' b r hb hr
  have hrg:=L.page b hb r hr1
  have p0:=posn r hrg
  rw[val _ (by omega),if_neg (iM H hrg hp),if_neg (fun z=>hrp (injn _ _ z)),if_neg (fun z=>iM H hrg (htp _ (qmem z.1)) z.2)]
  have hh:nA pg st r≠a:=fun z=>(jN H ha hrg).1 z.symm
  by_cases e:b=a
  ·subst e
   rw[dr] at hr⊢
   by_cases e2:r=cy s
   ·have hs0:cy s≠ -1:=by rw[←e2];have:=ax.1 hrg;omega
    rw[if_neg hs0,if_pos (by rw[e2])]
    obtain⟨s',y,rfl⟩:∃s' y,s=s'++ [y]:=⟨s.dropLast,s.getLast (fun z=>hs0 (by rw[z];rfl)),(List.dropLast_concat_getLast _).symm⟩
    rw[gd] at e2
    subst e2
    have:r∉s':=fun q=>(List.nodup_append.1 hna.1).2.2 r q r (by simp) rfl
    rw[List.append_assoc]
    exact(mw s' t r this).symm
   ·have hif:nA pg st r≠(if cy s= -1 then b else nA pg st (cy s)):=by
     by_cases e3:cy s= -1
     ·rw[if_pos e3];exact hh
     ·rw[if_neg e3];exact fun z=>e2 (injn _ _ z)
    rw[if_neg hif,L.next b r hb hr1,hG]
    rcases List.mem_append.1 hr with h|h
    ·obtain⟨u,v,rfl,hu⟩:=ko h
     have hv:v≠ []:=fun z=>e2 (by rw[z,gd])
     obtain⟨y,v',rfl⟩:=List.exists_cons_of_ne_nil hv
     have h1:(u++r::y::v')++p::t=u++r::(y::(v'++p::t)):=by simp
     have h2:(u++r::y::v')++t=u++r::(y::(v'++t)):=by simp
     rw[h1,h2,mw u _ r hu,mw u _ r hu]
     rfl
    ·obtain⟨u,v,rfl,hu⟩:=ko h
     have hrs:r∉s:=fun q=>hst r q h
     have h1:s++p::(u++r::v)=(s++p::u)++r::v:=by simp
     have h2:s++(u++r::v)=(s++u)++r::v:=by simp
     rw[h1,h2,mw _ v r (by simp;exact⟨hrs,hrp,hu⟩),mw _ v r (by simp;exact⟨hrs,hu⟩)]
  ·rw[dB _ _ _ e] at hr⊢
   have hif:nA pg st r≠(if cy s= -1 then a else nA pg st (cy s)):=by
    by_cases e3:cy s= -1
    ·rw[if_pos e3];exact hh
    ·rw[if_neg e3];exact fun z=>e (L.apart b a r hb ha hr (by rw[injn _ _ z];exact ga _ (.inl (bmem e3))))
   rw[if_neg hif]
   exact L.next b r hb hr
 ·obtain⟨hr1,hrp⟩:=mem' b r hb hr
  have hrg:=L.page b hb r hr1
  have p0:=posv r hrg
  rw[val _ (by omega),if_neg (fun z=>hrp (injv _ _ z)),if_neg (fun z=>iM H hp hrg z.symm)]
  have hif:vA pg st r≠(if cy s= -1 then a else nA pg st (cy s)):=by
   by_cases e3:cy s= -1
   ·rw[if_pos e3];exact fun z=>(jN H ha hrg).2 z.symm
   ·rw[if_neg e3];exact fun z=>iM H (hsp _ (bmem e3)) hrg z.symm
  by_cases e:b=a
  ·subst e
   rw[dr] at hr⊢
   by_cases e2:fS t≠ -1∧vA pg st r=vA pg st (fS t)
   ·rw[if_pos e2]
    have hrt:=qin r e2
    have hr':=injv _ _ e2.2
    cases t with
    |nil=>cases hrt
    |cons x t' =>
     have:x=r:=hr'.symm
     subst this
     exact(nr s t' x (fun q=>hst x q (by simp))).symm
   ·rw[if_neg e2,if_neg hif,L.prev b r hb hr1,hG]
    rcases List.mem_append.1 hr with h|h
    ·obtain⟨u,v,rfl,hu⟩:=ko h
     have h1:(u++r::v)++p::t=u++r::(v++p::t):=by simp
     have h2:(u++r::v)++t=u++r::(v++t):=by simp
     rw[h1,h2,nr u _ r hu,nr u _ r hu]
    ·obtain⟨u,v,rfl,hu⟩:=ko h
     have hrs:r∉s:=fun q=>hst r q h
     have hun:u≠ []:=fun z=>e2 (by subst z;exact⟨by show r≠ -1;have:=ax.1 hrg;omega,rfl⟩)
     have h1:s++p::(u++r::v)=(s++p::u)++r::v:=by simp
     have h2:s++(u++r::v)=(s++u)++r::v:=by simp
     rw[h1,h2,nr _ v r (by simp;exact⟨hrs,hrp,hu⟩),nr _ v r (by simp;exact⟨hrs,hu⟩),vY s (p::u) (by simp),tO p u hun,vY s u hun]
  ·rw[dB _ _ _ e] at hr⊢
   rw[if_neg (fun z=>e (L.apart b a r hb ha hr (ga _ (.inr (qin r z))))),if_neg hif]
   exact L.prev b r hb hr
 ·have p0:=posn r hr
  have p1:=posv r hr
  rw[val _ (by omega),val _ (by omega)]
  by_cases e:r=p
  ·subst e
   rw[if_neg (iM H hr hr),if_pos rfl,if_pos rfl]
   exact⟨rfl,rfl⟩
  ·have hno':∀b,dw pg st b→r∉G b:=fun b hb q=>by
    by_cases e2:b=a
    ·subst e2
     refine hno b hb ?_
     rw[dr]
     rw[hG] at q
     rcases List.mem_append.1 q with h|h
     ·simp[h]
     ·simp[(List.mem_cons.1 h).resolve_left e]
    ·exact hno b hb (by rw[dB _ _ _ e2];exact q)
   have fr:=L.free r hr hno'
   have hif1:nA pg st r≠(if cy s= -1 then a else nA pg st (cy s)):=by
    by_cases e3:cy s= -1
    ·rw[if_pos e3];exact fun z=>(jN H ha hr).1 z.symm
    ·rw[if_neg e3];exact fun z=>hno' a ha (by rw[injn _ _ z];exact ga _ (.inl (bmem e3)))
   have hif2:vA pg st r≠(if cy s= -1 then a else nA pg st (cy s)):=by
    by_cases e3:cy s= -1
    ·rw[if_pos e3];exact fun z=>(jN H ha hr).2 z.symm
    ·rw[if_neg e3];exact fun z=>iM H (hsp _ (bmem e3)) hr z.symm
   rw[if_neg (iM H hr hp),if_neg (fun z=>e (injn _ _ z)),if_neg (fun z=>iM H hr (htp _ (qmem z.1)) z.2),if_neg hif1]
   rw[if_neg (fun z=>e (injv _ _ z)),if_neg (fun z=>iM H hp hr z.symm),if_neg (fun z=>hno' a ha (ga _ (.inr (qin r z)))),if_neg hif2]
   exact fr
 ·have hif:i≠(if cy s= -1 then a else nA pg st (cy s)):=by
   by_cases e3:cy s= -1
   ·rw[if_pos e3];exact fun z=>h1 (by rw[z];exact ha)
   ·rw[if_neg e3];exact(h2 _ (hsp _ (bmem e3))).1
  rw[val i h0,if_neg (h2 p hp).2,if_neg (h2 p hp).1,if_neg (fun z=>(h2 _ (htp _ (qmem z.1))).2 z.2),if_neg hif]
theorem we {c f p:Int}{G:Int→List Int}{ws:List Int}(L:Ln pg st G ws)(h:af pg p=true→aF pg st c f≠0→p∉G (aF pg st c f)):cx pg st p c f ws=(false,ws):=by
 unfold cx
 refine if_neg (fun z=>?_)
 have hp:=ax.1 z.1
 by_cases e:aF pg st c f=0
 ·have:=(IM H (p:=p) ws).2 (by omega)
  rw[e,this] at z
  cases z.2
 ·have:=(KY H L (im e).1 (h z.1 e)).2 (by omega)
  rw[this] at z
  cases z.2
end
theorem zq0 {pg st:Int}{n:Nat}(H:cB pg st n):Ln pg st (fun _=> []) (cJ n):=by
 have hz:∀i:Int,wAt (cJ n) i=0:=fun i=>by
  unfold wAt cJ
  simp only[List.getD,List.getElem?_replicate]
  split<;>rfl
 exact⟨fun a _=>hz a,fun a _ p h=>(by cases h),fun a _=>List.nodup_nil,fun a b p _ _ h=>(by cases h),fun a p _ h=>(by cases h),fun a p _ h=>(by cases h),fun p _ _=>⟨hz _,hz _⟩⟩
section
variable {pg st:Int}{n:Nat}(H:cB pg st n)
include H
end
structure InL (pg st:Int)(G:Int→List Int)(ins:List Int):Prop where
 len:ins.length=pg.toNat
 at':∀p,af pg p=true→(wAt ins p=0∧∀a,dw pg st a→p∉G a)∨(∃c f,aF pg st c f≠0∧p∈G (aF pg st c f)∧wAt ins p=100 * c+f)
section
variable {pg st:Int}{n:Nat}(H:cB pg st n)
include H
end
theorem d6.symm {pg st:Int}{a b:List Int}(h:d6 pg st a b):d6 pg st b a:=⟨h.len.symm,fun i h0 h1 h2=>(h.off i h0 h1 h2).symm⟩
structure Pw (pg st h:Int)(ps:List Int)(ws:List Int)(i:Nat)(ws':List Int):Prop where
 hd:wAt ws' h=if i=0 then 0 else hd1 ps
 nx:∀k,k<i→wAt ws' (nA pg st (ps.getD k 0))=if k+1<ps.length then ps.getD (k+1) 0+1 else 0
 pv:∀k,k<i→wAt ws' (vA pg st (ps.getD k 0))=if k=0 then 0 else ps.getD (k-1) 0+1
 off:∀x:Int,0≤x→x≠h→(∀k,k<i→x≠nA pg st (ps.getD k 0)∧x≠vA pg st (ps.getD k 0))→wAt ws' x=wAt ws x
section
variable {pg st:Int}{n:Nat}(H:cB pg st n)
include H
end
theorem DW {n:Nat}{zs:List Int}{D:List KV}(hz:OkW zs)(h:cC n D)(hn:zs.length=n):OkW (bZ zs D):=by
 subst hn
 intro x hx
 obtain⟨i,hi,rfl⟩:=List.getElem_of_mem hx
 have hl:i<zs.length:=by rw[dX] at hi;exact hi
 have h1:=yW (zs:=zs) h (a:=(i:Int)) (by omega) (by omega)
 have h2:wAt (bZ zs D) (i:Int)=(bZ zs D)[i]:=by simp[wAt,List.getD,hi]
 rw[←h2]
 exact Dr (jG hz) h.ok h1
theorem xO {ws:List Int}(h:OkW ws)(a:Int):W64 (wAt ws a):=by
 unfold wAt
 by_cases e:a.toNat<ws.length
 ·rw[List.getD,List.getElem?_eq_getElem e];exact h _ (List.getElem_mem e)
 ·rw[List.getD,List.getElem?_eq_none (by omega)];unfold W64;constructor<;>decide
theorem tP {α β:Type}{n:Nat}{p:Prg α}{f:α→Prg β}{g:List Int→α×List Int}{k:α→List Int→β×List Int}{Q:α→Prop}(h:bJ n p g)(hq:∀ws,ws.length=n→OkW ws→Q (g ws).1)(hf:∀x,Q x→bJ n (f x) (k x)):bJ n (ak p f) (fun ws=>k (g ws).1 (g ws).2):=fun zs D hn hz hD=>by
 obtain⟨D1,e1,a1,i1⟩:=h zs D hn hz hD
 obtain⟨D2,e2,a2,i2⟩:=hf (g (bZ zs D)).1 (hq _ (by rw[dX];exact hn) (DW hz hD hn)) zs D1 hn hz i1
 refine⟨D2,?_,?_,i2⟩
 ·rw[aj e1,e2,a1]
 ·rw[a2,a1]
def k7 (pg st k x:Int)(ws:List Int):Int×List Int :=
 if x= -1 then(if(iw pg st (jr pg st 1 1 ws) 1 (k+1) ws).1 then jr pg st 1 1 ws else -1,(iw pg st (jr pg st 1 1 ws) 1 (k+1) ws).2) else(x,ws)
def gF (pg st k:Int)(ws:List Int):Int×List Int:=if aw k=0 then(-1,ws) else k7 pg st k (dg pg st k (aw k).toNat 1 ws) ws
def qJ (pg st q k b:Int)(ws:List Int):List Int:=if dN k b=aw k then(DT pg st q ws).2 else(ws.set (bA pg st q).toNat b).set (cA pg st q).toNat (dN k b)
def my (pg st q k was:Int)(ws:List Int):List Int:=(eE pg st q k (cD pg st (cx pg st q k was ws).2 q) (cx pg st q k was ws).2).2
def gG (pg st q k was b:Int)(ws:List Int):List Int:=my pg st q k was (qJ pg st q k b ws)
def oG (us pg st k q:Int)(ws:List Int):(Int×Bool)×List Int :=
 if q= -1 then((0,false),ws) else if bP (cX pg st ws q) (aw k)= -1 then((0,false),ws)
 else((us+32 * q+bP (cX pg st ws q) (aw k) * szV k,true),gG pg st q k (cD pg st ws q) (setV (cX pg st ws q) (bP (cX pg st ws q) (aw k))) ws)
def cZ (us pg st k:Int)(ws:List Int):(Int×Bool)×List Int:=oG us pg st k (gF pg st k ws).1 (gF pg st k ws).2
def ld (pg st q wd x:Int)(ws:List Int):TkA :=
 if aw (IntKind.i64.wrap (x-1))=0 then none else if wd % szV (IntKind.i64.wrap (x-1))≠0 then none
 else some (q,IntKind.i64.wrap (x-1),wd / szV (IntKind.i64.wrap (x-1)),eK (cX pg st ws q) (wd / szV (IntKind.i64.wrap (x-1))))
def fj (us pg st a:Int)(ws:List Int):TkA:=if us≤a∧a<us+32 * pg then ld pg st ((a-us) / 32) ((a-us) % 32) (aV pg st ws ((a-us) / 32)) ws else none
def xP (pg st:Int)(x:Option (Int×Int×Int))(ws:List Int):Bool×List Int :=
 match x with
 |some (q,k,i)=>(true,gG pg st q k (cD pg st ws q) (clearV (cX pg st ws q) i) ws)
 |none=>(false,ws)
def gR (us pg st a:Int)(ws:List Int):Bool×List Int:=xP pg st (fo (fj us pg st a ws)) ws
def Cp:Option (Int×Int×Int)→Int×Bool
 |some (_,k,_)=>(k,true)
 |none=>(0,false)
def mC (us pg st a:Int)(ws:List Int):Int×Bool:=Cp (fo (fj us pg st a ws))
def tQ (pg st k:Int)(ws:List Int):Bool:=dg pg st k (aw k).toNat 1 ws != -1
section
variable {pg st:Int}{n:Nat}(H:cB pg st n)
include H
theorem jt {q:Int}(hq:af pg q=true):(0≤cA pg st q∧cA pg st q<n∧W64 (cA pg st q))∧0≤bA pg st q∧bA pg st q<n∧W64 (bA pg st q):=by
 obtain⟨_,⟨b0,b1,b2⟩,c0,c1,c2⟩:=cj H.toPgIn hq
 exact⟨⟨by omega,b1,b2⟩,by omega,c1,c2⟩
theorem FF (k:Int)(m:Nat)(ws:List Int):∀f,dg pg st k m f ws= -1∨af pg (dg pg st k m f ws)=true:=by
 induction m with
 |zero=>intro f;exact .inl rfl
 |succ m ih =>
  intro f
  show(if _ then _ else _)= -1∨af pg (if _ then _ else _)=true
  split
  ·exact ih _
  ·exact tN H _ _
theorem zQ {k:Int}(hk:0≤k∧k≤4)(x:Int):bJ n (if x= -1 then ak (kR pg st 1 1) (fun y=>ak (jm pg st y 1 (k+1)) fun b=>ay (if b then y else -1)) else ay x) (k7 pg st k x):=by
 unfold k7
 exact bE (fun _=>aA (Fv H.toPgIn 1 1) fun y=>aA (Fs H.toPgIn y 1 (k+1) (by unfold W64;omega) vR) fun b=>au n _) (fun _=>au n x)
theorem Cq (k:Int):bJ n (kY pg st k) (gF pg st k):=by
 unfold kY gF
 exact bE (fun _=>au n _) (fun h=>aA (nY H k _ 1) fun x=>zQ H (fe h) x)
theorem FH {y m k:Int}{ws:List Int}(h:(iw pg st y m k ws).1=true):af pg y=true:=by
 unfold iw at h
 split at h
 ·rename_i e
  simp at e
  have:=(tM.1 e.2).1
  have:=dW.1 this
  exact ax.2 ⟨by omega,by omega⟩
 ·cases h
theorem K5 (k:Int)(ws:List Int):(gF pg st k ws).1= -1∨af pg (gF pg st k ws).1=true:=by
 unfold gF
 split
 ·exact .inl rfl
 ·unfold k7
  split
  ·show(if _ then _ else _)= -1∨af pg (if _ then _ else _)=true
   split
   ·rename_i e;exact .inr (FH H e)
   ·exact .inl rfl
  ·exact FF H k _ ws 1
theorem tT {q k b:Int}(hq:af pg q=true)(hb:W64 b):bJ n (gD pg st q k b) (fun ws=>((),qJ pg st q k b ws)):=by
 obtain⟨⟨b0,b1,b2⟩,c0,c1,c2⟩:=jt H hq
 unfold gD
 refine aU (bE (fun _=>aA (Ft H.toPgIn q) fun _=>au n ()) (fun _=>aA (df c0 c1 c2 hb) fun _=>aA (df b0 b1 b2 (x:=dN k b) (by have:=cnt_b b k;unfold W64;omega)) fun _=>au n _)) (fun ws _=>?_)
 unfold qJ
 split<;>rfl
theorem tU {q:Int}(hq:af pg q=true)(k was:Int):bJ n (iI pg st q k was) (fun ws=>((),my pg st q k was ws)):=by
 obtain⟨⟨b0,b1,b2⟩,_⟩:=jt H hq
 exact aA (vd H q k was) fun _=>aA (dV b0 b1) fun f=>aA (zP H q k f) fun _=>au n ()
theorem Cr (us k:Int){q:Int}(hq:q= -1∨af pg q=true):bJ n (if q= -1 then ay (0,false) else ak (cS (bA pg st q)) fun b =>
 if bP b (aw k)= -1 then ay (0,false) else ak (cS (cA pg st q)) fun was =>
  ak (gD pg st q k (setV b (bP b (aw k)))) fun _=>ak (iI pg st q k was) fun _=>ay (us+32 * q+bP b (aw k) * szV k,true)) (oG us pg st k q):=by
 unfold oG
 refine bE (fun _=>au n _) (fun h=>?_)
 have hq:=hq.resolve_left h
 obtain⟨⟨b0,b1,b2⟩,c0,c1,c2⟩:=jt H hq
 refine aU (tP (Q:=W64) (dV c0 c1) (fun ws _ ho=>xO ho _) fun b hb=>bE (fun _=>au n ((0:Int),false)) fun _=>aA (dV b0 b1) fun was=>aA (tT H hq (rY hb _)) fun _=>aA (tU H hq k was) fun _=>au n (us+32 * q+bP b (aw k) * szV k,true)) (fun ws _=>?_)
 rfl
theorem qK (us k:Int):bJ n (km us pg st k) (cZ us pg st k):=
 gc (Q:=fun q=>q= -1∨af pg q=true) (Cq H k) (fun ws _=>K5 H k ws) fun q hq=>Cr H us k hq
theorem zR {q:Int}(hq:af pg q=true)(wd x:Int):bJ n (jp pg st q wd x) (fun ws=>(ld pg st q wd x ws,ws)):=by
 obtain⟨_,c0,c1,c2⟩:=jt H hq
 unfold jp
 refine aU (bE (fun _=>au n _) (fun _=>bE (fun _=>au n _) (fun _=>aA (dV c0 c1) fun b=>au n _))) (fun ws _=>?_)
 unfold ld
 split
 ·rfl
 ·split<;>rfl
theorem zS {q:Int}(hq:af pg q=true)(wd:Int):bJ n (ak (fh pg st q) fun x=>jp pg st q wd x) (fun ws=>(ld pg st q wd (aV pg st ws q) ws,ws)):=
 aU (aA (np H.toPgIn q) fun x=>zR H hq wd x) (fun ws _=>rfl)
theorem tV (us a:Int):bJ n (fR us pg st a) (fun ws=>(fj us pg st a ws,ws)):=by
 unfold fR
 generalize hq:(a-us) / 32=q
 generalize hw:(a-us) % 32=wd
 refine aU (bE (fun h=>zS H (by rw[←hq];exact(ni h).1) wd) (fun _=>au n (none:TkA))) (fun ws _=>?_)
 unfold fj
 rw[hq,hw]
 split<;>rfl
theorem K6 {us a:Int}{ws:List Int}{q k i:Int}{t:Bool}(h:fj us pg st a ws=some (q,k,i,t)):af pg q=true∧0≤k∧k≤4:=by
 unfold fj at h
 split at h
 ·rename_i hin
  unfold ld at h
  split at h
  ·cases h
  ·rename_i hz
   split at h
   ·cases h
   ·cases h
    have:=fe hz
    exact⟨(ni hin).1,this.1,this.2⟩
 ·cases h
theorem vg {q:Int}(hq:af pg q=true)(k i:Int):bJ n (mh pg st q k i) (fun ws=>(true,gG pg st q k (cD pg st ws q) (clearV (cX pg st ws q) i) ws)):=by
 obtain⟨⟨b0,b1,b2⟩,c0,c1,c2⟩:=jt H hq
 refine aU (aA (dV b0 b1) fun was=>tP (Q:=W64) (dV c0 c1) (fun ws _ ho=>xO ho _) fun b hb=>aA (tT H hq (kl hb i)) fun _=>aA (tU H hq k was) fun _=>au n true) (fun ws _=>?_)
 rfl
theorem zT (x:Option (Int×Int×Int))(hx:∀q k i,x=some (q,k,i)→af pg q=true):bJ n (Cg pg st x) (xP pg st x):=by
 cases x with
 |none=>exact au n _
 |some y =>
  obtain⟨q,k,i⟩:=y
  exact vg H (hx q k i rfl) k i
theorem wg (us a:Int):bJ n (rn us pg st a) (gR us pg st a):=
 gc (k:=fun x ws=>xP pg st (fo x) ws) (Q:=fun x:TkA=>∀q k i t,x=some (q,k,i,t)→af pg q=true) (tV H us a) (fun ws _ q k i t e=>(K6 H e).1) fun x hx=>zT H _ fun q k i e=>hx q k i true (gZ e)
theorem Cs (x:Option (Int×Int×Int)):bJ n (tE x) (fun ws=>(Cp x,ws)):=by
 cases x with
 |none=>exact au n _
 |some y=>exact au n _
theorem qL (us a:Int):bJ n (mg us pg st a) (fun ws=>(mC us pg st a ws,ws)):=
 aA (k:=fun x ws=>(Cp (fo x),ws)) (tV H us a) fun x=>Cs H _
theorem FJ (k:Int):bJ n (ma pg st k) (fun ws=>(tQ pg st k ws,ws)):=aA (nY H k _ 1) fun x=>au n _
end
theorem mD (j:Nat):eJ 0 j=false:=by simp[eJ,xD]
theorem lf {k:Int} :((endN (aw k):Nat):Int)=aw k:=by
 have:=eL k
 unfold endN;omega
theorem FM (k:Int):dN k 0=aw k:=by
 have:onN 0 (endN (aw k))= []:=List.filter_eq_nil_iff.2 (fun j _=>by rw[mD];simp)
 unfold dN dv
 rw[this];simp
theorem tW {b k:Int}{j:Nat}(hj:(j:Int)<aw k)(hb:eJ b j=false):dN k (setV b (j:Int))=dN k b-1:=by
 have hs:=eL k
 have he:=lf (k:=k)
 have:=Nl (w:=b) (i:=(j:Int)) (xE (by omega)) (by simpa using hb) (endN (aw k)) (xF _)
 rw[if_pos (by omega)] at this
 unfold dN dv
 omega
theorem Ct {b k:Int}(h:1≤dN k b):∃j:Nat,bP b (aw k)=(j:Int)∧(j:Int)<aw k∧eJ b j=false∧dN k (setV b (j:Int))=dN k b-1:=by
 have he:=lf (k:=k)
 rcases Fh b (endN (aw k)) with⟨_,ha⟩|⟨j,hj,e,hb,_⟩
 ·have:=Nk ha
  unfold dN dv at h
  omega
 ·exact⟨j,e,by omega,hb,tW (by omega) hb⟩
theorem Cu {k:Int}(h:aw k≠0):bP 0 (aw k)=0:=by
 have hs:=eL k
 have he:=lf (k:=k)
 exact na (w:=0) (k:=endN (aw k)) (j:=0) (by omega) (mD 0) (fun i hi=>by omega)
theorem Cv {b k i:Int}(hw:W64 b)(h0:0≤i)(h1:i<aw k)(h:eK b i=true):dN k (clearV b i)=dN k b+1:=by
 have hs:=eL k
 have hi:inR i=true:=(eV i).2 ⟨h0,by omega⟩
 obtain⟨j,rfl⟩:∃j:Nat,i=(j:Int):=⟨i.toNat,by omega⟩
 have hb:eJ (clearV b (j:Int)) j=false:=by
  have:=vP (w:=b) hi
  unfold eK at this
  rw[hi] at this
  simpa using this
 have e:=tW (b:=clearV b (j:Int)) (k:=k) h1 hb
 rw[Fg hw.1 hw.2 hi h] at e
 omega
def NoL (pg st i:Int):Prop:=¬dw pg st i∧∀p,af pg p=true→i≠nA pg st p∧i≠vA pg st p
section
variable {pg st:Int}{n:Nat}(H:cB pg st n)
include H
theorem DX {q:Int}(h:af pg q=true):NoL pg st (kA pg st q):=by
 have:=ax.1 h
 refine⟨fun z=>?_,fun p hp=>?_⟩
 ·unfold dw bd kA at z;omega
 ·have:=ax.1 hp;unfold kA nA vA;omega
theorem zU {q:Int}(h:af pg q=true):NoL pg st (cA pg st q):=by
 have:=ax.1 h
 refine⟨fun z=>?_,fun p hp=>?_⟩
 ·unfold dw bd cA at z;omega
 ·have:=ax.1 hp;unfold cA nA vA;omega
theorem zV {q:Int}(h:af pg q=true):NoL pg st (bA pg st q):=by
 have:=ax.1 h
 refine⟨fun z=>?_,fun p hp=>?_⟩
 ·unfold dw bd bA at z;omega
 ·have:=ax.1 hp;unfold bA nA vA;omega
theorem IP {j:Int}(h:bR pg j=true):NoL pg st (dT pg st j):=by
 have:=cY.1 h
 have h1:=H.pg1
 rw[lO h]
 refine⟨fun z=>?_,fun p hp=>?_⟩
 ·unfold dw bd at z;omega
 ·have:=ax.1 hp;unfold nA vA;omega
theorem d6.kind {a b:List Int}(o:d6 pg st a b)(p:Int):aV pg st b p=aV pg st a p:=by
 cases h:af pg p with
 |false=>rw[iy h,iy h]
 |true =>
  have h0:=(cj H.toPgIn h).1.1
  rw[jL h,jL h,o.off _ (by omega) (DX H h).1 (DX H h).2]
theorem d6.cnt {a b:List Int}(o:d6 pg st a b){p:Int}(h:af pg p=true):cD pg st b p=cD pg st a p :=
 o.off _ (jt H h).1.1 (zU H h).1 (zU H h).2
theorem d6.bit {a b:List Int}(o:d6 pg st a b){p:Int}(h:af pg p=true):cX pg st b p=cX pg st a p :=
 o.off _ (jt H h).2.1 (zV H h).1 (zV H h).2
theorem d6.map {a b:List Int}(o:d6 pg st a b)(j:Int):bK pg st b j=bK pg st a j:=by
 unfold bK
 cases h:bR pg j with
 |false=>rfl
 |true =>
  have h0:=(pl H.toTblIn h).1
  rw[o.off _ (by omega) (IP H h).1 (IP H h).2]
theorem Ln.same {G:Int→List Int}{a b:List Int}(L:Ln pg st G a)(h:∀i,0≤i→¬NoL pg st i→wAt b i=wAt a i):Ln pg st G b:=by
 have hh:∀i,dw pg st i→wAt b i=wAt a i:=fun i hi=>h i (by have:=(qI H hi).1;omega) (fun z=>z.1 hi)
 have hn:∀p,af pg p=true→wAt b (nA pg st p)=wAt a (nA pg st p)∧wAt b (vA pg st p)=wAt a (vA pg st p):=fun p hp =>
  ⟨h _ (by have:=(eC H hp).1.1;omega) (fun z=>(z.2 p hp).1 rfl),h _ (by have:=(eC H hp).2.1;omega) (fun z=>(z.2 p hp).2 rfl)⟩
 refine⟨fun i hi=>by rw[hh i hi];exact L.head i hi,L.page,L.nodup,L.apart,fun i p hi hp=>?_,fun i p hi hp=>?_,fun p hp hf=>?_⟩
 ·rw[(hn p (L.page i hi p hp)).1];exact L.next i p hi hp
 ·rw[(hn p (L.page i hi p hp)).2];exact L.prev i p hi hp
 ·rw[(hn p hp).1,(hn p hp).2];exact L.free p hp hf
structure Mod (pg st:Int)(n:Nat)(q f':Int)(T:List Int→List Int):Prop where
 len:∀a,a.length=n→(T a).length=n
 off:∀a b,a.length=n→b.length=n→d6 pg st a b→d6 pg st (T a) (T b)
 no:∀a,a.length=n→∀i,0≤i→¬NoL pg st i→wAt (T a) i=wAt a i
 cnt:∀a,a.length=n→cD pg st (T a) q=f'
def gq (pg st q b f:Int)(ws:List Int):List Int:=(ws.set (bA pg st q).toNat b).set (cA pg st q).toNat f
theorem iV {q:Int}(h:af pg q=true)(b f:Int){ws:List Int}(hn:ws.length=n){i:Int}(hi:0≤i):wAt (gq pg st q b f ws) i=if i=cA pg st q then f else if i=bA pg st q then b else wAt ws i:=by
 obtain⟨⟨b0,b1,_⟩,c0,c1,_⟩:=jt H h
 unfold gq
 rw[dH b0 hi (by simp[hn];exact b1),dH c0 hi (by rw[hn];exact c1)]
theorem tX {q:Int}(h:af pg q=true)(b f:Int):Mod pg st n q f (gq pg st q b f):=by
 refine⟨fun a e=>by simp[gq,e],fun a a' e e' o=>⟨by simp[gq,e,e'],fun i h0 h1 h2=>?_⟩,fun a e i h0 h1=>?_,fun a e=>?_⟩
 ·rw[iV H h b f e' h0,iV H h b f e h0,o.off i h0 h1 h2]
 ·have k1:i≠cA pg st q:=fun z=>h1 (by rw[z];exact zU H h)
  have k2:i≠bA pg st q:=fun z=>h1 (by rw[z];exact zV H h)
  rw[iV H h b f e h0,if_neg k1,if_neg k2]
 ·show wAt (gq pg st q b f a) (cA pg st q)=f
  rw[iV H h b f e (jt H h).1.1,if_pos rfl]
theorem IQ {q:Int}(h:af pg q=true)(k x:Int):Mod pg st n q x (fF pg st q k x):=by
 refine⟨fun a e=>by rw[fa H.toPgIn];exact e,fun a a' e e' o=>⟨by rw[fa H.toPgIn,fa H.toPgIn,e,e'],fun i h0 h1 h2=>?_⟩,fun a e i h0 h1=>?_,fun a e=>?_⟩
 ·rw[il H.toPgIn h k x e' h0,il H.toPgIn h k x e h0,o.off i h0 h1 h2]
 ·have k1:i≠cA pg st q:=fun z=>h1 (by rw[z];exact zU H h)
  have k2:i≠bA pg st q:=fun z=>h1 (by rw[z];exact zV H h)
  have k3:i≠kA pg st q:=fun z=>h1 (by rw[z];exact DX H h)
  rw[il H.toPgIn h k x e h0,if_neg k2,if_neg k1,if_neg k3]
 ·rw[mt H.toPgIn h k x e h,if_pos rfl]
def zW (pg st:Int)(G:Int→List Int)(k f:Int)(s t:List Int):Int→List Int:=if aF pg st k f=0 then G else ve G (aF pg st k f) (s++t)
def IR (pg st:Int)(G:Int→List Int)(q k f:Int):Int→List Int:=if aF pg st k f=0 then G else ve G (aF pg st k f) (q::G (aF pg st k f))
theorem IT {q k f:Int}(hq:af pg q=true){G:Int→List Int}{ws:List Int}(L:Ln pg st G ws)(hn:ws.length=n)(hf:∀a,dw pg st a→q∉G a):
 Ln pg st (IR pg st G q k f) (eE pg st q k f ws).2∧d6 pg st ws (eE pg st q k f ws).2:=by
 unfold IR
 by_cases hz:aF pg st k f=0
 ·have e:eE pg st q k f ws=(false,ws):=by unfold eE;exact if_neg (fun z=>z.1 hz)
  rw[if_pos hz,e]
  exact⟨L,d6.refl _ _ _⟩
 ·rw[if_neg hz]
  exact KZ H L hn hz hq hf
theorem IU {q k f:Int}{G:Int→List Int}{s t:List Int}(hin:aF pg st k f≠0→G (aF pg st k f)=s++q::t∧q∉s){ws:List Int}(L:Ln pg st G ws)(hn:ws.length=n):
 Ln pg st (zW pg st G k f s t) (cx pg st q k f ws).2∧d6 pg st ws (cx pg st q k f ws).2:=by
 unfold zW
 by_cases hz:aF pg st k f=0
 ·rw[if_pos hz,we H L (fun _ z=>absurd hz z)]
  exact⟨L,d6.refl _ _ _⟩
 ·rw[if_neg hz]
  obtain⟨h1,h2⟩:=hin hz
  exact(FD H L hn hz h1 h2).2
theorem O2 {q k f f':Int}{T:List Int→List Int}(M:Mod pg st n q f' T)(hq:af pg q=true){G:Int→List Int}{ws:List Int}(L:Ln pg st G ws)(hn:ws.length=n)
 (hin:∀a,dw pg st a→(q∈G a↔aF pg st k f=a)):
 ∃G1 G2,Ln pg st G1 (cx pg st q k f ws).2∧d6 pg st ws (cx pg st q k f ws).2∧(cx pg st q k f ws).2.length=n∧(∀a,dw pg st a→q∉G1 a) ∧
  Ln pg st G2 (my pg st q k f (T ws))∧d6 pg st (T ws) (my pg st q k f (T ws)) ∧
  (eE pg st q k f' (T (cx pg st q k f ws).2)).2=my pg st q k f (T ws) ∧
  (∀a p,dw pg st a→p≠q→(p∈G2 a↔p∈G a))∧∀a,dw pg st a→(q∈G2 a↔aF pg st k f'=a):=by
 obtain⟨s,t,hst⟩:∃s t,aF pg st k f≠0→G (aF pg st k f)=s++q::t∧q∉s:=by
  by_cases hz:aF pg st k f=0
  ·exact⟨[],[],fun z=>absurd hz z⟩
  ·obtain⟨s,t,h1,h2⟩:=ko ((hin _ (im hz).1).2 rfl)
   exact⟨s,t,fun _=>⟨h1,h2⟩⟩
 have m1:∀a,dw pg st a→q∉zW pg st G k f s t a:=fun a ha hm=>by
  unfold zW at hm
  by_cases hz:aF pg st k f=0
  ·rw[if_pos hz] at hm
   have:=(hin a ha).1 hm
   rw[hz] at this
   have:=(qI H ha).1
   omega
  ·rw[if_neg hz] at hm
   obtain⟨h1,h2⟩:=hst hz
   by_cases e:a=aF pg st k f
   ·subst e
    rw[dr] at hm
    have nd:=L.nodup _ (im hz).1
    rw[h1] at nd
    rcases List.mem_append.1 hm with z|z
    ·exact h2 z
    ·exact(List.nodup_cons.1 (List.nodup_append.1 nd).2.1).1 z
   ·rw[dB _ _ _ e] at hm
    exact e ((hin a ha).1 hm).symm
 have m2:∀a p,dw pg st a→p≠q→(p∈zW pg st G k f s t a↔p∈G a):=fun a p ha hp=>by
  unfold zW
  by_cases hz:aF pg st k f=0
  ·rw[if_pos hz]
  ·rw[if_neg hz]
   obtain⟨h1,h2⟩:=hst hz
   by_cases e:a=aF pg st k f
   ·subst e
    rw[dr,h1]
    simp[hp]
   ·rw[dB _ _ _ e]
 obtain⟨L1,o1⟩:=IU H hst L hn
 have hB:(T ws).length=n:=M.len _ hn
 have LB:Ln pg st G (T ws):=L.same H (M.no ws hn)
 obtain⟨L2,o2⟩:=IU H hst LB hB
 have n1:(cx pg st q k f ws).2.length=n:=o1.len.trans hn
 have n2:(cx pg st q k f (T ws)).2.length=n:=o2.len.trans hB
 have ec:cD pg st (cx pg st q k f (T ws)).2 q=f':=by rw[o2.cnt H hq,M.cnt ws hn]
 have em:my pg st q k f (T ws)=(eE pg st q k f' (cx pg st q k f (T ws)).2).2:=by unfold my;rw[ec]
 obtain⟨L3,o3⟩:=IT H (k:=k) (f:=f') hq L2 n2 m1
 have LT:Ln pg st (zW pg st G k f s t) (T (cx pg st q k f ws).2):=L1.same H (M.no _ n1)
 obtain⟨L4,o4⟩:=IT H (k:=k) (f:=f') hq LT (M.len _ n1) m1
 have oB:=o2.trans o3
 have oY:=(M.off _ _ hn n1 o1).trans o4
 refine⟨_,IR pg st (zW pg st G k f s t) q k f',L1,o1,n1,m1,by rw[em];exact L3,by rw[em];exact oB,?_,fun a p ha hp=>?_,fun a ha=>?_⟩
 ·rw[em]
  exact Ln.uniq L3 L4 (oB.symm.trans oY)
 ·rw[←m2 a p ha hp]
  unfold IR
  by_cases hz:aF pg st k f'=0
  ·rw[if_pos hz]
  ·rw[if_neg hz]
   by_cases e:a=aF pg st k f'
   ·subst e;rw[dr];simp[hp]
   ·rw[dB _ _ _ e]
 ·unfold IR
  by_cases hz:aF pg st k f'=0
  ·rw[if_pos hz]
   exact⟨fun z=>absurd z (m1 a ha),fun z=>by have:=(qI H ha).1;omega⟩
  ·rw[if_neg hz]
   by_cases e:a=aF pg st k f'
   ·subst e;rw[dr];simp
   ·rw[dB _ _ _ e]
    exact⟨fun z=>absurd z (m1 a ha),fun z=>absurd z.symm e⟩
end
structure PgF (pg st:Int)(G:Int→List Int)(ws:List Int):Prop where
 kd:∀p,af pg p=true→0≤aV pg st ws p∧aV pg st ws p≤5
 free:∀p,af pg p=true→aV pg st ws p=0→cD pg st ws p=0∧cX pg st ws p=0
 map:∀p,af pg p=true→aV pg st ws p≠0→bK pg st ws (p / 4)=true
 cnt:∀p,af pg p=true→1≤aV pg st ws p→cD pg st ws p=dN (aV pg st ws p-1) (cX pg st ws p)∧cD pg st ws p<aw (aV pg st ws p-1)
 mem:∀a p,dw pg st a→(p∈G a↔af pg p=true∧1≤aV pg st ws p∧aF pg st (aV pg st ws p-1) (cD pg st ws p)=a)
structure PgW (pg st:Int)(G:Int→List Int)(ws:List Int):Prop where
 ln:Ln pg st G ws
 f:PgF pg st G ws
section
variable {pg st:Int}{n:Nat}(H:cB pg st n)
include H
theorem PgF.off {G:Int→List Int}{a b:List Int}(F:PgF pg st G a)(o:d6 pg st a b):PgF pg st G b:=by
 refine⟨fun p hp=>by rw[o.kind H];exact F.kd p hp,fun p hp=>by rw[o.kind H,o.cnt H hp,o.bit H hp];exact F.free p hp,fun p hp=>by rw[o.kind H,o.map H];exact F.map p hp,fun p hp=>by rw[o.kind H,o.cnt H hp,o.bit H hp];exact F.cnt p hp,fun x p hx=>?_⟩
 rw[F.mem x p hx]
 constructor
 ·rintro⟨h1,h2,h3⟩
  exact⟨h1,by rw[o.kind H];exact h2,by rw[o.kind H,o.cnt H h1];exact h3⟩
 ·rintro⟨h1,h2,h3⟩
  rw[o.kind H] at h2
  rw[o.kind H,o.cnt H h1] at h3
  exact⟨h1,h2,h3⟩
theorem PgF.turn {G G2:Int→List Int}{a b:List Int}(F:PgF pg st G a){q:Int}(hq:af pg q=true){k f c:Int}
 (hk:∀p,af pg p=true→aV pg st b p=if p=q then k else aV pg st a p) (hc:∀p,af pg p=true→cD pg st b p=if p=q then f else cD pg st a p) (hb:∀p,af pg p=true→cX pg st b p=if p=q then c else cX pg st a p)
 (hm:∀p,af pg p=true→p≠q→bK pg st a (p / 4)=true→bK pg st b (p / 4)=true) (hmq:k≠0→bK pg st b (q / 4)=true)
 (k0:0≤k∧k≤5) (kf:k=0→f=0∧c=0) (kc:1≤k→f=dN (k-1) c∧f<aw (k-1))
 (g1:∀x p,dw pg st x→p≠q→(p∈G2 x↔p∈G x)) (g2:∀x,dw pg st x→(q∈G2 x↔1≤k∧aF pg st (k-1) f=x)):PgF pg st G2 b:=by
 refine⟨fun p hp=>?_,fun p hp=>?_,fun p hp=>?_,fun p hp=>?_,fun x p hx=>?_⟩
 ·rw[hk p hp];split
  ·exact k0
  ·exact F.kd p hp
 ·rw[hk p hp,hc p hp,hb p hp];split
  ·exact kf
  ·exact F.free p hp
 ·rw[hk p hp];split
  ·rename_i e;rw[e];exact hmq
  ·rename_i e;exact fun z=>hm p hp e (F.map p hp z)
 ·rw[hk p hp,hc p hp,hb p hp];split
  ·exact kc
  ·exact F.cnt p hp
 ·by_cases e:p=q
  ·subst e
   rw[g2 x hx,hk p hq,hc p hq,if_pos rfl,if_pos rfl]
   exact⟨fun z=>⟨hq,z⟩,fun z=>z.2⟩
  ·rw[g1 x p hx e,F.mem x p hx]
   constructor
   ·rintro⟨h1,h2⟩
    rw[hk p h1,hc p h1,if_neg e,if_neg e];exact⟨h1,h2⟩
   ·rintro⟨h1,h2⟩
    rw[hk p h1,hc p h1,if_neg e,if_neg e] at h2;exact⟨h1,h2⟩
theorem iZ {q:Int}(h:af pg q=true)(b f:Int){ws:List Int}(hn:ws.length=n)(p:Int):aV pg st (gq pg st q b f ws) p=aV pg st ws p:=by
 cases hp:af pg p with
 |false=>rw[iy hp,iy hp]
 |true =>
  have h0:=(cj H.toPgIn hp).1.1
  have:=ax.1 h;have:=ax.1 hp
  rw[jL hp,jL hp,iV H h b f hn (by omega),if_neg (by unfold kA cA;omega),if_neg (by unfold kA bA;omega)]
theorem kr {q:Int}(h:af pg q=true)(b f:Int){ws:List Int}(hn:ws.length=n){p:Int}(hp:af pg p=true):cD pg st (gq pg st q b f ws) p=if p=q then f else cD pg st ws p:=by
 have:=ax.1 h;have:=ax.1 hp
 unfold cD
 rw[iV H h b f hn (jt H hp).1.1]
 by_cases e:p=q
 ·rw[if_pos e,if_pos (by rw[e])]
 ·rw[if_neg e,if_neg (by unfold cA;omega),if_neg (by unfold cA bA;omega)]
theorem kt {q:Int}(h:af pg q=true)(b f:Int){ws:List Int}(hn:ws.length=n){p:Int}(hp:af pg p=true):cX pg st (gq pg st q b f ws) p=if p=q then b else cX pg st ws p:=by
 have:=ax.1 h;have:=ax.1 hp
 unfold cX
 rw[iV H h b f hn (jt H hp).2.1,if_neg (by unfold cA bA;omega)]
 by_cases e:p=q
 ·rw[if_pos e,if_pos (by rw[e])]
 ·rw[if_neg e,if_neg (by unfold bA;omega)]
theorem ku {q:Int}(h:af pg q=true)(b f:Int){ws:List Int}(hn:ws.length=n)(j:Int):bK pg st (gq pg st q b f ws) j=bK pg st ws j:=by
 unfold bK
 cases hj:bR pg j with
 |false=>rfl
 |true =>
  have h0:=(pl H.toTblIn hj).1
  obtain⟨t0,t1,t2⟩:=ms H.toPgIn hj h
  rw[iV H h b f hn (by omega),if_neg t1,if_neg t2]
theorem Ny {G:Int→List Int}{ws:List Int}(L:Ln pg st G ws){k f:Int}(h0:aF pg st k f≠0):bV pg (aF pg st k f) ws=fS (G (aF pg st k f)):=by
 have ha:=(im h0).1
 have:=(qI H ha).1
 exact rZ H (by omega) (L.head _ ha) (L.page _ ha)
theorem IV {G:Int→List Int}{ws:List Int}(L:Ln pg st G ws){k:Int}(hk:0≤k∧k≤4)(m:Nat):∀f:Int,1≤f→f+m=aw k+1 →
 (dg pg st k m f ws= -1∧∀x,f≤x→x≤aw k→G (aF pg st k x)= []) ∨
 ∃x t,f≤x∧x≤aw k∧aF pg st k x≠0∧G (aF pg st k x)=dg pg st k m f ws::t∧∀y,f≤y→y<x→G (aF pg st k y)= []:=by
 have hs:=Fi hk
 have hh:∀x,1≤x→x≤aw k→aF pg st k x≠0:=fun x h1 h2=>by
  have h3:=H.st1;have h4:=H.pg1
  unfold aF;rw[if_pos ⟨hk.1,hk.2,h1,by omega⟩]
  unfold bd aZ aL fy
  (repeat' split)<;>omega
 induction m with
 |zero=>intro f h1 h2;exact .inl ⟨rfl,fun x h3 h4=>by omega⟩
 |succ m ih =>
  intro f h1 h2
  have hz:=hh f h1 (by omega)
  have hl:=Ny H L hz
  show(((if bV pg (aF pg st k f) ws= -1 then dg pg st k m (f+1) ws else bV pg (aF pg st k f) ws)= -1)∧_)∨∃x t,f≤x∧x≤aw k∧aF pg st k x≠0∧G (aF pg st k x)=(if bV pg (aF pg st k f) ws= -1 then dg pg st k m (f+1) ws else bV pg (aF pg st k f) ws)::t∧_
  rw[hl]
  cases hG:G (aF pg st k f) with
  |nil =>
   rw[show fS ([]:List Int)= -1 from rfl,if_pos rfl]
   rcases ih (f+1) (by omega) (by omega) with⟨h3,h4⟩|⟨x,t,h3,h4,h5,h6,h7⟩
   ·refine .inl ⟨h3,fun x h5 h6=>?_⟩
    by_cases e:x=f
    ·rw[e];exact hG
    ·exact h4 x (by omega) h6
   ·refine .inr ⟨x,t,by omega,h4,h5,h6,fun y h8 h9=>?_⟩
    by_cases e:y=f
    ·rw[e];exact hG
    ·exact h7 y (by omega) h9
  |cons p t =>
   have hp:=ax.1 (L.page _ (im hz).1 p (by rw[hG];simp))
   rw[show fS (p::t)=p from rfl,if_neg (by omega)]
   exact .inr ⟨f,t,Int.le_refl _,by omega,hz,hG,fun y h8 h9=>by omega⟩
theorem IW (ws:List Int):(jr pg st 1 1 ws= -1∧∀p,af pg p=true→aV pg st ws p≠0)∨(af pg (jr pg st 1 1 ws)=true∧aV pg st ws (jr pg st 1 1 ws)=0):=by
 have h1:=H.pg1
 have key:∀f:Int→Bool,(mn f pg 1 1= -1∧∀p,af pg p=true→f p=false)∨(af pg (mn f pg 1 1)=true∧f (mn f pg 1 1)=true):=fun f=>by
  rcases Cn (f:=f) (pg:=pg) (m:=1) (step:=1) (by omega) (by omega) (pg.toNat+1) 0 0 rfl (by omega) (by omega) with⟨e,hn⟩|⟨k,e,h0,hh,_⟩
  ·refine .inl ⟨e,fun p hp=>?_⟩
   have hp:=ax.1 hp
   cases hf:f p with
   |false=>rfl
   |true =>
    refine absurd ?_ (hn p (by omega))
    rw[Int.mul_one]
    exact⟨by omega,fun i i0 i1=>by rw[show i=p by omega];exact hf⟩
  ·rw[Int.mul_one] at e hh h0
   have e:mn f pg 1 1=k:=e
   rw[e]
   exact .inr ⟨ax.2 ⟨h0,by have:=hh.1;omega⟩,hh.2 k (by omega) (by omega)⟩
 unfold jr
 rw[if_pos ⟨by omega,by omega⟩]
 rcases key (tI pg st ws) with⟨e,hn⟩|⟨e,hf⟩
 ·rw[if_pos e]
  rcases key (vV pg st ws) with⟨e2,hn2⟩|⟨e2,hf2⟩
  ·refine .inl ⟨e2,fun p hp=>?_⟩
   have:=hn2 p hp
   simpa [vV] using this
  ·refine .inr ⟨e2,?_⟩
   simpa [vV] using hf2
 ·have:=ax.1 e
  rw[if_neg (by omega)]
  refine .inr ⟨e,?_⟩
  simp[tI] at hf
  exact hf.2
theorem IX {y k:Int}(hk:0≤k∧k≤4){ws:List Int}(hn:ws.length=n)(hy:af pg y=true)(h0:aV pg st ws y=0):(iw pg st y 1 (k+1) ws).1=true∧II pg st y 1 (k+1) ws (iw pg st y 1 (k+1) ws).2:=by
 have hp:=ax.1 hy
 have ht:ce pg y 1=true:=dW.2 ⟨hp.1,by omega,by omega⟩
 have hv:tH pg st y 1 ws=true:=tM.2 ⟨ht,fun i i0 i1=>by rw[show i=y by omega];exact h0⟩
 have hf:ow (k+1) 1=true:=Kr.2 (.inr ⟨by omega,by omega,rfl⟩)
 have T:=Fy H.toPgIn (p:=y) (m:=1) (k:=k+1) hn ht
 unfold iw
 rw[hf,hv]
 exact⟨rfl,T⟩
theorem K7 {y m k:Int}{a b:List Int}(T:II pg st y m k a b):∀i,0≤i→¬NoL pg st i→wAt b i=wAt a i:=fun i h0 h1 =>
 T.off i h0 (fun p hp=>⟨fun z=>h1 (by rw[z];exact DX H hp),fun z=>h1 (by rw[z];exact zU H hp),fun z=>h1 (by rw[z];exact zV H hp)⟩) (fun j hj z=>h1 (by rw[z];exact IP H hj))
theorem pJ {α:Type}{p:Prg α}{g:List Int→α×List Int}(hF:bJ n p g){ws:List Int}(hn:ws.length=n)(ho:OkW ws):OkW (g ws).2∧(g ws).2.length=n:=by
 obtain⟨D,_,a,i⟩:=hF ws [] hn ho (ea _)
 have a:bZ ws D=(g ws).2:=a
 rw[←a]
 exact⟨DW ho i hn,by rw[dX];exact hn⟩
end
section
variable {pg st:Int}{n:Nat}(H:cB pg st n)
include H
theorem tY (us:Int){k:Int}(h:aw k=0)(ws:List Int):cZ us pg st k ws=((0,false),ws):=by
 unfold cZ gF
 rw[if_pos h]
 unfold oG
 rw[if_pos rfl]
theorem FO {m k:Int}(ws:List Int):iw pg st (-1) m k ws=(false,ws):=by
 have:tH pg st (-1) m ws=false:=by
  cases e:tH pg st (-1) m ws with
  |false=>rfl
  |true=>have:=dW.1 (tM.1 e).1;omega
 unfold iw
 rw[this]
 simp
theorem tZ (us:Int){k:Int}(hs:aw k≠0){ws:List Int}(h1:dg pg st k (aw k).toNat 1 ws= -1)(h2:jr pg st 1 1 ws= -1):cZ us pg st k ws=((0,false),ws):=by
 have e:gF pg st k ws=(-1,ws):=by
  unfold gF k7
  rw[if_neg hs,h1,if_pos rfl,h2,FO H]
  rfl
 unfold cZ
 rw[e]
 unfold oG
 rw[if_pos rfl]
theorem FP {k:Int}(hs:aw k≠0){ws:List Int}{q:Int}(h1:dg pg st k (aw k).toNat 1 ws=q)(hq:q≠ -1):gF pg st k ws=(q,ws):=by
 unfold gF k7
 rw[if_neg hs,h1,if_neg hq]
theorem FQ {k:Int}(hs:aw k≠0){ws:List Int}{y:Int}(h1:dg pg st k (aw k).toNat 1 ws= -1)(h2:jr pg st 1 1 ws=y)(h3:(iw pg st y 1 (k+1) ws).1=true):gF pg st k ws=(y,(iw pg st y 1 (k+1) ws).2):=by
 unfold gF k7
 rw[if_neg hs,h1,if_pos rfl,h2,h3]
 rfl
theorem ua {q k b f:Int}(ho:dN k b=f)(hf:f≠aw k)(ws:List Int):qJ pg st q k b ws=gq pg st q b f ws:=by
 unfold qJ gq
 rw[if_neg (by rw[ho];exact hf),ho]
structure pK (pg st:Int)(n:Nat)(q k f f':Int)(T:List Int→List Int)(ws:List Int)(G G1 G2:Int→List Int)(u X:List Int):Prop where
 eu:(cx pg st q k f ws).2=u
 l1:Ln pg st G1 u
 nu:u.length=n
 o1:d6 pg st ws u
 m1:∀a,dw pg st a→q∉G1 a
 lt:Ln pg st G1 (T u)
 nt:(T u).length=n
 eX:(eE pg st q k f' (T u)).2=X
 eM:my pg st q k f (T ws)=X
 l2:Ln pg st G2 X
 o2:d6 pg st (T ws) X
 m2:∀a p,dw pg st a→p≠q→(p∈G2 a↔p∈G a)
 m3:∀a,dw pg st a→(q∈G2 a↔aF pg st k f'=a)
theorem xQ {q k f f':Int}{T:List Int→List Int}(M:Mod pg st n q f' T)(hq:af pg q=true){G:Int→List Int}{ws:List Int}(L:Ln pg st G ws)(hn:ws.length=n)
 (hin:∀a,dw pg st a→(q∈G a↔aF pg st k f=a)):∃G1 G2 u X,pK pg st n q k f f' T ws G G1 G2 u X:=by
 obtain⟨G1,G2,h1,h2,h3,h4,h5,h6,h7,h8,h9⟩:=O2 H M hq L hn hin
 exact⟨G1,G2,_,_,⟨rfl,h1,h3,h2,h4,h1.same H (M.no _ h3),M.len _ h3,h7,rfl,h5,h6,h8,h9⟩⟩
theorem zX (us:Int){k:Int}(hs:aw k≠0){G:Int→List Int}{ws:List Int}(P:PgW pg st G ws)(hn:ws.length=n){q:Int}(h1:dg pg st k (aw k).toNat 1 ws=q)(hq:q≠ -1):
 ∃(j:Nat) (G1 G2:Int→List Int) (u X:List Int),af pg q=true∧aV pg st ws q=k+1∧1≤cD pg st ws q∧(∀y,1≤y→y<cD pg st ws q→G (aF pg st k y)= []) ∧
  bP (cX pg st ws q) (aw k)=(j:Int)∧(j:Int)<aw k∧eJ (cX pg st ws q) j=false ∧
  pK pg st n q k (cD pg st ws q) (cD pg st ws q-1) (gq pg st q (setV (cX pg st ws q) j) (cD pg st ws q-1)) ws G G1 G2 u X ∧
  cZ us pg st k ws=((us+32 * q+j * szV k,true),X)∧PgW pg st G2 X:=by
 have hk:=fe hs
 obtain⟨L,F⟩:=P
 rcases IV H L hk (aw k).toNat 1 (by omega) (by have:=eL k;omega) with⟨e,_⟩|⟨x,t,x1,x2,hz,hG,hno⟩
 ·exact absurd (h1.symm.trans e) hq
 rw[h1] at hG
 have ha:=(im hz).1
 have hm:=(F.mem _ q ha).1 (by rw[hG];simp)
 obtain⟨hqp,hk1,hh⟩:=hm
 have hkb:=F.kd q hqp
 have hc:=F.cnt q hqp hk1
 have inj:=IK hz hh.symm
 have ek:aV pg st ws q=k+1:=by omega
 have ef:cD pg st ws q=x:=inj.2.symm
 rw[ek] at hc
 have hop:dN k (cX pg st ws q)=cD pg st ws q:=by rw[hc.1];congr 1;omega
 obtain⟨j,hj1,hj2,hj3,hj4⟩:=Ct (b:=cX pg st ws q) (k:=k) (by omega)
 have hlt:cD pg st ws q<aw k:=by have:=hc.2;rwa [show k+1-1=k by omega] at this
 obtain⟨G1,G2,u,X,M⟩:=xQ H (tX H hqp (setV (cX pg st ws q) j) (cD pg st ws q-1)) hqp L hn (k:=k) (f:=cD pg st ws q) (fun a h=>by
  rw[F.mem a q h,ek,show k+1-1=k by omega]
  exact⟨fun z=>z.2.2,fun z=>⟨hqp,by omega,z⟩⟩)
 refine⟨j,G1,G2,u,X,hqp,ek,by omega,fun y y1 y2=>hno y y1 (by omega),hj1,hj2,hj3,M,?_,M.l2,?_⟩
 ·unfold cZ
  rw[FP H hs h1 hq]
  unfold oG
  rw[if_neg hq,if_neg (by rw[hj1];omega),hj1]
  unfold gG
  rw[ua H (f:=cD pg st ws q-1) (by rw[hj4,hop]) (by omega),M.eM]
 ·refine PgF.off H (a:=gq pg st q (setV (cX pg st ws q) j) (cD pg st ws q-1) ws) ?_ M.o2
  refine F.turn H hqp (k:=k+1) (f:=cD pg st ws q-1) (c:=setV (cX pg st ws q) j) (fun p hp=>?_) (fun p hp=>kr H hqp _ _ hn hp) (fun p hp=>kt H hqp _ _ hn hp) (fun p _ _ h=>by rw[ku H hqp _ _ hn];exact h) (fun _=>by rw[ku H hqp _ _ hn];exact F.map q hqp (by omega)) (by omega) (by omega) (fun _=>?_) M.m2 (fun a h=>?_)
  ·rw[iZ H hqp _ _ hn];split
   ·rename_i e;rw[e];exact ek
   ·rfl
  ·rw[show k+1-1=k by omega,hj4,hop];omega
  ·rw[M.m3 a h,show k+1-1=k by omega]
   exact⟨fun z=>⟨by omega,z⟩,fun z=>z.2⟩
theorem zY (us:Int){k:Int}(hs:aw k≠0){G:Int→List Int}{ws:List Int}(P:PgW pg st G ws)(hn:ws.length=n){y:Int}(h1:dg pg st k (aw k).toNat 1 ws= -1)(h2:jr pg st 1 1 ws=y)(hy:y≠ -1):
 ∃(G1 G2:Int→List Int) (w1 X:List Int),af pg y=true∧aV pg st ws y=0∧iw pg st y 1 (k+1) ws=(true,w1)∧II pg st y 1 (k+1) ws w1∧w1.length=n∧Ln pg st G w1 ∧
  pK pg st n y k 0 (aw k-1) (gq pg st y (setV 0 0) (aw k-1)) w1 G G1 G2 w1 X ∧
  cZ us pg st k ws=((us+32 * y,true),X)∧PgW pg st G2 X:=by
 have hk:=fe hs
 have hsl:=eL k
 obtain⟨L,F⟩:=P
 have hfy:=(IW H ws).resolve_left (fun z=>hy (h2.symm.trans z.1))
 rw[h2] at hfy
 obtain⟨hyp,hk0⟩:=hfy
 obtain⟨t1,T⟩:=IX H hk hn hyp hk0
 obtain⟨w1,ew⟩:∃w1,(iw pg st y 1 (k+1) ws).2=w1:=⟨_,rfl⟩
 rw[ew] at T
 have n1:w1.length=n:=T.len.trans hn
 have L1:Ln pg st G w1:=L.same H (K7 H T)
 have hno:∀a,dw pg st a→y∉G a:=fun a h z=>by have:=((F.mem a y h).1 z).2.1;omega
 have hb1:cX pg st w1 y=0:=by rw[T.bit y hyp,if_pos (by omega)]
 have hc1:cD pg st w1 y=0:=by rw[T.cnt y hyp,if_pos rfl,if_neg (by omega)]
 have hz0:aF pg st k 0=0:=by unfold aF;rw[if_neg (by omega)]
 have hos:dN k (setV 0 0)=aw k-1:=by
  have:=tW (b:=0) (k:=k) (j:=0) (by omega) (mD 0)
  rw[FM] at this
  exact this
 obtain⟨G1,G2,u,X,M⟩:=xQ H (tX H hyp (setV 0 0) (aw k-1)) hyp L1 n1 (k:=k) (f:=0) (fun a h=>⟨fun z=>absurd z (hno a h),fun z=>by have:=(qI H h).1;omega⟩)
 have eu:u=w1:=by rw[←M.eu,we H L1 (fun _ z=>absurd hz0 z)]
 subst eu
 refine⟨G1,G2,u,X,hyp,hk0,Prod.ext t1 ew,T,n1,L1,M,?_,M.l2,?_⟩
 ·unfold cZ
  rw[FQ H hs h1 h2 t1,ew]
  unfold oG
  rw[if_neg hy]
  show(if bP (cX pg st u y) (aw k)= -1 then _ else _)=_
  rw[hb1,Cu hs,if_neg (by omega),hc1]
  unfold gG
  rw[ua H (f:=aw k-1) hos (by omega),M.eM]
  simp
 ·refine PgF.off H (a:=gq pg st y (setV 0 0) (aw k-1) u) ?_ M.o2
  refine F.turn H hyp (k:=k+1) (f:=aw k-1) (c:=setV 0 0) (fun p hp=>?_) (fun p hp=>?_) (fun p hp=>?_) (fun p hp hne h=>?_) (fun _=>?_) (by omega) (by omega) (fun _=>?_) M.m2 (fun a h=>?_)
  ·rw[iZ H hyp _ _ n1,T.kind]
   by_cases e:p=y
   ·rw[if_pos e,if_pos e]
   ·rw[if_neg e,if_neg e,if_neg (by omega)]
  ·rw[kr H hyp _ _ n1 hp,T.cnt p hp]
   by_cases e:p=y
   ·rw[if_pos e,if_pos e]
   ·rw[if_neg e,if_neg e,if_neg e,if_neg (by omega)]
  ·rw[kt H hyp _ _ n1 hp,T.bit p hp]
   by_cases e:p=y
   ·rw[if_pos e,if_pos e]
   ·rw[if_neg e,if_neg e,if_neg (by omega)]
  ·rw[ku H hyp _ _ n1,T.map _ (zM hp),h];rfl
  ·rw[ku H hyp _ _ n1,T.map _ (zM hyp)]
   simp
  ·rw[show k+1-1=k by omega,hos]
   exact⟨rfl,by omega⟩
  ·rw[M.m3 a h,show k+1-1=k by omega]
   exact⟨fun z=>⟨by omega,z⟩,fun z=>z.2⟩
theorem ud {us a:Int}{G:Int→List Int}{ws:List Int}(F:PgF pg st G ws){q k i:Int}{t:Bool}(h:fj us pg st a ws=some (q,k,i,t)):
 af pg q=true∧aV pg st ws q=k+1∧0≤k∧k≤4∧0≤i∧i<aw k∧t=eK (cX pg st ws q) i∧a=us+32 * q+i * szV k:=by
 unfold fj at h
 split at h
 ·rename_i hin
  obtain⟨hq,hw⟩:=ni hin
  have hkd:=F.kd _ hq
  have hwr:IntKind.i64.wrap (aV pg st ws ((a-us) / 32)-1)=aV pg st ws ((a-us) / 32)-1:=az (by omega) (by omega)
  unfold ld at h
  rw[hwr] at h
  split at h
  ·cases h
  ·rename_i hz
   split at h
   ·cases h
   ·rename_i hm
    have hk:=fe hz
    obtain⟨z,hzk⟩:∃z:Nat,aV pg st ws ((a-us) / 32)-1=(z:Int):=⟨_,(Int.toNat_of_nonneg hk.1).symm⟩
    simp only[Option.some.injEq,Prod.mk.injEq] at h
    obtain⟨rfl,rfl,rfl,rfl⟩:=h
    rw[hzk] at hk hm⊢
    have hsb:=KE (k:=z) (by omega)
    have hm:(a-us) % 32 % szV (z:Int)=0:=by simpa using hm
    have hsz:=rh (k:=z) (by omega)
    have hd:=Int.emod_add_mul_ediv ((a-us) % 32) (szV (z:Int))
    rw[hm] at hd
    refine⟨hq,by omega,hk.1,hk.2,Int.ediv_nonneg hw.1 (by omega),?_,rfl,?_⟩
    ·have hz4:z=0∨z=1∨z=2∨z=3∨z=4:=by omega
     generalize (a-us) % 32=wd at hw hm⊢
     rcases hz4 with rfl|rfl|rfl|rfl|rfl
     ·show wd / 1<32;omega
     ·show wd / 2<16;omega
     ·show wd / 4<8;omega
     ·show wd / 8<4;omega
     ·show wd / 16<2;omega
    ·rw[Int.mul_comm ((a-us) % 32 / szV (z:Int)) (szV (z:Int))]
     omega
 ·cases h
theorem zZ (us:Int){a:Int}{G:Int→List Int}{ws:List Int}(P:PgW pg st G ws)(hn:ws.length=n)(ho:OkW ws){q k i:Int}(h:fo (fj us pg st a ws)=some (q,k,i)):
 af pg q=true∧aV pg st ws q=k+1∧0≤k∧k≤4∧0≤i∧i<aw k∧eK (cX pg st ws q) i=true∧a=us+32 * q+i * szV k∧0≤cD pg st ws q∧cD pg st ws q<aw k ∧
 (cD pg st ws q+1≠aw k→∃G1 G2 u X,pK pg st n q k (cD pg st ws q) (cD pg st ws q+1) (gq pg st q (clearV (cX pg st ws q) i) (cD pg st ws q+1)) ws G G1 G2 u X∧gR us pg st a ws=(true,X)∧PgW pg st G2 X) ∧
 (cD pg st ws q+1=aw k→∃G1 G2 u X,pK pg st n q k (cD pg st ws q) 0 (fF pg st q 0 0) ws G G1 G2 u X∧gR us pg st a ws=(true,X)∧PgW pg st G2 X):=by
 obtain⟨L,F⟩:=P
 obtain⟨hq,ek,k0,k4,i0,i1,ht,ha⟩:=ud H F (gZ h)
 have hc:=F.cnt q hq (by omega)
 rw[ek,show k+1-1=k by omega] at hc
 have hcb:=cnt_b (cX pg st ws q) k
 have hcl:=Cv (b:=cX pg st ws q) (k:=k) (xO ho _) i0 i1 ht.symm
 have hin:∀a,dw pg st a→(q∈G a↔aF pg st k (cD pg st ws q)=a):=fun a h=>by
  rw[F.mem a q h,ek,show k+1-1=k by omega]
  exact⟨fun z=>z.2.2,fun z=>⟨hq,by omega,z⟩⟩
 refine⟨hq,ek,k0,k4,i0,i1,ht.symm,ha,by omega,hc.2,fun hne=>?_,fun he=>?_⟩
 ·obtain⟨G1,G2,u,X,M⟩:=xQ H (tX H hq (clearV (cX pg st ws q) i) (cD pg st ws q+1)) hq L hn (k:=k) (f:=cD pg st ws q) hin
  refine⟨G1,G2,u,X,M,?_,M.l2,?_⟩
  ·unfold gR
   rw[h]
   show(true,gG _ _ _ _ _ _ _)=_
   unfold gG
   rw[ua H (f:=cD pg st ws q+1) (by rw[hcl,hc.1]) hne,M.eM]
  ·refine PgF.off H (a:=gq pg st q (clearV (cX pg st ws q) i) (cD pg st ws q+1) ws) ?_ M.o2
   refine F.turn H hq (k:=k+1) (f:=cD pg st ws q+1) (c:=clearV (cX pg st ws q) i) (fun p hp=>?_) (fun p hp=>kr H hq _ _ hn hp) (fun p hp=>kt H hq _ _ hn hp) (fun p _ _ h=>by rw[ku H hq _ _ hn];exact h) (fun _=>by rw[ku H hq _ _ hn];exact F.map q hq (by omega)) (by omega) (by omega) (fun _=>?_) M.m2 (fun a h=>?_)
   ·rw[iZ H hq _ _ hn];split
    ·rename_i e;rw[e];exact ek
    ·rfl
   ·rw[show k+1-1=k by omega,hcl,hc.1]
    exact⟨rfl,by omega⟩
   ·rw[M.m3 a h,show k+1-1=k by omega]
    exact⟨fun z=>⟨by omega,z⟩,fun z=>z.2⟩
 ·obtain⟨G1,G2,u,X,M⟩:=xQ H (IQ H hq 0 0) hq L hn (k:=k) (f:=cD pg st ws q) hin
  have hd:(DT pg st q ws).2=fF pg st q 0 0 ws:=by
   have hl:rM pg st q ws=1:=by unfold rM;rw[ek,if_pos (Kq.2 ⟨by omega,by omega⟩)]
   unfold DT
   rw[hl]
   rfl
  refine⟨G1,G2,u,X,M,?_,M.l2,?_⟩
  ·unfold gR
   rw[h]
   show(true,gG _ _ _ _ _ _ _)=_
   unfold gG qJ
   rw[if_pos (by rw[hcl,←hc.1];exact he),hd,M.eM]
  ·refine PgF.off H (a:=fF pg st q 0 0 ws) ?_ M.o2
   have hz0:aF pg st k 0=0:=by unfold aF;rw[if_neg (by omega)]
   refine F.turn H hq (k:=0) (f:=0) (c:=0) (fun p hp=>nq H.toPgIn hq 0 0 hn p) (fun p hp=>mt H.toPgIn hq 0 0 hn hp) (fun p hp=>pI H.toPgIn hq 0 0 hn hp) (fun p _ _ h=>by rw[tK H.toPgIn hq 0 0 hn];exact h) (fun z=>absurd rfl z) (by omega) (fun _=>⟨rfl,rfl⟩) (fun z=>by omega) M.m2 (fun a h=>?_)
   rw[M.m3 a h,hz0]
   have:=(qI H h).1
   exact⟨fun z=>by omega,fun z=>by omega⟩
theorem K8 {us a:Int}{ws:List Int}(h:fo (fj us pg st a ws)=none):gR us pg st a ws=(false,ws):=by
 unfold gR
 rw[h]
 rfl
end
theorem IY (c:Cfg)(p:Nat)(x:TkA):∃cs i b,tD c p x=.tuple #[.agg cs,.int .i64 i,.bool b]∧cs.size=27∧cs.all (·.oneCell')=true∧((b=false∧fo x=none)∨∃q k,x=some (q,k,i,true)∧cs=bF c p q k∧b=true):=by
 match x with
 |none=>exact⟨pgZ,0,false,rfl,rfl,by kernel_rfl,.inl ⟨rfl,rfl⟩⟩
 |some (q,k,i,false)=>exact⟨bF c p q k,i,false,rfl,by kernel_rfl,qH ..,.inl ⟨rfl,rfl⟩⟩
 |some (q,k,i,true)=>exact⟨bF c p q k,i,true,rfl,by kernel_rfl,qH ..,.inr ⟨q,k,rfl,rfl,rfl⟩⟩
theorem Aa (w:World)(cs:Array Value):∃w1,(w.alloc (.cells #[Value.pointer none,Value.int IntKind.i64 0,Value.int IntKind.i64 0,Value.int IntKind.i64 0,Value.int IntKind.i64 0,Value.int IntKind.i64 0,Value.int IntKind.i64 0,Value.int IntKind.i64 0,Value.int IntKind.i64 0,Value.int IntKind.i64 0,Value.int IntKind.i64 0,Value.int IntKind.i64 0,Value.int IntKind.i64 0,Value.int IntKind.i64 0,Value.int IntKind.i64 0,Value.int IntKind.i64 0,Value.int IntKind.i64 0,Value.int IntKind.i64 0,Value.int IntKind.i64 0,Value.int IntKind.i64 0,Value.int IntKind.i64 0,Value.int IntKind.i64 0,Value.int IntKind.i64 0,Value.int IntKind.i64 0,Value.int IntKind.i64 0,Value.int IntKind.i64 0,Value.int IntKind.i64 0] 90)).setRow w.heap.size cs=w1∧w1.heap[w.heap.size]?=some (.cells cs 90 (0,0))∧ae w w1 :=
 ⟨_,rfl,setRow_heap _ _ _ _ _ _ (aW w _ _),((ae.refl w).alloc _).setRow _ _ (Nat.le_refl _)⟩
theorem xR {c:Cfg}(R:c.Ok){n:Nat}(H:cB c.pg c.st n)(hn:n≤10000)(F:Nat→Prop)(p:Nat)(kn:Int→Option Int)(D:List KV)(ad:Int)(w:World)(hv:aD w F p kn D)(hk:OkK kn)(hD:cC n D)(bt:Nat)(hs:dd bt w)(nF0:¬F 0)(nFb:¬F bt):
 Calls Tryz.prog 11 #[.pointer (some ⟨p,0,none⟩),.agg c.arr,.int .i64 ad] w (aG w F p kn (fun x:Int×Bool=> .tuple #[.int .i64 x.1,.bool x.2]) (mg c.us c.pg c.st ad kn D)):=by
 obtain⟨Rr,hRr⟩:∃Rr,mg c.us c.pg c.st ad kn D=Rr:=⟨_,rfl⟩
 rw[hRr]
 obtain⟨w1,e1,hl1,m1,s1⟩:=a6 w (.cells c.arr 28)
 have nFl:¬F w.heap.size:=fun q=>by have:=hv.lt _ q;omega
 have MM:=hQQ m1
 have L0:=hQQ hl1
 have M0:=m0Z (hv.more m1) hD
 have KL:=klZ (p:=p) (kn:=kn) (n:=n) L0.o nFl
 have NEED:=ndZ (F:=F) (p:=p) (kn:=kn) (R:=Rr) (fun x:Int×Bool=>Value.tuple #[.int .i64 x.1,.bool x.2]) MM.o
 have DONE:=dnZ (F:=F) (p:=p) (n:=n) (kn:=kn) (R:=Rr) (fun x:Int×Bool=>Value.tuple #[.int .i64 x.1,.bool x.2]) MM.o
 have HK:=hQQ hk
 have HR:=hQQ R
 have HH:=hQQ H
 clear hl1 m1 hv hD hk R H nFl
 have SZ:Hq (∀wr D' F',MidV w1 wr F (fun _=>False) p kn n D' F'→dd bt wr):=hQQ fun wr D' F' h=>(hs.more MM.o).keep h.turn (by rintro(q|q);exact nF0 q;exact q) (by rintro(q|q);exact nFb q;exact q)
 have NF:Hq (∀wr D' F',MidV w1 wr F (fun _=>False) p kn n D' F'→¬F' 0∧¬F' bt):=hQQ fun wr D' F' h=>⟨h.off (hs.more MM.o).lt0 nF0,h.off (hs.more MM.o).lt nFb⟩
 have HRr:=hQQ (show ak (fR c.us c.pg c.st ad) (fun x=>tE (fo x)) kn D=Rr from hRr)
 clear hRr hs nF0 nFb
 go_enter Tryz.func11,Tryz.ntmps11
 go_wp2_with (first|(refine aK rfl rfl rfl L0.o (by kernel_rfl) ?_)|(refine aK rfl rfl rfl L0.o (by kernel_rfl) ?_))
 refine(DR HR.o HH.o hn F p kn D ad w1 M0.o.view HK.o M0.o.inv bt (SZ.o _ _ _ M0.o) (NF.o _ _ _ M0.o).1 (NF.o _ _ _ M0.o).2).mono ?_
 intro e w2 he
 rcases M0.o.step (ae.refl _) HK.o (jq HH.o.toPgIn ad) he with⟨a',hE,rfl,hd',ht',_⟩|⟨x2,D2,F2,hE,rfl,M2,hq2,_,_⟩
 ·exact⟨rfl,NEED.o a' w2 (HRr.o.symm.trans (ag hE)) hd' ht'⟩
 have L2:=hQQ (KL.o _ _ _ M2)
 have R2:=hQQ ((aj hE).symm.trans HRr.o)
 have M2:=hQQ M2
 clear he hE
 obtain⟨cs,i,b,ev,hsz,h1,hb⟩:=IY c p x2
 rw[ev]
 obtain⟨w3,e3,b3,m3⟩:=Aa w2 cs
 have H1:=hQQ h1
 have HSZ:=hQQ hsz
 clear h1 hsz ev
 have M3:=hQQ (M2.o.more m3)
 rcases hb with⟨rfl,hy⟩|⟨q,k,rfl,rfl,rfl⟩
 ·have FIN:=hQQ (DONE.o (0,false) w3 D2 F2 (by have:=R2.o;rw[hy] at this;exact this.symm) M3.o)
  clear R2 hy
  go_wp2_with (refine wpList_store_row rfl 90 _ _ rfl _ _ rfl rfl 90 _ (aW _ _ _) (by rw[HSZ.o];kernel_rfl) (by rw[HSZ.o];rfl) H1.o (e3.symm▸ ?_))
  go_ret2
  exact FIN.o
 ·have FIN:=hQQ (DONE.o (k,true) w3 D2 F2 R2.o.symm M3.o)
  obtain⟨c0,c25,c26⟩:=kZ b3
  clear R2
  go_wp2_with (refine wpList_store_row rfl 90 _ _ rfl _ _ rfl rfl 90 _ (aW _ _ _) (by rw[HSZ.o];kernel_rfl) (by rw[HSZ.o];rfl) H1.o (e3.symm▸ ?_))
  go_ret2
  exact FIN.o
theorem IZ {c:Cfg}(R:c.Ok){n:Nat}(H:cB c.pg c.st n)(hn:n≤10000)(F:Nat→Prop)(p:Nat)(kn:Int→Option Int)(D:List KV)(ad:Int)(w:World)(hv:aD w F p kn D)(hk:OkK kn)(hD:cC n D)(bt:Nat)(hs:dd bt w)(nF0:¬F 0)(nFb:¬F bt):
 Calls Tryz.prog 87 #[.pointer (some ⟨p,0,none⟩),.agg c.arr,.int .i64 ad] w (aG w F p kn (fun b:Bool=> .bool b) (rn c.us c.pg c.st ad kn D)):=by
 obtain⟨Rr,hRr⟩:∃Rr,rn c.us c.pg c.st ad kn D=Rr:=⟨_,rfl⟩
 rw[hRr]
 obtain⟨w1,e1,hl1,m1,s1⟩:=a6 w (.cells c.arr 28)
 have nFl:¬F w.heap.size:=fun q=>by have:=hv.lt _ q;omega
 have MM:=hQQ m1
 have L0:=hQQ hl1
 have M0:=m0Z (hv.more m1) hD
 have KL:=klZ (p:=p) (kn:=kn) (n:=n) L0.o nFl
 have NEED:=ndZ (F:=F) (p:=p) (kn:=kn) (R:=Rr) (fun b:Bool=>Value.bool b) MM.o
 have DONE:=dnZ (F:=F) (p:=p) (n:=n) (kn:=kn) (R:=Rr) (fun b:Bool=>Value.bool b) MM.o
 have HK:=hQQ hk
 have HR:=hQQ R
 have HH:=hQQ H
 clear hl1 m1 hv hD hk R H nFl
 have SZ:Hq (∀wr D' F',MidV w1 wr F (fun _=>False) p kn n D' F'→dd bt wr):=hQQ fun wr D' F' h=>(hs.more MM.o).keep h.turn (by rintro(q|q);exact nF0 q;exact q) (by rintro(q|q);exact nFb q;exact q)
 have NF:Hq (∀wr D' F',MidV w1 wr F (fun _=>False) p kn n D' F'→¬F' 0∧¬F' bt):=hQQ fun wr D' F' h=>⟨h.off (hs.more MM.o).lt0 nF0,h.off (hs.more MM.o).lt nFb⟩
 have HRr:=hQQ (show ak (fR c.us c.pg c.st ad) (fun x=>Cg c.pg c.st (fo x)) kn D=Rr from hRr)
 have HN:=hQQ hn
 clear hRr hs nF0 nFb
 have hmf:∀(fn:Fn) (first cap:Array Value) (w:World),(Instr.makeFunc fn first cap).run Tryz.prog w=.ok (.func fn first cap) w:=fun _ _ _ _=>rfl
 go_enter_defers Tryz.func87,Tryz.ntmps87
 go_wp2_with (first|(refine aK rfl rfl rfl L0.o (by kernel_rfl) ?_)|(refine aK rfl rfl rfl L0.o (by kernel_rfl) ?_))
 refine(DR HR.o HH.o hn F p kn D ad w1 M0.o.view HK.o M0.o.inv bt (SZ.o _ _ _ M0.o) (NF.o _ _ _ M0.o).1 (NF.o _ _ _ M0.o).2).mono ?_
 intro e w2 he
 rcases M0.o.step (ae.refl _) HK.o (jq HH.o.toPgIn ad) he with⟨a',hE,rfl,hd',ht',_⟩|⟨x2,D2,F2,hE,rfl,M2,hq2,hk2,hf2⟩
 ·exact NEED.o a' w2 (HRr.o.symm.trans (ag hE)) hd' ht'
 have R2:=hQQ ((aj hE).symm.trans HRr.o)
 have M2:=hQQ M2
 have HE2:=hQQ hE
 clear he hE hk2 hf2
 obtain⟨cs,i,b,ev,hsz,h1,hb⟩:=IY c p x2
 rw[ev]
 obtain⟨w3,e3,b3,m3⟩:=Aa w2 cs
 have H1:=hQQ h1
 have HSZ:=hQQ hsz
 clear h1 hsz ev
 have M3:=hQQ (M2.o.more m3)
 have nFg:¬F2 w2.heap.size:=fun z=>by have:=M2.o.view.lt _ z;omega
 rcases hb with⟨rfl,hy⟩|⟨q,k,rfl,rfl,rfl⟩
 ·have FIN:=hQQ (DONE.o false w3 D2 F2 (by have:=R2.o;rw[hy] at this;exact this.symm) M3.o)
  clear R2 hy
  go_wp2_with (refine wpList_store_row rfl 90 _ _ rfl _ _ rfl rfl 90 _ (aW _ _ _) (by rw[HSZ.o];kernel_rfl) (by rw[HSZ.o];rfl) H1.o (e3.symm▸ ?_))
  refine⟨_,results_tmp (t:=6) rfl _ _ _,?_⟩
  exact FIN.o
 ·have HQ:=hQQ (hq2 q k i true rfl).1
  have PB:=hQQ (cj HH.o.toPgIn HQ.o)
  obtain⟨b,hwb,-⟩:=Cf HE2.o
  have R2:=hQQ (show mh c.pg c.st q k i kn D2=Rr from R2.o)
  have WB0:=hQQ hwb
  clear HE2 hq2 hwb
  go_wp2_with (first|(refine wpList_store_row rfl 90 _ _ rfl _ _ rfl rfl 90 _ (aW _ _ _) (by rw[HSZ.o];kernel_rfl) (by rw[HSZ.o];rfl) H1.o (e3.symm▸ ?_))|(refine wpList_load_row rfl 90 _ rfl _ rfl 90 _ _ _ b3 Tryz.underlying90 rfl (by kernel_rfl) ?_))
  have BG:=hQQ b3
  clear e3 m3 b3 M2
  generalize w2.heap.size=gb at BG nFg
  refine(DQ HR.o HH.o.toPgIn HN.o F2 p kn D2 q k HQ.o w3 M3.o.view HK.o M3.o.inv).mono ?_
  intro e w7 he
  rcases M3.o.stepR (ae.refl _) HK.o (bb n PB.o.2.1.2.1) he with⟨a',hE,rfl,hd',ht',_⟩|⟨was,D6,F6,vm,hE,rfl,⟨gm,wm,rfl,hgm,hwm,hne,nm,nw,bm,bw⟩,M6,hq6,hk6,hf6⟩
  ·exact NEED.o a' w7 (R2.o.symm.trans (ag hE)) hd' ht'
  obtain⟨rfl,_⟩:=gE hE
  have R6:=hQQ ((aj hE).symm.trans R2.o)
  have R6:=hQQ ((aj (eS WB0.o)).symm.trans R6.o)
  have BG:=hQQ (hk6 _ _ nFg BG.o)
  have BM:=hQQ bm
  have BW:=hQQ bw
  have NM:=hQQ nm
  have NW:=hQQ nw
  have M6:=hQQ M6
  have HB0:Hq (W64 b):=hQQ ((bb n PB.o.2.2.2.1).ok HK.o M6.o.inv (eS WB0.o)).2
  clear he hE bm bw nm nw hgm hwm hne hk6 hf6 hq6 M3 R2 nFg
  have YB:=hQQ (fun W (hW:ae w7 W)=>DH HR.o HH.o.toPgIn F6 p kn D6 q k b HN.o HQ.o W (M6.o.view.more hW) WB0.o)
  have YS:=hQQ (fun W=>Iu (i:=i) HB0.o W)
  obtain⟨nb',hnb'⟩:∃nb',clearV b i=nb':=⟨_,rfl⟩
  have HB:=hQQ (kl HB0.o i)
  have HC:=hQQ (And.intro (cnt_b (clearV b i) k).1 (cnt_b (clearV b i) k).2.1)
  rw[hnb'] at YS R6 HB HC
  clear hnb'
  go_wp2_with fail
  refine bM 5 (by kernel_rfl) (by kernel_rfl) ?_
  simp only[List.take_succ_cons,List.take_zero,List.drop_succ_cons,List.drop_zero]
  refine aN rfl 90 _ rfl gb rfl 90 _ _ _ (fun W hW=>hW.block BG.o) Tryz.underlying90 rfl (by kernel_rfl) ?_
  refine aN rfl 90 _ rfl gb rfl 90 _ _ _ (fun W hW=>hW.block BG.o) Tryz.underlying90 rfl (by kernel_rfl) ?_
  iterate 1
   with_reducible refine wpQuiet_step (fun K hK=>?_)
   go_simp
   first
   |(refine hK _ ?_;clear hK K)
   |(apply Exists.intro
     refine⟨fun W hW=>?_,hK _ ?_⟩
     first
     |(go_at_call 82;exact Calls.more hW (YB.o W hW))
     |(go_simp;try rfl)
     clear hK K)
  iterate 1
   with_reducible refine wpQuiet_step (fun K hK=>?_)
   go_simp
   first
   |(refine hK _ ?_;clear hK K)
   |(apply Exists.intro
     refine⟨fun W hW=>?_,hK _ ?_⟩
     first
     |(go_simp;try rfl)
     clear hK K)
  iterate 1
   with_reducible refine wpQuiet_step (fun K hK=>?_)
   go_simp
   first
   |(refine hK _ ?_;clear hK K)
   |(apply Exists.intro
     refine⟨fun W hW=>?_,hK _ ?_⟩
     first
     |(go_at_call 113;exact Calls.more hW (YS.o W))
     |(go_simp;try rfl)
     clear hK K)
  refine wpQuiet_nil ?_
  intro w8 h8
  have M8:=hQQ (M6.o.more h8)
  have BM8:=hQQ (h8.block BM.o)
  have BW8:=hQQ (h8.block BW.o)
  clear h8
  go_wp2_with fail
  refine(Mn HR.o HH.o.toPgIn hn F6 p kn D6 q k nb' HQ.o HB.o HC.o w8 M8.o.view HK.o M8.o.inv bt (SZ.o _ _ _ M8.o) (NF.o _ _ _ M8.o).1 (NF.o _ _ _ M8.o).2).mono ?_
  intro e w9 he
  rcases M8.o.step (ae.refl _) HK.o (gY HH.o.toPgIn HQ.o HB.o) he with⟨a',hE,rfl,hd',ht',hk'⟩|⟨x9,D9,F9,hE,rfl,M9,hq9,hk9,hf9⟩
  ·have NE:=hQQ (NEED.o a')
   have R9:=hQQ (R6.o.symm.trans (ag hE))
   change bodyPostD _ _ _ (Exit.panic (bg p)) _ _
   refine leaves_cons (f:=129) (args:=#[.pointer (some ⟨gm,0,none⟩),.pointer (some ⟨wm,0,none⟩)]) (by simp) (by simp[go_sem]) ?_
   refine(zE HR.o HH.o p a' q k was gm wm w9 hd' (hk' _ _ NM.o BM8.o) (hk' _ _ NW.o BW8.o) _).mono ?_
   rintro e u' w10 ⟨rfl,rfl,h10⟩
   exact NE.o w10 R9.o (hd'.keep h10 (fun q=>q)) (am ht' h10 (fun _ q=>q.elim))
  have R9:=hQQ ((aj hE).symm.trans R6.o)
  have BM9:=hQQ (hk9 _ _ NM.o BM8.o)
  have BW9:=hQQ (hk9 _ _ NW.o BW8.o)
  have NM9:=hQQ (show ¬F9 gm from fun z=>by rcases hf9 _ z with q|q;exact NM.o q;have:=ac BM8.o;omega)
  have M9:=hQQ M9
  clear he hE hk9 hf9 hq9 M8 BM8 BW8
  clear BG YB YS HB HC WB0 HB0 M6 BM BW NM NW SZ NF R6 L0 M0
  go_wp2_with fail
  refine leaves_cons (f:=129) (args:=#[.pointer (some ⟨gm,0,none⟩),.pointer (some ⟨wm,0,none⟩)]) (by simp) (by simp[go_sem]) ?_
  refine(zH HR.o HH.o hn F9 p kn D9 q k was HQ.o gm wm w9 M9.o.view HK.o M9.o.inv BM9.o BW9.o NM9.o _).mono ?_
  rintro e u' w13 ⟨rfl,he⟩
  rcases M9.o.step (ae.refl _) HK.o (gX HH.o q k was HQ.o) he with⟨a',hE,rfl,hd',ht',_⟩|⟨x11,D11,F11,hE,rfl,M11,_,_,_⟩
  ·exact NEED.o a' w13 (R9.o.symm.trans (ag hE)) hd' ht'
  have FIN:=hQQ (DONE.o true w13 D11 F11 (R9.o.symm.trans (aj hE)) M11)
  refine⟨_,results_tmp (t:=6) rfl _ _ _,?_⟩
  exact FIN.o
section
variable {pg st:Int}{n:Nat}(H:cB pg st n)
include H
end
section
variable {pg st:Int}{n:Nat}(H:cB pg st n)
include H
theorem wh:PgW pg st (fun _=> []) (cJ n):=by
 have hz:∀i:Int,wAt (cJ n) i=0:=fun i=>by
  unfold wAt cJ
  simp only[List.getD,List.getElem?_replicate]
  split<;>rfl
 have hk:∀p,af pg p=true→aV pg st (cJ n) p=0:=fun p hp=>by unfold aV;rw[if_pos hp];exact hz _
 refine⟨zq0 H,⟨fun p hp=>by rw[hk p hp];omega,fun p hp _=>⟨hz _,hz _⟩,fun p hp h=>absurd (hk p hp) h,fun p hp h=>?_,fun a p ha=>⟨fun h=>(by cases h),fun h=>?_⟩⟩⟩
 ·rw[hk p hp] at h;omega
 ·have:=hk p h.1;have:=h.2.1;omega
end
theorem I0 {k:Int} :szV k=0↔aw k=0:=by
 unfold szV aw
 (repeat' split)<;>simp
structure FlI (pg st q:Int)(ws:List Int)(p:Int)(s:Int×Bool):Prop where
 free:s.2=true↔∃x,0≤x∧x<p∧aV pg st ws x=0
 least:(s.1=0∧∀x,0≤x→x<p→0<szV q→aV pg st ws x=q+1→dN q (cX pg st ws x)≤0) ∨
  (0<szV q∧0<s.1∧(∃x,0≤x∧x<p∧aV pg st ws x=q+1∧dN q (cX pg st ws x)=s.1)∧∀x,0≤x→x<p→aV pg st ws x=q+1→0<dN q (cX pg st ws x)→s.1≤dN q (cX pg st ws x))
section
variable {pg st:Int}{n:Nat}(H:cB pg st n)
include H
end
theorem I1 {us pg st:Int}{ws:List Int}{q k:Int}{j:Nat}(hq:af pg q=true)(hk:0≤k∧k≤4)(hj:(j:Int)<aw k)(ek:aV pg st ws q=k+1):
 fj us pg st (us+32 * q+j * szV k) ws=some (q,k,(j:Int),eK (cX pg st ws q) j):=by
 have hp:=ax.1 hq
 obtain⟨z,rfl⟩:∃z:Nat,k=(z:Int):=⟨k.toNat,by omega⟩
 have hz4:z=0∨z=1∨z=2∨z=3∨z=4:=by omega
 have key:aw (z:Int)≠0∧0<szV (z:Int)∧0≤(j:Int) * szV (z:Int)∧(j:Int) * szV (z:Int)<32:=by
  rcases hz4 with rfl|rfl|rfl|rfl|rfl
  ·have hj:(j:Int)<32:=hj
   refine⟨by decide,by decide,?_,?_⟩<;>(show _;simp only[show szV ((0:Nat):Int)=1 from rfl];omega)
  ·have hj:(j:Int)<16:=hj
   refine⟨by decide,by decide,?_,?_⟩<;>(show _;simp only[show szV ((1:Nat):Int)=2 from rfl];omega)
  ·have hj:(j:Int)<8:=hj
   refine⟨by decide,by decide,?_,?_⟩<;>(show _;simp only[show szV ((2:Nat):Int)=4 from rfl];omega)
  ·have hj:(j:Int)<4:=hj
   refine⟨by decide,by decide,?_,?_⟩<;>(show _;simp only[show szV ((3:Nat):Int)=8 from rfl];omega)
  ·have hj:(j:Int)<2:=hj
   refine⟨by decide,by decide,?_,?_⟩<;>(show _;simp only[show szV ((4:Nat):Int)=16 from rfl];omega)
 obtain⟨k1,k2,k3,k4⟩:=key
 have hd:(j:Int) * szV (z:Int) / szV (z:Int)=(j:Int):=Int.mul_ediv_cancel _ (by omega)
 have hm:(j:Int) * szV (z:Int) % szV (z:Int)=0:=Int.mul_emod_left _ _
 obtain⟨x,hx⟩:∃x,(j:Int) * szV (z:Int)=x:=⟨_,rfl⟩
 rw[hx] at k3 k4 hd hm⊢
 have e1:(us+32 * q+x-us) / 32=q:=by omega
 have e2:(us+32 * q+x-us) % 32=x:=by omega
 unfold fj
 rw[if_pos (by omega),e1,e2,ek]
 unfold ld
 rw[show IntKind.i64.wrap ((z:Int)+1-1)=(z:Int) by rw[show(z:Int)+1-1=(z:Int) by omega];exact az (by omega) (by omega),if_neg k1,if_neg (by rw[hm];simp),hd]
theorem pL (us:Int){pg q k:Int}{j:Nat}(hq:af pg q=true)(k0:0≤k)(k4:k≤4)(hj:(j:Int)<aw k):(us+32 * q+j * szV k-us) / 32=q:=by
 obtain⟨z,rfl⟩:∃z:Nat,k=(z:Int):=⟨k.toNat,by omega⟩
 have hz4:z=0∨z=1∨z=2∨z=3∨z=4:=by omega
 rcases hz4 with rfl|rfl|rfl|rfl|rfl
 ·have hj:(j:Int)<32:=hj
  rw[show szV ((0:Nat):Int)=1 from rfl];omega
 ·have hj:(j:Int)<16:=hj
  rw[show szV ((1:Nat):Int)=2 from rfl];omega
 ·have hj:(j:Int)<8:=hj
  rw[show szV ((2:Nat):Int)=4 from rfl];omega
 ·have hj:(j:Int)<4:=hj
  rw[show szV ((3:Nat):Int)=8 from rfl];omega
 ·have hj:(j:Int)<2:=hj
  rw[show szV ((4:Nat):Int)=16 from rfl];omega
section
variable {pg st:Int}{n:Nat}(H:cB pg st n)
include H
theorem I2 (us k:Int){G:Int→List Int}{ws:List Int}(P:PgW pg st G ws)(hn:ws.length=n):
 (cZ us pg st k ws=((0,false),ws)) ∨
 ∃(q:Int) (j:Nat) (f:Int) (G2:Int→List Int) (X:List Int),af pg q=true∧0≤k∧k≤4∧(j:Int)<aw k∧eK (cX pg st ws q) j=false∧cZ us pg st k ws=((us+32 * q+j * szV k,true),X)∧PgW pg st G2 X ∧
  (∀p,af pg p=true→aV pg st X p=(if p=q then k+1 else aV pg st ws p)∧cD pg st X p=(if p=q then f else cD pg st ws p)∧cX pg st X p=(if p=q then setV (cX pg st ws q) j else cX pg st ws p)) ∧
  ((aV pg st ws q=k+1∧f+1=cD pg st ws q)∨(aV pg st ws q=0∧f+1=aw k)):=by
 by_cases hs:aw k=0
 ·exact .inl (tY H us hs ws)
 have hk:=fe hs
 by_cases h1:dg pg st k (aw k).toNat 1 ws= -1
 ·by_cases h2:jr pg st 1 1 ws= -1
  ·exact .inl (tZ H us hs h1 h2)
  ·obtain⟨y,hy⟩:∃y,jr pg st 1 1 ws=y:=⟨_,rfl⟩
   rw[hy] at h2
   obtain⟨G1,G2,w1,X,hyp,hk0,_,T,n1,_,M,e,Q⟩:=zY H us hs P hn h1 hy h2
   have hf:=P.f.free y hyp hk0
   refine .inr ⟨y,0,aw k-1,G2,X,hyp,hk.1,hk.2,by have:=eL k;simp;omega,by rw[hf.2];simp[eK,mD],by rw[e];simp,Q,fun p hp=>⟨?_,?_,?_⟩,.inr ⟨hk0,by omega⟩⟩
   ·rw[d6.kind H M.o2,iZ H hyp _ _ n1,T.kind]
    by_cases e:p=y
    ·rw[if_pos e,if_pos e]
    ·rw[if_neg e,if_neg e,if_neg (by omega)]
   ·rw[d6.cnt H M.o2 hp,kr H hyp _ _ n1 hp,T.cnt p hp]
    by_cases e:p=y
    ·rw[if_pos e,if_pos e]
    ·rw[if_neg e,if_neg e,if_neg e,if_neg (by omega)]
   ·rw[d6.bit H M.o2 hp,kt H hyp _ _ n1 hp,T.bit p hp]
    by_cases e:p=y
    ·rw[if_pos e,if_pos e,hf.2];rfl
    ·rw[if_neg e,if_neg e,if_neg (by omega)]
 ·obtain⟨q,hq⟩:∃q,dg pg st k (aw k).toNat 1 ws=q:=⟨_,rfl⟩
  rw[hq] at h1
  obtain⟨j,G1,G2,u,X,hqp,ek,c1,_,_,hj,hb,M,e,Q⟩:=zX H us hs P hn hq h1
  refine .inr ⟨q,j,cD pg st ws q-1,G2,X,hqp,hk.1,hk.2,hj,by unfold eK;simp[hb],e,Q,fun p hp=>⟨?_,?_,?_⟩,.inl ⟨ek,by omega⟩⟩
  ·rw[d6.kind H M.o2,iZ H hqp _ _ hn]
   by_cases e:p=q
   ·rw[if_pos e,e,ek]
   ·rw[if_neg e]
  ·rw[d6.cnt H M.o2 hp,kr H hqp _ _ hn hp]
  ·rw[d6.bit H M.o2 hp,kt H hqp _ _ hn hp]
end
section
variable {pg st:Int}{n:Nat}(H:cB pg st n)
include H
theorem I3 (us:Int){a:Int}{G:Int→List Int}{ws:List Int}(P:PgW pg st G ws)(hn:ws.length=n)(ho:OkW ws){q k i:Int}(h:fo (fj us pg st a ws)=some (q,k,i)):
 ∃(G2:Int→List Int) (X:List Int),gR us pg st a ws=(true,X)∧PgW pg st G2 X ∧
  (∀p,af pg p=true→aV pg st X p=(if p=q then(if cD pg st ws q+1=aw k then 0 else k+1) else aV pg st ws p)∧cD pg st X p=(if p=q then(if cD pg st ws q+1=aw k then 0 else cD pg st ws q+1) else cD pg st ws p) ∧
   cX pg st X p=(if p=q then(if cD pg st ws q+1=aw k then 0 else clearV (cX pg st ws q) i) else cX pg st ws p)):=by
 obtain⟨hq,ek,_,_,_,_,_,_,_,_,y1,y2⟩:=zZ H us P hn ho h
 by_cases he:cD pg st ws q+1=aw k
 ·obtain⟨G1,G2,u,X,M,e,Q⟩:=y2 he
  refine⟨G2,X,e,Q,fun p hp=>⟨?_,?_,?_⟩⟩
  ·rw[d6.kind H M.o2,nq H.toPgIn hq 0 0 hn p,if_pos he]
  ·rw[d6.cnt H M.o2 hp,mt H.toPgIn hq 0 0 hn hp,if_pos he]
  ·rw[d6.bit H M.o2 hp,pI H.toPgIn hq 0 0 hn hp,if_pos he]
 ·obtain⟨G1,G2,u,X,M,e,Q⟩:=y1 he
  refine⟨G2,X,e,Q,fun p hp=>⟨?_,?_,?_⟩⟩
  ·rw[d6.kind H M.o2,iZ H hq _ _ hn,if_neg he]
   by_cases z:p=q
   ·rw[if_pos z,z,ek]
   ·rw[if_neg z]
  ·rw[d6.cnt H M.o2 hp,kr H hq _ _ hn hp,if_neg he]
  ·rw[d6.bit H M.o2 hp,kt H hq _ _ hn hp,if_neg he]
end
theorem I4 {w:Int}{m j:Nat} :j∈onN w m↔j<m∧eJ w j=true:=by simp[onN]
theorem DY {k b:Int}{i j:Nat}(h:dN k b+1=aw k)(hi:(i:Int)<aw k)(hj:(j:Int)<aw k)(bi:eK b i=true)(bj:eK b j=true):i=j:=by
 have hs:=eL k
 have he:=lf (k:=k)
 have hl:(onN b (endN (aw k))).length=1:=by unfold dN dv at h;omega
 obtain⟨x,hx⟩:=List.length_eq_one_iff.1 hl
 have m1:i∈onN b (endN (aw k)):=I4.2 ⟨by omega,by rw[←xG (by omega)];exact bi⟩
 have m2:j∈onN b (endN (aw k)):=I4.2 ⟨by omega,by rw[←xG (by omega)];exact bj⟩
 rw[hx] at m1 m2
 rw[List.mem_singleton.1 m1,List.mem_singleton.1 m2]
def tkC (us pg st:Int)(ws:List Int)(a:Int):Option Int:=(fo (fj us pg st a ws)).map (·.2.1)
theorem xS (us pg st a:Int)(ws:List Int):mC us pg st a ws=match tkC us pg st ws a with|some k=>(k,true)|none=>(0,false):=by
 unfold mC tkC
 cases fo (fj us pg st a ws) with
 |none=>rfl
 |some x=>obtain⟨q,k,i⟩:=x;rfl
structure lH (pg st:Int)(a b:List Int):Prop where
 len:b.length=a.length
 off:∀i:Int,bd st pg+62≤i→wAt b i=wAt a i
theorem lH.refl (pg st:Int)(a:List Int):lH pg st a a:=⟨rfl,fun _ _=>rfl⟩
theorem lH.trans {pg st:Int}{a b c:List Int}(h:lH pg st a b)(g:lH pg st b c):lH pg st a c:=⟨g.len.trans h.len,fun i hi=>(g.off i hi).trans (h.off i hi)⟩
structure ue (pg st:Int)(a b:List Int):Prop where
 len:b.length=a.length
 off:∀i:Int,0≤i→i<bd st pg+62→wAt b i=wAt a i
theorem szj {k:Int}{j:Nat}(k0:0≤k)(k4:k≤4)(hj:(j:Int)<aw k):0<szV k∧0≤(j:Int) * szV k∧(j:Int) * szV k<32:=by
 obtain⟨z,rfl⟩:∃z:Nat,k=(z:Int):=⟨k.toNat,by omega⟩
 have hz4:z=0∨z=1∨z=2∨z=3∨z=4:=by omega
 rcases hz4 with rfl|rfl|rfl|rfl|rfl
 ·have hj:(j:Int)<32:=hj
  rw[show szV ((0:Nat):Int)=1 from rfl];omega
 ·have hj:(j:Int)<16:=hj
  rw[show szV ((1:Nat):Int)=2 from rfl];omega
 ·have hj:(j:Int)<8:=hj
  rw[show szV ((2:Nat):Int)=4 from rfl];omega
 ·have hj:(j:Int)<4:=hj
  rw[show szV ((3:Nat):Int)=8 from rfl];omega
 ·have hj:(j:Int)<2:=hj
  rw[show szV ((4:Nat):Int)=16 from rfl];omega
theorem I5 {k:Int}(k0:0≤k)(k4:k≤4)(h:0<szV k)(q:Int):32 * q % szV k=0:=by
 obtain⟨z,rfl⟩:∃z:Nat,k=(z:Int):=⟨k.toNat,by omega⟩
 have hz4:z=0∨z=1∨z=2∨z=3∨z=4:=by omega
 rcases hz4 with rfl|rfl|rfl|rfl|rfl
 ·rw[show szV ((0:Nat):Int)=1 from rfl];omega
 ·rw[show szV ((1:Nat):Int)=2 from rfl];omega
 ·rw[show szV ((2:Nat):Int)=4 from rfl];omega
 ·rw[show szV ((3:Nat):Int)=8 from rfl];omega
 ·rw[show szV ((4:Nat):Int)=16 from rfl];omega
section
variable {pg st:Int}{n:Nat}(H:cB pg st n)
include H
theorem j0 {p:Int}(hp:af pg p=true):(0≤kA pg st p∧kA pg st p<bd st pg+62)∧(0≤cA pg st p∧cA pg st p<bd st pg+62)∧(0≤bA pg st p∧bA pg st p<bd st pg+62)∧(0≤nA pg st p∧nA pg st p<bd st pg+62)∧(0≤vA pg st p∧vA pg st p<bd st pg+62):=by
 have:=ax.1 hp
 have h1:=H.st1;have h4:=H.pg1
 have hc:0≤aL pg:=by unfold aL;omega
 have ht:0≤aZ st:=by unfold aZ;omega
 unfold kA cA bA nA vA bd
 refine⟨⟨?_,?_⟩,⟨?_,?_⟩,⟨?_,?_⟩,⟨?_,?_⟩,?_,?_⟩<;>omega
theorem DZ {k:Int}(hk:bR pg k=true):0≤dT pg st k∧dT pg st k<bd st pg+62:=by
 have h1:=H.st1;have h4:=H.pg1
 have:=cY.1 hk
 have ht:0≤aZ st:=by unfold aZ;omega
 rw[lO hk]
 unfold bd
 omega
theorem I6 {i:Int}(hi:bd st pg+62≤i):¬dw pg st i∧∀p,af pg p=true→i≠nA pg st p∧i≠vA pg st p:=by
 refine⟨fun h=>by unfold dw at h;omega,fun p hp=>?_⟩
 obtain⟨_,_,_,h1,h2⟩:=j0 H hp
 exact⟨by omega,by omega⟩
theorem lh {a b:List Int}(o:d6 pg st a b):lH pg st a b:=⟨o.len,fun i hi=>by
 have:=I6 H hi
 have h1:=H.st1;have h4:=H.pg1
 have hc:0≤aL pg:=by unfold aL;omega
 have ht:0≤aZ st:=by unfold aZ;omega
 exact o.off i (by unfold bd at hi;omega) this.1 this.2⟩
theorem qM {q:Int}(hq:af pg q=true)(b f:Int){ws:List Int}(hn:ws.length=n):lH pg st ws (gq pg st q b f ws):=⟨by simp[gq],fun i hi=>by
 obtain⟨_,⟨h1,h2⟩,⟨h3,h4⟩,_⟩:=j0 H hq
 rw[iV H hq b f hn (by omega),if_neg (by omega),if_neg (by omega)]⟩
theorem FT {q:Int}(hq:af pg q=true)(k x:Int){ws:List Int}(hn:ws.length=n):lH pg st ws (fF pg st q k x ws):=⟨fa H.toPgIn _ _ _ _,fun i hi=>by
 obtain⟨⟨h5,h6⟩,⟨h1,h2⟩,⟨h3,h4⟩,_⟩:=j0 H hq
 rw[il H.toPgIn hq k x hn (by omega),if_neg (by omega),if_neg (by omega),if_neg (by omega)]⟩
theorem FU {p m k:Int}{a b:List Int}(T:II pg st p m k a b):lH pg st a b:=⟨T.len,fun i hi=>by
 have h1:=H.st1;have h4:=H.pg1
 have hc:0≤aL pg:=by unfold aL;omega
 have ht:0≤aZ st:=by unfold aZ;omega
 refine T.off i (by unfold bd at hi;omega) (fun p hp=>?_) (fun k hk=>?_)
 ·obtain⟨⟨_,h1⟩,⟨_,h2⟩,⟨_,h3⟩,_⟩:=j0 H hp
  exact⟨by omega,by omega,by omega⟩
 ·have:=DZ H hk;omega⟩
theorem FW (us k:Int){G:Int→List Int}{ws:List Int}(P:PgW pg st G ws)(hn:ws.length=n):lH pg st ws (cZ us pg st k ws).2:=by
 by_cases hs:aw k=0
 ·rw[tY H us hs ws];exact lH.refl _ _ _
 ·by_cases h1:dg pg st k (aw k).toNat 1 ws= -1
  ·by_cases h2:jr pg st 1 1 ws= -1
   ·rw[tZ H us hs h1 h2];exact lH.refl _ _ _
   ·obtain⟨G1,G2,w1,X,hy,_,_,T,n1,_,M,e,_⟩:=zY H us hs P hn h1 rfl h2
    rw[e]
    exact((FU H T).trans (qM H hy _ _ n1)).trans (lh H M.o2)
  ·obtain⟨j,G1,G2,u,X,hq,_,_,_,_,_,_,M,e,_⟩:=zX H us hs P hn rfl h1
   rw[e]
   exact(qM H hq _ _ hn).trans (lh H M.o2)
theorem FX (us a:Int){G:Int→List Int}{ws:List Int}(P:PgW pg st G ws)(hn:ws.length=n)(ho:OkW ws):lH pg st ws (gR us pg st a ws).2:=by
 cases h:fo (fj us pg st a ws) with
 |none=>rw[K8 H h];exact lH.refl _ _ _
 |some x =>
  obtain⟨q,k,i⟩:=x
  obtain⟨hq,_,_,_,_,_,_,_,_,_,y1,y2⟩:=zZ H us P hn ho h
  by_cases he:cD pg st ws q+1=aw k
  ·obtain⟨G1,G2,u,X,M,e,_⟩:=y2 he
   rw[e];exact(FT H hq _ _ hn).trans (lh H M.o2)
  ·obtain⟨G1,G2,u,X,M,e,_⟩:=y1 he
   rw[e];exact(qM H hq _ _ hn).trans (lh H M.o2)
theorem eW {a b:List Int}(F:ue pg st a b)(p:Int):aV pg st b p=aV pg st a p:=by
 unfold aV
 split
 ·rename_i hp
  obtain⟨⟨h1,h2⟩,_⟩:=j0 H hp
  exact F.off _ h1 h2
 ·rfl
theorem ny {a b:List Int}(F:ue pg st a b){p:Int}(hp:af pg p=true):cD pg st b p=cD pg st a p:=by
 obtain⟨_,⟨h1,h2⟩,_⟩:=j0 H hp
 exact F.off _ h1 h2
theorem nB {a b:List Int}(F:ue pg st a b){p:Int}(hp:af pg p=true):cX pg st b p=cX pg st a p:=by
 obtain⟨_,_,⟨h1,h2⟩,_⟩:=j0 H hp
 exact F.off _ h1 h2
theorem FY {a b:List Int}(F:ue pg st a b)(k:Int):bK pg st b k=bK pg st a k:=by
 unfold bK
 cases hk:bR pg k with
 |false=>rfl
 |true =>
  obtain⟨h1,h2⟩:=DZ H hk
  rw[F.off _ h1 h2]
theorem wl {a b:List Int}(F:ue pg st a b){G:Int→List Int}(P:PgW pg st G a):PgW pg st G b:=by
 obtain⟨L,Q⟩:=P
 have h1:=H.st1;have h4:=H.pg1
 have hc:0≤aL pg:=by unfold aL;omega
 have ht:0≤aZ st:=by unfold aZ;omega
 refine⟨⟨fun x hx=>?_,L.page,L.nodup,L.apart,fun x p hx hp=>?_,fun x p hx hp=>?_,fun p hp hn=>?_⟩,⟨fun p hp=>?_,fun p hp h=>?_,fun p hp h=>?_,fun p hp h=>?_,fun x p hx=>?_⟩⟩
 ·rw[F.off x (by unfold dw bd at hx;omega) (by unfold dw at hx;omega)];exact L.head x hx
 ·obtain⟨_,_,_,⟨n1,n2⟩,_⟩:=j0 H (L.page x hx p hp)
  rw[F.off _ n1 n2];exact L.next x p hx hp
 ·obtain⟨_,_,_,_,v1,v2⟩:=j0 H (L.page x hx p hp)
  rw[F.off _ v1 v2];exact L.prev x p hx hp
 ·obtain⟨_,_,_,⟨n1,n2⟩,v1,v2⟩:=j0 H hp
  rw[F.off _ n1 n2,F.off _ v1 v2];exact L.free p hp hn
 ·rw[eW H F];exact Q.kd p hp
 ·rw[eW H F] at h;rw[ny H F hp,nB H F hp];exact Q.free p hp h
 ·rw[eW H F] at h;rw[FY H F];exact Q.map p hp h
 ·rw[eW H F] at h⊢;rw[ny H F hp,nB H F hp];exact Q.cnt p hp h
 ·rw[Q.mem x p hx]
  constructor
  ·rintro⟨z1,z2,z3⟩
   refine⟨z1,?_,?_⟩
   ·rw[eW H F];exact z2
   ·rw[eW H F,ny H F z1];exact z3
  ·rintro⟨z1,z2,z3⟩
   rw[eW H F] at z2 z3
   rw[ny H F z1] at z3
   exact⟨z1,z2,z3⟩
theorem ju {us a k:Int}{G:Int→List Int}{ws:List Int}(P:PgW pg st G ws):
 tkC us pg st ws a=some k↔∃(q:Int) (j:Nat),af pg q=true∧0≤k∧k≤4∧(j:Int)<aw k∧aV pg st ws q=k+1∧eK (cX pg st ws q) j=true∧a=us+32 * q+j * szV k:=by
 constructor
 ·intro h
  unfold tkC at h
  cases hx:fo (fj us pg st a ws) with
  |none=>rw[hx] at h;cases h
  |some x =>
   obtain⟨q,k',i⟩:=x
   rw[hx] at h
   simp at h
   subst h
   obtain⟨hq,ek,k0,k4,i0,i1,ht,ha⟩:=ud H P.f (gZ hx)
   obtain⟨j,rfl⟩:∃j:Nat,i=j:=⟨i.toNat,by omega⟩
   exact⟨q,j,hq,k0,k4,i1,ek,ht.symm,ha⟩
 ·rintro⟨q,j,hq,k0,k4,hj,ek,hb,rfl⟩
  unfold tkC
  rw[I1 hq ⟨k0,k4⟩ hj ek,hb]
  rfl
theorem I7 {us a:Int}{x y:List Int}(F:ue pg st x y){G:Int→List Int}(P:PgW pg st G x):tkC us pg st y a=tkC us pg st x a:=by
 apply Option.ext
 intro k
 have e1:=ju H (us:=us) (a:=a) (k:=k) (wl H F P)
 have e2:=ju H (us:=us) (a:=a) (k:=k) P
 rw[e1,e2]
 constructor
 ·rintro⟨q,j,hq,k0,k4,hj,ek,hb,ha⟩
  rw[eW H F] at ek;rw[nB H F hq] at hb
  exact⟨q,j,hq,k0,k4,hj,ek,hb,ha⟩
 ·rintro⟨q,j,hq,k0,k4,hj,ek,hb,ha⟩
  exact⟨q,j,hq,k0,k4,hj,by rw[eW H F];exact ek,by rw[nB H F hq];exact hb,ha⟩
theorem Ab {us k q q':Int}{j j':Nat}(hq:af pg q=true)(hq':af pg q'=true)(k0:0≤k)(k4:k≤4)(hj:(j:Int)<aw k)(hj':(j':Int)<aw k)(e:us+32 * q+j * szV k=us+32 * q'+j' * szV k):q=q'∧j=j':=by
 have e1:=pL us hq k0 k4 hj
 have e2:=pL us hq' k0 k4 hj'
 have eq:q=q':=by rw[←e1,←e2,e]
 subst eq
 refine⟨rfl,?_⟩
 have hs:szV k≠0:=fun z=>by
  have:=I0.1 z
  omega
 have:(j:Int) * szV k=(j':Int) * szV k:=by omega
 have:=Int.eq_of_mul_eq_mul_right hs this
 omega
theorem Ac {us k k' q q':Int}{j j':Nat}(hq:af pg q=true)(hq':af pg q'=true)(k0:0≤k)(k4:k≤4)(k0':0≤k')(k4':k'≤4)(hj:(j:Int)<aw k)(hj':(j':Int)<aw k')(e:us+32 * q+j * szV k=us+32 * q'+j' * szV k'):q=q':=by
 have e1:=pL us hq k0 k4 hj
 have e2:=pL us hq' k0' k4' hj'
 rw[←e1,←e2,e]
theorem Ad {k:Int}(k0:0≤k)(k4:k≤4){j:Nat}(hj:(j:Int)<aw k):inR (j:Int)=true:=(eV _).2 ⟨by omega,by have:=eL k;omega⟩
theorem I8 (us k:Int){G:Int→List Int}{ws:List Int}(P:PgW pg st G ws)(hn:ws.length=n):
 (cZ us pg st k ws=((0,false),ws)) ∨
 ∃(a:Int) (G2:Int→List Int) (X:List Int),cZ us pg st k ws=((a,true),X)∧PgW pg st G2 X∧lH pg st ws X∧0≤k∧k≤4∧tkC us pg st ws a=none∧tkC us pg st X a=some k∧(∀b,b≠a→tkC us pg st X b=tkC us pg st ws b)∧us≤a∧a<us+32 * pg∧(a-us) % szV k=0:=by
 rcases I2 H us k P hn with e|⟨q,j,f,G2,X,hq,k0,k4,hj,hb,e,Q,hp,hw⟩
 ·exact .inl e
 have hin:=Ad H k0 k4 hj
 have T:=FW H us k P hn
 rw[e] at T
 have hp1:=fun p h=>(hp p h).1
 have hp3:=fun p h=>(hp p h).2.2
 have hkq:=hp1 q hq;rw[if_pos rfl] at hkq
 have hbq:=hp3 q hq;rw[if_pos rfl] at hbq
 have hfree:aV pg st ws q=k+1∨(aV pg st ws q=0∧∀i:Int,eK (cX pg st ws q) i=false):=by
  rcases hw with⟨w1,_⟩|⟨w1,_⟩
  ·exact .inl w1
  ·exact .inr ⟨w1,fun i=>by rw[(P.f.free q hq w1).2];simp[eK,mD]⟩
 obtain⟨kz,kz1,kz2⟩:=szj k0 k4 hj
 have hqq:=ax.1 hq
 refine .inr ⟨us+32 * q+j * szV k,G2,X,e,Q,T,k0,k4,?_,?_,fun b hne=>?_,by omega,by omega,?_⟩
 ·cases z:tkC us pg st ws (us+32 * q+j * szV k) with
  |none=>rfl
  |some k' =>
   obtain⟨q',j',hq',k0',k4',hj',ek,hb',ha⟩:=(ju H P).1 z
   obtain rfl:=Ac H hq hq' k0 k4 k0' k4' hj hj' ha
   rcases hfree with w|⟨_,w⟩
   ·have:k'=k:=by omega
    subst this
    obtain⟨_,rfl⟩:=Ab H hq hq k0 k4 hj hj' ha
    rw[hb] at hb';cases hb'
   ·rw[w] at hb';cases hb'
 ·exact(ju H Q).2 ⟨q,j,hq,k0,k4,hj,hkq,by rw[hbq];exact Kv hin,rfl⟩
 ·apply Option.ext
  intro c
  rw[ju H Q,ju H P]
  constructor
  ·rintro⟨q',j',hq',c0,c4,hj',ek,hb',rfl⟩
   rw[hp1 q' hq'] at ek
   rw[hp3 q' hq'] at hb'
   by_cases z:q'=q
   ·subst z
    rw[if_pos rfl] at ek hb'
    have:c=k:=by omega
    subst this
    have nj:j'≠j:=fun y=>hne (by rw[y])
    rw[nV hin (by omega)] at hb'
    rcases hfree with w|⟨_,w⟩
    ·exact⟨q',j',hq',c0,c4,hj',by omega,hb',rfl⟩
    ·rw[w] at hb';cases hb'
   ·rw[if_neg z] at ek hb'
    exact⟨q',j',hq',c0,c4,hj',ek,hb',rfl⟩
  ·rintro⟨q',j',hq',c0,c4,hj',ek,hb',rfl⟩
   refine⟨q',j',hq',c0,c4,hj',?_,?_,rfl⟩
   ·rw[hp1 q' hq']
    by_cases z:q'=q
    ·subst z
     rcases hfree with w|⟨_,w⟩
     ·rw[if_pos rfl];omega
     ·rw[w] at hb';cases hb'
    ·rw[if_neg z];exact ek
   ·rw[hp3 q' hq']
    by_cases z:q'=q
    ·subst z
     rw[if_pos rfl]
     rcases hfree with w|⟨_,w⟩
     ·have:c=k:=by omega
      subst this
      have nj:j'≠j:=fun y=>hne (by rw[y])
      rw[nV hin (by omega)];exact hb'
     ·rw[w] at hb';cases hb'
    ·rw[if_neg z];exact hb'
 ·have e1:us+32 * q+j * szV k-us=32 * q+j * szV k:=by omega
  rw[e1,Int.add_emod,Int.mul_emod_left,Int.add_zero,Int.emod_emod_of_dvd _ (Int.dvd_refl _)]
  have:(32:Int) * q % szV k=0:=I5 k0 k4 kz q
  exact this
theorem I9 (us:Int){a k:Int}{G:Int→List Int}{ws:List Int}(P:PgW pg st G ws)(hn:ws.length=n)(ho:OkW ws)(h:tkC us pg st ws a=some k):
 ∃(G2:Int→List Int) (X:List Int),gR us pg st a ws=(true,X)∧PgW pg st G2 X∧lH pg st ws X∧tkC us pg st X a=none∧(∀b,b≠a→tkC us pg st X b=tkC us pg st ws b):=by
 have h0:=h
 unfold tkC at h0
 cases hx:fo (fj us pg st a ws) with
 |none=>rw[hx] at h0;cases h0
 |some x =>
  obtain⟨q,k',i⟩:=x
  rw[hx] at h0
  simp at h0
  subst h0
  have T:=FX H us a P hn ho
  obtain⟨hq,ek,k0,k4,i0,i1,ht,ha⟩:=ud H P.f (gZ hx)
  obtain⟨j,rfl⟩:∃j:Nat,i=j:=⟨i.toNat,by omega⟩
  have hin:=Ad H k0 k4 i1
  obtain⟨G2,X,e,Q,hp⟩:=I3 H us P hn ho hx
  rw[e] at T
  have hc:=P.f.cnt q hq (by omega)
  rw[ek,show k'+1-1=k' by omega] at hc
  have ht:=ht.symm
  refine⟨G2,X,e,Q,T,?_,fun b hne=>?_⟩
  ·cases z:tkC us pg st X a with
   |none=>rfl
   |some c =>
    obtain⟨q',j',hq',c0,c4,hj',ek',hb',ha'⟩:=(ju H Q).1 z
    obtain rfl:=Ac H hq hq' k0 k4 c0 c4 i1 hj' (ha.symm.trans ha')
    obtain⟨p1,_,p3⟩:=hp q hq
    rw[if_pos rfl] at p1 p3
    by_cases he:cD pg st ws q+1=aw k'
    ·rw[if_pos he] at p1;omega
    ·rw[if_neg he] at p1 p3
     have:c=k':=by omega
     subst this
     obtain⟨_,rfl⟩:=Ab H hq hq k0 k4 i1 hj' (ha.symm.trans ha')
     rw[p3,vP hin] at hb'
     cases hb'
  ·apply Option.ext
   intro c
   rw[ju H Q,ju H P]
   constructor
   ·rintro⟨q',j',hq',c0,c4,hj',ek',hb',rfl⟩
    obtain⟨p1,_,p3⟩:=hp q' hq'
    by_cases z:q'=q
    ·subst z
     rw[if_pos rfl] at p1 p3
     by_cases he:cD pg st ws q'+1=aw k'
     ·rw[if_pos he] at p1;omega
     ·rw[if_neg he] at p1 p3
      have:c=k':=by omega
      subst this
      have nj:j'≠j:=fun y=>hne (by rw[y,ha])
      rw[p3,lE hin (by omega)] at hb'
      exact⟨q',j',hq',c0,c4,hj',ek,hb',rfl⟩
    ·rw[if_neg z] at p1 p3
     exact⟨q',j',hq',c0,c4,hj',by rw[←p1];exact ek',by rw[←p3];exact hb',rfl⟩
   ·rintro⟨q',j',hq',c0,c4,hj',ek',hb',rfl⟩
    obtain⟨p1,_,p3⟩:=hp q' hq'
    refine⟨q',j',hq',c0,c4,hj',?_,?_,rfl⟩
    all_goals by_cases z:q'=q
    ·subst z
     have:c=k':=by omega
     subst this
     have nj:j'≠j:=fun y=>hne (by rw[y,ha])
     rw[if_pos rfl] at p1
     by_cases he:cD pg st ws q'+1=aw c
     ·exact absurd (DY (by omega) i1 hj' ht hb') (fun y=>nj y.symm)
     ·rw[if_neg he] at p1;exact p1
    ·rw[if_neg z] at p1;rw[p1];exact ek'
    ·subst z
     have:c=k':=by omega
     subst this
     have nj:j'≠j:=fun y=>hne (by rw[y,ha])
     rw[if_pos rfl] at p3
     by_cases he:cD pg st ws q'+1=aw c
     ·exact absurd (DY (by omega) i1 hj' ht hb') (fun y=>nj y.symm)
     ·rw[if_neg he] at p3
      rw[p3,lE hin (by omega)];exact hb'
    ·rw[if_neg z] at p3;rw[p3];exact hb'
theorem FZ (us a:Int):tkC us pg st (cJ n) a=none:=by
 have P:=wh H
 cases z:tkC us pg st (cJ n) a with
 |none=>rfl
 |some k =>
  obtain⟨q,j,hq,k0,k4,hj,ek,_⟩:=(ju H P).1 z
  have hz:∀i:Int,wAt (cJ n) i=0:=fun i=>by
   unfold wAt cJ
   simp only[List.getD,List.getElem?_replicate]
   split<;>rfl
  unfold aV at ek
  rw[if_pos hq,hz] at ek
  omega
theorem xT {us a k:Int}{G:Int→List Int}{ws:List Int}(P:PgW pg st G ws)(h:tkC us pg st ws a=some k):us≤a∧a<us+32 * pg∧0≤k∧k≤4∧(a-us) % szV k=0∧aw k≠0:=by
 obtain⟨q,j,hq,k0,k4,hj,_,_,rfl⟩:=(ju H P).1 h
 obtain⟨kz,kz1,kz2⟩:=szj k0 k4 hj
 have hqq:=ax.1 hq
 refine⟨by omega,by omega,k0,k4,?_,by omega⟩
 have e1:us+32 * q+j * szV k-us=32 * q+j * szV k:=by omega
 rw[e1,Int.add_emod,Int.mul_emod_left,Int.add_zero,Int.emod_emod_of_dvd _ (Int.dvd_refl _)]
 exact I5 k0 k4 kz q
end
end Go.Proofs.YtddmeghbmdfgeaaGreatDoor
