/-
  What layer 14 does to the words, as its document tells it: a class k, the CPU's stack i0 of it, its bin i1; that all stays accounted for.
-/
import Derived.Test.YtddmeghbmdfgeaaGreatDoorFeAi
import Derived.Test.YtddmeghbmdfgeaaGreatDoorFeAe
import Derived.Test.YtddmeghbmdfgeaaGreatDoorFeAh
import Derived.Test.YtddmeghbmdfgeaaGreatDoorFeAd
import Derived.Test.YtddmeghbmdfgeaaGreatDoorFeAa
import Derived.Laws.Tables
set_option maxRecDepth 100000
set_option maxHeartbeats 8000000
set_option linter.all false
namespace Go.Proofs.YtddmeghbmdfgeaaGreatDoor
open Go.RowKit Go.Sort Go.Maps Go.Shelf
def wv:Fam:=⟨5,fun _=>0,fun _=>0,fun i=>(i:Int)⟩
def puO (P:Nat→List Int):List (Int×Int):=dF wv P 5
theorem Ah (P:Nat→List Int){k:Nat}(hk:k<5)(a:Int):(puO (de P k (P k++ [a]))).Perm ((a,(k:Int))::puO P):=by
 have:=kF wv P k (P k) a 5 hk
 rw[eP] at this
 exact this
theorem El (P:Nat→List Int){k:Nat}(hk:k<5){xs:List Int}{x:Int}(e:P k=xs++ [x]):(puO P).Perm ((x,(k:Int))::puO (de P k xs)):=by
 have:=kF wv P k xs x 5 hk
 rw[←e,eP] at this
 exact this
theorem kH (P:Nat→List Int){k:Nat}(hk:k<5)(a:Int){lim:Int}(h:((P k).length:Int)<lim):d9 P k a lim=de P k (P k++ [a]):=by
 have hb:dT P k lim=true:=by simp[dT,xY hk,d7 P hk];omega
 unfold d9
 rw[if_pos hb]
 funext j
 unfold de
 by_cases e:j=k
 ·subst e;simp
 ·simp[e]
theorem lx (P:Nat→List Int){k:Nat}(hk:k<5){xs:List Int}{x:Int}(e:P k=xs++ [x]):gK P k=true∧ia P k=x∧gQ P k=de P k xs:=by
 have hb:gK P k=true:=by simp[gK,d7 P hk,e]
 refine⟨hb,?_,?_⟩
 ·unfold ia;rw[if_pos hb];simp[e]
 ·unfold gQ
  rw[if_pos hb]
  funext j
  unfold de
  by_cases z:j=k
  ·subst z;simp[e]
  ·simp[z]
theorem se (P:Nat→List Int){k:Nat}(hk:k<5)(e:P k= []):gK P k=false:=by simp[gK,d7 P hk,e]
section
variable (us pg st:Int)(S:Fam)(i0 i1:Nat)
def jF (k:Int):Nat→List Int→(Int×Bool)×List Int
 | 0,ws=>a7 (S.b i0) (S.l i0) ws
 | 1,ws=>a7 (S.b i1) (S.l i1) ws
 | 2,ws=>if tT pg st k ws then dd us pg st k ws else((0,false),ws)
 | _,ws=>dd us pg st k ws
def fV (k kind:Nat)(lim:Int):Nat→(Nat→List Int)→List Int→(Nat→List Int)×List Int
 | 0,P,ws=>(P,ws)
 |m+1,P,ws=>if(jF us pg st S i0 i1 k kind ws).1.2 then fV k kind lim m (d9 P k (jF us pg st S i0 i1 k kind ws).1.1 lim) (jF us pg st S i0 i1 k kind ws).2 else(P,(jF us pg st S i0 i1 k kind ws).2)
def mM (ws:List Int):Nat:=if 0<a6 (S.l i0) (wAt ws (S.b i0)) then 0 else if 0<a6 (S.l i1) (wAt ws (S.b i1)) then 1 else 2
def ly (kind:Nat):Nat:=if kind=2 then 3 else kind
def mN (k:Nat)(lim:Int)(m:Nat)(P:Nat→List Int)(ws:List Int):((Int×Bool)×(Nat→List Int))×List Int :=
 if gK P k then(((ia P k,true),gQ P k),ws)
 else if(jF us pg st S i0 i1 k (ly (mM S i0 i1 ws)) ws).1.2 then
  ((((jF us pg st S i0 i1 k (ly (mM S i0 i1 ws)) ws).1.1,true),(fV us pg st S i0 i1 k (mM S i0 i1 ws) lim m P (jF us pg st S i0 i1 k (ly (mM S i0 i1 ws)) ws).2).1),(fV us pg st S i0 i1 k (mM S i0 i1 ws) lim m P (jF us pg st S i0 i1 k (ly (mM S i0 i1 ws)) ws).2).2)
 else(((0,false),P),(jF us pg st S i0 i1 k (ly (mM S i0 i1 ws)) ws).2)
def ui (a:Int)(ws:List Int):List Int :=
 if(cI (S.b i0) (S.l i0) a ws).1 then(cI (S.b i0) (S.l i0) a ws).2
 else if(cI (S.b i1) (S.l i1) a (cI (S.b i0) (S.l i0) a ws).2).1 then(cI (S.b i1) (S.l i1) a (cI (S.b i0) (S.l i0) a ws).2).2
 else(gS us pg st a (cI (S.b i1) (S.l i1) a (cI (S.b i0) (S.l i0) a ws).2).2).2
def jS (k:Nat):Nat→(Nat→List Int)→List Int→(Nat→List Int)×List Int
 | 0,P,ws=>(P,ws)
 |m+1,P,ws=>if gK P k then jS k m (gQ P k) (ui us pg st S i0 i1 (ia P k) ws) else(P,ws)
def ww (k:Nat)(lim:Int)(m:Nat)(a:Int)(P:Nat→List Int)(ws:List Int):(Nat→List Int)×List Int :=
 if lim≤((P k).length:Int) then(d9 (jS us pg st S i0 i1 k m P ws).1 k a lim,(jS us pg st S i0 i1 k m P ws).2) else(d9 P k a lim,ws)
end
def iM (us pg st:Int):List Int→List Int→List Int
 | [],ws=>ws
 |a::t,ws=>(gS us pg st a (iM us pg st t ws)).2
def ed (us pg st:Int)(P:Nat→List Int)(ws:List Int):List Int:=iM us pg st (P 4) (iM us pg st (P 3) (iM us pg st (P 2) (iM us pg st (P 1) (iM us pg st (P 0) ws))))
def ip (us pg st b l:Int):Nat→List Int→List Int
 | 0,ws=>ws
 |m+1,ws=>if(a7 b l ws).1.2 then ip us pg st b l m (gS us pg st (a7 b l ws).1.1 (a7 b l ws).2).2 else ws
def gh (us pg st:Int)(S:Fam):Nat→List Int→List Int
 | 0,ws=>ws
 |m+1,ws=>ip us pg st (S.b m) (S.l m) ((S.l m).toNat+1) (gh us pg st S m ws)
section
variable {us pg st:Int}{n:Nat}{S:Fam}(H:cF pg st n)(hS:S.In (bo st pg+62) n)(hn:n≤10000)(hu:0≤us∧us+32 * pg≤1000000)
include H hS hn hu
theorem Lo {ws:List Int}{C:Nat→List Int}{O:List (Int×Int)}(h:FrI us pg st n S ws C O){a k:Int}(hm:(a,k)∈O):W64 a:=by
 obtain⟨G,P⟩:=h.pgs
 obtain⟨a0,a1,_⟩:=xV H P ((h.acc a k).2 (List.mem_append_left _ hm))
 exact⟨by omega,by omega⟩
variable {i0 i1 k:Nat}(h0:i0<S.m)(h1:i1<S.m)(hk:k<5)(k0:S.k i0=k)(k1:S.k i1=k)
include h0 h1 hk k0 k1
theorem Em (kind:Nat){ws:List Int}{C:Nat→List Int}{O:List (Int×Int)}(h:FrI us pg st n S ws C O):
 jF us pg st S i0 i1 k kind ws=((0,false),ws)∨∃a X C',jF us pg st S i0 i1 k kind ws=((a,true),X)∧FrI us pg st n S X C' ((a,(k:Int))::O):=by
 have gr:dd us pg st k ws=((0,false),ws)∨∃a X C',dd us pg st k ws=((a,true),X)∧FrI us pg st n S X C' ((a,(k:Int))::O):=by
  rcases h.grab H hS hn k with e|⟨a,X,e,_,_,_,_,_,h'⟩
  ·exact .inl e
  ·exact .inr ⟨a,X,C,e,h'⟩
 match kind with
 | 0 =>
   rcases h.pop H hS hn h0 with⟨_,e⟩|⟨xs,x,X,_,e,h'⟩
   ·exact .inl e
   ·rw[k0] at h';exact .inr ⟨x,X,_,e,h'⟩
 | 1 =>
   rcases h.pop H hS hn h1 with⟨_,e⟩|⟨xs,x,X,_,e,h'⟩
   ·exact .inl e
   ·rw[k1] at h';exact .inr ⟨x,X,_,e,h'⟩
 | 2 =>
   cases hr:tT pg st k ws with
   |false=>exact .inl (by simp[jF,hr])
   |true =>
    have:jF us pg st S i0 i1 k 2 ws=dd us pg st k ws:=by simp[jF,hr]
    rw[this];exact gr
 |kind+3=>exact gr
theorem Ai (kind:Nat)(lim:Int):∀(m:Nat) (P:Nat→List Int) {ws:List Int} {C:Nat→List Int} {O:List (Int×Int)},FrI us pg st n S ws C (puO P++O)→((P k).length:Int)+m≤lim →
 ∃C',FrI us pg st n S (fV us pg st S i0 i1 k kind lim m P ws).2 C' (puO (fV us pg st S i0 i1 k kind lim m P ws).1++O)∧(((fV us pg st S i0 i1 k kind lim m P ws).1 k).length:Int)≤lim∧∀j,j≠k→(fV us pg st S i0 i1 k kind lim m P ws).1 j=P j
 | 0,P,ws,C,O,h,hl=>⟨C,h,by simpa [fV] using hl,fun _ _=>rfl⟩
 |m+1,P,ws,C,O,h,hl=>by
  rcases Em H hS hn hu h0 h1 hk k0 k1 kind h with e|⟨a,X,C',e,h'⟩
  ·refine⟨C,?_,?_,?_⟩<;>simp only[fV,e]
   ·exact h
   ·simp;omega
   ·simp
  ·have hlt:((P k).length:Int)<lim:=by omega
   have hp:=kH P hk a hlt
   have h2:FrI us pg st n S X C' (puO (d9 P k a lim)++O):=by
    rw[hp]
    refine h'.perm ?_
    have:=(Ah P hk a).symm.append_right O
    simpa using this
   have hlen:(((d9 P k a lim) k).length:Int)+m≤lim:=by rw[hp];unfold de;simp;omega
   obtain⟨C2,q1,q2,q3⟩:=Ai kind lim m (d9 P k a lim) h2 hlen
   have em:fV us pg st S i0 i1 k kind lim (m+1) P ws=fV us pg st S i0 i1 k kind lim m (d9 P k a lim) X:=by simp[fV,e]
   rw[em]
   refine⟨C2,q1,q2,fun j hj=>?_⟩
   rw[q3 j hj,hp];unfold de;rw[if_neg hj]
theorem Jn (lim:Int)(m:Nat)(hm:(m:Int)≤lim)(P:Nat→List Int)(hP:∀j,j<5→((P j).length:Int)≤lim){ws:List Int}{C:Nat→List Int}{O:List (Int×Int)}(h:FrI us pg st n S ws C (puO P++O)):
 mN us pg st S i0 i1 k lim m P ws=(((0,false),P),ws)∨∃a P' X C',mN us pg st S i0 i1 k lim m P ws=(((a,true),P'),X)∧FrI us pg st n S X C' (puO P'++((a,(k:Int))::O))∧∀j,j<5→((P' j).length:Int)≤lim:=by
 rcases List.eq_nil_or_concat (P k) with e|⟨xs,x,e⟩
 ·have hb:=se P hk e
  rcases Em H hS hn hu h0 h1 hk k0 k1 (ly (mM S i0 i1 ws)) h with e2|⟨a,X,C',e2,h'⟩
  ·exact .inl (by simp[mN,hb,e2])
  ·have h2:FrI us pg st n S X C' (puO P++((a,(k:Int))::O)):=h'.perm (by rw[←List.cons_append];exact(List.perm_middle (l₁:=puO P)).symm)
   obtain⟨C2,q1,q2,q3⟩:=Ai H hS hn hu h0 h1 hk k0 k1 (mM S i0 i1 ws) lim m P h2 (by rw[e];simpa using hm)
   refine .inr ⟨a,_,_,C2,by simp[mN,hb,e2],q1,fun j hj=>?_⟩
   by_cases z:j=k
   ·subst z;exact q2
   ·rw[q3 j z];exact hP j hj
 ·rw[List.concat_eq_append] at e
  obtain⟨b1,b2,b3⟩:=lx P hk e
  refine .inr ⟨x,gQ P k,ws,C,by simp[mN,b1,b2],?_,fun j hj=>?_⟩
  ·rw[b3]
   refine h.perm (((El P hk e).append_right O).trans ?_)
   rw[List.cons_append]
   exact(List.perm_middle (l₁:=puO (de P k xs))).symm
  ·rw[b3];unfold de
   have:=hP j hj
   split
   ·rename_i z;subst z;rw[e] at this;simp at this;omega
   ·exact this
theorem Jo {a:Int}{ws:List Int}{C:Nat→List Int}{O:List (Int×Int)}(h:FrI us pg st n S ws C ((a,(k:Int))::O)):∃C',FrI us pg st n S (ui us pg st S i0 i1 a ws) C' O:=by
 have ha:=Lo H hS hn hu h (List.mem_cons_self ..)
 rcases FrI.push H hS hn h0 (by rw[k0];exact h) ha with⟨_,X,e,h'⟩|⟨_,e⟩
 ·exact⟨_,by simp only[ui,e];exact h'⟩
 ·rcases FrI.push H hS hn h1 (by rw[k1];exact h) ha with⟨_,X,e2,h'⟩|⟨_,e2⟩
  ·exact⟨_,by simp only[ui,e,e2];exact h'⟩
  ·obtain⟨X,e3,h'⟩:=h.back H hS hn
   exact⟨_,by simp only[ui,e,e2,e3];exact h'⟩
theorem Aj:∀(m:Nat) (P:Nat→List Int) {ws:List Int} {C:Nat→List Int} {O:List (Int×Int)},FrI us pg st n S ws C (puO P++O) →
 ∃C',FrI us pg st n S (jS us pg st S i0 i1 k m P ws).2 C' (puO (jS us pg st S i0 i1 k m P ws).1++O)∧((jS us pg st S i0 i1 k m P ws).1 k).length=(P k).length-m∧∀j,j≠k→(jS us pg st S i0 i1 k m P ws).1 j=P j
 | 0,P,ws,C,O,h=>⟨C,h,rfl,fun _ _=>rfl⟩
 |m+1,P,ws,C,O,h=>by
  rcases List.eq_nil_or_concat (P k) with e|⟨xs,x,e⟩
  ·have hb:=se P hk e
   have em:jS us pg st S i0 i1 k (m+1) P ws=(P,ws):=by simp[jS,hb]
   rw[em]
   exact⟨C,h,by simp[e],fun _ _=>rfl⟩
  ·rw[List.concat_eq_append] at e
   obtain⟨b1,b2,b3⟩:=lx P hk e
   have h2:FrI us pg st n S ws C ((x,(k:Int))::(puO (de P k xs)++O)):=h.perm ((El P hk e).append_right O)
   obtain⟨C1,h3⟩:=Jo H hS hn hu h0 h1 hk k0 k1 h2
   obtain⟨C2,q1,q2,q3⟩:=Aj m (de P k xs) h3
   have em:jS us pg st S i0 i1 k (m+1) P ws=jS us pg st S i0 i1 k m (de P k xs) (ui us pg st S i0 i1 x ws):=by simp[jS,b1,b2,b3]
   rw[em]
   refine⟨C2,q1,?_,fun j hj=>?_⟩
   ·rw[q2,e];unfold de;simp
   ·rw[q3 j hj];unfold de;rw[if_neg hj]
theorem Jp {lim:Int}{m:Nat}(hl:1≤lim)(hm:1≤m)(P:Nat→List Int)(hP:∀j,j<5→((P j).length:Int)≤lim){a:Int}{ws:List Int}{C:Nat→List Int}{O:List (Int×Int)}(h:FrI us pg st n S ws C (puO P++((a,(k:Int))::O))):
 ∃P' X C',ww us pg st S i0 i1 k lim m a P ws=(P',X)∧FrI us pg st n S X C' (puO P'++O)∧∀j,j<5→((P' j).length:Int)≤lim:=by
 have fin:∀(Q:Nat→List Int) (X:List Int) (C':Nat→List Int),FrI us pg st n S X C' (puO Q++((a,(k:Int))::O))→((Q k).length:Int)<lim→(∀j,j<5→((Q j).length:Int)≤lim)→FrI us pg st n S X C' (puO (d9 Q k a lim)++O)∧∀j,j<5→(((d9 Q k a lim) j).length:Int)≤lim:=fun Q X C' hq hlt hQ=>by
  rw[kH Q hk a hlt]
  refine⟨hq.perm ?_,fun j hj=>?_⟩
  ·refine List.perm_middle.trans ?_
   have:=(Ah Q hk a).symm.append_right O
   simpa using this
  ·unfold de
   split
   ·simp;omega
   ·exact hQ j hj
 by_cases hf:lim≤((P k).length:Int)
 ·obtain⟨C1,q1,q2,q3⟩:=Aj H hS hn hu h0 h1 hk k0 k1 m P h
  have:=hP k hk
  obtain⟨f1,f2⟩:=fin _ _ _ q1 (by rw[q2];omega) (fun j hj=>by
   by_cases z:j=k
   ·subst z;rw[q2];omega
   ·rw[q3 j z];exact hP j hj)
  exact⟨_,_,C1,by simp only[ww];rw[if_pos hf],f1,f2⟩
 ·obtain⟨f1,f2⟩:=fin P ws C h (by omega) hP
  exact⟨_,_,C,by simp only[ww];rw[if_neg hf],f1,f2⟩
end
def iA (b l:Int):Array Value:= #[.int .i64 b,.int .i64 l]
theorem lz {w:World}{g:Nat}{a b:Int}{t:TypeId}(h:w.heap[g]?=some (.cells #[.int .i64 a,.int .i64 b] t (0,0))):w.cell? ⟨g,0,none⟩=some (.int .i64 a)∧w.cell? ⟨g,1,none⟩=some (.int .i64 b):=by
 refine⟨?_,?_⟩<;>simp[World.cell?,h]
def lA (b l:Int):Bool:=decide (0<b) && decide (0≤l)
theorem Ak (b l:Int)(w:World):Calls Tryz.prog 109 #[.agg (iA b l)] w (aP w (.bool (lA b l))):=by
 obtain⟨w1,e1,h1,m1,s1⟩:=aZ w (.cells (iA b l) 134)
 obtain⟨c0,c1⟩:=lz h1
 have MM:=hQQ m1
 unfold lA
 clear h1 m1
 cases hb:decide (0<b) with
 |true =>
  have d0:decide (0<b)=true:=hb
  go_enter Tryz.func109,Tryz.ntmps109
  go_wp2_with fail
  go_ret
  exact⟨rfl,MM.o⟩
 |false =>
  have d0:decide (0<b)=false:=hb
  go_enter Tryz.func109,Tryz.ntmps109
  go_wp2_with fail
  go_ret
  exact⟨rfl,MM.o⟩
def jT (b l:Int):Int:=if lA b l=true then min l (wrap64 (9223372036854775807-b)) else 0
theorem En (b l:Int)(w:World):Calls Tryz.prog 110 #[.agg (iA b l)] w (aP w (.int .i64 (jT b l))):=by
 obtain⟨w1,e1,h1,m1,s1⟩:=aZ w (.cells (iA b l) 134)
 obtain⟨c0,c1⟩:=lz h1
 have MM:=hQQ m1
 unfold jT
 have TH:=hQQ (Ak b l w1)
 have H1:=hQQ h1
 clear h1 m1
 cases hb:lA b l with
 |true =>
  rw[hb] at TH
  rw[if_pos rfl]
  clear hb
  go_enter Tryz.func110,Tryz.ntmps110
  go_wp2_with fail
  refine TH.o.mono ?_
  rintro e w2 ⟨rfl,h2⟩
  obtain⟨d0,d1⟩:=lz (h2.block H1.o)
  have M2:=hQQ (MM.o.trans h2)
  clear h2 c0 c1
  go_wp2_with fail
  go_ret
  exact⟨rfl,M2.o⟩
 |false =>
  rw[hb] at TH
  rw[if_neg (by simp)]
  clear hb
  go_enter Tryz.func110,Tryz.ntmps110
  go_wp2_with fail
  refine TH.o.mono ?_
  rintro e w2 ⟨rfl,h2⟩
  have M2:=hQQ (MM.o.trans h2)
  clear h2
  go_wp2_with fail
  go_ret
  exact⟨rfl,M2.o⟩
theorem lB {x:Int}(h0: -9223372036854775808≤x)(h1:x≤9223372036854775807):wrap64 x=x:=by unfold wrap64;omega
theorem wC {b l:Int}{n:Nat}(H:d6 b l n):jT b l=l:=by
 have h1:=H.b1;have h0:=H.l0;have hh:=H.hi;have ht:=H.top
 unfold jT lA
 rw[if_pos (by simp;omega),lB (by omega) (by omega)];omega
def pJ (b l k:Int):Int:=if k<0∨jT b l≤k then 0 else wrap64 (wrap64 (b+1)+k)
theorem qH {b l k:Int}{n:Nat}(H:d6 b l n):pJ b l k=dv b l k:=by
 have h1:=H.b1;have h0:=H.l0;have hh:=H.hi;have ht:=H.top
 unfold pJ dv
 rw[wC H]
 split
 ·rfl
 ·rw[lB (x:=b+1) (by omega) (by omega),lB (by omega) (by omega)]
theorem ya (b l k:Int)(w:World):Calls Tryz.prog 84 #[.agg (iA b l),.int .i64 k] w (aP w (.int .i64 (pJ b l k))):=by
 obtain⟨w1,e1,h1,m1,s1⟩:=aZ w (.cells (iA b l) 134)
 obtain⟨c0,c1⟩:=lz h1
 have MM:=hQQ m1
 unfold pJ
 have MO:=hQQ (En b l w1)
 have H1:=hQQ h1
 clear h1 m1
 by_cases k0:k<0
 ·have d0:decide (k<0)=true:=by simp[k0]
  rw[if_pos (.inl k0)]
  clear k0
  go_enter Tryz.func84,Tryz.ntmps84
  go_wp2_with fail
  go_ret
  exact⟨rfl,MM.o⟩
 ·have d0:decide (k<0)=false:=by simp;omega
  by_cases k1:jT b l≤k
  ·rw[if_pos (.inr k1)]
   generalize jT b l=mo at *
   have d1:decide (mo≤k)=true:=by simp[k1]
   clear k0 k1
   go_enter Tryz.func84,Tryz.ntmps84
   go_wp2_with fail
   refine MO.o.mono ?_
   rintro e w2 ⟨rfl,h2⟩
   have M2:=hQQ (MM.o.trans h2)
   clear h2
   go_wp2_with fail
   go_ret
   exact⟨rfl,M2.o⟩
  ·rw[if_neg (by omega)]
   generalize jT b l=mo at *
   have d1:decide (mo≤k)=false:=by simp;omega
   clear k0 k1
   go_enter Tryz.func84,Tryz.ntmps84
   go_wp2_with fail
   refine MO.o.mono ?_
   rintro e w2 ⟨rfl,h2⟩
   obtain⟨e0,e1⟩:=lz (h2.block H1.o)
   have M2:=hQQ (MM.o.trans h2)
   clear h2 c0 c1
   go_wp2_with fail
   go_ret
   exact⟨rfl,M2.o⟩
theorem Lp (b l k:Int)(w:World):Calls Tryz.prog 115 #[.agg (iA b l),.int .i64 k] w (aP w (.int .i64 (pJ b l (wrap64 (k-1))))):=by
 obtain⟨w1,e1,h1,m1,s1⟩:=aZ w (.cells (iA b l) 134)
 obtain⟨c0,c1⟩:=lz h1
 have MM:=hQQ m1
 clear h1 m1
 go_enter Tryz.func115,Tryz.ntmps115
 go_wp2_with fail
 refine(ya b l _ _).mono ?_
 rintro e w2 ⟨rfl,h2⟩
 have M2:=hQQ (MM.o.trans h2)
 clear h2
 go_wp2_with fail
 go_ret
 exact⟨rfl,M2.o⟩
theorem yc {b l:Int}{n:Nat}(H:d6 b l n)(F:Nat→Prop)(p:Nat)(kn:Int→Option Int)(D:List KV)(w:World)(hv:aE w F p kn D)(hk:OkK kn)(hD:cD n D):
 Calls Tryz.prog 83 #[.agg (iA b l),.pointer (some ⟨p,0,none⟩)] w (aB w F p kn (fun x=> .int .i64 x) (jQ b l kn D)):=by
 obtain⟨Rr,hRr⟩:∃Rr,jQ b l kn D=Rr:=⟨_,rfl⟩
 rw[hRr]
 obtain⟨w1,e1,hl1,m1,s1⟩:=aZ w (.cells (iA b l) 134)
 obtain⟨c0,c1⟩:=lz hl1
 have nFl:¬F w.heap.size:=fun q=>by have:=hv.lt _ q;omega
 have MM:=hQQ m1
 have L0:=hQQ hl1
 have M0:Hq (MidV w1 w1 F (fun _=>False) p kn n D F):=hQQ (MidV.begin (hv.more m1) hD)
 have KL:Hq (∀wr D' F',MidV w1 wr F (fun _=>False) p kn n D' F'→wr.heap[w.heap.size]?=some (.cells (iA b l) 134 (0,0))):=hQQ fun wr D' F' h=>cE h L0.o nFl (fun q=>q)
 have NEED:Hq (∀a w2,Rr=.need a→aN w2 p a→Turned (fun b=>F b∨False) w1 w2→aB w F p kn (fun x:Int=>Value.int .i64 x) Rr (.panicked (aR p)) w2):=hQQ fun a w2 e hd ht=>ct MM.o (fun _ q=>q.elim) e hd ht
 have DONE:Hq (∀x w2 D' F',Rr=.ok x D'→MidV w1 w2 F (fun _=>False) p kn n D' F'→aB w F p kn (fun x:Int=>Value.int .i64 x) Rr (.returned ((fun x:Int=>Value.int .i64 x) x)) w2):=hQQ fun x w2 D' F' e h=>bQ MM.o (fun _ q=>q.elim) h e
 have h1:=H.b1;have h0:=H.l0;have hh:=H.hi;have ht:=H.top
 have TH:=Ak b l w1
 rw[show lA b l=true by unfold lA;simp;omega] at TH
 have TH:=hQQ TH
 have MO:=hQQ (fun w'=>(wC H)▸En b l w')
 have HK:=hQQ hk
 have HRr:=hQQ hRr
 clear hl1 m1 hv hD hk nFl hRr
 go_enter Tryz.func83,Tryz.ntmps83
 go_wp2_with fail
 refine TH.o.mono ?_
 rintro e w2 ⟨rfl,h2⟩
 have M2:=hQQ (M0.o.more h2)
 obtain⟨d0,d1⟩:=lz (KL.o _ _ _ M2.o)
 clear h2 c0 c1
 go_wp2_with fail
 refine(jl F p kn D b w2 M2.o.view (by unfold W64;omega)).mono ?_
 intro e w3 he
 rcases M2.o.step (ae.refl _) HK.o (bd n (by omega)) he with⟨a',hE,rfl,hd',ht',_⟩|⟨y,D3,F3,hE,rfl,M3,hq3,_,_⟩
 ·exact⟨rfl,NEED.o a' w3 (HRr.o.symm.trans (ag hE)) hd' ht'⟩
 have FIN:=hQQ (DONE.o (a6 l y) w3 D3 F3 (HRr.o.symm.trans (aj hE)) M3)
 have DON:=hQQ (fun w4 (h4:ae w3 w4)=>DONE.o (a6 l y) w4 D3 F3 (HRr.o.symm.trans (aj hE)) (M3.more h4))
 obtain⟨f0,f1⟩:=lz (KL.o _ _ _ M3)
 have M3:=hQQ M3
 clear he hE d0 d1
 by_cases y0:0≤y
 ·have g0:decide (0≤y)=true:=by simp[y0]
  by_cases y1:y≤l
  ·have g1:decide (y≤l)=true:=by simp[y1]
   rw[show a6 l y=y by unfold a6;rw[if_pos ⟨y0,y1⟩]] at DON
   clear y0 y1 FIN
   go_wp2_with fail
   refine(MO.o _).mono ?_
   rintro e w4 ⟨rfl,h4⟩
   have D4:=hQQ (DON.o w4 h4)
   clear h4
   go_wp2_with fail
   go_ret
   exact D4.o
  ·have g1:decide (y≤l)=false:=by simp;omega
   rw[show a6 l y=0 by unfold a6;rw[if_neg (by omega)]] at DON
   clear y0 y1 FIN
   go_wp2_with fail
   refine(MO.o _).mono ?_
   rintro e w4 ⟨rfl,h4⟩
   have D4:=hQQ (DON.o w4 h4)
   clear h4
   go_wp2_with fail
   go_ret
   exact D4.o
 ·have g0:decide (0≤y)=false:=by simp;omega
  rw[show a6 l y=0 by unfold a6;rw[if_neg (by omega)]] at FIN
  clear y0 DON
  go_wp2_with fail
  go_ret
  exact FIN.o
theorem Al {b l:Int}{n:Nat}(H:d6 b l n)(F:Nat→Prop)(p:Nat)(kn:Int→Option Int)(D:List KV)(w:World)(hv:aE w F p kn D)(hk:OkK kn)(hD:cD n D):
 Calls Tryz.prog 114 #[.agg (iA b l),.pointer (some ⟨p,0,none⟩),.func (.func 84) #[] #[]] w (aB w F p kn (fun x:Int×Int=> .tuple #[.int .i64 x.1,.int .i64 x.2]) (j6 true b l kn D)):=by
 obtain⟨Rr,hRr⟩:∃Rr,j6 true b l kn D=Rr:=⟨_,rfl⟩
 rw[hRr]
 obtain⟨w1,e1,hl1,m1,s1⟩:=aZ w (.cells (iA b l) 134)
 obtain⟨c0,c1⟩:=lz hl1
 have nFl:¬F w.heap.size:=fun q=>by have:=hv.lt _ q;omega
 have MM:=hQQ m1
 have L0:=hQQ hl1
 have M0:Hq (MidV w1 w1 F (fun _=>False) p kn n D F):=hQQ (MidV.begin (hv.more m1) hD)
 have KL:Hq (∀wr D' F',MidV w1 wr F (fun _=>False) p kn n D' F'→wr.heap[w.heap.size]?=some (.cells (iA b l) 134 (0,0))):=hQQ fun wr D' F' h=>cE h L0.o nFl (fun q=>q)
 have NEED:Hq (∀a w2,Rr=.need a→aN w2 p a→Turned (fun b=>F b∨False) w1 w2→aB w F p kn (fun x:Int×Int=>Value.tuple #[.int .i64 x.1,.int .i64 x.2]) Rr (.panicked (aR p)) w2):=hQQ fun a w2 e hd ht=>ct MM.o (fun _ q=>q.elim) e hd ht
 have DONE:Hq (∀(x:Int×Int) w2 D' F',Rr=.ok x D'→MidV w1 w2 F (fun _=>False) p kn n D' F'→aB w F p kn (fun x:Int×Int=>Value.tuple #[.int .i64 x.1,.int .i64 x.2]) Rr (.returned (.tuple #[.int .i64 x.1,.int .i64 x.2])) w2):=hQQ fun x w2 D' F' e h=>bQ MM.o (fun _ q=>q.elim) h e
 have h1:=H.b1;have h0:=H.l0;have hh:=H.hi;have ht:=H.top
 have HK:=hQQ hk
 have HH:=hQQ H
 have HRr:=hQQ hRr
 clear hl1 m1 hv hD hk nFl hRr
 go_enter Tryz.func114,Tryz.ntmps114
 go_wp2_with fail
 refine(yc HH.o F p kn D w1 M0.o.view HK.o M0.o.inv).mono ?_
 intro e w3 he
 rcases M0.o.step (ae.refl _) HK.o (gu HH.o) he with⟨a',hE,rfl,hd',ht',_⟩|⟨y,D3,F3,hE,rfl,M3,hq3,_,_⟩
 ·exact⟨rfl,NEED.o a' w3 (HRr.o.symm.trans (ag hE)) hd' ht'⟩
 have DON:=hQQ (fun w4 (h4:ae w3 w4)=>DONE.o (y,dv b l (if true then y else y-1)) w4 D3 F3 (HRr.o.symm.trans (aj hE)) (M3.more h4))
 obtain⟨d0,d1⟩:=lz (KL.o _ _ _ M3)
 have hy0:=hq3.1
 have hy1:=hq3.2
 have W0:=hQQ (qH (k:=y) HH.o)
 have q1:=lB (x:=y-1) (by omega) (by omega)
 clear he hE c0 c1 hq3 M3
 go_wp2_with fail
 refine(ya b l _ _).mono ?_
 rw[W0.o]
 rintro e w4 ⟨rfl,h4⟩
 have D4:=hQQ (DON.o w4 h4)
 clear h4
 go_wp2_with fail
 go_ret2
 exact D4.o
theorem Am {b l:Int}{n:Nat}(H:d6 b l n)(F:Nat→Prop)(p:Nat)(kn:Int→Option Int)(D:List KV)(w:World)(hv:aE w F p kn D)(hk:OkK kn)(hD:cD n D):
 Calls Tryz.prog 114 #[.agg (iA b l),.pointer (some ⟨p,0,none⟩),.func (.func 115) #[] #[]] w (aB w F p kn (fun x:Int×Int=> .tuple #[.int .i64 x.1,.int .i64 x.2]) (j6 false b l kn D)):=by
 obtain⟨Rr,hRr⟩:∃Rr,j6 false b l kn D=Rr:=⟨_,rfl⟩
 rw[hRr]
 obtain⟨w1,e1,hl1,m1,s1⟩:=aZ w (.cells (iA b l) 134)
 obtain⟨c0,c1⟩:=lz hl1
 have nFl:¬F w.heap.size:=fun q=>by have:=hv.lt _ q;omega
 have MM:=hQQ m1
 have L0:=hQQ hl1
 have M0:Hq (MidV w1 w1 F (fun _=>False) p kn n D F):=hQQ (MidV.begin (hv.more m1) hD)
 have KL:Hq (∀wr D' F',MidV w1 wr F (fun _=>False) p kn n D' F'→wr.heap[w.heap.size]?=some (.cells (iA b l) 134 (0,0))):=hQQ fun wr D' F' h=>cE h L0.o nFl (fun q=>q)
 have NEED:Hq (∀a w2,Rr=.need a→aN w2 p a→Turned (fun b=>F b∨False) w1 w2→aB w F p kn (fun x:Int×Int=>Value.tuple #[.int .i64 x.1,.int .i64 x.2]) Rr (.panicked (aR p)) w2):=hQQ fun a w2 e hd ht=>ct MM.o (fun _ q=>q.elim) e hd ht
 have DONE:Hq (∀(x:Int×Int) w2 D' F',Rr=.ok x D'→MidV w1 w2 F (fun _=>False) p kn n D' F'→aB w F p kn (fun x:Int×Int=>Value.tuple #[.int .i64 x.1,.int .i64 x.2]) Rr (.returned (.tuple #[.int .i64 x.1,.int .i64 x.2])) w2):=hQQ fun x w2 D' F' e h=>bQ MM.o (fun _ q=>q.elim) h e
 have h1:=H.b1;have h0:=H.l0;have hh:=H.hi;have ht:=H.top
 have HK:=hQQ hk
 have HH:=hQQ H
 have HRr:=hQQ hRr
 clear hl1 m1 hv hD hk nFl hRr
 go_enter Tryz.func114,Tryz.ntmps114
 go_wp2_with fail
 refine(yc HH.o F p kn D w1 M0.o.view HK.o M0.o.inv).mono ?_
 intro e w3 he
 rcases M0.o.step (ae.refl _) HK.o (gu HH.o) he with⟨a',hE,rfl,hd',ht',_⟩|⟨y,D3,F3,hE,rfl,M3,hq3,_,_⟩
 ·exact⟨rfl,NEED.o a' w3 (HRr.o.symm.trans (ag hE)) hd' ht'⟩
 have DON:=hQQ (fun w4 (h4:ae w3 w4)=>DONE.o (y,dv b l (if false then y else y-1)) w4 D3 F3 (HRr.o.symm.trans (aj hE)) (M3.more h4))
 obtain⟨d0,d1⟩:=lz (KL.o _ _ _ M3)
 have hy0:=hq3.1
 have hy1:=hq3.2
 have W0:=hQQ (qH (k:=y-1) HH.o)
 have q1:=lB (x:=y-1) (by omega) (by omega)
 clear he hE c0 c1 hq3 M3
 go_wp2_with fail
 refine(Lp b l _ _).mono ?_
 rw[q1,W0.o]
 rintro e w4 ⟨rfl,h4⟩
 have D4:=hQQ (DON.o w4 h4)
 clear h4
 go_wp2_with fail
 go_ret2
 exact D4.o
theorem Lq {b l:Int}{n:Nat}(H:d6 b l n)(F:Nat→Prop)(p:Nat)(kn:Int→Option Int)(D:List KV)(x:Int)(hx:W64 x)(w:World)(hv:aE w F p kn D)(hk:OkK kn)(hD:cD n D):
 Calls Tryz.prog 104 #[.pointer (some ⟨p,0,none⟩),.int .i64 b,.int .i64 l,.int .i64 x] w (aB w F p kn (fun b=> .bool b) (jR b l x kn D)):=by
 obtain⟨Rr,hRr⟩:∃Rr,jR b l x kn D=Rr:=⟨_,rfl⟩
 rw[hRr]
 have M0:Hq (MidV w w F (fun _=>False) p kn n D F):=hQQ (MidV.begin hv hD)
 have MM:=hQQ (ae.refl w)
 have NEED:Hq (∀a w2,Rr=.need a→aN w2 p a→Turned (fun b=>F b∨False) w w2→aB w F p kn (fun x:Bool=>Value.bool x) Rr (.panicked (aR p)) w2):=hQQ fun a w2 e hd ht=>ct MM.o (fun _ q=>q.elim) e hd ht
 have DONE:Hq (∀x w2 D' F',Rr=.ok x D'→MidV w w2 F (fun _=>False) p kn n D' F'→aB w F p kn (fun x:Bool=>Value.bool x) Rr (.returned ((fun x:Bool=>Value.bool x) x)) w2):=hQQ fun x w2 D' F' e h=>bQ MM.o (fun _ q=>q.elim) h e
 have h1:=H.b1;have h0:=H.l0;have hh:=H.hi;have ht:=H.top
 have HX:=hQQ hx
 have HK:=hQQ hk
 have HH:=hQQ H
 have HRr:=hQQ hRr
 clear hv hD hk hRr hx
 go_enter Tryz.func104,Tryz.ntmps104
 go_wp2_with fail
 refine(Al HH.o F p kn D w M0.o.view HK.o M0.o.inv).mono ?_
 intro e w3 he
 rcases M0.o.step (ae.refl _) HK.o (ls HH.o true) he with⟨a',hE,rfl,hd',ht',_⟩|⟨y,D3,F3,hE,rfl,M3,hq3,_,_⟩
 ·exact⟨rfl,NEED.o a' w3 (HRr.o.symm.trans (ag hE)) hd' ht'⟩
 obtain⟨y,z⟩:=y
 obtain⟨q0,q1,q2⟩:=hq3
 simp only at q0 q1 q2
 have R3:=hQQ ((aj hE).symm.trans HRr.o)
 have M3:=hQQ M3
 clear he hE
 by_cases z0:z=0
 ·have FIN:=hQQ (DONE.o false w3 D3 F3 (by have:=R3.o;rw[if_pos z0] at this;exact this.symm) M3.o)
  have g0:(z==0)=true:=by simp[z0]
  clear z0 R3 q2
  go_wp2_with fail
  go_ret
  exact FIN.o
 ·have g0:(z==0)=false:=by simp[z0]
  have R3':=R3.o
  simp only[] at R3'
  rw[if_neg z0] at R3'
  have RB:=hQQ R3'
  clear R3' R3
  have q3:=hQQ (q2.resolve_left z0)
  have q4:=lB (x:=y+1) (by omega) (by omega)
  clear z0 q2
  go_wp2_with fail
  refine(dp F3 p kn D3 z x w3 M3.o.view (by have:=M3.o.inv.len;omega)).mono ?_
  intro e w4 he
  rcases M3.o.step (ae.refl _) HK.o (aQ n (by have:=q3.o;unfold W64;omega) (by have:=q3.o;omega) HX.o) he with⟨a',hE,rfl,hd',ht',_⟩|⟨x4,D4,F4,hE,rfl,M4,hq4,_,_⟩
  ·exact⟨rfl,NEED.o a' w4 (RB.o.symm.trans (ag hE)) hd' ht'⟩
  have R4:=hQQ ((aj hE).symm.trans RB.o)
  have M4:=hQQ M4
  clear he hE
  go_wp2_with fail
  refine(dp F4 p kn D4 b (y+1) w4 M4.o.view (by have:=M4.o.inv.len;omega)).mono ?_
  intro e w5 he
  rcases M4.o.step (ae.refl _) HK.o (aQ n (by unfold W64;omega) (by omega) (by unfold W64;omega)) he with⟨a',hE,rfl,hd',ht',_⟩|⟨x5,D5,F5,hE,rfl,M5,hq5,_,_⟩
  ·exact⟨rfl,NEED.o a' w5 (R4.o.symm.trans (ag hE)) hd' ht'⟩
  have FIN:=hQQ (DONE.o true w5 D5 F5 (by have:=(aj hE).symm.trans R4.o;exact this.symm) M5)
  clear he hE
  go_wp2_with fail
  go_ret
  exact FIN.o
theorem Jq {b l:Int}{n:Nat}(H:d6 b l n)(F:Nat→Prop)(p:Nat)(kn:Int→Option Int)(D:List KV)(w:World)(hv:aE w F p kn D)(hk:OkK kn)(hD:cD n D):
 Calls Tryz.prog 89 #[.pointer (some ⟨p,0,none⟩),.int .i64 b,.int .i64 l] w (aB w F p kn (fun x:Int×Bool=> .tuple #[.int .i64 x.1,.bool x.2]) (ea b l kn D)):=by
 obtain⟨Rr,hRr⟩:∃Rr,ea b l kn D=Rr:=⟨_,rfl⟩
 rw[hRr]
 have M0:Hq (MidV w w F (fun _=>False) p kn n D F):=hQQ (MidV.begin hv hD)
 have MM:=hQQ (ae.refl w)
 have NEED:Hq (∀a w2,Rr=.need a→aN w2 p a→Turned (fun b=>F b∨False) w w2→aB w F p kn (fun x:Int×Bool=>Value.tuple #[.int .i64 x.1,.bool x.2]) Rr (.panicked (aR p)) w2):=hQQ fun a w2 e hd ht=>ct MM.o (fun _ q=>q.elim) e hd ht
 have DONE:Hq (∀(x:Int×Bool) w2 D' F',Rr=.ok x D'→MidV w w2 F (fun _=>False) p kn n D' F'→aB w F p kn (fun x:Int×Bool=>Value.tuple #[.int .i64 x.1,.bool x.2]) Rr (.returned (.tuple #[.int .i64 x.1,.bool x.2])) w2):=hQQ fun x w2 D' F' e h=>bQ MM.o (fun _ q=>q.elim) h e
 have h1:=H.b1;have h0:=H.l0;have hh:=H.hi;have ht:=H.top
 have HK:=hQQ hk
 have HH:=hQQ H
 have HRr:=hQQ hRr
 clear hv hD hk hRr
 go_enter Tryz.func89,Tryz.ntmps89
 go_wp2_with fail
 refine(Am HH.o F p kn D w M0.o.view HK.o M0.o.inv).mono ?_
 intro e w3 he
 rcases M0.o.step (ae.refl _) HK.o (ls HH.o false) he with⟨a',hE,rfl,hd',ht',_⟩|⟨y,D3,F3,hE,rfl,M3,hq3,_,_⟩
 ·exact⟨rfl,NEED.o a' w3 (HRr.o.symm.trans (ag hE)) hd' ht'⟩
 obtain⟨y,z⟩:=y
 obtain⟨q0,q1,q2⟩:=hq3
 simp only at q0 q1 q2
 have R3:=hQQ ((aj hE).symm.trans HRr.o)
 have M3:=hQQ M3
 clear he hE
 by_cases z0:z=0
 ·have FIN:=hQQ (DONE.o (0,false) w3 D3 F3 (by have:=R3.o;rw[if_pos z0] at this;exact this.symm) M3.o)
  have g0:(z==0)=true:=by simp[z0]
  clear z0 R3 q2
  go_wp2_with fail
  go_ret2
  exact FIN.o
 ·have g0:(z==0)=false:=by simp[z0]
  have R3':=R3.o
  simp only[] at R3'
  rw[if_neg z0] at R3'
  have RB:=hQQ R3'
  clear R3' R3
  have q3:=hQQ (q2.resolve_left z0)
  have q4:=lB (x:=y-1) (by omega) (by omega)
  clear z0 q2
  go_wp2_with fail
  refine(jl F3 p kn D3 z w3 M3.o.view (by have:=q3.o;unfold W64;omega)).mono ?_
  intro e w4 he
  rcases M3.o.step (ae.refl _) HK.o (bd n (by have:=q3.o;omega)) he with⟨a',hE,rfl,hd',ht',_⟩|⟨x4,D4,F4,hE,rfl,M4,hq4,_,_⟩
  ·exact⟨rfl,NEED.o a' w4 (RB.o.symm.trans (ag hE)) hd' ht'⟩
  have R4:=hQQ ((aj hE).symm.trans RB.o)
  have M4:=hQQ M4
  clear he hE
  go_wp2_with fail
  refine(dp F4 p kn D4 b (y-1) w4 M4.o.view (by have:=M4.o.inv.len;omega)).mono ?_
  intro e w5 he
  rcases M4.o.step (ae.refl _) HK.o (aQ n (by unfold W64;omega) (by omega) (by unfold W64;omega)) he with⟨a',hE,rfl,hd',ht',_⟩|⟨x5,D5,F5,hE,rfl,M5,hq5,_,_⟩
  ·exact⟨rfl,NEED.o a' w5 (R4.o.symm.trans (ag hE)) hd' ht'⟩
  have FIN:=hQQ (DONE.o (x4,true) w5 D5 F5 (by have:=(aj hE).symm.trans R4.o;exact this.symm) M5)
  clear he hE
  go_wp2_with fail
  go_ret2
  exact FIN.o
inductive WayD where
 |room (b l:Int)
 |home
def jy (n:Nat):WayD→Prop
 | .room b l=>d6 b l n
 | .home=>True
section
variable (us pg st:Int)
def Ao:WayD→Int→Prg Bool
 | .room b l,a=>jR b l a
 | .home,a=>rj us pg st a
def lO:List WayD→Int→Prg Unit
 | [],_=>ay ()
 |y::t,a=>aq (Ao us pg st y a) fun b=>if b then ay () else lO t a
def dG (wy:List WayD)(k:Int):Nat→(Nat→List Int)→Prg (Nat→List Int)
 | 0,P=>ay P
 |m+1,P=>if gK P k then aq (lO us pg st wy (ia P k)) fun _=>dG wy k m (gQ P k) else ay P
def kI (wy:List WayD)(b l:Int):Nat→Prg Unit
 | 0=>ay ()
 |m+1=>aq (ea b l) fun x=>if x.2 then aq (lO us pg st wy x.1) fun _=>kI wy b l m else ay ()
def fc (wy:List WayD):List (Int×Int)→Prg Unit
 | []=>ay ()
 |s::t=>aq (kI us pg st wy s.1 s.2 (s.2.toNat+1)) fun _=>fc wy t
def uj:WayD→Int→List Int→Bool×List Int
 | .room b l,a,ws=>cI b l a ws
 | .home,a,ws=>gS us pg st a ws
def oG:List WayD→Int→List Int→List Int
 | [],_,ws=>ws
 |y::t,a,ws=>if(uj us pg st y a ws).1 then(uj us pg st y a ws).2 else oG t a (uj us pg st y a ws).2
def ib (wy:List WayD)(k:Int):Nat→(Nat→List Int)→List Int→(Nat→List Int)×List Int
 | 0,P,ws=>(P,ws)
 |m+1,P,ws=>if gK P k then ib wy k m (gQ P k) (oG us pg st wy (ia P k) ws) else(P,ws)
def rp (wy:List WayD)(b l:Int):Nat→List Int→List Int
 | 0,ws=>ws
 |m+1,ws=>if(a7 b l ws).1.2 then rp wy b l m (oG us pg st wy (a7 b l ws).1.1 (a7 b l ws).2) else(a7 b l ws).2
def nH (wy:List WayD):List (Int×Int)→List Int→List Int
 | [],ws=>ws
 |s::t,ws=>nH wy t (rp us pg st wy s.1 s.2 (s.2.toNat+1) ws)
theorem Gh (y:WayD)(a:Int):bg (Ao us pg st y a):=by
 cases y with
 |room b l=>exact xW _ _ _
 |home=>exact Cm _ _ _ _
theorem qI:∀(wy:List WayD) (a:Int),bg (lO us pg st wy a)
 | [],a=>ah _
 |y::t,a=>ak (Gh us pg st y a) fun b=>aH (ah _) (qI t a)
theorem mO (wy:List WayD)(k:Int):∀(m:Nat) (P:Nat→List Int),bg (dG us pg st wy k m P)
 | 0,P=>ah _
 |m+1,P=>aH (ak (qI us pg st _ _) fun _=>mO wy k m _) (ah _)
theorem uk (wy:List WayD)(b l:Int):∀m,bg (kI us pg st wy b l m)
 | 0=>ah _
 |m+1=>ak (rm _ _) fun x=>aH (ak (qI us pg st _ _) fun _=>uk wy b l m) (ah _)
theorem pK (wy:List WayD):∀t,bg (fc us pg st wy t)
 | []=>ah _
 |s::t=>ak (uk us pg st _ _ _ _) fun _=>pK wy t
end
theorem jU (P:Nat→List Int)(k:Nat)(xs:List Int):de P k xs k=xs:=by simp[de]
def pL (P:Nat→List Int):Prop:=∀j,j<5→∀a∈P j,W64 a
theorem ul {P:Nat→List Int}(h:pL P){k:Int}(e:gK P k=true):W64 (ia P k):=by
 have e':=e
 unfold gK at e'
 have hl:0<cY P k:=by simpa using e'
 unfold cY at hl
 split at hl
 ·rename_i hb
  obtain⟨j,rfl,hj⟩:=mL hb
  unfold ia
  rw[if_pos e]
  simp only[Int.toNat_natCast] at hl⊢
  refine h j hj _ ?_
  rw[List.getD_eq_getElem?_getD,List.getElem?_eq_getElem (by omega)]
  exact List.getElem_mem _
 ·omega
theorem um {P:Nat→List Int}(h:pL P)(k:Int):pL (gQ P k):=fun j hj a ha=>by
 unfold gQ at ha
 split at ha
 ·simp only at ha
  split at ha
  ·exact h j hj a (List.mem_of_mem_take ha)
  ·exact h j hj a ha
 ·exact h j hj a ha
theorem uo (P:Nat→List Int)(k:Int)(j:Nat):(gQ P k j).length≤(P j).length:=by
 unfold gQ
 split
 ·simp only
  split
  ·simp
  ·exact Nat.le_refl _
 ·exact Nat.le_refl _
theorem oH {α β:Type}{n:Nat}{p:Prg α}{f:α→Prg β}{g:List Int→α×List Int}{k:α→List Int→β×List Int}{Q:α→Prop}(h:bG n p g)(G:bK n Q p)(hf:∀x,Q x→bG n (f x) (k x)):bG n (aq p f) (fun ws=>k (g ws).1 (g ws).2):=fun zs D hn hz hD=>by
 obtain⟨D1,e1,a1,i1⟩:=h zs D hn hz hD
 obtain⟨D2,e2,a2,i2⟩:=hf (g (ce zs D)).1 (G.ok (jI hz) hD e1).2 zs D1 hn hz i1
 refine⟨D2,?_,?_,i2⟩
 ·rw[aj e1,e2,a1]
 ·rw[a2,a1]
section
variable {us pg st:Int}{n:Nat}(H:cF pg st n)
include H
theorem uq {y:WayD}(hy:jy n y){a:Int}(ha:W64 a):bK n (fun _=>True) (Ao us pg st y a):=by
 cases y with
 |room b l=>exact Af hy ha
 |home=>exact vW H us a
theorem pM {a:Int}(ha:W64 a):∀ {wy:List WayD},(∀y∈wy,jy n y)→bK n (fun _=>True) (lO us pg st wy a)
 | [],_=>ai n trivial
 |y::t,h=>ar (uq H (h y (by simp)) ha) fun b _=>aW (fun _=>ai n trivial) (fun _=>pM ha fun z hz=>h z (by simp[hz]))
theorem ur {wy:List WayD}(hy:∀y∈wy,jy n y)(k:Int):∀(m:Nat) (P:Nat→List Int),pL P→bK n (fun P'=>pL P'∧∀j,(P' j).length≤(P j).length) (dG us pg st wy k m P)
 | 0,P,h=>ai n ⟨h,fun _=>Nat.le_refl _⟩
 |m+1,P,h=>aW (fun e=>ar (pM H (ul h e) hy) fun _ _=>cW (ur hy k m _ (um h k)) fun P' q=>⟨q.1,fun j=>Nat.le_trans (q.2 j) (uo P k j)⟩) (fun _=>ai n ⟨h,fun _=>Nat.le_refl _⟩)
theorem wD {wy:List WayD}(hy:∀y∈wy,jy n y){b l:Int}(hs:d6 b l n):∀m,bK n (fun _=>True) (kI us pg st wy b l m)
 | 0=>ai n trivial
 |m+1=>ar (hU hs) fun x hx=>aW (fun _=>ar (pM H hx hy) fun _ _=>wD hy hs m) (fun _=>ai n trivial)
theorem rq {wy:List WayD}(hy:∀y∈wy,jy n y):∀t:List (Int×Int),(∀s∈t,d6 s.1 s.2 n)→bK n (fun _=>True) (fc us pg st wy t)
 | [],_=>ai n trivial
 |s::t,h=>ar (wD H hy (h s (by simp)) _) fun _ _=>rq hy t fun z hz=>h z (by simp[hz])
theorem Jr {y:WayD}(hy:jy n y){a:Int}(ha:W64 a):bG n (Ao us pg st y a) (uj us pg st y a):=by
 cases y with
 |room b l=>exact ro hy ha
 |home=>exact wn H us a
theorem ut {a:Int}(ha:W64 a):∀ {wy:List WayD},(∀y∈wy,jy n y)→bG n (lO us pg st wy a) (fun ws=>((),oG us pg st wy a ws))
 | [],_=>au n _
 |y::t,h=>by
  refine aU (aA (Jr H (h y (by simp)) ha) fun b=>bI (fun _=>au n ()) (fun _=>ut ha fun z hz=>h z (by simp[hz]))) fun ws _=>?_
  show _=((),oG us pg st (y::t) a ws)
  have e:oG us pg st (y::t) a ws=if(uj us pg st y a ws).1 then(uj us pg st y a ws).2 else oG us pg st t a (uj us pg st y a ws).2:=rfl
  rw[e]
  cases (uj us pg st y a ws).1<;>rfl
theorem oI {wy:List WayD}(hy:∀y∈wy,jy n y)(k:Int):∀(m:Nat) (P:Nat→List Int),pL P→bG n (dG us pg st wy k m P) (fun ws=>ib us pg st wy k m P ws)
 | 0,P,h=>au n _
 |m+1,P,h=>by
  refine aU (bI (fun e=>aA (ut H (ul h e) hy) fun _=>oI hy k m _ (um h k)) (fun _=>au n P)) fun ws _=>?_
  have e:ib us pg st wy k (m+1) P ws=if gK P k then ib us pg st wy k m (gQ P k) (oG us pg st wy (ia P k) ws) else(P,ws):=rfl
  rw[e]
theorem wE {wy:List WayD}(hy:∀y∈wy,jy n y){b l:Int}(hs:d6 b l n):∀m,bG n (kI us pg st wy b l m) (fun ws=>((),rp us pg st wy b l m ws))
 | 0=>au n _
 |m+1=>by
  refine aU (oH (oE hs) (hU hs) fun x hx=>bI (fun _=>aA (ut H hx hy) fun _=>wE hy hs m) (fun _=>au n ())) fun ws _=>?_
  have e:rp us pg st wy b l (m+1) ws=if(a7 b l ws).1.2 then rp us pg st wy b l m (oG us pg st wy (a7 b l ws).1.1 (a7 b l ws).2) else(a7 b l ws).2:=rfl
  rw[e]
  cases (a7 b l ws).1.2<;>rfl
theorem rr {wy:List WayD}(hy:∀y∈wy,jy n y):∀t:List (Int×Int),(∀s∈t,d6 s.1 s.2 n)→bG n (fc us pg st wy t) (fun ws=>((),nH us pg st wy t ws))
 | [],_=>au n _
 |s::t,h=>aA (wE H hy (h s (by simp)) _) fun _=>rr hy t fun z hz=>h z (by simp[hz])
end
section
variable (us pg st:Int)(S:Fam)(i0 i1:Nat)
theorem uu (a:Int)(ws:List Int):oG us pg st [.home] a ws=(gS us pg st a ws).2:=by
 have e:oG us pg st [.home] a ws=if(uj us pg st .home a ws).1 then(uj us pg st .home a ws).2 else(uj us pg st .home a ws).2:=rfl
 rw[e,ite_self];rfl
theorem Js (a:Int)(ws:List Int):oG us pg st [.room (S.b i0) (S.l i0),.room (S.b i1) (S.l i1),.home] a ws=ui us pg st S i0 i1 a ws:=by
 have e:oG us pg st [.room (S.b i0) (S.l i0),.room (S.b i1) (S.l i1),.home] a ws=if(cI (S.b i0) (S.l i0) a ws).1 then(cI (S.b i0) (S.l i0) a ws).2
  else if(cI (S.b i1) (S.l i1) a (cI (S.b i0) (S.l i0) a ws).2).1 then(cI (S.b i1) (S.l i1) a (cI (S.b i0) (S.l i0) a ws).2).2
  else oG us pg st [.home] a (cI (S.b i1) (S.l i1) a (cI (S.b i0) (S.l i0) a ws).2).2:=rfl
 rw[e,uu];rfl
theorem uv (k:Nat):∀(m:Nat) (P:Nat→List Int) (ws:List Int),ib us pg st [.room (S.b i0) (S.l i0),.room (S.b i1) (S.l i1),.home] k m P ws=jS us pg st S i0 i1 k m P ws
 | 0,P,ws=>rfl
 |m+1,P,ws=>by
  unfold ib jS
  rw[Js,uv k m]
theorem uw (x:Int):∀(l:List Int) (ws:List Int),iM us pg st (l++ [x]) ws=iM us pg st l (gS us pg st x ws).2
 | [],ws=>rfl
 |a::t,ws=>by
  show(gS us pg st a (iM us pg st (t++ [x]) ws)).2=_
  rw[uw x t ws];rfl
theorem rt {k:Nat}(hk:k<5):∀(m:Nat) (P:Nat→List Int) (ws:List Int),(P k).length=m→ib us pg st [.home] k m P ws=(de P k [],iM us pg st (P k) ws)
 | 0,P,ws,h=>by
   have e:=List.length_eq_zero_iff.1 h
   rw[e]
   have:de P k []=P:=by rw[←e];exact eP P k
   rw[this];rfl
 |m+1,P,ws,h=>by
  obtain⟨xs,x,e⟩:∃xs x,P k=xs++ [x]:=⟨(P k).dropLast,(P k).getLast (by intro q;rw[q] at h;simp at h),(List.dropLast_concat_getLast _).symm⟩
  obtain⟨e1,e2,e3⟩:=lx P hk e
  unfold ib
  rw[if_pos e1,e2,e3,uu,rt hk m _ _ (by rw[jU];rw[e] at h;simpa using h)]
  rw[lw,jU,e,uw]
theorem ru (b l:Int):∀(m:Nat) (ws:List Int),rp us pg st [.home] b l m ws=ip us pg st b l m ws
 | 0,ws=>rfl
 |m+1,ws=>by
  unfold rp ip
  rw[uu]
  split
  ·exact ru b l m _
  ·rename_i h
   unfold a7 at h⊢
   simp only at h⊢
   by_cases q:0<a6 l (wAt ws b)
   ·rw[if_pos q] at h;simp at h
   ·rw[if_neg q]
theorem rv (wy:List WayD)(s:Int×Int):∀(t:List (Int×Int)) (ws:List Int),nH us pg st wy (t++ [s]) ws=rp us pg st wy s.1 s.2 (s.2.toNat+1) (nH us pg st wy t ws)
 | [],ws=>rfl
 |z::t,ws=>rv wy s t _
def famL (S:Fam):Nat→List (Int×Int)
 | 0=> []
 |m+1=>famL S m++ [(S.b m,S.l m)]
theorem pN:∀(m:Nat) (ws:List Int),nH us pg st [.home] (famL S m) ws=gh us pg st S m ws
 | 0,ws=>rfl
 |m+1,ws=>by
  show nH us pg st [.home] (famL S m++ [(S.b m,S.l m)]) ws=_
  rw[rv,ru,pN m ws];rfl
theorem Ap {m:Nat}{s:Int×Int}(h:s∈famL S m):∃i,i<m∧s=(S.b i,S.l i):=by
 induction m with
 |zero=>cases h
 |succ m ih =>
  rcases List.mem_append.1 h with h|h
  ·obtain⟨i,hi,e⟩:=ih h;exact⟨i,by omega,e⟩
  ·exact⟨m,by omega,List.mem_singleton.1 h⟩
end
def PuN (O:Nat→Prop)(f:Nat→Value):Prop:=∀c,c<5→∀q,(f c).ownBlock=some q→O q
theorem PuN.mono {O O':Nat→Prop}{f:Nat→Value}(h:PuN O f)(m:∀q,O q→O' q):PuN O' f:=fun c hc q e=>m q (h c hc q e)
theorem PuN.nil (O:Nat→Prop):PuN O (fun _=> .slice none 0 0):=fun _ _ _ e=>by cases e
theorem Pu.lt {w:World}{f:Nat→Value}{P:Nat→List Int}(h:Pu w f P):PuN (fun q=>q<w.heap.size) f:=fun c hc q e=>by
 obtain⟨a,cap,hv,_,_,z⟩:=h c hc
 rw[hv] at e
 rcases z with⟨rfl,_⟩|⟨g,cur,rfl,hg,_⟩
 ·cases e
 ·cases e;exact ac hg
theorem Pu.off {w w':World}{f:Nat→Value}{P:Nat→List Int}{S:Nat→Prop}(h:Pu w f P)(n:PuN (fun q=>¬S q) f)(t:Turned S w w'):Pu w' f P:=fun c hc=>by
 obtain⟨a,cap,hv,h1,h2,z⟩:=h c hc
 refine⟨a,cap,hv,h1,h2,z.imp id ?_⟩
 rintro⟨g,cur,rfl,hg,r⟩
 exact⟨g,cur,rfl,(t.block g (ac hg) (n c hc g (by rw[hv];rfl))).trans hg,r⟩
def eI (w:World)(O:Nat→Prop)(P:Nat→List Int)(val:Value→Value)(e:Ending)(w':World):Prop:=∃f,e=.returned (val (.agg (puA f)))∧Pu w' f P∧ae w w'∧PuN (fun q=>O q∨w.heap.size≤q) f
theorem Aq (f:Nat→Value)(P:Nat→List Int)(k n:Nat)(w:World)(h:Pu w f P)(hk:k<5)(hn:n≤(P k).length)(hl:(P k).length≤1000000):
 Calls Tryz.prog 96 #[.agg (puA f),.int .i64 k,.int .i64 n] w (fun e w'=>∃a,e=.returned (.slice a n n)∧Rd w' (.slice a n n) ((P k).take n)∧ae w w'∧∀q,(Value.slice a n n).ownBlock=some q→(f k).ownBlock=some q):=by
 obtain⟨w1,e1,hl1,m1,s1⟩:=en1 w (.cells (puA f) 32)
 have M1:=hQQ m1
 obtain⟨a,⟨cap,hf,hc,h0⟩,hr⟩:=((h k hk).more m1).first hn
 have x1:w1.cell? ⟨w.heap.size,k,none⟩=some (.slice a (P k).length cap):=(kG hl1 hk).trans (by rw[hf])
 have HR:=hQQ hr
 have HO:Hq (∀q,(Value.slice a n n).ownBlock=some q→(f k).ownBlock=some q):=hQQ (fun q e=>by rw[hf];cases a<;>exact e)
 clear m1 h s1 hl1 hf hr
 have hm:=hk
 generalize (P k).length=m at *
 go_enter Tryz.func96,Tryz.ntmps96
 cases a with
 |none =>
  obtain rfl:=h0 rfl
  obtain rfl:n=0:=by omega
  go_wp2_with fail
  go_ret
  exact⟨_,rfl,HR.o,M1.o,HO.o⟩
 |some p =>
  clear h0
  go_wp2_with fail
  go_ret
  exact⟨_,rfl,HR.o,M1.o,HO.o⟩
theorem CJ (O:Nat→Prop)(f:Nat→Value)(P:Nat→List Int)(c a l:Int)(w:World)(h:Pu w f P)(ho:PuN O f)(hb:dT P c l=false):
 Calls Tryz.prog 67 #[.agg (puA f),.int .i64 c,.int .i64 a,.int .i64 l] w (eI w O P (fun v=> .tuple #[v,.bool false])):=by
 obtain⟨z0,hz0⟩:∃z:Array Value,z= #[.slice none 0 0,.slice none 0 0,.slice none 0 0,.slice none 0 0,.slice none 0 0]:=⟨_,rfl⟩
 obtain⟨w2,e2,hl1,hl2,m2,s2⟩:=en2 w (.cells (puA f) 32) (.cells #[.slice none 0 0,.slice none 0 0,.slice none 0 0,.slice none 0 0,.slice none 0 0] 32)
 have L1:=hQQ hl1
 have L2:=hQQ hl2
 have M2:=hQQ m2
 have HP:=hQQ (h.more m2)
 have HL:=hQQ (fun W (hW:ae w2 W)=>pI f P c W (HP.o.more hW))
 have HC:=hQQ (fun W=>nG c W)
 have H1:=hQQ h.all1
 have FIN:Hq (∀W,ae w2 W→eI w O P (fun v=> .tuple #[v,.bool false]) (.returned (.tuple #[.agg (puA f),.bool false])) (W.setRow (w.heap.size+1) (puA f))):=hQQ fun W hW =>
  ⟨f,rfl,(HP.o.more hW).keep (S:=fun k=>k=w.heap.size+1) (Turned.setRow (Turned.refl _ W) _ _ (fun _=>rfl)) (fun k q=>by subst q;exact⟨_,_,_,hW.block L2.o,by decide⟩),(M2.o.trans hW).setRow _ _ (by omega),ho.mono (fun _ z=> .inl z)⟩
 clear hl1 hl2 m2 h s2 ho
 cases hc:iR c with
 |false =>
  rw[hc] at HC
  rw[Ek P hc] at HL
  clear hc hb
  go_enter Tryz.func67,Tryz.ntmps67
  go_wp2_with (refine kM rfl rfl rfl L1.o (by kernel_rfl) ?_)
  refine(HL.o w2 (ae.refl _)).mono ?_
  rintro e w3 ⟨rfl,h3⟩
  have M3:=hQQ h3
  clear h3
  go_wp2_with fail
  refine(HC.o w3).mono ?_
  rintro e w4 ⟨rfl,h4⟩
  have M4:=hQQ (M3.o.trans h4)
  clear h4
  go_wp2_with (first|(refine kM rfl rfl rfl (M4.o.block L1.o) (by kernel_rfl) ?_)|(refine wpList_store_row rfl 32 _ _ rfl _ _ rfl rfl 32 _ (M4.o.block L2.o) (by kernel_rfl) rfl H1.o ?_))
  refine bodyPost_ret (v:=.tuple #[.agg (puA f),.bool false]) (xZ Tryz.results67 _ _ _ 32 _ (0,0) _ rfl (setRow_heap _ _ _ _ _ _ (M4.o.block L2.o)) Tryz.underlying32 rfl (by kernel_rfl)) rfl (FIN.o _ M4.o)
 |true =>
  rw[hc] at HC
  obtain⟨n,hn⟩:∃n,cY P c=n:=⟨_,rfl⟩
  rw[hn] at HL
  have hb2:decide (l≤n)=true:=by simp[dT,hc,hn] at hb;simpa using hb
  clear hc hb hn
  go_enter Tryz.func67,Tryz.ntmps67
  go_wp2_with (refine kM rfl rfl rfl L1.o (by kernel_rfl) ?_)
  refine(HL.o w2 (ae.refl _)).mono ?_
  rintro e w3 ⟨rfl,h3⟩
  have M3:=hQQ h3
  clear h3
  go_wp2_with fail
  refine(HC.o w3).mono ?_
  rintro e w4 ⟨rfl,h4⟩
  have M4:=hQQ (M3.o.trans h4)
  clear h4
  go_wp2_with (first|(refine kM rfl rfl rfl (M4.o.block L1.o) (by kernel_rfl) ?_)|(refine wpList_store_row rfl 32 _ _ rfl _ _ rfl rfl 32 _ (M4.o.block L2.o) (by kernel_rfl) rfl H1.o ?_))
  refine bodyPost_ret (v:=.tuple #[.agg (puA f),.bool false]) (xZ Tryz.results67 _ _ _ 32 _ (0,0) _ rfl (setRow_heap _ _ _ _ _ _ (M4.o.block L2.o)) Tryz.underlying32 rfl (by kernel_rfl)) rfl (FIN.o _ M4.o)
theorem Ar (O:Nat→Prop)(f:Nat→Value)(P:Nat→List Int)(k:Nat)(a l:Int)(w:World)(h:Pu w f P)(ho:PuN O f)(hk:k<5)(hl:(P k).length<l)(hL:(P k).length≤1000000):
 Calls Tryz.prog 67 #[.agg (puA f),.int .i64 k,.int .i64 a,.int .i64 l] w (eI w O (fun j=>if j=k then P j++ [a] else P j) (fun v=> .tuple #[v,.bool true])):=by
 obtain⟨w2,e2,hl1,hl2,m2,s2⟩:=en2 w (.cells (puA f) 32) (.cells #[.slice none 0 0,.slice none 0 0,.slice none 0 0,.slice none 0 0,.slice none 0 0] 32)
 have L1:=hQQ hl1
 have L2:=hQQ hl2
 have M2:=hQQ m2
 have HP:=hQQ (h.more m2)
 have HL:=hQQ (fun W (hW:ae w2 W)=>pI f P k W (HP.o.more hW))
 rw[d7 P hk] at HL
 have HC:=hQQ (fun W=>nG k W)
 rw[xY hk] at HC
 have HF:=hQQ (fun W (hW:ae w2 W)=>Aq f P k (P k).length W (HP.o.more hW) hk (Nat.le_refl _) hL)
 rw[List.take_length] at HF
 have FIN:Hq (∀W v,ae w2 W→Rd W v (P k++ [a])→(∀q,v.ownBlock=some q→O q∨w.heap.size≤q)→(((W.setCell ⟨w.heap.size,k,none⟩ v).setRow (w.heap.size+1) (puA (jx f k v))).heap[w.heap.size+1]?=some (.cells (puA (jx f k v)) 32 (0,0)))∧(W.setCell ⟨w.heap.size,k,none⟩ v).heap[w.heap.size]?=some (.cells (puA (jx f k v)) 32 (0,0))∧(W.setCell ⟨w.heap.size,k,none⟩ v).heap[w.heap.size+1]?=W.heap[w.heap.size+1]? ∧(puA (jx f k v)).all (·.oneCell')=true ∧
  eI w O (fun j=>if j=k then P j++ [a] else P j) (fun v=> .tuple #[v,.bool true]) (.returned (.tuple #[.agg (puA (jx f k v)),.bool true])) ((W.setCell ⟨w.heap.size,k,none⟩ v).setRow (w.heap.size+1) (puA (jx f k v)))):=hQQ fun W v hW hv hvo=>by
  have q1:=hW.block L1.o
  have q2:=hW.block L2.o
  have q3:=heap_setCell_same W _ k _ _ v q1
  rw[Ej f hk] at q3
  have q4:(W.setCell ⟨w.heap.size,k,none⟩ v).heap[w.heap.size+1]?=W.heap[w.heap.size+1]? :=heap_setCell_other W _ _ v (by simp)
  have t1:Turned (fun j=>j=w.heap.size) W (W.setCell ⟨w.heap.size,k,none⟩ v):=Turned.setCell (Turned.refl _ W) _ _ (fun _=>rfl)
  have t2:Turned (fun j=>j=w.heap.size∨j=w.heap.size+1) W ((W.setCell ⟨w.heap.size,k,none⟩ v).setRow (w.heap.size+1) (puA (jx f k v))):=Turned.setRow (t1.mono fun _ _ q=> .inl q) _ _ (fun _=> .inr rfl)
  have hpu:Pu W (jx f k v) (fun j=>if j=k then P j++ [a] else P j):=fun c hc=>by
   unfold jx
   by_cases e:c=k
   ·subst e;simpa using hv
   ·simpa [e] using (HP.o.more hW) c hc
  have hno:PuN (fun q=>O q∨w.heap.size≤q) (jx f k v):=fun c hc q e=>by
   unfold jx at e
   by_cases z:c=k
   ·subst z;exact hvo q (by simpa using e)
   ·rw[if_neg z] at e;exact .inl (ho c hc q e)
  refine⟨setRow_heap _ _ _ _ _ _ (q4.trans q2),q3,q4,hpu.all1,_,rfl,hpu.keep t2 ?_,?_,hno⟩
  ·rintro j (rfl|rfl)
   ·exact⟨_,_,_,q1,by decide⟩
   ·exact⟨_,_,_,q2,by decide⟩
  ·exact(Turned.setCell (M2.o.trans hW) _ _ (fun q=>by simp at q)).setRow _ _ (by omega)
 have hm:=hQQ hk
 have d0:decide (l≤((P k).length:Int))=false:=by simp;omega
 obtain⟨n,hn⟩:∃n,(P k).length=n:=⟨_,rfl⟩
 have HN:=hQQ hn
 rw[hn] at HL HF d0 hL hl
 clear hn
 have HB:=hQQ (fun q e=>ho k hk q e)
 have MS:=hQQ (Nat.le_trans m2.size (Nat.le_refl _))
 clear hl1 hl2 m2 h s2 ho
 go_enter Tryz.func67,Tryz.ntmps67
 go_wp2_with (refine kM rfl rfl rfl L1.o (by kernel_rfl) ?_)
 refine(HL.o w2 (ae.refl _)).mono ?_
 rintro e w3 ⟨rfl,h3⟩
 have M3:=hQQ h3
 clear h3
 go_wp2_with fail
 refine(HC.o w3).mono ?_
 rintro e w4 ⟨rfl,h4⟩
 have M4:=hQQ (M3.o.trans h4)
 clear h4
 go_wp2_with (refine kM rfl rfl rfl (M4.o.block L1.o) (by kernel_rfl) ?_)
 refine(HF.o w4 M4.o).mono ?_
 rintro e w5 ⟨b,rfl,h5,m5,o5⟩
 have R5:=hQQ h5
 have O5:=hQQ o5
 have M5:=hQQ (M4.o.trans m5)
 clear h5 m5 o5
 go_wp2_with (first
  |(at_builtin
    refine Ag a n rfl _ _ rfl rfl R5.o (by rw[HN.o];exact hL) HN.o rfl ?_
    intro g cap w6 hg hr hm6
    have M6:=hQQ (M5.o.trans hm6)
    have F6:=hQQ (FIN.o w6 _ M6.o hr (fun q e=> .inr (by cases e;exact Nat.le_trans MS.o (Nat.le_trans M5.o.size hg))))
    have x1:=kG (M6.o.block L1.o) hk
    have x2:=frozen_of_row w6 w.heap.size k _ _ (M6.o.block L1.o)
    clear hg hr hm6 R5)
  |(refine kM rfl rfl rfl F6.o.2.1 (by kernel_rfl) ?_)
  |(refine wpList_store_row rfl 32 _ _ rfl _ _ rfl rfl 32 _ (F6.o.2.2.1.trans (M6.o.block L2.o)) (by kernel_rfl) rfl F6.o.2.2.2.1 ?_))
 refine bodyPost_ret (v:=.tuple #[.agg _,.bool true]) (xZ Tryz.results67 _ _ _ 32 _ (0,0) _ rfl F6.o.1 Tryz.underlying32 rfl (by kernel_rfl)) rfl F6.o.2.2.2.2
theorem yd (O:Nat→Prop)(f:Nat→Value)(P:Nat→List Int)(c a l:Int)(w:World)(h:Pu w f P)(ho:PuN O f)(hL:∀k,k<5→(P k).length≤1000000):
 Calls Tryz.prog 67 #[.agg (puA f),.int .i64 c,.int .i64 a,.int .i64 l] w (eI w O (d9 P c a l) (fun v=> .tuple #[v,.bool (dT P c l)])):=by
 cases hb:dT P c l with
 |false =>
  have:=CJ O f P c a l w h ho hb
  simpa [d9,hb] using this
 |true =>
  have hb':=hb
  simp[dT] at hb'
  obtain⟨k,rfl,hk⟩:=mL hb'.1
  rw[d7 P hk] at hb'
  have:=Ar O f P k a l w h ho hk hb'.2 (hL k hk)
  simpa [d9,hb] using this
theorem Gi (O:Nat→Prop)(f:Nat→Value)(P:Nat→List Int)(c:Int)(w:World)(h:Pu w f P)(ho:PuN O f)(hb:cY P c=0):
 Calls Tryz.prog 65 #[.agg (puA f),.int .i64 c] w (eI w O P (fun v=> .tuple #[v,.int .i64 0,.bool false])):=by
 obtain⟨w2,e2,hl1,hl2,m2,s2⟩:=en2 w (.cells (puA f) 32) (.cells #[.slice none 0 0,.slice none 0 0,.slice none 0 0,.slice none 0 0,.slice none 0 0] 32)
 have L1:=hQQ hl1
 have L2:=hQQ hl2
 have M2:=hQQ m2
 have HP:=hQQ (h.more m2)
 have HL:=hQQ (fun W (hW:ae w2 W)=>pI f P c W (HP.o.more hW))
 rw[hb] at HL
 have H1:=hQQ h.all1
 have FIN:Hq (∀W,ae w2 W→eI w O P (fun v=> .tuple #[v,.int .i64 0,.bool false]) (.returned (.tuple #[.agg (puA f),.int .i64 0,.bool false])) (W.setRow (w.heap.size+1) (puA f))):=hQQ fun W hW =>
  ⟨f,rfl,(HP.o.more hW).keep (S:=fun k=>k=w.heap.size+1) (Turned.setRow (Turned.refl _ W) _ _ (fun _=>rfl)) (fun k q=>by subst q;exact⟨_,_,_,hW.block L2.o,by decide⟩),(M2.o.trans hW).setRow _ _ (by omega),ho.mono (fun _ z=> .inl z)⟩
 clear hl1 hl2 m2 h s2 ho hb
 go_enter Tryz.func65,Tryz.ntmps65
 go_wp2_with (refine kM rfl rfl rfl L1.o (by kernel_rfl) ?_)
 refine(HL.o w2 (ae.refl _)).mono ?_
 rintro e w3 ⟨rfl,h3⟩
 have M4:=hQQ h3
 clear h3
 go_wp2_with (first|(refine kM rfl rfl rfl (M4.o.block L1.o) (by kernel_rfl) ?_)|(refine wpList_store_row rfl 32 _ _ rfl _ _ rfl rfl 32 _ (M4.o.block L2.o) (by kernel_rfl) rfl H1.o ?_))
 refine bodyPost_ret (v:=.tuple #[.agg (puA f),.int .i64 0,.bool false]) (sd Tryz.results65 _ _ _ 32 _ (0,0) _ rfl (setRow_heap _ _ _ _ _ _ (M4.o.block L2.o)) Tryz.underlying32 rfl (by kernel_rfl)) rfl (FIN.o _ M4.o)
theorem CM (O:Nat→Prop)(f:Nat→Value)(P:Nat→List Int)(k m:Nat)(w:World)(h:Pu w f P)(ho:PuN O f)(hk:k<5)(hm:(P k).length=m+1)(hL:m+1≤1000000):
 Calls Tryz.prog 65 #[.agg (puA f),.int .i64 k] w (eI w O (fun j=>if j=k then(P j).take m else P j) (fun v=> .tuple #[v,.int .i64 ((P k).getD m 0),.bool true])):=by
 obtain⟨w2,e2,hl1,hl2,m2,s2⟩:=en2 w (.cells (puA f) 32) (.cells #[.slice none 0 0,.slice none 0 0,.slice none 0 0,.slice none 0 0,.slice none 0 0] 32)
 have L1:=hQQ hl1
 have L2:=hQQ hl2
 have M2:=hQQ m2
 have HP:=hQQ (h.more m2)
 have HL:=hQQ (fun W (hW:ae w2 W)=>pI f P k W (HP.o.more hW))
 rw[d7 P hk,hm] at HL
 have HF:=hQQ (fun W (hW:ae w2 W)=>Aq f P k m W (HP.o.more hW) hk (by omega) (by omega))
 have HX:Hq (∀W,ae w2 W→∃a cap,W.cell? ⟨w.heap.size,k,none⟩=some (.slice (some ⟨a,0,none⟩) (m+1) cap)∧W.cell? ⟨a,m,none⟩=some (.int .i64 ((P k).getD m 0))):=hQQ fun W hW=>by
  obtain⟨a,cap,hf,_,hc⟩:=(HP.o.more hW k hk).cell
  obtain⟨g,rfl,hx⟩:=hc m (by omega)
  exact⟨g,cap,(kG (hW.block L1.o) hk).trans (by rw[hf,hm]),hx⟩
 have FIN:Hq (∀W v,ae w2 W→Rd W v ((P k).take m)→(∀q,v.ownBlock=some q→O q∨w.heap.size≤q)→(((W.setCell ⟨w.heap.size,k,none⟩ v).setRow (w.heap.size+1) (puA (jx f k v))).heap[w.heap.size+1]?=some (.cells (puA (jx f k v)) 32 (0,0)))∧(W.setCell ⟨w.heap.size,k,none⟩ v).heap[w.heap.size]?=some (.cells (puA (jx f k v)) 32 (0,0))∧(W.setCell ⟨w.heap.size,k,none⟩ v).heap[w.heap.size+1]?=W.heap[w.heap.size+1]? ∧(puA (jx f k v)).all (·.oneCell')=true ∧
  eI w O (fun j=>if j=k then(P j).take m else P j) (fun v=> .tuple #[v,.int .i64 ((P k).getD m 0),.bool true]) (.returned (.tuple #[.agg (puA (jx f k v)),.int .i64 ((P k).getD m 0),.bool true])) ((W.setCell ⟨w.heap.size,k,none⟩ v).setRow (w.heap.size+1) (puA (jx f k v)))):=hQQ fun W v hW hv hvo=>by
  have q1:=hW.block L1.o
  have q2:=hW.block L2.o
  have q3:=heap_setCell_same W _ k _ _ v q1
  rw[Ej f hk] at q3
  have q4:(W.setCell ⟨w.heap.size,k,none⟩ v).heap[w.heap.size+1]?=W.heap[w.heap.size+1]? :=heap_setCell_other W _ _ v (by simp)
  have t1:Turned (fun j=>j=w.heap.size) W (W.setCell ⟨w.heap.size,k,none⟩ v):=Turned.setCell (Turned.refl _ W) _ _ (fun _=>rfl)
  have t2:Turned (fun j=>j=w.heap.size∨j=w.heap.size+1) W ((W.setCell ⟨w.heap.size,k,none⟩ v).setRow (w.heap.size+1) (puA (jx f k v))):=Turned.setRow (t1.mono fun _ _ q=> .inl q) _ _ (fun _=> .inr rfl)
  have hpu:Pu W (jx f k v) (fun j=>if j=k then(P j).take m else P j):=fun c hc=>by
   unfold jx
   by_cases e:c=k
   ·subst e;simpa using hv
   ·simpa [e] using (HP.o.more hW) c hc
  have hno:PuN (fun q=>O q∨w.heap.size≤q) (jx f k v):=fun c hc q e=>by
   unfold jx at e
   by_cases z:c=k
   ·subst z;exact hvo q (by simpa using e)
   ·rw[if_neg z] at e;exact .inl (ho c hc q e)
  refine⟨setRow_heap _ _ _ _ _ _ (q4.trans q2),q3,q4,hpu.all1,_,rfl,hpu.keep t2 ?_,?_,hno⟩
  ·rintro j (rfl|rfl)
   ·exact⟨_,_,_,q1,by decide⟩
   ·exact⟨_,_,_,q2,by decide⟩
  ·exact(Turned.setCell (M2.o.trans hW) _ _ (fun q=>by simp at q)).setRow _ _ (by omega)
 have hm0:=hQQ hk
 obtain⟨x,hx⟩:∃x,(P k).getD m 0=x:=⟨_,rfl⟩
 rw[hx] at HX FIN⊢
 have HB:=hQQ (fun q e=>ho k hk q e)
 have MS:=hQQ (Nat.le_trans m2.size (Nat.le_refl _))
 clear hl1 hl2 m2 h s2 ho hm hx
 go_enter Tryz.func65,Tryz.ntmps65
 go_wp2_with (refine kM rfl rfl rfl L1.o (by kernel_rfl) ?_)
 refine(HL.o w2 (ae.refl _)).mono ?_
 rintro e w4 ⟨rfl,h4⟩
 have M4:=hQQ h4
 obtain⟨a,cap,x1,x2⟩:=HX.o w4 h4
 clear h4
 go_wp2_with (refine kM rfl rfl rfl (M4.o.block L1.o) (by kernel_rfl) ?_)
 refine(HF.o w4 M4.o).mono ?_
 rintro e w5 ⟨b,rfl,h5,m5,o5⟩
 have M5:=hQQ (M4.o.trans m5)
 have F6:=hQQ (FIN.o w5 _ M5.o h5 (fun q e=> .inl (HB.o q (o5 q e))))
 have x3:=kG (M5.o.block L1.o) hk
 have x4:=frozen_of_row w5 w.heap.size k _ _ (M5.o.block L1.o)
 clear h5 m5 o5 x1 x2
 go_wp2_with (first
  |(refine kM rfl rfl rfl F6.o.2.1 (by kernel_rfl) ?_)
  |(refine wpList_store_row rfl 32 _ _ rfl _ _ rfl rfl 32 _ (F6.o.2.2.1.trans (M5.o.block L2.o)) (by kernel_rfl) rfl F6.o.2.2.2.1 ?_))
 refine bodyPost_ret (v:=.tuple #[.agg _,.int .i64 x,.bool true]) (sd Tryz.results65 _ _ _ 32 _ (0,0) _ rfl F6.o.1 Tryz.underlying32 rfl (by kernel_rfl)) rfl F6.o.2.2.2.2
theorem Jt (O:Nat→Prop)(f:Nat→Value)(P:Nat→List Int)(c:Int)(w:World)(h:Pu w f P)(ho:PuN O f)(hL:∀k,k<5→(P k).length≤1000000):
 Calls Tryz.prog 65 #[.agg (puA f),.int .i64 c] w (eI w O (gQ P c) (fun v=> .tuple #[v,.int .i64 (ia P c),.bool (gK P c)])):=by
 cases hb:gK P c with
 |false =>
  have h0:cY P c=0:=by simp[gK] at hb;unfold cY at *;split at hb<;>simp_all
  have:=Gi O f P c w h ho h0
  simpa [gQ,ia,hb] using this
 |true =>
  have hb':=hb
  simp[gK] at hb'
  have hc:iR c=true:=by
   cases q:iR c with
   |true=>rfl
   |false=>rw[Ek P q] at hb';omega
  obtain⟨k,rfl,hk⟩:=mL hc
  rw[d7 P hk] at hb'
  obtain⟨m,hm⟩:∃m,(P k).length=m+1:=⟨(P k).length-1,by omega⟩
  have:=CM O f P k m w h ho hk hm (by have:=hL k hk;omega)
  have e1:ia P k=(P k).getD m 0:=by simp[ia,hb,hm]
  have e2:gQ P k=fun j=>if j=k then(P j).take m else P j:=by
   unfold gQ
   rw[if_pos hb]
   funext j
   by_cases e:j=k
   ·subst e;simp[hm]
   ·simp[e]
  rw[e1,e2]
  exact this
def cN (F:Nat→Prop)(w:World)(f:Nat→Value)(P:Nat→List Int):Prop:=Pu w f P∧PuN (fun q=>¬F q) f
theorem cN.nil (F:Nat→Prop)(w:World):cN F w (fun _=> .slice none 0 0) (fun _=> []):=⟨fun _ _=>Rd.nil w,PuN.nil _⟩
theorem cN.more {F:Nat→Prop}{w w':World}{f:Nat→Value}{P:Nat→List Int}(h:cN F w f P)(m:ae w w'):cN F w' f P:=⟨h.1.more m,h.2⟩
theorem cN.stay {F F1:Nat→Prop}{w w':World}{f:Nat→Value}{P:Nat→List Int}(h:cN F w f P)(s:∀b o,¬F b→w.heap[b]?=some o→w'.heap[b]?=some o)(n:∀b,F1 b→F b∨w.heap.size≤b):cN F1 w' f P:=by
 refine⟨fun c hc=>?_,fun c hc q e z=>?_⟩
 ·obtain⟨a,cap,hv,h1,h2,z⟩:=h.1 c hc
  refine⟨a,cap,hv,h1,h2,z.imp id ?_⟩
  rintro⟨g,cur,rfl,hg,r⟩
  exact⟨g,cur,rfl,s _ _ (h.2 c hc g (by rw[hv];rfl)) hg,r⟩
 ·rcases n q z with r|r
  ·exact h.2 c hc q e r
  ·have:=h.1.lt c hc q e
   omega
theorem cN.keep {F:Nat→Prop}{w w':World}{f:Nat→Value}{P:Nat→List Int}(h:cN F w f P){S:Nat→Prop}(t:Turned S w w')(hs:∀k,S k→∃cs T fr,w.heap[k]?=some (.cells cs T fr)∧T≠3):cN F w' f P:=⟨h.1.keep t hs,h.2⟩
theorem cN.stayN {F F1 N:Nat→Prop}{w w':World}{f:Nat→Value}{P:Nat→List Int}(h:cN (fun q=>N q∨F q) w f P)(s:∀b o,¬F b→w.heap[b]?=some o→w'.heap[b]?=some o)(n:∀b,F1 b→F b∨w.heap.size≤b):cN (fun q=>N q∨F1 q) w' f P :=
 h.stay (fun b o nb hb=>s b o (fun q=>nb (.inr q)) hb) (fun b q=>by
  rcases q with q|q
  ·exact .inl (.inl q)
  ·exact(n b q).imp .inr id)
theorem eI.at {F:Nat→Prop}{w w':World}{P:Nat→List Int}{val:Value→Value}{e:Ending}(h:eI w (fun q=>¬F q) P val e w')(l:∀q,F q→q<w.heap.size):∃f,e=.returned (val (.agg (puA f)))∧cN F w' f P∧ae w w':=by
 obtain⟨f,e1,h1,m1,n1⟩:=h
 refine⟨f,e1,⟨h1,n1.mono fun q z y=>?_⟩,m1⟩
 rcases z with z|z
 ·exact z y
 ·have:=l q y;omega
def iB {α:Type}(w:World)(F N:Nat→Prop)(p:Nat)(kn:Int→Option Int)(val:α→Value→Value)(R:Res (α×(Nat→List Int)))(e:Ending)(w':World):Prop :=
 match R with
 | .need a=>vz w F p a e w'
 | .ok x D=>∃f F',e=.returned (val x.1 (.agg (puA f)))∧aE w' F' p kn D∧Turned F w w'∧(∀k,F' k→F k∨w.heap.size≤k)∧cN (fun q=>N q∨F' q) w' f x.2
theorem MidV.stepP {α:Type}{W wr w1 w2:World}{F S F' N:Nat→Prop}{p n:Nat}{kn:Int→Option Int}{D:List KV}{val:α→Value→Value}{Q:(α×(Nat→List Int))→Prop}{pr:Prg (α×(Nat→List Int))}{e:Ending}(h:MidV W wr F S p kn n D F')(m:ae wr w1)(hk:OkK kn)(G:bK n Q pr)(he:iB w1 F' N p kn val (pr kn D) e w2):
 (∃a,pr kn D=.need a∧e=.panicked (aR p)∧aN w2 p a∧Turned (fun b=>F b∨S b) W w2∧∀b o,¬F' b→wr.heap[b]?=some o→w2.heap[b]?=some o) ∨
 (∃x f D1 F1,pr kn D=.ok x D1∧e=.returned (val x.1 (.agg (puA f)))∧MidV W w2 F S p kn n D1 F1∧cN (fun q=>N q∨F1 q) w2 f x.2∧Q x∧(∀b o,¬F' b→wr.heap[b]?=some o→w2.heap[b]?=some o)∧∀b,F1 b→F' b∨wr.heap.size≤b):=by
 have hm:=h.more m
 have hs:=m.size
 have hK:∀t,Turned F' w1 t→∀b o,¬F' b→wr.heap[b]?=some o→t.heap[b]?=some o:=fun t ht b o nb hb=>(ht.block b (ac (m.block hb)) nb).trans (m.block hb)
 cases hE:pr kn D with
 |need a =>
  rw[hE] at he
  obtain⟨h1,h2,h3⟩:=he
  exact .inl ⟨a,rfl,h1,h2,am hm.turn h3 (fun k q=>(h.from' k q).imp .inl id),hK _ h3⟩
 |ok x D1 =>
  rw[hE] at he
  obtain⟨f,F1,h1,hv,ht,hn,hp⟩:=he
  obtain⟨i1,q1⟩:=G.ok hk h.inv hE
  refine .inr ⟨x,f,D1,F1,rfl,h1,⟨hv,fun k q=>?_,am hm.turn ht (fun k q=>(h.from' k q).imp .inl id),i1⟩,hp,q1,hK _ ht,fun b q=>(hn b q).imp id (fun r=>by omega)⟩
  rcases hn k q with r|r
  ·exact h.from' k r
  ·have:=hm.size;exact .inr (by omega)
attribute [local go_sem] Oper.semAt_some
theorem rx {o:Oper}{a:Act}{w:World}{K:Act→World→Prop}{Q:Exit→Act→World→Prop}(ho:o.op=.alloc 32)(h:K (a.put o.dst (.pointer (some ⟨w.heap.size,0,none⟩))) (w.alloc (.cells #[.slice none 0 0,.slice none 0 0,.slice none 0 0,.slice none 0 0,.slice none 0 0] 32))):Oper.wp Tryz.prog o a w K Q:=by
 unfold Oper.wp Oper.upon execOp
 simp only[ho]
 generalize a.eval=ρ
 go_simp
 exact h
theorem AG.skipN {m:Nat}{a:Act}{L:List (Nat×Value)}(h:AG m a L)(v:Value):AG m (a.put none v) L:=h
def PuF (O:Nat→Prop)(w:World)(f:Nat→Value)(P:Nat→List Int):Prop:=Pu w f P∧PuN O f
theorem PuF.more {O:Nat→Prop}{w w':World}{f:Nat→Value}{P:Nat→List Int}(h:PuF O w f P)(m:ae w w'):PuF O w' f P:=⟨h.1.more m,h.2⟩
theorem PuF.keep {O:Nat→Prop}{w w':World}{f:Nat→Value}{P:Nat→List Int}(h:PuF O w f P){S:Nat→Prop}(t:Turned S w w')(hs:∀k,S k→∃cs T fr,w.heap[k]?=some (.cells cs T fr)∧T≠3):PuF O w' f P:=⟨h.1.keep t hs,h.2⟩
structure LsS where
 i:Nat
 P:Nat→List Int
 D:List KV
 F:Nat→Prop
 a:Int
def Oa (f:Nat→Value)(q:Nat):Prop:=∃c,c<5∧(f c).ownBlock=some q
def CO (nb qb cb pb:Nat)(m:Nat)(k:Int):yz LsS where
 enc s:= #[.int .i64 s.a]
 See s A:=eE A nb m∧A.heap[qb]?=some (.cells #[.pointer (some ⟨pb,0,none⟩)] 102 (0,0))∧eE A cb k∧∃f,A.heap[pb]?=some (.cells (puA f) 32 (0,0))∧Pu A f s.P∧∀j,j<5→(s.P j).length≤1000000
 Own s s' A B:=s.i<m∧gK s.P k=true∧s'=⟨s.i+1,gQ s.P k,s.D,s.F,ia s.P k⟩∧∃f f',A.heap[pb]?=some (.cells (puA f) 32 (0,0))∧B.heap[pb]?=some (.cells (puA f') 32 (0,0))∧Turned (fun q=>q=pb) A B∧Pu B f' (gQ s.P k)∧PuN (fun q=>Oa f q∨A.heap.size≤q) f'
 Fin s s' A B:=s'=s∧(m≤s.i∨gK s.P k=false)∧ae A B
 Ned _ _ _ _:=False
 Skp _ _ _ _:=False
 Rel s s' _ _:=s'.i=s.i
theorem CR (q:Nat)(hq:1≤q)(nb qb cb pb:Nat)(m:Nat)(hm:m≤1000000)(k:Int)(s0:LsS)(w0:World)(h00:s0.i=0):
 A3 (CO nb qb cb pb m k) Fence.wide q Tryz.prog 85 #[.pointer (some ⟨nb,0,none⟩),.pointer (some ⟨qb,0,none⟩),.pointer (some ⟨cb,0,none⟩)] s0 w0:=by
 intro l J J' Je Jx W hW mJ mJ' mJe mJx hsee hown hfin hned hskp hY h0
 have HSEE:=hQQ hsee
 have HOWN:=hQQ hown
 have HFIN:=hQQ hfin
 have HY:=hQQ hY
 have HJ0:=hQQ h0
 have bn:=(hsee _ _ h0).1
 have cn:=(aC bn).1
 clear hW mJ mJ' mJe mJx hsee hown hfin hned hskp hY h0 bn
 refine callsIn_of_wp Tryz.func85 rfl trivial ?_ rfl
 simp only[Tryz.ntmps85,List.size_toArray,List.length_cons,List.length_nil,Nat.reduceAdd,Nat.reduceSub,Array.replicate_succ,Array.replicate_zero,List.push_toArray,List.append_toArray,List.nil_append,List.cons_append]
 gi_wp2
 clear cn
 gi_loopw [9] (fun u wr=>∃(i:Nat) (s:LsS),i≤m∧u=.int .i64 (i:Int)∧s.i=i∧J s wr) (fun u _=>m-(intOf u).toNat)
 case atStart=>exact⟨0,s0,Nat.zero_le _,rfl,h00,HJ0.o⟩
 case round =>
  obtain⟨i,s,hi,rfl,hsi,hJ⟩:=hrel
  by_cases hlt:i<m
  ·have d1:decide ((i:Int)<(m:Int))=true:=by simp;omega
   have q3:IntKind.i64.wrap ((i:Int)+1)=(i:Int)+1:=az (by omega) (by omega)
   obtain⟨_,sq,sc,f,bp,pu,hl⟩:=HSEE.o s wr hJ
   have HJ1:=hQQ hJ
   have BQ:=hQQ sq
   have CQ:=hQQ (aC sq).1
   have BC:=hQQ sc
   have BP:=hQQ bp
   have HI:=hQQ (show s.i<m by omega)
   have HSI:=hQQ hsi
   obtain⟨OO,hOO⟩:∃OO:Nat→Prop,(fun q=>Oa f q∨wr.heap.size≤q)=OO:=⟨_,rfl⟩
   have CL:Hq (∀W,ae wr W→Calls Tryz.prog 65 #[.agg (puA f),.int .i64 k] W (fun e W'=>∃f',e=.returned (.tuple #[.agg (puA f'),.int .i64 (ia s.P k),.bool (gK s.P k)])∧PuF OO W' f' (gQ s.P k)∧ae W W')):=hQQ fun W hW=>(Jt (Oa f) f s.P k W (pu.more hW) (fun c hc q e=>⟨c,hc,e⟩) hl).mono fun e W' ⟨f',e1,h1,m1,n1⟩=>⟨f',e1,⟨h1,by rw[←hOO];exact n1.mono fun q z=>z.imp id (fun y=>Nat.le_trans hW.size y)⟩,m1⟩
   have HO:=hQQ hOO
   obtain⟨X,hX⟩:∃X,ia s.P k=X:=⟨_,rfl⟩
   obtain⟨B,hB⟩:∃B,gK s.P k=B:=⟨_,rfl⟩
   obtain⟨PN,hP⟩:∃PN,gQ s.P k=PN:=⟨_,rfl⟩
   rw[hX,hB,hP] at CL
   have HX:=hQQ hX
   have HB:=hQQ hB
   have HP:=hQQ hP
   clear hX hB hP hOO bp pu hl sq sc hJ hsi
   gi_wp2
   refine wpIn_wide.2 ?_
   refine aO (ae wr) (by kernel_rfl) ?_
   change dh _ _ _ _ _ _ _ _ (wr.drewN 1)
   have MR:Hq (ae wr (wr.drewN 1)):=hQQ ((ae.refl wr).drewN 1)
   generalize wr.drewN 1=wq at MR⊢
   generalize hA:Act.mk _ _=A
   have HF:AG 30 A [(0,.func (.yield l) #[] #[]),(1,.pointer (some ⟨nb,0,none⟩)),(2,.pointer (some ⟨qb,0,none⟩)),(3,.pointer (some ⟨cb,0,none⟩)),(8,.int .i64 (m:Int)),(9,.int .i64 (i:Int))]:=by
    rw[←hA];try simp only[pts,List.foldl]
    refine⟨⟨Nat.le_of_ble_eq_true rfl,rfl⟩,?_⟩
    intro z hz;simp only[List.mem_cons,List.not_mem_nil,or_false] at hz;rcases hz with rfl|rfl|rfl|rfl|rfl|rfl<;>rfl
   refine bJ (fun a W=>∃(u12 u13 u14 u15 u16 u11 u17 u18 u19:Value) (g:Nat) (f9:Nat→Value),(a=(Act.put (Act.put (Act.put (pts A [(12,u12),(13,u13),(14,u14),(15,u15),(16,u16),(11,u11),(17,u17),(18,u18),(19,u19),(5,.pointer (some ⟨g,0,none⟩))]) none undef) (some 6) (.int .i64 X)) (some 7) (.bool B))∨a=(Act.put (Act.put (Act.put (pts A [(12,u12),(13,u13),(14,u14),(15,u15),(5,.pointer (some ⟨g,0,none⟩)),(16,u16),(11,u11),(17,u17),(18,u18),(19,u19)]) none undef) (some 6) (.int .i64 X)) (some 7) (.bool B)))∧W.heap[g]?=some (.cells (puA f9) 32 (0,0))∧PuF OO W f9 PN∧ae wr W∧wr.heap.size≤g) (fun _=>False) [] (fun a W hd h=>h.elim) (fun _ _ _ _ _ h=>h) ?_ ?_
   ·skip
    rintro a9 wa ⟨u12,u13,u14,u15,u16,u11,u17,u18,u19,g,f9,hn,h9,p9,m9,hg9⟩
    have E:(Act.put (Act.put (Act.put (pts A [(12,u12),(13,u13),(14,u14),(15,u15),(5,.pointer (some ⟨g,0,none⟩)),(16,u16),(11,u11),(17,u17),(18,u18),(19,u19)]) none undef) (some 6) (.int .i64 X)) (some 7) (.bool B))=(Act.put (Act.put (Act.put (pts A [(12,u12),(13,u13),(14,u14),(15,u15),(16,u16),(11,u11),(17,u17),(18,u18),(19,u19),(5,.pointer (some ⟨g,0,none⟩))]) none undef) (some 6) (.int .i64 X)) (some 7) (.bool B)):=by rw[←hA];kernel_rfl
    have hn:a9=(Act.put (Act.put (Act.put (pts A [(12,u12),(13,u13),(14,u14),(15,u15),(16,u16),(11,u11),(17,u17),(18,u18),(19,u19),(5,.pointer (some ⟨g,0,none⟩))]) none undef) (some 6) (.int .i64 X)) (some 7) (.bool B)):=by
     rcases hn with q|q
     ·exact q
     ·exact q.trans E
    subst hn
    rw[←hA];try simp only[pts,List.foldl]
    have H9:=hQQ h9
    have P9:=hQQ p9
    have M9:=hQQ m9
    have BQ9:=hQQ (m9.block BQ.o)
    have BP9:=hQQ (m9.block BP.o)
    clear HF hA MR E h9 p9 hg9 m9 CL CQ hn
    go_simp
    cases B with
    |false =>
     have FI:=hQQ (HFIN.o s s wr wa HJ1.o ⟨rfl,.inr HB.o,M9.o⟩)
     gi_wp2
     refine bodyPost_ret (results_none rfl _ _ _) rfl ?_
     exact .inl ⟨⟨_,rfl⟩,.inl ⟨s,FI.o⟩⟩
    |true =>
     obtain⟨wb,eb⟩:∃wb,wa.setRow pb (puA f9)=wb:=⟨_,rfl⟩
     have hb9:wb.heap[pb]?=some (.cells (puA f9) 32 (0,0)):=by rw[←eb];exact setRow_heap _ _ _ _ _ _ BP9.o
     have t9:Turned (fun z=>z=pb) wr wb:=by rw[←eb];exact(M9.o.mono (fun _ _ q=>q.elim)).setRow _ _ (fun _=>rfl)
     have pu9:PuF OO wb f9 PN:=by rw[←eb];exact PuF.keep P9.o (S:=fun z=>z=pb) (Turned.setRow (Turned.refl _ _) _ _ (fun _=>rfl)) (fun z q=>by subst q;exact⟨_,_,_,BP9.o,by decide⟩)
     have J9:=hQQ (HOWN.o s _ wr wb HJ1.o ⟨HI.o,HB.o,rfl,f,f9,BP.o,hb9,t9,by rw[HP.o];exact pu9.1,by rw[HO.o];exact pu9.2⟩)
     have cq9:=(aC BQ9.o).1
     have y9:=HY.o _ wb J9.o
     rw[show(CO nb qb cb pb m k).enc ⟨s.i+1,gQ s.P k,s.D,s.F,ia s.P k⟩= #[.int .i64 X] by rw[←HX.o];rfl] at y9
     obtain⟨fn,tmps,assign,body,hy,hR⟩:=y9
     clear hb9 t9 pu9
     gi_wp2_with (first
      |(refine eh rfl 32 _ rfl g rfl 32 _ _ _ H9.o Tryz.underlying32 rfl (by kernel_rfl) ?_)
      |(refine jm rfl 32 _ _ rfl pb rfl (puA f9) rfl 32 _ BP9.o (by kernel_rfl) rfl (Pu.all1 P9.o.1) ?_;rw[eb]))
     refine hR.mono ?_
     rintro e W3 (⟨rfl,s',hrel',hJ3⟩|⟨he,hJx3⟩)
     ·have HJ3:=hQQ hJ3
      have HR3:=hQQ hrel'
      clear hJ3 hrel' hy hR cq9 eb
      gi_wp2
      go_roundw
      case rel=>exact⟨i+1,s',by omega,by go_num,by have h3:s'.i=s.i+1:=HR3.o;have:=HSI.o;omega,HJ3.o⟩
      case measure=>simp[intOf];omega
     ·rcases he with rfl|⟨ch,rfl⟩
      ·gi_wp2
       refine bodyPost_ret (results_none rfl _ _ _) rfl ?_
       exact .inl ⟨⟨_,rfl⟩,.inr hJx3⟩
      ·exact⟨rfl,.inr ⟨ch,rfl,hJx3⟩⟩
   intro QQ FINE FIND FINQ
   clear hA
   refine tqC 0 12 (.pointer (some ⟨pb,0,none⟩)) (by kernel_rfl) FINQ MR.o HF (by exact eW (ab rfl) 102 _ rfl qb 0 (HF.get 2 rfl) (.pointer (some ⟨pb,0,none⟩)) _ Tryz.underlying102 rfl (fun W hW=>hW.cell CQ.o)) fun A β1 HF=>?_
   refine tqC 1 13 (.pointer (some ⟨pb,0,none⟩)) (by kernel_rfl) FINQ MR.o HF (by exact(Or.inl ⟨(ab rfl),fun W hW=>by have h5:=(HF.getD 0 rfl);go_simp⟩)) fun A β2 HF=>?_
   refine tqC 2 14 (.agg (puA f)) (by kernel_rfl) FINQ MR.o HF (by exact aD (ab rfl) 32 _ rfl pb (HF.get 0 rfl) 32 _ _ _ (fun W hW=>hW.block BP.o) Tryz.underlying32 rfl (by kernel_rfl)) fun A β3 HF=>?_
   refine tqC 3 15 (.int .i64 k) (by kernel_rfl) FINQ MR.o HF (by exact jM (ab rfl) _ rfl cb (HF.get 6 rfl) _ (fun W hW=>hW.block BC.o)) fun A β4 HF=>?_
   refine kl (i:=4) (j:=9) (some 16) (some 5) (by kernel_rfl) rfl rfl (ab rfl) (ab rfl) rfl rfl (fun K hK=>?_) (fun K hK=>?_)
   ·refine bH rfl (HF.get 1 rfl) (HF.get 0 rfl) (enters_of Tryz.func65 (by kernel_rfl) rfl) ?_
    refine(CL.o wq MR.o).mono ?_
    rintro e w7 ⟨f7,rfl,h7,m7⟩
    have P7:=hQQ h7
    have M7:=hQQ (MR.o.trans m7)
    refine hK _ _ M7.o ?_
    clear hK K m7
    replace HF:=HF.put 16 (.tuple #[.agg (puA f7),.int .i64 X,.bool B]) (by decide) rfl
    generalize β5:Act.put _ _ _=A at HF⊢
    refine tqM 5 11 0 rfl (.inl rfl) rfl (by kernel_rfl) FINQ M7.o HF fun A β6 HF=>?_
    refine tqC 6 17 (.agg (puA f7)) (by kernel_rfl) FINQ M7.o HF (by exact(Or.inl ⟨(ab rfl),fun W hW=>by have h5:=(HF.getD 0 rfl);go_simp⟩)) fun A β7 HF=>?_
    refine tqC 7 18 (.int .i64 X) (by kernel_rfl) FINQ M7.o HF (by exact(Or.inl ⟨(ab rfl),fun W hW=>by have h5:=(HF.getD 1 rfl);go_simp⟩)) fun A β8 HF=>?_
    refine tqC 8 19 (.bool B) (by kernel_rfl) FINQ M7.o HF (by exact(Or.inl ⟨(ab rfl),fun W hW=>by have h5:=(HF.getD 2 rfl);go_simp⟩)) fun A β9 HF=>?_
    refine bF (i:=9) (some 5) (by kernel_rfl) rfl (ab rfl) rfl (fun K hK=>?_)
    refine rx rfl ?_
    obtain⟨w8,e8,z8,m8,s8⟩:=en1 w7 (.cells #[.slice none 0 0,.slice none 0 0,.slice none 0 0,.slice none 0 0,.slice none 0 0] 32)
    rw[e8]
    have M8:=hQQ (M7.o.trans m8)
    refine hK _ _ M8.o ?_
    clear hK K e8
    replace HF:=HF.put 5 (.pointer (some ⟨w7.heap.size,0,none⟩)) (by decide) rfl
    generalize β10:Act.put _ _ _=A at HF⊢
    have GE:wr.heap.size≤w7.heap.size:=M7.o.size
    have MF:Hq (ae wr (w8.setRow w7.heap.size (puA f7))):=hQQ (M8.o.setRow _ _ GE)
    refine bF (i:=10) none (by kernel_rfl) rfl (ab rfl) rfl (fun K hK=>?_)
    refine wp_store_row 32 _ _ rfl (w7.heap.size) _ (HF.get 0 rfl) (HF.get 3 rfl) 32 _ z8 (by kernel_rfl) rfl (Pu.all1 (P7.o.more m8).1) ?_
    refine hK _ _ MF.o ?_
    clear hK K
    replace HF:=HF.skipN undef
    generalize hBN:Act.put _ none undef=A at HF⊢
    refine tqM 11 6 2 rfl (.inr rfl) rfl (by kernel_rfl) FINQ MF.o HF fun A β12 HF=>?_
    refine tqM 12 7 2 rfl (.inr rfl) rfl (by kernel_rfl) FINQ MF.o HF fun A β13 HF=>?_
    exact bR (by kernel_rfl) (FINE _ _ ⟨(.pointer (some ⟨pb,0,none⟩)),(.pointer (some ⟨pb,0,none⟩)),(.agg (puA f)),(.int .i64 k),(.tuple #[.agg (puA f7),.int .i64 X,.bool B]),(.tuple #[.agg (puA f7),.int .i64 X,.bool B]),(.agg (puA f7)),(.int .i64 X),(.bool B),w7.heap.size,f7,Or.inl (by rw[← β13,← β12,←hBN,← β10,← β9,← β8,← β7,← β6,← β5,← β4,← β3,← β2,← β1]<;>rfl),setRow_heap _ _ _ _ _ _ z8,(PuF.keep (P7.o.more m8) (S:=fun k=>k=w7.heap.size) (Turned.setRow (Turned.refl _ _) _ _ (fun _=>rfl)) (fun k q=>by subst q;exact⟨_,_,_,z8,by decide⟩)),MF.o,GE⟩)
   ·refine rx rfl ?_
    obtain⟨w7,e7,z7,m7,s7⟩:=en1 wq (.cells #[.slice none 0 0,.slice none 0 0,.slice none 0 0,.slice none 0 0,.slice none 0 0] 32)
    rw[e7]
    have M7:=hQQ (MR.o.trans m7)
    refine hK _ _ M7.o ?_
    clear hK K e7
    replace HF:=HF.put 5 (.pointer (some ⟨wq.heap.size,0,none⟩)) (by decide) rfl
    generalize β5:Act.put _ _ _=A at HF⊢
    refine tqO 4 16 (by kernel_rfl) HF fun K hK=>?_
    refine bH rfl (HF.get 2 rfl) (HF.get 1 rfl) (enters_of Tryz.func65 (by kernel_rfl) rfl) ?_
    refine(CL.o w7 M7.o).mono ?_
    rintro e w8 ⟨f8,rfl,h8,m8⟩
    have P8:=hQQ h8
    have M8:=hQQ (M7.o.trans m8)
    refine hK _ _ M8.o fun A β6 HF=>?_
    clear hK K
    refine tqM 5 11 0 rfl (.inl rfl) rfl (by kernel_rfl) FINQ M8.o HF fun A β7 HF=>?_
    refine tqC 6 17 (.agg (puA f8)) (by kernel_rfl) FINQ M8.o HF (by exact(Or.inl ⟨(ab rfl),fun W hW=>by have h5:=(HF.getD 0 rfl);go_simp⟩)) fun A β8 HF=>?_
    refine tqC 7 18 (.int .i64 X) (by kernel_rfl) FINQ M8.o HF (by exact(Or.inl ⟨(ab rfl),fun W hW=>by have h5:=(HF.getD 1 rfl);go_simp⟩)) fun A β9 HF=>?_
    refine tqC 8 19 (.bool B) (by kernel_rfl) FINQ M8.o HF (by exact(Or.inl ⟨(ab rfl),fun W hW=>by have h5:=(HF.getD 2 rfl);go_simp⟩)) fun A β10 HF=>?_
    have GE:wr.heap.size≤wq.heap.size:=MR.o.size
    have MF:Hq (ae wr (w8.setRow wq.heap.size (puA f8))):=hQQ (M8.o.setRow _ _ GE)
    refine bF (i:=10) none (by kernel_rfl) rfl (ab rfl) rfl (fun K hK=>?_)
    refine wp_store_row 32 _ _ rfl (wq.heap.size) _ (HF.get 5 rfl) (HF.get 2 rfl) 32 _ (m8.block z7) (by kernel_rfl) rfl (Pu.all1 P8.o.1) ?_
    refine hK _ _ MF.o ?_
    clear hK K
    replace HF:=HF.skipN undef
    generalize hBN:Act.put _ none undef=A at HF⊢
    refine tqM 11 6 1 rfl (.inr rfl) rfl (by kernel_rfl) FINQ MF.o HF fun A β12 HF=>?_
    refine tqM 12 7 1 rfl (.inr rfl) rfl (by kernel_rfl) FINQ MF.o HF fun A β13 HF=>?_
    exact bR (by kernel_rfl) (FINE _ _ ⟨(.pointer (some ⟨pb,0,none⟩)),(.pointer (some ⟨pb,0,none⟩)),(.agg (puA f)),(.int .i64 k),(.tuple #[.agg (puA f8),.int .i64 X,.bool B]),(.tuple #[.agg (puA f8),.int .i64 X,.bool B]),(.agg (puA f8)),(.int .i64 X),(.bool B),wq.heap.size,f8,Or.inr (by rw[← β13,← β12,←hBN,← β10,← β9,← β8,← β7,← β6,← β5,← β4,← β3,← β2,← β1]<;>rfl),setRow_heap _ _ _ _ _ _ (m8.block z7),(PuF.keep P8.o (S:=fun k=>k=wq.heap.size) (Turned.setRow (Turned.refl _ _) _ _ (fun _=>rfl)) (fun k q=>by subst q;exact⟨_,_,_,(m8.block z7),by decide⟩)),MF.o,GE⟩)
  ·have hi2:m≤s.i:=by omega
   have d1:decide ((i:Int)<(m:Int))=false:=by simp;omega
   have FI:=hQQ (HFIN.o s s wr wr hJ ⟨rfl,.inl hi2,ae.refl _⟩)
   gi_wp2
   go_end0
   exact .inl ⟨⟨_,rfl⟩,.inl ⟨s,FI.o⟩⟩
section
variable {n:Nat}(F:Nat→Prop)(p:Nat)(kn:Int→Option Int)(D:List KV)(w:World)(hv:aE w F p kn D)(hk:OkK kn)(hD:cD n D)
include hv hk hD
theorem Lr {b l:Int}(HS:d6 b l n){a:Int}(ha:W64 a)(vb sb:Nat)(h1:w.heap[vb]?=some (.cells #[.pointer (some ⟨p,0,none⟩)] 43 (0,0)))(h2:w.heap[sb]?=some (.cells #[.int .i64 b,.int .i64 l] 96 (0,0))):
 Calls Tryz.prog 103 #[.int .i64 a,.pointer (some ⟨vb,0,none⟩),.pointer (some ⟨sb,0,none⟩)] w (aB w F p kn (fun b:Bool=> .bool b) (jR b l a kn D)):=by
 have K:=hQQ (Lq HS F p kn D a ha w hv hk hD)
 have c1:=(aC h1).1
 obtain⟨c2,c3⟩:=lz h2
 clear hv hk hD h1 h2 HS ha
 go_enter Tryz.func103,Tryz.ntmps103
 go_wp2_with fail
 refine K.o.mono ?_
 intro e w1 he
 have FIN:=hQQ he
 rcases jn he with⟨a',_,rfl⟩|⟨x,D',_,rfl⟩
 ·exact⟨rfl,FIN.o⟩
 ·clear he
  go_wp2_with fail
  go_ret
  exact FIN.o
theorem Ls {c:Cfg}(R:c.Ok)(H:cF c.pg c.st n)(hn:n≤10000)(bt:Nat)(hs:df bt w)(nF0:¬F 0)(nFb:¬F bt)(a:Int)(vb lb:Nat)(h1:w.heap[vb]?=some (.cells #[.pointer (some ⟨p,0,none⟩)] 43 (0,0)))(h2:w.heap[lb]?=some (.cells c.arr 28 (0,0))):
 Calls Tryz.prog 86 #[.int .i64 a,.pointer (some ⟨vb,0,none⟩),.pointer (some ⟨lb,0,none⟩)] w (aB w F p kn (fun b:Bool=> .bool b) (rj c.us c.pg c.st a kn D)):=by
 have K:=hQQ (I7 R H hn F p kn D a w hv hk hD bt hs nF0 nFb)
 have c1:=(aC h1).1
 have H2:=hQQ h2
 clear hv hk hD h1 h2 H R hs nF0 nFb
 go_enter Tryz.func86,Tryz.ntmps86
 go_wp2_with (refine aI rfl rfl rfl H2.o (by kernel_rfl) ?_)
 refine K.o.mono ?_
 intro e w1 he
 have FIN:=hQQ he
 rcases jn he with⟨a',_,rfl⟩|⟨x,D',_,rfl⟩
 ·exact⟨rfl,FIN.o⟩
 ·clear he
  go_wp2_with fail
  go_ret
  exact FIN.o
end
theorem Ju (p:Nat)(b l:Int)(w:World):Calls Tryz.prog 73 #[.pointer (some ⟨p,0,none⟩),.agg #[.int .i64 b,.int .i64 l]] w fun e w' =>
 e=.returned (.func (.func 103) #[] #[.pointer (some ⟨w.heap.size,0,none⟩),.pointer (some ⟨w.heap.size+1,0,none⟩)])∧w'=(w.alloc (.cells #[.pointer (some ⟨p,0,none⟩)] 43)).alloc (.cells #[.int .i64 b,.int .i64 l] 96):=by
 go_enter Tryz.func73,Tryz.ntmps73
 go_wp2_with fail
 go_ret
 exact⟨rfl,rfl⟩
theorem CT (p:Nat)(c:Cfg)(w:World):Calls Tryz.prog 49 #[.pointer (some ⟨p,0,none⟩),.agg c.arr] w fun e w' =>
 e=.returned (.func (.func 86) #[] #[.pointer (some ⟨w.heap.size,0,none⟩),.pointer (some ⟨w.heap.size+1,0,none⟩)])∧w'=(w.alloc (.cells #[.pointer (some ⟨p,0,none⟩)] 43)).alloc (.cells c.arr 28):=by
 go_enter Tryz.func49,Tryz.ntmps49
 go_wp2_with fail
 go_ret
 exact⟨rfl,rfl⟩
theorem Eo (pb:Nat)(k m:Int)(w:World):Calls Tryz.prog 48 #[.pointer (some ⟨pb,0,none⟩),.int .i64 k,.int .i64 m] w fun e w' =>
 e=.returned (.func (.func 85) #[] #[.pointer (some ⟨w.heap.size+2,0,none⟩),.pointer (some ⟨w.heap.size,0,none⟩),.pointer (some ⟨w.heap.size+1,0,none⟩)])∧w'=((w.alloc (.cells #[.pointer (some ⟨pb,0,none⟩)] 102)).alloc (.cells #[.int .i64 k] 3)).alloc (.cells #[.int .i64 m] 3):=by
 go_enter Tryz.func48,Tryz.ntmps48
 go_wp2_with fail
 go_ret
 exact⟨rfl,rfl⟩
theorem ux (p:Nat)(v:Option Addr)(len cap:Nat)(w:World):Calls Tryz.prog 50 #[.pointer (some ⟨p,0,none⟩),.slice v len cap] w fun e w' =>
 e=.returned (.func (.func 88) #[] #[.pointer (some ⟨w.heap.size+1,0,none⟩),.pointer (some ⟨w.heap.size,0,none⟩)])∧w'=(w.alloc (.cells #[.pointer (some ⟨p,0,none⟩)] 43)).alloc (.cells #[.slice v len cap] 93):=by
 go_enter Tryz.func50,Tryz.ntmps50
 go_wp2_with fail
 go_ret
 exact⟨rfl,rfl⟩
theorem Gj (p:Nat)(c:Cfg)(k:Int)(w:World):Calls Tryz.prog 97 #[.pointer (some ⟨p,0,none⟩),.agg c.arr,.int .i64 k] w fun e w' =>
 e=.returned (.func (.func 122) #[] #[.pointer (some ⟨w.heap.size,0,none⟩),.pointer (some ⟨w.heap.size+1,0,none⟩),.pointer (some ⟨w.heap.size+2,0,none⟩)])∧w'=((w.alloc (.cells #[.pointer (some ⟨p,0,none⟩)] 43)).alloc (.cells c.arr 28)).alloc (.cells #[.int .i64 k] 3):=by
 go_enter Tryz.func97,Tryz.ntmps97
 go_wp2_with fail
 go_ret
 exact⟨rfl,rfl⟩
attribute [local go_sem] Oper.semAt_some
def uy (c:Cfg)(p:Nat)(w:World)(N:Nat→Prop):WayD→Value→Prop
 | .room b l,v=>∃vb sb,v=.func (.func 103) #[] #[.pointer (some ⟨vb,0,none⟩),.pointer (some ⟨sb,0,none⟩)]∧w.heap[vb]?=some (.cells #[.pointer (some ⟨p,0,none⟩)] 43 (0,0))∧w.heap[sb]?=some (.cells #[.int .i64 b,.int .i64 l] 96 (0,0))∧¬N vb∧¬N sb
 | .home,v=>∃vb lb,v=.func (.func 86) #[] #[.pointer (some ⟨vb,0,none⟩),.pointer (some ⟨lb,0,none⟩)]∧w.heap[vb]?=some (.cells #[.pointer (some ⟨p,0,none⟩)] 43 (0,0))∧w.heap[lb]?=some (.cells c.arr 28 (0,0))∧¬N vb∧¬N lb
theorem uy.keep {c:Cfg}{p:Nat}{w w':World}{N:Nat→Prop}{y:WayD}{v:Value}(h:uy c p w N y v)(t:Turned N w w'):uy c p w' N y v:=by
 cases y with
 |room b l=>obtain⟨vb,sb,e,h1,h2,n1,n2⟩:=h;exact⟨vb,sb,e,(t.block _ (ac h1) n1).trans h1,(t.block _ (ac h2) n2).trans h2,n1,n2⟩
 |home=>obtain⟨vb,sb,e,h1,h2,n1,n2⟩:=h;exact⟨vb,sb,e,(t.block _ (ac h1) n1).trans h1,(t.block _ (ac h2) n2).trans h2,n1,n2⟩
def nZ {σ:Type}(Z:σ→World→Prop):Prop:=∀s A B,Z s A→A.heap.size≤B.heap.size→(∀(k:Nat) (cs:Array Value) (t:TypeId) (fr:Nat×Nat),A.heap[k]?=some (.cells cs t fr)→B.heap[k]?=some (.cells cs t fr))→Z s B
theorem nZ.more {σ:Type}{Z:σ→World→Prop}(h:nZ Z){s:σ}{A B:World}(z:Z s A)(m:ae A B):Z s B:=h s A B z m.size fun k cs t fr q=>m.block q
theorem nZ.put {σ:Type}{Z:σ→World→Prop}(h:nZ Z){s:σ}{A:World}(z:Z s A){k:Nat}{o:Obj}(o':Obj)(hl:A.heap[k]?=some o)(ho:o.isCells=false):Z s (A.putObj k o'):=
 h s A _ z (by simp) fun j cs t fr q=>(World.putObj_heap_other (by rintro rfl;rw[hl] at q;cases q;cases ho)).trans q
structure LvO (w6:World)(F T:Nat→Prop)(p:Nat)(kn:Int→Option Int)(n:Nat)(Z:LsS→World→Prop)(s:LsS)(A:World):Prop where
 on:OnV w6 A F T p kn n s.D s.F
 z:Z s A
theorem LvO.books {w6:World}{F T:Nat→Prop}{p:Nat}{kn:Int→Option Int}{n:Nat}{Z:LsS→World→Prop}(hZ:nZ Z)(hF:∀k,F k→k<w6.heap.size)(s:LsS):jb w6.heap.size (LvO w6 F T p kn n Z s):=
 ⟨fun {A A'} h m=>⟨h.on.more m,hZ.more h.z m⟩,fun {A r} r' h hl=>⟨h.on.put hF r' hl,hZ.put h.z (.loop r') hl rfl⟩⟩
def LvX (w6:World)(F T:Nat→Prop)(p:Nat)(Need:Int→Prop):Exit→World→Prop
 | .panic ch,W=>ch=aR p∧∃a,Need a∧om w6 W F T p a
 | _,_=>False
theorem Gk {w6:World}{F T:Nat→Prop}{p:Nat}{Need:Int→Prop}(e:Exit):jb w6.heap.size (LvX w6 F T p Need e):=by
 cases e with
 |panic ch=>exact⟨fun {A A'} h m=>by obtain⟨h1,a,h2,h3⟩:=h;exact⟨h1,a,h2,h3.more m⟩,fun {A r} r' h hl=>by obtain⟨h1,a,h2,h3⟩:=h;exact⟨h1,a,h2,h3.put hl rfl (by omega) _⟩⟩
 |ret=>exact⟨fun {A A'} h m=>h,fun {A r} r' h hl=>h⟩
 |normal=>exact⟨fun {A A'} h m=>h,fun {A r} r' h hl=>h⟩
 |exit _=>exact⟨fun {A A'} h m=>h,fun {A r} r' h hl=>h⟩
 |goto _=>exact⟨fun {A A'} h m=>h,fun {A r} r' h hl=>h⟩
 |outgrown=>exact⟨fun {A A'} h m=>h,fun {A r} r' h hl=>h⟩
structure LvH (w:World)(F T:Nat→Prop)(p:Nat)(kn:Int→Option Int)(n:Nat)(c:Cfg)(wy:List WayD)(It:yz LsS)(Z Z' Z2:LsS→World→Prop)(Need:Int→Prop):Prop where
 enc:∀s,It.enc s= #[.int .i64 s.a]
 sZ:nZ Z
 sZ':nZ Z'
 sZ2:nZ Z2
 see:∀w6 s A,w.heap.size≤w6.heap.size→LvO w6 F T p kn n Z s A→It.See s A
 own:∀w6 s s' A B,w.heap.size≤w6.heap.size→w6.heap.size+2≤A.heap.size→LvO w6 F T p kn n Z s A→It.Own s s' A B→bM (dJ w6.heap.size) A B∧LvO w6 F T p kn n Z' s' B
 fin:∀w6 s s' A B,w.heap.size≤w6.heap.size→w6.heap.size+2≤A.heap.size→LvO w6 F T p kn n Z s A→It.Fin s s' A B→bM (dJ w6.heap.size) A B∧LvO w6 F T p kn n Z2 s' B
 ned:∀w6 s ch A B,w.heap.size≤w6.heap.size→w6.heap.size+2≤A.heap.size→LvO w6 F T p kn n Z s A→It.Ned s ch A B→bM (dJ w6.heap.size) A B∧LvX w6 F T p Need (.panic ch) B
 skp:∀w6 s s' A B,w.heap.size≤w6.heap.size→w6.heap.size+2≤A.heap.size→LvO w6 F T p kn n Z s A→It.Skp s s' A B→bM (dJ w6.heap.size) A B∧LvO w6 F T p kn n Z s' B
 rel:∀s s' A B l (r0 r1 r r':Loop),A.heap[l]?=some (.loop r0)→B.heap[l]?=some (.loop r1)→It.Rel s s' (A.putObj l (.loop r)) B→It.Rel s s' A (B.putObj l (.loop r'))
 word:∀s A,Z' s A→W64 s.a
 did:∀s A B D1 F1,Z' s A→cD n s.D→lO c.us c.pg c.st wy s.a kn s.D=.ok () D1→A.heap.size≤B.heap.size→(∀b o,¬s.F b→A.heap[b]?=some o→B.heap[b]?=some o)→(∀b,F1 b→s.F b∨A.heap.size≤b)→∃s',It.Rel s s' A B∧s'.D=D1∧s'.F=F1∧Z s' B
 nd:∀s A a,Z' s A→lO c.us c.pg c.st wy s.a kn s.D=.need a→Need a
def Pi (w:World)(F T:Nat→Prop)(p:Nat)(kn:Int→Option Int)(n:Nat)(Z2:LsS→World→Prop)(Need:Int→Prop)(e:Ending)(w':World):Prop :=
 (∃a,Need a∧e=.panicked (aR p)∧aN w' p a∧Turned (fun b=>F b∨T b) w w') ∨
 ∃s,e=.returned (.tuple #[])∧aE w' s.F p kn s.D∧Turned (fun b=>F b∨T b) w w'∧(∀k,s.F k→F k∨w.heap.size≤k)∧cD n s.D∧Z2 s w'
theorem Ep {c:Cfg}(R:c.Ok){n:Nat}(H:cF c.pg c.st n)(hn:n≤10000){bt:Nat}(F T:Nat→Prop)(p:Nat)(kn:Int→Option Int)(hk:OkK kn){wy:List WayD}(hok:∀y∈wy,jy n y)(hwl:wy.length≤1000){It:yz LsS}{gf:Nat}{lb:Array Value}(heg:∀args w,Sem.run Tryz.prog (callFunc gf args) w=.ok (.enter gf args) w)
 {Z Z' Z2:LsS→World→Prop} {Need:Int→Prop} (s0:LsS) (w:World) (L:LvH w F T p kn n c wy It Z Z' Z2 Need) (hseq:A3 It Fence.wide 2 Tryz.prog gf lb s0 w)
 (hF:s0.F=F) (hv:aE w F p kn s0.D) (hD:cD n s0.D) (hz:Z s0 w) (hs:df bt w) (nF0:¬F 0) (nFb:¬F bt) (hT:∀k,T k→k<w.heap.size∧¬F k) (nT0:¬T 0) (nTb:¬T bt)
 (wb cap:Nat) (hwb:wb<w.heap.size∧¬F wb∧¬T wb) (hwy:∀j (hj:j<wy.length),∃v,w.cell? ⟨wb,j,none⟩=some v∧uy c p w (fun b=>F b∨T b) wy[j] v):
 Calls Tryz.prog 47 #[.func (.func gf) #[] lb,.slice (some ⟨wb,0,none⟩) wy.length cap] w (Pi w F T p kn n Z2 Need):=by
 refine(callsIn_wide (n:=3)).1 ?_
 refine iD Tryz.func47 rfl trivial ?_ rfl
 simp only[Tryz.ntmps47,List.size_toArray,List.length_cons,List.length_nil,Nat.reduceAdd,Nat.reduceSub,Array.replicate_succ,Array.replicate_zero,List.push_toArray,List.append_toArray,List.nil_append,List.cons_append]
 have hF0:∀k,F k→k<w.heap.size:=hv.lt
 obtain⟨w6,e6,hb6,m6,s6⟩:=aZ w (.cells #[.slice (some ⟨wb,0,none⟩) wy.length cap] 136)
 have hF6:∀k,F k→k<w6.heap.size:=fun k q=>by have:=hF0 k q;omega
 have hT6:∀k,T k→k<w6.heap.size:=fun k q=>by have:=(hT k q).1;omega
 refine fC ?_
 gi_wp2
 clear e6
 refine fC ?_
 gi_wp2
 have HL:=hQQ L
 have HSQ:=hQQ hseq
 have HO:=hQQ hok
 have HK:=hQQ hk
 have HR:=hQQ R
 have HH:=hQQ H
 have HB6:=hQQ hb6
 have hle:w.heap.size≤w6.heap.size:=by omega
 have h0:Hq (LvO w6 F T p kn n Z s0 w6):=hQQ ⟨by rw[hF];exact OnV.begin (hv.more m6) hD,L.sZ.more hz m6⟩
 -- what stands all the while
 have KB:Hq (∀W D' F',OnV w6 W F T p kn n D' F'→W.heap[w.heap.size]?=some (.cells #[.slice (some ⟨wb,0,none⟩) wy.length cap] 136 (0,0))):=hQQ fun W D' F' h=>(h.turn.block _ (by omega) (by rintro(q|q);have:=hF0 _ q;omega;have:=(hT _ q).1;omega)).trans hb6
 have KW:Hq (∀W D' F',OnV w6 W F T p kn n D' F'→∀j (hj:j<wy.length),∃v,W.cell? ⟨wb,j,none⟩=some v∧uy c p W (fun b=>F b∨T b) wy[j] v):=hQQ fun W D' F' h j hj=>by
  obtain⟨v,h1,h2⟩:=hwy j hj
  have t:=Turned.trans (Turned.mono m6 (fun _ _ q=>q.elim)) h.turn
  refine⟨v,?_,h2.keep t⟩
  rw[World.cell?_of_block (w:=w) (t.block wb hwb.1 (by rintro(q|q);exact hwb.2.1 q;exact hwb.2.2 q))];exact h1
 have KS:Hq (∀W D' F',OnV w6 W F T p kn n D' F'→df bt W∧¬F' 0∧¬F' bt):=hQQ fun W D' F' h=>⟨(hs.more m6).keep h.turn (by rintro(q|q);exact nF0 q;exact nT0 q) (by rintro(q|q);exact nFb q;exact nTb q),fun q=>by rcases h.from' 0 q with r|r;exact nF0 r;omega,fun q=>by rcases h.from' bt q with r|r;exact nFb r;have:=hs.lt;omega⟩
 clear L hseq hok hk R H hb6 hz hv hD hwy hs
 refine oc ?_
 refine vq It (gf:=gf) (lb:=lb) Tryz.func47 rfl (by omega) rfl trivial heg HSQ.o m6 (fun s=>by rw[HL.o.enc];rfl)
  (LvO w6 F T p kn n Z) (LvO w6 F T p kn n Z') (LvO w6 F T p kn n Z2) (LvX w6 F T p Need) (LvO.books HL.o.sZ hF6) (LvO.books HL.o.sZ' hF6) (LvO.books HL.o.sZ2 hF6) Gk h0.o
  (fun s a' W=>LvO w6 F T p kn n Z' s W∧a'= { tmps:= #[.func (.func gf) #[] lb,.slice (some ⟨wb,0,none⟩) wy.length cap,undef,.pointer (some ⟨w.heap.size,0,none⟩),.int .i64 s.a,undef,undef,.func (.func gf) #[] lb,.int .i64 s.a,undef,undef,undef,undef,undef,undef,undef,undef,undef,undef],defers:= [] })
  (fun s a'=>⟨fun {A A'} h m=>⟨(LvO.books HL.o.sZ' hF6 s).more h.1 m,h.2⟩,fun {A r} r' h hl=>⟨(LvO.books HL.o.sZ' hF6 s).put r' h.1 hl,h.2⟩⟩)
  (fun s A _ h=>HL.o.see w6 s A hle h) (fun s s' A B hs h o=>HL.o.own w6 s s' A B hle hs h o) (fun s s' A B hs h o=>HL.o.fin w6 s s' A B hle hs h o) (fun s ch A B hs h o=>HL.o.ned w6 s ch A B hle hs h o) (fun s s' A B hs h o=>HL.o.skp w6 s s' A B hle hs h o) HL.o.rel
  ?assign ?body ?done ?stop ?dies
 case assign =>
  rintro l s W K hsz hI hK
  rw[HL.o.enc]
  gi_wp2
 case body =>
  rintro l s a' W hsz ⟨hI,rfl⟩
  obtain⟨Rt,hRt⟩:∃Rt,lO c.us c.pg c.st wy s.a kn s.D=Rt:=⟨_,rfl⟩
  have HI:=hQQ hI
  have HWD:=hQQ (HL.o.word s W hI.z)
  have HDID:=hQQ (fun B D1 F1 (e:Rt=.ok () D1)=>HL.o.did s W B D1 F1 hI.z hI.on.inv (hRt.trans e))
  have HND:=hQQ (fun a (e:Rt=.need a)=>HL.o.nd s W a hI.z (hRt.trans e))
  have HRT:=hQQ hRt
  have cb:=(aC (KB.o _ _ _ hI.on)).1
  have BK:Hq (∀wr:World,(∀b o,¬s.F b→W.heap[b]?=some o→wr.heap[b]?=some o)→bM (dJ w6.heap.size) W wr):=hQQ fun wr h k q=>by
   have hk:k<W.heap.size:=by rcases q with q|q<;>omega
   rw[Array.getElem?_eq_getElem hk]
   exact h k _ (fun r=>by rcases hI.on.from' k r with z|z;have:=hF6 _ z;rcases q with q|q<;>omega;rcases q with q|q<;>omega) (Array.getElem?_eq_getElem hk)
  clear hI hRt
  gi_wp2
  clear cb
  gi_loopw [11] (fun u wr=>∃(j:Nat) (D1:List KV) (F1:Nat→Prop),j≤wy.length∧u=.int .i64 (j:Int)∧OnV w6 wr F T p kn n D1 F1∧lO c.us c.pg c.st (wy.drop j) s.a kn D1=Rt∧W.heap.size≤wr.heap.size∧(∀b o,¬s.F b→W.heap[b]?=some o→wr.heap[b]?=some o)∧(∀b,F1 b→s.F b∨W.heap.size≤b)) (fun u _=>wy.length-(intOf u).toNat)
  case atStart=>exact⟨0,s.D,s.F,Nat.zero_le _,rfl,HI.o.on,HRT.o,Nat.le_refl _,fun _ _ _ h=>h,fun _ h=> .inl h⟩
  case round =>
   obtain⟨j,D1,F1,hj,rfl,hon,hsem,hsw,hkeep,hfrom⟩:=hrel
   have ON:=hQQ hon
   have KP:=hQQ hkeep
   have FR:=hQQ hfrom
   have SW:=hQQ hsw
   have KP3:Hq (∀(S:Nat→Prop) (X:World),Turned S wr X→(∀b,S b→F1 b)→∀b o,¬s.F b→W.heap[b]?=some o→X.heap[b]?=some o):=hQQ fun S X t hS b o nb hb=>(t.block b (ac (hkeep b o nb hb)) (fun q=>by
    rcases hfrom b (hS b q) with r|r
    ·exact nb r
    ·have:=ac hb;omega)).trans (hkeep b o nb hb)
   by_cases hlt:j<wy.length
   ·have d1:decide ((j:Int)<(wy.length:Int))=true:=by simp;omega
    have q3:IntKind.i64.wrap ((j:Int)+1)=(j:Int)+1:=az (by omega) (by omega)
    obtain⟨v,hc,hway⟩:=KW.o _ _ _ hon j hlt
    have hdr:wy.drop j=wy[j]::wy.drop (j+1):=List.drop_eq_getElem_cons hlt
    have hmem:=HO.o wy[j] (List.getElem_mem hlt)
    rw[hdr] at hsem
    have hsem':aq (Ao c.us c.pg c.st wy[j] s.a) (fun b=>if b then ay () else lO c.us c.pg c.st (wy.drop (j+1)) s.a) kn D1=Rt:=hsem
    have HS:=hQQ hsem'
    generalize wy[j]=y at hway hmem HS
    have HM:=hQQ hmem
    obtain⟨ksz,kf0,kfb⟩:=KS.o _ _ _ hon
    have CK:Hq (∀f lb',v=.func (.func f) #[] lb'→f=f):=hQQ fun _ _ _=>rfl
    have HCALL:Hq (∃f lb',v=.func (.func f) #[] lb'∧(f=103∨f=86)∧Calls Tryz.prog f (#[.int .i64 s.a]++lb') wr (aB wr F1 p kn (fun b:Bool=> .bool b) (Ao c.us c.pg c.st y s.a kn D1))):=hQQ (by
     cases y with
     |room b l =>
      obtain⟨vb,sb,rfl,h1,h2,_,_⟩:=hway
      exact⟨_,_,rfl,.inl rfl,Lr F1 p kn D1 wr hon.view HK.o hon.inv hmem HWD.o vb sb h1 h2⟩
     |home =>
      obtain⟨vb,lb',rfl,h1,h2,_,_⟩:=hway
      exact⟨_,_,rfl,.inr rfl,Ls F1 p kn D1 wr hon.view HK.o hon.inv HR.o HH.o hn bt ksz kf0 kfb s.a vb lb' h1 h2⟩)
    clear hon hsem hsem' hsw hkeep hfrom hway hmem ksz kf0 kfb hdr CK
    obtain⟨f,lb',rfl,hf,hcall⟩:=HCALL.o
    have hcall:=hQQ hcall
    clear HCALL
    rcases hf with rfl|rfl
    ·skip
     gi_wp2
     refine⟨trivial,(CallsIn.inRound l (callsIn_wide.2 hcall.o)).mono ?_⟩
     intro e W3 he
     cases hE:Ao c.us c.pg c.st y s.a kn D1 with
     |need a =>
      rw[hE] at he
      obtain⟨rfl,hend,ht⟩:=om.of ON.o (by have:=SW.o;omega) (ae.refl wr) he
      exact⟨BK.o W3 (KP3.o F1 W3 ht (fun _ q=>q)),rfl,rfl,a,HND.o a (HS.o.symm.trans (ag hE)),hend⟩
     |ok b D3 =>
      rw[hE] at he
      obtain⟨rfl,F3,hv3,ht3,hn3⟩:=he
      have hi3:=((uq HH.o HM.o HWD.o).ok HK.o ON.o.inv hE).1
      have ON3:Hq (OnV w6 W3 F T p kn n D3 F3):=hQQ ⟨hv3,fun k q=>by
       rcases hn3 k q with r|r
       ·exact ON.o.from' k r
       ·have:=SW.o;exact .inr (by omega),am ON.o.turn ht3 (fun k q=>(ON.o.from' k q).imp .inl (fun r=>by omega)),hi3⟩
      have KP4:=hQQ (KP3.o F1 W3 ht3 (fun _ q=>q))
      have FR4:Hq (∀b,F3 b→s.F b∨W.heap.size≤b):=hQQ fun b q=>by
       rcases hn3 b q with r|r
       ·exact FR.o b r
       ·have:=SW.o;exact .inr (by omega)
      have SW4:=hQQ (Nat.le_trans SW.o ht3.size)
      have HS3:=hQQ ((aj hE).symm.trans HS.o)
      clear hv3 ht3 hn3 hi3 hE hcall KP FR SW ON
      cases b with
      |true =>
       obtain⟨s',r1,r2,r3,z⟩:=HDID.o W3 D3 F3 HS3.o.symm SW4.o KP4.o FR4.o
       have FI:Hq (mV It w6.heap.size (LvO w6 F T p kn n Z) (LvX w6 F T p Need) s W .normal { tmps:= #[],defers:= [] } W3):=hQQ ⟨BK.o W3 KP4.o,s',r1,by rw[r2,r3];exact ON3.o,z⟩
       clear r1 r2 r3 z
       gi_wp2
       exact FI.o
      |false =>
       gi_wp2
       go_roundw
       case rel=>exact⟨j+1,D3,F3,by omega,by go_num,ON3.o,HS3.o,SW4.o,KP4.o,FR4.o⟩
       case measure=>simp[intOf];omega
    ·skip
     gi_wp2
     refine⟨trivial,(CallsIn.inRound l (callsIn_wide.2 hcall.o)).mono ?_⟩
     intro e W3 he
     cases hE:Ao c.us c.pg c.st y s.a kn D1 with
     |need a =>
      rw[hE] at he
      obtain⟨rfl,hend,ht⟩:=om.of ON.o (by have:=SW.o;omega) (ae.refl wr) he
      exact⟨BK.o W3 (KP3.o F1 W3 ht (fun _ q=>q)),rfl,rfl,a,HND.o a (HS.o.symm.trans (ag hE)),hend⟩
     |ok b D3 =>
      rw[hE] at he
      obtain⟨rfl,F3,hv3,ht3,hn3⟩:=he
      have hi3:=((uq HH.o HM.o HWD.o).ok HK.o ON.o.inv hE).1
      have ON3:Hq (OnV w6 W3 F T p kn n D3 F3):=hQQ ⟨hv3,fun k q=>by
       rcases hn3 k q with r|r
       ·exact ON.o.from' k r
       ·have:=SW.o;exact .inr (by omega),am ON.o.turn ht3 (fun k q=>(ON.o.from' k q).imp .inl (fun r=>by omega)),hi3⟩
      have KP4:=hQQ (KP3.o F1 W3 ht3 (fun _ q=>q))
      have FR4:Hq (∀b,F3 b→s.F b∨W.heap.size≤b):=hQQ fun b q=>by
       rcases hn3 b q with r|r
       ·exact FR.o b r
       ·have:=SW.o;exact .inr (by omega)
      have SW4:=hQQ (Nat.le_trans SW.o ht3.size)
      have HS3:=hQQ ((aj hE).symm.trans HS.o)
      clear hv3 ht3 hn3 hi3 hE hcall KP FR SW ON
      cases b with
      |true =>
       obtain⟨s',r1,r2,r3,z⟩:=HDID.o W3 D3 F3 HS3.o.symm SW4.o KP4.o FR4.o
       have FI:Hq (mV It w6.heap.size (LvO w6 F T p kn n Z) (LvX w6 F T p Need) s W .normal { tmps:= #[],defers:= [] } W3):=hQQ ⟨BK.o W3 KP4.o,s',r1,by rw[r2,r3];exact ON3.o,z⟩
       clear r1 r2 r3 z
       gi_wp2
       exact FI.o
      |false =>
       gi_wp2
       go_roundw
       case rel=>exact⟨j+1,D3,F3,by omega,by go_num,ON3.o,HS3.o,SW4.o,KP4.o,FR4.o⟩
       case measure=>simp[intOf];omega
   ·obtain rfl:j=wy.length:=by omega
    have d1:decide ((wy.length:Int)<(wy.length:Int))=false:=by simp
    rw[List.drop_length] at hsem
    obtain⟨s',r1,r2,r3,z⟩:=HDID.o wr D1 F1 hsem.symm SW.o KP.o FR.o
    have FI:Hq (mV It w6.heap.size (LvO w6 F T p kn n Z) (LvX w6 F T p Need) s W .normal { tmps:= #[],defers:= [] } wr):=hQQ ⟨BK.o wr KP.o,s',r1,by rw[r2,r3];exact ON.o,z⟩
    clear r1 r2 r3 z hsem hon hsw hkeep hfrom
    gi_wp2
    exact FI.o
 case done =>
  rintro s W hI hdf
  have hon:=hI.on.view.keepS (S:=fun k=>k=w6.heap.size) (w':=W.putObj w6.heap.size (.deferred none)) (fF (Turned.refl _ W) _ _ (fun _=>rfl)) (fun k q e=>by subst e;rcases hI.on.from' _ q with r|r;have:=hF6 _ r;omega;omega) (fun k es cl e q=>by subst e;rw[hdf] at q;cases q)
  have ht:Turned (fun b=>F b∨T b) w (W.putObj w6.heap.size (.deferred none)):=fF (Turned.trans (Turned.mono m6 (fun _ _ q=>q.elim)) hI.on.turn) _ _ (fun q=>by omega)
  have FIN:Hq (Pi w F T p kn n Z2 Need (.returned (.tuple #[])) (W.putObj w6.heap.size (.deferred none))):=hQQ (.inr ⟨s,rfl,hon,ht,fun k q=>(hI.on.from' k q).imp id (fun r=>by omega),hI.on.inv,HL.o.sZ2.put hI.z (.deferred none) hdf rfl⟩)
  clear hon ht
  refine⟨by simp,.inl ⟨_,_,rfl,run_takeDeferred hdf,?_⟩⟩
  refine⟨.tuple #[],?_,FIN.o⟩
  simp[results,Tryz.f47,go_sem]
 case stop =>
  rintro e cc W hj hx hdf
  cases e<;>cases hx<;>cases hj
 case dies =>
  rintro ch W ⟨h1,a,h2,h3⟩ hdf
  have h4:=h3.put hdf rfl (Nat.le_refl _) (.deferred none)
  exact⟨by simp,.inl ⟨_,_,rfl,run_takeDeferred hdf,.inl ⟨a,h2,by rw[h1],h4.1,Turned.trans (Turned.mono m6 (fun _ _ q=>q.elim)) h4.2⟩⟩⟩
theorem cN.cells {F:Nat→Prop}{A B:World}{f:Nat→Value}{P:Nat→List Int}(h:cN F A f P)(s:∀(k:Nat)(cs:Array Value)(t:TypeId)(fr:Nat×Nat),A.heap[k]?=some (.cells cs t fr)→B.heap[k]?=some (.cells cs t fr)):cN F B f P:=by
 refine⟨fun c hc=>?_,h.2⟩
 obtain⟨a,cap,hv,h1,h2,z⟩:=h.1 c hc
 refine⟨a,cap,hv,h1,h2,z.imp id ?_⟩
 rintro⟨g,cur,rfl,hg,r⟩
 exact⟨g,cur,rfl,s _ _ _ _ hg,r⟩
structure LsZ (N:Nat→Prop)(nb qb cb pb m:Nat)(k:Int)(Sem:LsS→Prop)(s:LsS)(A:World):Prop where
 bn:eE A nb m
 bq:A.heap[qb]?=some (.cells #[.pointer (some ⟨pb,0,none⟩)] 102 (0,0))
 bc:eE A cb k
 pu:∃f,A.heap[pb]?=some (.cells (puA f) 32 (0,0))∧cN (fun q=>N q∨s.F q) A f s.P
 nf:¬s.F nb∧¬s.F qb∧¬s.F cb∧¬s.F pb
 ne:nb≠pb∧qb≠pb∧cb≠pb
 len:pL s.P∧∀j,j<5→(s.P j).length≤1000000
 sem:Sem s
theorem LsZ.stays (N:Nat→Prop)(nb qb cb pb m:Nat)(k:Int)(Sem:LsS→Prop):nZ (LsZ N nb qb cb pb m k Sem):=fun s A B h _ t =>
 ⟨t _ _ _ _ h.bn,t _ _ _ _ h.bq,t _ _ _ _ h.bc,by obtain⟨f,h1,h2⟩:=h.pu;exact⟨f,t _ _ _ _ h1,h2.cells t⟩,h.nf,h.ne,h.len,h.sem⟩
def Pj (w:World)(F N:Nat→Prop)(pb p:Nat)(kn:Int→Option Int)(n:Nat)(R:Res (Nat→List Int))(e:Ending)(w':World):Prop :=
 match R with
 | .need a=>e=.panicked (aR p)∧aN w' p a∧Turned (fun b=>F b∨b=pb) w w'
 | .ok P D=>e=.returned (.tuple #[])∧∃f F',aE w' F' p kn D∧Turned (fun b=>F b∨b=pb) w w'∧(∀k,F' k→F k∨w.heap.size≤k)∧cD n D∧w'.heap[pb]?=some (.cells (puA f) 32 (0,0))∧cN (fun q=>N q∨F' q) w' f P
theorem Lt {c:Cfg}{n:Nat}(F N:Nat→Prop)(p:Nat)(kn:Int→Option Int)(w:World)(wy:List WayD)(nb qb cb pb m:Nat)(k:Int)(Rr:Res (Nat→List Int))(hF:∀k,F k→k<w.heap.size)(hN:∀k,N k→k<w.heap.size)(hpb:pb<w.heap.size∧¬F pb):
 LvH w F (fun b=>b=pb) p kn n c wy (CO nb qb cb pb m k) (LsZ N nb qb cb pb m k fun s=>s.i≤m∧dG c.us c.pg c.st wy k (m-s.i) s.P kn s.D=Rr)
  (LsZ N nb qb cb pb m k fun s=>s.i≤m∧W64 s.a∧aq (lO c.us c.pg c.st wy s.a) (fun _=>dG c.us c.pg c.st wy k (m-s.i) s.P) kn s.D=Rr)
  (LsZ N nb qb cb pb m k fun s=>Rr=.ok s.P s.D) (fun a=>Rr=.need a) where
 enc s:=rfl
 sZ:=LsZ.stays N nb qb cb pb m k _
 sZ':=LsZ.stays N nb qb cb pb m k _
 sZ2:=LsZ.stays N nb qb cb pb m k _
 see w6 s A _ h:=by
  obtain⟨f,h1,h2⟩:=h.z.pu
  exact⟨h.z.bn,h.z.bq,h.z.bc,f,h1,h2.1,h.z.len.2⟩
 own w6 s s' A B hle hsz h o:=by
  obtain⟨hi,hb,rfl,f,f',b1,b2,t,pu,pn⟩:=o
  obtain⟨f0,g1,g2⟩:=h.z.pu
  obtain⟨g,hg⟩:∃g,g=puA f:=⟨_,rfl⟩
  have hff:∀j,j<5→f j=f0 j:=fun j hj=>by
   rw[b1] at g1
   have e:puA f=puA f0:=by injection g1 with g1;injection g1 with g1
   have:=xX f hj
   rw[e,xX f0 hj] at this
   exact(Option.some.inj this).symm
  have keep:∀b o,b≠pb→A.heap[b]?=some o→B.heap[b]?=some o:=fun b o nb ho=>(t.block b (ac ho) nb).trans ho
  refine⟨bM.turned t (fun j q=>by rcases q with q|q<;>omega) (fun j q r=>by rcases q with q|q<;>omega),⟨?_,?_⟩⟩
  ·refine⟨h.on.view.keepS t (fun j q e=>h.z.nf.2.2.2 (e▸q)) (fun j es cl e q=>by subst e;rw[b1] at q;cases q),h.on.from',am h.on.turn t (fun j q=> .inl (.inr q)),h.on.inv⟩
  ·refine⟨keep _ _ h.z.ne.1 h.z.bn,keep _ _ h.z.ne.2.1 h.z.bq,keep _ _ h.z.ne.2.2 h.z.bc,⟨f',b2,pu,pn.mono fun q z=>?_⟩,h.z.nf,h.z.ne,⟨um h.z.len.1 k,fun j hj=>Nat.le_trans (uo s.P k j) (h.z.len.2 j hj)⟩,?_⟩
   ·rcases z with⟨c,hc,e⟩|z
    ·exact g2.2 c hc q (by rw[←hff c hc];exact e)
    ·rintro(y|y)
     ·have:=hN q y
      have:=h.on.turn.size
      omega
     ·have:=h.on.view.lt q y
      omega
   ·obtain⟨q1,q2⟩:=h.z.sem
    refine⟨by show s.i+1≤m;omega,ul h.z.len.1 hb,?_⟩
    rw[show m-s.i=(m-(s.i+1))+1 by omega] at q2
    have e:dG c.us c.pg c.st wy k ((m-(s.i+1))+1) s.P=if gK s.P k then aq (lO c.us c.pg c.st wy (ia s.P k)) (fun _=>dG c.us c.pg c.st wy k (m-(s.i+1)) (gQ s.P k)) else ay s.P:=rfl
    rw[e,if_pos hb] at q2
    exact q2
 fin w6 s s' A B hle hsz h o:=by
  obtain⟨rfl,hb,mo⟩:=o
  refine⟨mZ mo (fun j q=>by rcases q with q|q<;>omega),h.on.more mo,?_⟩
  have h2:=(LsZ.stays N nb qb cb pb m k _).more h.z mo
  refine⟨h2.bn,h2.bq,h2.bc,h2.pu,h2.nf,h2.ne,h2.len,?_⟩
  obtain⟨q1,q2⟩:=h.z.sem
  rcases Nat.lt_or_ge s'.i m with hlt|hge
  ·have hb:=hb.resolve_left (by omega)
   rw[show m-s'.i=(m-(s'.i+1))+1 by omega] at q2
   have e:dG c.us c.pg c.st wy k ((m-(s'.i+1))+1) s'.P=if gK s'.P k then aq (lO c.us c.pg c.st wy (ia s'.P k)) (fun _=>dG c.us c.pg c.st wy k (m-(s'.i+1)) (gQ s'.P k)) else ay s'.P:=rfl
   rw[e,if_neg (by rw[hb];simp)] at q2
   exact q2.symm
  ·rw[show m-s'.i=0 by omega] at q2
   exact q2.symm
 ned w6 s ch A B _ _ _ o:=o.elim
 skp w6 s s' A B _ _ _ o:=o.elim
 rel s s' A B l r0 r1 r r' _ _ h:=h
 word s A h:=h.sem.2.1
 did s A B D1 F1 h hD e hsz hk hf:=by
  have keep:∀b o,¬s.F b→A.heap[b]?=some o→B.heap[b]?=some o:=hk
  obtain⟨f,g1,g2⟩:=h.pu
  have nf:∀b o,¬s.F b→A.heap[b]?=some o→¬F1 b:=fun b o nb ho q=>by
   rcases hf b q with r|r
   ·exact nb r
   ·have:=ac ho;omega
  refine⟨⟨s.i,s.P,D1,F1,s.a⟩,rfl,rfl,rfl,keep _ _ h.nf.1 h.bn,keep _ _ h.nf.2.1 h.bq,keep _ _ h.nf.2.2.1 h.bc,⟨f,keep _ _ h.nf.2.2.2 g1,g2.stayN hk hf⟩,⟨nf _ _ h.nf.1 h.bn,nf _ _ h.nf.2.1 h.bq,nf _ _ h.nf.2.2.1 h.bc,nf _ _ h.nf.2.2.2 g1⟩,h.ne,h.len,h.sem.1,?_⟩
  exact(aj e).symm.trans h.sem.2.2
 nd s A a h e:=h.sem.2.2.symm.trans (ag e)
theorem ry {c:Cfg}(R:c.Ok){n:Nat}(H:cF c.pg c.st n)(hn:n≤10000){bt:Nat}{w:World}(F N:Nat→Prop)(hN:∀k,N k→k<w.heap.size)(p:Nat)(kn:Int→Option Int)(D:List KV)(hk:OkK kn){wy:List WayD}(hok:∀y∈wy,jy n y)(hwl:wy.length≤1000)(nb qb cb pb m:Nat)(hm:m≤1000000)(k:Int)(f:Nat→Value)(P:Nat→List Int)
 (hv:aE w F p kn D) (hD:cD n D) (hs:df bt w) (nF0:¬F 0) (nFb:¬F bt) (np0:pb≠0) (npb:pb≠bt)
 (bn:eE w nb m) (bq:w.heap[qb]?=some (.cells #[.pointer (some ⟨pb,0,none⟩)] 102 (0,0))) (bc:eE w cb k) (bp:w.heap[pb]?=some (.cells (puA f) 32 (0,0))) (pu:cN (fun q=>N q∨F q) w f P)
 (nf:¬F nb∧¬F qb∧¬F cb∧¬F pb) (ne:nb≠pb∧qb≠pb∧cb≠pb) (hW:pL P) (hl:∀j,j<5→(P j).length≤1000000)
 (wb cap:Nat) (hwb:wb<w.heap.size∧¬F wb∧wb≠pb) (hwy:∀j (hj:j<wy.length),∃v,w.cell? ⟨wb,j,none⟩=some v∧uy c p w (fun b=>F b∨b=pb) wy[j] v):
 Calls Tryz.prog 47 #[.func (.func 85) #[] #[.pointer (some ⟨nb,0,none⟩),.pointer (some ⟨qb,0,none⟩),.pointer (some ⟨cb,0,none⟩)],.slice (some ⟨wb,0,none⟩) wy.length cap] w (Pj w F N pb p kn n (dG c.us c.pg c.st wy k m P kn D)):=by
 refine(Ep R H hn F (fun b=>b=pb) p kn hk hok hwl (enters_of Tryz.func85 (by kernel_rfl) rfl) ⟨0,P,D,F,0⟩ w (Lt F N p kn w wy nb qb cb pb m k _ hv.lt hN ⟨ac bp,nf.2.2.2⟩) (CR 2 (by omega) nb qb cb pb m hm k _ w rfl) rfl hv hD
  ⟨bn,bq,bc,⟨f,bp,pu⟩,nf,ne,⟨hW,hl⟩,Nat.zero_le _,rfl⟩ hs nF0 nFb (fun j q=>by subst q;exact⟨ac bp,nf.2.2.2⟩) (fun e=>np0 e.symm) (fun e=>npb e.symm) wb cap hwb hwy).mono ?_
 rintro e w' (⟨a,hN,rfl,hd,ht⟩|⟨s,rfl,hv',ht,hf,hi,hz⟩)
 ·have hN:dG c.us c.pg c.st wy k m P kn D=.need a:=hN
  rw[hN]
  exact⟨rfl,hd,ht⟩
 ·have hS:dG c.us c.pg c.st wy k m P kn D=.ok s.P s.D:=hz.sem
  rw[hS]
  obtain⟨f',g1,g2⟩:=hz.pu
  exact⟨rfl,f',s.F,hv',ht,hf,hi,g1,g2⟩
theorem Ob (c:Cfg)(W:World):(Instr.field 23 (.agg #[.int .i64 c.wk,.int .i64 c.cp,.int .i64 c.pg,.int .i64 c.st,.int .i64 c.tr,.int .i64 c.wt,.int .i64 c.ck,.int .i64 c.pr,.int .i64 c.ca,.int .i64 c.bi,.int .i64 c.ba]) 1).run Tryz.prog W=.ok (.int .i64 c.cp) W:=by kernel_rfl
theorem CW (c:Cfg)(W:World):(Instr.field 23 (.agg #[.int .i64 c.wk,.int .i64 c.cp,.int .i64 c.pg,.int .i64 c.st,.int .i64 c.tr,.int .i64 c.wt,.int .i64 c.ck,.int .i64 c.pr,.int .i64 c.ca,.int .i64 c.bi,.int .i64 c.ba]) 7).run Tryz.prog W=.ok (.int .i64 c.pr) W:=by kernel_rfl
theorem Oc (c:Cfg)(W:World):(Instr.field 23 (.agg #[.int .i64 c.wk,.int .i64 c.cp,.int .i64 c.pg,.int .i64 c.st,.int .i64 c.tr,.int .i64 c.wt,.int .i64 c.ck,.int .i64 c.pr,.int .i64 c.ca,.int .i64 c.bi,.int .i64 c.ba]) 8).run Tryz.prog W=.ok (.int .i64 c.ca) W:=by kernel_rfl
theorem Od (c:Cfg)(W:World):(Instr.field 23 (.agg #[.int .i64 c.wk,.int .i64 c.cp,.int .i64 c.pg,.int .i64 c.st,.int .i64 c.tr,.int .i64 c.wt,.int .i64 c.ck,.int .i64 c.pr,.int .i64 c.ca,.int .i64 c.bi,.int .i64 c.ba]) 9).run Tryz.prog W=.ok (.int .i64 c.bi) W:=by kernel_rfl
theorem Jv (c:Cfg)(W:World):(Instr.field 23 (.agg #[.int .i64 c.wk,.int .i64 c.cp,.int .i64 c.pg,.int .i64 c.st,.int .i64 c.tr,.int .i64 c.wt,.int .i64 c.ck,.int .i64 c.pr,.int .i64 c.ca,.int .i64 c.bi,.int .i64 c.ba]) 10).run Tryz.prog W=.ok (.int .i64 c.ba) W:=by kernel_rfl
theorem Au (b l:Int)(W:World):(Instr.build 96 #[(0,.int .i64 b),(1,.int .i64 l)]).run Tryz.prog W=.ok (.agg #[.int .i64 b,.int .i64 l]) W:=run_build W _ _ _ (by kernel_rfl)
def caV (d:Cfg)(u k:Int):Int:=od d.cp d.pg d.st d.ca u k
def biV (d:Cfg)(k:Int):Int:=Ez d.cp d.pg d.st d.ca d.bi k
theorem sf {c:Cfg}(R:c.Ok)(u k:Int)(w:World):Calls Tryz.prog 64 #[.agg c.arr,.int .i64 u,.int .i64 k] w (aP w (.bool (caV c u k != 0))):=by
 obtain⟨w1,e1,hl1,m1,s1⟩:=aZ w (.cells c.arr 28)
 have MM:=hQQ m1
 have L0:=hQQ hl1
 have HC:=hQQ (Hg R w1 u k)
 clear hl1 m1 R
 go_enter Tryz.func64,Tryz.ntmps64
 go_wp2_with (refine aI rfl rfl rfl L0.o (by kernel_rfl) ?_)
 refine HC.o.mono ?_
 rintro e w2 ⟨rfl,h2⟩
 have M2:=hQQ (MM.o.trans h2)
 clear h2
 go_wp2_with fail
 go_ret
 exact⟨rfl,M2.o⟩
theorem ye {c:Cfg}(R:c.Ok)(u k:Int)(w:World):Calls Tryz.prog 74 #[.agg c.arr,.int .i64 u,.int .i64 k] w (aP w (.agg #[.int .i64 (caV c u k),.int .i64 c.ca])):=by
 obtain⟨w2,e2,hl1,hl2,m2,s2⟩:=gU w (.cells c.arr 28) (.cells #[.int .i64 0,.int .i64 0] 96)
 have MM:=hQQ m2
 have L0:=hQQ hl1
 have L1:=hQQ hl2
 have HR:=hQQ R
 have hf:=Oc c
 have hb:=Au (caV c u k) c.ca
 clear hl1 hl2 m2 R
 go_enter Tryz.func74,Tryz.ntmps74
 go_wp2_with fail
 refine bO 8 (by kernel_rfl) (by kernel_rfl) ?_
 simp only[List.take_succ_cons,List.take_zero,List.drop_succ_cons,List.drop_zero]
 refine aM rfl 28 _ rfl _ rfl 28 _ _ _ (fun W hW=>hW.block L0.o) Tryz.underlying28 rfl (by kernel_rfl) ?_
 iterate 2
  with_reducible refine wpQuiet_step (fun K hK=>?_)
  go_simp
  first
  |(refine hK _ ?_;clear hK K)
  |(apply Exists.intro
    refine⟨fun W hW=>?_,hK _ ?_⟩
    first
    |(go_simp;try rfl)
    clear hK K)
 iterate 1
  with_reducible refine wpQuiet_step (fun K hK=>?_)
  go_simp
  first
  |(refine hK _ ?_;clear hK K)
  |(apply Exists.intro
    refine⟨fun W hW=>?_,hK _ ?_⟩
    first
    |(have hc:=Hg HR.o W u k;go_at_call 28;exact Calls.more hW hc)
    clear hK K)
 refine aM rfl 28 _ rfl _ rfl 28 _ _ _ (fun W hW=>hW.block L0.o) Tryz.underlying28 rfl (by kernel_rfl) ?_
 iterate 1
  with_reducible refine wpQuiet_step (fun K hK=>?_)
  go_simp
  first
  |(refine hK _ ?_;clear hK K)
  |(apply Exists.intro
    refine⟨fun W hW=>?_,hK _ ?_⟩
    first
    |(go_at_call 20;exact Calls.more hW (dw HR.o W))
    clear hK K)
 iterate 2
  with_reducible refine wpQuiet_step (fun K hK=>?_)
  go_simp
  first
  |(refine hK _ ?_;clear hK K)
  |(apply Exists.intro
    refine⟨fun W hW=>?_,hK _ ?_⟩
    first
    |(go_simp;try rfl)
    clear hK K)
 refine wpQuiet_nil ?_
 intro w4 m4
 have L4:=hQQ (m4.block L1.o)
 have M4:=hQQ (MM.o.trans m4)
 have L5:=hQQ (setRow_heap w4 (w.heap.size+1) _ #[.int .i64 (caV c u k),.int .i64 c.ca] _ _ L4.o)
 have M5:Hq (ae w (w4.setRow (w.heap.size+1) #[.int .i64 (caV c u k),.int .i64 c.ca])):=hQQ (M4.o.setRow _ _ (by omega))
 clear hf hb m4
 go_wp2_with (refine wpList_store_row rfl 96 _ _ rfl _ _ rfl rfl 96 _ L4.o (by kernel_rfl) rfl (by simp[Value.oneCell']) ?_)
 refine bodyPost_ret (v:=.agg #[.int .i64 (caV c u k),.int .i64 c.ca]) (results_cell_row Tryz.results74 _ _ _ 96 _ (0,0) _ rfl L5.o Tryz.underlying96 rfl (by kernel_rfl)) rfl ⟨rfl,M5.o⟩
theorem Jw {c:Cfg}(R:c.Ok)(k:Int)(w:World):Calls Tryz.prog 75 #[.agg c.arr,.int .i64 k] w (aP w (.agg #[.int .i64 (biV c k),.int .i64 c.bi])):=by
 obtain⟨w2,e2,hl1,hl2,m2,s2⟩:=gU w (.cells c.arr 28) (.cells #[.int .i64 0,.int .i64 0] 96)
 have MM:=hQQ m2
 have L0:=hQQ hl1
 have L1:=hQQ hl2
 have HR:=hQQ R
 have hf:=Od c
 have hb:=Au (biV c k) c.bi
 clear hl1 hl2 m2 R
 go_enter Tryz.func75,Tryz.ntmps75
 go_wp2_with fail
 refine bO 7 (by kernel_rfl) (by kernel_rfl) ?_
 simp only[List.take_succ_cons,List.take_zero,List.drop_succ_cons,List.drop_zero]
 refine aM rfl 28 _ rfl _ rfl 28 _ _ _ (fun W hW=>hW.block L0.o) Tryz.underlying28 rfl (by kernel_rfl) ?_
 iterate 1
  with_reducible refine wpQuiet_step (fun K hK=>?_)
  go_simp
  first
  |(refine hK _ ?_;clear hK K)
  |(apply Exists.intro
    refine⟨fun W hW=>?_,hK _ ?_⟩
    first
    |(go_simp;try rfl)
    clear hK K)
 iterate 1
  with_reducible refine wpQuiet_step (fun K hK=>?_)
  go_simp
  first
  |(refine hK _ ?_;clear hK K)
  |(apply Exists.intro
    refine⟨fun W hW=>?_,hK _ ?_⟩
    first
    |(have hc:=Pw HR.o W k;go_at_call 29;exact Calls.more hW hc)
    clear hK K)
 refine aM rfl 28 _ rfl _ rfl 28 _ _ _ (fun W hW=>hW.block L0.o) Tryz.underlying28 rfl (by kernel_rfl) ?_
 iterate 1
  with_reducible refine wpQuiet_step (fun K hK=>?_)
  go_simp
  first
  |(refine hK _ ?_;clear hK K)
  |(apply Exists.intro
    refine⟨fun W hW=>?_,hK _ ?_⟩
    first
    |(go_at_call 20;exact Calls.more hW (dw HR.o W))
    clear hK K)
 iterate 2
  with_reducible refine wpQuiet_step (fun K hK=>?_)
  go_simp
  first
  |(refine hK _ ?_;clear hK K)
  |(apply Exists.intro
    refine⟨fun W hW=>?_,hK _ ?_⟩
    first
    |(go_simp;try rfl)
    clear hK K)
 refine wpQuiet_nil ?_
 intro w4 m4
 have L4:=hQQ (m4.block L1.o)
 have M4:=hQQ (MM.o.trans m4)
 have L5:=hQQ (setRow_heap w4 (w.heap.size+1) _ #[.int .i64 (biV c k),.int .i64 c.bi] _ _ L4.o)
 have M5:Hq (ae w (w4.setRow (w.heap.size+1) #[.int .i64 (biV c k),.int .i64 c.bi])):=hQQ (M4.o.setRow _ _ (by omega))
 clear hf hb m4
 go_wp2_with (refine wpList_store_row rfl 96 _ _ rfl _ _ rfl rfl 96 _ L4.o (by kernel_rfl) rfl (by simp[Value.oneCell']) ?_)
 refine bodyPost_ret (v:=.agg #[.int .i64 (biV c k),.int .i64 c.bi]) (results_cell_row Tryz.results75 _ _ _ 96 _ (0,0) _ rfl L5.o Tryz.underlying96 rfl (by kernel_rfl)) rfl ⟨rfl,M5.o⟩
theorem Av (S:Fam)(C:Nat→List Int):∀m,(∀j,j<m→C j= [])→dF S C m= []
 | 0,_=>rfl
 |m+1,h=>by rw[dF,Av S C m (fun j hj=>h j (by omega)),h m (by omega)];rfl
def rz (C:Nat→List Int):Nat→List Int
 | 0=> []
 |m+1=>rz C m++C m
theorem kJ (S:Fam)(C:Nat→List Int):∀m,(dF S C m).map (·.1)=rz C m
 | 0=>rfl
 |m+1=>by
  rw[dF,List.map_append,kJ S C m,rz]
  simp[Function.comp_def]
section
variable {us pg st:Int}{n:Nat}{S:Fam}(H:cF pg st n)(hS:S.In (bo st pg+62) n)(hn:n≤10000)
include H hS hn
theorem i9 {C:Nat→List Int}{k:Int} :∀(l:List Int) {ws:List Int} {O:List (Int×Int)},FrI us pg st n S ws C ((l.map fun a=>(a,k))++O)→FrI us pg st n S (iM us pg st l ws) C O
 | [],ws,O,h=>h
 |a::t,ws,O,h=>by
  have h2:FrI us pg st n S ws C ((t.map fun a=>(a,k))++((a,k)::O)):=h.perm (by rw[List.map_cons,List.cons_append];exact List.perm_middle.symm)
  obtain⟨X,e,h3⟩:=(i9 t h2).back H hS hn
  rw[iM,e]
  exact h3
theorem qJ (P:Nat→List Int){ws:List Int}{C:Nat→List Int}{O:List (Int×Int)}(h:FrI us pg st n S ws C (puO P++O)):FrI us pg st n S (ed us pg st P ws) C O:=by
 have e:puO P++O=((P 0).map fun a=>(a,((0:Nat):Int)))++(((P 1).map fun a=>(a,((1:Nat):Int)))++(((P 2).map fun a=>(a,((2:Nat):Int)))++(((P 3).map fun a=>(a,((3:Nat):Int)))++(((P 4).map fun a=>(a,((4:Nat):Int)))++O)))):=by
  simp[puO,dF,wv]
 rw[e] at h
 unfold ed
 exact i9 H hS hn (P 4) (i9 H hS hn (P 3) (i9 H hS hn (P 2) (i9 H hS hn (P 1) (i9 H hS hn (P 0) h))))
theorem uz {i:Nat}(hi:i<S.m):∀(m:Nat) {ws:List Int} {C:Nat→List Int} {O:List (Int×Int)},FrI us pg st n S ws C O→(C i).length≤m→FrI us pg st n S (ip us pg st (S.b i) (S.l i) m ws) (de C i []) O
 | 0,ws,C,O,h,hl=>by
   have e:C i= []:=List.length_eq_zero_iff.1 (by omega)
   rw[←e,eP];exact h
 |m+1,ws,C,O,h,hl=>by
  rcases h.pop H hS hn hi with⟨e,e2⟩|⟨xs,x,X,e,e2,h2⟩
  ·have em:ip us pg st (S.b i) (S.l i) (m+1) ws=ws:=by simp[ip,e2]
   rw[em,←e,eP];exact h
  ·obtain⟨Y,e3,h3⟩:=h2.back H hS hn
   have em:ip us pg st (S.b i) (S.l i) (m+1) ws=ip us pg st (S.b i) (S.l i) m Y:=by simp[ip,e2,e3]
   have:=uz hi m h3 (by unfold de;simp;rw[e] at hl;simp at hl;omega)
   rw[lw] at this
   rw[em];exact this
theorem Lu {ws:List Int}{C:Nat→List Int}{O:List (Int×Int)}(h:FrI us pg st n S ws C O){i:Nat}(hi:i<S.m):((C i).length:Int)≤S.l i:=(h.keeps i hi).fit
theorem wF {ws:List Int}{C:Nat→List Int}{O:List (Int×Int)}(h:FrI us pg st n S ws C O):∀m,m≤S.m→∃C',FrI us pg st n S (gh us pg st S m ws) C' O∧∀j,j<m→C' j= []
 | 0,_=>⟨C,h,fun j hj=>by omega⟩
 |m+1,hm=>by
  obtain⟨C1,h1,e1⟩:=wF h m (by omega)
  have hf:=Lu H hS hn h1 (i:=m) (by omega)
  refine⟨_,uz H hS hn (i:=m) (by omega) ((S.l m).toNat+1) h1 (by omega),fun j hj=>?_⟩
  unfold de
  split
  ·rfl
  ·exact e1 j (by omega)
theorem wG {ws:List Int}{C:Nat→List Int}{O:List (Int×Int)}(h:FrI us pg st n S ws C O):∃C',FrI us pg st n S (gh us pg st S S.m ws) C' O∧dF S C' S.m= []:=by
 obtain⟨C',h1,h2⟩:=wF H hS hn h S.m (Nat.le_refl _)
 exact⟨C',h1,Av S C' S.m h2⟩
theorem Jy {ws:List Int}{C:Nat→List Int}(h:FrI us pg st n S ws C [])(hk:dF S C S.m= []):∀p,af pg p=true→aX pg st ws p=0:=by
 obtain⟨G,P⟩:=h.pgs
 refine Jj H (us:=us) P fun a=>?_
 cases e:tkC us pg st ws a with
 |none=>rfl
 |some k =>
  have:=(h.acc a k).1 e
  rw[hk] at this
  cases this
theorem wH {ws:List Int}{C:Nat→List Int}{O:List (Int×Int)}(h:FrI us pg st n S ws C O){m:Nat}(hm:us+32 * pg≤us+m):fJ us pg st ws m=(O++dF S C S.m).length:=by
 obtain⟨G,P⟩:=h.pgs
 refine Gf h.nodup h.acc fun p hp=>?_
 obtain⟨a0,a1,_⟩:=xV H P ((h.acc p.1 p.2).2 hp)
 exact⟨a0,by omega⟩
variable (hu:0≤us∧us+32 * pg≤1000000){i0 i1 k:Nat}(h0:i0<S.m)(h1:i1<S.m)(hk:k<5)(k0:S.k i0=k)(k1:S.k i1=k)
include hu h0 h1 hk k0 k1
end
end Go.Proofs.YtddmeghbmdfgeaaGreatDoor
