/-
  The stacks of a layout: each CPU's of each class, and then each class's bin; how many blocks are taken; where all begins.
-/
import Derived.Test.YtfddhogffpkhcaaGreatDoorTdAg
import Derived.Test.YtfddhogffpkhcaaGreatDoorTdAd
import Derived.Laws.OwnMore
import Derived.Laws.AppendOwnNone
import Derived.Maps.AppendAt
import Derived.Shelf.Abstract
import Derived.IntWalk
import Derived.Test.YtfddhogffpkhcaaGreatDoorTdAe
import Derived.Test.YtfddhogffpkhcaaGreatDoorTdAa
import Derived.ProofKit
import Derived.OpenShut
import Derived.Deep.Slices
import Derived.Deep.Fields
import Derived.Lib.SmallJoins
set_option maxRecDepth 100000
set_option maxHeartbeats 8000000
set_option linter.all false
namespace Go.Proofs.YtfddhogffpkhcaaGreatDoor
open Go.RowKit Go.Sort Go.Maps Go.Shelf
def bh (d:Cfg):Fam where
 m:=5 * d.cp.toNat+5
 b:=fun i=>if i<5 * d.cp.toNat then cD d.st d.pg+i * (d.ca+1) else dY d.cp d.pg d.st d.ca+((i:Int)-5 * d.cp) * (d.bi+1)
 l:=fun i=>if i<5 * d.cp.toNat then d.ca else d.bi
 k:=fun i=>(i % 5:Nat)
theorem tD (d:Cfg)(i:Nat):(bh d).b i=if i<5 * d.cp.toNat then cD d.st d.pg+i * (d.ca+1) else dY d.cp d.pg d.st d.ca+((i:Int)-5 * d.cp) * (d.bi+1):=rfl
theorem yr (d:Cfg)(i:Nat):(bh d).l i=if i<5 * d.cp.toNat then d.ca else d.bi:=rfl
theorem gC {d:Cfg}{u c:Nat}(hu:(u:Int)<d.cp)(hc:c<5):5 * u+c<(bh d).m∧(bh d).b (5 * u+c)=fA d.cp d.pg d.st d.ca u c∧(bh d).l (5 * u+c)=d.ca∧(bh d).k (5 * u+c)=c:=by
 have h:5 * u+c<5 * d.cp.toNat:=by omega
 refine⟨by show _<5 * d.cp.toNat+5;omega,?_,?_,?_⟩
 ·show(if _ then _ else _)=_
  rw[if_pos h]
  unfold fA
  rw[if_pos (by omega)]
  simp
 ·show(if _ then _ else _)=_
  rw[if_pos h]
 ·show(((5 * u+c) % 5:Nat):Int)=_
  omega
theorem lq {d:Cfg}{c:Nat}(hp:0≤d.cp)(hc:c<5):5 * d.cp.toNat+c<(bh d).m∧(bh d).b (5 * d.cp.toNat+c)=qH d.cp d.pg d.st d.ca d.bi c∧(bh d).l (5 * d.cp.toNat+c)=d.bi∧(bh d).k (5 * d.cp.toNat+c)=c:=by
 have h:¬(5 * d.cp.toNat+c<5 * d.cp.toNat):=by omega
 refine⟨by show _<5 * d.cp.toNat+5;omega,?_,?_,?_⟩
 ·show(if _ then _ else _)=_
  rw[if_neg h]
  unfold qH
  rw[if_pos (by omega)]
  congr 2
  omega
 ·show(if _ then _ else _)=_
  rw[if_neg h]
 ·show(((5 * d.cp.toNat+c) % 5:Nat):Int)=_
  omega
theorem hH {d:Cfg}(R:d.Ok){n:Nat}(hn:(n:Int)=d.words):(bh d).In (aO d.st d.pg+62) n:=by
 have h1:=R.cp1;have h2:=R.ca1;have h3:=R.bi1
 have hl:=jV R;have hu:=eS R;have hp:=R.pg1
 have hcp:((d.cp.toNat:Nat):Int)=d.cp:=by omega
 have top:cF d.cp d.pg d.st d.ca d.bi<n:=by
  rw[hn]
  show _<cW d.cp d.pg d.st d.ca d.bi
  unfold cW
  omega
 have p5:=j6 R
 -- steps of the caches,and of the bins
 have s1:∀i:Nat,i<5 * d.cp.toNat→(i:Int) * (d.ca+1)+d.ca+1≤5 * d.cp * (d.ca+1)∧0≤(i:Int) * (d.ca+1):=fun i hi=>by
  have:((i:Int)+1) * (d.ca+1)≤5 * d.cp * (d.ca+1):=Int.mul_le_mul_of_nonneg_right (by omega) (by omega)
  have e:((i:Int)+1) * (d.ca+1)=(i:Int) * (d.ca+1)+d.ca+1:=by rw[Int.add_mul];omega
  exact⟨by omega,Int.mul_nonneg (by omega) (by omega)⟩
 have s2:∀j:Int,0≤j→j<5→j * (d.bi+1)+d.bi+1≤5 * (d.bi+1)∧0≤j * (d.bi+1):=fun j h0 hj=>by
  have:(j+1) * (d.bi+1)≤5 * (d.bi+1):=Int.mul_le_mul_of_nonneg_right (by omega) (by omega)
  have e:(j+1) * (d.bi+1)=j * (d.bi+1)+d.bi+1:=by rw[Int.add_mul];omega
  exact⟨by omega,Int.mul_nonneg (by omega) (by omega)⟩
 refine⟨fun i hi=>?_,fun i j hij hj=>?_⟩
 ·have hi:i<5 * d.cp.toNat+5:=hi
  rw[tD,yr]
  by_cases q:i<5 * d.cp.toNat
  ·rw[if_pos q,if_pos q]
   obtain⟨a,b⟩:=s1 i q
   unfold cF dY at top
   unfold cD at *
   refine⟨by omega,h2,by omega⟩
  ·rw[if_neg q,if_neg q]
   obtain⟨a,b⟩:=s2 ((i:Int)-5 * d.cp) (by omega) (by omega)
   unfold cF at top
   have:cD d.st d.pg≤dY d.cp d.pg d.st d.ca:=by unfold dY;omega
   have e:cD d.st d.pg=aO d.st d.pg+62:=rfl
   refine⟨by omega,h3,by omega⟩
 ·have hj:j<5 * d.cp.toNat+5:=hj
  rw[tD,yr,tD]
  by_cases q:j<5 * d.cp.toNat
  ·have qi:i<5 * d.cp.toNat:=by omega
   rw[if_pos qi,if_pos qi,if_pos q]
   have:((i:Int)+1) * (d.ca+1)≤(j:Int) * (d.ca+1):=Int.mul_le_mul_of_nonneg_right (by omega) (by omega)
   have e:((i:Int)+1) * (d.ca+1)=(i:Int) * (d.ca+1)+d.ca+1:=by rw[Int.add_mul];omega
   omega
  ·rw[if_neg q]
   by_cases qi:i<5 * d.cp.toNat
   ·rw[if_pos qi,if_pos qi]
    obtain⟨a,b⟩:=s1 i qi
    obtain⟨c1,c2⟩:=s2 ((j:Int)-5 * d.cp) (by omega) (by omega)
    unfold dY
    omega
   ·rw[if_neg qi,if_neg qi]
    have:((i:Int)-5 * d.cp+1) * (d.bi+1)≤((j:Int)-5 * d.cp) * (d.bi+1):=Int.mul_le_mul_of_nonneg_right (by omega) (by omega)
    have e:((i:Int)-5 * d.cp+1) * (d.bi+1)=((i:Int)-5 * d.cp) * (d.bi+1)+d.bi+1:=by rw[Int.add_mul];omega
    omega
theorem zM {d:Cfg}(R:d.Ok):aO d.st d.pg+62≤cF d.cp d.pg d.st d.ca d.bi∧∀i,i<(bh d).m→(bh d).b i+(bh d).l i<cF d.cp d.pg d.st d.ca d.bi:=by
 have h1:=R.cp1;have h2:=R.ca1;have h3:=R.bi1
 have hcp:((d.cp.toNat:Nat):Int)=d.cp:=by omega
 have p5:=j6 R
 have e:cD d.st d.pg=aO d.st d.pg+62:=rfl
 refine⟨by unfold cF dY;omega,fun i hi=>?_⟩
 have hi:i<5 * d.cp.toNat+5:=hi
 rw[tD,yr]
 by_cases q:i<5 * d.cp.toNat
 ·rw[if_pos q,if_pos q]
  have:((i:Int)+1) * (d.ca+1)≤5 * d.cp * (d.ca+1):=Int.mul_le_mul_of_nonneg_right (by omega) (by omega)
  have e2:((i:Int)+1) * (d.ca+1)=(i:Int) * (d.ca+1)+d.ca+1:=by rw[Int.add_mul];omega
  unfold cF dY;omega
 ·rw[if_neg q,if_neg q]
  have:((i:Int)-5 * d.cp+1) * (d.bi+1)≤5 * (d.bi+1):=Int.mul_le_mul_of_nonneg_right (by omega) (by omega)
  have e2:((i:Int)-5 * d.cp+1) * (d.bi+1)=((i:Int)-5 * d.cp) * (d.bi+1)+d.bi+1:=by rw[Int.add_mul];omega
  unfold cF;omega
def gh0 (d:Cfg):Gh:=⟨fun _=>0,cF d.cp d.pg d.st d.ca d.bi,fun _=>0⟩
theorem rQ {d:Cfg}(R:d.Ok){n:Nat}(H:cB d.pg d.st n)(hn:(n:Int)=d.words)(us:Int):FrI us d.pg d.st n (bh d) (gh0 d) (bQ n) (fun _=> []) []:=by
 have hk:∀m,fC (bh d) (fun _=> []) m= []:=by
  intro m
  induction m with
  |zero=>rfl
  |succ m ih=>rw[fC,ih];rfl
 have hz:∀i:Int,wAt (bQ n) i=0:=fun i=>by
  unfold wAt bQ
  simp only[List.getD,List.getElem?_replicate]
  split<;>rfl
 refine⟨il n,AR n,⟨_,rP H⟩,fun p hp=>⟨fun e=>by unfold aj at e;rw[if_pos hp,hz] at e;omega,fun _=>rfl⟩,zM R,fun i _=>hz i,fun i hi=>⟨by rw[hz];rfl,((hH R hn).lo i hi).2.1,fun j hj=>by simp at hj⟩,by rw[hk];exact List.nodup_nil,fun a k=>?_⟩
 rw[hk,BV H us a]
 exact⟨(fun q=>by cases q),(fun q=>by cases q)⟩
theorem ls {P:Program}{fn:Func}{p u:Tmp}{ty:TypeId}(h:fn.results= #[.cell p ty,.tmp u])(tmps:Array Value)(w:World)(g:Nat)(t:TypeId)(cs:Array Value)(fr:Nat×Nat)(d:TypeDesc)
 (hp:tmps.getD p undef=.pointer (some ⟨g,0,none⟩)) (hg:w.heap[g]?=some (.cells cs t fr))
 (hu:P.underlying ty=some d) (hd:(match d with| .struct _| .array _ _=>true|_=>false)=true) (hi:(P.info? ty).map (·.size)=some cs.size):
 (results fn tmps).run P w=.ok (.tuple #[.agg cs,tmps.getD u undef]) w:=by
 rw[results_cell_tmp h,hp]
 simp[asAddr,run_loadVar_row w g t ty cs fr d hg hu hd hi]
def oN (P:Nat→List Int)(c l:Int):Bool:=gT c && decide (xE P c<l)
def dx (P:Nat→List Int)(c a l:Int):Nat→List Int:=if oN P c l then(fun k=>if k=c.toNat then P k++ [a] else P k) else P
theorem mX (P:Nat→List Int){k:Nat}(hk:k<5):xE P k=(P k).length:=by simp[xE,zj hk]
def mn (P:Nat→List Int)(c:Int):Bool:=decide (0<xE P c)
def qV (P:Nat→List Int)(c:Int):Int:=if mn P c then(P c.toNat).getD ((P c.toNat).length-1) 0 else 0
def oo (P:Nat→List Int)(c:Int):Nat→List Int:=if mn P c then(fun k=>if k=c.toNat then(P k).take ((P k).length-1) else P k) else P
theorem zO {P:Program}{fn:Func}{p u u':Tmp}{ty:TypeId}(h:fn.results= #[.cell p ty,.tmp u,.tmp u'])(tmps:Array Value)(w:World)(g:Nat)(t:TypeId)(cs:Array Value)(fr:Nat×Nat)(d:TypeDesc)
 (hp:tmps.getD p undef=.pointer (some ⟨g,0,none⟩)) (hg:w.heap[g]?=some (.cells cs t fr))
 (hu:P.underlying ty=some d) (hd:(match d with| .struct _| .array _ _=>true|_=>false)=true) (hi:(P.info? ty).map (·.size)=some cs.size):
 (results fn tmps).run P w=.ok (.tuple #[.agg cs,tmps.getD u undef,tmps.getD u' undef]) w:=by
 have hp':tmps[p]?.getD undef=.pointer (some ⟨g,0,none⟩):=by simpa using hp
 simp[results,h,hp',asAddr,run_loadVar_row w g t ty cs fr d hg hu hd hi]
def Fd:Fam:=⟨5,fun _=>0,fun _=>0,fun i=>(i:Int)⟩
def puO (P:Nat→List Int):List (Int×Int):=fC Fd P 5
theorem kK (P:Nat→List Int){k:Nat}(hk:k<5)(a:Int):(puO (dT P k (P k++ [a]))).Perm ((a,(k:Int))::puO P):=by
 have:=jn Fd P k (P k) a 5 hk
 rw[lm] at this
 exact this
theorem tE (P:Nat→List Int){k:Nat}(hk:k<5){xs:List Int}{x:Int}(e:P k=xs++ [x]):(puO P).Perm ((x,(k:Int))::puO (dT P k xs)):=by
 have:=jn Fd P k xs x 5 hk
 rw[←e,lm] at this
 exact this
theorem kL (P:Nat→List Int){k:Nat}(hk:k<5)(a:Int){lim:Int}(h:((P k).length:Int)<lim):dx P k a lim=dT P k (P k++ [a]):=by
 have hb:oN P k lim=true:=by simp[oN,zj hk,mX P hk];omega
 unfold dx
 rw[if_pos hb]
 funext j
 unfold dT
 by_cases e:j=k
 ·subst e;simp
 ·simp[e]
theorem pk (P:Nat→List Int){k:Nat}(hk:k<5){xs:List Int}{x:Int}(e:P k=xs++ [x]):mn P k=true∧qV P k=x∧oo P k=dT P k xs:=by
 have hb:mn P k=true:=by simp[mn,mX P hk,e]
 refine⟨hb,?_,?_⟩
 ·unfold qV;rw[if_pos hb];simp[e]
 ·unfold oo
  rw[if_pos hb]
  funext j
  unfold dT
  by_cases z:j=k
  ·subst z;simp[e]
  ·simp[z]
theorem tF (P:Nat→List Int){k:Nat}(hk:k<5)(e:P k= []):mn P k=false:=by simp[mn,mX P hk,e]
section
variable (us pg st:Int)(S:Fam)(i0 i1:Nat)
def i9 (k:Int):Nat→List Int→(Int×Bool)×List Int
 | 0,ws=>dd (S.b i0) (S.l i0) ws
 | 1,ws=>dd (S.b i1) (S.l i1) ws
 | 2,ws=>if rJ pg st k ws then dR us pg st k ws else((0,false),ws)
 | _,ws=>dR us pg st k ws
def dH (k kind:Nat)(lim:Int):Nat→(Nat→List Int)→List Int→(Nat→List Int)×List Int
 | 0,P,ws=>(P,ws)
 |m+1,P,ws=>if(i9 us pg st S i0 i1 k kind ws).1.2 then dH k kind lim m (dx P k (i9 us pg st S i0 i1 k kind ws).1.1 lim) (i9 us pg st S i0 i1 k kind ws).2 else(P,(i9 us pg st S i0 i1 k kind ws).2)
def iL (ws:List Int):Nat:=if 0<cJ (S.l i0) (wAt ws (S.b i0)) then 0 else if 0<cJ (S.l i1) (wAt ws (S.b i1)) then 1 else 2
def hO (kind:Nat):Nat:=if kind=2 then 3 else kind
def kM (k:Nat)(lim:Int)(m:Nat)(P:Nat→List Int)(ws:List Int):((Int×Bool)×(Nat→List Int))×List Int :=
 if mn P k then(((qV P k,true),oo P k),ws)
 else if(i9 us pg st S i0 i1 k (hO (iL S i0 i1 ws)) ws).1.2 then
  ((((i9 us pg st S i0 i1 k (hO (iL S i0 i1 ws)) ws).1.1,true),(dH us pg st S i0 i1 k (iL S i0 i1 ws) lim m P (i9 us pg st S i0 i1 k (hO (iL S i0 i1 ws)) ws).2).1),(dH us pg st S i0 i1 k (iL S i0 i1 ws) lim m P (i9 us pg st S i0 i1 k (hO (iL S i0 i1 ws)) ws).2).2)
 else(((0,false),P),(i9 us pg st S i0 i1 k (hO (iL S i0 i1 ws)) ws).2)
def mY (a:Int)(ws:List Int):List Int :=
 if(cm (S.b i0) (S.l i0) a ws).1 then(cm (S.b i0) (S.l i0) a ws).2
 else if(cm (S.b i1) (S.l i1) a (cm (S.b i0) (S.l i0) a ws).2).1 then(cm (S.b i1) (S.l i1) a (cm (S.b i0) (S.l i0) a ws).2).2
 else(fT us pg st a (cm (S.b i1) (S.l i1) a (cm (S.b i0) (S.l i0) a ws).2).2).2
def fW (k:Nat):Nat→(Nat→List Int)→List Int→(Nat→List Int)×List Int
 | 0,P,ws=>(P,ws)
 |m+1,P,ws=>if mn P k then fW k m (oo P k) (mY us pg st S i0 i1 (qV P k) ws) else(P,ws)
def rR (k:Nat)(lim:Int)(m:Nat)(a:Int)(P:Nat→List Int)(ws:List Int):(Nat→List Int)×List Int :=
 if lim≤((P k).length:Int) then(dx (fW us pg st S i0 i1 k m P ws).1 k a lim,(fW us pg st S i0 i1 k m P ws).2) else(dx P k a lim,ws)
end
section
variable {us pg st:Int}{n:Nat}{S:Fam}{r:Gh}(H:cB pg st n)(hS:S.In (aO st pg+62) n)(hn:n≤10000)(hu:0≤us∧us+32 * pg≤1000000)
include H hS hn hu
theorem zP {ws:List Int}{C:Nat→List Int}{O:List (Int×Int)}(h:FrI us pg st n S r ws C O){a k:Int}(hm:(a,k)∈O):W64 a:=by
 obtain⟨G,P⟩:=h.pgs
 obtain⟨a0,a1,_⟩:=Fb H P ((h.acc a k).2 (List.mem_append_left _ hm))
 exact⟨by omega,by omega⟩
variable {i0 i1 k:Nat}(h0:i0<S.m)(h1:i1<S.m)(hk:k<5)(k0:S.k i0=k)(k1:S.k i1=k)
include h0 h1 hk k0 k1
theorem tG (kind:Nat){ws:List Int}{C:Nat→List Int}{O:List (Int×Int)}(h:FrI us pg st n S r ws C O):
 i9 us pg st S i0 i1 k kind ws=((0,false),ws)∨∃a X C',i9 us pg st S i0 i1 k kind ws=((a,true),X)∧FrI us pg st n S r X C' ((a,(k:Int))::O):=by
 have gr:dR us pg st k ws=((0,false),ws)∨∃a X C',dR us pg st k ws=((a,true),X)∧FrI us pg st n S r X C' ((a,(k:Int))::O):=by
  rcases h.grab H hS hn k with e|⟨a,X,e,_,_,_,_,_,h'⟩
  ·exact .inl e
  ·exact .inr ⟨a,X,C,e,h'⟩
 match kind with
 | 0 =>
   rcases h.pop H hS hn h0 with⟨_,e⟩|⟨xs,x,X,_,e,h'⟩
   ·exact .inl e
   ·rw[k0] at h';exact .inr ⟨x,X,_,e,h'⟩
 | 1 =>
   rcases h.pop H hS hn h1 with⟨_,e⟩|⟨xs,x,X,_,e,h'⟩
   ·exact .inl e
   ·rw[k1] at h';exact .inr ⟨x,X,_,e,h'⟩
 | 2 =>
   cases hr:rJ pg st k ws with
   |false=>exact .inl (by simp[i9,hr])
   |true =>
    have:i9 us pg st S i0 i1 k 2 ws=dR us pg st k ws:=by simp[i9,hr]
    rw[this];exact gr
 |kind+3=>exact gr
theorem vO (kind:Nat)(lim:Int):∀(m:Nat) (P:Nat→List Int) {ws:List Int} {C:Nat→List Int} {O:List (Int×Int)},FrI us pg st n S r ws C (puO P++O)→((P k).length:Int)+m≤lim →
 ∃C',FrI us pg st n S r (dH us pg st S i0 i1 k kind lim m P ws).2 C' (puO (dH us pg st S i0 i1 k kind lim m P ws).1++O)∧(((dH us pg st S i0 i1 k kind lim m P ws).1 k).length:Int)≤lim∧∀j,j≠k→(dH us pg st S i0 i1 k kind lim m P ws).1 j=P j
 | 0,P,ws,C,O,h,hl=>⟨C,h,by simpa [dH] using hl,fun _ _=>rfl⟩
 |m+1,P,ws,C,O,h,hl=>by
  rcases tG H hS hn hu h0 h1 hk k0 k1 kind h with e|⟨a,X,C',e,h'⟩
  ·refine⟨C,?_,?_,?_⟩<;>simp only[dH,e]
   ·exact h
   ·simp;omega
   ·simp
  ·have hlt:((P k).length:Int)<lim:=by omega
   have hp:=kL P hk a hlt
   have h2:FrI us pg st n S r X C' (puO (dx P k a lim)++O):=by
    rw[hp]
    refine h'.perm ?_
    have:=(kK P hk a).symm.append_right O
    simpa using this
   have hlen:(((dx P k a lim) k).length:Int)+m≤lim:=by rw[hp];unfold dT;simp;omega
   obtain⟨C2,q1,q2,q3⟩:=vO kind lim m (dx P k a lim) h2 hlen
   have em:dH us pg st S i0 i1 k kind lim (m+1) P ws=dH us pg st S i0 i1 k kind lim m (dx P k a lim) X:=by simp[dH,e]
   rw[em]
   refine⟨C2,q1,q2,fun j hj=>?_⟩
   rw[q3 j hj,hp];unfold dT;rw[if_neg hj]
theorem Fe (lim:Int)(m:Nat)(hm:(m:Int)≤lim)(P:Nat→List Int)(hP:∀j,j<5→((P j).length:Int)≤lim){ws:List Int}{C:Nat→List Int}{O:List (Int×Int)}(h:FrI us pg st n S r ws C (puO P++O)):
 kM us pg st S i0 i1 k lim m P ws=(((0,false),P),ws)∨∃a P' X C',kM us pg st S i0 i1 k lim m P ws=(((a,true),P'),X)∧FrI us pg st n S r X C' (puO P'++((a,(k:Int))::O))∧∀j,j<5→((P' j).length:Int)≤lim:=by
 rcases List.eq_nil_or_concat (P k) with e|⟨xs,x,e⟩
 ·have hb:=tF P hk e
  rcases tG H hS hn hu h0 h1 hk k0 k1 (hO (iL S i0 i1 ws)) h with e2|⟨a,X,C',e2,h'⟩
  ·exact .inl (by simp[kM,hb,e2])
  ·have h2:FrI us pg st n S r X C' (puO P++((a,(k:Int))::O)):=h'.perm (by rw[←List.cons_append];exact(List.perm_middle (l₁:=puO P)).symm)
   obtain⟨C2,q1,q2,q3⟩:=vO H hS hn hu h0 h1 hk k0 k1 (iL S i0 i1 ws) lim m P h2 (by rw[e];simpa using hm)
   refine .inr ⟨a,_,_,C2,by simp[kM,hb,e2],q1,fun j hj=>?_⟩
   by_cases z:j=k
   ·subst z;exact q2
   ·rw[q3 j z];exact hP j hj
 ·rw[List.concat_eq_append] at e
  obtain⟨b1,b2,b3⟩:=pk P hk e
  refine .inr ⟨x,oo P k,ws,C,by simp[kM,b1,b2],?_,fun j hj=>?_⟩
  ·rw[b3]
   refine h.perm (((tE P hk e).append_right O).trans ?_)
   rw[List.cons_append]
   exact(List.perm_middle (l₁:=puO (dT P k xs))).symm
  ·rw[b3];unfold dT
   have:=hP j hj
   split
   ·rename_i z;subst z;rw[e] at this;simp at this;omega
   ·exact this
theorem vP {a:Int}{ws:List Int}{C:Nat→List Int}{O:List (Int×Int)}(h:FrI us pg st n S r ws C ((a,(k:Int))::O)):∃C',FrI us pg st n S r (mY us pg st S i0 i1 a ws) C' O:=by
 have ha:=zP H hS hn hu h (List.mem_cons_self ..)
 rcases FrI.push H hS hn h0 (by rw[k0];exact h) ha with⟨_,X,e,h'⟩|⟨_,e⟩
 ·exact⟨_,by simp only[mY,e];exact h'⟩
 ·rcases FrI.push H hS hn h1 (by rw[k1];exact h) ha with⟨_,X,e2,h'⟩|⟨_,e2⟩
  ·exact⟨_,by simp only[mY,e,e2];exact h'⟩
  ·obtain⟨X,e3,h'⟩:=h.back H hS hn
   exact⟨_,by simp only[mY,e,e2,e3];exact h'⟩
theorem vQ:∀(m:Nat) (P:Nat→List Int) {ws:List Int} {C:Nat→List Int} {O:List (Int×Int)},FrI us pg st n S r ws C (puO P++O) →
 ∃C',FrI us pg st n S r (fW us pg st S i0 i1 k m P ws).2 C' (puO (fW us pg st S i0 i1 k m P ws).1++O)∧((fW us pg st S i0 i1 k m P ws).1 k).length=(P k).length-m∧∀j,j≠k→(fW us pg st S i0 i1 k m P ws).1 j=P j
 | 0,P,ws,C,O,h=>⟨C,h,rfl,fun _ _=>rfl⟩
 |m+1,P,ws,C,O,h=>by
  rcases List.eq_nil_or_concat (P k) with e|⟨xs,x,e⟩
  ·have hb:=tF P hk e
   have em:fW us pg st S i0 i1 k (m+1) P ws=(P,ws):=by simp[fW,hb]
   rw[em]
   exact⟨C,h,by simp[e],fun _ _=>rfl⟩
  ·rw[List.concat_eq_append] at e
   obtain⟨b1,b2,b3⟩:=pk P hk e
   have h2:FrI us pg st n S r ws C ((x,(k:Int))::(puO (dT P k xs)++O)):=h.perm ((tE P hk e).append_right O)
   obtain⟨C1,h3⟩:=vP H hS hn hu h0 h1 hk k0 k1 h2
   obtain⟨C2,q1,q2,q3⟩:=vQ m (dT P k xs) h3
   have em:fW us pg st S i0 i1 k (m+1) P ws=fW us pg st S i0 i1 k m (dT P k xs) (mY us pg st S i0 i1 x ws):=by simp[fW,b1,b2,b3]
   rw[em]
   refine⟨C2,q1,?_,fun j hj=>?_⟩
   ·rw[q2,e];unfold dT;simp
   ·rw[q3 j hj];unfold dT;rw[if_neg hj]
theorem Ff {lim:Int}{m:Nat}(hl:1≤lim)(hm:1≤m)(P:Nat→List Int)(hP:∀j,j<5→((P j).length:Int)≤lim){a:Int}{ws:List Int}{C:Nat→List Int}{O:List (Int×Int)}(h:FrI us pg st n S r ws C (puO P++((a,(k:Int))::O))):
 ∃P' X C',rR us pg st S i0 i1 k lim m a P ws=(P',X)∧FrI us pg st n S r X C' (puO P'++O)∧∀j,j<5→((P' j).length:Int)≤lim:=by
 have fin:∀(Q:Nat→List Int) (X:List Int) (C':Nat→List Int),FrI us pg st n S r X C' (puO Q++((a,(k:Int))::O))→((Q k).length:Int)<lim→(∀j,j<5→((Q j).length:Int)≤lim)→FrI us pg st n S r X C' (puO (dx Q k a lim)++O)∧∀j,j<5→(((dx Q k a lim) j).length:Int)≤lim:=fun Q X C' hq hlt hQ=>by
  rw[kL Q hk a hlt]
  refine⟨hq.perm ?_,fun j hj=>?_⟩
  ·refine List.perm_middle.trans ?_
   have:=(kK Q hk a).symm.append_right O
   simpa using this
  ·unfold dT
   split
   ·simp;omega
   ·exact hQ j hj
 by_cases hf:lim≤((P k).length:Int)
 ·obtain⟨C1,q1,q2,q3⟩:=vQ H hS hn hu h0 h1 hk k0 k1 m P h
  have:=hP k hk
  obtain⟨f1,f2⟩:=fin _ _ _ q1 (by rw[q2];omega) (fun j hj=>by
   by_cases z:j=k
   ·subst z;rw[q2];omega
   ·rw[q3 j z];exact hP j hj)
  exact⟨_,_,C1,by simp only[rR];rw[if_pos hf],f1,f2⟩
 ·obtain⟨f1,f2⟩:=fin P ws C h (by omega) hP
  exact⟨_,_,C,by simp only[rR];rw[if_neg hf],f1,f2⟩
end
section
variable {us pg st:Int}{n:Nat}{S:Fam}{r:Gh}(H:cB pg st n)(hS:S.In (aO st pg+62) n)(hn:n≤10000)
include H hS hn
variable (hu:0≤us∧us+32 * pg≤1000000){i0 i1 k:Nat}(h0:i0<S.m)(h1:i1<S.m)(hk:k<5)(k0:S.k i0=k)(k1:S.k i1=k)
include hu h0 h1 hk k0 k1
end
abbrev Bl:=Int×Int
section
variable {ops:Array Oper}{C:World→Prop}{o':Oper}{a:Act}
end
theorem Jm (x:Int):0≤IntKind.u64.wrap x:=pE x
def nthI (k:Int)(n:Nat):Nat:=(IntKind.u64.wrap k % (n:Int)).toNat
theorem tH (k:Int){n:Nat}(h:0<n):nthI k n<n:=by
 have h1:=Int.emod_nonneg (IntKind.u64.wrap k) (show(n:Int)≠0 by omega)
 have h2:=Int.emod_lt_of_pos (IntKind.u64.wrap k) (show 0<(n:Int) by omega)
 unfold nthI;omega
theorem Jn (k:Int){n:Nat}(h:0<n)(h':n≤1000000):IntKind.i64.wrap ((IntKind.u64.wrap k).tmod (n:Int))=(nthI k n:Int):=by
 have h1:=Int.emod_nonneg (IntKind.u64.wrap k) (show(n:Int)≠0 by omega)
 have h2:=Int.emod_lt_of_pos (IntKind.u64.wrap k) (show 0<(n:Int) by omega)
 rw[Int.tmod_eq_emod_of_nonneg (Jm k),IntWalk.i64_in _ (by omega)]
 unfold nthI;omega
open Go.ChangeShapes Go.WideShapes Go.ChangeAt Go.Joins Go.Deep
section
variable {H:Type}{enc:TypeId×Value→H}{P:Program}{w:World}{base:Nat}{spare:Nat→Bool}{held:Bool}
end
def BZ (d:Cfg)(u c:Int):Prop:=0≤c∧c<5∧0≤u∧u<d.cp
instance (d:Cfg)(u c:Int):Decidable (BZ d u c):=by unfold BZ;infer_instance
def frM (d:Cfg):Nat:=(if d.ba-1≤d.pr then d.ba-1 else d.pr).toNat
def tkW (d:Cfg)(u:Int)(P:Nat→List Int)(c:Int)(ws:List Int):((Int×Bool)×(Nat→List Int))×List Int :=
 if BZ d u c then kM d.us d.pg d.st (bh d) (5 * u.toNat+c.toNat) (5 * d.cp.toNat+c.toNat) c.toNat d.pr (frM d) P ws else(((0,false),P),ws)
def gvW (d:Cfg)(u:Int)(P:Nat→List Int)(c a:Int)(ws:List Int):(Nat→List Int)×List Int :=
 if BZ d u c then rR d.us d.pg d.st (bh d) (5 * u.toNat+c.toNat) (5 * d.cp.toNat+c.toNat) c.toNat d.pr d.ba.toNat a P ws else(P,ws)
section
variable {d:Cfg}(R:d.Ok){n:Nat}(H:cB d.pg d.st n)(hw:(n:Int)=d.words)(hn:n≤10000)
include R H hw hn
theorem zQ:0≤d.us∧d.us+32 * d.pg≤1000000:=by
 have hb:=eS R
 have e:d.words=d.us+32 * d.pg:=rfl
 have e2:d.us=bH d.cp d.pg d.st d.ca d.bi:=rfl
 omega
theorem Hr {u c:Int}(P:Nat→List Int)(hP:∀j,j<5→((P j).length:Int)≤d.pr){r:Gh}{ws:List Int}{C:Nat→List Int}{O:List Bl}(h:FrI d.us d.pg d.st n (bh d) r ws C (puO P++O)):
 tkW d u P c ws=(((0,false),P),ws)∨∃a P' X C',tkW d u P c ws=(((a,true),P'),X)∧FrI d.us d.pg d.st n (bh d) r X C' (puO P'++((a,c)::O))∧∀j,j<5→((P' j).length:Int)≤d.pr:=by
 unfold tkW
 split
 ·rename_i q
  obtain⟨q0,q1,q2,q3⟩:=q
  obtain⟨a1,_,_,a4⟩:=gC (d:=d) (u:=u.toNat) (c:=c.toNat) (by omega) (by omega)
  obtain⟨b1,_,_,b4⟩:=lq (d:=d) (c:=c.toNat) (by have:=R.cp1;omega) (by omega)
  have hm:((frM d:Nat):Int)≤d.pr:=by have:=R.pr1;have:=R.ba1;unfold frM;split<;>omega
  rcases Fe H (hH R hw) hn (zQ R H hw hn) a1 b1 (k:=c.toNat) (by omega) a4 b4 d.pr (frM d) hm P hP h with e|⟨a,P',X,C',e,h',hl⟩
  ·exact .inl e
  ·refine .inr ⟨a,P',X,C',e,?_,hl⟩
   rw[show((c.toNat:Nat):Int)=c by omega] at h'
   exact h'
 ·exact .inl rfl
theorem Hs {u c a:Int}(hu:0≤u∧u<d.cp)(P:Nat→List Int)(hP:∀j,j<5→((P j).length:Int)≤d.pr){r:Gh}{ws:List Int}{C:Nat→List Int}{O:List Bl}(h:FrI d.us d.pg d.st n (bh d) r ws C (puO P++((a,c)::O))):
 ∃P' X C',gvW d u P c a ws=(P',X)∧FrI d.us d.pg d.st n (bh d) r X C' (puO P'++O)∧∀j,j<5→((P' j).length:Int)≤d.pr:=by
 obtain⟨G,W⟩:=h.pgs
 obtain⟨_,_,c0,c4,_⟩:=Fb H W ((h.acc a c).2 (by simp))
 unfold gvW
 rw[if_pos ⟨c0,by omega,hu.1,hu.2⟩]
 obtain⟨a1,_,_,a4⟩:=gC (d:=d) (u:=u.toNat) (c:=c.toNat) (by omega) (by omega)
 obtain⟨b1,_,_,b4⟩:=lq (d:=d) (c:=c.toNat) (by have:=R.cp1;omega) (by omega)
 refine Ff H (hH R hw) hn (zQ R H hw hn) a1 b1 (k:=c.toNat) (by omega) a4 b4 R.pr1 (by have:=R.ba1;omega) P hP (C:=C) ?_
 rw[show((c.toNat:Nat):Int)=c by omega]
 exact h
end
def B0 (r:Gh)(p m:Int):Gh:= { r with r:=fun q=>if q=p then m else r.r q }
theorem jo (r:Gh)(p m:Int):(B0 r p m).r p=m:=if_pos rfl
theorem gD (r:Gh){p q:Int}(m:Int)(h:q≠p):(B0 r p m).r q=r.r q:=if_neg h
def Fg (r:Gh)(i x:Int):Gh:= { r with z:=fun j=>if j=i then x else r.z j }
theorem vR {pg st m step p:Int}{ws:List Int}(hpg:0≤pg)(h:dD pg st m step ws=p)(hp:p≠ -1):1≤m∧1≤step∧p % step=0∧j3 pg st p m ws=true:=by
 unfold dD at h
 by_cases h1:1≤m∧1≤step
 ·rw[if_pos h1] at h
  have key:∀f:Int→Bool,(∀q,f q=true→aj pg st ws q=0)→∀q,cj f pg m step=q→q≠ -1→q % step=0∧j3 pg st q m ws=true:=fun f hf q hq hne=>by
   unfold cj at hq
   rcases jG (f:=f) (pg:=pg) h1.1 h1.2 (pg.toNat+1) 0 0 (by omega) (by omega) (by omega) with⟨e,_⟩|⟨k,e,p0,hh,_⟩
   ·exact absurd (hq.symm.trans e) hne
   ·rw[hq] at e
    rw[←e] at hh p0
    refine⟨by rw[e];exact Int.mul_emod_left _ _,fa.2 ⟨bo.2 ⟨p0,h1.1,by have:=hh.1;omega⟩,fun i a b=>hf i (hh.2 i a b)⟩⟩
  refine⟨h1.1,h1.2,?_⟩
  by_cases e:cj (dW pg st ws) pg m step= -1
  ·rw[if_pos e] at h
   exact key (fH pg st ws) (fun q hq=>by simpa [fH] using hq) p h hp
  ·rw[if_neg e] at h
   refine key (dW pg st ws) (fun q hq=>?_) p h hp
   unfold dW at hq
   simp at hq
   exact hq.2
 ·rw[if_neg h1] at h;exact absurd h.symm hp
section
variable {pg st:Int}{n:Nat}(H:cB pg st n)
include H
theorem Ht {y m:Int}{a b:List Int}(T:GY pg st y m a b):∀i,0≤i→¬NoL pg st i→wAt b i=wAt a i:=fun i h0 h1 =>
 T.off i h0 (fun p hp=>⟨fun z=>h1 (by rw[z];exact vu H hp),fun z=>h1 (by rw[z];exact rK H hp),fun z=>h1 (by rw[z];exact rM H hp)⟩)
theorem rS {p m:Int}{a b:List Int}(T:GY pg st p m a b):jN pg st a b:=⟨T.len,fun i hi=>by
 have h1:=H.st1;have h4:=H.pg1
 have hc:0≤aD pg:=by unfold aD;omega
 have ht:0≤aN st:=by unfold aN;omega
 refine T.off i (by unfold aO at hi;omega) (fun p hp=>?_)
 obtain⟨⟨_,h1⟩,⟨_,h2⟩,⟨_,h3⟩,_⟩:=iK H hp
 exact⟨by omega,by omega,by omega⟩⟩
theorem zR {G:Int→List Int}{a b:List Int}(F:PgF pg st G a)(w:Wf pg st b)(hs:∀q,af pg q=true→(aj pg st b q=aj pg st a q∧aL pg st b q=aL pg st a q∧bz pg st b q=bz pg st a q)∨(¬(1≤aj pg st a q∧aj pg st a q≤5)∧¬(1≤aj pg st b q∧aj pg st b q≤5))):PgF pg st G b:=by
 refine⟨w,fun q hq hk=>?_,fun x q hx=>?_⟩
 ·rcases hs q hq with⟨e1,e2,e3⟩|⟨_,e⟩
  ·rw[e1] at hk⊢;rw[e2,e3];exact F.cnt q hq hk
  ·exact absurd hk e
 ·rw[F.mem x q hx]
  constructor
  ·rintro⟨hq,hk,hh⟩
   rcases hs q hq with⟨e1,e2,_⟩|⟨e,_⟩
   ·rw[e1,e2];exact⟨hq,hk,hh⟩
   ·exact absurd hk e
  ·rintro⟨hq,hk,hh⟩
   rcases hs q hq with⟨e1,e2,_⟩|⟨_,e⟩
   ·rw[e1] at hk hh;rw[e2] at hh;exact⟨hq,hk,hh⟩
   ·exact absurd hk e
theorem Fh {us:Int}{G:Int→List Int}{a b:List Int}(P:PgW pg st G a)(Q:PgW pg st G b)(hs:∀q,af pg q=true→(aj pg st b q=aj pg st a q∧aL pg st b q=aL pg st a q∧bz pg st b q=bz pg st a q)∨(¬(1≤aj pg st a q∧aj pg st a q≤5)∧¬(1≤aj pg st b q∧aj pg st b q≤5)))(x:Int):tkC us pg st b x=tkC us pg st a x:=by
 apply Option.ext
 intro k
 rw[fg H Q,fg H P]
 constructor
 ·rintro⟨q,j,hq,k0,k4,hj,ek,hb,ha⟩
  rcases hs q hq with⟨e1,_,e3⟩|⟨_,e⟩
  ·exact⟨q,j,hq,k0,k4,hj,by rw[←e1];exact ek,by rw[←e3];exact hb,ha⟩
  ·exact absurd (by omega) e
 ·rintro⟨q,j,hq,k0,k4,hj,ek,hb,ha⟩
  rcases hs q hq with⟨e1,_,e3⟩|⟨e,_⟩
  ·exact⟨q,j,hq,k0,k4,hj,by rw[e1];exact ek,by rw[e3];exact hb,ha⟩
  ·exact absurd (by omega) e
variable {us:Int}{S:Fam}{r:Gh}(hS:S.In (aO st pg+62) n)(hn:n≤10000)
include hS hn
theorem FrI.run {ws:List Int}{C:Nat→List Int}{O:List (Int×Int)}(h:FrI us pg st n S r ws C O){p m:Int}(hm:W64 m)(hv:j3 pg st p m ws=true):
 ∃X,dP pg st p m 6 ws=(true,X)∧FrI us pg st n S (B0 r p m) X C O:=by
 obtain⟨G,P⟩:=h.pgs
 obtain⟨ht,h0⟩:=fa.1 hv
 obtain⟨t0,t1,t2⟩:=bo.1 ht
 have hf:qR 6 m=true:=mH.2 (.inl rfl)
 have T:=rF H.toPgIn (p:=p) (m:=m) (k:=6) h.len ht
 have hw:=jj H (rC H.toPgIn p m 6 (by unfold W64;omega) hm) h.len h.ok
 have e:dP pg st p m 6 ws=(true,cR pg st 7 (m-1).toNat (p+1) (bD pg st p 6 (if(6:Int)=6 then m else 0) (co pg st p m ws).2)):=by
  unfold dP
  rw[hf,hv];rfl
 rw[e] at hw
 generalize cR pg st 7 (m-1).toNat (p+1) (bD pg st p 6 (if(6:Int)=6 then m else 0) (co pg st p m ws).2)=X at T e hw
 have W:=GX H.toPgIn P.f.wf hv hf T
 have six:∀q,af pg q=true→(aj pg st X q=aj pg st ws q∧aL pg st X q=aL pg st ws q∧bz pg st X q=bz pg st ws q)∨(¬(1≤aj pg st ws q∧aj pg st ws q≤5)∧¬(1≤aj pg st X q∧aj pg st X q≤5)):=fun q hq=>by
  by_cases z:p≤q∧q<p+m
  ·refine .inr ⟨by rw[h0 q z.1 z.2];omega,?_⟩
   rw[T.kind q]
   by_cases z2:q=p
   ·rw[if_pos z2];omega
   ·rw[if_neg z2,if_pos (by omega)];omega
  ·exact .inl ⟨by rw[T.kind q,if_neg (by omega),if_neg (by omega)],by rw[T.cnt q hq,if_neg (by omega),if_neg (by omega)],by rw[T.bit q hq,if_neg z]⟩
 have Q:PgW pg st G X:=⟨P.ln.same H (zB H T),zR H P.f W six⟩
 refine⟨X,e,hw.2,hw.1,⟨G,Q⟩,fun q hq=>?_,h.top,(fun i hi=>((ol H T).off i (by have:=h.top.1;have hi:r.top≤i:=hi;omega)).trans (h.rest i hi)),jP H hS hn (ol H T) h.keeps,h.nodup,fun a k=>(by rw[Fh H P Q six];exact h.acc a k)⟩
 by_cases z2:q=p
 ·subst z2
  rw[jo,T.kind,if_pos rfl,T.cnt q hq,if_pos rfl,if_pos rfl]
  exact⟨fun _=>⟨t1,rfl⟩,fun y=>absurd rfl y⟩
 ·rw[gD r m z2,T.kind,if_neg z2,T.cnt q hq,if_neg z2]
  by_cases z:p<q∧q<p+m
  ·rw[if_pos z]
   have:=(h.runs q hq).2 (by rw[h0 q (by omega) z.2];omega)
   exact⟨fun y=>by omega,fun _=>this⟩
  ·rw[if_neg z,if_neg z];exact h.runs q hq
theorem FrI.drop {ws:List Int}{C:Nat→List Int}{O:List (Int×Int)}(h:FrI us pg st n S r ws C O){p:Int}(hp:af pg p=true)(h6:aj pg st ws p=6):
 ∃X,dQ pg st p ws=(r.r p,X)∧FrI us pg st n S (B0 r p 0) X C O:=by
 obtain⟨G,P⟩:=h.pgs
 obtain⟨hr1,hr2⟩:=(h.runs p hp).1 h6
 obtain⟨r0,r1,r2,r3⟩:=P.f.wf.run p h6
 have hl:dX pg st p ws=r.r p:=by
  unfold dX
  rw[h6,if_neg (by decide),if_pos rfl]
  omega
 have T:=Bg H.toPgIn p h.len
 have W:=GZ H.toPgIn P.f.wf T
 have hw:=jj H (rD H.toPgIn p) h.len h.ok
 have e:dQ pg st p ws=(r.r p,(dQ pg st p ws).2):=by unfold dQ;rw[hl]
 rw[hl] at T
 generalize (dQ pg st p ws).2=X at T e hw W
 have hin:∀q,p≤q→q<p+r.r p→aj pg st ws q=6∨aj pg st ws q=7:=fun q a b=>by
  by_cases z:q=p
  ·rw[z];exact .inl h6
  ·exact .inr (r2 q (by omega) (by omega))
 have six:∀q,af pg q=true→(aj pg st X q=aj pg st ws q∧aL pg st X q=aL pg st ws q∧bz pg st X q=bz pg st ws q)∨(¬(1≤aj pg st ws q∧aj pg st ws q≤5)∧¬(1≤aj pg st X q∧aj pg st X q≤5)):=fun q hq=>by
  by_cases z:p≤q∧q<p+r.r p
  ·have:=hin q z.1 z.2
   refine .inr ⟨by omega,?_⟩
   rw[T.kind q,if_pos z];omega
  ·exact .inl ⟨by rw[T.kind q,if_neg z],by rw[T.cnt q hq,if_neg z],by rw[T.bit q hq,if_neg z]⟩
 have Q:PgW pg st G X:=⟨P.ln.same H (Ht H T),zR H P.f W six⟩
 refine⟨X,e,hw.2,hw.1,⟨G,Q⟩,fun q hq=>?_,h.top,(fun i hi=>((rS H T).off i (by have:=h.top.1;have hi:r.top≤i:=hi;omega)).trans (h.rest i hi)),jP H hS hn (rS H T) h.keeps,h.nodup,fun a k=>(by rw[Fh H P Q six];exact h.acc a k)⟩
 by_cases z2:q=p
 ·subst z2
  rw[jo,T.kind,if_pos (by omega)]
  exact⟨fun y=>by omega,fun _=>rfl⟩
 ·rw[gD r 0 z2,T.kind]
  by_cases z:p≤q∧q<p+r.r p
  ·rw[if_pos z]
   have:=r2 q (by omega) (by omega)
   exact⟨fun y=>by omega,fun _=>(h.runs q hq).2 (by omega)⟩
  ·rw[if_neg z,T.cnt q hq,if_neg z];exact h.runs q hq
theorem FrI.mark {ws:List Int}{C:Nat→List Int}{O:List (Int×Int)}(h:FrI us pg st n S r ws C O){i x:Int}(hi:r.top≤i)(hn2:i<n)(hx:W64 x):FrI us pg st n S (Fg r i x) (ws.set i.toNat x) C O:=by
 obtain⟨G,P⟩:=h.pgs
 have h1:=H.st1;have h4:=H.pg1
 have hc:0≤aD pg:=by unfold aD;omega
 have ht:0≤aN st:=by unfold aN;omega
 obtain⟨t1,t2⟩:=h.top
 have t1':0≤i:=by unfold aO at t1;omega
 have at':∀j:Int,0≤j→wAt (ws.set i.toNat x) j=if j=i then x else wAt ws j:=fun j hj=>bL t1' hj (by rw[h.len];exact hn2)
 have F:oM pg st ws (ws.set i.toNat x):=⟨by simp,fun j h0 hj=>by rw[at' j h0,if_neg (by omega)]⟩
 refine⟨by simp[h.len],fun y hy=>?_,⟨G,om H F P⟩,h.runs.same (fun p hp=>⟨by rw[eE H F],fun _=>io H F hp⟩),h.top,fun j hj=>?_,fun j hj=>?_,h.nodup,fun a k=>(by rw[vK H F P];exact h.acc a k)⟩
 ·rcases List.mem_or_eq_of_mem_set hy with q|q
  ·exact h.ok y q
  ·rw[q];exact hx
 ·have hj:r.top≤j:=hj
  rw[at' j (by unfold aO at t1;omega)]
  show _=if j=i then x else r.z j
  split
  ·rfl
  ·exact h.rest j hj
 ·refine(h.keeps j hj).off fun k k0 k1=>?_
  have l1:=(hS.lo j hj).1
  have l2:=t2 j hj
  rw[at' k (by unfold aO at l1;omega),if_neg (by omega)]
end
theorem mZ {c:Cfg}(R:c.Ok)(u k:Int)(w:World):Calls Tryz.prog 101 #[.agg c.cells,.int .i64 u,.int .i64 k] w (aF w (.int .i64 (fA c.cp c.pg c.st c.ca u k))):=IZ c.wk c.cp c.pg c.st c.tr c.wt c.ck c.pr c.ca c.bi c.ba w u k R
theorem yt {c:Cfg}(R:c.Ok)(k:Int)(w:World):Calls Tryz.prog 102 #[.agg c.cells,.int .i64 k] w (aF w (.int .i64 (qH c.cp c.pg c.st c.ca c.bi k))):=Kz c.wk c.cp c.pg c.st c.tr c.wt c.ck c.pr c.ca c.bi c.ba w k R
theorem Ca {d:Cfg}(R:d.Ok){u:Nat}(hu:(u:Int)<d.cp){k:Nat}(hk:k<5):0<fA d.cp d.pg d.st d.ca u k:=by
 obtain⟨a1,a2,_⟩:=gC (d:=d) hu hk
 have:=kQ R
 have h2:=R.ca1
 unfold fA
 rw[if_pos (by omega)]
 have:0≤(5 * (u:Int)+k) * (d.ca+1):=Int.mul_nonneg (by omega) (by omega)
 omega
structure Kh (c:Cfg)(ws:List Int)(b l:Int)(xs:List Int):Prop where
 st:lN b l ws.length
 keeps:fw ws b l xs
 room:b+1<ws.length
theorem oq {c:Cfg}(R:c.Ok){ws:List Int}(H:cB c.pg c.st ws.length)(hl:ws.length≤1000)(hww:(ws.length:Int)=c.words){r:Gh}{C:Nat→List Int}{O:List (Int×Int)}(F:FrI c.us c.pg c.st ws.length (bh c) r ws C O){i:Nat}(hi:i<(bh c).m):Kh c ws ((bh c).b i) ((bh c).l i) (C i):=by
 refine⟨yq H (hH R hww) (by omega) hi,F.keeps i hi,?_⟩
 have h1:=(zM R).2 i hi
 have h2:=eS R
 have h3:=R.pg1
 have h4:=F.keeps i hi
 have h5:=h4.fit
 have e:c.words=bH c.cp c.pg c.st c.ca c.bi+32 * c.pg:=rfl
 omega
theorem vS {c:Cfg}(R:c.Ok){u k:Nat}(hu:(u:Int)<c.cp)(hk:k<5)(w:World):Calls Tryz.prog 98 #[.agg c.cells,.int .i64 (u:Int),.int .i64 (k:Int)] w (aF w (.bool false)):=by
 have hc:=aH w c.cells 27
 have HC:=hQQ hc
 have HM:Hq (ae w (w.alloc (.cells c.cells 27))):=hQQ ((ae.refl w).alloc _)
 have YC:=hQQ (fun W=>mZ R (u:Int) (k:Int) W)
 have z0:(fA c.cp c.pg c.st c.ca u k==0)=false:=by have:=Ca R hu hk;simp;omega
 generalize fA c.cp c.pg c.st c.ca u k=z at z0 YC
 clear hc R
 go_enter Tryz.func98,Tryz.ntmps98
 go_wp2_with (first|(refine aA rfl rfl rfl HC.o (by kernel_rfl) ?_)|(refine aA rfl rfl rfl HC.o (by kernel_rfl) ?_))
 refine(YC.o _).mono ?_
 rintro e w1 ⟨rfl,h1⟩
 have M1:=hQQ (HM.o.trans h1)
 clear h1
 go_wp2_with fail
 go_ret
 exact⟨rfl,M1.o⟩
theorem Cb {c:Cfg}(R:c.Ok)(ws:List Int)(H:cB c.pg c.st ws.length)(hl:ws.length≤1000)(hww:(ws.length:Int)=c.words){r:Gh}{C:Nat→List Int}{O:List (Int×Int)}(F:FrI c.us c.pg c.st ws.length (bh c) r ws C O)(g cap:Nat)(kd:Nat)(hkd:kd≤3){u k:Nat}(hu:(u:Int)<c.cp)(hk:k<5)(w:World)(hw:Ws w g cap ws):
 Calls Tryz.prog 103 #[.agg c.cells,.slice (some ⟨g,0,none⟩) ws.length cap,.int .i64 (kd:Int),.int .i64 (u:Int),.int .i64 (k:Int)] w (og w g cap (.tuple #[.int .i64 (i9 c.us c.pg c.st (bh c) (5 * u+k) (5 * c.cp.toNat+k) k kd ws).1.1,.bool (i9 c.us c.pg c.st (bh c) (5 * u+k) (5 * c.cp.toNat+k) k kd ws).1.2]) (i9 c.us c.pg c.st (bh c) (5 * u+k) (5 * c.cp.toNat+k) k kd ws).2):=by
 obtain⟨G,P⟩:=F.pgs
 have ho:=F.ok
 have GR:=hQQ (fun W (hW:Ws W g cap ws)=>E0 R ws H hl P ho g cap (k:Int) W hW)
 have RO:=hQQ (fun W (hW:Ws W g cap ws)=>EY R ws H hl P.ln g cap (k:Int) W hW)
 obtain⟨a1,a2,a3,_⟩:=gC (d:=c) hu hk
 obtain⟨b1,b2,b3,_⟩:=lq (d:=c) (c:=k) (by have:=R.cp1;omega) hk
 have S0:=oq R H hl hww F a1
 have S1:=oq R H hl hww F b1
 rw[a2,a3] at S0
 rw[b2,b3] at S1
 have PC:=hQQ (fun W (hW:Ws W g cap ws)=>zI ws hl S0.st S0.keeps S0.room g cap W hW)
 have PB:=hQQ (fun W (hW:Ws W g cap ws)=>zI ws hl S1.st S1.keeps S1.room g cap W hW)
 have YC:=hQQ (fun W=>mZ R (u:Int) (k:Int) W)
 have YB:=hQQ (fun W=>yt R (k:Int) W)
 have e0:i9 c.us c.pg c.st (bh c) (5 * u+k) (5 * c.cp.toNat+k) k 0 ws=dd (fA c.cp c.pg c.st c.ca u k) c.ca ws:=by show dd ((bh c).b _) ((bh c).l _) ws=_;rw[a2,a3]
 have e1:i9 c.us c.pg c.st (bh c) (5 * u+k) (5 * c.cp.toNat+k) k 1 ws=dd (qH c.cp c.pg c.st c.ca c.bi k) c.bi ws:=by show dd ((bh c).b _) ((bh c).l _) ws=_;rw[b2,b3]
 have e2:i9 c.us c.pg c.st (bh c) (5 * u+k) (5 * c.cp.toNat+k) k 2 ws=if rJ c.pg c.st k ws then dR c.us c.pg c.st k ws else((0,false),ws):=rfl
 have e3:i9 c.us c.pg c.st (bh c) (5 * u+k) (5 * c.cp.toNat+k) k 3 ws=dR c.us c.pg c.st k ws:=rfl
 clear S0 S1 a1 a2 a3 b1 b2 b3 F P ho G
 generalize fA c.cp c.pg c.st c.ca u k=bc at YC PC e0
 generalize qH c.cp c.pg c.st c.ca c.bi k=bb at YB PB e1
 generalize dR c.us c.pg c.st k ws=gv at GR e2 e3
 generalize dd bc c.ca ws=pc at PC e0
 generalize dd bb c.bi ws=pb at PB e1
 generalize rJ c.pg c.st k ws=rv at RO e2
 have E:=hQQ (And.intro e0 (And.intro e1 (And.intro e2 e3)))
 clear e0 e1 e2 e3
 have hc:=aH w c.cells 27
 have HR:=hQQ R
 have HH:=hQQ H
 have hgl:=hw.lt
 obtain⟨w1,e1⟩:∃w1,w.alloc (.cells c.cells 27)=w1:=⟨_,rfl⟩
 have m1:ae w w1:=by rw[←e1];exact(ae.refl w).alloc _
 rw[e1] at hc
 have HC:=hQQ hc
 have HM:=hQQ m1
 have HW:=hQQ (hw.more m1)
 have x2:w1.cell? ⟨w.heap.size,2,none⟩=some (.int .i64 c.pg):=aB hc (ae.refl _) rfl
 have X2:=hQQ x2
 have pg1:=R.pg1
 have pg2:=R.pg2
 clear x2 m1 hw R H hc
 have x8:w1.cell? ⟨w.heap.size,8,none⟩=some (.int .i64 c.ca):=aB HC.o (ae.refl _) rfl
 have x9:w1.cell? ⟨w.heap.size,9,none⟩=some (.int .i64 c.bi):=aB HC.o (ae.refl _) rfl
 have X8:=hQQ x8
 have X9:=hQQ x9
 clear x8 x9
 have hk4:kd=0∨kd=1∨kd=2∨kd=3:=by omega
 rcases hk4 with rfl|rfl|rfl|rfl
 ·rw[E.o.1]
  go_enter Tryz.func103,Tryz.ntmps103
  go_wp2_with fail
  refine ib 8 #[true,true,true,true,true,true,true,true,false,false,false,false,false] (by kernel_rfl) (by kernel_rfl) ?_
  simp only[List.take_succ_cons,List.take_zero]
  iterate 1
   with_reducible refine wpQuiet_step (fun K hK=>?_)
   go_simp
   first
   |(refine hK _ ?_;clear hK K)
   |(apply Exists.intro
     refine⟨fun W hW=>?_,hK _ ?_⟩
     first
     |(go_simp;try rfl)
     clear hK K)
  refine ai rfl 27 _ rfl _ rfl 27 _ _ _ (fun W hW=>hW.block HC.o) Tryz.underlying27 rfl (by kernel_rfl) ?_
  iterate 6
   with_reducible refine wpQuiet_step (fun K hK=>?_)
   go_simp
   first
   |(refine hK _ ?_;clear hK K)
   |(apply Exists.intro
     refine⟨fun W hW=>?_,hK _ ?_⟩
     first
     |(go_at_call 101;exact Calls.more hW (YC.o W))
     |(have xc':=hW.cell X8.o;go_simp;try rfl)
     clear hK K)
  refine wpQuiet_nil ?_
  intro w3 h3
  have T3:Hq (Turned (fun b=>b=g) w1 w3):=hQQ (turned_more h3)
  have X3:=hQQ (HW.o.more h3)
  clear h3
  refine wpAny_ready (rs:=[8]) (by kernel_rfl) (by simp) ?_
  refine AllReady.cons rfl (fun K hK=>?_) AllReady.nil
  rw[if_pos (by kernel_rfl)]
  refine jd (v0:=.slice (some ⟨g,0,none⟩) ws.length cap) (v1:=.int .i64 bc) (v2:=.int .i64 c.ca) rfl rfl rfl rfl (enters_of Tryz.func128 (by kernel_rfl) rfl) ?_
  refine(PC.o w3 X3.o).mono ?_
  rintro e w4 ⟨rfl,hx4,ht4⟩
  have X4:=hQQ hx4
  have T4:=hQQ (Turned.trans T3.o ht4)
  clear hx4 ht4
  refine hK _ _ ?_
  clear hK K
  refine wpAny_take (i:=8+1) (v:=.int .i64 pc.1.1) rfl (by kernel_rfl) (by kernel_rfl) (by kernel_rfl) (fun _ _ _ h=>h) (Or.inl ⟨by rfl,fun W=>by go_simp⟩) ?_
  refine wpAny_take (i:=8+2) (v:=.bool pc.1.2) rfl (by kernel_rfl) (by kernel_rfl) (by kernel_rfl) (fun _ _ _ h=>h) (Or.inl ⟨by rfl,fun W=>by go_simp⟩) ?_
  refine wpAny_take (i:=8+3) (v:=.int .i64 pc.1.1) rfl (by kernel_rfl) (by kernel_rfl) (by kernel_rfl) (fun _ _ _ h=>h) (Or.inl ⟨by rfl,fun W=>by go_simp⟩) ?_
  refine wpAny_take (i:=8+4) (v:=.bool pc.1.2) rfl (by kernel_rfl) (by kernel_rfl) (by kernel_rfl) (fun _ _ _ h=>h) (Or.inl ⟨by rfl,fun W=>by go_simp⟩) ?_
  refine wpAny_done (by kernel_rfl) ?_ _
  go_wp2_with fail
  go_ret2
  exact⟨rfl,X4.o,Turned.trans (turned_more HM.o) T4.o⟩
 ·rw[E.o.2.1]
  go_enter Tryz.func103,Tryz.ntmps103
  go_wp2_with fail
  refine ib 7 #[true,true,true,true,true,true,true,false,false,false,false,false] (by kernel_rfl) (by kernel_rfl) ?_
  simp only[List.take_succ_cons,List.take_zero]
  iterate 1
   with_reducible refine wpQuiet_step (fun K hK=>?_)
   go_simp
   first
   |(refine hK _ ?_;clear hK K)
   |(apply Exists.intro
     refine⟨fun W hW=>?_,hK _ ?_⟩
     first
     |(go_simp;try rfl)
     clear hK K)
  refine ai rfl 27 _ rfl _ rfl 27 _ _ _ (fun W hW=>hW.block HC.o) Tryz.underlying27 rfl (by kernel_rfl) ?_
  iterate 5
   with_reducible refine wpQuiet_step (fun K hK=>?_)
   go_simp
   first
   |(refine hK _ ?_;clear hK K)
   |(apply Exists.intro
     refine⟨fun W hW=>?_,hK _ ?_⟩
     first
     |(go_at_call 102;exact Calls.more hW (YB.o W))
     |(have xc':=hW.cell X9.o;go_simp;try rfl)
     clear hK K)
  refine wpQuiet_nil ?_
  intro w3 h3
  have T3:Hq (Turned (fun b=>b=g) w1 w3):=hQQ (turned_more h3)
  have X3:=hQQ (HW.o.more h3)
  clear h3
  refine wpAny_ready (rs:=[7]) (by kernel_rfl) (by simp) ?_
  refine AllReady.cons rfl (fun K hK=>?_) AllReady.nil
  rw[if_pos (by kernel_rfl)]
  refine jd (v0:=.slice (some ⟨g,0,none⟩) ws.length cap) (v1:=.int .i64 bb) (v2:=.int .i64 c.bi) rfl rfl rfl rfl (enters_of Tryz.func128 (by kernel_rfl) rfl) ?_
  refine(PB.o w3 X3.o).mono ?_
  rintro e w4 ⟨rfl,hx4,ht4⟩
  have X4:=hQQ hx4
  have T4:=hQQ (Turned.trans T3.o ht4)
  clear hx4 ht4
  refine hK _ _ ?_
  clear hK K
  refine wpAny_take (i:=7+1) (v:=.int .i64 pb.1.1) rfl (by kernel_rfl) (by kernel_rfl) (by kernel_rfl) (fun _ _ _ h=>h) (Or.inl ⟨by rfl,fun W=>by go_simp⟩) ?_
  refine wpAny_take (i:=7+2) (v:=.bool pb.1.2) rfl (by kernel_rfl) (by kernel_rfl) (by kernel_rfl) (fun _ _ _ h=>h) (Or.inl ⟨by rfl,fun W=>by go_simp⟩) ?_
  refine wpAny_take (i:=7+3) (v:=.int .i64 pb.1.1) rfl (by kernel_rfl) (by kernel_rfl) (by kernel_rfl) (fun _ _ _ h=>h) (Or.inl ⟨by rfl,fun W=>by go_simp⟩) ?_
  refine wpAny_take (i:=7+4) (v:=.bool pb.1.2) rfl (by kernel_rfl) (by kernel_rfl) (by kernel_rfl) (fun _ _ _ h=>h) (Or.inl ⟨by rfl,fun W=>by go_simp⟩) ?_
  refine wpAny_done (by kernel_rfl) ?_ _
  go_wp2_with fail
  go_ret2
  exact⟨rfl,X4.o,Turned.trans (turned_more HM.o) T4.o⟩
 ·rw[E.o.2.2.1]
  clear E
  cases rv with
  |false =>
   rw[if_neg (by simp)]
   go_enter Tryz.func103,Tryz.ntmps103
   go_wp2_with (first|(refine aA rfl rfl rfl HC.o (by kernel_rfl) ?_)|(refine aA rfl rfl rfl HC.o (by kernel_rfl) ?_))
   refine(RO.o _ HW.o).mono ?_
   rintro e w2 ⟨rfl,h2⟩
   have T2:Hq (Turned (fun b=>b=g) w1 w2):=hQQ (turned_more h2)
   have X2':=hQQ (HW.o.more h2)
   clear h2
   go_wp2_with fail
   go_ret2
   exact⟨rfl,X2'.o,Turned.trans (turned_more HM.o) T2.o⟩
  |true =>
   rw[if_pos rfl]
   go_enter Tryz.func103,Tryz.ntmps103
   go_wp2_with (first|(refine aA rfl rfl rfl HC.o (by kernel_rfl) ?_)|(refine aA rfl rfl rfl HC.o (by kernel_rfl) ?_))
   refine(RO.o _ HW.o).mono ?_
   rintro e w2 ⟨rfl,h2⟩
   have T2:Hq (Turned (fun b=>b=g) w1 w2):=hQQ (turned_more h2)
   have X2':=hQQ (HW.o.more h2)
   have HL2:=hQQ (h2.block HC.o)
   clear h2
   go_wp2_with (first|(refine aA rfl rfl rfl HL2.o (by kernel_rfl) ?_)|(refine aA rfl rfl rfl HL2.o (by kernel_rfl) ?_))
   refine(GR.o _ X2'.o).mono ?_
   rintro e w4 ⟨rfl,hx4,ht4⟩
   have X4:=hQQ hx4
   have T4:=hQQ (Turned.trans T2.o ht4)
   clear hx4 ht4
   go_wp2_with fail
   go_ret2
   exact⟨rfl,X4.o,Turned.trans (turned_more HM.o) T4.o⟩
 ·rw[E.o.2.2.2]
  go_enter Tryz.func103,Tryz.ntmps103
  go_wp2_with (first|(refine aA rfl rfl rfl HC.o (by kernel_rfl) ?_)|(refine aA rfl rfl rfl HC.o (by kernel_rfl) ?_))
  refine(GR.o _ HW.o).mono ?_
  rintro e w4 ⟨rfl,hx4,ht4⟩
  have X4:=hQQ hx4
  have T4:=hQQ ht4
  clear hx4 ht4
  go_wp2_with fail
  go_ret2
  exact⟨rfl,X4.o,Turned.trans (turned_more HM.o) T4.o⟩
theorem Fi {c:Cfg}(R:c.Ok)(ws:List Int)(H:cB c.pg c.st ws.length)(hl:ws.length≤1000)(hww:(ws.length:Int)=c.words){r:Gh}{C:Nat→List Int}{O:List (Int×Int)}{ad:Int}{u k:Nat}(F:FrI c.us c.pg c.st ws.length (bh c) r ws C ((ad,(k:Int))::O))(ha:W64 ad)(g cap:Nat)(hu:(u:Int)<c.cp)(hk:k<5)(w:World)(hw:Ws w g cap ws):
 Calls Tryz.prog 110 #[.agg c.cells,.slice (some ⟨g,0,none⟩) ws.length cap,.int .i64 (u:Int),.int .i64 (k:Int),.int .i64 ad] w (og w g cap (.tuple #[]) (mY c.us c.pg c.st (bh c) (5 * u+k) (5 * c.cp.toNat+k) ad ws)):=by
 obtain⟨G,P⟩:=F.pgs
 have ho:=F.ok
 have RT:=hQQ (fun W (hW:Ws W g cap ws)=>yp R ws H hl P ho g cap ad W hW)
 obtain⟨a1,a2,a3,a4⟩:=gC (d:=c) hu hk
 obtain⟨b1,b2,b3,b4⟩:=lq (d:=c) (c:=k) (by have:=R.cp1;omega) hk
 have S0:=oq R H hl hww F a1
 have S1:=oq R H hl hww F b1
 have hF0:=FrI.push H (hH R hww) (by omega) a1 (by rw[a4];exact F) ha
 have hF1:=FrI.push H (hH R hww) (by omega) b1 (by rw[b4];exact F) ha
 have P0:=hQQ (fun W (hW:Ws W g cap ws)=>vF ws hl S0.st S0.keeps S0.room ad g cap W hW)
 have P1:=hQQ (fun W (hW:Ws W g cap ws)=>vF ws hl S1.st S1.keeps S1.room ad g cap W hW)
 have YC:=hQQ (fun W=>mZ R (u:Int) (k:Int) W)
 have YB:=hQQ (fun W=>yt R (k:Int) W)
 unfold mY
 rw[a2,a3,b2,b3]
 rw[a2,a3] at P0 hF0
 rw[b2,b3] at P1 hF1
 have NG:Hq (w.heap.size≠g):=hQQ (fun e=>by have:=hw.lt;omega)
 clear S0 S1 a1 a2 a3 a4 b1 b2 b3 b4 F P ho G
 generalize fA c.cp c.pg c.st c.ca u k=bc at YC P0 hF0⊢
 generalize qH c.cp c.pg c.st c.ca c.bi k=bb at YB P1 hF1⊢
 rcases hF0 with⟨_,X,e,_⟩|⟨_,e⟩
 ·rw[e,if_pos rfl]
  rw[e] at P0
  generalize X=XX at P0⊢
  clear e hF1 P1 RT
  have hc:=aH w c.cells 27
  have HR:=hQQ R
  have HH:=hQQ H
  have hgl:=hw.lt
  obtain⟨w1,e1⟩:∃w1,w.alloc (.cells c.cells 27)=w1:=⟨_,rfl⟩
  have m1:ae w w1:=by rw[←e1];exact(ae.refl w).alloc _
  rw[e1] at hc
  have HC:=hQQ hc
  have HM:=hQQ m1
  have HW:=hQQ (hw.more m1)
  have x2:w1.cell? ⟨w.heap.size,2,none⟩=some (.int .i64 c.pg):=aB hc (ae.refl _) rfl
  have X2:=hQQ x2
  have pg1:=R.pg1
  have pg2:=R.pg2
  clear x2 m1 hw R H hc
  go_enter Tryz.func110,Tryz.ntmps110
  go_wp2_with fail
  refine dg (fun W=>W.heap[w.heap.size]?=some (.cells c.cells 27 (0,0))) (by kernel_rfl) ?_
  change eY _ _ _ _ _ _ _ _ (w1.drewN 1)
  have X0:Hq (Ws (w1.drewN 1) g cap ws):=hQQ (HW.o.more ((ae.refl w1).drewN 1))
  have C0:Hq ((w1.drewN 1).heap[w.heap.size]?=some (.cells c.cells 27 (0,0))):=hQQ (((ae.refl w1).drewN 1).block HC.o)
  have T0:Hq (Turned (fun b=>b=g) w1 (w1.drewN 1)):=hQQ (turned_more ((ae.refl w1).drewN 1))
  generalize w1.drewN 1=wq at X0 C0 T0⊢
  generalize hA:Act.mk _ _=A
  have HF:AG 37 A [(1,.slice (some ⟨g,0,none⟩) ws.length cap),(2,.int .i64 (u:Int)),(3,.int .i64 (k:Int)),(4,.int .i64 ad),(5,.pointer (some ⟨w.heap.size,0,none⟩))]:=by
   rw[←hA];try simp only[pts,List.foldl]
   refine⟨⟨Nat.le_of_ble_eq_true rfl,rfl⟩,?_⟩
   intro z hz;simp only[List.mem_cons,List.not_mem_nil,or_false] at hz;rcases hz with rfl|rfl|rfl|rfl|rfl<;>rfl
  refine eZ (fun a W=>a=(pts A [(10,.slice (some ⟨g,0,none⟩) ws.length cap),(11,.agg c.cells),(12,.int .i64 (u:Int)),(13,.int .i64 (k:Int)),(15,.pointer (some ⟨w.heap.size,0,none⟩)),(16,.pointer (some ⟨w.heap.size,8,none⟩)),(17,.int .i64 c.ca),(18,.int .i64 ad),(14,.int .i64 bc),(19,.bool true),(20,.bool false),(21,.bool false),(22,undef),(23,undef),(24,undef),(25,undef),(26,undef),(27,undef),(28,undef),(29,undef),(30,undef),(31,undef),(32,(.bool false))])∧Ws W g cap XX∧Turned (fun b=>b=g) w1 W) (fun _=>False) [] (fun a W hd h=>h.elim) (fun _ _ _ _ _ h=>h) ?_ ?_
  ·skip
   rintro a9 w9 ⟨rfl,hx9,ht9⟩
   rw[←hA];try simp only[pts,List.foldl]
   have X9:=hQQ hx9
   have T9:=hQQ ht9
   clear hx9 ht9 HF hA X0 C0 T0
   go_simp
   go_wp2_with fail
   go_end0
   exact⟨rfl,X9.o,Turned.trans (turned_more HM.o) T9.o⟩
  intro QQ FINE FIND FINQ
  clear hA
  refine tqM 0 10 0 rfl (.inl rfl) rfl (by kernel_rfl) FINQ C0.o HF fun A β1 HF=>?_
  refine tqC 1 11 (.agg c.cells) (by kernel_rfl) FINQ C0.o HF (by exact bF (ah rfl) 27 _ rfl (w.heap.size) (HF.get 5 rfl) 27 _ _ _ (fun W hW=>hW) Tryz.underlying27 rfl (by kernel_rfl)) fun A β2 HF=>?_
  refine tqM 2 12 3 rfl (.inl rfl) rfl (by kernel_rfl) FINQ C0.o HF fun A β3 HF=>?_
  refine tqM 3 13 5 rfl (.inl rfl) rfl (by kernel_rfl) FINQ C0.o HF fun A β4 HF=>?_
  refine tqC 5 15 (.pointer (some ⟨w.heap.size,0,none⟩)) (by kernel_rfl) FINQ C0.o HF (by exact(Or.inl ⟨(ah rfl),fun W hW=>by have h50:=(HF.getD 8 rfl);go_simp⟩)) fun A β5 HF=>?_
  refine tqC 6 16 (.pointer (some ⟨w.heap.size,8,none⟩)) (by kernel_rfl) FINQ C0.o HF (by exact(Or.inl ⟨(ah rfl),fun W hW=>by have h50:=(HF.getD 0 rfl);go_simp⟩)) fun A β6 HF=>?_
  refine tqC 7 17 (.int .i64 c.ca) (by kernel_rfl) FINQ C0.o HF (by exact cZ (ah rfl) 3 _ rfl (w.heap.size) 8 (HF.get 0 rfl) (.int .i64 c.ca) _ Tryz.underlying3 rfl (fun W hW=>by simp[World.cell?,hW,Cfg.cells])) fun A β7 HF=>?_
  refine tqM 8 18 10 rfl (.inl rfl) rfl (by kernel_rfl) FINQ C0.o HF fun A β8 HF=>?_
  refine tqO 4 14 (by kernel_rfl) HF fun K hK=>?_
  refine jd (v0:=.agg c.cells) (v1:=.int .i64 (u:Int)) (v2:=.int .i64 (k:Int)) rfl (HF.get 6 rfl) (HF.get 5 rfl) (HF.get 4 rfl) (enters_of Tryz.func101 (by kernel_rfl) rfl) ?_
  refine(YC.o _).mono ?_
  rintro e y1 ⟨rfl,h1⟩
  have X1:=hQQ (X0.o.more h1)
  have C1:=hQQ (h1.block C0.o)
  have T1:Hq (Turned (fun b=>b=g) w1 y1):=hQQ (Turned.trans T0.o (turned_more h1))
  clear h1
  refine hK _ _ C1.o fun A β9 HF=>?_
  clear hK K
  refine tqO 9 19 (by kernel_rfl) HF fun K hK=>?_
  refine iC (v0:=.slice (some ⟨g,0,none⟩) ws.length cap) (v1:=.int .i64 bc) (v2:=.int .i64 c.ca) (v3:=.int .i64 ad) rfl (HF.get 8 rfl) (HF.get 0 rfl) (HF.get 2 rfl) (HF.get 1 rfl) (enters_of Tryz.func135 (by kernel_rfl) rfl) ?_
  refine(P0.o _ X1.o).mono ?_
  rintro e y2 ⟨rfl,hx,ht⟩
  have X2:=hQQ hx
  have T2:Hq (Turned (fun b=>b=g) w1 y2):=hQQ (Turned.trans T1.o ht)
  have C2:=hQQ ((ht.block _ (ac C1.o) (fun q=>NG.o q)).trans C1.o)
  clear hx ht
  refine hK _ _ C2.o fun A β10 HF=>?_
  clear hK K
  refine tqC 10 20 (.bool false) (by kernel_rfl) FINQ C2.o HF (by exact kt (ah rfl) rfl (HF.get 0 rfl)) fun A β11 HF=>?_
  refine tqM 11 21 0 rfl (.inl rfl) rfl (by kernel_rfl) FINQ C2.o HF fun A β12 HF=>?_
  refine tqC 12 22 (undef) (by kernel_rfl) FINQ C2.o HF (by exact cY (eJ 11 true 21 rfl rfl (HF.at (by decide) 0 rfl))) fun A β13 HF=>?_
  refine tqC 13 23 (undef) (by kernel_rfl) FINQ C2.o HF (by exact cY (eJ 11 true 21 rfl rfl (HF.at (by decide) 1 rfl))) fun A β14 HF=>?_
  refine tqC 14 24 (undef) (by kernel_rfl) FINQ C2.o HF (by exact cY (eJ 11 true 21 rfl rfl (HF.at (by decide) 2 rfl))) fun A β15 HF=>?_
  refine tqC 15 25 (undef) (by kernel_rfl) FINQ C2.o HF (by exact cY (eJ 11 true 21 rfl rfl (HF.at (by decide) 3 rfl))) fun A β16 HF=>?_
  refine tqC 16 26 (undef) (by kernel_rfl) FINQ C2.o HF (by exact cY (eJ 11 true 21 rfl rfl (HF.at (by decide) 4 rfl))) fun A β17 HF=>?_
  refine tqC 17 27 (undef) (by kernel_rfl) FINQ C2.o HF (by exact cY (eJ 11 true 21 rfl rfl (HF.at (by decide) 5 rfl))) fun A β18 HF=>?_
  refine tqC 18 28 (undef) (by kernel_rfl) FINQ C2.o HF (by exact cY (eJ 11 true 21 rfl rfl (HF.at (by decide) 6 rfl))) fun A β19 HF=>?_
  refine tqC 19 29 (undef) (by kernel_rfl) FINQ C2.o HF (by exact cY (eJ 11 true 21 rfl rfl (HF.at (by decide) 7 rfl))) fun A β20 HF=>?_
  refine tqC 20 30 (undef) (by kernel_rfl) FINQ C2.o HF (by exact cY (eJ 11 true 21 rfl rfl (HF.at (by decide) 8 rfl))) fun A β21 HF=>?_
  refine tqC 21 31 (undef) (by kernel_rfl) FINQ C2.o HF (by exact cY (eJ 11 true 21 rfl rfl (HF.at (by decide) 9 rfl))) fun A β22 HF=>?_
  refine tqC 22 32 ((.bool false)) (by kernel_rfl) FINQ C2.o HF (by exact qO (ah rfl) rfl (HF.get 10 rfl) rfl) fun A β23 HF=>?_
  exact el (by kernel_rfl) (FINE _ _ ⟨by rw[← β23,← β22,← β21,← β20,← β19,← β18,← β17,← β16,← β15,← β14,← β13,← β12,← β11,← β10,← β9,← β8,← β7,← β6,← β5,← β4,← β3,← β2,← β1]<;>rfl,X2.o,T2.o⟩)
 ·rw[e]
  rw[e] at P0
  simp only
  rw[if_neg (by simp)]
  obtain⟨b1,XX,e1⟩:∃b1 XX,cm bb c.bi ad ws=(b1,XX):=⟨_,_,rfl⟩
  rw[e1] at P1 hF1⊢
  have FX:Hq ((b1=true→XX=(if b1=true then XX else(fT c.us c.pg c.st ad XX).2))∧(b1=false→XX=ws∧(fT c.us c.pg c.st ad ws).2=(if b1=true then XX else(fT c.us c.pg c.st ad XX).2))):=hQQ (by
   refine⟨fun q=>by rw[if_pos q],fun q=>?_⟩
   rcases hF1 with⟨_,Y,e2,_⟩|⟨_,e2⟩
   ·rw[q] at e2;simp at e2
   ·have:XX=ws:=by simpa using congrArg Prod.snd e2
    rw[this,q];exact⟨rfl,rfl⟩)
  simp only
  generalize (if b1=true then XX else(fT c.us c.pg c.st ad XX).2)=YY at FX⊢
  clear e hF1 e1
  have hc:=aH w c.cells 27
  have HR:=hQQ R
  have HH:=hQQ H
  have hgl:=hw.lt
  obtain⟨w1,e1⟩:∃w1,w.alloc (.cells c.cells 27)=w1:=⟨_,rfl⟩
  have m1:ae w w1:=by rw[←e1];exact(ae.refl w).alloc _
  rw[e1] at hc
  have HC:=hQQ hc
  have HM:=hQQ m1
  have HW:=hQQ (hw.more m1)
  have x2:w1.cell? ⟨w.heap.size,2,none⟩=some (.int .i64 c.pg):=aB hc (ae.refl _) rfl
  have X2:=hQQ x2
  have pg1:=R.pg1
  have pg2:=R.pg2
  clear x2 m1 hw R H hc
  go_enter Tryz.func110,Tryz.ntmps110
  go_wp2_with fail
  refine dg (fun W=>W.heap[w.heap.size]?=some (.cells c.cells 27 (0,0))) (by kernel_rfl) ?_
  change eY _ _ _ _ _ _ _ _ (w1.drewN 1)
  have X0:Hq (Ws (w1.drewN 1) g cap ws):=hQQ (HW.o.more ((ae.refl w1).drewN 1))
  have C0:Hq ((w1.drewN 1).heap[w.heap.size]?=some (.cells c.cells 27 (0,0))):=hQQ (((ae.refl w1).drewN 1).block HC.o)
  have T0:Hq (Turned (fun b=>b=g) w1 (w1.drewN 1)):=hQQ (turned_more ((ae.refl w1).drewN 1))
  generalize w1.drewN 1=wq at X0 C0 T0⊢
  generalize hA:Act.mk _ _=A
  have HF:AG 37 A [(1,.slice (some ⟨g,0,none⟩) ws.length cap),(2,.int .i64 (u:Int)),(3,.int .i64 (k:Int)),(4,.int .i64 ad),(5,.pointer (some ⟨w.heap.size,0,none⟩))]:=by
   rw[←hA];try simp only[pts,List.foldl]
   refine⟨⟨Nat.le_of_ble_eq_true rfl,rfl⟩,?_⟩
   intro z hz;simp only[List.mem_cons,List.not_mem_nil,or_false] at hz;rcases hz with rfl|rfl|rfl|rfl|rfl<;>rfl
  refine eZ (fun a W=>a=(pts A [(10,.slice (some ⟨g,0,none⟩) ws.length cap),(11,.agg c.cells),(12,.int .i64 (u:Int)),(13,.int .i64 (k:Int)),(15,.pointer (some ⟨w.heap.size,0,none⟩)),(16,.pointer (some ⟨w.heap.size,8,none⟩)),(17,.int .i64 c.ca),(18,.int .i64 ad),(14,.int .i64 bc),(19,.bool false),(20,.bool true),(21,.bool true),(22,.slice (some ⟨g,0,none⟩) ws.length cap),(23,.agg c.cells),(24,.int .i64 (k:Int)),(26,.pointer (some ⟨w.heap.size,0,none⟩)),(27,.pointer (some ⟨w.heap.size,9,none⟩)),(28,.int .i64 c.bi),(29,.int .i64 ad),(25,.int .i64 bb),(30,.bool b1),(31,.bool (!b1)),(32,.bool (!b1))])∧Ws W g cap XX∧Turned (fun b=>b=g) w1 W) (fun _=>False) [] (fun a W hd h=>h.elim) (fun _ _ _ _ _ h=>h) ?_ ?_
  ·skip
   rintro a9 w9 ⟨rfl,hx9,ht9⟩
   rw[←hA];try simp only[pts,List.foldl]
   have X9:=hQQ hx9
   have T9:=hQQ ht9
   have C9:=hQQ ((ht9.block _ (ac HC.o) (fun q=>NG.o q)).trans HC.o)
   clear hx9 ht9 HF hA X0 C0 T0
   cases b1 with
   |true =>
    go_simp
    go_wp2_with fail
    go_end0
    exact⟨rfl,FX.o.1 (by simp)▸X9.o,Turned.trans (turned_more HM.o) T9.o⟩
   |false =>
    obtain⟨e1,e2⟩:=FX.o.2 (by simp)
    have X8:Hq (Ws w9 g cap ws):=hQQ (by rw[←e1];exact X9.o)
    have E2:=hQQ e2
    clear e1 e2 X9 FX
    go_simp
    go_wp2_with (first|(refine aA rfl rfl rfl C9.o (by kernel_rfl) ?_)|(refine aA rfl rfl rfl C9.o (by kernel_rfl) ?_))
    refine(RT.o _ X8.o).mono ?_
    rintro e w4 ⟨rfl,hx4,ht4⟩
    have X4:=hQQ hx4
    have T4:=hQQ (Turned.trans T9.o ht4)
    clear hx4 ht4
    go_wp2_with fail
    go_end0
    exact⟨rfl,E2.o▸X4.o,Turned.trans (turned_more HM.o) T4.o⟩
  intro QQ FINE FIND FINQ
  clear hA
  refine tqM 0 10 0 rfl (.inl rfl) rfl (by kernel_rfl) FINQ C0.o HF fun A β1 HF=>?_
  refine tqC 1 11 (.agg c.cells) (by kernel_rfl) FINQ C0.o HF (by exact bF (ah rfl) 27 _ rfl (w.heap.size) (HF.get 5 rfl) 27 _ _ _ (fun W hW=>hW) Tryz.underlying27 rfl (by kernel_rfl)) fun A β2 HF=>?_
  refine tqM 2 12 3 rfl (.inl rfl) rfl (by kernel_rfl) FINQ C0.o HF fun A β3 HF=>?_
  refine tqM 3 13 5 rfl (.inl rfl) rfl (by kernel_rfl) FINQ C0.o HF fun A β4 HF=>?_
  refine tqC 5 15 (.pointer (some ⟨w.heap.size,0,none⟩)) (by kernel_rfl) FINQ C0.o HF (by exact(Or.inl ⟨(ah rfl),fun W hW=>by have h50:=(HF.getD 8 rfl);go_simp⟩)) fun A β5 HF=>?_
  refine tqC 6 16 (.pointer (some ⟨w.heap.size,8,none⟩)) (by kernel_rfl) FINQ C0.o HF (by exact(Or.inl ⟨(ah rfl),fun W hW=>by have h50:=(HF.getD 0 rfl);go_simp⟩)) fun A β6 HF=>?_
  refine tqC 7 17 (.int .i64 c.ca) (by kernel_rfl) FINQ C0.o HF (by exact cZ (ah rfl) 3 _ rfl (w.heap.size) 8 (HF.get 0 rfl) (.int .i64 c.ca) _ Tryz.underlying3 rfl (fun W hW=>by simp[World.cell?,hW,Cfg.cells])) fun A β7 HF=>?_
  refine tqM 8 18 10 rfl (.inl rfl) rfl (by kernel_rfl) FINQ C0.o HF fun A β8 HF=>?_
  refine tqO 4 14 (by kernel_rfl) HF fun K hK=>?_
  refine jd (v0:=.agg c.cells) (v1:=.int .i64 (u:Int)) (v2:=.int .i64 (k:Int)) rfl (HF.get 6 rfl) (HF.get 5 rfl) (HF.get 4 rfl) (enters_of Tryz.func101 (by kernel_rfl) rfl) ?_
  refine(YC.o _).mono ?_
  rintro e y1 ⟨rfl,h1⟩
  have X1:=hQQ (X0.o.more h1)
  have C1:=hQQ (h1.block C0.o)
  have T1:Hq (Turned (fun b=>b=g) w1 y1):=hQQ (Turned.trans T0.o (turned_more h1))
  clear h1
  refine hK _ _ C1.o fun A β9 HF=>?_
  clear hK K
  refine tqO 9 19 (by kernel_rfl) HF fun K hK=>?_
  refine iC (v0:=.slice (some ⟨g,0,none⟩) ws.length cap) (v1:=.int .i64 bc) (v2:=.int .i64 c.ca) (v3:=.int .i64 ad) rfl (HF.get 8 rfl) (HF.get 0 rfl) (HF.get 2 rfl) (HF.get 1 rfl) (enters_of Tryz.func135 (by kernel_rfl) rfl) ?_
  refine(P0.o _ X1.o).mono ?_
  rintro e y2 ⟨rfl,hx,ht⟩
  have X2:=hQQ hx
  have T2:Hq (Turned (fun b=>b=g) w1 y2):=hQQ (Turned.trans T1.o ht)
  have C2:=hQQ ((ht.block _ (ac C1.o) (fun q=>NG.o q)).trans C1.o)
  clear hx ht
  refine hK _ _ C2.o fun A β10 HF=>?_
  clear hK K
  refine tqC 10 20 (.bool true) (by kernel_rfl) FINQ C2.o HF (by exact kt (ah rfl) rfl (HF.get 0 rfl)) fun A β11 HF=>?_
  refine tqM 11 21 0 rfl (.inl rfl) rfl (by kernel_rfl) FINQ C2.o HF fun A β12 HF=>?_
  refine tqC 12 22 (.slice (some ⟨g,0,none⟩) ws.length cap) (by kernel_rfl) FINQ C2.o HF (by exact aV (fG 11 true 21 rfl rfl (HF.at (by decide) 0 rfl)) _ rfl (HF.get 12 rfl)) fun A β13 HF=>?_
  refine tqC 13 23 (.agg c.cells) (by kernel_rfl) FINQ C2.o HF (by exact bF (fG 11 true 21 rfl rfl (HF.at (by decide) 1 rfl)) 27 _ rfl (w.heap.size) (HF.get 17 rfl) 27 _ _ _ (fun W hW=>hW) Tryz.underlying27 rfl (by kernel_rfl)) fun A β14 HF=>?_
  refine tqC 14 24 (.int .i64 (k:Int)) (by kernel_rfl) FINQ C2.o HF (by exact aV (fG 11 true 21 rfl rfl (HF.at (by decide) 2 rfl)) _ rfl (HF.get 16 rfl)) fun A β15 HF=>?_
  refine tqC 16 26 (.pointer (some ⟨w.heap.size,0,none⟩)) (by kernel_rfl) FINQ C2.o HF (by exact(Or.inl ⟨(fG 11 true 21 rfl rfl (HF.at (by decide) 3 rfl)),fun W hW=>by have h50:=(HF.getD 19 rfl);go_simp⟩)) fun A β16 HF=>?_
  refine tqC 17 27 (.pointer (some ⟨w.heap.size,9,none⟩)) (by kernel_rfl) FINQ C2.o HF (by exact(Or.inl ⟨(fG 11 true 21 rfl rfl (HF.at (by decide) 4 rfl)),fun W hW=>by have h50:=(HF.getD 0 rfl);go_simp⟩)) fun A β17 HF=>?_
  refine tqC 18 28 (.int .i64 c.bi) (by kernel_rfl) FINQ C2.o HF (by exact cZ (fG 11 true 21 rfl rfl (HF.at (by decide) 5 rfl)) 3 _ rfl (w.heap.size) 9 (HF.get 0 rfl) (.int .i64 c.bi) _ Tryz.underlying3 rfl (fun W hW=>by simp[World.cell?,hW,Cfg.cells])) fun A β18 HF=>?_
  refine tqC 19 29 (.int .i64 ad) (by kernel_rfl) FINQ C2.o HF (by exact aV (fG 11 true 21 rfl rfl (HF.at (by decide) 6 rfl)) _ rfl (HF.get 21 rfl)) fun A β19 HF=>?_
  refine fm (i:=15) (some 25) (by kernel_rfl) rfl (fG 11 true 21 rfl rfl (HF.at (by decide) 7 rfl)) rfl (fun K hK=>?_)
  refine gS (v0:=.agg c.cells) (v1:=.int .i64 (k:Int)) rfl (HF.get 5 rfl) (HF.get 4 rfl) (enters_of Tryz.func102 (by kernel_rfl) rfl) ?_
  refine(YB.o _).mono ?_
  rintro e y3 ⟨rfl,h3⟩
  have X3:=hQQ (X2.o.more h3)
  have C3:=hQQ (h3.block C2.o)
  have T3:Hq (Turned (fun b=>b=g) w1 y3):=hQQ (Turned.trans T2.o (turned_more h3))
  clear h3
  refine hK _ _ C3.o ?_
  clear hK K
  replace HF:=HF.put 25 (.int .i64 bb) (by decide) rfl
  generalize β20:Act.put _ _ _=A at HF⊢
  refine fm (i:=20) (some 30) (by kernel_rfl) rfl (fG 11 true 21 rfl rfl (HF.at (by decide) 8 rfl)) rfl (fun K hK=>?_)
  refine iC (v0:=.slice (some ⟨g,0,none⟩) ws.length cap) (v1:=.int .i64 bb) (v2:=.int .i64 c.bi) (v3:=.int .i64 ad) rfl (HF.get 7 rfl) (HF.get 0 rfl) (HF.get 2 rfl) (HF.get 1 rfl) (enters_of Tryz.func135 (by kernel_rfl) rfl) ?_
  refine(P1.o _ X3.o).mono ?_
  rintro e y4 ⟨rfl,hx,ht⟩
  have X4:=hQQ hx
  have T4:Hq (Turned (fun b=>b=g) w1 y4):=hQQ (Turned.trans T3.o ht)
  have C4:=hQQ ((ht.block _ (ac C3.o) (fun q=>NG.o q)).trans C3.o)
  clear hx ht
  refine hK _ _ C4.o ?_
  clear hK K
  replace HF:=HF.put 30 (.bool b1) (by decide) rfl
  generalize β21:Act.put _ _ _=A at HF⊢
  refine tqC 21 31 (.bool (!b1)) (by kernel_rfl) FINQ C4.o HF (by exact kt (fG 11 true 21 rfl rfl (HF.at (by decide) 9 rfl)) rfl (HF.get 0 rfl)) fun A β22 HF=>?_
  refine tqC 22 32 (.bool (!b1)) (by kernel_rfl) FINQ C4.o HF (by exact qN (ah rfl) rfl (HF.get 10 rfl) (HF.get 0 rfl)) fun A β23 HF=>?_
  exact el (by kernel_rfl) (FINE _ _ ⟨by rw[← β23,← β22,← β21,← β20,← β19,← β18,← β17,← β16,← β15,← β14,← β13,← β12,← β11,← β10,← β9,← β8,← β7,← β6,← β5,← β4,← β3,← β2,← β1]<;>rfl,X4.o,T4.o⟩)
def Fj (P:Nat→List Int)(c:Int):List Int:=if gT c then P c.toNat else []
section
variable {H:Type}{enc:TypeId×Value→H}{P:Program}{w:World}{base:Nat}{spare:Nat→Bool}{held:Bool}
end
theorem jQ {w w1 w2:World}{S:Nat→Prop}(m:ae w w1)(t:Turned S w1 w2)(hs:∀k,S k→w.heap.size≤k):ae w w2 :=
 ⟨t.os.trans m.os,t.tape.trans m.tape,t.output.trans m.output,Nat.le_trans m.size t.size,fun k hk _=>by
  rw[t.block k (Nat.lt_of_lt_of_le hk m.size) (fun q=>by have:=hs k q;omega)];exact Turned.block m k hk (fun q=>q)⟩
abbrev It:=Int×Int
def itCells (its:List It):List Value:=its.flatMap fun p=> [.int .i64 p.1,.int .i64 p.2]
theorem qp (a b:List It):itCells (a++b)=itCells a++itCells b:=by simp[itCells]
theorem ft (p:It)(ps:List It):itCells (p::ps)=.int .i64 p.1:: .int .i64 p.2::itCells ps:=by simp[itCells]
theorem i5:∀ps:List It,(itCells ps).length=ps.length * 2
 | []=>rfl
 |p::ps=>by rw[ft,List.length_cons,List.length_cons,i5 ps,List.length_cons];omega
theorem oO:∀(ps:List It) (i:Nat) (p:It),ps[i]?=some p→(itCells ps)[i * 2]?=some (.int .i64 p.1)∧(itCells ps)[i * 2+1]?=some (.int .i64 p.2)
 | [],i,p,h=>by cases h
 |q::ps,0,p,h=>by
  simp at h;subst h
  rw[ft];exact⟨rfl,rfl⟩
 |q::ps,i+1,p,h=>by
  have:=oO ps i p (by simpa using h)
  rw[ft,show(i+1) * 2=i * 2+1+1 by omega]
  exact this
theorem vT {ps:List It} :∀u∈itCells ps,u.oneCell'=true:=by
 intro u hu
 obtain⟨p,_,hp⟩:=List.mem_flatMap.1 hu
 rcases List.mem_cons.1 hp with rfl|hp
 ·rfl
 ·obtain rfl:=List.mem_singleton.1 hp;rfl
theorem tI (ps:List It)(i:Nat):itCells (ps.take i)=(itCells ps).take (i * 2):=by
 induction ps generalizing i with
 |nil=>simp[itCells]
 |cons p ps ih =>
  cases i with
  |zero=>simp[itCells]
  |succ i=>rw[List.take_succ_cons,ft,ft,ih,show(i+1) * 2=i * 2+1+1 by omega];rfl
theorem tJ (ps:List It)(i:Nat):itCells (ps.drop i)=(itCells ps).drop (i * 2):=by
 induction ps generalizing i with
 |nil=>simp[itCells]
 |cons p ps ih =>
  cases i with
  |zero=>simp
  |succ i=>rw[List.drop_succ_cons,ft,ih,show(i+1) * 2=i * 2+1+1 by omega];rfl
theorem Cc:∃i:TypeInfo,Tryz.prog.info? 141=some i∧i.zero=some (.agg #[.int .i64 0,.int .i64 0])∧i.size=2∧i.bytes=16:=by
 have h1:(Tryz.prog.info? 141).map (·.size)=some 2:=by kernel_rfl
 have h2:(Tryz.prog.info? 141).bind (·.zero)=some (.agg #[.int .i64 0,.int .i64 0]):=by kernel_rfl
 have h3:(Tryz.prog.info? 141).map (·.bytes)=some 16:=by kernel_rfl
 cases q:Tryz.prog.info? 141 with
 |none=>rw[q] at h1;simp at h1
 |some i=>rw[q] at h1 h2 h3;exact⟨i,rfl,by simpa using h2,by simpa using h1,by simpa using h3⟩
def IR (base:Nat)(w:World)(v:Value)(its:List It):Prop:=w.ownsRow base 141 2 v its.length (itCells its)
theorem IR.nil (base:Nat)(w:World):IR base w (.slice none 0 0) []:=World.ownsRow_nil w base _ 2
theorem IR.more {base:Nat}{w w':World}{v:Value}{its:List It}(h:IR base w v its)(m:ae w w'):IR base w' v its:=mC h m
theorem IR.low {base base':Nat}{w:World}{v:Value}{its:List It}(h:IR base w v its)(hb:base'≤base):IR base' w v its:=gQ h hb
theorem IR.keep {base:Nat}{w w':World}{v:Value}{its:List It}(h:IR base w v its){S:Nat→Prop}(t:Turned S w w')(hs:∀k,S k→∃cs T fr,w.heap[k]?=some (.cells cs T fr)∧T≠141):IR base w' v its:=by
 refine⟨h.1,?_⟩
 rcases h.2 with q|⟨g,cap,cur,h1,h2,h3,h4⟩
 ·exact .inl q
 ·refine .inr ⟨g,cap,cur,h1,h2,?_,h4⟩
  rw[t.block g (ac h3) (fun q=>by
   obtain⟨cs,T,fr,e,hne⟩:=hs g q
   rw[h3] at e;cases e;exact hne rfl)]
  exact h3
theorem IR.one {base:Nat}{w:World}{v:Value}{its:List It}(h:IR base w v its):v.oneCell'=true:=by
 rcases h.2 with⟨rfl,_⟩|⟨g,cap,cur,rfl,_⟩<;>rfl
theorem IR.reads {base:Nat}{w:World}{v:Value}{its:List It}(h:IR base w v its):
 ∃a cap,v=.slice a its.length cap∧its.length≤cap∧(a=none→cap=0)∧∀g,a=some g→g=⟨g.block,0,none⟩∧∀j u,(itCells its)[j]?=some u→w.cell? ⟨g.block,j,none⟩=some u:=by
 rcases h.2 with⟨rfl,h0⟩|⟨g,cap,cur,rfl,hb,hg,hn,_,hs,ht⟩
 ·exact⟨none,0,by rw[h0],by omega,fun _=>rfl,fun g q=>by cases q⟩
 ·refine⟨_,cap,rfl,hn,(fun q=>by cases q),fun q hq=>?_⟩
  cases hq
  refine⟨rfl,fun j u hj=>?_⟩
  have hj':j<its.length * 2:=by have:=(List.getElem?_eq_some_iff.1 hj).1;rw[i5] at this;exact this
  have e:cur.toList[j]?=some u:=by
   have h1:(cur.toList.take (its.length * 2))[j]?=some u:=by rw[ht];exact hj
   rw[List.getElem?_take,if_pos (by omega)] at h1
   exact h1
  simp[World.cell?,hg]
  simpa using e
theorem IR.at {base:Nat}{w:World}{v:Value}{its:List It}(h:IR base w v its):∃a cap,v=.slice a its.length cap∧its.length≤cap∧(a=none→cap=0)∧∀k p,its[k]?=some p→∃g,a=some ⟨g,0,none⟩∧w.cell? ⟨g,k * 2,none⟩=some (.int .i64 p.1)∧w.cell? ⟨g,k * 2+1,none⟩=some (.int .i64 p.2):=by
 obtain⟨a,cap,rfl,hc,h0,hr⟩:=h.reads
 refine⟨a,cap,rfl,hc,h0,fun k p hk=>?_⟩
 have hlt:=(List.getElem?_eq_some_iff.1 hk).1
 cases a with
 |none=>have:=h0 rfl;omega
 |some g =>
  obtain⟨e,hcell⟩:=hr g rfl
  obtain⟨q1,q2⟩:=oO its k p hk
  exact⟨g.block,by rw[←e],hcell _ _ q1,hcell _ _ q2⟩
def yu (w:World)(u:Value)(news:List It):Prop:=(u=.slice none 0 0∧news= [])∨∃p c,u=.slice (some p) news.length c∧∀j x,(itCells news)[j]?=some x→w.cell? (p.add j)=some x
theorem ng {o:Oper}{a:Act}{K:Act→World→Prop}{Q:Exit→Act→World→Prop}{w:World}{base:Nat}{v u:Value}{its news:List It}(s x:Operand)
 (ho:o.op=.call { callee:= .builtin .append,args:= #[s,x],argTypes:= #[60,60] })
 (hs:a.eval s=v) (hv:IR base w v its) (hb:base≤w.heap.size) (hx:a.eval x=u) (hu:yu w u news) (hl:its.length+news.length≤1000000)
 (h:∀v' w',IR base w' v' (its++news)→Turned (fun k=>v.ownBlock=some k) w w'→(∀k,v'.ownBlock=some k→v.ownBlock=some k∨k=w.heap.size)→K (a.put o.dst v') w'):o.wp Tryz.prog a w K Q:=by
 obtain⟨i,i1,i2,i3,i4⟩:=Cc
 rcases hu with⟨rfl,rfl⟩|⟨p,c,rfl,hc⟩
 ·have hrun:=run_append_owned_none (P:=Tryz.prog) (w:=w) base 60 o.type 141 i 2 Tryz.underlying60 i1 v its.length _ hv
  unfold Oper.wp
  simp[execOp,ho,resolve,invoke,builtin,hs,hx,hrun,Result.andThen]
  exact h _ _ (by simpa using hv) (Turned.refl _ _) (fun k q=> .inl q)
 ·obtain⟨v',w',hr,h2,h3,_,h5⟩:=run_append_own_at (P:=Tryz.prog) w base 60 o.type 141 i _ 2 16 Tryz.underlying60 i1 i2 i3 i4 rfl (by omega) v its.length _ hv p news.length c (itCells news) (i5 news) hc vT (by simp only[maxLen];omega) (by omega) hb
  unfold Oper.wp execOp
  simp only[ho,resolve,invoke,builtin,Sem.run_bind,Sem.run_pure,Result.andThen_ok,List.map_toArray,List.map_cons,List.map_nil,hs,hx,hr]
  refine h v' w' ?_ ⟨h3.os,h3.tape,h3.output,h3.size,fun k hk hne=>h3.block k hk (fun e=>hne e.symm)⟩ (fun k q=>?_)
  ·unfold IR
   rw[List.length_append,qp]
   exact h2
  ·rcases h5 with h5|h5
   ·exact .inl (by rw[←h5];exact q)
   ·rw[h5] at q;cases q;exact .inr rfl
theorem zS (c:Int)(w:World):Calls Tryz.prog 131 #[.int .i64 c] w (aF w (.bool (gT c))):=by
 by_cases h0:0≤c
 ·have d0:decide (0≤c)=true:=by simp[h0]
  go_enter Tryz.func131,Tryz.ntmps131
  go_wp2_with fail
  go_ret
  exact⟨by simp[gT,d0],ae.refl _⟩
 ·have d0:decide (0≤c)=false:=by simp;omega
  go_enter Tryz.func131,Tryz.ntmps131
  go_wp2_with fail
  go_ret
  exact⟨by simp[gT,d0],ae.refl _⟩
def eH (its:List It)(c:Int):List Int:=(its.filter (fun p=>p.1==c)).map (·.2)
theorem yw (its:List It)(c:Int){k:Nat}{p:It}(h:its[k]?=some p):eH (its.take (k+1)) c=if p.1=c then eH (its.take k) c++ [p.2] else eH (its.take k) c:=by
 have e:its.take (k+1)=its.take k++ [p]:=by rw[List.take_add_one,h];rfl
 rw[e]
 unfold eH
 rw[List.filter_append,List.map_append]
 by_cases q:p.1=c<;>simp[q]
theorem Cd (its:List It)(c:Int):(eH its c).length≤its.length:=by
 unfold eH
 rw[List.length_map]
 exact List.length_filter_le _ _
theorem yx (v:Value)(its:List It)(c:Int)(w:World)(h:IR 0 w v its)(hl:its.length≤1000000):
 Calls Tryz.prog 109 #[.agg #[v],.int .i64 c] w (uw w (eH its c)):=by
 obtain⟨w1,e1,hl1,m1,s1⟩:=en1 w (.cells #[v] 62)
 have M1:=hQQ m1
 obtain⟨a,cap,rfl,_,_,hr⟩:=(h.more m1).at
 have c0:w1.cell? ⟨w.heap.size,0,none⟩=some (.slice a its.length cap):=by simp[World.cell?,hl1]
 have H1:=hQQ hr
 have C0:=hQQ c0
 have HL:=hQQ hl
 clear m1 h s1 hl1 hr hl
 go_enter Tryz.func109,Tryz.ntmps109
 go_wp2_with fail
 go_loopw [6,5] (fun i v wr=>∃k:Nat,k≤its.length∧i=.int .i64 k∧Rw w1.heap.size wr v (eH (its.take k) c)∧ae w1 wr) (fun i _ _=>its.length-(intOf i).toNat)
 case atStart=>exact⟨0,Nat.zero_le _,rfl,Rw.nil _ _,ae.refl _⟩
 case round =>
  obtain⟨k,hk,rfl,hr,ht⟩:=hrel
  have x0:=ht.cell C0.o
  by_cases hlt:k<its.length
  ·obtain⟨p,hp⟩:∃p,its[k]?=some p:=⟨_,List.getElem?_eq_getElem hlt⟩
   obtain⟨g,rfl,hc1,hc2⟩:=H1.o k p hp
   have x1:=ht.cell hc1
   have x2:=ht.cell hc2
   have NX:=hQQ (yw its c hp)
   have R:=hQQ hr
   have HT:=hQQ ht
   have HLL:=hQQ (show(eH (its.take k) c).length≤1000000 by have h1:=Cd (its.take k) c;rw[List.length_take] at h1;have:=HL.o;omega)
   obtain⟨p1,p2⟩:=p
   simp only at x1 x2 NX
   have hh:=HL.o
   clear hp hc1 hc2 hr ht
   by_cases e:p1=c
   ·have d0:(p1==c)=true:=by simp[e]
    have d1:decide (p1=c)=true:=by simp[e]
    have NX:=hQQ (NX.o.trans (if_pos e))
    clear e
    go_wp2_with (at_builtin
                 refine kg p2 rfl _ _ rfl rfl R.o HT.o HLL.o rfl ?_
                 intro v' w3 r3 m3
                 have R3:=hQQ r3
                 have M3:=hQQ m3
                 clear r3 m3)
    go_roundw
    case rel=>exact⟨k+1,by omega,by go_num,by rw[NX.o];exact R3.o,M3.o⟩
    case measure=>simp[intOf];omega
   ·have d0:(p1==c)=false:=by simp[e]
    have d1:decide (p1=c)=false:=by simp[e]
    have NX:=hQQ (NX.o.trans (if_neg e))
    clear e
    go_wp2_with fail
    go_roundw
    case rel=>exact⟨k+1,by omega,by go_num,by rw[NX.o];exact R.o,HT.o⟩
    case measure=>simp[intOf];omega
  ·obtain rfl:k=its.length:=by omega
   have FIN:=hQQ (hr.mono (show w.heap.size≤w1.heap.size from M1.o.size))
   rw[List.take_length] at FIN
   have M2:=hQQ (M1.o.trans ht)
   clear hr ht
   go_wp2_with fail
   go_ret
   exact⟨_,rfl,FIN.o,M2.o⟩
def jR (its:List It)(c l:Int):Bool:=gT c && decide (((eH its c).length:Int)<l)
def j2 (its:List It)(c a l:Int):List It:=if jR its c l then its++ [(c,a)] else its
def iM (w:World)(its:List It)(val:Value→Value)(e:Ending)(w':World):Prop:=∃v,e=.returned (val (.agg #[v]))∧IR 0 w' v its∧ae w w'
theorem zT (w:World):IR w.heap.size (w.alloc (.cells #[] 141)) (.slice (some ⟨w.heap.size,0,none⟩) 0 0) [] :=
 ⟨rfl,.inr ⟨_,0,_,rfl,Nat.le_refl _,bm w _,Nat.le_refl _,by simp[maxLen],rfl,rfl⟩⟩
theorem zU {base:Nat}{w:World}{v:Value}{its:List It}(h:IR base w v its):yu w v its:=by
 rcases h.2 with⟨rfl,h0⟩|⟨g,cap,cur,rfl,hb,hg,hn,_,hs,ht⟩
 ·exact .inl ⟨rfl,List.length_eq_zero_iff.1 h0⟩
 ·refine .inr ⟨_,cap,rfl,fun j x hj=>?_⟩
  obtain⟨a,c,e,_,_,hr⟩:=h.reads
  cases e
  rw[eV]
  simpa using (hr _ rfl).2 j x hj
theorem Fk (w:World)(c a:Int):yu (w.alloc (.cells #[.int .i64 c,.int .i64 a] 141)) (.slice (some ⟨w.heap.size,0,none⟩) 1 1) [(c,a)] :=
 .inr ⟨_,1,rfl,fun j x hj=>World.news_of_block (bm w _) j x (by simpa [itCells] using hj)⟩
theorem IR.own {base:Nat}{w:World}{v:Value}{its:List It}(h:IR base w v its):∀k,v.ownBlock=some k→base≤k:=by
 intro k q
 rcases h.2 with⟨rfl,_⟩|⟨g,cap,cur,rfl,hb,_⟩
 ·cases q
 ·cases q;exact hb
theorem Ce (v:Value)(its:List It)(c a l:Int)(w:World)(h:IR 0 w v its)(hl:its.length≤1000000)(hb:jR its c l=false):
 Calls Tryz.prog 104 #[.agg #[v],.int .i64 c,.int .i64 a,.int .i64 l] w (iM w its (fun v=> .tuple #[v,.bool false])):=by
 obtain⟨w2,e2,hl1,hl2,m2,s2⟩:=en2 w (.cells #[v] 62) (.cells #[.slice none 0 0] 62)
 have L1:=hQQ hl1
 have L2:=hQQ hl2
 have M2:=hQQ m2
 have HP:=hQQ (h.more m2)
 have HC:=hQQ (fun W=>zS c W)
 have HL:=hQQ (fun W (hW:ae w2 W)=>yx v its c W (HP.o.more hW) hl)
 have H1:Hq ((#[v]:Array Value).all (·.oneCell')=true):=hQQ (by simp[h.one])
 have FIN:Hq (∀W,ae w2 W→iM w its (fun v=> .tuple #[v,.bool false]) (.returned (.tuple #[.agg #[v],.bool false])) (W.setRow (w.heap.size+1) #[v])):=hQQ fun W hW =>
  ⟨v,rfl,(HP.o.more hW).keep (S:=fun k=>k=w.heap.size+1) (Turned.setRow (Turned.refl _ W) _ _ (fun _=>rfl)) (fun k q=>by subst q;exact⟨_,_,_,hW.block L2.o,by decide⟩),(M2.o.trans hW).setRow _ _ (by omega)⟩
 clear hl1 hl2 m2 h s2
 cases hc:gT c with
 |false =>
  rw[hc] at HC
  clear hc hb HL
  go_enter Tryz.func104,Tryz.ntmps104
  go_wp2_with fail
  refine(HC.o w2).mono ?_
  rintro e w4 ⟨rfl,h4⟩
  have M4:=hQQ h4
  clear h4
  go_wp2_with (first|(refine wpList_load_row rfl 62 _ rfl _ rfl 62 _ _ _ (M4.o.block L1.o) Tryz.underlying62 rfl (by kernel_rfl) ?_)|(refine wpList_store_row rfl 62 _ _ rfl _ _ rfl rfl 62 _ (M4.o.block L2.o) (by kernel_rfl) rfl H1.o ?_))
  refine bodyPost_ret (v:=.tuple #[.agg #[v],.bool false]) (ls Tryz.results104 _ _ _ 62 _ (0,0) _ rfl (setRow_heap _ _ _ _ _ _ (M4.o.block L2.o)) Tryz.underlying62 rfl (by kernel_rfl)) rfl (FIN.o _ M4.o)
 |true =>
  rw[hc] at HC
  obtain⟨n,hn⟩:∃n,(eH its c).length=n:=⟨_,rfl⟩
  have hb2:decide (l≤(n:Int))=true:=by simp[jR,hc,hn] at hb;simpa using hb
  have HN:=hQQ hn
  clear hc hb hn
  go_enter Tryz.func104,Tryz.ntmps104
  go_wp2_with fail
  refine(HC.o w2).mono ?_
  rintro e w3 ⟨rfl,h3⟩
  have M3:=hQQ h3
  clear h3
  go_wp2_with (first|(refine wpList_load_row rfl 62 _ rfl w.heap.size rfl 62 _ _ _ (M3.o.block L1.o) Tryz.underlying62 rfl (by kernel_rfl) ?_)|(refine cX rfl 62 _ rfl w.heap.size rfl 62 _ _ _ (M3.o.block L1.o) Tryz.underlying62 rfl (by kernel_rfl) ?_))
  refine(HL.o w3 M3.o).mono ?_
  rintro e w4 ⟨v4,rfl,h4,m4⟩
  obtain⟨a4,c4,rfl,_⟩:=h4.reads
  rw[HN.o]
  have M4:=hQQ (M3.o.trans m4)
  clear h4 m4
  go_wp2_with (first|(refine wpList_load_row rfl 62 _ rfl _ rfl 62 _ _ _ (M4.o.block L1.o) Tryz.underlying62 rfl (by kernel_rfl) ?_)|(refine wpList_store_row rfl 62 _ _ rfl _ _ rfl rfl 62 _ (M4.o.block L2.o) (by kernel_rfl) rfl H1.o ?_))
  refine bodyPost_ret (v:=.tuple #[.agg #[v],.bool false]) (ls Tryz.results104 _ _ _ 62 _ (0,0) _ rfl (setRow_heap _ _ _ _ _ _ (M4.o.block L2.o)) Tryz.underlying62 rfl (by kernel_rfl)) rfl (FIN.o _ M4.o)
theorem yy (v:Value)(its:List It)(c a l:Int)(w:World)(h:IR 0 w v its)(hl:its.length≤100000)(hc:gT c=true)(hb:((eH its c).length:Int)<l):
 Calls Tryz.prog 104 #[.agg #[v],.int .i64 c,.int .i64 a,.int .i64 l] w (iM w (its++ [(c,a)]) (fun v=> .tuple #[v,.bool true])):=by
 obtain⟨w2,e2,hl1,hl2,m2,s2⟩:=en2 w (.cells #[v] 62) (.cells #[.slice none 0 0] 62)
 have L1:=hQQ hl1
 have L2:=hQQ hl2
 have M2:=hQQ m2
 have HP:=hQQ (h.more m2)
 have HC:=hQQ (fun W=>zS c W)
 rw[hc] at HC
 have HL:=hQQ (fun W (hW:ae w2 W)=>yx v its c W (HP.o.more hW) (by omega))
 obtain⟨n,hn⟩:∃n,(eH its c).length=n:=⟨_,rfl⟩
 have hb2:decide (l≤(n:Int))=false:=by rw[hn] at hb;simp;omega
 have HN:=hQQ hn
 have LL:=hQQ hl
 obtain⟨av,cv,rfl,_,_⟩:=h.reads
 have c0:w2.cell? ⟨w.heap.size,0,none⟩=some (.slice av its.length cv):=by simp[World.cell?,hl1]
 have C0:=hQQ c0
 clear hl1 hl2 m2 h s2 hn hb hc hl c0
 go_enter Tryz.func104,Tryz.ntmps104
 go_wp2_with fail
 refine(HC.o w2).mono ?_
 rintro e w3 ⟨rfl,h3⟩
 have M3:=hQQ h3
 clear h3
 go_wp2_with (first|(refine wpList_load_row rfl 62 _ rfl w.heap.size rfl 62 _ _ _ (M3.o.block L1.o) Tryz.underlying62 rfl (by kernel_rfl) ?_)|(refine cX rfl 62 _ rfl w.heap.size rfl 62 _ _ _ (M3.o.block L1.o) Tryz.underlying62 rfl (by kernel_rfl) ?_))
 refine(HL.o w3 M3.o).mono ?_
 rintro e w4 ⟨v4,rfl,h4,m4⟩
 obtain⟨a4,c4,rfl,_⟩:=h4.reads
 rw[HN.o]
 have M4:=hQQ (M3.o.trans m4)
 have x0:=(M4.o.alloc (.cells #[] 141)).cell C0.o
 have Z4:=hQQ (zT w4)
 have S4:=hQQ (zU (HP.o.more (M4.o.alloc (.cells #[] 141))))
 clear h4 m4
 have F8:Hq (∀w6 v6,ae w2 w6→IR w4.heap.size w6 v6 (its++ [(c,a)])→iM w (its++ [(c,a)]) (fun v=> .tuple #[v,.bool true]) (.returned (.tuple #[.agg #[v6],.bool true])) (w6.setRow (w.heap.size+1) #[v6])):=hQQ fun w6 v6 m r =>
  ⟨v6,rfl,(r.low (Nat.zero_le _)).keep (S:=fun k=>k=w.heap.size+1) (Turned.setRow (Turned.refl _ w6) _ _ (fun _=>rfl)) (fun k q=>by subst q;exact⟨_,_,_,m.block L2.o,by decide⟩),(M2.o.trans m).setRow _ _ (by omega)⟩
 go_wp2_with (first
  |(at_builtin
    refine wpList_plain rfl fun K hK=>ng _ _ rfl rfl Z4.o (by simp) rfl S4.o (by have:=LL.o;simp;omega) ?_
    intro v5 w5 r5 t5 k5
    refine hK _ _ ?_
    have M5:Hq (ae w2 w5):=hQQ (jQ (M4.o.alloc _) t5 (fun k q=>by cases q;exact M4.o.size))
    have R5:Hq (IR w4.heap.size w5 v5 its):=hQQ (by simpa using r5)
    have G5:Hq (w4.heap.size≤w5.heap.size):=hQQ (by have:=t5.size;simp at this;omega)
    clear r5 t5 k5 x0 hK K S4 Z4)
  |(at_builtin
    refine wpList_plain rfl fun K hK=>ng _ _ rfl rfl (R5.o.more ((ae.refl _).alloc _)) (by have:=G5.o;simp;omega) rfl (Fk _ _ _) (by have:=LL.o;simp;omega) ?_
    intro v6 w6 r6 t6 k6
    refine hK _ _ ?_
    obtain⟨a6,c6,hv6,_⟩:=r6.reads
    rw[show(its++ [(c,a)]).length=its.length+1 by simp] at hv6
    subst hv6
    have M6:Hq (ae w2 w6):=hQQ (jQ (M5.o.alloc _) t6 (fun k q=>by have:=R5.o.own k q;have:=M4.o.size;omega))
    have O6:Hq ((#[.slice a6 (its.length+1) c6]:Array Value).all (·.oneCell')=true):=hQQ (by simp[Value.oneCell'])
    have F6:=hQQ (F8.o w6 _ M6.o r6)
    clear r6 t6 k6 hK K)
  |(refine wpList_store_row rfl 62 _ _ rfl _ _ rfl rfl 62 _ (M6.o.block L2.o) (by kernel_rfl) rfl O6.o ?_))
 refine bodyPost_ret (v:=.tuple #[.agg #[.slice a6 (its.length+1) c6],.bool true]) (ls Tryz.results104 _ _ _ 62 _ (0,0) _ rfl (setRow_heap _ _ _ _ _ _ (M6.o.block L2.o)) Tryz.underlying62 rfl (by kernel_rfl)) rfl F6.o
theorem qq (v:Value)(its:List It)(c a l:Int)(w:World)(h:IR 0 w v its)(hl:its.length≤100000):
 Calls Tryz.prog 104 #[.agg #[v],.int .i64 c,.int .i64 a,.int .i64 l] w (iM w (j2 its c a l) (fun v=> .tuple #[v,.bool (jR its c l)])):=by
 cases hb:jR its c l with
 |false =>
  have:=Ce v its c a l w h (by omega) hb
  simpa [j2,hb] using this
 |true =>
  have hb':=hb
  simp[jR] at hb'
  have:=yy v its c a l w h hl hb'.1 hb'.2
  simpa [j2,hb] using this
section
variable {ops:Array Oper}{C:World→Prop}{o':Oper}{a:Act}
theorem oV {x y:Operand}{g n cap m:Nat}(hw:Region.wanted o' (yielded ops a.tmps)=true)(ho:o'.op=.slice 60 x none (some y) none)(hx:a.eval x=.slice (some ⟨g,0,none⟩) n cap)(hy:a.eval y=.int .i64 (m:Int))(hm:m≤cap):bx Tryz.prog ops C o' (.slice (some ⟨g,0,none⟩) m cap) a:=by
 have d1:decide (m≤cap)=true:=by simp[hm]
 refine .inl ⟨hw,fun W hW=>?_⟩
 unfold execOp
 generalize a.eval=ρ at hx hy⊢
 simp only[ho,hx,hy]
 go_simp
theorem qr {x:Operand}{v:Option Addr}{n c:Nat}(hw:Region.wanted o' (yielded ops a.tmps)=true)(ho:o'.op=.build 62 #[(0,x)])(hx:a.eval x=.slice v n c):bx Tryz.prog ops C o' (.agg #[.slice v n c]) a:=by
 refine .inl ⟨hw,fun W hW=>?_⟩
 unfold execOp
 generalize a.eval=ρ at hx⊢
 simp only[ho]
 go_simp
def hiA (g m cap:Nat):Addr:=if cap=m+1 then⟨g,0,none⟩ else⟨g,(m+1) * 2,none⟩
theorem oW {x y:Operand}{g n cap m:Nat}(hw:Region.wanted o' (yielded ops a.tmps)=true)(ho:o'.op=.slice 60 x (some y) none none)(hx:a.eval x=.slice (some ⟨g,0,none⟩) n cap)(hy:a.eval y=.int .i64 ((m:Int)+1))(hm:m<n)(hn:n≤cap):bx Tryz.prog ops C o' (.slice (some (hiA g m cap)) (n-(m+1)) (cap-(m+1))) a:=by
 refine .inl ⟨hw,fun W hW=>?_⟩
 unfold execOp
 generalize a.eval=ρ at hx hy⊢
 simp only[ho,hx,hy]
 go_simp
 rw[if_pos ⟨by omega,by omega⟩]
 unfold hiA
 split<;>rfl
theorem tK {x y:Operand}{g n cap m:Nat}(hw:Region.wanted o' (yielded ops a.tmps)=true)(ho:o'.op=.indexAddr 60 x y)(hx:a.eval x=.slice (some ⟨g,0,none⟩) n cap)(hy:a.eval y=.int .i64 (m:Int))(hm:m<n):bx Tryz.prog ops C o' (.pointer (some ⟨g,m * 2,none⟩)) a:=by
 have d1:decide (m<n)=true:=by simp[hm]
 refine .inl ⟨hw,fun W hW=>?_⟩
 unfold execOp
 generalize a.eval=ρ at hx hy⊢
 simp only[ho,hx,hy]
 go_simp
end
theorem Cf {o:Oper}{a:Act}{w:World}{K:Act→World→Prop}{Q:Exit→Act→World→Prop}(ho:o.op=.buildSlice 60 0 #[])(h:K (a.put o.dst (.slice (some ⟨w.heap.size,0,none⟩) 0 0)) (w.alloc (.cells #[] 141))):Oper.wp Tryz.prog o a w K Q:=by
 unfold Oper.wp Oper.upon execOp
 simp only[ho]
 generalize a.eval=ρ
 go_simp
 exact h
theorem Cg {W:World}{g cv j:Nat}{its:List It}(hc:∀i x,(itCells its)[i]?=some x→W.cell? ⟨g,i,none⟩=some x)(hj:j≤its.length):yu W (.slice (some ⟨g,0,none⟩) j cv) (its.take j):=by
 have hl:(its.take j).length=j:=by simp;omega
 refine .inr ⟨⟨g,0,none⟩,cv,by rw[hl],fun i x hi=>?_⟩
 rw[eV,Nat.zero_add]
 refine hc i x ?_
 rw[tI,List.getElem?_take] at hi
 split at hi
 ·exact hi
 ·cases hi
theorem Ch {W:World}{g cv m c:Nat}{its:List It}(hc:∀i x,(itCells its)[i]?=some x→W.cell? ⟨g,i,none⟩=some x)(hm:m<its.length)(hn:its.length≤cv):yu W (.slice (some (hiA g m cv)) (its.length-(m+1)) c) (its.drop (m+1)):=by
 have hl:(its.drop (m+1)).length=its.length-(m+1):=by simp
 refine .inr ⟨hiA g m cv,c,by rw[hl],fun i x hi=>?_⟩
 have hi':=(List.getElem?_eq_some_iff.1 hi).1
 rw[i5,hl] at hi'
 have e:hiA g m cv=⟨g,(m+1) * 2,none⟩:=by unfold hiA;rw[if_neg (by omega)]
 rw[e,eV]
 refine hc _ x ?_
 rw[tJ,List.getElem?_drop] at hi
 exact hi
theorem AG.skipP {m:Nat}{a:Act}{L:List (Nat×Value)}(h:AG m a L)(v:Value):AG m (a.put none v) L:=h
theorem qs {w w1 w2:World}{S T:Nat→Prop}(m:Turned S w w1)(t:Turned T w1 w2)(hs:∀k,T k→w.heap.size≤k):Turned S w w2 :=
 ⟨t.os.trans m.os,t.tape.trans m.tape,t.output.trans m.output,Nat.le_trans m.size t.size,fun k hk q=>by
  rw[t.block k (Nat.lt_of_lt_of_le hk m.size) (fun z=>by have:=hs k z;omega)];exact m.block k hk q⟩
theorem Fl (v:Value)(its:List It)(c:Int)(w:World)(h:IR 0 w v its)(hl:its.length≤100000)(hb:∀p∈its,p.1≠c):
 Calls Tryz.prog 99 #[.agg #[v],.int .i64 c] w (iM w its (fun v=> .tuple #[v,.int .i64 0,.bool false])):=by
 obtain⟨w2,e2,hl1,hl2,m2,s2⟩:=en2 w (.cells #[v] 62) (.cells #[.slice none 0 0] 62)
 have L1:=hQQ hl1
 have L2:=hQQ hl2
 have M2:=hQQ m2
 have HP:=hQQ (h.more m2)
 obtain⟨av,cv,rfl,_,_,hr⟩:=(h.more m2).at
 have c0:w2.cell? ⟨w.heap.size,0,none⟩=some (.slice av its.length cv):=by simp[World.cell?,hl1]
 have C0:=hQQ c0
 have H1:=hQQ hr
 have FIN:Hq (∀W,ae w2 W→iM w its (fun v=> .tuple #[v,.int .i64 0,.bool false]) (.returned (.tuple #[.agg #[.slice av its.length cv],.int .i64 0,.bool false])) (W.setRow (w.heap.size+1) #[.slice av its.length cv])):=hQQ fun W hW =>
  ⟨_,rfl,(HP.o.more hW).keep (S:=fun k=>k=w.heap.size+1) (Turned.setRow (Turned.refl _ W) _ _ (fun _=>rfl)) (fun k q=>by subst q;exact⟨_,_,_,hW.block L2.o,by decide⟩),(M2.o.trans hW).setRow _ _ (by omega)⟩
 have HL:=hQQ hl
 have HB:=hQQ hb
 obtain⟨n,hn⟩:∃n,its.length=n:=⟨_,rfl⟩
 have HN:=hQQ hn
 rw[hn] at L1 FIN C0
 have q0:IntKind.i64.wrap ((n:Int)-1)=(n:Int)-1:=IntWalk.i64_in _ (by omega)
 rw[hn] at e2
 simp only[hn]
 clear hl1 hl2 m2 h s2 hr hl hb hn c0 HP
 have c0:=C0.o
 go_enter Tryz.func99,Tryz.ntmps99
 go_wp2_with fail
 clear c0 e2
 go_loopw [7] (fun i wr=>∃z:Int,i=.int .i64 z∧ -1≤z∧z<n∧ae w2 wr) (fun i _=>(intOf i+1).toNat)
 case atStart=>exact⟨(n:Int)-1,rfl,by omega,by omega,ae.refl _⟩
 case round =>
  obtain⟨z,rfl,hz1,hz2,ht⟩:=hrel
  have x0:=ht.cell C0.o
  by_cases hz:0≤z
  ·obtain⟨j,rfl⟩:∃j:Nat,z=j:=⟨z.toNat,by omega⟩
   obtain⟨p,hp⟩:∃p,its[j]?=some p:=⟨_,List.getElem?_eq_getElem (by have:=HN.o;omega)⟩
   obtain⟨g,rfl,hc1,hc2⟩:=H1.o j p hp
   have x1:=ht.cell hc1
   have hne:=HB.o p (List.mem_of_getElem? hp)
   obtain⟨p1,p2⟩:=p
   simp only at x1 hne
   have d0:(p1==c)=false:=by simp[hne]
   have d1:decide (p1=c)=false:=by simp[hne]
   have hlt:j<n:=by omega
   have hd:decide (0≤(j:Int))=true:=by simp
   have q1:IntKind.i64.wrap ((j:Int)-1)=(j:Int)-1:=IntWalk.i64_in _ (by have:=HL.o;have:=HN.o;omega)
   have HT:=hQQ ht
   clear hp hc1 hc2 ht hne hz hz1 hz2 q0
   go_wp2_with fail
   go_roundw
   case rel=>exact⟨(j:Int)-1,rfl,by omega,by omega,HT.o⟩
   case measure=>first|(simp[intOf];done)|(simp[intOf];omega)
  ·obtain rfl:z= -1:=by omega
   have M4:=hQQ ht
   clear ht x0 q0 hz hz1 hz2
   go_wp2_with (first|(refine wpList_load_row rfl 62 _ rfl _ rfl 62 _ _ _ (M4.o.block L1.o) Tryz.underlying62 rfl (by kernel_rfl) ?_)|(refine wpList_store_row rfl 62 _ _ rfl _ _ rfl rfl 62 _ (M4.o.block L2.o) (by kernel_rfl) rfl (by simp[Value.oneCell']) ?_))
   refine bodyPost_ret (v:=.tuple #[.agg #[.slice av n cv],.int .i64 0,.bool false]) (zO Tryz.results99 _ _ _ 62 _ (0,0) _ rfl (setRow_heap _ _ _ _ _ _ (M4.o.block L2.o)) Tryz.underlying62 rfl (by kernel_rfl)) rfl (FIN.o _ M4.o)
theorem Ci (v:Value)(A B:List It)(c x:Int)(w:World)(h:IR 0 w v (A++(c,x)::B))(hl:(A++(c,x)::B).length≤100000)(hb:∀p∈B,p.1≠c):
 Calls Tryz.prog 99 #[.agg #[v],.int .i64 c] w (iM w (A++B) (fun v=> .tuple #[v,.int .i64 x,.bool true])):=by
 obtain⟨w2,e2,hl1,hl2,m2,s2⟩:=en2 w (.cells #[v] 62) (.cells #[.slice none 0 0] 62)
 have L2:=hQQ hl2
 have M2:=hQQ m2
 have HP:=hQQ (h.more m2)
 have SRC:=zU (h.more m2)
 obtain⟨av,cv,rfl,hnc,_,hr⟩:=(h.more m2).at
 have c0:w2.cell? ⟨w.heap.size,0,none⟩=some (.slice av (A++(c,x)::B).length cv):=by simp[World.cell?,hl1]
 obtain⟨its,hits⟩:∃its,A++(c,x)::B=its:=⟨_,rfl⟩
 obtain⟨its',hits'⟩:∃its',A++B=its':=⟨_,rfl⟩
 obtain⟨m,hm⟩:∃m,A.length=m:=⟨_,rfl⟩
 have hAm:its[m]?=some (c,x):=by rw[←hits,←hm];simp
 have hE:its.take m++its.drop (m+1)=its':=by
  rw[←hits,←hits',←hm,List.take_left' rfl]
  congr 1
  rw[List.drop_append,List.drop_eq_nil_of_le (by omega)]
  simp
 have hB:∀j p,m<j→its[j]?=some p→p.1≠c:=fun j p hj hp=>by
  refine hb p ?_
  rw[←hits,List.getElem?_append_right (by omega)] at hp
  obtain⟨i,hi⟩:∃i,j-A.length=i+1:=⟨j-A.length-1,by omega⟩
  rw[hi,List.getElem?_cons_succ] at hp
  exact List.mem_of_getElem? hp
 rw[hits] at hr c0 hl HP SRC hnc h e2
 rw[hits',hits]
 have hmn:m<its.length:=(List.getElem?_eq_some_iff.1 hAm).1
 obtain⟨g,rfl,cc1,cc2⟩:=hr m _ hAm
 simp only at cc1 cc2
 have C0:=hQQ c0
 have C1:=hQQ cc1
 have C2:=hQQ cc2
 have H1:=hQQ hr
 have HB:=hQQ hB
 have HL:=hQQ hl
 have EI:=hQQ hE
 have LL:=hQQ hl
 have hcv:g<w.heap.size:=by
  rcases h.2 with⟨q,_⟩|⟨_,_,_,q,_,z,_⟩
  ·cases q
  ·cases q;exact ac z
 have CA:Hq (∀i x,(itCells its)[i]?=some x→w2.cell? ⟨g,i,none⟩=some x):=hQQ fun i x hi=>by
  rcases SRC with⟨q,_⟩|⟨p,cp,q,z⟩
  ·cases q
  ·cases q
   have:=z i x hi
   rwa [eV,Nat.zero_add] at this
 obtain⟨n,hn⟩:∃n,its.length=n:=⟨_,rfl⟩
 have HN:=hQQ hn
 rw[hn] at C0 c0 hmn hnc e2
 rw[hn]
 have hmc:m≤cv:=by omega
 have q0:IntKind.i64.wrap ((n:Int)-1)=(n:Int)-1:=IntWalk.i64_in _ (by omega)
 have FN:Hq (∀v9 wa,IR 0 wa v9 its'→Turned (fun b=>b=w.heap.size+1) w2 wa→iM w its' (fun v=> .tuple #[v,.int .i64 x,.bool true]) (.returned (.tuple #[.agg #[v9],.int .i64 x,.bool true])) wa):=hQQ fun v9 wa ir t=>⟨v9,rfl,ir,jQ M2.o t (fun k q=>by omega)⟩
 have S2:=hQQ s2
 clear hl1 hl2 m2 h s2 hr hl hb hn HP hits hits' hm hAm hE hB cc1 cc2 SRC
 have HG:=hQQ hcv
 clear hcv
 have QW:Hq (IntKind.i64.wrap ((m:Int)+1)=(m:Int)+1):=hQQ (IntWalk.i64_in _ (by have:=HL.o;have:=HN.o;omega))
 go_enter Tryz.func99,Tryz.ntmps99
 go_wp2_with fail
 clear c0 e2
 go_loopw [7] (fun i wr=>∃z:Int,i=.int .i64 z∧(m:Int)≤z∧z<n∧ae w2 wr) (fun i _=>(intOf i+1).toNat)
 case atStart=>exact⟨(n:Int)-1,rfl,by omega,by omega,ae.refl _⟩
 case round =>
  obtain⟨z,rfl,hz1,hz2,ht⟩:=hrel
  have x0:=ht.cell C0.o
  obtain⟨j,rfl⟩:∃j:Nat,z=j:=⟨z.toNat,by omega⟩
  have hlt:j<n:=by omega
  have hd:decide (0≤(j:Int))=true:=by simp
  by_cases hz:m<j
  ·obtain⟨p,hp⟩:∃p,its[j]?=some p:=⟨_,List.getElem?_eq_getElem (by have:=HN.o;omega)⟩
   obtain⟨g',eg,hc1,hc2⟩:=H1.o j p hp
   cases eg
   have x1:=ht.cell hc1
   have hne:=HB.o j p hz hp
   obtain⟨p1,p2⟩:=p
   simp only at x1 hne
   have d0:(p1==c)=false:=by simp[hne]
   have d1:decide (p1=c)=false:=by simp[hne]
   have q1:IntKind.i64.wrap ((j:Int)-1)=(j:Int)-1:=IntWalk.i64_in _ (by have:=HL.o;have:=HN.o;omega)
   have HT:=hQQ ht
   have HZ:=hQQ hz
   clear hp hc1 hc2 ht hne hz hz1 hz2 q0 hmn hnc hmc
   go_wp2_with fail
   go_roundw
   case rel=>exact⟨(j:Int)-1,rfl,by have:=HZ.o;omega,by omega,HT.o⟩
   case measure=>first|(simp[intOf];done)|(simp[intOf];omega)
  ·obtain rfl:m=j:=by omega
   have x1:=ht.cell C1.o
   have HT:=hQQ ht
   have KB:Hq (∀W,Turned (fun b=>b=w.heap.size+1) wr W→W.cell? ⟨w.heap.size,0,none⟩=some (.slice (some ⟨g,0,none⟩) n cv)):=hQQ fun W hW=>by
    rw[World.cell?_of_block (w:=wr) (Turned.block hW w.heap.size (by have:=HT.o.size;have:=S2.o;omega) (by omega))]
    exact HT.o.cell C0.o
   have KW:Hq (∀W,Turned (fun b=>b=w.heap.size+1) wr W→∀i x,w2.cell? ⟨g,i,none⟩=some x→W.cell? ⟨g,i,none⟩=some x):=hQQ fun W hW i x hi=>by
    rw[World.cell?_of_block (w:=wr) (Turned.block hW g (by have:=HT.o.size;have:=S2.o;have:=HG.o;omega) (by have:=HG.o;omega))]
    exact HT.o.cell hi
   have KX:Hq (∀W,Turned (fun b=>b=w.heap.size+1) wr W→W.cell? ⟨g,m * 2+1,none⟩=some (.int .i64 x)):=hQQ fun W hW=>KW.o W hW _ _ C2.o
   have SL:Hq (∀W,Turned (fun b=>b=w.heap.size+1) wr W→yu W (.slice (some ⟨g,0,none⟩) m cv) (its.take m)):=hQQ fun W hW=>Cg (fun i x hi=>KW.o W hW _ _ (CA.o i x hi)) (by have:=HN.o;omega)
   have SH:Hq (∀W,Turned (fun b=>b=w.heap.size+1) wr W→yu W (.slice (some (hiA g m cv)) (n-(m+1)) (cv-(m+1))) (its.drop (m+1))):=hQQ fun W hW=>by
    have:=Ch (c:=cv-(m+1)) (fun i x hi=>KW.o W hW _ _ (CA.o i x hi)) (m:=m) (cv:=cv) (by have:=HN.o;omega) (by have:=HN.o;omega)
    rwa [HN.o] at this
   have BR:=hQQ (HT.o.block L2.o)
   have FN:Hq (∀v9 wa,IR 0 wa v9 its'→Turned (fun b=>b=w.heap.size+1) wr wa→iM w its' (fun v=> .tuple #[v,.int .i64 x,.bool true]) (.returned (.tuple #[.agg #[v9],.int .i64 x,.bool true])) wa):=hQQ fun v9 wa ir t=>FN.o v9 wa ir ((Turned.mono HT.o (fun _ _ q=>q.elim)).trans t)
   have dc:(c==c)=true:=by simp
   clear ht hz hz1 hz2 q0 hlt
   go_wp2_with fail
   clear x0 x1 hd dc
   refine dg (fun W=>Turned (fun b=>b=w.heap.size+1) wr W) (by kernel_rfl) ?_
   change eY _ _ _ _ _ _ _ _ (wr.drewN 1)
   have MR:Hq (Turned (fun b=>b=w.heap.size+1) wr (wr.drewN 1)):=hQQ ((Turned.refl _ wr).drewN 1)
   have BQ:Hq ((wr.drewN 1).heap[w.heap.size+1]?=some (.cells #[.slice none 0 0] 62 (0,0))):=hQQ BR.o
   generalize wr.drewN 1=wq at MR BQ⊢
   generalize hA:Act.mk _ _=A
   have HF:AG 44 A [(1,.int .i64 c),(2,.pointer (some ⟨w.heap.size,0,none⟩)),(4,.pointer (some ⟨w.heap.size+1,0,none⟩)),(7,.int .i64 (m:Int))]:=by
    rw[←hA];try simp only[pts,List.foldl]
    refine⟨⟨Nat.le_of_ble_eq_true rfl,rfl⟩,?_⟩
    intro z hz;simp only[List.mem_cons,List.not_mem_nil,or_false] at hz;rcases hz with rfl|rfl|rfl|rfl<;>rfl
   refine eZ (fun a W=>a.eval (.tmp 4)=.pointer (some ⟨w.heap.size+1,0,none⟩)∧a.eval (.tmp 5)=.int .i64 x∧a.eval (.tmp 6)=.bool true∧a.defers= []∧∃v,IR 0 W v its'∧W.heap[w.heap.size+1]?=some (.cells #[v] 62 (0,0))∧Turned (fun b=>b=w.heap.size+1) wr W) (fun _=>False) [] (fun a W hd h=>h.elim) (fun _ _ _ _ _ h=>h) ?_ ?_
   ·skip
    rintro a9 wa ⟨hp,hx,hs,hd,v9,ir,hg,MS⟩
    have FIN:=hQQ (FN.o v9 wa ir MS)
    have HG:=hQQ hg
    clear HF hA MR ir MS hg
    obtain⟨ts,ds⟩:=a9
    simp only[Act.eval] at hs hx hp
    obtain rfl:ds= []:=hd
    go_wp2_with fail
    refine bodyPost_ret (v:=.tuple #[.agg #[v9],.int .i64 x,.bool true]) ((zO Tryz.results99 _ _ _ 62 _ (0,0) _ hp HG.o Tryz.underlying62 rfl (by kernel_rfl)).trans (by rw[hx,hs])) rfl FIN.o
   intro QQ FINE FIND FINQ
   clear hA
   refine tqC 1 25 (.pointer (some ⟨w.heap.size,0,none⟩)) (by kernel_rfl) FINQ MR.o HF (by exact(Or.inl ⟨(ah rfl),fun W hW=>by have h50:=(HF.getD 1 rfl);go_simp⟩)) fun A β1 HF=>?_
   refine tqC 2 26 (.slice (some ⟨g,0,none⟩) n cv) (by kernel_rfl) FINQ MR.o HF (by exact cZ (ah rfl) 60 _ rfl (w.heap.size) 0 (HF.get 0 rfl) (.slice (some ⟨g,0,none⟩) n cv) _ Tryz.underlying60 rfl (fun W hW=>KB.o W hW)) fun A β2 HF=>?_
   refine tqM 3 27 5 rfl (.inl rfl) rfl (by kernel_rfl) FINQ MR.o HF fun A β3 HF=>?_
   refine tqC 4 28 (.slice (some ⟨g,0,none⟩) m cv) (by kernel_rfl) FINQ MR.o HF (by exact oV (ah rfl) rfl (HF.get 1 rfl) (HF.get 0 rfl) hmc) fun A β4 HF=>?_
   refine tqC 6 30 (.pointer (some ⟨w.heap.size,0,none⟩)) (by kernel_rfl) FINQ MR.o HF (by exact(Or.inl ⟨(ah rfl),fun W hW=>by have h50:=(HF.getD 5 rfl);go_simp⟩)) fun A β5 HF=>?_
   refine tqC 7 31 (.slice (some ⟨g,0,none⟩) n cv) (by kernel_rfl) FINQ MR.o HF (by exact cZ (ah rfl) 60 _ rfl (w.heap.size) 0 (HF.get 0 rfl) (.slice (some ⟨g,0,none⟩) n cv) _ Tryz.underlying60 rfl (fun W hW=>KB.o W hW)) fun A β6 HF=>?_
   refine tqM 8 32 9 rfl (.inl rfl) rfl (by kernel_rfl) FINQ MR.o HF fun A β7 HF=>?_
   refine tqC 9 33 (.int .i64 ((m:Int)+1)) (by kernel_rfl) FINQ MR.o HF (by exact mF (ah rfl) rfl (HF.get 0 rfl) rfl _ QW.o) fun A β8 HF=>?_
   refine tqC 10 34 (.slice (some (hiA g m cv)) (n-(m+1)) (cv-(m+1))) (by kernel_rfl) FINQ MR.o HF (by exact oW (ah rfl) rfl (HF.get 2 rfl) (HF.get 0 rfl) hmn hnc) fun A β9 HF=>?_
   refine tqC 13 37 (.pointer (some ⟨w.heap.size,0,none⟩)) (by kernel_rfl) FINQ MR.o HF (by exact(Or.inl ⟨(ah rfl),fun W hW=>by have h50:=(HF.getD 10 rfl);go_simp⟩)) fun A β10 HF=>?_
   refine tqC 14 38 (.slice (some ⟨g,0,none⟩) n cv) (by kernel_rfl) FINQ MR.o HF (by exact cZ (ah rfl) 60 _ rfl (w.heap.size) 0 (HF.get 0 rfl) (.slice (some ⟨g,0,none⟩) n cv) _ Tryz.underlying60 rfl (fun W hW=>KB.o W hW)) fun A β11 HF=>?_
   refine tqM 15 39 14 rfl (.inl rfl) rfl (by kernel_rfl) FINQ MR.o HF fun A β12 HF=>?_
   refine tqC 16 40 (.pointer (some ⟨g,m * 2,none⟩)) (by kernel_rfl) FINQ MR.o HF (by exact tK (ah rfl) rfl (HF.get 1 rfl) (HF.get 0 rfl) hmn) fun A β13 HF=>?_
   refine tqC 17 41 (.pointer (some ⟨g,m * 2+1,none⟩)) (by kernel_rfl) FINQ MR.o HF (by exact(Or.inl ⟨(ah rfl),fun W hW=>by have h50:=(HF.getD 0 rfl);go_simp⟩)) fun A β14 HF=>?_
   refine tqC 18 42 (.int .i64 x) (by kernel_rfl) FINQ MR.o HF (by exact cZ (ah rfl) 3 _ rfl g (m * 2+1) (HF.get 0 rfl) (.int .i64 x) _ Tryz.underlying3 rfl (fun W hW=>KX.o W hW)) fun A β15 HF=>?_
   refine tqO 0 24 (by kernel_rfl) HF fun K hK=>?_
   refine Cf rfl ?_
   have M1:Hq (Turned (fun b=>b=w.heap.size+1) wr (wq.alloc (.cells #[] 141))):=hQQ (MR.o.alloc _)
   have Z1:=hQQ (zT wq)
   have B1:=hQQ (((ae.refl wq).alloc (.cells #[] 141)).block BQ.o)
   refine hK _ _ M1.o fun A β16 HF=>?_
   clear hK K
   refine fm (i:=5) (some 29) (by kernel_rfl) rfl (ah rfl) rfl (fun K hK=>?_)
   refine ng _ _ rfl (HF.get 0 rfl) Z1.o (by simp) (HF.get 12 rfl) (SL.o _ M1.o) (by have:=LL.o;simp;omega) ?_
   intro v2 w2 r2 t2 k2
   obtain⟨a2,c2,hv2,_⟩:=r2.reads
   subst hv2
   have M2:Hq (Turned (fun b=>b=w.heap.size+1) wr w2):=hQQ (qs M1.o t2 (fun k q=>by have:=Z1.o.own k q;have:=MR.o.size;omega))
   have R2:Hq (IR wq.heap.size w2 (.slice a2 ([]++its.take m).length c2) (its.take m)):=hQQ r2
   have G2:Hq (wq.heap.size≤w2.heap.size):=hQQ (by have:=t2.size;simp at this;omega)
   have B2:Hq (w2.heap[w.heap.size+1]?=some (.cells #[.slice none 0 0] 62 (0,0))):=hQQ ((t2.block _ (ac B1.o) (fun q=>by have:=Z1.o.own _ q;have:=ac BQ.o;omega)).trans B1.o)
   refine hK _ _ M2.o ?_
   clear hK K r2 t2 k2
   replace HF:=HF.put 29 (.slice a2 ([]++its.take m).length c2) (by decide) rfl
   generalize β17:Act.put _ _ _=A at HF⊢
   refine fm (i:=11) (some 35) (by kernel_rfl) rfl (ah rfl) rfl (fun K hK=>?_)
   refine ng _ _ rfl (HF.get 0 rfl) R2.o (G2.o) (HF.get 8 rfl) (SH.o _ M2.o) (by have:=LL.o;simp;omega) ?_
   intro v3 w3 r3 t3 k3
   obtain⟨a3,c3,hv3,_⟩:=r3.reads
   subst hv3
   have M3:Hq (Turned (fun b=>b=w.heap.size+1) wr w3):=hQQ (qs M2.o t3 (fun k q=>by have:=R2.o.own k q;have:=MR.o.size;omega))
   have R3:Hq (IR wq.heap.size w3 (.slice a3 (its.take m++its.drop (m+1)).length c3) its'):=hQQ (by rw[←EI.o];exact r3)
   have B3:Hq (w3.heap[w.heap.size+1]?=some (.cells #[.slice none 0 0] 62 (0,0))):=hQQ ((t3.block _ (ac B2.o) (fun q=>by have:=R2.o.own _ q;have:=ac BQ.o;omega)).trans B2.o)
   refine hK _ _ M3.o ?_
   clear hK K r3 t3 k3
   replace HF:=HF.put 35 (.slice a3 (its.take m++its.drop (m+1)).length c3) (by decide) rfl
   generalize β18:Act.put _ _ _=A at HF⊢
   refine tqC 12 36 (.agg #[.slice a3 (its.take m++its.drop (m+1)).length c3]) (by kernel_rfl) FINQ M3.o HF (by exact qr (ah rfl) rfl (HF.get 0 rfl)) fun A β19 HF=>?_
   obtain⟨n3,hn3⟩:∃n3,(its.take m++its.drop (m+1)).length=n3:=⟨_,rfl⟩
   rw[hn3] at HF R3
   clear hn3
   have M4:Hq (Turned (fun b=>b=w.heap.size+1) wr (w3.setRow (w.heap.size+1) #[.slice a3 n3 c3])):=hQQ (Turned.setRow M3.o _ _ (fun _=>rfl))
   refine fm (i:=19) none (by kernel_rfl) rfl (ah rfl) rfl (fun K hK=>?_)
   refine wp_store_row 62 _ _ rfl (w.heap.size+1) #[.slice a3 n3 c3] (HF.get 21 rfl) (HF.get 0 rfl) 62 _ B3.o (by kernel_rfl) rfl (by simp[Value.oneCell']) ?_
   refine hK _ _ M4.o ?_
   clear hK K
   replace HF:=HF.skipP undef
   generalize hBN:Act.put _ _ _=A at HF⊢
   refine tqM 20 5 4 rfl (.inr rfl) rfl (by kernel_rfl) FINQ M4.o HF fun A β20 HF=>?_
   refine tqC 21 6 (.bool true) (by kernel_rfl) FINQ M4.o HF (by exact gg (ah rfl) _ rfl rfl) fun A β21 HF=>?_
   exact el (by kernel_rfl) (FINE _ _ ⟨HF.get 23 rfl,HF.get 1 rfl,HF.get 0 rfl,HF.1.2,_,(R3.o.low (Nat.zero_le _)).keep (S:=fun k=>k=w.heap.size+1) (Turned.setRow (Turned.refl _ w3) _ _ (fun _=>rfl)) (fun k q=>by subst q;exact⟨_,_,_,B3.o,by decide⟩),setRow_heap _ _ _ _ _ _ B3.o,M4.o⟩)
structure Eqv (P:Nat→List Int)(its:List It):Prop where
 cls:∀p∈its,gT p.1=true
 at':∀k,k<5→P k=eH its k
theorem vU:Eqv (fun _=> []) []:=⟨(fun p hp=>by cases hp),fun k _=>rfl⟩
theorem ip (A B:List It)(c:Int):eH (A++B) c=eH A c++eH B c:=by unfold eH;rw[List.filter_append,List.map_append]
theorem ou (c x k:Int):eH [(c,x)] k=if c=k then [x] else []:=by
 unfold eH
 by_cases e:c=k
 ·simp[e]
 ·simp[e]
theorem jS {B:List It}{c:Int}(h:∀p∈B,p.1≠c):eH B c= []:=by
 unfold eH
 rw[List.filter_eq_nil_iff.2]
 ·rfl
 ·intro p hp;simp[h p hp]
theorem Eqv.list {P:Nat→List Int}{its:List It}(h:Eqv P its)(c:Int):Fj P c=eH its c:=by
 unfold Fj
 by_cases hc:gT c=true
 ·obtain⟨k,rfl,hk⟩:=pG hc
  rw[if_pos hc]
  simpa using h.at' k hk
 ·rw[if_neg hc]
  refine(jS fun p hp=>?_).symm
  rintro rfl
  exact hc (h.cls p hp)
theorem Eqv.len {P:Nat→List Int}{its:List It}(h:Eqv P its)(c:Int):xE P c=(eH its c).length:=by
 rw[←h.list c]
 unfold xE Fj
 split<;>simp
theorem Eqv.push {P:Nat→List Int}{its:List It}(h:Eqv P its)(c a l:Int):oN P c l=jR its c l∧Eqv (dx P c a l) (j2 its c a l):=by
 have e:oN P c l=jR its c l:=by unfold oN jR;rw[h.len c]
 refine⟨e,?_⟩
 unfold dx j2
 rw[←e]
 by_cases hb:oN P c l=true
 ·rw[if_pos hb,if_pos hb]
  have hc:gT c=true:=by simp[oN] at hb;exact hb.1
  refine⟨fun p hp=>?_,fun k hk=>?_⟩
  ·rcases List.mem_append.1 hp with q|q
   ·exact h.cls p q
   ·obtain rfl:=List.mem_singleton.1 q;exact hc
  ·obtain⟨j,rfl,hj⟩:=pG hc
   rw[ip,ou]
   by_cases q:k=j
   ·subst q;simp[h.at' k hk]
   ·have q':¬((j:Int)=(k:Int)):=by omega
    simp[q,q',h.at' k hk]
 ·rw[if_neg hb,if_neg hb];exact h
theorem Hu (its:List It)(c:Int):(∀p∈its,p.1≠c)∨∃A x B,its=A++(c,x)::B∧∀p∈B,p.1≠c:=by
 induction its with
 |nil=>exact .inl fun p hp=>by cases hp
 |cons p its ih =>
  rcases ih with h|⟨A,x,B,rfl,hB⟩
  ·by_cases e:p.1=c
   ·obtain⟨p1,p2⟩:=p
    simp only at e
    subst e
    exact .inr ⟨[],p2,its,rfl,h⟩
   ·refine .inl fun q hq=>?_
    rcases List.mem_cons.1 hq with rfl|hq
    ·exact e
    ·exact h q hq
  ·exact .inr ⟨p::A,x,B,rfl,hB⟩
structure Ki (its:List It)(c:Int)(its':List It)(x:Int)(b:Bool):Prop where
 calls:∀(v:Value) (w:World),IR 0 w v its→its.length≤100000→Calls Tryz.prog 99 #[.agg #[v],.int .i64 c] w (iM w its' (fun v=> .tuple #[v,.int .i64 x,.bool b]))
 len:its'.length≤its.length
theorem Eqv.pop {P:Nat→List Int}{its:List It}(h:Eqv P its)(c:Int):∃its',Ki its c its' (qV P c) (mn P c)∧Eqv (oo P c) its':=by
 rcases Hu its c with hn|⟨A,x,B,rfl,hB⟩
 ·have l0:xE P c=0:=by rw[h.len c,jS hn];rfl
  have b0:mn P c=false:=by simp[mn,l0]
  have x0:qV P c=0:=by simp[qV,b0]
  refine⟨its,⟨fun v w hv hl=>?_,Nat.le_refl _⟩,?_⟩
  ·rw[b0,x0];exact Fl v its c w hv hl hn
  ·unfold oo;rw[b0];exact h
 ·have hc:gT c=true:=h.cls (c,x) (by simp)
  obtain⟨k,rfl,hk⟩:=pG hc
  have eP:P k=eH A k++ [x]:=by
   rw[h.at' k hk,ip,show((k:Int),x)::B= [((k:Int),x)]++B from rfl,ip,ou,jS hB];simp
  have b1:mn P k=true:=by simp[mn,mX P hk,eP]
  have x1:qV P k=x:=by simp[qV,b1,eP]
  refine⟨A++B,⟨fun v w hv hl=>?_,by simp⟩,?_⟩
  ·rw[b1,x1];exact Ci v A B k x w hv hl hB
  ·refine⟨fun p hp=>h.cls p ?_,fun j hj=>?_⟩
   ·rcases List.mem_append.1 hp with q|q
    ·exact List.mem_append_left _ q
    ·exact List.mem_append_right _ (List.mem_cons_of_mem _ q)
   ·unfold oo
    rw[if_pos b1,ip]
    by_cases q:j=k
    ·subst q
     rw[jS hB]
     simp[eP]
    ·have q':¬((k:Int)=(j:Int)):=by omega
     have:=h.at' j hj
     rw[ip,show((k:Int),x)::B= [((k:Int),x)]++B from rfl,ip,ou,if_neg q'] at this
     simp[q,this]
end Go.Proofs.YtfddhogffpkhcaaGreatDoor
