/-
  Layer 14's functions as programs over words: ways by which a block goes, tried one by one; the last blocks of a purse, and the blocks of stacks, that are let go.
-/
import Derived.Test.YtddmeghbmdfgeaaGreatDoorFtAj
import Derived.Test.YtddmeghbmdfgeaaGreatDoorFtAl
import Derived.Test.YtddmeghbmdfgeaaGreatDoorFtAe
import Derived.Test.YtddmeghbmdfgeaaGreatDoorFtAa
import Derived.Test.YtddmeghbmdfgeaaGreatDoorFtAg
import Derived.Laws.Tables
import Derived.Test.YtddmeghbmdfgeaaGreatDoorFtAk
import Derived.Test.YtddmeghbmdfgeaaGreatDoorFtAf
import Derived.Laws.OwnMore
import Derived.Laws.AppendOwnNone
import Derived.Maps.AppendAt
import Derived.Shelf.Abstract
set_option maxRecDepth 100000
set_option maxHeartbeats 8000000
set_option linter.all false
namespace Go.Proofs.YtddmeghbmdfgeaaGreatDoor
open Go.RowKit Go.Sort Go.Maps Go.Shelf
inductive WayD where
 |room (b l:Int)
 |home
def jP (n:Nat):WayD→Prop
 | .room b l=>eQ b l n
 | .home=>True
section
variable (us pg st:Int)
def zQ:WayD→Int→Prg Bool
 | .room b l,a=>j4 b l a
 | .home,a=>rr us pg st a
def lX:List WayD→Int→Prg Unit
 | [],_=>az ()
 |y::t,a=>aq (zQ us pg st y a) fun b=>if b then az () else lX t a
def dF (wy:List WayD)(k:Int):Nat→(Nat→List Int)→Prg (Nat→List Int)
 | 0,P=>az P
 |m+1,P=>if gY P k then aq (lX us pg st wy (iv P k)) fun _=>dF wy k m (ib P k) else az P
def kT (wy:List WayD)(b l:Int):Nat→Prg Unit
 | 0=>az ()
 |m+1=>aq (ee b l) fun x=>if x.2 then aq (lX us pg st wy x.1) fun _=>kT wy b l m else az ()
def fj (wy:List WayD):List (Int×Int)→Prg Unit
 | []=>az ()
 |s::t=>aq (kT us pg st wy s.1 s.2 (s.2.toNat+1)) fun _=>fj wy t
def ue:WayD→Int→List Int→Bool×List Int
 | .room b l,a,ws=>cL b l a ws
 | .home,a,ws=>ig us pg st a ws
def oZ:List WayD→Int→List Int→List Int
 | [],_,ws=>ws
 |y::t,a,ws=>if(ue us pg st y a ws).1 then(ue us pg st y a ws).2 else oZ t a (ue us pg st y a ws).2
def iw (wy:List WayD)(k:Int):Nat→(Nat→List Int)→List Int→(Nat→List Int)×List Int
 | 0,P,ws=>(P,ws)
 |m+1,P,ws=>if gY P k then iw wy k m (ib P k) (oZ us pg st wy (iv P k) ws) else(P,ws)
def rx (wy:List WayD)(b l:Int):Nat→List Int→List Int
 | 0,ws=>ws
 |m+1,ws=>if(aZ b l ws).1.2 then rx wy b l m (oZ us pg st wy (aZ b l ws).1.1 (aZ b l ws).2) else(aZ b l ws).2
def nO (wy:List WayD):List (Int×Int)→List Int→List Int
 | [],ws=>ws
 |s::t,ws=>nO wy t (rx us pg st wy s.1 s.2 (s.2.toNat+1) ws)
theorem Fk (y:WayD)(a:Int):bH (zQ us pg st y a):=by
 cases y with
 |room b l=>exact xB _ _ _
 |home=>exact Bn _ _ _ _
theorem qW:∀(wy:List WayD) (a:Int),bH (lX us pg st wy a)
 | [],a=>ah _
 |y::t,a=>ar (Fk us pg st y a) fun b=>aG (ah _) (qW t a)
theorem mT (wy:List WayD)(k:Int):∀(m:Nat) (P:Nat→List Int),bH (dF us pg st wy k m P)
 | 0,P=>ah _
 |m+1,P=>aG (ar (qW us pg st _ _) fun _=>mT wy k m _) (ah _)
theorem uf (wy:List WayD)(b l:Int):∀m,bH (kT us pg st wy b l m)
 | 0=>ah _
 |m+1=>ar (ru _ _) fun x=>aG (ar (qW us pg st _ _) fun _=>uf wy b l m) (ah _)
theorem pT (wy:List WayD):∀t,bH (fj us pg st wy t)
 | []=>ah _
 |s::t=>ar (uf us pg st _ _ _ _) fun _=>pT wy t
end
theorem j9 (P:Nat→List Int)(k:Nat)(xs:List Int):dk P k xs k=xs:=by simp[dk]
def pU (P:Nat→List Int):Prop:=∀j,j<5→∀a∈P j,W64 a
theorem ug {P:Nat→List Int}(h:pU P){k:Int}(e:gY P k=true):W64 (iv P k):=by
 have e':=e
 unfold gY at e'
 have hl:0<cP P k:=by simpa using e'
 unfold cP at hl
 split at hl
 ·rename_i hb
  obtain⟨j,rfl,hj⟩:=mS hb
  unfold iv
  rw[if_pos e]
  simp only[Int.toNat_natCast] at hl⊢
  refine h j hj _ ?_
  rw[List.getD_eq_getElem?_getD,List.getElem?_eq_getElem (by omega)]
  exact List.getElem_mem _
 ·omega
theorem uh {P:Nat→List Int}(h:pU P)(k:Int):pU (ib P k):=fun j hj a ha=>by
 unfold ib at ha
 split at ha
 ·simp only at ha
  split at ha
  ·exact h j hj a (List.mem_of_mem_take ha)
  ·exact h j hj a ha
 ·exact h j hj a ha
theorem ui (P:Nat→List Int)(k:Int)(j:Nat):(ib P k j).length≤(P j).length:=by
 unfold ib
 split
 ·simp only
  split
  ·simp
  ·exact Nat.le_refl _
 ·exact Nat.le_refl _
theorem o6 {α β:Type}{n:Nat}{p:Prg α}{f:α→Prg β}{g:List Int→α×List Int}{k:α→List Int→β×List Int}{Q:α→Prop}(h:ci n p g)(G:bZ n Q p)(hf:∀x,Q x→ci n (f x) (k x)):ci n (aq p f) (fun ws=>k (g ws).1 (g ws).2):=fun zs D hn hz hD=>by
 obtain⟨D1,e1,a1,i1⟩:=h zs D hn hz hD
 obtain⟨D2,e2,a2,i2⟩:=hf (g (cy zs D)).1 (G.ok (jX hz) hD e1).2 zs D1 hn hz i1
 refine⟨D2,?_,?_,i2⟩
 ·rw[aj e1,e2,a1]
 ·rw[a2,a1]
section
variable {us pg st:Int}{n:Nat}(H:cF pg st n)
include H
theorem uj {y:WayD}(hy:jP n y){a:Int}(ha:W64 a):bZ n (fun _=>True) (zQ us pg st y a):=by
 cases y with
 |room b l=>exact zH hy ha
 |home=>exact vL H us a
theorem pV {a:Int}(ha:W64 a):∀ {wy:List WayD},(∀y∈wy,jP n y)→bZ n (fun _=>True) (lX us pg st wy a)
 | [],_=>ai n trivial
 |y::t,h=>aw (uj H (h y (by simp)) ha) fun b _=>aN (fun _=>ai n trivial) (fun _=>pV ha fun z hz=>h z (by simp[hz]))
theorem uk {wy:List WayD}(hy:∀y∈wy,jP n y)(k:Int):∀(m:Nat) (P:Nat→List Int),pU P→bZ n (fun P'=>pU P'∧∀j,(P' j).length≤(P j).length) (dF us pg st wy k m P)
 | 0,P,h=>ai n ⟨h,fun _=>Nat.le_refl _⟩
 |m+1,P,h=>aN (fun e=>aw (pV H (ug h e) hy) fun _ _=>d8 (uk hy k m _ (uh h k)) fun P' q=>⟨q.1,fun j=>Nat.le_trans (q.2 j) (ui P k j)⟩) (fun _=>ai n ⟨h,fun _=>Nat.le_refl _⟩)
theorem vZ {wy:List WayD}(hy:∀y∈wy,jP n y){b l:Int}(hs:eQ b l n):∀m,bZ n (fun _=>True) (kT us pg st wy b l m)
 | 0=>ai n trivial
 |m+1=>aw (iu hs) fun x hx=>aN (fun _=>aw (pV H hx hy) fun _ _=>vZ hy hs m) (fun _=>ai n trivial)
theorem ry {wy:List WayD}(hy:∀y∈wy,jP n y):∀t:List (Int×Int),(∀s∈t,eQ s.1 s.2 n)→bZ n (fun _=>True) (fj us pg st wy t)
 | [],_=>ai n trivial
 |s::t,h=>aw (vZ H hy (h s (by simp)) _) fun _ _=>ry hy t fun z hz=>h z (by simp[hz])
theorem IK {y:WayD}(hy:jP n y){a:Int}(ha:W64 a):ci n (zQ us pg st y a) (ue us pg st y a):=by
 cases y with
 |room b l=>exact rv hy ha
 |home=>exact vS H us a
theorem ul {a:Int}(ha:W64 a):∀ {wy:List WayD},(∀y∈wy,jP n y)→ci n (lX us pg st wy a) (fun ws=>((),oZ us pg st wy a ws))
 | [],_=>au n _
 |y::t,h=>by
  refine aX (aC (IK H (h y (by simp)) ha) fun b=>bh (fun _=>au n ()) (fun _=>ul ha fun z hz=>h z (by simp[hz]))) fun ws _=>?_
  show _=((),oZ us pg st (y::t) a ws)
  have e:oZ us pg st (y::t) a ws=if(ue us pg st y a ws).1 then(ue us pg st y a ws).2 else oZ us pg st t a (ue us pg st y a ws).2:=rfl
  rw[e]
  cases (ue us pg st y a ws).1<;>rfl
theorem o7 {wy:List WayD}(hy:∀y∈wy,jP n y)(k:Int):∀(m:Nat) (P:Nat→List Int),pU P→ci n (dF us pg st wy k m P) (fun ws=>iw us pg st wy k m P ws)
 | 0,P,h=>au n _
 |m+1,P,h=>by
  refine aX (bh (fun e=>aC (ul H (ug h e) hy) fun _=>o7 hy k m _ (uh h k)) (fun _=>au n P)) fun ws _=>?_
  have e:iw us pg st wy k (m+1) P ws=if gY P k then iw us pg st wy k m (ib P k) (oZ us pg st wy (iv P k) ws) else(P,ws):=rfl
  rw[e]
theorem we {wy:List WayD}(hy:∀y∈wy,jP n y){b l:Int}(hs:eQ b l n):∀m,ci n (kT us pg st wy b l m) (fun ws=>((),rx us pg st wy b l m ws))
 | 0=>au n _
 |m+1=>by
  refine aX (o6 (oU hs) (iu hs) fun x hx=>bh (fun _=>aC (ul H hx hy) fun _=>we hy hs m) (fun _=>au n ())) fun ws _=>?_
  have e:rx us pg st wy b l (m+1) ws=if(aZ b l ws).1.2 then rx us pg st wy b l m (oZ us pg st wy (aZ b l ws).1.1 (aZ b l ws).2) else(aZ b l ws).2:=rfl
  rw[e]
  cases (aZ b l ws).1.2<;>rfl
theorem rz {wy:List WayD}(hy:∀y∈wy,jP n y):∀t:List (Int×Int),(∀s∈t,eQ s.1 s.2 n)→ci n (fj us pg st wy t) (fun ws=>((),nO us pg st wy t ws))
 | [],_=>au n _
 |s::t,h=>aC (we H hy (h s (by simp)) _) fun _=>rz hy t fun z hz=>h z (by simp[hz])
end
section
variable (us pg st:Int)(S:Fam)(i0 i1:Nat)
theorem um (a:Int)(ws:List Int):oZ us pg st [.home] a ws=(ig us pg st a ws).2:=by
 have e:oZ us pg st [.home] a ws=if(ue us pg st .home a ws).1 then(ue us pg st .home a ws).2 else(ue us pg st .home a ws).2:=rfl
 rw[e,ite_self];rfl
theorem IL (a:Int)(ws:List Int):oZ us pg st [.room (S.b i0) (S.l i0),.room (S.b i1) (S.l i1),.home] a ws=ud us pg st S i0 i1 a ws:=by
 have e:oZ us pg st [.room (S.b i0) (S.l i0),.room (S.b i1) (S.l i1),.home] a ws=if(cL (S.b i0) (S.l i0) a ws).1 then(cL (S.b i0) (S.l i0) a ws).2
  else if(cL (S.b i1) (S.l i1) a (cL (S.b i0) (S.l i0) a ws).2).1 then(cL (S.b i1) (S.l i1) a (cL (S.b i0) (S.l i0) a ws).2).2
  else oZ us pg st [.home] a (cL (S.b i1) (S.l i1) a (cL (S.b i0) (S.l i0) a ws).2).2:=rfl
 rw[e,um];rfl
theorem uo (k:Nat):∀(m:Nat) (P:Nat→List Int) (ws:List Int),iw us pg st [.room (S.b i0) (S.l i0),.room (S.b i1) (S.l i1),.home] k m P ws=j7 us pg st S i0 i1 k m P ws
 | 0,P,ws=>rfl
 |m+1,P,ws=>by
  unfold iw j7
  rw[IL,uo k m]
theorem uq (x:Int):∀(l:List Int) (ws:List Int),jb us pg st (l++ [x]) ws=jb us pg st l (ig us pg st x ws).2
 | [],ws=>rfl
 |a::t,ws=>by
  show(ig us pg st a (jb us pg st (t++ [x]) ws)).2=_
  rw[uq x t ws];rfl
theorem rB {k:Nat}(hk:k<5):∀(m:Nat) (P:Nat→List Int) (ws:List Int),(P k).length=m→iw us pg st [.home] k m P ws=(dk P k [],jb us pg st (P k) ws)
 | 0,P,ws,h=>by
   have e:=List.length_eq_zero_iff.1 h
   rw[e]
   have:dk P k []=P:=by rw[←e];exact eR P k
   rw[this];rfl
 |m+1,P,ws,h=>by
  obtain⟨xs,x,e⟩:∃xs x,P k=xs++ [x]:=⟨(P k).dropLast,(P k).getLast (by intro q;rw[q] at h;simp at h),(List.dropLast_concat_getLast _).symm⟩
  obtain⟨e1,e2,e3⟩:=j6 P hk e
  unfold iw
  rw[if_pos e1,e2,e3,um,rB hk m _ _ (by rw[j9];rw[e] at h;simpa using h)]
  rw[lJ,j9,e,uq]
theorem rC (b l:Int):∀(m:Nat) (ws:List Int),rx us pg st [.home] b l m ws=iH us pg st b l m ws
 | 0,ws=>rfl
 |m+1,ws=>by
  unfold rx iH
  rw[um]
  split
  ·exact rC b l m _
  ·rename_i h
   unfold aZ at h⊢
   simp only at h⊢
   by_cases q:0<a7 l (wAt ws b)
   ·rw[if_pos q] at h;simp at h
   ·rw[if_neg q]
theorem rD (wy:List WayD)(s:Int×Int):∀(t:List (Int×Int)) (ws:List Int),nO us pg st wy (t++ [s]) ws=rx us pg st wy s.1 s.2 (s.2.toNat+1) (nO us pg st wy t ws)
 | [],ws=>rfl
 |z::t,ws=>rD wy s t _
def famL (S:Fam):Nat→List (Int×Int)
 | 0=> []
 |m+1=>famL S m++ [(S.b m,S.l m)]
theorem pW:∀(m:Nat) (ws:List Int),nO us pg st [.home] (famL S m) ws=oW us pg st S m ws
 | 0,ws=>rfl
 |m+1,ws=>by
  show nO us pg st [.home] (famL S m++ [(S.b m,S.l m)]) ws=_
  rw[rD,rC,pW m ws];rfl
theorem zR {m:Nat}{s:Int×Int}(h:s∈famL S m):∃i,i<m∧s=(S.b i,S.l i):=by
 induction m with
 |zero=>cases h
 |succ m ih =>
  rcases List.mem_append.1 h with h|h
  ·obtain⟨i,hi,e⟩:=ih h;exact⟨i,by omega,e⟩
  ·exact⟨m,by omega,List.mem_singleton.1 h⟩
end
def PuN (O:Nat→Prop)(f:Nat→Value):Prop:=∀c,c<5→∀q,(f c).ownBlock=some q→O q
theorem PuN.mono {O O':Nat→Prop}{f:Nat→Value}(h:PuN O f)(m:∀q,O q→O' q):PuN O' f:=fun c hc q e=>m q (h c hc q e)
theorem PuN.nil (O:Nat→Prop):PuN O (fun _=> .slice none 0 0):=fun _ _ _ e=>by cases e
theorem Pu.lt {w:World}{f:Nat→Value}{P:Nat→List Int}(h:Pu w f P):PuN (fun q=>q<w.heap.size) f:=fun c hc q e=>by
 obtain⟨a,cap,hv,_,_,z⟩:=h c hc
 rw[hv] at e
 rcases z with⟨rfl,_⟩|⟨g,cur,rfl,hg,_⟩
 ·cases e
 ·cases e;exact ac hg
theorem Pu.off {w w':World}{f:Nat→Value}{P:Nat→List Int}{S:Nat→Prop}(h:Pu w f P)(n:PuN (fun q=>¬S q) f)(t:Turned S w w'):Pu w' f P:=fun c hc=>by
 obtain⟨a,cap,hv,h1,h2,z⟩:=h c hc
 refine⟨a,cap,hv,h1,h2,z.imp id ?_⟩
 rintro⟨g,cur,rfl,hg,r⟩
 exact⟨g,cur,rfl,(t.block g (ac hg) (n c hc g (by rw[hv];rfl))).trans hg,r⟩
def eJ (w:World)(O:Nat→Prop)(P:Nat→List Int)(val:Value→Value)(e:Ending)(w':World):Prop:=∃f,e=.returned (val (.agg (puA f)))∧Pu w' f P∧ae w w'∧PuN (fun q=>O q∨w.heap.size≤q) f
theorem zS (f:Nat→Value)(P:Nat→List Int)(k n:Nat)(w:World)(h:Pu w f P)(hk:k<5)(hn:n≤(P k).length)(hl:(P k).length≤1000000):
 Calls Tryz.prog 96 #[.agg (puA f),.int .i64 k,.int .i64 n] w (fun e w'=>∃a,e=.returned (.slice a n n)∧Rd w' (.slice a n n) ((P k).take n)∧ae w w'∧∀q,(Value.slice a n n).ownBlock=some q→(f k).ownBlock=some q):=by
 obtain⟨w1,e1,hl1,m1,s1⟩:=en1 w (.cells (puA f) 32)
 have M1:=hQQ m1
 obtain⟨a,⟨cap,hf,hc,h0⟩,hr⟩:=((h k hk).more m1).first hn
 have x1:w1.cell? ⟨w.heap.size,k,none⟩=some (.slice a (P k).length cap):=(kR hl1 hk).trans (by rw[hf])
 have HR:=hQQ hr
 have HO:Hq (∀q,(Value.slice a n n).ownBlock=some q→(f k).ownBlock=some q):=hQQ (fun q e=>by rw[hf];cases a<;>exact e)
 clear m1 h s1 hl1 hf hr
 have hm:=hk
 generalize (P k).length=m at *
 go_enter Tryz.func96,Tryz.ntmps96
 cases a with
 |none =>
  obtain rfl:=h0 rfl
  obtain rfl:n=0:=by omega
  go_wp2_with fail
  go_ret
  exact⟨_,rfl,HR.o,M1.o,HO.o⟩
 |some p =>
  clear h0
  go_wp2_with fail
  go_ret
  exact⟨_,rfl,HR.o,M1.o,HO.o⟩
theorem BU (O:Nat→Prop)(f:Nat→Value)(P:Nat→List Int)(c a l:Int)(w:World)(h:Pu w f P)(ho:PuN O f)(hb:dX P c l=false):
 Calls Tryz.prog 67 #[.agg (puA f),.int .i64 c,.int .i64 a,.int .i64 l] w (eJ w O P (fun v=> .tuple #[v,.bool false])):=by
 obtain⟨z0,hz0⟩:∃z:Array Value,z= #[.slice none 0 0,.slice none 0 0,.slice none 0 0,.slice none 0 0,.slice none 0 0]:=⟨_,rfl⟩
 obtain⟨w2,e2,hl1,hl2,m2,s2⟩:=en2 w (.cells (puA f) 32) (.cells #[.slice none 0 0,.slice none 0 0,.slice none 0 0,.slice none 0 0,.slice none 0 0] 32)
 have L1:=hQQ hl1
 have L2:=hQQ hl2
 have M2:=hQQ m2
 have HP:=hQQ (h.more m2)
 have HL:=hQQ (fun W (hW:ae w2 W)=>om f P c W (HP.o.more hW))
 have HC:=hQQ (fun W=>nN c W)
 have H1:=hQQ h.all1
 have FIN:Hq (∀W,ae w2 W→eJ w O P (fun v=> .tuple #[v,.bool false]) (.returned (.tuple #[.agg (puA f),.bool false])) (W.setRow (w.heap.size+1) (puA f))):=hQQ fun W hW =>
  ⟨f,rfl,(HP.o.more hW).keep (S:=fun k=>k=w.heap.size+1) (Turned.setRow (Turned.refl _ W) _ _ (fun _=>rfl)) (fun k q=>by subst q;exact⟨_,_,_,hW.block L2.o,by decide⟩),(M2.o.trans hW).setRow _ _ (by omega),ho.mono (fun _ z=> .inl z)⟩
 clear hl1 hl2 m2 h s2 ho
 cases hc:jh c with
 |false =>
  rw[hc] at HC
  rw[Dw P hc] at HL
  clear hc hb
  go_enter Tryz.func67,Tryz.ntmps67
  go_wp2_with (refine kY rfl rfl rfl L1.o (by kernel_rfl) ?_)
  refine(HL.o w2 (ae.refl _)).mono ?_
  rintro e w3 ⟨rfl,h3⟩
  have M3:=hQQ h3
  clear h3
  go_wp2_with fail
  refine(HC.o w3).mono ?_
  rintro e w4 ⟨rfl,h4⟩
  have M4:=hQQ (M3.o.trans h4)
  clear h4
  go_wp2_with (first|(refine kY rfl rfl rfl (M4.o.block L1.o) (by kernel_rfl) ?_)|(refine wpList_store_row rfl 32 _ _ rfl _ _ rfl rfl 32 _ (M4.o.block L2.o) (by kernel_rfl) rfl H1.o ?_))
  refine bodyPost_ret (v:=.tuple #[.agg (puA f),.bool false]) (xD Tryz.results67 _ _ _ 32 _ (0,0) _ rfl (setRow_heap _ _ _ _ _ _ (M4.o.block L2.o)) Tryz.underlying32 rfl (by kernel_rfl)) rfl (FIN.o _ M4.o)
 |true =>
  rw[hc] at HC
  obtain⟨n,hn⟩:∃n,cP P c=n:=⟨_,rfl⟩
  rw[hn] at HL
  have hb2:decide (l≤n)=true:=by simp[dX,hc,hn] at hb;simpa using hb
  clear hc hb hn
  go_enter Tryz.func67,Tryz.ntmps67
  go_wp2_with (refine kY rfl rfl rfl L1.o (by kernel_rfl) ?_)
  refine(HL.o w2 (ae.refl _)).mono ?_
  rintro e w3 ⟨rfl,h3⟩
  have M3:=hQQ h3
  clear h3
  go_wp2_with fail
  refine(HC.o w3).mono ?_
  rintro e w4 ⟨rfl,h4⟩
  have M4:=hQQ (M3.o.trans h4)
  clear h4
  go_wp2_with (first|(refine kY rfl rfl rfl (M4.o.block L1.o) (by kernel_rfl) ?_)|(refine wpList_store_row rfl 32 _ _ rfl _ _ rfl rfl 32 _ (M4.o.block L2.o) (by kernel_rfl) rfl H1.o ?_))
  refine bodyPost_ret (v:=.tuple #[.agg (puA f),.bool false]) (xD Tryz.results67 _ _ _ 32 _ (0,0) _ rfl (setRow_heap _ _ _ _ _ _ (M4.o.block L2.o)) Tryz.underlying32 rfl (by kernel_rfl)) rfl (FIN.o _ M4.o)
theorem zT (O:Nat→Prop)(f:Nat→Value)(P:Nat→List Int)(k:Nat)(a l:Int)(w:World)(h:Pu w f P)(ho:PuN O f)(hk:k<5)(hl:(P k).length<l)(hL:(P k).length≤1000000):
 Calls Tryz.prog 67 #[.agg (puA f),.int .i64 k,.int .i64 a,.int .i64 l] w (eJ w O (fun j=>if j=k then P j++ [a] else P j) (fun v=> .tuple #[v,.bool true])):=by
 obtain⟨w2,e2,hl1,hl2,m2,s2⟩:=en2 w (.cells (puA f) 32) (.cells #[.slice none 0 0,.slice none 0 0,.slice none 0 0,.slice none 0 0,.slice none 0 0] 32)
 have L1:=hQQ hl1
 have L2:=hQQ hl2
 have M2:=hQQ m2
 have HP:=hQQ (h.more m2)
 have HL:=hQQ (fun W (hW:ae w2 W)=>om f P k W (HP.o.more hW))
 rw[dR P hk] at HL
 have HC:=hQQ (fun W=>nN k W)
 rw[xC hk] at HC
 have HF:=hQQ (fun W (hW:ae w2 W)=>zS f P k (P k).length W (HP.o.more hW) hk (Nat.le_refl _) hL)
 rw[List.take_length] at HF
 have FIN:Hq (∀W v,ae w2 W→Rd W v (P k++ [a])→(∀q,v.ownBlock=some q→O q∨w.heap.size≤q)→(((W.setCell ⟨w.heap.size,k,none⟩ v).setRow (w.heap.size+1) (puA (jO f k v))).heap[w.heap.size+1]?=some (.cells (puA (jO f k v)) 32 (0,0)))∧(W.setCell ⟨w.heap.size,k,none⟩ v).heap[w.heap.size]?=some (.cells (puA (jO f k v)) 32 (0,0))∧(W.setCell ⟨w.heap.size,k,none⟩ v).heap[w.heap.size+1]?=W.heap[w.heap.size+1]? ∧(puA (jO f k v)).all (·.oneCell')=true ∧
  eJ w O (fun j=>if j=k then P j++ [a] else P j) (fun v=> .tuple #[v,.bool true]) (.returned (.tuple #[.agg (puA (jO f k v)),.bool true])) ((W.setCell ⟨w.heap.size,k,none⟩ v).setRow (w.heap.size+1) (puA (jO f k v)))):=hQQ fun W v hW hv hvo=>by
  have q1:=hW.block L1.o
  have q2:=hW.block L2.o
  have q3:=heap_setCell_same W _ k _ _ v q1
  rw[Dv f hk] at q3
  have q4:(W.setCell ⟨w.heap.size,k,none⟩ v).heap[w.heap.size+1]?=W.heap[w.heap.size+1]? :=heap_setCell_other W _ _ v (by simp)
  have t1:Turned (fun j=>j=w.heap.size) W (W.setCell ⟨w.heap.size,k,none⟩ v):=Turned.setCell (Turned.refl _ W) _ _ (fun _=>rfl)
  have t2:Turned (fun j=>j=w.heap.size∨j=w.heap.size+1) W ((W.setCell ⟨w.heap.size,k,none⟩ v).setRow (w.heap.size+1) (puA (jO f k v))):=Turned.setRow (t1.mono fun _ _ q=> .inl q) _ _ (fun _=> .inr rfl)
  have hpu:Pu W (jO f k v) (fun j=>if j=k then P j++ [a] else P j):=fun c hc=>by
   unfold jO
   by_cases e:c=k
   ·subst e;simpa using hv
   ·simpa [e] using (HP.o.more hW) c hc
  have hno:PuN (fun q=>O q∨w.heap.size≤q) (jO f k v):=fun c hc q e=>by
   unfold jO at e
   by_cases z:c=k
   ·subst z;exact hvo q (by simpa using e)
   ·rw[if_neg z] at e;exact .inl (ho c hc q e)
  refine⟨setRow_heap _ _ _ _ _ _ (q4.trans q2),q3,q4,hpu.all1,_,rfl,hpu.keep t2 ?_,?_,hno⟩
  ·rintro j (rfl|rfl)
   ·exact⟨_,_,_,q1,by decide⟩
   ·exact⟨_,_,_,q2,by decide⟩
  ·exact(Turned.setCell (M2.o.trans hW) _ _ (fun q=>by simp at q)).setRow _ _ (by omega)
 have hm:=hQQ hk
 have d0:decide (l≤((P k).length:Int))=false:=by simp;omega
 obtain⟨n,hn⟩:∃n,(P k).length=n:=⟨_,rfl⟩
 have HN:=hQQ hn
 rw[hn] at HL HF d0 hL hl
 clear hn
 have HB:=hQQ (fun q e=>ho k hk q e)
 have MS:=hQQ (Nat.le_trans m2.size (Nat.le_refl _))
 clear hl1 hl2 m2 h s2 ho
 go_enter Tryz.func67,Tryz.ntmps67
 go_wp2_with (refine kY rfl rfl rfl L1.o (by kernel_rfl) ?_)
 refine(HL.o w2 (ae.refl _)).mono ?_
 rintro e w3 ⟨rfl,h3⟩
 have M3:=hQQ h3
 clear h3
 go_wp2_with fail
 refine(HC.o w3).mono ?_
 rintro e w4 ⟨rfl,h4⟩
 have M4:=hQQ (M3.o.trans h4)
 clear h4
 go_wp2_with (refine kY rfl rfl rfl (M4.o.block L1.o) (by kernel_rfl) ?_)
 refine(HF.o w4 M4.o).mono ?_
 rintro e w5 ⟨b,rfl,h5,m5,o5⟩
 have R5:=hQQ h5
 have O5:=hQQ o5
 have M5:=hQQ (M4.o.trans m5)
 clear h5 m5 o5
 go_wp2_with (first
  |(at_builtin
    refine zJ a n rfl _ _ rfl rfl R5.o (by rw[HN.o];exact hL) HN.o rfl ?_
    intro g cap w6 hg hr hm6
    have M6:=hQQ (M5.o.trans hm6)
    have F6:=hQQ (FIN.o w6 _ M6.o hr (fun q e=> .inr (by cases e;exact Nat.le_trans MS.o (Nat.le_trans M5.o.size hg))))
    have x1:=kR (M6.o.block L1.o) hk
    have x2:=frozen_of_row w6 w.heap.size k _ _ (M6.o.block L1.o)
    clear hg hr hm6 R5)
  |(refine kY rfl rfl rfl F6.o.2.1 (by kernel_rfl) ?_)
  |(refine wpList_store_row rfl 32 _ _ rfl _ _ rfl rfl 32 _ (F6.o.2.2.1.trans (M6.o.block L2.o)) (by kernel_rfl) rfl F6.o.2.2.2.1 ?_))
 refine bodyPost_ret (v:=.tuple #[.agg _,.bool true]) (xD Tryz.results67 _ _ _ 32 _ (0,0) _ rfl F6.o.1 Tryz.underlying32 rfl (by kernel_rfl)) rfl F6.o.2.2.2.2
theorem xE (O:Nat→Prop)(f:Nat→Value)(P:Nat→List Int)(c a l:Int)(w:World)(h:Pu w f P)(ho:PuN O f)(hL:∀k,k<5→(P k).length≤1000000):
 Calls Tryz.prog 67 #[.agg (puA f),.int .i64 c,.int .i64 a,.int .i64 l] w (eJ w O (ed P c a l) (fun v=> .tuple #[v,.bool (dX P c l)])):=by
 cases hb:dX P c l with
 |false =>
  have:=BU O f P c a l w h ho hb
  simpa [ed,hb] using this
 |true =>
  have hb':=hb
  simp[dX] at hb'
  obtain⟨k,rfl,hk⟩:=mS hb'.1
  rw[dR P hk] at hb'
  have:=zT O f P k a l w h ho hk hb'.2 (hL k hk)
  simpa [ed,hb] using this
theorem Fl (O:Nat→Prop)(f:Nat→Value)(P:Nat→List Int)(c:Int)(w:World)(h:Pu w f P)(ho:PuN O f)(hb:cP P c=0):
 Calls Tryz.prog 65 #[.agg (puA f),.int .i64 c] w (eJ w O P (fun v=> .tuple #[v,.int .i64 0,.bool false])):=by
 obtain⟨w2,e2,hl1,hl2,m2,s2⟩:=en2 w (.cells (puA f) 32) (.cells #[.slice none 0 0,.slice none 0 0,.slice none 0 0,.slice none 0 0,.slice none 0 0] 32)
 have L1:=hQQ hl1
 have L2:=hQQ hl2
 have M2:=hQQ m2
 have HP:=hQQ (h.more m2)
 have HL:=hQQ (fun W (hW:ae w2 W)=>om f P c W (HP.o.more hW))
 rw[hb] at HL
 have H1:=hQQ h.all1
 have FIN:Hq (∀W,ae w2 W→eJ w O P (fun v=> .tuple #[v,.int .i64 0,.bool false]) (.returned (.tuple #[.agg (puA f),.int .i64 0,.bool false])) (W.setRow (w.heap.size+1) (puA f))):=hQQ fun W hW =>
  ⟨f,rfl,(HP.o.more hW).keep (S:=fun k=>k=w.heap.size+1) (Turned.setRow (Turned.refl _ W) _ _ (fun _=>rfl)) (fun k q=>by subst q;exact⟨_,_,_,hW.block L2.o,by decide⟩),(M2.o.trans hW).setRow _ _ (by omega),ho.mono (fun _ z=> .inl z)⟩
 clear hl1 hl2 m2 h s2 ho hb
 go_enter Tryz.func65,Tryz.ntmps65
 go_wp2_with (refine kY rfl rfl rfl L1.o (by kernel_rfl) ?_)
 refine(HL.o w2 (ae.refl _)).mono ?_
 rintro e w3 ⟨rfl,h3⟩
 have M4:=hQQ h3
 clear h3
 go_wp2_with (first|(refine kY rfl rfl rfl (M4.o.block L1.o) (by kernel_rfl) ?_)|(refine wpList_store_row rfl 32 _ _ rfl _ _ rfl rfl 32 _ (M4.o.block L2.o) (by kernel_rfl) rfl H1.o ?_))
 refine bodyPost_ret (v:=.tuple #[.agg (puA f),.int .i64 0,.bool false]) (se Tryz.results65 _ _ _ 32 _ (0,0) _ rfl (setRow_heap _ _ _ _ _ _ (M4.o.block L2.o)) Tryz.underlying32 rfl (by kernel_rfl)) rfl (FIN.o _ M4.o)
theorem BV (O:Nat→Prop)(f:Nat→Value)(P:Nat→List Int)(k m:Nat)(w:World)(h:Pu w f P)(ho:PuN O f)(hk:k<5)(hm:(P k).length=m+1)(hL:m+1≤1000000):
 Calls Tryz.prog 65 #[.agg (puA f),.int .i64 k] w (eJ w O (fun j=>if j=k then(P j).take m else P j) (fun v=> .tuple #[v,.int .i64 ((P k).getD m 0),.bool true])):=by
 obtain⟨w2,e2,hl1,hl2,m2,s2⟩:=en2 w (.cells (puA f) 32) (.cells #[.slice none 0 0,.slice none 0 0,.slice none 0 0,.slice none 0 0,.slice none 0 0] 32)
 have L1:=hQQ hl1
 have L2:=hQQ hl2
 have M2:=hQQ m2
 have HP:=hQQ (h.more m2)
 have HL:=hQQ (fun W (hW:ae w2 W)=>om f P k W (HP.o.more hW))
 rw[dR P hk,hm] at HL
 have HF:=hQQ (fun W (hW:ae w2 W)=>zS f P k m W (HP.o.more hW) hk (by omega) (by omega))
 have HX:Hq (∀W,ae w2 W→∃a cap,W.cell? ⟨w.heap.size,k,none⟩=some (.slice (some ⟨a,0,none⟩) (m+1) cap)∧W.cell? ⟨a,m,none⟩=some (.int .i64 ((P k).getD m 0))):=hQQ fun W hW=>by
  obtain⟨a,cap,hf,_,hc⟩:=(HP.o.more hW k hk).cell
  obtain⟨g,rfl,hx⟩:=hc m (by omega)
  exact⟨g,cap,(kR (hW.block L1.o) hk).trans (by rw[hf,hm]),hx⟩
 have FIN:Hq (∀W v,ae w2 W→Rd W v ((P k).take m)→(∀q,v.ownBlock=some q→O q∨w.heap.size≤q)→(((W.setCell ⟨w.heap.size,k,none⟩ v).setRow (w.heap.size+1) (puA (jO f k v))).heap[w.heap.size+1]?=some (.cells (puA (jO f k v)) 32 (0,0)))∧(W.setCell ⟨w.heap.size,k,none⟩ v).heap[w.heap.size]?=some (.cells (puA (jO f k v)) 32 (0,0))∧(W.setCell ⟨w.heap.size,k,none⟩ v).heap[w.heap.size+1]?=W.heap[w.heap.size+1]? ∧(puA (jO f k v)).all (·.oneCell')=true ∧
  eJ w O (fun j=>if j=k then(P j).take m else P j) (fun v=> .tuple #[v,.int .i64 ((P k).getD m 0),.bool true]) (.returned (.tuple #[.agg (puA (jO f k v)),.int .i64 ((P k).getD m 0),.bool true])) ((W.setCell ⟨w.heap.size,k,none⟩ v).setRow (w.heap.size+1) (puA (jO f k v)))):=hQQ fun W v hW hv hvo=>by
  have q1:=hW.block L1.o
  have q2:=hW.block L2.o
  have q3:=heap_setCell_same W _ k _ _ v q1
  rw[Dv f hk] at q3
  have q4:(W.setCell ⟨w.heap.size,k,none⟩ v).heap[w.heap.size+1]?=W.heap[w.heap.size+1]? :=heap_setCell_other W _ _ v (by simp)
  have t1:Turned (fun j=>j=w.heap.size) W (W.setCell ⟨w.heap.size,k,none⟩ v):=Turned.setCell (Turned.refl _ W) _ _ (fun _=>rfl)
  have t2:Turned (fun j=>j=w.heap.size∨j=w.heap.size+1) W ((W.setCell ⟨w.heap.size,k,none⟩ v).setRow (w.heap.size+1) (puA (jO f k v))):=Turned.setRow (t1.mono fun _ _ q=> .inl q) _ _ (fun _=> .inr rfl)
  have hpu:Pu W (jO f k v) (fun j=>if j=k then(P j).take m else P j):=fun c hc=>by
   unfold jO
   by_cases e:c=k
   ·subst e;simpa using hv
   ·simpa [e] using (HP.o.more hW) c hc
  have hno:PuN (fun q=>O q∨w.heap.size≤q) (jO f k v):=fun c hc q e=>by
   unfold jO at e
   by_cases z:c=k
   ·subst z;exact hvo q (by simpa using e)
   ·rw[if_neg z] at e;exact .inl (ho c hc q e)
  refine⟨setRow_heap _ _ _ _ _ _ (q4.trans q2),q3,q4,hpu.all1,_,rfl,hpu.keep t2 ?_,?_,hno⟩
  ·rintro j (rfl|rfl)
   ·exact⟨_,_,_,q1,by decide⟩
   ·exact⟨_,_,_,q2,by decide⟩
  ·exact(Turned.setCell (M2.o.trans hW) _ _ (fun q=>by simp at q)).setRow _ _ (by omega)
 have hm0:=hQQ hk
 obtain⟨x,hx⟩:∃x,(P k).getD m 0=x:=⟨_,rfl⟩
 rw[hx] at HX FIN⊢
 have HB:=hQQ (fun q e=>ho k hk q e)
 have MS:=hQQ (Nat.le_trans m2.size (Nat.le_refl _))
 clear hl1 hl2 m2 h s2 ho hm hx
 go_enter Tryz.func65,Tryz.ntmps65
 go_wp2_with (refine kY rfl rfl rfl L1.o (by kernel_rfl) ?_)
 refine(HL.o w2 (ae.refl _)).mono ?_
 rintro e w4 ⟨rfl,h4⟩
 have M4:=hQQ h4
 obtain⟨a,cap,x1,x2⟩:=HX.o w4 h4
 clear h4
 go_wp2_with (refine kY rfl rfl rfl (M4.o.block L1.o) (by kernel_rfl) ?_)
 refine(HF.o w4 M4.o).mono ?_
 rintro e w5 ⟨b,rfl,h5,m5,o5⟩
 have M5:=hQQ (M4.o.trans m5)
 have F6:=hQQ (FIN.o w5 _ M5.o h5 (fun q e=> .inl (HB.o q (o5 q e))))
 have x3:=kR (M5.o.block L1.o) hk
 have x4:=frozen_of_row w5 w.heap.size k _ _ (M5.o.block L1.o)
 clear h5 m5 o5 x1 x2
 go_wp2_with (first
  |(refine kY rfl rfl rfl F6.o.2.1 (by kernel_rfl) ?_)
  |(refine wpList_store_row rfl 32 _ _ rfl _ _ rfl rfl 32 _ (F6.o.2.2.1.trans (M5.o.block L2.o)) (by kernel_rfl) rfl F6.o.2.2.2.1 ?_))
 refine bodyPost_ret (v:=.tuple #[.agg _,.int .i64 x,.bool true]) (se Tryz.results65 _ _ _ 32 _ (0,0) _ rfl F6.o.1 Tryz.underlying32 rfl (by kernel_rfl)) rfl F6.o.2.2.2.2
theorem IM (O:Nat→Prop)(f:Nat→Value)(P:Nat→List Int)(c:Int)(w:World)(h:Pu w f P)(ho:PuN O f)(hL:∀k,k<5→(P k).length≤1000000):
 Calls Tryz.prog 65 #[.agg (puA f),.int .i64 c] w (eJ w O (ib P c) (fun v=> .tuple #[v,.int .i64 (iv P c),.bool (gY P c)])):=by
 cases hb:gY P c with
 |false =>
  have h0:cP P c=0:=by simp[gY] at hb;unfold cP at *;split at hb<;>simp_all
  have:=Fl O f P c w h ho h0
  simpa [ib,iv,hb] using this
 |true =>
  have hb':=hb
  simp[gY] at hb'
  have hc:jh c=true:=by
   cases q:jh c with
   |true=>rfl
   |false=>rw[Dw P q] at hb';omega
  obtain⟨k,rfl,hk⟩:=mS hc
  rw[dR P hk] at hb'
  obtain⟨m,hm⟩:∃m,(P k).length=m+1:=⟨(P k).length-1,by omega⟩
  have:=BV O f P k m w h ho hk hm (by have:=hL k hk;omega)
  have e1:iv P k=(P k).getD m 0:=by simp[iv,hb,hm]
  have e2:ib P k=fun j=>if j=k then(P j).take m else P j:=by
   unfold ib
   rw[if_pos hb]
   funext j
   by_cases e:j=k
   ·subst e;simp[hm]
   ·simp[e]
  rw[e1,e2]
  exact this
def cS (F:Nat→Prop)(w:World)(f:Nat→Value)(P:Nat→List Int):Prop:=Pu w f P∧PuN (fun q=>¬F q) f
theorem cS.nil (F:Nat→Prop)(w:World):cS F w (fun _=> .slice none 0 0) (fun _=> []):=⟨fun _ _=>Rd.nil w,PuN.nil _⟩
theorem cS.more {F:Nat→Prop}{w w':World}{f:Nat→Value}{P:Nat→List Int}(h:cS F w f P)(m:ae w w'):cS F w' f P:=⟨h.1.more m,h.2⟩
theorem cS.stay {F F1:Nat→Prop}{w w':World}{f:Nat→Value}{P:Nat→List Int}(h:cS F w f P)(s:∀b o,¬F b→w.heap[b]?=some o→w'.heap[b]?=some o)(n:∀b,F1 b→F b∨w.heap.size≤b):cS F1 w' f P:=by
 refine⟨fun c hc=>?_,fun c hc q e z=>?_⟩
 ·obtain⟨a,cap,hv,h1,h2,z⟩:=h.1 c hc
  refine⟨a,cap,hv,h1,h2,z.imp id ?_⟩
  rintro⟨g,cur,rfl,hg,r⟩
  exact⟨g,cur,rfl,s _ _ (h.2 c hc g (by rw[hv];rfl)) hg,r⟩
 ·rcases n q z with r|r
  ·exact h.2 c hc q e r
  ·have:=h.1.lt c hc q e
   omega
theorem cS.keep {F:Nat→Prop}{w w':World}{f:Nat→Value}{P:Nat→List Int}(h:cS F w f P){S:Nat→Prop}(t:Turned S w w')(hs:∀k,S k→∃cs T fr,w.heap[k]?=some (.cells cs T fr)∧T≠3):cS F w' f P:=⟨h.1.keep t hs,h.2⟩
theorem cS.stayN {F F1 N:Nat→Prop}{w w':World}{f:Nat→Value}{P:Nat→List Int}(h:cS (fun q=>N q∨F q) w f P)(s:∀b o,¬F b→w.heap[b]?=some o→w'.heap[b]?=some o)(n:∀b,F1 b→F b∨w.heap.size≤b):cS (fun q=>N q∨F1 q) w' f P :=
 h.stay (fun b o nb hb=>s b o (fun q=>nb (.inr q)) hb) (fun b q=>by
  rcases q with q|q
  ·exact .inl (.inl q)
  ·exact(n b q).imp .inr id)
theorem eJ.at {F:Nat→Prop}{w w':World}{P:Nat→List Int}{val:Value→Value}{e:Ending}(h:eJ w (fun q=>¬F q) P val e w')(l:∀q,F q→q<w.heap.size):∃f,e=.returned (val (.agg (puA f)))∧cS F w' f P∧ae w w':=by
 obtain⟨f,e1,h1,m1,n1⟩:=h
 refine⟨f,e1,⟨h1,n1.mono fun q z y=>?_⟩,m1⟩
 rcases z with z|z
 ·exact z y
 ·have:=l q y;omega
def iV {α:Type}(w:World)(F N:Nat→Prop)(p:Nat)(kn:Int→Option Int)(val:α→Value→Value)(R:Res (α×(Nat→List Int)))(e:Ending)(w':World):Prop :=
 match R with
 | .need a=>vq w F p a e w'
 | .ok x D=>∃f F',e=.returned (val x.1 (.agg (puA f)))∧aF w' F' p kn D∧Turned F w w'∧(∀k,F' k→F k∨w.heap.size≤k)∧cS (fun q=>N q∨F' q) w' f x.2
theorem MidV.stepP {α:Type}{W wr w1 w2:World}{F S F' N:Nat→Prop}{p n:Nat}{kn:Int→Option Int}{D:List KV}{val:α→Value→Value}{Q:(α×(Nat→List Int))→Prop}{pr:Prg (α×(Nat→List Int))}{e:Ending}(h:MidV W wr F S p kn n D F')(m:ae wr w1)(hk:OkK kn)(G:bZ n Q pr)(he:iV w1 F' N p kn val (pr kn D) e w2):
 (∃a,pr kn D=.need a∧e=.panicked (bB p)∧bJ w2 p a∧Turned (fun b=>F b∨S b) W w2∧∀b o,¬F' b→wr.heap[b]?=some o→w2.heap[b]?=some o) ∨
 (∃x f D1 F1,pr kn D=.ok x D1∧e=.returned (val x.1 (.agg (puA f)))∧MidV W w2 F S p kn n D1 F1∧cS (fun q=>N q∨F1 q) w2 f x.2∧Q x∧(∀b o,¬F' b→wr.heap[b]?=some o→w2.heap[b]?=some o)∧∀b,F1 b→F' b∨wr.heap.size≤b):=by
 have hm:=h.more m
 have hs:=m.size
 have hK:∀t,Turned F' w1 t→∀b o,¬F' b→wr.heap[b]?=some o→t.heap[b]?=some o:=fun t ht b o nb hb=>(ht.block b (ac (m.block hb)) nb).trans (m.block hb)
 cases hE:pr kn D with
 |need a =>
  rw[hE] at he
  obtain⟨h1,h2,h3⟩:=he
  exact .inl ⟨a,rfl,h1,h2,ak hm.turn h3 (fun k q=>(h.from' k q).imp .inl id),hK _ h3⟩
 |ok x D1 =>
  rw[hE] at he
  obtain⟨f,F1,h1,hv,ht,hn,hp⟩:=he
  obtain⟨i1,q1⟩:=G.ok hk h.inv hE
  refine .inr ⟨x,f,D1,F1,rfl,h1,⟨hv,fun k q=>?_,ak hm.turn ht (fun k q=>(h.from' k q).imp .inl id),i1⟩,hp,q1,hK _ ht,fun b q=>(hn b q).imp id (fun r=>by omega)⟩
  rcases hn k q with r|r
  ·exact h.from' k r
  ·have:=hm.size;exact .inr (by omega)
attribute [local go_sem] Oper.semAt_some
theorem rE {o:Oper}{a:Act}{w:World}{K:Act→World→Prop}{Q:Exit→Act→World→Prop}(ho:o.op=.alloc 32)(h:K (a.put o.dst (.pointer (some ⟨w.heap.size,0,none⟩))) (w.alloc (.cells #[.slice none 0 0,.slice none 0 0,.slice none 0 0,.slice none 0 0,.slice none 0 0] 32))):Oper.wp Tryz.prog o a w K Q:=by
 unfold Oper.wp Oper.upon execOp
 simp only[ho]
 generalize a.eval=ρ
 go_simp
 exact h
theorem AG.skipN {m:Nat}{a:Act}{L:List (Nat×Value)}(h:AG m a L)(v:Value):AG m (a.put none v) L:=h
def PuF (O:Nat→Prop)(w:World)(f:Nat→Value)(P:Nat→List Int):Prop:=Pu w f P∧PuN O f
theorem PuF.more {O:Nat→Prop}{w w':World}{f:Nat→Value}{P:Nat→List Int}(h:PuF O w f P)(m:ae w w'):PuF O w' f P:=⟨h.1.more m,h.2⟩
theorem PuF.keep {O:Nat→Prop}{w w':World}{f:Nat→Value}{P:Nat→List Int}(h:PuF O w f P){S:Nat→Prop}(t:Turned S w w')(hs:∀k,S k→∃cs T fr,w.heap[k]?=some (.cells cs T fr)∧T≠3):PuF O w' f P:=⟨h.1.keep t hs,h.2⟩
structure LsS where
 i:Nat
 P:Nat→List Int
 D:List KV
 F:Nat→Prop
 a:Int
def MU (f:Nat→Value)(q:Nat):Prop:=∃c,c<5∧(f c).ownBlock=some q
def BX (nb qb cb pb:Nat)(m:Nat)(k:Int):xX LsS where
 enc s:= #[.int .i64 s.a]
 See s A:=eF A nb m∧A.heap[qb]?=some (.cells #[.pointer (some ⟨pb,0,none⟩)] 102 (0,0))∧eF A cb k∧∃f,A.heap[pb]?=some (.cells (puA f) 32 (0,0))∧Pu A f s.P∧∀j,j<5→(s.P j).length≤1000000
 Own s s' A B:=s.i<m∧gY s.P k=true∧s'=⟨s.i+1,ib s.P k,s.D,s.F,iv s.P k⟩∧∃f f',A.heap[pb]?=some (.cells (puA f) 32 (0,0))∧B.heap[pb]?=some (.cells (puA f') 32 (0,0))∧Turned (fun q=>q=pb) A B∧Pu B f' (ib s.P k)∧PuN (fun q=>MU f q∨A.heap.size≤q) f'
 Fin s s' A B:=s'=s∧(m≤s.i∨gY s.P k=false)∧ae A B
 Ned _ _ _ _:=False
 Skp _ _ _ _:=False
 Rel s s' _ _:=s'.i=s.i
theorem Ca (q:Nat)(hq:1≤q)(nb qb cb pb:Nat)(m:Nat)(hm:m≤1000000)(k:Int)(s0:LsS)(w0:World)(h00:s0.i=0):
 Al (BX nb qb cb pb m k) Fence.wide q Tryz.prog 85 #[.pointer (some ⟨nb,0,none⟩),.pointer (some ⟨qb,0,none⟩),.pointer (some ⟨cb,0,none⟩)] s0 w0:=by
 intro l J J' Je Jx W hW mJ mJ' mJe mJx hsee hown hfin hned hskp hY h0
 have HSEE:=hQQ hsee
 have HOWN:=hQQ hown
 have HFIN:=hQQ hfin
 have HY:=hQQ hY
 have HJ0:=hQQ h0
 have bn:=(hsee _ _ h0).1
 have cn:=(aA bn).1
 clear hW mJ mJ' mJe mJx hsee hown hfin hned hskp hY h0 bn
 refine callsIn_of_wp Tryz.func85 rfl trivial ?_ rfl
 simp only[Tryz.ntmps85,List.size_toArray,List.length_cons,List.length_nil,Nat.reduceAdd,Nat.reduceSub,Array.replicate_succ,Array.replicate_zero,List.push_toArray,List.append_toArray,List.nil_append,List.cons_append]
 gi_wp2
 clear cn
 gi_loopw [9] (fun u wr=>∃(i:Nat) (s:LsS),i≤m∧u=.int .i64 (i:Int)∧s.i=i∧J s wr) (fun u _=>m-(intOf u).toNat)
 case atStart=>exact⟨0,s0,Nat.zero_le _,rfl,h00,HJ0.o⟩
 case round =>
  obtain⟨i,s,hi,rfl,hsi,hJ⟩:=hrel
  by_cases hlt:i<m
  ·have d1:decide ((i:Int)<(m:Int))=true:=by simp;omega
   have q3:IntKind.i64.wrap ((i:Int)+1)=(i:Int)+1:=aB (by omega) (by omega)
   obtain⟨_,sq,sc,f,bp,pu,hl⟩:=HSEE.o s wr hJ
   have HJ1:=hQQ hJ
   have BQ:=hQQ sq
   have CQ:=hQQ (aA sq).1
   have BC:=hQQ sc
   have BP:=hQQ bp
   have HI:=hQQ (show s.i<m by omega)
   have HSI:=hQQ hsi
   obtain⟨OO,hOO⟩:∃OO:Nat→Prop,(fun q=>MU f q∨wr.heap.size≤q)=OO:=⟨_,rfl⟩
   have CL:Hq (∀W,ae wr W→Calls Tryz.prog 65 #[.agg (puA f),.int .i64 k] W (fun e W'=>∃f',e=.returned (.tuple #[.agg (puA f'),.int .i64 (iv s.P k),.bool (gY s.P k)])∧PuF OO W' f' (ib s.P k)∧ae W W')):=hQQ fun W hW=>(IM (MU f) f s.P k W (pu.more hW) (fun c hc q e=>⟨c,hc,e⟩) hl).mono fun e W' ⟨f',e1,h1,m1,n1⟩=>⟨f',e1,⟨h1,by rw[←hOO];exact n1.mono fun q z=>z.imp id (fun y=>Nat.le_trans hW.size y)⟩,m1⟩
   have HO:=hQQ hOO
   obtain⟨X,hX⟩:∃X,iv s.P k=X:=⟨_,rfl⟩
   obtain⟨B,hB⟩:∃B,gY s.P k=B:=⟨_,rfl⟩
   obtain⟨PN,hP⟩:∃PN,ib s.P k=PN:=⟨_,rfl⟩
   rw[hX,hB,hP] at CL
   have HX:=hQQ hX
   have HB:=hQQ hB
   have HP:=hQQ hP
   clear hX hB hP hOO bp pu hl sq sc hJ hsi
   gi_wp2
   refine wpIn_wide.2 ?_
   refine aO (ae wr) (by kernel_rfl) ?_
   change dg _ _ _ _ _ _ _ _ (wr.drewN 1)
   have MR:Hq (ae wr (wr.drewN 1)):=hQQ ((ae.refl wr).drewN 1)
   generalize wr.drewN 1=wq at MR⊢
   generalize hA:Act.mk _ _=A
   have HF:AG 30 A [(0,.func (.yield l) #[] #[]),(1,.pointer (some ⟨nb,0,none⟩)),(2,.pointer (some ⟨qb,0,none⟩)),(3,.pointer (some ⟨cb,0,none⟩)),(8,.int .i64 (m:Int)),(9,.int .i64 (i:Int))]:=by
    rw[←hA];try simp only[pts,List.foldl]
    refine⟨⟨Nat.le_of_ble_eq_true rfl,rfl⟩,?_⟩
    intro z hz;simp only[List.mem_cons,List.not_mem_nil,or_false] at hz;rcases hz with rfl|rfl|rfl|rfl|rfl|rfl<;>rfl
   refine bL (fun a W=>∃(u12 u13 u14 u15 u16 u11 u17 u18 u19:Value) (g:Nat) (f9:Nat→Value),(a=(Act.put (Act.put (Act.put (pts A [(12,u12),(13,u13),(14,u14),(15,u15),(16,u16),(11,u11),(17,u17),(18,u18),(19,u19),(5,.pointer (some ⟨g,0,none⟩))]) none undef) (some 6) (.int .i64 X)) (some 7) (.bool B))∨a=(Act.put (Act.put (Act.put (pts A [(12,u12),(13,u13),(14,u14),(15,u15),(5,.pointer (some ⟨g,0,none⟩)),(16,u16),(11,u11),(17,u17),(18,u18),(19,u19)]) none undef) (some 6) (.int .i64 X)) (some 7) (.bool B)))∧W.heap[g]?=some (.cells (puA f9) 32 (0,0))∧PuF OO W f9 PN∧ae wr W∧wr.heap.size≤g) (fun _=>False) [] (fun a W hd h=>h.elim) (fun _ _ _ _ _ h=>h) ?_ ?_
   ·skip
    rintro a9 wa ⟨u12,u13,u14,u15,u16,u11,u17,u18,u19,g,f9,hn,h9,p9,m9,hg9⟩
    have E:(Act.put (Act.put (Act.put (pts A [(12,u12),(13,u13),(14,u14),(15,u15),(5,.pointer (some ⟨g,0,none⟩)),(16,u16),(11,u11),(17,u17),(18,u18),(19,u19)]) none undef) (some 6) (.int .i64 X)) (some 7) (.bool B))=(Act.put (Act.put (Act.put (pts A [(12,u12),(13,u13),(14,u14),(15,u15),(16,u16),(11,u11),(17,u17),(18,u18),(19,u19),(5,.pointer (some ⟨g,0,none⟩))]) none undef) (some 6) (.int .i64 X)) (some 7) (.bool B)):=by rw[←hA];kernel_rfl
    have hn:a9=(Act.put (Act.put (Act.put (pts A [(12,u12),(13,u13),(14,u14),(15,u15),(16,u16),(11,u11),(17,u17),(18,u18),(19,u19),(5,.pointer (some ⟨g,0,none⟩))]) none undef) (some 6) (.int .i64 X)) (some 7) (.bool B)):=by
     rcases hn with q|q
     ·exact q
     ·exact q.trans E
    subst hn
    rw[←hA];try simp only[pts,List.foldl]
    have H9:=hQQ h9
    have P9:=hQQ p9
    have M9:=hQQ m9
    have BQ9:=hQQ (m9.block BQ.o)
    have BP9:=hQQ (m9.block BP.o)
    clear HF hA MR E h9 p9 hg9 m9 CL CQ hn
    go_simp
    cases B with
    |false =>
     have FI:=hQQ (HFIN.o s s wr wa HJ1.o ⟨rfl,.inr HB.o,M9.o⟩)
     gi_wp2
     refine bodyPost_ret (results_none rfl _ _ _) rfl ?_
     exact .inl ⟨⟨_,rfl⟩,.inl ⟨s,FI.o⟩⟩
    |true =>
     obtain⟨wb,eb⟩:∃wb,wa.setRow pb (puA f9)=wb:=⟨_,rfl⟩
     have hb9:wb.heap[pb]?=some (.cells (puA f9) 32 (0,0)):=by rw[←eb];exact setRow_heap _ _ _ _ _ _ BP9.o
     have t9:Turned (fun z=>z=pb) wr wb:=by rw[←eb];exact(M9.o.mono (fun _ _ q=>q.elim)).setRow _ _ (fun _=>rfl)
     have pu9:PuF OO wb f9 PN:=by rw[←eb];exact PuF.keep P9.o (S:=fun z=>z=pb) (Turned.setRow (Turned.refl _ _) _ _ (fun _=>rfl)) (fun z q=>by subst q;exact⟨_,_,_,BP9.o,by decide⟩)
     have J9:=hQQ (HOWN.o s _ wr wb HJ1.o ⟨HI.o,HB.o,rfl,f,f9,BP.o,hb9,t9,by rw[HP.o];exact pu9.1,by rw[HO.o];exact pu9.2⟩)
     have cq9:=(aA BQ9.o).1
     have y9:=HY.o _ wb J9.o
     rw[show(BX nb qb cb pb m k).enc ⟨s.i+1,ib s.P k,s.D,s.F,iv s.P k⟩= #[.int .i64 X] by rw[←HX.o];rfl] at y9
     obtain⟨fn,tmps,assign,body,hy,hR⟩:=y9
     clear hb9 t9 pu9
     gi_wp2_with (first
      |(refine ej rfl 32 _ rfl g rfl 32 _ _ _ H9.o Tryz.underlying32 rfl (by kernel_rfl) ?_)
      |(refine jF rfl 32 _ _ rfl pb rfl (puA f9) rfl 32 _ BP9.o (by kernel_rfl) rfl (Pu.all1 P9.o.1) ?_;rw[eb]))
     refine hR.mono ?_
     rintro e W3 (⟨rfl,s',hrel',hJ3⟩|⟨he,hJx3⟩)
     ·have HJ3:=hQQ hJ3
      have HR3:=hQQ hrel'
      clear hJ3 hrel' hy hR cq9 eb
      gi_wp2
      go_roundw
      case rel=>exact⟨i+1,s',by omega,by go_num,by have h3:s'.i=s.i+1:=HR3.o;have:=HSI.o;omega,HJ3.o⟩
      case measure=>simp[intOf];omega
     ·rcases he with rfl|⟨ch,rfl⟩
      ·gi_wp2
       refine bodyPost_ret (results_none rfl _ _ _) rfl ?_
       exact .inl ⟨⟨_,rfl⟩,.inr hJx3⟩
      ·exact⟨rfl,.inr ⟨ch,rfl,hJx3⟩⟩
   intro QQ FINE FIND FINQ
   clear hA
   refine tqC 0 12 (.pointer (some ⟨pb,0,none⟩)) (by kernel_rfl) FINQ MR.o HF (by exact fd (ab rfl) 102 _ rfl qb 0 (HF.get 2 rfl) (.pointer (some ⟨pb,0,none⟩)) _ Tryz.underlying102 rfl (fun W hW=>hW.cell CQ.o)) fun A β1 HF=>?_
   refine tqC 1 13 (.pointer (some ⟨pb,0,none⟩)) (by kernel_rfl) FINQ MR.o HF (by exact(Or.inl ⟨(ab rfl),fun W hW=>by have h5:=(HF.getD 0 rfl);go_simp⟩)) fun A β2 HF=>?_
   refine tqC 2 14 (.agg (puA f)) (by kernel_rfl) FINQ MR.o HF (by exact aD (ab rfl) 32 _ rfl pb (HF.get 0 rfl) 32 _ _ _ (fun W hW=>hW.block BP.o) Tryz.underlying32 rfl (by kernel_rfl)) fun A β3 HF=>?_
   refine tqC 3 15 (.int .i64 k) (by kernel_rfl) FINQ MR.o HF (by exact dV (ab rfl) _ rfl cb (HF.get 6 rfl) _ (fun W hW=>hW.block BC.o)) fun A β4 HF=>?_
   refine kE (i:=4) (j:=9) (some 16) (some 5) (by kernel_rfl) rfl rfl (ab rfl) (ab rfl) rfl rfl (fun K hK=>?_) (fun K hK=>?_)
   ·refine bO rfl (HF.get 1 rfl) (HF.get 0 rfl) (enters_of Tryz.func65 (by kernel_rfl) rfl) ?_
    refine(CL.o wq MR.o).mono ?_
    rintro e w7 ⟨f7,rfl,h7,m7⟩
    have P7:=hQQ h7
    have M7:=hQQ (MR.o.trans m7)
    refine hK _ _ M7.o ?_
    clear hK K m7
    replace HF:=HF.put 16 (.tuple #[.agg (puA f7),.int .i64 X,.bool B]) (by decide) rfl
    generalize β5:Act.put _ _ _=A at HF⊢
    refine tqM 5 11 0 rfl (.inl rfl) rfl (by kernel_rfl) FINQ M7.o HF fun A β6 HF=>?_
    refine tqC 6 17 (.agg (puA f7)) (by kernel_rfl) FINQ M7.o HF (by exact(Or.inl ⟨(ab rfl),fun W hW=>by have h5:=(HF.getD 0 rfl);go_simp⟩)) fun A β7 HF=>?_
    refine tqC 7 18 (.int .i64 X) (by kernel_rfl) FINQ M7.o HF (by exact(Or.inl ⟨(ab rfl),fun W hW=>by have h5:=(HF.getD 1 rfl);go_simp⟩)) fun A β8 HF=>?_
    refine tqC 8 19 (.bool B) (by kernel_rfl) FINQ M7.o HF (by exact(Or.inl ⟨(ab rfl),fun W hW=>by have h5:=(HF.getD 2 rfl);go_simp⟩)) fun A β9 HF=>?_
    refine bo (i:=9) (some 5) (by kernel_rfl) rfl (ab rfl) rfl (fun K hK=>?_)
    refine rE rfl ?_
    obtain⟨w8,e8,z8,m8,s8⟩:=en1 w7 (.cells #[.slice none 0 0,.slice none 0 0,.slice none 0 0,.slice none 0 0,.slice none 0 0] 32)
    rw[e8]
    have M8:=hQQ (M7.o.trans m8)
    refine hK _ _ M8.o ?_
    clear hK K e8
    replace HF:=HF.put 5 (.pointer (some ⟨w7.heap.size,0,none⟩)) (by decide) rfl
    generalize β10:Act.put _ _ _=A at HF⊢
    have GE:wr.heap.size≤w7.heap.size:=M7.o.size
    have MF:Hq (ae wr (w8.setRow w7.heap.size (puA f7))):=hQQ (M8.o.setRow _ _ GE)
    refine bo (i:=10) none (by kernel_rfl) rfl (ab rfl) rfl (fun K hK=>?_)
    refine wp_store_row 32 _ _ rfl (w7.heap.size) _ (HF.get 0 rfl) (HF.get 3 rfl) 32 _ z8 (by kernel_rfl) rfl (Pu.all1 (P7.o.more m8).1) ?_
    refine hK _ _ MF.o ?_
    clear hK K
    replace HF:=HF.skipN undef
    generalize hBN:Act.put _ none undef=A at HF⊢
    refine tqM 11 6 2 rfl (.inr rfl) rfl (by kernel_rfl) FINQ MF.o HF fun A β12 HF=>?_
    refine tqM 12 7 2 rfl (.inr rfl) rfl (by kernel_rfl) FINQ MF.o HF fun A β13 HF=>?_
    exact bU (by kernel_rfl) (FINE _ _ ⟨(.pointer (some ⟨pb,0,none⟩)),(.pointer (some ⟨pb,0,none⟩)),(.agg (puA f)),(.int .i64 k),(.tuple #[.agg (puA f7),.int .i64 X,.bool B]),(.tuple #[.agg (puA f7),.int .i64 X,.bool B]),(.agg (puA f7)),(.int .i64 X),(.bool B),w7.heap.size,f7,Or.inl (by rw[← β13,← β12,←hBN,← β10,← β9,← β8,← β7,← β6,← β5,← β4,← β3,← β2,← β1]<;>rfl),setRow_heap _ _ _ _ _ _ z8,(PuF.keep (P7.o.more m8) (S:=fun k=>k=w7.heap.size) (Turned.setRow (Turned.refl _ _) _ _ (fun _=>rfl)) (fun k q=>by subst q;exact⟨_,_,_,z8,by decide⟩)),MF.o,GE⟩)
   ·refine rE rfl ?_
    obtain⟨w7,e7,z7,m7,s7⟩:=en1 wq (.cells #[.slice none 0 0,.slice none 0 0,.slice none 0 0,.slice none 0 0,.slice none 0 0] 32)
    rw[e7]
    have M7:=hQQ (MR.o.trans m7)
    refine hK _ _ M7.o ?_
    clear hK K e7
    replace HF:=HF.put 5 (.pointer (some ⟨wq.heap.size,0,none⟩)) (by decide) rfl
    generalize β5:Act.put _ _ _=A at HF⊢
    refine tqO 4 16 (by kernel_rfl) HF fun K hK=>?_
    refine bO rfl (HF.get 2 rfl) (HF.get 1 rfl) (enters_of Tryz.func65 (by kernel_rfl) rfl) ?_
    refine(CL.o w7 M7.o).mono ?_
    rintro e w8 ⟨f8,rfl,h8,m8⟩
    have P8:=hQQ h8
    have M8:=hQQ (M7.o.trans m8)
    refine hK _ _ M8.o fun A β6 HF=>?_
    clear hK K
    refine tqM 5 11 0 rfl (.inl rfl) rfl (by kernel_rfl) FINQ M8.o HF fun A β7 HF=>?_
    refine tqC 6 17 (.agg (puA f8)) (by kernel_rfl) FINQ M8.o HF (by exact(Or.inl ⟨(ab rfl),fun W hW=>by have h5:=(HF.getD 0 rfl);go_simp⟩)) fun A β8 HF=>?_
    refine tqC 7 18 (.int .i64 X) (by kernel_rfl) FINQ M8.o HF (by exact(Or.inl ⟨(ab rfl),fun W hW=>by have h5:=(HF.getD 1 rfl);go_simp⟩)) fun A β9 HF=>?_
    refine tqC 8 19 (.bool B) (by kernel_rfl) FINQ M8.o HF (by exact(Or.inl ⟨(ab rfl),fun W hW=>by have h5:=(HF.getD 2 rfl);go_simp⟩)) fun A β10 HF=>?_
    have GE:wr.heap.size≤wq.heap.size:=MR.o.size
    have MF:Hq (ae wr (w8.setRow wq.heap.size (puA f8))):=hQQ (M8.o.setRow _ _ GE)
    refine bo (i:=10) none (by kernel_rfl) rfl (ab rfl) rfl (fun K hK=>?_)
    refine wp_store_row 32 _ _ rfl (wq.heap.size) _ (HF.get 5 rfl) (HF.get 2 rfl) 32 _ (m8.block z7) (by kernel_rfl) rfl (Pu.all1 P8.o.1) ?_
    refine hK _ _ MF.o ?_
    clear hK K
    replace HF:=HF.skipN undef
    generalize hBN:Act.put _ none undef=A at HF⊢
    refine tqM 11 6 1 rfl (.inr rfl) rfl (by kernel_rfl) FINQ MF.o HF fun A β12 HF=>?_
    refine tqM 12 7 1 rfl (.inr rfl) rfl (by kernel_rfl) FINQ MF.o HF fun A β13 HF=>?_
    exact bU (by kernel_rfl) (FINE _ _ ⟨(.pointer (some ⟨pb,0,none⟩)),(.pointer (some ⟨pb,0,none⟩)),(.agg (puA f)),(.int .i64 k),(.tuple #[.agg (puA f8),.int .i64 X,.bool B]),(.tuple #[.agg (puA f8),.int .i64 X,.bool B]),(.agg (puA f8)),(.int .i64 X),(.bool B),wq.heap.size,f8,Or.inr (by rw[← β13,← β12,←hBN,← β10,← β9,← β8,← β7,← β6,← β5,← β4,← β3,← β2,← β1]<;>rfl),setRow_heap _ _ _ _ _ _ (m8.block z7),(PuF.keep P8.o (S:=fun k=>k=wq.heap.size) (Turned.setRow (Turned.refl _ _) _ _ (fun _=>rfl)) (fun k q=>by subst q;exact⟨_,_,_,(m8.block z7),by decide⟩)),MF.o,GE⟩)
  ·have hi2:m≤s.i:=by omega
   have d1:decide ((i:Int)<(m:Int))=false:=by simp;omega
   have FI:=hQQ (HFIN.o s s wr wr hJ ⟨rfl,.inl hi2,ae.refl _⟩)
   gi_wp2
   go_end0
   exact .inl ⟨⟨_,rfl⟩,.inl ⟨s,FI.o⟩⟩
section
variable {n:Nat}(F:Nat→Prop)(p:Nat)(kn:Int→Option Int)(D:List KV)(w:World)(hv:aF w F p kn D)(hk:OkK kn)(hD:cI n D)
include hv hk hD
theorem KA {b l:Int}(HS:eQ b l n){a:Int}(ha:W64 a)(vb sb:Nat)(h1:w.heap[vb]?=some (.cells #[.pointer (some ⟨p,0,none⟩)] 43 (0,0)))(h2:w.heap[sb]?=some (.cells #[.int .i64 b,.int .i64 l] 96 (0,0))):
 Calls Tryz.prog 103 #[.int .i64 a,.pointer (some ⟨vb,0,none⟩),.pointer (some ⟨sb,0,none⟩)] w (aI w F p kn (fun b:Bool=> .bool b) (j4 b l a kn D)):=by
 have K:=hQQ (Kz HS F p kn D a ha w hv hk hD)
 have c1:=(aA h1).1
 obtain⟨c2,c3⟩:=nU h2
 clear hv hk hD h1 h2 HS ha
 go_enter Tryz.func103,Tryz.ntmps103
 go_wp2_with fail
 refine K.o.mono ?_
 intro e w1 he
 have FIN:=hQQ he
 rcases jG he with⟨a',_,rfl⟩|⟨x,D',_,rfl⟩
 ·exact⟨rfl,FIN.o⟩
 ·clear he
  go_wp2_with fail
  go_ret
  exact FIN.o
theorem KE {c:Cfg}(R:c.Ok)(H:cF c.pg c.st n)(hn:n≤10000)(bt:Nat)(hs:dh bt w)(nF0:¬F 0)(nFb:¬F bt)(a:Int)(vb lb:Nat)(h1:w.heap[vb]?=some (.cells #[.pointer (some ⟨p,0,none⟩)] 43 (0,0)))(h2:w.heap[lb]?=some (.cells c.arr 28 (0,0))):
 Calls Tryz.prog 86 #[.int .i64 a,.pointer (some ⟨vb,0,none⟩),.pointer (some ⟨lb,0,none⟩)] w (aI w F p kn (fun b:Bool=> .bool b) (rr c.us c.pg c.st a kn D)):=by
 have K:=hQQ (Io R H hn F p kn D a w hv hk hD bt hs nF0 nFb)
 have c1:=(aA h1).1
 have H2:=hQQ h2
 clear hv hk hD h1 h2 H R hs nF0 nFb
 go_enter Tryz.func86,Tryz.ntmps86
 go_wp2_with (refine aM rfl rfl rfl H2.o (by kernel_rfl) ?_)
 refine K.o.mono ?_
 intro e w1 he
 have FIN:=hQQ he
 rcases jG he with⟨a',_,rfl⟩|⟨x,D',_,rfl⟩
 ·exact⟨rfl,FIN.o⟩
 ·clear he
  go_wp2_with fail
  go_ret
  exact FIN.o
end
theorem zq0 (p:Nat)(b l:Int)(w:World):Calls Tryz.prog 73 #[.pointer (some ⟨p,0,none⟩),.agg #[.int .i64 b,.int .i64 l]] w fun e w' =>
 e=.returned (.func (.func 103) #[] #[.pointer (some ⟨w.heap.size,0,none⟩),.pointer (some ⟨w.heap.size+1,0,none⟩)])∧w'=(w.alloc (.cells #[.pointer (some ⟨p,0,none⟩)] 43)).alloc (.cells #[.int .i64 b,.int .i64 l] 96):=by
 go_enter Tryz.func73,Tryz.ntmps73
 go_wp2_with fail
 go_ret
 exact⟨rfl,rfl⟩
theorem Cb (p:Nat)(c:Cfg)(w:World):Calls Tryz.prog 49 #[.pointer (some ⟨p,0,none⟩),.agg c.arr] w fun e w' =>
 e=.returned (.func (.func 86) #[] #[.pointer (some ⟨w.heap.size,0,none⟩),.pointer (some ⟨w.heap.size+1,0,none⟩)])∧w'=(w.alloc (.cells #[.pointer (some ⟨p,0,none⟩)] 43)).alloc (.cells c.arr 28):=by
 go_enter Tryz.func49,Tryz.ntmps49
 go_wp2_with fail
 go_ret
 exact⟨rfl,rfl⟩
theorem DE (pb:Nat)(k m:Int)(w:World):Calls Tryz.prog 48 #[.pointer (some ⟨pb,0,none⟩),.int .i64 k,.int .i64 m] w fun e w' =>
 e=.returned (.func (.func 85) #[] #[.pointer (some ⟨w.heap.size+2,0,none⟩),.pointer (some ⟨w.heap.size,0,none⟩),.pointer (some ⟨w.heap.size+1,0,none⟩)])∧w'=((w.alloc (.cells #[.pointer (some ⟨pb,0,none⟩)] 102)).alloc (.cells #[.int .i64 k] 3)).alloc (.cells #[.int .i64 m] 3):=by
 go_enter Tryz.func48,Tryz.ntmps48
 go_wp2_with fail
 go_ret
 exact⟨rfl,rfl⟩
theorem ur (p:Nat)(v:Option Addr)(len cap:Nat)(w:World):Calls Tryz.prog 50 #[.pointer (some ⟨p,0,none⟩),.slice v len cap] w fun e w' =>
 e=.returned (.func (.func 88) #[] #[.pointer (some ⟨w.heap.size+1,0,none⟩),.pointer (some ⟨w.heap.size,0,none⟩)])∧w'=(w.alloc (.cells #[.pointer (some ⟨p,0,none⟩)] 43)).alloc (.cells #[.slice v len cap] 93):=by
 go_enter Tryz.func50,Tryz.ntmps50
 go_wp2_with fail
 go_ret
 exact⟨rfl,rfl⟩
theorem Fm (p:Nat)(c:Cfg)(k:Int)(w:World):Calls Tryz.prog 97 #[.pointer (some ⟨p,0,none⟩),.agg c.arr,.int .i64 k] w fun e w' =>
 e=.returned (.func (.func 122) #[] #[.pointer (some ⟨w.heap.size,0,none⟩),.pointer (some ⟨w.heap.size+1,0,none⟩),.pointer (some ⟨w.heap.size+2,0,none⟩)])∧w'=((w.alloc (.cells #[.pointer (some ⟨p,0,none⟩)] 43)).alloc (.cells c.arr 28)).alloc (.cells #[.int .i64 k] 3):=by
 go_enter Tryz.func97,Tryz.ntmps97
 go_wp2_with fail
 go_ret
 exact⟨rfl,rfl⟩
attribute [local go_sem] Oper.semAt_some
def ut (c:Cfg)(p:Nat)(w:World)(N:Nat→Prop):WayD→Value→Prop
 | .room b l,v=>∃vb sb,v=.func (.func 103) #[] #[.pointer (some ⟨vb,0,none⟩),.pointer (some ⟨sb,0,none⟩)]∧w.heap[vb]?=some (.cells #[.pointer (some ⟨p,0,none⟩)] 43 (0,0))∧w.heap[sb]?=some (.cells #[.int .i64 b,.int .i64 l] 96 (0,0))∧¬N vb∧¬N sb
 | .home,v=>∃vb lb,v=.func (.func 86) #[] #[.pointer (some ⟨vb,0,none⟩),.pointer (some ⟨lb,0,none⟩)]∧w.heap[vb]?=some (.cells #[.pointer (some ⟨p,0,none⟩)] 43 (0,0))∧w.heap[lb]?=some (.cells c.arr 28 (0,0))∧¬N vb∧¬N lb
theorem ut.keep {c:Cfg}{p:Nat}{w w':World}{N:Nat→Prop}{y:WayD}{v:Value}(h:ut c p w N y v)(t:Turned N w w'):ut c p w' N y v:=by
 cases y with
 |room b l=>obtain⟨vb,sb,e,h1,h2,n1,n2⟩:=h;exact⟨vb,sb,e,(t.block _ (ac h1) n1).trans h1,(t.block _ (ac h2) n2).trans h2,n1,n2⟩
 |home=>obtain⟨vb,sb,e,h1,h2,n1,n2⟩:=h;exact⟨vb,sb,e,(t.block _ (ac h1) n1).trans h1,(t.block _ (ac h2) n2).trans h2,n1,n2⟩
def oo {σ:Type}(Z:σ→World→Prop):Prop:=∀s A B,Z s A→A.heap.size≤B.heap.size→(∀(k:Nat) (cs:Array Value) (t:TypeId) (fr:Nat×Nat),A.heap[k]?=some (.cells cs t fr)→B.heap[k]?=some (.cells cs t fr))→Z s B
theorem oo.more {σ:Type}{Z:σ→World→Prop}(h:oo Z){s:σ}{A B:World}(z:Z s A)(m:ae A B):Z s B:=h s A B z m.size fun k cs t fr q=>m.block q
theorem oo.put {σ:Type}{Z:σ→World→Prop}(h:oo Z){s:σ}{A:World}(z:Z s A){k:Nat}{o:Obj}(o':Obj)(hl:A.heap[k]?=some o)(ho:o.isCells=false):Z s (A.putObj k o'):=
 h s A _ z (by simp) fun j cs t fr q=>(World.putObj_heap_other (by rintro rfl;rw[hl] at q;cases q;cases ho)).trans q
structure LvO (w6:World)(F T:Nat→Prop)(p:Nat)(kn:Int→Option Int)(n:Nat)(Z:LsS→World→Prop)(s:LsS)(A:World):Prop where
 on:OnV w6 A F T p kn n s.D s.F
 z:Z s A
theorem LvO.books {w6:World}{F T:Nat→Prop}{p:Nat}{kn:Int→Option Int}{n:Nat}{Z:LsS→World→Prop}(hZ:oo Z)(hF:∀k,F k→k<w6.heap.size)(s:LsS):jt w6.heap.size (LvO w6 F T p kn n Z s):=
 ⟨fun {A A'} h m=>⟨h.on.more m,hZ.more h.z m⟩,fun {A r} r' h hl=>⟨h.on.put hF r' hl,hZ.put h.z (.loop r') hl rfl⟩⟩
def LvX (w6:World)(F T:Nat→Prop)(p:Nat)(Need:Int→Prop):Exit→World→Prop
 | .panic ch,W=>ch=bB p∧∃a,Need a∧oF w6 W F T p a
 | _,_=>False
theorem Fo {w6:World}{F T:Nat→Prop}{p:Nat}{Need:Int→Prop}(e:Exit):jt w6.heap.size (LvX w6 F T p Need e):=by
 cases e with
 |panic ch=>exact⟨fun {A A'} h m=>by obtain⟨h1,a,h2,h3⟩:=h;exact⟨h1,a,h2,h3.more m⟩,fun {A r} r' h hl=>by obtain⟨h1,a,h2,h3⟩:=h;exact⟨h1,a,h2,h3.put hl rfl (by omega) _⟩⟩
 |ret=>exact⟨fun {A A'} h m=>h,fun {A r} r' h hl=>h⟩
 |normal=>exact⟨fun {A A'} h m=>h,fun {A r} r' h hl=>h⟩
 |exit _=>exact⟨fun {A A'} h m=>h,fun {A r} r' h hl=>h⟩
 |goto _=>exact⟨fun {A A'} h m=>h,fun {A r} r' h hl=>h⟩
 |outgrown=>exact⟨fun {A A'} h m=>h,fun {A r} r' h hl=>h⟩
structure LvH (w:World)(F T:Nat→Prop)(p:Nat)(kn:Int→Option Int)(n:Nat)(c:Cfg)(wy:List WayD)(It:xX LsS)(Z Z' Z2:LsS→World→Prop)(Need:Int→Prop):Prop where
 enc:∀s,It.enc s= #[.int .i64 s.a]
 sZ:oo Z
 sZ':oo Z'
 sZ2:oo Z2
 see:∀w6 s A,w.heap.size≤w6.heap.size→LvO w6 F T p kn n Z s A→It.See s A
 own:∀w6 s s' A B,w.heap.size≤w6.heap.size→w6.heap.size+2≤A.heap.size→LvO w6 F T p kn n Z s A→It.Own s s' A B→bR (dK w6.heap.size) A B∧LvO w6 F T p kn n Z' s' B
 fin:∀w6 s s' A B,w.heap.size≤w6.heap.size→w6.heap.size+2≤A.heap.size→LvO w6 F T p kn n Z s A→It.Fin s s' A B→bR (dK w6.heap.size) A B∧LvO w6 F T p kn n Z2 s' B
 ned:∀w6 s ch A B,w.heap.size≤w6.heap.size→w6.heap.size+2≤A.heap.size→LvO w6 F T p kn n Z s A→It.Ned s ch A B→bR (dK w6.heap.size) A B∧LvX w6 F T p Need (.panic ch) B
 skp:∀w6 s s' A B,w.heap.size≤w6.heap.size→w6.heap.size+2≤A.heap.size→LvO w6 F T p kn n Z s A→It.Skp s s' A B→bR (dK w6.heap.size) A B∧LvO w6 F T p kn n Z s' B
 rel:∀s s' A B l (r0 r1 r r':Loop),A.heap[l]?=some (.loop r0)→B.heap[l]?=some (.loop r1)→It.Rel s s' (A.putObj l (.loop r)) B→It.Rel s s' A (B.putObj l (.loop r'))
 word:∀s A,Z' s A→W64 s.a
 did:∀s A B D1 F1,Z' s A→cI n s.D→lX c.us c.pg c.st wy s.a kn s.D=.ok () D1→A.heap.size≤B.heap.size→(∀b o,¬s.F b→A.heap[b]?=some o→B.heap[b]?=some o)→(∀b,F1 b→s.F b∨A.heap.size≤b)→∃s',It.Rel s s' A B∧s'.D=D1∧s'.F=F1∧Z s' B
 nd:∀s A a,Z' s A→lX c.us c.pg c.st wy s.a kn s.D=.need a→Need a
def Ou (w:World)(F T:Nat→Prop)(p:Nat)(kn:Int→Option Int)(n:Nat)(Z2:LsS→World→Prop)(Need:Int→Prop)(e:Ending)(w':World):Prop :=
 (∃a,Need a∧e=.panicked (bB p)∧bJ w' p a∧Turned (fun b=>F b∨T b) w w') ∨
 ∃s,e=.returned (.tuple #[])∧aF w' s.F p kn s.D∧Turned (fun b=>F b∨T b) w w'∧(∀k,s.F k→F k∨w.heap.size≤k)∧cI n s.D∧Z2 s w'
theorem DF {c:Cfg}(R:c.Ok){n:Nat}(H:cF c.pg c.st n)(hn:n≤10000){bt:Nat}(F T:Nat→Prop)(p:Nat)(kn:Int→Option Int)(hk:OkK kn){wy:List WayD}(hok:∀y∈wy,jP n y)(hwl:wy.length≤1000){It:xX LsS}{gf:Nat}{lb:Array Value}(heg:∀args w,Sem.run Tryz.prog (callFunc gf args) w=.ok (.enter gf args) w)
 {Z Z' Z2:LsS→World→Prop} {Need:Int→Prop} (s0:LsS) (w:World) (L:LvH w F T p kn n c wy It Z Z' Z2 Need) (hseq:Al It Fence.wide 2 Tryz.prog gf lb s0 w)
 (hF:s0.F=F) (hv:aF w F p kn s0.D) (hD:cI n s0.D) (hz:Z s0 w) (hs:dh bt w) (nF0:¬F 0) (nFb:¬F bt) (hT:∀k,T k→k<w.heap.size∧¬F k) (nT0:¬T 0) (nTb:¬T bt)
 (wb cap:Nat) (hwb:wb<w.heap.size∧¬F wb∧¬T wb) (hwy:∀j (hj:j<wy.length),∃v,w.cell? ⟨wb,j,none⟩=some v∧ut c p w (fun b=>F b∨T b) wy[j] v):
 Calls Tryz.prog 47 #[.func (.func gf) #[] lb,.slice (some ⟨wb,0,none⟩) wy.length cap] w (Ou w F T p kn n Z2 Need):=by
 refine(callsIn_wide (n:=3)).1 ?_
 refine iW Tryz.func47 rfl trivial ?_ rfl
 simp only[Tryz.ntmps47,List.size_toArray,List.length_cons,List.length_nil,Nat.reduceAdd,Nat.reduceSub,Array.replicate_succ,Array.replicate_zero,List.push_toArray,List.append_toArray,List.nil_append,List.cons_append]
 have hF0:∀k,F k→k<w.heap.size:=hv.lt
 obtain⟨w6,e6,hb6,m6,s6⟩:=bg w (.cells #[.slice (some ⟨wb,0,none⟩) wy.length cap] 136)
 have hF6:∀k,F k→k<w6.heap.size:=fun k q=>by have:=hF0 k q;omega
 have hT6:∀k,T k→k<w6.heap.size:=fun k q=>by have:=(hT k q).1;omega
 refine fE ?_
 gi_wp2
 clear e6
 refine fE ?_
 gi_wp2
 have HL:=hQQ L
 have HSQ:=hQQ hseq
 have HO:=hQQ hok
 have HK:=hQQ hk
 have HR:=hQQ R
 have HH:=hQQ H
 have HB6:=hQQ hb6
 have hle:w.heap.size≤w6.heap.size:=by omega
 have h0:Hq (LvO w6 F T p kn n Z s0 w6):=hQQ ⟨by rw[hF];exact OnV.begin (hv.more m6) hD,L.sZ.more hz m6⟩
 -- what stands all the while
 have KB:Hq (∀W D' F',OnV w6 W F T p kn n D' F'→W.heap[w.heap.size]?=some (.cells #[.slice (some ⟨wb,0,none⟩) wy.length cap] 136 (0,0))):=hQQ fun W D' F' h=>(h.turn.block _ (by omega) (by rintro(q|q);have:=hF0 _ q;omega;have:=(hT _ q).1;omega)).trans hb6
 have KW:Hq (∀W D' F',OnV w6 W F T p kn n D' F'→∀j (hj:j<wy.length),∃v,W.cell? ⟨wb,j,none⟩=some v∧ut c p W (fun b=>F b∨T b) wy[j] v):=hQQ fun W D' F' h j hj=>by
  obtain⟨v,h1,h2⟩:=hwy j hj
  have t:=Turned.trans (Turned.mono m6 (fun _ _ q=>q.elim)) h.turn
  refine⟨v,?_,h2.keep t⟩
  rw[World.cell?_of_block (w:=w) (t.block wb hwb.1 (by rintro(q|q);exact hwb.2.1 q;exact hwb.2.2 q))];exact h1
 have KS:Hq (∀W D' F',OnV w6 W F T p kn n D' F'→dh bt W∧¬F' 0∧¬F' bt):=hQQ fun W D' F' h=>⟨(hs.more m6).keep h.turn (by rintro(q|q);exact nF0 q;exact nT0 q) (by rintro(q|q);exact nFb q;exact nTb q),fun q=>by rcases h.from' 0 q with r|r;exact nF0 r;omega,fun q=>by rcases h.from' bt q with r|r;exact nFb r;have:=hs.lt;omega⟩
 clear L hseq hok hk R H hb6 hz hv hD hwy hs
 refine oy ?_
 refine uZ It (gf:=gf) (lb:=lb) Tryz.func47 rfl (by omega) rfl trivial heg HSQ.o m6 (fun s=>by rw[HL.o.enc];rfl)
  (LvO w6 F T p kn n Z) (LvO w6 F T p kn n Z') (LvO w6 F T p kn n Z2) (LvX w6 F T p Need) (LvO.books HL.o.sZ hF6) (LvO.books HL.o.sZ' hF6) (LvO.books HL.o.sZ2 hF6) Fo h0.o
  (fun s a' W=>LvO w6 F T p kn n Z' s W∧a'= { tmps:= #[.func (.func gf) #[] lb,.slice (some ⟨wb,0,none⟩) wy.length cap,undef,.pointer (some ⟨w.heap.size,0,none⟩),.int .i64 s.a,undef,undef,.func (.func gf) #[] lb,.int .i64 s.a,undef,undef,undef,undef,undef,undef,undef,undef,undef,undef],defers:= [] })
  (fun s a'=>⟨fun {A A'} h m=>⟨(LvO.books HL.o.sZ' hF6 s).more h.1 m,h.2⟩,fun {A r} r' h hl=>⟨(LvO.books HL.o.sZ' hF6 s).put r' h.1 hl,h.2⟩⟩)
  (fun s A _ h=>HL.o.see w6 s A hle h) (fun s s' A B hs h o=>HL.o.own w6 s s' A B hle hs h o) (fun s s' A B hs h o=>HL.o.fin w6 s s' A B hle hs h o) (fun s ch A B hs h o=>HL.o.ned w6 s ch A B hle hs h o) (fun s s' A B hs h o=>HL.o.skp w6 s s' A B hle hs h o) HL.o.rel
  ?assign ?body ?done ?stop ?dies
 case assign =>
  rintro l s W K hsz hI hK
  rw[HL.o.enc]
  gi_wp2
 case body =>
  rintro l s a' W hsz ⟨hI,rfl⟩
  obtain⟨Rt,hRt⟩:∃Rt,lX c.us c.pg c.st wy s.a kn s.D=Rt:=⟨_,rfl⟩
  have HI:=hQQ hI
  have HWD:=hQQ (HL.o.word s W hI.z)
  have HDID:=hQQ (fun B D1 F1 (e:Rt=.ok () D1)=>HL.o.did s W B D1 F1 hI.z hI.on.inv (hRt.trans e))
  have HND:=hQQ (fun a (e:Rt=.need a)=>HL.o.nd s W a hI.z (hRt.trans e))
  have HRT:=hQQ hRt
  have cb:=(aA (KB.o _ _ _ hI.on)).1
  have BK:Hq (∀wr:World,(∀b o,¬s.F b→W.heap[b]?=some o→wr.heap[b]?=some o)→bR (dK w6.heap.size) W wr):=hQQ fun wr h k q=>by
   have hk:k<W.heap.size:=by rcases q with q|q<;>omega
   rw[Array.getElem?_eq_getElem hk]
   exact h k _ (fun r=>by rcases hI.on.from' k r with z|z;have:=hF6 _ z;rcases q with q|q<;>omega;rcases q with q|q<;>omega) (Array.getElem?_eq_getElem hk)
  clear hI hRt
  gi_wp2
  clear cb
  gi_loopw [11] (fun u wr=>∃(j:Nat) (D1:List KV) (F1:Nat→Prop),j≤wy.length∧u=.int .i64 (j:Int)∧OnV w6 wr F T p kn n D1 F1∧lX c.us c.pg c.st (wy.drop j) s.a kn D1=Rt∧W.heap.size≤wr.heap.size∧(∀b o,¬s.F b→W.heap[b]?=some o→wr.heap[b]?=some o)∧(∀b,F1 b→s.F b∨W.heap.size≤b)) (fun u _=>wy.length-(intOf u).toNat)
  case atStart=>exact⟨0,s.D,s.F,Nat.zero_le _,rfl,HI.o.on,HRT.o,Nat.le_refl _,fun _ _ _ h=>h,fun _ h=> .inl h⟩
  case round =>
   obtain⟨j,D1,F1,hj,rfl,hon,hsem,hsw,hkeep,hfrom⟩:=hrel
   have ON:=hQQ hon
   have KP:=hQQ hkeep
   have FR:=hQQ hfrom
   have SW:=hQQ hsw
   have KP3:Hq (∀(S:Nat→Prop) (X:World),Turned S wr X→(∀b,S b→F1 b)→∀b o,¬s.F b→W.heap[b]?=some o→X.heap[b]?=some o):=hQQ fun S X t hS b o nb hb=>(t.block b (ac (hkeep b o nb hb)) (fun q=>by
    rcases hfrom b (hS b q) with r|r
    ·exact nb r
    ·have:=ac hb;omega)).trans (hkeep b o nb hb)
   by_cases hlt:j<wy.length
   ·have d1:decide ((j:Int)<(wy.length:Int))=true:=by simp;omega
    have q3:IntKind.i64.wrap ((j:Int)+1)=(j:Int)+1:=aB (by omega) (by omega)
    obtain⟨v,hc,hway⟩:=KW.o _ _ _ hon j hlt
    have hdr:wy.drop j=wy[j]::wy.drop (j+1):=List.drop_eq_getElem_cons hlt
    have hmem:=HO.o wy[j] (List.getElem_mem hlt)
    rw[hdr] at hsem
    have hsem':aq (zQ c.us c.pg c.st wy[j] s.a) (fun b=>if b then az () else lX c.us c.pg c.st (wy.drop (j+1)) s.a) kn D1=Rt:=hsem
    have HS:=hQQ hsem'
    generalize wy[j]=y at hway hmem HS
    have HM:=hQQ hmem
    obtain⟨ksz,kf0,kfb⟩:=KS.o _ _ _ hon
    have CK:Hq (∀f lb',v=.func (.func f) #[] lb'→f=f):=hQQ fun _ _ _=>rfl
    have HCALL:Hq (∃f lb',v=.func (.func f) #[] lb'∧(f=103∨f=86)∧Calls Tryz.prog f (#[.int .i64 s.a]++lb') wr (aI wr F1 p kn (fun b:Bool=> .bool b) (zQ c.us c.pg c.st y s.a kn D1))):=hQQ (by
     cases y with
     |room b l =>
      obtain⟨vb,sb,rfl,h1,h2,_,_⟩:=hway
      exact⟨_,_,rfl,.inl rfl,KA F1 p kn D1 wr hon.view HK.o hon.inv hmem HWD.o vb sb h1 h2⟩
     |home =>
      obtain⟨vb,lb',rfl,h1,h2,_,_⟩:=hway
      exact⟨_,_,rfl,.inr rfl,KE F1 p kn D1 wr hon.view HK.o hon.inv HR.o HH.o hn bt ksz kf0 kfb s.a vb lb' h1 h2⟩)
    clear hon hsem hsem' hsw hkeep hfrom hway hmem ksz kf0 kfb hdr CK
    obtain⟨f,lb',rfl,hf,hcall⟩:=HCALL.o
    have hcall:=hQQ hcall
    clear HCALL
    rcases hf with rfl|rfl
    ·skip
     gi_wp2
     refine⟨trivial,(CallsIn.inRound l (callsIn_wide.2 hcall.o)).mono ?_⟩
     intro e W3 he
     cases hE:zQ c.us c.pg c.st y s.a kn D1 with
     |need a =>
      rw[hE] at he
      obtain⟨rfl,hend,ht⟩:=oF.of ON.o (by have:=SW.o;omega) (ae.refl wr) he
      exact⟨BK.o W3 (KP3.o F1 W3 ht (fun _ q=>q)),rfl,rfl,a,HND.o a (HS.o.symm.trans (ag hE)),hend⟩
     |ok b D3 =>
      rw[hE] at he
      obtain⟨rfl,F3,hv3,ht3,hn3⟩:=he
      have hi3:=((uj HH.o HM.o HWD.o).ok HK.o ON.o.inv hE).1
      have ON3:Hq (OnV w6 W3 F T p kn n D3 F3):=hQQ ⟨hv3,fun k q=>by
       rcases hn3 k q with r|r
       ·exact ON.o.from' k r
       ·have:=SW.o;exact .inr (by omega),ak ON.o.turn ht3 (fun k q=>(ON.o.from' k q).imp .inl (fun r=>by omega)),hi3⟩
      have KP4:=hQQ (KP3.o F1 W3 ht3 (fun _ q=>q))
      have FR4:Hq (∀b,F3 b→s.F b∨W.heap.size≤b):=hQQ fun b q=>by
       rcases hn3 b q with r|r
       ·exact FR.o b r
       ·have:=SW.o;exact .inr (by omega)
      have SW4:=hQQ (Nat.le_trans SW.o ht3.size)
      have HS3:=hQQ ((aj hE).symm.trans HS.o)
      clear hv3 ht3 hn3 hi3 hE hcall KP FR SW ON
      cases b with
      |true =>
       obtain⟨s',r1,r2,r3,z⟩:=HDID.o W3 D3 F3 HS3.o.symm SW4.o KP4.o FR4.o
       have FI:Hq (na It w6.heap.size (LvO w6 F T p kn n Z) (LvX w6 F T p Need) s W .normal { tmps:= #[],defers:= [] } W3):=hQQ ⟨BK.o W3 KP4.o,s',r1,by rw[r2,r3];exact ON3.o,z⟩
       clear r1 r2 r3 z
       gi_wp2
       exact FI.o
      |false =>
       gi_wp2
       go_roundw
       case rel=>exact⟨j+1,D3,F3,by omega,by go_num,ON3.o,HS3.o,SW4.o,KP4.o,FR4.o⟩
       case measure=>simp[intOf];omega
    ·skip
     gi_wp2
     refine⟨trivial,(CallsIn.inRound l (callsIn_wide.2 hcall.o)).mono ?_⟩
     intro e W3 he
     cases hE:zQ c.us c.pg c.st y s.a kn D1 with
     |need a =>
      rw[hE] at he
      obtain⟨rfl,hend,ht⟩:=oF.of ON.o (by have:=SW.o;omega) (ae.refl wr) he
      exact⟨BK.o W3 (KP3.o F1 W3 ht (fun _ q=>q)),rfl,rfl,a,HND.o a (HS.o.symm.trans (ag hE)),hend⟩
     |ok b D3 =>
      rw[hE] at he
      obtain⟨rfl,F3,hv3,ht3,hn3⟩:=he
      have hi3:=((uj HH.o HM.o HWD.o).ok HK.o ON.o.inv hE).1
      have ON3:Hq (OnV w6 W3 F T p kn n D3 F3):=hQQ ⟨hv3,fun k q=>by
       rcases hn3 k q with r|r
       ·exact ON.o.from' k r
       ·have:=SW.o;exact .inr (by omega),ak ON.o.turn ht3 (fun k q=>(ON.o.from' k q).imp .inl (fun r=>by omega)),hi3⟩
      have KP4:=hQQ (KP3.o F1 W3 ht3 (fun _ q=>q))
      have FR4:Hq (∀b,F3 b→s.F b∨W.heap.size≤b):=hQQ fun b q=>by
       rcases hn3 b q with r|r
       ·exact FR.o b r
       ·have:=SW.o;exact .inr (by omega)
      have SW4:=hQQ (Nat.le_trans SW.o ht3.size)
      have HS3:=hQQ ((aj hE).symm.trans HS.o)
      clear hv3 ht3 hn3 hi3 hE hcall KP FR SW ON
      cases b with
      |true =>
       obtain⟨s',r1,r2,r3,z⟩:=HDID.o W3 D3 F3 HS3.o.symm SW4.o KP4.o FR4.o
       have FI:Hq (na It w6.heap.size (LvO w6 F T p kn n Z) (LvX w6 F T p Need) s W .normal { tmps:= #[],defers:= [] } W3):=hQQ ⟨BK.o W3 KP4.o,s',r1,by rw[r2,r3];exact ON3.o,z⟩
       clear r1 r2 r3 z
       gi_wp2
       exact FI.o
      |false =>
       gi_wp2
       go_roundw
       case rel=>exact⟨j+1,D3,F3,by omega,by go_num,ON3.o,HS3.o,SW4.o,KP4.o,FR4.o⟩
       case measure=>simp[intOf];omega
   ·obtain rfl:j=wy.length:=by omega
    have d1:decide ((wy.length:Int)<(wy.length:Int))=false:=by simp
    rw[List.drop_length] at hsem
    obtain⟨s',r1,r2,r3,z⟩:=HDID.o wr D1 F1 hsem.symm SW.o KP.o FR.o
    have FI:Hq (na It w6.heap.size (LvO w6 F T p kn n Z) (LvX w6 F T p Need) s W .normal { tmps:= #[],defers:= [] } wr):=hQQ ⟨BK.o wr KP.o,s',r1,by rw[r2,r3];exact ON.o,z⟩
    clear r1 r2 r3 z hsem hon hsw hkeep hfrom
    gi_wp2
    exact FI.o
 case done =>
  rintro s W hI hdf
  have hon:=hI.on.view.keepS (S:=fun k=>k=w6.heap.size) (w':=W.putObj w6.heap.size (.deferred none)) (fL (Turned.refl _ W) _ _ (fun _=>rfl)) (fun k q e=>by subst e;rcases hI.on.from' _ q with r|r;have:=hF6 _ r;omega;omega) (fun k es cl e q=>by subst e;rw[hdf] at q;cases q)
  have ht:Turned (fun b=>F b∨T b) w (W.putObj w6.heap.size (.deferred none)):=fL (Turned.trans (Turned.mono m6 (fun _ _ q=>q.elim)) hI.on.turn) _ _ (fun q=>by omega)
  have FIN:Hq (Ou w F T p kn n Z2 Need (.returned (.tuple #[])) (W.putObj w6.heap.size (.deferred none))):=hQQ (.inr ⟨s,rfl,hon,ht,fun k q=>(hI.on.from' k q).imp id (fun r=>by omega),hI.on.inv,HL.o.sZ2.put hI.z (.deferred none) hdf rfl⟩)
  clear hon ht
  refine⟨by simp,.inl ⟨_,_,rfl,run_takeDeferred hdf,?_⟩⟩
  refine⟨.tuple #[],?_,FIN.o⟩
  simp[results,Tryz.f47,go_sem]
 case stop =>
  rintro e cc W hj hx hdf
  cases e<;>cases hx<;>cases hj
 case dies =>
  rintro ch W ⟨h1,a,h2,h3⟩ hdf
  have h4:=h3.put hdf rfl (Nat.le_refl _) (.deferred none)
  exact⟨by simp,.inl ⟨_,_,rfl,run_takeDeferred hdf,.inl ⟨a,h2,by rw[h1],h4.1,Turned.trans (Turned.mono m6 (fun _ _ q=>q.elim)) h4.2⟩⟩⟩
theorem cS.cells {F:Nat→Prop}{A B:World}{f:Nat→Value}{P:Nat→List Int}(h:cS F A f P)(s:∀(k:Nat)(cs:Array Value)(t:TypeId)(fr:Nat×Nat),A.heap[k]?=some (.cells cs t fr)→B.heap[k]?=some (.cells cs t fr)):cS F B f P:=by
 refine⟨fun c hc=>?_,h.2⟩
 obtain⟨a,cap,hv,h1,h2,z⟩:=h.1 c hc
 refine⟨a,cap,hv,h1,h2,z.imp id ?_⟩
 rintro⟨g,cur,rfl,hg,r⟩
 exact⟨g,cur,rfl,s _ _ _ _ hg,r⟩
structure LsZ (N:Nat→Prop)(nb qb cb pb m:Nat)(k:Int)(Sem:LsS→Prop)(s:LsS)(A:World):Prop where
 bn:eF A nb m
 bq:A.heap[qb]?=some (.cells #[.pointer (some ⟨pb,0,none⟩)] 102 (0,0))
 bc:eF A cb k
 pu:∃f,A.heap[pb]?=some (.cells (puA f) 32 (0,0))∧cS (fun q=>N q∨s.F q) A f s.P
 nf:¬s.F nb∧¬s.F qb∧¬s.F cb∧¬s.F pb
 ne:nb≠pb∧qb≠pb∧cb≠pb
 len:pU s.P∧∀j,j<5→(s.P j).length≤1000000
 sem:Sem s
theorem LsZ.stays (N:Nat→Prop)(nb qb cb pb m:Nat)(k:Int)(Sem:LsS→Prop):oo (LsZ N nb qb cb pb m k Sem):=fun s A B h _ t =>
 ⟨t _ _ _ _ h.bn,t _ _ _ _ h.bq,t _ _ _ _ h.bc,by obtain⟨f,h1,h2⟩:=h.pu;exact⟨f,t _ _ _ _ h1,h2.cells t⟩,h.nf,h.ne,h.len,h.sem⟩
def Ov (w:World)(F N:Nat→Prop)(pb p:Nat)(kn:Int→Option Int)(n:Nat)(R:Res (Nat→List Int))(e:Ending)(w':World):Prop :=
 match R with
 | .need a=>e=.panicked (bB p)∧bJ w' p a∧Turned (fun b=>F b∨b=pb) w w'
 | .ok P D=>e=.returned (.tuple #[])∧∃f F',aF w' F' p kn D∧Turned (fun b=>F b∨b=pb) w w'∧(∀k,F' k→F k∨w.heap.size≤k)∧cI n D∧w'.heap[pb]?=some (.cells (puA f) 32 (0,0))∧cS (fun q=>N q∨F' q) w' f P
theorem KF {c:Cfg}{n:Nat}(F N:Nat→Prop)(p:Nat)(kn:Int→Option Int)(w:World)(wy:List WayD)(nb qb cb pb m:Nat)(k:Int)(Rr:Res (Nat→List Int))(hF:∀k,F k→k<w.heap.size)(hN:∀k,N k→k<w.heap.size)(hpb:pb<w.heap.size∧¬F pb):
 LvH w F (fun b=>b=pb) p kn n c wy (BX nb qb cb pb m k) (LsZ N nb qb cb pb m k fun s=>s.i≤m∧dF c.us c.pg c.st wy k (m-s.i) s.P kn s.D=Rr)
  (LsZ N nb qb cb pb m k fun s=>s.i≤m∧W64 s.a∧aq (lX c.us c.pg c.st wy s.a) (fun _=>dF c.us c.pg c.st wy k (m-s.i) s.P) kn s.D=Rr)
  (LsZ N nb qb cb pb m k fun s=>Rr=.ok s.P s.D) (fun a=>Rr=.need a) where
 enc s:=rfl
 sZ:=LsZ.stays N nb qb cb pb m k _
 sZ':=LsZ.stays N nb qb cb pb m k _
 sZ2:=LsZ.stays N nb qb cb pb m k _
 see w6 s A _ h:=by
  obtain⟨f,h1,h2⟩:=h.z.pu
  exact⟨h.z.bn,h.z.bq,h.z.bc,f,h1,h2.1,h.z.len.2⟩
 own w6 s s' A B hle hsz h o:=by
  obtain⟨hi,hb,rfl,f,f',b1,b2,t,pu,pn⟩:=o
  obtain⟨f0,g1,g2⟩:=h.z.pu
  obtain⟨g,hg⟩:∃g,g=puA f:=⟨_,rfl⟩
  have hff:∀j,j<5→f j=f0 j:=fun j hj=>by
   rw[b1] at g1
   have e:puA f=puA f0:=by injection g1 with g1;injection g1 with g1
   have:=BT f hj
   rw[e,BT f0 hj] at this
   exact(Option.some.inj this).symm
  have keep:∀b o,b≠pb→A.heap[b]?=some o→B.heap[b]?=some o:=fun b o nb ho=>(t.block b (ac ho) nb).trans ho
  refine⟨bR.turned t (fun j q=>by rcases q with q|q<;>omega) (fun j q r=>by rcases q with q|q<;>omega),⟨?_,?_⟩⟩
  ·refine⟨h.on.view.keepS t (fun j q e=>h.z.nf.2.2.2 (e▸q)) (fun j es cl e q=>by subst e;rw[b1] at q;cases q),h.on.from',ak h.on.turn t (fun j q=> .inl (.inr q)),h.on.inv⟩
  ·refine⟨keep _ _ h.z.ne.1 h.z.bn,keep _ _ h.z.ne.2.1 h.z.bq,keep _ _ h.z.ne.2.2 h.z.bc,⟨f',b2,pu,pn.mono fun q z=>?_⟩,h.z.nf,h.z.ne,⟨uh h.z.len.1 k,fun j hj=>Nat.le_trans (ui s.P k j) (h.z.len.2 j hj)⟩,?_⟩
   ·rcases z with⟨c,hc,e⟩|z
    ·exact g2.2 c hc q (by rw[←hff c hc];exact e)
    ·rintro(y|y)
     ·have:=hN q y
      have:=h.on.turn.size
      omega
     ·have:=h.on.view.lt q y
      omega
   ·obtain⟨q1,q2⟩:=h.z.sem
    refine⟨by show s.i+1≤m;omega,ug h.z.len.1 hb,?_⟩
    rw[show m-s.i=(m-(s.i+1))+1 by omega] at q2
    have e:dF c.us c.pg c.st wy k ((m-(s.i+1))+1) s.P=if gY s.P k then aq (lX c.us c.pg c.st wy (iv s.P k)) (fun _=>dF c.us c.pg c.st wy k (m-(s.i+1)) (ib s.P k)) else az s.P:=rfl
    rw[e,if_pos hb] at q2
    exact q2
 fin w6 s s' A B hle hsz h o:=by
  obtain⟨rfl,hb,mo⟩:=o
  refine⟨nq mo (fun j q=>by rcases q with q|q<;>omega),h.on.more mo,?_⟩
  have h2:=(LsZ.stays N nb qb cb pb m k _).more h.z mo
  refine⟨h2.bn,h2.bq,h2.bc,h2.pu,h2.nf,h2.ne,h2.len,?_⟩
  obtain⟨q1,q2⟩:=h.z.sem
  rcases Nat.lt_or_ge s'.i m with hlt|hge
  ·have hb:=hb.resolve_left (by omega)
   rw[show m-s'.i=(m-(s'.i+1))+1 by omega] at q2
   have e:dF c.us c.pg c.st wy k ((m-(s'.i+1))+1) s'.P=if gY s'.P k then aq (lX c.us c.pg c.st wy (iv s'.P k)) (fun _=>dF c.us c.pg c.st wy k (m-(s'.i+1)) (ib s'.P k)) else az s'.P:=rfl
   rw[e,if_neg (by rw[hb];simp)] at q2
   exact q2.symm
  ·rw[show m-s'.i=0 by omega] at q2
   exact q2.symm
 ned w6 s ch A B _ _ _ o:=o.elim
 skp w6 s s' A B _ _ _ o:=o.elim
 rel s s' A B l r0 r1 r r' _ _ h:=h
 word s A h:=h.sem.2.1
 did s A B D1 F1 h hD e hsz hk hf:=by
  have keep:∀b o,¬s.F b→A.heap[b]?=some o→B.heap[b]?=some o:=hk
  obtain⟨f,g1,g2⟩:=h.pu
  have nf:∀b o,¬s.F b→A.heap[b]?=some o→¬F1 b:=fun b o nb ho q=>by
   rcases hf b q with r|r
   ·exact nb r
   ·have:=ac ho;omega
  refine⟨⟨s.i,s.P,D1,F1,s.a⟩,rfl,rfl,rfl,keep _ _ h.nf.1 h.bn,keep _ _ h.nf.2.1 h.bq,keep _ _ h.nf.2.2.1 h.bc,⟨f,keep _ _ h.nf.2.2.2 g1,g2.stayN hk hf⟩,⟨nf _ _ h.nf.1 h.bn,nf _ _ h.nf.2.1 h.bq,nf _ _ h.nf.2.2.1 h.bc,nf _ _ h.nf.2.2.2 g1⟩,h.ne,h.len,h.sem.1,?_⟩
  exact(aj e).symm.trans h.sem.2.2
 nd s A a h e:=h.sem.2.2.symm.trans (ag e)
theorem rF {c:Cfg}(R:c.Ok){n:Nat}(H:cF c.pg c.st n)(hn:n≤10000){bt:Nat}{w:World}(F N:Nat→Prop)(hN:∀k,N k→k<w.heap.size)(p:Nat)(kn:Int→Option Int)(D:List KV)(hk:OkK kn){wy:List WayD}(hok:∀y∈wy,jP n y)(hwl:wy.length≤1000)(nb qb cb pb m:Nat)(hm:m≤1000000)(k:Int)(f:Nat→Value)(P:Nat→List Int)
 (hv:aF w F p kn D) (hD:cI n D) (hs:dh bt w) (nF0:¬F 0) (nFb:¬F bt) (np0:pb≠0) (npb:pb≠bt)
 (bn:eF w nb m) (bq:w.heap[qb]?=some (.cells #[.pointer (some ⟨pb,0,none⟩)] 102 (0,0))) (bc:eF w cb k) (bp:w.heap[pb]?=some (.cells (puA f) 32 (0,0))) (pu:cS (fun q=>N q∨F q) w f P)
 (nf:¬F nb∧¬F qb∧¬F cb∧¬F pb) (ne:nb≠pb∧qb≠pb∧cb≠pb) (hW:pU P) (hl:∀j,j<5→(P j).length≤1000000)
 (wb cap:Nat) (hwb:wb<w.heap.size∧¬F wb∧wb≠pb) (hwy:∀j (hj:j<wy.length),∃v,w.cell? ⟨wb,j,none⟩=some v∧ut c p w (fun b=>F b∨b=pb) wy[j] v):
 Calls Tryz.prog 47 #[.func (.func 85) #[] #[.pointer (some ⟨nb,0,none⟩),.pointer (some ⟨qb,0,none⟩),.pointer (some ⟨cb,0,none⟩)],.slice (some ⟨wb,0,none⟩) wy.length cap] w (Ov w F N pb p kn n (dF c.us c.pg c.st wy k m P kn D)):=by
 refine(DF R H hn F (fun b=>b=pb) p kn hk hok hwl (enters_of Tryz.func85 (by kernel_rfl) rfl) ⟨0,P,D,F,0⟩ w (KF F N p kn w wy nb qb cb pb m k _ hv.lt hN ⟨ac bp,nf.2.2.2⟩) (Ca 2 (by omega) nb qb cb pb m hm k _ w rfl) rfl hv hD
  ⟨bn,bq,bc,⟨f,bp,pu⟩,nf,ne,⟨hW,hl⟩,Nat.zero_le _,rfl⟩ hs nF0 nFb (fun j q=>by subst q;exact⟨ac bp,nf.2.2.2⟩) (fun e=>np0 e.symm) (fun e=>npb e.symm) wb cap hwb hwy).mono ?_
 rintro e w' (⟨a,hN,rfl,hd,ht⟩|⟨s,rfl,hv',ht,hf,hi,hz⟩)
 ·have hN:dF c.us c.pg c.st wy k m P kn D=.need a:=hN
  rw[hN]
  exact⟨rfl,hd,ht⟩
 ·have hS:dF c.us c.pg c.st wy k m P kn D=.ok s.P s.D:=hz.sem
  rw[hS]
  obtain⟨f',g1,g2⟩:=hz.pu
  exact⟨rfl,f',s.F,hv',ht,hf,hi,g1,g2⟩
theorem IP (c:Cfg)(W:World):(Instr.field 23 (.agg #[.int .i64 c.wk,.int .i64 c.cp,.int .i64 c.pg,.int .i64 c.st,.int .i64 c.tr,.int .i64 c.wt,.int .i64 c.ck,.int .i64 c.pr,.int .i64 c.ca,.int .i64 c.bi,.int .i64 c.ba]) 1).run Tryz.prog W=.ok (.int .i64 c.cp) W:=by kernel_rfl
theorem Cc (c:Cfg)(W:World):(Instr.field 23 (.agg #[.int .i64 c.wk,.int .i64 c.cp,.int .i64 c.pg,.int .i64 c.st,.int .i64 c.tr,.int .i64 c.wt,.int .i64 c.ck,.int .i64 c.pr,.int .i64 c.ca,.int .i64 c.bi,.int .i64 c.ba]) 7).run Tryz.prog W=.ok (.int .i64 c.pr) W:=by kernel_rfl
theorem MV (c:Cfg)(W:World):(Instr.field 23 (.agg #[.int .i64 c.wk,.int .i64 c.cp,.int .i64 c.pg,.int .i64 c.st,.int .i64 c.tr,.int .i64 c.wt,.int .i64 c.ck,.int .i64 c.pr,.int .i64 c.ca,.int .i64 c.bi,.int .i64 c.ba]) 8).run Tryz.prog W=.ok (.int .i64 c.ca) W:=by kernel_rfl
theorem MY (c:Cfg)(W:World):(Instr.field 23 (.agg #[.int .i64 c.wk,.int .i64 c.cp,.int .i64 c.pg,.int .i64 c.st,.int .i64 c.tr,.int .i64 c.wt,.int .i64 c.ck,.int .i64 c.pr,.int .i64 c.ca,.int .i64 c.bi,.int .i64 c.ba]) 9).run Tryz.prog W=.ok (.int .i64 c.bi) W:=by kernel_rfl
theorem IQ (c:Cfg)(W:World):(Instr.field 23 (.agg #[.int .i64 c.wk,.int .i64 c.cp,.int .i64 c.pg,.int .i64 c.st,.int .i64 c.tr,.int .i64 c.wt,.int .i64 c.ck,.int .i64 c.pr,.int .i64 c.ca,.int .i64 c.bi,.int .i64 c.ba]) 10).run Tryz.prog W=.ok (.int .i64 c.ba) W:=by kernel_rfl
theorem zU (b l:Int)(W:World):(Instr.build 96 #[(0,.int .i64 b),(1,.int .i64 l)]).run Tryz.prog W=.ok (.agg #[.int .i64 b,.int .i64 l]) W:=run_build W _ _ _ (by kernel_rfl)
def caV (d:Cfg)(u k:Int):Int:=fF d.cp d.pg d.st d.ca u k
def biV (d:Cfg)(k:Int):Int:=oz d.cp d.pg d.st d.ca d.bi k
theorem sf {c:Cfg}(R:c.Ok)(u k:Int)(w:World):Calls Tryz.prog 64 #[.agg c.arr,.int .i64 u,.int .i64 k] w (aQ w (.bool (caV c u k != 0))):=by
 obtain⟨w1,e1,hl1,m1,s1⟩:=bg w (.cells c.arr 28)
 have MM:=hQQ m1
 have L0:=hQQ hl1
 have HC:=hQQ (Au R w1 u k)
 clear hl1 m1 R
 go_enter Tryz.func64,Tryz.ntmps64
 go_wp2_with (refine aM rfl rfl rfl L0.o (by kernel_rfl) ?_)
 refine HC.o.mono ?_
 rintro e w2 ⟨rfl,h2⟩
 have M2:=hQQ (MM.o.trans h2)
 clear h2
 go_wp2_with fail
 go_ret
 exact⟨rfl,M2.o⟩
theorem xF {c:Cfg}(R:c.Ok)(u k:Int)(w:World):Calls Tryz.prog 74 #[.agg c.arr,.int .i64 u,.int .i64 k] w (aQ w (.agg #[.int .i64 (caV c u k),.int .i64 c.ca])):=by
 obtain⟨w2,e2,hl1,hl2,m2,s2⟩:=ij w (.cells c.arr 28) (.cells #[.int .i64 0,.int .i64 0] 96)
 have MM:=hQQ m2
 have L0:=hQQ hl1
 have L1:=hQQ hl2
 have HR:=hQQ R
 have hf:=MV c
 have hb:=zU (caV c u k) c.ca
 clear hl1 hl2 m2 R
 go_enter Tryz.func74,Tryz.ntmps74
 go_wp2_with fail
 refine bI 8 (by kernel_rfl) (by kernel_rfl) ?_
 simp only[List.take_succ_cons,List.take_zero,List.drop_succ_cons,List.drop_zero]
 refine aP rfl 28 _ rfl _ rfl 28 _ _ _ (fun W hW=>hW.block L0.o) Tryz.underlying28 rfl (by kernel_rfl) ?_
 iterate 2
  with_reducible refine wpQuiet_step (fun K hK=>?_)
  go_simp
  first
  |(refine hK _ ?_;clear hK K)
  |(apply Exists.intro
    refine⟨fun W hW=>?_,hK _ ?_⟩
    first
    |(go_simp;try rfl)
    clear hK K)
 iterate 1
  with_reducible refine wpQuiet_step (fun K hK=>?_)
  go_simp
  first
  |(refine hK _ ?_;clear hK K)
  |(apply Exists.intro
    refine⟨fun W hW=>?_,hK _ ?_⟩
    first
    |(have hc:=Au HR.o W u k;go_at_call 28;exact Calls.more hW hc)
    clear hK K)
 refine aP rfl 28 _ rfl _ rfl 28 _ _ _ (fun W hW=>hW.block L0.o) Tryz.underlying28 rfl (by kernel_rfl) ?_
 iterate 1
  with_reducible refine wpQuiet_step (fun K hK=>?_)
  go_simp
  first
  |(refine hK _ ?_;clear hK K)
  |(apply Exists.intro
    refine⟨fun W hW=>?_,hK _ ?_⟩
    first
    |(go_at_call 20;exact Calls.more hW (dw HR.o W))
    clear hK K)
 iterate 2
  with_reducible refine wpQuiet_step (fun K hK=>?_)
  go_simp
  first
  |(refine hK _ ?_;clear hK K)
  |(apply Exists.intro
    refine⟨fun W hW=>?_,hK _ ?_⟩
    first
    |(go_simp;try rfl)
    clear hK K)
 refine wpQuiet_nil ?_
 intro w4 m4
 have L4:=hQQ (m4.block L1.o)
 have M4:=hQQ (MM.o.trans m4)
 have L5:=hQQ (setRow_heap w4 (w.heap.size+1) _ #[.int .i64 (caV c u k),.int .i64 c.ca] _ _ L4.o)
 have M5:Hq (ae w (w4.setRow (w.heap.size+1) #[.int .i64 (caV c u k),.int .i64 c.ca])):=hQQ (M4.o.setRow _ _ (by omega))
 clear hf hb m4
 go_wp2_with (refine wpList_store_row rfl 96 _ _ rfl _ _ rfl rfl 96 _ L4.o (by kernel_rfl) rfl (by simp[Value.oneCell']) ?_)
 refine bodyPost_ret (v:=.agg #[.int .i64 (caV c u k),.int .i64 c.ca]) (results_cell_row Tryz.results74 _ _ _ 96 _ (0,0) _ rfl L5.o Tryz.underlying96 rfl (by kernel_rfl)) rfl ⟨rfl,M5.o⟩
theorem IR {c:Cfg}(R:c.Ok)(k:Int)(w:World):Calls Tryz.prog 75 #[.agg c.arr,.int .i64 k] w (aQ w (.agg #[.int .i64 (biV c k),.int .i64 c.bi])):=by
 obtain⟨w2,e2,hl1,hl2,m2,s2⟩:=ij w (.cells c.arr 28) (.cells #[.int .i64 0,.int .i64 0] 96)
 have MM:=hQQ m2
 have L0:=hQQ hl1
 have L1:=hQQ hl2
 have HR:=hQQ R
 have hf:=MY c
 have hb:=zU (biV c k) c.bi
 clear hl1 hl2 m2 R
 go_enter Tryz.func75,Tryz.ntmps75
 go_wp2_with fail
 refine bI 7 (by kernel_rfl) (by kernel_rfl) ?_
 simp only[List.take_succ_cons,List.take_zero,List.drop_succ_cons,List.drop_zero]
 refine aP rfl 28 _ rfl _ rfl 28 _ _ _ (fun W hW=>hW.block L0.o) Tryz.underlying28 rfl (by kernel_rfl) ?_
 iterate 1
  with_reducible refine wpQuiet_step (fun K hK=>?_)
  go_simp
  first
  |(refine hK _ ?_;clear hK K)
  |(apply Exists.intro
    refine⟨fun W hW=>?_,hK _ ?_⟩
    first
    |(go_simp;try rfl)
    clear hK K)
 iterate 1
  with_reducible refine wpQuiet_step (fun K hK=>?_)
  go_simp
  first
  |(refine hK _ ?_;clear hK K)
  |(apply Exists.intro
    refine⟨fun W hW=>?_,hK _ ?_⟩
    first
    |(have hc:=NU HR.o W k;go_at_call 29;exact Calls.more hW hc)
    clear hK K)
 refine aP rfl 28 _ rfl _ rfl 28 _ _ _ (fun W hW=>hW.block L0.o) Tryz.underlying28 rfl (by kernel_rfl) ?_
 iterate 1
  with_reducible refine wpQuiet_step (fun K hK=>?_)
  go_simp
  first
  |(refine hK _ ?_;clear hK K)
  |(apply Exists.intro
    refine⟨fun W hW=>?_,hK _ ?_⟩
    first
    |(go_at_call 20;exact Calls.more hW (dw HR.o W))
    clear hK K)
 iterate 2
  with_reducible refine wpQuiet_step (fun K hK=>?_)
  go_simp
  first
  |(refine hK _ ?_;clear hK K)
  |(apply Exists.intro
    refine⟨fun W hW=>?_,hK _ ?_⟩
    first
    |(go_simp;try rfl)
    clear hK K)
 refine wpQuiet_nil ?_
 intro w4 m4
 have L4:=hQQ (m4.block L1.o)
 have M4:=hQQ (MM.o.trans m4)
 have L5:=hQQ (setRow_heap w4 (w.heap.size+1) _ #[.int .i64 (biV c k),.int .i64 c.bi] _ _ L4.o)
 have M5:Hq (ae w (w4.setRow (w.heap.size+1) #[.int .i64 (biV c k),.int .i64 c.bi])):=hQQ (M4.o.setRow _ _ (by omega))
 clear hf hb m4
 go_wp2_with (refine wpList_store_row rfl 96 _ _ rfl _ _ rfl rfl 96 _ L4.o (by kernel_rfl) rfl (by simp[Value.oneCell']) ?_)
 refine bodyPost_ret (v:=.agg #[.int .i64 (biV c k),.int .i64 c.bi]) (results_cell_row Tryz.results75 _ _ _ 96 _ (0,0) _ rfl L5.o Tryz.underlying96 rfl (by kernel_rfl)) rfl ⟨rfl,M5.o⟩
theorem zV (S:Fam)(C:Nat→List Int):∀m,(∀j,j<m→C j= [])→eS S C m= []
 | 0,_=>rfl
 |m+1,h=>by rw[eS,zV S C m (fun j hj=>h j (by omega)),h m (by omega)];rfl
section
variable {us pg st:Int}{n:Nat}{S:Fam}(H:cF pg st n)(hS:S.In (a8 st pg+62) n)(hn:n≤10000)
include H hS hn
theorem jr {C:Nat→List Int}{k:Int} :∀(l:List Int) {ws:List Int} {O:List (Int×Int)},FrI us pg st n S ws C ((l.map fun a=>(a,k))++O)→FrI us pg st n S (jb us pg st l ws) C O
 | [],ws,O,h=>h
 |a::t,ws,O,h=>by
  have h2:FrI us pg st n S ws C ((t.map fun a=>(a,k))++((a,k)::O)):=h.perm (by rw[List.map_cons,List.cons_append];exact List.perm_middle.symm)
  obtain⟨X,e,h3⟩:=(jr t h2).back H hS hn
  rw[jb,e]
  exact h3
theorem Fp (P:Nat→List Int){ws:List Int}{C:Nat→List Int}{O:List (Int×Int)}(h:FrI us pg st n S ws C (puO P++O)):FrI us pg st n S (qV us pg st P ws) C O:=by
 have e:puO P++O=((P 0).map fun a=>(a,((0:Nat):Int)))++(((P 1).map fun a=>(a,((1:Nat):Int)))++(((P 2).map fun a=>(a,((2:Nat):Int)))++(((P 3).map fun a=>(a,((3:Nat):Int)))++(((P 4).map fun a=>(a,((4:Nat):Int)))++O)))):=by
  simp[puO,eS,Dx]
 rw[e] at h
 unfold qV
 exact jr H hS hn (P 4) (jr H hS hn (P 3) (jr H hS hn (P 2) (jr H hS hn (P 1) (jr H hS hn (P 0) h))))
theorem uu {i:Nat}(hi:i<S.m):∀(m:Nat) {ws:List Int} {C:Nat→List Int} {O:List (Int×Int)},FrI us pg st n S ws C O→(C i).length≤m→FrI us pg st n S (iH us pg st (S.b i) (S.l i) m ws) (dk C i []) O
 | 0,ws,C,O,h,hl=>by
   have e:C i= []:=List.length_eq_zero_iff.1 (by omega)
   rw[←e,eR];exact h
 |m+1,ws,C,O,h,hl=>by
  rcases h.pop H hS hn hi with⟨e,e2⟩|⟨xs,x,X,e,e2,h2⟩
  ·have em:iH us pg st (S.b i) (S.l i) (m+1) ws=ws:=by simp[iH,e2]
   rw[em,←e,eR];exact h
  ·obtain⟨Y,e3,h3⟩:=h2.back H hS hn
   have em:iH us pg st (S.b i) (S.l i) (m+1) ws=iH us pg st (S.b i) (S.l i) m Y:=by simp[iH,e2,e3]
   have:=uu hi m h3 (by unfold dk;simp;rw[e] at hl;simp at hl;omega)
   rw[lJ] at this
   rw[em];exact this
theorem KG {ws:List Int}{C:Nat→List Int}{O:List (Int×Int)}(h:FrI us pg st n S ws C O){i:Nat}(hi:i<S.m):((C i).length:Int)≤S.l i:=(h.keeps i hi).fit
theorem wg {ws:List Int}{C:Nat→List Int}{O:List (Int×Int)}(h:FrI us pg st n S ws C O):∀m,m≤S.m→∃C',FrI us pg st n S (oW us pg st S m ws) C' O∧∀j,j<m→C' j= []
 | 0,_=>⟨C,h,fun j hj=>by omega⟩
 |m+1,hm=>by
  obtain⟨C1,h1,e1⟩:=wg h m (by omega)
  have hf:=KG H hS hn h1 (i:=m) (by omega)
  refine⟨_,uu H hS hn (i:=m) (by omega) ((S.l m).toNat+1) h1 (by omega),fun j hj=>?_⟩
  unfold dk
  split
  ·rfl
  ·exact e1 j (by omega)
theorem Fq {ws:List Int}{C:Nat→List Int}{O:List (Int×Int)}(h:FrI us pg st n S ws C O):∃C',FrI us pg st n S (oW us pg st S S.m ws) C' O∧eS S C' S.m= []:=by
 obtain⟨C',h1,h2⟩:=wg H hS hn h S.m (Nat.le_refl _)
 exact⟨C',h1,zV S C' S.m h2⟩
variable (hu:0≤us∧us+32 * pg≤1000000){i0 i1 k:Nat}(h0:i0<S.m)(h1:i1<S.m)(hk:k<5)(k0:S.k i0=k)(k1:S.k i1=k)
include hu h0 h1 hk k0 k1
theorem IT (lim:Int)(m:Nat)(P:Nat→List Int){ws:List Int}{C:Nat→List Int}{O:List (Int×Int)}(h:FrI us pg st n S ws C O):
 (fQ us pg st S i0 i1 k lim m P ws).1.1.2=true↔P k≠ []∨C i0≠ []∨C i1≠ []∨(ax k≠0∧(jg pg st k ws=true∨fO pg st 1 1 ws≠ -1)):=by
 obtain⟨G,W⟩:=h.pgs
 have c0:=(h.keeps i0 h0).kept
 have c1:=(h.keeps i1 h1).kept
 rcases List.eq_nil_or_concat (P k) with e|⟨xs,x,e⟩
 ·have hb:=pR P hk e
  rcases h.pop H hS hn h0 with⟨e0,p0⟩|⟨xs,x,X,e0,p0,_⟩
  ·rcases h.pop H hS hn h1 with⟨e1,p1⟩|⟨xs,x,X,e1,p1,_⟩
   ·have kd:iT S i0 i1 ws=2:=by simp[iT,c0,c1,e0,e1]
    have hc:=Kv H us k W h.len
    have ef:(fQ us pg st S i0 i1 k lim m P ws).1.1.2=(c7 us pg st k ws).1.2:=by
     simp only[fQ,hb,kd,ja,i9]
     cases hg:(c7 us pg st k ws).1.2<;>simp[hg]
    rw[ef,hc]
    simp[e,e0,e1]
   ·have kd:iT S i0 i1 ws=1:=by simp[iT,c0,c1,e0,e1]
    have ef:(fQ us pg st S i0 i1 k lim m P ws).1.1.2=true:=by simp[fQ,hb,kd,ja,i9,p1]
    rw[ef]
    simp[e1]
  ·have kd:iT S i0 i1 ws=0:=by simp[iT,c0,e0]
   have ef:(fQ us pg st S i0 i1 k lim m P ws).1.1.2=true:=by simp[fQ,hb,kd,ja,i9,p0]
   rw[ef]
   simp[e0]
 ·rw[List.concat_eq_append] at e
  obtain⟨b1,b2,b3⟩:=j6 P hk e
  have ef:(fQ us pg st S i0 i1 k lim m P ws).1.1.2=true:=by simp[fQ,b1]
  rw[ef]
  simp[e]
end
abbrev Bl:=Int×Int
def blCells (its:List Bl):List Value:=its.flatMap fun p=> [.int .i64 p.1,.int .i64 p.2]
theorem uv (a b:List Bl):blCells (a++b)=blCells a++blCells b:=by simp[blCells]
theorem fU (p:Bl)(ps:List Bl):blCells (p::ps)=.int .i64 p.1:: .int .i64 p.2::blCells ps:=by simp[blCells]
theorem kb:∀ps:List Bl,(blCells ps).length=ps.length * 2
 | []=>rfl
 |p::ps=>by rw[fU,List.length_cons,List.length_cons,kb ps,List.length_cons];omega
theorem rG:∀(ps:List Bl) (i:Nat) (p:Bl),ps[i]?=some p→(blCells ps)[i * 2]?=some (.int .i64 p.1)∧(blCells ps)[i * 2+1]?=some (.int .i64 p.2)
 | [],i,p,h=>by cases h
 |q::ps,0,p,h=>by
  simp at h;subst h
  rw[fU];exact⟨rfl,rfl⟩
 |q::ps,i+1,p,h=>by
  have:=rG ps i p (by simpa using h)
  rw[fU,show(i+1) * 2=i * 2+1+1 by omega]
  exact this
theorem zW {ps:List Bl} :∀u∈blCells ps,u.oneCell'=true:=by
 intro u hu
 obtain⟨p,_,hp⟩:=List.mem_flatMap.1 hu
 rcases List.mem_cons.1 hp with rfl|hp
 ·rfl
 ·obtain rfl:=List.mem_singleton.1 hp;rfl
theorem xG (ps:List Bl)(i:Nat):blCells (ps.take i)=(blCells ps).take (i * 2):=by
 induction ps generalizing i with
 |nil=>simp[blCells]
 |cons p ps ih =>
  cases i with
  |zero=>simp[blCells]
  |succ i=>rw[List.take_succ_cons,fU,fU,ih,show(i+1) * 2=i * 2+1+1 by omega];rfl
theorem xH (ps:List Bl)(i:Nat):blCells (ps.drop i)=(blCells ps).drop (i * 2):=by
 induction ps generalizing i with
 |nil=>simp[blCells]
 |cons p ps ih =>
  cases i with
  |zero=>simp
  |succ i=>rw[List.drop_succ_cons,fU,ih,show(i+1) * 2=i * 2+1+1 by omega];rfl
theorem IU:∃i:TypeInfo,Tryz.prog.info? 48=some i∧i.zero=some (.agg #[.int .i64 0,.int .i64 0])∧i.size=2∧i.bytes=16:=by
 have h1:(Tryz.prog.info? 48).map (·.size)=some 2:=by kernel_rfl
 have h2:(Tryz.prog.info? 48).bind (·.zero)=some (.agg #[.int .i64 0,.int .i64 0]):=by kernel_rfl
 have h3:(Tryz.prog.info? 48).map (·.bytes)=some 16:=by kernel_rfl
 cases q:Tryz.prog.info? 48 with
 |none=>rw[q] at h1;simp at h1
 |some i=>rw[q] at h1 h2 h3;exact⟨i,rfl,by simpa using h2,by simpa using h1,by simpa using h3⟩
def BlR (base:Nat)(w:World)(v:Value)(its:List Bl):Prop:=w.ownsRow base 48 2 v its.length (blCells its)
theorem BlR.nil (base:Nat)(w:World):BlR base w (.slice none 0 0) []:=World.ownsRow_nil w base _ 2
theorem BlR.more {base:Nat}{w w':World}{v:Value}{its:List Bl}(h:BlR base w v its)(m:ae w w'):BlR base w' v its:=pp h m
theorem BlR.low {base base':Nat}{w:World}{v:Value}{its:List Bl}(h:BlR base w v its)(hb:base'≤base):BlR base' w v its:=ra h hb
theorem BlR.keep {base:Nat}{w w':World}{v:Value}{its:List Bl}(h:BlR base w v its){S:Nat→Prop}(t:Turned S w w')(hs:∀k,S k→∃cs T fr,w.heap[k]?=some (.cells cs T fr)∧T≠48):BlR base w' v its:=by
 refine⟨h.1,?_⟩
 rcases h.2 with q|⟨g,cap,cur,h1,h2,h3,h4⟩
 ·exact .inl q
 ·refine .inr ⟨g,cap,cur,h1,h2,?_,h4⟩
  rw[t.block g (ac h3) (fun q=>by
   obtain⟨cs,T,fr,e,hne⟩:=hs g q
   rw[h3] at e;cases e;exact hne rfl)]
  exact h3
theorem BlR.one {base:Nat}{w:World}{v:Value}{its:List Bl}(h:BlR base w v its):v.oneCell'=true:=by
 rcases h.2 with⟨rfl,_⟩|⟨g,cap,cur,rfl,_⟩<;>rfl
theorem BlR.reads {base:Nat}{w:World}{v:Value}{its:List Bl}(h:BlR base w v its):
 ∃a cap,v=.slice a its.length cap∧its.length≤cap∧(a=none→cap=0)∧∀g,a=some g→g=⟨g.block,0,none⟩∧∀j u,(blCells its)[j]?=some u→w.cell? ⟨g.block,j,none⟩=some u:=by
 rcases h.2 with⟨rfl,h0⟩|⟨g,cap,cur,rfl,hb,hg,hn,_,hs,ht⟩
 ·exact⟨none,0,by rw[h0],by omega,fun _=>rfl,fun g q=>by cases q⟩
 ·refine⟨_,cap,rfl,hn,(fun q=>by cases q),fun q hq=>?_⟩
  cases hq
  refine⟨rfl,fun j u hj=>?_⟩
  have hj':j<its.length * 2:=by have:=(List.getElem?_eq_some_iff.1 hj).1;rw[kb] at this;exact this
  have e:cur.toList[j]?=some u:=by
   have h1:(cur.toList.take (its.length * 2))[j]?=some u:=by rw[ht];exact hj
   rw[List.getElem?_take,if_pos (by omega)] at h1
   exact h1
  simp[World.cell?,hg]
  simpa using e
theorem BlR.at {base:Nat}{w:World}{v:Value}{its:List Bl}(h:BlR base w v its):∃a cap,v=.slice a its.length cap∧its.length≤cap∧(a=none→cap=0)∧∀k p,its[k]?=some p→∃g,a=some ⟨g,0,none⟩∧w.cell? ⟨g,k * 2,none⟩=some (.int .i64 p.1)∧w.cell? ⟨g,k * 2+1,none⟩=some (.int .i64 p.2):=by
 obtain⟨a,cap,rfl,hc,h0,hr⟩:=h.reads
 refine⟨a,cap,rfl,hc,h0,fun k p hk=>?_⟩
 have hlt:=(List.getElem?_eq_some_iff.1 hk).1
 cases a with
 |none=>have:=h0 rfl;omega
 |some g =>
  obtain⟨e,hcell⟩:=hr g rfl
  obtain⟨q1,q2⟩:=rG its k p hk
  exact⟨g.block,by rw[←e],hcell _ _ q1,hcell _ _ q2⟩
def zX (w:World)(u:Value)(news:List Bl):Prop:=(u=.slice none 0 0∧news= [])∨∃p c,u=.slice (some p) news.length c∧∀j x,(blCells news)[j]?=some x→w.cell? (p.add j)=some x
theorem xI {o:Oper}{a:Act}{K:Act→World→Prop}{Q:Exit→Act→World→Prop}{w:World}{base:Nat}{v u:Value}{its news:List Bl}(s x:Operand)
 (ho:o.op=.call { callee:= .builtin .append,args:= #[s,x],argTypes:= #[35,35] })
 (hs:a.eval s=v) (hv:BlR base w v its) (hb:base≤w.heap.size) (hx:a.eval x=u) (hu:zX w u news) (hl:its.length+news.length≤1000000)
 (h:∀v' w',BlR base w' v' (its++news)→Turned (fun k=>v.ownBlock=some k) w w'→(∀k,v'.ownBlock=some k→v.ownBlock=some k∨k=w.heap.size)→K (a.put o.dst v') w'):o.wp Tryz.prog a w K Q:=by
 obtain⟨i,i1,i2,i3,i4⟩:=IU
 rcases hu with⟨rfl,rfl⟩|⟨p,c,rfl,hc⟩
 ·have hrun:=run_append_owned_none (P:=Tryz.prog) (w:=w) base 35 o.type 48 i 2 Tryz.underlying35 i1 v its.length _ hv
  unfold Oper.wp
  simp[execOp,ho,resolve,invoke,builtin,hs,hx,hrun,Result.andThen]
  exact h _ _ (by simpa using hv) (Turned.refl _ _) (fun k q=> .inl q)
 ·obtain⟨v',w',hr,h2,h3,_,h5⟩:=run_append_own_at (P:=Tryz.prog) w base 35 o.type 48 i _ 2 16 Tryz.underlying35 i1 i2 i3 i4 rfl (by omega) v its.length _ hv p news.length c (blCells news) (kb news) hc zW (by simp only[maxLen];omega) (by omega) hb
  unfold Oper.wp execOp
  simp only[ho,resolve,invoke,builtin,Sem.run_bind,Sem.run_pure,Result.andThen_ok,List.map_toArray,List.map_cons,List.map_nil,hs,hx,hr]
  refine h v' w' ?_ ⟨h3.os,h3.tape,h3.output,h3.size,fun k hk hne=>h3.block k hk (fun e=>hne e.symm)⟩ (fun k q=>?_)
  ·unfold BlR
   rw[List.length_append,uv]
   exact h2
  ·rcases h5 with h5|h5
   ·exact .inl (by rw[←h5];exact q)
   ·rw[h5] at q;cases q;exact .inr rfl
section
variable {ops:Array Oper}{C:World→Prop}{o':Oper}{a:Act}
theorem uT {x y:Operand}{g n cap m:Nat}(hw:Region.wanted o' (yielded ops a.tmps)=true)(ho:o'.op=.slice 35 x none (some y) none)(hx:a.eval x=.slice (some ⟨g,0,none⟩) n cap)(hy:a.eval y=.int .i64 (m:Int))(hm:m≤cap):bM Tryz.prog ops C o' (.slice (some ⟨g,0,none⟩) m cap) a:=by
 have d1:decide (m≤cap)=true:=by simp[hm]
 refine .inl ⟨hw,fun W hW=>?_⟩
 unfold execOp
 generalize a.eval=ρ at hx hy⊢
 simp only[ho,hx,hy]
 go_simp
def hiB (g m cap:Nat):Addr:=if cap=m+1 then⟨g,0,none⟩ else⟨g,(m+1) * 2,none⟩
theorem uU {x y:Operand}{g n cap m:Nat}(hw:Region.wanted o' (yielded ops a.tmps)=true)(ho:o'.op=.slice 35 x (some y) none none)(hx:a.eval x=.slice (some ⟨g,0,none⟩) n cap)(hy:a.eval y=.int .i64 ((m:Int)+1))(hm:m<n)(hn:n≤cap):bM Tryz.prog ops C o' (.slice (some (hiB g m cap)) (n-(m+1)) (cap-(m+1))) a:=by
 refine .inl ⟨hw,fun W hW=>?_⟩
 unfold execOp
 generalize a.eval=ρ at hx hy⊢
 simp only[ho,hx,hy]
 go_simp
 rw[if_pos ⟨by omega,by omega⟩]
 unfold hiB
 split<;>rfl
theorem uV {x y:Operand}{g n cap m:Nat}(hw:Region.wanted o' (yielded ops a.tmps)=true)(ho:o'.op=.indexAddr 35 x y)(hx:a.eval x=.slice (some ⟨g,0,none⟩) n cap)(hy:a.eval y=.int .i64 (m:Int))(hm:m<n):bM Tryz.prog ops C o' (.pointer (some ⟨g,m * 2,none⟩)) a:=by
 have d1:decide (m<n)=true:=by simp[hm]
 refine .inl ⟨hw,fun W hW=>?_⟩
 unfold execOp
 generalize a.eval=ρ at hx hy⊢
 simp only[ho,hx,hy]
 go_simp
end
theorem KH {o:Oper}{a:Act}{w:World}{K:Act→World→Prop}{Q:Exit→Act→World→Prop}(ho:o.op=.buildSlice 35 0 #[])(h:K (a.put o.dst (.slice (some ⟨w.heap.size,0,none⟩) 0 0)) (w.alloc (.cells #[] 48))):Oper.wp Tryz.prog o a w K Q:=by
 unfold Oper.wp Oper.upon execOp
 simp only[ho]
 generalize a.eval=ρ
 go_simp
 exact h
theorem Cd {W:World}{g cv j:Nat}{its:List Bl}(hc:∀i x,(blCells its)[i]?=some x→W.cell? ⟨g,i,none⟩=some x)(hj:j≤its.length):zX W (.slice (some ⟨g,0,none⟩) j cv) (its.take j):=by
 have hl:(its.take j).length=j:=by simp;omega
 refine .inr ⟨⟨g,0,none⟩,cv,by rw[hl],fun i x hi=>?_⟩
 rw[js,Nat.zero_add]
 refine hc i x ?_
 rw[xG,List.getElem?_take] at hi
 split at hi
 ·exact hi
 ·cases hi
theorem Ce {W:World}{g cv m c:Nat}{its:List Bl}(hc:∀i x,(blCells its)[i]?=some x→W.cell? ⟨g,i,none⟩=some x)(hm:m<its.length)(hn:its.length≤cv):zX W (.slice (some (hiB g m cv)) (its.length-(m+1)) c) (its.drop (m+1)):=by
 have hl:(its.drop (m+1)).length=its.length-(m+1):=by simp
 refine .inr ⟨hiB g m cv,c,by rw[hl],fun i x hi=>?_⟩
 have hi':=(List.getElem?_eq_some_iff.1 hi).1
 rw[kb,hl] at hi'
 have e:hiB g m cv=⟨g,(m+1) * 2,none⟩:=by unfold hiB;rw[if_neg (by omega)]
 rw[e,js]
 refine hc _ x ?_
 rw[xH,List.getElem?_drop] at hi
 exact hi
theorem AG.skipO {m:Nat}{a:Act}{L:List (Nat×Value)}(h:AG m a L)(v:Value):AG m (a.put none v) L:=h
end Go.Proofs.YtddmeghbmdfgeaaGreatDoor
