/-
  Going through the blocks of stacks, each of which is kept no more: the iterator's promise.
-/
import Derived.Test.YtddmeghbmdfgeaaGreatDoorFlAq
import Derived.Test.YtddmeghbmdfgeaaGreatDoorFlAr
import Derived.Test.YtddmeghbmdfgeaaGreatDoorFlAp
import Derived.Test.YtddmeghbmdfgeaaGreatDoorFlAi
import Derived.Test.YtddmeghbmdfgeaaGreatDoorFlAh
set_option maxRecDepth 100000
set_option maxHeartbeats 8000000
set_option linter.unusedVariables false
set_option linter.unusedSimpArgs false
set_option linter.unusedSectionVars false
namespace Go.Proofs.YtddmeghbmdfgeaaGreatDoor
open Go.RowKit Go.Sort Go.Maps Go.Shelf
attribute [local go_sem] Oper.semAt_some
def mea (kn:Int→Option Int)(D:List KV)(b l:Int):Nat :=
 match dN kn D b with
 |some y=>(a8 l y).toNat
 |none=>0
theorem IM (kn:Int→Option Int)(D:List KV){b l:Int}(hl:0≤l):mea kn D b l≤l.toNat:=by
 unfold mea
 split
 ·rename_i y _
  have:=kj (y:=y) hl
  omega
 ·omega
theorem Du {n:Nat}{b l:Int}(H:d8 b l n){kn:Int→Option Int}{D D1:List KV}{a:Int}(hD:cF n D)(e:ed b l kn D=.ok (a,true) D1):mea kn D1 b l<mea kn D b l:=by
 have h1:=H.b1;have h0:=H.l0
 unfold ed jU jG at e
 cases er:cW b kn D with
 |need x=>rw[ah (ah (ah er))] at e;cases e
 |ok y D' =>
  obtain⟨rfl,hy⟩:=gC er
  rw[ak (ak (ak er))] at e
  simp only[Bool.false_eq_true,if_false] at e
  have hk:=kj (y:=y) h0
  split at e
  ·cases e
  ·rename_i hz
   have hpos:0<a8 l y:=by
    unfold dv at hz
    split at hz
    ·omega
    ·omega
   cases e2:cW (dv b l (a8 l y-1)) kn D' with
   |need x=>rw[ah e2] at e;cases e
   |ok z D2 =>
    obtain⟨rfl,_⟩:=gC e2
    rw[ak e2] at e
    have eD:D1=eE D2 b (a8 l y-1):=by cases e;rfl
    have hw1:dN kn D1 b=some (a8 l y-1):=by
     rw[eD]
     unfold dN eE
     rw[if_neg (by omega),if_neg (by omega),pO hD.asc,if_pos rfl];rfl
    unfold mea
    rw[hw1,hy]
    simp only
    have e3:a8 l (a8 l y-1)=a8 l y-1:=by
     generalize a8 l y=q at *
     unfold a8
     rw[if_pos (by omega)]
    rw[e3]
    omega
theorem jV {σ:Type}(Q:World→σ→Prop)(μ:σ→Nat):∃mes:World→Nat,∀w,(∃s,Q w s)→∃s,Q w s∧μ s=mes w∧∀s',Q w s'→mes w≤μ s':=by
 have key:∀w,∃m:Nat,(∃s,Q w s)→∃s,Q w s∧μ s=m∧∀s',Q w s'→m≤μ s':=fun w=>by
  by_cases h:∃s,Q w s
  ·obtain⟨s,hs⟩:=h
   have go:∀(k:Nat) (s:σ),Q w s→μ s≤k→∃s,Q w s∧∀s',Q w s'→μ s≤μ s':=by
    intro k
    induction k with
    |zero=>exact fun s hs hk=>⟨s,hs,fun s' _=>by omega⟩
    |succ k ih =>
     intro s hs hk
     by_cases hl:∃s',Q w s'∧μ s'<μ s
     ·obtain⟨s',q1,q2⟩:=hl
      exact ih s' q1 (by omega)
     ·exact⟨s,hs,fun s' q=>Nat.le_of_not_lt fun r=>hl ⟨s',q,r⟩⟩
   obtain⟨s,q1,q2⟩:=go (μ s) s hs (Nat.le_refl _)
   exact⟨μ s,fun _=>⟨s,q1,rfl,q2⟩⟩
  ·exact⟨0,fun q=>absurd q h⟩
 exact⟨fun w=>Classical.choose (key w),fun w=>Classical.choose_spec (key w)⟩
def xE (n:Nat)(kn:Int→Option Int)(p vb fb sb cap:Nat)(cur:Array Value)(sh:List (Int×Int)):xL LsS where
 enc s:= #[.int .i64 s.a]
 See s A:=aK A s.F p kn s.D∧cF n s.D∧A.heap[vb]?=some (.cells #[.pointer (some ⟨p,0,none⟩)] 43 (0,0))∧A.heap[fb]?=some (.cells #[.slice (some ⟨sb,0,none⟩) sh.length cap] 93 (0,0))∧∃fr,A.heap[sb]?=some (.cells cur 96 fr)
 Own s s' A B:=∃b l D1 F1 a,sh[s.i]?=some (b,l)∧ed b l kn s.D=.ok (a,true) D1∧s'=⟨s.i,s.P,D1,F1,a⟩∧aK B F1 p kn D1∧Turned s.F A B∧∀k,F1 k→s.F k∨A.heap.size≤k
 Fin s s' A B:=s'=s∧sh.length≤s.i∧ae A B
 Ned s ch A B:=∃b l a,sh[s.i]?=some (b,l)∧ed b l kn s.D=.need a∧ch=aY p∧aQ B p a∧Turned s.F A B
 Skp s s' A B:=∃b l D1 F1 a,sh[s.i]?=some (b,l)∧ed b l kn s.D=.ok (a,false) D1∧s'=⟨s.i+1,s.P,D1,F1,s.a⟩∧aK B F1 p kn D1∧Turned s.F A B∧∀k,F1 k→s.F k∨A.heap.size≤k
 Rel s s' A B:=s'.i=s.i∧(∀b l,sh[s.i]?=some (b,l)→dN kn s'.D b=dN kn s.D b)∧(∀k,s'.F k→s.F k∨A.heap.size≤k)∧A.heap.size≤B.heap.size∧∀k cs t fr,¬s.F k→A.heap[k]?=some (.cells cs t fr)→B.heap[k]?=some (.cells cs t fr)
theorem zS (q:Nat)(hq:1≤q){n:Nat}(p vb fb sb cap:Nat)(cur:Array Value)(sh:List (Int×Int))(hsh:sh.length≤1000)(hcap:sh.length≤cap)(hok:∀s∈sh,d8 s.1 s.2 n)(hcur:∀i b l,sh[i]?=some (b,l)→cur[i * 2]?=some (.int .i64 b)∧cur[i * 2+1]?=some (.int .i64 l))(kn:Int→Option Int)(hk:OkK kn)(s0:LsS)(w0:World)(h00:s0.i=0):
 Aa (xE n kn p vb fb sb cap cur sh) Fence.wide q Tryz.prog 88 #[.pointer (some ⟨fb,0,none⟩),.pointer (some ⟨vb,0,none⟩)] s0 w0:=by
 intro l J J' Je Jx W hW mJ mJ' mJe mJx hsee hown hfin hned hskp hY h0
 have HSEE:=hQQ hsee
 have HOWN:=hQQ hown
 have HFIN:=hQQ hfin
 have HNED:=hQQ hned
 have HSKP:=hQQ hskp
 have MJ:=hQQ mJ
 have HY:=hQQ hY
 have HJ0:=hQQ h0
 have HK:=hQQ hk
 have HOK:=hQQ hok
 have HCUR:=hQQ hcur
 have cf:=(aE (hsee _ _ h0).2.2.2.1).1
 clear hW mJ mJ' mJe mJx hsee hown hfin hned hskp hY h0 hk hok hcur
 refine callsIn_of_wp Tryz.func88 rfl trivial ?_ rfl
 simp only[Tryz.ntmps88,List.size_toArray,List.length_cons,List.length_nil,Nat.reduceAdd,Nat.reduceSub,Array.replicate_succ,Array.replicate_zero,List.push_toArray,List.append_toArray,List.nil_append,List.cons_append]
 gi_wp2
 clear cf
 gi_loopw [10] (fun u wr=>∃(j:Nat) (s:LsS),j≤sh.length∧u=.int .i64 (j:Int)∧s.i=j∧J s wr) (fun u _=>sh.length-(intOf u).toNat)
 case atStart=>exact⟨0,s0,Nat.zero_le _,rfl,h00,HJ0.o⟩
 case round =>
  obtain⟨j,s,hj,rfl,hsj,hJ⟩:=hrel
  by_cases hlt:j<sh.length
  ·have d1:decide ((j:Int)<(sh.length:Int))=true:=by simp;omega
   have d2:decide (j<sh.length)=true:=by simp[hlt]
   have q3:IntKind.i64.wrap ((j:Int)+1)=(j:Int)+1:=aB (by omega) (by omega)
   obtain⟨b,ll,hbl⟩:∃b ll,sh[j]?=some (b,ll):=⟨_,_,List.getElem?_eq_getElem hlt⟩
   have hst:d8 b ll n:=HOK.o (b,ll) (List.mem_of_getElem? hbl)
   obtain⟨_,_,_,_,fr,hsb⟩:=HSEE.o s wr hJ
   obtain⟨u1,u2⟩:=HCUR.o j b ll hbl
   have c1:wr.cell? ⟨sb,j * 2,none⟩=some (.int .i64 b):=by simp[World.cell?,hsb];exact u1
   have c2:wr.cell? ⟨sb,j * 2+1,none⟩=some (.int .i64 ll):=by simp[World.cell?,hsb];exact u2
   have SB:=hQQ hsb
   have HJ1:=hQQ hJ
   have HST:=hQQ hst
   have HBL:=hQQ hbl
   have HSJ:=hQQ hsj
   clear hsb u1 u2 hJ hst hbl hsj
   obtain⟨w1,e1,g1,m1,s1⟩:=bg wr (.cells #[.int .i64 b,.int .i64 ll] 96)
   have hF:¬s.F wr.heap.size:=fun z=>by have:=(HSEE.o s wr HJ1.o).1.lt _ z;omega
   have ST:Hq (∃s',s'.i=j∧J s' w1∧w1.heap[wr.heap.size]?=some (.cells #[.int .i64 b,.int .i64 ll] 96 (0,0))∧¬s'.F wr.heap.size):=hQQ ⟨s,HSJ.o,MJ.o _ _ _ HJ1.o m1,g1,hF⟩
   clear g1 m1 s1 hF SB
   gi_wp2
   clear c1 c2 e1 HJ1 HSJ
   generalize wr.heap.size=gB at ST⊢
   obtain⟨mes,hmes⟩:=jV (fun A s'=>s'.i=j∧J s' A∧A.heap[gB]?=some (.cells #[.int .i64 b,.int .i64 ll] 96 (0,0))∧¬s'.F gB) (fun s'=>mea kn s'.D b ll)
   have HM:=hQQ hmes
   clear hmes
   gi_loopw [6] (fun _ A=>∃s':LsS,s'.i=j∧J s' A∧A.heap[gB]?=some (.cells #[.int .i64 b,.int .i64 ll] 96 (0,0))∧¬s'.F gB) (fun _ A=>mes A)
   case atStart=>exact ST.o
   case round =>
    obtain⟨s1,⟨hs1,hJ1,hb1,hn1⟩,hme,hmin⟩:=HM.o _ hrel
    obtain⟨v1,v2,v3,v4,fr1,v5⟩:=HSEE.o s1 _ hJ1
    have c0:=(aE v3).1
    obtain⟨c1,c2⟩:=k7 hb1
    have PO:=hQQ (Iq HST.o s1.F p kn s1.D wr v1 HK.o v2)
    have HJ:=hQQ hJ1
    have HB:=hQQ hb1
    have HN:=hQQ hn1
    have HS1:=hQQ hs1
    have HME:=hQQ hme
    have HBL1:Hq (sh[s1.i]?=some (b,ll)):=hQQ (by rw[hs1];exact HBL.o)
    have HV2:=hQQ v2
    clear v1 v2 v3 v4 v5 hs1 hJ1 hb1 hn1 hme hmin hrel
    gi_wp2
    refine⟨trivial,?_⟩
    gi_at_call 89
    refine(callsIn_wide.2 PO.o).mono ?_
    intro e W3 he
    clear c0 c1 c2 PO
    rcases hE:ed b ll kn s1.D with a'|⟨⟨x,ok⟩,D1⟩
    ·rw[hE] at he
     obtain⟨rfl,hd,ht⟩:=he
     exact⟨rfl,.inr ⟨_,rfl,HNED.o s1 _ wr W3 HJ.o ⟨b,ll,a',HBL1.o,hE,rfl,hd,ht⟩⟩⟩
    ·rw[hE] at he
     obtain⟨rfl,F1,hv1,ht1,hf1⟩:=he
     cases ok with
     |false =>
      have SK:=hQQ (HSKP.o s1 _ wr W3 HJ.o ⟨b,ll,D1,F1,x,HBL1.o,hE,rfl,hv1,ht1,hf1⟩)
      clear hv1 ht1 hf1 hE
      gi_wp2
      go_roundw
      case rel=>exact⟨j+1,_,by omega,by go_num,by show s1.i+1=j+1;rw[HS1.o],SK.o⟩
      case measure=>simp[intOf];omega
     |true =>
      have hJ':=HOWN.o s1 _ wr W3 HJ.o ⟨b,ll,D1,F1,x,HBL1.o,hE,rfl,hv1,ht1,hf1⟩
      have HB3:Hq (W3.heap[gB]?=some (.cells #[.int .i64 b,.int .i64 ll] 96 (0,0))):=hQQ ((ht1.block gB (ac HB.o) HN.o).trans HB.o)
      have HN3:Hq (¬F1 gB):=hQQ fun z=>by
       rcases hf1 gB z with r|r
       ·exact HN.o r
       ·have:=ac HB.o;omega
      have HMD:=hQQ (Du HST.o HV2.o hE)
      have y9:=HY.o _ W3 hJ'
      rw[show(xE n kn p vb fb sb cap cur sh).enc ⟨s1.i,s1.P,D1,F1,x⟩= #[.int .i64 x] from rfl] at y9
      obtain⟨fn,tmps,assign,body,hy,hR⟩:=y9
      clear hv1 ht1 hf1 hE hJ'
      gi_wp2
      refine hR.mono ?_
      rintro e W4 (⟨rfl,s',⟨r1,r2,r3,r4,r5⟩,hJ3⟩|⟨he,hJx3⟩)
      ·have HJ3:=hQQ hJ3
       have HB4:=hQQ (r5 gB _ _ _ HN3.o HB3.o)
       have HN4:Hq (¬s'.F gB):=hQQ fun z=>by
        rcases r3 gB z with r|r
        ·exact HN3.o r
        ·have:=ac HB3.o;omega
       have HI4:Hq (s'.i=j):=hQQ (r1.trans HS1.o)
       have hm4:mea kn s'.D b ll=mea kn D1 b ll:=by
        unfold mea
        rw[r2 b ll HBL1.o]
       have HLT:Hq (mes W4<mes wr):=hQQ (by
        obtain⟨s2,h2,h3,h4⟩:=HM.o W4 ⟨s',HI4.o,HJ3.o,HB4.o,HN4.o⟩
        have:=h4 s' ⟨HI4.o,HJ3.o,HB4.o,HN4.o⟩
        have:=HMD.o
        have:=HME.o
        omega)
       clear r1 r2 r3 r4 r5 hJ3 hR hy hm4
       gi_wp2
       go_roundw
       case rel=>exact⟨s',HI4.o,HJ3.o,HB4.o,HN4.o⟩
       case measure=>exact HLT.o
      ·rcases he with rfl|⟨ch,rfl⟩
       ·gi_wp2
        refine bodyPost_ret (results_none rfl _ _ _) rfl ?_
        exact .inl ⟨⟨_,rfl⟩,.inr hJx3⟩
       ·exact⟨rfl,.inr ⟨ch,rfl,hJx3⟩⟩
  ·have hi2:sh.length≤s.i:=by omega
   have d1:decide ((j:Int)<(sh.length:Int))=false:=by simp;omega
   have FI:=hQQ (HFIN.o s s wr wr hJ ⟨rfl,hi2,ae.refl _⟩)
   gi_wp2
   go_end0
   exact .inl ⟨⟨_,rfl⟩,.inl ⟨s,FI.o⟩⟩
attribute [local go_sem] Oper.semAt_some
structure UpS where
 i:Nat
 L:List Int
 D:List KV
 F:Nat→Prop
 G:Nat→Prop
 a:Int
inductive NxR where
 |told (i:Nat) (a:Int)
 |skip (i:Nat)
 |fin
abbrev Bxs:=List (Nat×Array Value×TypeId×(Nat×Nat))
def zq0 (Bs:Bxs)(A:World):Prop:=∀b∈Bs,A.heap[b.1]?=some (.cells b.2.1 b.2.2.1 b.2.2.2)
def upI (n:Nat)(kn:Int→Option Int)(p most bt:Nat)(Bs:Bxs)(nx:Nat→Prg NxR):xL UpS where
 enc s:= #[.int .i64 s.a]
 See s A:=aK A s.F p kn s.D∧cF n s.D∧zq0 Bs A∧(dg bt A∧¬s.F 0∧¬s.F bt)∧∀k,s.G k→k<A.heap.size
 Own s s' A B:=∃i' a D1 F1,nx s.i kn s.D=.ok (.told i' a) D1∧s'=⟨i',s.L,D1,F1,s.G,a⟩∧aK B F1 p kn D1∧Turned s.F A B∧∀k,F1 k→s.F k∨A.heap.size≤k
 Fin s s' A B:=∃D1 F1,nx s.i kn s.D=.ok .fin D1∧s'=⟨s.i,s.L,D1,F1,s.G,s.a⟩∧aK B F1 p kn D1∧Turned s.F A B∧∀k,F1 k→s.F k∨A.heap.size≤k
 Ned s ch A B:=∃a,nx s.i kn s.D=.need a∧ch=aY p∧aQ B p a∧Turned s.F A B
 Skp s s' A B:=∃i' D1 F1,nx s.i kn s.D=.ok (.skip i') D1∧s'=⟨i',s.L,D1,F1,s.G,s.a⟩∧aK B F1 p kn D1∧Turned s.F A B∧∀k,F1 k→s.F k∨A.heap.size≤k
 Rel s s' A B:=s'.i=s.i∧s'.D=s.D∧s'.F=s.F∧s'.L.length=s.L.length+1∧s'.L.length<most∧(∀k,s'.G k→s.G k∨A.heap.size≤k)∧A.heap.size≤B.heap.size∧∀k cs t fr,¬s.G k→A.heap[k]?=some (.cells cs t fr)→B.heap[k]?=some (.cells cs t fr)
def uJ (sh:List (Int×Int))(i:Nat):Prg NxR:=match sh[i]? with
 |some s=>ar (ed s.1 s.2) fun x=>aA (if x.2 then .told i x.1 else .skip (i+1))
 |none=>aA .fin
theorem Ku {sh:List (Int×Int)}{i:Nat}{b l:Int}(h:sh[i]?=some (b,l)):uJ sh i=ar (ed b l) fun x=>aA (if x.2 then .told i x.1 else .skip (i+1)):=by
 unfold uJ;rw[h]
theorem vU {sh:List (Int×Int)}{i:Nat}(h:sh[i]?=none):uJ sh i=aA .fin:=by
 unfold uJ;rw[h]
def zT (p vb fb sb cap:Nat)(cur:Array Value)(fr:Nat×Nat)(len:Nat):Bxs:= [(vb,#[.pointer (some ⟨p,0,none⟩)],43,(0,0)),(fb,#[.slice (some ⟨sb,0,none⟩) len cap],93,(0,0)),(sb,cur,96,fr)]
theorem xF {p vb fb sb cap len:Nat}{cur:Array Value}{fr:Nat×Nat}{A:World}(h:zq0 (zT p vb fb sb cap cur fr len) A):A.heap[vb]?=some (.cells #[.pointer (some ⟨p,0,none⟩)] 43 (0,0))∧A.heap[fb]?=some (.cells #[.slice (some ⟨sb,0,none⟩) len cap] 93 (0,0))∧A.heap[sb]?=some (.cells cur 96 fr):=
 ⟨h (vb,#[.pointer (some ⟨p,0,none⟩)],43,(0,0)) (by simp[zT]),h (fb,#[.slice (some ⟨sb,0,none⟩) len cap],93,(0,0)) (by simp[zT]),h (sb,cur,96,fr) (by simp[zT])⟩
theorem Fk (q:Nat)(hq:1≤q){n:Nat}(p most bt vb fb sb cap:Nat)(cur:Array Value)(fr:Nat×Nat)(sh:List (Int×Int))(hsh:sh.length≤1000)(hcap:sh.length≤cap)(hok:∀s∈sh,d8 s.1 s.2 n)(hcur:∀i b l,sh[i]?=some (b,l)→cur[i * 2]?=some (.int .i64 b)∧cur[i * 2+1]?=some (.int .i64 l))(kn:Int→Option Int)(hk:OkK kn)(s0:UpS)(w0:World)(h00:s0.i=0):
 Aa (upI n kn p most bt (zT p vb fb sb cap cur fr sh.length) (uJ sh)) Fence.wide q Tryz.prog 88 #[.pointer (some ⟨fb,0,none⟩),.pointer (some ⟨vb,0,none⟩)] s0 w0:=by
 intro l J J' Je Jx W hW mJ mJ' mJe mJx hsee hown hfin hned hskp hY h0
 have HSEE:=hQQ hsee
 have HOWN:=hQQ hown
 have HFIN:=hQQ hfin
 have HNED:=hQQ hned
 have HSKP:=hQQ hskp
 have MJ:=hQQ mJ
 have HY:=hQQ hY
 have HJ0:=hQQ h0
 have HK:=hQQ hk
 have HOK:=hQQ hok
 have HCUR:=hQQ hcur
 have cf:=(aE (xF (hsee _ _ h0).2.2.1).2.1).1
 clear hW mJ mJ' mJe mJx hsee hown hfin hned hskp hY h0 hk hok hcur
 refine callsIn_of_wp Tryz.func88 rfl trivial ?_ rfl
 simp only[Tryz.ntmps88,List.size_toArray,List.length_cons,List.length_nil,Nat.reduceAdd,Nat.reduceSub,Array.replicate_succ,Array.replicate_zero,List.push_toArray,List.append_toArray,List.nil_append,List.cons_append]
 gi_wp2
 clear cf
 gi_loopw [10] (fun u wr=>∃(j:Nat) (s:UpS),j≤sh.length∧u=.int .i64 (j:Int)∧s.i=j∧J s wr) (fun u _=>sh.length-(intOf u).toNat)
 case atStart=>exact⟨0,s0,Nat.zero_le _,rfl,h00,HJ0.o⟩
 case round =>
  obtain⟨j,s,hj,rfl,hsj,hJ⟩:=hrel
  by_cases hlt:j<sh.length
  ·have d1:decide ((j:Int)<(sh.length:Int))=true:=by simp;omega
   have d2:decide (j<sh.length)=true:=by simp[hlt]
   have q3:IntKind.i64.wrap ((j:Int)+1)=(j:Int)+1:=aB (by omega) (by omega)
   obtain⟨b,ll,hbl⟩:∃b ll,sh[j]?=some (b,ll):=⟨_,_,List.getElem?_eq_getElem hlt⟩
   have hst:d8 b ll n:=HOK.o (b,ll) (List.mem_of_getElem? hbl)
   obtain⟨_,_,hbx,_,hG⟩:=HSEE.o s wr hJ
   have hsb:=(xF hbx).2.2
   obtain⟨u1,u2⟩:=HCUR.o j b ll hbl
   have c1:wr.cell? ⟨sb,j * 2,none⟩=some (.int .i64 b):=by simp[World.cell?,hsb];exact u1
   have c2:wr.cell? ⟨sb,j * 2+1,none⟩=some (.int .i64 ll):=by simp[World.cell?,hsb];exact u2
   have HJ1:=hQQ hJ
   have HST:=hQQ hst
   have HBL:=hQQ hbl
   have HSJ:=hQQ hsj
   have HG:=hQQ hG
   clear hsb u1 u2 hJ hst hbl hsj hG hbx
   obtain⟨w1,e1,g1,m1,s1⟩:=bg wr (.cells #[.int .i64 b,.int .i64 ll] 96)
   have hF:¬s.F wr.heap.size:=fun z=>by have:=(HSEE.o s wr HJ1.o).1.lt _ z;omega
   have hG2:¬s.G wr.heap.size:=fun z=>by have:=HG.o _ z;omega
   have ST:Hq (∃s',s'.i=j∧J s' w1∧w1.heap[wr.heap.size]?=some (.cells #[.int .i64 b,.int .i64 ll] 96 (0,0))∧¬s'.F wr.heap.size∧¬s'.G wr.heap.size):=hQQ ⟨s,HSJ.o,MJ.o _ _ _ HJ1.o m1,g1,hF,hG2⟩
   clear g1 m1 s1 hF hG2 HG
   gi_wp2
   clear c1 c2 e1 HJ1 HSJ
   generalize wr.heap.size=gB at ST⊢
   obtain⟨mes,hmes⟩:=jV (fun A (s':UpS)=>s'.i=j∧J s' A∧A.heap[gB]?=some (.cells #[.int .i64 b,.int .i64 ll] 96 (0,0))∧¬s'.F gB∧¬s'.G gB) (fun s'=>most-s'.L.length)
   have HM:=hQQ hmes
   clear hmes
   gi_loopw [6] (fun _ A=>∃s':UpS,s'.i=j∧J s' A∧A.heap[gB]?=some (.cells #[.int .i64 b,.int .i64 ll] 96 (0,0))∧¬s'.F gB∧¬s'.G gB) (fun _ A=>mes A)
   case atStart=>exact ST.o
   case round =>
    obtain⟨s1,⟨hs1,hJ1,hb1,hn1,hg1⟩,hme,hmin⟩:=HM.o _ hrel
    obtain⟨v1,v2,v3,v4,v5⟩:=HSEE.o s1 _ hJ1
    have c0:=(aE (xF v3).1).1
    obtain⟨c1,c2⟩:=k7 hb1
    have PO:=hQQ (Iq HST.o s1.F p kn s1.D wr v1 HK.o v2)
    have HJ:=hQQ hJ1
    have HB:=hQQ hb1
    have HN:=hQQ hn1
    have HG:=hQQ hg1
    have HS1:=hQQ hs1
    have HME:=hQQ hme
    have HNX:Hq (uJ sh s1.i=ar (ed b ll) fun x=>aA (if x.2 then .told s1.i x.1 else .skip (s1.i+1))):=hQQ (Ku (by rw[hs1];exact HBL.o))
    clear v1 v2 v3 v4 v5 hs1 hJ1 hb1 hn1 hg1 hme hmin hrel
    gi_wp2
    refine⟨trivial,?_⟩
    gi_at_call 89
    refine(callsIn_wide.2 PO.o).mono ?_
    intro e W3 he
    clear c0 c1 c2 PO
    rcases hE:ed b ll kn s1.D with a'|⟨⟨x,ok⟩,D1⟩
    ·rw[hE] at he
     obtain⟨rfl,hd,ht⟩:=he
     exact⟨rfl,.inr ⟨_,rfl,HNED.o s1 _ wr W3 HJ.o ⟨a',by rw[HNX.o];exact ah hE,rfl,hd,ht⟩⟩⟩
    ·rw[hE] at he
     obtain⟨rfl,F1,hv1,ht1,hf1⟩:=he
     cases ok with
     |false =>
      have SK:=hQQ (HSKP.o s1 _ wr W3 HJ.o ⟨s1.i+1,D1,F1,by rw[HNX.o];exact ak hE,rfl,hv1,ht1,hf1⟩)
      clear hv1 ht1 hf1 hE
      gi_wp2
      go_roundw
      case rel=>exact⟨j+1,_,by omega,by go_num,by show s1.i+1=j+1;rw[HS1.o],SK.o⟩
      case measure=>simp[intOf];omega
     |true =>
      have hJ':=HOWN.o s1 _ wr W3 HJ.o ⟨s1.i,x,D1,F1,by rw[HNX.o];exact ak hE,rfl,hv1,ht1,hf1⟩
      have HB3:Hq (W3.heap[gB]?=some (.cells #[.int .i64 b,.int .i64 ll] 96 (0,0))):=hQQ ((ht1.block gB (ac HB.o) HN.o).trans HB.o)
      have HN3:Hq (¬F1 gB):=hQQ fun z=>by
       rcases hf1 gB z with r|r
       ·exact HN.o r
       ·have:=ac HB.o;omega
      have y9:=HY.o _ W3 hJ'
      rw[show(upI n kn p most bt (zT p vb fb sb cap cur fr sh.length) (uJ sh)).enc ⟨s1.i,s1.L,D1,F1,s1.G,x⟩= #[.int .i64 x] from rfl] at y9
      obtain⟨fn,tmps,assign,body,hy,hR⟩:=y9
      clear hv1 ht1 hf1 hE hJ'
      gi_wp2
      refine hR.mono ?_
      rintro e W4 (⟨rfl,s',⟨r1,r2,r3,r4,r5,r6,r7,r8⟩,hJ3⟩|⟨he,hJx3⟩)
      ·have HJ3:=hQQ hJ3
       have HB4:=hQQ (r8 gB _ _ _ HG.o HB3.o)
       have HN4:Hq (¬s'.F gB):=hQQ (by rw[r3];exact HN3.o)
       have HG4:Hq (¬s'.G gB):=hQQ fun z=>by
        rcases r6 gB z with r|r
        ·exact HG.o r
        ·have:=ac HB3.o;omega
       have HI4:Hq (s'.i=j):=hQQ (r1.trans HS1.o)
       have HLT:Hq (mes W4<mes wr):=hQQ (by
        obtain⟨s2,h2,h3,h4⟩:=HM.o W4 ⟨s',HI4.o,HJ3.o,HB4.o,HN4.o,HG4.o⟩
        have h5:mes W4≤most-s'.L.length:=h4 s' ⟨HI4.o,HJ3.o,HB4.o,HN4.o,HG4.o⟩
        have h6:most-s1.L.length=mes wr:=HME.o
        have h7:s'.L.length=s1.L.length+1:=r4
        have h8:s'.L.length<most:=r5
        clear h2 h3 h4 r1 r2 r3 r4 r5 r6 r7 r8
        omega)
       clear r1 r2 r3 r4 r5 r6 r7 r8 hJ3 hR hy
       gi_wp2
       go_roundw
       case rel=>exact⟨s',HI4.o,HJ3.o,HB4.o,HN4.o,HG4.o⟩
       case measure=>exact HLT.o
      ·rcases he with rfl|⟨ch,rfl⟩
       ·gi_wp2
        refine bodyPost_ret (results_none rfl _ _ _) rfl ?_
        exact .inl ⟨⟨_,rfl⟩,.inr hJx3⟩
       ·exact⟨rfl,.inr ⟨ch,rfl,hJx3⟩⟩
  ·have hi2:sh.length≤s.i:=by omega
   have d1:decide ((j:Int)<(sh.length:Int))=false:=by simp;omega
   have hv:=(HSEE.o s wr hJ).1
   have FI:=hQQ (HFIN.o s _ wr wr hJ ⟨s.D,s.F,by rw[vU (List.getElem?_eq_none hi2)];rfl,rfl,hv,Turned.refl _ _,fun k q=> .inl q⟩)
   clear hv
   gi_wp2
   go_end0
   exact .inl ⟨⟨_,rfl⟩,.inl ⟨_,FI.o⟩⟩
def uK (us pg st k:Int)(i:Nat):Prg NxR:=if i=0 then ar (lU pg st k) fun r=>aA (if r then .skip 1 else .fin) else ar (j9 us pg st k) fun x=>aA (if x.2 then .told 0 x.1 else .fin)
def zU (p vb lb cb:Nat)(c:Cfg)(k:Int):Bxs:= [(vb,#[.pointer (some ⟨p,0,none⟩)],43,(0,0)),(lb,c.arr,28,(0,0)),(cb,#[.int .i64 k],3,(0,0))]
theorem nr {p vb lb cb:Nat}{c:Cfg}{k:Int}{A:World}(h:zq0 (zU p vb lb cb c k) A):A.heap[vb]?=some (.cells #[.pointer (some ⟨p,0,none⟩)] 43 (0,0))∧A.heap[lb]?=some (.cells c.arr 28 (0,0))∧A.heap[cb]?=some (.cells #[.int .i64 k] 3 (0,0)):=
 ⟨h (vb,#[.pointer (some ⟨p,0,none⟩)],43,(0,0)) (by simp[zU]),h (lb,c.arr,28,(0,0)) (by simp[zU]),h (cb,#[.int .i64 k],3,(0,0)) (by simp[zU])⟩
theorem B5 (q:Nat)(hq:1≤q){c:Cfg}(R:c.Ok){n:Nat}(H:cH c.pg c.st n)(hn:n≤10000)(p most bt vb lb cb:Nat)(k:Int)(kn:Int→Option Int)(hk:OkK kn)(s0:UpS)(w0:World)(h00:s0.i=1):
 Aa (upI n kn p most bt (zU p vb lb cb c k) (uK c.us c.pg c.st k)) Fence.wide q Tryz.prog 122 #[.pointer (some ⟨vb,0,none⟩),.pointer (some ⟨lb,0,none⟩),.pointer (some ⟨cb,0,none⟩)] s0 w0:=by
 intro l J J' Je Jx W hW mJ mJ' mJe mJx hsee hown hfin hned hskp hY h0
 have HSEE:=hQQ hsee
 have HOWN:=hQQ hown
 have HFIN:=hQQ hfin
 have HNED:=hQQ hned
 have HSKP:=hQQ hskp
 have HY:=hQQ hY
 have HJ0:=hQQ h0
 have HK:=hQQ hk
 have HR:=hQQ R
 have HH:=hQQ H
 clear hW mJ mJ' mJe mJx hsee hown hfin hned hskp hY h0 hk R H
 refine callsIn_of_wp Tryz.func122 rfl trivial ?_ rfl
 simp only[Tryz.ntmps122,List.size_toArray,List.length_cons,List.length_nil,Nat.reduceAdd,Nat.reduceSub,Array.replicate_succ,Array.replicate_zero,List.push_toArray,List.append_toArray,List.nil_append,List.cons_append]
 obtain⟨mes,hmes⟩:=jV (fun A (s':UpS)=>s'.i=1∧J s' A) (fun s'=>most-s'.L.length)
 have HM:=hQQ hmes
 clear hmes
 gi_wp2
 gi_loopw [5] (fun _ A=>∃s':UpS,s'.i=1∧J s' A) (fun _ A=>mes A)
 case atStart=>exact⟨s0,h00,HJ0.o⟩
 case round =>
  obtain⟨s1,⟨hs1,hJ1⟩,hme,hmin⟩:=HM.o _ hrel
  obtain⟨v1,v2,v3,⟨v4,v5,v6⟩,v7⟩:=HSEE.o s1 _ hJ1
  have c0:=(aE (nr v3).1).1
  have LB:=hQQ (nr v3).2.1
  have c1:=(aE (nr v3).2.2).1
  have PO:=hQQ (Mh HR.o HH.o hn s1.F p kn s1.D k wr v1 HK.o v2 bt v4 v5 v6)
  have HJ:=hQQ hJ1
  have HME:=hQQ hme
  have HNX:Hq (uK c.us c.pg c.st k s1.i=ar (j9 c.us c.pg c.st k) fun x=>aA (if x.2 then .told 0 x.1 else .fin)):=hQQ (by unfold uK;rw[hs1];rfl)
  clear v1 v2 v3 v4 v5 v6 v7 hJ1 hme hmin hrel hs1
  gi_wp2_with (refine ej rfl 28 _ rfl _ rfl 28 _ _ _ LB.o Tryz.underlying28 rfl (by kernel_rfl) ?_)
  refine⟨trivial,?_⟩
  gi_at_call 123
  refine(callsIn_wide.2 PO.o).mono ?_
  intro e W3 he
  clear c0 c1 PO LB
  rcases hE:j9 c.us c.pg c.st k kn s1.D with a'|⟨⟨x,ok⟩,D1⟩
  ·rw[hE] at he
   obtain⟨rfl,hd,ht⟩:=he
   exact⟨rfl,.inr ⟨_,rfl,HNED.o s1 _ wr W3 HJ.o ⟨a',by rw[HNX.o];exact ah hE,rfl,hd,ht⟩⟩⟩
  ·rw[hE] at he
   obtain⟨rfl,F1,hv1,ht1,hf1⟩:=he
   cases ok with
   |false =>
    have FI:=hQQ (HFIN.o s1 _ wr W3 HJ.o ⟨D1,F1,by rw[HNX.o];exact ak hE,rfl,hv1,ht1,hf1⟩)
    clear hv1 ht1 hf1 hE
    gi_wp2
    refine⟨fun f hh=>(by cases hh),?_⟩
    gi_wp2
    refine⟨trivial,?_⟩
    gi_wp2
    refine bodyPost_ret (results_none rfl _ _ _) rfl ?_
    exact .inl ⟨⟨_,rfl⟩,.inl ⟨_,FI.o⟩⟩
   |true =>
    have hJ':=HOWN.o s1 _ wr W3 HJ.o ⟨0,x,D1,F1,by rw[HNX.o];exact ak hE,rfl,hv1,ht1,hf1⟩
    have y9:=HY.o _ W3 hJ'
    rw[show(upI n kn p most bt (zU p vb lb cb c k) (uK c.us c.pg c.st k)).enc ⟨0,s1.L,D1,F1,s1.G,x⟩= #[.int .i64 x] from rfl] at y9
    obtain⟨fn,tmps,assign,body,hy,hR⟩:=y9
    clear hv1 ht1 hf1 hE hJ'
    gi_wp2
    refine hR.mono ?_
    rintro e W4 (⟨rfl,s',⟨r1,r2,r3,r4,r5,r6,r7,r8⟩,hJ3⟩|⟨he,hJx3⟩)
    ·obtain⟨v1,v2,v3,⟨v4,v5,v6⟩,v7⟩:=HSEE.o s' _ hJ3
     have c0:=(aE (nr v3).1).1
     have LB:=hQQ (nr v3).2.1
     have c1:=(aE (nr v3).2.2).1
     have PO:=hQQ (Me HR.o HH.o s'.F p kn s'.D k W4 v1 HK.o v2 bt v4 v5 v6)
     have HJ4:=hQQ hJ3
     have HNX4:Hq (uK c.us c.pg c.st k s'.i=ar (lU c.pg c.st k) fun r=>aA (if r then .skip 1 else .fin)):=hQQ (by unfold uK;rw[r1];rfl)
     have HL4:Hq (s'.L.length=s1.L.length+1∧s'.L.length<most):=hQQ ⟨r4,r5⟩
     clear v1 v2 v3 v4 v5 v6 v7 r1 r2 r3 r4 r5 r6 r7 r8 hJ3 hR hy
     gi_wp2_with (refine ej rfl 28 _ rfl _ rfl 28 _ _ _ LB.o Tryz.underlying28 rfl (by kernel_rfl) ?_)
     refine⟨trivial,?_⟩
     gi_at_call 24
     refine(callsIn_wide.2 PO.o).mono ?_
     intro e W5 he
     clear c0 c1 PO LB
     rcases hE:lU c.pg c.st k kn s'.D with a'|⟨ok,D2⟩
     ·rw[hE] at he
      obtain⟨rfl,hd,ht⟩:=he
      exact⟨rfl,.inr ⟨_,rfl,HNED.o s' _ W4 W5 HJ4.o ⟨a',by rw[HNX4.o];exact ah hE,rfl,hd,ht⟩⟩⟩
     ·rw[hE] at he
      obtain⟨rfl,F2,hv1,ht1,hf1⟩:=he
      cases ok with
      |false =>
       have FI:=hQQ (HFIN.o s' _ W4 W5 HJ4.o ⟨D2,F2,by rw[HNX4.o];exact ak hE,rfl,hv1,ht1,hf1⟩)
       clear hv1 ht1 hf1 hE
       gi_wp2
       refine bodyPost_ret (results_none rfl _ _ _) rfl ?_
       exact .inl ⟨⟨_,rfl⟩,.inl ⟨_,FI.o⟩⟩
      |true =>
       have SK:=hQQ (HSKP.o s' _ W4 W5 HJ4.o ⟨1,D2,F2,by rw[HNX4.o];exact ak hE,rfl,hv1,ht1,hf1⟩)
       have HLT:Hq (mes W5<mes wr):=hQQ (by
        obtain⟨s2,h2,h3,h4⟩:=HM.o W5 ⟨_,rfl,SK.o⟩
        have h5:mes W5≤most-s'.L.length:=h4 ⟨1,s'.L,D2,F2,s'.G,s'.a⟩ ⟨rfl,SK.o⟩
        have h6:most-s1.L.length=mes wr:=HME.o
        have h7:=HL4.o
        clear h2 h3 h4 hv1 ht1 hf1 hE
        omega)
       clear hv1 ht1 hf1 hE
       gi_wp2
       go_roundw
       case rel=>exact⟨_,rfl,SK.o⟩
       case measure=>exact HLT.o
    ·rcases he with rfl|⟨ch,rfl⟩
     ·gi_wp2
      refine⟨trivial,?_⟩
      gi_wp2
      refine bodyPost_ret (results_none rfl _ _ _) rfl ?_
      exact .inl ⟨⟨_,rfl⟩,.inr hJx3⟩
     ·exact⟨rfl,.inr ⟨ch,rfl,hJx3⟩⟩
def oF (b:Int):Nat→Nat→List Int→Prg (List Int)
 | 0,_,xs=>aA xs
 |m+1,i,xs=>ar (cW (b+1+i)) fun y=>oF b m (i+1) (xs++ [y])
def oG (b l:Int):Prg (List Int):=ar (jG b l) fun m=>oF b m.toNat 0 []
theorem pF (b:Int):∀(m i:Nat) (xs:List Int),bH (oF b m i xs)
 | 0,_,_=>ai _
 |m+1,i,xs=>aq (dA _) fun y=>pF b m (i+1) _
theorem zV (b l:Int):bH (oG b l):=aq (py b l) fun _=>pF _ _ _ _
theorem ro {b:Int}{n:Nat} :∀(m i:Nat) (xs:List Int),b+1+i+m≤n→bV n (fun ys:List Int=>ys.length=xs.length+m) (oF b m i xs)
 | 0,_,xs,_=>aj n rfl
 |m+1,i,xs,h=>au (bu n (by omega)) fun y _=>dw (ro m (i+1) _ (by omega)) fun ys q=>by rw[q];simp;omega
theorem uj {b l:Int}{n:Nat}(H:d8 b l n):bV n (fun ys:List Int=>(ys.length:Int)≤l) (oG b l):=
 au (gn H) fun m hm=>dw (ro m.toNat 0 [] (by have:=H.hi;omega)) fun ys q=>by rw[q];simp;omega
def uk (b l:Int)(ws:List Int):List Int:=(List.range (a8 l (wAt ws b)).toNat).map fun i:Nat=>wAt ws (b+1+(i:Int))
theorem rp {b:Int}{n:Nat}(hb:0≤b):∀(m i:Nat) (xs:List Int),b+1+i+m≤n→bR n (oF b m i xs) (fun ws=>(xs++(List.range m).map fun j:Nat=>wAt ws (b+1+((i+j:Nat):Int)),ws))
 | 0,i,xs,_=>a6 (ax n xs) fun ws _=>by simp
 |m+1,i,xs,h=>by
  refine a6 (aD (dY (by omega) (by omega)) fun y=>rp hb m (i+1) (xs++ [y]) (by omega)) fun ws _=>?_
  simp only[List.append_assoc,List.range_succ_eq_map,List.map_cons,List.map_map,List.cons_append,List.nil_append]
  congr 2
  congr 1
  refine List.map_congr_left fun j _=>?_
  show _=wAt ws (b+1+((i+(j+1):Nat):Int))
  congr 2
  omega
theorem Ca {α β:Type}{n:Nat}{p:Prg α}{f:α→Prg β}{g:List Int→α×List Int}{k:α→List Int→β×List Int}{Q:α→Prop}(h:bR n p g)(G:bV n Q p)(hf:∀x,Q x→bR n (f x) (k x)):bR n (ar p f) (fun ws=>k (g ws).1 (g ws).2):=fun zs D hn hz hD=>by
 obtain⟨D1,e1,a1,i1⟩:=h zs D hn hz hD
 obtain⟨D2,e2,a2,i2⟩:=hf (g (cj zs D)).1 (G.ok (jy hz) hD e1).2 zs D1 hn hz i1
 refine⟨D2,?_,?_,i2⟩
 ·rw[ak e1,e2,a1]
 ·rw[a2,a1]
theorem Cb {b l:Int}{n:Nat}(H:d8 b l n):bR n (oG b l) (fun ws=>(uk b l ws,ws)):=by
 have h1:=H.b1
 refine a6 (Ca (qW H) (gn H) fun m hm=>rp (by omega) m.toNat 0 [] (by have:=H.hi;omega)) fun ws _=>?_
 unfold uk
 simp
theorem xG {ops:Array Oper}{rest:List Oper}{o:Oper}{a:Act}{Q:Exit→Act→World→Prop}{base:Nat}{w:World}{v:Value}{xs:List Int}(y:Int)(hgd:o.guard=none)(s x:Operand)
 (ho:o.op=.call { callee:= .builtin .append,args:= #[s,x],argTypes:= #[29,29] })
 (hs:a.eval s=v) (hn:Rw base w v xs) (hb:base≤w.heap.size) (hl:xs.length≤1000000)
 (hx:a.eval x=.slice (some ⟨w.heap.size,0,none⟩) 1 1)
 (h:∀v' w',Rw base w' v' (xs++ [y])→Turned (fun k=>v.ownBlock=some k) (w.alloc (.cells #[.int .i64 y] 3)) w'→(∀k,v'.ownBlock=some k→v.ownBlock=some k∨k=(w.alloc (.cells #[.int .i64 y] 3)).heap.size)→wpList Tryz.prog ops Q rest (a.put o.dst v') w'):wpList Tryz.prog ops Q (o::rest) a (w.alloc (.cells #[.int .i64 y] 3)):=by
 have m:ae w (w.alloc (.cells #[.int .i64 y] 3)):=(ae.refl w).alloc _
 exact wpList_plain hgd fun K hK=>CH y s x ho hs (hn.more m) (by have:=m.size;omega) hl hx (bh w _) (fun v' w' h1 h2 h3=>hK _ _ (h v' w' h1 h2 h3))
def eJ (b:Nat)(xs:List Int)(v:Value)(w:World)(F:Nat→Prop):Prop:=gp b F w v xs
theorem Mv {b l:Int}{n:Nat}(H:d8 b l n)(hn:n≤10000)(F:Nat→Prop)(p:Nat)(kn:Int→Option Int)(D:List KV)(w:World)(hv:aK w F p kn D)(hk:OkK kn)(hD:cF n D):
 Calls Tryz.prog 46 #[.pointer (some ⟨p,0,none⟩),.int .i64 b,.int .i64 l] w (fj w F p kn (eJ w.heap.size) (oG b l kn D)):=by
 obtain⟨Rr,hRr⟩:∃Rr,oG b l kn D=Rr:=⟨_,rfl⟩
 rw[hRr]
 obtain⟨w1,e1,hl1,m1,s1⟩:=bg w (.cells #[.int .i64 b,.int .i64 l] 134)
 have nFl:¬F w.heap.size:=fun q=>by have:=hv.lt _ q;omega
 have MM:=hQQ m1
 have L0:=hQQ hl1
 have M0:Hq (MidV w1 w1 F (fun _=>False) p kn n D F):=hQQ (MidV.begin (hv.more m1) hD)
 have KL:Hq (∀wr D' F',MidV w1 wr F (fun _=>False) p kn n D' F'→wr.heap[w.heap.size]?=some (.cells #[.int .i64 b,.int .i64 l] 134 (0,0))):=hQQ fun wr D' F' h=>cI h L0.o nFl (fun q=>q)
 have NEED:Hq (∀a w2,Rr=.need a→aQ w2 p a→Turned (fun b=>F b∨False) w1 w2→fj w F p kn (eJ w.heap.size) Rr (.panicked (aY p)) w2):=hQQ fun a w2 e hd ht=>j5 MM.o (fun _ q=>q.elim) e hd ht
 have DONE:Hq (∀x v w2 D' F',Rr=.ok x D'→MidV w1 w2 F (fun _=>False) p kn n D' F'→(eJ w.heap.size) x v w2 F'→fj w F p kn (eJ w.heap.size) Rr (.returned v) w2):=hQQ fun x v w2 D' F' e h hp=>j6 MM.o (fun _ q=>q.elim) h e hp
 have HK:=hQQ hk
 have HH:=hQQ H
 have HRr:=hQQ hRr
 have hw1:w.heap.size≤w1.heap.size:=by omega
 obtain⟨c0,c1⟩:=k7 hl1
 clear hl1 m1 hv hD hk H nFl hRr
 go_enter Tryz.func46,Tryz.ntmps46
 go_wp2_with fail
 refine(xr HH.o F p kn D w1 M0.o.view HK.o M0.o.inv).mono ?_
 intro e w2 he
 rcases M0.o.step (ae.refl _) HK.o (gn HH.o) he with⟨a',hE,rfl,hd',ht',_⟩|⟨m,D2,F2,hE,rfl,M2',hq2,_,_⟩
 ·exact⟨rfl,NEED.o a' w2 (HRr.o.symm.trans (ah hE)) hd' ht'⟩
 have R2:=hQQ ((ak hE).symm.trans HRr.o)
 have M2:=hQQ M2'
 have b1:=HH.o.b1;have hi1:=HH.o.hi;have ht1:=HH.o.top
 obtain⟨m0,m1⟩:=hq2
 obtain⟨mm,rfl⟩:∃mm:Nat,m=mm:=⟨m.toNat,by omega⟩
 rw[Int.toNat_natCast] at R2
 clear he hE M2' c0 c1 e1
 go_wp2_with fail
 go_loopw [8,16] (fun v i wr=>∃(k:Nat) (xs:List Int) (D':List KV) (F':Nat→Prop),i=.int .i64 (k:Int)∧k≤mm∧MidV w1 wr F (fun _=>False) p kn n D' F'∧gp w1.heap.size F' wr v xs∧xs.length=k∧oF b (mm-k) k xs kn D'=Rr) (fun _ i _=>mm-(intOf i).toNat)
 case atStart=>exact⟨0,[],D2,F2,rfl,Nat.zero_le _,M2.o,gp.nil _ _ _,rfl,R2.o⟩
 case round =>
  obtain⟨k,xs,D',F',rfl,hk,mi,ri,hl,hs⟩:=hrel
  by_cases hlt:k<mm
  ·have d1:decide ((k:Int)<(mm:Int))=true:=by simp;omega
   have q3:IntKind.i64.wrap ((k:Int)+1)=(k:Int)+1:=aB (by omega) (by omega)
   rw[show mm-k=(mm-(k+1))+1 by omega] at hs
   have RI:=hQQ (show ar (cW (b+1+k)) (fun y=>oF b (mm-(k+1)) (k+1) (xs++ [y])) kn D'=Rr from hs)
   have MI:=hQQ mi
   have RWI:=hQQ ri
   have HL:=hQQ hl
   obtain⟨c0,c1⟩:=k7 (KL.o _ _ _ mi)
   have WD:=hQQ (xq b l (k:Int) wr)
   rw[qt HH.o,show dv b l (k:Int)=b+1+k by unfold dv;rw[if_neg (by omega)]] at WD
   clear mi ri hl hs
   go_wp2_with fail
   refine WD.o.mono ?_
   rintro e w4 ⟨rfl,h4⟩
   have M4:=hQQ (MI.o.more h4)
   have R4:=hQQ (RWI.o.more h4)
   clear h4 c0 c1 WD
   go_wp2_with fail
   refine(jf F' p kn D' (b+1+k) w4 M4.o.view (by unfold W64;omega)).mono ?_
   intro e w5 he
   rcases M4.o.step (ae.refl _) HK.o (bu n (by omega)) he with⟨a',hE,rfl,hd',ht',_⟩|⟨y,D5,F5,hE,rfl,M5',hq5,hk5,hn5⟩
   ·exact⟨rfl,NEED.o a' w5 (RI.o.symm.trans (ah hE)) hd' ht'⟩
   have R5:=hQQ ((ak hE).symm.trans RI.o)
   have M5:=hQQ M5'
   have RW5:=hQQ (R4.o.went hk5 hn5)
   have HX:Hq (w1.heap.size≤w5.heap.size):=hQQ M5'.size
   have HL5:Hq (xs.length≤1000000):=hQQ (by have:=HL.o;omega)
   clear he hE M5' hk5 hn5
   go_wp2_with (at_builtin;refine xG y rfl _ _ rfl rfl RW5.o.1 HX.o HL5.o rfl ?_;intro v6 w6 h6 t6 k6;obtain⟨g1,g2⟩:=(M5.o.more ((ae.refl w5).alloc (.cells #[.int .i64 y] 3))).grew (RW5.o.more ((ae.refl w5).alloc _)) (Nat.le_refl _) t6 h6 k6;have M6:=hQQ g1;have R6:=hQQ g2;clear h6 t6 k6 g1 g2)
   go_roundw
   case rel=>exact⟨k+1,xs++ [y],D5,F5,by go_num,by omega,M6.o,R6.o,by rw[List.length_append,HL.o];rfl,R5.o⟩
   case measure=>simp[intOf];omega
  ·obtain rfl:k=mm:=by omega
   have d1:decide ((k:Int)<(k:Int))=false:=by simp
   rw[Nat.sub_self] at hs
   have FIN:=hQQ (DONE.o xs u8 wr D' F' hs.symm mi (ri.mono hw1))
   clear mi ri hl hs
   go_wp2_with fail
   go_ret
   exact FIN.o
attribute [local go_sem] Oper.semAt_some
theorem gp.cells {b:Nat}{F F':Nat→Prop}{w w':World}{v:Value}{xs:List Int}(h:gp b F w v xs)(hk:∀k cs t fr,¬F k→w.heap[k]?=some (.cells cs t fr)→w'.heap[k]?=some (.cells cs t fr))(hf:∀k,F' k→F k∨w.heap.size≤k):gp b F' w' v xs:=by
 obtain⟨r,n⟩:=h
 have key:∀k,v.ownBlock=some k→¬F' k:=fun k q z=>by
  rcases hf k z with y|y
  ·exact(n k q).1 y
  ·have:=(n k q).2.2;omega
 rcases r with⟨h1,q|⟨g,cap,cur,rfl,hb,hg,rest⟩⟩
 ·exact⟨⟨h1,.inl q⟩,fun k q'=>by rw[q.1] at q';cases q'⟩
 ·have hg':=hk g _ _ _ (n g rfl).1 hg
  exact⟨⟨h1,.inr ⟨g,cap,cur,rfl,hb,hg',rest⟩⟩,fun k q=>by
   have:g=k:=by simpa [Value.ownBlock] using q
   subst this
   exact⟨key g rfl,hb,ac hg'⟩⟩
theorem ul {Fc:Fence}{m:Nat}{ops:Array Oper}{rest:List Oper}{o:Oper}{a:Act}{Q:Exit→Act→World→Prop}{base:Nat}{w:World}{v:Value}{xs:List Int}(y:Int)(hgd:o.guard=none)(s x:Operand)
 (ho:o.op=.call { callee:= .builtin .append,args:= #[s,x],argTypes:= #[29,29] })
 (hs:a.eval s=v) (hn:Rw base w v xs) (hb:base≤w.heap.size) (hl:xs.length≤1000000)
 (hx:a.eval x=.slice (some ⟨w.heap.size,0,none⟩) 1 1)
 (h:∀g cap w',Rw base w' (.slice (some ⟨g,0,none⟩) (xs.length+1) cap) (xs++ [y])→Turned (fun k=>v.ownBlock=some k) (w.alloc (.cells #[.int .i64 y] 3)) w'→(v.ownBlock=some g∨g=(w.alloc (.cells #[.int .i64 y] 3)).heap.size)→wpListIn Fc m Tryz.prog ops Q rest (a.put o.dst (.slice (some ⟨g,0,none⟩) (xs.length+1) cap)) w'):wpListIn Fc m Tryz.prog ops Q (o::rest) a (w.alloc (.cells #[.int .i64 y] 3)):=by
 have mo:ae w (w.alloc (.cells #[.int .i64 y] 3)):=(ae.refl w).alloc _
 have hg:=bh w (.cells #[.int .i64 y] 3)
 have hn2:=hn.more mo
 have hb2:=Nat.le_trans hb mo.size
 generalize w.alloc (.cells #[.int .i64 y] 3)=w1 at *
 obtain⟨i,i1,i2,i3,i4⟩:=jc
 refine wpListIn_plain hgd fun K hK'=>?_
 obtain⟨g,cap,w',hrun,h2,h3,h4,h5⟩:=run_append_lies (P:=Tryz.prog) w1 29 o.type base 3 i _ 1 8 Tryz.underlying29 i1 i2 i3 i4 rfl (by omega) v xs.length _ hn2 ⟨w.heap.size,0,none⟩ 1 1 [.int .i64 y] (by simp)
  (fun j u hu=>World.news_of_block hg j u (by simpa using hu)) (by intro u hu;simp at hu;subst hu;rfl) (by omega) (by simp only[maxLen];omega) (by omega) hb2 _ rfl
 have ht:Turned (fun k=>v.ownBlock=some k) w1 w':=⟨h3.os,h3.tape,h3.output,h3.size,fun k hk hne=>h3.block k hk (fun e=>hne e.symm)⟩
 have fin:=h g cap w' (by
  unfold Rw
  rw[List.length_append,List.map_append]
  exact h2) ht h4
 unfold Oper.wpIn
 refine⟨?_,?_⟩
 ·simp[Oper.about,ho,resolve,Target.leads,Sem.run_pure]
 ·rw[Oper.semAt_plain Fc _ _ (by rw[ho];intro c hc';cases hc')]
  simp[execOp,ho,resolve,invoke,builtin,hs,hx,hrun,Result.andThen]
  exact hK' _ _ fin
theorem Mw {v:Value}{g m cap N:Nat}(h:v.ownBlock=some g∨g=N):∀k,(Value.slice (some ⟨g,0,none⟩) m cap).ownBlock=some k→v.ownBlock=some k∨k=N:=fun k q=>by
 have e:g=k:=by simpa [Value.ownBlock] using q
 subst e
 exact h
structure UpZ (w6:World)(F:Nat→Prop)(lb p:Nat)(kn:Int→Option Int)(n base:Nat)(Bs:Bxs)(Sem:UpS→Prop)(s:UpS)(A:World):Prop where
 on:OnV w6 A F (fun k=>k=lb) p kn n s.D s.F
 box:∃v,A.heap[lb]?=some (.cells #[v] 29 (0,0))∧gp base s.F A v s.L∧∀k,v.ownBlock=some k→s.G k
 gl:s.G lb
 g:∀k,s.G k→k<A.heap.size∧¬s.F k∧(k=lb∨w6.heap.size+2≤k)
 bx:zq0 Bs A
 nb:∀b∈Bs,¬s.F b.1∧¬s.G b.1
 sem:Sem s
namespace UpZ
variable {w6:World}{F:Nat→Prop}{lb p:Nat}{kn:Int→Option Int}{n base:Nat}{Bs:Bxs}{Sem:UpS→Prop}{s:UpS}{A B:World}
theorem stays (h:UpZ w6 F lb p kn n base Bs Sem s A)(on:OnV w6 B F (fun k=>k=lb) p kn n s.D s.F)(hs:A.heap.size≤B.heap.size)(hk:∀(k:Nat)(cs:Array Value)(t:TypeId)(fr:Nat×Nat),A.heap[k]?=some (.cells cs t fr)→B.heap[k]?=some (.cells cs t fr)):UpZ w6 F lb p kn n base Bs Sem s B:=by
 obtain⟨v,h1,h2,h3⟩:=h.box
 exact⟨on,⟨v,hk _ _ _ _ h1,h2.cells (fun k cs t fr _ q=>hk k cs t fr q) (fun k q=> .inl q),h3⟩,h.gl,fun k q=>⟨Nat.lt_of_lt_of_le (h.g k q).1 hs,(h.g k q).2⟩,fun b hb=>hk _ _ _ _ (h.bx b hb),h.nb,h.sem⟩
theorem books (hF:∀k,F k→k<w6.heap.size)(s:UpS):i5 w6.heap.size (UpZ w6 F lb p kn n base Bs Sem s):=
 ⟨fun {A A'} h m=>h.stays (h.on.more m) m.size fun k cs t fr q=>m.block q,
  fun {A r} r' h hl=>h.stays (h.on.put hF r' hl) (by simp) fun k cs t fr q=>(World.putObj_heap_other (by rintro rfl;rw[hl] at q;cases q)).trans q⟩
theorem went (h:UpZ w6 F lb p kn n base Bs Sem s A)(hsz:w6.heap.size+2≤A.heap.size){F1:Nat→Prop}{D1:List KV}(hv:aK B F1 p kn D1)(ht:Turned s.F A B)(hf:∀k,F1 k→s.F k∨A.heap.size≤k)(hi:cF n D1){Sem':UpS→Prop}{i:Nat}{a:Int}(hs:Sem' ⟨i,s.L,D1,F1,s.G,a⟩):UpZ w6 F lb p kn n base Bs Sem' ⟨i,s.L,D1,F1,s.G,a⟩ B:=by
 obtain⟨v,h1,h2,h3⟩:=h.box
 have keep:∀k,k<A.heap.size→¬s.F k→B.heap[k]?=A.heap[k]? :=fun k hk nk=>ht.block k hk nk
 refine⟨⟨hv,fun k q=>?_,am h.on.turn ht (fun k q=>(h.on.from' k q).imp .inl (fun r=>by omega)),hi⟩,⟨v,?_,h2.cells (fun k cs t fr nk q=>(keep k (ac q) nk).trans q) hf,h3⟩,h.gl,fun k q=>⟨Nat.lt_of_lt_of_le (h.g k q).1 ht.size,fun z=>?_,(h.g k q).2.2⟩,fun b hb=>?_,fun b hb=>⟨fun z=>?_,(h.nb b hb).2⟩,hs⟩
 ·rcases hf k q with r|r
  ·exact h.on.from' k r
  ·exact .inr (by omega)
 ·exact(keep lb (ac h1) (h.g lb h.gl).2.1).trans h1
 ·rcases hf k z with r|r
  ·exact(h.g k q).2.1 r
  ·have:=(h.g k q).1;omega
 ·have:=h.bx b hb
  exact(keep _ (ac this) (h.nb b hb).1).trans this
 ·rcases hf _ z with r|r
  ·exact(h.nb b hb).1 r
  ·have:=ac (h.bx b hb);omega
theorem push (h:UpZ w6 F lb p kn n base Bs Sem s A)(hsz:w6.heap.size+2≤A.heap.size){o:Obj}{v v':Value}{W2:World}(h1:A.heap[lb]?=some (.cells #[v] 29 (0,0)))(h3:∀k,v.ownBlock=some k→s.G k)(hr:Rw base W2 v' (s.L++ [s.a]))
 (ht:Turned (fun k=>v.ownBlock=some k) (A.alloc o) W2) (hv':∀k,v'.ownBlock=some k→v.ownBlock=some k∨k=(A.alloc o).heap.size) (hlb6:lb<w6.heap.size):
 W2.heap[lb]?=some (.cells #[v] 29 (0,0))∧bM (dJ w6.heap.size) A (W2.setCell ⟨lb,0,none⟩ v')∧(W2.setCell ⟨lb,0,none⟩ v').heap[lb]?=some (.cells #[v'] 29 (0,0))∧A.heap.size≤(W2.setCell ⟨lb,0,none⟩ v').heap.size∧(∀k cs t fr,¬s.G k→A.heap[k]?=some (.cells cs t fr)→(W2.setCell ⟨lb,0,none⟩ v').heap[k]?=some (.cells cs t fr))∧(∀k,(s.G k∨v'.ownBlock=some k)→s.G k∨A.heap.size≤k) ∧
 ∀Sem':UpS→Prop,Sem' ⟨s.i,s.L++ [s.a],s.D,s.F,fun k=>s.G k∨v'.ownBlock=some k,s.a⟩→UpZ w6 F lb p kn n base Bs Sem' ⟨s.i,s.L++ [s.a],s.D,s.F,fun k=>s.G k∨v'.ownBlock=some k,s.a⟩ (W2.setCell ⟨lb,0,none⟩ v'):=by
 have m0:ae A (A.alloc o):=(ae.refl A).alloc o
 have tA:Turned (fun k=>v.ownBlock=some k) A W2:=am (Turned.mono m0 (fun _ _ q=>q.elim)) ht (fun k q=> .inl q)
 have tB:Turned (fun k=>v.ownBlock=some k∨k=lb) A (W2.setCell ⟨lb,0,none⟩ v'):=Turned.setCell (Turned.mono tA (fun k _ q=> .inl q)) ⟨lb,0,none⟩ v' (fun _=> .inr rfl)
 have hG:∀k,(v.ownBlock=some k∨k=lb)→s.G k:=by
  rintro k (q|rfl)
  ·exact h3 k q
  ·exact h.gl
 have own:∀k,v.ownBlock=some k→∃cur fr,A.heap[k]?=some (.cells cur 3 fr):=by
  obtain⟨u,q1,q2,q3⟩:=h.box
  rw[h1] at q1;cases q1
  intro k e
  rcases q2.1.2 with⟨rfl,_⟩|⟨g,cap,cur,rfl,hb,hg,_⟩
  ·cases e
  ·have:g=k:=by simpa [Value.ownBlock] using e
   subst this
   exact⟨_,_,hg⟩
 have nl:v.ownBlock≠some lb:=fun e=>by
  obtain⟨cur,fr,q⟩:=own lb e
  rw[h1] at q;cases q
 have hmap:∀k es cl,v.ownBlock=some k→A.heap[k]? ≠some (.map es cl):=fun k es cl e z=>by
  obtain⟨cur,fr,q⟩:=own k e
  rw[z] at q;cases q
 have hlb:v'.ownBlock≠some lb:=fun e=>by
  rcases hv' lb e with r|r
  ·exact nl r
  ·have:=m0.size;have:=ac h1;omega
 have hl2:W2.heap[lb]?=some (.cells #[v] 29 (0,0)):=(tA.block lb (ac h1) (fun q=>nl q)).trans h1
 have hl3:(W2.setCell ⟨lb,0,none⟩ v').heap[lb]?=some (.cells #[v'] 29 (0,0)):=kF v' hl2
 have keep:∀k,k<A.heap.size→¬s.G k→(W2.setCell ⟨lb,0,none⟩ v').heap[k]?=A.heap[k]? :=fun k hk nk=>tB.block k hk (fun q=>nk (hG k q))
 have grow:∀k,(s.G k∨v'.ownBlock=some k)→s.G k∨A.heap.size≤k:=by
  rintro k (q|q)
  ·exact .inl q
  ·rcases hv' k q with r|r
   ·exact .inl (h3 k r)
   ·right;rw[r];exact m0.size
 have nF:∀k,(s.G k∨v'.ownBlock=some k)→¬s.F k:=fun k q z=>by
  rcases grow k q with r|r
  ·exact(h.g k r).2.1 z
  ·have:=h.on.view.lt k z;omega
 have on':OnV w6 (W2.setCell ⟨lb,0,none⟩ v') F (fun k=>k=lb) p kn n s.D s.F:=by
  refine⟨h.on.view.keepS tB (fun k q z=>(h.g k (hG k z)).2.1 q) (fun k es cl z e=>?_),h.on.from',am h.on.turn tB (fun k z=>?_),h.on.inv⟩
  ·rcases z with z|rfl
   ·exact hmap k es cl z e
   ·rw[h1] at e;cases e
  ·rcases (h.g k (hG k z)).2.2 with r|r
   ·exact .inl (.inr r)
   ·exact .inr (by omega)
 have tC:Turned (fun k=>k=lb) W2 (W2.setCell ⟨lb,0,none⟩ v'):=Turned.setCell (Turned.refl _ W2) ⟨lb,0,none⟩ v' (fun _=>rfl)
 have hr3:Rw base (W2.setCell ⟨lb,0,none⟩ v') v' (s.L++ [s.a]):=hr.keepT tC (fun k q e=>hlb (e▸q))
 refine⟨hl2,bM.turned tB (fun k q=>by rcases q with q|q<;>omega) (fun k q z=>?_),hl3,tB.size,fun k cs t fr nk q=>(keep k (ac q) nk).trans q,grow,fun Sem' hs=>⟨on',⟨v',hl3,⟨hr3,fun k q=>⟨nF k (.inr q),(hr3.own q).1,(hr3.own q).2⟩⟩,fun k q=> .inr q⟩,.inl h.gl,fun k q=>⟨?_,nF k q,?_⟩,fun b hb=>?_,fun b hb=>⟨(h.nb b hb).1,fun z=>?_⟩,hs⟩⟩
 ·rcases (h.g k (hG k z)).2.2 with r|r
  ·rcases q with q|q<;>omega
  ·rcases q with q|q<;>omega
 ·rcases q with q|q
  ·exact Nat.lt_of_lt_of_le (h.g k q).1 tB.size
  ·exact(hr3.own q).2
 ·rcases grow k q with r|r
  ·exact(h.g k r).2.2
  ·exact .inr (by omega)
 ·have:=h.bx b hb
  exact(keep _ (ac this) (h.nb b hb).2).trans this
 ·rcases grow _ z with r|r
  ·exact(h.nb b hb).2 r
  ·have:=ac (h.bx b hb);omega
end UpZ
structure UpH (kn:Int→Option Int)(n most:Nat)(nx:Nat→Prg NxR)(Sem:Nat→List Int→List KV→Prop)(Sem':Nat→List Int→List KV→Int→Prop)(Rr:Res (List Int)):Prop where
 good:∀i,bV n (fun _=>True) (nx i)
 told:∀i L D j a D1,Sem i L D→nx i kn D=.ok (.told j a) D1→Sem' j L D1 a
 skip:∀i L D j D1,Sem i L D→nx i kn D=.ok (.skip j) D1→Sem j L D1
 fin:∀i L D D1,Sem i L D→nx i kn D=.ok .fin D1→Rr=.ok L D1
 need:∀i L D a,Sem i L D→nx i kn D=.need a→Rr=.need a
 less:∀i L D a,Sem' i L D a→L.length<most
 more:∀i L D a,Sem' i L D a→L.length+1<most→Sem i (L++ [a]) D
 full:∀i L D a,Sem' i L D a→¬L.length+1<most→Rr=.ok (L++ [a]) D
theorem IP {w w6 W:World}{F:Nat→Prop}{p:Nat}{kn:Int→Option Int}{n:Nat}{Bs:Bxs}{Rr:Res (List Int)}{s:UpS}{x:Option (List Deferred)}(hF6:∀k,F k→k<w6.heap.size)(m6:ae w w6)(s6:w6.heap.size=w.heap.size+2)(h:UpZ w6 F (w.heap.size+1) p kn n w.heap.size Bs (fun s=>Rr=.ok s.L s.D) s W)(hdf:W.heap[w6.heap.size]?=some (.deferred x)):
 ∃v,W.heap[w.heap.size+1]?=some (.cells #[v] 29 (0,0))∧fj w F p kn (eJ w.heap.size) Rr (.returned v) (W.putObj w6.heap.size (.deferred none)):=by
 obtain⟨v,h1,h2,h3⟩:=h.box
 refine⟨v,h1,?_⟩
 have hon:=h.on.view.keepS (S:=fun k=>k=w6.heap.size) (w':=W.putObj w6.heap.size (.deferred none)) (fy (Turned.refl _ W) _ _ (fun _=>rfl)) (fun k q e=>by subst e;rcases h.on.from' _ q with r|r;have:=hF6 _ r;omega;omega) (fun k es cl e q=>by subst e;rw[hdf] at q;cases q)
 have ht:Turned F w W:=am (Turned.mono m6 (fun k _ q=>(q.elim:F k))) h.on.turn (fun k q=>q.imp id (fun r=>by omega))
 have hs:=h.sem
 try simp only at hs
 rw[hs]
 refine⟨v,s.F,rfl,h2.cells (fun k cs t fr nk q=>(World.putObj_heap_other (by rintro rfl;rw[hdf] at q;cases q)).trans q) (fun k q=> .inl q),hon,fy ht _ _ (fun q=>by omega),fun k q=>(h.on.from' k q).imp id (fun r=>by omega)⟩
def UpX (w6:World)(F:Nat→Prop)(lb p:Nat)(kn:Int→Option Int)(n base:Nat)(Bs:Bxs)(Rr:Res (List Int)):Exit→World→Prop
 | .panic ch,W=>ch=aY p∧∃a,Rr=.need a∧nZ w6 W F (fun k=>k=lb) p a
 | .exit i,W=>i=0∧∃s,UpZ w6 F lb p kn n base Bs (fun s=>Rr=.ok s.L s.D) s W
 | _,_=>False
theorem Fl {w6:World}{F:Nat→Prop}(hF:∀k,F k→k<w6.heap.size){lb p:Nat}{kn:Int→Option Int}{n base:Nat}{Bs:Bxs}{Rr:Res (List Int)}(e:Exit):i5 w6.heap.size (UpX w6 F lb p kn n base Bs Rr e):=by
 cases e with
 |panic ch=>exact⟨fun {A A'} h m=>by obtain⟨h1,a,h2,h3⟩:=h;exact⟨h1,a,h2,h3.more m⟩,fun {A r} r' h hl=>by obtain⟨h1,a,h2,h3⟩:=h;exact⟨h1,a,h2,h3.put hl rfl (by omega) _⟩⟩
 |exit i=>exact⟨fun {A A'} h m=>by obtain⟨h1,s,h2⟩:=h;exact⟨h1,s,(UpZ.books hF s).more h2 m⟩,fun {A r} r' h hl=>by obtain⟨h1,s,h2⟩:=h;exact⟨h1,s,(UpZ.books hF s).put r' h2 hl⟩⟩
 |ret=>exact⟨fun {A A'} h m=>h,fun {A r} r' h hl=>h⟩
 |normal=>exact⟨fun {A A'} h m=>h,fun {A r} r' h hl=>h⟩
 |goto _=>exact⟨fun {A A'} h m=>h,fun {A r} r' h hl=>h⟩
 |outgrown=>exact⟨fun {A A'} h m=>h,fun {A r} r' h hl=>h⟩
theorem IQ {n most bt:Nat}(F:Nat→Prop)(p:Nat)(kn:Int→Option Int)(D:List KV)(hk:OkK kn){nx:Nat→Prg NxR}{Bs:Bxs}{gf:Nat}{lc:Array Value}(heg:∀args w,Sem.run Tryz.prog (callFunc gf args) w=.ok (.enter gf args) w)
 {Sem:Nat→List Int→List KV→Prop} {Sem':Nat→List Int→List KV→Int→Prop} {Rr:Res (List Int)} (U:UpH kn n most nx Sem Sem' Rr) (hm:most≤1000000) (i0:Nat) (w:World) (hseq:∀s0 w0,s0.i=i0→Aa (upI n kn p most bt Bs nx) Fence.wide 2 Tryz.prog gf lc s0 w0)
 (hv:aK w F p kn D) (hD:cF n D) (hs:dg bt w) (nF0:¬F 0) (nFb:¬F bt) (hb:zq0 Bs w) (hnb:∀b∈Bs,¬F b.1) (h0:Sem i0 [] D):
 Calls Tryz.prog 98 #[.int .i64 (most:Int),.func (.func gf) #[] lc] w (fj w F p kn (eJ w.heap.size) Rr):=by
 refine(callsIn_wide (n:=3)).1 ?_
 refine iy Tryz.func98 rfl trivial ?_ rfl
 simp only[Tryz.ntmps98,List.size_toArray,List.length_cons,List.length_nil,Nat.reduceAdd,Nat.reduceSub,Array.replicate_succ,Array.replicate_zero,List.push_toArray,List.append_toArray,List.nil_append,List.cons_append]
 have hF0:∀k,F k→k<w.heap.size:=hv.lt
 obtain⟨w6,e6,hb0,hb1,m6,s6⟩:=gS w (.cells #[.int .i64 (most:Int)] 3) (.cells #[.slice none 0 0] 29)
 have hF6:∀k,F k→k<w6.heap.size:=fun k q=>by have:=hF0 k q;omega
 have hle:w.heap.size+2≤w6.heap.size:=by omega
 refine fl ?_
 gi_wp2
 refine fl ?_
 gi_wp2
 refine rR ?_
 refine fl ?_
 gi_wp2
 have HU:=hQQ U
 have HSQ:=hQQ hseq
 have HK:=hQQ hk
 have Z0:Hq (UpZ w6 F (w.heap.size+1) p kn n w.heap.size Bs (fun s=>Sem s.i s.L s.D) ⟨i0,[],D,F,fun k=>k=w.heap.size+1,0⟩ w6):=hQQ
  ⟨OnV.begin (hv.more m6) hD,⟨_,hb1,gp.nil _ _ _,fun k q=>by cases q⟩,rfl,fun k q=>⟨by subst q;omega,fun z=>by have:=hF0 k z;omega,.inl q⟩,fun b q=>m6.block (hb b q),fun b q=>⟨hnb b q,fun z=>by have:=ac (hb b q);omega⟩,h0⟩
 have KM:Hq (∀W D' F',OnV w6 W F (fun k=>k=w.heap.size+1) p kn n D' F'→W.heap[w.heap.size]?=some (.cells #[.int .i64 (most:Int)] 3 (0,0))):=hQQ fun W D' F' h=>(h.turn.block _ (by omega) (by rintro(q|q);have:=hF0 _ q;omega;omega)).trans hb0
 have KS:Hq (∀W D' F',OnV w6 W F (fun k=>k=w.heap.size+1) p kn n D' F'→dg bt W∧¬F' 0∧¬F' bt):=hQQ fun W D' F' h=>⟨(hs.more m6).keep h.turn (by rintro(q|q);exact nF0 q;have:=hs.lt0;omega) (by rintro(q|q);exact nFb q;have:=hs.lt;omega),fun q=>by rcases h.from' 0 q with r|r;exact nF0 r;omega,fun q=>by rcases h.from' bt q with r|r;exact nFb r;have:=hs.lt;omega⟩
 clear e6 U hseq hk hv hD hs nF0 nFb hb hnb h0 hb0 hb1
 refine nT ?_
 refine uL (upI n kn p most bt Bs nx) (gf:=gf) (lb:=lc) Tryz.func98 rfl (by omega) rfl trivial heg (HSQ.o ⟨i0,[],D,F,fun k=>k=w.heap.size+1,0⟩ w6 rfl) (ae.refl _) (fun s=>rfl)
  (UpZ w6 F (w.heap.size+1) p kn n w.heap.size Bs (fun s=>Sem s.i s.L s.D)) (UpZ w6 F (w.heap.size+1) p kn n w.heap.size Bs (fun s=>Sem' s.i s.L s.D s.a)) (UpZ w6 F (w.heap.size+1) p kn n w.heap.size Bs (fun s=>Rr=.ok s.L s.D)) (UpX w6 F (w.heap.size+1) p kn n w.heap.size Bs Rr) (UpZ.books hF6) (UpZ.books hF6) (UpZ.books hF6) (Fl hF6) Z0.o
  (fun s a' W=>UpZ w6 F (w.heap.size+1) p kn n w.heap.size Bs (fun s=>Sem' s.i s.L s.D s.a) s W∧a'= { tmps:= #[.int .i64 (most:Int),.func (.func gf) #[] lc,.pointer (some ⟨w.heap.size,0,none⟩),undef,.slice none 0 0,.pointer (some ⟨w.heap.size+1,0,none⟩),.int .i64 s.a,.func (.func gf) #[] lc,.int .i64 s.a,undef,undef,undef,undef,undef,undef,undef,undef,undef],defers:= [] })
  (fun s a'=>⟨fun {A A'} h m=>⟨(UpZ.books hF6 s).more h.1 m,h.2⟩,fun {A r} r' h hl=>⟨(UpZ.books hF6 s).put r' h.1 hl,h.2⟩⟩)
  (fun s A _ h=>⟨h.on.view,h.on.inv,h.bx,KS.o _ _ _ h.on,fun k q=>(h.g k q).1⟩)
  (fun s s' A B hz h o=>by
   obtain⟨j,a,D1,F1,hE,rfl,hv1,ht1,hf1⟩:=o
   exact⟨h.on.same hF6 hz ht1,h.went hz hv1 ht1 hf1 ((HU.o.good _).ok HK.o h.on.inv hE).1 (HU.o.told _ _ _ _ _ _ h.sem hE)⟩)
  (fun s s' A B hz h o=>by
   obtain⟨D1,F1,hE,rfl,hv1,ht1,hf1⟩:=o
   exact⟨h.on.same hF6 hz ht1,h.went hz hv1 ht1 hf1 ((HU.o.good _).ok HK.o h.on.inv hE).1 (HU.o.fin _ _ _ _ h.sem hE)⟩)
  (fun s ch A B hz h o=>by
   obtain⟨a,hE,rfl,hd,ht⟩:=o
   exact⟨h.on.same hF6 hz ht,rfl,a,HU.o.need _ _ _ _ h.sem hE,hd,am h.on.turn ht (fun k q=>(h.on.from' k q).imp .inl (fun r=>by omega))⟩)
  (fun s s' A B hz h o=>by
   obtain⟨j,D1,F1,hE,rfl,hv1,ht1,hf1⟩:=o
   exact⟨h.on.same hF6 hz ht1,h.went hz hv1 ht1 hf1 ((HU.o.good _).ok HK.o h.on.inv hE).1 (HU.o.skip _ _ _ _ _ h.sem hE)⟩)
  (fun s s' A B l r0 r1 r r' hA hB h=>by
   obtain⟨h1,h2,h3,h4,h5,h6,h7,h8⟩:=h
   refine⟨h1,h2,h3,h4,h5,fun k q=>(h6 k q).imp id (fun z=>by simpa using z),by simpa using h7,fun k cs t fr nk hk'=>?_⟩
   have e1:(A.putObj l (.loop r)).heap[k]?=some (.cells cs t fr):=(World.putObj_heap_other (by rintro rfl;rw[hA] at hk';cases hk')).trans hk'
   have e2:=h8 k cs t fr nk e1
   exact(World.putObj_heap_other (by rintro rfl;rw[hB] at e2;cases e2)).trans e2)
  ?assign ?body ?done ?stop ?dies
 case assign =>
  rintro l s W K hsz hI hK
  rw[show(upI n kn p most bt Bs nx).enc s= #[.int .i64 s.a] from rfl]
  gi_wp2
 case body =>
  rintro l s a' W hsz ⟨hI,rfl⟩
  obtain⟨v,hv1,hv2,hv3⟩:=hI.box
  have cb:=(aE hv1).1
  have HI:=hQQ hI
  have HB1:=hQQ hv1
  have HB2:=hQQ hv2
  have HB3:=hQQ hv3
  have hlt:=HU.o.less _ _ _ _ hI.sem
  have HBM:=hQQ (KM.o W _ _ hI.on)
  have NGM:Hq (¬s.G w.heap.size):=hQQ fun z=>by rcases (hI.g _ z).2.2 with r|r<;>omega
  clear hv1 hv2 hv3 hI
  gi_wp2_with (gi_at_builtin;refine ul (base:=w.heap.size) s.a rfl _ _ rfl rfl HB2.o.1 (by omega) (by omega) rfl ?_;intro g' cap' W2 hr2 ht2 hv2;obtain⟨hl2,p1,p2,p3,p4,p5,p6⟩:=HI.o.push hsz HB1.o HB3.o hr2 ht2 (Mw hv2) (by omega);have c3:=(aE hl2).1;have d3:=(aE hl2).2;have c4:=(aE p2).1;have c5:=(aE (p4 _ _ _ _ NGM.o HBM.o)).1;have P1:=hQQ p1;have P3:=hQQ p3;have P4:=hQQ p4;have P5:=hQQ p5;have P6:=hQQ p6;clear hr2 ht2 hv2 hl2 p1 p2 p3 p4 p5 p6)
  ·rename_i hh
   exact⟨P1.o,rfl,_,P6.o (fun s=>Rr=.ok s.L s.D) (HU.o.full _ _ _ _ HI.o.sem (by omega))⟩
  ·rename_i hh
   exact⟨P1.o,⟨s.i,s.L++ [s.a],s.D,s.F,fun k=>s.G k∨(Value.slice (some ⟨g',0,none⟩) (s.L.length+1) cap').ownBlock=some k,s.a⟩,⟨rfl,rfl,rfl,by simp,by simp;omega,P5.o,P3.o,P4.o⟩,P6.o _ (HU.o.more _ _ _ _ HI.o.sem (by omega))⟩
 case done =>
  rintro s W hI hdf
  obtain⟨v,hv1,FIN⟩:=IP hF6 m6 s6 hI hdf
  have cb:=(aE hv1).1
  rw[s6] at hdf FIN
  have FIN:=hQQ FIN
  clear hI hv1
  refine rx ?_
  gi_wp2
  refine⟨by simp,.inl ⟨_,_,rfl,run_takeDeferred hdf,?_⟩⟩
  exact⟨v,(results_tmp (t:=4) rfl _ _ _).trans rfl,FIN.o⟩
 case stop =>
  rintro e cc W hj hx hdf
  cases e with
  |exit i =>
   obtain⟨rfl,s,hI⟩:=hx
   cases hj
   obtain⟨v,hv1,FIN⟩:=IP hF6 m6 s6 hI hdf
   have cb:=(aE hv1).1
   have FIN:=hQQ FIN
   clear hI hv1
   gi_wp2
   refine rx ?_
   gi_wp2
   refine⟨by simp,.inl ⟨_,_,rfl,run_takeDeferred hdf,?_⟩⟩
   exact⟨v,(results_tmp (t:=4) rfl _ _ _).trans rfl,FIN.o⟩
  |ret=>exact hx.elim
  |goto _=>exact hx.elim
  |normal=>cases hj
  |panic _=>cases hj
  |outgrown=>cases hj
 case dies =>
  rintro ch W ⟨rfl,a,h2,h3⟩ hdf
  have h4:=h3.put hdf rfl (Nat.le_refl _) (.deferred none)
  refine⟨by simp,.inl ⟨_,_,rfl,run_takeDeferred hdf,?_⟩⟩
  have ht:=am (Turned.mono m6 (fun k _ q=>(q.elim:F k))) h4.2 (fun k q=>q.imp id (fun r=>by omega))
  rw[h2]
  exact⟨rfl,h4.1,ht⟩
theorem fF {β:Type}{p:Prg β}{f:β→NxR}{kn:Int→Option Int}{D D1:List KV}{y:NxR}(h:ar p (fun x=>aA (f x)) kn D=.ok y D1):∃x,p kn D=.ok x D1∧f x=y:=by
 cases e:p kn D with
 |need a=>rw[ah e] at h;cases h
 |ok x D2=>rw[ak e] at h;cases h;exact⟨x,rfl,rfl⟩
theorem qz {β:Type}{p:Prg β}{f:β→NxR}{kn:Int→Option Int}{D:List KV}{a:Int}(h:ar p (fun x=>aA (f x)) kn D=.need a):p kn D=.need a:=by
 cases e:p kn D with
 |need b=>rw[ah e] at h;cases h;rfl
 |ok x D2=>rw[ak e] at h;cases h
section
variable {b l:Int}{n most:Nat}(H:d8 b l n)(kn:Int→Option Int)(Rr:Res (List Int))
def Mx (b l:Int)(most:Nat)(kn:Int→Option Int)(Rr:Res (List Int))(i:Nat)(L:List Int)(D:List KV):Prop:=L.length<most∧(i=0→gJ b l (most-L.length) L kn D=Rr)∧(i≠0→Rr=.ok L D)
def Kv (b l:Int)(most:Nat)(kn:Int→Option Int)(Rr:Res (List Int))(i:Nat)(L:List Int)(D:List KV)(a:Int):Prop:=i=0∧L.length<most∧gJ b l (most-(L.length+1)) (L++ [a]) kn D=Rr
include H
theorem Kw:UpH kn n most (uJ [(b,l)]) (Mx b l most kn Rr) (Kv b l most kn Rr) Rr:=by
 have n0:uJ [(b,l)] 0=ar (ed b l) fun x=>aA (if x.2 then .told 0 x.1 else .skip 1):=rfl
 have n1:∀i,i≠0→uJ [(b,l)] i=aA .fin:=fun i hi=>vU (by simp;omega)
 have step:∀(L:List Int) D,L.length<most→gJ b l (most-L.length) L kn D=Rr→ar (ed b l) (fun x=>if x.2 then gJ b l (most-(L.length+1)) (L++ [x.1]) else aA L) kn D=Rr:=fun L D hl h=>by
  obtain⟨m,hm⟩:∃m,most-L.length=m+1:=⟨most-L.length-1,by omega⟩
  rw[hm] at h
  rw[show most-(L.length+1)=m by omega]
  exact h
 refine⟨fun i=>?_,fun i L D j a D1 hs e=>?_,fun i L D j D1 hs e=>?_,fun i L D D1 hs e=>?_,fun i L D a hs e=>?_,fun i L D a hs=>hs.2.1,fun i L D a hs hl=>?_,fun i L D a hs hl=>?_⟩
 ·by_cases hi:i=0
  ·subst hi;rw[n0];exact au (gY H) fun _ _=>aj n trivial
  ·rw[n1 i hi];exact aj n trivial
 ·by_cases hi:i=0
  ·subst hi;rw[n0] at e
   obtain⟨⟨x,ok⟩,e1,e2⟩:=fF e
   cases ok with
   |false=>cases e2
   |true =>
    cases e2
    exact⟨rfl,hs.1,(ak e1).symm.trans (step L D hs.1 (hs.2.1 rfl))⟩
  ·rw[n1 i hi] at e;cases e
 ·by_cases hi:i=0
  ·subst hi;rw[n0] at e
   obtain⟨⟨x,ok⟩,e1,e2⟩:=fF e
   cases ok with
   |true=>cases e2
   |false =>
    cases e2
    exact⟨hs.1,fun q=>(by cases q),fun _=>((ak e1).symm.trans (step L D hs.1 (hs.2.1 rfl))).symm⟩
  ·rw[n1 i hi] at e;cases e
 ·by_cases hi:i=0
  ·subst hi;rw[n0] at e
   obtain⟨⟨x,ok⟩,e1,e2⟩:=fF e
   cases ok<;>cases e2
  ·rw[n1 i hi] at e;cases e;exact hs.2.2 hi
 ·by_cases hi:i=0
  ·subst hi;rw[n0] at e
   exact(step L D hs.1 (hs.2.1 rfl)).symm.trans (ah (qz e))
  ·rw[n1 i hi] at e;cases e
 ·obtain⟨rfl,h1,h2⟩:=hs
  exact⟨by simpa using hl,fun _=>by simpa using h2,fun q=>absurd rfl q⟩
 ·obtain⟨rfl,h1,h2⟩:=hs
  rw[show most-(L.length+1)=0 by omega] at h2
  exact h2.symm
end
section
variable {us pg st k:Int}{n most:Nat}(H:cH pg st n)(kn:Int→Option Int)(Rr:Res (List Int))
def NQ (us pg st k:Int)(most:Nat)(kn:Int→Option Int)(Rr:Res (List Int))(i:Nat)(L:List Int)(D:List KV):Prop:=L.length<most∧(i=0→mF us pg st k (most-L.length) L kn D=Rr)∧(i≠0→jr us pg st k most L kn D=Rr)
def My (us pg st k:Int)(most:Nat)(kn:Int→Option Int)(Rr:Res (List Int))(i:Nat)(L:List Int)(D:List KV)(a:Int):Prop:=i=0∧L.length<most∧mF us pg st k (most-(L.length+1)) (L++ [a]) kn D=Rr
include H
theorem IR:UpH kn n most (uK us pg st k) (NQ us pg st k most kn Rr) (My us pg st k most kn Rr) Rr:=by
 have n0:uK us pg st k 0=ar (lU pg st k) fun r=>aA (if r then .skip 1 else .fin):=rfl
 have n1:∀i,i≠0→uK us pg st k i=ar (j9 us pg st k) fun x=>aA (if x.2 then .told 0 x.1 else .fin):=fun i hi=>by unfold uK;rw[if_neg hi]
 have step:∀(L:List Int) D,L.length<most→mF us pg st k (most-L.length) L kn D=Rr→ar (lU pg st k) (fun r=>if r then jr us pg st k most L else aA L) kn D=Rr:=fun L D hl h=>by
  obtain⟨m,hm⟩:∃m,most-L.length=m+1:=⟨most-L.length-1,by omega⟩
  rw[hm] at h
  unfold jr
  rw[show most-(L.length+1)=m by omega]
  exact h
 refine⟨fun i=>?_,fun i L D j a D1 hs e=>?_,fun i L D j D1 hs e=>?_,fun i L D D1 hs e=>?_,fun i L D a hs e=>?_,fun i L D a hs=>hs.2.1,fun i L D a hs hl=>?_,fun i L D a hs hl=>?_⟩
 ·by_cases hi:i=0
  ·subst hi;rw[n0];exact au (Dt H k) fun _ _=>aj n trivial
  ·rw[n1 i hi];exact au (Et H us k) fun _ _=>aj n trivial
 ·by_cases hi:i=0
  ·subst hi;rw[n0] at e
   obtain⟨ok,e1,e2⟩:=fF e
   cases ok<;>cases e2
  ·rw[n1 i hi] at e
   obtain⟨⟨x,ok⟩,e1,e2⟩:=fF e
   cases ok with
   |false=>cases e2
   |true =>
    cases e2
    exact⟨rfl,hs.1,(ak e1).symm.trans (hs.2.2 hi)⟩
 ·by_cases hi:i=0
  ·subst hi;rw[n0] at e
   obtain⟨ok,e1,e2⟩:=fF e
   cases ok with
   |false=>cases e2
   |true =>
    cases e2
    exact⟨hs.1,fun q=>(by cases q),fun _=>(ak e1).symm.trans (step L D hs.1 (hs.2.1 rfl))⟩
  ·rw[n1 i hi] at e
   obtain⟨⟨x,ok⟩,e1,e2⟩:=fF e
   cases ok<;>cases e2
 ·by_cases hi:i=0
  ·subst hi;rw[n0] at e
   obtain⟨ok,e1,e2⟩:=fF e
   cases ok with
   |true=>cases e2
   |false=>exact((ak e1).symm.trans (step L D hs.1 (hs.2.1 rfl))).symm
  ·rw[n1 i hi] at e
   obtain⟨⟨x,ok⟩,e1,e2⟩:=fF e
   cases ok with
   |true=>cases e2
   |false=>exact((ak e1).symm.trans (hs.2.2 hi)).symm
 ·by_cases hi:i=0
  ·subst hi;rw[n0] at e
   exact(step L D hs.1 (hs.2.1 rfl)).symm.trans (ah (qz e))
  ·rw[n1 i hi] at e
   exact(hs.2.2 hi).symm.trans (ah (qz e))
 ·obtain⟨rfl,h1,h2⟩:=hs
  exact⟨by simpa using hl,fun _=>by simpa using h2,fun q=>absurd rfl q⟩
 ·obtain⟨rfl,h1,h2⟩:=hs
  rw[show most-(L.length+1)=0 by omega] at h2
  exact h2.symm
end
section
variable {n:Nat}(F:Nat→Prop)(p:Nat)(kn:Int→Option Int)(D:List KV)(w:World)(hv:aK w F p kn D)(hk:OkK kn)(hD:cF n D){bt:Nat}(hs:dg bt w)(nF0:¬F 0)(nFb:¬F bt){most:Nat}(h1:1≤most)(hm:most≤1000000)
include hv hk hD hs nF0 nFb h1 hm
theorem IT {b l:Int}(H:d8 b l n)(vb fb sb cap:Nat)(fr:Nat×Nat)(hcap:1≤cap)(bv:w.heap[vb]?=some (.cells #[.pointer (some ⟨p,0,none⟩)] 43 (0,0)))(bf:w.heap[fb]?=some (.cells #[.slice (some ⟨sb,0,none⟩) 1 cap] 93 (0,0)))(bs:w.heap[sb]?=some (.cells #[.int .i64 b,.int .i64 l] 96 fr))(nf:¬F vb∧¬F fb∧¬F sb):
 Calls Tryz.prog 98 #[.int .i64 (most:Int),.func (.func 88) #[] #[.pointer (some ⟨fb,0,none⟩),.pointer (some ⟨vb,0,none⟩)]] w (fj w F p kn (eJ w.heap.size) (gJ b l most [] kn D)):=by
 refine IQ F p kn D hk (enters_of Tryz.func88 (by kernel_rfl) rfl) (Kw (most:=most) H kn _) hm 0 w (fun s0 w0 h0=>Fk 2 (by omega) p most bt vb fb sb cap #[.int .i64 b,.int .i64 l] fr [(b,l)] (by simp) (by simpa using hcap) (fun s hs=>?_) (fun i b' l' h=>?_) kn hk s0 w0 h0) hv hD hs nF0 nFb ?_ ?_ ⟨by show 0<most;omega,fun _=>rfl,fun q=>absurd rfl q⟩
 ·rw[List.mem_singleton.1 hs];exact H
 ·match i,h with
  | 0,h=>cases h;exact⟨rfl,rfl⟩
  |i+1,h=>simp at h
 ·intro x hx
  simp only[zT,List.mem_cons,List.not_mem_nil,or_false] at hx
  rcases hx with rfl|rfl|rfl
  ·exact bv
  ·exact bf
  ·exact bs
 ·intro x hx
  simp only[zT,List.mem_cons,List.not_mem_nil,or_false] at hx
  rcases hx with rfl|rfl|rfl
  ·exact nf.1
  ·exact nf.2.1
  ·exact nf.2.2
theorem Kx {c:Cfg}(R:c.Ok)(H:cH c.pg c.st n)(hn:n≤10000)(k:Int)(vb lb cb:Nat)(bv:w.heap[vb]?=some (.cells #[.pointer (some ⟨p,0,none⟩)] 43 (0,0)))(bl:w.heap[lb]?=some (.cells c.arr 28 (0,0)))(bc:w.heap[cb]?=some (.cells #[.int .i64 k] 3 (0,0)))(nf:¬F vb∧¬F lb∧¬F cb):
 Calls Tryz.prog 98 #[.int .i64 (most:Int),.func (.func 122) #[] #[.pointer (some ⟨vb,0,none⟩),.pointer (some ⟨lb,0,none⟩),.pointer (some ⟨cb,0,none⟩)]] w (fj w F p kn (eJ w.heap.size) (jr c.us c.pg c.st k most [] kn D)):=by
 refine IQ F p kn D hk (enters_of Tryz.func122 (by kernel_rfl) rfl) (IR (us:=c.us) (k:=k) (most:=most) H kn _) hm 1 w (fun s0 w0 h0=>B5 2 (by omega) R H hn p most bt vb lb cb k kn hk s0 w0 h0) hv hD hs nF0 nFb ?_ ?_ ⟨by show 0<most;omega,fun q=>(by cases q),fun _=>rfl⟩
 ·intro x hx
  simp only[zU,List.mem_cons,List.not_mem_nil,or_false] at hx
  rcases hx with rfl|rfl|rfl
  ·exact bv
  ·exact bl
  ·exact bc
 ·intro x hx
  simp only[zU,List.mem_cons,List.not_mem_nil,or_false] at hx
  rcases hx with rfl|rfl|rfl
  ·exact nf.1
  ·exact nf.2.1
  ·exact nf.2.2
end
end Go.Proofs.YtddmeghbmdfgeaaGreatDoor
