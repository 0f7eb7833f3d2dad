/-
  As ViewDoY, where what the program leaves lies in blocks that it makes itself: X speaks of the blocks from a number on.
-/
import Derived.Test.YtddmeghbmdfgeaaGreatDoorFkAc
import Derived.Test.YtddmeghbmdfgeaaGreatDoorFkAi
import Derived.Test.YtddmeghbmdfgeaaGreatDoorFkAj
import Derived.Deep.AppendSrc
import Derived.Test.YtddmeghbmdfgeaaGreatDoorFkAe
import Derived.Test.YtddmeghbmdfgeaaGreatDoorFkAd
import Derived.Test.YtddmeghbmdfgeaaGreatDoorFkAh
set_option maxRecDepth 100000
set_option maxHeartbeats 8000000
set_option linter.all false
namespace Go.Proofs.YtddmeghbmdfgeaaGreatDoor
open Go.RowKit Go.Sort Go.Maps Go.Shelf
def Pd (w:World)(S:Nat→Prop)(Y:World→Prop)(X:Nat→World→Prop)(R:Ran)(e:Ending)(w':World):Prop :=
 match R with
 | .need a=>e=.returned (.tuple #[.int .i64 a,.slice none 0 0])∧Turned S w w'∧Y w'
 | .done D=>∃v p b,e=.returned (.tuple #[.int .i64 (-1),v])∧PRw w.heap.size w' v D∧Turned S w w'∧Y w'∧(w.heap.size≤b∧X b w')∧bB w' p (-1)
theorem LK (kn:Int→Option Int)(R:Ran)(M n:Nat)(w:World)(hk:KnownAt w M n kn)(f:Nat)(cap:Array Value)(S:Nat→Prop)(Y:World→Prop)(X:Nat→World→Prop)
 (henter:∀args w,Sem.run Tryz.prog (callFunc f args) w=.ok (.enter f args) w) (hS:∀k,S k→k<w.heap.size) (hY:∀w' w'',Y w'→Turned (fun k=>w.heap.size≤k) w' w''→Y w'') (hX:∀b w' w'',w.heap.size≤b→X b w'→Turned (fun k=>w.heap.size≤k∧k<b) w' w''→X b w'') (hY0:Y w)
 (hprog:∀(W:World) (F:Nat→Prop) (p:Nat),ae w W→Y W→aD W F p kn []→(∀k,F k→w.heap.size≤k)→Calls Tryz.prog f (#[.pointer (some ⟨p,0,none⟩)]++cap) W (gj W F S Y (X W.heap.size) p kn R)):
 Calls Tryz.prog 42 #[.map (some M),.func (.func f) #[] cap] w (Pd w S Y X R):=by
 have hq:∀w,Sem.run Tryz.prog (binOp BinOp.eql 52 (Value.func (.func f) #[] cap) Value.nilFunc) w=.ok (.bool false) w:=fun w=>kL w _ Tryz.underlying52 _ _ _
 have hmf:∀(fn:Fn) (first cap:Array Value) (w:World),(Instr.makeFunc fn first cap).run Tryz.prog w=.ok (.func fn first cap) w:=fun _ _ _ _=>rfl
 have HK:=hQQ hk
 have HS:=hQQ hS
 have HX:=hQQ hX
 have HY:=hQQ hY
 have HY0:=hQQ hY0
 have HP:=hQQ hprog
 clear hk hS hX hY hY0 hprog
 go_enter_defers Tryz.func42,Tryz.ntmps42
 go_wp2_with fail
 refine(Hg _).mono ?_
 rintro e w1 ⟨F0,q,rfl,m1,M1,n1⟩
 obtain⟨F,hbeg⟩:=yQ HK.o m1 M1 n1
 have HB:=hQQ hbeg
 have hws:w.heap.size<w1.heap.size:=by have:=M1.size;simp at this;omega
 clear hbeg m1 M1 n1
 go_wp2_with fail
 change Calls _ _ _ ((w1.alloc (.cells (cu (some ⟨w1.heap.size,0,none⟩) M q (-1)) 110)).alloc (.cells #[.pointer (some ⟨w1.heap.size,0,none⟩)] 43)) _
 generalize (w1.alloc (.cells (cu (some ⟨w1.heap.size,0,none⟩) M q (-1)) 110)).alloc (.cells #[.pointer (some ⟨w1.heap.size,0,none⟩)] 43)=W at HB⊢
 generalize w1.heap.size+1=bv at HB⊢
 generalize w1.heap.size=p at HB⊢
 have hlw:Hq (∀k,k<w.heap.size→k≠bv∧k≠p):=hQQ fun k hk=>by have:=HB.o.lv;have:=HB.o.lp;omega
 have HPW:Hq (p<W.heap.size):=hQQ (by obtain⟨_,_,_,_,_,_,_,fp,_,_⟩:=HB.o.view.ex;exact HB.o.view.lt p fp)
 clear hws
 refine(HP.o W F p HB.o.more (HY.o _ _ HY0.o (Turned.mono HB.o.more (fun _ _ q=>q.elim))) HB.o.view HB.o.new).mono ?_
 intro e w2 he
 cases R with
 |need a =>
  obtain⟨rfl,hd,ht,hy⟩:=he
  obtain⟨hv2,hn2,ne1,ne2⟩:=rS HB.o HS.o ht
  change bodyPostD _ _ _ (Exit.panic (bg p)) _ _
  refine leaves_cons (f:=77) (args:=#[.pointer (some ⟨bv,0,none⟩),.pointer (some ⟨w.heap.size,0,none⟩)]) (by simp) (by simp[go_sem]) ?_
  refine(vD p bv w.heap.size a 0 w2 hd hv2 hn2 ne1 ne2 HB.o.vn).mono ?_
  rintro e u' w3 ⟨rfl,rfl,hc⟩
  obtain⟨b0,_,_⟩:=aB hc.2.1
  have FIN:Turned S w w3∧Y w3:=⟨pf HB.o ht hc.2.2,HY.o _ _ hy (hc.2.2.mono (fun k _ q=>by have:=HB.o.lp;rcases q with q|q<;>omega))⟩
  simp[Leaves,settle,results,Tryz.results42,go_sem,b0]
  exact⟨rfl,FIN⟩
 |done D =>
  obtain⟨rfl,⟨F',hv⟩,ht,hy,hx⟩:=he
  obtain⟨hv2,hn2,ne1,ne2⟩:=rS HB.o HS.o ht
  obtain⟨M',q',n',F0',hp2,hk2,hm2,fp2,f02,fM2⟩:=hv.ex
  obtain⟨c0,c1,c2,c3,cf,cl⟩:=cP hp2
  obtain⟨v0,vf,vl⟩:=aB hv2
  have TOLD:=hQQ (Ds F0' p q' D w2 c2 hm2)
  have HT:=hQQ ht
  have HX2:=hQQ hx
  have HY2:=hQQ hy
  have HP2:=hQQ hp2
  have HV2:=hQQ hv2
  have HN2:=hQQ hn2
  clear hv hk2 hm2 fp2 f02 fM2 hp2 hv2 hn2 ht hx hy
  go_wp2_with fail
  refine TOLD.o.mono ?_
  rintro e w3 ⟨v,rfl,hr,hm3⟩
  obtain⟨n0,nf,nl⟩:=aB (hm3.block HN2.o)
  have HR:=hQQ hr
  have HM3:=hQQ hm3
  clear hr hm3
  go_wp2_with fail
  have t4:Turned (fun k=>k=p∨k=w.heap.size) w3 (w3.setCell ⟨w.heap.size,0,none⟩ (.int .i64 (-1))):=bz (Turned.refl _ w3) (fun _=> .inr rfl) _
  have hp4:(w3.setCell ⟨w.heap.size,0,none⟩ (.int .i64 (-1))).heap[p]?=_:=(Below.heap_setCell _ _ _ _ (Ne.symm ne2)).trans (HM3.o.block HP2.o)
  have hv4:(w3.setCell ⟨w.heap.size,0,none⟩ (.int .i64 (-1))).heap[bv]?=_:=(Below.heap_setCell _ _ _ _ HB.o.vn).trans (HM3.o.block HV2.o)
  have hn4:=kM (.int .i64 (-1)) (HM3.o.block HN2.o)
  have hm3:=HM3.o
  have hr:=HR.o
  have hlp2:=cl
  have hln2:w.heap.size<w2.heap.size:=ac HN2.o
  generalize w3.setCell ⟨w.heap.size,0,none⟩ (.int .i64 (-1))=w4 at t4 hp4 hv4 hn4⊢
  refine leaves_cons (f:=77) (args:=#[.pointer (some ⟨bv,0,none⟩),.pointer (some ⟨w.heap.size,0,none⟩)]) (by simp) (by simp[go_sem]) ?_
  refine(sL p bv w.heap.size M' q' (-1) w4 hp4 hv4 hn4 ne1 ne2 HB.o.vn).mono ?_
  rintro e u' w5 ⟨rfl,rfl,hc⟩
  obtain⟨b0,_,_⟩:=aB hc.2.1
  have t35:Turned (fun k=>k=p∨k=w.heap.size) w3 w5:=t4.trans hc.2.2
  have FIN:Pd w S Y X (.done D) (.returned (.tuple #[.int .i64 (-1),v])) w5:=by
   refine⟨v,p,W.heap.size,rfl,(hr.keep t35 (fun k hk q=>by rcases q with q|q<;>omega)).mono (by omega),?_,?_,?_,hc.1⟩
   ·exact pf HB.o HT.o ((Turned.mono hm3 (fun _ _ q=>q.elim)).trans t35)
   ·have hlp:=HB.o.lp
    exact HY.o w2 w5 HY2.o ((Turned.mono hm3 (fun _ _ q=>q.elim)).trans (t35.mono (fun k _ q=>by rcases q with q|q<;>omega)))
   ·have hlp:=HB.o.lp
    have hpW:=HPW.o
    exact⟨by omega,HX.o W.heap.size w2 w5 (by omega) HX2.o ((Turned.mono hm3 (fun _ _ q=>q.elim)).trans (t35.mono (fun k _ q=>by rcases q with q|q<;>omega)))⟩
  simp[Leaves,settle,results,Tryz.results42,go_sem,b0]
  exact FIN
def LM (w:World)(S:Nat→Prop)(Y:World→Prop)(X:Nat→World→Prop)(R:Option (List Int×List KV))(e:Ending)(w':World):Prop :=
 match R with
 |none=>e=.returned (.tuple #[.slice none 0 0,.slice none 0 0,.int .i64 3])∧Turned S w w'∧Y w'
 |some (ws,K)=>∃v1 v2 b,e=.returned (.tuple #[v1,v2,.int .i64 0])∧Rw w.heap.size w' v1 ws∧PRw w.heap.size w' v2 K∧Turned S w w'∧Y w'∧w.heap.size≤b∧X b w'
theorem LP {w wb wr w2 w3:World}{S:Nat→Prop}{Y:World→Prop}{X:Nat→World→Prop}{M:Nat}{zs:List Int}{sem:List KV→Ran}{R:Option (List Int×List KV)}{K D:List KV}{a' an:Option Addr}{cap' cn:Nat}{e:Ending}(h:OnY w wb wr S Y M zs sem R K (.slice an K.length cn))(hs:sem K=.done D)(mb:ae w wb)(hM:w.heap.size≤M)
 (hl:∀k,cW a' k→w.heap.size≤k∧k<wb.heap.size) (hS:∀k,S k→k<w.heap.size) (m2:Turned S wr w2) (hf:jg w2 zs D a' cap' (.slice an K.length cn) e w3)
 (hY:∀w' w'',Y w'→Turned (fun k=>w.heap.size≤k) w' w''→Y w'') (hX:∀b w' w'',w.heap.size≤b→X b w'→Turned (fun k=>w.heap.size≤k∧k<b) w' w''→X b w'') (y2:Y w2) {b:Nat} (hb:wb.heap.size≤b) (x2:X b w2):LM w S Y X R e w3:=by
 have hR:=yT h.okn hs h.res
 have mbS:Turned S w wb:=Turned.mono mb (fun _ _ q=>q.elim)
 have t3:Turned S w w3:=by
  have t1:Turned S w wr:=am mbS h.turn (fun k q=>by rcases q with q|q;exact .inr (by omega);exact .inl q)
  exact am (am t1 m2 (fun k q=> .inl q)) hf.1 (fun k q=> .inr (hl k q).1)
 have t23:Turned (fun k=>w.heap.size≤k) w2 w3:=hf.1.mono (fun k _ q=>(hl k q).1)
 rcases hf.2 with⟨h1,h2,h3⟩|⟨h1,h2⟩
 ·rw[hR,if_pos h1]
  have hlen:(bZ zs D).length=zs.length:=dX D zs
  have hwb:=mb.size
  refine⟨_,_,b,h2,?_,?_,t3,hY _ _ y2 t23,by omega,hX b _ _ (by omega) x2 (hf.1.mono (fun k _ q=>by have:=hl k q;omega))⟩
  ·have:=h3.own (base:=w.heap.size) (fun k q=>(hl k q).1)
   unfold Rw
   rw[List.length_map,hlen] at this
   rw[hlen];exact this
  ·have hb:=mb.size
   exact((h.row.keep m2 (fun k hk q=>by have:=hS k q;omega)).keep hf.1 (fun k hk q=>by have:=(hl k q).2;omega)).mono mb.size
 ·rw[hR,h1]
  exact⟨h2,t3,hY _ _ y2 t23⟩
theorem JI (a:Option Addr)(cap:Nat)(zs:List Int)(sem:List KV→Ran)(R:Option (List Int×List KV))(b:Nat)(w:World)(hz:kN w a zs)(hlen:zs.length≤1000)(hok:OkW zs)(hfine:xi zs b sem)(hb:b≤100000)(hR:doP sem zs (zs.length+1) []=R)(f:Nat)(clo:Array Value)(S:Nat→Prop)(Y:World→Prop)(X:Nat→World→Prop)(hS:∀k,S k→k<w.heap.size)
 (hY:∀w' w'',Y w'→Turned (fun k=>w.heap.size≤k) w' w''→Y w'') (hX:∀b w' w'',w.heap.size≤b→X b w'→Turned (fun k=>w.heap.size≤k∧k<b) w' w''→X b w'') (hY0:Y w)
 (henter:∀args w,Sem.run Tryz.prog (callFunc f args) w=.ok (.enter f args) w)
 (hprog:∀(K:List KV),jD zs K→∀(W:World) (F:Nat→Prop) (p:Nat),Turned S w W→Y W→aD W F p (look K) []→(∀k,F k→w.heap.size≤k)→Calls Tryz.prog f (#[.pointer (some ⟨p,0,none⟩)]++clo) W (gj W F S Y (X W.heap.size) p (look K) (sem K))):
 Calls Tryz.prog 9 #[.slice a zs.length cap,.func (.func f) #[] clo] w (LM w S Y X R):=by
 have hmm:= @run_makeMap Tryz.prog
 have CL:=hQQ (qX a cap zs w hz (by omega))
 have HOK:=hQQ hok
 have HF:=hQQ hfine
 have HR0:=hQQ hR
 have HE:=hQQ henter
 have HP:=hQQ hprog
 have HSS:=hQQ hS
 have HY:=hQQ hY
 have HX:=hQQ hX
 have HY0:=hQQ hY0
 clear hz hok hfine hR henter hprog hS hY hX hY0
 go_enter Tryz.func9,Tryz.ntmps9
 go_wp2_with fail
 refine CL.o.mono ?_
 rintro e w1 ⟨a',cap',rfl,hr1,hn1,hm1⟩
 have DO0:Hq (OnY w (w1.alloc (.map #[] 0)) (w1.alloc (.map #[] 0)) S Y w1.heap.size zs sem R [] (.slice none 0 0)):=hQQ
  ⟨ph zs,HR0.o,PRw.nil _ _,KnownAt.made w1,Turned.refl _ _,HY.o _ _ HY0.o (Turned.mono (hm1.alloc _) (fun _ _ q=>q.elim))⟩
 have MB:Hq (ae w (w1.alloc (.map #[] 0))):=hQQ (hm1.alloc _)
 have RB:=hQQ (hr1.keep ((ae.refl w1).alloc (.map #[] 0)) (fun _ _ q=>q))
 have HL:Hq (∀k,cW a' k→w.heap.size≤k∧k<(w1.alloc (.map #[] 0)).heap.size∧k≠w1.heap.size):=hQQ fun k q=>⟨hn1 k q,by have:=hr1.lt k q;simp;omega,by have:=hr1.lt k q;omega⟩
 have hwM:w.heap.size≤w1.heap.size:=hm1.size
 have hMb:w1.heap.size<(w1.alloc (.map #[] 0)).heap.size:=by simp
 clear hr1 hn1 hm1 CL
 go_wp2_with fail
 generalize w1.alloc (.map #[] 0)=wb at DO0 MB RB HL hMb⊢
 generalize w1.heap.size=M at DO0 HL hwM hMb⊢
 go_loopw [8] (fun u8 wr=>∃K,OnY w wb wr S Y M zs sem R K u8∧qY u8=K.length) (fun u8 _=>zs.length+1-qY u8)
 case atStart=>exact⟨[],DO0.o,rfl⟩
 case round =>
  obtain⟨K,hdo,hln⟩:=hrel
  obtain⟨an,cn,rfl,hpn,_⟩:=hdo.row.reads
  have DO:=hQQ hdo
  have hKl:=hdo.okn.len
  have hsz:w.heap.size≤wr.heap.size:=Nat.le_trans MB.o.size hdo.turn.size
  have hmr:Turned S w wr:=am (Turned.mono MB.o (fun _ _ q=>q.elim)) hdo.turn (fun k q=>by rcases q with q|q;exact .inr (by omega);exact .inl q)
  have LS:=hQQ (fun k (q:S k)=>HSS.o k q)
  have RUN:=hQQ (LK (look K) (sem K) M K.length wr hdo.known f clo S Y X HE.o (fun k q=>Nat.lt_of_lt_of_le (HSS.o k q) hsz) (fun w' w'' h t=>HY.o w' w'' h (t.mono (fun k _ q=>Nat.le_trans hsz q))) (fun b w' w'' hb h t=>HX.o b w' w'' (by omega) h (t.mono (fun k _ q=>by omega))) hdo.y
   (fun W F p m y v n=>HP.o K hdo.okn W F p (am (F':=fun _=>False) hmr m (fun _ q=>q.elim)) y v (fun k hk=>Nat.le_trans hsz (n k hk))))
  have HFK:=hQQ (HF.o K hdo.okn)
  have RW:Hq (RowAt wr 3 (zs.map (Value.int .i64)) a' cap'):=hQQ (RB.o.keep hdo.turn (fun k q e=>by rcases e with e|e;exact(HL.o k q).2.2 e;have:=HSS.o k e;have:=(HL.o k q).1;omega))
  clear hdo hpn hmr hsz DO0 hln
  go_wp2_with fail
  refine RUN.o.mono ?_
  intro e w2 he
  cases hs:sem K with
  |need x =>
   rw[hs] at he
   obtain⟨rfl,hm2,hy2⟩:=he
   have HS:=hQQ hs
   have hx0:0≤x:=by have:=HFK.o;rw[hs] at this;exact this.1
   clear hs RUN
   obtain⟨j,rfl⟩:∃j:Nat,x=j:=⟨x.toNat,by omega⟩
   have HM2:Hq (Turned S wr w2):=hQQ hm2
   have Y2:=hQQ hy2
   have nSM:¬S M:=fun q=>by have:=HSS.o M q;omega
   have nSa:∀k,cW a' k→¬S k:=fun k q r=>by have:=HSS.o k r;have:=(HL.o k q).1;omega
   have bW:w.heap.size≤wb.heap.size:=MB.o.size
   clear hm2 hy2
   have HFJ:=HFK.o
   rw[HS.o] at HFJ
   by_cases hj:j<zs.length
   ·obtain⟨q1,q2,q3,q4⟩:=yS DO.o.okn HFK.o HS.o (by omega) DO.o.res
    have d1:decide ((zs.length:Int)≤(j:Int))=false:=by simp;omega
    have d3:decide (zs.length≤j)=false:=by simp;omega
    have d2:decide ((j:Int)<0)=false:=by simp
    have hrow:=RW.o.keep HM2.o nSa
    obtain⟨g,rfl,hg,hcell,_⟩:=hrow.reads (by simp;omega)
    have hgM:g≠M:=(HL.o g rfl).2.2
    have cw:w2.cell? ⟨g,j,none⟩=some (.int .i64 (wAt zs j)):=by
     refine hcell j _ ?_
     unfold wAt
     rw[List.getElem?_map,List.getElem?_eq_getElem hj]
     simp[List.getD,hj]
    obtain⟨w3,hst,hk3,ht3⟩:=(DO.o.known.keep HM2.o nSM).store HFJ.2.1 (Bn HOK.o j) (by unfold maxLen;omega)
    rw[vF q4] at hk3
    have T23:=hQQ ht3
    have K3:=hQQ hk3
    have cw3:=d9 ht3 hgM cw
    have hg3:g<w3.heap.size:=Nat.lt_of_lt_of_le hg ht3.size
    have TB3:Hq (Turned (fun k=>k=M∨S k) wb w3):=hQQ ((am DO.o.turn HM2.o (fun _ q=> .inl (.inr q))).trans (ht3.mono (fun _ _ q=> .inl q)))
    have YW3:Hq (Y w3):=hQQ (HY.o _ _ Y2.o (ht3.mono (fun k _ q=>by subst q;exact hwM)))
    have R3:Hq (PRw wb.heap.size w3 (.slice an K.length cn) K):=hQQ ((DO.o.row.keep HM2.o (fun k hk q=>by have:=HSS.o k q;omega)).keep ht3 (fun k hk e=>by omega))
    have NX:Hq (∀w4 v,PRw wb.heap.size w4 v (K++ [((j:Int),wAt zs j)])→Turned (fun k=>k=M∨S k) wb w4→(∀k ob,w3.heap[k]?=some ob→(Value.slice an K.length cn).ownBlock≠some k→w4.heap[k]?=some ob)→Y w4→OnY w wb w4 S Y M zs sem R (K++ [((j:Int),wAt zs j)]) v):=hQQ fun w4 v h1 h2 h3 h5 =>
     ⟨q1,q2,h1,by rw[List.length_append];exact K3.o.of_block (fun ob ho=>h3 M ob ho (fun e=>by have:=(DO.o.row.lt M e).1;omega)),h2,h5⟩
    clear hrow hcell hk3 ht3 q1 q2 q3 q4 HFJ
    generalize wAt zs j=z at cw hst cw3 NX
    go_wp2_with (at_builtin;refine pj (S:=fun k=>k=M∨S k) (wa:=wb) (ps:=K) (j:Int) z rfl _ _ rfl rfl R3.o TB3.o (by omega) rfl ?_;intro g4 c4 w4 h4 t4 k4 u4;have N4:=hQQ (NX.o _ _ h4 t4 k4 (HY.o _ _ YW3.o (u4.mono (fun k _ q=>Nat.le_trans bW (DO.o.row.lt k q).1))));clear h4 t4 k4 u4)
    go_roundw
    case rel=>exact⟨_,N4.o,by simp[qY]⟩
    case measure=>simp[qY];omega
   ·have hn:=Dt DO.o.okn HS.o (by omega) DO.o.res
    subst hn
    have d1:decide ((zs.length:Int)≤(j:Int))=true:=by simp;omega
    have d3:decide (zs.length≤j)=true:=by simp;omega
    have d2:decide ((j:Int)<0)=false:=by simp
    have FIN:Hq (LM w S Y X none (.returned (.tuple #[.slice none 0 0,.slice none 0 0,.int .i64 3])) w2):=hQQ ⟨rfl,am (am (Turned.mono MB.o (fun _ _ q=>q.elim)) DO.o.turn (fun k q=>by rcases q with q|q;exact .inr (by omega);exact .inl q)) HM2.o (fun k q=> .inl q),Y2.o⟩
    clear HFJ hj
    go_wp2_with fail
    go_ret3
    exact FIN.o
  |done D =>
   rw[hs] at he
   obtain⟨v,p,bX,rfl,hr,hm2,hy2,⟨hbX,hx2⟩,_⟩:=he
   have nSa:∀k,cW a' k→¬S k:=fun k q r=>by have:=HSS.o k r;have:=(HL.o k q).1;omega
   obtain⟨ad,cd,rfl,hpd,hbd⟩:=hr.reads
   have hfk:=HFK.o
   rw[hs] at hfk
   have FINI:=hQQ (vH zs D a' ad an cap' cd K.length cn w2 (RW.o.keep hm2 nSa) hpd (by have:=hfk.2.2;omega) (by omega) hfk.1 (fun k q r=>by have:=hbd k q;have:=(HL.o k r).2.1;have:=DO.o.turn.size;omega))
   have FIN:Hq (∀e w3,jg w2 zs D a' cap' (.slice an K.length cn) e w3→LM w S Y X R e w3):=hQQ fun e w3 h=>LP DO.o hs MB.o hwM (fun k q=>⟨(HL.o k q).1,(HL.o k q).2.1⟩) HSS.o hm2 h HY.o HX.o hy2 (Nat.le_trans DO.o.turn.size hbX) hx2
   clear hs RUN hr hm2 hpd hbd hfk hy2 hx2
   go_wp2_with fail
   refine FINI.o.mono ?_
   intro e w3 he
   have hfin:=FIN.o e w3 he
   rcases he.2 with⟨_,rfl,_⟩|⟨_,rfl⟩
   ·have F2:=hQQ hfin
    clear hfin he
    go_wp2_with fail
    go_ret3
    exact F2.o
   ·have F2:=hQQ hfin
    clear hfin he
    go_wp2_with fail
    go_ret3
    exact F2.o
structure AgK (c:Cfg)(a:Option Addr)(capl:Nat)(l:List ge)(g2 g3 g4 bt:Nat)(w:World):Prop where
 h2:w.heap[g2]?=some (.cells #[.slice a l.length capl] 24 (0,0))
 h3:w.heap[g3]?=some (.cells c.cells 73 (0,0))
 h4:w.heap[g4]?=some (.cells c.arr 28 (0,0))
 ins:gg w a l
 sz:dd bt w
def AgO (a:Option Addr)(l:List ge)(g2 g3 g4 bt k:Nat):Prop:=k=g2∨k=g3∨k=g4∨k=0∨k=bt∨(l≠ []∧ip a k)
section
variable {c:Cfg}{a:Option Addr}{capl:Nat}{l:List ge}{g2 g3 g4 bt:Nat}{w w':World}
theorem AgK.keep {S:Nat→Prop}(h:AgK c a capl l g2 g3 g4 bt w)(t:Turned S w w')(n:∀k,AgO a l g2 g3 g4 bt k→¬S k):AgK c a capl l g2 g3 g4 bt w' :=
 ⟨(t.block _ (ac h.h2) (n _ (.inl rfl))).trans h.h2,(t.block _ (ac h.h3) (n _ (.inr (.inl rfl)))).trans h.h3,(t.block _ (ac h.h4) (n _ (.inr (.inr (.inl rfl))))).trans h.h4,h.ins.keep t (fun e k hk=>n k (.inr (.inr (.inr (.inr (.inr ⟨e,hk⟩)))))),h.sz.keep t (n _ (.inr (.inr (.inr (.inl rfl))))) (n _ (.inr (.inr (.inr (.inr (.inl rfl))))))⟩
theorem AgK.more (h:AgK c a capl l g2 g3 g4 bt w)(m:ae w w'):AgK c a capl l g2 g3 g4 bt w':=h.keep m (fun _ _ q=>q)
theorem AgK.lt (h:AgK c a capl l g2 g3 g4 bt w){k:Nat}(hk:AgO a l g2 g3 g4 bt k):k<w.heap.size:=by
 rcases hk with rfl|rfl|rfl|rfl|rfl|⟨e,hk⟩
 ·exact ac h.h2
 ·exact ac h.h3
 ·exact ac h.h4
 ·exact h.sz.lt0
 ·exact h.sz.lt
 ·exact h.ins.lt e k hk
end
def AgY (c:Cfg)(a:Option Addr)(capl:Nat)(l:List ge)(g1 g2 g3 g4 bt:Nat)(pre:List Value)(ok:Value)(w:World):Prop:=AgK c a capl l g2 g3 g4 bt w∧∃fs o,StB w g1 pre fs o ok
def j4 (b:Nat)(F:Nat→Prop)(w:World)(v:Value)(its:List Bl):Prop:=BlR b w v its∧∀q,v.ownBlock=some q→¬F q∧b≤q
def AgX (b g1:Nat)(pre:List Value)(ok:Value)(s:FSt)(w:World):Prop:=∃fs o,StB w g1 pre fs o ok∧Pu w (fs 0) s.P0∧Pu w (fs 1) s.P1∧BlR b w o s.O∧PuN (fun q=>b≤q) (fs 0)∧PuN (fun q=>b≤q) (fs 1)
structure AgM (b g1:Nat)(pre:List Value)(ok:Value)(d:Cfg)(F':Nat→Prop)(s:FSt)(fs:Nat→Nat→Value)(o:Value)(w:World):Prop where
 st:StB w g1 pre fs o ok
 p0:cL (fun q=>q<b∨F' q) w (fs 0) s.P0
 p1:cL (fun q=>q<b∨F' q) w (fs 1) s.P1
 row:j4 b F' w o s.O
 okS:OkS d s
theorem j4.more {b:Nat}{F:Nat→Prop}{w w':World}{v:Value}{its:List Bl}(h:j4 b F w v its)(m:ae w w'):j4 b F w' v its:=⟨h.1.more m,h.2⟩
theorem j4.nil (b:Nat)(F:Nat→Prop)(w:World):j4 b F w (.slice none 0 0) []:=⟨BlR.nil b w,fun q e=>by cases e⟩
theorem j4.stay {b:Nat}{F F1:Nat→Prop}{w w':World}{v:Value}{its:List Bl}(h:j4 b F w v its)(s:∀g o,¬F g→w.heap[g]?=some o→w'.heap[g]?=some o)(n:∀g,F1 g→F g∨w.heap.size≤g):j4 b F1 w' v its:=by
 refine⟨⟨h.1.1,?_⟩,fun q e=>⟨fun z=>?_,(h.2 q e).2⟩⟩
 ·rcases h.1.2 with q|⟨g,cap,cur,rfl,h2,h3,h4⟩
  ·exact .inl q
  ·exact .inr ⟨g,cap,cur,rfl,h2,s _ _ (h.2 g rfl).1 h3,h4⟩
 ·rcases n q z with r|r
  ·exact(h.2 q e).1 r
  ·have:=h.1.lt q e;omega
theorem AgM.more {b g1:Nat}{pre:List Value}{ok:Value}{d:Cfg}{F':Nat→Prop}{s:FSt}{fs:Nat→Nat→Value}{o:Value}{w w':World}(h:AgM b g1 pre ok d F' s fs o w)(m:ae w w'):AgM b g1 pre ok d F' s fs o w':=⟨h.st.more m,h.p0.more m,h.p1.more m,h.row.more m,h.okS⟩
theorem AgM.stay {b g1:Nat}{pre:List Value}{ok:Value}{d:Cfg}{F' F1:Nat→Prop}{s:FSt}{fs:Nat→Nat→Value}{o:Value}{w w':World}(h:AgM b g1 pre ok d F' s fs o w)(ng:¬F' g1)(k:∀g o,¬F' g→w.heap[g]?=some o→w'.heap[g]?=some o)(n:∀g,F1 g→F' g∨w.heap.size≤g):AgM b g1 pre ok d F1 s fs o w':=⟨⟨h.st.1,k _ _ ng h.st.2⟩,h.p0.stayN k n,h.p1.stayN k n,h.row.stay k n,h.okS⟩
section
variable {d:Cfg}{n bt:Nat}(T:uB d n bt)
theorem JJ (x u c m:Int)(s:FSt)(f:FSt→Prg FSt):ak (dG T (5,x,u,c,m) s) f=ak T.drP fun _=>f s:=by
 have:dG T (5,x,u,c,m) s=ak T.drP fun _=>ay s:=by simp[dG]
 rw[this,cI];rfl
theorem JK (x u c m:Int)(s:FSt)(f:FSt→Prg FSt):ak (dG T (4,x,u,c,m) s) f=ak (T.flP (s.at x)) fun y=>f (s.put x y.2):=by
 have:dG T (4,x,u,c,m) s=ak (T.flP (s.at x)) fun y=>ay (s.put x y.2):=by simp[dG]
 rw[this,cI];rfl
theorem JL (k x u c m:Int)(hk:k=0∨k=1)(s:FSt)(f:FSt→Prg FSt):ak (dG T (k,x,u,c,m) s) f=ak (T.tkP (gu d u) (s.at x) c) fun y=>f ((s.put x y.2).out (if y.1.2 then s.O++ [(y.1.1,c)] else s.O)):=by
 have:dG T (k,x,u,c,m) s=ak (T.tkP (gu d u) (s.at x) c) fun y=>ay ((s.put x y.2).out (if y.1.2 then s.O++ [(y.1.1,c)] else s.O)):=by simp only[dG];rw[if_pos hk]
 rw[this,cI];rfl
theorem Gs (k x u c m:Int)(hk:k=2∨k=3)(s:FSt)(h:s.O[nthI m s.O.length]?=none)(f:FSt→Prg FSt):ak (dG T (k,x,u,c,m) s) f=f s:=by
 have:dG T (k,x,u,c,m) s=ay s:=by simp only[dG];rw[if_neg (by omega),if_pos hk,h]
 rw[this];rfl
theorem Gt (k x u c m:Int)(hk:k=2∨k=3)(s:FSt){b:Bl}(h:s.O[nthI m s.O.length]?=some b)(f:FSt→Prg FSt):ak (dG T (k,x,u,c,m) s) f=ak (T.gvP (gu d u) (s.at x) b.2 b.1) fun y=>f ((s.put x y.2).out (s.O.take (nthI m s.O.length)++s.O.drop (nthI m s.O.length+1))):=by
 have:dG T (k,x,u,c,m) s=ak (T.gvP (gu d u) (s.at x) b.2 b.1) fun y=>ay ((s.put x y.2).out (s.O.take (nthI m s.O.length)++s.O.drop (nthI m s.O.length+1))):=by simp only[dG];rw[if_neg (by omega),if_pos hk,h]
 rw[this,cI];rfl
theorem Gu (k x u c m:Int)(hk:k<0∨5<k)(s:FSt)(f:FSt→Prg FSt):ak (dG T (k,x,u,c,m) s) f=f s:=by
 have:dG T (k,x,u,c,m) s=ay s:=by simp only[dG];rw[if_neg (by omega),if_neg (by omega),if_neg (by omega),if_neg (by omega)]
 rw[this];rfl
end
theorem FSt.put_O (s:FSt)(x:Int)(P:Nat→List Int):(s.put x P).O=s.O:=by unfold FSt.put;split<;>rfl
theorem MidV.setR {W wr:World}{F S F':Nat→Prop}{p n:Nat}{kn:Int→Option Int}{D:List KV}(h:MidV W wr F S p kn n D F'){b:Nat}(hS:b<W.heap.size→S b)(nF:¬F' b)(cs':Array Value){cs:Array Value}{t:TypeId}{fr:Nat×Nat}(hb:wr.heap[b]?=some (.cells cs t fr)):MidV W (wr.setRow b cs') F S p kn n D F' :=
 have T:Turned (fun k=>k=b) wr (wr.setRow b cs'):=Turned.setRow (Turned.refl _ wr) b cs' (fun _=>rfl)
 ⟨h.view.keepS (S:=fun k=>k=b) T (fun k q e=>nF (e▸q)) (fun k es cl e q=>by subst e;rw[hb] at q;cases q),
  h.from',am h.turn T (fun k q=>by
   subst q
   rcases Nat.lt_or_ge k W.heap.size with r|r
   ·exact .inl (.inr (hS r))
   ·exact .inr r),h.inv⟩
theorem JM (x:Int):∃wk:Nat,wk<2∧wkV x=(wk:Int):=by
 rcases NK x with e|e
 ·exact⟨0,by omega,e⟩
 ·exact⟨1,by omega,e⟩
section
variable {b g1:Nat}{pre:List Value}{ok:Value}{d:Cfg}{F':Nat→Prop}{s:FSt}{fs:Nat→Nat→Value}{o:Value}{w:World}{x:Int}
theorem AgM.at0 (h:AgM b g1 pre ok d F' s fs o w)(e:wkV x=0):cL (fun q=>q<b∨F' q) w (fs 0) (s.at x):=by unfold FSt.at;rw[if_pos e];exact h.p0
theorem AgM.at1 (h:AgM b g1 pre ok d F' s fs o w)(e:wkV x=1):cL (fun q=>q<b∨F' q) w (fs 1) (s.at x):=by unfold FSt.at;rw[if_neg (by omega)];exact h.p1
theorem AgM.turn (h:AgM b g1 pre ok d F' s fs o w){w':World}(t:Turned (fun k=>k=g1) w w'):(∀f P,cL (fun q=>q<b∨F' q) w f P→cL (fun q=>q<b∨F' q) w' f P)∧j4 b F' w' o s.O:=by
 have hs:∀T:TypeId,T≠37→∀k,k=g1→∃cs U fr,w.heap[k]?=some (.cells cs U fr)∧U≠T:=fun T hT k q=>by subst q;exact⟨_,_,_,h.st.2,fun e=>hT e.symm⟩
 exact⟨fun f P q=>q.keep t (hs _ (by decide)),h.row.1.keep t (hs _ (by decide)),h.row.2⟩
theorem AgM.put0 (h:AgM b g1 pre ok d F' s fs o w)(e:wkV x=0)(f:Nat→Value)(P:Nat→List Int)(hp:cL (fun q=>q<b∨F' q) w f P)(hl:dp d P)(cur:Array Value)(hc:cur=(stL pre fs o ok).toArray):
 AgM b g1 pre ok d F' (s.put x P) (nP fs 0 f) o (w.setRow g1 (cur.toList.take 25++(puA f).toList++cur.toList.drop (25+(puA f).size)).toArray):=by
 obtain⟨t1,t2⟩:=h.turn (w':=w.setRow g1 (cur.toList.take 25++(puA f).toList++cur.toList.drop (25+(puA f).size)).toArray) (Turned.setRow (Turned.refl _ w) _ _ (fun _=>rfl))
 have s2:=h.st.put (n:=0) (by omega) f cur hc
 have e2:s.put x P=⟨P,s.P1,s.O⟩:=by unfold FSt.put;rw[if_pos e]
 rw[e2]
 exact⟨s2,t1 _ _ hp,t1 _ _ h.p1,t2,hl,h.okS.l1,h.okS.o⟩
theorem AgM.put1 (h:AgM b g1 pre ok d F' s fs o w)(e:wkV x=1)(f:Nat→Value)(P:Nat→List Int)(hp:cL (fun q=>q<b∨F' q) w f P)(hl:dp d P)(cur:Array Value)(hc:cur=(stL pre fs o ok).toArray):
 AgM b g1 pre ok d F' (s.put x P) (nP fs 1 f) o (w.setRow g1 (cur.toList.take 30++(puA f).toList++cur.toList.drop (30+(puA f).size)).toArray):=by
 obtain⟨t1,t2⟩:=h.turn (w':=w.setRow g1 (cur.toList.take 30++(puA f).toList++cur.toList.drop (30+(puA f).size)).toArray) (Turned.setRow (Turned.refl _ w) _ _ (fun _=>rfl))
 have s2:=h.st.put (n:=1) (by omega) f cur hc
 have e2:s.put x P=⟨s.P0,P,s.O⟩:=by unfold FSt.put;rw[if_neg (by omega)]
 rw[e2]
 exact⟨s2,t1 _ _ h.p0,t1 _ _ hp,t2,h.okS.l0,hl,h.okS.o⟩
theorem AgM.atk (h:AgM b g1 pre ok d F' s fs o w){wk:Nat}(hw:wk<2)(e:wkV x=(wk:Int)):cL (fun q=>q<b∨F' q) w (fs wk) (s.at x):=by
 rcases (show wk=0∨wk=1 by omega) with rfl|rfl
 ·exact h.at0 e
 ·exact h.at1 e
theorem AgM.putk (h:AgM b g1 pre ok d F' s fs o w){wk:Nat}(hw:wk<2)(e:wkV x=(wk:Int))(f:Nat→Value)(P:Nat→List Int)(hp:cL (fun q=>q<b∨F' q) w f P)(hl:dp d P)(cur:Array Value)(hc:cur=(stL pre fs o ok).toArray):
 AgM b g1 pre ok d F' (s.put x P) (nP fs wk f) o (w.setRow g1 (cur.toList.take (25+wk * 5)++(puA f).toList++cur.toList.drop (25+wk * 5+(puA f).size)).toArray):=by
 rcases (show wk=0∨wk=1 by omega) with rfl|rfl
 ·exact h.put0 e f P hp hl cur hc
 ·exact h.put1 e f P hp hl cur hc
end
theorem j4.turnS {b g1:Nat}{F:Nat→Prop}{w w':World}{v:Value}{its:List Bl}{pre:List Value}{fs:Nat→Nat→Value}{o ok:Value}(h:j4 b F w v its)(st:StB w g1 pre fs o ok)(t:Turned (fun k=>k=g1) w w'):j4 b F w' v its :=
 ⟨h.1.keep t (fun k q=>by subst q;exact⟨_,_,_,st.2,by decide⟩),h.2⟩
theorem MidV.setC {W wr:World}{F F':Nat→Prop}{p n g1:Nat}{kn:Int→Option Int}{D:List KV}{pre:List Value}{fs:Nat→Nat→Value}{o ok:Value}(h:MidV W wr F (fun b=>b=g1) p kn n D F')(st:StB wr g1 pre fs o ok)(nF:¬F' g1){v:Value} :MidV W (wr.setCell ⟨g1,35,none⟩ v) F (fun b=>b=g1) p kn n D F':=by
 rw[setCell_eq_setRow wr g1 35 _ _ (0,0) v st.2]
 exact h.setR (fun _=>rfl) nF _ st.2
theorem AgM.putO {b g1:Nat}{pre:List Value}{ok:Value}{d:Cfg}{F':Nat→Prop}{s:FSt}{fs:Nat→Nat→Value}{o:Value}{w:World}(h:AgM b g1 pre ok d F' s fs o w){v:Value}{its:List Bl}(hr:j4 b F' w v its)(hO:∀q∈its,W64 q.1):AgM b g1 pre ok d F' (s.out its) fs v (w.setCell ⟨g1,35,none⟩ v):=by
 have t:Turned (fun k=>k=g1) w (w.setCell ⟨g1,35,none⟩ v):=Turned.setCell (Turned.refl _ w) _ _ (fun _=>rfl)
 obtain⟨t1,_⟩:=h.turn t
 exact⟨h.st.put35 v,t1 _ _ h.p0,t1 _ _ h.p1,hr.turnS h.st t,h.okS.l0,h.okS.l1,hO⟩
theorem JN {P:Program}{o:Oper}{a:Act}{w:World}{K:Act→World→Prop}{Q:Exit→Act→World→Prop}{f:Nat}{x0 x1 x2 x3 x4 x5:Operand}{v0 v1 v2 v3 v4 v5:Value}{ts:Array TypeId}(ho:o.op=.call { callee:= .value (.func f),args:= #[x0,x1,x2,x3,x4,x5],argTypes:=ts })(h0:a.eval x0=v0)(h1:a.eval x1=v1)(h2:a.eval x2=v2)(h3:a.eval x3=v3)(h4:a.eval x4=v4)(h5:a.eval x5=v5)(he:∀(vs:Array Value)(w:World),Sem.run P (callFunc f vs) w=.ok (.enter f vs) w)
 (h:Calls P f #[v0,v1,v2,v3,v4,v5] w (fun| .returned v,w''=>K (a.put o.dst v) w''| .panicked ch,w''=>Q (.panic ch) a w''| .outgrown,_=>LetsOut Q)):o.wp P a w K Q:=by
 have hv:a.eval (.func f)=.func (.func f) #[] #[]:=rfl
 unfold Oper.wp Oper.upon
 generalize hρ:a.eval=ρ at h0 h1 h2 h3 h4 h5 hv⊢
 simp[execOp,ho,resolve,invoke,hv,h0,h1,h2,h3,h4,h5,he,Sem.run_bind,Result.andThen,go_sem]
 exact h
theorem AgM.box {b g1:Nat}{pre:List Value}{ok:Value}{d:Cfg}{F':Nat→Prop}{s:FSt}{fs:Nat→Nat→Value}{o:Value}{w w':World}(h:AgM b g1 pre ok d F' s fs o w){gP:Nat}(t:Turned (fun k=>k=gP) w w'){cs:Array Value}{fr:Nat×Nat}(hg:w.heap[gP]?=some (.cells cs 32 fr))(ne:gP≠g1):AgM b g1 pre ok d F' s fs o w' :=
 have hs:∀T:TypeId,T≠32→∀k,k=gP→∃cs U fr,w.heap[k]?=some (.cells cs U fr)∧U≠T:=fun T hT k q=>by subst q;exact⟨_,_,_,hg,fun e=>hT e.symm⟩
 ⟨h.st.keep t (fun q=>ne q.symm),h.p0.keep t (hs _ (by decide)),h.p1.keep t (hs _ (by decide)),⟨h.row.1.keep t (hs _ (by decide)),h.row.2⟩,h.okS⟩
theorem FSt.out_self (s:FSt):s.out s.O=s:=rfl
theorem Dd {ops:Array Oper}{rest:List Oper}{o:Oper}{a:Act}{Q:Exit→Act→World→Prop}{base:Nat}{w:World}{v:Value}{its:List Bl}(p q:Int)(hgd:o.guard=none)(s x:Operand)
 (ho:o.op=.call { callee:= .builtin .append,args:= #[s,x],argTypes:= #[35,35] })
 (hs:a.eval s=v) (hn:BlR base w v its) (hb:base≤w.heap.size) (hl:its.length<1000000)
 (hx:a.eval x=.slice (some ⟨w.heap.size,0,none⟩) 1 1)
 (h:∀v' w',BlR base w' v' (its++ [(p,q)])→Turned (fun k=>v.ownBlock=some k) w w'→(∀k,v'.ownBlock=some k→v.ownBlock=some k∨w.heap.size≤k)→wpList Tryz.prog ops Q rest (a.put o.dst v') w'):wpList Tryz.prog ops Q (o::rest) a (w.alloc (.cells #[.int .i64 p,.int .i64 q] 48)):=by
 have hB:=a7 w (.cells #[.int .i64 p,.int .i64 q] 48)
 have m:ae w (w.alloc (.cells #[.int .i64 p,.int .i64 q] 48)):=(ae.refl w).alloc _
 refine wpList_plain hgd fun K hK=>yg (base:=base) (its:=its) (news:=[(p,q)]) s x ho hs (hn.more m) (by have:=m.size;omega) hx (.inr ⟨⟨w.heap.size,0,none⟩,1,rfl,fun j u hu=>World.news_of_block hB j u (by simpa [blCells] using hu)⟩) (by simp only[List.length_cons,List.length_nil];omega) (fun v' w' h1 h2 h3=>hK _ _ (h v' w' h1 (am (Turned.mono m (fun _ _ q=>q.elim)) h2 (fun k z=> .inl z)) (fun k e=>(h3 k e).imp id (fun r=>by have:=m.size;omega))))
theorem LQ {c:Cfg}{W0 wz wc:World}{F F9:Nat→Prop}{p n g1:Nat}{kn:Int→Option Int}{D9:List KV}{pre:List Value}{ok:Value}{s:FSt}{fs:Nat→Nat→Value}{o:Value}(M:MidV W0 wz F (fun b=>b=g1) p kn n D9 F9)(A:AgM W0.heap.size g1 pre ok c F9 s fs o wz)(t:Turned (fun k=>o.ownBlock=some k) wz wc):
 MidV W0 wc F (fun b=>b=g1) p kn n D9 F9∧StB wc g1 pre fs o ok∧cL (fun q=>q<W0.heap.size∨F9 q) wc (fs 0) s.P0∧cL (fun q=>q<W0.heap.size∨F9 q) wc (fs 1) s.P1:=by
 have ty:∀k,o.ownBlock=some k→∃cs fr,wz.heap[k]?=some (.cells cs 48 fr):=fun k e=>by
  rcases A.row.1.2 with⟨q,_⟩|⟨g,cap,cur,q,_,hg,_⟩
  ·rw[q] at e;cases e
  ·rw[q] at e
   have:g=k:=by simpa [Value.ownBlock] using e
   subst this
   exact⟨_,_,hg⟩
 have hs:∀T:TypeId,T≠48→∀k,o.ownBlock=some k→∃cs U fr,wz.heap[k]?=some (.cells cs U fr)∧U≠T:=fun T hT k e=>by
  obtain⟨cs,fr,h⟩:=ty k e
  exact⟨cs,_,fr,h,fun q=>hT q.symm⟩
 refine⟨⟨M.view.keepS t (fun k q e=>(A.row.2 k e).1 q) (fun k es cl e q=>by obtain⟨cs,fr,h⟩:=ty k e;rw[h] at q;cases q),M.from',am M.turn t (fun k e=> .inr (A.row.2 k e).2),M.inv⟩,A.st.keep t (fun e=>?_),A.p0.keep t (hs _ (by decide)),A.p1.keep t (hs _ (by decide))⟩
 obtain⟨cs,fr,h⟩:=ty g1 e
 have h2:=A.st.2
 rw[h] at h2
 injection h2 with h2
 injection h2 with _ h2
 exact absurd h2 (by decide)
theorem AgM.putO2 {b g1:Nat}{pre:List Value}{ok:Value}{d:Cfg}{F':Nat→Prop}{s:FSt}{fs:Nat→Nat→Value}{o:Value}{w:World}(st:StB w g1 pre fs o ok)(p0:cL (fun q=>q<b∨F' q) w (fs 0) s.P0)(p1:cL (fun q=>q<b∨F' q) w (fs 1) s.P1)(okS:OkS d s){v:Value}{its:List Bl}(hr:j4 b F' w v its)(hO:∀q∈its,W64 q.1):AgM b g1 pre ok d F' (s.out its) fs v (w.setCell ⟨g1,35,none⟩ v):=by
 have t:Turned (fun k=>k=g1) w (w.setCell ⟨g1,35,none⟩ v):=Turned.setCell (Turned.refl _ w) _ _ (fun _=>rfl)
 have hs:∀T:TypeId,T≠37→∀k,k=g1→∃cs U fr,w.heap[k]?=some (.cells cs U fr)∧U≠T:=fun T hT k q=>by subst q;exact⟨_,_,_,st.2,fun e=>hT e.symm⟩
 exact⟨st.put35 v,p0.keep t (hs _ (by decide)),p1.keep t (hs _ (by decide)),hr.turnS st t,okS.l0,okS.l1,hO⟩
theorem mN {P:Program}{ops:Array Oper}{C:World→Prop}{o:Oper}{a:Act}(hw:Region.wanted o (yielded ops a.tmps)=true)(ty:TypeId)(x:Operand)(ho:o.op=.load ty x)(g off:Nat)(hx:a.eval x=.pointer (some ⟨g,off,none⟩))(cs:List Value)(d:TypeDesc)(hg:∀w,C w→w.rangeAt g off cs)(hu:P.underlying ty=some d)(hd:d.isRow=true)(hi:(P.info? ty).map (·.size)=some cs.length):bU P ops C o (.agg cs.toArray) a :=
 .inl ⟨hw,fun w hC=>by
  unfold execOp
  simp only[ho,hx,Instr.loadAt,Instr.sureAddr,Sem.run_bind,Sem.run_pure,Result.andThen_ok,run_loadVar_mid w g off ty cs d (hg w hC) hu hd hi]⟩
theorem od {o:Oper}{a:Act}{w:World}{K:Act→World→Prop}{Q:Exit→Act→World→Prop}(ho:o.op=.alloc 32)(h:K (a.put o.dst (.pointer (some ⟨w.heap.size,0,none⟩))) (w.alloc (.cells #[.slice none 0 0,.slice none 0 0,.slice none 0 0,.slice none 0 0,.slice none 0 0] 32))):Oper.wp Tryz.prog o a w K Q:=by
 unfold Oper.wp Oper.upon execOp
 simp only[ho]
 generalize a.eval=ρ
 go_simp
 exact h
theorem Oe {c:Cfg}(R:c.Ok){n bt:Nat}(T:uB c n bt)(F:Nat→Prop)(p g1 g2 g3 g4:Nat)(kn:Int→Option Int)(a:Option Addr)(capl:Nat)(l:List ge)(hll:l.length≤1000)(sF:FSt)(pre:List Value)(ok:Value)(W0:World)(hv:aD W0 F p kn [])(hk:OkK kn)(hY:AgY c a capl l g1 g2 g3 g4 bt pre ok W0)(nF:∀k,AgO a l g2 g3 g4 bt k→¬F k)(n1:¬F g1)(ne:∀k,AgO a l g2 g3 g4 bt k→k≠g1)
 (ht:∀z D,dQ T l ⟨fun _=> [],fun _=> [],[]⟩ kn []=.ok z D→z=sF):
 Calls Tryz.prog 37 #[.pointer (some ⟨p,0,none⟩),.pointer (some ⟨g1,0,none⟩),.pointer (some ⟨g2,0,none⟩),.pointer (some ⟨g3,0,none⟩),.pointer (some ⟨g4,0,none⟩)] W0 (gj W0 F (fun b=>b=g1) (fun w'=>AgY c a capl l g1 g2 g3 g4 bt pre ok w') (fun w'=>AgX W0.heap.size g1 pre ok sF w') p kn (eP (dQ T l ⟨fun _=> [],fun _=> [],[]⟩ kn []))):=by
 obtain⟨Rr,hR⟩:∃Rr,dQ T l ⟨fun _=> [],fun _=> [],[]⟩ kn []=Rr:=⟨_,rfl⟩
 rw[hR] at ht⊢
 obtain⟨hK,fs0,o0,h1⟩:=hY
 have l1:=h1.lt
 have HK:=hQQ hk
 have HR:=hQQ R
 have KT:Hq (∀wr,Turned (fun b=>F b∨b=g1) W0 wr→AgK c a capl l g2 g3 g4 bt wr):=hQQ fun wr t=>hK.keep t (fun k q=>by rintro(z|z);exact nF k q z;exact ne k q z)
 have N1:Hq (∀wr D' F',MidV W0 wr F (fun b=>b=g1) p kn n D' F'→¬F' g1):=hQQ fun wr D' F' h=>h.off l1 n1
 have NZ:Hq (∀wr D' F',MidV W0 wr F (fun b=>b=g1) p kn n D' F'→¬F' 0∧¬F' bt):=hQQ fun wr D' F' h=>⟨h.off (hK.lt (.inr (.inr (.inr (.inl rfl))))) (nF _ (.inr (.inr (.inr (.inl rfl))))),h.off (hK.lt (.inr (.inr (.inr (.inr (.inl rfl)))))) (nF _ (.inr (.inr (.inr (.inr (.inl rfl))))))⟩
 have NEED:Hq (∀x w2,Rr=.need x→bB w2 p x→Turned (fun b=>F b∨b=g1) W0 w2→(∃fs o,StB w2 g1 pre fs o ok)→gj W0 F (fun b=>b=g1) (fun w'=>AgY c a capl l g1 g2 g3 g4 bt pre ok w') (fun w'=>AgX W0.heap.size g1 pre ok sF w') p kn (eP Rr) (.panicked (bg p)) w2):=hQQ fun x w2 e hd' ht' q =>
  xo (oo e) hd' ht' ⟨KT.o _ ht',q⟩
 have DONE:Hq (∀x w2 D F' fs o,Rr=.ok x D→MidV W0 w2 F (fun b=>b=g1) p kn n D F'→AgM W0.heap.size g1 pre ok c F' x fs o w2→gj W0 F (fun b=>b=g1) (fun w'=>AgY c a capl l g1 g2 g3 g4 bt pre ok w') (fun w'=>AgX W0.heap.size g1 pre ok sF w') p kn (eP Rr) (.returned (.tuple #[])) w2):=hQQ fun x w2 D F' fs o e h b=>by
  have:=ht x D e
  subst this
  exact xp h (sR e) ⟨KT.o _ h.turn,_,_,b.st⟩ ⟨_,_,b.st,b.p0.1,b.p1.1,b.row.1,fun c hc q e=>Nat.le_of_not_lt fun z=>b.p0.2 c hc q e (.inl z),fun c hc q e=>Nat.le_of_not_lt fun z=>b.p1.2 c hc q e (.inl z)⟩
 have M0:Hq (MidV W0 W0 F (fun b=>b=g1) p kn n [] F):=hQQ (MidV.begin hv (ea n))
 have HL:=hQQ hll
 have HRr:=hQQ hR
 obtain⟨cur,hcur⟩:∃cur,(stL pre fs0 o0 ok).toArray=cur:=⟨_,rfl⟩
 have hg1:=h1.2
 rw[hcur] at hg1
 have hsz:cur.size=37:=by rw[←hcur,List.size_toArray];exact nL h1.1 _ _ _
 obtain⟨w1,e1⟩:∃w1,W0.setRow g1 (cur.toList.take 25++(#[.slice none 0 0,.slice none 0 0,.slice none 0 0,.slice none 0 0,.slice none 0 0,.slice none 0 0,.slice none 0 0,.slice none 0 0,.slice none 0 0,.slice none 0 0]:Array Value).toList++cur.toList.drop (25+(#[.slice none 0 0,.slice none 0 0,.slice none 0 0,.slice none 0 0,.slice none 0 0,.slice none 0 0,.slice none 0 0,.slice none 0 0,.slice none 0 0,.slice none 0 0]:Array Value).size)).toArray=w1:=⟨_,rfl⟩
 have s1:StB w1 g1 pre (fun _ _=> .slice none 0 0) o0 ok:=by rw[←e1];exact h1.zero cur hcur.symm _ rfl
 have t1:Turned (fun b=>b=g1) W0 w1:=by rw[←e1];exact Turned.setRow (Turned.refl _ W0) _ _ (fun _=>rfl)
 have x1:=s1.row
 have x2:=s1.froz 35
 obtain⟨w2,e2⟩:∃w2,w1.setCell ⟨g1,35,none⟩ (.slice none 0 0)=w2:=⟨_,rfl⟩
 have s2:StB w2 g1 pre (fun _ _=> .slice none 0 0) (.slice none 0 0) ok:=by rw[←e2];exact s1.put35 _
 have t2:Turned (fun b=>b=g1) W0 w2:=by rw[←e2];exact Turned.setCell t1 _ _ (fun _=>rfl)
 have M2:Hq (MidV W0 w2 F (fun b=>b=g1) p kn n [] F):=hQQ ⟨hv.keepS t2 (fun k q e=>n1 (e▸q)) (fun k es cl e q=>by subst e;rw[h1.2] at q;cases q),fun k q=> .inl q,t2.mono (fun k _ q=> .inr q),ea n⟩
 have A2:Hq (AgM W0.heap.size g1 pre ok c F ⟨fun _=> [],fun _=> [],[]⟩ (fun _ _=> .slice none 0 0) (.slice none 0 0) w2):=hQQ ⟨s2,cL.nil _ _,cL.nil _ _,j4.nil _ _ _,OkS.nil R⟩
 clear hv hk R hR ht h1 hK nF n1 hll s1 s2 t1 t2 hcur
 go_enter Tryz.func37,Tryz.ntmps37
 go_wp2_with (refine gM rfl 33 _ _ rfl g1 25 _ rfl rfl 37 cur hg1 (by rw[hsz];exact Nat.le_of_ble_eq_true rfl) (by kernel_rfl) (by simp[Value.oneCell']) ?_;rw[e1])
 clear x1 x2 e1 e2 hg1 hsz l1
 go_loopw [6] (fun i wr=>∃(j:Nat) (s:FSt) (fs:Nat→Nat→Value) (o:Value) (D:List KV) (F':Nat→Prop),i=.int .i64 (j:Int)∧j≤l.length∧s.O.length≤j∧MidV W0 wr F (fun b=>b=g1) p kn n D F'∧AgM W0.heap.size g1 pre ok c F' s fs o wr∧dQ T (l.drop j) s kn D=Rr) (fun i _=>l.length-(intOf i).toNat)
 case atStart=>exact⟨0,_,_,_,[],F,rfl,Nat.zero_le _,by simp,M2.o,A2.o,by simpa using HRr.o⟩
 case round =>
  obtain⟨j,st,fs,o,D1,F1,rfl,hj,hbl,M1',A1',E1'⟩:=hrel
  clear M0 M2 A2 HRr
  have M1:=hQQ M1'
  have A1:=hQQ A1'
  have KK:=hQQ (KT.o _ M1'.turn)
  have c2:=(aB KK.o.h2).1
  have HBL:=hQQ hbl
  clear M1' A1'
  by_cases hlt:j<l.length
  ·have d1:decide ((j:Int)<(l.length:Int))=true:=by simp;omega
   obtain⟨⟨kind,x,u,cl,m⟩,hjt⟩:∃t,l[j]?=some t:=⟨_,List.getElem?_eq_getElem hlt⟩
   rw[zN hjt] at E1'
   have E2:=hQQ (show ak (dG T (kind,x,u,cl,m) st) (fun s'=>dQ T (l.drop (j+1)) s') kn D1=Rr from E1')
   obtain⟨sb,so,ha,hs,_⟩:=KK.o.ins.resolve_left (by intro q;rw[q] at hlt;simp at hlt)
   subst ha
   have hrg:=KK.o.ins.range hjt
   have hjx:(j:Int)<(l.length:Int):=by omega
   have hjy:(0:Int)≤(j:Int):=by omega
   obtain⟨w3,e3⟩:∃w3,(wr.alloc (.cells #[.int .i64 0,.int .i64 0,.int .i64 0,.int .i64 0,.int .i64 0] 77)).setRow wr.heap.size #[.int .i64 kind,.int .i64 x,.int .i64 u,.int .i64 cl,.int .i64 m]=w3:=⟨_,rfl⟩
   have hb3:w3.heap[wr.heap.size]?=some (.cells #[.int .i64 kind,.int .i64 x,.int .i64 u,.int .i64 cl,.int .i64 m] 77 (0,0)):=by rw[←e3];exact setRow_heap _ _ _ _ _ _ (aW _ _ _)
   have m3:ae wr w3:=by rw[←e3];exact((ae.refl wr).alloc _).setRow _ _ (Nat.le_refl _)
   have M3:=hQQ m3
   have HB:=hQQ hb3
   clear E1' hjt
   go_wp2_with (first|(refine wpList_load_mid rfl 77 _ rfl sb (so+j * 5) rfl [.int .i64 kind,.int .i64 x,.int .i64 u,.int .i64 cl,.int .i64 m] _ hrg Tryz.underlying77 rfl (by kernel_rfl) ?_)|(refine wpList_store_row rfl 77 _ _ rfl _ _ rfl rfl 77 _ (aW _ _ _) (by kernel_rfl) rfl (by simp[Value.oneCell']) ?_;rw[e3])|(refine wpList_load_row rfl 77 _ rfl _ rfl 77 _ _ _ hb3 Tryz.underlying77 rfl (by kernel_rfl) ?_))
   refine(Gj _ _ _ _ _ w3).mono ?_
   rintro e w4 ⟨rfl,m4⟩
   have M4:=hQQ (M3.o.trans m4)
   have k4:=KK.o.more M4.o
   have HB4:=hQQ (m4.block HB.o)
   have y0:w4.cell? ⟨wr.heap.size,0,none⟩=some (.int .i64 kind):=by simp[World.cell?,HB4.o]
   have y2:w4.cell? ⟨wr.heap.size,2,none⟩=some (.int .i64 u):=by simp[World.cell?,HB4.o]
   have y3:w4.cell? ⟨wr.heap.size,3,none⟩=some (.int .i64 cl):=by simp[World.cell?,HB4.o]
   have y4:w4.cell? ⟨wr.heap.size,4,none⟩=some (.int .i64 m):=by simp[World.cell?,HB4.o]
   have z1:w4.cell? ⟨g3,1,none⟩=some (.int .i64 c.cp):=by simp[World.cell?,k4.h3,Cfg.cells]
   have cp1:=HR.o.cp1
   have cp2:=HR.o.cp2
   have uc:IntKind.u64.wrap c.cp=c.cp:=IntWalk.u64_in _ (by omega)
   have n0:(c.cp==0)=false:=by simp;omega
   have n1:decide (c.cp=0)=false:=by simp;omega
   have n2:c.cp≠0:=by omega
   have hrem:wrap64 ((IntKind.u64.wrap u).tmod c.cp)=gu c u:=by
    have h1:=Int.emod_nonneg (IntKind.u64.wrap u) (show c.cp≠0 by omega)
    have h2:=Int.emod_lt_of_pos (IntKind.u64.wrap u) (show 0<c.cp by omega)
    rw[Int.tmod_eq_emod_of_nonneg (CJ u)]
    unfold wrap64 gu;omega
   have hl0:=HL.o
   clear hb3 m3 m4 hrg k4 e3
   by_cases kd:kind<0∨5<kind
   ·have q0:(kind==0)=false:=by simp;omega
    have q1:(kind==1)=false:=by simp;omega
    have q2:(kind==2)=false:=by simp;omega
    have q3:(kind==3)=false:=by simp;omega
    have q4:(kind==4)=false:=by simp;omega
    have q5:(kind==5)=false:=by simp;omega
    have E9:=hQQ (show dQ T (l.drop (j+1)) st kn D1=Rr from by
     have:=E2.o
     rw[Gu T _ _ _ _ _ kd] at this
     exact this)
    clear kd y3 y4
    go_wp2_with fail
    go_roundw
    case rel=>exact⟨j+1,st,_,_,D1,F1,by go_num,by omega,by have:=HBL.o;omega,M1.o.more M4.o,A1.o.more M4.o,E9.o⟩
    case measure=>simp[intOf];omega
   ·have hk6:kind=0∨kind=1∨kind=2∨kind=3∨kind=4∨kind=5:=by omega
    clear kd
    by_cases k5:kind=5
    ·subst k5
     have E9:=hQQ (show ak T.drP (fun _=>dQ T (l.drop (j+1)) st) kn D1=Rr from(by have:=E2.o;rw[JJ] at this;exact this))
     clear hk6 y3 y4
     have GO:=hQQ ((KK.o.more M4.o).h4)
     go_wp2_with (refine aK rfl rfl rfl GO.o (by kernel_rfl) ?_)
     refine(T.drC F1 p kn D1 w4 (M1.o.more M4.o).view HK.o M1.o.inv (KK.o.more M4.o).sz (NZ.o _ _ _ M1.o).1 (NZ.o _ _ _ M1.o).2).mono ?_
     intro e w5 he
     rcases M1.o.step M4.o HK.o T.drG he with⟨a',hE,rfl,hd',ht',hk6⟩|⟨x6,D6,F6,hE,rfl,M6',_,hk6,hf6⟩
     ·exact⟨rfl,NEED.o a' w5 (E9.o.symm.trans (ag hE)) hd' ht' ⟨_,_,A1.o.st.1,hk6 _ _ (N1.o _ _ _ M1.o) A1.o.st.2⟩⟩
     have R6:=hQQ ((aj hE).symm.trans E9.o)
     have A6:=hQQ (A1.o.stay (N1.o _ _ _ M1.o) hk6 hf6)
     have M6:=hQQ M6'
     clear he hE hk6 hf6 M6' y0 y2 z1
     go_wp2_with fail
     go_roundw
     case rel=>exact⟨j+1,st,_,_,D6,F6,by go_num,by omega,by have:=HBL.o;omega,M6.o,A6.o,R6.o⟩
     case measure=>simp[intOf];omega
    ·by_cases k4:kind=4
     ·subst k4
      have E9:=hQQ (show ak (T.flP (st.at x)) (fun y=>dQ T (l.drop (j+1)) (st.put x y.2)) kn D1=Rr from(by have:=E2.o;rw[JK] at this;exact this))
      have KC:Hq (∀W D' F',MidV W0 W F (fun b=>b=g1) p kn n D' F'∧AgM W0.heap.size g1 pre ok c F' st fs o W→AgK c (some ⟨sb,so,none⟩) capl l g2 g3 g4 bt W):=hQQ fun W D' F' h=>KT.o _ h.1.turn
      clear hk6 k5 y3 y4
      have M4':Hq (MidV W0 w4 F (fun b=>b=g1) p kn n D1 F1∧AgM W0.heap.size g1 pre ok c F1 st fs o w4):=hQQ ⟨M1.o.more M4.o,A1.o.more M4.o⟩
      obtain⟨wk,hwk0,ex⟩:=JM x
      have hwk:=hQQ hwk0
      have hwi:(wk:Int)<2:=by omega
      rw[ex]
      go_wp2_with fail
      clear M4 M1 A1 KK c2 y0 y2 z1 HB HB4
      have M4:=M4'
      refine aM (fun W=>AgK c (some ⟨sb,so,none⟩) capl l g2 g3 g4 bt W) (by kernel_rfl) ?_
      have MR:Hq (MidV W0 (w4.drewN 1) F (fun b=>b=g1) p kn n D1 F1∧AgM W0.heap.size g1 pre ok c F1 (st) (fs) o (w4.drewN 1)):=hQQ ⟨M4.o.1.more ((ae.refl w4).drewN 1),M4.o.2.more ((ae.refl w4).drewN 1)⟩
      change dc _ _ _ _ _ _ _ _ (w4.drewN 1)
      generalize w4.drewN 1=wq at MR⊢
      generalize hA:Act.mk _ _=A
      have HF:AG 120 A [(0,.pointer (some ⟨p,0,none⟩)),(1,.pointer (some ⟨g1,0,none⟩)),(4,.pointer (some ⟨g4,0,none⟩)),(8,.int .i64 (wk:Int))]:=by
       rw[←hA];try simp only[pts,List.foldl]
       refine⟨⟨Nat.le_of_ble_eq_true rfl,rfl⟩,?_⟩
       intro z hz;simp only[List.mem_cons,List.not_mem_nil,or_false] at hz;rcases hz with rfl|rfl|rfl|rfl<;>rfl
      refine bH (fun a W=>∃(u105 u106 u107 u108 u109 u110 u113 u111 u112 u114:Value) (f9:Nat→Value) (D9:List KV) (F9:Nat→Prop),a=(Act.put (pts A [(105,u105),(106,u106),(107,u107),(108,u108),(109,u109),(110,u110),(113,u113),(111,u111),(112,u112),(114,u114)]) none undef)∧(MidV W0 W F (fun b=>b=g1) p kn n D9 F9∧AgM W0.heap.size g1 pre ok c F9 (st.put x (fun _=> [])) (nP fs wk f9) o W)∧dQ T (l.drop (j+1)) (st.put x (fun _=> [])) kn D9=Rr) (fun W=>gj W0 F (fun b=>b=g1) (fun w'=>AgY c (some ⟨sb,so,none⟩) capl l g1 g2 g3 g4 bt pre ok w') (fun w'=>AgX W0.heap.size g1 pre ok sF w') p kn (eP Rr) (.panicked (bg p)) W) (bg p) (fun a W hd h=>⟨hd,h⟩) (fun _ _ _ _ _ h=>h) ?_ ?_
      ·skip
       rintro a9 w9 ⟨u105,u106,u107,u108,u109,u110,u113,u111,u112,u114,f9,D9,F9,rfl,MS,R9'⟩
       rw[←hA];try simp only[pts,List.foldl]
       have M9:=hQQ MS
       have R9:=hQQ R9'
       clear MS R9' HF hA MR
       go_simp
       go_wp2_with fail
       go_roundw
       case rel=>exact⟨j+1,st.put x (fun _=> []),nP fs wk f9,o,D9,F9,by go_num,by omega,by rw[FSt.put_O];have:=HBL.o;omega,M9.o.1,M9.o.2,R9.o⟩
       case measure=>simp[intOf];omega
      intro QQ FINE FIND FINQ
      clear hA
      refine tqM 0 105 3 rfl (.inl rfl) rfl (by kernel_rfl) FINQ (KC.o _ _ _ MR.o) HF fun A β1 HF=>?_
      refine tqM 1 106 1 rfl (.inl rfl) rfl (by kernel_rfl) FINQ (KC.o _ _ _ MR.o) HF fun A β2 HF=>?_
      refine tqC 2 107 (.agg c.arr) (by kernel_rfl) FINQ (KC.o _ _ _ MR.o) HF (by exact aC (ab rfl) 28 _ rfl g4 (HF.get 4 rfl) 28 _ _ _ (fun W hW=>hW.h4) Tryz.underlying28 rfl (by kernel_rfl)) fun A β3 HF=>?_
      refine tqM 3 108 6 rfl (.inl rfl) rfl (by kernel_rfl) FINQ (KC.o _ _ _ MR.o) HF fun A β4 HF=>?_
      refine tqC 4 109 (.pointer (some ⟨g1,25,none⟩)) (by kernel_rfl) FINQ (KC.o _ _ _ MR.o) HF (by exact(Or.inl ⟨(ab rfl),fun W hW=>by have h5:=(HF.getD 5 rfl);go_simp⟩)) fun A β5 HF=>?_
      refine tqC 5 110 (.pointer (some ⟨g1,25+wk * 5,none⟩)) (by kernel_rfl) FINQ (KC.o _ _ _ MR.o) HF (by exact(Or.inl ⟨(ab rfl),fun W hW=>by have h5:=(HF.getD 0 rfl);have h6:=(HF.getD 1 rfl);go_simp⟩)) fun A β6 HF=>?_
      refine tqC 8 113 (.pointer (some ⟨g1,25,none⟩)) (by kernel_rfl) FINQ (KC.o _ _ _ MR.o) HF (by exact(Or.inl ⟨(ab rfl),fun W hW=>by have h5:=(HF.getD 7 rfl);go_simp⟩)) fun A β7 HF=>?_
      refine tqO 6 111 (by kernel_rfl) HF fun K hK=>?_
      refine wp_load_mid 32 _ rfl g1 (25+wk * 5) (HF.get 1 rfl) (puA (fs wk)).toList _ (MR.o.2.st.range (n:=wk) hwk.o) Tryz.underlying32 rfl (by kernel_rfl) ?_
      refine hK _ _ (KC.o _ _ _ MR.o) fun A β8 HF=>?_
      clear hK K
      refine tqO 7 112 (by kernel_rfl) HF fun K hK=>?_
      refine du (v0:=.pointer (some ⟨p,0,none⟩)) (v1:=.agg c.arr) (v2:=.agg (puA (fs wk)).toList.toArray) rfl (HF.get 6 rfl) (HF.get 5 rfl) (HF.get 0 rfl) (enters_of Tryz.func17 (by kernel_rfl) rfl) ?_
      refine(T.flC F1 (fun q=>q<W0.heap.size) p kn D1 wq (fs wk) (st.at x) MR.o.1.view HK.o MR.o.1.inv (KC.o _ _ _ MR.o).sz (NZ.o _ _ _ MR.o.1).1 (NZ.o _ _ _ MR.o.1).2 (fun q z=>Nat.lt_of_lt_of_le z MR.o.1.size) (MR.o.2.atk hwk.o ex) (MR.o.2.okS.at x)).mono ?_
      intro e w7 he
      rcases MR.o.1.stepP (ae.refl _) HK.o (T.flG _ (MR.o.2.okS.at x)) he with⟨a',hE,rfl,hd',ht',hk6⟩|⟨x6,f6,D6,F6,hE,rfl,M6',hp6,hq6,hk6,hf6⟩
      ·exact FIND _ _ HF.1.2 (NEED.o a' w7 (E9.o.symm.trans (ag hE)) hd' ht' ⟨_,_,MR.o.2.st.1,hk6 _ _ (N1.o _ _ _ MR.o.1) MR.o.2.st.2⟩)
      have R6:=hQQ ((aj hE).symm.trans E9.o)
      rw[hq6] at R6 hp6
      have M6:Hq (MidV W0 w7 F (fun b=>b=g1) p kn n D6 F6∧AgM W0.heap.size g1 pre ok c F6 (st) (fs) o w7):=hQQ ⟨M6',MR.o.2.stay (N1.o _ _ _ MR.o.1) hk6 hf6⟩
      have P6:=hQQ hp6
      clear he hE hk6 hf6 hq6 hp6
      refine hK _ _ (KC.o _ _ _ M6.o) fun A β9 HF=>?_
      clear hK K
      refine tqC 9 114 (.pointer (some ⟨g1,25+wk * 5,none⟩)) (by kernel_rfl) FINQ (KC.o _ _ _ M6.o) HF (by exact(Or.inl ⟨(ab rfl),fun W hW=>by have h5:=(HF.getD 2 rfl);have h6:=(HF.getD 8 rfl);go_simp⟩)) fun A β10 HF=>?_
      obtain⟨cur,hcur⟩:∃cur,(stL pre fs o ok).toArray=cur:=⟨_,rfl⟩
      have hg:=M6.o.2.st.2
      rw[hcur] at hg
      have hsz:cur.size=37:=by rw[←hcur,List.size_toArray];exact nL M6.o.2.st.1 _ _ _
      have A7:=M6.o.2.putk hwk.o ex f6 (fun _=> []) P6.o (dp.nil HR.o) cur hcur.symm
      have M7:=M6.o.1.setR (b:=g1) (fun _=>rfl) (N1.o _ _ _ M6.o.1) (cur.toList.take (25+wk * 5)++(puA f6).toList++cur.toList.drop (25+wk * 5+(puA f6).size)).toArray hg
      refine mW (i:=10) (by kernel_rfl) (by kernel_rfl) rfl (ab rfl) (fun K hK=>?_)
      refine j3 32 _ _ rfl g1 (25+wk * 5) (puA f6) (HF.get 0 rfl) (HF.get 1 rfl) 37 cur hg (by rw[hsz];show 25+wk * 5+5≤37;have:=hwk.o;omega) (by kernel_rfl) (Pu.all1 P6.o.1) ?_
      refine hK _ _ (KT.o _ M7.turn) (FINE _ _ ⟨(.int .i64 (wk:Int)),(.pointer (some ⟨p,0,none⟩)),(.agg c.arr),(.int .i64 (wk:Int)),(.pointer (some ⟨g1,25,none⟩)),(.pointer (some ⟨g1,25+wk * 5,none⟩)),(.pointer (some ⟨g1,25,none⟩)),(.agg (puA (fs wk)).toList.toArray),(.agg (puA f6)),(.pointer (some ⟨g1,25+wk * 5,none⟩)),f6,D6,F6,?_,⟨M7,A7⟩,R6.o⟩)
      rw[← β10,← β9,← β8,← β7,← β6,← β5,← β4,← β3,← β2,← β1];rfl
     ·by_cases k01:kind=0∨kind=1
      ·have hk01:=hQQ k01
       clear hk6 k4 k5
       have E9:=hQQ (show ak (T.tkP (gu c u) (st.at x) cl) (fun y=>dQ T (l.drop (j+1)) ((st.put x y.2).out (if y.1.2 then st.O++ [(y.1.1,cl)] else st.O))) kn D1=Rr from by have:=E2.o;rw[JL T _ _ _ _ _ k01] at this;exact this)
       obtain⟨kd,hkd⟩:∃kd,kd=kind:=⟨_,rfl⟩
       rw[←hkd] at HB4
       clear E2 HB hkd
       rcases k01 with rfl|rfl
       all_goals
        skip
        have HG1:Hq (g1<wr.heap.size):=hQQ A1.o.st.lt
        have HW0:Hq (W0.heap.size≤wr.heap.size):=hQQ M1.o.size
        have NA:Hq (¬F1 wr.heap.size):=hQQ fun q=>by have:=M1.o.view.lt _ q;omega
        have KC:Hq (∀W D' F',(MidV W0 W F (fun b=>b=g1) p kn n D' F'∧AgM W0.heap.size g1 pre ok c F' st fs o W∧W.heap[wr.heap.size]?=some (.cells #[.int .i64 kd,.int .i64 x,.int .i64 u,.int .i64 cl,.int .i64 m] 77 (0,0)))→AgK c (some ⟨sb,so,none⟩) capl l g2 g3 g4 bt W∧W.heap[wr.heap.size]?=some (.cells #[.int .i64 kd,.int .i64 x,.int .i64 u,.int .i64 cl,.int .i64 m] 77 (0,0))∧StB W g1 pre fs o ok):=hQQ fun W D' F' h=>⟨KT.o _ h.1.turn,h.2.2,h.2.1.st⟩
        have M4':Hq (MidV W0 w4 F (fun b=>b=g1) p kn n D1 F1∧AgM W0.heap.size g1 pre ok c F1 st fs o w4∧w4.heap[wr.heap.size]?=some (.cells #[.int .i64 kd,.int .i64 x,.int .i64 u,.int .i64 cl,.int .i64 m] 77 (0,0))):=hQQ ⟨M1.o.more M4.o,A1.o.more M4.o,HB4.o⟩
        obtain⟨wk,hwk0,ex⟩:=JM x
        have hwk:=hQQ hwk0
        have hwi:(wk:Int)<2:=by omega
        rw[ex]
        go_wp2_with fail
        rw[hrem]
        clear M4 M1 A1 KK c2 y0 y2 y3 y4 z1 HB4 hk01
        have M4:=M4'
        refine aM (fun W=>AgK c (some ⟨sb,so,none⟩) capl l g2 g3 g4 bt W∧W.heap[wr.heap.size]?=some (.cells #[.int .i64 kd,.int .i64 x,.int .i64 u,.int .i64 cl,.int .i64 m] 77 (0,0))∧StB W g1 pre fs o ok) (by kernel_rfl) ?_
        have MR:Hq (MidV W0 (w4.drewN 1) F (fun b=>b=g1) p kn n D1 F1∧AgM W0.heap.size g1 pre ok c F1 st fs o (w4.drewN 1)∧(w4.drewN 1).heap[wr.heap.size]?=some (.cells #[.int .i64 kd,.int .i64 x,.int .i64 u,.int .i64 cl,.int .i64 m] 77 (0,0))):=hQQ ⟨M4.o.1.more ((ae.refl w4).drewN 1),M4.o.2.1.more ((ae.refl w4).drewN 1),((ae.refl w4).drewN 1).block M4.o.2.2⟩
        change dc _ _ _ _ _ _ _ _ (w4.drewN 1)
        generalize w4.drewN 1=wq at MR⊢
        generalize hA:Act.mk _ _=A
        have HF:AG 120 A [(0,.pointer (some ⟨p,0,none⟩)),(1,.pointer (some ⟨g1,0,none⟩)),(4,.pointer (some ⟨g4,0,none⟩)),(7,.pointer (some ⟨wr.heap.size,0,none⟩)),(8,.int .i64 (wk:Int)),(9,.int .i64 (gu c u))]:=by
         rw[←hA];try simp only[pts,List.foldl]
         refine⟨⟨Nat.le_of_ble_eq_true rfl,rfl⟩,?_⟩
         intro z hz;simp only[List.mem_cons,List.not_mem_nil,or_false] at hz;rcases hz with rfl|rfl|rfl|rfl|rfl|rfl<;>rfl
        refine bH (fun a W=>∃(u46 u47 u48 u49 u50 u51 u52 u53 u54 u55 u45 u56 u57 u58:Value) (gP:Nat) (X:Int) (B:Bool) (f9:Nat→Value) (P9:Nat→List Int) (D9:List KV) (F9:Nat→Prop),(a=(Act.put (Act.put (pts A [(46,u46),(47,u47),(48,u48),(49,u49),(50,u50),(51,u51),(52,u52),(53,u53),(54,u54),(55,u55),(45,u45),(56,u56),(57,u57),(58,u58),(11,.pointer (some ⟨gP,0,none⟩)),(10,.int .i64 X)]) none undef) (some 12) (.bool B))∨a=(Act.put (Act.put (pts A [(46,u46),(47,u47),(48,u48),(49,u49),(50,u50),(51,u51),(52,u52),(53,u53),(54,u54),(11,.pointer (some ⟨gP,0,none⟩)),(55,u55),(45,u45),(56,u56),(57,u57),(58,u58),(10,.int .i64 X)]) none undef) (some 12) (.bool B)))∧(MidV W0 W F (fun b=>b=g1) p kn n D9 F9∧AgM W0.heap.size g1 pre ok c F9 st fs o W∧W.heap[wr.heap.size]?=some (.cells #[.int .i64 kd,.int .i64 x,.int .i64 u,.int .i64 cl,.int .i64 m] 77 (0,0)))∧W.heap[gP]?=some (.cells (puA f9) 32 (0,0))∧cL (fun q=>q<W0.heap.size∨F9 q) W f9 P9∧(W64 X∧dp c P9)∧dQ T (l.drop (j+1)) ((st.put x P9).out (if B then st.O++ [(X,cl)] else st.O)) kn D9=Rr) (fun W=>gj W0 F (fun b=>b=g1) (fun w'=>AgY c (some ⟨sb,so,none⟩) capl l g1 g2 g3 g4 bt pre ok w') (fun w'=>AgX W0.heap.size g1 pre ok sF w') p kn (eP Rr) (.panicked (bg p)) W) (bg p) (fun a W hd h=>⟨hd,h⟩) (fun _ _ _ _ _ h=>h) ?_ ?_
        ·skip
         rintro a9 w9 ⟨u46,u47,u48,u49,u50,u51,u52,u53,u54,u55,u45,u56,u57,u58,gP,X,B,f9,P9,D9,F9,hn,MS,hb9,hp9,hl9,R9'⟩
         have E:(Act.put (Act.put (pts A [(46,u46),(47,u47),(48,u48),(49,u49),(50,u50),(51,u51),(52,u52),(53,u53),(54,u54),(11,.pointer (some ⟨gP,0,none⟩)),(55,u55),(45,u45),(56,u56),(57,u57),(58,u58),(10,.int .i64 X)]) none undef) (some 12) (.bool B))=(Act.put (Act.put (pts A [(46,u46),(47,u47),(48,u48),(49,u49),(50,u50),(51,u51),(52,u52),(53,u53),(54,u54),(55,u55),(45,u45),(56,u56),(57,u57),(58,u58),(11,.pointer (some ⟨gP,0,none⟩)),(10,.int .i64 X)]) none undef) (some 12) (.bool B)):=by rw[←hA];kernel_rfl
         have hn:a9=(Act.put (Act.put (pts A [(46,u46),(47,u47),(48,u48),(49,u49),(50,u50),(51,u51),(52,u52),(53,u53),(54,u54),(55,u55),(45,u45),(56,u56),(57,u57),(58,u58),(11,.pointer (some ⟨gP,0,none⟩)),(10,.int .i64 X)]) none undef) (some 12) (.bool B)):=by
          rcases hn with q|q
          ·exact q
          ·exact q.trans E
         subst hn
         rw[←hA];try simp only[pts,List.foldl]
         have M9:=hQQ MS
         have B9:=hQQ hb9
         have P9':=hQQ hp9
         have L9:=hQQ hl9
         have R9:=hQQ R9'
         clear MS hb9 hp9 hl9 R9' HF hA MR E hn
         obtain⟨cur9,hcur9⟩:∃cur9,(stL pre fs o ok).toArray=cur9:=⟨_,rfl⟩
         have hg9:=M9.o.2.1.st.2
         rw[hcur9] at hg9
         have hsz9:cur9.size=37:=by rw[←hcur9,List.size_toArray];exact nL M9.o.2.1.st.1 _ _ _
         obtain⟨wz,ewz⟩:∃wz,w9.setRow g1 (cur9.toList.take (25+wk * 5)++(puA f9).toList++cur9.toList.drop ((25+wk * 5)+(puA f9).size)).toArray=wz:=⟨_,rfl⟩
         have AZ:Hq (AgM W0.heap.size g1 pre ok c F9 (st.put x P9) (nP fs wk f9) o wz):=hQQ (by rw[←ewz];exact M9.o.2.1.putk hwk.o ex f9 P9 P9'.o L9.o.2 cur9 hcur9.symm)
         have MZ:Hq (MidV W0 wz F (fun b=>b=g1) p kn n D9 F9):=hQQ (by rw[←ewz];exact M9.o.1.setR (b:=g1) (fun _=>rfl) (N1.o _ _ _ M9.o.1) _ hg9)
         have YZ:Hq (wz.heap[wr.heap.size]?=some (.cells #[.int .i64 kd,.int .i64 x,.int .i64 u,.int .i64 cl,.int .i64 m] 77 (0,0))):=hQQ (by
          rw[←ewz]
          exact((Turned.setRow (Turned.refl _ w9) (S:=fun k=>k=g1) _ _ (fun _=>rfl)).block _ (ac M9.o.2.2) (by have:=HG1.o;omega)).trans M9.o.2.2)
         have ST9:=hQQ hg9
         have SZ9:=hQQ hsz9
         have AL9:=hQQ (Pu.all1 P9'.o.1)
         clear hcur9 hg9 hsz9
         cases B with
         |false =>
          go_simp
          go_wp2_with (first
           |(refine kE rfl rfl rfl B9.o (by kernel_rfl) ?_)
           |(refine gM rfl 32 _ _ rfl g1 (25+wk * 5) (puA f9) rfl rfl 37 cur9 ST9.o (by rw[SZ9.o];show 25+wk * 5+5≤37;have:=hwk.o;omega) (by kernel_rfl) AL9.o ?_;rw[ewz]))
          go_roundw
          case rel=>exact⟨j+1,st.put x P9,nP fs wk f9,o,D9,F9,by go_num,by omega,by rw[FSt.put_O];have:=HBL.o;omega,MZ.o,AZ.o,by have h9:=R9.o;simp only[Bool.false_eq_true,if_false] at h9;rw[←FSt.put_O st x P9,FSt.out_self] at h9;exact h9⟩
          case measure=>simp[intOf];omega
         |true =>
          have x35:=AZ.o.st.row
          have x36:=AZ.o.st.froz 35
          have y3:wz.cell? ⟨wr.heap.size,3,none⟩=some (.int .i64 cl):=by simp[World.cell?,YZ.o]
          have HRW:=hQQ AZ.o.row.1
          rw[FSt.put_O] at HRW
          have NXT:Hq (∀v' wc,BlR W0.heap.size wc v' (st.O++ [(X,cl)])→Turned (fun k=>o.ownBlock=some k) wz wc→(∀k,v'.ownBlock=some k→o.ownBlock=some k∨wz.heap.size≤k)→(StB wc g1 pre (nP fs wk f9) o ok∧MidV W0 (wc.setCell ⟨g1,35,none⟩ v') F (fun b=>b=g1) p kn n D9 F9∧AgM W0.heap.size g1 pre ok c F9 ((st.put x P9).out (st.O++ [(X,cl)])) (nP fs wk f9) v' (wc.setCell ⟨g1,35,none⟩ v'))):=hQQ fun v' wc h1 h2 h3=>by
           obtain⟨q1,q2,q3,q4⟩:=LQ MZ.o AZ.o h2
           refine⟨q2,q1.setC q2 (N1.o _ _ _ q1),AgM.putO2 q2 q3 q4 AZ.o.okS ⟨h1,fun k e=>⟨fun z=>?_,?_⟩⟩ (fun q hq=>?_)⟩
           ·rcases h3 k e with r|r
            ·exact(AZ.o.row.2 k r).1 z
            ·have:=MZ.o.view.lt k z;omega
           ·rcases h3 k e with r|r
            ·exact(AZ.o.row.2 k r).2
            ·have:=MZ.o.size;omega
           ·rcases List.mem_append.1 hq with r|r
            ·exact M9.o.2.1.okS.o q r
            ·rw[List.mem_singleton.1 r];exact L9.o.1
          have HLN:Hq (st.O.length<1000000):=hQQ (by have:=HBL.o;have:=HL.o;omega)
          have HSZ:Hq (W0.heap.size≤wz.heap.size):=hQQ MZ.o.size
          go_simp
          go_wp2_with (first
           |(refine kE rfl rfl rfl B9.o (by kernel_rfl) ?_)
           |(refine gM rfl 32 _ _ rfl g1 (25+wk * 5) (puA f9) rfl rfl 37 cur9 ST9.o (by rw[SZ9.o];show 25+wk * 5+5≤37;have:=hwk.o;omega) (by kernel_rfl) AL9.o ?_;rw[ewz])
           |(at_builtin;refine Dd X cl rfl _ _ rfl rfl HRW.o HSZ.o HLN.o rfl ?_;intro v5 wc h5 t5 k5;obtain⟨a5,c5,rfl,_⟩:=h5.reads;obtain⟨n1',n2',n3'⟩:=NXT.o _ wc h5 t5 k5;rw[show(st.O++ [(X,cl)]).length=st.O.length+1 by simp] at n2' n3';have x45:=n1'.row;have x46:=n1'.froz 35;have N2:=hQQ n2';have N3:=hQQ n3';clear h5 t5 k5 n1' n2' n3'))
          go_roundw
          case rel=>exact⟨j+1,(st.put x P9).out (st.O++ [(X,cl)]),nP fs wk f9,_,D9,F9,by go_num,by omega,by show(st.O++ [(X,cl)]).length≤_;have:=HBL.o;simp;omega,N2.o,N3.o,R9.o⟩
          case measure=>simp[intOf];omega
        intro QQ FINE FIND FINQ
        clear hA
        refine tqM 0 46 0 rfl (.inl rfl) rfl (by kernel_rfl) FINQ (KC.o _ _ _ MR.o) HF fun A β1 HF=>?_
        refine tqC 1 47 (.agg c.arr) (by kernel_rfl) FINQ (KC.o _ _ _ MR.o) HF (by exact aC (ab rfl) 28 _ rfl g4 (HF.get 3 rfl) 28 _ _ _ (fun W hW=>hW.1.h4) Tryz.underlying28 rfl (by kernel_rfl)) fun A β2 HF=>?_
        refine tqM 2 48 7 rfl (.inl rfl) rfl (by kernel_rfl) FINQ (KC.o _ _ _ MR.o) HF fun A β3 HF=>?_
        refine tqM 3 49 7 rfl (.inl rfl) rfl (by kernel_rfl) FINQ (KC.o _ _ _ MR.o) HF fun A β4 HF=>?_
        refine tqC 4 50 (.pointer (some ⟨g1,25,none⟩)) (by kernel_rfl) FINQ (KC.o _ _ _ MR.o) HF (by exact(Or.inl ⟨(ab rfl),fun W hW=>by have h5:=(HF.getD 5 rfl);go_simp⟩)) fun A β5 HF=>?_
        refine tqC 5 51 (.pointer (some ⟨g1,25+wk * 5,none⟩)) (by kernel_rfl) FINQ (KC.o _ _ _ MR.o) HF (by exact(Or.inl ⟨(ab rfl),fun W hW=>by have h5:=(HF.getD 0 rfl);have h6:=(HF.getD 1 rfl);go_simp⟩)) fun A β6 HF=>?_
        refine tqC 6 52 (.agg (puA (fs wk)).toList.toArray) (by kernel_rfl) FINQ (KC.o _ _ _ MR.o) HF (by exact mN (ab rfl) 32 _ rfl g1 (25+wk * 5) (HF.get 0 rfl) (puA (fs wk)).toList _ (fun W hW=>hW.2.2.range (n:=wk) hwk.o) Tryz.underlying32 rfl (by kernel_rfl)) fun A β7 HF=>?_
        refine tqC 7 53 (.pointer (some ⟨wr.heap.size,3,none⟩)) (by kernel_rfl) FINQ (KC.o _ _ _ MR.o) HF (by exact(Or.inl ⟨(ab rfl),fun W hW=>by have h5:=(HF.getD 10 rfl);go_simp⟩)) fun A β8 HF=>?_
        refine tqC 8 54 (.int .i64 cl) (by kernel_rfl) FINQ (KC.o _ _ _ MR.o) HF (by exact dA (ab rfl) 3 _ rfl (wr.heap.size) 3 (HF.get 0 rfl) (.int .i64 cl) _ Tryz.underlying3 rfl (fun W hW=>by simp[World.cell?,hW.2.1])) fun A β9 HF=>?_
        refine ke (i:=9) (j:=14) (some 55) (some 11) (by kernel_rfl) rfl rfl (ab rfl) (ab rfl) rfl rfl (fun K hK=>?_) (fun K hK=>?_)
        ·refine kb (v0:=.pointer (some ⟨p,0,none⟩)) (v1:=.agg c.arr) (v2:=.int .i64 (gu c u)) (v3:=.agg (puA (fs wk)).toList.toArray) (v4:=.int .i64 cl) rfl (HF.get 8 rfl) (HF.get 7 rfl) (HF.get 6 rfl) (HF.get 2 rfl) (HF.get 0 rfl) (enters_of Tryz.func30 (by kernel_rfl) rfl) ?_
         refine(T.tkC F1 (fun q=>q<W0.heap.size) p kn D1 wq (gu c u) cl (fs wk) (st.at x) MR.o.1.view HK.o MR.o.1.inv (KT.o _ MR.o.1.turn).sz (NZ.o _ _ _ MR.o.1).1 (NZ.o _ _ _ MR.o.1).2 (fun q z=>Nat.lt_of_lt_of_le z MR.o.1.size) (MR.o.2.1.atk hwk.o ex) (MR.o.2.1.okS.at x)).mono ?_
         intro e w7 he
         rcases MR.o.1.stepP (ae.refl _) HK.o (T.tkG _ _ _ (MR.o.2.1.okS.at x)) he with⟨a',hE,rfl,hd',ht',hk6⟩|⟨x6,f6,D6,F6,hE,rfl,M6',hp6,hq6,hk6,hf6⟩
         ·exact FIND _ _ HF.1.2 (NEED.o a' w7 (E9.o.symm.trans (ag hE)) hd' ht' ⟨_,_,MR.o.2.1.st.1,hk6 _ _ (N1.o _ _ _ MR.o.1) MR.o.2.1.st.2⟩)
         have R6:=hQQ ((aj hE).symm.trans E9.o)
         have M6:Hq (MidV W0 w7 F (fun b=>b=g1) p kn n D6 F6∧AgM W0.heap.size g1 pre ok c F6 st fs o w7∧w7.heap[wr.heap.size]?=some (.cells #[.int .i64 kd,.int .i64 x,.int .i64 u,.int .i64 cl,.int .i64 m] 77 (0,0))):=hQQ ⟨M6',MR.o.2.1.stay (N1.o _ _ _ MR.o.1) hk6 hf6,hk6 _ _ NA.o MR.o.2.2⟩
         have P6:=hQQ hp6
         have L6:=hQQ hq6
         refine hK _ _ (KC.o _ _ _ M6.o) ?_
         clear hK K
         replace HF:=HF.put 55 (.tuple #[.int .i64 x6.1.1,.agg (puA f6),.bool x6.1.2]) (by decide) rfl
         generalize β10:Act.put _ _ _=A at HF⊢
         refine tqM 10 45 0 rfl (.inl rfl) rfl (by kernel_rfl) FINQ (KC.o _ _ _ M6.o) HF fun A β11 HF=>?_
         refine tqC 11 56 (.int .i64 x6.1.1) (by kernel_rfl) FINQ (KC.o _ _ _ M6.o) HF (by exact(Or.inl ⟨(ab rfl),fun W hW=>by have h5:=(HF.getD 0 rfl);go_simp⟩)) fun A β12 HF=>?_
         refine tqC 12 57 (.agg (puA f6)) (by kernel_rfl) FINQ (KC.o _ _ _ M6.o) HF (by exact(Or.inl ⟨(ab rfl),fun W hW=>by have h5:=(HF.getD 1 rfl);go_simp⟩)) fun A β13 HF=>?_
         refine tqC 13 58 (.bool x6.1.2) (by kernel_rfl) FINQ (KC.o _ _ _ M6.o) HF (by exact(Or.inl ⟨(ab rfl),fun W hW=>by have h5:=(HF.getD 2 rfl);go_simp⟩)) fun A β14 HF=>?_
         refine bG (i:=14) (some 11) (by kernel_rfl) rfl (ab rfl) rfl (fun K hK=>?_)
         refine od rfl ?_
         obtain⟨w8,e8,z8,m8,s8⟩:=en1 w7 (.cells #[.slice none 0 0,.slice none 0 0,.slice none 0 0,.slice none 0 0,.slice none 0 0] 32)
         rw[e8]
         have M8:Hq (MidV W0 w8 F (fun b=>b=g1) p kn n D6 F6∧AgM W0.heap.size g1 pre ok c F6 st fs o w8∧w8.heap[wr.heap.size]?=some (.cells #[.int .i64 kd,.int .i64 x,.int .i64 u,.int .i64 cl,.int .i64 m] 77 (0,0))):=hQQ ⟨M6.o.1.more m8,M6.o.2.1.more m8,m8.block M6.o.2.2⟩
         have P8:=hQQ (cL.more P6.o m8)
         refine hK _ _ (KC.o _ _ _ M8.o) ?_
         clear hK K e8
         replace HF:=HF.put 11 (.pointer (some ⟨w7.heap.size,0,none⟩)) (by decide) rfl
         generalize β15:Act.put _ _ _=A at HF⊢
         have hsz:wr.heap.size<w7.heap.size:=ac M6.o.2.2
         -- the three that are left
         refine tqM 15 10 3 rfl (.inr rfl) rfl (by kernel_rfl) FINQ (KC.o _ _ _ M8.o) HF fun A β16 HF=>?_
         have gne:w7.heap.size≠g1:=by have:=HG1.o;have:=hsz;omega
         have TS:Turned (fun k=>k=w7.heap.size) w8 (w8.setRow (w7.heap.size) (puA f6)):=Turned.setRow (Turned.refl _ _) _ _ (fun _=>rfl)
         have M9:Hq (MidV W0 (w8.setRow (w7.heap.size) (puA f6)) F (fun b=>b=g1) p kn n D6 F6∧AgM W0.heap.size g1 pre ok c F6 st fs o (w8.setRow (w7.heap.size) (puA f6))∧(w8.setRow (w7.heap.size) (puA f6)).heap[wr.heap.size]?=some (.cells #[.int .i64 kd,.int .i64 x,.int .i64 u,.int .i64 cl,.int .i64 m] 77 (0,0))):=hQQ ⟨M8.o.1.setR (b:=w7.heap.size) (fun q=>absurd q (by have:=HW0.o;have:=hsz;omega)) (fun q=>by have:=M6.o.1.view.lt _ q;omega) (puA f6) z8,M8.o.2.1.box TS z8 gne,(TS.block _ (ac M8.o.2.2) (by have:=hsz;omega)).trans M8.o.2.2⟩
         have P9:=hQQ (cL.keep P8.o TS (fun k q=>by subst q;exact⟨_,_,_,z8,by decide⟩))
         have B9:=hQQ (setRow_heap _ _ _ (puA f6) _ _ z8)
         refine bG (i:=16) none (by kernel_rfl) rfl (ab rfl) rfl (fun K hK=>?_)
         refine wp_store_row 32 _ _ rfl (w7.heap.size) _ (HF.get 1 rfl) (HF.get 3 rfl) 32 _ z8 (by kernel_rfl) rfl (Pu.all1 P8.o.1) ?_
         refine hK _ _ (KC.o _ _ _ M9.o) ?_
         clear hK K
         replace HF:=HF.skipO undef
         generalize hBN:Act.put _ none undef=A at HF⊢
         refine tqM 17 12 2 rfl (.inr rfl) rfl (by kernel_rfl) FINQ (KC.o _ _ _ M9.o) HF fun A β18 HF=>?_
         exact bI (by kernel_rfl) (FINE _ _ ⟨(.pointer (some ⟨p,0,none⟩)),(.agg c.arr),(.int .i64 (gu c u)),(.int .i64 (wk:Int)),(.pointer (some ⟨g1,25,none⟩)),(.pointer (some ⟨g1,25+wk * 5,none⟩)),(.agg (puA (fs wk)).toList.toArray),(.pointer (some ⟨wr.heap.size,3,none⟩)),(.int .i64 cl),(.tuple #[.int .i64 x6.1.1,.agg (puA f6),.bool x6.1.2]),(.tuple #[.int .i64 x6.1.1,.agg (puA f6),.bool x6.1.2]),(.int .i64 x6.1.1),(.agg (puA f6)),(.bool x6.1.2),w7.heap.size,x6.1.1,x6.1.2,f6,x6.2,D6,F6,Or.inl (by rw[← β18,←hBN,← β16,← β15,← β14,← β13,← β12,← β11,← β10,← β9,← β8,← β7,← β6,← β5,← β4,← β3,← β2,← β1]<;>rfl),M9.o,B9.o,P9.o,L6.o,R6.o⟩)
        ·refine od rfl ?_
         obtain⟨w7,e7,z7,m7,s7⟩:=en1 wq (.cells #[.slice none 0 0,.slice none 0 0,.slice none 0 0,.slice none 0 0,.slice none 0 0] 32)
         rw[e7]
         have M7:Hq (MidV W0 w7 F (fun b=>b=g1) p kn n D1 F1∧AgM W0.heap.size g1 pre ok c F1 st fs o w7∧w7.heap[wr.heap.size]?=some (.cells #[.int .i64 kd,.int .i64 x,.int .i64 u,.int .i64 cl,.int .i64 m] 77 (0,0))):=hQQ ⟨MR.o.1.more m7,MR.o.2.1.more m7,m7.block MR.o.2.2⟩
         refine hK _ _ (KC.o _ _ _ M7.o) ?_
         clear hK K e7
         replace HF:=HF.put 11 (.pointer (some ⟨wq.heap.size,0,none⟩)) (by decide) rfl
         generalize β10:Act.put _ _ _=A at HF⊢
         refine tqO 9 55 (by kernel_rfl) HF fun K hK=>?_
         have NP:¬F1 wq.heap.size:=fun q=>by have:=MR.o.1.view.lt _ q;omega
         refine kb (v0:=.pointer (some ⟨p,0,none⟩)) (v1:=.agg c.arr) (v2:=.int .i64 (gu c u)) (v3:=.agg (puA (fs wk)).toList.toArray) (v4:=.int .i64 cl) rfl (HF.get 9 rfl) (HF.get 8 rfl) (HF.get 7 rfl) (HF.get 3 rfl) (HF.get 1 rfl) (enters_of Tryz.func30 (by kernel_rfl) rfl) ?_
         refine(T.tkC F1 (fun q=>q<W0.heap.size) p kn D1 w7 (gu c u) cl (fs wk) (st.at x) M7.o.1.view HK.o M7.o.1.inv (KT.o _ M7.o.1.turn).sz (NZ.o _ _ _ M7.o.1).1 (NZ.o _ _ _ M7.o.1).2 (fun q z=>Nat.lt_of_lt_of_le z M7.o.1.size) (M7.o.2.1.atk hwk.o ex) (M7.o.2.1.okS.at x)).mono ?_
         intro e w8 he
         rcases M7.o.1.stepP (ae.refl _) HK.o (T.tkG _ _ _ (M7.o.2.1.okS.at x)) he with⟨a',hE,rfl,hd',ht',hk6⟩|⟨x6,f6,D6,F6,hE,rfl,M6',hp6,hq6,hk6,hf6⟩
         ·exact FIND _ _ HF.1.2 (NEED.o a' w8 (E9.o.symm.trans (ag hE)) hd' ht' ⟨_,_,M7.o.2.1.st.1,hk6 _ _ (N1.o _ _ _ M7.o.1) M7.o.2.1.st.2⟩)
         have R6:=hQQ ((aj hE).symm.trans E9.o)
         have M6:Hq (MidV W0 w8 F (fun b=>b=g1) p kn n D6 F6∧AgM W0.heap.size g1 pre ok c F6 st fs o w8∧w8.heap[wr.heap.size]?=some (.cells #[.int .i64 kd,.int .i64 x,.int .i64 u,.int .i64 cl,.int .i64 m] 77 (0,0))):=hQQ ⟨M6',M7.o.2.1.stay (N1.o _ _ _ M7.o.1) hk6 hf6,hk6 _ _ NA.o M7.o.2.2⟩
         have P6:=hQQ hp6
         have L6:=hQQ hq6
         have z8:=hk6 _ _ NP z7
         have NP6:¬F6 wq.heap.size:=fun q=>by rcases hf6 _ q with r|r;exact NP r;have:=ac z7;omega
         refine hK _ _ (KC.o _ _ _ M6.o) fun A β11 HF=>?_
         clear hK K
         refine tqM 10 45 0 rfl (.inl rfl) rfl (by kernel_rfl) FINQ (KC.o _ _ _ M6.o) HF fun A β12 HF=>?_
         refine tqC 11 56 (.int .i64 x6.1.1) (by kernel_rfl) FINQ (KC.o _ _ _ M6.o) HF (by exact(Or.inl ⟨(ab rfl),fun W hW=>by have h5:=(HF.getD 0 rfl);go_simp⟩)) fun A β13 HF=>?_
         refine tqC 12 57 (.agg (puA f6)) (by kernel_rfl) FINQ (KC.o _ _ _ M6.o) HF (by exact(Or.inl ⟨(ab rfl),fun W hW=>by have h5:=(HF.getD 1 rfl);go_simp⟩)) fun A β14 HF=>?_
         refine tqC 13 58 (.bool x6.1.2) (by kernel_rfl) FINQ (KC.o _ _ _ M6.o) HF (by exact(Or.inl ⟨(ab rfl),fun W hW=>by have h5:=(HF.getD 2 rfl);go_simp⟩)) fun A β15 HF=>?_
         have hsz:wr.heap.size<wq.heap.size:=ac MR.o.2.2
         refine tqM 15 10 2 rfl (.inr rfl) rfl (by kernel_rfl) FINQ (KC.o _ _ _ M6.o) HF fun A β16 HF=>?_
         have gne:wq.heap.size≠g1:=by have:=HG1.o;have:=hsz;omega
         have TS:Turned (fun k=>k=wq.heap.size) w8 (w8.setRow (wq.heap.size) (puA f6)):=Turned.setRow (Turned.refl _ _) _ _ (fun _=>rfl)
         have M9:Hq (MidV W0 (w8.setRow (wq.heap.size) (puA f6)) F (fun b=>b=g1) p kn n D6 F6∧AgM W0.heap.size g1 pre ok c F6 st fs o (w8.setRow (wq.heap.size) (puA f6))∧(w8.setRow (wq.heap.size) (puA f6)).heap[wr.heap.size]?=some (.cells #[.int .i64 kd,.int .i64 x,.int .i64 u,.int .i64 cl,.int .i64 m] 77 (0,0))):=hQQ ⟨M6.o.1.setR (b:=wq.heap.size) (fun q=>absurd q (by have:=HW0.o;have:=hsz;omega)) NP6 (puA f6) z8,M6.o.2.1.box TS z8 gne,(TS.block _ (ac M6.o.2.2) (by have:=hsz;omega)).trans M6.o.2.2⟩
         have P9:=hQQ (cL.keep P6.o TS (fun k q=>by subst q;exact⟨_,_,_,z8,by decide⟩))
         have B9:=hQQ (setRow_heap _ _ _ (puA f6) _ _ z8)
         refine bG (i:=16) none (by kernel_rfl) rfl (ab rfl) rfl (fun K hK=>?_)
         refine wp_store_row 32 _ _ rfl (wq.heap.size) _ (HF.get 6 rfl) (HF.get 2 rfl) 32 _ z8 (by kernel_rfl) rfl (Pu.all1 P6.o.1) ?_
         refine hK _ _ (KC.o _ _ _ M9.o) ?_
         clear hK K
         replace HF:=HF.skipO undef
         generalize hBN:Act.put _ none undef=A at HF⊢
         refine tqM 17 12 1 rfl (.inr rfl) rfl (by kernel_rfl) FINQ (KC.o _ _ _ M9.o) HF fun A β18 HF=>?_
         exact bI (by kernel_rfl) (FINE _ _ ⟨(.pointer (some ⟨p,0,none⟩)),(.agg c.arr),(.int .i64 (gu c u)),(.int .i64 (wk:Int)),(.pointer (some ⟨g1,25,none⟩)),(.pointer (some ⟨g1,25+wk * 5,none⟩)),(.agg (puA (fs wk)).toList.toArray),(.pointer (some ⟨wr.heap.size,3,none⟩)),(.int .i64 cl),(.tuple #[.int .i64 x6.1.1,.agg (puA f6),.bool x6.1.2]),(.tuple #[.int .i64 x6.1.1,.agg (puA f6),.bool x6.1.2]),(.int .i64 x6.1.1),(.agg (puA f6)),(.bool x6.1.2),wq.heap.size,x6.1.1,x6.1.2,f6,x6.2,D6,F6,Or.inr (by rw[← β18,←hBN,← β16,← β15,← β14,← β13,← β12,← β11,← β10,← β9,← β8,← β7,← β6,← β5,← β4,← β3,← β2,← β1]<;>rfl),M9.o,B9.o,P9.o,L6.o,R6.o⟩)
      ·have k23:kind=2∨kind=3:=by omega
       have q01:(kind==0)=false:=by simp;omega
       have q11:(kind==1)=false:=by simp;omega
       clear hk6 k4 k5 k01
       by_cases hO:st.O= []
       ·have E9:=hQQ (show dQ T (l.drop (j+1)) st kn D1=Rr from by have:=E2.o;rw[Gs T _ _ _ _ _ k23 st (by rw[hO];simp)] at this;exact this)
        have hrow:BlR 0 w4 o []:=by
         have:=(A1.o.more M4.o).row.1.low (Nat.zero_le _)
         rw[hO] at this;exact this
        have NN:=hQQ (NQ o m w4 hrow)
        have z35:=(A1.o.more M4.o).st.row
        obtain⟨ao,co,rfl,_⟩:=hrow.reads
        clear hrow y3
        rcases k23 with rfl|rfl
        all_goals
         go_wp2_with fail
         refine NN.o.mono ?_
         rintro e w5 ⟨v5,rfl,h5,m5⟩
         obtain⟨a5,c5,rfl,_⟩:=h5.reads
         have M5:=hQQ (M4.o.trans m5)
         have M6:=hQQ (M5.o.trans (((ae.refl w5).alloc (.cells #[.int .i64 0,.int .i64 0] 48)).setRow w5.heap.size #[.int .i64 0,.int .i64 0] (Nat.le_refl _)))
         clear h5 m5 y0 y2 y4 z1 z35
         go_wp2_with (refine wpList_store_row rfl 48 _ _ rfl _ _ rfl rfl 48 _ (aW _ _ _) (by kernel_rfl) rfl (by simp[Value.oneCell']) ?_)
         go_roundw
         case rel=>exact⟨j+1,st,_,_,D1,F1,by go_num,by omega,by have:=HBL.o;omega,M1.o.more M6.o,A1.o.more M6.o,E9.o⟩
         case measure=>simp[intOf];omega
       ·have hln:0<st.O.length:=by cases hc:st.O with|nil=>exact absurd hc hO|cons _ _=>simp
        obtain⟨⟨bx,bc⟩,hm⟩:∃q,st.O[nthI m st.O.length]?=some q:=⟨_,List.getElem?_eq_getElem (Li m hln)⟩
        have E9:=hQQ (show ak (T.gvP (gu c u) (st.at x) bc bx) (fun y=>dQ T (l.drop (j+1)) ((st.put x y.2).out (st.O.take (nthI m st.O.length)++st.O.drop (nthI m st.O.length+1)))) kn D1=Rr from by have:=E2.o;rw[Gt T _ _ _ _ _ k23 st hm] at this;exact this)
        have HW6:Hq (W64 bx):=hQQ (A1.o.okS.o (bx,bc) (List.mem_of_getElem? hm))
        have HO6:Hq (∀q∈st.O.take (nthI m st.O.length)++st.O.drop (nthI m st.O.length+1),W64 q.1):=hQQ fun q hq=>by
         rcases List.mem_append.1 hq with z|z
         ·exact A1.o.okS.o q (List.mem_of_mem_take z)
         ·exact A1.o.okS.o q (List.mem_of_mem_drop z)
        have NN:=hQQ (Lj o st.O m bx bc w4 ((A1.o.more M4.o).row.1.low (Nat.zero_le _)) (by have:=HBL.o;omega) hm)
        have z35:=(A1.o.more M4.o).st.row
        obtain⟨ao,co,ho',_⟩:=(A1.o.more M4.o).row.1.at
        clear y3 hm hO
        subst ho'
        clear E2 HB HB4
        rcases k23 with rfl|rfl
        all_goals
         go_wp2_with fail
         refine NN.o.mono ?_
         rintro e w5 ⟨v5,rfl,h5,m5⟩
         obtain⟨a5,c5,rfl,_⟩:=h5.reads
         obtain⟨w6,e6⟩:∃w6,(w5.alloc (.cells #[.int .i64 0,.int .i64 0] 48)).setRow w5.heap.size #[.int .i64 bx,.int .i64 bc]=w6:=⟨_,rfl⟩
         have hb6:w6.heap[w5.heap.size]?=some (.cells #[.int .i64 bx,.int .i64 bc] 48 (0,0)):=by rw[←e6];exact setRow_heap _ _ _ _ _ _ (aW _ _ _)
         have m6:ae w5 w6:=by rw[←e6];exact((ae.refl w5).alloc _).setRow _ _ (Nat.le_refl _)
         have mm:=M4.o.trans m5
         have lv:∀q,F1 q→q<wr.heap.size:=fun q z=>M1.o.view.lt q z
         obtain⟨gb,hgb⟩:∃gb,w5.heap.size=gb:=⟨_,rfl⟩
         have NB:Hq (¬F1 gb):=hQQ fun z=>by have:=lv _ z;have:=mm.size;omega
         have NG:Hq (gb≠g1):=hQQ (by have:=(A1.o.more mm).st.lt;omega)
         have OW:j4 W0.heap.size F1 w5 _ _:=⟨h5.low (by have:=M1.o.size;have:=M4.o.size;omega),fun q e=>⟨fun z=>by have:=lv _ z;have:=h5.own q e;have:=M4.o.size;omega,by have:=h5.own q e;have:=M1.o.size;have:=M4.o.size;omega⟩⟩
         rw[hgb] at hb6
         have HGB:=hQQ hgb
         have M6:Hq (MidV W0 w6 F (fun b=>b=g1) p kn n D1 F1∧AgM W0.heap.size g1 pre ok c F1 st fs (.slice ao st.O.length co) w6∧w6.heap[gb]?=some (.cells #[.int .i64 bx,.int .i64 bc] 48 (0,0))∧j4 W0.heap.size F1 w6 (.slice a5 (st.O.take (nthI m st.O.length)++st.O.drop (nthI m st.O.length+1)).length c5) (st.O.take (nthI m st.O.length)++st.O.drop (nthI m st.O.length+1))):=hQQ ⟨M1.o.more (mm.trans m6),A1.o.more (mm.trans m6),hb6,OW.more m6⟩
         have KC:Hq (∀W D' F',MidV W0 W F (fun b=>b=g1) p kn n D' F'→W.heap[gb]?=some (.cells #[.int .i64 bx,.int .i64 bc] 48 (0,0))→AgK c (some ⟨sb,so,none⟩) capl l g2 g3 g4 bt W∧W.heap[gb]?=some (.cells #[.int .i64 bx,.int .i64 bc] 48 (0,0))):=hQQ fun W D' F' h q=>⟨KT.o _ h.turn,q⟩
         clear hgb h5 m5 m6 mm lv OW hb6 y0 y2 y4 z1 z35 c2 M1 A1 KK M4 NN hln
         obtain⟨wk,hwk0,ex⟩:=JM x
         have hwk:=hQQ hwk0
         have hwi:(wk:Int)<2:=by omega
         rw[ex]
         go_wp2_with (refine wpList_store_row rfl 48 _ _ rfl _ _ rfl rfl 48 _ (aW _ _ _) (by kernel_rfl) rfl (by simp[Value.oneCell']) ?_;rw[e6])
         rw[HGB.o]
         refine aM (fun W=>AgK c (some ⟨sb,so,none⟩) capl l g2 g3 g4 bt W∧W.heap[gb]?=some (.cells #[.int .i64 bx,.int .i64 bc] 48 (0,0))) (by kernel_rfl) ?_
         have MR:Hq (MidV W0 (w6.drewN 1) F (fun b=>b=g1) p kn n D1 F1∧AgM W0.heap.size g1 pre ok c F1 st fs (.slice ao st.O.length co) (w6.drewN 1)∧(w6.drewN 1).heap[gb]?=some (.cells #[.int .i64 bx,.int .i64 bc] 48 (0,0))∧j4 W0.heap.size F1 (w6.drewN 1) (.slice a5 (st.O.take (nthI m st.O.length)++st.O.drop (nthI m st.O.length+1)).length c5) (st.O.take (nthI m st.O.length)++st.O.drop (nthI m st.O.length+1))):=hQQ ⟨M6.o.1.more ((ae.refl w6).drewN 1),M6.o.2.1.more ((ae.refl w6).drewN 1),((ae.refl w6).drewN 1).block M6.o.2.2.1,M6.o.2.2.2.more ((ae.refl w6).drewN 1)⟩
         change dc _ _ _ _ _ _ _ _ (w6.drewN 1)
         generalize w6.drewN 1=wq at MR⊢
         generalize hA:Act.mk _ _=A
         have HF:AG 120 A [(0,.pointer (some ⟨p,0,none⟩)),(1,.pointer (some ⟨g1,0,none⟩)),(4,.pointer (some ⟨g4,0,none⟩)),(8,.int .i64 (wk:Int)),(9,.int .i64 (gu c u)),(13,.pointer (some ⟨gb,0,none⟩))]:=by
          rw[←hA];try simp only[pts,List.foldl]
          refine⟨⟨Nat.le_of_ble_eq_true rfl,rfl⟩,?_⟩
          intro z hz;simp only[List.mem_cons,List.not_mem_nil,or_false] at hz;rcases hz with rfl|rfl|rfl|rfl|rfl|rfl<;>rfl
         refine bH (fun a W=>∃(u86 u87 u88 u89 u90 u91 u92 u94 u95 u96 u97 u99 u93 u98 u100:Value) (P9:Nat→List Int) (f9:Nat→Value) (D9:List KV) (F9:Nat→Prop),a=(Act.put (pts A [(86,u86),(87,u87),(88,u88),(89,u89),(90,u90),(91,u91),(92,u92),(94,u94),(95,u95),(96,u96),(97,u97),(99,u99),(93,u93),(98,u98),(100,u100)]) none undef)∧(MidV W0 W F (fun b=>b=g1) p kn n D9 F9∧AgM W0.heap.size g1 pre ok c F9 (st.put x P9) (nP fs wk f9) (.slice ao st.O.length co) W)∧j4 W0.heap.size F9 W (.slice a5 (st.O.take (nthI m st.O.length)++st.O.drop (nthI m st.O.length+1)).length c5) (st.O.take (nthI m st.O.length)++st.O.drop (nthI m st.O.length+1))∧dQ T (l.drop (j+1)) ((st.put x P9).out (st.O.take (nthI m st.O.length)++st.O.drop (nthI m st.O.length+1))) kn D9=Rr) (fun W=>gj W0 F (fun b=>b=g1) (fun w'=>AgY c (some ⟨sb,so,none⟩) capl l g1 g2 g3 g4 bt pre ok w') (fun w'=>AgX W0.heap.size g1 pre ok sF w') p kn (eP Rr) (.panicked (bg p)) W) (bg p) (fun a W hd h=>⟨hd,h⟩) (fun _ _ _ _ _ h=>h) ?_ ?_
         ·skip
          rintro a9 w9 ⟨u86,u87,u88,u89,u90,u91,u92,u94,u95,u96,u97,u99,u93,u98,u100,P9,f9,D9,F9,rfl,MS,OS,R9'⟩
          rw[←hA];try simp only[pts,List.foldl]
          have M9:=hQQ MS
          have R9:=hQQ R9'
          have O9:=hQQ OS
          have x35:=MS.2.st.row
          have x36:=MS.2.st.froz 35
          clear MS OS R9' HF hA MR
          go_simp
          go_wp2_with fail
          go_roundw
          case rel=>exact⟨j+1,(st.put x P9).out (st.O.take (nthI m st.O.length)++st.O.drop (nthI m st.O.length+1)),nP fs wk f9,_,D9,F9,by go_num,by omega,by show(st.O.take (nthI m st.O.length)++st.O.drop (nthI m st.O.length+1)).length≤_;have:=HBL.o;simp;omega,M9.o.1.setC M9.o.2.st (N1.o _ _ _ M9.o.1),M9.o.2.putO (by have q9:=O9.o;simp only[List.length_append,List.length_take,List.length_drop] at q9;exact q9) HO6.o,R9.o⟩
          case measure=>simp[intOf];omega
         intro QQ FINE FIND FINQ
         clear hA
         refine tqM 0 86 3 rfl (.inl rfl) rfl (by kernel_rfl) FINQ (KC.o _ _ _ MR.o.1 MR.o.2.2.1) HF fun A β1 HF=>?_
         refine tqM 1 87 1 rfl (.inl rfl) rfl (by kernel_rfl) FINQ (KC.o _ _ _ MR.o.1 MR.o.2.2.1) HF fun A β2 HF=>?_
         refine tqC 2 88 (.agg c.arr) (by kernel_rfl) FINQ (KC.o _ _ _ MR.o.1 MR.o.2.2.1) HF (by exact aC (ab rfl) 28 _ rfl g4 (HF.get 4 rfl) 28 _ _ _ (fun W hW=>hW.1.h4) Tryz.underlying28 rfl (by kernel_rfl)) fun A β3 HF=>?_
         refine tqM 3 89 7 rfl (.inl rfl) rfl (by kernel_rfl) FINQ (KC.o _ _ _ MR.o.1 MR.o.2.2.1) HF fun A β4 HF=>?_
         refine tqM 4 90 7 rfl (.inl rfl) rfl (by kernel_rfl) FINQ (KC.o _ _ _ MR.o.1 MR.o.2.2.1) HF fun A β5 HF=>?_
         refine tqC 5 91 (.pointer (some ⟨g1,25,none⟩)) (by kernel_rfl) FINQ (KC.o _ _ _ MR.o.1 MR.o.2.2.1) HF (by exact(Or.inl ⟨(ab rfl),fun W hW=>by have h5:=(HF.getD 6 rfl);go_simp⟩)) fun A β6 HF=>?_
         refine tqC 6 92 (.pointer (some ⟨g1,25+wk * 5,none⟩)) (by kernel_rfl) FINQ (KC.o _ _ _ MR.o.1 MR.o.2.2.1) HF (by exact(Or.inl ⟨(ab rfl),fun W hW=>by have h5:=(HF.getD 0 rfl);have h6:=(HF.getD 1 rfl);go_simp⟩)) fun A β7 HF=>?_
         refine tqC 8 94 (.pointer (some ⟨gb,1,none⟩)) (by kernel_rfl) FINQ (KC.o _ _ _ MR.o.1 MR.o.2.2.1) HF (by exact(Or.inl ⟨(ab rfl),fun W hW=>by have h5:=(HF.getD 12 rfl);go_simp⟩)) fun A β8 HF=>?_
         refine tqC 9 95 (.int .i64 bc) (by kernel_rfl) FINQ (KC.o _ _ _ MR.o.1 MR.o.2.2.1) HF (by exact dA (ab rfl) 3 _ rfl gb 1 (HF.get 0 rfl) (.int .i64 bc) _ Tryz.underlying3 rfl (fun W hW=>by simp[World.cell?,hW.2])) fun A β9 HF=>?_
         refine tqC 10 96 (.pointer (some ⟨gb,0,none⟩)) (by kernel_rfl) FINQ (KC.o _ _ _ MR.o.1 MR.o.2.2.1) HF (by exact(Or.inl ⟨(ab rfl),fun W hW=>by have h5:=(HF.getD 14 rfl);go_simp⟩)) fun A β10 HF=>?_
         refine tqC 11 97 (.int .i64 bx) (by kernel_rfl) FINQ (KC.o _ _ _ MR.o.1 MR.o.2.2.1) HF (by exact dA (ab rfl) 3 _ rfl gb 0 (HF.get 0 rfl) (.int .i64 bx) _ Tryz.underlying3 rfl (fun W hW=>by simp[World.cell?,hW.2])) fun A β11 HF=>?_
         refine tqC 13 99 (.pointer (some ⟨g1,25,none⟩)) (by kernel_rfl) FINQ (KC.o _ _ _ MR.o.1 MR.o.2.2.1) HF (by exact(Or.inl ⟨(ab rfl),fun W hW=>by have h5:=(HF.getD 12 rfl);go_simp⟩)) fun A β12 HF=>?_
         refine tqO 7 93 (by kernel_rfl) HF fun K hK=>?_
         refine wp_load_mid 32 _ rfl g1 (25+wk * 5) (HF.get 5 rfl) (puA (fs wk)).toList _ (MR.o.2.1.st.range (n:=wk) hwk.o) Tryz.underlying32 rfl (by kernel_rfl) ?_
         refine hK _ _ (KC.o _ _ _ MR.o.1 MR.o.2.2.1) fun A β13 HF=>?_
         clear hK K
         refine tqO 12 98 (by kernel_rfl) HF fun K hK=>?_
         refine JN (v0:=.pointer (some ⟨p,0,none⟩)) (v1:=.agg c.arr) (v2:=.int .i64 (gu c u)) (v3:=.agg (puA (fs wk)).toList.toArray) (v4:=.int .i64 bc) (v5:=.int .i64 bx) rfl (HF.get 11 rfl) (HF.get 10 rfl) (HF.get 9 rfl) (HF.get 0 rfl) (HF.get 4 rfl) (HF.get 2 rfl) (enters_of Tryz.func40 (by kernel_rfl) rfl) ?_
         refine(T.gvC F1 (fun q=>q<W0.heap.size) p kn D1 wq (gu c u) bc bx (fs wk) (st.at x) MR.o.1.view HK.o MR.o.1.inv (KT.o _ MR.o.1.turn).sz (NZ.o _ _ _ MR.o.1).1 (NZ.o _ _ _ MR.o.1).2 (fun q z=>Nat.lt_of_lt_of_le z MR.o.1.size) (MR.o.2.1.atk hwk.o ex) (MR.o.2.1.okS.at x) HW6.o).mono ?_
         intro e w7 he
         rcases MR.o.1.stepP (ae.refl _) HK.o (T.gvG _ _ _ _ (MR.o.2.1.okS.at x) HW6.o) he with⟨a',hE,rfl,hd',ht',hk6⟩|⟨x6,f6,D6,F6,hE,rfl,M6',hp6,hq6,hk6,hf6⟩
         ·exact FIND _ _ HF.1.2 (NEED.o a' w7 (E9.o.symm.trans (ag hE)) hd' ht' ⟨_,_,MR.o.2.1.st.1,hk6 _ _ (N1.o _ _ _ MR.o.1) MR.o.2.1.st.2⟩)
         have R6:=hQQ ((aj hE).symm.trans E9.o)
         have M7:Hq (MidV W0 w7 F (fun b=>b=g1) p kn n D6 F6∧AgM W0.heap.size g1 pre ok c F6 st fs (.slice ao st.O.length co) w7∧w7.heap[gb]?=some (.cells #[.int .i64 bx,.int .i64 bc] 48 (0,0))∧j4 W0.heap.size F6 w7 (.slice a5 (st.O.take (nthI m st.O.length)++st.O.drop (nthI m st.O.length+1)).length c5) (st.O.take (nthI m st.O.length)++st.O.drop (nthI m st.O.length+1))):=hQQ ⟨M6',MR.o.2.1.stay (N1.o _ _ _ MR.o.1) hk6 hf6,hk6 _ _ NB.o MR.o.2.2.1,MR.o.2.2.2.stay hk6 hf6⟩
         have P6:=hQQ hp6
         have L6:=hQQ hq6
         clear he hE hk6 hf6 hq6 hp6
         refine hK _ _ (KC.o _ _ _ M7.o.1 M7.o.2.2.1) fun A β14 HF=>?_
         clear hK K
         refine tqC 14 100 (.pointer (some ⟨g1,25+wk * 5,none⟩)) (by kernel_rfl) FINQ (KC.o _ _ _ M7.o.1 M7.o.2.2.1) HF (by exact(Or.inl ⟨(ab rfl),fun W hW=>by have h5:=(HF.getD 2 rfl);have h6:=(HF.getD 13 rfl);go_simp⟩)) fun A β15 HF=>?_
         obtain⟨cur,hcur⟩:∃cur,(stL pre fs (.slice ao st.O.length co) ok).toArray=cur:=⟨_,rfl⟩
         have hg:=M7.o.2.1.st.2
         rw[hcur] at hg
         have hsz:cur.size=37:=by rw[←hcur,List.size_toArray];exact nL M7.o.2.1.st.1 _ _ _
         have A8:=M7.o.2.1.putk hwk.o ex f6 x6.2 P6.o L6.o cur hcur.symm
         have M8:=M7.o.1.setR (b:=g1) (fun _=>rfl) (N1.o _ _ _ M7.o.1) (cur.toList.take (25+wk * 5)++(puA f6).toList++cur.toList.drop (25+wk * 5+(puA f6).size)).toArray hg
         have T8:Turned (fun k=>k=g1) w7 (w7.setRow g1 (cur.toList.take (25+wk * 5)++(puA f6).toList++cur.toList.drop (25+wk * 5+(puA f6).size)).toArray):=Turned.setRow (Turned.refl _ w7) _ _ (fun _=>rfl)
         have B8:=(T8.block gb (ac M7.o.2.2.1) NG.o).trans M7.o.2.2.1
         have O8:=M7.o.2.2.2.turnS M7.o.2.1.st T8
         refine mW (i:=15) (by kernel_rfl) (by kernel_rfl) rfl (ab rfl) (fun K hK=>?_)
         refine j3 32 _ _ rfl g1 (25+wk * 5) (puA f6) (HF.get 0 rfl) (HF.get 1 rfl) 37 cur hg (by rw[hsz];show 25+wk * 5+5≤37;have:=hwk.o;omega) (by kernel_rfl) (Pu.all1 P6.o.1) ?_
         refine hK _ _ ⟨KT.o _ M8.turn,B8⟩ (FINE _ _ ⟨(.int .i64 (wk:Int)),(.pointer (some ⟨p,0,none⟩)),(.agg c.arr),(.int .i64 (gu c u)),(.int .i64 (wk:Int)),(.pointer (some ⟨g1,25,none⟩)),(.pointer (some ⟨g1,25+wk * 5,none⟩)),(.pointer (some ⟨gb,1,none⟩)),(.int .i64 bc),(.pointer (some ⟨gb,0,none⟩)),(.int .i64 bx),(.pointer (some ⟨g1,25,none⟩)),(.agg (puA (fs wk)).toList.toArray),(.agg (puA f6)),(.pointer (some ⟨g1,25+wk * 5,none⟩)),x6.2,f6,D6,F6,?_,⟨M8,A8⟩,O8,R6.o⟩)
         rw[← β15,← β14,← β13,← β12,← β11,← β10,← β9,← β8,← β7,← β6,← β5,← β4,← β3,← β2,← β1];rfl
  ·have d1:decide ((j:Int)<(l.length:Int))=false:=by simp;omega
   have hjl:j=l.length:=by omega
   have E2:=hQQ (show Res.ok st D1=Rr from by rw[hjl,List.drop_length] at E1';exact E1')
   clear E1' hjl
   go_wp2_with fail
   go_end0
   exact DONE.o st _ D1 F1 _ _ E2.o.symm M1.o A1.o
theorem JO (y0 y1 y2 y3 y4 y5 y6 y7 y8 y9 y10:Int)(f0:(Lit.int .i64 y0).wf=true)(f1:(Lit.int .i64 y1).wf=true)(f2:(Lit.int .i64 y2).wf=true)(f3:(Lit.int .i64 y3).wf=true)(f4:(Lit.int .i64 y4).wf=true)(f5:(Lit.int .i64 y5).wf=true)(f6:(Lit.int .i64 y6).wf=true)(f7:(Lit.int .i64 y7).wf=true)(f8:(Lit.int .i64 y8).wf=true)(f9:(Lit.int .i64 y9).wf=true)(f10:(Lit.int .i64 y10).wf=true):∃d:Cfg,d.Small∧Hq (∀W,Calls Tryz.prog 36 #[.agg #[.int .i64 y0,.int .i64 y1,.int .i64 y2,.int .i64 y3,.int .i64 y4,.int .i64 y5,.int .i64 y6,.int .i64 y7,.int .i64 y8,.int .i64 y9,.int .i64 y10]] W (H6 W d)):=by
 obtain⟨wk,cp,pg,st,tr,wt,ck,pr,ca,bi,ba,R0,S0⟩:=Bu y0 y1 y2 y3 y4 y5 y6 y7 y8 y9 y10 f0 f1 f2 f3 f4 f5 f6 f7 f8 f9 f10
 have R:Cfg.Ok ⟨wk,cp,pg,st,tr,wt,ck,pr,ca,bi,ba⟩:=R0
 exact⟨_,rc R,fun W=>EW R y0 y1 y2 y3 y4 y5 y6 y7 y8 y9 y10 W S0.out⟩
theorem BlR.off {base:Nat}{w w':World}{v:Value}{its:List Bl}(h:BlR base w v its){S:Nat→Prop}(t:Turned S w w')(n:∀q,v.ownBlock=some q→¬S q):BlR base w' v its:=by
 refine⟨h.1,?_⟩
 rcases h.2 with q|⟨g,cap,cur,rfl,h2,h3,h4⟩
 ·exact .inl q
 ·exact .inr ⟨g,cap,cur,rfl,h2,(t.block g (ac h3) (n g rfl)).trans h3,h4⟩
theorem Og (w:World)(x1 x2 y1 y2:Array Value)(t1 t2:TypeId):∃W,(((w.alloc (.cells x1 t1)).alloc (.cells x2 t2)).setRow w.heap.size y1).setRow (w.heap.size+1) y2=W ∧
 ((w.alloc (.cells x1 t1)).alloc (.cells x2 t2)).heap[w.heap.size]?=some (.cells x1 t1 (0,0))∧(((w.alloc (.cells x1 t1)).alloc (.cells x2 t2)).setRow w.heap.size y1).heap[w.heap.size+1]?=some (.cells x2 t2 (0,0)) ∧
 W.heap[w.heap.size]?=some (.cells y1 t1 (0,0))∧W.heap[w.heap.size+1]?=some (.cells y2 t2 (0,0))∧ae w W∧W.heap.size=w.heap.size+2:=by
 obtain⟨W,e,h1,h2,h3,h4,h5⟩:=OV w x1 x2 y1 y2 t1 t2
 exact⟨W,e,h1,h2,h3,by rw[←e];exact setRow_heap _ _ _ _ _ _ h2,h4,by rw[←e];simp⟩
theorem Ek {c:Cfg}(S:c.Small){n:Nat}(hn:(n:Int)=c.words):cB c.pg c.st n:=by
 have h2:=o8 S.ok;have h3:=S.ok.pg1
 have h5:bd c.st c.pg+62≤eH c.cp c.pg c.st c.ca c.bi:=by
  have:=qg S.ok;have:=S.ok.bi1
  unfold eH fL dq;omega
 have h6:aZ c.st+aL c.pg+5 * c.pg+62≤n:=by
  rw[hn]
  show _≤eR c.cp c.pg c.st c.ca c.bi
  unfold eR
  unfold bd at h5
  omega
 exact { S.tbl hn with top5:=by omega,top62:=h6 }
theorem Gv {c:Cfg}(R:c.Ok){n bt:Nat}(T:uB c n bt)(zs:List Int)(hlz:zs.length=n)(hlen:zs.length≤1000)(hz:OkW zs)(w:World)(g1 g2 g3 g4:Nat)(a:Option Addr)(cap:Nat)(al:Option Addr)(capl:Nat)(l:List ge)(hll:l.length≤1000)(pre:List Value)(ok:Value)(hY:AgY c al capl l g1 g2 g3 g4 bt pre ok w)(ne:∀k,AgO al l g2 g3 g4 bt k→k≠g1)(hw:kN w a zs):
 Calls Tryz.prog 9 #[.slice a zs.length cap,.func (.func 37) #[] #[.pointer (some ⟨g1,0,none⟩),.pointer (some ⟨g2,0,none⟩),.pointer (some ⟨g3,0,none⟩),.pointer (some ⟨g4,0,none⟩)]] w (fun e w'=>∃v1 v2 b,e=.returned (.tuple #[v1,v2,.int .i64 0])∧Rw w.heap.size w' v1 (gJ c l ⟨fun _=> [],fun _=> [],[]⟩ zs).2∧Turned (fun k=>k=g1) w w'∧AgK c al capl l g2 g3 g4 bt w'∧w.heap.size≤b∧AgX b g1 pre ok (gJ c l ⟨fun _=> [],fun _=> [],[]⟩ zs).1 w'∧OkS c (gJ c l ⟨fun _=> [],fun _=> [],[]⟩ zs).1):=by
 subst hlz
 have lo:∀k,AgO al l g2 g3 g4 bt k→k<w.heap.size:=fun k hk=>hY.1.lt hk
 have l1:g1<w.heap.size:=by obtain⟨fs,o,h⟩:=hY.2;exact h.lt
 have G:=mI T R l (OkS.nil R)
 obtain⟨D,hD,ha,hi⟩:=mK T R l (OkS.nil R) zs [] rfl hz (ea _)
 have e0:bZ zs []=zs:=rfl
 rw[e0] at hD ha
 have HO:=(G.ok (jG hz) (ea _) hD).2.1
 obtain⟨K',hK',hd⟩:=xj (lx T l _) G hz hD (zs.length+1) [] (ph _) (by simp)
 rw[ha] at hd
 generalize (gJ c l ⟨fun _=> [],fun _=> [],[]⟩ zs).1=sF at hD HO⊢
 generalize (gJ c l ⟨fun _=> [],fun _=> [],[]⟩ zs).2=xs at hd⊢
 have M:=JI a cap zs (fun K=>eP (dQ T l ⟨fun _=> [],fun _=> [],[]⟩ (look K) [])) (some (xs,K')) zs.length w hw hlen hz (xm G hz (by omega)) (by omega) hd 37 #[.pointer (some ⟨g1,0,none⟩),.pointer (some ⟨g2,0,none⟩),.pointer (some ⟨g3,0,none⟩),.pointer (some ⟨g4,0,none⟩)] (fun k=>k=g1)
  (fun w'=>AgY c al capl l g1 g2 g3 g4 bt pre ok w') (fun b w'=>AgX b g1 pre ok sF w') (fun k q=>by subst q;exact l1)
  (fun w' w'' y t=>by obtain⟨y1,fs,o,y2⟩:=y;exact⟨y1.keep t (fun k hk q=>by have:=lo k hk;omega),fs,o,y2.keep t (by omega)⟩)
  (fun b w' w'' hb x t=>by
   obtain⟨fs,o,x1,x2,x3,x4,x5,x6⟩:=x
   exact⟨fs,o,x1.keep t (by omega),x2.off (fun c hc q e z=>by have:b≤q:=x5 c hc q e;omega) t,x3.off (fun c hc q e z=>by have:b≤q:=x6 c hc q e;omega) t,x4.off t (fun q e z=>by have:b≤q:=x4.own q e;omega),x5,x6⟩) hY (enters_of Tryz.func37 (by kernel_rfl) rfl)
  (fun K hK W F p t yy hv hF=>Oe R T F p g1 g2 g3 g4 (look K) al capl l hll sF pre ok W hv (sP hK hz) yy (fun k hk q=>by have:=hF _ q;have:=lo k hk;omega) (fun q=>by have:=hF _ q;omega) ne
   (fun z D' e=>(sQ (lx T l _) hK hD e).1))
 refine M.mono ?_
 rintro e w' ⟨v1,v2,b,rfl,r1,_,t,y,hb,x⟩
 exact⟨v1,v2,b,rfl,r1,t,y.1,hb,x,HO⟩
theorem De (pre:List Value)(hp:pre.all (·.oneCell')=true){fs:Nat→Nat→Value}{o ok:Value}(h0:(puA (fs 0)).all (·.oneCell')=true)(h1:(puA (fs 1)).all (·.oneCell')=true)(ho:o.oneCell'=true)(hk:ok.oneCell'=true):(stL pre fs o ok).toArray.all (·.oneCell')=true:=by
 rw[←Array.all_toList] at h0 h1⊢
 simp only[stL,List.all_append,hp,h0,h1,Bool.true_and,List.all_cons,List.all_nil,ho,hk,Bool.and_true]
namespace StB
variable {w w':World}{g:Nat}{pre:List Value}{fs:Nat→Nat→Value}{o ok:Value}
theorem put36 (h:StB w g pre fs o ok)(v:Value):StB (w.setCell ⟨g,36,none⟩ v) g pre fs o v:=by
 refine⟨h.1,?_⟩
 rw[heap_setCell_same w g 36 _ _ v h.2]
 have hl:=h.1
 congr 2
 simp[stL,puA,hl,List.set_append]
theorem end36 (h:StB w g pre fs o ok):w.cell? ⟨g,36,none⟩=some ok:=by
 rw[cell_of_row w g 36 _ _ _ h.2]
 simp[stL,puA,h.1,List.getElem?_append]
theorem put24 {p:List Value}(hp:p.length=24){v0:Value}(h:StB w g (p++ [v0]) fs o ok)(v:Value):StB (w.setCell ⟨g,24,none⟩ v) g (p++ [v]) fs o ok:=by
 refine⟨by simp[hp],?_⟩
 rw[heap_setCell_same w g 24 _ _ v h.2]
 congr 2
 simp[stL,puA,hp,List.set_append]
theorem at24 {p:List Value}(hp:p.length=24){v0:Value}(h:StB w g (p++ [v0]) fs o ok):w.cell? ⟨g,24,none⟩=some v0:=by
 rw[cell_of_row w g 24 _ _ _ h.2]
 simp[stL,puA,hp,List.getElem?_append]
end StB
def st0 (d:Cfg)(v:Value):Array Value:=(stL (d.arr.toList++ [v]) (fun _ _=> .slice none 0 0) (.slice none 0 0) (.bool false)).toArray
theorem JP (d:Cfg)(g n m:Nat):Tryz.prog.built 37 [(0,.agg d.arr),(1,.slice (some ⟨g,0,none⟩) n m)]=some (st0 d (.slice (some ⟨g,0,none⟩) n m)):=by kernel_rfl
theorem Gw {ops:Array Oper}{rest:List Oper}{o:Oper}{a:Act}{w:World}{Q:Exit→Act→World→Prop}(hgd:o.guard=none)(x0 x1:Operand)(ho:o.op=.build 37 #[(0,x0),(1,x1)])(d:Cfg)(g n m:Nat)
 (h0:a.eval x0=.agg d.arr) (h1:a.eval x1=.slice (some ⟨g,0,none⟩) n m) (h:wpList Tryz.prog ops Q rest (a.put o.dst (.agg (st0 d (.slice (some ⟨g,0,none⟩) n m)))) w):wpList Tryz.prog ops Q (o::rest) a w:=by
 have e:Tryz.prog.built 37 ((#[(0,x0),(1,x1)]:Array (Nat×Operand)).map fun(i,x)=>(i,a.eval x)).toList=some (st0 d (.slice (some ⟨g,0,none⟩) n m)):=by
  simp only[List.map_toArray,List.map_cons,List.map_nil,h0,h1]
  exact JP d g n m
 refine wpList_build hgd _ _ ho ?_ ?_
 ·rw[e];rfl
 ·rw[e];exact h
theorem jC (d:Cfg):d.arr.toList.length=24:=rfl
theorem yt (d:Cfg)(v:Value)(hv:v.oneCell'=true):(d.arr.toList++ [v]).all (·.oneCell')=true:=by
 have:=mX d
 rw[←Array.all_toList] at this
 rw[List.all_append,this]
 simp[hv]
def El (w:World)(d:Cfg)(n:Nat)(zs:List Int)(s:FSt)(e:Ending)(w':World):Prop :=
 ∃gz cz fs o,e=.returned (.agg (stL (d.arr.toList++ [.slice (some ⟨gz,0,none⟩) n cz]) fs o (.bool true)).toArray)∧Ws w' gz cz zs∧Pu w' (fs 0) s.P0∧Pu w' (fs 1) s.P1∧BlR w.heap.size w' o s.O∧w.heap.size≤gz∧ae w w'
abbrev mO:Array Value:= #[.int .i64 0,.int .i64 0,.int .i64 0,.int .i64 0,.int .i64 0,.int .i64 0,.int .i64 0,.int .i64 0,.int .i64 0,.int .i64 0,.int .i64 0,.int .i64 0,.int .i64 0,.int .i64 0,.int .i64 0,.int .i64 0,.int .i64 0,.int .i64 0,.int .i64 0,.int .i64 0,.int .i64 0,.int .i64 0,.int .i64 0,.int .i64 0,.slice none 0 0,.slice none 0 0,.slice none 0 0,.slice none 0 0,.slice none 0 0,.slice none 0 0,.slice none 0 0,.slice none 0 0,.slice none 0 0,.slice none 0 0,.slice none 0 0,.slice none 0 0,.bool false]
theorem LR (TT:∀(d:Cfg)(n bt:Nat),d.Ok→cB d.pg d.st n→(n:Int)=d.words→n≤10000→uB d n bt)(y0 y1 y2 y3 y4 y5 y6 y7 y8 y9 y10:Int)(f0:(Lit.int .i64 y0).wf=true)(f1:(Lit.int .i64 y1).wf=true)(f2:(Lit.int .i64 y2).wf=true)(f3:(Lit.int .i64 y3).wf=true)(f4:(Lit.int .i64 y4).wf=true)(f5:(Lit.int .i64 y5).wf=true)(f6:(Lit.int .i64 y6).wf=true)(f7:(Lit.int .i64 y7).wf=true)(f8:(Lit.int .i64 y8).wf=true)(f9:(Lit.int .i64 y9).wf=true)(f10:(Lit.int .i64 y10).wf=true)(l:List ge)(hll:l.length≤1000):
 ∃(d:Cfg) (n:Nat) (zs:List Int) (s:FSt),d.Small∧(n:Int)=d.words∧zs.length=n∧OkW zs∧FrS d n s zs∧OkS d s∧Hq (∀(a:Option Addr) (capl:Nat) (w:World),pD w→gg w a l→Calls Tryz.prog 8 #[.agg #[.int .i64 y0,.int .i64 y1,.int .i64 y2,.int .i64 y3,.int .i64 y4,.int .i64 y5,.int .i64 y6,.int .i64 y7,.int .i64 y8,.int .i64 y9,.int .i64 y10],.slice a l.length capl] w (El w d n zs s)):=by
 obtain⟨d,S,BEG⟩:=JO y0 y1 y2 y3 y4 y5 y6 y7 y8 y9 y10 f0 f1 f2 f3 f4 f5 f6 f7 f8 f9 f10
 have wds:=S.words
 obtain⟨n,hn⟩:∃n:Nat,(n:Int)=d.words:=⟨d.words.toNat,by omega⟩
 have H:=Ek S hn
 have hz:=j9 n
 have P:=rF S.ok H hn (by omega) l (Gl S.ok H hn (by omega))
 have ok:=fun(w:World) (g1 g2 g3 g4 bt:Nat) (a:Option Addr) (cap:Nat) (al:Option Addr) (capl:Nat) (pre:List Value) (ok:Value)=>Gv (c:=d) S.ok (TT d n bt S.ok H hn (by omega)) (cJ n) hz (by rw[hz];omega) (gn n) w g1 g2 g3 g4 a cap al capl l hll pre ok
 obtain⟨C,hC⟩:=P.fri
 obtain⟨D0,hD0,hD1,hD2⟩:=mK (TT d n 0 S.ok H hn (by omega)) S.ok l (OkS.nil S.ok) (cJ n) [] hz (gn n) (ea _)
 have OKS:=((mI (TT d n 0 S.ok H hn (by omega)) S.ok l (OkS.nil S.ok)).ok (jG (gn n)) (ea _) hD0).2.1
 refine⟨d,n,_,_,S,hn,hC.len,hC.ok,P,OKS,hQQ fun a capl w hsz hli=>?_⟩
 have EL:=hQQ hC.len
 have OK:=hQQ ok
 have HZ:=hQQ hz
 obtain⟨bt,hs⟩:=hsz
 have HS:Hq (dd bt w):=hQQ hs
 have sz0:=HS.o.lt0
 have szb:=HS.o.lt
 clear f0 f1 f2 f3 f4 f5 f6 f7 f8 f9 f10 ok hD0 hD1 hD2 hz H hC P hs OKS
 generalize (gJ d l ⟨fun _=> [],fun _=> [],[]⟩ (cJ n)).1=sF at OK⊢
 generalize (gJ d l ⟨fun _=> [],fun _=> [],[]⟩ (cJ n)).2=xs at EL OK⊢
 obtain⟨w3,e3,ha,hb,hc,m3,s3⟩:=kO w (.cells #[.int .i64 y0,.int .i64 y1,.int .i64 y2,.int .i64 y3,.int .i64 y4,.int .i64 y5,.int .i64 y6,.int .i64 y7,.int .i64 y8,.int .i64 y9,.int .i64 y10] 23) (.cells #[.slice a l.length capl] 24) (.cells mO 37)
 have HA:=hQQ ha
 have HB:=hQQ hb
 have HC:=hQQ hc
 have M3:=hQQ m3
 have HL:=hQQ (hli.more m3)
 have LA:l≠ []→∀k,ip a k→k<w.heap.size:=fun ne=>hli.lt ne
 clear ha hb hc m3 hli
 go_enter Tryz.func8,Tryz.ntmps8
 go_wp2_with (refine sx rfl rfl rfl HA.o (by kernel_rfl) ?_)
 clear e3
 refine(BEG.out _).mono ?_
 rintro e w5 ⟨g,n',hn',rfl,hrw,m5⟩
 obtain rfl:n'=n:=by omega
 obtain⟨w6,e6,b1,b2,b3,b4,m6,s6⟩:=Og w5 fZ kQ d.arr d.cells 28 73
 have wz:Ws w5 g n' (cJ n'):=Ws.of_rw (base:=w3.heap.size) (by rw[HZ.o];exact hrw)
 have B1:=hQQ b1
 have B2:=hQQ b2
 have LC6:=hQQ b3
 have RC6:=hQQ b4
 have m36:=m5.trans m6
 obtain⟨v0,hv0⟩:∃v0,Value.slice (some ⟨g,0,none⟩) n' n'=v0:=⟨_,rfl⟩
 have V1:v0.oneCell'=true:=by rw[←hv0];rfl
 have AL0:=hQQ (show(st0 d v0).all (·.oneCell')=true from De _ (yt d v0 V1) (by simp[puA,Value.oneCell']) (by simp[puA,Value.oneCell']) rfl rfl)
 have hz6:=a7 w6 (.cells mO 37)
 obtain⟨w9,e9⟩:∃w9,(w6.alloc (.cells mO 37)).setRow w6.heap.size (st0 d v0)=w9:=⟨_,rfl⟩
 have hb9:StB w9 w6.heap.size (d.arr.toList++ [v0]) (fun _ _=> .slice none 0 0) (.slice none 0 0) (.bool false):=⟨by rw[List.length_append,jC];rfl,by rw[←e9];exact setRow_heap _ _ _ _ _ _ hz6⟩
 have m69:ae w6 w9:=by rw[←e9];exact((ae.refl w6).alloc _).setRow _ _ (Nat.le_refl _)
 have Z6:=hQQ hz6
 have RC:=hQQ (m69.block (m36.block HC.o))
 have LC:=hQQ (m69.block b3)
 have WZ:=hQQ ((wz.more m6).more m69)
 have M9:=hQQ ((M3.o.trans m36).trans m69)
 have HL9:=hQQ ((HL.o.more m36).more m69)
 have h35:=m5.size
 have h6s:w5.heap.size+2≤w6.heap.size:=by omega
 have h3s:w.heap.size+3≤w3.heap.size:=by omega
 have h9s:=hb9.lt
 have DO:=OK.o w9 w6.heap.size (w.heap.size+1) (w5.heap.size+1) w5.heap.size bt (some ⟨g,0,none⟩) n' a capl _ _ ⟨⟨m69.block (m36.block HB.o),m69.block b4,LC.o,HL9.o,HS.o.more M9.o⟩,_,_,hb9⟩ (by
  rintro k (rfl|rfl|rfl|rfl|rfl|⟨ne,hk⟩)
  ·omega
  ·omega
  ·omega
  ·omega
  ·omega
  ·have:=LA ne k hk;omega) WZ.o.words
 rw[HZ.o] at DO
 have DO:=hQQ DO
 clear b1 b2 b3 b4 hrw wz m5 m6 m36 BEG OK HA HB HC HL m69 s6 s3 hz6 hb9
 have E9:=hQQ e9
 have V0:=hQQ hv0
 clear e9 hv0
 go_wp2_with (first
  |(refine wpList_store_row rfl 28 _ _ rfl w5.heap.size _ rfl rfl 28 fZ B1.o (by kernel_rfl) rfl (mX d) ?_)
  |(refine wpList_store_row rfl 73 _ _ rfl (w5.heap.size+1) _ rfl rfl 73 kQ B2.o (by kernel_rfl) rfl (gV d) ?_)
  |(refine aK rfl rfl rfl LC6.o (by kernel_rfl) ?_)
  |(refine Gw rfl _ _ rfl d g n' n' rfl rfl ?_;rw[V0.o])
  |(refine wpList_store_row rfl 37 _ _ rfl w6.heap.size _ rfl rfl 37 mO Z6.o (by kernel_rfl) rfl AL0.o ?_;rw[E9.o]))
 have hv0:=V0.o
 subst hv0
 clear e6
 refine DO.o.mono ?_
 rintro e w10 ⟨v1,v2,b,rfl,hr,t10,hC,hbb,⟨fs,o,hx1,hx2,hx3,hx4,hx5,hx6⟩,hOk⟩
 have t10s:=t10.size
 obtain⟨av,cv,rfl,hrd⟩:=hr.reads
 obtain⟨gz,rfl,hb1,hb2,_⟩:=hrd 0 (by rw[EL.o];omega)
 have NW:=hQQ (Ws.of_rw hr)
 rw[EL.o]
 have y24:=hx1.at24 (jC d)
 have f24:=hx1.froz 24
 obtain⟨w11,e11⟩:∃w11,w10.setCell ⟨w6.heap.size,24,none⟩ (.slice (some ⟨gz,0,none⟩) n' cv)=w11:=⟨_,rfl⟩
 have s11:StB w11 w6.heap.size (d.arr.toList++ [.slice (some ⟨gz,0,none⟩) n' cv]) fs o (.bool false):=by rw[←e11];exact hx1.put24 (jC d) _
 have y36:=s11.end36
 have f36:=s11.froz 36
 obtain⟨w12,e12⟩:∃w12,w11.setCell ⟨w6.heap.size,36,none⟩ (.bool true)=w12:=⟨_,rfl⟩
 have s12:StB w12 w6.heap.size (d.arr.toList++ [.slice (some ⟨gz,0,none⟩) n' cv]) fs o (.bool true):=by rw[←e12];exact s11.put36 _
 have t11:Turned (fun k=>k=w6.heap.size) w10 w11:=by rw[←e11];exact Turned.setCell (Turned.refl _ w10) _ _ (fun _=>rfl)
 have t12:Turned (fun k=>k=w6.heap.size) w10 w12:=by rw[←e12];exact Turned.setCell t11 _ _ (fun _=>rfl)
 have h9w:w.heap.size+3≤w9.heap.size:=by omega
 have ty:∀T:TypeId,T≠37→∀k,k=w6.heap.size→∃cs U fr,w10.heap[k]?=some (.cells cs U fr)∧U≠T:=fun T hT k q=>by subst q;exact⟨_,_,_,hx1.2,fun e=>hT e.symm⟩
 have RC12:w12.heap[w.heap.size+2]?=some (.cells mO 37 (0,0)):=(t12.block _ (by have:=ac RC.o;omega) (by omega)).trans ((t10.block _ (ac RC.o) (by omega)).trans RC.o)
 obtain⟨cur,hcur⟩:∃cur,(stL (d.arr.toList++ [.slice (some ⟨gz,0,none⟩) n' cv]) fs o (.bool true)).toArray=cur:=⟨_,rfl⟩
 have CUR:Hq (w12.heap[w6.heap.size]?=some (.cells cur 37 (0,0))):=hQQ (by rw[←hcur];exact s12.2)
 have SZ:Hq (cur.size=37):=hQQ (by rw[←hcur,List.size_toArray];exact nL s12.1 _ _ _)
 have AL:Hq (cur.all (·.oneCell')=true):=hQQ (by rw[←hcur];exact De _ (yt d _ rfl) (Pu.all1 hx2) (Pu.all1 hx3) hx4.one rfl)
 have tR:=Turned.setRow (S:=fun b=>b=w.heap.size+2) (Turned.refl _ w12) (w.heap.size+2) cur (fun _=>rfl)
 have M12:ae w w12:=Turned.mono (am (F:=fun _=>False) (am (F:=fun _=>False) M9.o t10 (fun b e=> .inr (by omega))) t12 (fun b e=> .inr (by omega))) (fun _ _ q=>q)
 have ty2:∀T:TypeId,T≠37→∀k,k=w.heap.size+2→∃cs U fr,w12.heap[k]?=some (.cells cs U fr)∧U≠T:=fun T hT k q=>by subst q;exact⟨_,_,_,RC12,fun e=>hT e.symm⟩
 have FIN:Hq (El w d n' xs sF (.returned (.agg cur)) (w12.setRow (w.heap.size+2) cur)):=hQQ ⟨gz,cv,fs,o,by rw[←hcur],(NW.o.keep t12 (by omega)).keep tR (by omega),(hx2.keep t12 (ty _ (by decide))).keep tR (ty2 _ (by decide)),(hx3.keep t12 (ty _ (by decide))).keep tR (ty2 _ (by decide)),((hx4.keep t12 (ty _ (by decide))).keep tR (ty2 _ (by decide))).low (by omega),by omega,Turned.mono (am (F:=fun _=>False) M12 tR (fun b e=> .inr (by omega))) (fun _ _ q=>q)⟩
 have RCX:=hQQ RC12
 clear hr hrd hb1 hb2 DO hx1 hx2 hx3 hx4 hx5 hx6 t10 hC hOk s11 s12 t11 t12 ty ty2 tR M12 RC12 hcur
 have e1:((n':Int)==(n':Int))=true:=by simp
 go_wp2_with (first
  |(refine wpList_load_row rfl 37 _ rfl w6.heap.size rfl 37 _ _ _ CUR.o Tryz.underlying37 rfl (by rw[SZ.o];kernel_rfl) ?_)
  |(refine wpList_store_row rfl 37 _ _ rfl _ cur rfl rfl 37 _ RCX.o (by rw[SZ.o];kernel_rfl) (by rw[SZ.o];rfl) AL.o ?_))
 refine bodyPost_ret (v:=.agg cur) (results_cell_row Tryz.results8 _ _ _ 37 _ (0,0) _ rfl (setRow_heap _ _ _ _ _ _ RCX.o) Tryz.underlying37 rfl (by rw[SZ.o];kernel_rfl)) rfl FIN.o
def mP:List (Int×Int)→List Int→Prg (List Int)
 | [],xs=>ay xs
 |s::t,xs=>ak (oU s.1 s.2) fun ys=>mP t (xs++ys)
def lG:List (Int×Int)→List Int→List Int
 | [],_=> []
 |s::t,ws=>uM s.1 s.2 ws++lG t ws
theorem uQ:∀(t:List (Int×Int)) (xs:List Int),bh (mP t xs)
 | [],_=>ah _
 |s::t,xs=>aq (AN _ _) fun ys=>uQ t _
theorem qT {n:Nat}(hn:n≤10000):∀(t:List (Int×Int)) (xs:List Int),(∀s∈t,dY s.1 s.2 n)→bQ n (fun ys:List Int=>ys.length≤xs.length+t.length * 10000) (mP t xs)
 | [],xs,_=>ai n (by simp)
 |s::t,xs,h=>ar (uL (h s (by simp))) fun ys hy=>de (qT hn t (xs++ys) fun z hz=>h z (by simp[hz])) fun zs q=>by
  have h1:=h s (by simp)
  have:=h1.hi;have:=h1.b1
  simp only[List.length_append,List.length_cons] at q⊢
  omega
theorem wL {n:Nat} :∀(t:List (Int×Int)) (xs:List Int),(∀s∈t,dY s.1 s.2 n)→bJ n (mP t xs) (fun ws=>(xs++lG t ws,ws))
 | [],xs,_=>aU (au n xs) fun ws _=>by simp[lG]
 |s::t,xs,h=>aU (aA (CZ (h s (by simp))) fun ys=>wL t (xs++ys) fun z hz=>h z (by simp[hz])) fun ws _=>by simp[lG]
theorem gN {ops:Array Oper}{rest:List Oper}{o:Oper}{a:Act}{Q:Exit→Act→World→Prop}{base:Nat}{w:World}{v u:Value}{xs ys:List Int}(hgd:o.guard=none)(s x:Operand)
 (ho:o.op=.call { callee:= .builtin .append,args:= #[s,x],argTypes:= #[29,29] })
 (hs:a.eval s=v) (hn:Rw base w v xs) (hb:base≤w.heap.size) (hl:xs.length+ys.length≤1000000)
 (hx:a.eval x=u) (hu:Rd w u ys)
 (h:∀v' w',Rw base w' v' (xs++ys)→Turned (fun k=>v.ownBlock=some k) w w'→(∀k,v'.ownBlock=some k→v.ownBlock=some k∨k=w.heap.size)→wpList Tryz.prog ops Q rest (a.put o.dst v') w'):wpList Tryz.prog ops Q (o::rest) a w:=by
 obtain⟨i,i1,i2,i3,i4⟩:=jf
 obtain⟨ad,cap,rfl,hnews⟩:=hu.news
 cases ad with
 |none =>
  have:ys= []∧cap=0:=by
   obtain⟨a0,c0,q1,q2,q3,q4⟩:=hu
   cases q1
   rcases q4 with⟨_,q⟩|⟨g,cur,q,_⟩
   ·exact⟨List.length_eq_zero_iff.1 (by omega),q⟩
   ·cases q
  obtain⟨rfl,rfl⟩:=this
  refine wpList_append_own_none hgd s x 29 ho base 3 i 1 Tryz.underlying29 i1 v xs.length _ hs hn hx ?_
  have:=h v w (by simpa using hn) (Turned.refl _ _) (fun k q=> .inl q)
  exact this
 |some p =>
  refine wpList_append_own_at (P:=Tryz.prog) w hgd s x 29 ho base 3 i _ 1 8 Tryz.underlying29 i1 i2 i3 i4 rfl (by omega) v xs.length _ hs hn p ys.length cap (ys.map (Value.int .i64)) hx (by simp)
   (hnews p rfl) (by intro u hu;obtain⟨y,_,rfl⟩:=List.mem_map.1 hu;rfl) (by simp only[maxLen];omega) (by omega) hb ?_
  intro v' w1 hown hgrow _ h5
  refine h v' w1 ?_ ⟨hgrow.os,hgrow.tape,hgrow.output,hgrow.size,fun k hk hne=>hgrow.block k hk (fun e=>hne e.symm)⟩ (fun k q=>?_)
  ·unfold Rw
   rw[List.length_append,List.map_append]
   exact hown
  ·rcases h5 with h5|h5
   ·exact .inl (by rw[←h5];exact q)
   ·rw[h5] at q;cases q;exact .inr rfl
theorem Oh {d:Cfg}(R:d.Ok){n:Nat}(H:cB d.pg d.st n)(hw:(n:Int)=d.words)(hn:n≤10000)(F:Nat→Prop)(p:Nat)(kn:Int→Option Int)(D:List KV)(w:World)(hv:aD w F p kn D)(hk:OkK kn)(hD:cC n D):
 Calls Tryz.prog 13 #[.pointer (some ⟨p,0,none⟩),.agg d.arr] w (fm w F p kn (eG w.heap.size) (mP (famL (famC d) (famC d).m) [] kn D)):=by
 obtain⟨Rr,hRr⟩:∃Rr,mP (famL (famC d) (famC d).m) [] kn D=Rr:=⟨_,rfl⟩
 rw[hRr]
 obtain⟨w1,e1,b0,m1,s1⟩:=a6 w (.cells d.arr 28)
 have MM:=hQQ m1
 have L0:=hQQ b0
 have HR:=hQQ R
 have HH:=hQQ H
 have HK:=hQQ hk
 have HRr:=hQQ hRr
 have hlen:=jB (famC d) (famC d).m
 have hm45:(famC d).m≤45:=by
  have e:(famC d).m=5 * d.cp.toNat+5:=rfl
  have:=R.cp2
  omega
 have HIN:=hQQ (oP R H hw hn)
 have HSH:=hQQ (wK HR.o w1)
 generalize famL (famC d) (famC d).m=sh at hlen HIN HRr hRr HSH
 generalize (famC d).m=mm at hlen hm45 HSH
 clear b0 m1 R H hk hRr
 go_enter Tryz.func13,Tryz.ntmps13
 go_wp2_with (refine aK rfl rfl rfl L0.o (by kernel_rfl) ?_)
 refine HSH.o.mono ?_
 rintro e w2 ⟨sb,cap,cur,rfl,hcb,hcu,⟨hsb,hcap⟩,h2⟩
 have m02:ae w w2:=MM.o.trans h2
 have M2:Hq (MidV w2 w2 F (fun _=>False) p kn n D F):=hQQ (MidV.begin (hv.more m02) hD)
 have nsb:¬F sb:=fun q=>by have:=hv.lt _ q;omega
 have KS:Hq (∀wr D' F',MidV w2 wr F (fun _=>False) p kn n D' F'→wr.heap[sb]?=some (.cells cur 96 (0,0))):=hQQ fun wr D' F' h=>eT h hcb nsb (fun q=>q)
 have HCU:=hQQ hcu
 have MM2:=hQQ m02
 have hw2:w.heap.size≤w2.heap.size:=m02.size
 have NEED:Hq (∀a wz,Rr=.need a→bB wz p a→Turned (fun b=>F b∨False) w2 wz→fm w F p kn (eG w.heap.size) Rr (.panicked (bg p)) wz):=hQQ fun a wz e hd ht=>kh MM2.o (fun _ q=>q.elim) e hd ht
 have DONE:Hq (∀x v wz D' F',Rr=.ok x D'→MidV w2 wz F (fun _=>False) p kn n D' F'→(eG w.heap.size) x v wz F'→fm w F p kn (eG w.heap.size) Rr (.returned v) wz):=hQQ fun x v wz D' F' e h hp=>ki MM2.o (fun _ q=>q.elim) h e hp
 clear hcb hcu h2 m02 HSH e1 s1 nsb hv hD
 go_wp2_with fail
 go_loopw [5,11] (fun v i wr=>∃(k:Nat) (xs:List Int) (D':List KV) (F':Nat→Prop),i=.int .i64 (k:Int)∧k≤mm∧MidV w2 wr F (fun _=>False) p kn n D' F'∧dm w2.heap.size F' wr v xs∧xs.length≤k * 10000∧mP (sh.drop k) xs kn D'=Rr) (fun _ i _=>mm-(intOf i).toNat)
 case atStart=>exact⟨0,[],D,F,rfl,Nat.zero_le _,M2.o,dm.nil _ _ _,Nat.le_refl _,HRr.o⟩
 case round =>
  obtain⟨k,xs,D',F',rfl,hk,mi,ri,hl,hs⟩:=hrel
  by_cases hlt:k<mm
  ·have d1:decide ((k:Int)<(mm:Int))=true:=by simp;omega
   have d2:decide (k<mm)=true:=by simp[hlt]
   have q3:IntKind.i64.wrap ((k:Int)+1)=(k:Int)+1:=az (by omega) (by omega)
   obtain⟨b,ll,hbl⟩:∃b ll,sh[k]?=some (b,ll):=⟨_,_,List.getElem?_eq_getElem (by omega)⟩
   have hst:dY b ll n:=HIN.o (b,ll) (List.mem_of_getElem? hbl)
   rw[nJ hbl] at hs
   have RI:=hQQ (show ak (oU b ll) (fun ys=>mP (sh.drop (k+1)) (xs++ys)) kn D'=Rr from hs)
   obtain⟨u1,u2⟩:=HCU.o k b ll hbl
   have hsb2:=KS.o _ _ _ mi
   have c1:wr.cell? ⟨sb,k * 2,none⟩=some (.int .i64 b):=by simp[World.cell?,hsb2];exact u1
   have c2:wr.cell? ⟨sb,k * 2+1,none⟩=some (.int .i64 ll):=by simp[World.cell?,hsb2];exact u2
   obtain⟨w3,e3,g3,m3,s3⟩:=a6 wr (.cells #[.int .i64 b,.int .i64 ll] 96)
   obtain⟨c3,c4⟩:=lr g3
   have MI:=hQQ (mi.more m3)
   have RWI:=hQQ (ri.more m3)
   have HL:=hQQ hl
   have HST:=hQQ hst
   clear mi ri hl hs hbl hst u1 u2 hsb2 g3 m3 s3
   go_wp2_with fail
   refine(NU HST.o hn F' p kn D' w3 MI.o.view HK.o MI.o.inv).mono ?_
   intro e w4 he
   rcases MI.o.stepR (ae.refl _) HK.o (uL HST.o) he with⟨a',hE,rfl,hd',ht',_⟩|⟨ys,D4,F4,v4,hE,rfl,hp4,M4',hq4,hk4,hn4⟩
   ·exact⟨rfl,NEED.o a' w4 (RI.o.symm.trans (ag hE)) hd' ht'⟩
   have R4:=hQQ ((aj hE).symm.trans RI.o)
   have M4:=hQQ M4'
   have RW4:=hQQ (RWI.o.went hk4 hn4)
   have U4:=hQQ (Rd.of_rw hp4.1)
   have HX:Hq (w2.heap.size≤w4.heap.size):=hQQ M4'.size
   have HY:Hq (ys.length≤10000):=hQQ (by have:=HST.o.hi;have:=HST.o.b1;omega)
   have HL5:Hq (xs.length+ys.length≤1000000):=hQQ (by have:=HL.o;have:=HY.o;omega)
   clear he hE M4' hk4 hn4 hp4 hq4 c1 c2 c3 c4 e3
   go_wp2_with (at_builtin;refine gN rfl _ _ rfl rfl RW4.o.1 HX.o HL5.o rfl U4.o ?_;intro v6 w6 h6 t6 k6;obtain⟨g1,g2⟩:=M4.o.grew RW4.o (Nat.le_refl _) t6 h6 k6;have M6:=hQQ g1;have R6:=hQQ g2;clear h6 t6 k6 g1 g2)
   go_roundw
   case rel=>exact⟨k+1,xs++ys,D4,F4,by go_num,by omega,M6.o,R6.o,by rw[List.length_append];have:=HL.o;have:=HY.o;omega,R4.o⟩
   case measure=>simp[intOf];omega
  ·obtain rfl:k=mm:=by omega
   have d1:decide ((k:Int)<(k:Int))=false:=by simp
   rw[List.drop_eq_nil_of_le (by omega)] at hs
   have FIN:=hQQ (DONE.o xs u5 wr D' F' hs.symm mi (ri.mono hw2))
   clear mi ri hl hs
   go_wp2_with fail
   go_ret
   exact FIN.o
def uR (P:Nat→List Int)(c:Int):List Int:=if iO c then P c.toNat else []
theorem JQ (f:Nat→Value)(P:Nat→List Int)(c:Int)(w:World)(h:Pu w f P)(hL:∀k,k<5→(P k).length≤1000000):
 Calls Tryz.prog 34 #[.agg (puA f),.int .i64 c] w (yU w (uR P c)):=by
 obtain⟨w1,e1,hl1,m1,s1⟩:=en1 w (.cells (puA f) 32)
 have L0:=hQQ hl1
 have M1:=hQQ m1
 have HP:=hQQ (h.more m1)
 clear m1 h s1
 cases hc:iO c with
 |false =>
  have C:=hQQ (fun W=>nE c W)
  rw[hc] at C
  have FIN:uR P c= []:=by simp[uR,hc]
  rw[FIN]
  clear hc FIN hl1 HP
  go_enter Tryz.func34,Tryz.ntmps34
  go_wp2_with fail
  refine(C.o w1).mono ?_
  rintro e w2 ⟨rfl,h2⟩
  have M2:=hQQ (M1.o.trans h2)
  clear h2
  go_wp2_with fail
  go_ret
  exact⟨_,rfl,Rw.nil _ _,M2.o⟩
 |true =>
  obtain⟨k,rfl,hk⟩:=mE hc
  have C:=hQQ (fun W=>nE k W)
  rw[hc] at C
  have FIN:uR P k=P k:=by simp[uR,hc]
  rw[FIN]
  have hm:=hQQ hk
  have hl:=hL k hk
  obtain⟨a,cap,hf,_,_⟩:=HP.o k hk
  have X:Hq (∀W,ae w1 W→W.cell? ⟨w.heap.size,k,none⟩=some (.slice a (P k).length cap)∧Rd W (.slice a (P k).length cap) (P k)):=hQQ fun W hW=>⟨(ky (hW.block L0.o) hk).trans (by rw[hf]),by rw[←hf];exact(HP.o.more hW) k hk⟩
  have HL:=hQQ hl
  generalize (P k).length=n at X
  clear hc FIN hl1 HP hf hl hL
  go_enter Tryz.func34,Tryz.ntmps34
  go_wp2_with fail
  refine(C.o w1).mono ?_
  rintro e w2 ⟨rfl,h2⟩
  have M2:=hQQ (M1.o.trans h2)
  obtain⟨x1,x2⟩:=X.o w2 h2
  have X2:=hQQ x2
  clear h2 x2
  go_wp2_with (at_builtin
               refine nZ (wa:=w) (xs:=[]) rfl _ _ rfl rfl (Rw.nil _ _) M2.o (by have:=HL.o;simp;omega) rfl X2.o ?_
               intro v' w3 r3 m3
               have R3:=hQQ r3
               have M3:=hQQ m3
               clear r3 m3)
  go_ret
  exact⟨_,rfl,by simpa using R3.o,M3.o⟩
def c7 (P:Nat→List Int):Nat→List Int
 | 0=> []
 |n+1=>c7 P n++P n
theorem wM {P:Nat→List Int}(hL:∀k,k<5→(P k).length≤100000):∀n,n≤5→(c7 P n).length≤n * 100000
 | 0,_=>by simp[c7]
 |n+1,h=>by have:=wM hL n (by omega);have:=hL n (by omega);rw[c7,List.length_append];omega
theorem yu {P:Program}{t e:TypeId}{n:Nat}{cs:Array Value}{i:Nat}{v:Value}{q:TypeId}(W:World)(hu:P.underlying t=some (.array n e))(he:P.underlying e=some (.slice q))(hz:(P.info? e).map (·.size)=some 1)
 (hi:i<n) (hv:cs[i]?=some v):(Instr.index t (.agg cs) (.int .i64 i)).run P W=.ok v W:=by
 have hagg:(isAgg e).run P W=.ok false W:=by
  unfold isAgg
  rw[Sem.run_bind,run_underlying he W]
  rfl
 cases hq:P.info? e with
 |none=>simp[hq] at hz
 |some d =>
  have hs:d.size=1:=by simpa [hq] using hz
  have hin:(0:Int)≤(i:Int)∧(i:Int)<(n:Int):=by omega
  simp[Instr.index,asIntOf,Sem.run_bind,run_underlying hu W,hin,part,hagg,sizeOf,typeInfo,hq,hs,hv]
  intro q;omega
theorem Mp (f:Nat→Value)(P:Nat→List Int)(w:World)(h:Pu w f P)(hL:∀k,k<5→(P k).length≤100000):
 Calls Tryz.prog 12 #[.agg (puA f)] w (yU w (c7 P 5)):=by
 obtain⟨w1,e1,hl1,m1,s1⟩:=en1 w (.cells (puA f) 32)
 have L0:=hQQ hl1
 have M1:=hQQ m1
 have HP:=hQQ (h.more m1)
 have HL:=hQQ hL
 clear m1 h s1 hl1 hL
 go_enter Tryz.func12,Tryz.ntmps12
 go_wp2_with (refine wpList_load_row rfl 30 _ rfl _ rfl 32 _ _ _ L0.o Tryz.underlying30 rfl (by kernel_rfl) ?_)
 go_loopw [8,3] (fun i v wr=>∃k:Nat,k≤5∧i=.int .i64 k∧Rw w1.heap.size wr v (c7 P k)∧ae w1 wr) (fun i _ _=>5-(intOf i).toNat)
 case atStart=>exact⟨0,by omega,rfl,Rw.nil _ _,ae.refl _⟩
 case round =>
  obtain⟨k,hk,rfl,hr,ht⟩:=hrel
  by_cases hlt:k<5
  ·have hx:∀W,(Instr.index 30 (.agg (puA f)) (.int .i64 k)).run Tryz.prog W=.ok (f k) W:=fun W=>yu W Tryz.underlying30 Tryz.underlying29 (by kernel_rfl) hlt (xV f hlt)
   have R:=hQQ hr
   have HT:=hQQ ht
   have X2:=hQQ ((HP.o.more ht) k hlt)
   have HB:Hq ((c7 P k).length+(P k).length≤1000000):=hQQ (by have:=wM HL.o k (by omega);have:=HL.o k hlt;omega)
   clear hr ht
   go_wp2_with (at_builtin
                refine nZ (wa:=w1) rfl _ _ rfl rfl R.o HT.o HB.o rfl X2.o ?_
                intro v' w3 r3 m3
                have R3:=hQQ r3
                have M3:=hQQ m3
                clear r3 m3)
   go_roundw
   case rel=>exact⟨k+1,by omega,by go_num,R3.o,M3.o⟩
   case measure=>simp[intOf];omega
  ·obtain rfl:k=5:=by omega
   have FIN:=hQQ (hr.mono (show w.heap.size≤w1.heap.size from M1.o.size))
   have M2:=hQQ (M1.o.trans ht)
   clear hr ht
   go_wp2_with fail
   go_ret
   exact⟨_,rfl,FIN.o,M2.o⟩
theorem oZ (P:Nat→List Int):∀m,(dK wn P m).map (·.1)=c7 P m
 | 0=>rfl
 |m+1=>by rw[nH,pU,←nH wn,oZ P m];rfl
def allA (s:FSt)(C:Nat→List Int)(m:Nat):List Int:=s.O.map (·.1)++(c7 s.P0 5++(c7 s.P1 5++pU C m))
theorem Gx (S:Fam)(s:FSt)(C:Nat→List Int)(m:Nat):((s.all++dK S C m).map (·.1)).Perm (allA s C m):=by
 unfold allA FSt.all puO
 rw[List.map_append,List.map_append,List.map_append,oZ,oZ,nH,List.append_assoc,List.append_assoc]
 refine((List.perm_append_comm_assoc _ _ _).append_left _).trans ?_
 exact List.perm_append_comm_assoc _ _ _
section
variable {d:Cfg}(R:d.Ok){n:Nat}(H:cB d.pg d.st n)(hw:(n:Int)=d.words)(hn:n≤10000)
include R H hw hn
theorem Em {s:FSt}{ws:List Int}(h:FrS d n s ws):∃C,FrI d.us d.pg d.st n (famC d) ws C s.all∧(allA s C (famC d).m).Nodup∧(∀b∈s.O,mC d.us d.pg d.st b.1 ws=(b.2,true)) ∧
 (∀a∈allA s C (famC d).m,d.us≤a∧a<d.us+32 * d.pg∧(mC d.us d.pg d.st a ws).2=true)∧fw d.us d.pg d.st ws (32 * d.pg).toNat=(allA s C (famC d).m).length:=by
 obtain⟨C,hC⟩:=h.fri
 obtain⟨G,P⟩:=hC.pgs
 have pm:=Gx (famC d) s C (famC d).m
 refine⟨C,hC,pm.nodup_iff.1 hC.nodup,fun b hb=>?_,fun a ha=>?_,?_⟩
 ·have:=(hC.acc b.1 b.2).2 (List.mem_append_left _ (by unfold FSt.all;simp[hb]))
  rw[xS,this]
 ·obtain⟨⟨a',k⟩,hm,rfl⟩:=List.mem_map.1 (pm.mem_iff.2 ha)
  have:=(hC.acc a' k).2 hm
  obtain⟨a0,a1,_⟩:=xT H P this
  refine⟨a0,a1,?_⟩
  rw[xS,this]
 ·have:=R.pg1
  rw[Gi H (oJ R hw) hn hC (m:=(32 * d.pg).toNat) (by omega),←pm.length_eq,List.length_map]
end
theorem AR {ws:List Int}{b l:Int}{xs:List Int}(h:gH ws b l xs):uM b l ws=xs:=by
 unfold uM
 rw[h.kept,Int.toNat_natCast]
 apply List.ext_getElem
 ·simp
 ·intro i h1 h2
  simp only[List.getElem_map,List.getElem_range]
  rw[h.at' i h2]
  simp[List.getD_eq_getElem?_getD,h2]
theorem wN (t:List (Int×Int))(ws:List Int):∀s:List (Int×Int),lG (s++t) ws=lG s ws++lG t ws
 | []=>rfl
 |x::s=>by rw[List.cons_append,lG,lG,wN t ws s,List.append_assoc]
theorem wO {S:Fam}{ws:List Int}{C:Nat→List Int}(h:∀i,i<S.m→gH ws (S.b i) (S.l i) (C i)):∀m,m≤S.m→lG (famL S m) ws=pU C m
 | 0,_=>rfl
 |m+1,hm=>by
  rw[famL,wN,wO h m (by omega),pU]
  simp only[lG,List.append_nil]
  rw[AR (h m (by omega))]
theorem StB.lay {w:World}{g:Nat}{d:Cfg}{v:Value}{fs:Nat→Nat→Value}{o ok:Value}(h:StB w g (d.arr.toList++ [v]) fs o ok):w.rangeAt g 0 d.arr.toList:=fun j x hj=>by
 have hl:j<24:=(List.getElem?_eq_some_iff.1 hj).1
 rw[cell_of_row w g _ _ _ _ h.2]
 simp only[List.getElem?_toArray,Nat.zero_add]
 unfold stL
 rw[List.append_assoc,List.getElem?_append_left (by rw[jC];exact hl)]
 exact hj
theorem MidV.setI {W wr:World}{F S F':Nat→Prop}{p n:Nat}{kn:Int→Option Int}{D:List KV}(h:MidV W wr F S p kn n D F'){b:Nat}(hS:b<W.heap.size→S b)(nF:¬F' b){x:Value}{t:TypeId}(hb:wr.heap[b]?=some (.cells #[x] t (0,0)))(v:Value):MidV W (wr.setCell ⟨b,0,none⟩ v) F S p kn n D F':=by
 rw[setCell_eq_setRow wr b 0 _ _ (0,0) v hb]
 exact h.setR hS nF _ hb
section
variable {c:Cfg}{v:Value}{fs:Nat→Nat→Value}{o ok:Value}
end
def dz:Cfg:=⟨2,2,2,2,0,0,1,2,0,0,3⟩
theorem ic:dz.Ok:=by constructor<;>decide
theorem p8:dz.words=(320:Nat):=by decide
theorem Gy:dz.us=256:=by decide
theorem Gz:cB dz.pg dz.st 320:= { st1:=by decide,st2:=by decide,pg1:=by decide,pg2:=by decide,top:=by decide,top5:=by decide,top62:=by decide }
theorem Df:(tkW dz 0 (fun _=> []) 0 (cJ 320)).1.1=(256,true):=by kernel_rfl
theorem GA:(tkW dz 0 (fun _=> []) 0 (cJ 320)).1.2 0= [257,258]:=by kernel_rfl
structure Dg (g1 g2 g3 bt:Nat)(w:World):Prop where
 h1:w.heap[g1]?=some (.cells dz.arr 28 (0,0))
 h2:∃x,et w g2 x
 h3:∃f,w.heap[g3]?=some (.cells (puA f) 32 (0,0))
 sz:dd bt w
def JR (g2 g3 b:Nat)(w:World):Prop:=et w g2 256∧∃f P,w.heap[g3]?=some (.cells (puA f) 32 (0,0))∧Pu w f P∧PuN (fun q=>b≤q) f∧P 0= [257,258]∧∀k,k<5→(P k).length≤1000000
def si {n bt:Nat}(T:uB dz n bt):Prg ((Int×Bool)×(Nat→List Int)):=T.tkP 0 (fun _=> []) 0
theorem Dh {bt:Nat}(T:uB dz 320 bt)(F:Nat→Prop)(p g1 g2 g3:Nat)(kn:Int→Option Int)(W:World)(hv:aD W F p kn [])(hk:OkK kn)(hY:Dg g1 g2 g3 bt W)(n1:¬F g1)(n2:¬F g2)(n3:¬F g3)(n0:¬F 0)(nb:¬F bt)(hd:g1≠g2∧g1≠g3∧g2≠g3∧0≠g2∧0≠g3∧bt≠g2∧bt≠g3)
 (ht:∀x D,si T kn []=.ok x D→x.1=(256,true)∧x.2 0= [257,258]):
 Calls Tryz.prog 33 #[.pointer (some ⟨p,0,none⟩),.pointer (some ⟨g1,0,none⟩),.pointer (some ⟨g2,0,none⟩),.pointer (some ⟨g3,0,none⟩)] W (gj W F (fun b=>b=g2∨b=g3) (fun w'=>Dg g1 g2 g3 bt w') (fun w'=>JR g2 g3 W.heap.size w') p kn (eP (si T kn []))):=by
 obtain⟨Rr,hR⟩:∃Rr,si T kn []=Rr:=⟨_,rfl⟩
 rw[hR] at ht⊢
 obtain⟨d12,d13,d23,d02,d03,db2,db3⟩:=hd
 obtain⟨x0,h2⟩:=hY.h2
 obtain⟨f0,h3⟩:=hY.h3
 have L1:=hQQ hY.h1
 have l2:=ac h2
 have l3:=ac h3
 have KT:∀wr,Turned (fun b=>F b∨(b=g2∨b=g3)) W wr→(∃x,et wr g2 x)→(∃f,wr.heap[g3]?=some (.cells (puA f) 32 (0,0)))→Dg g1 g2 g3 bt wr:=fun wr t a b =>
  ⟨(t.block g1 (ac hY.h1) (by rintro(q|q|q);exact n1 q;exact d12 q;exact d13 q)).trans hY.h1,a,b,hY.sz.keep t (by rintro(q|q|q);exact n0 q;exact d02 q;exact d03 q) (by rintro(q|q|q);exact nb q;exact db2 q;exact db3 q)⟩
 have M0:MidV W W F (fun b=>b=g2∨b=g3) p kn 320 [] F:=MidV.begin hv (ea _)
 have TK:=T.tkC F (fun q=>q<W.heap.size) p kn [] W 0 0 (fun _=> .slice none 0 0) (fun _=> []) hv hk (ea _) hY.sz n0 nb (fun q z=>z) (cL.nil _ _) (dp.nil ic)
 have TG:=T.tkG 0 (fun _=> []) 0 (dp.nil ic)
 have NEED:Hq (∀x w2,Rr=.need x→bB w2 p x→Turned (fun b=>F b∨(b=g2∨b=g3)) W w2→(∃x,et w2 g2 x)→(∃f,w2.heap[g3]?=some (.cells (puA f) 32 (0,0)))→gj W F (fun b=>b=g2∨b=g3) (fun w'=>Dg g1 g2 g3 bt w') (fun w'=>JR g2 g3 W.heap.size w') p kn (eP Rr) (.panicked (bg p)) w2):=hQQ fun x w2 e hd' ht' a b =>
  xo (oo e) hd' ht' (KT _ ht' a b)
 have DONE:Hq (∀x w2 D F' f,Rr=.ok x D→MidV W w2 F (fun b=>b=g2∨b=g3) p kn 320 D F'→et w2 g2 x0→w2.heap[g3]?=some (.cells (puA f0) 32 (0,0))→¬F' g2→¬F' g3→cL (fun q=>q<W.heap.size∨F' q) w2 f x.2→(∀k,k<5→(x.2 k).length≤1000000)→gj W F (fun b=>b=g2∨b=g3) (fun w'=>Dg g1 g2 g3 bt w') (fun w'=>JR g2 g3 W.heap.size w') p kn (eP Rr) (.returned (.tuple #[])) ((w2.setCell ⟨g2,0,none⟩ (.int .i64 x.1.1)).setRow g3 (puA f))):=hQQ fun x w2 D F' f e h b2 b3 nf2 nf3 hp hll=>by
  obtain⟨x1,x2⟩:=ht x D e
  have hm:=h.setI (b:=g2) (fun _=> .inl rfl) nf2 b2 (.int .i64 x.1.1)
  have c2:et (w2.setCell ⟨g2,0,none⟩ (.int .i64 x.1.1)) g2 x.1.1:=jH b2 _
  have t2:Turned (fun k=>k=g2) w2 (w2.setCell ⟨g2,0,none⟩ (.int .i64 x.1.1)):=Turned.setCell (Turned.refl _ w2) _ _ (fun _=>rfl)
  have c3:=(t2.block g3 (ac b3) (fun q=>d23 q.symm)).trans b3
  have pu2:Pu (w2.setCell ⟨g2,0,none⟩ (.int .i64 x.1.1)) f x.2:=hp.1.off (fun c hc q e z=>by have:=hp.2 c hc q e;exact this (.inl (by show q<_;have:q=g2:=z;omega))) t2
  generalize w2.setCell ⟨g2,0,none⟩ (.int .i64 x.1.1)=w3 at hm c2 c3 pu2
  have hm3:=hm.setR (b:=g3) (fun _=> .inr rfl) nf3 (puA f) c3
  have e3:=setRow_heap w3 g3 _ (puA f) _ _ c3
  have t3:Turned (fun k=>k=g3) w3 (w3.setRow g3 (puA f)):=Turned.setRow (Turned.refl _ w3) _ _ (fun _=>rfl)
  have e2:et (w3.setRow g3 (puA f)) g2 x.1.1:=(t3.block g2 (ac c2) d23).trans c2
  have pu3:Pu (w3.setRow g3 (puA f)) f x.2:=pu2.off (fun c hc q e z=>by have:=hp.2 c hc q e;exact this (.inl (by show q<_;have:q=g3:=z;omega))) t3
  refine xp hm3 (sR e) (KT _ hm3.turn ⟨_,e2⟩ ⟨_,e3⟩) ⟨by rw[←show x.1.1=256 by rw[x1]];exact e2,f,x.2,e3,pu3,fun c hc q e=>Nat.le_of_not_lt fun z=>hp.2 c hc q e (.inl z),x2,hll⟩
 have HR:=hQQ hR
 clear ht KT hR
 go_enter Tryz.func33,Tryz.ntmps33
 go_wp2_with (refine aK rfl rfl rfl L1.o (by kernel_rfl) ?_)
 refine TK.mono ?_
 intro e w4 he
 rcases M0.stepP (ae.refl _) hk TG he with⟨a',hE,rfl,hd',ht',hk4⟩|⟨x4,f4,D4,F4,hE,rfl,M4,hp4,hq4,hk4,hn4⟩
 ·exact⟨rfl,NEED.o a' w4 (HR.o.symm.trans hE) hd' ht' ⟨_,hk4 _ _ n2 h2⟩ ⟨_,hk4 _ _ n3 h3⟩⟩
 have b2:et w4 g2 x0:=hk4 _ _ n2 h2
 have b3:=hk4 _ _ n3 h3
 have nf2:¬F4 g2:=fun q=>by rcases hn4 _ q with r|r;exact n2 r;omega
 have nf3:¬F4 g3:=fun q=>by rcases hn4 _ q with r|r;exact n3 r;omega
 have FIN:=hQQ (DONE.o x4 w4 D4 F4 f4 (HR.o.symm.trans hE) M4 b2 b3 nf2 nf3 hp4 (hq4.2.len ic))
 obtain⟨y1,y2,_⟩:=aB b2
 have t2:Turned (fun k=>k=g2) w4 (w4.setCell ⟨g2,0,none⟩ (.int .i64 x4.1.1)):=Turned.setCell (Turned.refl _ w4) _ _ (fun _=>rfl)
 have B3:=hQQ ((t2.block g3 (ac b3) (fun q=>d23 q.symm)).trans b3)
 have AL:=hQQ (Pu.all1 hp4.1)
 clear he hE hk4 hn4 hp4 hq4 M4 b3 t2
 go_wp2_with (refine wpList_store_row rfl 32 _ _ rfl g3 (puA f4) rfl rfl 32 _ B3.o (by kernel_rfl) rfl AL.o ?_)
 go_end0
 exact FIN.o
theorem GB {bt:Nat}(T:uB dz 320 bt)(w:World)(g1 g2 g3:Nat)(a:Option Addr)(cap:Nat)(hY:Dg g1 g2 g3 bt w)(hd:g1≠g2∧g1≠g3∧g2≠g3∧0≠g2∧0≠g3∧bt≠g2∧bt≠g3)(hz:kN w a (cJ 320)):
 Calls Tryz.prog 9 #[.slice a 320 cap,.func (.func 33) #[] #[.pointer (some ⟨g1,0,none⟩),.pointer (some ⟨g2,0,none⟩),.pointer (some ⟨g3,0,none⟩)]] w (fun e w'=>∃v1 v2,e=.returned (.tuple #[v1,v2,.int .i64 0])∧w'.heap[g1]?=some (.cells dz.arr 28 (0,0))∧JR g2 g3 w.heap.size w'∧Turned (fun b=>b=g2∨b=g3) w w'):=by
 have hl:(cJ 320).length=320:=j9 320
 have l1:=ac hY.h1
 have l2:g2<w.heap.size:=by obtain⟨x,h⟩:=hY.h2;exact ac h
 have l3:g3<w.heap.size:=by obtain⟨x,h⟩:=hY.h3;exact ac h
 have l0:=hY.sz.lt0
 have lb:=hY.sz.lt
 have G:=T.tkG 0 (fun _=> []) 0 (dp.nil ic)
 have FL:=T.tkF 0 (fun _=> []) 0 (dp.nil ic)
 obtain⟨K',hK',_,hans⟩:=Du (zs:=cJ 320) (T.tkS 0 (fun _=> []) 0) (by rw[hl];exact G) (gn 320) (by rw[hl];exact FL)
 have M:=JI a cap (cJ 320) (fun K=>eP (si T (look K) [])) (some (_,K')) (cJ 320).length w hz (by omega) (gn _) (xm (by rw[hl];exact G) (gn _) (by omega)) (by omega) hK' 33 #[.pointer (some ⟨g1,0,none⟩),.pointer (some ⟨g2,0,none⟩),.pointer (some ⟨g3,0,none⟩)] (fun k=>k=g2∨k=g3)
  (fun w'=>Dg g1 g2 g3 bt w') (fun b w'=>JR g2 g3 b w')
  (fun k q=>by rcases q with rfl|rfl<;>assumption)
  (fun w' w'' y t=>⟨(t.block g1 (ac y.h1) (by omega)).trans y.h1,by obtain⟨z,q⟩:=y.h2;exact⟨z,(t.block g2 (ac q) (by omega)).trans q⟩,by obtain⟨z,q⟩:=y.h3;exact⟨z,(t.block g3 (ac q) (by omega)).trans q⟩,y.sz.keep t (by omega) (by omega)⟩)
  (fun b w' w'' hb x t=>by
   obtain⟨x1,f,P,x2,x3,x4,x5⟩:=x
   exact⟨(t.block g2 (ac x1) (by omega)).trans x1,f,P,(t.block g3 (ac x2) (by omega)).trans x2,x3.off (fun c hc q e z=>by have:b≤q:=x4 c hc q e;omega) t,x4,x5⟩) hY (enters_of Tryz.func33 (by kernel_rfl) rfl)
  (fun K hK W F p t y hv hF=>Dh T F p g1 g2 g3 (look K) W hv (sP hK (gn _)) y (fun q=>by have:=hF _ q;omega) (fun q=>by have:=hF _ q;omega) (fun q=>by have:=hF _ q;omega) (fun q=>by have:=hF _ q;omega) (fun q=>by have:=hF _ q;omega) hd
   (fun x D e=>by rw[hans K hK x D e];exact⟨Df,GA⟩))
 rw[hl] at M
 refine M.mono ?_
 rintro e w' ⟨v1,v2,b,rfl,r1,_,t,y,hb,x1,f,P,x2,x3,x4,x5⟩
 exact⟨v1,v2,rfl,y.h1,⟨x1,f,P,x2,x3,fun c hc q e=>Nat.le_trans hb (x4 c hc q e),x5⟩,t⟩
theorem AU {w:World}{g:Nat}{v:Value}{t:TypeId}{fr:Nat×Nat}(h:w.heap[g]?=some (.cells #[v] t fr)):w.setCell ⟨g,0,none⟩ v=w:=by
 unfold World.setCell
 have e:(w.heap.modify g fun x=>match x with| .cells c elem frozen=> .cells (if((none:Option Nat)).isSome then c else c.setIfInBounds 0 v) elem frozen|o=>o)=w.heap:=by
  apply Array.ext
  ·simp
  ·intro i h1 h2
   rw[Array.getElem_modify]
   split
   ·rename_i q
    subst q
    have:w.heap[g]=.cells #[v] t fr:=by rw[Array.getElem?_eq_getElem h2] at h;simpa using h
    rw[this]
    simp
   ·rfl
 show World.mk _ _ _ _ _=_
 exact congrArg (fun h=>World.mk h w.tape w.drawn w.os w.output) e
theorem JS (w:World)(p q:Int):∃w1,w.alloc (.cells #[.int .i64 p,.int .i64 q] 3)=w1∧Rw w.heap.size w1 (.slice (some ⟨w.heap.size,0,none⟩) 2 2) [p,q]∧ae w w1∧w1.heap.size=w.heap.size+1:=by
 refine⟨_,rfl,⟨rfl,.inr ⟨_,2,_,rfl,Nat.le_refl _,a7 w _,Nat.le_refl _,by simp[maxLen],rfl,rfl⟩⟩,(ae.refl w).alloc _,by simp⟩
theorem wP {o:Oper}{a:Act}{w:World}{K:Act→World→Prop}{Q:Exit→Act→World→Prop}{x y:Operand}(ho:o.op=.buildSlice 29 2 #[(0,x),(1,y)]){p q:Int}(hx:a.eval x=.int .i64 p)(hy:a.eval y=.int .i64 q)(h:K (a.put o.dst (.slice (some ⟨w.heap.size,0,none⟩) 2 2)) (w.alloc (.cells #[.int .i64 p,.int .i64 q] 3))):Oper.wp Tryz.prog o a w K Q:=by
 unfold Oper.wp Oper.upon execOp
 simp only[ho]
 generalize a.eval=ρ at hx hy⊢
 go_simp
 exact h
def sj:Cfg:=⟨aR 0 1 64,aR 0 1 8,aR 0 1 256,aR 0 1 64,aR 0 0 16,aR 0 0 64,aR 0 1 1099511627776,aR 0 1 8,aR 0 0 8,aR 0 0 16,aR 0 1 8⟩
theorem Di:sj.Ok:=Dy 0 0 0 0 0 0 0 0 0 0 0
def LU:Cfg:=⟨2,2,2,2,0,0,1,2,0,0,2⟩
theorem Dj:kP sj=LU:=by rfl
def TkT:Type:=∀(d:Cfg) (n bt:Nat),d.Ok→cB d.pg d.st n→(n:Int)=d.words→n≤10000→uB d n bt
theorem Dk (TT:TkT)(bt:Nat)(w:World)(hs:dd bt w):Calls Tryz.prog 7 #[] w (aP w (.bool true)):=by
 have SM:=hQQ (vJ Di 0 0 0 0 0 0 0 0 0 0 0 _ w (fun W=>zd 0 0 0 0 0 0 0 0 0 0 0 W (by omega) (by omega) (by omega) (by omega) (by omega) (by omega) (by omega) (by omega) (by omega) (by omega) (by omega)) rfl)
 have D0:Hq ((kP sj).cells.setIfInBounds 10 (.int .i64 3)=dz.cells):=hQQ (by rw[Dj];rfl)
 have D9:Hq (dz.cells.setIfInBounds 7 (.int .i64 2)=dz.cells):=hQQ (by rfl)
 generalize kP sj=d at SM D0
 have R5:=hQQ ic
 have hc4:=gV d
 have HS:=hQQ hs
 have l0:=hs.lt0
 have lb:=hs.lt
 have DOA:=hQQ (GB (TT dz 320 bt ic Gz (by rw[p8]) (by omega)))
 clear hs TT
 go_enter Tryz.func7,Tryz.ntmps7
 go_wp2_with fail
 refine(SM.o).mono ?_
 rintro e w1 ⟨rfl,m1⟩
 have MA:=hQQ m1
 have hs1:=m1.size
 have C2:=aW w1 #[.int .i64 0,.int .i64 0,.int .i64 0,.int .i64 0,.int .i64 0,.int .i64 0,.int .i64 0,.int .i64 0,.int .i64 0,.int .i64 0,.int .i64 0] 23
 have C3:=setRow_heap _ _ _ d.cells _ _ C2
 have M5:=MA.o.trans (((ae.refl w1).alloc (.cells #[.int .i64 0,.int .i64 0,.int .i64 0,.int .i64 0,.int .i64 0,.int .i64 0,.int .i64 0,.int .i64 0,.int .i64 0,.int .i64 0,.int .i64 0] 23)).setRow w1.heap.size d.cells (Nat.le_refl _))
 obtain⟨w5,e5⟩:∃w5,(w1.alloc (.cells #[.int .i64 0,.int .i64 0,.int .i64 0,.int .i64 0,.int .i64 0,.int .i64 0,.int .i64 0,.int .i64 0,.int .i64 0,.int .i64 0,.int .i64 0] 23)).setRow w1.heap.size d.cells=w5:=⟨_,rfl⟩
 rw[e5] at C3 M5
 have C2:=hQQ C2
 have C3:=hQQ C3
 have M5:=hQQ M5
 have E5:=hQQ e5
 clear m1 SM e5
 go_wp2_with (first
  |(refine wpList_store_row rfl 23 _ _ rfl w1.heap.size d.cells rfl rfl 23 _ C2.o (by kernel_rfl) rfl hc4 ?_;rw[E5.o])
  |(refine gU rfl 3 _ _ rfl rfl w1.heap.size 10 rfl 3 rfl _ _ C3.o (by simp[Cfg.cells]) (by kernel_rfl) ?_;rw[D0.o];intro w6 hb6 ht6;have HB6:=hQQ hb6;have HM6:Hq (ae w w6):=hQQ (Turned.mono (am (F:=fun _=>False) M5.o ht6 (fun k q=> .inr (by omega))) (fun _ _ q=>q));clear hb6 ht6)
  |(refine gU rfl 3 _ _ rfl rfl w1.heap.size 7 rfl 2 rfl _ _ HB6.o (by simp[Cfg.cells]) (by kernel_rfl) ?_;rw[D9.o];intro w66 hb6 ht6;have HB:=hQQ hb6;have HM:Hq (ae w w66):=hQQ (Turned.mono (am (F:=fun _=>False) HM6.o ht6 (fun k q=> .inr (by omega))) (fun _ _ q=>q));clear hb6 ht6)
  |(refine sx rfl rfl rfl HB.o (by kernel_rfl) ?_))
 refine(OU R5.o _).mono ?_
 rintro e w7 ⟨rfl,m7⟩
 have D1:=aW w7 fZ 28
 have D2:=setRow_heap (w7.alloc (.cells fZ 28)) w7.heap.size _ dz.arr _ _ D1
 have M7:=HM.o.trans m7
 have M8:ae w ((w7.alloc (.cells fZ 28)).setRow w7.heap.size dz.arr):=(M7.alloc _).setRow _ _ M7.size
 have s8:((w7.alloc (.cells fZ 28)).setRow w7.heap.size dz.arr).heap.size=w7.heap.size+1:=by simp
 have hs7:=M7.size
 have D1:=hQQ D1
 obtain⟨w8,e8⟩:∃w8,(w7.alloc (.cells fZ 28)).setRow w7.heap.size dz.arr=w8:=⟨_,rfl⟩
 rw[e8] at D2 M8 s8
 obtain⟨w9,e9,ha,m9,s9⟩:=a6 w8 (.cells #[.int .i64 0] 3)
 have n9:w9.setCell ⟨w8.heap.size,0,none⟩ (.int .i64 0)=w9:=AU ha
 obtain⟨c9,f9,k9⟩:=aB ha
 obtain⟨w10,e10,hp,m10,s10⟩:=a6 w9 (.cells #[.slice none 0 0,.slice none 0 0,.slice none 0 0,.slice none 0 0,.slice none 0 0] 32)
 have M13:=hQQ ((M8.trans m9).trans m10)
 have HD:=hQQ (m10.block (m9.block D2))
 have HA:=hQQ (m10.block ha)
 rw[s9] at hp
 have HP:=hQQ hp
 have l7:w7.heap.size<w8.heap.size:=by omega
 have l9:w8.heap.size<w9.heap.size:=by omega
 clear m7 HM HB C3 M5 M7 M8 ha m9 hc4 D2 s8 hp m10 HB6 HM6
 go_wp2_with (first
  |(refine wpList_store_row rfl 28 _ _ rfl w7.heap.size dz.arr rfl rfl 28 _ D1.o (by kernel_rfl) rfl (mX dz) ?_)
  |(refine aK rfl rfl rfl HD.o (by kernel_rfl) ?_))
 refine(xw R5.o _).mono ?_
 rw[p8]
 rintro e w14 ⟨rfl,m14⟩
 obtain⟨w15,hmk,N1,m15,s15⟩:∃w15,(Instr.makeSlice 29 (.int .i64 320) (.int .i64 320)).run Tryz.prog w14=.ok (.slice (some ⟨w14.heap.size,0,none⟩) 320 320) w15∧w15.heap[w14.heap.size]?=some (.cells (o6 (cJ 320)) 3 (0,0))∧ae w14 w15∧w15.heap.size=w14.heap.size+1 :=
  ⟨_,sX 320 (by omega) w14,aW w14 _ _,(ae.refl _).alloc _,by simp⟩
 have mm:=m14.trans m15
 have M15:=hQQ (M13.o.trans mm)
 have DO:=hQQ (DOA.o w15 w7.heap.size w8.heap.size (w8.heap.size+1) (some ⟨w14.heap.size,0,none⟩) 320 ⟨mm.block HD.o,⟨_,mm.block HA.o⟩,⟨fun _=> .slice none 0 0,mm.block HP.o⟩,HS.o.more M15.o⟩ ⟨by omega,by omega,by omega,by omega,by omega,by omega,by omega⟩ (E0 _ _ _ N1))
 have hw8:w.heap.size≤w8.heap.size:=by omega
 clear m14 m15 mm N1 s15 HD HA HP M13 e8 e9 e10 n9 c9 f9 D1 s9 s10 DOA
 go_wp2_with fail
 refine DO.o.mono ?_
 rintro e w16 ⟨v1,v2,rfl,h1,⟨hx1,f,P,hx2,hx3,hx4,hx5,hx6⟩,ht⟩
 have LB:=hQQ h1
 have IB:=hQQ hx1
 have PB:=hQQ hx2
 have PU:=hQQ hx3
 have PQ:Hq (uR P 0= [257,258]):=hQQ (by rw[←hx5];unfold uR;rw[if_pos (by decide)];rfl)
 have PL:=hQQ hx6
 have FIN:=hQQ (Turned.mono (am (F:=fun _=>False) M15.o ht (fun k q=> .inr (by omega))) (fun _ _ q=>q))
 have US:Hq (∀W,Calls Tryz.prog 14 #[.agg dz.arr] W (aP W (.int .i64 256))):=hQQ fun W=>by rw[←Gy];exact Mf R5.o W
 clear h1 hx1 hx2 hx3 hx4 hx5 hx6 ht DO M15
 go_wp2_with fail
 refine aM (ae w16) (by kernel_rfl) ?_
 change dc _ _ _ _ _ _ _ _ (w16.drewN 1)
 have MR:Hq (ae w16 (w16.drewN 1)):=hQQ ((ae.refl w16).drewN 1)
 generalize w16.drewN 1=wq at MR⊢
 generalize hA:Act.mk _ _=A
 have HF:AG 49 A [(2,.pointer (some ⟨w7.heap.size,0,none⟩)),(3,.int .i64 0),(4,.pointer (some ⟨w8.heap.size,0,none⟩)),(5,.pointer (some ⟨w8.heap.size+1,0,none⟩)),(8,.int .i64 0)]:=by
  rw[←hA];try simp only[pts,List.foldl]
  refine⟨⟨Nat.le_of_ble_eq_true rfl,rfl⟩,?_⟩
  intro z hz;simp only[List.mem_cons,List.not_mem_nil,or_false] at hz;rcases hz with rfl|rfl|rfl|rfl|rfl<;>rfl
 refine bH (fun aa W=>∃(u27 u28 u29 u30 u31 u32 u33 u34 u35 u36 u37 u38 u39 u40 u42 u43 u44 u45 u41 u46 u47 u48:Value),(aa=(pts A [(27,u27),(28,u28),(29,u29),(30,u30),(31,u31),(32,u32),(33,u33),(34,u34),(35,u35),(36,u36),(37,u37),(38,u38),(39,u39),(40,u40),(42,u42),(43,u43),(44,u44),(45,u45),(41,u41),(46,u46),(47,u47),(48,u48),(0,.bool true)])∨aa=(pts A [(27,u27),(28,u28),(29,u29),(30,u30),(31,u31),(32,u32),(33,u33),(34,u34),(35,u35),(36,u36),(37,u37),(38,u38),(39,u39),(40,u40),(42,u42),(43,u43),(44,u44),(45,u45),(46,u46),(41,u41),(47,u47),(48,u48),(0,.bool true)]))∧ae w16 W) (fun _=>False) [] (fun a W hd h=>h.elim) (fun _ _ _ _ _ h=>h) ?_ ?_
 ·skip
  rintro a9 wz ⟨u27,u28,u29,u30,u31,u32,u33,u34,u35,u36,u37,u38,u39,u40,u42,u43,u44,u45,u41,u46,u47,u48,hn,mz⟩
  have E:(pts A [(27,u27),(28,u28),(29,u29),(30,u30),(31,u31),(32,u32),(33,u33),(34,u34),(35,u35),(36,u36),(37,u37),(38,u38),(39,u39),(40,u40),(42,u42),(43,u43),(44,u44),(45,u45),(46,u46),(41,u41),(47,u47),(48,u48),(0,.bool true)])=(pts A [(27,u27),(28,u28),(29,u29),(30,u30),(31,u31),(32,u32),(33,u33),(34,u34),(35,u35),(36,u36),(37,u37),(38,u38),(39,u39),(40,u40),(42,u42),(43,u43),(44,u44),(45,u45),(41,u41),(46,u46),(47,u47),(48,u48),(0,.bool true)]):=by rw[←hA];kernel_rfl
  have hn:a9=(pts A [(27,u27),(28,u28),(29,u29),(30,u30),(31,u31),(32,u32),(33,u33),(34,u34),(35,u35),(36,u36),(37,u37),(38,u38),(39,u39),(40,u40),(42,u42),(43,u43),(44,u44),(45,u45),(41,u41),(46,u46),(47,u47),(48,u48),(0,.bool true)]):=by
   rcases hn with q|q
   ·exact q
   ·exact q.trans E
  subst hn
  rw[←hA];try simp only[pts,List.foldl]
  have F17:=hQQ (FIN.o.trans mz)
  clear HF hA MR E hn mz
  go_simp
  go_wp2_with fail
  go_ret
  exact⟨rfl,F17.o⟩
 intro QQ FINE FIND FINQ
 clear hA
 refine tqM 0 27 1 rfl (.inl rfl) rfl (by kernel_rfl) FINQ MR.o HF fun A β1 HF=>?_
 refine tqC 1 28 (.bool true) (by kernel_rfl) FINQ MR.o HF (by exact(Or.inl ⟨(ab rfl),fun W hW=>by have h5:=(HF.getD 0 rfl);go_simp⟩)) fun A β2 HF=>?_
 refine tqM 2 29 0 rfl (.inl rfl) rfl (by kernel_rfl) FINQ MR.o HF fun A β3 HF=>?_
 refine tqC 3 30 (.int .i64 0) (by kernel_rfl) FINQ MR.o HF (by exact ct (dE 2 true 29 rfl rfl (HF.at (by decide) 0 rfl)) _ rfl (HF.get 7 rfl)) fun A β4 HF=>?_
 refine tqC 4 31 (.bool true) (by kernel_rfl) FINQ MR.o HF (by exact(Or.inl ⟨(dE 2 true 29 rfl rfl (HF.at (by decide) 1 rfl)),fun W hW=>by have h5:=(HF.getD 0 rfl);go_simp⟩)) fun A β5 HF=>?_
 refine tqC 5 32 (.bool true) (by kernel_rfl) FINQ MR.o HF (by exact ij (ab rfl) rfl (HF.get 2 rfl) (HF.get 0 rfl)) fun A β6 HF=>?_
 refine tqM 6 33 0 rfl (.inl rfl) rfl (by kernel_rfl) FINQ MR.o HF fun A β7 HF=>?_
 refine tqC 7 34 (.int .i64 256) (by kernel_rfl) FINQ MR.o HF (by exact jK (dE 6 true 33 rfl rfl (HF.at (by decide) 0 rfl)) _ rfl (w8.heap.size) (HF.get 9 rfl) _ (fun W hW=>hW.block IB.o)) fun A β8 HF=>?_
 refine tqC 8 35 (.agg dz.arr) (by kernel_rfl) FINQ MR.o HF (by exact aC (dE 6 true 33 rfl rfl (HF.at (by decide) 1 rfl)) 28 _ rfl (w7.heap.size) (HF.get 8 rfl) 28 _ _ _ (fun W hW=>hW.block LB.o) Tryz.underlying28 rfl (by kernel_rfl)) fun A β9 HF=>?_
 refine bG (i:=9) (some 36) (by kernel_rfl) rfl (dE 6 true 33 rfl rfl (HF.at (by decide) 2 rfl)) rfl (fun K hK=>?_)
 refine mV (v0:=.agg dz.arr) rfl (HF.get 0 rfl) (enters_of Tryz.func14 (by kernel_rfl) rfl) ?_
 refine(US.o wq).mono ?_
 rintro e wa ⟨rfl,hl⟩
 have Na:=hQQ hl
 have Ma:=hQQ (MR.o.trans hl)
 clear hl
 refine hK _ _ Ma.o ?_
 clear hK K
 replace HF:=HF.put 36 (.int .i64 256) (by decide) rfl
 generalize β10:Act.put _ _ _=A at HF⊢
 refine tqC 10 37 (.bool true) (by kernel_rfl) FINQ Ma.o HF (by exact zg (dE 6 true 33 rfl rfl (HF.at (by decide) 3 rfl)) rfl (HF.get 2 rfl) (HF.get 0 rfl) true (by simp)) fun A β11 HF=>?_
 refine tqC 11 38 (.bool true) (by kernel_rfl) FINQ Ma.o HF (by exact ij (ab rfl) rfl (HF.get 4 rfl) (HF.get 0 rfl)) fun A β12 HF=>?_
 refine tqM 12 39 0 rfl (.inl rfl) rfl (by kernel_rfl) FINQ Ma.o HF fun A β13 HF=>?_
 refine tqC 13 40 (.agg (puA f)) (by kernel_rfl) FINQ Ma.o HF (by exact aC (dE 12 true 39 rfl rfl (HF.at (by decide) 0 rfl)) 32 _ rfl (w8.heap.size+1) (HF.get 16 rfl) 32 _ _ _ (fun W hW=>hW.block PB.o) Tryz.underlying32 rfl (by kernel_rfl)) fun A β14 HF=>?_
 refine tqC 15 42 (.int .i64 256) (by kernel_rfl) FINQ Ma.o HF (by exact jK (dE 12 true 39 rfl rfl (HF.at (by decide) 1 rfl)) _ rfl (w8.heap.size) (HF.get 16 rfl) _ (fun W hW=>hW.block IB.o)) fun A β15 HF=>?_
 refine tqC 16 43 (.int .i64 257) (by kernel_rfl) FINQ Ma.o HF (by exact gy (dE 12 true 39 rfl rfl (HF.at (by decide) 2 rfl)) rfl (HF.get 0 rfl) rfl _ (by decide)) fun A β16 HF=>?_
 refine tqC 17 44 (.int .i64 256) (by kernel_rfl) FINQ Ma.o HF (by exact jK (dE 12 true 39 rfl rfl (HF.at (by decide) 3 rfl)) _ rfl (w8.heap.size) (HF.get 18 rfl) _ (fun W hW=>hW.block IB.o)) fun A β17 HF=>?_
 refine tqC 18 45 (.int .i64 258) (by kernel_rfl) FINQ Ma.o HF (by exact gy (dE 12 true 39 rfl rfl (HF.at (by decide) 4 rfl)) rfl (HF.get 0 rfl) rfl _ (by decide)) fun A β18 HF=>?_
 -- the list,and the row
 refine ke (i:=14) (j:=19) (some 41) (some 46) (by kernel_rfl) rfl rfl (dE 12 true 39 rfl rfl (HF.at (by decide) 5 rfl)) (dE 12 true 39 rfl rfl (HF.at (by decide) 5 rfl)) rfl rfl (fun K hK=>?_) (fun K hK=>?_)
 ·refine bO (v0:=.agg (puA f)) (v1:=(.int .i64 0)) rfl (HF.get 4 rfl) rfl (enters_of Tryz.func34 (by kernel_rfl) rfl) ?_
  refine(JQ f P 0 wa (PU.o.more Ma.o) PL.o).mono ?_
  rintro e wb ⟨vl,rfl,rl,hl⟩
  rw[PQ.o] at rl
  obtain⟨al,cl,rfl,_⟩:=rl.reads
  have RL:=hQQ rl
  have Nb:=hQQ hl
  have Mb:=hQQ (Ma.o.trans hl)
  clear rl hl
  refine hK _ _ Mb.o ?_
  clear hK K
  replace HF:=HF.put 41 (.slice al 2 cl) (by decide) rfl
  generalize β19:Act.put _ _ _=A at HF⊢
  refine bG (i:=19) (some 46) (by kernel_rfl) rfl (dE 12 true 39 rfl rfl (HF.at (by decide) 6 rfl)) rfl (fun K hK=>?_)
  refine wP rfl (HF.get 3 rfl) (HF.get 1 rfl) ?_
  obtain⟨wc,ewc,rwwc,mwc,swc⟩:=JS wb 257 258
  rw[ewc]
  have RB:=hQQ rwwc
  have Nc:=hQQ mwc
  have Mc:=hQQ (Mb.o.trans mwc)
  clear rwwc mwc ewc swc
  refine hK _ _ Mc.o ?_
  clear hK K
  replace HF:=HF.put 46 (.slice (some ⟨wb.heap.size,0,none⟩) 2 2) (by decide) rfl
  generalize β20:Act.put _ _ _=A at HF⊢
  refine bG (i:=20) (some 47) (by kernel_rfl) rfl (dE 12 true 39 rfl rfl (HF.at (by decide) 7 rfl)) rfl (fun K hK=>?_)
  refine bO (v0:=.slice al 2 cl) (v1:=.slice (some ⟨wb.heap.size,0,none⟩) 2 2) rfl (HF.get 1 rfl) (HF.get 0 rfl) (enters_of Tryz.func35 (by kernel_rfl) rfl) ?_
  refine(vG [257,258] _ _ _ _ wc (by simp) (RL.o.more Nc.o) (RB.o)).mono ?_
  rintro e wz ⟨rfl,hl⟩
  have Nz:=hQQ hl
  have Mz:=hQQ (Mc.o.trans hl)
  clear hl
  refine hK _ _ Mz.o ?_
  clear hK K
  replace HF:=HF.put 47 (.bool true) (by decide) rfl
  generalize β21:Act.put _ _ _=A at HF⊢
  refine tqC 21 48 (.bool true) (by kernel_rfl) FINQ Mz.o HF (by exact ij (ab rfl) rfl (HF.get 8 rfl) (HF.get 0 rfl)) fun A β22 HF=>?_
  refine tqM 22 0 0 rfl (.inr rfl) rfl (by kernel_rfl) FINQ Mz.o HF fun A β23 HF=>?_
  exact bI (by kernel_rfl) (FINE _ _ ⟨(.int .i64 0),(.bool true),(.bool true),(.int .i64 0),(.bool true),(.bool true),(.bool true),(.int .i64 256),(.agg dz.arr),(.int .i64 256),(.bool true),(.bool true),(.bool true),(.agg (puA f)),(.int .i64 256),(.int .i64 257),(.int .i64 256),(.int .i64 258),(.slice al 2 cl),(.slice (some ⟨wb.heap.size,0,none⟩) 2 2),(.bool true),(.bool true),Or.inl (by rw[← β23,← β22,← β21,← β20,← β19,← β18,← β17,← β16,← β15,← β14,← β13,← β12,← β11,← β10,← β9,← β8,← β7,← β6,← β5,← β4,← β3,← β2,← β1]<;>rfl),Mz.o⟩)
 ·refine wP rfl (HF.get 2 rfl) (HF.get 0 rfl) ?_
  obtain⟨wb,ewb,rwwb,mwb,swb⟩:=JS wa 257 258
  rw[ewb]
  have RB:=hQQ rwwb
  have Nb:=hQQ mwb
  have Mb:=hQQ (Ma.o.trans mwb)
  clear rwwb mwb ewb swb
  refine hK _ _ Mb.o ?_
  clear hK K
  replace HF:=HF.put 46 (.slice (some ⟨wa.heap.size,0,none⟩) 2 2) (by decide) rfl
  generalize β19:Act.put _ _ _=A at HF⊢
  refine bG (i:=14) (some 41) (by kernel_rfl) rfl (dE 12 true 39 rfl rfl (HF.at (by decide) 6 rfl)) rfl (fun K hK=>?_)
  refine bO (v0:=.agg (puA f)) (v1:=(.int .i64 0)) rfl (HF.get 5 rfl) rfl (enters_of Tryz.func34 (by kernel_rfl) rfl) ?_
  refine(JQ f P 0 wb (PU.o.more Mb.o) PL.o).mono ?_
  rintro e wc ⟨vl,rfl,rl,hl⟩
  rw[PQ.o] at rl
  obtain⟨al,cl,rfl,_⟩:=rl.reads
  have RL:=hQQ rl
  have Nc:=hQQ hl
  have Mc:=hQQ (Mb.o.trans hl)
  clear rl hl
  refine hK _ _ Mc.o ?_
  clear hK K
  replace HF:=HF.put 41 (.slice al 2 cl) (by decide) rfl
  generalize β20:Act.put _ _ _=A at HF⊢
  refine bG (i:=20) (some 47) (by kernel_rfl) rfl (dE 12 true 39 rfl rfl (HF.at (by decide) 7 rfl)) rfl (fun K hK=>?_)
  refine bO (v0:=.slice al 2 cl) (v1:=.slice (some ⟨wa.heap.size,0,none⟩) 2 2) rfl (HF.get 0 rfl) (HF.get 1 rfl) (enters_of Tryz.func35 (by kernel_rfl) rfl) ?_
  refine(vG [257,258] _ _ _ _ wc (by simp) (RL.o) (RB.o.more Nc.o)).mono ?_
  rintro e wz ⟨rfl,hl⟩
  have Nz:=hQQ hl
  have Mz:=hQQ (Mc.o.trans hl)
  clear hl
  refine hK _ _ Mz.o ?_
  clear hK K
  replace HF:=HF.put 47 (.bool true) (by decide) rfl
  generalize β21:Act.put _ _ _=A at HF⊢
  refine tqC 21 48 (.bool true) (by kernel_rfl) FINQ Mz.o HF (by exact ij (ab rfl) rfl (HF.get 8 rfl) (HF.get 0 rfl)) fun A β22 HF=>?_
  refine tqM 22 0 0 rfl (.inr rfl) rfl (by kernel_rfl) FINQ Mz.o HF fun A β23 HF=>?_
  exact bI (by kernel_rfl) (FINE _ _ ⟨(.int .i64 0),(.bool true),(.bool true),(.int .i64 0),(.bool true),(.bool true),(.bool true),(.int .i64 256),(.agg dz.arr),(.int .i64 256),(.bool true),(.bool true),(.bool true),(.agg (puA f)),(.int .i64 256),(.int .i64 257),(.int .i64 256),(.int .i64 258),(.slice al 2 cl),(.slice (some ⟨wa.heap.size,0,none⟩) 2 2),(.bool true),(.bool true),Or.inr (by rw[← β23,← β22,← β21,← β20,← β19,← β18,← β17,← β16,← β15,← β14,← β13,← β12,← β11,← β10,← β9,← β8,← β7,← β6,← β5,← β4,← β3,← β2,← β1]<;>rfl),Mz.o⟩)
def tkT:TkT:=fun d n bt R H hw hn=>Pq R H hw hn
def yv (us pg st:Int):Nat→Int→Int→Prg Int
 | 0,_,t=>ay t
 |m+1,a,t=>ak (mg us pg st a) fun x=>yv us pg st m (a+1) (if x.2 then t+1 else t)
def JT (us pg st:Int)(ws:List Int):Nat→Int→Int→Int
 | 0,_,t=>t
 |m+1,a,t=>JT us pg st ws m (a+1) (if(mC us pg st a ws).2 then t+1 else t)
theorem wQ (us pg st:Int):∀m a t,bh (yv us pg st m a t)
 | 0,_,t=>ah t
 |m+1,a,t=>aq (oD _ _ _ _) fun x=>wQ us pg st m _ _
section
variable {pg st:Int}{n:Nat}(H:cB pg st n)
include H
theorem AV (us:Int):∀(m:Nat) (a t:Int),0≤t→bQ n (fun x:Int=>0≤x∧x≤t+m) (yv us pg st m a t)
 | 0,_,t,ht=>ai n ⟨ht,by omega⟩
 |m+1,a,t,ht=>ar (iY H us a) fun x _=>de (AV us m (a+1) (if x.2 then t+1 else t) (by split<;>omega)) fun y hy=>⟨hy.1,by have:=hy.2;split at this<;>omega⟩
theorem AW (us:Int):∀m a t,bJ n (yv us pg st m a t) (fun ws=>(JT us pg st ws m a t,ws))
 | 0,_,t=>au n t
 |m+1,a,t=>aU (aA (qL H us a) fun x=>AW us m (a+1) (if x.2 then t+1 else t)) fun ws _=>rfl
end
theorem wR (us pg st:Int)(ws:List Int):∀(m k:Nat) (t:Int),JT us pg st ws m (us+k) (t+fw us pg st ws k)=t+fw us pg st ws (k+m)
 | 0,k,t=>rfl
 |m+1,k,t=>by
  unfold JT
  have e:=wR us pg st ws m (k+1) t
  rw[show k+(m+1)=k+1+m by omega,←e,show us+((k+1:Nat):Int)=us+k+1 by omega]
  congr 1
  rw[xS]
  rw[show fw us pg st ws (k+1)=fw us pg st ws k+(if(tkC us pg st ws (us+k)).isSome then 1 else 0) from rfl]
  cases tkC us pg st ws (us+k) with
  |none=>simp
  |some q=>simp;omega
theorem LX (us pg st:Int)(ws:List Int)(m:Nat):JT us pg st ws m us 0=fw us pg st ws m:=by
 have:=wR us pg st ws m 0 0
 simpa [fw] using this
section
variable {d:Cfg}{n bt:Nat}(T:uB d n bt)
variable (R:d.Ok)(H:cB d.pg d.st n)(hw:(n:Int)=d.words)(hn:n≤10000)
include R H hw hn
end
structure EmY (c:Cfg)(v:Value)(fs:Nat→Nat→Value)(o ok:Value)(s:FSt)(g1 g2 bt:Nat)(w:World):Prop where
 st:StB w g1 (c.arr.toList++ [v]) fs o ok
 p0:Pu w (fs 0) s.P0
 p1:Pu w (fs 1) s.P1
 n0:PuN (fun q=>q<g2) (fs 0)
 n1:PuN (fun q=>q<g2) (fs 1)
 bx:∃b,j7 g2 w b
 sz:dd bt w
 lt:g1<g2∧0<g2∧bt<g2
structure EmK (c:Cfg)(g1 g4 g5:Nat)(v:Value)(fs:Nat→Nat→Value)(o:Value)(f4 f5:Nat→Value)(w:World):Prop where
 st:w.rangeAt g1 0 c.arr.toList
 h4:w.heap[g4]?=some (.cells (puA f4) 32 (0,0))
 h5:w.heap[g5]?=some (.cells (puA f5) 32 (0,0))
structure EmZ (c:Cfg)(v:Value)(fs:Nat→Nat→Value)(o ok:Value)(s:FSt)(g1 g2 g4 g5:Nat)(f4 f5:Nat→Value)(bt:Nat)(b:Bool)(F:Nat→Prop)(w:World):Prop where
 y:EmY c v fs o ok s g1 g2 bt w
 bx:j7 g2 w b
 h4:w.heap[g4]?=some (.cells (puA f4) 32 (0,0))
 h5:w.heap[g5]?=some (.cells (puA f5) 32 (0,0))
 q4:cL (fun q=>False∨F q) w f4 (fun _=> [])
 q5:cL (fun q=>False∨F q) w f5 (fun _=> [])
 nf:¬F g4∧¬F g5
 lt:g2<g4∧g2<g5
section
variable {c:Cfg}{v:Value}{fs:Nat→Nat→Value}{o ok:Value}{s:FSt}{g1 g2 g4 g5 bt:Nat}{f4 f5:Nat→Value}{b:Bool}{F F1 S:Nat→Prop}{w w':World}
theorem EmY.keep (h:EmY c v fs o ok s g1 g2 bt w)(t:Turned S w w')(n:∀k,S k→g2≤k)(b:∃b,j7 g2 w' b):EmY c v fs o ok s g1 g2 bt w' :=
 ⟨h.st.keep t (fun q=>by have:=n _ q;have:=h.lt.1;omega),h.p0.off (fun c hc q e z=>by have:q<g2:=h.n0 c hc q e;have:=n q z;omega) t,h.p1.off (fun c hc q e z=>by have:q<g2:=h.n1 c hc q e;have:=n q z;omega) t,h.n0,h.n1,b,h.sz.keep t (fun q=>by have:=n _ q;have:=h.lt.2.1;omega) (fun q=>by have:=n _ q;have:=h.lt.2.2;omega),h.lt⟩
theorem EmY.more (h:EmY c v fs o ok s g1 g2 bt w)(m:ae w w'):EmY c v fs o ok s g1 g2 bt w':=h.keep m (fun _ q=>q.elim) (by obtain⟨b,q⟩:=h.bx;exact⟨b,m.block q⟩)
end
theorem StB.pur {w:World}{g:Nat}{pre:List Value}{fs:Nat→Nat→Value}{o ok:Value}(h:StB w g pre fs o ok):w.rangeAt g 25 (puA (fs 0)).toList∧w.rangeAt g 30 (puA (fs 1)).toList:=⟨h.range (n:=0) (by omega),h.range (n:=1) (by omega)⟩
def klP (us pg st:Int):List Bl→Bool→Prg Bool
 | [],r=>ay r
 |b::t,r=>ak (mg us pg st b.1) fun x=>klP us pg st t (r && x.2 && x.1==b.2)
def klV (us pg st:Int)(ws:List Int):List Bl→Bool→Bool
 | [],r=>r
 |b::t,r=>klV us pg st ws t (r && (mC us pg st b.1 ws).2 && (mC us pg st b.1 ws).1==b.2)
def ksP (us pg st:Int)(n:Nat):List Int→List Int→Prg Bool
 | [],_=>ay true
 |a::t,seen=>ak (mg us pg st a) fun x=>if x.2=true∧0≤a∧a<n∧a∉seen then ksP us pg st n t (a::seen) else ay false
def ksV (us pg st:Int)(n:Nat)(ws:List Int):List Int→List Int→Bool
 | [],_=>true
 |a::t,seen=>if(mC us pg st a ws).2=true∧0≤a∧a<n∧a∉seen then ksV us pg st n ws t (a::seen) else false
theorem AX (us pg st:Int):∀l r,bh (klP us pg st l r)
 | [],r=>ah r
 |b::t,r=>aq (oD _ _ _ _) fun x=>AX us pg st t _
theorem AY (us pg st:Int)(n:Nat):∀l seen,bh (ksP us pg st n l seen)
 | [],_=>ah _
 |a::t,seen=>aq (oD _ _ _ _) fun x=>aH (AY us pg st n t _) (ah _)
section
variable {pg st:Int}{n:Nat}(H:cB pg st n)
include H
theorem En (us:Int):∀l r,bQ n (fun _=>True) (klP us pg st l r)
 | [],r=>ai n trivial
 |b::t,r=>ar (iY H us _) fun x _=>En us t _
theorem Eo (us:Int):∀l r,bJ n (klP us pg st l r) (fun ws=>(klV us pg st ws l r,ws))
 | [],r=>au n r
 |b::t,r=>aU (aA (qL H us b.1) fun x=>Eo us t (r && x.2 && x.1==b.2)) fun ws _=>rfl
theorem Ep (us:Int)(m:Nat):∀l seen,bQ n (fun _=>True) (ksP us pg st m l seen)
 | [],_=>ai n trivial
 |a::t,seen=>ar (iY H us _) fun x _=>aO (fun _=>Ep us m t _) (fun _=>ai n trivial)
theorem Er (us:Int)(m:Nat):∀l seen,bJ n (ksP us pg st m l seen) (fun ws=>(ksV us pg st m ws l seen,ws))
 | [],_=>au n true
 |a::t,seen=>by
  refine aU (aA (qL H us a) fun x=>bE (fun _=>Er us m t (a::seen)) (fun _=>au n false)) fun ws _=>?_
  simp only[ksV]
  split<;>rfl
end
theorem Es {us pg st:Int}{ws:List Int} :∀ {l:List Bl},(∀b∈l,mC us pg st b.1 ws=(b.2,true))→klV us pg st ws l true=true
 | [],_=>rfl
 |b::t,h=>by
  unfold klV
  rw[h b (by simp)]
  simp only[Bool.and_true,Bool.true_and,beq_self_eq_true]
  exact Es fun z hz=>h z (by simp[hz])
theorem Et {us pg st:Int}{n:Nat}{ws:List Int} :∀ {l seen:List Int},(∀a∈l,(mC us pg st a ws).2=true∧0≤a∧a<n)→l.Nodup→(∀a∈l,a∉seen)→ksV us pg st n ws l seen=true
 | [],_,_,_,_=>rfl
 |a::t,seen,h,nd,ns=>by
  unfold ksV
  obtain⟨h1,h2,h3⟩:=h a (by simp)
  rw[if_pos ⟨h1,h2,h3,ns a (by simp)⟩]
  refine Et (fun b hb=>h b (by simp[hb])) (List.nodup_cons.1 nd).2 fun b hb=>?_
  have:=(List.nodup_cons.1 nd).1
  simp only[List.mem_cons,not_or]
  exact⟨fun e=>this (e▸hb),ns b (by simp[hb])⟩
section
variable {d:Cfg}{n:Nat}
def keP (d:Cfg)(n:Nat)(s:FSt):Prg Bool:=ak (klP d.us d.pg d.st s.O true) fun r=>ak (mP (famL (famC d) (famC d).m) []) fun ks=>ak (ksP d.us d.pg d.st n (s.O.map (·.1)++(c7 s.P0 5++(c7 s.P1 5++ks))) []) fun y=>if y then ak (yv d.us d.pg d.st (32 * d.pg).toNat d.us 0) fun t=>ay (r && t==((s.O.map (·.1)++(c7 s.P0 5++(c7 s.P1 5++ks))).length:Int)) else ay false
theorem JU (d:Cfg)(n:Nat)(s:FSt):bh (keP d n s):=aq (AX _ _ _ _ _) fun r=>aq (uQ _ _) fun ks=>aq (AY _ _ _ _ _ _) fun y=>aH (aq (wQ _ _ _ _ _ _) fun t=>ah _) (ah _)
variable (R:d.Ok)(H:cB d.pg d.st n)(hw:(n:Int)=d.words)(hn:n≤10000)
include R H hw hn
theorem Eu (s:FSt):bQ n (fun _=>True) (keP d n s):=ar (En H _ _ _) fun r _=>ar (qT hn _ _ (oP R H hw hn)) fun ks _=>ar (Ep H _ _ _ _) fun y _=>aO (fun _=>ar (AV H _ _ _ _ (by omega)) fun t _=>ai n trivial) (fun _=>ai n trivial)
theorem Pe {s:FSt}{zs:List Int}(hlz:zs.length=n)(hz:OkW zs)(Fq9:FrS d n s zs):∃xs K,doP (fun K=>eP (keP d n s (look K) [])) zs (zs.length+1) []=some (xs,K)∧∀K,jD zs K→∀y D,keP d n s (look K) []=.ok y D→y=true:=by
 subst hlz
 have FL:=aA (Eo H d.us s.O true) fun r=>aA (wL (famL (famC d) (famC d).m) [] (oP R H hw hn)) fun ks=>aA (Er H d.us zs.length (s.O.map (·.1)++(c7 s.P0 5++(c7 s.P1 5++ks))) []) fun y=>bE (c:=y=true) (fun _=>aA (AW H d.us (32 * d.pg).toNat d.us 0) fun t=>au zs.length (r && t==((s.O.map (·.1)++(c7 s.P0 5++(c7 s.P1 5++ks))).length:Int))) (fun _=>au zs.length false)
 obtain⟨K,hK,_,hans⟩:=Du (JU d zs.length s) (Eu R H hw hn s) hz FL
 refine⟨_,K,hK,fun K hK y D e=>?_⟩
 rw[hans K hK y D e]
 obtain⟨C,hC,nd,e1,e2,e3⟩:=Em R H hw hn Fq9
 have k0:lG (famL (famC d) (famC d).m) zs=pU C (famC d).m:=wO hC.keeps _ (Nat.le_refl _)
 have ub:=uA R H hw hn
 have wd:(zs.length:Int)=d.us+32 * d.pg:=hw
 have c1:=Es e1
 have c2:=Et (us:=d.us) (pg:=d.pg) (st:=d.st) (n:=zs.length) (ws:=zs) (l:=allA s C (famC d).m) (seen:=[]) (fun a ha=>by
  obtain⟨q1,q2,q3⟩:=e2 a ha
  exact⟨q3,by omega,by omega⟩) nd (fun a _=>by simp)
 have c3:=LX d.us d.pg d.st zs (32 * d.pg).toNat
 rw[e3] at c3
 simp only[List.nil_append,k0]
 rw[show s.O.map (·.1)++(c7 s.P0 5++(c7 s.P1 5++pU C (famC d).m))=allA s C (famC d).m from rfl,c1,c2,if_pos rfl,c3]
 simp
end
end Go.Proofs.YtddmeghbmdfgeaaGreatDoor
