/-
  As ViewDoY, where what the program leaves lies in blocks that it makes itself: X speaks of the blocks from a number on.
-/
import Derived.Test.YtfddhogffpkhcaaGreatDoorTsAc
import Derived.Test.YtfddhogffpkhcaaGreatDoorTsAh
import Derived.Test.YtfddhogffpkhcaaGreatDoorTsAd
import Derived.ChangeKeysEq
import Derived.Test.YtfddhogffpkhcaaGreatDoorTsAe
import Derived.Test.YtfddhogffpkhcaaGreatDoorTsAf
import Derived.Test.YtfddhogffpkhcaaGreatDoorTsAg
import Derived.Test.YtfddhogffpkhcaaGreatDoorTsAa
import Derived.ProofKit
import Derived.Deep.Fields
set_option maxRecDepth 100000
set_option maxHeartbeats 8000000
set_option linter.all false
namespace Go.Proofs.YtfddhogffpkhcaaGreatDoor
open Go.RowKit Go.Sort Go.Maps Go.Shelf
def DX (w:World)(S:Nat→Prop)(Y:World→Prop)(X:Nat→World→Prop)(R:Ran)(e:Ending)(w':World):Prop :=
 match R with
 | .need a=>e=.returned (.tuple #[.int .i64 a,.slice none 0 0])∧Turned S w w'∧Y w'
 | .done D=>∃v p b,e=.returned (.tuple #[.int .i64 (-1),v])∧PRw w.heap.size w' v D∧Turned S w w'∧Y w'∧(w.heap.size≤b∧X b w')∧eo w' p (-1)
theorem BJ (kn:Int→Option Int)(R:Ran)(M n:Nat)(w:World)(hk:KnownAt w M n kn)(f:Nat)(cap:Array Value)(S:Nat→Prop)(Y:World→Prop)(X:Nat→World→Prop)
 (henter:∀args w,Sem.run Tryz.prog (callFunc f args) w=.ok (.enter f args) w) (hS:∀k,S k→k<w.heap.size) (hY:∀w' w'',Y w'→Turned (fun k=>w.heap.size≤k) w' w''→Y w'') (hX:∀b w' w'',w.heap.size≤b→X b w'→Turned (fun k=>w.heap.size≤k∧k<b) w' w''→X b w'') (hY0:Y w)
 (hprog:∀(W:World) (F:Nat→Prop) (p:Nat),ac w W→Y W→bB W F p kn []→(∀k,F k→w.heap.size≤k)→Calls Tryz.prog f (#[.pointer (some ⟨p,0,none⟩)]++cap) W (mg W F S Y (X W.heap.size) p kn R)):
 Calls Tryz.prog 35 #[.map (some M),.func (.func f) #[] cap] w (DX w S Y X R):=by
 have hq:∀w,Sem.run Tryz.prog (binOp BinOp.eql 45 (Value.func (.func f) #[] cap) Value.nilFunc) w=.ok (.bool false) w:=fun w=>jW w _ Tryz.underlying45 _ _ _
 have hmf:∀(fn:Fn) (first cap:Array Value) (w:World),(Instr.makeFunc fn first cap).run Tryz.prog w=.ok (.func fn first cap) w:=fun _ _ _ _=>rfl
 have HK:=hQQ hk
 have HS:=hQQ hS
 have HX:=hQQ hX
 have HY:=hQQ hY
 have HY0:=hQQ hY0
 have HP:=hQQ hprog
 clear hk hS hX hY hY0 hprog
 go_enter_defers Tryz.func35,Tryz.ntmps35
 go_wp2_with fail
 refine(Ct _).mono ?_
 rintro e w1 ⟨F0,q,rfl,m1,M1,n1⟩
 obtain⟨F,hbeg⟩:=xQ HK.o m1 M1 n1
 have HB:=hQQ hbeg
 have hws:w.heap.size<w1.heap.size:=by have:=M1.size;simp at this;omega
 clear hbeg m1 M1 n1
 go_wp2_with fail
 change Calls _ _ _ ((w1.alloc (.cells (bw (some ⟨w1.heap.size,0,none⟩) M q (-1)) 107)).alloc (.cells #[.pointer (some ⟨w1.heap.size,0,none⟩)] 42)) _
 generalize (w1.alloc (.cells (bw (some ⟨w1.heap.size,0,none⟩) M q (-1)) 107)).alloc (.cells #[.pointer (some ⟨w1.heap.size,0,none⟩)] 42)=W at HB⊢
 generalize w1.heap.size+1=bv at HB⊢
 generalize w1.heap.size=p at HB⊢
 have hlw:Hq (∀k,k<w.heap.size→k≠bv∧k≠p):=hQQ fun k hk=>by have:=HB.o.lv;have:=HB.o.lp;omega
 have HPW:Hq (p<W.heap.size):=hQQ (by obtain⟨_,_,_,_,_,_,_,fp,_,_⟩:=HB.o.view.ex;exact HB.o.view.lt p fp)
 clear hws
 refine(HP.o W F p HB.o.more (HY.o _ _ HY0.o (Turned.mono HB.o.more (fun _ _ q=>q.elim))) HB.o.view HB.o.new).mono ?_
 intro e w2 he
 cases R with
 |need a =>
  obtain⟨rfl,hd,ht,hy⟩:=he
  obtain⟨hv2,hn2,ne1,ne2⟩:=tM HB.o HS.o ht
  change bodyPostD _ _ _ (Exit.panic (eB p)) _ _
  refine leaves_cons (f:=73) (args:=#[.pointer (some ⟨bv,0,none⟩),.pointer (some ⟨w.heap.size,0,none⟩)]) (by simp) (by simp[go_sem]) ?_
  refine(u5 p bv w.heap.size a 0 w2 hd hv2 hn2 ne1 ne2 HB.o.vn).mono ?_
  rintro e u' w3 ⟨rfl,rfl,hc⟩
  obtain⟨b0,_,_⟩:=aW hc.2.1
  have FIN:Turned S w w3∧Y w3:=⟨qr HB.o ht hc.2.2,HY.o _ _ hy (hc.2.2.mono (fun k _ q=>by have:=HB.o.lp;rcases q with q|q<;>omega))⟩
  simp[Leaves,settle,results,Tryz.results35,go_sem,b0]
  exact⟨rfl,FIN⟩
 |done D =>
  obtain⟨rfl,⟨F',hv⟩,ht,hy,hx⟩:=he
  obtain⟨hv2,hn2,ne1,ne2⟩:=tM HB.o HS.o ht
  obtain⟨M',q',n',F0',hp2,hk2,hm2,fp2,f02,fM2⟩:=hv.ex
  obtain⟨c0,c1,c2,c3,cf,cl⟩:=cV hp2
  obtain⟨v0,vf,vl⟩:=aW hv2
  have TOLD:=hQQ (AP F0' p q' D w2 c2 hm2)
  have HT:=hQQ ht
  have HX2:=hQQ hx
  have HY2:=hQQ hy
  have HP2:=hQQ hp2
  have HV2:=hQQ hv2
  have HN2:=hQQ hn2
  clear hv hk2 hm2 fp2 f02 fM2 hp2 hv2 hn2 ht hx hy
  go_wp2_with fail
  refine TOLD.o.mono ?_
  rintro e w3 ⟨v,rfl,hr,hm3⟩
  obtain⟨n0,nf,nl⟩:=aW (hm3.block HN2.o)
  have HR:=hQQ hr
  have HM3:=hQQ hm3
  clear hr hm3
  go_wp2_with fail
  have t4:Turned (fun k=>k=p∨k=w.heap.size) w3 (w3.setCell ⟨w.heap.size,0,none⟩ (.int .i64 (-1))):=bT (Turned.refl _ w3) (fun _=> .inr rfl) _
  have hp4:(w3.setCell ⟨w.heap.size,0,none⟩ (.int .i64 (-1))).heap[p]?=_:=(Below.heap_setCell _ _ _ _ (Ne.symm ne2)).trans (HM3.o.block HP2.o)
  have hv4:(w3.setCell ⟨w.heap.size,0,none⟩ (.int .i64 (-1))).heap[bv]?=_:=(Below.heap_setCell _ _ _ _ HB.o.vn).trans (HM3.o.block HV2.o)
  have hn4:=i6 (.int .i64 (-1)) (HM3.o.block HN2.o)
  have hm3:=HM3.o
  have hr:=HR.o
  have hlp2:=cl
  have hln2:w.heap.size<w2.heap.size:=af HN2.o
  generalize w3.setCell ⟨w.heap.size,0,none⟩ (.int .i64 (-1))=w4 at t4 hp4 hv4 hn4⊢
  refine leaves_cons (f:=73) (args:=#[.pointer (some ⟨bv,0,none⟩),.pointer (some ⟨w.heap.size,0,none⟩)]) (by simp) (by simp[go_sem]) ?_
  refine(rZ p bv w.heap.size M' q' (-1) w4 hp4 hv4 hn4 ne1 ne2 HB.o.vn).mono ?_
  rintro e u' w5 ⟨rfl,rfl,hc⟩
  obtain⟨b0,_,_⟩:=aW hc.2.1
  have t35:Turned (fun k=>k=p∨k=w.heap.size) w3 w5:=t4.trans hc.2.2
  have FIN:DX w S Y X (.done D) (.returned (.tuple #[.int .i64 (-1),v])) w5:=by
   refine⟨v,p,W.heap.size,rfl,(hr.keep t35 (fun k hk q=>by rcases q with q|q<;>omega)).mono (by omega),?_,?_,?_,hc.1⟩
   ·exact qr HB.o HT.o ((Turned.mono hm3 (fun _ _ q=>q.elim)).trans t35)
   ·have hlp:=HB.o.lp
    exact HY.o w2 w5 HY2.o ((Turned.mono hm3 (fun _ _ q=>q.elim)).trans (t35.mono (fun k _ q=>by rcases q with q|q<;>omega)))
   ·have hlp:=HB.o.lp
    have hpW:=HPW.o
    exact⟨by omega,HX.o W.heap.size w2 w5 (by omega) HX2.o ((Turned.mono hm3 (fun _ _ q=>q.elim)).trans (t35.mono (fun k _ q=>by rcases q with q|q<;>omega)))⟩
  simp[Leaves,settle,results,Tryz.results35,go_sem,b0]
  exact FIN
def BK (w:World)(S:Nat→Prop)(Y:World→Prop)(X:Nat→World→Prop)(R:Option (List Int×List KV))(e:Ending)(w':World):Prop :=
 match R with
 |none=>e=.returned (.tuple #[.slice none 0 0,.slice none 0 0,.int .i64 3])∧Turned S w w'∧Y w'
 |some (ws,K)=>∃v1 v2 b,e=.returned (.tuple #[v1,v2,.int .i64 0])∧Rw w.heap.size w' v1 ws∧PRw w.heap.size w' v2 K∧Turned S w w'∧Y w'∧w.heap.size≤b∧X b w'
theorem BL {w wb wr w2 w3:World}{S:Nat→Prop}{Y:World→Prop}{X:Nat→World→Prop}{M:Nat}{zs:List Int}{sem:List KV→Ran}{R:Option (List Int×List KV)}{K D:List KV}{a' an:Option Addr}{cap' cn:Nat}{e:Ending}(h:OnY w wb wr S Y M zs sem R K (.slice an K.length cn))(hs:sem K=.done D)(mb:ac w wb)(hM:w.heap.size≤M)
 (hl:∀k,eA a' k→w.heap.size≤k∧k<wb.heap.size) (hS:∀k,S k→k<w.heap.size) (m2:Turned S wr w2) (hf:iH w2 zs D a' cap' (.slice an K.length cn) e w3)
 (hY:∀w' w'',Y w'→Turned (fun k=>w.heap.size≤k) w' w''→Y w'') (hX:∀b w' w'',w.heap.size≤b→X b w'→Turned (fun k=>w.heap.size≤k∧k<b) w' w''→X b w'') (y2:Y w2) {b:Nat} (hb:wb.heap.size≤b) (x2:X b w2):BK w S Y X R e w3:=by
 have hR:=xq h.okn hs h.res
 have mbS:Turned S w wb:=Turned.mono mb (fun _ _ q=>q.elim)
 have t3:Turned S w w3:=by
  have t1:Turned S w wr:=aw mbS h.turn (fun k q=>by rcases q with q|q;exact .inr (by omega);exact .inl q)
  exact aw (aw t1 m2 (fun k q=> .inl q)) hf.1 (fun k q=> .inr (hl k q).1)
 have t23:Turned (fun k=>w.heap.size≤k) w2 w3:=hf.1.mono (fun k _ q=>(hl k q).1)
 rcases hf.2 with⟨h1,h2,h3⟩|⟨h1,h2⟩
 ·rw[hR,if_pos h1]
  have hlen:(bE zs D).length=zs.length:=dp D zs
  have hwb:=mb.size
  refine⟨_,_,b,h2,?_,?_,t3,hY _ _ y2 t23,by omega,hX b _ _ (by omega) x2 (hf.1.mono (fun k _ q=>by have:=hl k q;omega))⟩
  ·have:=h3.own (base:=w.heap.size) (fun k q=>(hl k q).1)
   unfold Rw
   rw[List.length_map,hlen] at this
   rw[hlen];exact this
  ·have hb:=mb.size
   exact((h.row.keep m2 (fun k hk q=>by have:=hS k q;omega)).keep hf.1 (fun k hk q=>by have:=(hl k q).2;omega)).mono mb.size
 ·rw[hR,h1]
  exact⟨h2,t3,hY _ _ y2 t23⟩
theorem Dc (a:Option Addr)(cap:Nat)(zs:List Int)(sem:List KV→Ran)(R:Option (List Int×List KV))(b:Nat)(w:World)(hz:hO w a zs)(hlen:zs.length≤1000)(hok:OkW zs)(hfine:tJ zs b sem)(hb:b≤100000)(hR:doP sem zs (zs.length+1) []=R)(f:Nat)(clo:Array Value)(S:Nat→Prop)(Y:World→Prop)(X:Nat→World→Prop)(hS:∀k,S k→k<w.heap.size)
 (hY:∀w' w'',Y w'→Turned (fun k=>w.heap.size≤k) w' w''→Y w'') (hX:∀b w' w'',w.heap.size≤b→X b w'→Turned (fun k=>w.heap.size≤k∧k<b) w' w''→X b w'') (hY0:Y w)
 (henter:∀args w,Sem.run Tryz.prog (callFunc f args) w=.ok (.enter f args) w)
 (hprog:∀(K:List KV),gT zs K→∀(W:World) (F:Nat→Prop) (p:Nat),Turned S w W→Y W→bB W F p (look K) []→(∀k,F k→w.heap.size≤k)→Calls Tryz.prog f (#[.pointer (some ⟨p,0,none⟩)]++clo) W (mg W F S Y (X W.heap.size) p (look K) (sem K))):
 Calls Tryz.prog 10 #[.slice a zs.length cap,.func (.func f) #[] clo] w (BK w S Y X R):=by
 have hmm:= @run_makeMap Tryz.prog
 have CL:=hQQ (qt a cap zs w hz (by omega))
 have HOK:=hQQ hok
 have HF:=hQQ hfine
 have HR0:=hQQ hR
 have HE:=hQQ henter
 have HP:=hQQ hprog
 have HSS:=hQQ hS
 have HY:=hQQ hY
 have HX:=hQQ hX
 have HY0:=hQQ hY0
 clear hz hok hfine hR henter hprog hS hY hX hY0
 go_enter Tryz.func10,Tryz.ntmps10
 go_wp2_with fail
 refine CL.o.mono ?_
 rintro e w1 ⟨a',cap',rfl,hr1,hn1,hm1⟩
 have DO0:Hq (OnY w (w1.alloc (.map #[] 0)) (w1.alloc (.map #[] 0)) S Y w1.heap.size zs sem R [] (.slice none 0 0)):=hQQ
  ⟨p9 zs,HR0.o,PRw.nil _ _,KnownAt.made w1,Turned.refl _ _,HY.o _ _ HY0.o (Turned.mono (hm1.alloc _) (fun _ _ q=>q.elim))⟩
 have MB:Hq (ac w (w1.alloc (.map #[] 0))):=hQQ (hm1.alloc _)
 have RB:=hQQ (hr1.keep ((ac.refl w1).alloc (.map #[] 0)) (fun _ _ q=>q))
 have HL:Hq (∀k,eA a' k→w.heap.size≤k∧k<(w1.alloc (.map #[] 0)).heap.size∧k≠w1.heap.size):=hQQ fun k q=>⟨hn1 k q,by have:=hr1.lt k q;simp;omega,by have:=hr1.lt k q;omega⟩
 have hwM:w.heap.size≤w1.heap.size:=hm1.size
 have hMb:w1.heap.size<(w1.alloc (.map #[] 0)).heap.size:=by simp
 clear hr1 hn1 hm1 CL
 go_wp2_with fail
 generalize w1.alloc (.map #[] 0)=wb at DO0 MB RB HL hMb⊢
 generalize w1.heap.size=M at DO0 HL hwM hMb⊢
 go_loopw [8] (fun u8 wr=>∃K,OnY w wb wr S Y M zs sem R K u8∧tN u8=K.length) (fun u8 _=>zs.length+1-tN u8)
 case atStart=>exact⟨[],DO0.o,rfl⟩
 case round =>
  obtain⟨K,hdo,hln⟩:=hrel
  obtain⟨an,cn,rfl,hpn,_⟩:=hdo.row.reads
  have DO:=hQQ hdo
  have hKl:=hdo.okn.len
  have hsz:w.heap.size≤wr.heap.size:=Nat.le_trans MB.o.size hdo.turn.size
  have hmr:Turned S w wr:=aw (Turned.mono MB.o (fun _ _ q=>q.elim)) hdo.turn (fun k q=>by rcases q with q|q;exact .inr (by omega);exact .inl q)
  have LS:=hQQ (fun k (q:S k)=>HSS.o k q)
  have RUN:=hQQ (BJ (look K) (sem K) M K.length wr hdo.known f clo S Y X HE.o (fun k q=>Nat.lt_of_lt_of_le (HSS.o k q) hsz) (fun w' w'' h t=>HY.o w' w'' h (t.mono (fun k _ q=>Nat.le_trans hsz q))) (fun b w' w'' hb h t=>HX.o b w' w'' (by omega) h (t.mono (fun k _ q=>by omega))) hdo.y
   (fun W F p m y v n=>HP.o K hdo.okn W F p (aw (F':=fun _=>False) hmr m (fun _ q=>q.elim)) y v (fun k hk=>Nat.le_trans hsz (n k hk))))
  have HFK:=hQQ (HF.o K hdo.okn)
  have RW:Hq (RowAt wr 3 (zs.map (Value.int .i64)) a' cap'):=hQQ (RB.o.keep hdo.turn (fun k q e=>by rcases e with e|e;exact(HL.o k q).2.2 e;have:=HSS.o k e;have:=(HL.o k q).1;omega))
  clear hdo hpn hmr hsz DO0 hln
  go_wp2_with fail
  refine RUN.o.mono ?_
  intro e w2 he
  cases hs:sem K with
  |need x =>
   rw[hs] at he
   obtain⟨rfl,hm2,hy2⟩:=he
   have HS:=hQQ hs
   have hx0:0≤x:=by have:=HFK.o;rw[hs] at this;exact this.1
   clear hs RUN
   obtain⟨j,rfl⟩:∃j:Nat,x=j:=⟨x.toNat,by omega⟩
   have HM2:Hq (Turned S wr w2):=hQQ hm2
   have Y2:=hQQ hy2
   have nSM:¬S M:=fun q=>by have:=HSS.o M q;omega
   have nSa:∀k,eA a' k→¬S k:=fun k q r=>by have:=HSS.o k r;have:=(HL.o k q).1;omega
   have bW:w.heap.size≤wb.heap.size:=MB.o.size
   clear hm2 hy2
   have HFJ:=HFK.o
   rw[HS.o] at HFJ
   by_cases hj:j<zs.length
   ·obtain⟨q1,q2,q3,q4⟩:=xo DO.o.okn HFK.o HS.o (by omega) DO.o.res
    have d1:decide ((zs.length:Int)≤(j:Int))=false:=by simp;omega
    have d3:decide (zs.length≤j)=false:=by simp;omega
    have d2:decide ((j:Int)<0)=false:=by simp
    have hrow:=RW.o.keep HM2.o nSa
    obtain⟨g,rfl,hg,hcell,_⟩:=hrow.reads (by simp;omega)
    have hgM:g≠M:=(HL.o g rfl).2.2
    have cw:w2.cell? ⟨g,j,none⟩=some (.int .i64 (wAt zs j)):=by
     refine hcell j _ ?_
     unfold wAt
     rw[List.getElem?_map,List.getElem?_eq_getElem hj]
     simp[List.getD,hj]
    obtain⟨w3,hst,hk3,ht3⟩:=(DO.o.known.keep HM2.o nSM).store HFJ.2.1 (xn HOK.o j) (by unfold maxLen;omega)
    rw[uU q4] at hk3
    have T23:=hQQ ht3
    have K3:=hQQ hk3
    have cw3:=iC ht3 hgM cw
    have hg3:g<w3.heap.size:=Nat.lt_of_lt_of_le hg ht3.size
    have TB3:Hq (Turned (fun k=>k=M∨S k) wb w3):=hQQ ((aw DO.o.turn HM2.o (fun _ q=> .inl (.inr q))).trans (ht3.mono (fun _ _ q=> .inl q)))
    have YW3:Hq (Y w3):=hQQ (HY.o _ _ Y2.o (ht3.mono (fun k _ q=>by subst q;exact hwM)))
    have R3:Hq (PRw wb.heap.size w3 (.slice an K.length cn) K):=hQQ ((DO.o.row.keep HM2.o (fun k hk q=>by have:=HSS.o k q;omega)).keep ht3 (fun k hk e=>by omega))
    have NX:Hq (∀w4 v,PRw wb.heap.size w4 v (K++ [((j:Int),wAt zs j)])→Turned (fun k=>k=M∨S k) wb w4→(∀k ob,w3.heap[k]?=some ob→(Value.slice an K.length cn).ownBlock≠some k→w4.heap[k]?=some ob)→Y w4→OnY w wb w4 S Y M zs sem R (K++ [((j:Int),wAt zs j)]) v):=hQQ fun w4 v h1 h2 h3 h5 =>
     ⟨q1,q2,h1,by rw[List.length_append];exact K3.o.of_block (fun ob ho=>h3 M ob ho (fun e=>by have:=(DO.o.row.lt M e).1;omega)),h2,h5⟩
    clear hrow hcell hk3 ht3 q1 q2 q3 q4 HFJ
    generalize wAt zs j=z at cw hst cw3 NX
    go_wp2_with (at_builtin;refine oU (S:=fun k=>k=M∨S k) (wa:=wb) (ps:=K) (j:Int) z rfl _ _ rfl rfl R3.o TB3.o (by omega) rfl ?_;intro g4 c4 w4 h4 t4 k4 u4;have N4:=hQQ (NX.o _ _ h4 t4 k4 (HY.o _ _ YW3.o (u4.mono (fun k _ q=>Nat.le_trans bW (DO.o.row.lt k q).1))));clear h4 t4 k4 u4)
    go_roundw
    case rel=>exact⟨_,N4.o,by simp[tN]⟩
    case measure=>simp[tN];omega
   ·have hn:=Ar DO.o.okn HS.o (by omega) DO.o.res
    subst hn
    have d1:decide ((zs.length:Int)≤(j:Int))=true:=by simp;omega
    have d3:decide (zs.length≤j)=true:=by simp;omega
    have d2:decide ((j:Int)<0)=false:=by simp
    have FIN:Hq (BK w S Y X none (.returned (.tuple #[.slice none 0 0,.slice none 0 0,.int .i64 3])) w2):=hQQ ⟨rfl,aw (aw (Turned.mono MB.o (fun _ _ q=>q.elim)) DO.o.turn (fun k q=>by rcases q with q|q;exact .inr (by omega);exact .inl q)) HM2.o (fun k q=> .inl q),Y2.o⟩
    clear HFJ hj
    go_wp2_with fail
    go_ret3
    exact FIN.o
  |done D =>
   rw[hs] at he
   obtain⟨v,p,bX,rfl,hr,hm2,hy2,⟨hbX,hx2⟩,_⟩:=he
   have nSa:∀k,eA a' k→¬S k:=fun k q r=>by have:=HSS.o k r;have:=(HL.o k q).1;omega
   obtain⟨ad,cd,rfl,hpd,hbd⟩:=hr.reads
   have hfk:=HFK.o
   rw[hs] at hfk
   have FINI:=hQQ (Go.Proofs.YtfddhogffpkhcaaGreatDoor.u6 zs D a' ad an cap' cd K.length cn w2 (RW.o.keep hm2 nSa) hpd (by have:=hfk.2.2;omega) (by omega) hfk.1 (fun k q r=>by have:=hbd k q;have:=(HL.o k r).2.1;have:=DO.o.turn.size;omega))
   have FIN:Hq (∀e w3,iH w2 zs D a' cap' (.slice an K.length cn) e w3→BK w S Y X R e w3):=hQQ fun e w3 h=>BL DO.o hs MB.o hwM (fun k q=>⟨(HL.o k q).1,(HL.o k q).2.1⟩) HSS.o hm2 h HY.o HX.o hy2 (Nat.le_trans DO.o.turn.size hbX) hx2
   clear hs RUN hr hm2 hpd hbd hfk hy2 hx2
   go_wp2_with fail
   refine FINI.o.mono ?_
   intro e w3 he
   have hfin:=FIN.o e w3 he
   rcases he.2 with⟨_,rfl,_⟩|⟨_,rfl⟩
   ·have F2:=hQQ hfin
    clear hfin he
    go_wp2_with fail
    go_ret3
    exact F2.o
   ·have F2:=hQQ hfin
    clear hfin he
    go_wp2_with fail
    go_ret3
    exact F2.o
def iU (g:Nat)(w:World)(s:TS):Prop:=w.heap[g]?=some (.cells s.arr 38 (0,0))
structure tA (c:Cfg)(g1 g2 bt:Nat)(w:World):Prop where
 h1:w.heap[g1]?=some (.cells c.arr 33 (0,0))
 h2:∃s,iU g2 w s
 sz:gK bt w
theorem BM {c:Cfg}(R:c.Ok){n bt:Nat}(H:PgIn c.pg c.st n)(hw:(n:Int)=c.words)(hn:n≤10000)(F:Nat→Prop)(p g1 g2:Nat)(kn:Int→Option Int)(W:World)(hv:bB W F p kn [])(hk:OkK kn)(hY:tA c g1 g2 bt W)(n1:¬F g1)(n2:¬F g2)(n0:¬F 0)(nb:¬F bt)(hd:g1≠g2∧0≠g2∧bt≠g2)(V:TS)
 (ht:∀x D,pV c kn []=.ok x D→x=V):
 Calls Tryz.prog 28 #[.pointer (some ⟨p,0,none⟩),.pointer (some ⟨g1,0,none⟩),.pointer (some ⟨g2,0,none⟩)] W (mg W F (fun b=>b=g2) (fun w'=>tA c g1 g2 bt w') (fun w'=>iU g2 w' V) p kn (io (pV c kn []))):=by
 obtain⟨Rr,hR⟩:∃Rr,pV c kn []=Rr:=⟨_,rfl⟩
 rw[hR] at ht⊢
 obtain⟨d12,d02,db2⟩:=hd
 obtain⟨x0,h2⟩:=hY.h2
 have L1:=hQQ hY.h1
 have KT:∀wr,Turned (fun b=>F b∨b=g2) W wr→(∃s,iU g2 wr s)→tA c g1 g2 bt wr:=fun wr t a =>
  ⟨(t.block g1 (af hY.h1) (by rintro(q|q);exact n1 q;exact d12 q)).trans hY.h1,a,hY.sz.keep t (by rintro(q|q);exact n0 q;exact d02 q) (by rintro(q|q);exact nb q;exact db2 q)⟩
 have M0:MidV W W F (fun b=>b=g2) p kn n [] F:=MidV.begin hv (fW _)
 have CT:=BI R H hw hn F p kn [] W hv hk (fW _) hY.sz n0 nb
 have G:=rA R H hw
 have NEED:Hq (∀x w2,Rr=.need x→eo w2 p x→Turned (fun b=>F b∨b=g2) W w2→(∃s,iU g2 w2 s)→mg W F (fun b=>b=g2) (fun w'=>tA c g1 g2 bt w') (fun w'=>iU g2 w' V) p kn (io Rr) (.panicked (eB p)) w2):=hQQ fun x w2 e hd' ht' a =>
  AQ (sd e) hd' ht' (KT _ ht' a)
 have DONE:Hq (∀x w2 D F',Rr=.ok x D→MidV W w2 F (fun b=>b=g2) p kn n D F'→iU g2 w2 x0→¬F' g2→mg W F (fun b=>b=g2) (fun w'=>tA c g1 g2 bt w') (fun w'=>iU g2 w' V) p kn (io Rr) (.returned (.tuple #[])) (w2.setRow g2 x.arr)):=hQQ fun x w2 D F' e h b2 nf2=>by
  obtain rfl:=ht x D e
  have hm:=h.setRow (b:=g2) (fun _=>rfl) nf2 x.arr b2
  have e2:iU g2 (w2.setRow g2 x.arr) x:=setRow_heap w2 g2 _ x.arr _ _ b2
  exact AR hm (xR e) (KT _ hm.turn ⟨_,e2⟩) e2
 have HR:=hQQ hR
 clear ht KT hR
 go_enter Tryz.func28,Tryz.ntmps28
 go_wp2_with (refine cL rfl rfl rfl L1.o (by kernel_rfl) ?_)
 refine CT.mono ?_
 intro e w4 he
 rcases M0.step (ac.refl _) hk G he with⟨a',hE,rfl,hd',ht',hk4⟩|⟨x4,D4,F4,hE,rfl,M4,_,hk4,hn4⟩
 ·exact⟨rfl,NEED.o a' w4 (HR.o.symm.trans hE) hd' ht' ⟨_,hk4 _ _ n2 h2⟩⟩
 have b2:iU g2 w4 x0:=hk4 _ _ n2 h2
 have nf2:¬F4 g2:=fun q=>by
  rcases hn4 _ q with r|r
  ·exact n2 r
  ·have:=af h2;omega
 have FIN:=hQQ (DONE.o x4 w4 D4 F4 (HR.o.symm.trans hE) M4 b2 nf2)
 have B2:=hQQ b2
 clear he hE hk4 hn4 M4 b2
 simp only[vTS]
 go_wp2_with (refine wpList_store_row rfl 38 _ _ rfl g2 x4.arr rfl rfl 38 _ B2.o (by kernel_rfl) rfl (dJ _) ?_)
 go_end0
 exact FIN.o
theorem Dd {c:Cfg}(R:c.Ok){bt:Nat}(zs:List Int)(H:PgIn c.pg c.st zs.length)(hw:(zs.length:Int)=c.words)(hn:zs.length≤1000)(ok:OkW zs)(w:World)(g1 g2:Nat)(a:Option Addr)(cap:Nat)(hY:tA c g1 g2 bt w)(hd:g1≠g2∧0≠g2∧bt≠g2)(hz:hO w a zs):
 Calls Tryz.prog 10 #[.slice a zs.length cap,.func (.func 28) #[] #[.pointer (some ⟨g1,0,none⟩),.pointer (some ⟨g2,0,none⟩)]] w (fun e w'=>∃v1 v2,e=.returned (.tuple #[v1,v2,.int .i64 0])∧w'.heap[g1]?=some (.cells c.arr 33 (0,0))∧iU g2 w' (tlV c zs)∧Turned (fun b=>b=g2) w w'):=by
 have l1:=af hY.h1
 have l2:g2<w.heap.size:=by obtain⟨x,h⟩:=hY.h2;exact af h
 have l0:=hY.sz.lt0
 have lb:=hY.sz.lt
 have G:=rA R H hw
 obtain⟨K',hK',_,hans⟩:=Av (zs:=zs) (wP c) G ok (z9 R H hw)
 have M:=Dc a cap zs (fun K=>io (pV c (look K) [])) (some (_,K')) zs.length w hz (by omega) ok (Au G ok (by omega)) (by omega) hK' 28 #[.pointer (some ⟨g1,0,none⟩),.pointer (some ⟨g2,0,none⟩)] (fun k=>k=g2)
  (fun w'=>tA c g1 g2 bt w') (fun b w'=>iU g2 w' (tlV c zs))
  (fun k q=>by subst q;assumption)
  (fun w' w'' y t=>⟨(t.block g1 (af y.h1) (by omega)).trans y.h1,by obtain⟨z,q⟩:=y.h2;exact⟨z,(t.block g2 (af q) (by omega)).trans q⟩,y.sz.keep t (by omega) (by omega)⟩)
  (fun b w' w'' hb x t=>(t.block g2 (af x) (by omega)).trans x) hY (enters_of Tryz.func28 (by kernel_rfl) rfl)
  (fun K hK W F p t y hv hF=>BM R H hw (by omega) F p g1 g2 (look K) W hv (rF hK ok) y (fun q=>by have:=hF _ q;omega) (fun q=>by have:=hF _ q;omega) (fun q=>by have:=hF _ q;omega) (fun q=>by have:=hF _ q;omega) hd _
   (fun x D e=>hans K hK x D e))
 refine M.mono ?_
 rintro e w' ⟨v1,v2,b,rfl,r1,_,t,y,hb,x⟩
 exact⟨v1,v2,rfl,y.h1,x,t⟩
def wR (x y:Int):Int:=if y<x then y else x
def nD (x y:Int):Int:=if x<y then y else x
section
variable {P:Program}{ops:Array Oper}{rest:List Oper}{o:Oper}{a:Act}{w:World}{Q:Exit→Act→World→Prop}
theorem pW (x:Int)(xs:List Int)(ats:Array TypeId)(ty:TypeId)(w:World):(Builtin.min_ ats ty ((x::xs).map (Value.int .i64)).toArray).run P w=.ok (.int .i64 (xs.foldl wR x)) w:=by
 show Sem.run P ((xs.map (Value.int .i64)).foldlM Builtin.min2 (.int .i64 x)) w=_
 induction xs generalizing x with
 |nil=>rfl
 |cons y xs ih =>
  rw[List.map_cons,List.foldlM_cons,Sem.run_bind]
  show Result.andThen _ _=_
  rw[show Sem.run P (Builtin.min2 (.int .i64 x) (.int .i64 y)) w=.ok (.int .i64 (wR x y)) w from rfl]
  exact ih (wR x y)
theorem pX (x:Int)(xs:List Int)(ats:Array TypeId)(ty:TypeId)(w:World):(Builtin.max_ ats ty ((x::xs).map (Value.int .i64)).toArray).run P w=.ok (.int .i64 (xs.foldl nD x)) w:=by
 show Sem.run P ((xs.map (Value.int .i64)).foldlM Builtin.max2 (.int .i64 x)) w=_
 induction xs generalizing x with
 |nil=>rfl
 |cons y xs ih =>
  rw[List.map_cons,List.foldlM_cons,Sem.run_bind]
  show Result.andThen _ _=_
  rw[show Sem.run P (Builtin.max2 (.int .i64 x) (.int .i64 y)) w=.ok (.int .i64 (nD x y)) w from rfl]
  exact ih (nD x y)
end
def bR (s:TS):Int:= [s.ak,s.wo,s.ke,s.op,s.ma,s.us].foldl wR s.bl
def dB (s:TS):Int:= [s.ak,s.wo,s.ke,s.op,s.ma,s.us].foldl nD s.bl
theorem De (x y b:Int):b≤wR x y↔b≤x∧b≤y:=by unfold wR;split<;>omega
theorem tB (x y b:Int):nD x y≤b↔x≤b∧y≤b:=by unfold nD;split<;>omega
theorem fV (s:TS)(b:Int):b≤bR s↔b≤s.bl∧b≤s.ak∧b≤s.wo∧b≤s.ke∧b≤s.op∧b≤s.ma∧b≤s.us:=by
 simp only[bR,List.foldl,De,and_assoc]
theorem gO (s:TS)(b:Int):dB s≤b↔s.bl≤b∧s.ak≤b∧s.wo≤b∧s.ke≤b∧s.op≤b∧s.ma≤b∧s.us≤b:=by
 simp only[dB,List.foldl,tB,and_assoc]
def dC (a:TS):Bool:=decide (0≤bR a) && (decide (nD a.wo a.ke≤35184372088832) && (decide (a.us≤1099511627776) && (decide (nD a.ak a.bl≤a.wo) && (decide (a.us≤a.ma) && (a.op==wrap64 (wrap64 (wrap64 (a.us * 32)-a.wo)-a.ke))))))
def pY (a:TS):Bool:= !decide (bR a<0) && (!decide (a.wo<a.ak) && (!decide (a.wo<a.bl) && (!decide (a.ma<a.us) && (!decide (1099511627776<a.us) && (!decide (35184372088832<a.wo) && (!decide (35184372088832<a.ke) && (a.op==wrap64 (wrap64 (wrap64 (32 * a.us)-a.wo)-a.ke))))))))
theorem Ad (a:TS):dC a=pY a:=by
 rw[Bool.eq_iff_iff]
 simp only[dC,pY,Bool.and_eq_true,decide_eq_true_eq,Bool.not_eq_true',decide_eq_false_iff_not,tB,beq_iff_eq,Int.mul_comm a.us 32]
 constructor
 ·rintro⟨h1,h2,h3,h4,h5,h6⟩;exact⟨by omega,by omega,by omega,by omega,by omega,by omega,by omega,h6⟩
 ·rintro⟨h1,h2,h3,h4,h5,h6,h7,h8⟩;exact⟨by omega,by omega,by omega,by omega,by omega,h8⟩
theorem kt (a:TS)(w:World):Calls Tryz.prog 18 #[.agg a.arr] w (aD w (.bool (dC a))):=by
 obtain⟨L,hL⟩:∃L,bR a=L:=⟨_,rfl⟩
 have rL:∀W,Sem.run Tryz.prog (Builtin.min_ #[3,3,3,3,3,3,3] 3 #[.int .i64 a.bl,.int .i64 a.ak,.int .i64 a.wo,.int .i64 a.ke,.int .i64 a.op,.int .i64 a.ma,.int .i64 a.us]) W=.ok (.int .i64 L) W:=fun W=>hL▸pW a.bl [a.ak,a.wo,a.ke,a.op,a.ma,a.us] _ _ W
 obtain⟨X,hX⟩:∃X,nD a.wo a.ke=X:=⟨_,rfl⟩
 have rX:∀W,Sem.run Tryz.prog (Builtin.max_ #[3,3] 3 #[.int .i64 a.wo,.int .i64 a.ke]) W=.ok (.int .i64 X) W:=fun W=>hX▸pX a.wo [a.ke] _ _ W
 obtain⟨Y,hY⟩:∃Y,nD a.ak a.bl=Y:=⟨_,rfl⟩
 have rY:∀W,Sem.run Tryz.prog (Builtin.max_ #[3,3] 3 #[.int .i64 a.ak,.int .i64 a.bl]) W=.ok (.int .i64 Y) W:=fun W=>hY▸pX a.ak [a.bl] _ _ W
 unfold dC
 rw[hL,hX,hY]
 clear hL hX hY
 obtain⟨w1,e1,h0,m1,s1⟩:=dw w (.cells a.arr 38)
 obtain⟨a0,a1,a2,a3,a4,a5,a6⟩:=fG a h0
 have MM:=hQQ m1
 clear h0 m1 s1
 by_cases h0:0≤L
 ·have d0:decide (0≤L)=true:=decide_eq_true h0
  clear h0
  by_cases h1:X≤35184372088832
  ·have d1:decide (X≤35184372088832)=true:=decide_eq_true h1
   clear h1
   by_cases h2:a.us≤1099511627776
   ·have d2:decide (a.us≤1099511627776)=true:=decide_eq_true h2
    clear h2
    by_cases h3:Y≤a.wo
    ·have d3:decide (Y≤a.wo)=true:=decide_eq_true h3
     clear h3
     by_cases h4:a.us≤a.ma
     ·have d4:decide (a.us≤a.ma)=true:=decide_eq_true h4
      clear h4
      go_enter Tryz.func18,Tryz.ntmps18
      go_wp2_with fail
      go_ret
      exact⟨by simp only[d0,d1,d2,d3,d4,Bool.true_and,Bool.not_true,Bool.not_false,Int.mul_comm 32];rfl,MM.o⟩
     ·have d4:decide (a.us≤a.ma)=false:=decide_eq_false h4
      clear h4
      go_enter Tryz.func18,Tryz.ntmps18
      go_wp2_with fail
      go_ret
      exact⟨by simp only[d4,d0,d1,d2,d3,Bool.true_and,Bool.false_and,Bool.not_true,Bool.not_false];rfl,MM.o⟩
    ·have d3:decide (Y≤a.wo)=false:=decide_eq_false h3
     clear h3
     go_enter Tryz.func18,Tryz.ntmps18
     go_wp2_with fail
     go_ret
     exact⟨by simp only[d3,d0,d1,d2,Bool.true_and,Bool.false_and,Bool.not_true,Bool.not_false];rfl,MM.o⟩
   ·have d2:decide (a.us≤1099511627776)=false:=decide_eq_false h2
    clear h2
    go_enter Tryz.func18,Tryz.ntmps18
    go_wp2_with fail
    go_ret
    exact⟨by simp only[d2,d0,d1,Bool.true_and,Bool.false_and,Bool.not_true,Bool.not_false];rfl,MM.o⟩
  ·have d1:decide (X≤35184372088832)=false:=decide_eq_false h1
   clear h1
   go_enter Tryz.func18,Tryz.ntmps18
   go_wp2_with fail
   go_ret
   exact⟨by simp only[d1,d0,Bool.true_and,Bool.false_and,Bool.not_true,Bool.not_false];rfl,MM.o⟩
 ·have d0:decide (0≤L)=false:=decide_eq_false h0
  clear h0
  go_enter Tryz.func18,Tryz.ntmps18
  go_wp2_with fail
  go_ret
  exact⟨by simp only[d0,Bool.true_and,Bool.false_and,Bool.not_true,Bool.not_false];rfl,MM.o⟩
theorem wS (a:TS)(w:World):Calls Tryz.prog 19 #[.agg a.arr] w (aD w (.bool (pY a))):=by
 obtain⟨L,hL⟩:∃L,bR a=L:=⟨_,rfl⟩
 have rL:∀W,Sem.run Tryz.prog (Builtin.min_ #[3,3,3,3,3,3,3] 3 #[.int .i64 a.bl,.int .i64 a.ak,.int .i64 a.wo,.int .i64 a.ke,.int .i64 a.op,.int .i64 a.ma,.int .i64 a.us]) W=.ok (.int .i64 L) W:=fun W=>hL▸pW a.bl [a.ak,a.wo,a.ke,a.op,a.ma,a.us] _ _ W
 unfold pY
 rw[hL]
 clear hL
 obtain⟨w1,e1,h0,m1,s1⟩:=dw w (.cells a.arr 38)
 obtain⟨a0,a1,a2,a3,a4,a5,a6⟩:=fG a h0
 have MM:=hQQ m1
 clear h0 m1 s1
 by_cases h0:L<0
 ·have d0:decide (L<0)=true:=decide_eq_true h0
  clear h0
  go_enter Tryz.func19,Tryz.ntmps19
  go_wp2_with fail
  go_ret
  exact⟨by simp only[d0,Bool.true_and,Bool.false_and,Bool.not_true,Bool.not_false];rfl,MM.o⟩
 ·have d0:decide (L<0)=false:=decide_eq_false h0
  clear h0
  by_cases h1:a.wo<a.ak
  ·have d1:decide (a.wo<a.ak)=true:=decide_eq_true h1
   clear h1
   go_enter Tryz.func19,Tryz.ntmps19
   go_wp2_with fail
   go_ret
   exact⟨by simp only[d1,d0,Bool.true_and,Bool.false_and,Bool.not_true,Bool.not_false];rfl,MM.o⟩
  ·have d1:decide (a.wo<a.ak)=false:=decide_eq_false h1
   clear h1
   by_cases h2:a.wo<a.bl
   ·have d2:decide (a.wo<a.bl)=true:=decide_eq_true h2
    clear h2
    go_enter Tryz.func19,Tryz.ntmps19
    go_wp2_with fail
    go_ret
    exact⟨by simp only[d2,d0,d1,Bool.true_and,Bool.false_and,Bool.not_true,Bool.not_false];rfl,MM.o⟩
   ·have d2:decide (a.wo<a.bl)=false:=decide_eq_false h2
    clear h2
    by_cases h3:a.ma<a.us
    ·have d3:decide (a.ma<a.us)=true:=decide_eq_true h3
     clear h3
     go_enter Tryz.func19,Tryz.ntmps19
     go_wp2_with fail
     go_ret
     exact⟨by simp only[d3,d0,d1,d2,Bool.true_and,Bool.false_and,Bool.not_true,Bool.not_false];rfl,MM.o⟩
    ·have d3:decide (a.ma<a.us)=false:=decide_eq_false h3
     clear h3
     by_cases h4:1099511627776<a.us
     ·have d4:decide (1099511627776<a.us)=true:=decide_eq_true h4
      clear h4
      go_enter Tryz.func19,Tryz.ntmps19
      go_wp2_with fail
      go_ret
      exact⟨by simp only[d4,d0,d1,d2,d3,Bool.true_and,Bool.false_and,Bool.not_true,Bool.not_false];rfl,MM.o⟩
     ·have d4:decide (1099511627776<a.us)=false:=decide_eq_false h4
      clear h4
      by_cases h5:35184372088832<a.wo
      ·have d5:decide (35184372088832<a.wo)=true:=decide_eq_true h5
       clear h5
       go_enter Tryz.func19,Tryz.ntmps19
       go_wp2_with fail
       go_ret
       exact⟨by simp only[d5,d0,d1,d2,d3,d4,Bool.true_and,Bool.false_and,Bool.not_true,Bool.not_false];rfl,MM.o⟩
      ·have d5:decide (35184372088832<a.wo)=false:=decide_eq_false h5
       clear h5
       by_cases h6:35184372088832<a.ke
       ·have d6:decide (35184372088832<a.ke)=true:=decide_eq_true h6
        clear h6
        go_enter Tryz.func19,Tryz.ntmps19
        go_wp2_with fail
        go_ret
        exact⟨by simp only[d6,d0,d1,d2,d3,d4,d5,Bool.true_and,Bool.false_and,Bool.not_true,Bool.not_false];rfl,MM.o⟩
       ·have d6:decide (35184372088832<a.ke)=false:=decide_eq_false h6
        clear h6
        go_enter Tryz.func19,Tryz.ntmps19
        go_wp2_with fail
        go_ret
        exact⟨by simp only[d0,d1,d2,d3,d4,d5,d6,Bool.true_and,Bool.not_true,Bool.not_false,Int.mul_comm 32];rfl,MM.o⟩
theorem iV (a:TS)(w:World):Calls Tryz.prog 16 #[.agg a.arr] w (aD w (.int .i64 (bR a))):=by
 obtain⟨L,hL⟩:∃L,bR a=L:=⟨_,rfl⟩
 have rL:∀W,Sem.run Tryz.prog (Builtin.min_ #[3,3,3,3,3,3,3] 3 #[.int .i64 a.bl,.int .i64 a.ak,.int .i64 a.wo,.int .i64 a.ke,.int .i64 a.op,.int .i64 a.ma,.int .i64 a.us]) W=.ok (.int .i64 L) W:=fun W=>hL▸pW a.bl [a.ak,a.wo,a.ke,a.op,a.ma,a.us] _ _ W
 rw[hL]
 clear hL
 obtain⟨w1,e1,h0,m1,s1⟩:=dw w (.cells a.arr 38)
 obtain⟨a0,a1,a2,a3,a4,a5,a6⟩:=fG a h0
 have MM:=hQQ m1
 clear h0 m1 s1
 go_enter Tryz.func16,Tryz.ntmps16
 go_wp2_with fail
 go_ret
 exact⟨rfl,MM.o⟩
theorem ku (a:TS)(w:World):Calls Tryz.prog 17 #[.agg a.arr] w (aD w (.int .i64 (dB a))):=by
 obtain⟨L,hL⟩:∃L,dB a=L:=⟨_,rfl⟩
 have rL:∀W,Sem.run Tryz.prog (Builtin.max_ #[3,3,3,3,3,3,3] 3 #[.int .i64 a.bl,.int .i64 a.ak,.int .i64 a.wo,.int .i64 a.ke,.int .i64 a.op,.int .i64 a.ma,.int .i64 a.us]) W=.ok (.int .i64 L) W:=fun W=>hL▸pX a.bl [a.ak,a.wo,a.ke,a.op,a.ma,a.us] _ _ W
 rw[hL]
 clear hL
 obtain⟨w1,e1,h0,m1,s1⟩:=dw w (.cells a.arr 38)
 obtain⟨a0,a1,a2,a3,a4,a5,a6⟩:=fG a h0
 have MM:=hQQ m1
 clear h0 m1 s1
 go_enter Tryz.func17,Tryz.ntmps17
 go_wp2_with fail
 go_ret
 exact⟨rfl,MM.o⟩
def eqT (a b:TS):Bool:=(a.bl==b.bl) && ((a.ak==b.ak) && ((a.wo==b.wo) && ((a.ke==b.ke) && ((a.op==b.op) && ((a.ma==b.ma) && (a.us==b.us))))))
theorem uK (a b:TS)(W:World):(Op.equalIn 10000 38 (.agg a.arr) (.agg b.arr)).run Tryz.prog W=.ok (eqT a b) W:=by
 rw[show(10000:Nat)=9999+1 from rfl,run_equalIn_struct W 9999 _ _ _ (by kernel_rfl) (by kernel_rfl)]
 have hu:Tryz.prog.underlying 3=some (.int .i64):=Tryz.underlying3
 have e:=fun x y=>run_equalIn_int (P:=Tryz.prog) W 9998 3 .i64 .i64 x y hu
 have hf : (Tryz.prog.fieldsOf 38).toList.map (fun f => (f.name == "_", f.type, f.offset)) = [(false, 3, 0), (false, 3, 1), (false, 3, 2), (false, 3, 3), (false, 3, 4), (false, 3, 5), (false, 3, 6)] := by kernel_rfl
 have p:∀(xs:Array Value) (k:Nat) (v:Value),xs[k]?=some v→(part 3 xs k).run Tryz.prog W=.ok v W:=fun xs k v h=>run_part_plain W (by kernel_rfl) h
 have key : ∀ (f : Field) (fs : List Field) (k : Nat) (x y : Int), (f.name == "_", f.type, f.offset) = (false, 3, k) → a.arr[k]? = some (.int .i64 x) → b.arr[k]? = some (.int .i64 y) → ∀ r, (Op.eqFields 9999 a.arr b.arr fs).run Tryz.prog W = .ok r W → (Op.eqFields 9999 a.arr b.arr (f :: fs)).run Tryz.prog W = .ok ((x == y) && r) W := by
  intro f fs k x y hk hx hy r hr
  simp only[Prod.mk.injEq] at hk
  obtain⟨h1,h2,h3⟩:=hk
  have h1' : f.name ≠ "_" := by simpa using h1
  rw[Op.eqFields,if_pos h1',h2,h3]
  simp only[Sem.run_bind,p _ _ _ hx,p _ _ _ hy,Result.andThen_ok,e]
  cases x==y
  ·simp
  ·simpa using hr
 generalize (Tryz.prog.fieldsOf 38).toList=fs at hf⊢
 have hl:=congrArg List.length hf
 simp only[List.length_map,List.length_cons,List.length_nil] at hl
 obtain⟨f0,f1,f2,f3,f4,f5,f6,rfl⟩:∃f0 f1 f2 f3 f4 f5 f6,fs= [f0,f1,f2,f3,f4,f5,f6]:=by
  rcases fs with _|⟨f0,_|⟨f1,_|⟨f2,_|⟨f3,_|⟨f4,_|⟨f5,_|⟨f6,_|⟨f7,fs⟩⟩⟩⟩⟩⟩⟩⟩<;>simp at hl
  exact⟨_,_,_,_,_,_,_,rfl⟩
 simp only[List.map_cons,List.map_nil,List.cons.injEq,and_true] at hf
 obtain⟨h0,h1,h2,h3,h4,h5,h6⟩:=hf
 unfold eqT
 refine key f0 _ 0 _ _ h0 rfl rfl _ ?_
 refine key f1 _ 1 _ _ h1 rfl rfl _ ?_
 refine key f2 _ 2 _ _ h2 rfl rfl _ ?_
 refine key f3 _ 3 _ _ h3 rfl rfl _ ?_
 refine key f4 _ 4 _ _ h4 rfl rfl _ ?_
 refine key f5 _ 5 _ _ h5 rfl rfl _ ?_
 rw[key f6 [] 6 a.us b.us h6 rfl rfl true rfl,Bool.and_true]
theorem tC {ops:Array Oper}{rest:List Oper}{o:Oper}{a:Act}{w:World}{Q:Exit→Act→World→Prop}(x y:Operand)(ho:o.op=.binOp .eql 38 x y 38)(hw:Region.wanted o (yielded ops a.tmps)=true)(s t:TS)(hx:a.eval x=.agg s.arr)(hy:a.eval y=.agg t.arr)(r:Bool)(hr:eqT s t=r)
 (h:wpList Tryz.prog ops Q rest (a.put o.dst (.bool r)) w):wpList Tryz.prog ops Q (o::rest) a w :=
 dM hw fun K hK=>by
  subst hr
  have hg:Sem.run Tryz.prog (eqGuard .eql 38 x y (.agg s.arr) (.agg t.arr)) w=.ok () w:=run_eqGuard_agg w .eql 38 x y s.arr t.arr (by kernel_rfl)
  have hb:Sem.run Tryz.prog (binOp .eql 38 (.agg s.arr) (.agg t.arr)) w=.ok (.bool (eqT s t)) w:=by
   rw[run_eql_struct,uK]
   rfl
  unfold Oper.wp execOp
  simp only[ho,hx,hy,Sem.run_bind,hg,hb,Result.andThen_ok]
  exact hK _ _ h
def fl (n:Int):Int:=if n≤1 then 0 else if n≤2 then 1 else if n≤4 then 2 else if n≤8 then 3 else if n≤16 then 4 else -1
def kZ (n:Int):Int:=if n<1 then 0 else(n-1) / 32+1
def k7 (a:Int):Bool:=a==1 ||a==2 ||a==4 ||a==8 ||a==16 ||a==32 ||a==64 ||a==128
theorem wT {k:Nat}{n:Int}(h:k≤4)(h1:n≤szV k)(h0:∀j:Nat,j<k→szV j<n):fl n=k:=by
 rcases kL h with rfl|rfl|rfl|rfl|rfl
 ·have:n≤1:=h1
  unfold fl;rw[if_pos (by omega)];rfl
 ·have a:n≤2:=h1
  have b:(1:Int)<n:=h0 0 (by omega)
  unfold fl;rw[if_neg (by omega),if_pos (by omega)];rfl
 ·have a:n≤4:=h1
  have b:(2:Int)<n:=h0 1 (by omega)
  unfold fl;rw[if_neg (by omega),if_neg (by omega),if_pos (by omega)];rfl
 ·have a:n≤8:=h1
  have b:(4:Int)<n:=h0 2 (by omega)
  unfold fl;rw[if_neg (by omega),if_neg (by omega),if_neg (by omega),if_pos (by omega)];rfl
 ·have a:n≤16:=h1
  have b:(8:Int)<n:=h0 3 (by omega)
  unfold fl;rw[if_neg (by omega),if_neg (by omega),if_neg (by omega),if_neg (by omega),if_pos (by omega)];rfl
theorem Ae {n:Int}(h:∀j:Nat,j<5→szV j<n):fl n= -1:=by
 have b:(16:Int)<n:=h 4 (by omega)
 unfold fl;rw[if_neg (by omega),if_neg (by omega),if_neg (by omega),if_neg (by omega),if_neg (by omega)]
theorem DY (n:Int): -1≤fl n∧fl n≤4:=by
 unfold fl; (repeat' split)<;>omega
theorem BN {k:Nat}(h:k<8):szT k * 2=szT (k+1)∧1≤szT k∧szT k≤128:=by
 rcases sN h with rfl|rfl|rfl|rfl|rfl|rfl|rfl|rfl<;>decide
theorem Af {k:Nat}{a:Int}(h:k<8)(e:szT k=a):k7 a=true:=by
 subst e
 rcases sN h with rfl|rfl|rfl|rfl|rfl|rfl|rfl|rfl<;>decide
theorem BO {a:Int}(h:∀k:Nat,k<8→szT k≠a):k7 a=false:=by
 have h0:=h 0 (by omega);have h1:=h 1 (by omega);have h2:=h 2 (by omega);have h3:=h 3 (by omega)
 have h4:=h 4 (by omega);have h5:=h 5 (by omega);have h6:=h 6 (by omega);have h7:=h 7 (by omega)
 simp only[szT] at h0 h1 h2 h3 h4 h5 h6 h7
 simp[k7];omega
def mx (x y:Int):Int:=if x<y then y else x
def ji (n a:Int):Bool:=decide (n<0) || !k7 a
def eU (n a:Int):Bool:=decide (n≤16) && decide (a≤16)
def eW (n a:Int):Int:=if ji n a then 0 else if eU n a then mx (fl n) (fl a) else -1
def gP (n a:Int):Int:=if ji n a then 0 else if eU n a then 0 else kZ (mx n 1)
def k8 (n a:Int):Int:=if ji n a then 0 else if eU n a then 0 else mx 1 (a / 32)
def lG (n a:Int):Int:=if ji n a then 2 else 0
def nE (n a:Int):Value:= .tuple #[.int .i64 (eW n a),.int .i64 (gP n a),.int .i64 (k8 n a),.int .i64 (lG n a)]
def pZ (n a:Int):Int:=if ji n a then 0 else if eU n a then szV (eW n a) else IntKind.i64.wrap (gP n a * 32)
theorem tD {a:Int}(h:k7 a=true):1≤a∧a≤128:=by
 simp[k7] at h;omega
theorem wU {n a:Int}(hb:ji n a=false)(h:eU n a=true):0≤eW n a∧gP n a=0:=by
 refine⟨?_,by simp[gP,hb,h]⟩
 simp only[eW,hb,h]
 have:=(show n≤16 by simp[eU] at h;omega)
 have e:fl n≠ -1:=by unfold fl; (repeat' split)<;>omega
 have e2:=(DY n).1
 show 0≤mx (fl n) (fl a)
 unfold mx;split<;>omega
theorem BP {n a:Int}(hb:ji n a=false)(h:eU n a=false):eW n a= -1:=by simp[eW,hb,h]
theorem DZ:∀i:Nat,i<5→∀j:Nat,j<5→szV (mx (i:Int) (j:Int)) % szV (j:Int)=0∧szV (i:Int)≤szV (mx (i:Int) (j:Int)):=by decide
theorem Df {n:Int}(h:n≤16):∃i:Nat,i<5∧fl n=(i:Int)∧n≤szV (i:Int):=by
 unfold fl
 by_cases h1:n≤1
 ·exact⟨0,by omega,by rw[if_pos h1];rfl,h1⟩
 by_cases h2:n≤2
 ·exact⟨1,by omega,by rw[if_neg h1,if_pos h2];rfl,h2⟩
 by_cases h3:n≤4
 ·exact⟨2,by omega,by rw[if_neg h1,if_neg h2,if_pos h3];rfl,h3⟩
 by_cases h4:n≤8
 ·exact⟨3,by omega,by rw[if_neg h1,if_neg h2,if_neg h3,if_pos h4];rfl,h4⟩
 ·exact⟨4,by omega,by rw[if_neg h1,if_neg h2,if_neg h3,if_neg h4,if_pos h];rfl,h⟩
theorem BS {a:Int}(hp:k7 a=true)(h:a≤16):∃j:Nat,j<5∧fl a=(j:Int)∧szV (j:Int)=a:=by
 simp[k7] at hp
 have:a=1∨a=2∨a=4∨a=8∨a=16:=by omega
 rcases this with rfl|rfl|rfl|rfl|rfl
 ·exact⟨0,by omega,rfl,rfl⟩
 ·exact⟨1,by omega,rfl,rfl⟩
 ·exact⟨2,by omega,rfl,rfl⟩
 ·exact⟨3,by omega,rfl,rfl⟩
 ·exact⟨4,by omega,rfl,rfl⟩
theorem wV {n a:Int}(hb:ji n a=false)(h:eU n a=true):0≤eW n a∧eW n a≤4∧gP n a=0∧pZ n a=szV (eW n a)∧n≤szV (eW n a)∧szV (eW n a) % a=0∧1≤a∧lG n a=0:=by
 obtain⟨h0,h1⟩:=wU hb h
 have hp:k7 a=true:=by simp[ji] at hb;exact hb.2
 have hs:n≤16∧a≤16:=by simpa [eU] using h
 have e:eW n a=mx (fl n) (fl a):=by simp[eW,hb,h]
 obtain⟨i,hi,e1,h2⟩:=Df hs.1
 obtain⟨j,hj,e2,h3⟩:=BS hp hs.2
 obtain⟨m1,m2⟩:=DZ i hi j hj
 rw[e1,e2] at e
 have hmx:mx (i:Int) (j:Int)≤4:=by unfold mx;split<;>omega
 refine⟨h0,by omega,h1,by simp[pZ,hb,h],by rw[e];omega,by rw[e,←h3];exact m1,(tD hp).1,by simp[lG,hb]⟩
theorem BT {n a:Int}(hb:ji n a=false)(h:eU n a=false):eW n a= -1∧1≤gP n a∧n≤32 * gP n a∧1≤k8 n a∧(32 * k8 n a) % a=0∧1≤a∧pZ n a=IntKind.i64.wrap (gP n a * 32)∧lG n a=0:=by
 have hp:k7 a=true:=by simp[ji] at hb;exact hb.2
 have e1:gP n a=kZ (mx n 1):=by simp[gP,hb,h]
 have e2:k8 n a=mx 1 (a / 32):=by simp[k8,hb,h]
 have hpb:=tD hp
 have m1:1≤mx n 1∧n≤mx n 1:=by unfold mx;split<;>omega
 refine⟨BP hb h,?_,?_,?_,?_,hpb.1,by simp[pZ,hb,h],by simp[lG,hb]⟩
 ·rw[e1];unfold kZ;split<;>omega
 ·rw[e1];unfold kZ;split<;>omega
 ·rw[e2];unfold mx;split<;>omega
 ·rw[e2]
  simp[k7] at hp
  rcases hp with((((((rfl|rfl)|rfl)|rfl)|rfl)|rfl)|rfl)|rfl<;>decide
variable (w:World)
theorem D5 (n:Int):Calls Tryz.prog 96 #[.int .i64 n] w fun e w'=>e=.returned (.int .i64 (fl n))∧w'=w:=by
 go_enter Tryz.func96,Tryz.ntmps96
 go_wp2_with fail
 go_loop [3] (fun i=>∃k:Nat,k≤5∧i=.int .i64 k∧∀j:Nat,j<k→szV j<n) (fun i=>5-(intOf i).toNat)
 case atStart=>exact⟨0,Nat.zero_le _,rfl,fun j h=>absurd h (by omega)⟩
 case round =>
  obtain⟨k,hk,rfl,hj⟩:=hrel
  by_cases hlt:k<5
  ·have d0:decide ((k:Int)<5)=true:=by simp;omega
   have Hj:=hQQ hj
   clear hj
   go_wp2_with fail
   refine(th _ k).mono ?_
   rintro e w1 ⟨rfl,rfl⟩
   by_cases hs:n≤szV k
   ·have d1:decide (n≤szV k)=true:=by simpa using hs
    have HX:=hQQ (wT (by omega) hs Hj.o)
    go_wp2_with fail
    go_ret
    exact⟨by rw[HX.o];rfl,rfl⟩
   ·have d1:decide (n≤szV k)=false:=by simpa using hs
    go_wp2_with fail
    go_round
    case rel=>exact⟨k+1,by omega,by go_num,fun j h=>by
     by_cases q:j=k
     ·subst q;omega
     ·exact Hj.o j (by omega)⟩
    case measure=>simp[intOf];omega
  ·have he:k=5:=by omega
   subst he
   have HX:=hQQ (Ae hj)
   clear hj
   have d0:decide (((5:Nat):Int)<5)=false:=by simp
   go_wp2_with fail
   go_ret
   exact⟨by rw[HX.o];rfl,rfl⟩
theorem p3 (n:Int)(h:n≤9223372036854775807):Calls Tryz.prog 97 #[.int .i64 n] w fun e w'=>e=.returned (.int .i64 (kZ n))∧w'=w:=by
 by_cases c0:n<1
 ·have d0:decide (n<1)=true:=by simp;omega
  rw[show kZ n=0 from if_pos c0]
  go_enter Tryz.func97,Tryz.ntmps97
  go_wp2_with fail
  go_ret
  exact⟨rfl,rfl⟩
 ·have d0:decide (n<1)=false:=by simp;omega
  rw[show kZ n=(n-1) / 32+1 from if_neg c0]
  have q0:IntKind.i64.wrap (n-1)=n-1:=aj (by omega) (by omega)
  have q1:IntKind.i64.wrap ((n-1).tdiv 32)=(n-1) / 32:=by rw[Int.tdiv_eq_ediv_of_nonneg (by omega)];exact aj (by omega) (by omega)
  have q2:IntKind.i64.wrap ((n-1) / 32+1)=(n-1) / 32+1:=aj (by omega) (by omega)
  go_enter Tryz.func97,Tryz.ntmps97
  go_wp2_with fail
  go_ret
  exact⟨rfl,rfl⟩
theorem uL (a:Int):Calls Tryz.prog 95 #[.int .i64 a] w fun e w'=>e=.returned (.bool (k7 a))∧w'=w:=by
 go_enter Tryz.func95,Tryz.ntmps95
 go_wp2_with fail
 go_loop [3] (fun i=>∃k:Nat,k≤8∧i=.int .i64 (szT k)∧∀j:Nat,j<k→szT j≠a) (fun i=>512-(intOf i).toNat)
 case atStart=>exact⟨0,Nat.zero_le _,rfl,fun j h=>absurd h (by omega)⟩
 case round =>
  obtain⟨k,hk,rfl,hj⟩:=hrel
  by_cases hlt:k<8
  ·obtain⟨a1,a2,a3⟩:=BN hlt
   have d0:decide (szT k≤128)=true:=by simpa using a3
   have Hj:=hQQ hj
   clear hj
   by_cases hs:szT k=a
   ·have d1:decide (szT k=a)=true:=by simpa using hs
    have HX:=hQQ (Af hlt hs)
    clear hs
    have d2:(szT k==a)=true:=by simpa using d1
    go_wp2_with fail
    go_ret
    exact⟨by rw[HX.o];rfl,rfl⟩
   ·have d1:decide (szT k=a)=false:=by simpa using hs
    have hb:szT (k+1)≤256:=by omega
    have q0:IntKind.i64.wrap (szT k * 2)=szT (k+1):=by rw[a1];exact aj (by omega) (by omega)
    have Ha:=hQQ a1
    clear a1
    go_wp2_with fail
    go_round
    case rel=>exact⟨k+1,by omega,rfl,fun j h=>by
     by_cases q:j=k
     ·subst q;exact hs
     ·exact Hj.o j (by omega)⟩
    case measure=>have:=Ha.o;simp[intOf];omega
  ·have he:k=8:=by omega
   subst he
   have HX:=hQQ (BO hj)
   clear hj
   have d0:decide (szT 8≤128)=false:=by decide
   go_wp2_with fail
   go_ret
   exact⟨by rw[HX.o];rfl,rfl⟩
theorem D6 (n a:Int)(h:n≤9223372036854775807):Calls Tryz.prog 58 #[.int .i64 n,.int .i64 a] w fun e w'=>e=.returned (nE n a)∧w'=w:=by
 by_cases c0:n<0
 ·have d0:decide (n<0)=true:=by simp;omega
  rw[show nE n a=.tuple #[.int .i64 0,.int .i64 0,.int .i64 0,.int .i64 2] by simp[nE,eW,gP,k8,lG,ji,c0]]
  go_enter Tryz.func58,Tryz.ntmps58
  go_wp2_with fail
  refine bodyPost_ret (v:=.tuple #[.int .i64 0,.int .i64 0,.int .i64 0,.int .i64 2]) (by simp[results,Tryz.results58,go_sem]) rfl ⟨rfl,rfl⟩
 ·have d0:decide (n<0)=false:=by simp;omega
  cases hp:k7 a with
  |false =>
   rw[show nE n a=.tuple #[.int .i64 0,.int .i64 0,.int .i64 0,.int .i64 2] by simp[nE,eW,gP,k8,lG,ji,hp]]
   have HP:=hQQ (fun W=>uL W a)
   rw[hp] at HP
   go_enter Tryz.func58,Tryz.ntmps58
   go_wp2_with fail
   refine(HP.o _).mono ?_
   rintro e w1 ⟨rfl,rfl⟩
   go_wp2_with fail
   refine bodyPost_ret (v:=.tuple #[.int .i64 0,.int .i64 0,.int .i64 0,.int .i64 2]) (by simp[results,Tryz.results58,go_sem]) rfl ⟨rfl,rfl⟩
  |true =>
   have HP:=hQQ (fun W=>uL W a)
   rw[hp] at HP
   have hb:ji n a=false:=by simp[ji,hp];omega
   by_cases c1:n≤16∧a≤16
   ·have d1:decide (n≤16)=true:=by simp;omega
    have d2:decide (a≤16)=true:=by simp;omega
    rw[show nE n a=.tuple #[.int .i64 (mx (fl n) (fl a)),.int .i64 0,.int .i64 0,.int .i64 0] by simp[nE,eW,gP,k8,lG,hb,eU,d1,d2]]
    go_enter Tryz.func58,Tryz.ntmps58
    go_wp2_with fail
    refine(HP.o _).mono ?_
    rintro e w1 ⟨rfl,rfl⟩
    go_wp2_with fail
    refine(D5 _ n).mono ?_
    rintro e w1 ⟨rfl,rfl⟩
    go_wp2_with fail
    refine(D5 _ a).mono ?_
    rintro e w1 ⟨rfl,rfl⟩
    go_wp2_with fail
    all_goals refine bodyPost_ret (v:=.tuple #[.int .i64 (mx (fl n) (fl a)),.int .i64 0,.int .i64 0,.int .i64 0]) (by simp[results,Tryz.results58,go_sem,mx];omega) rfl ⟨rfl,rfl⟩
   ·have d12:eU n a=false:=by simp[eU];omega
    have pb:=tD hp
    have q0:IntKind.i64.wrap (a.tdiv 32)=a / 32:=by rw[Int.tdiv_eq_ediv_of_nonneg (by omega)];exact aj (by omega) (by omega)
    rw[show nE n a=.tuple #[.int .i64 (-1),.int .i64 (kZ (mx n 1)),.int .i64 (mx 1 (a / 32)),.int .i64 0] by simp[nE,eW,gP,k8,lG,hb,d12]]
    have HG:Hq (∀W,Calls Tryz.prog 97 #[.int .i64 n] W fun e w'=>e=.returned (.int .i64 (kZ n))∧w'=W):=fun W=>p3 W n h
    have HG1:Hq (∀W,Calls Tryz.prog 97 #[.int .i64 1] W fun e w'=>e=.returned (.int .i64 (kZ 1))∧w'=W):=fun W=>p3 W 1 (by omega)
    have HGM:Hq (∀W,Calls Tryz.prog 97 #[.int .i64 (max n 1)] W fun e w'=>e=.returned (.int .i64 (kZ (mx n 1)))∧w'=W):=fun W=>by rw[show max n 1=mx n 1 by unfold mx;split<;>omega];exact p3 W _ (by unfold mx;split<;>omega)
    by_cases c2:n≤16
    ·have d1:decide (n≤16)=true:=by simpa using c2
     have d2:decide (a≤16)=false:=by simp;omega
     clear c1
     go_enter Tryz.func58,Tryz.ntmps58
     go_wp2_with fail
     refine(HP.o _).mono ?_
     rintro e w1 ⟨rfl,rfl⟩
     go_wp2_with fail
     all_goals first|(with_reducible refine Calls.mono (HG.o _) ?_;rintro e w1 ⟨rfl,rfl⟩)|(with_reducible refine Calls.mono (HG1.o _) ?_;rintro e w1 ⟨rfl,rfl⟩)|(with_reducible refine Calls.mono (HGM.o _) ?_;rintro e w1 ⟨rfl,rfl⟩)
     all_goals go_wp2_with fail
     all_goals refine bodyPost_ret (v:=.tuple #[.int .i64 (-1),.int .i64 (kZ (mx n 1)),.int .i64 (mx 1 (a / 32)),.int .i64 0]) (by simp[results,Tryz.results58,go_sem];unfold mx; (repeat' split)<;>first|(exfalso;omega)|simp|omega) rfl ⟨rfl,rfl⟩
    ·have d1:decide (n≤16)=false:=by simpa using c2
     clear c1
     go_enter Tryz.func58,Tryz.ntmps58
     go_wp2_with fail
     refine(HP.o _).mono ?_
     rintro e w1 ⟨rfl,rfl⟩
     go_wp2_with fail
     all_goals first|(with_reducible refine Calls.mono (HG.o _) ?_;rintro e w1 ⟨rfl,rfl⟩)|(with_reducible refine Calls.mono (HG1.o _) ?_;rintro e w1 ⟨rfl,rfl⟩)|(with_reducible refine Calls.mono (HGM.o _) ?_;rintro e w1 ⟨rfl,rfl⟩)
     all_goals go_wp2_with fail
     all_goals refine bodyPost_ret (v:=.tuple #[.int .i64 (-1),.int .i64 (kZ (mx n 1)),.int .i64 (mx 1 (a / 32)),.int .i64 0]) (by simp[results,Tryz.results58,go_sem];unfold mx; (repeat' split)<;>first|(exfalso;omega)|simp|omega) rfl ⟨rfl,rfl⟩
theorem kv {P:Program}{fn:Func}{p u u' u'':Tmp}{ty:TypeId}(h:fn.results= #[.tmp u,.tmp u',.cell p ty,.tmp u''])(tmps:Array Value)(w:World)(g:Nat)(t:TypeId)(cs:Array Value)(fr:Nat×Nat)(d:TypeDesc)
 (hp:tmps.getD p undef=.pointer (some ⟨g,0,none⟩)) (hg:w.heap[g]?=some (.cells cs t fr))
 (hu:P.underlying ty=some d) (hd:(match d with| .struct _| .array _ _=>true|_=>false)=true) (hi:(P.info? ty).map (·.size)=some cs.size):
 (results fn tmps).run P w=.ok (.tuple #[tmps.getD u undef,tmps.getD u' undef,.agg cs,tmps.getD u'' undef]) w:=by
 have hp':tmps[p]?.getD undef=.pointer (some ⟨g,0,none⟩):=by simpa using hp
 have hl:=run_loadVar_row w g t ty cs fr d hg hu hd hi
 simp[results,h,hp',asAddr,hl]
theorem Ag {w:World}{g r:Nat}{cs new:Array Value}{T:TypeId}{fr:Nat×Nat}(h:w.heap[g]?=some (.cells cs T fr))(ne:g≠r):(w.setRow r new).heap[g]?=some (.cells cs T fr):=
 ((Turned.setRow (S:=fun k=>k=r) (Turned.refl _ w) r new (fun _=>rfl)).block g (af h) ne).trans h
abbrev AlT:=(((Int×Int)×(Nat→List Int))×Int)×List Int
def AlR (w:World)(g cap len:Nat)(res:AlT)(e:Ending)(w':World):Prop :=
 ∃v' its',e=.returned (.tuple #[.int .i64 res.1.1.1.1,.int .i64 res.1.1.1.2,.agg #[v'],.int .i64 res.1.2])∧IR 0 w' v' its'∧Eqv res.1.1.2 its'∧its'.length≤len+8∧Ws w' g cap res.2∧Turned (fun b=>b=g) w w'
def alW (c:Cfg)(u:Int)(P:Nat→List Int)(n al:Int)(ws:List Int):AlT :=
 if lG n al≠0 then((((0,0),P),lG n al),ws)
 else if 0≤eW n al then
  if(tkW c u P (eW n al) ws).1.1.2 then(((((tkW c u P (eW n al) ws).1.1.1,szV (eW n al)),(tkW c u P (eW n al) ws).1.2),0),(tkW c u P (eW n al) ws).2)
  else((((0,0),P),6),(tkW c u P (eW n al) ws).2)
 else if dm c.pg c.st (gP n al) (k8 n al) ws<0 then((((0,0),P),6),ws)
 else((((c.us+32 * dm c.pg c.st (gP n al) (k8 n al) ws,32 * gP n al),P),0),(dF c.pg c.st (dm c.pg c.st (gP n al) (k8 n al) ws) (gP n al) 6 ws).2)
theorem Dg (n al:Int):eW n al≤4:=by
 cases hb:ji n al with
 |true=>simp[eW,hb]
 |false =>
  cases h:eU n al with
  |true=>exact(wV hb h).2.1
  |false=>have:=(BT hb h).1;omega
theorem wW {c:Cfg}(R:c.Ok)(ws:List Int)(H:dh c.pg c.st ws.length)(hl:ws.length≤1000)(hww:(ws.length:Int)=c.words){r:Gh}{C:Nat→List Int}{O:List (Int×Int)}{u:Nat}{P:Nat→List Int}(hP:∀j,j<5→((P j).length:Int)≤c.pr)(F:FrI c.us c.pg c.st ws.length (bV c) r ws C (puO P++O))(g cap:Nat)(hu:(u:Int)<c.cp)(n al:Int)(hn:n≤9223372036854775807)(v:Value)(its:List It)(he:Eqv P its)(hlen:its.length≤10000)(w:World)(hv:IR 0 w v its)(hw:Ws w g cap ws):
 Calls Tryz.prog 26 #[.agg c.cells,.slice (some ⟨g,0,none⟩) ws.length cap,.int .i64 (u:Int),.agg #[v],.int .i64 n,.int .i64 al] w (AlR w g cap its.length (alW c u P n al ws)):=by
 obtain⟨res,hres⟩:∃res,alW c (u:Int) P n al ws=res:=⟨_,rfl⟩
 rw[hres]
 unfold alW at hres
 have FT:=hQQ (fun W=>D6 W n al hn)
 have h4:=Dg n al
 unfold nE at FT
 generalize eW n al=fc at hres FT h4
 generalize gP n al=fp at hres FT
 generalize k8 n al=fs at hres FT
 generalize lG n al=fe at hres FT
 obtain⟨av,cv,rfl,_,_,_⟩:=hv.at
 obtain⟨n0,hn0⟩:∃n0,its.length=n0:=⟨_,rfl⟩
 have TK:=hQQ (fun(k:Nat) (hk:k<5) W (hV:IR 0 W (.slice av its.length cv) its) (hW:Ws W g cap ws)=>zS R ws H hl hww hP F g cap hu hk _ its he hlen W hV hW)
 rw[hn0] at hlen hv TK⊢
 obtain⟨w3,e3,hb1,hb2,hb3,m3,s3⟩:=kE w (.cells c.cells 27) (.cells #[.slice av n0 cv] 62) (.cells #[.slice none 0 0] 62)
 have MM:=hQQ m3
 have B1W:=hQQ hb1
 have B2:=hQQ hb2
 have B3:=hQQ hb3
 have HG:=hQQ hw.lt
 have HN0:=hQQ hn0
 have IR0:=hQQ (hv.more m3)
 have X0:=hQQ (hw.more m3)
 have HE:=hQQ he
 have HR:=hQQ R
 have FD:=hQQ (fun W (hW:Ws W g cap ws)=>ux R ws H.toPgIn hl g cap fp fs W hW)
 have TA:=hQQ (fun p (hp:W64 p) W (hW:Ws W g cap ws)=>uy R ws H.toPgIn hl g cap p fp 6 hp W hW)
 have FR:=hQQ (fun p (h:dm c.pg c.st fp fs ws=p) (hp:p≠ -1)=>zK (pg:=c.pg) (st:=c.st) (m:=fp) (step:=fs) (ws:=ws) (by have:=R.pg1;omega) h hp)
 have TX:=hQQ (Turned.refl (fun b=>b=g) w3)
 have XX:=hQQ X0.o
 have y2:w3.cell? ⟨w.heap.size+1,0,none⟩=some (.slice av n0 cv):=by simp[World.cell?,hb2]
 have pg1:=R.pg1
 have pg2:=R.pg2
 have hus:0≤c.us∧c.us≤1000000:=by
  have hb:=gG R
  have e2:c.us=cT c.cp c.pg c.st c.ca c.bi:=rfl
  omega
 clear hb1 hb2 hb3 m3 s3 hn0 hv hw he F R
 go_enter Tryz.func26,Tryz.ntmps26
 go_wp2_with fail
 clear e3
 refine(FT.o _).mono ?_
 rintro e w4 ⟨rfl,hw4⟩
 rw[hw4]
 clear hw4 w4
 by_cases hfe:fe=0
 ·rw[if_neg (by simp[hfe])] at hres
  have d1:(fe==0)=true:=by simp[hfe]
  by_cases hfc:0≤fc
  ·rw[if_pos hfc] at hres
   have d2:decide (0≤fc)=true:=by simp[hfc]
   obtain⟨k,hk⟩:∃k:Nat,fc=(k:Int):=⟨fc.toNat,by omega⟩
   subst hk
   have hk5:k<5:=by omega
   have TK:=hQQ (TK.o k hk5)
   obtain⟨tk,htk⟩:∃tk,tkW c (u:Int) P (k:Int) ws=tk:=⟨_,rfl⟩
   rw[htk] at hres TK
   go_wp2_with (first|(refine aH rfl rfl rfl B1W.o (by kernel_rfl) ?_)|(refine aH rfl rfl rfl B1W.o (by kernel_rfl) ?_))
   refine(TK.o _ IR0.o X0.o).mono ?_
   rintro e w5 ⟨v5,its5,rfl,hr5,he5,hl5,hx5,ht5⟩
   obtain⟨a5,c5,rfl,_,_,_⟩:=hr5.at
   obtain⟨n5,hn5⟩:∃n5,its5.length=n5:=⟨_,rfl⟩
   rw[hn5] at hr5 hl5⊢
   obtain⟨w6,e6,hb6,m6,s6⟩:=dw w5 (.cells #[.slice none 0 0] 62)
   obtain⟨w7,e7⟩:∃w7,w6.setRow w5.heap.size #[.slice a5 n5 c5]=w7:=⟨_,rfl⟩
   have m7:ac w5 w7:=by rw[←e7];exact m6.setRow _ _ (Nat.le_refl _)
   have B7:Hq (w7.heap[w5.heap.size]?=some (.cells #[.slice a5 n5 c5] 62 (0,0))):=hQQ (by rw[←e7];exact setRow_heap _ _ _ _ _ _ hb6)
   have B6:=hQQ hb6
   have R5:=hQQ (hr5.more m7)
   have TX:=hQQ (Turned.trans ht5 (turned_more m7))
   have XX:=hQQ (hx5.more m7)
   have E5:=hQQ he5
   have L5:=hQQ hl5
   have HN5:=hQQ hn5
   clear m7 hr5 ht5 hx5 he5 hl5 hn5 m6 s6 hb6 y2
   obtain⟨bt,hbt⟩:∃bt,tk.1.1.2=bt:=⟨_,rfl⟩
   rw[hbt] at hres⊢
   cases bt with
   |true =>
    rw[if_pos rfl] at hres
    have er:=hres.symm
    have FIN:Hq (∀W,ac w7 W→AlR w g cap n0 res (.returned (.tuple #[.int .i64 tk.1.1.1,.int .i64 (szV (k:Int)),.agg #[.slice a5 n5 c5],.int .i64 0])) (W.setRow (w.heap.size+1+1) #[.slice a5 n5 c5])):=hQQ fun W hW=>by
     rw[er]
     have hT:Turned (fun b=>b=g) w3 W:=Turned.trans TX.o (turned_more hW)
     have hb:=(hT.block _ (af B3.o) (fun q=>by have:=HG.o;omega)).trans B3.o
     have t:Turned (fun b=>b=w.heap.size+1+1) W (W.setRow (w.heap.size+1+1) #[.slice a5 n5 c5]):=Turned.setRow (Turned.refl _ W) _ _ (fun _=>rfl)
     refine⟨_,its5,rfl,(R5.o.more hW).keep t (fun k q=>by subst q;exact⟨_,_,_,hb,by decide⟩),E5.o,by have:=L5.o;have:=HN5.o;omega,(XX.o.more hW).keep t (by have:=HG.o;omega),?_⟩
     exact aw (F':=fun b=>b=g∨b=w.heap.size+1+1) (turned_more MM.o) (Turned.trans (hT.mono (fun _ _ q=>Or.inl q)) (t.mono (fun _ _ q=>Or.inr q))) (fun k q=>by rcases q with q|q;exact .inl q;exact .inr (by omega))
    have B3X:=hQQ ((TX.o.block _ (af B3.o) (fun q=>by have:=HG.o;omega)).trans B3.o)
    have YS:=hQQ (fun W=>pI (k:Int) W)
    clear er hres
    go_wp2_with (refine wpList_store_row rfl 62 _ _ rfl _ _ rfl rfl 62 _ B6.o (by kernel_rfl) rfl (by simp[Value.oneCell']) ?_;rw[e7])
    refine aq 6 (by kernel_rfl) (by kernel_rfl) ?_
    simp only[List.take_succ_cons,List.take_zero,List.drop_succ_cons,List.drop_zero]
    iterate 3
     with_reducible refine wpQuiet_step (fun K hK=>?_)
     go_simp
     first
     |(refine hK _ ?_;clear hK K)
     |(apply Exists.intro
       refine⟨fun W hW=>?_,hK _ ?_⟩
       first
       |(go_at_call 49;exact Calls.more hW (YS.o W))
       |(go_simp;try rfl)
       clear hK K)
    refine ae rfl 62 _ rfl _ rfl 62 _ _ _ (fun W hW=>hW.block B7.o) Tryz.underlying62 rfl (by kernel_rfl) ?_
    iterate 2
     with_reducible refine wpQuiet_step (fun K hK=>?_)
     go_simp
     first
     |(refine hK _ ?_;clear hK K)
     |(apply Exists.intro
       refine⟨fun W hW=>?_,hK _ ?_⟩
       first
       |(go_simp;try rfl)
       clear hK K)
    -- behind the quiet head: the store of the purse (block B3,from the world wx,facts FIN,B3X),and the results
    refine wpQuiet_nil ?_
    intro wz hz
    have FB:=hQQ (FIN.o wz hz)
    have B8:=hQQ (hz.block B3X.o)
    clear hz FIN
    go_wp2_with (refine wpList_store_row rfl 62 _ _ rfl _ _ rfl rfl 62 _ B8.o (by kernel_rfl) rfl (by simp[Value.oneCell']) ?_)
    refine bodyPost_ret (v:=.tuple #[.int .i64 tk.1.1.1,.int .i64 (szV (k:Int)),.agg #[.slice a5 n5 c5],.int .i64 0]) (kv Tryz.results26 _ _ _ 62 _ (0,0) _ rfl (setRow_heap _ _ _ _ _ _ B8.o) Tryz.underlying62 rfl (by kernel_rfl)) rfl FB.o
   |false =>
    rw[if_neg (by decide)] at hres
    have er:=hres.symm
    -- the purse that came in is handed back;TX: from w3 to the world,XX: its words
    have FIN:Hq (∀W,ac w7 W→AlR w g cap n0 res (.returned (.tuple #[.int .i64 0,.int .i64 0,.agg #[.slice av n0 cv],.int .i64 6])) (W.setRow (w.heap.size+1+1) #[.slice av n0 cv])):=hQQ fun W hW=>by
     rw[er]
     have hT:Turned (fun b=>b=g) w3 W:=Turned.trans TX.o (turned_more hW)
     have hb:=(hT.block _ (af B3.o) (fun q=>by have:=HG.o;omega)).trans B3.o
     have t:Turned (fun b=>b=w.heap.size+1+1) W (W.setRow (w.heap.size+1+1) #[.slice av n0 cv]):=Turned.setRow (Turned.refl _ W) _ _ (fun _=>rfl)
     refine⟨_,its,rfl,(kX IR0.o X0.o hT).keep t (fun k q=>by subst q;exact⟨_,_,_,hb,by decide⟩),HE.o,by have:=HN0.o;omega,(XX.o.more hW).keep t (by have:=HG.o;omega),?_⟩
     exact aw (F':=fun b=>b=g∨b=w.heap.size+1+1) (turned_more MM.o) (Turned.trans (hT.mono (fun _ _ q=>Or.inl q)) (t.mono (fun _ _ q=>Or.inr q))) (fun k q=>by rcases q with q|q;exact .inl q;exact .inr (by omega))
    have B2X:=hQQ ((TX.o.block _ (af B2.o) (fun q=>by have:=HG.o;omega)).trans B2.o)
    have B3X:=hQQ ((TX.o.block _ (af B3.o) (fun q=>by have:=HG.o;omega)).trans B3.o)
    clear er
    clear hres
    go_wp2_with (refine wpList_store_row rfl 62 _ _ rfl _ _ rfl rfl 62 _ B6.o (by kernel_rfl) rfl (by simp[Value.oneCell']) ?_;rw[e7])
    refine aq 3 (by kernel_rfl) (by kernel_rfl) ?_
    simp only[List.take_succ_cons,List.take_zero,List.drop_succ_cons,List.drop_zero]
    refine ae rfl 62 _ rfl _ rfl 62 _ _ _ (fun W hW=>hW.block B2X.o) Tryz.underlying62 rfl (by kernel_rfl) ?_
    iterate 2
     with_reducible refine wpQuiet_step (fun K hK=>?_)
     go_simp
     first
     |(refine hK _ ?_;clear hK K)
     |(apply Exists.intro
       refine⟨fun W hW=>?_,hK _ ?_⟩
       first
       |(go_simp;try rfl)
       clear hK K)
    -- behind the quiet head: the store of the purse (block B3,from the world wx,facts FIN,B3X),and the results
    refine wpQuiet_nil ?_
    intro wz hz
    have FB:=hQQ (FIN.o wz hz)
    have B8:=hQQ (hz.block B3X.o)
    clear hz FIN
    go_wp2_with (refine wpList_store_row rfl 62 _ _ rfl _ _ rfl rfl 62 _ B8.o (by kernel_rfl) rfl (by simp[Value.oneCell']) ?_)
    refine bodyPost_ret (v:=.tuple #[.int .i64 0,.int .i64 0,.agg #[.slice av n0 cv],.int .i64 6]) (kv Tryz.results26 _ _ _ 62 _ (0,0) _ rfl (setRow_heap _ _ _ _ _ _ B8.o) Tryz.underlying62 rfl (by kernel_rfl)) rfl FB.o
  ·rw[if_neg hfc] at hres
   have d2:decide (0≤fc)=false:=by simp;omega
   obtain⟨f,hf⟩:∃f,dm c.pg c.st fp fs ws=f:=⟨_,rfl⟩
   rw[hf] at hres FD
   go_wp2_with (first|(refine aH rfl rfl rfl B1W.o (by kernel_rfl) ?_)|(refine aH rfl rfl rfl B1W.o (by kernel_rfl) ?_))
   refine(FD.o _ X0.o).mono ?_
   rintro e w5 ⟨rfl,h5⟩
   have M5:=hQQ h5
   have B15:=hQQ (h5.block B1W.o)
   have y2:=h5.cell y2
   clear h5
   by_cases hf0:f<0
   ·rw[if_pos hf0] at hres
    have er:=hres.symm
    have TX:=hQQ (turned_more (S:=fun b=>b=g) M5.o)
    have XX:=hQQ (X0.o.more M5.o)
    -- the purse that came in is handed back;TX: from w3 to the world,XX: its words
    have FIN:Hq (∀W,ac w5 W→AlR w g cap n0 res (.returned (.tuple #[.int .i64 0,.int .i64 0,.agg #[.slice av n0 cv],.int .i64 6])) (W.setRow (w.heap.size+1+1) #[.slice av n0 cv])):=hQQ fun W hW=>by
     rw[er]
     have hT:Turned (fun b=>b=g) w3 W:=Turned.trans TX.o (turned_more hW)
     have hb:=(hT.block _ (af B3.o) (fun q=>by have:=HG.o;omega)).trans B3.o
     have t:Turned (fun b=>b=w.heap.size+1+1) W (W.setRow (w.heap.size+1+1) #[.slice av n0 cv]):=Turned.setRow (Turned.refl _ W) _ _ (fun _=>rfl)
     refine⟨_,its,rfl,(kX IR0.o X0.o hT).keep t (fun k q=>by subst q;exact⟨_,_,_,hb,by decide⟩),HE.o,by have:=HN0.o;omega,(XX.o.more hW).keep t (by have:=HG.o;omega),?_⟩
     exact aw (F':=fun b=>b=g∨b=w.heap.size+1+1) (turned_more MM.o) (Turned.trans (hT.mono (fun _ _ q=>Or.inl q)) (t.mono (fun _ _ q=>Or.inr q))) (fun k q=>by rcases q with q|q;exact .inl q;exact .inr (by omega))
    have B2X:=hQQ ((TX.o.block _ (af B2.o) (fun q=>by have:=HG.o;omega)).trans B2.o)
    have B3X:=hQQ ((TX.o.block _ (af B3.o) (fun q=>by have:=HG.o;omega)).trans B3.o)
    clear er
    have d3:decide (f<0)=true:=by simp[hf0]
    clear hres
    go_wp2_with fail
    refine aq 3 (by kernel_rfl) (by kernel_rfl) ?_
    simp only[List.take_succ_cons,List.take_zero,List.drop_succ_cons,List.drop_zero]
    refine ae rfl 62 _ rfl _ rfl 62 _ _ _ (fun W hW=>hW.block B2X.o) Tryz.underlying62 rfl (by kernel_rfl) ?_
    iterate 2
     with_reducible refine wpQuiet_step (fun K hK=>?_)
     go_simp
     first
     |(refine hK _ ?_;clear hK K)
     |(apply Exists.intro
       refine⟨fun W hW=>?_,hK _ ?_⟩
       first
       |(go_simp;try rfl)
       clear hK K)
    -- behind the quiet head: the store of the purse (block B3,from the world wx,facts FIN,B3X),and the results
    refine wpQuiet_nil ?_
    intro wz hz
    have FB:=hQQ (FIN.o wz hz)
    have B8:=hQQ (hz.block B3X.o)
    clear hz FIN
    go_wp2_with (refine wpList_store_row rfl 62 _ _ rfl _ _ rfl rfl 62 _ B8.o (by kernel_rfl) rfl (by simp[Value.oneCell']) ?_)
    refine bodyPost_ret (v:=.tuple #[.int .i64 0,.int .i64 0,.agg #[.slice av n0 cv],.int .i64 6]) (kv Tryz.results26 _ _ _ 62 _ (0,0) _ rfl (setRow_heap _ _ _ _ _ _ B8.o) Tryz.underlying62 rfl (by kernel_rfl)) rfl FB.o
   ·rw[if_neg hf0] at hres
    have d3:decide (f<0)=false:=by simp;omega
    obtain⟨f1,f2,_,f4⟩:=FR.o f hf (by omega)
    obtain⟨t0,t1,t2⟩:=bx.1 (gg.1 f4).1
    have hpf:ah c.pg f=true:=ai.2 (by omega)
    have er:=hres.symm
    have q9:IntKind.i64.wrap (32 * fp)=32 * fp:=aj (by omega) (by omega)
    have YA:=hQQ (fun W=>pJ HR.o hpf W)
    have w64f:Hq (W64 f):=hQQ (by unfold W64;omega)
    clear f1 f2 f4 t0 t1 t2 hpf er
    go_wp2_with (first|(refine aH rfl rfl rfl B15.o (by kernel_rfl) ?_)|(refine aH rfl rfl rfl B15.o (by kernel_rfl) ?_))
    have er:=hres.symm
    refine(TA.o f w64f.o _ (X0.o.more M5.o)).mono ?_
    rintro e w6 ⟨rfl,hx6,ht6⟩
    have TX:=hQQ (Turned.trans (turned_more (S:=fun b=>b=g) M5.o) ht6)
    have XX:=hQQ hx6
    have B16:=hQQ ((ht6.block _ (af B15.o) (fun q=>by have:=HG.o;omega)).trans B15.o)
    -- the purse that came in is handed back;TX: from w3 to the world,XX: its words
    have FIN:Hq (∀W,ac w6 W→AlR w g cap n0 res (.returned (.tuple #[.int .i64 (c.us+32 * f),.int .i64 (32 * fp),.agg #[.slice av n0 cv],.int .i64 0])) (W.setRow (w.heap.size+1+1) #[.slice av n0 cv])):=hQQ fun W hW=>by
     rw[er]
     have hT:Turned (fun b=>b=g) w3 W:=Turned.trans TX.o (turned_more hW)
     have hb:=(hT.block _ (af B3.o) (fun q=>by have:=HG.o;omega)).trans B3.o
     have t:Turned (fun b=>b=w.heap.size+1+1) W (W.setRow (w.heap.size+1+1) #[.slice av n0 cv]):=Turned.setRow (Turned.refl _ W) _ _ (fun _=>rfl)
     refine⟨_,its,rfl,(kX IR0.o X0.o hT).keep t (fun k q=>by subst q;exact⟨_,_,_,hb,by decide⟩),HE.o,by have:=HN0.o;omega,(XX.o.more hW).keep t (by have:=HG.o;omega),?_⟩
     exact aw (F':=fun b=>b=g∨b=w.heap.size+1+1) (turned_more MM.o) (Turned.trans (hT.mono (fun _ _ q=>Or.inl q)) (t.mono (fun _ _ q=>Or.inr q))) (fun k q=>by rcases q with q|q;exact .inl q;exact .inr (by omega))
    have B2X:=hQQ ((TX.o.block _ (af B2.o) (fun q=>by have:=HG.o;omega)).trans B2.o)
    have B3X:=hQQ ((TX.o.block _ (af B3.o) (fun q=>by have:=HG.o;omega)).trans B3.o)
    clear er
    clear hres hx6 ht6 y2
    go_wp2_with fail
    refine aq 8 (by kernel_rfl) (by kernel_rfl) ?_
    simp only[List.take_succ_cons,List.take_zero,List.drop_succ_cons,List.drop_zero]
    refine ae rfl 27 _ rfl _ rfl 27 _ _ _ (fun W hW=>hW.block B16.o) Tryz.underlying27 rfl (by kernel_rfl) ?_
    iterate 4
     with_reducible refine wpQuiet_step (fun K hK=>?_)
     go_simp
     first
     |(refine hK _ ?_;clear hK K)
     |(apply Exists.intro
       refine⟨fun W hW=>?_,hK _ ?_⟩
       first
       |(go_at_call 47;exact Calls.more hW (YA.o W))
       |(go_simp;try rfl)
       clear hK K)
    refine ae rfl 62 _ rfl _ rfl 62 _ _ _ (fun W hW=>hW.block B2X.o) Tryz.underlying62 rfl (by kernel_rfl) ?_
    iterate 2
     with_reducible refine wpQuiet_step (fun K hK=>?_)
     go_simp
     first
     |(refine hK _ ?_;clear hK K)
     |(apply Exists.intro
       refine⟨fun W hW=>?_,hK _ ?_⟩
       first
       |(go_simp;try rfl)
       clear hK K)
    -- behind the quiet head: the store of the purse (block B3,from the world wx,facts FIN,B3X),and the results
    refine wpQuiet_nil ?_
    intro wz hz
    have FB:=hQQ (FIN.o wz hz)
    have B8:=hQQ (hz.block B3X.o)
    clear hz FIN
    go_wp2_with (refine wpList_store_row rfl 62 _ _ rfl _ _ rfl rfl 62 _ B8.o (by kernel_rfl) rfl (by simp[Value.oneCell']) ?_)
    refine bodyPost_ret (v:=.tuple #[.int .i64 (c.us+32 * f),.int .i64 (32 * fp),.agg #[.slice av n0 cv],.int .i64 0]) (kv Tryz.results26 _ _ _ 62 _ (0,0) _ rfl (setRow_heap _ _ _ _ _ _ B8.o) Tryz.underlying62 rfl (by kernel_rfl)) rfl FB.o
 ·rw[if_pos hfe] at hres
  have d1:(fe==0)=false:=by simp[hfe]
  have er:=hres.symm
  -- the purse that came in is handed back;TX: from w3 to the world,XX: its words
  have FIN:Hq (∀W,ac w3 W→AlR w g cap n0 res (.returned (.tuple #[.int .i64 0,.int .i64 0,.agg #[.slice av n0 cv],.int .i64 fe])) (W.setRow (w.heap.size+1+1) #[.slice av n0 cv])):=hQQ fun W hW=>by
   rw[er]
   have hT:Turned (fun b=>b=g) w3 W:=Turned.trans TX.o (turned_more hW)
   have hb:=(hT.block _ (af B3.o) (fun q=>by have:=HG.o;omega)).trans B3.o
   have t:Turned (fun b=>b=w.heap.size+1+1) W (W.setRow (w.heap.size+1+1) #[.slice av n0 cv]):=Turned.setRow (Turned.refl _ W) _ _ (fun _=>rfl)
   refine⟨_,its,rfl,(kX IR0.o X0.o hT).keep t (fun k q=>by subst q;exact⟨_,_,_,hb,by decide⟩),HE.o,by have:=HN0.o;omega,(XX.o.more hW).keep t (by have:=HG.o;omega),?_⟩
   exact aw (F':=fun b=>b=g∨b=w.heap.size+1+1) (turned_more MM.o) (Turned.trans (hT.mono (fun _ _ q=>Or.inl q)) (t.mono (fun _ _ q=>Or.inr q))) (fun k q=>by rcases q with q|q;exact .inl q;exact .inr (by omega))
  have B2X:=hQQ ((TX.o.block _ (af B2.o) (fun q=>by have:=HG.o;omega)).trans B2.o)
  have B3X:=hQQ ((TX.o.block _ (af B3.o) (fun q=>by have:=HG.o;omega)).trans B3.o)
  clear er
  clear hres
  go_wp2_with fail
  refine gb (fun W=>W.heap[(w.heap.size+1)]?=some (.cells #[.slice av n0 cv] 62 (0,0))) (by kernel_rfl) ?_
  change eN _ _ _ _ _ _ _ _ (w3.drewN 1)
  have M0:Hq (ac w3 (w3.drewN 1)):=hQQ ((ac.refl w3).drewN 1)
  have C0:Hq ((w3.drewN 1).heap[(w.heap.size+1)]?=some (.cells #[.slice av n0 cv] 62 (0,0))):=hQQ (M0.o.block B2.o)
  have S0:Hq ((w3.drewN 1).heap[(w.heap.size+1+1)]?=some (.cells #[.slice none 0 0] 62 (0,0))):=hQQ (M0.o.block B3.o)
  generalize w3.drewN 1=wq at M0 C0 S0⊢
  generalize hA:Act.mk _ _=A
  have HF:AG 74 A [(9,.pointer (some ⟨(w.heap.size+1),0,none⟩)),(14,.pointer (some ⟨(w.heap.size+1+1),0,none⟩)),(19,.int .i64 fe)]:=by
   rw[←hA];try simp only[pts,List.foldl]
   refine⟨⟨Nat.le_of_ble_eq_true rfl,rfl⟩,?_⟩
   intro z hz;simp only[List.mem_cons,List.not_mem_nil,or_false] at hz;rcases hz with rfl|rfl|rfl<;>rfl
  refine jD (fun a W=>a=(pts A [(34,.agg #[.slice av n0 cv]),(35,.int .i64 fe),(12,(.int .i64 0)),(13,(.int .i64 0)),(15,.int .i64 fe)])∧W=wq.setRow (w.heap.size+1+1) #[.slice av n0 cv]) (fun _=>False) [] (fun a W hd h=>h.elim) (fun _ _ _ _ _ h=>h) ?_ ?_
  ·skip
   rintro a9 w9 ⟨rfl,rfl⟩
   rw[←hA];try simp only[pts,List.foldl]
   have FB:=hQQ (FIN.o wq M0.o)
   clear HF hA FIN C0 M0
   go_simp
   go_wp2_with fail
   refine bodyPost_ret (v:=.tuple #[.int .i64 0,.int .i64 0,.agg #[.slice av n0 cv],.int .i64 fe]) (kv Tryz.results26 _ _ _ 62 _ (0,0) _ rfl (setRow_heap _ _ _ _ _ _ S0.o) Tryz.underlying62 rfl (by kernel_rfl)) rfl FB.o
  intro QQ FINE FIND FINQ
  clear hA
  refine tqC 0 34 (.agg #[.slice av n0 cv]) (by kernel_rfl) FINQ C0.o HF (by exact cG (ao rfl) 62 _ rfl (w.heap.size+1) (HF.get 0 rfl) 62 _ _ _ (fun W hW=>hW) Tryz.underlying62 rfl (by kernel_rfl)) fun A β1 HF=>?_
  refine tqM 1 35 3 rfl (.inl rfl) rfl (by kernel_rfl) FINQ C0.o HF fun A β2 HF=>?_
  refine tqC 2 12 ((.int .i64 0)) (by kernel_rfl) FINQ C0.o HF (by exact eR (ao rfl) _ rfl rfl) fun A β3 HF=>?_
  refine tqC 3 13 ((.int .i64 0)) (by kernel_rfl) FINQ C0.o HF (by exact eR (ao rfl) _ rfl rfl) fun A β4 HF=>?_
  refine gJ (i:=4) none (by kernel_rfl) rfl (ao rfl) rfl (fun K hK=>?_)
  refine wp_store_row 62 _ _ rfl (w.heap.size+1+1) _ (HF.get 5 rfl) (HF.get 3 rfl) 62 _ S0.o (by kernel_rfl) rfl (by simp[Value.oneCell']) ?_
  have C2:Hq ((wq.setRow (w.heap.size+1+1) #[.slice av n0 cv]).heap[(w.heap.size+1)]?=some (.cells #[.slice av n0 cv] 62 (0,0))):=hQQ (Ag C0.o (by omega))
  refine hK _ _ C2.o ?_
  clear hK K
  change eN _ _ _ _ _ _ _ A _
  refine tqM 5 15 2 rfl (.inr rfl) rfl (by kernel_rfl) FINQ C2.o HF fun A β5 HF=>?_
  exact fR (by kernel_rfl) (FINE _ _ ⟨by rw[← β5,← β4,← β3,← β2,← β1]<;>rfl,rfl⟩)
def dD:Cfg:=⟨2,2,4,2,0,0,1,2,0,0,1⟩
def uM:Cfg:=⟨2,2,4,2,0,0,1,2,0,0,2⟩
theorem gQ:dD.Ok:=by constructor<;>decide
theorem eV:dD.words=(384:Nat):=by decide
theorem jg:dh dD.pg dD.st 384:= { st1:=by decide,st2:=by decide,pg1:=by decide,pg2:=by decide,top:=by decide,top5:=by decide,top62:=by decide }
def lO:Cfg:=⟨aO 0 1 64,aO 0 1 8,aO 0 1 256,aO 0 1 64,aO 0 0 16,aO 0 0 64,aO 0 1 1099511627776,aO 0 1 8,aO 0 0 8,aO 0 0 16,aO 0 1 8⟩
theorem tE:lO.Ok:=AY 0 0 0 0 0 0 0 0 0 0 0
def BU:Cfg:=⟨2,2,2,2,0,0,1,2,0,0,2⟩
theorem tF:mn lO=BU:=by rfl
def lz:AlT:=alW dD 0 (fun _=> []) 3 1 (cC 384)
def wX:List Int:=(wJ (gj dD 256) 3 lz.2).2
theorem uN:lz.1.1.1=(256,4)∧lz.1.2=0:=⟨by kernel_rfl,by kernel_rfl⟩
theorem p4:lz.2.length=384:=by kernel_rfl
theorem kw:wX.length=384:=by kernel_rfl
theorem BV:OkW wX:=by
 have h:wX.all (fun x=>decide (-9223372036854775808≤x) && decide (x≤9223372036854775807))=true:=by kernel_rfl
 intro x hx
 have:=List.all_eq_true.1 h x hx
 simp only[Bool.and_eq_true,decide_eq_true_eq] at this
 unfold W64
 omega
def Ah:TS:=⟨1,3,4,0,28,4,1⟩
theorem Dh:tlV dD wX=Ah:=by kernel_rfl
theorem wY:dC Ah=true:=by kernel_rfl
theorem BW {w:World}{g n:Nat}(h:w.heap[g]?=some (.cells (jj (cC n)) 3 (0,0)))(hn:n≤1000000):Ws w g n (cC n):=
 ⟨_,h,by simp[cC],by simp only[maxLen];omega,by simp[jj,cC],fun i hi=>by simp[cC] at hi;simp[jj,cC,hi]⟩
theorem Ai (w:World)(g:Nat)(hw:Ws w g 384 (cC 384)):Calls Tryz.prog 26 #[.agg dD.cells,.slice (some ⟨g,0,none⟩) 384 384,.int .i64 0,.agg #[.slice none 0 0],.int .i64 3,.int .i64 1] w (AlR w g 384 0 lz):=by
 have F:=ww gQ jg (by rw[eV]) dD.us
 have:=wW gQ (cC 384) (by rw[fQ];exact jg) (by rw[fQ];omega) (by rw[fQ,eV]) (P:=fun _=> []) (O:=[]) (u:=0) (fun j _=>by decide) (by rw[fQ];exact F) g 384 (by decide) 3 1 (by decide) (.slice none 0 0) [] zR (by decide) w (IR.nil 0 w) hw
 rw[fQ] at this
 exact this
theorem Aj (w:World)(g:Nat)(hw:Ws w g 384 lz.2):Calls Tryz.prog 27 #[.agg dD.cells,.slice (some ⟨g,0,none⟩) 384 384,.int .i64 256,.int .i64 3] w (vZ w g 384 (.bool (wJ (gj dD 256) 3 lz.2).1) wX):=by
 have:=zT gQ lz.2 (by rw[p4];exact jg) (by rw[p4,eV]) g 384 256 3 w hw
 rw[p4] at this
 exact this
theorem ni (bt:Nat)(w:World)(hs:gK bt w):Calls Tryz.prog 7 #[] w (aD w (.bool true)):=by
 have SM:=hQQ (vg tE 0 0 0 0 0 0 0 0 0 0 0 _ w (fun W=>yh 0 0 0 0 0 0 0 0 0 0 0 W (by omega) (by omega) (by omega) (by omega) (by omega) (by omega) (by omega) (by omega) (by omega) (by omega) (by omega)) rfl)
 have D0:Hq ((mn lO).cells.setIfInBounds 2 (.int .i64 4)=uM.cells):=hQQ (by rw[tF];rfl)
 have D9:Hq (uM.cells.setIfInBounds 10 (.int .i64 1)=dD.cells):=hQQ (by rfl)
 generalize mn lO=d at SM D0
 have R5:=hQQ gQ
 have hc4:=nV d
 have HS:=hQQ hs
 have l0:=hs.lt0
 have lb:=hs.lt
 clear hs
 go_enter Tryz.func7,Tryz.ntmps7
 go_wp2_with fail
 refine(SM.o).mono ?_
 rintro e w1 ⟨rfl,m1⟩
 have MA:=hQQ m1
 have hs1:=m1.size
 have C2:=aI w1 #[.int .i64 0,.int .i64 0,.int .i64 0,.int .i64 0,.int .i64 0,.int .i64 0,.int .i64 0,.int .i64 0,.int .i64 0,.int .i64 0,.int .i64 0] 23
 have C3:=setRow_heap _ _ _ d.cells _ _ C2
 have M5:=MA.o.trans (((ac.refl w1).alloc (.cells #[.int .i64 0,.int .i64 0,.int .i64 0,.int .i64 0,.int .i64 0,.int .i64 0,.int .i64 0,.int .i64 0,.int .i64 0,.int .i64 0,.int .i64 0] 23)).setRow w1.heap.size d.cells (Nat.le_refl _))
 obtain⟨w5,e5⟩:∃w5,(w1.alloc (.cells #[.int .i64 0,.int .i64 0,.int .i64 0,.int .i64 0,.int .i64 0,.int .i64 0,.int .i64 0,.int .i64 0,.int .i64 0,.int .i64 0,.int .i64 0] 23)).setRow w1.heap.size d.cells=w5:=⟨_,rfl⟩
 rw[e5] at C3 M5
 have C2:=hQQ C2
 have C3:=hQQ C3
 have M5:=hQQ M5
 have E5:=hQQ e5
 clear m1 SM e5
 go_wp2_with (first
  |(refine wpList_store_row rfl 23 _ _ rfl w1.heap.size d.cells rfl rfl 23 _ C2.o (by kernel_rfl) rfl hc4 ?_;rw[E5.o])
  |(refine dx rfl 3 _ _ rfl rfl w1.heap.size 2 rfl 4 rfl _ _ C3.o (by simp[Cfg.cells]) (by kernel_rfl) ?_;rw[D0.o];intro w6 hb6 ht6;have HB6:=hQQ hb6;have HM6:Hq (ac w w6):=hQQ (Turned.mono (aw (F:=fun _=>False) M5.o ht6 (fun k q=> .inr (by omega))) (fun _ _ q=>q));clear hb6 ht6)
  |(refine dx rfl 3 _ _ rfl rfl w1.heap.size 10 rfl 1 rfl _ _ HB6.o (by simp[Cfg.cells]) (by kernel_rfl) ?_;rw[D9.o];intro w66 hb6 ht6;have HB:=hQQ hb6;have HM:Hq (ac w w66):=hQQ (Turned.mono (aw (F:=fun _=>False) HM6.o ht6 (fun k q=> .inr (by omega))) (fun _ _ q=>q));clear hb6 ht6;obtain⟨w7,e7,hb7,m7,s7⟩:=dw w66 (.cells #[.int .i64 0,.int .i64 0,.int .i64 0,.int .i64 0,.int .i64 0,.int .i64 0,.int .i64 0,.int .i64 0,.int .i64 0,.int .i64 0,.int .i64 0] 27);have HB7:=hQQ hb7;obtain⟨w8,e8⟩:∃w8,w7.setRow w66.heap.size dD.cells=w8:=⟨_,rfl⟩;have m8:ac w66 w8:=(by rw[←e8];exact m7.setRow _ _ (Nat.le_refl _));have HB8:Hq (w8.heap[w66.heap.size]?=some (.cells dD.cells 27 (0,0))):=hQQ (by rw[←e8];exact setRow_heap _ _ _ _ _ _ hb7);have HC8:=hQQ (m8.block HB.o);have HM8:=hQQ (HM.o.trans m8);clear hb7 m7 m8 s7)
  |(refine rK rfl rfl rfl HB.o (by kernel_rfl) ?_)
  |(refine su rfl _ rfl dD rfl ?_)
  |(refine wpList_store_row rfl 27 _ _ rfl w66.heap.size _ rfl rfl 27 _ HB7.o (by kernel_rfl) rfl (nV dD) ?_;rw[e8])
  |(first|(refine aH rfl rfl rfl HB8.o (by kernel_rfl) ?_)|(refine aH rfl rfl rfl HB8.o (by kernel_rfl) ?_)))
 refine(ym R5.o _).mono ?_
 rw[eV]
 rintro e w9 ⟨rfl,m9⟩
 obtain⟨w10,hmk,N1,m10,s10⟩:∃w10,(Instr.makeSlice 28 (.int .i64 384) (.int .i64 384)).run Tryz.prog w9=.ok (.slice (some ⟨w9.heap.size,0,none⟩) 384 384) w10∧w10.heap[w9.heap.size]?=some (.cells (jj (cC 384)) 3 (0,0))∧ac w9 w10∧w10.heap.size=w9.heap.size+1 :=
  ⟨_,mr 384 (by omega) w9,aI w9 _ _,(ac.refl _).alloc _,by simp⟩
 have mm:=m9.trans m10
 have M10:=hQQ (HM8.o.trans mm)
 have LA:=hQQ (mm.block HB8.o)
 have CA:=hQQ (mm.block HC8.o)
 have WA:Hq (Ws w10 w9.heap.size 384 (cC 384)):=hQQ (BW N1 (by omega))
 have gl:w66.heap.size<w9.heap.size:=by have:=af HB8.o;have:=m9.size;omega
 have gc:w1.heap.size<w66.heap.size:=af HB.o
 have gw:w.heap.size≤w1.heap.size:=hs1
 clear m9 m10 mm N1 s10 HB HB6 HB7 HB8 HC8 HM HM6 HM8 C2 C3 M5 E5 e7 e8 D0 D9 hc4
 go_wp2_with (first|(refine aH rfl rfl rfl LA.o (by kernel_rfl) ?_)|(refine aH rfl rfl rfl LA.o (by kernel_rfl) ?_))
 refine(Ai _ _ WA.o).mono ?_
 rintro e w11 ⟨v11,its,rfl,hir,_,hl8,hx11,ht11⟩
 obtain⟨av,cv,rfl,_⟩:=hir.at
 obtain⟨nv,hnv⟩:∃nv,its.length=nv:=⟨_,rfl⟩
 rw[uN.1,uN.2,hnv]
 have X11:=hQQ hx11
 have L11:=hQQ ((ht11.block _ (af LA.o) (by omega)).trans LA.o)
 have C11:=hQQ ((ht11.block _ (af CA.o) (by omega)).trans CA.o)
 have M11:Hq (ac w w11):=hQQ (Turned.mono (aw (F:=fun _=>False) M10.o ht11 (fun k q=> .inr (by omega))) (fun _ _ q=>q))
 obtain⟨w12,e12,hb12,m12,s12⟩:=dw w11 (.cells #[.slice none 0 0] 62)
 have B12:=hQQ hb12
 obtain⟨w13,e13⟩:∃w13,w12.setRow w11.heap.size #[.slice av nv cv]=w13:=⟨_,rfl⟩
 have m13:ac w11 w13:=by rw[←e13];exact m12.setRow _ _ (Nat.le_refl _)
 have X13:=hQQ (X11.o.more m13)
 have L13:=hQQ (m13.block L11.o)
 have C13:=hQQ (m13.block C11.o)
 have M13:=hQQ (M11.o.trans m13)
 clear hir hl8 hx11 ht11 hnv WA LA CA M10 X11 L11 C11 hb12 m12 s12 m13
 go_wp2_with (first
  |(refine wpList_store_row rfl 62 _ _ rfl _ _ rfl rfl 62 _ B12.o (by kernel_rfl) rfl (by simp[Value.oneCell']) ?_;rw[e13])
  |(first|(refine aH rfl rfl rfl L13.o (by kernel_rfl) ?_)|(refine aH rfl rfl rfl L13.o (by kernel_rfl) ?_)))
 refine(Aj _ _ X13.o).mono ?_
 rintro e w14 ⟨rfl,hx14,ht14⟩
 have C14:=hQQ ((ht14.block _ (af C13.o) (by omega)).trans C13.o)
 have M14:Hq (ac w w14):=hQQ (Turned.mono (aw (F:=fun _=>False) M13.o ht14 (fun k q=> .inr (by omega))) (fun _ _ q=>q))
 have X14:=hQQ hx14
 have g14:w9.heap.size<w14.heap.size:=hx14.lt
 clear e12 e13 B12 X13 L13 C13 M13 hx14 ht14
 go_wp2_with (refine rK rfl rfl rfl C14.o (by kernel_rfl) ?_)
 refine(Ed R5.o _).mono ?_
 rintro e w15 ⟨rfl,m15⟩
 obtain⟨w16,e16,hb16,m16,s16⟩:=dw w15 (.cells Cy 33)
 have B16:=hQQ hb16
 obtain⟨w17,e17⟩:∃w17,w16.setRow w15.heap.size dD.arr=w17:=⟨_,rfl⟩
 have m17:ac w15 w17:=by rw[←e17];exact m16.setRow _ _ (Nat.le_refl _)
 have hb17:w17.heap[w15.heap.size]?=some (.cells dD.arr 33 (0,0)):=by rw[←e17];exact setRow_heap _ _ _ _ _ _ hb16
 obtain⟨w18,e18,hb18,m18,s18⟩:=dw w17 (.cells #[.int .i64 0,.int .i64 0,.int .i64 0,.int .i64 0,.int .i64 0,.int .i64 0,.int .i64 0] 38)
 have M18:=hQQ (M14.o.trans (m15.trans (m17.trans m18)))
 have X18:=hQQ (X14.o.more (m15.trans (m17.trans m18)))
 have lt17:=af hb17
 have g15:=m15.size
 have g17:=m17.size
 have DO:=hQQ (Dd gQ (bt:=bt) wX (by rw[kw];exact jg.toPgIn) (by rw[kw,eV]) (by rw[kw];omega) BV w18 w15.heap.size w17.heap.size (some ⟨w9.heap.size,0,none⟩) 384 ⟨m18.block hb17,⟨noT,hb18⟩,HS.o.more M18.o⟩ ⟨by omega,by omega,by omega⟩ X18.o.words)
 rw[kw] at DO
 have g18:w.heap.size≤w17.heap.size:=by have:=M14.o.size;omega
 clear hb16 m16 s16 m17 hb17 hb18 m18 s18 m15 lt17 g15 g17 X14 M14 X18 C14
 go_wp2_with (refine wpList_store_row rfl 33 _ _ rfl w15.heap.size dD.arr rfl rfl 33 _ B16.o (by kernel_rfl) rfl (AZ dD) ?_;rw[e17])
 refine DO.o.mono ?_
 rintro e w19 ⟨v1,v2,rfl,_,hx,ht⟩
 rw[Dh] at hx
 have BX:=hQQ hx
 have FIN:=hQQ (Turned.mono (aw (F:=fun _=>False) M18.o ht (fun k q=> .inr (by omega))) (fun _ _ q=>q))
 have TR:=hQQ (fun W=>wY▸kt Ah W)
 clear hx ht DO e16 e17 e18 B16 M18
 go_wp2_with (first|(refine tC _ _ (by with_reducible rfl) rfl Ah Ah rfl rfl true (by decide) ?_)|(refine ag rfl rfl rfl BX.o (by kernel_rfl) ?_)|(refine ag rfl rfl rfl BX.o (by kernel_rfl) ?_))
 refine(TR.o _).mono ?_
 rintro e w20 ⟨rfl,h20⟩
 have F20:=hQQ (FIN.o.trans h20)
 clear h20
 go_wp2_with fail
 go_ret
 exact⟨rfl,F20.o⟩
theorem Ak (a:TS):eqT a a=true:=by simp[eqT]
theorem p6 {a b:TS} :eqT a b=true↔a=b:=by
 cases a;cases b
 simp[eqT]
theorem cR {ops:Array Oper}{rest:List Oper}{o:Oper}{a:Act}{C:World→Prop}{Q:Act→Prop}(x y:Operand)(ho:o.op=.binOp .eql 38 x y 38)(hw:Region.wanted o (yielded ops a.tmps)=true)(s t:TS)(hx:a.eval x=.agg s.arr)(hy:a.eval y=.agg t.arr)(r:Bool)(hr:eqT s t=r)
 (h:wpQuiet Tryz.prog ops C Q rest (a.put o.dst (.bool r))):wpQuiet Tryz.prog ops C Q (o::rest) a:=by
 refine lW (.bool r) hw (fun W hW=>?_) h
 subst hr
 have hg:Sem.run Tryz.prog (eqGuard .eql 38 x y (.agg s.arr) (.agg t.arr)) W=.ok () W:=run_eqGuard_agg W .eql 38 x y s.arr t.arr (by kernel_rfl)
 have hb:Sem.run Tryz.prog (binOp .eql 38 (.agg s.arr) (.agg t.arr)) W=.ok (.bool (eqT s t)) W:=by
  rw[run_eql_struct,uK]
  rfl
 unfold Oper.quietAt execOp
 simp only[ho,hx,hy,Sem.run_bind,hg,hb,Result.andThen_ok]
 exact⟨rfl,rfl⟩
theorem tG {bt:Nat}(a b:TS)(w:World)(hs:gK bt w):Calls Tryz.prog 4 #[.agg a.arr,.agg b.arr] w (aD w (.bool true)):=by
 have LA:=iV a
 have LB:=iV b
 have XA:=ku a
 have XB:=ku b
 have TR:=kt a
 have TR2:=wS a
 rw[←Ad a] at TR2
 have hL:bR a<0→dC a=false:=fun h=>by simp[dC];intro q;omega
 generalize bR a=la at LA hL
 generalize bR b=lb at LB
 generalize dB a=ma at XA
 generalize dB b=mb at XB
 generalize dC a=rl at TR TR2 hL
 have S1:=fun W=>kr a b W
 have S2:=fun W=>BE a b W
 obtain⟨w2,e2,hba,hbb,m2,s2⟩:=kD w (.cells a.arr 38) (.cells b.arr 38)
 have BA2:=hQQ hba
 have BB2:=hQQ hbb
 have M2:=hQQ m2
 have LV:Hq (∀W,ac w W→Calls Tryz.prog 7 #[] W (aD W (.bool true))):=hQQ fun W m=>ni bt W (hs.more m)
 have LA:=hQQ LA
 have LB:=hQQ LB
 have XA:=hQQ XA
 have XB:=hQQ XB
 have TR:=hQQ TR
 have TR2:=hQQ TR2
 have S1:=hQQ S1
 have S2:=hQQ S2
 have HL:=hQQ hL
 clear hba hbb m2 s2 hs hL
 by_cases c0:la<0
 ·have d0:decide (la<0)=true:=decide_eq_true c0
  have dg:decide (0≤la)=false:=decide_eq_false (by omega)
  have TR:=hQQ (fun W=>HL.o c0▸TR.o W)
  clear c0
  go_enter Tryz.func4,Tryz.ntmps4
  go_wp2_with (first|(refine ag rfl rfl rfl BA2.o (by kernel_rfl) ?_)|(refine ag rfl rfl rfl BA2.o (by kernel_rfl) ?_)|(refine ag rfl rfl rfl BB2.o (by kernel_rfl) ?_)|(refine ag rfl rfl rfl BB2.o (by kernel_rfl) ?_))
  refine(LA.o w2).mono ?_
  rintro e w3 ⟨rfl,h⟩
  have BA3:=hQQ (h.block BA2.o)
  have BB3:=hQQ (h.block BB2.o)
  have M3:=hQQ (M2.o.trans h)
  clear h
  go_wp2_with (first|(refine ag rfl rfl rfl BA3.o (by kernel_rfl) ?_)|(refine ag rfl rfl rfl BA3.o (by kernel_rfl) ?_)|(refine ag rfl rfl rfl BB3.o (by kernel_rfl) ?_)|(refine ag rfl rfl rfl BB3.o (by kernel_rfl) ?_))
  refine(LA.o w3).mono ?_
  rintro e w4 ⟨rfl,h⟩
  have BA4:=hQQ (h.block BA3.o)
  have BB4:=hQQ (h.block BB3.o)
  have M4:=hQQ (M3.o.trans h)
  clear h
  go_wp2_with (first|(refine ag rfl rfl rfl BA4.o (by kernel_rfl) ?_)|(refine ag rfl rfl rfl BA4.o (by kernel_rfl) ?_)|(refine ag rfl rfl rfl BB4.o (by kernel_rfl) ?_)|(refine ag rfl rfl rfl BB4.o (by kernel_rfl) ?_))
  refine(TR.o w4).mono ?_
  rintro e w5 ⟨rfl,h⟩
  have BA5:=hQQ (h.block BA4.o)
  have BB5:=hQQ (h.block BB4.o)
  have M5:=hQQ (M4.o.trans h)
  clear h
  go_wp2_with (first|(refine ag rfl rfl rfl BA5.o (by kernel_rfl) ?_)|(refine ag rfl rfl rfl BA5.o (by kernel_rfl) ?_)|(refine ag rfl rfl rfl BB5.o (by kernel_rfl) ?_)|(refine ag rfl rfl rfl BB5.o (by kernel_rfl) ?_))
  refine(LV.o _ M5.o).mono ?_
  rintro e w6 ⟨rfl,h⟩
  have BA6:=hQQ (h.block BA5.o)
  have BB6:=hQQ (h.block BB5.o)
  have M6:=hQQ (M5.o.trans h)
  clear h
  go_wp2_with fail
  go_ret
  exact⟨rfl,M6.o⟩
 have d0:decide (la<0)=false:=decide_eq_false c0
 clear c0
 by_cases c1:lb<0
 ·have d1:decide (lb<0)=true:=decide_eq_true c1
  have dg:decide (0≤la)=true:=decide_eq_true (by have:=of_decide_eq_false d0;omega)
  clear c1
  go_enter Tryz.func4,Tryz.ntmps4
  go_wp2_with (first|(refine ag rfl rfl rfl BA2.o (by kernel_rfl) ?_)|(refine ag rfl rfl rfl BA2.o (by kernel_rfl) ?_)|(refine ag rfl rfl rfl BB2.o (by kernel_rfl) ?_)|(refine ag rfl rfl rfl BB2.o (by kernel_rfl) ?_))
  refine(LA.o w2).mono ?_
  rintro e w3 ⟨rfl,h⟩
  have BA3:=hQQ (h.block BA2.o)
  have BB3:=hQQ (h.block BB2.o)
  have M3:=hQQ (M2.o.trans h)
  clear h
  go_wp2_with (first|(refine ag rfl rfl rfl BA3.o (by kernel_rfl) ?_)|(refine ag rfl rfl rfl BA3.o (by kernel_rfl) ?_)|(refine ag rfl rfl rfl BB3.o (by kernel_rfl) ?_)|(refine ag rfl rfl rfl BB3.o (by kernel_rfl) ?_))
  refine(LB.o w3).mono ?_
  rintro e w4 ⟨rfl,h⟩
  have BA4:=hQQ (h.block BA3.o)
  have BB4:=hQQ (h.block BB3.o)
  have M4:=hQQ (M3.o.trans h)
  clear h
  go_wp2_with (first|(refine ag rfl rfl rfl BA4.o (by kernel_rfl) ?_)|(refine ag rfl rfl rfl BA4.o (by kernel_rfl) ?_)|(refine ag rfl rfl rfl BB4.o (by kernel_rfl) ?_)|(refine ag rfl rfl rfl BB4.o (by kernel_rfl) ?_))
  refine(LA.o w4).mono ?_
  rintro e w5 ⟨rfl,h⟩
  have BA5:=hQQ (h.block BA4.o)
  have BB5:=hQQ (h.block BB4.o)
  have M5:=hQQ (M4.o.trans h)
  clear h
  go_wp2_with (first|(refine ag rfl rfl rfl BA5.o (by kernel_rfl) ?_)|(refine ag rfl rfl rfl BA5.o (by kernel_rfl) ?_)|(refine ag rfl rfl rfl BB5.o (by kernel_rfl) ?_)|(refine ag rfl rfl rfl BB5.o (by kernel_rfl) ?_))
  refine(LV.o _ M5.o).mono ?_
  rintro e w6 ⟨rfl,h⟩
  have BA6:=hQQ (h.block BA5.o)
  have BB6:=hQQ (h.block BB5.o)
  have M6:=hQQ (M5.o.trans h)
  clear h
  go_wp2_with fail
  go_ret
  exact⟨rfl,M6.o⟩
 have d1:decide (lb<0)=false:=decide_eq_false c1
 clear c1
 by_cases c2:1099511627776<ma
 ·have d2:decide (1099511627776<ma)=true:=decide_eq_true c2
  have dg:decide (0≤la)=true:=decide_eq_true (by have:=of_decide_eq_false d0;omega)
  clear c2
  go_enter Tryz.func4,Tryz.ntmps4
  go_wp2_with (first|(refine ag rfl rfl rfl BA2.o (by kernel_rfl) ?_)|(refine ag rfl rfl rfl BA2.o (by kernel_rfl) ?_)|(refine ag rfl rfl rfl BB2.o (by kernel_rfl) ?_)|(refine ag rfl rfl rfl BB2.o (by kernel_rfl) ?_))
  refine(LA.o w2).mono ?_
  rintro e w3 ⟨rfl,h⟩
  have BA3:=hQQ (h.block BA2.o)
  have BB3:=hQQ (h.block BB2.o)
  have M3:=hQQ (M2.o.trans h)
  clear h
  go_wp2_with (first|(refine ag rfl rfl rfl BA3.o (by kernel_rfl) ?_)|(refine ag rfl rfl rfl BA3.o (by kernel_rfl) ?_)|(refine ag rfl rfl rfl BB3.o (by kernel_rfl) ?_)|(refine ag rfl rfl rfl BB3.o (by kernel_rfl) ?_))
  refine(LB.o w3).mono ?_
  rintro e w4 ⟨rfl,h⟩
  have BA4:=hQQ (h.block BA3.o)
  have BB4:=hQQ (h.block BB3.o)
  have M4:=hQQ (M3.o.trans h)
  clear h
  go_wp2_with (first|(refine ag rfl rfl rfl BA4.o (by kernel_rfl) ?_)|(refine ag rfl rfl rfl BA4.o (by kernel_rfl) ?_)|(refine ag rfl rfl rfl BB4.o (by kernel_rfl) ?_)|(refine ag rfl rfl rfl BB4.o (by kernel_rfl) ?_))
  refine(XA.o w4).mono ?_
  rintro e w5 ⟨rfl,h⟩
  have BA5:=hQQ (h.block BA4.o)
  have BB5:=hQQ (h.block BB4.o)
  have M5:=hQQ (M4.o.trans h)
  clear h
  go_wp2_with (first|(refine ag rfl rfl rfl BA5.o (by kernel_rfl) ?_)|(refine ag rfl rfl rfl BA5.o (by kernel_rfl) ?_)|(refine ag rfl rfl rfl BB5.o (by kernel_rfl) ?_)|(refine ag rfl rfl rfl BB5.o (by kernel_rfl) ?_))
  refine(LA.o w5).mono ?_
  rintro e w6 ⟨rfl,h⟩
  have BA6:=hQQ (h.block BA5.o)
  have BB6:=hQQ (h.block BB5.o)
  have M6:=hQQ (M5.o.trans h)
  clear h
  go_wp2_with (first|(refine ag rfl rfl rfl BA6.o (by kernel_rfl) ?_)|(refine ag rfl rfl rfl BA6.o (by kernel_rfl) ?_)|(refine ag rfl rfl rfl BB6.o (by kernel_rfl) ?_)|(refine ag rfl rfl rfl BB6.o (by kernel_rfl) ?_))
  refine(LV.o _ M6.o).mono ?_
  rintro e w7 ⟨rfl,h⟩
  have BA7:=hQQ (h.block BA6.o)
  have BB7:=hQQ (h.block BB6.o)
  have M7:=hQQ (M6.o.trans h)
  clear h
  go_wp2_with fail
  go_ret
  exact⟨rfl,M7.o⟩
 have d2:decide (1099511627776<ma)=false:=decide_eq_false c2
 clear c2
 by_cases c3:1099511627776<mb
 ·have d3:decide (1099511627776<mb)=true:=decide_eq_true c3
  have dg:decide (0≤la)=true:=decide_eq_true (by have:=of_decide_eq_false d0;omega)
  clear c3
  go_enter Tryz.func4,Tryz.ntmps4
  go_wp2_with (first|(refine ag rfl rfl rfl BA2.o (by kernel_rfl) ?_)|(refine ag rfl rfl rfl BA2.o (by kernel_rfl) ?_)|(refine ag rfl rfl rfl BB2.o (by kernel_rfl) ?_)|(refine ag rfl rfl rfl BB2.o (by kernel_rfl) ?_))
  refine(LA.o w2).mono ?_
  rintro e w3 ⟨rfl,h⟩
  have BA3:=hQQ (h.block BA2.o)
  have BB3:=hQQ (h.block BB2.o)
  have M3:=hQQ (M2.o.trans h)
  clear h
  go_wp2_with (first|(refine ag rfl rfl rfl BA3.o (by kernel_rfl) ?_)|(refine ag rfl rfl rfl BA3.o (by kernel_rfl) ?_)|(refine ag rfl rfl rfl BB3.o (by kernel_rfl) ?_)|(refine ag rfl rfl rfl BB3.o (by kernel_rfl) ?_))
  refine(LB.o w3).mono ?_
  rintro e w4 ⟨rfl,h⟩
  have BA4:=hQQ (h.block BA3.o)
  have BB4:=hQQ (h.block BB3.o)
  have M4:=hQQ (M3.o.trans h)
  clear h
  go_wp2_with (first|(refine ag rfl rfl rfl BA4.o (by kernel_rfl) ?_)|(refine ag rfl rfl rfl BA4.o (by kernel_rfl) ?_)|(refine ag rfl rfl rfl BB4.o (by kernel_rfl) ?_)|(refine ag rfl rfl rfl BB4.o (by kernel_rfl) ?_))
  refine(XA.o w4).mono ?_
  rintro e w5 ⟨rfl,h⟩
  have BA5:=hQQ (h.block BA4.o)
  have BB5:=hQQ (h.block BB4.o)
  have M5:=hQQ (M4.o.trans h)
  clear h
  go_wp2_with (first|(refine ag rfl rfl rfl BA5.o (by kernel_rfl) ?_)|(refine ag rfl rfl rfl BA5.o (by kernel_rfl) ?_)|(refine ag rfl rfl rfl BB5.o (by kernel_rfl) ?_)|(refine ag rfl rfl rfl BB5.o (by kernel_rfl) ?_))
  refine(XB.o w5).mono ?_
  rintro e w6 ⟨rfl,h⟩
  have BA6:=hQQ (h.block BA5.o)
  have BB6:=hQQ (h.block BB5.o)
  have M6:=hQQ (M5.o.trans h)
  clear h
  go_wp2_with (first|(refine ag rfl rfl rfl BA6.o (by kernel_rfl) ?_)|(refine ag rfl rfl rfl BA6.o (by kernel_rfl) ?_)|(refine ag rfl rfl rfl BB6.o (by kernel_rfl) ?_)|(refine ag rfl rfl rfl BB6.o (by kernel_rfl) ?_))
  refine(LA.o w6).mono ?_
  rintro e w7 ⟨rfl,h⟩
  have BA7:=hQQ (h.block BA6.o)
  have BB7:=hQQ (h.block BB6.o)
  have M7:=hQQ (M6.o.trans h)
  clear h
  go_wp2_with (first|(refine ag rfl rfl rfl BA7.o (by kernel_rfl) ?_)|(refine ag rfl rfl rfl BA7.o (by kernel_rfl) ?_)|(refine ag rfl rfl rfl BB7.o (by kernel_rfl) ?_)|(refine ag rfl rfl rfl BB7.o (by kernel_rfl) ?_))
  refine(LV.o _ M7.o).mono ?_
  rintro e w8 ⟨rfl,h⟩
  have BA8:=hQQ (h.block BA7.o)
  have BB8:=hQQ (h.block BB7.o)
  have M8:=hQQ (M7.o.trans h)
  clear h
  go_wp2_with fail
  go_ret
  exact⟨rfl,M8.o⟩
 have d3:decide (1099511627776<mb)=false:=decide_eq_false c3
 clear c3
 go_enter Tryz.func4,Tryz.ntmps4
 go_wp2_with (first|(refine ag rfl rfl rfl BA2.o (by kernel_rfl) ?_)|(refine ag rfl rfl rfl BA2.o (by kernel_rfl) ?_)|(refine ag rfl rfl rfl BB2.o (by kernel_rfl) ?_)|(refine ag rfl rfl rfl BB2.o (by kernel_rfl) ?_))
 refine(LA.o w2).mono ?_
 rintro e w3 ⟨rfl,h⟩
 have BA3:=hQQ (h.block BA2.o)
 have BB3:=hQQ (h.block BB2.o)
 have M3:=hQQ (M2.o.trans h)
 clear h
 go_wp2_with (first|(refine ag rfl rfl rfl BA3.o (by kernel_rfl) ?_)|(refine ag rfl rfl rfl BA3.o (by kernel_rfl) ?_)|(refine ag rfl rfl rfl BB3.o (by kernel_rfl) ?_)|(refine ag rfl rfl rfl BB3.o (by kernel_rfl) ?_))
 refine(LB.o w3).mono ?_
 rintro e w4 ⟨rfl,h⟩
 have BA4:=hQQ (h.block BA3.o)
 have BB4:=hQQ (h.block BB3.o)
 have M4:=hQQ (M3.o.trans h)
 clear h
 go_wp2_with (first|(refine ag rfl rfl rfl BA4.o (by kernel_rfl) ?_)|(refine ag rfl rfl rfl BA4.o (by kernel_rfl) ?_)|(refine ag rfl rfl rfl BB4.o (by kernel_rfl) ?_)|(refine ag rfl rfl rfl BB4.o (by kernel_rfl) ?_))
 refine(XA.o w4).mono ?_
 rintro e w5 ⟨rfl,h⟩
 have BA5:=hQQ (h.block BA4.o)
 have BB5:=hQQ (h.block BB4.o)
 have M5:=hQQ (M4.o.trans h)
 clear h
 go_wp2_with (first|(refine ag rfl rfl rfl BA5.o (by kernel_rfl) ?_)|(refine ag rfl rfl rfl BA5.o (by kernel_rfl) ?_)|(refine ag rfl rfl rfl BB5.o (by kernel_rfl) ?_)|(refine ag rfl rfl rfl BB5.o (by kernel_rfl) ?_))
 refine(XB.o w5).mono ?_
 rintro e w6 ⟨rfl,h⟩
 have BA6:=hQQ (h.block BA5.o)
 have BB6:=hQQ (h.block BB5.o)
 have M6:=hQQ (M5.o.trans h)
 clear h
 have dq:(rl==rl)=true:=by simp
 have HEQ:=hQQ (Ak (bj a b))
 go_wp2_with (first|(refine ag rfl rfl rfl BA6.o (by kernel_rfl) ?_)|(refine ag rfl rfl rfl BA6.o (by kernel_rfl) ?_)|(refine ag rfl rfl rfl BB6.o (by kernel_rfl) ?_)|(refine ag rfl rfl rfl BB6.o (by kernel_rfl) ?_))
 refine au (by kernel_rfl) (by kernel_rfl) ?_
 refine ae rfl 38 _ rfl _ rfl 38 _ _ _ (fun W hW=>hW.block BA6.o) Tryz.underlying38 rfl (by kernel_rfl) ?_
 with_reducible refine wpQuiet_step (fun K hK=>?_)
 go_simp
 first
 |(refine hK _ ?_;clear hK K)
 |(apply Exists.intro
   refine⟨fun W hW=>?_,hK _ ?_⟩
   first
   |(go_at_call 18;exact Calls.more hW (TR.o W))
   clear hK K)
 refine ae rfl 38 _ rfl _ rfl 38 _ _ _ (fun W hW=>hW.block BA6.o) Tryz.underlying38 rfl (by kernel_rfl) ?_
 with_reducible refine wpQuiet_step (fun K hK=>?_)
 go_simp
 first
 |(refine hK _ ?_;clear hK K)
 |(apply Exists.intro
   refine⟨fun W hW=>?_,hK _ ?_⟩
   first
   |(go_at_call 19;exact Calls.more hW (TR2.o W))
   clear hK K)
 with_reducible refine wpQuiet_step (fun K hK=>?_)
 go_simp
 first
 |(refine hK _ ?_;clear hK K)
 |(apply Exists.intro
   refine⟨fun W hW=>?_,hK _ ?_⟩
   first
   |(go_simp;try rfl)
   clear hK K)
 with_reducible refine wpQuiet_step (fun K hK=>?_)
 go_simp
 first
 |(refine hK _ ?_;clear hK K)
 |(apply Exists.intro
   refine⟨fun W hW=>?_,hK _ ?_⟩
   first
   |(go_simp;try rfl)
   clear hK K)
 refine ae rfl 38 _ rfl _ rfl 38 _ _ _ (fun W hW=>hW.block BA6.o) Tryz.underlying38 rfl (by kernel_rfl) ?_
 refine ae rfl 38 _ rfl _ rfl 38 _ _ _ (fun W hW=>hW.block BB6.o) Tryz.underlying38 rfl (by kernel_rfl) ?_
 with_reducible refine wpQuiet_step (fun K hK=>?_)
 go_simp
 first
 |(refine hK _ ?_;clear hK K)
 |(apply Exists.intro
   refine⟨fun W hW=>?_,hK _ ?_⟩
   first
   |(go_at_call 20;exact Calls.more hW (S1.o W))
   clear hK K)
 refine ae rfl 38 _ rfl _ rfl 38 _ _ _ (fun W hW=>hW.block BA6.o) Tryz.underlying38 rfl (by kernel_rfl) ?_
 refine ae rfl 38 _ rfl _ rfl 38 _ _ _ (fun W hW=>hW.block BB6.o) Tryz.underlying38 rfl (by kernel_rfl) ?_
 with_reducible refine wpQuiet_step (fun K hK=>?_)
 go_simp
 first
 |(refine hK _ ?_;clear hK K)
 |(apply Exists.intro
   refine⟨fun W hW=>?_,hK _ ?_⟩
   first
   |(go_at_call 21;exact Calls.more hW (S2.o W))
   clear hK K)
 refine cR _ _ (by with_reducible rfl) rfl (bj a b) (bj a b) rfl rfl true HEQ.o ?_
 with_reducible refine wpQuiet_step (fun K hK=>?_)
 go_simp
 first
 |(refine hK _ ?_;clear hK K)
 |(apply Exists.intro
   refine⟨fun W hW=>?_,hK _ ?_⟩
   first
   |(go_simp;try rfl)
   clear hK K)
 with_reducible refine wpQuiet_step (fun K hK=>?_)
 go_simp
 first
 |(refine hK _ ?_;clear hK K)
 |(apply Exists.intro
   refine⟨fun W hW=>?_,hK _ ?_⟩
   first
   |(go_simp;try rfl)
   clear hK K)
 with_reducible refine wpQuiet_step (fun K hK=>?_)
 go_simp
 first
 |(refine hK _ ?_;clear hK K)
 |(apply Exists.intro
   refine⟨fun W hW=>?_,hK _ ?_⟩
   first
   |(go_at_call 7;exact Calls.more hW (LV.o W (M6.o.trans hW)))
   clear hK K)
 with_reducible refine wpQuiet_step (fun K hK=>?_)
 go_simp
 first
 |(refine hK _ ?_;clear hK K)
 |(apply Exists.intro
   refine⟨fun W hW=>?_,hK _ ?_⟩
   first
   |(go_simp;try rfl)
   clear hK K)
 with_reducible refine wpQuiet_step (fun K hK=>?_)
 go_simp
 first
 |(refine hK _ ?_;clear hK K)
 |(apply Exists.intro
   refine⟨fun W hW=>?_,hK _ ?_⟩
   first
   |(go_simp;try rfl)
   clear hK K)
 refine wpQuiet_nil ?_
 intro w9 h9
 have M9:=hQQ (M6.o.trans h9)
 clear h9
 go_wp2_with fail
 go_ret
 exact⟨rfl,M9.o⟩
theorem rC (x0 x1 x2 x3 x4 x5 x6 y0 y1 y2 y3 y4 y5 y6:Int)(w:World)(hs:n6 w) (_:(Lit.int IntKind.i64 x0).wf=true) (_:(Lit.int IntKind.i64 x1).wf=true) (_:(Lit.int IntKind.i64 x2).wf=true) (_:(Lit.int IntKind.i64 x3).wf=true) (_:(Lit.int IntKind.i64 x4).wf=true) (_:(Lit.int IntKind.i64 x5).wf=true) (_:(Lit.int IntKind.i64 x6).wf=true) (_:(Lit.int IntKind.i64 y0).wf=true) (_:(Lit.int IntKind.i64 y1).wf=true) (_:(Lit.int IntKind.i64 y2).wf=true) (_:(Lit.int IntKind.i64 y3).wf=true) (_:(Lit.int IntKind.i64 y4).wf=true) (_:(Lit.int IntKind.i64 y5).wf=true) (_:(Lit.int IntKind.i64 y6).wf=true):
 Calls Tryz.prog 4 #[.agg #[.int .i64 x0,.int .i64 x1,.int .i64 x2,.int .i64 x3,.int .i64 x4,.int .i64 x5,.int .i64 x6],.agg #[.int .i64 y0,.int .i64 y1,.int .i64 y2,.int .i64 y3,.int .i64 y4,.int .i64 y5,.int .i64 y6]] w (fun e w'=>e=.returned (.bool true)∧Turned (fun _=>False) w w'):=by
 obtain⟨bt,h⟩:=hs
 exact tG (bt:=bt) ⟨x0,x1,x2,x3,x4,x5,x6⟩ ⟨y0,y1,y2,y3,y4,y5,y6⟩ w h
theorem Al (a b:TS):bj a b=bj b a:=by simp[bj,Int.add_comm]
theorem gD {x:Int}(h0: -9223372036854775808≤x)(h1:x≤9223372036854775807):wrap64 x=x:=by unfold wrap64;omega
theorem fm {a b:TS}(ha:0≤bR a)(hb:0≤bR b)(h1:dB a≤549755813888)(h2:dB b≤549755813888):bj a b=⟨a.bl+b.bl,a.ak+b.ak,a.wo+b.wo,a.ke+b.ke,a.op+b.op,a.ma+b.ma,a.us+b.us⟩:=by
 obtain⟨a1,a2,a3,a4,a5,a6,a7⟩:=(fV a 0).1 ha
 obtain⟨b1,b2,b3,b4,b5,b6,b7⟩:=(fV b 0).1 hb
 obtain⟨c1,c2,c3,c4,c5,c6,c7⟩:=(gO a _).1 h1
 obtain⟨d1,d2,d3,d4,d5,d6,d7⟩:=(gO b _).1 h2
 unfold bj
 rw[gD (by omega) (by omega),gD (by omega) (by omega),gD (by omega) (by omega),gD (by omega) (by omega),gD (by omega) (by omega),gD (by omega) (by omega),gD (by omega) (by omega)]
theorem jO {a b:TS}{m:Int}(hm:m≤274877906944)(ha:0≤bR a)(hb:0≤bR b)(h1:dB a≤m)(h2:dB b≤m):0≤bR (bj a b)∧dB (bj a b)≤2 * m:=by
 rw[fm ha hb (by omega) (by omega)]
 obtain⟨a1,a2,a3,a4,a5,a6,a7⟩:=(fV a 0).1 ha
 obtain⟨b1,b2,b3,b4,b5,b6,b7⟩:=(fV b 0).1 hb
 obtain⟨c1,c2,c3,c4,c5,c6,c7⟩:=(gO a _).1 h1
 obtain⟨d1,d2,d3,d4,d5,d6,d7⟩:=(gO b _).1 h2
 refine⟨(fV _ _).2 ⟨?_,?_,?_,?_,?_,?_,?_⟩,(gO _ _).2 ⟨?_,?_,?_,?_,?_,?_,?_⟩⟩<;>simp only<;>omega
theorem wZ {a b c:TS}(ha:0≤bR a)(hb:0≤bR b)(hc:0≤bR c)(h1:dB a≤274877906944)(h2:dB b≤274877906944)(h3:dB c≤274877906944):bj (bj a b) c=bj a (bj b c):=by
 have x1:=jO (Int.le_refl _) ha hb h1 h2
 have x2:=jO (Int.le_refl _) hb hc h2 h3
 rw[fm x1.1 hc (by omega) (by omega),fm ha x2.1 (by omega) (by omega),fm ha hb (by omega) (by omega),fm hb hc (by omega) (by omega)]
 simp only[TS.mk.injEq]
 exact⟨by omega,by omega,by omega,by omega,by omega,by omega,by omega⟩
theorem Am {a:TS}(ha:0≤bR a)(h1:dB a≤274877906944):bj a noT=a:=by
 rw[fm ha (by decide) (by omega) (by decide)]
 cases a
 simp[noT]
theorem xb {a:TS} :dC a=true↔0≤bR a∧a.wo≤35184372088832∧a.ke≤35184372088832∧a.us≤1099511627776∧a.ak≤a.wo∧a.bl≤a.wo∧a.us≤a.ma∧a.op=wrap64 (wrap64 (wrap64 (a.us * 32)-a.wo)-a.ke):=by
 simp only[dC,Bool.and_eq_true,decide_eq_true_eq,tB,beq_iff_eq,and_assoc]
theorem iW {a:TS}(hl:0≤bR a)(hm:dB a≤1099511627776):dC a=true↔a.ak≤a.wo∧a.bl≤a.wo∧a.us≤a.ma∧a.op=32 * a.us-a.wo-a.ke:=by
 obtain⟨a1,a2,a3,a4,a5,a6,a7⟩:=(fV a 0).1 hl
 obtain⟨c1,c2,c3,c4,c5,c6,c7⟩:=(gO a _).1 hm
 rw[xb,gD (x:=a.us * 32) (by omega) (by omega),gD (x:=a.us * 32-a.wo) (by omega) (by omega),gD (by omega) (by omega)]
 constructor
 ·rintro⟨_,_,_,_,h5,h6,h7,h8⟩;exact⟨h5,h6,h7,by omega⟩
 ·rintro⟨h5,h6,h7,h8⟩;exact⟨hl,by omega,by omega,by omega,h5,h6,h7,by omega⟩
theorem xd {a b:TS}(ha:0≤bR a)(hb:0≤bR b)(h1:dB a≤274877906944)(h2:dB b≤274877906944)(r1:dC a=true)(r2:dC b=true):dC (bj a b)=true:=by
 have x1:=jO (Int.le_refl _) ha hb h1 h2
 rw[iW x1.1 (by omega),fm ha hb (by omega) (by omega)]
 rw[iW ha (by omega)] at r1
 rw[iW hb (by omega)] at r2
 simp only
 omega
theorem Ao {bt:Nat}(a b c:TS)(w:World)(hs:gK bt w):Calls Tryz.prog 6 #[.agg a.arr,.agg b.arr,.agg c.arr] w (aD w (.bool true)):=by
 have LA:=iV a
 have LB:=iV b
 have LC:=iV c
 have XA:=ku a
 have XB:=ku b
 have XC:=ku c
 have TA:=kt a
 have TB:=kt b
 have TD:=kt (bj a b)
 have SD:=fun W=>kr a b W
 have SE:=fun W=>kr b a W
 have SF:=fun W=>kr (bj a b) c W
 have SG:=fun W=>kr b c W
 have SH:=fun W=>kr a (bj b c) W
 have SI:=fun W=>kr a noT W
 obtain⟨w3,e3,hba,hbb,hbc,m3,s3⟩:=kE w (.cells a.arr 38) (.cells b.arr 38) (.cells c.arr 38)
 have BA3:=hQQ hba
 have BB3:=hQQ hbb
 have BC3:=hQQ hbc
 have M3:=hQQ m3
 have LV:Hq (∀W,ac w W→Calls Tryz.prog 7 #[] W (aD W (.bool true))):=hQQ fun W m=>ni bt W (hs.more m)
 have r1:0≤bR a→0≤bR b→dB a≤274877906944→dB b≤274877906944→dC a=true→dC b=true→dC (bj a b)=true:=xd
 have r2:0≤bR a→0≤bR b→0≤bR c→dB a≤274877906944→dB b≤274877906944→dB c≤274877906944→bj (bj a b) c=bj a (bj b c):=wZ
 have r3:0≤bR a→dB a≤274877906944→bj a noT=a:=Am
 generalize bR a=la at LA r1 r2 r3
 generalize bR b=lb at LB r1 r2 r3
 generalize bR c=lc at LC r1 r2 r3
 generalize dB a=ma at XA r1 r2 r3
 generalize dB b=mb at XB r1 r2 r3
 generalize dB c=mc at XC r1 r2 r3
 generalize dC a=ra at TA r1 r2 r3
 generalize dC b=rb at TB r1 r2 r3
 generalize dC (bj a b)=rd at TD r1 r2 r3
 have LA:=hQQ LA
 have LB:=hQQ LB
 have LC:=hQQ LC
 have XA:=hQQ XA
 have XB:=hQQ XB
 have XC:=hQQ XC
 have TA:=hQQ TA
 have TB:=hQQ TB
 have TD:=hQQ TD
 have SD:=hQQ SD
 have SE:=hQQ SE
 have SF:=hQQ SF
 have SG:=hQQ SG
 have SH:=hQQ SH
 have SI:=hQQ SI
 have R1:=hQQ r1
 have R2:=hQQ r2
 have R3:=hQQ r3
 clear hba hbb hbc m3 s3 hs r1 r2 r3
 by_cases c0:274877906944<ma
 ·have d0:decide (274877906944<ma)=true:=decide_eq_true c0
  clear c0
  go_enter Tryz.func6,Tryz.ntmps6
  go_wp2_with (first|(refine ag rfl rfl rfl BA3.o (by kernel_rfl) ?_)|(refine ag rfl rfl rfl BA3.o (by kernel_rfl) ?_)|(refine ag rfl rfl rfl BB3.o (by kernel_rfl) ?_)|(refine ag rfl rfl rfl BB3.o (by kernel_rfl) ?_)|(refine ag rfl rfl rfl BC3.o (by kernel_rfl) ?_)|(refine ag rfl rfl rfl BC3.o (by kernel_rfl) ?_))
  refine(XA.o w3).mono ?_
  rintro e w4 ⟨rfl,h⟩
  have BA4:=hQQ (h.block BA3.o)
  have BB4:=hQQ (h.block BB3.o)
  have BC4:=hQQ (h.block BC3.o)
  have M4:=hQQ (M3.o.trans h)
  clear h
  go_wp2_with (first|(refine ag rfl rfl rfl BA4.o (by kernel_rfl) ?_)|(refine ag rfl rfl rfl BA4.o (by kernel_rfl) ?_)|(refine ag rfl rfl rfl BB4.o (by kernel_rfl) ?_)|(refine ag rfl rfl rfl BB4.o (by kernel_rfl) ?_)|(refine ag rfl rfl rfl BC4.o (by kernel_rfl) ?_)|(refine ag rfl rfl rfl BC4.o (by kernel_rfl) ?_))
  refine(LV.o _ M4.o).mono ?_
  rintro e w5 ⟨rfl,h⟩
  have BA5:=hQQ (h.block BA4.o)
  have BB5:=hQQ (h.block BB4.o)
  have BC5:=hQQ (h.block BC4.o)
  have M5:=hQQ (M4.o.trans h)
  clear h
  go_wp2_with fail
  go_ret
  exact⟨rfl,M5.o⟩
 have d0:decide (274877906944<ma)=false:=decide_eq_false c0
 clear c0
 by_cases c1:274877906944<mb
 ·have d1:decide (274877906944<mb)=true:=decide_eq_true c1
  clear c1
  go_enter Tryz.func6,Tryz.ntmps6
  go_wp2_with (first|(refine ag rfl rfl rfl BA3.o (by kernel_rfl) ?_)|(refine ag rfl rfl rfl BA3.o (by kernel_rfl) ?_)|(refine ag rfl rfl rfl BB3.o (by kernel_rfl) ?_)|(refine ag rfl rfl rfl BB3.o (by kernel_rfl) ?_)|(refine ag rfl rfl rfl BC3.o (by kernel_rfl) ?_)|(refine ag rfl rfl rfl BC3.o (by kernel_rfl) ?_))
  refine(XA.o w3).mono ?_
  rintro e w4 ⟨rfl,h⟩
  have BA4:=hQQ (h.block BA3.o)
  have BB4:=hQQ (h.block BB3.o)
  have BC4:=hQQ (h.block BC3.o)
  have M4:=hQQ (M3.o.trans h)
  clear h
  go_wp2_with (first|(refine ag rfl rfl rfl BA4.o (by kernel_rfl) ?_)|(refine ag rfl rfl rfl BA4.o (by kernel_rfl) ?_)|(refine ag rfl rfl rfl BB4.o (by kernel_rfl) ?_)|(refine ag rfl rfl rfl BB4.o (by kernel_rfl) ?_)|(refine ag rfl rfl rfl BC4.o (by kernel_rfl) ?_)|(refine ag rfl rfl rfl BC4.o (by kernel_rfl) ?_))
  refine(XB.o w4).mono ?_
  rintro e w5 ⟨rfl,h⟩
  have BA5:=hQQ (h.block BA4.o)
  have BB5:=hQQ (h.block BB4.o)
  have BC5:=hQQ (h.block BC4.o)
  have M5:=hQQ (M4.o.trans h)
  clear h
  go_wp2_with (first|(refine ag rfl rfl rfl BA5.o (by kernel_rfl) ?_)|(refine ag rfl rfl rfl BA5.o (by kernel_rfl) ?_)|(refine ag rfl rfl rfl BB5.o (by kernel_rfl) ?_)|(refine ag rfl rfl rfl BB5.o (by kernel_rfl) ?_)|(refine ag rfl rfl rfl BC5.o (by kernel_rfl) ?_)|(refine ag rfl rfl rfl BC5.o (by kernel_rfl) ?_))
  refine(LV.o _ M5.o).mono ?_
  rintro e w6 ⟨rfl,h⟩
  have BA6:=hQQ (h.block BA5.o)
  have BB6:=hQQ (h.block BB5.o)
  have BC6:=hQQ (h.block BC5.o)
  have M6:=hQQ (M5.o.trans h)
  clear h
  go_wp2_with fail
  go_ret
  exact⟨rfl,M6.o⟩
 have d1:decide (274877906944<mb)=false:=decide_eq_false c1
 clear c1
 by_cases c2:274877906944<mc
 ·have d2:decide (274877906944<mc)=true:=decide_eq_true c2
  clear c2
  go_enter Tryz.func6,Tryz.ntmps6
  go_wp2_with (first|(refine ag rfl rfl rfl BA3.o (by kernel_rfl) ?_)|(refine ag rfl rfl rfl BA3.o (by kernel_rfl) ?_)|(refine ag rfl rfl rfl BB3.o (by kernel_rfl) ?_)|(refine ag rfl rfl rfl BB3.o (by kernel_rfl) ?_)|(refine ag rfl rfl rfl BC3.o (by kernel_rfl) ?_)|(refine ag rfl rfl rfl BC3.o (by kernel_rfl) ?_))
  refine(XA.o w3).mono ?_
  rintro e w4 ⟨rfl,h⟩
  have BA4:=hQQ (h.block BA3.o)
  have BB4:=hQQ (h.block BB3.o)
  have BC4:=hQQ (h.block BC3.o)
  have M4:=hQQ (M3.o.trans h)
  clear h
  go_wp2_with (first|(refine ag rfl rfl rfl BA4.o (by kernel_rfl) ?_)|(refine ag rfl rfl rfl BA4.o (by kernel_rfl) ?_)|(refine ag rfl rfl rfl BB4.o (by kernel_rfl) ?_)|(refine ag rfl rfl rfl BB4.o (by kernel_rfl) ?_)|(refine ag rfl rfl rfl BC4.o (by kernel_rfl) ?_)|(refine ag rfl rfl rfl BC4.o (by kernel_rfl) ?_))
  refine(XB.o w4).mono ?_
  rintro e w5 ⟨rfl,h⟩
  have BA5:=hQQ (h.block BA4.o)
  have BB5:=hQQ (h.block BB4.o)
  have BC5:=hQQ (h.block BC4.o)
  have M5:=hQQ (M4.o.trans h)
  clear h
  go_wp2_with (first|(refine ag rfl rfl rfl BA5.o (by kernel_rfl) ?_)|(refine ag rfl rfl rfl BA5.o (by kernel_rfl) ?_)|(refine ag rfl rfl rfl BB5.o (by kernel_rfl) ?_)|(refine ag rfl rfl rfl BB5.o (by kernel_rfl) ?_)|(refine ag rfl rfl rfl BC5.o (by kernel_rfl) ?_)|(refine ag rfl rfl rfl BC5.o (by kernel_rfl) ?_))
  refine(XC.o w5).mono ?_
  rintro e w6 ⟨rfl,h⟩
  have BA6:=hQQ (h.block BA5.o)
  have BB6:=hQQ (h.block BB5.o)
  have BC6:=hQQ (h.block BC5.o)
  have M6:=hQQ (M5.o.trans h)
  clear h
  go_wp2_with (first|(refine ag rfl rfl rfl BA6.o (by kernel_rfl) ?_)|(refine ag rfl rfl rfl BA6.o (by kernel_rfl) ?_)|(refine ag rfl rfl rfl BB6.o (by kernel_rfl) ?_)|(refine ag rfl rfl rfl BB6.o (by kernel_rfl) ?_)|(refine ag rfl rfl rfl BC6.o (by kernel_rfl) ?_)|(refine ag rfl rfl rfl BC6.o (by kernel_rfl) ?_))
  refine(LV.o _ M6.o).mono ?_
  rintro e w7 ⟨rfl,h⟩
  have BA7:=hQQ (h.block BA6.o)
  have BB7:=hQQ (h.block BB6.o)
  have BC7:=hQQ (h.block BC6.o)
  have M7:=hQQ (M6.o.trans h)
  clear h
  go_wp2_with fail
  go_ret
  exact⟨rfl,M7.o⟩
 have d2:decide (274877906944<mc)=false:=decide_eq_false c2
 clear c2
 by_cases c3:la<0
 ·have d3:decide (la<0)=true:=decide_eq_true c3
  clear c3
  go_enter Tryz.func6,Tryz.ntmps6
  go_wp2_with (first|(refine ag rfl rfl rfl BA3.o (by kernel_rfl) ?_)|(refine ag rfl rfl rfl BA3.o (by kernel_rfl) ?_)|(refine ag rfl rfl rfl BB3.o (by kernel_rfl) ?_)|(refine ag rfl rfl rfl BB3.o (by kernel_rfl) ?_)|(refine ag rfl rfl rfl BC3.o (by kernel_rfl) ?_)|(refine ag rfl rfl rfl BC3.o (by kernel_rfl) ?_))
  refine(XA.o w3).mono ?_
  rintro e w4 ⟨rfl,h⟩
  have BA4:=hQQ (h.block BA3.o)
  have BB4:=hQQ (h.block BB3.o)
  have BC4:=hQQ (h.block BC3.o)
  have M4:=hQQ (M3.o.trans h)
  clear h
  go_wp2_with (first|(refine ag rfl rfl rfl BA4.o (by kernel_rfl) ?_)|(refine ag rfl rfl rfl BA4.o (by kernel_rfl) ?_)|(refine ag rfl rfl rfl BB4.o (by kernel_rfl) ?_)|(refine ag rfl rfl rfl BB4.o (by kernel_rfl) ?_)|(refine ag rfl rfl rfl BC4.o (by kernel_rfl) ?_)|(refine ag rfl rfl rfl BC4.o (by kernel_rfl) ?_))
  refine(XB.o w4).mono ?_
  rintro e w5 ⟨rfl,h⟩
  have BA5:=hQQ (h.block BA4.o)
  have BB5:=hQQ (h.block BB4.o)
  have BC5:=hQQ (h.block BC4.o)
  have M5:=hQQ (M4.o.trans h)
  clear h
  go_wp2_with (first|(refine ag rfl rfl rfl BA5.o (by kernel_rfl) ?_)|(refine ag rfl rfl rfl BA5.o (by kernel_rfl) ?_)|(refine ag rfl rfl rfl BB5.o (by kernel_rfl) ?_)|(refine ag rfl rfl rfl BB5.o (by kernel_rfl) ?_)|(refine ag rfl rfl rfl BC5.o (by kernel_rfl) ?_)|(refine ag rfl rfl rfl BC5.o (by kernel_rfl) ?_))
  refine(XC.o w5).mono ?_
  rintro e w6 ⟨rfl,h⟩
  have BA6:=hQQ (h.block BA5.o)
  have BB6:=hQQ (h.block BB5.o)
  have BC6:=hQQ (h.block BC5.o)
  have M6:=hQQ (M5.o.trans h)
  clear h
  go_wp2_with (first|(refine ag rfl rfl rfl BA6.o (by kernel_rfl) ?_)|(refine ag rfl rfl rfl BA6.o (by kernel_rfl) ?_)|(refine ag rfl rfl rfl BB6.o (by kernel_rfl) ?_)|(refine ag rfl rfl rfl BB6.o (by kernel_rfl) ?_)|(refine ag rfl rfl rfl BC6.o (by kernel_rfl) ?_)|(refine ag rfl rfl rfl BC6.o (by kernel_rfl) ?_))
  refine(LA.o w6).mono ?_
  rintro e w7 ⟨rfl,h⟩
  have BA7:=hQQ (h.block BA6.o)
  have BB7:=hQQ (h.block BB6.o)
  have BC7:=hQQ (h.block BC6.o)
  have M7:=hQQ (M6.o.trans h)
  clear h
  go_wp2_with (first|(refine ag rfl rfl rfl BA7.o (by kernel_rfl) ?_)|(refine ag rfl rfl rfl BA7.o (by kernel_rfl) ?_)|(refine ag rfl rfl rfl BB7.o (by kernel_rfl) ?_)|(refine ag rfl rfl rfl BB7.o (by kernel_rfl) ?_)|(refine ag rfl rfl rfl BC7.o (by kernel_rfl) ?_)|(refine ag rfl rfl rfl BC7.o (by kernel_rfl) ?_))
  refine(LV.o _ M7.o).mono ?_
  rintro e w8 ⟨rfl,h⟩
  have BA8:=hQQ (h.block BA7.o)
  have BB8:=hQQ (h.block BB7.o)
  have BC8:=hQQ (h.block BC7.o)
  have M8:=hQQ (M7.o.trans h)
  clear h
  go_wp2_with fail
  go_ret
  exact⟨rfl,M8.o⟩
 have d3:decide (la<0)=false:=decide_eq_false c3
 clear c3
 by_cases c4:lb<0
 ·have d4:decide (lb<0)=true:=decide_eq_true c4
  clear c4
  go_enter Tryz.func6,Tryz.ntmps6
  go_wp2_with (first|(refine ag rfl rfl rfl BA3.o (by kernel_rfl) ?_)|(refine ag rfl rfl rfl BA3.o (by kernel_rfl) ?_)|(refine ag rfl rfl rfl BB3.o (by kernel_rfl) ?_)|(refine ag rfl rfl rfl BB3.o (by kernel_rfl) ?_)|(refine ag rfl rfl rfl BC3.o (by kernel_rfl) ?_)|(refine ag rfl rfl rfl BC3.o (by kernel_rfl) ?_))
  refine(XA.o w3).mono ?_
  rintro e w4 ⟨rfl,h⟩
  have BA4:=hQQ (h.block BA3.o)
  have BB4:=hQQ (h.block BB3.o)
  have BC4:=hQQ (h.block BC3.o)
  have M4:=hQQ (M3.o.trans h)
  clear h
  go_wp2_with (first|(refine ag rfl rfl rfl BA4.o (by kernel_rfl) ?_)|(refine ag rfl rfl rfl BA4.o (by kernel_rfl) ?_)|(refine ag rfl rfl rfl BB4.o (by kernel_rfl) ?_)|(refine ag rfl rfl rfl BB4.o (by kernel_rfl) ?_)|(refine ag rfl rfl rfl BC4.o (by kernel_rfl) ?_)|(refine ag rfl rfl rfl BC4.o (by kernel_rfl) ?_))
  refine(XB.o w4).mono ?_
  rintro e w5 ⟨rfl,h⟩
  have BA5:=hQQ (h.block BA4.o)
  have BB5:=hQQ (h.block BB4.o)
  have BC5:=hQQ (h.block BC4.o)
  have M5:=hQQ (M4.o.trans h)
  clear h
  go_wp2_with (first|(refine ag rfl rfl rfl BA5.o (by kernel_rfl) ?_)|(refine ag rfl rfl rfl BA5.o (by kernel_rfl) ?_)|(refine ag rfl rfl rfl BB5.o (by kernel_rfl) ?_)|(refine ag rfl rfl rfl BB5.o (by kernel_rfl) ?_)|(refine ag rfl rfl rfl BC5.o (by kernel_rfl) ?_)|(refine ag rfl rfl rfl BC5.o (by kernel_rfl) ?_))
  refine(XC.o w5).mono ?_
  rintro e w6 ⟨rfl,h⟩
  have BA6:=hQQ (h.block BA5.o)
  have BB6:=hQQ (h.block BB5.o)
  have BC6:=hQQ (h.block BC5.o)
  have M6:=hQQ (M5.o.trans h)
  clear h
  go_wp2_with (first|(refine ag rfl rfl rfl BA6.o (by kernel_rfl) ?_)|(refine ag rfl rfl rfl BA6.o (by kernel_rfl) ?_)|(refine ag rfl rfl rfl BB6.o (by kernel_rfl) ?_)|(refine ag rfl rfl rfl BB6.o (by kernel_rfl) ?_)|(refine ag rfl rfl rfl BC6.o (by kernel_rfl) ?_)|(refine ag rfl rfl rfl BC6.o (by kernel_rfl) ?_))
  refine(LA.o w6).mono ?_
  rintro e w7 ⟨rfl,h⟩
  have BA7:=hQQ (h.block BA6.o)
  have BB7:=hQQ (h.block BB6.o)
  have BC7:=hQQ (h.block BC6.o)
  have M7:=hQQ (M6.o.trans h)
  clear h
  go_wp2_with (first|(refine ag rfl rfl rfl BA7.o (by kernel_rfl) ?_)|(refine ag rfl rfl rfl BA7.o (by kernel_rfl) ?_)|(refine ag rfl rfl rfl BB7.o (by kernel_rfl) ?_)|(refine ag rfl rfl rfl BB7.o (by kernel_rfl) ?_)|(refine ag rfl rfl rfl BC7.o (by kernel_rfl) ?_)|(refine ag rfl rfl rfl BC7.o (by kernel_rfl) ?_))
  refine(LB.o w7).mono ?_
  rintro e w8 ⟨rfl,h⟩
  have BA8:=hQQ (h.block BA7.o)
  have BB8:=hQQ (h.block BB7.o)
  have BC8:=hQQ (h.block BC7.o)
  have M8:=hQQ (M7.o.trans h)
  clear h
  go_wp2_with (first|(refine ag rfl rfl rfl BA8.o (by kernel_rfl) ?_)|(refine ag rfl rfl rfl BA8.o (by kernel_rfl) ?_)|(refine ag rfl rfl rfl BB8.o (by kernel_rfl) ?_)|(refine ag rfl rfl rfl BB8.o (by kernel_rfl) ?_)|(refine ag rfl rfl rfl BC8.o (by kernel_rfl) ?_)|(refine ag rfl rfl rfl BC8.o (by kernel_rfl) ?_))
  refine(LV.o _ M8.o).mono ?_
  rintro e w9 ⟨rfl,h⟩
  have BA9:=hQQ (h.block BA8.o)
  have BB9:=hQQ (h.block BB8.o)
  have BC9:=hQQ (h.block BC8.o)
  have M9:=hQQ (M8.o.trans h)
  clear h
  go_wp2_with fail
  go_ret
  exact⟨rfl,M9.o⟩
 have d4:decide (lb<0)=false:=decide_eq_false c4
 clear c4
 by_cases c5:lc<0
 ·have d5:decide (lc<0)=true:=decide_eq_true c5
  clear c5
  go_enter Tryz.func6,Tryz.ntmps6
  go_wp2_with (first|(refine ag rfl rfl rfl BA3.o (by kernel_rfl) ?_)|(refine ag rfl rfl rfl BA3.o (by kernel_rfl) ?_)|(refine ag rfl rfl rfl BB3.o (by kernel_rfl) ?_)|(refine ag rfl rfl rfl BB3.o (by kernel_rfl) ?_)|(refine ag rfl rfl rfl BC3.o (by kernel_rfl) ?_)|(refine ag rfl rfl rfl BC3.o (by kernel_rfl) ?_))
  refine(XA.o w3).mono ?_
  rintro e w4 ⟨rfl,h⟩
  have BA4:=hQQ (h.block BA3.o)
  have BB4:=hQQ (h.block BB3.o)
  have BC4:=hQQ (h.block BC3.o)
  have M4:=hQQ (M3.o.trans h)
  clear h
  go_wp2_with (first|(refine ag rfl rfl rfl BA4.o (by kernel_rfl) ?_)|(refine ag rfl rfl rfl BA4.o (by kernel_rfl) ?_)|(refine ag rfl rfl rfl BB4.o (by kernel_rfl) ?_)|(refine ag rfl rfl rfl BB4.o (by kernel_rfl) ?_)|(refine ag rfl rfl rfl BC4.o (by kernel_rfl) ?_)|(refine ag rfl rfl rfl BC4.o (by kernel_rfl) ?_))
  refine(XB.o w4).mono ?_
  rintro e w5 ⟨rfl,h⟩
  have BA5:=hQQ (h.block BA4.o)
  have BB5:=hQQ (h.block BB4.o)
  have BC5:=hQQ (h.block BC4.o)
  have M5:=hQQ (M4.o.trans h)
  clear h
  go_wp2_with (first|(refine ag rfl rfl rfl BA5.o (by kernel_rfl) ?_)|(refine ag rfl rfl rfl BA5.o (by kernel_rfl) ?_)|(refine ag rfl rfl rfl BB5.o (by kernel_rfl) ?_)|(refine ag rfl rfl rfl BB5.o (by kernel_rfl) ?_)|(refine ag rfl rfl rfl BC5.o (by kernel_rfl) ?_)|(refine ag rfl rfl rfl BC5.o (by kernel_rfl) ?_))
  refine(XC.o w5).mono ?_
  rintro e w6 ⟨rfl,h⟩
  have BA6:=hQQ (h.block BA5.o)
  have BB6:=hQQ (h.block BB5.o)
  have BC6:=hQQ (h.block BC5.o)
  have M6:=hQQ (M5.o.trans h)
  clear h
  go_wp2_with (first|(refine ag rfl rfl rfl BA6.o (by kernel_rfl) ?_)|(refine ag rfl rfl rfl BA6.o (by kernel_rfl) ?_)|(refine ag rfl rfl rfl BB6.o (by kernel_rfl) ?_)|(refine ag rfl rfl rfl BB6.o (by kernel_rfl) ?_)|(refine ag rfl rfl rfl BC6.o (by kernel_rfl) ?_)|(refine ag rfl rfl rfl BC6.o (by kernel_rfl) ?_))
  refine(LA.o w6).mono ?_
  rintro e w7 ⟨rfl,h⟩
  have BA7:=hQQ (h.block BA6.o)
  have BB7:=hQQ (h.block BB6.o)
  have BC7:=hQQ (h.block BC6.o)
  have M7:=hQQ (M6.o.trans h)
  clear h
  go_wp2_with (first|(refine ag rfl rfl rfl BA7.o (by kernel_rfl) ?_)|(refine ag rfl rfl rfl BA7.o (by kernel_rfl) ?_)|(refine ag rfl rfl rfl BB7.o (by kernel_rfl) ?_)|(refine ag rfl rfl rfl BB7.o (by kernel_rfl) ?_)|(refine ag rfl rfl rfl BC7.o (by kernel_rfl) ?_)|(refine ag rfl rfl rfl BC7.o (by kernel_rfl) ?_))
  refine(LB.o w7).mono ?_
  rintro e w8 ⟨rfl,h⟩
  have BA8:=hQQ (h.block BA7.o)
  have BB8:=hQQ (h.block BB7.o)
  have BC8:=hQQ (h.block BC7.o)
  have M8:=hQQ (M7.o.trans h)
  clear h
  go_wp2_with (first|(refine ag rfl rfl rfl BA8.o (by kernel_rfl) ?_)|(refine ag rfl rfl rfl BA8.o (by kernel_rfl) ?_)|(refine ag rfl rfl rfl BB8.o (by kernel_rfl) ?_)|(refine ag rfl rfl rfl BB8.o (by kernel_rfl) ?_)|(refine ag rfl rfl rfl BC8.o (by kernel_rfl) ?_)|(refine ag rfl rfl rfl BC8.o (by kernel_rfl) ?_))
  refine(LC.o w8).mono ?_
  rintro e w9 ⟨rfl,h⟩
  have BA9:=hQQ (h.block BA8.o)
  have BB9:=hQQ (h.block BB8.o)
  have BC9:=hQQ (h.block BC8.o)
  have M9:=hQQ (M8.o.trans h)
  clear h
  go_wp2_with (first|(refine ag rfl rfl rfl BA9.o (by kernel_rfl) ?_)|(refine ag rfl rfl rfl BA9.o (by kernel_rfl) ?_)|(refine ag rfl rfl rfl BB9.o (by kernel_rfl) ?_)|(refine ag rfl rfl rfl BB9.o (by kernel_rfl) ?_)|(refine ag rfl rfl rfl BC9.o (by kernel_rfl) ?_)|(refine ag rfl rfl rfl BC9.o (by kernel_rfl) ?_))
  refine(LV.o _ M9.o).mono ?_
  rintro e w10 ⟨rfl,h⟩
  have BA10:=hQQ (h.block BA9.o)
  have BB10:=hQQ (h.block BB9.o)
  have BC10:=hQQ (h.block BC9.o)
  have M10:=hQQ (M9.o.trans h)
  clear h
  go_wp2_with fail
  go_ret
  exact⟨rfl,M10.o⟩
 have d5:decide (lc<0)=false:=decide_eq_false c5
 clear c5
 have E1:=hQQ (p6.2 (Al a b))
 have E2:=hQQ (p6.2 (R2.o (by have:=of_decide_eq_false d3;omega) (by have:=of_decide_eq_false d4;omega) (by have:=of_decide_eq_false d5;omega) (by have:=of_decide_eq_false d0;omega) (by have:=of_decide_eq_false d1;omega) (by have:=of_decide_eq_false d2;omega)))
 have E3:=hQQ (p6.2 (R3.o (by have:=of_decide_eq_false d3;omega) (by have:=of_decide_eq_false d0;omega)))
 have hrd:=R1.o (by have:=of_decide_eq_false d3;omega) (by have:=of_decide_eq_false d4;omega) (by have:=of_decide_eq_false d0;omega) (by have:=of_decide_eq_false d1;omega)
 cases ra with
 |false =>
  clear hrd
  go_enter Tryz.func6,Tryz.ntmps6
  go_wp2_with (first|(refine ag rfl rfl rfl BA3.o (by kernel_rfl) ?_)|(refine ag rfl rfl rfl BA3.o (by kernel_rfl) ?_)|(refine ag rfl rfl rfl BB3.o (by kernel_rfl) ?_)|(refine ag rfl rfl rfl BB3.o (by kernel_rfl) ?_)|(refine ag rfl rfl rfl BC3.o (by kernel_rfl) ?_)|(refine ag rfl rfl rfl BC3.o (by kernel_rfl) ?_))
  refine(XA.o w3).mono ?_
  rintro e w4 ⟨rfl,h⟩
  have BA4:=hQQ (h.block BA3.o)
  have BB4:=hQQ (h.block BB3.o)
  have BC4:=hQQ (h.block BC3.o)
  have M4:=hQQ (M3.o.trans h)
  clear h
  go_wp2_with (first|(refine ag rfl rfl rfl BA4.o (by kernel_rfl) ?_)|(refine ag rfl rfl rfl BA4.o (by kernel_rfl) ?_)|(refine ag rfl rfl rfl BB4.o (by kernel_rfl) ?_)|(refine ag rfl rfl rfl BB4.o (by kernel_rfl) ?_)|(refine ag rfl rfl rfl BC4.o (by kernel_rfl) ?_)|(refine ag rfl rfl rfl BC4.o (by kernel_rfl) ?_))
  refine(XB.o w4).mono ?_
  rintro e w5 ⟨rfl,h⟩
  have BA5:=hQQ (h.block BA4.o)
  have BB5:=hQQ (h.block BB4.o)
  have BC5:=hQQ (h.block BC4.o)
  have M5:=hQQ (M4.o.trans h)
  clear h
  go_wp2_with (first|(refine ag rfl rfl rfl BA5.o (by kernel_rfl) ?_)|(refine ag rfl rfl rfl BA5.o (by kernel_rfl) ?_)|(refine ag rfl rfl rfl BB5.o (by kernel_rfl) ?_)|(refine ag rfl rfl rfl BB5.o (by kernel_rfl) ?_)|(refine ag rfl rfl rfl BC5.o (by kernel_rfl) ?_)|(refine ag rfl rfl rfl BC5.o (by kernel_rfl) ?_))
  refine(XC.o w5).mono ?_
  rintro e w6 ⟨rfl,h⟩
  have BA6:=hQQ (h.block BA5.o)
  have BB6:=hQQ (h.block BB5.o)
  have BC6:=hQQ (h.block BC5.o)
  have M6:=hQQ (M5.o.trans h)
  clear h
  go_wp2_with (first|(refine ag rfl rfl rfl BA6.o (by kernel_rfl) ?_)|(refine ag rfl rfl rfl BA6.o (by kernel_rfl) ?_)|(refine ag rfl rfl rfl BB6.o (by kernel_rfl) ?_)|(refine ag rfl rfl rfl BB6.o (by kernel_rfl) ?_)|(refine ag rfl rfl rfl BC6.o (by kernel_rfl) ?_)|(refine ag rfl rfl rfl BC6.o (by kernel_rfl) ?_))
  refine(LA.o w6).mono ?_
  rintro e w7 ⟨rfl,h⟩
  have BA7:=hQQ (h.block BA6.o)
  have BB7:=hQQ (h.block BB6.o)
  have BC7:=hQQ (h.block BC6.o)
  have M7:=hQQ (M6.o.trans h)
  clear h
  go_wp2_with (first|(refine ag rfl rfl rfl BA7.o (by kernel_rfl) ?_)|(refine ag rfl rfl rfl BA7.o (by kernel_rfl) ?_)|(refine ag rfl rfl rfl BB7.o (by kernel_rfl) ?_)|(refine ag rfl rfl rfl BB7.o (by kernel_rfl) ?_)|(refine ag rfl rfl rfl BC7.o (by kernel_rfl) ?_)|(refine ag rfl rfl rfl BC7.o (by kernel_rfl) ?_))
  refine(LB.o w7).mono ?_
  rintro e w8 ⟨rfl,h⟩
  have BA8:=hQQ (h.block BA7.o)
  have BB8:=hQQ (h.block BB7.o)
  have BC8:=hQQ (h.block BC7.o)
  have M8:=hQQ (M7.o.trans h)
  clear h
  go_wp2_with (first|(refine ag rfl rfl rfl BA8.o (by kernel_rfl) ?_)|(refine ag rfl rfl rfl BA8.o (by kernel_rfl) ?_)|(refine ag rfl rfl rfl BB8.o (by kernel_rfl) ?_)|(refine ag rfl rfl rfl BB8.o (by kernel_rfl) ?_)|(refine ag rfl rfl rfl BC8.o (by kernel_rfl) ?_)|(refine ag rfl rfl rfl BC8.o (by kernel_rfl) ?_))
  refine(LC.o w8).mono ?_
  rintro e w9 ⟨rfl,h⟩
  have BA9:=hQQ (h.block BA8.o)
  have BB9:=hQQ (h.block BB8.o)
  have BC9:=hQQ (h.block BC8.o)
  have M9:=hQQ (M8.o.trans h)
  clear h
  go_wp2_with (first|(refine ag rfl rfl rfl BA9.o (by kernel_rfl) ?_)|(refine ag rfl rfl rfl BA9.o (by kernel_rfl) ?_)|(refine ag rfl rfl rfl BB9.o (by kernel_rfl) ?_)|(refine ag rfl rfl rfl BB9.o (by kernel_rfl) ?_)|(refine ag rfl rfl rfl BC9.o (by kernel_rfl) ?_)|(refine ag rfl rfl rfl BC9.o (by kernel_rfl) ?_))
  refine(SD.o w9).mono ?_
  rintro e w10 ⟨rfl,h⟩
  have BA10:=hQQ (h.block BA9.o)
  have BB10:=hQQ (h.block BB9.o)
  have BC10:=hQQ (h.block BC9.o)
  have M10:=hQQ (M9.o.trans h)
  clear h
  obtain⟨v1,f1,hd1,n1,t1⟩:=dw w10 (.cells #[.int .i64 0,.int .i64 0,.int .i64 0,.int .i64 0,.int .i64 0,.int .i64 0,.int .i64 0] 38)
  obtain⟨w11,f2⟩:∃x,v1.setRow w10.heap.size (bj a b).arr=x:=⟨_,rfl⟩
  have n2:ac w10 w11:=by rw[←f2];exact n1.setRow _ _ (Nat.le_refl _)
  have HD:=hQQ hd1
  have BD11:Hq (w11.heap[w10.heap.size]?=some (.cells (bj a b).arr 38 (0,0))):=hQQ (by rw[←f2];exact setRow_heap _ _ _ _ _ _ hd1)
  have BA11:=hQQ (n2.block BA10.o)
  have BB11:=hQQ (n2.block BB10.o)
  have BC11:=hQQ (n2.block BC10.o)
  have M11:=hQQ (M10.o.trans n2)
  clear hd1 n1 n2 t1
  -- the sum is stored
  go_wp2_with (first|(refine wpList_store_row rfl 38 _ _ rfl _ (bj a b).arr rfl rfl 38 _ HD.o (by kernel_rfl) rfl (dJ _) ?_;rw[f2])|(refine ag rfl rfl rfl BA11.o (by kernel_rfl) ?_)|(refine ag rfl rfl rfl BA11.o (by kernel_rfl) ?_)|(refine ag rfl rfl rfl BA10.o (by kernel_rfl) ?_)|(refine ag rfl rfl rfl BA10.o (by kernel_rfl) ?_)|(refine ag rfl rfl rfl BB10.o (by kernel_rfl) ?_)|(refine ag rfl rfl rfl BB10.o (by kernel_rfl) ?_)|(refine ag rfl rfl rfl BC10.o (by kernel_rfl) ?_)|(refine ag rfl rfl rfl BC10.o (by kernel_rfl) ?_))
  refine(TA.o w11).mono ?_
  rintro e w12 ⟨rfl,h⟩
  have BA12:=hQQ (h.block BA11.o)
  have BB12:=hQQ (h.block BB11.o)
  have BC12:=hQQ (h.block BC11.o)
  have BD12:=hQQ (h.block BD11.o)
  have M12:=hQQ (M11.o.trans h)
  clear h f1 f2 HD
  go_wp2_with (first|(refine ag rfl rfl rfl BA12.o (by kernel_rfl) ?_)|(refine ag rfl rfl rfl BA12.o (by kernel_rfl) ?_)|(refine ag rfl rfl rfl BB12.o (by kernel_rfl) ?_)|(refine ag rfl rfl rfl BB12.o (by kernel_rfl) ?_)|(refine ag rfl rfl rfl BC12.o (by kernel_rfl) ?_)|(refine ag rfl rfl rfl BC12.o (by kernel_rfl) ?_)|(refine ag rfl rfl rfl BD12.o (by kernel_rfl) ?_)|(refine ag rfl rfl rfl BD12.o (by kernel_rfl) ?_))
  refine au (by kernel_rfl) (by kernel_rfl) ?_
  refine ae rfl 38 _ rfl _ rfl 38 _ _ _ (fun W hW=>hW.block BD12.o) Tryz.underlying38 rfl (by kernel_rfl) ?_
  refine ae rfl 38 _ rfl _ rfl 38 _ _ _ (fun W hW=>hW.block BB12.o) Tryz.underlying38 rfl (by kernel_rfl) ?_
  refine ae rfl 38 _ rfl _ rfl 38 _ _ _ (fun W hW=>hW.block BA12.o) Tryz.underlying38 rfl (by kernel_rfl) ?_
  with_reducible refine wpQuiet_step (fun K hK=>?_)
  go_simp
  first
  |(refine hK _ ?_;clear hK K)
  |(apply Exists.intro
    refine⟨fun W hW=>?_,hK _ ?_⟩
    first
    |(go_at_call 20;exact Calls.more hW (SE.o W))
    clear hK K)
  refine cR _ _ (by with_reducible rfl) rfl (bj a b) (bj b a) rfl rfl true E1.o ?_
  with_reducible refine wpQuiet_step (fun K hK=>?_)
  go_simp
  first
  |(refine hK _ ?_;clear hK K)
  |(apply Exists.intro
    refine⟨fun W hW=>?_,hK _ ?_⟩
    first
    |(go_simp;try rfl)
    clear hK K)
  refine ae rfl 38 _ rfl _ rfl 38 _ _ _ (fun W hW=>hW.block BD12.o) Tryz.underlying38 rfl (by kernel_rfl) ?_
  refine ae rfl 38 _ rfl _ rfl 38 _ _ _ (fun W hW=>hW.block BC12.o) Tryz.underlying38 rfl (by kernel_rfl) ?_
  with_reducible refine wpQuiet_step (fun K hK=>?_)
  go_simp
  first
  |(refine hK _ ?_;clear hK K)
  |(apply Exists.intro
    refine⟨fun W hW=>?_,hK _ ?_⟩
    first
    |(go_at_call 20;exact Calls.more hW (SF.o W))
    clear hK K)
  refine ae rfl 38 _ rfl _ rfl 38 _ _ _ (fun W hW=>hW.block BA12.o) Tryz.underlying38 rfl (by kernel_rfl) ?_
  refine ae rfl 38 _ rfl _ rfl 38 _ _ _ (fun W hW=>hW.block BB12.o) Tryz.underlying38 rfl (by kernel_rfl) ?_
  refine ae rfl 38 _ rfl _ rfl 38 _ _ _ (fun W hW=>hW.block BC12.o) Tryz.underlying38 rfl (by kernel_rfl) ?_
  with_reducible refine wpQuiet_step (fun K hK=>?_)
  go_simp
  first
  |(refine hK _ ?_;clear hK K)
  |(apply Exists.intro
    refine⟨fun W hW=>?_,hK _ ?_⟩
    first
    |(go_at_call 20;exact Calls.more hW (SG.o W))
    clear hK K)
  with_reducible refine wpQuiet_step (fun K hK=>?_)
  go_simp
  first
  |(refine hK _ ?_;clear hK K)
  |(apply Exists.intro
    refine⟨fun W hW=>?_,hK _ ?_⟩
    first
    |(go_at_call 20;exact Calls.more hW (SH.o W))
    clear hK K)
  refine cR _ _ (by with_reducible rfl) rfl (bj (bj a b) c) (bj a (bj b c)) rfl rfl true E2.o ?_
  with_reducible refine wpQuiet_step (fun K hK=>?_)
  go_simp
  first
  |(refine hK _ ?_;clear hK K)
  |(apply Exists.intro
    refine⟨fun W hW=>?_,hK _ ?_⟩
    first
    |(go_simp;try rfl)
    clear hK K)
  with_reducible refine wpQuiet_step (fun K hK=>?_)
  go_simp
  first
  |(refine hK _ ?_;clear hK K)
  |(apply Exists.intro
    refine⟨fun W hW=>?_,hK _ ?_⟩
    first
    |(go_simp;try rfl)
    clear hK K)
  refine ae rfl 38 _ rfl _ rfl 38 _ _ _ (fun W hW=>hW.block BA12.o) Tryz.underlying38 rfl (by kernel_rfl) ?_
  with_reducible refine wpQuiet_step (fun K hK=>?_)
  go_simp
  first
  |(refine hK _ ?_;clear hK K)
  |(apply Exists.intro
    refine⟨fun W hW=>?_,hK _ ?_⟩
    first
    |(go_simp;try rfl)
    clear hK K)
  with_reducible refine wpQuiet_step (fun K hK=>?_)
  go_simp
  first
  |(refine hK _ ?_;clear hK K)
  |(apply Exists.intro
    refine⟨fun W hW=>?_,hK _ ?_⟩
    first
    |(go_at_call 20;exact Calls.more hW (SI.o W))
    clear hK K)
  refine ae rfl 38 _ rfl _ rfl 38 _ _ _ (fun W hW=>hW.block BA12.o) Tryz.underlying38 rfl (by kernel_rfl) ?_
  refine cR _ _ (by with_reducible rfl) rfl (bj a noT) a rfl rfl true E3.o ?_
  with_reducible refine wpQuiet_step (fun K hK=>?_)
  go_simp
  first
  |(refine hK _ ?_;clear hK K)
  |(apply Exists.intro
    refine⟨fun W hW=>?_,hK _ ?_⟩
    first
    |(go_simp;try rfl)
    clear hK K)
  with_reducible refine wpQuiet_step (fun K hK=>?_)
  go_simp
  first
  |(refine hK _ ?_;clear hK K)
  |(apply Exists.intro
    refine⟨fun W hW=>?_,hK _ ?_⟩
    first
    |(go_simp;try rfl)
    clear hK K)
  with_reducible refine wpQuiet_step (fun K hK=>?_)
  go_simp
  first
  |(refine hK _ ?_;clear hK K)
  |(apply Exists.intro
    refine⟨fun W hW=>?_,hK _ ?_⟩
    first
    |(go_at_call 7;exact Calls.more hW (LV.o W (M12.o.trans hW)))
    clear hK K)
  with_reducible refine wpQuiet_step (fun K hK=>?_)
  go_simp
  first
  |(refine hK _ ?_;clear hK K)
  |(apply Exists.intro
    refine⟨fun W hW=>?_,hK _ ?_⟩
    first
    |(go_simp;try rfl)
    clear hK K)
  with_reducible refine wpQuiet_step (fun K hK=>?_)
  go_simp
  first
  |(refine hK _ ?_;clear hK K)
  |(apply Exists.intro
    refine⟨fun W hW=>?_,hK _ ?_⟩
    first
    |(go_simp;try rfl)
    clear hK K)
  refine wpQuiet_nil ?_
  intro w99 h9
  have M99:=hQQ (M12.o.trans h9)
  clear h9
  go_wp2_with fail
  go_ret
  exact⟨rfl,M99.o⟩
 |true =>
  cases rb with
  |false =>
   clear hrd
   go_enter Tryz.func6,Tryz.ntmps6
   go_wp2_with (first|(refine ag rfl rfl rfl BA3.o (by kernel_rfl) ?_)|(refine ag rfl rfl rfl BA3.o (by kernel_rfl) ?_)|(refine ag rfl rfl rfl BB3.o (by kernel_rfl) ?_)|(refine ag rfl rfl rfl BB3.o (by kernel_rfl) ?_)|(refine ag rfl rfl rfl BC3.o (by kernel_rfl) ?_)|(refine ag rfl rfl rfl BC3.o (by kernel_rfl) ?_))
   refine(XA.o w3).mono ?_
   rintro e w4 ⟨rfl,h⟩
   have BA4:=hQQ (h.block BA3.o)
   have BB4:=hQQ (h.block BB3.o)
   have BC4:=hQQ (h.block BC3.o)
   have M4:=hQQ (M3.o.trans h)
   clear h
   go_wp2_with (first|(refine ag rfl rfl rfl BA4.o (by kernel_rfl) ?_)|(refine ag rfl rfl rfl BA4.o (by kernel_rfl) ?_)|(refine ag rfl rfl rfl BB4.o (by kernel_rfl) ?_)|(refine ag rfl rfl rfl BB4.o (by kernel_rfl) ?_)|(refine ag rfl rfl rfl BC4.o (by kernel_rfl) ?_)|(refine ag rfl rfl rfl BC4.o (by kernel_rfl) ?_))
   refine(XB.o w4).mono ?_
   rintro e w5 ⟨rfl,h⟩
   have BA5:=hQQ (h.block BA4.o)
   have BB5:=hQQ (h.block BB4.o)
   have BC5:=hQQ (h.block BC4.o)
   have M5:=hQQ (M4.o.trans h)
   clear h
   go_wp2_with (first|(refine ag rfl rfl rfl BA5.o (by kernel_rfl) ?_)|(refine ag rfl rfl rfl BA5.o (by kernel_rfl) ?_)|(refine ag rfl rfl rfl BB5.o (by kernel_rfl) ?_)|(refine ag rfl rfl rfl BB5.o (by kernel_rfl) ?_)|(refine ag rfl rfl rfl BC5.o (by kernel_rfl) ?_)|(refine ag rfl rfl rfl BC5.o (by kernel_rfl) ?_))
   refine(XC.o w5).mono ?_
   rintro e w6 ⟨rfl,h⟩
   have BA6:=hQQ (h.block BA5.o)
   have BB6:=hQQ (h.block BB5.o)
   have BC6:=hQQ (h.block BC5.o)
   have M6:=hQQ (M5.o.trans h)
   clear h
   go_wp2_with (first|(refine ag rfl rfl rfl BA6.o (by kernel_rfl) ?_)|(refine ag rfl rfl rfl BA6.o (by kernel_rfl) ?_)|(refine ag rfl rfl rfl BB6.o (by kernel_rfl) ?_)|(refine ag rfl rfl rfl BB6.o (by kernel_rfl) ?_)|(refine ag rfl rfl rfl BC6.o (by kernel_rfl) ?_)|(refine ag rfl rfl rfl BC6.o (by kernel_rfl) ?_))
   refine(LA.o w6).mono ?_
   rintro e w7 ⟨rfl,h⟩
   have BA7:=hQQ (h.block BA6.o)
   have BB7:=hQQ (h.block BB6.o)
   have BC7:=hQQ (h.block BC6.o)
   have M7:=hQQ (M6.o.trans h)
   clear h
   go_wp2_with (first|(refine ag rfl rfl rfl BA7.o (by kernel_rfl) ?_)|(refine ag rfl rfl rfl BA7.o (by kernel_rfl) ?_)|(refine ag rfl rfl rfl BB7.o (by kernel_rfl) ?_)|(refine ag rfl rfl rfl BB7.o (by kernel_rfl) ?_)|(refine ag rfl rfl rfl BC7.o (by kernel_rfl) ?_)|(refine ag rfl rfl rfl BC7.o (by kernel_rfl) ?_))
   refine(LB.o w7).mono ?_
   rintro e w8 ⟨rfl,h⟩
   have BA8:=hQQ (h.block BA7.o)
   have BB8:=hQQ (h.block BB7.o)
   have BC8:=hQQ (h.block BC7.o)
   have M8:=hQQ (M7.o.trans h)
   clear h
   go_wp2_with (first|(refine ag rfl rfl rfl BA8.o (by kernel_rfl) ?_)|(refine ag rfl rfl rfl BA8.o (by kernel_rfl) ?_)|(refine ag rfl rfl rfl BB8.o (by kernel_rfl) ?_)|(refine ag rfl rfl rfl BB8.o (by kernel_rfl) ?_)|(refine ag rfl rfl rfl BC8.o (by kernel_rfl) ?_)|(refine ag rfl rfl rfl BC8.o (by kernel_rfl) ?_))
   refine(LC.o w8).mono ?_
   rintro e w9 ⟨rfl,h⟩
   have BA9:=hQQ (h.block BA8.o)
   have BB9:=hQQ (h.block BB8.o)
   have BC9:=hQQ (h.block BC8.o)
   have M9:=hQQ (M8.o.trans h)
   clear h
   go_wp2_with (first|(refine ag rfl rfl rfl BA9.o (by kernel_rfl) ?_)|(refine ag rfl rfl rfl BA9.o (by kernel_rfl) ?_)|(refine ag rfl rfl rfl BB9.o (by kernel_rfl) ?_)|(refine ag rfl rfl rfl BB9.o (by kernel_rfl) ?_)|(refine ag rfl rfl rfl BC9.o (by kernel_rfl) ?_)|(refine ag rfl rfl rfl BC9.o (by kernel_rfl) ?_))
   refine(SD.o w9).mono ?_
   rintro e w10 ⟨rfl,h⟩
   have BA10:=hQQ (h.block BA9.o)
   have BB10:=hQQ (h.block BB9.o)
   have BC10:=hQQ (h.block BC9.o)
   have M10:=hQQ (M9.o.trans h)
   clear h
   obtain⟨v1,f1,hd1,n1,t1⟩:=dw w10 (.cells #[.int .i64 0,.int .i64 0,.int .i64 0,.int .i64 0,.int .i64 0,.int .i64 0,.int .i64 0] 38)
   obtain⟨w11,f2⟩:∃x,v1.setRow w10.heap.size (bj a b).arr=x:=⟨_,rfl⟩
   have n2:ac w10 w11:=by rw[←f2];exact n1.setRow _ _ (Nat.le_refl _)
   have HD:=hQQ hd1
   have BD11:Hq (w11.heap[w10.heap.size]?=some (.cells (bj a b).arr 38 (0,0))):=hQQ (by rw[←f2];exact setRow_heap _ _ _ _ _ _ hd1)
   have BA11:=hQQ (n2.block BA10.o)
   have BB11:=hQQ (n2.block BB10.o)
   have BC11:=hQQ (n2.block BC10.o)
   have M11:=hQQ (M10.o.trans n2)
   clear hd1 n1 n2 t1
   -- the sum is stored
   go_wp2_with (first|(refine wpList_store_row rfl 38 _ _ rfl _ (bj a b).arr rfl rfl 38 _ HD.o (by kernel_rfl) rfl (dJ _) ?_;rw[f2])|(refine ag rfl rfl rfl BA11.o (by kernel_rfl) ?_)|(refine ag rfl rfl rfl BA11.o (by kernel_rfl) ?_)|(refine ag rfl rfl rfl BA10.o (by kernel_rfl) ?_)|(refine ag rfl rfl rfl BA10.o (by kernel_rfl) ?_)|(refine ag rfl rfl rfl BB10.o (by kernel_rfl) ?_)|(refine ag rfl rfl rfl BB10.o (by kernel_rfl) ?_)|(refine ag rfl rfl rfl BC10.o (by kernel_rfl) ?_)|(refine ag rfl rfl rfl BC10.o (by kernel_rfl) ?_))
   refine(TA.o w11).mono ?_
   rintro e w12 ⟨rfl,h⟩
   have BA12:=hQQ (h.block BA11.o)
   have BB12:=hQQ (h.block BB11.o)
   have BC12:=hQQ (h.block BC11.o)
   have BD12:=hQQ (h.block BD11.o)
   have M12:=hQQ (M11.o.trans h)
   clear h f1 f2 HD
   go_wp2_with (first|(refine ag rfl rfl rfl BA12.o (by kernel_rfl) ?_)|(refine ag rfl rfl rfl BA12.o (by kernel_rfl) ?_)|(refine ag rfl rfl rfl BB12.o (by kernel_rfl) ?_)|(refine ag rfl rfl rfl BB12.o (by kernel_rfl) ?_)|(refine ag rfl rfl rfl BC12.o (by kernel_rfl) ?_)|(refine ag rfl rfl rfl BC12.o (by kernel_rfl) ?_)|(refine ag rfl rfl rfl BD12.o (by kernel_rfl) ?_)|(refine ag rfl rfl rfl BD12.o (by kernel_rfl) ?_))
   refine(TB.o w12).mono ?_
   rintro e w13 ⟨rfl,h⟩
   have BA13:=hQQ (h.block BA12.o)
   have BB13:=hQQ (h.block BB12.o)
   have BC13:=hQQ (h.block BC12.o)
   have BD13:=hQQ (h.block BD12.o)
   have M13:=hQQ (M12.o.trans h)
   clear h
   go_wp2_with (first|(refine ag rfl rfl rfl BA13.o (by kernel_rfl) ?_)|(refine ag rfl rfl rfl BA13.o (by kernel_rfl) ?_)|(refine ag rfl rfl rfl BB13.o (by kernel_rfl) ?_)|(refine ag rfl rfl rfl BB13.o (by kernel_rfl) ?_)|(refine ag rfl rfl rfl BC13.o (by kernel_rfl) ?_)|(refine ag rfl rfl rfl BC13.o (by kernel_rfl) ?_)|(refine ag rfl rfl rfl BD13.o (by kernel_rfl) ?_)|(refine ag rfl rfl rfl BD13.o (by kernel_rfl) ?_))
   refine au (by kernel_rfl) (by kernel_rfl) ?_
   refine ae rfl 38 _ rfl _ rfl 38 _ _ _ (fun W hW=>hW.block BD13.o) Tryz.underlying38 rfl (by kernel_rfl) ?_
   refine ae rfl 38 _ rfl _ rfl 38 _ _ _ (fun W hW=>hW.block BB13.o) Tryz.underlying38 rfl (by kernel_rfl) ?_
   refine ae rfl 38 _ rfl _ rfl 38 _ _ _ (fun W hW=>hW.block BA13.o) Tryz.underlying38 rfl (by kernel_rfl) ?_
   with_reducible refine wpQuiet_step (fun K hK=>?_)
   go_simp
   first
   |(refine hK _ ?_;clear hK K)
   |(apply Exists.intro
     refine⟨fun W hW=>?_,hK _ ?_⟩
     first
     |(go_at_call 20;exact Calls.more hW (SE.o W))
     clear hK K)
   refine cR _ _ (by with_reducible rfl) rfl (bj a b) (bj b a) rfl rfl true E1.o ?_
   with_reducible refine wpQuiet_step (fun K hK=>?_)
   go_simp
   first
   |(refine hK _ ?_;clear hK K)
   |(apply Exists.intro
     refine⟨fun W hW=>?_,hK _ ?_⟩
     first
     |(go_simp;try rfl)
     clear hK K)
   refine ae rfl 38 _ rfl _ rfl 38 _ _ _ (fun W hW=>hW.block BD13.o) Tryz.underlying38 rfl (by kernel_rfl) ?_
   refine ae rfl 38 _ rfl _ rfl 38 _ _ _ (fun W hW=>hW.block BC13.o) Tryz.underlying38 rfl (by kernel_rfl) ?_
   with_reducible refine wpQuiet_step (fun K hK=>?_)
   go_simp
   first
   |(refine hK _ ?_;clear hK K)
   |(apply Exists.intro
     refine⟨fun W hW=>?_,hK _ ?_⟩
     first
     |(go_at_call 20;exact Calls.more hW (SF.o W))
     clear hK K)
   refine ae rfl 38 _ rfl _ rfl 38 _ _ _ (fun W hW=>hW.block BA13.o) Tryz.underlying38 rfl (by kernel_rfl) ?_
   refine ae rfl 38 _ rfl _ rfl 38 _ _ _ (fun W hW=>hW.block BB13.o) Tryz.underlying38 rfl (by kernel_rfl) ?_
   refine ae rfl 38 _ rfl _ rfl 38 _ _ _ (fun W hW=>hW.block BC13.o) Tryz.underlying38 rfl (by kernel_rfl) ?_
   with_reducible refine wpQuiet_step (fun K hK=>?_)
   go_simp
   first
   |(refine hK _ ?_;clear hK K)
   |(apply Exists.intro
     refine⟨fun W hW=>?_,hK _ ?_⟩
     first
     |(go_at_call 20;exact Calls.more hW (SG.o W))
     clear hK K)
   with_reducible refine wpQuiet_step (fun K hK=>?_)
   go_simp
   first
   |(refine hK _ ?_;clear hK K)
   |(apply Exists.intro
     refine⟨fun W hW=>?_,hK _ ?_⟩
     first
     |(go_at_call 20;exact Calls.more hW (SH.o W))
     clear hK K)
   refine cR _ _ (by with_reducible rfl) rfl (bj (bj a b) c) (bj a (bj b c)) rfl rfl true E2.o ?_
   with_reducible refine wpQuiet_step (fun K hK=>?_)
   go_simp
   first
   |(refine hK _ ?_;clear hK K)
   |(apply Exists.intro
     refine⟨fun W hW=>?_,hK _ ?_⟩
     first
     |(go_simp;try rfl)
     clear hK K)
   with_reducible refine wpQuiet_step (fun K hK=>?_)
   go_simp
   first
   |(refine hK _ ?_;clear hK K)
   |(apply Exists.intro
     refine⟨fun W hW=>?_,hK _ ?_⟩
     first
     |(go_simp;try rfl)
     clear hK K)
   refine ae rfl 38 _ rfl _ rfl 38 _ _ _ (fun W hW=>hW.block BA13.o) Tryz.underlying38 rfl (by kernel_rfl) ?_
   with_reducible refine wpQuiet_step (fun K hK=>?_)
   go_simp
   first
   |(refine hK _ ?_;clear hK K)
   |(apply Exists.intro
     refine⟨fun W hW=>?_,hK _ ?_⟩
     first
     |(go_simp;try rfl)
     clear hK K)
   with_reducible refine wpQuiet_step (fun K hK=>?_)
   go_simp
   first
   |(refine hK _ ?_;clear hK K)
   |(apply Exists.intro
     refine⟨fun W hW=>?_,hK _ ?_⟩
     first
     |(go_at_call 20;exact Calls.more hW (SI.o W))
     clear hK K)
   refine ae rfl 38 _ rfl _ rfl 38 _ _ _ (fun W hW=>hW.block BA13.o) Tryz.underlying38 rfl (by kernel_rfl) ?_
   refine cR _ _ (by with_reducible rfl) rfl (bj a noT) a rfl rfl true E3.o ?_
   with_reducible refine wpQuiet_step (fun K hK=>?_)
   go_simp
   first
   |(refine hK _ ?_;clear hK K)
   |(apply Exists.intro
     refine⟨fun W hW=>?_,hK _ ?_⟩
     first
     |(go_simp;try rfl)
     clear hK K)
   with_reducible refine wpQuiet_step (fun K hK=>?_)
   go_simp
   first
   |(refine hK _ ?_;clear hK K)
   |(apply Exists.intro
     refine⟨fun W hW=>?_,hK _ ?_⟩
     first
     |(go_simp;try rfl)
     clear hK K)
   with_reducible refine wpQuiet_step (fun K hK=>?_)
   go_simp
   first
   |(refine hK _ ?_;clear hK K)
   |(apply Exists.intro
     refine⟨fun W hW=>?_,hK _ ?_⟩
     first
     |(go_at_call 7;exact Calls.more hW (LV.o W (M13.o.trans hW)))
     clear hK K)
   with_reducible refine wpQuiet_step (fun K hK=>?_)
   go_simp
   first
   |(refine hK _ ?_;clear hK K)
   |(apply Exists.intro
     refine⟨fun W hW=>?_,hK _ ?_⟩
     first
     |(go_simp;try rfl)
     clear hK K)
   with_reducible refine wpQuiet_step (fun K hK=>?_)
   go_simp
   first
   |(refine hK _ ?_;clear hK K)
   |(apply Exists.intro
     refine⟨fun W hW=>?_,hK _ ?_⟩
     first
     |(go_simp;try rfl)
     clear hK K)
   refine wpQuiet_nil ?_
   intro w99 h9
   have M99:=hQQ (M13.o.trans h9)
   clear h9
   go_wp2_with fail
   go_ret
   exact⟨rfl,M99.o⟩
  |true =>
   obtain rfl:rd=true:=hrd rfl rfl
   go_enter Tryz.func6,Tryz.ntmps6
   go_wp2_with (first|(refine ag rfl rfl rfl BA3.o (by kernel_rfl) ?_)|(refine ag rfl rfl rfl BA3.o (by kernel_rfl) ?_)|(refine ag rfl rfl rfl BB3.o (by kernel_rfl) ?_)|(refine ag rfl rfl rfl BB3.o (by kernel_rfl) ?_)|(refine ag rfl rfl rfl BC3.o (by kernel_rfl) ?_)|(refine ag rfl rfl rfl BC3.o (by kernel_rfl) ?_))
   refine(XA.o w3).mono ?_
   rintro e w4 ⟨rfl,h⟩
   have BA4:=hQQ (h.block BA3.o)
   have BB4:=hQQ (h.block BB3.o)
   have BC4:=hQQ (h.block BC3.o)
   have M4:=hQQ (M3.o.trans h)
   clear h
   go_wp2_with (first|(refine ag rfl rfl rfl BA4.o (by kernel_rfl) ?_)|(refine ag rfl rfl rfl BA4.o (by kernel_rfl) ?_)|(refine ag rfl rfl rfl BB4.o (by kernel_rfl) ?_)|(refine ag rfl rfl rfl BB4.o (by kernel_rfl) ?_)|(refine ag rfl rfl rfl BC4.o (by kernel_rfl) ?_)|(refine ag rfl rfl rfl BC4.o (by kernel_rfl) ?_))
   refine(XB.o w4).mono ?_
   rintro e w5 ⟨rfl,h⟩
   have BA5:=hQQ (h.block BA4.o)
   have BB5:=hQQ (h.block BB4.o)
   have BC5:=hQQ (h.block BC4.o)
   have M5:=hQQ (M4.o.trans h)
   clear h
   go_wp2_with (first|(refine ag rfl rfl rfl BA5.o (by kernel_rfl) ?_)|(refine ag rfl rfl rfl BA5.o (by kernel_rfl) ?_)|(refine ag rfl rfl rfl BB5.o (by kernel_rfl) ?_)|(refine ag rfl rfl rfl BB5.o (by kernel_rfl) ?_)|(refine ag rfl rfl rfl BC5.o (by kernel_rfl) ?_)|(refine ag rfl rfl rfl BC5.o (by kernel_rfl) ?_))
   refine(XC.o w5).mono ?_
   rintro e w6 ⟨rfl,h⟩
   have BA6:=hQQ (h.block BA5.o)
   have BB6:=hQQ (h.block BB5.o)
   have BC6:=hQQ (h.block BC5.o)
   have M6:=hQQ (M5.o.trans h)
   clear h
   go_wp2_with (first|(refine ag rfl rfl rfl BA6.o (by kernel_rfl) ?_)|(refine ag rfl rfl rfl BA6.o (by kernel_rfl) ?_)|(refine ag rfl rfl rfl BB6.o (by kernel_rfl) ?_)|(refine ag rfl rfl rfl BB6.o (by kernel_rfl) ?_)|(refine ag rfl rfl rfl BC6.o (by kernel_rfl) ?_)|(refine ag rfl rfl rfl BC6.o (by kernel_rfl) ?_))
   refine(LA.o w6).mono ?_
   rintro e w7 ⟨rfl,h⟩
   have BA7:=hQQ (h.block BA6.o)
   have BB7:=hQQ (h.block BB6.o)
   have BC7:=hQQ (h.block BC6.o)
   have M7:=hQQ (M6.o.trans h)
   clear h
   go_wp2_with (first|(refine ag rfl rfl rfl BA7.o (by kernel_rfl) ?_)|(refine ag rfl rfl rfl BA7.o (by kernel_rfl) ?_)|(refine ag rfl rfl rfl BB7.o (by kernel_rfl) ?_)|(refine ag rfl rfl rfl BB7.o (by kernel_rfl) ?_)|(refine ag rfl rfl rfl BC7.o (by kernel_rfl) ?_)|(refine ag rfl rfl rfl BC7.o (by kernel_rfl) ?_))
   refine(LB.o w7).mono ?_
   rintro e w8 ⟨rfl,h⟩
   have BA8:=hQQ (h.block BA7.o)
   have BB8:=hQQ (h.block BB7.o)
   have BC8:=hQQ (h.block BC7.o)
   have M8:=hQQ (M7.o.trans h)
   clear h
   go_wp2_with (first|(refine ag rfl rfl rfl BA8.o (by kernel_rfl) ?_)|(refine ag rfl rfl rfl BA8.o (by kernel_rfl) ?_)|(refine ag rfl rfl rfl BB8.o (by kernel_rfl) ?_)|(refine ag rfl rfl rfl BB8.o (by kernel_rfl) ?_)|(refine ag rfl rfl rfl BC8.o (by kernel_rfl) ?_)|(refine ag rfl rfl rfl BC8.o (by kernel_rfl) ?_))
   refine(LC.o w8).mono ?_
   rintro e w9 ⟨rfl,h⟩
   have BA9:=hQQ (h.block BA8.o)
   have BB9:=hQQ (h.block BB8.o)
   have BC9:=hQQ (h.block BC8.o)
   have M9:=hQQ (M8.o.trans h)
   clear h
   go_wp2_with (first|(refine ag rfl rfl rfl BA9.o (by kernel_rfl) ?_)|(refine ag rfl rfl rfl BA9.o (by kernel_rfl) ?_)|(refine ag rfl rfl rfl BB9.o (by kernel_rfl) ?_)|(refine ag rfl rfl rfl BB9.o (by kernel_rfl) ?_)|(refine ag rfl rfl rfl BC9.o (by kernel_rfl) ?_)|(refine ag rfl rfl rfl BC9.o (by kernel_rfl) ?_))
   refine(SD.o w9).mono ?_
   rintro e w10 ⟨rfl,h⟩
   have BA10:=hQQ (h.block BA9.o)
   have BB10:=hQQ (h.block BB9.o)
   have BC10:=hQQ (h.block BC9.o)
   have M10:=hQQ (M9.o.trans h)
   clear h
   obtain⟨v1,f1,hd1,n1,t1⟩:=dw w10 (.cells #[.int .i64 0,.int .i64 0,.int .i64 0,.int .i64 0,.int .i64 0,.int .i64 0,.int .i64 0] 38)
   obtain⟨w11,f2⟩:∃x,v1.setRow w10.heap.size (bj a b).arr=x:=⟨_,rfl⟩
   have n2:ac w10 w11:=by rw[←f2];exact n1.setRow _ _ (Nat.le_refl _)
   have HD:=hQQ hd1
   have BD11:Hq (w11.heap[w10.heap.size]?=some (.cells (bj a b).arr 38 (0,0))):=hQQ (by rw[←f2];exact setRow_heap _ _ _ _ _ _ hd1)
   have BA11:=hQQ (n2.block BA10.o)
   have BB11:=hQQ (n2.block BB10.o)
   have BC11:=hQQ (n2.block BC10.o)
   have M11:=hQQ (M10.o.trans n2)
   clear hd1 n1 n2 t1
   -- the sum is stored
   go_wp2_with (first|(refine wpList_store_row rfl 38 _ _ rfl _ (bj a b).arr rfl rfl 38 _ HD.o (by kernel_rfl) rfl (dJ _) ?_;rw[f2])|(refine ag rfl rfl rfl BA11.o (by kernel_rfl) ?_)|(refine ag rfl rfl rfl BA11.o (by kernel_rfl) ?_)|(refine ag rfl rfl rfl BA10.o (by kernel_rfl) ?_)|(refine ag rfl rfl rfl BA10.o (by kernel_rfl) ?_)|(refine ag rfl rfl rfl BB10.o (by kernel_rfl) ?_)|(refine ag rfl rfl rfl BB10.o (by kernel_rfl) ?_)|(refine ag rfl rfl rfl BC10.o (by kernel_rfl) ?_)|(refine ag rfl rfl rfl BC10.o (by kernel_rfl) ?_))
   refine(TA.o w11).mono ?_
   rintro e w12 ⟨rfl,h⟩
   have BA12:=hQQ (h.block BA11.o)
   have BB12:=hQQ (h.block BB11.o)
   have BC12:=hQQ (h.block BC11.o)
   have BD12:=hQQ (h.block BD11.o)
   have M12:=hQQ (M11.o.trans h)
   clear h f1 f2 HD
   go_wp2_with (first|(refine ag rfl rfl rfl BA12.o (by kernel_rfl) ?_)|(refine ag rfl rfl rfl BA12.o (by kernel_rfl) ?_)|(refine ag rfl rfl rfl BB12.o (by kernel_rfl) ?_)|(refine ag rfl rfl rfl BB12.o (by kernel_rfl) ?_)|(refine ag rfl rfl rfl BC12.o (by kernel_rfl) ?_)|(refine ag rfl rfl rfl BC12.o (by kernel_rfl) ?_)|(refine ag rfl rfl rfl BD12.o (by kernel_rfl) ?_)|(refine ag rfl rfl rfl BD12.o (by kernel_rfl) ?_))
   refine(TB.o w12).mono ?_
   rintro e w13 ⟨rfl,h⟩
   have BA13:=hQQ (h.block BA12.o)
   have BB13:=hQQ (h.block BB12.o)
   have BC13:=hQQ (h.block BC12.o)
   have BD13:=hQQ (h.block BD12.o)
   have M13:=hQQ (M12.o.trans h)
   clear h
   go_wp2_with (first|(refine ag rfl rfl rfl BA13.o (by kernel_rfl) ?_)|(refine ag rfl rfl rfl BA13.o (by kernel_rfl) ?_)|(refine ag rfl rfl rfl BB13.o (by kernel_rfl) ?_)|(refine ag rfl rfl rfl BB13.o (by kernel_rfl) ?_)|(refine ag rfl rfl rfl BC13.o (by kernel_rfl) ?_)|(refine ag rfl rfl rfl BC13.o (by kernel_rfl) ?_)|(refine ag rfl rfl rfl BD13.o (by kernel_rfl) ?_)|(refine ag rfl rfl rfl BD13.o (by kernel_rfl) ?_))
   refine(TD.o w13).mono ?_
   rintro e w14 ⟨rfl,h⟩
   have BA14:=hQQ (h.block BA13.o)
   have BB14:=hQQ (h.block BB13.o)
   have BC14:=hQQ (h.block BC13.o)
   have BD14:=hQQ (h.block BD13.o)
   have M14:=hQQ (M13.o.trans h)
   clear h
   go_wp2_with (first|(refine ag rfl rfl rfl BA14.o (by kernel_rfl) ?_)|(refine ag rfl rfl rfl BA14.o (by kernel_rfl) ?_)|(refine ag rfl rfl rfl BB14.o (by kernel_rfl) ?_)|(refine ag rfl rfl rfl BB14.o (by kernel_rfl) ?_)|(refine ag rfl rfl rfl BC14.o (by kernel_rfl) ?_)|(refine ag rfl rfl rfl BC14.o (by kernel_rfl) ?_)|(refine ag rfl rfl rfl BD14.o (by kernel_rfl) ?_)|(refine ag rfl rfl rfl BD14.o (by kernel_rfl) ?_))
   refine au (by kernel_rfl) (by kernel_rfl) ?_
   refine ae rfl 38 _ rfl _ rfl 38 _ _ _ (fun W hW=>hW.block BD14.o) Tryz.underlying38 rfl (by kernel_rfl) ?_
   refine ae rfl 38 _ rfl _ rfl 38 _ _ _ (fun W hW=>hW.block BB14.o) Tryz.underlying38 rfl (by kernel_rfl) ?_
   refine ae rfl 38 _ rfl _ rfl 38 _ _ _ (fun W hW=>hW.block BA14.o) Tryz.underlying38 rfl (by kernel_rfl) ?_
   with_reducible refine wpQuiet_step (fun K hK=>?_)
   go_simp
   first
   |(refine hK _ ?_;clear hK K)
   |(apply Exists.intro
     refine⟨fun W hW=>?_,hK _ ?_⟩
     first
     |(go_at_call 20;exact Calls.more hW (SE.o W))
     clear hK K)
   refine cR _ _ (by with_reducible rfl) rfl (bj a b) (bj b a) rfl rfl true E1.o ?_
   with_reducible refine wpQuiet_step (fun K hK=>?_)
   go_simp
   first
   |(refine hK _ ?_;clear hK K)
   |(apply Exists.intro
     refine⟨fun W hW=>?_,hK _ ?_⟩
     first
     |(go_simp;try rfl)
     clear hK K)
   refine ae rfl 38 _ rfl _ rfl 38 _ _ _ (fun W hW=>hW.block BD14.o) Tryz.underlying38 rfl (by kernel_rfl) ?_
   refine ae rfl 38 _ rfl _ rfl 38 _ _ _ (fun W hW=>hW.block BC14.o) Tryz.underlying38 rfl (by kernel_rfl) ?_
   with_reducible refine wpQuiet_step (fun K hK=>?_)
   go_simp
   first
   |(refine hK _ ?_;clear hK K)
   |(apply Exists.intro
     refine⟨fun W hW=>?_,hK _ ?_⟩
     first
     |(go_at_call 20;exact Calls.more hW (SF.o W))
     clear hK K)
   refine ae rfl 38 _ rfl _ rfl 38 _ _ _ (fun W hW=>hW.block BA14.o) Tryz.underlying38 rfl (by kernel_rfl) ?_
   refine ae rfl 38 _ rfl _ rfl 38 _ _ _ (fun W hW=>hW.block BB14.o) Tryz.underlying38 rfl (by kernel_rfl) ?_
   refine ae rfl 38 _ rfl _ rfl 38 _ _ _ (fun W hW=>hW.block BC14.o) Tryz.underlying38 rfl (by kernel_rfl) ?_
   with_reducible refine wpQuiet_step (fun K hK=>?_)
   go_simp
   first
   |(refine hK _ ?_;clear hK K)
   |(apply Exists.intro
     refine⟨fun W hW=>?_,hK _ ?_⟩
     first
     |(go_at_call 20;exact Calls.more hW (SG.o W))
     clear hK K)
   with_reducible refine wpQuiet_step (fun K hK=>?_)
   go_simp
   first
   |(refine hK _ ?_;clear hK K)
   |(apply Exists.intro
     refine⟨fun W hW=>?_,hK _ ?_⟩
     first
     |(go_at_call 20;exact Calls.more hW (SH.o W))
     clear hK K)
   refine cR _ _ (by with_reducible rfl) rfl (bj (bj a b) c) (bj a (bj b c)) rfl rfl true E2.o ?_
   with_reducible refine wpQuiet_step (fun K hK=>?_)
   go_simp
   first
   |(refine hK _ ?_;clear hK K)
   |(apply Exists.intro
     refine⟨fun W hW=>?_,hK _ ?_⟩
     first
     |(go_simp;try rfl)
     clear hK K)
   with_reducible refine wpQuiet_step (fun K hK=>?_)
   go_simp
   first
   |(refine hK _ ?_;clear hK K)
   |(apply Exists.intro
     refine⟨fun W hW=>?_,hK _ ?_⟩
     first
     |(go_simp;try rfl)
     clear hK K)
   refine ae rfl 38 _ rfl _ rfl 38 _ _ _ (fun W hW=>hW.block BA14.o) Tryz.underlying38 rfl (by kernel_rfl) ?_
   with_reducible refine wpQuiet_step (fun K hK=>?_)
   go_simp
   first
   |(refine hK _ ?_;clear hK K)
   |(apply Exists.intro
     refine⟨fun W hW=>?_,hK _ ?_⟩
     first
     |(go_simp;try rfl)
     clear hK K)
   with_reducible refine wpQuiet_step (fun K hK=>?_)
   go_simp
   first
   |(refine hK _ ?_;clear hK K)
   |(apply Exists.intro
     refine⟨fun W hW=>?_,hK _ ?_⟩
     first
     |(go_at_call 20;exact Calls.more hW (SI.o W))
     clear hK K)
   refine ae rfl 38 _ rfl _ rfl 38 _ _ _ (fun W hW=>hW.block BA14.o) Tryz.underlying38 rfl (by kernel_rfl) ?_
   refine cR _ _ (by with_reducible rfl) rfl (bj a noT) a rfl rfl true E3.o ?_
   with_reducible refine wpQuiet_step (fun K hK=>?_)
   go_simp
   first
   |(refine hK _ ?_;clear hK K)
   |(apply Exists.intro
     refine⟨fun W hW=>?_,hK _ ?_⟩
     first
     |(go_simp;try rfl)
     clear hK K)
   with_reducible refine wpQuiet_step (fun K hK=>?_)
   go_simp
   first
   |(refine hK _ ?_;clear hK K)
   |(apply Exists.intro
     refine⟨fun W hW=>?_,hK _ ?_⟩
     first
     |(go_simp;try rfl)
     clear hK K)
   with_reducible refine wpQuiet_step (fun K hK=>?_)
   go_simp
   first
   |(refine hK _ ?_;clear hK K)
   |(apply Exists.intro
     refine⟨fun W hW=>?_,hK _ ?_⟩
     first
     |(go_at_call 7;exact Calls.more hW (LV.o W (M14.o.trans hW)))
     clear hK K)
   with_reducible refine wpQuiet_step (fun K hK=>?_)
   go_simp
   first
   |(refine hK _ ?_;clear hK K)
   |(apply Exists.intro
     refine⟨fun W hW=>?_,hK _ ?_⟩
     first
     |(go_simp;try rfl)
     clear hK K)
   with_reducible refine wpQuiet_step (fun K hK=>?_)
   go_simp
   first
   |(refine hK _ ?_;clear hK K)
   |(apply Exists.intro
     refine⟨fun W hW=>?_,hK _ ?_⟩
     first
     |(go_simp;try rfl)
     clear hK K)
   refine wpQuiet_nil ?_
   intro w99 h9
   have M99:=hQQ (M14.o.trans h9)
   clear h9
   go_wp2_with fail
   go_ret
   exact⟨rfl,M99.o⟩
theorem xe (x0 x1 x2 x3 x4 x5 x6 y0 y1 y2 y3 y4 y5 y6 z0 z1 z2 z3 z4 z5 z6:Int)(w:World)(hs:n6 w) (_:(Lit.int IntKind.i64 x0).wf=true) (_:(Lit.int IntKind.i64 x1).wf=true) (_:(Lit.int IntKind.i64 x2).wf=true) (_:(Lit.int IntKind.i64 x3).wf=true) (_:(Lit.int IntKind.i64 x4).wf=true) (_:(Lit.int IntKind.i64 x5).wf=true) (_:(Lit.int IntKind.i64 x6).wf=true) (_:(Lit.int IntKind.i64 y0).wf=true) (_:(Lit.int IntKind.i64 y1).wf=true) (_:(Lit.int IntKind.i64 y2).wf=true) (_:(Lit.int IntKind.i64 y3).wf=true) (_:(Lit.int IntKind.i64 y4).wf=true) (_:(Lit.int IntKind.i64 y5).wf=true) (_:(Lit.int IntKind.i64 y6).wf=true) (_:(Lit.int IntKind.i64 z0).wf=true) (_:(Lit.int IntKind.i64 z1).wf=true) (_:(Lit.int IntKind.i64 z2).wf=true) (_:(Lit.int IntKind.i64 z3).wf=true) (_:(Lit.int IntKind.i64 z4).wf=true) (_:(Lit.int IntKind.i64 z5).wf=true) (_:(Lit.int IntKind.i64 z6).wf=true):
 Calls Tryz.prog 6 #[.agg #[.int .i64 x0,.int .i64 x1,.int .i64 x2,.int .i64 x3,.int .i64 x4,.int .i64 x5,.int .i64 x6],.agg #[.int .i64 y0,.int .i64 y1,.int .i64 y2,.int .i64 y3,.int .i64 y4,.int .i64 y5,.int .i64 y6],.agg #[.int .i64 z0,.int .i64 z1,.int .i64 z2,.int .i64 z3,.int .i64 z4,.int .i64 z5,.int .i64 z6]] w (fun e w'=>e=.returned (.bool true)∧Turned (fun _=>False) w w'):=by
 obtain⟨bt,h⟩:=hs
 exact Ao (bt:=bt) ⟨x0,x1,x2,x3,x4,x5,x6⟩ ⟨y0,y1,y2,y3,y4,y5,y6⟩ ⟨z0,z1,z2,z3,z4,z5,z6⟩ w h
open Go.ChangeShapes Go.WideShapes Go.ChangeAt Go.Deep
section
variable {H:Type}{enc:TypeId×Value→H}{P:Program}{w:World}{base:Nat}{spare:Nat→Bool}{held:Bool}
theorem dL {r:Reach}{b0:Nat}{t T:TypeId}{fs:Array Field}{v:Value}{d:DataW H}{p:List MemPlace}(hs:P.underlying t=some (.struct fs))(hone:oneCellFields P fs=true)(hC:P.cellsOf t=fs.size)
 (hT:(fs.all fun f=>f.type==T)=true) (u:P.underlying T=some (.int .i64)) (hv:Value.okWide P w r b0 t v) (h:DataW.Trod enc P w base spare held t v d p):
 ∃xs:List Int,xs.length=fs.size∧v=.agg (xs.map (Value.int .i64)).toArray∧∀x∈xs,(Lit.int .i64 x).wf=true:=by
 obtain⟨cs,rfl,hsz⟩:=okWide_struct hs hv
 obtain⟨fuel,hf⟩:=h
 obtain⟨ys,n,_,_,_,hlen,hg⟩:=DataW.trod_struct hs hf
 have key:∀j,j<cs.toList.length→∃x:Int,cs.toList[j]?=some (.int .i64 x)∧(Lit.int .i64 x).wf=true:=by
  intro j hj
  have hj':j<fs.size:=by simp at hj;omega
  have hfj:fs[j]?=some fs[j]:=by simp[hj']
  obtain⟨ho,hk⟩:=hone_of hone j _ hfj
  have ht:fs[j].type=T:=by
   have:=Array.all_eq_true.1 hT j hj'
   simpa using this
  have h1:=hg j _ hfj
  rw[ho,hk] at h1
  have hys:ys[j]?=some (ys[j]'(by omega)):=List.getElem?_eq_getElem (by omega)
  rw[hys] at h1
  obtain⟨x,e,_,wx⟩:=DataW.trod_int (by rw[ht];exact u) h1
  refine⟨x,?_,wx⟩
  have e':(cs.toList.drop j).take 1= [.int .i64 x]:=by simpa [Value.cells] using e
  rw[List.drop_eq_getElem_cons hj] at e'
  simp at e'
  rw[List.getElem?_eq_getElem hj]
  simp[e']
 have hall:∀l:List Value,(∀j,j<l.length→∃x:Int,l[j]?=some (.int .i64 x)∧(Lit.int .i64 x).wf=true)→∃xs:List Int,xs.length=l.length∧l=xs.map (Value.int .i64)∧∀x∈xs,(Lit.int .i64 x).wf=true:=by
  intro l
  induction l with
  |nil=>intro _;exact⟨[],rfl,rfl,by simp⟩
  |cons a l ih =>
   intro hl
   obtain⟨x,hx,wx⟩:=hl 0 (by simp)
   obtain⟨xs,h1,h2,h3⟩:=ih (fun j hj=>by have:=hl (j+1) (by simp;omega);simpa using this)
   simp at hx
   exact⟨x::xs,by simp[h1],by simp[hx,←h2],by intro z hz;rcases List.mem_cons.1 hz with q|q; (rw[q];exact wx);exact h3 z q⟩
 obtain⟨xs,h1,h2,h3⟩:=hall cs.toList key
 refine⟨xs,by simp at h1;omega,?_,h3⟩
 rw[←h2]
end
theorem rD {l:List Int}(h:l.length=7):∃x0 x1 x2 x3 x4 x5 x6,l= [x0,x1,x2,x3,x4,x5,x6]:=by
 match l,h with
 | [x0,x1,x2,x3,x4,x5,x6],_=>exact⟨x0,x1,x2,x3,x4,x5,x6,rfl⟩
end Go.Proofs.YtfddhogffpkhcaaGreatDoor
