/-
  As ViewDoY, where what the program leaves lies in blocks that it makes itself: X speaks of the blocks from a number on.
-/
import Derived.Test.YtddmeghbmdfgeaaGreatDoorFtAe
import Derived.Test.YtddmeghbmdfgeaaGreatDoorFtAn
import Derived.Test.YtddmeghbmdfgeaaGreatDoorFtAp
import Derived.Deep.AppendSrc
import Derived.Test.YtddmeghbmdfgeaaGreatDoorFtAg
import Derived.Test.YtddmeghbmdfgeaaGreatDoorFtAl
set_option maxRecDepth 100000
set_option maxHeartbeats 8000000
set_option linter.all false
namespace Go.Proofs.YtddmeghbmdfgeaaGreatDoor
open Go.RowKit Go.Sort Go.Maps Go.Shelf
def Oy (w:World)(S:Nat→Prop)(Y:World→Prop)(X:Nat→World→Prop)(R:Ran)(e:Ending)(w':World):Prop :=
 match R with
 | .need a=>e=.returned (.tuple #[.int .i64 a,.slice none 0 0])∧Turned S w w'∧Y w'
 | .done D=>∃v p b,e=.returned (.tuple #[.int .i64 (-1),v])∧PRw w.heap.size w' v D∧Turned S w w'∧Y w'∧(w.heap.size≤b∧X b w')∧bJ w' p (-1)
theorem Lg (kn:Int→Option Int)(R:Ran)(M n:Nat)(w:World)(hk:KnownAt w M n kn)(f:Nat)(cap:Array Value)(S:Nat→Prop)(Y:World→Prop)(X:Nat→World→Prop)
 (henter:∀args w,Sem.run Tryz.prog (callFunc f args) w=.ok (.enter f args) w) (hS:∀k,S k→k<w.heap.size) (hY:∀w' w'',Y w'→Turned (fun k=>w.heap.size≤k) w' w''→Y w'') (hX:∀b w' w'',w.heap.size≤b→X b w'→Turned (fun k=>w.heap.size≤k∧k<b) w' w''→X b w'') (hY0:Y w)
 (hprog:∀(W:World) (F:Nat→Prop) (p:Nat),ae w W→Y W→aF W F p kn []→(∀k,F k→w.heap.size≤k)→Calls Tryz.prog f (#[.pointer (some ⟨p,0,none⟩)]++cap) W (jc W F S Y (X W.heap.size) p kn R)):
 Calls Tryz.prog 42 #[.map (some M),.func (.func f) #[] cap] w (Oy w S Y X R):=by
 have hq:∀w,Sem.run Tryz.prog (binOp BinOp.eql 52 (Value.func (.func f) #[] cap) Value.nilFunc) w=.ok (.bool false) w:=fun w=>lh w _ Tryz.underlying52 _ _ _
 have hmf:∀(fn:Fn) (first cap:Array Value) (w:World),(Instr.makeFunc fn first cap).run Tryz.prog w=.ok (.func fn first cap) w:=fun _ _ _ _=>rfl
 have HK:=hQQ hk
 have HS:=hQQ hS
 have HX:=hQQ hX
 have HY:=hQQ hY
 have HY0:=hQQ hY0
 have HP:=hQQ hprog
 clear hk hS hX hY hY0 hprog
 go_enter_defers Tryz.func42,Tryz.ntmps42
 go_wp2_with fail
 refine(Gt _).mono ?_
 rintro e w1 ⟨F0,q,rfl,m1,M1,n1⟩
 obtain⟨F,hbeg⟩:=yv HK.o m1 M1 n1
 have HB:=hQQ hbeg
 have hws:w.heap.size<w1.heap.size:=by have:=M1.size;simp at this;omega
 clear hbeg m1 M1 n1
 go_wp2_with fail
 change Calls _ _ _ ((w1.alloc (.cells (cC (some ⟨w1.heap.size,0,none⟩) M q (-1)) 110)).alloc (.cells #[.pointer (some ⟨w1.heap.size,0,none⟩)] 43)) _
 generalize (w1.alloc (.cells (cC (some ⟨w1.heap.size,0,none⟩) M q (-1)) 110)).alloc (.cells #[.pointer (some ⟨w1.heap.size,0,none⟩)] 43)=W at HB⊢
 generalize w1.heap.size+1=bv at HB⊢
 generalize w1.heap.size=p at HB⊢
 have hlw:Hq (∀k,k<w.heap.size→k≠bv∧k≠p):=hQQ fun k hk=>by have:=HB.o.lv;have:=HB.o.lp;omega
 have HPW:Hq (p<W.heap.size):=hQQ (by obtain⟨_,_,_,_,_,_,_,fp,_,_⟩:=HB.o.view.ex;exact HB.o.view.lt p fp)
 clear hws
 refine(HP.o W F p HB.o.more (HY.o _ _ HY0.o (Turned.mono HB.o.more (fun _ _ q=>q.elim))) HB.o.view HB.o.new).mono ?_
 intro e w2 he
 cases R with
 |need a =>
  obtain⟨rfl,hd,ht,hy⟩:=he
  obtain⟨hv2,hn2,ne1,ne2⟩:=rT HB.o HS.o ht
  change bodyPostD _ _ _ (Exit.panic (bB p)) _ _
  refine leaves_cons (f:=77) (args:=#[.pointer (some ⟨bv,0,none⟩),.pointer (some ⟨w.heap.size,0,none⟩)]) (by simp) (by simp[go_sem]) ?_
  refine(vu p bv w.heap.size a 0 w2 hd hv2 hn2 ne1 ne2 HB.o.vn).mono ?_
  rintro e u' w3 ⟨rfl,rfl,hc⟩
  obtain⟨b0,_,_⟩:=aA hc.2.1
  have FIN:Turned S w w3∧Y w3:=⟨pl HB.o ht hc.2.2,HY.o _ _ hy (hc.2.2.mono (fun k _ q=>by have:=HB.o.lp;rcases q with q|q<;>omega))⟩
  simp[Leaves,settle,results,Tryz.results42,go_sem,b0]
  exact⟨rfl,FIN⟩
 |done D =>
  obtain⟨rfl,⟨F',hv⟩,ht,hy,hx⟩:=he
  obtain⟨hv2,hn2,ne1,ne2⟩:=rT HB.o HS.o ht
  obtain⟨M',q',n',F0',hp2,hk2,hm2,fp2,f02,fM2⟩:=hv.ex
  obtain⟨c0,c1,c2,c3,cf,cl⟩:=cX hp2
  obtain⟨v0,vf,vl⟩:=aA hv2
  have TOLD:=hQQ (CT F0' p q' D w2 c2 hm2)
  have HT:=hQQ ht
  have HX2:=hQQ hx
  have HY2:=hQQ hy
  have HP2:=hQQ hp2
  have HV2:=hQQ hv2
  have HN2:=hQQ hn2
  clear hv hk2 hm2 fp2 f02 fM2 hp2 hv2 hn2 ht hx hy
  go_wp2_with fail
  refine TOLD.o.mono ?_
  rintro e w3 ⟨v,rfl,hr,hm3⟩
  obtain⟨n0,nf,nl⟩:=aA (hm3.block HN2.o)
  have HR:=hQQ hr
  have HM3:=hQQ hm3
  clear hr hm3
  go_wp2_with fail
  have t4:Turned (fun k=>k=p∨k=w.heap.size) w3 (w3.setCell ⟨w.heap.size,0,none⟩ (.int .i64 (-1))):=bF (Turned.refl _ w3) (fun _=> .inr rfl) _
  have hp4:(w3.setCell ⟨w.heap.size,0,none⟩ (.int .i64 (-1))).heap[p]?=_:=(Below.heap_setCell _ _ _ _ (Ne.symm ne2)).trans (HM3.o.block HP2.o)
  have hv4:(w3.setCell ⟨w.heap.size,0,none⟩ (.int .i64 (-1))).heap[bv]?=_:=(Below.heap_setCell _ _ _ _ HB.o.vn).trans (HM3.o.block HV2.o)
  have hn4:=li (.int .i64 (-1)) (HM3.o.block HN2.o)
  have hm3:=HM3.o
  have hr:=HR.o
  have hlp2:=cl
  have hln2:w.heap.size<w2.heap.size:=ac HN2.o
  generalize w3.setCell ⟨w.heap.size,0,none⟩ (.int .i64 (-1))=w4 at t4 hp4 hv4 hn4⊢
  refine leaves_cons (f:=77) (args:=#[.pointer (some ⟨bv,0,none⟩),.pointer (some ⟨w.heap.size,0,none⟩)]) (by simp) (by simp[go_sem]) ?_
  refine(sL p bv w.heap.size M' q' (-1) w4 hp4 hv4 hn4 ne1 ne2 HB.o.vn).mono ?_
  rintro e u' w5 ⟨rfl,rfl,hc⟩
  obtain⟨b0,_,_⟩:=aA hc.2.1
  have t35:Turned (fun k=>k=p∨k=w.heap.size) w3 w5:=t4.trans hc.2.2
  have FIN:Oy w S Y X (.done D) (.returned (.tuple #[.int .i64 (-1),v])) w5:=by
   refine⟨v,p,W.heap.size,rfl,(hr.keep t35 (fun k hk q=>by rcases q with q|q<;>omega)).mono (by omega),?_,?_,?_,hc.1⟩
   ·exact pl HB.o HT.o ((Turned.mono hm3 (fun _ _ q=>q.elim)).trans t35)
   ·have hlp:=HB.o.lp
    exact HY.o w2 w5 HY2.o ((Turned.mono hm3 (fun _ _ q=>q.elim)).trans (t35.mono (fun k _ q=>by rcases q with q|q<;>omega)))
   ·have hlp:=HB.o.lp
    have hpW:=HPW.o
    exact⟨by omega,HX.o W.heap.size w2 w5 (by omega) HX2.o ((Turned.mono hm3 (fun _ _ q=>q.elim)).trans (t35.mono (fun k _ q=>by rcases q with q|q<;>omega)))⟩
  simp[Leaves,settle,results,Tryz.results42,go_sem,b0]
  exact FIN
def Lh (w:World)(S:Nat→Prop)(Y:World→Prop)(X:Nat→World→Prop)(R:Option (List Int×List KV))(e:Ending)(w':World):Prop :=
 match R with
 |none=>e=.returned (.tuple #[.slice none 0 0,.slice none 0 0,.int .i64 3])∧Turned S w w'∧Y w'
 |some (ws,K)=>∃v1 v2 b,e=.returned (.tuple #[v1,v2,.int .i64 0])∧Rw w.heap.size w' v1 ws∧PRw w.heap.size w' v2 K∧Turned S w w'∧Y w'∧w.heap.size≤b∧X b w'
theorem Li {w wb wr w2 w3:World}{S:Nat→Prop}{Y:World→Prop}{X:Nat→World→Prop}{M:Nat}{zs:List Int}{sem:List KV→Ran}{R:Option (List Int×List KV)}{K D:List KV}{a' an:Option Addr}{cap' cn:Nat}{e:Ending}(h:OnY w wb wr S Y M zs sem R K (.slice an K.length cn))(hs:sem K=.done D)(mb:ae w wb)(hM:w.heap.size≤M)
 (hl:∀k,dc a' k→w.heap.size≤k∧k<wb.heap.size) (hS:∀k,S k→k<w.heap.size) (m2:Turned S wr w2) (hf:jA w2 zs D a' cap' (.slice an K.length cn) e w3)
 (hY:∀w' w'',Y w'→Turned (fun k=>w.heap.size≤k) w' w''→Y w'') (hX:∀b w' w'',w.heap.size≤b→X b w'→Turned (fun k=>w.heap.size≤k∧k<b) w' w''→X b w'') (y2:Y w2) {b:Nat} (hb:wb.heap.size≤b) (x2:X b w2):Lh w S Y X R e w3:=by
 have hR:=yz h.okn hs h.res
 have mbS:Turned S w wb:=Turned.mono mb (fun _ _ q=>q.elim)
 have t3:Turned S w w3:=by
  have t1:Turned S w wr:=ak mbS h.turn (fun k q=>by rcases q with q|q;exact .inr (by omega);exact .inl q)
  exact ak (ak t1 m2 (fun k q=> .inl q)) hf.1 (fun k q=> .inr (hl k q).1)
 have t23:Turned (fun k=>w.heap.size≤k) w2 w3:=hf.1.mono (fun k _ q=>(hl k q).1)
 rcases hf.2 with⟨h1,h2,h3⟩|⟨h1,h2⟩
 ·rw[hR,if_pos h1]
  have hlen:(cy zs D).length=zs.length:=d7 D zs
  have hwb:=mb.size
  refine⟨_,_,b,h2,?_,?_,t3,hY _ _ y2 t23,by omega,hX b _ _ (by omega) x2 (hf.1.mono (fun k _ q=>by have:=hl k q;omega))⟩
  ·have:=h3.own (base:=w.heap.size) (fun k q=>(hl k q).1)
   unfold Rw
   rw[List.length_map,hlen] at this
   rw[hlen];exact this
  ·have hb:=mb.size
   exact((h.row.keep m2 (fun k hk q=>by have:=hS k q;omega)).keep hf.1 (fun k hk q=>by have:=(hl k q).2;omega)).mono mb.size
 ·rw[hR,h1]
  exact⟨h2,t3,hY _ _ y2 t23⟩
theorem Jd (a:Option Addr)(cap:Nat)(zs:List Int)(sem:List KV→Ran)(R:Option (List Int×List KV))(b:Nat)(w:World)(hz:jW w a zs)(hlen:zs.length≤1000)(hok:OkW zs)(hfine:wQ zs b sem)(hb:b≤100000)(hR:doP sem zs (zs.length+1) []=R)(f:Nat)(clo:Array Value)(S:Nat→Prop)(Y:World→Prop)(X:Nat→World→Prop)(hS:∀k,S k→k<w.heap.size)
 (hY:∀w' w'',Y w'→Turned (fun k=>w.heap.size≤k) w' w''→Y w'') (hX:∀b w' w'',w.heap.size≤b→X b w'→Turned (fun k=>w.heap.size≤k∧k<b) w' w''→X b w'') (hY0:Y w)
 (henter:∀args w,Sem.run Tryz.prog (callFunc f args) w=.ok (.enter f args) w)
 (hprog:∀(K:List KV),jU zs K→∀(W:World) (F:Nat→Prop) (p:Nat),Turned S w W→Y W→aF W F p (look K) []→(∀k,F k→w.heap.size≤k)→Calls Tryz.prog f (#[.pointer (some ⟨p,0,none⟩)]++clo) W (jc W F S Y (X W.heap.size) p (look K) (sem K))):
 Calls Tryz.prog 9 #[.slice a zs.length cap,.func (.func f) #[] clo] w (Lh w S Y X R):=by
 have hmm:= @run_makeMap Tryz.prog
 have CL:=hQQ (rc a cap zs w hz (by omega))
 have HOK:=hQQ hok
 have HF:=hQQ hfine
 have HR0:=hQQ hR
 have HE:=hQQ henter
 have HP:=hQQ hprog
 have HSS:=hQQ hS
 have HY:=hQQ hY
 have HX:=hQQ hX
 have HY0:=hQQ hY0
 clear hz hok hfine hR henter hprog hS hY hX hY0
 go_enter Tryz.func9,Tryz.ntmps9
 go_wp2_with fail
 refine CL.o.mono ?_
 rintro e w1 ⟨a',cap',rfl,hr1,hn1,hm1⟩
 have DO0:Hq (OnY w (w1.alloc (.map #[] 0)) (w1.alloc (.map #[] 0)) S Y w1.heap.size zs sem R [] (.slice none 0 0)):=hQQ
  ⟨po zs,HR0.o,PRw.nil _ _,KnownAt.made w1,Turned.refl _ _,HY.o _ _ HY0.o (Turned.mono (hm1.alloc _) (fun _ _ q=>q.elim))⟩
 have MB:Hq (ae w (w1.alloc (.map #[] 0))):=hQQ (hm1.alloc _)
 have RB:=hQQ (hr1.keep ((ae.refl w1).alloc (.map #[] 0)) (fun _ _ q=>q))
 have HL:Hq (∀k,dc a' k→w.heap.size≤k∧k<(w1.alloc (.map #[] 0)).heap.size∧k≠w1.heap.size):=hQQ fun k q=>⟨hn1 k q,by have:=hr1.lt k q;simp;omega,by have:=hr1.lt k q;omega⟩
 have hwM:w.heap.size≤w1.heap.size:=hm1.size
 have hMb:w1.heap.size<(w1.alloc (.map #[] 0)).heap.size:=by simp
 clear hr1 hn1 hm1 CL
 go_wp2_with fail
 generalize w1.alloc (.map #[] 0)=wb at DO0 MB RB HL hMb⊢
 generalize w1.heap.size=M at DO0 HL hwM hMb⊢
 go_loopw [8] (fun u8 wr=>∃K,OnY w wb wr S Y M zs sem R K u8∧rd u8=K.length) (fun u8 _=>zs.length+1-rd u8)
 case atStart=>exact⟨[],DO0.o,rfl⟩
 case round =>
  obtain⟨K,hdo,hln⟩:=hrel
  obtain⟨an,cn,rfl,hpn,_⟩:=hdo.row.reads
  have DO:=hQQ hdo
  have hKl:=hdo.okn.len
  have hsz:w.heap.size≤wr.heap.size:=Nat.le_trans MB.o.size hdo.turn.size
  have hmr:Turned S w wr:=ak (Turned.mono MB.o (fun _ _ q=>q.elim)) hdo.turn (fun k q=>by rcases q with q|q;exact .inr (by omega);exact .inl q)
  have LS:=hQQ (fun k (q:S k)=>HSS.o k q)
  have RUN:=hQQ (Lg (look K) (sem K) M K.length wr hdo.known f clo S Y X HE.o (fun k q=>Nat.lt_of_lt_of_le (HSS.o k q) hsz) (fun w' w'' h t=>HY.o w' w'' h (t.mono (fun k _ q=>Nat.le_trans hsz q))) (fun b w' w'' hb h t=>HX.o b w' w'' (by omega) h (t.mono (fun k _ q=>by omega))) hdo.y
   (fun W F p m y v n=>HP.o K hdo.okn W F p (ak (F':=fun _=>False) hmr m (fun _ q=>q.elim)) y v (fun k hk=>Nat.le_trans hsz (n k hk))))
  have HFK:=hQQ (HF.o K hdo.okn)
  have RW:Hq (RowAt wr 3 (zs.map (Value.int .i64)) a' cap'):=hQQ (RB.o.keep hdo.turn (fun k q e=>by rcases e with e|e;exact(HL.o k q).2.2 e;have:=HSS.o k e;have:=(HL.o k q).1;omega))
  clear hdo hpn hmr hsz DO0 hln
  go_wp2_with fail
  refine RUN.o.mono ?_
  intro e w2 he
  cases hs:sem K with
  |need x =>
   rw[hs] at he
   obtain⟨rfl,hm2,hy2⟩:=he
   have HS:=hQQ hs
   have hx0:0≤x:=by have:=HFK.o;rw[hs] at this;exact this.1
   clear hs RUN
   obtain⟨j,rfl⟩:∃j:Nat,x=j:=⟨x.toNat,by omega⟩
   have HM2:Hq (Turned S wr w2):=hQQ hm2
   have Y2:=hQQ hy2
   have nSM:¬S M:=fun q=>by have:=HSS.o M q;omega
   have nSa:∀k,dc a' k→¬S k:=fun k q r=>by have:=HSS.o k r;have:=(HL.o k q).1;omega
   have bW:w.heap.size≤wb.heap.size:=MB.o.size
   clear hm2 hy2
   have HFJ:=HFK.o
   rw[HS.o] at HFJ
   by_cases hj:j<zs.length
   ·obtain⟨q1,q2,q3,q4⟩:=yx DO.o.okn HFK.o HS.o (by omega) DO.o.res
    have d1:decide ((zs.length:Int)≤(j:Int))=false:=by simp;omega
    have d3:decide (zs.length≤j)=false:=by simp;omega
    have d2:decide ((j:Int)<0)=false:=by simp
    have hrow:=RW.o.keep HM2.o nSa
    obtain⟨g,rfl,hg,hcell,_⟩:=hrow.reads (by simp;omega)
    have hgM:g≠M:=(HL.o g rfl).2.2
    have cw:w2.cell? ⟨g,j,none⟩=some (.int .i64 (wAt zs j)):=by
     refine hcell j _ ?_
     unfold wAt
     rw[List.getElem?_map,List.getElem?_eq_getElem hj]
     simp[List.getD,hj]
    obtain⟨w3,hst,hk3,ht3⟩:=(DO.o.known.keep HM2.o nSM).store HFJ.2.1 (AI HOK.o j) (by unfold maxLen;omega)
    rw[vw q4] at hk3
    have T23:=hQQ ht3
    have K3:=hQQ hk3
    have cw3:=eh ht3 hgM cw
    have hg3:g<w3.heap.size:=Nat.lt_of_lt_of_le hg ht3.size
    have TB3:Hq (Turned (fun k=>k=M∨S k) wb w3):=hQQ ((ak DO.o.turn HM2.o (fun _ q=> .inl (.inr q))).trans (ht3.mono (fun _ _ q=> .inl q)))
    have YW3:Hq (Y w3):=hQQ (HY.o _ _ Y2.o (ht3.mono (fun k _ q=>by subst q;exact hwM)))
    have R3:Hq (PRw wb.heap.size w3 (.slice an K.length cn) K):=hQQ ((DO.o.row.keep HM2.o (fun k hk q=>by have:=HSS.o k q;omega)).keep ht3 (fun k hk e=>by omega))
    have NX:Hq (∀w4 v,PRw wb.heap.size w4 v (K++ [((j:Int),wAt zs j)])→Turned (fun k=>k=M∨S k) wb w4→(∀k ob,w3.heap[k]?=some ob→(Value.slice an K.length cn).ownBlock≠some k→w4.heap[k]?=some ob)→Y w4→OnY w wb w4 S Y M zs sem R (K++ [((j:Int),wAt zs j)]) v):=hQQ fun w4 v h1 h2 h3 h5 =>
     ⟨q1,q2,h1,by rw[List.length_append];exact K3.o.of_block (fun ob ho=>h3 M ob ho (fun e=>by have:=(DO.o.row.lt M e).1;omega)),h2,h5⟩
    clear hrow hcell hk3 ht3 q1 q2 q3 q4 HFJ
    generalize wAt zs j=z at cw hst cw3 NX
    go_wp2_with (at_builtin;refine pq (S:=fun k=>k=M∨S k) (wa:=wb) (ps:=K) (j:Int) z rfl _ _ rfl rfl R3.o TB3.o (by omega) rfl ?_;intro g4 c4 w4 h4 t4 k4 u4;have N4:=hQQ (NX.o _ _ h4 t4 k4 (HY.o _ _ YW3.o (u4.mono (fun k _ q=>Nat.le_trans bW (DO.o.row.lt k q).1))));clear h4 t4 k4 u4)
    go_roundw
    case rel=>exact⟨_,N4.o,by simp[rd]⟩
    case measure=>simp[rd];omega
   ·have hn:=CW DO.o.okn HS.o (by omega) DO.o.res
    subst hn
    have d1:decide ((zs.length:Int)≤(j:Int))=true:=by simp;omega
    have d3:decide (zs.length≤j)=true:=by simp;omega
    have d2:decide ((j:Int)<0)=false:=by simp
    have FIN:Hq (Lh w S Y X none (.returned (.tuple #[.slice none 0 0,.slice none 0 0,.int .i64 3])) w2):=hQQ ⟨rfl,ak (ak (Turned.mono MB.o (fun _ _ q=>q.elim)) DO.o.turn (fun k q=>by rcases q with q|q;exact .inr (by omega);exact .inl q)) HM2.o (fun k q=> .inl q),Y2.o⟩
    clear HFJ hj
    go_wp2_with fail
    go_ret3
    exact FIN.o
  |done D =>
   rw[hs] at he
   obtain⟨v,p,bX,rfl,hr,hm2,hy2,⟨hbX,hx2⟩,_⟩:=he
   have nSa:∀k,dc a' k→¬S k:=fun k q r=>by have:=HSS.o k r;have:=(HL.o k q).1;omega
   obtain⟨ad,cd,rfl,hpd,hbd⟩:=hr.reads
   have hfk:=HFK.o
   rw[hs] at hfk
   have FINI:=hQQ (vy zs D a' ad an cap' cd K.length cn w2 (RW.o.keep hm2 nSa) hpd (by have:=hfk.2.2;omega) (by omega) hfk.1 (fun k q r=>by have:=hbd k q;have:=(HL.o k r).2.1;have:=DO.o.turn.size;omega))
   have FIN:Hq (∀e w3,jA w2 zs D a' cap' (.slice an K.length cn) e w3→Lh w S Y X R e w3):=hQQ fun e w3 h=>Li DO.o hs MB.o hwM (fun k q=>⟨(HL.o k q).1,(HL.o k q).2.1⟩) HSS.o hm2 h HY.o HX.o hy2 (Nat.le_trans DO.o.turn.size hbX) hx2
   clear hs RUN hr hm2 hpd hbd hfk hy2 hx2
   go_wp2_with fail
   refine FINI.o.mono ?_
   intro e w3 he
   have hfin:=FIN.o e w3 he
   rcases he.2 with⟨_,rfl,_⟩|⟨_,rfl⟩
   ·have F2:=hQQ hfin
    clear hfin he
    go_wp2_with fail
    go_ret3
    exact F2.o
   ·have F2:=hQQ hfin
    clear hfin he
    go_wp2_with fail
    go_ret3
    exact F2.o
structure AgK (c:Cfg)(a:Option Addr)(capl:Nat)(l:List gA)(g2 g3 g4 bt:Nat)(w:World):Prop where
 h2:w.heap[g2]?=some (.cells #[.slice a l.length capl] 24 (0,0))
 h3:w.heap[g3]?=some (.cells c.cells 73 (0,0))
 h4:w.heap[g4]?=some (.cells c.arr 28 (0,0))
 ins:gC w a l
 sz:dh bt w
def AgO (a:Option Addr)(l:List gA)(g2 g3 g4 bt k:Nat):Prop:=k=g2∨k=g3∨k=g4∨k=0∨k=bt∨(l≠ []∧iJ a k)
section
variable {c:Cfg}{a:Option Addr}{capl:Nat}{l:List gA}{g2 g3 g4 bt:Nat}{w w':World}
theorem AgK.keep {S:Nat→Prop}(h:AgK c a capl l g2 g3 g4 bt w)(t:Turned S w w')(n:∀k,AgO a l g2 g3 g4 bt k→¬S k):AgK c a capl l g2 g3 g4 bt w' :=
 ⟨(t.block _ (ac h.h2) (n _ (.inl rfl))).trans h.h2,(t.block _ (ac h.h3) (n _ (.inr (.inl rfl)))).trans h.h3,(t.block _ (ac h.h4) (n _ (.inr (.inr (.inl rfl))))).trans h.h4,h.ins.keep t (fun e k hk=>n k (.inr (.inr (.inr (.inr (.inr ⟨e,hk⟩)))))),h.sz.keep t (n _ (.inr (.inr (.inr (.inl rfl))))) (n _ (.inr (.inr (.inr (.inr (.inl rfl))))))⟩
theorem AgK.more (h:AgK c a capl l g2 g3 g4 bt w)(m:ae w w'):AgK c a capl l g2 g3 g4 bt w':=h.keep m (fun _ _ q=>q)
theorem AgK.lt (h:AgK c a capl l g2 g3 g4 bt w){k:Nat}(hk:AgO a l g2 g3 g4 bt k):k<w.heap.size:=by
 rcases hk with rfl|rfl|rfl|rfl|rfl|⟨e,hk⟩
 ·exact ac h.h2
 ·exact ac h.h3
 ·exact ac h.h4
 ·exact h.sz.lt0
 ·exact h.sz.lt
 ·exact h.ins.lt e k hk
end
def AgY (c:Cfg)(a:Option Addr)(capl:Nat)(l:List gA)(g1 g2 g3 g4 bt:Nat)(pre:List Value)(ok:Value)(w:World):Prop:=AgK c a capl l g2 g3 g4 bt w∧∃fs o,StB w g1 pre fs o ok
def kw (b:Nat)(F:Nat→Prop)(w:World)(v:Value)(its:List Bl):Prop:=BlR b w v its∧∀q,v.ownBlock=some q→¬F q∧b≤q
def AgX (b g1:Nat)(pre:List Value)(ok:Value)(s:FSt)(w:World):Prop:=∃fs o,StB w g1 pre fs o ok∧Pu w (fs 0) s.P0∧Pu w (fs 1) s.P1∧BlR b w o s.O∧PuN (fun q=>b≤q) (fs 0)∧PuN (fun q=>b≤q) (fs 1)
structure AgM (b g1:Nat)(pre:List Value)(ok:Value)(d:Cfg)(F':Nat→Prop)(s:FSt)(fs:Nat→Nat→Value)(o:Value)(w:World):Prop where
 st:StB w g1 pre fs o ok
 p0:cS (fun q=>q<b∨F' q) w (fs 0) s.P0
 p1:cS (fun q=>q<b∨F' q) w (fs 1) s.P1
 row:kw b F' w o s.O
 okS:OkS d s
theorem kw.more {b:Nat}{F:Nat→Prop}{w w':World}{v:Value}{its:List Bl}(h:kw b F w v its)(m:ae w w'):kw b F w' v its:=⟨h.1.more m,h.2⟩
theorem kw.nil (b:Nat)(F:Nat→Prop)(w:World):kw b F w (.slice none 0 0) []:=⟨BlR.nil b w,fun q e=>by cases e⟩
theorem kw.stay {b:Nat}{F F1:Nat→Prop}{w w':World}{v:Value}{its:List Bl}(h:kw b F w v its)(s:∀g o,¬F g→w.heap[g]?=some o→w'.heap[g]?=some o)(n:∀g,F1 g→F g∨w.heap.size≤g):kw b F1 w' v its:=by
 refine⟨⟨h.1.1,?_⟩,fun q e=>⟨fun z=>?_,(h.2 q e).2⟩⟩
 ·rcases h.1.2 with q|⟨g,cap,cur,rfl,h2,h3,h4⟩
  ·exact .inl q
  ·exact .inr ⟨g,cap,cur,rfl,h2,s _ _ (h.2 g rfl).1 h3,h4⟩
 ·rcases n q z with r|r
  ·exact(h.2 q e).1 r
  ·have:=h.1.lt q e;omega
theorem AgM.more {b g1:Nat}{pre:List Value}{ok:Value}{d:Cfg}{F':Nat→Prop}{s:FSt}{fs:Nat→Nat→Value}{o:Value}{w w':World}(h:AgM b g1 pre ok d F' s fs o w)(m:ae w w'):AgM b g1 pre ok d F' s fs o w':=⟨h.st.more m,h.p0.more m,h.p1.more m,h.row.more m,h.okS⟩
theorem AgM.stay {b g1:Nat}{pre:List Value}{ok:Value}{d:Cfg}{F' F1:Nat→Prop}{s:FSt}{fs:Nat→Nat→Value}{o:Value}{w w':World}(h:AgM b g1 pre ok d F' s fs o w)(ng:¬F' g1)(k:∀g o,¬F' g→w.heap[g]?=some o→w'.heap[g]?=some o)(n:∀g,F1 g→F' g∨w.heap.size≤g):AgM b g1 pre ok d F1 s fs o w':=⟨⟨h.st.1,k _ _ ng h.st.2⟩,h.p0.stayN k n,h.p1.stayN k n,h.row.stay k n,h.okS⟩
section
variable {d:Cfg}{n bt:Nat}(T:o8 d n bt)
theorem Jf (x u c m:Int)(s:FSt)(f:FSt→Prg FSt):aq (dG T (5,x,u,c,m) s) f=aq T.drP fun _=>f s:=by
 have:dG T (5,x,u,c,m) s=aq T.drP fun _=>az s:=by simp[dG]
 rw[this,cM];rfl
theorem Jg (x u c m:Int)(s:FSt)(f:FSt→Prg FSt):aq (dG T (4,x,u,c,m) s) f=aq (T.flP (s.at x)) fun y=>f (s.put x y.2):=by
 have:dG T (4,x,u,c,m) s=aq (T.flP (s.at x)) fun y=>az (s.put x y.2):=by simp[dG]
 rw[this,cM];rfl
theorem Jh (k x u c m:Int)(hk:k=0∨k=1)(s:FSt)(f:FSt→Prg FSt):aq (dG T (k,x,u,c,m) s) f=aq (T.tkP (gM d u) (s.at x) c) fun y=>f ((s.put x y.2).out (if y.1.2 then s.O++ [(y.1.1,c)] else s.O)):=by
 have:dG T (k,x,u,c,m) s=aq (T.tkP (gM d u) (s.at x) c) fun y=>az ((s.put x y.2).out (if y.1.2 then s.O++ [(y.1.1,c)] else s.O)):=by simp only[dG];rw[if_pos hk]
 rw[this,cM];rfl
theorem FA (k x u c m:Int)(hk:k=2∨k=3)(s:FSt)(h:s.O[nthI m s.O.length]?=none)(f:FSt→Prg FSt):aq (dG T (k,x,u,c,m) s) f=f s:=by
 have:dG T (k,x,u,c,m) s=az s:=by simp only[dG];rw[if_neg (by omega),if_pos hk,h]
 rw[this];rfl
theorem FC (k x u c m:Int)(hk:k=2∨k=3)(s:FSt){b:Bl}(h:s.O[nthI m s.O.length]?=some b)(f:FSt→Prg FSt):aq (dG T (k,x,u,c,m) s) f=aq (T.gvP (gM d u) (s.at x) b.2 b.1) fun y=>f ((s.put x y.2).out (s.O.take (nthI m s.O.length)++s.O.drop (nthI m s.O.length+1))):=by
 have:dG T (k,x,u,c,m) s=aq (T.gvP (gM d u) (s.at x) b.2 b.1) fun y=>az ((s.put x y.2).out (s.O.take (nthI m s.O.length)++s.O.drop (nthI m s.O.length+1))):=by simp only[dG];rw[if_neg (by omega),if_pos hk,h]
 rw[this,cM];rfl
theorem FD (k x u c m:Int)(hk:k<0∨5<k)(s:FSt)(f:FSt→Prg FSt):aq (dG T (k,x,u,c,m) s) f=f s:=by
 have:dG T (k,x,u,c,m) s=az s:=by simp only[dG];rw[if_neg (by omega),if_neg (by omega),if_neg (by omega),if_neg (by omega)]
 rw[this];rfl
end
theorem FSt.put_O (s:FSt)(x:Int)(P:Nat→List Int):(s.put x P).O=s.O:=by unfold FSt.put;split<;>rfl
theorem MidV.setR {W wr:World}{F S F':Nat→Prop}{p n:Nat}{kn:Int→Option Int}{D:List KV}(h:MidV W wr F S p kn n D F'){b:Nat}(hS:b<W.heap.size→S b)(nF:¬F' b)(cs':Array Value){cs:Array Value}{t:TypeId}{fr:Nat×Nat}(hb:wr.heap[b]?=some (.cells cs t fr)):MidV W (wr.setRow b cs') F S p kn n D F' :=
 have T:Turned (fun k=>k=b) wr (wr.setRow b cs'):=Turned.setRow (Turned.refl _ wr) b cs' (fun _=>rfl)
 ⟨h.view.keepS (S:=fun k=>k=b) T (fun k q e=>nF (e▸q)) (fun k es cl e q=>by subst e;rw[hb] at q;cases q),
  h.from',ak h.turn T (fun k q=>by
   subst q
   rcases Nat.lt_or_ge k W.heap.size with r|r
   ·exact .inl (.inr (hS r))
   ·exact .inr r),h.inv⟩
theorem Ji (x:Int):∃wk:Nat,wk<2∧wkV x=(wk:Int):=by
 rcases Nd x with e|e
 ·exact⟨0,by omega,e⟩
 ·exact⟨1,by omega,e⟩
section
variable {b g1:Nat}{pre:List Value}{ok:Value}{d:Cfg}{F':Nat→Prop}{s:FSt}{fs:Nat→Nat→Value}{o:Value}{w:World}{x:Int}
theorem AgM.at0 (h:AgM b g1 pre ok d F' s fs o w)(e:wkV x=0):cS (fun q=>q<b∨F' q) w (fs 0) (s.at x):=by unfold FSt.at;rw[if_pos e];exact h.p0
theorem AgM.at1 (h:AgM b g1 pre ok d F' s fs o w)(e:wkV x=1):cS (fun q=>q<b∨F' q) w (fs 1) (s.at x):=by unfold FSt.at;rw[if_neg (by omega)];exact h.p1
theorem AgM.turn (h:AgM b g1 pre ok d F' s fs o w){w':World}(t:Turned (fun k=>k=g1) w w'):(∀f P,cS (fun q=>q<b∨F' q) w f P→cS (fun q=>q<b∨F' q) w' f P)∧kw b F' w' o s.O:=by
 have hs:∀T:TypeId,T≠37→∀k,k=g1→∃cs U fr,w.heap[k]?=some (.cells cs U fr)∧U≠T:=fun T hT k q=>by subst q;exact⟨_,_,_,h.st.2,fun e=>hT e.symm⟩
 exact⟨fun f P q=>q.keep t (hs _ (by decide)),h.row.1.keep t (hs _ (by decide)),h.row.2⟩
theorem AgM.put0 (h:AgM b g1 pre ok d F' s fs o w)(e:wkV x=0)(f:Nat→Value)(P:Nat→List Int)(hp:cS (fun q=>q<b∨F' q) w f P)(hl:dr d P)(cur:Array Value)(hc:cur=(stL pre fs o ok).toArray):
 AgM b g1 pre ok d F' (s.put x P) (nX fs 0 f) o (w.setRow g1 (cur.toList.take 25++(puA f).toList++cur.toList.drop (25+(puA f).size)).toArray):=by
 obtain⟨t1,t2⟩:=h.turn (w':=w.setRow g1 (cur.toList.take 25++(puA f).toList++cur.toList.drop (25+(puA f).size)).toArray) (Turned.setRow (Turned.refl _ w) _ _ (fun _=>rfl))
 have s2:=h.st.put (n:=0) (by omega) f cur hc
 have e2:s.put x P=⟨P,s.P1,s.O⟩:=by unfold FSt.put;rw[if_pos e]
 rw[e2]
 exact⟨s2,t1 _ _ hp,t1 _ _ h.p1,t2,hl,h.okS.l1,h.okS.o⟩
theorem AgM.put1 (h:AgM b g1 pre ok d F' s fs o w)(e:wkV x=1)(f:Nat→Value)(P:Nat→List Int)(hp:cS (fun q=>q<b∨F' q) w f P)(hl:dr d P)(cur:Array Value)(hc:cur=(stL pre fs o ok).toArray):
 AgM b g1 pre ok d F' (s.put x P) (nX fs 1 f) o (w.setRow g1 (cur.toList.take 30++(puA f).toList++cur.toList.drop (30+(puA f).size)).toArray):=by
 obtain⟨t1,t2⟩:=h.turn (w':=w.setRow g1 (cur.toList.take 30++(puA f).toList++cur.toList.drop (30+(puA f).size)).toArray) (Turned.setRow (Turned.refl _ w) _ _ (fun _=>rfl))
 have s2:=h.st.put (n:=1) (by omega) f cur hc
 have e2:s.put x P=⟨s.P0,P,s.O⟩:=by unfold FSt.put;rw[if_neg (by omega)]
 rw[e2]
 exact⟨s2,t1 _ _ h.p0,t1 _ _ hp,t2,h.okS.l0,hl,h.okS.o⟩
theorem AgM.atk (h:AgM b g1 pre ok d F' s fs o w){wk:Nat}(hw:wk<2)(e:wkV x=(wk:Int)):cS (fun q=>q<b∨F' q) w (fs wk) (s.at x):=by
 rcases (show wk=0∨wk=1 by omega) with rfl|rfl
 ·exact h.at0 e
 ·exact h.at1 e
theorem AgM.putk (h:AgM b g1 pre ok d F' s fs o w){wk:Nat}(hw:wk<2)(e:wkV x=(wk:Int))(f:Nat→Value)(P:Nat→List Int)(hp:cS (fun q=>q<b∨F' q) w f P)(hl:dr d P)(cur:Array Value)(hc:cur=(stL pre fs o ok).toArray):
 AgM b g1 pre ok d F' (s.put x P) (nX fs wk f) o (w.setRow g1 (cur.toList.take (25+wk * 5)++(puA f).toList++cur.toList.drop (25+wk * 5+(puA f).size)).toArray):=by
 rcases (show wk=0∨wk=1 by omega) with rfl|rfl
 ·exact h.put0 e f P hp hl cur hc
 ·exact h.put1 e f P hp hl cur hc
end
theorem kw.turnS {b g1:Nat}{F:Nat→Prop}{w w':World}{v:Value}{its:List Bl}{pre:List Value}{fs:Nat→Nat→Value}{o ok:Value}(h:kw b F w v its)(st:StB w g1 pre fs o ok)(t:Turned (fun k=>k=g1) w w'):kw b F w' v its :=
 ⟨h.1.keep t (fun k q=>by subst q;exact⟨_,_,_,st.2,by decide⟩),h.2⟩
theorem MidV.setC {W wr:World}{F F':Nat→Prop}{p n g1:Nat}{kn:Int→Option Int}{D:List KV}{pre:List Value}{fs:Nat→Nat→Value}{o ok:Value}(h:MidV W wr F (fun b=>b=g1) p kn n D F')(st:StB wr g1 pre fs o ok)(nF:¬F' g1){v:Value} :MidV W (wr.setCell ⟨g1,35,none⟩ v) F (fun b=>b=g1) p kn n D F':=by
 rw[setCell_eq_setRow wr g1 35 _ _ (0,0) v st.2]
 exact h.setR (fun _=>rfl) nF _ st.2
theorem AgM.putO {b g1:Nat}{pre:List Value}{ok:Value}{d:Cfg}{F':Nat→Prop}{s:FSt}{fs:Nat→Nat→Value}{o:Value}{w:World}(h:AgM b g1 pre ok d F' s fs o w){v:Value}{its:List Bl}(hr:kw b F' w v its)(hO:∀q∈its,W64 q.1):AgM b g1 pre ok d F' (s.out its) fs v (w.setCell ⟨g1,35,none⟩ v):=by
 have t:Turned (fun k=>k=g1) w (w.setCell ⟨g1,35,none⟩ v):=Turned.setCell (Turned.refl _ w) _ _ (fun _=>rfl)
 obtain⟨t1,_⟩:=h.turn t
 exact⟨h.st.put35 v,t1 _ _ h.p0,t1 _ _ h.p1,hr.turnS h.st t,h.okS.l0,h.okS.l1,hO⟩
theorem Jj {P:Program}{o:Oper}{a:Act}{w:World}{K:Act→World→Prop}{Q:Exit→Act→World→Prop}{f:Nat}{x0 x1 x2 x3 x4 x5:Operand}{v0 v1 v2 v3 v4 v5:Value}{ts:Array TypeId}(ho:o.op=.call { callee:= .value (.func f),args:= #[x0,x1,x2,x3,x4,x5],argTypes:=ts })(h0:a.eval x0=v0)(h1:a.eval x1=v1)(h2:a.eval x2=v2)(h3:a.eval x3=v3)(h4:a.eval x4=v4)(h5:a.eval x5=v5)(he:∀(vs:Array Value)(w:World),Sem.run P (callFunc f vs) w=.ok (.enter f vs) w)
 (h:Calls P f #[v0,v1,v2,v3,v4,v5] w (fun| .returned v,w''=>K (a.put o.dst v) w''| .panicked ch,w''=>Q (.panic ch) a w''| .outgrown,_=>LetsOut Q)):o.wp P a w K Q:=by
 have hv:a.eval (.func f)=.func (.func f) #[] #[]:=rfl
 unfold Oper.wp Oper.upon
 generalize hρ:a.eval=ρ at h0 h1 h2 h3 h4 h5 hv⊢
 simp[execOp,ho,resolve,invoke,hv,h0,h1,h2,h3,h4,h5,he,Sem.run_bind,Result.andThen,go_sem]
 exact h
theorem AgM.box {b g1:Nat}{pre:List Value}{ok:Value}{d:Cfg}{F':Nat→Prop}{s:FSt}{fs:Nat→Nat→Value}{o:Value}{w w':World}(h:AgM b g1 pre ok d F' s fs o w){gP:Nat}(t:Turned (fun k=>k=gP) w w'){cs:Array Value}{fr:Nat×Nat}(hg:w.heap[gP]?=some (.cells cs 32 fr))(ne:gP≠g1):AgM b g1 pre ok d F' s fs o w' :=
 have hs:∀T:TypeId,T≠32→∀k,k=gP→∃cs U fr,w.heap[k]?=some (.cells cs U fr)∧U≠T:=fun T hT k q=>by subst q;exact⟨_,_,_,hg,fun e=>hT e.symm⟩
 ⟨h.st.keep t (fun q=>ne q.symm),h.p0.keep t (hs _ (by decide)),h.p1.keep t (hs _ (by decide)),⟨h.row.1.keep t (hs _ (by decide)),h.row.2⟩,h.okS⟩
theorem FSt.out_self (s:FSt):s.out s.O=s:=rfl
theorem Cu {ops:Array Oper}{rest:List Oper}{o:Oper}{a:Act}{Q:Exit→Act→World→Prop}{base:Nat}{w:World}{v:Value}{its:List Bl}(p q:Int)(hgd:o.guard=none)(s x:Operand)
 (ho:o.op=.call { callee:= .builtin .append,args:= #[s,x],argTypes:= #[35,35] })
 (hs:a.eval s=v) (hn:BlR base w v its) (hb:base≤w.heap.size) (hl:its.length<1000000)
 (hx:a.eval x=.slice (some ⟨w.heap.size,0,none⟩) 1 1)
 (h:∀v' w',BlR base w' v' (its++ [(p,q)])→Turned (fun k=>v.ownBlock=some k) w w'→(∀k,v'.ownBlock=some k→v.ownBlock=some k∨w.heap.size≤k)→wpList Tryz.prog ops Q rest (a.put o.dst v') w'):wpList Tryz.prog ops Q (o::rest) a (w.alloc (.cells #[.int .i64 p,.int .i64 q] 48)):=by
 have hB:=bz w (.cells #[.int .i64 p,.int .i64 q] 48)
 have m:ae w (w.alloc (.cells #[.int .i64 p,.int .i64 q] 48)):=(ae.refl w).alloc _
 refine wpList_plain hgd fun K hK=>xI (base:=base) (its:=its) (news:=[(p,q)]) s x ho hs (hn.more m) (by have:=m.size;omega) hx (.inr ⟨⟨w.heap.size,0,none⟩,1,rfl,fun j u hu=>World.news_of_block hB j u (by simpa [blCells] using hu)⟩) (by simp only[List.length_cons,List.length_nil];omega) (fun v' w' h1 h2 h3=>hK _ _ (h v' w' h1 (ak (Turned.mono m (fun _ _ q=>q.elim)) h2 (fun k z=> .inl z)) (fun k e=>(h3 k e).imp id (fun r=>by have:=m.size;omega))))
theorem Lj {c:Cfg}{W0 wz wc:World}{F F9:Nat→Prop}{p n g1:Nat}{kn:Int→Option Int}{D9:List KV}{pre:List Value}{ok:Value}{s:FSt}{fs:Nat→Nat→Value}{o:Value}(M:MidV W0 wz F (fun b=>b=g1) p kn n D9 F9)(A:AgM W0.heap.size g1 pre ok c F9 s fs o wz)(t:Turned (fun k=>o.ownBlock=some k) wz wc):
 MidV W0 wc F (fun b=>b=g1) p kn n D9 F9∧StB wc g1 pre fs o ok∧cS (fun q=>q<W0.heap.size∨F9 q) wc (fs 0) s.P0∧cS (fun q=>q<W0.heap.size∨F9 q) wc (fs 1) s.P1:=by
 have ty:∀k,o.ownBlock=some k→∃cs fr,wz.heap[k]?=some (.cells cs 48 fr):=fun k e=>by
  rcases A.row.1.2 with⟨q,_⟩|⟨g,cap,cur,q,_,hg,_⟩
  ·rw[q] at e;cases e
  ·rw[q] at e
   have:g=k:=by simpa [Value.ownBlock] using e
   subst this
   exact⟨_,_,hg⟩
 have hs:∀T:TypeId,T≠48→∀k,o.ownBlock=some k→∃cs U fr,wz.heap[k]?=some (.cells cs U fr)∧U≠T:=fun T hT k e=>by
  obtain⟨cs,fr,h⟩:=ty k e
  exact⟨cs,_,fr,h,fun q=>hT q.symm⟩
 refine⟨⟨M.view.keepS t (fun k q e=>(A.row.2 k e).1 q) (fun k es cl e q=>by obtain⟨cs,fr,h⟩:=ty k e;rw[h] at q;cases q),M.from',ak M.turn t (fun k e=> .inr (A.row.2 k e).2),M.inv⟩,A.st.keep t (fun e=>?_),A.p0.keep t (hs _ (by decide)),A.p1.keep t (hs _ (by decide))⟩
 obtain⟨cs,fr,h⟩:=ty g1 e
 have h2:=A.st.2
 rw[h] at h2
 injection h2 with h2
 injection h2 with _ h2
 exact absurd h2 (by decide)
theorem AgM.putO2 {b g1:Nat}{pre:List Value}{ok:Value}{d:Cfg}{F':Nat→Prop}{s:FSt}{fs:Nat→Nat→Value}{o:Value}{w:World}(st:StB w g1 pre fs o ok)(p0:cS (fun q=>q<b∨F' q) w (fs 0) s.P0)(p1:cS (fun q=>q<b∨F' q) w (fs 1) s.P1)(okS:OkS d s){v:Value}{its:List Bl}(hr:kw b F' w v its)(hO:∀q∈its,W64 q.1):AgM b g1 pre ok d F' (s.out its) fs v (w.setCell ⟨g1,35,none⟩ v):=by
 have t:Turned (fun k=>k=g1) w (w.setCell ⟨g1,35,none⟩ v):=Turned.setCell (Turned.refl _ w) _ _ (fun _=>rfl)
 have hs:∀T:TypeId,T≠37→∀k,k=g1→∃cs U fr,w.heap[k]?=some (.cells cs U fr)∧U≠T:=fun T hT k q=>by subst q;exact⟨_,_,_,st.2,fun e=>hT e.symm⟩
 exact⟨st.put35 v,p0.keep t (hs _ (by decide)),p1.keep t (hs _ (by decide)),hr.turnS st t,okS.l0,okS.l1,hO⟩
theorem gL {P:Program}{ops:Array Oper}{C:World→Prop}{o:Oper}{a:Act}(hw:Region.wanted o (yielded ops a.tmps)=true)(ty:TypeId)(x:Operand)(ho:o.op=.load ty x)(g off:Nat)(hx:a.eval x=.pointer (some ⟨g,off,none⟩))(cs:List Value)(d:TypeDesc)(hg:∀w,C w→w.rangeAt g off cs)(hu:P.underlying ty=some d)(hd:d.isRow=true)(hi:(P.info? ty).map (·.size)=some cs.length):bM P ops C o (.agg cs.toArray) a :=
 .inl ⟨hw,fun w hC=>by
  unfold execOp
  simp only[ho,hx,Instr.loadAt,Instr.sureAddr,Sem.run_bind,Sem.run_pure,Result.andThen_ok,run_loadVar_mid w g off ty cs d (hg w hC) hu hd hi]⟩
theorem ou {o:Oper}{a:Act}{w:World}{K:Act→World→Prop}{Q:Exit→Act→World→Prop}(ho:o.op=.alloc 32)(h:K (a.put o.dst (.pointer (some ⟨w.heap.size,0,none⟩))) (w.alloc (.cells #[.slice none 0 0,.slice none 0 0,.slice none 0 0,.slice none 0 0,.slice none 0 0] 32))):Oper.wp Tryz.prog o a w K Q:=by
 unfold Oper.wp Oper.upon execOp
 simp only[ho]
 generalize a.eval=ρ
 go_simp
 exact h
theorem Nr {c:Cfg}(R:c.Ok){n bt:Nat}(T:o8 c n bt)(F:Nat→Prop)(p g1 g2 g3 g4:Nat)(kn:Int→Option Int)(a:Option Addr)(capl:Nat)(l:List gA)(hll:l.length≤1000)(sF:FSt)(pre:List Value)(ok:Value)(W0:World)(hv:aF W0 F p kn [])(hk:OkK kn)(hY:AgY c a capl l g1 g2 g3 g4 bt pre ok W0)(nF:∀k,AgO a l g2 g3 g4 bt k→¬F k)(n1:¬F g1)(ne:∀k,AgO a l g2 g3 g4 bt k→k≠g1)
 (ht:∀z D,dT T l ⟨fun _=> [],fun _=> [],[]⟩ kn []=.ok z D→z=sF):
 Calls Tryz.prog 37 #[.pointer (some ⟨p,0,none⟩),.pointer (some ⟨g1,0,none⟩),.pointer (some ⟨g2,0,none⟩),.pointer (some ⟨g3,0,none⟩),.pointer (some ⟨g4,0,none⟩)] W0 (jc W0 F (fun b=>b=g1) (fun w'=>AgY c a capl l g1 g2 g3 g4 bt pre ok w') (fun w'=>AgX W0.heap.size g1 pre ok sF w') p kn (fY (dT T l ⟨fun _=> [],fun _=> [],[]⟩ kn []))):=by
 obtain⟨Rr,hR⟩:∃Rr,dT T l ⟨fun _=> [],fun _=> [],[]⟩ kn []=Rr:=⟨_,rfl⟩
 rw[hR] at ht⊢
 obtain⟨hK,fs0,o0,h1⟩:=hY
 have l1:=h1.lt
 have HK:=hQQ hk
 have HR:=hQQ R
 have KT:Hq (∀wr,Turned (fun b=>F b∨b=g1) W0 wr→AgK c a capl l g2 g3 g4 bt wr):=hQQ fun wr t=>hK.keep t (fun k q=>by rintro(z|z);exact nF k q z;exact ne k q z)
 have N1:Hq (∀wr D' F',MidV W0 wr F (fun b=>b=g1) p kn n D' F'→¬F' g1):=hQQ fun wr D' F' h=>h.off l1 n1
 have NZ:Hq (∀wr D' F',MidV W0 wr F (fun b=>b=g1) p kn n D' F'→¬F' 0∧¬F' bt):=hQQ fun wr D' F' h=>⟨h.off (hK.lt (.inr (.inr (.inr (.inl rfl))))) (nF _ (.inr (.inr (.inr (.inl rfl))))),h.off (hK.lt (.inr (.inr (.inr (.inr (.inl rfl)))))) (nF _ (.inr (.inr (.inr (.inr (.inl rfl))))))⟩
 have NEED:Hq (∀x w2,Rr=.need x→bJ w2 p x→Turned (fun b=>F b∨b=g1) W0 w2→(∃fs o,StB w2 g1 pre fs o ok)→jc W0 F (fun b=>b=g1) (fun w'=>AgY c a capl l g1 g2 g3 g4 bt pre ok w') (fun w'=>AgX W0.heap.size g1 pre ok sF w') p kn (fY Rr) (.panicked (bB p)) w2):=hQQ fun x w2 e hd' ht' q =>
  wT (oE e) hd' ht' ⟨KT.o _ ht',q⟩
 have DONE:Hq (∀x w2 D F' fs o,Rr=.ok x D→MidV W0 w2 F (fun b=>b=g1) p kn n D F'→AgM W0.heap.size g1 pre ok c F' x fs o w2→jc W0 F (fun b=>b=g1) (fun w'=>AgY c a capl l g1 g2 g3 g4 bt pre ok w') (fun w'=>AgX W0.heap.size g1 pre ok sF w') p kn (fY Rr) (.returned (.tuple #[])) w2):=hQQ fun x w2 D F' fs o e h b=>by
  have:=ht x D e
  subst this
  exact wU h (sR e) ⟨KT.o _ h.turn,_,_,b.st⟩ ⟨_,_,b.st,b.p0.1,b.p1.1,b.row.1,fun c hc q e=>Nat.le_of_not_lt fun z=>b.p0.2 c hc q e (.inl z),fun c hc q e=>Nat.le_of_not_lt fun z=>b.p1.2 c hc q e (.inl z)⟩
 have M0:Hq (MidV W0 W0 F (fun b=>b=g1) p kn n [] F):=hQQ (MidV.begin hv (dP n))
 have HL:=hQQ hll
 have HRr:=hQQ hR
 obtain⟨cur,hcur⟩:∃cur,(stL pre fs0 o0 ok).toArray=cur:=⟨_,rfl⟩
 have hg1:=h1.2
 rw[hcur] at hg1
 have hsz:cur.size=37:=by rw[←hcur,List.size_toArray];exact nR h1.1 _ _ _
 obtain⟨w1,e1⟩:∃w1,W0.setRow g1 (cur.toList.take 25++(#[.slice none 0 0,.slice none 0 0,.slice none 0 0,.slice none 0 0,.slice none 0 0,.slice none 0 0,.slice none 0 0,.slice none 0 0,.slice none 0 0,.slice none 0 0]:Array Value).toList++cur.toList.drop (25+(#[.slice none 0 0,.slice none 0 0,.slice none 0 0,.slice none 0 0,.slice none 0 0,.slice none 0 0,.slice none 0 0,.slice none 0 0,.slice none 0 0,.slice none 0 0]:Array Value).size)).toArray=w1:=⟨_,rfl⟩
 have s1:StB w1 g1 pre (fun _ _=> .slice none 0 0) o0 ok:=by rw[←e1];exact h1.zero cur hcur.symm _ rfl
 have t1:Turned (fun b=>b=g1) W0 w1:=by rw[←e1];exact Turned.setRow (Turned.refl _ W0) _ _ (fun _=>rfl)
 have x1:=s1.row
 have x2:=s1.froz 35
 obtain⟨w2,e2⟩:∃w2,w1.setCell ⟨g1,35,none⟩ (.slice none 0 0)=w2:=⟨_,rfl⟩
 have s2:StB w2 g1 pre (fun _ _=> .slice none 0 0) (.slice none 0 0) ok:=by rw[←e2];exact s1.put35 _
 have t2:Turned (fun b=>b=g1) W0 w2:=by rw[←e2];exact Turned.setCell t1 _ _ (fun _=>rfl)
 have M2:Hq (MidV W0 w2 F (fun b=>b=g1) p kn n [] F):=hQQ ⟨hv.keepS t2 (fun k q e=>n1 (e▸q)) (fun k es cl e q=>by subst e;rw[h1.2] at q;cases q),fun k q=> .inl q,t2.mono (fun k _ q=> .inr q),dP n⟩
 have A2:Hq (AgM W0.heap.size g1 pre ok c F ⟨fun _=> [],fun _=> [],[]⟩ (fun _ _=> .slice none 0 0) (.slice none 0 0) w2):=hQQ ⟨s2,cS.nil _ _,cS.nil _ _,kw.nil _ _ _,OkS.nil R⟩
 clear hv hk R hR ht h1 hK nF n1 hll s1 s2 t1 t2 hcur
 go_enter Tryz.func37,Tryz.ntmps37
 go_wp2_with (refine ia rfl 33 _ _ rfl g1 25 _ rfl rfl 37 cur hg1 (by rw[hsz];exact Nat.le_of_ble_eq_true rfl) (by kernel_rfl) (by simp[Value.oneCell']) ?_;rw[e1])
 clear x1 x2 e1 e2 hg1 hsz l1
 go_loopw [6] (fun i wr=>∃(j:Nat) (s:FSt) (fs:Nat→Nat→Value) (o:Value) (D:List KV) (F':Nat→Prop),i=.int .i64 (j:Int)∧j≤l.length∧s.O.length≤j∧MidV W0 wr F (fun b=>b=g1) p kn n D F'∧AgM W0.heap.size g1 pre ok c F' s fs o wr∧dT T (l.drop j) s kn D=Rr) (fun i _=>l.length-(intOf i).toNat)
 case atStart=>exact⟨0,_,_,_,[],F,rfl,Nat.zero_le _,by simp,M2.o,A2.o,by simpa using HRr.o⟩
 case round =>
  obtain⟨j,st,fs,o,D1,F1,rfl,hj,hbl,M1',A1',E1'⟩:=hrel
  clear M0 M2 A2 HRr
  have M1:=hQQ M1'
  have A1:=hQQ A1'
  have KK:=hQQ (KT.o _ M1'.turn)
  have c2:=(aA KK.o.h2).1
  have HBL:=hQQ hbl
  clear M1' A1'
  by_cases hlt:j<l.length
  ·have d1:decide ((j:Int)<(l.length:Int))=true:=by simp;omega
   obtain⟨⟨kind,x,u,cl,m⟩,hjt⟩:∃t,l[j]?=some t:=⟨_,List.getElem?_eq_getElem hlt⟩
   rw[H6 hjt] at E1'
   have E2:=hQQ (show aq (dG T (kind,x,u,cl,m) st) (fun s'=>dT T (l.drop (j+1)) s') kn D1=Rr from E1')
   obtain⟨sb,so,ha,hs,_⟩:=KK.o.ins.resolve_left (by intro q;rw[q] at hlt;simp at hlt)
   subst ha
   have hrg:=KK.o.ins.range hjt
   have hjx:(j:Int)<(l.length:Int):=by omega
   have hjy:(0:Int)≤(j:Int):=by omega
   obtain⟨w3,e3⟩:∃w3,(wr.alloc (.cells #[.int .i64 0,.int .i64 0,.int .i64 0,.int .i64 0,.int .i64 0] 77)).setRow wr.heap.size #[.int .i64 kind,.int .i64 x,.int .i64 u,.int .i64 cl,.int .i64 m]=w3:=⟨_,rfl⟩
   have hb3:w3.heap[wr.heap.size]?=some (.cells #[.int .i64 kind,.int .i64 x,.int .i64 u,.int .i64 cl,.int .i64 m] 77 (0,0)):=by rw[←e3];exact setRow_heap _ _ _ _ _ _ (aW _ _ _)
   have m3:ae wr w3:=by rw[←e3];exact((ae.refl wr).alloc _).setRow _ _ (Nat.le_refl _)
   have M3:=hQQ m3
   have HB:=hQQ hb3
   clear E1' hjt
   go_wp2_with (first|(refine wpList_load_mid rfl 77 _ rfl sb (so+j * 5) rfl [.int .i64 kind,.int .i64 x,.int .i64 u,.int .i64 cl,.int .i64 m] _ hrg Tryz.underlying77 rfl (by kernel_rfl) ?_)|(refine wpList_store_row rfl 77 _ _ rfl _ _ rfl rfl 77 _ (aW _ _ _) (by kernel_rfl) rfl (by simp[Value.oneCell']) ?_;rw[e3])|(refine wpList_load_row rfl 77 _ rfl _ rfl 77 _ _ _ hb3 Tryz.underlying77 rfl (by kernel_rfl) ?_))
   refine(Fr _ _ _ _ _ w3).mono ?_
   rintro e w4 ⟨rfl,m4⟩
   have M4:=hQQ (M3.o.trans m4)
   have k4:=KK.o.more M4.o
   have HB4:=hQQ (m4.block HB.o)
   have y0:w4.cell? ⟨wr.heap.size,0,none⟩=some (.int .i64 kind):=by simp[World.cell?,HB4.o]
   have y2:w4.cell? ⟨wr.heap.size,2,none⟩=some (.int .i64 u):=by simp[World.cell?,HB4.o]
   have y3:w4.cell? ⟨wr.heap.size,3,none⟩=some (.int .i64 cl):=by simp[World.cell?,HB4.o]
   have y4:w4.cell? ⟨wr.heap.size,4,none⟩=some (.int .i64 m):=by simp[World.cell?,HB4.o]
   have z1:w4.cell? ⟨g3,1,none⟩=some (.int .i64 c.cp):=by simp[World.cell?,k4.h3,Cfg.cells]
   have cp1:=HR.o.cp1
   have cp2:=HR.o.cp2
   have uc:IntKind.u64.wrap c.cp=c.cp:=IntWalk.u64_in _ (by omega)
   have n0:(c.cp==0)=false:=by simp;omega
   have n1:decide (c.cp=0)=false:=by simp;omega
   have n2:c.cp≠0:=by omega
   have hrem:wrap64 ((IntKind.u64.wrap u).tmod c.cp)=gM c u:=by
    have h1:=Int.emod_nonneg (IntKind.u64.wrap u) (show c.cp≠0 by omega)
    have h2:=Int.emod_lt_of_pos (IntKind.u64.wrap u) (show 0<c.cp by omega)
    rw[Int.tmod_eq_emod_of_nonneg (Cf u)]
    unfold wrap64 gM;omega
   have hl0:=HL.o
   clear hb3 m3 m4 hrg k4 e3
   by_cases kd:kind<0∨5<kind
   ·have q0:(kind==0)=false:=by simp;omega
    have q1:(kind==1)=false:=by simp;omega
    have q2:(kind==2)=false:=by simp;omega
    have q3:(kind==3)=false:=by simp;omega
    have q4:(kind==4)=false:=by simp;omega
    have q5:(kind==5)=false:=by simp;omega
    have E9:=hQQ (show dT T (l.drop (j+1)) st kn D1=Rr from by
     have:=E2.o
     rw[FD T _ _ _ _ _ kd] at this
     exact this)
    clear kd y3 y4
    go_wp2_with fail
    go_roundw
    case rel=>exact⟨j+1,st,_,_,D1,F1,by go_num,by omega,by have:=HBL.o;omega,M1.o.more M4.o,A1.o.more M4.o,E9.o⟩
    case measure=>simp[intOf];omega
   ·have hk6:kind=0∨kind=1∨kind=2∨kind=3∨kind=4∨kind=5:=by omega
    clear kd
    by_cases k5:kind=5
    ·subst k5
     have E9:=hQQ (show aq T.drP (fun _=>dT T (l.drop (j+1)) st) kn D1=Rr from(by have:=E2.o;rw[Jf] at this;exact this))
     clear hk6 y3 y4
     have GO:=hQQ ((KK.o.more M4.o).h4)
     go_wp2_with (refine aM rfl rfl rfl GO.o (by kernel_rfl) ?_)
     refine(T.drC F1 p kn D1 w4 (M1.o.more M4.o).view HK.o M1.o.inv (KK.o.more M4.o).sz (NZ.o _ _ _ M1.o).1 (NZ.o _ _ _ M1.o).2).mono ?_
     intro e w5 he
     rcases M1.o.step M4.o HK.o T.drG he with⟨a',hE,rfl,hd',ht',hk6⟩|⟨x6,D6,F6,hE,rfl,M6',_,hk6,hf6⟩
     ·exact⟨rfl,NEED.o a' w5 (E9.o.symm.trans (ag hE)) hd' ht' ⟨_,_,A1.o.st.1,hk6 _ _ (N1.o _ _ _ M1.o) A1.o.st.2⟩⟩
     have R6:=hQQ ((aj hE).symm.trans E9.o)
     have A6:=hQQ (A1.o.stay (N1.o _ _ _ M1.o) hk6 hf6)
     have M6:=hQQ M6'
     clear he hE hk6 hf6 M6' y0 y2 z1
     go_wp2_with fail
     go_roundw
     case rel=>exact⟨j+1,st,_,_,D6,F6,by go_num,by omega,by have:=HBL.o;omega,M6.o,A6.o,R6.o⟩
     case measure=>simp[intOf];omega
    ·by_cases k4:kind=4
     ·subst k4
      have E9:=hQQ (show aq (T.flP (st.at x)) (fun y=>dT T (l.drop (j+1)) (st.put x y.2)) kn D1=Rr from(by have:=E2.o;rw[Jg] at this;exact this))
      have KC:Hq (∀W D' F',MidV W0 W F (fun b=>b=g1) p kn n D' F'∧AgM W0.heap.size g1 pre ok c F' st fs o W→AgK c (some ⟨sb,so,none⟩) capl l g2 g3 g4 bt W):=hQQ fun W D' F' h=>KT.o _ h.1.turn
      clear hk6 k5 y3 y4
      have M4':Hq (MidV W0 w4 F (fun b=>b=g1) p kn n D1 F1∧AgM W0.heap.size g1 pre ok c F1 st fs o w4):=hQQ ⟨M1.o.more M4.o,A1.o.more M4.o⟩
      obtain⟨wk,hwk0,ex⟩:=Ji x
      have hwk:=hQQ hwk0
      have hwi:(wk:Int)<2:=by omega
      rw[ex]
      go_wp2_with fail
      clear M4 M1 A1 KK c2 y0 y2 z1 HB HB4
      have M4:=M4'
      refine aO (fun W=>AgK c (some ⟨sb,so,none⟩) capl l g2 g3 g4 bt W) (by kernel_rfl) ?_
      have MR:Hq (MidV W0 (w4.drewN 1) F (fun b=>b=g1) p kn n D1 F1∧AgM W0.heap.size g1 pre ok c F1 (st) (fs) o (w4.drewN 1)):=hQQ ⟨M4.o.1.more ((ae.refl w4).drewN 1),M4.o.2.more ((ae.refl w4).drewN 1)⟩
      change dg _ _ _ _ _ _ _ _ (w4.drewN 1)
      generalize w4.drewN 1=wq at MR⊢
      generalize hA:Act.mk _ _=A
      have HF:AG 120 A [(0,.pointer (some ⟨p,0,none⟩)),(1,.pointer (some ⟨g1,0,none⟩)),(4,.pointer (some ⟨g4,0,none⟩)),(8,.int .i64 (wk:Int))]:=by
       rw[←hA];try simp only[pts,List.foldl]
       refine⟨⟨Nat.le_of_ble_eq_true rfl,rfl⟩,?_⟩
       intro z hz;simp only[List.mem_cons,List.not_mem_nil,or_false] at hz;rcases hz with rfl|rfl|rfl|rfl<;>rfl
      refine bL (fun a W=>∃(u105 u106 u107 u108 u109 u110 u113 u111 u112 u114:Value) (f9:Nat→Value) (D9:List KV) (F9:Nat→Prop),a=(Act.put (pts A [(105,u105),(106,u106),(107,u107),(108,u108),(109,u109),(110,u110),(113,u113),(111,u111),(112,u112),(114,u114)]) none undef)∧(MidV W0 W F (fun b=>b=g1) p kn n D9 F9∧AgM W0.heap.size g1 pre ok c F9 (st.put x (fun _=> [])) (nX fs wk f9) o W)∧dT T (l.drop (j+1)) (st.put x (fun _=> [])) kn D9=Rr) (fun W=>jc W0 F (fun b=>b=g1) (fun w'=>AgY c (some ⟨sb,so,none⟩) capl l g1 g2 g3 g4 bt pre ok w') (fun w'=>AgX W0.heap.size g1 pre ok sF w') p kn (fY Rr) (.panicked (bB p)) W) (bB p) (fun a W hd h=>⟨hd,h⟩) (fun _ _ _ _ _ h=>h) ?_ ?_
      ·skip
       rintro a9 w9 ⟨u105,u106,u107,u108,u109,u110,u113,u111,u112,u114,f9,D9,F9,rfl,MS,R9'⟩
       rw[←hA];try simp only[pts,List.foldl]
       have M9:=hQQ MS
       have R9:=hQQ R9'
       clear MS R9' HF hA MR
       go_simp
       go_wp2_with fail
       go_roundw
       case rel=>exact⟨j+1,st.put x (fun _=> []),nX fs wk f9,o,D9,F9,by go_num,by omega,by rw[FSt.put_O];have:=HBL.o;omega,M9.o.1,M9.o.2,R9.o⟩
       case measure=>simp[intOf];omega
      intro QQ FINE FIND FINQ
      clear hA
      refine tqM 0 105 3 rfl (.inl rfl) rfl (by kernel_rfl) FINQ (KC.o _ _ _ MR.o) HF fun A β1 HF=>?_
      refine tqM 1 106 1 rfl (.inl rfl) rfl (by kernel_rfl) FINQ (KC.o _ _ _ MR.o) HF fun A β2 HF=>?_
      refine tqC 2 107 (.agg c.arr) (by kernel_rfl) FINQ (KC.o _ _ _ MR.o) HF (by exact aD (ab rfl) 28 _ rfl g4 (HF.get 4 rfl) 28 _ _ _ (fun W hW=>hW.h4) Tryz.underlying28 rfl (by kernel_rfl)) fun A β3 HF=>?_
      refine tqM 3 108 6 rfl (.inl rfl) rfl (by kernel_rfl) FINQ (KC.o _ _ _ MR.o) HF fun A β4 HF=>?_
      refine tqC 4 109 (.pointer (some ⟨g1,25,none⟩)) (by kernel_rfl) FINQ (KC.o _ _ _ MR.o) HF (by exact(Or.inl ⟨(ab rfl),fun W hW=>by have h5:=(HF.getD 5 rfl);go_simp⟩)) fun A β5 HF=>?_
      refine tqC 5 110 (.pointer (some ⟨g1,25+wk * 5,none⟩)) (by kernel_rfl) FINQ (KC.o _ _ _ MR.o) HF (by exact(Or.inl ⟨(ab rfl),fun W hW=>by have h5:=(HF.getD 0 rfl);have h6:=(HF.getD 1 rfl);go_simp⟩)) fun A β6 HF=>?_
      refine tqC 8 113 (.pointer (some ⟨g1,25,none⟩)) (by kernel_rfl) FINQ (KC.o _ _ _ MR.o) HF (by exact(Or.inl ⟨(ab rfl),fun W hW=>by have h5:=(HF.getD 7 rfl);go_simp⟩)) fun A β7 HF=>?_
      refine tqO 6 111 (by kernel_rfl) HF fun K hK=>?_
      refine wp_load_mid 32 _ rfl g1 (25+wk * 5) (HF.get 1 rfl) (puA (fs wk)).toList _ (MR.o.2.st.range (n:=wk) hwk.o) Tryz.underlying32 rfl (by kernel_rfl) ?_
      refine hK _ _ (KC.o _ _ _ MR.o) fun A β8 HF=>?_
      clear hK K
      refine tqO 7 112 (by kernel_rfl) HF fun K hK=>?_
      refine dE (v0:=.pointer (some ⟨p,0,none⟩)) (v1:=.agg c.arr) (v2:=.agg (puA (fs wk)).toList.toArray) rfl (HF.get 6 rfl) (HF.get 5 rfl) (HF.get 0 rfl) (enters_of Tryz.func17 (by kernel_rfl) rfl) ?_
      refine(T.flC F1 (fun q=>q<W0.heap.size) p kn D1 wq (fs wk) (st.at x) MR.o.1.view HK.o MR.o.1.inv (KC.o _ _ _ MR.o).sz (NZ.o _ _ _ MR.o.1).1 (NZ.o _ _ _ MR.o.1).2 (fun q z=>Nat.lt_of_lt_of_le z MR.o.1.size) (MR.o.2.atk hwk.o ex) (MR.o.2.okS.at x)).mono ?_
      intro e w7 he
      rcases MR.o.1.stepP (ae.refl _) HK.o (T.flG _ (MR.o.2.okS.at x)) he with⟨a',hE,rfl,hd',ht',hk6⟩|⟨x6,f6,D6,F6,hE,rfl,M6',hp6,hq6,hk6,hf6⟩
      ·exact FIND _ _ HF.1.2 (NEED.o a' w7 (E9.o.symm.trans (ag hE)) hd' ht' ⟨_,_,MR.o.2.st.1,hk6 _ _ (N1.o _ _ _ MR.o.1) MR.o.2.st.2⟩)
      have R6:=hQQ ((aj hE).symm.trans E9.o)
      rw[hq6] at R6 hp6
      have M6:Hq (MidV W0 w7 F (fun b=>b=g1) p kn n D6 F6∧AgM W0.heap.size g1 pre ok c F6 (st) (fs) o w7):=hQQ ⟨M6',MR.o.2.stay (N1.o _ _ _ MR.o.1) hk6 hf6⟩
      have P6:=hQQ hp6
      clear he hE hk6 hf6 hq6 hp6
      refine hK _ _ (KC.o _ _ _ M6.o) fun A β9 HF=>?_
      clear hK K
      refine tqC 9 114 (.pointer (some ⟨g1,25+wk * 5,none⟩)) (by kernel_rfl) FINQ (KC.o _ _ _ M6.o) HF (by exact(Or.inl ⟨(ab rfl),fun W hW=>by have h5:=(HF.getD 2 rfl);have h6:=(HF.getD 8 rfl);go_simp⟩)) fun A β10 HF=>?_
      obtain⟨cur,hcur⟩:∃cur,(stL pre fs o ok).toArray=cur:=⟨_,rfl⟩
      have hg:=M6.o.2.st.2
      rw[hcur] at hg
      have hsz:cur.size=37:=by rw[←hcur,List.size_toArray];exact nR M6.o.2.st.1 _ _ _
      have A7:=M6.o.2.putk hwk.o ex f6 (fun _=> []) P6.o (dr.nil HR.o) cur hcur.symm
      have M7:=M6.o.1.setR (b:=g1) (fun _=>rfl) (N1.o _ _ _ M6.o.1) (cur.toList.take (25+wk * 5)++(puA f6).toList++cur.toList.drop (25+wk * 5+(puA f6).size)).toArray hg
      refine gG (i:=10) (by kernel_rfl) (by kernel_rfl) rfl (ab rfl) (fun K hK=>?_)
      refine ku 32 _ _ rfl g1 (25+wk * 5) (puA f6) (HF.get 0 rfl) (HF.get 1 rfl) 37 cur hg (by rw[hsz];show 25+wk * 5+5≤37;have:=hwk.o;omega) (by kernel_rfl) (Pu.all1 P6.o.1) ?_
      refine hK _ _ (KT.o _ M7.turn) (FINE _ _ ⟨(.int .i64 (wk:Int)),(.pointer (some ⟨p,0,none⟩)),(.agg c.arr),(.int .i64 (wk:Int)),(.pointer (some ⟨g1,25,none⟩)),(.pointer (some ⟨g1,25+wk * 5,none⟩)),(.pointer (some ⟨g1,25,none⟩)),(.agg (puA (fs wk)).toList.toArray),(.agg (puA f6)),(.pointer (some ⟨g1,25+wk * 5,none⟩)),f6,D6,F6,?_,⟨M7,A7⟩,R6.o⟩)
      rw[← β10,← β9,← β8,← β7,← β6,← β5,← β4,← β3,← β2,← β1];rfl
     ·by_cases k01:kind=0∨kind=1
      ·have hk01:=hQQ k01
       clear hk6 k4 k5
       have E9:=hQQ (show aq (T.tkP (gM c u) (st.at x) cl) (fun y=>dT T (l.drop (j+1)) ((st.put x y.2).out (if y.1.2 then st.O++ [(y.1.1,cl)] else st.O))) kn D1=Rr from by have:=E2.o;rw[Jh T _ _ _ _ _ k01] at this;exact this)
       obtain⟨kd,hkd⟩:∃kd,kd=kind:=⟨_,rfl⟩
       rw[←hkd] at HB4
       clear E2 HB hkd
       rcases k01 with rfl|rfl
       all_goals
        skip
        have HG1:Hq (g1<wr.heap.size):=hQQ A1.o.st.lt
        have HW0:Hq (W0.heap.size≤wr.heap.size):=hQQ M1.o.size
        have NA:Hq (¬F1 wr.heap.size):=hQQ fun q=>by have:=M1.o.view.lt _ q;omega
        have KC:Hq (∀W D' F',(MidV W0 W F (fun b=>b=g1) p kn n D' F'∧AgM W0.heap.size g1 pre ok c F' st fs o W∧W.heap[wr.heap.size]?=some (.cells #[.int .i64 kd,.int .i64 x,.int .i64 u,.int .i64 cl,.int .i64 m] 77 (0,0)))→AgK c (some ⟨sb,so,none⟩) capl l g2 g3 g4 bt W∧W.heap[wr.heap.size]?=some (.cells #[.int .i64 kd,.int .i64 x,.int .i64 u,.int .i64 cl,.int .i64 m] 77 (0,0))∧StB W g1 pre fs o ok):=hQQ fun W D' F' h=>⟨KT.o _ h.1.turn,h.2.2,h.2.1.st⟩
        have M4':Hq (MidV W0 w4 F (fun b=>b=g1) p kn n D1 F1∧AgM W0.heap.size g1 pre ok c F1 st fs o w4∧w4.heap[wr.heap.size]?=some (.cells #[.int .i64 kd,.int .i64 x,.int .i64 u,.int .i64 cl,.int .i64 m] 77 (0,0))):=hQQ ⟨M1.o.more M4.o,A1.o.more M4.o,HB4.o⟩
        obtain⟨wk,hwk0,ex⟩:=Ji x
        have hwk:=hQQ hwk0
        have hwi:(wk:Int)<2:=by omega
        rw[ex]
        go_wp2_with fail
        rw[hrem]
        clear M4 M1 A1 KK c2 y0 y2 y3 y4 z1 HB4 hk01
        have M4:=M4'
        refine aO (fun W=>AgK c (some ⟨sb,so,none⟩) capl l g2 g3 g4 bt W∧W.heap[wr.heap.size]?=some (.cells #[.int .i64 kd,.int .i64 x,.int .i64 u,.int .i64 cl,.int .i64 m] 77 (0,0))∧StB W g1 pre fs o ok) (by kernel_rfl) ?_
        have MR:Hq (MidV W0 (w4.drewN 1) F (fun b=>b=g1) p kn n D1 F1∧AgM W0.heap.size g1 pre ok c F1 st fs o (w4.drewN 1)∧(w4.drewN 1).heap[wr.heap.size]?=some (.cells #[.int .i64 kd,.int .i64 x,.int .i64 u,.int .i64 cl,.int .i64 m] 77 (0,0))):=hQQ ⟨M4.o.1.more ((ae.refl w4).drewN 1),M4.o.2.1.more ((ae.refl w4).drewN 1),((ae.refl w4).drewN 1).block M4.o.2.2⟩
        change dg _ _ _ _ _ _ _ _ (w4.drewN 1)
        generalize w4.drewN 1=wq at MR⊢
        generalize hA:Act.mk _ _=A
        have HF:AG 120 A [(0,.pointer (some ⟨p,0,none⟩)),(1,.pointer (some ⟨g1,0,none⟩)),(4,.pointer (some ⟨g4,0,none⟩)),(7,.pointer (some ⟨wr.heap.size,0,none⟩)),(8,.int .i64 (wk:Int)),(9,.int .i64 (gM c u))]:=by
         rw[←hA];try simp only[pts,List.foldl]
         refine⟨⟨Nat.le_of_ble_eq_true rfl,rfl⟩,?_⟩
         intro z hz;simp only[List.mem_cons,List.not_mem_nil,or_false] at hz;rcases hz with rfl|rfl|rfl|rfl|rfl|rfl<;>rfl
        refine bL (fun a W=>∃(u46 u47 u48 u49 u50 u51 u52 u53 u54 u55 u45 u56 u57 u58:Value) (gP:Nat) (X:Int) (B:Bool) (f9:Nat→Value) (P9:Nat→List Int) (D9:List KV) (F9:Nat→Prop),(a=(Act.put (Act.put (pts A [(46,u46),(47,u47),(48,u48),(49,u49),(50,u50),(51,u51),(52,u52),(53,u53),(54,u54),(55,u55),(45,u45),(56,u56),(57,u57),(58,u58),(11,.pointer (some ⟨gP,0,none⟩)),(10,.int .i64 X)]) none undef) (some 12) (.bool B))∨a=(Act.put (Act.put (pts A [(46,u46),(47,u47),(48,u48),(49,u49),(50,u50),(51,u51),(52,u52),(53,u53),(54,u54),(11,.pointer (some ⟨gP,0,none⟩)),(55,u55),(45,u45),(56,u56),(57,u57),(58,u58),(10,.int .i64 X)]) none undef) (some 12) (.bool B)))∧(MidV W0 W F (fun b=>b=g1) p kn n D9 F9∧AgM W0.heap.size g1 pre ok c F9 st fs o W∧W.heap[wr.heap.size]?=some (.cells #[.int .i64 kd,.int .i64 x,.int .i64 u,.int .i64 cl,.int .i64 m] 77 (0,0)))∧W.heap[gP]?=some (.cells (puA f9) 32 (0,0))∧cS (fun q=>q<W0.heap.size∨F9 q) W f9 P9∧(W64 X∧dr c P9)∧dT T (l.drop (j+1)) ((st.put x P9).out (if B then st.O++ [(X,cl)] else st.O)) kn D9=Rr) (fun W=>jc W0 F (fun b=>b=g1) (fun w'=>AgY c (some ⟨sb,so,none⟩) capl l g1 g2 g3 g4 bt pre ok w') (fun w'=>AgX W0.heap.size g1 pre ok sF w') p kn (fY Rr) (.panicked (bB p)) W) (bB p) (fun a W hd h=>⟨hd,h⟩) (fun _ _ _ _ _ h=>h) ?_ ?_
        ·skip
         rintro a9 w9 ⟨u46,u47,u48,u49,u50,u51,u52,u53,u54,u55,u45,u56,u57,u58,gP,X,B,f9,P9,D9,F9,hn,MS,hb9,hp9,hl9,R9'⟩
         have E:(Act.put (Act.put (pts A [(46,u46),(47,u47),(48,u48),(49,u49),(50,u50),(51,u51),(52,u52),(53,u53),(54,u54),(11,.pointer (some ⟨gP,0,none⟩)),(55,u55),(45,u45),(56,u56),(57,u57),(58,u58),(10,.int .i64 X)]) none undef) (some 12) (.bool B))=(Act.put (Act.put (pts A [(46,u46),(47,u47),(48,u48),(49,u49),(50,u50),(51,u51),(52,u52),(53,u53),(54,u54),(55,u55),(45,u45),(56,u56),(57,u57),(58,u58),(11,.pointer (some ⟨gP,0,none⟩)),(10,.int .i64 X)]) none undef) (some 12) (.bool B)):=by rw[←hA];kernel_rfl
         have hn:a9=(Act.put (Act.put (pts A [(46,u46),(47,u47),(48,u48),(49,u49),(50,u50),(51,u51),(52,u52),(53,u53),(54,u54),(55,u55),(45,u45),(56,u56),(57,u57),(58,u58),(11,.pointer (some ⟨gP,0,none⟩)),(10,.int .i64 X)]) none undef) (some 12) (.bool B)):=by
          rcases hn with q|q
          ·exact q
          ·exact q.trans E
         subst hn
         rw[←hA];try simp only[pts,List.foldl]
         have M9:=hQQ MS
         have B9:=hQQ hb9
         have P9':=hQQ hp9
         have L9:=hQQ hl9
         have R9:=hQQ R9'
         clear MS hb9 hp9 hl9 R9' HF hA MR E hn
         obtain⟨cur9,hcur9⟩:∃cur9,(stL pre fs o ok).toArray=cur9:=⟨_,rfl⟩
         have hg9:=M9.o.2.1.st.2
         rw[hcur9] at hg9
         have hsz9:cur9.size=37:=by rw[←hcur9,List.size_toArray];exact nR M9.o.2.1.st.1 _ _ _
         obtain⟨wz,ewz⟩:∃wz,w9.setRow g1 (cur9.toList.take (25+wk * 5)++(puA f9).toList++cur9.toList.drop ((25+wk * 5)+(puA f9).size)).toArray=wz:=⟨_,rfl⟩
         have AZ:Hq (AgM W0.heap.size g1 pre ok c F9 (st.put x P9) (nX fs wk f9) o wz):=hQQ (by rw[←ewz];exact M9.o.2.1.putk hwk.o ex f9 P9 P9'.o L9.o.2 cur9 hcur9.symm)
         have MZ:Hq (MidV W0 wz F (fun b=>b=g1) p kn n D9 F9):=hQQ (by rw[←ewz];exact M9.o.1.setR (b:=g1) (fun _=>rfl) (N1.o _ _ _ M9.o.1) _ hg9)
         have YZ:Hq (wz.heap[wr.heap.size]?=some (.cells #[.int .i64 kd,.int .i64 x,.int .i64 u,.int .i64 cl,.int .i64 m] 77 (0,0))):=hQQ (by
          rw[←ewz]
          exact((Turned.setRow (Turned.refl _ w9) (S:=fun k=>k=g1) _ _ (fun _=>rfl)).block _ (ac M9.o.2.2) (by have:=HG1.o;omega)).trans M9.o.2.2)
         have ST9:=hQQ hg9
         have SZ9:=hQQ hsz9
         have AL9:=hQQ (Pu.all1 P9'.o.1)
         clear hcur9 hg9 hsz9
         cases B with
         |false =>
          go_simp
          go_wp2_with (first
           |(refine kY rfl rfl rfl B9.o (by kernel_rfl) ?_)
           |(refine ia rfl 32 _ _ rfl g1 (25+wk * 5) (puA f9) rfl rfl 37 cur9 ST9.o (by rw[SZ9.o];show 25+wk * 5+5≤37;have:=hwk.o;omega) (by kernel_rfl) AL9.o ?_;rw[ewz]))
          go_roundw
          case rel=>exact⟨j+1,st.put x P9,nX fs wk f9,o,D9,F9,by go_num,by omega,by rw[FSt.put_O];have:=HBL.o;omega,MZ.o,AZ.o,by have h9:=R9.o;simp only[Bool.false_eq_true,if_false] at h9;rw[←FSt.put_O st x P9,FSt.out_self] at h9;exact h9⟩
          case measure=>simp[intOf];omega
         |true =>
          have x35:=AZ.o.st.row
          have x36:=AZ.o.st.froz 35
          have y3:wz.cell? ⟨wr.heap.size,3,none⟩=some (.int .i64 cl):=by simp[World.cell?,YZ.o]
          have HRW:=hQQ AZ.o.row.1
          rw[FSt.put_O] at HRW
          have NXT:Hq (∀v' wc,BlR W0.heap.size wc v' (st.O++ [(X,cl)])→Turned (fun k=>o.ownBlock=some k) wz wc→(∀k,v'.ownBlock=some k→o.ownBlock=some k∨wz.heap.size≤k)→(StB wc g1 pre (nX fs wk f9) o ok∧MidV W0 (wc.setCell ⟨g1,35,none⟩ v') F (fun b=>b=g1) p kn n D9 F9∧AgM W0.heap.size g1 pre ok c F9 ((st.put x P9).out (st.O++ [(X,cl)])) (nX fs wk f9) v' (wc.setCell ⟨g1,35,none⟩ v'))):=hQQ fun v' wc h1 h2 h3=>by
           obtain⟨q1,q2,q3,q4⟩:=Lj MZ.o AZ.o h2
           refine⟨q2,q1.setC q2 (N1.o _ _ _ q1),AgM.putO2 q2 q3 q4 AZ.o.okS ⟨h1,fun k e=>⟨fun z=>?_,?_⟩⟩ (fun q hq=>?_)⟩
           ·rcases h3 k e with r|r
            ·exact(AZ.o.row.2 k r).1 z
            ·have:=MZ.o.view.lt k z;omega
           ·rcases h3 k e with r|r
            ·exact(AZ.o.row.2 k r).2
            ·have:=MZ.o.size;omega
           ·rcases List.mem_append.1 hq with r|r
            ·exact M9.o.2.1.okS.o q r
            ·rw[List.mem_singleton.1 r];exact L9.o.1
          have HLN:Hq (st.O.length<1000000):=hQQ (by have:=HBL.o;have:=HL.o;omega)
          have HSZ:Hq (W0.heap.size≤wz.heap.size):=hQQ MZ.o.size
          go_simp
          go_wp2_with (first
           |(refine kY rfl rfl rfl B9.o (by kernel_rfl) ?_)
           |(refine ia rfl 32 _ _ rfl g1 (25+wk * 5) (puA f9) rfl rfl 37 cur9 ST9.o (by rw[SZ9.o];show 25+wk * 5+5≤37;have:=hwk.o;omega) (by kernel_rfl) AL9.o ?_;rw[ewz])
           |(at_builtin;refine Cu X cl rfl _ _ rfl rfl HRW.o HSZ.o HLN.o rfl ?_;intro v5 wc h5 t5 k5;obtain⟨a5,c5,rfl,_⟩:=h5.reads;obtain⟨n1',n2',n3'⟩:=NXT.o _ wc h5 t5 k5;rw[show(st.O++ [(X,cl)]).length=st.O.length+1 by simp] at n2' n3';have x45:=n1'.row;have x46:=n1'.froz 35;have N2:=hQQ n2';have N3:=hQQ n3';clear h5 t5 k5 n1' n2' n3'))
          go_roundw
          case rel=>exact⟨j+1,(st.put x P9).out (st.O++ [(X,cl)]),nX fs wk f9,_,D9,F9,by go_num,by omega,by show(st.O++ [(X,cl)]).length≤_;have:=HBL.o;simp;omega,N2.o,N3.o,R9.o⟩
          case measure=>simp[intOf];omega
        intro QQ FINE FIND FINQ
        clear hA
        refine tqM 0 46 0 rfl (.inl rfl) rfl (by kernel_rfl) FINQ (KC.o _ _ _ MR.o) HF fun A β1 HF=>?_
        refine tqC 1 47 (.agg c.arr) (by kernel_rfl) FINQ (KC.o _ _ _ MR.o) HF (by exact aD (ab rfl) 28 _ rfl g4 (HF.get 3 rfl) 28 _ _ _ (fun W hW=>hW.1.h4) Tryz.underlying28 rfl (by kernel_rfl)) fun A β2 HF=>?_
        refine tqM 2 48 7 rfl (.inl rfl) rfl (by kernel_rfl) FINQ (KC.o _ _ _ MR.o) HF fun A β3 HF=>?_
        refine tqM 3 49 7 rfl (.inl rfl) rfl (by kernel_rfl) FINQ (KC.o _ _ _ MR.o) HF fun A β4 HF=>?_
        refine tqC 4 50 (.pointer (some ⟨g1,25,none⟩)) (by kernel_rfl) FINQ (KC.o _ _ _ MR.o) HF (by exact(Or.inl ⟨(ab rfl),fun W hW=>by have h5:=(HF.getD 5 rfl);go_simp⟩)) fun A β5 HF=>?_
        refine tqC 5 51 (.pointer (some ⟨g1,25+wk * 5,none⟩)) (by kernel_rfl) FINQ (KC.o _ _ _ MR.o) HF (by exact(Or.inl ⟨(ab rfl),fun W hW=>by have h5:=(HF.getD 0 rfl);have h6:=(HF.getD 1 rfl);go_simp⟩)) fun A β6 HF=>?_
        refine tqC 6 52 (.agg (puA (fs wk)).toList.toArray) (by kernel_rfl) FINQ (KC.o _ _ _ MR.o) HF (by exact gL (ab rfl) 32 _ rfl g1 (25+wk * 5) (HF.get 0 rfl) (puA (fs wk)).toList _ (fun W hW=>hW.2.2.range (n:=wk) hwk.o) Tryz.underlying32 rfl (by kernel_rfl)) fun A β7 HF=>?_
        refine tqC 7 53 (.pointer (some ⟨wr.heap.size,3,none⟩)) (by kernel_rfl) FINQ (KC.o _ _ _ MR.o) HF (by exact(Or.inl ⟨(ab rfl),fun W hW=>by have h5:=(HF.getD 10 rfl);go_simp⟩)) fun A β8 HF=>?_
        refine tqC 8 54 (.int .i64 cl) (by kernel_rfl) FINQ (KC.o _ _ _ MR.o) HF (by exact fd (ab rfl) 3 _ rfl (wr.heap.size) 3 (HF.get 0 rfl) (.int .i64 cl) _ Tryz.underlying3 rfl (fun W hW=>by simp[World.cell?,hW.2.1])) fun A β9 HF=>?_
        refine kE (i:=9) (j:=14) (some 55) (some 11) (by kernel_rfl) rfl rfl (ab rfl) (ab rfl) rfl rfl (fun K hK=>?_) (fun K hK=>?_)
        ·refine jH (v0:=.pointer (some ⟨p,0,none⟩)) (v1:=.agg c.arr) (v2:=.int .i64 (gM c u)) (v3:=.agg (puA (fs wk)).toList.toArray) (v4:=.int .i64 cl) rfl (HF.get 8 rfl) (HF.get 7 rfl) (HF.get 6 rfl) (HF.get 2 rfl) (HF.get 0 rfl) (enters_of Tryz.func30 (by kernel_rfl) rfl) ?_
         refine(T.tkC F1 (fun q=>q<W0.heap.size) p kn D1 wq (gM c u) cl (fs wk) (st.at x) MR.o.1.view HK.o MR.o.1.inv (KT.o _ MR.o.1.turn).sz (NZ.o _ _ _ MR.o.1).1 (NZ.o _ _ _ MR.o.1).2 (fun q z=>Nat.lt_of_lt_of_le z MR.o.1.size) (MR.o.2.1.atk hwk.o ex) (MR.o.2.1.okS.at x)).mono ?_
         intro e w7 he
         rcases MR.o.1.stepP (ae.refl _) HK.o (T.tkG _ _ _ (MR.o.2.1.okS.at x)) he with⟨a',hE,rfl,hd',ht',hk6⟩|⟨x6,f6,D6,F6,hE,rfl,M6',hp6,hq6,hk6,hf6⟩
         ·exact FIND _ _ HF.1.2 (NEED.o a' w7 (E9.o.symm.trans (ag hE)) hd' ht' ⟨_,_,MR.o.2.1.st.1,hk6 _ _ (N1.o _ _ _ MR.o.1) MR.o.2.1.st.2⟩)
         have R6:=hQQ ((aj hE).symm.trans E9.o)
         have M6:Hq (MidV W0 w7 F (fun b=>b=g1) p kn n D6 F6∧AgM W0.heap.size g1 pre ok c F6 st fs o w7∧w7.heap[wr.heap.size]?=some (.cells #[.int .i64 kd,.int .i64 x,.int .i64 u,.int .i64 cl,.int .i64 m] 77 (0,0))):=hQQ ⟨M6',MR.o.2.1.stay (N1.o _ _ _ MR.o.1) hk6 hf6,hk6 _ _ NA.o MR.o.2.2⟩
         have P6:=hQQ hp6
         have L6:=hQQ hq6
         refine hK _ _ (KC.o _ _ _ M6.o) ?_
         clear hK K
         replace HF:=HF.put 55 (.tuple #[.int .i64 x6.1.1,.agg (puA f6),.bool x6.1.2]) (by decide) rfl
         generalize β10:Act.put _ _ _=A at HF⊢
         refine tqM 10 45 0 rfl (.inl rfl) rfl (by kernel_rfl) FINQ (KC.o _ _ _ M6.o) HF fun A β11 HF=>?_
         refine tqC 11 56 (.int .i64 x6.1.1) (by kernel_rfl) FINQ (KC.o _ _ _ M6.o) HF (by exact(Or.inl ⟨(ab rfl),fun W hW=>by have h5:=(HF.getD 0 rfl);go_simp⟩)) fun A β12 HF=>?_
         refine tqC 12 57 (.agg (puA f6)) (by kernel_rfl) FINQ (KC.o _ _ _ M6.o) HF (by exact(Or.inl ⟨(ab rfl),fun W hW=>by have h5:=(HF.getD 1 rfl);go_simp⟩)) fun A β13 HF=>?_
         refine tqC 13 58 (.bool x6.1.2) (by kernel_rfl) FINQ (KC.o _ _ _ M6.o) HF (by exact(Or.inl ⟨(ab rfl),fun W hW=>by have h5:=(HF.getD 2 rfl);go_simp⟩)) fun A β14 HF=>?_
         refine bo (i:=14) (some 11) (by kernel_rfl) rfl (ab rfl) rfl (fun K hK=>?_)
         refine ou rfl ?_
         obtain⟨w8,e8,z8,m8,s8⟩:=en1 w7 (.cells #[.slice none 0 0,.slice none 0 0,.slice none 0 0,.slice none 0 0,.slice none 0 0] 32)
         rw[e8]
         have M8:Hq (MidV W0 w8 F (fun b=>b=g1) p kn n D6 F6∧AgM W0.heap.size g1 pre ok c F6 st fs o w8∧w8.heap[wr.heap.size]?=some (.cells #[.int .i64 kd,.int .i64 x,.int .i64 u,.int .i64 cl,.int .i64 m] 77 (0,0))):=hQQ ⟨M6.o.1.more m8,M6.o.2.1.more m8,m8.block M6.o.2.2⟩
         have P8:=hQQ (cS.more P6.o m8)
         refine hK _ _ (KC.o _ _ _ M8.o) ?_
         clear hK K e8
         replace HF:=HF.put 11 (.pointer (some ⟨w7.heap.size,0,none⟩)) (by decide) rfl
         generalize β15:Act.put _ _ _=A at HF⊢
         have hsz:wr.heap.size<w7.heap.size:=ac M6.o.2.2
         -- the three that are left
         refine tqM 15 10 3 rfl (.inr rfl) rfl (by kernel_rfl) FINQ (KC.o _ _ _ M8.o) HF fun A β16 HF=>?_
         have gne:w7.heap.size≠g1:=by have:=HG1.o;have:=hsz;omega
         have TS:Turned (fun k=>k=w7.heap.size) w8 (w8.setRow (w7.heap.size) (puA f6)):=Turned.setRow (Turned.refl _ _) _ _ (fun _=>rfl)
         have M9:Hq (MidV W0 (w8.setRow (w7.heap.size) (puA f6)) F (fun b=>b=g1) p kn n D6 F6∧AgM W0.heap.size g1 pre ok c F6 st fs o (w8.setRow (w7.heap.size) (puA f6))∧(w8.setRow (w7.heap.size) (puA f6)).heap[wr.heap.size]?=some (.cells #[.int .i64 kd,.int .i64 x,.int .i64 u,.int .i64 cl,.int .i64 m] 77 (0,0))):=hQQ ⟨M8.o.1.setR (b:=w7.heap.size) (fun q=>absurd q (by have:=HW0.o;have:=hsz;omega)) (fun q=>by have:=M6.o.1.view.lt _ q;omega) (puA f6) z8,M8.o.2.1.box TS z8 gne,(TS.block _ (ac M8.o.2.2) (by have:=hsz;omega)).trans M8.o.2.2⟩
         have P9:=hQQ (cS.keep P8.o TS (fun k q=>by subst q;exact⟨_,_,_,z8,by decide⟩))
         have B9:=hQQ (setRow_heap _ _ _ (puA f6) _ _ z8)
         refine bo (i:=16) none (by kernel_rfl) rfl (ab rfl) rfl (fun K hK=>?_)
         refine wp_store_row 32 _ _ rfl (w7.heap.size) _ (HF.get 1 rfl) (HF.get 3 rfl) 32 _ z8 (by kernel_rfl) rfl (Pu.all1 P8.o.1) ?_
         refine hK _ _ (KC.o _ _ _ M9.o) ?_
         clear hK K
         replace HF:=HF.skipO undef
         generalize hBN:Act.put _ none undef=A at HF⊢
         refine tqM 17 12 2 rfl (.inr rfl) rfl (by kernel_rfl) FINQ (KC.o _ _ _ M9.o) HF fun A β18 HF=>?_
         exact bU (by kernel_rfl) (FINE _ _ ⟨(.pointer (some ⟨p,0,none⟩)),(.agg c.arr),(.int .i64 (gM c u)),(.int .i64 (wk:Int)),(.pointer (some ⟨g1,25,none⟩)),(.pointer (some ⟨g1,25+wk * 5,none⟩)),(.agg (puA (fs wk)).toList.toArray),(.pointer (some ⟨wr.heap.size,3,none⟩)),(.int .i64 cl),(.tuple #[.int .i64 x6.1.1,.agg (puA f6),.bool x6.1.2]),(.tuple #[.int .i64 x6.1.1,.agg (puA f6),.bool x6.1.2]),(.int .i64 x6.1.1),(.agg (puA f6)),(.bool x6.1.2),w7.heap.size,x6.1.1,x6.1.2,f6,x6.2,D6,F6,Or.inl (by rw[← β18,←hBN,← β16,← β15,← β14,← β13,← β12,← β11,← β10,← β9,← β8,← β7,← β6,← β5,← β4,← β3,← β2,← β1]<;>rfl),M9.o,B9.o,P9.o,L6.o,R6.o⟩)
        ·refine ou rfl ?_
         obtain⟨w7,e7,z7,m7,s7⟩:=en1 wq (.cells #[.slice none 0 0,.slice none 0 0,.slice none 0 0,.slice none 0 0,.slice none 0 0] 32)
         rw[e7]
         have M7:Hq (MidV W0 w7 F (fun b=>b=g1) p kn n D1 F1∧AgM W0.heap.size g1 pre ok c F1 st fs o w7∧w7.heap[wr.heap.size]?=some (.cells #[.int .i64 kd,.int .i64 x,.int .i64 u,.int .i64 cl,.int .i64 m] 77 (0,0))):=hQQ ⟨MR.o.1.more m7,MR.o.2.1.more m7,m7.block MR.o.2.2⟩
         refine hK _ _ (KC.o _ _ _ M7.o) ?_
         clear hK K e7
         replace HF:=HF.put 11 (.pointer (some ⟨wq.heap.size,0,none⟩)) (by decide) rfl
         generalize β10:Act.put _ _ _=A at HF⊢
         refine tqO 9 55 (by kernel_rfl) HF fun K hK=>?_
         have NP:¬F1 wq.heap.size:=fun q=>by have:=MR.o.1.view.lt _ q;omega
         refine jH (v0:=.pointer (some ⟨p,0,none⟩)) (v1:=.agg c.arr) (v2:=.int .i64 (gM c u)) (v3:=.agg (puA (fs wk)).toList.toArray) (v4:=.int .i64 cl) rfl (HF.get 9 rfl) (HF.get 8 rfl) (HF.get 7 rfl) (HF.get 3 rfl) (HF.get 1 rfl) (enters_of Tryz.func30 (by kernel_rfl) rfl) ?_
         refine(T.tkC F1 (fun q=>q<W0.heap.size) p kn D1 w7 (gM c u) cl (fs wk) (st.at x) M7.o.1.view HK.o M7.o.1.inv (KT.o _ M7.o.1.turn).sz (NZ.o _ _ _ M7.o.1).1 (NZ.o _ _ _ M7.o.1).2 (fun q z=>Nat.lt_of_lt_of_le z M7.o.1.size) (M7.o.2.1.atk hwk.o ex) (M7.o.2.1.okS.at x)).mono ?_
         intro e w8 he
         rcases M7.o.1.stepP (ae.refl _) HK.o (T.tkG _ _ _ (M7.o.2.1.okS.at x)) he with⟨a',hE,rfl,hd',ht',hk6⟩|⟨x6,f6,D6,F6,hE,rfl,M6',hp6,hq6,hk6,hf6⟩
         ·exact FIND _ _ HF.1.2 (NEED.o a' w8 (E9.o.symm.trans (ag hE)) hd' ht' ⟨_,_,M7.o.2.1.st.1,hk6 _ _ (N1.o _ _ _ M7.o.1) M7.o.2.1.st.2⟩)
         have R6:=hQQ ((aj hE).symm.trans E9.o)
         have M6:Hq (MidV W0 w8 F (fun b=>b=g1) p kn n D6 F6∧AgM W0.heap.size g1 pre ok c F6 st fs o w8∧w8.heap[wr.heap.size]?=some (.cells #[.int .i64 kd,.int .i64 x,.int .i64 u,.int .i64 cl,.int .i64 m] 77 (0,0))):=hQQ ⟨M6',M7.o.2.1.stay (N1.o _ _ _ M7.o.1) hk6 hf6,hk6 _ _ NA.o M7.o.2.2⟩
         have P6:=hQQ hp6
         have L6:=hQQ hq6
         have z8:=hk6 _ _ NP z7
         have NP6:¬F6 wq.heap.size:=fun q=>by rcases hf6 _ q with r|r;exact NP r;have:=ac z7;omega
         refine hK _ _ (KC.o _ _ _ M6.o) fun A β11 HF=>?_
         clear hK K
         refine tqM 10 45 0 rfl (.inl rfl) rfl (by kernel_rfl) FINQ (KC.o _ _ _ M6.o) HF fun A β12 HF=>?_
         refine tqC 11 56 (.int .i64 x6.1.1) (by kernel_rfl) FINQ (KC.o _ _ _ M6.o) HF (by exact(Or.inl ⟨(ab rfl),fun W hW=>by have h5:=(HF.getD 0 rfl);go_simp⟩)) fun A β13 HF=>?_
         refine tqC 12 57 (.agg (puA f6)) (by kernel_rfl) FINQ (KC.o _ _ _ M6.o) HF (by exact(Or.inl ⟨(ab rfl),fun W hW=>by have h5:=(HF.getD 1 rfl);go_simp⟩)) fun A β14 HF=>?_
         refine tqC 13 58 (.bool x6.1.2) (by kernel_rfl) FINQ (KC.o _ _ _ M6.o) HF (by exact(Or.inl ⟨(ab rfl),fun W hW=>by have h5:=(HF.getD 2 rfl);go_simp⟩)) fun A β15 HF=>?_
         have hsz:wr.heap.size<wq.heap.size:=ac MR.o.2.2
         refine tqM 15 10 2 rfl (.inr rfl) rfl (by kernel_rfl) FINQ (KC.o _ _ _ M6.o) HF fun A β16 HF=>?_
         have gne:wq.heap.size≠g1:=by have:=HG1.o;have:=hsz;omega
         have TS:Turned (fun k=>k=wq.heap.size) w8 (w8.setRow (wq.heap.size) (puA f6)):=Turned.setRow (Turned.refl _ _) _ _ (fun _=>rfl)
         have M9:Hq (MidV W0 (w8.setRow (wq.heap.size) (puA f6)) F (fun b=>b=g1) p kn n D6 F6∧AgM W0.heap.size g1 pre ok c F6 st fs o (w8.setRow (wq.heap.size) (puA f6))∧(w8.setRow (wq.heap.size) (puA f6)).heap[wr.heap.size]?=some (.cells #[.int .i64 kd,.int .i64 x,.int .i64 u,.int .i64 cl,.int .i64 m] 77 (0,0))):=hQQ ⟨M6.o.1.setR (b:=wq.heap.size) (fun q=>absurd q (by have:=HW0.o;have:=hsz;omega)) NP6 (puA f6) z8,M6.o.2.1.box TS z8 gne,(TS.block _ (ac M6.o.2.2) (by have:=hsz;omega)).trans M6.o.2.2⟩
         have P9:=hQQ (cS.keep P6.o TS (fun k q=>by subst q;exact⟨_,_,_,z8,by decide⟩))
         have B9:=hQQ (setRow_heap _ _ _ (puA f6) _ _ z8)
         refine bo (i:=16) none (by kernel_rfl) rfl (ab rfl) rfl (fun K hK=>?_)
         refine wp_store_row 32 _ _ rfl (wq.heap.size) _ (HF.get 6 rfl) (HF.get 2 rfl) 32 _ z8 (by kernel_rfl) rfl (Pu.all1 P6.o.1) ?_
         refine hK _ _ (KC.o _ _ _ M9.o) ?_
         clear hK K
         replace HF:=HF.skipO undef
         generalize hBN:Act.put _ none undef=A at HF⊢
         refine tqM 17 12 1 rfl (.inr rfl) rfl (by kernel_rfl) FINQ (KC.o _ _ _ M9.o) HF fun A β18 HF=>?_
         exact bU (by kernel_rfl) (FINE _ _ ⟨(.pointer (some ⟨p,0,none⟩)),(.agg c.arr),(.int .i64 (gM c u)),(.int .i64 (wk:Int)),(.pointer (some ⟨g1,25,none⟩)),(.pointer (some ⟨g1,25+wk * 5,none⟩)),(.agg (puA (fs wk)).toList.toArray),(.pointer (some ⟨wr.heap.size,3,none⟩)),(.int .i64 cl),(.tuple #[.int .i64 x6.1.1,.agg (puA f6),.bool x6.1.2]),(.tuple #[.int .i64 x6.1.1,.agg (puA f6),.bool x6.1.2]),(.int .i64 x6.1.1),(.agg (puA f6)),(.bool x6.1.2),wq.heap.size,x6.1.1,x6.1.2,f6,x6.2,D6,F6,Or.inr (by rw[← β18,←hBN,← β16,← β15,← β14,← β13,← β12,← β11,← β10,← β9,← β8,← β7,← β6,← β5,← β4,← β3,← β2,← β1]<;>rfl),M9.o,B9.o,P9.o,L6.o,R6.o⟩)
      ·have k23:kind=2∨kind=3:=by omega
       have q01:(kind==0)=false:=by simp;omega
       have q11:(kind==1)=false:=by simp;omega
       clear hk6 k4 k5 k01
       by_cases hO:st.O= []
       ·have E9:=hQQ (show dT T (l.drop (j+1)) st kn D1=Rr from by have:=E2.o;rw[FA T _ _ _ _ _ k23 st (by rw[hO];simp)] at this;exact this)
        have hrow:BlR 0 w4 o []:=by
         have:=(A1.o.more M4.o).row.1.low (Nat.zero_le _)
         rw[hO] at this;exact this
        have NN:=hQQ (Ng o m w4 hrow)
        have z35:=(A1.o.more M4.o).st.row
        obtain⟨ao,co,rfl,_⟩:=hrow.reads
        clear hrow y3
        rcases k23 with rfl|rfl
        all_goals
         go_wp2_with fail
         refine NN.o.mono ?_
         rintro e w5 ⟨v5,rfl,h5,m5⟩
         obtain⟨a5,c5,rfl,_⟩:=h5.reads
         have M5:=hQQ (M4.o.trans m5)
         have M6:=hQQ (M5.o.trans (((ae.refl w5).alloc (.cells #[.int .i64 0,.int .i64 0] 48)).setRow w5.heap.size #[.int .i64 0,.int .i64 0] (Nat.le_refl _)))
         clear h5 m5 y0 y2 y4 z1 z35
         go_wp2_with (refine wpList_store_row rfl 48 _ _ rfl _ _ rfl rfl 48 _ (aW _ _ _) (by kernel_rfl) rfl (by simp[Value.oneCell']) ?_)
         go_roundw
         case rel=>exact⟨j+1,st,_,_,D1,F1,by go_num,by omega,by have:=HBL.o;omega,M1.o.more M6.o,A1.o.more M6.o,E9.o⟩
         case measure=>simp[intOf];omega
       ·have hln:0<st.O.length:=by cases hc:st.O with|nil=>exact absurd hc hO|cons _ _=>simp
        obtain⟨⟨bx,bc⟩,hm⟩:∃q,st.O[nthI m st.O.length]?=some q:=⟨_,List.getElem?_eq_getElem (KI m hln)⟩
        have E9:=hQQ (show aq (T.gvP (gM c u) (st.at x) bc bx) (fun y=>dT T (l.drop (j+1)) ((st.put x y.2).out (st.O.take (nthI m st.O.length)++st.O.drop (nthI m st.O.length+1)))) kn D1=Rr from by have:=E2.o;rw[FC T _ _ _ _ _ k23 st hm] at this;exact this)
        have HW6:Hq (W64 bx):=hQQ (A1.o.okS.o (bx,bc) (List.mem_of_getElem? hm))
        have HO6:Hq (∀q∈st.O.take (nthI m st.O.length)++st.O.drop (nthI m st.O.length+1),W64 q.1):=hQQ fun q hq=>by
         rcases List.mem_append.1 hq with z|z
         ·exact A1.o.okS.o q (List.mem_of_mem_take z)
         ·exact A1.o.okS.o q (List.mem_of_mem_drop z)
        have NN:=hQQ (KJ o st.O m bx bc w4 ((A1.o.more M4.o).row.1.low (Nat.zero_le _)) (by have:=HBL.o;omega) hm)
        have z35:=(A1.o.more M4.o).st.row
        obtain⟨ao,co,ho',_⟩:=(A1.o.more M4.o).row.1.at
        clear y3 hm hO
        subst ho'
        clear E2 HB HB4
        rcases k23 with rfl|rfl
        all_goals
         go_wp2_with fail
         refine NN.o.mono ?_
         rintro e w5 ⟨v5,rfl,h5,m5⟩
         obtain⟨a5,c5,rfl,_⟩:=h5.reads
         obtain⟨w6,e6⟩:∃w6,(w5.alloc (.cells #[.int .i64 0,.int .i64 0] 48)).setRow w5.heap.size #[.int .i64 bx,.int .i64 bc]=w6:=⟨_,rfl⟩
         have hb6:w6.heap[w5.heap.size]?=some (.cells #[.int .i64 bx,.int .i64 bc] 48 (0,0)):=by rw[←e6];exact setRow_heap _ _ _ _ _ _ (aW _ _ _)
         have m6:ae w5 w6:=by rw[←e6];exact((ae.refl w5).alloc _).setRow _ _ (Nat.le_refl _)
         have mm:=M4.o.trans m5
         have lv:∀q,F1 q→q<wr.heap.size:=fun q z=>M1.o.view.lt q z
         obtain⟨gb,hgb⟩:∃gb,w5.heap.size=gb:=⟨_,rfl⟩
         have NB:Hq (¬F1 gb):=hQQ fun z=>by have:=lv _ z;have:=mm.size;omega
         have NG:Hq (gb≠g1):=hQQ (by have:=(A1.o.more mm).st.lt;omega)
         have OW:kw W0.heap.size F1 w5 _ _:=⟨h5.low (by have:=M1.o.size;have:=M4.o.size;omega),fun q e=>⟨fun z=>by have:=lv _ z;have:=h5.own q e;have:=M4.o.size;omega,by have:=h5.own q e;have:=M1.o.size;have:=M4.o.size;omega⟩⟩
         rw[hgb] at hb6
         have HGB:=hQQ hgb
         have M6:Hq (MidV W0 w6 F (fun b=>b=g1) p kn n D1 F1∧AgM W0.heap.size g1 pre ok c F1 st fs (.slice ao st.O.length co) w6∧w6.heap[gb]?=some (.cells #[.int .i64 bx,.int .i64 bc] 48 (0,0))∧kw W0.heap.size F1 w6 (.slice a5 (st.O.take (nthI m st.O.length)++st.O.drop (nthI m st.O.length+1)).length c5) (st.O.take (nthI m st.O.length)++st.O.drop (nthI m st.O.length+1))):=hQQ ⟨M1.o.more (mm.trans m6),A1.o.more (mm.trans m6),hb6,OW.more m6⟩
         have KC:Hq (∀W D' F',MidV W0 W F (fun b=>b=g1) p kn n D' F'→W.heap[gb]?=some (.cells #[.int .i64 bx,.int .i64 bc] 48 (0,0))→AgK c (some ⟨sb,so,none⟩) capl l g2 g3 g4 bt W∧W.heap[gb]?=some (.cells #[.int .i64 bx,.int .i64 bc] 48 (0,0))):=hQQ fun W D' F' h q=>⟨KT.o _ h.turn,q⟩
         clear hgb h5 m5 m6 mm lv OW hb6 y0 y2 y4 z1 z35 c2 M1 A1 KK M4 NN hln
         obtain⟨wk,hwk0,ex⟩:=Ji x
         have hwk:=hQQ hwk0
         have hwi:(wk:Int)<2:=by omega
         rw[ex]
         go_wp2_with (refine wpList_store_row rfl 48 _ _ rfl _ _ rfl rfl 48 _ (aW _ _ _) (by kernel_rfl) rfl (by simp[Value.oneCell']) ?_;rw[e6])
         rw[HGB.o]
         refine aO (fun W=>AgK c (some ⟨sb,so,none⟩) capl l g2 g3 g4 bt W∧W.heap[gb]?=some (.cells #[.int .i64 bx,.int .i64 bc] 48 (0,0))) (by kernel_rfl) ?_
         have MR:Hq (MidV W0 (w6.drewN 1) F (fun b=>b=g1) p kn n D1 F1∧AgM W0.heap.size g1 pre ok c F1 st fs (.slice ao st.O.length co) (w6.drewN 1)∧(w6.drewN 1).heap[gb]?=some (.cells #[.int .i64 bx,.int .i64 bc] 48 (0,0))∧kw W0.heap.size F1 (w6.drewN 1) (.slice a5 (st.O.take (nthI m st.O.length)++st.O.drop (nthI m st.O.length+1)).length c5) (st.O.take (nthI m st.O.length)++st.O.drop (nthI m st.O.length+1))):=hQQ ⟨M6.o.1.more ((ae.refl w6).drewN 1),M6.o.2.1.more ((ae.refl w6).drewN 1),((ae.refl w6).drewN 1).block M6.o.2.2.1,M6.o.2.2.2.more ((ae.refl w6).drewN 1)⟩
         change dg _ _ _ _ _ _ _ _ (w6.drewN 1)
         generalize w6.drewN 1=wq at MR⊢
         generalize hA:Act.mk _ _=A
         have HF:AG 120 A [(0,.pointer (some ⟨p,0,none⟩)),(1,.pointer (some ⟨g1,0,none⟩)),(4,.pointer (some ⟨g4,0,none⟩)),(8,.int .i64 (wk:Int)),(9,.int .i64 (gM c u)),(13,.pointer (some ⟨gb,0,none⟩))]:=by
          rw[←hA];try simp only[pts,List.foldl]
          refine⟨⟨Nat.le_of_ble_eq_true rfl,rfl⟩,?_⟩
          intro z hz;simp only[List.mem_cons,List.not_mem_nil,or_false] at hz;rcases hz with rfl|rfl|rfl|rfl|rfl|rfl<;>rfl
         refine bL (fun a W=>∃(u86 u87 u88 u89 u90 u91 u92 u94 u95 u96 u97 u99 u93 u98 u100:Value) (P9:Nat→List Int) (f9:Nat→Value) (D9:List KV) (F9:Nat→Prop),a=(Act.put (pts A [(86,u86),(87,u87),(88,u88),(89,u89),(90,u90),(91,u91),(92,u92),(94,u94),(95,u95),(96,u96),(97,u97),(99,u99),(93,u93),(98,u98),(100,u100)]) none undef)∧(MidV W0 W F (fun b=>b=g1) p kn n D9 F9∧AgM W0.heap.size g1 pre ok c F9 (st.put x P9) (nX fs wk f9) (.slice ao st.O.length co) W)∧kw W0.heap.size F9 W (.slice a5 (st.O.take (nthI m st.O.length)++st.O.drop (nthI m st.O.length+1)).length c5) (st.O.take (nthI m st.O.length)++st.O.drop (nthI m st.O.length+1))∧dT T (l.drop (j+1)) ((st.put x P9).out (st.O.take (nthI m st.O.length)++st.O.drop (nthI m st.O.length+1))) kn D9=Rr) (fun W=>jc W0 F (fun b=>b=g1) (fun w'=>AgY c (some ⟨sb,so,none⟩) capl l g1 g2 g3 g4 bt pre ok w') (fun w'=>AgX W0.heap.size g1 pre ok sF w') p kn (fY Rr) (.panicked (bB p)) W) (bB p) (fun a W hd h=>⟨hd,h⟩) (fun _ _ _ _ _ h=>h) ?_ ?_
         ·skip
          rintro a9 w9 ⟨u86,u87,u88,u89,u90,u91,u92,u94,u95,u96,u97,u99,u93,u98,u100,P9,f9,D9,F9,rfl,MS,OS,R9'⟩
          rw[←hA];try simp only[pts,List.foldl]
          have M9:=hQQ MS
          have R9:=hQQ R9'
          have O9:=hQQ OS
          have x35:=MS.2.st.row
          have x36:=MS.2.st.froz 35
          clear MS OS R9' HF hA MR
          go_simp
          go_wp2_with fail
          go_roundw
          case rel=>exact⟨j+1,(st.put x P9).out (st.O.take (nthI m st.O.length)++st.O.drop (nthI m st.O.length+1)),nX fs wk f9,_,D9,F9,by go_num,by omega,by show(st.O.take (nthI m st.O.length)++st.O.drop (nthI m st.O.length+1)).length≤_;have:=HBL.o;simp;omega,M9.o.1.setC M9.o.2.st (N1.o _ _ _ M9.o.1),M9.o.2.putO (by have q9:=O9.o;simp only[List.length_append,List.length_take,List.length_drop] at q9;exact q9) HO6.o,R9.o⟩
          case measure=>simp[intOf];omega
         intro QQ FINE FIND FINQ
         clear hA
         refine tqM 0 86 3 rfl (.inl rfl) rfl (by kernel_rfl) FINQ (KC.o _ _ _ MR.o.1 MR.o.2.2.1) HF fun A β1 HF=>?_
         refine tqM 1 87 1 rfl (.inl rfl) rfl (by kernel_rfl) FINQ (KC.o _ _ _ MR.o.1 MR.o.2.2.1) HF fun A β2 HF=>?_
         refine tqC 2 88 (.agg c.arr) (by kernel_rfl) FINQ (KC.o _ _ _ MR.o.1 MR.o.2.2.1) HF (by exact aD (ab rfl) 28 _ rfl g4 (HF.get 4 rfl) 28 _ _ _ (fun W hW=>hW.1.h4) Tryz.underlying28 rfl (by kernel_rfl)) fun A β3 HF=>?_
         refine tqM 3 89 7 rfl (.inl rfl) rfl (by kernel_rfl) FINQ (KC.o _ _ _ MR.o.1 MR.o.2.2.1) HF fun A β4 HF=>?_
         refine tqM 4 90 7 rfl (.inl rfl) rfl (by kernel_rfl) FINQ (KC.o _ _ _ MR.o.1 MR.o.2.2.1) HF fun A β5 HF=>?_
         refine tqC 5 91 (.pointer (some ⟨g1,25,none⟩)) (by kernel_rfl) FINQ (KC.o _ _ _ MR.o.1 MR.o.2.2.1) HF (by exact(Or.inl ⟨(ab rfl),fun W hW=>by have h5:=(HF.getD 6 rfl);go_simp⟩)) fun A β6 HF=>?_
         refine tqC 6 92 (.pointer (some ⟨g1,25+wk * 5,none⟩)) (by kernel_rfl) FINQ (KC.o _ _ _ MR.o.1 MR.o.2.2.1) HF (by exact(Or.inl ⟨(ab rfl),fun W hW=>by have h5:=(HF.getD 0 rfl);have h6:=(HF.getD 1 rfl);go_simp⟩)) fun A β7 HF=>?_
         refine tqC 8 94 (.pointer (some ⟨gb,1,none⟩)) (by kernel_rfl) FINQ (KC.o _ _ _ MR.o.1 MR.o.2.2.1) HF (by exact(Or.inl ⟨(ab rfl),fun W hW=>by have h5:=(HF.getD 12 rfl);go_simp⟩)) fun A β8 HF=>?_
         refine tqC 9 95 (.int .i64 bc) (by kernel_rfl) FINQ (KC.o _ _ _ MR.o.1 MR.o.2.2.1) HF (by exact fd (ab rfl) 3 _ rfl gb 1 (HF.get 0 rfl) (.int .i64 bc) _ Tryz.underlying3 rfl (fun W hW=>by simp[World.cell?,hW.2])) fun A β9 HF=>?_
         refine tqC 10 96 (.pointer (some ⟨gb,0,none⟩)) (by kernel_rfl) FINQ (KC.o _ _ _ MR.o.1 MR.o.2.2.1) HF (by exact(Or.inl ⟨(ab rfl),fun W hW=>by have h5:=(HF.getD 14 rfl);go_simp⟩)) fun A β10 HF=>?_
         refine tqC 11 97 (.int .i64 bx) (by kernel_rfl) FINQ (KC.o _ _ _ MR.o.1 MR.o.2.2.1) HF (by exact fd (ab rfl) 3 _ rfl gb 0 (HF.get 0 rfl) (.int .i64 bx) _ Tryz.underlying3 rfl (fun W hW=>by simp[World.cell?,hW.2])) fun A β11 HF=>?_
         refine tqC 13 99 (.pointer (some ⟨g1,25,none⟩)) (by kernel_rfl) FINQ (KC.o _ _ _ MR.o.1 MR.o.2.2.1) HF (by exact(Or.inl ⟨(ab rfl),fun W hW=>by have h5:=(HF.getD 12 rfl);go_simp⟩)) fun A β12 HF=>?_
         refine tqO 7 93 (by kernel_rfl) HF fun K hK=>?_
         refine wp_load_mid 32 _ rfl g1 (25+wk * 5) (HF.get 5 rfl) (puA (fs wk)).toList _ (MR.o.2.1.st.range (n:=wk) hwk.o) Tryz.underlying32 rfl (by kernel_rfl) ?_
         refine hK _ _ (KC.o _ _ _ MR.o.1 MR.o.2.2.1) fun A β13 HF=>?_
         clear hK K
         refine tqO 12 98 (by kernel_rfl) HF fun K hK=>?_
         refine Jj (v0:=.pointer (some ⟨p,0,none⟩)) (v1:=.agg c.arr) (v2:=.int .i64 (gM c u)) (v3:=.agg (puA (fs wk)).toList.toArray) (v4:=.int .i64 bc) (v5:=.int .i64 bx) rfl (HF.get 11 rfl) (HF.get 10 rfl) (HF.get 9 rfl) (HF.get 0 rfl) (HF.get 4 rfl) (HF.get 2 rfl) (enters_of Tryz.func40 (by kernel_rfl) rfl) ?_
         refine(T.gvC F1 (fun q=>q<W0.heap.size) p kn D1 wq (gM c u) bc bx (fs wk) (st.at x) MR.o.1.view HK.o MR.o.1.inv (KT.o _ MR.o.1.turn).sz (NZ.o _ _ _ MR.o.1).1 (NZ.o _ _ _ MR.o.1).2 (fun q z=>Nat.lt_of_lt_of_le z MR.o.1.size) (MR.o.2.1.atk hwk.o ex) (MR.o.2.1.okS.at x) HW6.o).mono ?_
         intro e w7 he
         rcases MR.o.1.stepP (ae.refl _) HK.o (T.gvG _ _ _ _ (MR.o.2.1.okS.at x) HW6.o) he with⟨a',hE,rfl,hd',ht',hk6⟩|⟨x6,f6,D6,F6,hE,rfl,M6',hp6,hq6,hk6,hf6⟩
         ·exact FIND _ _ HF.1.2 (NEED.o a' w7 (E9.o.symm.trans (ag hE)) hd' ht' ⟨_,_,MR.o.2.1.st.1,hk6 _ _ (N1.o _ _ _ MR.o.1) MR.o.2.1.st.2⟩)
         have R6:=hQQ ((aj hE).symm.trans E9.o)
         have M7:Hq (MidV W0 w7 F (fun b=>b=g1) p kn n D6 F6∧AgM W0.heap.size g1 pre ok c F6 st fs (.slice ao st.O.length co) w7∧w7.heap[gb]?=some (.cells #[.int .i64 bx,.int .i64 bc] 48 (0,0))∧kw W0.heap.size F6 w7 (.slice a5 (st.O.take (nthI m st.O.length)++st.O.drop (nthI m st.O.length+1)).length c5) (st.O.take (nthI m st.O.length)++st.O.drop (nthI m st.O.length+1))):=hQQ ⟨M6',MR.o.2.1.stay (N1.o _ _ _ MR.o.1) hk6 hf6,hk6 _ _ NB.o MR.o.2.2.1,MR.o.2.2.2.stay hk6 hf6⟩
         have P6:=hQQ hp6
         have L6:=hQQ hq6
         clear he hE hk6 hf6 hq6 hp6
         refine hK _ _ (KC.o _ _ _ M7.o.1 M7.o.2.2.1) fun A β14 HF=>?_
         clear hK K
         refine tqC 14 100 (.pointer (some ⟨g1,25+wk * 5,none⟩)) (by kernel_rfl) FINQ (KC.o _ _ _ M7.o.1 M7.o.2.2.1) HF (by exact(Or.inl ⟨(ab rfl),fun W hW=>by have h5:=(HF.getD 2 rfl);have h6:=(HF.getD 13 rfl);go_simp⟩)) fun A β15 HF=>?_
         obtain⟨cur,hcur⟩:∃cur,(stL pre fs (.slice ao st.O.length co) ok).toArray=cur:=⟨_,rfl⟩
         have hg:=M7.o.2.1.st.2
         rw[hcur] at hg
         have hsz:cur.size=37:=by rw[←hcur,List.size_toArray];exact nR M7.o.2.1.st.1 _ _ _
         have A8:=M7.o.2.1.putk hwk.o ex f6 x6.2 P6.o L6.o cur hcur.symm
         have M8:=M7.o.1.setR (b:=g1) (fun _=>rfl) (N1.o _ _ _ M7.o.1) (cur.toList.take (25+wk * 5)++(puA f6).toList++cur.toList.drop (25+wk * 5+(puA f6).size)).toArray hg
         have T8:Turned (fun k=>k=g1) w7 (w7.setRow g1 (cur.toList.take (25+wk * 5)++(puA f6).toList++cur.toList.drop (25+wk * 5+(puA f6).size)).toArray):=Turned.setRow (Turned.refl _ w7) _ _ (fun _=>rfl)
         have B8:=(T8.block gb (ac M7.o.2.2.1) NG.o).trans M7.o.2.2.1
         have O8:=M7.o.2.2.2.turnS M7.o.2.1.st T8
         refine gG (i:=15) (by kernel_rfl) (by kernel_rfl) rfl (ab rfl) (fun K hK=>?_)
         refine ku 32 _ _ rfl g1 (25+wk * 5) (puA f6) (HF.get 0 rfl) (HF.get 1 rfl) 37 cur hg (by rw[hsz];show 25+wk * 5+5≤37;have:=hwk.o;omega) (by kernel_rfl) (Pu.all1 P6.o.1) ?_
         refine hK _ _ ⟨KT.o _ M8.turn,B8⟩ (FINE _ _ ⟨(.int .i64 (wk:Int)),(.pointer (some ⟨p,0,none⟩)),(.agg c.arr),(.int .i64 (gM c u)),(.int .i64 (wk:Int)),(.pointer (some ⟨g1,25,none⟩)),(.pointer (some ⟨g1,25+wk * 5,none⟩)),(.pointer (some ⟨gb,1,none⟩)),(.int .i64 bc),(.pointer (some ⟨gb,0,none⟩)),(.int .i64 bx),(.pointer (some ⟨g1,25,none⟩)),(.agg (puA (fs wk)).toList.toArray),(.agg (puA f6)),(.pointer (some ⟨g1,25+wk * 5,none⟩)),x6.2,f6,D6,F6,?_,⟨M8,A8⟩,O8,R6.o⟩)
         rw[← β15,← β14,← β13,← β12,← β11,← β10,← β9,← β8,← β7,← β6,← β5,← β4,← β3,← β2,← β1];rfl
  ·have d1:decide ((j:Int)<(l.length:Int))=false:=by simp;omega
   have hjl:j=l.length:=by omega
   have E2:=hQQ (show Res.ok st D1=Rr from by rw[hjl,List.drop_length] at E1';exact E1')
   clear E1' hjl
   go_wp2_with fail
   go_end0
   exact DONE.o st _ D1 F1 _ _ E2.o.symm M1.o A1.o
theorem Jk (y0 y1 y2 y3 y4 y5 y6 y7 y8 y9 y10:Int)(f0:(Lit.int .i64 y0).wf=true)(f1:(Lit.int .i64 y1).wf=true)(f2:(Lit.int .i64 y2).wf=true)(f3:(Lit.int .i64 y3).wf=true)(f4:(Lit.int .i64 y4).wf=true)(f5:(Lit.int .i64 y5).wf=true)(f6:(Lit.int .i64 y6).wf=true)(f7:(Lit.int .i64 y7).wf=true)(f8:(Lit.int .i64 y8).wf=true)(f9:(Lit.int .i64 y9).wf=true)(f10:(Lit.int .i64 y10).wf=true):∃d:Cfg,d.Small∧Hq (∀W,Calls Tryz.prog 36 #[.agg #[.int .i64 y0,.int .i64 y1,.int .i64 y2,.int .i64 y3,.int .i64 y4,.int .i64 y5,.int .i64 y6,.int .i64 y7,.int .i64 y8,.int .i64 y9,.int .i64 y10]] W (GU W d)):=by
 obtain⟨wk,cp,pg,st,tr,wt,ck,pr,ca,bi,ba,R0,S0⟩:=AQ y0 y1 y2 y3 y4 y5 y6 y7 y8 y9 y10 f0 f1 f2 f3 f4 f5 f6 f7 f8 f9 f10
 have R:Cfg.Ok ⟨wk,cp,pg,st,tr,wt,ck,pr,ca,bi,ba⟩:=R0
 exact⟨_,rh R,fun W=>Eo R y0 y1 y2 y3 y4 y5 y6 y7 y8 y9 y10 W S0.out⟩
theorem BlR.off {base:Nat}{w w':World}{v:Value}{its:List Bl}(h:BlR base w v its){S:Nat→Prop}(t:Turned S w w')(n:∀q,v.ownBlock=some q→¬S q):BlR base w' v its:=by
 refine⟨h.1,?_⟩
 rcases h.2 with q|⟨g,cap,cur,rfl,h2,h3,h4⟩
 ·exact .inl q
 ·exact .inr ⟨g,cap,cur,rfl,h2,(t.block g (ac h3) (n g rfl)).trans h3,h4⟩
theorem Ns (w:World)(x1 x2 y1 y2:Array Value)(t1 t2:TypeId):∃W,(((w.alloc (.cells x1 t1)).alloc (.cells x2 t2)).setRow w.heap.size y1).setRow (w.heap.size+1) y2=W ∧
 ((w.alloc (.cells x1 t1)).alloc (.cells x2 t2)).heap[w.heap.size]?=some (.cells x1 t1 (0,0))∧(((w.alloc (.cells x1 t1)).alloc (.cells x2 t2)).setRow w.heap.size y1).heap[w.heap.size+1]?=some (.cells x2 t2 (0,0)) ∧
 W.heap[w.heap.size]?=some (.cells y1 t1 (0,0))∧W.heap[w.heap.size+1]?=some (.cells y2 t2 (0,0))∧ae w W∧W.heap.size=w.heap.size+2:=by
 obtain⟨W,e,h1,h2,h3,h4,h5⟩:=Oj w x1 x2 y1 y2 t1 t2
 exact⟨W,e,h1,h2,h3,by rw[←e];exact setRow_heap _ _ _ _ _ _ h2,h4,by rw[←e];simp⟩
theorem DK {c:Cfg}(S:c.Small){n:Nat}(hn:(n:Int)=c.words):cF c.pg c.st n:=by
 have h2:=nZ S.ok;have h3:=S.ok.pg1
 have h5:a8 c.st c.pg+62≤eK c.cp c.pg c.st c.ca c.bi:=by
  have:=qn S.ok;have:=S.ok.bi1
  unfold eK fX du;omega
 have h6:aY c.st+aL c.pg+5 * c.pg+62≤n:=by
  rw[hn]
  show _≤eY c.cp c.pg c.st c.ca c.bi
  unfold eY
  unfold a8 at h5
  omega
 exact { S.tbl hn with top5:=by omega,top62:=h6 }
theorem FF {c:Cfg}(R:c.Ok){n bt:Nat}(T:o8 c n bt)(zs:List Int)(hlz:zs.length=n)(hlen:zs.length≤1000)(hz:OkW zs)(w:World)(g1 g2 g3 g4:Nat)(a:Option Addr)(cap:Nat)(al:Option Addr)(capl:Nat)(l:List gA)(hll:l.length≤1000)(pre:List Value)(ok:Value)(hY:AgY c al capl l g1 g2 g3 g4 bt pre ok w)(ne:∀k,AgO al l g2 g3 g4 bt k→k≠g1)(hw:jW w a zs):
 Calls Tryz.prog 9 #[.slice a zs.length cap,.func (.func 37) #[] #[.pointer (some ⟨g1,0,none⟩),.pointer (some ⟨g2,0,none⟩),.pointer (some ⟨g3,0,none⟩),.pointer (some ⟨g4,0,none⟩)]] w (fun e w'=>∃v1 v2 b,e=.returned (.tuple #[v1,v2,.int .i64 0])∧Rw w.heap.size w' v1 (gZ c l ⟨fun _=> [],fun _=> [],[]⟩ zs).2∧Turned (fun k=>k=g1) w w'∧AgK c al capl l g2 g3 g4 bt w'∧w.heap.size≤b∧AgX b g1 pre ok (gZ c l ⟨fun _=> [],fun _=> [],[]⟩ zs).1 w'∧OkS c (gZ c l ⟨fun _=> [],fun _=> [],[]⟩ zs).1):=by
 subst hlz
 have lo:∀k,AgO al l g2 g3 g4 bt k→k<w.heap.size:=fun k hk=>hY.1.lt hk
 have l1:g1<w.heap.size:=by obtain⟨fs,o,h⟩:=hY.2;exact h.lt
 have G:=mU T R l (OkS.nil R)
 obtain⟨D,hD,ha,hi⟩:=mV T R l (OkS.nil R) zs [] rfl hz (dP _)
 have e0:cy zs []=zs:=rfl
 rw[e0] at hD ha
 have HO:=(G.ok (jX hz) (dP _) hD).2.1
 obtain⟨K',hK',hd⟩:=wR (lN T l _) G hz hD (zs.length+1) [] (po _) (by simp)
 rw[ha] at hd
 generalize (gZ c l ⟨fun _=> [],fun _=> [],[]⟩ zs).1=sF at hD HO⊢
 generalize (gZ c l ⟨fun _=> [],fun _=> [],[]⟩ zs).2=xs at hd⊢
 have M:=Jd a cap zs (fun K=>fY (dT T l ⟨fun _=> [],fun _=> [],[]⟩ (look K) [])) (some (xs,K')) zs.length w hw hlen hz (wS G hz (by omega)) (by omega) hd 37 #[.pointer (some ⟨g1,0,none⟩),.pointer (some ⟨g2,0,none⟩),.pointer (some ⟨g3,0,none⟩),.pointer (some ⟨g4,0,none⟩)] (fun k=>k=g1)
  (fun w'=>AgY c al capl l g1 g2 g3 g4 bt pre ok w') (fun b w'=>AgX b g1 pre ok sF w') (fun k q=>by subst q;exact l1)
  (fun w' w'' y t=>by obtain⟨y1,fs,o,y2⟩:=y;exact⟨y1.keep t (fun k hk q=>by have:=lo k hk;omega),fs,o,y2.keep t (by omega)⟩)
  (fun b w' w'' hb x t=>by
   obtain⟨fs,o,x1,x2,x3,x4,x5,x6⟩:=x
   exact⟨fs,o,x1.keep t (by omega),x2.off (fun c hc q e z=>by have:b≤q:=x5 c hc q e;omega) t,x3.off (fun c hc q e z=>by have:b≤q:=x6 c hc q e;omega) t,x4.off t (fun q e z=>by have:b≤q:=x4.own q e;omega),x5,x6⟩) hY (enters_of Tryz.func37 (by kernel_rfl) rfl)
  (fun K hK W F p t yy hv hF=>Nr R T F p g1 g2 g3 g4 (look K) al capl l hll sF pre ok W hv (sP hK hz) yy (fun k hk q=>by have:=hF _ q;have:=lo k hk;omega) (fun q=>by have:=hF _ q;omega) ne
   (fun z D' e=>(sQ (lN T l _) hK hD e).1))
 refine M.mono ?_
 rintro e w' ⟨v1,v2,b,rfl,r1,_,t,y,hb,x⟩
 exact⟨v1,v2,b,rfl,r1,t,y.1,hb,x,HO⟩
theorem Cv (pre:List Value)(hp:pre.all (·.oneCell')=true){fs:Nat→Nat→Value}{o ok:Value}(h0:(puA (fs 0)).all (·.oneCell')=true)(h1:(puA (fs 1)).all (·.oneCell')=true)(ho:o.oneCell'=true)(hk:ok.oneCell'=true):(stL pre fs o ok).toArray.all (·.oneCell')=true:=by
 rw[←Array.all_toList] at h0 h1⊢
 simp only[stL,List.all_append,hp,h0,h1,Bool.true_and,List.all_cons,List.all_nil,ho,hk,Bool.and_true]
namespace StB
variable {w w':World}{g:Nat}{pre:List Value}{fs:Nat→Nat→Value}{o ok:Value}
theorem put36 (h:StB w g pre fs o ok)(v:Value):StB (w.setCell ⟨g,36,none⟩ v) g pre fs o v:=by
 refine⟨h.1,?_⟩
 rw[heap_setCell_same w g 36 _ _ v h.2]
 have hl:=h.1
 congr 2
 simp[stL,puA,hl,List.set_append]
theorem end36 (h:StB w g pre fs o ok):w.cell? ⟨g,36,none⟩=some ok:=by
 rw[cell_of_row w g 36 _ _ _ h.2]
 simp[stL,puA,h.1,List.getElem?_append]
theorem put24 {p:List Value}(hp:p.length=24){v0:Value}(h:StB w g (p++ [v0]) fs o ok)(v:Value):StB (w.setCell ⟨g,24,none⟩ v) g (p++ [v]) fs o ok:=by
 refine⟨by simp[hp],?_⟩
 rw[heap_setCell_same w g 24 _ _ v h.2]
 congr 2
 simp[stL,puA,hp,List.set_append]
theorem at24 {p:List Value}(hp:p.length=24){v0:Value}(h:StB w g (p++ [v0]) fs o ok):w.cell? ⟨g,24,none⟩=some v0:=by
 rw[cell_of_row w g 24 _ _ _ h.2]
 simp[stL,puA,hp,List.getElem?_append]
end StB
def st0 (d:Cfg)(v:Value):Array Value:=(stL (d.arr.toList++ [v]) (fun _ _=> .slice none 0 0) (.slice none 0 0) (.bool false)).toArray
theorem Jl (d:Cfg)(g n m:Nat):Tryz.prog.built 37 [(0,.agg d.arr),(1,.slice (some ⟨g,0,none⟩) n m)]=some (st0 d (.slice (some ⟨g,0,none⟩) n m)):=by kernel_rfl
theorem FH {ops:Array Oper}{rest:List Oper}{o:Oper}{a:Act}{w:World}{Q:Exit→Act→World→Prop}(hgd:o.guard=none)(x0 x1:Operand)(ho:o.op=.build 37 #[(0,x0),(1,x1)])(d:Cfg)(g n m:Nat)
 (h0:a.eval x0=.agg d.arr) (h1:a.eval x1=.slice (some ⟨g,0,none⟩) n m) (h:wpList Tryz.prog ops Q rest (a.put o.dst (.agg (st0 d (.slice (some ⟨g,0,none⟩) n m)))) w):wpList Tryz.prog ops Q (o::rest) a w:=by
 have e:Tryz.prog.built 37 ((#[(0,x0),(1,x1)]:Array (Nat×Operand)).map fun(i,x)=>(i,a.eval x)).toList=some (st0 d (.slice (some ⟨g,0,none⟩) n m)):=by
  simp only[List.map_toArray,List.map_cons,List.map_nil,h0,h1]
  exact Jl d g n m
 refine wpList_build hgd _ _ ho ?_ ?_
 ·rw[e];rfl
 ·rw[e];exact h
theorem kV (d:Cfg):d.arr.toList.length=24:=rfl
theorem xU (d:Cfg)(v:Value)(hv:v.oneCell'=true):(d.arr.toList++ [v]).all (·.oneCell')=true:=by
 have:=ns d
 rw[←Array.all_toList] at this
 rw[List.all_append,this]
 simp[hv]
abbrev mZ:Array Value:= #[.int .i64 0,.int .i64 0,.int .i64 0,.int .i64 0,.int .i64 0,.int .i64 0,.int .i64 0,.int .i64 0,.int .i64 0,.int .i64 0,.int .i64 0,.int .i64 0,.int .i64 0,.int .i64 0,.int .i64 0,.int .i64 0,.int .i64 0,.int .i64 0,.int .i64 0,.int .i64 0,.int .i64 0,.int .i64 0,.int .i64 0,.int .i64 0,.slice none 0 0,.slice none 0 0,.slice none 0 0,.slice none 0 0,.slice none 0 0,.slice none 0 0,.slice none 0 0,.slice none 0 0,.slice none 0 0,.slice none 0 0,.slice none 0 0,.slice none 0 0,.bool false]
def uI (P:Nat→List Int)(c:Int):List Int:=if jh c then P c.toNat else []
theorem Jm (f:Nat→Value)(P:Nat→List Int)(c:Int)(w:World)(h:Pu w f P)(hL:∀k,k<5→(P k).length≤1000000):
 Calls Tryz.prog 34 #[.agg (puA f),.int .i64 c] w (GH w (uI P c)):=by
 obtain⟨w1,e1,hl1,m1,s1⟩:=en1 w (.cells (puA f) 32)
 have L0:=hQQ hl1
 have M1:=hQQ m1
 have HP:=hQQ (h.more m1)
 clear m1 h s1
 cases hc:jh c with
 |false =>
  have C:=hQQ (fun W=>nN c W)
  rw[hc] at C
  have FIN:uI P c= []:=by simp[uI,hc]
  rw[FIN]
  clear hc FIN hl1 HP
  go_enter Tryz.func34,Tryz.ntmps34
  go_wp2_with fail
  refine(C.o w1).mono ?_
  rintro e w2 ⟨rfl,h2⟩
  have M2:=hQQ (M1.o.trans h2)
  clear h2
  go_wp2_with fail
  go_ret
  exact⟨_,rfl,Rw.nil _ _,M2.o⟩
 |true =>
  obtain⟨k,rfl,hk⟩:=mS hc
  have C:=hQQ (fun W=>nN k W)
  rw[hc] at C
  have FIN:uI P k=P k:=by simp[uI,hc]
  rw[FIN]
  have hm:=hQQ hk
  have hl:=hL k hk
  obtain⟨a,cap,hf,_,_⟩:=HP.o k hk
  have X:Hq (∀W,ae w1 W→W.cell? ⟨w.heap.size,k,none⟩=some (.slice a (P k).length cap)∧Rd W (.slice a (P k).length cap) (P k)):=hQQ fun W hW=>⟨(kR (hW.block L0.o) hk).trans (by rw[hf]),by rw[←hf];exact(HP.o.more hW) k hk⟩
  have HL:=hQQ hl
  generalize (P k).length=n at X
  clear hc FIN hl1 HP hf hl hL
  go_enter Tryz.func34,Tryz.ntmps34
  go_wp2_with fail
  refine(C.o w1).mono ?_
  rintro e w2 ⟨rfl,h2⟩
  have M2:=hQQ (M1.o.trans h2)
  obtain⟨x1,x2⟩:=X.o w2 h2
  have X2:=hQQ x2
  clear h2 x2
  go_wp2_with (at_builtin
               refine uS (wa:=w) (xs:=[]) rfl _ _ rfl rfl (Rw.nil _ _) M2.o (by have:=HL.o;simp;omega) rfl X2.o ?_
               intro v' w3 r3 m3
               have R3:=hQQ r3
               have M3:=hQQ m3
               clear r3 m3)
  go_ret
  exact⟨_,rfl,by simpa using R3.o,M3.o⟩
section
variable {d:Cfg}(R:d.Ok){n:Nat}(H:cF d.pg d.st n)(hw:(n:Int)=d.words)(hn:n≤10000)
include R H hw hn
theorem Jn {s:FSt}{ws:List Int}(h:FrS d n s ws)(x:Int){u c:Int}(hu:0≤u∧u<d.cp):
 ((tkW d u (s.at x) c ws).1.1.2=true↔(0≤c∧c<5∧(s.at x c.toNat≠ []∨wAt ws ((famC d).b (5 * u.toNat+c.toNat))≠0∨wAt ws ((famC d).b (5 * d.cp.toNat+c.toNat))≠0∨(ax c≠0∧(jg d.pg d.st c ws=true∨fO d.pg d.st 1 1 ws≠ -1))))) ∧
 ((tkW d u (s.at x) c ws).1.1.2=false→(tkW d u (s.at x) c ws).1.1.1=0) ∧
 ((tkW d u (s.at x) c ws).1.1.2=true→d.us≤(tkW d u (s.at x) c ws).1.1.1∧0<szV c∧(tkW d u (s.at x) c ws).1.1.1 % szV c=0):=by
 obtain⟨⟨C,hC⟩,hl⟩:=h
 have hS:=mR R hw
 have hC1:=hC.perm (s.perm x)
 refine⟨?_,?_,?_⟩
 ·unfold tkW
  by_cases q:nV d u c
  ·rw[if_pos q]
   obtain⟨q0,q1,q2,q3⟩:=q
   obtain⟨a1,_,_,a4⟩:=gK (d:=d) (u:=u.toNat) (c:=c.toNat) (by omega) (by omega)
   obtain⟨b1,_,_,b4⟩:=j5 (d:=d) (c:=c.toNat) (by have:=R.cp1;omega) (by omega)
   have c1:=(hC1.keeps _ a1).cnt
   have c2:=(hC1.keeps _ b1).cnt
   rw[IT H hS hn (wh R H hw hn) a1 b1 (k:=c.toNat) (by omega) a4 b4 d.pr (frM d) (s.at x) hC1,c1,c2,show((c.toNat:Nat):Int)=c by omega]
   have z:∀(l:List Int),l≠ []↔(l.length:Int)≠0:=fun l=>by simp
   rw[z (C _),z (C _)]
   exact⟨fun r=>⟨q0,q1,r⟩,fun r=>r.2.2⟩
  ·rw[if_neg q]
   exact⟨fun r=>by simp at r,fun r=>absurd ⟨r.1,r.2.1,hu.1,hu.2⟩ q⟩
 ·intro e
  rcases xL R H hw hn (u:=u) (c:=c) (s.at x) (FSt.lim_at hl x) hC1 with e1|⟨a,P',X,C',e1,_⟩
  ·rw[e1]
  ·rw[e1] at e;cases e
 ·intro e
  rcases xL R H hw hn (u:=u) (c:=c) (s.at x) (FSt.lim_at hl x) hC1 with e1|⟨a,P',X,C',e1,h',_⟩
  ·rw[e1] at e;cases e
  ·rw[e1]
   obtain⟨G,P⟩:=h'.pgs
   obtain⟨a0,a1,k0,k4,am,sl⟩:=BJ H P ((h'.acc a c).2 (by simp))
   have hz:0<szV c:=(szj k0 k4 (j:=0) (by have:=et c;omega)).1
   refine⟨a0,hz,?_⟩
   have hub:=nZ R
   have e2:d.us=eT d.cp d.pg d.st d.ca d.bi:=rfl
   have u128:eT d.cp d.pg d.st d.ca d.bi % 128=0:=by unfold eT;omega
   have e3:d.us=32 * (d.us / 32):=by omega
   have e4:d.us % szV c=0:=by rw[e3];exact BI k0 k4 hz _
   show a % szV c=0
   have:a=(a-d.us)+d.us:=by omega
   rw[this,Int.add_emod,am,e4];simp
end
end Go.Proofs.YtddmeghbmdfgeaaGreatDoor
