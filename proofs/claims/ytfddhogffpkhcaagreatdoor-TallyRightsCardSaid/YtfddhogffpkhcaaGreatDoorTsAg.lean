/-
  The document's own functions of pages, over a row of words: Grab and Return.
-/
import Derived.Test.YtfddhogffpkhcaaGreatDoorTsAf
import Derived.Test.YtfddhogffpkhcaaGreatDoorTsAa
import Derived.Test.YtfddhogffpkhcaaGreatDoorTsAd
import Derived.Test.YtfddhogffpkhcaaGreatDoorTsAe
import Derived.Laws.OwnMore
import Derived.Laws.AppendOwnNone
import Derived.Maps.AppendAt
import Derived.Shelf.Abstract
import Derived.IntWalk
import Derived.ProofKit
import Derived.OpenShut
import Derived.Deep.Slices
import Derived.Deep.Fields
import Derived.Lib.SmallJoins
set_option maxRecDepth 100000
set_option maxHeartbeats 8000000
set_option linter.all false
namespace Go.Proofs.YtfddhogffpkhcaaGreatDoor
open Go.RowKit Go.Sort Go.Maps Go.Shelf
def vZ (w:World)(g cap:Nat)(v:Value)(ws:List Int)(e:Ending)(w':World):Prop:=e=.returned v∧Ws w' g cap ws∧Turned (fun b=>b=g) w w'
theorem wg {us:List Int}{b1 b2:Nat}(h:b1≠b2)(x y z:Int):((us.set b1 x).set b2 y).set b1 z=(us.set b2 y).set b1 z:=by
 rw[List.set_comm x y h,List.set_set]
theorem pJ {c:Cfg}(R:c.Ok){q:Int}(hq:ah c.pg q=true)(W:World):Calls Tryz.prog 47 #[.agg c.cells,.int .i64 q] W (aD W (.int .i64 (c.us+32 * q))):=by
 have:=Dz c.wk c.cp c.pg c.st c.tr c.wt c.ck c.pr c.ca c.bi c.ba W q R
 rw[show jk c.cp c.pg c.st c.ca c.bi q=c.us+32 * q from by unfold jk;rw[if_pos (ai.1 hq)];rfl] at this
 exact this
theorem Cg {c:Cfg}(R:c.Ok){ws us:List Int}(hlen:us.length=ws.length)(H:dh c.pg c.st ws.length)(hl:ws.length≤1000){G1:Int→List Int}(L:Ln c.pg c.st G1 us)(q k f:Int)(hf:∀a,bZ c.pg c.st a→q∉G1 a){X:List Int}(hX:(bJ c.pg c.st q k f us).2=X)(g cap:Nat)(w:World)(hw:Ws w g cap us):
 Calls Tryz.prog 148 #[.agg c.cells,.slice (some ⟨g,0,none⟩) ws.length cap,.int .i64 q,.int .i64 k,.int .i64 f] w (fun e w'=>e=.returned (.bool (bJ c.pg c.st q k f us).1)∧Ws w' g cap X∧Turned (fun b=>b=g) w w'):=by
 subst hX
 have:=zt R us (by rw[hlen];exact H) (by omega) L q k f (fun _=>hf) g cap w hw
 rw[hlen] at this
 exact this
theorem zz {c:Cfg}(R:c.Ok)(ws:List Int)(H:dh c.pg c.st ws.length)(hl:ws.length≤1000){G:Int→List Int}(P:PgW c.pg c.st G ws)(ho:OkW ws)(g cap:Nat)(k:Int)(w:World)(hw:Ws w g cap ws):
 Calls Tryz.prog 130 #[.agg c.cells,.slice (some ⟨g,0,none⟩) ws.length cap,.int .i64 k] w (vZ w g cap (.tuple #[.int .i64 (dn c.us c.pg c.st k ws).1.1,.bool (dn c.us c.pg c.st k ws).1.2]) (dn c.us c.pg c.st k ws).2):=by
 have hsz:0≤szV k∧szV k≤16:=by unfold szV; (repeat' split)<;>omega
 by_cases hs:am k=0
 ·rw[jI H c.us hs ws]
  have hz':=ro.2 hs
  have ZS:=hQQ (fun W=>hz'▸pI k W)
  clear hs hz' hsz
  have hc:=aI w c.cells 27
  have HR:=hQQ R
  have HH:=hQQ H
  have hgl:=hw.lt
  obtain⟨w1,e1⟩:∃w1,w.alloc (.cells c.cells 27)=w1:=⟨_,rfl⟩
  have m1:ac w w1:=by rw[←e1];exact(ac.refl w).alloc _
  rw[e1] at hc
  have HC:=hQQ hc
  have HM:=hQQ m1
  have HW:=hQQ (hw.more m1)
  have x2:w1.cell? ⟨w.heap.size,2,none⟩=some (.int .i64 c.pg):=aB hc (ac.refl _) rfl
  have X2:=hQQ x2
  have pg1:=R.pg1
  have pg2:=R.pg2
  clear x2 m1 hw R H hc
  go_enter Tryz.func130,Tryz.ntmps130
  go_wp2_with fail
  clear e1
  refine(ZS.o _).mono ?_
  rintro e w2 ⟨rfl,h2⟩
  have FIN:Hq (Ws w2 g cap ws∧Turned (fun b=>b=g) w w2):=hQQ ⟨HW.o.more h2,turned_more (HM.o.trans h2)⟩
  clear h2
  go_wp2_with fail
  go_ret2
  exact⟨rfl,FIN.o.1,FIN.o.2⟩
 have hk4:=fS hs
 have hsl:=dV k
 have hs1:(szV k==0)=false:=by
  have:szV k≠0:=fun e=>hs (ro.1 e)
  simpa using this
 have FI:=hQQ (fun W (hW:Ws W g cap ws)=>og R ws H hl P.ln g cap k W hW)
 have FD:=hQQ (fun W (hW:Ws W g cap ws)=>ux R ws H.toPgIn hl g cap 1 1 W hW)
 have hfb:=kR H k (am k).toNat ws 1
 have ZS:=hQQ (fun W=>pI k W)
 have YS:=hQQ (fun W=>zw k W)
 have qk:IntKind.i64.wrap (k+1)=k+1:=aj (by omega) (by omega)
 have UB:=hQQ (gG R)
 have HO:=hQQ ho
 have HP:=hQQ P
 by_cases hx:aY c.pg c.st k (am k).toNat 1 ws= -1
 ·by_cases hy:dm c.pg c.st 1 1 ws= -1
  ·rw[jJ H c.us hs hx hy]
   rw[hx] at FI
   rw[hy] at FD
   clear hx hy hfb ho P
   have hc:=aI w c.cells 27
   have HR:=hQQ R
   have HH:=hQQ H
   have hgl:=hw.lt
   obtain⟨w1,e1⟩:∃w1,w.alloc (.cells c.cells 27)=w1:=⟨_,rfl⟩
   have m1:ac w w1:=by rw[←e1];exact(ac.refl w).alloc _
   rw[e1] at hc
   have HC:=hQQ hc
   have HM:=hQQ m1
   have HW:=hQQ (hw.more m1)
   have x2:w1.cell? ⟨w.heap.size,2,none⟩=some (.int .i64 c.pg):=aB hc (ac.refl _) rfl
   have X2:=hQQ x2
   have pg1:=R.pg1
   have pg2:=R.pg2
   clear x2 m1 hw R H hc
   go_enter Tryz.func130,Tryz.ntmps130
   go_wp2_with fail
   clear e1
   refine(ZS.o _).mono ?_
   rintro e w2 ⟨rfl,h2⟩
   have HL2:=hQQ (h2.block HC.o)
   go_wp2_with (first|(refine aH rfl rfl rfl HL2.o (by kernel_rfl) ?_)|(refine aH rfl rfl rfl HL2.o (by kernel_rfl) ?_))
   refine(FI.o _ (HW.o.more h2)).mono ?_
   rintro e w3 ⟨rfl,h3⟩
   have M3:=hQQ (h2.trans h3)
   have HL3:=hQQ (M3.o.block HC.o)
   clear h2 h3
   go_wp2_with (first|(refine aH rfl rfl rfl HL3.o (by kernel_rfl) ?_)|(refine aH rfl rfl rfl HL3.o (by kernel_rfl) ?_))
   refine(FD.o _ (HW.o.more M3.o)).mono ?_
   rintro e w4 ⟨rfl,h4⟩
   have FIN:Hq (Ws w4 g cap ws∧Turned (fun b=>b=g) w w4):=hQQ ⟨HW.o.more (M3.o.trans h4),turned_more (HM.o.trans (M3.o.trans h4))⟩
   clear h4
   go_wp2_with fail
   go_ret2
   exact⟨rfl,FIN.o.1,FIN.o.2⟩
  ·obtain⟨G1,G2,V1,X,hyp,hk0,ht,T,n1,L1,M,hg,_⟩:=mJ H c.us hs P rfl hx rfl hy
   rw[hg]
   rw[hx] at FI
   obtain⟨q,hq⟩:∃q,dm c.pg c.st 1 1 ws=q:=⟨_,rfl⟩
   rw[hq] at FD hyp hk0 ht T M hg hy⊢
   have hb0:=T.bit q hyp
   rw[if_pos (by omega)] at hb0
   have hq1:=ai.1 hyp
   have pgb:=R.pg2
   have TK:=hQQ (fun W (hW:Ws W g cap ws)=>by have:=uy R ws H.toPgIn hl g cap q 1 (k+1) (by unfold W64;omega) W hW;rw[ht] at this;exact this)
   have d0:decide (q<0)=false:=by simp;omega
   have HQ:=hQQ hyp
   have hfz:=mH hs
   clear hq hx hy hfb ho P hk0 ht T hg
   have hc:=aI w c.cells 27
   have HR:=hQQ R
   have HH:=hQQ H
   have hgl:=hw.lt
   obtain⟨w1,e1⟩:∃w1,w.alloc (.cells c.cells 27)=w1:=⟨_,rfl⟩
   have m1:ac w w1:=by rw[←e1];exact(ac.refl w).alloc _
   rw[e1] at hc
   have HC:=hQQ hc
   have HM:=hQQ m1
   have HW:=hQQ (hw.more m1)
   have x2:w1.cell? ⟨w.heap.size,2,none⟩=some (.int .i64 c.pg):=aB hc (ac.refl _) rfl
   have X2:=hQQ x2
   have pg1:=R.pg1
   have pg2:=R.pg2
   clear x2 m1 hw R H hc
   obtain⟨_,⟨q2,q3,_⟩,q4,q5,_⟩:=cH HH.o.toPgIn HQ.o
   obtain⟨b1,hb1⟩:∃b:Nat,cA c.pg c.st q=(b:Int):=⟨(cA c.pg c.st q).toNat,by omega⟩
   obtain⟨b2,hb2⟩:∃b:Nat,bA c.pg c.st q=(b:Int):=⟨(bA c.pg c.st q).toNat,by omega⟩
   have l1:b1<ws.length:=by omega
   have l2:b2<ws.length:=by omega
   have P1:=hQQ ((tY (st:=c.st) HQ.o).trans hb1)
   have P2:=hQQ ((tZ (st:=c.st) HQ.o).trans hb2)
   have l1i:(b1:Int)<ws.length:=by omega
   have l2i:(b2:Int)<ws.length:=by omega
   have n12:b1≠b2:=by
    have:=ai.1 HQ.o
    unfold cA at hb1;unfold bA at hb2;omega
   have HSW:Hq (∀(b f:Int) (us:List Int),dP c.pg c.st q b f us=(us.set b2 b).set b1 f):=hQQ fun b f us=>by unfold dP;rw[hb1,hb2];rfl
   have CCW:Hq (∀us:List Int,bH c.pg c.st us q=us.getD b1 0):=hQQ fun us=>by unfold bH;rw[hb1];rfl
   have CBW:Hq (∀us:List Int,cE c.pg c.st us q=us.getD b2 0):=hQQ fun us=>by unfold cE;rw[hb2];rfl
   have HB1:=hQQ hb1
   have HB2:=hQQ hb2
   have YC:=hQQ (fun W=>P1.o▸mM HR.o q W)
   have YB:=hQQ (fun W=>P2.o▸pG HR.o q W)
   clear hb1 hb2 q2 q3 q4 q5
   have KC:Hq (∀W,Turned (fun b=>b=g) w1 W→W.heap[w.heap.size]?=some (.cells c.cells 27 (0,0))):=hQQ fun W t=>(t.block _ (af HC.o) (by omega)).trans HC.o
   have hub:=UB.o
   have t2:IntKind.i64.wrap (c.us+32 * q+0)=c.us+32 * q+0:=aj (by unfold Cfg.us;omega) (by unfold Cfg.us;omega)
   obtain⟨i,hi⟩:∃i:Int,0=i:=⟨_,rfl⟩
   obtain⟨sz,hsz'⟩:∃sz,szV k=sz:=⟨_,rfl⟩
   have hi0:i * sz=0:=by rw[←hi];omega
   have t1:IntKind.i64.wrap (i * sz)=i * sz:=aj (by omega) (by omega)
   have t2:IntKind.i64.wrap (c.us+32 * q+i * sz)=c.us+32 * q+i * sz:=by rw[hi0];exact t2
   rw[show c.us+32 * q=c.us+32 * q+i * sz by omega]
   have AD:=hQQ (pJ HR.o HQ.o)
   obtain⟨adr,hadr⟩:∃adr,c.us+32 * q=adr:=⟨_,rfl⟩
   rw[hadr] at AD t2⊢
   rw[hsz'] at ZS hs1
   obtain⟨U,hU⟩:∃U,V1.set b1 (am k)=U:=⟨_,rfl⟩
   have HUN:Hq (U.length=ws.length):=hQQ (by rw[←hU];simp[n1])
   obtain⟨bt,hbt⟩:∃bt:Int,0=bt:=⟨_,rfl⟩
   obtain⟨f0,hf0⟩:∃f0,am k=f0:=⟨_,rfl⟩
   obtain⟨nb',hnb⟩:∃nb',dQ 0 0=nb':=⟨_,rfl⟩
   have HBT:Hq (U.getD b2 0=bt):=hQQ (by
    have:=CBW.o V1
    rw[hb0] at this
    rw[←hU,←hbt]
    simp[List.getD,List.getElem?_set_ne n12] at this⊢
    exact this.symm)
   have HCT:Hq (U.getD b1 0=f0):=hQQ (by rw[←hU,←hf0];simp[List.getD,n1,l1])
   have YF:=hQQ (fun W=>(show co bt (am k)=i by rw[←hbt,hfz,hi])▸rn bt (am k) W)
   have YT:=hQQ (fun W=>(show dQ bt i=nb' by rw[←hbt,←hi,hnb])▸zx (x:=bt) i (by rw[←hbt];unfold W64;constructor<;>decide) W)
   have LK:Hq (∀W,Ws W g cap ((U.set b2 nb').set b1 (f0-1))→Calls Tryz.prog 148 #[.agg c.cells,.slice (some ⟨g,0,none⟩) ws.length cap,.int .i64 q,.int .i64 k,.int .i64 (f0-1)] W (fun e w'=>e=.returned (.bool (bJ c.pg c.st q k (f0-1) ((U.set b2 nb').set b1 (f0-1))).1)∧Ws w' g cap X∧Turned (fun b=>b=g) W w')):=hQQ (by
    have e:(U.set b2 nb').set b1 (f0-1)=dP c.pg c.st q (dQ 0 0) (am k-1) V1:=by rw[←hU,wg n12,HSW.o,hf0,hnb]
    intro W hW
    refine Cg HR.o (by simp[HUN.o]) HH.o hl (by rw[e];exact M.lt) q k (f0-1) M.m1 (by rw[e,←hf0];exact M.eX) g cap W hW)
   have tf:IntKind.i64.wrap (f0-1)=f0-1:=aj (by omega) (by omega)
   have NV:Hq (V1.length=ws.length):=hQQ n1
   rw[hf0] at YS YF
   have HU:=hQQ hU
   rw[hf0] at HU
   clear hi hi0 hsz hsz' hadr hU hbt hf0 hnb hb0 n1 L1 M hfz hub hq1 hyp hk4 hs hsl
   go_enter Tryz.func130,Tryz.ntmps130
   go_wp2_with fail
   clear e1
   refine(ZS.o _).mono ?_
   rintro e w2 ⟨rfl,h2⟩
   have HL2:=hQQ (h2.block HC.o)
   go_wp2_with (first|(refine aH rfl rfl rfl HL2.o (by kernel_rfl) ?_)|(refine aH rfl rfl rfl HL2.o (by kernel_rfl) ?_))
   refine(FI.o _ (HW.o.more h2)).mono ?_
   rintro e w3 ⟨rfl,h3⟩
   have M3:=hQQ (h2.trans h3)
   have HL3:=hQQ (M3.o.block HC.o)
   clear h2 h3
   go_wp2_with (first|(refine aH rfl rfl rfl HL3.o (by kernel_rfl) ?_)|(refine aH rfl rfl rfl HL3.o (by kernel_rfl) ?_))
   refine(FD.o _ (HW.o.more M3.o)).mono ?_
   rintro e w4 ⟨rfl,h4⟩
   have M4:=hQQ (M3.o.trans h4)
   have HL4:=hQQ (M4.o.block HC.o)
   clear h4
   go_wp2_with (first|(refine aH rfl rfl rfl HL4.o (by kernel_rfl) ?_)|(refine aH rfl rfl rfl HL4.o (by kernel_rfl) ?_))
   refine(TK.o _ (HW.o.more M4.o)).mono ?_
   rintro e wa ⟨rfl,hxa,hta⟩
   have Xa:=hQQ hxa
   have Ta:Hq (Turned (fun b=>b=g) w1 wa):=hQQ ((turned_more M4.o).trans hta)
   have HLa:=hQQ (KC.o _ Ta.o)
   clear hxa hta
   go_wp2_with (first|(refine aH rfl rfl rfl HLa.o (by kernel_rfl) ?_)|(refine aH rfl rfl rfl HLa.o (by kernel_rfl) ?_))
   refine(YC.o _).mono ?_
   rintro e wb ⟨rfl,hb⟩
   have Xb:=hQQ (Xa.o.more hb)
   have Tb:Hq (Turned (fun b=>b=g) w1 wb):=hQQ (Ta.o.trans (turned_more hb))
   clear hb
   go_wp2_with fail
   refine(YS.o _).mono ?_
   rintro e wc ⟨rfl,hc⟩
   have Xc:=hQQ (Xb.o.more hc)
   have Tc:Hq (Turned (fun b=>b=g) w1 wc):=hQQ (Tb.o.trans (turned_more hc))
   clear hc
   have c5:=Xc.o.cell (i:=b1) (by rw[NV.o];exact l1)
   have f5:=Xc.o.froz b1
   have l5:=Xc.o.lt
   obtain⟨w5,e5⟩:∃w5,World.setCell wc ⟨g,b1,none⟩ (.int .i64 f0)=w5:=⟨_,rfl⟩
   have X5:Hq (Ws w5 g cap (V1.set b1 f0)):=hQQ (by rw[←e5];exact Xc.o.set (by rw[NV.o];exact l1) _)
   have T5:Hq (Turned (fun b=>b=g) w1 w5):=hQQ (by rw[←e5];exact Turned.setCell Tc.o _ _ (fun _=>rfl))
   have X5:Hq (Ws w5 g cap U):=hQQ (by rw[←HU.o];exact X5.o)
   go_wp2_with fail
   clear c5 f5 l5 e5
   -- the words U,at w5: X5,T5;its bits bt,its count f0;i the first open one
   have HL5:=hQQ (KC.o _ T5.o)
   have x5:w5.cell? ⟨g,b2,none⟩=some (.int .i64 bt):=by rw[←HBT.o];exact X5.o.cell (by rw[HUN.o];exact l2)
   refine aq 9 (by kernel_rfl) (by kernel_rfl) ?_
   simp only[List.take_succ_cons,List.take_zero,List.drop_succ_cons,List.drop_zero]
   iterate 1
    with_reducible refine wpQuiet_step (fun K hK=>?_)
    go_simp
    first
    |(refine hK _ ?_;clear hK K)
    |(apply Exists.intro
      refine⟨fun W hW=>?_,hK _ ?_⟩
      first
      |(go_simp;try rfl)
      clear hK K)
   refine ae rfl 27 _ rfl _ rfl 27 _ _ _ (fun W hW=>hW.block HL5.o) Tryz.underlying27 rfl (by kernel_rfl) ?_
   iterate 7
    with_reducible refine wpQuiet_step (fun K hK=>?_)
    go_simp
    first
    |(refine hK _ ?_;clear hK K)
    |(apply Exists.intro
      refine⟨fun W hW=>?_,hK _ ?_⟩
      first
      |(go_at_call 52;exact Calls.more hW (YB.o W))
      |(go_at_call 50;exact Calls.more hW (YS.o W))
      |(go_at_call 146;exact Calls.more hW (YF.o W))
      |(have x5':=hW.cell x5;go_simp;try rfl)
      clear hK K)
   refine wpQuiet_nil ?_
   intro w6 h6
   have T6:Hq (Turned (fun b=>b=g) w1 w6):=hQQ (T5.o.trans (turned_more h6))
   have X6:=hQQ (X5.o.more h6)
   have x6:=h6.cell x5
   have HL6:=hQQ (h6.block HL5.o)
   clear h6 x5
   go_wp2_with fail
   refine aq 13 (by kernel_rfl) (by kernel_rfl) ?_
   simp only[List.take_succ_cons,List.take_zero,List.drop_succ_cons,List.drop_zero]
   iterate 1
    with_reducible refine wpQuiet_step (fun K hK=>?_)
    go_simp
    first
    |(refine hK _ ?_;clear hK K)
    |(apply Exists.intro
      refine⟨fun W hW=>?_,hK _ ?_⟩
      first
      |(go_simp;try rfl)
      clear hK K)
   refine ae rfl 27 _ rfl _ rfl 27 _ _ _ (fun W hW=>hW.block HL6.o) Tryz.underlying27 rfl (by kernel_rfl) ?_
   iterate 3
    with_reducible refine wpQuiet_step (fun K hK=>?_)
    go_simp
    first
    |(refine hK _ ?_;clear hK K)
    |(apply Exists.intro
      refine⟨fun W hW=>?_,hK _ ?_⟩
      first
      |(go_at_call 52;exact Calls.more hW (YB.o W))
      |(go_simp;try rfl)
      clear hK K)
   refine ae rfl 27 _ rfl _ rfl 27 _ _ _ (fun W hW=>hW.block HL6.o) Tryz.underlying27 rfl (by kernel_rfl) ?_
   iterate 7
    with_reducible refine wpQuiet_step (fun K hK=>?_)
    go_simp
    first
    |(refine hK _ ?_;clear hK K)
    |(apply Exists.intro
      refine⟨fun W hW=>?_,hK _ ?_⟩
      first
      |(go_at_call 52;exact Calls.more hW (YB.o W))
      |(go_at_call 147;exact Calls.more hW (YT.o W))
      |(have x6':=hW.cell x6;go_simp;try rfl)
      clear hK K)
   refine wpQuiet_nil ?_
   intro w7 h7
   have T7:Hq (Turned (fun b=>b=g) w1 w7):=hQQ (T6.o.trans (turned_more h7))
   have X7:=hQQ (X6.o.more h7)
   clear h7 x6
   have c8:=X7.o.cell (i:=b2) (by rw[HUN.o];exact l2)
   have f8:=X7.o.froz b2
   have l8:=X7.o.lt
   obtain⟨w8,e8⟩:∃w8,World.setCell w7 ⟨g,b2,none⟩ (.int .i64 nb')=w8:=⟨_,rfl⟩
   have X8:Hq (Ws w8 g cap (U.set b2 nb')):=hQQ (by rw[←e8];exact X7.o.set (by rw[HUN.o];exact l2) _)
   have T8:Hq (Turned (fun b=>b=g) w1 w8):=hQQ (by rw[←e8];exact Turned.setCell T7.o _ _ (fun _=>rfl))
   have HL8:=hQQ (KC.o _ T8.o)
   go_wp2_with (first|(refine aH rfl rfl rfl HL8.o (by kernel_rfl) ?_)|(refine aH rfl rfl rfl HL8.o (by kernel_rfl) ?_))
   clear c8 f8 l8 e8
   refine(YC.o _).mono ?_
   rintro e w9 ⟨rfl,h9⟩
   have T9:Hq (Turned (fun b=>b=g) w1 w9):=hQQ (T8.o.trans (turned_more h9))
   have X9:=hQQ (X8.o.more h9)
   clear h9
   have x9:w9.cell? ⟨g,b1,none⟩=some (.int .i64 f0):=by
    have:=X9.o.cell (i:=b1) (by simp[HUN.o];exact l1)
    rw[this];congr 2
    rw[←HCT.o];simp[List.getD,List.getElem?_set_ne (Ne.symm n12)]
   have c10:=X9.o.cell (i:=b1) (by simp[HUN.o];exact l1)
   have f10:=X9.o.froz b1
   have l10:=X9.o.lt
   obtain⟨w10,e10⟩:∃w10,World.setCell w9 ⟨g,b1,none⟩ (.int .i64 (f0-1))=w10:=⟨_,rfl⟩
   have X10:Hq (Ws w10 g cap ((U.set b2 nb').set b1 (f0-1))):=hQQ (by rw[←e10];exact X9.o.set (by simp[HUN.o];exact l1) _)
   have T10:Hq (Turned (fun b=>b=g) w1 w10):=hQQ (by rw[←e10];exact Turned.setCell T9.o _ _ (fun _=>rfl))
   clear c10
   have HL10:=hQQ (KC.o _ T10.o)
   go_wp2_with fail
   clear x9 f10 l10 e10
   have x10:w10.cell? ⟨g,b1,none⟩=some (.int .i64 (f0-1)):=by
    have:=X10.o.cell (i:=b1) (by simp[HUN.o];exact l1)
    rw[this];congr 2
    simp[List.getD,HUN.o,l1]
   refine aq 10 (by kernel_rfl) (by kernel_rfl) ?_
   simp only[List.take_succ_cons,List.take_zero,List.drop_succ_cons,List.drop_zero]
   refine ae rfl 27 _ rfl _ rfl 27 _ _ _ (fun W hW=>hW.block HL10.o) Tryz.underlying27 rfl (by kernel_rfl) ?_
   iterate 4
    with_reducible refine wpQuiet_step (fun K hK=>?_)
    go_simp
    first
    |(refine hK _ ?_;clear hK K)
    |(apply Exists.intro
      refine⟨fun W hW=>?_,hK _ ?_⟩
      first
      |(go_simp;try rfl)
      clear hK K)
   refine ae rfl 27 _ rfl _ rfl 27 _ _ _ (fun W hW=>hW.block HL10.o) Tryz.underlying27 rfl (by kernel_rfl) ?_
   iterate 4
    with_reducible refine wpQuiet_step (fun K hK=>?_)
    go_simp
    first
    |(refine hK _ ?_;clear hK K)
    |(apply Exists.intro
      refine⟨fun W hW=>?_,hK _ ?_⟩
      first
      |(go_at_call 48;exact Calls.more hW (YC.o W))
      |(have xc':=hW.cell x10;go_simp;try rfl)
      clear hK K)
   refine wpQuiet_nil ?_
   intro w11 h11
   have T11:Hq (Turned (fun b=>b=g) w1 w11):=hQQ (T10.o.trans (turned_more h11))
   have X11:=hQQ (X10.o.more h11)
   clear h11 x10
   go_wp2_with fail
   refine(LK.o w11 X11.o).mono ?_
   rintro e w12 ⟨rfl,hx12,ht12⟩
   have X12:=hQQ hx12
   have T12:Hq (Turned (fun b=>b=g) w1 w12):=hQQ (T11.o.trans ht12)
   have HL12:=hQQ (KC.o _ T12.o)
   clear hx12 ht12
   go_wp2_with (first|(refine aH rfl rfl rfl HL12.o (by kernel_rfl) ?_)|(refine aH rfl rfl rfl HL12.o (by kernel_rfl) ?_))
   refine(AD.o w12).mono ?_
   rintro e w13 ⟨rfl,h13⟩
   have X13:=hQQ (X12.o.more h13)
   have T13:Hq (Turned (fun b=>b=g) w1 w13):=hQQ (T12.o.trans (turned_more h13))
   clear h13
   go_wp2_with fail
   refine(ZS.o w13).mono ?_
   rintro e w14 ⟨rfl,h14⟩
   have FIN:Hq (Ws w14 g cap X∧Turned (fun b=>b=g) w w14):=hQQ ⟨X13.o.more h14,(turned_more HM.o).trans (T13.o.trans (turned_more h14))⟩
   clear h14
   go_wp2_with fail
   go_ret2
   exact⟨rfl,FIN.o.1,FIN.o.2⟩
 ·obtain⟨x,hxx⟩:∃x,aY c.pg c.st k (am k).toNat 1 ws=x:=⟨_,rfl⟩
  rw[hxx] at FI hfb hx
  obtain⟨j,G1,G2,V1,X,hyp,hk0,hc1,_,hj1,hj2,hj3,M,hg,_⟩:=mI H c.us hs P rfl hxx hx
  rw[hg]
  obtain⟨q,hq⟩:∃q,x=q:=⟨_,rfl⟩
  rw[hq] at FI hyp hk0 hc1 hj1 hj3 M⊢
  have hq1:=ai.1 hyp
  have pgb:=R.pg2
  have hcb:=M.o1.cnt H hyp
  have hbb:=M.o1.bit H hyp
  have UL:=hQQ (fun W (hW:Ws W g cap ws)=>by have:=tg R ws H hl P.ln q k (bH c.pg c.st ws q) g cap W hW;rw[M.eu] at this;exact this)
  have d0:decide (q<0)=false:=by simp;omega
  have HQ:=hQQ hyp
  have HWB:=hQQ (uo ho (bA c.pg c.st q))
  have hkc:=(P.f.cnt q hyp (by omega)).2
  have hkd:=dV (aE c.pg c.st ws q-1)
  clear hq hxx hx hfb ho P hk0 hg
  have hc:=aI w c.cells 27
  have HR:=hQQ R
  have HH:=hQQ H
  have hgl:=hw.lt
  obtain⟨w1,e1⟩:∃w1,w.alloc (.cells c.cells 27)=w1:=⟨_,rfl⟩
  have m1:ac w w1:=by rw[←e1];exact(ac.refl w).alloc _
  rw[e1] at hc
  have HC:=hQQ hc
  have HM:=hQQ m1
  have HW:=hQQ (hw.more m1)
  have x2:w1.cell? ⟨w.heap.size,2,none⟩=some (.int .i64 c.pg):=aB hc (ac.refl _) rfl
  have X2:=hQQ x2
  have pg1:=R.pg1
  have pg2:=R.pg2
  clear x2 m1 hw R H hc
  obtain⟨_,⟨q2,q3,_⟩,q4,q5,_⟩:=cH HH.o.toPgIn HQ.o
  obtain⟨b1,hb1⟩:∃b:Nat,cA c.pg c.st q=(b:Int):=⟨(cA c.pg c.st q).toNat,by omega⟩
  obtain⟨b2,hb2⟩:∃b:Nat,bA c.pg c.st q=(b:Int):=⟨(bA c.pg c.st q).toNat,by omega⟩
  have l1:b1<ws.length:=by omega
  have l2:b2<ws.length:=by omega
  have P1:=hQQ ((tY (st:=c.st) HQ.o).trans hb1)
  have P2:=hQQ ((tZ (st:=c.st) HQ.o).trans hb2)
  have l1i:(b1:Int)<ws.length:=by omega
  have l2i:(b2:Int)<ws.length:=by omega
  have n12:b1≠b2:=by
   have:=ai.1 HQ.o
   unfold cA at hb1;unfold bA at hb2;omega
  have HSW:Hq (∀(b f:Int) (us:List Int),dP c.pg c.st q b f us=(us.set b2 b).set b1 f):=hQQ fun b f us=>by unfold dP;rw[hb1,hb2];rfl
  have CCW:Hq (∀us:List Int,bH c.pg c.st us q=us.getD b1 0):=hQQ fun us=>by unfold bH;rw[hb1];rfl
  have CBW:Hq (∀us:List Int,cE c.pg c.st us q=us.getD b2 0):=hQQ fun us=>by unfold cE;rw[hb2];rfl
  have HB1:=hQQ hb1
  have HB2:=hQQ hb2
  have YC:=hQQ (fun W=>P1.o▸mM HR.o q W)
  have YB:=hQQ (fun W=>P2.o▸pG HR.o q W)
  clear hb1 hb2 q2 q3 q4 q5
  have KC:Hq (∀W,Turned (fun b=>b=g) w1 W→W.heap[w.heap.size]?=some (.cells c.cells 27 (0,0))):=hQQ fun W t=>(t.block _ (af HC.o) (by omega)).trans HC.o
  have hub:=UB.o
  obtain⟨i,hi⟩:∃i:Int,(j:Int)=i:=⟨_,rfl⟩
  rw[hi] at hj1 hj2 M⊢
  have hi2:0≤i∧i≤31:=by omega
  obtain⟨sz,hsz'⟩:∃sz,szV k=sz:=⟨_,rfl⟩
  rw[hsz'] at ZS hs1 hsz⊢
  have hb1:0≤i * sz:=Int.mul_nonneg hi2.1 hsz.1
  have hb2:i * sz≤31 * 16:=Int.mul_le_mul hi2.2 hsz.2 hsz.1 (by omega)
  have t1:IntKind.i64.wrap (i * sz)=i * sz:=aj (by omega) (by omega)
  have t2:IntKind.i64.wrap (c.us+32 * q+i * sz)=c.us+32 * q+i * sz:=aj (by unfold Cfg.us;omega) (by unfold Cfg.us;omega)
  have AD:=hQQ (pJ HR.o HQ.o)
  obtain⟨adr,hadr⟩:∃adr,c.us+32 * q=adr:=⟨_,rfl⟩
  rw[hadr] at AD t2⊢
  obtain⟨U,hU⟩:∃U,V1=U:=⟨_,rfl⟩
  rw[hU] at UL M hcb hbb
  have HUN:Hq (U.length=ws.length):=hQQ M.nu
  obtain⟨bt,hbt⟩:∃bt:Int,cE c.pg c.st ws q=bt:=⟨_,rfl⟩
  obtain⟨f0,hf0⟩:∃f0,bH c.pg c.st ws q=f0:=⟨_,rfl⟩
  have HWB':Hq (W64 bt):=hQQ (by rw[←hbt];exact HWB.o)
  rw[hbt] at hj1 hj3 M hbb
  rw[hf0] at M hcb hc1 hkc UL
  obtain⟨nb',hnb⟩:∃nb',dQ bt i=nb':=⟨_,rfl⟩
  rw[hnb] at M
  have HBT:Hq (U.getD b2 0=bt):=hQQ (by rw[←CBW.o U];exact hbb)
  have HCT:Hq (U.getD b1 0=f0):=hQQ (by rw[←CCW.o U];exact hcb)
  have xw1:ws.getD b1 0=f0:=by rw[←CCW.o ws];exact hf0
  have XW1:=hQQ xw1
  have YF:=hQQ (fun W=>hj1▸rn bt (am k) W)
  have YT:=hQQ (fun W=>hnb▸zx (x:=bt) i HWB'.o W)
  have LK:Hq (∀W,Ws W g cap ((U.set b2 nb').set b1 (f0-1))→Calls Tryz.prog 148 #[.agg c.cells,.slice (some ⟨g,0,none⟩) ws.length cap,.int .i64 q,.int .i64 k,.int .i64 (f0-1)] W (fun e w'=>e=.returned (.bool (bJ c.pg c.st q k (f0-1) ((U.set b2 nb').set b1 (f0-1))).1)∧Ws w' g cap X∧Turned (fun b=>b=g) W w')):=hQQ (by
   have e:(U.set b2 nb').set b1 (f0-1)=dP c.pg c.st q nb' (f0-1) U:=by rw[HSW.o]
   intro W hW
   refine Cg HR.o (by simp[HUN.o]) HH.o hl (by rw[e];exact M.lt) q k (f0-1) M.m1 (by rw[e];exact M.eX) g cap W hW)
  have tf:IntKind.i64.wrap (f0-1)=f0-1:=aj (by omega) (by omega)
  obtain⟨slk,hslk⟩:∃slk,am k=slk:=⟨_,rfl⟩
  rw[hslk] at YS YF
  clear hi hsz hsz' hadr hU hbt hf0 hnb M hub hq1 hyp hk4 hs hsl hj1 hj2 hj3 hb1 hb2 hi2 hcb hbb hc1 hslk xw1 HWB hkc hkd
  go_enter Tryz.func130,Tryz.ntmps130
  go_wp2_with fail
  clear e1
  refine(ZS.o _).mono ?_
  rintro e w2 ⟨rfl,h2⟩
  have HL2:=hQQ (h2.block HC.o)
  go_wp2_with (first|(refine aH rfl rfl rfl HL2.o (by kernel_rfl) ?_)|(refine aH rfl rfl rfl HL2.o (by kernel_rfl) ?_))
  refine(FI.o _ (HW.o.more h2)).mono ?_
  rintro e w3 ⟨rfl,h3⟩
  have M3:=hQQ (h2.trans h3)
  have HL3:=hQQ (M3.o.block HC.o)
  have T3:Hq (Turned (fun b=>b=g) w1 w3):=hQQ (turned_more M3.o)
  have X3:=hQQ (HW.o.more M3.o)
  have x3:w3.cell? ⟨g,b1,none⟩=some (.int .i64 f0):=by rw[←XW1.o];exact X3.o.cell l1
  clear h2 h3
  go_wp2_with fail
  refine aq 10 (by kernel_rfl) (by kernel_rfl) ?_
  simp only[List.take_succ_cons,List.take_zero,List.drop_succ_cons,List.drop_zero]
  refine ae rfl 27 _ rfl _ rfl 27 _ _ _ (fun W hW=>hW.block HL3.o) Tryz.underlying27 rfl (by kernel_rfl) ?_
  iterate 4
   with_reducible refine wpQuiet_step (fun K hK=>?_)
   go_simp
   first
   |(refine hK _ ?_;clear hK K)
   |(apply Exists.intro
     refine⟨fun W hW=>?_,hK _ ?_⟩
     first
     |(go_simp;try rfl)
     clear hK K)
  refine ae rfl 27 _ rfl _ rfl 27 _ _ _ (fun W hW=>hW.block HL3.o) Tryz.underlying27 rfl (by kernel_rfl) ?_
  iterate 4
   with_reducible refine wpQuiet_step (fun K hK=>?_)
   go_simp
   first
   |(refine hK _ ?_;clear hK K)
   |(apply Exists.intro
     refine⟨fun W hW=>?_,hK _ ?_⟩
     first
     |(go_at_call 48;exact Calls.more hW (YC.o W))
     |(have xc':=hW.cell x3;go_simp;try rfl)
     clear hK K)
  refine wpQuiet_nil ?_
  intro w4 h4
  have T4:Hq (Turned (fun b=>b=g) w1 w4):=hQQ (T3.o.trans (turned_more h4))
  have X4:=hQQ (X3.o.more h4)
  clear h4 x3
  go_wp2_with fail
  refine(UL.o w4 X4.o).mono ?_
  rintro e w5 ⟨rfl,hx5,ht5⟩
  have X5:=hQQ hx5
  have T5:Hq (Turned (fun b=>b=g) w1 w5):=hQQ (T4.o.trans ht5)
  clear hx5 ht5
  go_wp2_with fail
  -- the words U,at w5: X5,T5;its bits bt,its count f0;i the first open one
  have HL5:=hQQ (KC.o _ T5.o)
  have x5:w5.cell? ⟨g,b2,none⟩=some (.int .i64 bt):=by rw[←HBT.o];exact X5.o.cell (by rw[HUN.o];exact l2)
  refine aq 9 (by kernel_rfl) (by kernel_rfl) ?_
  simp only[List.take_succ_cons,List.take_zero,List.drop_succ_cons,List.drop_zero]
  iterate 1
   with_reducible refine wpQuiet_step (fun K hK=>?_)
   go_simp
   first
   |(refine hK _ ?_;clear hK K)
   |(apply Exists.intro
     refine⟨fun W hW=>?_,hK _ ?_⟩
     first
     |(go_simp;try rfl)
     clear hK K)
  refine ae rfl 27 _ rfl _ rfl 27 _ _ _ (fun W hW=>hW.block HL5.o) Tryz.underlying27 rfl (by kernel_rfl) ?_
  iterate 7
   with_reducible refine wpQuiet_step (fun K hK=>?_)
   go_simp
   first
   |(refine hK _ ?_;clear hK K)
   |(apply Exists.intro
     refine⟨fun W hW=>?_,hK _ ?_⟩
     first
     |(go_at_call 52;exact Calls.more hW (YB.o W))
     |(go_at_call 50;exact Calls.more hW (YS.o W))
     |(go_at_call 146;exact Calls.more hW (YF.o W))
     |(have x5':=hW.cell x5;go_simp;try rfl)
     clear hK K)
  refine wpQuiet_nil ?_
  intro w6 h6
  have T6:Hq (Turned (fun b=>b=g) w1 w6):=hQQ (T5.o.trans (turned_more h6))
  have X6:=hQQ (X5.o.more h6)
  have x6:=h6.cell x5
  have HL6:=hQQ (h6.block HL5.o)
  clear h6 x5
  go_wp2_with fail
  refine aq 13 (by kernel_rfl) (by kernel_rfl) ?_
  simp only[List.take_succ_cons,List.take_zero,List.drop_succ_cons,List.drop_zero]
  iterate 1
   with_reducible refine wpQuiet_step (fun K hK=>?_)
   go_simp
   first
   |(refine hK _ ?_;clear hK K)
   |(apply Exists.intro
     refine⟨fun W hW=>?_,hK _ ?_⟩
     first
     |(go_simp;try rfl)
     clear hK K)
  refine ae rfl 27 _ rfl _ rfl 27 _ _ _ (fun W hW=>hW.block HL6.o) Tryz.underlying27 rfl (by kernel_rfl) ?_
  iterate 3
   with_reducible refine wpQuiet_step (fun K hK=>?_)
   go_simp
   first
   |(refine hK _ ?_;clear hK K)
   |(apply Exists.intro
     refine⟨fun W hW=>?_,hK _ ?_⟩
     first
     |(go_at_call 52;exact Calls.more hW (YB.o W))
     |(go_simp;try rfl)
     clear hK K)
  refine ae rfl 27 _ rfl _ rfl 27 _ _ _ (fun W hW=>hW.block HL6.o) Tryz.underlying27 rfl (by kernel_rfl) ?_
  iterate 7
   with_reducible refine wpQuiet_step (fun K hK=>?_)
   go_simp
   first
   |(refine hK _ ?_;clear hK K)
   |(apply Exists.intro
     refine⟨fun W hW=>?_,hK _ ?_⟩
     first
     |(go_at_call 52;exact Calls.more hW (YB.o W))
     |(go_at_call 147;exact Calls.more hW (YT.o W))
     |(have x6':=hW.cell x6;go_simp;try rfl)
     clear hK K)
  refine wpQuiet_nil ?_
  intro w7 h7
  have T7:Hq (Turned (fun b=>b=g) w1 w7):=hQQ (T6.o.trans (turned_more h7))
  have X7:=hQQ (X6.o.more h7)
  clear h7 x6
  have c8:=X7.o.cell (i:=b2) (by rw[HUN.o];exact l2)
  have f8:=X7.o.froz b2
  have l8:=X7.o.lt
  obtain⟨w8,e8⟩:∃w8,World.setCell w7 ⟨g,b2,none⟩ (.int .i64 nb')=w8:=⟨_,rfl⟩
  have X8:Hq (Ws w8 g cap (U.set b2 nb')):=hQQ (by rw[←e8];exact X7.o.set (by rw[HUN.o];exact l2) _)
  have T8:Hq (Turned (fun b=>b=g) w1 w8):=hQQ (by rw[←e8];exact Turned.setCell T7.o _ _ (fun _=>rfl))
  have HL8:=hQQ (KC.o _ T8.o)
  go_wp2_with (first|(refine aH rfl rfl rfl HL8.o (by kernel_rfl) ?_)|(refine aH rfl rfl rfl HL8.o (by kernel_rfl) ?_))
  clear c8 f8 l8 e8
  refine(YC.o _).mono ?_
  rintro e w9 ⟨rfl,h9⟩
  have T9:Hq (Turned (fun b=>b=g) w1 w9):=hQQ (T8.o.trans (turned_more h9))
  have X9:=hQQ (X8.o.more h9)
  clear h9
  have x9:w9.cell? ⟨g,b1,none⟩=some (.int .i64 f0):=by
   have:=X9.o.cell (i:=b1) (by simp[HUN.o];exact l1)
   rw[this];congr 2
   rw[←HCT.o];simp[List.getD,List.getElem?_set_ne (Ne.symm n12)]
  have c10:=X9.o.cell (i:=b1) (by simp[HUN.o];exact l1)
  have f10:=X9.o.froz b1
  have l10:=X9.o.lt
  obtain⟨w10,e10⟩:∃w10,World.setCell w9 ⟨g,b1,none⟩ (.int .i64 (f0-1))=w10:=⟨_,rfl⟩
  have X10:Hq (Ws w10 g cap ((U.set b2 nb').set b1 (f0-1))):=hQQ (by rw[←e10];exact X9.o.set (by simp[HUN.o];exact l1) _)
  have T10:Hq (Turned (fun b=>b=g) w1 w10):=hQQ (by rw[←e10];exact Turned.setCell T9.o _ _ (fun _=>rfl))
  clear c10
  have HL10:=hQQ (KC.o _ T10.o)
  go_wp2_with fail
  clear x9 f10 l10 e10
  have x10:w10.cell? ⟨g,b1,none⟩=some (.int .i64 (f0-1)):=by
   have:=X10.o.cell (i:=b1) (by simp[HUN.o];exact l1)
   rw[this];congr 2
   simp[List.getD,HUN.o,l1]
  refine aq 10 (by kernel_rfl) (by kernel_rfl) ?_
  simp only[List.take_succ_cons,List.take_zero,List.drop_succ_cons,List.drop_zero]
  refine ae rfl 27 _ rfl _ rfl 27 _ _ _ (fun W hW=>hW.block HL10.o) Tryz.underlying27 rfl (by kernel_rfl) ?_
  iterate 4
   with_reducible refine wpQuiet_step (fun K hK=>?_)
   go_simp
   first
   |(refine hK _ ?_;clear hK K)
   |(apply Exists.intro
     refine⟨fun W hW=>?_,hK _ ?_⟩
     first
     |(go_simp;try rfl)
     clear hK K)
  refine ae rfl 27 _ rfl _ rfl 27 _ _ _ (fun W hW=>hW.block HL10.o) Tryz.underlying27 rfl (by kernel_rfl) ?_
  iterate 4
   with_reducible refine wpQuiet_step (fun K hK=>?_)
   go_simp
   first
   |(refine hK _ ?_;clear hK K)
   |(apply Exists.intro
     refine⟨fun W hW=>?_,hK _ ?_⟩
     first
     |(go_at_call 48;exact Calls.more hW (YC.o W))
     |(have xc':=hW.cell x10;go_simp;try rfl)
     clear hK K)
  refine wpQuiet_nil ?_
  intro w11 h11
  have T11:Hq (Turned (fun b=>b=g) w1 w11):=hQQ (T10.o.trans (turned_more h11))
  have X11:=hQQ (X10.o.more h11)
  clear h11 x10
  go_wp2_with fail
  refine(LK.o w11 X11.o).mono ?_
  rintro e w12 ⟨rfl,hx12,ht12⟩
  have X12:=hQQ hx12
  have T12:Hq (Turned (fun b=>b=g) w1 w12):=hQQ (T11.o.trans ht12)
  have HL12:=hQQ (KC.o _ T12.o)
  clear hx12 ht12
  go_wp2_with (first|(refine aH rfl rfl rfl HL12.o (by kernel_rfl) ?_)|(refine aH rfl rfl rfl HL12.o (by kernel_rfl) ?_))
  refine(AD.o w12).mono ?_
  rintro e w13 ⟨rfl,h13⟩
  have X13:=hQQ (X12.o.more h13)
  have T13:Hq (Turned (fun b=>b=g) w1 w13):=hQQ (T12.o.trans (turned_more h13))
  clear h13
  go_wp2_with fail
  refine(ZS.o w13).mono ?_
  rintro e w14 ⟨rfl,h14⟩
  have FIN:Hq (Ws w14 g cap X∧Turned (fun b=>b=g) w w14):=hQQ ⟨X13.o.more h14,(turned_more HM.o).trans (T13.o.trans (turned_more h14))⟩
  clear h14
  go_wp2_with fail
  go_ret2
  exact⟨rfl,FIN.o.1,FIN.o.2⟩
def C5 (w:World)(xs:List Int)(e:Ending)(w':World):Prop:=∃a cap,e=.returned (.slice a xs.length cap)∧RowAt w' 3 (xs.map (Value.int .i64)) a cap∧(∀k,eA a k→w.heap.size≤k)∧ac w w'
theorem rp {w:World}{g cap:Nat}{ws xs:List Int}{b l:Int}(hw:Ws w g cap ws)(H:kx b l ws.length)(K:ey ws b l xs):hO w (some ⟨g,(b+1).toNat,none⟩) xs:=by
 by_cases h0:xs= []
 ·exact .inl h0
 ·refine .inr ⟨g,(b+1).toNat,rfl,hw.lt,fun j hj=>?_⟩
  have hf:=K.fit
  have h1:=K.at' j hj
  have:=H.b1;have:=H.hi
  have:=H.top
  have h2:=hw.cell (i:=(b+1).toNat+j) (by omega)
  rw[h2]
  have e:(b+1+(j:Int))=(((b+1).toNat+j:Nat):Int):=by omega
  rw[e] at h1
  have h1:ws.getD ((b+1).toNat+j) 0=xs.getD j 0:=h1
  rw[h1]
theorem pK (ws:List Int)(hl:ws.length≤1000){b l:Int}(H:kx b l ws.length){xs:List Int}(K:ey ws b l xs)(hb2:b+1<ws.length)(g cap:Nat)(w:World)(hw:Ws w g cap ws):
 Calls Tryz.prog 100 #[.slice (some ⟨g,0,none⟩) ws.length cap,.int .i64 b,.int .i64 l] w (C5 w xs):=by
 have b1:=H.b1
 have l0:=H.l0
 have top:=H.top;have hhi:=H.hi
 have hf:=K.fit
 have hc:=K.cnt
 obtain⟨m,rfl⟩:∃m:Nat,b=(m:Int):=⟨b.toNat,by omega⟩
 have hcap:ws.length≤cap:=by obtain⟨_,_,h,_⟩:=hw;exact h
 have hm:m<ws.length:=by omega
 have x0:=hw.cell hm
 have e0:ws.getD m 0=(xs.length:Int):=hc
 rw[e0] at x0
 have d0:decide ((m:Int)<1)=false:=by simp;omega
 have d0b:decide (m<1)=false:=by simp;omega
 have d1:decide (l<0)=false:=by simp;omega
 have d2:decide ((xs.length:Int)<0)=false:=by simp
 have d3:decide (l<(xs.length:Int))=false:=by simp;omega
 have d4:m<cap:=by omega
 have q1:IntKind.i64.wrap ((m:Int)+1)=(m:Int)+1:=aj (by omega) (by omega)
 have q2:IntKind.i64.wrap ((m:Int)+1+(xs.length:Int))=(m:Int)+1+(xs.length:Int):=aj (by omega) (by omega)
 have hne:¬(cap=m+1):=by omega
 have hne2:(cap==m+1)=false:=by simpa using hne
 have KW0:=hQQ (show hO w (some ⟨g,m+1,none⟩) xs from by have:=rp hw H K;rwa [show((m:Int)+1).toNat=m+1 by omega] at this)
 have hlm:xs.length≤1000000:=by omega
 have x1:(w.alloc (.cells #[] 3)).cell? ⟨g,m,none⟩=some (.int .i64 (xs.length:Int)):=((ac.refl w).alloc _).cell x0
 go_enter Tryz.func100,Tryz.ntmps100
 go_wp2_with (at_builtin;go_must (refine pj (zs:=xs) (a:=some ⟨g,m+1,none⟩) (cap:=cap-(m+1)) rfl _ _ rfl rfl (by show Value.slice _ (m+1+xs.length-(m+1)) _=_;rw[Nat.add_sub_cancel_left]) KW0.o hlm ?_;intro a9 cap9 w9 hr9 hn9 hm9))
 go_ret
 exact⟨_,_,rfl,hr9,hn9,hm9⟩
theorem uz (ws:List Int)(hl:ws.length≤1000){b l:Int}(H:kx b l ws.length){xs:List Int}(K:ey ws b l xs)(hb2:b+1<ws.length)(g cap:Nat)(w:World)(hw:Ws w g cap ws):
 Calls Tryz.prog 128 #[.slice (some ⟨g,0,none⟩) ws.length cap,.int .i64 b,.int .i64 l] w (vZ w g cap (.tuple #[.int .i64 (cF b l ws).1.1,.bool (cF b l ws).1.2]) (cF b l ws).2):=by
 have b1:=H.b1
 have l0:=H.l0
 have hhi:=H.hi
 have hf:=K.fit
 have hk:=K.kept
 have AL:=hQQ (fun W (h:ac w W)=>pK ws hl H K hb2 g cap W (hw.more h))
 unfold cF
 simp only[hk]
 obtain⟨m,rfl⟩:∃m:Nat,b=(m:Int):=⟨b.toNat,by omega⟩
 have hcap:ws.length≤cap:=by obtain⟨_,_,h,_⟩:=hw;exact h
 by_cases h0:0<(xs.length:Int)
 ·rw[if_pos h0]
  obtain⟨j,hj⟩:∃j:Nat,xs.length=j+1:=⟨xs.length-1,by omega⟩
  have hi2:m<ws.length:=by omega
  have ha:=K.at' j (by omega)
  have e1:wAt ws ((m:Int)+(xs.length:Int))=xs.getD j 0:=by rw[←ha];congr 1;omega
  have d2:decide ((xs.length:Int)=0)=false:=decide_eq_false (by omega)
  have d3:((xs.length:Int)==0)=false:=beq_eq_false_iff_ne.2 (by omega)
  have q3:IntKind.i64.wrap ((xs.length:Int)-1)=(j:Int):=by rw[show(xs.length:Int)-1=(j:Int) by omega];exact aj (by omega) (by omega)
  have e2:((m:Int)).toNat=m:=by omega
  have e3:(xs.length:Int)-1=(j:Int):=by omega
  rw[e1,e2,e3]
  have hjl:j<xs.length:=by omega
  obtain⟨y,hy⟩:∃y,xs.getD j 0=y:=⟨_,rfl⟩
  rw[hy]
  have FIN:Hq (∀W,ac w W→Ws (W.setCell ⟨g,m,none⟩ (.int .i64 (j:Int))) g cap (ws.set m (j:Int))∧Turned (fun k=>k=g) w (W.setCell ⟨g,m,none⟩ (.int .i64 (j:Int)))):=hQQ fun W hW =>
   ⟨(hw.more hW).set hi2 _,Turned.setCell (S:=fun k=>k=g) (Turned.mono hW (fun _ _ q=>q.elim)) ⟨g,m,none⟩ _ (fun _=>rfl)⟩
  have FZ:=hQQ (fun W (h:ac w W)=>(hw.more h).froz)
  have CE:=hQQ (fun W (h:ac w W)=>(hw.more h).cell hi2)
  have GL:=hQQ hw.lt
  have HY:=hQQ hy
  have HJ:=hQQ hj
  clear hw e1 ha hy
  go_enter Tryz.func128,Tryz.ntmps128
  go_wp2_with fail
  refine(AL.o _ (ac.refl w)).mono ?_
  rintro e w1 ⟨a1,c1,rfl,hr1,hn1,hm1⟩
  have x1:=CE.o _ hm1
  have y1:=FZ.o _ hm1 m
  have F1:=hQQ (FIN.o _ hm1)
  have RD:Hq (∃g2,a1=some ⟨g2,0,none⟩∧(w1.setCell ⟨g,m,none⟩ (.int .i64 (j:Int))).cell? ⟨g2,j,none⟩=some (.int .i64 y)):=hQQ (by
   have R1:Rw w.heap.size w1 (.slice a1 xs.length c1) xs:=by
    have:=hr1.own hn1
    rw[List.length_map] at this
    exact this
   obtain⟨a2,c2,e2,hr⟩:=R1.reads
   cases e2
   obtain⟨g2,rfl,h1,h2,h3⟩:=hr j hjl
   refine⟨g2,rfl,?_⟩
   have hne:g2≠g:=fun e=>by have:=GL.o;omega
   have hb:=(Turned.setCell (S:=fun k=>k=g) (Turned.refl _ w1) ⟨g,m,none⟩ (.int .i64 (j:Int)) (fun _=>rfl)).block g2 h2 hne
   rw[World.cell?_of_block hb,h3 j hjl,HY.o])
  clear hr1 hn1 hm1 FIN CE FZ AL
  obtain⟨g2,rfl,x2⟩:=RD.o
  go_wp2_with fail
  go_ret2
  exact⟨rfl,F1.o.1,F1.o.2⟩
 ·have hx:xs.length=0:=by omega
  rw[if_neg h0]
  have d2:decide ((xs.length:Int)=0)=true:=decide_eq_true (by omega)
  have d3:((xs.length:Int)==0)=true:=beq_iff_eq.2 (by omega)
  have FIN:Hq (∀W,ac w W→vZ w g cap (.tuple #[.int .i64 0,.bool false]) ws (.returned (.tuple #[.int .i64 0,.bool false])) W):=hQQ fun W hW=>⟨rfl,hw.more hW,Turned.mono hW (fun _ _ q=>q.elim)⟩
  have HX:=hQQ hx
  clear hw hx h0
  go_enter Tryz.func128,Tryz.ntmps128
  go_wp2_with fail
  refine(AL.o _ (ac.refl w)).mono ?_
  rintro e w1 ⟨a1,c1,rfl,hr1,hn1,hm1⟩
  have F1:=hQQ (FIN.o _ hm1)
  clear hr1 hn1 hm1 FIN AL
  go_wp2_with fail
  go_ret2
  exact F1.o
section
variable {pg st:Int}{n:Nat}(H:dh pg st n)
include H
end
section
variable {pg st:Int}{n:Nat}(H:dh pg st n)
include H
theorem ol:PgW pg st (fun _=> []) (cC n):=by
 have hz:∀i:Int,wAt (cC n) i=0:=fun i=>by
  unfold wAt cC
  simp only[List.getD,List.getElem?_replicate]
  split<;>rfl
 have hk:∀p,ah pg p=true→aE pg st (cC n) p=0:=fun p hp=>by unfold aE;rw[if_pos hp];exact hz _
 have hl:∀p,aE pg st (cC n) p≤0:=fun p=>by
  cases hp:ah pg p with
  |true=>rw[hk p hp];omega
  |false=>rw[dA hp];omega
 refine⟨za H,⟨⟨fun p hp=>by rw[hk p hp];omega,fun p e=>(by have:=hl p;omega),fun p e=>(by have:=hl p;omega),fun p _=>⟨hz _,hz _⟩,fun p hp h=>absurd (hk p hp) h⟩,fun p hp h=>?_,fun a p ha=>⟨fun h=>(by cases h),fun h=>?_⟩⟩⟩
 ·rw[hk p hp] at h;omega
 ·have:=hk p h.1;have:=h.2.1;omega
end
theorem zA {k:Int} :szV k=0↔am k=0:=by
 unfold szV am
 (repeat' split)<;>simp
section
variable {pg st:Int}{n:Nat}(H:dh pg st n)
include H
end
theorem zB {us pg st:Int}{ws:List Int}{q k:Int}{j:Nat}(hq:ah pg q=true)(hk:0≤k∧k≤4)(hj:(j:Int)<am k)(ek:aE pg st ws q=k+1):
 kQ us pg st (us+32 * q+j * szV k) ws=some (q,k,(j:Int),eS (cE pg st ws q) j):=by
 have hp:=ai.1 hq
 obtain⟨z,rfl⟩:∃z:Nat,k=(z:Int):=⟨k.toNat,by omega⟩
 have hz4:z=0∨z=1∨z=2∨z=3∨z=4:=by omega
 have key:am (z:Int)≠0∧0<szV (z:Int)∧0≤(j:Int) * szV (z:Int)∧(j:Int) * szV (z:Int)<32:=by
  rcases hz4 with rfl|rfl|rfl|rfl|rfl
  ·have hj:(j:Int)<32:=hj
   refine⟨by decide,by decide,?_,?_⟩<;>(show _;simp only[show szV ((0:Nat):Int)=1 from rfl];omega)
  ·have hj:(j:Int)<16:=hj
   refine⟨by decide,by decide,?_,?_⟩<;>(show _;simp only[show szV ((1:Nat):Int)=2 from rfl];omega)
  ·have hj:(j:Int)<8:=hj
   refine⟨by decide,by decide,?_,?_⟩<;>(show _;simp only[show szV ((2:Nat):Int)=4 from rfl];omega)
  ·have hj:(j:Int)<4:=hj
   refine⟨by decide,by decide,?_,?_⟩<;>(show _;simp only[show szV ((3:Nat):Int)=8 from rfl];omega)
  ·have hj:(j:Int)<2:=hj
   refine⟨by decide,by decide,?_,?_⟩<;>(show _;simp only[show szV ((4:Nat):Int)=16 from rfl];omega)
 obtain⟨k1,k2,k3,k4⟩:=key
 have hd:(j:Int) * szV (z:Int) / szV (z:Int)=(j:Int):=Int.mul_ediv_cancel _ (by omega)
 have hm:(j:Int) * szV (z:Int) % szV (z:Int)=0:=Int.mul_emod_left _ _
 obtain⟨x,hx⟩:∃x,(j:Int) * szV (z:Int)=x:=⟨_,rfl⟩
 rw[hx] at k3 k4 hd hm⊢
 have e1:(us+32 * q+x-us) / 32=q:=by omega
 have e2:(us+32 * q+x-us) % 32=x:=by omega
 unfold kQ
 rw[if_pos (by omega),e1,e2,ek]
 unfold pD
 rw[show IntKind.i64.wrap ((z:Int)+1-1)=(z:Int) by rw[show(z:Int)+1-1=(z:Int) by omega];exact aj (by omega) (by omega),if_neg k1,if_neg (by rw[hm];simp),hd]
theorem kj (us:Int){pg q k:Int}{j:Nat}(hq:ah pg q=true)(k0:0≤k)(k4:k≤4)(hj:(j:Int)<am k):(us+32 * q+j * szV k-us) / 32=q:=by
 obtain⟨z,rfl⟩:∃z:Nat,k=(z:Int):=⟨k.toNat,by omega⟩
 have hz4:z=0∨z=1∨z=2∨z=3∨z=4:=by omega
 rcases hz4 with rfl|rfl|rfl|rfl|rfl
 ·have hj:(j:Int)<32:=hj
  rw[show szV ((0:Nat):Int)=1 from rfl];omega
 ·have hj:(j:Int)<16:=hj
  rw[show szV ((1:Nat):Int)=2 from rfl];omega
 ·have hj:(j:Int)<8:=hj
  rw[show szV ((2:Nat):Int)=4 from rfl];omega
 ·have hj:(j:Int)<4:=hj
  rw[show szV ((3:Nat):Int)=8 from rfl];omega
 ·have hj:(j:Int)<2:=hj
  rw[show szV ((4:Nat):Int)=16 from rfl];omega
section
variable {pg st:Int}{n:Nat}(H:dh pg st n)
include H
theorem rq (us k:Int){G:Int→List Int}{ws:List Int}(P:PgW pg st G ws)(hn:ws.length=n):
 (dn us pg st k ws=((0,false),ws)) ∨
 ∃(q:Int) (j:Nat) (f:Int) (G2:Int→List Int) (X:List Int),ah pg q=true∧0≤k∧k≤4∧(j:Int)<am k∧eS (cE pg st ws q) j=false∧dn us pg st k ws=((us+32 * q+j * szV k,true),X)∧PgW pg st G2 X ∧
  (∀p,ah pg p=true→aE pg st X p=(if p=q then k+1 else aE pg st ws p)∧bH pg st X p=(if p=q then f else bH pg st ws p)∧cE pg st X p=(if p=q then dQ (cE pg st ws q) j else cE pg st ws p)) ∧
  ((aE pg st ws q=k+1∧f+1=bH pg st ws q)∨(aE pg st ws q=0∧f+1=am k)):=by
 by_cases hs:am k=0
 ·exact .inl (jI H us hs ws)
 have hk:=fS hs
 by_cases h1:aY pg st k (am k).toNat 1 ws= -1
 ·by_cases h2:dm pg st 1 1 ws= -1
  ·exact .inl (jJ H us hs h1 h2)
  ·obtain⟨y,hy⟩:∃y,dm pg st 1 1 ws=y:=⟨_,rfl⟩
   rw[hy] at h2
   obtain⟨G1,G2,w1,X,hyp,hk0,_,T,n1,_,M,e,Q⟩:=mJ H us hs P hn h1 hy h2
   have hf:=P.f.free y hyp hk0
   refine .inr ⟨y,0,am k-1,G2,X,hyp,hk.1,hk.2,by have:=dV k;simp;omega,by rw[hf.2];simp[eS,iT],by rw[e];simp,Q,fun p hp=>⟨?_,?_,?_⟩,.inr ⟨hk0,by omega⟩⟩
   ·rw[du.kind H M.o2,jd H hyp _ _ n1,T.kind]
    by_cases e:p=y
    ·rw[if_pos e,if_pos e]
    ·rw[if_neg e,if_neg e,if_neg (by omega)]
   ·rw[du.cnt H M.o2 hp,j8 H hyp _ _ n1 hp,T.cnt p hp]
    by_cases e:p=y
    ·rw[if_pos e,if_pos e]
    ·rw[if_neg e,if_neg e,if_neg e,if_neg (by omega)]
   ·rw[du.bit H M.o2 hp,j9 H hyp _ _ n1 hp,T.bit p hp]
    by_cases e:p=y
    ·rw[if_pos e,if_pos e,hf.2];rfl
    ·rw[if_neg e,if_neg e,if_neg (by omega)]
 ·obtain⟨q,hq⟩:∃q,aY pg st k (am k).toNat 1 ws=q:=⟨_,rfl⟩
  rw[hq] at h1
  obtain⟨j,G1,G2,u,X,hqp,ek,c1,_,_,hj,hb,M,e,Q⟩:=mI H us hs P hn hq h1
  refine .inr ⟨q,j,bH pg st ws q-1,G2,X,hqp,hk.1,hk.2,hj,by unfold eS;simp[hb],e,Q,fun p hp=>⟨?_,?_,?_⟩,.inl ⟨ek,by omega⟩⟩
  ·rw[du.kind H M.o2,jd H hqp _ _ hn]
   by_cases e:p=q
   ·rw[if_pos e,e,ek]
   ·rw[if_neg e]
  ·rw[du.cnt H M.o2 hp,j8 H hqp _ _ hn hp]
  ·rw[du.bit H M.o2 hp,j9 H hqp _ _ hn hp]
end
section
variable {pg st:Int}{n:Nat}(H:dh pg st n)
include H
end
def tkC (us pg st:Int)(ws:List Int)(a:Int):Option Int:=(ui (kQ us pg st a ws)).map (·.2.1)
structure kl (pg st:Int)(a b:List Int):Prop where
 len:b.length=a.length
 off:∀i:Int,aQ st pg+62≤i→wAt b i=wAt a i
theorem kl.refl (pg st:Int)(a:List Int):kl pg st a a:=⟨rfl,fun _ _=>rfl⟩
theorem kl.trans {pg st:Int}{a b c:List Int}(h:kl pg st a b)(g:kl pg st b c):kl pg st a c:=⟨g.len.trans h.len,fun i hi=>(g.off i hi).trans (h.off i hi)⟩
structure mN (pg st:Int)(a b:List Int):Prop where
 len:b.length=a.length
 off:∀i:Int,0≤i→i<aQ st pg+62→wAt b i=wAt a i
theorem szj {k:Int}{j:Nat}(k0:0≤k)(k4:k≤4)(hj:(j:Int)<am k):0<szV k∧0≤(j:Int) * szV k∧(j:Int) * szV k<32:=by
 obtain⟨z,rfl⟩:∃z:Nat,k=(z:Int):=⟨k.toNat,by omega⟩
 have hz4:z=0∨z=1∨z=2∨z=3∨z=4:=by omega
 rcases hz4 with rfl|rfl|rfl|rfl|rfl
 ·have hj:(j:Int)<32:=hj
  rw[show szV ((0:Nat):Int)=1 from rfl];omega
 ·have hj:(j:Int)<16:=hj
  rw[show szV ((1:Nat):Int)=2 from rfl];omega
 ·have hj:(j:Int)<8:=hj
  rw[show szV ((2:Nat):Int)=4 from rfl];omega
 ·have hj:(j:Int)<4:=hj
  rw[show szV ((3:Nat):Int)=8 from rfl];omega
 ·have hj:(j:Int)<2:=hj
  rw[show szV ((4:Nat):Int)=16 from rfl];omega
theorem C6 {k:Int}(k0:0≤k)(k4:k≤4)(h:0<szV k)(q:Int):32 * q % szV k=0:=by
 obtain⟨z,rfl⟩:∃z:Nat,k=(z:Int):=⟨k.toNat,by omega⟩
 have hz4:z=0∨z=1∨z=2∨z=3∨z=4:=by omega
 rcases hz4 with rfl|rfl|rfl|rfl|rfl
 ·rw[show szV ((0:Nat):Int)=1 from rfl];omega
 ·rw[show szV ((1:Nat):Int)=2 from rfl];omega
 ·rw[show szV ((2:Nat):Int)=4 from rfl];omega
 ·rw[show szV ((3:Nat):Int)=8 from rfl];omega
 ·rw[show szV ((4:Nat):Int)=16 from rfl];omega
section
variable {pg st:Int}{n:Nat}(H:dh pg st n)
include H
theorem ij {p:Int}(hp:ah pg p=true):(0≤kA pg st p∧kA pg st p<aQ st pg+62)∧(0≤cA pg st p∧cA pg st p<aQ st pg+62)∧(0≤bA pg st p∧bA pg st p<aQ st pg+62)∧(0≤nA pg st p∧nA pg st p<aQ st pg+62)∧(0≤vA pg st p∧vA pg st p<aQ st pg+62):=by
 have:=ai.1 hp
 have h1:=H.st1;have h4:=H.pg1
 have hc:0≤aA pg:=by unfold aA;omega
 have ht:0≤aK st:=by unfold aK;omega
 unfold kA cA bA nA vA aQ
 refine⟨⟨?_,?_⟩,⟨?_,?_⟩,⟨?_,?_⟩,⟨?_,?_⟩,?_,?_⟩<;>omega
theorem uA {k:Int}(hk:aP pg k=true):0≤ce pg st k∧ce pg st k<aQ st pg+62:=by
 have h1:=H.st1;have h4:=H.pg1
 have:=bz.1 hk
 have ht:0≤aK st:=by unfold aK;omega
 rw[gA hk]
 unfold aQ
 omega
theorem zC {i:Int}(hi:aQ st pg+62≤i):¬bZ pg st i∧∀p,ah pg p=true→i≠nA pg st p∧i≠vA pg st p:=by
 refine⟨fun h=>by unfold bZ at h;omega,fun p hp=>?_⟩
 obtain⟨_,_,_,h1,h2⟩:=ij H hp
 exact⟨by omega,by omega⟩
theorem mO {a b:List Int}(o:du pg st a b):kl pg st a b:=⟨o.len,fun i hi=>by
 have:=zC H hi
 have h1:=H.st1;have h4:=H.pg1
 have hc:0≤aA pg:=by unfold aA;omega
 have ht:0≤aK st:=by unfold aK;omega
 exact o.off i (by unfold aQ at hi;omega) this.1 this.2⟩
theorem om {q:Int}(hq:ah pg q=true)(b f:Int){ws:List Int}(hn:ws.length=n):kl pg st ws (dP pg st q b f ws):=⟨by simp[dP],fun i hi=>by
 obtain⟨_,⟨h1,h2⟩,⟨h3,h4⟩,_⟩:=ij H hq
 rw[fP H hq b f hn (by omega),if_neg (by omega),if_neg (by omega)]⟩
theorem wl {p m k:Int}{a b:List Int}(T:yV pg st p m k a b):kl pg st a b:=⟨T.len,fun i hi=>by
 have h1:=H.st1;have h4:=H.pg1
 have hc:0≤aA pg:=by unfold aA;omega
 have ht:0≤aK st:=by unfold aK;omega
 refine T.off i (by unfold aQ at hi;omega) (fun p hp=>?_) (fun k hk=>?_)
 ·obtain⟨⟨_,h1⟩,⟨_,h2⟩,⟨_,h3⟩,_⟩:=ij H hp
  exact⟨by omega,by omega,by omega⟩
 ·have:=uA H hk;omega⟩
theorem wm (us k:Int){G:Int→List Int}{ws:List Int}(P:PgW pg st G ws)(hn:ws.length=n):kl pg st ws (dn us pg st k ws).2:=by
 by_cases hs:am k=0
 ·rw[jI H us hs ws];exact kl.refl _ _ _
 ·by_cases h1:aY pg st k (am k).toNat 1 ws= -1
  ·by_cases h2:dm pg st 1 1 ws= -1
   ·rw[jJ H us hs h1 h2];exact kl.refl _ _ _
   ·obtain⟨G1,G2,w1,X,hy,_,_,T,n1,_,M,e,_⟩:=mJ H us hs P hn h1 rfl h2
    rw[e]
    exact((wl H T).trans (om H hy _ _ n1)).trans (mO H M.o2)
  ·obtain⟨j,G1,G2,u,X,hq,_,_,_,_,_,_,M,e,_⟩:=mI H us hs P hn rfl h1
   rw[e]
   exact(om H hq _ _ hn).trans (mO H M.o2)
theorem dX {a b:List Int}(F:mN pg st a b)(p:Int):aE pg st b p=aE pg st a p:=by
 unfold aE
 split
 ·rename_i hp
  obtain⟨⟨h1,h2⟩,_⟩:=ij H hp
  exact F.off _ h1 h2
 ·rfl
theorem gM {a b:List Int}(F:mN pg st a b){p:Int}(hp:ah pg p=true):bH pg st b p=bH pg st a p:=by
 obtain⟨_,⟨h1,h2⟩,_⟩:=ij H hp
 exact F.off _ h1 h2
theorem jf {a b:List Int}(F:mN pg st a b){p:Int}(hp:ah pg p=true):cE pg st b p=cE pg st a p:=by
 obtain⟨_,_,⟨h1,h2⟩,_⟩:=ij H hp
 exact F.off _ h1 h2
theorem wn {a b:List Int}(F:mN pg st a b)(k:Int):aF pg st b k=aF pg st a k:=by
 unfold aF
 cases hk:aP pg k with
 |false=>rfl
 |true =>
  obtain⟨h1,h2⟩:=uA H hk
  rw[F.off _ h1 h2]
theorem oo {a b:List Int}(F:mN pg st a b){G:Int→List Int}(P:PgW pg st G a):PgW pg st G b:=by
 obtain⟨L,Q⟩:=P
 have h1:=H.st1;have h4:=H.pg1
 have hc:0≤aA pg:=by unfold aA;omega
 have ht:0≤aK st:=by unfold aK;omega
 refine⟨⟨fun x hx=>?_,L.page,L.nodup,L.apart,fun x p hx hp=>?_,fun x p hx hp=>?_,fun p hp hn=>?_⟩,⟨Q.wf.alike (fun p=>dX H F p) (fun p hp=>gM H F hp) (fun p hp=>jf H F hp) (fun p _=>wn H F _),fun p hp h=>?_,fun x p hx=>?_⟩⟩
 ·rw[F.off x (by unfold bZ aQ at hx;omega) (by unfold bZ at hx;omega)];exact L.head x hx
 ·obtain⟨_,_,_,⟨n1,n2⟩,_⟩:=ij H (L.page x hx p hp)
  rw[F.off _ n1 n2];exact L.next x p hx hp
 ·obtain⟨_,_,_,_,v1,v2⟩:=ij H (L.page x hx p hp)
  rw[F.off _ v1 v2];exact L.prev x p hx hp
 ·obtain⟨_,_,_,⟨n1,n2⟩,v1,v2⟩:=ij H hp
  rw[F.off _ n1 n2,F.off _ v1 v2];exact L.free p hp hn
 ·rw[dX H F] at h⊢;rw[gM H F hp,jf H F hp];exact Q.cnt p hp h
 ·rw[Q.mem x p hx]
  constructor
  ·rintro⟨z1,z2,z3⟩
   refine⟨z1,?_,?_⟩
   ·rw[dX H F];exact z2
   ·rw[dX H F,gM H F z1];exact z3
  ·rintro⟨z1,z2,z3⟩
   rw[dX H F] at z2 z3
   rw[gM H F z1] at z3
   exact⟨z1,z2,z3⟩
theorem jK {us a k:Int}{G:Int→List Int}{ws:List Int}(P:PgW pg st G ws):
 tkC us pg st ws a=some k↔∃(q:Int) (j:Nat),ah pg q=true∧0≤k∧k≤4∧(j:Int)<am k∧aE pg st ws q=k+1∧eS (cE pg st ws q) j=true∧a=us+32 * q+j * szV k:=by
 constructor
 ·intro h
  unfold tkC at h
  cases hx:ui (kQ us pg st a ws) with
  |none=>rw[hx] at h;cases h
  |some x =>
   obtain⟨q,k',i⟩:=x
   rw[hx] at h
   simp at h
   subst h
   obtain⟨hq,ek,k0,k4,i0,i1,ht,ha⟩:=zq H P.f (sQ hx)
   obtain⟨j,rfl⟩:∃j:Nat,i=j:=⟨i.toNat,by omega⟩
   exact⟨q,j,hq,k0,k4,i1,ek,ht.symm,ha⟩
 ·rintro⟨q,j,hq,k0,k4,hj,ek,hb,rfl⟩
  unfold tkC
  rw[zB hq ⟨k0,k4⟩ hj ek,hb]
  rfl
theorem zD {us a:Int}{x y:List Int}(F:mN pg st x y){G:Int→List Int}(P:PgW pg st G x):tkC us pg st y a=tkC us pg st x a:=by
 apply Option.ext
 intro k
 have e1:=jK H (us:=us) (a:=a) (k:=k) (oo H F P)
 have e2:=jK H (us:=us) (a:=a) (k:=k) P
 rw[e1,e2]
 constructor
 ·rintro⟨q,j,hq,k0,k4,hj,ek,hb,ha⟩
  rw[dX H F] at ek;rw[jf H F hq] at hb
  exact⟨q,j,hq,k0,k4,hj,ek,hb,ha⟩
 ·rintro⟨q,j,hq,k0,k4,hj,ek,hb,ha⟩
  exact⟨q,j,hq,k0,k4,hj,by rw[dX H F];exact ek,by rw[jf H F hq];exact hb,ha⟩
theorem zE {us k q q':Int}{j j':Nat}(hq:ah pg q=true)(hq':ah pg q'=true)(k0:0≤k)(k4:k≤4)(hj:(j:Int)<am k)(hj':(j':Int)<am k)(e:us+32 * q+j * szV k=us+32 * q'+j' * szV k):q=q'∧j=j':=by
 have e1:=kj us hq k0 k4 hj
 have e2:=kj us hq' k0 k4 hj'
 have eq:q=q':=by rw[←e1,←e2,e]
 subst eq
 refine⟨rfl,?_⟩
 have hs:szV k≠0:=fun z=>by
  have:=zA.1 z
  omega
 have:(j:Int) * szV k=(j':Int) * szV k:=by omega
 have:=Int.eq_of_mul_eq_mul_right hs this
 omega
theorem zF {us k k' q q':Int}{j j':Nat}(hq:ah pg q=true)(hq':ah pg q'=true)(k0:0≤k)(k4:k≤4)(k0':0≤k')(k4':k'≤4)(hj:(j:Int)<am k)(hj':(j':Int)<am k')(e:us+32 * q+j * szV k=us+32 * q'+j' * szV k'):q=q':=by
 have e1:=kj us hq k0 k4 hj
 have e2:=kj us hq' k0' k4' hj'
 rw[←e1,←e2,e]
theorem zG {k:Int}(k0:0≤k)(k4:k≤4){j:Nat}(hj:(j:Int)<am k):inR (j:Int)=true:=(fw _).2 ⟨by omega,by have:=dV k;omega⟩
theorem zH (us k:Int){G:Int→List Int}{ws:List Int}(P:PgW pg st G ws)(hn:ws.length=n):
 (dn us pg st k ws=((0,false),ws)) ∨
 ∃(a:Int) (G2:Int→List Int) (X:List Int),dn us pg st k ws=((a,true),X)∧PgW pg st G2 X∧kl pg st ws X∧0≤k∧k≤4∧tkC us pg st ws a=none∧tkC us pg st X a=some k∧(∀b,b≠a→tkC us pg st X b=tkC us pg st ws b)∧us≤a∧a<us+32 * pg∧(a-us) % szV k=0:=by
 rcases rq H us k P hn with e|⟨q,j,f,G2,X,hq,k0,k4,hj,hb,e,Q,hp,hw⟩
 ·exact .inl e
 have hin:=zG H k0 k4 hj
 have T:=wm H us k P hn
 rw[e] at T
 have hp1:=fun p h=>(hp p h).1
 have hp3:=fun p h=>(hp p h).2.2
 have hkq:=hp1 q hq;rw[if_pos rfl] at hkq
 have hbq:=hp3 q hq;rw[if_pos rfl] at hbq
 have hfree:aE pg st ws q=k+1∨(aE pg st ws q=0∧∀i:Int,eS (cE pg st ws q) i=false):=by
  rcases hw with⟨w1,_⟩|⟨w1,_⟩
  ·exact .inl w1
  ·exact .inr ⟨w1,fun i=>by rw[(P.f.free q hq w1).2];simp[eS,iT]⟩
 obtain⟨kz,kz1,kz2⟩:=szj k0 k4 hj
 have hqq:=ai.1 hq
 refine .inr ⟨us+32 * q+j * szV k,G2,X,e,Q,T,k0,k4,?_,?_,fun b hne=>?_,by omega,by omega,?_⟩
 ·cases z:tkC us pg st ws (us+32 * q+j * szV k) with
  |none=>rfl
  |some k' =>
   obtain⟨q',j',hq',k0',k4',hj',ek,hb',ha⟩:=(jK H P).1 z
   obtain rfl:=zF H hq hq' k0 k4 k0' k4' hj hj' ha
   rcases hfree with w|⟨_,w⟩
   ·have:k'=k:=by omega
    subst this
    obtain⟨_,rfl⟩:=zE H hq hq k0 k4 hj hj' ha
    rw[hb] at hb';cases hb'
   ·rw[w] at hb';cases hb'
 ·exact(jK H Q).2 ⟨q,j,hq,k0,k4,hj,hkq,by rw[hbq];exact A1 hin,rfl⟩
 ·apply Option.ext
  intro c
  rw[jK H Q,jK H P]
  constructor
  ·rintro⟨q',j',hq',c0,c4,hj',ek,hb',rfl⟩
   rw[hp1 q' hq'] at ek
   rw[hp3 q' hq'] at hb'
   by_cases z:q'=q
   ·subst z
    rw[if_pos rfl] at ek hb'
    have:c=k:=by omega
    subst this
    have nj:j'≠j:=fun y=>hne (by rw[y])
    rw[jr hin (by omega)] at hb'
    rcases hfree with w|⟨_,w⟩
    ·exact⟨q',j',hq',c0,c4,hj',by omega,hb',rfl⟩
    ·rw[w] at hb';cases hb'
   ·rw[if_neg z] at ek hb'
    exact⟨q',j',hq',c0,c4,hj',ek,hb',rfl⟩
  ·rintro⟨q',j',hq',c0,c4,hj',ek,hb',rfl⟩
   refine⟨q',j',hq',c0,c4,hj',?_,?_,rfl⟩
   ·rw[hp1 q' hq']
    by_cases z:q'=q
    ·subst z
     rcases hfree with w|⟨_,w⟩
     ·rw[if_pos rfl];omega
     ·rw[w] at hb';cases hb'
    ·rw[if_neg z];exact ek
   ·rw[hp3 q' hq']
    by_cases z:q'=q
    ·subst z
     rw[if_pos rfl]
     rcases hfree with w|⟨_,w⟩
     ·have:c=k:=by omega
      subst this
      have nj:j'≠j:=fun y=>hne (by rw[y])
      rw[jr hin (by omega)];exact hb'
     ·rw[w] at hb';cases hb'
    ·rw[if_neg z];exact hb'
 ·have e1:us+32 * q+j * szV k-us=32 * q+j * szV k:=by omega
  rw[e1,Int.add_emod,Int.mul_emod_left,Int.add_zero,Int.emod_emod_of_dvd _ (Int.dvd_refl _)]
  have:(32:Int) * q % szV k=0:=C6 k0 k4 kz q
  exact this
theorem zI (us k:Int){G:Int→List Int}{ws:List Int}(P:PgW pg st G ws)(hn:ws.length=n):∀p,ah pg p=true→(aE pg st (dn us pg st k ws).2 p=6↔aE pg st ws p=6)∧(aE pg st ws p=6→bH pg st (dn us pg st k ws).2 p=bH pg st ws p):=by
 rcases rq H us k P hn with e|⟨q,j,f,G2,X,hq,k0,k4,hj,hb,e,Q,hp,hw⟩
 ·rw[e];exact fun p hp=>⟨Iff.rfl,fun _=>rfl⟩
 ·rw[e]
  intro p hpp
  obtain⟨p1,p2,_⟩:=hp p hpp
  show(aE pg st X p=6↔_)∧(_→bH pg st X p=_)
  by_cases z:p=q
  ·rw[if_pos z] at p1 p2
   subst z
   have:aE pg st ws p≠6:=by rcases hw with w|w<;>omega
   exact⟨⟨fun y=>by omega,fun y=>absurd y this⟩,fun y=>absurd y this⟩
  ·rw[if_neg z] at p1 p2
   rw[p1,p2];exact⟨Iff.rfl,fun _=>rfl⟩
theorem wu (us a:Int):tkC us pg st (cC n) a=none:=by
 have P:=ol H
 cases z:tkC us pg st (cC n) a with
 |none=>rfl
 |some k =>
  obtain⟨q,j,hq,k0,k4,hj,ek,_⟩:=(jK H P).1 z
  have hz:∀i:Int,wAt (cC n) i=0:=fun i=>by
   unfold wAt cC
   simp only[List.getD,List.getElem?_replicate]
   split<;>rfl
  unfold aE at ek
  rw[if_pos hq,hz] at ek
  omega
end
structure Fam where
 m:Nat
 b:Nat→Int
 l:Nat→Int
 k:Nat→Int
structure Fam.In (S:Fam)(lo:Int)(n:Nat):Prop where
 lo:∀i,i<S.m→lo≤S.b i∧0≤S.l i∧S.b i+S.l i<n
 ap:∀i j,i<j→j<S.m→S.b i+S.l i<S.b j
def eO (C:Nat→List Int)(i:Nat)(xs:List Int):Nat→List Int:=fun j=>if j=i then xs else C j
theorem oq (C:Nat→List Int)(i:Nat):eO C i (C i)=C:=by funext j;unfold eO;split<;>simp_all
def et (S:Fam)(C:Nat→List Int):Nat→List (Int×Int)
 | 0=> []
 |m+1=>et S C m++(C m).map fun a=>(a,S.k m)
theorem jL (S:Fam)(C:Nat→List Int)(i:Nat)(xs:List Int):∀m,m≤i→et S (eO C i xs) m=et S C m
 | 0,_=>rfl
 |m+1,h=>by
  rw[et,et,jL S C i xs m (by omega)]
  have:eO C i xs m=C m:=by unfold eO;rw[if_neg (by omega)]
  rw[this]
theorem kU (S:Fam)(C:Nat→List Int)(i:Nat)(xs:List Int)(x:Int):∀m,i<m→(et S (eO C i (xs++ [x])) m).Perm ((x,S.k i)::et S (eO C i xs) m)
 | 0,h=>by omega
 |m+1,h=>by
  rw[et,et]
  by_cases e:m=i
  ·subst e
   rw[jL S C m _ m (Nat.le_refl _),jL S C m _ m (Nat.le_refl _)]
   have e1:eO C m (xs++ [x]) m=xs++ [x]:=by unfold eO;rw[if_pos rfl]
   have e2:eO C m xs m=xs:=by unfold eO;rw[if_pos rfl]
   rw[e1,e2,List.map_append,←List.append_assoc]
   exact List.perm_append_comm
  ·have e1:eO C i (xs++ [x]) m=eO C i xs m:=by unfold eO;rw[if_neg e,if_neg e]
   rw[e1]
   exact(kU S C i xs x m (by omega)).append_right _
structure Gh where
 r:Int→Int
 top:Int
 z:Int→Int
def uB (pg st:Int)(r:Int→Int)(ws:List Int):Prop:=∀p,ah pg p=true→(aE pg st ws p=6→1≤r p∧bH pg st ws p=r p)∧(aE pg st ws p≠6→r p=0)
theorem uB.same {pg st:Int}{r:Int→Int}{a b:List Int}(h:uB pg st r a)(hs:∀p,ah pg p=true→(aE pg st b p=6↔aE pg st a p=6)∧(aE pg st a p=6→bH pg st b p=bH pg st a p)):uB pg st r b:=fun p hp=>by
 obtain⟨h1,h2⟩:=h p hp
 obtain⟨s1,s2⟩:=hs p hp
 exact⟨fun e=>by rw[s2 (s1.1 e)];exact h1 (s1.1 e),fun e=>h2 fun z=>e (s1.2 z)⟩
structure FrI (us pg st:Int)(n:Nat)(S:Fam)(r:Gh)(ws:List Int)(C:Nat→List Int)(O:List (Int×Int)):Prop where
 len:ws.length=n
 ok:OkW ws
 pgs:∃G,PgW pg st G ws
 runs:uB pg st r.r ws
 top:aQ st pg+62≤r.top∧∀i,i<S.m→S.b i+S.l i<r.top
 rest:∀i:Int,r.top≤i→wAt ws i=r.z i
 keeps:∀i,i<S.m→ey ws (S.b i) (S.l i) (C i)
 nodup:((O++et S C S.m).map (·.1)).Nodup
 acc:∀a k,tkC us pg st ws a=some k↔(a,k)∈O++et S C S.m
theorem FrI.perm {us pg st:Int}{n:Nat}{S:Fam}{r:Gh}{ws:List Int}{C:Nat→List Int}{O O':List (Int×Int)}(h:FrI us pg st n S r ws C O)(p:O.Perm O'):FrI us pg st n S r ws C O' :=
 ⟨h.len,h.ok,h.pgs,h.runs,h.top,h.rest,h.keeps,((p.append_right _).map _).nodup_iff.1 h.nodup,fun a k=>(h.acc a k).trans (p.append_right _).mem_iff⟩
theorem ey.off {ws ws':List Int}{b l:Int}{xs:List Int}(h:ey ws b l xs)(o:∀i:Int,b≤i→i≤b+l→wAt ws' i=wAt ws i):ey ws' b l xs:=by
 have hf:=h.fit
 exact⟨by rw[o b (by omega) (by omega)];exact h.cnt,h.fit,fun j hj=>by rw[o _ (by omega) (by omega)];exact h.at' j hj⟩
section
variable {us pg st:Int}{n:Nat}{S:Fam}{r:Gh}(H:dh pg st n)(hS:S.In (aQ st pg+62) n)(hn:n≤10000)
include H hS hn
theorem zJ {i:Nat}(hi:i<S.m):kx (S.b i) (S.l i) n:=by
 have h1:=H.st1;have h4:=H.pg1
 have hc:0≤aA pg:=by unfold aA;omega
 have ht:0≤aK st:=by unfold aK;omega
 obtain⟨a1,a2,a3⟩:=hS.lo i hi
 exact⟨by unfold aQ at a1;omega,a2,a3,hn⟩
theorem ti {ws ws':List Int}(T:kl pg st ws ws'){C:Nat→List Int}(h:∀i,i<S.m→ey ws (S.b i) (S.l i) (C i)):∀i,i<S.m→ey ws' (S.b i) (S.l i) (C i):=fun i hi =>
 (h i hi).off fun j h1 h2=>T.off j (by have:=(hS.lo i hi).1;omega)
theorem FrI.grab {ws:List Int}{C:Nat→List Int}{O:List (Int×Int)}(h:FrI us pg st n S r ws C O)(k:Int):
 dn us pg st k ws=((0,false),ws)∨∃a X,dn us pg st k ws=((a,true),X)∧0≤k∧k≤4∧us≤a∧a<us+32 * pg∧(a-us) % szV k=0∧FrI us pg st n S r X C ((a,k)::O):=by
 obtain⟨G,P⟩:=h.pgs
 rcases zH H us k P h.len with e|⟨a,G2,X,e,Q,T,k0,k4,n0,n1,no,a0,a1,a2⟩
 ·exact .inl e
 ·have hw:=rh H (vQ H us k) h.len h.ok
  rw[e] at hw
  refine .inr ⟨a,X,e,k0,k4,a0,a1,a2,hw.2,hw.1,⟨G2,Q⟩,h.runs.same (by have:=zI H us k P h.len;rw[e] at this;exact this),h.top,(fun i hi=>(T.off i (by have:=h.top.1;omega)).trans (h.rest i hi)),ti H hS hn T h.keeps,?_,fun b c=>?_⟩
  ·rw[List.cons_append,List.map_cons,List.nodup_cons]
   refine⟨fun z=>?_,h.nodup⟩
   obtain⟨⟨a',c⟩,hc,rfl⟩:=List.mem_map.1 z
   have:=(h.acc a' c).2 hc
   rw[n0] at this;cases this
  ·rw[List.cons_append,List.mem_cons]
   by_cases z:b=a
   ·subst z
    rw[n1]
    constructor
    ·intro q;cases q;exact .inl rfl
    ·rintro(q|q)
     ·cases q;rfl
     ·have:=(h.acc b c).2 q
      rw[n0] at this;cases this
   ·rw[no b z,h.acc b c]
    exact⟨.inr,fun q=>q.resolve_left fun y=>z (by cases y;rfl)⟩
theorem FrI.turn {ws X:List Int}{C:Nat→List Int}{O O':List (Int×Int)}(h:FrI us pg st n S r ws C O){i:Nat}(hi:i<S.m)(hX:X.length=n)(oX:OkW X)(hoff:∀j:Int,0≤j→(j<S.b i∨S.b i+S.l i<j)→wAt X j=wAt ws j){xs:List Int}(hk:ey X (S.b i) (S.l i) xs)(hp:(O++et S C S.m).Perm (O'++et S (eO C i xs) S.m)):FrI us pg st n S r X (eO C i xs) O':=by
 obtain⟨G,P⟩:=h.pgs
 have h1:=H.st1;have h4:=H.pg1
 have hc:0≤aA pg:=by unfold aA;omega
 have ht:0≤aK st:=by unfold aK;omega
 have hb:=hS.lo i hi
 have F:mN pg st ws X:=⟨by rw[hX,h.len],fun j h0 hj=>hoff j h0 (.inl (by omega))⟩
 refine⟨hX,oX,⟨G,oo H F P⟩,h.runs.same (fun p hp=>⟨by rw[dX H F],fun _=>gM H F hp⟩),h.top,(fun j hj=>by have h0:=h.top.1;have h2:=h.top.2 i hi;unfold aQ at h0;rw[hoff j (by omega) (.inr (by omega))];exact h.rest j hj),fun j hj=>?_,(hp.map _).nodup_iff.1 h.nodup,fun a k=>?_⟩
 ·by_cases e:j=i
  ·subst e
   unfold eO;rw[if_pos rfl];exact hk
  ·unfold eO;rw[if_neg e]
   refine(h.keeps j hj).off fun x x0 x1=>hoff x (by have:=(hS.lo j hj).1;unfold aQ at this;omega) ?_
   rcases Nat.lt_or_gt_of_ne e with q|q
   ·have:=hS.ap j i q hi;omega
   ·have:=hS.ap i j q hj;omega
 ·rw[zD H F P,h.acc a k];exact hp.mem_iff
theorem FrI.pop {ws:List Int}{C:Nat→List Int}{O:List (Int×Int)}(h:FrI us pg st n S r ws C O){i:Nat}(hi:i<S.m):
 (C i= []∧cF (S.b i) (S.l i) ws=((0,false),ws))∨∃xs x X,C i=xs++ [x]∧cF (S.b i) (S.l i) ws=((x,true),X)∧FrI us pg st n S r X (eO C i xs) ((x,S.k i)::O):=by
 have hst:=zJ H hS hn hi
 have hk:=h.keeps i hi
 rcases List.eq_nil_or_concat (C i) with e|⟨xs,x,e⟩
 ·rw[e] at hk
  exact .inl ⟨e,hk.none⟩
 ·rw[List.concat_eq_append] at e
  rw[e] at hk
  obtain⟨e1,e2,e3⟩:=hk.pop hst h.len
  obtain⟨_,o2⟩:=Aw hst h.len
  have hw:=rh H (rI hst) h.len h.ok
  refine .inr ⟨xs,x,(cF (S.b i) (S.l i) ws).2,e,by rw[←e1],h.turn H hS hn hi hw.2 hw.1 o2 e3 ?_⟩
  have:=kU S C i xs x S.m hi
  rw[←e,oq] at this
  refine(this.append_left O).trans ?_
  rw[List.cons_append]
  exact List.perm_middle
end
def bV (d:Cfg):Fam where
 m:=5 * d.cp.toNat+5
 b:=fun i=>if i<5 * d.cp.toNat then cD d.st d.pg+i * (d.ca+1) else dU d.cp d.pg d.st d.ca+((i:Int)-5 * d.cp) * (d.bi+1)
 l:=fun i=>if i<5 * d.cp.toNat then d.ca else d.bi
 k:=fun i=>(i % 5:Nat)
theorem pL (d:Cfg)(i:Nat):(bV d).b i=if i<5 * d.cp.toNat then cD d.st d.pg+i * (d.ca+1) else dU d.cp d.pg d.st d.ca+((i:Int)-5 * d.cp) * (d.bi+1):=rfl
theorem tj (d:Cfg)(i:Nat):(bV d).l i=if i<5 * d.cp.toNat then d.ca else d.bi:=rfl
theorem kV {d:Cfg}{u c:Nat}(hu:(u:Int)<d.cp)(hc:c<5):5 * u+c<(bV d).m∧(bV d).b (5 * u+c)=eG d.cp d.pg d.st d.ca u c∧(bV d).l (5 * u+c)=d.ca∧(bV d).k (5 * u+c)=c:=by
 have h:5 * u+c<5 * d.cp.toNat:=by omega
 refine⟨by show _<5 * d.cp.toNat+5;omega,?_,?_,?_⟩
 ·show(if _ then _ else _)=_
  rw[if_pos h]
  unfold eG
  rw[if_pos (by omega)]
  simp
 ·show(if _ then _ else _)=_
  rw[if_pos h]
 ·show(((5 * u+c) % 5:Nat):Int)=_
  omega
theorem uC {d:Cfg}{c:Nat}(hp:0≤d.cp)(hc:c<5):5 * d.cp.toNat+c<(bV d).m∧(bV d).b (5 * d.cp.toNat+c)=oF d.cp d.pg d.st d.ca d.bi c∧(bV d).l (5 * d.cp.toNat+c)=d.bi∧(bV d).k (5 * d.cp.toNat+c)=c:=by
 have h:¬(5 * d.cp.toNat+c<5 * d.cp.toNat):=by omega
 refine⟨by show _<5 * d.cp.toNat+5;omega,?_,?_,?_⟩
 ·show(if _ then _ else _)=_
  rw[if_neg h]
  unfold oF
  rw[if_pos (by omega)]
  congr 2
  omega
 ·show(if _ then _ else _)=_
  rw[if_neg h]
 ·show(((5 * d.cp.toNat+c) % 5:Nat):Int)=_
  omega
theorem tl {d:Cfg}(R:d.Ok){n:Nat}(hn:(n:Int)=d.words):(bV d).In (aQ d.st d.pg+62) n:=by
 have h1:=R.cp1;have h2:=R.ca1;have h3:=R.bi1
 have hl:=lf R;have hu:=gG R;have hp:=R.pg1
 have hcp:((d.cp.toNat:Nat):Int)=d.cp:=by omega
 have top:cK d.cp d.pg d.st d.ca d.bi<n:=by
  rw[hn]
  show _<dH d.cp d.pg d.st d.ca d.bi
  unfold dH
  omega
 have p5:=lX R
 -- steps of the caches,and of the bins
 have s1:∀i:Nat,i<5 * d.cp.toNat→(i:Int) * (d.ca+1)+d.ca+1≤5 * d.cp * (d.ca+1)∧0≤(i:Int) * (d.ca+1):=fun i hi=>by
  have:((i:Int)+1) * (d.ca+1)≤5 * d.cp * (d.ca+1):=Int.mul_le_mul_of_nonneg_right (by omega) (by omega)
  have e:((i:Int)+1) * (d.ca+1)=(i:Int) * (d.ca+1)+d.ca+1:=by rw[Int.add_mul];omega
  exact⟨by omega,Int.mul_nonneg (by omega) (by omega)⟩
 have s2:∀j:Int,0≤j→j<5→j * (d.bi+1)+d.bi+1≤5 * (d.bi+1)∧0≤j * (d.bi+1):=fun j h0 hj=>by
  have:(j+1) * (d.bi+1)≤5 * (d.bi+1):=Int.mul_le_mul_of_nonneg_right (by omega) (by omega)
  have e:(j+1) * (d.bi+1)=j * (d.bi+1)+d.bi+1:=by rw[Int.add_mul];omega
  exact⟨by omega,Int.mul_nonneg (by omega) (by omega)⟩
 refine⟨fun i hi=>?_,fun i j hij hj=>?_⟩
 ·have hi:i<5 * d.cp.toNat+5:=hi
  rw[pL,tj]
  by_cases q:i<5 * d.cp.toNat
  ·rw[if_pos q,if_pos q]
   obtain⟨a,b⟩:=s1 i q
   unfold cK dU at top
   unfold cD at *
   refine⟨by omega,h2,by omega⟩
  ·rw[if_neg q,if_neg q]
   obtain⟨a,b⟩:=s2 ((i:Int)-5 * d.cp) (by omega) (by omega)
   unfold cK at top
   have:cD d.st d.pg≤dU d.cp d.pg d.st d.ca:=by unfold dU;omega
   have e:cD d.st d.pg=aQ d.st d.pg+62:=rfl
   refine⟨by omega,h3,by omega⟩
 ·have hj:j<5 * d.cp.toNat+5:=hj
  rw[pL,tj,pL]
  by_cases q:j<5 * d.cp.toNat
  ·have qi:i<5 * d.cp.toNat:=by omega
   rw[if_pos qi,if_pos qi,if_pos q]
   have:((i:Int)+1) * (d.ca+1)≤(j:Int) * (d.ca+1):=Int.mul_le_mul_of_nonneg_right (by omega) (by omega)
   have e:((i:Int)+1) * (d.ca+1)=(i:Int) * (d.ca+1)+d.ca+1:=by rw[Int.add_mul];omega
   omega
  ·rw[if_neg q]
   by_cases qi:i<5 * d.cp.toNat
   ·rw[if_pos qi,if_pos qi]
    obtain⟨a,b⟩:=s1 i qi
    obtain⟨c1,c2⟩:=s2 ((j:Int)-5 * d.cp) (by omega) (by omega)
    unfold dU
    omega
   ·rw[if_neg qi,if_neg qi]
    have:((i:Int)-5 * d.cp+1) * (d.bi+1)≤((j:Int)-5 * d.cp) * (d.bi+1):=Int.mul_le_mul_of_nonneg_right (by omega) (by omega)
    have e:((i:Int)-5 * d.cp+1) * (d.bi+1)=((i:Int)-5 * d.cp) * (d.bi+1)+d.bi+1:=by rw[Int.add_mul];omega
    omega
theorem uD {d:Cfg}(R:d.Ok):aQ d.st d.pg+62≤cK d.cp d.pg d.st d.ca d.bi∧∀i,i<(bV d).m→(bV d).b i+(bV d).l i<cK d.cp d.pg d.st d.ca d.bi:=by
 have h1:=R.cp1;have h2:=R.ca1;have h3:=R.bi1
 have hcp:((d.cp.toNat:Nat):Int)=d.cp:=by omega
 have p5:=lX R
 have e:cD d.st d.pg=aQ d.st d.pg+62:=rfl
 refine⟨by unfold cK dU;omega,fun i hi=>?_⟩
 have hi:i<5 * d.cp.toNat+5:=hi
 rw[pL,tj]
 by_cases q:i<5 * d.cp.toNat
 ·rw[if_pos q,if_pos q]
  have:((i:Int)+1) * (d.ca+1)≤5 * d.cp * (d.ca+1):=Int.mul_le_mul_of_nonneg_right (by omega) (by omega)
  have e2:((i:Int)+1) * (d.ca+1)=(i:Int) * (d.ca+1)+d.ca+1:=by rw[Int.add_mul];omega
  unfold cK dU;omega
 ·rw[if_neg q,if_neg q]
  have:((i:Int)-5 * d.cp+1) * (d.bi+1)≤5 * (d.bi+1):=Int.mul_le_mul_of_nonneg_right (by omega) (by omega)
  have e2:((i:Int)-5 * d.cp+1) * (d.bi+1)=((i:Int)-5 * d.cp) * (d.bi+1)+d.bi+1:=by rw[Int.add_mul];omega
  unfold cK;omega
def gh0 (d:Cfg):Gh:=⟨fun _=>0,cK d.cp d.pg d.st d.ca d.bi,fun _=>0⟩
theorem ww {d:Cfg}(R:d.Ok){n:Nat}(H:dh d.pg d.st n)(hn:(n:Int)=d.words)(us:Int):FrI us d.pg d.st n (bV d) (gh0 d) (cC n) (fun _=> []) []:=by
 have hk:∀m,et (bV d) (fun _=> []) m= []:=by
  intro m
  induction m with
  |zero=>rfl
  |succ m ih=>rw[et,ih];rfl
 have hz:∀i:Int,wAt (cC n) i=0:=fun i=>by
  unfold wAt cC
  simp only[List.getD,List.getElem?_replicate]
  split<;>rfl
 refine⟨fQ n,vh n,⟨_,ol H⟩,fun p hp=>⟨fun e=>by unfold aE at e;rw[if_pos hp,hz] at e;omega,fun _=>rfl⟩,uD R,fun i _=>hz i,fun i hi=>⟨by rw[hz];rfl,((tl R hn).lo i hi).2.1,fun j hj=>by simp at hj⟩,by rw[hk];exact List.nodup_nil,fun a k=>?_⟩
 rw[hk,wu H us a]
 exact⟨(fun q=>by cases q),(fun q=>by cases q)⟩
theorem pM {P:Program}{fn:Func}{p u:Tmp}{ty:TypeId}(h:fn.results= #[.cell p ty,.tmp u])(tmps:Array Value)(w:World)(g:Nat)(t:TypeId)(cs:Array Value)(fr:Nat×Nat)(d:TypeDesc)
 (hp:tmps.getD p undef=.pointer (some ⟨g,0,none⟩)) (hg:w.heap[g]?=some (.cells cs t fr))
 (hu:P.underlying ty=some d) (hd:(match d with| .struct _| .array _ _=>true|_=>false)=true) (hi:(P.info? ty).map (·.size)=some cs.size):
 (results fn tmps).run P w=.ok (.tuple #[.agg cs,tmps.getD u undef]) w:=by
 rw[results_cell_tmp h,hp]
 simp[asAddr,run_loadVar_row w g t ty cs fr d hg hu hd hi]
def lx (P:Nat→List Int)(c l:Int):Bool:=fB c && decide (sw P c<l)
def eL (P:Nat→List Int)(c a l:Int):Nat→List Int:=if lx P c l then(fun k=>if k=c.toNat then P k++ [a] else P k) else P
theorem mP (P:Nat→List Int){k:Nat}(hk:k<5):sw P k=(P k).length:=by simp[sw,tV hk]
def lD (P:Nat→List Int)(c:Int):Bool:=decide (0<sw P c)
def pN (P:Nat→List Int)(c:Int):Int:=if lD P c then(P c.toNat).getD ((P c.toNat).length-1) 0 else 0
def tm (P:Nat→List Int)(c:Int):Nat→List Int:=if lD P c then(fun k=>if k=c.toNat then(P k).take ((P k).length-1) else P k) else P
theorem uE {P:Program}{fn:Func}{p u u':Tmp}{ty:TypeId}(h:fn.results= #[.cell p ty,.tmp u,.tmp u'])(tmps:Array Value)(w:World)(g:Nat)(t:TypeId)(cs:Array Value)(fr:Nat×Nat)(d:TypeDesc)
 (hp:tmps.getD p undef=.pointer (some ⟨g,0,none⟩)) (hg:w.heap[g]?=some (.cells cs t fr))
 (hu:P.underlying ty=some d) (hd:(match d with| .struct _| .array _ _=>true|_=>false)=true) (hi:(P.info? ty).map (·.size)=some cs.size):
 (results fn tmps).run P w=.ok (.tuple #[.agg cs,tmps.getD u undef,tmps.getD u' undef]) w:=by
 have hp':tmps[p]?.getD undef=.pointer (some ⟨g,0,none⟩):=by simpa using hp
 simp[results,h,hp',asAddr,run_loadVar_row w g t ty cs fr d hg hu hd hi]
def Ch:Fam:=⟨5,fun _=>0,fun _=>0,fun i=>(i:Int)⟩
def puO (P:Nat→List Int):List (Int×Int):=et Ch P 5
theorem mQ (P:Nat→List Int){k:Nat}(hk:k<5)(a:Int):(puO (eO P k (P k++ [a]))).Perm ((a,(k:Int))::puO P):=by
 have:=kU Ch P k (P k) a 5 hk
 rw[oq] at this
 exact this
theorem mR (P:Nat→List Int){k:Nat}(hk:k<5)(a:Int){lim:Int}(h:((P k).length:Int)<lim):eL P k a lim=eO P k (P k++ [a]):=by
 have hb:lx P k lim=true:=by simp[lx,tV hk,mP P hk];omega
 unfold eL
 rw[if_pos hb]
 funext j
 unfold eO
 by_cases e:j=k
 ·subst e;simp
 ·simp[e]
theorem Bu (P:Nat→List Int){k:Nat}(hk:k<5){xs:List Int}{x:Int}(e:P k=xs++ [x]):lD P k=true∧pN P k=x∧tm P k=eO P k xs:=by
 have hb:lD P k=true:=by simp[lD,mP P hk,e]
 refine⟨hb,?_,?_⟩
 ·unfold pN;rw[if_pos hb];simp[e]
 ·unfold tm
  rw[if_pos hb]
  funext j
  unfold eO
  by_cases z:j=k
  ·subst z;simp[e]
  ·simp[z]
section
variable (us pg st:Int)(S:Fam)(i0 i1:Nat)
def gC (k:Int):Nat→List Int→(Int×Bool)×List Int
 | 0,ws=>cF (S.b i0) (S.l i0) ws
 | 1,ws=>cF (S.b i1) (S.l i1) ws
 | 2,ws=>if od pg st k ws then dn us pg st k ws else((0,false),ws)
 | _,ws=>dn us pg st k ws
def eE (k kind:Nat)(lim:Int):Nat→(Nat→List Int)→List Int→(Nat→List Int)×List Int
 | 0,P,ws=>(P,ws)
 |m+1,P,ws=>if(gC us pg st S i0 i1 k kind ws).1.2 then eE k kind lim m (eL P k (gC us pg st S i0 i1 k kind ws).1.1 lim) (gC us pg st S i0 i1 k kind ws).2 else(P,(gC us pg st S i0 i1 k kind ws).2)
def gN (ws:List Int):Nat:=if 0<cM (S.l i0) (wAt ws (S.b i0)) then 0 else if 0<cM (S.l i1) (wAt ws (S.b i1)) then 1 else 2
def gh (kind:Nat):Nat:=if kind=2 then 3 else kind
def tn (k:Nat)(lim:Int)(m:Nat)(P:Nat→List Int)(ws:List Int):((Int×Bool)×(Nat→List Int))×List Int :=
 if lD P k then(((pN P k,true),tm P k),ws)
 else if(gC us pg st S i0 i1 k (gh (gN S i0 i1 ws)) ws).1.2 then
  ((((gC us pg st S i0 i1 k (gh (gN S i0 i1 ws)) ws).1.1,true),(eE us pg st S i0 i1 k (gN S i0 i1 ws) lim m P (gC us pg st S i0 i1 k (gh (gN S i0 i1 ws)) ws).2).1),(eE us pg st S i0 i1 k (gN S i0 i1 ws) lim m P (gC us pg st S i0 i1 k (gh (gN S i0 i1 ws)) ws).2).2)
 else(((0,false),P),(gC us pg st S i0 i1 k (gh (gN S i0 i1 ws)) ws).2)
end
section
variable {us pg st:Int}{n:Nat}{S:Fam}{r:Gh}(H:dh pg st n)(hS:S.In (aQ st pg+62) n)(hn:n≤10000)(hu:0≤us∧us+32 * pg≤1000000)
include H hS hn hu
variable {i0 i1 k:Nat}(h0:i0<S.m)(h1:i1<S.m)(hk:k<5)(k0:S.k i0=k)(k1:S.k i1=k)
include h0 h1 hk k0 k1
theorem Bv (kind:Nat){ws:List Int}{C:Nat→List Int}{O:List (Int×Int)}(h:FrI us pg st n S r ws C O):
 gC us pg st S i0 i1 k kind ws=((0,false),ws)∨∃a X C',gC us pg st S i0 i1 k kind ws=((a,true),X)∧FrI us pg st n S r X C' ((a,(k:Int))::O):=by
 have gr:dn us pg st k ws=((0,false),ws)∨∃a X C',dn us pg st k ws=((a,true),X)∧FrI us pg st n S r X C' ((a,(k:Int))::O):=by
  rcases h.grab H hS hn k with e|⟨a,X,e,_,_,_,_,_,h'⟩
  ·exact .inl e
  ·exact .inr ⟨a,X,C,e,h'⟩
 match kind with
 | 0 =>
   rcases h.pop H hS hn h0 with⟨_,e⟩|⟨xs,x,X,_,e,h'⟩
   ·exact .inl e
   ·rw[k0] at h';exact .inr ⟨x,X,_,e,h'⟩
 | 1 =>
   rcases h.pop H hS hn h1 with⟨_,e⟩|⟨xs,x,X,_,e,h'⟩
   ·exact .inl e
   ·rw[k1] at h';exact .inr ⟨x,X,_,e,h'⟩
 | 2 =>
   cases hr:od pg st k ws with
   |false=>exact .inl (by simp[gC,hr])
   |true =>
    have:gC us pg st S i0 i1 k 2 ws=dn us pg st k ws:=by simp[gC,hr]
    rw[this];exact gr
 |kind+3=>exact gr
end
section
variable {us pg st:Int}{n:Nat}{S:Fam}{r:Gh}(H:dh pg st n)(hS:S.In (aQ st pg+62) n)(hn:n≤10000)
include H hS hn
variable (hu:0≤us∧us+32 * pg≤1000000){i0 i1 k:Nat}(h0:i0<S.m)(h1:i1<S.m)(hk:k<5)(k0:S.k i0=k)(k1:S.k i1=k)
include hu h0 h1 hk k0 k1
end
section
variable {ops:Array Oper}{C:World→Prop}{o':Oper}{a:Act}
end
open Go.ChangeShapes Go.WideShapes Go.ChangeAt Go.Joins Go.Deep
section
variable {H:Type}{enc:TypeId×Value→H}{P:Program}{w:World}{base:Nat}{spare:Nat→Bool}{held:Bool}
end
def Bz (d:Cfg)(u c:Int):Prop:=0≤c∧c<5∧0≤u∧u<d.cp
instance (d:Cfg)(u c:Int):Decidable (Bz d u c):=by unfold Bz;infer_instance
def frM (d:Cfg):Nat:=(if d.ba-1≤d.pr then d.ba-1 else d.pr).toNat
def tkW (d:Cfg)(u:Int)(P:Nat→List Int)(c:Int)(ws:List Int):((Int×Bool)×(Nat→List Int))×List Int :=
 if Bz d u c then tn d.us d.pg d.st (bV d) (5 * u.toNat+c.toNat) (5 * d.cp.toNat+c.toNat) c.toNat d.pr (frM d) P ws else(((0,false),P),ws)
section
variable {d:Cfg}(R:d.Ok){n:Nat}(H:dh d.pg d.st n)(hw:(n:Int)=d.words)(hn:n≤10000)
include R H hw hn
theorem DR:0≤d.us∧d.us+32 * d.pg≤1000000:=by
 have hb:=gG R
 have e:d.words=d.us+32 * d.pg:=rfl
 have e2:d.us=cT d.cp d.pg d.st d.ca d.bi:=rfl
 omega
end
theorem zK {pg st m step p:Int}{ws:List Int}(hpg:0≤pg)(h:dm pg st m step ws=p)(hp:p≠ -1):1≤m∧1≤step∧p % step=0∧jh pg st p m ws=true:=by
 unfold dm at h
 by_cases h1:1≤m∧1≤step
 ·rw[if_pos h1] at h
  have key:∀f:Int→Bool,(∀q,f q=true→aE pg st ws q=0)→∀q,bQ f pg m step=q→q≠ -1→q % step=0∧jh pg st q m ws=true:=fun f hf q hq hne=>by
   unfold bQ at hq
   rcases ib (f:=f) (pg:=pg) h1.1 h1.2 (pg.toNat+1) 0 0 (by omega) (by omega) (by omega) with⟨e,_⟩|⟨k,e,p0,hh,_⟩
   ·exact absurd (hq.symm.trans e) hne
   ·rw[hq] at e
    rw[←e] at hh p0
    refine⟨by rw[e];exact Int.mul_emod_left _ _,gg.2 ⟨bx.2 ⟨p0,h1.1,by have:=hh.1;omega⟩,fun i a b=>hf i (hh.2 i a b)⟩⟩
  refine⟨h1.1,h1.2,?_⟩
  by_cases e:bQ (dr pg st ws) pg m step= -1
  ·rw[if_pos e] at h
   exact key (eD pg st ws) (fun q hq=>by simpa [eD] using hq) p h hp
  ·rw[if_neg e] at h
   refine key (dr pg st ws) (fun q hq=>?_) p h hp
   unfold dr at hq
   simp at hq
   exact hq.2
 ·rw[if_neg h1] at h;exact absurd h.symm hp
section
variable {pg st:Int}{n:Nat}(H:dh pg st n)
include H
variable {us:Int}{S:Fam}{r:Gh}(hS:S.In (aQ st pg+62) n)(hn:n≤10000)
include hS hn
end
theorem mS {c:Cfg}(R:c.Ok)(u k:Int)(w:World):Calls Tryz.prog 101 #[.agg c.cells,.int .i64 u,.int .i64 k] w (aD w (.int .i64 (eG c.cp c.pg c.st c.ca u k))):=Cv c.wk c.cp c.pg c.st c.tr c.wt c.ck c.pr c.ca c.bi c.ba w u k R
theorem zL {c:Cfg}(R:c.Ok)(k:Int)(w:World):Calls Tryz.prog 102 #[.agg c.cells,.int .i64 k] w (aD w (.int .i64 (oF c.cp c.pg c.st c.ca c.bi k))):=Ec c.wk c.cp c.pg c.st c.tr c.wt c.ck c.pr c.ca c.bi c.ba w k R
theorem wA {d:Cfg}(R:d.Ok){u:Nat}(hu:(u:Int)<d.cp){k:Nat}(hk:k<5):0<eG d.cp d.pg d.st d.ca u k:=by
 obtain⟨a1,a2,_⟩:=kV (d:=d) hu hk
 have:=iY R
 have h2:=R.ca1
 unfold eG
 rw[if_pos (by omega)]
 have:0≤(5 * (u:Int)+k) * (d.ca+1):=Int.mul_nonneg (by omega) (by omega)
 omega
structure DS (c:Cfg)(ws:List Int)(b l:Int)(xs:List Int):Prop where
 st:kx b l ws.length
 keeps:ey ws b l xs
 room:b+1<ws.length
theorem pO {c:Cfg}(R:c.Ok){ws:List Int}(H:dh c.pg c.st ws.length)(hl:ws.length≤1000)(hww:(ws.length:Int)=c.words){r:Gh}{C:Nat→List Int}{O:List (Int×Int)}(F:FrI c.us c.pg c.st ws.length (bV c) r ws C O){i:Nat}(hi:i<(bV c).m):DS c ws ((bV c).b i) ((bV c).l i) (C i):=by
 refine⟨zJ H (tl R hww) (by omega) hi,F.keeps i hi,?_⟩
 have h1:=(uD R).2 i hi
 have h2:=gG R
 have h3:=R.pg1
 have h4:=F.keeps i hi
 have h5:=h4.fit
 have e:c.words=cT c.cp c.pg c.st c.ca c.bi+32 * c.pg:=rfl
 omega
theorem zM {c:Cfg}(R:c.Ok){u k:Nat}(hu:(u:Int)<c.cp)(hk:k<5)(w:World):Calls Tryz.prog 98 #[.agg c.cells,.int .i64 (u:Int),.int .i64 (k:Int)] w (aD w (.bool false)):=by
 have hc:=aI w c.cells 27
 have HC:=hQQ hc
 have HM:Hq (ac w (w.alloc (.cells c.cells 27))):=hQQ ((ac.refl w).alloc _)
 have YC:=hQQ (fun W=>mS R (u:Int) (k:Int) W)
 have z0:(eG c.cp c.pg c.st c.ca u k==0)=false:=by have:=wA R hu hk;simp;omega
 generalize eG c.cp c.pg c.st c.ca u k=z at z0 YC
 clear hc R
 go_enter Tryz.func98,Tryz.ntmps98
 go_wp2_with (first|(refine aH rfl rfl rfl HC.o (by kernel_rfl) ?_)|(refine aH rfl rfl rfl HC.o (by kernel_rfl) ?_))
 refine(YC.o _).mono ?_
 rintro e w1 ⟨rfl,h1⟩
 have M1:=hQQ (HM.o.trans h1)
 clear h1
 go_wp2_with fail
 go_ret
 exact⟨rfl,M1.o⟩
theorem wB {c:Cfg}(R:c.Ok)(ws:List Int)(H:dh c.pg c.st ws.length)(hl:ws.length≤1000)(hww:(ws.length:Int)=c.words){r:Gh}{C:Nat→List Int}{O:List (Int×Int)}(F:FrI c.us c.pg c.st ws.length (bV c) r ws C O)(g cap:Nat)(kd:Nat)(hkd:kd≤3){u k:Nat}(hu:(u:Int)<c.cp)(hk:k<5)(w:World)(hw:Ws w g cap ws):
 Calls Tryz.prog 103 #[.agg c.cells,.slice (some ⟨g,0,none⟩) ws.length cap,.int .i64 (kd:Int),.int .i64 (u:Int),.int .i64 (k:Int)] w (vZ w g cap (.tuple #[.int .i64 (gC c.us c.pg c.st (bV c) (5 * u+k) (5 * c.cp.toNat+k) k kd ws).1.1,.bool (gC c.us c.pg c.st (bV c) (5 * u+k) (5 * c.cp.toNat+k) k kd ws).1.2]) (gC c.us c.pg c.st (bV c) (5 * u+k) (5 * c.cp.toNat+k) k kd ws).2):=by
 obtain⟨G,P⟩:=F.pgs
 have ho:=F.ok
 have GR:=hQQ (fun W (hW:Ws W g cap ws)=>zz R ws H hl P ho g cap (k:Int) W hW)
 have RO:=hQQ (fun W (hW:Ws W g cap ws)=>zy R ws H hl P.ln g cap (k:Int) W hW)
 obtain⟨a1,a2,a3,_⟩:=kV (d:=c) hu hk
 obtain⟨b1,b2,b3,_⟩:=uC (d:=c) (c:=k) (by have:=R.cp1;omega) hk
 have S0:=pO R H hl hww F a1
 have S1:=pO R H hl hww F b1
 rw[a2,a3] at S0
 rw[b2,b3] at S1
 have PC:=hQQ (fun W (hW:Ws W g cap ws)=>uz ws hl S0.st S0.keeps S0.room g cap W hW)
 have PB:=hQQ (fun W (hW:Ws W g cap ws)=>uz ws hl S1.st S1.keeps S1.room g cap W hW)
 have YC:=hQQ (fun W=>mS R (u:Int) (k:Int) W)
 have YB:=hQQ (fun W=>zL R (k:Int) W)
 have e0:gC c.us c.pg c.st (bV c) (5 * u+k) (5 * c.cp.toNat+k) k 0 ws=cF (eG c.cp c.pg c.st c.ca u k) c.ca ws:=by show cF ((bV c).b _) ((bV c).l _) ws=_;rw[a2,a3]
 have e1:gC c.us c.pg c.st (bV c) (5 * u+k) (5 * c.cp.toNat+k) k 1 ws=cF (oF c.cp c.pg c.st c.ca c.bi k) c.bi ws:=by show cF ((bV c).b _) ((bV c).l _) ws=_;rw[b2,b3]
 have e2:gC c.us c.pg c.st (bV c) (5 * u+k) (5 * c.cp.toNat+k) k 2 ws=if od c.pg c.st k ws then dn c.us c.pg c.st k ws else((0,false),ws):=rfl
 have e3:gC c.us c.pg c.st (bV c) (5 * u+k) (5 * c.cp.toNat+k) k 3 ws=dn c.us c.pg c.st k ws:=rfl
 clear S0 S1 a1 a2 a3 b1 b2 b3 F P ho G
 generalize eG c.cp c.pg c.st c.ca u k=bc at YC PC e0
 generalize oF c.cp c.pg c.st c.ca c.bi k=bb at YB PB e1
 generalize dn c.us c.pg c.st k ws=gv at GR e2 e3
 generalize cF bc c.ca ws=pc at PC e0
 generalize cF bb c.bi ws=pb at PB e1
 generalize od c.pg c.st k ws=rv at RO e2
 have E:=hQQ (And.intro e0 (And.intro e1 (And.intro e2 e3)))
 clear e0 e1 e2 e3
 have hc:=aI w c.cells 27
 have HR:=hQQ R
 have HH:=hQQ H
 have hgl:=hw.lt
 obtain⟨w1,e1⟩:∃w1,w.alloc (.cells c.cells 27)=w1:=⟨_,rfl⟩
 have m1:ac w w1:=by rw[←e1];exact(ac.refl w).alloc _
 rw[e1] at hc
 have HC:=hQQ hc
 have HM:=hQQ m1
 have HW:=hQQ (hw.more m1)
 have x2:w1.cell? ⟨w.heap.size,2,none⟩=some (.int .i64 c.pg):=aB hc (ac.refl _) rfl
 have X2:=hQQ x2
 have pg1:=R.pg1
 have pg2:=R.pg2
 clear x2 m1 hw R H hc
 have x8:w1.cell? ⟨w.heap.size,8,none⟩=some (.int .i64 c.ca):=aB HC.o (ac.refl _) rfl
 have x9:w1.cell? ⟨w.heap.size,9,none⟩=some (.int .i64 c.bi):=aB HC.o (ac.refl _) rfl
 have X8:=hQQ x8
 have X9:=hQQ x9
 clear x8 x9
 have hk4:kd=0∨kd=1∨kd=2∨kd=3:=by omega
 rcases hk4 with rfl|rfl|rfl|rfl
 ·rw[E.o.1]
  go_enter Tryz.func103,Tryz.ntmps103
  go_wp2_with fail
  refine fI 8 #[true,true,true,true,true,true,true,true,false,false,false,false,false] (by kernel_rfl) (by kernel_rfl) ?_
  simp only[List.take_succ_cons,List.take_zero]
  iterate 1
   with_reducible refine wpQuiet_step (fun K hK=>?_)
   go_simp
   first
   |(refine hK _ ?_;clear hK K)
   |(apply Exists.intro
     refine⟨fun W hW=>?_,hK _ ?_⟩
     first
     |(go_simp;try rfl)
     clear hK K)
  refine ae rfl 27 _ rfl _ rfl 27 _ _ _ (fun W hW=>hW.block HC.o) Tryz.underlying27 rfl (by kernel_rfl) ?_
  iterate 6
   with_reducible refine wpQuiet_step (fun K hK=>?_)
   go_simp
   first
   |(refine hK _ ?_;clear hK K)
   |(apply Exists.intro
     refine⟨fun W hW=>?_,hK _ ?_⟩
     first
     |(go_at_call 101;exact Calls.more hW (YC.o W))
     |(have xc':=hW.cell X8.o;go_simp;try rfl)
     clear hK K)
  refine wpQuiet_nil ?_
  intro w3 h3
  have T3:Hq (Turned (fun b=>b=g) w1 w3):=hQQ (turned_more h3)
  have X3:=hQQ (HW.o.more h3)
  clear h3
  refine wpAny_ready (rs:=[8]) (by kernel_rfl) (by simp) ?_
  refine AllReady.cons rfl (fun K hK=>?_) AllReady.nil
  rw[if_pos (by kernel_rfl)]
  refine mo (v0:=.slice (some ⟨g,0,none⟩) ws.length cap) (v1:=.int .i64 bc) (v2:=.int .i64 c.ca) rfl rfl rfl rfl (enters_of Tryz.func128 (by kernel_rfl) rfl) ?_
  refine(PC.o w3 X3.o).mono ?_
  rintro e w4 ⟨rfl,hx4,ht4⟩
  have X4:=hQQ hx4
  have T4:=hQQ (Turned.trans T3.o ht4)
  clear hx4 ht4
  refine hK _ _ ?_
  clear hK K
  refine wpAny_take (i:=8+1) (v:=.int .i64 pc.1.1) rfl (by kernel_rfl) (by kernel_rfl) (by kernel_rfl) (fun _ _ _ h=>h) (Or.inl ⟨by rfl,fun W=>by go_simp⟩) ?_
  refine wpAny_take (i:=8+2) (v:=.bool pc.1.2) rfl (by kernel_rfl) (by kernel_rfl) (by kernel_rfl) (fun _ _ _ h=>h) (Or.inl ⟨by rfl,fun W=>by go_simp⟩) ?_
  refine wpAny_take (i:=8+3) (v:=.int .i64 pc.1.1) rfl (by kernel_rfl) (by kernel_rfl) (by kernel_rfl) (fun _ _ _ h=>h) (Or.inl ⟨by rfl,fun W=>by go_simp⟩) ?_
  refine wpAny_take (i:=8+4) (v:=.bool pc.1.2) rfl (by kernel_rfl) (by kernel_rfl) (by kernel_rfl) (fun _ _ _ h=>h) (Or.inl ⟨by rfl,fun W=>by go_simp⟩) ?_
  refine wpAny_done (by kernel_rfl) ?_ _
  go_wp2_with fail
  go_ret2
  exact⟨rfl,X4.o,Turned.trans (turned_more HM.o) T4.o⟩
 ·rw[E.o.2.1]
  go_enter Tryz.func103,Tryz.ntmps103
  go_wp2_with fail
  refine fI 7 #[true,true,true,true,true,true,true,false,false,false,false,false] (by kernel_rfl) (by kernel_rfl) ?_
  simp only[List.take_succ_cons,List.take_zero]
  iterate 1
   with_reducible refine wpQuiet_step (fun K hK=>?_)
   go_simp
   first
   |(refine hK _ ?_;clear hK K)
   |(apply Exists.intro
     refine⟨fun W hW=>?_,hK _ ?_⟩
     first
     |(go_simp;try rfl)
     clear hK K)
  refine ae rfl 27 _ rfl _ rfl 27 _ _ _ (fun W hW=>hW.block HC.o) Tryz.underlying27 rfl (by kernel_rfl) ?_
  iterate 5
   with_reducible refine wpQuiet_step (fun K hK=>?_)
   go_simp
   first
   |(refine hK _ ?_;clear hK K)
   |(apply Exists.intro
     refine⟨fun W hW=>?_,hK _ ?_⟩
     first
     |(go_at_call 102;exact Calls.more hW (YB.o W))
     |(have xc':=hW.cell X9.o;go_simp;try rfl)
     clear hK K)
  refine wpQuiet_nil ?_
  intro w3 h3
  have T3:Hq (Turned (fun b=>b=g) w1 w3):=hQQ (turned_more h3)
  have X3:=hQQ (HW.o.more h3)
  clear h3
  refine wpAny_ready (rs:=[7]) (by kernel_rfl) (by simp) ?_
  refine AllReady.cons rfl (fun K hK=>?_) AllReady.nil
  rw[if_pos (by kernel_rfl)]
  refine mo (v0:=.slice (some ⟨g,0,none⟩) ws.length cap) (v1:=.int .i64 bb) (v2:=.int .i64 c.bi) rfl rfl rfl rfl (enters_of Tryz.func128 (by kernel_rfl) rfl) ?_
  refine(PB.o w3 X3.o).mono ?_
  rintro e w4 ⟨rfl,hx4,ht4⟩
  have X4:=hQQ hx4
  have T4:=hQQ (Turned.trans T3.o ht4)
  clear hx4 ht4
  refine hK _ _ ?_
  clear hK K
  refine wpAny_take (i:=7+1) (v:=.int .i64 pb.1.1) rfl (by kernel_rfl) (by kernel_rfl) (by kernel_rfl) (fun _ _ _ h=>h) (Or.inl ⟨by rfl,fun W=>by go_simp⟩) ?_
  refine wpAny_take (i:=7+2) (v:=.bool pb.1.2) rfl (by kernel_rfl) (by kernel_rfl) (by kernel_rfl) (fun _ _ _ h=>h) (Or.inl ⟨by rfl,fun W=>by go_simp⟩) ?_
  refine wpAny_take (i:=7+3) (v:=.int .i64 pb.1.1) rfl (by kernel_rfl) (by kernel_rfl) (by kernel_rfl) (fun _ _ _ h=>h) (Or.inl ⟨by rfl,fun W=>by go_simp⟩) ?_
  refine wpAny_take (i:=7+4) (v:=.bool pb.1.2) rfl (by kernel_rfl) (by kernel_rfl) (by kernel_rfl) (fun _ _ _ h=>h) (Or.inl ⟨by rfl,fun W=>by go_simp⟩) ?_
  refine wpAny_done (by kernel_rfl) ?_ _
  go_wp2_with fail
  go_ret2
  exact⟨rfl,X4.o,Turned.trans (turned_more HM.o) T4.o⟩
 ·rw[E.o.2.2.1]
  clear E
  cases rv with
  |false =>
   rw[if_neg (by simp)]
   go_enter Tryz.func103,Tryz.ntmps103
   go_wp2_with (first|(refine aH rfl rfl rfl HC.o (by kernel_rfl) ?_)|(refine aH rfl rfl rfl HC.o (by kernel_rfl) ?_))
   refine(RO.o _ HW.o).mono ?_
   rintro e w2 ⟨rfl,h2⟩
   have T2:Hq (Turned (fun b=>b=g) w1 w2):=hQQ (turned_more h2)
   have X2':=hQQ (HW.o.more h2)
   clear h2
   go_wp2_with fail
   go_ret2
   exact⟨rfl,X2'.o,Turned.trans (turned_more HM.o) T2.o⟩
  |true =>
   rw[if_pos rfl]
   go_enter Tryz.func103,Tryz.ntmps103
   go_wp2_with (first|(refine aH rfl rfl rfl HC.o (by kernel_rfl) ?_)|(refine aH rfl rfl rfl HC.o (by kernel_rfl) ?_))
   refine(RO.o _ HW.o).mono ?_
   rintro e w2 ⟨rfl,h2⟩
   have T2:Hq (Turned (fun b=>b=g) w1 w2):=hQQ (turned_more h2)
   have X2':=hQQ (HW.o.more h2)
   have HL2:=hQQ (h2.block HC.o)
   clear h2
   go_wp2_with (first|(refine aH rfl rfl rfl HL2.o (by kernel_rfl) ?_)|(refine aH rfl rfl rfl HL2.o (by kernel_rfl) ?_))
   refine(GR.o _ X2'.o).mono ?_
   rintro e w4 ⟨rfl,hx4,ht4⟩
   have X4:=hQQ hx4
   have T4:=hQQ (Turned.trans T2.o ht4)
   clear hx4 ht4
   go_wp2_with fail
   go_ret2
   exact⟨rfl,X4.o,Turned.trans (turned_more HM.o) T4.o⟩
 ·rw[E.o.2.2.2]
  go_enter Tryz.func103,Tryz.ntmps103
  go_wp2_with (first|(refine aH rfl rfl rfl HC.o (by kernel_rfl) ?_)|(refine aH rfl rfl rfl HC.o (by kernel_rfl) ?_))
  refine(GR.o _ HW.o).mono ?_
  rintro e w4 ⟨rfl,hx4,ht4⟩
  have X4:=hQQ hx4
  have T4:=hQQ ht4
  clear hx4 ht4
  go_wp2_with fail
  go_ret2
  exact⟨rfl,X4.o,Turned.trans (turned_more HM.o) T4.o⟩
def zN (P:Nat→List Int)(c:Int):List Int:=if fB c then P c.toNat else []
section
variable {H:Type}{enc:TypeId×Value→H}{P:Program}{w:World}{base:Nat}{spare:Nat→Bool}{held:Bool}
end
theorem ik {w w1 w2:World}{S:Nat→Prop}(m:ac w w1)(t:Turned S w1 w2)(hs:∀k,S k→w.heap.size≤k):ac w w2 :=
 ⟨t.os.trans m.os,t.tape.trans m.tape,t.output.trans m.output,Nat.le_trans m.size t.size,fun k hk _=>by
  rw[t.block k (Nat.lt_of_lt_of_le hk m.size) (fun q=>by have:=hs k q;omega)];exact Turned.block m k hk (fun q=>q)⟩
abbrev It:=Int×Int
def itCells (its:List It):List Value:=its.flatMap fun p=> [.int .i64 p.1,.int .i64 p.2]
theorem mT (a b:List It):itCells (a++b)=itCells a++itCells b:=by simp[itCells]
theorem ee (p:It)(ps:List It):itCells (p::ps)=.int .i64 p.1:: .int .i64 p.2::itCells ps:=by simp[itCells]
theorem gy:∀ps:List It,(itCells ps).length=ps.length * 2
 | []=>rfl
 |p::ps=>by rw[ee,List.length_cons,List.length_cons,gy ps,List.length_cons];omega
theorem ly:∀(ps:List It) (i:Nat) (p:It),ps[i]?=some p→(itCells ps)[i * 2]?=some (.int .i64 p.1)∧(itCells ps)[i * 2+1]?=some (.int .i64 p.2)
 | [],i,p,h=>by cases h
 |q::ps,0,p,h=>by
  simp at h;subst h
  rw[ee];exact⟨rfl,rfl⟩
 |q::ps,i+1,p,h=>by
  have:=ly ps i p (by simpa using h)
  rw[ee,show(i+1) * 2=i * 2+1+1 by omega]
  exact this
theorem rr {ps:List It} :∀u∈itCells ps,u.oneCell'=true:=by
 intro u hu
 obtain⟨p,_,hp⟩:=List.mem_flatMap.1 hu
 rcases List.mem_cons.1 hp with rfl|hp
 ·rfl
 ·obtain rfl:=List.mem_singleton.1 hp;rfl
theorem pP (ps:List It)(i:Nat):itCells (ps.take i)=(itCells ps).take (i * 2):=by
 induction ps generalizing i with
 |nil=>simp[itCells]
 |cons p ps ih =>
  cases i with
  |zero=>simp[itCells]
  |succ i=>rw[List.take_succ_cons,ee,ee,ih,show(i+1) * 2=i * 2+1+1 by omega];rfl
theorem pQ (ps:List It)(i:Nat):itCells (ps.drop i)=(itCells ps).drop (i * 2):=by
 induction ps generalizing i with
 |nil=>simp[itCells]
 |cons p ps ih =>
  cases i with
  |zero=>simp
  |succ i=>rw[List.drop_succ_cons,ee,ih,show(i+1) * 2=i * 2+1+1 by omega];rfl
theorem wC:∃i:TypeInfo,Tryz.prog.info? 141=some i∧i.zero=some (.agg #[.int .i64 0,.int .i64 0])∧i.size=2∧i.bytes=16:=by
 have h1:(Tryz.prog.info? 141).map (·.size)=some 2:=by kernel_rfl
 have h2:(Tryz.prog.info? 141).bind (·.zero)=some (.agg #[.int .i64 0,.int .i64 0]):=by kernel_rfl
 have h3:(Tryz.prog.info? 141).map (·.bytes)=some 16:=by kernel_rfl
 cases q:Tryz.prog.info? 141 with
 |none=>rw[q] at h1;simp at h1
 |some i=>rw[q] at h1 h2 h3;exact⟨i,rfl,by simpa using h2,by simpa using h1,by simpa using h3⟩
def IR (base:Nat)(w:World)(v:Value)(its:List It):Prop:=w.ownsRow base 141 2 v its.length (itCells its)
theorem IR.nil (base:Nat)(w:World):IR base w (.slice none 0 0) []:=World.ownsRow_nil w base _ 2
theorem IR.more {base:Nat}{w w':World}{v:Value}{its:List It}(h:IR base w v its)(m:ac w w'):IR base w' v its:=jX h m
theorem IR.low {base base':Nat}{w:World}{v:Value}{its:List It}(h:IR base w v its)(hb:base'≤base):IR base' w v its:=gm h hb
theorem IR.keep {base:Nat}{w w':World}{v:Value}{its:List It}(h:IR base w v its){S:Nat→Prop}(t:Turned S w w')(hs:∀k,S k→∃cs T fr,w.heap[k]?=some (.cells cs T fr)∧T≠141):IR base w' v its:=by
 refine⟨h.1,?_⟩
 rcases h.2 with q|⟨g,cap,cur,h1,h2,h3,h4⟩
 ·exact .inl q
 ·refine .inr ⟨g,cap,cur,h1,h2,?_,h4⟩
  rw[t.block g (af h3) (fun q=>by
   obtain⟨cs,T,fr,e,hne⟩:=hs g q
   rw[h3] at e;cases e;exact hne rfl)]
  exact h3
theorem IR.one {base:Nat}{w:World}{v:Value}{its:List It}(h:IR base w v its):v.oneCell'=true:=by
 rcases h.2 with⟨rfl,_⟩|⟨g,cap,cur,rfl,_⟩<;>rfl
theorem IR.reads {base:Nat}{w:World}{v:Value}{its:List It}(h:IR base w v its):
 ∃a cap,v=.slice a its.length cap∧its.length≤cap∧(a=none→cap=0)∧∀g,a=some g→g=⟨g.block,0,none⟩∧∀j u,(itCells its)[j]?=some u→w.cell? ⟨g.block,j,none⟩=some u:=by
 rcases h.2 with⟨rfl,h0⟩|⟨g,cap,cur,rfl,hb,hg,hn,_,hs,ht⟩
 ·exact⟨none,0,by rw[h0],by omega,fun _=>rfl,fun g q=>by cases q⟩
 ·refine⟨_,cap,rfl,hn,(fun q=>by cases q),fun q hq=>?_⟩
  cases hq
  refine⟨rfl,fun j u hj=>?_⟩
  have hj':j<its.length * 2:=by have:=(List.getElem?_eq_some_iff.1 hj).1;rw[gy] at this;exact this
  have e:cur.toList[j]?=some u:=by
   have h1:(cur.toList.take (its.length * 2))[j]?=some u:=by rw[ht];exact hj
   rw[List.getElem?_take,if_pos (by omega)] at h1
   exact h1
  simp[World.cell?,hg]
  simpa using e
theorem IR.at {base:Nat}{w:World}{v:Value}{its:List It}(h:IR base w v its):∃a cap,v=.slice a its.length cap∧its.length≤cap∧(a=none→cap=0)∧∀k p,its[k]?=some p→∃g,a=some ⟨g,0,none⟩∧w.cell? ⟨g,k * 2,none⟩=some (.int .i64 p.1)∧w.cell? ⟨g,k * 2+1,none⟩=some (.int .i64 p.2):=by
 obtain⟨a,cap,rfl,hc,h0,hr⟩:=h.reads
 refine⟨a,cap,rfl,hc,h0,fun k p hk=>?_⟩
 have hlt:=(List.getElem?_eq_some_iff.1 hk).1
 cases a with
 |none=>have:=h0 rfl;omega
 |some g =>
  obtain⟨e,hcell⟩:=hr g rfl
  obtain⟨q1,q2⟩:=ly its k p hk
  exact⟨g.block,by rw[←e],hcell _ _ q1,hcell _ _ q2⟩
def tp (w:World)(u:Value)(news:List It):Prop:=(u=.slice none 0 0∧news= [])∨∃p c,u=.slice (some p) news.length c∧∀j x,(itCells news)[j]?=some x→w.cell? (p.add j)=some x
theorem ko {o:Oper}{a:Act}{K:Act→World→Prop}{Q:Exit→Act→World→Prop}{w:World}{base:Nat}{v u:Value}{its news:List It}(s x:Operand)
 (ho:o.op=.call { callee:= .builtin .append,args:= #[s,x],argTypes:= #[60,60] })
 (hs:a.eval s=v) (hv:IR base w v its) (hb:base≤w.heap.size) (hx:a.eval x=u) (hu:tp w u news) (hl:its.length+news.length≤1000000)
 (h:∀v' w',IR base w' v' (its++news)→Turned (fun k=>v.ownBlock=some k) w w'→(∀k,v'.ownBlock=some k→v.ownBlock=some k∨k=w.heap.size)→K (a.put o.dst v') w'):o.wp Tryz.prog a w K Q:=by
 obtain⟨i,i1,i2,i3,i4⟩:=wC
 rcases hu with⟨rfl,rfl⟩|⟨p,c,rfl,hc⟩
 ·have hrun:=run_append_owned_none (P:=Tryz.prog) (w:=w) base 60 o.type 141 i 2 Tryz.underlying60 i1 v its.length _ hv
  unfold Oper.wp
  simp[execOp,ho,resolve,invoke,builtin,hs,hx,hrun,Result.andThen]
  exact h _ _ (by simpa using hv) (Turned.refl _ _) (fun k q=> .inl q)
 ·obtain⟨v',w',hr,h2,h3,_,h5⟩:=run_append_own_at (P:=Tryz.prog) w base 60 o.type 141 i _ 2 16 Tryz.underlying60 i1 i2 i3 i4 rfl (by omega) v its.length _ hv p news.length c (itCells news) (gy news) hc rr (by simp only[maxLen];omega) (by omega) hb
  unfold Oper.wp execOp
  simp only[ho,resolve,invoke,builtin,Sem.run_bind,Sem.run_pure,Result.andThen_ok,List.map_toArray,List.map_cons,List.map_nil,hs,hx,hr]
  refine h v' w' ?_ ⟨h3.os,h3.tape,h3.output,h3.size,fun k hk hne=>h3.block k hk (fun e=>hne e.symm)⟩ (fun k q=>?_)
  ·unfold IR
   rw[List.length_append,mT]
   exact h2
  ·rcases h5 with h5|h5
   ·exact .inl (by rw[←h5];exact q)
   ·rw[h5] at q;cases q;exact .inr rfl
theorem uF (c:Int)(w:World):Calls Tryz.prog 131 #[.int .i64 c] w (aD w (.bool (fB c))):=by
 by_cases h0:0≤c
 ·have d0:decide (0≤c)=true:=by simp[h0]
  go_enter Tryz.func131,Tryz.ntmps131
  go_wp2_with fail
  go_ret
  exact⟨by simp[fB,d0],ac.refl _⟩
 ·have d0:decide (0≤c)=false:=by simp;omega
  go_enter Tryz.func131,Tryz.ntmps131
  go_wp2_with fail
  go_ret
  exact⟨by simp[fB,d0],ac.refl _⟩
def dK (its:List It)(c:Int):List Int:=(its.filter (fun p=>p.1==c)).map (·.2)
theorem tq (its:List It)(c:Int){k:Nat}{p:It}(h:its[k]?=some p):dK (its.take (k+1)) c=if p.1=c then dK (its.take k) c++ [p.2] else dK (its.take k) c:=by
 have e:its.take (k+1)=its.take k++ [p]:=by rw[List.take_add_one,h];rfl
 rw[e]
 unfold dK
 rw[List.filter_append,List.map_append]
 by_cases q:p.1=c<;>simp[q]
theorem wD (its:List It)(c:Int):(dK its c).length≤its.length:=by
 unfold dK
 rw[List.length_map]
 exact List.length_filter_le _ _
theorem zO (v:Value)(its:List It)(c:Int)(w:World)(h:IR 0 w v its)(hl:its.length≤1000000):
 Calls Tryz.prog 109 #[.agg #[v],.int .i64 c] w (qs w (dK its c)):=by
 obtain⟨w1,e1,hl1,m1,s1⟩:=en1 w (.cells #[v] 62)
 have M1:=hQQ m1
 obtain⟨a,cap,rfl,_,_,hr⟩:=(h.more m1).at
 have c0:w1.cell? ⟨w.heap.size,0,none⟩=some (.slice a its.length cap):=by simp[World.cell?,hl1]
 have H1:=hQQ hr
 have C0:=hQQ c0
 have HL:=hQQ hl
 clear m1 h s1 hl1 hr hl
 go_enter Tryz.func109,Tryz.ntmps109
 go_wp2_with fail
 go_loopw [6,5] (fun i v wr=>∃k:Nat,k≤its.length∧i=.int .i64 k∧Rw w1.heap.size wr v (dK (its.take k) c)∧ac w1 wr) (fun i _ _=>its.length-(intOf i).toNat)
 case atStart=>exact⟨0,Nat.zero_le _,rfl,Rw.nil _ _,ac.refl _⟩
 case round =>
  obtain⟨k,hk,rfl,hr,ht⟩:=hrel
  have x0:=ht.cell C0.o
  by_cases hlt:k<its.length
  ·obtain⟨p,hp⟩:∃p,its[k]?=some p:=⟨_,List.getElem?_eq_getElem hlt⟩
   obtain⟨g,rfl,hc1,hc2⟩:=H1.o k p hp
   have x1:=ht.cell hc1
   have x2:=ht.cell hc2
   have NX:=hQQ (tq its c hp)
   have R:=hQQ hr
   have HT:=hQQ ht
   have HLL:=hQQ (show(dK (its.take k) c).length≤1000000 by have h1:=wD (its.take k) c;rw[List.length_take] at h1;have:=HL.o;omega)
   obtain⟨p1,p2⟩:=p
   simp only at x1 x2 NX
   have hh:=HL.o
   clear hp hc1 hc2 hr ht
   by_cases e:p1=c
   ·have d0:(p1==c)=true:=by simp[e]
    have d1:decide (p1=c)=true:=by simp[e]
    have NX:=hQQ (NX.o.trans (if_pos e))
    clear e
    go_wp2_with (at_builtin
                 refine iG p2 rfl _ _ rfl rfl R.o HT.o HLL.o rfl ?_
                 intro v' w3 r3 m3
                 have R3:=hQQ r3
                 have M3:=hQQ m3
                 clear r3 m3)
    go_roundw
    case rel=>exact⟨k+1,by omega,by go_num,by rw[NX.o];exact R3.o,M3.o⟩
    case measure=>simp[intOf];omega
   ·have d0:(p1==c)=false:=by simp[e]
    have d1:decide (p1=c)=false:=by simp[e]
    have NX:=hQQ (NX.o.trans (if_neg e))
    clear e
    go_wp2_with fail
    go_roundw
    case rel=>exact⟨k+1,by omega,by go_num,by rw[NX.o];exact R.o,HT.o⟩
    case measure=>simp[intOf];omega
  ·obtain rfl:k=its.length:=by omega
   have FIN:=hQQ (hr.mono (show w.heap.size≤w1.heap.size from M1.o.size))
   rw[List.take_length] at FIN
   have M2:=hQQ (M1.o.trans ht)
   clear hr ht
   go_wp2_with fail
   go_ret
   exact⟨_,rfl,FIN.o,M2.o⟩
def il (its:List It)(c l:Int):Bool:=fB c && decide (((dK its c).length:Int)<l)
def jt (its:List It)(c a l:Int):List It:=if il its c l then its++ [(c,a)] else its
def gi (w:World)(its:List It)(val:Value→Value)(e:Ending)(w':World):Prop:=∃v,e=.returned (val (.agg #[v]))∧IR 0 w' v its∧ac w w'
theorem uG (w:World):IR w.heap.size (w.alloc (.cells #[] 141)) (.slice (some ⟨w.heap.size,0,none⟩) 0 0) [] :=
 ⟨rfl,.inr ⟨_,0,_,rfl,Nat.le_refl _,bd w _,Nat.le_refl _,by simp[maxLen],rfl,rfl⟩⟩
theorem uH {base:Nat}{w:World}{v:Value}{its:List It}(h:IR base w v its):tp w v its:=by
 rcases h.2 with⟨rfl,h0⟩|⟨g,cap,cur,rfl,hb,hg,hn,_,hs,ht⟩
 ·exact .inl ⟨rfl,List.length_eq_zero_iff.1 h0⟩
 ·refine .inr ⟨_,cap,rfl,fun j x hj=>?_⟩
  obtain⟨a,c,e,_,_,hr⟩:=h.reads
  cases e
  rw[fy]
  simpa using (hr _ rfl).2 j x hj
theorem zP (w:World)(c a:Int):tp (w.alloc (.cells #[.int .i64 c,.int .i64 a] 141)) (.slice (some ⟨w.heap.size,0,none⟩) 1 1) [(c,a)] :=
 .inr ⟨_,1,rfl,fun j x hj=>World.news_of_block (bd w _) j x (by simpa [itCells] using hj)⟩
theorem IR.own {base:Nat}{w:World}{v:Value}{its:List It}(h:IR base w v its):∀k,v.ownBlock=some k→base≤k:=by
 intro k q
 rcases h.2 with⟨rfl,_⟩|⟨g,cap,cur,rfl,hb,_⟩
 ·cases q
 ·cases q;exact hb
theorem wE (v:Value)(its:List It)(c a l:Int)(w:World)(h:IR 0 w v its)(hl:its.length≤1000000)(hb:il its c l=false):
 Calls Tryz.prog 104 #[.agg #[v],.int .i64 c,.int .i64 a,.int .i64 l] w (gi w its (fun v=> .tuple #[v,.bool false])):=by
 obtain⟨w2,e2,hl1,hl2,m2,s2⟩:=en2 w (.cells #[v] 62) (.cells #[.slice none 0 0] 62)
 have L1:=hQQ hl1
 have L2:=hQQ hl2
 have M2:=hQQ m2
 have HP:=hQQ (h.more m2)
 have HC:=hQQ (fun W=>uF c W)
 have HL:=hQQ (fun W (hW:ac w2 W)=>zO v its c W (HP.o.more hW) hl)
 have H1:Hq ((#[v]:Array Value).all (·.oneCell')=true):=hQQ (by simp[h.one])
 have FIN:Hq (∀W,ac w2 W→gi w its (fun v=> .tuple #[v,.bool false]) (.returned (.tuple #[.agg #[v],.bool false])) (W.setRow (w.heap.size+1) #[v])):=hQQ fun W hW =>
  ⟨v,rfl,(HP.o.more hW).keep (S:=fun k=>k=w.heap.size+1) (Turned.setRow (Turned.refl _ W) _ _ (fun _=>rfl)) (fun k q=>by subst q;exact⟨_,_,_,hW.block L2.o,by decide⟩),(M2.o.trans hW).setRow _ _ (by omega)⟩
 clear hl1 hl2 m2 h s2
 cases hc:fB c with
 |false =>
  rw[hc] at HC
  clear hc hb HL
  go_enter Tryz.func104,Tryz.ntmps104
  go_wp2_with fail
  refine(HC.o w2).mono ?_
  rintro e w4 ⟨rfl,h4⟩
  have M4:=hQQ h4
  clear h4
  go_wp2_with (first|(refine wpList_load_row rfl 62 _ rfl _ rfl 62 _ _ _ (M4.o.block L1.o) Tryz.underlying62 rfl (by kernel_rfl) ?_)|(refine wpList_store_row rfl 62 _ _ rfl _ _ rfl rfl 62 _ (M4.o.block L2.o) (by kernel_rfl) rfl H1.o ?_))
  refine bodyPost_ret (v:=.tuple #[.agg #[v],.bool false]) (pM Tryz.results104 _ _ _ 62 _ (0,0) _ rfl (setRow_heap _ _ _ _ _ _ (M4.o.block L2.o)) Tryz.underlying62 rfl (by kernel_rfl)) rfl (FIN.o _ M4.o)
 |true =>
  rw[hc] at HC
  obtain⟨n,hn⟩:∃n,(dK its c).length=n:=⟨_,rfl⟩
  have hb2:decide (l≤(n:Int))=true:=by simp[il,hc,hn] at hb;simpa using hb
  have HN:=hQQ hn
  clear hc hb hn
  go_enter Tryz.func104,Tryz.ntmps104
  go_wp2_with fail
  refine(HC.o w2).mono ?_
  rintro e w3 ⟨rfl,h3⟩
  have M3:=hQQ h3
  clear h3
  go_wp2_with (first|(refine wpList_load_row rfl 62 _ rfl w.heap.size rfl 62 _ _ _ (M3.o.block L1.o) Tryz.underlying62 rfl (by kernel_rfl) ?_)|(refine cB rfl 62 _ rfl w.heap.size rfl 62 _ _ _ (M3.o.block L1.o) Tryz.underlying62 rfl (by kernel_rfl) ?_))
  refine(HL.o w3 M3.o).mono ?_
  rintro e w4 ⟨v4,rfl,h4,m4⟩
  obtain⟨a4,c4,rfl,_⟩:=h4.reads
  rw[HN.o]
  have M4:=hQQ (M3.o.trans m4)
  clear h4 m4
  go_wp2_with (first|(refine wpList_load_row rfl 62 _ rfl _ rfl 62 _ _ _ (M4.o.block L1.o) Tryz.underlying62 rfl (by kernel_rfl) ?_)|(refine wpList_store_row rfl 62 _ _ rfl _ _ rfl rfl 62 _ (M4.o.block L2.o) (by kernel_rfl) rfl H1.o ?_))
  refine bodyPost_ret (v:=.tuple #[.agg #[v],.bool false]) (pM Tryz.results104 _ _ _ 62 _ (0,0) _ rfl (setRow_heap _ _ _ _ _ _ (M4.o.block L2.o)) Tryz.underlying62 rfl (by kernel_rfl)) rfl (FIN.o _ M4.o)
theorem tt (v:Value)(its:List It)(c a l:Int)(w:World)(h:IR 0 w v its)(hl:its.length≤100000)(hc:fB c=true)(hb:((dK its c).length:Int)<l):
 Calls Tryz.prog 104 #[.agg #[v],.int .i64 c,.int .i64 a,.int .i64 l] w (gi w (its++ [(c,a)]) (fun v=> .tuple #[v,.bool true])):=by
 obtain⟨w2,e2,hl1,hl2,m2,s2⟩:=en2 w (.cells #[v] 62) (.cells #[.slice none 0 0] 62)
 have L1:=hQQ hl1
 have L2:=hQQ hl2
 have M2:=hQQ m2
 have HP:=hQQ (h.more m2)
 have HC:=hQQ (fun W=>uF c W)
 rw[hc] at HC
 have HL:=hQQ (fun W (hW:ac w2 W)=>zO v its c W (HP.o.more hW) (by omega))
 obtain⟨n,hn⟩:∃n,(dK its c).length=n:=⟨_,rfl⟩
 have hb2:decide (l≤(n:Int))=false:=by rw[hn] at hb;simp;omega
 have HN:=hQQ hn
 have LL:=hQQ hl
 obtain⟨av,cv,rfl,_,_⟩:=h.reads
 have c0:w2.cell? ⟨w.heap.size,0,none⟩=some (.slice av its.length cv):=by simp[World.cell?,hl1]
 have C0:=hQQ c0
 clear hl1 hl2 m2 h s2 hn hb hc hl c0
 go_enter Tryz.func104,Tryz.ntmps104
 go_wp2_with fail
 refine(HC.o w2).mono ?_
 rintro e w3 ⟨rfl,h3⟩
 have M3:=hQQ h3
 clear h3
 go_wp2_with (first|(refine wpList_load_row rfl 62 _ rfl w.heap.size rfl 62 _ _ _ (M3.o.block L1.o) Tryz.underlying62 rfl (by kernel_rfl) ?_)|(refine cB rfl 62 _ rfl w.heap.size rfl 62 _ _ _ (M3.o.block L1.o) Tryz.underlying62 rfl (by kernel_rfl) ?_))
 refine(HL.o w3 M3.o).mono ?_
 rintro e w4 ⟨v4,rfl,h4,m4⟩
 obtain⟨a4,c4,rfl,_⟩:=h4.reads
 rw[HN.o]
 have M4:=hQQ (M3.o.trans m4)
 have x0:=(M4.o.alloc (.cells #[] 141)).cell C0.o
 have Z4:=hQQ (uG w4)
 have S4:=hQQ (uH (HP.o.more (M4.o.alloc (.cells #[] 141))))
 clear h4 m4
 have F8:Hq (∀w6 v6,ac w2 w6→IR w4.heap.size w6 v6 (its++ [(c,a)])→gi w (its++ [(c,a)]) (fun v=> .tuple #[v,.bool true]) (.returned (.tuple #[.agg #[v6],.bool true])) (w6.setRow (w.heap.size+1) #[v6])):=hQQ fun w6 v6 m r =>
  ⟨v6,rfl,(r.low (Nat.zero_le _)).keep (S:=fun k=>k=w.heap.size+1) (Turned.setRow (Turned.refl _ w6) _ _ (fun _=>rfl)) (fun k q=>by subst q;exact⟨_,_,_,m.block L2.o,by decide⟩),(M2.o.trans m).setRow _ _ (by omega)⟩
 go_wp2_with (first
  |(at_builtin
    refine wpList_plain rfl fun K hK=>ko _ _ rfl rfl Z4.o (by simp) rfl S4.o (by have:=LL.o;simp;omega) ?_
    intro v5 w5 r5 t5 k5
    refine hK _ _ ?_
    have M5:Hq (ac w2 w5):=hQQ (ik (M4.o.alloc _) t5 (fun k q=>by cases q;exact M4.o.size))
    have R5:Hq (IR w4.heap.size w5 v5 its):=hQQ (by simpa using r5)
    have G5:Hq (w4.heap.size≤w5.heap.size):=hQQ (by have:=t5.size;simp at this;omega)
    clear r5 t5 k5 x0 hK K S4 Z4)
  |(at_builtin
    refine wpList_plain rfl fun K hK=>ko _ _ rfl rfl (R5.o.more ((ac.refl _).alloc _)) (by have:=G5.o;simp;omega) rfl (zP _ _ _) (by have:=LL.o;simp;omega) ?_
    intro v6 w6 r6 t6 k6
    refine hK _ _ ?_
    obtain⟨a6,c6,hv6,_⟩:=r6.reads
    rw[show(its++ [(c,a)]).length=its.length+1 by simp] at hv6
    subst hv6
    have M6:Hq (ac w2 w6):=hQQ (ik (M5.o.alloc _) t6 (fun k q=>by have:=R5.o.own k q;have:=M4.o.size;omega))
    have O6:Hq ((#[.slice a6 (its.length+1) c6]:Array Value).all (·.oneCell')=true):=hQQ (by simp[Value.oneCell'])
    have F6:=hQQ (F8.o w6 _ M6.o r6)
    clear r6 t6 k6 hK K)
  |(refine wpList_store_row rfl 62 _ _ rfl _ _ rfl rfl 62 _ (M6.o.block L2.o) (by kernel_rfl) rfl O6.o ?_))
 refine bodyPost_ret (v:=.tuple #[.agg #[.slice a6 (its.length+1) c6],.bool true]) (pM Tryz.results104 _ _ _ 62 _ (0,0) _ rfl (setRow_heap _ _ _ _ _ _ (M6.o.block L2.o)) Tryz.underlying62 rfl (by kernel_rfl)) rfl F6.o
theorem tu (v:Value)(its:List It)(c a l:Int)(w:World)(h:IR 0 w v its)(hl:its.length≤100000):
 Calls Tryz.prog 104 #[.agg #[v],.int .i64 c,.int .i64 a,.int .i64 l] w (gi w (jt its c a l) (fun v=> .tuple #[v,.bool (il its c l)])):=by
 cases hb:il its c l with
 |false =>
  have:=wE v its c a l w h (by omega) hb
  simpa [jt,hb] using this
 |true =>
  have hb':=hb
  simp[il] at hb'
  have:=tt v its c a l w h hl hb'.1 hb'.2
  simpa [jt,hb] using this
section
variable {ops:Array Oper}{C:World→Prop}{o':Oper}{a:Act}
theorem lE {x y:Operand}{g n cap m:Nat}(hw:Region.wanted o' (yielded ops a.tmps)=true)(ho:o'.op=.slice 60 x none (some y) none)(hx:a.eval x=.slice (some ⟨g,0,none⟩) n cap)(hy:a.eval y=.int .i64 (m:Int))(hm:m≤cap):bS Tryz.prog ops C o' (.slice (some ⟨g,0,none⟩) m cap) a:=by
 have d1:decide (m≤cap)=true:=by simp[hm]
 refine .inl ⟨hw,fun W hW=>?_⟩
 unfold execOp
 generalize a.eval=ρ at hx hy⊢
 simp only[ho,hx,hy]
 go_simp
theorem mU {x:Operand}{v:Option Addr}{n c:Nat}(hw:Region.wanted o' (yielded ops a.tmps)=true)(ho:o'.op=.build 62 #[(0,x)])(hx:a.eval x=.slice v n c):bS Tryz.prog ops C o' (.agg #[.slice v n c]) a:=by
 refine .inl ⟨hw,fun W hW=>?_⟩
 unfold execOp
 generalize a.eval=ρ at hx⊢
 simp only[ho]
 go_simp
def hiA (g m cap:Nat):Addr:=if cap=m+1 then⟨g,0,none⟩ else⟨g,(m+1) * 2,none⟩
theorem lF {x y:Operand}{g n cap m:Nat}(hw:Region.wanted o' (yielded ops a.tmps)=true)(ho:o'.op=.slice 60 x (some y) none none)(hx:a.eval x=.slice (some ⟨g,0,none⟩) n cap)(hy:a.eval y=.int .i64 ((m:Int)+1))(hm:m<n)(hn:n≤cap):bS Tryz.prog ops C o' (.slice (some (hiA g m cap)) (n-(m+1)) (cap-(m+1))) a:=by
 refine .inl ⟨hw,fun W hW=>?_⟩
 unfold execOp
 generalize a.eval=ρ at hx hy⊢
 simp only[ho,hx,hy]
 go_simp
 rw[if_pos ⟨by omega,by omega⟩]
 unfold hiA
 split<;>rfl
theorem pR {x y:Operand}{g n cap m:Nat}(hw:Region.wanted o' (yielded ops a.tmps)=true)(ho:o'.op=.indexAddr 60 x y)(hx:a.eval x=.slice (some ⟨g,0,none⟩) n cap)(hy:a.eval y=.int .i64 (m:Int))(hm:m<n):bS Tryz.prog ops C o' (.pointer (some ⟨g,m * 2,none⟩)) a:=by
 have d1:decide (m<n)=true:=by simp[hm]
 refine .inl ⟨hw,fun W hW=>?_⟩
 unfold execOp
 generalize a.eval=ρ at hx hy⊢
 simp only[ho,hx,hy]
 go_simp
end
theorem wF {o:Oper}{a:Act}{w:World}{K:Act→World→Prop}{Q:Exit→Act→World→Prop}(ho:o.op=.buildSlice 60 0 #[])(h:K (a.put o.dst (.slice (some ⟨w.heap.size,0,none⟩) 0 0)) (w.alloc (.cells #[] 141))):Oper.wp Tryz.prog o a w K Q:=by
 unfold Oper.wp Oper.upon execOp
 simp only[ho]
 generalize a.eval=ρ
 go_simp
 exact h
theorem wG {W:World}{g cv j:Nat}{its:List It}(hc:∀i x,(itCells its)[i]?=some x→W.cell? ⟨g,i,none⟩=some x)(hj:j≤its.length):tp W (.slice (some ⟨g,0,none⟩) j cv) (its.take j):=by
 have hl:(its.take j).length=j:=by simp;omega
 refine .inr ⟨⟨g,0,none⟩,cv,by rw[hl],fun i x hi=>?_⟩
 rw[fy,Nat.zero_add]
 refine hc i x ?_
 rw[pP,List.getElem?_take] at hi
 split at hi
 ·exact hi
 ·cases hi
theorem wH {W:World}{g cv m c:Nat}{its:List It}(hc:∀i x,(itCells its)[i]?=some x→W.cell? ⟨g,i,none⟩=some x)(hm:m<its.length)(hn:its.length≤cv):tp W (.slice (some (hiA g m cv)) (its.length-(m+1)) c) (its.drop (m+1)):=by
 have hl:(its.drop (m+1)).length=its.length-(m+1):=by simp
 refine .inr ⟨hiA g m cv,c,by rw[hl],fun i x hi=>?_⟩
 have hi':=(List.getElem?_eq_some_iff.1 hi).1
 rw[gy,hl] at hi'
 have e:hiA g m cv=⟨g,(m+1) * 2,none⟩:=by unfold hiA;rw[if_neg (by omega)]
 rw[e,fy]
 refine hc _ x ?_
 rw[pQ,List.getElem?_drop] at hi
 exact hi
theorem AG.skipP {m:Nat}{a:Act}{L:List (Nat×Value)}(h:AG m a L)(v:Value):AG m (a.put none v) L:=h
theorem mV {w w1 w2:World}{S T:Nat→Prop}(m:Turned S w w1)(t:Turned T w1 w2)(hs:∀k,T k→w.heap.size≤k):Turned S w w2 :=
 ⟨t.os.trans m.os,t.tape.trans m.tape,t.output.trans m.output,Nat.le_trans m.size t.size,fun k hk q=>by
  rw[t.block k (Nat.lt_of_lt_of_le hk m.size) (fun z=>by have:=hs k z;omega)];exact m.block k hk q⟩
theorem zQ (v:Value)(its:List It)(c:Int)(w:World)(h:IR 0 w v its)(hl:its.length≤100000)(hb:∀p∈its,p.1≠c):
 Calls Tryz.prog 99 #[.agg #[v],.int .i64 c] w (gi w its (fun v=> .tuple #[v,.int .i64 0,.bool false])):=by
 obtain⟨w2,e2,hl1,hl2,m2,s2⟩:=en2 w (.cells #[v] 62) (.cells #[.slice none 0 0] 62)
 have L1:=hQQ hl1
 have L2:=hQQ hl2
 have M2:=hQQ m2
 have HP:=hQQ (h.more m2)
 obtain⟨av,cv,rfl,_,_,hr⟩:=(h.more m2).at
 have c0:w2.cell? ⟨w.heap.size,0,none⟩=some (.slice av its.length cv):=by simp[World.cell?,hl1]
 have C0:=hQQ c0
 have H1:=hQQ hr
 have FIN:Hq (∀W,ac w2 W→gi w its (fun v=> .tuple #[v,.int .i64 0,.bool false]) (.returned (.tuple #[.agg #[.slice av its.length cv],.int .i64 0,.bool false])) (W.setRow (w.heap.size+1) #[.slice av its.length cv])):=hQQ fun W hW =>
  ⟨_,rfl,(HP.o.more hW).keep (S:=fun k=>k=w.heap.size+1) (Turned.setRow (Turned.refl _ W) _ _ (fun _=>rfl)) (fun k q=>by subst q;exact⟨_,_,_,hW.block L2.o,by decide⟩),(M2.o.trans hW).setRow _ _ (by omega)⟩
 have HL:=hQQ hl
 have HB:=hQQ hb
 obtain⟨n,hn⟩:∃n,its.length=n:=⟨_,rfl⟩
 have HN:=hQQ hn
 rw[hn] at L1 FIN C0
 have q0:IntKind.i64.wrap ((n:Int)-1)=(n:Int)-1:=IntWalk.i64_in _ (by omega)
 rw[hn] at e2
 simp only[hn]
 clear hl1 hl2 m2 h s2 hr hl hb hn c0 HP
 have c0:=C0.o
 go_enter Tryz.func99,Tryz.ntmps99
 go_wp2_with fail
 clear c0 e2
 go_loopw [7] (fun i wr=>∃z:Int,i=.int .i64 z∧ -1≤z∧z<n∧ac w2 wr) (fun i _=>(intOf i+1).toNat)
 case atStart=>exact⟨(n:Int)-1,rfl,by omega,by omega,ac.refl _⟩
 case round =>
  obtain⟨z,rfl,hz1,hz2,ht⟩:=hrel
  have x0:=ht.cell C0.o
  by_cases hz:0≤z
  ·obtain⟨j,rfl⟩:∃j:Nat,z=j:=⟨z.toNat,by omega⟩
   obtain⟨p,hp⟩:∃p,its[j]?=some p:=⟨_,List.getElem?_eq_getElem (by have:=HN.o;omega)⟩
   obtain⟨g,rfl,hc1,hc2⟩:=H1.o j p hp
   have x1:=ht.cell hc1
   have hne:=HB.o p (List.mem_of_getElem? hp)
   obtain⟨p1,p2⟩:=p
   simp only at x1 hne
   have d0:(p1==c)=false:=by simp[hne]
   have d1:decide (p1=c)=false:=by simp[hne]
   have hlt:j<n:=by omega
   have hd:decide (0≤(j:Int))=true:=by simp
   have q1:IntKind.i64.wrap ((j:Int)-1)=(j:Int)-1:=IntWalk.i64_in _ (by have:=HL.o;have:=HN.o;omega)
   have HT:=hQQ ht
   clear hp hc1 hc2 ht hne hz hz1 hz2 q0
   go_wp2_with fail
   go_roundw
   case rel=>exact⟨(j:Int)-1,rfl,by omega,by omega,HT.o⟩
   case measure=>first|(simp[intOf];done)|(simp[intOf];omega)
  ·obtain rfl:z= -1:=by omega
   have M4:=hQQ ht
   clear ht x0 q0 hz hz1 hz2
   go_wp2_with (first|(refine wpList_load_row rfl 62 _ rfl _ rfl 62 _ _ _ (M4.o.block L1.o) Tryz.underlying62 rfl (by kernel_rfl) ?_)|(refine wpList_store_row rfl 62 _ _ rfl _ _ rfl rfl 62 _ (M4.o.block L2.o) (by kernel_rfl) rfl (by simp[Value.oneCell']) ?_))
   refine bodyPost_ret (v:=.tuple #[.agg #[.slice av n cv],.int .i64 0,.bool false]) (uE Tryz.results99 _ _ _ 62 _ (0,0) _ rfl (setRow_heap _ _ _ _ _ _ (M4.o.block L2.o)) Tryz.underlying62 rfl (by kernel_rfl)) rfl (FIN.o _ M4.o)
theorem wI (v:Value)(A B:List It)(c x:Int)(w:World)(h:IR 0 w v (A++(c,x)::B))(hl:(A++(c,x)::B).length≤100000)(hb:∀p∈B,p.1≠c):
 Calls Tryz.prog 99 #[.agg #[v],.int .i64 c] w (gi w (A++B) (fun v=> .tuple #[v,.int .i64 x,.bool true])):=by
 obtain⟨w2,e2,hl1,hl2,m2,s2⟩:=en2 w (.cells #[v] 62) (.cells #[.slice none 0 0] 62)
 have L2:=hQQ hl2
 have M2:=hQQ m2
 have HP:=hQQ (h.more m2)
 have SRC:=uH (h.more m2)
 obtain⟨av,cv,rfl,hnc,_,hr⟩:=(h.more m2).at
 have c0:w2.cell? ⟨w.heap.size,0,none⟩=some (.slice av (A++(c,x)::B).length cv):=by simp[World.cell?,hl1]
 obtain⟨its,hits⟩:∃its,A++(c,x)::B=its:=⟨_,rfl⟩
 obtain⟨its',hits'⟩:∃its',A++B=its':=⟨_,rfl⟩
 obtain⟨m,hm⟩:∃m,A.length=m:=⟨_,rfl⟩
 have hAm:its[m]?=some (c,x):=by rw[←hits,←hm];simp
 have hE:its.take m++its.drop (m+1)=its':=by
  rw[←hits,←hits',←hm,List.take_left' rfl]
  congr 1
  rw[List.drop_append,List.drop_eq_nil_of_le (by omega)]
  simp
 have hB:∀j p,m<j→its[j]?=some p→p.1≠c:=fun j p hj hp=>by
  refine hb p ?_
  rw[←hits,List.getElem?_append_right (by omega)] at hp
  obtain⟨i,hi⟩:∃i,j-A.length=i+1:=⟨j-A.length-1,by omega⟩
  rw[hi,List.getElem?_cons_succ] at hp
  exact List.mem_of_getElem? hp
 rw[hits] at hr c0 hl HP SRC hnc h e2
 rw[hits',hits]
 have hmn:m<its.length:=(List.getElem?_eq_some_iff.1 hAm).1
 obtain⟨g,rfl,cc1,cc2⟩:=hr m _ hAm
 simp only at cc1 cc2
 have C0:=hQQ c0
 have C1:=hQQ cc1
 have C2:=hQQ cc2
 have H1:=hQQ hr
 have HB:=hQQ hB
 have HL:=hQQ hl
 have EI:=hQQ hE
 have LL:=hQQ hl
 have hcv:g<w.heap.size:=by
  rcases h.2 with⟨q,_⟩|⟨_,_,_,q,_,z,_⟩
  ·cases q
  ·cases q;exact af z
 have CA:Hq (∀i x,(itCells its)[i]?=some x→w2.cell? ⟨g,i,none⟩=some x):=hQQ fun i x hi=>by
  rcases SRC with⟨q,_⟩|⟨p,cp,q,z⟩
  ·cases q
  ·cases q
   have:=z i x hi
   rwa [fy,Nat.zero_add] at this
 obtain⟨n,hn⟩:∃n,its.length=n:=⟨_,rfl⟩
 have HN:=hQQ hn
 rw[hn] at C0 c0 hmn hnc e2
 rw[hn]
 have hmc:m≤cv:=by omega
 have q0:IntKind.i64.wrap ((n:Int)-1)=(n:Int)-1:=IntWalk.i64_in _ (by omega)
 have FN:Hq (∀v9 wa,IR 0 wa v9 its'→Turned (fun b=>b=w.heap.size+1) w2 wa→gi w its' (fun v=> .tuple #[v,.int .i64 x,.bool true]) (.returned (.tuple #[.agg #[v9],.int .i64 x,.bool true])) wa):=hQQ fun v9 wa ir t=>⟨v9,rfl,ir,ik M2.o t (fun k q=>by omega)⟩
 have S2:=hQQ s2
 clear hl1 hl2 m2 h s2 hr hl hb hn HP hits hits' hm hAm hE hB cc1 cc2 SRC
 have HG:=hQQ hcv
 clear hcv
 have QW:Hq (IntKind.i64.wrap ((m:Int)+1)=(m:Int)+1):=hQQ (IntWalk.i64_in _ (by have:=HL.o;have:=HN.o;omega))
 go_enter Tryz.func99,Tryz.ntmps99
 go_wp2_with fail
 clear c0 e2
 go_loopw [7] (fun i wr=>∃z:Int,i=.int .i64 z∧(m:Int)≤z∧z<n∧ac w2 wr) (fun i _=>(intOf i+1).toNat)
 case atStart=>exact⟨(n:Int)-1,rfl,by omega,by omega,ac.refl _⟩
 case round =>
  obtain⟨z,rfl,hz1,hz2,ht⟩:=hrel
  have x0:=ht.cell C0.o
  obtain⟨j,rfl⟩:∃j:Nat,z=j:=⟨z.toNat,by omega⟩
  have hlt:j<n:=by omega
  have hd:decide (0≤(j:Int))=true:=by simp
  by_cases hz:m<j
  ·obtain⟨p,hp⟩:∃p,its[j]?=some p:=⟨_,List.getElem?_eq_getElem (by have:=HN.o;omega)⟩
   obtain⟨g',eg,hc1,hc2⟩:=H1.o j p hp
   cases eg
   have x1:=ht.cell hc1
   have hne:=HB.o j p hz hp
   obtain⟨p1,p2⟩:=p
   simp only at x1 hne
   have d0:(p1==c)=false:=by simp[hne]
   have d1:decide (p1=c)=false:=by simp[hne]
   have q1:IntKind.i64.wrap ((j:Int)-1)=(j:Int)-1:=IntWalk.i64_in _ (by have:=HL.o;have:=HN.o;omega)
   have HT:=hQQ ht
   have HZ:=hQQ hz
   clear hp hc1 hc2 ht hne hz hz1 hz2 q0 hmn hnc hmc
   go_wp2_with fail
   go_roundw
   case rel=>exact⟨(j:Int)-1,rfl,by have:=HZ.o;omega,by omega,HT.o⟩
   case measure=>first|(simp[intOf];done)|(simp[intOf];omega)
  ·obtain rfl:m=j:=by omega
   have x1:=ht.cell C1.o
   have HT:=hQQ ht
   have KB:Hq (∀W,Turned (fun b=>b=w.heap.size+1) wr W→W.cell? ⟨w.heap.size,0,none⟩=some (.slice (some ⟨g,0,none⟩) n cv)):=hQQ fun W hW=>by
    rw[World.cell?_of_block (w:=wr) (Turned.block hW w.heap.size (by have:=HT.o.size;have:=S2.o;omega) (by omega))]
    exact HT.o.cell C0.o
   have KW:Hq (∀W,Turned (fun b=>b=w.heap.size+1) wr W→∀i x,w2.cell? ⟨g,i,none⟩=some x→W.cell? ⟨g,i,none⟩=some x):=hQQ fun W hW i x hi=>by
    rw[World.cell?_of_block (w:=wr) (Turned.block hW g (by have:=HT.o.size;have:=S2.o;have:=HG.o;omega) (by have:=HG.o;omega))]
    exact HT.o.cell hi
   have KX:Hq (∀W,Turned (fun b=>b=w.heap.size+1) wr W→W.cell? ⟨g,m * 2+1,none⟩=some (.int .i64 x)):=hQQ fun W hW=>KW.o W hW _ _ C2.o
   have SL:Hq (∀W,Turned (fun b=>b=w.heap.size+1) wr W→tp W (.slice (some ⟨g,0,none⟩) m cv) (its.take m)):=hQQ fun W hW=>wG (fun i x hi=>KW.o W hW _ _ (CA.o i x hi)) (by have:=HN.o;omega)
   have SH:Hq (∀W,Turned (fun b=>b=w.heap.size+1) wr W→tp W (.slice (some (hiA g m cv)) (n-(m+1)) (cv-(m+1))) (its.drop (m+1))):=hQQ fun W hW=>by
    have:=wH (c:=cv-(m+1)) (fun i x hi=>KW.o W hW _ _ (CA.o i x hi)) (m:=m) (cv:=cv) (by have:=HN.o;omega) (by have:=HN.o;omega)
    rwa [HN.o] at this
   have BR:=hQQ (HT.o.block L2.o)
   have FN:Hq (∀v9 wa,IR 0 wa v9 its'→Turned (fun b=>b=w.heap.size+1) wr wa→gi w its' (fun v=> .tuple #[v,.int .i64 x,.bool true]) (.returned (.tuple #[.agg #[v9],.int .i64 x,.bool true])) wa):=hQQ fun v9 wa ir t=>FN.o v9 wa ir ((Turned.mono HT.o (fun _ _ q=>q.elim)).trans t)
   have dc:(c==c)=true:=by simp
   clear ht hz hz1 hz2 q0 hlt
   go_wp2_with fail
   clear x0 x1 hd dc
   refine gb (fun W=>Turned (fun b=>b=w.heap.size+1) wr W) (by kernel_rfl) ?_
   change eN _ _ _ _ _ _ _ _ (wr.drewN 1)
   have MR:Hq (Turned (fun b=>b=w.heap.size+1) wr (wr.drewN 1)):=hQQ ((Turned.refl _ wr).drewN 1)
   have BQ:Hq ((wr.drewN 1).heap[w.heap.size+1]?=some (.cells #[.slice none 0 0] 62 (0,0))):=hQQ BR.o
   generalize wr.drewN 1=wq at MR BQ⊢
   generalize hA:Act.mk _ _=A
   have HF:AG 44 A [(1,.int .i64 c),(2,.pointer (some ⟨w.heap.size,0,none⟩)),(4,.pointer (some ⟨w.heap.size+1,0,none⟩)),(7,.int .i64 (m:Int))]:=by
    rw[←hA];try simp only[pts,List.foldl]
    refine⟨⟨Nat.le_of_ble_eq_true rfl,rfl⟩,?_⟩
    intro z hz;simp only[List.mem_cons,List.not_mem_nil,or_false] at hz;rcases hz with rfl|rfl|rfl|rfl<;>rfl
   refine jD (fun a W=>a.eval (.tmp 4)=.pointer (some ⟨w.heap.size+1,0,none⟩)∧a.eval (.tmp 5)=.int .i64 x∧a.eval (.tmp 6)=.bool true∧a.defers= []∧∃v,IR 0 W v its'∧W.heap[w.heap.size+1]?=some (.cells #[v] 62 (0,0))∧Turned (fun b=>b=w.heap.size+1) wr W) (fun _=>False) [] (fun a W hd h=>h.elim) (fun _ _ _ _ _ h=>h) ?_ ?_
   ·skip
    rintro a9 wa ⟨hp,hx,hs,hd,v9,ir,hg,MS⟩
    have FIN:=hQQ (FN.o v9 wa ir MS)
    have HG:=hQQ hg
    clear HF hA MR ir MS hg
    obtain⟨ts,ds⟩:=a9
    simp only[Act.eval] at hs hx hp
    obtain rfl:ds= []:=hd
    go_wp2_with fail
    refine bodyPost_ret (v:=.tuple #[.agg #[v9],.int .i64 x,.bool true]) ((uE Tryz.results99 _ _ _ 62 _ (0,0) _ hp HG.o Tryz.underlying62 rfl (by kernel_rfl)).trans (by rw[hx,hs])) rfl FIN.o
   intro QQ FINE FIND FINQ
   clear hA
   refine tqC 1 25 (.pointer (some ⟨w.heap.size,0,none⟩)) (by kernel_rfl) FINQ MR.o HF (by exact(Or.inl ⟨(ao rfl),fun W hW=>by have h50:=(HF.getD 1 rfl);go_simp⟩)) fun A β1 HF=>?_
   refine tqC 2 26 (.slice (some ⟨g,0,none⟩) n cv) (by kernel_rfl) FINQ MR.o HF (by exact fL (ao rfl) 60 _ rfl (w.heap.size) 0 (HF.get 0 rfl) (.slice (some ⟨g,0,none⟩) n cv) _ Tryz.underlying60 rfl (fun W hW=>KB.o W hW)) fun A β2 HF=>?_
   refine tqM 3 27 5 rfl (.inl rfl) rfl (by kernel_rfl) FINQ MR.o HF fun A β3 HF=>?_
   refine tqC 4 28 (.slice (some ⟨g,0,none⟩) m cv) (by kernel_rfl) FINQ MR.o HF (by exact lE (ao rfl) rfl (HF.get 1 rfl) (HF.get 0 rfl) hmc) fun A β4 HF=>?_
   refine tqC 6 30 (.pointer (some ⟨w.heap.size,0,none⟩)) (by kernel_rfl) FINQ MR.o HF (by exact(Or.inl ⟨(ao rfl),fun W hW=>by have h50:=(HF.getD 5 rfl);go_simp⟩)) fun A β5 HF=>?_
   refine tqC 7 31 (.slice (some ⟨g,0,none⟩) n cv) (by kernel_rfl) FINQ MR.o HF (by exact fL (ao rfl) 60 _ rfl (w.heap.size) 0 (HF.get 0 rfl) (.slice (some ⟨g,0,none⟩) n cv) _ Tryz.underlying60 rfl (fun W hW=>KB.o W hW)) fun A β6 HF=>?_
   refine tqM 8 32 9 rfl (.inl rfl) rfl (by kernel_rfl) FINQ MR.o HF fun A β7 HF=>?_
   refine tqC 9 33 (.int .i64 ((m:Int)+1)) (by kernel_rfl) FINQ MR.o HF (by exact ph (ao rfl) rfl (HF.get 0 rfl) rfl _ QW.o) fun A β8 HF=>?_
   refine tqC 10 34 (.slice (some (hiA g m cv)) (n-(m+1)) (cv-(m+1))) (by kernel_rfl) FINQ MR.o HF (by exact lF (ao rfl) rfl (HF.get 2 rfl) (HF.get 0 rfl) hmn hnc) fun A β9 HF=>?_
   refine tqC 13 37 (.pointer (some ⟨w.heap.size,0,none⟩)) (by kernel_rfl) FINQ MR.o HF (by exact(Or.inl ⟨(ao rfl),fun W hW=>by have h50:=(HF.getD 10 rfl);go_simp⟩)) fun A β10 HF=>?_
   refine tqC 14 38 (.slice (some ⟨g,0,none⟩) n cv) (by kernel_rfl) FINQ MR.o HF (by exact fL (ao rfl) 60 _ rfl (w.heap.size) 0 (HF.get 0 rfl) (.slice (some ⟨g,0,none⟩) n cv) _ Tryz.underlying60 rfl (fun W hW=>KB.o W hW)) fun A β11 HF=>?_
   refine tqM 15 39 14 rfl (.inl rfl) rfl (by kernel_rfl) FINQ MR.o HF fun A β12 HF=>?_
   refine tqC 16 40 (.pointer (some ⟨g,m * 2,none⟩)) (by kernel_rfl) FINQ MR.o HF (by exact pR (ao rfl) rfl (HF.get 1 rfl) (HF.get 0 rfl) hmn) fun A β13 HF=>?_
   refine tqC 17 41 (.pointer (some ⟨g,m * 2+1,none⟩)) (by kernel_rfl) FINQ MR.o HF (by exact(Or.inl ⟨(ao rfl),fun W hW=>by have h50:=(HF.getD 0 rfl);go_simp⟩)) fun A β14 HF=>?_
   refine tqC 18 42 (.int .i64 x) (by kernel_rfl) FINQ MR.o HF (by exact fL (ao rfl) 3 _ rfl g (m * 2+1) (HF.get 0 rfl) (.int .i64 x) _ Tryz.underlying3 rfl (fun W hW=>KX.o W hW)) fun A β15 HF=>?_
   refine tqO 0 24 (by kernel_rfl) HF fun K hK=>?_
   refine wF rfl ?_
   have M1:Hq (Turned (fun b=>b=w.heap.size+1) wr (wq.alloc (.cells #[] 141))):=hQQ (MR.o.alloc _)
   have Z1:=hQQ (uG wq)
   have B1:=hQQ (((ac.refl wq).alloc (.cells #[] 141)).block BQ.o)
   refine hK _ _ M1.o fun A β16 HF=>?_
   clear hK K
   refine gJ (i:=5) (some 29) (by kernel_rfl) rfl (ao rfl) rfl (fun K hK=>?_)
   refine ko _ _ rfl (HF.get 0 rfl) Z1.o (by simp) (HF.get 12 rfl) (SL.o _ M1.o) (by have:=LL.o;simp;omega) ?_
   intro v2 w2 r2 t2 k2
   obtain⟨a2,c2,hv2,_⟩:=r2.reads
   subst hv2
   have M2:Hq (Turned (fun b=>b=w.heap.size+1) wr w2):=hQQ (mV M1.o t2 (fun k q=>by have:=Z1.o.own k q;have:=MR.o.size;omega))
   have R2:Hq (IR wq.heap.size w2 (.slice a2 ([]++its.take m).length c2) (its.take m)):=hQQ r2
   have G2:Hq (wq.heap.size≤w2.heap.size):=hQQ (by have:=t2.size;simp at this;omega)
   have B2:Hq (w2.heap[w.heap.size+1]?=some (.cells #[.slice none 0 0] 62 (0,0))):=hQQ ((t2.block _ (af B1.o) (fun q=>by have:=Z1.o.own _ q;have:=af BQ.o;omega)).trans B1.o)
   refine hK _ _ M2.o ?_
   clear hK K r2 t2 k2
   replace HF:=HF.put 29 (.slice a2 ([]++its.take m).length c2) (by decide) rfl
   generalize β17:Act.put _ _ _=A at HF⊢
   refine gJ (i:=11) (some 35) (by kernel_rfl) rfl (ao rfl) rfl (fun K hK=>?_)
   refine ko _ _ rfl (HF.get 0 rfl) R2.o (G2.o) (HF.get 8 rfl) (SH.o _ M2.o) (by have:=LL.o;simp;omega) ?_
   intro v3 w3 r3 t3 k3
   obtain⟨a3,c3,hv3,_⟩:=r3.reads
   subst hv3
   have M3:Hq (Turned (fun b=>b=w.heap.size+1) wr w3):=hQQ (mV M2.o t3 (fun k q=>by have:=R2.o.own k q;have:=MR.o.size;omega))
   have R3:Hq (IR wq.heap.size w3 (.slice a3 (its.take m++its.drop (m+1)).length c3) its'):=hQQ (by rw[←EI.o];exact r3)
   have B3:Hq (w3.heap[w.heap.size+1]?=some (.cells #[.slice none 0 0] 62 (0,0))):=hQQ ((t3.block _ (af B2.o) (fun q=>by have:=R2.o.own _ q;have:=af BQ.o;omega)).trans B2.o)
   refine hK _ _ M3.o ?_
   clear hK K r3 t3 k3
   replace HF:=HF.put 35 (.slice a3 (its.take m++its.drop (m+1)).length c3) (by decide) rfl
   generalize β18:Act.put _ _ _=A at HF⊢
   refine tqC 12 36 (.agg #[.slice a3 (its.take m++its.drop (m+1)).length c3]) (by kernel_rfl) FINQ M3.o HF (by exact mU (ao rfl) rfl (HF.get 0 rfl)) fun A β19 HF=>?_
   obtain⟨n3,hn3⟩:∃n3,(its.take m++its.drop (m+1)).length=n3:=⟨_,rfl⟩
   rw[hn3] at HF R3
   clear hn3
   have M4:Hq (Turned (fun b=>b=w.heap.size+1) wr (w3.setRow (w.heap.size+1) #[.slice a3 n3 c3])):=hQQ (Turned.setRow M3.o _ _ (fun _=>rfl))
   refine gJ (i:=19) none (by kernel_rfl) rfl (ao rfl) rfl (fun K hK=>?_)
   refine wp_store_row 62 _ _ rfl (w.heap.size+1) #[.slice a3 n3 c3] (HF.get 21 rfl) (HF.get 0 rfl) 62 _ B3.o (by kernel_rfl) rfl (by simp[Value.oneCell']) ?_
   refine hK _ _ M4.o ?_
   clear hK K
   replace HF:=HF.skipP undef
   generalize hBN:Act.put _ _ _=A at HF⊢
   refine tqM 20 5 4 rfl (.inr rfl) rfl (by kernel_rfl) FINQ M4.o HF fun A β20 HF=>?_
   refine tqC 21 6 (.bool true) (by kernel_rfl) FINQ M4.o HF (by exact eR (ao rfl) _ rfl rfl) fun A β21 HF=>?_
   exact fR (by kernel_rfl) (FINE _ _ ⟨HF.get 23 rfl,HF.get 1 rfl,HF.get 0 rfl,HF.1.2,_,(R3.o.low (Nat.zero_le _)).keep (S:=fun k=>k=w.heap.size+1) (Turned.setRow (Turned.refl _ w3) _ _ (fun _=>rfl)) (fun k q=>by subst q;exact⟨_,_,_,B3.o,by decide⟩),setRow_heap _ _ _ _ _ _ B3.o,M4.o⟩)
structure Eqv (P:Nat→List Int)(its:List It):Prop where
 cls:∀p∈its,fB p.1=true
 at':∀k,k<5→P k=dK its k
theorem zR:Eqv (fun _=> []) []:=⟨(fun p hp=>by cases hp),fun k _=>rfl⟩
theorem fU (A B:List It)(c:Int):dK (A++B) c=dK A c++dK B c:=by unfold dK;rw[List.filter_append,List.map_append]
theorem kW (c x k:Int):dK [(c,x)] k=if c=k then [x] else []:=by
 unfold dK
 by_cases e:c=k
 ·simp[e]
 ·simp[e]
theorem im {B:List It}{c:Int}(h:∀p∈B,p.1≠c):dK B c= []:=by
 unfold dK
 rw[List.filter_eq_nil_iff.2]
 ·rfl
 ·intro p hp;simp[h p hp]
theorem Eqv.list {P:Nat→List Int}{its:List It}(h:Eqv P its)(c:Int):zN P c=dK its c:=by
 unfold zN
 by_cases hc:fB c=true
 ·obtain⟨k,rfl,hk⟩:=mq hc
  rw[if_pos hc]
  simpa using h.at' k hk
 ·rw[if_neg hc]
  refine(im fun p hp=>?_).symm
  rintro rfl
  exact hc (h.cls p hp)
theorem Eqv.len {P:Nat→List Int}{its:List It}(h:Eqv P its)(c:Int):sw P c=(dK its c).length:=by
 rw[←h.list c]
 unfold sw zN
 split<;>simp
theorem Eqv.push {P:Nat→List Int}{its:List It}(h:Eqv P its)(c a l:Int):lx P c l=il its c l∧Eqv (eL P c a l) (jt its c a l):=by
 have e:lx P c l=il its c l:=by unfold lx il;rw[h.len c]
 refine⟨e,?_⟩
 unfold eL jt
 rw[←e]
 by_cases hb:lx P c l=true
 ·rw[if_pos hb,if_pos hb]
  have hc:fB c=true:=by simp[lx] at hb;exact hb.1
  refine⟨fun p hp=>?_,fun k hk=>?_⟩
  ·rcases List.mem_append.1 hp with q|q
   ·exact h.cls p q
   ·obtain rfl:=List.mem_singleton.1 q;exact hc
  ·obtain⟨j,rfl,hj⟩:=mq hc
   rw[fU,kW]
   by_cases q:k=j
   ·subst q;simp[h.at' k hk]
   ·have q':¬((j:Int)=(k:Int)):=by omega
    simp[q,q',h.at' k hk]
 ·rw[if_neg hb,if_neg hb];exact h
theorem BA (its:List It)(c:Int):(∀p∈its,p.1≠c)∨∃A x B,its=A++(c,x)::B∧∀p∈B,p.1≠c:=by
 induction its with
 |nil=>exact .inl fun p hp=>by cases hp
 |cons p its ih =>
  rcases ih with h|⟨A,x,B,rfl,hB⟩
  ·by_cases e:p.1=c
   ·obtain⟨p1,p2⟩:=p
    simp only at e
    subst e
    exact .inr ⟨[],p2,its,rfl,h⟩
   ·refine .inl fun q hq=>?_
    rcases List.mem_cons.1 hq with rfl|hq
    ·exact e
    ·exact h q hq
  ·exact .inr ⟨p::A,x,B,rfl,hB⟩
structure DT (its:List It)(c:Int)(its':List It)(x:Int)(b:Bool):Prop where
 calls:∀(v:Value) (w:World),IR 0 w v its→its.length≤100000→Calls Tryz.prog 99 #[.agg #[v],.int .i64 c] w (gi w its' (fun v=> .tuple #[v,.int .i64 x,.bool b]))
 len:its'.length≤its.length
theorem Eqv.pop {P:Nat→List Int}{its:List It}(h:Eqv P its)(c:Int):∃its',DT its c its' (pN P c) (lD P c)∧Eqv (tm P c) its':=by
 rcases BA its c with hn|⟨A,x,B,rfl,hB⟩
 ·have l0:sw P c=0:=by rw[h.len c,im hn];rfl
  have b0:lD P c=false:=by simp[lD,l0]
  have x0:pN P c=0:=by simp[pN,b0]
  refine⟨its,⟨fun v w hv hl=>?_,Nat.le_refl _⟩,?_⟩
  ·rw[b0,x0];exact zQ v its c w hv hl hn
  ·unfold tm;rw[b0];exact h
 ·have hc:fB c=true:=h.cls (c,x) (by simp)
  obtain⟨k,rfl,hk⟩:=mq hc
  have eP:P k=dK A k++ [x]:=by
   rw[h.at' k hk,fU,show((k:Int),x)::B= [((k:Int),x)]++B from rfl,fU,kW,im hB];simp
  have b1:lD P k=true:=by simp[lD,mP P hk,eP]
  have x1:pN P k=x:=by simp[pN,b1,eP]
  refine⟨A++B,⟨fun v w hv hl=>?_,by simp⟩,?_⟩
  ·rw[b1,x1];exact wI v A B k x w hv hl hB
  ·refine⟨fun p hp=>h.cls p ?_,fun j hj=>?_⟩
   ·rcases List.mem_append.1 hp with q|q
    ·exact List.mem_append_left _ q
    ·exact List.mem_append_right _ (List.mem_cons_of_mem _ q)
   ·unfold tm
    rw[if_pos b1,fU]
    by_cases q:j=k
    ·subst q
     rw[im hB]
     simp[eP]
    ·have q':¬((k:Int)=(j:Int)):=by omega
     have:=h.at' j hj
     rw[fU,show((k:Int),x)::B= [((k:Int),x)]++B from rfl,fU,kW,if_neg q'] at this
     simp[q,this]
end Go.Proofs.YtfddhogffpkhcaaGreatDoor
