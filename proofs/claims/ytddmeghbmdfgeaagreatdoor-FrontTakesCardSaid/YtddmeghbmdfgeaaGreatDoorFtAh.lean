/-
  The landed package plist: List, Unlink.
-/
import Derived.Test.YtddmeghbmdfgeaaGreatDoorFtAg
import Derived.Test.YtddmeghbmdfgeaaGreatDoorFtAa
import Derived.Deep.LoopGhost
import Derived.WalkMore
set_option maxRecDepth 100000
set_option maxHeartbeats 8000000
set_option linter.all false
namespace Go.Proofs.YtddmeghbmdfgeaaGreatDoor
open Go.RowKit Go.Sort Go.Maps Go.Shelf
theorem Ew {c:Cfg}(R:c.Ok){n:Nat}(H:cF c.pg c.st n)(hn:n≤10000)(F:Nat→Prop)(p:Nat)(kn:Int→Option Int)(D:List KV)(q cl f:Int)(w:World)(hv:aF w F p kn D)(hk:OkK kn)(hD:cI n D):
 Calls Tryz.prog 130 #[.pointer (some ⟨p,0,none⟩),.agg c.arr,.int .i64 q,.int .i64 cl,.int .i64 f] w (aI w F p kn (fun b=> .bool b) (fT c.pg c.st q cl f kn D)):=by
 obtain⟨Rr,hRr⟩:∃Rr,fT c.pg c.st q cl f kn D=Rr:=⟨_,rfl⟩
 rw[hRr]
 obtain⟨w1,e1,hl1,m1,s1⟩:=bg w (.cells c.arr 28)
 have nFl:¬F w.heap.size:=fun q=>by have:=hv.lt _ q;omega
 have MM:=hQQ m1
 have L0:=hQQ hl1
 have M0:=m0Z (hv.more m1) hD
 have KL:=klZ (p:=p) (kn:=kn) (n:=n) L0.o nFl
 have NEED:=ndZ (F:=F) (p:=p) (kn:=kn) (R:=Rr) (fun b:Bool=>Value.bool b) MM.o
 have DONE:=dnZ (F:=F) (p:=p) (n:=n) (kn:=kn) (R:=Rr) (fun b:Bool=>Value.bool b) MM.o
 have HK:=hQQ hk
 have HR:=hQQ R
 have HH:=hQQ H
 clear hl1 m1 hv hD hk R H nFl
 unfold fT at hRr
 cases hq:af c.pg q with
 |false =>
  rw[hq] at hRr
  have FIN:Hq (∀w2,ae w1 w2→aI w F p kn (fun b:Bool=>Value.bool b) Rr (.returned (.bool false)) w2):=hQQ fun w2 h=>DONE.o false w2 D F hRr.symm (M0.o.more h)
  clear hRr
  go_enter Tryz.func130,Tryz.ntmps130
  go_wp2_with (first|(refine aM rfl rfl rfl L0.o (by kernel_rfl) ?_)|(refine aM rfl rfl rfl L0.o (by kernel_rfl) ?_))
  refine(iL HR.o HH.o q _).mono ?_
  rw[hq]
  rintro e w3 ⟨rfl,h3⟩
  have H3:=hQQ h3
  clear h3
  go_wp2_with fail
  go_ret
  exact FIN.o _ H3.o
 |true =>
  rw[hq] at hRr
  have HRr:=hQQ (show aq (ls c.pg c.st q cl f) (fun r=>if r.2 then aq (ep c.pg (nA c.pg c.st q)) (fun x=>aq (fe c.pg c.st (aH c.pg c.st cl f) (cE r.1) x) fun _=>aq (cU (nA c.pg c.st q) 0) fun _=>aq (cU (vA c.pg c.st q) 0) fun _=>az true) else az false) kn D=Rr from hRr)
  have P3:=hQQ (C8 (st:=c.st) hq)
  have P4:=hQQ (GW (st:=c.st) hq)
  have NB:=hQQ (eH HH.o hq)
  have HQ:=hQQ hq
  clear hRr hq
  go_enter Tryz.func130,Tryz.ntmps130
  go_wp2_with (first|(refine aM rfl rfl rfl L0.o (by kernel_rfl) ?_)|(refine aM rfl rfl rfl L0.o (by kernel_rfl) ?_))
  refine(iL HR.o HH.o q _).mono ?_
  rw[HQ.o]
  rintro e w2 ⟨rfl,h2⟩
  have M2:=hQQ (M0.o.more h2)
  have L2:=hQQ (KL.o _ _ _ M2.o)
  clear h2
  go_wp2_with (first|(refine aM rfl rfl rfl L2.o (by kernel_rfl) ?_)|(refine aM rfl rfl rfl L2.o (by kernel_rfl) ?_))
  refine(A4 HR.o HH.o F p kn D q cl f w2 M2.o.view HK.o M2.o.inv).mono ?_
  intro e w3 he
  rcases M2.o.stepR (ae.refl _) HK.o (oJ HH.o q cl f) he with⟨a',hE,rfl,hd',ht',_⟩|⟨⟨xs,b⟩,D2,F2,v,hE,rfl,⟨u,rfl,hu⟩,M3,hxs,_,_⟩
  ·exact⟨rfl,NEED.o a' w3 (HRr.o.symm.trans (ag hE)) hd' ht'⟩
  have R2:=hQQ ((aj hE).symm.trans HRr.o)
  have HXS:=hQQ (show ∀x∈xs,af c.pg x=true from hxs.1)
  have hxl:xs.length≤256:=hxs.2
  have M3:=hQQ M3
  have L3:=hQQ (KL.o _ _ _ M3.o)
  have HU:=hQQ (show iM w2.heap.size F2 w3 u xs from hu)
  clear he hE hxs hu M2 L2
  cases b with
  |false =>
   have FIN:=hQQ (DONE.o false w3 D2 F2 R2.o.symm M3.o)
   clear R2
   go_wp2_with fail
   go_ret
   exact FIN.o
  |true =>
   have R2':=hQQ (show aq (ep c.pg (nA c.pg c.st q)) (fun x=>aq (fe c.pg c.st (aH c.pg c.st cl f) (cE xs) x) fun _=>aq (cU (nA c.pg c.st q) 0) fun _=>aq (cU (vA c.pg c.st q) 0) fun _=>az true) kn D2=Rr from R2.o)
   obtain⟨av,cv,rfl,hrd⟩:=HU.o.1.reads
   by_cases h0:xs.length=0
   ·have hxn:xs= []:=List.length_eq_zero_iff.1 h0
    subst hxn
    clear R2 hrd h0 HU
    go_wp2_with fail
    refine aO (TrC c w.heap.size) (by kernel_rfl) ?_
    have MR:=hQQ (M3.o.more ((ae.refl w3).drewN 1))
    change dg _ _ _ _ _ _ _ _ (w3.drewN 1)
    generalize w3.drewN 1=wr at MR⊢
    generalize hA:Act.mk _ _=A
    have HF:AG 63 A [(0,.pointer (some ⟨p,0,none⟩)),(1,.agg c.arr),(2,.int .i64 q),(3,.int .i64 cl),(4,.int .i64 f),(6,.pointer (some ⟨w.heap.size,0,none⟩)),(13,.int .i64 (-1))]:=by
     rw[←hA];try simp only[pts,List.foldl]
     refine⟨⟨Nat.le_of_ble_eq_true rfl,rfl⟩,?_⟩
     intro z hz;simp only[List.mem_cons,List.not_mem_nil,or_false] at hz;rcases hz with rfl|rfl|rfl|rfl|rfl|rfl|rfl<;>rfl
    refine bL (fun a W=>∃(u39 u40 u41 u42 u43 u45 u46 u47 u48 u49 u44 u50 u51 u52:Value) (D9:List KV) (F9:Nat→Prop),a=(pts A [(39,u39),(40,u40),(41,u41),(42,u42),(43,u43),(45,u45),(46,u46),(47,u47),(48,u48),(49,u49),(44,u44),(50,u50),(51,u51),(52,u52)])∧MidV w1 W F (fun _=>False) p kn n D9 F9∧aq (cU (nA c.pg c.st q) 0) (fun _=>aq (cU (vA c.pg c.st q) 0) fun _=>az true) kn D9=Rr) (fun W=>aI w F p kn (fun b:Bool=>Value.bool b) Rr (.panicked (bB p)) W) (bB p) (fun a W hd h=>⟨hd,h⟩) (fun _ _ _ _ _ h=>h) ?_ ?_
    ·skip
     rintro a wa ⟨u39,u40,u41,u42,u43,u45,u46,u47,u48,u49,u44,u50,u51,u52,D7,F7,rfl,MS,RS⟩
     rw[←hA];try simp only[pts,List.foldl]
     have MS:=hQQ MS
     have LS:=hQQ (KL.o _ _ _ MS.o)
     have RS:=hQQ RS
     clear HF hA MR M3 R2' L3
     go_wp2_with (first|(refine aM rfl rfl rfl LS.o (by kernel_rfl) ?_)|(refine aM rfl rfl rfl LS.o (by kernel_rfl) ?_))
     refine(mw HR.o _ q).mono ?_
     rw[P3.o]
     rintro e w8 ⟨rfl,h8⟩
     have M8:=hQQ (MS.o.more h8)
     clear h8
     go_wp2_with fail
     refine(dq F7 p kn D7 _ 0 w8 M8.o.view (by have:=M8.o.inv.len;omega)).mono ?_
     intro e w9 he
     rcases M8.o.step (ae.refl _) HK.o (aR n NB.o.1.2.2 NB.o.1.2.1 (by unfold W64;omega)) he with⟨a',hE,rfl,hd',ht',_⟩|⟨x9,D9,F9,hE,rfl,M9,hq9,_,_⟩
     ·exact⟨rfl,NEED.o a' w9 (RS.o.symm.trans (ag hE)) hd' ht'⟩
     have L9:=hQQ (KL.o _ _ _ M9)
     have R9:=hQQ ((aj hE).symm.trans RS.o)
     have M9:=hQQ M9
     clear he hE
     go_wp2_with (first|(refine aM rfl rfl rfl L9.o (by kernel_rfl) ?_)|(refine aM rfl rfl rfl L9.o (by kernel_rfl) ?_))
     refine(qI HR.o _ q).mono ?_
     rw[P4.o]
     rintro e w10 ⟨rfl,h10⟩
     have M10:=hQQ (M9.o.more h10)
     clear h10
     go_wp2_with fail
     refine(dq F9 p kn D9 _ 0 w10 M10.o.view (by have:=M10.o.inv.len;omega)).mono ?_
     intro e w11 he
     rcases M10.o.step (ae.refl _) HK.o (aR n NB.o.2.2.2 NB.o.2.2.1 (by unfold W64;omega)) he with⟨a',hE,rfl,hd',ht',_⟩|⟨x11,D11,F11,hE,rfl,M11,hq11,_,_⟩
     ·exact⟨rfl,NEED.o a' w11 (R9.o.symm.trans (ag hE)) hd' ht'⟩
     have FIN:=hQQ (DONE.o true w11 D11 F11 (R9.o.symm.trans (aj hE)) M11)
     clear he hE M11
     go_wp2_with fail
     go_ret
     exact FIN.o
    intro QQ FINE FIND FINQ
    clear hA
    refine tqM 0 39 0 rfl (.inl rfl) rfl (by kernel_rfl) FINQ (KL.o _ _ _ MR.o) HF fun A β1 HF=>?_
    refine tqC 1 40 (.agg c.arr) (by kernel_rfl) FINQ (KL.o _ _ _ MR.o) HF (by exact aD (ab rfl) 28 _ rfl w.heap.size (HF.get 6 rfl) 28 _ _ _ (fun W hW=>hW) Tryz.underlying28 rfl (by kernel_rfl)) fun A β2 HF=>?_
    refine tqC 2 41 (.agg c.arr) (by kernel_rfl) FINQ (KL.o _ _ _ MR.o) HF (by exact aD (ab rfl) 28 _ rfl w.heap.size (HF.get 7 rfl) 28 _ _ _ (fun W hW=>hW) Tryz.underlying28 rfl (by kernel_rfl)) fun A β3 HF=>?_
    refine tqM 3 42 6 rfl (.inl rfl) rfl (by kernel_rfl) FINQ (KL.o _ _ _ MR.o) HF fun A β4 HF=>?_
    refine tqM 4 43 8 rfl (.inl rfl) rfl (by kernel_rfl) FINQ (KL.o _ _ _ MR.o) HF fun A β5 HF=>?_
    refine tqM 6 45 11 rfl (.inl rfl) rfl (by kernel_rfl) FINQ (KL.o _ _ _ MR.o) HF fun A β6 HF=>?_
    refine tqM 7 46 6 rfl (.inl rfl) rfl (by kernel_rfl) FINQ (KL.o _ _ _ MR.o) HF fun A β7 HF=>?_
    refine tqC 8 47 (.agg c.arr) (by kernel_rfl) FINQ (KL.o _ _ _ MR.o) HF (by exact aD (ab rfl) 28 _ rfl w.heap.size (HF.get 12 rfl) 28 _ _ _ (fun W hW=>hW) Tryz.underlying28 rfl (by kernel_rfl)) fun A β8 HF=>?_
    refine tqC 9 48 (.agg c.arr) (by kernel_rfl) FINQ (KL.o _ _ _ MR.o) HF (by exact aD (ab rfl) 28 _ rfl w.heap.size (HF.get 13 rfl) 28 _ _ _ (fun W hW=>hW) Tryz.underlying28 rfl (by kernel_rfl)) fun A β9 HF=>?_
    refine tqM 10 49 11 rfl (.inl rfl) rfl (by kernel_rfl) FINQ (KL.o _ _ _ MR.o) HF fun A β10 HF=>?_
    refine tqO 5 44 (by kernel_rfl) HF fun K hK=>?_
    refine dE (v0:=.agg c.arr) (v1:=.int .i64 cl) (v2:=.int .i64 f) rfl (HF.get 7 rfl) (HF.get 6 rfl) (HF.get 5 rfl) (enters_of Tryz.func93 (by kernel_rfl) rfl) ?_
    refine(ly HR.o wr cl f).mono ?_
    rintro e w4 ⟨rfl,h4⟩
    have M4:=hQQ (MR.o.more h4)
    clear h4
    refine hK _ _ (KL.o _ _ _ M4.o) fun A β11 HF=>?_
    clear hK K
    refine tqO 11 50 (by kernel_rfl) HF fun K hK=>?_
    refine bO (v0:=.agg c.arr) (v1:=.int .i64 q) rfl (HF.get 2 rfl) (HF.get 1 rfl) (enters_of Tryz.func136 (by kernel_rfl) rfl) ?_
    refine(mw HR.o w4 q).mono ?_
    rw[P3.o]
    rintro e w5 ⟨rfl,h5⟩
    have M5:=hQQ (M4.o.more h5)
    clear h5
    refine hK _ _ (KL.o _ _ _ M5.o) fun A β12 HF=>?_
    clear hK K
    refine tqO 12 51 (by kernel_rfl) HF fun K hK=>?_
    refine dE (v0:=.pointer (some ⟨p,0,none⟩)) (v1:=.agg c.arr) (v2:=.int .i64 (nA c.pg c.st q)) rfl (HF.get 5 rfl) (HF.get 4 rfl) (HF.get 0 rfl) (enters_of Tryz.func92 (by kernel_rfl) rfl) ?_
    refine(my HR.o HH.o F2 p kn D2 (nA c.pg c.st q) NB.o.1.2.2 NB.o.1.2.1 w5 M5.o.view HK.o M5.o.inv).mono ?_
    intro e w6 he
    rcases M5.o.step (ae.refl _) HK.o (dt HH.o NB.o.1.2.1) he with⟨a',hE,rfl,hd',ht',_⟩|⟨x6,D6,F6,hE,rfl,M6,hq6,_,_⟩
    ·exact FIND _ _ HF.1.2 (NEED.o a' w6 (R2'.o.symm.trans (ag hE)) hd' ht')
    have R6:=hQQ ((aj hE).symm.trans R2'.o)
    have M6:=hQQ M6
    clear he hE
    refine hK _ _ (KL.o _ _ _ M6.o) fun A β13 HF=>?_
    clear hK K
    refine tqO 13 52 (by kernel_rfl) HF fun K hK=>?_
    refine jH (v0:=.pointer (some ⟨p,0,none⟩)) (v1:=.agg c.arr) (v2:=.int .i64 (aH c.pg c.st cl f)) (v3:=.int .i64 (-1)) (v4:=.int .i64 x6) rfl (HF.get 12 rfl) (HF.get 11 rfl) (HF.get 2 rfl) (HF.get 7 rfl) (HF.get 0 rfl) (enters_of Tryz.func146 (by kernel_rfl) rfl) ?_
    refine(rV HR.o HH.o hn F6 p kn D6 (aH c.pg c.st cl f) (-1) x6 (bG HH.o).2.2 (bG HH.o).2.1 (.inl rfl) hq6 w6 M6.o.view HK.o M6.o.inv).mono ?_
    intro e w7 he
    rcases M6.o.step (ae.refl _) HK.o (dW HH.o (bG HH.o).2.2 (bG HH.o).2.1 (.inl rfl) hq6) he with⟨a',hE,rfl,hd',ht',_⟩|⟨x7,D7,F7,hE,rfl,M7,hq7,_,_⟩
    ·exact FIND _ _ HF.1.2 (NEED.o a' w7 (R6.o.symm.trans (ag hE)) hd' ht')
    have R7:=hQQ ((aj hE).symm.trans R6.o)
    have M7:=hQQ M7
    clear he hE
    refine hK _ _ (KL.o _ _ _ M7.o) fun A β14 HF=>?_
    clear hK K
    exact bU (by kernel_rfl) (FINE _ _ ⟨(.pointer (some ⟨p,0,none⟩)),(.agg c.arr),(.agg c.arr),(.int .i64 cl),(.int .i64 f),(.int .i64 (-1)),(.pointer (some ⟨p,0,none⟩)),(.agg c.arr),(.agg c.arr),(.int .i64 q),(.int .i64 (aH c.pg c.st cl f)),(.int .i64 (nA c.pg c.st q)),(.int .i64 x6),(.tuple #[]),D7,F7,by rw[← β14,← β13,← β12,← β11,← β10,← β9,← β8,← β7,← β6,← β5,← β4,← β3,← β2,← β1]<;>rfl,M7.o,R7.o⟩)
   ·obtain⟨g,rfl,_,_,hcell⟩:=hrd 0 (by omega)
    have d0:decide ((0:Int)<(xs.length:Int))=true:=by simp;omega
    have hlast:xs.getD (xs.length-1) 0=cE xs:=by
     unfold cE
     rw[List.getD_eq_getElem?_getD,List.getD_eq_getElem?_getD,List.getElem?_eq_getElem (by omega)]
     rfl
    have hc:=hcell (xs.length-1) (by omega)
    rw[hlast] at hc
    obtain⟨m,hm⟩:∃m:Nat,xs.length=m+1:=⟨xs.length-1,by omega⟩
    rw[hm] at hc⊢
    have hc:w3.cell? ⟨g,m,none⟩=some (.int .i64 (cE xs)):=hc
    have hm9:m<9000000000000000000:=by omega
    have q1:IntKind.i64.wrap (((m+1:Nat):Int)-1)=(m:Int):=by rw[show((m+1:Nat):Int)-1=(m:Int) by omega];exact aB (by omega) (by omega)
    have d1:decide ((0:Int)<((m+1:Nat):Int))=true:=by simp
    clear R2 hrd h0 HU hcell hlast hm d0
    go_wp2_with fail
    clear hc
    refine aO (TrC c w.heap.size) (by kernel_rfl) ?_
    have MR:=hQQ (M3.o.more ((ae.refl w3).drewN 1))
    change dg _ _ _ _ _ _ _ _ (w3.drewN 1)
    generalize w3.drewN 1=wr at MR⊢
    generalize hA:Act.mk _ _=A
    have HF:AG 63 A [(0,.pointer (some ⟨p,0,none⟩)),(1,.agg c.arr),(2,.int .i64 q),(3,.int .i64 cl),(4,.int .i64 f),(6,.pointer (some ⟨w.heap.size,0,none⟩)),(13,.int .i64 (cE xs))]:=by
     rw[←hA];try simp only[pts,List.foldl]
     refine⟨⟨Nat.le_of_ble_eq_true rfl,rfl⟩,?_⟩
     intro z hz;simp only[List.mem_cons,List.not_mem_nil,or_false] at hz;rcases hz with rfl|rfl|rfl|rfl|rfl|rfl|rfl<;>rfl
    refine bL (fun a W=>∃(u39 u40 u41 u42 u43 u45 u46 u47 u48 u49 u44 u50 u51 u52:Value) (D9:List KV) (F9:Nat→Prop),a=(pts A [(39,u39),(40,u40),(41,u41),(42,u42),(43,u43),(45,u45),(46,u46),(47,u47),(48,u48),(49,u49),(44,u44),(50,u50),(51,u51),(52,u52)])∧MidV w1 W F (fun _=>False) p kn n D9 F9∧aq (cU (nA c.pg c.st q) 0) (fun _=>aq (cU (vA c.pg c.st q) 0) fun _=>az true) kn D9=Rr) (fun W=>aI w F p kn (fun b:Bool=>Value.bool b) Rr (.panicked (bB p)) W) (bB p) (fun a W hd h=>⟨hd,h⟩) (fun _ _ _ _ _ h=>h) ?_ ?_
    ·skip
     rintro a wa ⟨u39,u40,u41,u42,u43,u45,u46,u47,u48,u49,u44,u50,u51,u52,D7,F7,rfl,MS,RS⟩
     rw[←hA];try simp only[pts,List.foldl]
     have MS:=hQQ MS
     have LS:=hQQ (KL.o _ _ _ MS.o)
     have RS:=hQQ RS
     clear HF hA MR M3 R2' L3
     go_wp2_with (first|(refine aM rfl rfl rfl LS.o (by kernel_rfl) ?_)|(refine aM rfl rfl rfl LS.o (by kernel_rfl) ?_))
     refine(mw HR.o _ q).mono ?_
     rw[P3.o]
     rintro e w8 ⟨rfl,h8⟩
     have M8:=hQQ (MS.o.more h8)
     clear h8
     go_wp2_with fail
     refine(dq F7 p kn D7 _ 0 w8 M8.o.view (by have:=M8.o.inv.len;omega)).mono ?_
     intro e w9 he
     rcases M8.o.step (ae.refl _) HK.o (aR n NB.o.1.2.2 NB.o.1.2.1 (by unfold W64;omega)) he with⟨a',hE,rfl,hd',ht',_⟩|⟨x9,D9,F9,hE,rfl,M9,hq9,_,_⟩
     ·exact⟨rfl,NEED.o a' w9 (RS.o.symm.trans (ag hE)) hd' ht'⟩
     have L9:=hQQ (KL.o _ _ _ M9)
     have R9:=hQQ ((aj hE).symm.trans RS.o)
     have M9:=hQQ M9
     clear he hE
     go_wp2_with (first|(refine aM rfl rfl rfl L9.o (by kernel_rfl) ?_)|(refine aM rfl rfl rfl L9.o (by kernel_rfl) ?_))
     refine(qI HR.o _ q).mono ?_
     rw[P4.o]
     rintro e w10 ⟨rfl,h10⟩
     have M10:=hQQ (M9.o.more h10)
     clear h10
     go_wp2_with fail
     refine(dq F9 p kn D9 _ 0 w10 M10.o.view (by have:=M10.o.inv.len;omega)).mono ?_
     intro e w11 he
     rcases M10.o.step (ae.refl _) HK.o (aR n NB.o.2.2.2 NB.o.2.2.1 (by unfold W64;omega)) he with⟨a',hE,rfl,hd',ht',_⟩|⟨x11,D11,F11,hE,rfl,M11,hq11,_,_⟩
     ·exact⟨rfl,NEED.o a' w11 (R9.o.symm.trans (ag hE)) hd' ht'⟩
     have FIN:=hQQ (DONE.o true w11 D11 F11 (R9.o.symm.trans (aj hE)) M11)
     clear he hE M11
     go_wp2_with fail
     go_ret
     exact FIN.o
    intro QQ FINE FIND FINQ
    clear hA
    refine tqM 0 39 0 rfl (.inl rfl) rfl (by kernel_rfl) FINQ (KL.o _ _ _ MR.o) HF fun A β1 HF=>?_
    refine tqC 1 40 (.agg c.arr) (by kernel_rfl) FINQ (KL.o _ _ _ MR.o) HF (by exact aD (ab rfl) 28 _ rfl w.heap.size (HF.get 6 rfl) 28 _ _ _ (fun W hW=>hW) Tryz.underlying28 rfl (by kernel_rfl)) fun A β2 HF=>?_
    refine tqC 2 41 (.agg c.arr) (by kernel_rfl) FINQ (KL.o _ _ _ MR.o) HF (by exact aD (ab rfl) 28 _ rfl w.heap.size (HF.get 7 rfl) 28 _ _ _ (fun W hW=>hW) Tryz.underlying28 rfl (by kernel_rfl)) fun A β3 HF=>?_
    refine tqM 3 42 6 rfl (.inl rfl) rfl (by kernel_rfl) FINQ (KL.o _ _ _ MR.o) HF fun A β4 HF=>?_
    refine tqM 4 43 8 rfl (.inl rfl) rfl (by kernel_rfl) FINQ (KL.o _ _ _ MR.o) HF fun A β5 HF=>?_
    refine tqM 6 45 11 rfl (.inl rfl) rfl (by kernel_rfl) FINQ (KL.o _ _ _ MR.o) HF fun A β6 HF=>?_
    refine tqM 7 46 6 rfl (.inl rfl) rfl (by kernel_rfl) FINQ (KL.o _ _ _ MR.o) HF fun A β7 HF=>?_
    refine tqC 8 47 (.agg c.arr) (by kernel_rfl) FINQ (KL.o _ _ _ MR.o) HF (by exact aD (ab rfl) 28 _ rfl w.heap.size (HF.get 12 rfl) 28 _ _ _ (fun W hW=>hW) Tryz.underlying28 rfl (by kernel_rfl)) fun A β8 HF=>?_
    refine tqC 9 48 (.agg c.arr) (by kernel_rfl) FINQ (KL.o _ _ _ MR.o) HF (by exact aD (ab rfl) 28 _ rfl w.heap.size (HF.get 13 rfl) 28 _ _ _ (fun W hW=>hW) Tryz.underlying28 rfl (by kernel_rfl)) fun A β9 HF=>?_
    refine tqM 10 49 11 rfl (.inl rfl) rfl (by kernel_rfl) FINQ (KL.o _ _ _ MR.o) HF fun A β10 HF=>?_
    refine tqO 5 44 (by kernel_rfl) HF fun K hK=>?_
    refine dE (v0:=.agg c.arr) (v1:=.int .i64 cl) (v2:=.int .i64 f) rfl (HF.get 7 rfl) (HF.get 6 rfl) (HF.get 5 rfl) (enters_of Tryz.func93 (by kernel_rfl) rfl) ?_
    refine(ly HR.o wr cl f).mono ?_
    rintro e w4 ⟨rfl,h4⟩
    have M4:=hQQ (MR.o.more h4)
    clear h4
    refine hK _ _ (KL.o _ _ _ M4.o) fun A β11 HF=>?_
    clear hK K
    refine tqO 11 50 (by kernel_rfl) HF fun K hK=>?_
    refine bO (v0:=.agg c.arr) (v1:=.int .i64 q) rfl (HF.get 2 rfl) (HF.get 1 rfl) (enters_of Tryz.func136 (by kernel_rfl) rfl) ?_
    refine(mw HR.o w4 q).mono ?_
    rw[P3.o]
    rintro e w5 ⟨rfl,h5⟩
    have M5:=hQQ (M4.o.more h5)
    clear h5
    refine hK _ _ (KL.o _ _ _ M5.o) fun A β12 HF=>?_
    clear hK K
    refine tqO 12 51 (by kernel_rfl) HF fun K hK=>?_
    refine dE (v0:=.pointer (some ⟨p,0,none⟩)) (v1:=.agg c.arr) (v2:=.int .i64 (nA c.pg c.st q)) rfl (HF.get 5 rfl) (HF.get 4 rfl) (HF.get 0 rfl) (enters_of Tryz.func92 (by kernel_rfl) rfl) ?_
    refine(my HR.o HH.o F2 p kn D2 (nA c.pg c.st q) NB.o.1.2.2 NB.o.1.2.1 w5 M5.o.view HK.o M5.o.inv).mono ?_
    intro e w6 he
    rcases M5.o.step (ae.refl _) HK.o (dt HH.o NB.o.1.2.1) he with⟨a',hE,rfl,hd',ht',_⟩|⟨x6,D6,F6,hE,rfl,M6,hq6,_,_⟩
    ·exact FIND _ _ HF.1.2 (NEED.o a' w6 (R2'.o.symm.trans (ag hE)) hd' ht')
    have R6:=hQQ ((aj hE).symm.trans R2'.o)
    have M6:=hQQ M6
    clear he hE
    refine hK _ _ (KL.o _ _ _ M6.o) fun A β13 HF=>?_
    clear hK K
    refine tqO 13 52 (by kernel_rfl) HF fun K hK=>?_
    refine jH (v0:=.pointer (some ⟨p,0,none⟩)) (v1:=.agg c.arr) (v2:=.int .i64 (aH c.pg c.st cl f)) (v3:=.int .i64 (cE xs)) (v4:=.int .i64 x6) rfl (HF.get 12 rfl) (HF.get 11 rfl) (HF.get 2 rfl) (HF.get 7 rfl) (HF.get 0 rfl) (enters_of Tryz.func146 (by kernel_rfl) rfl) ?_
    refine(rV HR.o HH.o hn F6 p kn D6 (aH c.pg c.st cl f) (cE xs) x6 (bG HH.o).2.2 (bG HH.o).2.1 (lx HH.o HXS.o) hq6 w6 M6.o.view HK.o M6.o.inv).mono ?_
    intro e w7 he
    rcases M6.o.step (ae.refl _) HK.o (dW HH.o (bG HH.o).2.2 (bG HH.o).2.1 (lx HH.o HXS.o) hq6) he with⟨a',hE,rfl,hd',ht',_⟩|⟨x7,D7,F7,hE,rfl,M7,hq7,_,_⟩
    ·exact FIND _ _ HF.1.2 (NEED.o a' w7 (R6.o.symm.trans (ag hE)) hd' ht')
    have R7:=hQQ ((aj hE).symm.trans R6.o)
    have M7:=hQQ M7
    clear he hE
    refine hK _ _ (KL.o _ _ _ M7.o) fun A β14 HF=>?_
    clear hK K
    exact bU (by kernel_rfl) (FINE _ _ ⟨(.pointer (some ⟨p,0,none⟩)),(.agg c.arr),(.agg c.arr),(.int .i64 cl),(.int .i64 f),(.int .i64 (cE xs)),(.pointer (some ⟨p,0,none⟩)),(.agg c.arr),(.agg c.arr),(.int .i64 q),(.int .i64 (aH c.pg c.st cl f)),(.int .i64 (nA c.pg c.st q)),(.int .i64 x6),(.tuple #[]),D7,F7,by rw[← β14,← β13,← β12,← β11,← β10,← β9,← β8,← β7,← β6,← β5,← β4,← β3,← β2,← β1]<;>rfl,M7.o,R7.o⟩)
theorem yS {c:Cfg}(R:c.Ok){n:Nat}(H:cF c.pg c.st n)(p:Nat)(nd a:Int)(w:World)(hd:bJ w p nd):
 Calls Tryz.prog 92 #[.pointer (some ⟨p,0,none⟩),.agg c.arr,.int .i64 a] w (aQ w (.int .i64 (-1))):=by
 obtain⟨w1,e1,hl1,m1,s1⟩:=bg w (.cells c.arr 28)
 have MM:=hQQ m1
 have L0:=hQQ hl1
 have DD:Hq (∀W,ae w1 W→bJ W p nd):=hQQ fun W m=>(hd.keep m1 (fun q=>q)).keep m (fun q=>q)
 have HR:=hQQ R
 have HH:=hQQ H
 clear hl1 m1 hd R H
 have q0:IntKind.i64.wrap (0-1)= -1:=by decide
 have hb:af c.pg (-1)=false:=by
  cases e:af c.pg (-1) with
  |false=>rfl
  |true=>have:=ay.1 e;omega
 by_cases a0:a=0
 ·have d0:(a==0)=true:=by simp[a0]
  clear a0
  go_enter Tryz.func92,Tryz.ntmps92
  go_wp2_with fail
  go_ret
  exact⟨rfl,MM.o⟩
 ·have d0:(a==0)=false:=by simp[a0]
  clear a0
  go_enter Tryz.func92,Tryz.ntmps92
  go_wp2_with fail
  refine(vr p nd a w1 (DD.o _ (ae.refl _))).mono ?_
  rintro e w2 ⟨rfl,rfl⟩
  go_wp2_with (first|(refine aM rfl rfl rfl L0.o (by kernel_rfl) ?_)|(refine aM rfl rfl rfl L0.o (by kernel_rfl) ?_))
  refine(iL HR.o HH.o (-1) _).mono ?_
  rw[hb]
  rintro e w3 ⟨rfl,h3⟩
  have FIN:=hQQ (MM.o.trans h3)
  clear h3
  go_wp2_with fail
  go_ret
  exact⟨rfl,FIN.o⟩
theorem Da {c:Cfg}(R:c.Ok){n:Nat}(H:cF c.pg c.st n)(p:Nat)(nd h x y:Int)(w:World)(hd:bJ w p nd):
 Calls Tryz.prog 146 #[.pointer (some ⟨p,0,none⟩),.agg c.arr,.int .i64 h,.int .i64 x,.int .i64 y] w (aQ w (.tuple #[])):=by
 obtain⟨w1,e1,hl1,m1,s1⟩:=bg w (.cells c.arr 28)
 have MM:=hQQ m1
 have L0:=hQQ hl1
 have DD:Hq (∀W,ae w1 W→bJ W p nd):=hQQ fun W m=>(hd.keep m1 (fun q=>q)).keep m (fun q=>q)
 have HR:=hQQ R
 have HH:=hQQ H
 clear hl1 m1 hd R H
 have M0:Hq (ae w1 w1):=hQQ (ae.refl _)
 by_cases ex:x= -1
 ·have d0:(x== -1)=true:=by simp[ex]
  clear ex
  go_enter Tryz.func146,Tryz.ntmps146
  go_wp2_with fail
  refine(ld p nd _ _ _ (DD.o _ M0.o)).mono ?_
  rintro e w2 ⟨rfl,rfl⟩
  by_cases ey:y= -1
  ·have d1:(y != -1)=false:=by simp[ey]
   have d2:(y== -1)=true:=by simp[ey]
   have FIN:=hQQ (MM.o.trans M0.o)
   clear ey
   go_wp2_with fail
   go_end0
   exact⟨rfl,FIN.o⟩
  ·have d1:(y != -1)=true:=by simpa using ey
   have d2:(y== -1)=false:=by simpa using ey
   clear ey
   go_wp2_with (first|(refine aM rfl rfl rfl L0.o (by kernel_rfl) ?_)|(refine aM rfl rfl rfl L0.o (by kernel_rfl) ?_))
   refine(qI HR.o _ y).mono ?_
   rintro e w7 ⟨rfl,h7⟩
   have M7:=hQQ (M0.o.trans h7)
   have L7:=hQQ (h7.block L0.o)
   clear h7
   have FIN:=hQQ (MM.o.trans M7.o)
   go_wp2_with fail
   refine(ld p nd _ _ _ (DD.o _ M7.o)).mono ?_
   rintro e w8 ⟨rfl,rfl⟩
   go_wp2_with fail
   go_end0
   exact⟨rfl,FIN.o⟩
 ·have d0:(x== -1)=false:=by simp[ex]
  clear ex
  go_enter Tryz.func146,Tryz.ntmps146
  go_wp2_with (first|(refine aM rfl rfl rfl L0.o (by kernel_rfl) ?_)|(refine aM rfl rfl rfl L0.o (by kernel_rfl) ?_))
  refine(mw HR.o _ x).mono ?_
  rintro e w5 ⟨rfl,h5⟩
  have M5:=hQQ (M0.o.trans h5)
  have L5:=hQQ (h5.block L0.o)
  clear h5
  go_wp2_with fail
  refine(ld p nd _ _ _ (DD.o _ M5.o)).mono ?_
  rintro e w2 ⟨rfl,rfl⟩
  by_cases ey:y= -1
  ·have d1:(y != -1)=false:=by simp[ey]
   have d2:(y== -1)=true:=by simp[ey]
   have FIN:=hQQ (MM.o.trans M5.o)
   clear ey
   go_wp2_with fail
   go_end0
   exact⟨rfl,FIN.o⟩
  ·have d1:(y != -1)=true:=by simpa using ey
   have d2:(y== -1)=false:=by simpa using ey
   clear ey
   go_wp2_with (first|(refine aM rfl rfl rfl L5.o (by kernel_rfl) ?_)|(refine aM rfl rfl rfl L5.o (by kernel_rfl) ?_))
   refine(qI HR.o _ y).mono ?_
   rintro e w7 ⟨rfl,h7⟩
   have M7:=hQQ (M5.o.trans h7)
   have L7:=hQQ (h7.block L5.o)
   clear h7
   have FIN:=hQQ (MM.o.trans M7.o)
   go_wp2_with fail
   refine(ld p nd _ _ _ (DD.o _ M7.o)).mono ?_
   rintro e w8 ⟨rfl,rfl⟩
   go_wp2_with fail
   go_end0
   exact⟨rfl,FIN.o⟩
theorem A5 {c:Cfg}(R:c.Ok){n:Nat}(H:cF c.pg c.st n)(p:Nat)(nd q cl f:Int)(hq:af c.pg q=true)(w:World)(hd:bJ w p nd):
 Calls Tryz.prog 145 #[.pointer (some ⟨p,0,none⟩),.agg c.arr,.int .i64 q,.int .i64 cl,.int .i64 f] w (aQ w (.tuple #[.slice none 0 0,.bool false])):=by
 obtain⟨w1,e1,hl1,m1,s1⟩:=bg w (.cells c.arr 28)
 have MM:=hQQ m1
 have L0:=hQQ hl1
 have DD:Hq (∀W,ae w1 W→bJ W p nd):=hQQ fun W m=>(hd.keep m1 (fun q=>q)).keep m (fun q=>q)
 have HR:=hQQ R
 have HH:=hQQ H
 clear hl1 m1 hd R H
 have hfl:=fK c
 have pg1:=HR.o.pg1
 have pg2:=HR.o.pg2
 have hqp:=ay.1 hq
 have d4:(-1==q)=false:=by simp;omega
 have M0:Hq (ae w1 w1):=hQQ (ae.refl _)
 clear hq
 go_enter Tryz.func145,Tryz.ntmps145
 go_wp2_with fail
 refine wp_scope_jumps 0 (fun a' w'=>∃(u12 u13 u14 u15 u16 u17 u18 u19 u20 u21 u22 u23 u24 u25 u26 u27 u28 u29 u30 u31 u32 u33 u34 u35 u36 u37 u38 u39 u40 u41 u42:Value),a'= { tmps:= #[.pointer (some ⟨p,0,none⟩),.agg c.arr,.int .i64 q,.int .i64 cl,.int .i64 f,undef,.pointer (some ⟨w.heap.size,0,none⟩),undef,undef,undef,.slice none 0 0,.bool false,u12,u13,u14,u15,u16,u17,u18,u19,u20,u21,u22,u23,u24,u25,u26,u27,u28,u29,u30,u31,u32,u33,u34,u35,u36,u37,u38,u39,u40,u41,u42],defers:= [] } ∧ae w1 w') (fun _ _=>0) rfl ?_ ?_
 ·go_wp2_with (first|(refine aM rfl rfl rfl L0.o (by kernel_rfl) ?_)|(refine aM rfl rfl rfl L0.o (by kernel_rfl) ?_))
  refine(ly HR.o _ cl f).mono ?_
  rintro e w2 ⟨rfl,h2⟩
  have M2:=hQQ (M0.o.trans h2)
  have L2:=hQQ (h2.block L0.o)
  clear h2
  go_wp2_with (first|(refine aM rfl rfl rfl L2.o (by kernel_rfl) ?_)|(refine aM rfl rfl rfl L2.o (by kernel_rfl) ?_))
  refine(dw HR.o _).mono ?_
  rintro e w3 ⟨rfl,h3⟩
  have M3:=hQQ (M2.o.trans h3)
  have L3:=hQQ (h3.block L2.o)
  clear h3
  go_wp2_with fail
  go_loopw [10,11,12,21] (fun v10 v11 v12 v21 wr=>v10=.slice none 0 0∧v11=.bool false∧v21=.int .i64 0∧v12=.int .i64 (aH c.pg c.st cl f)∧ae w1 wr) (fun _ _ _ _ _=>0)
  case atStart=>exact⟨rfl,rfl,rfl,rfl,M3.o⟩
  case round =>
   clear M3 L3
   obtain⟨rfl,rfl,rfl,rfl,mr⟩:=hrel
   have MI:=hQQ mr
   have LI:=hQQ (mr.block L0.o)
   clear mr
   have d3:decide ((0:Int)<c.pg)=true:=by simp;omega
   go_wp2_with (first|(refine aM rfl rfl rfl LI.o (by kernel_rfl) ?_)|(refine aM rfl rfl rfl LI.o (by kernel_rfl) ?_))
   refine(yS HR.o HH.o p nd _ wr (DD.o _ MI.o)).mono ?_
   rintro e w4 ⟨rfl,h4⟩
   have M4:=hQQ (MI.o.trans h4)
   clear h4
   go_wp2_with fail
   go_step3
   refine⟨rfl,_,_,_,_,_,_,_,_,_,_,_,_,_,_,_,_,_,_,_,_,_,_,_,_,_,_,_,_,_,_,_,rfl,M4.o⟩
 ·rintro a w' ⟨u12,u13,u14,u15,u16,u17,u18,u19,u20,u21,u22,u23,u24,u25,u26,u27,u28,u29,u30,u31,u32,u33,u34,u35,u36,u37,u38,u39,u40,u41,u42,rfl,mf⟩
  have FIN:=hQQ (MM.o.trans mf)
  clear mf
  go_wp2_with fail
  go_ret2
  exact⟨rfl,FIN.o⟩
theorem Ex {c:Cfg}(R:c.Ok){n:Nat}(H:cF c.pg c.st n)(p:Nat)(nd q k f:Int)(w:World)(hd:bJ w p nd):
 Calls Tryz.prog 130 #[.pointer (some ⟨p,0,none⟩),.agg c.arr,.int .i64 q,.int .i64 k,.int .i64 f] w (aQ w (.bool false)):=by
 obtain⟨w1,e1,hl1,m1,s1⟩:=bg w (.cells c.arr 28)
 have MM:=hQQ m1
 have L0:=hQQ hl1
 have DD:Hq (∀W,ae w1 W→bJ W p nd):=hQQ fun W m=>(hd.keep m1 (fun q=>q)).keep m (fun q=>q)
 have HR:=hQQ R
 have HH:=hQQ H
 clear hl1 m1 hd R H
 go_enter Tryz.func130,Tryz.ntmps130
 go_wp2_with (first|(refine aM rfl rfl rfl L0.o (by kernel_rfl) ?_)|(refine aM rfl rfl rfl L0.o (by kernel_rfl) ?_))
 refine(iL HR.o HH.o q _).mono ?_
 cases hq:af c.pg q with
 |false =>
  rintro e w2 ⟨rfl,h2⟩
  have FIN:=hQQ (MM.o.trans h2)
  clear h2
  go_wp2_with fail
  go_ret
  exact⟨rfl,FIN.o⟩
 |true =>
  rintro e w2 ⟨rfl,h2⟩
  have M2:=hQQ h2
  have L2:=hQQ (h2.block L0.o)
  clear h2
  go_wp2_with (first|(refine aM rfl rfl rfl L2.o (by kernel_rfl) ?_)|(refine aM rfl rfl rfl L2.o (by kernel_rfl) ?_))
  refine(A5 HR.o HH.o p nd q k f hq w2 (DD.o _ M2.o)).mono ?_
  rintro e w3 ⟨rfl,h3⟩
  have FIN:=hQQ (MM.o.trans (M2.o.trans h3))
  clear h3
  go_wp2_with fail
  go_ret
  exact⟨rfl,FIN.o⟩
theorem J4 {c:Cfg}(R:c.Ok){n:Nat}(H:cF c.pg c.st n)(p:Nat)(nd q k f:Int)(w:World)(hd:bJ w p nd):
 Calls Tryz.prog 131 #[.pointer (some ⟨p,0,none⟩),.agg c.arr,.int .i64 q,.int .i64 k,.int .i64 f] w (aQ w (.bool (aH c.pg c.st k f != 0 && af c.pg q))):=by
 obtain⟨w1,e1,hl1,m1,s1⟩:=bg w (.cells c.arr 28)
 have MM:=hQQ m1
 have L0:=hQQ hl1
 have DD:Hq (∀W,ae w1 W→bJ W p nd):=hQQ fun W m=>(hd.keep m1 (fun q=>q)).keep m (fun q=>q)
 have HR:=hQQ R
 have HH:=hQQ H
 clear hl1 m1 hd R H
 obtain⟨hv,hhv⟩:∃hv,aH c.pg c.st k f=hv:=⟨_,rfl⟩
 have YH:=hQQ (fun W=>ly HR.o W k f)
 rw[hhv] at YH⊢
 clear hhv
 go_enter Tryz.func131,Tryz.ntmps131
 go_wp2_with (first|(refine aM rfl rfl rfl L0.o (by kernel_rfl) ?_)|(refine aM rfl rfl rfl L0.o (by kernel_rfl) ?_))
 refine(YH.o _).mono ?_
 rintro e w2 ⟨rfl,h2⟩
 have M2:=hQQ h2
 have L2:=hQQ (h2.block L0.o)
 clear h2
 by_cases hz:hv=0
 ·have d0:(hv==0)=true:=by simp[hz]
  have FIN:=hQQ (MM.o.trans M2.o)
  have HZ:=hQQ (show(hv != 0 && af c.pg q)=false by simp[hz])
  clear hz
  go_wp2_with fail
  go_ret
  exact⟨by rw[HZ.o];rfl,FIN.o⟩
 have d0:(hv==0)=false:=by simp[hz]
 have HZ:=hQQ (show(hv != 0 && af c.pg q)=af c.pg q by simp[hz])
 clear hz
 go_wp2_with (first|(refine aM rfl rfl rfl L2.o (by kernel_rfl) ?_)|(refine aM rfl rfl rfl L2.o (by kernel_rfl) ?_))
 refine(iL HR.o HH.o q _).mono ?_
 cases hq:af c.pg q with
 |false =>
  rintro e w3 ⟨rfl,h3⟩
  have FIN:=hQQ (MM.o.trans (M2.o.trans h3))
  clear h3
  go_wp2_with fail
  go_ret
  exact⟨by rw[HZ.o,hq];rfl,FIN.o⟩
 |true =>
  rintro e w3 ⟨rfl,h3⟩
  have M3:=hQQ (M2.o.trans h3)
  have L3:=hQQ (h3.block L2.o)
  clear h3
  have DL:=hQQ (fun W (hW:ae w3 W)=>yS HR.o HH.o p nd hv W (DD.o _ (M3.o.trans hW)))
  have DJ:=hQQ (fun W (hW:ae w3 W)=>Da HR.o HH.o p nd hv q (-1) W (DD.o _ (M3.o.trans hW)))
  go_wp2_with fail
  refine bQ (by kernel_rfl) (by kernel_rfl) ?_
  iterate 1
   with_reducible refine wpQuiet_step (fun K hK=>?_)
   go_simp
   first
   |(refine hK _ ?_;clear hK K)
   |(apply Exists.intro
     refine⟨fun W hW=>?_,hK _ ?_⟩
     first
     |(go_simp;try rfl)
     clear hK K)
  refine aP rfl 28 _ rfl _ rfl 28 _ _ _ (fun W hW=>hW.block L3.o) Tryz.underlying28 rfl (by kernel_rfl) ?_
  iterate 3
   with_reducible refine wpQuiet_step (fun K hK=>?_)
   go_simp
   first
   |(refine hK _ ?_;clear hK K)
   |(apply Exists.intro
     refine⟨fun W hW=>?_,hK _ ?_⟩
     first
     |(go_simp;try rfl)
     clear hK K)
  refine aP rfl 28 _ rfl _ rfl 28 _ _ _ (fun W hW=>hW.block L3.o) Tryz.underlying28 rfl (by kernel_rfl) ?_
  iterate 2
   with_reducible refine wpQuiet_step (fun K hK=>?_)
   go_simp
   first
   |(refine hK _ ?_;clear hK K)
   |(apply Exists.intro
     refine⟨fun W hW=>?_,hK _ ?_⟩
     first
     |(go_at_call 92;exact Calls.more hW (DL.o W hW))
     |(go_simp;try rfl)
     clear hK K)
  iterate 1
   with_reducible refine wpQuiet_step (fun K hK=>?_)
   go_simp
   first
   |(refine hK _ ?_;clear hK K)
   |(apply Exists.intro
     refine⟨fun W hW=>?_,hK _ ?_⟩
     first
     |(go_at_call 146;exact Calls.more hW (DJ.o W hW))
     |(go_simp;try rfl)
     clear hK K)
  refine wpQuiet_nil ?_
  intro w5 h5
  have M5:=hQQ (M3.o.trans h5)
  have L5:=hQQ (h5.block L3.o)
  clear h5
  go_wp2_with (first|(refine aM rfl rfl rfl L5.o (by kernel_rfl) ?_)|(refine aM rfl rfl rfl L5.o (by kernel_rfl) ?_))
  refine(Da HR.o HH.o p nd hv (-1) q w5 (DD.o _ M5.o)).mono ?_
  rintro e w6 ⟨rfl,h6⟩
  have FIN:=hQQ (MM.o.trans (M5.o.trans h6))
  clear h6
  go_wp2_with fail
  go_ret
  exact⟨by rw[HZ.o,hq];rfl,FIN.o⟩
theorem A9 {c:Cfg}(R:c.Ok)(w:World)(k:Int):Calls Tryz.prog 90 #[.agg c.arr,.int .i64 k] w (aQ w (.int .i64 (dD c.pg c.st 0 k))):=NQ R w k
theorem pE {c:Cfg}(R:c.Ok)(w:World)(k:Int):Calls Tryz.prog 134 #[.agg c.arr,.int .i64 k] w (aQ w (.int .i64 (dD c.pg c.st 1 k))):=Gm R w k
theorem Mq {c:Cfg}(R:c.Ok)(w:World)(k:Int):Calls Tryz.prog 108 #[.agg c.arr,.int .i64 k] w (aQ w (.int .i64 (dD c.pg c.st 2 k))):=Lo R w k
theorem ti {c:Cfg}(R:c.Ok){n:Nat}(H:PgIn c.pg c.st n)(F:Nat→Prop)(p:Nat)(kn:Int→Option Int)(D:List KV)(q:Int)(w:World)(hv:aF w F p kn D)(hk:OkK kn)(hD:cI n D):
 Calls Tryz.prog 51 #[.pointer (some ⟨p,0,none⟩),.agg c.arr,.int .i64 q] w (aI w F p kn (fun x=> .int .i64 x) (fC c.pg c.st q kn D)):=by
 obtain⟨Rr,hRr⟩:∃Rr,fC c.pg c.st q kn D=Rr:=⟨_,rfl⟩
 rw[hRr]
 obtain⟨w1,e1,hl1,m1,s1⟩:=bg w (.cells c.arr 28)
 have nFl:¬F w.heap.size:=fun q=>by have:=hv.lt _ q;omega
 have MM:=hQQ m1
 have L0:=hQQ hl1
 have M0:=m0Z (hv.more m1) hD
 have KL:=klZ (p:=p) (kn:=kn) (n:=n) L0.o nFl
 have NEED:=ndZ (F:=F) (p:=p) (kn:=kn) (R:=Rr) (fun x:Int=>Value.int .i64 x) MM.o
 have DONE:=dnZ (F:=F) (p:=p) (n:=n) (kn:=kn) (R:=Rr) (fun x:Int=>Value.int .i64 x) MM.o
 have HK:=hQQ hk
 have HR:=hQQ R
 have HH:=hQQ H
 clear hl1 m1 hv hD hk R H nFl
 unfold fC at hRr
 cases h:af c.pg q with
 |false =>
  rw[h] at hRr
  have FIN:Hq (∀w2,ae w1 w2→aI w F p kn (fun x:Int=>Value.int .i64 x) Rr (.returned (.int .i64 (-1))) w2):=hQQ fun w2 m=>DONE.o (-1) w2 D F hRr.symm (M0.o.more m)
  clear hRr
  go_enter Tryz.func51,Tryz.ntmps51
  go_wp2_with (first|(refine aM rfl rfl rfl L0.o (by kernel_rfl) ?_)|(refine aM rfl rfl rfl L0.o (by kernel_rfl) ?_))
  refine(A9 HR.o _ q).mono ?_
  rw[Lv h]
  rintro e w2 ⟨rfl,h2⟩
  have H2:=hQQ h2
  clear h2
  go_wp2_with fail
  go_ret
  exact FIN.o _ H2.o
 |true =>
  rw[h] at hRr
  have hRr2:cT (kA c.pg c.st q) kn D=Rr:=hRr
  obtain⟨⟨ha,_,hw⟩,_⟩:=cx HH.o h
  have nz:(kA c.pg c.st q==0)=false:=by simp;omega
  have RA:=hQQ (fun w2 (m:ae w1 w2)=>iK F p kn D (kA c.pg c.st q) w2 (M0.o.view.more m) hw)
  have HRr:=hQQ hRr2
  clear hRr hRr2 hw ha
  go_enter Tryz.func51,Tryz.ntmps51
  go_wp2_with (first|(refine aM rfl rfl rfl L0.o (by kernel_rfl) ?_)|(refine aM rfl rfl rfl L0.o (by kernel_rfl) ?_))
  refine(A9 HR.o _ q).mono ?_
  rw[Lu h]
  rintro e w2 ⟨rfl,h2⟩
  have H2:=hQQ h2
  clear h2
  go_wp2_with fail
  refine(RA.o _ H2.o).mono ?_
  rw[HRr.o]
  intro e w3 he
  rcases jG he with⟨a,_,rfl⟩|⟨x,D',_,rfl⟩
  ·exact⟨rfl,he.after (MM.o.trans H2.o)⟩
  ·have FIN:=hQQ (he.after (MM.o.trans H2.o))
   clear he
   go_wp2_with fail
   go_ret
   exact FIN.o
theorem yT {c:Cfg}(R:c.Ok){n:Nat}(H:PgIn c.pg c.st n)(hn:n≤10000)(F:Nat→Prop)(p:Nat)(kn:Int→Option Int)(D:List KV)(q k x:Int)(hq:af c.pg q=true)(hk':W64 k)(hx:W64 x)(w:World)(hv:aF w F p kn D)(hk:OkK kn)(hD:cI n D):
 Calls Tryz.prog 150 #[.pointer (some ⟨p,0,none⟩),.agg c.arr,.int .i64 q,.int .i64 k,.int .i64 x] w (aI w F p kn (fun _:Unit=> .tuple #[]) (lT c.pg c.st q k x kn D)):=by
 obtain⟨Rr,hRr⟩:∃Rr,lT c.pg c.st q k x kn D=Rr:=⟨_,rfl⟩
 rw[hRr]
 obtain⟨w1,e1,hl1,m1,s1⟩:=bg w (.cells c.arr 28)
 have nFl:¬F w.heap.size:=fun q=>by have:=hv.lt _ q;omega
 have MM:=hQQ m1
 have L0:=hQQ hl1
 have M0:=m0Z (hv.more m1) hD
 have KL:=klZ (p:=p) (kn:=kn) (n:=n) L0.o nFl
 have NEED:=ndZ (F:=F) (p:=p) (kn:=kn) (R:=Rr) (fun _:Unit=>Value.tuple #[]) MM.o
 have DONE:=dnZ (F:=F) (p:=p) (n:=n) (kn:=kn) (R:=Rr) (fun _:Unit=>Value.tuple #[]) MM.o
 have HK:=hQQ hk
 have HR:=hQQ R
 have HH:=hQQ H
 clear hl1 m1 hv hD hk R H nFl
 unfold lT at hRr
 have HRr:=hQQ hRr
 obtain⟨⟨_,a1,a2⟩,⟨_,b1,b2⟩,_,c1,c2⟩:=cx HH.o hq
 have G0:=hQQ (aR n a2 a1 hk')
 have G1:=hQQ (aR n b2 b1 hx)
 have G2:=hQQ (aR n c2 c1 (show W64 0 by unfold W64;omega))
 have p0:=Lu (st:=c.st) hq
 have p1:=sY (st:=c.st) hq
 have p2:=C7 (st:=c.st) hq
 have P0:=hQQ p0
 have P1:=hQQ p1
 have P2:=hQQ p2
 clear hRr a1 a2 b1 b2 c1 c2 p0 p1 p2 hk' hx
 go_enter Tryz.func150,Tryz.ntmps150
 go_wp2_with (first|(refine aM rfl rfl rfl L0.o (by kernel_rfl) ?_)|(refine aM rfl rfl rfl L0.o (by kernel_rfl) ?_))
 refine(A9 HR.o _ q).mono ?_
 rw[P0.o]
 rintro e w2 ⟨rfl,h2⟩
 have M2:=hQQ (M0.o.more h2)
 have L2:=hQQ (KL.o _ _ _ M2.o)
 clear h2
 go_wp2_with fail
 refine(dq F p kn D _ k w2 M2.o.view (by have:=M2.o.inv.len;omega)).mono ?_
 intro e w3 he
 rcases M2.o.step (ae.refl _) HK.o G0.o he with⟨a',hE,rfl,hd',ht',_⟩|⟨x3,D3,F3,hE,rfl,M3,hq3,_,_⟩
 ·exact⟨rfl,NEED.o a' w3 (HRr.o.symm.trans (ag hE)) hd' ht'⟩
 have L3:=hQQ (KL.o _ _ _ M3)
 have R3:=hQQ ((aj hE).symm.trans HRr.o)
 have M3:=hQQ M3
 clear he hE
 go_wp2_with (first|(refine aM rfl rfl rfl L3.o (by kernel_rfl) ?_)|(refine aM rfl rfl rfl L3.o (by kernel_rfl) ?_))
 refine(pE HR.o _ q).mono ?_
 rw[P1.o]
 rintro e w4 ⟨rfl,h4⟩
 have M4:=hQQ (M3.o.more h4)
 have L4:=hQQ (KL.o _ _ _ M4.o)
 clear h4
 go_wp2_with fail
 refine(dq F3 p kn D3 _ x w4 M4.o.view (by have:=M4.o.inv.len;omega)).mono ?_
 intro e w5 he
 rcases M4.o.step (ae.refl _) HK.o G1.o he with⟨a',hE,rfl,hd',ht',_⟩|⟨x5,D5,F5,hE,rfl,M5,hq5,_,_⟩
 ·exact⟨rfl,NEED.o a' w5 (R3.o.symm.trans (ag hE)) hd' ht'⟩
 have L5:=hQQ (KL.o _ _ _ M5)
 have R5:=hQQ ((aj hE).symm.trans R3.o)
 have M5:=hQQ M5
 clear he hE
 go_wp2_with (first|(refine aM rfl rfl rfl L5.o (by kernel_rfl) ?_)|(refine aM rfl rfl rfl L5.o (by kernel_rfl) ?_))
 refine(Mq HR.o _ q).mono ?_
 rw[P2.o]
 rintro e w6 ⟨rfl,h6⟩
 have M6:=hQQ (M5.o.more h6)
 clear h6
 go_wp2_with fail
 refine(dq F5 p kn D5 _ 0 w6 M6.o.view (by have:=M6.o.inv.len;omega)).mono ?_
 intro e w7 he
 rcases M6.o.step (ae.refl _) HK.o G2.o he with⟨a',hE,rfl,hd',ht',_⟩|⟨x7,D7,F7,hE,rfl,M7,hq7,_,_⟩
 ·exact⟨rfl,NEED.o a' w7 (R5.o.symm.trans hE) hd' ht'⟩
 have FIN:=hQQ (DONE.o () w7 D7 F7 (R5.o.symm.trans hE) M7)
 clear he hE M7
 go_wp2_with fail
 go_end0
 exact FIN.o
theorem qL (k:Int)(w:World):Calls Tryz.prog 156 #[.int .i64 k] w (aQ w (.bool (oG k))):=by
 by_cases h:1≤k
 ·rw[show oG k=decide (k≤5) by unfold oG;simp[h]]
  have d0:decide (1≤k)=true:=by simp[h]
  go_enter Tryz.func156,Tryz.ntmps156
  go_wp2_with fail
  go_ret
  exact⟨rfl,ae.refl _⟩
 ·rw[show oG k=false by unfold oG;simp[h]]
  have d0:decide (1≤k)=false:=by simp[h]
  go_enter Tryz.func156,Tryz.ntmps156
  go_wp2_with fail
  go_ret
  exact⟨rfl,ae.refl _⟩
theorem GZ (k m:Int)(w:World):Calls Tryz.prog 159 #[.int .i64 k,.int .i64 m] w (aQ w (.bool (oH k m))):=by
 by_cases h:k=6
 ·subst h
  rw[show oH 6 m=true by unfold oH;simp]
  go_enter Tryz.func159,Tryz.ntmps159
  go_wp2_with fail
  go_ret
  exact⟨rfl,ae.refl _⟩
 ·have d0:(k==6)=false:=by simp[h]
  have d1:(m==1)=decide (m=1):=by by_cases q:m=1<;>simp[q]
  cases hc:oG k with
  |true =>
   rw[show oH k m=decide (m=1) by unfold oH;simp[h,hc]]
   go_enter Tryz.func159,Tryz.ntmps159
   go_wp2_with fail
   refine(qL k _).mono ?_
   rw[hc]
   rintro e w2 ⟨rfl,h2⟩
   have H2:=hQQ h2
   clear h2
   go_wp2_with fail
   go_ret
   exact⟨rfl,H2.o⟩
  |false =>
   rw[show oH k m=false by unfold oH;simp[h,hc]]
   go_enter Tryz.func159,Tryz.ntmps159
   go_wp2_with fail
   refine(qL k _).mono ?_
   rw[hc]
   rintro e w2 ⟨rfl,h2⟩
   have H2:=hQQ h2
   clear h2
   go_wp2_with fail
   go_ret
   exact⟨rfl,H2.o⟩
theorem Mr (x y:Int):(x != y)= !decide (x=y):=by by_cases q:x=y<;>simp[q]
theorem J5 {pg st:Int}{m:Nat}{q:Int} :pz pg st (m+1) q=aq (fC pg st q) (fun k=>if k=0 then pz pg st m (q+1) else az false):=rfl
theorem G5 {c:Cfg}(R:c.Ok){n:Nat}(H:PgIn c.pg c.st n)(F:Nat→Prop)(p:Nat)(kn:Int→Option Int)(D:List KV)(q m:Int)(hq:W64 q)(w:World)(hv:aF w F p kn D)(hk:OkK kn)(hD:cI n D):
 Calls Tryz.prog 160 #[.pointer (some ⟨p,0,none⟩),.agg c.arr,.int .i64 q,.int .i64 m] w (aI w F p kn (fun b=> .bool b) (pA c.pg c.st q m kn D)):=by
 obtain⟨Rr,hRr⟩:∃Rr,pA c.pg c.st q m kn D=Rr:=⟨_,rfl⟩
 rw[hRr]
 obtain⟨w1,e1,hl1,m1,s1⟩:=bg w (.cells c.arr 28)
 have nFl:¬F w.heap.size:=fun q=>by have:=hv.lt _ q;omega
 have MM:=hQQ m1
 have L0:=hQQ hl1
 have M0:=m0Z (hv.more m1) hD
 have KL:=klZ (p:=p) (kn:=kn) (n:=n) L0.o nFl
 have NEED:=ndZ (F:=F) (p:=p) (kn:=kn) (R:=Rr) (fun b:Bool=>Value.bool b) MM.o
 have DONE:=dnZ (F:=F) (p:=p) (n:=n) (kn:=kn) (R:=Rr) (fun b:Bool=>Value.bool b) MM.o
 have HK:=hQQ hk
 have HR:=hQQ R
 have HH:=hQQ H
 clear hl1 m1 hv hD hk R H nFl
 have hfl:=fK c
 unfold pA at hRr
 have pg1:=HR.o.pg1
 have pg2:=HR.o.pg2
 unfold W64 at hq
 by_cases a0:q<0
 ·have d0:decide (q<0)=true:=by simp[a0]
  have hth:cm c.pg q m=false:=by unfold cm;simp;omega
  rw[hth] at hRr
  have FIN:=hQQ (DONE.o false w1 D F hRr.symm M0.o)
  clear hRr
  go_enter Tryz.func160,Tryz.ntmps160
  go_wp2_with fail
  go_ret
  exact FIN.o
 have d0:decide (q<0)=false:=by simp;omega
 by_cases a1:m<1
 ·have d1:decide (m<1)=true:=by simp[a1]
  have hth:cm c.pg q m=false:=by unfold cm;simp;omega
  rw[hth] at hRr
  have FIN:=hQQ (DONE.o false w1 D F hRr.symm M0.o)
  clear hRr
  go_enter Tryz.func160,Tryz.ntmps160
  go_wp2_with fail
  go_ret
  exact FIN.o
 have d1:decide (m<1)=false:=by simp;omega
 have q1:IntKind.i64.wrap (c.pg-q)=c.pg-q:=aB (by omega) (by omega)
 by_cases a2:c.pg-q<m
 ·have d2:decide (c.pg-q<m)=true:=by simp[a2]
  have hth:cm c.pg q m=false:=by unfold cm;simp;omega
  rw[hth] at hRr
  have FIN:Hq (∀w2,ae w1 w2→aI w F p kn (fun b:Bool=>Value.bool b) Rr (.returned (.bool false)) w2):=hQQ fun w2 h=>DONE.o false w2 D F hRr.symm (M0.o.more h)
  clear hRr
  go_enter Tryz.func160,Tryz.ntmps160
  go_wp2_with (first|(refine aM rfl rfl rfl L0.o (by kernel_rfl) ?_)|(refine aM rfl rfl rfl L0.o (by kernel_rfl) ?_))
  refine(dw HR.o _).mono ?_
  rintro e w2 ⟨rfl,h2⟩
  have H2:=hQQ h2
  clear h2
  go_wp2_with fail
  go_ret
  exact FIN.o _ H2.o
 have d2:decide (c.pg-q<m)=false:=by simp;omega
 have hth:cm c.pg q m=true:=d6.2 ⟨by omega,by omega,by omega⟩
 rw[hth,if_pos rfl] at hRr
 have HRr:=hQQ hRr
 have q2:IntKind.i64.wrap (q+m)=q+m:=aB (by omega) (by omega)
 clear hRr
 go_enter Tryz.func160,Tryz.ntmps160
 go_wp2_with (first|(refine aM rfl rfl rfl L0.o (by kernel_rfl) ?_)|(refine aM rfl rfl rfl L0.o (by kernel_rfl) ?_))
 refine(dw HR.o _).mono ?_
 rintro e w2 ⟨rfl,h2⟩
 have START:=hQQ (And.intro (M0.o.more h2) HRr.o)
 clear h2 HRr
 go_wp2_with fail
 go_loopw [9] (fun v9 wr=>∃(i:Nat) (D':List KV) (F':Nat→Prop),v9=.int .i64 (q+(i:Int))∧(i:Int)≤m∧MidV w1 wr F (fun _=>False) p kn n D' F'∧pz c.pg c.st (m.toNat-i) (q+(i:Int)) kn D'=Rr) (fun v9 _=>(q+m-intOf v9).toNat)
 case atStart=>exact⟨0,D,F,by simp,by omega,START.o.1,by simpa using START.o.2⟩
 case round =>
  clear START
  obtain⟨i,D',F',rfl,hi,MI,hrest⟩:=hrel
  have MI:=hQQ MI
  have LI:=hQQ (KL.o _ _ _ MI.o)
  by_cases hlt:(i:Int)<m
  ·have d3:decide (q+(i:Int)<q+m)=true:=by simp;omega
   have q3:IntKind.i64.wrap (q+(i:Int)+1)=q+(i:Int)+1:=aB (by omega) (by omega)
   rw[show m.toNat-i=(m.toNat-(i+1))+1 by omega,J5] at hrest
   have RI:=hQQ hrest
   clear hrest
   go_wp2_with (first|(refine aM rfl rfl rfl LI.o (by kernel_rfl) ?_)|(refine aM rfl rfl rfl LI.o (by kernel_rfl) ?_))
   refine(ti HR.o HH.o F' p kn D' (q+(i:Int)) wr MI.o.view HK.o MI.o.inv).mono ?_
   intro e w4 he
   rcases MI.o.step (ae.refl _) HK.o (gH HH.o _) he with⟨a',hE,rfl,hd',ht',_⟩|⟨x4,D4,F4,hE,rfl,M4,hq4,_,_⟩
   ·exact⟨rfl,NEED.o a' w4 (RI.o.symm.trans (ag hE)) hd' ht'⟩
   have L4:=hQQ (KL.o _ _ _ M4)
   have R4:=hQQ ((aj hE).symm.trans RI.o)
   have M4:=hQQ M4
   clear he hE
   have b1:=Mr x4 0
   by_cases z:x4=0
   ·rw[show decide (x4=0)=true by simp[z]] at b1
    have NX:=hQQ (show pz c.pg c.st (m.toNat-(i+1)) (q+(i:Int)+1) kn D4=Rr from by have:=R4.o;rwa [if_pos z] at this)
    clear R4 z
    go_wp2_with fail
    go_roundw
    case rel=>exact⟨i+1,D4,F4,by go_num,by omega,M4.o,by rw[show q+((i+1:Nat):Int)=q+(i:Int)+1 by omega];exact NX.o⟩
    case measure=>simp[intOf];omega
   ·rw[show decide (x4=0)=false by simp[z]] at b1
    have FIN:=hQQ (DONE.o false w4 D4 F4 (by have:=R4.o;rw[if_neg z] at this;exact this.symm) M4.o)
    clear R4 z
    go_wp2_with fail
    go_ret
    exact FIN.o
  ·obtain rfl:(i:Int)=m:=by omega
   have d3:decide (q+(i:Int)<q+(i:Int))=false:=by simp
   have FIN:=hQQ (DONE.o true wr D' F' (by rw[show((i:Int).toNat-i)=0 by omega] at hrest;exact hrest.symm) MI.o)
   clear hrest
   go_wp2_with fail
   go_ret
   exact FIN.o
theorem Ba {pg st:Int}{n:Nat}(H:PgIn pg st n)(p:Int):bZ n (fun k:Int=>af pg p=false→k= -1) (fC pg st p):=
 aN (fun h=>d8 (a6 n (cx H h).1.2.1) (fun _ _ q=>by rw[h] at q;cases q)) (fun _=>ai n (fun _=>rfl))
theorem G6 {c:Cfg}(R:c.Ok){n:Nat}(H:PgIn c.pg c.st n)(F:Nat→Prop)(p:Nat)(kn:Int→Option Int)(D:List KV)(q:Int)(w:World)(hv:aF w F p kn D)(hk:OkK kn)(hD:cI n D):
 Calls Tryz.prog 149 #[.pointer (some ⟨p,0,none⟩),.agg c.arr,.int .i64 q] w (aI w F p kn (fun x=> .int .i64 x) (oc c.pg c.st q kn D)):=by
 obtain⟨Rr,hRr⟩:∃Rr,oc c.pg c.st q kn D=Rr:=⟨_,rfl⟩
 rw[hRr]
 obtain⟨w1,e1,hl1,m1,s1⟩:=bg w (.cells c.arr 28)
 have nFl:¬F w.heap.size:=fun q=>by have:=hv.lt _ q;omega
 have MM:=hQQ m1
 have L0:=hQQ hl1
 have M0:=m0Z (hv.more m1) hD
 have KL:=klZ (p:=p) (kn:=kn) (n:=n) L0.o nFl
 have NEED:=ndZ (F:=F) (p:=p) (kn:=kn) (R:=Rr) (fun x:Int=>Value.int .i64 x) MM.o
 have DONE:=dnZ (F:=F) (p:=p) (n:=n) (kn:=kn) (R:=Rr) (fun x:Int=>Value.int .i64 x) MM.o
 have HK:=hQQ hk
 have HR:=hQQ R
 have HH:=hQQ H
 clear hl1 m1 hv hD hk R H nFl
 have hfl:=fK c
 unfold oc at hRr
 have pg1:=HR.o.pg1
 have pg2:=HR.o.pg2
 have HRr:=hQQ hRr
 clear hRr
 go_enter Tryz.func149,Tryz.ntmps149
 go_wp2_with (first|(refine aM rfl rfl rfl L0.o (by kernel_rfl) ?_)|(refine aM rfl rfl rfl L0.o (by kernel_rfl) ?_))
 refine(ti HR.o HH.o F p kn D q w1 M0.o.view HK.o M0.o.inv).mono ?_
 intro e w2 he
 rcases M0.o.step (ae.refl _) HK.o (Ba HH.o _) he with⟨a',hE,rfl,hd',ht',_⟩|⟨x2,D2,F2,hE,rfl,M2,hq2,_,_⟩
 ·exact⟨rfl,NEED.o a' w2 (HRr.o.symm.trans (ag hE)) hd' ht'⟩
 have L2:=hQQ (KL.o _ _ _ M2)
 have R2:=hQQ ((aj hE).symm.trans HRr.o)
 have M2:=hQQ M2
 clear he hE
 go_wp2_with fail
 refine(qL x2 _).mono ?_
 rintro e w3 ⟨rfl,h3⟩
 have M3:=hQQ (M2.o.more h3)
 have L3:=hQQ (KL.o _ _ _ M3.o)
 clear h3
 have R3:=R2.o
 cases hc:oG x2 with
 |true =>
  rw[if_pos hc] at R3
  have FIN:=hQQ (DONE.o 1 w3 D2 F2 R3.symm M3.o)
  clear R3 R2
  go_wp2_with fail
  go_ret
  exact FIN.o
 |false =>
  rw[if_neg (by simp[hc])] at R3
  by_cases h6:x2=6
  ·rw[if_pos h6] at R3
   have b6:(x2==6)=true:=by simp[h6]
   have hpg:af c.pg q=true:=by
    cases hp:af c.pg q with
    |true=>rfl
    |false=>have:=hq2 hp;omega
   obtain⟨_,⟨_,_,hw64⟩,_⟩:=cx HH.o hpg
   have hpi:=ay.1 hpg
   have qs:IntKind.i64.wrap (c.pg-q)=c.pg-q:=aB (by omega) (by omega)
   cases hN:dN kn D2 (cA c.pg c.st q) with
   |none =>
    have DIE:Hq (∀W,bJ W p (cA c.pg c.st q)→Turned (fun b=>F b∨False) w1 W→aI w F p kn (fun x:Int=>Value.int .i64 x) Rr (.panicked (bB p)) W):=hQQ fun W hd ht=>NEED.o _ W (R3.symm.trans (ag (jB hN))) hd ht
    clear R3 R2
    go_wp2_with fail
    refine wp_region_any (by kernel_rfl) ?_
    have MZ:=hQQ (M3.o.more ((ae.refl w3).drewN 1))
    have LZ:=hQQ (KL.o _ _ _ MZ.o)
    change wpAny _ _ _ _ _ _ _ (w3.drewN 1)
    generalize w3.drewN 1=w4 at MZ LZ⊢
    refine wpAny_take (i:=0) (v:=.pointer (some ⟨p,0,none⟩)) rfl (by kernel_rfl) (by kernel_rfl) (by kernel_rfl) (fun _ _ _ h=>h) (Or.inl ⟨by rfl,fun W=>by go_simp⟩) ?_
    refine wpAny_take (i:=2) (v:=.int .i64 q) rfl (by kernel_rfl) (by kernel_rfl) (by kernel_rfl) (fun _ _ _ h=>h) (Or.inl ⟨by rfl,fun W=>by go_simp⟩) ?_
    refine wpAny_take (i:=8) (v:=.int .i64 q) rfl (by kernel_rfl) (by kernel_rfl) (by kernel_rfl) (fun _ _ _ h=>h) (Or.inl ⟨by rfl,fun W=>by go_simp⟩) ?_
    refine Ek (fun W=>aI w F p kn (fun x:Int=>Value.int .i64 x) Rr (.panicked (bB p)) W) (bB p) (fun a W hd h=>⟨hd,h⟩) ?_
    intro QQ FIN
    refine JY 30 [(18,.pointer (some ⟨p,0,none⟩)),(20,.int .i64 q),(4,.pointer (some ⟨w.heap.size,0,none⟩))] ⟨⟨Nat.le_of_ble_eq_true rfl,rfl⟩,?_⟩ (fun A HF=>?_)
    ·intro z hz;simp only[List.mem_cons,List.not_mem_nil,or_false] at hz;rcases hz with rfl|rfl|rfl<;>rfl
    refine wpAny_ready (rs:=[1,5]) (by kernel_rfl) (by simp) ?_
    refine dL (some 19) rfl rfl rfl (fun K hK=>?_) ?_
    ·refine wp_load_row 28 _ rfl w.heap.size (HF.get 2 rfl) 28 _ _ _ LZ.o Tryz.underlying28 rfl (by kernel_rfl) ?_
     refine hK _ _ ?_;clear hK K
     have HF:=HF.put 19 (.agg c.arr) (by decide) rfl
     generalize Act.put _ _ _=A at HF⊢
     refine wpAny_ready (rs:=[3,5]) (by kernel_rfl) (by simp) ?_
     refine dL (some 21) rfl rfl rfl (fun K hK=>?_) ?_
     ·refine bO (v0:=.agg c.arr) (v1:=.int .i64 q) rfl (HF.get 0 rfl) (HF.get 2 rfl) (enters_of Tryz.func134 (by kernel_rfl) rfl) ?_
      refine(pE HR.o _ q).mono ?_
      rintro e W ⟨rfl,h⟩
      have MZ:=hQQ (MZ.o.more h);have LZ:=hQQ (h.block LZ.o);clear h
      rw[sY hpg]
      refine hK _ _ ?_;clear hK K
      have HF:=HF.put 21 (.int .i64 (cA c.pg c.st q)) (by decide) rfl
      generalize Act.put _ _ _=A at HF⊢
      refine wpAny_ready (rs:=[4,5]) (by kernel_rfl) (by simp) ?_
      refine dL (some 22) rfl rfl rfl (fun K hK=>?_) ?_
      ·refine bO (v0:=.pointer (some ⟨p,0,none⟩)) (v1:=.int .i64 (cA c.pg c.st q)) rfl (HF.get 2 rfl) (HF.get 0 rfl) (enters_of Tryz.func27 (by kernel_rfl) rfl) ?_
       refine(jp F2 p kn D2 (cA c.pg c.st q) _ MZ.o.view hw64 hN).mono ?_
       rintro e W ⟨rfl,hd,ht⟩
       exact FIN _ _ HF.1.2 (DIE.o W hd (ak MZ.o.turn ht (fun k q=>(MZ.o.from' k q).imp .inl id)))
      refine dL (some 23) rfl rfl rfl (fun K hK=>?_) ?_
      ·refine wp_load_row 28 _ rfl w.heap.size (HF.get 4 rfl) 28 _ _ _ LZ.o Tryz.underlying28 rfl (by kernel_rfl) ?_
       refine hK _ _ ?_;clear hK K
       have HF:=HF.put 23 (.agg c.arr) (by decide) rfl
       generalize Act.put _ _ _=A at HF⊢
       refine wpAny_ready (rs:=[4]) (by kernel_rfl) (by simp) ?_
       refine dL (some 22) rfl rfl rfl (fun K hK=>?_) ?_
       ·refine bO (v0:=.pointer (some ⟨p,0,none⟩)) (v1:=.int .i64 (cA c.pg c.st q)) rfl (HF.get 3 rfl) (HF.get 1 rfl) (enters_of Tryz.func27 (by kernel_rfl) rfl) ?_
        refine(jp F2 p kn D2 (cA c.pg c.st q) _ MZ.o.view hw64 hN).mono ?_
        rintro e W ⟨rfl,hd,ht⟩
        exact FIN _ _ HF.1.2 (DIE.o W hd (ak MZ.o.turn ht (fun k q=>(MZ.o.from' k q).imp .inl id)))
       exact AllReady.nil
      exact AllReady.nil
     refine dL (some 23) rfl rfl rfl (fun K hK=>?_) ?_
     ·refine wp_load_row 28 _ rfl w.heap.size (HF.get 3 rfl) 28 _ _ _ LZ.o Tryz.underlying28 rfl (by kernel_rfl) ?_
      refine hK _ _ ?_;clear hK K
      have HF:=HF.put 23 (.agg c.arr) (by decide) rfl
      generalize Act.put _ _ _=A at HF⊢
      refine wpAny_ready (rs:=[3]) (by kernel_rfl) (by simp) ?_
      refine dL (some 21) rfl rfl rfl (fun K hK=>?_) ?_
      ·refine bO (v0:=.agg c.arr) (v1:=.int .i64 q) rfl (HF.get 1 rfl) (HF.get 3 rfl) (enters_of Tryz.func134 (by kernel_rfl) rfl) ?_
       refine(pE HR.o _ q).mono ?_
       rintro e W ⟨rfl,h⟩
       have MZ:=hQQ (MZ.o.more h);have LZ:=hQQ (h.block LZ.o);clear h
       rw[sY hpg]
       refine hK _ _ ?_;clear hK K
       have HF:=HF.put 21 (.int .i64 (cA c.pg c.st q)) (by decide) rfl
       generalize Act.put _ _ _=A at HF⊢
       refine wpAny_ready (rs:=[4]) (by kernel_rfl) (by simp) ?_
       refine dL (some 22) rfl rfl rfl (fun K hK=>?_) ?_
       ·refine bO (v0:=.pointer (some ⟨p,0,none⟩)) (v1:=.int .i64 (cA c.pg c.st q)) rfl (HF.get 3 rfl) (HF.get 0 rfl) (enters_of Tryz.func27 (by kernel_rfl) rfl) ?_
        refine(jp F2 p kn D2 (cA c.pg c.st q) _ MZ.o.view hw64 hN).mono ?_
        rintro e W ⟨rfl,hd,ht⟩
        exact FIN _ _ HF.1.2 (DIE.o W hd (ak MZ.o.turn ht (fun k q=>(MZ.o.from' k q).imp .inl id)))
       exact AllReady.nil
      exact AllReady.nil
     exact AllReady.nil
    refine dL (some 23) rfl rfl rfl (fun K hK=>?_) ?_
    ·refine wp_load_row 28 _ rfl w.heap.size (HF.get 2 rfl) 28 _ _ _ LZ.o Tryz.underlying28 rfl (by kernel_rfl) ?_
     refine hK _ _ ?_;clear hK K
     have HF:=HF.put 23 (.agg c.arr) (by decide) rfl
     generalize Act.put _ _ _=A at HF⊢
     refine wpAny_ready (rs:=[1]) (by kernel_rfl) (by simp) ?_
     refine dL (some 19) rfl rfl rfl (fun K hK=>?_) ?_
     ·refine wp_load_row 28 _ rfl w.heap.size (HF.get 3 rfl) 28 _ _ _ LZ.o Tryz.underlying28 rfl (by kernel_rfl) ?_
      refine hK _ _ ?_;clear hK K
      have HF:=HF.put 19 (.agg c.arr) (by decide) rfl
      generalize Act.put _ _ _=A at HF⊢
      refine wpAny_ready (rs:=[3]) (by kernel_rfl) (by simp) ?_
      refine dL (some 21) rfl rfl rfl (fun K hK=>?_) ?_
      ·refine bO (v0:=.agg c.arr) (v1:=.int .i64 q) rfl (HF.get 0 rfl) (HF.get 3 rfl) (enters_of Tryz.func134 (by kernel_rfl) rfl) ?_
       refine(pE HR.o _ q).mono ?_
       rintro e W ⟨rfl,h⟩
       have MZ:=hQQ (MZ.o.more h);have LZ:=hQQ (h.block LZ.o);clear h
       rw[sY hpg]
       refine hK _ _ ?_;clear hK K
       have HF:=HF.put 21 (.int .i64 (cA c.pg c.st q)) (by decide) rfl
       generalize Act.put _ _ _=A at HF⊢
       refine wpAny_ready (rs:=[4]) (by kernel_rfl) (by simp) ?_
       refine dL (some 22) rfl rfl rfl (fun K hK=>?_) ?_
       ·refine bO (v0:=.pointer (some ⟨p,0,none⟩)) (v1:=.int .i64 (cA c.pg c.st q)) rfl (HF.get 3 rfl) (HF.get 0 rfl) (enters_of Tryz.func27 (by kernel_rfl) rfl) ?_
        refine(jp F2 p kn D2 (cA c.pg c.st q) _ MZ.o.view hw64 hN).mono ?_
        rintro e W ⟨rfl,hd,ht⟩
        exact FIN _ _ HF.1.2 (DIE.o W hd (ak MZ.o.turn ht (fun k q=>(MZ.o.from' k q).imp .inl id)))
       exact AllReady.nil
      exact AllReady.nil
     exact AllReady.nil
    exact AllReady.nil
   |some y =>
    have FIN:Hq (∀W,ae w3 W→aI w F p kn (fun x:Int=>Value.int .i64 x) Rr (.returned (.int .i64 (max 1 (min y (c.pg-q))))) W):=hQQ fun W h=>DONE.o _ W D2 F2 (R3.symm.trans (aj (eZ hN))) (M3.o.more h)
    have RA:=hQQ (fun W (h:ae w3 W)=>np F2 p kn D2 (cA c.pg c.st q) y W (M3.o.view.more h) hw64 hN)
    clear R3 R2
    go_wp2_with fail
    refine bQ (by kernel_rfl) (by kernel_rfl) ?_
    iterate 1
     with_reducible refine wpQuiet_step (fun K hK=>?_)
     go_simp
     first
     |(refine hK _ ?_;clear hK K)
     |(apply Exists.intro
       refine⟨fun W hW=>?_,hK _ ?_⟩
       first
       |(go_simp;try rfl)
       clear hK K)
    refine aP rfl 28 _ rfl _ rfl 28 _ _ _ (fun W hW=>hW.block L3.o) Tryz.underlying28 rfl (by kernel_rfl) ?_
    iterate 1
     with_reducible refine wpQuiet_step (fun K hK=>?_)
     go_simp
     first
     |(refine hK _ ?_;clear hK K)
     |(apply Exists.intro
       refine⟨fun W hW=>?_,hK _ ?_⟩
       first
       |(go_simp;try rfl)
       clear hK K)
    iterate 1
     with_reducible refine wpQuiet_step (fun K hK=>?_)
     go_simp
     first
     |(refine hK _ ?_;clear hK K)
     |(apply Exists.intro
       refine⟨fun W hW=>?_,hK _ ?_⟩
       first
       |(go_at_call 134;have:=pE HR.o W q;rw[sY hpg] at this;exact Calls.more hW this)
       clear hK K)
    iterate 1
     with_reducible refine wpQuiet_step (fun K hK=>?_)
     go_simp
     first
     |(refine hK _ ?_;clear hK K)
     |(apply Exists.intro
       refine⟨fun W hW=>?_,hK _ ?_⟩
       first
       |(go_at_call 27;exact(RA.o W hW).mono (fun e w'' h=>⟨h.1,by obtain⟨_,k,rfl⟩:=h;exact hW.drewN k⟩))
       clear hK K)
    refine aP rfl 28 _ rfl _ rfl 28 _ _ _ (fun W hW=>hW.block L3.o) Tryz.underlying28 rfl (by kernel_rfl) ?_
    iterate 1
     with_reducible refine wpQuiet_step (fun K hK=>?_)
     go_simp
     first
     |(refine hK _ ?_;clear hK K)
     |(apply Exists.intro
       refine⟨fun W hW=>?_,hK _ ?_⟩
       first
       |(go_at_call 20;exact Calls.more hW (dw HR.o W))
       clear hK K)
    iterate 6
     with_reducible refine wpQuiet_step (fun K hK=>?_)
     go_simp
     first
     |(refine hK _ ?_;clear hK K)
     |(apply Exists.intro
       refine⟨fun W hW=>?_,hK _ ?_⟩
       first
       |(go_simp;try rfl)
       clear hK K)
    refine wpQuiet_nil ?_
    intro w4 h4
    have F4:=hQQ (FIN.o w4 h4)
    clear h4
    go_wp2_with fail
    go_ret
    exact F4.o
  ·rw[if_neg h6] at R3
   have b6:(x2==6)=false:=by simp[h6]
   have FIN:=hQQ (DONE.o 0 w3 D2 F2 R3.symm M3.o)
   clear R3 R2
   go_wp2_with fail
   go_ret
   exact FIN.o
theorem kH {pg st:Int}{n:Nat}(H:PgIn pg st n){p:Int}(h:af pg p=true){k x:Int}(hk:W64 k)(hx:W64 x):bZ n (fun _=>True) (lT pg st p k x):=pB H h hk hx
theorem pF:W64 0:=by unfold W64;omega
theorem Db:W64 7:=by unfold W64;omega
theorem qM {pg st k:Int}{m:Nat}{q:Int} :jd pg st k (m+1) q=aq (lT pg st q k 0) fun _=>jd pg st k m (q+1):=rfl
theorem Ms {c:Cfg}(R:c.Ok){n:Nat}(H:PgIn c.pg c.st n)(hn:n≤10000)(F:Nat→Prop)(p:Nat)(kn:Int→Option Int)(D:List KV)(q:Int)(hq:W64 q)(w:World)(hv:aF w F p kn D)(hk:OkK kn)(hD:cI n D):
 Calls Tryz.prog 133 #[.pointer (some ⟨p,0,none⟩),.agg c.arr,.int .i64 q] w (aI w F p kn (fun x=> .int .i64 x) (mj c.pg c.st q kn D)):=by
 obtain⟨Rr,hRr⟩:∃Rr,mj c.pg c.st q kn D=Rr:=⟨_,rfl⟩
 rw[hRr]
 obtain⟨w1,e1,hl1,m1,s1⟩:=bg w (.cells c.arr 28)
 have nFl:¬F w.heap.size:=fun q=>by have:=hv.lt _ q;omega
 have MM:=hQQ m1
 have L0:=hQQ hl1
 have M0:=m0Z (hv.more m1) hD
 have KL:=klZ (p:=p) (kn:=kn) (n:=n) L0.o nFl
 have NEED:=ndZ (F:=F) (p:=p) (kn:=kn) (R:=Rr) (fun x:Int=>Value.int .i64 x) MM.o
 have DONE:=dnZ (F:=F) (p:=p) (n:=n) (kn:=kn) (R:=Rr) (fun x:Int=>Value.int .i64 x) MM.o
 have HK:=hQQ hk
 have HR:=hQQ R
 have HH:=hQQ H
 clear hl1 m1 hv hD hk R H nFl
 unfold mj at hRr
 have pg1:=HR.o.pg1
 have pg2:=HR.o.pg2
 unfold W64 at hq
 have HRr:=hQQ hRr
 clear hRr
 go_enter Tryz.func133,Tryz.ntmps133
 go_wp2_with (first|(refine aM rfl rfl rfl L0.o (by kernel_rfl) ?_)|(refine aM rfl rfl rfl L0.o (by kernel_rfl) ?_))
 refine(G6 HR.o HH.o F p kn D q w1 M0.o.view HK.o M0.o.inv).mono ?_
 intro e w2 he
 rcases M0.o.step (ae.refl _) HK.o (tf HH.o _) he with⟨a',hE,rfl,hd',ht',_⟩|⟨x2,D2,F2,hE,rfl,M2,hq2,_,_⟩
 ·exact⟨rfl,NEED.o a' w2 (HRr.o.symm.trans (ag hE)) hd' ht'⟩
 have L2:=hQQ (KL.o _ _ _ M2)
 have R2:=hQQ ((aj hE).symm.trans HRr.o)
 have M2:=hQQ M2
 clear he hE
 have hpi:Hq (x2=0∨(0≤q∧q<c.pg∧1≤x2∧x2≤c.pg-q)):=hQQ (by
  rcases hq2 with h|⟨h,h1,h2⟩
  ·exact .inl h
  ·have:=ay.1 h;exact .inr ⟨this.1,this.2,h1,h2⟩)
 clear hq2
 have qa:IntKind.i64.wrap (q+x2)=q+x2:=by have:=hpi.o;exact aB (by omega) (by omega)
 have START:=hQQ (And.intro M2.o R2.o)
 clear R2 M2 L2
 go_wp2_with fail
 go_loopw [8] (fun v8 wr=>∃(i:Nat) (D':List KV) (F':Nat→Prop),v8=.int .i64 (q+(i:Int))∧(i:Int)≤x2∧MidV w1 wr F (fun _=>False) p kn n D' F'∧aq (jd c.pg c.st 0 (x2.toNat-i) (q+(i:Int))) (fun _=>az x2) kn D'=Rr) (fun v8 _=>(q+x2-intOf v8).toNat)
 case atStart=>exact⟨0,D2,F2,by simp,by have:=hpi.o;omega,START.o.1,by simpa using START.o.2⟩
 case round =>
  clear START
  obtain⟨i,D',F',rfl,hi,MI,hrest⟩:=hrel
  have MI:=hQQ MI
  have LI:=hQQ (KL.o _ _ _ MI.o)
  have hp:=hpi.o
  by_cases hlt:(i:Int)<x2
  ·have d3:decide (q+(i:Int)<q+x2)=true:=by simp;omega
   have q3:IntKind.i64.wrap (q+(i:Int)+1)=q+(i:Int)+1:=aB (by omega) (by omega)
   rw[show x2.toNat-i=(x2.toNat-(i+1))+1 by omega,qM,cM] at hrest
   have RI:=hQQ hrest
   have hpg:af c.pg (q+(i:Int))=true:=ay.2 ⟨by omega,by omega⟩
   clear hrest hp
   go_wp2_with (first|(refine aM rfl rfl rfl LI.o (by kernel_rfl) ?_)|(refine aM rfl rfl rfl LI.o (by kernel_rfl) ?_))
   refine(yT HR.o HH.o hn F' p kn D' (q+(i:Int)) 0 0 hpg pF pF wr MI.o.view HK.o MI.o.inv).mono ?_
   intro e w4 he
   rcases MI.o.step (ae.refl _) HK.o (kH HH.o hpg pF pF) he with⟨a',hE,rfl,hd',ht',_⟩|⟨x4,D4,F4,hE,rfl,M4,hq4,_,_⟩
   ·exact⟨rfl,NEED.o a' w4 (RI.o.symm.trans (ag hE)) hd' ht'⟩
   have L4:=hQQ (KL.o _ _ _ M4)
   have R4:=hQQ ((aj hE).symm.trans RI.o)
   have M4:=hQQ M4
   clear he hE
   have NX:=hQQ (show aq (jd c.pg c.st 0 (x2.toNat-(i+1)) (q+(i:Int)+1)) (fun _=>az x2) kn D4=Rr from R4.o)
   clear R4
   go_wp2_with fail
   go_roundw
   case rel=>exact⟨i+1,D4,F4,by go_num,by omega,M4.o,by rw[show q+((i+1:Nat):Int)=q+(i:Int)+1 by omega];exact NX.o⟩
   case measure=>simp[intOf];omega
  ·obtain rfl:(i:Int)=x2:=by omega
   have d3:decide (q+(i:Int)<q+(i:Int))=false:=by simp
   have FIN:=hQQ (DONE.o (i:Int) wr D' F' (by rw[show((i:Int).toNat-i)=0 by omega] at hrest;exact hrest.symm) MI.o)
   clear hrest hp
   go_wp2_with fail
   go_ret
   exact FIN.o
section
variable {P:Program}{ops:Array Oper}{md:Region.Mode}{C:World→Prop}
def mC (md:Region.Mode)(ops:Array Oper)(t:Array Bool):Nat→Nat→Array Bool→Bool
 | 0,_,d=>d==t
 |m+1,k,d=>(Region.ready md ops d).contains k && Region.free md ops d k && mC md ops t m (k+1) (d.setIfInBounds k true)
def Bb (md:Region.Mode)(ops:Array Oper)(n:Nat)(t:Array Bool):Bool :=
 Region.noSelect ops && decide (n<ops.size) && ye md ops 0 n && ((List.range ops.size).all fun i=>decide (i≤n) ||(List.range i).any fun j=>decide (n≤j) && Region.waitsFor md ops i j) && ((Region.ready md ops t).all fun i=>decide (n≤i)) && mC md ops t n 0 (Array.replicate ops.size false)
theorem Bc {n:Nat}(hs:ye md ops 0 n=true)(hc:((List.range ops.size).all fun i=>decide (i≤n) ||(List.range i).any fun j=>decide (n≤j) && Region.waitsFor md ops i j)=true)(hn:n<ops.size)(m:Nat):
 ∀i,n-i≤m→i<n→∀d,HeadInv md ops n d→d.getD i true=false→∀t,n≤t→t∉Region.ready md ops d:=by
 induction m with
 |zero=>intro i h hi;omega
 |succ m ih =>
  intro i hm hi d inv hun t ht hr
  obtain⟨_,ot,hot,hall⟩:=mem_ready.1 hr
  have hlt:t<ops.size:=(Array.getElem?_eq_some_iff.1 hot).1
  by_cases e:t=n
  ·subst e
   have h1:=List.all_eq_true.1 hs i (List.mem_range.2 hi)
   simp only[Bool.or_eq_true,decide_eq_true_eq] at h1
   rcases h1 with h1|h1
   ·omega
   obtain⟨j,hj,hj2⟩:=List.any_eq_true.1 h1
   simp only[Bool.and_eq_true,decide_eq_true_eq] at hj2
   obtain⟨oj,hoj,x,hx,hb,hon⟩:=Region.waitsFor_spec hj2.2
   have hjn:=List.mem_range.1 hj
   have no:d.getD j false=true∨j=t→False:=by
    rintro(q|q)
    ·have:=inv.closed j oj hoj q x hx hb
     rw[hon,getD_both hun] at this;cases this
    ·subst q
     obtain rfl:oj=ot:=Option.some.inj (hoj.symm.trans hot)
     have:=hall x hx hb
     rw[hon,getD_both hun] at this;cases this
   cases q:d.getD j false with
   |true=>exact no (.inl q)
   |false =>
    have hne:j≠t:=fun z=>no (.inr z)
    exact ih j (by omega) (by omega) d inv (getD_in (by rw[inv.size];omega) q) t (Nat.le_refl _) hr
  ·have h1:=List.all_eq_true.1 hc t (List.mem_range.2 hlt)
   simp only[Bool.or_eq_true,decide_eq_true_eq] at h1
   rcases h1 with h1|h1
   ·omega
   obtain⟨j,hj,hj2⟩:=List.any_eq_true.1 h1
   simp only[Bool.and_eq_true,decide_eq_true_eq] at hj2
   obtain⟨o',ho',x,hx,hb,hon⟩:=Region.waitsFor_spec hj2.2
   obtain rfl:o'=ot:=Option.some.inj (ho'.symm.trans hot)
   have hjt:=List.mem_range.1 hj
   have:=hall x hx hb
   rw[hon,getD_both (inv.tail j hj2.1 (by omega))] at this;cases this
theorem Ey {n:Nat}{t:Array Bool}{Z:Act→Prop}(hsel:Region.noSelect ops=true)(hend:∀i∈Region.ready md ops t,n≤i)(hwait:∀i,i<n→∀d,HeadInv md ops n d→d.getD i true=false→∀t,n≤t→t∉Region.ready md ops d)(l:List Oper):
 ∀(k:Nat) (d:Array Bool) (a:Act),(∀j,j<l.length→l[j]?=ops[k+j]?)→k+l.length=n→HeadInv md ops n d →
 mC md ops t l.length k d=true→wpQuiet P ops C Z l a →
 DT P md ops C n (fun d' a'=>d'=t∧Z a') l.length d a:=by
 induction l with
 |nil =>
  intro k d a _ hk _ hB h
  exact⟨by simpa [mC] using hB,h⟩
 |cons o l ih =>
  intro k d a hl hk inv hB h
  have h0:ops[k]?=some o:=by simpa using (hl 0 (by simp)).symm
  simp only[List.length_cons,mC,Bool.and_eq_true] at hB hk
  have hr:k∈Region.ready md ops d:=by simpa using hB.1.1
  have hst:qOp P ops C k (wpQuiet P ops C Z l) a:=by unfold qOp;simp only[h0];exact h
  obtain⟨v,hy,hK⟩:=yieldsIn_of_qOp h0 hst
  exact sB h0 (Region.noSelect_spec hsel) (hwait k (by omega)) (by omega) (fun _ _ z=>by rw[z.1];exact hend) l.length d a inv (Region.free_spec h0 hB.1.2) hr hy
   (ih (k+1) _ _ (fun j hj=>by have:=hl (j+1) (by simp;omega);simpa [Nat.add_assoc,Nat.add_comm 1 j] using this) (by omega) (inv.set hr (by omega)) hB.2 hK)
end
theorem mD {P:Program}{C:World→Prop}{id:Nat}{Q:Exit→Act→World→Prop}{a:Act}{w:World}{l:List Oper}(n:Nat)(t:Array Bool)(hm:P.follows .mixedOrders=true)(hB:Bb .any l.toArray n t=true)
 (hC:C { w with drawn:=w.drawn+1 }) (h:wpQuiet P l.toArray C (fun a'=>∀w',C w'→wpAny P .any l.toArray Q (l.length-n) t a' w') (l.take n) a):(Code.region id l.toArray true).wp P Q a w:=by
 simp only[Bb,Bool.and_eq_true,decide_eq_true_eq] at hB
 obtain⟨⟨⟨⟨⟨hsel,hn⟩,hs⟩,hc⟩,he⟩,hlex⟩:=hB
 have hn':n<l.length:=by simpa using hn
 have ht:(l.take n).length=n:=by simp;omega
 have inv:HeadInv .any l.toArray n (Array.replicate l.toArray.size false):=
  ⟨by simp,fun j p _ q=>(by rw[getD_replicate_false] at q;cases q),fun t _ q=>getD_in (by simpa using q) (getD_replicate_false _ _)⟩
 have H:=Ey (md:=.any) (t:=t) hsel (fun i hi=>by have:=List.all_eq_true.1 he i hi;simpa using this) (fun i hi d inv hun t ht=>Bc hs hc hn n i (by omega) hi d inv hun t ht) (l.take n) 0 _ a (fun j hj=>by
  have:j<n:=by rw[ht] at hj;exact hj
  simp[this]) (by simpa using ht) inv (by rw[ht];exact hlex) h
 have K:=yd (Q:=Q) (g:=l.length-n) (fun d a' w' hw z=>by rw[z.1];exact z.2 w' hw) _ _ _ _ hC H
 rw[ht,show n+(l.length-n)=l.toArray.size by simp;omega] at K
 exact wp_region_any hm K
theorem nT {P:Program}{id:Nat}{Q:Exit→Act→World→Prop}{a:Act}{w:World}{l:List Oper}(n:Nat)(t:Array Bool)(hm:P.follows .mixedOrders=true)(hB:Bb .any l.toArray n t=true)
 (h:wpQuiet P l.toArray (ae w) (fun a'=>∀w',ae w w'→wpAny P .any l.toArray Q (l.length-n) t a' w') (l.take n) a):(Code.region id l.toArray true).wp P Q a w :=
 mD (C:=ae w) n t hm hB ((ae.refl w).drewN 1) h
theorem vF {f:Int→Prg Bool}{pg n step:Int}{m:Nat}{p:Int} :jJ f pg n step (m+1) p=if p≤pg-n then aq (km f n.toNat p) (fun r=>match r with|none=>az p|some q=>jJ f pg n step m ((q / step+1) * step)) else az (-1):=rfl
theorem Ez {f:Int→Prg Bool}{m:Nat}{q:Int} :km f (m+1) q=aq (f q) (fun b=>if b then km f m (q+1) else az (some q)):=rfl
theorem Mt {q step:Int}(h0:0≤q)(h1:q<256)(h2:1≤step)(h3:step≤9223372036854775807):0≤q / step∧q / step<256∧q<(q / step+1) * step∧(q / step+1) * step≤9223372036854775807:=by
 have a0:0≤q / step:=Int.ediv_nonneg h0 (by omega)
 have a1:q / step * step≤q:=Int.ediv_mul_le q (by omega)
 have a2:q<(q / step+1) * step:=Int.lt_ediv_add_one_mul_self q (by omega)
 have a3:q / step≤q:=Int.ediv_le_self step h0
 have a4:(q / step+1) * step=q / step * step+step:=by rw[Int.add_mul,Int.one_mul]
 refine⟨a0,by omega,a2,?_⟩
 rw[a4]
 by_cases hs:q<step
 ·rw[Int.ediv_eq_zero_of_lt h0 hs];omega
 ·omega
theorem Dc {c:Cfg}(R:c.Ok){n:Nat}(H:PgIn c.pg c.st n)(F:Nat→Prop)(p:Nat)(kn:Int→Option Int)(D:List KV)(m step:Int)(hm1:1≤m)(hm2:m≤9223372036854775807)(hs1:1≤step)(hs2:step≤9223372036854775807)(f:Nat)(clo:Array Value)(fP:Int→Prg Bool)(w:World)(hv:aF w F p kn D)(hk:OkK kn)(hD:cI n D)
 (hG:∀q,bZ n (fun _=>True) (fP q)) (henter:∀args w,Sem.run Tryz.prog (callFunc f args) w=.ok (.enter f args) w)
 (hf:∀wr D' F' q,Turned F w wr→(∀k,F' k→F k∨w.heap.size≤k)→aF wr F' p kn D'→cI n D'→W64 q→Calls Tryz.prog f (#[.int .i64 q]++clo) wr (aI wr F' p kn (fun b=> .bool b) (fP q kn D'))):
 Calls Tryz.prog 58 #[.agg c.arr,.int .i64 m,.int .i64 step,.func (.func f) #[] clo] w (aI w F p kn (fun x=> .int .i64 x) (ny fP c.pg m step kn D)):=by
 obtain⟨Rr,hRr⟩:∃Rr,ny fP c.pg m step kn D=Rr:=⟨_,rfl⟩
 rw[hRr]
 obtain⟨w1,e1,hl1,m1,s1⟩:=bg w (.cells c.arr 28)
 have nFl:¬F w.heap.size:=fun q=>by have:=hv.lt _ q;omega
 have MM:=hQQ m1
 have L0:=hQQ hl1
 have M0:=m0Z (hv.more m1) hD
 have KL:=klZ (p:=p) (kn:=kn) (n:=n) L0.o nFl
 have NEED:=ndZ (F:=F) (p:=p) (kn:=kn) (R:=Rr) (fun x:Int=>Value.int .i64 x) MM.o
 have DONE:=dnZ (F:=F) (p:=p) (n:=n) (kn:=kn) (R:=Rr) (fun x:Int=>Value.int .i64 x) MM.o
 have HK:=hQQ hk
 have HR:=hQQ R
 have HH:=hQQ H
 clear hl1 m1 hv hD hk R H nFl
 have hfl:=fK c
 unfold ny at hRr
 have pg1:=HR.o.pg1
 have pg2:=HR.o.pg2
 have HRr:=hQQ hRr
 have HF:=hQQ hf
 have HG:=hQQ hG
 have q1:IntKind.i64.wrap (c.pg-m)=c.pg-m:=aB (by omega) (by omega)
 have TT:Hq (∀wr D' F',MidV w1 wr F (fun _=>False) p kn n D' F'→Turned F w wr):=hQQ fun wr D' F' h=>ak (Turned.mono MM.o (fun _ _ q=>q.elim)) h.turn (fun k q=>q.imp id (fun r=>r.elim))
 clear hRr hf hG
 go_enter Tryz.func58,Tryz.ntmps58
 go_wp2_with fail
 go_step3
 go_wp2_with (first|(refine aM rfl rfl rfl L0.o (by kernel_rfl) ?_)|(refine aM rfl rfl rfl L0.o (by kernel_rfl) ?_))
 refine(dw HR.o _).mono ?_
 rintro e w2 ⟨rfl,h2⟩
 have START:=hQQ (And.intro (M0.o.more h2) HRr.o)
 clear h2 HRr
 go_wp2_with fail
 go_step3
 go_wp2_with fail
 go_loopg [10,11,12] (c.pg.toNat+1) (fun j v10 v11 v12 wr=>∃(p0:Int) (D':List KV) (F':Nat→Prop),v10=.int .i64 (-1)∧v11=.int .i64 p0∧0≤p0∧p0≤9223372036854775807∧c.pg+1≤(j:Int)+p0∧MidV w1 wr F (fun _=>False) p kn n D' F'∧jJ fP c.pg m step j p0 kn D'=Rr)
 case atStart=>exact⟨0,D,F,rfl,rfl,by omega,by omega,by omega,START.o.1,START.o.2⟩
 case round =>
  clear START
  obtain⟨p0,D',F',rfl,rfl,p00,p01,hj,MI,hrest⟩:=hrel
  have MI:=hQQ MI
  by_cases hle:p0≤c.pg-m
  ·have d1:decide (p0≤c.pg-m)=true:=by simp[hle]
   obtain⟨j,rfl⟩:∃j',gk=j'+1:=⟨gk-1,by omega⟩
   rw[vF,if_pos hle] at hrest
   have q2:IntKind.i64.wrap (p0+m)=p0+m:=aB (by omega) (by omega)
   have START:=hQQ (And.intro MI.o hrest)
   clear hrest MI
   go_wp2_with fail
   go_loopg [10,11,12] m.toNat (fun g2 v10 v11 v12 wr=>∃(i:Nat) (D':List KV) (F':Nat→Prop),v10=.int .i64 (-1)∧v11=.int .i64 p0∧v12=.int .i64 (p0+(i:Int))∧i+g2=m.toNat∧MidV w1 wr F (fun _=>False) p kn n D' F'∧aq (km fP g2 (p0+(i:Int))) (fun r=>match r with|none=>az p0|some q=>jJ fP c.pg m step j ((q / step+1) * step)) kn D'=Rr)
   case atStart=>exact⟨0,D',F',rfl,rfl,by simp,by omega,START.o.1,by simpa using START.o.2⟩
   case round =>
    clear START
    obtain⟨i,D2,F2,rfl,rfl,rfl,hig,MI,hrest⟩:=hrel
    have MI:=hQQ MI
    cases gk with
    |zero =>
     have e0:(p0+(i:Int)==p0+m)=true:=by simp;omega
     have FIN:=hQQ (DONE.o p0 _ D2 F2 hrest.symm MI.o)
     clear hrest
     go_wp2_with fail
     try rw[Exit.noGoto_ret]
     go_ret
     exact FIN.o
    |succ g =>
     have e0:(p0+(i:Int)==p0+m)=false:=by simp;omega
     have hqw:W64 (p0+(i:Int)):=by unfold W64;omega
     have q3:IntKind.i64.wrap (p0+(i:Int)+1)=p0+(i:Int)+1:=aB (by omega) (by omega)
     rw[Ez,cM] at hrest
     have RI:=hQQ hrest
     have CL:=HF.o _ D2 F2 (p0+(i:Int)) (TT.o _ _ _ MI.o) (fun k hk=>(MI.o.from' k hk).imp id (fun r=>Nat.le_trans MM.o.size r)) MI.o.view MI.o.inv hqw
     clear hrest
     go_wp2_with fail
     refine(CL).mono ?_
     intro e w5 he
     rcases MI.o.step (ae.refl _) HK.o (HG.o _) he with⟨a',hE,rfl,hd',ht',_⟩|⟨x5,D5,F5,hE,rfl,M5,hq5,_,_⟩
     ·exact⟨rfl,NEED.o a' w5 (RI.o.symm.trans (ag hE)) hd' ht'⟩
     have L5:=hQQ (KL.o _ _ _ M5)
     have R5:=hQQ ((aj hE).symm.trans RI.o)
     have M5:=hQQ M5
     clear he hE
     cases x5 with
     |true =>
      have R5':=hQQ (show aq (km fP g (p0+(i:Int)+1)) (fun r=>match r with|none=>az p0|some q=>jJ fP c.pg m step j ((q / step+1) * step)) kn D5=Rr from R5.o)
      clear R5
      go_wp2_with fail
      go_roundg g
      case measure=>omega
      case rel=>exact⟨i+1,D5,F5,rfl,rfl,by go_num,by omega,M5.o,by rw[show p0+((i+1:Nat):Int)=p0+(i:Int)+1 by omega];exact R5'.o⟩
     |false =>
      have R5':=hQQ (show jJ fP c.pg m step j (((p0+(i:Int)) / step+1) * step) kn D5=Rr from R5.o)
      clear R5
      obtain⟨z0,z1,z2,z3⟩:=Mt (q:=p0+(i:Int)) (step:=step) (by omega) (by omega) hs1 hs2
      have e5:(p0+(i:Int)).tdiv step=(p0+(i:Int)) / step:=Int.tdiv_eq_ediv_of_nonneg (by omega)
      have e6:(step==0)=false:=by simp;omega
      generalize hz:(p0+(i:Int)) / step=z at z0 z1 z2 z3 e5 R5'
      have q5:IntKind.i64.wrap z=z:=aB (by omega) (by omega)
      have q6:IntKind.i64.wrap (z+1)=z+1:=aB (by omega) (by omega)
      have q7:IntKind.i64.wrap ((z+1) * step)=(z+1) * step:=aB (by omega) (by omega)
      have Z:=hQQ (And.intro z2 z3)
      clear hz z2 z3 z0 z1
      go_wp2_with fail
      go_roundg j
      case measure=>omega
      case rel=>exact⟨(z+1) * step,D5,F5,rfl,rfl,by have:=Z.o;omega,Z.o.2,by have:=Z.o;omega,M5.o,R5'.o⟩
  ·have d1:decide (p0≤c.pg-m)=false:=by simp[hle]
   have FIN:=hQQ (DONE.o (-1) _ D' F' (by
    cases gk with
    |zero=>exact hrest.symm
    |succ j=>rw[vF,if_neg hle] at hrest;exact hrest.symm) MI.o)
   clear hrest
   go_wp2_with fail
   try rw[Exit.noGoto_ret]
   go_ret
   exact FIN.o
theorem G7 {c:Cfg}(R:c.Ok){n:Nat}(H:PgIn c.pg c.st n)(F:Nat→Prop)(p:Nat)(kn:Int→Option Int)(D:List KV)(q:Int)(b1 b2:Nat)(w:World)(hv:aF w F p kn D)(hk:OkK kn)(hD:cI n D)
 (h1:w.heap[b1]?=some (.cells #[.pointer (some ⟨p,0,none⟩)] 43 (0,0))) (h2:w.heap[b2]?=some (.cells c.arr 28 (0,0))):
 Calls Tryz.prog 54 #[.int .i64 q,.pointer (some ⟨b1,0,none⟩),.pointer (some ⟨b2,0,none⟩)] w (aI w F p kn (fun b=> .bool b) (mn c.pg c.st q kn D)):=by
 have KD:=ti R H F p kn D q w hv hk hD
 have c1:=(aA h1).1
 have L0:=hQQ h2
 clear h1 h2
 go_enter Tryz.func54,Tryz.ntmps54
 go_wp2_with (first|(refine aM rfl rfl rfl L0.o (by kernel_rfl) ?_)|(refine aM rfl rfl rfl L0.o (by kernel_rfl) ?_))
 refine KD.mono ?_
 intro e w1 he
 rcases jG he with⟨a,hR,rfl⟩|⟨x,D',hR,rfl⟩
 ·have:=aI.mapN (val':=fun b:Bool=>Value.bool b) (fun k:Int=>decide (k=0)) hR he
  rw[CY] at this
  exact⟨rfl,this⟩
 ·have FIN:=aI.map (val':=fun b:Bool=>Value.bool b) (fun k:Int=>decide (k=0)) hR he
  rw[CY] at FIN
  have FIN:=hQQ FIN
  have e1:(x==0)=decide (x=0):=by by_cases z:x=0<;>simp[z]
  clear he KD hv hD hR
  go_wp2_with fail
  go_ret
  exact FIN.o
theorem Mu {c:Cfg}(R:c.Ok){n:Nat}(H:PgIn c.pg c.st n)(F:Nat→Prop)(p:Nat)(kn:Int→Option Int)(D:List KV)(q:Int)(hq:W64 q)(b1 b2 b3:Nat)(w:World)(hv:aF w F p kn D)(hk:OkK kn)(hD:cI n D)
 (h1:w.heap[b1]?=some (.cells #[.pointer (some ⟨p,0,none⟩)] 43 (0,0))) (h2:w.heap[b2]?=some (.cells c.arr 28 (0,0)))
 (h3:w.heap[b3]?=some (.cells #[.func (.func 54) #[] #[.pointer (some ⟨b1,0,none⟩),.pointer (some ⟨b2,0,none⟩)]] 103 (0,0))) (n1:¬F b1) (n2:¬F b2) (n3:¬F b3):
 Calls Tryz.prog 55 #[.int .i64 q,.pointer (some ⟨b1,0,none⟩),.pointer (some ⟨b2,0,none⟩),.pointer (some ⟨b3,0,none⟩)] w (aI w F p kn (fun b=> .bool b) (ms c.pg c.st q kn D)):=by
 obtain⟨Rr,hRr⟩:∃Rr,ms c.pg c.st q kn D=Rr:=⟨_,rfl⟩
 rw[hRr]
 unfold ms at hRr
 have HRr:=hQQ hRr
 have l1:=ac h1
 have l2:=ac h2
 have l3:=ac h3
 have H1:=hQQ h1
 have H2:=hQQ h2
 have H3:=hQQ h3
 have c1:=(aA h1).1
 have HR:=hQQ R
 have HH:=hQQ H
 have HK:=hQQ hk
 have M0:Hq (MidV w w F (fun _=>False) p kn n D F):=hQQ (MidV.begin hv hD)
 clear h1 h2 h3 hRr R H hk hv hD
 have NEED:Hq (∀a w2,Rr=.need a→bJ w2 p a→Turned (fun b=>F b∨False) w w2→aI w F p kn (fun b:Bool=>Value.bool b) Rr (.panicked (bB p)) w2):=hQQ fun a w2 e hd ht=>jE (ae.refl w) (fun _ q=>q.elim) e hd ht
 have DONE:Hq (∀x w2 D' F',Rr=.ok x D'→MidV w w2 F (fun _=>False) p kn n D' F'→aI w F p kn (fun b:Bool=>Value.bool b) Rr (.returned (.bool x)) w2):=hQQ fun x w2 D' F' e h=>fI (ae.refl w) (fun _ q=>q.elim) h e
 go_enter Tryz.func55,Tryz.ntmps55
 go_wp2_with fail
 refine nT 4 #[true,true,true,true,false,false,false,false,false,false,false] (by kernel_rfl) (by kernel_rfl) ?_
 simp only[List.take_succ_cons,List.take_zero]
 iterate 1
  with_reducible refine wpQuiet_step (fun K hK=>?_)
  go_simp
  first
  |(refine hK _ ?_;clear hK K)
  |(apply Exists.intro
    refine⟨fun W hW=>?_,hK _ ?_⟩
    first
    |(have c1':=hW.cell c1;go_simp;try rfl)
    clear hK K)
 refine aP rfl 28 _ rfl _ rfl 28 _ _ _ (fun W hW=>hW.block H2.o) Tryz.underlying28 rfl (by kernel_rfl) ?_
 iterate 1
  with_reducible refine wpQuiet_step (fun K hK=>?_)
  go_simp
  first
  |(refine hK _ ?_;clear hK K)
  |(apply Exists.intro
    refine⟨fun W hW=>?_,hK _ ?_⟩
    first
    |(go_simp;try rfl)
    clear hK K)
 iterate 1
  with_reducible refine wpQuiet_step (fun K hK=>?_)
  go_simp
  first
  |(refine hK _ ?_;clear hK K)
  |(apply Exists.intro
    refine⟨fun W hW=>?_,hK _ ?_⟩
    first
    |(go_at_call 57;exact(Mk q hq.1 hq.2 W).mono (fun e w'' h=>⟨h.1,by rw[h.2];exact hW⟩))
    clear hK K)
 refine wpQuiet_nil ?_
 intro w2 m2
 have M2:=hQQ (M0.o.more m2)
 clear m2
 refine wpAny_ready (rs:=[4]) (by kernel_rfl) (by simp) ?_
 refine AllReady.cons rfl (fun K hK=>?_) AllReady.nil
 rw[if_pos (by kernel_rfl)]
 refine dE (v0:=.pointer (some ⟨p,0,none⟩)) (v1:=.agg c.arr) (v2:=.int .i64 (ofV q)) rfl rfl rfl rfl (enters_of Tryz.func56 (by kernel_rfl) rfl) ?_
 refine(GM HR.o F p kn D (ofV q) w2 M2.o.view).mono ?_
 intro e w3 he
 rcases M2.o.step (ae.refl _) HK.o (jZ HH.o.toTblIn _) he with⟨a',hE,rfl,hd',ht',_⟩|⟨x3,D3,F3,hE,rfl,M3,hq3,_,_⟩
 ·exact⟨rfl,NEED.o a' w3 (HRr.o.symm.trans (ag hE)) hd' ht'⟩
 have R3:=hQQ ((aj hE).symm.trans HRr.o)
 have M3:=hQQ M3
 clear he hE
 refine hK _ _ ?_
 clear hK K
 cases x3 with
 |false =>
  have FIN:=hQQ (DONE.o false w3 D3 F3 R3.o.symm M3.o)
  clear R3
  refine wpAny_take (i:=5) (v:=.bool false) rfl (by kernel_rfl) (by kernel_rfl) (by kernel_rfl) (fun _ _ _ h=>h) (Or.inl ⟨by rfl,fun W=>by go_simp⟩) ?_
  refine wpAny_take (i:=6) (v:=undef) rfl (by kernel_rfl) (by kernel_rfl) (by kernel_rfl) (fun _ _ _ h=>h) (Or.inr ⟨by rfl,rfl⟩) ?_
  refine wpAny_take (i:=7) (v:=undef) rfl (by kernel_rfl) (by kernel_rfl) (by kernel_rfl) (fun _ _ _ h=>h) (Or.inr ⟨by rfl,rfl⟩) ?_
  refine wpAny_take (i:=8) (v:=undef) rfl (by kernel_rfl) (by kernel_rfl) (by kernel_rfl) (fun _ _ _ h=>h) (Or.inr ⟨by rfl,rfl⟩) ?_
  refine wpAny_take (i:=9) (v:=.bool false) rfl (by kernel_rfl) (by kernel_rfl) (by kernel_rfl) (fun _ _ _ h=>h) (Or.inl ⟨by rfl,fun W=>by go_simp⟩) ?_
  refine wpAny_take (i:=10) (v:=.bool false) rfl (by kernel_rfl) (by kernel_rfl) (by kernel_rfl) (fun _ _ _ h=>h) (Or.inl ⟨by rfl,fun W=>by go_simp⟩) ?_
  refine wpAny_done (by kernel_rfl) ?_ _
  go_wp2_with fail
  go_ret
  exact FIN.o
 |true =>
  have R3':=hQQ (show mn c.pg c.st q kn D3=Rr from R3.o)
  have h1:=fS M3.o H1.o n1 (fun r=>r)
  have h2:=fS M3.o H2.o n2 (fun r=>r)
  have h3:=fS M3.o H3.o n3 (fun r=>r)
  have FR:=hQQ (G7 HR.o HH.o F3 p kn D3 q b1 b2 w3 M3.o.view HK.o M3.o.inv h1 h2)
  have c3:=(aA h3).1
  clear R3 h1 h2 h3 c1
  refine wpAny_take (i:=5) (v:=.bool true) rfl (by kernel_rfl) (by kernel_rfl) (by kernel_rfl) (fun _ _ _ h=>h) (Or.inl ⟨by rfl,fun W=>by go_simp⟩) ?_
  refine wpAny_take (i:=7) (v:=.int .i64 q) rfl (by kernel_rfl) (by kernel_rfl) (by kernel_rfl) (fun _ _ _ h=>h) (Or.inl ⟨by rfl,fun W=>by go_simp⟩) ?_
  refine wpAny_ready (rs:=[6]) (by kernel_rfl) (by simp) ?_
  refine AllReady.cons rfl (fun K hK=>?_) AllReady.nil
  rw[if_pos (by kernel_rfl)]
  go_simp
  refine hK _ _ ?_
  clear hK K
  refine wpAny_ready (rs:=[8]) (by kernel_rfl) (by simp) ?_
  refine AllReady.cons rfl (fun K hK=>?_) AllReady.nil
  rw[if_pos (by kernel_rfl)]
  refine El (x0:=.tmp 13) (v0:=.int .i64 q) rfl rfl rfl (enters_of Tryz.func54 (by kernel_rfl) rfl) ?_
  refine FR.o.mono ?_
  intro e w4 he
  rcases M3.o.step (ae.refl _) HK.o (kF HH.o q) he with⟨a',hE,rfl,hd',ht',_⟩|⟨x4,D4,F4,hE,rfl,M4,hq4,_,_⟩
  ·exact⟨rfl,NEED.o a' w4 (R3'.o.symm.trans hE) hd' ht'⟩
  have FIN:=hQQ (DONE.o x4 w4 D4 F4 (R3'.o.symm.trans hE) M4)
  clear he hE M4
  refine hK _ _ ?_
  clear hK K
  refine wpAny_take (i:=9) (v:=.bool x4) rfl (by kernel_rfl) (by kernel_rfl) (by kernel_rfl) (fun _ _ _ h=>h) (Or.inl ⟨by rfl,fun W=>by go_simp⟩) ?_
  refine wpAny_take (i:=10) (v:=.bool x4) rfl (by kernel_rfl) (by kernel_rfl) (by kernel_rfl) (fun _ _ _ h=>h) (Or.inl ⟨by rfl,fun W=>by go_simp⟩) ?_
  refine wpAny_done (by kernel_rfl) ?_ _
  go_wp2_with fail
  go_ret
  exact FIN.o
theorem rj {pg st:Int}{n:Nat}(H:PgIn pg st n){f:Int→Prg Bool}(hf:∀q,bZ n (fun _=>True) (f q))(m step:Int)(hm:1≤m)(hs:1≤step):bZ n (fun x:Int=> -1≤x∧x<pg) (ny f pg m step):=oI H hf m step hm hs _ 0 (by omega)
theorem G8 {c:Cfg}(R:c.Ok){n:Nat}(H:PgIn c.pg c.st n)(F:Nat→Prop)(p:Nat)(kn:Int→Option Int)(D:List KV)(m step:Int)(hm:W64 m)(hs:W64 step)(w:World)(hv:aF w F p kn D)(hk:OkK kn)(hD:cI n D):
 Calls Tryz.prog 25 #[.pointer (some ⟨p,0,none⟩),.agg c.arr,.int .i64 m,.int .i64 step] w (aI w F p kn (fun x=> .int .i64 x) (i5 c.pg c.st m step kn D)):=by
 obtain⟨Rr,hRr⟩:∃Rr,i5 c.pg c.st m step kn D=Rr:=⟨_,rfl⟩
 rw[hRr]
 obtain⟨w1,e1,hb1,hb2,m1,s1⟩:=ij w (.cells #[.pointer (some ⟨p,0,none⟩)] 43) (.cells c.arr 28)
 obtain⟨w2,e2,hb3,m2,s2⟩:=bg w1 (.cells #[.nilFunc] 103)
 rw[s1] at hb3
 unfold i5 at hRr
 have hfw:=hv.lt
 unfold W64 at hm hs
 by_cases a0:m<1
 ·have d0:decide (m<1)=true:=by simp[a0]
  rw[if_neg (by omega)] at hRr
  have FIN:Hq (aI w F p kn (fun x:Int=>Value.int .i64 x) Rr (.returned (.int .i64 (-1))) w1):=hQQ (fI (S:=fun _=>False) m1 (fun _ q=>q.elim) (MidV.begin (hv.more m1) hD) hRr.symm)
  clear hRr hb1 hb2 hb3 e2 m1 m2 hv hD
  go_enter Tryz.func25,Tryz.ntmps25
  go_wp2_with fail
  go_ret
  exact FIN.o
 have d0:decide (m<1)=false:=by simp;omega
 by_cases a1:step<1
 ·have d1:decide (step<1)=true:=by simp[a1]
  rw[if_neg (by omega)] at hRr
  have FIN:Hq (aI w F p kn (fun x:Int=>Value.int .i64 x) Rr (.returned (.int .i64 (-1))) w1):=hQQ (fI (S:=fun _=>False) m1 (fun _ q=>q.elim) (MidV.begin (hv.more m1) hD) hRr.symm)
  clear hRr hb1 hb2 hb3 e2 m1 m2 hv hD
  go_enter Tryz.func25,Tryz.ntmps25
  go_wp2_with fail
  go_ret
  exact FIN.o
 have d1:decide (step<1)=false:=by simp;omega
 rw[if_pos ⟨by omega,by omega⟩] at hRr
 obtain⟨c3,f3,l3⟩:=aA hb3
 have hb3':(w2.setCell ⟨w.heap.size+2,0,none⟩ (.func (.func 54) #[] #[.pointer (some ⟨w.heap.size,0,none⟩),.pointer (some ⟨w.heap.size+1,0,none⟩)])).heap[w.heap.size+2]?=_:=eV hb3 _
 have t23:Turned (fun b=>b=w.heap.size+2) w2 (w2.setCell ⟨w.heap.size+2,0,none⟩ (.func (.func 54) #[] #[.pointer (some ⟨w.heap.size,0,none⟩),.pointer (some ⟨w.heap.size+1,0,none⟩)])):=Turned.setCell (Turned.refl _ w2) ⟨w.heap.size+2,0,none⟩ _ (fun _=>rfl)
 have T23:=hQQ t23
 have B3:=hQQ hb3'
 have B1:=hQQ (m2.block hb1)
 have B2:=hQQ (m2.block hb2)
 have M12:=hQQ (m1.trans m2)
 have HV:=hQQ hv
 have HDD:=hQQ hD
 have HRr:=hQQ hRr
 clear hRr hb1 hb2 hb3 m1 m2 hv hD hb3' t23
 go_enter Tryz.func25,Tryz.ntmps25
 have rst:=run_store Tryz.prog w2 ⟨w.heap.size+2,0,none⟩ (.func (.func 54) #[] #[.pointer (some ⟨w.heap.size,0,none⟩),.pointer (some ⟨w.heap.size+1,0,none⟩)]) .plain rfl
 go_wp2_with (refine aM rfl rfl rfl (by have:=T23.o.block (w.heap.size+1) (ac B2.o) (by omega);exact this.trans B2.o) (by kernel_rfl) ?_)
 have h1:=(T23.o.block w.heap.size (ac B1.o) (by omega)).trans B1.o
 have h2:=(T23.o.block (w.heap.size+1) (ac B2.o) (by omega)).trans B2.o
 have h3:=B3.o
 have m3:ae w (w2.setCell ⟨w.heap.size+2,0,none⟩ (.func (.func 54) #[] #[.pointer (some ⟨w.heap.size,0,none⟩),.pointer (some ⟨w.heap.size+1,0,none⟩)])):=Turned.mono (ak (F:=fun _=>False) M12.o T23.o (fun b e=> .inr (by omega))) (fun _ _ q=>q)
 generalize w2.setCell ⟨w.heap.size+2,0,none⟩ (.func (.func 54) #[] #[.pointer (some ⟨w.heap.size,0,none⟩),.pointer (some ⟨w.heap.size+1,0,none⟩)])=w3 at h1 h2 h3 m3⊢
 have hv3:=HV.o.more m3
 have HH:=hQQ H
 have HR:=hQQ R
 have HK:=hQQ hk
 have H1:=hQQ h1
 have H2:=hQQ h2
 have H3:=hQQ h3
 have M3:=hQQ m3
 have l1:=ac h1
 have l2:=ac h2
 have l3:=ac h3
 have M0:Hq (MidV w3 w3 F (fun _=>False) p kn n D F):=hQQ (MidV.begin hv3 HDD.o)
 have nF:∀b,w.heap.size≤b→¬F b:=fun b hb q=>by have:=hfw b q;omega
 have KEEP:Hq (∀wr D' F',MidV w3 wr F (fun _=>False) p kn n D' F'→wr.heap[w.heap.size]?=some (.cells #[.pointer (some ⟨p,0,none⟩)] 43 (0,0))∧wr.heap[w.heap.size+1]?=some (.cells c.arr 28 (0,0))∧wr.heap[w.heap.size+2]?=some (.cells #[(.func (.func 54) #[] #[.pointer (some ⟨w.heap.size,0,none⟩),.pointer (some ⟨w.heap.size+1,0,none⟩)])] 103 (0,0))):=hQQ fun wr D' F' h =>
  ⟨fS h H1.o (nF _ (by omega)) (fun q=>q),fS h H2.o (nF _ (by omega)) (fun q=>q),fS h H3.o (nF _ (by omega)) (fun q=>q)⟩
 have NEED:Hq (∀a w2,Rr=.need a→bJ w2 p a→Turned (fun b=>F b∨False) w3 w2→aI w F p kn (fun x:Int=>Value.int .i64 x) Rr (.panicked (bB p)) w2):=hQQ fun a w2 e hd ht=>jE M3.o (fun _ q=>q.elim) e hd ht
 have DONE:Hq (∀x w2 D' F',Rr=.ok x D'→MidV w3 w2 F (fun _=>False) p kn n D' F'→aI w F p kn (fun x:Int=>Value.int .i64 x) Rr (.returned (.int .i64 x)) w2):=hQQ fun x w2 D' F' e h=>fI M3.o (fun _ q=>q.elim) h e
 have NN:∀(w0 wr:World) (F':Nat→Prop) (b:Nat),w.heap.size≤b→b<w0.heap.size→(∀k,F' k→F k∨w0.heap.size≤k)→¬F' b:=fun w0 wr F' b hb hl hn q=>by
  rcases hn b q with r|r
  ·exact nF b hb r
  ·omega
 have LO:=Dc HR.o HH.o F p kn D m step (by omega) (by omega) (by omega) (by omega) 55 #[.pointer (some ⟨w.heap.size,0,none⟩),.pointer (some ⟨w.heap.size+1,0,none⟩),.pointer (some ⟨w.heap.size+2,0,none⟩)] (ms c.pg c.st) w3 hv3 HK.o HDD.o (qH HH.o) (enters_of Tryz.func55 (by kernel_rfl) rfl)
  (fun wr D' F' q t hn hv' hD' hq=>Mu HR.o HH.o F' p kn D' q hq w.heap.size (w.heap.size+1) (w.heap.size+2) wr hv' HK.o hD' ((t.block _ l1 (nF _ (by omega))).trans H1.o) ((t.block _ l2 (nF _ (by omega))).trans H2.o) ((t.block _ l3 (nF _ (by omega))).trans H3.o) (NN w3 wr F' _ (by omega) l1 hn) (NN w3 wr F' _ (by omega) l2 hn) (NN w3 wr F' _ (by omega) l3 hn))
 have LF:=hQQ (fun(w4:World) (D4:List KV) (F4:Nat→Prop) (M4:MidV w3 w4 F (fun _=>False) p kn n D4 F4)=>Dc HR.o HH.o F4 p kn D4 m step (by omega) (by omega) (by omega) (by omega) 54 #[.pointer (some ⟨w.heap.size,0,none⟩),.pointer (some ⟨w.heap.size+1,0,none⟩)] (mn c.pg c.st) w4 M4.view HK.o M4.inv (kF HH.o) (enters_of Tryz.func54 (by kernel_rfl) rfl)
  (fun wr D' F' q t hn hv' hD' hq=>G7 HR.o HH.o F' p kn D' q w.heap.size (w.heap.size+1) wr hv' HK.o hD' ((t.block _ (Nat.lt_of_lt_of_le l1 M4.size) (M4.off l1 (nF _ (by omega)))).trans (KEEP.o _ _ _ M4).1) ((t.block _ (Nat.lt_of_lt_of_le l2 M4.size) (M4.off l2 (nF _ (by omega)))).trans (KEEP.o _ _ _ M4).2.1)))
 have LO:=hQQ LO
 clear h1 h2 h3 m3 hv3 hm hs R H hk T23 c3 f3 l3 rst e1 e2 NN nF
 go_wp2_with fail
 refine LO.o.mono ?_
 intro e w4 he
 rcases M0.o.step (ae.refl _) HK.o (rj HH.o (qH HH.o) m step a0 a1) he with⟨a',hE,rfl,hd',ht',_⟩|⟨x4,D4,F4,hE,rfl,M4,hq4,_,_⟩
 ·exact⟨rfl,NEED.o a' w4 (HRr.o.symm.trans (ag hE)) hd' ht'⟩
 have R4:=(aj hE).symm.trans HRr.o
 have K4:=KEEP.o _ _ _ M4
 have K42:=hQQ K4.2.1
 have c9:=(aA K4.2.2).1
 have M4:=hQQ M4
 clear he hE LO K4
 by_cases z:x4= -1
 ·rw[if_pos z] at R4
  have e4:(x4 != -1)=false:=by simp[z]
  have LL4:=hQQ (LF.o w4 D4 F4 M4.o)
  have R4:=hQQ R4
  clear z LF
  go_wp2_with (first|(refine aM rfl rfl rfl K42.o (by kernel_rfl) ?_)|(refine aM rfl rfl rfl K42.o (by kernel_rfl) ?_))
  refine LL4.o.mono ?_
  intro e w5 he
  rcases M4.o.step (ae.refl _) HK.o (rj HH.o (kF HH.o) m step a0 a1) he with⟨a',hE,rfl,hd',ht',_⟩|⟨x5,D5,F5,hE,rfl,M5,hq5,_,_⟩
  ·exact⟨rfl,NEED.o a' w5 (R4.o.symm.trans hE) hd' ht'⟩
  have FIN:=hQQ (DONE.o x5 w5 D5 F5 (R4.o.symm.trans hE) M5)
  clear he hE M5
  go_wp2_with fail
  go_ret
  exact FIN.o
 ·rw[if_neg z] at R4
  have e4:(x4 != -1)=true:=by simp[z]
  have FIN:=hQQ (DONE.o x4 w4 D4 F4 R4.symm M4.o)
  clear z LF R4 c9
  go_wp2_with fail
  go_ret
  exact FIN.o
end Go.Proofs.YtddmeghbmdfgeaaGreatDoor
