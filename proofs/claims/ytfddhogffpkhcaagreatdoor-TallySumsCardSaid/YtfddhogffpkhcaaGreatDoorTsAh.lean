/-
  The document's own front (assartref14): Take.
-/
import Derived.Test.YtfddhogffpkhcaaGreatDoorTsAg
import Derived.Test.YtfddhogffpkhcaaGreatDoorTsAe
import Derived.Test.YtfddhogffpkhcaaGreatDoorTsAd
import Derived.Test.YtfddhogffpkhcaaGreatDoorTsAc
set_option maxRecDepth 100000
set_option maxHeartbeats 8000000
set_option linter.all false
namespace Go.Proofs.YtfddhogffpkhcaaGreatDoor
open Go.RowKit Go.Sort Go.Maps Go.Shelf
theorem ej {P:Program}{fn:Func}{p u u':Tmp}{ty:TypeId}(h:fn.results= #[.tmp u,.cell p ty,.tmp u'])(tmps:Array Value)(w:World)(g:Nat)(t:TypeId)(cs:Array Value)(fr:Nat×Nat)(d:TypeDesc)
 (hp:tmps.getD p undef=.pointer (some ⟨g,0,none⟩)) (hg:w.heap[g]?=some (.cells cs t fr))
 (hu:P.underlying ty=some d) (hd:(match d with| .struct _| .array _ _=>true|_=>false)=true) (hi:(P.info? ty).map (·.size)=some cs.size):
 (results fn tmps).run P w=.ok (.tuple #[tmps.getD u undef,.agg cs,tmps.getD u' undef]) w:=by
 have hp':tmps[p]?.getD undef=.pointer (some ⟨g,0,none⟩):=by simpa using hp
 have hl:=run_loadVar_row w g t ty cs fr d hg hu hd hi
 simp[results,h,hp',asAddr,hl]
theorem mW (its:List It)(c a l:Int):(jt its c a l).length≤its.length+1:=by
 unfold jt
 split<;>simp
def gz (w:World)(g cap len:Nat)(res:((Int×Bool)×(Nat→List Int))×List Int)(e:Ending)(w':World):Prop :=
 ∃v' its',e=.returned (.tuple #[.int .i64 res.1.1.1,.agg #[v'],.bool res.1.1.2])∧IR 0 w' v' its'∧Eqv res.1.2 its'∧its'.length≤len+8∧Ws w' g cap res.2∧Turned (fun b=>b=g) w w'
theorem kX {w w':World}{g cap:Nat}{ws:List Int}{v:Value}{its:List It}(h:IR 0 w v its)(hw:Ws w g cap ws)(t:Turned (fun b=>b=g) w w'):IR 0 w' v its :=
 h.keep t (fun k q=>by subst q;obtain⟨cur,hg,_⟩:=hw;exact⟨_,_,_,hg,by decide⟩)
theorem zS {c:Cfg}(R:c.Ok)(ws:List Int)(H:dh c.pg c.st ws.length)(hl:ws.length≤1000)(hww:(ws.length:Int)=c.words){r:Gh}{C:Nat→List Int}{O:List (Int×Int)}{u k:Nat}{P:Nat→List Int}(hP:∀j,j<5→((P j).length:Int)≤c.pr)(F:FrI c.us c.pg c.st ws.length (bV c) r ws C (puO P++O))(g cap:Nat)(hu:(u:Int)<c.cp)(hk:k<5)(v:Value)(its:List It)(he:Eqv P its)(hlen:its.length≤10000)(w:World)(hv:IR 0 w v its)(hw:Ws w g cap ws):
 Calls Tryz.prog 59 #[.agg c.cells,.slice (some ⟨g,0,none⟩) ws.length cap,.int .i64 (u:Int),.agg #[v],.int .i64 (k:Int)] w (gz w g cap its.length (tkW c u P k ws)):=by
 have efr:Bz c (u:Int) (k:Int):=⟨by omega,by omega,by omega,hu⟩
 have ewk:tkW c (u:Int) P (k:Int) ws=tn c.us c.pg c.st (bV c) (5 * u+k) (5 * c.cp.toNat+k) k c.pr (frM c) P ws:=by
  unfold tkW;rw[if_pos efr];rfl
 obtain⟨res,hres⟩:∃res,tkW c (u:Int) P (k:Int) ws=res:=⟨_,rfl⟩
 rw[hres]
 rw[ewk] at hres
 unfold tn at hres
 have HRS:=hQQ hres
 obtain⟨xp,hxp⟩:∃x,pN P (k:Int)=x:=⟨_,rfl⟩
 have HXP:=hQQ hxp
 clear efr ewk hres hxp
 obtain⟨av,cv,rfl,_,_,_⟩:=hv.at
 obtain⟨n0,hn0⟩:∃n0,its.length=n0:=⟨_,rfl⟩
 rw[hn0] at hlen⊢
 obtain⟨its',PI,EQ'⟩:=he.pop (k:Int)
 have PO:=hQQ (fun W (hW:IR 0 W (.slice av n0 cv) its)=>PI.calls (.slice av n0 cv) W hW (by omega))
 rw[hn0] at hv
 obtain⟨w3,e3,hb1,hb2,hb3,m3,s3⟩:=kE w (.cells c.cells 27) (.cells #[.slice av n0 cv] 62) (.cells #[.slice none 0 0] 62)
 have MM:=hQQ m3
 have B1:=hQQ hb1
 have B2:=hQQ hb2
 have B3:=hQQ hb3
 have NO:=hQQ (fun W=>zM R hu hk W)
 have hg:=hw.lt
 have IR0:=hQQ (hv.more m3)
 have X0:=hQQ (hw.more m3)
 have hb2':w3.heap[w.heap.size+1]?=some (.cells #[.slice av n0 cv] 62 (0,0)):=hb2
 have y2:w3.cell? ⟨w.heap.size+1,0,none⟩=some (.slice av n0 cv):=by simp[World.cell?,hb2]
 have Y2:=hQQ y2
 have s3':=hQQ s3
 have B1W:=hQQ hb1
 have x7:w3.cell? ⟨w.heap.size,7,none⟩=some (.int .i64 c.pr):=by simp[World.cell?,hb1,Cfg.cells]
 have x8:w3.cell? ⟨w.heap.size,8,none⟩=some (.int .i64 c.ca):=by simp[World.cell?,hb1,Cfg.cells]
 have x9:w3.cell? ⟨w.heap.size,9,none⟩=some (.int .i64 c.bi):=by simp[World.cell?,hb1,Cfg.cells]
 have x10:w3.cell? ⟨w.heap.size,10,none⟩=some (.int .i64 c.ba):=by simp[World.cell?,hb1,Cfg.cells]
 have X7:=hQQ x7
 have X8:=hQQ x8
 have X9:=hQQ x9
 have X10:=hQQ x10
 clear x7 x8 x9 x10
 have HE:=hQQ he
 obtain⟨a1,a2,a3,a4⟩:=kV (d:=c) hu hk
 obtain⟨b1,b2,b3,b4⟩:=uC (d:=c) (c:=k) (by have:=R.cp1;omega) hk
 have S0:=pO R H hl hww F a1
 have S1:=pO R H hl hww F b1
 have k0:=S0.keeps.kept
 have k1:=S1.keeps.kept
 have KT:Hq (gN (bV c) (5 * u+k) (5 * c.cp.toNat+k) ws=if 0<((C (5 * u+k)).length:Int) then 0 else if 0<((C (5 * c.cp.toNat+k)).length:Int) then 1 else 2):=hQQ (by unfold gN;rw[k0,k1])
 rw[a2,a3] at S0
 rw[b2,b3] at S1
 have AC:=hQQ (fun W (hW:Ws W g cap ws)=>pK ws hl S0.st S0.keeps S0.room g cap W hW)
 have AB:=hQQ (fun W (hW:Ws W g cap ws)=>pK ws hl S1.st S1.keeps S1.room g cap W hW)
 have YC:=hQQ (fun W=>mS R (u:Int) (k:Int) W)
 have YB:=hQQ (fun W=>zL R (k:Int) W)
 have F0:=hQQ F
 have LW:=hQQ (rfl:ws.length=ws.length)
 have FE:=hQQ (fun(us:List Int) (C':Nat→List Int) (O':List (Int×Int)) (hus:us.length=ws.length) (hF:FrI c.us c.pg c.st ws.length (bV c) r us C' O') (kd:Nat) (hkd:kd≤3) W (hW:Ws W g cap us)=>by
  have:=wB R us (by rw[hus];exact H) (by omega) (by rw[hus];exact hww) (by rw[hus];exact hF) g cap kd hkd hu hk W hW
  rw[hus] at this
  exact this)
 have FF:=hQQ (fun(us:List Int) (C':Nat→List Int) (O':List (Int×Int)) (hF:FrI c.us c.pg c.st ws.length (bV c) r us C' O') (kd:Nat)=>Bv H (tl R hww) (by omega) (DR R H hww (by omega)) a1 b1 hk a4 b4 kd hF)
 have HMP:Hq ((frM c:Int)≤c.pr):=hQQ (by have:=R.pr1;unfold frM;split<;>omega)
 have HMB:Hq (frM c≤8):=hQQ (by have:=R.pr1;have:=R.pr2;have:=HMP.o;omega)
 clear S0 S1 k0 k1 a1 a2 a3 a4 b1 b2 b3 b4
 clear hb1 hb2 hb3 hb2' m3 s3 y2
 go_enter Tryz.func59,Tryz.ntmps59
 go_wp2_with (first|(refine aH rfl rfl rfl B1.o (by kernel_rfl) ?_)|(refine aH rfl rfl rfl B1.o (by kernel_rfl) ?_))
 clear e3
 refine(NO.o _).mono ?_
 rintro e w4 ⟨rfl,h4⟩
 have B1:=hQQ (h4.block B1.o)
 have y2:=h4.cell Y2.o
 go_wp2_with fail
 refine(PO.o _ (IR0.o.more h4)).mono ?_
 rintro e w5 ⟨v5,rfl,hr5,m5⟩
 obtain⟨a5,c5,rfl,_,_,_⟩:=hr5.at
 have h5:=h4.trans m5
 obtain⟨n5,hn5⟩:∃n5,its'.length=n5:=⟨_,rfl⟩
 have PL:=PI.len
 rw[hn5] at hr5 PL⊢
 obtain⟨w6,e6,hb6,m6,s6⟩:=dw w5 (.cells #[.slice none 0 0] 62)
 obtain⟨w7,e7⟩:∃w7,w6.setRow w5.heap.size #[.slice a5 n5 c5]=w7:=⟨_,rfl⟩
 have m7:ac w5 w7:=by rw[←e7];exact m6.setRow _ _ (Nat.le_refl _)
 have hb7:w7.heap[w5.heap.size]?=some (.cells #[.slice a5 n5 c5] 62 (0,0)):=by rw[←e7];exact setRow_heap _ _ _ _ _ _ hb6
 have B7:=hQQ hb7
 have B6:=hQQ hb6
 have R5:=hQQ (hr5.more m7)
 have M7:=hQQ (h5.trans m7)
 have HN5:=hQQ hn5
 have HN0:=hQQ hn0
 have HG:=hQQ hg
 clear h5 m7 hr5 m5 h4 m6 s6 hb6 y2 PO hn5 hn0 hb7
 cases hb:lD P (k:Int) with
 |true =>
  rw[HXP.o]
  have er:res=(((xp,true),tm P (k:Int)),ws):=by rw[←HRS.o,if_pos hb,HXP.o]
  have FIN:Hq (∀W,ac w7 W→gz w g cap n0 res (.returned (.tuple #[.int .i64 xp,.agg #[.slice a5 n5 c5],.bool true])) (W.setRow (w.heap.size+1+1) #[.slice a5 n5 c5])):=hQQ fun W hW=>by
   rw[er]
   have hb:=hW.block (M7.o.block B3.o)
   have t:Turned (fun b=>b=w.heap.size+1+1) W (W.setRow (w.heap.size+1+1) #[.slice a5 n5 c5]):=Turned.setRow (Turned.refl _ W) _ _ (fun _=>rfl)
   refine⟨_,its',rfl,(R5.o.more hW).keep t (fun k q=>by subst q;exact⟨_,_,_,hb,by decide⟩),EQ',by rw[HN5.o];have:=HN0.o;omega,((X0.o.more M7.o).more hW).keep t (by have:=HG.o;omega),?_⟩
   exact aw (F':=fun b=>b=w.heap.size+1+1) (turned_more ((MM.o.trans M7.o).trans hW)) t (fun k q=>by omega)
  clear er
  go_wp2_with (refine wpList_store_row rfl 62 _ _ rfl _ _ rfl rfl 62 _ B6.o (by kernel_rfl) rfl (by simp[Value.oneCell']) ?_;rw[e7])
  refine aq 3 (by kernel_rfl) (by kernel_rfl) ?_
  simp only[List.take_succ_cons,List.take_zero,List.drop_succ_cons,List.drop_zero]
  iterate 1
   with_reducible refine wpQuiet_step (fun K hK=>?_)
   go_simp
   first
   |(refine hK _ ?_;clear hK K)
   |(apply Exists.intro
     refine⟨fun W hW=>?_,hK _ ?_⟩
     first
     |(go_simp;try rfl)
     clear hK K)
  refine ae rfl 62 _ rfl _ rfl 62 _ _ _ (fun W hW=>hW.block B7.o) Tryz.underlying62 rfl (by kernel_rfl) ?_
  iterate 1
   with_reducible refine wpQuiet_step (fun K hK=>?_)
   go_simp
   first
   |(refine hK _ ?_;clear hK K)
   |(apply Exists.intro
     refine⟨fun W hW=>?_,hK _ ?_⟩
     first
     |(go_simp;try rfl)
     clear hK K)
  refine wpQuiet_nil ?_
  intro w8 h8
  have FB:=hQQ (FIN.o w8 h8)
  have B8:=hQQ (h8.block (M7.o.block B3.o))
  clear h8 FIN
  go_wp2_with (refine wpList_store_row rfl 62 _ _ rfl _ _ rfl rfl 62 _ B8.o (by kernel_rfl) rfl (by simp[Value.oneCell']) ?_)
  refine bodyPost_ret (v:=.tuple #[.int .i64 xp,.agg #[.slice a5 n5 c5],.bool true]) (ej Tryz.results59 _ _ _ 62 _ (0,0) _ rfl (setRow_heap _ _ _ _ _ _ B8.o) Tryz.underlying62 rfl (by kernel_rfl)) rfl FB.o
 |false =>
  have PK0:Hq (P k= []):=hQQ (by rcases List.eq_nil_or_concat (P k) with e|⟨xs,x,e⟩;exact e;rw[List.concat_eq_append] at e;have:=(Bu P hk e).1;rw[hb] at this;cases this)
  go_wp2_with (refine wpList_store_row rfl 62 _ _ rfl _ _ rfl rfl 62 _ B6.o (by kernel_rfl) rfl (by simp[Value.oneCell']) ?_;rw[e7])
  clear e7 e6
  have C1:=hQQ (M7.o.block B1W.o)
  have CX8:=hQQ (M7.o.cell X8.o)
  refine aq 8 (by kernel_rfl) (by kernel_rfl) ?_
  simp only[List.take_succ_cons,List.take_zero,List.drop_succ_cons,List.drop_zero]
  iterate 1
   with_reducible refine wpQuiet_step (fun K hK=>?_)
   go_simp
   first
   |(refine hK _ ?_;clear hK K)
   |(apply Exists.intro
     refine⟨fun W hW=>?_,hK _ ?_⟩
     first
     |(go_simp;try rfl)
     clear hK K)
  refine ae rfl 27 _ rfl _ rfl 27 _ _ _ (fun W hW=>hW.block C1.o) Tryz.underlying27 rfl (by kernel_rfl) ?_
  iterate 6
   with_reducible refine wpQuiet_step (fun K hK=>?_)
   go_simp
   first
   |(refine hK _ ?_;clear hK K)
   |(apply Exists.intro
     refine⟨fun W hW=>?_,hK _ ?_⟩
     first
     |(go_at_call 101;exact Calls.more hW (YC.o W))
     |(have xc':=hW.cell CX8.o;go_simp;try rfl)
     clear hK K)
  refine wpQuiet_nil ?_
  intro wa ha
  have MA:=hQQ (M7.o.trans ha)
  clear ha
  go_wp2_with fail
  refine(AC.o wa (X0.o.more MA.o)).mono ?_
  rintro e wb ⟨ab,cb,rfl,_,_,hmb⟩
  have MB:=hQQ (MA.o.trans hmb)
  clear hmb
  by_cases h0:0<((C (5 * u+k)).length:Int)
  ·have d0:decide (0<((C (5 * u+k)).length:Int))=true:=decide_eq_true h0
   have HKD:Hq (gN (bV c) (5 * u+k) (5 * c.cp.toNat+k) ws=0):=hQQ (by rw[KT.o,if_pos h0])
   have h0:0<(C (5 * u+k)).length:=by omega
   have C2:=hQQ (MB.o.block B1W.o)
   go_wp2_with (first|(refine aH rfl rfl rfl C2.o (by kernel_rfl) ?_)|(refine aH rfl rfl rfl C2.o (by kernel_rfl) ?_))
   refine(FE.o ws _ _ rfl F0.o 0 (by omega) _ (X0.o.more MB.o)).mono ?_
   rintro e wc ⟨rfl,hxc,htc⟩
   have TC:=hQQ (Turned.trans (turned_more MB.o) htc)
   have XC:=hQQ hxc
   clear hxc htc
   rcases FF.o ws _ _ F0.o 0 with e|⟨hd,X,C',e,hF⟩
   ·have er:res=(((0,false),P),ws):=by rw[←HRS.o,if_neg (by rw[hb];simp),HKD.o,show gh 0=0 from rfl,e];rfl
    rw[e] at XC⊢
    have FIN:Hq (∀W,Turned (fun b=>b=g) w3 W→Ws W g cap ws→gz w g cap n0 res (.returned (.tuple #[.int .i64 0,.agg #[.slice av n0 cv],.bool false])) (W.setRow (w.heap.size+1+1) #[.slice av n0 cv])):=hQQ fun W hT hX=>by
     rw[er]
     have hb:=(hT.block _ (af B3.o) (fun q=>by have:=HG.o;omega)).trans B3.o
     have t:Turned (fun b=>b=w.heap.size+1+1) W (W.setRow (w.heap.size+1+1) #[.slice av n0 cv]):=Turned.setRow (Turned.refl _ W) _ _ (fun _=>rfl)
     refine⟨_,its,HN0.o.symm▸rfl,(kX IR0.o X0.o hT).keep t (fun k q=>by subst q;exact⟨_,_,_,hb,by decide⟩),HE.o,by have:=HN0.o;omega,hX.keep t (by have:=HG.o;omega),?_⟩
     exact aw (F':=fun b=>b=w.heap.size+1+1) (Turned.trans (turned_more MM.o) hT) t (fun k q=>by omega)
    have BC:=hQQ ((TC.o.block _ (af B2.o) (fun q=>by have:=HG.o;omega)).trans B2.o)
    have BD:=hQQ ((TC.o.block _ (af B3.o) (fun q=>by have:=HG.o;omega)).trans B3.o)
    clear er e
    go_wp2_with fail
    refine aq 2 (by kernel_rfl) (by kernel_rfl) ?_
    simp only[List.take_succ_cons,List.take_zero,List.drop_succ_cons,List.drop_zero]
    refine ae rfl 62 _ rfl _ rfl 62 _ _ _ (fun W hW=>hW.block BC.o) Tryz.underlying62 rfl (by kernel_rfl) ?_
    iterate 1
     with_reducible refine wpQuiet_step (fun K hK=>?_)
     go_simp
     first
     |(refine hK _ ?_;clear hK K)
     |(apply Exists.intro
       refine⟨fun W hW=>?_,hK _ ?_⟩
       first
       |(go_simp;try rfl)
       clear hK K)
    refine wpQuiet_nil ?_
    intro wz hz
    have FB:=hQQ (FIN.o wz (Turned.trans TC.o (turned_more hz)) (XC.o.more hz))
    have B8:=hQQ (hz.block BD.o)
    clear hz FIN
    go_wp2_with (refine wpList_store_row rfl 62 _ _ rfl _ _ rfl rfl 62 _ B8.o (by kernel_rfl) rfl (by simp[Value.oneCell']) ?_)
    refine bodyPost_ret (v:=.tuple #[.int .i64 0,.agg #[.slice av n0 cv],.bool false]) (ej Tryz.results59 _ _ _ 62 _ (0,0) _ rfl (setRow_heap _ _ _ _ _ _ B8.o) Tryz.underlying62 rfl (by kernel_rfl)) rfl FB.o
   ·obtain⟨mf,hmf⟩:∃mf,eE c.us c.pg c.st (bV c) (5 * u+k) (5 * c.cp.toNat+k) k 0 c.pr (frM c) P X=mf:=⟨_,rfl⟩
    have ER:Hq (res=(((hd,true),mf.1),mf.2)):=hQQ (by rw[←HRS.o,if_neg (by rw[hb];simp),HKD.o,show gh 0=0 from rfl,e,if_pos rfl,hmf])
    have eX:X.length=ws.length:=hF.len
    rw[e] at XC⊢
    have XC:=hQQ (show Ws wc g cap X from XC.o)
    have START:Hq ((((P k).length:Int)+(frM c:Int)≤c.pr)∧FrI c.us c.pg c.st ws.length (bV c) r X C' (puO P++((hd,(k:Int))::O))∧eE c.us c.pg c.st (bV c) (5 * u+k) (5 * c.cp.toNat+k) k 0 c.pr (frM c) P X=mf∧X.length=ws.length):=hQQ ⟨by rw[PK0.o];have:=HMB.o;have:=HMP.o;simp;omega,hF.perm List.perm_middle.symm,hmf,eX⟩
    have BC:=hQQ ((TC.o.block _ (af B2.o) (fun q=>by have:=HG.o;omega)).trans B2.o)
    have IRC:=hQQ (kX IR0.o X0.o TC.o)
    clear e hF hmf eX
    go_wp2_with fail
    go_loopw [19,20,21] (fun v19 v20 v21 wr=>∃(j:Nat) (its1:List It) (a1:Option Addr) (n1 c1:Nat) (P1:Nat→List Int) (ws1:List Int) (C1:Nat→List Int),v19=.int .i64 ((j:Int)+1)∧j≤frM c∧Turned (fun b=>b=g∨b=w.heap.size+1) w3 wr∧wr.heap[w.heap.size+1]?=some (.cells #[.slice a1 n1 c1] 62 (0,0))∧IR 0 wr (.slice a1 n1 c1) its1∧its1.length=n1∧Eqv P1 its1∧n1≤n0+j∧Ws wr g cap ws1∧ws1.length=ws.length∧FrI c.us c.pg c.st ws.length (bV c) r ws1 C1 (puO P1++((hd,(k:Int))::O))∧((P1 k).length:Int)+((frM c:Int)-j)≤c.pr∧eE c.us c.pg c.st (bV c) (5 * u+k) (5 * c.cp.toNat+k) k 0 c.pr (frM c-j) P1 ws1=mf) (fun v19 _ _ _=>((frM c:Int)+1-intOf v19).toNat)
    case atStart=>exact⟨0,its,av,n0,cv,P,X,C',by simp,Nat.zero_le _,TC.o.mono (fun _ _ q=> .inl q),BC.o,IRC.o,HN0.o,HE.o,by omega,XC.o,START.o.2.2.2,START.o.2.1,by simpa using START.o.1,START.o.2.2.1⟩
    case round =>
     clear START IRC BC
     obtain⟨j,its1,a1,n1,c1,P1,ws1,C1,rfl,hj,hTR,hB2',hIR1,hn1,hEV1,hln1,hX1,hl1,hF1,hpk,hm⟩:=hrel
     have TR:=hQQ hTR
     have HB2:=hQQ hB2'
     have IR1:=hQQ hIR1
     have N1:=hQQ hn1
     have EV1:=hQQ hEV1
     have LN1:Hq (its1.length≤n0+frM c):=hQQ (by omega)
     have LNJ:=hQQ hln1
     have X1:=hQQ hX1
     have L1:=hQQ hl1
     have FI1:=hQQ hF1
     have PK:=hQQ hpk
     have HM:=hQQ hm
     have y2:wr.cell? ⟨w.heap.size+1,0,none⟩=some (.slice a1 n1 c1):=by simp[World.cell?,hB2']
     have CB:=hQQ ((hTR.block _ (af B1W.o) (fun q=>by have:=HG.o;omega)).trans B1W.o)
     have z10:wr.cell? ⟨w.heap.size,10,none⟩=some (.int .i64 c.ba):=by simp[World.cell?,CB.o,Cfg.cells]
     have z7:wr.cell? ⟨w.heap.size,7,none⟩=some (.int .i64 c.pr):=by simp[World.cell?,CB.o,Cfg.cells]
     have q1:IntKind.i64.wrap ((j:Int)+1+1)=(j:Int)+1+1:=aj (by have:=HMB.o;omega) (by have:=HMB.o;omega)
     have HL1:Hq (n1≤100000):=hQQ (by have:=HMB.o;omega)
     clear hTR hB2' hIR1 hn1 hEV1 hX1 hl1 hF1 hpk hm
     by_cases hlt:j<frM c
     ·obtain⟨m,em⟩:∃m,frM c-j=m+1:=⟨frM c-j-1,by omega⟩
      have d1:decide ((j:Int)+1<c.ba)=true:=by unfold frM at hlt;split at hlt<;>simp<;>omega
      have d2:decide ((j:Int)+1≤c.pr)=true:=by unfold frM at hlt;split at hlt<;>simp<;>omega
      go_wp2_with (first|(refine aH rfl rfl rfl CB.o (by kernel_rfl) ?_)|(refine aH rfl rfl rfl CB.o (by kernel_rfl) ?_))
      refine(FE.o ws1 _ _ L1.o FI1.o 0 (by omega) _ X1.o).mono ?_
      rintro e wf ⟨rfl,hxf,htf⟩
      have TF:=hQQ (Turned.trans TR.o (htf.mono (fun _ _ q=> .inl q)))
      have IRF:=hQQ (kX IR1.o X1.o htf)
      have HBF:=hQQ ((htf.block _ (af HB2.o) (fun q=>by have:=HG.o;omega)).trans HB2.o)
      have CBF:=hQQ ((htf.block _ (af CB.o) (fun q=>by have:=HG.o;omega)).trans CB.o)
      clear htf y2 z10 z7 TR IR1 HB2 X1 CB
      rcases FF.o ws1 _ _ FI1.o 0 with e|⟨hd1,X',C1',e,hF1⟩
      ·have em1:mf=(P1,ws1):=by rw[←HM.o,em];simp[eE,e]
       rw[e] at hxf⊢
       have X1:=hQQ (show Ws wf g cap ws1 from hxf)
       have TR:=hQQ TF.o
       have IR1:=hQQ IRF.o
       have HB2:=hQQ HBF.o
       have y2:wf.cell? ⟨w.heap.size+1,0,none⟩=some (.slice a1 n1 c1):=by simp[World.cell?,HBF.o]
       clear hxf e
       -- what is handed back,behind the loop: the purse P1,words ws1
       have FIN:Hq (∀W,ac wf W→gz w g cap n0 res (.returned (.tuple #[.int .i64 hd,.agg #[.slice a1 n1 c1],.bool true])) (W.setRow (w.heap.size+1+1) #[.slice a1 n1 c1])):=hQQ fun W hW=>by
        rw[ER.o,em1]
        have hT:Turned (fun b=>b=g∨b=w.heap.size+1) w3 W:=Turned.trans TR.o (turned_more hW)
        have hb:=(hT.block _ (af B3.o) (fun q=>by have:=HG.o;omega)).trans B3.o
        have t:Turned (fun b=>b=w.heap.size+1+1) W (W.setRow (w.heap.size+1+1) #[.slice a1 n1 c1]):=Turned.setRow (Turned.refl _ W) _ _ (fun _=>rfl)
        refine⟨_,its1,rfl,(IR1.o.more hW).keep t (fun k q=>by subst q;exact⟨_,_,_,hb,by decide⟩),EV1.o,by have:=LN1.o;have:=HMB.o;omega,(X1.o.more hW).keep t (by have:=HG.o;omega),?_⟩
        have h2:Turned (fun b=>b=g∨b=w.heap.size+1∨b=w.heap.size+1+1) w3 (W.setRow (w.heap.size+1+1) #[.slice a1 n1 c1]):=Turned.trans (hT.mono (fun k _ q=>by rcases q with q|q;exact .inl q;exact .inr (.inl q))) (t.mono (fun k _ q=> .inr (.inr q)))
        exact aw (F':=fun b=>b=g∨b=w.heap.size+1∨b=w.heap.size+1+1) (turned_more MM.o) h2 (fun k q=>by rcases q with q|q|q;exact .inl q;exact .inr (by omega);exact .inr (by omega))
       have B3R:=hQQ ((TR.o.block _ (af B3.o) (fun q=>by have:=HG.o;omega)).trans B3.o)
       go_wp2_with fail
       refine aq 3 (by kernel_rfl) (by kernel_rfl) ?_
       simp only[List.take_succ_cons,List.take_zero,List.drop_succ_cons,List.drop_zero]
       iterate 1
        with_reducible refine wpQuiet_step (fun K hK=>?_)
        go_simp
        first
        |(refine hK _ ?_;clear hK K)
        |(apply Exists.intro
          refine⟨fun W hW=>?_,hK _ ?_⟩
          first
          |(go_simp;try rfl)
          clear hK K)
       refine ae rfl 62 _ rfl _ rfl 62 _ _ _ (fun W hW=>hW.block HB2.o) Tryz.underlying62 rfl (by kernel_rfl) ?_
       iterate 1
        with_reducible refine wpQuiet_step (fun K hK=>?_)
        go_simp
        first
        |(refine hK _ ?_;clear hK K)
        |(apply Exists.intro
          refine⟨fun W hW=>?_,hK _ ?_⟩
          first
          |(go_simp;try rfl)
          clear hK K)
       refine wpQuiet_nil ?_
       intro wz hz
       have FB:=hQQ (FIN.o wz hz)
       have B8:=hQQ (hz.block B3R.o)
       clear hz FIN
       go_wp2_with (refine wpList_store_row rfl 62 _ _ rfl _ _ rfl rfl 62 _ B8.o (by kernel_rfl) rfl (by simp[Value.oneCell']) ?_)
       refine bodyPost_ret (v:=.tuple #[.int .i64 hd,.agg #[.slice a1 n1 c1],.bool true]) (ej Tryz.results59 _ _ _ 62 _ (0,0) _ rfl (setRow_heap _ _ _ _ _ _ B8.o) Tryz.underlying62 rfl (by kernel_rfl)) rfl FB.o
      ·have hm1:eE c.us c.pg c.st (bV c) (5 * u+k) (5 * c.cp.toNat+k) k 0 c.pr (frM c-(j+1)) (eL P1 k hd1 c.pr) X'=mf:=by rw[←HM.o,em,show frM c-(j+1)=m by omega];simp[eE,e]
       have eX:X'.length=ws.length:=hF1.len
       rw[e] at hxf⊢
       have XF:=hQQ (show Ws wf g cap X' from hxf)
       have pe:eL P1 k hd1 c.pr=eO P1 k (P1 k++ [hd1]):=mR P1 hk hd1 (by have:=PK.o;omega)
       have hF2:FrI c.us c.pg c.st ws.length (bV c) r X' C1' (puO (eL P1 k hd1 c.pr)++((hd,(k:Int))::O)):=by
        rw[pe]
        exact hF1.perm ((mQ P1 hk hd1).append_right _).symm
       have pk2:(((eL P1 k hd1 c.pr) k).length:Int)+((frM c:Int)-((j+1:Nat):Int))≤c.pr:=by
        rw[pe]
        have:=PK.o
        simp[eO]
        omega
       have HN:=hQQ (And.intro hF2 (And.intro hm1 (And.intro eX pk2)))
       have EV2:=hQQ (EV1.o.push (k:Int) hd1 c.pr).2
       have z7:wf.cell? ⟨w.heap.size,7,none⟩=some (.int .i64 c.pr):=by simp[World.cell?,CBF.o,Cfg.cells]
       have y2:wf.cell? ⟨w.heap.size+1,0,none⟩=some (.slice a1 n1 c1):=by simp[World.cell?,HBF.o]
       have PH:=hQQ (tu (.slice a1 its1.length c1) its1 (k:Int) hd1 c.pr wf (by rw[←N1.o] at IRF;exact IRF.o) (by have:=N1.o;have:=HL1.o;omega))
       rw[N1.o] at PH
       clear hxf e hF2 hm1 eX pk2 pe hF1
       go_wp2_with fail
       refine PH.o.mono ?_
       rintro e wh ⟨v8,rfl,hr8,m8⟩
       obtain⟨a8,c8,rfl,_,_,_⟩:=hr8.at
       have l8:=mW its1 (k:Int) hd1 c.pr
       obtain⟨its2,hits2⟩:∃its2,jt its1 (k:Int) hd1 c.pr=its2:=⟨_,rfl⟩
       rw[hits2] at hr8 l8 EV2⊢
       have BH:=hQQ (m8.block HBF.o)
       have t8:Turned (fun b=>b=w.heap.size+1) wh (wh.setRow (w.heap.size+1) #[.slice a8 its2.length c8]):=Turned.setRow (Turned.refl _ wh) _ _ (fun _=>rfl)
       have RT:=hQQ (Turned.trans TF.o (Turned.trans (turned_more m8) (t8.mono (fun _ _ q=>Or.inr q))))
       have RB:=hQQ (setRow_heap wh (w.heap.size+1) _ #[.slice a8 its2.length c8] _ _ BH.o)
       have RI:=hQQ (hr8.keep t8 (fun k q=>by subst q;exact⟨_,_,_,BH.o,by decide⟩))
       have RX:=hQQ ((XF.o.more m8).keep t8 (by have:=HG.o;omega))
       have RL8:Hq (its2.length≤n0+(j+1)):=hQQ (by have:=N1.o;have:=LNJ.o;omega)
       clear hr8 m8 t8 l8 hits2 y2 z7
       go_wp2_with (refine wpList_store_row rfl 62 _ _ rfl _ _ rfl rfl 62 _ BH.o (by kernel_rfl) rfl (by simp[Value.oneCell']) ?_)
       go_roundw
       case rel=>exact⟨j+1,its2,a8,its2.length,c8,eL P1 k hd1 c.pr,X',C1',by go_num,by omega,RT.o,RB.o,RI.o,rfl,EV2.o,RL8.o,RX.o,HN.o.2.2.1,HN.o.1,HN.o.2.2.2,HN.o.2.1⟩
       case measure=>simp[intOf];omega
     ·have em1:mf=(P1,ws1):=by rw[←HM.o,show frM c-j=0 by omega];rfl
      by_cases hq:(j:Int)+1<c.ba
      ·have d1:decide ((j:Int)+1<c.ba)=true:=by simp[hq]
       have d2:decide ((j:Int)+1≤c.pr)=false:=by unfold frM at hlt;split at hlt<;>simp<;>omega
       -- what is handed back,behind the loop: the purse P1,words ws1
       have FIN:Hq (∀W,ac wr W→gz w g cap n0 res (.returned (.tuple #[.int .i64 hd,.agg #[.slice a1 n1 c1],.bool true])) (W.setRow (w.heap.size+1+1) #[.slice a1 n1 c1])):=hQQ fun W hW=>by
        rw[ER.o,em1]
        have hT:Turned (fun b=>b=g∨b=w.heap.size+1) w3 W:=Turned.trans TR.o (turned_more hW)
        have hb:=(hT.block _ (af B3.o) (fun q=>by have:=HG.o;omega)).trans B3.o
        have t:Turned (fun b=>b=w.heap.size+1+1) W (W.setRow (w.heap.size+1+1) #[.slice a1 n1 c1]):=Turned.setRow (Turned.refl _ W) _ _ (fun _=>rfl)
        refine⟨_,its1,rfl,(IR1.o.more hW).keep t (fun k q=>by subst q;exact⟨_,_,_,hb,by decide⟩),EV1.o,by have:=LN1.o;have:=HMB.o;omega,(X1.o.more hW).keep t (by have:=HG.o;omega),?_⟩
        have h2:Turned (fun b=>b=g∨b=w.heap.size+1∨b=w.heap.size+1+1) w3 (W.setRow (w.heap.size+1+1) #[.slice a1 n1 c1]):=Turned.trans (hT.mono (fun k _ q=>by rcases q with q|q;exact .inl q;exact .inr (.inl q))) (t.mono (fun k _ q=> .inr (.inr q)))
        exact aw (F':=fun b=>b=g∨b=w.heap.size+1∨b=w.heap.size+1+1) (turned_more MM.o) h2 (fun k q=>by rcases q with q|q|q;exact .inl q;exact .inr (by omega);exact .inr (by omega))
       have B3R:=hQQ ((TR.o.block _ (af B3.o) (fun q=>by have:=HG.o;omega)).trans B3.o)
       go_wp2_with fail
       refine aq 3 (by kernel_rfl) (by kernel_rfl) ?_
       simp only[List.take_succ_cons,List.take_zero,List.drop_succ_cons,List.drop_zero]
       iterate 1
        with_reducible refine wpQuiet_step (fun K hK=>?_)
        go_simp
        first
        |(refine hK _ ?_;clear hK K)
        |(apply Exists.intro
          refine⟨fun W hW=>?_,hK _ ?_⟩
          first
          |(go_simp;try rfl)
          clear hK K)
       refine ae rfl 62 _ rfl _ rfl 62 _ _ _ (fun W hW=>hW.block HB2.o) Tryz.underlying62 rfl (by kernel_rfl) ?_
       iterate 1
        with_reducible refine wpQuiet_step (fun K hK=>?_)
        go_simp
        first
        |(refine hK _ ?_;clear hK K)
        |(apply Exists.intro
          refine⟨fun W hW=>?_,hK _ ?_⟩
          first
          |(go_simp;try rfl)
          clear hK K)
       refine wpQuiet_nil ?_
       intro wz hz
       have FB:=hQQ (FIN.o wz hz)
       have B8:=hQQ (hz.block B3R.o)
       clear hz FIN
       go_wp2_with (refine wpList_store_row rfl 62 _ _ rfl _ _ rfl rfl 62 _ B8.o (by kernel_rfl) rfl (by simp[Value.oneCell']) ?_)
       refine bodyPost_ret (v:=.tuple #[.int .i64 hd,.agg #[.slice a1 n1 c1],.bool true]) (ej Tryz.results59 _ _ _ 62 _ (0,0) _ rfl (setRow_heap _ _ _ _ _ _ B8.o) Tryz.underlying62 rfl (by kernel_rfl)) rfl FB.o
      ·have d1:decide ((j:Int)+1<c.ba)=false:=by simp[hq]
       -- what is handed back,behind the loop: the purse P1,words ws1
       have FIN:Hq (∀W,ac wr W→gz w g cap n0 res (.returned (.tuple #[.int .i64 hd,.agg #[.slice a1 n1 c1],.bool true])) (W.setRow (w.heap.size+1+1) #[.slice a1 n1 c1])):=hQQ fun W hW=>by
        rw[ER.o,em1]
        have hT:Turned (fun b=>b=g∨b=w.heap.size+1) w3 W:=Turned.trans TR.o (turned_more hW)
        have hb:=(hT.block _ (af B3.o) (fun q=>by have:=HG.o;omega)).trans B3.o
        have t:Turned (fun b=>b=w.heap.size+1+1) W (W.setRow (w.heap.size+1+1) #[.slice a1 n1 c1]):=Turned.setRow (Turned.refl _ W) _ _ (fun _=>rfl)
        refine⟨_,its1,rfl,(IR1.o.more hW).keep t (fun k q=>by subst q;exact⟨_,_,_,hb,by decide⟩),EV1.o,by have:=LN1.o;have:=HMB.o;omega,(X1.o.more hW).keep t (by have:=HG.o;omega),?_⟩
        have h2:Turned (fun b=>b=g∨b=w.heap.size+1∨b=w.heap.size+1+1) w3 (W.setRow (w.heap.size+1+1) #[.slice a1 n1 c1]):=Turned.trans (hT.mono (fun k _ q=>by rcases q with q|q;exact .inl q;exact .inr (.inl q))) (t.mono (fun k _ q=> .inr (.inr q)))
        exact aw (F':=fun b=>b=g∨b=w.heap.size+1∨b=w.heap.size+1+1) (turned_more MM.o) h2 (fun k q=>by rcases q with q|q|q;exact .inl q;exact .inr (by omega);exact .inr (by omega))
       have B3R:=hQQ ((TR.o.block _ (af B3.o) (fun q=>by have:=HG.o;omega)).trans B3.o)
       go_wp2_with fail
       refine aq 3 (by kernel_rfl) (by kernel_rfl) ?_
       simp only[List.take_succ_cons,List.take_zero,List.drop_succ_cons,List.drop_zero]
       iterate 1
        with_reducible refine wpQuiet_step (fun K hK=>?_)
        go_simp
        first
        |(refine hK _ ?_;clear hK K)
        |(apply Exists.intro
          refine⟨fun W hW=>?_,hK _ ?_⟩
          first
          |(go_simp;try rfl)
          clear hK K)
       refine ae rfl 62 _ rfl _ rfl 62 _ _ _ (fun W hW=>hW.block HB2.o) Tryz.underlying62 rfl (by kernel_rfl) ?_
       iterate 1
        with_reducible refine wpQuiet_step (fun K hK=>?_)
        go_simp
        first
        |(refine hK _ ?_;clear hK K)
        |(apply Exists.intro
          refine⟨fun W hW=>?_,hK _ ?_⟩
          first
          |(go_simp;try rfl)
          clear hK K)
       refine wpQuiet_nil ?_
       intro wz hz
       have FB:=hQQ (FIN.o wz hz)
       have B8:=hQQ (hz.block B3R.o)
       clear hz FIN
       go_wp2_with (refine wpList_store_row rfl 62 _ _ rfl _ _ rfl rfl 62 _ B8.o (by kernel_rfl) rfl (by simp[Value.oneCell']) ?_)
       refine bodyPost_ret (v:=.tuple #[.int .i64 hd,.agg #[.slice a1 n1 c1],.bool true]) (ej Tryz.results59 _ _ _ 62 _ (0,0) _ rfl (setRow_heap _ _ _ _ _ _ B8.o) Tryz.underlying62 rfl (by kernel_rfl)) rfl FB.o
  ·have HK0:Hq (gN (bV c) (5 * u+k) (5 * c.cp.toNat+k) ws=if 0<((C (5 * c.cp.toNat+k)).length:Int) then 1 else 2):=hQQ (by rw[KT.o,if_neg h0])
   have h0:¬0<(C (5 * u+k)).length:=by omega
   have e0:C (5 * u+k)= []:=by cases hC:C (5 * u+k) with|nil=>rfl|cons x y=>rw[hC] at h0;simp at h0
   have C9:=hQQ (MB.o.block B1W.o)
   have CX9:=hQQ (MB.o.cell X9.o)
   go_wp2_with fail
   refine aq 7 (by kernel_rfl) (by kernel_rfl) ?_
   simp only[List.take_succ_cons,List.take_zero,List.drop_succ_cons,List.drop_zero]
   iterate 1
    with_reducible refine wpQuiet_step (fun K hK=>?_)
    go_simp
    first
    |(refine hK _ ?_;clear hK K)
    |(apply Exists.intro
      refine⟨fun W hW=>?_,hK _ ?_⟩
      first
      |(go_simp;try rfl)
      clear hK K)
   refine ae rfl 27 _ rfl _ rfl 27 _ _ _ (fun W hW=>hW.block C9.o) Tryz.underlying27 rfl (by kernel_rfl) ?_
   iterate 5
    with_reducible refine wpQuiet_step (fun K hK=>?_)
    go_simp
    first
    |(refine hK _ ?_;clear hK K)
    |(apply Exists.intro
      refine⟨fun W hW=>?_,hK _ ?_⟩
      first
      |(go_at_call 102;exact Calls.more hW (YB.o W))
      |(have xc':=hW.cell CX9.o;go_simp;try rfl)
      clear hK K)
   refine wpQuiet_nil ?_
   intro wa ha
   have MA:=hQQ (MB.o.trans ha)
   clear ha
   go_wp2_with fail
   refine(AB.o wa (X0.o.more MA.o)).mono ?_
   rintro e wb ⟨ab,cb,rfl,_,_,hmb⟩
   have MB:=hQQ (MA.o.trans hmb)
   clear hmb
   by_cases h1:0<((C (5 * c.cp.toNat+k)).length:Int)
   ·have HKD:Hq (gN (bV c) (5 * u+k) (5 * c.cp.toNat+k) ws=1):=hQQ (by rw[HK0.o,if_pos h1])
    have h1:0<(C (5 * c.cp.toNat+k)).length:=by omega
    have C2:=hQQ (MB.o.block B1W.o)
    go_wp2_with (first|(refine aH rfl rfl rfl C2.o (by kernel_rfl) ?_)|(refine aH rfl rfl rfl C2.o (by kernel_rfl) ?_))
    refine(FE.o ws _ _ rfl F0.o 1 (by omega) _ (X0.o.more MB.o)).mono ?_
    rintro e wc ⟨rfl,hxc,htc⟩
    have TC:=hQQ (Turned.trans (turned_more MB.o) htc)
    have XC:=hQQ hxc
    clear hxc htc
    rcases FF.o ws _ _ F0.o 1 with e|⟨hd,X,C',e,hF⟩
    ·have er:res=(((0,false),P),ws):=by rw[←HRS.o,if_neg (by rw[hb];simp),HKD.o,show gh 1=1 from rfl,e];rfl
     rw[e] at XC⊢
     have FIN:Hq (∀W,Turned (fun b=>b=g) w3 W→Ws W g cap ws→gz w g cap n0 res (.returned (.tuple #[.int .i64 0,.agg #[.slice av n0 cv],.bool false])) (W.setRow (w.heap.size+1+1) #[.slice av n0 cv])):=hQQ fun W hT hX=>by
      rw[er]
      have hb:=(hT.block _ (af B3.o) (fun q=>by have:=HG.o;omega)).trans B3.o
      have t:Turned (fun b=>b=w.heap.size+1+1) W (W.setRow (w.heap.size+1+1) #[.slice av n0 cv]):=Turned.setRow (Turned.refl _ W) _ _ (fun _=>rfl)
      refine⟨_,its,HN0.o.symm▸rfl,(kX IR0.o X0.o hT).keep t (fun k q=>by subst q;exact⟨_,_,_,hb,by decide⟩),HE.o,by have:=HN0.o;omega,hX.keep t (by have:=HG.o;omega),?_⟩
      exact aw (F':=fun b=>b=w.heap.size+1+1) (Turned.trans (turned_more MM.o) hT) t (fun k q=>by omega)
     have BC:=hQQ ((TC.o.block _ (af B2.o) (fun q=>by have:=HG.o;omega)).trans B2.o)
     have BD:=hQQ ((TC.o.block _ (af B3.o) (fun q=>by have:=HG.o;omega)).trans B3.o)
     clear er e
     go_wp2_with fail
     refine aq 2 (by kernel_rfl) (by kernel_rfl) ?_
     simp only[List.take_succ_cons,List.take_zero,List.drop_succ_cons,List.drop_zero]
     refine ae rfl 62 _ rfl _ rfl 62 _ _ _ (fun W hW=>hW.block BC.o) Tryz.underlying62 rfl (by kernel_rfl) ?_
     iterate 1
      with_reducible refine wpQuiet_step (fun K hK=>?_)
      go_simp
      first
      |(refine hK _ ?_;clear hK K)
      |(apply Exists.intro
        refine⟨fun W hW=>?_,hK _ ?_⟩
        first
        |(go_simp;try rfl)
        clear hK K)
     refine wpQuiet_nil ?_
     intro wz hz
     have FB:=hQQ (FIN.o wz (Turned.trans TC.o (turned_more hz)) (XC.o.more hz))
     have B8:=hQQ (hz.block BD.o)
     clear hz FIN
     go_wp2_with (refine wpList_store_row rfl 62 _ _ rfl _ _ rfl rfl 62 _ B8.o (by kernel_rfl) rfl (by simp[Value.oneCell']) ?_)
     refine bodyPost_ret (v:=.tuple #[.int .i64 0,.agg #[.slice av n0 cv],.bool false]) (ej Tryz.results59 _ _ _ 62 _ (0,0) _ rfl (setRow_heap _ _ _ _ _ _ B8.o) Tryz.underlying62 rfl (by kernel_rfl)) rfl FB.o
    ·obtain⟨mf,hmf⟩:∃mf,eE c.us c.pg c.st (bV c) (5 * u+k) (5 * c.cp.toNat+k) k 1 c.pr (frM c) P X=mf:=⟨_,rfl⟩
     have ER:Hq (res=(((hd,true),mf.1),mf.2)):=hQQ (by rw[←HRS.o,if_neg (by rw[hb];simp),HKD.o,show gh 1=1 from rfl,e,if_pos rfl,hmf])
     have eX:X.length=ws.length:=hF.len
     rw[e] at XC⊢
     have XC:=hQQ (show Ws wc g cap X from XC.o)
     have START:Hq ((((P k).length:Int)+(frM c:Int)≤c.pr)∧FrI c.us c.pg c.st ws.length (bV c) r X C' (puO P++((hd,(k:Int))::O))∧eE c.us c.pg c.st (bV c) (5 * u+k) (5 * c.cp.toNat+k) k 1 c.pr (frM c) P X=mf∧X.length=ws.length):=hQQ ⟨by rw[PK0.o];have:=HMB.o;have:=HMP.o;simp;omega,hF.perm List.perm_middle.symm,hmf,eX⟩
     have BC:=hQQ ((TC.o.block _ (af B2.o) (fun q=>by have:=HG.o;omega)).trans B2.o)
     have IRC:=hQQ (kX IR0.o X0.o TC.o)
     clear e hF hmf eX
     go_wp2_with fail
     go_loopw [19,20,21] (fun v19 v20 v21 wr=>∃(j:Nat) (its1:List It) (a1:Option Addr) (n1 c1:Nat) (P1:Nat→List Int) (ws1:List Int) (C1:Nat→List Int),v19=.int .i64 ((j:Int)+1)∧j≤frM c∧Turned (fun b=>b=g∨b=w.heap.size+1) w3 wr∧wr.heap[w.heap.size+1]?=some (.cells #[.slice a1 n1 c1] 62 (0,0))∧IR 0 wr (.slice a1 n1 c1) its1∧its1.length=n1∧Eqv P1 its1∧n1≤n0+j∧Ws wr g cap ws1∧ws1.length=ws.length∧FrI c.us c.pg c.st ws.length (bV c) r ws1 C1 (puO P1++((hd,(k:Int))::O))∧((P1 k).length:Int)+((frM c:Int)-j)≤c.pr∧eE c.us c.pg c.st (bV c) (5 * u+k) (5 * c.cp.toNat+k) k 1 c.pr (frM c-j) P1 ws1=mf) (fun v19 _ _ _=>((frM c:Int)+1-intOf v19).toNat)
     case atStart=>exact⟨0,its,av,n0,cv,P,X,C',by simp,Nat.zero_le _,TC.o.mono (fun _ _ q=> .inl q),BC.o,IRC.o,HN0.o,HE.o,by omega,XC.o,START.o.2.2.2,START.o.2.1,by simpa using START.o.1,START.o.2.2.1⟩
     case round =>
      clear START IRC BC
      obtain⟨j,its1,a1,n1,c1,P1,ws1,C1,rfl,hj,hTR,hB2',hIR1,hn1,hEV1,hln1,hX1,hl1,hF1,hpk,hm⟩:=hrel
      have TR:=hQQ hTR
      have HB2:=hQQ hB2'
      have IR1:=hQQ hIR1
      have N1:=hQQ hn1
      have EV1:=hQQ hEV1
      have LN1:Hq (its1.length≤n0+frM c):=hQQ (by omega)
      have LNJ:=hQQ hln1
      have X1:=hQQ hX1
      have L1:=hQQ hl1
      have FI1:=hQQ hF1
      have PK:=hQQ hpk
      have HM:=hQQ hm
      have y2:wr.cell? ⟨w.heap.size+1,0,none⟩=some (.slice a1 n1 c1):=by simp[World.cell?,hB2']
      have CB:=hQQ ((hTR.block _ (af B1W.o) (fun q=>by have:=HG.o;omega)).trans B1W.o)
      have z10:wr.cell? ⟨w.heap.size,10,none⟩=some (.int .i64 c.ba):=by simp[World.cell?,CB.o,Cfg.cells]
      have z7:wr.cell? ⟨w.heap.size,7,none⟩=some (.int .i64 c.pr):=by simp[World.cell?,CB.o,Cfg.cells]
      have q1:IntKind.i64.wrap ((j:Int)+1+1)=(j:Int)+1+1:=aj (by have:=HMB.o;omega) (by have:=HMB.o;omega)
      have HL1:Hq (n1≤100000):=hQQ (by have:=HMB.o;omega)
      clear hTR hB2' hIR1 hn1 hEV1 hX1 hl1 hF1 hpk hm
      by_cases hlt:j<frM c
      ·obtain⟨m,em⟩:∃m,frM c-j=m+1:=⟨frM c-j-1,by omega⟩
       have d1:decide ((j:Int)+1<c.ba)=true:=by unfold frM at hlt;split at hlt<;>simp<;>omega
       have d2:decide ((j:Int)+1≤c.pr)=true:=by unfold frM at hlt;split at hlt<;>simp<;>omega
       go_wp2_with (first|(refine aH rfl rfl rfl CB.o (by kernel_rfl) ?_)|(refine aH rfl rfl rfl CB.o (by kernel_rfl) ?_))
       refine(FE.o ws1 _ _ L1.o FI1.o 1 (by omega) _ X1.o).mono ?_
       rintro e wf ⟨rfl,hxf,htf⟩
       have TF:=hQQ (Turned.trans TR.o (htf.mono (fun _ _ q=> .inl q)))
       have IRF:=hQQ (kX IR1.o X1.o htf)
       have HBF:=hQQ ((htf.block _ (af HB2.o) (fun q=>by have:=HG.o;omega)).trans HB2.o)
       have CBF:=hQQ ((htf.block _ (af CB.o) (fun q=>by have:=HG.o;omega)).trans CB.o)
       clear htf y2 z10 z7 TR IR1 HB2 X1 CB
       rcases FF.o ws1 _ _ FI1.o 1 with e|⟨hd1,X',C1',e,hF1⟩
       ·have em1:mf=(P1,ws1):=by rw[←HM.o,em];simp[eE,e]
        rw[e] at hxf⊢
        have X1:=hQQ (show Ws wf g cap ws1 from hxf)
        have TR:=hQQ TF.o
        have IR1:=hQQ IRF.o
        have HB2:=hQQ HBF.o
        have y2:wf.cell? ⟨w.heap.size+1,0,none⟩=some (.slice a1 n1 c1):=by simp[World.cell?,HBF.o]
        clear hxf e
        -- what is handed back,behind the loop: the purse P1,words ws1
        have FIN:Hq (∀W,ac wf W→gz w g cap n0 res (.returned (.tuple #[.int .i64 hd,.agg #[.slice a1 n1 c1],.bool true])) (W.setRow (w.heap.size+1+1) #[.slice a1 n1 c1])):=hQQ fun W hW=>by
         rw[ER.o,em1]
         have hT:Turned (fun b=>b=g∨b=w.heap.size+1) w3 W:=Turned.trans TR.o (turned_more hW)
         have hb:=(hT.block _ (af B3.o) (fun q=>by have:=HG.o;omega)).trans B3.o
         have t:Turned (fun b=>b=w.heap.size+1+1) W (W.setRow (w.heap.size+1+1) #[.slice a1 n1 c1]):=Turned.setRow (Turned.refl _ W) _ _ (fun _=>rfl)
         refine⟨_,its1,rfl,(IR1.o.more hW).keep t (fun k q=>by subst q;exact⟨_,_,_,hb,by decide⟩),EV1.o,by have:=LN1.o;have:=HMB.o;omega,(X1.o.more hW).keep t (by have:=HG.o;omega),?_⟩
         have h2:Turned (fun b=>b=g∨b=w.heap.size+1∨b=w.heap.size+1+1) w3 (W.setRow (w.heap.size+1+1) #[.slice a1 n1 c1]):=Turned.trans (hT.mono (fun k _ q=>by rcases q with q|q;exact .inl q;exact .inr (.inl q))) (t.mono (fun k _ q=> .inr (.inr q)))
         exact aw (F':=fun b=>b=g∨b=w.heap.size+1∨b=w.heap.size+1+1) (turned_more MM.o) h2 (fun k q=>by rcases q with q|q|q;exact .inl q;exact .inr (by omega);exact .inr (by omega))
        have B3R:=hQQ ((TR.o.block _ (af B3.o) (fun q=>by have:=HG.o;omega)).trans B3.o)
        go_wp2_with fail
        refine aq 3 (by kernel_rfl) (by kernel_rfl) ?_
        simp only[List.take_succ_cons,List.take_zero,List.drop_succ_cons,List.drop_zero]
        iterate 1
         with_reducible refine wpQuiet_step (fun K hK=>?_)
         go_simp
         first
         |(refine hK _ ?_;clear hK K)
         |(apply Exists.intro
           refine⟨fun W hW=>?_,hK _ ?_⟩
           first
           |(go_simp;try rfl)
           clear hK K)
        refine ae rfl 62 _ rfl _ rfl 62 _ _ _ (fun W hW=>hW.block HB2.o) Tryz.underlying62 rfl (by kernel_rfl) ?_
        iterate 1
         with_reducible refine wpQuiet_step (fun K hK=>?_)
         go_simp
         first
         |(refine hK _ ?_;clear hK K)
         |(apply Exists.intro
           refine⟨fun W hW=>?_,hK _ ?_⟩
           first
           |(go_simp;try rfl)
           clear hK K)
        refine wpQuiet_nil ?_
        intro wz hz
        have FB:=hQQ (FIN.o wz hz)
        have B8:=hQQ (hz.block B3R.o)
        clear hz FIN
        go_wp2_with (refine wpList_store_row rfl 62 _ _ rfl _ _ rfl rfl 62 _ B8.o (by kernel_rfl) rfl (by simp[Value.oneCell']) ?_)
        refine bodyPost_ret (v:=.tuple #[.int .i64 hd,.agg #[.slice a1 n1 c1],.bool true]) (ej Tryz.results59 _ _ _ 62 _ (0,0) _ rfl (setRow_heap _ _ _ _ _ _ B8.o) Tryz.underlying62 rfl (by kernel_rfl)) rfl FB.o
       ·have hm1:eE c.us c.pg c.st (bV c) (5 * u+k) (5 * c.cp.toNat+k) k 1 c.pr (frM c-(j+1)) (eL P1 k hd1 c.pr) X'=mf:=by rw[←HM.o,em,show frM c-(j+1)=m by omega];simp[eE,e]
        have eX:X'.length=ws.length:=hF1.len
        rw[e] at hxf⊢
        have XF:=hQQ (show Ws wf g cap X' from hxf)
        have pe:eL P1 k hd1 c.pr=eO P1 k (P1 k++ [hd1]):=mR P1 hk hd1 (by have:=PK.o;omega)
        have hF2:FrI c.us c.pg c.st ws.length (bV c) r X' C1' (puO (eL P1 k hd1 c.pr)++((hd,(k:Int))::O)):=by
         rw[pe]
         exact hF1.perm ((mQ P1 hk hd1).append_right _).symm
        have pk2:(((eL P1 k hd1 c.pr) k).length:Int)+((frM c:Int)-((j+1:Nat):Int))≤c.pr:=by
         rw[pe]
         have:=PK.o
         simp[eO]
         omega
        have HN:=hQQ (And.intro hF2 (And.intro hm1 (And.intro eX pk2)))
        have EV2:=hQQ (EV1.o.push (k:Int) hd1 c.pr).2
        have z7:wf.cell? ⟨w.heap.size,7,none⟩=some (.int .i64 c.pr):=by simp[World.cell?,CBF.o,Cfg.cells]
        have y2:wf.cell? ⟨w.heap.size+1,0,none⟩=some (.slice a1 n1 c1):=by simp[World.cell?,HBF.o]
        have PH:=hQQ (tu (.slice a1 its1.length c1) its1 (k:Int) hd1 c.pr wf (by rw[←N1.o] at IRF;exact IRF.o) (by have:=N1.o;have:=HL1.o;omega))
        rw[N1.o] at PH
        clear hxf e hF2 hm1 eX pk2 pe hF1
        go_wp2_with fail
        refine PH.o.mono ?_
        rintro e wh ⟨v8,rfl,hr8,m8⟩
        obtain⟨a8,c8,rfl,_,_,_⟩:=hr8.at
        have l8:=mW its1 (k:Int) hd1 c.pr
        obtain⟨its2,hits2⟩:∃its2,jt its1 (k:Int) hd1 c.pr=its2:=⟨_,rfl⟩
        rw[hits2] at hr8 l8 EV2⊢
        have BH:=hQQ (m8.block HBF.o)
        have t8:Turned (fun b=>b=w.heap.size+1) wh (wh.setRow (w.heap.size+1) #[.slice a8 its2.length c8]):=Turned.setRow (Turned.refl _ wh) _ _ (fun _=>rfl)
        have RT:=hQQ (Turned.trans TF.o (Turned.trans (turned_more m8) (t8.mono (fun _ _ q=>Or.inr q))))
        have RB:=hQQ (setRow_heap wh (w.heap.size+1) _ #[.slice a8 its2.length c8] _ _ BH.o)
        have RI:=hQQ (hr8.keep t8 (fun k q=>by subst q;exact⟨_,_,_,BH.o,by decide⟩))
        have RX:=hQQ ((XF.o.more m8).keep t8 (by have:=HG.o;omega))
        have RL8:Hq (its2.length≤n0+(j+1)):=hQQ (by have:=N1.o;have:=LNJ.o;omega)
        clear hr8 m8 t8 l8 hits2 y2 z7
        go_wp2_with (refine wpList_store_row rfl 62 _ _ rfl _ _ rfl rfl 62 _ BH.o (by kernel_rfl) rfl (by simp[Value.oneCell']) ?_)
        go_roundw
        case rel=>exact⟨j+1,its2,a8,its2.length,c8,eL P1 k hd1 c.pr,X',C1',by go_num,by omega,RT.o,RB.o,RI.o,rfl,EV2.o,RL8.o,RX.o,HN.o.2.2.1,HN.o.1,HN.o.2.2.2,HN.o.2.1⟩
        case measure=>simp[intOf];omega
      ·have em1:mf=(P1,ws1):=by rw[←HM.o,show frM c-j=0 by omega];rfl
       by_cases hq:(j:Int)+1<c.ba
       ·have d1:decide ((j:Int)+1<c.ba)=true:=by simp[hq]
        have d2:decide ((j:Int)+1≤c.pr)=false:=by unfold frM at hlt;split at hlt<;>simp<;>omega
        -- what is handed back,behind the loop: the purse P1,words ws1
        have FIN:Hq (∀W,ac wr W→gz w g cap n0 res (.returned (.tuple #[.int .i64 hd,.agg #[.slice a1 n1 c1],.bool true])) (W.setRow (w.heap.size+1+1) #[.slice a1 n1 c1])):=hQQ fun W hW=>by
         rw[ER.o,em1]
         have hT:Turned (fun b=>b=g∨b=w.heap.size+1) w3 W:=Turned.trans TR.o (turned_more hW)
         have hb:=(hT.block _ (af B3.o) (fun q=>by have:=HG.o;omega)).trans B3.o
         have t:Turned (fun b=>b=w.heap.size+1+1) W (W.setRow (w.heap.size+1+1) #[.slice a1 n1 c1]):=Turned.setRow (Turned.refl _ W) _ _ (fun _=>rfl)
         refine⟨_,its1,rfl,(IR1.o.more hW).keep t (fun k q=>by subst q;exact⟨_,_,_,hb,by decide⟩),EV1.o,by have:=LN1.o;have:=HMB.o;omega,(X1.o.more hW).keep t (by have:=HG.o;omega),?_⟩
         have h2:Turned (fun b=>b=g∨b=w.heap.size+1∨b=w.heap.size+1+1) w3 (W.setRow (w.heap.size+1+1) #[.slice a1 n1 c1]):=Turned.trans (hT.mono (fun k _ q=>by rcases q with q|q;exact .inl q;exact .inr (.inl q))) (t.mono (fun k _ q=> .inr (.inr q)))
         exact aw (F':=fun b=>b=g∨b=w.heap.size+1∨b=w.heap.size+1+1) (turned_more MM.o) h2 (fun k q=>by rcases q with q|q|q;exact .inl q;exact .inr (by omega);exact .inr (by omega))
        have B3R:=hQQ ((TR.o.block _ (af B3.o) (fun q=>by have:=HG.o;omega)).trans B3.o)
        go_wp2_with fail
        refine aq 3 (by kernel_rfl) (by kernel_rfl) ?_
        simp only[List.take_succ_cons,List.take_zero,List.drop_succ_cons,List.drop_zero]
        iterate 1
         with_reducible refine wpQuiet_step (fun K hK=>?_)
         go_simp
         first
         |(refine hK _ ?_;clear hK K)
         |(apply Exists.intro
           refine⟨fun W hW=>?_,hK _ ?_⟩
           first
           |(go_simp;try rfl)
           clear hK K)
        refine ae rfl 62 _ rfl _ rfl 62 _ _ _ (fun W hW=>hW.block HB2.o) Tryz.underlying62 rfl (by kernel_rfl) ?_
        iterate 1
         with_reducible refine wpQuiet_step (fun K hK=>?_)
         go_simp
         first
         |(refine hK _ ?_;clear hK K)
         |(apply Exists.intro
           refine⟨fun W hW=>?_,hK _ ?_⟩
           first
           |(go_simp;try rfl)
           clear hK K)
        refine wpQuiet_nil ?_
        intro wz hz
        have FB:=hQQ (FIN.o wz hz)
        have B8:=hQQ (hz.block B3R.o)
        clear hz FIN
        go_wp2_with (refine wpList_store_row rfl 62 _ _ rfl _ _ rfl rfl 62 _ B8.o (by kernel_rfl) rfl (by simp[Value.oneCell']) ?_)
        refine bodyPost_ret (v:=.tuple #[.int .i64 hd,.agg #[.slice a1 n1 c1],.bool true]) (ej Tryz.results59 _ _ _ 62 _ (0,0) _ rfl (setRow_heap _ _ _ _ _ _ B8.o) Tryz.underlying62 rfl (by kernel_rfl)) rfl FB.o
       ·have d1:decide ((j:Int)+1<c.ba)=false:=by simp[hq]
        -- what is handed back,behind the loop: the purse P1,words ws1
        have FIN:Hq (∀W,ac wr W→gz w g cap n0 res (.returned (.tuple #[.int .i64 hd,.agg #[.slice a1 n1 c1],.bool true])) (W.setRow (w.heap.size+1+1) #[.slice a1 n1 c1])):=hQQ fun W hW=>by
         rw[ER.o,em1]
         have hT:Turned (fun b=>b=g∨b=w.heap.size+1) w3 W:=Turned.trans TR.o (turned_more hW)
         have hb:=(hT.block _ (af B3.o) (fun q=>by have:=HG.o;omega)).trans B3.o
         have t:Turned (fun b=>b=w.heap.size+1+1) W (W.setRow (w.heap.size+1+1) #[.slice a1 n1 c1]):=Turned.setRow (Turned.refl _ W) _ _ (fun _=>rfl)
         refine⟨_,its1,rfl,(IR1.o.more hW).keep t (fun k q=>by subst q;exact⟨_,_,_,hb,by decide⟩),EV1.o,by have:=LN1.o;have:=HMB.o;omega,(X1.o.more hW).keep t (by have:=HG.o;omega),?_⟩
         have h2:Turned (fun b=>b=g∨b=w.heap.size+1∨b=w.heap.size+1+1) w3 (W.setRow (w.heap.size+1+1) #[.slice a1 n1 c1]):=Turned.trans (hT.mono (fun k _ q=>by rcases q with q|q;exact .inl q;exact .inr (.inl q))) (t.mono (fun k _ q=> .inr (.inr q)))
         exact aw (F':=fun b=>b=g∨b=w.heap.size+1∨b=w.heap.size+1+1) (turned_more MM.o) h2 (fun k q=>by rcases q with q|q|q;exact .inl q;exact .inr (by omega);exact .inr (by omega))
        have B3R:=hQQ ((TR.o.block _ (af B3.o) (fun q=>by have:=HG.o;omega)).trans B3.o)
        go_wp2_with fail
        refine aq 3 (by kernel_rfl) (by kernel_rfl) ?_
        simp only[List.take_succ_cons,List.take_zero,List.drop_succ_cons,List.drop_zero]
        iterate 1
         with_reducible refine wpQuiet_step (fun K hK=>?_)
         go_simp
         first
         |(refine hK _ ?_;clear hK K)
         |(apply Exists.intro
           refine⟨fun W hW=>?_,hK _ ?_⟩
           first
           |(go_simp;try rfl)
           clear hK K)
        refine ae rfl 62 _ rfl _ rfl 62 _ _ _ (fun W hW=>hW.block HB2.o) Tryz.underlying62 rfl (by kernel_rfl) ?_
        iterate 1
         with_reducible refine wpQuiet_step (fun K hK=>?_)
         go_simp
         first
         |(refine hK _ ?_;clear hK K)
         |(apply Exists.intro
           refine⟨fun W hW=>?_,hK _ ?_⟩
           first
           |(go_simp;try rfl)
           clear hK K)
        refine wpQuiet_nil ?_
        intro wz hz
        have FB:=hQQ (FIN.o wz hz)
        have B8:=hQQ (hz.block B3R.o)
        clear hz FIN
        go_wp2_with (refine wpList_store_row rfl 62 _ _ rfl _ _ rfl rfl 62 _ B8.o (by kernel_rfl) rfl (by simp[Value.oneCell']) ?_)
        refine bodyPost_ret (v:=.tuple #[.int .i64 hd,.agg #[.slice a1 n1 c1],.bool true]) (ej Tryz.results59 _ _ _ 62 _ (0,0) _ rfl (setRow_heap _ _ _ _ _ _ B8.o) Tryz.underlying62 rfl (by kernel_rfl)) rfl FB.o
   ·have HKD:Hq (gN (bV c) (5 * u+k) (5 * c.cp.toNat+k) ws=2):=hQQ (by rw[HK0.o,if_neg h1])
    have h1:¬0<(C (5 * c.cp.toNat+k)).length:=by omega
    have e1:C (5 * c.cp.toNat+k)= []:=by cases hC:C (5 * c.cp.toNat+k) with|nil=>rfl|cons x y=>rw[hC] at h1;simp at h1
    have C2:=hQQ (MB.o.block B1W.o)
    go_wp2_with (first|(refine aH rfl rfl rfl C2.o (by kernel_rfl) ?_)|(refine aH rfl rfl rfl C2.o (by kernel_rfl) ?_))
    refine(FE.o ws _ _ rfl F0.o 3 (by omega) _ (X0.o.more MB.o)).mono ?_
    rintro e wc ⟨rfl,hxc,htc⟩
    have TC:=hQQ (Turned.trans (turned_more MB.o) htc)
    have XC:=hQQ hxc
    clear hxc htc
    rcases FF.o ws _ _ F0.o 3 with e|⟨hd,X,C',e,hF⟩
    ·have er:res=(((0,false),P),ws):=by rw[←HRS.o,if_neg (by rw[hb];simp),HKD.o,show gh 2=3 from rfl,e];rfl
     rw[e] at XC⊢
     have FIN:Hq (∀W,Turned (fun b=>b=g) w3 W→Ws W g cap ws→gz w g cap n0 res (.returned (.tuple #[.int .i64 0,.agg #[.slice av n0 cv],.bool false])) (W.setRow (w.heap.size+1+1) #[.slice av n0 cv])):=hQQ fun W hT hX=>by
      rw[er]
      have hb:=(hT.block _ (af B3.o) (fun q=>by have:=HG.o;omega)).trans B3.o
      have t:Turned (fun b=>b=w.heap.size+1+1) W (W.setRow (w.heap.size+1+1) #[.slice av n0 cv]):=Turned.setRow (Turned.refl _ W) _ _ (fun _=>rfl)
      refine⟨_,its,HN0.o.symm▸rfl,(kX IR0.o X0.o hT).keep t (fun k q=>by subst q;exact⟨_,_,_,hb,by decide⟩),HE.o,by have:=HN0.o;omega,hX.keep t (by have:=HG.o;omega),?_⟩
      exact aw (F':=fun b=>b=w.heap.size+1+1) (Turned.trans (turned_more MM.o) hT) t (fun k q=>by omega)
     have BC:=hQQ ((TC.o.block _ (af B2.o) (fun q=>by have:=HG.o;omega)).trans B2.o)
     have BD:=hQQ ((TC.o.block _ (af B3.o) (fun q=>by have:=HG.o;omega)).trans B3.o)
     clear er e
     go_wp2_with fail
     refine aq 2 (by kernel_rfl) (by kernel_rfl) ?_
     simp only[List.take_succ_cons,List.take_zero,List.drop_succ_cons,List.drop_zero]
     refine ae rfl 62 _ rfl _ rfl 62 _ _ _ (fun W hW=>hW.block BC.o) Tryz.underlying62 rfl (by kernel_rfl) ?_
     iterate 1
      with_reducible refine wpQuiet_step (fun K hK=>?_)
      go_simp
      first
      |(refine hK _ ?_;clear hK K)
      |(apply Exists.intro
        refine⟨fun W hW=>?_,hK _ ?_⟩
        first
        |(go_simp;try rfl)
        clear hK K)
     refine wpQuiet_nil ?_
     intro wz hz
     have FB:=hQQ (FIN.o wz (Turned.trans TC.o (turned_more hz)) (XC.o.more hz))
     have B8:=hQQ (hz.block BD.o)
     clear hz FIN
     go_wp2_with (refine wpList_store_row rfl 62 _ _ rfl _ _ rfl rfl 62 _ B8.o (by kernel_rfl) rfl (by simp[Value.oneCell']) ?_)
     refine bodyPost_ret (v:=.tuple #[.int .i64 0,.agg #[.slice av n0 cv],.bool false]) (ej Tryz.results59 _ _ _ 62 _ (0,0) _ rfl (setRow_heap _ _ _ _ _ _ B8.o) Tryz.underlying62 rfl (by kernel_rfl)) rfl FB.o
    ·obtain⟨mf,hmf⟩:∃mf,eE c.us c.pg c.st (bV c) (5 * u+k) (5 * c.cp.toNat+k) k 2 c.pr (frM c) P X=mf:=⟨_,rfl⟩
     have ER:Hq (res=(((hd,true),mf.1),mf.2)):=hQQ (by rw[←HRS.o,if_neg (by rw[hb];simp),HKD.o,show gh 2=3 from rfl,e,if_pos rfl,hmf])
     have eX:X.length=ws.length:=hF.len
     rw[e] at XC⊢
     have XC:=hQQ (show Ws wc g cap X from XC.o)
     have START:Hq ((((P k).length:Int)+(frM c:Int)≤c.pr)∧FrI c.us c.pg c.st ws.length (bV c) r X C' (puO P++((hd,(k:Int))::O))∧eE c.us c.pg c.st (bV c) (5 * u+k) (5 * c.cp.toNat+k) k 2 c.pr (frM c) P X=mf∧X.length=ws.length):=hQQ ⟨by rw[PK0.o];have:=HMB.o;have:=HMP.o;simp;omega,hF.perm List.perm_middle.symm,hmf,eX⟩
     have BC:=hQQ ((TC.o.block _ (af B2.o) (fun q=>by have:=HG.o;omega)).trans B2.o)
     have IRC:=hQQ (kX IR0.o X0.o TC.o)
     clear e hF hmf eX
     go_wp2_with fail
     go_loopw [19,20,21] (fun v19 v20 v21 wr=>∃(j:Nat) (its1:List It) (a1:Option Addr) (n1 c1:Nat) (P1:Nat→List Int) (ws1:List Int) (C1:Nat→List Int),v19=.int .i64 ((j:Int)+1)∧j≤frM c∧Turned (fun b=>b=g∨b=w.heap.size+1) w3 wr∧wr.heap[w.heap.size+1]?=some (.cells #[.slice a1 n1 c1] 62 (0,0))∧IR 0 wr (.slice a1 n1 c1) its1∧its1.length=n1∧Eqv P1 its1∧n1≤n0+j∧Ws wr g cap ws1∧ws1.length=ws.length∧FrI c.us c.pg c.st ws.length (bV c) r ws1 C1 (puO P1++((hd,(k:Int))::O))∧((P1 k).length:Int)+((frM c:Int)-j)≤c.pr∧eE c.us c.pg c.st (bV c) (5 * u+k) (5 * c.cp.toNat+k) k 2 c.pr (frM c-j) P1 ws1=mf) (fun v19 _ _ _=>((frM c:Int)+1-intOf v19).toNat)
     case atStart=>exact⟨0,its,av,n0,cv,P,X,C',by simp,Nat.zero_le _,TC.o.mono (fun _ _ q=> .inl q),BC.o,IRC.o,HN0.o,HE.o,by omega,XC.o,START.o.2.2.2,START.o.2.1,by simpa using START.o.1,START.o.2.2.1⟩
     case round =>
      clear START IRC BC
      obtain⟨j,its1,a1,n1,c1,P1,ws1,C1,rfl,hj,hTR,hB2',hIR1,hn1,hEV1,hln1,hX1,hl1,hF1,hpk,hm⟩:=hrel
      have TR:=hQQ hTR
      have HB2:=hQQ hB2'
      have IR1:=hQQ hIR1
      have N1:=hQQ hn1
      have EV1:=hQQ hEV1
      have LN1:Hq (its1.length≤n0+frM c):=hQQ (by omega)
      have LNJ:=hQQ hln1
      have X1:=hQQ hX1
      have L1:=hQQ hl1
      have FI1:=hQQ hF1
      have PK:=hQQ hpk
      have HM:=hQQ hm
      have y2:wr.cell? ⟨w.heap.size+1,0,none⟩=some (.slice a1 n1 c1):=by simp[World.cell?,hB2']
      have CB:=hQQ ((hTR.block _ (af B1W.o) (fun q=>by have:=HG.o;omega)).trans B1W.o)
      have z10:wr.cell? ⟨w.heap.size,10,none⟩=some (.int .i64 c.ba):=by simp[World.cell?,CB.o,Cfg.cells]
      have z7:wr.cell? ⟨w.heap.size,7,none⟩=some (.int .i64 c.pr):=by simp[World.cell?,CB.o,Cfg.cells]
      have q1:IntKind.i64.wrap ((j:Int)+1+1)=(j:Int)+1+1:=aj (by have:=HMB.o;omega) (by have:=HMB.o;omega)
      have HL1:Hq (n1≤100000):=hQQ (by have:=HMB.o;omega)
      clear hTR hB2' hIR1 hn1 hEV1 hX1 hl1 hF1 hpk hm
      by_cases hlt:j<frM c
      ·obtain⟨m,em⟩:∃m,frM c-j=m+1:=⟨frM c-j-1,by omega⟩
       have d1:decide ((j:Int)+1<c.ba)=true:=by unfold frM at hlt;split at hlt<;>simp<;>omega
       have d2:decide ((j:Int)+1≤c.pr)=true:=by unfold frM at hlt;split at hlt<;>simp<;>omega
       go_wp2_with (first|(refine aH rfl rfl rfl CB.o (by kernel_rfl) ?_)|(refine aH rfl rfl rfl CB.o (by kernel_rfl) ?_))
       refine(FE.o ws1 _ _ L1.o FI1.o 2 (by omega) _ X1.o).mono ?_
       rintro e wf ⟨rfl,hxf,htf⟩
       have TF:=hQQ (Turned.trans TR.o (htf.mono (fun _ _ q=> .inl q)))
       have IRF:=hQQ (kX IR1.o X1.o htf)
       have HBF:=hQQ ((htf.block _ (af HB2.o) (fun q=>by have:=HG.o;omega)).trans HB2.o)
       have CBF:=hQQ ((htf.block _ (af CB.o) (fun q=>by have:=HG.o;omega)).trans CB.o)
       clear htf y2 z10 z7 TR IR1 HB2 X1 CB
       rcases FF.o ws1 _ _ FI1.o 2 with e|⟨hd1,X',C1',e,hF1⟩
       ·have em1:mf=(P1,ws1):=by rw[←HM.o,em];simp[eE,e]
        rw[e] at hxf⊢
        have X1:=hQQ (show Ws wf g cap ws1 from hxf)
        have TR:=hQQ TF.o
        have IR1:=hQQ IRF.o
        have HB2:=hQQ HBF.o
        have y2:wf.cell? ⟨w.heap.size+1,0,none⟩=some (.slice a1 n1 c1):=by simp[World.cell?,HBF.o]
        clear hxf e
        -- what is handed back,behind the loop: the purse P1,words ws1
        have FIN:Hq (∀W,ac wf W→gz w g cap n0 res (.returned (.tuple #[.int .i64 hd,.agg #[.slice a1 n1 c1],.bool true])) (W.setRow (w.heap.size+1+1) #[.slice a1 n1 c1])):=hQQ fun W hW=>by
         rw[ER.o,em1]
         have hT:Turned (fun b=>b=g∨b=w.heap.size+1) w3 W:=Turned.trans TR.o (turned_more hW)
         have hb:=(hT.block _ (af B3.o) (fun q=>by have:=HG.o;omega)).trans B3.o
         have t:Turned (fun b=>b=w.heap.size+1+1) W (W.setRow (w.heap.size+1+1) #[.slice a1 n1 c1]):=Turned.setRow (Turned.refl _ W) _ _ (fun _=>rfl)
         refine⟨_,its1,rfl,(IR1.o.more hW).keep t (fun k q=>by subst q;exact⟨_,_,_,hb,by decide⟩),EV1.o,by have:=LN1.o;have:=HMB.o;omega,(X1.o.more hW).keep t (by have:=HG.o;omega),?_⟩
         have h2:Turned (fun b=>b=g∨b=w.heap.size+1∨b=w.heap.size+1+1) w3 (W.setRow (w.heap.size+1+1) #[.slice a1 n1 c1]):=Turned.trans (hT.mono (fun k _ q=>by rcases q with q|q;exact .inl q;exact .inr (.inl q))) (t.mono (fun k _ q=> .inr (.inr q)))
         exact aw (F':=fun b=>b=g∨b=w.heap.size+1∨b=w.heap.size+1+1) (turned_more MM.o) h2 (fun k q=>by rcases q with q|q|q;exact .inl q;exact .inr (by omega);exact .inr (by omega))
        have B3R:=hQQ ((TR.o.block _ (af B3.o) (fun q=>by have:=HG.o;omega)).trans B3.o)
        go_wp2_with fail
        refine aq 3 (by kernel_rfl) (by kernel_rfl) ?_
        simp only[List.take_succ_cons,List.take_zero,List.drop_succ_cons,List.drop_zero]
        iterate 1
         with_reducible refine wpQuiet_step (fun K hK=>?_)
         go_simp
         first
         |(refine hK _ ?_;clear hK K)
         |(apply Exists.intro
           refine⟨fun W hW=>?_,hK _ ?_⟩
           first
           |(go_simp;try rfl)
           clear hK K)
        refine ae rfl 62 _ rfl _ rfl 62 _ _ _ (fun W hW=>hW.block HB2.o) Tryz.underlying62 rfl (by kernel_rfl) ?_
        iterate 1
         with_reducible refine wpQuiet_step (fun K hK=>?_)
         go_simp
         first
         |(refine hK _ ?_;clear hK K)
         |(apply Exists.intro
           refine⟨fun W hW=>?_,hK _ ?_⟩
           first
           |(go_simp;try rfl)
           clear hK K)
        refine wpQuiet_nil ?_
        intro wz hz
        have FB:=hQQ (FIN.o wz hz)
        have B8:=hQQ (hz.block B3R.o)
        clear hz FIN
        go_wp2_with (refine wpList_store_row rfl 62 _ _ rfl _ _ rfl rfl 62 _ B8.o (by kernel_rfl) rfl (by simp[Value.oneCell']) ?_)
        refine bodyPost_ret (v:=.tuple #[.int .i64 hd,.agg #[.slice a1 n1 c1],.bool true]) (ej Tryz.results59 _ _ _ 62 _ (0,0) _ rfl (setRow_heap _ _ _ _ _ _ B8.o) Tryz.underlying62 rfl (by kernel_rfl)) rfl FB.o
       ·have hm1:eE c.us c.pg c.st (bV c) (5 * u+k) (5 * c.cp.toNat+k) k 2 c.pr (frM c-(j+1)) (eL P1 k hd1 c.pr) X'=mf:=by rw[←HM.o,em,show frM c-(j+1)=m by omega];simp[eE,e]
        have eX:X'.length=ws.length:=hF1.len
        rw[e] at hxf⊢
        have XF:=hQQ (show Ws wf g cap X' from hxf)
        have pe:eL P1 k hd1 c.pr=eO P1 k (P1 k++ [hd1]):=mR P1 hk hd1 (by have:=PK.o;omega)
        have hF2:FrI c.us c.pg c.st ws.length (bV c) r X' C1' (puO (eL P1 k hd1 c.pr)++((hd,(k:Int))::O)):=by
         rw[pe]
         exact hF1.perm ((mQ P1 hk hd1).append_right _).symm
        have pk2:(((eL P1 k hd1 c.pr) k).length:Int)+((frM c:Int)-((j+1:Nat):Int))≤c.pr:=by
         rw[pe]
         have:=PK.o
         simp[eO]
         omega
        have HN:=hQQ (And.intro hF2 (And.intro hm1 (And.intro eX pk2)))
        have EV2:=hQQ (EV1.o.push (k:Int) hd1 c.pr).2
        have z7:wf.cell? ⟨w.heap.size,7,none⟩=some (.int .i64 c.pr):=by simp[World.cell?,CBF.o,Cfg.cells]
        have y2:wf.cell? ⟨w.heap.size+1,0,none⟩=some (.slice a1 n1 c1):=by simp[World.cell?,HBF.o]
        have PH:=hQQ (tu (.slice a1 its1.length c1) its1 (k:Int) hd1 c.pr wf (by rw[←N1.o] at IRF;exact IRF.o) (by have:=N1.o;have:=HL1.o;omega))
        rw[N1.o] at PH
        clear hxf e hF2 hm1 eX pk2 pe hF1
        go_wp2_with fail
        refine PH.o.mono ?_
        rintro e wh ⟨v8,rfl,hr8,m8⟩
        obtain⟨a8,c8,rfl,_,_,_⟩:=hr8.at
        have l8:=mW its1 (k:Int) hd1 c.pr
        obtain⟨its2,hits2⟩:∃its2,jt its1 (k:Int) hd1 c.pr=its2:=⟨_,rfl⟩
        rw[hits2] at hr8 l8 EV2⊢
        have BH:=hQQ (m8.block HBF.o)
        have t8:Turned (fun b=>b=w.heap.size+1) wh (wh.setRow (w.heap.size+1) #[.slice a8 its2.length c8]):=Turned.setRow (Turned.refl _ wh) _ _ (fun _=>rfl)
        have RT:=hQQ (Turned.trans TF.o (Turned.trans (turned_more m8) (t8.mono (fun _ _ q=>Or.inr q))))
        have RB:=hQQ (setRow_heap wh (w.heap.size+1) _ #[.slice a8 its2.length c8] _ _ BH.o)
        have RI:=hQQ (hr8.keep t8 (fun k q=>by subst q;exact⟨_,_,_,BH.o,by decide⟩))
        have RX:=hQQ ((XF.o.more m8).keep t8 (by have:=HG.o;omega))
        have RL8:Hq (its2.length≤n0+(j+1)):=hQQ (by have:=N1.o;have:=LNJ.o;omega)
        clear hr8 m8 t8 l8 hits2 y2 z7
        go_wp2_with (refine wpList_store_row rfl 62 _ _ rfl _ _ rfl rfl 62 _ BH.o (by kernel_rfl) rfl (by simp[Value.oneCell']) ?_)
        go_roundw
        case rel=>exact⟨j+1,its2,a8,its2.length,c8,eL P1 k hd1 c.pr,X',C1',by go_num,by omega,RT.o,RB.o,RI.o,rfl,EV2.o,RL8.o,RX.o,HN.o.2.2.1,HN.o.1,HN.o.2.2.2,HN.o.2.1⟩
        case measure=>simp[intOf];omega
      ·have em1:mf=(P1,ws1):=by rw[←HM.o,show frM c-j=0 by omega];rfl
       by_cases hq:(j:Int)+1<c.ba
       ·have d1:decide ((j:Int)+1<c.ba)=true:=by simp[hq]
        have d2:decide ((j:Int)+1≤c.pr)=false:=by unfold frM at hlt;split at hlt<;>simp<;>omega
        -- what is handed back,behind the loop: the purse P1,words ws1
        have FIN:Hq (∀W,ac wr W→gz w g cap n0 res (.returned (.tuple #[.int .i64 hd,.agg #[.slice a1 n1 c1],.bool true])) (W.setRow (w.heap.size+1+1) #[.slice a1 n1 c1])):=hQQ fun W hW=>by
         rw[ER.o,em1]
         have hT:Turned (fun b=>b=g∨b=w.heap.size+1) w3 W:=Turned.trans TR.o (turned_more hW)
         have hb:=(hT.block _ (af B3.o) (fun q=>by have:=HG.o;omega)).trans B3.o
         have t:Turned (fun b=>b=w.heap.size+1+1) W (W.setRow (w.heap.size+1+1) #[.slice a1 n1 c1]):=Turned.setRow (Turned.refl _ W) _ _ (fun _=>rfl)
         refine⟨_,its1,rfl,(IR1.o.more hW).keep t (fun k q=>by subst q;exact⟨_,_,_,hb,by decide⟩),EV1.o,by have:=LN1.o;have:=HMB.o;omega,(X1.o.more hW).keep t (by have:=HG.o;omega),?_⟩
         have h2:Turned (fun b=>b=g∨b=w.heap.size+1∨b=w.heap.size+1+1) w3 (W.setRow (w.heap.size+1+1) #[.slice a1 n1 c1]):=Turned.trans (hT.mono (fun k _ q=>by rcases q with q|q;exact .inl q;exact .inr (.inl q))) (t.mono (fun k _ q=> .inr (.inr q)))
         exact aw (F':=fun b=>b=g∨b=w.heap.size+1∨b=w.heap.size+1+1) (turned_more MM.o) h2 (fun k q=>by rcases q with q|q|q;exact .inl q;exact .inr (by omega);exact .inr (by omega))
        have B3R:=hQQ ((TR.o.block _ (af B3.o) (fun q=>by have:=HG.o;omega)).trans B3.o)
        go_wp2_with fail
        refine aq 3 (by kernel_rfl) (by kernel_rfl) ?_
        simp only[List.take_succ_cons,List.take_zero,List.drop_succ_cons,List.drop_zero]
        iterate 1
         with_reducible refine wpQuiet_step (fun K hK=>?_)
         go_simp
         first
         |(refine hK _ ?_;clear hK K)
         |(apply Exists.intro
           refine⟨fun W hW=>?_,hK _ ?_⟩
           first
           |(go_simp;try rfl)
           clear hK K)
        refine ae rfl 62 _ rfl _ rfl 62 _ _ _ (fun W hW=>hW.block HB2.o) Tryz.underlying62 rfl (by kernel_rfl) ?_
        iterate 1
         with_reducible refine wpQuiet_step (fun K hK=>?_)
         go_simp
         first
         |(refine hK _ ?_;clear hK K)
         |(apply Exists.intro
           refine⟨fun W hW=>?_,hK _ ?_⟩
           first
           |(go_simp;try rfl)
           clear hK K)
        refine wpQuiet_nil ?_
        intro wz hz
        have FB:=hQQ (FIN.o wz hz)
        have B8:=hQQ (hz.block B3R.o)
        clear hz FIN
        go_wp2_with (refine wpList_store_row rfl 62 _ _ rfl _ _ rfl rfl 62 _ B8.o (by kernel_rfl) rfl (by simp[Value.oneCell']) ?_)
        refine bodyPost_ret (v:=.tuple #[.int .i64 hd,.agg #[.slice a1 n1 c1],.bool true]) (ej Tryz.results59 _ _ _ 62 _ (0,0) _ rfl (setRow_heap _ _ _ _ _ _ B8.o) Tryz.underlying62 rfl (by kernel_rfl)) rfl FB.o
       ·have d1:decide ((j:Int)+1<c.ba)=false:=by simp[hq]
        -- what is handed back,behind the loop: the purse P1,words ws1
        have FIN:Hq (∀W,ac wr W→gz w g cap n0 res (.returned (.tuple #[.int .i64 hd,.agg #[.slice a1 n1 c1],.bool true])) (W.setRow (w.heap.size+1+1) #[.slice a1 n1 c1])):=hQQ fun W hW=>by
         rw[ER.o,em1]
         have hT:Turned (fun b=>b=g∨b=w.heap.size+1) w3 W:=Turned.trans TR.o (turned_more hW)
         have hb:=(hT.block _ (af B3.o) (fun q=>by have:=HG.o;omega)).trans B3.o
         have t:Turned (fun b=>b=w.heap.size+1+1) W (W.setRow (w.heap.size+1+1) #[.slice a1 n1 c1]):=Turned.setRow (Turned.refl _ W) _ _ (fun _=>rfl)
         refine⟨_,its1,rfl,(IR1.o.more hW).keep t (fun k q=>by subst q;exact⟨_,_,_,hb,by decide⟩),EV1.o,by have:=LN1.o;have:=HMB.o;omega,(X1.o.more hW).keep t (by have:=HG.o;omega),?_⟩
         have h2:Turned (fun b=>b=g∨b=w.heap.size+1∨b=w.heap.size+1+1) w3 (W.setRow (w.heap.size+1+1) #[.slice a1 n1 c1]):=Turned.trans (hT.mono (fun k _ q=>by rcases q with q|q;exact .inl q;exact .inr (.inl q))) (t.mono (fun k _ q=> .inr (.inr q)))
         exact aw (F':=fun b=>b=g∨b=w.heap.size+1∨b=w.heap.size+1+1) (turned_more MM.o) h2 (fun k q=>by rcases q with q|q|q;exact .inl q;exact .inr (by omega);exact .inr (by omega))
        have B3R:=hQQ ((TR.o.block _ (af B3.o) (fun q=>by have:=HG.o;omega)).trans B3.o)
        go_wp2_with fail
        refine aq 3 (by kernel_rfl) (by kernel_rfl) ?_
        simp only[List.take_succ_cons,List.take_zero,List.drop_succ_cons,List.drop_zero]
        iterate 1
         with_reducible refine wpQuiet_step (fun K hK=>?_)
         go_simp
         first
         |(refine hK _ ?_;clear hK K)
         |(apply Exists.intro
           refine⟨fun W hW=>?_,hK _ ?_⟩
           first
           |(go_simp;try rfl)
           clear hK K)
        refine ae rfl 62 _ rfl _ rfl 62 _ _ _ (fun W hW=>hW.block HB2.o) Tryz.underlying62 rfl (by kernel_rfl) ?_
        iterate 1
         with_reducible refine wpQuiet_step (fun K hK=>?_)
         go_simp
         first
         |(refine hK _ ?_;clear hK K)
         |(apply Exists.intro
           refine⟨fun W hW=>?_,hK _ ?_⟩
           first
           |(go_simp;try rfl)
           clear hK K)
        refine wpQuiet_nil ?_
        intro wz hz
        have FB:=hQQ (FIN.o wz hz)
        have B8:=hQQ (hz.block B3R.o)
        clear hz FIN
        go_wp2_with (refine wpList_store_row rfl 62 _ _ rfl _ _ rfl rfl 62 _ B8.o (by kernel_rfl) rfl (by simp[Value.oneCell']) ?_)
        refine bodyPost_ret (v:=.tuple #[.int .i64 hd,.agg #[.slice a1 n1 c1],.bool true]) (ej Tryz.results59 _ _ _ 62 _ (0,0) _ rfl (setRow_heap _ _ _ _ _ _ B8.o) Tryz.underlying62 rfl (by kernel_rfl)) rfl FB.o
def gj (c:Cfg)(ad:Int):Int:=fK c.cp c.pg c.st c.ca c.bi ad
def rt (at':Int)(ws:List Int):Int×Bool:=if at'=0∨wAt ws at'<1∨1048577<wAt ws at' then(0,false) else(wAt ws at' - 1,true)
def wJ (at' n:Int)(ws:List Int):Bool×List Int:=if at'=0∨n<0∨1048576<n then(false,ws) else(true,ws.set at'.toNat (n+1))
theorem mX {c:Cfg}(R:c.Ok)(ad:Int):0≤gj c ad∧gj c ad<c.words:=by
 have h1:=gG R
 have h2:=lf R
 have h3:=oE R
 have e:c.words=dH c.cp c.pg c.st c.ca c.bi:=rfl
 have e2:dH c.cp c.pg c.st c.ca c.bi=cT c.cp c.pg c.st c.ca c.bi+32 * c.pg:=rfl
 unfold gj fK
 split<;>omega
theorem DU {c:Cfg}(R:c.Ok)(ws:List Int)(H:dh c.pg c.st ws.length)(hww:(ws.length:Int)=c.words)(ok:OkW ws)(g cap:Nat)(ad:Int)(w:World)(hw:Ws w g cap ws):
 Calls Tryz.prog 63 #[.agg c.cells,.slice (some ⟨g,0,none⟩) ws.length cap,.int .i64 ad] w (aD w (.tuple #[.int .i64 (rt (gj c ad) ws).1,.bool (rt (gj c ad) ws).2])):=by
 obtain⟨la,hla⟩:∃la,gj c ad=la:=⟨_,rfl⟩
 have lb:=mX R ad
 rw[hww.symm,hla] at lb
 rw[hla]
 have YL:=hQQ (fun W=>show Calls Tryz.prog 62 #[.agg c.cells,.int .i64 ad] W (aD W (.int .i64 la)) from hla▸tU c.wk c.cp c.pg c.st c.tr c.wt c.ck c.pr c.ca c.bi c.ba W ad R)
 obtain⟨b,hb⟩:∃b:Nat,la=(b:Int):=⟨la.toNat,by omega⟩
 subst hb
 have hbl:b<ws.length:=by omega
 have hbli:(b:Int)<ws.length:=by omega
 have ev:wAt ws (b:Int)=ws.getD b 0:=rfl
 clear hla
 obtain⟨res,hres⟩:∃res,rt (b:Int) ws=res:=⟨_,rfl⟩
 rw[hres]
 unfold rt at hres
 rw[ev] at hres
 have hx:=hw.cell hbl
 have hwx: -9223372036854775808≤ws.getD b 0∧ws.getD b 0≤9223372036854775807:=by
  have:=ok (ws.getD b 0) (by rw[show ws.getD b 0=ws[b] by simp[List.getD,hbl]];exact List.getElem_mem hbl)
  unfold W64 at this;omega
 obtain⟨x,hxx⟩:∃x,ws.getD b 0=x:=⟨_,rfl⟩
 have XC:Hq (∀W,Ws W g cap ws→W.cell? ⟨g,b,none⟩=some (.int .i64 x)):=hQQ fun W hW=>by rw[←hxx];exact hW.cell hbl
 rw[hxx] at hres hwx
 clear ev hxx hx
 have hc:=aI w c.cells 27
 have HR:=hQQ R
 have HH:=hQQ H
 have hgl:=hw.lt
 obtain⟨w1,e1⟩:∃w1,w.alloc (.cells c.cells 27)=w1:=⟨_,rfl⟩
 have m1:ac w w1:=by rw[←e1];exact(ac.refl w).alloc _
 rw[e1] at hc
 have HC:=hQQ hc
 have HM:=hQQ m1
 have HW:=hQQ (hw.more m1)
 have x2:w1.cell? ⟨w.heap.size,2,none⟩=some (.int .i64 c.pg):=aB hc (ac.refl _) rfl
 have X2:=hQQ x2
 have pg1:=R.pg1
 have pg2:=R.pg2
 clear x2 m1 hw R H hc
 go_enter Tryz.func63,Tryz.ntmps63
 have M1:=hQQ (ac.refl w1)
 go_wp2_with (first|(refine aH rfl rfl rfl HC.o (by kernel_rfl) ?_)|(refine aH rfl rfl rfl HC.o (by kernel_rfl) ?_))
 refine(YL.o _).mono ?_
 rintro e w2 ⟨rfl,h2⟩
 have M2:=hQQ (M1.o.trans h2)
 clear h2
 clear e1
 by_cases hb0:b=0
 ·subst hb0
  rw[if_pos (.inl rfl)] at hres
  have HRES:=hQQ hres.symm
  clear hres
  have FIN:=hQQ (HM.o.trans M2.o)
  go_wp2_with fail
  go_ret2
  exact⟨by rw[HRES.o];rfl,FIN.o⟩
 ·have d0:decide ((b:Int)=0)=false:=by simp;omega
  have x2':=XC.o _ (HW.o.more M2.o)
  by_cases h1:x<1
  ·have d1:decide (x<1)=true:=by simp[h1]
   rw[if_pos (.inr (.inl h1))] at hres
   have HRES:=hQQ hres.symm
   clear hres
   have FIN:=hQQ (HM.o.trans M2.o)
   go_wp2_with fail
   go_ret2
   exact⟨by rw[HRES.o];rfl,FIN.o⟩
  ·have d1:decide (x<1)=false:=by simp;omega
   by_cases h2:1048577<x
   ·have d2:decide (1048577<x)=true:=by simp[h2]
    rw[if_pos (.inr (.inr h2))] at hres
    have HRES:=hQQ hres.symm
    clear hres
    have FIN:=hQQ (HM.o.trans M2.o)
    go_wp2_with fail
    go_ret2
    exact⟨by rw[HRES.o];rfl,FIN.o⟩
   ·have d2:decide (1048577<x)=false:=by simp;omega
    rw[if_neg (by omega)] at hres
    have q9:IntKind.i64.wrap (x-1)=x-1:=aj (by omega) (by omega)
    have HRES:=hQQ hres.symm
    clear hres
    have FIN:=hQQ (HM.o.trans M2.o)
    go_wp2_with fail
    go_ret2
    exact⟨by rw[HRES.o];rfl,FIN.o⟩
theorem zT {c:Cfg}(R:c.Ok)(ws:List Int)(H:dh c.pg c.st ws.length)(hww:(ws.length:Int)=c.words)(g cap:Nat)(ad n:Int)(w:World)(hw:Ws w g cap ws):
 Calls Tryz.prog 27 #[.agg c.cells,.slice (some ⟨g,0,none⟩) ws.length cap,.int .i64 ad,.int .i64 n] w (vZ w g cap (.bool (wJ (gj c ad) n ws).1) (wJ (gj c ad) n ws).2):=by
 obtain⟨la,hla⟩:∃la,gj c ad=la:=⟨_,rfl⟩
 have lb:=mX R ad
 rw[hww.symm,hla] at lb
 rw[hla]
 have YL:=hQQ (fun W=>show Calls Tryz.prog 62 #[.agg c.cells,.int .i64 ad] W (aD W (.int .i64 la)) from hla▸tU c.wk c.cp c.pg c.st c.tr c.wt c.ck c.pr c.ca c.bi c.ba W ad R)
 obtain⟨b,hb⟩:∃b:Nat,la=(b:Int):=⟨la.toNat,by omega⟩
 subst hb
 have hbl:b<ws.length:=by omega
 have hbli:(b:Int)<ws.length:=by omega
 have ev:wAt ws (b:Int)=ws.getD b 0:=rfl
 clear hla
 obtain⟨res,hres⟩:∃res,wJ (b:Int) n ws=res:=⟨_,rfl⟩
 rw[hres]
 unfold wJ at hres
 clear ev
 have hc:=aI w c.cells 27
 have HR:=hQQ R
 have HH:=hQQ H
 have hgl:=hw.lt
 obtain⟨w1,e1⟩:∃w1,w.alloc (.cells c.cells 27)=w1:=⟨_,rfl⟩
 have m1:ac w w1:=by rw[←e1];exact(ac.refl w).alloc _
 rw[e1] at hc
 have HC:=hQQ hc
 have HM:=hQQ m1
 have HW:=hQQ (hw.more m1)
 have x2:w1.cell? ⟨w.heap.size,2,none⟩=some (.int .i64 c.pg):=aB hc (ac.refl _) rfl
 have X2:=hQQ x2
 have pg1:=R.pg1
 have pg2:=R.pg2
 clear x2 m1 hw R H hc
 go_enter Tryz.func27,Tryz.ntmps27
 have M1:=hQQ (ac.refl w1)
 go_wp2_with (first|(refine aH rfl rfl rfl HC.o (by kernel_rfl) ?_)|(refine aH rfl rfl rfl HC.o (by kernel_rfl) ?_))
 refine(YL.o _).mono ?_
 rintro e w2 ⟨rfl,h2⟩
 have M2:=hQQ (M1.o.trans h2)
 clear h2
 clear e1
 by_cases hb0:b=0
 ·subst hb0
  rw[if_pos (.inl rfl)] at hres
  have HRES:=hQQ hres.symm
  clear hres
  go_wp2_with fail
  go_ret
  exact⟨by rw[HRES.o];rfl,by rw[HRES.o];exact HW.o.more M2.o,turned_more (HM.o.trans M2.o)⟩
 ·have d0:decide ((b:Int)=0)=false:=by simp;omega
  by_cases h1:n<0
  ·have d1:decide (n<0)=true:=by simp[h1]
   rw[if_pos (.inr (.inl h1))] at hres
   have HRES:=hQQ hres.symm
   clear hres
   go_wp2_with fail
   go_ret
   exact⟨by rw[HRES.o];rfl,by rw[HRES.o];exact HW.o.more M2.o,turned_more (HM.o.trans M2.o)⟩
  ·have d1:decide (n<0)=false:=by simp;omega
   by_cases h2:1048576<n
   ·have d2:decide (1048576<n)=true:=by simp[h2]
    rw[if_pos (.inr (.inr h2))] at hres
    have HRES:=hQQ hres.symm
    clear hres
    go_wp2_with fail
    go_ret
    exact⟨by rw[HRES.o];rfl,by rw[HRES.o];exact HW.o.more M2.o,turned_more (HM.o.trans M2.o)⟩
   ·have d2:decide (1048576<n)=false:=by simp;omega
    rw[if_neg (by omega)] at hres
    have q9:IntKind.i64.wrap (n+1)=n+1:=aj (by omega) (by omega)
    have HRES:=hQQ hres.symm
    have HC2:=hQQ (M2.o.block HC.o)
    clear hres
    go_wp2_with (first|(refine aH rfl rfl rfl HC2.o (by kernel_rfl) ?_)|(refine aH rfl rfl rfl HC2.o (by kernel_rfl) ?_))
    refine(YL.o _).mono ?_
    rintro e w3 ⟨rfl,h3⟩
    have M3:=hQQ (M2.o.trans h3)
    clear h3
    have X3:=hQQ (HW.o.more M3.o)
    have T3:Hq (Turned (fun b=>b=g) w1 w3):=hQQ (turned_more M3.o)
    have c4:=X3.o.cell (i:=b) hbl
    have f4:=X3.o.froz b
    have l4:=X3.o.lt
    obtain⟨w4,e4⟩:∃w4,World.setCell w3 ⟨g,b,none⟩ (.int .i64 (n+1))=w4:=⟨_,rfl⟩
    have X4:Hq (Ws w4 g cap (ws.set b (n+1))):=hQQ (by rw[←e4];exact X3.o.set hbl _)
    have T4:Hq (Turned (fun b=>b=g) w1 w4):=hQQ (by rw[←e4];exact Turned.setCell T3.o _ _ (fun _=>rfl))
    go_wp2_with fail
    go_ret
    exact⟨by rw[HRES.o];rfl,by rw[HRES.o];exact X4.o,Turned.trans (turned_more HM.o) T4.o⟩
structure TS where
 bl:Int
 ak:Int
 wo:Int
 ke:Int
 op:Int
 ma:Int
 us:Int
def TS.arr (s:TS):Array Value:= #[.int .i64 s.bl,.int .i64 s.ak,.int .i64 s.wo,.int .i64 s.ke,.int .i64 s.op,.int .i64 s.ma,.int .i64 s.us]
def bj (a b:TS):TS:=⟨Go.RowKit.wrap64 (a.bl+b.bl),Go.RowKit.wrap64 (a.ak+b.ak),Go.RowKit.wrap64 (a.wo+b.wo),Go.RowKit.wrap64 (a.ke+b.ke),Go.RowKit.wrap64 (a.op+b.op),Go.RowKit.wrap64 (a.ma+b.ma),Go.RowKit.wrap64 (a.us+b.us)⟩
def noT:TS:=⟨0,0,0,0,0,0,0⟩
def BB (y:Int×Bool)(n:Int):TS:=if y.2 then⟨1,y.1,n,0,0,0,0⟩ else⟨0,0,0,n,0,0,0⟩
def zU (x:Int):Int×Bool:=if x<1∨1048577<x then(0,false) else(x-1,true)
def fF (c:Cfg)(q:Int):Int:=jk c.cp c.pg c.st c.ca c.bi q
def pS (la:Int):Prg (Int×Bool):=if la=0 then aL (0,false) else aJ (dE la) (fun x=>aL (zU x))
def mY (c:Cfg)(a n:Int):Prg TS:=aJ (pS (gj c a)) (fun y=>aL (BB y n))
def pT (c:Cfg)(a z:Int):List Int→TS→Prg TS
 | [],s=>aL s
 |i::l,s=>aJ (mY c (Go.RowKit.wrap64 (a+Go.RowKit.wrap64 (z * i))) z) (fun t=>pT c a z l (bj s t))
def wK (k x:Int):TS:=⟨0,0,0,0,Go.RowKit.wrap64 (szV k * (am k-(iL x (am k)).length)),0,0⟩
def tv (c:Cfg)(q k:Int):Prg TS:=aJ (dE (bA c.pg c.st q)) (fun x=>pT c (fF c q) (szV k) (iL x (am k)) (wK k x))
def mZ (c:Cfg)(q k:Int):Prg TS :=
 if k=6 then aJ (dE (cA c.pg c.st q)) (fun x=>mY c (fF c q) (Go.RowKit.wrap64 (32 * x)))
 else if 1≤k∧k≤5 then tv c q (k-1) else aL noT
def na (s:TS)(b:Bool)(k:Int):TS:= { s with ma:=b2i b,us:=b2i (k != 0) }
def nC (c:Cfg)(q:Int):Prg TS:=if ah c.pg q then aJ (ff c.pg c.st q) (fun k=>aJ (mZ c q k) (fun s=>aJ (fu c.pg c.st q 1) (fun b=>aL (na s b k)))) else aL noT
def pU (c:Cfg):Nat→Int→TS→Prg TS
 | 0,_,s=>aL s
 |m+1,q,s=>aJ (nC c q) (fun t=>pU c m (q+1) (bj s t))
def pV (c:Cfg):Prg TS:=pU c c.pg.toNat 0 noT
theorem wL (la:Int):dS (pS la):=eJ (cj _) (cS (fX _) (fun _=>cj _))
theorem ou (c:Cfg)(a n:Int):dS (mY c a n):=cS (wL _) (fun _=>cj _)
theorem ng (c:Cfg)(a z:Int):∀(l:List Int) (s:TS),dS (pT c a z l s)
 | [],_=>cj _
 |i::l,s=>cS (ou _ _ _) (fun _=>ng c a z l _)
theorem wM (c:Cfg)(q k:Int):dS (tv c q k):=cS (fX _) (fun _=>ng _ _ _ _ _)
theorem wN (c:Cfg)(q k:Int):dS (mZ c q k):=eJ (cS (fX _) (fun _=>ou _ _ _)) (eJ (wM _ _ _) (cj _))
theorem wO (c:Cfg)(q:Int):dS (nC c q):=eJ (cS (sF _ _ _) (fun _=>cS (wN _ _ _) (fun _=>cS (o7 _ _ _ _) (fun _=>cj _)))) (cj _)
theorem nh (c:Cfg):∀(m:Nat) (q:Int) (s:TS),dS (pU c m q s)
 | 0,_,_=>cj _
 |m+1,q,s=>cS (wO _ _) (fun _=>nh c m _ _)
theorem wP (c:Cfg):dS (pV c):=nh _ _ _ _
def zV (c:Cfg)(a n:Int)(ws:List Int):TS:=BB (rt (gj c a) ws) n
def zW (c:Cfg)(a z:Int)(ws:List Int):List Int→TS→TS
 | [],s=>s
 |i::l,s=>zW c a z ws l (bj s (zV c (Go.RowKit.wrap64 (a+Go.RowKit.wrap64 (z * i))) z ws))
def zX (c:Cfg)(q k:Int)(ws:List Int):TS :=
 if k=6 then zV c (fF c q) (Go.RowKit.wrap64 (32 * wAt ws (cA c.pg c.st q))) ws
 else if 1≤k∧k≤5 then zW c (fF c q) (szV (k-1)) ws (iL (wAt ws (bA c.pg c.st q)) (am (k-1))) (wK (k-1) (wAt ws (bA c.pg c.st q))) else noT
def C7 (c:Cfg)(q:Int)(ws:List Int):TS:=if ah c.pg q then na (zX c q (aE c.pg c.st ws q) ws) (pi c.pg c.st q 1 ws) (aE c.pg c.st ws q) else noT
def tlN (c:Cfg)(ws:List Int):Nat→Int→TS→TS
 | 0,_,s=>s
 |m+1,q,s=>tlN c ws m (q+1) (bj s (C7 c q ws))
def tlV (c:Cfg)(ws:List Int):TS:=tlN c ws c.pg.toNat 0 noT
section
variable {c:Cfg}(R:c.Ok){n:Nat}(H:PgIn c.pg c.st n)(hw:(n:Int)=c.words)
include R H hw
theorem ru (a:Int):fa n (fun _=>True) (pS (gj c a)):=iJ (fun _=>cy n trivial) (fun _=>cY (dY n (by have:=mX R a;omega)) (fun _ _=>cy n trivial))
theorem kp (a m:Int):fa n (fun _=>True) (mY c a m):=cY (ru R H hw a) (fun _ _=>cy n trivial)
theorem ov (a z:Int):∀(l:List Int) (s:TS),fa n (fun _=>True) (pT c a z l s)
 | [],_=>cy n trivial
 |i::l,s=>cY (kp R H hw _ _) (fun _ _=>ov a z l _)
theorem rx {q:Int}(hq:ah c.pg q=true)(k:Int):fa n (fun _=>True) (tv c q k):=cY (dY n (cH H hq).2.2.2.1) (fun _ _=>ov R H hw _ _ _ _)
theorem ry {q:Int}(hq:ah c.pg q=true)(k:Int):fa n (fun _=>True) (mZ c q k):=iJ (fun _=>cY (dY n (cH H hq).2.1.2.1) (fun _ _=>kp R H hw _ _)) (fun _=>iJ (fun _=>rx R H hw hq _) (fun _=>cy n trivial))
theorem rz (q:Int):fa n (fun _=>True) (nC c q):=iJ (fun hq=>cY (nX H q) (fun _ _=>cY (ry R H hw hq _) (fun _ _=>cY (lm H.toTblIn q 1) (fun _ _=>cy n trivial)))) (fun _=>cy n trivial)
theorem ow:∀(m:Nat) (q:Int) (s:TS),fa n (fun _=>True) (pU c m q s)
 | 0,_,_=>cy n trivial
 |m+1,q,s=>cY (rz R H hw q) (fun _ _=>ow m _ _)
theorem rA:fa n (fun _=>True) (pV c):=ow R H hw _ _ _
theorem zY (a:Int):bL n (pS (gj c a)) (fun ws=>(rt (gj c a) ws,ws)):=by
 have hb:=mX R a
 by_cases h:gj c a=0
 ·unfold pS;rw[if_pos h]
  exact bg (az n _) (fun ws _=>by unfold rt;rw[if_pos (.inl h)])
 ·unfold pS;rw[if_neg h]
  refine bg (aC (cZ hb.1 (by omega)) (fun x=>az n (zU x))) (fun ws _=>?_)
  unfold rt zU
  by_cases h2:wAt ws (gj c a)<1∨1048577<wAt ws (gj c a)
  ·rw[if_pos h2,if_pos (.inr h2)]
  ·rw[if_neg h2,if_neg (by omega)]
theorem rB (a m:Int):bL n (mY c a m) (fun ws=>(zV c a m ws,ws)):=aC (zY R H hw a) (fun y=>az n (BB y m))
theorem ox (a z:Int):∀(l:List Int) (s:TS),bL n (pT c a z l s) (fun ws=>(zW c a z ws l s,ws))
 | [],s=>az n s
 |i::l,s=>aC (rB R H hw _ _) (fun t=>ox a z l (bj s t))
theorem zZ {q:Int}(hq:ah c.pg q=true)(k:Int):bL n (mZ c q k) (fun ws=>(zX c q k ws,ws)):=by
 have hb:=cH H hq
 unfold mZ zX
 by_cases h:k=6
 ·simp only[if_pos h]
  exact aC (cZ (by have:=hb.2.1.1;omega) hb.2.1.2.1) (fun x=>rB R H hw (fF c q) (Go.RowKit.wrap64 (32 * x)))
 ·simp only[if_neg h]
  by_cases h2:1≤k∧k≤5
  ·simp only[if_pos h2]
   exact aC (cZ (by have:=hb.2.2.1;omega) hb.2.2.2.1) (fun x=>ox R H hw (fF c q) (szV (k-1)) (iL x (am (k-1))) (wK (k-1) x))
  ·simp only[if_neg h2]
   exact az n _
theorem z8 (q:Int):bL n (nC c q) (fun ws=>(C7 c q ws,ws)):=by
 unfold nC C7
 cases hq:ah c.pg q with
 |false=>exact az n _
 |true=>exact aC (jb H q) (fun k=>aC (zZ R H hw hq k) (fun s=>aC (qF H.toTblIn q 1) (fun b=>az n (na s b k))))
theorem oy:∀(m:Nat) (q:Int) (s:TS),bL n (pU c m q s) (fun ws=>(tlN c ws m q s,ws))
 | 0,_,s=>az n s
 |m+1,q,s=>aC (z8 R H hw q) (fun t=>oy m (q+1) (bj s t))
theorem z9:bL n (pV c) (fun ws=>(tlV c ws,ws)):=oy R H hw _ _ _
end
theorem dJ (s:TS):s.arr.all (·.oneCell')=true:=by simp[TS.arr,Value.oneCell']
theorem fG {w:World}{g:Nat}(s:TS){t:TypeId}(h:w.heap[g]?=some (.cells s.arr t (0,0))):
 w.cell? ⟨g,0,none⟩=some (.int .i64 s.bl)∧w.cell? ⟨g,1,none⟩=some (.int .i64 s.ak)∧w.cell? ⟨g,2,none⟩=some (.int .i64 s.wo)∧w.cell? ⟨g,3,none⟩=some (.int .i64 s.ke)∧w.cell? ⟨g,4,none⟩=some (.int .i64 s.op)∧w.cell? ⟨g,5,none⟩=some (.int .i64 s.ma)∧w.cell? ⟨g,6,none⟩=some (.int .i64 s.us):=by
 simp[World.cell?,h,TS.arr]
theorem kr (a b:TS)(w:World):Calls Tryz.prog 20 #[.agg a.arr,.agg b.arr] w (aD w (.agg (bj a b).arr)):=by
 obtain⟨w3,e3,h0,h1,h2,m3,s3⟩:=kE w (.cells a.arr 38) (.cells b.arr 38) (.cells #[.int .i64 0,.int .i64 0,.int .i64 0,.int .i64 0,.int .i64 0,.int .i64 0,.int .i64 0] 38)
 obtain⟨a0,a1,a2,a3,a4,a5,a6⟩:=fG a h0
 obtain⟨b0,b1,b2,b3,b4,b5,b6⟩:=fG b h1
 have H2:=hQQ h2
 have MM:=hQQ m3
 clear h0 h1 h2 m3 s3
 go_enter Tryz.func20,Tryz.ntmps20
 go_wp2_with (refine wpList_store_row rfl 38 _ _ rfl (w.heap.size+2) (bj a b).arr rfl rfl 38 _ H2.o (by kernel_rfl) rfl (dJ _) ?_)
 refine bodyPost_ret (v:=.agg (bj a b).arr) (results_cell_row Tryz.results20 _ _ _ 38 _ (0,0) _ rfl (setRow_heap _ _ _ _ _ _ H2.o) Tryz.underlying38 rfl (by kernel_rfl)) rfl ⟨rfl,MM.o.setRow _ _ (by omega)⟩
theorem BE (a b:TS)(w:World):Calls Tryz.prog 21 #[.agg a.arr,.agg b.arr] w (aD w (.agg (bj a b).arr)):=by
 obtain⟨w3,e3,h0,h1,h2,m3,s3⟩:=kE w (.cells a.arr 38) (.cells b.arr 38) (.cells #[.int .i64 0,.int .i64 0,.int .i64 0,.int .i64 0,.int .i64 0,.int .i64 0,.int .i64 0] 38)
 obtain⟨a0,a1,a2,a3,a4,a5,a6⟩:=fG a h0
 obtain⟨b0,b1,b2,b3,b4,b5,b6⟩:=fG b h1
 have H2:=hQQ h2
 have MM:=hQQ m3
 clear h0 h1 h2 m3 s3
 go_enter Tryz.func21,Tryz.ntmps21
 go_wp2_with (refine wpList_store_row rfl 38 _ _ rfl (w.heap.size+2) (bj a b).arr rfl rfl 38 _ H2.o (by kernel_rfl) rfl (dJ _) ?_)
 refine bodyPost_ret (v:=.agg (bj a b).arr) (results_cell_row Tryz.results21 _ _ _ 38 _ (0,0) _ rfl (setRow_heap _ _ _ _ _ _ H2.o) Tryz.underlying38 rfl (by kernel_rfl)) rfl ⟨rfl,MM.o.setRow _ _ (by omega)⟩
theorem Ci (b:Bool)(w:World):Calls Tryz.prog 40 #[.bool b] w (aD w (.int .i64 (b2i b))):=by
 cases b with
 |true =>
  go_enter Tryz.func40,Tryz.ntmps40
  go_wp2_with fail
  go_ret
  exact⟨rfl,ac.refl _⟩
 |false =>
  go_enter Tryz.func40,Tryz.ntmps40
  go_wp2_with fail
  go_ret
  exact⟨rfl,ac.refl _⟩
def wQ (z:Int):Bool:=decide (0≤z) && decide (z≤1048576)
theorem Cj (z:Int)(w:World):Calls Tryz.prog 92 #[.int .i64 z] w (aD w (.bool (wQ z))):=by
 have hm:wQ z=(decide (0≤z) && decide (z≤1048576)):=rfl
 rw[hm]
 clear hm
 by_cases h:0≤z
 ·have d1:decide (0≤z)=true:=by simp[h]
  rw[d1,Bool.true_and]
  go_enter Tryz.func92,Tryz.ntmps92
  go_wp2_with fail
  go_ret
  exact⟨rfl,ac.refl _⟩
 ·have d1:decide (0≤z)=false:=by simp[h]
  rw[d1,Bool.false_and]
  go_enter Tryz.func92,Tryz.ntmps92
  go_wp2_with fail
  go_ret
  exact⟨rfl,ac.refl _⟩
theorem C8 {x:Int}(h:W64 x)(q:x<1∨1048577<x):wQ (wrap64 (x-1))=false∧zU x=(0,false):=by
 refine⟨?_,if_pos q⟩
 unfold W64 at h
 simp only[wQ,wrap64,Bool.and_eq_false_iff,decide_eq_false_iff_not]
 omega
theorem BF {x:Int}(q:¬(x<1∨1048577<x)):wrap64 (x-1)=x-1∧wQ (x-1)=true∧zU x=(x-1,true):=by
 refine⟨?_,?_,if_neg q⟩
 ·unfold wrap64;omega
 ·simp only[wQ,Bool.and_eq_true,decide_eq_true_eq];omega
def vIB:Int×Bool→Value:=fun y=> .tuple #[.int .i64 y.1,.bool y.2]
theorem Da {c:Cfg}(R:c.Ok){n:Nat}(H:PgIn c.pg c.st n)(hw:(n:Int)=c.words)(hn:n≤10000)(F:Nat→Prop)(p:Nat)(kn:Int→Option Int)(D:List KV)(a:Int)(w:World)(hv:bB w F p kn D)(hk:OkK kn)(hD:eF n D):
 Calls Tryz.prog 55 #[.pointer (some ⟨p,0,none⟩),.agg c.arr,.int .i64 a] w (aZ w F p kn vIB (pS (gj c a) kn D)):=by
 obtain⟨Rr,hRr⟩:∃Rr,pS (gj c a) kn D=Rr:=⟨_,rfl⟩
 rw[hRr]
 have lb:=mX R a
 have YL:=hQQ (fun W=>show Calls Tryz.prog 91 #[.agg c.arr,.int .i64 a] W (aD W (.int .i64 (gj c a))) from Dv R W a)
 generalize gj c a=la at hRr YL lb
 have GR:=hQQ (dY n (a:=la) (by omega))
 obtain⟨w1,e1,hl1,m1,s1⟩:=dw w (.cells c.arr 33)
 have nFl:¬F w.heap.size:=fun q=>by have:=hv.lt _ q;omega
 have MM:=hQQ m1
 have L0:=hQQ hl1
 have M0:=m0Z (hv.more m1) hD
 have KL:=klZ (p:=p) (kn:=kn) (n:=n) L0.o nFl
 have NEED:=ndZ (F:=F) (p:=p) (kn:=kn) (R:=Rr) vIB MM.o
 have DONE:=dnZ (F:=F) (p:=p) (n:=n) (kn:=kn) (R:=Rr) vIB MM.o
 have HK:=hQQ hk
 have HR:=hQQ R
 have HH:=hQQ H
 clear hl1 m1 hv hD hk R H nFl
 unfold pS at hRr
 by_cases hz:la=0
 ·rw[if_pos hz] at hRr
  have d1:(la==0)=true:=by simp[hz]
  have FIN:Hq (∀w2,ac w1 w2→aZ w F p kn vIB Rr (.returned (.tuple #[.int .i64 0,.bool false])) w2):=hQQ fun w2 m=>DONE.o (0,false) w2 D F hRr.symm (M0.o.more m)
  clear hRr hz lb
  go_enter Tryz.func55,Tryz.ntmps55
  go_wp2_with (first|(refine cL rfl rfl rfl L0.o (by kernel_rfl) ?_)|(refine cL rfl rfl rfl L0.o (by kernel_rfl) ?_))
  refine(YL.o _).mono ?_
  rintro e w2 ⟨rfl,h2⟩
  have H2:=hQQ h2
  clear h2
  go_wp2_with fail
  go_ret2
  exact FIN.o _ H2.o
 ·rw[if_neg hz] at hRr
  have d1:(la==0)=false:=by simp[hz]
  have HRr:=hQQ hRr
  have hla:W64 la:=by unfold W64;omega
  have HLA:=hQQ hla
  clear hRr hz lb hla
  go_enter Tryz.func55,Tryz.ntmps55
  go_wp2_with (first|(refine cL rfl rfl rfl L0.o (by kernel_rfl) ?_)|(refine cL rfl rfl rfl L0.o (by kernel_rfl) ?_))
  refine(YL.o _).mono ?_
  rintro e w2 ⟨rfl,h2⟩
  have M2:=hQQ (M0.o.more h2)
  clear h2
  go_wp2_with fail
  refine(jY F p kn D la w2 M2.o.view HLA.o).mono ?_
  intro e w3 he
  rcases M2.o.step (ac.refl _) HK.o GR.o he with⟨a',hE,rfl,hd',ht',_⟩|⟨x3,D3,F3,hE,rfl,M3,hq3,_,_⟩
  ·exact⟨rfl,NEED.o a' w3 (HRr.o.symm.trans (bP hE)) hd' ht'⟩
  have L3:=hQQ (KL.o _ _ _ M3)
  have R3:=hQQ ((bK hE).symm.trans HRr.o)
  have M3:=hQQ M3
  clear he hE
  have W3:=hQQ hq3
  by_cases hx:x3<1∨1048577<x3
  ·obtain⟨q1,q2⟩:=C8 hq3 hx
   have TM:=hQQ (fun W=>show Calls Tryz.prog 92 #[.int .i64 (wrap64 (x3-1))] W (aD W (.bool false)) from q1▸Cj _ W)
   have FIN:Hq (∀w2,ac w3 w2→aZ w F p kn vIB Rr (.returned (.tuple #[.int .i64 0,.bool false])) w2):=hQQ fun w2 m=>DONE.o (0,false) w2 D3 F3 (R3.o.symm.trans (by rw[q2];rfl)) (M3.o.more m)
   clear hx hq3 q1 q2
   go_wp2_with fail
   refine(TM.o _).mono ?_
   rintro e w4 ⟨rfl,h4⟩
   have H4:=hQQ h4
   clear h4
   go_wp2_with fail
   go_ret2
   exact FIN.o _ H4.o
  ·obtain⟨q0,q1,q2⟩:=BF hx
   have q0:IntKind.i64.wrap (x3-1)=x3-1:=aj (by omega) (by omega)
   have TM:=hQQ (fun W=>show Calls Tryz.prog 92 #[.int .i64 (x3-1)] W (aD W (.bool true)) from q1▸Cj _ W)
   have FIN:Hq (∀w2,ac w3 w2→aZ w F p kn vIB Rr (.returned (.tuple #[.int .i64 (x3-1),.bool true])) w2):=hQQ fun w2 m=>DONE.o (x3-1,true) w2 D3 F3 (R3.o.symm.trans (by rw[q2];rfl)) (M3.o.more m)
   clear hx hq3 q1 q2
   go_wp2_with fail
   refine(TM.o _).mono ?_
   rintro e w4 ⟨rfl,h4⟩
   have H4:=hQQ h4
   clear h4
   go_wp2_with fail
   go_ret2
   exact FIN.o _ H4.o
def vTS:TS→Value:=fun s=> .agg s.arr
theorem uI {c:Cfg}(R:c.Ok){n:Nat}(H:PgIn c.pg c.st n)(hw:(n:Int)=c.words)(hn:n≤10000)(F:Nat→Prop)(p:Nat)(kn:Int→Option Int)(D:List KV)(a m:Int)(w:World)(hv:bB w F p kn D)(hk:OkK kn)(hD:eF n D):
 Calls Tryz.prog 77 #[.pointer (some ⟨p,0,none⟩),.agg c.arr,.int .i64 a,.int .i64 m] w (aZ w F p kn vTS (mY c a m kn D)):=by
 obtain⟨Rr,hRr⟩:∃Rr,mY c a m kn D=Rr:=⟨_,rfl⟩
 rw[hRr]
 have GS:=hQQ (ru R H hw a)
 obtain⟨w1,e1,hl1,hr1,m1,s1⟩:=kD w (.cells c.arr 33) (.cells #[.int .i64 0,.int .i64 0,.int .i64 0,.int .i64 0,.int .i64 0,.int .i64 0,.int .i64 0] 38)
 have nFl:¬F w.heap.size:=fun q=>by have:=hv.lt _ q;omega
 have nFr:¬F (w.heap.size+1):=fun q=>by have:=hv.lt _ q;omega
 have MM:=hQQ m1
 have L0:=hQQ hl1
 have C0:=hQQ hr1
 have M0:=m0Z (hv.more m1) hD
 have KL:=klZ (p:=p) (kn:=kn) (n:=n) L0.o nFl
 have KC:Hq (∀wr D' F',MidV w1 wr F (fun _=>False) p kn n D' F'→wr.heap[w.heap.size+1]?=some (.cells #[.int .i64 0,.int .i64 0,.int .i64 0,.int .i64 0,.int .i64 0,.int .i64 0,.int .i64 0] 38 (0,0))):=hQQ fun wr D' F' h=>i7 h C0.o nFr (fun q=>q)
 have NEED:=ndZ (F:=F) (p:=p) (kn:=kn) (R:=Rr) vTS MM.o
 have DONE:Hq (∀(x:TS) w2 D' F',Rr=.ok x D'→MidV w1 w2 F (fun _=>False) p kn n D' F'→aZ w F p kn vTS Rr (.returned (.agg x.arr)) (w2.setRow (w.heap.size+1) x.arr)):=hQQ fun x w2 D' F' e h=>iP (g:=w.heap.size+1) MM.o h e (by omega) (by have:=af C0.o;omega) nFr (KC.o _ _ _ h) (Turned.setRow (Turned.refl _ w2) _ _ (fun _=>rfl))
 have HK:=hQQ hk
 have HR:=hQQ R
 have HH:=hQQ H
 clear hl1 hr1 m1 hv hD hk R H nFl nFr
 have SZ:=hQQ (Da HR.o HH.o hw hn F p kn D a w1 M0.o.view HK.o M0.o.inv)
 unfold mY at hRr
 have HRr:=hQQ hRr
 clear hRr hw
 go_enter Tryz.func77,Tryz.ntmps77
 go_wp2_with (first|(refine cL rfl rfl rfl L0.o (by kernel_rfl) ?_)|(refine cL rfl rfl rfl L0.o (by kernel_rfl) ?_))
 clear e1
 refine(SZ.o).mono ?_
 intro e w3 he
 rcases M0.o.step (ac.refl _) HK.o GS.o he with⟨a',hE,rfl,hd',ht',_⟩|⟨x3,D3,F3,hE,rfl,M3,hq3,_,_⟩
 ·exact⟨rfl,NEED.o a' w3 (HRr.o.symm.trans (bP hE)) hd' ht'⟩
 have L3:=hQQ (KL.o _ _ _ M3)
 have R3:=hQQ ((bK hE).symm.trans HRr.o)
 have M3:=hQQ M3
 clear he hE
 have C3:=hQQ (KC.o _ _ _ M3.o)
 have FIN:=hQQ (DONE.o (BB x3 m) w3 D3 F3 R3.o.symm M3.o)
 obtain⟨z,b⟩:=x3
 simp only[vIB]
 cases b with
 |true =>
  go_wp2_with (refine wpList_store_row rfl 38 _ _ rfl (w.heap.size+1) (TS.arr (⟨1,z,m,0,0,0,0⟩:TS)) rfl rfl 38 _ C3.o (by kernel_rfl) rfl (dJ _) ?_)
  refine bodyPost_ret (v:=.agg (TS.arr (⟨1,z,m,0,0,0,0⟩:TS))) (results_cell_row Tryz.results77 _ _ _ 38 _ (0,0) _ rfl (setRow_heap _ _ _ _ _ _ C3.o) Tryz.underlying38 rfl (by kernel_rfl)) rfl FIN.o
 |false =>
  go_wp2_with (refine wpList_store_row rfl 38 _ _ rfl (w.heap.size+1) (TS.arr (⟨0,0,0,m,0,0,0⟩:TS)) rfl rfl 38 _ C3.o (by kernel_rfl) rfl (dJ _) ?_)
  refine bodyPost_ret (v:=.agg (TS.arr (⟨0,0,0,m,0,0,0⟩:TS))) (results_cell_row Tryz.results77 _ _ _ 38 _ (0,0) _ rfl (setRow_heap _ _ _ _ _ _ C3.o) Tryz.underlying38 rfl (by kernel_rfl)) rfl FIN.o
section
variable {P:Program}{ops:Array Oper}{md:Region.Mode}{C:World→Prop}{L:Nat}{Q:Exit→Act→World→Prop}
def jM (P:Program)(md:Region.Mode)(ops:Array Oper)(C:World→Prop)(L:Nat)(Q:Exit→Act→World→Prop):Nat→Array Bool→Act→World→Prop
 | 0,d,a,w=>Region.ready md ops d= []∧Q .normal a w
 |f+1,d,a,w=>(Region.ready md ops d= []→Q .normal a w)∧∀i∈Region.ready md ops d,wpOp P ops Q i (fun a' w'=>((d.setIfInBounds i true).getD L true=true∨C w')∧jM P md ops C L Q f (d.setIfInBounds i true) a' w') a w
theorem Aa:∀(f:Nat) (d:Array Bool) (a:Act) (w:World),jM P md ops C L Q f d a w→wpAny P md ops Q f d a w:=by
 intro f
 induction f with
 |zero=>intro d a w h;exact h
 |succ f ih=>intro d a w h;exact⟨h.1,fun i hi=>wpOp_mono (fun a' w' z=>ih _ a' w' z.2) (h.2 i hi)⟩
def uJ (md:Region.Mode)(ops:Array Oper)(L i:Nat):Bool :=
 match ops[L]? with
 |some o=>o.after.any fun e=>Region.binds md e && e.on==i
 |none=>false
theorem tw {i:Nat}(h:uJ md ops L i=true){d:Array Bool}(hL:L∈Region.ready md ops d)(hun:d.getD i true=false):False:=by
 obtain⟨_,o,ho,hall⟩:=mem_ready.1 hL
 unfold uJ at h
 rw[ho] at h
 rw[Array.any_eq_true] at h
 obtain⟨k,hk,hb⟩:=h
 simp only[Bool.and_eq_true,beq_iff_eq] at hb
 have h3:=hall o.after[k] (Array.getElem_mem hk) hb.1
 rw[hb.2,getD_both hun] at h3
 cases h3
theorem tx {i:Nat}{oi:Oper}{v:Value}(hne:i≠L)(hL:uJ md ops L i=true)(hi:ops[i]?=some oi)(hsel:∀(j:Nat)(o:Oper) cs b,ops[j]?=some o→o.op≠ .select cs b)
 (hQ:∀c a w,Q (.panic c) (a.put oi.dst v) w→Q (.panic c) a w):
 ∀(fuel:Nat) (listed:Array Bool) (a:Act) (w:World),listed.getD L true=false∧C w →
  (∀j oj,ops[j]?=some oj→j≠i→listed.getD j true=false→(∀e∈oj.after,Region.binds md e=true→e.on≠i)→oi.apart ops oj=true) →
  i∈Region.ready md ops listed→bS P ops C oi v a →
  jM P md ops C L Q fuel (listed.setIfInBounds i true) (a.put oi.dst v) w→jM P md ops C L Q (fuel+1) listed a w:=by
 intro fuel
 induction fuel with
 |zero =>
  intro listed a w hC _ hr hy H
  refine⟨fun h=>(by rw[h] at hr;cases hr),fun j hj=>?_⟩
  by_cases hji:j=i
  ·subst hji;exact hy.wpOp hi hC.2 ⟨.inr hC.2,H⟩
  ·have:=ready_mono hj hji
   rw[H.1] at this
   cases this
 |succ fuel ih =>
  intro listed a w hC hfree hr hy H
  refine⟨fun h=>(by rw[h] at hr;cases hr),fun j hj=>?_⟩
  by_cases hji:j=i
  ·subst hji;exact hy.wpOp hi hC.2 ⟨.inr hC.2,H⟩
  ·have h1:=H.2 j (ready_mono hj hji)
   obtain⟨hjun,oj,hoj,hall⟩:=mem_ready.1 hj
   have hnot:∀e∈oj.after,Region.binds md e=true→e.on≠i:=fun e he hb heq=>by
    have h1:=hall e he hb
    have h0:=(mem_ready.1 hr).1
    rw[heq] at h1
    rcases Nat.lt_or_ge i listed.size with h'|h'
    ·simp[h'] at h0 h1;rw[h0] at h1;cases h1
    ·simp[Array.getElem?_eq_none h'] at h1
   have h2:=nT hoj (hfree j oj hoj hji hjun hnot) (fun cs b=>hsel i oi cs b hi) (fun cs b=>hsel j oj cs b hoj) hQ hy h1
   have hfree':∀k ok,ops[k]?=some ok→k≠i→(listed.setIfInBounds j true).getD k true=false →
    (∀e∈ok.after,Region.binds md e=true→e.on≠i)→oi.apart ops ok=true:=fun k ok hk hki hun hno=>by
    refine hfree k ok hk hki ?_ hno
    by_cases hjk:j=k
    ·subst hjk;exact hjun
    ·rw[getD_set_ne true hjk] at hun;exact hun
   refine wpOp_mono (fun a' w' h3=>?_) h2
   have h4:=h3.2.1
   rw[Array.setIfInBounds_comm _ _ (Ne.symm hji),getD_set_ne true hne] at h4
   have hjL:j≠L:=fun e=>by subst e;exact tw hL hj (mem_ready.1 hr).1
   have h5:(listed.setIfInBounds j true).getD L true=false∧C w':=by
    rw[getD_set_ne true hjL,hC.1] at h4
    refine⟨by rw[getD_set_ne true hjL];exact hC.1,h4.resolve_left (by simp)⟩
   refine⟨h4,ih (listed.setIfInBounds j true) a' w' h5 hfree' (ready_mono hr (Ne.symm hji)) h3.1 ?_⟩
   rw[Array.setIfInBounds_comm _ _ hji]
   exact h3.2.2
theorem aX {i:Nat}{oi:Oper}{v:Value}{fuel:Nat}{listed:Array Bool}{a:Act}{w:World}(hL:uJ md ops L i=true)(hne:(i==L)=false)(hu:listed.getD L true=false)(d:Option Tmp)(hi:ops[i]?=some oi)(hd:oi.dst=d)
 (hs:Region.noSelect ops=true) (hf:Region.free md ops listed i=true) (hr:(Region.ready md ops listed).contains i=true)
 (hQ:∀c a w,Q (.panic c) (a.put d v) w→Q (.panic c) a w) (hC:C w) (hy:bS P ops C oi v a)
 (h:jM P md ops C L Q fuel (listed.setIfInBounds i true) (a.put d v) w):jM P md ops C L Q (fuel+1) listed a w:=by
 subst hd
 exact tx (by simpa using hne) hL hi (Region.noSelect_spec hs) hQ fuel listed a w ⟨hu,hC⟩ (Region.free_spec hi hf) (by simpa using hr) hy h
theorem kY {fuel:Nat}{listed:Array Bool}{a:Act}{w:World}(hr:Region.ready md ops listed= [])(h:Q .normal a w):jM P md ops C L Q fuel listed a w:=by
 cases fuel with
 |zero=>exact⟨hr,h⟩
 |succ f=>exact⟨fun _=>h,fun i hi=>(by rw[hr] at hi;cases hi)⟩
theorem dd {i:Nat}{o:Oper}{fuel:Nat}{listed:Array Bool}{a:Act}{w:World}(d:Option Tmp)(hr:Region.ready md ops listed= [i])(hi:ops[i]?=some o)(hw:Region.wanted o (yielded ops a.tmps)=true)(hd:o.dst=d)
 (h:∀K:Act→World→Prop,(∀v w',((listed.setIfInBounds i true).getD L true=true∨C w')→jM P md ops C L Q fuel (listed.setIfInBounds i true) (a.put d v) w'→K (a.put o.dst v) w')→Oper.wp P o a w K Q):jM P md ops C L Q (fuel+1) listed a w:=by
 subst hd
 refine⟨fun q=>(by rw[hr] at q;cases q),fun j hj=>?_⟩
 rw[hr] at hj
 obtain rfl:j=i:=by simpa using hj
 unfold Go.wpOp
 simp only[hi,hw,if_true]
 exact .inl (h _ (fun v w' hc hA=>⟨hc,hA⟩))
theorem gk {id:Nat}{a:Act}{w:World}(C:World→Prop)(L:Nat)(hm:P.follows .mixedOrders=true)(h:jM P .any ops C L Q ops.size (Array.replicate ops.size false) a { w with drawn:=w.drawn+1 }):(Code.region id ops true).wp P Q a w :=
 wp_region_any hm (Aa _ _ _ _ h)
theorem jN {f:Nat}{d:Array Bool}{a:Act}{w:World} (Φ:Act→World→Prop) (Ψ:World→Prop)(ch:List PanicEntry)(fp:∀a w,a.defers= []→Ψ w→Q (.panic ch) a w)(fq:∀c a k v w,Q (.panic c) (Act.put a (some k) v) w→Q (.panic c) a w)(fn:∀a w,Φ a w→Q .normal a w)
 (h:∀Q':Exit→Act→World→Prop,(∀a w,Φ a w→Q' .normal a w)→(∀a w,a.defers= []→Ψ w→Q' (.panic ch) a w)→(∀c a k v w,Q' (.panic c) (Act.put a (some k) v) w→Q' (.panic c) a w)→jM P md ops C L Q' f d a w):jM P md ops C L Q f d a w:=h Q fn fp fq
end
theorem MidV.setRow {W wr:World}{F S F':Nat→Prop}{p n:Nat}{kn:Int→Option Int}{D:List KV}(h:MidV W wr F S p kn n D F'){b:Nat}(hS:b<W.heap.size→S b)(nF:¬F' b)(cs':Array Value){cs:Array Value}{t:TypeId}{fr:Nat×Nat}(hb:wr.heap[b]?=some (.cells cs t fr)):MidV W (wr.setRow b cs') F S p kn n D F' :=
 have T:Turned (fun k=>k=b) wr (wr.setRow b cs'):=Turned.setRow (Turned.refl _ wr) b cs' (fun _=>rfl)
 ⟨h.view.keepS (S:=fun k=>k=b) T (fun k q e=>nF (e▸q)) (fun k es cl e q=>by subst e;rw[hb] at q;cases q),
  h.from',aw h.turn T (fun k q=>by
   subst q
   rcases Nat.lt_or_ge k W.heap.size with r|r
   ·exact .inl (.inr (hS r))
   ·exact .inr r),h.inv⟩
theorem tz (x:Int):IntKind.i64.wrap x=wrap64 x:=IntWalk.i64_left x
structure BgS (w1:World)(F:Nat→Prop)(p:Nat)(kn:Int→Option Int)(n:Nat)(D:List KV)(F':Nat→Prop)(W:World):Prop where
 mid:MidV w1 W F (fun _=>False) p kn n D F'
structure CtS (c:Cfg)(w1:World)(F:Nat→Prop)(p:Nat)(kn:Int→Option Int)(n gs:Nat)(s:TS)(D:List KV)(F':Nat→Prop)(W:World):Prop where
 mid:MidV w1 W F (fun _=>False) p kn n D F'
 box:W.heap[gs]?=some (.cells s.arr 38 (0,0))
 off:¬F' gs
 ge:w1.heap.size≤gs
structure ShS (c:Cfg)(w1:World)(F:Nat→Prop)(p:Nat)(kn:Int→Option Int)(n gs bb:Nat)(rv:Value)(xs:List Int)(s:TS)(D:List KV)(F':Nat→Prop)(W:World):Prop extends CtS c w1 F p kn n gs s D F' W where
 row:qJ bb F' W rv xs
 ne:∀k,rv.ownBlock=some k→k≠gs
section
variable {c:Cfg}{w1 W W':World}{F F' F1:Nat→Prop}{p n gs bb:Nat}{kn:Int→Option Int}{rv:Value}{xs:List Int}{s:TS}{D D1:List KV}
theorem BgS.more (h:BgS w1 F p kn n D F' W)(m:ac W W'):BgS w1 F p kn n D F' W':=⟨h.mid.more m⟩
theorem BgS.went (h:BgS w1 F p kn n D F' W)(M:MidV w1 W' F (fun _=>False) p kn n D1 F1)(hk:∀b o,¬F' b→W.heap[b]?=some o→W'.heap[b]?=some o)(hf:∀b,F1 b→F' b∨W.heap.size≤b):BgS w1 F p kn n D1 F1 W':=⟨M⟩
theorem CtS.more (h:CtS c w1 F p kn n gs s D F' W)(m:ac W W'):CtS c w1 F p kn n gs s D F' W':=⟨h.mid.more m,m.block h.box,h.off,h.ge⟩
theorem CtS.went (h:CtS c w1 F p kn n gs s D F' W)(M:MidV w1 W' F (fun _=>False) p kn n D1 F1)(hk:∀b o,¬F' b→W.heap[b]?=some o→W'.heap[b]?=some o)(hf:∀b,F1 b→F' b∨W.heap.size≤b):CtS c w1 F p kn n gs s D1 F1 W' :=
 ⟨M,hk _ _ h.off h.box,fun q=>by
   rcases hf _ q with r|r
   ·exact h.off r
   ·have:=af h.box;omega,h.ge⟩
theorem CtS.put (h:CtS c w1 F p kn n gs s D F' W)(t:TS):CtS c w1 F p kn n gs t D F' (W.setRow gs t.arr):=
 ⟨h.mid.setRow (fun q=>by have:=h.ge;omega) h.off t.arr h.box,setRow_heap _ _ _ _ _ _ h.box,h.off,h.ge⟩
theorem CtS.cls (h:CtS c w1 F p kn n gs s D F' W){b:Nat}{o:Obj}(KL:∀wr D' F',MidV w1 wr F (fun _=>False) p kn n D' F'→wr.heap[b]?=some o):W.heap[b]?=some o∧W.heap[gs]?=some (.cells s.arr 38 (0,0)):=⟨KL _ _ _ h.mid,h.box⟩
theorem ShS.more (h:ShS c w1 F p kn n gs bb rv xs s D F' W)(m:ac W W'):ShS c w1 F p kn n gs bb rv xs s D F' W':=⟨h.toCtS.more m,h.row.more m,h.ne⟩
theorem ShS.went (h:ShS c w1 F p kn n gs bb rv xs s D F' W)(M:MidV w1 W' F (fun _=>False) p kn n D1 F1)(hk:∀b o,¬F' b→W.heap[b]?=some o→W'.heap[b]?=some o)(hf:∀b,F1 b→F' b∨W.heap.size≤b):ShS c w1 F p kn n gs bb rv xs s D1 F1 W' :=
 ⟨h.toCtS.went M hk hf,h.row.went hk hf,h.ne⟩
theorem ShS.put (h:ShS c w1 F p kn n gs bb rv xs s D F' W)(t:TS):ShS c w1 F p kn n gs bb rv xs t D F' (W.setRow gs t.arr):=
 have T:Turned (fun k=>k=gs) W (W.setRow gs t.arr):=Turned.setRow (Turned.refl _ W) gs t.arr (fun _=>rfl)
 ⟨h.toCtS.put t,⟨h.row.1.keepT T (fun k q e=>h.ne k q e),fun k q=>⟨(h.row.2 k q).1,(h.row.2 k q).2.1,Nat.lt_of_lt_of_le (h.row.2 k q).2.2 T.size⟩⟩,h.ne⟩
end
theorem Ab (x m:Int):(iL x m).length≤32:=by
 have h:iL x m=onI x (dR m):=rfl
 rw[h]
 exact Nat.le_trans (CM x _) (j2 m)
theorem Ac {c:Cfg}(R:c.Ok){n:Nat}(H:PgIn c.pg c.st n)(hw:(n:Int)=c.words)(hn:n≤10000){bt:Nat}(F:Nat→Prop)(p:Nat)(kn:Int→Option Int)(D:List KV)(q k:Int)(hq:ah c.pg q=true)(w:World)(hv:bB w F p kn D)(hk:OkK kn)(hD:eF n D)(hs:gK bt w):
 Calls Tryz.prog 80 #[.pointer (some ⟨p,0,none⟩),.agg c.arr,.int .i64 q,.int .i64 k] w (aZ w F p kn vTS (tv c q k kn D)):=by
 obtain⟨Rr,hRr⟩:∃Rr,tv c q k kn D=Rr:=⟨_,rfl⟩
 rw[hRr]
 have YA:=hQQ (fun W=>show Calls Tryz.prog 78 #[.agg c.arr,.int .i64 q] W (aD W (.int .i64 (fF c q))) from B0 R W q)
 have YB:=hQQ (fun W=>show Calls Tryz.prog 119 #[.agg c.arr,.int .i64 q] W (aD W (.int .i64 (bA c.pg c.st q))) from tZ (st:=c.st) hq▸Cz R W q)
 have PB:=hQQ (cH H hq).2.2
 have HW:=hQQ hw
 have HN:=hQQ hn
 have sl:=dV k
 have HSW:=hQQ hs
 obtain⟨w1,e1,hl1,hr1,m1,s1⟩:=kD w (.cells c.arr 33) (.cells #[.int .i64 0,.int .i64 0,.int .i64 0,.int .i64 0,.int .i64 0,.int .i64 0,.int .i64 0] 38)
 have nFl:¬F w.heap.size:=fun q=>by have:=hv.lt _ q;omega
 have nFr:¬F (w.heap.size+1):=fun q=>by have:=hv.lt _ q;omega
 have MM:=hQQ m1
 have L0:=hQQ hl1
 have C0:=hQQ hr1
 have M0:=m0Z (hv.more m1) hD
 have KL:=klZ (p:=p) (kn:=kn) (n:=n) L0.o nFl
 have KC:Hq (∀wr D' F',MidV w1 wr F (fun _=>False) p kn n D' F'→wr.heap[w.heap.size+1]?=some (.cells #[.int .i64 0,.int .i64 0,.int .i64 0,.int .i64 0,.int .i64 0,.int .i64 0,.int .i64 0] 38 (0,0))):=hQQ fun wr D' F' h=>i7 h C0.o nFr (fun q=>q)
 have NEED:=ndZ (F:=F) (p:=p) (kn:=kn) (R:=Rr) vTS MM.o
 have DONE:Hq (∀(x:TS) w2 D' F',Rr=.ok x D'→MidV w1 w2 F (fun _=>False) p kn n D' F'→aZ w F p kn vTS Rr (.returned (.agg x.arr)) (w2.setRow (w.heap.size+1) x.arr)):=hQQ fun x w2 D' F' e h=>iP (g:=w.heap.size+1) MM.o h e (by omega) (by have:=af C0.o;omega) nFr (KC.o _ _ _ h) (Turned.setRow (Turned.refl _ w2) _ _ (fun _=>rfl))
 have HK:=hQQ hk
 have HR:=hQQ R
 have HH:=hQQ H
 clear hl1 hr1 m1 hv hD hk R H nFl nFr
 have CSZ:Hq (∀W,ac w1 W→Calls Tryz.prog 116 #[.int .i64 k] W fun e w'=>e=.returned (.int .i64 (szV k))∧w'=W):=hQQ fun W m=>pw k W ⟨bt,(HSW.o.more MM.o).more m⟩
 have CSL:Hq (∀W,ac w1 W→Calls Tryz.prog 117 #[.int .i64 k] W fun e w'=>e=.returned (.int .i64 (am k))∧w'=W):=hQQ fun W m=>yO k W ⟨bt,(HSW.o.more MM.o).more m⟩
 unfold tv at hRr
 have HRr:=hQQ hRr
 clear hRr hw hn hs hq
 go_enter Tryz.func80,Tryz.ntmps80
 go_wp2_with fail
 clear e1
 refine(CSZ.o _ (ac.refl _)).mono ?_
 rintro e w2 ⟨rfl,hw2⟩
 rw[hw2]
 clear hw2 w2
 go_wp2_with fail
 refine(CSL.o _ (ac.refl _)).mono ?_
 rintro e w2 ⟨rfl,hw2⟩
 rw[hw2]
 clear hw2 w2
 go_wp2_with (first|(refine cL rfl rfl rfl L0.o (by kernel_rfl) ?_)|(refine cL rfl rfl rfl L0.o (by kernel_rfl) ?_))
 refine(YB.o _).mono ?_
 rintro e w2 ⟨rfl,h2⟩
 have M2:=hQQ (M0.o.more h2)
 clear h2
 go_wp2_with fail
 refine(jY F p kn D _ w2 M2.o.view PB.o.2.2).mono ?_
 intro e w3 he
 rcases M2.o.step (ac.refl _) HK.o (dY n PB.o.2.1) he with⟨a',hE,rfl,hd',ht',_⟩|⟨x3,D3,F3,hE,rfl,M3,hq3,_,_⟩
 ·exact⟨rfl,NEED.o a' w3 (HRr.o.symm.trans (bP hE)) hd' ht'⟩
 have L3:=hQQ (KL.o _ _ _ M3)
 have R3:=hQQ ((bK hE).symm.trans HRr.o)
 have M3:=hQQ M3
 clear he hE
 go_wp2_with fail
 refine(CO x3 (am k) (by omega) (by omega) w3).mono ?_
 obtain⟨xs,hxs⟩:∃xs,iL x3 (am k)=xs:=⟨_,rfl⟩
 have hl32:=Ab x3 (am k)
 rw[hxs] at hl32⊢
 have hs0:wK k x3=⟨0,0,0,0,wrap64 (szV k * (am k-xs.length)),0,0⟩:=by unfold wK;rw[hxs]
 have R3':pT c (fF c q) (szV k) xs (wK k x3) kn D3=Rr:=by rw[←R3.o,hxs]
 rw[hs0] at R3'
 rintro e w4 ⟨rv,rfl,hr4,m4⟩
 obtain⟨ar,cr,rfl,_⟩:=hr4.reads
 obtain⟨ln,hln⟩:∃ln,xs.length=ln:=⟨_,rfl⟩
 rw[hln] at hr4 hl32 R3' ⊢
 have R4:=hQQ R3'
 have LN:=hQQ hln
 have O4:Hq (qJ w3.heap.size F3 w4 (.slice ar ln cr) xs):=hQQ ⟨hr4,fun b q=>⟨fun z=>by have:=M3.o.view.lt _ z;have:=(hr4.own q).1;omega,hr4.own q⟩⟩
 have M4:=hQQ (M3.o.more m4)
 obtain⟨w5,e5,hb5,m5,s5⟩:=dw w4 (.cells #[.int .i64 0,.int .i64 0,.int .i64 0,.int .i64 0,.int .i64 0,.int .i64 0,.int .i64 0] 38)
 have B5:=hQQ hb5
 obtain⟨s0,hs0'⟩:∃s0:TS,(⟨0,0,0,0,wrap64 (szV k * (am k-ln)),0,0⟩:TS)=s0:=⟨_,rfl⟩
 have ha0:s0.arr= #[.int .i64 0,.int .i64 0,.int .i64 0,.int .i64 0,.int .i64 (wrap64 (szV k * (am k-ln))),.int .i64 0,.int .i64 0]:=by rw[←hs0'];rfl
 rw[hs0'] at R4
 obtain⟨w6,e6⟩:∃w6,w5.setRow w4.heap.size s0.arr=w6:=⟨_,rfl⟩
 have S6:Hq (ShS c w1 F p kn n w4.heap.size w3.heap.size (.slice ar ln cr) xs s0 D3 F3 w6):=hQQ (by
  have h5:ShS c w1 F p kn n w4.heap.size w3.heap.size (.slice ar ln cr) xs noT D3 F3 w5 :=
   ⟨⟨M4.o.more m5,hb5,fun z=>by have:=M4.o.view.lt _ z;omega,by have:=M4.o.size;omega⟩,O4.o.more m5,fun b q=>by have:=(O4.o.2 b q).2.2;omega⟩
  rw[←e6]
  exact h5.put s0)
 have HA0:=hQQ ha0
 clear hs0 R3' hr4 m4 hb5 m5 s5 M2 M3 L3 R3 HRr hxs O4 M4 hs0' hln ha0
 go_wp2_with (refine wpList_store_row rfl 38 _ _ rfl w4.heap.size _ rfl rfl 38 _ B5.o (by kernel_rfl) rfl (by simp[Value.oneCell']) ?_;rw[←HA0.o,e6])
 clear e5 e6 B5 HA0
 generalize w4.heap.size=gs at S6
 generalize w3.heap.size=bb at S6
 go_loopw [35] (fun iv wr=>∃(j:Nat) (s:TS) (D':List KV) (F':Nat→Prop),iv=.int .i64 j∧j≤ln∧ShS c w1 F p kn n gs bb (.slice ar ln cr) xs s D' F' wr∧pT c (fF c q) (szV k) (xs.drop j) s kn D'=Rr) (fun iv _=>ln-(intOf iv).toNat)
 case atStart=>exact⟨0,s0,D3,F3,rfl,by omega,S6.o,by simpa using R4.o⟩
 case round =>
  obtain⟨j,s,DD,FF,rfl,hj,hS,hR⟩:=hrel
  have SR:=hQQ hS
  clear S6 R4 hS
  by_cases hlt:j<ln
  ·obtain⟨a9,c9,e9,hrd⟩:=SR.o.row.1.reads
   injection e9 with h1 h2 h3
   subst h1
   subst h3
   clear h2
   obtain⟨g6,rfl,_,_,hc⟩:=hrd 0 (by have:=LN.o;omega)
   have hjx:j<xs.length:=by have:=LN.o;omega
   have hcj:=hc j hjx
   obtain⟨i,hi⟩:∃i,xs.getD j 0=i:=⟨_,rfl⟩
   rw[hi] at hcj
   have hdr:xs.drop j=i::xs.drop (j+1):=by
    rw[←hi,List.drop_eq_getElem_cons hjx]
    simp[List.getD,hjx]
   obtain⟨l,hl⟩:∃l,xs.drop (j+1)=l:=⟨_,rfl⟩
   rw[hdr,hl] at hR
   have HLD:=hQQ hl
   have RR:=hQQ (show aJ (mY c (wrap64 (fF c q+wrap64 (szV k * i))) (szV k)) (fun t=>pT c (fF c q) (szV k) l (bj s t)) kn DD=Rr from hR)
   have d1:decide (j<ln)=true:=by simp[hlt]
   have q1:IntKind.i64.wrap ((j:Int)+1)=(j:Int)+1:=aj (by omega) (by omega)
   clear hR hdr hc hrd hi hjx hl
   go_wp2_with fail
   refine gk (fun W=>W.heap[w.heap.size]?=some (.cells c.arr 33 (0,0))∧W.heap[gs]?=some (.cells s.arr 38 (0,0))) 13 (by kernel_rfl) ?_
   change jM _ _ _ _ _ _ _ _ _ (wr.drewN 1)
   have M0:Hq (ac wr (wr.drewN 1)):=hQQ ((ac.refl wr).drewN 1)
   generalize wr.drewN 1=wq at M0⊢
   have S0:=hQQ (SR.o.more M0.o)
   generalize hA:Act.mk _ _=A
   have HF:AG 54 A [(0,.pointer (some ⟨p,0,none⟩)),(2,.int .i64 q),(5,.pointer (some ⟨w.heap.size,0,none⟩)),(9,.int .i64 (szV k)),(12,.pointer (some ⟨gs,0,none⟩)),(14,.int .i64 i)]:=by
    rw[←hA];try simp only[pts,List.foldl]
    refine⟨⟨Nat.le_of_ble_eq_true rfl,rfl⟩,?_⟩
    intro z hz;simp only[List.mem_cons,List.not_mem_nil,or_false] at hz;rcases hz with rfl|rfl|rfl|rfl|rfl|rfl<;>rfl
   refine jN (fun aa W=>∃(u39 u40 u41 u42 u43 u45 u46 u47 u49 u44 u48 u50 u51:Value),aa=(Act.put (pts A [(39,u39),(40,u40),(41,u41),(42,u42),(43,u43),(45,u45),(46,u46),(47,u47),(49,u49),(44,u44),(48,u48),(50,u50),(51,u51)]) none undef)∧∃t D9 F9 wy,W=wy.setRow gs (bj s t).arr∧ShS c w1 F p kn n gs bb (.slice (some ⟨g6,0,none⟩) ln cr) xs s D9 F9 wy∧pT c (fF c q) (szV k) l (bj s t) kn D9=Rr) (fun W=>aZ w F p kn vTS Rr (.panicked (eB p)) W) (eB p) (fun a W hd h=>⟨hd,h⟩) (fun _ _ _ _ _ h=>h) ?_ ?_
   ·skip
    rintro a9 wv ⟨u39,u40,u41,u42,u43,u45,u46,u47,u49,u44,u48,u50,u51,rfl,t,D9,F9,wy,rfl,S9,R9⟩
    rw[←hA];try simp only[pts,List.foldl]
    have SV:=hQQ (S9.put (bj s t))
    have RV:=hQQ R9
    generalize wy.setRow gs (bj s t).arr=wv at SV⊢
    clear HF hA M0 S0 S9 R9 RR SR
    go_simp
    go_wp2_with fail
    go_roundw
    case rel=>exact⟨j+1,bj s t,D9,F9,by go_num,by omega,SV.o,by rw[HLD.o];exact RV.o⟩
    case measure=>simp[intOf];omega
   intro QQ FINE FIND FINQ
   clear hA
   refine aX (i:=0) (v:=.agg s.arr) (by kernel_rfl) (by kernel_rfl) (by kernel_rfl) (some 39) rfl rfl (by kernel_rfl) (by kernel_rfl) (by kernel_rfl) (fun c a w=>FINQ c a _ _ w) (S0.o.cls KL.o) (by exact cG (C:=(fun W=>W.heap[w.heap.size]?=some (.cells c.arr 33 (0,0))∧W.heap[gs]?=some (.cells s.arr 38 (0,0)))) (ao rfl) 38 _ rfl (gs) (HF.get 4 rfl) 38 _ _ _ (fun W hW=>hW.2) Tryz.underlying38 rfl (by kernel_rfl)) ?_
   replace HF:=HF.put 39 (.agg s.arr) (by decide) rfl
   generalize β1:Act.put _ _ _=A at HF⊢
   refine aX (i:=1) (v:=.pointer (some ⟨p,0,none⟩)) (by kernel_rfl) (by kernel_rfl) (by kernel_rfl) (some 40) rfl rfl (by kernel_rfl) (by kernel_rfl) (by kernel_rfl) (fun c a w=>FINQ c a _ _ w) (S0.o.cls KL.o) (by exact bF (ao rfl) _ rfl (HF.get 1 rfl)) ?_
   replace HF:=HF.put 40 (.pointer (some ⟨p,0,none⟩)) (by decide) rfl
   generalize β2:Act.put _ _ _=A at HF⊢
   refine aX (i:=2) (v:=.agg c.arr) (by kernel_rfl) (by kernel_rfl) (by kernel_rfl) (some 41) rfl rfl (by kernel_rfl) (by kernel_rfl) (by kernel_rfl) (fun c a w=>FINQ c a _ _ w) (S0.o.cls KL.o) (by exact cG (C:=(fun W=>W.heap[w.heap.size]?=some (.cells c.arr 33 (0,0))∧W.heap[gs]?=some (.cells s.arr 38 (0,0)))) (ao rfl) 33 _ rfl (w.heap.size) (HF.get 4 rfl) 33 _ _ _ (fun W hW=>hW.1) Tryz.underlying33 rfl (by kernel_rfl)) ?_
   replace HF:=HF.put 41 (.agg c.arr) (by decide) rfl
   generalize β3:Act.put _ _ _=A at HF⊢
   refine aX (i:=3) (v:=.agg c.arr) (by kernel_rfl) (by kernel_rfl) (by kernel_rfl) (some 42) rfl rfl (by kernel_rfl) (by kernel_rfl) (by kernel_rfl) (fun c a w=>FINQ c a _ _ w) (S0.o.cls KL.o) (by exact cG (C:=(fun W=>W.heap[w.heap.size]?=some (.cells c.arr 33 (0,0))∧W.heap[gs]?=some (.cells s.arr 38 (0,0)))) (ao rfl) 33 _ rfl (w.heap.size) (HF.get 5 rfl) 33 _ _ _ (fun W hW=>hW.1) Tryz.underlying33 rfl (by kernel_rfl)) ?_
   replace HF:=HF.put 42 (.agg c.arr) (by decide) rfl
   generalize β4:Act.put _ _ _=A at HF⊢
   refine aX (i:=4) (v:=.int .i64 q) (by kernel_rfl) (by kernel_rfl) (by kernel_rfl) (some 43) rfl rfl (by kernel_rfl) (by kernel_rfl) (by kernel_rfl) (fun c a w=>FINQ c a _ _ w) (S0.o.cls KL.o) (by exact bF (ao rfl) _ rfl (HF.get 5 rfl)) ?_
   replace HF:=HF.put 43 (.int .i64 q) (by decide) rfl
   generalize β5:Act.put _ _ _=A at HF⊢
   refine aX (i:=6) (v:=.int .i64 (szV k)) (by kernel_rfl) (by kernel_rfl) (by kernel_rfl) (some 45) rfl rfl (by kernel_rfl) (by kernel_rfl) (by kernel_rfl) (fun c a w=>FINQ c a _ _ w) (S0.o.cls KL.o) (by exact bF (ao rfl) _ rfl (HF.get 8 rfl)) ?_
   replace HF:=HF.put 45 (.int .i64 (szV k)) (by decide) rfl
   generalize β6:Act.put _ _ _=A at HF⊢
   refine aX (i:=7) (v:=.int .i64 i) (by kernel_rfl) (by kernel_rfl) (by kernel_rfl) (some 46) rfl rfl (by kernel_rfl) (by kernel_rfl) (by kernel_rfl) (fun c a w=>FINQ c a _ _ w) (S0.o.cls KL.o) (by exact bF (ao rfl) _ rfl (HF.get 11 rfl)) ?_
   replace HF:=HF.put 46 (.int .i64 i) (by decide) rfl
   generalize β7:Act.put _ _ _=A at HF⊢
   refine aX (i:=8) (v:=.int .i64 (wrap64 (szV k * i))) (by kernel_rfl) (by kernel_rfl) (by kernel_rfl) (some 47) rfl rfl (by kernel_rfl) (by kernel_rfl) (by kernel_rfl) (fun c a w=>FINQ c a _ _ w) (S0.o.cls KL.o) (by exact(Or.inl ⟨(ao rfl),fun W hW=>by have h50:=(HF.getD 1 rfl);have h51:=(HF.getD 0 rfl);go_simp;rw[tz]⟩)) ?_
   replace HF:=HF.put 47 (.int .i64 (wrap64 (szV k * i))) (by decide) rfl
   generalize β8:Act.put _ _ _=A at HF⊢
   refine aX (i:=10) (v:=.int .i64 (szV k)) (by kernel_rfl) (by kernel_rfl) (by kernel_rfl) (some 49) rfl rfl (by kernel_rfl) (by kernel_rfl) (by kernel_rfl) (fun c a w=>FINQ c a _ _ w) (S0.o.cls KL.o) (by exact bF (ao rfl) _ rfl (HF.get 11 rfl)) ?_
   replace HF:=HF.put 49 (.int .i64 (szV k)) (by decide) rfl
   generalize β9:Act.put _ _ _=A at HF⊢
   refine dd (i:=5) (some 44) (by kernel_rfl) rfl (ao rfl) rfl (fun K hK=>?_)
   refine gI (v0:=.agg c.arr) (v1:=.int .i64 q) rfl (HF.get 5 rfl) (HF.get 4 rfl) (enters_of Tryz.func78 (by kernel_rfl) rfl) ?_
   refine(YA.o _).mono ?_
   rintro e y1 ⟨rfl,hm⟩
   have S1:=hQQ (S0.o.more hm)
   clear hm
   refine hK _ _ (.inr (S1.o.cls KL.o)) ?_
   clear hK K
   replace HF:=HF.put 44 (.int .i64 (fF c q)) (by decide) rfl
   generalize β10:Act.put _ _ _=A at HF⊢
   refine aX (i:=9) (v:=.int .i64 (wrap64 (fF c q+wrap64 (szV k * i)))) (by kernel_rfl) (by kernel_rfl) (by kernel_rfl) (some 48) rfl rfl (by kernel_rfl) (by kernel_rfl) (by kernel_rfl) (fun c a w=>FINQ c a _ _ w) (S1.o.cls KL.o) (by exact(Or.inl ⟨(ao rfl),fun W hW=>by have h50:=(HF.getD 0 rfl);have h51:=(HF.getD 2 rfl);go_simp;rw[tz]⟩)) ?_
   replace HF:=HF.put 48 (.int .i64 (wrap64 (fF c q+wrap64 (szV k * i)))) (by decide) rfl
   generalize β11:Act.put _ _ _=A at HF⊢
   refine dd (i:=11) (some 50) (by kernel_rfl) rfl (ao rfl) rfl (fun K hK=>?_)
   refine j0 (v0:=.pointer (some ⟨p,0,none⟩)) (v1:=.agg c.arr) (v2:=.int .i64 (wrap64 (fF c q+wrap64 (szV k * i)))) (v3:=.int .i64 (szV k)) rfl (HF.get 9 rfl) (HF.get 8 rfl) (HF.get 0 rfl) (HF.get 2 rfl) (enters_of Tryz.func77 (by kernel_rfl) rfl) ?_
   refine(uI HR.o HH.o HW.o HN.o FF p kn DD (wrap64 (fF c q+wrap64 (szV k * i))) (szV k) _ S1.o.mid.view HK.o S1.o.mid.inv).mono ?_
   intro e y2 he
   rcases S1.o.mid.step (ac.refl _) HK.o (kp HR.o HH.o HW.o _ _) he with⟨a',hE,rfl,hd',ht',hk'⟩|⟨x2,D2,F2,hE,rfl,M',hq2,hk',hf'⟩
   ·exact FIND _ _ HF.1.2 (NEED.o a' y2 (RR.o.symm.trans (bP hE)) hd' ht')
   have R2:=hQQ ((bK hE).symm.trans RR.o)
   have S2:=hQQ (S1.o.went M' hk' hf')
   clear he hE M' hk' hf'
   refine hK _ _ (.inr (S2.o.cls KL.o)) ?_
   clear hK K
   replace HF:=HF.put 50 ((vTS x2)) (by decide) rfl
   generalize β12:Act.put _ _ _=A at HF⊢
   refine dd (i:=12) (some 51) (by kernel_rfl) rfl (ao rfl) rfl (fun K hK=>?_)
   refine gI (v0:=.agg s.arr) (v1:=(vTS x2)) rfl (HF.get 11 rfl) (HF.get 0 rfl) (enters_of Tryz.func20 (by kernel_rfl) rfl) ?_
   refine(kr s x2 _).mono ?_
   rintro e y3 ⟨rfl,hm⟩
   have S3:=hQQ (S2.o.more hm)
   clear hm
   refine hK _ _ (.inr (S3.o.cls KL.o)) ?_
   clear hK K
   replace HF:=HF.put 51 (.agg (bj s x2).arr) (by decide) rfl
   generalize β13:Act.put _ _ _=A at HF⊢
   refine dd (i:=13) none (by kernel_rfl) rfl (ao rfl) rfl (fun K hK=>?_)
   refine wp_store_row 38 _ _ rfl gs _ (HF.get 17 rfl) (HF.get 0 rfl) 38 _ S3.o.box (by kernel_rfl) rfl (dJ _) ?_
   refine hK _ _ (.inl (by kernel_rfl)) ?_
   exact kY (by kernel_rfl) (FINE _ _ ⟨(.agg s.arr),(.pointer (some ⟨p,0,none⟩)),(.agg c.arr),(.agg c.arr),(.int .i64 q),(.int .i64 (szV k)),(.int .i64 i),(.int .i64 (wrap64 (szV k * i))),(.int .i64 (szV k)),(.int .i64 (fF c q)),(.int .i64 (wrap64 (fF c q+wrap64 (szV k * i)))),((vTS x2)),(.agg (bj s x2).arr),by rw[← β13,← β12,← β11,← β10,← β9,← β8,← β7,← β6,← β5,← β4,← β3,← β2,← β1]<;>rfl,x2,D2,F2,y3,rfl,S3.o,R2.o⟩)
  ·have hje:j=ln:=by omega
   subst hje
   have hR':aL s kn DD=Rr:=by rw[List.drop_eq_nil_of_le (by have:=LN.o;omega)] at hR;exact hR
   have d1:decide (j<j)=false:=by simp
   have BX:=hQQ SR.o.box
   have CR:=hQQ (KC.o _ _ _ SR.o.mid)
   have FIN:=hQQ (DONE.o s wr DD FF hR'.symm SR.o.mid)
   clear hR hR' SR
   go_wp2_with (first|(refine ag rfl rfl rfl BX.o (by kernel_rfl) ?_)|(refine wpList_store_row rfl 38 _ _ rfl (w.heap.size+1) s.arr rfl rfl 38 _ CR.o (by kernel_rfl) rfl (dJ _) ?_))
   refine bodyPost_ret (v:=.agg s.arr) (results_cell_row Tryz.results80 _ _ _ 38 _ (0,0) _ rfl (setRow_heap _ _ _ _ _ _ CR.o) Tryz.underlying38 rfl (by kernel_rfl)) rfl FIN.o
theorem oz {α:Type}(p:Prg α):aJ p (fun t=>aL t)=p:=by
 funext kn D;unfold aJ;cases p kn D<;>rfl
theorem BG {c:Cfg}(R:c.Ok){n:Nat}(H:PgIn c.pg c.st n)(hw:(n:Int)=c.words)(hn:n≤10000){bt:Nat}(F:Nat→Prop)(p:Nat)(kn:Int→Option Int)(D:List KV)(q k:Int)(hq:ah c.pg q=true)(w:World)(hv:bB w F p kn D)(hk:OkK kn)(hD:eF n D)(hs:gK bt w):
 Calls Tryz.prog 39 #[.pointer (some ⟨p,0,none⟩),.agg c.arr,.int .i64 q,.int .i64 k] w (aZ w F p kn vTS (mZ c q k kn D)):=by
 obtain⟨Rr,hRr⟩:∃Rr,mZ c q k kn D=Rr:=⟨_,rfl⟩
 rw[hRr]
 have YA:=hQQ (fun W=>show Calls Tryz.prog 78 #[.agg c.arr,.int .i64 q] W (aD W (.int .i64 (fF c q))) from B0 R W q)
 have YC:=hQQ (fun W=>show Calls Tryz.prog 79 #[.agg c.arr,.int .i64 q] W (aD W (.int .i64 (cA c.pg c.st q))) from tY (st:=c.st) hq▸A0 R W q)
 have PB:=hQQ (cH H hq).2.1
 have HW:=hQQ hw
 have HN:=hQQ hn
 have HSW:=hQQ hs
 have HQ:=hQQ hq
 obtain⟨w1,e1,hl1,hr1,m1,s1⟩:=kD w (.cells c.arr 33) (.cells #[.int .i64 0,.int .i64 0,.int .i64 0,.int .i64 0,.int .i64 0,.int .i64 0,.int .i64 0] 38)
 have nFl:¬F w.heap.size:=fun q=>by have:=hv.lt _ q;omega
 have nFr:¬F (w.heap.size+1):=fun q=>by have:=hv.lt _ q;omega
 have MM:=hQQ m1
 have L0:=hQQ hl1
 have C0:=hQQ hr1
 have M0:=m0Z (hv.more m1) hD
 have KL:=klZ (p:=p) (kn:=kn) (n:=n) L0.o nFl
 have KC:Hq (∀wr D' F',MidV w1 wr F (fun _=>False) p kn n D' F'→wr.heap[w.heap.size+1]?=some (.cells #[.int .i64 0,.int .i64 0,.int .i64 0,.int .i64 0,.int .i64 0,.int .i64 0,.int .i64 0] 38 (0,0))):=hQQ fun wr D' F' h=>i7 h C0.o nFr (fun q=>q)
 have NEED:=ndZ (F:=F) (p:=p) (kn:=kn) (R:=Rr) vTS MM.o
 have DONE:Hq (∀(x:TS) w2 D' F',Rr=.ok x D'→MidV w1 w2 F (fun _=>False) p kn n D' F'→aZ w F p kn vTS Rr (.returned (.agg x.arr)) (w2.setRow (w.heap.size+1) x.arr)):=hQQ fun x w2 D' F' e h=>iP (g:=w.heap.size+1) MM.o h e (by omega) (by have:=af C0.o;omega) nFr (KC.o _ _ _ h) (Turned.setRow (Turned.refl _ w2) _ _ (fun _=>rfl))
 have HK:=hQQ hk
 have HR:=hQQ R
 have HH:=hQQ H
 clear hl1 hr1 m1 hv hD hk R H nFl nFr
 have M0m:Hq (∀W,ac w1 W→MidV w1 W F (fun _=>False) p kn n D F):=hQQ fun W m=>M0.o.more m
 clear hw hn hs hq
 by_cases h6:k=6
 ·have HRr:=hQQ (show aJ (dE (cA c.pg c.st q)) (fun x=>mY c (fF c q) (wrap64 (32 * x))) kn D=Rr from by rw[←hRr];unfold mZ;rw[if_pos h6])
  have d1:(k==6)=true:=by simp[h6]
  clear hRr h6
  go_enter Tryz.func39,Tryz.ntmps39
  go_wp2_with fail
  clear e1
  refine gk (fun W=>W.heap[w.heap.size]?=some (.cells c.arr 33 (0,0))∧W.heap[w.heap.size+1]?=some (.cells #[.int .i64 0,.int .i64 0,.int .i64 0,.int .i64 0,.int .i64 0,.int .i64 0,.int .i64 0] 38 (0,0))) 12 (by kernel_rfl) ?_
  change jM _ _ _ _ _ _ _ _ _ (w1.drewN 1)
  have M0:Hq (ac w1 (w1.drewN 1)):=hQQ ((ac.refl w1).drewN 1)
  generalize w1.drewN 1=wq at M0⊢
  have S0:=hQQ (BgS.mk (M0m.o _ M0.o))
  generalize hA:Act.mk _ _=A
  have HF:AG 38 A [(0,.pointer (some ⟨p,0,none⟩)),(2,.int .i64 q),(5,.pointer (some ⟨w.heap.size,0,none⟩)),(8,.pointer (some ⟨w.heap.size+1,0,none⟩))]:=by
   rw[←hA];try simp only[pts,List.foldl]
   refine⟨⟨Nat.le_of_ble_eq_true rfl,rfl⟩,?_⟩
   intro z hz;simp only[List.mem_cons,List.not_mem_nil,or_false] at hz;rcases hz with rfl|rfl|rfl|rfl<;>rfl
  refine jN (fun aa W=>∃(u12 u13 u14 u15 u17 u18 u19 u16 u20 u21 u22 u23:Value),aa=(Act.put (pts A [(12,u12),(13,u13),(14,u14),(15,u15),(17,u17),(18,u18),(19,u19),(16,u16),(20,u20),(21,u21),(22,u22),(23,u23)]) none undef)∧∃(t:TS) (D9:List KV) (F9:Nat→Prop) (wy:World),W=wy.setRow (w.heap.size+1) t.arr∧MidV w1 wy F (fun _=>False) p kn n D9 F9∧Rr=.ok t D9) (fun W=>aZ w F p kn vTS Rr (.panicked (eB p)) W) (eB p) (fun a W hd h=>⟨hd,h⟩) (fun _ _ _ _ _ h=>h) ?_ ?_
  ·skip
   rintro a9 wv ⟨u12,u13,u14,u15,u17,u18,u19,u16,u20,u21,u22,u23,rfl,t,D9,F9,wy,rfl,M9,R9⟩
   rw[←hA];try simp only[pts,List.foldl]
   have FIN:=hQQ (DONE.o t wy D9 F9 R9 M9)
   have C9:=hQQ (setRow_heap _ _ _ t.arr _ _ (KC.o _ _ _ M9))
   generalize wy.setRow (w.heap.size+1) t.arr=wv at FIN C9⊢
   clear HF hA M0 S0 M9 R9
   go_simp
   go_wp2_with fail
   refine bodyPost_ret (v:=.agg t.arr) (results_cell_row Tryz.results39 _ _ _ 38 _ (0,0) _ rfl C9.o Tryz.underlying38 rfl (by kernel_rfl)) rfl FIN.o
  intro QQ FINE FIND FINQ
  clear hA
  refine aX (i:=0) (v:=.pointer (some ⟨p,0,none⟩)) (by kernel_rfl) (by kernel_rfl) (by kernel_rfl) (some 12) rfl rfl (by kernel_rfl) (by kernel_rfl) (by kernel_rfl) (fun c a w=>FINQ c a _ _ w) ⟨KL.o _ _ _ S0.o.mid,KC.o _ _ _ S0.o.mid⟩ (by exact bF (ao rfl) _ rfl (HF.get 0 rfl)) ?_
  replace HF:=HF.put 12 (.pointer (some ⟨p,0,none⟩)) (by decide) rfl
  generalize β1:Act.put _ _ _=A at HF⊢
  refine aX (i:=1) (v:=.agg c.arr) (by kernel_rfl) (by kernel_rfl) (by kernel_rfl) (some 13) rfl rfl (by kernel_rfl) (by kernel_rfl) (by kernel_rfl) (fun c a w=>FINQ c a _ _ w) ⟨KL.o _ _ _ S0.o.mid,KC.o _ _ _ S0.o.mid⟩ (by exact cG (C:=(fun W=>W.heap[w.heap.size]?=some (.cells c.arr 33 (0,0))∧W.heap[w.heap.size+1]?=some (.cells #[.int .i64 0,.int .i64 0,.int .i64 0,.int .i64 0,.int .i64 0,.int .i64 0,.int .i64 0] 38 (0,0)))) (ao rfl) 33 _ rfl (w.heap.size) (HF.get 3 rfl) 33 _ _ _ (fun W hW=>hW.1) Tryz.underlying33 rfl (by kernel_rfl)) ?_
  replace HF:=HF.put 13 (.agg c.arr) (by decide) rfl
  generalize β2:Act.put _ _ _=A at HF⊢
  refine aX (i:=2) (v:=.agg c.arr) (by kernel_rfl) (by kernel_rfl) (by kernel_rfl) (some 14) rfl rfl (by kernel_rfl) (by kernel_rfl) (by kernel_rfl) (fun c a w=>FINQ c a _ _ w) ⟨KL.o _ _ _ S0.o.mid,KC.o _ _ _ S0.o.mid⟩ (by exact cG (C:=(fun W=>W.heap[w.heap.size]?=some (.cells c.arr 33 (0,0))∧W.heap[w.heap.size+1]?=some (.cells #[.int .i64 0,.int .i64 0,.int .i64 0,.int .i64 0,.int .i64 0,.int .i64 0,.int .i64 0] 38 (0,0)))) (ao rfl) 33 _ rfl (w.heap.size) (HF.get 4 rfl) 33 _ _ _ (fun W hW=>hW.1) Tryz.underlying33 rfl (by kernel_rfl)) ?_
  replace HF:=HF.put 14 (.agg c.arr) (by decide) rfl
  generalize β3:Act.put _ _ _=A at HF⊢
  refine aX (i:=3) (v:=.int .i64 q) (by kernel_rfl) (by kernel_rfl) (by kernel_rfl) (some 15) rfl rfl (by kernel_rfl) (by kernel_rfl) (by kernel_rfl) (fun c a w=>FINQ c a _ _ w) ⟨KL.o _ _ _ S0.o.mid,KC.o _ _ _ S0.o.mid⟩ (by exact bF (ao rfl) _ rfl (HF.get 4 rfl)) ?_
  replace HF:=HF.put 15 (.int .i64 q) (by decide) rfl
  generalize β4:Act.put _ _ _=A at HF⊢
  refine aX (i:=5) (v:=.pointer (some ⟨p,0,none⟩)) (by kernel_rfl) (by kernel_rfl) (by kernel_rfl) (some 17) rfl rfl (by kernel_rfl) (by kernel_rfl) (by kernel_rfl) (fun c a w=>FINQ c a _ _ w) ⟨KL.o _ _ _ S0.o.mid,KC.o _ _ _ S0.o.mid⟩ (by exact bF (ao rfl) _ rfl (HF.get 4 rfl)) ?_
  replace HF:=HF.put 17 (.pointer (some ⟨p,0,none⟩)) (by decide) rfl
  generalize β5:Act.put _ _ _=A at HF⊢
  refine aX (i:=6) (v:=.agg c.arr) (by kernel_rfl) (by kernel_rfl) (by kernel_rfl) (some 18) rfl rfl (by kernel_rfl) (by kernel_rfl) (by kernel_rfl) (fun c a w=>FINQ c a _ _ w) ⟨KL.o _ _ _ S0.o.mid,KC.o _ _ _ S0.o.mid⟩ (by exact cG (C:=(fun W=>W.heap[w.heap.size]?=some (.cells c.arr 33 (0,0))∧W.heap[w.heap.size+1]?=some (.cells #[.int .i64 0,.int .i64 0,.int .i64 0,.int .i64 0,.int .i64 0,.int .i64 0,.int .i64 0] 38 (0,0)))) (ao rfl) 33 _ rfl (w.heap.size) (HF.get 7 rfl) 33 _ _ _ (fun W hW=>hW.1) Tryz.underlying33 rfl (by kernel_rfl)) ?_
  replace HF:=HF.put 18 (.agg c.arr) (by decide) rfl
  generalize β6:Act.put _ _ _=A at HF⊢
  refine aX (i:=7) (v:=.int .i64 q) (by kernel_rfl) (by kernel_rfl) (by kernel_rfl) (some 19) rfl rfl (by kernel_rfl) (by kernel_rfl) (by kernel_rfl) (fun c a w=>FINQ c a _ _ w) ⟨KL.o _ _ _ S0.o.mid,KC.o _ _ _ S0.o.mid⟩ (by exact bF (ao rfl) _ rfl (HF.get 7 rfl)) ?_
  replace HF:=HF.put 19 (.int .i64 q) (by decide) rfl
  generalize β7:Act.put _ _ _=A at HF⊢
  refine dd (i:=4) (some 16) (by kernel_rfl) rfl (ao rfl) rfl (fun K hK=>?_)
  refine gI (v0:=.agg c.arr) (v1:=.int .i64 q) rfl (HF.get 4 rfl) (HF.get 3 rfl) (enters_of Tryz.func78 (by kernel_rfl) rfl) ?_
  refine(YA.o _).mono ?_
  rintro e y1 ⟨rfl,hm⟩
  have S1:=hQQ (S0.o.more hm)
  clear hm
  refine hK _ _ (.inr ⟨KL.o _ _ _ S1.o.mid,KC.o _ _ _ S1.o.mid⟩) ?_
  clear hK K
  replace HF:=HF.put 16 (.int .i64 (fF c q)) (by decide) rfl
  generalize β8:Act.put _ _ _=A at HF⊢
  refine dd (i:=8) (some 20) (by kernel_rfl) rfl (ao rfl) rfl (fun K hK=>?_)
  refine gI (v0:=.agg c.arr) (v1:=.int .i64 q) rfl (HF.get 2 rfl) (HF.get 1 rfl) (enters_of Tryz.func79 (by kernel_rfl) rfl) ?_
  refine(YC.o _).mono ?_
  rintro e y2 ⟨rfl,hm⟩
  have S2:=hQQ (S1.o.more hm)
  clear hm
  refine hK _ _ (.inr ⟨KL.o _ _ _ S2.o.mid,KC.o _ _ _ S2.o.mid⟩) ?_
  clear hK K
  replace HF:=HF.put 20 (.int .i64 (cA c.pg c.st q)) (by decide) rfl
  generalize β9:Act.put _ _ _=A at HF⊢
  refine dd (i:=9) (some 21) (by kernel_rfl) rfl (ao rfl) rfl (fun K hK=>?_)
  refine gI (v0:=.pointer (some ⟨p,0,none⟩)) (v1:=.int .i64 (cA c.pg c.st q)) rfl (HF.get 4 rfl) (HF.get 0 rfl) (enters_of Tryz.func76 (by kernel_rfl) rfl) ?_
  refine(jY F p kn D (cA c.pg c.st q) _ S2.o.mid.view PB.o.2.2).mono ?_
  intro e y3 he
  rcases S2.o.mid.step (ac.refl _) HK.o (dY n PB.o.2.1) he with⟨a',hE,rfl,hd',ht',hk'⟩|⟨x3,D3,F3,hE,rfl,M',hq3,hk',hf'⟩
  ·exact FIND _ _ HF.1.2 (NEED.o a' y3 (HRr.o.symm.trans (bP hE)) hd' ht')
  have R3:=hQQ ((bK hE).symm.trans HRr.o)
  have S3:=hQQ (S2.o.went M' hk' hf')
  clear he hE M' hk' hf'
  refine hK _ _ (.inr ⟨KL.o _ _ _ S3.o.mid,KC.o _ _ _ S3.o.mid⟩) ?_
  clear hK K
  replace HF:=HF.put 21 (.int .i64 x3) (by decide) rfl
  generalize β10:Act.put _ _ _=A at HF⊢
  refine aX (i:=10) (v:=.int .i64 (wrap64 (32 * x3))) (by kernel_rfl) (by kernel_rfl) (by kernel_rfl) (some 22) rfl rfl (by kernel_rfl) (by kernel_rfl) (by kernel_rfl) (fun c a w=>FINQ c a _ _ w) ⟨KL.o _ _ _ S3.o.mid,KC.o _ _ _ S3.o.mid⟩ (by exact(Or.inl ⟨(ao rfl),fun W hW=>by have h51:=(HF.getD 0 rfl);go_simp;rw[tz]⟩)) ?_
  replace HF:=HF.put 22 (.int .i64 (wrap64 (32 * x3))) (by decide) rfl
  generalize β11:Act.put _ _ _=A at HF⊢
  have R3p:=hQQ (show aJ (mY c (fF c q) (wrap64 (32 * x3))) (fun t=>aL t) kn D3=Rr from by rw[oz];exact R3.o)
  refine dd (i:=11) (some 23) (by kernel_rfl) rfl (ao rfl) rfl (fun K hK=>?_)
  refine j0 (v0:=.pointer (some ⟨p,0,none⟩)) (v1:=.agg c.arr) (v2:=.int .i64 (fF c q)) (v3:=.int .i64 (wrap64 (32 * x3))) rfl (HF.get 10 rfl) (HF.get 9 rfl) (HF.get 3 rfl) (HF.get 0 rfl) (enters_of Tryz.func77 (by kernel_rfl) rfl) ?_
  refine(uI HR.o HH.o HW.o HN.o F3 p kn D3 (fF c q) (wrap64 (32 * x3)) _ S3.o.mid.view HK.o S3.o.mid.inv).mono ?_
  intro e y4 he
  rcases S3.o.mid.step (ac.refl _) HK.o (kp HR.o HH.o HW.o _ _) he with⟨a',hE,rfl,hd',ht',hk'⟩|⟨x4,D4,F4,hE,rfl,M',hq4,hk',hf'⟩
  ·exact FIND _ _ HF.1.2 (NEED.o a' y4 (R3p.o.symm.trans (bP hE)) hd' ht')
  have R4:=hQQ ((bK hE).symm.trans R3p.o)
  have S4:=hQQ (S3.o.went M' hk' hf')
  clear he hE M' hk' hf'
  refine hK _ _ (.inr ⟨KL.o _ _ _ S4.o.mid,KC.o _ _ _ S4.o.mid⟩) ?_
  clear hK K
  replace HF:=HF.put 23 ((vTS x4)) (by decide) rfl
  generalize β12:Act.put _ _ _=A at HF⊢
  refine dd (i:=12) none (by kernel_rfl) rfl (ao rfl) rfl (fun K hK=>?_)
  refine wp_store_row 38 _ _ rfl (w.heap.size+1) _ (HF.get 15 rfl) (HF.get 0 rfl) 38 _ (KC.o _ _ _ S4.o.mid) (by kernel_rfl) rfl (dJ _) ?_
  refine hK _ _ (.inl (by kernel_rfl)) ?_
  exact kY (by kernel_rfl) (FINE _ _ ⟨(.pointer (some ⟨p,0,none⟩)),(.agg c.arr),(.agg c.arr),(.int .i64 q),(.pointer (some ⟨p,0,none⟩)),(.agg c.arr),(.int .i64 q),(.int .i64 (fF c q)),(.int .i64 (cA c.pg c.st q)),(.int .i64 x3),(.int .i64 (wrap64 (32 * x3))),((vTS x4)),by rw[← β12,← β11,← β10,← β9,← β8,← β7,← β6,← β5,← β4,← β3,← β2,← β1]<;>rfl,x4,D4,F4,y4,rfl,S4.o.mid,R4.o.symm⟩)
 ·have d1:(k==6)=false:=by simp[h6]
  by_cases h15:1≤k∧k≤5
  ·have HRr:=hQQ (show aJ (tv c q (k-1)) (fun t=>aL t) kn D=Rr from by rw[oz,←hRr];unfold mZ;rw[if_neg h6,if_pos h15])
   have d2:decide (1≤k)=true:=by simp[h15.1]
   have d3:decide (k≤5)=true:=by simp[h15.2]
   have q1:IntKind.i64.wrap (k-1)=k-1:=aj (by omega) (by omega)
   clear hRr h6 h15
   go_enter Tryz.func39,Tryz.ntmps39
   go_wp2_with (first|(refine cL rfl rfl rfl L0.o (by kernel_rfl) ?_)|(refine cL rfl rfl rfl L0.o (by kernel_rfl) ?_))
   clear e1
   refine(Ac HR.o HH.o HW.o HN.o F p kn D q (k-1) HQ.o w1 M0.o.view HK.o M0.o.inv (HSW.o.more MM.o)).mono ?_
   intro e w3 he
   rcases M0.o.step (ac.refl _) HK.o (rx HR.o HH.o HW.o HQ.o _) he with⟨a',hE,rfl,hd',ht',_⟩|⟨x3,D3,F3,hE,rfl,M3,hq3,_,_⟩
   ·exact⟨rfl,NEED.o a' w3 (HRr.o.symm.trans (bP hE)) hd' ht'⟩
   have L3:=hQQ (KL.o _ _ _ M3)
   have R3:=hQQ ((bK hE).symm.trans HRr.o)
   have M3:=hQQ M3
   clear he hE
   have C3:=hQQ (KC.o _ _ _ M3.o)
   have FIN:=hQQ (DONE.o x3 w3 D3 F3 R3.o.symm M3.o)
   simp only[vTS]
   go_wp2_with (refine wpList_store_row rfl 38 _ _ rfl (w.heap.size+1) (TS.arr x3) rfl rfl 38 _ C3.o (by kernel_rfl) rfl (dJ _) ?_)
   refine bodyPost_ret (v:=.agg (TS.arr x3)) (results_cell_row Tryz.results39 _ _ _ 38 _ (0,0) _ rfl (setRow_heap _ _ _ _ _ _ C3.o) Tryz.underlying38 rfl (by kernel_rfl)) rfl FIN.o
  ·have hR0:Rr=.ok noT D:=by rw[←hRr];unfold mZ;rw[if_neg h6,if_neg h15];rfl
   have FIN:=hQQ (DONE.o noT w1 D F hR0 M0.o)
   clear hRr hR0
   by_cases h1:1≤k
   ·have d2:decide (1≤k)=true:=by simp[h1]
    have d3:decide (k≤5)=false:=by simp;omega
    clear h6 h15 h1
    go_enter Tryz.func39,Tryz.ntmps39
    go_wp2_with (refine wpList_store_row rfl 38 _ _ rfl (w.heap.size+1) (TS.arr noT) rfl rfl 38 _ C0.o (by kernel_rfl) rfl (dJ _) ?_)
    refine bodyPost_ret (v:=.agg (TS.arr noT)) (results_cell_row Tryz.results39 _ _ _ 38 _ (0,0) _ rfl (setRow_heap _ _ _ _ _ _ C0.o) Tryz.underlying38 rfl (by kernel_rfl)) rfl FIN.o
   ·have d2:decide (1≤k)=false:=by simp;omega
    clear h6 h15 h1
    go_enter Tryz.func39,Tryz.ntmps39
    go_wp2_with (refine wpList_store_row rfl 38 _ _ rfl (w.heap.size+1) (TS.arr noT) rfl rfl 38 _ C0.o (by kernel_rfl) rfl (dJ _) ?_)
    refine bodyPost_ret (v:=.agg (TS.arr noT)) (results_cell_row Tryz.results39 _ _ _ 38 _ (0,0) _ rfl (setRow_heap _ _ _ _ _ _ C0.o) Tryz.underlying38 rfl (by kernel_rfl)) rfl FIN.o
theorem DV (s:TS)(z:Int):s.arr.setIfInBounds 5 (.int .i64 z)=({ s with ma:=z } :TS).arr:=by simp[TS.arr]
theorem DW (s:TS)(z:Int):s.arr.setIfInBounds 6 (.int .i64 z)=({ s with us:=z } :TS).arr:=by simp[TS.arr]
theorem CtS.turn {c:Cfg}{w1 W W':World}{F F':Nat→Prop}{p n gs:Nat}{kn:Int→Option Int}{s t:TS}{D:List KV}(h:CtS c w1 F p kn n gs s D F' W)(T:Turned (fun k=>k=gs) W W')(hb:W'.heap[gs]?=some (.cells t.arr 38 (0,0))):CtS c w1 F p kn n gs t D F' W':=by
 refine⟨⟨h.mid.view.keepS (S:=fun k=>k=gs) T (fun k q e=>h.off (e▸q)) (fun k es cl e q=>by subst e;rw[h.box] at q;cases q),
  h.mid.from',aw h.mid.turn T (fun k q=>by
   subst q
   exact .inr h.ge),h.mid.inv⟩,hb,h.off,h.ge⟩
theorem Db {c:Cfg}(R:c.Ok){n:Nat}(H:PgIn c.pg c.st n)(hw:(n:Int)=c.words)(hn:n≤10000){bt:Nat}(F:Nat→Prop)(p:Nat)(kn:Int→Option Int)(D:List KV)(q:Int)(hq64:W64 q)(w:World)(hv:bB w F p kn D)(hk:OkK kn)(hD:eF n D)(hs:gK bt w)(n0:¬F 0)(nb:¬F bt):
 Calls Tryz.prog 12 #[.pointer (some ⟨p,0,none⟩),.agg c.arr,.int .i64 q] w (aZ w F p kn vTS (nC c q kn D)):=by
 obtain⟨Rr,hRr⟩:∃Rr,nC c q kn D=Rr:=⟨_,rfl⟩
 rw[hRr]
 have YK:=hQQ (fun W=>show Calls Tryz.prog 37 #[.agg c.arr,.int .i64 q] W (aD W (.int .i64 (cm c.pg c.st 0 q))) from sH R W q)
 have HW:=hQQ hw
 have HN:=hQQ hn
 have HSW:=hQQ hs
 have N0:=hQQ n0
 have NB:=hQQ nb
 have Q64:=hQQ hq64
 obtain⟨w1,e1,hl1,hr1,m1,s1⟩:=kD w (.cells c.arr 33) (.cells #[.int .i64 0,.int .i64 0,.int .i64 0,.int .i64 0,.int .i64 0,.int .i64 0,.int .i64 0] 38)
 have nFl:¬F w.heap.size:=fun q=>by have:=hv.lt _ q;omega
 have nFr:¬F (w.heap.size+1):=fun q=>by have:=hv.lt _ q;omega
 have MM:=hQQ m1
 have L0:=hQQ hl1
 have C0:=hQQ hr1
 have M0:=m0Z (hv.more m1) hD
 have KL:=klZ (p:=p) (kn:=kn) (n:=n) L0.o nFl
 have KC:Hq (∀wr D' F',MidV w1 wr F (fun _=>False) p kn n D' F'→wr.heap[w.heap.size+1]?=some (.cells #[.int .i64 0,.int .i64 0,.int .i64 0,.int .i64 0,.int .i64 0,.int .i64 0,.int .i64 0] 38 (0,0))):=hQQ fun wr D' F' h=>i7 h C0.o nFr (fun q=>q)
 have NEED:=ndZ (F:=F) (p:=p) (kn:=kn) (R:=Rr) vTS MM.o
 have DONE:Hq (∀(x:TS) w2 D' F',Rr=.ok x D'→MidV w1 w2 F (fun _=>False) p kn n D' F'→aZ w F p kn vTS Rr (.returned (.agg x.arr)) (w2.setRow (w.heap.size+1) x.arr)):=hQQ fun x w2 D' F' e h=>iP (g:=w.heap.size+1) MM.o h e (by omega) (by have:=af C0.o;omega) nFr (KC.o _ _ _ h) (Turned.setRow (Turned.refl _ w2) _ _ (fun _=>rfl))
 have HK:=hQQ hk
 have HR:=hQQ R
 have HH:=hQQ H
 clear hl1 hr1 m1 hv hD hk R H nFl nFr
 have HS:Hq (∀wr D' F',MidV w1 wr F (fun _=>False) p kn n D' F'→gK bt wr):=hQQ fun wr D' F' h=>(HSW.o.more MM.o).keep h.turn (by rintro(z|z);exact N0.o z;exact z) (by rintro(z|z);exact NB.o z;exact z)
 clear hw hn hs n0 nb hq64
 cases hq:ah c.pg q with
 |false =>
  have hR0:Rr=.ok noT D:=by rw[←hRr];unfold nC;rw[hq];rfl
  have FIN:Hq (∀W,ac w1 W→aZ w F p kn vTS Rr (.returned (.agg noT.arr)) (W.setRow (w.heap.size+1) noT.arr)):=hQQ fun W m=>DONE.o noT W D F hR0 (M0.o.more m)
  have YK0:=hQQ (fun W=>Cc (st:=c.st) (i:=0) hq▸YK.o W)
  clear hRr hR0 hq YK
  go_enter Tryz.func12,Tryz.ntmps12
  go_wp2_with (first|(refine cL rfl rfl rfl L0.o (by kernel_rfl) ?_)|(refine cL rfl rfl rfl L0.o (by kernel_rfl) ?_))
  clear e1
  refine(YK0.o _).mono ?_
  rintro e w2 ⟨rfl,h2⟩
  have C2:=hQQ (h2.block C0.o)
  have H2:=hQQ h2
  clear h2
  go_wp2_with (refine wpList_store_row rfl 38 _ _ rfl (w.heap.size+1) (TS.arr noT) rfl rfl 38 _ C2.o (by kernel_rfl) rfl (dJ _) ?_)
  refine bodyPost_ret (v:=.agg (TS.arr noT)) (results_cell_row Tryz.results12 _ _ _ 38 _ (0,0) _ rfl (setRow_heap _ _ _ _ _ _ C2.o) Tryz.underlying38 rfl (by kernel_rfl)) rfl (FIN.o _ H2.o)
 |true =>
  have HRr:=hQQ (show aJ (ff c.pg c.st q) (fun k=>aJ (mZ c q k) (fun s=>aJ (fu c.pg c.st q 1) (fun b=>aL (na s b k)))) kn D=Rr from by rw[←hRr];unfold nC;rw[hq];rfl)
  have YK0:=hQQ (fun W=>tX (st:=c.st) hq▸YK.o W)
  have hz:=(cH HH.o hq).1.1
  have d1:(kA c.pg c.st q==0)=false:=by simp;omega
  have HQ:=hQQ hq
  clear hRr hq YK hz
  go_enter Tryz.func12,Tryz.ntmps12
  go_wp2_with (first|(refine cL rfl rfl rfl L0.o (by kernel_rfl) ?_)|(refine cL rfl rfl rfl L0.o (by kernel_rfl) ?_))
  clear e1
  refine(YK0.o _).mono ?_
  rintro e w2 ⟨rfl,h2⟩
  have M2:=hQQ (M0.o.more h2)
  have L2:=hQQ (KL.o _ _ _ M2.o)
  clear h2
  go_wp2_with (first|(refine cL rfl rfl rfl L2.o (by kernel_rfl) ?_)|(refine cL rfl rfl rfl L2.o (by kernel_rfl) ?_))
  refine(CC HR.o HH.o F p kn D q w2 M2.o.view HK.o M2.o.inv).mono ?_
  intro e w3 he
  rcases M2.o.step (ac.refl _) HK.o (nX HH.o q) he with⟨a',hE,rfl,hd',ht',_⟩|⟨x3,D3,F3,hE,rfl,M3,hq3,_,_⟩
  ·exact⟨rfl,NEED.o a' w3 (HRr.o.symm.trans (bP hE)) hd' ht'⟩
  have L3:=hQQ (KL.o _ _ _ M3)
  have R3:=hQQ ((bK hE).symm.trans HRr.o)
  have M3:=hQQ M3
  clear he hE
  go_wp2_with (first|(refine cL rfl rfl rfl L3.o (by kernel_rfl) ?_)|(refine cL rfl rfl rfl L3.o (by kernel_rfl) ?_))
  refine(BG HR.o HH.o HW.o HN.o F3 p kn D3 q x3 HQ.o w3 M3.o.view HK.o M3.o.inv (HS.o _ _ _ M3.o)).mono ?_
  intro e w4 he
  rcases M3.o.step (ac.refl _) HK.o (ry HR.o HH.o HW.o HQ.o x3) he with⟨a',hE,rfl,hd',ht',_⟩|⟨x4,D4,F4,hE,rfl,M4,hq4,_,_⟩
  ·exact⟨rfl,NEED.o a' w4 (R3.o.symm.trans (bP hE)) hd' ht'⟩
  have L4:=hQQ (KL.o _ _ _ M4)
  have R4:=hQQ ((bK hE).symm.trans R3.o)
  have M4:=hQQ M4
  clear he hE
  obtain⟨w5,e5,hb5,m5,s5⟩:=dw w4 (.cells #[.int .i64 0,.int .i64 0,.int .i64 0,.int .i64 0,.int .i64 0,.int .i64 0,.int .i64 0] 38)
  have B5:=hQQ hb5
  obtain⟨w6,e6⟩:∃w6,w5.setRow w4.heap.size x4.arr=w6:=⟨_,rfl⟩
  have S6:Hq (CtS c w1 F p kn n w4.heap.size x4 D4 F4 w6):=hQQ (by
   have h5:CtS c w1 F p kn n w4.heap.size noT D4 F4 w5:=⟨M4.o.more m5,hb5,fun z=>by have:=M4.o.view.lt _ z;omega,by have:=M4.o.size;omega⟩
   rw[←e6]
   exact h5.put x4)
  have L6:=hQQ (KL.o _ _ _ S6.o.mid)
  clear hb5 m5 s5 M3 L3 R3 M2 L2 HRr M4 L4
  simp only[vTS]
  go_wp2_with (first|(refine wpList_store_row rfl 38 _ _ rfl w4.heap.size x4.arr rfl rfl 38 _ B5.o (by kernel_rfl) rfl (dJ _) ?_;rw[e6])|(first|(refine cL rfl rfl rfl L6.o (by kernel_rfl) ?_)|(refine cL rfl rfl rfl L6.o (by kernel_rfl) ?_)))
  clear e5 e6 B5
  generalize w4.heap.size=gs at S6
  refine(yg HR.o HH.o.toTblIn F4 p kn D4 q 1 Q64.o w6 S6.o.mid.view HK.o S6.o.mid.inv).mono ?_
  intro e w7 he
  rcases S6.o.mid.step (ac.refl _) HK.o (lm HH.o.toTblIn q 1) he with⟨a',hE,rfl,hd',ht',hk'⟩|⟨x7,D7,F7,hE,rfl,M',hq7,hk',hf'⟩
  ·exact⟨rfl,NEED.o a' w7 (R4.o.symm.trans (bP hE)) hd' ht'⟩
  have R7:=hQQ ((bK hE).symm.trans R4.o)
  have S7:=hQQ (S6.o.went M' hk' hf')
  clear he hE M' hk' hf'
  clear S6 L6 R4
  go_wp2_with fail
  refine(Ci x7 w7).mono ?_
  rintro e w8 ⟨rfl,h8⟩
  have S8:=hQQ (S7.o.more h8)
  have BX8:=hQQ S8.o.box
  clear h8 S7
  go_wp2_with (refine dx rfl 3 _ _ rfl rfl gs 5 rfl (b2i x7) rfl _ _ BX8.o (by simp[TS.arr]) (by kernel_rfl) ?_;rw[DV];intro w9 hb9 ht9;have S9:=hQQ (S8.o.turn ht9 hb9);clear hb9 ht9)
  refine(Ci (!(x3==0)) w9).mono ?_
  rintro e w10 ⟨rfl,h10⟩
  have S10:=hQQ (S9.o.more h10)
  have BX10:=hQQ S10.o.box
  clear h10 S8 BX8 S9
  have hres:({ ({ x4 with ma:=b2i x7 } :TS) with us:=b2i (!(x3==0)) } :TS)=na x4 x7 x3:=rfl
  have HRES:=hQQ hres
  have FIN:Hq (∀W,CtS c w1 F p kn n gs (na x4 x7 x3) D7 F7 W→aZ w F p kn vTS Rr (.returned (.agg (na x4 x7 x3).arr)) (W.setRow (w.heap.size+1) (na x4 x7 x3).arr)):=hQQ fun W h=>DONE.o (na x4 x7 x3) W D7 F7 R7.o.symm h.mid
  clear hres R7
  go_wp2_with (first
   |(refine dx rfl 3 _ _ rfl rfl gs 6 rfl (b2i (!(x3==0))) rfl _ _ BX10.o (by simp[TS.arr]) (by kernel_rfl) ?_;rw[DW,HRES.o];intro w11 hb11 ht11;have S11:=hQQ (S10.o.turn ht11 hb11);have B11:=hQQ hb11;have C11:=hQQ (KC.o _ _ _ S11.o.mid);have FN:=hQQ (FIN.o _ S11.o);clear hb11 ht11 FIN S10 BX10)
   |(refine ag rfl rfl rfl B11.o (by kernel_rfl) ?_)
   |(refine wpList_store_row rfl 38 _ _ rfl (w.heap.size+1) (na x4 x7 x3).arr rfl rfl 38 _ C11.o (by kernel_rfl) rfl (dJ _) ?_))
  refine bodyPost_ret (v:=.agg (na x4 x7 x3).arr) (results_cell_row Tryz.results12 _ _ _ 38 _ (0,0) _ rfl (setRow_heap _ _ _ _ _ _ C11.o) Tryz.underlying38 rfl (by kernel_rfl)) rfl FN.o
theorem BI {c:Cfg}(R:c.Ok){n:Nat}(H:PgIn c.pg c.st n)(hw:(n:Int)=c.words)(hn:n≤10000){bt:Nat}(F:Nat→Prop)(p:Nat)(kn:Int→Option Int)(D:List KV)(w:World)(hv:bB w F p kn D)(hk:OkK kn)(hD:eF n D)(hs:gK bt w)(n0:¬F 0)(nb:¬F bt):
 Calls Tryz.prog 13 #[.pointer (some ⟨p,0,none⟩),.agg c.arr] w (aZ w F p kn vTS (pV c kn D)):=by
 obtain⟨Rr,hRr⟩:∃Rr,pV c kn D=Rr:=⟨_,rfl⟩
 rw[hRr]
 have HW:=hQQ hw
 have HN:=hQQ hn
 have HSW:=hQQ hs
 have N0:=hQQ n0
 have NB:=hQQ nb
 have pg1:=R.pg1
 have pg2:=R.pg2
 obtain⟨w1,e1,hl1,hr1,m1,s1⟩:=kD w (.cells c.arr 33) (.cells #[.int .i64 0,.int .i64 0,.int .i64 0,.int .i64 0,.int .i64 0,.int .i64 0,.int .i64 0] 38)
 have nFl:¬F w.heap.size:=fun q=>by have:=hv.lt _ q;omega
 have nFr:¬F (w.heap.size+1):=fun q=>by have:=hv.lt _ q;omega
 have MM:=hQQ m1
 have L0:=hQQ hl1
 have C0:=hQQ hr1
 have M0:=m0Z (hv.more m1) hD
 have KL:=klZ (p:=p) (kn:=kn) (n:=n) L0.o nFl
 have KC:Hq (∀wr D' F',MidV w1 wr F (fun _=>False) p kn n D' F'→wr.heap[w.heap.size+1]?=some (.cells #[.int .i64 0,.int .i64 0,.int .i64 0,.int .i64 0,.int .i64 0,.int .i64 0,.int .i64 0] 38 (0,0))):=hQQ fun wr D' F' h=>i7 h C0.o nFr (fun q=>q)
 have NEED:=ndZ (F:=F) (p:=p) (kn:=kn) (R:=Rr) vTS MM.o
 have DONE:Hq (∀(x:TS) w2 D' F',Rr=.ok x D'→MidV w1 w2 F (fun _=>False) p kn n D' F'→aZ w F p kn vTS Rr (.returned (.agg x.arr)) (w2.setRow (w.heap.size+1) x.arr)):=hQQ fun x w2 D' F' e h=>iP (g:=w.heap.size+1) MM.o h e (by omega) (by have:=af C0.o;omega) nFr (KC.o _ _ _ h) (Turned.setRow (Turned.refl _ w2) _ _ (fun _=>rfl))
 have HK:=hQQ hk
 have HR:=hQQ R
 have HH:=hQQ H
 clear hl1 hr1 m1 hv hD hk R H nFl nFr
 have HS:Hq (∀wr D' F',MidV w1 wr F (fun _=>False) p kn n D' F'→gK bt wr):=hQQ fun wr D' F' h=>(HSW.o.more MM.o).keep h.turn (by rintro(z|z);exact N0.o z;exact z) (by rintro(z|z);exact NB.o z;exact z)
 have NZ:Hq (∀wr D' F',MidV w1 wr F (fun _=>False) p kn n D' F'→¬F' 0∧¬F' bt):=hQQ fun wr D' F' h=>⟨h.off (HSW.o.more MM.o).lt0 N0.o,h.off (HSW.o.more MM.o).lt NB.o⟩
 clear hw hn hs n0 nb
 obtain⟨w2,e2,hb2,m2,s2⟩:=dw w1 (.cells #[.int .i64 0,.int .i64 0,.int .i64 0,.int .i64 0,.int .i64 0,.int .i64 0,.int .i64 0] 38)
 have S2:Hq (CtS c w1 F p kn n w1.heap.size noT D F w2):=hQQ ⟨M0.o.more m2,hb2,fun z=>by have:=M0.o.view.lt _ z;omega,Nat.le_refl _⟩
 have L2:=hQQ (KL.o _ _ _ S2.o.mid)
 have HRr:=hQQ (show pU c c.pg.toNat 0 noT kn D=Rr from hRr)
 have hfl:=li c
 clear hRr hb2 m2 s2 s1
 go_enter Tryz.func13,Tryz.ntmps13
 go_wp2_with (first|(refine cL rfl rfl rfl L2.o (by kernel_rfl) ?_)|(refine cL rfl rfl rfl L2.o (by kernel_rfl) ?_))
 clear e1 e2
 refine(qx HR.o w2).mono ?_
 rintro e w3 ⟨rfl,h3⟩
 have S3:=hQQ (S2.o.more h3)
 clear h3 S2 L2
 generalize w1.heap.size=gs at S3
 go_wp2_with fail
 go_loopw [10] (fun iv wr=>∃(j:Nat) (s:TS) (D':List KV) (F':Nat→Prop),iv=.int .i64 j∧(j:Int)≤c.pg∧CtS c w1 F p kn n gs s D' F' wr∧pU c (c.pg.toNat-j) (j:Int) s kn D'=Rr) (fun iv _=>c.pg.toNat-(intOf iv).toNat)
 case atStart=>exact⟨0,noT,D,F,rfl,by omega,S3.o,by simpa using HRr.o⟩
 case round =>
  obtain⟨j,s,DD,FF,rfl,hj,hS,hR⟩:=hrel
  have SR:=hQQ hS
  clear S3 HRr hS hfl
  by_cases hlt:(j:Int)<c.pg
  ·obtain⟨m,hm⟩:∃m,c.pg.toNat-j=m+1:=⟨c.pg.toNat-j-1,by omega⟩
   have hm2:c.pg.toNat-(j+1)=m:=by omega
   rw[hm] at hR
   have RR:=hQQ (show aJ (nC c (j:Int)) (fun t=>pU c m ((j:Int)+1) (bj s t)) kn DD=Rr from hR)
   have d1:decide ((j:Int)<c.pg)=true:=by simp[hlt]
   have q1:IntKind.i64.wrap ((j:Int)+1)=(j:Int)+1:=aj (by omega) (by omega)
   have HM2:=hQQ hm2
   have J64:Hq (W64 (j:Int)):=hQQ (by unfold W64;omega)
   clear hR hm hm2
   go_wp2_with fail
   refine gk (fun W=>W.heap[w.heap.size]?=some (.cells c.arr 33 (0,0))∧W.heap[gs]?=some (.cells s.arr 38 (0,0))) 6 (by kernel_rfl) ?_
   change jM _ _ _ _ _ _ _ _ _ (wr.drewN 1)
   have M0:Hq (ac wr (wr.drewN 1)):=hQQ ((ac.refl wr).drewN 1)
   generalize wr.drewN 1=wq at M0⊢
   have S0:=hQQ (SR.o.more M0.o)
   generalize hA:Act.mk _ _=A
   have HF:AG 21 A [(0,.pointer (some ⟨p,0,none⟩)),(3,.pointer (some ⟨w.heap.size,0,none⟩)),(5,.pointer (some ⟨gs,0,none⟩)),(6,.int .i64 (j:Int))]:=by
    rw[←hA];try simp only[pts,List.foldl]
    refine⟨⟨Nat.le_of_ble_eq_true rfl,rfl⟩,?_⟩
    intro z hz;simp only[List.mem_cons,List.not_mem_nil,or_false] at hz;rcases hz with rfl|rfl|rfl|rfl<;>rfl
   refine jN (fun aa W=>∃(u13 u14 u15 u16 u17 u18:Value),aa=(Act.put (pts A [(13,u13),(14,u14),(15,u15),(16,u16),(17,u17),(18,u18)]) none undef)∧∃t D9 F9 wy,W=wy.setRow gs (bj s t).arr∧CtS c w1 F p kn n gs s D9 F9 wy∧pU c m ((j:Int)+1) (bj s t) kn D9=Rr) (fun W=>aZ w F p kn vTS Rr (.panicked (eB p)) W) (eB p) (fun a W hd h=>⟨hd,h⟩) (fun _ _ _ _ _ h=>h) ?_ ?_
   ·skip
    rintro a9 wv ⟨u13,u14,u15,u16,u17,u18,rfl,t,D9,F9,wy,rfl,S9,R9⟩
    rw[←hA];try simp only[pts,List.foldl]
    have SV:=hQQ (S9.put (bj s t))
    have RV:=hQQ R9
    generalize wy.setRow gs (bj s t).arr=wv at SV⊢
    clear HF hA M0 S0 S9 R9 RR SR
    go_simp
    go_wp2_with fail
    go_roundw
    case rel=>exact⟨j+1,bj s t,D9,F9,by go_num,by omega,SV.o,by rw[HM2.o,show(((j+1:Nat):Int))=(j:Int)+1 by omega];exact RV.o⟩
    case measure=>simp[intOf];omega
   intro QQ FINE FIND FINQ
   clear hA
   refine aX (i:=0) (v:=.agg s.arr) (by kernel_rfl) (by kernel_rfl) (by kernel_rfl) (some 13) rfl rfl (by kernel_rfl) (by kernel_rfl) (by kernel_rfl) (fun c a w=>FINQ c a _ _ w) (S0.o.cls KL.o) (by exact cG (C:=(fun W=>W.heap[w.heap.size]?=some (.cells c.arr 33 (0,0))∧W.heap[gs]?=some (.cells s.arr 38 (0,0)))) (ao rfl) 38 _ rfl (gs) (HF.get 2 rfl) 38 _ _ _ (fun W hW=>hW.2) Tryz.underlying38 rfl (by kernel_rfl)) ?_
   replace HF:=HF.put 13 (.agg s.arr) (by decide) rfl
   generalize β1:Act.put _ _ _=A at HF⊢
   refine aX (i:=1) (v:=.pointer (some ⟨p,0,none⟩)) (by kernel_rfl) (by kernel_rfl) (by kernel_rfl) (some 14) rfl rfl (by kernel_rfl) (by kernel_rfl) (by kernel_rfl) (fun c a w=>FINQ c a _ _ w) (S0.o.cls KL.o) (by exact bF (ao rfl) _ rfl (HF.get 1 rfl)) ?_
   replace HF:=HF.put 14 (.pointer (some ⟨p,0,none⟩)) (by decide) rfl
   generalize β2:Act.put _ _ _=A at HF⊢
   refine aX (i:=2) (v:=.agg c.arr) (by kernel_rfl) (by kernel_rfl) (by kernel_rfl) (some 15) rfl rfl (by kernel_rfl) (by kernel_rfl) (by kernel_rfl) (fun c a w=>FINQ c a _ _ w) (S0.o.cls KL.o) (by exact cG (C:=(fun W=>W.heap[w.heap.size]?=some (.cells c.arr 33 (0,0))∧W.heap[gs]?=some (.cells s.arr 38 (0,0)))) (ao rfl) 33 _ rfl (w.heap.size) (HF.get 3 rfl) 33 _ _ _ (fun W hW=>hW.1) Tryz.underlying33 rfl (by kernel_rfl)) ?_
   replace HF:=HF.put 15 (.agg c.arr) (by decide) rfl
   generalize β3:Act.put _ _ _=A at HF⊢
   refine aX (i:=3) (v:=.int .i64 (j:Int)) (by kernel_rfl) (by kernel_rfl) (by kernel_rfl) (some 16) rfl rfl (by kernel_rfl) (by kernel_rfl) (by kernel_rfl) (fun c a w=>FINQ c a _ _ w) (S0.o.cls KL.o) (by exact bF (ao rfl) _ rfl (HF.get 6 rfl)) ?_
   replace HF:=HF.put 16 (.int .i64 (j:Int)) (by decide) rfl
   generalize β4:Act.put _ _ _=A at HF⊢
   refine dd (i:=4) (some 17) (by kernel_rfl) rfl (ao rfl) rfl (fun K hK=>?_)
   refine mo (v0:=.pointer (some ⟨p,0,none⟩)) (v1:=.agg c.arr) (v2:=.int .i64 (j:Int)) rfl (HF.get 2 rfl) (HF.get 1 rfl) (HF.get 0 rfl) (enters_of Tryz.func12 (by kernel_rfl) rfl) ?_
   refine(Db HR.o HH.o HW.o HN.o FF p kn DD (j:Int) J64.o _ S0.o.mid.view HK.o S0.o.mid.inv (HS.o _ _ _ S0.o.mid) (NZ.o _ _ _ S0.o.mid).1 (NZ.o _ _ _ S0.o.mid).2).mono ?_
   intro e y1 he
   rcases S0.o.mid.step (ac.refl _) HK.o (rz HR.o HH.o HW.o _) he with⟨a',hE,rfl,hd',ht',hk'⟩|⟨x1,D1,F1,hE,rfl,M',hq1,hk',hf'⟩
   ·exact FIND _ _ HF.1.2 (NEED.o a' y1 (RR.o.symm.trans (bP hE)) hd' ht')
   have R1:=hQQ ((bK hE).symm.trans RR.o)
   have S1:=hQQ (S0.o.went M' hk' hf')
   clear he hE M' hk' hf'
   refine hK _ _ (.inr (S1.o.cls KL.o)) ?_
   clear hK K
   replace HF:=HF.put 17 ((vTS x1)) (by decide) rfl
   generalize β5:Act.put _ _ _=A at HF⊢
   refine dd (i:=5) (some 18) (by kernel_rfl) rfl (ao rfl) rfl (fun K hK=>?_)
   refine gI (v0:=.agg s.arr) (v1:=(vTS x1)) rfl (HF.get 4 rfl) (HF.get 0 rfl) (enters_of Tryz.func20 (by kernel_rfl) rfl) ?_
   refine(kr s x1 _).mono ?_
   rintro e y2 ⟨rfl,hm⟩
   have S2:=hQQ (S1.o.more hm)
   clear hm
   refine hK _ _ (.inr (S2.o.cls KL.o)) ?_
   clear hK K
   replace HF:=HF.put 18 (.agg (bj s x1).arr) (by decide) rfl
   generalize β6:Act.put _ _ _=A at HF⊢
   refine dd (i:=6) none (by kernel_rfl) rfl (ao rfl) rfl (fun K hK=>?_)
   refine wp_store_row 38 _ _ rfl gs _ (HF.get 8 rfl) (HF.get 0 rfl) 38 _ S2.o.box (by kernel_rfl) rfl (dJ _) ?_
   refine hK _ _ (.inl (by kernel_rfl)) ?_
   exact kY (by kernel_rfl) (FINE _ _ ⟨(.agg s.arr),(.pointer (some ⟨p,0,none⟩)),(.agg c.arr),(.int .i64 (j:Int)),((vTS x1)),(.agg (bj s x1).arr),by rw[← β6,← β5,← β4,← β3,← β2,← β1]<;>rfl,x1,D1,F1,y2,rfl,S2.o,R1.o⟩)
  ·have hje:c.pg.toNat-j=0:=by omega
   have hR':aL s kn DD=Rr:=by rw[hje] at hR;exact hR
   have d1:decide ((j:Int)<c.pg)=false:=by simp;omega
   have BX:=hQQ SR.o.box
   have CR:=hQQ (KC.o _ _ _ SR.o.mid)
   have FIN:=hQQ (DONE.o s wr DD FF hR'.symm SR.o.mid)
   clear hR hR' SR hje
   go_wp2_with (first|(refine ag rfl rfl rfl BX.o (by kernel_rfl) ?_)|(refine wpList_store_row rfl 38 _ _ rfl (w.heap.size+1) s.arr rfl rfl 38 _ CR.o (by kernel_rfl) rfl (dJ _) ?_))
   refine bodyPost_ret (v:=.agg s.arr) (results_cell_row Tryz.results13 _ _ _ 38 _ (0,0) _ rfl (setRow_heap _ _ _ _ _ _ CR.o) Tryz.underlying38 rfl (by kernel_rfl)) rfl FIN.o
end Go.Proofs.YtfddhogffpkhcaaGreatDoor
