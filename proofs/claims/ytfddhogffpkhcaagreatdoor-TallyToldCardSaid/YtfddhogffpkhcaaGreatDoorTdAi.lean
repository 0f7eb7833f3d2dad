/-
  The document's own front (assartref14): Take.
-/
import Derived.Test.YtfddhogffpkhcaaGreatDoorTdAh
import Derived.Test.YtfddhogffpkhcaaGreatDoorTdAe
import Derived.Test.YtfddhogffpkhcaaGreatDoorTdAd
import Derived.Test.YtfddhogffpkhcaaGreatDoorTdAf
import Derived.Test.YtfddhogffpkhcaaGreatDoorTdAg
import Derived.Deep.Cut
import Derived.Deep.CutRange
set_option maxRecDepth 100000
set_option maxHeartbeats 8000000
set_option linter.all false
namespace Go.Proofs.YtfddhogffpkhcaaGreatDoor
open Go.RowKit Go.Sort Go.Maps Go.Shelf
theorem fu {P:Program}{fn:Func}{p u u':Tmp}{ty:TypeId}(h:fn.results= #[.tmp u,.cell p ty,.tmp u'])(tmps:Array Value)(w:World)(g:Nat)(t:TypeId)(cs:Array Value)(fr:Nat×Nat)(d:TypeDesc)
 (hp:tmps.getD p undef=.pointer (some ⟨g,0,none⟩)) (hg:w.heap[g]?=some (.cells cs t fr))
 (hu:P.underlying ty=some d) (hd:(match d with| .struct _| .array _ _=>true|_=>false)=true) (hi:(P.info? ty).map (·.size)=some cs.size):
 (results fn tmps).run P w=.ok (.tuple #[tmps.getD u undef,.agg cs,tmps.getD u' undef]) w:=by
 have hp':tmps[p]?.getD undef=.pointer (some ⟨g,0,none⟩):=by simpa using hp
 have hl:=run_loadVar_row w g t ty cs fr d hg hu hd hi
 simp[results,h,hp',asAddr,hl]
theorem kN (its:List It)(c a l:Int):(j2 its c a l).length≤its.length+1:=by
 unfold j2
 split<;>simp
def i6 (w:World)(g cap len:Nat)(res:((Int×Bool)×(Nat→List Int))×List Int)(e:Ending)(w':World):Prop :=
 ∃v' its',e=.returned (.tuple #[.int .i64 res.1.1.1,.agg #[v'],.bool res.1.1.2])∧IR 0 w' v' its'∧Eqv res.1.2 its'∧its'.length≤len+8∧Ws w' g cap res.2∧Turned (fun b=>b=g) w w'
theorem jp {w w':World}{g cap:Nat}{ws:List Int}{v:Value}{its:List It}(h:IR 0 w v its)(hw:Ws w g cap ws)(t:Turned (fun b=>b=g) w w'):IR 0 w' v its :=
 h.keep t (fun k q=>by subst q;obtain⟨cur,hg,_⟩:=hw;exact⟨_,_,_,hg,by decide⟩)
theorem Fm {c:Cfg}(R:c.Ok)(ws:List Int)(H:cB c.pg c.st ws.length)(hl:ws.length≤1000)(hww:(ws.length:Int)=c.words){r:Gh}{C:Nat→List Int}{O:List (Int×Int)}{u k:Nat}{P:Nat→List Int}(hP:∀j,j<5→((P j).length:Int)≤c.pr)(F:FrI c.us c.pg c.st ws.length (bh c) r ws C (puO P++O))(g cap:Nat)(hu:(u:Int)<c.cp)(hk:k<5)(v:Value)(its:List It)(he:Eqv P its)(hlen:its.length≤10000)(w:World)(hv:IR 0 w v its)(hw:Ws w g cap ws):
 Calls Tryz.prog 59 #[.agg c.cells,.slice (some ⟨g,0,none⟩) ws.length cap,.int .i64 (u:Int),.agg #[v],.int .i64 (k:Int)] w (i6 w g cap its.length (tkW c u P k ws)):=by
 have efr:BZ c (u:Int) (k:Int):=⟨by omega,by omega,by omega,hu⟩
 have ewk:tkW c (u:Int) P (k:Int) ws=kM c.us c.pg c.st (bh c) (5 * u+k) (5 * c.cp.toNat+k) k c.pr (frM c) P ws:=by
  unfold tkW;rw[if_pos efr];rfl
 obtain⟨res,hres⟩:∃res,tkW c (u:Int) P (k:Int) ws=res:=⟨_,rfl⟩
 rw[hres]
 rw[ewk] at hres
 unfold kM at hres
 have HRS:=hQQ hres
 obtain⟨xp,hxp⟩:∃x,qV P (k:Int)=x:=⟨_,rfl⟩
 have HXP:=hQQ hxp
 clear efr ewk hres hxp
 obtain⟨av,cv,rfl,_,_,_⟩:=hv.at
 obtain⟨n0,hn0⟩:∃n0,its.length=n0:=⟨_,rfl⟩
 rw[hn0] at hlen⊢
 obtain⟨its',PI,EQ'⟩:=he.pop (k:Int)
 have PO:=hQQ (fun W (hW:IR 0 W (.slice av n0 cv) its)=>PI.calls (.slice av n0 cv) W hW (by omega))
 rw[hn0] at hv
 obtain⟨w3,e3,hb1,hb2,hb3,m3,s3⟩:=lT w (.cells c.cells 27) (.cells #[.slice av n0 cv] 62) (.cells #[.slice none 0 0] 62)
 have MM:=hQQ m3
 have B1:=hQQ hb1
 have B2:=hQQ hb2
 have B3:=hQQ hb3
 have NO:=hQQ (fun W=>vS R hu hk W)
 have hg:=hw.lt
 have IR0:=hQQ (hv.more m3)
 have X0:=hQQ (hw.more m3)
 have hb2':w3.heap[w.heap.size+1]?=some (.cells #[.slice av n0 cv] 62 (0,0)):=hb2
 have y2:w3.cell? ⟨w.heap.size+1,0,none⟩=some (.slice av n0 cv):=by simp[World.cell?,hb2]
 have Y2:=hQQ y2
 have s3':=hQQ s3
 have B1W:=hQQ hb1
 have x7:w3.cell? ⟨w.heap.size,7,none⟩=some (.int .i64 c.pr):=by simp[World.cell?,hb1,Cfg.cells]
 have x8:w3.cell? ⟨w.heap.size,8,none⟩=some (.int .i64 c.ca):=by simp[World.cell?,hb1,Cfg.cells]
 have x9:w3.cell? ⟨w.heap.size,9,none⟩=some (.int .i64 c.bi):=by simp[World.cell?,hb1,Cfg.cells]
 have x10:w3.cell? ⟨w.heap.size,10,none⟩=some (.int .i64 c.ba):=by simp[World.cell?,hb1,Cfg.cells]
 have X7:=hQQ x7
 have X8:=hQQ x8
 have X9:=hQQ x9
 have X10:=hQQ x10
 clear x7 x8 x9 x10
 have HE:=hQQ he
 obtain⟨a1,a2,a3,a4⟩:=gC (d:=c) hu hk
 obtain⟨b1,b2,b3,b4⟩:=lq (d:=c) (c:=k) (by have:=R.cp1;omega) hk
 have S0:=oq R H hl hww F a1
 have S1:=oq R H hl hww F b1
 have k0:=S0.keeps.kept
 have k1:=S1.keeps.kept
 have KT:Hq (iL (bh c) (5 * u+k) (5 * c.cp.toNat+k) ws=if 0<((C (5 * u+k)).length:Int) then 0 else if 0<((C (5 * c.cp.toNat+k)).length:Int) then 1 else 2):=hQQ (by unfold iL;rw[k0,k1])
 rw[a2,a3] at S0
 rw[b2,b3] at S1
 have AC:=hQQ (fun W (hW:Ws W g cap ws)=>pj ws hl S0.st S0.keeps S0.room g cap W hW)
 have AB:=hQQ (fun W (hW:Ws W g cap ws)=>pj ws hl S1.st S1.keeps S1.room g cap W hW)
 have YC:=hQQ (fun W=>mZ R (u:Int) (k:Int) W)
 have YB:=hQQ (fun W=>yt R (k:Int) W)
 have F0:=hQQ F
 have LW:=hQQ (rfl:ws.length=ws.length)
 have FE:=hQQ (fun(us:List Int) (C':Nat→List Int) (O':List (Int×Int)) (hus:us.length=ws.length) (hF:FrI c.us c.pg c.st ws.length (bh c) r us C' O') (kd:Nat) (hkd:kd≤3) W (hW:Ws W g cap us)=>by
  have:=Cb R us (by rw[hus];exact H) (by omega) (by rw[hus];exact hww) (by rw[hus];exact hF) g cap kd hkd hu hk W hW
  rw[hus] at this
  exact this)
 have FF:=hQQ (fun(us:List Int) (C':Nat→List Int) (O':List (Int×Int)) (hF:FrI c.us c.pg c.st ws.length (bh c) r us C' O') (kd:Nat)=>tG H (hH R hww) (by omega) (zQ R H hww (by omega)) a1 b1 hk a4 b4 kd hF)
 have HMP:Hq ((frM c:Int)≤c.pr):=hQQ (by have:=R.pr1;unfold frM;split<;>omega)
 have HMB:Hq (frM c≤8):=hQQ (by have:=R.pr1;have:=R.pr2;have:=HMP.o;omega)
 clear S0 S1 k0 k1 a1 a2 a3 a4 b1 b2 b3 b4
 clear hb1 hb2 hb3 hb2' m3 s3 y2
 go_enter Tryz.func59,Tryz.ntmps59
 go_wp2_with (first|(refine aA rfl rfl rfl B1.o (by kernel_rfl) ?_)|(refine aA rfl rfl rfl B1.o (by kernel_rfl) ?_))
 clear e3
 refine(NO.o _).mono ?_
 rintro e w4 ⟨rfl,h4⟩
 have B1:=hQQ (h4.block B1.o)
 have y2:=h4.cell Y2.o
 go_wp2_with fail
 refine(PO.o _ (IR0.o.more h4)).mono ?_
 rintro e w5 ⟨v5,rfl,hr5,m5⟩
 obtain⟨a5,c5,rfl,_,_,_⟩:=hr5.at
 have h5:=h4.trans m5
 obtain⟨n5,hn5⟩:∃n5,its'.length=n5:=⟨_,rfl⟩
 have PL:=PI.len
 rw[hn5] at hr5 PL⊢
 obtain⟨w6,e6,hb6,m6,s6⟩:=df w5 (.cells #[.slice none 0 0] 62)
 obtain⟨w7,e7⟩:∃w7,w6.setRow w5.heap.size #[.slice a5 n5 c5]=w7:=⟨_,rfl⟩
 have m7:ae w5 w7:=by rw[←e7];exact m6.setRow _ _ (Nat.le_refl _)
 have hb7:w7.heap[w5.heap.size]?=some (.cells #[.slice a5 n5 c5] 62 (0,0)):=by rw[←e7];exact setRow_heap _ _ _ _ _ _ hb6
 have B7:=hQQ hb7
 have B6:=hQQ hb6
 have R5:=hQQ (hr5.more m7)
 have M7:=hQQ (h5.trans m7)
 have HN5:=hQQ hn5
 have HN0:=hQQ hn0
 have HG:=hQQ hg
 clear h5 m7 hr5 m5 h4 m6 s6 hb6 y2 PO hn5 hn0 hb7
 cases hb:mn P (k:Int) with
 |true =>
  rw[HXP.o]
  have er:res=(((xp,true),oo P (k:Int)),ws):=by rw[←HRS.o,if_pos hb,HXP.o]
  have FIN:Hq (∀W,ae w7 W→i6 w g cap n0 res (.returned (.tuple #[.int .i64 xp,.agg #[.slice a5 n5 c5],.bool true])) (W.setRow (w.heap.size+1+1) #[.slice a5 n5 c5])):=hQQ fun W hW=>by
   rw[er]
   have hb:=hW.block (M7.o.block B3.o)
   have t:Turned (fun b=>b=w.heap.size+1+1) W (W.setRow (w.heap.size+1+1) #[.slice a5 n5 c5]):=Turned.setRow (Turned.refl _ W) _ _ (fun _=>rfl)
   refine⟨_,its',rfl,(R5.o.more hW).keep t (fun k q=>by subst q;exact⟨_,_,_,hb,by decide⟩),EQ',by rw[HN5.o];have:=HN0.o;omega,((X0.o.more M7.o).more hW).keep t (by have:=HG.o;omega),?_⟩
   exact aq (F':=fun b=>b=w.heap.size+1+1) (turned_more ((MM.o.trans M7.o).trans hW)) t (fun k q=>by omega)
  clear er
  go_wp2_with (refine wpList_store_row rfl 62 _ _ rfl _ _ rfl rfl 62 _ B6.o (by kernel_rfl) rfl (by simp[Value.oneCell']) ?_;rw[e7])
  refine au 3 (by kernel_rfl) (by kernel_rfl) ?_
  simp only[List.take_succ_cons,List.take_zero,List.drop_succ_cons,List.drop_zero]
  iterate 1
   with_reducible refine wpQuiet_step (fun K hK=>?_)
   go_simp
   first
   |(refine hK _ ?_;clear hK K)
   |(apply Exists.intro
     refine⟨fun W hW=>?_,hK _ ?_⟩
     first
     |(go_simp;try rfl)
     clear hK K)
  refine ai rfl 62 _ rfl _ rfl 62 _ _ _ (fun W hW=>hW.block B7.o) Tryz.underlying62 rfl (by kernel_rfl) ?_
  iterate 1
   with_reducible refine wpQuiet_step (fun K hK=>?_)
   go_simp
   first
   |(refine hK _ ?_;clear hK K)
   |(apply Exists.intro
     refine⟨fun W hW=>?_,hK _ ?_⟩
     first
     |(go_simp;try rfl)
     clear hK K)
  refine wpQuiet_nil ?_
  intro w8 h8
  have FB:=hQQ (FIN.o w8 h8)
  have B8:=hQQ (h8.block (M7.o.block B3.o))
  clear h8 FIN
  go_wp2_with (refine wpList_store_row rfl 62 _ _ rfl _ _ rfl rfl 62 _ B8.o (by kernel_rfl) rfl (by simp[Value.oneCell']) ?_)
  refine bodyPost_ret (v:=.tuple #[.int .i64 xp,.agg #[.slice a5 n5 c5],.bool true]) (fu Tryz.results59 _ _ _ 62 _ (0,0) _ rfl (setRow_heap _ _ _ _ _ _ B8.o) Tryz.underlying62 rfl (by kernel_rfl)) rfl FB.o
 |false =>
  have PK0:Hq (P k= []):=hQQ (by rcases List.eq_nil_or_concat (P k) with e|⟨xs,x,e⟩;exact e;rw[List.concat_eq_append] at e;have:=(pk P hk e).1;rw[hb] at this;cases this)
  go_wp2_with (refine wpList_store_row rfl 62 _ _ rfl _ _ rfl rfl 62 _ B6.o (by kernel_rfl) rfl (by simp[Value.oneCell']) ?_;rw[e7])
  clear e7 e6
  have C1:=hQQ (M7.o.block B1W.o)
  have CX8:=hQQ (M7.o.cell X8.o)
  refine au 8 (by kernel_rfl) (by kernel_rfl) ?_
  simp only[List.take_succ_cons,List.take_zero,List.drop_succ_cons,List.drop_zero]
  iterate 1
   with_reducible refine wpQuiet_step (fun K hK=>?_)
   go_simp
   first
   |(refine hK _ ?_;clear hK K)
   |(apply Exists.intro
     refine⟨fun W hW=>?_,hK _ ?_⟩
     first
     |(go_simp;try rfl)
     clear hK K)
  refine ai rfl 27 _ rfl _ rfl 27 _ _ _ (fun W hW=>hW.block C1.o) Tryz.underlying27 rfl (by kernel_rfl) ?_
  iterate 6
   with_reducible refine wpQuiet_step (fun K hK=>?_)
   go_simp
   first
   |(refine hK _ ?_;clear hK K)
   |(apply Exists.intro
     refine⟨fun W hW=>?_,hK _ ?_⟩
     first
     |(go_at_call 101;exact Calls.more hW (YC.o W))
     |(have xc':=hW.cell CX8.o;go_simp;try rfl)
     clear hK K)
  refine wpQuiet_nil ?_
  intro wa ha
  have MA:=hQQ (M7.o.trans ha)
  clear ha
  go_wp2_with fail
  refine(AC.o wa (X0.o.more MA.o)).mono ?_
  rintro e wb ⟨ab,cb,rfl,_,_,hmb⟩
  have MB:=hQQ (MA.o.trans hmb)
  clear hmb
  by_cases h0:0<((C (5 * u+k)).length:Int)
  ·have d0:decide (0<((C (5 * u+k)).length:Int))=true:=decide_eq_true h0
   have HKD:Hq (iL (bh c) (5 * u+k) (5 * c.cp.toNat+k) ws=0):=hQQ (by rw[KT.o,if_pos h0])
   have h0:0<(C (5 * u+k)).length:=by omega
   have C2:=hQQ (MB.o.block B1W.o)
   go_wp2_with (first|(refine aA rfl rfl rfl C2.o (by kernel_rfl) ?_)|(refine aA rfl rfl rfl C2.o (by kernel_rfl) ?_))
   refine(FE.o ws _ _ rfl F0.o 0 (by omega) _ (X0.o.more MB.o)).mono ?_
   rintro e wc ⟨rfl,hxc,htc⟩
   have TC:=hQQ (Turned.trans (turned_more MB.o) htc)
   have XC:=hQQ hxc
   clear hxc htc
   rcases FF.o ws _ _ F0.o 0 with e|⟨hd,X,C',e,hF⟩
   ·have er:res=(((0,false),P),ws):=by rw[←HRS.o,if_neg (by rw[hb];simp),HKD.o,show hO 0=0 from rfl,e];rfl
    rw[e] at XC⊢
    have FIN:Hq (∀W,Turned (fun b=>b=g) w3 W→Ws W g cap ws→i6 w g cap n0 res (.returned (.tuple #[.int .i64 0,.agg #[.slice av n0 cv],.bool false])) (W.setRow (w.heap.size+1+1) #[.slice av n0 cv])):=hQQ fun W hT hX=>by
     rw[er]
     have hb:=(hT.block _ (ac B3.o) (fun q=>by have:=HG.o;omega)).trans B3.o
     have t:Turned (fun b=>b=w.heap.size+1+1) W (W.setRow (w.heap.size+1+1) #[.slice av n0 cv]):=Turned.setRow (Turned.refl _ W) _ _ (fun _=>rfl)
     refine⟨_,its,HN0.o.symm▸rfl,(jp IR0.o X0.o hT).keep t (fun k q=>by subst q;exact⟨_,_,_,hb,by decide⟩),HE.o,by have:=HN0.o;omega,hX.keep t (by have:=HG.o;omega),?_⟩
     exact aq (F':=fun b=>b=w.heap.size+1+1) (Turned.trans (turned_more MM.o) hT) t (fun k q=>by omega)
    have BC:=hQQ ((TC.o.block _ (ac B2.o) (fun q=>by have:=HG.o;omega)).trans B2.o)
    have BD:=hQQ ((TC.o.block _ (ac B3.o) (fun q=>by have:=HG.o;omega)).trans B3.o)
    clear er e
    go_wp2_with fail
    refine au 2 (by kernel_rfl) (by kernel_rfl) ?_
    simp only[List.take_succ_cons,List.take_zero,List.drop_succ_cons,List.drop_zero]
    refine ai rfl 62 _ rfl _ rfl 62 _ _ _ (fun W hW=>hW.block BC.o) Tryz.underlying62 rfl (by kernel_rfl) ?_
    iterate 1
     with_reducible refine wpQuiet_step (fun K hK=>?_)
     go_simp
     first
     |(refine hK _ ?_;clear hK K)
     |(apply Exists.intro
       refine⟨fun W hW=>?_,hK _ ?_⟩
       first
       |(go_simp;try rfl)
       clear hK K)
    refine wpQuiet_nil ?_
    intro wz hz
    have FB:=hQQ (FIN.o wz (Turned.trans TC.o (turned_more hz)) (XC.o.more hz))
    have B8:=hQQ (hz.block BD.o)
    clear hz FIN
    go_wp2_with (refine wpList_store_row rfl 62 _ _ rfl _ _ rfl rfl 62 _ B8.o (by kernel_rfl) rfl (by simp[Value.oneCell']) ?_)
    refine bodyPost_ret (v:=.tuple #[.int .i64 0,.agg #[.slice av n0 cv],.bool false]) (fu Tryz.results59 _ _ _ 62 _ (0,0) _ rfl (setRow_heap _ _ _ _ _ _ B8.o) Tryz.underlying62 rfl (by kernel_rfl)) rfl FB.o
   ·obtain⟨mf,hmf⟩:∃mf,dH c.us c.pg c.st (bh c) (5 * u+k) (5 * c.cp.toNat+k) k 0 c.pr (frM c) P X=mf:=⟨_,rfl⟩
    have ER:Hq (res=(((hd,true),mf.1),mf.2)):=hQQ (by rw[←HRS.o,if_neg (by rw[hb];simp),HKD.o,show hO 0=0 from rfl,e,if_pos rfl,hmf])
    have eX:X.length=ws.length:=hF.len
    rw[e] at XC⊢
    have XC:=hQQ (show Ws wc g cap X from XC.o)
    have START:Hq ((((P k).length:Int)+(frM c:Int)≤c.pr)∧FrI c.us c.pg c.st ws.length (bh c) r X C' (puO P++((hd,(k:Int))::O))∧dH c.us c.pg c.st (bh c) (5 * u+k) (5 * c.cp.toNat+k) k 0 c.pr (frM c) P X=mf∧X.length=ws.length):=hQQ ⟨by rw[PK0.o];have:=HMB.o;have:=HMP.o;simp;omega,hF.perm List.perm_middle.symm,hmf,eX⟩
    have BC:=hQQ ((TC.o.block _ (ac B2.o) (fun q=>by have:=HG.o;omega)).trans B2.o)
    have IRC:=hQQ (jp IR0.o X0.o TC.o)
    clear e hF hmf eX
    go_wp2_with fail
    go_loopw [19,20,21] (fun v19 v20 v21 wr=>∃(j:Nat) (its1:List It) (a1:Option Addr) (n1 c1:Nat) (P1:Nat→List Int) (ws1:List Int) (C1:Nat→List Int),v19=.int .i64 ((j:Int)+1)∧j≤frM c∧Turned (fun b=>b=g∨b=w.heap.size+1) w3 wr∧wr.heap[w.heap.size+1]?=some (.cells #[.slice a1 n1 c1] 62 (0,0))∧IR 0 wr (.slice a1 n1 c1) its1∧its1.length=n1∧Eqv P1 its1∧n1≤n0+j∧Ws wr g cap ws1∧ws1.length=ws.length∧FrI c.us c.pg c.st ws.length (bh c) r ws1 C1 (puO P1++((hd,(k:Int))::O))∧((P1 k).length:Int)+((frM c:Int)-j)≤c.pr∧dH c.us c.pg c.st (bh c) (5 * u+k) (5 * c.cp.toNat+k) k 0 c.pr (frM c-j) P1 ws1=mf) (fun v19 _ _ _=>((frM c:Int)+1-intOf v19).toNat)
    case atStart=>exact⟨0,its,av,n0,cv,P,X,C',by simp,Nat.zero_le _,TC.o.mono (fun _ _ q=> .inl q),BC.o,IRC.o,HN0.o,HE.o,by omega,XC.o,START.o.2.2.2,START.o.2.1,by simpa using START.o.1,START.o.2.2.1⟩
    case round =>
     clear START IRC BC
     obtain⟨j,its1,a1,n1,c1,P1,ws1,C1,rfl,hj,hTR,hB2',hIR1,hn1,hEV1,hln1,hX1,hl1,hF1,hpk,hm⟩:=hrel
     have TR:=hQQ hTR
     have HB2:=hQQ hB2'
     have IR1:=hQQ hIR1
     have N1:=hQQ hn1
     have EV1:=hQQ hEV1
     have LN1:Hq (its1.length≤n0+frM c):=hQQ (by omega)
     have LNJ:=hQQ hln1
     have X1:=hQQ hX1
     have L1:=hQQ hl1
     have FI1:=hQQ hF1
     have PK:=hQQ hpk
     have HM:=hQQ hm
     have y2:wr.cell? ⟨w.heap.size+1,0,none⟩=some (.slice a1 n1 c1):=by simp[World.cell?,hB2']
     have CB:=hQQ ((hTR.block _ (ac B1W.o) (fun q=>by have:=HG.o;omega)).trans B1W.o)
     have z10:wr.cell? ⟨w.heap.size,10,none⟩=some (.int .i64 c.ba):=by simp[World.cell?,CB.o,Cfg.cells]
     have z7:wr.cell? ⟨w.heap.size,7,none⟩=some (.int .i64 c.pr):=by simp[World.cell?,CB.o,Cfg.cells]
     have q1:IntKind.i64.wrap ((j:Int)+1+1)=(j:Int)+1+1:=am (by have:=HMB.o;omega) (by have:=HMB.o;omega)
     have HL1:Hq (n1≤100000):=hQQ (by have:=HMB.o;omega)
     clear hTR hB2' hIR1 hn1 hEV1 hX1 hl1 hF1 hpk hm
     by_cases hlt:j<frM c
     ·obtain⟨m,em⟩:∃m,frM c-j=m+1:=⟨frM c-j-1,by omega⟩
      have d1:decide ((j:Int)+1<c.ba)=true:=by unfold frM at hlt;split at hlt<;>simp<;>omega
      have d2:decide ((j:Int)+1≤c.pr)=true:=by unfold frM at hlt;split at hlt<;>simp<;>omega
      go_wp2_with (first|(refine aA rfl rfl rfl CB.o (by kernel_rfl) ?_)|(refine aA rfl rfl rfl CB.o (by kernel_rfl) ?_))
      refine(FE.o ws1 _ _ L1.o FI1.o 0 (by omega) _ X1.o).mono ?_
      rintro e wf ⟨rfl,hxf,htf⟩
      have TF:=hQQ (Turned.trans TR.o (htf.mono (fun _ _ q=> .inl q)))
      have IRF:=hQQ (jp IR1.o X1.o htf)
      have HBF:=hQQ ((htf.block _ (ac HB2.o) (fun q=>by have:=HG.o;omega)).trans HB2.o)
      have CBF:=hQQ ((htf.block _ (ac CB.o) (fun q=>by have:=HG.o;omega)).trans CB.o)
      clear htf y2 z10 z7 TR IR1 HB2 X1 CB
      rcases FF.o ws1 _ _ FI1.o 0 with e|⟨hd1,X',C1',e,hF1⟩
      ·have em1:mf=(P1,ws1):=by rw[←HM.o,em];simp[dH,e]
       rw[e] at hxf⊢
       have X1:=hQQ (show Ws wf g cap ws1 from hxf)
       have TR:=hQQ TF.o
       have IR1:=hQQ IRF.o
       have HB2:=hQQ HBF.o
       have y2:wf.cell? ⟨w.heap.size+1,0,none⟩=some (.slice a1 n1 c1):=by simp[World.cell?,HBF.o]
       clear hxf e
       -- what is handed back,behind the loop: the purse P1,words ws1
       have FIN:Hq (∀W,ae wf W→i6 w g cap n0 res (.returned (.tuple #[.int .i64 hd,.agg #[.slice a1 n1 c1],.bool true])) (W.setRow (w.heap.size+1+1) #[.slice a1 n1 c1])):=hQQ fun W hW=>by
        rw[ER.o,em1]
        have hT:Turned (fun b=>b=g∨b=w.heap.size+1) w3 W:=Turned.trans TR.o (turned_more hW)
        have hb:=(hT.block _ (ac B3.o) (fun q=>by have:=HG.o;omega)).trans B3.o
        have t:Turned (fun b=>b=w.heap.size+1+1) W (W.setRow (w.heap.size+1+1) #[.slice a1 n1 c1]):=Turned.setRow (Turned.refl _ W) _ _ (fun _=>rfl)
        refine⟨_,its1,rfl,(IR1.o.more hW).keep t (fun k q=>by subst q;exact⟨_,_,_,hb,by decide⟩),EV1.o,by have:=LN1.o;have:=HMB.o;omega,(X1.o.more hW).keep t (by have:=HG.o;omega),?_⟩
        have h2:Turned (fun b=>b=g∨b=w.heap.size+1∨b=w.heap.size+1+1) w3 (W.setRow (w.heap.size+1+1) #[.slice a1 n1 c1]):=Turned.trans (hT.mono (fun k _ q=>by rcases q with q|q;exact .inl q;exact .inr (.inl q))) (t.mono (fun k _ q=> .inr (.inr q)))
        exact aq (F':=fun b=>b=g∨b=w.heap.size+1∨b=w.heap.size+1+1) (turned_more MM.o) h2 (fun k q=>by rcases q with q|q|q;exact .inl q;exact .inr (by omega);exact .inr (by omega))
       have B3R:=hQQ ((TR.o.block _ (ac B3.o) (fun q=>by have:=HG.o;omega)).trans B3.o)
       go_wp2_with fail
       refine au 3 (by kernel_rfl) (by kernel_rfl) ?_
       simp only[List.take_succ_cons,List.take_zero,List.drop_succ_cons,List.drop_zero]
       iterate 1
        with_reducible refine wpQuiet_step (fun K hK=>?_)
        go_simp
        first
        |(refine hK _ ?_;clear hK K)
        |(apply Exists.intro
          refine⟨fun W hW=>?_,hK _ ?_⟩
          first
          |(go_simp;try rfl)
          clear hK K)
       refine ai rfl 62 _ rfl _ rfl 62 _ _ _ (fun W hW=>hW.block HB2.o) Tryz.underlying62 rfl (by kernel_rfl) ?_
       iterate 1
        with_reducible refine wpQuiet_step (fun K hK=>?_)
        go_simp
        first
        |(refine hK _ ?_;clear hK K)
        |(apply Exists.intro
          refine⟨fun W hW=>?_,hK _ ?_⟩
          first
          |(go_simp;try rfl)
          clear hK K)
       refine wpQuiet_nil ?_
       intro wz hz
       have FB:=hQQ (FIN.o wz hz)
       have B8:=hQQ (hz.block B3R.o)
       clear hz FIN
       go_wp2_with (refine wpList_store_row rfl 62 _ _ rfl _ _ rfl rfl 62 _ B8.o (by kernel_rfl) rfl (by simp[Value.oneCell']) ?_)
       refine bodyPost_ret (v:=.tuple #[.int .i64 hd,.agg #[.slice a1 n1 c1],.bool true]) (fu Tryz.results59 _ _ _ 62 _ (0,0) _ rfl (setRow_heap _ _ _ _ _ _ B8.o) Tryz.underlying62 rfl (by kernel_rfl)) rfl FB.o
      ·have hm1:dH c.us c.pg c.st (bh c) (5 * u+k) (5 * c.cp.toNat+k) k 0 c.pr (frM c-(j+1)) (dx P1 k hd1 c.pr) X'=mf:=by rw[←HM.o,em,show frM c-(j+1)=m by omega];simp[dH,e]
       have eX:X'.length=ws.length:=hF1.len
       rw[e] at hxf⊢
       have XF:=hQQ (show Ws wf g cap X' from hxf)
       have pe:dx P1 k hd1 c.pr=dT P1 k (P1 k++ [hd1]):=kL P1 hk hd1 (by have:=PK.o;omega)
       have hF2:FrI c.us c.pg c.st ws.length (bh c) r X' C1' (puO (dx P1 k hd1 c.pr)++((hd,(k:Int))::O)):=by
        rw[pe]
        exact hF1.perm ((kK P1 hk hd1).append_right _).symm
       have pk2:(((dx P1 k hd1 c.pr) k).length:Int)+((frM c:Int)-((j+1:Nat):Int))≤c.pr:=by
        rw[pe]
        have:=PK.o
        simp[dT]
        omega
       have HN:=hQQ (And.intro hF2 (And.intro hm1 (And.intro eX pk2)))
       have EV2:=hQQ (EV1.o.push (k:Int) hd1 c.pr).2
       have z7:wf.cell? ⟨w.heap.size,7,none⟩=some (.int .i64 c.pr):=by simp[World.cell?,CBF.o,Cfg.cells]
       have y2:wf.cell? ⟨w.heap.size+1,0,none⟩=some (.slice a1 n1 c1):=by simp[World.cell?,HBF.o]
       have PH:=hQQ (qq (.slice a1 its1.length c1) its1 (k:Int) hd1 c.pr wf (by rw[←N1.o] at IRF;exact IRF.o) (by have:=N1.o;have:=HL1.o;omega))
       rw[N1.o] at PH
       clear hxf e hF2 hm1 eX pk2 pe hF1
       go_wp2_with fail
       refine PH.o.mono ?_
       rintro e wh ⟨v8,rfl,hr8,m8⟩
       obtain⟨a8,c8,rfl,_,_,_⟩:=hr8.at
       have l8:=kN its1 (k:Int) hd1 c.pr
       obtain⟨its2,hits2⟩:∃its2,j2 its1 (k:Int) hd1 c.pr=its2:=⟨_,rfl⟩
       rw[hits2] at hr8 l8 EV2⊢
       have BH:=hQQ (m8.block HBF.o)
       have t8:Turned (fun b=>b=w.heap.size+1) wh (wh.setRow (w.heap.size+1) #[.slice a8 its2.length c8]):=Turned.setRow (Turned.refl _ wh) _ _ (fun _=>rfl)
       have RT:=hQQ (Turned.trans TF.o (Turned.trans (turned_more m8) (t8.mono (fun _ _ q=>Or.inr q))))
       have RB:=hQQ (setRow_heap wh (w.heap.size+1) _ #[.slice a8 its2.length c8] _ _ BH.o)
       have RI:=hQQ (hr8.keep t8 (fun k q=>by subst q;exact⟨_,_,_,BH.o,by decide⟩))
       have RX:=hQQ ((XF.o.more m8).keep t8 (by have:=HG.o;omega))
       have RL8:Hq (its2.length≤n0+(j+1)):=hQQ (by have:=N1.o;have:=LNJ.o;omega)
       clear hr8 m8 t8 l8 hits2 y2 z7
       go_wp2_with (refine wpList_store_row rfl 62 _ _ rfl _ _ rfl rfl 62 _ BH.o (by kernel_rfl) rfl (by simp[Value.oneCell']) ?_)
       go_roundw
       case rel=>exact⟨j+1,its2,a8,its2.length,c8,dx P1 k hd1 c.pr,X',C1',by go_num,by omega,RT.o,RB.o,RI.o,rfl,EV2.o,RL8.o,RX.o,HN.o.2.2.1,HN.o.1,HN.o.2.2.2,HN.o.2.1⟩
       case measure=>simp[intOf];omega
     ·have em1:mf=(P1,ws1):=by rw[←HM.o,show frM c-j=0 by omega];rfl
      by_cases hq:(j:Int)+1<c.ba
      ·have d1:decide ((j:Int)+1<c.ba)=true:=by simp[hq]
       have d2:decide ((j:Int)+1≤c.pr)=false:=by unfold frM at hlt;split at hlt<;>simp<;>omega
       -- what is handed back,behind the loop: the purse P1,words ws1
       have FIN:Hq (∀W,ae wr W→i6 w g cap n0 res (.returned (.tuple #[.int .i64 hd,.agg #[.slice a1 n1 c1],.bool true])) (W.setRow (w.heap.size+1+1) #[.slice a1 n1 c1])):=hQQ fun W hW=>by
        rw[ER.o,em1]
        have hT:Turned (fun b=>b=g∨b=w.heap.size+1) w3 W:=Turned.trans TR.o (turned_more hW)
        have hb:=(hT.block _ (ac B3.o) (fun q=>by have:=HG.o;omega)).trans B3.o
        have t:Turned (fun b=>b=w.heap.size+1+1) W (W.setRow (w.heap.size+1+1) #[.slice a1 n1 c1]):=Turned.setRow (Turned.refl _ W) _ _ (fun _=>rfl)
        refine⟨_,its1,rfl,(IR1.o.more hW).keep t (fun k q=>by subst q;exact⟨_,_,_,hb,by decide⟩),EV1.o,by have:=LN1.o;have:=HMB.o;omega,(X1.o.more hW).keep t (by have:=HG.o;omega),?_⟩
        have h2:Turned (fun b=>b=g∨b=w.heap.size+1∨b=w.heap.size+1+1) w3 (W.setRow (w.heap.size+1+1) #[.slice a1 n1 c1]):=Turned.trans (hT.mono (fun k _ q=>by rcases q with q|q;exact .inl q;exact .inr (.inl q))) (t.mono (fun k _ q=> .inr (.inr q)))
        exact aq (F':=fun b=>b=g∨b=w.heap.size+1∨b=w.heap.size+1+1) (turned_more MM.o) h2 (fun k q=>by rcases q with q|q|q;exact .inl q;exact .inr (by omega);exact .inr (by omega))
       have B3R:=hQQ ((TR.o.block _ (ac B3.o) (fun q=>by have:=HG.o;omega)).trans B3.o)
       go_wp2_with fail
       refine au 3 (by kernel_rfl) (by kernel_rfl) ?_
       simp only[List.take_succ_cons,List.take_zero,List.drop_succ_cons,List.drop_zero]
       iterate 1
        with_reducible refine wpQuiet_step (fun K hK=>?_)
        go_simp
        first
        |(refine hK _ ?_;clear hK K)
        |(apply Exists.intro
          refine⟨fun W hW=>?_,hK _ ?_⟩
          first
          |(go_simp;try rfl)
          clear hK K)
       refine ai rfl 62 _ rfl _ rfl 62 _ _ _ (fun W hW=>hW.block HB2.o) Tryz.underlying62 rfl (by kernel_rfl) ?_
       iterate 1
        with_reducible refine wpQuiet_step (fun K hK=>?_)
        go_simp
        first
        |(refine hK _ ?_;clear hK K)
        |(apply Exists.intro
          refine⟨fun W hW=>?_,hK _ ?_⟩
          first
          |(go_simp;try rfl)
          clear hK K)
       refine wpQuiet_nil ?_
       intro wz hz
       have FB:=hQQ (FIN.o wz hz)
       have B8:=hQQ (hz.block B3R.o)
       clear hz FIN
       go_wp2_with (refine wpList_store_row rfl 62 _ _ rfl _ _ rfl rfl 62 _ B8.o (by kernel_rfl) rfl (by simp[Value.oneCell']) ?_)
       refine bodyPost_ret (v:=.tuple #[.int .i64 hd,.agg #[.slice a1 n1 c1],.bool true]) (fu Tryz.results59 _ _ _ 62 _ (0,0) _ rfl (setRow_heap _ _ _ _ _ _ B8.o) Tryz.underlying62 rfl (by kernel_rfl)) rfl FB.o
      ·have d1:decide ((j:Int)+1<c.ba)=false:=by simp[hq]
       -- what is handed back,behind the loop: the purse P1,words ws1
       have FIN:Hq (∀W,ae wr W→i6 w g cap n0 res (.returned (.tuple #[.int .i64 hd,.agg #[.slice a1 n1 c1],.bool true])) (W.setRow (w.heap.size+1+1) #[.slice a1 n1 c1])):=hQQ fun W hW=>by
        rw[ER.o,em1]
        have hT:Turned (fun b=>b=g∨b=w.heap.size+1) w3 W:=Turned.trans TR.o (turned_more hW)
        have hb:=(hT.block _ (ac B3.o) (fun q=>by have:=HG.o;omega)).trans B3.o
        have t:Turned (fun b=>b=w.heap.size+1+1) W (W.setRow (w.heap.size+1+1) #[.slice a1 n1 c1]):=Turned.setRow (Turned.refl _ W) _ _ (fun _=>rfl)
        refine⟨_,its1,rfl,(IR1.o.more hW).keep t (fun k q=>by subst q;exact⟨_,_,_,hb,by decide⟩),EV1.o,by have:=LN1.o;have:=HMB.o;omega,(X1.o.more hW).keep t (by have:=HG.o;omega),?_⟩
        have h2:Turned (fun b=>b=g∨b=w.heap.size+1∨b=w.heap.size+1+1) w3 (W.setRow (w.heap.size+1+1) #[.slice a1 n1 c1]):=Turned.trans (hT.mono (fun k _ q=>by rcases q with q|q;exact .inl q;exact .inr (.inl q))) (t.mono (fun k _ q=> .inr (.inr q)))
        exact aq (F':=fun b=>b=g∨b=w.heap.size+1∨b=w.heap.size+1+1) (turned_more MM.o) h2 (fun k q=>by rcases q with q|q|q;exact .inl q;exact .inr (by omega);exact .inr (by omega))
       have B3R:=hQQ ((TR.o.block _ (ac B3.o) (fun q=>by have:=HG.o;omega)).trans B3.o)
       go_wp2_with fail
       refine au 3 (by kernel_rfl) (by kernel_rfl) ?_
       simp only[List.take_succ_cons,List.take_zero,List.drop_succ_cons,List.drop_zero]
       iterate 1
        with_reducible refine wpQuiet_step (fun K hK=>?_)
        go_simp
        first
        |(refine hK _ ?_;clear hK K)
        |(apply Exists.intro
          refine⟨fun W hW=>?_,hK _ ?_⟩
          first
          |(go_simp;try rfl)
          clear hK K)
       refine ai rfl 62 _ rfl _ rfl 62 _ _ _ (fun W hW=>hW.block HB2.o) Tryz.underlying62 rfl (by kernel_rfl) ?_
       iterate 1
        with_reducible refine wpQuiet_step (fun K hK=>?_)
        go_simp
        first
        |(refine hK _ ?_;clear hK K)
        |(apply Exists.intro
          refine⟨fun W hW=>?_,hK _ ?_⟩
          first
          |(go_simp;try rfl)
          clear hK K)
       refine wpQuiet_nil ?_
       intro wz hz
       have FB:=hQQ (FIN.o wz hz)
       have B8:=hQQ (hz.block B3R.o)
       clear hz FIN
       go_wp2_with (refine wpList_store_row rfl 62 _ _ rfl _ _ rfl rfl 62 _ B8.o (by kernel_rfl) rfl (by simp[Value.oneCell']) ?_)
       refine bodyPost_ret (v:=.tuple #[.int .i64 hd,.agg #[.slice a1 n1 c1],.bool true]) (fu Tryz.results59 _ _ _ 62 _ (0,0) _ rfl (setRow_heap _ _ _ _ _ _ B8.o) Tryz.underlying62 rfl (by kernel_rfl)) rfl FB.o
  ·have HK0:Hq (iL (bh c) (5 * u+k) (5 * c.cp.toNat+k) ws=if 0<((C (5 * c.cp.toNat+k)).length:Int) then 1 else 2):=hQQ (by rw[KT.o,if_neg h0])
   have h0:¬0<(C (5 * u+k)).length:=by omega
   have e0:C (5 * u+k)= []:=by cases hC:C (5 * u+k) with|nil=>rfl|cons x y=>rw[hC] at h0;simp at h0
   have C9:=hQQ (MB.o.block B1W.o)
   have CX9:=hQQ (MB.o.cell X9.o)
   go_wp2_with fail
   refine au 7 (by kernel_rfl) (by kernel_rfl) ?_
   simp only[List.take_succ_cons,List.take_zero,List.drop_succ_cons,List.drop_zero]
   iterate 1
    with_reducible refine wpQuiet_step (fun K hK=>?_)
    go_simp
    first
    |(refine hK _ ?_;clear hK K)
    |(apply Exists.intro
      refine⟨fun W hW=>?_,hK _ ?_⟩
      first
      |(go_simp;try rfl)
      clear hK K)
   refine ai rfl 27 _ rfl _ rfl 27 _ _ _ (fun W hW=>hW.block C9.o) Tryz.underlying27 rfl (by kernel_rfl) ?_
   iterate 5
    with_reducible refine wpQuiet_step (fun K hK=>?_)
    go_simp
    first
    |(refine hK _ ?_;clear hK K)
    |(apply Exists.intro
      refine⟨fun W hW=>?_,hK _ ?_⟩
      first
      |(go_at_call 102;exact Calls.more hW (YB.o W))
      |(have xc':=hW.cell CX9.o;go_simp;try rfl)
      clear hK K)
   refine wpQuiet_nil ?_
   intro wa ha
   have MA:=hQQ (MB.o.trans ha)
   clear ha
   go_wp2_with fail
   refine(AB.o wa (X0.o.more MA.o)).mono ?_
   rintro e wb ⟨ab,cb,rfl,_,_,hmb⟩
   have MB:=hQQ (MA.o.trans hmb)
   clear hmb
   by_cases h1:0<((C (5 * c.cp.toNat+k)).length:Int)
   ·have HKD:Hq (iL (bh c) (5 * u+k) (5 * c.cp.toNat+k) ws=1):=hQQ (by rw[HK0.o,if_pos h1])
    have h1:0<(C (5 * c.cp.toNat+k)).length:=by omega
    have C2:=hQQ (MB.o.block B1W.o)
    go_wp2_with (first|(refine aA rfl rfl rfl C2.o (by kernel_rfl) ?_)|(refine aA rfl rfl rfl C2.o (by kernel_rfl) ?_))
    refine(FE.o ws _ _ rfl F0.o 1 (by omega) _ (X0.o.more MB.o)).mono ?_
    rintro e wc ⟨rfl,hxc,htc⟩
    have TC:=hQQ (Turned.trans (turned_more MB.o) htc)
    have XC:=hQQ hxc
    clear hxc htc
    rcases FF.o ws _ _ F0.o 1 with e|⟨hd,X,C',e,hF⟩
    ·have er:res=(((0,false),P),ws):=by rw[←HRS.o,if_neg (by rw[hb];simp),HKD.o,show hO 1=1 from rfl,e];rfl
     rw[e] at XC⊢
     have FIN:Hq (∀W,Turned (fun b=>b=g) w3 W→Ws W g cap ws→i6 w g cap n0 res (.returned (.tuple #[.int .i64 0,.agg #[.slice av n0 cv],.bool false])) (W.setRow (w.heap.size+1+1) #[.slice av n0 cv])):=hQQ fun W hT hX=>by
      rw[er]
      have hb:=(hT.block _ (ac B3.o) (fun q=>by have:=HG.o;omega)).trans B3.o
      have t:Turned (fun b=>b=w.heap.size+1+1) W (W.setRow (w.heap.size+1+1) #[.slice av n0 cv]):=Turned.setRow (Turned.refl _ W) _ _ (fun _=>rfl)
      refine⟨_,its,HN0.o.symm▸rfl,(jp IR0.o X0.o hT).keep t (fun k q=>by subst q;exact⟨_,_,_,hb,by decide⟩),HE.o,by have:=HN0.o;omega,hX.keep t (by have:=HG.o;omega),?_⟩
      exact aq (F':=fun b=>b=w.heap.size+1+1) (Turned.trans (turned_more MM.o) hT) t (fun k q=>by omega)
     have BC:=hQQ ((TC.o.block _ (ac B2.o) (fun q=>by have:=HG.o;omega)).trans B2.o)
     have BD:=hQQ ((TC.o.block _ (ac B3.o) (fun q=>by have:=HG.o;omega)).trans B3.o)
     clear er e
     go_wp2_with fail
     refine au 2 (by kernel_rfl) (by kernel_rfl) ?_
     simp only[List.take_succ_cons,List.take_zero,List.drop_succ_cons,List.drop_zero]
     refine ai rfl 62 _ rfl _ rfl 62 _ _ _ (fun W hW=>hW.block BC.o) Tryz.underlying62 rfl (by kernel_rfl) ?_
     iterate 1
      with_reducible refine wpQuiet_step (fun K hK=>?_)
      go_simp
      first
      |(refine hK _ ?_;clear hK K)
      |(apply Exists.intro
        refine⟨fun W hW=>?_,hK _ ?_⟩
        first
        |(go_simp;try rfl)
        clear hK K)
     refine wpQuiet_nil ?_
     intro wz hz
     have FB:=hQQ (FIN.o wz (Turned.trans TC.o (turned_more hz)) (XC.o.more hz))
     have B8:=hQQ (hz.block BD.o)
     clear hz FIN
     go_wp2_with (refine wpList_store_row rfl 62 _ _ rfl _ _ rfl rfl 62 _ B8.o (by kernel_rfl) rfl (by simp[Value.oneCell']) ?_)
     refine bodyPost_ret (v:=.tuple #[.int .i64 0,.agg #[.slice av n0 cv],.bool false]) (fu Tryz.results59 _ _ _ 62 _ (0,0) _ rfl (setRow_heap _ _ _ _ _ _ B8.o) Tryz.underlying62 rfl (by kernel_rfl)) rfl FB.o
    ·obtain⟨mf,hmf⟩:∃mf,dH c.us c.pg c.st (bh c) (5 * u+k) (5 * c.cp.toNat+k) k 1 c.pr (frM c) P X=mf:=⟨_,rfl⟩
     have ER:Hq (res=(((hd,true),mf.1),mf.2)):=hQQ (by rw[←HRS.o,if_neg (by rw[hb];simp),HKD.o,show hO 1=1 from rfl,e,if_pos rfl,hmf])
     have eX:X.length=ws.length:=hF.len
     rw[e] at XC⊢
     have XC:=hQQ (show Ws wc g cap X from XC.o)
     have START:Hq ((((P k).length:Int)+(frM c:Int)≤c.pr)∧FrI c.us c.pg c.st ws.length (bh c) r X C' (puO P++((hd,(k:Int))::O))∧dH c.us c.pg c.st (bh c) (5 * u+k) (5 * c.cp.toNat+k) k 1 c.pr (frM c) P X=mf∧X.length=ws.length):=hQQ ⟨by rw[PK0.o];have:=HMB.o;have:=HMP.o;simp;omega,hF.perm List.perm_middle.symm,hmf,eX⟩
     have BC:=hQQ ((TC.o.block _ (ac B2.o) (fun q=>by have:=HG.o;omega)).trans B2.o)
     have IRC:=hQQ (jp IR0.o X0.o TC.o)
     clear e hF hmf eX
     go_wp2_with fail
     go_loopw [19,20,21] (fun v19 v20 v21 wr=>∃(j:Nat) (its1:List It) (a1:Option Addr) (n1 c1:Nat) (P1:Nat→List Int) (ws1:List Int) (C1:Nat→List Int),v19=.int .i64 ((j:Int)+1)∧j≤frM c∧Turned (fun b=>b=g∨b=w.heap.size+1) w3 wr∧wr.heap[w.heap.size+1]?=some (.cells #[.slice a1 n1 c1] 62 (0,0))∧IR 0 wr (.slice a1 n1 c1) its1∧its1.length=n1∧Eqv P1 its1∧n1≤n0+j∧Ws wr g cap ws1∧ws1.length=ws.length∧FrI c.us c.pg c.st ws.length (bh c) r ws1 C1 (puO P1++((hd,(k:Int))::O))∧((P1 k).length:Int)+((frM c:Int)-j)≤c.pr∧dH c.us c.pg c.st (bh c) (5 * u+k) (5 * c.cp.toNat+k) k 1 c.pr (frM c-j) P1 ws1=mf) (fun v19 _ _ _=>((frM c:Int)+1-intOf v19).toNat)
     case atStart=>exact⟨0,its,av,n0,cv,P,X,C',by simp,Nat.zero_le _,TC.o.mono (fun _ _ q=> .inl q),BC.o,IRC.o,HN0.o,HE.o,by omega,XC.o,START.o.2.2.2,START.o.2.1,by simpa using START.o.1,START.o.2.2.1⟩
     case round =>
      clear START IRC BC
      obtain⟨j,its1,a1,n1,c1,P1,ws1,C1,rfl,hj,hTR,hB2',hIR1,hn1,hEV1,hln1,hX1,hl1,hF1,hpk,hm⟩:=hrel
      have TR:=hQQ hTR
      have HB2:=hQQ hB2'
      have IR1:=hQQ hIR1
      have N1:=hQQ hn1
      have EV1:=hQQ hEV1
      have LN1:Hq (its1.length≤n0+frM c):=hQQ (by omega)
      have LNJ:=hQQ hln1
      have X1:=hQQ hX1
      have L1:=hQQ hl1
      have FI1:=hQQ hF1
      have PK:=hQQ hpk
      have HM:=hQQ hm
      have y2:wr.cell? ⟨w.heap.size+1,0,none⟩=some (.slice a1 n1 c1):=by simp[World.cell?,hB2']
      have CB:=hQQ ((hTR.block _ (ac B1W.o) (fun q=>by have:=HG.o;omega)).trans B1W.o)
      have z10:wr.cell? ⟨w.heap.size,10,none⟩=some (.int .i64 c.ba):=by simp[World.cell?,CB.o,Cfg.cells]
      have z7:wr.cell? ⟨w.heap.size,7,none⟩=some (.int .i64 c.pr):=by simp[World.cell?,CB.o,Cfg.cells]
      have q1:IntKind.i64.wrap ((j:Int)+1+1)=(j:Int)+1+1:=am (by have:=HMB.o;omega) (by have:=HMB.o;omega)
      have HL1:Hq (n1≤100000):=hQQ (by have:=HMB.o;omega)
      clear hTR hB2' hIR1 hn1 hEV1 hX1 hl1 hF1 hpk hm
      by_cases hlt:j<frM c
      ·obtain⟨m,em⟩:∃m,frM c-j=m+1:=⟨frM c-j-1,by omega⟩
       have d1:decide ((j:Int)+1<c.ba)=true:=by unfold frM at hlt;split at hlt<;>simp<;>omega
       have d2:decide ((j:Int)+1≤c.pr)=true:=by unfold frM at hlt;split at hlt<;>simp<;>omega
       go_wp2_with (first|(refine aA rfl rfl rfl CB.o (by kernel_rfl) ?_)|(refine aA rfl rfl rfl CB.o (by kernel_rfl) ?_))
       refine(FE.o ws1 _ _ L1.o FI1.o 1 (by omega) _ X1.o).mono ?_
       rintro e wf ⟨rfl,hxf,htf⟩
       have TF:=hQQ (Turned.trans TR.o (htf.mono (fun _ _ q=> .inl q)))
       have IRF:=hQQ (jp IR1.o X1.o htf)
       have HBF:=hQQ ((htf.block _ (ac HB2.o) (fun q=>by have:=HG.o;omega)).trans HB2.o)
       have CBF:=hQQ ((htf.block _ (ac CB.o) (fun q=>by have:=HG.o;omega)).trans CB.o)
       clear htf y2 z10 z7 TR IR1 HB2 X1 CB
       rcases FF.o ws1 _ _ FI1.o 1 with e|⟨hd1,X',C1',e,hF1⟩
       ·have em1:mf=(P1,ws1):=by rw[←HM.o,em];simp[dH,e]
        rw[e] at hxf⊢
        have X1:=hQQ (show Ws wf g cap ws1 from hxf)
        have TR:=hQQ TF.o
        have IR1:=hQQ IRF.o
        have HB2:=hQQ HBF.o
        have y2:wf.cell? ⟨w.heap.size+1,0,none⟩=some (.slice a1 n1 c1):=by simp[World.cell?,HBF.o]
        clear hxf e
        -- what is handed back,behind the loop: the purse P1,words ws1
        have FIN:Hq (∀W,ae wf W→i6 w g cap n0 res (.returned (.tuple #[.int .i64 hd,.agg #[.slice a1 n1 c1],.bool true])) (W.setRow (w.heap.size+1+1) #[.slice a1 n1 c1])):=hQQ fun W hW=>by
         rw[ER.o,em1]
         have hT:Turned (fun b=>b=g∨b=w.heap.size+1) w3 W:=Turned.trans TR.o (turned_more hW)
         have hb:=(hT.block _ (ac B3.o) (fun q=>by have:=HG.o;omega)).trans B3.o
         have t:Turned (fun b=>b=w.heap.size+1+1) W (W.setRow (w.heap.size+1+1) #[.slice a1 n1 c1]):=Turned.setRow (Turned.refl _ W) _ _ (fun _=>rfl)
         refine⟨_,its1,rfl,(IR1.o.more hW).keep t (fun k q=>by subst q;exact⟨_,_,_,hb,by decide⟩),EV1.o,by have:=LN1.o;have:=HMB.o;omega,(X1.o.more hW).keep t (by have:=HG.o;omega),?_⟩
         have h2:Turned (fun b=>b=g∨b=w.heap.size+1∨b=w.heap.size+1+1) w3 (W.setRow (w.heap.size+1+1) #[.slice a1 n1 c1]):=Turned.trans (hT.mono (fun k _ q=>by rcases q with q|q;exact .inl q;exact .inr (.inl q))) (t.mono (fun k _ q=> .inr (.inr q)))
         exact aq (F':=fun b=>b=g∨b=w.heap.size+1∨b=w.heap.size+1+1) (turned_more MM.o) h2 (fun k q=>by rcases q with q|q|q;exact .inl q;exact .inr (by omega);exact .inr (by omega))
        have B3R:=hQQ ((TR.o.block _ (ac B3.o) (fun q=>by have:=HG.o;omega)).trans B3.o)
        go_wp2_with fail
        refine au 3 (by kernel_rfl) (by kernel_rfl) ?_
        simp only[List.take_succ_cons,List.take_zero,List.drop_succ_cons,List.drop_zero]
        iterate 1
         with_reducible refine wpQuiet_step (fun K hK=>?_)
         go_simp
         first
         |(refine hK _ ?_;clear hK K)
         |(apply Exists.intro
           refine⟨fun W hW=>?_,hK _ ?_⟩
           first
           |(go_simp;try rfl)
           clear hK K)
        refine ai rfl 62 _ rfl _ rfl 62 _ _ _ (fun W hW=>hW.block HB2.o) Tryz.underlying62 rfl (by kernel_rfl) ?_
        iterate 1
         with_reducible refine wpQuiet_step (fun K hK=>?_)
         go_simp
         first
         |(refine hK _ ?_;clear hK K)
         |(apply Exists.intro
           refine⟨fun W hW=>?_,hK _ ?_⟩
           first
           |(go_simp;try rfl)
           clear hK K)
        refine wpQuiet_nil ?_
        intro wz hz
        have FB:=hQQ (FIN.o wz hz)
        have B8:=hQQ (hz.block B3R.o)
        clear hz FIN
        go_wp2_with (refine wpList_store_row rfl 62 _ _ rfl _ _ rfl rfl 62 _ B8.o (by kernel_rfl) rfl (by simp[Value.oneCell']) ?_)
        refine bodyPost_ret (v:=.tuple #[.int .i64 hd,.agg #[.slice a1 n1 c1],.bool true]) (fu Tryz.results59 _ _ _ 62 _ (0,0) _ rfl (setRow_heap _ _ _ _ _ _ B8.o) Tryz.underlying62 rfl (by kernel_rfl)) rfl FB.o
       ·have hm1:dH c.us c.pg c.st (bh c) (5 * u+k) (5 * c.cp.toNat+k) k 1 c.pr (frM c-(j+1)) (dx P1 k hd1 c.pr) X'=mf:=by rw[←HM.o,em,show frM c-(j+1)=m by omega];simp[dH,e]
        have eX:X'.length=ws.length:=hF1.len
        rw[e] at hxf⊢
        have XF:=hQQ (show Ws wf g cap X' from hxf)
        have pe:dx P1 k hd1 c.pr=dT P1 k (P1 k++ [hd1]):=kL P1 hk hd1 (by have:=PK.o;omega)
        have hF2:FrI c.us c.pg c.st ws.length (bh c) r X' C1' (puO (dx P1 k hd1 c.pr)++((hd,(k:Int))::O)):=by
         rw[pe]
         exact hF1.perm ((kK P1 hk hd1).append_right _).symm
        have pk2:(((dx P1 k hd1 c.pr) k).length:Int)+((frM c:Int)-((j+1:Nat):Int))≤c.pr:=by
         rw[pe]
         have:=PK.o
         simp[dT]
         omega
        have HN:=hQQ (And.intro hF2 (And.intro hm1 (And.intro eX pk2)))
        have EV2:=hQQ (EV1.o.push (k:Int) hd1 c.pr).2
        have z7:wf.cell? ⟨w.heap.size,7,none⟩=some (.int .i64 c.pr):=by simp[World.cell?,CBF.o,Cfg.cells]
        have y2:wf.cell? ⟨w.heap.size+1,0,none⟩=some (.slice a1 n1 c1):=by simp[World.cell?,HBF.o]
        have PH:=hQQ (qq (.slice a1 its1.length c1) its1 (k:Int) hd1 c.pr wf (by rw[←N1.o] at IRF;exact IRF.o) (by have:=N1.o;have:=HL1.o;omega))
        rw[N1.o] at PH
        clear hxf e hF2 hm1 eX pk2 pe hF1
        go_wp2_with fail
        refine PH.o.mono ?_
        rintro e wh ⟨v8,rfl,hr8,m8⟩
        obtain⟨a8,c8,rfl,_,_,_⟩:=hr8.at
        have l8:=kN its1 (k:Int) hd1 c.pr
        obtain⟨its2,hits2⟩:∃its2,j2 its1 (k:Int) hd1 c.pr=its2:=⟨_,rfl⟩
        rw[hits2] at hr8 l8 EV2⊢
        have BH:=hQQ (m8.block HBF.o)
        have t8:Turned (fun b=>b=w.heap.size+1) wh (wh.setRow (w.heap.size+1) #[.slice a8 its2.length c8]):=Turned.setRow (Turned.refl _ wh) _ _ (fun _=>rfl)
        have RT:=hQQ (Turned.trans TF.o (Turned.trans (turned_more m8) (t8.mono (fun _ _ q=>Or.inr q))))
        have RB:=hQQ (setRow_heap wh (w.heap.size+1) _ #[.slice a8 its2.length c8] _ _ BH.o)
        have RI:=hQQ (hr8.keep t8 (fun k q=>by subst q;exact⟨_,_,_,BH.o,by decide⟩))
        have RX:=hQQ ((XF.o.more m8).keep t8 (by have:=HG.o;omega))
        have RL8:Hq (its2.length≤n0+(j+1)):=hQQ (by have:=N1.o;have:=LNJ.o;omega)
        clear hr8 m8 t8 l8 hits2 y2 z7
        go_wp2_with (refine wpList_store_row rfl 62 _ _ rfl _ _ rfl rfl 62 _ BH.o (by kernel_rfl) rfl (by simp[Value.oneCell']) ?_)
        go_roundw
        case rel=>exact⟨j+1,its2,a8,its2.length,c8,dx P1 k hd1 c.pr,X',C1',by go_num,by omega,RT.o,RB.o,RI.o,rfl,EV2.o,RL8.o,RX.o,HN.o.2.2.1,HN.o.1,HN.o.2.2.2,HN.o.2.1⟩
        case measure=>simp[intOf];omega
      ·have em1:mf=(P1,ws1):=by rw[←HM.o,show frM c-j=0 by omega];rfl
       by_cases hq:(j:Int)+1<c.ba
       ·have d1:decide ((j:Int)+1<c.ba)=true:=by simp[hq]
        have d2:decide ((j:Int)+1≤c.pr)=false:=by unfold frM at hlt;split at hlt<;>simp<;>omega
        -- what is handed back,behind the loop: the purse P1,words ws1
        have FIN:Hq (∀W,ae wr W→i6 w g cap n0 res (.returned (.tuple #[.int .i64 hd,.agg #[.slice a1 n1 c1],.bool true])) (W.setRow (w.heap.size+1+1) #[.slice a1 n1 c1])):=hQQ fun W hW=>by
         rw[ER.o,em1]
         have hT:Turned (fun b=>b=g∨b=w.heap.size+1) w3 W:=Turned.trans TR.o (turned_more hW)
         have hb:=(hT.block _ (ac B3.o) (fun q=>by have:=HG.o;omega)).trans B3.o
         have t:Turned (fun b=>b=w.heap.size+1+1) W (W.setRow (w.heap.size+1+1) #[.slice a1 n1 c1]):=Turned.setRow (Turned.refl _ W) _ _ (fun _=>rfl)
         refine⟨_,its1,rfl,(IR1.o.more hW).keep t (fun k q=>by subst q;exact⟨_,_,_,hb,by decide⟩),EV1.o,by have:=LN1.o;have:=HMB.o;omega,(X1.o.more hW).keep t (by have:=HG.o;omega),?_⟩
         have h2:Turned (fun b=>b=g∨b=w.heap.size+1∨b=w.heap.size+1+1) w3 (W.setRow (w.heap.size+1+1) #[.slice a1 n1 c1]):=Turned.trans (hT.mono (fun k _ q=>by rcases q with q|q;exact .inl q;exact .inr (.inl q))) (t.mono (fun k _ q=> .inr (.inr q)))
         exact aq (F':=fun b=>b=g∨b=w.heap.size+1∨b=w.heap.size+1+1) (turned_more MM.o) h2 (fun k q=>by rcases q with q|q|q;exact .inl q;exact .inr (by omega);exact .inr (by omega))
        have B3R:=hQQ ((TR.o.block _ (ac B3.o) (fun q=>by have:=HG.o;omega)).trans B3.o)
        go_wp2_with fail
        refine au 3 (by kernel_rfl) (by kernel_rfl) ?_
        simp only[List.take_succ_cons,List.take_zero,List.drop_succ_cons,List.drop_zero]
        iterate 1
         with_reducible refine wpQuiet_step (fun K hK=>?_)
         go_simp
         first
         |(refine hK _ ?_;clear hK K)
         |(apply Exists.intro
           refine⟨fun W hW=>?_,hK _ ?_⟩
           first
           |(go_simp;try rfl)
           clear hK K)
        refine ai rfl 62 _ rfl _ rfl 62 _ _ _ (fun W hW=>hW.block HB2.o) Tryz.underlying62 rfl (by kernel_rfl) ?_
        iterate 1
         with_reducible refine wpQuiet_step (fun K hK=>?_)
         go_simp
         first
         |(refine hK _ ?_;clear hK K)
         |(apply Exists.intro
           refine⟨fun W hW=>?_,hK _ ?_⟩
           first
           |(go_simp;try rfl)
           clear hK K)
        refine wpQuiet_nil ?_
        intro wz hz
        have FB:=hQQ (FIN.o wz hz)
        have B8:=hQQ (hz.block B3R.o)
        clear hz FIN
        go_wp2_with (refine wpList_store_row rfl 62 _ _ rfl _ _ rfl rfl 62 _ B8.o (by kernel_rfl) rfl (by simp[Value.oneCell']) ?_)
        refine bodyPost_ret (v:=.tuple #[.int .i64 hd,.agg #[.slice a1 n1 c1],.bool true]) (fu Tryz.results59 _ _ _ 62 _ (0,0) _ rfl (setRow_heap _ _ _ _ _ _ B8.o) Tryz.underlying62 rfl (by kernel_rfl)) rfl FB.o
       ·have d1:decide ((j:Int)+1<c.ba)=false:=by simp[hq]
        -- what is handed back,behind the loop: the purse P1,words ws1
        have FIN:Hq (∀W,ae wr W→i6 w g cap n0 res (.returned (.tuple #[.int .i64 hd,.agg #[.slice a1 n1 c1],.bool true])) (W.setRow (w.heap.size+1+1) #[.slice a1 n1 c1])):=hQQ fun W hW=>by
         rw[ER.o,em1]
         have hT:Turned (fun b=>b=g∨b=w.heap.size+1) w3 W:=Turned.trans TR.o (turned_more hW)
         have hb:=(hT.block _ (ac B3.o) (fun q=>by have:=HG.o;omega)).trans B3.o
         have t:Turned (fun b=>b=w.heap.size+1+1) W (W.setRow (w.heap.size+1+1) #[.slice a1 n1 c1]):=Turned.setRow (Turned.refl _ W) _ _ (fun _=>rfl)
         refine⟨_,its1,rfl,(IR1.o.more hW).keep t (fun k q=>by subst q;exact⟨_,_,_,hb,by decide⟩),EV1.o,by have:=LN1.o;have:=HMB.o;omega,(X1.o.more hW).keep t (by have:=HG.o;omega),?_⟩
         have h2:Turned (fun b=>b=g∨b=w.heap.size+1∨b=w.heap.size+1+1) w3 (W.setRow (w.heap.size+1+1) #[.slice a1 n1 c1]):=Turned.trans (hT.mono (fun k _ q=>by rcases q with q|q;exact .inl q;exact .inr (.inl q))) (t.mono (fun k _ q=> .inr (.inr q)))
         exact aq (F':=fun b=>b=g∨b=w.heap.size+1∨b=w.heap.size+1+1) (turned_more MM.o) h2 (fun k q=>by rcases q with q|q|q;exact .inl q;exact .inr (by omega);exact .inr (by omega))
        have B3R:=hQQ ((TR.o.block _ (ac B3.o) (fun q=>by have:=HG.o;omega)).trans B3.o)
        go_wp2_with fail
        refine au 3 (by kernel_rfl) (by kernel_rfl) ?_
        simp only[List.take_succ_cons,List.take_zero,List.drop_succ_cons,List.drop_zero]
        iterate 1
         with_reducible refine wpQuiet_step (fun K hK=>?_)
         go_simp
         first
         |(refine hK _ ?_;clear hK K)
         |(apply Exists.intro
           refine⟨fun W hW=>?_,hK _ ?_⟩
           first
           |(go_simp;try rfl)
           clear hK K)
        refine ai rfl 62 _ rfl _ rfl 62 _ _ _ (fun W hW=>hW.block HB2.o) Tryz.underlying62 rfl (by kernel_rfl) ?_
        iterate 1
         with_reducible refine wpQuiet_step (fun K hK=>?_)
         go_simp
         first
         |(refine hK _ ?_;clear hK K)
         |(apply Exists.intro
           refine⟨fun W hW=>?_,hK _ ?_⟩
           first
           |(go_simp;try rfl)
           clear hK K)
        refine wpQuiet_nil ?_
        intro wz hz
        have FB:=hQQ (FIN.o wz hz)
        have B8:=hQQ (hz.block B3R.o)
        clear hz FIN
        go_wp2_with (refine wpList_store_row rfl 62 _ _ rfl _ _ rfl rfl 62 _ B8.o (by kernel_rfl) rfl (by simp[Value.oneCell']) ?_)
        refine bodyPost_ret (v:=.tuple #[.int .i64 hd,.agg #[.slice a1 n1 c1],.bool true]) (fu Tryz.results59 _ _ _ 62 _ (0,0) _ rfl (setRow_heap _ _ _ _ _ _ B8.o) Tryz.underlying62 rfl (by kernel_rfl)) rfl FB.o
   ·have HKD:Hq (iL (bh c) (5 * u+k) (5 * c.cp.toNat+k) ws=2):=hQQ (by rw[HK0.o,if_neg h1])
    have h1:¬0<(C (5 * c.cp.toNat+k)).length:=by omega
    have e1:C (5 * c.cp.toNat+k)= []:=by cases hC:C (5 * c.cp.toNat+k) with|nil=>rfl|cons x y=>rw[hC] at h1;simp at h1
    have C2:=hQQ (MB.o.block B1W.o)
    go_wp2_with (first|(refine aA rfl rfl rfl C2.o (by kernel_rfl) ?_)|(refine aA rfl rfl rfl C2.o (by kernel_rfl) ?_))
    refine(FE.o ws _ _ rfl F0.o 3 (by omega) _ (X0.o.more MB.o)).mono ?_
    rintro e wc ⟨rfl,hxc,htc⟩
    have TC:=hQQ (Turned.trans (turned_more MB.o) htc)
    have XC:=hQQ hxc
    clear hxc htc
    rcases FF.o ws _ _ F0.o 3 with e|⟨hd,X,C',e,hF⟩
    ·have er:res=(((0,false),P),ws):=by rw[←HRS.o,if_neg (by rw[hb];simp),HKD.o,show hO 2=3 from rfl,e];rfl
     rw[e] at XC⊢
     have FIN:Hq (∀W,Turned (fun b=>b=g) w3 W→Ws W g cap ws→i6 w g cap n0 res (.returned (.tuple #[.int .i64 0,.agg #[.slice av n0 cv],.bool false])) (W.setRow (w.heap.size+1+1) #[.slice av n0 cv])):=hQQ fun W hT hX=>by
      rw[er]
      have hb:=(hT.block _ (ac B3.o) (fun q=>by have:=HG.o;omega)).trans B3.o
      have t:Turned (fun b=>b=w.heap.size+1+1) W (W.setRow (w.heap.size+1+1) #[.slice av n0 cv]):=Turned.setRow (Turned.refl _ W) _ _ (fun _=>rfl)
      refine⟨_,its,HN0.o.symm▸rfl,(jp IR0.o X0.o hT).keep t (fun k q=>by subst q;exact⟨_,_,_,hb,by decide⟩),HE.o,by have:=HN0.o;omega,hX.keep t (by have:=HG.o;omega),?_⟩
      exact aq (F':=fun b=>b=w.heap.size+1+1) (Turned.trans (turned_more MM.o) hT) t (fun k q=>by omega)
     have BC:=hQQ ((TC.o.block _ (ac B2.o) (fun q=>by have:=HG.o;omega)).trans B2.o)
     have BD:=hQQ ((TC.o.block _ (ac B3.o) (fun q=>by have:=HG.o;omega)).trans B3.o)
     clear er e
     go_wp2_with fail
     refine au 2 (by kernel_rfl) (by kernel_rfl) ?_
     simp only[List.take_succ_cons,List.take_zero,List.drop_succ_cons,List.drop_zero]
     refine ai rfl 62 _ rfl _ rfl 62 _ _ _ (fun W hW=>hW.block BC.o) Tryz.underlying62 rfl (by kernel_rfl) ?_
     iterate 1
      with_reducible refine wpQuiet_step (fun K hK=>?_)
      go_simp
      first
      |(refine hK _ ?_;clear hK K)
      |(apply Exists.intro
        refine⟨fun W hW=>?_,hK _ ?_⟩
        first
        |(go_simp;try rfl)
        clear hK K)
     refine wpQuiet_nil ?_
     intro wz hz
     have FB:=hQQ (FIN.o wz (Turned.trans TC.o (turned_more hz)) (XC.o.more hz))
     have B8:=hQQ (hz.block BD.o)
     clear hz FIN
     go_wp2_with (refine wpList_store_row rfl 62 _ _ rfl _ _ rfl rfl 62 _ B8.o (by kernel_rfl) rfl (by simp[Value.oneCell']) ?_)
     refine bodyPost_ret (v:=.tuple #[.int .i64 0,.agg #[.slice av n0 cv],.bool false]) (fu Tryz.results59 _ _ _ 62 _ (0,0) _ rfl (setRow_heap _ _ _ _ _ _ B8.o) Tryz.underlying62 rfl (by kernel_rfl)) rfl FB.o
    ·obtain⟨mf,hmf⟩:∃mf,dH c.us c.pg c.st (bh c) (5 * u+k) (5 * c.cp.toNat+k) k 2 c.pr (frM c) P X=mf:=⟨_,rfl⟩
     have ER:Hq (res=(((hd,true),mf.1),mf.2)):=hQQ (by rw[←HRS.o,if_neg (by rw[hb];simp),HKD.o,show hO 2=3 from rfl,e,if_pos rfl,hmf])
     have eX:X.length=ws.length:=hF.len
     rw[e] at XC⊢
     have XC:=hQQ (show Ws wc g cap X from XC.o)
     have START:Hq ((((P k).length:Int)+(frM c:Int)≤c.pr)∧FrI c.us c.pg c.st ws.length (bh c) r X C' (puO P++((hd,(k:Int))::O))∧dH c.us c.pg c.st (bh c) (5 * u+k) (5 * c.cp.toNat+k) k 2 c.pr (frM c) P X=mf∧X.length=ws.length):=hQQ ⟨by rw[PK0.o];have:=HMB.o;have:=HMP.o;simp;omega,hF.perm List.perm_middle.symm,hmf,eX⟩
     have BC:=hQQ ((TC.o.block _ (ac B2.o) (fun q=>by have:=HG.o;omega)).trans B2.o)
     have IRC:=hQQ (jp IR0.o X0.o TC.o)
     clear e hF hmf eX
     go_wp2_with fail
     go_loopw [19,20,21] (fun v19 v20 v21 wr=>∃(j:Nat) (its1:List It) (a1:Option Addr) (n1 c1:Nat) (P1:Nat→List Int) (ws1:List Int) (C1:Nat→List Int),v19=.int .i64 ((j:Int)+1)∧j≤frM c∧Turned (fun b=>b=g∨b=w.heap.size+1) w3 wr∧wr.heap[w.heap.size+1]?=some (.cells #[.slice a1 n1 c1] 62 (0,0))∧IR 0 wr (.slice a1 n1 c1) its1∧its1.length=n1∧Eqv P1 its1∧n1≤n0+j∧Ws wr g cap ws1∧ws1.length=ws.length∧FrI c.us c.pg c.st ws.length (bh c) r ws1 C1 (puO P1++((hd,(k:Int))::O))∧((P1 k).length:Int)+((frM c:Int)-j)≤c.pr∧dH c.us c.pg c.st (bh c) (5 * u+k) (5 * c.cp.toNat+k) k 2 c.pr (frM c-j) P1 ws1=mf) (fun v19 _ _ _=>((frM c:Int)+1-intOf v19).toNat)
     case atStart=>exact⟨0,its,av,n0,cv,P,X,C',by simp,Nat.zero_le _,TC.o.mono (fun _ _ q=> .inl q),BC.o,IRC.o,HN0.o,HE.o,by omega,XC.o,START.o.2.2.2,START.o.2.1,by simpa using START.o.1,START.o.2.2.1⟩
     case round =>
      clear START IRC BC
      obtain⟨j,its1,a1,n1,c1,P1,ws1,C1,rfl,hj,hTR,hB2',hIR1,hn1,hEV1,hln1,hX1,hl1,hF1,hpk,hm⟩:=hrel
      have TR:=hQQ hTR
      have HB2:=hQQ hB2'
      have IR1:=hQQ hIR1
      have N1:=hQQ hn1
      have EV1:=hQQ hEV1
      have LN1:Hq (its1.length≤n0+frM c):=hQQ (by omega)
      have LNJ:=hQQ hln1
      have X1:=hQQ hX1
      have L1:=hQQ hl1
      have FI1:=hQQ hF1
      have PK:=hQQ hpk
      have HM:=hQQ hm
      have y2:wr.cell? ⟨w.heap.size+1,0,none⟩=some (.slice a1 n1 c1):=by simp[World.cell?,hB2']
      have CB:=hQQ ((hTR.block _ (ac B1W.o) (fun q=>by have:=HG.o;omega)).trans B1W.o)
      have z10:wr.cell? ⟨w.heap.size,10,none⟩=some (.int .i64 c.ba):=by simp[World.cell?,CB.o,Cfg.cells]
      have z7:wr.cell? ⟨w.heap.size,7,none⟩=some (.int .i64 c.pr):=by simp[World.cell?,CB.o,Cfg.cells]
      have q1:IntKind.i64.wrap ((j:Int)+1+1)=(j:Int)+1+1:=am (by have:=HMB.o;omega) (by have:=HMB.o;omega)
      have HL1:Hq (n1≤100000):=hQQ (by have:=HMB.o;omega)
      clear hTR hB2' hIR1 hn1 hEV1 hX1 hl1 hF1 hpk hm
      by_cases hlt:j<frM c
      ·obtain⟨m,em⟩:∃m,frM c-j=m+1:=⟨frM c-j-1,by omega⟩
       have d1:decide ((j:Int)+1<c.ba)=true:=by unfold frM at hlt;split at hlt<;>simp<;>omega
       have d2:decide ((j:Int)+1≤c.pr)=true:=by unfold frM at hlt;split at hlt<;>simp<;>omega
       go_wp2_with (first|(refine aA rfl rfl rfl CB.o (by kernel_rfl) ?_)|(refine aA rfl rfl rfl CB.o (by kernel_rfl) ?_))
       refine(FE.o ws1 _ _ L1.o FI1.o 2 (by omega) _ X1.o).mono ?_
       rintro e wf ⟨rfl,hxf,htf⟩
       have TF:=hQQ (Turned.trans TR.o (htf.mono (fun _ _ q=> .inl q)))
       have IRF:=hQQ (jp IR1.o X1.o htf)
       have HBF:=hQQ ((htf.block _ (ac HB2.o) (fun q=>by have:=HG.o;omega)).trans HB2.o)
       have CBF:=hQQ ((htf.block _ (ac CB.o) (fun q=>by have:=HG.o;omega)).trans CB.o)
       clear htf y2 z10 z7 TR IR1 HB2 X1 CB
       rcases FF.o ws1 _ _ FI1.o 2 with e|⟨hd1,X',C1',e,hF1⟩
       ·have em1:mf=(P1,ws1):=by rw[←HM.o,em];simp[dH,e]
        rw[e] at hxf⊢
        have X1:=hQQ (show Ws wf g cap ws1 from hxf)
        have TR:=hQQ TF.o
        have IR1:=hQQ IRF.o
        have HB2:=hQQ HBF.o
        have y2:wf.cell? ⟨w.heap.size+1,0,none⟩=some (.slice a1 n1 c1):=by simp[World.cell?,HBF.o]
        clear hxf e
        -- what is handed back,behind the loop: the purse P1,words ws1
        have FIN:Hq (∀W,ae wf W→i6 w g cap n0 res (.returned (.tuple #[.int .i64 hd,.agg #[.slice a1 n1 c1],.bool true])) (W.setRow (w.heap.size+1+1) #[.slice a1 n1 c1])):=hQQ fun W hW=>by
         rw[ER.o,em1]
         have hT:Turned (fun b=>b=g∨b=w.heap.size+1) w3 W:=Turned.trans TR.o (turned_more hW)
         have hb:=(hT.block _ (ac B3.o) (fun q=>by have:=HG.o;omega)).trans B3.o
         have t:Turned (fun b=>b=w.heap.size+1+1) W (W.setRow (w.heap.size+1+1) #[.slice a1 n1 c1]):=Turned.setRow (Turned.refl _ W) _ _ (fun _=>rfl)
         refine⟨_,its1,rfl,(IR1.o.more hW).keep t (fun k q=>by subst q;exact⟨_,_,_,hb,by decide⟩),EV1.o,by have:=LN1.o;have:=HMB.o;omega,(X1.o.more hW).keep t (by have:=HG.o;omega),?_⟩
         have h2:Turned (fun b=>b=g∨b=w.heap.size+1∨b=w.heap.size+1+1) w3 (W.setRow (w.heap.size+1+1) #[.slice a1 n1 c1]):=Turned.trans (hT.mono (fun k _ q=>by rcases q with q|q;exact .inl q;exact .inr (.inl q))) (t.mono (fun k _ q=> .inr (.inr q)))
         exact aq (F':=fun b=>b=g∨b=w.heap.size+1∨b=w.heap.size+1+1) (turned_more MM.o) h2 (fun k q=>by rcases q with q|q|q;exact .inl q;exact .inr (by omega);exact .inr (by omega))
        have B3R:=hQQ ((TR.o.block _ (ac B3.o) (fun q=>by have:=HG.o;omega)).trans B3.o)
        go_wp2_with fail
        refine au 3 (by kernel_rfl) (by kernel_rfl) ?_
        simp only[List.take_succ_cons,List.take_zero,List.drop_succ_cons,List.drop_zero]
        iterate 1
         with_reducible refine wpQuiet_step (fun K hK=>?_)
         go_simp
         first
         |(refine hK _ ?_;clear hK K)
         |(apply Exists.intro
           refine⟨fun W hW=>?_,hK _ ?_⟩
           first
           |(go_simp;try rfl)
           clear hK K)
        refine ai rfl 62 _ rfl _ rfl 62 _ _ _ (fun W hW=>hW.block HB2.o) Tryz.underlying62 rfl (by kernel_rfl) ?_
        iterate 1
         with_reducible refine wpQuiet_step (fun K hK=>?_)
         go_simp
         first
         |(refine hK _ ?_;clear hK K)
         |(apply Exists.intro
           refine⟨fun W hW=>?_,hK _ ?_⟩
           first
           |(go_simp;try rfl)
           clear hK K)
        refine wpQuiet_nil ?_
        intro wz hz
        have FB:=hQQ (FIN.o wz hz)
        have B8:=hQQ (hz.block B3R.o)
        clear hz FIN
        go_wp2_with (refine wpList_store_row rfl 62 _ _ rfl _ _ rfl rfl 62 _ B8.o (by kernel_rfl) rfl (by simp[Value.oneCell']) ?_)
        refine bodyPost_ret (v:=.tuple #[.int .i64 hd,.agg #[.slice a1 n1 c1],.bool true]) (fu Tryz.results59 _ _ _ 62 _ (0,0) _ rfl (setRow_heap _ _ _ _ _ _ B8.o) Tryz.underlying62 rfl (by kernel_rfl)) rfl FB.o
       ·have hm1:dH c.us c.pg c.st (bh c) (5 * u+k) (5 * c.cp.toNat+k) k 2 c.pr (frM c-(j+1)) (dx P1 k hd1 c.pr) X'=mf:=by rw[←HM.o,em,show frM c-(j+1)=m by omega];simp[dH,e]
        have eX:X'.length=ws.length:=hF1.len
        rw[e] at hxf⊢
        have XF:=hQQ (show Ws wf g cap X' from hxf)
        have pe:dx P1 k hd1 c.pr=dT P1 k (P1 k++ [hd1]):=kL P1 hk hd1 (by have:=PK.o;omega)
        have hF2:FrI c.us c.pg c.st ws.length (bh c) r X' C1' (puO (dx P1 k hd1 c.pr)++((hd,(k:Int))::O)):=by
         rw[pe]
         exact hF1.perm ((kK P1 hk hd1).append_right _).symm
        have pk2:(((dx P1 k hd1 c.pr) k).length:Int)+((frM c:Int)-((j+1:Nat):Int))≤c.pr:=by
         rw[pe]
         have:=PK.o
         simp[dT]
         omega
        have HN:=hQQ (And.intro hF2 (And.intro hm1 (And.intro eX pk2)))
        have EV2:=hQQ (EV1.o.push (k:Int) hd1 c.pr).2
        have z7:wf.cell? ⟨w.heap.size,7,none⟩=some (.int .i64 c.pr):=by simp[World.cell?,CBF.o,Cfg.cells]
        have y2:wf.cell? ⟨w.heap.size+1,0,none⟩=some (.slice a1 n1 c1):=by simp[World.cell?,HBF.o]
        have PH:=hQQ (qq (.slice a1 its1.length c1) its1 (k:Int) hd1 c.pr wf (by rw[←N1.o] at IRF;exact IRF.o) (by have:=N1.o;have:=HL1.o;omega))
        rw[N1.o] at PH
        clear hxf e hF2 hm1 eX pk2 pe hF1
        go_wp2_with fail
        refine PH.o.mono ?_
        rintro e wh ⟨v8,rfl,hr8,m8⟩
        obtain⟨a8,c8,rfl,_,_,_⟩:=hr8.at
        have l8:=kN its1 (k:Int) hd1 c.pr
        obtain⟨its2,hits2⟩:∃its2,j2 its1 (k:Int) hd1 c.pr=its2:=⟨_,rfl⟩
        rw[hits2] at hr8 l8 EV2⊢
        have BH:=hQQ (m8.block HBF.o)
        have t8:Turned (fun b=>b=w.heap.size+1) wh (wh.setRow (w.heap.size+1) #[.slice a8 its2.length c8]):=Turned.setRow (Turned.refl _ wh) _ _ (fun _=>rfl)
        have RT:=hQQ (Turned.trans TF.o (Turned.trans (turned_more m8) (t8.mono (fun _ _ q=>Or.inr q))))
        have RB:=hQQ (setRow_heap wh (w.heap.size+1) _ #[.slice a8 its2.length c8] _ _ BH.o)
        have RI:=hQQ (hr8.keep t8 (fun k q=>by subst q;exact⟨_,_,_,BH.o,by decide⟩))
        have RX:=hQQ ((XF.o.more m8).keep t8 (by have:=HG.o;omega))
        have RL8:Hq (its2.length≤n0+(j+1)):=hQQ (by have:=N1.o;have:=LNJ.o;omega)
        clear hr8 m8 t8 l8 hits2 y2 z7
        go_wp2_with (refine wpList_store_row rfl 62 _ _ rfl _ _ rfl rfl 62 _ BH.o (by kernel_rfl) rfl (by simp[Value.oneCell']) ?_)
        go_roundw
        case rel=>exact⟨j+1,its2,a8,its2.length,c8,dx P1 k hd1 c.pr,X',C1',by go_num,by omega,RT.o,RB.o,RI.o,rfl,EV2.o,RL8.o,RX.o,HN.o.2.2.1,HN.o.1,HN.o.2.2.2,HN.o.2.1⟩
        case measure=>simp[intOf];omega
      ·have em1:mf=(P1,ws1):=by rw[←HM.o,show frM c-j=0 by omega];rfl
       by_cases hq:(j:Int)+1<c.ba
       ·have d1:decide ((j:Int)+1<c.ba)=true:=by simp[hq]
        have d2:decide ((j:Int)+1≤c.pr)=false:=by unfold frM at hlt;split at hlt<;>simp<;>omega
        -- what is handed back,behind the loop: the purse P1,words ws1
        have FIN:Hq (∀W,ae wr W→i6 w g cap n0 res (.returned (.tuple #[.int .i64 hd,.agg #[.slice a1 n1 c1],.bool true])) (W.setRow (w.heap.size+1+1) #[.slice a1 n1 c1])):=hQQ fun W hW=>by
         rw[ER.o,em1]
         have hT:Turned (fun b=>b=g∨b=w.heap.size+1) w3 W:=Turned.trans TR.o (turned_more hW)
         have hb:=(hT.block _ (ac B3.o) (fun q=>by have:=HG.o;omega)).trans B3.o
         have t:Turned (fun b=>b=w.heap.size+1+1) W (W.setRow (w.heap.size+1+1) #[.slice a1 n1 c1]):=Turned.setRow (Turned.refl _ W) _ _ (fun _=>rfl)
         refine⟨_,its1,rfl,(IR1.o.more hW).keep t (fun k q=>by subst q;exact⟨_,_,_,hb,by decide⟩),EV1.o,by have:=LN1.o;have:=HMB.o;omega,(X1.o.more hW).keep t (by have:=HG.o;omega),?_⟩
         have h2:Turned (fun b=>b=g∨b=w.heap.size+1∨b=w.heap.size+1+1) w3 (W.setRow (w.heap.size+1+1) #[.slice a1 n1 c1]):=Turned.trans (hT.mono (fun k _ q=>by rcases q with q|q;exact .inl q;exact .inr (.inl q))) (t.mono (fun k _ q=> .inr (.inr q)))
         exact aq (F':=fun b=>b=g∨b=w.heap.size+1∨b=w.heap.size+1+1) (turned_more MM.o) h2 (fun k q=>by rcases q with q|q|q;exact .inl q;exact .inr (by omega);exact .inr (by omega))
        have B3R:=hQQ ((TR.o.block _ (ac B3.o) (fun q=>by have:=HG.o;omega)).trans B3.o)
        go_wp2_with fail
        refine au 3 (by kernel_rfl) (by kernel_rfl) ?_
        simp only[List.take_succ_cons,List.take_zero,List.drop_succ_cons,List.drop_zero]
        iterate 1
         with_reducible refine wpQuiet_step (fun K hK=>?_)
         go_simp
         first
         |(refine hK _ ?_;clear hK K)
         |(apply Exists.intro
           refine⟨fun W hW=>?_,hK _ ?_⟩
           first
           |(go_simp;try rfl)
           clear hK K)
        refine ai rfl 62 _ rfl _ rfl 62 _ _ _ (fun W hW=>hW.block HB2.o) Tryz.underlying62 rfl (by kernel_rfl) ?_
        iterate 1
         with_reducible refine wpQuiet_step (fun K hK=>?_)
         go_simp
         first
         |(refine hK _ ?_;clear hK K)
         |(apply Exists.intro
           refine⟨fun W hW=>?_,hK _ ?_⟩
           first
           |(go_simp;try rfl)
           clear hK K)
        refine wpQuiet_nil ?_
        intro wz hz
        have FB:=hQQ (FIN.o wz hz)
        have B8:=hQQ (hz.block B3R.o)
        clear hz FIN
        go_wp2_with (refine wpList_store_row rfl 62 _ _ rfl _ _ rfl rfl 62 _ B8.o (by kernel_rfl) rfl (by simp[Value.oneCell']) ?_)
        refine bodyPost_ret (v:=.tuple #[.int .i64 hd,.agg #[.slice a1 n1 c1],.bool true]) (fu Tryz.results59 _ _ _ 62 _ (0,0) _ rfl (setRow_heap _ _ _ _ _ _ B8.o) Tryz.underlying62 rfl (by kernel_rfl)) rfl FB.o
       ·have d1:decide ((j:Int)+1<c.ba)=false:=by simp[hq]
        -- what is handed back,behind the loop: the purse P1,words ws1
        have FIN:Hq (∀W,ae wr W→i6 w g cap n0 res (.returned (.tuple #[.int .i64 hd,.agg #[.slice a1 n1 c1],.bool true])) (W.setRow (w.heap.size+1+1) #[.slice a1 n1 c1])):=hQQ fun W hW=>by
         rw[ER.o,em1]
         have hT:Turned (fun b=>b=g∨b=w.heap.size+1) w3 W:=Turned.trans TR.o (turned_more hW)
         have hb:=(hT.block _ (ac B3.o) (fun q=>by have:=HG.o;omega)).trans B3.o
         have t:Turned (fun b=>b=w.heap.size+1+1) W (W.setRow (w.heap.size+1+1) #[.slice a1 n1 c1]):=Turned.setRow (Turned.refl _ W) _ _ (fun _=>rfl)
         refine⟨_,its1,rfl,(IR1.o.more hW).keep t (fun k q=>by subst q;exact⟨_,_,_,hb,by decide⟩),EV1.o,by have:=LN1.o;have:=HMB.o;omega,(X1.o.more hW).keep t (by have:=HG.o;omega),?_⟩
         have h2:Turned (fun b=>b=g∨b=w.heap.size+1∨b=w.heap.size+1+1) w3 (W.setRow (w.heap.size+1+1) #[.slice a1 n1 c1]):=Turned.trans (hT.mono (fun k _ q=>by rcases q with q|q;exact .inl q;exact .inr (.inl q))) (t.mono (fun k _ q=> .inr (.inr q)))
         exact aq (F':=fun b=>b=g∨b=w.heap.size+1∨b=w.heap.size+1+1) (turned_more MM.o) h2 (fun k q=>by rcases q with q|q|q;exact .inl q;exact .inr (by omega);exact .inr (by omega))
        have B3R:=hQQ ((TR.o.block _ (ac B3.o) (fun q=>by have:=HG.o;omega)).trans B3.o)
        go_wp2_with fail
        refine au 3 (by kernel_rfl) (by kernel_rfl) ?_
        simp only[List.take_succ_cons,List.take_zero,List.drop_succ_cons,List.drop_zero]
        iterate 1
         with_reducible refine wpQuiet_step (fun K hK=>?_)
         go_simp
         first
         |(refine hK _ ?_;clear hK K)
         |(apply Exists.intro
           refine⟨fun W hW=>?_,hK _ ?_⟩
           first
           |(go_simp;try rfl)
           clear hK K)
        refine ai rfl 62 _ rfl _ rfl 62 _ _ _ (fun W hW=>hW.block HB2.o) Tryz.underlying62 rfl (by kernel_rfl) ?_
        iterate 1
         with_reducible refine wpQuiet_step (fun K hK=>?_)
         go_simp
         first
         |(refine hK _ ?_;clear hK K)
         |(apply Exists.intro
           refine⟨fun W hW=>?_,hK _ ?_⟩
           first
           |(go_simp;try rfl)
           clear hK K)
        refine wpQuiet_nil ?_
        intro wz hz
        have FB:=hQQ (FIN.o wz hz)
        have B8:=hQQ (hz.block B3R.o)
        clear hz FIN
        go_wp2_with (refine wpList_store_row rfl 62 _ _ rfl _ _ rfl rfl 62 _ B8.o (by kernel_rfl) rfl (by simp[Value.oneCell']) ?_)
        refine bodyPost_ret (v:=.tuple #[.int .i64 hd,.agg #[.slice a1 n1 c1],.bool true]) (fu Tryz.results59 _ _ _ 62 _ (0,0) _ rfl (setRow_heap _ _ _ _ _ _ B8.o) Tryz.underlying62 rfl (by kernel_rfl)) rfl FB.o
def Fo (w:World)(g cap len:Nat)(res:(Nat→List Int)×List Int)(e:Ending)(w':World):Prop :=
 ∃v' its',e=.returned (.agg #[v'])∧IR 0 w' v' its'∧Eqv res.1 its'∧its'.length≤len+1∧Ws w' g cap res.2∧Turned (fun b=>b=g) w w'
theorem Fp {c:Cfg}(R:c.Ok)(ws:List Int)(H:cB c.pg c.st ws.length)(hl:ws.length≤1000)(hww:(ws.length:Int)=c.words){r:Gh}{C:Nat→List Int}{O:List (Int×Int)}{ad:Int}{u k:Nat}{P:Nat→List Int}(F:FrI c.us c.pg c.st ws.length (bh c) r ws C (puO P++((ad,(k:Int))::O)))(g cap:Nat)(hu:(u:Int)<c.cp)(hk:k<5)(v:Value)(its:List It)(he:Eqv P its)(hlen:its.length≤10000)(w:World)(hv:IR 0 w v its)(hw:Ws w g cap ws):
 Calls Tryz.prog 67 #[.agg c.cells,.slice (some ⟨g,0,none⟩) ws.length cap,.int .i64 (u:Int),.agg #[v],.int .i64 (k:Int),.int .i64 ad] w (Fo w g cap its.length (gvW c u P k ad ws)):=by
 have efr:BZ c (u:Int) (k:Int):=⟨by omega,by omega,by omega,hu⟩
 have ewk:gvW c (u:Int) P (k:Int) ad ws=rR c.us c.pg c.st (bh c) (5 * u+k) (5 * c.cp.toNat+k) k c.pr c.ba.toNat ad P ws:=by
  unfold gvW;rw[if_pos efr];rfl
 obtain⟨res,hres⟩:∃res,gvW c (u:Int) P (k:Int) ad ws=res:=⟨_,rfl⟩
 rw[hres]
 rw[ewk] at hres
 unfold rR at hres
 have HRS:=hQQ hres
 clear efr ewk hres
 obtain⟨av,cv,rfl,_,_,_⟩:=hv.at
 obtain⟨n0,hn0⟩:∃n0,its.length=n0:=⟨_,rfl⟩
 have LS:=hQQ (fun W (hW:IR 0 W (.slice av its.length cv) its)=>yx (.slice av its.length cv) its (k:Int) W hW (by omega))
 rw[←he.at' k hk] at LS
 rw[hn0] at hlen hv LS⊢
 obtain⟨w3,e3,hb1,hb2,hb3,m3,s3⟩:=lT w (.cells c.cells 27) (.cells #[.slice av n0 cv] 62) (.cells #[.slice none 0 0] 62)
 have MM:=hQQ m3
 have B1W:=hQQ hb1
 have B2:=hQQ hb2
 have B3:=hQQ hb3
 have S3:=hQQ s3
 have NO:=hQQ (fun W=>vS R hu hk W)
 have HG:=hQQ hw.lt
 have HN0:=hQQ hn0
 have IR0:=hQQ (hv.more m3)
 have X0:=hQQ (hw.more m3)
 have HE:=hQQ he
 have F0:=hQQ F
 have HBA:Hq (c.ba≤1000):=hQQ (by have:=R.ba2;omega)
 obtain⟨a1,a2,a3,a4⟩:=gC (d:=c) hu hk
 obtain⟨b1,b2,b3,b4⟩:=lq (d:=c) (c:=k) (by have:=R.cp1;omega) hk
 have UI:=zQ R H hww (by omega)
 have AWF:=hQQ (fun(us:List Int) (C':Nat→List Int) (O':List (Int×Int)) (x:Int) (hF:FrI c.us c.pg c.st ws.length (bh c) r us C' ((x,(k:Int))::O'))=>vP H (hH R hww) (by omega) UI a1 b1 hk a4 b4 hF)
 have AWY:=hQQ (fun(us:List Int) (C':Nat→List Int) (O':List (Int×Int)) (x:Int) (hus:us.length=ws.length) (hF:FrI c.us c.pg c.st ws.length (bh c) r us C' ((x,(k:Int))::O')) W (hW:Ws W g cap us)=>by
  have:=Fi R us (by rw[hus];exact H) (by omega) (by rw[hus];exact hww) (by rw[hus];exact hF) (zP H (hH R hww) (by omega) UI hF (List.mem_cons_self ..)) g cap hu hk W hW
  rw[hus] at this
  exact this)
 clear hb1 hb2 hb3 m3 s3 UI a1 a2 a3 a4 b1 b2 b3 b4 hn0 hv hw he F
 go_enter Tryz.func67,Tryz.ntmps67
 go_wp2_with (first|(refine aA rfl rfl rfl B1W.o (by kernel_rfl) ?_)|(refine aA rfl rfl rfl B1W.o (by kernel_rfl) ?_))
 clear e3
 refine(NO.o _).mono ?_
 rintro e w4 ⟨rfl,h4⟩
 have M4:=hQQ h4
 clear h4
 go_wp2_with fail
 refine dg (fun W=>W.heap[w.heap.size]?=some (.cells c.cells 27 (0,0))∧W.heap[(w.heap.size+1)]?=some (.cells #[.slice av n0 cv] 62 (0,0))) (by kernel_rfl) ?_
 change eY _ _ _ _ _ _ _ _ (w4.drewN 1)
 have M0:Hq (ae w3 (w4.drewN 1)):=hQQ (M4.o.drewN 1)
 have C0:Hq ((w4.drewN 1).heap[w.heap.size]?=some (.cells c.cells 27 (0,0))∧(w4.drewN 1).heap[(w.heap.size+1)]?=some (.cells #[.slice av n0 cv] 62 (0,0))):=hQQ ⟨M0.o.block B1W.o,M0.o.block B2.o⟩
 generalize w4.drewN 1=wq at M0 C0⊢
 generalize hA:Act.mk _ _=A
 have HF:AG 67 A [(4,.int .i64 (k:Int)),(6,.pointer (some ⟨w.heap.size,0,none⟩)),(9,.pointer (some ⟨(w.heap.size+1),0,none⟩))]:=by
  rw[←hA];try simp only[pts,List.foldl]
  refine⟨⟨Nat.le_of_ble_eq_true rfl,rfl⟩,?_⟩
  intro z hz;simp only[List.mem_cons,List.not_mem_nil,or_false] at hz;rcases hz with rfl|rfl|rfl<;>rfl
 refine eZ (fun a W=>∃(al:Option Addr) (cl:Nat),a=(pts A [(23,.agg #[.slice av n0 cv]),(24,.int .i64 (k:Int)),(27,.pointer (some ⟨w.heap.size,0,none⟩)),(28,.pointer (some ⟨w.heap.size,7,none⟩)),(29,.int .i64 c.pr),(25,.slice al (P k).length cl),(26,.int .i64 ((P k).length:Int)),(30,.bool (decide (c.pr≤((P k).length:Int)))),(13,.bool (decide (c.pr≤((P k).length:Int))))])∧ae w3 W) (fun _=>False) [] (fun a W hd h=>h.elim) (fun _ _ _ _ _ h=>h) ?_ ?_
 ·skip
  rintro a9 w9 ⟨al,cl,rfl,h9⟩
  rw[←hA];try simp only[pts,List.foldl]
  have M9:=hQQ h9
  clear HF hA h9 M0 C0
  obtain⟨fl,hfl⟩:∃fl,decide (c.pr≤((P k).length:Int))=fl:=⟨_,rfl⟩
  rw[hfl]
  cases fl with
  |false =>
   have hmf:fW c.us c.pg c.st (bh c) (5 * u+k) (5 * c.cp.toNat+k) k (0-0) P ws=(P,ws):=rfl
   have ER:Hq (res=(dx P k ad c.pr,ws)):=hQQ (by rw[←HRS.o,if_neg (by simpa using hfl)])
   obtain⟨mf,emf⟩:∃mf,((P,ws):(Nat→List Int)×List Int)=mf:=⟨_,rfl⟩
   have EMF:=hQQ emf
   rw[emf] at hmf
   clear hfl emf
   go_simp
   go_wp2_with fail
   go_loopw [14,15,16,17] (fun v14 v15 v16 v17 wr=>∃(j:Nat) (its1:List It) (a1:Option Addr) (n1 c1:Nat) (P1:Nat→List Int) (ws1:List Int) (C1:Nat→List Int),v14=.int .i64 (j:Int)∧j≤0∧Turned (fun b=>b=g∨b=w.heap.size+1) w3 wr∧wr.heap[w.heap.size+1]?=some (.cells #[.slice a1 n1 c1] 62 (0,0))∧IR 0 wr (.slice a1 n1 c1) its1∧its1.length=n1∧Eqv P1 its1∧n1≤n0∧Ws wr g cap ws1∧ws1.length=ws.length∧FrI c.us c.pg c.st ws.length (bh c) r ws1 C1 (puO P1++((ad,(k:Int))::O))∧(True)∧fW c.us c.pg c.st (bh c) (5 * u+k) (5 * c.cp.toNat+k) k (0-j) P1 ws1=mf) (fun v14 _ _ _ _=>((0:Int)-intOf v14).toNat)
   case atStart=>exact⟨0,its,av,n0,cv,P,ws,C,by simp,Nat.zero_le _,turned_more M9.o,M9.o.block B2.o,IR0.o.more M9.o,HN0.o,HE.o,Nat.le_refl _,X0.o.more M9.o,rfl,F0.o,trivial,hmf⟩
   case round =>
    obtain⟨j,its1,a1,n1,c1,P1,ws1,C1,rfl,hj,hTR,hB2',hIR1,hn1,hEV1,hln1,hX1,hl1,hF1,hpk,hm⟩:=hrel
    have TR:=hQQ hTR
    have HB2:=hQQ hB2'
    have IR1:=hQQ hIR1
    have N1:=hQQ hn1
    have EV1:=hQQ hEV1
    have LN1:=hQQ hln1
    have X1:=hQQ hX1
    have L1:=hQQ hl1
    have FI1:=hQQ hF1
    have PK:=hQQ hpk
    have HM:=hQQ hm
    have y2:wr.cell? ⟨w.heap.size+1,0,none⟩=some (.slice a1 n1 c1):=by simp[World.cell?,hB2']
    have CB:=hQQ ((hTR.block _ (ac B1W.o) (fun q=>by have:=HG.o;omega)).trans B1W.o)
    have z10:wr.cell? ⟨w.heap.size,10,none⟩=some (.int .i64 c.ba):=by simp[World.cell?,CB.o,Cfg.cells]
    have HL1:Hq (n1≤50000):=hQQ (by omega)
    clear hTR hB2' hIR1 hn1 hEV1 hln1 hX1 hl1 hF1 hpk hm
    have hj0:j=0:=by omega
    subst hj0
    have em1:res=(dx P1 k ad c.pr,ws1):=by
     have:=HM.o.trans EMF.o.symm
     have e1:(P1,ws1)=(P,ws):=this
     rw[ER.o];cases e1;rfl
    -- behind the loop,at the world of the facts TR,HB2,IR1,N1,EV1,X1,CB;em1: what is to come
    have B3E:=hQQ ((TR.o.block _ (ac B3.o) (fun q=>by have:=HG.o;omega)).trans B3.o)
    have z7:wr.cell? ⟨w.heap.size,7,none⟩=some (.int .i64 c.pr):=by simp[World.cell?,CB.o,Cfg.cells]
    have y2:wr.cell? ⟨w.heap.size+1,0,none⟩=some (.slice a1 n1 c1):=by simp[World.cell?,HB2.o]
    have PH:=hQQ (qq (.slice a1 its1.length c1) its1 (k:Int) ad c.pr wr (by rw[←N1.o] at IR1;exact IR1.o) (by have:=N1.o;have:=HL1.o;omega))
    rw[N1.o] at PH
    have EV2:=hQQ (EV1.o.push (k:Int) ad c.pr).2
    go_wp2_with fail
    refine PH.o.mono ?_
    rintro e wh ⟨v8,rfl,hr8,m8⟩
    obtain⟨a8,c8,rfl,_,_,_⟩:=hr8.at
    have l8:=kN its1 (k:Int) ad c.pr
    obtain⟨its2,hits2⟩:∃its2,j2 its1 (k:Int) ad c.pr=its2:=⟨_,rfl⟩
    rw[hits2] at hr8 l8 EV2⊢
    obtain⟨n8,hn8⟩:∃n8,its2.length=n8:=⟨_,rfl⟩
    rw[hn8] at hr8⊢
    have BH:=hQQ (m8.block HB2.o)
    obtain⟨wx,ex⟩:∃wx,wh.setRow (w.heap.size+1) #[.slice a8 n8 c8]=wx:=⟨_,rfl⟩
    have t8:Turned (fun b=>b=w.heap.size+1) wh wx:=by rw[←ex];exact Turned.setRow (Turned.refl _ wh) _ _ (fun _=>rfl)
    have RB:Hq (wx.heap[w.heap.size+1]?=some (.cells #[.slice a8 n8 c8] 62 (0,0))):=hQQ (by rw[←ex];exact setRow_heap wh (w.heap.size+1) _ #[.slice a8 n8 c8] _ _ BH.o)
    have RB3:=hQQ ((t8.block _ (ac (m8.block B3E.o)) (by omega)).trans (m8.block B3E.o))
    have RI:=hQQ (hr8.keep t8 (fun k q=>by subst q;exact⟨_,_,_,BH.o,by decide⟩))
    have RX:=hQQ ((X1.o.more m8).keep t8 (by have:=HG.o;omega))
    have RT:=hQQ (Turned.trans TR.o (Turned.trans (turned_more m8) (t8.mono (fun _ _ q=>Or.inr q))))
    have y3:wx.cell? ⟨w.heap.size+1,0,none⟩=some (.slice a8 n8 c8):=by simp[World.cell?,RB.o]
    have FIN:Hq (Fo w g cap n0 res (.returned (.agg #[.slice a8 n8 c8])) (wx.setRow (w.heap.size+1+1) #[.slice a8 n8 c8])):=hQQ (by
     rw[em1]
     have t:Turned (fun b=>b=w.heap.size+1+1) wx (wx.setRow (w.heap.size+1+1) #[.slice a8 n8 c8]):=Turned.setRow (Turned.refl _ wx) _ _ (fun _=>rfl)
     refine⟨_,its2,rfl,RI.o.keep t (fun k q=>by subst q;exact⟨_,_,_,RB3.o,by decide⟩),EV2.o,by have:=LN1.o;have:=N1.o;omega,RX.o.keep t (by have:=HG.o;omega),?_⟩
     have h2:Turned (fun b=>b=g∨b=w.heap.size+1∨b=w.heap.size+1+1) w3 (wx.setRow (w.heap.size+1+1) #[.slice a8 n8 c8]):=Turned.trans (RT.o.mono (fun k _ q=>by rcases q with q|q;exact .inl q;exact .inr (.inl q))) (t.mono (fun k _ q=> .inr (.inr q)))
     exact aq (F':=fun b=>b=g∨b=w.heap.size+1∨b=w.heap.size+1+1) (turned_more MM.o) h2 (fun k q=>by rcases q with q|q|q;exact .inl q;exact .inr (by omega);exact .inr (by omega)))
    clear hr8 m8 t8 l8 hits2 y2 z7 hn8 PH EV2 RI RX RT
    go_wp2_with (first|(refine wpList_store_row rfl 62 _ _ rfl _ _ rfl rfl 62 _ BH.o (by kernel_rfl) rfl (by simp[Value.oneCell']) ?_;rw[ex])|(refine wpList_store_row rfl 62 _ _ rfl _ _ rfl rfl 62 _ RB3.o (by kernel_rfl) rfl (by simp[Value.oneCell']) ?_))
    refine bodyPost_ret (v:=.agg #[.slice a8 n8 c8]) (results_cell_row Tryz.results67 _ _ _ 62 _ (0,0) _ rfl (setRow_heap _ _ _ _ _ _ RB3.o) Tryz.underlying62 rfl (by kernel_rfl)) rfl FIN.o
  |true =>
   obtain⟨mf,hmf⟩:∃mf,fW c.us c.pg c.st (bh c) (5 * u+k) (5 * c.cp.toNat+k) k (c.ba.toNat-0) P ws=mf:=⟨_,rfl⟩
   have ER:Hq (res=(dx mf.1 k ad c.pr,mf.2)):=hQQ (by rw[←HRS.o,if_pos (by simpa using hfl),←hmf];rfl)
   clear hfl
   go_simp
   go_wp2_with fail
   go_loopw [14,15,16,17] (fun v14 v15 v16 v17 wr=>∃(j:Nat) (its1:List It) (a1:Option Addr) (n1 c1:Nat) (P1:Nat→List Int) (ws1:List Int) (C1:Nat→List Int),v14=.int .i64 (j:Int)∧j≤c.ba.toNat∧Turned (fun b=>b=g∨b=w.heap.size+1) w3 wr∧wr.heap[w.heap.size+1]?=some (.cells #[.slice a1 n1 c1] 62 (0,0))∧IR 0 wr (.slice a1 n1 c1) its1∧its1.length=n1∧Eqv P1 its1∧n1≤n0∧Ws wr g cap ws1∧ws1.length=ws.length∧FrI c.us c.pg c.st ws.length (bh c) r ws1 C1 (puO P1++((ad,(k:Int))::O))∧(True)∧fW c.us c.pg c.st (bh c) (5 * u+k) (5 * c.cp.toNat+k) k (c.ba.toNat-j) P1 ws1=mf) (fun v14 _ _ _ _=>((c.ba.toNat:Int)-intOf v14).toNat)
   case atStart=>exact⟨0,its,av,n0,cv,P,ws,C,by simp,Nat.zero_le _,turned_more M9.o,M9.o.block B2.o,IR0.o.more M9.o,HN0.o,HE.o,Nat.le_refl _,X0.o.more M9.o,rfl,F0.o,trivial,hmf⟩
   case round =>
    obtain⟨j,its1,a1,n1,c1,P1,ws1,C1,rfl,hj,hTR,hB2',hIR1,hn1,hEV1,hln1,hX1,hl1,hF1,hpk,hm⟩:=hrel
    have TR:=hQQ hTR
    have HB2:=hQQ hB2'
    have IR1:=hQQ hIR1
    have N1:=hQQ hn1
    have EV1:=hQQ hEV1
    have LN1:=hQQ hln1
    have X1:=hQQ hX1
    have L1:=hQQ hl1
    have FI1:=hQQ hF1
    have PK:=hQQ hpk
    have HM:=hQQ hm
    have y2:wr.cell? ⟨w.heap.size+1,0,none⟩=some (.slice a1 n1 c1):=by simp[World.cell?,hB2']
    have CB:=hQQ ((hTR.block _ (ac B1W.o) (fun q=>by have:=HG.o;omega)).trans B1W.o)
    have z10:wr.cell? ⟨w.heap.size,10,none⟩=some (.int .i64 c.ba):=by simp[World.cell?,CB.o,Cfg.cells]
    have HL1:Hq (n1≤50000):=hQQ (by omega)
    clear hTR hB2' hIR1 hn1 hEV1 hln1 hX1 hl1 hF1 hpk hm
    by_cases hlt:j<c.ba.toNat
    ·obtain⟨m,em⟩:∃m,c.ba.toNat-j=m+1:=⟨c.ba.toNat-j-1,by omega⟩
     have d1:decide ((j:Int)<c.ba)=true:=by simp;omega
     have q1:IntKind.i64.wrap ((j:Int)+1)=(j:Int)+1:=am (by have:=HBA.o;omega) (by have:=HBA.o;omega)
     obtain⟨its',PI,EQ'⟩:=EV1.o.pop (k:Int)
     have PO:=hQQ (PI.calls (.slice a1 its1.length c1) wr (by rw[←N1.o] at IR1;exact IR1.o) (by have:=N1.o;have:=HL1.o;omega))
     rw[N1.o] at PO
     go_wp2_with fail
     refine PO.o.mono ?_
     rintro e w5 ⟨v5,rfl,hr5,m5⟩
     obtain⟨a5,c5,rfl,_,_,_⟩:=hr5.at
     obtain⟨n5,hn5⟩:∃n5,its'.length=n5:=⟨_,rfl⟩
     have PL:=PI.len
     rw[hn5] at hr5 PL⊢
     obtain⟨w6,e6,hb6,m6,s6⟩:=df w5 (.cells #[.slice none 0 0] 62)
     obtain⟨w7,e7⟩:∃w7,w6.setRow w5.heap.size #[.slice a5 n5 c5]=w7:=⟨_,rfl⟩
     have m7:ae w5 w7:=by rw[←e7];exact m6.setRow _ _ (Nat.le_refl _)
     have hb7:w7.heap[w5.heap.size]?=some (.cells #[.slice a5 n5 c5] 62 (0,0)):=by rw[←e7];exact setRow_heap _ _ _ _ _ _ hb6
     have B7:=hQQ hb7
     have B6:=hQQ hb6
     have R5:=hQQ (hr5.more m7)
     have M7:=hQQ (m5.trans m7)
     have HN5:=hQQ hn5
     have CB7:=hQQ (M7.o.block CB.o)
     have X7:=hQQ (X1.o.more M7.o)
     have HB7:=hQQ (M7.o.block HB2.o)
     have GE:Hq (wr.heap.size≤w5.heap.size):=hQQ m5.size
     have PL:=hQQ PL
     clear m7 hr5 m5 m6 s6 hb6 y2 z10 PO hn5 hb7 PI
     rcases List.eq_nil_or_concat (P1 k) with e|⟨xs,x,e⟩
     ·have hb:=tF P1 hk e
      have hp:oo P1 (k:Int)=P1:=by simp[oo,hb]
      have hm1:fW c.us c.pg c.st (bh c) (5 * u+k) (5 * c.cp.toNat+k) k (c.ba.toNat-(j+1)) P1 ws1=mf:=by
       have:=HM.o
       rw[em] at this
       rw[show c.ba.toNat-(j+1)=m by omega,←this]
       cases m<;>simp[fW,hb]
      have HM1:=hQQ hm1
      rw[hb]
      have TR7:=hQQ (Turned.trans TR.o (turned_more M7.o))
      have IR7:=hQQ (IR1.o.more M7.o)
      clear hm1 hp hb e
      go_wp2_with (refine wpList_store_row rfl 62 _ _ rfl _ _ rfl rfl 62 _ B6.o (by kernel_rfl) rfl (by simp[Value.oneCell']) ?_;rw[e7])
      go_roundw
      case rel=>exact⟨j+1,its1,a1,n1,c1,P1,ws1,C1,by go_num,by omega,TR7.o,HB7.o,IR7.o,N1.o,EV1.o,LN1.o,X7.o,L1.o,FI1.o,trivial,HM1.o⟩
      case measure=>simp[intOf];omega
     ·rw[List.concat_eq_append] at e
      obtain⟨b1,b2,b3⟩:=pk P1 hk e
      have h2:FrI c.us c.pg c.st ws.length (bh c) r ws1 C1 ((x,(k:Int))::(puO (dT P1 k xs)++((ad,(k:Int))::O))):=FI1.o.perm ((tE P1 hk e).append_right _)
      have AW:=hQQ (AWY.o ws1 C1 _ x L1.o h2 _ X7.o)
      obtain⟨C2,h3⟩:=AWF.o ws1 C1 _ x h2
      have hm1:fW c.us c.pg c.st (bh c) (5 * u+k) (5 * c.cp.toNat+k) k (c.ba.toNat-(j+1)) (oo P1 (k:Int)) (mY c.us c.pg c.st (bh c) (5 * u+k) (5 * c.cp.toNat+k) x ws1)=mf:=by
       have:=HM.o
       rw[em] at this
       rw[show c.ba.toNat-(j+1)=m by omega,←this]
       simp[fW,b1,b2]
      rw[←b3] at h3
      have HN:=hQQ (And.intro hm1 h3)
      have L2:=hQQ h3.len
      rw[b1,b2]
      clear hm1 h3 h2 b1 b2 b3 e
      have y5:w7.cell? ⟨w5.heap.size,0,none⟩=some (.slice a5 n5 c5):=by simp[World.cell?,B7.o]
      go_wp2_with (first|(refine wpList_store_row rfl 62 _ _ rfl _ _ rfl rfl 62 _ B6.o (by kernel_rfl) rfl (by simp[Value.oneCell']) ?_;rw[e7])|(first|(refine aA rfl rfl rfl CB7.o (by kernel_rfl) ?_)|(refine aA rfl rfl rfl CB7.o (by kernel_rfl) ?_)))
      refine AW.o.mono ?_
      rintro e w8 ⟨rfl,hx8,ht8⟩
      have B8:=hQQ ((ht8.block _ (ac B7.o) (fun q=>by have:=HG.o;have:=GE.o;have:=TR.o.size;have:=S3.o;omega)).trans B7.o)
      have HB8:=hQQ ((ht8.block _ (ac HB7.o) (fun q=>by have:=HG.o;omega)).trans HB7.o)
      have t9:Turned (fun b=>b=w.heap.size+1) w8 (w8.setRow (w.heap.size+1) #[.slice a5 n5 c5]):=Turned.setRow (Turned.refl _ w8) _ _ (fun _=>rfl)
      have RT:=hQQ (Turned.trans TR.o (Turned.trans (turned_more M7.o) (Turned.trans (ht8.mono (fun _ _ q=>Or.inl q)) (t9.mono (fun _ _ q=>Or.inr q)))))
      have RB:=hQQ (setRow_heap w8 (w.heap.size+1) _ #[.slice a5 n5 c5] _ _ HB8.o)
      have RI:=hQQ ((jp R5.o X7.o ht8).keep t9 (fun k q=>by subst q;exact⟨_,_,_,HB8.o,by decide⟩))
      have RX:=hQQ (Ws.keep hx8 t9 (by have:=HG.o;omega))
      have y8:w8.cell? ⟨w5.heap.size,0,none⟩=some (.slice a5 n5 c5):=by simp[World.cell?,B8.o]
      have EQ9:=hQQ EQ'
      have LE:Hq (n5≤n0):=hQQ (by have:=PL.o;have:=N1.o;have:=LN1.o;omega)
      clear hx8 ht8 t9 y5 EQ'
      go_wp2_with (refine wpList_store_row rfl 62 _ _ rfl _ _ rfl rfl 62 _ HB8.o (by kernel_rfl) rfl (by simp[Value.oneCell']) ?_)
      go_roundw
      case rel=>exact⟨j+1,its',a5,n5,c5,oo P1 (k:Int),_,C2,by go_num,by omega,RT.o,RB.o,RI.o,HN5.o,EQ9.o,LE.o,RX.o,L2.o,HN.o.2,trivial,HN.o.1⟩
      case measure=>simp[intOf];omega
    ·have hje:c.ba.toNat-j=0:=by omega
     have em1:res=(dx P1 k ad c.pr,ws1):=by
      have:=HM.o
      rw[hje] at this
      rw[ER.o,←this];rfl
     have d1:decide ((j:Int)<c.ba)=false:=by simp;omega
     -- behind the loop,at the world of the facts TR,HB2,IR1,N1,EV1,X1,CB;em1: what is to come
     have B3E:=hQQ ((TR.o.block _ (ac B3.o) (fun q=>by have:=HG.o;omega)).trans B3.o)
     have z7:wr.cell? ⟨w.heap.size,7,none⟩=some (.int .i64 c.pr):=by simp[World.cell?,CB.o,Cfg.cells]
     have y2:wr.cell? ⟨w.heap.size+1,0,none⟩=some (.slice a1 n1 c1):=by simp[World.cell?,HB2.o]
     have PH:=hQQ (qq (.slice a1 its1.length c1) its1 (k:Int) ad c.pr wr (by rw[←N1.o] at IR1;exact IR1.o) (by have:=N1.o;have:=HL1.o;omega))
     rw[N1.o] at PH
     have EV2:=hQQ (EV1.o.push (k:Int) ad c.pr).2
     go_wp2_with fail
     refine PH.o.mono ?_
     rintro e wh ⟨v8,rfl,hr8,m8⟩
     obtain⟨a8,c8,rfl,_,_,_⟩:=hr8.at
     have l8:=kN its1 (k:Int) ad c.pr
     obtain⟨its2,hits2⟩:∃its2,j2 its1 (k:Int) ad c.pr=its2:=⟨_,rfl⟩
     rw[hits2] at hr8 l8 EV2⊢
     obtain⟨n8,hn8⟩:∃n8,its2.length=n8:=⟨_,rfl⟩
     rw[hn8] at hr8⊢
     have BH:=hQQ (m8.block HB2.o)
     obtain⟨wx,ex⟩:∃wx,wh.setRow (w.heap.size+1) #[.slice a8 n8 c8]=wx:=⟨_,rfl⟩
     have t8:Turned (fun b=>b=w.heap.size+1) wh wx:=by rw[←ex];exact Turned.setRow (Turned.refl _ wh) _ _ (fun _=>rfl)
     have RB:Hq (wx.heap[w.heap.size+1]?=some (.cells #[.slice a8 n8 c8] 62 (0,0))):=hQQ (by rw[←ex];exact setRow_heap wh (w.heap.size+1) _ #[.slice a8 n8 c8] _ _ BH.o)
     have RB3:=hQQ ((t8.block _ (ac (m8.block B3E.o)) (by omega)).trans (m8.block B3E.o))
     have RI:=hQQ (hr8.keep t8 (fun k q=>by subst q;exact⟨_,_,_,BH.o,by decide⟩))
     have RX:=hQQ ((X1.o.more m8).keep t8 (by have:=HG.o;omega))
     have RT:=hQQ (Turned.trans TR.o (Turned.trans (turned_more m8) (t8.mono (fun _ _ q=>Or.inr q))))
     have y3:wx.cell? ⟨w.heap.size+1,0,none⟩=some (.slice a8 n8 c8):=by simp[World.cell?,RB.o]
     have FIN:Hq (Fo w g cap n0 res (.returned (.agg #[.slice a8 n8 c8])) (wx.setRow (w.heap.size+1+1) #[.slice a8 n8 c8])):=hQQ (by
      rw[em1]
      have t:Turned (fun b=>b=w.heap.size+1+1) wx (wx.setRow (w.heap.size+1+1) #[.slice a8 n8 c8]):=Turned.setRow (Turned.refl _ wx) _ _ (fun _=>rfl)
      refine⟨_,its2,rfl,RI.o.keep t (fun k q=>by subst q;exact⟨_,_,_,RB3.o,by decide⟩),EV2.o,by have:=LN1.o;have:=N1.o;omega,RX.o.keep t (by have:=HG.o;omega),?_⟩
      have h2:Turned (fun b=>b=g∨b=w.heap.size+1∨b=w.heap.size+1+1) w3 (wx.setRow (w.heap.size+1+1) #[.slice a8 n8 c8]):=Turned.trans (RT.o.mono (fun k _ q=>by rcases q with q|q;exact .inl q;exact .inr (.inl q))) (t.mono (fun k _ q=> .inr (.inr q)))
      exact aq (F':=fun b=>b=g∨b=w.heap.size+1∨b=w.heap.size+1+1) (turned_more MM.o) h2 (fun k q=>by rcases q with q|q|q;exact .inl q;exact .inr (by omega);exact .inr (by omega)))
     clear hr8 m8 t8 l8 hits2 y2 z7 hn8 PH EV2 RI RX RT
     go_wp2_with (first|(refine wpList_store_row rfl 62 _ _ rfl _ _ rfl rfl 62 _ BH.o (by kernel_rfl) rfl (by simp[Value.oneCell']) ?_;rw[ex])|(refine wpList_store_row rfl 62 _ _ rfl _ _ rfl rfl 62 _ RB3.o (by kernel_rfl) rfl (by simp[Value.oneCell']) ?_))
     refine bodyPost_ret (v:=.agg #[.slice a8 n8 c8]) (results_cell_row Tryz.results67 _ _ _ 62 _ (0,0) _ rfl (setRow_heap _ _ _ _ _ _ RB3.o) Tryz.underlying62 rfl (by kernel_rfl)) rfl FIN.o
 intro QQ FINE FIND FINQ
 clear hA
 refine tqC 0 23 (.agg #[.slice av n0 cv]) (by kernel_rfl) FINQ C0.o HF (by exact bF (ah rfl) 62 _ rfl ((w.heap.size+1)) (HF.get 2 rfl) 62 _ _ _ (fun W hW=>hW.2) Tryz.underlying62 rfl (by kernel_rfl)) fun A β1 HF=>?_
 refine tqM 1 24 1 rfl (.inl rfl) rfl (by kernel_rfl) FINQ C0.o HF fun A β2 HF=>?_
 refine tqC 4 27 (.pointer (some ⟨w.heap.size,0,none⟩)) (by kernel_rfl) FINQ C0.o HF (by exact(Or.inl ⟨(ah rfl),fun W hW=>by have h50:=(HF.getD 3 rfl);go_simp⟩)) fun A β3 HF=>?_
 refine tqC 5 28 (.pointer (some ⟨w.heap.size,7,none⟩)) (by kernel_rfl) FINQ C0.o HF (by exact(Or.inl ⟨(ah rfl),fun W hW=>by have h50:=(HF.getD 0 rfl);go_simp⟩)) fun A β4 HF=>?_
 refine tqC 6 29 (.int .i64 c.pr) (by kernel_rfl) FINQ C0.o HF (by exact cZ (ah rfl) 3 _ rfl (w.heap.size) 7 (HF.get 0 rfl) (.int .i64 c.pr) _ Tryz.underlying3 rfl (fun W hW=>by simp[World.cell?,hW.1,Cfg.cells])) fun A β5 HF=>?_
 refine tqO 2 25 (by kernel_rfl) HF fun K hK=>?_
 refine gS (v0:=.agg #[.slice av n0 cv]) (v1:=.int .i64 (k:Int)) rfl (HF.get 4 rfl) (HF.get 3 rfl) (enters_of Tryz.func109 (by kernel_rfl) rfl) ?_
 refine(LS.o wq (IR0.o.more M0.o)).mono ?_
 rintro e y1 ⟨vl,rfl,hrl,h1⟩
 obtain⟨al,cl,rfl,_⟩:=hrl.reads
 have M1:=hQQ (M0.o.trans h1)
 have C1:Hq (y1.heap[w.heap.size]?=some (.cells c.cells 27 (0,0))∧y1.heap[(w.heap.size+1)]?=some (.cells #[.slice av n0 cv] 62 (0,0))):=hQQ ⟨h1.block C0.o.1,h1.block C0.o.2⟩
 clear h1 hrl
 refine hK _ _ C1.o fun A β6 HF=>?_
 clear hK K
 refine tqC 3 26 (.int .i64 ((P k).length:Int)) (by kernel_rfl) FINQ C1.o HF (by exact(Or.inl ⟨(ah rfl),fun W hW=>by have h50:=(HF.getD 0 rfl);go_simp⟩)) fun A β7 HF=>?_
 refine tqC 7 30 (.bool (decide (c.pr≤((P k).length:Int)))) (by kernel_rfl) FINQ C1.o HF (by exact(Or.inl ⟨(ah rfl),fun W hW=>by have h50:=(HF.getD 0 rfl);have h51:=(HF.getD 2 rfl);go_simp⟩)) fun A β8 HF=>?_
 refine tqM 8 13 0 rfl (.inr rfl) rfl (by kernel_rfl) FINQ C1.o HF fun A β9 HF=>?_
 exact el (by kernel_rfl) (FINE _ _ ⟨al,cl,by rw[← β9,← β8,← β7,← β6,← β5,← β4,← β3,← β2,← β1]<;>rfl,M1.o⟩)
def zV (us pg st ad q wd:Int)(ws:List Int):(Int×Int)×Bool :=
 if 0≤lZ pg st q ws∧aj pg st ws (lZ pg st q ws)=6 then((us+32 * lZ pg st q ws,32 * aL pg st ws (lZ pg st q ws)),true)
 else if szV (aj pg st ws q-1)=0 then((0,0),false)
 else if(iZ us pg st (ad-wd % szV (aj pg st ws q-1)) ws).2 then((ad-wd % szV (aj pg st ws q-1),szV (aj pg st ws q-1)),true) else((0,0),false)
def tL (us pg st ad:Int)(ws:List Int):(Int×Int)×Bool :=
 if us≤ad∧ad<us+32 * pg then zV us pg st ad ((ad-us) / 32) ((ad-us) % 32) ws else((0,0),false)
theorem nh {a b:Int}(h:0≤a)(hb:0<b):a % b≤a:=by
 have h1:=Int.emod_add_mul_ediv a b
 have h2:0≤b * (a / b):=Int.mul_nonneg (by omega) (Int.ediv_nonneg h (by omega))
 omega
theorem vV {c:Cfg}(R:c.Ok)(ws:List Int)(H:cB c.pg c.st ws.length)(hl:ws.length≤1000){G:Int→List Int}(F:PgF c.pg c.st G ws)(g cap:Nat)(ad:Int)(w:World)(hw:Ws w g cap ws):
 Calls Tryz.prog 64 #[.agg c.cells,.slice (some ⟨g,0,none⟩) ws.length cap,.int .i64 ad] w (aF w (.tuple #[.int .i64 (tL c.us c.pg c.st ad ws).1.1,.int .i64 (tL c.us c.pg c.st ad ws).1.2,.bool (tL c.us c.pg c.st ad ws).2])):=by
 obtain⟨res,hres⟩:∃res,tL c.us c.pg c.st ad ws=res:=⟨_,rfl⟩
 rw[hres]
 unfold tL at hres
 have TK:=hQQ (fun fs W (hW:Ws W g cap ws)=>li R ws H hl F g cap fs W hW)
 by_cases hin:c.us≤ad∧ad<c.us+32 * c.pg
 ·rw[if_pos hin] at hres
  obtain⟨hq,hwd⟩:=mK hin
  have hkd:=F.kd _ hq
  have usb:0≤c.us∧c.us≤1000000:=by
   have hb:=eS R
   have e2:c.us=bH c.cp c.pg c.st c.ca c.bi:=rfl
   omega
  have PL:=hQQ (fun W=>jk c.wk c.cp c.pg c.st c.tr c.wt c.ck c.pr c.ca c.bi c.ba W ad R hin.1 hin.2)
  have PL:=hQQ (show ∀W,Calls Tryz.prog 65 #[.agg c.cells,.int .i64 ad] W (aF W (.tuple #[.int .i64 ((ad-c.us) / 32),.int .i64 ((ad-c.us) % 32),.bool true])) from PL.o)
  generalize (ad-c.us) / 32=q at hres hq hkd PL
  generalize (ad-c.us) % 32=wd at hres hwd PL
  have hadb: -9000000000000000000≤ad∧ad≤9000000000000000000:=by have:=R.pg2;omega
  clear hin
  have Fq9:=hQQ (fun W (hW:Ws W g cap ws)=>EV R ws H.toPgIn hl F.wf g cap q W hW)
  obtain⟨⟨q0,q1,_⟩,_,q4,q5,_⟩:=cG H.toPgIn hq
  obtain⟨b0,hb0⟩:∃b:Nat,kA c.pg c.st q=(b:Int):=⟨(kA c.pg c.st q).toNat,by omega⟩
  have l0:b0<ws.length:=by omega
  have P0:=hQQ ((pH (st:=c.st) hq).trans hb0)
  have ek:ws.getD b0 0=aj c.pg c.st ws q:=by rw[fI hq,hb0];rfl
  have CK:Hq (∀W,Ws W g cap ws→W.cell? ⟨g,b0,none⟩=some (.int .i64 (aj c.pg c.st ws q))):=hQQ fun W hW=>by rw[←ek];exact hW.cell l0
  unfold zV at hres
  obtain⟨f,hf⟩:∃f,lZ c.pg c.st q ws=f:=⟨_,rfl⟩
  rw[hf] at hres Fq9
  have hfp:0≤f→af c.pg f=true:=fun h0=>by
   rcases hx:af c.pg f with _|_
   ·exfalso
    have:=dE (st:=c.st) (ws:=ws) hx
    unfold lZ at hf
    split at hf
    ·omega
    ·rename_i hn;rw[hf] at hn;exact hn (.inr this)
   ·rfl
  generalize aj c.pg c.st ws q=kd at hres hkd CK
  have hwr:IntKind.i64.wrap (kd-1)=kd-1:=am (by omega) (by omega)
  have hb0l:(b0:Int)<ws.length:=by omega
  clear ek hb0 q0 q1 q4 q5 hq hf
  have HFW:=hQQ F.wf
  have hc:=aH w c.cells 27
  have HR:=hQQ R
  have HH:=hQQ H
  have hgl:=hw.lt
  obtain⟨w1,e1⟩:∃w1,w.alloc (.cells c.cells 27)=w1:=⟨_,rfl⟩
  have m1:ae w w1:=by rw[←e1];exact(ae.refl w).alloc _
  rw[e1] at hc
  have HC:=hQQ hc
  have HM:=hQQ m1
  have HW:=hQQ (hw.more m1)
  have x2:w1.cell? ⟨w.heap.size,2,none⟩=some (.int .i64 c.pg):=aB hc (ae.refl _) rfl
  have X2:=hQQ x2
  have pg1:=R.pg1
  have pg2:=R.pg2
  clear x2 m1 hw R H hc
  go_enter Tryz.func64,Tryz.ntmps64
  go_wp2_with (first|(refine aA rfl rfl rfl HC.o (by kernel_rfl) ?_)|(refine aA rfl rfl rfl HC.o (by kernel_rfl) ?_))
  clear e1
  refine(PL.o _).mono ?_
  rintro e w2 ⟨rfl,h2⟩
  have M2:=hQQ h2
  have HC2:=hQQ (h2.block HC.o)
  clear h2
  go_wp2_with (first|(refine aA rfl rfl rfl HC2.o (by kernel_rfl) ?_)|(refine aA rfl rfl rfl HC2.o (by kernel_rfl) ?_))
  refine(Fq9.o _ (HW.o.more M2.o)).mono ?_
  rintro e w3 ⟨rfl,h3⟩
  have M3:=hQQ (M2.o.trans h3)
  have HC3:=hQQ (M3.o.block HC.o)
  clear h3
  by_cases hf0:0≤f
  ·have d0:decide (0≤f)=true:=by simp[hf0]
   have hfpg:=hfp hf0
   obtain⟨⟨r0,r1,_⟩,⟨r2,r3,_⟩,_⟩:=cG HH.o.toPgIn hfpg
   obtain⟨k0,hk0⟩:∃b:Nat,kA c.pg c.st f=(b:Int):=⟨(kA c.pg c.st f).toNat,by omega⟩
   obtain⟨k1,hk1⟩:∃b:Nat,cA c.pg c.st f=(b:Int):=⟨(cA c.pg c.st f).toNat,by omega⟩
   have lk0:k0<ws.length:=by omega
   have lk1:k1<ws.length:=by omega
   have lk0i:(k0:Int)<ws.length:=by omega
   have lk1i:(k1:Int)<ws.length:=by omega
   have Q0:=hQQ ((pH (st:=c.st) hfpg).trans hk0)
   have Q1:=hQQ ((pI (st:=c.st) hfpg).trans hk1)
   have ek:ws.getD k0 0=aj c.pg c.st ws f:=by rw[fI hfpg,hk0];rfl
   have ec:ws.getD k1 0=aL c.pg c.st ws f:=by unfold aL;rw[hk1];rfl
   have FK:Hq (∀W,Ws W g cap ws→W.cell? ⟨g,k0,none⟩=some (.int .i64 (aj c.pg c.st ws f))):=hQQ fun W hW=>by rw[←ek];exact hW.cell lk0
   have FC:Hq (∀W,Ws W g cap ws→W.cell? ⟨g,k1,none⟩=some (.int .i64 (aL c.pg c.st ws f))):=hQQ fun W hW=>by rw[←ec];exact hW.cell lk1
   have hrun:=HFW.o.run f
   have x3:=FK.o _ (HW.o.more M3.o)
   clear ek ec hk0 hk1 r0 r1 r2 r3
   go_wp2_with (first|(refine aA rfl rfl rfl HC3.o (by kernel_rfl) ?_)|(refine aA rfl rfl rfl HC3.o (by kernel_rfl) ?_))
   refine(lc HR.o f _).mono ?_
   rw[Q0.o]
   rintro e w4 ⟨rfl,h4⟩
   have M4:=hQQ (M3.o.trans h4)
   have HC4:=hQQ (M4.o.block HC.o)
   have x4:=FK.o _ (HW.o.more M4.o)
   clear h4 x3
   by_cases h6:aj c.pg c.st ws f=6
   ·rw[if_pos ⟨hf0,h6⟩] at hres
    obtain⟨c0,c1,_,_⟩:=hrun h6
    have hpf:=ag.1 hfpg
    rw[h6] at x4
    have HRES:=hQQ hres.symm
    have x5:=FC.o _ (HW.o.more M4.o)
    have YA:=hQQ (fun W=>pi HR.o hfpg W)
    have YC:=hQQ (fun W=>Q1.o▸jl HR.o f W)
    have q9:IntKind.i64.wrap (32 * aL c.pg c.st ws f)=32 * aL c.pg c.st ws f:=am (by omega) (by omega)
    clear hres hrun c0 c1
    go_wp2_with fail
    refine aw (by kernel_rfl) (by kernel_rfl) ?_
    refine ai rfl 27 _ rfl _ rfl 27 _ _ _ (fun W hW=>hW.block HC4.o) Tryz.underlying27 rfl (by kernel_rfl) ?_
    iterate 3
     with_reducible refine wpQuiet_step (fun K hK=>?_)
     go_simp
     first
     |(refine hK _ ?_;clear hK K)
     |(apply Exists.intro
       refine⟨fun W hW=>?_,hK _ ?_⟩
       first
       |(go_at_call 47;exact Calls.more hW (YA.o W))
       |(go_simp;try rfl)
       clear hK K)
    refine ai rfl 27 _ rfl _ rfl 27 _ _ _ (fun W hW=>hW.block HC4.o) Tryz.underlying27 rfl (by kernel_rfl) ?_
    iterate 8
     with_reducible refine wpQuiet_step (fun K hK=>?_)
     go_simp
     first
     |(refine hK _ ?_;clear hK K)
     |(apply Exists.intro
       refine⟨fun W hW=>?_,hK _ ?_⟩
       first
       |(go_at_call 48;exact Calls.more hW (YC.o W))
       |(have x5':=hW.cell x5;go_simp;try rfl)
       clear hK K)
    refine wpQuiet_nil ?_
    intro w9 h9
    have M9:=hQQ (M4.o.trans h9)
    clear h9 x4 x5
    have FIN:=hQQ (HM.o.trans M9.o)
    go_wp2_with fail
    go_ret3
    exact⟨by rw[HRES.o];rfl,FIN.o⟩
   ·rw[if_neg (fun q=>h6 q.2)] at hres
    have M5:=hQQ M4.o
    have d6:decide (aj c.pg c.st ws f=6)=false:=by simp[h6]
    clear x4
    have x4:=FK.o _ (HW.o.more M4.o)
    -- regions 7 to 14: the page's own class
    have x5:=CK.o _ (HW.o.more M5.o)
    have HC5:=hQQ (M5.o.block HC.o)
    go_wp2_with (first|(refine aA rfl rfl rfl HC5.o (by kernel_rfl) ?_)|(refine aA rfl rfl rfl HC5.o (by kernel_rfl) ?_))
    refine(lc HR.o q _).mono ?_
    rw[P0.o]
    rintro e w6 ⟨rfl,h6⟩
    have M6:=hQQ (M5.o.trans h6)
    have x6:=CK.o _ (HW.o.more M6.o)
    clear h6 x5
    go_wp2_with fail
    refine(jM (kd-1) _).mono ?_
    rintro e w7 ⟨rfl,h7⟩
    have M7:=hQQ (M6.o.trans h7)
    have HC7:=hQQ (M7.o.block HC.o)
    clear h7 x6
    by_cases hz:szV (kd-1)=0
    ·rw[if_pos hz] at hres
     have HRES:=hQQ hres.symm
     clear hres
     rw[hz]
     have FIN:=hQQ (HM.o.trans M7.o)
     go_wp2_with fail
     go_ret3
     exact⟨by rw[HRES.o];rfl,FIN.o⟩
    ·rw[if_neg hz] at hres
     have hk4:=eK (fun e=>hz (kJ.2 e))
     obtain⟨z,hzz⟩:∃z:Nat,kd-1=(z:Int):=⟨(kd-1).toNat,by omega⟩
     have hsb:=uS (k:=z) (by omega)
     rw[←hzz] at hsb
     obtain⟨sz,hsz⟩:∃sz,szV (kd-1)=sz:=⟨_,rfl⟩
     rw[hsz] at hres hsb hz⊢
     have t1:wd.tmod sz=wd % sz:=Int.tmod_eq_emod_of_nonneg hwd.1
     have t0:0≤wd % sz∧wd % sz≤wd:=⟨Int.emod_nonneg _ hz,nh hwd.1 (by omega)⟩
     have t2:IntKind.i64.wrap (ad-wd % sz)=ad-wd % sz:=am (by omega) (by omega)
     have z0:(sz==0)=false:=by simp;omega
     have z1:decide (sz=0)=false:=by simp;omega
     have z2:(sz== -1)=false:=by simp;omega
     have z3:decide (sz= -1)=false:=by simp;omega
     have z5:¬sz= -1:=by omega
     obtain⟨rm,hrm⟩:∃rm,wd % sz=rm:=⟨_,rfl⟩
     rw[hrm] at hres t1 t2
     obtain⟨fs,hfs⟩:∃fs,ad-rm=fs:=⟨_,rfl⟩
     rw[hfs] at hres t2
     clear t0 hsb hk4 hzz hrm
     go_wp2_with (first|(refine aA rfl rfl rfl HC7.o (by kernel_rfl) ?_)|(refine aA rfl rfl rfl HC7.o (by kernel_rfl) ?_))
     refine(TK.o fs _ (HW.o.more M7.o)).mono ?_
     rintro e w8 ⟨rfl,h8⟩
     have M8:=hQQ (M7.o.trans h8)
     clear h8
     obtain⟨lb,hlb⟩:∃lb,(iZ c.us c.pg c.st fs ws).2=lb:=⟨_,rfl⟩
     rw[hlb] at hres⊢
     have HRES:=hQQ hres.symm
     clear hres hlb
     cases lb with
     |true =>
      have FIN:=hQQ (HM.o.trans M8.o)
      go_wp2_with fail
      go_ret3
      exact⟨by rw[HRES.o];rfl,FIN.o⟩
     |false =>
      have FIN:=hQQ (HM.o.trans M8.o)
      go_wp2_with fail
      go_ret3
      exact⟨by rw[HRES.o];rfl,FIN.o⟩
  ·rw[if_neg (fun q=>hf0 q.1)] at hres
   have d0:decide (0≤f)=false:=by simp;omega
   have M5:=hQQ M3.o
   -- regions 7 to 14: the page's own class
   have x5:=CK.o _ (HW.o.more M5.o)
   have HC5:=hQQ (M5.o.block HC.o)
   go_wp2_with (first|(refine aA rfl rfl rfl HC5.o (by kernel_rfl) ?_)|(refine aA rfl rfl rfl HC5.o (by kernel_rfl) ?_))
   refine(lc HR.o q _).mono ?_
   rw[P0.o]
   rintro e w6 ⟨rfl,h6⟩
   have M6:=hQQ (M5.o.trans h6)
   have x6:=CK.o _ (HW.o.more M6.o)
   clear h6 x5
   go_wp2_with fail
   refine(jM (kd-1) _).mono ?_
   rintro e w7 ⟨rfl,h7⟩
   have M7:=hQQ (M6.o.trans h7)
   have HC7:=hQQ (M7.o.block HC.o)
   clear h7 x6
   by_cases hz:szV (kd-1)=0
   ·rw[if_pos hz] at hres
    have HRES:=hQQ hres.symm
    clear hres
    rw[hz]
    have FIN:=hQQ (HM.o.trans M7.o)
    go_wp2_with fail
    go_ret3
    exact⟨by rw[HRES.o];rfl,FIN.o⟩
   ·rw[if_neg hz] at hres
    have hk4:=eK (fun e=>hz (kJ.2 e))
    obtain⟨z,hzz⟩:∃z:Nat,kd-1=(z:Int):=⟨(kd-1).toNat,by omega⟩
    have hsb:=uS (k:=z) (by omega)
    rw[←hzz] at hsb
    obtain⟨sz,hsz⟩:∃sz,szV (kd-1)=sz:=⟨_,rfl⟩
    rw[hsz] at hres hsb hz⊢
    have t1:wd.tmod sz=wd % sz:=Int.tmod_eq_emod_of_nonneg hwd.1
    have t0:0≤wd % sz∧wd % sz≤wd:=⟨Int.emod_nonneg _ hz,nh hwd.1 (by omega)⟩
    have t2:IntKind.i64.wrap (ad-wd % sz)=ad-wd % sz:=am (by omega) (by omega)
    have z0:(sz==0)=false:=by simp;omega
    have z1:decide (sz=0)=false:=by simp;omega
    have z2:(sz== -1)=false:=by simp;omega
    have z3:decide (sz= -1)=false:=by simp;omega
    have z5:¬sz= -1:=by omega
    obtain⟨rm,hrm⟩:∃rm,wd % sz=rm:=⟨_,rfl⟩
    rw[hrm] at hres t1 t2
    obtain⟨fs,hfs⟩:∃fs,ad-rm=fs:=⟨_,rfl⟩
    rw[hfs] at hres t2
    clear t0 hsb hk4 hzz hrm
    go_wp2_with (first|(refine aA rfl rfl rfl HC7.o (by kernel_rfl) ?_)|(refine aA rfl rfl rfl HC7.o (by kernel_rfl) ?_))
    refine(TK.o fs _ (HW.o.more M7.o)).mono ?_
    rintro e w8 ⟨rfl,h8⟩
    have M8:=hQQ (M7.o.trans h8)
    clear h8
    obtain⟨lb,hlb⟩:∃lb,(iZ c.us c.pg c.st fs ws).2=lb:=⟨_,rfl⟩
    rw[hlb] at hres⊢
    have HRES:=hQQ hres.symm
    clear hres hlb
    cases lb with
    |true =>
     have FIN:=hQQ (HM.o.trans M8.o)
     go_wp2_with fail
     go_ret3
     exact⟨by rw[HRES.o];rfl,FIN.o⟩
    |false =>
     have FIN:=hQQ (HM.o.trans M8.o)
     go_wp2_with fail
     go_ret3
     exact⟨by rw[HRES.o];rfl,FIN.o⟩
 ·rw[if_neg hin] at hres
  have PL:=hQQ (fun W=>qj c.wk c.cp c.pg c.st c.tr c.wt c.ck c.pr c.ca c.bi c.ba W ad R (by unfold Cfg.us at hin;show ad<bH c.cp c.pg c.st c.ca c.bi∨bH c.cp c.pg c.st c.ca c.bi+32 * c.pg≤ad;omega))
  have PL:=hQQ (show ∀W,Calls Tryz.prog 65 #[.agg c.cells,.int .i64 ad] W (aF W (.tuple #[.int .i64 0,.int .i64 0,.bool false])) from PL.o)
  clear hin
  have HRES:=hQQ hres.symm
  clear hres
  have hc:=aH w c.cells 27
  have HR:=hQQ R
  have HH:=hQQ H
  have hgl:=hw.lt
  obtain⟨w1,e1⟩:∃w1,w.alloc (.cells c.cells 27)=w1:=⟨_,rfl⟩
  have m1:ae w w1:=by rw[←e1];exact(ae.refl w).alloc _
  rw[e1] at hc
  have HC:=hQQ hc
  have HM:=hQQ m1
  have HW:=hQQ (hw.more m1)
  have x2:w1.cell? ⟨w.heap.size,2,none⟩=some (.int .i64 c.pg):=aB hc (ae.refl _) rfl
  have X2:=hQQ x2
  have pg1:=R.pg1
  have pg2:=R.pg2
  clear x2 m1 hw R H hc
  go_enter Tryz.func64,Tryz.ntmps64
  go_wp2_with (first|(refine aA rfl rfl rfl HC.o (by kernel_rfl) ?_)|(refine aA rfl rfl rfl HC.o (by kernel_rfl) ?_))
  clear e1
  refine(PL.o _).mono ?_
  rintro e w2 ⟨rfl,h2⟩
  have M2:=hQQ h2
  clear h2
  have FIN:=hQQ (HM.o.trans M2.o)
  go_wp2_with fail
  go_ret3
  exact⟨by rw[HRES.o];rfl,FIN.o⟩
def aX (c:Cfg)(ad:Int):Int:=ie c.cp c.pg c.st c.ca c.bi ad
def dV (at':Int)(ws:List Int):Int×Bool:=if at'=0∨wAt ws at'<1∨1048577<wAt ws at' then(0,false) else(wAt ws at' - 1,true)
def mo (at' n:Int)(ws:List Int):Bool×List Int:=if at'=0∨n<0∨1048576<n then(false,ws) else(true,ws.set at'.toNat (n+1))
def jq (at':Int)(ws:List Int):Bool×List Int:=if(dV at' ws).2 then(true,ws.set at'.toNat 0) else(false,ws)
theorem kO {c:Cfg}(R:c.Ok)(ad:Int):0≤aX c ad∧aX c ad<c.words:=by
 have h1:=eS R
 have h2:=jV R
 have h3:=lQ R
 have e:c.words=cW c.cp c.pg c.st c.ca c.bi:=rfl
 have e2:cW c.cp c.pg c.st c.ca c.bi=bH c.cp c.pg c.st c.ca c.bi+32 * c.pg:=rfl
 unfold aX ie
 split<;>omega
theorem Fq {c:Cfg}(R:c.Ok)(ws:List Int)(H:cB c.pg c.st ws.length)(hww:(ws.length:Int)=c.words)(ok:OkW ws)(g cap:Nat)(ad:Int)(w:World)(hw:Ws w g cap ws):
 Calls Tryz.prog 63 #[.agg c.cells,.slice (some ⟨g,0,none⟩) ws.length cap,.int .i64 ad] w (aF w (.tuple #[.int .i64 (dV (aX c ad) ws).1,.bool (dV (aX c ad) ws).2])):=by
 obtain⟨la,hla⟩:∃la,aX c ad=la:=⟨_,rfl⟩
 have lb:=kO R ad
 rw[hww.symm,hla] at lb
 rw[hla]
 have YL:=hQQ (fun W=>show Calls Tryz.prog 62 #[.agg c.cells,.int .i64 ad] W (aF W (.int .i64 la)) from hla▸sW c.wk c.cp c.pg c.st c.tr c.wt c.ck c.pr c.ca c.bi c.ba W ad R)
 obtain⟨b,hb⟩:∃b:Nat,la=(b:Int):=⟨la.toNat,by omega⟩
 subst hb
 have hbl:b<ws.length:=by omega
 have hbli:(b:Int)<ws.length:=by omega
 have ev:wAt ws (b:Int)=ws.getD b 0:=rfl
 clear hla
 obtain⟨res,hres⟩:∃res,dV (b:Int) ws=res:=⟨_,rfl⟩
 rw[hres]
 unfold dV at hres
 rw[ev] at hres
 have hx:=hw.cell hbl
 have hwx: -9223372036854775808≤ws.getD b 0∧ws.getD b 0≤9223372036854775807:=by
  have:=ok (ws.getD b 0) (by rw[show ws.getD b 0=ws[b] by simp[List.getD,hbl]];exact List.getElem_mem hbl)
  unfold W64 at this;omega
 obtain⟨x,hxx⟩:∃x,ws.getD b 0=x:=⟨_,rfl⟩
 have XC:Hq (∀W,Ws W g cap ws→W.cell? ⟨g,b,none⟩=some (.int .i64 x)):=hQQ fun W hW=>by rw[←hxx];exact hW.cell hbl
 rw[hxx] at hres hwx
 clear ev hxx hx
 have hc:=aH w c.cells 27
 have HR:=hQQ R
 have HH:=hQQ H
 have hgl:=hw.lt
 obtain⟨w1,e1⟩:∃w1,w.alloc (.cells c.cells 27)=w1:=⟨_,rfl⟩
 have m1:ae w w1:=by rw[←e1];exact(ae.refl w).alloc _
 rw[e1] at hc
 have HC:=hQQ hc
 have HM:=hQQ m1
 have HW:=hQQ (hw.more m1)
 have x2:w1.cell? ⟨w.heap.size,2,none⟩=some (.int .i64 c.pg):=aB hc (ae.refl _) rfl
 have X2:=hQQ x2
 have pg1:=R.pg1
 have pg2:=R.pg2
 clear x2 m1 hw R H hc
 go_enter Tryz.func63,Tryz.ntmps63
 have M1:=hQQ (ae.refl w1)
 go_wp2_with (first|(refine aA rfl rfl rfl HC.o (by kernel_rfl) ?_)|(refine aA rfl rfl rfl HC.o (by kernel_rfl) ?_))
 refine(YL.o _).mono ?_
 rintro e w2 ⟨rfl,h2⟩
 have M2:=hQQ (M1.o.trans h2)
 clear h2
 clear e1
 by_cases hb0:b=0
 ·subst hb0
  rw[if_pos (.inl rfl)] at hres
  have HRES:=hQQ hres.symm
  clear hres
  have FIN:=hQQ (HM.o.trans M2.o)
  go_wp2_with fail
  go_ret2
  exact⟨by rw[HRES.o];rfl,FIN.o⟩
 ·have d0:decide ((b:Int)=0)=false:=by simp;omega
  have x2':=XC.o _ (HW.o.more M2.o)
  by_cases h1:x<1
  ·have d1:decide (x<1)=true:=by simp[h1]
   rw[if_pos (.inr (.inl h1))] at hres
   have HRES:=hQQ hres.symm
   clear hres
   have FIN:=hQQ (HM.o.trans M2.o)
   go_wp2_with fail
   go_ret2
   exact⟨by rw[HRES.o];rfl,FIN.o⟩
  ·have d1:decide (x<1)=false:=by simp;omega
   by_cases h2:1048577<x
   ·have d2:decide (1048577<x)=true:=by simp[h2]
    rw[if_pos (.inr (.inr h2))] at hres
    have HRES:=hQQ hres.symm
    clear hres
    have FIN:=hQQ (HM.o.trans M2.o)
    go_wp2_with fail
    go_ret2
    exact⟨by rw[HRES.o];rfl,FIN.o⟩
   ·have d2:decide (1048577<x)=false:=by simp;omega
    rw[if_neg (by omega)] at hres
    have q9:IntKind.i64.wrap (x-1)=x-1:=am (by omega) (by omega)
    have HRES:=hQQ hres.symm
    clear hres
    have FIN:=hQQ (HM.o.trans M2.o)
    go_wp2_with fail
    go_ret2
    exact⟨by rw[HRES.o];rfl,FIN.o⟩
theorem vW {c:Cfg}(R:c.Ok)(ws:List Int)(H:cB c.pg c.st ws.length)(hww:(ws.length:Int)=c.words)(g cap:Nat)(ad n:Int)(w:World)(hw:Ws w g cap ws):
 Calls Tryz.prog 27 #[.agg c.cells,.slice (some ⟨g,0,none⟩) ws.length cap,.int .i64 ad,.int .i64 n] w (og w g cap (.bool (mo (aX c ad) n ws).1) (mo (aX c ad) n ws).2):=by
 obtain⟨la,hla⟩:∃la,aX c ad=la:=⟨_,rfl⟩
 have lb:=kO R ad
 rw[hww.symm,hla] at lb
 rw[hla]
 have YL:=hQQ (fun W=>show Calls Tryz.prog 62 #[.agg c.cells,.int .i64 ad] W (aF W (.int .i64 la)) from hla▸sW c.wk c.cp c.pg c.st c.tr c.wt c.ck c.pr c.ca c.bi c.ba W ad R)
 obtain⟨b,hb⟩:∃b:Nat,la=(b:Int):=⟨la.toNat,by omega⟩
 subst hb
 have hbl:b<ws.length:=by omega
 have hbli:(b:Int)<ws.length:=by omega
 have ev:wAt ws (b:Int)=ws.getD b 0:=rfl
 clear hla
 obtain⟨res,hres⟩:∃res,mo (b:Int) n ws=res:=⟨_,rfl⟩
 rw[hres]
 unfold mo at hres
 clear ev
 have hc:=aH w c.cells 27
 have HR:=hQQ R
 have HH:=hQQ H
 have hgl:=hw.lt
 obtain⟨w1,e1⟩:∃w1,w.alloc (.cells c.cells 27)=w1:=⟨_,rfl⟩
 have m1:ae w w1:=by rw[←e1];exact(ae.refl w).alloc _
 rw[e1] at hc
 have HC:=hQQ hc
 have HM:=hQQ m1
 have HW:=hQQ (hw.more m1)
 have x2:w1.cell? ⟨w.heap.size,2,none⟩=some (.int .i64 c.pg):=aB hc (ae.refl _) rfl
 have X2:=hQQ x2
 have pg1:=R.pg1
 have pg2:=R.pg2
 clear x2 m1 hw R H hc
 go_enter Tryz.func27,Tryz.ntmps27
 have M1:=hQQ (ae.refl w1)
 go_wp2_with (first|(refine aA rfl rfl rfl HC.o (by kernel_rfl) ?_)|(refine aA rfl rfl rfl HC.o (by kernel_rfl) ?_))
 refine(YL.o _).mono ?_
 rintro e w2 ⟨rfl,h2⟩
 have M2:=hQQ (M1.o.trans h2)
 clear h2
 clear e1
 by_cases hb0:b=0
 ·subst hb0
  rw[if_pos (.inl rfl)] at hres
  have HRES:=hQQ hres.symm
  clear hres
  go_wp2_with fail
  go_ret
  exact⟨by rw[HRES.o];rfl,by rw[HRES.o];exact HW.o.more M2.o,turned_more (HM.o.trans M2.o)⟩
 ·have d0:decide ((b:Int)=0)=false:=by simp;omega
  by_cases h1:n<0
  ·have d1:decide (n<0)=true:=by simp[h1]
   rw[if_pos (.inr (.inl h1))] at hres
   have HRES:=hQQ hres.symm
   clear hres
   go_wp2_with fail
   go_ret
   exact⟨by rw[HRES.o];rfl,by rw[HRES.o];exact HW.o.more M2.o,turned_more (HM.o.trans M2.o)⟩
  ·have d1:decide (n<0)=false:=by simp;omega
   by_cases h2:1048576<n
   ·have d2:decide (1048576<n)=true:=by simp[h2]
    rw[if_pos (.inr (.inr h2))] at hres
    have HRES:=hQQ hres.symm
    clear hres
    go_wp2_with fail
    go_ret
    exact⟨by rw[HRES.o];rfl,by rw[HRES.o];exact HW.o.more M2.o,turned_more (HM.o.trans M2.o)⟩
   ·have d2:decide (1048576<n)=false:=by simp;omega
    rw[if_neg (by omega)] at hres
    have q9:IntKind.i64.wrap (n+1)=n+1:=am (by omega) (by omega)
    have HRES:=hQQ hres.symm
    have HC2:=hQQ (M2.o.block HC.o)
    clear hres
    go_wp2_with (first|(refine aA rfl rfl rfl HC2.o (by kernel_rfl) ?_)|(refine aA rfl rfl rfl HC2.o (by kernel_rfl) ?_))
    refine(YL.o _).mono ?_
    rintro e w3 ⟨rfl,h3⟩
    have M3:=hQQ (M2.o.trans h3)
    clear h3
    have X3:=hQQ (HW.o.more M3.o)
    have T3:Hq (Turned (fun b=>b=g) w1 w3):=hQQ (turned_more M3.o)
    have c4:=X3.o.cell (i:=b) hbl
    have f4:=X3.o.froz b
    have l4:=X3.o.lt
    obtain⟨w4,e4⟩:∃w4,World.setCell w3 ⟨g,b,none⟩ (.int .i64 (n+1))=w4:=⟨_,rfl⟩
    have X4:Hq (Ws w4 g cap (ws.set b (n+1))):=hQQ (by rw[←e4];exact X3.o.set hbl _)
    have T4:Hq (Turned (fun b=>b=g) w1 w4):=hQQ (by rw[←e4];exact Turned.setCell T3.o _ _ (fun _=>rfl))
    go_wp2_with fail
    go_ret
    exact⟨by rw[HRES.o];rfl,by rw[HRES.o];exact X4.o,Turned.trans (turned_more HM.o) T4.o⟩
theorem Cj {c:Cfg}(R:c.Ok)(ws:List Int)(H:cB c.pg c.st ws.length)(hww:(ws.length:Int)=c.words)(ok:OkW ws)(g cap:Nat)(ad:Int)(w:World)(hw:Ws w g cap ws):
 Calls Tryz.prog 29 #[.agg c.cells,.slice (some ⟨g,0,none⟩) ws.length cap,.int .i64 ad] w (og w g cap (.bool (jq (aX c ad) ws).1) (jq (aX c ad) ws).2):=by
 have SZ:=hQQ (fun W (hW:Ws W g cap ws)=>Fq R ws H hww ok g cap ad W hW)
 have hz0:(dV (aX c ad) ws).2=true→aX c ad≠0:=fun h e=>by rw[e] at h;simp[dV] at h
 obtain⟨la,hla⟩:∃la,aX c ad=la:=⟨_,rfl⟩
 have lb:=kO R ad
 rw[hww.symm,hla] at lb
 rw[hla] at hz0 SZ⊢
 have YL:=hQQ (fun W=>show Calls Tryz.prog 62 #[.agg c.cells,.int .i64 ad] W (aF W (.int .i64 la)) from hla▸sW c.wk c.cp c.pg c.st c.tr c.wt c.ck c.pr c.ca c.bi c.ba W ad R)
 obtain⟨b,hb⟩:∃b:Nat,la=(b:Int):=⟨la.toNat,by omega⟩
 subst hb
 have hbl:b<ws.length:=by omega
 have hbli:(b:Int)<ws.length:=by omega
 clear hla
 obtain⟨res,hres⟩:∃res,jq (b:Int) ws=res:=⟨_,rfl⟩
 rw[hres]
 unfold jq at hres
 have hc:=aH w c.cells 27
 have HR:=hQQ R
 have HH:=hQQ H
 have hgl:=hw.lt
 obtain⟨w1,e1⟩:∃w1,w.alloc (.cells c.cells 27)=w1:=⟨_,rfl⟩
 have m1:ae w w1:=by rw[←e1];exact(ae.refl w).alloc _
 rw[e1] at hc
 have HC:=hQQ hc
 have HM:=hQQ m1
 have HW:=hQQ (hw.more m1)
 have x2:w1.cell? ⟨w.heap.size,2,none⟩=some (.int .i64 c.pg):=aB hc (ae.refl _) rfl
 have X2:=hQQ x2
 have pg1:=R.pg1
 have pg2:=R.pg2
 clear x2 m1 hw R H hc
 go_enter Tryz.func29,Tryz.ntmps29
 go_wp2_with (first|(refine aA rfl rfl rfl HC.o (by kernel_rfl) ?_)|(refine aA rfl rfl rfl HC.o (by kernel_rfl) ?_))
 clear e1
 refine(SZ.o _ HW.o).mono ?_
 rintro e w2 ⟨rfl,h2⟩
 have M2:=hQQ h2
 clear h2
 obtain⟨sb,hsb⟩:∃sb,(dV (b:Int) ws).2=sb:=⟨_,rfl⟩
 rw[hsb] at hres hz0⊢
 cases sb with
 |false =>
  have HRES:=hQQ hres.symm
  clear hres
  go_wp2_with fail
  go_ret
  exact⟨by rw[HRES.o];rfl,by rw[HRES.o];exact HW.o.more M2.o,turned_more (HM.o.trans M2.o)⟩
 |true =>
  have HRES:=hQQ hres.symm
  have HC2:=hQQ (M2.o.block HC.o)
  clear hres
  go_wp2_with (first|(refine aA rfl rfl rfl HC2.o (by kernel_rfl) ?_)|(refine aA rfl rfl rfl HC2.o (by kernel_rfl) ?_))
  refine(YL.o _).mono ?_
  rintro e w3 ⟨rfl,h3⟩
  have M3:=hQQ (M2.o.trans h3)
  clear h3
  have X3:=hQQ (HW.o.more M3.o)
  have T3:Hq (Turned (fun b=>b=g) w1 w3):=hQQ (turned_more M3.o)
  have c4:=X3.o.cell (i:=b) hbl
  have f4:=X3.o.froz b
  have l4:=X3.o.lt
  obtain⟨w4,e4⟩:∃w4,World.setCell w3 ⟨g,b,none⟩ (.int .i64 0)=w4:=⟨_,rfl⟩
  have X4:Hq (Ws w4 g cap (ws.set b 0)):=hQQ (by rw[←e4];exact X3.o.set hbl _)
  have T4:Hq (Turned (fun b=>b=g) w1 w4):=hQQ (by rw[←e4];exact Turned.setCell T3.o _ _ (fun _=>rfl))
  go_wp2_with fail
  go_ret
  exact⟨by rw[HRES.o];rfl,by rw[HRES.o];exact X4.o,Turned.trans (turned_more HM.o) T4.o⟩
structure TS where
 bl:Int
 ak:Int
 wo:Int
 ke:Int
 op:Int
 ma:Int
 us:Int
def TS.arr (s:TS):Array Value:= #[.int .i64 s.bl,.int .i64 s.ak,.int .i64 s.wo,.int .i64 s.ke,.int .i64 s.op,.int .i64 s.ma,.int .i64 s.us]
def eF (a b:TS):TS:=⟨Go.RowKit.wrap64 (a.bl+b.bl),Go.RowKit.wrap64 (a.ak+b.ak),Go.RowKit.wrap64 (a.wo+b.wo),Go.RowKit.wrap64 (a.ke+b.ke),Go.RowKit.wrap64 (a.op+b.op),Go.RowKit.wrap64 (a.ma+b.ma),Go.RowKit.wrap64 (a.us+b.us)⟩
def noT:TS:=⟨0,0,0,0,0,0,0⟩
def vX (y:Int×Bool)(n:Int):TS:=if y.2 then⟨1,y.1,n,0,0,0,0⟩ else⟨0,0,0,n,0,0,0⟩
def Fr (x:Int):Int×Bool:=if x<1∨1048577<x then(0,false) else(x-1,true)
def gu (c:Cfg)(q:Int):Int:=j7 c.cp c.pg c.st c.ca c.bi q
def qt (la:Int):Prg (Int×Bool):=if la=0 then aK (0,false) else aJ (dJ la) (fun x=>aK (Fr x))
def qu (c:Cfg)(a n:Int):Prg TS:=aJ (qt (aX c a)) (fun y=>aK (vX y n))
def tM (c:Cfg)(a z:Int):List Int→TS→Prg TS
 | [],s=>aK s
 |i::l,s=>aJ (qu c (Go.RowKit.wrap64 (a+Go.RowKit.wrap64 (z * i))) z) (fun t=>tM c a z l (eF s t))
def vY (k x:Int):TS:=⟨0,0,0,0,Go.RowKit.wrap64 (szV k * (ao k-(iW x (ao k)).length)),0,0⟩
def yz (c:Cfg)(q k:Int):Prg TS:=aJ (dJ (bA c.pg c.st q)) (fun x=>tM c (gu c q) (szV k) (iW x (ao k)) (vY k x))
def qw (c:Cfg)(q k:Int):Prg TS :=
 if k=6 then aJ (dJ (cA c.pg c.st q)) (fun x=>qu c (gu c q) (Go.RowKit.wrap64 (32 * x)))
 else if 1≤k∧k≤5 then yz c q (k-1) else aK noT
def ov (s:TS)(b:Bool)(k:Int):TS:= { s with ma:=b2i b,us:=b2i (k != 0) }
def qW (c:Cfg)(q:Int):Prg TS:=if af c.pg q then aJ (fK c.pg c.st q) (fun k=>aJ (qw c q k) (fun s=>aJ (gJ c.pg c.st q 1) (fun b=>aK (ov s b k)))) else aK noT
def tN (c:Cfg):Nat→Int→TS→Prg TS
 | 0,_,s=>aK s
 |m+1,q,s=>aJ (qW c q) (fun t=>tN c m (q+1) (eF s t))
def qx (c:Cfg):Prg TS:=tN c c.pg.toNat 0 noT
theorem rT (la:Int):eG (qt la):=fR (ci _) (cL (iu _) (fun _=>ci _))
theorem rU (c:Cfg)(a n:Int):eG (qu c a n):=cL (rT _) (fun _=>ci _)
theorem qA (c:Cfg)(a z:Int):∀(l:List Int) (s:TS),eG (tM c a z l s)
 | [],_=>ci _
 |i::l,s=>cL (rU _ _ _) (fun _=>qA c a z l _)
theorem Ck (c:Cfg)(q k:Int):eG (yz c q k):=cL (iu _) (fun _=>qA _ _ _ _ _)
theorem Cl (c:Cfg)(q k:Int):eG (qw c q k):=fR (cL (iu _) (fun _=>rU _ _ _)) (fR (Ck _ _ _) (ci _))
theorem Cm (c:Cfg)(q:Int):eG (qW c q):=fR (cL (xM _ _ _) (fun _=>cL (Cl _ _ _) (fun _=>cL (sR _ _ _ _) (fun _=>ci _)))) (ci _)
theorem qB (c:Cfg):∀(m:Nat) (q:Int) (s:TS),eG (tN c m q s)
 | 0,_,_=>ci _
 |m+1,q,s=>cL (Cm _ _) (fun _=>qB c m _ _)
theorem rV (c:Cfg):eG (qx c):=qB _ _ _ _
def gk (c:Cfg)(a n:Int)(ws:List Int):TS:=vX (dV (aX c a) ws) n
def vZ (c:Cfg)(a z:Int)(ws:List Int):List Int→TS→TS
 | [],s=>s
 |i::l,s=>vZ c a z ws l (eF s (gk c (Go.RowKit.wrap64 (a+Go.RowKit.wrap64 (z * i))) z ws))
def zW (c:Cfg)(q k:Int)(ws:List Int):TS :=
 if k=6 then gk c (gu c q) (Go.RowKit.wrap64 (32 * wAt ws (cA c.pg c.st q))) ws
 else if 1≤k∧k≤5 then vZ c (gu c q) (szV (k-1)) ws (iW (wAt ws (bA c.pg c.st q)) (ao (k-1))) (vY (k-1) (wAt ws (bA c.pg c.st q))) else noT
def Cn (c:Cfg)(q:Int)(ws:List Int):TS:=if af c.pg q then ov (zW c q (aj c.pg c.st ws q) ws) (mG c.pg c.st q 1 ws) (aj c.pg c.st ws q) else noT
def tlN (c:Cfg)(ws:List Int):Nat→Int→TS→TS
 | 0,_,s=>s
 |m+1,q,s=>tlN c ws m (q+1) (eF s (Cn c q ws))
def tlV (c:Cfg)(ws:List Int):TS:=tlN c ws c.pg.toNat 0 noT
section
variable {c:Cfg}(R:c.Ok){n:Nat}(H:PgIn c.pg c.st n)(hw:(n:Int)=c.words)
include R H hw
theorem ni (a:Int):fX n (fun _=>True) (qt (aX c a)):=kw (fun _=>cH n trivial) (fun _=>cU (fi n (by have:=kO R a;omega)) (fun _ _=>cH n trivial))
theorem nm (a m:Int):fX n (fun _=>True) (qu c a m):=cU (ni R H hw a) (fun _ _=>cH n trivial)
theorem rZ (a z:Int):∀(l:List Int) (s:TS),fX n (fun _=>True) (tM c a z l s)
 | [],_=>cH n trivial
 |i::l,s=>cU (nm R H hw _ _) (fun _ _=>rZ a z l _)
theorem wl {q:Int}(hq:af c.pg q=true)(k:Int):fX n (fun _=>True) (yz c q k):=cU (fi n (cG H hq).2.2.2.1) (fun _ _=>rZ R H hw _ _ _ _)
theorem wm {q:Int}(hq:af c.pg q=true)(k:Int):fX n (fun _=>True) (qw c q k):=kw (fun _=>cU (fi n (cG H hq).2.1.2.1) (fun _ _=>nm R H hw _ _)) (fun _=>kw (fun _=>wl R H hw hq _) (fun _=>cH n trivial))
theorem wn (q:Int):fX n (fun _=>True) (qW c q):=kw (fun hq=>cU (rq H q) (fun _ _=>cU (wm R H hw hq _) (fun _ _=>cU (oH H.toTblIn q 1) (fun _ _=>cH n trivial)))) (fun _=>cH n trivial)
theorem se:∀(m:Nat) (q:Int) (s:TS),fX n (fun _=>True) (tN c m q s)
 | 0,_,_=>cH n trivial
 |m+1,q,s=>cU (wn R H hw q) (fun _ _=>se m _ _)
theorem nn:fX n (fun _=>True) (qx c):=se R H hw _ _ _
theorem wu (a:Int):bO n (qt (aX c a)) (fun ws=>(dV (aX c a) ws,ws)):=by
 have hb:=kO R a
 by_cases h:aX c a=0
 ·unfold qt;rw[if_pos h]
  exact bg (az n _) (fun ws _=>by unfold dV;rw[if_pos (.inl h)])
 ·unfold qt;rw[if_neg h]
  refine bg (aE (cV hb.1 (by omega)) (fun x=>az n (Fr x))) (fun ws _=>?_)
  unfold dV Fr
  by_cases h2:wAt ws (aX c a)<1∨1048577<wAt ws (aX c a)
  ·rw[if_pos h2,if_pos (.inr h2)]
  ·rw[if_neg h2,if_neg (by omega)]
theorem wA (a m:Int):bO n (qu c a m) (fun ws=>(gk c a m ws,ws)):=aE (wu R H hw a) (fun y=>az n (vX y m))
theorem sf (a z:Int):∀(l:List Int) (s:TS),bO n (tM c a z l s) (fun ws=>(vZ c a z ws l s,ws))
 | [],s=>az n s
 |i::l,s=>aE (wA R H hw _ _) (fun t=>sf a z l (eF s t))
theorem Fs {q:Int}(hq:af c.pg q=true)(k:Int):bO n (qw c q k) (fun ws=>(zW c q k ws,ws)):=by
 have hb:=cG H hq
 unfold qw zW
 by_cases h:k=6
 ·simp only[if_pos h]
  exact aE (cV (by have:=hb.2.1.1;omega) hb.2.1.2.1) (fun x=>wA R H hw (gu c q) (Go.RowKit.wrap64 (32 * x)))
 ·simp only[if_neg h]
  by_cases h2:1≤k∧k≤5
  ·simp only[if_pos h2]
   exact aE (cV (by have:=hb.2.2.1;omega) hb.2.2.2.1) (fun x=>sf R H hw (gu c q) (szV (k-1)) (iW x (ao (k-1))) (vY (k-1) x))
  ·simp only[if_neg h2]
   exact az n _
theorem Ft (q:Int):bO n (qW c q) (fun ws=>(Cn c q ws,ws)):=by
 unfold qW Cn
 cases hq:af c.pg q with
 |false=>exact az n _
 |true=>exact aE (jh H q) (fun k=>aE (Fs R H hw hq k) (fun s=>aE (uL H.toTblIn q 1) (fun b=>az n (ov s b k))))
theorem sh:∀(m:Nat) (q:Int) (s:TS),bO n (tN c m q s) (fun ws=>(tlN c ws m q s,ws))
 | 0,_,s=>az n s
 |m+1,q,s=>aE (Ft R H hw q) (fun t=>sh m (q+1) (eF s t))
theorem wB:bO n (qx c) (fun ws=>(tlV c ws,ws)):=sh R H hw _ _ _
end
theorem fD (s:TS):s.arr.all (·.oneCell')=true:=by simp[TS.arr,Value.oneCell']
theorem np {w:World}{g:Nat}(s:TS){t:TypeId}(h:w.heap[g]?=some (.cells s.arr t (0,0))):
 w.cell? ⟨g,0,none⟩=some (.int .i64 s.bl)∧w.cell? ⟨g,1,none⟩=some (.int .i64 s.ak)∧w.cell? ⟨g,2,none⟩=some (.int .i64 s.wo)∧w.cell? ⟨g,3,none⟩=some (.int .i64 s.ke)∧w.cell? ⟨g,4,none⟩=some (.int .i64 s.op)∧w.cell? ⟨g,5,none⟩=some (.int .i64 s.ma)∧w.cell? ⟨g,6,none⟩=some (.int .i64 s.us):=by
 simp[World.cell?,h,TS.arr]
theorem ID (a b:TS)(w:World):Calls Tryz.prog 20 #[.agg a.arr,.agg b.arr] w (aF w (.agg (eF a b).arr)):=by
 obtain⟨w3,e3,h0,h1,h2,m3,s3⟩:=lT w (.cells a.arr 38) (.cells b.arr 38) (.cells #[.int .i64 0,.int .i64 0,.int .i64 0,.int .i64 0,.int .i64 0,.int .i64 0,.int .i64 0] 38)
 obtain⟨a0,a1,a2,a3,a4,a5,a6⟩:=np a h0
 obtain⟨b0,b1,b2,b3,b4,b5,b6⟩:=np b h1
 have H2:=hQQ h2
 have MM:=hQQ m3
 clear h0 h1 h2 m3 s3
 go_enter Tryz.func20,Tryz.ntmps20
 go_wp2_with (refine wpList_store_row rfl 38 _ _ rfl (w.heap.size+2) (eF a b).arr rfl rfl 38 _ H2.o (by kernel_rfl) rfl (fD _) ?_)
 refine bodyPost_ret (v:=.agg (eF a b).arr) (results_cell_row Tryz.results20 _ _ _ 38 _ (0,0) _ rfl (setRow_heap _ _ _ _ _ _ H2.o) Tryz.underlying38 rfl (by kernel_rfl)) rfl ⟨rfl,MM.o.setRow _ _ (by omega)⟩
theorem IE (b:Bool)(w:World):Calls Tryz.prog 40 #[.bool b] w (aF w (.int .i64 (b2i b))):=by
 cases b with
 |true =>
  go_enter Tryz.func40,Tryz.ntmps40
  go_wp2_with fail
  go_ret
  exact⟨rfl,ae.refl _⟩
 |false =>
  go_enter Tryz.func40,Tryz.ntmps40
  go_wp2_with fail
  go_ret
  exact⟨rfl,ae.refl _⟩
def Co (z:Int):Bool:=decide (0≤z) && decide (z≤1048576)
theorem IG (z:Int)(w:World):Calls Tryz.prog 92 #[.int .i64 z] w (aF w (.bool (Co z))):=by
 have hm:Co z=(decide (0≤z) && decide (z≤1048576)):=rfl
 rw[hm]
 clear hm
 by_cases h:0≤z
 ·have d1:decide (0≤z)=true:=by simp[h]
  rw[d1,Bool.true_and]
  go_enter Tryz.func92,Tryz.ntmps92
  go_wp2_with fail
  go_ret
  exact⟨rfl,ae.refl _⟩
 ·have d1:decide (0≤z)=false:=by simp[h]
  rw[d1,Bool.false_and]
  go_enter Tryz.func92,Tryz.ntmps92
  go_wp2_with fail
  go_ret
  exact⟨rfl,ae.refl _⟩
theorem Jo {x:Int}(h:W64 x)(q:x<1∨1048577<x):Co (wrap64 (x-1))=false∧Fr x=(0,false):=by
 refine⟨?_,if_pos q⟩
 unfold W64 at h
 simp only[Co,wrap64,Bool.and_eq_false_iff,decide_eq_false_iff_not]
 omega
theorem Hv {x:Int}(q:¬(x<1∨1048577<x)):wrap64 (x-1)=x-1∧Co (x-1)=true∧Fr x=(x-1,true):=by
 refine⟨?_,?_,if_neg q⟩
 ·unfold wrap64;omega
 ·simp only[Co,Bool.and_eq_true,decide_eq_true_eq];omega
def vIB:Int×Bool→Value:=fun y=> .tuple #[.int .i64 y.1,.bool y.2]
theorem Fu {c:Cfg}(R:c.Ok){n:Nat}(H:PgIn c.pg c.st n)(hw:(n:Int)=c.words)(hn:n≤10000)(F:Nat→Prop)(p:Nat)(kn:Int→Option Int)(D:List KV)(a:Int)(w:World)(hv:bI w F p kn D)(hk:OkK kn)(hD:fy n D):
 Calls Tryz.prog 55 #[.pointer (some ⟨p,0,none⟩),.agg c.arr,.int .i64 a] w (bw w F p kn vIB (qt (aX c a) kn D)):=by
 obtain⟨Rr,hRr⟩:∃Rr,qt (aX c a) kn D=Rr:=⟨_,rfl⟩
 rw[hRr]
 have lb:=kO R a
 have YL:=hQQ (fun W=>show Calls Tryz.prog 91 #[.agg c.arr,.int .i64 a] W (aF W (.int .i64 (aX c a))) from JU R W a)
 generalize aX c a=la at hRr YL lb
 have GR:=hQQ (fi n (a:=la) (by omega))
 obtain⟨w1,e1,hl1,m1,s1⟩:=df w (.cells c.arr 33)
 have nFl:¬F w.heap.size:=fun q=>by have:=hv.lt _ q;omega
 have MM:=hQQ m1
 have L0:=hQQ hl1
 have M0:=m0Z (hv.more m1) hD
 have KL:=klZ (p:=p) (kn:=kn) (n:=n) L0.o nFl
 have NEED:=ndZ (F:=F) (p:=p) (kn:=kn) (R:=Rr) vIB MM.o
 have DONE:=dnZ (F:=F) (p:=p) (n:=n) (kn:=kn) (R:=Rr) vIB MM.o
 have HK:=hQQ hk
 have HR:=hQQ R
 have HH:=hQQ H
 clear hl1 m1 hv hD hk R H nFl
 unfold qt at hRr
 by_cases hz:la=0
 ·rw[if_pos hz] at hRr
  have d1:(la==0)=true:=by simp[hz]
  have FIN:Hq (∀w2,ae w1 w2→bw w F p kn vIB Rr (.returned (.tuple #[.int .i64 0,.bool false])) w2):=hQQ fun w2 m=>DONE.o (0,false) w2 D F hRr.symm (M0.o.more m)
  clear hRr hz lb
  go_enter Tryz.func55,Tryz.ntmps55
  go_wp2_with (first|(refine cQ rfl rfl rfl L0.o (by kernel_rfl) ?_)|(refine cQ rfl rfl rfl L0.o (by kernel_rfl) ?_))
  refine(YL.o _).mono ?_
  rintro e w2 ⟨rfl,h2⟩
  have H2:=hQQ h2
  clear h2
  go_wp2_with fail
  go_ret2
  exact FIN.o _ H2.o
 ·rw[if_neg hz] at hRr
  have d1:(la==0)=false:=by simp[hz]
  have HRr:=hQQ hRr
  have hla:W64 la:=by unfold W64;omega
  have HLA:=hQQ hla
  clear hRr hz lb hla
  go_enter Tryz.func55,Tryz.ntmps55
  go_wp2_with (first|(refine cQ rfl rfl rfl L0.o (by kernel_rfl) ?_)|(refine cQ rfl rfl rfl L0.o (by kernel_rfl) ?_))
  refine(YL.o _).mono ?_
  rintro e w2 ⟨rfl,h2⟩
  have M2:=hQQ (M0.o.more h2)
  clear h2
  go_wp2_with fail
  refine(mD F p kn D la w2 M2.o.view HLA.o).mono ?_
  intro e w3 he
  rcases M2.o.step (ae.refl _) HK.o GR.o he with⟨a',hE,rfl,hd',ht',_⟩|⟨x3,D3,F3,hE,rfl,M3,hq3,_,_⟩
  ·exact⟨rfl,NEED.o a' w3 (HRr.o.symm.trans (bK hE)) hd' ht'⟩
  have L3:=hQQ (KL.o _ _ _ M3)
  have R3:=hQQ ((bE hE).symm.trans HRr.o)
  have M3:=hQQ M3
  clear he hE
  have W3:=hQQ hq3
  by_cases hx:x3<1∨1048577<x3
  ·obtain⟨q1,q2⟩:=Jo hq3 hx
   have TM:=hQQ (fun W=>show Calls Tryz.prog 92 #[.int .i64 (wrap64 (x3-1))] W (aF W (.bool false)) from q1▸IG _ W)
   have FIN:Hq (∀w2,ae w3 w2→bw w F p kn vIB Rr (.returned (.tuple #[.int .i64 0,.bool false])) w2):=hQQ fun w2 m=>DONE.o (0,false) w2 D3 F3 (R3.o.symm.trans (by rw[q2];rfl)) (M3.o.more m)
   clear hx hq3 q1 q2
   go_wp2_with fail
   refine(TM.o _).mono ?_
   rintro e w4 ⟨rfl,h4⟩
   have H4:=hQQ h4
   clear h4
   go_wp2_with fail
   go_ret2
   exact FIN.o _ H4.o
  ·obtain⟨q0,q1,q2⟩:=Hv hx
   have q0:IntKind.i64.wrap (x3-1)=x3-1:=am (by omega) (by omega)
   have TM:=hQQ (fun W=>show Calls Tryz.prog 92 #[.int .i64 (x3-1)] W (aF W (.bool true)) from q1▸IG _ W)
   have FIN:Hq (∀w2,ae w3 w2→bw w F p kn vIB Rr (.returned (.tuple #[.int .i64 (x3-1),.bool true])) w2):=hQQ fun w2 m=>DONE.o (x3-1,true) w2 D3 F3 (R3.o.symm.trans (by rw[q2];rfl)) (M3.o.more m)
   clear hx hq3 q1 q2
   go_wp2_with fail
   refine(TM.o _).mono ?_
   rintro e w4 ⟨rfl,h4⟩
   have H4:=hQQ h4
   clear h4
   go_wp2_with fail
   go_ret2
   exact FIN.o _ H4.o
def vTS:TS→Value:=fun s=> .agg s.arr
theorem zX {c:Cfg}(R:c.Ok){n:Nat}(H:PgIn c.pg c.st n)(hw:(n:Int)=c.words)(hn:n≤10000)(F:Nat→Prop)(p:Nat)(kn:Int→Option Int)(D:List KV)(a m:Int)(w:World)(hv:bI w F p kn D)(hk:OkK kn)(hD:fy n D):
 Calls Tryz.prog 77 #[.pointer (some ⟨p,0,none⟩),.agg c.arr,.int .i64 a,.int .i64 m] w (bw w F p kn vTS (qu c a m kn D)):=by
 obtain⟨Rr,hRr⟩:∃Rr,qu c a m kn D=Rr:=⟨_,rfl⟩
 rw[hRr]
 have GS:=hQQ (ni R H hw a)
 obtain⟨w1,e1,hl1,hr1,m1,s1⟩:=nH w (.cells c.arr 33) (.cells #[.int .i64 0,.int .i64 0,.int .i64 0,.int .i64 0,.int .i64 0,.int .i64 0,.int .i64 0] 38)
 have nFl:¬F w.heap.size:=fun q=>by have:=hv.lt _ q;omega
 have nFr:¬F (w.heap.size+1):=fun q=>by have:=hv.lt _ q;omega
 have MM:=hQQ m1
 have L0:=hQQ hl1
 have C0:=hQQ hr1
 have M0:=m0Z (hv.more m1) hD
 have KL:=klZ (p:=p) (kn:=kn) (n:=n) L0.o nFl
 have KC:Hq (∀wr D' F',MidV w1 wr F (fun _=>False) p kn n D' F'→wr.heap[w.heap.size+1]?=some (.cells #[.int .i64 0,.int .i64 0,.int .i64 0,.int .i64 0,.int .i64 0,.int .i64 0,.int .i64 0] 38 (0,0))):=hQQ fun wr D' F' h=>kV h C0.o nFr (fun q=>q)
 have NEED:=ndZ (F:=F) (p:=p) (kn:=kn) (R:=Rr) vTS MM.o
 have DONE:Hq (∀(x:TS) w2 D' F',Rr=.ok x D'→MidV w1 w2 F (fun _=>False) p kn n D' F'→bw w F p kn vTS Rr (.returned (.agg x.arr)) (w2.setRow (w.heap.size+1) x.arr)):=hQQ fun x w2 D' F' e h=>kF (g:=w.heap.size+1) MM.o h e (by omega) (by have:=ac C0.o;omega) nFr (KC.o _ _ _ h) (Turned.setRow (Turned.refl _ w2) _ _ (fun _=>rfl))
 have HK:=hQQ hk
 have HR:=hQQ R
 have HH:=hQQ H
 clear hl1 hr1 m1 hv hD hk R H nFl nFr
 have SZ:=hQQ (Fu HR.o HH.o hw hn F p kn D a w1 M0.o.view HK.o M0.o.inv)
 unfold qu at hRr
 have HRr:=hQQ hRr
 clear hRr hw
 go_enter Tryz.func77,Tryz.ntmps77
 go_wp2_with (first|(refine cQ rfl rfl rfl L0.o (by kernel_rfl) ?_)|(refine cQ rfl rfl rfl L0.o (by kernel_rfl) ?_))
 clear e1
 refine(SZ.o).mono ?_
 intro e w3 he
 rcases M0.o.step (ae.refl _) HK.o GS.o he with⟨a',hE,rfl,hd',ht',_⟩|⟨x3,D3,F3,hE,rfl,M3,hq3,_,_⟩
 ·exact⟨rfl,NEED.o a' w3 (HRr.o.symm.trans (bK hE)) hd' ht'⟩
 have L3:=hQQ (KL.o _ _ _ M3)
 have R3:=hQQ ((bE hE).symm.trans HRr.o)
 have M3:=hQQ M3
 clear he hE
 have C3:=hQQ (KC.o _ _ _ M3.o)
 have FIN:=hQQ (DONE.o (vX x3 m) w3 D3 F3 R3.o.symm M3.o)
 obtain⟨z,b⟩:=x3
 simp only[vIB]
 cases b with
 |true =>
  go_wp2_with (refine wpList_store_row rfl 38 _ _ rfl (w.heap.size+1) (TS.arr (⟨1,z,m,0,0,0,0⟩:TS)) rfl rfl 38 _ C3.o (by kernel_rfl) rfl (fD _) ?_)
  refine bodyPost_ret (v:=.agg (TS.arr (⟨1,z,m,0,0,0,0⟩:TS))) (results_cell_row Tryz.results77 _ _ _ 38 _ (0,0) _ rfl (setRow_heap _ _ _ _ _ _ C3.o) Tryz.underlying38 rfl (by kernel_rfl)) rfl FIN.o
 |false =>
  go_wp2_with (refine wpList_store_row rfl 38 _ _ rfl (w.heap.size+1) (TS.arr (⟨0,0,0,m,0,0,0⟩:TS)) rfl rfl 38 _ C3.o (by kernel_rfl) rfl (fD _) ?_)
  refine bodyPost_ret (v:=.agg (TS.arr (⟨0,0,0,m,0,0,0⟩:TS))) (results_cell_row Tryz.results77 _ _ _ 38 _ (0,0) _ rfl (setRow_heap _ _ _ _ _ _ C3.o) Tryz.underlying38 rfl (by kernel_rfl)) rfl FIN.o
def Hw (c:Cfg)(a z x:Int)(ws:List Int):Nat→Int→TS→TS
 | 0,_,s=>s
 |m+1,i,s=>Hw c a z x ws m (i+1) (if cK x i then eF s (gk c (wrap64 (a+wrap64 (i * z))) z ws) else { s with op:=wrap64 (s.op+z) })
def Hx (c:Cfg)(q:Int)(ws:List Int)(k:Int)(s:TS):TS :=
 if k=6 then eF s (gk c (c.us+32 * q) (wrap64 (32 * wAt ws (cA c.pg c.st q))) ws)
 else Hw c (c.us+32 * q) (szV (k-1)) (wAt ws (bA c.pg c.st q)) ws (ao (k-1)).toNat 0 s
def rPg (c:Cfg)(q:Int)(ws:List Int):TS:=if aj c.pg c.st ws q<0 then noT else Hx c q ws (aj c.pg c.st ws q) ⟨0,0,0,0,0,b2i (aG c.pg c.st ws (ofV q)),b2i (aj c.pg c.st ws q != 0)⟩
section
variable {w2 W W':World}{gs:Nat}{s t:TS}
end
def gE (n:Int):Int:=if n≤1 then 0 else if n≤2 then 1 else if n≤4 then 2 else if n≤8 then 3 else if n≤16 then 4 else -1
def ow (n:Int):Int:=if n<1 then 0 else(n-1) / 32+1
def ox (a:Int):Bool:=a==1 ||a==2 ||a==4 ||a==8 ||a==16 ||a==32 ||a==64 ||a==128
theorem Cp {k:Nat}{n:Int}(h:k≤4)(h1:n≤szV k)(h0:∀j:Nat,j<k→szV j<n):gE n=k:=by
 rcases nT h with rfl|rfl|rfl|rfl|rfl
 ·have:n≤1:=h1
  unfold gE;rw[if_pos (by omega)];rfl
 ·have a:n≤2:=h1
  have b:(1:Int)<n:=h0 0 (by omega)
  unfold gE;rw[if_neg (by omega),if_pos (by omega)];rfl
 ·have a:n≤4:=h1
  have b:(2:Int)<n:=h0 1 (by omega)
  unfold gE;rw[if_neg (by omega),if_neg (by omega),if_pos (by omega)];rfl
 ·have a:n≤8:=h1
  have b:(4:Int)<n:=h0 2 (by omega)
  unfold gE;rw[if_neg (by omega),if_neg (by omega),if_neg (by omega),if_pos (by omega)];rfl
 ·have a:n≤16:=h1
  have b:(8:Int)<n:=h0 3 (by omega)
  unfold gE;rw[if_neg (by omega),if_neg (by omega),if_neg (by omega),if_neg (by omega),if_pos (by omega)];rfl
theorem Fv {n:Int}(h:∀j:Nat,j<5→szV j<n):gE n= -1:=by
 have b:(16:Int)<n:=h 4 (by omega)
 unfold gE;rw[if_neg (by omega),if_neg (by omega),if_neg (by omega),if_neg (by omega),if_neg (by omega)]
theorem Kj (n:Int): -1≤gE n∧gE n≤4:=by
 unfold gE; (repeat' split)<;>omega
theorem Hy {k:Nat}(h:k<8):szT k * 2=szT (k+1)∧1≤szT k∧szT k≤128:=by
 rcases xV h with rfl|rfl|rfl|rfl|rfl|rfl|rfl|rfl<;>decide
theorem Fw {k:Nat}{a:Int}(h:k<8)(e:szT k=a):ox a=true:=by
 subst e
 rcases xV h with rfl|rfl|rfl|rfl|rfl|rfl|rfl|rfl<;>decide
theorem Hz {a:Int}(h:∀k:Nat,k<8→szT k≠a):ox a=false:=by
 have h0:=h 0 (by omega);have h1:=h 1 (by omega);have h2:=h 2 (by omega);have h3:=h 3 (by omega)
 have h4:=h 4 (by omega);have h5:=h 5 (by omega);have h6:=h 6 (by omega);have h7:=h 7 (by omega)
 simp only[szT] at h0 h1 h2 h3 h4 h5 h6 h7
 simp[ox];omega
def mx (x y:Int):Int:=if x<y then y else x
def ja (n a:Int):Bool:=decide (n<0) || !ox a
def fP (n a:Int):Bool:=decide (n≤16) && decide (a≤16)
def fY (n a:Int):Int:=if ja n a then 0 else if fP n a then mx (gE n) (gE a) else -1
def iO (n a:Int):Int:=if ja n a then 0 else if fP n a then 0 else ow (mx n 1)
def mq (n a:Int):Int:=if ja n a then 0 else if fP n a then 0 else mx 1 (a / 32)
def nq (n a:Int):Int:=if ja n a then 2 else 0
def qX (n a:Int):Value:= .tuple #[.int .i64 (fY n a),.int .i64 (iO n a),.int .i64 (mq n a),.int .i64 (nq n a)]
def tO (n a:Int):Int:=if ja n a then 0 else if fP n a then szV (fY n a) else IntKind.i64.wrap (iO n a * 32)
theorem yA {a:Int}(h:ox a=true):1≤a∧a≤128:=by
 simp[ox] at h;omega
theorem Cq {n a:Int}(hb:ja n a=false)(h:fP n a=true):0≤fY n a∧iO n a=0:=by
 refine⟨?_,by simp[iO,hb,h]⟩
 simp only[fY,hb,h]
 have:=(show n≤16 by simp[fP] at h;omega)
 have e:gE n≠ -1:=by unfold gE; (repeat' split)<;>omega
 have e2:=(Kj n).1
 show 0≤mx (gE n) (gE a)
 unfold mx;split<;>omega
theorem H0 {n a:Int}(hb:ja n a=false)(h:fP n a=false):fY n a= -1:=by simp[fY,hb,h]
theorem Kk:∀i:Nat,i<5→∀j:Nat,j<5→szV (mx (i:Int) (j:Int)) % szV (j:Int)=0∧szV (i:Int)≤szV (mx (i:Int) (j:Int)):=by decide
theorem Jp {n:Int}(h:n≤16):∃i:Nat,i<5∧gE n=(i:Int)∧n≤szV (i:Int):=by
 unfold gE
 by_cases h1:n≤1
 ·exact⟨0,by omega,by rw[if_pos h1];rfl,h1⟩
 by_cases h2:n≤2
 ·exact⟨1,by omega,by rw[if_neg h1,if_pos h2];rfl,h2⟩
 by_cases h3:n≤4
 ·exact⟨2,by omega,by rw[if_neg h1,if_neg h2,if_pos h3];rfl,h3⟩
 by_cases h4:n≤8
 ·exact⟨3,by omega,by rw[if_neg h1,if_neg h2,if_neg h3,if_pos h4];rfl,h4⟩
 ·exact⟨4,by omega,by rw[if_neg h1,if_neg h2,if_neg h3,if_neg h4,if_pos h];rfl,h⟩
theorem H3 {a:Int}(hp:ox a=true)(h:a≤16):∃j:Nat,j<5∧gE a=(j:Int)∧szV (j:Int)=a:=by
 simp[ox] at hp
 have:a=1∨a=2∨a=4∨a=8∨a=16:=by omega
 rcases this with rfl|rfl|rfl|rfl|rfl
 ·exact⟨0,by omega,rfl,rfl⟩
 ·exact⟨1,by omega,rfl,rfl⟩
 ·exact⟨2,by omega,rfl,rfl⟩
 ·exact⟨3,by omega,rfl,rfl⟩
 ·exact⟨4,by omega,rfl,rfl⟩
theorem si {n a:Int}(hb:ja n a=false)(h:fP n a=true):0≤fY n a∧fY n a≤4∧iO n a=0∧tO n a=szV (fY n a)∧n≤szV (fY n a)∧szV (fY n a) % a=0∧1≤a∧nq n a=0:=by
 obtain⟨h0,h1⟩:=Cq hb h
 have hp:ox a=true:=by simp[ja] at hb;exact hb.2
 have hs:n≤16∧a≤16:=by simpa [fP] using h
 have e:fY n a=mx (gE n) (gE a):=by simp[fY,hb,h]
 obtain⟨i,hi,e1,h2⟩:=Jp hs.1
 obtain⟨j,hj,e2,h3⟩:=H3 hp hs.2
 obtain⟨m1,m2⟩:=Kk i hi j hj
 rw[e1,e2] at e
 have hmx:mx (i:Int) (j:Int)≤4:=by unfold mx;split<;>omega
 refine⟨h0,by omega,h1,by simp[tO,hb,h],by rw[e];omega,by rw[e,←h3];exact m1,(yA hp).1,by simp[nq,hb]⟩
theorem zY {n a:Int}(hb:ja n a=false)(h:fP n a=false):fY n a= -1∧1≤iO n a∧n≤32 * iO n a∧1≤mq n a∧(32 * mq n a) % a=0∧1≤a∧tO n a=IntKind.i64.wrap (iO n a * 32)∧nq n a=0:=by
 have hp:ox a=true:=by simp[ja] at hb;exact hb.2
 have e1:iO n a=ow (mx n 1):=by simp[iO,hb,h]
 have e2:mq n a=mx 1 (a / 32):=by simp[mq,hb,h]
 have hpb:=yA hp
 have m1:1≤mx n 1∧n≤mx n 1:=by unfold mx;split<;>omega
 refine⟨H0 hb h,?_,?_,?_,?_,hpb.1,by simp[tO,hb,h],by simp[nq,hb]⟩
 ·rw[e1];unfold ow;split<;>omega
 ·rw[e1];unfold ow;split<;>omega
 ·rw[e2];unfold mx;split<;>omega
 ·rw[e2]
  simp[ox] at hp
  rcases hp with((((((rfl|rfl)|rfl)|rfl)|rfl)|rfl)|rfl)|rfl<;>decide
variable (w:World)
theorem Kl (n:Int):Calls Tryz.prog 96 #[.int .i64 n] w fun e w'=>e=.returned (.int .i64 (gE n))∧w'=w:=by
 go_enter Tryz.func96,Tryz.ntmps96
 go_wp2_with fail
 go_loop [3] (fun i=>∃k:Nat,k≤5∧i=.int .i64 k∧∀j:Nat,j<k→szV j<n) (fun i=>5-(intOf i).toNat)
 case atStart=>exact⟨0,Nat.zero_le _,rfl,fun j h=>absurd h (by omega)⟩
 case round =>
  obtain⟨k,hk,rfl,hj⟩:=hrel
  by_cases hlt:k<5
  ·have d0:decide ((k:Int)<5)=true:=by simp;omega
   have Hj:=hQQ hj
   clear hj
   go_wp2_with fail
   refine(yo _ k).mono ?_
   rintro e w1 ⟨rfl,rfl⟩
   by_cases hs:n≤szV k
   ·have d1:decide (n≤szV k)=true:=by simpa using hs
    have HX:=hQQ (Cp (by omega) hs Hj.o)
    go_wp2_with fail
    go_ret
    exact⟨by rw[HX.o];rfl,rfl⟩
   ·have d1:decide (n≤szV k)=false:=by simpa using hs
    go_wp2_with fail
    go_round
    case rel=>exact⟨k+1,by omega,by go_num,fun j h=>by
     by_cases q:j=k
     ·subst q;omega
     ·exact Hj.o j (by omega)⟩
    case measure=>simp[intOf];omega
  ·have he:k=5:=by omega
   subst he
   have HX:=hQQ (Fv hj)
   clear hj
   have d0:decide (((5:Nat):Int)<5)=false:=by simp
   go_wp2_with fail
   go_ret
   exact⟨by rw[HX.o];rfl,rfl⟩
theorem tP (n:Int)(h:n≤9223372036854775807):Calls Tryz.prog 97 #[.int .i64 n] w fun e w'=>e=.returned (.int .i64 (ow n))∧w'=w:=by
 by_cases c0:n<1
 ·have d0:decide (n<1)=true:=by simp;omega
  rw[show ow n=0 from if_pos c0]
  go_enter Tryz.func97,Tryz.ntmps97
  go_wp2_with fail
  go_ret
  exact⟨rfl,rfl⟩
 ·have d0:decide (n<1)=false:=by simp;omega
  rw[show ow n=(n-1) / 32+1 from if_neg c0]
  have q0:IntKind.i64.wrap (n-1)=n-1:=am (by omega) (by omega)
  have q1:IntKind.i64.wrap ((n-1).tdiv 32)=(n-1) / 32:=by rw[Int.tdiv_eq_ediv_of_nonneg (by omega)];exact am (by omega) (by omega)
  have q2:IntKind.i64.wrap ((n-1) / 32+1)=(n-1) / 32+1:=am (by omega) (by omega)
  go_enter Tryz.func97,Tryz.ntmps97
  go_wp2_with fail
  go_ret
  exact⟨rfl,rfl⟩
theorem zZ (a:Int):Calls Tryz.prog 95 #[.int .i64 a] w fun e w'=>e=.returned (.bool (ox a))∧w'=w:=by
 go_enter Tryz.func95,Tryz.ntmps95
 go_wp2_with fail
 go_loop [3] (fun i=>∃k:Nat,k≤8∧i=.int .i64 (szT k)∧∀j:Nat,j<k→szT j≠a) (fun i=>512-(intOf i).toNat)
 case atStart=>exact⟨0,Nat.zero_le _,rfl,fun j h=>absurd h (by omega)⟩
 case round =>
  obtain⟨k,hk,rfl,hj⟩:=hrel
  by_cases hlt:k<8
  ·obtain⟨a1,a2,a3⟩:=Hy hlt
   have d0:decide (szT k≤128)=true:=by simpa using a3
   have Hj:=hQQ hj
   clear hj
   by_cases hs:szT k=a
   ·have d1:decide (szT k=a)=true:=by simpa using hs
    have HX:=hQQ (Fw hlt hs)
    clear hs
    have d2:(szT k==a)=true:=by simpa using d1
    go_wp2_with fail
    go_ret
    exact⟨by rw[HX.o];rfl,rfl⟩
   ·have d1:decide (szT k=a)=false:=by simpa using hs
    have hb:szT (k+1)≤256:=by omega
    have q0:IntKind.i64.wrap (szT k * 2)=szT (k+1):=by rw[a1];exact am (by omega) (by omega)
    have Ha:=hQQ a1
    clear a1
    go_wp2_with fail
    go_round
    case rel=>exact⟨k+1,by omega,rfl,fun j h=>by
     by_cases q:j=k
     ·subst q;exact hs
     ·exact Hj.o j (by omega)⟩
    case measure=>have:=Ha.o;simp[intOf];omega
  ·have he:k=8:=by omega
   subst he
   have HX:=hQQ (Hz hj)
   clear hj
   have d0:decide (szT 8≤128)=false:=by decide
   go_wp2_with fail
   go_ret
   exact⟨by rw[HX.o];rfl,rfl⟩
theorem Km (n a:Int)(h:n≤9223372036854775807):Calls Tryz.prog 58 #[.int .i64 n,.int .i64 a] w fun e w'=>e=.returned (qX n a)∧w'=w:=by
 by_cases c0:n<0
 ·have d0:decide (n<0)=true:=by simp;omega
  rw[show qX n a=.tuple #[.int .i64 0,.int .i64 0,.int .i64 0,.int .i64 2] by simp[qX,fY,iO,mq,nq,ja,c0]]
  go_enter Tryz.func58,Tryz.ntmps58
  go_wp2_with fail
  refine bodyPost_ret (v:=.tuple #[.int .i64 0,.int .i64 0,.int .i64 0,.int .i64 2]) (by simp[results,Tryz.results58,go_sem]) rfl ⟨rfl,rfl⟩
 ·have d0:decide (n<0)=false:=by simp;omega
  cases hp:ox a with
  |false =>
   rw[show qX n a=.tuple #[.int .i64 0,.int .i64 0,.int .i64 0,.int .i64 2] by simp[qX,fY,iO,mq,nq,ja,hp]]
   have HP:=hQQ (fun W=>zZ W a)
   rw[hp] at HP
   go_enter Tryz.func58,Tryz.ntmps58
   go_wp2_with fail
   refine(HP.o _).mono ?_
   rintro e w1 ⟨rfl,rfl⟩
   go_wp2_with fail
   refine bodyPost_ret (v:=.tuple #[.int .i64 0,.int .i64 0,.int .i64 0,.int .i64 2]) (by simp[results,Tryz.results58,go_sem]) rfl ⟨rfl,rfl⟩
  |true =>
   have HP:=hQQ (fun W=>zZ W a)
   rw[hp] at HP
   have hb:ja n a=false:=by simp[ja,hp];omega
   by_cases c1:n≤16∧a≤16
   ·have d1:decide (n≤16)=true:=by simp;omega
    have d2:decide (a≤16)=true:=by simp;omega
    rw[show qX n a=.tuple #[.int .i64 (mx (gE n) (gE a)),.int .i64 0,.int .i64 0,.int .i64 0] by simp[qX,fY,iO,mq,nq,hb,fP,d1,d2]]
    go_enter Tryz.func58,Tryz.ntmps58
    go_wp2_with fail
    refine(HP.o _).mono ?_
    rintro e w1 ⟨rfl,rfl⟩
    go_wp2_with fail
    refine(Kl _ n).mono ?_
    rintro e w1 ⟨rfl,rfl⟩
    go_wp2_with fail
    refine(Kl _ a).mono ?_
    rintro e w1 ⟨rfl,rfl⟩
    go_wp2_with fail
    all_goals refine bodyPost_ret (v:=.tuple #[.int .i64 (mx (gE n) (gE a)),.int .i64 0,.int .i64 0,.int .i64 0]) (by simp[results,Tryz.results58,go_sem,mx];omega) rfl ⟨rfl,rfl⟩
   ·have d12:fP n a=false:=by simp[fP];omega
    have pb:=yA hp
    have q0:IntKind.i64.wrap (a.tdiv 32)=a / 32:=by rw[Int.tdiv_eq_ediv_of_nonneg (by omega)];exact am (by omega) (by omega)
    rw[show qX n a=.tuple #[.int .i64 (-1),.int .i64 (ow (mx n 1)),.int .i64 (mx 1 (a / 32)),.int .i64 0] by simp[qX,fY,iO,mq,nq,hb,d12]]
    have HG:Hq (∀W,Calls Tryz.prog 97 #[.int .i64 n] W fun e w'=>e=.returned (.int .i64 (ow n))∧w'=W):=fun W=>tP W n h
    have HG1:Hq (∀W,Calls Tryz.prog 97 #[.int .i64 1] W fun e w'=>e=.returned (.int .i64 (ow 1))∧w'=W):=fun W=>tP W 1 (by omega)
    have HGM:Hq (∀W,Calls Tryz.prog 97 #[.int .i64 (max n 1)] W fun e w'=>e=.returned (.int .i64 (ow (mx n 1)))∧w'=W):=fun W=>by rw[show max n 1=mx n 1 by unfold mx;split<;>omega];exact tP W _ (by unfold mx;split<;>omega)
    by_cases c2:n≤16
    ·have d1:decide (n≤16)=true:=by simpa using c2
     have d2:decide (a≤16)=false:=by simp;omega
     clear c1
     go_enter Tryz.func58,Tryz.ntmps58
     go_wp2_with fail
     refine(HP.o _).mono ?_
     rintro e w1 ⟨rfl,rfl⟩
     go_wp2_with fail
     all_goals first|(with_reducible refine Calls.mono (HG.o _) ?_;rintro e w1 ⟨rfl,rfl⟩)|(with_reducible refine Calls.mono (HG1.o _) ?_;rintro e w1 ⟨rfl,rfl⟩)|(with_reducible refine Calls.mono (HGM.o _) ?_;rintro e w1 ⟨rfl,rfl⟩)
     all_goals go_wp2_with fail
     all_goals refine bodyPost_ret (v:=.tuple #[.int .i64 (-1),.int .i64 (ow (mx n 1)),.int .i64 (mx 1 (a / 32)),.int .i64 0]) (by simp[results,Tryz.results58,go_sem];unfold mx; (repeat' split)<;>first|(exfalso;omega)|simp|omega) rfl ⟨rfl,rfl⟩
    ·have d1:decide (n≤16)=false:=by simpa using c2
     clear c1
     go_enter Tryz.func58,Tryz.ntmps58
     go_wp2_with fail
     refine(HP.o _).mono ?_
     rintro e w1 ⟨rfl,rfl⟩
     go_wp2_with fail
     all_goals first|(with_reducible refine Calls.mono (HG.o _) ?_;rintro e w1 ⟨rfl,rfl⟩)|(with_reducible refine Calls.mono (HG1.o _) ?_;rintro e w1 ⟨rfl,rfl⟩)|(with_reducible refine Calls.mono (HGM.o _) ?_;rintro e w1 ⟨rfl,rfl⟩)
     all_goals go_wp2_with fail
     all_goals refine bodyPost_ret (v:=.tuple #[.int .i64 (-1),.int .i64 (ow (mx n 1)),.int .i64 (mx 1 (a / 32)),.int .i64 0]) (by simp[results,Tryz.results58,go_sem];unfold mx; (repeat' split)<;>first|(exfalso;omega)|simp|omega) rfl ⟨rfl,rfl⟩
end Go.Proofs.YtfddhogffpkhcaaGreatDoor
