/-
  The document's own blocks (assartref15): Alloc.
-/
import Derived.Test.YtfddhogffpkhcaaGreatDoorTdAi
import Derived.Test.YtfddhogffpkhcaaGreatDoorTdAh
import Derived.Test.YtfddhogffpkhcaaGreatDoorTdAd
import Derived.Test.YtfddhogffpkhcaaGreatDoorTdAe
import Derived.Test.YtfddhogffpkhcaaGreatDoorTdAc
import Derived.ChangeKeysEq
set_option maxRecDepth 100000
set_option maxHeartbeats 8000000
set_option linter.all false
namespace Go.Proofs.YtfddhogffpkhcaaGreatDoor
open Go.RowKit Go.Sort Go.Maps Go.Shelf
theorem nr {P:Program}{fn:Func}{p u u' u'':Tmp}{ty:TypeId}(h:fn.results= #[.tmp u,.tmp u',.cell p ty,.tmp u''])(tmps:Array Value)(w:World)(g:Nat)(t:TypeId)(cs:Array Value)(fr:Nat×Nat)(d:TypeDesc)
 (hp:tmps.getD p undef=.pointer (some ⟨g,0,none⟩)) (hg:w.heap[g]?=some (.cells cs t fr))
 (hu:P.underlying ty=some d) (hd:(match d with| .struct _| .array _ _=>true|_=>false)=true) (hi:(P.info? ty).map (·.size)=some cs.size):
 (results fn tmps).run P w=.ok (.tuple #[tmps.getD u undef,tmps.getD u' undef,.agg cs,tmps.getD u'' undef]) w:=by
 have hp':tmps[p]?.getD undef=.pointer (some ⟨g,0,none⟩):=by simpa using hp
 have hl:=run_loadVar_row w g t ty cs fr d hg hu hd hi
 simp[results,h,hp',asAddr,hl]
theorem Fx {w:World}{g r:Nat}{cs new:Array Value}{T:TypeId}{fr:Nat×Nat}(h:w.heap[g]?=some (.cells cs T fr))(ne:g≠r):(w.setRow r new).heap[g]?=some (.cells cs T fr):=
 ((Turned.setRow (S:=fun k=>k=r) (Turned.refl _ w) r new (fun _=>rfl)).block g (ac h) ne).trans h
abbrev AlT:=(((Int×Int)×(Nat→List Int))×Int)×List Int
def AlR (w:World)(g cap len:Nat)(res:AlT)(e:Ending)(w':World):Prop :=
 ∃v' its',e=.returned (.tuple #[.int .i64 res.1.1.1.1,.int .i64 res.1.1.1.2,.agg #[v'],.int .i64 res.1.2])∧IR 0 w' v' its'∧Eqv res.1.1.2 its'∧its'.length≤len+8∧Ws w' g cap res.2∧Turned (fun b=>b=g) w w'
def alW (c:Cfg)(u:Int)(P:Nat→List Int)(n al:Int)(ws:List Int):AlT :=
 if nq n al≠0 then((((0,0),P),nq n al),ws)
 else if 0≤fY n al then
  if(tkW c u P (fY n al) ws).1.1.2 then(((((tkW c u P (fY n al) ws).1.1.1,szV (fY n al)),(tkW c u P (fY n al) ws).1.2),0),(tkW c u P (fY n al) ws).2)
  else((((0,0),P),6),(tkW c u P (fY n al) ws).2)
 else if dD c.pg c.st (iO n al) (mq n al) ws<0 then((((0,0),P),6),ws)
 else((((c.us+32 * dD c.pg c.st (iO n al) (mq n al) ws,32 * iO n al),P),0),(dP c.pg c.st (dD c.pg c.st (iO n al) (mq n al) ws) (iO n al) 6 ws).2)
theorem Jq (n al:Int):fY n al≤4:=by
 cases hb:ja n al with
 |true=>simp[fY,hb]
 |false =>
  cases h:fP n al with
  |true=>exact(si hb h).2.1
  |false=>have:=(zY hb h).1;omega
theorem sm {c:Cfg}(R:c.Ok)(ws:List Int)(H:cB c.pg c.st ws.length)(hl:ws.length≤1000)(hww:(ws.length:Int)=c.words){r:Gh}{C:Nat→List Int}{O:List (Int×Int)}{u:Nat}{P:Nat→List Int}(hP:∀j,j<5→((P j).length:Int)≤c.pr)(F:FrI c.us c.pg c.st ws.length (bh c) r ws C (puO P++O))(g cap:Nat)(hu:(u:Int)<c.cp)(n al:Int)(hn:n≤9223372036854775807)(v:Value)(its:List It)(he:Eqv P its)(hlen:its.length≤10000)(w:World)(hv:IR 0 w v its)(hw:Ws w g cap ws):
 Calls Tryz.prog 26 #[.agg c.cells,.slice (some ⟨g,0,none⟩) ws.length cap,.int .i64 (u:Int),.agg #[v],.int .i64 n,.int .i64 al] w (AlR w g cap its.length (alW c u P n al ws)):=by
 obtain⟨res,hres⟩:∃res,alW c (u:Int) P n al ws=res:=⟨_,rfl⟩
 rw[hres]
 unfold alW at hres
 have FT:=hQQ (fun W=>Km W n al hn)
 have h4:=Jq n al
 unfold qX at FT
 generalize fY n al=fc at hres FT h4
 generalize iO n al=fp at hres FT
 generalize mq n al=fs at hres FT
 generalize nq n al=fe at hres FT
 obtain⟨av,cv,rfl,_,_,_⟩:=hv.at
 obtain⟨n0,hn0⟩:∃n0,its.length=n0:=⟨_,rfl⟩
 have TK:=hQQ (fun(k:Nat) (hk:k<5) W (hV:IR 0 W (.slice av its.length cv) its) (hW:Ws W g cap ws)=>Fm R ws H hl hww hP F g cap hu hk _ its he hlen W hV hW)
 rw[hn0] at hlen hv TK⊢
 obtain⟨w3,e3,hb1,hb2,hb3,m3,s3⟩:=lT w (.cells c.cells 27) (.cells #[.slice av n0 cv] 62) (.cells #[.slice none 0 0] 62)
 have MM:=hQQ m3
 have B1W:=hQQ hb1
 have B2:=hQQ hb2
 have B3:=hQQ hb3
 have HG:=hQQ hw.lt
 have HN0:=hQQ hn0
 have IR0:=hQQ (hv.more m3)
 have X0:=hQQ (hw.more m3)
 have HE:=hQQ he
 have HR:=hQQ R
 have FD:=hQQ (fun W (hW:Ws W g cap ws)=>zF R ws H.toPgIn hl g cap fp fs W hW)
 have TA:=hQQ (fun p (hp:W64 p) W (hW:Ws W g cap ws)=>zG R ws H.toPgIn hl g cap p fp 6 hp W hW)
 have FR:=hQQ (fun p (h:dD c.pg c.st fp fs ws=p) (hp:p≠ -1)=>vR (pg:=c.pg) (st:=c.st) (m:=fp) (step:=fs) (ws:=ws) (by have:=R.pg1;omega) h hp)
 have TX:=hQQ (Turned.refl (fun b=>b=g) w3)
 have XX:=hQQ X0.o
 have y2:w3.cell? ⟨w.heap.size+1,0,none⟩=some (.slice av n0 cv):=by simp[World.cell?,hb2]
 have pg1:=R.pg1
 have pg2:=R.pg2
 have hus:0≤c.us∧c.us≤1000000:=by
  have hb:=eS R
  have e2:c.us=bH c.cp c.pg c.st c.ca c.bi:=rfl
  omega
 clear hb1 hb2 hb3 m3 s3 hn0 hv hw he F R
 go_enter Tryz.func26,Tryz.ntmps26
 go_wp2_with fail
 clear e3
 refine(FT.o _).mono ?_
 rintro e w4 ⟨rfl,hw4⟩
 rw[hw4]
 clear hw4 w4
 by_cases hfe:fe=0
 ·rw[if_neg (by simp[hfe])] at hres
  have d1:(fe==0)=true:=by simp[hfe]
  by_cases hfc:0≤fc
  ·rw[if_pos hfc] at hres
   have d2:decide (0≤fc)=true:=by simp[hfc]
   obtain⟨k,hk⟩:∃k:Nat,fc=(k:Int):=⟨fc.toNat,by omega⟩
   subst hk
   have hk5:k<5:=by omega
   have TK:=hQQ (TK.o k hk5)
   obtain⟨tk,htk⟩:∃tk,tkW c (u:Int) P (k:Int) ws=tk:=⟨_,rfl⟩
   rw[htk] at hres TK
   go_wp2_with (first|(refine aA rfl rfl rfl B1W.o (by kernel_rfl) ?_)|(refine aA rfl rfl rfl B1W.o (by kernel_rfl) ?_))
   refine(TK.o _ IR0.o X0.o).mono ?_
   rintro e w5 ⟨v5,its5,rfl,hr5,he5,hl5,hx5,ht5⟩
   obtain⟨a5,c5,rfl,_,_,_⟩:=hr5.at
   obtain⟨n5,hn5⟩:∃n5,its5.length=n5:=⟨_,rfl⟩
   rw[hn5] at hr5 hl5⊢
   obtain⟨w6,e6,hb6,m6,s6⟩:=df w5 (.cells #[.slice none 0 0] 62)
   obtain⟨w7,e7⟩:∃w7,w6.setRow w5.heap.size #[.slice a5 n5 c5]=w7:=⟨_,rfl⟩
   have m7:ae w5 w7:=by rw[←e7];exact m6.setRow _ _ (Nat.le_refl _)
   have B7:Hq (w7.heap[w5.heap.size]?=some (.cells #[.slice a5 n5 c5] 62 (0,0))):=hQQ (by rw[←e7];exact setRow_heap _ _ _ _ _ _ hb6)
   have B6:=hQQ hb6
   have R5:=hQQ (hr5.more m7)
   have TX:=hQQ (Turned.trans ht5 (turned_more m7))
   have XX:=hQQ (hx5.more m7)
   have E5:=hQQ he5
   have L5:=hQQ hl5
   have HN5:=hQQ hn5
   clear m7 hr5 ht5 hx5 he5 hl5 hn5 m6 s6 hb6 y2
   obtain⟨bt,hbt⟩:∃bt,tk.1.1.2=bt:=⟨_,rfl⟩
   rw[hbt] at hres⊢
   cases bt with
   |true =>
    rw[if_pos rfl] at hres
    have er:=hres.symm
    have FIN:Hq (∀W,ae w7 W→AlR w g cap n0 res (.returned (.tuple #[.int .i64 tk.1.1.1,.int .i64 (szV (k:Int)),.agg #[.slice a5 n5 c5],.int .i64 0])) (W.setRow (w.heap.size+1+1) #[.slice a5 n5 c5])):=hQQ fun W hW=>by
     rw[er]
     have hT:Turned (fun b=>b=g) w3 W:=Turned.trans TX.o (turned_more hW)
     have hb:=(hT.block _ (ac B3.o) (fun q=>by have:=HG.o;omega)).trans B3.o
     have t:Turned (fun b=>b=w.heap.size+1+1) W (W.setRow (w.heap.size+1+1) #[.slice a5 n5 c5]):=Turned.setRow (Turned.refl _ W) _ _ (fun _=>rfl)
     refine⟨_,its5,rfl,(R5.o.more hW).keep t (fun k q=>by subst q;exact⟨_,_,_,hb,by decide⟩),E5.o,by have:=L5.o;have:=HN5.o;omega,(XX.o.more hW).keep t (by have:=HG.o;omega),?_⟩
     exact aq (F':=fun b=>b=g∨b=w.heap.size+1+1) (turned_more MM.o) (Turned.trans (hT.mono (fun _ _ q=>Or.inl q)) (t.mono (fun _ _ q=>Or.inr q))) (fun k q=>by rcases q with q|q;exact .inl q;exact .inr (by omega))
    have B3X:=hQQ ((TX.o.block _ (ac B3.o) (fun q=>by have:=HG.o;omega)).trans B3.o)
    have YS:=hQQ (fun W=>jM (k:Int) W)
    clear er hres
    go_wp2_with (refine wpList_store_row rfl 62 _ _ rfl _ _ rfl rfl 62 _ B6.o (by kernel_rfl) rfl (by simp[Value.oneCell']) ?_;rw[e7])
    refine au 6 (by kernel_rfl) (by kernel_rfl) ?_
    simp only[List.take_succ_cons,List.take_zero,List.drop_succ_cons,List.drop_zero]
    iterate 3
     with_reducible refine wpQuiet_step (fun K hK=>?_)
     go_simp
     first
     |(refine hK _ ?_;clear hK K)
     |(apply Exists.intro
       refine⟨fun W hW=>?_,hK _ ?_⟩
       first
       |(go_at_call 49;exact Calls.more hW (YS.o W))
       |(go_simp;try rfl)
       clear hK K)
    refine ai rfl 62 _ rfl _ rfl 62 _ _ _ (fun W hW=>hW.block B7.o) Tryz.underlying62 rfl (by kernel_rfl) ?_
    iterate 2
     with_reducible refine wpQuiet_step (fun K hK=>?_)
     go_simp
     first
     |(refine hK _ ?_;clear hK K)
     |(apply Exists.intro
       refine⟨fun W hW=>?_,hK _ ?_⟩
       first
       |(go_simp;try rfl)
       clear hK K)
    -- behind the quiet head: the store of the purse (block B3,from the world wx,facts FIN,B3X),and the results
    refine wpQuiet_nil ?_
    intro wz hz
    have FB:=hQQ (FIN.o wz hz)
    have B8:=hQQ (hz.block B3X.o)
    clear hz FIN
    go_wp2_with (refine wpList_store_row rfl 62 _ _ rfl _ _ rfl rfl 62 _ B8.o (by kernel_rfl) rfl (by simp[Value.oneCell']) ?_)
    refine bodyPost_ret (v:=.tuple #[.int .i64 tk.1.1.1,.int .i64 (szV (k:Int)),.agg #[.slice a5 n5 c5],.int .i64 0]) (nr Tryz.results26 _ _ _ 62 _ (0,0) _ rfl (setRow_heap _ _ _ _ _ _ B8.o) Tryz.underlying62 rfl (by kernel_rfl)) rfl FB.o
   |false =>
    rw[if_neg (by decide)] at hres
    have er:=hres.symm
    -- the purse that came in is handed back;TX: from w3 to the world,XX: its words
    have FIN:Hq (∀W,ae w7 W→AlR w g cap n0 res (.returned (.tuple #[.int .i64 0,.int .i64 0,.agg #[.slice av n0 cv],.int .i64 6])) (W.setRow (w.heap.size+1+1) #[.slice av n0 cv])):=hQQ fun W hW=>by
     rw[er]
     have hT:Turned (fun b=>b=g) w3 W:=Turned.trans TX.o (turned_more hW)
     have hb:=(hT.block _ (ac B3.o) (fun q=>by have:=HG.o;omega)).trans B3.o
     have t:Turned (fun b=>b=w.heap.size+1+1) W (W.setRow (w.heap.size+1+1) #[.slice av n0 cv]):=Turned.setRow (Turned.refl _ W) _ _ (fun _=>rfl)
     refine⟨_,its,rfl,(jp IR0.o X0.o hT).keep t (fun k q=>by subst q;exact⟨_,_,_,hb,by decide⟩),HE.o,by have:=HN0.o;omega,(XX.o.more hW).keep t (by have:=HG.o;omega),?_⟩
     exact aq (F':=fun b=>b=g∨b=w.heap.size+1+1) (turned_more MM.o) (Turned.trans (hT.mono (fun _ _ q=>Or.inl q)) (t.mono (fun _ _ q=>Or.inr q))) (fun k q=>by rcases q with q|q;exact .inl q;exact .inr (by omega))
    have B2X:=hQQ ((TX.o.block _ (ac B2.o) (fun q=>by have:=HG.o;omega)).trans B2.o)
    have B3X:=hQQ ((TX.o.block _ (ac B3.o) (fun q=>by have:=HG.o;omega)).trans B3.o)
    clear er
    clear hres
    go_wp2_with (refine wpList_store_row rfl 62 _ _ rfl _ _ rfl rfl 62 _ B6.o (by kernel_rfl) rfl (by simp[Value.oneCell']) ?_;rw[e7])
    refine au 3 (by kernel_rfl) (by kernel_rfl) ?_
    simp only[List.take_succ_cons,List.take_zero,List.drop_succ_cons,List.drop_zero]
    refine ai rfl 62 _ rfl _ rfl 62 _ _ _ (fun W hW=>hW.block B2X.o) Tryz.underlying62 rfl (by kernel_rfl) ?_
    iterate 2
     with_reducible refine wpQuiet_step (fun K hK=>?_)
     go_simp
     first
     |(refine hK _ ?_;clear hK K)
     |(apply Exists.intro
       refine⟨fun W hW=>?_,hK _ ?_⟩
       first
       |(go_simp;try rfl)
       clear hK K)
    -- behind the quiet head: the store of the purse (block B3,from the world wx,facts FIN,B3X),and the results
    refine wpQuiet_nil ?_
    intro wz hz
    have FB:=hQQ (FIN.o wz hz)
    have B8:=hQQ (hz.block B3X.o)
    clear hz FIN
    go_wp2_with (refine wpList_store_row rfl 62 _ _ rfl _ _ rfl rfl 62 _ B8.o (by kernel_rfl) rfl (by simp[Value.oneCell']) ?_)
    refine bodyPost_ret (v:=.tuple #[.int .i64 0,.int .i64 0,.agg #[.slice av n0 cv],.int .i64 6]) (nr Tryz.results26 _ _ _ 62 _ (0,0) _ rfl (setRow_heap _ _ _ _ _ _ B8.o) Tryz.underlying62 rfl (by kernel_rfl)) rfl FB.o
  ·rw[if_neg hfc] at hres
   have d2:decide (0≤fc)=false:=by simp;omega
   obtain⟨f,hf⟩:∃f,dD c.pg c.st fp fs ws=f:=⟨_,rfl⟩
   rw[hf] at hres FD
   go_wp2_with (first|(refine aA rfl rfl rfl B1W.o (by kernel_rfl) ?_)|(refine aA rfl rfl rfl B1W.o (by kernel_rfl) ?_))
   refine(FD.o _ X0.o).mono ?_
   rintro e w5 ⟨rfl,h5⟩
   have M5:=hQQ h5
   have B15:=hQQ (h5.block B1W.o)
   have y2:=h5.cell y2
   clear h5
   by_cases hf0:f<0
   ·rw[if_pos hf0] at hres
    have er:=hres.symm
    have TX:=hQQ (turned_more (S:=fun b=>b=g) M5.o)
    have XX:=hQQ (X0.o.more M5.o)
    -- the purse that came in is handed back;TX: from w3 to the world,XX: its words
    have FIN:Hq (∀W,ae w5 W→AlR w g cap n0 res (.returned (.tuple #[.int .i64 0,.int .i64 0,.agg #[.slice av n0 cv],.int .i64 6])) (W.setRow (w.heap.size+1+1) #[.slice av n0 cv])):=hQQ fun W hW=>by
     rw[er]
     have hT:Turned (fun b=>b=g) w3 W:=Turned.trans TX.o (turned_more hW)
     have hb:=(hT.block _ (ac B3.o) (fun q=>by have:=HG.o;omega)).trans B3.o
     have t:Turned (fun b=>b=w.heap.size+1+1) W (W.setRow (w.heap.size+1+1) #[.slice av n0 cv]):=Turned.setRow (Turned.refl _ W) _ _ (fun _=>rfl)
     refine⟨_,its,rfl,(jp IR0.o X0.o hT).keep t (fun k q=>by subst q;exact⟨_,_,_,hb,by decide⟩),HE.o,by have:=HN0.o;omega,(XX.o.more hW).keep t (by have:=HG.o;omega),?_⟩
     exact aq (F':=fun b=>b=g∨b=w.heap.size+1+1) (turned_more MM.o) (Turned.trans (hT.mono (fun _ _ q=>Or.inl q)) (t.mono (fun _ _ q=>Or.inr q))) (fun k q=>by rcases q with q|q;exact .inl q;exact .inr (by omega))
    have B2X:=hQQ ((TX.o.block _ (ac B2.o) (fun q=>by have:=HG.o;omega)).trans B2.o)
    have B3X:=hQQ ((TX.o.block _ (ac B3.o) (fun q=>by have:=HG.o;omega)).trans B3.o)
    clear er
    have d3:decide (f<0)=true:=by simp[hf0]
    clear hres
    go_wp2_with fail
    refine au 3 (by kernel_rfl) (by kernel_rfl) ?_
    simp only[List.take_succ_cons,List.take_zero,List.drop_succ_cons,List.drop_zero]
    refine ai rfl 62 _ rfl _ rfl 62 _ _ _ (fun W hW=>hW.block B2X.o) Tryz.underlying62 rfl (by kernel_rfl) ?_
    iterate 2
     with_reducible refine wpQuiet_step (fun K hK=>?_)
     go_simp
     first
     |(refine hK _ ?_;clear hK K)
     |(apply Exists.intro
       refine⟨fun W hW=>?_,hK _ ?_⟩
       first
       |(go_simp;try rfl)
       clear hK K)
    -- behind the quiet head: the store of the purse (block B3,from the world wx,facts FIN,B3X),and the results
    refine wpQuiet_nil ?_
    intro wz hz
    have FB:=hQQ (FIN.o wz hz)
    have B8:=hQQ (hz.block B3X.o)
    clear hz FIN
    go_wp2_with (refine wpList_store_row rfl 62 _ _ rfl _ _ rfl rfl 62 _ B8.o (by kernel_rfl) rfl (by simp[Value.oneCell']) ?_)
    refine bodyPost_ret (v:=.tuple #[.int .i64 0,.int .i64 0,.agg #[.slice av n0 cv],.int .i64 6]) (nr Tryz.results26 _ _ _ 62 _ (0,0) _ rfl (setRow_heap _ _ _ _ _ _ B8.o) Tryz.underlying62 rfl (by kernel_rfl)) rfl FB.o
   ·rw[if_neg hf0] at hres
    have d3:decide (f<0)=false:=by simp;omega
    obtain⟨f1,f2,_,f4⟩:=FR.o f hf (by omega)
    obtain⟨t0,t1,t2⟩:=bo.1 (fa.1 f4).1
    have hpf:af c.pg f=true:=ag.2 (by omega)
    have er:=hres.symm
    have q9:IntKind.i64.wrap (32 * fp)=32 * fp:=am (by omega) (by omega)
    have YA:=hQQ (fun W=>pi HR.o hpf W)
    have w64f:Hq (W64 f):=hQQ (by unfold W64;omega)
    clear f1 f2 f4 t0 t1 t2 hpf er
    go_wp2_with (first|(refine aA rfl rfl rfl B15.o (by kernel_rfl) ?_)|(refine aA rfl rfl rfl B15.o (by kernel_rfl) ?_))
    have er:=hres.symm
    refine(TA.o f w64f.o _ (X0.o.more M5.o)).mono ?_
    rintro e w6 ⟨rfl,hx6,ht6⟩
    have TX:=hQQ (Turned.trans (turned_more (S:=fun b=>b=g) M5.o) ht6)
    have XX:=hQQ hx6
    have B16:=hQQ ((ht6.block _ (ac B15.o) (fun q=>by have:=HG.o;omega)).trans B15.o)
    -- the purse that came in is handed back;TX: from w3 to the world,XX: its words
    have FIN:Hq (∀W,ae w6 W→AlR w g cap n0 res (.returned (.tuple #[.int .i64 (c.us+32 * f),.int .i64 (32 * fp),.agg #[.slice av n0 cv],.int .i64 0])) (W.setRow (w.heap.size+1+1) #[.slice av n0 cv])):=hQQ fun W hW=>by
     rw[er]
     have hT:Turned (fun b=>b=g) w3 W:=Turned.trans TX.o (turned_more hW)
     have hb:=(hT.block _ (ac B3.o) (fun q=>by have:=HG.o;omega)).trans B3.o
     have t:Turned (fun b=>b=w.heap.size+1+1) W (W.setRow (w.heap.size+1+1) #[.slice av n0 cv]):=Turned.setRow (Turned.refl _ W) _ _ (fun _=>rfl)
     refine⟨_,its,rfl,(jp IR0.o X0.o hT).keep t (fun k q=>by subst q;exact⟨_,_,_,hb,by decide⟩),HE.o,by have:=HN0.o;omega,(XX.o.more hW).keep t (by have:=HG.o;omega),?_⟩
     exact aq (F':=fun b=>b=g∨b=w.heap.size+1+1) (turned_more MM.o) (Turned.trans (hT.mono (fun _ _ q=>Or.inl q)) (t.mono (fun _ _ q=>Or.inr q))) (fun k q=>by rcases q with q|q;exact .inl q;exact .inr (by omega))
    have B2X:=hQQ ((TX.o.block _ (ac B2.o) (fun q=>by have:=HG.o;omega)).trans B2.o)
    have B3X:=hQQ ((TX.o.block _ (ac B3.o) (fun q=>by have:=HG.o;omega)).trans B3.o)
    clear er
    clear hres hx6 ht6 y2
    go_wp2_with fail
    refine au 8 (by kernel_rfl) (by kernel_rfl) ?_
    simp only[List.take_succ_cons,List.take_zero,List.drop_succ_cons,List.drop_zero]
    refine ai rfl 27 _ rfl _ rfl 27 _ _ _ (fun W hW=>hW.block B16.o) Tryz.underlying27 rfl (by kernel_rfl) ?_
    iterate 4
     with_reducible refine wpQuiet_step (fun K hK=>?_)
     go_simp
     first
     |(refine hK _ ?_;clear hK K)
     |(apply Exists.intro
       refine⟨fun W hW=>?_,hK _ ?_⟩
       first
       |(go_at_call 47;exact Calls.more hW (YA.o W))
       |(go_simp;try rfl)
       clear hK K)
    refine ai rfl 62 _ rfl _ rfl 62 _ _ _ (fun W hW=>hW.block B2X.o) Tryz.underlying62 rfl (by kernel_rfl) ?_
    iterate 2
     with_reducible refine wpQuiet_step (fun K hK=>?_)
     go_simp
     first
     |(refine hK _ ?_;clear hK K)
     |(apply Exists.intro
       refine⟨fun W hW=>?_,hK _ ?_⟩
       first
       |(go_simp;try rfl)
       clear hK K)
    -- behind the quiet head: the store of the purse (block B3,from the world wx,facts FIN,B3X),and the results
    refine wpQuiet_nil ?_
    intro wz hz
    have FB:=hQQ (FIN.o wz hz)
    have B8:=hQQ (hz.block B3X.o)
    clear hz FIN
    go_wp2_with (refine wpList_store_row rfl 62 _ _ rfl _ _ rfl rfl 62 _ B8.o (by kernel_rfl) rfl (by simp[Value.oneCell']) ?_)
    refine bodyPost_ret (v:=.tuple #[.int .i64 (c.us+32 * f),.int .i64 (32 * fp),.agg #[.slice av n0 cv],.int .i64 0]) (nr Tryz.results26 _ _ _ 62 _ (0,0) _ rfl (setRow_heap _ _ _ _ _ _ B8.o) Tryz.underlying62 rfl (by kernel_rfl)) rfl FB.o
 ·rw[if_pos hfe] at hres
  have d1:(fe==0)=false:=by simp[hfe]
  have er:=hres.symm
  -- the purse that came in is handed back;TX: from w3 to the world,XX: its words
  have FIN:Hq (∀W,ae w3 W→AlR w g cap n0 res (.returned (.tuple #[.int .i64 0,.int .i64 0,.agg #[.slice av n0 cv],.int .i64 fe])) (W.setRow (w.heap.size+1+1) #[.slice av n0 cv])):=hQQ fun W hW=>by
   rw[er]
   have hT:Turned (fun b=>b=g) w3 W:=Turned.trans TX.o (turned_more hW)
   have hb:=(hT.block _ (ac B3.o) (fun q=>by have:=HG.o;omega)).trans B3.o
   have t:Turned (fun b=>b=w.heap.size+1+1) W (W.setRow (w.heap.size+1+1) #[.slice av n0 cv]):=Turned.setRow (Turned.refl _ W) _ _ (fun _=>rfl)
   refine⟨_,its,rfl,(jp IR0.o X0.o hT).keep t (fun k q=>by subst q;exact⟨_,_,_,hb,by decide⟩),HE.o,by have:=HN0.o;omega,(XX.o.more hW).keep t (by have:=HG.o;omega),?_⟩
   exact aq (F':=fun b=>b=g∨b=w.heap.size+1+1) (turned_more MM.o) (Turned.trans (hT.mono (fun _ _ q=>Or.inl q)) (t.mono (fun _ _ q=>Or.inr q))) (fun k q=>by rcases q with q|q;exact .inl q;exact .inr (by omega))
  have B2X:=hQQ ((TX.o.block _ (ac B2.o) (fun q=>by have:=HG.o;omega)).trans B2.o)
  have B3X:=hQQ ((TX.o.block _ (ac B3.o) (fun q=>by have:=HG.o;omega)).trans B3.o)
  clear er
  clear hres
  go_wp2_with fail
  refine dg (fun W=>W.heap[(w.heap.size+1)]?=some (.cells #[.slice av n0 cv] 62 (0,0))) (by kernel_rfl) ?_
  change eY _ _ _ _ _ _ _ _ (w3.drewN 1)
  have M0:Hq (ae w3 (w3.drewN 1)):=hQQ ((ae.refl w3).drewN 1)
  have C0:Hq ((w3.drewN 1).heap[(w.heap.size+1)]?=some (.cells #[.slice av n0 cv] 62 (0,0))):=hQQ (M0.o.block B2.o)
  have S0:Hq ((w3.drewN 1).heap[(w.heap.size+1+1)]?=some (.cells #[.slice none 0 0] 62 (0,0))):=hQQ (M0.o.block B3.o)
  generalize w3.drewN 1=wq at M0 C0 S0⊢
  generalize hA:Act.mk _ _=A
  have HF:AG 74 A [(9,.pointer (some ⟨(w.heap.size+1),0,none⟩)),(14,.pointer (some ⟨(w.heap.size+1+1),0,none⟩)),(19,.int .i64 fe)]:=by
   rw[←hA];try simp only[pts,List.foldl]
   refine⟨⟨Nat.le_of_ble_eq_true rfl,rfl⟩,?_⟩
   intro z hz;simp only[List.mem_cons,List.not_mem_nil,or_false] at hz;rcases hz with rfl|rfl|rfl<;>rfl
  refine eZ (fun a W=>a=(pts A [(34,.agg #[.slice av n0 cv]),(35,.int .i64 fe),(12,(.int .i64 0)),(13,(.int .i64 0)),(15,.int .i64 fe)])∧W=wq.setRow (w.heap.size+1+1) #[.slice av n0 cv]) (fun _=>False) [] (fun a W hd h=>h.elim) (fun _ _ _ _ _ h=>h) ?_ ?_
  ·skip
   rintro a9 w9 ⟨rfl,rfl⟩
   rw[←hA];try simp only[pts,List.foldl]
   have FB:=hQQ (FIN.o wq M0.o)
   clear HF hA FIN C0 M0
   go_simp
   go_wp2_with fail
   refine bodyPost_ret (v:=.tuple #[.int .i64 0,.int .i64 0,.agg #[.slice av n0 cv],.int .i64 fe]) (nr Tryz.results26 _ _ _ 62 _ (0,0) _ rfl (setRow_heap _ _ _ _ _ _ S0.o) Tryz.underlying62 rfl (by kernel_rfl)) rfl FB.o
  intro QQ FINE FIND FINQ
  clear hA
  refine tqC 0 34 (.agg #[.slice av n0 cv]) (by kernel_rfl) FINQ C0.o HF (by exact bF (ah rfl) 62 _ rfl (w.heap.size+1) (HF.get 0 rfl) 62 _ _ _ (fun W hW=>hW) Tryz.underlying62 rfl (by kernel_rfl)) fun A β1 HF=>?_
  refine tqM 1 35 3 rfl (.inl rfl) rfl (by kernel_rfl) FINQ C0.o HF fun A β2 HF=>?_
  refine tqC 2 12 ((.int .i64 0)) (by kernel_rfl) FINQ C0.o HF (by exact gg (ah rfl) _ rfl rfl) fun A β3 HF=>?_
  refine tqC 3 13 ((.int .i64 0)) (by kernel_rfl) FINQ C0.o HF (by exact gg (ah rfl) _ rfl rfl) fun A β4 HF=>?_
  refine fm (i:=4) none (by kernel_rfl) rfl (ah rfl) rfl (fun K hK=>?_)
  refine wp_store_row 62 _ _ rfl (w.heap.size+1+1) _ (HF.get 5 rfl) (HF.get 3 rfl) 62 _ S0.o (by kernel_rfl) rfl (by simp[Value.oneCell']) ?_
  have C2:Hq ((wq.setRow (w.heap.size+1+1) #[.slice av n0 cv]).heap[(w.heap.size+1)]?=some (.cells #[.slice av n0 cv] 62 (0,0))):=hQQ (Fx C0.o (by omega))
  refine hK _ _ C2.o ?_
  clear hK K
  change eY _ _ _ _ _ _ _ A _
  refine tqM 5 15 2 rfl (.inr rfl) rfl (by kernel_rfl) FINQ C2.o HF fun A β5 HF=>?_
  exact el (by kernel_rfl) (FINE _ _ ⟨by rw[← β5,← β4,← β3,← β2,← β1]<;>rfl,rfl⟩)
section
variable {pg st:Int}{n:Nat}(H:cB pg st n)
include H
theorem Fy {us a k:Int}{G:Int→List Int}{ws:List Int}(P:PgW pg st G ws)(h:tkC us pg st ws a=some k):us≤a∧a<us+32 * pg:=by
 cases hx:gU (dp us pg st a ws) with
 |none=>unfold tkC at h;rw[hx] at h;cases h
 |some x =>
  apply Classical.byContradiction
  intro hn
  unfold dp at hx
  rw[if_neg hn] at hx
  cases hx
theorem Cr {us a k:Int}{G:Int→List Int}{ws:List Int}(P:PgW pg st G ws)(h:tkC us pg st ws a=some k):tL us pg st a ws=((a,szV k),true):=by
 have hin:=Fy H P h
 obtain⟨q,j,hq,k0,k4,hj,ek,hb,ha⟩:=(fg H P).1 h
 have hdiv:(a-us) / 32=q:=by rw[ha];exact jm us hq k0 k4 hj
 have hmod:(a-us) % 32=j * szV k:=by have:=Int.emod_def (a-us) 32;rw[hdiv] at this;omega
 have hf:lZ pg st q ws=q:=by
  have hp:=ag.1 hq
  unfold lZ
  rw[pW H.toPgIn hp.1 (by omega),if_neg (by omega)]
 have hsz:szV k≠0:=fun z=>by have:=vH.1 z;omega
 have hl:(iZ us pg st a ws).2=true:=by rw[tC,h]
 unfold tL
 rw[if_pos hin,hdiv,hmod]
 unfold zV
 rw[hf,if_neg (by omega),show aj pg st ws q-1=k by omega,if_neg hsz,Int.mul_emod_left,Int.sub_zero,hl,if_pos rfl]
theorem H5 {us p:Int}{ws:List Int}(hp:af pg p=true)(h6:aj pg st ws p=6):tL us pg st (us+32 * p) ws=((us+32 * p,32 * aL pg st ws p),true):=by
 have hb:=ag.1 hp
 have hdiv:(us+32 * p-us) / 32=p:=by omega
 have hf:lZ pg st p ws=p:=by
  unfold lZ
  rw[pW H.toPgIn hb.1 (by omega),if_neg (by omega)]
 unfold tL
 rw[if_pos (by omega),hdiv]
 unfold zV
 rw[hf,if_pos ⟨hb.1,h6⟩]
theorem qC {us p:Int}{G:Int→List Int}{ws:List Int}(P:PgW pg st G ws)(hp:af pg p=true)(h6:aj pg st ws p=6):tkC us pg st ws (us+32 * p)=none:=by
 cases h:tkC us pg st ws (us+32 * p) with
 |none=>rfl
 |some k =>
  exfalso
  obtain⟨q,j,hq,k0,k4,hj,ek,hb,ha⟩:=(fg H P).1 h
  have hdiv:(us+32 * p-us) / 32=q:=by rw[ha];exact jm us hq k0 k4 hj
  have:q=p:=by omega
  subst this
  omega
end
def qD (w:World)(g cap len:Nat)(P:Nat→List Int)(ws:List Int)(e:Ending)(w':World):Prop :=
 ∃v' its',e=.returned (.tuple #[.agg #[v'],.bool true])∧IR 0 w' v' its'∧Eqv P its'∧its'.length≤len+1∧Ws w' g cap ws∧Turned (fun b=>b=g) w w'
theorem Cs {c:Cfg}(R:c.Ok)(ws:List Int)(H:cB c.pg c.st ws.length)(hl:ws.length≤1000)(hww:(ws.length:Int)=c.words){r:Gh}{C:Nat→List Int}{O:List (Int×Int)}{ad:Int}{u k:Nat}{P:Nat→List Int}(F:FrI c.us c.pg c.st ws.length (bh c) r ws C (puO P++((ad,(k:Int))::O)))(g cap:Nat)(hu:(u:Int)<c.cp)(hk:k<5)(v:Value)(its:List It)(he:Eqv P its)(hlen:its.length≤10000)(w:World)(hv:IR 0 w v its)(hw:Ws w g cap ws):
 Calls Tryz.prog 30 #[.agg c.cells,.slice (some ⟨g,0,none⟩) ws.length cap,.int .i64 (u:Int),.agg #[v],.int .i64 ad] w (qD w g cap its.length (gvW c u P k ad ws).1 (gvW c u P k ad ws).2):=by
 obtain⟨G,PW⟩:=F.pgs
 have htk:tkC c.us c.pg c.st ws ad=some (k:Int):=(F.acc ad k).2 (by simp)
 have hin:=Fy H PW htk
 have FI:=hQQ (fun W (hW:Ws W g cap ws)=>by have:=vV R ws H hl PW.f g cap ad W hW;rw[Cr H PW htk] at this;exact this)
 have TK:=hQQ (fun W (hW:Ws W g cap ws)=>by have:=li R ws H hl PW.f g cap ad W hW;rw[tC,htk] at this;exact this)
 have PL:=hQQ (fun W=>jk c.wk c.cp c.pg c.st c.tr c.wt c.ck c.pr c.ca c.bi c.ba W ad R hin.1 hin.2)
 have PL:=hQQ (show ∀W,Calls Tryz.prog 65 #[.agg c.cells,.int .i64 ad] W (aF W (.tuple #[.int .i64 ((ad-c.us) / 32),.int .i64 ((ad-c.us) % 32),.bool true])) from PL.o)
 generalize (ad-c.us) / 32=q at PL
 generalize (ad-c.us) % 32=wd at PL
 have GV:=hQQ (fun W (hV:IR 0 W v its) (hW:Ws W g cap ws)=>Fp R ws H hl hww F g cap hu hk v its he hlen W hV hW)
 obtain⟨res,hres⟩:∃res,gvW c (u:Int) P (k:Int) ad ws=res:=⟨_,rfl⟩
 rw[hres] at GV⊢
 clear hin htk PW
 obtain⟨av,cv,rfl,_,_,_⟩:=hv.at
 obtain⟨n0,hn0⟩:∃n0,its.length=n0:=⟨_,rfl⟩
 rw[hn0] at hlen hv GV⊢
 obtain⟨w3,e3,hb1,hb2,hb3,m3,s3⟩:=lT w (.cells c.cells 27) (.cells #[.slice av n0 cv] 62) (.cells #[.slice none 0 0] 62)
 have MM:=hQQ m3
 have B1W:=hQQ hb1
 have B2:=hQQ hb2
 have B3:=hQQ hb3
 have HG:=hQQ hw.lt
 have HN0:=hQQ hn0
 have IR0:=hQQ (hv.more m3)
 have X0:=hQQ (hw.more m3)
 have HE:=hQQ he
 have y2:w3.cell? ⟨w.heap.size+1,0,none⟩=some (.slice av n0 cv):=by simp[World.cell?,hb2]
 have Y2:=hQQ y2
 clear hb1 hb2 hb3 m3 s3 hn0 hv hw he y2
 go_enter Tryz.func30,Tryz.ntmps30
 go_wp2_with (first|(refine aA rfl rfl rfl B1W.o (by kernel_rfl) ?_)|(refine aA rfl rfl rfl B1W.o (by kernel_rfl) ?_))
 clear e3
 refine(FI.o _ X0.o).mono ?_
 rintro e w4 ⟨rfl,h4⟩
 have M4:=hQQ h4
 have B14:=hQQ (h4.block B1W.o)
 clear h4
 go_wp2_with (first|(refine aA rfl rfl rfl B14.o (by kernel_rfl) ?_)|(refine aA rfl rfl rfl B14.o (by kernel_rfl) ?_))
 refine(PL.o _).mono ?_
 rintro e w5 ⟨rfl,h5⟩
 have M5:=hQQ (M4.o.trans h5)
 have B15:=hQQ (M5.o.block B1W.o)
 clear h5
 go_wp2_with (first|(refine aA rfl rfl rfl B15.o (by kernel_rfl) ?_)|(refine aA rfl rfl rfl B15.o (by kernel_rfl) ?_))
 refine(TK.o _ (X0.o.more M5.o)).mono ?_
 rintro e w6 ⟨rfl,h6⟩
 have M6:=hQQ (M5.o.trans h6)
 have B16:=hQQ (M6.o.block B1W.o)
 have y2:=M6.o.cell Y2.o
 clear h6
 go_wp2_with (first|(refine aA rfl rfl rfl B16.o (by kernel_rfl) ?_)|(refine aA rfl rfl rfl B16.o (by kernel_rfl) ?_))
 refine(GV.o _ (IR0.o.more M6.o) (X0.o.more M6.o)).mono ?_
 rintro e w7 ⟨v7,its7,rfl,hr7,he7,hl7,hx7,ht7⟩
 obtain⟨a7,c7,rfl,_,_,_⟩:=hr7.at
 obtain⟨n7,hn7⟩:∃n7,its7.length=n7:=⟨_,rfl⟩
 rw[hn7] at hr7 hl7⊢
 have T7:Turned (fun b=>b=g) w3 w7:=Turned.trans (turned_more M6.o) ht7
 have B37:=hQQ ((T7.block _ (ac B3.o) (fun q=>by have:=HG.o;omega)).trans B3.o)
 have t:Turned (fun b=>b=w.heap.size+1+1) w7 (w7.setRow (w.heap.size+1+1) #[.slice a7 n7 c7]):=Turned.setRow (Turned.refl _ w7) _ _ (fun _=>rfl)
 have FIN:Hq (qD w g cap n0 res.1 res.2 (.returned (.tuple #[.agg #[.slice a7 n7 c7],.bool true])) (w7.setRow (w.heap.size+1+1) #[.slice a7 n7 c7])):=hQQ ⟨_,its7,rfl,hr7.keep t (fun k q=>by subst q;exact⟨_,_,_,B37.o,by decide⟩),he7,by omega,hx7.keep t (by have:=HG.o;omega),aq (F':=fun b=>b=g∨b=w.heap.size+1+1) (turned_more MM.o) (Turned.trans (T7.mono (fun _ _ q=>Or.inl q)) (t.mono (fun _ _ q=>Or.inr q))) (fun k q=>by rcases q with q|q;exact .inl q;exact .inr (by omega))⟩
 clear hr7 hl7 hx7 ht7 T7 t he7 hn7
 go_wp2_with (refine wpList_store_row rfl 62 _ _ rfl _ _ rfl rfl 62 _ B37.o (by kernel_rfl) rfl (by simp[Value.oneCell']) ?_)
 refine bodyPost_ret (v:=.tuple #[.agg #[.slice a7 n7 c7],.bool true]) (ls Tryz.results30 _ _ _ 62 _ (0,0) _ rfl (setRow_heap _ _ _ _ _ _ B37.o) Tryz.underlying62 rfl (by kernel_rfl)) rfl FIN.o
theorem Ct {c:Cfg}(R:c.Ok)(ws:List Int)(H:cB c.pg c.st ws.length)(hl:ws.length≤1000)(hww:(ws.length:Int)=c.words){r:Gh}{C:Nat→List Int}{O:List (Int×Int)}{p:Int}{u:Nat}{P:Nat→List Int}(F:FrI c.us c.pg c.st ws.length (bh c) r ws C O)(hp:af c.pg p=true)(h6:aj c.pg c.st ws p=6)(g cap:Nat)(v:Value)(its:List It)(he:Eqv P its)(hlen:its.length≤10000)(w:World)(hv:IR 0 w v its)(hw:Ws w g cap ws):
 Calls Tryz.prog 30 #[.agg c.cells,.slice (some ⟨g,0,none⟩) ws.length cap,.int .i64 (u:Int),.agg #[v],.int .i64 (c.us+32 * p)] w (qD w g cap its.length P (dQ c.pg c.st p ws).2):=by
 obtain⟨G,PW⟩:=F.pgs
 have hb:=ag.1 hp
 have htk:tkC c.us c.pg c.st ws (c.us+32 * p)=none:=qC H PW hp h6
 have FI:=hQQ (fun W (hW:Ws W g cap ws)=>by have:=vV R ws H hl PW.f g cap (c.us+32 * p) W hW;rw[H5 H hp h6] at this;exact this)
 have TK:=hQQ (fun W (hW:Ws W g cap ws)=>by have:=li R ws H hl PW.f g cap (c.us+32 * p) W hW;rw[tC,htk] at this;exact this)
 have PL:=hQQ (fun W=>jk c.wk c.cp c.pg c.st c.tr c.wt c.ck c.pr c.ca c.bi c.ba W (c.us+32 * p) R (show c.us≤c.us+32 * p by omega) (show c.us+32 * p<c.us+32 * c.pg by omega))
 have PL:=hQQ (show ∀W,Calls Tryz.prog 65 #[.agg c.cells,.int .i64 (c.us+32 * p)] W (aF W (.tuple #[.int .i64 p,.int .i64 ((c.us+32 * p-c.us) % 32),.bool true])) from by have:=PL.o;rw[show bH c.cp c.pg c.st c.ca c.bi=c.us from rfl,show(c.us+32 * p-c.us) / 32=p by omega] at this;exact this)
 generalize (c.us+32 * p-c.us) % 32=wd at PL
 have DR:=hQQ (fun W (hW:Ws W g cap ws)=>zH R ws H.toPgIn hl PW.f.wf g cap p W hW)
 generalize (dQ c.pg c.st p ws).1=dn at DR
 generalize (dQ c.pg c.st p ws).2=dw at DR⊢
 generalize c.us+32 * p=ad at FI TK PL⊢
 generalize 32 * aL c.pg c.st ws p=sz at FI
 clear htk PW
 obtain⟨av,cv,rfl,_,_,_⟩:=hv.at
 obtain⟨n0,hn0⟩:∃n0,its.length=n0:=⟨_,rfl⟩
 rw[hn0] at hlen hv  ⊢
 obtain⟨w3,e3,hb1,hb2,hb3,m3,s3⟩:=lT w (.cells c.cells 27) (.cells #[.slice av n0 cv] 62) (.cells #[.slice none 0 0] 62)
 have MM:=hQQ m3
 have B1W:=hQQ hb1
 have B2:=hQQ hb2
 have B3:=hQQ hb3
 have HG:=hQQ hw.lt
 have HN0:=hQQ hn0
 have IR0:=hQQ (hv.more m3)
 have X0:=hQQ (hw.more m3)
 have HE:=hQQ he
 have y2:w3.cell? ⟨w.heap.size+1,0,none⟩=some (.slice av n0 cv):=by simp[World.cell?,hb2]
 have Y2:=hQQ y2
 clear hb1 hb2 hb3 m3 s3 hn0 hv hw he y2
 go_enter Tryz.func30,Tryz.ntmps30
 go_wp2_with (first|(refine aA rfl rfl rfl B1W.o (by kernel_rfl) ?_)|(refine aA rfl rfl rfl B1W.o (by kernel_rfl) ?_))
 clear e3
 refine(FI.o _ X0.o).mono ?_
 rintro e w4 ⟨rfl,h4⟩
 have M4:=hQQ h4
 have B14:=hQQ (h4.block B1W.o)
 clear h4
 go_wp2_with (first|(refine aA rfl rfl rfl B14.o (by kernel_rfl) ?_)|(refine aA rfl rfl rfl B14.o (by kernel_rfl) ?_))
 refine(PL.o _).mono ?_
 rintro e w5 ⟨rfl,h5⟩
 have M5:=hQQ (M4.o.trans h5)
 have B15:=hQQ (M5.o.block B1W.o)
 clear h5
 go_wp2_with (first|(refine aA rfl rfl rfl B15.o (by kernel_rfl) ?_)|(refine aA rfl rfl rfl B15.o (by kernel_rfl) ?_))
 refine(TK.o _ (X0.o.more M5.o)).mono ?_
 rintro e w6 ⟨rfl,h6⟩
 have M6:=hQQ (M5.o.trans h6)
 have B16:=hQQ (M6.o.block B1W.o)
 have y2:=M6.o.cell Y2.o
 clear h6
 go_wp2_with (first|(refine aA rfl rfl rfl B16.o (by kernel_rfl) ?_)|(refine aA rfl rfl rfl B16.o (by kernel_rfl) ?_))
 refine(DR.o _ (X0.o.more M6.o)).mono ?_
 rintro e w7 ⟨rfl,hx7,ht7⟩
 have T7:Turned (fun b=>b=g) w3 w7:=Turned.trans (turned_more M6.o) ht7
 have B27:=hQQ ((T7.block _ (ac B2.o) (fun q=>by have:=HG.o;omega)).trans B2.o)
 have B37:=hQQ ((T7.block _ (ac B3.o) (fun q=>by have:=HG.o;omega)).trans B3.o)
 have t:Turned (fun b=>b=w.heap.size+1+1) w7 (w7.setRow (w.heap.size+1+1) #[.slice av n0 cv]):=Turned.setRow (Turned.refl _ w7) _ _ (fun _=>rfl)
 have y2:w7.cell? ⟨w.heap.size+1,0,none⟩=some (.slice av n0 cv):=by simp[World.cell?,B27.o]
 have FIN:Hq (qD w g cap n0 P dw (.returned (.tuple #[.agg #[.slice av n0 cv],.bool true])) (w7.setRow (w.heap.size+1+1) #[.slice av n0 cv])):=hQQ ⟨_,its,rfl,(jp IR0.o X0.o T7).keep t (fun k q=>by subst q;exact⟨_,_,_,B37.o,by decide⟩),HE.o,by have:=HN0.o;omega,hx7.keep t (by have:=HG.o;omega),aq (F':=fun b=>b=g∨b=w.heap.size+1+1) (turned_more MM.o) (Turned.trans (T7.mono (fun _ _ q=>Or.inl q)) (t.mono (fun _ _ q=>Or.inr q))) (fun k q=>by rcases q with q|q;exact .inl q;exact .inr (by omega))⟩
 clear hx7 ht7 T7 t
 go_wp2_with (refine wpList_store_row rfl 62 _ _ rfl _ _ rfl rfl 62 _ B37.o (by kernel_rfl) rfl (by simp[Value.oneCell']) ?_)
 refine bodyPost_ret (v:=.tuple #[.agg #[.slice av n0 cv],.bool true]) (ls Tryz.results30 _ _ _ 62 _ (0,0) _ rfl (setRow_heap _ _ _ _ _ _ B37.o) Tryz.underlying62 rfl (by kernel_rfl)) rfl FIN.o
theorem Jr (k:Int):szV k≤16:=by
 unfold szV
 (repeat' split)<;>omega
def frV (c:Cfg)(u:Int)(P:Nat→List Int)(ad:Int)(ws:List Int):(Nat→List Int)×List Int :=
 match tkC c.us c.pg c.st ws ad with
 |some k=>gvW c u P k ad ws
 |none=>(P,(dQ c.pg c.st ((ad-c.us) / 32) ws).2)
structure LSt where
 P:Nat→List Int
 all:List Int
def qY (s:LSt)(i:Nat):Int:=s.all.getD i 0
theorem wC:∀(l:List Int) (i:Nat),i<l.length→l.Perm (l.getD i 0::l.eraseIdx i)
 |x::l,0,_=>by simp
 |x::l,i+1,h=>by
  have:=wC l i (by simpa using h)
  simp only[List.eraseIdx_cons_succ]
  rw[show(x::l).getD (i+1) 0=l.getD i 0 by simp[List.getD]]
  exact(List.Perm.cons x this).trans (List.Perm.swap _ _ _)
def gm (c:Cfg)(kind n al:Int)(i:Nat)(s:LSt)(ws:List Int):LSt×List Int :=
 if kind<3 then
  if(alW c 0 s.P n al ws).1.2≠0 then(s,(alW c 0 s.P n al ws).2)
  else(⟨(alW c 0 s.P n al ws).1.1.2,s.all++ [(alW c 0 s.P n al ws).1.1.1.1]⟩,if kind≠2 then(mo (aX c (alW c 0 s.P n al ws).1.1.1.1) n (alW c 0 s.P n al ws).2).2 else(alW c 0 s.P n al ws).2)
 else if s.all= [] then(s,ws)
 else if kind=3 then(⟨(frV c 0 s.P (qY s i) (jq (aX c (qY s i)) ws).2).1,s.all.eraseIdx i⟩,(frV c 0 s.P (qY s i) (jq (aX c (qY s i)) ws).2).2)
 else(s,(jq (aX c (qY s i)) ws).2)
structure LdI (c:Cfg)(n:Nat)(s:LSt)(ws:List Int)(r:Gh)(O:List (Int×Int))(RL:List Int):Prop where
 fri:∃C,FrI c.us c.pg c.st n (bh c) r ws C (puO s.P++O)
 lim:∀j,j<5→((s.P j).length:Int)≤c.pr
 nd:RL.Nodup
 run:∀p,p∈RL↔af c.pg p=true∧r.r p≠0
 all:s.all.Perm (O.map (·.1)++RL.map (fun p=>c.us+32 * p))
 top:r.top=cF c.cp c.pg c.st c.ca c.bi
 mark:∀a,c.us≤a→a<c.words→r.z (aX c a)=0∨(1≤r.z (aX c a)∧((∃k,(a,k)∈O∧r.z (aX c a)≤szV k+1)∨∃p,p∈RL∧a=c.us+32 * p∧r.z (aX c a)≤32 * r.r p+1))
theorem ns {c:Cfg}{a:Int}(h0:c.us≤a)(h1:a<c.words):aX c a=cF c.cp c.pg c.st c.ca c.bi+a-c.us:=if_pos ⟨h0,h1⟩
section
variable {c:Cfg}(R:c.Ok){n:Nat}(H:cB c.pg c.st n)(hw:(n:Int)=c.words)(hn:n≤1000)
include R H hw hn
theorem z6 (u:Int){P:Nat→List Int}(hP:∀j,j<5→((P j).length:Int)≤c.pr){r:Gh}{ws:List Int}{C:Nat→List Int}{O:List (Int×Int)}(h:FrI c.us c.pg c.st n (bh c) r ws C (puO P++O))(m al:Int):
 (∃e,e≠0∧alW c u P m al ws=((((0,0),P),e),ws)) ∨
 (∃a k P' X C',alW c u P m al ws=((((a,szV k),P'),0),X)∧0≤k∧k≤4∧ja m al=false∧m≤szV k∧szV k % al=0∧FrI c.us c.pg c.st n (bh c) r X C' (puO P'++((a,k)::O))∧∀j,j<5→((P' j).length:Int)≤c.pr) ∨
 (∃p q X,alW c u P m al ws=((((c.us+32 * p,32 * q),P),0),X)∧af c.pg p=true∧aj c.pg c.st ws p=0∧1≤q∧p+q≤c.pg∧ja m al=false∧m≤32 * q∧FrI c.us c.pg c.st n (bh c) (B0 r p q) X C (puO P++O)):=by
 unfold alW
 cases hb:ja m al with
 |true =>
  rw[if_pos (by simp[nq,hb])]
  exact .inl ⟨_,by simp[nq,hb],rfl⟩
 |false =>
  cases hs:fP m al with
  |true =>
   obtain⟨c0,c4,_,_,f5,f6,_,fe⟩:=si hb hs
   rw[if_neg (by simp[fe]),if_pos c0]
   rcases Hr R H hw (by omega) (u:=u) (c:=fY m al) P hP h with e|⟨a,P',X,C',e,h',hl⟩
   ·rw[e];exact .inl ⟨6,by decide,by simp⟩
   ·rw[e];exact .inr (.inl ⟨a,fY m al,P',X,C',by simp,c0,c4,rfl,f5,f6,h',hl⟩)
  |false =>
   obtain⟨c0,f1,f2,f3,f4,_,_,fe⟩:=zY hb hs
   rw[if_neg (by simp[fe]),if_neg (by omega)]
   by_cases hf:dD c.pg c.st (iO m al) (mq m al) ws<0
   ·rw[if_pos hf];exact .inl ⟨6,by decide,rfl⟩
   ·rw[if_neg hf]
    have pg1:=R.pg1;have pg2:=R.pg2
    obtain⟨p,hp⟩:∃p,dD c.pg c.st (iO m al) (mq m al) ws=p:=⟨_,rfl⟩
    obtain⟨_,_,_,hv⟩:=vR (by omega) hp (by omega)
    rw[hp] at hf⊢
    obtain⟨t0,t1,t2⟩:=bo.1 (fa.1 hv).1
    obtain⟨X,e,h'⟩:=h.run H (hH R hw) (by omega) (by unfold W64;omega) hv
    rw[e]
    exact .inr (.inr ⟨p,iO m al,X,rfl,ag.2 (by omega),(fa.1 hv).2 p (by omega) (by omega),f1,by omega,rfl,f2,h'⟩)
theorem z8 {s:LSt}{ws:List Int}{r:Gh}{O:List (Int×Int)}{RL:List Int}(h:LdI c n s ws r O RL){x:Int}(hx:x∈s.all):c.us≤x∧x<c.words:=by
 have e:c.words=c.us+32 * c.pg:=rfl
 obtain⟨C,hF⟩:=h.fri
 obtain⟨G,PW⟩:=hF.pgs
 rcases List.mem_append.1 (h.all.mem_iff.1 hx) with q|q
 ·obtain⟨⟨y,k⟩,hm,rfl⟩:=List.mem_map.1 q
  have:=Fy H PW ((hF.acc y k).2 (by simp[hm]))
  omega
 ·obtain⟨p,hp,rfl⟩:=List.mem_map.1 q
  have:=ag.1 ((h.run p).1 hp).1
  omega
theorem Fz {s:LSt}{ws:List Int}{r:Gh}{O:List (Int×Int)}{RL:List Int}(h:LdI c n s ws r O RL){x z:Int}(hx:c.us≤x∧x<c.words)(h64:W64 z)
 (hz:z=0∨(1≤z∧((∃k,(x,k)∈O∧z≤szV k+1)∨∃p,p∈RL∧x=c.us+32 * p∧z≤32 * r.r p+1))):LdI c n s (ws.set (aX c x).toNat z) (Fg r (aX c x) z) O RL:=by
 have hl:=ns hx.1 hx.2
 have hb:=kO R x
 obtain⟨C,hF⟩:=h.fri
 refine⟨⟨C,hF.mark H (hH R hw) (by omega) (by rw[h.top];omega) (by omega) h64⟩,h.lim,h.nd,h.run,h.all,h.top,fun a a0 a1=>?_⟩
 have ha:=ns a0 a1
 show(if aX c a=aX c x then z else r.z (aX c a))=0∨_
 by_cases e:a=x
 ·subst e
  simpa [Fg] using hz
 ·have ne:¬aX c a=aX c x:=by omega
  simpa [Fg,ne] using h.mark a a0 a1
theorem wD {s:LSt}{ws:List Int}{r:Gh}{O:List (Int×Int)}{RL:List Int}(h:LdI c n s ws r O RL){x:Int}(hx:c.us≤x∧x<c.words):
 ∃r',LdI c n s (jq (aX c x) ws).2 r' O RL∧r'.z (aX c x)=0∧r'.r=r.r:=by
 have hl:=ns hx.1 hx.2
 have hb:=kO R x
 have hlv:=jV R
 obtain⟨C,hF⟩:=h.fri
 have hv:wAt ws (aX c x)=r.z (aX c x):=hF.rest _ (by rw[h.top];omega)
 have hc:jq (aX c x) ws=if aX c x=0∨r.z (aX c x)<1∨1048577<r.z (aX c x) then(false,ws) else(true,ws.set (aX c x).toNat 0):=by
  unfold jq dV
  rw[hv]
  by_cases q:aX c x=0∨r.z (aX c x)<1∨1048577<r.z (aX c x)
  ·rw[if_pos q,if_pos q];rfl
  ·rw[if_neg q,if_neg q];rfl
 rw[hc]
 rcases h.mark x hx.1 hx.2 with z|⟨z1,z2⟩
 ·rw[if_pos (.inr (.inl (by omega)))]
  exact⟨r,h,z,rfl⟩
 ·have zb:r.z (aX c x)≤1048577:=by
   rcases z2 with⟨k,_,q⟩|⟨p,hp,_,q⟩
   ·have:=Jr k;omega
   ·obtain⟨hpg,hr⟩:=(h.run p).1 hp
    obtain⟨G,PW⟩:=hF.pgs
    have h6:aj c.pg c.st ws p=6:=Classical.byContradiction fun q=>hr ((hF.runs p hpg).2 q)
    have h7:=(hF.runs p hpg).1 h6
    have:=PW.f.wf.run p h6
    have:=ag.1 hpg
    have:=R.pg2
    omega
  have hne:¬(aX c x=0∨r.z (aX c x)<1∨1048577<r.z (aX c x)):=by omega
  rw[if_neg hne]
  exact⟨_,Fz R H hw hn h hx (by unfold W64;omega) (.inl rfl),by simp[Fg],rfl⟩
theorem z9 {s:LSt}{ws:List Int}{r:Gh}{O:List (Int×Int)}{RL:List Int}(h:LdI c n s ws r O RL){x m:Int}(hx:c.us≤x∧x<c.words)(m0:0≤m)(m1:m≤1048576)
 (hz:(∃k,(x,k)∈O∧m≤szV k)∨∃p,p∈RL∧x=c.us+32 * p∧m≤32 * r.r p):∃r',LdI c n s (mo (aX c x) m ws).2 r' O RL:=by
 have hl:=ns hx.1 hx.2
 have hlv:=jV R
 have hm:(mo (aX c x) m ws).2=ws.set (aX c x).toNat (m+1):=by
  unfold mo
  rw[if_neg (by omega)]
 rw[hm]
 refine⟨_,Fz R H hw hn h hx (by unfold W64;omega) (.inr ⟨by omega,?_⟩)⟩
 rcases hz with⟨k,a,b⟩|⟨p,a,b,e⟩
 ·exact .inl ⟨k,a,by omega⟩
 ·exact .inr ⟨p,a,b,by omega⟩
theorem tQ {s:LSt}{ws:List Int}{r:Gh}{O:List (Int×Int)}{RL:List Int}(h:LdI c n s ws r O RL)(kind m al:Int){i:Nat}(hi:s.all≠ []→i<s.all.length):
 ∃r' O' RL',LdI c n (gm c kind m al i s ws).1 (gm c kind m al i s ws).2 r' O' RL':=by
 have ew:c.words=c.us+32 * c.pg:=rfl
 have pg2:=R.pg2
 unfold gm
 by_cases hk:kind<3
 ·rw[if_pos hk]
  obtain⟨C,hF⟩:=h.fri
  rcases z6 R H hw hn 0 h.lim hF m al with⟨e,e0,ea⟩|⟨a,k,P',X,C',ea,k0,k4,hb,hm,_,hF',hl'⟩|⟨p,q,X,ea,hp,hk0,q1,q2,hb,hm,hF'⟩
  ·rw[ea,if_pos e0];exact⟨r,O,RL,h⟩
  ·rw[ea,if_neg (by simp)]
   have h1:LdI c n ⟨P',s.all++ [a]⟩ X r ((a,k)::O) RL:=⟨⟨C',hF'⟩,hl',h.nd,h.run,by
    refine(List.perm_append_comm (l₁:=s.all) (l₂:=[a])).trans ?_
    exact List.Perm.cons a h.all,h.top,fun b b0 b1=>by
    rcases h.mark b b0 b1 with z|⟨z1,z2⟩
    ·exact .inl z
    ·refine .inr ⟨z1,?_⟩
     rcases z2 with⟨k2,q1,q2⟩|z2
     ·exact .inl ⟨k2,List.mem_cons_of_mem _ q1,q2⟩
     ·exact .inr z2⟩
   show ∃r' O' RL',LdI c n ⟨P',s.all++ [a]⟩ (if kind≠2 then(mo (aX c a) m X).2 else X) r' O' RL'
   by_cases k2:kind≠2
   ·rw[if_pos k2]
    have m0:0≤m:=by simp[ja] at hb;exact hb.1
    have m1:=Jr k
    obtain⟨r',h2⟩:=z9 R H hw hn h1 (x:=a) (z8 R H hw hn h1 (by simp)) m0 (by omega) (.inl ⟨k,by simp,hm⟩)
    exact⟨r',_,_,h2⟩
   ·rw[if_neg k2];exact⟨r,_,_,h1⟩
  ·rw[ea,if_neg (by simp)]
   have hr0:r.r p=0:=(hF.runs p hp).2 (by rw[hk0];omega)
   have hnp:p∉RL:=fun z=>((h.run p).1 z).2 hr0
   have h1:LdI c n ⟨s.P,s.all++ [c.us+32 * p]⟩ X (B0 r p q) O (p::RL):=⟨⟨C,hF'⟩,h.lim,List.nodup_cons.2 ⟨hnp,h.nd⟩,fun y=>by
    rw[List.mem_cons]
    by_cases e:y=p
    ·subst e;rw[jo];exact⟨fun _=>⟨hp,by omega⟩,fun _=> .inl rfl⟩
    ·rw[gD r q e,←h.run y];exact⟨fun z=>z.resolve_left e,.inr⟩,by
    refine(List.perm_append_comm (l₁:=s.all) (l₂:=[c.us+32 * p])).trans ?_
    exact(List.Perm.cons _ h.all).trans List.perm_middle.symm,h.top,fun b b0 b1=>by
    rcases h.mark b b0 b1 with z|⟨z1,z2⟩
    ·exact .inl z
    ·refine .inr ⟨z1,?_⟩
     rcases z2 with z2|⟨y,y1,y2,y3⟩
     ·exact .inl z2
     ·refine .inr ⟨y,List.mem_cons_of_mem _ y1,y2,?_⟩
      rw[gD r q (fun e:y=p=>hnp (by rw[←e];exact y1))];exact y3⟩
   show ∃r' O' RL',LdI c n ⟨s.P,s.all++ [c.us+32 * p]⟩ (if kind≠2 then(mo (aX c (c.us+32 * p)) m X).2 else X) r' O' RL'
   by_cases k2:kind≠2
   ·rw[if_pos k2]
    have m0:0≤m:=by simp[ja] at hb;exact hb.1
    have:=ag.1 hp
    obtain⟨r',h2⟩:=z9 R H hw hn h1 (x:=c.us+32 * p) (z8 R H hw hn h1 (by simp)) m0 (by omega) (.inr ⟨p,by simp,rfl,by rw[jo];exact hm⟩)
    exact⟨r',_,_,h2⟩
   ·rw[if_neg k2];exact⟨_,_,_,h1⟩
 ·rw[if_neg hk]
  by_cases ha:s.all= []
  ·rw[if_pos ha];exact⟨r,O,RL,h⟩
  ·rw[if_neg ha]
   have hi:=hi ha
   obtain⟨x,hx⟩:∃x,qY s i=x:=⟨_,rfl⟩
   have hxm:x∈s.all:=by
    rw[←hx];unfold qY
    rw[show s.all.getD i 0=s.all[i] by simp[List.getD,hi]]
    exact List.getElem_mem hi
   have hp:s.all.Perm (x::s.all.eraseIdx i):=by
    rw[←hx];exact wC s.all i hi
   rw[hx]
   have hin:=z8 R H hw hn h hxm
   obtain⟨r1,h1,z1,e1⟩:=wD R H hw hn h hin
   obtain⟨w1,hw1⟩:∃w1,(jq (aX c x) ws).2=w1:=⟨_,rfl⟩
   rw[hw1] at h1⊢
   by_cases k3:kind=3
   ·rw[if_pos k3]
    obtain⟨C,hF⟩:=h1.fri
    obtain⟨G,PW⟩:=hF.pgs
    unfold frV
    rcases List.mem_append.1 (h.all.mem_iff.1 hxm) with q|q
    ·obtain⟨⟨y,k⟩,hm,hy⟩:=List.mem_map.1 q
     have hy:y=x:=hy
     subst hy
     obtain⟨O1,O2,eO⟩:=List.append_of_mem hm
     subst eO
     have tk:tkC c.us c.pg c.st w1 y=some k:=(hF.acc y k).2 (by simp)
     rw[tk]
     have pm:(O1++(y,k)::O2).Perm ((y,k)::(O1++O2)):=List.perm_middle
     have hF2:FrI c.us c.pg c.st n (bh c) r1 w1 C (puO s.P++((y,k)::(O1++O2))):=hF.perm (pm.append_left _)
     obtain⟨P',X,C',eg,hF',hl'⟩:=Hs R H hw (by omega) (u:=0) (a:=y) ⟨by omega,by have:=R.cp1;omega⟩ s.P h.lim hF2
     show ∃r' O' RL',LdI c n ⟨(gvW c 0 s.P k y w1).1,s.all.eraseIdx i⟩ (gvW c 0 s.P k y w1).2 r' O' RL'
     rw[eg]
     refine⟨r1,O1++O2,RL,⟨C',hF'⟩,hl',h1.nd,h1.run,?_,h1.top,fun b b0 b1=>?_⟩
     ·have p1:=hp.symm.trans (h.all.trans ((pm.map _).append_right _))
      exact List.Perm.cons_inv p1
     ·rcases h1.mark b b0 b1 with z|⟨z2,z3⟩
      ·exact .inl z
      ·by_cases e:b=y
       ·subst e;omega
       ·refine .inr ⟨z2,?_⟩
        rcases z3 with⟨k2,q1,q2⟩|z3
        ·refine .inl ⟨k2,?_,q2⟩
         rcases List.mem_cons.1 (pm.mem_iff.1 q1) with q3|q3
         ·exact absurd (congrArg Prod.fst q3) e
         ·exact q3
        ·exact .inr z3
    ·obtain⟨p,hpm,hy⟩:=List.mem_map.1 q
     have hy:c.us+32 * p=x:=hy
     subst hy
     obtain⟨hpg,hr⟩:=(h1.run p).1 hpm
     have h6:aj c.pg c.st w1 p=6:=Classical.byContradiction fun q=>hr ((hF.runs p hpg).2 q)
     rw[qC H PW hpg h6]
     show ∃r' O' RL',LdI c n ⟨s.P,s.all.eraseIdx i⟩ (dQ c.pg c.st ((c.us+32 * p-c.us) / 32) w1).2 r' O' RL'
     rw[show(c.us+32 * p-c.us) / 32=p by omega]
     obtain⟨X,ed,hF'⟩:=hF.drop H (hH R hw) (by omega) hpg h6
     rw[ed]
     have pm:RL.Perm (p::RL.erase p):=List.perm_cons_erase hpm
     have hnd:=h1.nd
     refine⟨_,O,RL.erase p,⟨C,hF'⟩,h.lim,hnd.erase p,fun y=>?_,?_,h1.top,fun b b0 b1=>?_⟩
     ·rw[hnd.mem_erase_iff]
      by_cases e:y=p
      ·subst e;rw[jo];exact⟨fun z=>absurd rfl z.1,fun z=>absurd rfl z.2⟩
      ·rw[gD r1 0 e,←h1.run y];exact⟨fun z=>z.2,fun z=>⟨e,z⟩⟩
     ·have p1:=hp.symm.trans (h.all.trans ((pm.map _).append_left _))
      exact List.Perm.cons_inv (p1.trans List.perm_middle)
     ·rcases h1.mark b b0 b1 with z|⟨z2,z3⟩
      ·exact .inl z
      ·by_cases e:b=c.us+32 * p
       ·subst e;omega
       ·refine .inr ⟨z2,?_⟩
        rcases z3 with z3|⟨y,y1,y2,y3⟩
        ·exact .inl z3
        ·have ne:y≠p:=fun q=>e (by rw[y2,q])
         refine .inr ⟨y,hnd.mem_erase_iff.2 ⟨ne,y1⟩,y2,?_⟩
         rw[gD r1 0 ne];exact y3
   ·rw[if_neg k3];exact⟨r1,O,RL,h1⟩
end
def du (a b:TS):TS:=⟨a.bl+b.bl,a.ak+b.ak,a.wo+b.wo,a.ke+b.ke,a.op+b.op,a.ma+b.ma,a.us+b.us⟩
def wrT (a:TS):TS:=⟨wrap64 a.bl,wrap64 a.ak,wrap64 a.wo,wrap64 a.ke,wrap64 a.op,wrap64 a.ma,wrap64 a.us⟩
def opZ (z:Int):TS:=⟨0,0,0,0,z,0,0⟩
theorem Kn (x y:Int):wrap64 (wrap64 x+y)=wrap64 (x+y):=by unfold wrap64;omega
theorem FA (x:Int):wrap64 (wrap64 x)=wrap64 x:=by unfold wrap64;omega
theorem IH (a:TS):wrT (wrT a)=wrT a:=by simp only[wrT,FA]
theorem yB (a b:TS):eF a b=wrT (du a b):=rfl
theorem iP (a b c:TS):du (du a b) c=du a (du b c):=by simp only[du,Int.add_assoc]
theorem H6 (a b c:TS):du (du a b) c=du (du a c) b:=by
 simp only[du,TS.mk.injEq]
 exact⟨Int.add_right_comm ..,Int.add_right_comm ..,Int.add_right_comm ..,Int.add_right_comm ..,Int.add_right_comm ..,Int.add_right_comm ..,Int.add_right_comm ..⟩
theorem w_0:wrap64 0=0:=by kernel_rfl
theorem w_1:wrap64 1=1:=by kernel_rfl
theorem lu (a:TS):du a noT=a:=by simp[du,noT]
theorem oy (a:TS):du noT a=a:=by simp[du,noT]
theorem Aa (a b:TS):wrT (du (wrT a) b)=wrT (du a b):=by simp only[wrT,du,Kn]
section
variable (c:Cfg)(a z:Int)(ws:List Int)
def tkI (i:Int):TS:=gk c (wrap64 (a+wrap64 (z * i))) z ws
def oZ:List Int→TS
 | []=>noT
 |i::l=>du (tkI c a z ws i) (oZ l)
def tR (x i:Int):TS:=if cK x i then tkI c a z ws i else opZ z
def qZ (x:Int):Nat→Int→TS
 | 0,_=>noT
 |m+1,i=>du (tR c a z ws x i) (qZ x m (i+1))
theorem FG:∀(l:List Int) (s:TS),wrT s=s→vZ c a z ws l s=wrT (du s (oZ c a z ws l))
 | [],s,h=>by
   show s=_
   rw[show oZ c a z ws []=noT from rfl,lu,h]
 |i::l,s,h=>by
  show vZ c a z ws l (eF s (tkI c a z ws i))=_
  rw[FG l _ (by rw[yB,IH]),yB,Aa,iP]
  rfl
theorem tS (x:Int):∀(m:Nat) (i:Int) (s:TS),wrT s=s→Hw c a z x ws m i s=wrT (du s (qZ c a z ws x m i))
 | 0,i,s,h=>by
   show s=_
   rw[show qZ c a z ws x 0 i=noT from rfl,lu,h]
 |m+1,i,s,h=>by
  have e:(if cK x i then eF s (gk c (wrap64 (a+wrap64 (i * z))) z ws) else { s with op:=wrap64 (s.op+z) })=wrT (du s (tR c a z ws x i)):=by
   unfold tR
   cases cK x i with
   |true=>rw[if_pos rfl,if_pos rfl,Int.mul_comm i z];rfl
   |false =>
    rw[if_neg (by simp),if_neg (by simp)]
    have h':=h
    simp only[wrT] at h'
    cases s
    simp only[TS.mk.injEq] at h'
    simp only[wrT,du,opZ,Int.add_zero,TS.mk.injEq,h',and_true,true_and]
  show Hw c a z x ws m (i+1) (if cK x i then eF s (gk c (wrap64 (a+wrap64 (i * z))) z ws) else { s with op:=wrap64 (s.op+z) })=_
  rw[e,tS x m (i+1) _ (IH _),Aa,iP]
  rfl
theorem Cu (l:List Int)(i:Int):oZ c a z ws (l++ [i])=du (oZ c a z ws l) (tkI c a z ws i):=by
 induction l with
 |nil=>show du _ noT=du noT _;rw[lu,oy]
 |cons j l ih=>show du _ (oZ c a z ws (l++ [i]))=du (du _ _) _;rw[ih,iP]
theorem sn (x:Int):∀(m:Nat) (i:Int),qZ c a z ws x (m+1) i=du (qZ c a z ws x m i) (tR c a z ws x (i+m))
 | 0,i=>by
   show du _ noT=du noT _
   rw[lu,oy,show(i+((0:Nat):Int))=i by simp]
 |m+1,i=>by
  show du (tR c a z ws x i) (qZ c a z ws x (m+1) (i+1))=du (du (tR c a z ws x i) (qZ c a z ws x m (i+1))) _
  rw[sn x m (i+1),iP,show i+1+(m:Int)=i+((m+1:Nat):Int) by omega]
theorem Ab (x:Int):∀m:Nat,m≤32→qZ c a z ws x m 0=du (oZ c a z ws ((onN x m).map (fun k:Nat=>(k:Int)))) (opZ (z * ((m:Int)-(onN x m).length)))
 | 0,_=>by
   rw[Ee]
   show noT=du noT (opZ (z * ((0:Nat)-((0:Nat):Int))))
   rw[oy]
   simp[opZ,noT]
 |m+1,h=>by
  have hb:cK x (0+(m:Int))=dm x m:=by
   unfold cK inR
   rw[show(0+(m:Int)).toNat=m by omega,decide_eq_true (by omega),Bool.true_and]
  rw[sn,Ab x m (by omega),ky]
  unfold tR
  rw[hb]
  cases dm x m with
  |true =>
   simp only[if_true,List.map_append,List.map_cons,List.map_nil,Cu,List.length_append,List.length_cons,List.length_nil]
   rw[show(((m+1:Nat):Int))-(((onN x m).length+(0+1):Nat):Int)=(m:Int)-(onN x m).length by omega,show(0+(m:Int))=(m:Int) by omega]
   exact H6 _ _ _
  |false =>
   simp only[Bool.false_eq_true,if_false,List.append_nil]
   rw[iP,show(((m+1:Nat):Int))-((onN x m).length:Int)=((m:Int)-(onN x m).length)+1 by omega,Int.mul_add,Int.mul_one]
   congr 1
theorem wE (ad n:Int):(gk c ad n ws).ma=0∧(gk c ad n ws).us=0∧(gk c ad n ws).op=0:=by
 unfold gk vX
 split<;>simp
theorem Cv (l:List Int):(oZ c a z ws l).ma=0∧(oZ c a z ws l).us=0∧(oZ c a z ws l).op=0:=by
 induction l with
 |nil=>exact⟨rfl,rfl,rfl⟩
 |cons i l ih =>
  obtain⟨h1,h2,h3⟩:=wE c ws (wrap64 (a+wrap64 (z * i))) z
  simp only[oZ,du,tkI]
  omega
end
theorem FH (b:Bool):wrap64 (b2i b)=b2i b:=by cases b<;>kernel_rfl
theorem H7 (x:Int){n:Int}(h0:0≤n)(h1:n≤32):iW x n=(onN x n.toNat).map (fun k:Nat=>(k:Int)):=by
 unfold iW et
 rw[show min n 32=n by omega]
theorem yC {c:Cfg}{q:Int}(hq:af c.pg q=true)(ws:List Int):mG c.pg c.st q 1 ws=aG c.pg c.st ws (ofV q):=by
 obtain⟨h0,h1⟩:=ag.1 hq
 unfold mG ofV
 rw[if_pos (bo.2 ⟨h0,by omega,by omega⟩),if_neg (by omega),show spanV q 1=1 by unfold spanV;rw[show q+1-1=q by omega];omega]
 simp[mE]
theorem Js {c:Cfg}{q:Int}(hq:af c.pg q=true):gu c q=c.us+32 * q:=by
 unfold gu j7
 rw[if_pos (ag.1 hq)]
 rfl
theorem Jt (c:Cfg)(ad:Int)(x:Int)(ws:List Int)(hs:W64 (dV (aX c ad) ws).1):wrT (gk c ad (wrap64 x) ws)=gk c ad (wrap64 x) ws:=by
 have h:wrap64 (dV (aX c ad) ws).1=(dV (aX c ad) ws).1:=by unfold W64 at hs;unfold wrap64;omega
 unfold gk vX
 split
 ·simp only[wrT,FA,h,w_0,w_1]
 ·simp only[wrT,FA,w_0]
theorem Ju (la:Int)(ws:List Int):W64 (dV la ws).1:=by
 unfold dV W64
 split
 ·simp
 ·rename_i h;simp only;omega
theorem H8 (c:Cfg)(q:Int)(ws:List Int)(hk:af c.pg q=true→0≤aj c.pg c.st ws q):Cn c q ws=rPg c q ws:=by
 unfold Cn rPg
 cases hq:af c.pg q with
 |false =>
  rw[if_neg (by simp),if_pos (by simp[aj,hq])]
 |true =>
  have hk:=hk hq
  rw[if_pos rfl,if_neg (by omega),yC hq]
  generalize aG c.pg c.st ws (ofV q)=mb
  generalize aj c.pg c.st ws q=k at hk
  unfold zW Hx
  rw[Js hq]
  by_cases h6:k=6
  ·rw[if_pos h6,if_pos h6]
   obtain⟨f1,f2,f3⟩:=wE c ws (c.us+32 * q) (wrap64 (32 * wAt ws (cA c.pg c.st q)))
   have hw:=Jt c (c.us+32 * q) (32 * wAt ws (cA c.pg c.st q)) ws (Ju _ _)
   generalize gk c (c.us+32 * q) (wrap64 (32 * wAt ws (cA c.pg c.st q))) ws=t at f1 f2 f3 hw
   cases t
   simp only[wrT,TS.mk.injEq] at hw
   simp only at f1 f2 f3
   subst f1;subst f2;subst f3
   simp only[ov,eF,Int.zero_add,Int.add_zero,FH,TS.mk.injEq,hw,and_true,true_and]
  ·rw[if_neg h6,if_neg h6]
   have s0:wrT (⟨0,0,0,0,0,b2i mb,b2i (k != 0)⟩:TS)=⟨0,0,0,0,0,b2i mb,b2i (k != 0)⟩:=by simp only[wrT,FH,w_0]
   by_cases h15:1≤k∧k≤5
   ·rw[if_pos h15,tS _ _ _ _ _ _ _ _ s0]
    have sb:=uT (k-1)
    obtain⟨n,hn⟩:∃n:Nat,ao (k-1)=(n:Int):=⟨(ao (k-1)).toNat,by omega⟩
    generalize wAt ws (bA c.pg c.st q)=x
    have hl:(iW x (ao (k-1)))=(onN x n).map (fun k:Nat=>(k:Int)):=by rw[H7 x sb.1 sb.2,hn];simp
    rw[FG _ _ _ _ _ _ (by simp only[vY,wrT,FA,w_0])]
    unfold vY
    rw[hl,hn,show((n:Int)).toNat=n by simp,Ab _ _ _ _ _ n (by omega),List.length_map]
    obtain⟨g1,g2,g3⟩:=Cv c (c.us+32 * q) (szV (k-1)) ws ((onN x n).map (fun k:Nat=>(k:Int)))
    generalize oZ c (c.us+32 * q) (szV (k-1)) ws ((onN x n).map (fun k:Nat=>(k:Int)))=t at g1 g2 g3
    generalize szV (k-1) * ((n:Int)-((onN x n).length:Int))=o
    cases t
    simp only at g1 g2 g3
    subst g1;subst g2;subst g3
    simp only[ov,wrT,du,opZ,Int.zero_add,Int.add_zero,FH,FA,Kn]
   ·rw[if_neg h15,show ao (k-1)=0 from iX (by omega)]
    rfl
def wF (c:Cfg)(ws:List Int):Nat→Int→TS→TS
 | 0,_,s=>s
 |m+1,q,s=>wF c ws m (q+1) (eF s (rPg c q ws))
def rTl (c:Cfg)(ws:List Int):TS:=wF c ws c.pg.toNat 0 noT
theorem Jv (c:Cfg)(ws:List Int)(hk:∀q,af c.pg q=true→0≤aj c.pg c.st ws q):tlV c ws=rTl c ws:=by
 have key:∀(m:Nat) (q:Int) (s:TS),tlN c ws m q s=wF c ws m q s:=by
  intro m
  induction m with
  |zero=>intro q s;rfl
  |succ m ih=>intro q s;show tlN c ws m (q+1) (eF s (Cn c q ws))=wF c ws m (q+1) (eF s (rPg c q ws));rw[H8 c q ws (hk q),ih]
 exact key _ _ _
section
variable {P:Program}{ops:Array Oper}{md:Region.Mode}{C:World→Prop}{L:Nat}{Q:Exit→Act→World→Prop}
def jr (P:Program)(md:Region.Mode)(ops:Array Oper)(C:World→Prop)(L:Nat)(Q:Exit→Act→World→Prop):Nat→Array Bool→Act→World→Prop
 | 0,d,a,w=>Region.ready md ops d= []∧Q .normal a w
 |f+1,d,a,w=>(Region.ready md ops d= []→Q .normal a w)∧∀i∈Region.ready md ops d,wpOp P ops Q i (fun a' w'=>((d.setIfInBounds i true).getD L true=true∨C w')∧jr P md ops C L Q f (d.setIfInBounds i true) a' w') a w
theorem FJ:∀(f:Nat) (d:Array Bool) (a:Act) (w:World),jr P md ops C L Q f d a w→wpAny P md ops Q f d a w:=by
 intro f
 induction f with
 |zero=>intro d a w h;exact h
 |succ f ih=>intro d a w h;exact⟨h.1,fun i hi=>wpOp_mono (fun a' w' z=>ih _ a' w' z.2) (h.2 i hi)⟩
def Ac (md:Region.Mode)(ops:Array Oper)(L i:Nat):Bool :=
 match ops[L]? with
 |some o=>o.after.any fun e=>Region.binds md e && e.on==i
 |none=>false
theorem yD {i:Nat}(h:Ac md ops L i=true){d:Array Bool}(hL:L∈Region.ready md ops d)(hun:d.getD i true=false):False:=by
 obtain⟨_,o,ho,hall⟩:=mem_ready.1 hL
 unfold Ac at h
 rw[ho] at h
 rw[Array.any_eq_true] at h
 obtain⟨k,hk,hb⟩:=h
 simp only[Bool.and_eq_true,beq_iff_eq] at hb
 have h3:=hall o.after[k] (Array.getElem_mem hk) hb.1
 rw[hb.2,getD_both hun] at h3
 cases h3
theorem wG {i:Nat}{oi:Oper}{v:Value}(hne:i≠L)(hi:ops[i]?=some oi)(hsel:∀(j:Nat)(o:Oper) cs b,ops[j]?=some o→o.op≠ .select cs b)
 (hQ:∀c a w,Q (.panic c) (a.put oi.dst v) w→Q (.panic c) a w):
 ∀(fuel:Nat) (listed:Array Bool) (a:Act) (w:World),(listed.getD L true=true∨C w) →
  (∀j oj,ops[j]?=some oj→j≠i→listed.getD j true=false→(∀e∈oj.after,Region.binds md e=true→e.on≠i)→oi.apart ops oj=true) →
  i∈Region.ready md ops listed→bx P ops (fun _=>True) oi v a →
  jr P md ops C L Q fuel (listed.setIfInBounds i true) (a.put oi.dst v) w→jr P md ops C L Q (fuel+1) listed a w:=by
 intro fuel
 induction fuel with
 |zero =>
  intro listed a w hC _ hr hy H
  refine⟨fun h=>(by rw[h] at hr;cases hr),fun j hj=>?_⟩
  by_cases hji:j=i
  ·subst hji;exact hy.wpOp hi trivial ⟨by rw[getD_set_ne true hne];exact hC,H⟩
  ·have:=ready_mono hj hji
   rw[H.1] at this
   cases this
 |succ fuel ih =>
  intro listed a w hC hfree hr hy H
  refine⟨fun h=>(by rw[h] at hr;cases hr),fun j hj=>?_⟩
  by_cases hji:j=i
  ·subst hji;exact hy.wpOp hi trivial ⟨by rw[getD_set_ne true hne];exact hC,H⟩
  ·have h1:=H.2 j (ready_mono hj hji)
   obtain⟨hjun,oj,hoj,hall⟩:=mem_ready.1 hj
   have hnot:∀e∈oj.after,Region.binds md e=true→e.on≠i:=fun e he hb heq=>by
    have h1:=hall e he hb
    have h0:=(mem_ready.1 hr).1
    rw[heq] at h1
    rcases Nat.lt_or_ge i listed.size with h'|h'
    ·simp[h'] at h0 h1;rw[h0] at h1;cases h1
    ·simp[Array.getElem?_eq_none h'] at h1
   have h2:=nN hoj (hfree j oj hoj hji hjun hnot) (fun cs b=>hsel i oi cs b hi) (fun cs b=>hsel j oj cs b hoj) hQ hy h1
   have hfree':∀k ok,ops[k]?=some ok→k≠i→(listed.setIfInBounds j true).getD k true=false →
    (∀e∈ok.after,Region.binds md e=true→e.on≠i)→oi.apart ops ok=true:=fun k ok hk hki hun hno=>by
    refine hfree k ok hk hki ?_ hno
    by_cases hjk:j=k
    ·subst hjk;exact hjun
    ·rw[getD_set_ne true hjk] at hun;exact hun
   refine wpOp_mono (fun a' w' h3=>?_) h2
   have h4:=h3.2.1
   rw[Array.setIfInBounds_comm _ _ (Ne.symm hji),getD_set_ne true hne] at h4
   have h5:=h4
   refine⟨h4,ih (listed.setIfInBounds j true) a' w' h5 hfree' (ready_mono hr (Ne.symm hji)) h3.1 ?_⟩
   rw[Array.setIfInBounds_comm _ _ hji]
   exact h3.2.2
theorem yE {i:Nat}{oi:Oper}{v:Value}(hne:i≠L)(hL:Ac md ops L i=true)(hi:ops[i]?=some oi)(hsel:∀(j:Nat)(o:Oper) cs b,ops[j]?=some o→o.op≠ .select cs b)
 (hQ:∀c a w,Q (.panic c) (a.put oi.dst v) w→Q (.panic c) a w):
 ∀(fuel:Nat) (listed:Array Bool) (a:Act) (w:World),listed.getD L true=false∧C w →
  (∀j oj,ops[j]?=some oj→j≠i→listed.getD j true=false→(∀e∈oj.after,Region.binds md e=true→e.on≠i)→oi.apart ops oj=true) →
  i∈Region.ready md ops listed→bx P ops C oi v a →
  jr P md ops C L Q fuel (listed.setIfInBounds i true) (a.put oi.dst v) w→jr P md ops C L Q (fuel+1) listed a w:=by
 intro fuel
 induction fuel with
 |zero =>
  intro listed a w hC _ hr hy H
  refine⟨fun h=>(by rw[h] at hr;cases hr),fun j hj=>?_⟩
  by_cases hji:j=i
  ·subst hji;exact hy.wpOp hi hC.2 ⟨.inr hC.2,H⟩
  ·have:=ready_mono hj hji
   rw[H.1] at this
   cases this
 |succ fuel ih =>
  intro listed a w hC hfree hr hy H
  refine⟨fun h=>(by rw[h] at hr;cases hr),fun j hj=>?_⟩
  by_cases hji:j=i
  ·subst hji;exact hy.wpOp hi hC.2 ⟨.inr hC.2,H⟩
  ·have h1:=H.2 j (ready_mono hj hji)
   obtain⟨hjun,oj,hoj,hall⟩:=mem_ready.1 hj
   have hnot:∀e∈oj.after,Region.binds md e=true→e.on≠i:=fun e he hb heq=>by
    have h1:=hall e he hb
    have h0:=(mem_ready.1 hr).1
    rw[heq] at h1
    rcases Nat.lt_or_ge i listed.size with h'|h'
    ·simp[h'] at h0 h1;rw[h0] at h1;cases h1
    ·simp[Array.getElem?_eq_none h'] at h1
   have h2:=nN hoj (hfree j oj hoj hji hjun hnot) (fun cs b=>hsel i oi cs b hi) (fun cs b=>hsel j oj cs b hoj) hQ hy h1
   have hfree':∀k ok,ops[k]?=some ok→k≠i→(listed.setIfInBounds j true).getD k true=false →
    (∀e∈ok.after,Region.binds md e=true→e.on≠i)→oi.apart ops ok=true:=fun k ok hk hki hun hno=>by
    refine hfree k ok hk hki ?_ hno
    by_cases hjk:j=k
    ·subst hjk;exact hjun
    ·rw[getD_set_ne true hjk] at hun;exact hun
   refine wpOp_mono (fun a' w' h3=>?_) h2
   have h4:=h3.2.1
   rw[Array.setIfInBounds_comm _ _ (Ne.symm hji),getD_set_ne true hne] at h4
   have hjL:j≠L:=fun e=>by subst e;exact yD hL hj (mem_ready.1 hr).1
   have h5:(listed.setIfInBounds j true).getD L true=false∧C w':=by
    rw[getD_set_ne true hjL,hC.1] at h4
    refine⟨by rw[getD_set_ne true hjL];exact hC.1,h4.resolve_left (by simp)⟩
   refine⟨h4,ih (listed.setIfInBounds j true) a' w' h5 hfree' (ready_mono hr (Ne.symm hji)) h3.1 ?_⟩
   rw[Array.setIfInBounds_comm _ _ hji]
   exact h3.2.2
theorem aR {i:Nat}{oi:Oper}{v:Value}{fuel:Nat}{listed:Array Bool}{a:Act}{w:World}(hL:Ac md ops L i=true)(hne:(i==L)=false)(hu:listed.getD L true=false)(d:Option Tmp)(hi:ops[i]?=some oi)(hd:oi.dst=d)
 (hs:Region.noSelect ops=true) (hf:Region.free md ops listed i=true) (hr:(Region.ready md ops listed).contains i=true)
 (hQ:∀c a w,Q (.panic c) (a.put d v) w→Q (.panic c) a w) (hC:C w) (hy:bx P ops C oi v a)
 (h:jr P md ops C L Q fuel (listed.setIfInBounds i true) (a.put d v) w):jr P md ops C L Q (fuel+1) listed a w:=by
 subst hd
 exact yE (by simpa using hne) hL hi (Region.noSelect_spec hs) hQ fuel listed a w ⟨hu,hC⟩ (Region.free_spec hi hf) (by simpa using hr) hy h
theorem yF {i:Nat}{oi:Oper}{v:Value}{fuel:Nat}{listed:Array Bool}{a:Act}{w:World}(hne:(i==L)=false)(d:Option Tmp)(hi:ops[i]?=some oi)(hd:oi.dst=d)
 (hs:Region.noSelect ops=true) (hf:Region.free md ops listed i=true) (hr:(Region.ready md ops listed).contains i=true)
 (hQ:∀c a w,Q (.panic c) (a.put d v) w→Q (.panic c) a w) (hC:C w) (hy:bx P ops (fun _=>True) oi v a)
 (h:jr P md ops C L Q fuel (listed.setIfInBounds i true) (a.put d v) w):jr P md ops C L Q (fuel+1) listed a w:=by
 subst hd
 exact wG (by simpa using hne) hi (Region.noSelect_spec hs) hQ fuel listed a w (.inr hC) (Region.free_spec hi hf) (by simpa using hr) hy h
theorem lw {fuel:Nat}{listed:Array Bool}{a:Act}{w:World}(hr:Region.ready md ops listed= [])(h:Q .normal a w):jr P md ops C L Q fuel listed a w:=by
 cases fuel with
 |zero=>exact⟨hr,h⟩
 |succ f=>exact⟨fun _=>h,fun i hi=>(by rw[hr] at hi;cases hi)⟩
theorem dh {i:Nat}{o:Oper}{fuel:Nat}{listed:Array Bool}{a:Act}{w:World}(d:Option Tmp)(hr:Region.ready md ops listed= [i])(hi:ops[i]?=some o)(hw:Region.wanted o (yielded ops a.tmps)=true)(hd:o.dst=d)
 (h:∀K:Act→World→Prop,(∀v w',((listed.setIfInBounds i true).getD L true=true∨C w')→jr P md ops C L Q fuel (listed.setIfInBounds i true) (a.put d v) w'→K (a.put o.dst v) w')→Oper.wp P o a w K Q):jr P md ops C L Q (fuel+1) listed a w:=by
 subst hd
 refine⟨fun q=>(by rw[hr] at q;cases q),fun j hj=>?_⟩
 rw[hr] at hj
 obtain rfl:j=i:=by simpa using hj
 unfold Go.wpOp
 simp only[hi,hw,if_true]
 exact .inl (h _ (fun v w' hc hA=>⟨hc,hA⟩))
theorem gn {id:Nat}{a:Act}{w:World}(C:World→Prop)(L:Nat)(hm:P.follows .mixedOrders=true)(h:jr P .any ops C L Q ops.size (Array.replicate ops.size false) a { w with drawn:=w.drawn+1 }):(Code.region id ops true).wp P Q a w :=
 wp_region_any hm (FJ _ _ _ _ h)
theorem jT {f:Nat}{d:Array Bool}{a:Act}{w:World} (Φ:Act→World→Prop) (Ψ:World→Prop)(ch:List PanicEntry)(fp:∀a w,a.defers= []→Ψ w→Q (.panic ch) a w)(fq:∀c a k v w,Q (.panic c) (Act.put a (some k) v) w→Q (.panic c) a w)(fn:∀a w,Φ a w→Q .normal a w)
 (h:∀Q':Exit→Act→World→Prop,(∀a w,Φ a w→Q' .normal a w)→(∀a w,a.defers= []→Ψ w→Q' (.panic ch) a w)→(∀c a k v w,Q' (.panic c) (Act.put a (some k) v) w→Q' (.panic c) a w)→jr P md ops C L Q' f d a w):jr P md ops C L Q f d a w:=h Q fn fp fq
end
theorem MidV.setRow {W wr:World}{F S F':Nat→Prop}{p n:Nat}{kn:Int→Option Int}{D:List KV}(h:MidV W wr F S p kn n D F'){b:Nat}(hS:b<W.heap.size→S b)(nF:¬F' b)(cs':Array Value){cs:Array Value}{t:TypeId}{fr:Nat×Nat}(hb:wr.heap[b]?=some (.cells cs t fr)):MidV W (wr.setRow b cs') F S p kn n D F' :=
 have T:Turned (fun k=>k=b) wr (wr.setRow b cs'):=Turned.setRow (Turned.refl _ wr) b cs' (fun _=>rfl)
 ⟨h.view.keepS (S:=fun k=>k=b) T (fun k q e=>nF (e▸q)) (fun k es cl e q=>by subst e;rw[hb] at q;cases q),
  h.from',aq h.turn T (fun k q=>by
   subst q
   rcases Nat.lt_or_ge k W.heap.size with r|r
   ·exact .inl (.inr (hS r))
   ·exact .inr r),h.inv⟩
theorem yG (x:Int):IntKind.i64.wrap x=wrap64 x:=IntWalk.i64_left x
structure BgS (w1:World)(F:Nat→Prop)(p:Nat)(kn:Int→Option Int)(n:Nat)(D:List KV)(F':Nat→Prop)(W:World):Prop where
 mid:MidV w1 W F (fun _=>False) p kn n D F'
structure CtS (c:Cfg)(w1:World)(F:Nat→Prop)(p:Nat)(kn:Int→Option Int)(n gs:Nat)(s:TS)(D:List KV)(F':Nat→Prop)(W:World):Prop where
 mid:MidV w1 W F (fun _=>False) p kn n D F'
 box:W.heap[gs]?=some (.cells s.arr 38 (0,0))
 off:¬F' gs
 ge:w1.heap.size≤gs
structure ShS (c:Cfg)(w1:World)(F:Nat→Prop)(p:Nat)(kn:Int→Option Int)(n gs bb:Nat)(rv:Value)(xs:List Int)(s:TS)(D:List KV)(F':Nat→Prop)(W:World):Prop extends CtS c w1 F p kn n gs s D F' W where
 row:uO bb F' W rv xs
 ne:∀k,rv.ownBlock=some k→k≠gs
section
variable {c:Cfg}{w1 W W':World}{F F' F1:Nat→Prop}{p n gs bb:Nat}{kn:Int→Option Int}{rv:Value}{xs:List Int}{s:TS}{D D1:List KV}
theorem BgS.more (h:BgS w1 F p kn n D F' W)(m:ae W W'):BgS w1 F p kn n D F' W':=⟨h.mid.more m⟩
theorem BgS.went (h:BgS w1 F p kn n D F' W)(M:MidV w1 W' F (fun _=>False) p kn n D1 F1)(hk:∀b o,¬F' b→W.heap[b]?=some o→W'.heap[b]?=some o)(hf:∀b,F1 b→F' b∨W.heap.size≤b):BgS w1 F p kn n D1 F1 W':=⟨M⟩
theorem CtS.more (h:CtS c w1 F p kn n gs s D F' W)(m:ae W W'):CtS c w1 F p kn n gs s D F' W':=⟨h.mid.more m,m.block h.box,h.off,h.ge⟩
theorem CtS.went (h:CtS c w1 F p kn n gs s D F' W)(M:MidV w1 W' F (fun _=>False) p kn n D1 F1)(hk:∀b o,¬F' b→W.heap[b]?=some o→W'.heap[b]?=some o)(hf:∀b,F1 b→F' b∨W.heap.size≤b):CtS c w1 F p kn n gs s D1 F1 W' :=
 ⟨M,hk _ _ h.off h.box,fun q=>by
   rcases hf _ q with r|r
   ·exact h.off r
   ·have:=ac h.box;omega,h.ge⟩
theorem CtS.put (h:CtS c w1 F p kn n gs s D F' W)(t:TS):CtS c w1 F p kn n gs t D F' (W.setRow gs t.arr):=
 ⟨h.mid.setRow (fun q=>by have:=h.ge;omega) h.off t.arr h.box,setRow_heap _ _ _ _ _ _ h.box,h.off,h.ge⟩
theorem CtS.cls (h:CtS c w1 F p kn n gs s D F' W){b:Nat}{o:Obj}(KL:∀wr D' F',MidV w1 wr F (fun _=>False) p kn n D' F'→wr.heap[b]?=some o):W.heap[b]?=some o∧W.heap[gs]?=some (.cells s.arr 38 (0,0)):=⟨KL _ _ _ h.mid,h.box⟩
theorem ShS.more (h:ShS c w1 F p kn n gs bb rv xs s D F' W)(m:ae W W'):ShS c w1 F p kn n gs bb rv xs s D F' W':=⟨h.toCtS.more m,h.row.more m,h.ne⟩
theorem ShS.went (h:ShS c w1 F p kn n gs bb rv xs s D F' W)(M:MidV w1 W' F (fun _=>False) p kn n D1 F1)(hk:∀b o,¬F' b→W.heap[b]?=some o→W'.heap[b]?=some o)(hf:∀b,F1 b→F' b∨W.heap.size≤b):ShS c w1 F p kn n gs bb rv xs s D1 F1 W' :=
 ⟨h.toCtS.went M hk hf,h.row.went hk hf,h.ne⟩
theorem ShS.put (h:ShS c w1 F p kn n gs bb rv xs s D F' W)(t:TS):ShS c w1 F p kn n gs bb rv xs t D F' (W.setRow gs t.arr):=
 have T:Turned (fun k=>k=gs) W (W.setRow gs t.arr):=Turned.setRow (Turned.refl _ W) gs t.arr (fun _=>rfl)
 ⟨h.toCtS.put t,⟨h.row.1.keepT T (fun k q e=>h.ne k q e),fun k q=>⟨(h.row.2 k q).1,(h.row.2 k q).2.1,Nat.lt_of_lt_of_le (h.row.2 k q).2.2 T.size⟩⟩,h.ne⟩
end
theorem FL (x m:Int):(iW x m).length≤32:=by
 have h:iW x m=onI x (et m):=rfl
 rw[h]
 exact Nat.le_trans (Jb x _) (mI m)
theorem FM {c:Cfg}(R:c.Ok){n:Nat}(H:PgIn c.pg c.st n)(hw:(n:Int)=c.words)(hn:n≤10000){bt:Nat}(F:Nat→Prop)(p:Nat)(kn:Int→Option Int)(D:List KV)(q k:Int)(hq:af c.pg q=true)(w:World)(hv:bI w F p kn D)(hk:OkK kn)(hD:fy n D)(hs:jf bt w):
 Calls Tryz.prog 80 #[.pointer (some ⟨p,0,none⟩),.agg c.arr,.int .i64 q,.int .i64 k] w (bw w F p kn vTS (yz c q k kn D)):=by
 obtain⟨Rr,hRr⟩:∃Rr,yz c q k kn D=Rr:=⟨_,rfl⟩
 rw[hRr]
 have YA:=hQQ (fun W=>show Calls Tryz.prog 78 #[.agg c.arr,.int .i64 q] W (aF W (.int .i64 (gu c q))) from Ir R W q)
 have YB:=hQQ (fun W=>show Calls Tryz.prog 119 #[.agg c.arr,.int .i64 q] W (aF W (.int .i64 (bA c.pg c.st q))) from pJ (st:=c.st) hq▸I2 R W q)
 have PB:=hQQ (cG H hq).2.2
 have HW:=hQQ hw
 have HN:=hQQ hn
 have sl:=dN k
 have HSW:=hQQ hs
 obtain⟨w1,e1,hl1,hr1,m1,s1⟩:=nH w (.cells c.arr 33) (.cells #[.int .i64 0,.int .i64 0,.int .i64 0,.int .i64 0,.int .i64 0,.int .i64 0,.int .i64 0] 38)
 have nFl:¬F w.heap.size:=fun q=>by have:=hv.lt _ q;omega
 have nFr:¬F (w.heap.size+1):=fun q=>by have:=hv.lt _ q;omega
 have MM:=hQQ m1
 have L0:=hQQ hl1
 have C0:=hQQ hr1
 have M0:=m0Z (hv.more m1) hD
 have KL:=klZ (p:=p) (kn:=kn) (n:=n) L0.o nFl
 have KC:Hq (∀wr D' F',MidV w1 wr F (fun _=>False) p kn n D' F'→wr.heap[w.heap.size+1]?=some (.cells #[.int .i64 0,.int .i64 0,.int .i64 0,.int .i64 0,.int .i64 0,.int .i64 0,.int .i64 0] 38 (0,0))):=hQQ fun wr D' F' h=>kV h C0.o nFr (fun q=>q)
 have NEED:=ndZ (F:=F) (p:=p) (kn:=kn) (R:=Rr) vTS MM.o
 have DONE:Hq (∀(x:TS) w2 D' F',Rr=.ok x D'→MidV w1 w2 F (fun _=>False) p kn n D' F'→bw w F p kn vTS Rr (.returned (.agg x.arr)) (w2.setRow (w.heap.size+1) x.arr)):=hQQ fun x w2 D' F' e h=>kF (g:=w.heap.size+1) MM.o h e (by omega) (by have:=ac C0.o;omega) nFr (KC.o _ _ _ h) (Turned.setRow (Turned.refl _ w2) _ _ (fun _=>rfl))
 have HK:=hQQ hk
 have HR:=hQQ R
 have HH:=hQQ H
 clear hl1 hr1 m1 hv hD hk R H nFl nFr
 have CSZ:Hq (∀W,ae w1 W→Calls Tryz.prog 116 #[.int .i64 k] W fun e w'=>e=.returned (.int .i64 (szV k))∧w'=W):=hQQ fun W m=>tl k W ⟨bt,(HSW.o.more MM.o).more m⟩
 have CSL:Hq (∀W,ae w1 W→Calls Tryz.prog 117 #[.int .i64 k] W fun e w'=>e=.returned (.int .i64 (ao k))∧w'=W):=hQQ fun W m=>En k W ⟨bt,(HSW.o.more MM.o).more m⟩
 unfold yz at hRr
 have HRr:=hQQ hRr
 clear hRr hw hn hs hq
 go_enter Tryz.func80,Tryz.ntmps80
 go_wp2_with fail
 clear e1
 refine(CSZ.o _ (ae.refl _)).mono ?_
 rintro e w2 ⟨rfl,hw2⟩
 rw[hw2]
 clear hw2 w2
 go_wp2_with fail
 refine(CSL.o _ (ae.refl _)).mono ?_
 rintro e w2 ⟨rfl,hw2⟩
 rw[hw2]
 clear hw2 w2
 go_wp2_with (first|(refine cQ rfl rfl rfl L0.o (by kernel_rfl) ?_)|(refine cQ rfl rfl rfl L0.o (by kernel_rfl) ?_))
 refine(YB.o _).mono ?_
 rintro e w2 ⟨rfl,h2⟩
 have M2:=hQQ (M0.o.more h2)
 clear h2
 go_wp2_with fail
 refine(mD F p kn D _ w2 M2.o.view PB.o.2.2).mono ?_
 intro e w3 he
 rcases M2.o.step (ae.refl _) HK.o (fi n PB.o.2.1) he with⟨a',hE,rfl,hd',ht',_⟩|⟨x3,D3,F3,hE,rfl,M3,hq3,_,_⟩
 ·exact⟨rfl,NEED.o a' w3 (HRr.o.symm.trans (bK hE)) hd' ht'⟩
 have L3:=hQQ (KL.o _ _ _ M3)
 have R3:=hQQ ((bE hE).symm.trans HRr.o)
 have M3:=hQQ M3
 clear he hE
 go_wp2_with fail
 refine(Jd x3 (ao k) (by omega) (by omega) w3).mono ?_
 obtain⟨xs,hxs⟩:∃xs,iW x3 (ao k)=xs:=⟨_,rfl⟩
 have hl32:=FL x3 (ao k)
 rw[hxs] at hl32⊢
 have hs0:vY k x3=⟨0,0,0,0,wrap64 (szV k * (ao k-xs.length)),0,0⟩:=by unfold vY;rw[hxs]
 have R3':tM c (gu c q) (szV k) xs (vY k x3) kn D3=Rr:=by rw[←R3.o,hxs]
 rw[hs0] at R3'
 rintro e w4 ⟨rv,rfl,hr4,m4⟩
 obtain⟨ar,cr,rfl,_⟩:=hr4.reads
 obtain⟨ln,hln⟩:∃ln,xs.length=ln:=⟨_,rfl⟩
 rw[hln] at hr4 hl32 R3' ⊢
 have R4:=hQQ R3'
 have LN:=hQQ hln
 have O4:Hq (uO w3.heap.size F3 w4 (.slice ar ln cr) xs):=hQQ ⟨hr4,fun b q=>⟨fun z=>by have:=M3.o.view.lt _ z;have:=(hr4.own q).1;omega,hr4.own q⟩⟩
 have M4:=hQQ (M3.o.more m4)
 obtain⟨w5,e5,hb5,m5,s5⟩:=df w4 (.cells #[.int .i64 0,.int .i64 0,.int .i64 0,.int .i64 0,.int .i64 0,.int .i64 0,.int .i64 0] 38)
 have B5:=hQQ hb5
 obtain⟨s0,hs0'⟩:∃s0:TS,(⟨0,0,0,0,wrap64 (szV k * (ao k-ln)),0,0⟩:TS)=s0:=⟨_,rfl⟩
 have ha0:s0.arr= #[.int .i64 0,.int .i64 0,.int .i64 0,.int .i64 0,.int .i64 (wrap64 (szV k * (ao k-ln))),.int .i64 0,.int .i64 0]:=by rw[←hs0'];rfl
 rw[hs0'] at R4
 obtain⟨w6,e6⟩:∃w6,w5.setRow w4.heap.size s0.arr=w6:=⟨_,rfl⟩
 have S6:Hq (ShS c w1 F p kn n w4.heap.size w3.heap.size (.slice ar ln cr) xs s0 D3 F3 w6):=hQQ (by
  have h5:ShS c w1 F p kn n w4.heap.size w3.heap.size (.slice ar ln cr) xs noT D3 F3 w5 :=
   ⟨⟨M4.o.more m5,hb5,fun z=>by have:=M4.o.view.lt _ z;omega,by have:=M4.o.size;omega⟩,O4.o.more m5,fun b q=>by have:=(O4.o.2 b q).2.2;omega⟩
  rw[←e6]
  exact h5.put s0)
 have HA0:=hQQ ha0
 clear hs0 R3' hr4 m4 hb5 m5 s5 M2 M3 L3 R3 HRr hxs O4 M4 hs0' hln ha0
 go_wp2_with (refine wpList_store_row rfl 38 _ _ rfl w4.heap.size _ rfl rfl 38 _ B5.o (by kernel_rfl) rfl (by simp[Value.oneCell']) ?_;rw[←HA0.o,e6])
 clear e5 e6 B5 HA0
 generalize w4.heap.size=gs at S6
 generalize w3.heap.size=bb at S6
 go_loopw [35] (fun iv wr=>∃(j:Nat) (s:TS) (D':List KV) (F':Nat→Prop),iv=.int .i64 j∧j≤ln∧ShS c w1 F p kn n gs bb (.slice ar ln cr) xs s D' F' wr∧tM c (gu c q) (szV k) (xs.drop j) s kn D'=Rr) (fun iv _=>ln-(intOf iv).toNat)
 case atStart=>exact⟨0,s0,D3,F3,rfl,by omega,S6.o,by simpa using R4.o⟩
 case round =>
  obtain⟨j,s,DD,FF,rfl,hj,hS,hR⟩:=hrel
  have SR:=hQQ hS
  clear S6 R4 hS
  by_cases hlt:j<ln
  ·obtain⟨a9,c9,e9,hrd⟩:=SR.o.row.1.reads
   injection e9 with h1 h2 h3
   subst h1
   subst h3
   clear h2
   obtain⟨g6,rfl,_,_,hc⟩:=hrd 0 (by have:=LN.o;omega)
   have hjx:j<xs.length:=by have:=LN.o;omega
   have hcj:=hc j hjx
   obtain⟨i,hi⟩:∃i,xs.getD j 0=i:=⟨_,rfl⟩
   rw[hi] at hcj
   have hdr:xs.drop j=i::xs.drop (j+1):=by
    rw[←hi,List.drop_eq_getElem_cons hjx]
    simp[List.getD,hjx]
   obtain⟨l,hl⟩:∃l,xs.drop (j+1)=l:=⟨_,rfl⟩
   rw[hdr,hl] at hR
   have HLD:=hQQ hl
   have RR:=hQQ (show aJ (qu c (wrap64 (gu c q+wrap64 (szV k * i))) (szV k)) (fun t=>tM c (gu c q) (szV k) l (eF s t)) kn DD=Rr from hR)
   have d1:decide (j<ln)=true:=by simp[hlt]
   have q1:IntKind.i64.wrap ((j:Int)+1)=(j:Int)+1:=am (by omega) (by omega)
   clear hR hdr hc hrd hi hjx hl
   go_wp2_with fail
   refine gn (fun W=>W.heap[w.heap.size]?=some (.cells c.arr 33 (0,0))∧W.heap[gs]?=some (.cells s.arr 38 (0,0))) 13 (by kernel_rfl) ?_
   change jr _ _ _ _ _ _ _ _ _ (wr.drewN 1)
   have M0:Hq (ae wr (wr.drewN 1)):=hQQ ((ae.refl wr).drewN 1)
   generalize wr.drewN 1=wq at M0⊢
   have S0:=hQQ (SR.o.more M0.o)
   generalize hA:Act.mk _ _=A
   have HF:AG 54 A [(0,.pointer (some ⟨p,0,none⟩)),(2,.int .i64 q),(5,.pointer (some ⟨w.heap.size,0,none⟩)),(9,.int .i64 (szV k)),(12,.pointer (some ⟨gs,0,none⟩)),(14,.int .i64 i)]:=by
    rw[←hA];try simp only[pts,List.foldl]
    refine⟨⟨Nat.le_of_ble_eq_true rfl,rfl⟩,?_⟩
    intro z hz;simp only[List.mem_cons,List.not_mem_nil,or_false] at hz;rcases hz with rfl|rfl|rfl|rfl|rfl|rfl<;>rfl
   refine jT (fun aa W=>∃(u39 u40 u41 u42 u43 u45 u46 u47 u49 u44 u48 u50 u51:Value),aa=(Act.put (pts A [(39,u39),(40,u40),(41,u41),(42,u42),(43,u43),(45,u45),(46,u46),(47,u47),(49,u49),(44,u44),(48,u48),(50,u50),(51,u51)]) none undef)∧∃t D9 F9 wy,W=wy.setRow gs (eF s t).arr∧ShS c w1 F p kn n gs bb (.slice (some ⟨g6,0,none⟩) ln cr) xs s D9 F9 wy∧tM c (gu c q) (szV k) l (eF s t) kn D9=Rr) (fun W=>bw w F p kn vTS Rr (.panicked (eT p)) W) (eT p) (fun a W hd h=>⟨hd,h⟩) (fun _ _ _ _ _ h=>h) ?_ ?_
   ·skip
    rintro a9 wv ⟨u39,u40,u41,u42,u43,u45,u46,u47,u49,u44,u48,u50,u51,rfl,t,D9,F9,wy,rfl,S9,R9⟩
    rw[←hA];try simp only[pts,List.foldl]
    have SV:=hQQ (S9.put (eF s t))
    have RV:=hQQ R9
    generalize wy.setRow gs (eF s t).arr=wv at SV⊢
    clear HF hA M0 S0 S9 R9 RR SR
    go_simp
    go_wp2_with fail
    go_roundw
    case rel=>exact⟨j+1,eF s t,D9,F9,by go_num,by omega,SV.o,by rw[HLD.o];exact RV.o⟩
    case measure=>simp[intOf];omega
   intro QQ FINE FIND FINQ
   clear hA
   refine aR (i:=0) (v:=.agg s.arr) (by kernel_rfl) (by kernel_rfl) (by kernel_rfl) (some 39) rfl rfl (by kernel_rfl) (by kernel_rfl) (by kernel_rfl) (fun c a w=>FINQ c a _ _ w) (S0.o.cls KL.o) (by exact bF (C:=(fun W=>W.heap[w.heap.size]?=some (.cells c.arr 33 (0,0))∧W.heap[gs]?=some (.cells s.arr 38 (0,0)))) (ah rfl) 38 _ rfl (gs) (HF.get 4 rfl) 38 _ _ _ (fun W hW=>hW.2) Tryz.underlying38 rfl (by kernel_rfl)) ?_
   replace HF:=HF.put 39 (.agg s.arr) (by decide) rfl
   generalize β1:Act.put _ _ _=A at HF⊢
   refine aR (i:=1) (v:=.pointer (some ⟨p,0,none⟩)) (by kernel_rfl) (by kernel_rfl) (by kernel_rfl) (some 40) rfl rfl (by kernel_rfl) (by kernel_rfl) (by kernel_rfl) (fun c a w=>FINQ c a _ _ w) (S0.o.cls KL.o) (by exact aV (ah rfl) _ rfl (HF.get 1 rfl)) ?_
   replace HF:=HF.put 40 (.pointer (some ⟨p,0,none⟩)) (by decide) rfl
   generalize β2:Act.put _ _ _=A at HF⊢
   refine aR (i:=2) (v:=.agg c.arr) (by kernel_rfl) (by kernel_rfl) (by kernel_rfl) (some 41) rfl rfl (by kernel_rfl) (by kernel_rfl) (by kernel_rfl) (fun c a w=>FINQ c a _ _ w) (S0.o.cls KL.o) (by exact bF (C:=(fun W=>W.heap[w.heap.size]?=some (.cells c.arr 33 (0,0))∧W.heap[gs]?=some (.cells s.arr 38 (0,0)))) (ah rfl) 33 _ rfl (w.heap.size) (HF.get 4 rfl) 33 _ _ _ (fun W hW=>hW.1) Tryz.underlying33 rfl (by kernel_rfl)) ?_
   replace HF:=HF.put 41 (.agg c.arr) (by decide) rfl
   generalize β3:Act.put _ _ _=A at HF⊢
   refine aR (i:=3) (v:=.agg c.arr) (by kernel_rfl) (by kernel_rfl) (by kernel_rfl) (some 42) rfl rfl (by kernel_rfl) (by kernel_rfl) (by kernel_rfl) (fun c a w=>FINQ c a _ _ w) (S0.o.cls KL.o) (by exact bF (C:=(fun W=>W.heap[w.heap.size]?=some (.cells c.arr 33 (0,0))∧W.heap[gs]?=some (.cells s.arr 38 (0,0)))) (ah rfl) 33 _ rfl (w.heap.size) (HF.get 5 rfl) 33 _ _ _ (fun W hW=>hW.1) Tryz.underlying33 rfl (by kernel_rfl)) ?_
   replace HF:=HF.put 42 (.agg c.arr) (by decide) rfl
   generalize β4:Act.put _ _ _=A at HF⊢
   refine aR (i:=4) (v:=.int .i64 q) (by kernel_rfl) (by kernel_rfl) (by kernel_rfl) (some 43) rfl rfl (by kernel_rfl) (by kernel_rfl) (by kernel_rfl) (fun c a w=>FINQ c a _ _ w) (S0.o.cls KL.o) (by exact aV (ah rfl) _ rfl (HF.get 5 rfl)) ?_
   replace HF:=HF.put 43 (.int .i64 q) (by decide) rfl
   generalize β5:Act.put _ _ _=A at HF⊢
   refine aR (i:=6) (v:=.int .i64 (szV k)) (by kernel_rfl) (by kernel_rfl) (by kernel_rfl) (some 45) rfl rfl (by kernel_rfl) (by kernel_rfl) (by kernel_rfl) (fun c a w=>FINQ c a _ _ w) (S0.o.cls KL.o) (by exact aV (ah rfl) _ rfl (HF.get 8 rfl)) ?_
   replace HF:=HF.put 45 (.int .i64 (szV k)) (by decide) rfl
   generalize β6:Act.put _ _ _=A at HF⊢
   refine aR (i:=7) (v:=.int .i64 i) (by kernel_rfl) (by kernel_rfl) (by kernel_rfl) (some 46) rfl rfl (by kernel_rfl) (by kernel_rfl) (by kernel_rfl) (fun c a w=>FINQ c a _ _ w) (S0.o.cls KL.o) (by exact aV (ah rfl) _ rfl (HF.get 11 rfl)) ?_
   replace HF:=HF.put 46 (.int .i64 i) (by decide) rfl
   generalize β7:Act.put _ _ _=A at HF⊢
   refine aR (i:=8) (v:=.int .i64 (wrap64 (szV k * i))) (by kernel_rfl) (by kernel_rfl) (by kernel_rfl) (some 47) rfl rfl (by kernel_rfl) (by kernel_rfl) (by kernel_rfl) (fun c a w=>FINQ c a _ _ w) (S0.o.cls KL.o) (by exact(Or.inl ⟨(ah rfl),fun W hW=>by have h50:=(HF.getD 1 rfl);have h51:=(HF.getD 0 rfl);go_simp;rw[yG]⟩)) ?_
   replace HF:=HF.put 47 (.int .i64 (wrap64 (szV k * i))) (by decide) rfl
   generalize β8:Act.put _ _ _=A at HF⊢
   refine aR (i:=10) (v:=.int .i64 (szV k)) (by kernel_rfl) (by kernel_rfl) (by kernel_rfl) (some 49) rfl rfl (by kernel_rfl) (by kernel_rfl) (by kernel_rfl) (fun c a w=>FINQ c a _ _ w) (S0.o.cls KL.o) (by exact aV (ah rfl) _ rfl (HF.get 11 rfl)) ?_
   replace HF:=HF.put 49 (.int .i64 (szV k)) (by decide) rfl
   generalize β9:Act.put _ _ _=A at HF⊢
   refine dh (i:=5) (some 44) (by kernel_rfl) rfl (ah rfl) rfl (fun K hK=>?_)
   refine gS (v0:=.agg c.arr) (v1:=.int .i64 q) rfl (HF.get 5 rfl) (HF.get 4 rfl) (enters_of Tryz.func78 (by kernel_rfl) rfl) ?_
   refine(YA.o _).mono ?_
   rintro e y1 ⟨rfl,hm⟩
   have S1:=hQQ (S0.o.more hm)
   clear hm
   refine hK _ _ (.inr (S1.o.cls KL.o)) ?_
   clear hK K
   replace HF:=HF.put 44 (.int .i64 (gu c q)) (by decide) rfl
   generalize β10:Act.put _ _ _=A at HF⊢
   refine aR (i:=9) (v:=.int .i64 (wrap64 (gu c q+wrap64 (szV k * i)))) (by kernel_rfl) (by kernel_rfl) (by kernel_rfl) (some 48) rfl rfl (by kernel_rfl) (by kernel_rfl) (by kernel_rfl) (fun c a w=>FINQ c a _ _ w) (S1.o.cls KL.o) (by exact(Or.inl ⟨(ah rfl),fun W hW=>by have h50:=(HF.getD 0 rfl);have h51:=(HF.getD 2 rfl);go_simp;rw[yG]⟩)) ?_
   replace HF:=HF.put 48 (.int .i64 (wrap64 (gu c q+wrap64 (szV k * i)))) (by decide) rfl
   generalize β11:Act.put _ _ _=A at HF⊢
   refine dh (i:=11) (some 50) (by kernel_rfl) rfl (ah rfl) rfl (fun K hK=>?_)
   refine iC (v0:=.pointer (some ⟨p,0,none⟩)) (v1:=.agg c.arr) (v2:=.int .i64 (wrap64 (gu c q+wrap64 (szV k * i)))) (v3:=.int .i64 (szV k)) rfl (HF.get 9 rfl) (HF.get 8 rfl) (HF.get 0 rfl) (HF.get 2 rfl) (enters_of Tryz.func77 (by kernel_rfl) rfl) ?_
   refine(zX HR.o HH.o HW.o HN.o FF p kn DD (wrap64 (gu c q+wrap64 (szV k * i))) (szV k) _ S1.o.mid.view HK.o S1.o.mid.inv).mono ?_
   intro e y2 he
   rcases S1.o.mid.step (ae.refl _) HK.o (nm HR.o HH.o HW.o _ _) he with⟨a',hE,rfl,hd',ht',hk'⟩|⟨x2,D2,F2,hE,rfl,M',hq2,hk',hf'⟩
   ·exact FIND _ _ HF.1.2 (NEED.o a' y2 (RR.o.symm.trans (bK hE)) hd' ht')
   have R2:=hQQ ((bE hE).symm.trans RR.o)
   have S2:=hQQ (S1.o.went M' hk' hf')
   clear he hE M' hk' hf'
   refine hK _ _ (.inr (S2.o.cls KL.o)) ?_
   clear hK K
   replace HF:=HF.put 50 ((vTS x2)) (by decide) rfl
   generalize β12:Act.put _ _ _=A at HF⊢
   refine dh (i:=12) (some 51) (by kernel_rfl) rfl (ah rfl) rfl (fun K hK=>?_)
   refine gS (v0:=.agg s.arr) (v1:=(vTS x2)) rfl (HF.get 11 rfl) (HF.get 0 rfl) (enters_of Tryz.func20 (by kernel_rfl) rfl) ?_
   refine(ID s x2 _).mono ?_
   rintro e y3 ⟨rfl,hm⟩
   have S3:=hQQ (S2.o.more hm)
   clear hm
   refine hK _ _ (.inr (S3.o.cls KL.o)) ?_
   clear hK K
   replace HF:=HF.put 51 (.agg (eF s x2).arr) (by decide) rfl
   generalize β13:Act.put _ _ _=A at HF⊢
   refine dh (i:=13) none (by kernel_rfl) rfl (ah rfl) rfl (fun K hK=>?_)
   refine wp_store_row 38 _ _ rfl gs _ (HF.get 17 rfl) (HF.get 0 rfl) 38 _ S3.o.box (by kernel_rfl) rfl (fD _) ?_
   refine hK _ _ (.inl (by kernel_rfl)) ?_
   exact lw (by kernel_rfl) (FINE _ _ ⟨(.agg s.arr),(.pointer (some ⟨p,0,none⟩)),(.agg c.arr),(.agg c.arr),(.int .i64 q),(.int .i64 (szV k)),(.int .i64 i),(.int .i64 (wrap64 (szV k * i))),(.int .i64 (szV k)),(.int .i64 (gu c q)),(.int .i64 (wrap64 (gu c q+wrap64 (szV k * i)))),((vTS x2)),(.agg (eF s x2).arr),by rw[← β13,← β12,← β11,← β10,← β9,← β8,← β7,← β6,← β5,← β4,← β3,← β2,← β1]<;>rfl,x2,D2,F2,y3,rfl,S3.o,R2.o⟩)
  ·have hje:j=ln:=by omega
   subst hje
   have hR':aK s kn DD=Rr:=by rw[List.drop_eq_nil_of_le (by have:=LN.o;omega)] at hR;exact hR
   have d1:decide (j<j)=false:=by simp
   have BX:=hQQ SR.o.box
   have CR:=hQQ (KC.o _ _ _ SR.o.mid)
   have FIN:=hQQ (DONE.o s wr DD FF hR'.symm SR.o.mid)
   clear hR hR' SR
   go_wp2_with (first|(refine C7 rfl rfl rfl BX.o (by kernel_rfl) ?_)|(refine wpList_store_row rfl 38 _ _ rfl (w.heap.size+1) s.arr rfl rfl 38 _ CR.o (by kernel_rfl) rfl (fD _) ?_))
   refine bodyPost_ret (v:=.agg s.arr) (results_cell_row Tryz.results80 _ _ _ 38 _ (0,0) _ rfl (setRow_heap _ _ _ _ _ _ CR.o) Tryz.underlying38 rfl (by kernel_rfl)) rfl FIN.o
theorem sq {α:Type}(p:Prg α):aJ p (fun t=>aK t)=p:=by
 funext kn D;unfold aJ;cases p kn D<;>rfl
theorem H9 {c:Cfg}(R:c.Ok){n:Nat}(H:PgIn c.pg c.st n)(hw:(n:Int)=c.words)(hn:n≤10000){bt:Nat}(F:Nat→Prop)(p:Nat)(kn:Int→Option Int)(D:List KV)(q k:Int)(hq:af c.pg q=true)(w:World)(hv:bI w F p kn D)(hk:OkK kn)(hD:fy n D)(hs:jf bt w):
 Calls Tryz.prog 39 #[.pointer (some ⟨p,0,none⟩),.agg c.arr,.int .i64 q,.int .i64 k] w (bw w F p kn vTS (qw c q k kn D)):=by
 obtain⟨Rr,hRr⟩:∃Rr,qw c q k kn D=Rr:=⟨_,rfl⟩
 rw[hRr]
 have YA:=hQQ (fun W=>show Calls Tryz.prog 78 #[.agg c.arr,.int .i64 q] W (aF W (.int .i64 (gu c q))) from Ir R W q)
 have YC:=hQQ (fun W=>show Calls Tryz.prog 79 #[.agg c.arr,.int .i64 q] W (aF W (.int .i64 (cA c.pg c.st q))) from pI (st:=c.st) hq▸GG R W q)
 have PB:=hQQ (cG H hq).2.1
 have HW:=hQQ hw
 have HN:=hQQ hn
 have HSW:=hQQ hs
 have HQ:=hQQ hq
 obtain⟨w1,e1,hl1,hr1,m1,s1⟩:=nH w (.cells c.arr 33) (.cells #[.int .i64 0,.int .i64 0,.int .i64 0,.int .i64 0,.int .i64 0,.int .i64 0,.int .i64 0] 38)
 have nFl:¬F w.heap.size:=fun q=>by have:=hv.lt _ q;omega
 have nFr:¬F (w.heap.size+1):=fun q=>by have:=hv.lt _ q;omega
 have MM:=hQQ m1
 have L0:=hQQ hl1
 have C0:=hQQ hr1
 have M0:=m0Z (hv.more m1) hD
 have KL:=klZ (p:=p) (kn:=kn) (n:=n) L0.o nFl
 have KC:Hq (∀wr D' F',MidV w1 wr F (fun _=>False) p kn n D' F'→wr.heap[w.heap.size+1]?=some (.cells #[.int .i64 0,.int .i64 0,.int .i64 0,.int .i64 0,.int .i64 0,.int .i64 0,.int .i64 0] 38 (0,0))):=hQQ fun wr D' F' h=>kV h C0.o nFr (fun q=>q)
 have NEED:=ndZ (F:=F) (p:=p) (kn:=kn) (R:=Rr) vTS MM.o
 have DONE:Hq (∀(x:TS) w2 D' F',Rr=.ok x D'→MidV w1 w2 F (fun _=>False) p kn n D' F'→bw w F p kn vTS Rr (.returned (.agg x.arr)) (w2.setRow (w.heap.size+1) x.arr)):=hQQ fun x w2 D' F' e h=>kF (g:=w.heap.size+1) MM.o h e (by omega) (by have:=ac C0.o;omega) nFr (KC.o _ _ _ h) (Turned.setRow (Turned.refl _ w2) _ _ (fun _=>rfl))
 have HK:=hQQ hk
 have HR:=hQQ R
 have HH:=hQQ H
 clear hl1 hr1 m1 hv hD hk R H nFl nFr
 have M0m:Hq (∀W,ae w1 W→MidV w1 W F (fun _=>False) p kn n D F):=hQQ fun W m=>M0.o.more m
 clear hw hn hs hq
 by_cases h6:k=6
 ·have HRr:=hQQ (show aJ (dJ (cA c.pg c.st q)) (fun x=>qu c (gu c q) (wrap64 (32 * x))) kn D=Rr from by rw[←hRr];unfold qw;rw[if_pos h6])
  have d1:(k==6)=true:=by simp[h6]
  clear hRr h6
  go_enter Tryz.func39,Tryz.ntmps39
  go_wp2_with fail
  clear e1
  refine gn (fun W=>W.heap[w.heap.size]?=some (.cells c.arr 33 (0,0))∧W.heap[w.heap.size+1]?=some (.cells #[.int .i64 0,.int .i64 0,.int .i64 0,.int .i64 0,.int .i64 0,.int .i64 0,.int .i64 0] 38 (0,0))) 12 (by kernel_rfl) ?_
  change jr _ _ _ _ _ _ _ _ _ (w1.drewN 1)
  have M0:Hq (ae w1 (w1.drewN 1)):=hQQ ((ae.refl w1).drewN 1)
  generalize w1.drewN 1=wq at M0⊢
  have S0:=hQQ (BgS.mk (M0m.o _ M0.o))
  generalize hA:Act.mk _ _=A
  have HF:AG 38 A [(0,.pointer (some ⟨p,0,none⟩)),(2,.int .i64 q),(5,.pointer (some ⟨w.heap.size,0,none⟩)),(8,.pointer (some ⟨w.heap.size+1,0,none⟩))]:=by
   rw[←hA];try simp only[pts,List.foldl]
   refine⟨⟨Nat.le_of_ble_eq_true rfl,rfl⟩,?_⟩
   intro z hz;simp only[List.mem_cons,List.not_mem_nil,or_false] at hz;rcases hz with rfl|rfl|rfl|rfl<;>rfl
  refine jT (fun aa W=>∃(u12 u13 u14 u15 u17 u18 u19 u16 u20 u21 u22 u23:Value),aa=(Act.put (pts A [(12,u12),(13,u13),(14,u14),(15,u15),(17,u17),(18,u18),(19,u19),(16,u16),(20,u20),(21,u21),(22,u22),(23,u23)]) none undef)∧∃(t:TS) (D9:List KV) (F9:Nat→Prop) (wy:World),W=wy.setRow (w.heap.size+1) t.arr∧MidV w1 wy F (fun _=>False) p kn n D9 F9∧Rr=.ok t D9) (fun W=>bw w F p kn vTS Rr (.panicked (eT p)) W) (eT p) (fun a W hd h=>⟨hd,h⟩) (fun _ _ _ _ _ h=>h) ?_ ?_
  ·skip
   rintro a9 wv ⟨u12,u13,u14,u15,u17,u18,u19,u16,u20,u21,u22,u23,rfl,t,D9,F9,wy,rfl,M9,R9⟩
   rw[←hA];try simp only[pts,List.foldl]
   have FIN:=hQQ (DONE.o t wy D9 F9 R9 M9)
   have C9:=hQQ (setRow_heap _ _ _ t.arr _ _ (KC.o _ _ _ M9))
   generalize wy.setRow (w.heap.size+1) t.arr=wv at FIN C9⊢
   clear HF hA M0 S0 M9 R9
   go_simp
   go_wp2_with fail
   refine bodyPost_ret (v:=.agg t.arr) (results_cell_row Tryz.results39 _ _ _ 38 _ (0,0) _ rfl C9.o Tryz.underlying38 rfl (by kernel_rfl)) rfl FIN.o
  intro QQ FINE FIND FINQ
  clear hA
  refine aR (i:=0) (v:=.pointer (some ⟨p,0,none⟩)) (by kernel_rfl) (by kernel_rfl) (by kernel_rfl) (some 12) rfl rfl (by kernel_rfl) (by kernel_rfl) (by kernel_rfl) (fun c a w=>FINQ c a _ _ w) ⟨KL.o _ _ _ S0.o.mid,KC.o _ _ _ S0.o.mid⟩ (by exact aV (ah rfl) _ rfl (HF.get 0 rfl)) ?_
  replace HF:=HF.put 12 (.pointer (some ⟨p,0,none⟩)) (by decide) rfl
  generalize β1:Act.put _ _ _=A at HF⊢
  refine aR (i:=1) (v:=.agg c.arr) (by kernel_rfl) (by kernel_rfl) (by kernel_rfl) (some 13) rfl rfl (by kernel_rfl) (by kernel_rfl) (by kernel_rfl) (fun c a w=>FINQ c a _ _ w) ⟨KL.o _ _ _ S0.o.mid,KC.o _ _ _ S0.o.mid⟩ (by exact bF (C:=(fun W=>W.heap[w.heap.size]?=some (.cells c.arr 33 (0,0))∧W.heap[w.heap.size+1]?=some (.cells #[.int .i64 0,.int .i64 0,.int .i64 0,.int .i64 0,.int .i64 0,.int .i64 0,.int .i64 0] 38 (0,0)))) (ah rfl) 33 _ rfl (w.heap.size) (HF.get 3 rfl) 33 _ _ _ (fun W hW=>hW.1) Tryz.underlying33 rfl (by kernel_rfl)) ?_
  replace HF:=HF.put 13 (.agg c.arr) (by decide) rfl
  generalize β2:Act.put _ _ _=A at HF⊢
  refine aR (i:=2) (v:=.agg c.arr) (by kernel_rfl) (by kernel_rfl) (by kernel_rfl) (some 14) rfl rfl (by kernel_rfl) (by kernel_rfl) (by kernel_rfl) (fun c a w=>FINQ c a _ _ w) ⟨KL.o _ _ _ S0.o.mid,KC.o _ _ _ S0.o.mid⟩ (by exact bF (C:=(fun W=>W.heap[w.heap.size]?=some (.cells c.arr 33 (0,0))∧W.heap[w.heap.size+1]?=some (.cells #[.int .i64 0,.int .i64 0,.int .i64 0,.int .i64 0,.int .i64 0,.int .i64 0,.int .i64 0] 38 (0,0)))) (ah rfl) 33 _ rfl (w.heap.size) (HF.get 4 rfl) 33 _ _ _ (fun W hW=>hW.1) Tryz.underlying33 rfl (by kernel_rfl)) ?_
  replace HF:=HF.put 14 (.agg c.arr) (by decide) rfl
  generalize β3:Act.put _ _ _=A at HF⊢
  refine aR (i:=3) (v:=.int .i64 q) (by kernel_rfl) (by kernel_rfl) (by kernel_rfl) (some 15) rfl rfl (by kernel_rfl) (by kernel_rfl) (by kernel_rfl) (fun c a w=>FINQ c a _ _ w) ⟨KL.o _ _ _ S0.o.mid,KC.o _ _ _ S0.o.mid⟩ (by exact aV (ah rfl) _ rfl (HF.get 4 rfl)) ?_
  replace HF:=HF.put 15 (.int .i64 q) (by decide) rfl
  generalize β4:Act.put _ _ _=A at HF⊢
  refine aR (i:=5) (v:=.pointer (some ⟨p,0,none⟩)) (by kernel_rfl) (by kernel_rfl) (by kernel_rfl) (some 17) rfl rfl (by kernel_rfl) (by kernel_rfl) (by kernel_rfl) (fun c a w=>FINQ c a _ _ w) ⟨KL.o _ _ _ S0.o.mid,KC.o _ _ _ S0.o.mid⟩ (by exact aV (ah rfl) _ rfl (HF.get 4 rfl)) ?_
  replace HF:=HF.put 17 (.pointer (some ⟨p,0,none⟩)) (by decide) rfl
  generalize β5:Act.put _ _ _=A at HF⊢
  refine aR (i:=6) (v:=.agg c.arr) (by kernel_rfl) (by kernel_rfl) (by kernel_rfl) (some 18) rfl rfl (by kernel_rfl) (by kernel_rfl) (by kernel_rfl) (fun c a w=>FINQ c a _ _ w) ⟨KL.o _ _ _ S0.o.mid,KC.o _ _ _ S0.o.mid⟩ (by exact bF (C:=(fun W=>W.heap[w.heap.size]?=some (.cells c.arr 33 (0,0))∧W.heap[w.heap.size+1]?=some (.cells #[.int .i64 0,.int .i64 0,.int .i64 0,.int .i64 0,.int .i64 0,.int .i64 0,.int .i64 0] 38 (0,0)))) (ah rfl) 33 _ rfl (w.heap.size) (HF.get 7 rfl) 33 _ _ _ (fun W hW=>hW.1) Tryz.underlying33 rfl (by kernel_rfl)) ?_
  replace HF:=HF.put 18 (.agg c.arr) (by decide) rfl
  generalize β6:Act.put _ _ _=A at HF⊢
  refine aR (i:=7) (v:=.int .i64 q) (by kernel_rfl) (by kernel_rfl) (by kernel_rfl) (some 19) rfl rfl (by kernel_rfl) (by kernel_rfl) (by kernel_rfl) (fun c a w=>FINQ c a _ _ w) ⟨KL.o _ _ _ S0.o.mid,KC.o _ _ _ S0.o.mid⟩ (by exact aV (ah rfl) _ rfl (HF.get 7 rfl)) ?_
  replace HF:=HF.put 19 (.int .i64 q) (by decide) rfl
  generalize β7:Act.put _ _ _=A at HF⊢
  refine dh (i:=4) (some 16) (by kernel_rfl) rfl (ah rfl) rfl (fun K hK=>?_)
  refine gS (v0:=.agg c.arr) (v1:=.int .i64 q) rfl (HF.get 4 rfl) (HF.get 3 rfl) (enters_of Tryz.func78 (by kernel_rfl) rfl) ?_
  refine(YA.o _).mono ?_
  rintro e y1 ⟨rfl,hm⟩
  have S1:=hQQ (S0.o.more hm)
  clear hm
  refine hK _ _ (.inr ⟨KL.o _ _ _ S1.o.mid,KC.o _ _ _ S1.o.mid⟩) ?_
  clear hK K
  replace HF:=HF.put 16 (.int .i64 (gu c q)) (by decide) rfl
  generalize β8:Act.put _ _ _=A at HF⊢
  refine dh (i:=8) (some 20) (by kernel_rfl) rfl (ah rfl) rfl (fun K hK=>?_)
  refine gS (v0:=.agg c.arr) (v1:=.int .i64 q) rfl (HF.get 2 rfl) (HF.get 1 rfl) (enters_of Tryz.func79 (by kernel_rfl) rfl) ?_
  refine(YC.o _).mono ?_
  rintro e y2 ⟨rfl,hm⟩
  have S2:=hQQ (S1.o.more hm)
  clear hm
  refine hK _ _ (.inr ⟨KL.o _ _ _ S2.o.mid,KC.o _ _ _ S2.o.mid⟩) ?_
  clear hK K
  replace HF:=HF.put 20 (.int .i64 (cA c.pg c.st q)) (by decide) rfl
  generalize β9:Act.put _ _ _=A at HF⊢
  refine dh (i:=9) (some 21) (by kernel_rfl) rfl (ah rfl) rfl (fun K hK=>?_)
  refine gS (v0:=.pointer (some ⟨p,0,none⟩)) (v1:=.int .i64 (cA c.pg c.st q)) rfl (HF.get 4 rfl) (HF.get 0 rfl) (enters_of Tryz.func76 (by kernel_rfl) rfl) ?_
  refine(mD F p kn D (cA c.pg c.st q) _ S2.o.mid.view PB.o.2.2).mono ?_
  intro e y3 he
  rcases S2.o.mid.step (ae.refl _) HK.o (fi n PB.o.2.1) he with⟨a',hE,rfl,hd',ht',hk'⟩|⟨x3,D3,F3,hE,rfl,M',hq3,hk',hf'⟩
  ·exact FIND _ _ HF.1.2 (NEED.o a' y3 (HRr.o.symm.trans (bK hE)) hd' ht')
  have R3:=hQQ ((bE hE).symm.trans HRr.o)
  have S3:=hQQ (S2.o.went M' hk' hf')
  clear he hE M' hk' hf'
  refine hK _ _ (.inr ⟨KL.o _ _ _ S3.o.mid,KC.o _ _ _ S3.o.mid⟩) ?_
  clear hK K
  replace HF:=HF.put 21 (.int .i64 x3) (by decide) rfl
  generalize β10:Act.put _ _ _=A at HF⊢
  refine aR (i:=10) (v:=.int .i64 (wrap64 (32 * x3))) (by kernel_rfl) (by kernel_rfl) (by kernel_rfl) (some 22) rfl rfl (by kernel_rfl) (by kernel_rfl) (by kernel_rfl) (fun c a w=>FINQ c a _ _ w) ⟨KL.o _ _ _ S3.o.mid,KC.o _ _ _ S3.o.mid⟩ (by exact(Or.inl ⟨(ah rfl),fun W hW=>by have h51:=(HF.getD 0 rfl);go_simp;rw[yG]⟩)) ?_
  replace HF:=HF.put 22 (.int .i64 (wrap64 (32 * x3))) (by decide) rfl
  generalize β11:Act.put _ _ _=A at HF⊢
  have R3p:=hQQ (show aJ (qu c (gu c q) (wrap64 (32 * x3))) (fun t=>aK t) kn D3=Rr from by rw[sq];exact R3.o)
  refine dh (i:=11) (some 23) (by kernel_rfl) rfl (ah rfl) rfl (fun K hK=>?_)
  refine iC (v0:=.pointer (some ⟨p,0,none⟩)) (v1:=.agg c.arr) (v2:=.int .i64 (gu c q)) (v3:=.int .i64 (wrap64 (32 * x3))) rfl (HF.get 10 rfl) (HF.get 9 rfl) (HF.get 3 rfl) (HF.get 0 rfl) (enters_of Tryz.func77 (by kernel_rfl) rfl) ?_
  refine(zX HR.o HH.o HW.o HN.o F3 p kn D3 (gu c q) (wrap64 (32 * x3)) _ S3.o.mid.view HK.o S3.o.mid.inv).mono ?_
  intro e y4 he
  rcases S3.o.mid.step (ae.refl _) HK.o (nm HR.o HH.o HW.o _ _) he with⟨a',hE,rfl,hd',ht',hk'⟩|⟨x4,D4,F4,hE,rfl,M',hq4,hk',hf'⟩
  ·exact FIND _ _ HF.1.2 (NEED.o a' y4 (R3p.o.symm.trans (bK hE)) hd' ht')
  have R4:=hQQ ((bE hE).symm.trans R3p.o)
  have S4:=hQQ (S3.o.went M' hk' hf')
  clear he hE M' hk' hf'
  refine hK _ _ (.inr ⟨KL.o _ _ _ S4.o.mid,KC.o _ _ _ S4.o.mid⟩) ?_
  clear hK K
  replace HF:=HF.put 23 ((vTS x4)) (by decide) rfl
  generalize β12:Act.put _ _ _=A at HF⊢
  refine dh (i:=12) none (by kernel_rfl) rfl (ah rfl) rfl (fun K hK=>?_)
  refine wp_store_row 38 _ _ rfl (w.heap.size+1) _ (HF.get 15 rfl) (HF.get 0 rfl) 38 _ (KC.o _ _ _ S4.o.mid) (by kernel_rfl) rfl (fD _) ?_
  refine hK _ _ (.inl (by kernel_rfl)) ?_
  exact lw (by kernel_rfl) (FINE _ _ ⟨(.pointer (some ⟨p,0,none⟩)),(.agg c.arr),(.agg c.arr),(.int .i64 q),(.pointer (some ⟨p,0,none⟩)),(.agg c.arr),(.int .i64 q),(.int .i64 (gu c q)),(.int .i64 (cA c.pg c.st q)),(.int .i64 x3),(.int .i64 (wrap64 (32 * x3))),((vTS x4)),by rw[← β12,← β11,← β10,← β9,← β8,← β7,← β6,← β5,← β4,← β3,← β2,← β1]<;>rfl,x4,D4,F4,y4,rfl,S4.o.mid,R4.o.symm⟩)
 ·have d1:(k==6)=false:=by simp[h6]
  by_cases h15:1≤k∧k≤5
  ·have HRr:=hQQ (show aJ (yz c q (k-1)) (fun t=>aK t) kn D=Rr from by rw[sq,←hRr];unfold qw;rw[if_neg h6,if_pos h15])
   have d2:decide (1≤k)=true:=by simp[h15.1]
   have d3:decide (k≤5)=true:=by simp[h15.2]
   have q1:IntKind.i64.wrap (k-1)=k-1:=am (by omega) (by omega)
   clear hRr h6 h15
   go_enter Tryz.func39,Tryz.ntmps39
   go_wp2_with (first|(refine cQ rfl rfl rfl L0.o (by kernel_rfl) ?_)|(refine cQ rfl rfl rfl L0.o (by kernel_rfl) ?_))
   clear e1
   refine(FM HR.o HH.o HW.o HN.o F p kn D q (k-1) HQ.o w1 M0.o.view HK.o M0.o.inv (HSW.o.more MM.o)).mono ?_
   intro e w3 he
   rcases M0.o.step (ae.refl _) HK.o (wl HR.o HH.o HW.o HQ.o _) he with⟨a',hE,rfl,hd',ht',_⟩|⟨x3,D3,F3,hE,rfl,M3,hq3,_,_⟩
   ·exact⟨rfl,NEED.o a' w3 (HRr.o.symm.trans (bK hE)) hd' ht'⟩
   have L3:=hQQ (KL.o _ _ _ M3)
   have R3:=hQQ ((bE hE).symm.trans HRr.o)
   have M3:=hQQ M3
   clear he hE
   have C3:=hQQ (KC.o _ _ _ M3.o)
   have FIN:=hQQ (DONE.o x3 w3 D3 F3 R3.o.symm M3.o)
   simp only[vTS]
   go_wp2_with (refine wpList_store_row rfl 38 _ _ rfl (w.heap.size+1) (TS.arr x3) rfl rfl 38 _ C3.o (by kernel_rfl) rfl (fD _) ?_)
   refine bodyPost_ret (v:=.agg (TS.arr x3)) (results_cell_row Tryz.results39 _ _ _ 38 _ (0,0) _ rfl (setRow_heap _ _ _ _ _ _ C3.o) Tryz.underlying38 rfl (by kernel_rfl)) rfl FIN.o
  ·have hR0:Rr=.ok noT D:=by rw[←hRr];unfold qw;rw[if_neg h6,if_neg h15];rfl
   have FIN:=hQQ (DONE.o noT w1 D F hR0 M0.o)
   clear hRr hR0
   by_cases h1:1≤k
   ·have d2:decide (1≤k)=true:=by simp[h1]
    have d3:decide (k≤5)=false:=by simp;omega
    clear h6 h15 h1
    go_enter Tryz.func39,Tryz.ntmps39
    go_wp2_with (refine wpList_store_row rfl 38 _ _ rfl (w.heap.size+1) (TS.arr noT) rfl rfl 38 _ C0.o (by kernel_rfl) rfl (fD _) ?_)
    refine bodyPost_ret (v:=.agg (TS.arr noT)) (results_cell_row Tryz.results39 _ _ _ 38 _ (0,0) _ rfl (setRow_heap _ _ _ _ _ _ C0.o) Tryz.underlying38 rfl (by kernel_rfl)) rfl FIN.o
   ·have d2:decide (1≤k)=false:=by simp;omega
    clear h6 h15 h1
    go_enter Tryz.func39,Tryz.ntmps39
    go_wp2_with (refine wpList_store_row rfl 38 _ _ rfl (w.heap.size+1) (TS.arr noT) rfl rfl 38 _ C0.o (by kernel_rfl) rfl (fD _) ?_)
    refine bodyPost_ret (v:=.agg (TS.arr noT)) (results_cell_row Tryz.results39 _ _ _ 38 _ (0,0) _ rfl (setRow_heap _ _ _ _ _ _ C0.o) Tryz.underlying38 rfl (by kernel_rfl)) rfl FIN.o
theorem Ko (s:TS)(z:Int):s.arr.setIfInBounds 5 (.int .i64 z)=({ s with ma:=z } :TS).arr:=by simp[TS.arr]
theorem Kp (s:TS)(z:Int):s.arr.setIfInBounds 6 (.int .i64 z)=({ s with us:=z } :TS).arr:=by simp[TS.arr]
theorem CtS.turn {c:Cfg}{w1 W W':World}{F F':Nat→Prop}{p n gs:Nat}{kn:Int→Option Int}{s t:TS}{D:List KV}(h:CtS c w1 F p kn n gs s D F' W)(T:Turned (fun k=>k=gs) W W')(hb:W'.heap[gs]?=some (.cells t.arr 38 (0,0))):CtS c w1 F p kn n gs t D F' W':=by
 refine⟨⟨h.mid.view.keepS (S:=fun k=>k=gs) T (fun k q e=>h.off (e▸q)) (fun k es cl e q=>by subst e;rw[h.box] at q;cases q),
  h.mid.from',aq h.mid.turn T (fun k q=>by
   subst q
   exact .inr h.ge),h.mid.inv⟩,hb,h.off,h.ge⟩
theorem Jw {c:Cfg}(R:c.Ok){n:Nat}(H:PgIn c.pg c.st n)(hw:(n:Int)=c.words)(hn:n≤10000){bt:Nat}(F:Nat→Prop)(p:Nat)(kn:Int→Option Int)(D:List KV)(q:Int)(hq64:W64 q)(w:World)(hv:bI w F p kn D)(hk:OkK kn)(hD:fy n D)(hs:jf bt w)(n0:¬F 0)(nb:¬F bt):
 Calls Tryz.prog 12 #[.pointer (some ⟨p,0,none⟩),.agg c.arr,.int .i64 q] w (bw w F p kn vTS (qW c q kn D)):=by
 obtain⟨Rr,hRr⟩:∃Rr,qW c q kn D=Rr:=⟨_,rfl⟩
 rw[hRr]
 have YK:=hQQ (fun W=>show Calls Tryz.prog 37 #[.agg c.arr,.int .i64 q] W (aF W (.int .i64 (cN c.pg c.st 0 q))) from xO R W q)
 have HW:=hQQ hw
 have HN:=hQQ hn
 have HSW:=hQQ hs
 have N0:=hQQ n0
 have NB:=hQQ nb
 have Q64:=hQQ hq64
 obtain⟨w1,e1,hl1,hr1,m1,s1⟩:=nH w (.cells c.arr 33) (.cells #[.int .i64 0,.int .i64 0,.int .i64 0,.int .i64 0,.int .i64 0,.int .i64 0,.int .i64 0] 38)
 have nFl:¬F w.heap.size:=fun q=>by have:=hv.lt _ q;omega
 have nFr:¬F (w.heap.size+1):=fun q=>by have:=hv.lt _ q;omega
 have MM:=hQQ m1
 have L0:=hQQ hl1
 have C0:=hQQ hr1
 have M0:=m0Z (hv.more m1) hD
 have KL:=klZ (p:=p) (kn:=kn) (n:=n) L0.o nFl
 have KC:Hq (∀wr D' F',MidV w1 wr F (fun _=>False) p kn n D' F'→wr.heap[w.heap.size+1]?=some (.cells #[.int .i64 0,.int .i64 0,.int .i64 0,.int .i64 0,.int .i64 0,.int .i64 0,.int .i64 0] 38 (0,0))):=hQQ fun wr D' F' h=>kV h C0.o nFr (fun q=>q)
 have NEED:=ndZ (F:=F) (p:=p) (kn:=kn) (R:=Rr) vTS MM.o
 have DONE:Hq (∀(x:TS) w2 D' F',Rr=.ok x D'→MidV w1 w2 F (fun _=>False) p kn n D' F'→bw w F p kn vTS Rr (.returned (.agg x.arr)) (w2.setRow (w.heap.size+1) x.arr)):=hQQ fun x w2 D' F' e h=>kF (g:=w.heap.size+1) MM.o h e (by omega) (by have:=ac C0.o;omega) nFr (KC.o _ _ _ h) (Turned.setRow (Turned.refl _ w2) _ _ (fun _=>rfl))
 have HK:=hQQ hk
 have HR:=hQQ R
 have HH:=hQQ H
 clear hl1 hr1 m1 hv hD hk R H nFl nFr
 have HS:Hq (∀wr D' F',MidV w1 wr F (fun _=>False) p kn n D' F'→jf bt wr):=hQQ fun wr D' F' h=>(HSW.o.more MM.o).keep h.turn (by rintro(z|z);exact N0.o z;exact z) (by rintro(z|z);exact NB.o z;exact z)
 clear hw hn hs n0 nb hq64
 cases hq:af c.pg q with
 |false =>
  have hR0:Rr=.ok noT D:=by rw[←hRr];unfold qW;rw[hq];rfl
  have FIN:Hq (∀W,ae w1 W→bw w F p kn vTS Rr (.returned (.agg noT.arr)) (W.setRow (w.heap.size+1) noT.arr)):=hQQ fun W m=>DONE.o noT W D F hR0 (M0.o.more m)
  have YK0:=hQQ (fun W=>Iz (st:=c.st) (i:=0) hq▸YK.o W)
  clear hRr hR0 hq YK
  go_enter Tryz.func12,Tryz.ntmps12
  go_wp2_with (first|(refine cQ rfl rfl rfl L0.o (by kernel_rfl) ?_)|(refine cQ rfl rfl rfl L0.o (by kernel_rfl) ?_))
  clear e1
  refine(YK0.o _).mono ?_
  rintro e w2 ⟨rfl,h2⟩
  have C2:=hQQ (h2.block C0.o)
  have H2:=hQQ h2
  clear h2
  go_wp2_with (refine wpList_store_row rfl 38 _ _ rfl (w.heap.size+1) (TS.arr noT) rfl rfl 38 _ C2.o (by kernel_rfl) rfl (fD _) ?_)
  refine bodyPost_ret (v:=.agg (TS.arr noT)) (results_cell_row Tryz.results12 _ _ _ 38 _ (0,0) _ rfl (setRow_heap _ _ _ _ _ _ C2.o) Tryz.underlying38 rfl (by kernel_rfl)) rfl (FIN.o _ H2.o)
 |true =>
  have HRr:=hQQ (show aJ (fK c.pg c.st q) (fun k=>aJ (qw c q k) (fun s=>aJ (gJ c.pg c.st q 1) (fun b=>aK (ov s b k)))) kn D=Rr from by rw[←hRr];unfold qW;rw[hq];rfl)
  have YK0:=hQQ (fun W=>pH (st:=c.st) hq▸YK.o W)
  have hz:=(cG HH.o hq).1.1
  have d1:(kA c.pg c.st q==0)=false:=by simp;omega
  have HQ:=hQQ hq
  clear hRr hq YK hz
  go_enter Tryz.func12,Tryz.ntmps12
  go_wp2_with (first|(refine cQ rfl rfl rfl L0.o (by kernel_rfl) ?_)|(refine cQ rfl rfl rfl L0.o (by kernel_rfl) ?_))
  clear e1
  refine(YK0.o _).mono ?_
  rintro e w2 ⟨rfl,h2⟩
  have M2:=hQQ (M0.o.more h2)
  have L2:=hQQ (KL.o _ _ _ M2.o)
  clear h2
  go_wp2_with (first|(refine cQ rfl rfl rfl L2.o (by kernel_rfl) ?_)|(refine cQ rfl rfl rfl L2.o (by kernel_rfl) ?_))
  refine(I3 HR.o HH.o F p kn D q w2 M2.o.view HK.o M2.o.inv).mono ?_
  intro e w3 he
  rcases M2.o.step (ae.refl _) HK.o (rq HH.o q) he with⟨a',hE,rfl,hd',ht',_⟩|⟨x3,D3,F3,hE,rfl,M3,hq3,_,_⟩
  ·exact⟨rfl,NEED.o a' w3 (HRr.o.symm.trans (bK hE)) hd' ht'⟩
  have L3:=hQQ (KL.o _ _ _ M3)
  have R3:=hQQ ((bE hE).symm.trans HRr.o)
  have M3:=hQQ M3
  clear he hE
  go_wp2_with (first|(refine cQ rfl rfl rfl L3.o (by kernel_rfl) ?_)|(refine cQ rfl rfl rfl L3.o (by kernel_rfl) ?_))
  refine(H9 HR.o HH.o HW.o HN.o F3 p kn D3 q x3 HQ.o w3 M3.o.view HK.o M3.o.inv (HS.o _ _ _ M3.o)).mono ?_
  intro e w4 he
  rcases M3.o.step (ae.refl _) HK.o (wm HR.o HH.o HW.o HQ.o x3) he with⟨a',hE,rfl,hd',ht',_⟩|⟨x4,D4,F4,hE,rfl,M4,hq4,_,_⟩
  ·exact⟨rfl,NEED.o a' w4 (R3.o.symm.trans (bK hE)) hd' ht'⟩
  have L4:=hQQ (KL.o _ _ _ M4)
  have R4:=hQQ ((bE hE).symm.trans R3.o)
  have M4:=hQQ M4
  clear he hE
  obtain⟨w5,e5,hb5,m5,s5⟩:=df w4 (.cells #[.int .i64 0,.int .i64 0,.int .i64 0,.int .i64 0,.int .i64 0,.int .i64 0,.int .i64 0] 38)
  have B5:=hQQ hb5
  obtain⟨w6,e6⟩:∃w6,w5.setRow w4.heap.size x4.arr=w6:=⟨_,rfl⟩
  have S6:Hq (CtS c w1 F p kn n w4.heap.size x4 D4 F4 w6):=hQQ (by
   have h5:CtS c w1 F p kn n w4.heap.size noT D4 F4 w5:=⟨M4.o.more m5,hb5,fun z=>by have:=M4.o.view.lt _ z;omega,by have:=M4.o.size;omega⟩
   rw[←e6]
   exact h5.put x4)
  have L6:=hQQ (KL.o _ _ _ S6.o.mid)
  clear hb5 m5 s5 M3 L3 R3 M2 L2 HRr M4 L4
  simp only[vTS]
  go_wp2_with (first|(refine wpList_store_row rfl 38 _ _ rfl w4.heap.size x4.arr rfl rfl 38 _ B5.o (by kernel_rfl) rfl (fD _) ?_;rw[e6])|(first|(refine cQ rfl rfl rfl L6.o (by kernel_rfl) ?_)|(refine cQ rfl rfl rfl L6.o (by kernel_rfl) ?_)))
  clear e5 e6 B5
  generalize w4.heap.size=gs at S6
  refine(DL HR.o HH.o.toTblIn F4 p kn D4 q 1 Q64.o w6 S6.o.mid.view HK.o S6.o.mid.inv).mono ?_
  intro e w7 he
  rcases S6.o.mid.step (ae.refl _) HK.o (oH HH.o.toTblIn q 1) he with⟨a',hE,rfl,hd',ht',hk'⟩|⟨x7,D7,F7,hE,rfl,M',hq7,hk',hf'⟩
  ·exact⟨rfl,NEED.o a' w7 (R4.o.symm.trans (bK hE)) hd' ht'⟩
  have R7:=hQQ ((bE hE).symm.trans R4.o)
  have S7:=hQQ (S6.o.went M' hk' hf')
  clear he hE M' hk' hf'
  clear S6 L6 R4
  go_wp2_with fail
  refine(IE x7 w7).mono ?_
  rintro e w8 ⟨rfl,h8⟩
  have S8:=hQQ (S7.o.more h8)
  have BX8:=hQQ S8.o.box
  clear h8 S7
  go_wp2_with (refine d9 rfl 3 _ _ rfl rfl gs 5 rfl (b2i x7) rfl _ _ BX8.o (by simp[TS.arr]) (by kernel_rfl) ?_;rw[Ko];intro w9 hb9 ht9;have S9:=hQQ (S8.o.turn ht9 hb9);clear hb9 ht9)
  refine(IE (!(x3==0)) w9).mono ?_
  rintro e w10 ⟨rfl,h10⟩
  have S10:=hQQ (S9.o.more h10)
  have BX10:=hQQ S10.o.box
  clear h10 S8 BX8 S9
  have hres:({ ({ x4 with ma:=b2i x7 } :TS) with us:=b2i (!(x3==0)) } :TS)=ov x4 x7 x3:=rfl
  have HRES:=hQQ hres
  have FIN:Hq (∀W,CtS c w1 F p kn n gs (ov x4 x7 x3) D7 F7 W→bw w F p kn vTS Rr (.returned (.agg (ov x4 x7 x3).arr)) (W.setRow (w.heap.size+1) (ov x4 x7 x3).arr)):=hQQ fun W h=>DONE.o (ov x4 x7 x3) W D7 F7 R7.o.symm h.mid
  clear hres R7
  go_wp2_with (first
   |(refine d9 rfl 3 _ _ rfl rfl gs 6 rfl (b2i (!(x3==0))) rfl _ _ BX10.o (by simp[TS.arr]) (by kernel_rfl) ?_;rw[Kp,HRES.o];intro w11 hb11 ht11;have S11:=hQQ (S10.o.turn ht11 hb11);have B11:=hQQ hb11;have C11:=hQQ (KC.o _ _ _ S11.o.mid);have FN:=hQQ (FIN.o _ S11.o);clear hb11 ht11 FIN S10 BX10)
   |(refine C7 rfl rfl rfl B11.o (by kernel_rfl) ?_)
   |(refine wpList_store_row rfl 38 _ _ rfl (w.heap.size+1) (ov x4 x7 x3).arr rfl rfl 38 _ C11.o (by kernel_rfl) rfl (fD _) ?_))
  refine bodyPost_ret (v:=.agg (ov x4 x7 x3).arr) (results_cell_row Tryz.results12 _ _ _ 38 _ (0,0) _ rfl (setRow_heap _ _ _ _ _ _ C11.o) Tryz.underlying38 rfl (by kernel_rfl)) rfl FN.o
theorem Ad {c:Cfg}(R:c.Ok){n:Nat}(H:PgIn c.pg c.st n)(hw:(n:Int)=c.words)(hn:n≤10000){bt:Nat}(F:Nat→Prop)(p:Nat)(kn:Int→Option Int)(D:List KV)(w:World)(hv:bI w F p kn D)(hk:OkK kn)(hD:fy n D)(hs:jf bt w)(n0:¬F 0)(nb:¬F bt):
 Calls Tryz.prog 13 #[.pointer (some ⟨p,0,none⟩),.agg c.arr] w (bw w F p kn vTS (qx c kn D)):=by
 obtain⟨Rr,hRr⟩:∃Rr,qx c kn D=Rr:=⟨_,rfl⟩
 rw[hRr]
 have HW:=hQQ hw
 have HN:=hQQ hn
 have HSW:=hQQ hs
 have N0:=hQQ n0
 have NB:=hQQ nb
 have pg1:=R.pg1
 have pg2:=R.pg2
 obtain⟨w1,e1,hl1,hr1,m1,s1⟩:=nH w (.cells c.arr 33) (.cells #[.int .i64 0,.int .i64 0,.int .i64 0,.int .i64 0,.int .i64 0,.int .i64 0,.int .i64 0] 38)
 have nFl:¬F w.heap.size:=fun q=>by have:=hv.lt _ q;omega
 have nFr:¬F (w.heap.size+1):=fun q=>by have:=hv.lt _ q;omega
 have MM:=hQQ m1
 have L0:=hQQ hl1
 have C0:=hQQ hr1
 have M0:=m0Z (hv.more m1) hD
 have KL:=klZ (p:=p) (kn:=kn) (n:=n) L0.o nFl
 have KC:Hq (∀wr D' F',MidV w1 wr F (fun _=>False) p kn n D' F'→wr.heap[w.heap.size+1]?=some (.cells #[.int .i64 0,.int .i64 0,.int .i64 0,.int .i64 0,.int .i64 0,.int .i64 0,.int .i64 0] 38 (0,0))):=hQQ fun wr D' F' h=>kV h C0.o nFr (fun q=>q)
 have NEED:=ndZ (F:=F) (p:=p) (kn:=kn) (R:=Rr) vTS MM.o
 have DONE:Hq (∀(x:TS) w2 D' F',Rr=.ok x D'→MidV w1 w2 F (fun _=>False) p kn n D' F'→bw w F p kn vTS Rr (.returned (.agg x.arr)) (w2.setRow (w.heap.size+1) x.arr)):=hQQ fun x w2 D' F' e h=>kF (g:=w.heap.size+1) MM.o h e (by omega) (by have:=ac C0.o;omega) nFr (KC.o _ _ _ h) (Turned.setRow (Turned.refl _ w2) _ _ (fun _=>rfl))
 have HK:=hQQ hk
 have HR:=hQQ R
 have HH:=hQQ H
 clear hl1 hr1 m1 hv hD hk R H nFl nFr
 have HS:Hq (∀wr D' F',MidV w1 wr F (fun _=>False) p kn n D' F'→jf bt wr):=hQQ fun wr D' F' h=>(HSW.o.more MM.o).keep h.turn (by rintro(z|z);exact N0.o z;exact z) (by rintro(z|z);exact NB.o z;exact z)
 have NZ:Hq (∀wr D' F',MidV w1 wr F (fun _=>False) p kn n D' F'→¬F' 0∧¬F' bt):=hQQ fun wr D' F' h=>⟨h.off (HSW.o.more MM.o).lt0 N0.o,h.off (HSW.o.more MM.o).lt NB.o⟩
 clear hw hn hs n0 nb
 obtain⟨w2,e2,hb2,m2,s2⟩:=df w1 (.cells #[.int .i64 0,.int .i64 0,.int .i64 0,.int .i64 0,.int .i64 0,.int .i64 0,.int .i64 0] 38)
 have S2:Hq (CtS c w1 F p kn n w1.heap.size noT D F w2):=hQQ ⟨M0.o.more m2,hb2,fun z=>by have:=M0.o.view.lt _ z;omega,Nat.le_refl _⟩
 have L2:=hQQ (KL.o _ _ _ S2.o.mid)
 have HRr:=hQQ (show tN c c.pg.toNat 0 noT kn D=Rr from hRr)
 have hfl:=oF c
 clear hRr hb2 m2 s2 s1
 go_enter Tryz.func13,Tryz.ntmps13
 go_wp2_with (first|(refine cQ rfl rfl rfl L2.o (by kernel_rfl) ?_)|(refine cQ rfl rfl rfl L2.o (by kernel_rfl) ?_))
 clear e1 e2
 refine(uC HR.o w2).mono ?_
 rintro e w3 ⟨rfl,h3⟩
 have S3:=hQQ (S2.o.more h3)
 clear h3 S2 L2
 generalize w1.heap.size=gs at S3
 go_wp2_with fail
 go_loopw [10] (fun iv wr=>∃(j:Nat) (s:TS) (D':List KV) (F':Nat→Prop),iv=.int .i64 j∧(j:Int)≤c.pg∧CtS c w1 F p kn n gs s D' F' wr∧tN c (c.pg.toNat-j) (j:Int) s kn D'=Rr) (fun iv _=>c.pg.toNat-(intOf iv).toNat)
 case atStart=>exact⟨0,noT,D,F,rfl,by omega,S3.o,by simpa using HRr.o⟩
 case round =>
  obtain⟨j,s,DD,FF,rfl,hj,hS,hR⟩:=hrel
  have SR:=hQQ hS
  clear S3 HRr hS hfl
  by_cases hlt:(j:Int)<c.pg
  ·obtain⟨m,hm⟩:∃m,c.pg.toNat-j=m+1:=⟨c.pg.toNat-j-1,by omega⟩
   have hm2:c.pg.toNat-(j+1)=m:=by omega
   rw[hm] at hR
   have RR:=hQQ (show aJ (qW c (j:Int)) (fun t=>tN c m ((j:Int)+1) (eF s t)) kn DD=Rr from hR)
   have d1:decide ((j:Int)<c.pg)=true:=by simp[hlt]
   have q1:IntKind.i64.wrap ((j:Int)+1)=(j:Int)+1:=am (by omega) (by omega)
   have HM2:=hQQ hm2
   have J64:Hq (W64 (j:Int)):=hQQ (by unfold W64;omega)
   clear hR hm hm2
   go_wp2_with fail
   refine gn (fun W=>W.heap[w.heap.size]?=some (.cells c.arr 33 (0,0))∧W.heap[gs]?=some (.cells s.arr 38 (0,0))) 6 (by kernel_rfl) ?_
   change jr _ _ _ _ _ _ _ _ _ (wr.drewN 1)
   have M0:Hq (ae wr (wr.drewN 1)):=hQQ ((ae.refl wr).drewN 1)
   generalize wr.drewN 1=wq at M0⊢
   have S0:=hQQ (SR.o.more M0.o)
   generalize hA:Act.mk _ _=A
   have HF:AG 21 A [(0,.pointer (some ⟨p,0,none⟩)),(3,.pointer (some ⟨w.heap.size,0,none⟩)),(5,.pointer (some ⟨gs,0,none⟩)),(6,.int .i64 (j:Int))]:=by
    rw[←hA];try simp only[pts,List.foldl]
    refine⟨⟨Nat.le_of_ble_eq_true rfl,rfl⟩,?_⟩
    intro z hz;simp only[List.mem_cons,List.not_mem_nil,or_false] at hz;rcases hz with rfl|rfl|rfl|rfl<;>rfl
   refine jT (fun aa W=>∃(u13 u14 u15 u16 u17 u18:Value),aa=(Act.put (pts A [(13,u13),(14,u14),(15,u15),(16,u16),(17,u17),(18,u18)]) none undef)∧∃t D9 F9 wy,W=wy.setRow gs (eF s t).arr∧CtS c w1 F p kn n gs s D9 F9 wy∧tN c m ((j:Int)+1) (eF s t) kn D9=Rr) (fun W=>bw w F p kn vTS Rr (.panicked (eT p)) W) (eT p) (fun a W hd h=>⟨hd,h⟩) (fun _ _ _ _ _ h=>h) ?_ ?_
   ·skip
    rintro a9 wv ⟨u13,u14,u15,u16,u17,u18,rfl,t,D9,F9,wy,rfl,S9,R9⟩
    rw[←hA];try simp only[pts,List.foldl]
    have SV:=hQQ (S9.put (eF s t))
    have RV:=hQQ R9
    generalize wy.setRow gs (eF s t).arr=wv at SV⊢
    clear HF hA M0 S0 S9 R9 RR SR
    go_simp
    go_wp2_with fail
    go_roundw
    case rel=>exact⟨j+1,eF s t,D9,F9,by go_num,by omega,SV.o,by rw[HM2.o,show(((j+1:Nat):Int))=(j:Int)+1 by omega];exact RV.o⟩
    case measure=>simp[intOf];omega
   intro QQ FINE FIND FINQ
   clear hA
   refine aR (i:=0) (v:=.agg s.arr) (by kernel_rfl) (by kernel_rfl) (by kernel_rfl) (some 13) rfl rfl (by kernel_rfl) (by kernel_rfl) (by kernel_rfl) (fun c a w=>FINQ c a _ _ w) (S0.o.cls KL.o) (by exact bF (C:=(fun W=>W.heap[w.heap.size]?=some (.cells c.arr 33 (0,0))∧W.heap[gs]?=some (.cells s.arr 38 (0,0)))) (ah rfl) 38 _ rfl (gs) (HF.get 2 rfl) 38 _ _ _ (fun W hW=>hW.2) Tryz.underlying38 rfl (by kernel_rfl)) ?_
   replace HF:=HF.put 13 (.agg s.arr) (by decide) rfl
   generalize β1:Act.put _ _ _=A at HF⊢
   refine aR (i:=1) (v:=.pointer (some ⟨p,0,none⟩)) (by kernel_rfl) (by kernel_rfl) (by kernel_rfl) (some 14) rfl rfl (by kernel_rfl) (by kernel_rfl) (by kernel_rfl) (fun c a w=>FINQ c a _ _ w) (S0.o.cls KL.o) (by exact aV (ah rfl) _ rfl (HF.get 1 rfl)) ?_
   replace HF:=HF.put 14 (.pointer (some ⟨p,0,none⟩)) (by decide) rfl
   generalize β2:Act.put _ _ _=A at HF⊢
   refine aR (i:=2) (v:=.agg c.arr) (by kernel_rfl) (by kernel_rfl) (by kernel_rfl) (some 15) rfl rfl (by kernel_rfl) (by kernel_rfl) (by kernel_rfl) (fun c a w=>FINQ c a _ _ w) (S0.o.cls KL.o) (by exact bF (C:=(fun W=>W.heap[w.heap.size]?=some (.cells c.arr 33 (0,0))∧W.heap[gs]?=some (.cells s.arr 38 (0,0)))) (ah rfl) 33 _ rfl (w.heap.size) (HF.get 3 rfl) 33 _ _ _ (fun W hW=>hW.1) Tryz.underlying33 rfl (by kernel_rfl)) ?_
   replace HF:=HF.put 15 (.agg c.arr) (by decide) rfl
   generalize β3:Act.put _ _ _=A at HF⊢
   refine aR (i:=3) (v:=.int .i64 (j:Int)) (by kernel_rfl) (by kernel_rfl) (by kernel_rfl) (some 16) rfl rfl (by kernel_rfl) (by kernel_rfl) (by kernel_rfl) (fun c a w=>FINQ c a _ _ w) (S0.o.cls KL.o) (by exact aV (ah rfl) _ rfl (HF.get 6 rfl)) ?_
   replace HF:=HF.put 16 (.int .i64 (j:Int)) (by decide) rfl
   generalize β4:Act.put _ _ _=A at HF⊢
   refine dh (i:=4) (some 17) (by kernel_rfl) rfl (ah rfl) rfl (fun K hK=>?_)
   refine jd (v0:=.pointer (some ⟨p,0,none⟩)) (v1:=.agg c.arr) (v2:=.int .i64 (j:Int)) rfl (HF.get 2 rfl) (HF.get 1 rfl) (HF.get 0 rfl) (enters_of Tryz.func12 (by kernel_rfl) rfl) ?_
   refine(Jw HR.o HH.o HW.o HN.o FF p kn DD (j:Int) J64.o _ S0.o.mid.view HK.o S0.o.mid.inv (HS.o _ _ _ S0.o.mid) (NZ.o _ _ _ S0.o.mid).1 (NZ.o _ _ _ S0.o.mid).2).mono ?_
   intro e y1 he
   rcases S0.o.mid.step (ae.refl _) HK.o (wn HR.o HH.o HW.o _) he with⟨a',hE,rfl,hd',ht',hk'⟩|⟨x1,D1,F1,hE,rfl,M',hq1,hk',hf'⟩
   ·exact FIND _ _ HF.1.2 (NEED.o a' y1 (RR.o.symm.trans (bK hE)) hd' ht')
   have R1:=hQQ ((bE hE).symm.trans RR.o)
   have S1:=hQQ (S0.o.went M' hk' hf')
   clear he hE M' hk' hf'
   refine hK _ _ (.inr (S1.o.cls KL.o)) ?_
   clear hK K
   replace HF:=HF.put 17 ((vTS x1)) (by decide) rfl
   generalize β5:Act.put _ _ _=A at HF⊢
   refine dh (i:=5) (some 18) (by kernel_rfl) rfl (ah rfl) rfl (fun K hK=>?_)
   refine gS (v0:=.agg s.arr) (v1:=(vTS x1)) rfl (HF.get 4 rfl) (HF.get 0 rfl) (enters_of Tryz.func20 (by kernel_rfl) rfl) ?_
   refine(ID s x1 _).mono ?_
   rintro e y2 ⟨rfl,hm⟩
   have S2:=hQQ (S1.o.more hm)
   clear hm
   refine hK _ _ (.inr (S2.o.cls KL.o)) ?_
   clear hK K
   replace HF:=HF.put 18 (.agg (eF s x1).arr) (by decide) rfl
   generalize β6:Act.put _ _ _=A at HF⊢
   refine dh (i:=6) none (by kernel_rfl) rfl (ah rfl) rfl (fun K hK=>?_)
   refine wp_store_row 38 _ _ rfl gs _ (HF.get 8 rfl) (HF.get 0 rfl) 38 _ S2.o.box (by kernel_rfl) rfl (fD _) ?_
   refine hK _ _ (.inl (by kernel_rfl)) ?_
   exact lw (by kernel_rfl) (FINE _ _ ⟨(.agg s.arr),(.pointer (some ⟨p,0,none⟩)),(.agg c.arr),(.int .i64 (j:Int)),((vTS x1)),(.agg (eF s x1).arr),by rw[← β6,← β5,← β4,← β3,← β2,← β1]<;>rfl,x1,D1,F1,y2,rfl,S2.o,R1.o⟩)
  ·have hje:c.pg.toNat-j=0:=by omega
   have hR':aK s kn DD=Rr:=by rw[hje] at hR;exact hR
   have d1:decide ((j:Int)<c.pg)=false:=by simp;omega
   have BX:=hQQ SR.o.box
   have CR:=hQQ (KC.o _ _ _ SR.o.mid)
   have FIN:=hQQ (DONE.o s wr DD FF hR'.symm SR.o.mid)
   clear hR hR' SR hje
   go_wp2_with (first|(refine C7 rfl rfl rfl BX.o (by kernel_rfl) ?_)|(refine wpList_store_row rfl 38 _ _ rfl (w.heap.size+1) s.arr rfl rfl 38 _ CR.o (by kernel_rfl) rfl (fD _) ?_))
   refine bodyPost_ret (v:=.agg s.arr) (results_cell_row Tryz.results13 _ _ _ 38 _ (0,0) _ rfl (setRow_heap _ _ _ _ _ _ CR.o) Tryz.underlying38 rfl (by kernel_rfl)) rfl FIN.o
def Kq (w:World)(S:Nat→Prop)(Y:World→Prop)(X:Nat→World→Prop)(R:Ran)(e:Ending)(w':World):Prop :=
 match R with
 | .need a=>e=.returned (.tuple #[.int .i64 a,.slice none 0 0])∧Turned S w w'∧Y w'
 | .done D=>∃v p b,e=.returned (.tuple #[.int .i64 (-1),v])∧PRw w.heap.size w' v D∧Turned S w w'∧Y w'∧(w.heap.size≤b∧X b w')∧eC w' p (-1)
theorem Ia (kn:Int→Option Int)(R:Ran)(M n:Nat)(w:World)(hk:KnownAt w M n kn)(f:Nat)(cap:Array Value)(S:Nat→Prop)(Y:World→Prop)(X:Nat→World→Prop)
 (henter:∀args w,Sem.run Tryz.prog (callFunc f args) w=.ok (.enter f args) w) (hS:∀k,S k→k<w.heap.size) (hY:∀w' w'',Y w'→Turned (fun k=>w.heap.size≤k) w' w''→Y w'') (hX:∀b w' w'',w.heap.size≤b→X b w'→Turned (fun k=>w.heap.size≤k∧k<b) w' w''→X b w'') (hY0:Y w)
 (hprog:∀(W:World) (F:Nat→Prop) (p:Nat),ae w W→Y W→bI W F p kn []→(∀k,F k→w.heap.size≤k)→Calls Tryz.prog f (#[.pointer (some ⟨p,0,none⟩)]++cap) W (lG W F S Y (X W.heap.size) p kn R)):
 Calls Tryz.prog 35 #[.map (some M),.func (.func f) #[] cap] w (Kq w S Y X R):=by
 have hq:∀w,Sem.run Tryz.prog (binOp BinOp.eql 45 (Value.func (.func f) #[] cap) Value.nilFunc) w=.ok (.bool false) w:=fun w=>mB w _ Tryz.underlying45 _ _ _
 have hmf:∀(fn:Fn) (first cap:Array Value) (w:World),(Instr.makeFunc fn first cap).run Tryz.prog w=.ok (.func fn first cap) w:=fun _ _ _ _=>rfl
 have HK:=hQQ hk
 have HS:=hQQ hS
 have HX:=hQQ hX
 have HY:=hQQ hY
 have HY0:=hQQ hY0
 have HP:=hQQ hprog
 clear hk hS hX hY hY0 hprog
 go_enter_defers Tryz.func35,Tryz.ntmps35
 go_wp2_with fail
 refine(IX _).mono ?_
 rintro e w1 ⟨F0,q,rfl,m1,M1,n1⟩
 obtain⟨F,hbeg⟩:=Dv HK.o m1 M1 n1
 have HB:=hQQ hbeg
 have hws:w.heap.size<w1.heap.size:=by have:=M1.size;simp at this;omega
 clear hbeg m1 M1 n1
 go_wp2_with fail
 change Calls _ _ _ ((w1.alloc (.cells (bS (some ⟨w1.heap.size,0,none⟩) M q (-1)) 107)).alloc (.cells #[.pointer (some ⟨w1.heap.size,0,none⟩)] 42)) _
 generalize (w1.alloc (.cells (bS (some ⟨w1.heap.size,0,none⟩) M q (-1)) 107)).alloc (.cells #[.pointer (some ⟨w1.heap.size,0,none⟩)] 42)=W at HB⊢
 generalize w1.heap.size+1=bv at HB⊢
 generalize w1.heap.size=p at HB⊢
 have hlw:Hq (∀k,k<w.heap.size→k≠bv∧k≠p):=hQQ fun k hk=>by have:=HB.o.lv;have:=HB.o.lp;omega
 have HPW:Hq (p<W.heap.size):=hQQ (by obtain⟨_,_,_,_,_,_,_,fp,_,_⟩:=HB.o.view.ex;exact HB.o.view.lt p fp)
 clear hws
 refine(HP.o W F p HB.o.more (HY.o _ _ HY0.o (Turned.mono HB.o.more (fun _ _ q=>q.elim))) HB.o.view HB.o.new).mono ?_
 intro e w2 he
 cases R with
 |need a =>
  obtain⟨rfl,hd,ht,hy⟩:=he
  obtain⟨hv2,hn2,ne1,ne2⟩:=yU HB.o HS.o ht
  change bodyPostD _ _ _ (Exit.panic (eT p)) _ _
  refine leaves_cons (f:=73) (args:=#[.pointer (some ⟨bv,0,none⟩),.pointer (some ⟨w.heap.size,0,none⟩)]) (by simp) (by simp[go_sem]) ?_
  refine(AJ p bv w.heap.size a 0 w2 hd hv2 hn2 ne1 ne2 HB.o.vn).mono ?_
  rintro e u' w3 ⟨rfl,rfl,hc⟩
  obtain⟨b0,_,_⟩:=bd hc.2.1
  have FIN:Turned S w w3∧Y w3:=⟨uv HB.o ht hc.2.2,HY.o _ _ hy (hc.2.2.mono (fun k _ q=>by have:=HB.o.lp;rcases q with q|q<;>omega))⟩
  simp[Leaves,settle,results,Tryz.results35,go_sem,b0]
  exact⟨rfl,FIN⟩
 |done D =>
  obtain⟨rfl,⟨F',hv⟩,ht,hy,hx⟩:=he
  obtain⟨hv2,hn2,ne1,ne2⟩:=yU HB.o HS.o ht
  obtain⟨M',q',n',F0',hp2,hk2,hm2,fp2,f02,fM2⟩:=hv.ex
  obtain⟨c0,c1,c2,c3,cf,cl⟩:=dC hp2
  obtain⟨v0,vf,vl⟩:=bd hv2
  have TOLD:=hQQ (Gy F0' p q' D w2 c2 hm2)
  have HT:=hQQ ht
  have HX2:=hQQ hx
  have HY2:=hQQ hy
  have HP2:=hQQ hp2
  have HV2:=hQQ hv2
  have HN2:=hQQ hn2
  clear hv hk2 hm2 fp2 f02 fM2 hp2 hv2 hn2 ht hx hy
  go_wp2_with fail
  refine TOLD.o.mono ?_
  rintro e w3 ⟨v,rfl,hr,hm3⟩
  obtain⟨n0,nf,nl⟩:=bd (hm3.block HN2.o)
  have HR:=hQQ hr
  have HM3:=hQQ hm3
  clear hr hm3
  go_wp2_with fail
  have t4:Turned (fun k=>k=p∨k=w.heap.size) w3 (w3.setCell ⟨w.heap.size,0,none⟩ (.int .i64 (-1))):=cu (Turned.refl _ w3) (fun _=> .inr rfl) _
  have hp4:(w3.setCell ⟨w.heap.size,0,none⟩ (.int .i64 (-1))).heap[p]?=_:=(Below.heap_setCell _ _ _ _ (Ne.symm ne2)).trans (HM3.o.block HP2.o)
  have hv4:(w3.setCell ⟨w.heap.size,0,none⟩ (.int .i64 (-1))).heap[bv]?=_:=(Below.heap_setCell _ _ _ _ HB.o.vn).trans (HM3.o.block HV2.o)
  have hn4:=kT (.int .i64 (-1)) (HM3.o.block HN2.o)
  have hm3:=HM3.o
  have hr:=HR.o
  have hlp2:=cl
  have hln2:w.heap.size<w2.heap.size:=ac HN2.o
  generalize w3.setCell ⟨w.heap.size,0,none⟩ (.int .i64 (-1))=w4 at t4 hp4 hv4 hn4⊢
  refine leaves_cons (f:=73) (args:=#[.pointer (some ⟨bv,0,none⟩),.pointer (some ⟨w.heap.size,0,none⟩)]) (by simp) (by simp[go_sem]) ?_
  refine(xo p bv w.heap.size M' q' (-1) w4 hp4 hv4 hn4 ne1 ne2 HB.o.vn).mono ?_
  rintro e u' w5 ⟨rfl,rfl,hc⟩
  obtain⟨b0,_,_⟩:=bd hc.2.1
  have t35:Turned (fun k=>k=p∨k=w.heap.size) w3 w5:=t4.trans hc.2.2
  have FIN:Kq w S Y X (.done D) (.returned (.tuple #[.int .i64 (-1),v])) w5:=by
   refine⟨v,p,W.heap.size,rfl,(hr.keep t35 (fun k hk q=>by rcases q with q|q<;>omega)).mono (by omega),?_,?_,?_,hc.1⟩
   ·exact uv HB.o HT.o ((Turned.mono hm3 (fun _ _ q=>q.elim)).trans t35)
   ·have hlp:=HB.o.lp
    exact HY.o w2 w5 HY2.o ((Turned.mono hm3 (fun _ _ q=>q.elim)).trans (t35.mono (fun k _ q=>by rcases q with q|q<;>omega)))
   ·have hlp:=HB.o.lp
    have hpW:=HPW.o
    exact⟨by omega,HX.o W.heap.size w2 w5 (by omega) HX2.o ((Turned.mono hm3 (fun _ _ q=>q.elim)).trans (t35.mono (fun k _ q=>by rcases q with q|q<;>omega)))⟩
  simp[Leaves,settle,results,Tryz.results35,go_sem,b0]
  exact FIN
def Ib (w:World)(S:Nat→Prop)(Y:World→Prop)(X:Nat→World→Prop)(R:Option (List Int×List KV))(e:Ending)(w':World):Prop :=
 match R with
 |none=>e=.returned (.tuple #[.slice none 0 0,.slice none 0 0,.int .i64 3])∧Turned S w w'∧Y w'
 |some (ws,K)=>∃v1 v2 b,e=.returned (.tuple #[v1,v2,.int .i64 0])∧Rw w.heap.size w' v1 ws∧PRw w.heap.size w' v2 K∧Turned S w w'∧Y w'∧w.heap.size≤b∧X b w'
theorem Ic {w wb wr w2 w3:World}{S:Nat→Prop}{Y:World→Prop}{X:Nat→World→Prop}{M:Nat}{zs:List Int}{sem:List KV→Ran}{R:Option (List Int×List KV)}{K D:List KV}{a' an:Option Addr}{cap' cn:Nat}{e:Ending}(h:OnY w wb wr S Y M zs sem R K (.slice an K.length cn))(hs:sem K=.done D)(mb:ae w wb)(hM:w.heap.size≤M)
 (hl:∀k,fx a' k→w.heap.size≤k∧k<wb.heap.size) (hS:∀k,S k→k<w.heap.size) (m2:Turned S wr w2) (hf:ki w2 zs D a' cap' (.slice an K.length cn) e w3)
 (hY:∀w' w'',Y w'→Turned (fun k=>w.heap.size≤k) w' w''→Y w'') (hX:∀b w' w'',w.heap.size≤b→X b w'→Turned (fun k=>w.heap.size≤k∧k<b) w' w''→X b w'') (y2:Y w2) {b:Nat} (hb:wb.heap.size≤b) (x2:X b w2):Ib w S Y X R e w3:=by
 have hR:=CX h.okn hs h.res
 have mbS:Turned S w wb:=Turned.mono mb (fun _ _ q=>q.elim)
 have t3:Turned S w w3:=by
  have t1:Turned S w wr:=aq mbS h.turn (fun k q=>by rcases q with q|q;exact .inr (by omega);exact .inl q)
  exact aq (aq t1 m2 (fun k q=> .inl q)) hf.1 (fun k q=> .inr (hl k q).1)
 have t23:Turned (fun k=>w.heap.size≤k) w2 w3:=hf.1.mono (fun k _ q=>(hl k q).1)
 rcases hf.2 with⟨h1,h2,h3⟩|⟨h1,h2⟩
 ·rw[hR,if_pos h1]
  have hlen:(bG zs D).length=zs.length:=dS D zs
  have hwb:=mb.size
  refine⟨_,_,b,h2,?_,?_,t3,hY _ _ y2 t23,by omega,hX b _ _ (by omega) x2 (hf.1.mono (fun k _ q=>by have:=hl k q;omega))⟩
  ·have:=h3.own (base:=w.heap.size) (fun k q=>(hl k q).1)
   unfold Rw
   rw[List.length_map,hlen] at this
   rw[hlen];exact this
  ·have hb:=mb.size
   exact((h.row.keep m2 (fun k hk q=>by have:=hS k q;omega)).keep hf.1 (fun k hk q=>by have:=(hl k q).2;omega)).mono mb.size
 ·rw[hR,h1]
  exact⟨h2,t3,hY _ _ y2 t23⟩
theorem FO (a:Option Addr)(cap:Nat)(zs:List Int)(sem:List KV→Ran)(R:Option (List Int×List KV))(b:Nat)(w:World)(hz:ig w a zs)(hlen:zs.length≤1000)(hok:OkW zs)(hfine:yO zs b sem)(hb:b≤100000)(hR:doP sem zs (zs.length+1) []=R)(f:Nat)(clo:Array Value)(S:Nat→Prop)(Y:World→Prop)(X:Nat→World→Prop)(hS:∀k,S k→k<w.heap.size)
 (hY:∀w' w'',Y w'→Turned (fun k=>w.heap.size≤k) w' w''→Y w'') (hX:∀b w' w'',w.heap.size≤b→X b w'→Turned (fun k=>w.heap.size≤k∧k<b) w' w''→X b w'') (hY0:Y w)
 (henter:∀args w,Sem.run Tryz.prog (callFunc f args) w=.ok (.enter f args) w)
 (hprog:∀(K:List KV),jx zs K→∀(W:World) (F:Nat→Prop) (p:Nat),Turned S w W→Y W→bI W F p (look K) []→(∀k,F k→w.heap.size≤k)→Calls Tryz.prog f (#[.pointer (some ⟨p,0,none⟩)]++clo) W (lG W F S Y (X W.heap.size) p (look K) (sem K))):
 Calls Tryz.prog 10 #[.slice a zs.length cap,.func (.func f) #[] clo] w (Ib w S Y X R):=by
 have hmm:= @run_makeMap Tryz.prog
 have CL:=hQQ (ux a cap zs w hz (by omega))
 have HOK:=hQQ hok
 have HF:=hQQ hfine
 have HR0:=hQQ hR
 have HE:=hQQ henter
 have HP:=hQQ hprog
 have HSS:=hQQ hS
 have HY:=hQQ hY
 have HX:=hQQ hX
 have HY0:=hQQ hY0
 clear hz hok hfine hR henter hprog hS hY hX hY0
 go_enter Tryz.func10,Tryz.ntmps10
 go_wp2_with fail
 refine CL.o.mono ?_
 rintro e w1 ⟨a',cap',rfl,hr1,hn1,hm1⟩
 have DO0:Hq (OnY w (w1.alloc (.map #[] 0)) (w1.alloc (.map #[] 0)) S Y w1.heap.size zs sem R [] (.slice none 0 0)):=hQQ
  ⟨ua zs,HR0.o,PRw.nil _ _,KnownAt.made w1,Turned.refl _ _,HY.o _ _ HY0.o (Turned.mono (hm1.alloc _) (fun _ _ q=>q.elim))⟩
 have MB:Hq (ae w (w1.alloc (.map #[] 0))):=hQQ (hm1.alloc _)
 have RB:=hQQ (hr1.keep ((ae.refl w1).alloc (.map #[] 0)) (fun _ _ q=>q))
 have HL:Hq (∀k,fx a' k→w.heap.size≤k∧k<(w1.alloc (.map #[] 0)).heap.size∧k≠w1.heap.size):=hQQ fun k q=>⟨hn1 k q,by have:=hr1.lt k q;simp;omega,by have:=hr1.lt k q;omega⟩
 have hwM:w.heap.size≤w1.heap.size:=hm1.size
 have hMb:w1.heap.size<(w1.alloc (.map #[] 0)).heap.size:=by simp
 clear hr1 hn1 hm1 CL
 go_wp2_with fail
 generalize w1.alloc (.map #[] 0)=wb at DO0 MB RB HL hMb⊢
 generalize w1.heap.size=M at DO0 HL hwM hMb⊢
 go_loopw [8] (fun u8 wr=>∃K,OnY w wb wr S Y M zs sem R K u8∧yV u8=K.length) (fun u8 _=>zs.length+1-yV u8)
 case atStart=>exact⟨[],DO0.o,rfl⟩
 case round =>
  obtain⟨K,hdo,hln⟩:=hrel
  obtain⟨an,cn,rfl,hpn,_⟩:=hdo.row.reads
  have DO:=hQQ hdo
  have hKl:=hdo.okn.len
  have hsz:w.heap.size≤wr.heap.size:=Nat.le_trans MB.o.size hdo.turn.size
  have hmr:Turned S w wr:=aq (Turned.mono MB.o (fun _ _ q=>q.elim)) hdo.turn (fun k q=>by rcases q with q|q;exact .inr (by omega);exact .inl q)
  have LS:=hQQ (fun k (q:S k)=>HSS.o k q)
  have RUN:=hQQ (Ia (look K) (sem K) M K.length wr hdo.known f clo S Y X HE.o (fun k q=>Nat.lt_of_lt_of_le (HSS.o k q) hsz) (fun w' w'' h t=>HY.o w' w'' h (t.mono (fun k _ q=>Nat.le_trans hsz q))) (fun b w' w'' hb h t=>HX.o b w' w'' (by omega) h (t.mono (fun k _ q=>by omega))) hdo.y
   (fun W F p m y v n=>HP.o K hdo.okn W F p (aq (F':=fun _=>False) hmr m (fun _ q=>q.elim)) y v (fun k hk=>Nat.le_trans hsz (n k hk))))
  have HFK:=hQQ (HF.o K hdo.okn)
  have RW:Hq (RowAt wr 3 (zs.map (Value.int .i64)) a' cap'):=hQQ (RB.o.keep hdo.turn (fun k q e=>by rcases e with e|e;exact(HL.o k q).2.2 e;have:=HSS.o k e;have:=(HL.o k q).1;omega))
  clear hdo hpn hmr hsz DO0 hln
  go_wp2_with fail
  refine RUN.o.mono ?_
  intro e w2 he
  cases hs:sem K with
  |need x =>
   rw[hs] at he
   obtain⟨rfl,hm2,hy2⟩:=he
   have HS:=hQQ hs
   have hx0:0≤x:=by have:=HFK.o;rw[hs] at this;exact this.1
   clear hs RUN
   obtain⟨j,rfl⟩:∃j:Nat,x=j:=⟨x.toNat,by omega⟩
   have HM2:Hq (Turned S wr w2):=hQQ hm2
   have Y2:=hQQ hy2
   have nSM:¬S M:=fun q=>by have:=HSS.o M q;omega
   have nSa:∀k,fx a' k→¬S k:=fun k q r=>by have:=HSS.o k r;have:=(HL.o k q).1;omega
   have bW:w.heap.size≤wb.heap.size:=MB.o.size
   clear hm2 hy2
   have HFJ:=HFK.o
   rw[HS.o] at HFJ
   by_cases hj:j<zs.length
   ·obtain⟨q1,q2,q3,q4⟩:=CW DO.o.okn HFK.o HS.o (by omega) DO.o.res
    have d1:decide ((zs.length:Int)≤(j:Int))=false:=by simp;omega
    have d3:decide (zs.length≤j)=false:=by simp;omega
    have d2:decide ((j:Int)<0)=false:=by simp
    have hrow:=RW.o.keep HM2.o nSa
    obtain⟨g,rfl,hg,hcell,_⟩:=hrow.reads (by simp;omega)
    have hgM:g≠M:=(HL.o g rfl).2.2
    have cw:w2.cell? ⟨g,j,none⟩=some (.int .i64 (wAt zs j)):=by
     refine hcell j _ ?_
     unfold wAt
     rw[List.getElem?_map,List.getElem?_eq_getElem hj]
     simp[List.getD,hj]
    obtain⟨w3,hst,hk3,ht3⟩:=(DO.o.known.keep HM2.o nSM).store HFJ.2.1 (CU HOK.o j) (by unfold maxLen;omega)
    rw[Aw q4] at hk3
    have T23:=hQQ ht3
    have K3:=hQQ hk3
    have cw3:=eW ht3 hgM cw
    have hg3:g<w3.heap.size:=Nat.lt_of_lt_of_le hg ht3.size
    have TB3:Hq (Turned (fun k=>k=M∨S k) wb w3):=hQQ ((aq DO.o.turn HM2.o (fun _ q=> .inl (.inr q))).trans (ht3.mono (fun _ _ q=> .inl q)))
    have YW3:Hq (Y w3):=hQQ (HY.o _ _ Y2.o (ht3.mono (fun k _ q=>by subst q;exact hwM)))
    have R3:Hq (PRw wb.heap.size w3 (.slice an K.length cn) K):=hQQ ((DO.o.row.keep HM2.o (fun k hk q=>by have:=HSS.o k q;omega)).keep ht3 (fun k hk e=>by omega))
    have NX:Hq (∀w4 v,PRw wb.heap.size w4 v (K++ [((j:Int),wAt zs j)])→Turned (fun k=>k=M∨S k) wb w4→(∀k ob,w3.heap[k]?=some ob→(Value.slice an K.length cn).ownBlock≠some k→w4.heap[k]?=some ob)→Y w4→OnY w wb w4 S Y M zs sem R (K++ [((j:Int),wAt zs j)]) v):=hQQ fun w4 v h1 h2 h3 h5 =>
     ⟨q1,q2,h1,by rw[List.length_append];exact K3.o.of_block (fun ob ho=>h3 M ob ho (fun e=>by have:=(DO.o.row.lt M e).1;omega)),h2,h5⟩
    clear hrow hcell hk3 ht3 q1 q2 q3 q4 HFJ
    generalize wAt zs j=z at cw hst cw3 NX
    go_wp2_with (at_builtin;refine sM (S:=fun k=>k=M∨S k) (wa:=wb) (ps:=K) (j:Int) z rfl _ _ rfl rfl R3.o TB3.o (by omega) rfl ?_;intro g4 c4 w4 h4 t4 k4 u4;have N4:=hQQ (NX.o _ _ h4 t4 k4 (HY.o _ _ YW3.o (u4.mono (fun k _ q=>Nat.le_trans bW (DO.o.row.lt k q).1))));clear h4 t4 k4 u4)
    go_roundw
    case rel=>exact⟨_,N4.o,by simp[yV]⟩
    case measure=>simp[yV];omega
   ·have hn:=Gj DO.o.okn HS.o (by omega) DO.o.res
    subst hn
    have d1:decide ((zs.length:Int)≤(j:Int))=true:=by simp;omega
    have d3:decide (zs.length≤j)=true:=by simp;omega
    have d2:decide ((j:Int)<0)=false:=by simp
    have FIN:Hq (Ib w S Y X none (.returned (.tuple #[.slice none 0 0,.slice none 0 0,.int .i64 3])) w2):=hQQ ⟨rfl,aq (aq (Turned.mono MB.o (fun _ _ q=>q.elim)) DO.o.turn (fun k q=>by rcases q with q|q;exact .inr (by omega);exact .inl q)) HM2.o (fun k q=> .inl q),Y2.o⟩
    clear HFJ hj
    go_wp2_with fail
    go_ret3
    exact FIN.o
  |done D =>
   rw[hs] at he
   obtain⟨v,p,bX,rfl,hr,hm2,hy2,⟨hbX,hx2⟩,_⟩:=he
   have nSa:∀k,fx a' k→¬S k:=fun k q r=>by have:=HSS.o k r;have:=(HL.o k q).1;omega
   obtain⟨ad,cd,rfl,hpd,hbd⟩:=hr.reads
   have hfk:=HFK.o
   rw[hs] at hfk
   have FINI:=hQQ (AK zs D a' ad an cap' cd K.length cn w2 (RW.o.keep hm2 nSa) hpd (by have:=hfk.2.2;omega) (by omega) hfk.1 (fun k q r=>by have:=hbd k q;have:=(HL.o k r).2.1;have:=DO.o.turn.size;omega))
   have FIN:Hq (∀e w3,ki w2 zs D a' cap' (.slice an K.length cn) e w3→Ib w S Y X R e w3):=hQQ fun e w3 h=>Ic DO.o hs MB.o hwM (fun k q=>⟨(HL.o k q).1,(HL.o k q).2.1⟩) HSS.o hm2 h HY.o HX.o hy2 (Nat.le_trans DO.o.turn.size hbX) hx2
   clear hs RUN hr hm2 hpd hbd hfk hy2 hx2
   go_wp2_with fail
   refine FINI.o.mono ?_
   intro e w3 he
   have hfin:=FIN.o e w3 he
   rcases he.2 with⟨_,rfl,_⟩|⟨_,rfl⟩
   ·have F2:=hQQ hfin
    clear hfin he
    go_wp2_with fail
    go_ret3
    exact F2.o
   ·have F2:=hQQ hfin
    clear hfin he
    go_wp2_with fail
    go_ret3
    exact F2.o
def gq (g:Nat)(w:World)(s:TS):Prop:=w.heap[g]?=some (.cells s.arr 38 (0,0))
structure yH (c:Cfg)(g1 g2 bt:Nat)(w:World):Prop where
 h1:w.heap[g1]?=some (.cells c.arr 33 (0,0))
 h2:∃s,gq g2 w s
 sz:jf bt w
theorem Id {c:Cfg}(R:c.Ok){n bt:Nat}(H:PgIn c.pg c.st n)(hw:(n:Int)=c.words)(hn:n≤10000)(F:Nat→Prop)(p g1 g2:Nat)(kn:Int→Option Int)(W:World)(hv:bI W F p kn [])(hk:OkK kn)(hY:yH c g1 g2 bt W)(n1:¬F g1)(n2:¬F g2)(n0:¬F 0)(nb:¬F bt)(hd:g1≠g2∧0≠g2∧bt≠g2)(V:TS)
 (ht:∀x D,qx c kn []=.ok x D→x=V):
 Calls Tryz.prog 28 #[.pointer (some ⟨p,0,none⟩),.pointer (some ⟨g1,0,none⟩),.pointer (some ⟨g2,0,none⟩)] W (lG W F (fun b=>b=g2) (fun w'=>yH c g1 g2 bt w') (fun w'=>gq g2 w' V) p kn (hZ (qx c kn []))):=by
 obtain⟨Rr,hR⟩:∃Rr,qx c kn []=Rr:=⟨_,rfl⟩
 rw[hR] at ht⊢
 obtain⟨d12,d02,db2⟩:=hd
 obtain⟨x0,h2⟩:=hY.h2
 have L1:=hQQ hY.h1
 have KT:∀wr,Turned (fun b=>F b∨b=g2) W wr→(∃s,gq g2 wr s)→yH c g1 g2 bt wr:=fun wr t a =>
  ⟨(t.block g1 (ac hY.h1) (by rintro(q|q);exact n1 q;exact d12 q)).trans hY.h1,a,hY.sz.keep t (by rintro(q|q);exact n0 q;exact d02 q) (by rintro(q|q);exact nb q;exact db2 q)⟩
 have M0:MidV W W F (fun b=>b=g2) p kn n [] F:=MidV.begin hv (fZ _)
 have CT:=Ad R H hw hn F p kn [] W hv hk (fZ _) hY.sz n0 nb
 have G:=nn R H hw
 have NEED:Hq (∀x w2,Rr=.need x→eC w2 p x→Turned (fun b=>F b∨b=g2) W w2→(∃s,gq g2 w2 s)→lG W F (fun b=>b=g2) (fun w'=>yH c g1 g2 bt w') (fun w'=>gq g2 w' V) p kn (hZ Rr) (.panicked (eT p)) w2):=hQQ fun x w2 e hd' ht' a =>
  yW (pA e) hd' ht' (KT _ ht' a)
 have DONE:Hq (∀x w2 D F',Rr=.ok x D→MidV W w2 F (fun b=>b=g2) p kn n D F'→gq g2 w2 x0→¬F' g2→lG W F (fun b=>b=g2) (fun w'=>yH c g1 g2 bt w') (fun w'=>gq g2 w' V) p kn (hZ Rr) (.returned (.tuple #[])) (w2.setRow g2 x.arr)):=hQQ fun x w2 D F' e h b2 nf2=>by
  obtain rfl:=ht x D e
  have hm:=h.setRow (b:=g2) (fun _=>rfl) nf2 x.arr b2
  have e2:gq g2 (w2.setRow g2 x.arr) x:=setRow_heap w2 g2 _ x.arr _ _ b2
  exact yX hm (uz e) (KT _ hm.turn ⟨_,e2⟩) e2
 have HR:=hQQ hR
 clear ht KT hR
 go_enter Tryz.func28,Tryz.ntmps28
 go_wp2_with (refine cQ rfl rfl rfl L1.o (by kernel_rfl) ?_)
 refine CT.mono ?_
 intro e w4 he
 rcases M0.step (ae.refl _) hk G he with⟨a',hE,rfl,hd',ht',hk4⟩|⟨x4,D4,F4,hE,rfl,M4,_,hk4,hn4⟩
 ·exact⟨rfl,NEED.o a' w4 (HR.o.symm.trans hE) hd' ht' ⟨_,hk4 _ _ n2 h2⟩⟩
 have b2:gq g2 w4 x0:=hk4 _ _ n2 h2
 have nf2:¬F4 g2:=fun q=>by
  rcases hn4 _ q with r|r
  ·exact n2 r
  ·have:=ac h2;omega
 have FIN:=hQQ (DONE.o x4 w4 D4 F4 (HR.o.symm.trans hE) M4 b2 nf2)
 have B2:=hQQ b2
 clear he hE hk4 hn4 M4 b2
 simp only[vTS]
 go_wp2_with (refine wpList_store_row rfl 38 _ _ rfl g2 x4.arr rfl rfl 38 _ B2.o (by kernel_rfl) rfl (fD _) ?_)
 go_end0
 exact FIN.o
theorem Jy {c:Cfg}(R:c.Ok){bt:Nat}(zs:List Int)(H:PgIn c.pg c.st zs.length)(hw:(zs.length:Int)=c.words)(hn:zs.length≤1000)(ok:OkW zs)(w:World)(g1 g2:Nat)(a:Option Addr)(cap:Nat)(hY:yH c g1 g2 bt w)(hd:g1≠g2∧0≠g2∧bt≠g2)(hz:ig w a zs):
 Calls Tryz.prog 10 #[.slice a zs.length cap,.func (.func 28) #[] #[.pointer (some ⟨g1,0,none⟩),.pointer (some ⟨g2,0,none⟩)]] w (fun e w'=>∃v1 v2,e=.returned (.tuple #[v1,v2,.int .i64 0])∧w'.heap[g1]?=some (.cells c.arr 33 (0,0))∧gq g2 w' (tlV c zs)∧Turned (fun b=>b=g2) w w'):=by
 have l1:=ac hY.h1
 have l2:g2<w.heap.size:=by obtain⟨x,h⟩:=hY.h2;exact ac h
 have l0:=hY.sz.lt0
 have lb:=hY.sz.lt
 have G:=nn R H hw
 obtain⟨K',hK',_,hans⟩:=yR (zs:=zs) (rV c) G ok (wB R H hw)
 have M:=FO a cap zs (fun K=>hZ (qx c (look K) [])) (some (_,K')) zs.length w hz (by omega) ok (yQ G ok (by omega)) (by omega) hK' 28 #[.pointer (some ⟨g1,0,none⟩),.pointer (some ⟨g2,0,none⟩)] (fun k=>k=g2)
  (fun w'=>yH c g1 g2 bt w') (fun b w'=>gq g2 w' (tlV c zs))
  (fun k q=>by subst q;assumption)
  (fun w' w'' y t=>⟨(t.block g1 (ac y.h1) (by omega)).trans y.h1,by obtain⟨z,q⟩:=y.h2;exact⟨z,(t.block g2 (ac q) (by omega)).trans q⟩,y.sz.keep t (by omega) (by omega)⟩)
  (fun b w' w'' hb x t=>(t.block g2 (ac x) (by omega)).trans x) hY (enters_of Tryz.func28 (by kernel_rfl) rfl)
  (fun K hK W F p t y hv hF=>Id R H hw (by omega) F p g1 g2 (look K) W hv (sx hK ok) y (fun q=>by have:=hF _ q;omega) (fun q=>by have:=hF _ q;omega) (fun q=>by have:=hF _ q;omega) (fun q=>by have:=hF _ q;omega) hd _
   (fun x D e=>hans K hK x D e))
 refine M.mono ?_
 rintro e w' ⟨v1,v2,b,rfl,r1,_,t,y,hb,x⟩
 exact⟨v1,v2,rfl,y.h1,x,t⟩
def Cw (x y:Int):Int:=if y<x then y else x
def ra (x y:Int):Int:=if x<y then y else x
section
variable {P:Program}{ops:Array Oper}{rest:List Oper}{o:Oper}{a:Act}{w:World}{Q:Exit→Act→World→Prop}
theorem Ie (x:Int)(xs:List Int)(ats:Array TypeId)(ty:TypeId)(w:World):(Builtin.min_ ats ty ((x::xs).map (Value.int .i64)).toArray).run P w=.ok (.int .i64 (xs.foldl Cw x)) w:=by
 show Sem.run P ((xs.map (Value.int .i64)).foldlM Builtin.min2 (.int .i64 x)) w=_
 induction xs generalizing x with
 |nil=>rfl
 |cons y xs ih =>
  rw[List.map_cons,List.foldlM_cons,Sem.run_bind]
  show Result.andThen _ _=_
  rw[show Sem.run P (Builtin.min2 (.int .i64 x) (.int .i64 y)) w=.ok (.int .i64 (Cw x y)) w from rfl]
  exact ih (Cw x y)
theorem Ae (x:Int)(xs:List Int)(ats:Array TypeId)(ty:TypeId)(w:World):(Builtin.max_ ats ty ((x::xs).map (Value.int .i64)).toArray).run P w=.ok (.int .i64 (xs.foldl ra x)) w:=by
 show Sem.run P ((xs.map (Value.int .i64)).foldlM Builtin.max2 (.int .i64 x)) w=_
 induction xs generalizing x with
 |nil=>rfl
 |cons y xs ih =>
  rw[List.map_cons,List.foldlM_cons,Sem.run_bind]
  show Result.andThen _ _=_
  rw[show Sem.run P (Builtin.max2 (.int .i64 x) (.int .i64 y)) w=.ok (.int .i64 (ra x y)) w from rfl]
  exact ih (ra x y)
end
def kP (s:TS):Int:= [s.ak,s.wo,s.ke,s.op,s.ma,s.us].foldl Cw s.bl
def wH (s:TS):Int:= [s.ak,s.wo,s.ke,s.op,s.ma,s.us].foldl ra s.bl
theorem Jz (x y b:Int):b≤Cw x y↔b≤x∧b≤y:=by unfold Cw;split<;>omega
theorem FP (x y b:Int):ra x y≤b↔x≤b∧y≤b:=by unfold ra;split<;>omega
theorem iq (s:TS)(b:Int):b≤kP s↔b≤s.bl∧b≤s.ak∧b≤s.wo∧b≤s.ke∧b≤s.op∧b≤s.ma∧b≤s.us:=by
 simp only[kP,List.foldl,Jz,and_assoc]
theorem js (s:TS)(b:Int):wH s≤b↔s.bl≤b∧s.ak≤b∧s.wo≤b∧s.ke≤b∧s.op≤b∧s.ma≤b∧s.us≤b:=by
 simp only[wH,List.foldl,FP,and_assoc]
def mr (a:TS):Bool:=decide (0≤kP a) && (decide (ra a.wo a.ke≤35184372088832) && (decide (a.us≤1099511627776) && (decide (ra a.ak a.bl≤a.wo) && (decide (a.us≤a.ma) && (a.op==wrap64 (wrap64 (wrap64 (a.us * 32)-a.wo)-a.ke))))))
theorem Af (a:TS)(w:World):Calls Tryz.prog 18 #[.agg a.arr] w (aF w (.bool (mr a))):=by
 obtain⟨L,hL⟩:∃L,kP a=L:=⟨_,rfl⟩
 have rL:∀W,Sem.run Tryz.prog (Builtin.min_ #[3,3,3,3,3,3,3] 3 #[.int .i64 a.bl,.int .i64 a.ak,.int .i64 a.wo,.int .i64 a.ke,.int .i64 a.op,.int .i64 a.ma,.int .i64 a.us]) W=.ok (.int .i64 L) W:=fun W=>hL▸Ie a.bl [a.ak,a.wo,a.ke,a.op,a.ma,a.us] _ _ W
 obtain⟨X,hX⟩:∃X,ra a.wo a.ke=X:=⟨_,rfl⟩
 have rX:∀W,Sem.run Tryz.prog (Builtin.max_ #[3,3] 3 #[.int .i64 a.wo,.int .i64 a.ke]) W=.ok (.int .i64 X) W:=fun W=>hX▸Ae a.wo [a.ke] _ _ W
 obtain⟨Y,hY⟩:∃Y,ra a.ak a.bl=Y:=⟨_,rfl⟩
 have rY:∀W,Sem.run Tryz.prog (Builtin.max_ #[3,3] 3 #[.int .i64 a.ak,.int .i64 a.bl]) W=.ok (.int .i64 Y) W:=fun W=>hY▸Ae a.ak [a.bl] _ _ W
 unfold mr
 rw[hL,hX,hY]
 clear hL hX hY
 obtain⟨w1,e1,h0,m1,s1⟩:=df w (.cells a.arr 38)
 obtain⟨a0,a1,a2,a3,a4,a5,a6⟩:=np a h0
 have MM:=hQQ m1
 clear h0 m1 s1
 by_cases h0:0≤L
 ·have d0:decide (0≤L)=true:=decide_eq_true h0
  clear h0
  by_cases h1:X≤35184372088832
  ·have d1:decide (X≤35184372088832)=true:=decide_eq_true h1
   clear h1
   by_cases h2:a.us≤1099511627776
   ·have d2:decide (a.us≤1099511627776)=true:=decide_eq_true h2
    clear h2
    by_cases h3:Y≤a.wo
    ·have d3:decide (Y≤a.wo)=true:=decide_eq_true h3
     clear h3
     by_cases h4:a.us≤a.ma
     ·have d4:decide (a.us≤a.ma)=true:=decide_eq_true h4
      clear h4
      go_enter Tryz.func18,Tryz.ntmps18
      go_wp2_with fail
      go_ret
      exact⟨by simp only[d0,d1,d2,d3,d4,Bool.true_and,Bool.not_true,Bool.not_false,Int.mul_comm 32];rfl,MM.o⟩
     ·have d4:decide (a.us≤a.ma)=false:=decide_eq_false h4
      clear h4
      go_enter Tryz.func18,Tryz.ntmps18
      go_wp2_with fail
      go_ret
      exact⟨by simp only[d4,d0,d1,d2,d3,Bool.true_and,Bool.false_and,Bool.not_true,Bool.not_false];rfl,MM.o⟩
    ·have d3:decide (Y≤a.wo)=false:=decide_eq_false h3
     clear h3
     go_enter Tryz.func18,Tryz.ntmps18
     go_wp2_with fail
     go_ret
     exact⟨by simp only[d3,d0,d1,d2,Bool.true_and,Bool.false_and,Bool.not_true,Bool.not_false];rfl,MM.o⟩
   ·have d2:decide (a.us≤1099511627776)=false:=decide_eq_false h2
    clear h2
    go_enter Tryz.func18,Tryz.ntmps18
    go_wp2_with fail
    go_ret
    exact⟨by simp only[d2,d0,d1,Bool.true_and,Bool.false_and,Bool.not_true,Bool.not_false];rfl,MM.o⟩
  ·have d1:decide (X≤35184372088832)=false:=decide_eq_false h1
   clear h1
   go_enter Tryz.func18,Tryz.ntmps18
   go_wp2_with fail
   go_ret
   exact⟨by simp only[d1,d0,Bool.true_and,Bool.false_and,Bool.not_true,Bool.not_false];rfl,MM.o⟩
 ·have d0:decide (0≤L)=false:=decide_eq_false h0
  clear h0
  go_enter Tryz.func18,Tryz.ntmps18
  go_wp2_with fail
  go_ret
  exact⟨by simp only[d0,Bool.true_and,Bool.false_and,Bool.not_true,Bool.not_false];rfl,MM.o⟩
def eqT (a b:TS):Bool:=(a.bl==b.bl) && ((a.ak==b.ak) && ((a.wo==b.wo) && ((a.ke==b.ke) && ((a.op==b.op) && ((a.ma==b.ma) && (a.us==b.us))))))
theorem Ig (a b:TS)(W:World):(Op.equalIn 10000 38 (.agg a.arr) (.agg b.arr)).run Tryz.prog W=.ok (eqT a b) W:=by
 rw[show(10000:Nat)=9999+1 from rfl,run_equalIn_struct W 9999 _ _ _ (by kernel_rfl) (by kernel_rfl)]
 have hu:Tryz.prog.underlying 3=some (.int .i64):=Tryz.underlying3
 have e:=fun x y=>run_equalIn_int (P:=Tryz.prog) W 9998 3 .i64 .i64 x y hu
 have hf : (Tryz.prog.fieldsOf 38).toList.map (fun f => (f.name == "_", f.type, f.offset)) = [(false, 3, 0), (false, 3, 1), (false, 3, 2), (false, 3, 3), (false, 3, 4), (false, 3, 5), (false, 3, 6)] := by kernel_rfl
 have p:∀(xs:Array Value) (k:Nat) (v:Value),xs[k]?=some v→(part 3 xs k).run Tryz.prog W=.ok v W:=fun xs k v h=>run_part_plain W (by kernel_rfl) h
 have key : ∀ (f : Field) (fs : List Field) (k : Nat) (x y : Int), (f.name == "_", f.type, f.offset) = (false, 3, k) → a.arr[k]? = some (.int .i64 x) → b.arr[k]? = some (.int .i64 y) → ∀ r, (Op.eqFields 9999 a.arr b.arr fs).run Tryz.prog W = .ok r W → (Op.eqFields 9999 a.arr b.arr (f :: fs)).run Tryz.prog W = .ok ((x == y) && r) W := by
  intro f fs k x y hk hx hy r hr
  simp only[Prod.mk.injEq] at hk
  obtain⟨h1,h2,h3⟩:=hk
  have h1' : f.name ≠ "_" := by simpa using h1
  rw[Op.eqFields,if_pos h1',h2,h3]
  simp only[Sem.run_bind,p _ _ _ hx,p _ _ _ hy,Result.andThen_ok,e]
  cases x==y
  ·simp
  ·simpa using hr
 generalize (Tryz.prog.fieldsOf 38).toList=fs at hf⊢
 have hl:=congrArg List.length hf
 simp only[List.length_map,List.length_cons,List.length_nil] at hl
 obtain⟨f0,f1,f2,f3,f4,f5,f6,rfl⟩:∃f0 f1 f2 f3 f4 f5 f6,fs= [f0,f1,f2,f3,f4,f5,f6]:=by
  rcases fs with _|⟨f0,_|⟨f1,_|⟨f2,_|⟨f3,_|⟨f4,_|⟨f5,_|⟨f6,_|⟨f7,fs⟩⟩⟩⟩⟩⟩⟩⟩<;>simp at hl
  exact⟨_,_,_,_,_,_,_,rfl⟩
 simp only[List.map_cons,List.map_nil,List.cons.injEq,and_true] at hf
 obtain⟨h0,h1,h2,h3,h4,h5,h6⟩:=hf
 unfold eqT
 refine key f0 _ 0 _ _ h0 rfl rfl _ ?_
 refine key f1 _ 1 _ _ h1 rfl rfl _ ?_
 refine key f2 _ 2 _ _ h2 rfl rfl _ ?_
 refine key f3 _ 3 _ _ h3 rfl rfl _ ?_
 refine key f4 _ 4 _ _ h4 rfl rfl _ ?_
 refine key f5 _ 5 _ _ h5 rfl rfl _ ?_
 rw[key f6 [] 6 a.us b.us h6 rfl rfl true rfl,Bool.and_true]
theorem yI {ops:Array Oper}{rest:List Oper}{o:Oper}{a:Act}{w:World}{Q:Exit→Act→World→Prop}(x y:Operand)(ho:o.op=.binOp .eql 38 x y 38)(hw:Region.wanted o (yielded ops a.tmps)=true)(s t:TS)(hx:a.eval x=.agg s.arr)(hy:a.eval y=.agg t.arr)(r:Bool)(hr:eqT s t=r)
 (h:wpList Tryz.prog ops Q rest (a.put o.dst (.bool r)) w):wpList Tryz.prog ops Q (o::rest) a w :=
 eI hw fun K hK=>by
  subst hr
  have hg:Sem.run Tryz.prog (eqGuard .eql 38 x y (.agg s.arr) (.agg t.arr)) w=.ok () w:=run_eqGuard_agg w .eql 38 x y s.arr t.arr (by kernel_rfl)
  have hb:Sem.run Tryz.prog (binOp .eql 38 (.agg s.arr) (.agg t.arr)) w=.ok (.bool (eqT s t)) w:=by
   rw[run_eql_struct,Ig]
   rfl
  unfold Oper.wp execOp
  simp only[ho,hx,hy,Sem.run_bind,hg,hb,Result.andThen_ok]
  exact hK _ _ h
def ep:Cfg:=⟨2,2,4,2,0,0,1,2,0,0,1⟩
def Ag:Cfg:=⟨2,2,4,2,0,0,1,2,0,0,2⟩
theorem jt:ep.Ok:=by constructor<;>decide
theorem gt:ep.words=(384:Nat):=by decide
theorem lx:cB ep.pg ep.st 384:= { st1:=by decide,st2:=by decide,pg1:=by decide,pg2:=by decide,top:=by decide,top5:=by decide,top62:=by decide }
def pl:Cfg:=⟨aM 0 1 64,aM 0 1 8,aM 0 1 256,aM 0 1 64,aM 0 0 16,aM 0 0 64,aM 0 1 1099511627776,aM 0 1 8,aM 0 0 8,aM 0 0 16,aM 0 1 8⟩
theorem yJ:pl.Ok:=zd 0 0 0 0 0 0 0 0 0 0 0
def Ih:Cfg:=⟨2,2,2,2,0,0,1,2,0,0,2⟩
theorem yK:kr pl=Ih:=by rfl
def oP:AlT:=alW ep 0 (fun _=> []) 3 1 (bQ 384)
def Cx:List Int:=(mo (aX ep 256) 3 oP.2).2
theorem Ah:oP.1.1.1=(256,4)∧oP.1.2=0:=⟨by kernel_rfl,by kernel_rfl⟩
theorem tT:oP.2.length=384:=by kernel_rfl
theorem nw:Cx.length=384:=by kernel_rfl
theorem Ii:OkW Cx:=by
 have h:Cx.all (fun x=>decide (-9223372036854775808≤x) && decide (x≤9223372036854775807))=true:=by kernel_rfl
 intro x hx
 have:=List.all_eq_true.1 h x hx
 simp only[Bool.and_eq_true,decide_eq_true_eq] at this
 unfold W64
 omega
def FQ:TS:=⟨1,3,4,0,28,4,1⟩
theorem JA:tlV ep Cx=FQ:=by kernel_rfl
theorem Cy:mr FQ=true:=by kernel_rfl
theorem Ij {w:World}{g n:Nat}(h:w.heap[g]?=some (.cells (iQ (bQ n)) 3 (0,0)))(hn:n≤1000000):Ws w g n (bQ n):=
 ⟨_,h,by simp[bQ],by simp only[maxLen];omega,by simp[iQ,bQ],fun i hi=>by simp[bQ] at hi;simp[iQ,bQ,hi]⟩
theorem FU (w:World)(g:Nat)(hw:Ws w g 384 (bQ 384)):Calls Tryz.prog 26 #[.agg ep.cells,.slice (some ⟨g,0,none⟩) 384 384,.int .i64 0,.agg #[.slice none 0 0],.int .i64 3,.int .i64 1] w (AlR w g 384 0 oP):=by
 have F:=rQ jt lx (by rw[gt]) ep.us
 have:=sm jt (bQ 384) (by rw[il];exact lx) (by rw[il];omega) (by rw[il,gt]) (P:=fun _=> []) (O:=[]) (u:=0) (fun j _=>by decide) (by rw[il];exact F) g 384 (by decide) 3 1 (by decide) (.slice none 0 0) [] vU (by decide) w (IR.nil 0 w) hw
 rw[il] at this
 exact this
theorem FV (w:World)(g:Nat)(hw:Ws w g 384 oP.2):Calls Tryz.prog 27 #[.agg ep.cells,.slice (some ⟨g,0,none⟩) 384 384,.int .i64 256,.int .i64 3] w (og w g 384 (.bool (mo (aX ep 256) 3 oP.2).1) Cx):=by
 have:=vW jt oP.2 (by rw[tT];exact lx) (by rw[tT,gt]) g 384 256 3 w hw
 rw[tT] at this
 exact this
theorem qE (bt:Nat)(w:World)(hs:jf bt w):Calls Tryz.prog 7 #[] w (aF w (.bool true)):=by
 have SM:=hQQ (rn yJ 0 0 0 0 0 0 0 0 0 0 0 _ w (fun W=>uH 0 0 0 0 0 0 0 0 0 0 0 W (by omega) (by omega) (by omega) (by omega) (by omega) (by omega) (by omega) (by omega) (by omega) (by omega) (by omega)) rfl)
 have D0:Hq ((kr pl).cells.setIfInBounds 2 (.int .i64 4)=Ag.cells):=hQQ (by rw[yK];rfl)
 have D9:Hq (Ag.cells.setIfInBounds 10 (.int .i64 1)=ep.cells):=hQQ (by rfl)
 generalize kr pl=d at SM D0
 have R5:=hQQ jt
 have hc4:=je d
 have HS:=hQQ hs
 have l0:=hs.lt0
 have lb:=hs.lt
 clear hs
 go_enter Tryz.func7,Tryz.ntmps7
 go_wp2_with fail
 refine(SM.o).mono ?_
 rintro e w1 ⟨rfl,m1⟩
 have MA:=hQQ m1
 have hs1:=m1.size
 have C2:=aH w1 #[.int .i64 0,.int .i64 0,.int .i64 0,.int .i64 0,.int .i64 0,.int .i64 0,.int .i64 0,.int .i64 0,.int .i64 0,.int .i64 0,.int .i64 0] 23
 have C3:=setRow_heap _ _ _ d.cells _ _ C2
 have M5:=MA.o.trans (((ae.refl w1).alloc (.cells #[.int .i64 0,.int .i64 0,.int .i64 0,.int .i64 0,.int .i64 0,.int .i64 0,.int .i64 0,.int .i64 0,.int .i64 0,.int .i64 0,.int .i64 0] 23)).setRow w1.heap.size d.cells (Nat.le_refl _))
 obtain⟨w5,e5⟩:∃w5,(w1.alloc (.cells #[.int .i64 0,.int .i64 0,.int .i64 0,.int .i64 0,.int .i64 0,.int .i64 0,.int .i64 0,.int .i64 0,.int .i64 0,.int .i64 0,.int .i64 0] 23)).setRow w1.heap.size d.cells=w5:=⟨_,rfl⟩
 rw[e5] at C3 M5
 have C2:=hQQ C2
 have C3:=hQQ C3
 have M5:=hQQ M5
 have E5:=hQQ e5
 clear m1 SM e5
 go_wp2_with (first
  |(refine wpList_store_row rfl 23 _ _ rfl w1.heap.size d.cells rfl rfl 23 _ C2.o (by kernel_rfl) rfl hc4 ?_;rw[E5.o])
  |(refine d9 rfl 3 _ _ rfl rfl w1.heap.size 2 rfl 4 rfl _ _ C3.o (by simp[Cfg.cells]) (by kernel_rfl) ?_;rw[D0.o];intro w6 hb6 ht6;have HB6:=hQQ hb6;have HM6:Hq (ae w w6):=hQQ (Turned.mono (aq (F:=fun _=>False) M5.o ht6 (fun k q=> .inr (by omega))) (fun _ _ q=>q));clear hb6 ht6)
  |(refine d9 rfl 3 _ _ rfl rfl w1.heap.size 10 rfl 1 rfl _ _ HB6.o (by simp[Cfg.cells]) (by kernel_rfl) ?_;rw[D9.o];intro w66 hb6 ht6;have HB:=hQQ hb6;have HM:Hq (ae w w66):=hQQ (Turned.mono (aq (F:=fun _=>False) HM6.o ht6 (fun k q=> .inr (by omega))) (fun _ _ q=>q));clear hb6 ht6;obtain⟨w7,e7,hb7,m7,s7⟩:=df w66 (.cells #[.int .i64 0,.int .i64 0,.int .i64 0,.int .i64 0,.int .i64 0,.int .i64 0,.int .i64 0,.int .i64 0,.int .i64 0,.int .i64 0,.int .i64 0] 27);have HB7:=hQQ hb7;obtain⟨w8,e8⟩:∃w8,w7.setRow w66.heap.size ep.cells=w8:=⟨_,rfl⟩;have m8:ae w66 w8:=(by rw[←e8];exact m7.setRow _ _ (Nat.le_refl _));have HB8:Hq (w8.heap[w66.heap.size]?=some (.cells ep.cells 27 (0,0))):=hQQ (by rw[←e8];exact setRow_heap _ _ _ _ _ _ hb7);have HC8:=hQQ (m8.block HB.o);have HM8:=hQQ (HM.o.trans m8);clear hb7 m7 m8 s7)
  |(refine uh rfl rfl rfl HB.o (by kernel_rfl) ?_)
  |(refine pF rfl _ rfl ep rfl ?_)
  |(refine wpList_store_row rfl 27 _ _ rfl w66.heap.size _ rfl rfl 27 _ HB7.o (by kernel_rfl) rfl (je ep) ?_;rw[e8])
  |(first|(refine aA rfl rfl rfl HB8.o (by kernel_rfl) ?_)|(refine aA rfl rfl rfl HB8.o (by kernel_rfl) ?_)))
 refine(uK R5.o _).mono ?_
 rw[gt]
 rintro e w9 ⟨rfl,m9⟩
 obtain⟨w10,hmk,N1,m10,s10⟩:∃w10,(Instr.makeSlice 28 (.int .i64 384) (.int .i64 384)).run Tryz.prog w9=.ok (.slice (some ⟨w9.heap.size,0,none⟩) 384 384) w10∧w10.heap[w9.heap.size]?=some (.cells (iQ (bQ 384)) 3 (0,0))∧ae w9 w10∧w10.heap.size=w9.heap.size+1 :=
  ⟨_,kv 384 (by omega) w9,aH w9 _ _,(ae.refl _).alloc _,by simp⟩
 have mm:=m9.trans m10
 have M10:=hQQ (HM8.o.trans mm)
 have LA:=hQQ (mm.block HB8.o)
 have CA:=hQQ (mm.block HC8.o)
 have WA:Hq (Ws w10 w9.heap.size 384 (bQ 384)):=hQQ (Ij N1 (by omega))
 have gl:w66.heap.size<w9.heap.size:=by have:=ac HB8.o;have:=m9.size;omega
 have gc:w1.heap.size<w66.heap.size:=ac HB.o
 have gw:w.heap.size≤w1.heap.size:=hs1
 clear m9 m10 mm N1 s10 HB HB6 HB7 HB8 HC8 HM HM6 HM8 C2 C3 M5 E5 e7 e8 D0 D9 hc4
 go_wp2_with (first|(refine aA rfl rfl rfl LA.o (by kernel_rfl) ?_)|(refine aA rfl rfl rfl LA.o (by kernel_rfl) ?_))
 refine(FU _ _ WA.o).mono ?_
 rintro e w11 ⟨v11,its,rfl,hir,_,hl8,hx11,ht11⟩
 obtain⟨av,cv,rfl,_⟩:=hir.at
 obtain⟨nv,hnv⟩:∃nv,its.length=nv:=⟨_,rfl⟩
 rw[Ah.1,Ah.2,hnv]
 have X11:=hQQ hx11
 have L11:=hQQ ((ht11.block _ (ac LA.o) (by omega)).trans LA.o)
 have C11:=hQQ ((ht11.block _ (ac CA.o) (by omega)).trans CA.o)
 have M11:Hq (ae w w11):=hQQ (Turned.mono (aq (F:=fun _=>False) M10.o ht11 (fun k q=> .inr (by omega))) (fun _ _ q=>q))
 obtain⟨w12,e12,hb12,m12,s12⟩:=df w11 (.cells #[.slice none 0 0] 62)
 have B12:=hQQ hb12
 obtain⟨w13,e13⟩:∃w13,w12.setRow w11.heap.size #[.slice av nv cv]=w13:=⟨_,rfl⟩
 have m13:ae w11 w13:=by rw[←e13];exact m12.setRow _ _ (Nat.le_refl _)
 have X13:=hQQ (X11.o.more m13)
 have L13:=hQQ (m13.block L11.o)
 have C13:=hQQ (m13.block C11.o)
 have M13:=hQQ (M11.o.trans m13)
 clear hir hl8 hx11 ht11 hnv WA LA CA M10 X11 L11 C11 hb12 m12 s12 m13
 go_wp2_with (first
  |(refine wpList_store_row rfl 62 _ _ rfl _ _ rfl rfl 62 _ B12.o (by kernel_rfl) rfl (by simp[Value.oneCell']) ?_;rw[e13])
  |(first|(refine aA rfl rfl rfl L13.o (by kernel_rfl) ?_)|(refine aA rfl rfl rfl L13.o (by kernel_rfl) ?_)))
 refine(FV _ _ X13.o).mono ?_
 rintro e w14 ⟨rfl,hx14,ht14⟩
 have C14:=hQQ ((ht14.block _ (ac C13.o) (by omega)).trans C13.o)
 have M14:Hq (ae w w14):=hQQ (Turned.mono (aq (F:=fun _=>False) M13.o ht14 (fun k q=> .inr (by omega))) (fun _ _ q=>q))
 have X14:=hQQ hx14
 have g14:w9.heap.size<w14.heap.size:=hx14.lt
 clear e12 e13 B12 X13 L13 C13 M13 hx14 ht14
 go_wp2_with (refine uh rfl rfl rfl C14.o (by kernel_rfl) ?_)
 refine(J6 R5.o _).mono ?_
 rintro e w15 ⟨rfl,m15⟩
 obtain⟨w16,e16,hb16,m16,s16⟩:=df w15 (.cells DQ 33)
 have B16:=hQQ hb16
 obtain⟨w17,e17⟩:∃w17,w16.setRow w15.heap.size ep.arr=w17:=⟨_,rfl⟩
 have m17:ae w15 w17:=by rw[←e17];exact m16.setRow _ _ (Nat.le_refl _)
 have hb17:w17.heap[w15.heap.size]?=some (.cells ep.arr 33 (0,0)):=by rw[←e17];exact setRow_heap _ _ _ _ _ _ hb16
 obtain⟨w18,e18,hb18,m18,s18⟩:=df w17 (.cells #[.int .i64 0,.int .i64 0,.int .i64 0,.int .i64 0,.int .i64 0,.int .i64 0,.int .i64 0] 38)
 have M18:=hQQ (M14.o.trans (m15.trans (m17.trans m18)))
 have X18:=hQQ (X14.o.more (m15.trans (m17.trans m18)))
 have lt17:=ac hb17
 have g15:=m15.size
 have g17:=m17.size
 have DO:=hQQ (Jy jt (bt:=bt) Cx (by rw[nw];exact lx.toPgIn) (by rw[nw,gt]) (by rw[nw];omega) Ii w18 w15.heap.size w17.heap.size (some ⟨w9.heap.size,0,none⟩) 384 ⟨m18.block hb17,⟨noT,hb18⟩,HS.o.more M18.o⟩ ⟨by omega,by omega,by omega⟩ X18.o.words)
 rw[nw] at DO
 have g18:w.heap.size≤w17.heap.size:=by have:=M14.o.size;omega
 clear hb16 m16 s16 m17 hb17 hb18 m18 s18 m15 lt17 g15 g17 X14 M14 X18 C14
 go_wp2_with (refine wpList_store_row rfl 33 _ _ rfl w15.heap.size ep.arr rfl rfl 33 _ B16.o (by kernel_rfl) rfl (zi ep) ?_;rw[e17])
 refine DO.o.mono ?_
 rintro e w19 ⟨v1,v2,rfl,_,hx,ht⟩
 rw[JA] at hx
 have BX:=hQQ hx
 have FIN:=hQQ (Turned.mono (aq (F:=fun _=>False) M18.o ht (fun k q=> .inr (by omega))) (fun _ _ q=>q))
 have TR:=hQQ (fun W=>Cy▸Af FQ W)
 clear hx ht DO e16 e17 e18 B16 M18
 go_wp2_with (first|(refine yI _ _ (by with_reducible rfl) rfl FQ FQ rfl rfl true (by decide) ?_)|(refine C7 rfl rfl rfl BX.o (by kernel_rfl) ?_)|(refine C7 rfl rfl rfl BX.o (by kernel_rfl) ?_))
 refine(TR.o _).mono ?_
 rintro e w20 ⟨rfl,h20⟩
 have F20:=hQQ (FIN.o.trans h20)
 clear h20
 go_wp2_with fail
 go_ret
 exact⟨rfl,F20.o⟩
end Go.Proofs.YtfddhogffpkhcaaGreatDoor
