/-
  The landed package view: a run, and Do, of a program that writes memory of its own besides: whether it is done or not, Y holds; if it is done X does.
-/
import Derived.Test.YtddmeghbmdfgeaaGreatDoorFeAc
import Derived.Test.YtddmeghbmdfgeaaGreatDoorFeAa
import Derived.RangeFuncBox
import Derived.Shelf.Abstract
import Derived.LoopNIn
import Derived.LoopIn
set_option maxRecDepth 100000
set_option maxHeartbeats 8000000
set_option linter.all false
namespace Go.Proofs.YtddmeghbmdfgeaaGreatDoor
open Go.RowKit Go.Sort Go.Maps Go.Shelf
def gy (w:World)(F S:Nat→Prop)(Y X:World→Prop)(p:Nat)(kn:Int→Option Int)(R:Ran)(e:Ending)(w':World):Prop :=
 match R with
 | .need a=>e=.panicked (aR p)∧aN w' p a∧Turned (fun k=>F k∨S k) w w'∧Y w'
 | .done D=>e=.returned (.tuple #[])∧(∃F',aE w' F' p kn D)∧Turned (fun k=>F k∨S k) w w'∧Y w'∧X w'
def O3 (w:World)(S:Nat→Prop)(Y X:World→Prop)(R:Ran)(e:Ending)(w':World):Prop :=
 match R with
 | .need a=>e=.returned (.tuple #[.int .i64 a,.slice none 0 0])∧Turned S w w'∧Y w'
 | .done D=>∃v p,e=.returned (.tuple #[.int .i64 (-1),v])∧PRw w.heap.size w' v D∧Turned S w w'∧Y w'∧X w'∧aN w' p (-1)
theorem Kp (kn:Int→Option Int)(R:Ran)(M n:Nat)(w:World)(hk:KnownAt w M n kn)(f:Nat)(cap:Array Value)(S:Nat→Prop)(Y X:World→Prop)
 (henter:∀args w,Sem.run Tryz.prog (callFunc f args) w=.ok (.enter f args) w) (hS:∀k,S k→k<w.heap.size) (hY:∀w' w'',Y w'→Turned (fun k=>w.heap.size≤k) w' w''→Y w'') (hX:∀w' w'',X w'→Turned (fun k=>w.heap.size≤k) w' w''→X w'') (hY0:Y w)
 (hprog:∀(W:World) (F:Nat→Prop) (p:Nat),ae w W→Y W→aE W F p kn []→(∀k,F k→w.heap.size≤k)→Calls Tryz.prog f (#[.pointer (some ⟨p,0,none⟩)]++cap) W (gy W F S Y X p kn R)):
 Calls Tryz.prog 42 #[.map (some M),.func (.func f) #[] cap] w (O3 w S Y X R):=by
 have hq:∀w,Sem.run Tryz.prog (binOp BinOp.eql 52 (Value.func (.func f) #[] cap) Value.nilFunc) w=.ok (.bool false) w:=fun w=>kT w _ Tryz.underlying52 _ _ _
 have hmf:∀(fn:Fn) (first cap:Array Value) (w:World),(Instr.makeFunc fn first cap).run Tryz.prog w=.ok (.func fn first cap) w:=fun _ _ _ _=>rfl
 have HK:=hQQ hk
 have HS:=hQQ hS
 have HX:=hQQ hX
 have HY:=hQQ hY
 have HY0:=hQQ hY0
 have HP:=hQQ hprog
 clear hk hS hX hY hY0 hprog
 go_enter_defers Tryz.func42,Tryz.ntmps42
 go_wp2_with fail
 refine(Hm _).mono ?_
 rintro e w1 ⟨F0,q,rfl,m1,M1,n1⟩
 obtain⟨F,hbeg⟩:=yR HK.o m1 M1 n1
 have HB:=hQQ hbeg
 have hws:w.heap.size<w1.heap.size:=by have:=M1.size;simp at this;omega
 clear hbeg m1 M1 n1
 go_wp2_with fail
 change Calls _ _ _ ((w1.alloc (.cells (cy (some ⟨w1.heap.size,0,none⟩) M q (-1)) 110)).alloc (.cells #[.pointer (some ⟨w1.heap.size,0,none⟩)] 43)) _
 generalize (w1.alloc (.cells (cy (some ⟨w1.heap.size,0,none⟩) M q (-1)) 110)).alloc (.cells #[.pointer (some ⟨w1.heap.size,0,none⟩)] 43)=W at HB⊢
 generalize w1.heap.size+1=bv at HB⊢
 generalize w1.heap.size=p at HB⊢
 have hlw:Hq (∀k,k<w.heap.size→k≠bv∧k≠p):=hQQ fun k hk=>by have:=HB.o.lv;have:=HB.o.lp;omega
 clear hws
 refine(HP.o W F p HB.o.more (HY.o _ _ HY0.o (Turned.mono HB.o.more (fun _ _ q=>q.elim))) HB.o.view HB.o.new).mono ?_
 intro e w2 he
 cases R with
 |need a =>
  obtain⟨rfl,hd,ht,hy⟩:=he
  obtain⟨hv2,hn2,ne1,ne2⟩:=rR HB.o HS.o ht
  change bodyPostD _ _ _ (Exit.panic (aR p)) _ _
  refine leaves_cons (f:=77) (args:=#[.pointer (some ⟨bv,0,none⟩),.pointer (some ⟨w.heap.size,0,none⟩)]) (by simp) (by simp[go_sem]) ?_
  refine(vD p bv w.heap.size a 0 w2 hd hv2 hn2 ne1 ne2 HB.o.vn).mono ?_
  rintro e u' w3 ⟨rfl,rfl,hc⟩
  obtain⟨b0,_,_⟩:=aC hc.2.1
  have FIN:Turned S w w3∧Y w3:=⟨o7 HB.o ht hc.2.2,HY.o _ _ hy (hc.2.2.mono (fun k _ q=>by have:=HB.o.lp;rcases q with q|q<;>omega))⟩
  simp[Leaves,settle,results,Tryz.results42,go_sem,b0]
  exact⟨rfl,FIN⟩
 |done D =>
  obtain⟨rfl,⟨F',hv⟩,ht,hy,hx⟩:=he
  obtain⟨hv2,hn2,ne1,ne2⟩:=rR HB.o HS.o ht
  obtain⟨M',q',n',F0',hp2,hk2,hm2,fp2,f02,fM2⟩:=hv.ex
  obtain⟨c0,c1,c2,c3,cf,cl⟩:=cR hp2
  obtain⟨v0,vf,vl⟩:=aC hv2
  have TOLD:=hQQ (DB F0' p q' D w2 c2 hm2)
  have HT:=hQQ ht
  have HX2:=hQQ hx
  have HY2:=hQQ hy
  have HP2:=hQQ hp2
  have HV2:=hQQ hv2
  have HN2:=hQQ hn2
  clear hv hk2 hm2 fp2 f02 fM2 hp2 hv2 hn2 ht hx hy
  go_wp2_with fail
  refine TOLD.o.mono ?_
  rintro e w3 ⟨v,rfl,hr,hm3⟩
  obtain⟨n0,nf,nl⟩:=aC (hm3.block HN2.o)
  have HR:=hQQ hr
  have HM3:=hQQ hm3
  clear hr hm3
  go_wp2_with fail
  have t4:Turned (fun k=>k=p∨k=w.heap.size) w3 (w3.setCell ⟨w.heap.size,0,none⟩ (.int .i64 (-1))):=bB (Turned.refl _ w3) (fun _=> .inr rfl) _
  have hp4:(w3.setCell ⟨w.heap.size,0,none⟩ (.int .i64 (-1))).heap[p]?=_:=(Below.heap_setCell _ _ _ _ (Ne.symm ne2)).trans (HM3.o.block HP2.o)
  have hv4:(w3.setCell ⟨w.heap.size,0,none⟩ (.int .i64 (-1))).heap[bv]?=_:=(Below.heap_setCell _ _ _ _ HB.o.vn).trans (HM3.o.block HV2.o)
  have hn4:=kU (.int .i64 (-1)) (HM3.o.block HN2.o)
  have hm3:=HM3.o
  have hr:=HR.o
  have hlp2:=cl
  have hln2:w.heap.size<w2.heap.size:=ac HN2.o
  generalize w3.setCell ⟨w.heap.size,0,none⟩ (.int .i64 (-1))=w4 at t4 hp4 hv4 hn4⊢
  refine leaves_cons (f:=77) (args:=#[.pointer (some ⟨bv,0,none⟩),.pointer (some ⟨w.heap.size,0,none⟩)]) (by simp) (by simp[go_sem]) ?_
  refine(sK p bv w.heap.size M' q' (-1) w4 hp4 hv4 hn4 ne1 ne2 HB.o.vn).mono ?_
  rintro e u' w5 ⟨rfl,rfl,hc⟩
  obtain⟨b0,_,_⟩:=aC hc.2.1
  have t35:Turned (fun k=>k=p∨k=w.heap.size) w3 w5:=t4.trans hc.2.2
  have FIN:O3 w S Y X (.done D) (.returned (.tuple #[.int .i64 (-1),v])) w5:=by
   refine⟨v,p,rfl,(hr.keep t35 (fun k hk q=>by rcases q with q|q<;>omega)).mono (by omega),?_,?_,?_,hc.1⟩
   ·exact o7 HB.o HT.o ((Turned.mono hm3 (fun _ _ q=>q.elim)).trans t35)
   ·have hlp:=HB.o.lp
    exact HY.o w2 w5 HY2.o ((Turned.mono hm3 (fun _ _ q=>q.elim)).trans (t35.mono (fun k _ q=>by rcases q with q|q<;>omega)))
   ·have hlp:=HB.o.lp
    exact HX.o w2 w5 HX2.o ((Turned.mono hm3 (fun _ _ q=>q.elim)).trans (t35.mono (fun k _ q=>by rcases q with q|q<;>omega)))
  simp[Leaves,settle,results,Tryz.results42,go_sem,b0]
  exact FIN
theorem pc {ops:Array Oper}{rest:List Oper}{o:Oper}{a:Act}{Q:Exit→Act→World→Prop}{S:Nat→Prop}{w wa:World}{v:Value}{ps:List KV}(p q:Int)(hgd:o.guard=none)(s x:Operand)
 (ho:o.op=.call { callee:= .builtin .append,args:= #[s,x],argTypes:= #[39,39] })
 (hs:a.eval s=v) (hn:PRw wa.heap.size w v ps) (hW:Turned S wa w) (hl:ps.length≤1000000)
 (hx:a.eval x=.slice (some ⟨w.heap.size,0,none⟩) 1 1)
 (h:∀g cap w',PRw wa.heap.size w' (.slice (some ⟨g,0,none⟩) (ps.length+1) cap) (ps++ [(p,q)])→Turned S wa w'→(∀k ob,w.heap[k]?=some ob→v.ownBlock≠some k→w'.heap[k]?=some ob)→Turned (fun k=>v.ownBlock=some k) w w'→wpList Tryz.prog ops Q rest (a.put o.dst (.slice (some ⟨g,0,none⟩) (ps.length+1) cap)) w'):wpList Tryz.prog ops Q (o::rest) a (w.alloc (.cells #[.int .i64 p,.int .i64 q] 88)):=by
 obtain⟨i,i1,i2,i3,i4⟩:=vC
 have hn':=hn.more ((ae.refl w).alloc (.cells #[.int .i64 p,.int .i64 q] 88))
 have hB:=bh w (.cells #[.int .i64 p,.int .i64 q] 88)
 refine wpList_append_lies _ hgd s x 39 ho wa.heap.size 88 i _ 2 16 Tryz.underlying39 i1 i2 i3 i4 rfl (by omega) v ps.length _ hs hn' ⟨w.heap.size,0,none⟩ 1 1 [.int .i64 p,.int .i64 q] hx (by simp)
  (fun j u hu=>World.news_of_block hB j u (by simpa using hu)) (by intro u hu;simp at hu;rcases hu with rfl|rfl<;>rfl) (by omega) (by simp only[maxLen];omega) (by omega) (by have:=hW.size;simp;omega) _ rfl ?_
 intro g cap w1 hown hgrow _ _
 have ht:Turned (fun k=>v.ownBlock=some k) w w1:=⟨hgrow.os,hgrow.tape,hgrow.output,Nat.le_trans (by simp) hgrow.size,fun k hk hne=>by
  rw[hgrow.block k (by simp;omega) (fun e=>hne e.symm),Below.heap_alloc _ _ _ hk]⟩
 refine h g cap w1 ?_ (iG (hW.alloc _) hn' hgrow) (fun k ob hk hne=>by rw[Turned.block ht k (ac hk) hne];exact hk) ht
 unfold PRw
 rw[List.length_append,jg]
 exact hown
def Kq (w:World)(S:Nat→Prop)(Y X:World→Prop)(R:Option (List Int×List KV))(e:Ending)(w':World):Prop :=
 match R with
 |none=>e=.returned (.tuple #[.slice none 0 0,.slice none 0 0,.int .i64 3])∧Turned S w w'∧Y w'
 |some (ws,K)=>∃v1 v2,e=.returned (.tuple #[v1,v2,.int .i64 0])∧Rw w.heap.size w' v1 ws∧PRw w.heap.size w' v2 K∧Turned S w w'∧Y w'∧X w'
structure OnY (w wb wr:World)(S:Nat→Prop)(Y:World→Prop)(M:Nat)(zs:List Int)(sem:List KV→Ran)(R:Option (List Int×List KV))(K:List KV)(v:Value):Prop where
 okn:jE zs K
 res:doP sem zs (zs.length+1-K.length) K=R
 row:PRw wb.heap.size wr v K
 known:KnownAt wr M K.length (look K)
 turn:Turned (fun k=>k=M∨S k) wb wr
 y:Y wr
theorem Kr {w wb wr w2 w3:World}{S:Nat→Prop}{Y X:World→Prop}{M:Nat}{zs:List Int}{sem:List KV→Ran}{R:Option (List Int×List KV)}{K D:List KV}{a' an:Option Addr}{cap' cn:Nat}{e:Ending}(h:OnY w wb wr S Y M zs sem R K (.slice an K.length cn))(hs:sem K=.done D)(mb:ae w wb)(hM:w.heap.size≤M)
 (hl:∀k,cZ a' k→w.heap.size≤k∧k<wb.heap.size) (hS:∀k,S k→k<w.heap.size) (m2:Turned S wr w2) (hf:jj w2 zs D a' cap' (.slice an K.length cn) e w3)
 (hY:∀w' w'',Y w'→Turned (fun k=>w.heap.size≤k) w' w''→Y w'') (hX:∀w' w'',X w'→Turned (fun k=>w.heap.size≤k) w' w''→X w'') (y2:Y w2) (x2:X w2):Kq w S Y X R e w3:=by
 have hR:=yU h.okn hs h.res
 have mbS:Turned S w wb:=Turned.mono mb (fun _ _ q=>q.elim)
 have t3:Turned S w w3:=by
  have t1:Turned S w wr:=am mbS h.turn (fun k q=>by rcases q with q|q;exact .inr (by omega);exact .inl q)
  exact am (am t1 m2 (fun k q=> .inl q)) hf.1 (fun k q=> .inr (hl k q).1)
 have t23:Turned (fun k=>w.heap.size≤k) w2 w3:=hf.1.mono (fun k _ q=>(hl k q).1)
 rcases hf.2 with⟨h1,h2,h3⟩|⟨h1,h2⟩
 ·rw[hR,if_pos h1]
  have hlen:(ce zs D).length=zs.length:=dY D zs
  refine⟨_,_,h2,?_,?_,t3,hY _ _ y2 t23,hX _ _ x2 t23⟩
  ·have:=h3.own (base:=w.heap.size) (fun k q=>(hl k q).1)
   unfold Rw
   rw[List.length_map,hlen] at this
   rw[hlen];exact this
  ·have hb:=mb.size
   exact((h.row.keep m2 (fun k hk q=>by have:=hS k q;omega)).keep hf.1 (fun k hk q=>by have:=(hl k q).2;omega)).mono mb.size
 ·rw[hR,h1]
  exact⟨h2,t3,hY _ _ y2 t23⟩
theorem Ni (a:Option Addr)(cap:Nat)(zs:List Int)(sem:List KV→Ran)(R:Option (List Int×List KV))(b:Nat)(w:World)(hz:jH w a zs)(hlen:zs.length≤1000)(hok:OkW zs)(hfine:xp zs b sem)(hb:b≤100000)(hR:doP sem zs (zs.length+1) []=R)(f:Nat)(clo:Array Value)(S:Nat→Prop)(Y X:World→Prop)(hS:∀k,S k→k<w.heap.size)
 (hY:∀w' w'',Y w'→Turned (fun k=>w.heap.size≤k) w' w''→Y w'') (hX:∀w' w'',X w'→Turned (fun k=>w.heap.size≤k) w' w''→X w'') (hY0:Y w)
 (henter:∀args w,Sem.run Tryz.prog (callFunc f args) w=.ok (.enter f args) w)
 (hprog:∀(K:List KV),jE zs K→∀(W:World) (F:Nat→Prop) (p:Nat),Turned S w W→Y W→aE W F p (look K) []→(∀k,F k→w.heap.size≤k)→Calls Tryz.prog f (#[.pointer (some ⟨p,0,none⟩)]++clo) W (gy W F S Y X p (look K) (sem K))):
 Calls Tryz.prog 9 #[.slice a zs.length cap,.func (.func f) #[] clo] w (Kq w S Y X R):=by
 have hmm:= @run_makeMap Tryz.prog
 have CL:=hQQ (qT a cap zs w hz (by omega))
 have HOK:=hQQ hok
 have HF:=hQQ hfine
 have HR0:=hQQ hR
 have HE:=hQQ henter
 have HP:=hQQ hprog
 have HSS:=hQQ hS
 have HY:=hQQ hY
 have HX:=hQQ hX
 have HY0:=hQQ hY0
 clear hz hok hfine hR henter hprog hS hY hX hY0
 go_enter Tryz.func9,Tryz.ntmps9
 go_wp2_with fail
 refine CL.o.mono ?_
 rintro e w1 ⟨a',cap',rfl,hr1,hn1,hm1⟩
 have DO0:Hq (OnY w (w1.alloc (.map #[] 0)) (w1.alloc (.map #[] 0)) S Y w1.heap.size zs sem R [] (.slice none 0 0)):=hQQ
  ⟨o8 zs,HR0.o,PRw.nil _ _,KnownAt.made w1,Turned.refl _ _,HY.o _ _ HY0.o (Turned.mono (hm1.alloc _) (fun _ _ q=>q.elim))⟩
 have MB:Hq (ae w (w1.alloc (.map #[] 0))):=hQQ (hm1.alloc _)
 have RB:=hQQ (hr1.keep ((ae.refl w1).alloc (.map #[] 0)) (fun _ _ q=>q))
 have HL:Hq (∀k,cZ a' k→w.heap.size≤k∧k<(w1.alloc (.map #[] 0)).heap.size∧k≠w1.heap.size):=hQQ fun k q=>⟨hn1 k q,by have:=hr1.lt k q;simp;omega,by have:=hr1.lt k q;omega⟩
 have hwM:w.heap.size≤w1.heap.size:=hm1.size
 have hMb:w1.heap.size<(w1.alloc (.map #[] 0)).heap.size:=by simp
 clear hr1 hn1 hm1 CL
 go_wp2_with fail
 generalize w1.alloc (.map #[] 0)=wb at DO0 MB RB HL hMb⊢
 generalize w1.heap.size=M at DO0 HL hwM hMb⊢
 go_loopw [8] (fun u8 wr=>∃K,OnY w wb wr S Y M zs sem R K u8∧qU u8=K.length) (fun u8 _=>zs.length+1-qU u8)
 case atStart=>exact⟨[],DO0.o,rfl⟩
 case round =>
  obtain⟨K,hdo,hln⟩:=hrel
  obtain⟨an,cn,rfl,hpn,_⟩:=hdo.row.reads
  have DO:=hQQ hdo
  have hKl:=hdo.okn.len
  have hsz:w.heap.size≤wr.heap.size:=Nat.le_trans MB.o.size hdo.turn.size
  have hmr:Turned S w wr:=am (Turned.mono MB.o (fun _ _ q=>q.elim)) hdo.turn (fun k q=>by rcases q with q|q;exact .inr (by omega);exact .inl q)
  have LS:=hQQ (fun k (q:S k)=>HSS.o k q)
  have RUN:=hQQ (Kp (look K) (sem K) M K.length wr hdo.known f clo S Y X HE.o (fun k q=>Nat.lt_of_lt_of_le (HSS.o k q) hsz) (fun w' w'' h t=>HY.o w' w'' h (t.mono (fun k _ q=>Nat.le_trans hsz q))) (fun w' w'' h t=>HX.o w' w'' h (t.mono (fun k _ q=>Nat.le_trans hsz q))) hdo.y
   (fun W F p m y v n=>HP.o K hdo.okn W F p (am (F':=fun _=>False) hmr m (fun _ q=>q.elim)) y v (fun k hk=>Nat.le_trans hsz (n k hk))))
  have HFK:=hQQ (HF.o K hdo.okn)
  have RW:Hq (RowAt wr 3 (zs.map (Value.int .i64)) a' cap'):=hQQ (RB.o.keep hdo.turn (fun k q e=>by rcases e with e|e;exact(HL.o k q).2.2 e;have:=HSS.o k e;have:=(HL.o k q).1;omega))
  clear hdo hpn hmr hsz DO0 hln
  go_wp2_with fail
  refine RUN.o.mono ?_
  intro e w2 he
  cases hs:sem K with
  |need x =>
   rw[hs] at he
   obtain⟨rfl,hm2,hy2⟩:=he
   have HS:=hQQ hs
   have hx0:0≤x:=by have:=HFK.o;rw[hs] at this;exact this.1
   clear hs RUN
   obtain⟨j,rfl⟩:∃j:Nat,x=j:=⟨x.toNat,by omega⟩
   have HM2:Hq (Turned S wr w2):=hQQ hm2
   have Y2:=hQQ hy2
   have nSM:¬S M:=fun q=>by have:=HSS.o M q;omega
   have nSa:∀k,cZ a' k→¬S k:=fun k q r=>by have:=HSS.o k r;have:=(HL.o k q).1;omega
   have bW:w.heap.size≤wb.heap.size:=MB.o.size
   clear hm2 hy2
   have HFJ:=HFK.o
   rw[HS.o] at HFJ
   by_cases hj:j<zs.length
   ·obtain⟨q1,q2,q3,q4⟩:=yT DO.o.okn HFK.o HS.o (by omega) DO.o.res
    have d1:decide ((zs.length:Int)≤(j:Int))=false:=by simp;omega
    have d3:decide (zs.length≤j)=false:=by simp;omega
    have d2:decide ((j:Int)<0)=false:=by simp
    have hrow:=RW.o.keep HM2.o nSa
    obtain⟨g,rfl,hg,hcell,_⟩:=hrow.reads (by simp;omega)
    have hgM:g≠M:=(HL.o g rfl).2.2
    have cw:w2.cell? ⟨g,j,none⟩=some (.int .i64 (wAt zs j)):=by
     refine hcell j _ ?_
     unfold wAt
     rw[List.getElem?_map,List.getElem?_eq_getElem hj]
     simp[List.getD,hj]
    obtain⟨w3,hst,hk3,ht3⟩:=(DO.o.known.keep HM2.o nSM).store HFJ.2.1 (Bp HOK.o j) (by unfold maxLen;omega)
    rw[vF q4] at hk3
    have T23:=hQQ ht3
    have K3:=hQQ hk3
    have cw3:=ee ht3 hgM cw
    have hg3:g<w3.heap.size:=Nat.lt_of_lt_of_le hg ht3.size
    have TB3:Hq (Turned (fun k=>k=M∨S k) wb w3):=hQQ ((am DO.o.turn HM2.o (fun _ q=> .inl (.inr q))).trans (ht3.mono (fun _ _ q=> .inl q)))
    have YW3:Hq (Y w3):=hQQ (HY.o _ _ Y2.o (ht3.mono (fun k _ q=>by subst q;exact hwM)))
    have R3:Hq (PRw wb.heap.size w3 (.slice an K.length cn) K):=hQQ ((DO.o.row.keep HM2.o (fun k hk q=>by have:=HSS.o k q;omega)).keep ht3 (fun k hk e=>by omega))
    have NX:Hq (∀w4 v,PRw wb.heap.size w4 v (K++ [((j:Int),wAt zs j)])→Turned (fun k=>k=M∨S k) wb w4→(∀k ob,w3.heap[k]?=some ob→(Value.slice an K.length cn).ownBlock≠some k→w4.heap[k]?=some ob)→Y w4→OnY w wb w4 S Y M zs sem R (K++ [((j:Int),wAt zs j)]) v):=hQQ fun w4 v h1 h2 h3 h5 =>
     ⟨q1,q2,h1,by rw[List.length_append];exact K3.o.of_block (fun ob ho=>h3 M ob ho (fun e=>by have:=(DO.o.row.lt M e).1;omega)),h2,h5⟩
    clear hrow hcell hk3 ht3 q1 q2 q3 q4 HFJ
    generalize wAt zs j=z at cw hst cw3 NX
    go_wp2_with (at_builtin;refine pc (S:=fun k=>k=M∨S k) (wa:=wb) (ps:=K) (j:Int) z rfl _ _ rfl rfl R3.o TB3.o (by omega) rfl ?_;intro g4 c4 w4 h4 t4 k4 u4;have N4:=hQQ (NX.o _ _ h4 t4 k4 (HY.o _ _ YW3.o (u4.mono (fun k _ q=>Nat.le_trans bW (DO.o.row.lt k q).1))));clear h4 t4 k4 u4)
    go_roundw
    case rel=>exact⟨_,N4.o,by simp[qU]⟩
    case measure=>simp[qU];omega
   ·have hn:=DC DO.o.okn HS.o (by omega) DO.o.res
    subst hn
    have d1:decide ((zs.length:Int)≤(j:Int))=true:=by simp;omega
    have d3:decide (zs.length≤j)=true:=by simp;omega
    have d2:decide ((j:Int)<0)=false:=by simp
    have FIN:Hq (Kq w S Y X none (.returned (.tuple #[.slice none 0 0,.slice none 0 0,.int .i64 3])) w2):=hQQ ⟨rfl,am (am (Turned.mono MB.o (fun _ _ q=>q.elim)) DO.o.turn (fun k q=>by rcases q with q|q;exact .inr (by omega);exact .inl q)) HM2.o (fun k q=> .inl q),Y2.o⟩
    clear HFJ hj
    go_wp2_with fail
    go_ret3
    exact FIN.o
  |done D =>
   rw[hs] at he
   obtain⟨v,p,rfl,hr,hm2,hy2,hx2,_⟩:=he
   have nSa:∀k,cZ a' k→¬S k:=fun k q r=>by have:=HSS.o k r;have:=(HL.o k q).1;omega
   obtain⟨ad,cd,rfl,hpd,hbd⟩:=hr.reads
   have hfk:=HFK.o
   rw[hs] at hfk
   have FINI:=hQQ (vH zs D a' ad an cap' cd K.length cn w2 (RW.o.keep hm2 nSa) hpd (by have:=hfk.2.2;omega) (by omega) hfk.1 (fun k q r=>by have:=hbd k q;have:=(HL.o k r).2.1;have:=DO.o.turn.size;omega))
   have FIN:Hq (∀e w3,jj w2 zs D a' cap' (.slice an K.length cn) e w3→Kq w S Y X R e w3):=hQQ fun e w3 h=>Kr DO.o hs MB.o hwM (fun k q=>⟨(HL.o k q).1,(HL.o k q).2.1⟩) HSS.o hm2 h HY.o HX.o hy2 hx2
   clear hs RUN hr hm2 hpd hbd hfk hy2 hx2
   go_wp2_with fail
   refine FINI.o.mono ?_
   intro e w3 he
   have hfin:=FIN.o e w3 he
   rcases he.2 with⟨_,rfl,_⟩|⟨_,rfl⟩
   ·have F2:=hQQ hfin
    clear hfin he
    go_wp2_with fail
    go_ret3
    exact F2.o
   ·have F2:=hQQ hfin
    clear hfin he
    go_wp2_with fail
    go_ret3
    exact F2.o
inductive Res (α:Type) where
 |need (a:Int)
 |ok (x:α) (D:List KV)
abbrev Prg (α:Type):=(Int→Option Int)→List KV→Res α
def ay {α:Type}(x:α):Prg α:=fun _ D=> .ok x D
def aq {α β:Type}(p:Prg α)(f:α→Prg β):Prg β:=fun kn D=>match p kn D with
 | .need a=> .need a
 | .ok x D'=>f x kn D'
def cU (a:Int):Prg Int:=fun kn D=>match dM kn D a with
 |none=> .need a
 |some y=> .ok y D
def cO (a x:Int):Prg Unit:=fun _ D=> .ok () (eC D a x)
def fd {α:Type} :Res α→Ran
 | .need a=> .need a
 | .ok _ D=> .done D
theorem ag {α β:Type}{p:Prg α}{f:α→Prg β}{kn:Int→Option Int}{D:List KV}{a:Int}(h:p kn D=.need a):aq p f kn D=.need a:=by unfold aq;rw[h]
theorem aj {α β:Type}{p:Prg α}{f:α→Prg β}{kn:Int→Option Int}{D D':List KV}{x:α}(h:p kn D=.ok x D'):aq p f kn D=f x kn D':=by unfold aq;rw[h]
theorem eU {kn:Int→Option Int}{D:List KV}{a y:Int}(h:dM kn D a=some y):cU a kn D=.ok y D:=by unfold cU;rw[h]
theorem jk {kn:Int→Option Int}{D:List KV}{a:Int}(h:dM kn D a=none):cU a kn D=.need a:=by unfold cU;rw[h]
structure cD (n:Nat)(D:List KV):Prop where
 ok:OkD D
 asc:Asc D
 lt:∀p∈D,p.1<n
theorem dZ (n:Nat):cD n []:=⟨Km,Dz,fun p h=>by cases h⟩
theorem cD.len {n:Nat}{D:List KV}(h:cD n D):D.length≤n:=by
 have hn:(D.map (·.1)).Nodup:=by
  have:=h.asc
  unfold Asc at this
  rw[List.Nodup,List.pairwise_map]
  exact this.imp (fun h=>by omega)
 have:=lS n (D.map (·.1)) hn fun x hx=>by
  obtain⟨p,hp,rfl⟩:=List.mem_map.1 hx
  exact⟨(h.ok p hp).1,h.lt p hp⟩
 simpa using this
theorem cD.fits {zs:List Int}{D:List KV}(h:cD zs.length D):ke zs D=true:=by
 unfold ke;rw[List.all_eq_true];intro p hp;simpa using h.lt p hp
theorem cD.write {n:Nat}{D:List KV}(h:cD n D){a x:Int}(ha:W64 a)(hn:a<n)(hx:W64 x):cD n (eC D a x):=
 ⟨EK h.ok ha hx,EM h.asc a x,fun p hp=>by
  unfold eC at hp
  split at hp
  ·exact h.lt p hp
  ·rcases yM hp with rfl|q
   ·exact hn
   ·exact h.lt p q⟩
def bK {α:Type}(n:Nat)(Q:α→Prop)(p:Prg α):Prop:=∀kn D,OkK kn→cD n D→match p kn D with
 | .need a=>0≤a∧a<n∧kn a=none
 | .ok x D'=>cD n D'∧Q x
def bg {α:Type}(p:Prg α):Prop:=∀kn kn' D,(∀a v,kn a=some v→kn' a=some v)→(∃a,p kn D=.need a)∨p kn D=p kn' D
theorem ai {α:Type}(n:Nat){Q:α→Prop}{x:α}(h:Q x):bK n Q (ay x):=fun _ _ _ hD=>⟨hD,h⟩
theorem ar {α β:Type}{n:Nat}{Q:α→Prop}{Q':β→Prop}{p:Prg α}{f:α→Prg β}(h:bK n Q p)(hf:∀x,Q x→bK n Q' (f x)):bK n Q' (aq p f):=fun kn D hk hD=>by
 have h1:=h kn D hk hD
 cases e:p kn D with
 |need a=>rw[ag e];rw[e] at h1;exact h1
 |ok x D'=>rw[aj e];rw[e] at h1;exact hf x h1.2 kn D' hk h1.1
theorem bd (n:Nat){a:Int}(ha:a<n):bK n W64 (cU a):=fun kn D hk hD=>by
 cases e:dM kn D a with
 |none=>rw[jk e];obtain⟨h0,_,h2⟩:=vw e;exact⟨h0,ha,h2⟩
 |some y=>rw[eU e];exact⟨hD,DA hk hD.ok e⟩
theorem aQ (n:Nat){a x:Int}(ha:W64 a)(hn:a<n)(hx:W64 x):bK n (fun _=>True) (cO a x):=fun kn D hk hD=>⟨hD.write ha hn hx,trivial⟩
theorem cW {α:Type}{n:Nat}{Q Q':α→Prop}{p:Prg α}(h:bK n Q p)(hq:∀x,Q x→Q' x):bK n Q' p:=fun kn D hk hD=>by
 have h1:=h kn D hk hD
 cases e:p kn D with
 |need a=>rw[e] at h1;exact h1
 |ok x D'=>rw[e] at h1;exact⟨h1.1,hq x h1.2⟩
theorem bK.ok {α:Type}{n:Nat}{Q:α→Prop}{p:Prg α}(h:bK n Q p){kn:Int→Option Int}{D:List KV}(hk:OkK kn)(hD:cD n D){x:α}{D':List KV}(e:p kn D=.ok x D'):cD n D'∧Q x:=by
 have:=h kn D hk hD;rw[e] at this;exact this
theorem ah {α:Type}(x:α):bg (ay x):=fun _ _ _ _=> .inr rfl
theorem ak {α β:Type}{p:Prg α}{f:α→Prg β}(h:bg p)(hf:∀x,bg (f x)):bg (aq p f):=fun kn kn' D hk=>by
 rcases h kn kn' D hk with⟨a,e⟩|e
 ·exact .inl ⟨a,ag e⟩
 ·cases e1:p kn D with
  |need a=>exact .inl ⟨a,ag e1⟩
  |ok x D'=>rw[aj e1,aj (e.symm.trans e1)];exact hf x kn kn' D' hk
theorem dy (a:Int):bg (cU a):=fun kn kn' D hk=>by
 cases e:dM kn D a with
 |none=>exact .inl ⟨a,jk e⟩
 |some y =>
  refine .inr ?_
  rw[eU e,eU]
  unfold dM at e⊢
  split
  ·rename_i q;rw[if_pos q] at e;exact e
  ·rename_i q
   rw[if_neg q] at e
   cases e1:look D a with
   |none=>rw[e1] at e;simp at e⊢;exact hk a y e
   |some v=>rw[e1] at e;simpa using e
theorem cV (a x:Int):bg (cO a x):=fun _ _ _ _=> .inr rfl
theorem aH {α:Type}{c:Prop} [Decidable c] {p q:Prg α}(h1:bg p)(h2:bg q):bg (if c then p else q):=by
 split
 ·exact h1
 ·exact h2
def sM (zs:List Int):Int→Option Int:=fun a=>if 0≤a∧a<zs.length then some (wAt zs a) else none
theorem jI {zs:List Int}(h:OkW zs):OkK (sM zs):=fun a v e=>by
 unfold sM at e
 split at e
 ·cases e;exact Bp h a
 ·cases e
theorem sN {zs:List Int}{K:List KV}(h:jE zs K):∀a v,look K a=some v→sM zs a=some v:=fun a v e=>by
 obtain⟨h0,h1,h2⟩:=h.at' _ (oZ e)
 simp only at h0 h1 h2
 unfold sM
 rw[if_pos ⟨h0,h1⟩,h2]
theorem sO {zs:List Int}{K:List KV}(h:jE zs K)(hz:OkW zs):OkK (look K):=fun a v e=>jI hz a v (sN h a v e)
theorem xq {α:Type}{zs:List Int}{p:Prg α}{Q:α→Prop}{x:α}{D:List KV}(hS:bg p)(hG:bK zs.length Q p)(hz:OkW zs)(hf:p (sM zs) []=.ok x D):
 ∀(n:Nat) (K:List KV),jE zs K→zs.length+1=K.length+n→∃K',jE zs K'∧doP (fun K=>fd (p (look K) [])) zs n K=some (ce zs D,K')
 | 0,K,hK,hn=>by have:=hK.len;omega
 |n+1,K,hK,hn=>by
  have hg:=hG (look K) [] (sO hK hz) (dZ _)
  have hD:=(hG.ok (jI hz) (dZ _) hf).1
  unfold doP
  rcases hS (look K) (sM zs) [] (sN hK) with⟨a,e⟩|e
  ·rw[e] at hg⊢
   obtain⟨h0,h1,h2⟩:=hg
   simp only[fd]
   rw[if_pos h1]
   exact xq hS hG hz hf n _ (vE hK h0 h1 h2) (by simp;omega)
  ·rw[e,hf]
   simp only[fd]
   rw[if_pos hD.fits]
   exact⟨K,hK,rfl⟩
theorem sP {α:Type}{zs:List Int}{p:Prg α}{x y:α}{D D':List KV}{K:List KV}(hS:bg p)(hK:jE zs K)(hf:p (sM zs) []=.ok x D)(h:p (look K) []=.ok y D'):y=x∧D'=D:=by
 rcases hS (look K) (sM zs) [] (sN hK) with⟨a,e⟩|e
 ·rw[h] at e;cases e
 ·rw[h,hf] at e;cases e;exact⟨rfl,rfl⟩
theorem xr {α:Type}{zs:List Int}{p:Prg α}{Q:α→Prop}(hG:bK zs.length Q p)(hz:OkW zs)(hl:zs.length≤100000):xp zs zs.length (fun K=>fd (p (look K) [])):=fun K hK=>by
 have hg:=hG (look K) [] (sO hK hz) (dZ _)
 show Ng (look K) _ (fd (p (look K) []))
 cases e:p (look K) [] with
 |need a=>rw[e] at hg;exact⟨hg.1,by have:=hg.2.1;unfold W64;constructor<;>omega,hg.2.2⟩
 |ok x D=>rw[e] at hg;exact⟨hg.1.ok,hg.1.asc,hg.1.len⟩
theorem oh {D:List KV}(hA:Asc D)(zs:List Int)(h0:∀p∈D,0≤p.1∧p.1<zs.length)(i:Int)(hi:0≤i∧i<zs.length):wAt (ce zs D) i=(look D i).getD (wAt zs i):=by
 induction D generalizing zs with
 |nil=>rfl
 |cons p D ih =>
  have hA':Asc D:=by unfold Asc at hA⊢;exact(List.pairwise_cons.1 hA).2
  have hp:=h0 p (by simp)
  show wAt (ce (zs.set p.1.toNat p.2) D) i=_
  rw[ih hA' _ (fun q hq=>by have:=h0 q (by simp[hq]);simpa using this) (by simpa using hi)]
  rw[gp]
  by_cases e:p.1=i
  ·rw[if_pos e]
   have hn:look D i=none:=ig.2 (fun q hq=>by
    unfold Asc at hA
    have:=(List.pairwise_cons.1 hA).1 q hq
    omega)
   rw[hn]
   subst e
   unfold wAt
   simp only[List.getD,Option.getD_some]
   rw[List.getElem?_set_self (by omega)]
   rfl
  ·rw[if_neg e]
   have:wAt (zs.set p.1.toNat p.2) i=wAt zs i:=by
    unfold wAt
    simp only[List.getD]
    rw[List.getElem?_set_ne (by omega)]
   rw[this]
theorem vI {xs ys:List Int}(hl:xs.length=ys.length)(h:∀i:Int,0≤i→i<xs.length→wAt xs i=wAt ys i):xs=ys:=by
 apply List.ext_getElem hl
 intro i h1 h2
 have:=h (i:Int) (by omega) (by omega)
 simpa [wAt,List.getD,h1,h2] using this
theorem dI {ws:List Int}{a x i:Int}(ha:0≤a)(hi:0≤i)(hn:a<ws.length):wAt (ws.set a.toNat x) i=if i=a then x else wAt ws i:=by
 unfold wAt
 simp only[List.getD]
 by_cases e:i=a
 ·subst e
  rw[if_pos rfl,List.getElem?_set_self (by omega)]
  rfl
 ·rw[if_neg e,List.getElem?_set_ne (by omega)]
theorem yW {n:Nat}{zs:List Int}{D:List KV}(hn:zs.length=n)(h:cD n D){a x:Int}(ha:0≤a)(hl:a<n)(hw:W64 a)(hx:W64 x):ce zs (eC D a x)=(ce zs D).set a.toNat x:=by
 have h2:=h.write hw hl hx
 subst hn
 apply vI
 ·simp[dY]
 ·intro i h0 h1
  rw[dY] at h1
  rw[oh h2.asc zs (fun p hp=>⟨(h2.ok p hp).1,h2.lt p hp⟩) i ⟨h0,h1⟩,dI ha h0 (by rw[dY];exact hl),
   oh h.asc zs (fun p hp=>⟨(h.ok p hp).1,h.lt p hp⟩) i ⟨h0,h1⟩]
  unfold eC
  rw[if_neg (by omega),pY h.asc]
  split<;>rfl
theorem yX {zs:List Int}{D:List KV}(h:cD zs.length D){a:Int}(h0:0≤a)(h1:a<zs.length):dM (sM zs) D a=some (wAt (ce zs D) a):=by
 rw[oh h.asc zs (fun p hp=>⟨(h.ok p hp).1,h.lt p hp⟩) a ⟨h0,h1⟩]
 unfold dM sM
 rw[if_neg (by omega),if_pos ⟨h0,h1⟩]
 cases look D a<;>rfl
def bG {α:Type}(n:Nat)(p:Prg α)(g:List Int→α×List Int):Prop:=∀zs D,zs.length=n→OkW zs→cD n D→∃D',p (sM zs) D=.ok (g (ce zs D)).1 D'∧ce zs D'=(g (ce zs D)).2∧cD n D'
theorem au {α:Type}(n:Nat)(x:α):bG n (ay x) (fun ws=>(x,ws)):=fun zs D _ _ hD=>⟨D,rfl,rfl,hD⟩
theorem aA {α β:Type}{n:Nat}{p:Prg α}{f:α→Prg β}{g:List Int→α×List Int}{k:α→List Int→β×List Int}(h:bG n p g)(hf:∀x,bG n (f x) (k x)):bG n (aq p f) (fun ws=>k (g ws).1 (g ws).2):=fun zs D hn hz hD=>by
 obtain⟨D1,e1,a1,i1⟩:=h zs D hn hz hD
 obtain⟨D2,e2,a2,i2⟩:=hf (g (ce zs D)).1 zs D1 hn hz i1
 refine⟨D2,?_,?_,i2⟩
 ·rw[aj e1,e2,a1]
 ·rw[a2,a1]
theorem dW {n:Nat}{a:Int}(h0:0≤a)(h1:a<n):bG n (cU a) (fun ws=>(wAt ws a,ws)):=fun zs D hn hz hD=>by
 subst hn
 exact⟨D,eU (yX hD h0 h1),rfl,hD⟩
theorem dg {n:Nat}{a x:Int}(h0:0≤a)(h1:a<n)(hw:W64 a)(hx:W64 x):bG n (cO a x) (fun ws=>((),ws.set a.toNat x)):=fun zs D hn hz hD =>
 ⟨_,rfl,yW hn hD h0 h1 hw hx,hD.write hw h1 hx⟩
theorem aU {α:Type}{n:Nat}{p:Prg α}{g k:List Int→α×List Int}(h:bG n p g)(e:∀ws,ws.length=n→g ws=k ws):bG n p k:=fun zs D hn hz hD=>by
 rw[←e (ce zs D) (by rw[dY];exact hn)]
 exact h zs D hn hz hD
theorem DE {α:Type}{zs:List Int}{p:Prg α}{Q:α→Prop}{g:List Int→α×List Int}(hS:bg p)(hG:bK zs.length Q p)(hz:OkW zs)(hF:bG zs.length p g):
 ∃K,doP (fun K=>fd (p (look K) [])) zs (zs.length+1) []=some ((g zs).2,K)∧jE zs K∧∀K,jE zs K→∀y D,p (look K) []=.ok y D→y=(g zs).1:=by
 obtain⟨D,e,a,i⟩:=hF zs [] rfl hz (dZ _)
 have e0:ce zs []=zs:=rfl
 rw[e0] at e a
 obtain⟨K,hK,hd⟩:=xq hS hG hz e (zs.length+1) [] (o8 zs) (by simp)
 exact⟨K,by rw[hd,a],hK,fun K hK y D' h=>(sP hS hK e h).1⟩
theorem aE.keepS {w w':World}{F S:Nat→Prop}{p:Nat}{kn:Int→Option Int}{D:List KV}(h:aE w F p kn D)(ht:Turned S w w')(hs:∀k,F k→¬S k)(hM:∀k es cl,S k→w.heap[k]? ≠some (.map es cl)):aE w' F p kn D:=by
 obtain⟨M,q,n,F0,hp,hk,hm,fp,f0,fM⟩:=h.ex
 have nM:¬S M:=by
  obtain⟨D',⟨es,clock,hb,_⟩,_⟩:=hk
  intro q
  exact hM M _ _ q hb
 exact⟨⟨M,q,n,F0,by rw[Turned.block ht p (ac hp) (hs p fp)];exact hp,hk.keep ht nM,hm.keep ht (fun k q=>hs k (f0 k q).1),fp,f0,fM⟩,fun k hk=>Nat.lt_of_lt_of_le (h.lt k hk) ht.size⟩
theorem jJ {W:World}{g:Nat}{v:Value}{t:TypeId}(h:W.heap[g]?=some (.cells #[v] t (0,0)))(z:Value):(W.setCell ⟨g,0,none⟩ z).heap[g]?=some (.cells #[z] t (0,0)):=by
 have:=bu (o:=0) z h
 simpa using this
def aB {α:Type}(w:World)(F:Nat→Prop)(p:Nat)(kn:Int→Option Int)(val:α→Value)(R:Res α)(e:Ending)(w':World):Prop :=
 match R with
 | .need a=>vz w F p a e w'
 | .ok x D=>gx w F p kn D (val x) e w'
theorem aB.from {α:Type}{w w2 w':World}{F F':Nat→Prop}{p:Nat}{kn:Int→Option Int}{val:α→Value}{R:Res α}{e:Ending}(t:Turned F w w2)(n:∀k,F' k→F k∨w.heap.size≤k)(h:aB w2 F' p kn val R e w'):aB w F p kn val R e w':=by
 cases R with
 |need a=>exact⟨h.1,h.2.1,am t h.2.2 n⟩
 |ok x D =>
  obtain⟨he,F1,hv,ht,hn⟩:=h
  refine⟨he,F1,hv,am t ht n,fun k hk=>?_⟩
  rcases hn k hk with q|q
  ·exact n k q
  ·exact .inr (Nat.le_trans t.size q)
theorem aB.after {α:Type}{w w2 w':World}{F:Nat→Prop}{p:Nat}{kn:Int→Option Int}{val:α→Value}{R:Res α}{e:Ending}(t:ae w w2)(h:aB w2 F p kn val R e w'):aB w F p kn val R e w' :=
 h.from (Turned.mono t (fun _ _ q=>q.elim)) (fun k q=> .inl q)
theorem aB.need {α:Type}{w w':World}{F:Nat→Prop}{p:Nat}{kn:Int→Option Int}{val:α→Value}{R:Res α}{e:Ending}{a:Int}(hR:R=.need a)(h:vz w F p a e w'):aB w F p kn val R e w':=by subst hR;exact h
theorem aB.did {α:Type}{w w':World}{F:Nat→Prop}{p:Nat}{kn:Int→Option Int}{val:α→Value}{R:Res α}{e:Ending}{x:α}{D:List KV}(hR:R=.ok x D)(h:gx w F p kn D (val x) e w'):aB w F p kn val R e w':=by subst hR;exact h
theorem aB.same {α:Type}{w w':World}{F:Nat→Prop}{p:Nat}{kn:Int→Option Int}{D:List KV}{val:α→Value}{R:Res α}{x:α}(hR:R=.ok x D)(hv:aE w F p kn D)(t:ae w w'):aB w F p kn val R (.returned (val x)) w':=by
 subst hR;exact gx.same hv t
def Nj {α β:Type}(f:α→β):Res α→Res β
 | .need a=> .need a
 | .ok x D=> .ok (f x) D
theorem aB.map {α β:Type}{w w':World}{F:Nat→Prop}{p:Nat}{kn:Int→Option Int}{val:α→Value}{val':β→Value}(f:α→β){R:Res α}{x:α}{D:List KV}{v:Value}(hR:R=.ok x D)(h:aB w F p kn val R (.returned v) w'):aB w F p kn val' (Nj f R) (.returned (val' (f x))) w':=by
 subst hR
 obtain⟨_,F',hv,ht,hn⟩:=h
 exact⟨rfl,F',hv,ht,hn⟩
theorem aB.mapN {α β:Type}{w w':World}{F:Nat→Prop}{p:Nat}{kn:Int→Option Int}{val:α→Value}{val':β→Value}(f:α→β){R:Res α}{a:Int}{e:Ending}(hR:R=.need a)(h:aB w F p kn val R e w'):aB w F p kn val' (Nj f R) e w':=by
 subst hR
 exact h
structure MidV (W wr:World)(F S:Nat→Prop)(p:Nat)(kn:Int→Option Int)(n:Nat)(D:List KV)(F':Nat→Prop):Prop where
 view:aE wr F' p kn D
 from':∀k,F' k→F k∨W.heap.size≤k
 turn:Turned (fun b=>F b∨S b) W wr
 inv:cD n D
namespace MidV
variable {W wr w1 w2:World}{F S F':Nat→Prop}{p n:Nat}{kn:Int→Option Int}{D:List KV}
theorem begin (hv:aE W F p kn D)(hD:cD n D):MidV W W F S p kn n D F:=⟨hv,fun k q=> .inl q,Turned.refl _ _,hD⟩
theorem more (h:MidV W wr F S p kn n D F')(m:ae wr w1):MidV W w1 F S p kn n D F' :=
 ⟨h.view.more m,h.from',am (F':=fun _=>False) h.turn m (fun _ q=>q.elim),h.inv⟩
theorem size (h:MidV W wr F S p kn n D F'):W.heap.size≤wr.heap.size:=h.turn.size
theorem off (h:MidV W wr F S p kn n D F'){b:Nat}(hb:b<W.heap.size)(nF:¬F b):¬F' b:=fun q=>by
 rcases h.from' b q with r|r
 ·exact nF r
 ·omega
theorem box (h:MidV W wr F S p kn n D F'){b:Nat}(hS:b<W.heap.size→S b)(nF:¬F' b)(v:Value){cs:Array Value}{t:TypeId}{fr:Nat×Nat}(hb:wr.heap[b]?=some (.cells cs t fr)):MidV W (wr.setCell ⟨b,0,none⟩ v) F S p kn n D F' :=
 ⟨h.view.keepS (S:=fun k=>k=b) (Turned.setCell (S:=fun k=>k=b) (Turned.refl _ wr) ⟨b,0,none⟩ v (fun _=>rfl)) (fun k q e=>nF (e▸q)) (fun k es cl e q=>by subst e;rw[hb] at q;cases q),
  h.from',am h.turn (Turned.setCell (S:=fun k=>k=b) (Turned.refl _ wr) ⟨b,0,none⟩ v (fun _=>rfl)) (fun k q=>by
   subst q
   rcases Nat.lt_or_ge k W.heap.size with r|r
   ·exact .inl (.inr (hS r))
   ·exact .inr r),h.inv⟩
theorem step {α:Type}{val:α→Value}{Q:α→Prop}{pr:Prg α}{e:Ending}(h:MidV W wr F S p kn n D F')(m:ae wr w1)(hk:OkK kn)(G:bK n Q pr)(he:aB w1 F' p kn val (pr kn D) e w2):
 (∃a,pr kn D=.need a∧e=.panicked (aR p)∧aN w2 p a∧Turned (fun b=>F b∨S b) W w2∧∀b o,¬F' b→wr.heap[b]?=some o→w2.heap[b]?=some o) ∨
 (∃x D1 F1,pr kn D=.ok x D1∧e=.returned (val x)∧MidV W w2 F S p kn n D1 F1∧Q x∧(∀b o,¬F' b→wr.heap[b]?=some o→w2.heap[b]?=some o)∧∀b,F1 b→F' b∨wr.heap.size≤b):=by
 have hm:=h.more m
 have hs:=m.size
 have hK:∀t,Turned F' w1 t→∀b o,¬F' b→wr.heap[b]?=some o→t.heap[b]?=some o:=fun t ht b o nb hb=>(ht.block b (ac (m.block hb)) nb).trans (m.block hb)
 cases hE:pr kn D with
 |need a =>
  rw[hE] at he
  obtain⟨h1,h2,h3⟩:=he
  exact .inl ⟨a,rfl,h1,h2,am hm.turn h3 (fun k q=>(h.from' k q).imp .inl id),hK _ h3⟩
 |ok x D1 =>
  rw[hE] at he
  obtain⟨h1,F1,hv,ht,hn⟩:=he
  obtain⟨i1,q1⟩:=G.ok hk h.inv hE
  refine .inr ⟨x,D1,F1,rfl,h1,⟨hv,fun k q=>?_,am hm.turn ht (fun k q=>(h.from' k q).imp .inl id),i1⟩,q1,hK _ ht,fun b q=>(hn b q).imp id (fun r=>by omega)⟩
  rcases hn k q with r|r
  ·exact h.from' k r
  ·have:=hm.size;exact .inr (by omega)
end MidV
theorem xt {W w2:World}{F S:Nat→Prop}{Y X:World→Prop}{p:Nat}{kn:Int→Option Int}{R:Ran}{a:Int}(hR:R=.need a)(hd:aN w2 p a)(ht:Turned (fun b=>F b∨S b) W w2)(hy:Y w2):gy W F S Y X p kn R (.panicked (aR p)) w2:=by
 subst hR;exact⟨rfl,hd,ht,hy⟩
theorem xu {W wr:World}{F S F':Nat→Prop}{Y X:World→Prop}{p n:Nat}{kn:Int→Option Int}{D:List KV}{R:Ran}(h:MidV W wr F S p kn n D F')(hR:R=.done D)(hy:Y wr)(hx:X wr):gy W F S Y X p kn R (.returned (.tuple #[])) wr:=by
 subst hR;exact⟨rfl,⟨F',h.view⟩,h.turn,hy,hx⟩
theorem c7 {α β γ:Type}(p:Prg α)(f:α→Prg β)(g:β→Prg γ):aq (aq p f) g=aq p (fun x=>aq (f x) g):=by
 funext kn D;unfold aq;cases p kn D<;>rfl
theorem DF {α β:Type}(f:α→β)(p:Prg α)(kn:Int→Option Int)(D:List KV):Nj f (p kn D)=aq p (fun x=>ay (f x)) kn D:=by
 unfold aq;cases p kn D<;>rfl
def j0 (g:Nat)(w:World)(b:Bool):Prop:=w.heap[g]?=some (.cells #[.bool b] 4 (0,0))
theorem sQ {g:Nat}{w:World}{b:Bool}(h:j0 g w b)(x:Bool):j0 g (w.setCell ⟨g,0,none⟩ (.bool x)) x:=jJ h _
theorem ol {α:Type}{R:Res α}{a:Int}(h:R=.need a):fd R=.need a:=by rw[h];rfl
theorem sR {α:Type}{R:Res α}{x:α}{D:List KV}(h:R=.ok x D):fd R=.done D:=by rw[h];rfl
theorem aZ (w:World)(o0:Obj):∃w1,w.alloc o0=w1∧w1.heap[w.heap.size]?=some o0∧ae w w1∧w1.heap.size=w.heap.size+1:=⟨_,rfl,bh w o0,(ae.refl _).alloc _,by simp⟩
theorem gU (w:World)(o0 o1:Obj):∃w2,(w.alloc o0).alloc o1=w2∧w2.heap[w.heap.size]?=some o0∧w2.heap[w.heap.size+1]?=some o1∧ae w w2∧w2.heap.size=w.heap.size+2:=by
 obtain⟨w1,e1,h0,m0,s0⟩:=aZ w o0
 rw[e1]
 obtain⟨w2,e2,h1,m1,s1⟩:=aZ w1 o1
 rw[s0] at h1
 exact⟨w2,e2,m1.block h0,h1,m0.trans m1,by omega⟩
theorem kV (w:World)(o0 o1 o2:Obj):∃w3,((w.alloc o0).alloc o1).alloc o2=w3∧w3.heap[w.heap.size]?=some o0∧w3.heap[w.heap.size+1]?=some o1∧w3.heap[w.heap.size+2]?=some o2∧ae w w3∧w3.heap.size=w.heap.size+3:=by
 have h0:=bh w o0
 have s0:(w.alloc o0).heap.size=w.heap.size+1:=by simp
 have m0:ae w (w.alloc o0):=(ae.refl _).alloc _
 generalize w.alloc o0=w1 at h0 s0 m0⊢
 have h1:=bh w1 o1
 rw[s0] at h1
 have s1:(w1.alloc o1).heap.size=w.heap.size+2:=by simp[s0]
 have m1:ae w1 (w1.alloc o1):=(ae.refl _).alloc _
 generalize w1.alloc o1=w2 at h1 s1 m1⊢
 have h2:=bh w2 o2
 rw[s1] at h2
 have m2:ae w2 (w2.alloc o2):=(ae.refl _).alloc _
 exact⟨_,rfl,m2.block (m1.block h0),m2.block h1,h2,(m0.trans m1).trans m2,by simp[s1]⟩
theorem ct {α:Type}{w w1 w2:World}{F S:Nat→Prop}{p:Nat}{kn:Int→Option Int}{val:α→Value}{R:Res α}{a:Int}(m:ae w w1)(hS:∀b,S b→w.heap.size≤b)(hR:R=.need a)(hd:aN w2 p a)(ht:Turned (fun b=>F b∨S b) w1 w2):aB w F p kn val R (.panicked (aR p)) w2 :=
 aB.need hR ⟨rfl,hd,am (Turned.mono m (fun _ _ q=>q.elim)) ht (fun k q=>q.imp id (hS k))⟩
theorem bQ {α:Type}{w w1 w2:World}{F S F':Nat→Prop}{p n:Nat}{kn:Int→Option Int}{val:α→Value}{R:Res α}{x:α}{D:List KV}(m:ae w w1)(hS:∀b,S b→w.heap.size≤b)(h:MidV w1 w2 F S p kn n D F')(hR:R=.ok x D):aB w F p kn val R (.returned (val x)) w2 :=
 aB.did hR ⟨rfl,F',h.view,am (Turned.mono m (fun _ _ q=>q.elim)) h.turn (fun k q=>q.imp id (hS k)),fun k q=>(h.from' k q).imp id (fun r=>Nat.le_trans m.size r)⟩
theorem cE {w1 w2:World}{F S F':Nat→Prop}{p n:Nat}{kn:Int→Option Int}{D:List KV}(h:MidV w1 w2 F S p kn n D F'){b:Nat}{o:Obj}(hb:w1.heap[b]?=some o)(nF:¬F b)(nS:¬S b):w2.heap[b]?=some o :=
 (h.turn.block b (ac hb) (by rintro(q|q);exact nF q;exact nS q)).trans hb
theorem jl (F:Nat→Prop)(p:Nat)(kn:Int→Option Int)(D:List KV)(a:Int)(w:World)(h:aE w F p kn D)(hw:W64 a):
 Calls Tryz.prog 27 #[.pointer (some ⟨p,0,none⟩),.int .i64 a] w (aB w F p kn (fun x=> .int .i64 x) (cU a kn D)):=by
 cases e:dM kn D a with
 |none=>exact(i5 F p kn D a w h hw e).mono (fun _ _ he=>aB.need (jk e) he)
 |some y =>
  refine(mY F p kn D a y w h hw e).mono ?_
  rintro _ _ ⟨rfl,n,rfl⟩
  exact aB.same (eU e) h ((ae.refl w).drewN n)
theorem dp (F:Nat→Prop)(p:Nat)(kn:Int→Option Int)(D:List KV)(a x:Int)(w:World)(h:aE w F p kn D)(hs:D.length<100000):
 Calls Tryz.prog 116 #[.pointer (some ⟨p,0,none⟩),.int .i64 a,.int .i64 x] w (aB w F p kn (fun _:Unit=> .tuple #[]) (cO a x kn D)):=
 (yO F p kn D a x w h hs).mono (fun _ _ he=>aB.did rfl he)
def bS (pg k:Int):Bool:=decide (0≤k) && decide (k<aL pg)
theorem dc {pg k:Int} :bS pg k=true↔0≤k∧k<aL pg:=by simp[bS]
theorem yY {pg k:Int} :bS pg k=false↔¬(0≤k∧k<aL pg):=by
 cases h:bS pg k with
 |true=>simp[dc.1 h]
 |false=>simp only[true_iff];intro q;rw[dc.2 q] at h;cases h
theorem lT {pg st k:Int}(h:bS pg k=true):dU pg st k=a8 st+k:=if_pos (dc.1 h)
theorem Ks {pg st k:Int}(h:bS pg k=false):dU pg st k=0:=if_neg (yY.1 h)
def ofV (p:Int):Int:=if p<0 then -1 else p / 4
def p8 (pg k:Int):Int:=if bS pg k then 4 * k else 0
def fE (pg k:Int):Int:=if bS pg k then min 4 (pg-4 * k) else 0
def ci (pg p n:Int):Bool:=decide (0≤p) && (decide (1≤n) && decide (n≤pg-p))
theorem dX {pg p n:Int} :ci pg p n=true↔0≤p∧1≤n∧n≤pg-p:=by simp[ci]
def dP (pg st k:Int):Prg Bool:=if bS pg k then aq (cU (dU pg st k)) (fun y=>ay (decide (y=1))) else ay false
def jK (pg st k x:Int):Prg Int:=if bS pg k then aq (dP pg st k) (fun b=>if b=decide (x=1) then ay 0 else aq (cO (dU pg st k) x) (fun _=>ay (fE pg k))) else ay 0
def ij (pg st:Int):Nat→Int→Int→Prg Int
 | 0,_,s=>ay s
 |m+1,k,s=>aq (jK pg st k 1) (fun x=>ij pg st m (k+1) (s+x))
def Hy (pg st:Int):Nat→Int→Int→Prg Int
 | 0,_,s=>ay s
 |m+1,k,s=>aq (dP pg st k) (fun b=>Hy pg st m (k+1) (s+if b then fE pg k else 0))
def spanV (p n:Int):Nat:=((p+n-1) / 4-p / 4+1).toNat
def gA (pg st p n:Int):Prg Int:=if ci pg p n then ij pg st (spanV p n) (p / 4) 0 else ay 0
def Bq (pg st:Int):Prg Int:=Hy pg st (aL pg).toNat 0 0
structure TblIn (pg st:Int)(n:Nat):Prop where
 st1:1≤st
 st2:st≤64
 pg1:1≤pg
 pg2:pg≤256
 top:a8 st+aL pg≤n
section
variable {pg st:Int}{n:Nat}(H:TblIn pg st n)
include H
theorem pd {k:Int}(h:bS pg k=true):4≤dU pg st k∧dU pg st k<n∧W64 (dU pg st k):=by
 rw[lT h]
 have:=dc.1 h
 have h1:=H.st1;have h2:=H.st2;have h3:=H.top;have h4:=H.pg1;have h5:=H.pg2
 unfold aL at *
 unfold a8 W64 at *
 omega
theorem Nk (k:Int):0≤fE pg k∧fE pg k≤4:=by
 unfold fE
 split
 ·rename_i h
  have:=dc.1 h
  have:=H.pg1
  unfold aL at *
  omega
 ·omega
theorem jL (k:Int):bK n (fun _=>True) (dP pg st k):=by
 unfold dP
 split
 ·rename_i h
  exact ar (bd n (pd H h).2.1) (fun y _=>ai n trivial)
 ·exact ai n trivial
theorem qc (k x:Int)(hx:W64 x):bK n (fun y=>0≤y∧y≤4) (jK pg st k x):=by
 unfold jK
 split
 ·rename_i h
  obtain⟨h0,h1,h2⟩:=pd H h
  refine ar (jL H k) (fun b _=>?_)
  split
  ·exact ai n (by omega)
  ·exact ar (aQ n h2 h1 hx) (fun _ _=>ai n (Nk H k))
 ·exact ai n (by omega)
theorem xw (m:Nat):∀k s:Int,0≤s→bK n (fun y:Int=>0≤y∧y≤s+4 * m) (ij pg st m k s):=by
 induction m with
 |zero=>intro k s h;exact ai n (by omega)
 |succ m ih =>
  intro k s h
  exact ar (qc H k 1 (by unfold W64;omega)) (fun x hx=>cW (ih _ _ (by omega)) (fun y hy=>by omega))
end
theorem pf (pg st k:Int):bg (dP pg st k):=by
 unfold dP
 exact aH (ak (dy _) (fun _=>ah _)) (ah _)
theorem Br (pg st k x:Int):bg (jK pg st k x):=by
 unfold jK
 exact aH (ak (pf _ _ _) (fun _=>aH (ah _) (ak (cV _ _) (fun _=>ah _)))) (ah _)
theorem uW (pg st:Int)(m:Nat):∀k s,bg (ij pg st m k s):=by
 induction m with
 |zero=>intro k s;exact ah _
 |succ m ih=>intro k s;exact ak (Br _ _ _ _) (fun x=>ih _ _)
theorem xx (pg st p n:Int):bg (gA pg st p n):=aH (uW _ _ _ _ _) (ah _)
theorem Bt {pg p n:Int}(h:ci pg p n=true)(h2:pg≤256):(spanV p n:Int)=(p+n-1) / 4-p / 4+1∧spanV p n≤64:=by
 obtain⟨h0,h1,h3⟩:=dX.1 h
 unfold spanV;omega
theorem xy {pg p n:Int}(h:ci pg p n=true)(i:Nat)(hi:i<spanV p n):bS pg (p / 4+i)=true:=by
 obtain⟨h0,h1,h3⟩:=dX.1 h
 rw[dc]
 unfold spanV at hi
 unfold aL
 omega
def bL (pg st:Int)(ws:List Int)(k:Int):Bool:=bS pg k && decide (wAt ws (dU pg st k)=1)
def lU (pg st:Int)(k x:Int)(ws:List Int):Int×List Int :=
 if bS pg k then(if bL pg st ws k=decide (x=1) then(0,ws) else(fE pg k,ws.set (dU pg st k).toNat x)) else(0,ws)
def rS (pg st:Int):Nat→Int→Int→List Int→Int×List Int
 | 0,_,s,ws=>(s,ws)
 |m+1,k,s,ws=>rS pg st m (k+1) (s+(lU pg st k 1 ws).1) (lU pg st k 1 ws).2
def Hz (pg st:Int):Nat→Int→Int→List Int→Int
 | 0,_,s,_=>s
 |m+1,k,s,ws=>Hz pg st m (k+1) (s+if bL pg st ws k then fE pg k else 0) ws
section
variable {pg st:Int}{n:Nat}(H:TblIn pg st n)
include H
theorem qV (k:Int):bG n (dP pg st k) (fun ws=>(bL pg st ws k,ws)):=by
 unfold dP bL
 split
 ·rename_i h
  obtain⟨h0,h1,h2⟩:=pd H h
  exact aU (aA (dW (by omega) h1) (fun y=>au n (decide (y=1)))) (fun ws _=>by simp[h])
 ·rename_i h
  exact aU (au n false) (fun ws _=>by simp[h])
theorem EQ (k x:Int)(hx:W64 x):bG n (jK pg st k x) (lU pg st k x):=by
 unfold jK
 split
 ·rename_i h
  obtain⟨h0,h1,h2⟩:=pd H h
  have hb:∀b:Bool,bG n (if b=decide (x=1) then ay 0 else aq (cO (dU pg st k) x) (fun _=>ay (fE pg k))) (fun ws=>if b=decide (x=1) then(0,ws) else(fE pg k,ws.set (dU pg st k).toNat x)):=fun b=>by
   by_cases e:b=decide (x=1)
   ·rw[if_pos e];exact aU (au n 0) (fun ws _=>by rw[if_pos e])
   ·rw[if_neg e];exact aU (aA (dg (by omega) h1 h2 hx) (fun _=>au n (fE pg k))) (fun ws _=>by rw[if_neg e])
  exact aU (aA (qV H k) hb) (fun ws _=>by unfold lU;rw[if_pos h])
 ·rename_i h
  exact aU (au n 0) (fun ws _=>by unfold lU;rw[if_neg h])
theorem xz (m:Nat):∀k s,bG n (ij pg st m k s) (rS pg st m k s):=by
 induction m with
 |zero=>intro k s;exact au n s
 |succ m ih=>intro k s;exact aA (EQ H k 1 (by unfold W64;omega)) (fun x=>ih (k+1) (s+x))
end
theorem H4 (pg st k x:Int)(ws:List Int):(lU pg st k x ws).2.length=ws.length:=by
 unfold lU;split
 ·split<;>simp
 ·rfl
structure Cfg where
 wk:Int
 cp:Int
 pg:Int
 st:Int
 tr:Int
 wt:Int
 ck:Int
 pr:Int
 ca:Int
 bi:Int
 ba:Int
def Cfg.Ok (c:Cfg):Prop:=cT c.wk c.cp c.pg c.st c.tr c.wt c.ck c.pr c.ca c.bi c.ba
def Cfg.starts (c:Cfg):Nat→Int:=aF c.cp c.pg c.st c.ca c.bi
def Cfg.arr (c:Cfg):Array Value:=aJ c.wk c.cp c.pg c.st c.tr c.wt c.ck c.pr c.ca c.bi c.ba c.starts
def Cfg.cells (c:Cfg):Array Value:= #[.int .i64 c.wk,.int .i64 c.cp,.int .i64 c.pg,.int .i64 c.st,.int .i64 c.tr,.int .i64 c.wt,.int .i64 c.ck,.int .i64 c.pr,.int .i64 c.ca,.int .i64 c.bi,.int .i64 c.ba]
def Cfg.words (c:Cfg):Int:=eT c.cp c.pg c.st c.ca c.bi
def cj (c:Cfg)(k:Int):Array Value:=c.arr.push (.int .i64 k)
theorem Kt {c:Cfg}(R:c.Ok)(w:World)(k:Int):Calls Tryz.prog 137 #[.agg c.arr,.int .i64 k] w (aP w (.int .i64 (dU c.pg c.st k))):=MV R w k
theorem dw {c:Cfg}(R:c.Ok)(w:World):Calls Tryz.prog 20 #[.agg c.arr] w (aP w (.agg #[.int .i64 c.wk,.int .i64 c.cp,.int .i64 c.pg,.int .i64 c.st,.int .i64 c.tr,.int .i64 c.wt,.int .i64 c.ck,.int .i64 c.pr,.int .i64 c.ca,.int .i64 c.bi,.int .i64 c.ba])):=Kf R w
theorem xA {c:Cfg}(R:c.Ok)(w:World):Calls Tryz.prog 15 #[.agg c.arr] w (aP w (.int .i64 c.words)):=MX R w
theorem eR (c:Cfg)(W:World):(Instr.field 23 (.agg #[.int .i64 c.wk,.int .i64 c.cp,.int .i64 c.pg,.int .i64 c.st,.int .i64 c.tr,.int .i64 c.wt,.int .i64 c.ck,.int .i64 c.pr,.int .i64 c.ca,.int .i64 c.bi,.int .i64 c.ba]) 2).run Tryz.prog W=.ok (.int .i64 c.pg) W:=by kernel_rfl
theorem qW (c:Cfg)(k:Int)(W:World):(Instr.build 139 #[(0,.agg c.arr),(1,.int .i64 k)]).run Tryz.prog W=.ok (.agg (cj c k)) W:=run_build W _ _ _ (by kernel_rfl)
theorem yZ (c:Cfg)(k:Int):(cj c k)[24]?=some (.int .i64 k):=by rfl
theorem za (c:Cfg)(k:Int):∀j,j<24→(cj c k)[j]?=c.arr[j]? :=fun j hj=>by
 unfold cj
 rw[Array.getElem?_push,if_neg (by show j≠24;omega)]
theorem qg {P:Program}(w:World)(g:Nat)(t ty:TypeId)(cs hs:Array Value)(fr:Nat×Nat)(d:TypeDesc)(hg:w.heap[g]?=some (.cells cs t fr))(hc:∀j,j<hs.size→cs[j]?=hs[j]?)
 (hu:P.underlying ty=some d) (hd:(match d with| .struct _| .array _ _=>true|_=>false)=true) (hi:(P.info? ty).map (·.size)=some hs.size):
 (loadVar ty ⟨g,0,none⟩).run P w=.ok (.agg hs) w:=by
 have hl:(loadCells ⟨g,0,none⟩ hs.toList.length).run P w=.ok hs.toList.toArray w :=
  run_loadCells_list (P:=P) w ⟨g,0,none⟩ hs.toList (fun j v hv=>by
   have hj:j<hs.size:=by have:=(List.getElem?_eq_some_iff.1 hv).1;simpa using this
   rw[ja,Nat.zero_add,cell_of_row w g j cs t fr hg,hc j hj]
   simpa using hv)
 cases hq:P.info? ty with
 |none=>simp[hq] at hi
 |some i =>
  have hs:i.size=hs.size:=by simpa [hq] using hi
  have hagg:(isAgg ty).run P w=.ok true w:=by
   unfold isAgg
   rw[Sem.run_bind,run_underlying hu w]
   cases d<;>simp_all
  simp only[Array.length_toList,Array.toArray_toList] at hl
  simp[loadVar,Sem.run_bind,hagg,sizeOf,typeInfo,hq,hs,hl]
theorem kg {P:Program}{ops:Array Oper}{rest:List Oper}{o:Oper}{a:Act}{w:World}{Q:Exit→Act→World→Prop}(hw:Region.wanted o (yielded ops a.tmps)=true)(ty:TypeId)(x:Operand)(ho:o.op=.load ty x)
 (g:Nat) (hx:a.eval x=.pointer (some ⟨g,0,none⟩)) (t:TypeId) (cs hs:Array Value) (fr:Nat×Nat) (d:TypeDesc) (hg:w.heap[g]?=some (.cells cs t fr)) (hc:∀j,j<hs.size→cs[j]?=hs[j]?)
 (hu:P.underlying ty=some d) (hd:(match d with| .struct _| .array _ _=>true|_=>false)=true) (hi:(P.info? ty).map (·.size)=some hs.size)
 (h:wpList P ops Q rest (a.put o.dst (.agg hs)) w):wpList P ops Q (o::rest) a w :=
 dR hw fun K hK=>by
  unfold Oper.wp Oper.upon execOp
  simp only[ho,hx,Instr.loadAt,Instr.sureAddr,Sem.run_bind,Sem.run_pure,Result.andThen_ok,qg w g t ty cs hs fr d hg hc hu hd hi]
  exact hK _ _ h
theorem Nl (p:Int)(h0: -9223372036854775808≤p)(h1:p≤9223372036854775807)(w:World):Calls Tryz.prog 57 #[.int .i64 p] w fun e w'=>e=.returned (.int .i64 (ofV p))∧w'=w:=by
 by_cases c:p<0
 ·rw[show ofV p= -1 from if_pos c]
  go_enter Tryz.func57,Tryz.ntmps57
  go_wp2_with fail
  go_ret
  exact⟨rfl,rfl⟩
 ·rw[show ofV p=p / 4 from if_neg c]
  have q2:IntKind.i64.wrap (p.tdiv 4)=p / 4:=by rw[Int.tdiv_eq_ediv_of_nonneg (by omega)];exact az (by omega) (by omega)
  have d0:decide (p<0)=false:=by simp;omega
  go_enter Tryz.func57,Tryz.ntmps57
  go_wp2_with fail
  go_ret
  exact⟨rfl,rfl⟩
theorem Bu {c:Cfg}(R:c.Ok)(k:Int)(w:World):Calls Tryz.prog 120 #[.agg (cj c k)] w (aP w (.int .i64 (dU c.pg c.st k))):=by
 have HC:=hQQ (aY w (cj c k) 139)
 have x24:=bb HC.o (ae.refl _) (yZ c k)
 have HM:Hq (ae w (w.alloc (.cells (cj c k) 139))):=(ae.refl w).alloc _
 go_enter Tryz.func120,Tryz.ntmps120
 go_wp2_with (refine kg rfl 28 _ rfl _ rfl 139 _ c.arr _ _ HC.o (za c k) Tryz.underlying28 rfl (by kernel_rfl) ?_)
 refine(Kt R _ k).mono ?_
 rintro e w1 ⟨rfl,h1⟩
 go_wp2_with fail
 go_ret
 exact⟨rfl,HM.o.trans h1⟩
theorem H5 {c:Cfg}(R:c.Ok)(k:Int):(dU c.pg c.st k==0)= !bS c.pg k:=by
 have h1:=R.st1
 cases h:bS c.pg k with
 |true =>
  rw[lT h]
  have:=dc.1 h
  unfold a8
  simp;omega
 |false=>rw[Ks h];rfl
theorem qh {c:Cfg}(R:c.Ok)(k:Int)(w:World):Calls Tryz.prog 119 #[.agg (cj c k)] w (aP w (.bool (!bS c.pg k))):=by
 have HC:=hQQ (aY w (cj c k) 139)
 have HM:Hq (ae w (w.alloc (.cells (cj c k) 139))):=(ae.refl w).alloc _
 have b0:=H5 R k
 go_enter Tryz.func119,Tryz.ntmps119
 go_wp2_with (refine wpList_load_row rfl 139 _ rfl _ rfl 139 _ _ _ HC.o Tryz.underlying139 rfl (by kernel_rfl) ?_)
 refine(Bu R k _).mono ?_
 rintro e w1 ⟨rfl,h1⟩
 go_wp2_with fail
 go_ret
 exact⟨rfl,HM.o.trans h1⟩
theorem Ku {c:Cfg}(R:c.Ok)(k:Int)(w:World):Calls Tryz.prog 172 #[.agg (cj c k)] w (aP w (.tuple #[.int .i64 (p8 c.pg k),.int .i64 (fE c.pg k)])):=by
 have HC:=hQQ (aY w (cj c k) 139)
 have HM:Hq (ae w (w.alloc (.cells (cj c k) 139))):=(ae.refl w).alloc _
 cases h:bS c.pg k with
 |false =>
  rw[show p8 c.pg k=0 by unfold p8;rw[h];rfl,show fE c.pg k=0 by unfold fE;rw[h];rfl]
  go_enter Tryz.func172,Tryz.ntmps172
  go_wp2_with (refine wpList_load_row rfl 139 _ rfl _ rfl 139 _ _ _ HC.o Tryz.underlying139 rfl (by kernel_rfl) ?_)
  refine(qh R k _).mono ?_
  rw[h]
  rintro e w1 ⟨rfl,h1⟩
  go_wp2_with fail
  go_ret2
  exact⟨rfl,HM.o.trans h1⟩
 |true =>
  have hfl:=eR c
  have hb:=dc.1 h
  have p1:=R.pg1
  have p2:=R.pg2
  have hu:4 * k<c.pg∧k<64:=by unfold aL at hb;omega
  have q0:IntKind.i64.wrap (k * 4)=4 * k:=by rw[az (by omega) (by omega)];omega
  have q1:IntKind.i64.wrap (c.pg-4 * k)=c.pg-4 * k:=az (by omega) (by omega)
  rw[show p8 c.pg k=4 * k by unfold p8;rw[h];rfl,show fE c.pg k=min 4 (c.pg-4 * k) by unfold fE;rw[h];rfl]
  generalize hz:c.pg-4 * k=z at q1
  have R':=hQQ R
  clear hb hu p1 p2
  have zz:=hQQ hz
  clear hz
  go_enter Tryz.func172,Tryz.ntmps172
  go_wp2_with (refine wpList_load_row rfl 139 _ rfl _ rfl 139 _ _ _ HC.o Tryz.underlying139 rfl (by kernel_rfl) ?_)
  refine(qh R'.o k _).mono ?_
  rw[h]
  rintro e w1 ⟨rfl,h1⟩
  have HC1:=hQQ (h1.block HC.o)
  have HM1:=hQQ (HM.o.trans h1)
  have x24:=bb HC1.o (ae.refl _) (yZ c k)
  clear h1
  go_wp2_with (refine kg rfl 28 _ rfl _ rfl 139 _ c.arr _ _ HC1.o (za c k) Tryz.underlying28 rfl (by kernel_rfl) ?_)
  refine(dw R'.o _).mono ?_
  rintro e w2 ⟨rfl,h2⟩
  have HM2:=hQQ (HM1.o.trans h2)
  have q3:=zz.o
  clear h2
  go_wp2_with fail
  go_ret2
  exact⟨rfl,HM2.o⟩
theorem Mu {c:Cfg}(R:c.Ok){k:Int}(h:bS c.pg k=true):W64 (dU c.pg c.st k):=by
 rw[lT h]
 have:=dc.1 h
 have h1:=ss R;have h2:=oU R
 unfold W64;omega
theorem sS {c:Cfg}(R:c.Ok)(F:Nat→Prop)(p:Nat)(kn:Int→Option Int)(D:List KV)(k:Int)(w:World)(hv:aE w F p kn D):
 Calls Tryz.prog 94 #[.agg (cj c k),.pointer (some ⟨p,0,none⟩)] w (aB w F p kn (fun b=> .bool b) (dP c.pg c.st k kn D)):=by
 have HC:=hQQ (aY w (cj c k) 139)
 have HM:Hq (ae w (w.alloc (.cells (cj c k) 139))):=(ae.refl w).alloc _
 have HV:=hQQ hv
 have HR:=hQQ R
 clear hv
 cases h:bS c.pg k with
 |false =>
  have FIN:Hq (∀w',ae w w'→aB w F p kn (fun b=> .bool b) (dP c.pg c.st k kn D) (.returned (.bool false)) w'):=hQQ fun w' m=>aB.same (by unfold dP;rw[h];rfl) HV.o m
  go_enter Tryz.func94,Tryz.ntmps94
  go_wp2_with (refine wpList_load_row rfl 139 _ rfl _ rfl 139 _ _ _ HC.o Tryz.underlying139 rfl (by kernel_rfl) ?_)
  refine(qh HR.o k _).mono ?_
  rw[h]
  rintro e w1 ⟨rfl,h1⟩
  have HM1:=hQQ (HM.o.trans h1)
  clear h1
  go_wp2_with fail
  go_ret
  exact FIN.o _ HM1.o
 |true =>
  have hR:dP c.pg c.st k kn D=aq (cU (dU c.pg c.st k)) (fun y=>ay (decide (y=1))) kn D:=by unfold dP;rw[h];rfl
  rw[hR]
  have HW:=hQQ (Mu R h)
  go_enter Tryz.func94,Tryz.ntmps94
  go_wp2_with (refine wpList_load_row rfl 139 _ rfl _ rfl 139 _ _ _ HC.o Tryz.underlying139 rfl (by kernel_rfl) ?_)
  refine(qh HR.o k _).mono ?_
  rw[h]
  rintro e w1 ⟨rfl,h1⟩
  have HM1:=hQQ (HM.o.trans h1)
  have HC1:=hQQ (h1.block HC.o)
  clear h1
  go_wp2_with (refine eL rfl 139 _ rfl _ rfl 139 _ _ _ HC1.o Tryz.underlying139 rfl (by kernel_rfl) ?_)
  refine(Bu HR.o k _).mono ?_
  rintro e w2 ⟨rfl,h2⟩
  have HM2:=hQQ (HM1.o.trans h2)
  clear h2
  have HV2:=hQQ (HV.o.more HM2.o)
  cases hw:dM kn D (dU c.pg c.st k) with
  |none =>
   have HN:=hQQ hw
   clear hw
   go_wp2_with fail
   refine(i5 F p kn D _ w2 HV2.o HW.o HN.o).mono ?_
   intro e w3 he
   obtain rfl:=he.1
   exact⟨rfl,aB.after HM2.o (aB.need (ag (jk HN.o)) he)⟩
  |some y =>
   have HN:=hQQ hw
   have FIN:Hq (∀n,aB w F p kn (fun b=> .bool b) (aq (cU (dU c.pg c.st k)) (fun y=>ay (decide (y=1))) kn D) (.returned (.bool (decide (y=1)))) (w2.drewN n)):=hQQ fun n=>aB.same (by rw[aj (eU HN.o)];rfl) HV.o (HM2.o.drewN n)
   have b1:(y==1)=decide (y=1):=by by_cases q:y=1<;>simp[q]
   clear hw
   go_wp2_with fail
   refine(mY F p kn D _ y w2 HV2.o HW.o HN.o).mono ?_
   rintro e w3 ⟨rfl,n,rfl⟩
   go_wp2_with fail
   go_ret
   exact FIN.o n
theorem Nm {c:Cfg}(R:c.Ok){n:Nat}(H:TblIn c.pg c.st n)(hn:n≤10000)(F:Nat→Prop)(p:Nat)(kn:Int→Option Int)(D:List KV)(k x:Int)(w:World)(hv:aE w F p kn D)(hk:OkK kn)(hD:cD n D):
 Calls Tryz.prog 166 #[.agg (cj c k),.pointer (some ⟨p,0,none⟩),.int .i64 x] w (aB w F p kn (fun y=> .int .i64 y) (jK c.pg c.st k x kn D)):=by
 have HC:=hQQ (aY w (cj c k) 139)
 have HM:Hq (ae w (w.alloc (.cells (cj c k) 139))):=(ae.refl w).alloc _
 have HV:=hQQ hv
 have HR:=hQQ R
 have HK:=hQQ hk
 have HD:=hQQ hD
 have HH:=hQQ H
 clear hv hk hD H
 cases h:bS c.pg k with
 |false =>
  have FIN:Hq (∀w',ae w w'→aB w F p kn (fun y=> .int .i64 y) (jK c.pg c.st k x kn D) (.returned (.int .i64 0)) w'):=hQQ fun w' m=>aB.same (by unfold jK;rw[h];rfl) HV.o m
  go_enter Tryz.func166,Tryz.ntmps166
  go_wp2_with (refine wpList_load_row rfl 139 _ rfl _ rfl 139 _ _ _ HC.o Tryz.underlying139 rfl (by kernel_rfl) ?_)
  refine(qh HR.o k _).mono ?_
  rw[h]
  rintro e w1 ⟨rfl,h1⟩
  have HM1:=hQQ (HM.o.trans h1)
  clear h1
  go_wp2_with fail
  go_ret
  exact FIN.o _ HM1.o
 |true =>
  have hR:jK c.pg c.st k x kn D=aq (dP c.pg c.st k) (fun b=>if b=decide (x=1) then ay 0 else aq (cO (dU c.pg c.st k) x) (fun _=>ay (fE c.pg k))) kn D:=by unfold jK;rw[h];rfl
  rw[hR]
  have HW:=hQQ (Mu R h)
  go_enter Tryz.func166,Tryz.ntmps166
  go_wp2_with (refine wpList_load_row rfl 139 _ rfl _ rfl 139 _ _ _ HC.o Tryz.underlying139 rfl (by kernel_rfl) ?_)
  refine(qh HR.o k _).mono ?_
  rw[h]
  rintro e w1 ⟨rfl,h1⟩
  have HM1:=hQQ (HM.o.trans h1)
  have HC1:=hQQ (h1.block HC.o)
  clear h1
  have HV1:=hQQ (HV.o.more HM1.o)
  have bx:(x==1)=decide (x=1):=by by_cases q:x=1<;>simp[q]
  go_wp2_with (refine eL rfl 139 _ rfl _ rfl 139 _ _ _ HC1.o Tryz.underlying139 rfl (by kernel_rfl) ?_)
  refine(sS HR.o F p kn D k w1 HV1.o).mono ?_
  intro e w2 he
  cases hm:dP c.pg c.st k kn D with
  |need a =>
   rw[hm] at he
   obtain rfl:=he.1
   have FIN:=aB.after (kn:=kn) HM1.o (aB.need (val:=fun y:Int=>Value.int .i64 y) (ag (f:=fun b:Bool=>if b=decide (x=1) then ay (0:Int) else aq (cO (dU c.pg c.st k) x) (fun _=>ay (fE c.pg k))) hm) he)
   exact⟨rfl,FIN⟩
  |ok b D1 =>
   rw[hm] at he
   have HB:=hQQ hm
   have hI1:=((jL HH.o k).ok HK.o HD.o hm).1
   obtain⟨rfl,F1,hv2,ht2,hn2⟩:=he
   have lD1:D1.length<100000:=by have:=hI1.len;omega
   have HV2:=hQQ hv2
   have HT2:Hq (Turned F w w2):=hQQ (am (Turned.mono HM1.o (fun _ _ q=>q.elim)) ht2 (fun k q=> .inl q))
   have HN1:=hQQ hn2
   have HN2:Hq (∀k,F1 k→F k∨w.heap.size≤k):=hQQ fun k q=>(hn2 k q).imp id (fun r=>Nat.le_trans HM1.o.size r)
   have nC:¬F w.heap.size:=fun q=>by have:=HV.o.lt _ q;omega
   have HC2:Hq (w2.heap[w.heap.size]?=_):=hQQ ((Turned.block ht2 _ (ac HC1.o) nC).trans HC1.o)
   clear hm hI1 hv2 ht2 hn2
   by_cases hb:b=decide (x=1)
   ·have FIN:Hq (∀w',ae w2 w'→aB w F p kn (fun y=> .int .i64 y) (aq (dP c.pg c.st k) (fun b=>if b=decide (x=1) then ay 0 else aq (cO (dU c.pg c.st k) x) (fun _=>ay (fE c.pg k))) kn D) (.returned (.int .i64 0)) w'):=hQQ fun w' m =>
     aB.from HT2.o HN2.o (aB.same (by rw[aj HB.o,if_pos hb];rfl) HV2.o m)
    have be:(b==decide (x=1))=true:=by simp[hb]
    clear hb
    go_wp2_with fail
    go_ret
    exact FIN.o _ (ae.refl _)
   ·have FIN:Hq (∀w0 e w',ae w2 w0→gx w0 F1 p kn (eC D1 (dU c.pg c.st k) x) (.tuple #[]) e w'→e=.returned (.tuple #[])∧Turned F1 w0 w'∧∀w'',ae w' w''→aB w F p kn (fun y=> .int .i64 y) (aq (dP c.pg c.st k) (fun b=>if b=decide (x=1) then ay 0 else aq (cO (dU c.pg c.st k) x) (fun _=>ay (fE c.pg k))) kn D) (.returned (.int .i64 (fE c.pg k))) w''):=hQQ fun w0 e w' m hd=>by
     obtain⟨he,F2,hv3,ht3,hn3⟩:=hd
     refine⟨he,ht3,fun w'' m2=>?_⟩
     refine aB.from HT2.o HN2.o (aB.did (x:=fE c.pg k) (D:=eC D1 (dU c.pg c.st k) x) (by rw[aj HB.o,if_neg hb];rfl) ⟨rfl,F2,hv3.more m2,?_,fun k q=>(hn3 k q).imp id (fun r=>Nat.le_trans m.size r)⟩)
     exact am (F':=fun _=>False) (am (Turned.mono m (fun _ _ q=>q.elim)) ht3 (fun k q=> .inl q)) m2 (fun _ q=>q.elim)
    have be:(b==decide (x=1))=false:=by simp[hb]
    clear hb
    go_wp2_with (refine wpList_load_row rfl 139 _ rfl _ rfl 139 _ _ _ HC2.o Tryz.underlying139 rfl (by kernel_rfl) ?_)
    refine(Bu HR.o k _).mono ?_
    rintro e w3 ⟨rfl,h3⟩
    have HM3:=hQQ h3
    have HV3:=hQQ (HV2.o.more h3)
    have HC3:=hQQ (h3.block HC2.o)
    clear h3
    go_wp2_with fail
    refine(yO F1 p kn D1 (dU c.pg c.st k) x w3 HV3.o lD1).mono ?_
    intro e w4 he
    obtain⟨rfl,ht4,hf⟩:=FIN.o w3 e w4 HM3.o he
    have HF:=hQQ hf
    have nC1:¬F1 w.heap.size:=fun q=>by
     have h0:w.heap.size<w1.heap.size:=ac HC1.o
     rcases HN1.o _ q with r|r
     ·exact nC r
     ·omega
    have HC4:Hq (w4.heap[w.heap.size]?=_):=hQQ ((Turned.block ht4 _ (ac HC3.o) nC1).trans HC3.o)
    clear hf he ht4
    go_wp2_with (refine wpList_load_row rfl 139 _ rfl _ rfl 139 _ _ _ HC4.o Tryz.underlying139 rfl (by kernel_rfl) ?_)
    refine(Ku HR.o k _).mono ?_
    rintro e w5 ⟨rfl,h5⟩
    have HM5:=hQQ h5
    clear h5
    go_wp2_with fail
    go_ret
    exact HF.o _ HM5.o
attribute [local go_sem] Oper.semAt_some
section
variable {F:Fence}{n:Nat}{P:Program}{ops:Array Oper}{rest:List Oper}{o:Oper}{a:Act}{w:World}{Q:Exit→Act→World→Prop}
theorem gC (hw:Region.wanted o (yielded ops a.tmps)=true)(ty:TypeId)(x:Operand)(ho:o.op=.load ty x)(g:Nat)(hx:a.eval x=.pointer (some ⟨g,0,none⟩))(v:Value)
 (hr:(loadVar ty ⟨g,0,none⟩).run P w=.ok v w) (h:wpListIn F n P ops Q rest (a.put o.dst v) w):wpListIn F n P ops Q (o::rest) a w :=
 BigFrame.wpListIn_want hw fun K hK=>by
  refine⟨by simp[Oper.about,ho],?_⟩
  rw[Oper.semAt_plain F _ _ (by rw[ho];intro c hc;cases hc)]
  simp[execOp,ho,hx,Instr.loadAt,Instr.sureAddr,Sem.run_bind,hr,Result.andThen]
  exact hK _ _ h
theorem eh (hw:Region.wanted o (yielded ops a.tmps)=true)(ty:TypeId)(x:Operand)(ho:o.op=.load ty x)
 (g:Nat) (hx:a.eval x=.pointer (some ⟨g,0,none⟩)) (t:TypeId) (cs:Array Value) (fr:Nat×Nat) (d:TypeDesc) (hg:w.heap[g]?=some (.cells cs t fr))
 (hu:P.underlying ty=some d) (hd:(match d with| .struct _| .array _ _=>true|_=>false)=true) (hi:(P.info? ty).map (·.size)=some cs.size)
 (h:wpListIn F n P ops Q rest (a.put o.dst (.agg cs)) w):wpListIn F n P ops Q (o::rest) a w :=
 gC hw ty x ho g hx _ (run_loadVar_row w g t ty cs fr d hg hu hd hi) h
theorem jm (hw:Region.wanted o (yielded ops a.tmps)=true)(ty:TypeId)(x y:Operand)(ho:o.op=.store ty x y)
 (g:Nat) (hx:a.eval x=.pointer (some ⟨g,0,none⟩)) (cells:Array Value) (hy:a.eval y=.agg cells) (t:TypeId) (old:Array Value) (hg:w.heap[g]?=some (.cells old t (0,0)))
 (hi:(P.info? ty).map (·.size)=some cells.size) (hsz:old.size=cells.size) (hone:cells.all (·.oneCell')=true)
 (h:wpListIn F n P ops Q rest (a.put o.dst (.tuple #[])) (w.setRow g cells)):wpListIn F n P ops Q (o::rest) a w :=
 BigFrame.wpListIn_want hw fun K hK=>by
  refine⟨by simp[Oper.about,ho],?_⟩
  rw[Oper.semAt_plain F _ _ (by rw[ho];intro c hc;cases hc)]
  have hs:=run_storeVar_row (P:=P) w g t ty old cells hg hi hsz hone
  simp[execOp,ho,hx,hy,Instr.storeAt,Instr.sureAddr,Sem.run_bind,hs,Result.andThen]
  exact hK _ _ h
end
theorem sT {F:Fence}{n:Nat}{ops:Array Oper}{rest:List Oper}{o:Oper}{a:Act}{w:World}{Q:Exit→Act→World→Prop}(hw:Region.wanted o (yielded ops a.tmps)=true)(x y:Operand)(ho:o.op=.build 139 #[(0,x),(1,y)])(c:Cfg)(k:Int)
 (hx:a.eval x=.agg c.arr) (hy:a.eval y=.int .i64 k) (h:wpListIn F n Tryz.prog ops Q rest (a.put o.dst (.agg (cj c k))) w):wpListIn F n Tryz.prog ops Q (o::rest) a w :=
 BigFrame.wpListIn_want hw fun K hK=>by
  refine⟨by simp[Oper.about,ho],?_⟩
  rw[Oper.semAt_plain F _ _ (by rw[ho];intro c hc;cases hc)]
  have hb:=qW c k w
  simp only[execOp,ho,List.map_toArray,List.map_cons,List.map_nil,hx,hy,Sem.run_bind,hb,Result.andThen_ok]
  exact hK _ _ h
theorem xB {ops:Array Oper}{rest:List Oper}{o:Oper}{a:Act}{w:World}{Q:Exit→Act→World→Prop}(hw:Region.wanted o (yielded ops a.tmps)=true)(x y:Operand)(ho:o.op=.build 139 #[(0,x),(1,y)])(c:Cfg)(k:Int)
 (hx:a.eval x=.agg c.arr) (hy:a.eval y=.int .i64 k) (h:wpList Tryz.prog ops Q rest (a.put o.dst (.agg (cj c k))) w):wpList Tryz.prog ops Q (o::rest) a w :=
 dR hw fun K hK=>by
  have hb:=qW c k w
  unfold Oper.wp execOp
  simp only[ho,List.map_toArray,List.map_cons,List.map_nil,hx,hy,Sem.run_bind,hb,Result.andThen_ok]
  exact hK _ _ h
theorem DG {c:Cfg}(R:c.Ok)(p n:Int)(hp:W64 p)(w:World):Calls Tryz.prog 171 #[.agg c.arr,.int .i64 p,.int .i64 n] w (aP w (.bool (ci c.pg p n))):=by
 have HC:=hQQ (aY w c.arr 28)
 have HM:Hq (ae w (w.alloc (.cells c.arr 28))):=(ae.refl w).alloc _
 have hfl:=eR c
 have p1:=R.pg1
 have p2:=R.pg2
 by_cases c0:0≤p
 ·by_cases c1:1≤n
  ·have q1:IntKind.i64.wrap (c.pg-p)=c.pg-p:=by unfold W64 at hp;exact az (by omega) (by omega)
   rw[show ci c.pg p n=decide (n≤c.pg-p) by unfold ci;simp[c0,c1]]
   clear p1 p2 hp
   go_enter Tryz.func171,Tryz.ntmps171
   go_wp2_with (refine aI rfl rfl rfl HC.o (by kernel_rfl) ?_)
   refine(dw R _).mono ?_
   rintro e w2 ⟨rfl,h2⟩
   have HM2:=hQQ (HM.o.trans h2)
   clear h2
   go_wp2_with fail
   go_ret
   exact⟨rfl,HM2.o⟩
  ·rw[show ci c.pg p n=false by unfold ci;simp[c1]]
   have d1:decide (1≤n)=false:=by simp;omega
   go_enter Tryz.func171,Tryz.ntmps171
   go_wp2_with fail
   go_ret
   exact⟨rfl,HM.o⟩
 ·rw[show ci c.pg p n=false by unfold ci;simp[c0]]
  have d0:decide (0≤p)=false:=by simp;omega
  go_enter Tryz.func171,Tryz.ntmps171
  go_wp2_with fail
  go_ret
  exact⟨rfl,HM.o⟩
def ej (pg p n:Int):Nat:=if ci pg p n then spanV p n else 0
def eE (w:World)(b:Nat)(x:Int):Prop:=w.heap[b]?=some (.cells #[.int .i64 x] 3 (0,0))
theorem Kv (n:Nat){c:Cfg}(p q:Int)(w:World):
 CallsIn Fence.wide n Tryz.prog 165 #[.agg c.arr,.int .i64 p,.int .i64 q] w fun e w' =>
  e=.returned (.func (.func 170) #[] #[.pointer (some ⟨w.heap.size,0,none⟩),.pointer (some ⟨w.heap.size+1,0,none⟩),.pointer (some ⟨w.heap.size+2,0,none⟩)]) ∧
  w'=((w.alloc (.cells c.arr 28)).alloc (.cells #[.int .i64 p] 3)).alloc (.cells #[.int .i64 q] 3):=by
 refine callsIn_of_wp Tryz.func165 rfl trivial ?_ rfl
 simp only[Tryz.ntmps165,List.size_toArray,List.length_cons,List.length_nil,Nat.reduceAdd,Nat.reduceSub,Array.replicate_succ,Array.replicate_zero,List.push_toArray,List.append_toArray,List.nil_append,List.cons_append]
 gi_wp2
 go_ret
 exact⟨rfl,rfl⟩
theorem ER (c:Cfg)(p q:Int)(w:World):
 (((w.alloc (.cells c.arr 28)).alloc (.cells #[.int .i64 p] 3)).alloc (.cells #[.int .i64 q] 3)).heap[w.heap.size]?=some (.cells c.arr 28 (0,0)) ∧
 eE (((w.alloc (.cells c.arr 28)).alloc (.cells #[.int .i64 p] 3)).alloc (.cells #[.int .i64 q] 3)) (w.heap.size+1) p ∧
 eE (((w.alloc (.cells c.arr 28)).alloc (.cells #[.int .i64 p] 3)).alloc (.cells #[.int .i64 q] 3)) (w.heap.size+2) q:=by
 have h0:=bh w (.cells c.arr 28)
 have s0:(w.alloc (.cells c.arr 28)).heap.size=w.heap.size+1:=by simp
 generalize w.alloc (.cells c.arr 28)=w1 at h0 s0⊢
 have h1:=bh w1 (.cells #[.int .i64 p] 3)
 rw[s0] at h1
 have s1:(w1.alloc (.cells #[.int .i64 p] 3)).heap.size=w.heap.size+2:=by simp[s0]
 have m1:ae w1 (w1.alloc (.cells #[.int .i64 p] 3)):=(ae.refl _).alloc _
 generalize w1.alloc (.cells #[.int .i64 p] 3)=w2 at h1 s1 m1⊢
 have h2:=bh w2 (.cells #[.int .i64 q] 3)
 rw[s1] at h2
 have m2:ae w2 (w2.alloc (.cells #[.int .i64 q] 3)):=(ae.refl _).alloc _
 exact⟨m2.block (m1.block h0),m2.block h1,h2⟩
theorem ES (n:Nat)(hn:1≤n){c:Cfg}(R:c.Ok)(p q:Int)(hp:W64 p)(bl bp bq:Nat)(w0:World)(hl:w0.heap[bl]?=some (.cells c.arr 28 (0,0)))(hbp:eE w0 bp p)(hbq:eE w0 bq q):
 Dv Fence.wide n Tryz.prog 170 #[.pointer (some ⟨bl,0,none⟩),.pointer (some ⟨bp,0,none⟩),.pointer (some ⟨bq,0,none⟩)] (fun i=> #[.agg (cj c (p / 4+(i:Int)))]) (ej c.pg p q) (fun k=>k=bl∨k=bp∨k=bq) w0:=by
 intro l J Jx W hW hJ hJx hY h0
 have HL:=hQQ (hW.block hl)
 have HP:=hQQ (hW.block hbp)
 have HQ:=hQQ (hW.block hbq)
 have HR:=hQQ R
 have cp:=(aC HP.o).1
 have cq:=(aC HQ.o).1
 have TH:=hQQ (fun w=>DG (c:=c) R p q hp w)
 have HJ:=hQQ hJ
 have HJx:=hQQ hJx
 have HY:=hQQ hY
 clear hl hbp hbq hW hJ hJx hY
 refine callsIn_of_wp Tryz.func170 rfl trivial ?_ rfl
 simp only[Tryz.ntmps170,List.size_toArray,List.length_cons,List.length_nil,Nat.reduceAdd,Nat.reduceSub,Array.replicate_succ,Array.replicate_zero,List.push_toArray,List.append_toArray,List.nil_append,List.cons_append]
 cases hth:ci c.pg p q with
 |false =>
  have hN:ej c.pg p q=0:=by unfold ej;rw[hth];rfl
  rw[hN] at HY⊢
  gi_wp2_with (first
   |(refine eh rfl 28 _ rfl _ rfl 28 _ _ _ HL.o Tryz.underlying28 rfl (by kernel_rfl) ?_)
   |((with_reducible refine And.intro ?_ ?_);exact trivial;gi_at_call 171;refine(callsIn_wide.2 (TH.o _)).mono ?_;rw[hth];rintro e w' ⟨rfl,h1⟩;have M1:=hQQ h1;clear h1))
  refine bodyPost_ret (results_none rfl _ _ _) rfl ?_
  exact .inl ⟨⟨_,rfl⟩,.inl (HJ.o _ _ _ h0 M1.o)⟩
 |true =>
  have hN:ej c.pg p q=spanV p q:=by unfold ej;rw[hth];rfl
  rw[hN] at HY⊢
  obtain⟨r0,r1,r2⟩:=dX.1 hth
  have pg2:=R.pg2
  have q1:IntKind.i64.wrap (p+q)=p+q:=az (by omega) (by omega)
  have q2:IntKind.i64.wrap (p+q-1)=p+q-1:=az (by omega) (by omega)
  have o1:ofV p=p / 4:=if_neg (by omega)
  have o2:ofV (p+q-1)=(p+q-1) / 4:=if_neg (by omega)
  obtain⟨sp,_⟩:=Bt hth pg2
  have OP:=hQQ (fun w=>Nl p (by omega) (by omega) w)
  have OQ:=hQQ (fun w=>Nl (p+q-1) (by omega) (by omega) w)
  rw[o1] at OP
  rw[o2] at OQ
  clear o1 o2 r1 R hp
  gi_wp2_with (first
   |(refine eh rfl 28 _ rfl _ rfl 28 _ _ _ HL.o Tryz.underlying28 rfl (by kernel_rfl) ?_)
   |((with_reducible refine And.intro ?_ ?_);exact trivial;gi_at_call 171;refine(callsIn_wide.2 (TH.o _)).mono ?_;rw[hth];rintro e w' ⟨rfl,h1⟩;have M1:=hQQ h1;have cp1:=h1.cell cp;clear h1)
   |((with_reducible refine And.intro ?_ ?_);exact trivial;gi_at_call 57;refine(callsIn_wide.2 (OP.o _)).mono ?_;rintro e w' ⟨rfl,rfl⟩))
  have J0:=hQQ (HJ.o _ _ _ h0 M1.o)
  have HL1:=hQQ (M1.o.block HL.o)
  have HP1:=hQQ (M1.o.block HP.o)
  have HQ1:=hQQ (M1.o.block HQ.o)
  clear cp cq cp1 h0
  gi_loopw [5] (fun u wr=>∃i:Nat,i≤spanV p q∧u=.int .i64 (p / 4+(i:Int))∧J i wr∧wr.heap[bl]?=some (.cells c.arr 28 (0,0))∧eE wr bp p∧eE wr bq q) (fun u _=>((p+q-1) / 4+1-intOf u).toNat)
  case atStart=>exact⟨0,Nat.zero_le _,by simp,J0.o,HL1.o,HP1.o,HQ1.o⟩
  case round =>
   obtain⟨i,hi,rfl,hJi,hli,hpi,hqi⟩:=hrel
   have cpi:=(aC hpi).1
   have cqi:=(aC hqi).1
   have HLi:=hQQ hli
   have HPi:=hQQ hpi
   have HQi:=hQQ hqi
   have HJi:=hQQ hJi
   clear hli hpi hqi hJi
   by_cases hlt:i<spanV p q
   ·obtain⟨fn,tmps,assign,body,hy,hR⟩:=HY.o i wr hlt HJi.o
    have hld:(loadVar 28 ⟨bl,0,none⟩).run Tryz.prog wr=.ok (.agg c.arr) wr:=run_loadVar_row wr bl _ _ _ _ _ HLi.o Tryz.underlying28 rfl (by kernel_rfl)
    have d1:decide (p / 4+(i:Int)≤(p+q-1) / 4)=true:=by simp;omega
    have q3:IntKind.i64.wrap (p / 4+(i:Int)+1)=p / 4+(i:Int)+1:=az (by omega) (by omega)
    gi_wp2_with (first
     |((with_reducible refine gC ?_ 28 (.tmp 1) ?_ bl ?_ (.agg c.arr) ?_ ?_);rfl;rfl;rfl;exact hld)
     |((with_reducible refine sT ?_ (.tmp 23) (.tmp 24) ?_ c (p / 4+(i:Int)) ?_ ?_ ?_);rfl;rfl;rfl;rfl)
     |((with_reducible refine And.intro ?_ ?_);exact trivial;gi_at_call 57;refine(callsIn_wide.2 (OQ.o _)).mono ?_;rintro e w' ⟨rfl,rfl⟩))
    refine hR.mono ?_
    rintro e W3 (⟨rfl,hJ3,hs3⟩|⟨he,hJx3⟩)
    ·have HL3:=hQQ ((hs3 bl (.inl rfl)).trans HLi.o)
     have HP3:=hQQ ((hs3 bp (.inr (.inl rfl))).trans HPi.o)
     have HQ3:=hQQ ((hs3 bq (.inr (.inr rfl))).trans HQi.o)
     clear hs3
     gi_wp2
     go_roundw
     case rel=>exact⟨i+1,by omega,by go_num,hJ3,HL3.o,HP3.o,HQ3.o⟩
     case measure=>simp[intOf];omega
    ·rcases he with rfl|⟨ch,rfl⟩
     ·gi_wp2
      refine bodyPost_ret (results_none rfl _ _ _) rfl ?_
      exact .inl ⟨⟨_,rfl⟩,.inr ⟨i,hlt,hJx3⟩⟩
     ·exact⟨rfl,.inr ⟨ch,i,rfl,hlt,hJx3⟩⟩
   ·obtain rfl:i=spanV p q:=by omega
    have d1:decide (p / 4+((spanV p q:Nat):Int)≤(p+q-1) / 4)=false:=by simp;omega
    gi_wp2_with (first
     |((with_reducible refine And.intro ?_ ?_);exact trivial;gi_at_call 57;refine(callsIn_wide.2 (OQ.o _)).mono ?_;rintro e w' ⟨rfl,rfl⟩))
    go_end0
    exact .inl ⟨⟨_,rfl⟩,.inl HJi.o⟩
theorem jn {α:Type}{w w':World}{F:Nat→Prop}{p:Nat}{kn:Int→Option Int}{val:α→Value}{R:Res α}{e:Ending}(h:aB w F p kn val R e w'):(∃a,R=.need a∧e=.panicked (aR p))∨∃x D,R=.ok x D∧e=.returned (val x):=by
 cases R with
 |need a=>exact .inl ⟨a,rfl,h.1⟩
 |ok x D=>exact .inr ⟨x,D,rfl,h.1⟩
theorem H6 {c:Cfg}(R:c.Ok)(F:Nat→Prop)(p:Nat)(kn:Int→Option Int)(D:List KV)(k:Int)(w:World)(hv:aE w F p kn D):
 Calls Tryz.prog 56 #[.pointer (some ⟨p,0,none⟩),.agg c.arr,.int .i64 k] w (aB w F p kn (fun b=> .bool b) (dP c.pg c.st k kn D)):=by
 have HC:=hQQ (aY w c.arr 28)
 have HM:Hq (ae w (w.alloc (.cells c.arr 28))):=(ae.refl w).alloc _
 have HV:=hQQ (hv.more HM.o)
 clear hv
 go_enter Tryz.func56,Tryz.ntmps56
 go_wp2_with (first|refine aI rfl rfl rfl HC.o (by kernel_rfl) ?_|((with_reducible refine xB ?_ (.tmp 7) (.tmp 8) ?_ c k ?_ ?_ ?_);rfl;rfl;rfl;rfl))
 refine(sS R F p kn D k _ HV.o).mono ?_
 intro e w1 he
 have FIN:=hQQ (he.after HM.o)
 rcases jn he with⟨a,_,rfl⟩|⟨x,D',_,rfl⟩
 ·exact⟨rfl,FIN.o⟩
 ·clear he
  go_wp2_with fail
  go_ret
  exact FIN.o
theorem fF {S:Nat→Prop}{w w':World}(h:Turned S w w')(l:Nat)(o:Obj)(hl:l<w.heap.size→S l):Turned S w (w'.putObj l o):=
 ⟨h.os,h.tape,h.output,by simpa using h.size,fun k hk hs=>by
  rw[World.putObj_heap_other (by rintro rfl;exact hs (hl hk))];exact Turned.block h k hk hs⟩
structure OnV (w6 W:World)(F T:Nat→Prop)(p:Nat)(kn:Int→Option Int)(n:Nat)(D:List KV)(F':Nat→Prop):Prop where
 view:aE W F' p kn D
 from':∀k,F' k→F k∨w6.heap.size+2≤k
 turn:Turned (fun k=>F k∨T k) w6 W
 inv:cD n D
namespace OnV
variable {w6 W W':World}{F T F':Nat→Prop}{p n:Nat}{kn:Int→Option Int}{D:List KV}
theorem begin (hv:aE w6 F p kn D)(hD:cD n D):OnV w6 w6 F T p kn n D F:=⟨hv,fun k q=> .inl q,Turned.refl _ _,hD⟩
theorem more (h:OnV w6 W F T p kn n D F')(m:ae W W'):OnV w6 W' F T p kn n D F' :=
 ⟨h.view.more m,h.from',am (F':=fun _=>False) h.turn m (fun _ q=>q.elim),h.inv⟩
theorem put (h:OnV w6 W F T p kn n D F')(hF:∀k,F k→k<w6.heap.size){r:Loop}(r':Loop)(hl:W.heap[w6.heap.size+1]?=some (.loop r)):OnV w6 (W.putObj (w6.heap.size+1) (.loop r')) F T p kn n D F' :=
 ⟨h.view.keepS (S:=fun k=>k=w6.heap.size+1) (fF (Turned.refl _ W) _ _ (fun _=>rfl))
  (fun k q e=>by subst e;rcases h.from' _ q with r|r;have:=hF _ r;omega;omega)
  (fun k es cl e q=>by subst e;rw[hl] at q;cases q),
  h.from',fF h.turn _ _ (fun q=>by omega),h.inv⟩
theorem box (h:OnV w6 W F T p kn n D F'){b:Nat}(hT:T b)(hF:∀k,F k→k<b)(hb:b<w6.heap.size)(v:Value){o:Obj}(ho:W.heap[b]?=some o)(hm:∀es cl,o≠ .map es cl):OnV w6 (W.setCell ⟨b,0,none⟩ v) F T p kn n D F' :=
 ⟨h.view.keepS (S:=fun k=>k=b) (Turned.setCell (S:=fun k=>k=b) (Turned.refl _ W) ⟨b,0,none⟩ v (fun _=>rfl))
  (fun k q e=>by subst e;rcases h.from' _ q with r|r;have:=hF _ r;omega;omega)
  (fun k es cl e q=>by subst e;rw[ho] at q;cases q;exact hm _ _ rfl),
  h.from',h.turn.setCell ⟨b,0,none⟩ v (fun _=> .inr hT),h.inv⟩
theorem step (h:OnV w6 W F T p kn n D F')(hs:w6.heap.size+2≤W.heap.size){D1:List KV}{v:Value}{e:Ending}(m:ae W W'){W2:World}(hd:gx W' F' p kn D1 v e W2)(hI:cD n D1):
 e=.returned v∧∃F1,OnV w6 W2 F T p kn n D1 F1∧Turned F' W W2:=by
 obtain⟨he,F1,hv,ht,hn⟩:=hd
 refine⟨he,F1,⟨hv,fun k q=>?_,am (am (F':=fun _=>False) h.turn m (fun _ q=>q.elim)) ht (fun k q=>(h.from' k q).imp .inl (fun r=>by omega)),hI⟩,am (Turned.mono m (fun _ _ q=>q.elim)) ht (fun k q=> .inl q)⟩
 rcases hn k q with r|r
 ·exact h.from' k r
 ·have:=m.size;exact .inr (by omega)
theorem same (h:OnV w6 W F T p kn n D F')(hF:∀k,F k→k<w6.heap.size)(hs:w6.heap.size+2≤W.heap.size){W2:World}(t:Turned F' W W2):bM (dJ w6.heap.size) W W2 :=
 bM.turned t (fun k q=>by rcases q with q|q<;>omega) (fun k q r=>by
  rcases h.from' k r with s|s
  ·have:=hF k s;rcases q with q|q<;>omega
  ·rcases q with q|q<;>omega)
theorem sameS (h:OnV w6 W F T p kn n D F'){S:Nat→Prop}(hS:∀k,S k→k<w6.heap.size∧¬F k){W2:World}(t:Turned F' W W2):bM S W W2 :=
 bM.turned t (fun k q=>Nat.lt_of_lt_of_le (hS k q).1 h.turn.size) (fun k q r=>by
  rcases h.from' k r with s|s
  ·exact(hS k q).2 s
  ·have:=(hS k q).1;omega)
end OnV
def om (w6 W:World)(F T:Nat→Prop)(p:Nat)(a:Int):Prop:=aN W p a∧Turned (fun k=>F k∨T k) w6 W
theorem om.of {w6 W W' W2:World}{F T F':Nat→Prop}{p n:Nat}{kn:Int→Option Int}{D:List KV}(h:OnV w6 W F T p kn n D F')(hs:w6.heap.size≤W.heap.size)(m:ae W W'){a:Int}{e:Ending}(he:vz W' F' p a e W2):e=.panicked (aR p)∧om w6 W2 F T p a∧Turned F' W W2 :=
 ⟨he.1,⟨he.2.1,am (am (F':=fun _=>False) h.turn m (fun _ q=>q.elim)) he.2.2 (fun k q=>(h.from' k q).imp .inl (fun r=>by omega))⟩,am (Turned.mono m (fun _ _ q=>q.elim)) he.2.2 (fun k q=> .inl q)⟩
theorem om.more {w6 W W':World}{F T:Nat→Prop}{p:Nat}{a:Int}(h:om w6 W F T p a)(m:ae W W'):om w6 W' F T p a :=
 ⟨h.1.keep m (fun q=>q),am (F':=fun _=>False) h.2 m (fun _ q=>q.elim)⟩
theorem om.put {w6 W:World}{F T:Nat→Prop}{p:Nat}{a:Int}(h:om w6 W F T p a){l:Nat}{o:Obj}(hl:W.heap[l]?=some o)(ho:o.isCells=false)(hb:w6.heap.size≤l)(o':Obj):om w6 (W.putObj l o') F T p a:=by
 refine⟨?_,fF h.2 _ _ (fun q=>by omega)⟩
 obtain⟨M,q,hp⟩:=h.1
 exact⟨M,q,(World.putObj_heap_other (by rintro rfl;rw[hl] at hp;cases hp;cases ho)).trans hp⟩
theorem H7 {α:Type}{w w6 W:World}{F T:Nat→Prop}{p:Nat}{kn:Int→Option Int}{a:Int}{val:α→Value}{R:Res α}(m:ae w w6)(hT:∀k,T k→w.heap.size≤k)(h:om w6 W F T p a)(hR:R=.need a):aB w F p kn val R (.panicked (aR p)) W :=
 aB.need hR ⟨rfl,h.1,am (Turned.mono m (fun _ _ q=>q.elim)) h.2 (fun k q=>q.imp id (hT k))⟩
theorem Kw {α:Type}{w w6 W W2:World}{F T F' S:Nat→Prop}{p n:Nat}{kn:Int→Option Int}{D:List KV}{val:α→Value}{R:Res α}{x:α}(m:ae w w6)(hT:∀k,T k→w.heap.size≤k)(h:OnV w6 W F T p kn n D F')(hR:R=.ok x D)
 (t:Turned S W W2) (hS:∀k,S k→w.heap.size≤k∧¬F' k) (hM:∀k es cl,S k→W.heap[k]? ≠some (.map es cl)):aB w F p kn val R (.returned (val x)) W2:=by
 refine aB.did hR ⟨rfl,F',h.view.keepS t (fun k q r=>(hS k r).2 q) hM,?_,fun k q=>(h.from' k q).imp id (fun r=>by have:=m.size;omega)⟩
 exact am (am (Turned.mono m (fun _ _ q=>q.elim)) h.turn (fun k q=>q.imp id (hT k))) t (fun k q=> .inr (hS k q).1)
section
variable (w6:World)(F:Nat→Prop)(b p:Nat)(tb:TypeId)(kn:Int→Option Int)(n:Nat)
def DH (Sem:List KV→Value→Prop)(W:World):Prop:=∃F' D' v,OnV w6 W F (fun k=>k=b) p kn n D' F'∧W.heap[b]?=some (.cells #[v] tb (0,0))∧Sem D' v
def H8 (NeedR:Int→Prop)(Ret:List KV→Value→Prop):Exit→World→Prop
 | .panic ch,W=>ch=aR p∧∃a,NeedR a∧om w6 W F (fun k=>k=b) p a
 | .ret,W=>DH w6 F b p tb kn n Ret W
 | _,_=>False
def Mv (Sem:List KV→Value→Prop)(tc:TypeId)(cs:Array Value)(acts:Nat→Act)(a':Act)(W:World):Prop :=
 ∃Bx F' D' v,w6.heap.size+2≤Bx∧¬F' Bx∧W.heap[Bx]?=some (.cells cs tc (0,0))∧OnV w6 W F (fun k=>k=b) p kn n D' F'∧W.heap[b]?=some (.cells #[v] tb (0,0))∧Sem D' v∧a'=acts Bx
end
section
variable {w6:World}{F:Nat→Prop}{b p:Nat}{tb:TypeId}{kn:Int→Option Int}{n:Nat}
theorem qX (hF:∀k,F k→k<w6.heap.size)(hb:b<w6.heap.size)(Sem:List KV→Value→Prop):jb w6.heap.size (DH w6 F b p tb kn n Sem):=
 ⟨fun {A A'} h m=>by obtain⟨F',D',v,h1,h2,h3⟩:=h;exact⟨F',D',v,h1.more m,m.block h2,h3⟩,
  fun {A r} r' h hl=>by obtain⟨F',D',v,h1,h2,h3⟩:=h;exact⟨F',D',v,h1.put hF r' hl,(World.putObj_heap_other (by omega)).trans h2,h3⟩⟩
theorem zc (hF:∀k,F k→k<w6.heap.size)(hb:b<w6.heap.size)(NeedR:Int→Prop)(Ret:List KV→Value→Prop)(e:Exit):jb w6.heap.size (H8 w6 F b p tb kn n NeedR Ret e):=by
 cases e with
 |panic ch =>
  exact⟨fun {A A'} h m=>by obtain⟨h1,a,h2,h3⟩:=h;exact⟨h1,a,h2,h3.more m⟩,
   fun {A r} r' h hl=>by obtain⟨h1,a,h2,h3⟩:=h;exact⟨h1,a,h2,h3.put hl rfl (by omega) _⟩⟩
 |ret=>exact qX hF hb Ret
 |normal=>exact⟨fun {A A'} h m=>h,fun {A r} r' h hl=>h⟩
 |exit _=>exact⟨fun {A A'} h m=>h,fun {A r} r' h hl=>h⟩
 |goto _=>exact⟨fun {A A'} h m=>h,fun {A r} r' h hl=>h⟩
 |outgrown=>exact⟨fun {A A'} h m=>h,fun {A r} r' h hl=>h⟩
theorem zd (hF:∀k,F k→k<w6.heap.size)(hb:b<w6.heap.size)(Sem:List KV→Value→Prop)(tc:TypeId)(cs:Array Value)(acts:Nat→Act)(a':Act):jb w6.heap.size (Mv w6 F b p tb kn n Sem tc cs acts a'):=
 ⟨fun {A A'} h m=>by obtain⟨Bx,F',D',v,h0,h1,h2,h3,h4,h5⟩:=h;exact⟨Bx,F',D',v,h0,h1,m.block h2,h3.more m,m.block h4,h5⟩,
  fun {A r} r' h hl=>by
   obtain⟨Bx,F',D',v,h0,h1,h2,h3,h4,h5⟩:=h
   exact⟨Bx,F',D',v,h0,h1,(World.putObj_heap_other (by omega)).trans h2,h3.put hF r' hl,(World.putObj_heap_other (by omega)).trans h4,h5⟩⟩
end
attribute [local go_sem] Oper.semAt_some
def xC:Array Value:= #[.int .i64 0,.int .i64 0,.int .i64 0,.int .i64 0,.int .i64 0,.int .i64 0,.int .i64 0,.int .i64 0,.int .i64 0,.int .i64 0,.int .i64 0,.int .i64 0,.int .i64 0,.int .i64 0,.int .i64 0,.int .i64 0,.int .i64 0,.int .i64 0,.int .i64 0,.int .i64 0,.int .i64 0,.int .i64 0,.int .i64 0,.int .i64 0,.int .i64 0]
theorem Kx (c:Cfg)(k:Int):(cj c k).all (·.oneCell')=true:=by
 unfold cj
 rw[Array.all_push]
 have:c.arr.all (·.oneCell')=true:=kO ..
 rw[this];rfl
theorem ET (W:World)(c:Cfg)(k:Int):((W.alloc (.cells xC 139)).setRow W.heap.size (cj c k)).heap[W.heap.size]?=some (.cells (cj c k) 139 (0,0))∧ae W ((W.alloc (.cells xC 139)).setRow W.heap.size (cj c k)):=
 ⟨setRow_heap _ _ _ _ _ _ (bh W _),((ae.refl W).alloc _).setRow _ _ (Nat.le_refl _)⟩
theorem mZ {S:Nat→Prop}{W W':World}(m:ae W W')(hS:∀k,S k→k<W.heap.size):bM S W W':=bM.turned m hS (fun _ _ q=>q)
attribute [local go_sem] Oper.semAt_some
theorem iH {P:Program}{w:World}{ty:TypeId}{g:Nat}{v:Value}{d:TypeDesc}(hu:P.underlying ty=some d)(hd:(match d with| .struct _| .array _ _=>true|_=>false)=false)(hc:w.cell? ⟨g,0,none⟩=some v):(loadVar ty ⟨g,0,none⟩).run P w=.ok v w:=by
 have hagg:(isAgg ty).run P w=.ok false w:=by
  unfold isAgg
  rw[Sem.run_bind,run_underlying hu w]
  cases d<;>simp_all
 simp[loadVar,Sem.run_bind,hagg,hc,Result.andThen,go_sem]
section
variable {F:Fence}{n:Nat}{P:Program}{o:Oper}{a:Act}{w:World}{K:Act→World→Prop}{Q:Exit→Act→World→Prop}
theorem aK {ty:TypeId}{x:Operand}(ho:o.op=.load ty x){g:Nat}(hx:a.eval x=.pointer (some ⟨g,0,none⟩)){v:Value}(hr:(loadVar ty ⟨g,0,none⟩).run P w=.ok v w)(h:K (a.put o.dst v) w):o.wpIn F n P a w K Q:=by
 refine⟨by simp[Oper.about,ho],?_⟩
 rw[Oper.semAt_plain F _ _ (by rw[ho];intro c hc;cases hc)]
 simp[execOp,ho,hx,Instr.loadAt,Instr.sureAddr,Sem.run_bind,hr,Result.andThen]
 exact h
theorem cS {l f:Nat}{x0 x1 x2:Operand}{v0 v1 v2:Value}{ts:Array TypeId}(ho:o.op=.call { callee:= .value (.func f),args:= #[x0,x1,x2],argTypes:=ts })(h0:a.eval x0=v0)(h1:a.eval x1=v1)(h2:a.eval x2=v2)(he:∀(vs:Array Value)(w:World),Sem.run P (callFunc f vs) w=.ok (.enter f vs) w)
 (h:CallsIn Fence.wide (n-1) P f #[v0,v1,v2] w (fun| .returned v,w''=>K (a.put o.dst v) w''| .panicked ch,w''=>Q (.panic ch) a w''| .outgrown,_=>LetsOut Q)):o.wpIn (Fence.wide.inRound l) n P a w K Q:=by
 refine⟨fun _ _=>trivial,?_⟩
 have hv:a.eval (.func f)=.func (.func f) #[] #[]:=rfl
 rw[Oper.semAt_plain _ _ _ (by rw[ho];intro c hc;cases hc)]
 generalize a.eval=ρ at h0 h1 h2 hv⊢
 simp[execOp,ho,resolve,invoke,hv,h0,h1,h2,he,Sem.run_bind,Result.andThen,go_sem]
 exact⟨fun q=>by simp[Fence.inRound,Fence.wide] at q,CallsIn.inRound l h⟩
end
theorem Ia {c:Cfg}(R:c.Ok){n:Nat}(H:TblIn c.pg c.st n)(hn:n≤10000)(F:Nat→Prop)(p:Nat)(kn:Int→Option Int)(D:List KV)(x y:Int)(hx:W64 x)(w:World)(hv:aE w F p kn D)(hk:OkK kn)(hD:cD n D):
 Calls Tryz.prog 161 #[.pointer (some ⟨p,0,none⟩),.agg c.arr,.int .i64 x,.int .i64 y] w (aB w F p kn (fun s=> .int .i64 s) (gA c.pg c.st x y kn D)):=by
 obtain⟨Rr,hRr⟩:∃Rr,gA c.pg c.st x y kn D=Rr:=⟨_,rfl⟩
 rw[hRr]
 refine(callsIn_wide (n:=3)).1 ?_
 refine iD Tryz.func161 rfl trivial ?_ rfl
 simp only[Tryz.ntmps161,List.size_toArray,List.length_cons,List.length_nil,Nat.reduceAdd,Nat.reduceSub,Array.replicate_succ,Array.replicate_zero,List.push_toArray,List.append_toArray,List.nil_append,List.cons_append]
 refine fC ?_
 gi_wp2
 refine fC ?_
 gi_wp2
 refine sr ?_
 refine fC ?_
 obtain⟨w3,e3,hb0,hb1,hb2,m3,s3⟩:=kV w (.cells #[.pointer (some ⟨p,0,none⟩)] 43) (.cells c.arr 28) (.cells #[.int .i64 0] 3)
 rw[e3]
 clear e3
 have hld3:(loadVar 28 ⟨w.heap.size+1,0,none⟩).run Tryz.prog w3=.ok (.agg c.arr) w3:=run_loadVar_row w3 _ _ _ _ _ _ hb1 Tryz.underlying28 rfl (by kernel_rfl)
 have HB0:=hQQ hb0
 have HB1:=hQQ hb1
 have HB2:=hQQ hb2
 clear hb0 hb1 hb2
 gi_wp2_with (first
  |((with_reducible refine gC ?_ 28 (.tmp 5) ?_ (w.heap.size+1) ?_ (.agg c.arr) ?_ ?_);rfl;rfl;rfl;exact hld3)
  |((with_reducible refine And.intro ?_ ?_);exact trivial;gi_at_call 165;refine(Kv _ x y _).mono ?_;rintro e w' ⟨rfl,rfl⟩))
 obtain⟨hl,hp4,hp5⟩:=ER c x y w3
 have m6:ae w3 (((w3.alloc (.cells c.arr 28)).alloc (.cells #[.int .i64 x] 3)).alloc (.cells #[.int .i64 y] 3)):=(((ae.refl _).alloc _).alloc _).alloc _
 have s6:(((w3.alloc (.cells c.arr 28)).alloc (.cells #[.int .i64 x] 3)).alloc (.cells #[.int .i64 y] 3)).heap.size=w.heap.size+6:=by simp[s3]
 rw[s3] at hl hp4 hp5
 generalize ((w3.alloc (.cells c.arr 28)).alloc (.cells #[.int .i64 x] 3)).alloc (.cells #[.int .i64 y] 3)=w6 at hl hp4 hp5 m6 s6⊢
 have hc0:=m6.block HB0.o
 have hc1:=m6.block HB1.o
 have hc2:=m6.block HB2.o
 have m06:=m3.trans m6
 have hv6:=hv.more m06
 have hF:=hv.lt
 have hF6:∀k,F k→k<w6.heap.size:=fun k q=>by have:=hF k q;omega
 have HR:=hQQ R
 have HK:=hQQ hk
 have HH:=hQQ H
 have HT:=hQQ (fun w=>DG (c:=c) R x y hx w)
 have OE:=hQQ (ES 2 (by omega) R x y hx (w.heap.size+3) (w.heap.size+3+1) (w.heap.size+3+2) w6 hl hp4 hp5)
 have hR0:(ci c.pg x y=true→ij c.pg c.st (ej c.pg x y) (x / 4) 0 kn D=Rr)∧(ci c.pg x y=false→Rr=.ok 0 D):=by
  unfold gA at hRr
  unfold ej
  cases hth:ci c.pg x y with
  |true=>rw[hth] at hRr;exact⟨fun _=>hRr,fun q=>(by cases q)⟩
  |false=>rw[hth] at hRr;exact⟨fun q=>(by cases q),fun _=>hRr.symm⟩
 have HR0:=hQQ hR0
 have ON0:=hQQ (OnV.begin (T:=fun k=>k=w.heap.size+2) hv6 hD)
 clear hRr R hk H hl hp4 hp5 hv hv6 hD hx m3 s3 hld3 HB0 HB1 HB2 m6 hR0
 have HC0:=hQQ hc0
 have HC1:=hQQ hc1
 have HC2:=hQQ hc2
 clear hc0 hc1 hc2
 have hNT:∀k,k=w.heap.size+2→w.heap.size≤k:=fun k q=>by omega
 have hb6:w.heap.size+2<w6.heap.size:=by omega
 refine oc ?_
 refine GQ (N:=ej c.pg x y) (gf:=170) (lb:=#[.pointer (some ⟨w.heap.size+3,0,none⟩),.pointer (some ⟨w.heap.size+3+1,0,none⟩),.pointer (some ⟨w.heap.size+3+2,0,none⟩)]) Tryz.func161 rfl (by omega) rfl trivial (enters_of Tryz.func170 (by kernel_rfl) rfl) OE.o (ae.refl _) (by rintro k (rfl|rfl|rfl)<;>omega) (fun _=>rfl)
  (fun i=>DH w6 F (w.heap.size+2) p 3 kn n (fun D' v=>∃s:Int,v=.int .i64 s∧0≤s∧s≤4 * (i:Int)∧(ci c.pg x y=true→ij c.pg c.st (ej c.pg x y-i) (x / 4+(i:Int)) s kn D'=Rr)∧(ci c.pg x y=false→D'=D∧s=0)))
  (fun e _=>H8 w6 F (w.heap.size+2) p 3 kn n (fun a=>Rr=.need a) (fun _ _=>False) e)
  (fun i=>qX hF6 hb6 _) (fun e i=>zc hF6 hb6 _ _ e)
  ⟨F,D,_,ON0.o,HC2.o,0,rfl,by omega,by omega,fun h=>by simpa using HR0.o.1 h,fun _=>⟨rfl,rfl⟩⟩
  (fun i=>Mv w6 F (w.heap.size+2) p 3 kn n (fun D' v=>∃s:Int,v=.int .i64 s∧0≤s∧s≤4 * (i:Int)∧(ci c.pg x y=true→ij c.pg c.st (ej c.pg x y-i) (x / 4+(i:Int)) s kn D'=Rr)∧(ci c.pg x y=false→D'=D∧s=0)) 139 (cj c (x / 4+(i:Int)))
   (fun Bx=> { tmps:= #[.pointer (some ⟨p,0,none⟩),.agg c.arr,.int .i64 x,.int .i64 y,.pointer (some ⟨w.heap.size,0,none⟩),.pointer (some ⟨w.heap.size+1,0,none⟩),undef,undef,.int .i64 0,.pointer (some ⟨w.heap.size+1+1,0,none⟩),.pointer (some ⟨Bx,0,none⟩),.agg c.arr,.int .i64 x,.int .i64 y,.func (.func 170) #[] #[.pointer (some ⟨w.heap.size+3,0,none⟩),.pointer (some ⟨w.heap.size+3+1,0,none⟩),.pointer (some ⟨w.heap.size+3+2,0,none⟩)],.agg (cj c (x / 4+(i:Int))),undef,undef,undef,undef,undef,undef],defers:= [] }))
  (fun i a'=>zd hF6 hb6 _ _ _ _ a') ?assign ?body ?done ?stop ?dies
 case assign =>
  rintro l i W K hi hsz ⟨F',D',v,h1,h2,h3⟩ hK
  obtain⟨hx1,hm1⟩:=ET W c (x / 4+(i:Int))
  gi_wp2_with ((with_reducible refine jm ?_ 139 (.tmp 10) (.tmp 15) ?_ W.heap.size ?_ (cj c (x / 4+(i:Int))) ?_ 139 xC ?_ ?_ ?_ ?_ ?_);rfl;rfl;rfl;rfl;exact bh W _;kernel_rfl;rfl;exact Kx c _)
  refine hK _ _ (mZ hm1 (by rintro k (rfl|rfl)<;>omega)) (mZ hm1 (by rintro k (rfl|rfl|rfl)<;>omega)) ?_
  exact⟨W.heap.size,F',D',v,hsz,fun q=>by have:=h1.view.lt _ q;omega,hx1,h1.more hm1,hm1.block h2,h3,rfl⟩
 case body =>
  rintro l i a' W hsz hi ⟨Bx,F',D',v,g0,g1,g2,g3,g4,⟨s,rfl,s0,s1,g5,g6⟩,rfl⟩
  have HEN:=enters_of Tryz.func166 (by kernel_rfl) rfl
  have hmx:Tryz.prog.follows .mixedOrders=true:=by kernel_rfl
  have hld:=run_loadVar_row (P:=Tryz.prog) W.drew Bx _ 139 _ _ _ g2 Tryz.underlying139 rfl (by kernel_rfl)
  have hcv:=(Turned.block g3.turn w.heap.size (by omega) (by rintro(q|q);have:=hF _ q;omega;omega)).trans HC0.o
  have cv:W.drew.cell? ⟨w.heap.size,0,none⟩=some (.pointer (some ⟨p,0,none⟩)):=(aC hcv).1
  have cs:W.drew.cell? ⟨w.heap.size+1+1,0,none⟩=some (.int .i64 s):=(aC (b:=w.heap.size+1+1) g4).1
  have hv1:(loadVar 43 ⟨w.heap.size,0,none⟩).run Tryz.prog W.drew=.ok (.pointer (some ⟨p,0,none⟩)) W.drew:=iH Tryz.underlying43 rfl cv
  have hs1:(loadVar 3 ⟨w.heap.size+1+1,0,none⟩).run Tryz.prog W.drew=.ok (.int .i64 s) W.drew:=iH Tryz.underlying3 rfl cs
  have hth:ci c.pg x y=true:=by
   cases q:ci c.pg x y with
   |true=>rfl
   |false=>unfold ej at hi;rw[q] at hi;simp at hi
  have hN:ej c.pg x y≤64:=by unfold ej;rw[hth];exact(Bt hth HR.o.pg2).2
  have hsem:=g5 hth
  rw[show ej c.pg x y-i=(ej c.pg x y-(i+1))+1 by omega] at hsem
  have hsem2:aq (jK c.pg c.st (x / 4+(i:Int)) 1) (fun z=>ij c.pg c.st (ej c.pg x y-(i+1)) (x / 4+(i:Int)+1) (s+z)) kn D'=Rr:=hsem
  have TN:=hQQ (Nm HR.o HH.o hn F' p kn D' (x / 4+(i:Int)) 1 W.drew (g3.view.more (ae.refl W).drew) HK.o g3.inv)
  have G3:=hQQ g3
  have G4:=hQQ g4
  have HS:=hQQ hsem2
  clear hcv hsem hsem2 g3 g4 g5 g6 g2 cv cs
  refine wpIn_block ?_
  cases hm:jK c.pg c.st (x / 4+(i:Int)) 1 kn D' with
  |need a =>
   have FIN:Hq (∀W2 e,aB W.drew F' p kn (fun y:Int=>Value.int .i64 y) (.need a) e W2→e=.panicked (aR p)∧bM (dJ w6.heap.size) W W2∧([]:List Deferred)= []∧H8 w6 F (w.heap.size+2) p 3 kn n (fun a=>Rr=.need a) (fun _ _=>False) (.panic (aR p)) W2):=hQQ fun W2 e he=>by
    obtain⟨he',hend,ht⟩:=om.of G3.o (by omega) (ae.refl W).drew he
    exact⟨he',G3.o.same hF6 hsz ht,rfl,rfl,a,HS.o.symm.trans (ag hm),hend⟩
   refine wpIn_region_any hmx ?_
   change wpAnyIn _ _ _ _ _ _ _ _ _ (World.drew _)
   refine wpAnyIn_ready (rs:=[0,1,2]) (by kernel_rfl) (by simp) ?_
   refine AllReadyIn.cons rfl (fun K hK=>?_) ?_
   ·rw[if_pos (by rfl)];refine aK rfl rfl hs1 ?_;refine hK _ _ ?_;clear hK K
    refine wpAnyIn_ready (rs:=[1,2]) (by kernel_rfl) (by simp) ?_
    refine AllReadyIn.cons rfl (fun K hK=>?_) ?_
    ·rw[if_pos (by rfl)];refine aK rfl rfl hld ?_;refine hK _ _ ?_;clear hK K
     refine wpAnyIn_ready (rs:=[2]) (by kernel_rfl) (by simp) ?_
     refine AllReadyIn.cons rfl (fun K hK=>?_) ?_
     ·rw[if_pos (by rfl)];refine aK rfl rfl hv1 ?_;refine hK _ _ ?_;clear hK K
      refine wpAnyIn_ready (rs:=[3]) (by kernel_rfl) (by simp) ?_
      refine AllReadyIn.cons rfl (fun K hK=>?_) ?_
      ·rw[if_pos (by rfl)];refine cS (v0:=.agg (cj c (x / 4+(i:Int)))) (v1:=.pointer (some ⟨p,0,none⟩)) (v2:=.int .i64 1) rfl rfl rfl rfl HEN ?_
       refine(callsIn_wide.2 TN.o).mono ?_
       intro e W2 he
       rw[hm] at he
       obtain⟨rfl,hfin⟩:=FIN.o W2 e he
       exact hfin
      exact AllReadyIn.nil
     exact AllReadyIn.nil
    refine AllReadyIn.cons rfl (fun K hK=>?_) ?_
    ·rw[if_pos (by rfl)];refine aK rfl rfl hv1 ?_;refine hK _ _ ?_;clear hK K
     refine wpAnyIn_ready (rs:=[1]) (by kernel_rfl) (by simp) ?_
     refine AllReadyIn.cons rfl (fun K hK=>?_) ?_
     ·rw[if_pos (by rfl)];refine aK rfl rfl hld ?_;refine hK _ _ ?_;clear hK K
      refine wpAnyIn_ready (rs:=[3]) (by kernel_rfl) (by simp) ?_
      refine AllReadyIn.cons rfl (fun K hK=>?_) ?_
      ·rw[if_pos (by rfl)];refine cS (v0:=.agg (cj c (x / 4+(i:Int)))) (v1:=.pointer (some ⟨p,0,none⟩)) (v2:=.int .i64 1) rfl rfl rfl rfl HEN ?_
       refine(callsIn_wide.2 TN.o).mono ?_
       intro e W2 he
       rw[hm] at he
       obtain⟨rfl,hfin⟩:=FIN.o W2 e he
       exact hfin
      exact AllReadyIn.nil
     exact AllReadyIn.nil
    exact AllReadyIn.nil
   refine AllReadyIn.cons rfl (fun K hK=>?_) ?_
   ·rw[if_pos (by rfl)];refine aK rfl rfl hld ?_;refine hK _ _ ?_;clear hK K
    refine wpAnyIn_ready (rs:=[0,2]) (by kernel_rfl) (by simp) ?_
    refine AllReadyIn.cons rfl (fun K hK=>?_) ?_
    ·rw[if_pos (by rfl)];refine aK rfl rfl hs1 ?_;refine hK _ _ ?_;clear hK K
     refine wpAnyIn_ready (rs:=[2]) (by kernel_rfl) (by simp) ?_
     refine AllReadyIn.cons rfl (fun K hK=>?_) ?_
     ·rw[if_pos (by rfl)];refine aK rfl rfl hv1 ?_;refine hK _ _ ?_;clear hK K
      refine wpAnyIn_ready (rs:=[3]) (by kernel_rfl) (by simp) ?_
      refine AllReadyIn.cons rfl (fun K hK=>?_) ?_
      ·rw[if_pos (by rfl)];refine cS (v0:=.agg (cj c (x / 4+(i:Int)))) (v1:=.pointer (some ⟨p,0,none⟩)) (v2:=.int .i64 1) rfl rfl rfl rfl HEN ?_
       refine(callsIn_wide.2 TN.o).mono ?_
       intro e W2 he
       rw[hm] at he
       obtain⟨rfl,hfin⟩:=FIN.o W2 e he
       exact hfin
      exact AllReadyIn.nil
     exact AllReadyIn.nil
    refine AllReadyIn.cons rfl (fun K hK=>?_) ?_
    ·rw[if_pos (by rfl)];refine aK rfl rfl hv1 ?_;refine hK _ _ ?_;clear hK K
     refine wpAnyIn_ready (rs:=[0,3]) (by kernel_rfl) (by simp) ?_
     refine AllReadyIn.cons rfl (fun K hK=>?_) ?_
     ·rw[if_pos (by rfl)];refine aK rfl rfl hs1 ?_;refine hK _ _ ?_;clear hK K
      refine wpAnyIn_ready (rs:=[3]) (by kernel_rfl) (by simp) ?_
      refine AllReadyIn.cons rfl (fun K hK=>?_) ?_
      ·rw[if_pos (by rfl)];refine cS (v0:=.agg (cj c (x / 4+(i:Int)))) (v1:=.pointer (some ⟨p,0,none⟩)) (v2:=.int .i64 1) rfl rfl rfl rfl HEN ?_
       refine(callsIn_wide.2 TN.o).mono ?_
       intro e W2 he
       rw[hm] at he
       obtain⟨rfl,hfin⟩:=FIN.o W2 e he
       exact hfin
      exact AllReadyIn.nil
     refine AllReadyIn.cons rfl (fun K hK=>?_) ?_
     ·rw[if_pos (by rfl)];refine cS (v0:=.agg (cj c (x / 4+(i:Int)))) (v1:=.pointer (some ⟨p,0,none⟩)) (v2:=.int .i64 1) rfl rfl rfl rfl HEN ?_
      refine(callsIn_wide.2 TN.o).mono ?_
      intro e W2 he
      rw[hm] at he
      obtain⟨rfl,hfin⟩:=FIN.o W2 e he
      exact hfin
     exact AllReadyIn.nil
    exact AllReadyIn.nil
   refine AllReadyIn.cons rfl (fun K hK=>?_) ?_
   ·rw[if_pos (by rfl)];refine aK rfl rfl hv1 ?_;refine hK _ _ ?_;clear hK K
    refine wpAnyIn_ready (rs:=[0,1]) (by kernel_rfl) (by simp) ?_
    refine AllReadyIn.cons rfl (fun K hK=>?_) ?_
    ·rw[if_pos (by rfl)];refine aK rfl rfl hs1 ?_;refine hK _ _ ?_;clear hK K
     refine wpAnyIn_ready (rs:=[1]) (by kernel_rfl) (by simp) ?_
     refine AllReadyIn.cons rfl (fun K hK=>?_) ?_
     ·rw[if_pos (by rfl)];refine aK rfl rfl hld ?_;refine hK _ _ ?_;clear hK K
      refine wpAnyIn_ready (rs:=[3]) (by kernel_rfl) (by simp) ?_
      refine AllReadyIn.cons rfl (fun K hK=>?_) ?_
      ·rw[if_pos (by rfl)];refine cS (v0:=.agg (cj c (x / 4+(i:Int)))) (v1:=.pointer (some ⟨p,0,none⟩)) (v2:=.int .i64 1) rfl rfl rfl rfl HEN ?_
       refine(callsIn_wide.2 TN.o).mono ?_
       intro e W2 he
       rw[hm] at he
       obtain⟨rfl,hfin⟩:=FIN.o W2 e he
       exact hfin
      exact AllReadyIn.nil
     exact AllReadyIn.nil
    refine AllReadyIn.cons rfl (fun K hK=>?_) ?_
    ·rw[if_pos (by rfl)];refine aK rfl rfl hld ?_;refine hK _ _ ?_;clear hK K
     refine wpAnyIn_ready (rs:=[0,3]) (by kernel_rfl) (by simp) ?_
     refine AllReadyIn.cons rfl (fun K hK=>?_) ?_
     ·rw[if_pos (by rfl)];refine aK rfl rfl hs1 ?_;refine hK _ _ ?_;clear hK K
      refine wpAnyIn_ready (rs:=[3]) (by kernel_rfl) (by simp) ?_
      refine AllReadyIn.cons rfl (fun K hK=>?_) ?_
      ·rw[if_pos (by rfl)];refine cS (v0:=.agg (cj c (x / 4+(i:Int)))) (v1:=.pointer (some ⟨p,0,none⟩)) (v2:=.int .i64 1) rfl rfl rfl rfl HEN ?_
       refine(callsIn_wide.2 TN.o).mono ?_
       intro e W2 he
       rw[hm] at he
       obtain⟨rfl,hfin⟩:=FIN.o W2 e he
       exact hfin
      exact AllReadyIn.nil
     refine AllReadyIn.cons rfl (fun K hK=>?_) ?_
     ·rw[if_pos (by rfl)];refine cS (v0:=.agg (cj c (x / 4+(i:Int)))) (v1:=.pointer (some ⟨p,0,none⟩)) (v2:=.int .i64 1) rfl rfl rfl rfl HEN ?_
      refine(callsIn_wide.2 TN.o).mono ?_
      intro e W2 he
      rw[hm] at he
      obtain⟨rfl,hfin⟩:=FIN.o W2 e he
      exact hfin
     exact AllReadyIn.nil
    exact AllReadyIn.nil
   exact AllReadyIn.nil
  |ok z D1 =>
   have FI2:Hq (∀W2 e,aB W.drew F' p kn (fun y:Int=>Value.int .i64 y) (.ok z D1) e W2→e=.returned (.int .i64 z)∧(loadVar 3 ⟨w.heap.size+1+1,0,none⟩).run Tryz.prog W2=.ok (.int .i64 s) W2∧W2.cell? ⟨w.heap.size+1+1,0,none⟩=some (.int .i64 s)∧W2.frozen? ⟨w.heap.size+1+1,0,none⟩=false ∧
    (bM (dJ w6.heap.size) W (W2.setCell ⟨w.heap.size+1+1,0,none⟩ (.int .i64 (s+z)))∧bM (fun k=>k=w.heap.size+3∨k=w.heap.size+3+1∨k=w.heap.size+3+2) W (W2.setCell ⟨w.heap.size+1+1,0,none⟩ (.int .i64 (s+z)))∧DH w6 F (w.heap.size+2) p 3 kn n (fun D' v=>∃s:Int,v=.int .i64 s∧0≤s∧s≤4 * ((i+1:Nat):Int)∧(ci c.pg x y=true→ij c.pg c.st (ej c.pg x y-(i+1)) (x / 4+((i+1:Nat):Int)) s kn D'=Rr)∧(ci c.pg x y=false→D'=D∧s=0)) (W2.setCell ⟨w.heap.size+1+1,0,none⟩ (.int .i64 (s+z))))):=hQQ fun W2 e he=>by
    obtain⟨hI1,z0,z1⟩:=(qc HH.o _ 1 (by unfold W64;omega)).ok HK.o G3.o.inv hm
    obtain⟨he',F1,hon,ht⟩:=G3.o.step hsz (ae.refl W).drew he hI1
    have hbr:W2.heap[w.heap.size+2]?=some (.cells #[.int .i64 s] 3 (0,0)):=(Turned.block ht _ (by omega) (fun q=>by rcases G3.o.from' _ q with r|r;have:=hF _ r;omega;omega)).trans G4.o
    obtain⟨cr,fr,_⟩:=aC (b:=w.heap.size+1+1) hbr
    have hlt:=ac hbr
    have hsz2:=ht.size
    have tb:Turned (fun k=>k=w.heap.size+1+1) W2 (W2.setCell ⟨w.heap.size+1+1,0,none⟩ (.int .i64 (s+z))):=Turned.setCell (Turned.refl _ W2) _ _ (fun _=>rfl)
    refine⟨he',iH Tryz.underlying3 rfl cr,cr,fr,?_,?_,F1,D1,_,hon.box (b:=w.heap.size+1+1) rfl (fun k q=>by have:=hF _ q;omega) (by omega) _ hbr (fun _ _ q=>by cases q),kU (b:=w.heap.size+1+1) _ hbr,s+z,rfl,by omega,by omega,fun _=>?_,fun q=>by rw[hth] at q;cases q⟩
    ·exact(G3.o.same hF6 hsz ht).trans (bM.turned tb (fun k q=>by rcases q with q|q<;>omega) (fun k q r=>by rcases q with q|q<;>omega))
    ·exact(G3.o.sameS (by rintro k (rfl|rfl|rfl)<;>exact⟨by omega,fun q=>by have:=hF _ q;omega⟩) ht).trans (bM.turned tb (fun k q=>by rcases q with q|q|q<;>omega) (fun k q r=>by rcases q with q|q|q<;>omega))
    ·rw[show x / 4+((i+1:Nat):Int)=x / 4+(i:Int)+1 by omega]
     exact(aj hm).symm.trans HS.o
   have zb:=((qc HH.o _ 1 (by unfold W64;omega)).ok HK.o G3.o.inv hm).2
   have qw:IntKind.i64.wrap (s+z)=s+z:=az (by omega) (by omega)
   refine wpIn_region_any hmx ?_
   change wpAnyIn _ _ _ _ _ _ _ _ _ (World.drew _)
   refine wpAnyIn_ready (rs:=[0,1,2]) (by kernel_rfl) (by simp) ?_
   refine AllReadyIn.cons rfl (fun K hK=>?_) ?_
   ·rw[if_pos (by rfl)];refine aK rfl rfl hs1 ?_;refine hK _ _ ?_;clear hK K
    refine wpAnyIn_ready (rs:=[1,2]) (by kernel_rfl) (by simp) ?_
    refine AllReadyIn.cons rfl (fun K hK=>?_) ?_
    ·rw[if_pos (by rfl)];refine aK rfl rfl hld ?_;refine hK _ _ ?_;clear hK K
     refine wpAnyIn_ready (rs:=[2]) (by kernel_rfl) (by simp) ?_
     refine AllReadyIn.cons rfl (fun K hK=>?_) ?_
     ·rw[if_pos (by rfl)];refine aK rfl rfl hv1 ?_;refine hK _ _ ?_;clear hK K
      refine wpAnyIn_ready (rs:=[3]) (by kernel_rfl) (by simp) ?_
      refine AllReadyIn.cons rfl (fun K hK=>?_) ?_
      ·rw[if_pos (by rfl)];refine cS (v0:=.agg (cj c (x / 4+(i:Int)))) (v1:=.pointer (some ⟨p,0,none⟩)) (v2:=.int .i64 1) rfl rfl rfl rfl HEN ?_
       refine(callsIn_wide.2 TN.o).mono ?_
       intro e W2 he
       rw[hm] at he
       obtain⟨rfl,hs2,cs2,fs2,hfin⟩:=FI2.o W2 e he
       have FIN:=hQQ hfin
       clear hfin he
       refine hK _ _ ?_;clear hK K
       refine wpAnyIn_ready (rs:=[4]) (by kernel_rfl) (by simp) ?_
       refine AllReadyIn.cons rfl (fun K hK=>?_) ?_
       ·go_simp;refine hK _ _ ?_;clear hK K
        refine wpAnyIn_ready (rs:=[5]) (by kernel_rfl) (by simp) ?_
        refine AllReadyIn.cons rfl (fun K hK=>?_) ?_
        ·go_simp;refine hK _ _ ?_;clear hK K
         refine wpAnyIn_done (by kernel_rfl) ?_ _
         exact FIN.o
        exact AllReadyIn.nil
       exact AllReadyIn.nil
      exact AllReadyIn.nil
     exact AllReadyIn.nil
    refine AllReadyIn.cons rfl (fun K hK=>?_) ?_
    ·rw[if_pos (by rfl)];refine aK rfl rfl hv1 ?_;refine hK _ _ ?_;clear hK K
     refine wpAnyIn_ready (rs:=[1]) (by kernel_rfl) (by simp) ?_
     refine AllReadyIn.cons rfl (fun K hK=>?_) ?_
     ·rw[if_pos (by rfl)];refine aK rfl rfl hld ?_;refine hK _ _ ?_;clear hK K
      refine wpAnyIn_ready (rs:=[3]) (by kernel_rfl) (by simp) ?_
      refine AllReadyIn.cons rfl (fun K hK=>?_) ?_
      ·rw[if_pos (by rfl)];refine cS (v0:=.agg (cj c (x / 4+(i:Int)))) (v1:=.pointer (some ⟨p,0,none⟩)) (v2:=.int .i64 1) rfl rfl rfl rfl HEN ?_
       refine(callsIn_wide.2 TN.o).mono ?_
       intro e W2 he
       rw[hm] at he
       obtain⟨rfl,hs2,cs2,fs2,hfin⟩:=FI2.o W2 e he
       have FIN:=hQQ hfin
       clear hfin he
       refine hK _ _ ?_;clear hK K
       refine wpAnyIn_ready (rs:=[4]) (by kernel_rfl) (by simp) ?_
       refine AllReadyIn.cons rfl (fun K hK=>?_) ?_
       ·go_simp;refine hK _ _ ?_;clear hK K
        refine wpAnyIn_ready (rs:=[5]) (by kernel_rfl) (by simp) ?_
        refine AllReadyIn.cons rfl (fun K hK=>?_) ?_
        ·go_simp;refine hK _ _ ?_;clear hK K
         refine wpAnyIn_done (by kernel_rfl) ?_ _
         exact FIN.o
        exact AllReadyIn.nil
       exact AllReadyIn.nil
      exact AllReadyIn.nil
     exact AllReadyIn.nil
    exact AllReadyIn.nil
   refine AllReadyIn.cons rfl (fun K hK=>?_) ?_
   ·rw[if_pos (by rfl)];refine aK rfl rfl hld ?_;refine hK _ _ ?_;clear hK K
    refine wpAnyIn_ready (rs:=[0,2]) (by kernel_rfl) (by simp) ?_
    refine AllReadyIn.cons rfl (fun K hK=>?_) ?_
    ·rw[if_pos (by rfl)];refine aK rfl rfl hs1 ?_;refine hK _ _ ?_;clear hK K
     refine wpAnyIn_ready (rs:=[2]) (by kernel_rfl) (by simp) ?_
     refine AllReadyIn.cons rfl (fun K hK=>?_) ?_
     ·rw[if_pos (by rfl)];refine aK rfl rfl hv1 ?_;refine hK _ _ ?_;clear hK K
      refine wpAnyIn_ready (rs:=[3]) (by kernel_rfl) (by simp) ?_
      refine AllReadyIn.cons rfl (fun K hK=>?_) ?_
      ·rw[if_pos (by rfl)];refine cS (v0:=.agg (cj c (x / 4+(i:Int)))) (v1:=.pointer (some ⟨p,0,none⟩)) (v2:=.int .i64 1) rfl rfl rfl rfl HEN ?_
       refine(callsIn_wide.2 TN.o).mono ?_
       intro e W2 he
       rw[hm] at he
       obtain⟨rfl,hs2,cs2,fs2,hfin⟩:=FI2.o W2 e he
       have FIN:=hQQ hfin
       clear hfin he
       refine hK _ _ ?_;clear hK K
       refine wpAnyIn_ready (rs:=[4]) (by kernel_rfl) (by simp) ?_
       refine AllReadyIn.cons rfl (fun K hK=>?_) ?_
       ·go_simp;refine hK _ _ ?_;clear hK K
        refine wpAnyIn_ready (rs:=[5]) (by kernel_rfl) (by simp) ?_
        refine AllReadyIn.cons rfl (fun K hK=>?_) ?_
        ·go_simp;refine hK _ _ ?_;clear hK K
         refine wpAnyIn_done (by kernel_rfl) ?_ _
         exact FIN.o
        exact AllReadyIn.nil
       exact AllReadyIn.nil
      exact AllReadyIn.nil
     exact AllReadyIn.nil
    refine AllReadyIn.cons rfl (fun K hK=>?_) ?_
    ·rw[if_pos (by rfl)];refine aK rfl rfl hv1 ?_;refine hK _ _ ?_;clear hK K
     refine wpAnyIn_ready (rs:=[0,3]) (by kernel_rfl) (by simp) ?_
     refine AllReadyIn.cons rfl (fun K hK=>?_) ?_
     ·rw[if_pos (by rfl)];refine aK rfl rfl hs1 ?_;refine hK _ _ ?_;clear hK K
      refine wpAnyIn_ready (rs:=[3]) (by kernel_rfl) (by simp) ?_
      refine AllReadyIn.cons rfl (fun K hK=>?_) ?_
      ·rw[if_pos (by rfl)];refine cS (v0:=.agg (cj c (x / 4+(i:Int)))) (v1:=.pointer (some ⟨p,0,none⟩)) (v2:=.int .i64 1) rfl rfl rfl rfl HEN ?_
       refine(callsIn_wide.2 TN.o).mono ?_
       intro e W2 he
       rw[hm] at he
       obtain⟨rfl,hs2,cs2,fs2,hfin⟩:=FI2.o W2 e he
       have FIN:=hQQ hfin
       clear hfin he
       refine hK _ _ ?_;clear hK K
       refine wpAnyIn_ready (rs:=[4]) (by kernel_rfl) (by simp) ?_
       refine AllReadyIn.cons rfl (fun K hK=>?_) ?_
       ·go_simp;refine hK _ _ ?_;clear hK K
        refine wpAnyIn_ready (rs:=[5]) (by kernel_rfl) (by simp) ?_
        refine AllReadyIn.cons rfl (fun K hK=>?_) ?_
        ·go_simp;refine hK _ _ ?_;clear hK K
         refine wpAnyIn_done (by kernel_rfl) ?_ _
         exact FIN.o
        exact AllReadyIn.nil
       exact AllReadyIn.nil
      exact AllReadyIn.nil
     refine AllReadyIn.cons rfl (fun K hK=>?_) ?_
     ·rw[if_pos (by rfl)];refine cS (v0:=.agg (cj c (x / 4+(i:Int)))) (v1:=.pointer (some ⟨p,0,none⟩)) (v2:=.int .i64 1) rfl rfl rfl rfl HEN ?_
      refine(callsIn_wide.2 TN.o).mono ?_
      intro e W2 he
      rw[hm] at he
      obtain⟨rfl,hs2,cs2,fs2,hfin⟩:=FI2.o W2 e he
      have FIN:=hQQ hfin
      clear hfin he
      refine hK _ _ ?_;clear hK K
      refine wpAnyIn_ready (rs:=[0]) (by kernel_rfl) (by simp) ?_
      refine AllReadyIn.cons rfl (fun K hK=>?_) ?_
      ·rw[if_pos (by rfl)];refine aK rfl rfl hs2 ?_;refine hK _ _ ?_;clear hK K
       refine wpAnyIn_ready (rs:=[4]) (by kernel_rfl) (by simp) ?_
       refine AllReadyIn.cons rfl (fun K hK=>?_) ?_
       ·go_simp;refine hK _ _ ?_;clear hK K
        refine wpAnyIn_ready (rs:=[5]) (by kernel_rfl) (by simp) ?_
        refine AllReadyIn.cons rfl (fun K hK=>?_) ?_
        ·go_simp;refine hK _ _ ?_;clear hK K
         refine wpAnyIn_done (by kernel_rfl) ?_ _
         exact FIN.o
        exact AllReadyIn.nil
       exact AllReadyIn.nil
      exact AllReadyIn.nil
     exact AllReadyIn.nil
    exact AllReadyIn.nil
   refine AllReadyIn.cons rfl (fun K hK=>?_) ?_
   ·rw[if_pos (by rfl)];refine aK rfl rfl hv1 ?_;refine hK _ _ ?_;clear hK K
    refine wpAnyIn_ready (rs:=[0,1]) (by kernel_rfl) (by simp) ?_
    refine AllReadyIn.cons rfl (fun K hK=>?_) ?_
    ·rw[if_pos (by rfl)];refine aK rfl rfl hs1 ?_;refine hK _ _ ?_;clear hK K
     refine wpAnyIn_ready (rs:=[1]) (by kernel_rfl) (by simp) ?_
     refine AllReadyIn.cons rfl (fun K hK=>?_) ?_
     ·rw[if_pos (by rfl)];refine aK rfl rfl hld ?_;refine hK _ _ ?_;clear hK K
      refine wpAnyIn_ready (rs:=[3]) (by kernel_rfl) (by simp) ?_
      refine AllReadyIn.cons rfl (fun K hK=>?_) ?_
      ·rw[if_pos (by rfl)];refine cS (v0:=.agg (cj c (x / 4+(i:Int)))) (v1:=.pointer (some ⟨p,0,none⟩)) (v2:=.int .i64 1) rfl rfl rfl rfl HEN ?_
       refine(callsIn_wide.2 TN.o).mono ?_
       intro e W2 he
       rw[hm] at he
       obtain⟨rfl,hs2,cs2,fs2,hfin⟩:=FI2.o W2 e he
       have FIN:=hQQ hfin
       clear hfin he
       refine hK _ _ ?_;clear hK K
       refine wpAnyIn_ready (rs:=[4]) (by kernel_rfl) (by simp) ?_
       refine AllReadyIn.cons rfl (fun K hK=>?_) ?_
       ·go_simp;refine hK _ _ ?_;clear hK K
        refine wpAnyIn_ready (rs:=[5]) (by kernel_rfl) (by simp) ?_
        refine AllReadyIn.cons rfl (fun K hK=>?_) ?_
        ·go_simp;refine hK _ _ ?_;clear hK K
         refine wpAnyIn_done (by kernel_rfl) ?_ _
         exact FIN.o
        exact AllReadyIn.nil
       exact AllReadyIn.nil
      exact AllReadyIn.nil
     exact AllReadyIn.nil
    refine AllReadyIn.cons rfl (fun K hK=>?_) ?_
    ·rw[if_pos (by rfl)];refine aK rfl rfl hld ?_;refine hK _ _ ?_;clear hK K
     refine wpAnyIn_ready (rs:=[0,3]) (by kernel_rfl) (by simp) ?_
     refine AllReadyIn.cons rfl (fun K hK=>?_) ?_
     ·rw[if_pos (by rfl)];refine aK rfl rfl hs1 ?_;refine hK _ _ ?_;clear hK K
      refine wpAnyIn_ready (rs:=[3]) (by kernel_rfl) (by simp) ?_
      refine AllReadyIn.cons rfl (fun K hK=>?_) ?_
      ·rw[if_pos (by rfl)];refine cS (v0:=.agg (cj c (x / 4+(i:Int)))) (v1:=.pointer (some ⟨p,0,none⟩)) (v2:=.int .i64 1) rfl rfl rfl rfl HEN ?_
       refine(callsIn_wide.2 TN.o).mono ?_
       intro e W2 he
       rw[hm] at he
       obtain⟨rfl,hs2,cs2,fs2,hfin⟩:=FI2.o W2 e he
       have FIN:=hQQ hfin
       clear hfin he
       refine hK _ _ ?_;clear hK K
       refine wpAnyIn_ready (rs:=[4]) (by kernel_rfl) (by simp) ?_
       refine AllReadyIn.cons rfl (fun K hK=>?_) ?_
       ·go_simp;refine hK _ _ ?_;clear hK K
        refine wpAnyIn_ready (rs:=[5]) (by kernel_rfl) (by simp) ?_
        refine AllReadyIn.cons rfl (fun K hK=>?_) ?_
        ·go_simp;refine hK _ _ ?_;clear hK K
         refine wpAnyIn_done (by kernel_rfl) ?_ _
         exact FIN.o
        exact AllReadyIn.nil
       exact AllReadyIn.nil
      exact AllReadyIn.nil
     refine AllReadyIn.cons rfl (fun K hK=>?_) ?_
     ·rw[if_pos (by rfl)];refine cS (v0:=.agg (cj c (x / 4+(i:Int)))) (v1:=.pointer (some ⟨p,0,none⟩)) (v2:=.int .i64 1) rfl rfl rfl rfl HEN ?_
      refine(callsIn_wide.2 TN.o).mono ?_
      intro e W2 he
      rw[hm] at he
      obtain⟨rfl,hs2,cs2,fs2,hfin⟩:=FI2.o W2 e he
      have FIN:=hQQ hfin
      clear hfin he
      refine hK _ _ ?_;clear hK K
      refine wpAnyIn_ready (rs:=[0]) (by kernel_rfl) (by simp) ?_
      refine AllReadyIn.cons rfl (fun K hK=>?_) ?_
      ·rw[if_pos (by rfl)];refine aK rfl rfl hs2 ?_;refine hK _ _ ?_;clear hK K
       refine wpAnyIn_ready (rs:=[4]) (by kernel_rfl) (by simp) ?_
       refine AllReadyIn.cons rfl (fun K hK=>?_) ?_
       ·go_simp;refine hK _ _ ?_;clear hK K
        refine wpAnyIn_ready (rs:=[5]) (by kernel_rfl) (by simp) ?_
        refine AllReadyIn.cons rfl (fun K hK=>?_) ?_
        ·go_simp;refine hK _ _ ?_;clear hK K
         refine wpAnyIn_done (by kernel_rfl) ?_ _
         exact FIN.o
        exact AllReadyIn.nil
       exact AllReadyIn.nil
      exact AllReadyIn.nil
     exact AllReadyIn.nil
    exact AllReadyIn.nil
   exact AllReadyIn.nil
 case done =>
  rintro W ⟨F',D',v,h1,h2,⟨s,rfl,s0,s1,h4,h5⟩⟩ hdf
  have hR:Rr=.ok s D':=by
   cases q:ci c.pg x y with
   |true=>have:=h4 q;rw[Nat.sub_self] at this;exact this.symm
   |false=>obtain⟨rfl,rfl⟩:=h5 q;exact HR0.o.2 q
  have cs:W.cell? ⟨w.heap.size+1+1,0,none⟩=some (.int .i64 s):=(aC (b:=w.heap.size+1+1) h2).1
  have FIN:=hQQ (Kw (S:=fun k=>k=w6.heap.size) (val:=fun s:Int=>Value.int .i64 s) m06 hNT h1 hR (fF (Turned.refl _ W) _ (.deferred none) (fun _=>rfl)) (fun k q=>⟨by omega,fun r=>by rcases h1.from' k r with s|s;have:=hF _ s;omega;omega⟩)
   (fun k es cl q r=>by subst q;rw[hdf] at r;cases r))
  clear h1 h2 h4 h5 hR
  rw[s6] at hdf FIN
  refine rO ?_
  gi_wp2
  refine⟨by simp,.inl ⟨_,_,rfl,run_takeDeferred hdf,?_⟩⟩
  refine⟨.int .i64 s,?_,FIN.o⟩
  exact(results_tmp (t:=8) rfl _ _ _).trans rfl
 case stop =>
  rintro i e cc W hj hi hx hdf
  cases e with
  |ret=>obtain⟨F',D',v,h1,h2,hR⟩:=hx;exact hR.elim
  |exit _=>exact hx.elim
  |goto _=>exact hx.elim
  |normal=>cases hj
  |panic _=>cases hj
  |outgrown=>cases hj
 case dies =>
  rintro i ch W hi ⟨rfl,a,hR,hend⟩ hdf
  exact⟨by simp,.inl ⟨_,_,rfl,run_takeDeferred hdf,H7 m06 hNT (hend.put hdf rfl (Nat.le_refl _) _) hR⟩⟩
attribute [local go_sem] Oper.semAt_some
end Go.Proofs.YtddmeghbmdfgeaaGreatDoor
