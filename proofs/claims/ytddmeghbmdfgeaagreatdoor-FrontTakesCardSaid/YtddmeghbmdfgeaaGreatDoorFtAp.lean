/-
  The landed package front: Take.
-/
import Derived.Test.YtddmeghbmdfgeaaGreatDoorFtAo
import Derived.Test.YtddmeghbmdfgeaaGreatDoorFtAn
import Derived.Test.YtddmeghbmdfgeaaGreatDoorFtAd
import Derived.Test.YtddmeghbmdfgeaaGreatDoorFtAm
import Derived.Deep.MidRow
set_option maxRecDepth 100000
set_option maxHeartbeats 8000000
set_option linter.all false
namespace Go.Proofs.YtddmeghbmdfgeaaGreatDoor
open Go.RowKit Go.Sort Go.Maps Go.Shelf
theorem pY {P:Program}{fn:Func}{p u u':Tmp}{ty:TypeId}(h:fn.results= #[.tmp u,.cell p ty,.tmp u'])(tmps:Array Value)(w:World)(g:Nat)(t:TypeId)(cs:Array Value)(fr:Nat×Nat)(d:TypeDesc)
 (hp:tmps.getD p undef=.pointer (some ⟨g,0,none⟩)) (hg:w.heap[g]?=some (.cells cs t fr))
 (hu:P.underlying ty=some d) (hd:(match d with| .struct _| .array _ _=>true|_=>false)=true) (hi:(P.info? ty).map (·.size)=some cs.size):
 (results fn tmps).run P w=.ok (.tuple #[tmps.getD u undef,.agg cs,tmps.getD u' undef]) w:=by
 have hp':tmps[p]?.getD undef=.pointer (some ⟨g,0,none⟩):=by simpa using hp
 have hl:=run_loadVar_row w g t ty cs fr d hg hu hd hi
 simp[results,h,hp',asAddr,hl]
theorem jT {w:World}{g r:Nat}{cs new:Array Value}{T:TypeId}{fr:Nat×Nat}(h:w.heap[g]?=some (.cells cs T fr))(ne:g≠r):(w.setRow r new).heap[g]?=some (.cells cs T fr):=
 ((Turned.setRow (S:=fun k=>k=r) (Turned.refl _ w) r new (fun _=>rfl)).block g (ac h) ne).trans h
theorem lV {C:World→Prop}{ops:Array Oper}{o:Oper}{a:Act}(hw:Region.wanted o (yielded ops a.tmps)=true)(x:Operand)(ho:o.op=.load 3 x)(g o':Nat)(hx:a.eval x=.pointer (some ⟨g,o',none⟩))(z:Int)(hg:∀w,C w→w.cell? ⟨g,o',none⟩=some (.int .i64 z)):bM Tryz.prog ops C o (.int .i64 z) a :=
 .inl ⟨hw,fun w hC=>by
  have hl:(loadVar 3 ⟨g,o',none⟩).run Tryz.prog w=.ok (.int .i64 z) w:=eN Tryz.underlying3 rfl (hg w hC)
  unfold execOp
  simp only[ho,hx,Instr.loadAt,Instr.sureAddr,Sem.run_bind,Sem.run_pure,Result.andThen_ok,hl]⟩
theorem Jb {w wx:World}{F N F':Nat→Prop}{p:Nat}{kn:Int→Option Int}{D':List KV}{f:Nat→Value}{P':Nat→List Int}{x:Int}{b:Bool}{Rr:Res ((Int×Bool)×(Nat→List Int))}{cs:Array Value}(hv:aF wx F' p kn D')(ht:Turned F w wx)(hf:∀k,F' k→F k∨w.heap.size≤k)(hp:cS (fun q=>N q∨F' q) wx f P')
 (hb:wx.heap[w.heap.size+2]?=some (.cells cs 32 (0,0))) (nF:¬F' (w.heap.size+2)) (e:Rr=.ok ((x,b),P') D'):
 (wx.setRow (w.heap.size+2) (puA f)).heap[w.heap.size+2]?=some (.cells (puA f) 32 (0,0)) ∧
 iV w F N p kn (fun(x:Int×Bool) v=> .tuple #[.int .i64 x.1,v,.bool x.2]) Rr (.returned (.tuple #[.int .i64 x,.agg (puA f),.bool b])) (wx.setRow (w.heap.size+2) (puA f)):=by
 subst e
 have t1:Turned (fun k=>k=w.heap.size+2) wx (wx.setRow (w.heap.size+2) (puA f)):=Turned.setRow (Turned.refl _ _) _ _ (fun _=>rfl)
 refine⟨setRow_heap _ _ _ _ _ _ hb,f,F',rfl,?_,ak ht t1 (fun k q=> .inr (by omega)),hf,hp.keep t1 (fun k q=>by subst q;exact⟨_,_,_,hb,by decide⟩)⟩
 exact hv.keepS t1 (fun k q e=>nF (e▸q)) (fun k es cl e q=>by subst e;rw[hb] at q;cases q)
def Ld (L:List Int)(i:Nat):Int:=L.tail.getD i 0
theorem xR (k lim:Int)(P:Nat→List Int){L:List Int}{i:Nat}(h:i<L.length):bE k lim P (L.take (i+1))=ed (bE k lim P (L.take i)) k (L.getD i 0) lim:=by
 rw[List.take_succ_eq_append_getElem h,hU,List.getD_eq_getElem?_getD,List.getElem?_eq_getElem h];rfl
theorem Np {d:Cfg}(R:d.Ok){n:Nat}(H:cF d.pg d.st n)(hw:(n:Int)=d.words)(hn:n≤10000){bt:Nat}(F N:Nat→Prop)(p:Nat)(kn:Int→Option Int)(D:List KV)(w:World)(u k:Int)(f:Nat→Value)(P:Nat→List Int)
 (hv:aF w F p kn D) (hk:OkK kn) (hD:cI n D) (hs:dh bt w) (nF0:¬F 0) (nFb:¬F bt) (hN:∀k,N k→k<w.heap.size) (pu:cS (fun q=>N q∨F q) w f P) (hP:dr d P):
 Calls Tryz.prog 30 #[.pointer (some ⟨p,0,none⟩),.agg d.arr,.int .i64 u,.agg (puA f),.int .i64 k] w (iV w F N p kn (fun x v=> .tuple #[.int .i64 x.1,v,.bool x.2]) (tkP d u P k kn D)):=by
 obtain⟨Rr,hRr⟩:∃Rr,tkP d u P k kn D=Rr:=⟨_,rfl⟩
 rw[hRr]
 obtain⟨w3,e3,b0,b1,b2,m3,s3⟩:=jD w (.cells d.arr 28) (.cells (puA f) 32) (.cells #[.slice none 0 0,.slice none 0 0,.slice none 0 0,.slice none 0 0,.slice none 0 0] 32)
 have L0:=hQQ b0
 have BP:=hQQ b1
 have BZ:=hQQ b2
 have HM:=hQQ m3
 have HR:=hQQ R
 have HH:=hQQ H
 have HK:=hQQ hk
 have HS3:=hQQ s3
 have PU:=hQQ (pu.more m3)
 have HLN:=hQQ (hP.len R)
 have AL:=hQQ (Pu.all1 pu.1)
 have HV:=hQQ hv
 have FL:=hQQ hv.lt
 have NN:Hq (∀q,N q∨F q→q<w.heap.size):=hQQ fun q z=>z.elim (hN q) (hv.lt q)
 clear b0 b1 b2 m3 s3 R H hk hv
 have KFIN:Hq (∀(x:Int) (b:Bool) (f':Nat→Value) (P':Nat→List Int) wx,ae w3 wx→cS (fun q=>N q∨F q) wx f' P'→Rr=.ok ((x,b),P') D→(wx.setRow (w.heap.size+2) (puA f')).heap[w.heap.size+2]?=some (.cells (puA f') 32 (0,0))∧iV w F N p kn (fun(x:Int×Bool) v=> .tuple #[.int .i64 x.1,v,.bool x.2]) Rr (.returned (.tuple #[.int .i64 x,.agg (puA f'),.bool b])) (wx.setRow (w.heap.size+2) (puA f'))):=hQQ fun x b f' P' wx mx hp e =>
  Jb (HV.o.more (HM.o.trans mx)) (Turned.mono (HM.o.trans mx) (fun _ _ q=>q.elim)) (fun k q=> .inl q) hp (mx.block BZ.o) (fun q=>by have:=FL.o _ q;omega) e
 by_cases q:caV d u k=0
 ·have q0:(caV d u k != 0)=false:=by simp[q]
  unfold tkP at hRr
  rw[if_pos q] at hRr
  clear q
  have HE:Hq (Rr=.ok ((0,false),P) D):=hQQ hRr.symm
  clear hRr
  go_enter Tryz.func30,Tryz.ntmps30
  go_wp2_with (refine aM rfl rfl rfl L0.o (by kernel_rfl) ?_)
  refine(sf HR.o u k w3).mono ?_
  rintro e w4 ⟨rfl,h4⟩
  rw[q0]
  have M4:=hQQ h4
  have B4:=hQQ (h4.block BP.o)
  have Z4:=hQQ (h4.block BZ.o)
  clear h4
  go_wp2_with fail
  refine aO (fun W=>W.heap[(w.heap.size+1)]?=some (.cells (puA f) 32 (0,0))∧True) (by kernel_rfl) ?_
  change dg _ _ _ _ _ _ _ _ (w4.drewN 1)
  have MR:Hq (ae w4 (w4.drewN 1)):=hQQ ((ae.refl w4).drewN 1)
  generalize w4.drewN 1=wq at MR⊢
  have HC:Hq (wq.heap[(w.heap.size+1)]?=some (.cells (puA f) 32 (0,0))∧True):=hQQ ⟨MR.o.block B4.o,trivial⟩
  have BZq:=hQQ (MR.o.block Z4.o)
  generalize hA:Act.mk _ _=A
  have HF:AG 66 A [(8,.pointer (some ⟨(w.heap.size+1),0,none⟩)),(11,.pointer (some ⟨w.heap.size+2,0,none⟩))]:=by
   rw[←hA];try simp only[pts,List.foldl]
   refine⟨⟨Nat.le_of_ble_eq_true rfl,rfl⟩,?_⟩
   intro z hz;simp only[List.mem_cons,List.not_mem_nil,or_false] at hz;rcases hz with rfl|rfl<;>rfl
  refine bL (fun a W=>∃(u24:Value),a=(pts A [(24,u24),(10,.int .i64 0),(12,.bool false)])∧W=wq.setRow (w.heap.size+2) (puA f)) (fun _=>False) [] (fun a W hd h=>h.elim) (fun _ _ _ _ _ h=>h) ?_ ?_
  ·skip
   rintro a9 wb ⟨u24,rfl,rfl⟩
   rw[←hA];try simp only[pts,List.foldl]
   have FB:=hQQ ((fun wq (mq:ae w4 wq)=>KFIN.o 0 false f P wq (M4.o.trans mq) (PU.o.more (M4.o.trans mq)) HE.o) wq MR.o)
   clear HF hA
   go_simp
   go_wp2_with fail
   refine bodyPost_ret (v:=.tuple #[.int .i64 0,.agg (puA f),.bool false]) (pY Tryz.results30 _ _ _ 32 _ (0,0) _ rfl FB.o.1 Tryz.underlying32 rfl (by kernel_rfl)) rfl FB.o.2
  intro QQ FINE FIND FINQ
  clear hA
  refine tqC 0 24 (.agg (puA f)) (by kernel_rfl) FINQ HC.o HF (by exact aD (ab rfl) 32 _ rfl (w.heap.size+1) (HF.get 0 rfl) 32 _ _ _ (fun W hW=>hW.1) Tryz.underlying32 rfl (by kernel_rfl)) fun A β1 HF=>?_
  refine tqC 1 10 ((.int .i64 0)) (by kernel_rfl) FINQ HC.o HF (by exact cR (ab rfl) _ rfl rfl) fun A β2 HF=>?_
  refine bo (i:=2) none (by kernel_rfl) rfl (ab rfl) rfl (fun K hK=>?_)
  refine wp_store_row 32 _ _ rfl (w.heap.size+2) _ (HF.get 3 rfl) (HF.get 1 rfl) 32 _ BZq.o (by kernel_rfl) rfl AL.o ?_
  have HC2:Hq ((fun W=>W.heap[(w.heap.size+1)]?=some (.cells (puA f) 32 (0,0))∧True) (wq.setRow (w.heap.size+2) (puA f))):=hQQ ⟨jT HC.o.1 (by omega),trivial⟩
  refine hK _ _ HC2.o ?_
  clear hK K
  change dg _ _ _ _ _ _ _ A _
  refine tqC 3 12 ((.bool false)) (by kernel_rfl) FINQ HC2.o HF (by exact cR (ab rfl) _ rfl rfl) fun A β3 HF=>?_
  exact bU (by kernel_rfl) (FINE _ _ ⟨(.agg (puA f)),by rw[← β3,← β2,← β1]<;>rfl,rfl⟩)
 ·have HQ:=hQQ ((ke HR.o u k).1 q)
  have q0:(caV d u k != 0)=true:=by simp[q]
  obtain⟨j,rfl⟩:∃j:Nat,k=j:=⟨k.toNat,by have:=HQ.o.1;omega⟩
  have hj:j<5:=by have:=HQ.o.2.1;omega
  unfold tkP at hRr
  rw[if_neg q] at hRr
  clear q
  go_enter Tryz.func30,Tryz.ntmps30
  go_wp2_with (refine aM rfl rfl rfl L0.o (by kernel_rfl) ?_)
  refine(sf HR.o u j w3).mono ?_
  rintro e w4 ⟨rfl,h4⟩
  rw[q0]
  have M4:=hQQ h4
  have B4:=hQQ (h4.block BP.o)
  clear h4
  go_wp2_with (refine kY rfl rfl rfl B4.o (by kernel_rfl) ?_)
  refine(IM (fun q=>¬(N q∨F q)) f P j w4 (PU.o.more M4.o).1 PU.o.2 HLN.o).mono ?_
  intro e wp he
  obtain⟨f5,rfl,h5,m5⟩:=eJ.at he (fun q z=>Nat.lt_of_lt_of_le (NN.o q z) (HM.o.trans M4.o).size)
  have P5:=hQQ h5
  have M5:=hQQ (M4.o.trans m5)
  obtain⟨w6,e6,b6,m6,s6⟩:=bg wp (.cells #[.slice none 0 0,.slice none 0 0,.slice none 0 0,.slice none 0 0,.slice none 0 0] 32)
  have AL5:=hQQ (Pu.all1 h5.1)
  have B6:=hQQ b6
  obtain⟨w7,e7⟩:∃w7,w6.setRow wp.heap.size (puA f5)=w7:=⟨_,rfl⟩
  have B7:Hq (w7.heap[wp.heap.size]?=some (.cells (puA f5) 32 (0,0))):=hQQ (by rw[←e7];exact setRow_heap _ _ _ _ _ _ b6)
  have n7:ae wp w7:=by rw[←e7];exact m6.setRow _ _ (by omega)
  have M7:=hQQ (M5.o.trans n7)
  have P7:=hQQ (P5.o.more n7)
  have Z7:=hQQ ((M5.o.trans n7).block BZ.o)
  have Q7:=hQQ ((M5.o.trans n7).block BP.o)
  have L7:=hQQ ((M5.o.trans n7).block L0.o)
  have s5:w.heap.size+3≤wp.heap.size:=by have:=(M5.o).size;have:=HS3.o;omega
  have S5:=hQQ s5
  clear he h5 m5 b6 n7 m6 s6 s5
  have BOOL:=Bool.eq_false_or_eq_true (gY P j)
  rcases BOOL with hb|hb
  ·rw[hb] at hRr
   rw[hb]
   have HE:Hq (Rr=.ok ((iv P j,true),ib P j) D):=hQQ hRr.symm
   clear hRr hb
   go_wp2_with (refine wpList_store_row rfl 32 _ _ rfl _ _ rfl rfl 32 _ B6.o (by kernel_rfl) rfl AL5.o ?_)
   clear e6 e7
   refine aO (fun W=>W.heap[wp.heap.size]?=some (.cells (puA f5) 32 (0,0))∧True) (by kernel_rfl) ?_
   change dg _ _ _ _ _ _ _ _ (w7.drewN 1)
   have MR:Hq (ae w7 (w7.drewN 1)):=hQQ ((ae.refl w7).drewN 1)
   generalize w7.drewN 1=wq at MR⊢
   have HC:Hq (wq.heap[wp.heap.size]?=some (.cells (puA f5) 32 (0,0))∧True):=hQQ ⟨MR.o.block B7.o,trivial⟩
   have BZq:=hQQ (MR.o.block Z7.o)
   generalize hA:Act.mk _ _=A
   have HF:AG 66 A [(11,.pointer (some ⟨w.heap.size+2,0,none⟩)),(13,.pointer (some ⟨wp.heap.size,0,none⟩)),(14,.int .i64 (iv P j))]:=by
    rw[←hA];try simp only[pts,List.foldl]
    refine⟨⟨Nat.le_of_ble_eq_true rfl,rfl⟩,?_⟩
    intro z hz;simp only[List.mem_cons,List.not_mem_nil,or_false] at hz;rcases hz with rfl|rfl|rfl<;>rfl
   refine bL (fun a W=>∃(u33 u34:Value),a=(pts A [(33,u33),(34,u34),(10,.int .i64 (iv P j)),(12,.bool true)])∧W=wq.setRow (w.heap.size+2) (puA f5)) (fun _=>False) [] (fun a W hd h=>h.elim) (fun _ _ _ _ _ h=>h) ?_ ?_
   ·skip
    rintro a9 wb ⟨u33,u34,rfl,rfl⟩
    rw[←hA];try simp only[pts,List.foldl]
    have FB:=hQQ ((fun wq (mq:ae w7 wq)=>KFIN.o (iv P j) true f5 (ib P j) wq (M7.o.trans mq) (P7.o.more mq) HE.o) wq MR.o)
    clear HF hA
    go_simp
    go_wp2_with fail
    refine bodyPost_ret (v:=.tuple #[.int .i64 (iv P j),.agg (puA f5),.bool true]) (pY Tryz.results30 _ _ _ 32 _ (0,0) _ rfl FB.o.1 Tryz.underlying32 rfl (by kernel_rfl)) rfl FB.o.2
   intro QQ FINE FIND FINQ
   clear hA
   refine tqM 0 33 2 rfl (.inl rfl) rfl (by kernel_rfl) FINQ HC.o HF fun A β1 HF=>?_
   refine tqC 1 34 (.agg (puA f5)) (by kernel_rfl) FINQ HC.o HF (by exact aD (ab rfl) 32 _ rfl wp.heap.size (HF.get 2 rfl) 32 _ _ _ (fun W hW=>hW.1) Tryz.underlying32 rfl (by kernel_rfl)) fun A β2 HF=>?_
   refine tqM 2 10 1 rfl (.inr rfl) rfl (by kernel_rfl) FINQ HC.o HF fun A β3 HF=>?_
   refine bo (i:=3) none (by kernel_rfl) rfl (ab rfl) rfl (fun K hK=>?_)
   refine wp_store_row 32 _ _ rfl (w.heap.size+2) _ (HF.get 3 rfl) (HF.get 1 rfl) 32 _ BZq.o (by kernel_rfl) rfl AL5.o ?_
   have HC2:Hq ((fun W=>W.heap[wp.heap.size]?=some (.cells (puA f5) 32 (0,0))∧True) (wq.setRow (w.heap.size+2) (puA f5))):=hQQ ⟨jT HC.o.1 (by have:=S5.o;omega),trivial⟩
   refine hK _ _ HC2.o ?_
   clear hK K
   change dg _ _ _ _ _ _ _ A _
   refine tqC 4 12 ((.bool true)) (by kernel_rfl) FINQ HC2.o HF (by exact cR (ab rfl) _ rfl rfl) fun A β4 HF=>?_
   exact bU (by kernel_rfl) (FINE _ _ ⟨(.int .i64 (iv P j)),(.agg (puA f5)),by rw[← β4,← β3,← β2,← β1]<;>rfl,rfl⟩)
  ·rw[hb] at hRr
   rw[hb]
   have HE:Hq (aq (xO d u j) (fun L=>az ((L.headD 0,decide (0<L.length)),bE (j:Int) d.pr P L.tail)) kn D=Rr):=hQQ hRr
   have HPN:=hQQ (Af HR.o HH.o hw hn hj (by rw[hb];simp))
   clear hRr hb
   have V7:Hq (aF w7 F p kn D):=hQQ (HV.o.more (HM.o.trans M7.o))
   have U7:=hQQ (PU.o.more M7.o)
   have SZ7:=hQQ (hs.more (HM.o.trans M7.o))
   have FE:=hQQ (Fy HR.o HH.o hw hn F p kn D w7 u j V7.o HK.o hD SZ7.o nF0 nFb HQ.o)
   have GD:=hQQ (Ae HR.o HH.o hw hn HQ.o)
   go_wp2_with (first
    |(refine wpList_store_row rfl 32 _ _ rfl _ _ rfl rfl 32 _ B6.o (by kernel_rfl) rfl AL5.o ?_)
    |(refine aM rfl rfl rfl L7.o (by kernel_rfl) ?_))
   clear e6 e7
   refine FE.o.mono ?_
   intro e w5 he
   have hE0:∃R1,xO d u j kn D=R1:=⟨_,rfl⟩
   rcases hE:xO d u j kn D with a'|⟨L5,D5⟩
   ·rw[hE] at he
    obtain⟨rfl,hd,ht⟩:=he
    have hRn:Rr=.need a':=HE.o.symm.trans (ag hE)
    subst hRn
    exact⟨rfl,rfl,hd,ak (Turned.mono (HM.o.trans M7.o) (fun k _ q=>(q.elim:F k))) ht (fun k q=> .inl q)⟩
   ·rw[hE] at he
    obtain⟨v5,F5,rfl,hp5,hv5,ht5,hf5⟩:=he
    have hg5:=GD.o.ok HK.o hD hE
    have HE5:Hq (Rr=.ok ((L5.headD 0,decide (0<L5.length)),bE (j:Int) d.pr P L5.tail) D5):=hQQ (HE.o.symm.trans (aj hE))
    clear hE0 hE HE FE GD HV
    have TT:Hq (Turned F w w5):=hQQ (ak (Turned.mono (HM.o.trans M7.o) (fun k _ q=>(q.elim:F k))) ht5 (fun k q=> .inl q))
    have NF5:∀b,b<w7.heap.size→¬F b→¬F5 b:=fun b hb nb q=>by rcases hf5 b q with r|r;exact nb r;omega
    have z7:w.heap.size+3≤w7.heap.size:=by have:=(HM.o.trans M7.o).size;have:=ac Z7.o;omega
    have nF:∀b,w.heap.size≤b→¬F b:=fun b hb q=>by have:=FL.o b q;omega
    have Q8:=hQQ ((ht5.block _ (ac Q7.o) (nF _ (by omega))).trans Q7.o)
    have Z8:=hQQ ((ht5.block _ (ac Z7.o) (nF _ (by omega))).trans Z7.o)
    have L8:=hQQ ((ht5.block _ (ac L7.o) (nF _ (by omega))).trans L7.o)
    have N8:Hq (¬F5 (w.heap.size+1)∧¬F5 (w.heap.size+2)):=hQQ ⟨NF5 _ (by omega) (nF _ (by omega)),NF5 _ (by omega) (nF _ (by omega))⟩
    have U8:Hq (cS (fun q=>N q∨F5 q) w5 f P):=hQQ (U7.o.stay (F:=fun q=>N q∨F q) (F1:=fun q=>N q∨F5 q) (fun b o nb hb=>(ht5.block b (ac hb) (fun q=>nb (.inr q))).trans hb) (fun b q=>by
     rcases q with q|q
     ·exact .inl (.inl q)
     ·rcases hf5 b q with r|r
      ·exact .inl (.inr r)
      ·exact .inr r))
    have KF5:Hq (∀(x:Int) (b:Bool) (f':Nat→Value) (P':Nat→List Int) wx,Turned (fun k=>k=w.heap.size+1) w5 wx→cS (fun q=>N q∨F5 q) wx f' P'→Rr=.ok ((x,b),P') D5→(wx.setRow (w.heap.size+2) (puA f')).heap[w.heap.size+2]?=some (.cells (puA f') 32 (0,0))∧iV w F N p kn (fun(x:Int×Bool) v=> .tuple #[.int .i64 x.1,v,.bool x.2]) Rr (.returned (.tuple #[.int .i64 x,.agg (puA f'),.bool b])) (wx.setRow (w.heap.size+2) (puA f'))):=hQQ fun x b f' P' wx tx hp e =>
     Jb (hv5.keepS tx (fun k q e=>N8.o.1 (e▸q)) (fun k es cl e q=>by subst e;rw[Q8.o] at q;cases q)) (ak TT.o tx (fun k q=> .inr (by omega))) (fun k q=>(hf5 k q).imp id (fun r=>by omega)) hp ((tx.block _ (ac Z8.o) (by omega)).trans Z8.o) N8.o.2 e
    have F8:Hq (∀q,N q∨F5 q→q<w5.heap.size):=hQQ fun q z=>z.elim (fun y=>Nat.lt_of_lt_of_le (hN q y) TT.o.size) (hv5.lt q)
    obtain⟨a5,c5,hv5s,hrd⟩:=hp5.1.reads
    subst hv5s
    have LEN:=hQQ hg5.2
    obtain⟨hW5,hLm⟩:=LEN.o
    rw[sg HR.o HH.o hw hn] at hLm
    have HLIM:Hq (∀i,dr d (bE (j:Int) d.pr P (L5.tail.take i))):=hQQ fun i=>by
     refine lQ HR.o HH.o hw hn hj _ P hP (fun a ha=>hW5 a (List.mem_of_mem_tail (List.mem_of_mem_take ha))) ?_
     have h1:=HR.o.ba1;have h2:=HR.o.pr1
     rw[HPN.o,List.length_take,List.length_tail]
     unfold frM at hLm
     simp
     split at hLm<;>omega
    have hL6:L5.length≤1000000:=by
     have h1:=HR.o.pr2
     unfold frM at hLm
     split at hLm<;>omega
    clear hW5 hLm LEN hg5 ht5 hf5 NF5 nF U7 Q7 Z7 L7 V7 SZ7 hv5 TT
    by_cases hl:0<L5.length
    ·obtain⟨g5,rfl,hb5,_,hcell⟩:=hrd 0 hl
     obtain⟨cur5,fr5,hg5⟩:∃cur5 fr5,w5.heap[g5]?=some (.cells cur5 3 fr5):=by
      rcases hp5.1.2 with⟨q,_⟩|⟨g,cap,cur,q,_,hg,_⟩
      ·cases q
      ·cases q;exact⟨_,_,hg⟩
     have hcap:L5.length≤c5:=by
      rcases hp5.1.2 with⟨q,_⟩|⟨g,cap,cur,q,_,hg,hh⟩
      ·cases q
      ·cases q;exact hh.1
     have HCELL:=hQQ hcell
     have HG5:=hQQ hg5
     have hgb:g5≠w.heap.size+1:=by omega
     have hgz:g5≠w.heap.size+2:=by omega
     have dn:((L5.length:Int)==0)=false:=by simp;intro q;rw[q] at hl;simp at hl
     have tl:L5.tail.length=L5.length-1:=by rw[List.length_tail]
     have HL0:=hQQ hl
     have H05:Hq (∀W:World,W.heap[g5]?=some (.cells cur5 3 fr5)→W.cell? ⟨g5,0,none⟩=some (.int .i64 (L5.headD 0))):=hQQ fun W h=>by
      rw[World.cell?_of_block (w:=w5) (h.trans HG5.o.symm),HCELL.o 0 hl]
      cases L5<;>simp
     have HT5:Hq (∀(i:Nat) (W:World),i<L5.tail.length→W.heap[g5]?=some (.cells cur5 3 fr5)→W.cell? ⟨g5,1+i,none⟩=some (.int .i64 (Ld L5 i))):=hQQ fun i W hi h=>by
      unfold Ld
      rw[World.cell?_of_block (w:=w5) (h.trans HG5.o.symm),HCELL.o (1+i) (by omega)]
      congr 2
      cases L5 with
      |nil=>simp at hl
      |cons x t=>rw[show 1+i=i+1 by omega];simp
     have HE6:Hq (Rr=.ok ((L5.headD 0,true),bE (j:Int) d.pr P L5.tail) D5):=hQQ (by
      have:=HE5.o
      rwa [decide_eq_true hl] at this)
     obtain⟨HD,hHD⟩:∃x,L5.headD 0=x:=⟨_,rfl⟩
     rw[hHD] at H05 HE6
     have ALf:=AL
     clear hHD hrd hcell hg5 hp5 AL
     by_cases hc1:c5=1
     ·have hl1:L5.tail.length=0:=by omega
      go_wp2_with fail
      go_loopw [47] (fun ix wr=>∃(i:Nat) (fi:Nat→Value),i≤L5.tail.length∧ix=.int .i64 (i:Int)∧Turned (fun b=>b=w.heap.size+1) w5 wr∧wr.heap[w.heap.size+1]?=some (.cells (puA fi) 32 (0,0))∧cS (fun q=>N q∨F5 q) wr fi (bE (j:Int) d.pr P (L5.tail.take i))) (fun ix _=>L5.tail.length-(intOf ix).toNat)
      case atStart=>exact⟨0,f,Nat.zero_le _,rfl,Turned.refl _ _,Q8.o,U8.o⟩
      case round =>
       obtain⟨i,fi,hi,rfl,ht,hb,hp⟩:=hrel
       have TW:=hQQ ht
       have BP:=hQQ hb
       have PU:=hQQ hp
       have BG:=hQQ ((ht.block g5 (ac HG5.o) hgb).trans HG5.o)
       have BL:=hQQ ((ht.block _ (ac L8.o) (by omega)).trans L8.o)
       have BZ9:=hQQ ((ht.block _ (ac Z8.o) (by omega)).trans Z8.o)
       have FL:=hQQ (fun q z=>Nat.lt_of_lt_of_le (F8.o q z) ht.size)
       have AL:=hQQ (Pu.all1 hp.1)
       clear ht hb hp
       have hie:i=L5.tail.length:=by omega
       subst hie
       have PUF:=hQQ (show cS (fun q=>N q∨F5 q) wr fi (bE (j:Int) d.pr P L5.tail) by have:=PU.o;rwa [List.take_length] at this)
       have d1:decide (((L5.tail.length:Nat):Int)<(L5.length:Int)-1)=false:=by simp;omega
       go_wp2_with fail
       refine aO (fun W=>W.heap[(w.heap.size+1)]?=some (.cells (puA fi) 32 (0,0))∧W.heap[g5]?=some (.cells cur5 3 fr5)) (by kernel_rfl) ?_
       change dg _ _ _ _ _ _ _ _ (wr.drewN 1)
       have MR:Hq (ae wr (wr.drewN 1)):=hQQ ((ae.refl wr).drewN 1)
       generalize wr.drewN 1=wq at MR⊢
       have HC:Hq (wq.heap[(w.heap.size+1)]?=some (.cells (puA fi) 32 (0,0))∧wq.heap[g5]?=some (.cells cur5 3 fr5)):=hQQ ⟨MR.o.block BP.o,MR.o.block BG.o⟩
       have BZq:=hQQ (MR.o.block BZ9.o)
       generalize hA:Act.mk _ _=A
       have HF:AG 66 A [(8,.pointer (some ⟨(w.heap.size+1),0,none⟩)),(11,.pointer (some ⟨w.heap.size+2,0,none⟩)),(16,.slice (some ⟨g5,0,none⟩) L5.length 1)]:=by
        rw[←hA];try simp only[pts,List.foldl]
        refine⟨⟨Nat.le_of_ble_eq_true rfl,rfl⟩,?_⟩
        intro z hz;simp only[List.mem_cons,List.not_mem_nil,or_false] at hz;rcases hz with rfl|rfl|rfl<;>rfl
       refine bL (fun a W=>∃(u62 u63 u64 u65:Value),a=(pts A [(62,u62),(63,u63),(64,u64),(65,u65),(10,.int .i64 HD),(12,.bool true)])∧W=wq.setRow (w.heap.size+2) (puA fi)) (fun _=>False) [] (fun a W hd h=>h.elim) (fun _ _ _ _ _ h=>h) ?_ ?_
       ·skip
        rintro a9 wb ⟨u62,u63,u64,u65,rfl,rfl⟩
        rw[←hA];try simp only[pts,List.foldl]
        have FB:=hQQ ((fun wq (mq:ae wr wq)=>KF5.o HD true fi _ wq (Turned.trans TW.o (Turned.mono mq (fun _ _ q=>q.elim))) (PUF.o.more mq) HE6.o) wq MR.o)
        clear HF hA
        go_simp
        go_wp2_with fail
        refine bodyPost_ret (v:=.tuple #[.int .i64 HD,.agg (puA fi),.bool true]) (pY Tryz.results30 _ _ _ 32 _ (0,0) _ rfl FB.o.1 Tryz.underlying32 rfl (by kernel_rfl)) rfl FB.o.2
       intro QQ FINE FIND FINQ
       clear hA
       refine tqM 0 62 2 rfl (.inl rfl) rfl (by kernel_rfl) FINQ HC.o HF fun A β1 HF=>?_
       refine tqC 1 63 (.pointer (some ⟨g5,0,none⟩)) (by kernel_rfl) FINQ HC.o HF (by exact mE (j:=0) (ab rfl) rfl (HF.get 0 rfl) rfl HL0.o) fun A β2 HF=>?_
       refine tqC 2 64 (.int .i64 HD) (by kernel_rfl) FINQ HC.o HF (by exact lV (ab rfl) _ rfl _ _ (HF.get 0 rfl) _ (fun W hW=>H05.o W hW.2)) fun A β3 HF=>?_
       refine tqC 3 65 (.agg (puA fi)) (by kernel_rfl) FINQ HC.o HF (by exact aD (ab rfl) 32 _ rfl (w.heap.size+1) (HF.get 3 rfl) 32 _ _ _ (fun W hW=>hW.1) Tryz.underlying32 rfl (by kernel_rfl)) fun A β4 HF=>?_
       refine tqM 4 10 1 rfl (.inr rfl) rfl (by kernel_rfl) FINQ HC.o HF fun A β5 HF=>?_
       refine bo (i:=5) none (by kernel_rfl) rfl (ab rfl) rfl (fun K hK=>?_)
       refine wp_store_row 32 _ _ rfl (w.heap.size+2) _ (HF.get 6 rfl) (HF.get 1 rfl) 32 _ BZq.o (by kernel_rfl) rfl AL.o ?_
       have HC2:Hq ((fun W=>W.heap[(w.heap.size+1)]?=some (.cells (puA fi) 32 (0,0))∧W.heap[g5]?=some (.cells cur5 3 fr5)) (wq.setRow (w.heap.size+2) (puA fi))):=hQQ ⟨jT HC.o.1 (by omega),jT HC.o.2 hgz⟩
       refine hK _ _ HC2.o ?_
       clear hK K
       change dg _ _ _ _ _ _ _ A _
       refine tqC 6 12 ((.bool true)) (by kernel_rfl) FINQ HC2.o HF (by exact cR (ab rfl) _ rfl rfl) fun A β6 HF=>?_
       exact bU (by kernel_rfl) (FINE _ _ ⟨(.slice (some ⟨g5,0,none⟩) L5.length 1),(.pointer (some ⟨g5,0,none⟩)),(.int .i64 HD),(.agg (puA fi)),by rw[← β6,← β5,← β4,← β3,← β2,← β1]<;>rfl,rfl⟩)
     ·go_wp2_with fail
      go_loopw [47] (fun ix wr=>∃(i:Nat) (fi:Nat→Value),i≤L5.tail.length∧ix=.int .i64 (i:Int)∧Turned (fun b=>b=w.heap.size+1) w5 wr∧wr.heap[w.heap.size+1]?=some (.cells (puA fi) 32 (0,0))∧cS (fun q=>N q∨F5 q) wr fi (bE (j:Int) d.pr P (L5.tail.take i))) (fun ix _=>L5.tail.length-(intOf ix).toNat)
      case atStart=>exact⟨0,f,Nat.zero_le _,rfl,Turned.refl _ _,Q8.o,U8.o⟩
      case round =>
       obtain⟨i,fi,hi,rfl,ht,hb,hp⟩:=hrel
       have TW:=hQQ ht
       have BP:=hQQ hb
       have PU:=hQQ hp
       have BG:=hQQ ((ht.block g5 (ac HG5.o) hgb).trans HG5.o)
       have BL:=hQQ ((ht.block _ (ac L8.o) (by omega)).trans L8.o)
       have BZ9:=hQQ ((ht.block _ (ac Z8.o) (by omega)).trans Z8.o)
       have FL:=hQQ (fun q z=>Nat.lt_of_lt_of_le (F8.o q z) ht.size)
       have AL:=hQQ (Pu.all1 hp.1)
       clear ht hb hp
       by_cases hlt:i<L5.tail.length
       ·have HPS:Hq (bE (j:Int) d.pr P (L5.tail.take (i+1))=ed (bE (j:Int) d.pr P (L5.tail.take i)) j (Ld L5 i) d.pr):=hQQ (xR (j:Int) d.pr P hlt)
        have HLN:=hQQ ((HLIM.o i).len HR.o)
        have cl:=HT5.o i wr hlt BG.o
        have q3:IntKind.i64.wrap ((i:Int)+1)=(i:Int)+1:=aB (by omega) (by omega)
        go_wp2_with fail
        generalize Ld L5 i=XI at cl HPS⊢
        clear cl
        refine jS (ae wr) 10 (by kernel_rfl) ?_
        change lR _ _ _ _ _ _ _ _ _ (wr.drewN 1)
        have MR:Hq (ae wr (wr.drewN 1)):=hQQ ((ae.refl wr).drewN 1)
        generalize wr.drewN 1=wq at MR⊢
        generalize hA:Act.mk _ _=A
        have HF:AG 66 A [(4,.int .i64 (j:Int)),(6,.pointer (some ⟨w.heap.size,0,none⟩)),(8,.pointer (some ⟨w.heap.size+1,0,none⟩)),(18,.int .i64 XI)]:=by
         rw[←hA];try simp only[pts,List.foldl]
         refine⟨⟨Nat.le_of_ble_eq_true rfl,rfl⟩,?_⟩
         intro z hz;simp only[List.mem_cons,List.not_mem_nil,or_false] at hz;rcases hz with rfl|rfl|rfl|rfl<;>rfl
        refine pd (fun aa W=>∃(u52 u53 u54 u55 u56 u57 u58 u51 u59 u60:Value),aa=(Act.put (pts A [(52,u52),(53,u53),(54,u54),(55,u55),(56,u56),(57,u57),(58,u58),(51,u51),(59,u59),(60,u60)]) none undef)∧∃wx f9,ae wr wx∧cS (fun q=>N q∨F5 q) wx f9 (ed (bE (j:Int) d.pr P (L5.tail.take i)) j XI d.pr)∧W=wx.setRow (w.heap.size+1) (puA f9)) (fun _=>False) [] (fun a W hd h=>h.elim) (fun _ _ _ _ _ h=>h) ?_ ?_
        ·skip
         rintro a9 wb ⟨u52,u53,u54,u55,u56,u57,u58,u51,u59,u60,rfl,wx,fz,mx,px,rfl⟩
         rw[←hA];try simp only[pts,List.foldl]
         have B9:Hq ((wx.setRow (w.heap.size+1) (puA fz)).heap[w.heap.size+1]?=some (.cells (puA fz) 32 (0,0))):=hQQ (setRow_heap _ _ _ _ _ _ (mx.block BP.o))
         have t9:Turned (fun b=>b=w.heap.size+1) wr (wx.setRow (w.heap.size+1) (puA fz)):=Turned.setRow (Turned.mono mx (fun _ _ q=>q.elim)) _ _ (fun _=>rfl)
         have T9:Hq (Turned (fun b=>b=w.heap.size+1) w5 (wx.setRow (w.heap.size+1) (puA fz))):=hQQ (Turned.trans TW.o t9)
         have P9:Hq (cS (fun q=>N q∨F5 q) (wx.setRow (w.heap.size+1) (puA fz)) fz (bE (j:Int) d.pr P (L5.tail.take (i+1)))):=hQQ (by
          rw[HPS.o]
          exact px.keep (S:=fun b=>b=w.heap.size+1) (Turned.setRow (Turned.refl _ wx) _ _ (fun _=>rfl)) (fun q z=>by subst z;exact⟨_,_,_,mx.block BP.o,by decide⟩))
         clear HF hA MR mx px t9
         go_simp
         go_wp2_with fail
         go_roundw
         case rel=>exact⟨i+1,fz,by omega,by go_num,T9.o,B9.o,P9.o⟩
         case measure=>simp[intOf];omega
        intro QQ FINE FIND FINQ
        clear hA
        refine ce (i:=0) (v:=.agg (puA fi)) (by kernel_rfl) (by kernel_rfl) (by kernel_rfl) (some 52) rfl rfl (by kernel_rfl) (by kernel_rfl) (by kernel_rfl) (fun c a w=>FINQ c a _ _ w) MR.o (by exact aD (C:=(ae wr)) (ab rfl) 32 _ rfl (w.heap.size+1) (HF.get 2 rfl) 32 _ _ _ (fun W hW=>hW.block BP.o) Tryz.underlying32 rfl (by kernel_rfl)) ?_
        replace HF:=HF.put 52 (.agg (puA fi)) (by decide) rfl
        generalize β1:Act.put _ _ _=A at HF⊢
        refine ce (i:=1) (v:=.int .i64 (j:Int)) (by kernel_rfl) (by kernel_rfl) (by kernel_rfl) (some 53) rfl rfl (by kernel_rfl) (by kernel_rfl) (by kernel_rfl) (fun c a w=>FINQ c a _ _ w) MR.o (by exact bT (ab rfl) _ rfl (HF.get 1 rfl)) ?_
        replace HF:=HF.put 53 (.int .i64 (j:Int)) (by decide) rfl
        generalize β2:Act.put _ _ _=A at HF⊢
        refine ce (i:=2) (v:=.int .i64 XI) (by kernel_rfl) (by kernel_rfl) (by kernel_rfl) (some 54) rfl rfl (by kernel_rfl) (by kernel_rfl) (by kernel_rfl) (fun c a w=>FINQ c a _ _ w) MR.o (by exact bT (ab rfl) _ rfl (HF.get 5 rfl)) ?_
        replace HF:=HF.put 54 (.int .i64 XI) (by decide) rfl
        generalize β3:Act.put _ _ _=A at HF⊢
        refine ce (i:=3) (v:=.agg d.arr) (by kernel_rfl) (by kernel_rfl) (by kernel_rfl) (some 55) rfl rfl (by kernel_rfl) (by kernel_rfl) (by kernel_rfl) (fun c a w=>FINQ c a _ _ w) MR.o (by exact aD (C:=(ae wr)) (ab rfl) 28 _ rfl w.heap.size (HF.get 4 rfl) 28 _ _ _ (fun W hW=>hW.block BL.o) Tryz.underlying28 rfl (by kernel_rfl)) ?_
        replace HF:=HF.put 55 (.agg d.arr) (by decide) rfl
        generalize β4:Act.put _ _ _=A at HF⊢
        refine fW (i:=4) (some 56) (by kernel_rfl) rfl (ab rfl) rfl (fun K hK=>?_)
        refine nr (v0:=.agg d.arr) rfl (HF.get 0 rfl) (enters_of Tryz.func20 (by kernel_rfl) rfl) ?_
        refine(dw HR.o wq).mono ?_
        rintro e w7 ⟨rfl,h7⟩
        have M7:=hQQ (MR.o.trans h7)
        clear h7
        refine hK _ _ (.inr M7.o) ?_
        clear hK K
        replace HF:=HF.put 56 (.agg #[.int .i64 d.wk,.int .i64 d.cp,.int .i64 d.pg,.int .i64 d.st,.int .i64 d.tr,.int .i64 d.wt,.int .i64 d.ck,.int .i64 d.pr,.int .i64 d.ca,.int .i64 d.bi,.int .i64 d.ba]) (by decide) rfl
        generalize β5:Act.put _ _ _=A at HF⊢
        refine ce (i:=5) (v:=.int .i64 d.pr) (by kernel_rfl) (by kernel_rfl) (by kernel_rfl) (some 57) rfl rfl (by kernel_rfl) (by kernel_rfl) (by kernel_rfl) (fun c a w=>FINQ c a _ _ w) M7.o (by exact(Or.inl ⟨(ab rfl),fun W hW=>by have h5:=(HF.getD 0 rfl);have hf:=Cc d;go_simp⟩)) ?_
        replace HF:=HF.put 57 (.int .i64 d.pr) (by decide) rfl
        generalize β6:Act.put _ _ _=A at HF⊢
        refine fW (i:=6) (some 58) (by kernel_rfl) rfl (ab rfl) rfl (fun K hK=>?_)
        refine py (v0:=.agg (puA fi)) (v1:=.int .i64 (j:Int)) (v2:=.int .i64 XI) (v3:=.int .i64 d.pr) rfl (HF.get 5 rfl) (HF.get 4 rfl) (HF.get 3 rfl) (HF.get 0 rfl) (enters_of Tryz.func67 (by kernel_rfl) rfl) ?_
        refine(xE (fun q=>¬(fun q=>N q∨F5 q) q) fi (bE (j:Int) d.pr P (L5.tail.take i)) j XI d.pr w7 (PU.o.more M7.o).1 PU.o.2 HLN.o).mono ?_
        intro e w8 he
        obtain⟨f8,rfl,h8,m8⟩:=eJ.at he (fun q z=>Nat.lt_of_lt_of_le (FL.o q z) M7.o.size)
        have P8:=hQQ h8
        have M8:=hQQ (M7.o.trans m8)
        clear he h8 m8
        refine hK _ _ (.inr M8.o) ?_
        clear hK K
        replace HF:=HF.put 58 (.tuple #[.agg (puA f8),.bool (dX (bE (j:Int) d.pr P (L5.tail.take i)) j d.pr)]) (by decide) rfl
        generalize β7:Act.put _ _ _=A at HF⊢
        refine ce (i:=7) (v:=.tuple #[.agg (puA f8),.bool (dX (bE (j:Int) d.pr P (L5.tail.take i)) j d.pr)]) (by kernel_rfl) (by kernel_rfl) (by kernel_rfl) (some 51) rfl rfl (by kernel_rfl) (by kernel_rfl) (by kernel_rfl) (fun c a w=>FINQ c a _ _ w) M8.o (by exact bT (ab rfl) _ rfl (HF.get 0 rfl)) ?_
        replace HF:=HF.put 51 (.tuple #[.agg (puA f8),.bool (dX (bE (j:Int) d.pr P (L5.tail.take i)) j d.pr)]) (by decide) rfl
        generalize β8:Act.put _ _ _=A at HF⊢
        refine ce (i:=8) (v:=.agg (puA f8)) (by kernel_rfl) (by kernel_rfl) (by kernel_rfl) (some 59) rfl rfl (by kernel_rfl) (by kernel_rfl) (by kernel_rfl) (fun c a w=>FINQ c a _ _ w) M8.o (by exact(Or.inl ⟨(ab rfl),fun W hW=>by have h5:=(HF.getD 0 rfl);go_simp⟩)) ?_
        replace HF:=HF.put 59 (.agg (puA f8)) (by decide) rfl
        generalize β9:Act.put _ _ _=A at HF⊢
        refine pc (i:=9) (v:=.bool (dX (bE (j:Int) d.pr P (L5.tail.take i)) j d.pr)) (by kernel_rfl) (some 60) rfl rfl (by kernel_rfl) (by kernel_rfl) (by kernel_rfl) (fun c a w=>FINQ c a _ _ w) M8.o (by exact(Or.inl ⟨(ab rfl),fun W hW=>by have h5:=(HF.getD 1 rfl);go_simp⟩)) ?_
        replace HF:=HF.put 60 (.bool (dX (bE (j:Int) d.pr P (L5.tail.take i)) j d.pr)) (by decide) rfl
        generalize β10:Act.put _ _ _=A at HF⊢
        refine fW (i:=10) none (by kernel_rfl) rfl (ab rfl) rfl (fun K hK=>?_)
        refine wp_store_row 32 _ _ rfl (w.heap.size+1) _ (HF.get 12 rfl) (HF.get 1 rfl) 32 _ (M8.o.block BP.o) (by kernel_rfl) rfl (Pu.all1 P8.o.1) ?_
        refine hK _ _ (.inl (by kernel_rfl)) ?_
        exact qY (by kernel_rfl) (FINE _ _ ⟨(.agg (puA fi)),(.int .i64 (j:Int)),(.int .i64 XI),(.agg d.arr),(.agg #[.int .i64 d.wk,.int .i64 d.cp,.int .i64 d.pg,.int .i64 d.st,.int .i64 d.tr,.int .i64 d.wt,.int .i64 d.ck,.int .i64 d.pr,.int .i64 d.ca,.int .i64 d.bi,.int .i64 d.ba]),(.int .i64 d.pr),(.tuple #[.agg (puA f8),.bool (dX (bE (j:Int) d.pr P (L5.tail.take i)) j d.pr)]),(.tuple #[.agg (puA f8),.bool (dX (bE (j:Int) d.pr P (L5.tail.take i)) j d.pr)]),(.agg (puA f8)),(.bool (dX (bE (j:Int) d.pr P (L5.tail.take i)) j d.pr)),by rw[← β10,← β9,← β8,← β7,← β6,← β5,← β4,← β3,← β2,← β1]<;>rfl,w8,f8,M8.o,P8.o,rfl⟩)
       ·skip
        have hie:i=L5.tail.length:=by omega
        subst hie
        have PUF:=hQQ (show cS (fun q=>N q∨F5 q) wr fi (bE (j:Int) d.pr P L5.tail) by have:=PU.o;rwa [List.take_length] at this)
        skip
        go_wp2_with fail
        refine aO (fun W=>W.heap[(w.heap.size+1)]?=some (.cells (puA fi) 32 (0,0))∧W.heap[g5]?=some (.cells cur5 3 fr5)) (by kernel_rfl) ?_
        change dg _ _ _ _ _ _ _ _ (wr.drewN 1)
        have MR:Hq (ae wr (wr.drewN 1)):=hQQ ((ae.refl wr).drewN 1)
        generalize wr.drewN 1=wq at MR⊢
        have HC:Hq (wq.heap[(w.heap.size+1)]?=some (.cells (puA fi) 32 (0,0))∧wq.heap[g5]?=some (.cells cur5 3 fr5)):=hQQ ⟨MR.o.block BP.o,MR.o.block BG.o⟩
        have BZq:=hQQ (MR.o.block BZ9.o)
        generalize hA:Act.mk _ _=A
        have HF:AG 66 A [(8,.pointer (some ⟨(w.heap.size+1),0,none⟩)),(11,.pointer (some ⟨w.heap.size+2,0,none⟩)),(16,.slice (some ⟨g5,0,none⟩) L5.length c5)]:=by
         rw[←hA];try simp only[pts,List.foldl]
         refine⟨⟨Nat.le_of_ble_eq_true rfl,rfl⟩,?_⟩
         intro z hz;simp only[List.mem_cons,List.not_mem_nil,or_false] at hz;rcases hz with rfl|rfl|rfl<;>rfl
        refine bL (fun a W=>∃(u62 u63 u64 u65:Value),a=(pts A [(62,u62),(63,u63),(64,u64),(65,u65),(10,.int .i64 HD),(12,.bool true)])∧W=wq.setRow (w.heap.size+2) (puA fi)) (fun _=>False) [] (fun a W hd h=>h.elim) (fun _ _ _ _ _ h=>h) ?_ ?_
        ·skip
         rintro a9 wb ⟨u62,u63,u64,u65,rfl,rfl⟩
         rw[←hA];try simp only[pts,List.foldl]
         have FB:=hQQ ((fun wq (mq:ae wr wq)=>KF5.o HD true fi _ wq (Turned.trans TW.o (Turned.mono mq (fun _ _ q=>q.elim))) (PUF.o.more mq) HE6.o) wq MR.o)
         clear HF hA
         go_simp
         go_wp2_with fail
         refine bodyPost_ret (v:=.tuple #[.int .i64 HD,.agg (puA fi),.bool true]) (pY Tryz.results30 _ _ _ 32 _ (0,0) _ rfl FB.o.1 Tryz.underlying32 rfl (by kernel_rfl)) rfl FB.o.2
        intro QQ FINE FIND FINQ
        clear hA
        refine tqM 0 62 2 rfl (.inl rfl) rfl (by kernel_rfl) FINQ HC.o HF fun A β1 HF=>?_
        refine tqC 1 63 (.pointer (some ⟨g5,0,none⟩)) (by kernel_rfl) FINQ HC.o HF (by exact mE (j:=0) (ab rfl) rfl (HF.get 0 rfl) rfl HL0.o) fun A β2 HF=>?_
        refine tqC 2 64 (.int .i64 HD) (by kernel_rfl) FINQ HC.o HF (by exact lV (ab rfl) _ rfl _ _ (HF.get 0 rfl) _ (fun W hW=>H05.o W hW.2)) fun A β3 HF=>?_
        refine tqC 3 65 (.agg (puA fi)) (by kernel_rfl) FINQ HC.o HF (by exact aD (ab rfl) 32 _ rfl (w.heap.size+1) (HF.get 3 rfl) 32 _ _ _ (fun W hW=>hW.1) Tryz.underlying32 rfl (by kernel_rfl)) fun A β4 HF=>?_
        refine tqM 4 10 1 rfl (.inr rfl) rfl (by kernel_rfl) FINQ HC.o HF fun A β5 HF=>?_
        refine bo (i:=5) none (by kernel_rfl) rfl (ab rfl) rfl (fun K hK=>?_)
        refine wp_store_row 32 _ _ rfl (w.heap.size+2) _ (HF.get 6 rfl) (HF.get 1 rfl) 32 _ BZq.o (by kernel_rfl) rfl AL.o ?_
        have HC2:Hq ((fun W=>W.heap[(w.heap.size+1)]?=some (.cells (puA fi) 32 (0,0))∧W.heap[g5]?=some (.cells cur5 3 fr5)) (wq.setRow (w.heap.size+2) (puA fi))):=hQQ ⟨jT HC.o.1 (by omega),jT HC.o.2 hgz⟩
        refine hK _ _ HC2.o ?_
        clear hK K
        change dg _ _ _ _ _ _ _ A _
        refine tqC 6 12 ((.bool true)) (by kernel_rfl) FINQ HC2.o HF (by exact cR (ab rfl) _ rfl rfl) fun A β6 HF=>?_
        exact bU (by kernel_rfl) (FINE _ _ ⟨(.slice (some ⟨g5,0,none⟩) L5.length c5),(.pointer (some ⟨g5,0,none⟩)),(.int .i64 HD),(.agg (puA fi)),by rw[← β6,← β5,← β4,← β3,← β2,← β1]<;>rfl,rfl⟩)
    ·have hnil:L5= []:=List.length_eq_zero_iff.1 (by omega)
     subst hnil
     have dn:((([]:List Int).length:Int)==0)=true:=rfl
     go_wp2_with fail
     refine aO (fun W=>W.heap[(w.heap.size+1)]?=some (.cells (puA f) 32 (0,0))∧True) (by kernel_rfl) ?_
     change dg _ _ _ _ _ _ _ _ (w5.drewN 1)
     have MR:Hq (ae w5 (w5.drewN 1)):=hQQ ((ae.refl w5).drewN 1)
     generalize w5.drewN 1=wq at MR⊢
     have HC:Hq (wq.heap[(w.heap.size+1)]?=some (.cells (puA f) 32 (0,0))∧True):=hQQ ⟨MR.o.block Q8.o,trivial⟩
     have BZq:=hQQ (MR.o.block Z8.o)
     generalize hA:Act.mk _ _=A
     have HF:AG 66 A [(8,.pointer (some ⟨(w.heap.size+1),0,none⟩)),(11,.pointer (some ⟨w.heap.size+2,0,none⟩))]:=by
      rw[←hA];try simp only[pts,List.foldl]
      refine⟨⟨Nat.le_of_ble_eq_true rfl,rfl⟩,?_⟩
      intro z hz;simp only[List.mem_cons,List.not_mem_nil,or_false] at hz;rcases hz with rfl|rfl<;>rfl
     refine bL (fun a W=>∃(u43:Value),a=(pts A [(43,u43),(10,.int .i64 0),(12,.bool false)])∧W=wq.setRow (w.heap.size+2) (puA f)) (fun _=>False) [] (fun a W hd h=>h.elim) (fun _ _ _ _ _ h=>h) ?_ ?_
     ·skip
      rintro a9 wb ⟨u43,rfl,rfl⟩
      rw[←hA];try simp only[pts,List.foldl]
      have FB:=hQQ ((fun wq (mq:ae w5 wq)=>KF5.o 0 false f P wq (Turned.mono mq (fun _ _ q=>q.elim)) (U8.o.more mq) HE5.o) wq MR.o)
      clear HF hA
      go_simp
      go_wp2_with fail
      refine bodyPost_ret (v:=.tuple #[.int .i64 0,.agg (puA f),.bool false]) (pY Tryz.results30 _ _ _ 32 _ (0,0) _ rfl FB.o.1 Tryz.underlying32 rfl (by kernel_rfl)) rfl FB.o.2
     intro QQ FINE FIND FINQ
     clear hA
     refine tqC 0 43 (.agg (puA f)) (by kernel_rfl) FINQ HC.o HF (by exact aD (ab rfl) 32 _ rfl (w.heap.size+1) (HF.get 0 rfl) 32 _ _ _ (fun W hW=>hW.1) Tryz.underlying32 rfl (by kernel_rfl)) fun A β1 HF=>?_
     refine tqC 1 10 ((.int .i64 0)) (by kernel_rfl) FINQ HC.o HF (by exact cR (ab rfl) _ rfl rfl) fun A β2 HF=>?_
     refine bo (i:=2) none (by kernel_rfl) rfl (ab rfl) rfl (fun K hK=>?_)
     refine wp_store_row 32 _ _ rfl (w.heap.size+2) _ (HF.get 3 rfl) (HF.get 1 rfl) 32 _ BZq.o (by kernel_rfl) rfl AL.o ?_
     have HC2:Hq ((fun W=>W.heap[(w.heap.size+1)]?=some (.cells (puA f) 32 (0,0))∧True) (wq.setRow (w.heap.size+2) (puA f))):=hQQ ⟨jT HC.o.1 (by omega),trivial⟩
     refine hK _ _ HC2.o ?_
     clear hK K
     change dg _ _ _ _ _ _ _ A _
     refine tqC 3 12 ((.bool false)) (by kernel_rfl) FINQ HC2.o HF (by exact cR (ab rfl) _ rfl rfl) fun A β3 HF=>?_
     exact bU (by kernel_rfl) (FINE _ _ ⟨(.agg (puA f)),by rw[← β3,← β2,← β1]<;>rfl,rfl⟩)
theorem uH {o:Oper}{a:Act}{w:World}{K:Act→World→Prop}{Q:Exit→Act→World→Prop}{x:Operand}(ho:o.op=.buildSlice 136 1 #[(0,x)]){fu:Fn}{lu:Array Value}(hx:a.eval x=.func fu #[] lu)(h:K (a.put o.dst (.slice (some ⟨w.heap.size,0,none⟩) 1 1)) (w.alloc (.cells #[.func fu #[] lu] 103))):Oper.wp Tryz.prog o a w K Q:=by
 unfold Oper.wp Oper.upon execOp
 simp only[ho]
 generalize a.eval=ρ at hx⊢
 go_simp
 exact h
theorem Cr {o:Oper}{a:Act}{w:World}{K:Act→World→Prop}{Q:Exit→Act→World→Prop}{x:Operand}(ho:o.op=.load 32 x)(g:Nat)(hx:a.eval x=.pointer (some ⟨g,0,none⟩))(f:Nat→Value)(hg:w.heap[g]?=some (.cells (puA f) 32 (0,0)))(h:K (a.put o.dst (.agg (puA f))) w):Oper.wp Tryz.prog o a w K Q:=by
 have hl:=run_loadVar_row (P:=Tryz.prog) w g _ 32 _ _ _ hg Tryz.underlying32 rfl (by kernel_rfl)
 unfold Oper.wp Oper.upon execOp
 simp only[ho,hx,Instr.loadAt,Instr.sureAddr,Sem.run_bind,Sem.run_pure,Result.andThen_ok,hl]
 exact h
theorem GvS.fin2 {w W:World}{F N F1:Nat→Prop}{p n:Nat}{kn:Int→Option Int}{D:List KV}{f:Nat→Value}{P P':Nat→List Int}(g:GvS w F N p kn n D F1 f P W)(e:∀j,j<5→P j=P' j)(Rr:Res (Unit×(Nat→List Int)))(hR:Rr=.ok ((),P') D):
 iV w F N p kn (fun(_:Unit) v=>v) Rr (.returned (.agg (puA f))) (W.setRow (w.heap.size+2) (puA f)):=by
 subst hR
 have t2:Turned (fun k=>k=w.heap.size+2) W (W.setRow (w.heap.size+2) (puA f)):=Turned.setRow (Turned.refl _ _) _ _ (fun _=>rfl)
 have v2:=g.view.keepS t2 (fun k q e=>g.n2 (e▸q)) (fun k es cl e q=>by subst e;rw[g.res] at q;cases q)
 have p2:=g.pu.keep t2 (fun k q=>by subst q;exact⟨_,_,_,g.res,by decide⟩)
 exact⟨f,F1,rfl,v2,ak g.turn t2 (fun k q=> .inr (by omega)),g.from',p2.congr e⟩
theorem Le {d:Cfg}(R:d.Ok){n:Nat}(H:cF d.pg d.st n)(hw:(n:Int)=d.words)(hn:n≤10000){bt:Nat}(F N:Nat→Prop)(p:Nat)(kn:Int→Option Int)(D:List KV)(w:World)(f:Nat→Value)(P:Nat→List Int)
 (hv:aF w F p kn D) (hk:OkK kn) (hD:cI n D) (hs:dh bt w) (nF0:¬F 0) (nFb:¬F bt) (hN:∀k,N k→k<w.heap.size) (pu:cS (fun q=>N q∨F q) w f P) (hP:dr d P):
 Calls Tryz.prog 17 #[.pointer (some ⟨p,0,none⟩),.agg d.arr,.agg (puA f)] w (iV w F N p kn (fun _ v=>v) (flP d P kn D)):=by
 obtain⟨Rr,hRr⟩:∃Rr,flP d P kn D=Rr:=⟨_,rfl⟩
 rw[hRr]
 have hsem:aq (flN d 0 5 P) (fun _=>az ((),fun _=>([]:List Int))) kn D=Rr:=hRr
 obtain⟨w3,e3,b0,b1,b2,m3,s3⟩:=jD w (.cells d.arr 28) (.cells (puA f) 32) (.cells #[.slice none 0 0,.slice none 0 0,.slice none 0 0,.slice none 0 0,.slice none 0 0] 32)
 have L0:=hQQ b0
 have G0:Hq (GvS w F N p kn n D F f P w3):=hQQ ⟨hv.more m3,fun k q=> .inl q,Turned.mono m3 (fun _ _ q=>q.elim),hD,b1,pu.more m3,b2,fun q=>by have:=hv.lt _ q;omega,fun q=>by have:=hv.lt _ q;omega⟩
 have HR:=hQQ R
 have HH:=hQQ H
 have HK:=hQQ hk
 have HS0:=hQQ hsem
 clear b0 b1 b2 m3 s3 R H hk hRr hsem
 go_enter Tryz.func17,Tryz.ntmps17
 go_wp2_with fail
 clear e3
 go_loopw [8] (fun i wr=>∃(k:Nat) (f1:Nat→Value) (P1:Nat→List Int) (D1:List KV) (F1:Nat→Prop),i=.int .i64 (k:Int)∧k≤5∧GvS w F N p kn n D1 F1 f1 P1 wr∧wr.heap[w.heap.size]?=some (.cells d.arr 28 (0,0))∧¬F1 w.heap.size∧dr d P1∧(∀j,j<k→P1 j= [])∧aq (flN d k (5-k) P1) (fun _=>az ((),fun _=>([]:List Int))) kn D1=Rr) (fun i _=>5-(intOf i).toNat)
 case atStart=>exact⟨0,f,P,D,F,rfl,by omega,G0.o,L0.o,fun q=>by have:=hv.lt _ q;omega,hP,fun j hj=>by omega,HS0.o⟩
 case round =>
  obtain⟨k,f1,P1,D1,F1,rfl,hk',hg,hl,hnl,hl1,he1,hse⟩:=hrel
  have G1:=hQQ hg
  have HL1:=hQQ hl1
  have HE1:=hQQ he1
  by_cases hk5:k<5
  ·have d1:decide ((k:Int)<5)=true:=by simp;omega
   rw[show 5-k=(5-(k+1))+1 by omega] at hse
   have hse2:aq (dF d.us d.pg d.st [.home] k (P1 k).length P1) (fun P'=>aq (flN d (k+1) (5-(k+1)) P') (fun _=>az ((),fun _=>([]:List Int)))) kn D1=Rr:=by rw[←cM];exact hse
   have NEED:Hq (∀a' w2,dF d.us d.pg d.st [.home] k (P1 k).length P1 kn D1=.need a'→bJ w2 p a'→Turned F w w2→iV w F N p kn (fun(_:Unit) v=>v) Rr (.panicked (bB p)) w2):=hQQ fun a' w2 e hd ht=>by
    have:Rr=.need a':=hse2.symm.trans (ag e)
    subst this
    exact⟨rfl,hd,ht⟩
   have RR:Hq (∀P9 D9,dF d.us d.pg d.st [.home] k (P1 k).length P1 kn D1=.ok P9 D9→aq (flN d (k+1) (5-(k+1)) P9) (fun _=>az ((),fun _=>([]:List Int))) kn D9=Rr):=hQQ fun P9 D9 e=>(aj e).symm.trans hse2
   have E1:Hq True:=hQQ trivial
   have KC:Hq (∀W,ae wr W→W.heap[w.heap.size]?=some (.cells d.arr 28 (0,0))):=hQQ fun W hW=>hW.block hl
   have NL:Hq (¬F1 w.heap.size):=hQQ hnl
   clear hg hl hnl hl1 he1 hse hse2 G0 HS0
   go_wp2_with fail
   refine aO (fun W=>W.heap[w.heap.size]?=some (.cells d.arr 28 (0,0))) (by kernel_rfl) ?_
   change dg _ _ _ _ _ _ _ _ (wr.drewN 1)
   have MR:Hq (ae wr (wr.drewN 1)):=hQQ ((ae.refl wr).drewN 1)
   generalize wr.drewN 1=wq at MR⊢
   generalize hA:Act.mk _ _=A
   have HF:AG 23 A [(0,.pointer (some ⟨p,0,none⟩)),(4,.pointer (some ⟨w.heap.size,0,none⟩)),(5,.pointer (some ⟨w.heap.size+1,0,none⟩)),(6,.pointer (some ⟨w.heap.size+2,0,none⟩)),(7,.int .i64 (k:Int)),(8,.int .i64 (k:Int))]:=by
    rw[←hA];try simp only[pts,List.foldl]
    refine⟨⟨Nat.le_of_ble_eq_true rfl,rfl⟩,?_⟩
    intro z hz;simp only[List.mem_cons,List.not_mem_nil,or_false] at hz;rcases hz with rfl|rfl|rfl|rfl|rfl|rfl<;>rfl
   refine bL (fun aa W=>∃(u11 u13 u16 u17 u12 u14 u15 u18 u19 u20:Value),aa=(pts A [(11,u11),(13,u13),(16,u16),(17,u17),(12,u12),(14,u14),(15,u15),(18,u18),(19,u19),(20,u20)])∧∃f9 P9 D9 F9,GvS w F N p kn n D9 F9 f9 P9 W∧W.heap[w.heap.size]?=some (.cells d.arr 28 (0,0))∧¬F9 w.heap.size∧dF d.us d.pg d.st [.home] k (P1 k).length P1 kn D1=.ok P9 D9) (fun W=>iV w F N p kn (fun(_:Unit) v=>v) Rr (.panicked (bB p)) W) (bB p) (fun a W hd h=>⟨hd,h⟩) (fun _ _ _ _ _ h=>h) ?_ ?_
   ·skip
    rintro a9 wa ⟨u11,u13,u16,u17,u12,u14,u15,u18,u19,u20,rfl,f9,P9,D9,F9,hg,hl9,hn9,he⟩
    rw[←hA];try simp only[pts,List.foldl]
    have hp9:=(lO _ _ _ _ hk5 HH.o (lP HR.o HH.o hw hn) _ P1 HL1.o.w).ok HK.o G1.o.inv he
    rw[Nat.sub_self,List.take_zero] at hp9
    have G9:=hQQ hg
    have L9:=hQQ hl9
    have E9:=hQQ (RR.o P9 D9 he)
    have P9L:Hq (dr d P9):=hQQ (by rw[hp9.2];intro j hj;unfold dk;split;exact⟨by have:=HR.o.pr1;simp;omega,fun a ha=>by cases ha⟩;exact HL1.o j hj)
    have P9E:Hq (∀j,j<k+1→P9 j= []):=hQQ (by
     rw[hp9.2]
     intro j hj
     unfold dk
     split
     ·rfl
     ·exact HE1.o j (by omega))
    clear HF hA MR hg hl9 he hp9 G1 KC NL NEED RR E1 HL1 HE1
    go_simp
    go_wp2_with fail
    go_roundw
    case rel=>exact⟨k+1,f9,P9,D9,F9,by go_num,by omega,G9.o,L9.o,hn9,P9L.o,P9E.o,E9.o⟩
    case measure=>simp[intOf];omega
   intro QQ FINE FIND FINQ
   clear hA
   refine tqM 0 11 4 rfl (.inl rfl) rfl (by kernel_rfl) FINQ (KC.o _ MR.o) HF fun A β1 HF=>?_
   refine tqM 2 13 5 rfl (.inl rfl) rfl (by kernel_rfl) FINQ (KC.o _ MR.o) HF fun A β2 HF=>?_
   refine tqM 5 16 2 rfl (.inl rfl) rfl (by kernel_rfl) FINQ (KC.o _ MR.o) HF fun A β3 HF=>?_
   refine tqC 6 17 (.agg d.arr) (by kernel_rfl) FINQ (KC.o _ MR.o) HF (by exact aD (ab rfl) 28 _ rfl w.heap.size (HF.get 4 rfl) 28 _ _ _ (fun W hW=>hW) Tryz.underlying28 rfl (by kernel_rfl)) fun A β4 HF=>?_
   refine tqO 1 12 (by kernel_rfl) HF fun K hK=>?_
   refine Cr rfl (w.heap.size+1) (HF.get 6 rfl) f1 (MR.o.block G1.o.box) ?_
   refine hK _ _ (KC.o _ MR.o) fun A β5 HF=>?_
   clear hK K
   refine tqO 3 14 (by kernel_rfl) HF fun K hK=>?_
   refine bO (v0:=.agg (puA f1)) (v1:=.int .i64 (k:Int)) rfl (HF.get 0 rfl) (HF.get 3 rfl) (enters_of Tryz.func21 (by kernel_rfl) rfl) ?_
   refine(om f1 P1 k wq (G1.o.pu.more MR.o).1).mono ?_
   rintro e w7 ⟨rfl,h7⟩
   rw[dR P1 hk5]
   have M7:=hQQ (MR.o.trans h7)
   clear h7
   refine hK _ _ (KC.o _ M7.o) fun A β6 HF=>?_
   clear hK K
   refine tqO 4 15 (by kernel_rfl) HF fun K hK=>?_
   refine dE (v0:=.pointer (some ⟨w.heap.size+1,0,none⟩)) (v1:=.int .i64 (k:Int)) (v2:=.int .i64 ((P1 k).length:Int)) rfl (HF.get 8 rfl) (HF.get 5 rfl) (HF.get 0 rfl) (enters_of Tryz.func48 (by kernel_rfl) rfl) ?_
   refine(DE (w.heap.size+1) k ((P1 k).length:Int) w7).mono ?_
   rintro e w8 ⟨rfl,rfl⟩
   obtain⟨w8,e8,b80,b81,b82,h8,s8⟩:=jD w7 (.cells #[.pointer (some ⟨w.heap.size+1,0,none⟩)] 102) (.cells #[.int .i64 (k:Int)] 3) (.cells #[.int .i64 ((P1 k).length:Int)] 3)
   rw[e8]
   have B80:=hQQ b80
   have B81:=hQQ b81
   have B82:=hQQ b82
   have M8:=hQQ (M7.o.trans h8)
   clear h8 b80 b81 b82 e8 s8
   refine hK _ _ (KC.o _ M8.o) fun A β7 HF=>?_
   clear hK K
   refine tqO 7 18 (by kernel_rfl) HF fun K hK=>?_
   refine bO (v0:=.pointer (some ⟨p,0,none⟩)) (v1:=.agg d.arr) rfl (HF.get 4 rfl) (HF.get 3 rfl) (enters_of Tryz.func49 (by kernel_rfl) rfl) ?_
   refine(Cb p d w8).mono ?_
   rintro e w9 ⟨rfl,rfl⟩
   obtain⟨w9,e1,b0,b1,h1,s1⟩:=ij w8 (.cells #[.pointer (some ⟨p,0,none⟩)] 43) (.cells d.arr 28)
   rw[e1]
   have V9:=hQQ b0
   have S9:=hQQ b1
   have N9:=hQQ h1
   have M9:=hQQ (M8.o.trans h1)
   clear h1 b0 b1 e1 s1
   refine hK _ _ (KC.o _ M9.o) fun A β8 HF=>?_
   clear hK K
   refine tqO 8 19 (by kernel_rfl) HF fun K hK=>?_
   refine uH rfl (HF.get 0 rfl) ?_
   obtain⟨w10,e1,b10,h10,s10⟩:=bg w9 (.cells #[.func (.func 86) #[] #[.pointer (some ⟨w8.heap.size,0,none⟩),.pointer (some ⟨w8.heap.size+1,0,none⟩)]] 103)
   rw[e1]
   have B10:=hQQ b10
   have N10:=hQQ h10
   have M10:=hQQ (M9.o.trans h10)
   clear h10 b10 e1 s10
   refine hK _ _ (KC.o _ M10.o) fun A β9 HF=>?_
   clear hK K
   refine tqO 9 20 (by kernel_rfl) HF fun K hK=>?_
   refine bO (v0:=.func (.func 85) #[] #[.pointer (some ⟨w7.heap.size+2,0,none⟩),.pointer (some ⟨w7.heap.size,0,none⟩),.pointer (some ⟨w7.heap.size+1,0,none⟩)]) (v1:=.slice (some ⟨w9.heap.size,0,none⟩) 1 1) rfl (HF.get 2 rfl) (HF.get 0 rfl) (enters_of Tryz.func47 (by kernel_rfl) rfl) ?_
   have Fq9:∀q,F1 q→q<wr.heap.size:=G1.o.view.lt
   have z0:w.heap.size+3≤wr.heap.size:=by have:=ac G1.o.res;omega
   have z7:wr.heap.size≤w7.heap.size:=M7.o.size
   have z8:w7.heap.size+3≤w8.heap.size:=by have:=ac B82.o;omega
   have z9:w8.heap.size+2≤w9.heap.size:=by have:=ac S9.o;omega
   have n8:ae w8 w10:=N9.o.trans N10.o
   have z10:w9.heap.size≤w10.heap.size:=N10.o.size
   have HN10:∀k,N k→k<w10.heap.size:=fun k q=>Nat.lt_of_lt_of_le (hN k q) (Nat.le_trans G1.o.turn.size M10.o.size)
   have LV:=rF HR.o HH.o hn F1 N HN10 p kn D1 HK.o (wy:=[.home]) (lP HR.o HH.o hw hn) (by simp) (w7.heap.size+2) w7.heap.size (w7.heap.size+1) (w.heap.size+1) (P1 k).length (HL1.o.len HR.o k hk5) k f1 P1 (G1.o.view.more M10.o) G1.o.inv ((hs.keep G1.o.turn nF0 nFb).more M10.o)
    (fun q=>by rcases G1.o.from' 0 q with r|r;exact nF0 r;have:=hs.lt0;omega) (fun q=>by rcases G1.o.from' bt q with r|r;exact nFb r;have:=hs.lt;omega) (by have:=hs.lt0;omega) (by have:=hs.lt;omega)
    (n8.block B82.o) (n8.block B80.o) (n8.block B81.o) (M10.o.block G1.o.box) (G1.o.pu.more M10.o)
    ⟨fun q=>by have:=Fq9 _ q;omega,fun q=>by have:=Fq9 _ q;omega,fun q=>by have:=Fq9 _ q;omega,G1.o.n1⟩ ⟨by omega,by omega,by omega⟩ HL1.o.w (HL1.o.len HR.o) w9.heap.size 1 ⟨ac B10.o,fun q=>by have:=Fq9 _ q;omega,by omega⟩
    (by
     have nn:∀x,w8.heap.size≤x→¬(F1 x∨x=w.heap.size+1):=fun x hx q=>by
      rcases q with q|q
      ·have:=Fq9 _ q;omega
      ·omega
     intro i hi
     have hi1:i<1:=hi
     obtain rfl:i=0:=by omega
     exact⟨_,by simp[World.cell?,B10.o],_,_,rfl,N10.o.block V9.o,N10.o.block S9.o,nn _ (by omega),nn _ (by omega)⟩)
   refine LV.mono ?_
   intro e w15 he
   have M0:Turned F w w10:=ak (F':=fun _=>False) G1.o.turn M10.o (fun _ q=>q.elim)
   rcases hE:dF d.us d.pg d.st [.home] k (P1 k).length P1 kn D1 with a'|⟨P15,D15⟩
   ·rw[hE] at he
    obtain⟨rfl,hd,ht⟩:=he
    exact FIND _ _ HF.1.2 (NEED.o a' w15 hE hd (ak M0 ht (fun b q=>by
     rcases q with q|q
     ·exact G1.o.from' b q
     ·exact .inr (by omega))))
   rw[hE] at he
   obtain⟨rfl,f15,F15,hv15,ht15,hf15,hi15,hb15,hp15⟩:=he
   have nF15:∀b,b<w10.heap.size→¬F1 b→¬F15 b:=fun b hb nb q=>by rcases hf15 b q with r|r;exact nb r;omega
   have GV15:Hq (GvS w F N p kn n D15 F15 f15 P15 w15):=hQQ ⟨hv15,fun b q=>by
    rcases hf15 b q with r|r
    ·exact G1.o.from' b r
    ·exact .inr (by omega),ak M0 ht15 (fun b q=>by
    rcases q with q|q
    ·exact G1.o.from' b q
    ·exact .inr (by omega)),hi15,hb15,hp15,(ht15.block (w.heap.size+2) (by omega) (by rintro(q|q);exact G1.o.n2 q;omega)).trans (M10.o.block G1.o.res),nF15 _ (by omega) G1.o.n1,nF15 _ (by omega) G1.o.n2⟩
   have EQ15:=hQQ hE
   have NL15:Hq (¬F15 w.heap.size):=hQQ (nF15 _ (by omega) NL.o)
   have L15:Hq (w15.heap[w.heap.size]?=some (.cells d.arr 28 (0,0))):=hQQ ((ht15.block w.heap.size (by omega) (by rintro(q|q);exact NL.o q;omega)).trans (KC.o _ M10.o))
   clear LV hE hv15 ht15 hf15 hi15 hb15 hp15 nF15 Fq9 M0 z0 z7 z8 z9 z10 n8
   refine hK _ _ L15.o fun A β10 HF=>?_
   clear hK K
   exact bU (by kernel_rfl) (FINE _ _ ⟨(.int .i64 (k:Int)),(.int .i64 (k:Int)),(.pointer (some ⟨p,0,none⟩)),(.agg d.arr),(.agg (puA f1)),(.int .i64 ((P1 k).length:Int)),(.func (.func 85) #[] #[.pointer (some ⟨w7.heap.size+2,0,none⟩),.pointer (some ⟨w7.heap.size,0,none⟩),.pointer (some ⟨w7.heap.size+1,0,none⟩)]),(.func (.func 86) #[] #[.pointer (some ⟨w8.heap.size,0,none⟩),.pointer (some ⟨w8.heap.size+1,0,none⟩)]),(.slice (some ⟨w9.heap.size,0,none⟩) 1 1),(.tuple #[]),by rw[← β10,← β9,← β8,← β7,← β6,← β5,← β4,← β3,← β2,← β1]<;>rfl,f15,P15,D15,F15,GV15.o,L15.o,NL15.o,EQ15.o⟩)
  ·obtain rfl:k=5:=by omega
   have d1:decide (((5:Nat):Int)<5)=false:=by simp
   have hR:Rr=.ok ((),fun _=>([]:List Int)) D1:=hse.symm
   have FIN:=hQQ (hg.fin2 (P':=fun _=> []) (fun j hj=>he1 j hj) Rr hR)
   have X1:=hQQ hg.box
   have X2:=hQQ hg.res
   have AL:=hQQ (Pu.all1 hg.pu.1)
   clear hg hl hl1 he1 hse G1 HL1 HE1 hR
   go_wp2_with (first
    |(refine kY rfl rfl rfl X1.o (by kernel_rfl) ?_)
    |(refine wpList_store_row rfl 32 _ _ rfl _ (puA f1) rfl rfl 32 _ X2.o (by kernel_rfl) rfl AL.o ?_))
   refine bodyPost_ret (v:=.agg (puA f1)) (results_cell_row Tryz.results17 _ _ _ 32 _ (0,0) _ rfl (setRow_heap _ _ _ _ _ _ X2.o) Tryz.underlying32 rfl (by kernel_rfl)) rfl FIN.o
theorem Nq {pg st:Int}{n:Nat}(H:cF pg st n):cF pg st (a8 st pg+62).toNat:=by
 have h1:=H.st1;have h2:=H.st2;have h4:=H.pg1;have h5:=H.pg2
 have hc:0≤aL pg:=by unfold aL;omega
 have ht:0≤aY st:=by unfold aY;omega
 refine⟨⟨⟨h1,h2,h4,h5,?_⟩,?_⟩,?_⟩<;>unfold a8<;>omega
theorem xS {pg st us a:Int}{n m:Nat}(H:cF pg st n)(L:cF pg st m):Low n m (lX us pg st [.home] a):=
 cB (vL H us a) (Hr H L us a) fun b _=>eC (fun _=>cJ _) (fun _=>cJ _)
section
variable (us pg st:Int)(wy:List WayD)
def Ak:List (Int×Int)→Nat→Prg Unit
 | [],_=>az ()
 |s::t,m=>aq (kT us pg st wy s.1 s.2 m) fun _=>fj us pg st wy t
theorem rL (t:List (Int×Int)):∃m,(∀s,t[0]?=some s→m=s.2.toNat+1)∧Ak us pg st wy t m=fj us pg st wy t:=by
 cases t with
 |nil=>exact⟨0,fun s h=>absurd h (by simp),rfl⟩
 |cons s t=>exact⟨s.2.toNat+1,fun s' h=>by cases h;rfl,rfl⟩
end
structure PpZ (p vb fb sb cap:Nat)(cur:Array Value)(len:Nat)(Sem:LsS→Prop)(s:LsS)(A:World):Prop where
 bv:A.heap[vb]?=some (.cells #[.pointer (some ⟨p,0,none⟩)] 43 (0,0))
 bf:A.heap[fb]?=some (.cells #[.slice (some ⟨sb,0,none⟩) len cap] 93 (0,0))
 bs:∃fr,A.heap[sb]?=some (.cells cur 96 fr)
 nf:¬s.F vb∧¬s.F fb∧¬s.F sb
 sem:Sem s
theorem PpZ.stays (p vb fb sb cap:Nat)(cur:Array Value)(len:Nat)(Sem:LsS→Prop):oo (PpZ p vb fb sb cap cur len Sem):=fun s A B h _ t =>
 ⟨t _ _ _ _ h.bv,t _ _ _ _ h.bf,by obtain⟨fr,h1⟩:=h.bs;exact⟨fr,t _ _ _ _ h1⟩,h.nf,h.sem⟩
theorem PpZ.went {p vb fb sb cap len:Nat}{cur:Array Value}{Sem Sem':LsS→Prop}{s s':LsS}{A B:World}(h:PpZ p vb fb sb cap cur len Sem s A)(hk:∀k cs t fr,¬s.F k→A.heap[k]?=some (.cells cs t fr)→B.heap[k]?=some (.cells cs t fr))(hf:∀k,s'.F k→s.F k∨A.heap.size≤k)(hs:Sem' s'):PpZ p vb fb sb cap cur len Sem' s' B:=by
 obtain⟨fr,h1⟩:=h.bs
 have nf:∀b cs t fr,¬s.F b→A.heap[b]?=some (.cells cs t fr)→¬s'.F b:=fun b cs t fr nb ho q=>by
  rcases hf b q with r|r
  ·exact nb r
  ·have:=ac ho;omega
 exact⟨hk _ _ _ _ h.nf.1 h.bv,hk _ _ _ _ h.nf.2.1 h.bf,⟨fr,hk _ _ _ _ h.nf.2.2 h1⟩,⟨nf _ _ _ _ h.nf.1 h.bv,nf _ _ _ _ h.nf.2.1 h.bf,nf _ _ _ _ h.nf.2.2 h1⟩,hs⟩
theorem si {sh:List (Int×Int)}{i:Nat}{b l:Int}(h:sh[i]?=some (b,l)):sh.drop i=(b,l)::sh.drop (i+1):=by
 obtain⟨hlt,e⟩:=List.getElem?_eq_some_iff.1 h
 rw[List.drop_eq_getElem_cons hlt,e]
theorem Jc {c:Cfg}{n m0:Nat}(H:cF c.pg c.st n)(L0:cF c.pg c.st m0)(F:Nat→Prop)(p:Nat)(kn:Int→Option Int)(hk:OkK kn)(w:World)(vb fb sb cap:Nat)(cur:Array Value)(sh:List (Int×Int))(hok:∀s∈sh,eQ s.1 s.2 n)(hlo:∀s∈sh,(m0:Int)≤s.1)(Rr:Res Unit)(hF:∀k,F k→k<w.heap.size):
 LvH w F (fun _=>False) p kn n c [.home] (xP n kn p vb fb sb cap cur sh)
  (PpZ p vb fb sb cap cur sh.length fun s=>∃m,(∀b l,sh[s.i]?=some (b,l)→mea kn s.D b l<m)∧Ak c.us c.pg c.st [.home] (sh.drop s.i) m kn s.D=Rr)
  (PpZ p vb fb sb cap cur sh.length fun s=>W64 s.a∧∃b l m,sh[s.i]?=some (b,l)∧mea kn s.D b l<m∧aq (lX c.us c.pg c.st [.home] s.a) (fun _=>aq (kT c.us c.pg c.st [.home] b l m) fun _=>fj c.us c.pg c.st [.home] (sh.drop (s.i+1))) kn s.D=Rr)
  (PpZ p vb fb sb cap cur sh.length fun s=>Rr=.ok () s.D) (fun a=>Rr=.need a) where
 enc s:=rfl
 sZ:=PpZ.stays p vb fb sb cap cur sh.length _
 sZ':=PpZ.stays p vb fb sb cap cur sh.length _
 sZ2:=PpZ.stays p vb fb sb cap cur sh.length _
 see w6 s A _ h:=⟨h.on.view,h.on.inv,h.z.bv,h.z.bf,h.z.bs⟩
 own w6 s s' A B hle hsz h o:=by
  obtain⟨b,l,D1,F1,a,hbl,hE,rfl,hv1,ht1,hf1⟩:=o
  have hst:=hok _ (List.mem_of_getElem? hbl)
  have g:=(iu hst).ok hk h.on.inv hE
  have hF6:∀k,F k→k<w6.heap.size:=fun k q=>Nat.lt_of_lt_of_le (hF k q) hle
  refine⟨h.on.same hF6 hsz ht1,⟨⟨hv1,fun k q=>?_,ak h.on.turn ht1 (fun k q=>(h.on.from' k q).imp .inl (fun r=>by omega)),g.1⟩,h.z.went (fun k cs t fr nk hk'=>(ht1.block k (ac hk') nk).trans hk') hf1 ?_⟩⟩
  ·rcases hf1 k q with r|r
   ·exact h.on.from' k r
   ·exact .inr (by omega)
  ·obtain⟨m,hm,hs⟩:=h.z.sem
   have hm0:=hm b l hbl
   obtain⟨m',rfl⟩:∃m',m=m'+1:=⟨m-1,by omega⟩
   rw[si hbl] at hs
   have e:kT c.us c.pg c.st [.home] b l (m'+1)=aq (ee b l) fun x=>if x.2 then aq (lX c.us c.pg c.st [.home] x.1) fun _=>kT c.us c.pg c.st [.home] b l m' else az ():=rfl
   have hs2:aq (kT c.us c.pg c.st [.home] b l (m'+1)) (fun _=>fj c.us c.pg c.st [.home] (sh.drop (s.i+1))) kn s.D=Rr:=hs
   rw[e,cM,aj hE] at hs2
   simp only[if_true] at hs2
   rw[cM] at hs2
   have pm:mea kn D1 b l<mea kn s.D b l:=DH (b:=b) (l:=l) hst h.on.inv hE
   exact⟨g.2,b,l,m',hbl,by show mea kn D1 b l<m';omega,hs2⟩
 fin w6 s s' A B hle hsz h o:=by
  obtain⟨rfl,hi,mo⟩:=o
  refine⟨nq mo (fun j q=>by rcases q with q|q<;>omega),h.on.more mo,?_⟩
  have h2:=(PpZ.stays p vb fb sb cap cur sh.length _).more h.z mo
  obtain⟨m,_,hs⟩:=h.z.sem
  rw[List.drop_eq_nil_of_le hi] at hs
  exact⟨h2.bv,h2.bf,h2.bs,h2.nf,hs.symm⟩
 ned w6 s ch A B hle hsz h o:=by
  obtain⟨b,l,a,hbl,hE,rfl,hd,ht⟩:=o
  have hF6:∀k,F k→k<w6.heap.size:=fun k q=>Nat.lt_of_lt_of_le (hF k q) hle
  refine⟨h.on.same hF6 hsz ht,rfl,a,?_,hd,ak h.on.turn ht (fun k q=>(h.on.from' k q).imp .inl (fun r=>by omega))⟩
  obtain⟨m,hm,hs⟩:=h.z.sem
  have hm0:=hm b l hbl
  obtain⟨m',rfl⟩:∃m',m=m'+1:=⟨m-1,by omega⟩
  rw[si hbl] at hs
  exact hs.symm.trans (ag (ag hE))
 skp w6 s s' A B hle hsz h o:=by
  obtain⟨b,l,D1,F1,a,hbl,hE,rfl,hv1,ht1,hf1⟩:=o
  have hst:=hok _ (List.mem_of_getElem? hbl)
  have g:=(iu hst).ok hk h.on.inv hE
  have hF6:∀k,F k→k<w6.heap.size:=fun k q=>Nat.lt_of_lt_of_le (hF k q) hle
  refine⟨h.on.same hF6 hsz ht1,⟨⟨hv1,fun k q=>?_,ak h.on.turn ht1 (fun k q=>(h.on.from' k q).imp .inl (fun r=>by omega)),g.1⟩,h.z.went (fun k cs t fr nk hk'=>(ht1.block k (ac hk') nk).trans hk') hf1 ?_⟩⟩
  ·rcases hf1 k q with r|r
   ·exact h.on.from' k r
   ·exact .inr (by omega)
  ·obtain⟨m,hm,hs⟩:=h.z.sem
   have hm0:=hm b l hbl
   obtain⟨m',rfl⟩:∃m',m=m'+1:=⟨m-1,by omega⟩
   rw[si hbl] at hs
   have e:kT c.us c.pg c.st [.home] b l (m'+1)=aq (ee b l) fun x=>if x.2 then aq (lX c.us c.pg c.st [.home] x.1) fun _=>kT c.us c.pg c.st [.home] b l m' else az ():=rfl
   have hs2:aq (kT c.us c.pg c.st [.home] b l (m'+1)) (fun _=>fj c.us c.pg c.st [.home] (sh.drop (s.i+1))) kn s.D=Rr:=hs
   rw[e,cM,aj hE] at hs2
   obtain⟨m2,h1,h2⟩:=rL c.us c.pg c.st [.home] (sh.drop (s.i+1))
   refine⟨m2,fun b' l' hb'=>?_,?_⟩
   ·have hb2:sh[s.i+1]?=some (b',l'):=hb'
    rw[h1 (b',l') (by rw[List.getElem?_drop];simpa using hb2)]
    have ml:mea kn D1 b' l'≤l'.toNat:=I4 kn D1 (b:=b') (l:=l') (hok (b',l') (List.mem_of_getElem? hb2)).l0
    show mea kn D1 b' l'<l'.toNat+1
    omega
   ·show Ak c.us c.pg c.st [.home] (sh.drop (s.i+1)) m2 kn D1=Rr
    rw[h2]
    exact hs2
 rel s s' A B l r0 r1 r r' hA hB h:=by
  obtain⟨h1,h2,h3,h4,h5⟩:=h
  refine⟨h1,h2,fun k q=>(h3 k q).imp id (fun z=>by simpa using z),by simpa using h4,fun k cs t fr nk hk'=>?_⟩
  have e1:(A.putObj l (.loop r)).heap[k]?=some (.cells cs t fr):=(World.putObj_heap_other (by rintro rfl;rw[hA] at hk';cases hk')).trans hk'
  have e2:=h5 k cs t fr nk e1
  exact(World.putObj_heap_other (by rintro rfl;rw[hB] at e2;cases e2)).trans e2
 word s A h:=h.sem.1
 did s A B D1 F1 h hD e hsz hkp hf:=by
  obtain⟨_,b,l,m,hbl,hm,hs⟩:=h.sem
  have hw:∀b' l',sh[s.i]?=some (b',l')→dN kn D1 b'=dN kn s.D b':=fun b' l' hb'=>xS H L0 kn s.D () D1 hk hD e b' (hlo _ (List.mem_of_getElem? hb'))
  refine⟨⟨s.i,s.P,D1,F1,s.a⟩,⟨rfl,hw,hf,hsz,fun k cs t fr nk hk'=>hkp k _ nk hk'⟩,rfl,rfl,h.went (fun k cs t fr nk hk'=>hkp k _ nk hk') hf ⟨m,fun b' l' hb'=>?_,?_⟩⟩
  ·have e2:mea kn D1 b' l'=mea kn s.D b' l':=by unfold mea;rw[hw b' l' hb']
   show mea kn D1 b' l'<m
   rw[e2]
   have hb2:sh[s.i]?=some (b',l'):=hb'
   rw[hbl] at hb2
   cases hb2
   exact hm
  ·show Ak c.us c.pg c.st [.home] (sh.drop s.i) m kn D1=Rr
   rw[si hbl]
   exact(aj e).symm.trans hs
 nd s A a h e:=by
  obtain⟨_,b,l,m,hbl,hm,hs⟩:=h.sem
  exact hs.symm.trans (ag e)
theorem xT {c:Cfg}(R:c.Ok){n:Nat}(H:cF c.pg c.st n)(hn:n≤10000){bt:Nat}(F:Nat→Prop)(p:Nat)(kn:Int→Option Int)(D:List KV)(hk:OkK kn)(w:World)(vb fb sb cap:Nat)(cur:Array Value)(sh:List (Int×Int))(fr:Nat×Nat)
 (hv:aF w F p kn D) (hD:cI n D) (hs:dh bt w) (nF0:¬F 0) (nFb:¬F bt) (hsh:sh.length≤1000) (hcap:sh.length≤cap) (hok:∀s∈sh,eQ s.1 s.2 n) (hlo:∀s∈sh,a8 c.st c.pg+62≤s.1) (hcur:∀i b l,sh[i]?=some (b,l)→cur[i * 2]?=some (.int .i64 b)∧cur[i * 2+1]?=some (.int .i64 l))
 (bv:w.heap[vb]?=some (.cells #[.pointer (some ⟨p,0,none⟩)] 43 (0,0))) (bf:w.heap[fb]?=some (.cells #[.slice (some ⟨sb,0,none⟩) sh.length cap] 93 (0,0))) (bs:w.heap[sb]?=some (.cells cur 96 fr)) (nf:¬F vb∧¬F fb∧¬F sb)
 (wb capw:Nat) (hwb:wb<w.heap.size∧¬F wb) (hwy:∃v,w.cell? ⟨wb,0,none⟩=some v∧ut c p w (fun b=>F b∨False) .home v):
 Calls Tryz.prog 47 #[.func (.func 88) #[] #[.pointer (some ⟨fb,0,none⟩),.pointer (some ⟨vb,0,none⟩)],.slice (some ⟨wb,0,none⟩) 1 capw] w (aI w F p kn (fun _:Unit=> .tuple #[]) (fj c.us c.pg c.st [.home] sh kn D)):=by
 have L0:=Nq H
 have h4:=H.pg1;have h1:=H.st1
 have hpos:0≤a8 c.st c.pg+62:=by unfold a8 aY aL;omega
 obtain⟨m2,q1,q2⟩:=rL c.us c.pg c.st [.home] sh
 refine(DF R H hn F (fun _=>False) p kn hk (wy:=[.home]) (fun y hy=>by rw[List.mem_singleton.1 hy];trivial) (by simp) (enters_of Tryz.func88 (by kernel_rfl) rfl) ⟨0,fun _=> [],D,F,0⟩ w (Jc H L0 F p kn hk w vb fb sb cap cur sh hok (fun s hs'=>by have:=hlo s hs';omega) (fj c.us c.pg c.st [.home] sh kn D) hv.lt) (Ag 2 (by omega) p vb fb sb cap cur sh hsh hcap hok hcur kn hk _ w rfl) rfl hv hD
  ⟨bv,bf,⟨fr,bs⟩,nf,m2,fun b l hb=>?_,by show Ak c.us c.pg c.st [.home] (sh.drop 0) m2 kn D=_;rw[List.drop_zero,q2]⟩ hs nF0 nFb (fun j q=>q.elim) (fun q=>q) (fun q=>q) wb capw ⟨hwb.1,hwb.2,fun q=>q⟩ (fun j hj=>?_)).mono ?_
 ·have hb2:sh[0]?=some (b,l):=hb
  rw[q1 (b,l) hb2]
  have ml:mea kn D b l≤l.toNat:=I4 kn D (b:=b) (l:=l) (hok (b,l) (List.mem_of_getElem? hb2)).l0
  show mea kn D b l<l.toNat+1
  omega
 ·have hj1:j<1:=hj
  obtain rfl:j=0:=by omega
  exact hwy
 ·have tm:∀ {w'},Turned (fun b=>F b∨False) w w'→Turned F w w':=fun t=>t.mono (fun k _ q=>q.resolve_right id)
  rintro e w' (⟨a,hN,rfl,hd,ht⟩|⟨s,rfl,hv',ht,hf,hi,hz⟩)
  ·have hN:fj c.us c.pg c.st [.home] sh kn D=.need a:=hN
   exact aI.need hN ⟨rfl,hd,tm ht⟩
  ·have hS:fj c.us c.pg c.st [.home] sh kn D=.ok () s.D:=hz.sem
   exact aI.did hS ⟨rfl,s.F,hv',tm ht,hf⟩
theorem Cs:∃i:TypeInfo,Tryz.prog.info? 96=some i∧i.zero=some (.agg #[.int .i64 0,.int .i64 0])∧i.size=2∧i.bytes=16:=by
 have h1:(Tryz.prog.info? 96).map (·.size)=some 2:=by kernel_rfl
 have h2:(Tryz.prog.info? 96).bind (·.zero)=some (.agg #[.int .i64 0,.int .i64 0]):=by kernel_rfl
 have h3:(Tryz.prog.info? 96).map (·.bytes)=some 16:=by kernel_rfl
 cases q:Tryz.prog.info? 96 with
 |none=>rw[q] at h1;simp at h1
 |some i=>rw[q] at h1 h2 h3;exact⟨i,rfl,by simpa using h2,by simpa using h1,by simpa using h3⟩
def nW (base:Nat)(w:World)(v:Value)(ps:List (Int×Int)):Prop:=w.ownsRow base 96 2 v ps.length (dZ ps)
theorem nW.nil (base:Nat)(w:World):nW base w (.slice none 0 0) []:=World.ownsRow_nil w base _ 2
theorem nW.more {base:Nat}{w w':World}{v:Value}{ps:List (Int×Int)}(h:nW base w v ps)(hW:ae w w'):nW base w' v ps:=lf h hW (fun _ _ q=>q)
theorem nW.reads {base:Nat}{w:World}{v:Value}{ps:List (Int×Int)}(h:nW base w v ps)(hp:ps≠ []):∃sb cap cur,v=.slice (some ⟨sb,0,none⟩) ps.length cap∧w.heap[sb]?=some (.cells cur 96 (0,0))∧base≤sb∧ps.length≤cap∧∀i b l,ps[i]?=some (b,l)→cur[i * 2]?=some (.int .i64 b)∧cur[i * 2+1]?=some (.int .i64 l):=by
 rcases h.2 with⟨rfl,h0⟩|⟨g,cap,cur,rfl,hb,hg,hn,_,hs,ht⟩
 ·exact absurd (List.length_eq_zero_iff.1 h0) hp
 ·refine⟨g,cap,cur,rfl,hg,hb,hn,fun i b l hi=>?_⟩
  have hcell:∀j u,(dZ ps)[j]?=some u→cur[j]?=some u:=fun j u hj=>by
   have hj':j<ps.length * 2:=by have:=(List.getElem?_eq_some_iff.1 hj).1;rw[kh] at this;exact this
   have h1:(cur.toList.take (ps.length * 2))[j]?=some u:=by rw[ht];exact hj
   rw[List.getElem?_take,if_pos (by omega)] at h1
   simpa using h1
  obtain⟨p1,p2⟩:=ki ps i (b,l) hi
  exact⟨hcell _ _ p1,hcell _ _ p2⟩
theorem pZ {ops:Array Oper}{rest:List Oper}{o:Oper}{a:Act}{Q:Exit→Act→World→Prop}{w wa:World}{v:Value}{ps:List (Int×Int)}(p q:Int)(hgd:o.guard=none)(s x:Operand)
 (ho:o.op=.call { callee:= .builtin .append,args:= #[s,x],argTypes:= #[93,93] })
 (hs:a.eval s=v) (hn:nW wa.heap.size w v ps) (hW:ae wa w) (hl:ps.length≤1000000)
 (hx:a.eval x=.slice (some ⟨w.heap.size,0,none⟩) 1 1)
 (h:∀g cap w',nW wa.heap.size w' (.slice (some ⟨g,0,none⟩) (ps.length+1) cap) (ps++ [(p,q)])→ae wa w'→wpList Tryz.prog ops Q rest (a.put o.dst (.slice (some ⟨g,0,none⟩) (ps.length+1) cap)) w'):wpList Tryz.prog ops Q (o::rest) a (w.alloc (.cells #[.int .i64 p,.int .i64 q] 96)):=by
 obtain⟨i,i1,i2,i3,i4⟩:=Cs
 have hn':=hn.more ((ae.refl w).alloc (.cells #[.int .i64 p,.int .i64 q] 96))
 have hB:=bz w (.cells #[.int .i64 p,.int .i64 q] 96)
 refine wpList_append_lies _ hgd s x 93 ho wa.heap.size 96 i _ 2 16 Tryz.underlying93 i1 i2 i3 i4 rfl (by omega) v ps.length _ hs hn' ⟨w.heap.size,0,none⟩ 1 1 [.int .i64 p,.int .i64 q] hx (by simp)
  (fun j u hu=>World.news_of_block hB j u (by simpa using hu)) (by intro u hu;simp at hu;rcases hu with rfl|rfl<;>rfl) (by omega) (by simp only[maxLen];omega) (by omega) (by have:=hW.size;simp;omega) _ rfl ?_
 intro g cap w1 hown hgrow _ _
 refine h g cap w1 ?_ (iY (hW.alloc _) hn' hgrow)
 unfold nW
 rw[List.length_append,jy]
 exact hown
theorem mY (S:Fam):∀m,(famL S m).length=m
 | 0=>rfl
 |m+1=>by show(famL S m++ [_]).length=_;rw[List.length_append,mY S m];rfl
theorem Ct {d:Cfg}(R:d.Ok)(w:World):Calls Tryz.prog 45 #[.agg d.arr] w fun e w'=>∃v,e=.returned v∧nW w.heap.size w' v (famL (famC d) (famC d).m)∧ae w w':=by
 obtain⟨w1,e1,b1,m1,s1⟩:=bg w (.cells d.arr 28)
 have HR:=hQQ R
 have L1:=hQQ b1
 have MM:=hQQ m1
 have cp1:=R.cp1
 have cp2:=R.cp2
 have hf:=IP d
 clear b1 m1 R
 go_enter Tryz.func45,Tryz.ntmps45
 go_wp2_with (first
  |(refine aM rfl rfl rfl L1.o (by kernel_rfl) ?_)
  |(go_at_call 20;refine(dw HR.o w1).mono ?_;rintro e w2 ⟨rfl,h2⟩;have M2:=hQQ h2;clear h2))
 clear hf
 go_loopw [3,10] (fun v i wr=>∃k:Nat,i=.int .i64 (k:Int)∧(k:Int)≤d.cp∧nW w1.heap.size wr v (famL (famC d) (5 * k))∧ae w1 wr) (fun _ i _=>(d.cp-intOf i).toNat)
 case atStart=>exact⟨0,rfl,by omega,nW.nil _ _,M2.o⟩
 case round =>
  obtain⟨k,rfl,hk,hrow,hm⟩:=hrel
  have RW0:=hQQ hrow
  have MW0:=hQQ hm
  clear hrow hm
  by_cases hlt:(k:Int)<d.cp
  ·have d1:decide ((k:Int)<d.cp)=true:=by simp[hlt]
   have q3:IntKind.i64.wrap ((k:Int)+1)=(k:Int)+1:=aB (by omega) (by omega)
   go_wp2_with fail
   go_loopw [3,13] (fun v i wr=>∃c:Nat,i=.int .i64 (c:Int)∧c≤5∧nW w1.heap.size wr v (famL (famC d) (5 * k+c))∧ae w1 wr) (fun _ i _=>5-(intOf i).toNat)
   case atStart=>exact⟨0,rfl,by omega,RW0.o,MW0.o⟩
   case round =>
    obtain⟨c,rfl,hc,hrow,hm⟩:=hrel
    have RW1:=hQQ hrow
    have MW1:=hQQ hm
    clear hrow hm
    by_cases hc5:c<5
    ·have d2:decide ((c:Int)<5)=true:=by simp;omega
     have q4:IntKind.i64.wrap ((c:Int)+1)=(c:Int)+1:=aB (by omega) (by omega)
     obtain⟨f1,f2,f3,_⟩:=gK (d:=d) (u:=k) (c:=c) hlt hc5
     have HE:Hq (famL (famC d) (5 * k+(c+1))=famL (famC d) (5 * k+c)++ [(caV d k c,d.ca)]):=hQQ (by
      show famL (famC d) (5 * k+c)++ [((famC d).b (5 * k+c),(famC d).l (5 * k+c))]=_
      rw[f2,f3];rfl)
     have HL:Hq ((famL (famC d) (5 * k+c)).length≤1000000):=hQQ (by rw[mY];omega)
     clear f1 f2 f3
     go_wp2_with (first
      |(refine aM rfl rfl rfl (MW1.o.block L1.o) (by kernel_rfl) ?_)
      |(go_at_call 74;refine(xF HR.o k c _).mono ?_;rintro e w4 ⟨rfl,h4⟩;have M4:=hQQ (MW1.o.trans h4);have R4:=hQQ (RW1.o.more h4);clear h4)
      |(at_builtin;refine pZ (wa:=w1) (caV d k c) d.ca rfl _ _ rfl rfl R4.o M4.o HL.o rfl ?_;intro g5 cp5 w5 h5 m5;have R5:=hQQ h5;have M5:=hQQ m5;clear h5 m5))
     go_roundw
     case rel=>exact⟨c+1,by go_num,by omega,by rw[HE.o];exact R5.o,M5.o⟩
     case measure=>simp[intOf];omega
    ·obtain rfl:c=5:=by omega
     have d2:decide (((5:Nat):Int)<5)=false:=by simp
     go_wp2_with fail
     go_roundw
     case rel=>exact⟨k+1,by go_num,by omega,RW1.o,MW1.o⟩
     case measure=>simp[intOf];omega
  ·have hke:(k:Int)=d.cp:=by omega
   have d1:decide ((k:Int)<d.cp)=false:=by simp;omega
   have HKE:=hQQ hke
   clear hke
   go_wp2_with fail
   go_loopw [3,25] (fun v i wr=>∃c:Nat,i=.int .i64 (c:Int)∧c≤5∧nW w1.heap.size wr v (famL (famC d) (5 * k+c))∧ae w1 wr) (fun _ i _=>5-(intOf i).toNat)
   case atStart=>exact⟨0,rfl,by omega,RW0.o,MW0.o⟩
   case round =>
    obtain⟨c,rfl,hc,hrow,hm⟩:=hrel
    have RW1:=hQQ hrow
    have MW1:=hQQ hm
    clear hrow hm
    by_cases hc5:c<5
    ·have d2:decide ((c:Int)<5)=true:=by simp;omega
     have q4:IntKind.i64.wrap ((c:Int)+1)=(c:Int)+1:=aB (by omega) (by omega)
     obtain⟨f1,f2,f3,_⟩:=j5 (d:=d) (c:=c) (by omega) hc5
     have HE:Hq (famL (famC d) (5 * k+(c+1))=famL (famC d) (5 * k+c)++ [(biV d c,d.bi)]):=hQQ (by
      have e:k=d.cp.toNat:=by have:=HKE.o;omega
      show famL (famC d) (5 * k+c)++ [((famC d).b (5 * k+c),(famC d).l (5 * k+c))]=_
      subst e
      rw[f2,f3];rfl)
     have HL:Hq ((famL (famC d) (5 * k+c)).length≤1000000):=hQQ (by rw[mY];omega)
     clear f1 f2 f3
     go_wp2_with (first
      |(refine aM rfl rfl rfl (MW1.o.block L1.o) (by kernel_rfl) ?_)
      |(go_at_call 75;refine(IR HR.o c _).mono ?_;rintro e w4 ⟨rfl,h4⟩;have M4:=hQQ (MW1.o.trans h4);have R4:=hQQ (RW1.o.more h4);clear h4)
      |(at_builtin;refine pZ (wa:=w1) (biV d c) d.bi rfl _ _ rfl rfl R4.o M4.o HL.o rfl ?_;intro g5 cp5 w5 h5 m5;have R5:=hQQ h5;have M5:=hQQ m5;clear h5 m5))
     go_roundw
     case rel=>exact⟨c+1,by go_num,by omega,by rw[HE.o];exact R5.o,M5.o⟩
     case measure=>simp[intOf];omega
    ·obtain rfl:c=5:=by omega
     have d2:decide (((5:Nat):Int)<5)=false:=by simp
     have hmm:(famC d).m=5 * k+5:=by
      have e:k=d.cp.toNat:=by have:=HKE.o;omega
      rw[e];rfl
     have FIN:Hq (nW w.heap.size wr u3 (famL (famC d) (famC d).m)∧ae w wr):=hQQ ⟨by rw[hmm];exact oa RW1.o (by omega),MM.o.trans MW1.o⟩
     clear hmm
     go_wp2_with fail
     refine bodyPost_ret (v:=u3) (by simp[results,Tryz.results45,go_sem]) rfl ⟨u3,rfl,FIN.o.1,FIN.o.2⟩
theorem Fz {d:Cfg}(R:d.Ok)(w:World):Calls Tryz.prog 45 #[.agg d.arr] w fun e w'=>∃sb cap cur,e=.returned (.slice (some ⟨sb,0,none⟩) (famC d).m cap)∧w'.heap[sb]?=some (.cells cur 96 (0,0))∧(∀i b l,(famL (famC d) (famC d).m)[i]?=some (b,l)→cur[i * 2]?=some (.int .i64 b)∧cur[i * 2+1]?=some (.int .i64 l))∧(w.heap.size≤sb∧(famC d).m≤cap)∧ae w w':=by
 refine(Ct R w).mono ?_
 rintro e w' ⟨v,rfl,hr,hm⟩
 have hl:=mY (famC d) (famC d).m
 obtain⟨sb,cap,cur,rfl,h1,h2,h3,h4⟩:=hr.reads (fun q=>by rw[q] at hl;have e:(famC d).m=5 * d.cp.toNat+5:=rfl;simp at hl;omega)
 rw[hl] at h3
 refine⟨sb,cap,cur,by rw[hl],h1,h4,⟨h2,h3⟩,hm⟩
theorem Lf {d:Cfg}(R:d.Ok){n:Nat}(H:cF d.pg d.st n)(hw:(n:Int)=d.words)(hn:n≤10000){bt:Nat}(F:Nat→Prop)(p:Nat)(kn:Int→Option Int)(D:List KV)(w:World)
 (hv:aF w F p kn D) (hk:OkK kn) (hD:cI n D) (hs:dh bt w) (nF0:¬F 0) (nFb:¬F bt):
 Calls Tryz.prog 18 #[.pointer (some ⟨p,0,none⟩),.agg d.arr] w (aI w F p kn (fun _:Unit=> .tuple #[]) (drP d kn D)):=by
 obtain⟨Rr,hRr⟩:∃Rr,drP d kn D=Rr:=⟨_,rfl⟩
 rw[hRr]
 obtain⟨w1,e1,b0,m1,s1⟩:=bg w (.cells d.arr 28)
 have MM:=hQQ m1
 have KC:Hq (∀W,ae w1 W→W.heap[w.heap.size]?=some (.cells d.arr 28 (0,0))):=hQQ fun W hW=>hW.block b0
 have HR:=hQQ R
 have HH:=hQQ H
 have HK:=hQQ hk
 have HRR:=hQQ hRr
 clear b0 m1 R H hk hRr
 go_enter Tryz.func18,Tryz.ntmps18
 go_wp2_with fail
 refine aO (fun W=>W.heap[w.heap.size]?=some (.cells d.arr 28 (0,0))) (by kernel_rfl) ?_
 change dg _ _ _ _ _ _ _ _ (w1.drewN 1)
 have MR:Hq (ae w1 (w1.drewN 1)):=hQQ ((ae.refl w1).drewN 1)
 generalize w1.drewN 1=wq at MR⊢
 generalize hA:Act.mk _ _=A
 have HF:AG 13 A [(0,.pointer (some ⟨p,0,none⟩)),(3,.pointer (some ⟨w.heap.size,0,none⟩))]:=by
  rw[←hA];try simp only[pts,List.foldl]
  refine⟨⟨Nat.le_of_ble_eq_true rfl,rfl⟩,?_⟩
  intro z hz;simp only[List.mem_cons,List.not_mem_nil,or_false] at hz;rcases hz with rfl|rfl<;>rfl
 refine bL (fun aa W=>∃(u4 u5 u8 u9 u6 u7 u10 u11 u12:Value),aa=(pts A [(4,u4),(5,u5),(8,u8),(9,u9),(6,u6),(7,u7),(10,u10),(11,u11),(12,u12)])∧aI w F p kn (fun _:Unit=> .tuple #[]) Rr (.returned (.tuple #[])) W) (fun W=>aI w F p kn (fun _:Unit=> .tuple #[]) Rr (.panicked (bB p)) W) (bB p) (fun a W hd h=>⟨hd,h⟩) (fun _ _ _ _ _ h=>h) ?_ ?_
 ·skip
  rintro a9 wa ⟨u4,u5,u8,u9,u6,u7,u10,u11,u12,rfl,hfin⟩
  rw[←hA];try simp only[pts,List.foldl]
  have FN:=hQQ hfin
  clear HF hA MR hfin
  go_simp
  go_wp2_with fail
  go_end0
  exact FN.o
 intro QQ FINE FIND FINQ
 clear hA
 refine tqM 0 4 0 rfl (.inl rfl) rfl (by kernel_rfl) FINQ (KC.o _ MR.o) HF fun A β1 HF=>?_
 refine tqC 1 5 (.agg d.arr) (by kernel_rfl) FINQ (KC.o _ MR.o) HF (by exact aD (ab rfl) 28 _ rfl w.heap.size (HF.get 2 rfl) 28 _ _ _ (fun W hW=>hW) Tryz.underlying28 rfl (by kernel_rfl)) fun A β2 HF=>?_
 refine tqM 4 8 2 rfl (.inl rfl) rfl (by kernel_rfl) FINQ (KC.o _ MR.o) HF fun A β3 HF=>?_
 refine tqC 5 9 (.agg d.arr) (by kernel_rfl) FINQ (KC.o _ MR.o) HF (by exact aD (ab rfl) 28 _ rfl w.heap.size (HF.get 4 rfl) 28 _ _ _ (fun W hW=>hW) Tryz.underlying28 rfl (by kernel_rfl)) fun A β4 HF=>?_
 refine tqO 2 6 (by kernel_rfl) HF fun K hK=>?_
 refine nr (v0:=.agg d.arr) rfl (HF.get 2 rfl) (enters_of Tryz.func45 (by kernel_rfl) rfl) ?_
 refine(Fz HR.o wq).mono ?_
 rintro e w7 ⟨sb,cap,cur,rfl,hcb,hcu,⟨hsb,hcap⟩,h7⟩
 have CB:=hQQ hcb
 have CU:=hQQ hcu
 have M7:=hQQ (MR.o.trans h7)
 clear h7 hcb hcu
 refine hK _ _ (KC.o _ M7.o) fun A β5 HF=>?_
 clear hK K
 refine tqO 3 7 (by kernel_rfl) HF fun K hK=>?_
 refine bO (v0:=.pointer (some ⟨p,0,none⟩)) (v1:=.slice (some ⟨sb,0,none⟩) (famC d).m cap) rfl (HF.get 4 rfl) (HF.get 0 rfl) (enters_of Tryz.func50 (by kernel_rfl) rfl) ?_
 refine(ur p (some ⟨sb,0,none⟩) (famC d).m cap w7).mono ?_
 rintro e w8 ⟨rfl,rfl⟩
 obtain⟨w8,e8,b80,b81,h8,s8⟩:=ij w7 (.cells #[.pointer (some ⟨p,0,none⟩)] 43) (.cells #[.slice (some ⟨sb,0,none⟩) (famC d).m cap] 93)
 rw[e8]
 have B80:=hQQ b80
 have B81:=hQQ b81
 have N8:=hQQ h8
 have M8:=hQQ (M7.o.trans h8)
 clear h8 b80 b81 e8 s8
 refine hK _ _ (KC.o _ M8.o) fun A β6 HF=>?_
 clear hK K
 refine tqO 6 10 (by kernel_rfl) HF fun K hK=>?_
 refine bO (v0:=.pointer (some ⟨p,0,none⟩)) (v1:=.agg d.arr) rfl (HF.get 3 rfl) (HF.get 2 rfl) (enters_of Tryz.func49 (by kernel_rfl) rfl) ?_
 refine(Cb p d w8).mono ?_
 rintro e w9 ⟨rfl,rfl⟩
 obtain⟨w9,e1,b0,b1,h1,s1⟩:=ij w8 (.cells #[.pointer (some ⟨p,0,none⟩)] 43) (.cells d.arr 28)
 rw[e1]
 have V9:=hQQ b0
 have S9:=hQQ b1
 have N9:=hQQ h1
 have M9:=hQQ (M8.o.trans h1)
 clear h1 b0 b1 e1 s1
 refine hK _ _ (KC.o _ M9.o) fun A β7 HF=>?_
 clear hK K
 refine tqO 7 11 (by kernel_rfl) HF fun K hK=>?_
 refine uH rfl (HF.get 0 rfl) ?_
 obtain⟨w10,e1,b10,h10,s10⟩:=bg w9 (.cells #[.func (.func 86) #[] #[.pointer (some ⟨w8.heap.size,0,none⟩),.pointer (some ⟨w8.heap.size+1,0,none⟩)]] 103)
 rw[e1]
 have B10:=hQQ b10
 have N10:=hQQ h10
 have M10:=hQQ (M9.o.trans h10)
 clear h10 b10 e1 s10
 refine hK _ _ (KC.o _ M10.o) fun A β8 HF=>?_
 clear hK K
 refine tqO 8 12 (by kernel_rfl) HF fun K hK=>?_
 refine bO (v0:=.func (.func 88) #[] #[.pointer (some ⟨w7.heap.size+1,0,none⟩),.pointer (some ⟨w7.heap.size,0,none⟩)]) (v1:=.slice (some ⟨w9.heap.size,0,none⟩) 1 1) rfl (HF.get 2 rfl) (HF.get 0 rfl) (enters_of Tryz.func47 (by kernel_rfl) rfl) ?_
 have Fq9:∀q,F q→q<w.heap.size:=hv.lt
 have z1:w.heap.size+1≤w1.heap.size:=by omega
 have zq:w1.heap.size≤wq.heap.size:=MR.o.size
 have z7:wq.heap.size≤w7.heap.size:=by have:=ac CB.o;omega
 have z8:w7.heap.size+2≤w8.heap.size:=by have:=ac B81.o;omega
 have z9:w8.heap.size+2≤w9.heap.size:=by have:=ac S9.o;omega
 have z10:w9.heap.size≤w10.heap.size:=N10.o.size
 have n8:ae w8 w10:=N9.o.trans N10.o
 have n7:ae w7 w10:=N8.o.trans n8
 have M0:ae w w10:=MM.o.trans M10.o
 have hlen:=mY (famC d) (famC d).m
 have hm45:(famC d).m≤1000:=by
  have e:(famC d).m=5 * d.cp.toNat+5:=rfl
  have:=HR.o.cp2
  omega
 have LV:=xT HR.o HH.o hn F p kn D HK.o w10 w7.heap.size (w7.heap.size+1) sb cap cur (famL (famC d) (famC d).m) (0,0) (hv.more M0) hD (hs.more M0) nF0 nFb (by omega) (by omega) (Ck HR.o HH.o hw hn)
  (fun s h=>by obtain⟨i,hi,rfl⟩:=zR _ h;exact((mR HR.o hw).lo i hi).1) CU.o (n8.block B80.o) (by rw[hlen];exact n8.block B81.o) (n7.block CB.o)
  ⟨fun q=>by have:=Fq9 _ q;omega,fun q=>by have:=Fq9 _ q;omega,fun q=>by have:=Fq9 _ q;omega⟩ w9.heap.size 1 ⟨ac B10.o,fun q=>by have:=Fq9 _ q;omega⟩
  ⟨_,by simp[World.cell?,B10.o],_,_,rfl,N10.o.block V9.o,N10.o.block S9.o,fun q=>by rcases q with q|q;have:=Fq9 _ q;omega;exact q,fun q=>by rcases q with q|q;have:=Fq9 _ q;omega;exact q⟩
 refine LV.mono ?_
 intro e w15 he
 have FN:=hQQ (show aI w F p kn (fun _:Unit=> .tuple #[]) Rr e w15 by rw[←HRR.o];exact he.after M0)
 rcases hE:fj d.us d.pg d.st [.home] (famL (famC d) (famC d).m) kn D with a'|⟨x15,D15⟩
 ·rw[hE] at he
  obtain⟨rfl,hd,ht⟩:=he
  exact FIND _ _ HF.1.2 FN.o
 rw[hE] at he
 obtain⟨rfl,F15,hv15,ht15,hf15⟩:=he
 have L15:Hq (w15.heap[w.heap.size]?=some (.cells d.arr 28 (0,0))):=hQQ ((ht15.block w.heap.size (by omega) (fun q=>by have:=Fq9 _ q;omega)).trans (KC.o _ M10.o))
 clear LV hE hv15 ht15 hf15 Fq9 M0 z1 zq z7 z8 z9 z10 n8 n7 hlen hm45
 refine hK _ _ L15.o fun A β9 HF=>?_
 clear hK K
 exact bU (by kernel_rfl) (FINE _ _ ⟨(.pointer (some ⟨p,0,none⟩)),(.agg d.arr),(.pointer (some ⟨p,0,none⟩)),(.agg d.arr),(.slice (some ⟨sb,0,none⟩) (famC d).m cap),(.func (.func 88) #[] #[.pointer (some ⟨w7.heap.size+1,0,none⟩),.pointer (some ⟨w7.heap.size,0,none⟩)]),(.func (.func 86) #[] #[.pointer (some ⟨w8.heap.size,0,none⟩),.pointer (some ⟨w8.heap.size+1,0,none⟩)]),(.slice (some ⟨w9.heap.size,0,none⟩) 1 1),(.tuple #[]),by rw[← β9,← β8,← β7,← β6,← β5,← β4,← β3,← β2,← β1]<;>rfl,FN.o⟩)
def OM {d:Cfg}{n bt:Nat}(R:d.Ok)(H:cF d.pg d.st n)(hw:(n:Int)=d.words)(hn:n≤10000):o8 d n bt where
 tkP:=tkP d
 gvP:=gvP d
 flP:=flP d
 drP:=drP d
 tkS:=I2 R H hw hn
 gvS:=IX R H hw hn
 flS:=IY R H hw hn
 drS:=I0 R H hw hn
 tkG:=K6 R H hw hn
 gvG:=KO R H hw hn
 flG:=KR R H hw hn
 drG:=KZ R H hw hn
 tkF:=K7 R H hw hn
 gvF:=KQ R H hw hn
 flF:=KY R H hw hn
 drF:=K5 R H hw hn
 tkC F N p kn D w u c f P hv hk hD hs nF0 nFb hN pu hP:=Np R H hw hn F N p kn D w u c f P hv hk hD hs nF0 nFb hN pu hP
 gvC F N p kn D w u c a f P hv hk hD hs nF0 nFb hN pu hP ha:=Nn R H hw hn F N p kn D w u c a f P hv hk hD hs nF0 nFb hN pu hP ha
 flC F N p kn D w f P hv hk hD hs nF0 nFb hN pu hP:=Le R H hw hn F N p kn D w f P hv hk hD hs nF0 nFb hN pu hP
 drC F p kn D w hv hk hD hs nF0 nFb:=Lf R H hw hn F p kn D w hv hk hD hs nF0 nFb
section
variable {P:Program}
theorem qc (w:World)(g o:Nat)(t ty:TypeId)(cur cells:Array Value)(hg:w.heap[g]?=some (.cells cur t (0,0)))(hs:o+cells.size≤cur.size)(hi:(P.info? ty).map (·.size)=some cells.size)(h1:cells.all (·.oneCell')=true):
 (storeVar ty ⟨g,o,none⟩ (.agg cells)).run P w=.ok () (w.setRow g (cur.toList.take o++cells.toList++cur.toList.drop (o+cells.size)).toArray):=by
 have:=run_storeCells_at (P:=P) g o t cells.toList 0 cur w hg (by simpa using hs) (fun v hv=>(Array.all_eq_true_iff_forall_mem.1 h1) v (by simpa using hv))
 cases hq:P.info? ty with
 |none=>simp[hq] at hi
 |some i =>
  have hs:cells.size=i.size:=by simp[hq] at hi;omega
  simp only[Nat.add_zero,Array.length_toList] at this
  simp[storeVar,sizeOf,typeInfo,hq,Value.cells,hs]
  simpa [hs] using this
theorem ku {o:Oper}{a:Act}{w:World}{K:Act→World→Prop}{Q:Exit→Act→World→Prop}(ty:TypeId)(x y:Operand)(ho:o.op=.store ty x y)
 (g off:Nat) (cells:Array Value) (hx:a.eval x=.pointer (some ⟨g,off,none⟩)) (hy:a.eval y=.agg cells)
 (t:TypeId) (cur:Array Value) (hg:w.heap[g]?=some (.cells cur t (0,0))) (hs:off+cells.size≤cur.size) (hi:(P.info? ty).map (·.size)=some cells.size) (h1:cells.all (·.oneCell')=true)
 (h:K (a.put o.dst undef) (w.setRow g (cur.toList.take off++cells.toList++cur.toList.drop (off+cells.size)).toArray)):o.wp P a w K Q:=by
 unfold Oper.wp execOp
 simp only[ho,hx,hy,Instr.storeAt,Instr.sureAddr,Sem.run_bind,Sem.run_pure,Result.andThen_ok,qc w g off t ty cur cells hg hs hi h1]
 exact h
theorem ia {ops:Array Oper}{rest:List Oper}{o:Oper}{a:Act}{w:World}{Q:Exit→Act→World→Prop}(hgd:o.guard=none)(ty:TypeId)(x y:Operand)(ho:o.op=.store ty x y)
 (g off:Nat) (cells:Array Value) (hx:a.eval x=.pointer (some ⟨g,off,none⟩)) (hy:a.eval y=.agg cells)
 (t:TypeId) (cur:Array Value) (hg:w.heap[g]?=some (.cells cur t (0,0))) (hs:off+cells.size≤cur.size) (hi:(P.info? ty).map (·.size)=some cells.size) (h1:cells.all (·.oneCell')=true)
 (h:wpList P ops Q rest (a.put o.dst undef) (w.setRow g (cur.toList.take off++cells.toList++cur.toList.drop (off+cells.size)).toArray)):wpList P ops Q (o::rest) a w :=
 wpList_plain hgd fun _ hK=>ku ty x y ho g off cells hx hy t cur hg hs hi h1 (hK _ _ h)
end
def stL (pre:List Value)(fs:Nat→Nat→Value)(o ok:Value):List Value:=pre++((puA (fs 0)).toList++((puA (fs 1)).toList++ [o,ok]))
def StB (w:World)(g:Nat)(pre:List Value)(fs:Nat→Nat→Value)(o ok:Value):Prop:=pre.length=25∧w.heap[g]?=some (.cells (stL pre fs o ok).toArray 37 (0,0))
def nX (fs:Nat→Nat→Value)(n:Nat)(f:Nat→Value):Nat→Nat→Value:=fun k=>if k=n then f else fs k
theorem nQ (f:Nat→Value):(puA f).toList.length=5:=rfl
theorem nR {pre:List Value}(h:pre.length=25)(fs:Nat→Nat→Value)(o ok:Value):(stL pre fs o ok).length=37:=by simp[stL,h,puA]
namespace StB
variable {w w':World}{g:Nat}{pre:List Value}{fs:Nat→Nat→Value}{o ok:Value}
theorem keep {S:Nat→Prop}(h:StB w g pre fs o ok)(t:Turned S w w')(n:¬S g):StB w' g pre fs o ok:=⟨h.1,(t.block g (ac h.2) n).trans h.2⟩
theorem more (h:StB w g pre fs o ok)(m:ae w w'):StB w' g pre fs o ok:=h.keep m (fun q=>q)
theorem lt (h:StB w g pre fs o ok):g<w.heap.size:=ac h.2
theorem row (h:StB w g pre fs o ok):w.cell? ⟨g,35,none⟩=some o:=by
 rw[cell_of_row w g 35 _ _ _ h.2]
 simp[stL,puA,h.1,List.getElem?_append]
theorem froz (h:StB w g pre fs o ok)(i:Nat):w.frozen? ⟨g,i,none⟩=false:=frozen_of_row w g i _ _ h.2
theorem range (h:StB w g pre fs o ok){n:Nat}(hn:n<2):w.rangeAt g (25+n * 5) (puA (fs n)).toList:=fun j v hv=>by
 have hj:j<5:=(List.getElem?_eq_some_iff.1 hv).1
 have hl:=h.1
 rw[cell_of_row w g _ _ _ _ h.2]
 simp only[List.getElem?_toArray]
 unfold stL
 rw[List.getElem?_append_right (by omega),h.1]
 match n,hn with
 | 0,_ =>
   rw[show 25+0 * 5+j-25=j by omega,List.getElem?_append_left (by rw[nQ];omega)]
   exact hv
 | 1,_ =>
   rw[List.getElem?_append_right (by rw[nQ];omega),nQ,show 25+1 * 5+j-25-5=j by omega,List.getElem?_append_left (by rw[nQ];omega)]
   exact hv
theorem put (h:StB w g pre fs o ok){n:Nat}(hn:n<2)(f:Nat→Value)(cur:Array Value)(hc:cur=(stL pre fs o ok).toArray):StB (w.setRow g (cur.toList.take (25+n * 5)++(puA f).toList++cur.toList.drop (25+n * 5+(puA f).size)).toArray) g pre (nX fs n f) o ok:=by
 refine⟨h.1,?_⟩
 rw[setRow_heap _ _ _ _ _ _ h.2]
 subst hc
 have hl:=h.1
 have e:(stL pre fs o ok).take (25+n * 5)++(puA f).toList++(stL pre fs o ok).drop (25+n * 5+5)=stL pre (nX fs n f) o ok:=by
  unfold stL
  match n,hn with
  | 0,_ =>
    rw[show 25+0 * 5=pre.length by omega,List.take_left' rfl,List.drop_append,List.drop_eq_nil_of_le (by omega),show pre.length+5-pre.length=(puA (fs 0)).toList.length by rw[nQ];omega,List.drop_left' rfl]
    simp[nX]
  | 1,_ =>
    rw[show pre++((puA (fs 0)).toList++((puA (fs 1)).toList++ [o,ok]))=(pre++(puA (fs 0)).toList)++((puA (fs 1)).toList++ [o,ok]) by simp,show 25+1 * 5=(pre++(puA (fs 0)).toList).length by simp[puA,hl],List.take_left' rfl,List.drop_append,List.drop_eq_nil_of_le (by omega),show(pre++(puA (fs 0)).toList).length+5-(pre++(puA (fs 0)).toList).length=(puA (fs 1)).toList.length by rw[nQ];omega,List.drop_left' rfl]
    simp[nX]
 have e5:(puA f).size=5:=rfl
 rw[e5]
 simp only[e]
theorem zero (h:StB w g pre fs o ok)(cur:Array Value)(hc:cur=(stL pre fs o ok).toArray)(z:Array Value)(hz:z= #[.slice none 0 0,.slice none 0 0,.slice none 0 0,.slice none 0 0,.slice none 0 0,.slice none 0 0,.slice none 0 0,.slice none 0 0,.slice none 0 0,.slice none 0 0]):StB (w.setRow g (cur.toList.take 25++z.toList++cur.toList.drop (25+z.size)).toArray) g pre (fun _ _=> .slice none 0 0) o ok:=by
 refine⟨h.1,?_⟩
 rw[setRow_heap _ _ _ _ _ _ h.2]
 subst hc
 have e5:z.size=10:=by rw[hz];rfl
 have hl:=h.1
 have e:(stL pre fs o ok).take 25++z.toList++(stL pre fs o ok).drop (25+10)=stL pre (fun _ _=> .slice none 0 0) o ok:=by
  subst hz
  unfold stL
  rw[show 25=pre.length by omega,List.take_left' rfl,List.drop_append,List.drop_eq_nil_of_le (by omega),show pre.length+10-pre.length=10 by omega]
  simp[puA]
 rw[e5]
 simp only[e]
theorem put35 (h:StB w g pre fs o ok)(v:Value):StB (w.setCell ⟨g,35,none⟩ v) g pre fs v ok:=by
 refine⟨h.1,?_⟩
 rw[heap_setCell_same w g 35 _ _ v h.2]
 have hl:=h.1
 congr 2
 simp[stL,puA,hl,List.set_append]
end StB
end Go.Proofs.YtddmeghbmdfgeaaGreatDoor
