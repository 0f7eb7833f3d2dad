/-
  The landed package pages: Taken, Grab and Return.
-/
import Derived.Test.YtddmeghbmdfgeaaGreatDoorFlAl
import Derived.Recover
import Derived.Test.YtddmeghbmdfgeaaGreatDoorFlAh
import Derived.Test.YtddmeghbmdfgeaaGreatDoorFlAe
import Derived.ProofKit
import Derived.OpenShut
import Derived.Deep.Slices
import Derived.Deep.Fields
import Derived.Lib.SmallJoins
import Derived.Test.YtddmeghbmdfgeaaGreatDoorFlAk
import Derived.Test.YtddmeghbmdfgeaaGreatDoorFlAj
set_option maxRecDepth 100000
set_option maxHeartbeats 8000000
set_option linter.unusedVariables false
set_option linter.unusedSimpArgs false
set_option linter.unusedSectionVars false
namespace Go.Proofs.YtddmeghbmdfgeaaGreatDoor
open Go.RowKit Go.Sort Go.Maps Go.Shelf
theorem gC {a x:Int}{kn:Int→Option Int}{D D':List KV}(h:cW a kn D=.ok x D'):D'=D∧dN kn D a=some x:=by
 unfold cW at h
 split at h
 ·cases h
 ·rename_i y e;cases h;exact⟨rfl,e⟩
theorem vw (b:BitVec 64):W64 b.toInt:=by
 have h1:=BitVec.toInt_lt (x:=b)
 have h2:=BitVec.le_toInt (x:=b)
 unfold W64;omega
theorem rG {b:Int}(h:W64 b)(i:Int):W64 (setV b i):=by
 unfold setV;split
 ·exact vw _
 ·exact h
theorem j8 {b:Int}(h:W64 b)(i:Int):W64 (clearV b i):=by
 unfold clearV;split
 ·exact vw _
 ·exact h
theorem Da (b n:Int):bP b n= -1∨(0≤bP b n∧bP b n<endN n∧bP b n≤31):=by
 unfold bP yF
 split
 ·rename_i j hj
  have:=List.mem_of_find?_eq_some hj
  simp at this
  have he:endN n≤32:=by unfold endN;omega
  omega
 ·exact .inl rfl
theorem gW {pg st:Int}{n:Nat}(H:PgIn pg st n){q k b:Int}(hq:ag pg q=true)(hb:W64 b):bV n (fun _=>True) (gA pg st q k b):=by
 have PB:=cu H hq
 unfold gA
 exact aX (fun _=>au (pZ H _) fun _ _=>aj n trivial) (fun _=>au (aV n PB.2.2.2.2 PB.2.2.2.1 hb) fun _ _=>au (aV n PB.2.1.2.2 PB.2.1.2.1 (by have:=cnt_b b k;unfold W64;omega)) fun _ _=>aj n trivial)
theorem Mf {x i:Int}(h:W64 x)(w:World):Calls Tryz.prog 142 #[.int .i64 x,.int .i64 i] w (aU w (.int .i64 (setV x i))):=(Ny x i h.1 h.2 w).mono fun e w' q=>⟨q.1,q.2▸ae.refl _⟩
theorem G6 {x i:Int}(h:W64 x)(w:World):Calls Tryz.prog 113 #[.int .i64 x,.int .i64 i] w (aU w (.int .i64 (clearV x i))):=(JL x i h.1 h.2 w).mono fun e w' q=>⟨q.1,q.2▸ae.refl _⟩
theorem A5 {us pg st a:Int}{kn:Int→Option Int}{D D':List KV}{q k i:Int}{t:Bool}(h:fK us pg st a kn D=.ok (some (q,k,i,t)) D'):∃b,dN kn D' (bA pg st q)=some b∧t=eG b i:=by
 unfold fK at h
 split at h
 ·cases hk:fg pg st ((a-us) / 32) kn D with
  |need a'=>rw[ah hk] at h;cases h
  |ok x D1 =>
   rw[ak hk] at h
   unfold jk at h
   split at h
   ·cases h
   ·split at h
    ·cases h
    ·cases hb:cW (bA pg st ((a-us) / 32)) kn D1 with
     |need a'=>rw[ah hb] at h;cases h
     |ok b D2 =>
      rw[ak hb] at h
      obtain⟨rfl,hw⟩:=gC hb
      cases h
      exact⟨b,hw,rfl⟩
 ·cases h
def gi:TkA→Option (Int×Int×Int)
 |some (q,k,i,true)=>some (q,k,i)
 | _=>none
theorem gX {x:TkA}{q k i:Int}(h:gi x=some (q,k,i)):x=some (q,k,i,true):=by
 unfold gi at h
 split at h
 ·cases h;rfl
 ·cases h
def yU:Option (Int×Int×Int)→Prg (Int×Bool)
 |some (_,k,_)=>aA (k,true)
 |none=>aA (0,false)
def G7 (us pg st a:Int):Prg (Int×Bool):=ar (fK us pg st a) fun x=>yU (gi x)
def j9 (us pg st k:Int):Prg (Int×Bool):=
 ar (kP pg st k) fun q=>if q= -1 then aA (0,false) else ar (cW (bA pg st q)) fun b =>
  if bP b (aw k)= -1 then aA (0,false) else ar (cW (cA pg st q)) fun was =>
   ar (gA pg st q k (setV b (bP b (aw k)))) fun _=>ar (iG pg st q k was) fun _=>aA (us+32 * q+bP b (aw k) * szV k,true)
def lX (pg st q k i:Int):Prg Bool:=ar (cW (cA pg st q)) fun was=>ar (cW (bA pg st q)) fun b=>ar (gA pg st q k (clearV b i)) fun _=>ar (iG pg st q k was) fun _=>aA true
def A9 (pg st:Int):Option (Int×Int×Int)→Prg Bool
 |some (q,k,i)=>lX pg st q k i
 |none=>aA false
def qT (us pg st a:Int):Prg Bool:=ar (fK us pg st a) fun x=>A9 pg st (gi x)
theorem Mg (us pg st a:Int):bH (G7 us pg st a):=aq (qS _ _ _ _) fun x=>by
 match gi x with
 |some (_,k,_)=>exact ai _
 |none=>exact ai _
theorem sU (us pg st k:Int):bH (j9 us pg st k):=aq (yP _ _ _) fun q=>aL (ai _) (aq (dA _) fun b=>aL (ai _) (aq (dA _) fun was=>aq (qQ _ _ _ _ _) fun _=>aq (qR _ _ _ _ _) fun _=>ai _))
theorem Ba (us pg st a:Int):bH (qT us pg st a):=aq (qS _ _ _ _) fun x=>by
 match gi x with
 |some (q,k,i)=>exact aq (dA _) fun _=>aq (dA _) fun _=>aq (qQ _ _ _ _ _) fun _=>aq (qR _ _ _ _ _) fun _=>ai _
 |none=>exact ai _
section
variable {pg st:Int}{n:Nat}(H:cH pg st n)
include H
theorem Et (us k:Int):bV n (fun _=>True) (j9 us pg st k):=au (og H k) fun q hq=>aX (fun _=>aj n trivial) (fun h=>by
 have hq:=hq.resolve_left h
 have PB:=cu H.toPgIn hq
 exact au (bu n PB.2.2.2.1) fun b hb=>aX (fun _=>aj n trivial) (fun _=>au (bu n PB.2.1.2.1) fun was _=>au (gW H.toPgIn hq (rG hb _)) fun _ _=>au (gV H q k was hq) fun _ _=>aj n trivial))
theorem uA {q:Int}(hq:ag pg q=true)(k i:Int):bV n (fun _=>True) (lX pg st q k i):=by
 have PB:=cu H.toPgIn hq
 exact au (bu n PB.2.1.2.1) fun was _=>au (bu n PB.2.2.2.1) fun b hb=>au (gW H.toPgIn hq (j8 hb _)) fun _ _=>au (gV H q k was hq) fun _ _=>aj n trivial
theorem vx (us a:Int):bV n (fun _=>True) (qT us pg st a):=au (kR H.toPgIn a) fun x hx=>by
 match e:gi x with
 |some (q,k,i)=>exact uA H (hx q k i true (gX e)).1 k i
 |none=>exact aj n trivial
end
theorem Mh {c:Cfg}(R:c.Ok){n:Nat}(H:cH c.pg c.st n)(hn:n≤10000)(F:Nat→Prop)(p:Nat)(kn:Int→Option Int)(D:List KV)(k:Int)(w:World)(hv:aK w F p kn D)(hk:OkK kn)(hD:cF n D)(bt:Nat)(hs:dg bt w)(nF0:¬F 0)(nFb:¬F bt):
 Calls Tryz.prog 123 #[.pointer (some ⟨p,0,none⟩),.agg c.arr,.int .i64 k] w (aC w F p kn (fun x:Int×Bool=> .tuple #[.int .i64 x.1,.bool x.2]) (j9 c.us c.pg c.st k kn D)):=by
 obtain⟨Rr,hRr⟩:∃Rr,j9 c.us c.pg c.st k kn D=Rr:=⟨_,rfl⟩
 rw[hRr]
 obtain⟨w1,e1,hl1,m1,s1⟩:=bg w (.cells c.arr 28)
 have nFl:¬F w.heap.size:=fun q=>by have:=hv.lt _ q;omega
 have MM:=hQQ m1
 have L0:=hQQ hl1
 have M0:Hq (MidV w1 w1 F (fun _=>False) p kn n D F):=hQQ (MidV.begin (hv.more m1) hD)
 have KL:Hq (∀wr D' F',MidV w1 wr F (fun _=>False) p kn n D' F'→wr.heap[w.heap.size]?=some (.cells c.arr 28 (0,0))):=hQQ fun wr D' F' h=>cI h L0.o nFl (fun q=>q)
 have NEED:Hq (∀a w2,Rr=.need a→aQ w2 p a→Turned (fun b=>F b∨False) w1 w2→aC w F p kn (fun x:Int×Bool=>Value.tuple #[.int .i64 x.1,.bool x.2]) Rr (.panicked (aY p)) w2):=hQQ fun a w2 e hd ht=>cx MM.o (fun _ q=>q.elim) e hd ht
 have DONE:Hq (∀x w2 D' F',Rr=.ok x D'→MidV w1 w2 F (fun _=>False) p kn n D' F'→aC w F p kn (fun x:Int×Bool=>Value.tuple #[.int .i64 x.1,.bool x.2]) Rr (.returned ((fun x:Int×Bool=>Value.tuple #[.int .i64 x.1,.bool x.2]) x)) w2):=hQQ fun x w2 D' F' e h=>bZ MM.o (fun _ q=>q.elim) h e
 have HK:=hQQ hk
 have HR:=hQQ R
 have HH:=hQQ H
 clear hl1 m1 hv hD hk R H nFl
 have SZ:Hq (∀wr D' F',MidV w1 wr F (fun _=>False) p kn n D' F'→dg bt wr):=hQQ fun wr D' F' h=>(hs.more MM.o).keep h.turn (by rintro(q|q);exact nF0 q;exact q) (by rintro(q|q);exact nFb q;exact q)
 have NF:Hq (∀wr D' F',MidV w1 wr F (fun _=>False) p kn n D' F'→¬F' 0∧¬F' bt):=hQQ fun wr D' F' h=>⟨h.off (hs.more MM.o).lt0 nF0,h.off (hs.more MM.o).lt nFb⟩
 have HRr:=hQQ hRr
 unfold j9 at HRr
 have pg1:=HR.o.pg1
 have pg2:=HR.o.pg2
 have UB:=hQQ (oL HR.o)
 have HN:=hQQ hn
 clear hRr hs nF0 nFb
 have hmf:∀(fn:Fn) (first cap:Array Value) (w:World),(Instr.makeFunc fn first cap).run Tryz.prog w=.ok (.func fn first cap) w:=fun _ _ _ _=>rfl
 go_enter_defers Tryz.func123,Tryz.ntmps123
 go_wp2_with (refine af rfl 28 _ rfl _ rfl 28 _ _ _ L0.o Tryz.underlying28 rfl (by kernel_rfl) ?_)
 refine(JS HR.o HH.o hn F p kn D k w1 M0.o.view HK.o M0.o.inv bt (SZ.o _ _ _ M0.o) (NF.o _ _ _ M0.o).1 (NF.o _ _ _ M0.o).2).mono ?_
 intro e w2 he
 rcases M0.o.step (ae.refl _) HK.o (og HH.o k) he with⟨a',hE,rfl,hd',ht',_⟩|⟨x2,D2,F2,hE,rfl,M2,hq2,hk2,hf2⟩
 ·exact NEED.o a' w2 (HRr.o.symm.trans (ah hE)) hd' ht'
 have L2:=hQQ (KL.o _ _ _ M2)
 have R2:=hQQ ((ak hE).symm.trans HRr.o)
 have M2:=hQQ M2
 clear he hE hk2 hf2
 by_cases eq:x2= -1
 ·have d0:(x2== -1)=true:=by simp[eq]
  have FIN:=hQQ (DONE.o (0,false) w2 D2 F2 (by have:=R2.o;rw[if_pos eq] at this;exact this.symm) M2.o)
  clear eq R2
  go_wp2_with fail
  refine⟨_,results_tmp2 (t:=6) (u:=7) rfl _ _ _,?_⟩
  exact FIN.o
 have d0:(x2== -1)=false:=by simpa using eq
 have hq:=hq2.resolve_left eq
 have R2:=hQQ (show ar (cW (bA c.pg c.st x2)) (fun b=>if bP b (aw k)= -1 then aA (0,false) else ar (cW (cA c.pg c.st x2)) fun was=>ar (gA c.pg c.st x2 k (setV b (bP b (aw k)))) fun _=>ar (iG c.pg c.st x2 k was) fun _=>aA (c.us+32 * x2+bP b (aw k) * szV k,true)) kn D2=Rr from by have:=R2.o;rw[if_neg eq] at this;exact this)
 have HQ:=hQQ hq
 have PB:=hQQ (cu HH.o.toPgIn hq)
 clear eq hq2 hq
 generalize x2=q at *
 obtain⟨w3,e3,b3,m3⟩:=GW w2 c p q k
 have M3:=hQQ (M2.o.more m3)
 have nFg:¬F2 w2.heap.size:=fun z=>by have:=M2.o.view.lt _ z;omega
 have lg:w1.heap.size≤w2.heap.size:=M2.o.size
 go_wp2_with (first|(refine wpList_load_row rfl 28 _ rfl _ rfl 28 _ _ _ L2.o Tryz.underlying28 rfl (by kernel_rfl) ?_)|(refine yS rfl _ _ _ _ rfl c p q k rfl rfl rfl rfl ?_)|(refine wpList_store_row rfl 90 _ _ rfl _ _ rfl rfl 90 _ (a7 _ _ _) (by kernel_rfl) rfl (qj ..) (e3.symm▸ ?_))|(refine wpList_load_row rfl 90 _ rfl _ rfl 90 _ _ _ b3 Tryz.underlying90 rfl (by kernel_rfl) ?_))
 have BG:=hQQ b3
 clear e3 m3 b3 M2 L2
 generalize w2.heap.size=gb at BG nFg lg
 refine(GM HR.o HH.o.toPgIn F2 p kn D2 q k hn HQ.o w3 M3.o.view HK.o M3.o.inv).mono ?_
 intro e w4 he
 rcases M3.o.step (ae.refl _) HK.o (bu n PB.o.2.2.2.1) he with⟨a',hE,rfl,hd',ht',_⟩|⟨b,D4,F4,hE,rfl,M4,hb4,hk4,hf4⟩
 ·exact NEED.o a' w4 (R2.o.symm.trans (ah hE)) hd' ht'
 have R4:=hQQ ((ak hE).symm.trans R2.o)
 obtain⟨rfl,hwb⟩:=gC hE
 have WB:=hQQ hwb
 have nFg4:¬F4 gb:=fun z=>(hf4 gb z).elim nFg (fun q=>by have:=ac BG.o;omega)
 have BG:=hQQ (hk4 _ _ nFg BG.o)
 have M4:=hQQ M4
 have HB0:=hQQ hb4
 clear he hE hk4 hf4 nFg M3 R2 hwb hb4
 have hsl:=eN k
 have SL:=hQQ (fun(W:World) (hW:dg bt W)=>rF k W hW)
 have SF:=hQQ (fun W=>JP b (aw k) (by omega) (by omega) W)
 have CS:=hQQ (fun(W:World) (hW:dg bt W)=>G5 k W hW)
 have R4:=hQQ R4.o
 have hfb:=Da b (aw k)
 have hsz:0≤szV k∧szV k≤16:=by unfold szV; (repeat' split)<;>omega
 obtain⟨i,hi⟩:∃i,bP b (aw k)=i:=⟨_,rfl⟩
 obtain⟨sz,hsz'⟩:∃sz,szV k=sz:=⟨_,rfl⟩
 rw[hi] at SF R4 hfb
 rw[hsz'] at CS R4 hsz
 clear hi hsz'
 go_wp2_with fail
 refine(SL.o w4 (SZ.o _ _ _ M4.o)).mono ?_
 rintro e w5 ⟨rfl,h5⟩
 have M5:=hQQ (M4.o.more h5)
 have BG:=hQQ (h5.block BG.o)
 clear h5 M4
 go_wp2_with fail
 refine(SF.o w5).mono ?_
 rintro e w6 ⟨rfl,h6⟩
 have M5:=hQQ (M5.o.more h6)
 have BG:=hQQ (h6.block BG.o)
 clear h6
 by_cases ei:i= -1
 ·have d1:(i== -1)=true:=by simp[ei]
  have FIN:=hQQ (DONE.o (0,false) w6 D4 F4 (by have:=R4.o;rw[if_pos ei] at this;exact this.symm) M5.o)
  clear ei R4
  go_wp2_with fail
  refine⟨_,results_tmp2 (t:=6) (u:=7) rfl _ _ _,?_⟩
  exact FIN.o
 have d1:(i== -1)=false:=by simpa using ei
 have hfb:=hfb.resolve_left ei
 have R4:=hQQ (show ar (cW (cA c.pg c.st q)) (fun was=>ar (gA c.pg c.st q k (setV b i)) fun _=>ar (iG c.pg c.st q k was) fun _=>aA (c.us+32 * q+i * sz,true)) kn D4=Rr from by have:=R4.o;rw[if_neg ei] at this;exact this)
 have hb1:0≤i * sz:=Int.mul_nonneg hfb.1 hsz.1
 have hb2:i * sz≤31 * 16:=Int.mul_le_mul hfb.2.2 hsz.2 hsz.1 (by omega)
 have t1:IntKind.i64.wrap (i * sz)=i * sz:=aB (by omega) (by omega)
 have hqq:=ay.1 HQ.o
 have hub:=UB.o
 have t2:IntKind.i64.wrap (c.us+32 * q+i * sz)=c.us+32 * q+i * sz:=aB (by unfold Cfg.us;omega) (by unfold Cfg.us;omega)
 have AD:=hQQ (fun W=>by have:=Nl HR.o W q;rw[show xM c.cp c.pg c.st c.ca c.bi q=c.us+32 * q from by unfold xM;rw[if_pos hqq];rfl] at this;exact this)
 have AD:=hQQ (show ∀W,Calls Tryz.prog 143 #[.agg c.arr,.int .i64 q] W (aU W (.int .i64 (c.us+32 * q))) from AD.o)
 obtain⟨adr,hadr⟩:∃adr,c.us+32 * q=adr:=⟨_,rfl⟩
 rw[hadr] at AD R4 t2
 clear ei hfb hsz hb1 hb2 hub hadr hqq hsl
 go_wp2_with (refine wpList_load_row rfl 90 _ rfl _ rfl 90 _ _ _ BG.o Tryz.underlying90 rfl (by kernel_rfl) ?_)
 refine(C7 HR.o HH.o.toPgIn HN.o F4 p kn D4 q k HQ.o w6 M5.o.view HK.o M5.o.inv).mono ?_
 intro e w7 he
 rcases M5.o.stepR (ae.refl _) HK.o (bu n PB.o.2.1.2.1) he with⟨a',hE,rfl,hd',ht',_⟩|⟨was,D6,F6,vm,hE,rfl,⟨gm,wm,rfl,hgm,hwm,hne,nm,nw,bm,bw⟩,M6,hq6,hk6,hf6⟩
 ·exact NEED.o a' w7 (R4.o.symm.trans (ah hE)) hd' ht'
 have R6:=hQQ ((ak hE).symm.trans R4.o)
 obtain⟨rfl,_⟩:=gC hE
 have NG6:=hQQ (show ¬F6 gb from fun z=>(hf6 gb z).elim nFg4 (fun q=>by have:=ac BG.o;omega))
 have BG:=hQQ (hk6 _ _ nFg4 BG.o)
 have BM:=hQQ bm
 have BW:=hQQ bw
 have NM:=hQQ nm
 have NW:=hQQ nw
 have M6:=hQQ M6
 clear he hE bm bw nm nw hgm hwm hne hk6 hf6 hq6 M5 R4 nFg4
 have L6:=hQQ (KL.o _ _ _ M6.o)
 have YB:=hQQ (fun W (hW:ae w7 W)=>CW HR.o HH.o.toPgIn F6 p kn D6 q k b HN.o HQ.o W (M6.o.view.more hW) WB.o)
 have YS:=hQQ (fun W=>Mf (i:=i) HB0.o W)
 obtain⟨nb',hnb'⟩:∃nb',setV b i=nb':=⟨_,rfl⟩
 have HB:=hQQ (rG HB0.o i)
 have HC:=hQQ (And.intro (cnt_b (setV b i) k).1 (cnt_b (setV b i) k).2.1)
 rw[hnb'] at YS R6 HB HC
 clear hnb'
 go_wp2_with fail
 refine bO 5 (by kernel_rfl) (by kernel_rfl) ?_
 simp only[List.take_succ_cons,List.take_zero,List.drop_succ_cons,List.drop_zero]
 refine aP rfl 90 _ rfl gb rfl 90 _ _ _ (fun W hW=>hW.block BG.o) Tryz.underlying90 rfl (by kernel_rfl) ?_
 refine aP rfl 90 _ rfl gb rfl 90 _ _ _ (fun W hW=>hW.block BG.o) Tryz.underlying90 rfl (by kernel_rfl) ?_
 iterate 1
  with_reducible refine wpQuiet_step (fun K hK=>?_)
  go_simp
  first
  |(refine hK _ ?_;clear hK K)
  |(apply Exists.intro
    refine⟨fun W hW=>?_,hK _ ?_⟩
    first
    |(go_at_call 82;exact Calls.more hW (YB.o W hW))
    |(go_simp;try rfl)
    clear hK K)
 iterate 1
  with_reducible refine wpQuiet_step (fun K hK=>?_)
  go_simp
  first
  |(refine hK _ ?_;clear hK K)
  |(apply Exists.intro
    refine⟨fun W hW=>?_,hK _ ?_⟩
    first
    |(go_simp;try rfl)
    clear hK K)
 iterate 1
  with_reducible refine wpQuiet_step (fun K hK=>?_)
  go_simp
  first
  |(refine hK _ ?_;clear hK K)
  |(apply Exists.intro
    refine⟨fun W hW=>?_,hK _ ?_⟩
    first
    |(go_at_call 142;exact Calls.more hW (YS.o W))
    |(go_simp;try rfl)
    clear hK K)
 refine wpQuiet_nil ?_
 intro w8 h8
 have M8:=hQQ (M6.o.more h8)
 have BM8:=hQQ (h8.block BM.o)
 have BW8:=hQQ (h8.block BW.o)
 clear h8
 go_wp2_with fail
 refine(K8 HR.o HH.o.toPgIn hn F6 p kn D6 q k nb' HQ.o HB.o HC.o w8 M8.o.view HK.o M8.o.inv bt (SZ.o _ _ _ M8.o) (NF.o _ _ _ M8.o).1 (NF.o _ _ _ M8.o).2).mono ?_
 intro e w9 he
 rcases M8.o.step (ae.refl _) HK.o (gW HH.o.toPgIn HQ.o HB.o) he with⟨a',hE,rfl,hd',ht',hk'⟩|⟨x9,D9,F9,hE,rfl,M9,hq9,hk9,hf9⟩
 ·have NE:=hQQ (NEED.o a')
  have R9:=hQQ (R6.o.symm.trans (ah hE))
  change bodyPostD _ _ _ (Exit.panic (aY p)) _ _
  refine leaves_cons (f:=129) (args:=#[.pointer (some ⟨gm,0,none⟩),.pointer (some ⟨wm,0,none⟩)]) (by simp) (by simp[go_sem]) ?_
  refine(yO HR.o HH.o p a' q k was gm wm w9 hd' (hk' _ _ NM.o BM8.o) (hk' _ _ NW.o BW8.o) _).mono ?_
  rintro e u' w10 ⟨rfl,rfl,h10⟩
  exact NE.o w10 R9.o (hd'.keep h10 (fun q=>q)) (am ht' h10 (fun _ q=>q.elim))
 have R9:=hQQ ((ak hE).symm.trans R6.o)
 have BM9:=hQQ (hk9 _ _ NM.o BM8.o)
 have BW9:=hQQ (hk9 _ _ NW.o BW8.o)
 have NM9:=hQQ (show ¬F9 gm from fun z=>by rcases hf9 _ z with q|q;exact NM.o q;have:=ac BM8.o;omega)
 have M9:=hQQ M9
 clear he hE hk9 hf9 hq9 M8 BM8 BW8
 have L9:=hQQ (KL.o _ _ _ M9.o)
 have SZ9:=hQQ (SZ.o _ _ _ M9.o)
 clear BG NG6 L6 YB YS HB HC WB HB0 M6 BM BW NM NW SZ NF SL SF R6 L0 M0 d0 d1
 go_wp2_with (refine af rfl 28 _ rfl _ rfl 28 _ _ _ L9.o Tryz.underlying28 rfl (by kernel_rfl) ?_)
 refine(AD.o w9).mono ?_
 rintro e w10 ⟨rfl,h10⟩
 have M10:=hQQ (M9.o.more h10)
 have BM10:=hQQ (h10.block BM9.o)
 have BW10:=hQQ (h10.block BW9.o)
 have SZ10:=hQQ (SZ9.o.more h10)
 clear h10 M9 BM9 BW9 SZ9 L9
 go_wp2_with fail
 refine(CS.o w10 SZ10.o).mono ?_
 rintro e w11 ⟨rfl,h11⟩
 have M12:=hQQ (M10.o.more h11)
 have BM12:=hQQ (h11.block BM10.o)
 have BW12:=hQQ (h11.block BW10.o)
 clear h11 M10 BM10 BW10 SZ10
 go_wp2_with fail
 refine leaves_cons (f:=129) (args:=#[.pointer (some ⟨gm,0,none⟩),.pointer (some ⟨wm,0,none⟩)]) (by simp) (by simp[go_sem]) ?_
 refine(yR HR.o HH.o hn F9 p kn D9 q k was HQ.o gm wm w11 M12.o.view HK.o M12.o.inv BM12.o BW12.o NM9.o _).mono ?_
 rintro e u' w13 ⟨rfl,he⟩
 rcases M12.o.step (ae.refl _) HK.o (gV HH.o q k was HQ.o) he with⟨a',hE,rfl,hd',ht',_⟩|⟨x11,D11,F11,hE,rfl,M11,_,_,_⟩
 ·exact NEED.o a' w13 (R9.o.symm.trans (ah hE)) hd' ht'
 have FIN:=hQQ (DONE.o (adr+i * sz,true) w13 D11 F11 (R9.o.symm.trans (ak hE)) M11)
 refine⟨_,results_tmp2 (t:=6) (u:=7) rfl _ _ _,?_⟩
 exact FIN.o
def Low {α:Type}(n:Nat)(m:Int)(p:Prg α):Prop:=∀kn D x D',OkK kn→cF n D→p kn D=.ok x D'→∀a,m≤a→dN kn D' a=dN kn D a
section
variable {α β:Type}{n:Nat}{m:Int}
theorem cJ (x:α):Low n m (aA x):=fun kn D y D' _ _ h a _=>by cases h;rfl
theorem lY (b:Int):Low n m (cW b):=fun kn D y D' _ _ h a _=>by rw[(gC h).1]
theorem cC {Q:α→Prop}{p:Prg α}{f:α→Prg β}(G:bV n Q p)(h:Low n m p)(hf:∀x,Q x→Low n m (f x)):Low n m (ar p f):=fun kn D y D' hk hD e a ha=>by
 cases e1:p kn D with
 |need b=>rw[ah e1] at e;cases e
 |ok x D1 =>
  rw[ak e1] at e
  obtain⟨i1,q1⟩:=G.ok hk hD e1
  exact(hf x q1 kn D1 y D' hk i1 e a ha).trans (h kn D x D1 hk hD e1 a ha)
theorem et {c:Prop} [Decidable c] {p q:Prg α}(h1:c→Low n m p)(h2:¬c→Low n m q):Low n m (if c then p else q):=by
 split
 ·rename_i h;exact h1 h
 ·rename_i h;exact h2 h
theorem fe {b x:Int}(hb:b<m):Low n m (cP b x):=fun kn D y D' _ hD h a ha=>by
 cases h
 unfold dN eE
 split
 ·rfl
 ·split
  ·rfl
  ·rw[pO hD.asc,if_neg (by omega)]
end
section
variable {pg st:Int}{n m:Nat}(H:cH pg st n)(L:cH pg st m)
include H L
theorem yV (p:Int):Low n m (fg pg st p):=et (fun _=>lY _) (fun _=>cJ _)
theorem JU {p:Int}(h:ag pg p=true){k x:Int}(hk:W64 k)(hx:W64 x):Low n m (ls pg st p k x):=
 have b:=cu L.toPgIn h
 have g:=cu H.toPgIn h
 cC (aV n g.1.2.2 g.1.2.1 hk) (fe b.1.2.1) fun _ _=>cC (aV n g.2.1.2.2 g.2.1.2.1 hx) (fe b.2.1.2.1) fun _ _=>fe b.2.2.2.1
theorem G8 {k:Int}(hk:W64 k)(j:Nat):∀q,(∀i:Nat,i<j→ag pg (q+i)=true)→Low n m (iI pg st k j q):=by
 induction j with
 |zero=>intro q _;exact cJ _
 |succ j ih =>
  intro q h
  exact cC (o7 H.toPgIn (by simpa using h 0 (by omega)) hk (by unfold W64;omega)) (JU H L (by simpa using h 0 (by omega)) hk (by unfold W64;omega)) (fun _ _=>ih _ (fun i hi=>by have:=h (i+1) (by omega);rwa [show q+((i+1:Nat):Int)=q+1+(i:Int) by omega] at this))
theorem JV (p:Int):Low n m (nI pg st p):=cC (gh H.toPgIn p) (yV H L p) fun k _=>by
 refine et (fun _=>cJ _) (fun _=>et (fun _=>?_) (fun _=>cJ _))
 intro kn D x D' hk hD e a ha
 cases e1:cW (cA pg st p) kn D with
 |need b=>rw[ah e1] at e;cases e
 |ok y D1 =>
  rw[ak e1] at e
  cases e
  rw[(gC e1).1]
theorem Ha (p:Int):Low n m (lK pg st p):=
 cC (sJ H.toPgIn p) (JV H L p) (fun x hx=>by
  have hb:∀i:Nat,i<x.toNat→ag pg (p+i)=true:=fun i hi=>by
   rcases hx with rfl|⟨h,h1,h2⟩
   ·simp at hi
   ·have:=ay.1 h;exact ay.2 ⟨by omega,by omega⟩
  exact cC (pY H.toPgIn (by unfold W64;omega) _ _ hb) (G8 H L (by unfold W64;omega) _ _ hb) (fun _ _=>cJ _))
theorem ol {a:Int}(ha:a<n):Low n m (ep pg a):=et (fun _=>cJ _) (fun _=>cC (bu n ha) (lY _) (fun x _=>cJ _))
theorem Bb {p:Int}(j:Nat):∀(a:Int) (l:List Int),a<n→Low n m (kK pg st p j a l):=by
 induction j with
 |zero=>intro a l _;exact cJ _
 |succ j ih =>
  intro a l ha
  exact cC (dp H ha) (ol H L ha) (fun q hq=>et (fun _=>cJ _) (fun _=>et (fun _=>cJ _) (fun hne=>ih _ _ (eF H (hq.resolve_left hne)).1.2.1)))
theorem Eu (p c f:Int):Low n m (kL pg st p c f):=Bb H L _ _ _ (bG H).2.1
theorem om {h p q:Int}(g1:W64 h)(g2:h<n)(h2:h<m)(hp:p= -1∨ag pg p=true)(hq:q= -1∨ag pg q=true):Low n m (eT pg st h p q):=
 cC (Q:=fun _=>True) (aX (fun _=>aV n g1 g2 (nJ H hq)) (fun hne=>aV n (eF H (hp.resolve_left hne)).1.2.2 (eF H (hp.resolve_left hne)).1.2.1 (nJ H hq)))
  (et (fun _=>fe h2) (fun hne=>fe (eF L (hp.resolve_left hne)).1.2.1))
  (fun _ _=>et (fun _=>cJ _) (fun hne=>fe (eF L (hq.resolve_left hne)).2.2.1))
theorem Bc (p c f:Int):Low n m (iP pg st p c f):=
 et (fun _=>cJ _) (fun _=>et (fun hp=>cC (dp H (bG H).2.1) (ol H L (bG H).2.1) (fun q hq=>cC (dU H (bG H).2.2 (bG H).2.1 (.inr hp) hq) (om H L (bG H).2.2 (bG H).2.1 (bG L).2.1 (.inr hp) hq) (fun _ _=>cC (dU H (bG H).2.2 (bG H).2.1 (.inl rfl) (.inr hp)) (om H L (bG H).2.2 (bG H).2.1 (bG L).2.1 (.inl rfl) (.inr hp)) (fun _ _=>cJ _)))) (fun _=>cJ _))
theorem xe (p c f:Int):Low n m (fD pg st p c f):=
 et (fun hp=>cC (od H _ _ _) (Eu H L _ _ _) (fun r hr=>et (fun _=>cC (dp H (eF H hp).1.2.1) (ol H L (eF H hp).1.2.1) (fun q hq=>cC (dU H (bG H).2.2 (bG H).2.1 (kN H hr.1) hq) (om H L (bG H).2.2 (bG H).2.1 (bG L).2.1 (kN H hr.1) hq) (fun _ _=>cC (aV n (eF H hp).1.2.2 (eF H hp).1.2.1 (by unfold W64;omega)) (fe (eF L hp).1.2.1) (fun _ _=>cC (aV n (eF H hp).2.2.2 (eF H hp).2.2.1 (by unfold W64;omega)) (fe (eF L hp).2.2.1) (fun _ _=>cJ _))))) (fun _=>cJ _))) (fun _=>cJ _)
theorem Ev {q k b:Int}(hq:ag pg q=true)(hb:W64 b):Low n m (gA pg st q k b):=
 et (fun _=>cC (pZ H.toPgIn q) (Ha H L q) fun _ _=>cJ _)
  (fun _=>cC (aV n (cu H.toPgIn hq).2.2.2.2 (cu H.toPgIn hq).2.2.2.1 hb) (fe (cu L.toPgIn hq).2.2.2.1) fun _ _=>fun kn D x D' hk hD e a ha=>by
   cases e
   exact fe (cu L.toPgIn hq).2.1.2.1 kn D () _ hk hD rfl a ha)
theorem Ew (q k was:Int)(hq:ag pg q=true):Low n m (iG pg st q k was):=
 cC (jS H _ _ _) (xe H L _ _ _) fun _ _=>cC (bu n (cu H.toPgIn hq).2.1.2.1) (lY _) fun f _=>cC (lP H _ _ _) (Bc H L _ _ _) fun _ _=>cJ _
theorem xg {q:Int}(hq:ag pg q=true)(k i:Int):Low n m (lX pg st q k i):=
 cC (bu n (cu H.toPgIn hq).2.1.2.1) (lY _) fun was _=>cC (bu n (cu H.toPgIn hq).2.2.2.1) (lY _) fun b hb=>cC (gW H.toPgIn hq (j8 hb i)) (Ev H L hq (j8 hb i)) fun _ _=>cC (gV H q k was hq) (Ew H L q k was hq) fun _ _=>cJ _
theorem Ex (us a:Int):Low n m (fK us pg st a):=by
 unfold fK
 refine et (fun h=>?_) (fun _=>cJ _)
 refine cC (gh H.toPgIn _) (yV H L _) fun x _=>?_
 unfold jk
 refine et (fun _=>cJ _) (fun _=>et (fun _=>cJ _) (fun _=>?_))
 intro kn D y D' hk hD e b ha
 cases e1:cW (bA pg st ((a-us) / 32)) kn D with
 |need b=>rw[ah e1] at e;cases e
 |ok z D1 =>
  rw[ak e1] at e
  cases e
  rw[(gC e1).1]
theorem Hb (us a:Int):Low n m (qT us pg st a):=cC (kR H.toPgIn a) (Ex H L us a) fun x hx=>by
 cases h:gi x with
 |none=>exact cJ _
 |some y =>
  obtain⟨q,k,i⟩:=y
  have:=gX h
  exact xg H L (hx q k i true this).1 k i
end
def aZ (pg st:Int)(ws:List Int)(p:Int):Int:=if ag pg p then wAt ws (kA pg st p) else -1
def cG (pg st:Int)(ws:List Int)(p:Int):Int:=wAt ws (cA pg st p)
def c8 (pg st:Int)(ws:List Int)(p:Int):Int:=wAt ws (bA pg st p)
def fB (pg st p k x:Int)(ws:List Int):List Int:=((ws.set (kA pg st p).toNat k).set (cA pg st p).toNat x).set (bA pg st p).toNat 0
def sV (pg st:Int):Nat→Int→List Int→Bool
 | 0,_,_=>true
 |m+1,q,ws=>decide (aZ pg st ws q=0) && sV pg st m (q+1) ws
def sW (pg st p n:Int)(ws:List Int):Bool:=cm pg p n && sV pg st n.toNat p ws
def ip (pg st k:Int):Nat→Int→List Int→List Int
 | 0,_,ws=>ws
 |m+1,q,ws=>ip pg st k m (q+1) (fB pg st q k 0 ws)
def iq (pg st p n k:Int)(ws:List Int):Bool×List Int:=if oa k n && sW pg st p n ws then(true,ip pg st 7 (n-1).toNat (p+1) (fB pg st p k (if k=6 then n else 0) (gx pg st p n ws).2)) else(false,ws)
def rt (pg st p:Int)(ws:List Int):Int:=if n6 (aZ pg st ws p) then 1 else if aZ pg st ws p=6 then max 1 (min (cG pg st ws p) (pg-p)) else 0
def Db (pg st p:Int)(ws:List Int):Int×List Int:=(rt pg st p ws,ip pg st 0 (rt pg st p ws).toNat p ws)
def sX (pg st:Int)(ws:List Int)(q:Int):Bool:=bL pg st ws (ofV q) && decide (aZ pg st ws q=0)
def vy (pg st:Int)(ws:List Int)(q:Int):Bool:=decide (aZ pg st ws q=0)
def nN (f:Int→Bool):Nat→Int→Option Int
 | 0,_=>none
 |m+1,q=>if f q then nN f m (q+1) else some q
def po (f:Int→Bool)(pg n step:Int):Nat→Int→Int
 | 0,_=> -1
 |m+1,p=>if p≤pg-n then(match nN f n.toNat p with|none=>p|some q=>po f pg n step m ((q / step+1) * step)) else -1
def lZ (f:Int→Bool)(pg n step:Int):Int:=po f pg n step (pg.toNat+1) 0
def jl (pg st n step:Int)(ws:List Int):Int:=if 1≤n∧1≤step then(if lZ (sX pg st ws) pg n step= -1 then lZ (vy pg st ws) pg n step else lZ (sX pg st ws) pg n step) else -1
section
variable {pg st:Int}{n:Nat}(H:PgIn pg st n)
include H
theorem mX (p:Int):bR n (fg pg st p) (fun ws=>(aZ pg st ws p,ws)):=by
 unfold fg aZ
 cases h:ag pg p with
 |true=>exact a6 (dY (by have:=(cu H h).1.1;omega) (cu H h).1.2.1) (fun ws _=>by simp)
 |false=>exact a6 (ax n (-1)) (fun ws _=>by simp)
theorem yW {p:Int}(h:ag pg p=true){k x:Int}(hk:W64 k)(hx:W64 x):bR n (ls pg st p k x) (fun ws=>((),fB pg st p k x ws)):=by
 obtain⟨⟨a0,a1,a2⟩,⟨b0,b1,b2⟩,c0,c1,c2⟩:=cu H h
 exact aD (df (by omega) a1 a2 hk) (fun _=>aD (df (by omega) b1 b2 hx) (fun _=>df (by omega) c1 c2 (by unfold W64;omega)))
theorem Ey (m:Nat):∀q,bR n (oZ pg st m q) (fun ws=>(sV pg st m q ws,ws)):=by
 induction m with
 |zero=>intro q;exact ax n true
 |succ m ih =>
  intro q
  refine a6 (aD (mX H q) (fun k=>bJ (fun _=>ih (q+1)) (fun _=>ax n false))) (fun ws _=>?_)
  show _=(decide (aZ pg st ws q=0) && sV pg st m (q+1) ws,ws)
  by_cases e:aZ pg st ws q=0<;>simp[e]
theorem Hc (p m:Int):bR n (o6 pg st p m) (fun ws=>(sW pg st p m ws,ws)):=by
 refine a6 (bJ (fun _=>Ey H m.toNat p) (fun _=>ax n false)) (fun ws _=>?_)
 unfold sW
 cases cm pg p m<;>simp
theorem vz {k:Int}(hk:W64 k)(m:Nat):∀q,(∀i:Nat,i<m→ag pg (q+i)=true)→bR n (iI pg st k m q) (fun ws=>((),ip pg st k m q ws)):=by
 induction m with
 |zero=>intro q _;exact ax n ()
 |succ m ih =>
  intro q h
  exact aD (yW H (by simpa using h 0 (by omega)) hk (by unfold W64;omega)) (fun _=>ih _ (fun i hi=>by have:=h (i+1) (by omega);rwa [show q+((i+1:Nat):Int)=q+1+(i:Int) by omega] at this))
theorem Ez (p m k:Int)(hk:W64 k)(hm:W64 m):bR n (ji pg st p m k) (iq pg st p m k):=by
 unfold ji
 have hx:W64 (if k=6 then m else 0):=by
  split
  ·exact hm
  ·unfold W64;omega
 cases h:cm pg p m with
 |false =>
  unfold o6
  rw[h]
  have z:bR n (aA false) (iq pg st p m k):=a6 (ax n false) (fun ws _=>by
   unfold iq sW
   rw[h]
   simp)
  by_cases hf:oa k m=true
  ·rw[if_pos hf];exact z
  ·rw[if_neg hf];exact z
 |true =>
  obtain⟨q0,q1,q2⟩:=dZ.1 h
  refine a6 (bJ (fun _=>aD (Hc H p m) (fun b=>bJ (fun _=>aD (yw H.toTblIn p m) (fun _=>aD (yW H (ay.2 ⟨by omega,by omega⟩) hk hx) (fun _=>aD (vz H (by unfold W64;omega) (m-1).toNat (p+1) (fun i hi=>ay.2 ⟨by omega,by omega⟩)) (fun _=>ax n true)))) (fun _=>ax n false))) (fun _=>ax n false)) (fun ws _=>?_)
  unfold iq
  by_cases hf:oa k m=true<;>by_cases hv:sW pg st p m ws=true<;>simp[hf,hv]
theorem Hd (p:Int):bR n (nI pg st p) (fun ws=>(rt pg st p ws,ws)):=by
 cases h:ag pg p with
 |true =>
  obtain⟨_,⟨b0,b1,_⟩,_⟩:=cu H h
  refine a6 (aD (mX H p) (fun k=>bJ (fun _=>ax n 1) (fun _=>bJ (fun _=>aD (dY (a:=cA pg st p) (by omega) b1) (fun x=>ax n (max 1 (min x (pg-p))))) (fun _=>ax n 0)))) (fun ws _=>?_)
  unfold rt cG
  by_cases e:n6 (aZ pg st ws p)=true
  ·simp only[if_pos e]
  ·by_cases e2:aZ pg st ws p=6
   ·simp only[if_neg e,if_pos e2]
   ·simp only[if_neg e,if_neg e2]
 |false =>
  unfold nI fg
  rw[h]
  refine a6 (ax n (0:Int)) (fun ws _=>?_)
  unfold rt aZ
  rw[h];rfl
theorem NH (p:Int)(ws:List Int):rt pg st p ws=0∨ag pg p=true∧1≤rt pg st p ws∧rt pg st p ws≤pg-p:=by
 cases h:ag pg p with
 |true =>
  have:=ay.1 h
  unfold rt
  by_cases e:n6 (aZ pg st ws p)=true
  ·rw[if_pos e];exact .inr ⟨rfl,by omega,by omega⟩
  ·by_cases e2:aZ pg st ws p=6
   ·rw[if_neg e,if_pos e2];exact .inr ⟨rfl,by omega,by omega⟩
   ·rw[if_neg e,if_neg e2];exact .inl rfl
 |false =>
  refine .inl ?_
  unfold rt aZ
  rw[h];rfl
theorem EA (p:Int):bR n (lK pg st p) (Db pg st p):=
 a6 (fW (Q:=fun x:Int=>x=0∨ag pg p=true∧1≤x∧x≤pg-p) (Hd H p) (fun ws _=>NH H p ws) (fun x hx=>aD (vz H (by unfold W64;omega) x.toNat p (fun i hi=>by
  rcases hx with rfl|⟨h,h1,h2⟩
  ·simp at hi
  ·have:=ay.1 h;exact ay.2 ⟨by omega,by omega⟩)) (fun _=>ax n x))) (fun ws _=>rfl)
theorem vB (q:Int):bR n (lL pg st q) (fun ws=>(vy pg st ws q,ws)):=aD (mX H q) (fun k=>ax n (decide (k=0)))
theorem EB (q:Int):bR n (lN pg st q) (fun ws=>(sX pg st ws q,ws)):=by
 refine a6 (aD (qH H.toTblIn (ofV q)) (fun b=>bJ (fun _=>vB H q) (fun _=>ax n false))) (fun ws _=>?_)
 unfold sX vy
 by_cases e:bL pg st ws (ofV q)=true<;>simp[e]
theorem Bd {f:Int→Prg Bool}{g:List Int→Int→Bool}(hf:∀q,bR n (f q) (fun ws=>(g ws q,ws)))(m:Nat):∀q,bR n (jR f m q) (fun ws=>(nN (g ws) m q,ws)):=by
 induction m with
 |zero=>intro q;exact ax n none
 |succ m ih =>
  intro q
  refine a6 (aD (hf q) (fun b=>bJ (fun _=>ih (q+1)) (fun _=>ax n (some q)))) (fun ws _=>?_)
  show _=((if g ws q then nN (g ws) m (q+1) else some q),ws)
  by_cases e:g ws q=true<;>simp[e]
theorem sY {f:Int→Prg Bool}{g:List Int→Int→Bool}(hf:∀q,bR n (f q) (fun ws=>(g ws q,ws)))(m step:Int)(j:Nat):∀p,bR n (jj f pg m step j p) (fun ws=>(po (g ws) pg m step j p,ws)):=by
 induction j with
 |zero=>intro p;exact ax n (-1)
 |succ j ih =>
  intro p
  refine a6 (bJ (fun _=>aD (Bd H hf m.toNat p) (fun r=>(?_:bR n _ (fun ws=>((match r with|none=>p|some q=>po (g ws) pg m step j ((q / step+1) * step)),ws))))) (fun _=>ax n (-1))) (fun ws _=>?_)
  ·cases r with
   |none=>exact ax n p
   |some q=>exact ih _
  ·show _=((if p≤pg-m then(match nN (g ws) m.toNat p with|none=>p|some q=>po (g ws) pg m step j ((q / step+1) * step)) else -1),ws)
   by_cases e:p≤pg-m<;>simp[e]
theorem EC (m step:Int):bR n (kI pg st m step) (fun ws=>(jl pg st m step ws,ws)):=by
 refine a6 (bJ (fun _=>aD (sY H (EB H) m step (pg.toNat+1) 0) (fun p=>bJ (fun _=>sY H (vB H) m step (pg.toNat+1) 0) (fun _=>ax n p))) (fun _=>ax n (-1))) (fun ws _=>?_)
 unfold jl lZ
 by_cases e:1≤m∧1≤step
 ·simp only[if_pos e]
  by_cases e2:po (sX pg st ws) pg m step (pg.toNat+1) 0= -1
  ·simp only[if_pos e2]
  ·simp only[if_neg e2]
 ·simp only[if_neg e]
end
theorem jD {pg st:Int}{ws:List Int}{p:Int}(h:ag pg p=true):aZ pg st ws p=wAt ws (kA pg st p):=by unfold aZ;rw[h];rfl
theorem iu {pg st:Int}{ws:List Int}{p:Int}(h:ag pg p=false):aZ pg st ws p= -1:=by unfold aZ;rw[h];rfl
section
variable {pg st:Int}{n:Nat}(H:PgIn pg st n)
include H
theorem eZ (p k x:Int)(ws:List Int):(fB pg st p k x ws).length=ws.length:=by simp[fB]
theorem ij {p:Int}(h:ag pg p=true)(k x:Int){ws:List Int}(hn:ws.length=n){i:Int}(hi:0≤i):wAt (fB pg st p k x ws) i=if i=bA pg st p then 0 else if i=cA pg st p then x else if i=kA pg st p then k else wAt ws i:=by
 obtain⟨⟨a0,a1,a2⟩,⟨b0,b1,b2⟩,c0,c1,c2⟩:=cu H h
 unfold fB
 rw[dI (by omega) hi (by simp[hn];exact c1),dI (by omega) hi (by simp[hn];exact b1),dI (by omega) hi (by rw[hn];exact a1)]
theorem ma {k p:Int}(hk:bS pg k=true)(h:ag pg p=true):dW pg st k≠kA pg st p∧dW pg st k≠cA pg st p∧dW pg st k≠bA pg st p:=by
 have:=dc.1 hk;have:=ay.1 h;have:=H.pg1
 rw[lG hk];unfold kA cA bA;omega
theorem mY {p:Int}(h:ag pg p=true)(k x:Int){ws:List Int}(hn:ws.length=n)(q:Int):aZ pg st (fB pg st p k x ws) q=if q=p then k else aZ pg st ws q:=by
 cases hq:ag pg q with
 |false =>
  rw[iu hq,iu hq,if_neg (by rintro rfl;rw[h] at hq;cases hq)]
 |true =>
  have h0:=(cu H hq).1.1
  have:=ay.1 h;have:=ay.1 hq
  rw[jD hq,jD hq,ij H h k x hn (by omega),if_neg (by unfold kA bA;omega),if_neg (by unfold kA cA;omega)]
  by_cases e:q=p
  ·rw[if_pos e,if_pos (by rw[e])]
  ·rw[if_neg e,if_neg (by unfold kA;omega)]
theorem me {p:Int}(h:ag pg p=true)(k x:Int){ws:List Int}(hn:ws.length=n){q:Int}(hq:ag pg q=true):cG pg st (fB pg st p k x ws) q=if q=p then x else cG pg st ws q:=by
 have h0:=(cu H hq).2.1.1
 have:=ay.1 h;have:=ay.1 hq
 unfold cG
 rw[ij H h k x hn (by omega),if_neg (by unfold cA bA;omega)]
 by_cases e:q=p
 ·rw[if_pos e,if_pos (by rw[e])]
 ·rw[if_neg e,if_neg (by unfold cA;omega),if_neg (by unfold cA kA;omega)]
theorem pp {p:Int}(h:ag pg p=true)(k x:Int){ws:List Int}(hn:ws.length=n){q:Int}(hq:ag pg q=true):c8 pg st (fB pg st p k x ws) q=if q=p then 0 else c8 pg st ws q:=by
 have h0:=(cu H hq).2.2.1
 have:=ay.1 h;have:=ay.1 hq
 unfold c8
 rw[ij H h k x hn (by omega)]
 by_cases e:q=p
 ·rw[if_pos e,if_pos (by rw[e])]
 ·rw[if_neg e,if_neg (by unfold bA;omega),if_neg (by unfold cA bA;omega),if_neg (by unfold bA kA;omega)]
theorem ta {p:Int}(h:ag pg p=true)(k x:Int){ws:List Int}(hn:ws.length=n)(j:Int):bL pg st (fB pg st p k x ws) j=bL pg st ws j:=by
 unfold bL
 cases hj:bS pg j with
 |false=>rfl
 |true =>
  have h0:=(oV H.toTblIn hj).1
  obtain⟨t0,t1,t2⟩:=ma H hj h
  rw[ij H h k x hn (by omega),if_neg t2,if_neg t1,if_neg t0]
theorem He (k:Int)(m:Nat):∀(q:Int) (ws:List Int),(ip pg st k m q ws).length=ws.length:=by
 induction m with
 |zero=>intro q ws;rfl
 |succ m ih=>intro q ws;show(ip pg st k m (q+1) _).length=_;rw[ih,eZ H]
theorem jm {m:Nat}{q:Int}(h:∀i:Nat,i<m+1→ag pg (q+i)=true):ag pg q=true∧∀i:Nat,i<m→ag pg (q+1+i)=true :=
 ⟨by simpa using h 0 (by omega),fun i hi=>by have:=h (i+1) (by omega);rwa [show q+((i+1:Nat):Int)=q+1+(i:Int) by omega] at this⟩
theorem ED (k:Int)(m:Nat):∀(q:Int) (ws:List Int),ws.length=n→(∀i:Nat,i<m→ag pg (q+i)=true)→∀p,aZ pg st (ip pg st k m q ws) p=if q≤p∧p<q+m then k else aZ pg st ws p:=by
 induction m with
 |zero=>intro q ws _ _ p;rw[if_neg (by omega)];rfl
 |succ m ih =>
  intro q ws hn h p
  obtain⟨h0,h1⟩:=jm H h
  show aZ pg st (ip pg st k m (q+1) (fB pg st q k 0 ws)) p=_
  rw[ih _ _ (by rw[eZ H];exact hn) h1,mY H h0 k 0 hn]
  by_cases e:p=q
  ·rw[if_neg (by omega),if_pos e,if_pos (by omega)]
  ·rw[if_neg e]
   by_cases e2:q+1≤p∧p<q+1+(m:Int)
   ·rw[if_pos e2,if_pos (by omega)]
   ·rw[if_neg e2,if_neg (by omega)]
theorem Hf (k:Int)(m:Nat):∀(q:Int) (ws:List Int),ws.length=n→(∀i:Nat,i<m→ag pg (q+i)=true)→∀p,ag pg p=true→cG pg st (ip pg st k m q ws) p=if q≤p∧p<q+m then 0 else cG pg st ws p:=by
 induction m with
 |zero=>intro q ws _ _ p _;rw[if_neg (by omega)];rfl
 |succ m ih =>
  intro q ws hn h p hp
  obtain⟨h0,h1⟩:=jm H h
  show cG pg st (ip pg st k m (q+1) (fB pg st q k 0 ws)) p=_
  rw[ih _ _ (by rw[eZ H];exact hn) h1 p hp,me H h0 k 0 hn hp]
  by_cases e:p=q
  ·rw[if_neg (by omega),if_pos e,if_pos (by omega)]
  ·rw[if_neg e]
   by_cases e2:q+1≤p∧p<q+1+(m:Int)
   ·rw[if_pos e2,if_pos (by omega)]
   ·rw[if_neg e2,if_neg (by omega)]
theorem Hg (k:Int)(m:Nat):∀(q:Int) (ws:List Int),ws.length=n→(∀i:Nat,i<m→ag pg (q+i)=true)→∀p,ag pg p=true→c8 pg st (ip pg st k m q ws) p=if q≤p∧p<q+m then 0 else c8 pg st ws p:=by
 induction m with
 |zero=>intro q ws _ _ p _;rw[if_neg (by omega)];rfl
 |succ m ih =>
  intro q ws hn h p hp
  obtain⟨h0,h1⟩:=jm H h
  show c8 pg st (ip pg st k m (q+1) (fB pg st q k 0 ws)) p=_
  rw[ih _ _ (by rw[eZ H];exact hn) h1 p hp,pp H h0 k 0 hn hp]
  by_cases e:p=q
  ·rw[if_neg (by omega),if_pos e,if_pos (by omega)]
  ·rw[if_neg e]
   by_cases e2:q+1≤p∧p<q+1+(m:Int)
   ·rw[if_pos e2,if_pos (by omega)]
   ·rw[if_neg e2,if_neg (by omega)]
theorem Hh (k:Int)(m:Nat):∀(q:Int) (ws:List Int),ws.length=n→(∀i:Nat,i<m→ag pg (q+i)=true)→∀j,bL pg st (ip pg st k m q ws) j=bL pg st ws j:=by
 induction m with
 |zero=>intro q ws _ _ j;rfl
 |succ m ih =>
  intro q ws hn h j
  obtain⟨h0,h1⟩:=jm H h
  show bL pg st (ip pg st k m (q+1) (fB pg st q k 0 ws)) j=_
  rw[ih _ _ (by rw[eZ H];exact hn) h1 j,ta H h0 k 0 hn]
theorem Hi (k:Int)(m:Nat):∀(q:Int) (ws:List Int),ws.length=n→(∀i:Nat,i<m→ag pg (q+i)=true)→∀i,0≤i→(∀p,ag pg p=true→i≠kA pg st p∧i≠cA pg st p∧i≠bA pg st p)→wAt (ip pg st k m q ws) i=wAt ws i:=by
 induction m with
 |zero=>intro q ws _ _ i _ _;rfl
 |succ m ih =>
  intro q ws hn h i hi ho
  obtain⟨h0,h1⟩:=jm H h
  obtain⟨o1,o2,o3⟩:=ho q h0
  show wAt (ip pg st k m (q+1) (fB pg st q k 0 ws)) i=_
  rw[ih _ _ (by rw[eZ H];exact hn) h1 i hi ho,ij H h0 k 0 hn hi,if_neg o3,if_neg o2,if_neg o1]
end
structure Tab (pg st:Int)(ws ws':List Int):Prop where
 len:ws'.length=ws.length
 off:∀i:Int,0≤i→(∀k,bS pg k=true→i≠dW pg st k)→wAt ws' i=wAt ws i
section
variable {pg st:Int}{n:Nat}(H:PgIn pg st n)
include H
theorem Tab.kind {ws ws':List Int}(h:Tab pg st ws ws')(p:Int):aZ pg st ws' p=aZ pg st ws p:=by
 cases hp:ag pg p with
 |false=>rw[iu hp,iu hp]
 |true=>rw[jD hp,jD hp,h.off _ (by have:=(cu H hp).1.1;omega) (fun k hk e=>(ma H hk hp).1 e.symm)]
theorem Tab.cnt {ws ws':List Int}(h:Tab pg st ws ws'){p:Int}(hp:ag pg p=true):cG pg st ws' p=cG pg st ws p :=
 h.off _ (by have:=(cu H hp).2.1.1;omega) (fun k hk e=>(ma H hk hp).2.1 e.symm)
theorem Tab.bit {ws ws':List Int}(h:Tab pg st ws ws'){p:Int}(hp:ag pg p=true):c8 pg st ws' p=c8 pg st ws p :=
 h.off _ (by have:=(cu H hp).2.2.1;omega) (fun k hk e=>(ma H hk hp).2.2 e.symm)
theorem td {x y:Int}(ht:cm pg x y=true){ws:List Int}(hn:ws.length=n):Ec ws (gx pg st x y ws).2 (fun i=>∃j:Nat,j<spanV x y∧i=dW pg st (x / 4+j)):=by
 have h2:=yx H.toTblIn (spanV x y) (x / 4) 0 ws ws (fun _=>False) hn (Ed ws _ (fun _ q=>q)) (fun i hi=>wM ht i hi)
 unfold gx
 rw[if_pos ht]
 exact⟨h2.len,fun i h0=>⟨fun q=>(h2.eq i h0).1 (.inr q),fun q=>(h2.eq i h0).2 (by rintro(r|r);exact r;exact q r)⟩⟩
theorem JW {x y:Int}(ht:cm pg x y=true){ws:List Int}(hn:ws.length=n):Tab pg st ws (gx pg st x y ws).2 :=
 ⟨(td H ht hn).len,fun i h0 ho=>((td H ht hn).eq i h0).2 (by rintro⟨j,hj,e⟩;exact ho _ (wM ht j hj) e)⟩
theorem JX {x y:Int}(ht:cm pg x y=true){ws:List Int}(hn:ws.length=n){j:Int}(hj:bS pg j=true):bL pg st (gx pg st x y ws).2 j=(bL pg st ws j ||(decide (x / 4≤j) && decide (j≤(x+y-1) / 4))):=by
 have h:=td H ht hn
 obtain⟨t0,t1,t2⟩:=oV H.toTblIn hj
 obtain⟨s1,s2⟩:=Av ht H.pg2
 unfold bL
 rw[hj]
 by_cases e:x / 4≤j∧j≤(x+y-1) / 4
 ·rw[(h.eq _ (by omega)).1 ⟨(j-x / 4).toNat,by omega,by congr 1;omega⟩]
  simp[e]
 ·rw[(h.eq _ (by omega)).2 (by
   rintro⟨i,hi,q⟩
   have hc:=wM ht i hi
   rw[lG hj,lG hc] at q
   omega)]
  by_cases e1:x / 4≤j
  ·have:¬j≤(x+y-1) / 4:=fun q=>e ⟨e1,q⟩
   simp[this]
  ·simp[e1]
end
structure Wf (pg st:Int)(ws:List Int):Prop where
 b:∀p,ag pg p=true→0≤aZ pg st ws p∧aZ pg st ws p≤7
 rest:∀p,aZ pg st ws p=7→aZ pg st ws (p-1)=6∨aZ pg st ws (p-1)=7
 run:∀p,aZ pg st ws p=6→1≤cG pg st ws p∧cG pg st ws p≤pg-p∧(∀i,p<i→i<p+cG pg st ws p→aZ pg st ws i=7)∧aZ pg st ws (p+cG pg st ws p)≠7
 free:∀p,aZ pg st ws p=0→cG pg st ws p=0∧c8 pg st ws p=0
 map:∀p,ag pg p=true→aZ pg st ws p≠0→bL pg st ws (p / 4)=true
theorem EE (pg st:Int)(ws:List Int)(m:Nat):∀q:Int,sV pg st m q ws=true↔∀i:Int,q≤i→i<q+m→aZ pg st ws i=0:=by
 induction m with
 |zero=>intro q;simp only[sV,true_iff];intro i h0 h1;omega
 |succ m ih =>
  intro q
  show(decide (aZ pg st ws q=0) && sV pg st m (q+1) ws)=true↔_
  rw[Bool.and_eq_true,decide_eq_true_eq,ih]
  constructor
  ·rintro⟨h0,h1⟩ i a0 a1
   by_cases e:i=q
   ·rw[e];exact h0
   ·exact h1 i (by omega) (by omega)
  ·intro h
   exact⟨h q (by omega) (by omega),fun i a0 a1=>h i (by omega) (by omega)⟩
theorem te {pg st p n:Int}{ws:List Int} :sW pg st p n ws=true↔cm pg p n=true∧∀i:Int,p≤i→i<p+n→aZ pg st ws i=0:=by
 unfold sW
 rw[Bool.and_eq_true,EE]
 constructor
 ·rintro⟨h0,h1⟩
  obtain⟨a,b,c⟩:=dZ.1 h0
  exact⟨h0,fun i a0 a1=>h1 i a0 (by omega)⟩
 ·rintro⟨h0,h1⟩
  exact⟨h0,fun i a0 a1=>h1 i a0 (by obtain⟨a,b,c⟩:=dZ.1 h0;omega)⟩
theorem yX {pg p:Int}(h:ag pg p=true):bS pg (p / 4)=true:=by
 have:=ay.1 h
 rw[dc];unfold aO;omega
section
variable {pg st:Int}{n:Nat}(H:PgIn pg st n)
include H
structure Hj (pg st p m k:Int)(ws ws':List Int):Prop where
 len:ws'.length=ws.length
 kind:∀q,aZ pg st ws' q=if q=p then k else if p<q∧q<p+m then 7 else aZ pg st ws q
 cnt:∀q,ag pg q=true→cG pg st ws' q=if q=p then(if k=6 then m else 0) else if p<q∧q<p+m then 0 else cG pg st ws q
 bit:∀q,ag pg q=true→c8 pg st ws' q=if p≤q∧q<p+m then 0 else c8 pg st ws q
 map:∀j,bS pg j=true→bL pg st ws' j=(bL pg st ws j ||(decide (p / 4≤j) && decide (j≤(p+m-1) / 4)))
 off:∀i:Int,0≤i→(∀p,ag pg p=true→i≠kA pg st p∧i≠cA pg st p∧i≠bA pg st p)→(∀k,bS pg k=true→i≠dW pg st k)→wAt ws' i=wAt ws i
theorem EF {p m k:Int}{ws:List Int}(hn:ws.length=n)(ht:cm pg p m=true):Hj pg st p m k ws (ip pg st 7 (m-1).toNat (p+1) (fB pg st p k (if k=6 then m else 0) (gx pg st p m ws).2)):=by
 obtain⟨t0,t1,t2⟩:=dZ.1 ht
 have T:=JW H ht hn
 have hE:(gx pg st p m ws).2.length=n:=T.len.trans hn
 have hp:ag pg p=true:=ay.2 ⟨by omega,by omega⟩
 have hP:(fB pg st p k (if k=6 then m else 0) (gx pg st p m ws).2).length=n:=by rw[eZ H];exact hE
 have hr:∀i:Nat,i<(m-1).toNat→ag pg (p+1+i)=true:=fun i hi=>ay.2 ⟨by omega,by omega⟩
 have hc:(((m-1).toNat:Nat):Int)=m-1:=by omega
 refine⟨by rw[He H,eZ H,T.len],fun q=>?_,fun q hq=>?_,fun q hq=>?_,fun j hj=>?_,fun i h0 o1 o2=>?_⟩
 ·rw[ED H _ _ _ _ hP hr,mY H hp _ _ hE,T.kind H,hc]
  by_cases e:q=p
  ·rw[if_neg (by omega),if_pos e,if_pos e]
  ·rw[if_neg e,if_neg e]
   by_cases e2:p<q∧q<p+m
   ·rw[if_pos (by omega),if_pos e2]
   ·rw[if_neg (by omega),if_neg e2]
 ·rw[Hf H _ _ _ _ hP hr q hq,me H hp _ _ hE hq,T.cnt H hq,hc]
  by_cases e:q=p
  ·rw[if_neg (by omega),if_pos e,if_pos e]
  ·rw[if_neg e,if_neg e]
   by_cases e2:p<q∧q<p+m
   ·rw[if_pos (by omega),if_pos e2]
   ·rw[if_neg (by omega),if_neg e2]
 ·rw[Hg H _ _ _ _ hP hr q hq,pp H hp _ _ hE hq,T.bit H hq,hc]
  by_cases e:q=p
  ·rw[if_neg (by omega),if_pos e,if_pos (by omega)]
  ·rw[if_neg e]
   by_cases e2:p<q∧q<p+m
   ·rw[if_pos (by omega),if_pos (by omega)]
   ·rw[if_neg (by omega),if_neg (by omega)]
 ·rw[Hh H _ _ _ _ hP hr,ta H hp _ _ hE,JX H ht hn hj]
 ·obtain⟨o3,o4,o5⟩:=o1 p hp
  rw[Hi H _ _ _ _ hP hr i h0 o1,ij H hp _ _ hE h0,if_neg o5,if_neg o4,if_neg o3,T.off i h0 o2]
structure Om (pg st p m:Int)(ws ws':List Int):Prop where
 len:ws'.length=ws.length
 kind:∀q,aZ pg st ws' q=if p≤q∧q<p+m then 0 else aZ pg st ws q
 cnt:∀q,ag pg q=true→cG pg st ws' q=if p≤q∧q<p+m then 0 else cG pg st ws q
 bit:∀q,ag pg q=true→c8 pg st ws' q=if p≤q∧q<p+m then 0 else c8 pg st ws q
 map:∀j,bL pg st ws' j=bL pg st ws j
 off:∀i:Int,0≤i→(∀p,ag pg p=true→i≠kA pg st p∧i≠cA pg st p∧i≠bA pg st p)→wAt ws' i=wAt ws i
end
open Go.ChangeShapes Go.WideShapes Go.ChangeAt Go.Joins Go.Deep
theorem EG (b o j:Nat):(⟨b,o,none⟩:Addr).add j=⟨b,o+j,none⟩:=by
 unfold Addr.add
 by_cases q:j=0
 ·subst q;simp
 ·simp[q]
theorem Hk {α:Type}{n:Nat}{f:Nat→α}{i:Nat}{t:α}(h:((List.range n).map f)[i]?=some t):i<n∧t=f i:=by
 rw[List.getElem?_map] at h
 by_cases q:i<n
 ·rw[List.getElem?_range q] at h;exact⟨q,by simpa using h.symm⟩
 ·rw[List.getElem?_eq_none (by simpa using q)] at h;cases h
section
variable {H:Type}{enc:TypeId×Value→H}{P:Program}{w:World}{base:Nat}{spare:Nat→Bool}{held:Bool}
end
section
variable {H:Type}{enc:TypeId×Value→H}{P:Program}{w:World}{base:Nat}{spare:Nat→Bool}{held:Bool}
end
theorem Hl {α:Type}{l:List α}{j:Nat}{x:α}(h:l[j]?=some x):l.drop j=x::l.drop (j+1):=by
 have hj:j<l.length:=by
  rcases Nat.lt_or_ge j l.length with q|q
  ·exact q
  ·rw[List.getElem?_eq_none q] at h;cases h
 rw[List.drop_eq_getElem_cons hj]
 rw[List.getElem?_eq_getElem hj] at h
 cases h;rfl
def Mi (pg st k:Int)(ws:List Int):Bool:=sW pg st (pR pg k) (fw pg k) ws
section
variable {pg st:Int}{n:Nat}(H:PgIn pg st n)
include H
structure NT (pg st:Int)(lo s:Int)(ws:List Int)(r:Int×List Int):Prop where
 tab:Tab pg st ws r.2
 wf:Wf pg st r.2
 cnt:GB pg st r.2=GB pg st ws-(r.1-s)
 le:s≤r.1
 map:∀j,bS pg j=true→bL pg st r.2 j=if lo≤j then(bL pg st ws j && !Mi pg st j ws) else bL pg st ws j
end
section
variable {pg st:Int}{n:Nat}(H:PgIn pg st n)
include H
end
def opN (pg st:Int)(ws:List Int)(mp:Bool):Nat→Int→Bool
 | 0,_=>true
 |m+1,q=>(decide (aZ pg st ws q=0) && (!mp ||bL pg st ws (ofV q))) && opN pg st ws mp m (q+1)
theorem NU (pg st:Int)(ws:List Int)(mp:Bool)(m:Nat):∀q:Int,opN pg st ws mp m q=true↔∀i:Int,q≤i→i<q+m→aZ pg st ws i=0∧(mp=true→bL pg st ws (ofV i)=true):=by
 induction m with
 |zero=>intro q;exact⟨fun _ i h0 h1=>by omega,fun _=>rfl⟩
 |succ m ih =>
  intro q
  show((decide (aZ pg st ws q=0) && (!mp ||bL pg st ws (ofV q))) && opN pg st ws mp m (q+1))=true↔_
  rw[Bool.and_eq_true,Bool.and_eq_true,ih]
  constructor
  ·rintro⟨⟨h0,h1⟩,h2⟩ i hi hl
   by_cases e:i=q
   ·subst e
    refine⟨by simpa using h0,fun hm=>?_⟩
    rw[hm] at h1;simpa using h1
   ·exact h2 i (by omega) (by omega)
  ·intro h
   obtain⟨a,b⟩:=h q (by omega) (by omega)
   refine⟨⟨by simpa using a,?_⟩,fun i hi hl=>h i (by omega) (by omega)⟩
   cases mp with
   |false=>rfl
   |true=>simpa using b rfl
def Dc (f:Int→Bool)(pg m q:Int):Prop:=q≤pg-m∧∀i,q≤i→i<q+m→f i=true
theorem Be {f:Int→Bool}(m:Nat):∀q:Int,nN f m q=none→∀i,q≤i→i<q+m→f i=true:=by
 induction m with
 |zero=>intro q _ i h0 h1;omega
 |succ m ih =>
  intro q h i h0 h1
  have h:(if f q then nN f m (q+1) else some q)=none:=h
  by_cases e:f q=true
  ·rw[if_pos e] at h
   by_cases ei:i=q
   ·rw[ei];exact e
   ·exact ih (q+1) h i (by omega) (by omega)
  ·rw[if_neg e] at h;cases h
theorem Bf {f:Int→Bool}(m:Nat):∀q x:Int,nN f m q=some x→q≤x∧x<q+m∧f x=false:=by
 induction m with
 |zero=>intro q x h;cases h
 |succ m ih =>
  intro q x h
  have h:(if f q then nN f m (q+1) else some q)=some x:=h
  by_cases e:f q=true
  ·rw[if_pos e] at h
   obtain⟨a,b,c⟩:=ih (q+1) x h
   exact⟨by omega,by omega,c⟩
  ·rw[if_neg e] at h
   cases h
   exact⟨by omega,by omega,by simpa using e⟩
theorem Bg {f:Int→Bool}{pg m step:Int}(h1:1≤m)(h2:1≤step)(j:Nat):∀p d:Int,p=d * step→0≤p→pg<p+j →
 (po f pg m step j p= -1∧∀k:Int,p≤k * step→¬Dc f pg m (k * step))∨∃k:Int,po f pg m step j p=k * step∧p≤k * step∧Dc f pg m (k * step)∧∀l:Int,p≤l * step→l * step<k * step→¬Dc f pg m (l * step):=by
 induction j with
 |zero=>intro p d hp h0 hj;exact .inl ⟨rfl,fun k hk hh=>by have:=hh.1;omega⟩
 |succ j ih =>
  intro p d hp h0 hj
  unfold po
  by_cases e:p≤pg-m
  ·rw[if_pos e]
   cases hs:nN f m.toNat p with
   |none =>
    have:=Be _ _ hs
    exact .inr ⟨d,hp,by omega,⟨by omega,fun i a b=>this i (by omega) (by omega)⟩,fun l a b=>by omega⟩
   |some q =>
    obtain⟨s0,s1,s2⟩:=Bf _ _ _ hs
    have q0:q / step * step≤q:=Int.ediv_mul_le q (by omega)
    have q1:q<(q / step+1) * step:=Int.lt_ediv_add_one_mul_self q (by omega)
    have skip:∀l:Int,p≤l * step→l * step<(q / step+1) * step→¬Dc f pg m (l * step):=fun l a b hh=>by
     have hl:l<q / step+1:=Int.lt_of_mul_lt_mul_right b (by omega)
     have hl2:l * step≤q / step * step:=Int.mul_le_mul_of_nonneg_right (by omega) (by omega)
     have:=hh.2 q (by omega) (by omega)
     rw[s2] at this;cases this
    rcases ih ((q / step+1) * step) (q / step+1) rfl (by omega) (by omega) with⟨a,b⟩|⟨k,a,b,c,d'⟩
    ·refine .inl ⟨a,fun k hk=>?_⟩
     rcases Int.lt_or_le (k * step) ((q / step+1) * step) with z|z
     ·exact skip k hk z
     ·exact b k z
    ·refine .inr ⟨k,a,by omega,c,fun l hl hl2=>?_⟩
     rcases Int.lt_or_le (l * step) ((q / step+1) * step) with z|z
     ·exact skip l hl z
     ·exact d' l z hl2
  ·rw[if_neg e]
   exact .inl ⟨rfl,fun k hk hh=>by have:=hh.1;omega⟩
section
variable {pg st:Int}{n:Nat}(H:PgIn pg st n)
include H
end
def ci (pg a:Int)(ws:List Int):Int:=if a=0 then -1 else gU pg (wAt ws a)
def plThrV (pg st p:Int):Nat→Int→List Int→List Int→List Int×Bool
 | 0,_,l,_=>(l,false)
 |m+1,a,l,ws=>if ci pg a ws=p then(l,true) else if ci pg a ws= -1 then(l,false) else plThrV pg st p m (nA pg st (ci pg a ws)) (l++ [ci pg a ws]) ws
def cQ (pg st h p q:Int)(ws:List Int):List Int:=if q= -1 then ws.set (if p= -1 then h else nA pg st p).toNat (q+1) else(ws.set (if p= -1 then h else nA pg st p).toNat (q+1)).set (vA pg st q).toNat (p+1)
def eH (pg st p c f:Int)(ws:List Int):Bool×List Int:=if aI pg st c f≠0∧ag pg p=true then(true,cQ pg st (aI pg st c f) (-1) p (cQ pg st (aI pg st c f) p (ci pg (aI pg st c f) ws) ws)) else(false,ws)
def cE (pg st p c f:Int)(ws:List Int):Bool×List Int:=if ag pg p=true∧(plThrV pg st p pg.toNat (aI pg st c f) [] ws).2=true then(true,((cQ pg st (aI pg st c f) (cB (plThrV pg st p pg.toNat (aI pg st c f) [] ws).1) (ci pg (nA pg st p) ws) ws).set (nA pg st p).toNat 0).set (vA pg st p).toNat 0) else(false,ws)
def dh (pg st c:Int):Nat→Int→List Int→Int
 | 0,_,_=> -1
 |m+1,f,ws=>if ci pg (aI pg st c f) ws= -1 then dh pg st c m (f+1) ws else ci pg (aI pg st c f) ws
section
variable {pg st:Int}{n:Nat}(H:cH pg st n)
include H
theorem jE {a:Int}(h0:0≤a)(ha:a<n):bR n (ep pg a) (fun ws=>(ci pg a ws,ws)):=by
 unfold ep ci
 by_cases e:a=0
 ·simp only[if_pos e];exact ax n (-1)
 ·simp only[if_neg e];exact aD (dY h0 ha) (fun x=>ax n (gU pg x))
theorem tf (a:Int)(ws:List Int):ci pg a ws= -1∨ag pg (ci pg a ws)=true:=by
 unfold ci
 split
 ·exact .inl rfl
 ·exact yB H _
theorem yY (p:Int)(m:Nat):∀(a:Int) (l:List Int),0≤a→a<n→bR n (kK pg st p m a l) (fun ws=>(plThrV pg st p m a l ws,ws)):=by
 induction m with
 |zero=>intro a l _ _;exact ax n (l,false)
 |succ m ih =>
  intro a l h0 ha
  refine a6 (fW (Q:=fun q:Int=>q= -1∨ag pg q=true) (jE H h0 ha) (fun ws _=>tf H a ws) (fun q hq=>bJ (fun _=>ax n (l,true)) (fun _=>bJ (fun _=>ax n (l,false)) (fun hne=>by
   have hp:=hq.resolve_left hne
   have:=(eF H hp).1
   exact ih (nA pg st q) (l++ [q]) (by omega) this.2.1)))) (fun ws _=>?_)
  show _=(if ci pg a ws=p then(l,true) else if ci pg a ws= -1 then(l,false) else plThrV pg st p m (nA pg st (ci pg a ws)) (l++ [ci pg a ws]) ws,ws)
  by_cases e:ci pg a ws=p
  ·simp only[if_pos e]
  ·by_cases e2:ci pg a ws= -1
   ·simp only[if_neg e,if_pos e2]
   ·simp only[if_neg e,if_neg e2]
theorem Bh (p c f:Int):bR n (kL pg st p c f) (fun ws=>(plThrV pg st p pg.toNat (aI pg st c f) [] ws,ws)):=yY H p _ _ _ (bG H).1 (bG H).2.1
theorem mg {h p q:Int}(h0:0≤h)(h1:W64 h)(h2:h<n)(hp:p= -1∨ag pg p=true)(hq:q= -1∨ag pg q=true):bR n (eT pg st h p q) (fun ws=>((),cQ pg st h p q ws)):=by
 have first:bR n (if p= -1 then cP h (q+1) else cP (nA pg st p) (q+1)) (fun ws=>((),ws.set (if p= -1 then h else nA pg st p).toNat (q+1))):=by
  by_cases e:p= -1
  ·simp only[if_pos e];exact df h0 h2 h1 (nJ H hq)
  ·simp only[if_neg e]
   obtain⟨⟨a,b,c⟩,_⟩:=eF H (hp.resolve_left e)
   exact df (by omega) b c (nJ H hq)
 refine a6 (aD first (fun _=>bJ (fun _=>ax n ()) (fun hne=>by
  obtain⟨_,a,b,c⟩:=eF H (hq.resolve_left hne)
  exact df (by omega) b c (nJ H hp)))) (fun ws _=>?_)
 unfold cQ
 by_cases e:q= -1
 ·simp only[if_pos e]
 ·simp only[if_neg e]
theorem yZ (p c f:Int):bR n (iP pg st p c f) (eH pg st p c f):=by
 unfold iP
 by_cases hz:aI pg st c f=0
 ·rw[if_pos hz]
  exact a6 (ax n false) (fun ws _=>by unfold eH;rw[if_neg (by rintro⟨a,_⟩;exact a hz)])
 rw[if_neg hz]
 cases hp:ag pg p with
 |false=>exact a6 (ax n false) (fun ws _=>by unfold eH;rw[if_neg (by rintro⟨_,a⟩;rw[hp] at a;cases a)])
 |true =>
  rw[if_pos rfl]
  obtain⟨b0,b1,b2⟩:=bG (c:=c) (f:=f) H
  refine a6 (fW (Q:=fun q:Int=>q= -1∨ag pg q=true) (jE H b0 b1) (fun ws _=>tf H _ ws) (fun q hq=>aD (mg H b0 b2 b1 (.inr hp) hq) (fun _=>aD (mg H b0 b2 b1 (.inl rfl) (.inr hp)) (fun _=>ax n true)))) (fun ws _=>?_)
  unfold eH
  rw[if_pos ⟨hz,hp⟩]
theorem EH (p:Int)(m:Nat)(ws:List Int):∀(a:Int) (l:List Int),(∀x∈l,ag pg x=true)→∀x∈(plThrV pg st p m a l ws).1,ag pg x=true:=by
 induction m with
 |zero=>intro a l hl;exact hl
 |succ m ih =>
  intro a l hl
  unfold plThrV
  split
  ·exact hl
  ·split
   ·exact hl
   ·rename_i hne
    exact ih _ _ (fun x hx=>by
     rcases List.mem_append.1 hx with h|h
     ·exact hl x h
     ·rw[List.mem_singleton.1 h];exact(tf H a ws).resolve_left hne)
theorem uB (p c f:Int):bR n (fD pg st p c f) (cE pg st p c f):=by
 unfold fD
 cases hp:ag pg p with
 |false=>exact a6 (ax n false) (fun ws _=>by unfold cE;rw[if_neg (by rintro⟨a,_⟩;rw[hp] at a;cases a)])
 |true =>
  rw[if_pos rfl]
  obtain⟨b0,b1,b2⟩:=bG (c:=c) (f:=f) H
  obtain⟨⟨a0,a1,a2⟩,c0,c1,c2⟩:=eF H hp
  refine a6 (fW (Q:=fun r:List Int×Bool=>∀x∈r.1,ag pg x=true) (Bh H p c f) (fun ws _=>EH H _ _ _ _ _ (fun x hx=>by cases hx)) (fun r hr=>bJ (fun _=>fW (Q:=fun q:Int=>q= -1∨ag pg q=true) (jE H (by omega) a1) (fun ws _=>tf H _ ws) (fun q hq=>aD (mg H b0 b2 b1 (kN H hr) hq) (fun _=>aD (df (by omega) a1 a2 (by unfold W64;omega)) (fun _=>aD (df (by omega) c1 c2 (by unfold W64;omega)) (fun _=>ax n true))))) (fun _=>ax n false))) (fun ws _=>?_)
  unfold cE
  by_cases e:(plThrV pg st p pg.toNat (aI pg st c f) [] ws).2=true
  ·simp only[if_pos e,if_pos (And.intro hp e)]
  ·simp only[if_neg e];rw[if_neg (fun q=>e q.2)]
theorem nO (c:Int)(m:Nat):∀f,bR n (eY pg st c m f) (fun ws=>(dh pg st c m f ws,ws)):=by
 induction m with
 |zero=>intro f;exact ax n (-1)
 |succ m ih =>
  intro f
  obtain⟨b0,b1,b2⟩:=bG (c:=c) (f:=f) H
  refine a6 (aD (jE H b0 b1) (fun q=>bJ (fun _=>ih (f+1)) (fun _=>ax n q))) (fun ws _=>?_)
  show _=(if ci pg (aI pg st c f) ws= -1 then dh pg st c m (f+1) ws else ci pg (aI pg st c f) ws,ws)
  by_cases e:ci pg (aI pg st c f) ws= -1
  ·simp only[if_pos e]
  ·simp only[if_neg e]
end
end Go.Proofs.YtddmeghbmdfgeaaGreatDoor
