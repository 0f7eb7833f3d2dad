/-
  What package chunk's functions do, as programs over words, and as plain functions.
-/
import Derived.Test.YtddmeghbmdfgeaaGreatDoorFkAc
import Derived.Test.YtddmeghbmdfgeaaGreatDoorFkAa
import Derived.RangeFuncBox
import Derived.Shelf.Abstract
import Derived.LoopNIn
import Derived.LoopIn
import Derived.Deep.RegionHeld3
import Derived.OwnWalk
set_option maxRecDepth 100000
set_option maxHeartbeats 8000000
set_option linter.all false
namespace Go.Proofs.YtddmeghbmdfgeaaGreatDoor
def bR (pg k:Int):Bool:=decide (0≤k) && decide (k<aL pg)
theorem cY {pg k:Int} :bR pg k=true↔0≤k∧k<aL pg:=by simp[bR]
theorem yX {pg k:Int} :bR pg k=false↔¬(0≤k∧k<aL pg):=by
 cases h:bR pg k with
 |true=>simp[cY.1 h]
 |false=>simp only[true_iff];intro q;rw[cY.2 q] at h;cases h
theorem lO {pg st k:Int}(h:bR pg k=true):dT pg st k=aZ st+k:=if_pos (cY.1 h)
theorem Kg {pg st k:Int}(h:bR pg k=false):dT pg st k=0:=if_neg (yX.1 h)
def ofV (p:Int):Int:=if p<0 then -1 else p / 4
def qn (pg k:Int):Int:=if bR pg k then 4 * k else 0
def fC (pg k:Int):Int:=if bR pg k then min 4 (pg-4 * k) else 0
def ce (pg p n:Int):Bool:=decide (0≤p) && (decide (1≤n) && decide (n≤pg-p))
theorem dW {pg p n:Int} :ce pg p n=true↔0≤p∧1≤n∧n≤pg-p:=by simp[ce]
def dP (pg st k:Int):Prg Bool:=if bR pg k then ak (cS (dT pg st k)) (fun y=>ay (decide (y=1))) else ay false
def jI (pg st k x:Int):Prg Int:=if bR pg k then ak (dP pg st k) (fun b=>if b=decide (x=1) then ay 0 else ak (cM (dT pg st k) x) (fun _=>ay (fC pg k))) else ay 0
def ii (pg st:Int):Nat→Int→Int→Prg Int
 | 0,_,s=>ay s
 |m+1,k,s=>ak (jI pg st k 1) (fun x=>ii pg st m (k+1) (s+x))
def Hr (pg st:Int):Nat→Int→Int→Prg Int
 | 0,_,s=>ay s
 |m+1,k,s=>ak (dP pg st k) (fun b=>Hr pg st m (k+1) (s+if b then fC pg k else 0))
def spanV (p n:Int):Nat:=((p+n-1) / 4-p / 4+1).toNat
def gw (pg st p n:Int):Prg Int:=if ce pg p n then ii pg st (spanV p n) (p / 4) 0 else ay 0
def Bo (pg st:Int):Prg Int:=Hr pg st (aL pg).toNat 0 0
structure TblIn (pg st:Int)(n:Nat):Prop where
 st1:1≤st
 st2:st≤64
 pg1:1≤pg
 pg2:pg≤256
 top:aZ st+aL pg≤n
section
variable {pg st:Int}{n:Nat}(H:TblIn pg st n)
include H
theorem pl {k:Int}(h:bR pg k=true):4≤dT pg st k∧dT pg st k<n∧W64 (dT pg st k):=by
 rw[lO h]
 have:=cY.1 h
 have h1:=H.st1;have h2:=H.st2;have h3:=H.top;have h4:=H.pg1;have h5:=H.pg2
 unfold aL at *
 unfold aZ W64 at *
 omega
theorem MP (k:Int):0≤fC pg k∧fC pg k≤4:=by
 unfold fC
 split
 ·rename_i h
  have:=cY.1 h
  have:=H.pg1
  unfold aL at *
  omega
 ·omega
theorem jJ (k:Int):bQ n (fun _=>True) (dP pg st k):=by
 unfold dP
 split
 ·rename_i h
  exact ar (bb n (pl H h).2.1) (fun y _=>ai n trivial)
 ·exact ai n trivial
theorem qo (k x:Int)(hx:W64 x):bQ n (fun y=>0≤y∧y≤4) (jI pg st k x):=by
 unfold jI
 split
 ·rename_i h
  obtain⟨h0,h1,h2⟩:=pl H h
  refine ar (jJ H k) (fun b _=>?_)
  split
  ·exact ai n (by omega)
  ·exact ar (aQ n h2 h1 hx) (fun _ _=>ai n (MP H k))
 ·exact ai n (by omega)
theorem xq (m:Nat):∀k s:Int,0≤s→bQ n (fun y:Int=>0≤y∧y≤s+4 * m) (ii pg st m k s):=by
 induction m with
 |zero=>intro k s h;exact ai n (by omega)
 |succ m ih =>
  intro k s h
  exact ar (qo H k 1 (by unfold W64;omega)) (fun x hx=>de (ih _ _ (by omega)) (fun y hy=>by omega))
end
theorem po (pg st k:Int):bh (dP pg st k):=by
 unfold dP
 exact aH (aq (dx _) (fun _=>ah _)) (ah _)
theorem Bp (pg st k x:Int):bh (jI pg st k x):=by
 unfold jI
 exact aH (aq (po _ _ _) (fun _=>aH (ah _) (aq (cT _ _) (fun _=>ah _)))) (ah _)
theorem uY (pg st:Int)(m:Nat):∀k s,bh (ii pg st m k s):=by
 induction m with
 |zero=>intro k s;exact ah _
 |succ m ih=>intro k s;exact aq (Bp _ _ _ _) (fun x=>ih _ _)
theorem xr (pg st p n:Int):bh (gw pg st p n):=aH (uY _ _ _ _ _) (ah _)
theorem Bq {pg p n:Int}(h:ce pg p n=true)(h2:pg≤256):(spanV p n:Int)=(p+n-1) / 4-p / 4+1∧spanV p n≤64:=by
 obtain⟨h0,h1,h3⟩:=dW.1 h
 unfold spanV;omega
theorem xt {pg p n:Int}(h:ce pg p n=true)(i:Nat)(hi:i<spanV p n):bR pg (p / 4+i)=true:=by
 obtain⟨h0,h1,h3⟩:=dW.1 h
 rw[cY]
 unfold spanV at hi
 unfold aL
 omega
def bK (pg st:Int)(ws:List Int)(k:Int):Bool:=bR pg k && decide (wAt ws (dT pg st k)=1)
def lP (pg st:Int)(k x:Int)(ws:List Int):Int×List Int :=
 if bR pg k then(if bK pg st ws k=decide (x=1) then(0,ws) else(fC pg k,ws.set (dT pg st k).toNat x)) else(0,ws)
def rT (pg st:Int):Nat→Int→Int→List Int→Int×List Int
 | 0,_,s,ws=>(s,ws)
 |m+1,k,s,ws=>rT pg st m (k+1) (s+(lP pg st k 1 ws).1) (lP pg st k 1 ws).2
def Hs (pg st:Int):Nat→Int→Int→List Int→Int
 | 0,_,s,_=>s
 |m+1,k,s,ws=>Hs pg st m (k+1) (s+if bK pg st ws k then fC pg k else 0) ws
section
variable {pg st:Int}{n:Nat}(H:TblIn pg st n)
include H
theorem qZ (k:Int):bJ n (dP pg st k) (fun ws=>(bK pg st ws k,ws)):=by
 unfold dP bK
 split
 ·rename_i h
  obtain⟨h0,h1,h2⟩:=pl H h
  exact aU (aA (dV (by omega) h1) (fun y=>au n (decide (y=1)))) (fun ws _=>by simp[h])
 ·rename_i h
  exact aU (au n false) (fun ws _=>by simp[h])
theorem EN (k x:Int)(hx:W64 x):bJ n (jI pg st k x) (lP pg st k x):=by
 unfold jI
 split
 ·rename_i h
  obtain⟨h0,h1,h2⟩:=pl H h
  have hb:∀b:Bool,bJ n (if b=decide (x=1) then ay 0 else ak (cM (dT pg st k) x) (fun _=>ay (fC pg k))) (fun ws=>if b=decide (x=1) then(0,ws) else(fC pg k,ws.set (dT pg st k).toNat x)):=fun b=>by
   by_cases e:b=decide (x=1)
   ·rw[if_pos e];exact aU (au n 0) (fun ws _=>by rw[if_pos e])
   ·rw[if_neg e];exact aU (aA (df (by omega) h1 h2 hx) (fun _=>au n (fC pg k))) (fun ws _=>by rw[if_neg e])
  exact aU (aA (qZ H k) hb) (fun ws _=>by unfold lP;rw[if_pos h])
 ·rename_i h
  exact aU (au n 0) (fun ws _=>by unfold lP;rw[if_neg h])
theorem xu (m:Nat):∀k s,bJ n (ii pg st m k s) (rT pg st m k s):=by
 induction m with
 |zero=>intro k s;exact au n s
 |succ m ih=>intro k s;exact aA (EN H k 1 (by unfold W64;omega)) (fun x=>ih (k+1) (s+x))
end
theorem Hu (pg st k x:Int)(ws:List Int):(lP pg st k x ws).2.length=ws.length:=by
 unfold lP;split
 ·split<;>simp
 ·rfl
open Go.RowKit Go.Sort Go.Maps Go.Shelf
structure Cfg where
 wk:Int
 cp:Int
 pg:Int
 st:Int
 tr:Int
 wt:Int
 ck:Int
 pr:Int
 ca:Int
 bi:Int
 ba:Int
def Cfg.Ok (c:Cfg):Prop:=cR c.wk c.cp c.pg c.st c.tr c.wt c.ck c.pr c.ca c.bi c.ba
def Cfg.starts (c:Cfg):Nat→Int:=aE c.cp c.pg c.st c.ca c.bi
def Cfg.arr (c:Cfg):Array Value:=aI c.wk c.cp c.pg c.st c.tr c.wt c.ck c.pr c.ca c.bi c.ba c.starts
def Cfg.cells (c:Cfg):Array Value:= #[.int .i64 c.wk,.int .i64 c.cp,.int .i64 c.pg,.int .i64 c.st,.int .i64 c.tr,.int .i64 c.wt,.int .i64 c.ck,.int .i64 c.pr,.int .i64 c.ca,.int .i64 c.bi,.int .i64 c.ba]
def Cfg.words (c:Cfg):Int:=eR c.cp c.pg c.st c.ca c.bi
def ci (c:Cfg)(k:Int):Array Value:=c.arr.push (.int .i64 k)
theorem Kh {c:Cfg}(R:c.Ok)(w:World)(k:Int):Calls Tryz.prog 137 #[.agg c.arr,.int .i64 k] w (aP w (.int .i64 (dT c.pg c.st k))):=Mx R w k
theorem dD {c:Cfg}(R:c.Ok)(w:World):Calls Tryz.prog 20 #[.agg c.arr] w (aP w (.agg #[.int .i64 c.wk,.int .i64 c.cp,.int .i64 c.pg,.int .i64 c.st,.int .i64 c.tr,.int .i64 c.wt,.int .i64 c.ck,.int .i64 c.pr,.int .i64 c.ca,.int .i64 c.bi,.int .i64 c.ba])):=J2 R w
theorem xw {c:Cfg}(R:c.Ok)(w:World):Calls Tryz.prog 15 #[.agg c.arr] w (aP w (.int .i64 c.words)):=My R w
theorem fD (c:Cfg)(W:World):(Instr.field 23 (.agg #[.int .i64 c.wk,.int .i64 c.cp,.int .i64 c.pg,.int .i64 c.st,.int .i64 c.tr,.int .i64 c.wt,.int .i64 c.ck,.int .i64 c.pr,.int .i64 c.ca,.int .i64 c.bi,.int .i64 c.ba]) 2).run Tryz.prog W=.ok (.int .i64 c.pg) W:=by kernel_rfl
theorem q8 (c:Cfg)(k:Int)(W:World):(Instr.build 139 #[(0,.agg c.arr),(1,.int .i64 k)]).run Tryz.prog W=.ok (.agg (ci c k)) W:=run_build W _ _ _ (by kernel_rfl)
theorem yY (c:Cfg)(k:Int):(ci c k)[24]?=some (.int .i64 k):=by rfl
theorem yZ (c:Cfg)(k:Int):∀j,j<24→(ci c k)[j]?=c.arr[j]? :=fun j hj=>by
 unfold ci
 rw[Array.getElem?_push,if_neg (by show j≠24;omega)]
theorem qq {P:Program}(w:World)(g:Nat)(t ty:TypeId)(cs hs:Array Value)(fr:Nat×Nat)(d:TypeDesc)(hg:w.heap[g]?=some (.cells cs t fr))(hc:∀j,j<hs.size→cs[j]?=hs[j]?)
 (hu:P.underlying ty=some d) (hd:(match d with| .struct _| .array _ _=>true|_=>false)=true) (hi:(P.info? ty).map (·.size)=some hs.size):
 (loadVar ty ⟨g,0,none⟩).run P w=.ok (.agg hs) w:=by
 have hl:(loadCells ⟨g,0,none⟩ hs.toList.length).run P w=.ok hs.toList.toArray w :=
  run_loadCells_list (P:=P) w ⟨g,0,none⟩ hs.toList (fun j v hv=>by
   have hj:j<hs.size:=by have:=(List.getElem?_eq_some_iff.1 hv).1;simpa using this
   rw[i7,Nat.zero_add,cell_of_row w g j cs t fr hg,hc j hj]
   simpa using hv)
 cases hq:P.info? ty with
 |none=>simp[hq] at hi
 |some i =>
  have hs:i.size=hs.size:=by simpa [hq] using hi
  have hagg:(isAgg ty).run P w=.ok true w:=by
   unfold isAgg
   rw[Sem.run_bind,run_underlying hu w]
   cases d<;>simp_all
  simp only[Array.length_toList,Array.toArray_toList] at hl
  simp[loadVar,Sem.run_bind,hagg,sizeOf,typeInfo,hq,hs,hl]
theorem j8 {P:Program}{ops:Array Oper}{rest:List Oper}{o:Oper}{a:Act}{w:World}{Q:Exit→Act→World→Prop}(hw:Region.wanted o (yielded ops a.tmps)=true)(ty:TypeId)(x:Operand)(ho:o.op=.load ty x)
 (g:Nat) (hx:a.eval x=.pointer (some ⟨g,0,none⟩)) (t:TypeId) (cs hs:Array Value) (fr:Nat×Nat) (d:TypeDesc) (hg:w.heap[g]?=some (.cells cs t fr)) (hc:∀j,j<hs.size→cs[j]?=hs[j]?)
 (hu:P.underlying ty=some d) (hd:(match d with| .struct _| .array _ _=>true|_=>false)=true) (hi:(P.info? ty).map (·.size)=some hs.size)
 (h:wpList P ops Q rest (a.put o.dst (.agg hs)) w):wpList P ops Q (o::rest) a w :=
 el hw fun K hK=>by
  unfold Oper.wp Oper.upon execOp
  simp only[ho,hx,Instr.loadAt,Instr.sureAddr,Sem.run_bind,Sem.run_pure,Result.andThen_ok,qq w g t ty cs hs fr d hg hc hu hd hi]
  exact hK _ _ h
theorem MQ (p:Int)(h0: -9223372036854775808≤p)(h1:p≤9223372036854775807)(w:World):Calls Tryz.prog 57 #[.int .i64 p] w fun e w'=>e=.returned (.int .i64 (ofV p))∧w'=w:=by
 by_cases c:p<0
 ·rw[show ofV p= -1 from if_pos c]
  go_enter Tryz.func57,Tryz.ntmps57
  go_wp2_with fail
  go_ret
  exact⟨rfl,rfl⟩
 ·rw[show ofV p=p / 4 from if_neg c]
  have q2:IntKind.i64.wrap (p.tdiv 4)=p / 4:=by rw[Int.tdiv_eq_ediv_of_nonneg (by omega)];exact az (by omega) (by omega)
  have d0:decide (p<0)=false:=by simp;omega
  go_enter Tryz.func57,Tryz.ntmps57
  go_wp2_with fail
  go_ret
  exact⟨rfl,rfl⟩
theorem Br {c:Cfg}(R:c.Ok)(k:Int)(w:World):Calls Tryz.prog 120 #[.agg (ci c k)] w (aP w (.int .i64 (dT c.pg c.st k))):=by
 have HC:=hQQ (aW w (ci c k) 139)
 have x24:=a8 HC.o (ae.refl _) (yY c k)
 have HM:Hq (ae w (w.alloc (.cells (ci c k) 139))):=(ae.refl w).alloc _
 go_enter Tryz.func120,Tryz.ntmps120
 go_wp2_with (refine j8 rfl 28 _ rfl _ rfl 139 _ c.arr _ _ HC.o (yZ c k) Tryz.underlying28 rfl (by kernel_rfl) ?_)
 refine(Kh R _ k).mono ?_
 rintro e w1 ⟨rfl,h1⟩
 go_wp2_with fail
 go_ret
 exact⟨rfl,HM.o.trans h1⟩
theorem Hv {c:Cfg}(R:c.Ok)(k:Int):(dT c.pg c.st k==0)= !bR c.pg k:=by
 have h1:=R.st1
 cases h:bR c.pg k with
 |true =>
  rw[lO h]
  have:=cY.1 h
  unfold aZ
  simp;omega
 |false=>rw[Kg h];rfl
theorem qr {c:Cfg}(R:c.Ok)(k:Int)(w:World):Calls Tryz.prog 119 #[.agg (ci c k)] w (aP w (.bool (!bR c.pg k))):=by
 have HC:=hQQ (aW w (ci c k) 139)
 have HM:Hq (ae w (w.alloc (.cells (ci c k) 139))):=(ae.refl w).alloc _
 have b0:=Hv R k
 go_enter Tryz.func119,Tryz.ntmps119
 go_wp2_with (refine wpList_load_row rfl 139 _ rfl _ rfl 139 _ _ _ HC.o Tryz.underlying139 rfl (by kernel_rfl) ?_)
 refine(Br R k _).mono ?_
 rintro e w1 ⟨rfl,h1⟩
 go_wp2_with fail
 go_ret
 exact⟨rfl,HM.o.trans h1⟩
theorem Ki {c:Cfg}(R:c.Ok)(k:Int)(w:World):Calls Tryz.prog 172 #[.agg (ci c k)] w (aP w (.tuple #[.int .i64 (qn c.pg k),.int .i64 (fC c.pg k)])):=by
 have HC:=hQQ (aW w (ci c k) 139)
 have HM:Hq (ae w (w.alloc (.cells (ci c k) 139))):=(ae.refl w).alloc _
 cases h:bR c.pg k with
 |false =>
  rw[show qn c.pg k=0 by unfold qn;rw[h];rfl,show fC c.pg k=0 by unfold fC;rw[h];rfl]
  go_enter Tryz.func172,Tryz.ntmps172
  go_wp2_with (refine wpList_load_row rfl 139 _ rfl _ rfl 139 _ _ _ HC.o Tryz.underlying139 rfl (by kernel_rfl) ?_)
  refine(qr R k _).mono ?_
  rw[h]
  rintro e w1 ⟨rfl,h1⟩
  go_wp2_with fail
  go_ret2
  exact⟨rfl,HM.o.trans h1⟩
 |true =>
  have hfl:=fD c
  have hb:=cY.1 h
  have p1:=R.pg1
  have p2:=R.pg2
  have hu:4 * k<c.pg∧k<64:=by unfold aL at hb;omega
  have q0:IntKind.i64.wrap (k * 4)=4 * k:=by rw[az (by omega) (by omega)];omega
  have q1:IntKind.i64.wrap (c.pg-4 * k)=c.pg-4 * k:=az (by omega) (by omega)
  rw[show qn c.pg k=4 * k by unfold qn;rw[h];rfl,show fC c.pg k=min 4 (c.pg-4 * k) by unfold fC;rw[h];rfl]
  generalize hz:c.pg-4 * k=z at q1
  have R':=hQQ R
  clear hb hu p1 p2
  have zz:=hQQ hz
  clear hz
  go_enter Tryz.func172,Tryz.ntmps172
  go_wp2_with (refine wpList_load_row rfl 139 _ rfl _ rfl 139 _ _ _ HC.o Tryz.underlying139 rfl (by kernel_rfl) ?_)
  refine(qr R'.o k _).mono ?_
  rw[h]
  rintro e w1 ⟨rfl,h1⟩
  have HC1:=hQQ (h1.block HC.o)
  have HM1:=hQQ (HM.o.trans h1)
  have x24:=a8 HC1.o (ae.refl _) (yY c k)
  clear h1
  go_wp2_with (refine j8 rfl 28 _ rfl _ rfl 139 _ c.arr _ _ HC1.o (yZ c k) Tryz.underlying28 rfl (by kernel_rfl) ?_)
  refine(dD R'.o _).mono ?_
  rintro e w2 ⟨rfl,h2⟩
  have HM2:=hQQ (HM1.o.trans h2)
  have q3:=zz.o
  clear h2
  go_wp2_with fail
  go_ret2
  exact⟨rfl,HM2.o⟩
theorem Mh {c:Cfg}(R:c.Ok){k:Int}(h:bR c.pg k=true):W64 (dT c.pg c.st k):=by
 rw[lO h]
 have:=cY.1 h
 have h1:=su R;have h2:=o7 R
 unfold W64;omega
theorem sS {c:Cfg}(R:c.Ok)(F:Nat→Prop)(p:Nat)(kn:Int→Option Int)(D:List KV)(k:Int)(w:World)(hv:aD w F p kn D):
 Calls Tryz.prog 94 #[.agg (ci c k),.pointer (some ⟨p,0,none⟩)] w (aG w F p kn (fun b=> .bool b) (dP c.pg c.st k kn D)):=by
 have HC:=hQQ (aW w (ci c k) 139)
 have HM:Hq (ae w (w.alloc (.cells (ci c k) 139))):=(ae.refl w).alloc _
 have HV:=hQQ hv
 have HR:=hQQ R
 clear hv
 cases h:bR c.pg k with
 |false =>
  have FIN:Hq (∀w',ae w w'→aG w F p kn (fun b=> .bool b) (dP c.pg c.st k kn D) (.returned (.bool false)) w'):=hQQ fun w' m=>aG.same (by unfold dP;rw[h];rfl) HV.o m
  go_enter Tryz.func94,Tryz.ntmps94
  go_wp2_with (refine wpList_load_row rfl 139 _ rfl _ rfl 139 _ _ _ HC.o Tryz.underlying139 rfl (by kernel_rfl) ?_)
  refine(qr HR.o k _).mono ?_
  rw[h]
  rintro e w1 ⟨rfl,h1⟩
  have HM1:=hQQ (HM.o.trans h1)
  clear h1
  go_wp2_with fail
  go_ret
  exact FIN.o _ HM1.o
 |true =>
  have hR:dP c.pg c.st k kn D=ak (cS (dT c.pg c.st k)) (fun y=>ay (decide (y=1))) kn D:=by unfold dP;rw[h];rfl
  rw[hR]
  have HW:=hQQ (Mh R h)
  go_enter Tryz.func94,Tryz.ntmps94
  go_wp2_with (refine wpList_load_row rfl 139 _ rfl _ rfl 139 _ _ _ HC.o Tryz.underlying139 rfl (by kernel_rfl) ?_)
  refine(qr HR.o k _).mono ?_
  rw[h]
  rintro e w1 ⟨rfl,h1⟩
  have HM1:=hQQ (HM.o.trans h1)
  have HC1:=hQQ (h1.block HC.o)
  clear h1
  go_wp2_with (refine eI rfl 139 _ rfl _ rfl 139 _ _ _ HC1.o Tryz.underlying139 rfl (by kernel_rfl) ?_)
  refine(Br HR.o k _).mono ?_
  rintro e w2 ⟨rfl,h2⟩
  have HM2:=hQQ (HM1.o.trans h2)
  clear h2
  have HV2:=hQQ (HV.o.more HM2.o)
  cases hw:dM kn D (dT c.pg c.st k) with
  |none =>
   have HN:=hQQ hw
   clear hw
   go_wp2_with fail
   refine(iX F p kn D _ w2 HV2.o HW.o HN.o).mono ?_
   intro e w3 he
   obtain rfl:=he.1
   exact⟨rfl,aG.after HM2.o (aG.need (ag (jh HN.o)) he)⟩
  |some y =>
   have HN:=hQQ hw
   have FIN:Hq (∀n,aG w F p kn (fun b=> .bool b) (ak (cS (dT c.pg c.st k)) (fun y=>ay (decide (y=1))) kn D) (.returned (.bool (decide (y=1)))) (w2.drewN n)):=hQQ fun n=>aG.same (by rw[aj (eS HN.o)];rfl) HV.o (HM2.o.drewN n)
   have b1:(y==1)=decide (y=1):=by by_cases q:y=1<;>simp[q]
   clear hw
   go_wp2_with fail
   refine(mT F p kn D _ y w2 HV2.o HW.o HN.o).mono ?_
   rintro e w3 ⟨rfl,n,rfl⟩
   go_wp2_with fail
   go_ret
   exact FIN.o n
theorem MT {c:Cfg}(R:c.Ok){n:Nat}(H:TblIn c.pg c.st n)(hn:n≤10000)(F:Nat→Prop)(p:Nat)(kn:Int→Option Int)(D:List KV)(k x:Int)(w:World)(hv:aD w F p kn D)(hk:OkK kn)(hD:cC n D):
 Calls Tryz.prog 166 #[.agg (ci c k),.pointer (some ⟨p,0,none⟩),.int .i64 x] w (aG w F p kn (fun y=> .int .i64 y) (jI c.pg c.st k x kn D)):=by
 have HC:=hQQ (aW w (ci c k) 139)
 have HM:Hq (ae w (w.alloc (.cells (ci c k) 139))):=(ae.refl w).alloc _
 have HV:=hQQ hv
 have HR:=hQQ R
 have HK:=hQQ hk
 have HD:=hQQ hD
 have HH:=hQQ H
 clear hv hk hD H
 cases h:bR c.pg k with
 |false =>
  have FIN:Hq (∀w',ae w w'→aG w F p kn (fun y=> .int .i64 y) (jI c.pg c.st k x kn D) (.returned (.int .i64 0)) w'):=hQQ fun w' m=>aG.same (by unfold jI;rw[h];rfl) HV.o m
  go_enter Tryz.func166,Tryz.ntmps166
  go_wp2_with (refine wpList_load_row rfl 139 _ rfl _ rfl 139 _ _ _ HC.o Tryz.underlying139 rfl (by kernel_rfl) ?_)
  refine(qr HR.o k _).mono ?_
  rw[h]
  rintro e w1 ⟨rfl,h1⟩
  have HM1:=hQQ (HM.o.trans h1)
  clear h1
  go_wp2_with fail
  go_ret
  exact FIN.o _ HM1.o
 |true =>
  have hR:jI c.pg c.st k x kn D=ak (dP c.pg c.st k) (fun b=>if b=decide (x=1) then ay 0 else ak (cM (dT c.pg c.st k) x) (fun _=>ay (fC c.pg k))) kn D:=by unfold jI;rw[h];rfl
  rw[hR]
  have HW:=hQQ (Mh R h)
  go_enter Tryz.func166,Tryz.ntmps166
  go_wp2_with (refine wpList_load_row rfl 139 _ rfl _ rfl 139 _ _ _ HC.o Tryz.underlying139 rfl (by kernel_rfl) ?_)
  refine(qr HR.o k _).mono ?_
  rw[h]
  rintro e w1 ⟨rfl,h1⟩
  have HM1:=hQQ (HM.o.trans h1)
  have HC1:=hQQ (h1.block HC.o)
  clear h1
  have HV1:=hQQ (HV.o.more HM1.o)
  have bx:(x==1)=decide (x=1):=by by_cases q:x=1<;>simp[q]
  go_wp2_with (refine eI rfl 139 _ rfl _ rfl 139 _ _ _ HC1.o Tryz.underlying139 rfl (by kernel_rfl) ?_)
  refine(sS HR.o F p kn D k w1 HV1.o).mono ?_
  intro e w2 he
  cases hm:dP c.pg c.st k kn D with
  |need a =>
   rw[hm] at he
   obtain rfl:=he.1
   have FIN:=aG.after (kn:=kn) HM1.o (aG.need (val:=fun y:Int=>Value.int .i64 y) (ag (f:=fun b:Bool=>if b=decide (x=1) then ay (0:Int) else ak (cM (dT c.pg c.st k) x) (fun _=>ay (fC c.pg k))) hm) he)
   exact⟨rfl,FIN⟩
  |ok b D1 =>
   rw[hm] at he
   have HB:=hQQ hm
   have hI1:=((jJ HH.o k).ok HK.o HD.o hm).1
   obtain⟨rfl,F1,hv2,ht2,hn2⟩:=he
   have lD1:D1.length<100000:=by have:=hI1.len;omega
   have HV2:=hQQ hv2
   have HT2:Hq (Turned F w w2):=hQQ (am (Turned.mono HM1.o (fun _ _ q=>q.elim)) ht2 (fun k q=> .inl q))
   have HN1:=hQQ hn2
   have HN2:Hq (∀k,F1 k→F k∨w.heap.size≤k):=hQQ fun k q=>(hn2 k q).imp id (fun r=>Nat.le_trans HM1.o.size r)
   have nC:¬F w.heap.size:=fun q=>by have:=HV.o.lt _ q;omega
   have HC2:Hq (w2.heap[w.heap.size]?=_):=hQQ ((Turned.block ht2 _ (ac HC1.o) nC).trans HC1.o)
   clear hm hI1 hv2 ht2 hn2
   by_cases hb:b=decide (x=1)
   ·have FIN:Hq (∀w',ae w2 w'→aG w F p kn (fun y=> .int .i64 y) (ak (dP c.pg c.st k) (fun b=>if b=decide (x=1) then ay 0 else ak (cM (dT c.pg c.st k) x) (fun _=>ay (fC c.pg k))) kn D) (.returned (.int .i64 0)) w'):=hQQ fun w' m =>
     aG.from HT2.o HN2.o (aG.same (by rw[aj HB.o,if_pos hb];rfl) HV2.o m)
    have be:(b==decide (x=1))=true:=by simp[hb]
    clear hb
    go_wp2_with fail
    go_ret
    exact FIN.o _ (ae.refl _)
   ·have FIN:Hq (∀w0 e w',ae w2 w0→gv w0 F1 p kn (ep D1 (dT c.pg c.st k) x) (.tuple #[]) e w'→e=.returned (.tuple #[])∧Turned F1 w0 w'∧∀w'',ae w' w''→aG w F p kn (fun y=> .int .i64 y) (ak (dP c.pg c.st k) (fun b=>if b=decide (x=1) then ay 0 else ak (cM (dT c.pg c.st k) x) (fun _=>ay (fC c.pg k))) kn D) (.returned (.int .i64 (fC c.pg k))) w''):=hQQ fun w0 e w' m hd=>by
     obtain⟨he,F2,hv3,ht3,hn3⟩:=hd
     refine⟨he,ht3,fun w'' m2=>?_⟩
     refine aG.from HT2.o HN2.o (aG.did (x:=fC c.pg k) (D:=ep D1 (dT c.pg c.st k) x) (by rw[aj HB.o,if_neg hb];rfl) ⟨rfl,F2,hv3.more m2,?_,fun k q=>(hn3 k q).imp id (fun r=>Nat.le_trans m.size r)⟩)
     exact am (F':=fun _=>False) (am (Turned.mono m (fun _ _ q=>q.elim)) ht3 (fun k q=> .inl q)) m2 (fun _ q=>q.elim)
    have be:(b==decide (x=1))=false:=by simp[hb]
    clear hb
    go_wp2_with (refine wpList_load_row rfl 139 _ rfl _ rfl 139 _ _ _ HC2.o Tryz.underlying139 rfl (by kernel_rfl) ?_)
    refine(Br HR.o k _).mono ?_
    rintro e w3 ⟨rfl,h3⟩
    have HM3:=hQQ h3
    have HV3:=hQQ (HV2.o.more h3)
    have HC3:=hQQ (h3.block HC2.o)
    clear h3
    go_wp2_with fail
    refine(yN F1 p kn D1 (dT c.pg c.st k) x w3 HV3.o lD1).mono ?_
    intro e w4 he
    obtain⟨rfl,ht4,hf⟩:=FIN.o w3 e w4 HM3.o he
    have HF:=hQQ hf
    have nC1:¬F1 w.heap.size:=fun q=>by
     have h0:w.heap.size<w1.heap.size:=ac HC1.o
     rcases HN1.o _ q with r|r
     ·exact nC r
     ·omega
    have HC4:Hq (w4.heap[w.heap.size]?=_):=hQQ ((Turned.block ht4 _ (ac HC3.o) nC1).trans HC3.o)
    clear hf he ht4
    go_wp2_with (refine wpList_load_row rfl 139 _ rfl _ rfl 139 _ _ _ HC4.o Tryz.underlying139 rfl (by kernel_rfl) ?_)
    refine(Ki HR.o k _).mono ?_
    rintro e w5 ⟨rfl,h5⟩
    have HM5:=hQQ h5
    clear h5
    go_wp2_with fail
    go_ret
    exact HF.o _ HM5.o
attribute [local go_sem] Oper.semAt_some
section
variable {F:Fence}{n:Nat}{P:Program}{ops:Array Oper}{rest:List Oper}{o:Oper}{a:Act}{w:World}{Q:Exit→Act→World→Prop}
theorem gx (hw:Region.wanted o (yielded ops a.tmps)=true)(ty:TypeId)(x:Operand)(ho:o.op=.load ty x)(g:Nat)(hx:a.eval x=.pointer (some ⟨g,0,none⟩))(v:Value)
 (hr:(loadVar ty ⟨g,0,none⟩).run P w=.ok v w) (h:wpListIn F n P ops Q rest (a.put o.dst v) w):wpListIn F n P ops Q (o::rest) a w :=
 BigFrame.wpListIn_want hw fun K hK=>by
  refine⟨by simp[Oper.about,ho],?_⟩
  rw[Oper.semAt_plain F _ _ (by rw[ho];intro c hc;cases hc)]
  simp[execOp,ho,hx,Instr.loadAt,Instr.sureAddr,Sem.run_bind,hr,Result.andThen]
  exact hK _ _ h
theorem ed (hw:Region.wanted o (yielded ops a.tmps)=true)(ty:TypeId)(x:Operand)(ho:o.op=.load ty x)
 (g:Nat) (hx:a.eval x=.pointer (some ⟨g,0,none⟩)) (t:TypeId) (cs:Array Value) (fr:Nat×Nat) (d:TypeDesc) (hg:w.heap[g]?=some (.cells cs t fr))
 (hu:P.underlying ty=some d) (hd:(match d with| .struct _| .array _ _=>true|_=>false)=true) (hi:(P.info? ty).map (·.size)=some cs.size)
 (h:wpListIn F n P ops Q rest (a.put o.dst (.agg cs)) w):wpListIn F n P ops Q (o::rest) a w :=
 gx hw ty x ho g hx _ (run_loadVar_row w g t ty cs fr d hg hu hd hi) h
theorem jk (hw:Region.wanted o (yielded ops a.tmps)=true)(ty:TypeId)(x y:Operand)(ho:o.op=.store ty x y)
 (g:Nat) (hx:a.eval x=.pointer (some ⟨g,0,none⟩)) (cells:Array Value) (hy:a.eval y=.agg cells) (t:TypeId) (old:Array Value) (hg:w.heap[g]?=some (.cells old t (0,0)))
 (hi:(P.info? ty).map (·.size)=some cells.size) (hsz:old.size=cells.size) (hone:cells.all (·.oneCell')=true)
 (h:wpListIn F n P ops Q rest (a.put o.dst (.tuple #[])) (w.setRow g cells)):wpListIn F n P ops Q (o::rest) a w :=
 BigFrame.wpListIn_want hw fun K hK=>by
  refine⟨by simp[Oper.about,ho],?_⟩
  rw[Oper.semAt_plain F _ _ (by rw[ho];intro c hc;cases hc)]
  have hs:=run_storeVar_row (P:=P) w g t ty old cells hg hi hsz hone
  simp[execOp,ho,hx,hy,Instr.storeAt,Instr.sureAddr,Sem.run_bind,hs,Result.andThen]
  exact hK _ _ h
end
theorem sT {F:Fence}{n:Nat}{ops:Array Oper}{rest:List Oper}{o:Oper}{a:Act}{w:World}{Q:Exit→Act→World→Prop}(hw:Region.wanted o (yielded ops a.tmps)=true)(x y:Operand)(ho:o.op=.build 139 #[(0,x),(1,y)])(c:Cfg)(k:Int)
 (hx:a.eval x=.agg c.arr) (hy:a.eval y=.int .i64 k) (h:wpListIn F n Tryz.prog ops Q rest (a.put o.dst (.agg (ci c k))) w):wpListIn F n Tryz.prog ops Q (o::rest) a w :=
 BigFrame.wpListIn_want hw fun K hK=>by
  refine⟨by simp[Oper.about,ho],?_⟩
  rw[Oper.semAt_plain F _ _ (by rw[ho];intro c hc;cases hc)]
  have hb:=q8 c k w
  simp only[execOp,ho,List.map_toArray,List.map_cons,List.map_nil,hx,hy,Sem.run_bind,hb,Result.andThen_ok]
  exact hK _ _ h
theorem xx {ops:Array Oper}{rest:List Oper}{o:Oper}{a:Act}{w:World}{Q:Exit→Act→World→Prop}(hw:Region.wanted o (yielded ops a.tmps)=true)(x y:Operand)(ho:o.op=.build 139 #[(0,x),(1,y)])(c:Cfg)(k:Int)
 (hx:a.eval x=.agg c.arr) (hy:a.eval y=.int .i64 k) (h:wpList Tryz.prog ops Q rest (a.put o.dst (.agg (ci c k))) w):wpList Tryz.prog ops Q (o::rest) a w :=
 el hw fun K hK=>by
  have hb:=q8 c k w
  unfold Oper.wp execOp
  simp only[ho,List.map_toArray,List.map_cons,List.map_nil,hx,hy,Sem.run_bind,hb,Result.andThen_ok]
  exact hK _ _ h
theorem Dw {c:Cfg}(R:c.Ok)(p n:Int)(hp:W64 p)(w:World):Calls Tryz.prog 171 #[.agg c.arr,.int .i64 p,.int .i64 n] w (aP w (.bool (ce c.pg p n))):=by
 have HC:=hQQ (aW w c.arr 28)
 have HM:Hq (ae w (w.alloc (.cells c.arr 28))):=(ae.refl w).alloc _
 have hfl:=fD c
 have p1:=R.pg1
 have p2:=R.pg2
 by_cases c0:0≤p
 ·by_cases c1:1≤n
  ·have q1:IntKind.i64.wrap (c.pg-p)=c.pg-p:=by unfold W64 at hp;exact az (by omega) (by omega)
   rw[show ce c.pg p n=decide (n≤c.pg-p) by unfold ce;simp[c0,c1]]
   clear p1 p2 hp
   go_enter Tryz.func171,Tryz.ntmps171
   go_wp2_with (refine aK rfl rfl rfl HC.o (by kernel_rfl) ?_)
   refine(dD R _).mono ?_
   rintro e w2 ⟨rfl,h2⟩
   have HM2:=hQQ (HM.o.trans h2)
   clear h2
   go_wp2_with fail
   go_ret
   exact⟨rfl,HM2.o⟩
  ·rw[show ce c.pg p n=false by unfold ce;simp[c1]]
   have d1:decide (1≤n)=false:=by simp;omega
   go_enter Tryz.func171,Tryz.ntmps171
   go_wp2_with fail
   go_ret
   exact⟨rfl,HM.o⟩
 ·rw[show ce c.pg p n=false by unfold ce;simp[c0]]
  have d0:decide (0≤p)=false:=by simp;omega
  go_enter Tryz.func171,Tryz.ntmps171
  go_wp2_with fail
  go_ret
  exact⟨rfl,HM.o⟩
def ee (pg p n:Int):Nat:=if ce pg p n then spanV p n else 0
def et (w:World)(b:Nat)(x:Int):Prop:=w.heap[b]?=some (.cells #[.int .i64 x] 3 (0,0))
theorem Kj (n:Nat){c:Cfg}(p q:Int)(w:World):
 CallsIn Fence.wide n Tryz.prog 165 #[.agg c.arr,.int .i64 p,.int .i64 q] w fun e w' =>
  e=.returned (.func (.func 170) #[] #[.pointer (some ⟨w.heap.size,0,none⟩),.pointer (some ⟨w.heap.size+1,0,none⟩),.pointer (some ⟨w.heap.size+2,0,none⟩)]) ∧
  w'=((w.alloc (.cells c.arr 28)).alloc (.cells #[.int .i64 p] 3)).alloc (.cells #[.int .i64 q] 3):=by
 refine callsIn_of_wp Tryz.func165 rfl trivial ?_ rfl
 simp only[Tryz.ntmps165,List.size_toArray,List.length_cons,List.length_nil,Nat.reduceAdd,Nat.reduceSub,Array.replicate_succ,Array.replicate_zero,List.push_toArray,List.append_toArray,List.nil_append,List.cons_append]
 gi_wp2
 go_ret
 exact⟨rfl,rfl⟩
theorem EO (c:Cfg)(p q:Int)(w:World):
 (((w.alloc (.cells c.arr 28)).alloc (.cells #[.int .i64 p] 3)).alloc (.cells #[.int .i64 q] 3)).heap[w.heap.size]?=some (.cells c.arr 28 (0,0)) ∧
 et (((w.alloc (.cells c.arr 28)).alloc (.cells #[.int .i64 p] 3)).alloc (.cells #[.int .i64 q] 3)) (w.heap.size+1) p ∧
 et (((w.alloc (.cells c.arr 28)).alloc (.cells #[.int .i64 p] 3)).alloc (.cells #[.int .i64 q] 3)) (w.heap.size+2) q:=by
 have h0:=a7 w (.cells c.arr 28)
 have s0:(w.alloc (.cells c.arr 28)).heap.size=w.heap.size+1:=by simp
 generalize w.alloc (.cells c.arr 28)=w1 at h0 s0⊢
 have h1:=a7 w1 (.cells #[.int .i64 p] 3)
 rw[s0] at h1
 have s1:(w1.alloc (.cells #[.int .i64 p] 3)).heap.size=w.heap.size+2:=by simp[s0]
 have m1:ae w1 (w1.alloc (.cells #[.int .i64 p] 3)):=(ae.refl _).alloc _
 generalize w1.alloc (.cells #[.int .i64 p] 3)=w2 at h1 s1 m1⊢
 have h2:=a7 w2 (.cells #[.int .i64 q] 3)
 rw[s1] at h2
 have m2:ae w2 (w2.alloc (.cells #[.int .i64 q] 3)):=(ae.refl _).alloc _
 exact⟨m2.block (m1.block h0),m2.block h1,h2⟩
theorem EP (n:Nat)(hn:1≤n){c:Cfg}(R:c.Ok)(p q:Int)(hp:W64 p)(bl bp bq:Nat)(w0:World)(hl:w0.heap[bl]?=some (.cells c.arr 28 (0,0)))(hbp:et w0 bp p)(hbq:et w0 bq q):
 Dl Fence.wide n Tryz.prog 170 #[.pointer (some ⟨bl,0,none⟩),.pointer (some ⟨bp,0,none⟩),.pointer (some ⟨bq,0,none⟩)] (fun i=> #[.agg (ci c (p / 4+(i:Int)))]) (ee c.pg p q) (fun k=>k=bl∨k=bp∨k=bq) w0:=by
 intro l J Jx W hW hJ hJx hY h0
 have HL:=hQQ (hW.block hl)
 have HP:=hQQ (hW.block hbp)
 have HQ:=hQQ (hW.block hbq)
 have HR:=hQQ R
 have cp:=(aB HP.o).1
 have cq:=(aB HQ.o).1
 have TH:=hQQ (fun w=>Dw (c:=c) R p q hp w)
 have HJ:=hQQ hJ
 have HJx:=hQQ hJx
 have HY:=hQQ hY
 clear hl hbp hbq hW hJ hJx hY
 refine callsIn_of_wp Tryz.func170 rfl trivial ?_ rfl
 simp only[Tryz.ntmps170,List.size_toArray,List.length_cons,List.length_nil,Nat.reduceAdd,Nat.reduceSub,Array.replicate_succ,Array.replicate_zero,List.push_toArray,List.append_toArray,List.nil_append,List.cons_append]
 cases hth:ce c.pg p q with
 |false =>
  have hN:ee c.pg p q=0:=by unfold ee;rw[hth];rfl
  rw[hN] at HY⊢
  gi_wp2_with (first
   |(refine ed rfl 28 _ rfl _ rfl 28 _ _ _ HL.o Tryz.underlying28 rfl (by kernel_rfl) ?_)
   |((with_reducible refine And.intro ?_ ?_);exact trivial;gi_at_call 171;refine(callsIn_wide.2 (TH.o _)).mono ?_;rw[hth];rintro e w' ⟨rfl,h1⟩;have M1:=hQQ h1;clear h1))
  refine bodyPost_ret (results_none rfl _ _ _) rfl ?_
  exact .inl ⟨⟨_,rfl⟩,.inl (HJ.o _ _ _ h0 M1.o)⟩
 |true =>
  have hN:ee c.pg p q=spanV p q:=by unfold ee;rw[hth];rfl
  rw[hN] at HY⊢
  obtain⟨r0,r1,r2⟩:=dW.1 hth
  have pg2:=R.pg2
  have q1:IntKind.i64.wrap (p+q)=p+q:=az (by omega) (by omega)
  have q2:IntKind.i64.wrap (p+q-1)=p+q-1:=az (by omega) (by omega)
  have o1:ofV p=p / 4:=if_neg (by omega)
  have o2:ofV (p+q-1)=(p+q-1) / 4:=if_neg (by omega)
  obtain⟨sp,_⟩:=Bq hth pg2
  have OP:=hQQ (fun w=>MQ p (by omega) (by omega) w)
  have OQ:=hQQ (fun w=>MQ (p+q-1) (by omega) (by omega) w)
  rw[o1] at OP
  rw[o2] at OQ
  clear o1 o2 r1 R hp
  gi_wp2_with (first
   |(refine ed rfl 28 _ rfl _ rfl 28 _ _ _ HL.o Tryz.underlying28 rfl (by kernel_rfl) ?_)
   |((with_reducible refine And.intro ?_ ?_);exact trivial;gi_at_call 171;refine(callsIn_wide.2 (TH.o _)).mono ?_;rw[hth];rintro e w' ⟨rfl,h1⟩;have M1:=hQQ h1;have cp1:=h1.cell cp;clear h1)
   |((with_reducible refine And.intro ?_ ?_);exact trivial;gi_at_call 57;refine(callsIn_wide.2 (OP.o _)).mono ?_;rintro e w' ⟨rfl,rfl⟩))
  have J0:=hQQ (HJ.o _ _ _ h0 M1.o)
  have HL1:=hQQ (M1.o.block HL.o)
  have HP1:=hQQ (M1.o.block HP.o)
  have HQ1:=hQQ (M1.o.block HQ.o)
  clear cp cq cp1 h0
  gi_loopw [5] (fun u wr=>∃i:Nat,i≤spanV p q∧u=.int .i64 (p / 4+(i:Int))∧J i wr∧wr.heap[bl]?=some (.cells c.arr 28 (0,0))∧et wr bp p∧et wr bq q) (fun u _=>((p+q-1) / 4+1-intOf u).toNat)
  case atStart=>exact⟨0,Nat.zero_le _,by simp,J0.o,HL1.o,HP1.o,HQ1.o⟩
  case round =>
   obtain⟨i,hi,rfl,hJi,hli,hpi,hqi⟩:=hrel
   have cpi:=(aB hpi).1
   have cqi:=(aB hqi).1
   have HLi:=hQQ hli
   have HPi:=hQQ hpi
   have HQi:=hQQ hqi
   have HJi:=hQQ hJi
   clear hli hpi hqi hJi
   by_cases hlt:i<spanV p q
   ·obtain⟨fn,tmps,assign,body,hy,hR⟩:=HY.o i wr hlt HJi.o
    have hld:(loadVar 28 ⟨bl,0,none⟩).run Tryz.prog wr=.ok (.agg c.arr) wr:=run_loadVar_row wr bl _ _ _ _ _ HLi.o Tryz.underlying28 rfl (by kernel_rfl)
    have d1:decide (p / 4+(i:Int)≤(p+q-1) / 4)=true:=by simp;omega
    have q3:IntKind.i64.wrap (p / 4+(i:Int)+1)=p / 4+(i:Int)+1:=az (by omega) (by omega)
    gi_wp2_with (first
     |((with_reducible refine gx ?_ 28 (.tmp 1) ?_ bl ?_ (.agg c.arr) ?_ ?_);rfl;rfl;rfl;exact hld)
     |((with_reducible refine sT ?_ (.tmp 23) (.tmp 24) ?_ c (p / 4+(i:Int)) ?_ ?_ ?_);rfl;rfl;rfl;rfl)
     |((with_reducible refine And.intro ?_ ?_);exact trivial;gi_at_call 57;refine(callsIn_wide.2 (OQ.o _)).mono ?_;rintro e w' ⟨rfl,rfl⟩))
    refine hR.mono ?_
    rintro e W3 (⟨rfl,hJ3,hs3⟩|⟨he,hJx3⟩)
    ·have HL3:=hQQ ((hs3 bl (.inl rfl)).trans HLi.o)
     have HP3:=hQQ ((hs3 bp (.inr (.inl rfl))).trans HPi.o)
     have HQ3:=hQQ ((hs3 bq (.inr (.inr rfl))).trans HQi.o)
     clear hs3
     gi_wp2
     go_roundw
     case rel=>exact⟨i+1,by omega,by go_num,hJ3,HL3.o,HP3.o,HQ3.o⟩
     case measure=>simp[intOf];omega
    ·rcases he with rfl|⟨ch,rfl⟩
     ·gi_wp2
      refine bodyPost_ret (results_none rfl _ _ _) rfl ?_
      exact .inl ⟨⟨_,rfl⟩,.inr ⟨i,hlt,hJx3⟩⟩
     ·exact⟨rfl,.inr ⟨ch,i,rfl,hlt,hJx3⟩⟩
   ·obtain rfl:i=spanV p q:=by omega
    have d1:decide (p / 4+((spanV p q:Nat):Int)≤(p+q-1) / 4)=false:=by simp;omega
    gi_wp2_with (first
     |((with_reducible refine And.intro ?_ ?_);exact trivial;gi_at_call 57;refine(callsIn_wide.2 (OQ.o _)).mono ?_;rintro e w' ⟨rfl,rfl⟩))
    go_end0
    exact .inl ⟨⟨_,rfl⟩,.inl HJi.o⟩
theorem jl {α:Type}{w w':World}{F:Nat→Prop}{p:Nat}{kn:Int→Option Int}{val:α→Value}{R:Res α}{e:Ending}(h:aG w F p kn val R e w'):(∃a,R=.need a∧e=.panicked (bg p))∨∃x D,R=.ok x D∧e=.returned (val x):=by
 cases R with
 |need a=>exact .inl ⟨a,rfl,h.1⟩
 |ok x D=>exact .inr ⟨x,D,rfl,h.1⟩
theorem Hw {c:Cfg}(R:c.Ok)(F:Nat→Prop)(p:Nat)(kn:Int→Option Int)(D:List KV)(k:Int)(w:World)(hv:aD w F p kn D):
 Calls Tryz.prog 56 #[.pointer (some ⟨p,0,none⟩),.agg c.arr,.int .i64 k] w (aG w F p kn (fun b=> .bool b) (dP c.pg c.st k kn D)):=by
 have HC:=hQQ (aW w c.arr 28)
 have HM:Hq (ae w (w.alloc (.cells c.arr 28))):=(ae.refl w).alloc _
 have HV:=hQQ (hv.more HM.o)
 clear hv
 go_enter Tryz.func56,Tryz.ntmps56
 go_wp2_with (first|refine aK rfl rfl rfl HC.o (by kernel_rfl) ?_|((with_reducible refine xx ?_ (.tmp 7) (.tmp 8) ?_ c k ?_ ?_ ?_);rfl;rfl;rfl;rfl))
 refine(sS R F p kn D k _ HV.o).mono ?_
 intro e w1 he
 have FIN:=hQQ (he.after HM.o)
 rcases jl he with⟨a,_,rfl⟩|⟨x,D',_,rfl⟩
 ·exact⟨rfl,FIN.o⟩
 ·clear he
  go_wp2_with fail
  go_ret
  exact FIN.o
theorem fE {S:Nat→Prop}{w w':World}(h:Turned S w w')(l:Nat)(o:Obj)(hl:l<w.heap.size→S l):Turned S w (w'.putObj l o):=
 ⟨h.os,h.tape,h.output,by simpa using h.size,fun k hk hs=>by
  rw[World.putObj_heap_other (by rintro rfl;exact hs (hl hk))];exact Turned.block h k hk hs⟩
structure OnV (w6 W:World)(F T:Nat→Prop)(p:Nat)(kn:Int→Option Int)(n:Nat)(D:List KV)(F':Nat→Prop):Prop where
 view:aD W F' p kn D
 from':∀k,F' k→F k∨w6.heap.size+2≤k
 turn:Turned (fun k=>F k∨T k) w6 W
 inv:cC n D
namespace OnV
variable {w6 W W':World}{F T F':Nat→Prop}{p n:Nat}{kn:Int→Option Int}{D:List KV}
theorem begin (hv:aD w6 F p kn D)(hD:cC n D):OnV w6 w6 F T p kn n D F:=⟨hv,fun k q=> .inl q,Turned.refl _ _,hD⟩
theorem more (h:OnV w6 W F T p kn n D F')(m:ae W W'):OnV w6 W' F T p kn n D F' :=
 ⟨h.view.more m,h.from',am (F':=fun _=>False) h.turn m (fun _ q=>q.elim),h.inv⟩
theorem put (h:OnV w6 W F T p kn n D F')(hF:∀k,F k→k<w6.heap.size){r:Loop}(r':Loop)(hl:W.heap[w6.heap.size+1]?=some (.loop r)):OnV w6 (W.putObj (w6.heap.size+1) (.loop r')) F T p kn n D F' :=
 ⟨h.view.keepS (S:=fun k=>k=w6.heap.size+1) (fE (Turned.refl _ W) _ _ (fun _=>rfl))
  (fun k q e=>by subst e;rcases h.from' _ q with r|r;have:=hF _ r;omega;omega)
  (fun k es cl e q=>by subst e;rw[hl] at q;cases q),
  h.from',fE h.turn _ _ (fun q=>by omega),h.inv⟩
theorem box (h:OnV w6 W F T p kn n D F'){b:Nat}(hT:T b)(hF:∀k,F k→k<b)(hb:b<w6.heap.size)(v:Value){o:Obj}(ho:W.heap[b]?=some o)(hm:∀es cl,o≠ .map es cl):OnV w6 (W.setCell ⟨b,0,none⟩ v) F T p kn n D F' :=
 ⟨h.view.keepS (S:=fun k=>k=b) (Turned.setCell (S:=fun k=>k=b) (Turned.refl _ W) ⟨b,0,none⟩ v (fun _=>rfl))
  (fun k q e=>by subst e;rcases h.from' _ q with r|r;have:=hF _ r;omega;omega)
  (fun k es cl e q=>by subst e;rw[ho] at q;cases q;exact hm _ _ rfl),
  h.from',h.turn.setCell ⟨b,0,none⟩ v (fun _=> .inr hT),h.inv⟩
theorem step (h:OnV w6 W F T p kn n D F')(hs:w6.heap.size+2≤W.heap.size){D1:List KV}{v:Value}{e:Ending}(m:ae W W'){W2:World}(hd:gv W' F' p kn D1 v e W2)(hI:cC n D1):
 e=.returned v∧∃F1,OnV w6 W2 F T p kn n D1 F1∧Turned F' W W2:=by
 obtain⟨he,F1,hv,ht,hn⟩:=hd
 refine⟨he,F1,⟨hv,fun k q=>?_,am (am (F':=fun _=>False) h.turn m (fun _ q=>q.elim)) ht (fun k q=>(h.from' k q).imp .inl (fun r=>by omega)),hI⟩,am (Turned.mono m (fun _ _ q=>q.elim)) ht (fun k q=> .inl q)⟩
 rcases hn k q with r|r
 ·exact h.from' k r
 ·have:=m.size;exact .inr (by omega)
theorem same (h:OnV w6 W F T p kn n D F')(hF:∀k,F k→k<w6.heap.size)(hs:w6.heap.size+2≤W.heap.size){W2:World}(t:Turned F' W W2):bL (dI w6.heap.size) W W2 :=
 bL.turned t (fun k q=>by rcases q with q|q<;>omega) (fun k q r=>by
  rcases h.from' k r with s|s
  ·have:=hF k s;rcases q with q|q<;>omega
  ·rcases q with q|q<;>omega)
theorem sameS (h:OnV w6 W F T p kn n D F'){S:Nat→Prop}(hS:∀k,S k→k<w6.heap.size∧¬F k){W2:World}(t:Turned F' W W2):bL S W W2 :=
 bL.turned t (fun k q=>Nat.lt_of_lt_of_le (hS k q).1 h.turn.size) (fun k q r=>by
  rcases h.from' k r with s|s
  ·exact(hS k q).2 s
  ·have:=(hS k q).1;omega)
end OnV
def oq (w6 W:World)(F T:Nat→Prop)(p:Nat)(a:Int):Prop:=bB W p a∧Turned (fun k=>F k∨T k) w6 W
theorem oq.of {w6 W W' W2:World}{F T F':Nat→Prop}{p n:Nat}{kn:Int→Option Int}{D:List KV}(h:OnV w6 W F T p kn n D F')(hs:w6.heap.size≤W.heap.size)(m:ae W W'){a:Int}{e:Ending}(he:vz W' F' p a e W2):e=.panicked (bg p)∧oq w6 W2 F T p a∧Turned F' W W2 :=
 ⟨he.1,⟨he.2.1,am (am (F':=fun _=>False) h.turn m (fun _ q=>q.elim)) he.2.2 (fun k q=>(h.from' k q).imp .inl (fun r=>by omega))⟩,am (Turned.mono m (fun _ _ q=>q.elim)) he.2.2 (fun k q=> .inl q)⟩
theorem oq.more {w6 W W':World}{F T:Nat→Prop}{p:Nat}{a:Int}(h:oq w6 W F T p a)(m:ae W W'):oq w6 W' F T p a :=
 ⟨h.1.keep m (fun q=>q),am (F':=fun _=>False) h.2 m (fun _ q=>q.elim)⟩
theorem oq.put {w6 W:World}{F T:Nat→Prop}{p:Nat}{a:Int}(h:oq w6 W F T p a){l:Nat}{o:Obj}(hl:W.heap[l]?=some o)(ho:o.isCells=false)(hb:w6.heap.size≤l)(o':Obj):oq w6 (W.putObj l o') F T p a:=by
 refine⟨?_,fE h.2 _ _ (fun q=>by omega)⟩
 obtain⟨M,q,hp⟩:=h.1
 exact⟨M,q,(World.putObj_heap_other (by rintro rfl;rw[hl] at hp;cases hp;cases ho)).trans hp⟩
theorem Hx {α:Type}{w w6 W:World}{F T:Nat→Prop}{p:Nat}{kn:Int→Option Int}{a:Int}{val:α→Value}{R:Res α}(m:ae w w6)(hT:∀k,T k→w.heap.size≤k)(h:oq w6 W F T p a)(hR:R=.need a):aG w F p kn val R (.panicked (bg p)) W :=
 aG.need hR ⟨rfl,h.1,am (Turned.mono m (fun _ _ q=>q.elim)) h.2 (fun k q=>q.imp id (hT k))⟩
theorem Kk {α:Type}{w w6 W W2:World}{F T F' S:Nat→Prop}{p n:Nat}{kn:Int→Option Int}{D:List KV}{val:α→Value}{R:Res α}{x:α}(m:ae w w6)(hT:∀k,T k→w.heap.size≤k)(h:OnV w6 W F T p kn n D F')(hR:R=.ok x D)
 (t:Turned S W W2) (hS:∀k,S k→w.heap.size≤k∧¬F' k) (hM:∀k es cl,S k→W.heap[k]? ≠some (.map es cl)):aG w F p kn val R (.returned (val x)) W2:=by
 refine aG.did hR ⟨rfl,F',h.view.keepS t (fun k q r=>(hS k r).2 q) hM,?_,fun k q=>(h.from' k q).imp id (fun r=>by have:=m.size;omega)⟩
 exact am (am (Turned.mono m (fun _ _ q=>q.elim)) h.turn (fun k q=>q.imp id (hT k))) t (fun k q=> .inr (hS k q).1)
section
variable (w6:World)(F:Nat→Prop)(b p:Nat)(tb:TypeId)(kn:Int→Option Int)(n:Nat)
def Dx (Sem:List KV→Value→Prop)(W:World):Prop:=∃F' D' v,OnV w6 W F (fun k=>k=b) p kn n D' F'∧W.heap[b]?=some (.cells #[v] tb (0,0))∧Sem D' v
def Hy (NeedR:Int→Prop)(Ret:List KV→Value→Prop):Exit→World→Prop
 | .panic ch,W=>ch=bg p∧∃a,NeedR a∧oq w6 W F (fun k=>k=b) p a
 | .ret,W=>Dx w6 F b p tb kn n Ret W
 | _,_=>False
def Mi (Sem:List KV→Value→Prop)(tc:TypeId)(cs:Array Value)(acts:Nat→Act)(a':Act)(W:World):Prop :=
 ∃Bx F' D' v,w6.heap.size+2≤Bx∧¬F' Bx∧W.heap[Bx]?=some (.cells cs tc (0,0))∧OnV w6 W F (fun k=>k=b) p kn n D' F'∧W.heap[b]?=some (.cells #[v] tb (0,0))∧Sem D' v∧a'=acts Bx
end
section
variable {w6:World}{F:Nat→Prop}{b p:Nat}{tb:TypeId}{kn:Int→Option Int}{n:Nat}
theorem ra (hF:∀k,F k→k<w6.heap.size)(hb:b<w6.heap.size)(Sem:List KV→Value→Prop):i8 w6.heap.size (Dx w6 F b p tb kn n Sem):=
 ⟨fun {A A'} h m=>by obtain⟨F',D',v,h1,h2,h3⟩:=h;exact⟨F',D',v,h1.more m,m.block h2,h3⟩,
  fun {A r} r' h hl=>by obtain⟨F',D',v,h1,h2,h3⟩:=h;exact⟨F',D',v,h1.put hF r' hl,(World.putObj_heap_other (by omega)).trans h2,h3⟩⟩
theorem za (hF:∀k,F k→k<w6.heap.size)(hb:b<w6.heap.size)(NeedR:Int→Prop)(Ret:List KV→Value→Prop)(e:Exit):i8 w6.heap.size (Hy w6 F b p tb kn n NeedR Ret e):=by
 cases e with
 |panic ch =>
  exact⟨fun {A A'} h m=>by obtain⟨h1,a,h2,h3⟩:=h;exact⟨h1,a,h2,h3.more m⟩,
   fun {A r} r' h hl=>by obtain⟨h1,a,h2,h3⟩:=h;exact⟨h1,a,h2,h3.put hl rfl (by omega) _⟩⟩
 |ret=>exact ra hF hb Ret
 |normal=>exact⟨fun {A A'} h m=>h,fun {A r} r' h hl=>h⟩
 |exit _=>exact⟨fun {A A'} h m=>h,fun {A r} r' h hl=>h⟩
 |goto _=>exact⟨fun {A A'} h m=>h,fun {A r} r' h hl=>h⟩
 |outgrown=>exact⟨fun {A A'} h m=>h,fun {A r} r' h hl=>h⟩
theorem zc (hF:∀k,F k→k<w6.heap.size)(hb:b<w6.heap.size)(Sem:List KV→Value→Prop)(tc:TypeId)(cs:Array Value)(acts:Nat→Act)(a':Act):i8 w6.heap.size (Mi w6 F b p tb kn n Sem tc cs acts a'):=
 ⟨fun {A A'} h m=>by obtain⟨Bx,F',D',v,h0,h1,h2,h3,h4,h5⟩:=h;exact⟨Bx,F',D',v,h0,h1,m.block h2,h3.more m,m.block h4,h5⟩,
  fun {A r} r' h hl=>by
   obtain⟨Bx,F',D',v,h0,h1,h2,h3,h4,h5⟩:=h
   exact⟨Bx,F',D',v,h0,h1,(World.putObj_heap_other (by omega)).trans h2,h3.put hF r' hl,(World.putObj_heap_other (by omega)).trans h4,h5⟩⟩
end
attribute [local go_sem] Oper.semAt_some
def xy:Array Value:= #[.int .i64 0,.int .i64 0,.int .i64 0,.int .i64 0,.int .i64 0,.int .i64 0,.int .i64 0,.int .i64 0,.int .i64 0,.int .i64 0,.int .i64 0,.int .i64 0,.int .i64 0,.int .i64 0,.int .i64 0,.int .i64 0,.int .i64 0,.int .i64 0,.int .i64 0,.int .i64 0,.int .i64 0,.int .i64 0,.int .i64 0,.int .i64 0,.int .i64 0]
theorem Kl (c:Cfg)(k:Int):(ci c k).all (·.oneCell')=true:=by
 unfold ci
 rw[Array.all_push]
 have:c.arr.all (·.oneCell')=true:=kG ..
 rw[this];rfl
theorem EQ (W:World)(c:Cfg)(k:Int):((W.alloc (.cells xy 139)).setRow W.heap.size (ci c k)).heap[W.heap.size]?=some (.cells (ci c k) 139 (0,0))∧ae W ((W.alloc (.cells xy 139)).setRow W.heap.size (ci c k)):=
 ⟨setRow_heap _ _ _ _ _ _ (a7 W _),((ae.refl W).alloc _).setRow _ _ (Nat.le_refl _)⟩
theorem mU {S:Nat→Prop}{W W':World}(m:ae W W')(hS:∀k,S k→k<W.heap.size):bL S W W':=bL.turned m hS (fun _ _ q=>q)
attribute [local go_sem] Oper.semAt_some
theorem iE {P:Program}{w:World}{ty:TypeId}{g:Nat}{v:Value}{d:TypeDesc}(hu:P.underlying ty=some d)(hd:(match d with| .struct _| .array _ _=>true|_=>false)=false)(hc:w.cell? ⟨g,0,none⟩=some v):(loadVar ty ⟨g,0,none⟩).run P w=.ok v w:=by
 have hagg:(isAgg ty).run P w=.ok false w:=by
  unfold isAgg
  rw[Sem.run_bind,run_underlying hu w]
  cases d<;>simp_all
 simp[loadVar,Sem.run_bind,hagg,hc,Result.andThen,go_sem]
section
variable {F:Fence}{n:Nat}{P:Program}{o:Oper}{a:Act}{w:World}{K:Act→World→Prop}{Q:Exit→Act→World→Prop}
theorem aJ {ty:TypeId}{x:Operand}(ho:o.op=.load ty x){g:Nat}(hx:a.eval x=.pointer (some ⟨g,0,none⟩)){v:Value}(hr:(loadVar ty ⟨g,0,none⟩).run P w=.ok v w)(h:K (a.put o.dst v) w):o.wpIn F n P a w K Q:=by
 refine⟨by simp[Oper.about,ho],?_⟩
 rw[Oper.semAt_plain F _ _ (by rw[ho];intro c hc;cases hc)]
 simp[execOp,ho,hx,Instr.loadAt,Instr.sureAddr,Sem.run_bind,hr,Result.andThen]
 exact h
theorem cQ {l f:Nat}{x0 x1 x2:Operand}{v0 v1 v2:Value}{ts:Array TypeId}(ho:o.op=.call { callee:= .value (.func f),args:= #[x0,x1,x2],argTypes:=ts })(h0:a.eval x0=v0)(h1:a.eval x1=v1)(h2:a.eval x2=v2)(he:∀(vs:Array Value)(w:World),Sem.run P (callFunc f vs) w=.ok (.enter f vs) w)
 (h:CallsIn Fence.wide (n-1) P f #[v0,v1,v2] w (fun| .returned v,w''=>K (a.put o.dst v) w''| .panicked ch,w''=>Q (.panic ch) a w''| .outgrown,_=>LetsOut Q)):o.wpIn (Fence.wide.inRound l) n P a w K Q:=by
 refine⟨fun _ _=>trivial,?_⟩
 have hv:a.eval (.func f)=.func (.func f) #[] #[]:=rfl
 rw[Oper.semAt_plain _ _ _ (by rw[ho];intro c hc;cases hc)]
 generalize a.eval=ρ at h0 h1 h2 hv⊢
 simp[execOp,ho,resolve,invoke,hv,h0,h1,h2,he,Sem.run_bind,Result.andThen,go_sem]
 exact⟨fun q=>by simp[Fence.inRound,Fence.wide] at q,CallsIn.inRound l h⟩
end
theorem Hz {c:Cfg}(R:c.Ok){n:Nat}(H:TblIn c.pg c.st n)(hn:n≤10000)(F:Nat→Prop)(p:Nat)(kn:Int→Option Int)(D:List KV)(x y:Int)(hx:W64 x)(w:World)(hv:aD w F p kn D)(hk:OkK kn)(hD:cC n D):
 Calls Tryz.prog 161 #[.pointer (some ⟨p,0,none⟩),.agg c.arr,.int .i64 x,.int .i64 y] w (aG w F p kn (fun s=> .int .i64 s) (gw c.pg c.st x y kn D)):=by
 obtain⟨Rr,hRr⟩:∃Rr,gw c.pg c.st x y kn D=Rr:=⟨_,rfl⟩
 rw[hRr]
 refine(callsIn_wide (n:=3)).1 ?_
 refine iB Tryz.func161 rfl trivial ?_ rfl
 simp only[Tryz.ntmps161,List.size_toArray,List.length_cons,List.length_nil,Nat.reduceAdd,Nat.reduceSub,Array.replicate_succ,Array.replicate_zero,List.push_toArray,List.append_toArray,List.nil_append,List.cons_append]
 refine fx ?_
 gi_wp2
 refine fx ?_
 gi_wp2
 refine ss ?_
 refine fx ?_
 obtain⟨w3,e3,hb0,hb1,hb2,m3,s3⟩:=kO w (.cells #[.pointer (some ⟨p,0,none⟩)] 43) (.cells c.arr 28) (.cells #[.int .i64 0] 3)
 rw[e3]
 clear e3
 have hld3:(loadVar 28 ⟨w.heap.size+1,0,none⟩).run Tryz.prog w3=.ok (.agg c.arr) w3:=run_loadVar_row w3 _ _ _ _ _ _ hb1 Tryz.underlying28 rfl (by kernel_rfl)
 have HB0:=hQQ hb0
 have HB1:=hQQ hb1
 have HB2:=hQQ hb2
 clear hb0 hb1 hb2
 gi_wp2_with (first
  |((with_reducible refine gx ?_ 28 (.tmp 5) ?_ (w.heap.size+1) ?_ (.agg c.arr) ?_ ?_);rfl;rfl;rfl;exact hld3)
  |((with_reducible refine And.intro ?_ ?_);exact trivial;gi_at_call 165;refine(Kj _ x y _).mono ?_;rintro e w' ⟨rfl,rfl⟩))
 obtain⟨hl,hp4,hp5⟩:=EO c x y w3
 have m6:ae w3 (((w3.alloc (.cells c.arr 28)).alloc (.cells #[.int .i64 x] 3)).alloc (.cells #[.int .i64 y] 3)):=(((ae.refl _).alloc _).alloc _).alloc _
 have s6:(((w3.alloc (.cells c.arr 28)).alloc (.cells #[.int .i64 x] 3)).alloc (.cells #[.int .i64 y] 3)).heap.size=w.heap.size+6:=by simp[s3]
 rw[s3] at hl hp4 hp5
 generalize ((w3.alloc (.cells c.arr 28)).alloc (.cells #[.int .i64 x] 3)).alloc (.cells #[.int .i64 y] 3)=w6 at hl hp4 hp5 m6 s6⊢
 have hc0:=m6.block HB0.o
 have hc1:=m6.block HB1.o
 have hc2:=m6.block HB2.o
 have m06:=m3.trans m6
 have hv6:=hv.more m06
 have hF:=hv.lt
 have hF6:∀k,F k→k<w6.heap.size:=fun k q=>by have:=hF k q;omega
 have HR:=hQQ R
 have HK:=hQQ hk
 have HH:=hQQ H
 have HT:=hQQ (fun w=>Dw (c:=c) R x y hx w)
 have OE:=hQQ (EP 2 (by omega) R x y hx (w.heap.size+3) (w.heap.size+3+1) (w.heap.size+3+2) w6 hl hp4 hp5)
 have hR0:(ce c.pg x y=true→ii c.pg c.st (ee c.pg x y) (x / 4) 0 kn D=Rr)∧(ce c.pg x y=false→Rr=.ok 0 D):=by
  unfold gw at hRr
  unfold ee
  cases hth:ce c.pg x y with
  |true=>rw[hth] at hRr;exact⟨fun _=>hRr,fun q=>(by cases q)⟩
  |false=>rw[hth] at hRr;exact⟨fun q=>(by cases q),fun _=>hRr.symm⟩
 have HR0:=hQQ hR0
 have ON0:=hQQ (OnV.begin (T:=fun k=>k=w.heap.size+2) hv6 hD)
 clear hRr R hk H hl hp4 hp5 hv hv6 hD hx m3 s3 hld3 HB0 HB1 HB2 m6 hR0
 have HC0:=hQQ hc0
 have HC1:=hQQ hc1
 have HC2:=hQQ hc2
 clear hc0 hc1 hc2
 have hNT:∀k,k=w.heap.size+2→w.heap.size≤k:=fun k q=>by omega
 have hb6:w.heap.size+2<w6.heap.size:=by omega
 refine oe ?_
 refine GI (N:=ee c.pg x y) (gf:=170) (lb:=#[.pointer (some ⟨w.heap.size+3,0,none⟩),.pointer (some ⟨w.heap.size+3+1,0,none⟩),.pointer (some ⟨w.heap.size+3+2,0,none⟩)]) Tryz.func161 rfl (by omega) rfl trivial (enters_of Tryz.func170 (by kernel_rfl) rfl) OE.o (ae.refl _) (by rintro k (rfl|rfl|rfl)<;>omega) (fun _=>rfl)
  (fun i=>Dx w6 F (w.heap.size+2) p 3 kn n (fun D' v=>∃s:Int,v=.int .i64 s∧0≤s∧s≤4 * (i:Int)∧(ce c.pg x y=true→ii c.pg c.st (ee c.pg x y-i) (x / 4+(i:Int)) s kn D'=Rr)∧(ce c.pg x y=false→D'=D∧s=0)))
  (fun e _=>Hy w6 F (w.heap.size+2) p 3 kn n (fun a=>Rr=.need a) (fun _ _=>False) e)
  (fun i=>ra hF6 hb6 _) (fun e i=>za hF6 hb6 _ _ e)
  ⟨F,D,_,ON0.o,HC2.o,0,rfl,by omega,by omega,fun h=>by simpa using HR0.o.1 h,fun _=>⟨rfl,rfl⟩⟩
  (fun i=>Mi w6 F (w.heap.size+2) p 3 kn n (fun D' v=>∃s:Int,v=.int .i64 s∧0≤s∧s≤4 * (i:Int)∧(ce c.pg x y=true→ii c.pg c.st (ee c.pg x y-i) (x / 4+(i:Int)) s kn D'=Rr)∧(ce c.pg x y=false→D'=D∧s=0)) 139 (ci c (x / 4+(i:Int)))
   (fun Bx=> { tmps:= #[.pointer (some ⟨p,0,none⟩),.agg c.arr,.int .i64 x,.int .i64 y,.pointer (some ⟨w.heap.size,0,none⟩),.pointer (some ⟨w.heap.size+1,0,none⟩),undef,undef,.int .i64 0,.pointer (some ⟨w.heap.size+1+1,0,none⟩),.pointer (some ⟨Bx,0,none⟩),.agg c.arr,.int .i64 x,.int .i64 y,.func (.func 170) #[] #[.pointer (some ⟨w.heap.size+3,0,none⟩),.pointer (some ⟨w.heap.size+3+1,0,none⟩),.pointer (some ⟨w.heap.size+3+2,0,none⟩)],.agg (ci c (x / 4+(i:Int))),undef,undef,undef,undef,undef,undef],defers:= [] }))
  (fun i a'=>zc hF6 hb6 _ _ _ _ a') ?assign ?body ?done ?stop ?dies
 case assign =>
  rintro l i W K hi hsz ⟨F',D',v,h1,h2,h3⟩ hK
  obtain⟨hx1,hm1⟩:=EQ W c (x / 4+(i:Int))
  gi_wp2_with ((with_reducible refine jk ?_ 139 (.tmp 10) (.tmp 15) ?_ W.heap.size ?_ (ci c (x / 4+(i:Int))) ?_ 139 xy ?_ ?_ ?_ ?_ ?_);rfl;rfl;rfl;rfl;exact a7 W _;kernel_rfl;rfl;exact Kl c _)
  refine hK _ _ (mU hm1 (by rintro k (rfl|rfl)<;>omega)) (mU hm1 (by rintro k (rfl|rfl|rfl)<;>omega)) ?_
  exact⟨W.heap.size,F',D',v,hsz,fun q=>by have:=h1.view.lt _ q;omega,hx1,h1.more hm1,hm1.block h2,h3,rfl⟩
 case body =>
  rintro l i a' W hsz hi ⟨Bx,F',D',v,g0,g1,g2,g3,g4,⟨s,rfl,s0,s1,g5,g6⟩,rfl⟩
  have HEN:=enters_of Tryz.func166 (by kernel_rfl) rfl
  have hmx:Tryz.prog.follows .mixedOrders=true:=by kernel_rfl
  have hld:=run_loadVar_row (P:=Tryz.prog) W.drew Bx _ 139 _ _ _ g2 Tryz.underlying139 rfl (by kernel_rfl)
  have hcv:=(Turned.block g3.turn w.heap.size (by omega) (by rintro(q|q);have:=hF _ q;omega;omega)).trans HC0.o
  have cv:W.drew.cell? ⟨w.heap.size,0,none⟩=some (.pointer (some ⟨p,0,none⟩)):=(aB hcv).1
  have cs:W.drew.cell? ⟨w.heap.size+1+1,0,none⟩=some (.int .i64 s):=(aB (b:=w.heap.size+1+1) g4).1
  have hv1:(loadVar 43 ⟨w.heap.size,0,none⟩).run Tryz.prog W.drew=.ok (.pointer (some ⟨p,0,none⟩)) W.drew:=iE Tryz.underlying43 rfl cv
  have hs1:(loadVar 3 ⟨w.heap.size+1+1,0,none⟩).run Tryz.prog W.drew=.ok (.int .i64 s) W.drew:=iE Tryz.underlying3 rfl cs
  have hth:ce c.pg x y=true:=by
   cases q:ce c.pg x y with
   |true=>rfl
   |false=>unfold ee at hi;rw[q] at hi;simp at hi
  have hN:ee c.pg x y≤64:=by unfold ee;rw[hth];exact(Bq hth HR.o.pg2).2
  have hsem:=g5 hth
  rw[show ee c.pg x y-i=(ee c.pg x y-(i+1))+1 by omega] at hsem
  have hsem2:ak (jI c.pg c.st (x / 4+(i:Int)) 1) (fun z=>ii c.pg c.st (ee c.pg x y-(i+1)) (x / 4+(i:Int)+1) (s+z)) kn D'=Rr:=hsem
  have TN:=hQQ (MT HR.o HH.o hn F' p kn D' (x / 4+(i:Int)) 1 W.drew (g3.view.more (ae.refl W).drew) HK.o g3.inv)
  have G3:=hQQ g3
  have G4:=hQQ g4
  have HS:=hQQ hsem2
  clear hcv hsem hsem2 g3 g4 g5 g6 g2 cv cs
  refine wpIn_block ?_
  cases hm:jI c.pg c.st (x / 4+(i:Int)) 1 kn D' with
  |need a =>
   have FIN:Hq (∀W2 e,aG W.drew F' p kn (fun y:Int=>Value.int .i64 y) (.need a) e W2→e=.panicked (bg p)∧bL (dI w6.heap.size) W W2∧([]:List Deferred)= []∧Hy w6 F (w.heap.size+2) p 3 kn n (fun a=>Rr=.need a) (fun _ _=>False) (.panic (bg p)) W2):=hQQ fun W2 e he=>by
    obtain⟨he',hend,ht⟩:=oq.of G3.o (by omega) (ae.refl W).drew he
    exact⟨he',G3.o.same hF6 hsz ht,rfl,rfl,a,HS.o.symm.trans (ag hm),hend⟩
   refine wpIn_region_any hmx ?_
   change wpAnyIn _ _ _ _ _ _ _ _ _ (World.drew _)
   refine wpAnyIn_ready (rs:=[0,1,2]) (by kernel_rfl) (by simp) ?_
   refine AllReadyIn.cons rfl (fun K hK=>?_) ?_
   ·rw[if_pos (by rfl)];refine aJ rfl rfl hs1 ?_;refine hK _ _ ?_;clear hK K
    refine wpAnyIn_ready (rs:=[1,2]) (by kernel_rfl) (by simp) ?_
    refine AllReadyIn.cons rfl (fun K hK=>?_) ?_
    ·rw[if_pos (by rfl)];refine aJ rfl rfl hld ?_;refine hK _ _ ?_;clear hK K
     refine wpAnyIn_ready (rs:=[2]) (by kernel_rfl) (by simp) ?_
     refine AllReadyIn.cons rfl (fun K hK=>?_) ?_
     ·rw[if_pos (by rfl)];refine aJ rfl rfl hv1 ?_;refine hK _ _ ?_;clear hK K
      refine wpAnyIn_ready (rs:=[3]) (by kernel_rfl) (by simp) ?_
      refine AllReadyIn.cons rfl (fun K hK=>?_) ?_
      ·rw[if_pos (by rfl)];refine cQ (v0:=.agg (ci c (x / 4+(i:Int)))) (v1:=.pointer (some ⟨p,0,none⟩)) (v2:=.int .i64 1) rfl rfl rfl rfl HEN ?_
       refine(callsIn_wide.2 TN.o).mono ?_
       intro e W2 he
       rw[hm] at he
       obtain⟨rfl,hfin⟩:=FIN.o W2 e he
       exact hfin
      exact AllReadyIn.nil
     exact AllReadyIn.nil
    refine AllReadyIn.cons rfl (fun K hK=>?_) ?_
    ·rw[if_pos (by rfl)];refine aJ rfl rfl hv1 ?_;refine hK _ _ ?_;clear hK K
     refine wpAnyIn_ready (rs:=[1]) (by kernel_rfl) (by simp) ?_
     refine AllReadyIn.cons rfl (fun K hK=>?_) ?_
     ·rw[if_pos (by rfl)];refine aJ rfl rfl hld ?_;refine hK _ _ ?_;clear hK K
      refine wpAnyIn_ready (rs:=[3]) (by kernel_rfl) (by simp) ?_
      refine AllReadyIn.cons rfl (fun K hK=>?_) ?_
      ·rw[if_pos (by rfl)];refine cQ (v0:=.agg (ci c (x / 4+(i:Int)))) (v1:=.pointer (some ⟨p,0,none⟩)) (v2:=.int .i64 1) rfl rfl rfl rfl HEN ?_
       refine(callsIn_wide.2 TN.o).mono ?_
       intro e W2 he
       rw[hm] at he
       obtain⟨rfl,hfin⟩:=FIN.o W2 e he
       exact hfin
      exact AllReadyIn.nil
     exact AllReadyIn.nil
    exact AllReadyIn.nil
   refine AllReadyIn.cons rfl (fun K hK=>?_) ?_
   ·rw[if_pos (by rfl)];refine aJ rfl rfl hld ?_;refine hK _ _ ?_;clear hK K
    refine wpAnyIn_ready (rs:=[0,2]) (by kernel_rfl) (by simp) ?_
    refine AllReadyIn.cons rfl (fun K hK=>?_) ?_
    ·rw[if_pos (by rfl)];refine aJ rfl rfl hs1 ?_;refine hK _ _ ?_;clear hK K
     refine wpAnyIn_ready (rs:=[2]) (by kernel_rfl) (by simp) ?_
     refine AllReadyIn.cons rfl (fun K hK=>?_) ?_
     ·rw[if_pos (by rfl)];refine aJ rfl rfl hv1 ?_;refine hK _ _ ?_;clear hK K
      refine wpAnyIn_ready (rs:=[3]) (by kernel_rfl) (by simp) ?_
      refine AllReadyIn.cons rfl (fun K hK=>?_) ?_
      ·rw[if_pos (by rfl)];refine cQ (v0:=.agg (ci c (x / 4+(i:Int)))) (v1:=.pointer (some ⟨p,0,none⟩)) (v2:=.int .i64 1) rfl rfl rfl rfl HEN ?_
       refine(callsIn_wide.2 TN.o).mono ?_
       intro e W2 he
       rw[hm] at he
       obtain⟨rfl,hfin⟩:=FIN.o W2 e he
       exact hfin
      exact AllReadyIn.nil
     exact AllReadyIn.nil
    refine AllReadyIn.cons rfl (fun K hK=>?_) ?_
    ·rw[if_pos (by rfl)];refine aJ rfl rfl hv1 ?_;refine hK _ _ ?_;clear hK K
     refine wpAnyIn_ready (rs:=[0,3]) (by kernel_rfl) (by simp) ?_
     refine AllReadyIn.cons rfl (fun K hK=>?_) ?_
     ·rw[if_pos (by rfl)];refine aJ rfl rfl hs1 ?_;refine hK _ _ ?_;clear hK K
      refine wpAnyIn_ready (rs:=[3]) (by kernel_rfl) (by simp) ?_
      refine AllReadyIn.cons rfl (fun K hK=>?_) ?_
      ·rw[if_pos (by rfl)];refine cQ (v0:=.agg (ci c (x / 4+(i:Int)))) (v1:=.pointer (some ⟨p,0,none⟩)) (v2:=.int .i64 1) rfl rfl rfl rfl HEN ?_
       refine(callsIn_wide.2 TN.o).mono ?_
       intro e W2 he
       rw[hm] at he
       obtain⟨rfl,hfin⟩:=FIN.o W2 e he
       exact hfin
      exact AllReadyIn.nil
     refine AllReadyIn.cons rfl (fun K hK=>?_) ?_
     ·rw[if_pos (by rfl)];refine cQ (v0:=.agg (ci c (x / 4+(i:Int)))) (v1:=.pointer (some ⟨p,0,none⟩)) (v2:=.int .i64 1) rfl rfl rfl rfl HEN ?_
      refine(callsIn_wide.2 TN.o).mono ?_
      intro e W2 he
      rw[hm] at he
      obtain⟨rfl,hfin⟩:=FIN.o W2 e he
      exact hfin
     exact AllReadyIn.nil
    exact AllReadyIn.nil
   refine AllReadyIn.cons rfl (fun K hK=>?_) ?_
   ·rw[if_pos (by rfl)];refine aJ rfl rfl hv1 ?_;refine hK _ _ ?_;clear hK K
    refine wpAnyIn_ready (rs:=[0,1]) (by kernel_rfl) (by simp) ?_
    refine AllReadyIn.cons rfl (fun K hK=>?_) ?_
    ·rw[if_pos (by rfl)];refine aJ rfl rfl hs1 ?_;refine hK _ _ ?_;clear hK K
     refine wpAnyIn_ready (rs:=[1]) (by kernel_rfl) (by simp) ?_
     refine AllReadyIn.cons rfl (fun K hK=>?_) ?_
     ·rw[if_pos (by rfl)];refine aJ rfl rfl hld ?_;refine hK _ _ ?_;clear hK K
      refine wpAnyIn_ready (rs:=[3]) (by kernel_rfl) (by simp) ?_
      refine AllReadyIn.cons rfl (fun K hK=>?_) ?_
      ·rw[if_pos (by rfl)];refine cQ (v0:=.agg (ci c (x / 4+(i:Int)))) (v1:=.pointer (some ⟨p,0,none⟩)) (v2:=.int .i64 1) rfl rfl rfl rfl HEN ?_
       refine(callsIn_wide.2 TN.o).mono ?_
       intro e W2 he
       rw[hm] at he
       obtain⟨rfl,hfin⟩:=FIN.o W2 e he
       exact hfin
      exact AllReadyIn.nil
     exact AllReadyIn.nil
    refine AllReadyIn.cons rfl (fun K hK=>?_) ?_
    ·rw[if_pos (by rfl)];refine aJ rfl rfl hld ?_;refine hK _ _ ?_;clear hK K
     refine wpAnyIn_ready (rs:=[0,3]) (by kernel_rfl) (by simp) ?_
     refine AllReadyIn.cons rfl (fun K hK=>?_) ?_
     ·rw[if_pos (by rfl)];refine aJ rfl rfl hs1 ?_;refine hK _ _ ?_;clear hK K
      refine wpAnyIn_ready (rs:=[3]) (by kernel_rfl) (by simp) ?_
      refine AllReadyIn.cons rfl (fun K hK=>?_) ?_
      ·rw[if_pos (by rfl)];refine cQ (v0:=.agg (ci c (x / 4+(i:Int)))) (v1:=.pointer (some ⟨p,0,none⟩)) (v2:=.int .i64 1) rfl rfl rfl rfl HEN ?_
       refine(callsIn_wide.2 TN.o).mono ?_
       intro e W2 he
       rw[hm] at he
       obtain⟨rfl,hfin⟩:=FIN.o W2 e he
       exact hfin
      exact AllReadyIn.nil
     refine AllReadyIn.cons rfl (fun K hK=>?_) ?_
     ·rw[if_pos (by rfl)];refine cQ (v0:=.agg (ci c (x / 4+(i:Int)))) (v1:=.pointer (some ⟨p,0,none⟩)) (v2:=.int .i64 1) rfl rfl rfl rfl HEN ?_
      refine(callsIn_wide.2 TN.o).mono ?_
      intro e W2 he
      rw[hm] at he
      obtain⟨rfl,hfin⟩:=FIN.o W2 e he
      exact hfin
     exact AllReadyIn.nil
    exact AllReadyIn.nil
   exact AllReadyIn.nil
  |ok z D1 =>
   have FI2:Hq (∀W2 e,aG W.drew F' p kn (fun y:Int=>Value.int .i64 y) (.ok z D1) e W2→e=.returned (.int .i64 z)∧(loadVar 3 ⟨w.heap.size+1+1,0,none⟩).run Tryz.prog W2=.ok (.int .i64 s) W2∧W2.cell? ⟨w.heap.size+1+1,0,none⟩=some (.int .i64 s)∧W2.frozen? ⟨w.heap.size+1+1,0,none⟩=false ∧
    (bL (dI w6.heap.size) W (W2.setCell ⟨w.heap.size+1+1,0,none⟩ (.int .i64 (s+z)))∧bL (fun k=>k=w.heap.size+3∨k=w.heap.size+3+1∨k=w.heap.size+3+2) W (W2.setCell ⟨w.heap.size+1+1,0,none⟩ (.int .i64 (s+z)))∧Dx w6 F (w.heap.size+2) p 3 kn n (fun D' v=>∃s:Int,v=.int .i64 s∧0≤s∧s≤4 * ((i+1:Nat):Int)∧(ce c.pg x y=true→ii c.pg c.st (ee c.pg x y-(i+1)) (x / 4+((i+1:Nat):Int)) s kn D'=Rr)∧(ce c.pg x y=false→D'=D∧s=0)) (W2.setCell ⟨w.heap.size+1+1,0,none⟩ (.int .i64 (s+z))))):=hQQ fun W2 e he=>by
    obtain⟨hI1,z0,z1⟩:=(qo HH.o _ 1 (by unfold W64;omega)).ok HK.o G3.o.inv hm
    obtain⟨he',F1,hon,ht⟩:=G3.o.step hsz (ae.refl W).drew he hI1
    have hbr:W2.heap[w.heap.size+2]?=some (.cells #[.int .i64 s] 3 (0,0)):=(Turned.block ht _ (by omega) (fun q=>by rcases G3.o.from' _ q with r|r;have:=hF _ r;omega;omega)).trans G4.o
    obtain⟨cr,fr,_⟩:=aB (b:=w.heap.size+1+1) hbr
    have hlt:=ac hbr
    have hsz2:=ht.size
    have tb:Turned (fun k=>k=w.heap.size+1+1) W2 (W2.setCell ⟨w.heap.size+1+1,0,none⟩ (.int .i64 (s+z))):=Turned.setCell (Turned.refl _ W2) _ _ (fun _=>rfl)
    refine⟨he',iE Tryz.underlying3 rfl cr,cr,fr,?_,?_,F1,D1,_,hon.box (b:=w.heap.size+1+1) rfl (fun k q=>by have:=hF _ q;omega) (by omega) _ hbr (fun _ _ q=>by cases q),kM (b:=w.heap.size+1+1) _ hbr,s+z,rfl,by omega,by omega,fun _=>?_,fun q=>by rw[hth] at q;cases q⟩
    ·exact(G3.o.same hF6 hsz ht).trans (bL.turned tb (fun k q=>by rcases q with q|q<;>omega) (fun k q r=>by rcases q with q|q<;>omega))
    ·exact(G3.o.sameS (by rintro k (rfl|rfl|rfl)<;>exact⟨by omega,fun q=>by have:=hF _ q;omega⟩) ht).trans (bL.turned tb (fun k q=>by rcases q with q|q|q<;>omega) (fun k q r=>by rcases q with q|q|q<;>omega))
    ·rw[show x / 4+((i+1:Nat):Int)=x / 4+(i:Int)+1 by omega]
     exact(aj hm).symm.trans HS.o
   have zb:=((qo HH.o _ 1 (by unfold W64;omega)).ok HK.o G3.o.inv hm).2
   have qw:IntKind.i64.wrap (s+z)=s+z:=az (by omega) (by omega)
   refine wpIn_region_any hmx ?_
   change wpAnyIn _ _ _ _ _ _ _ _ _ (World.drew _)
   refine wpAnyIn_ready (rs:=[0,1,2]) (by kernel_rfl) (by simp) ?_
   refine AllReadyIn.cons rfl (fun K hK=>?_) ?_
   ·rw[if_pos (by rfl)];refine aJ rfl rfl hs1 ?_;refine hK _ _ ?_;clear hK K
    refine wpAnyIn_ready (rs:=[1,2]) (by kernel_rfl) (by simp) ?_
    refine AllReadyIn.cons rfl (fun K hK=>?_) ?_
    ·rw[if_pos (by rfl)];refine aJ rfl rfl hld ?_;refine hK _ _ ?_;clear hK K
     refine wpAnyIn_ready (rs:=[2]) (by kernel_rfl) (by simp) ?_
     refine AllReadyIn.cons rfl (fun K hK=>?_) ?_
     ·rw[if_pos (by rfl)];refine aJ rfl rfl hv1 ?_;refine hK _ _ ?_;clear hK K
      refine wpAnyIn_ready (rs:=[3]) (by kernel_rfl) (by simp) ?_
      refine AllReadyIn.cons rfl (fun K hK=>?_) ?_
      ·rw[if_pos (by rfl)];refine cQ (v0:=.agg (ci c (x / 4+(i:Int)))) (v1:=.pointer (some ⟨p,0,none⟩)) (v2:=.int .i64 1) rfl rfl rfl rfl HEN ?_
       refine(callsIn_wide.2 TN.o).mono ?_
       intro e W2 he
       rw[hm] at he
       obtain⟨rfl,hs2,cs2,fs2,hfin⟩:=FI2.o W2 e he
       have FIN:=hQQ hfin
       clear hfin he
       refine hK _ _ ?_;clear hK K
       refine wpAnyIn_ready (rs:=[4]) (by kernel_rfl) (by simp) ?_
       refine AllReadyIn.cons rfl (fun K hK=>?_) ?_
       ·go_simp;refine hK _ _ ?_;clear hK K
        refine wpAnyIn_ready (rs:=[5]) (by kernel_rfl) (by simp) ?_
        refine AllReadyIn.cons rfl (fun K hK=>?_) ?_
        ·go_simp;refine hK _ _ ?_;clear hK K
         refine wpAnyIn_done (by kernel_rfl) ?_ _
         exact FIN.o
        exact AllReadyIn.nil
       exact AllReadyIn.nil
      exact AllReadyIn.nil
     exact AllReadyIn.nil
    refine AllReadyIn.cons rfl (fun K hK=>?_) ?_
    ·rw[if_pos (by rfl)];refine aJ rfl rfl hv1 ?_;refine hK _ _ ?_;clear hK K
     refine wpAnyIn_ready (rs:=[1]) (by kernel_rfl) (by simp) ?_
     refine AllReadyIn.cons rfl (fun K hK=>?_) ?_
     ·rw[if_pos (by rfl)];refine aJ rfl rfl hld ?_;refine hK _ _ ?_;clear hK K
      refine wpAnyIn_ready (rs:=[3]) (by kernel_rfl) (by simp) ?_
      refine AllReadyIn.cons rfl (fun K hK=>?_) ?_
      ·rw[if_pos (by rfl)];refine cQ (v0:=.agg (ci c (x / 4+(i:Int)))) (v1:=.pointer (some ⟨p,0,none⟩)) (v2:=.int .i64 1) rfl rfl rfl rfl HEN ?_
       refine(callsIn_wide.2 TN.o).mono ?_
       intro e W2 he
       rw[hm] at he
       obtain⟨rfl,hs2,cs2,fs2,hfin⟩:=FI2.o W2 e he
       have FIN:=hQQ hfin
       clear hfin he
       refine hK _ _ ?_;clear hK K
       refine wpAnyIn_ready (rs:=[4]) (by kernel_rfl) (by simp) ?_
       refine AllReadyIn.cons rfl (fun K hK=>?_) ?_
       ·go_simp;refine hK _ _ ?_;clear hK K
        refine wpAnyIn_ready (rs:=[5]) (by kernel_rfl) (by simp) ?_
        refine AllReadyIn.cons rfl (fun K hK=>?_) ?_
        ·go_simp;refine hK _ _ ?_;clear hK K
         refine wpAnyIn_done (by kernel_rfl) ?_ _
         exact FIN.o
        exact AllReadyIn.nil
       exact AllReadyIn.nil
      exact AllReadyIn.nil
     exact AllReadyIn.nil
    exact AllReadyIn.nil
   refine AllReadyIn.cons rfl (fun K hK=>?_) ?_
   ·rw[if_pos (by rfl)];refine aJ rfl rfl hld ?_;refine hK _ _ ?_;clear hK K
    refine wpAnyIn_ready (rs:=[0,2]) (by kernel_rfl) (by simp) ?_
    refine AllReadyIn.cons rfl (fun K hK=>?_) ?_
    ·rw[if_pos (by rfl)];refine aJ rfl rfl hs1 ?_;refine hK _ _ ?_;clear hK K
     refine wpAnyIn_ready (rs:=[2]) (by kernel_rfl) (by simp) ?_
     refine AllReadyIn.cons rfl (fun K hK=>?_) ?_
     ·rw[if_pos (by rfl)];refine aJ rfl rfl hv1 ?_;refine hK _ _ ?_;clear hK K
      refine wpAnyIn_ready (rs:=[3]) (by kernel_rfl) (by simp) ?_
      refine AllReadyIn.cons rfl (fun K hK=>?_) ?_
      ·rw[if_pos (by rfl)];refine cQ (v0:=.agg (ci c (x / 4+(i:Int)))) (v1:=.pointer (some ⟨p,0,none⟩)) (v2:=.int .i64 1) rfl rfl rfl rfl HEN ?_
       refine(callsIn_wide.2 TN.o).mono ?_
       intro e W2 he
       rw[hm] at he
       obtain⟨rfl,hs2,cs2,fs2,hfin⟩:=FI2.o W2 e he
       have FIN:=hQQ hfin
       clear hfin he
       refine hK _ _ ?_;clear hK K
       refine wpAnyIn_ready (rs:=[4]) (by kernel_rfl) (by simp) ?_
       refine AllReadyIn.cons rfl (fun K hK=>?_) ?_
       ·go_simp;refine hK _ _ ?_;clear hK K
        refine wpAnyIn_ready (rs:=[5]) (by kernel_rfl) (by simp) ?_
        refine AllReadyIn.cons rfl (fun K hK=>?_) ?_
        ·go_simp;refine hK _ _ ?_;clear hK K
         refine wpAnyIn_done (by kernel_rfl) ?_ _
         exact FIN.o
        exact AllReadyIn.nil
       exact AllReadyIn.nil
      exact AllReadyIn.nil
     exact AllReadyIn.nil
    refine AllReadyIn.cons rfl (fun K hK=>?_) ?_
    ·rw[if_pos (by rfl)];refine aJ rfl rfl hv1 ?_;refine hK _ _ ?_;clear hK K
     refine wpAnyIn_ready (rs:=[0,3]) (by kernel_rfl) (by simp) ?_
     refine AllReadyIn.cons rfl (fun K hK=>?_) ?_
     ·rw[if_pos (by rfl)];refine aJ rfl rfl hs1 ?_;refine hK _ _ ?_;clear hK K
      refine wpAnyIn_ready (rs:=[3]) (by kernel_rfl) (by simp) ?_
      refine AllReadyIn.cons rfl (fun K hK=>?_) ?_
      ·rw[if_pos (by rfl)];refine cQ (v0:=.agg (ci c (x / 4+(i:Int)))) (v1:=.pointer (some ⟨p,0,none⟩)) (v2:=.int .i64 1) rfl rfl rfl rfl HEN ?_
       refine(callsIn_wide.2 TN.o).mono ?_
       intro e W2 he
       rw[hm] at he
       obtain⟨rfl,hs2,cs2,fs2,hfin⟩:=FI2.o W2 e he
       have FIN:=hQQ hfin
       clear hfin he
       refine hK _ _ ?_;clear hK K
       refine wpAnyIn_ready (rs:=[4]) (by kernel_rfl) (by simp) ?_
       refine AllReadyIn.cons rfl (fun K hK=>?_) ?_
       ·go_simp;refine hK _ _ ?_;clear hK K
        refine wpAnyIn_ready (rs:=[5]) (by kernel_rfl) (by simp) ?_
        refine AllReadyIn.cons rfl (fun K hK=>?_) ?_
        ·go_simp;refine hK _ _ ?_;clear hK K
         refine wpAnyIn_done (by kernel_rfl) ?_ _
         exact FIN.o
        exact AllReadyIn.nil
       exact AllReadyIn.nil
      exact AllReadyIn.nil
     refine AllReadyIn.cons rfl (fun K hK=>?_) ?_
     ·rw[if_pos (by rfl)];refine cQ (v0:=.agg (ci c (x / 4+(i:Int)))) (v1:=.pointer (some ⟨p,0,none⟩)) (v2:=.int .i64 1) rfl rfl rfl rfl HEN ?_
      refine(callsIn_wide.2 TN.o).mono ?_
      intro e W2 he
      rw[hm] at he
      obtain⟨rfl,hs2,cs2,fs2,hfin⟩:=FI2.o W2 e he
      have FIN:=hQQ hfin
      clear hfin he
      refine hK _ _ ?_;clear hK K
      refine wpAnyIn_ready (rs:=[0]) (by kernel_rfl) (by simp) ?_
      refine AllReadyIn.cons rfl (fun K hK=>?_) ?_
      ·rw[if_pos (by rfl)];refine aJ rfl rfl hs2 ?_;refine hK _ _ ?_;clear hK K
       refine wpAnyIn_ready (rs:=[4]) (by kernel_rfl) (by simp) ?_
       refine AllReadyIn.cons rfl (fun K hK=>?_) ?_
       ·go_simp;refine hK _ _ ?_;clear hK K
        refine wpAnyIn_ready (rs:=[5]) (by kernel_rfl) (by simp) ?_
        refine AllReadyIn.cons rfl (fun K hK=>?_) ?_
        ·go_simp;refine hK _ _ ?_;clear hK K
         refine wpAnyIn_done (by kernel_rfl) ?_ _
         exact FIN.o
        exact AllReadyIn.nil
       exact AllReadyIn.nil
      exact AllReadyIn.nil
     exact AllReadyIn.nil
    exact AllReadyIn.nil
   refine AllReadyIn.cons rfl (fun K hK=>?_) ?_
   ·rw[if_pos (by rfl)];refine aJ rfl rfl hv1 ?_;refine hK _ _ ?_;clear hK K
    refine wpAnyIn_ready (rs:=[0,1]) (by kernel_rfl) (by simp) ?_
    refine AllReadyIn.cons rfl (fun K hK=>?_) ?_
    ·rw[if_pos (by rfl)];refine aJ rfl rfl hs1 ?_;refine hK _ _ ?_;clear hK K
     refine wpAnyIn_ready (rs:=[1]) (by kernel_rfl) (by simp) ?_
     refine AllReadyIn.cons rfl (fun K hK=>?_) ?_
     ·rw[if_pos (by rfl)];refine aJ rfl rfl hld ?_;refine hK _ _ ?_;clear hK K
      refine wpAnyIn_ready (rs:=[3]) (by kernel_rfl) (by simp) ?_
      refine AllReadyIn.cons rfl (fun K hK=>?_) ?_
      ·rw[if_pos (by rfl)];refine cQ (v0:=.agg (ci c (x / 4+(i:Int)))) (v1:=.pointer (some ⟨p,0,none⟩)) (v2:=.int .i64 1) rfl rfl rfl rfl HEN ?_
       refine(callsIn_wide.2 TN.o).mono ?_
       intro e W2 he
       rw[hm] at he
       obtain⟨rfl,hs2,cs2,fs2,hfin⟩:=FI2.o W2 e he
       have FIN:=hQQ hfin
       clear hfin he
       refine hK _ _ ?_;clear hK K
       refine wpAnyIn_ready (rs:=[4]) (by kernel_rfl) (by simp) ?_
       refine AllReadyIn.cons rfl (fun K hK=>?_) ?_
       ·go_simp;refine hK _ _ ?_;clear hK K
        refine wpAnyIn_ready (rs:=[5]) (by kernel_rfl) (by simp) ?_
        refine AllReadyIn.cons rfl (fun K hK=>?_) ?_
        ·go_simp;refine hK _ _ ?_;clear hK K
         refine wpAnyIn_done (by kernel_rfl) ?_ _
         exact FIN.o
        exact AllReadyIn.nil
       exact AllReadyIn.nil
      exact AllReadyIn.nil
     exact AllReadyIn.nil
    refine AllReadyIn.cons rfl (fun K hK=>?_) ?_
    ·rw[if_pos (by rfl)];refine aJ rfl rfl hld ?_;refine hK _ _ ?_;clear hK K
     refine wpAnyIn_ready (rs:=[0,3]) (by kernel_rfl) (by simp) ?_
     refine AllReadyIn.cons rfl (fun K hK=>?_) ?_
     ·rw[if_pos (by rfl)];refine aJ rfl rfl hs1 ?_;refine hK _ _ ?_;clear hK K
      refine wpAnyIn_ready (rs:=[3]) (by kernel_rfl) (by simp) ?_
      refine AllReadyIn.cons rfl (fun K hK=>?_) ?_
      ·rw[if_pos (by rfl)];refine cQ (v0:=.agg (ci c (x / 4+(i:Int)))) (v1:=.pointer (some ⟨p,0,none⟩)) (v2:=.int .i64 1) rfl rfl rfl rfl HEN ?_
       refine(callsIn_wide.2 TN.o).mono ?_
       intro e W2 he
       rw[hm] at he
       obtain⟨rfl,hs2,cs2,fs2,hfin⟩:=FI2.o W2 e he
       have FIN:=hQQ hfin
       clear hfin he
       refine hK _ _ ?_;clear hK K
       refine wpAnyIn_ready (rs:=[4]) (by kernel_rfl) (by simp) ?_
       refine AllReadyIn.cons rfl (fun K hK=>?_) ?_
       ·go_simp;refine hK _ _ ?_;clear hK K
        refine wpAnyIn_ready (rs:=[5]) (by kernel_rfl) (by simp) ?_
        refine AllReadyIn.cons rfl (fun K hK=>?_) ?_
        ·go_simp;refine hK _ _ ?_;clear hK K
         refine wpAnyIn_done (by kernel_rfl) ?_ _
         exact FIN.o
        exact AllReadyIn.nil
       exact AllReadyIn.nil
      exact AllReadyIn.nil
     refine AllReadyIn.cons rfl (fun K hK=>?_) ?_
     ·rw[if_pos (by rfl)];refine cQ (v0:=.agg (ci c (x / 4+(i:Int)))) (v1:=.pointer (some ⟨p,0,none⟩)) (v2:=.int .i64 1) rfl rfl rfl rfl HEN ?_
      refine(callsIn_wide.2 TN.o).mono ?_
      intro e W2 he
      rw[hm] at he
      obtain⟨rfl,hs2,cs2,fs2,hfin⟩:=FI2.o W2 e he
      have FIN:=hQQ hfin
      clear hfin he
      refine hK _ _ ?_;clear hK K
      refine wpAnyIn_ready (rs:=[0]) (by kernel_rfl) (by simp) ?_
      refine AllReadyIn.cons rfl (fun K hK=>?_) ?_
      ·rw[if_pos (by rfl)];refine aJ rfl rfl hs2 ?_;refine hK _ _ ?_;clear hK K
       refine wpAnyIn_ready (rs:=[4]) (by kernel_rfl) (by simp) ?_
       refine AllReadyIn.cons rfl (fun K hK=>?_) ?_
       ·go_simp;refine hK _ _ ?_;clear hK K
        refine wpAnyIn_ready (rs:=[5]) (by kernel_rfl) (by simp) ?_
        refine AllReadyIn.cons rfl (fun K hK=>?_) ?_
        ·go_simp;refine hK _ _ ?_;clear hK K
         refine wpAnyIn_done (by kernel_rfl) ?_ _
         exact FIN.o
        exact AllReadyIn.nil
       exact AllReadyIn.nil
      exact AllReadyIn.nil
     exact AllReadyIn.nil
    exact AllReadyIn.nil
   exact AllReadyIn.nil
 case done =>
  rintro W ⟨F',D',v,h1,h2,⟨s,rfl,s0,s1,h4,h5⟩⟩ hdf
  have hR:Rr=.ok s D':=by
   cases q:ce c.pg x y with
   |true=>have:=h4 q;rw[Nat.sub_self] at this;exact this.symm
   |false=>obtain⟨rfl,rfl⟩:=h5 q;exact HR0.o.2 q
  have cs:W.cell? ⟨w.heap.size+1+1,0,none⟩=some (.int .i64 s):=(aB (b:=w.heap.size+1+1) h2).1
  have FIN:=hQQ (Kk (S:=fun k=>k=w6.heap.size) (val:=fun s:Int=>Value.int .i64 s) m06 hNT h1 hR (fE (Turned.refl _ W) _ (.deferred none) (fun _=>rfl)) (fun k q=>⟨by omega,fun r=>by rcases h1.from' k r with s|s;have:=hF _ s;omega;omega⟩)
   (fun k es cl q r=>by subst q;rw[hdf] at r;cases r))
  clear h1 h2 h4 h5 hR
  rw[s6] at hdf FIN
  refine rP ?_
  gi_wp2
  refine⟨by simp,.inl ⟨_,_,rfl,run_takeDeferred hdf,?_⟩⟩
  refine⟨.int .i64 s,?_,FIN.o⟩
  exact(results_tmp (t:=8) rfl _ _ _).trans rfl
 case stop =>
  rintro i e cc W hj hi hx hdf
  cases e with
  |ret=>obtain⟨F',D',v,h1,h2,hR⟩:=hx;exact hR.elim
  |exit _=>exact hx.elim
  |goto _=>exact hx.elim
  |normal=>cases hj
  |panic _=>cases hj
  |outgrown=>cases hj
 case dies =>
  rintro i ch W hi ⟨rfl,a,hR,hend⟩ hdf
  exact⟨by simp,.inl ⟨_,_,rfl,run_takeDeferred hdf,Hx m06 hNT (hend.put hdf rfl (Nat.le_refl _) _) hR⟩⟩
attribute [local go_sem] Oper.semAt_some
def aR (n lo hi:Int):Int:=lo+(IntKind.u64.wrap n).tmod (hi-lo+1)
theorem sU (n:Int):0≤IntKind.u64.wrap n:=by
 simp only[IntKind.wrap]
 first|exact Int.emod_nonneg _ (by decide)|(simp;done)|omega
theorem Mj (n lo hi:Int)(h:lo≤hi):0≤(IntKind.u64.wrap n).tmod (hi-lo+1)∧(IntKind.u64.wrap n).tmod (hi-lo+1)≤hi-lo:=by
 have h0:=sU n
 rw[Int.tmod_eq_emod_of_nonneg h0]
 have m0:=Int.emod_nonneg (IntKind.u64.wrap n) (show hi-lo+1≠0 by omega)
 have m1:=Int.emod_lt_of_pos (IntKind.u64.wrap n) (show 0<hi-lo+1 by omega)
 omega
theorem cO (n lo hi:Int)(h:lo≤hi):lo≤aR n lo hi∧aR n lo hi≤hi:=by
 have:=Mj n lo hi h
 unfold aR;omega
theorem Bt (n lo hi:Int)(w:World)(h0:0≤lo)(h1:lo≤hi)(h2:hi≤1099511627776)(hn: -9223372036854775808≤n∧n≤9223372036854775807):
 Calls Tryz.prog 99 #[.int .i64 n,.int .i64 lo,.int .i64 hi] w fun e w'=>e=.returned (.int .i64 (aR n lo hi))∧w'=w:=by
 obtain⟨hn0,hn1⟩:=hn
 obtain⟨m0,m1⟩:=Mj n lo hi h1
 go_enter Tryz.func99,Tryz.ntmps99
 go_wp2_with fail
 go_ret
 exact⟨rfl,rfl⟩
variable (wk cp pg st tr wt ck pr ca bi ba:Int)(w:World)
theorem Dy:cR (aR wk 1 64) (aR cp 1 8) (aR pg 1 256) (aR st 1 64) (aR tr 0 16) (aR wt 0 64) (aR ck 1 1099511627776) (aR pr 1 8) (aR ca 0 8) (aR bi 0 16) (aR ba 1 8):=
 ⟨(cO wk 1 64 (by omega)).1,(cO wk 1 64 (by omega)).2,(cO cp 1 8 (by omega)).1,(cO cp 1 8 (by omega)).2,(cO pg 1 256 (by omega)).1,(cO pg 1 256 (by omega)).2,(cO st 1 64 (by omega)).1,(cO st 1 64 (by omega)).2,(cO tr 0 16 (by omega)).1,(cO tr 0 16 (by omega)).2,(cO wt 0 64 (by omega)).1,(cO wt 0 64 (by omega)).2,(cO ck 1 1099511627776 (by omega)).1,(cO ck 1 1099511627776 (by omega)).2,(cO pr 1 8 (by omega)).1,(cO pr 1 8 (by omega)).2,(cO ca 0 8 (by omega)).1,(cO ca 0 8 (by omega)).2,(cO bi 0 16 (by omega)).1,(cO bi 0 16 (by omega)).2,(cO ba 1 8 (by omega)).1,(cO ba 1 8 (by omega)).2⟩
theorem zd (wk0: -9223372036854775808≤wk∧wk≤9223372036854775807)(cp0: -9223372036854775808≤cp∧cp≤9223372036854775807)(pg0: -9223372036854775808≤pg∧pg≤9223372036854775807)(st0: -9223372036854775808≤st∧st≤9223372036854775807)(tr0: -9223372036854775808≤tr∧tr≤9223372036854775807)(wt0: -9223372036854775808≤wt∧wt≤9223372036854775807)(ck0: -9223372036854775808≤ck∧ck≤9223372036854775807)(pr0: -9223372036854775808≤pr∧pr≤9223372036854775807)(ca0: -9223372036854775808≤ca∧ca≤9223372036854775807)(bi0: -9223372036854775808≤bi∧bi≤9223372036854775807)(ba0: -9223372036854775808≤ba∧ba≤9223372036854775807):
 Calls Tryz.prog 68 #[.agg #[.int .i64 wk,.int .i64 cp,.int .i64 pg,.int .i64 st,.int .i64 tr,.int .i64 wt,.int .i64 ck,.int .i64 pr,.int .i64 ca,.int .i64 bi,.int .i64 ba]] w (aP w (.agg #[.int .i64 (aR wk 1 64),.int .i64 (aR cp 1 8),.int .i64 (aR pg 1 256),.int .i64 (aR st 1 64),.int .i64 (aR tr 0 16),.int .i64 (aR wt 0 64),.int .i64 (aR ck 1 1099511627776),.int .i64 (aR pr 1 8),.int .i64 (aR ca 0 8),.int .i64 (aR bi 0 16),.int .i64 (aR ba 1 8)])):=by
 have HN:=hQQ (gS w 23 wk cp pg st tr wt ck pr ca bi ba)
 have Hwk:=hQQ wk0;clear wk0
 have Hcp:=hQQ cp0;clear cp0
 have Hpg:=hQQ pg0;clear pg0
 have Hst:=hQQ st0;clear st0
 have Htr:=hQQ tr0;clear tr0
 have Hwt:=hQQ wt0;clear wt0
 have Hck:=hQQ ck0;clear ck0
 have Hpr:=hQQ pr0;clear pr0
 have Hca:=hQQ ca0;clear ca0
 have Hbi:=hQQ bi0;clear bi0
 have Hba:=hQQ ba0;clear ba0
 have HS:Hq (((w.alloc (.cells #[.int .i64 wk,.int .i64 cp,.int .i64 pg,.int .i64 st,.int .i64 tr,.int .i64 wt,.int .i64 ck,.int .i64 pr,.int .i64 ca,.int .i64 bi,.int .i64 ba] 23)).alloc (.cells #[.int .i64 0,.int .i64 0,.int .i64 0,.int .i64 0,.int .i64 0,.int .i64 0,.int .i64 0,.int .i64 0,.int .i64 0,.int .i64 0,.int .i64 0] 23)).drew.cell? ⟨w.heap.size,0,none⟩=some (.int .i64 wk)∧((w.alloc (.cells #[.int .i64 wk,.int .i64 cp,.int .i64 pg,.int .i64 st,.int .i64 tr,.int .i64 wt,.int .i64 ck,.int .i64 pr,.int .i64 ca,.int .i64 bi,.int .i64 ba] 23)).alloc (.cells #[.int .i64 0,.int .i64 0,.int .i64 0,.int .i64 0,.int .i64 0,.int .i64 0,.int .i64 0,.int .i64 0,.int .i64 0,.int .i64 0,.int .i64 0] 23)).drew.cell? ⟨w.heap.size,1,none⟩=some (.int .i64 cp)∧((w.alloc (.cells #[.int .i64 wk,.int .i64 cp,.int .i64 pg,.int .i64 st,.int .i64 tr,.int .i64 wt,.int .i64 ck,.int .i64 pr,.int .i64 ca,.int .i64 bi,.int .i64 ba] 23)).alloc (.cells #[.int .i64 0,.int .i64 0,.int .i64 0,.int .i64 0,.int .i64 0,.int .i64 0,.int .i64 0,.int .i64 0,.int .i64 0,.int .i64 0,.int .i64 0] 23)).drew.cell? ⟨w.heap.size,2,none⟩=some (.int .i64 pg)∧((w.alloc (.cells #[.int .i64 wk,.int .i64 cp,.int .i64 pg,.int .i64 st,.int .i64 tr,.int .i64 wt,.int .i64 ck,.int .i64 pr,.int .i64 ca,.int .i64 bi,.int .i64 ba] 23)).alloc (.cells #[.int .i64 0,.int .i64 0,.int .i64 0,.int .i64 0,.int .i64 0,.int .i64 0,.int .i64 0,.int .i64 0,.int .i64 0,.int .i64 0,.int .i64 0] 23)).drew.cell? ⟨w.heap.size,3,none⟩=some (.int .i64 st)∧((w.alloc (.cells #[.int .i64 wk,.int .i64 cp,.int .i64 pg,.int .i64 st,.int .i64 tr,.int .i64 wt,.int .i64 ck,.int .i64 pr,.int .i64 ca,.int .i64 bi,.int .i64 ba] 23)).alloc (.cells #[.int .i64 0,.int .i64 0,.int .i64 0,.int .i64 0,.int .i64 0,.int .i64 0,.int .i64 0,.int .i64 0,.int .i64 0,.int .i64 0,.int .i64 0] 23)).drew.cell? ⟨w.heap.size,4,none⟩=some (.int .i64 tr)∧((w.alloc (.cells #[.int .i64 wk,.int .i64 cp,.int .i64 pg,.int .i64 st,.int .i64 tr,.int .i64 wt,.int .i64 ck,.int .i64 pr,.int .i64 ca,.int .i64 bi,.int .i64 ba] 23)).alloc (.cells #[.int .i64 0,.int .i64 0,.int .i64 0,.int .i64 0,.int .i64 0,.int .i64 0,.int .i64 0,.int .i64 0,.int .i64 0,.int .i64 0,.int .i64 0] 23)).drew.cell? ⟨w.heap.size,5,none⟩=some (.int .i64 wt)∧((w.alloc (.cells #[.int .i64 wk,.int .i64 cp,.int .i64 pg,.int .i64 st,.int .i64 tr,.int .i64 wt,.int .i64 ck,.int .i64 pr,.int .i64 ca,.int .i64 bi,.int .i64 ba] 23)).alloc (.cells #[.int .i64 0,.int .i64 0,.int .i64 0,.int .i64 0,.int .i64 0,.int .i64 0,.int .i64 0,.int .i64 0,.int .i64 0,.int .i64 0,.int .i64 0] 23)).drew.cell? ⟨w.heap.size,6,none⟩=some (.int .i64 ck)∧((w.alloc (.cells #[.int .i64 wk,.int .i64 cp,.int .i64 pg,.int .i64 st,.int .i64 tr,.int .i64 wt,.int .i64 ck,.int .i64 pr,.int .i64 ca,.int .i64 bi,.int .i64 ba] 23)).alloc (.cells #[.int .i64 0,.int .i64 0,.int .i64 0,.int .i64 0,.int .i64 0,.int .i64 0,.int .i64 0,.int .i64 0,.int .i64 0,.int .i64 0,.int .i64 0] 23)).drew.cell? ⟨w.heap.size,7,none⟩=some (.int .i64 pr)∧((w.alloc (.cells #[.int .i64 wk,.int .i64 cp,.int .i64 pg,.int .i64 st,.int .i64 tr,.int .i64 wt,.int .i64 ck,.int .i64 pr,.int .i64 ca,.int .i64 bi,.int .i64 ba] 23)).alloc (.cells #[.int .i64 0,.int .i64 0,.int .i64 0,.int .i64 0,.int .i64 0,.int .i64 0,.int .i64 0,.int .i64 0,.int .i64 0,.int .i64 0,.int .i64 0] 23)).drew.cell? ⟨w.heap.size,8,none⟩=some (.int .i64 ca)∧((w.alloc (.cells #[.int .i64 wk,.int .i64 cp,.int .i64 pg,.int .i64 st,.int .i64 tr,.int .i64 wt,.int .i64 ck,.int .i64 pr,.int .i64 ca,.int .i64 bi,.int .i64 ba] 23)).alloc (.cells #[.int .i64 0,.int .i64 0,.int .i64 0,.int .i64 0,.int .i64 0,.int .i64 0,.int .i64 0,.int .i64 0,.int .i64 0,.int .i64 0,.int .i64 0] 23)).drew.cell? ⟨w.heap.size,9,none⟩=some (.int .i64 bi)∧((w.alloc (.cells #[.int .i64 wk,.int .i64 cp,.int .i64 pg,.int .i64 st,.int .i64 tr,.int .i64 wt,.int .i64 ck,.int .i64 pr,.int .i64 ca,.int .i64 bi,.int .i64 ba] 23)).alloc (.cells #[.int .i64 0,.int .i64 0,.int .i64 0,.int .i64 0,.int .i64 0,.int .i64 0,.int .i64 0,.int .i64 0,.int .i64 0,.int .i64 0,.int .i64 0] 23)).drew.cell? ⟨w.heap.size,10,none⟩=some (.int .i64 ba)):=HN.o.cells ((((ae.refl _).alloc _)).drew)
 go_enter Tryz.func68,Tryz.ntmps68
 go_wp2_with fail
 go_region_held3 (fun w'=>w'.cell? ⟨w.heap.size,0,none⟩=some (.int .i64 wk)∧w'.cell? ⟨w.heap.size,1,none⟩=some (.int .i64 cp)∧w'.cell? ⟨w.heap.size,2,none⟩=some (.int .i64 pg)∧w'.cell? ⟨w.heap.size,3,none⟩=some (.int .i64 st)∧w'.cell? ⟨w.heap.size,4,none⟩=some (.int .i64 tr)∧w'.cell? ⟨w.heap.size,5,none⟩=some (.int .i64 wt)∧w'.cell? ⟨w.heap.size,6,none⟩=some (.int .i64 ck)∧w'.cell? ⟨w.heap.size,7,none⟩=some (.int .i64 pr)∧w'.cell? ⟨w.heap.size,8,none⟩=some (.int .i64 ca)∧w'.cell? ⟨w.heap.size,9,none⟩=some (.int .i64 bi)∧w'.cell? ⟨w.heap.size,10,none⟩=some (.int .i64 ba))
  (first|exact HS.o|go_keep)
  (first|(go_at_call 99;refine(Bt _ _ _ _ (by omega) (by omega) (by omega) (by first|exact Hwk.o|exact Hcp.o|exact Hpg.o|exact Hst.o|exact Htr.o|exact Hwt.o|exact Hck.o|exact Hpr.o|exact Hca.o|exact Hbi.o|exact Hba.o)).mono ?_;rintro e w' ⟨rfl,rfl⟩))
 all_goals go_wp2_with fail
 all_goals refine bodyPost_ret (v:=.agg #[.int .i64 (aR wk 1 64),.int .i64 (aR cp 1 8),.int .i64 (aR pg 1 256),.int .i64 (aR st 1 64),.int .i64 (aR tr 0 16),.int .i64 (aR wt 0 64),.int .i64 (aR ck 1 1099511627776),.int .i64 (aR pr 1 8),.int .i64 (aR ca 0 8),.int .i64 (aR bi 0 16),.int .i64 (aR ba 1 8)]) (by simp[results,Tryz.results68,go_sem]) rfl ⟨rfl,?_⟩
 all_goals first|exact(((ae.refl _).alloc _).alloc _).drew|exact((ae.refl _).alloc _).alloc _
theorem lQ {x:Int}(h:(Lit.int .i64 x).wf=true): -9223372036854775808≤x:=by
 simp only[Lit.wf,Bool.and_eq_true,decide_eq_true_eq] at h
 have e:IntKind.i64.min= -9223372036854775808:=by decide
 omega
theorem lR {x:Int}(h:(Lit.int .i64 x).wf=true):x≤9223372036854775807:=by
 simp only[Lit.wf,Bool.and_eq_true,decide_eq_true_eq] at h
 have e:IntKind.i64.max=9223372036854775807:=by decide
 omega
theorem Bu (y0 y1 y2 y3 y4 y5 y6 y7 y8 y9 y10:Int)(f0:(Lit.int .i64 y0).wf=true)(f1:(Lit.int .i64 y1).wf=true)(f2:(Lit.int .i64 y2).wf=true)(f3:(Lit.int .i64 y3).wf=true)(f4:(Lit.int .i64 y4).wf=true)(f5:(Lit.int .i64 y5).wf=true)(f6:(Lit.int .i64 y6).wf=true)(f7:(Lit.int .i64 y7).wf=true)(f8:(Lit.int .i64 y8).wf=true)(f9:(Lit.int .i64 y9).wf=true)(f10:(Lit.int .i64 y10).wf=true):
 ∃wk cp pg st tr wt ck pr ca bi ba,cR wk cp pg st tr wt ck pr ca bi ba∧Hq (∀W,Calls Tryz.prog 68 #[.agg #[.int .i64 y0,.int .i64 y1,.int .i64 y2,.int .i64 y3,.int .i64 y4,.int .i64 y5,.int .i64 y6,.int .i64 y7,.int .i64 y8,.int .i64 y9,.int .i64 y10]] W (aP W (.agg #[.int .i64 wk,.int .i64 cp,.int .i64 pg,.int .i64 st,.int .i64 tr,.int .i64 wt,.int .i64 ck,.int .i64 pr,.int .i64 ca,.int .i64 bi,.int .i64 ba]))):=
 ⟨(aR y0 1 64),(aR y1 1 8),(aR y2 1 256),(aR y3 1 64),(aR y4 0 16),(aR y5 0 64),(aR y6 1 1099511627776),(aR y7 1 8),(aR y8 0 8),(aR y9 0 16),(aR y10 1 8),Dy y0 y1 y2 y3 y4 y5 y6 y7 y8 y9 y10,fun W=>zd y0 y1 y2 y3 y4 y5 y6 y7 y8 y9 y10 W ⟨lQ f0,lR f0⟩ ⟨lQ f1,lR f1⟩ ⟨lQ f2,lR f2⟩ ⟨lQ f3,lR f3⟩ ⟨lQ f4,lR f4⟩ ⟨lQ f5,lR f5⟩ ⟨lQ f6,lR f6⟩ ⟨lQ f7,lR f7⟩ ⟨lQ f8,lR f8⟩ ⟨lQ f9,lR f9⟩ ⟨lQ f10,lR f10⟩⟩
variable (wk cp pg st tr wt ck pr ca bi ba:Int)(w:World)
theorem MU (R:cR wk cp pg st tr wt ck pr ca bi ba):
 Calls Tryz.prog 167 #[.agg #[.int .i64 wk,.int .i64 cp,.int .i64 pg,.int .i64 st,.int .i64 tr,.int .i64 wt,.int .i64 ck,.int .i64 pr,.int .i64 ca,.int .i64 bi,.int .i64 ba]] w (aP w (.int .i64 (aZ st))):=by
 have h_st1:=R.st1
 have h_st2:=R.st2
 go_enter Tryz.func167,Tryz.ntmps167
 go_wp2
 go_ret
 exact⟨rfl,(ae.refl _).alloc _⟩
theorem Km (R:cR wk cp pg st tr wt ck pr ca bi ba):
 Calls Tryz.prog 168 #[.agg #[.int .i64 wk,.int .i64 cp,.int .i64 pg,.int .i64 st,.int .i64 tr,.int .i64 wt,.int .i64 ck,.int .i64 pr,.int .i64 ca,.int .i64 bi,.int .i64 ba]] w (aP w (.int .i64 (aL pg))):=by
 have h_pg1:=R.pg1
 have h_pg2:=R.pg2
 go_enter Tryz.func168,Tryz.ntmps168
 go_wp2
 go_ret
 exact⟨rfl,(ae.refl _).alloc _⟩
theorem MV (R:cR wk cp pg st tr wt ck pr ca bi ba):
 Calls Tryz.prog 163 #[.agg #[.int .i64 wk,.int .i64 cp,.int .i64 pg,.int .i64 st,.int .i64 tr,.int .i64 wt,.int .i64 ck,.int .i64 pr,.int .i64 ca,.int .i64 bi,.int .i64 ba]] w (aP w (.int .i64 (bd st pg))):=by
 have HR:=hQQ R
 have b1:=su R
 have b2:=o7 R
 have h1:=R.pg1
 have h2:=R.pg2
 have q0:IntKind.i64.wrap (aZ st+aL pg)=aZ st+aL pg:=az (by omega) (by omega)
 have q1:IntKind.i64.wrap (5 * pg)=5 * pg:=az (by omega) (by omega)
 have q2:IntKind.i64.wrap (aZ st+aL pg+5 * pg)=aZ st+aL pg+5 * pg:=az (by omega) (by omega)
 have HC:=hQQ (gS w 73 wk cp pg st tr wt ck pr ca bi ba)
 have HM:Hq (ae w (w.alloc (.cells #[.int .i64 wk,.int .i64 cp,.int .i64 pg,.int .i64 st,.int .i64 tr,.int .i64 wt,.int .i64 ck,.int .i64 pr,.int .i64 ca,.int .i64 bi,.int .i64 ba] 73))):=(ae.refl w).alloc _
 clear R
 go_enter Tryz.func163,Tryz.ntmps163
 go_wp2_with fail
 generalize w.alloc (.cells #[.int .i64 wk,.int .i64 cp,.int .i64 pg,.int .i64 st,.int .i64 tr,.int .i64 wt,.int .i64 ck,.int .i64 pr,.int .i64 ca,.int .i64 bi,.int .i64 ba] 73)=W0 at *
 have hne:∃W,ae W0 W:=⟨W0,ae.refl _⟩
 refine bS (by kernel_rfl) (by kernel_rfl) ?_
 iterate 11
  with_reducible refine wpQuiet_step (fun K hK=>?_)
  go_simp
  first
  |(refine hK _ ?_;clear hK K)
  |(apply Exists.intro
    refine⟨fun W hW=>?_,hK _ ?_⟩
    first
    |(go_at_call 167;exact Calls.more hW (MU _ _ _ _ _ _ _ _ _ _ _ _ HR.o))
    |(go_at_call 168;exact Calls.more hW (Km _ _ _ _ _ _ _ _ _ _ _ _ HR.o))
    |(obtain⟨e0,e1,e2,e3,e4,e5,e6,e7,e8,e9,e10⟩:=HC.o.cells hW;go_simp;try rfl)
    clear hK K)
 refine wpQuiet_nil ?_
 intro W hW
 have HW:=hQQ hW
 clear hW
 go_wp2_with fail
 go_ret
 exact⟨rfl,HM.o.trans HW.o⟩
theorem Kn (R:cR wk cp pg st tr wt ck pr ca bi ba):
 Calls Tryz.prog 155 #[.agg #[.int .i64 wk,.int .i64 cp,.int .i64 pg,.int .i64 st,.int .i64 tr,.int .i64 wt,.int .i64 ck,.int .i64 pr,.int .i64 ca,.int .i64 bi,.int .i64 ba]] w (aP w (.int .i64 (dq st pg))):=by
 have b1:=wS R
 have HR:=hQQ R
 have e:=(gS w 73 wk cp pg st tr wt ck pr ca bi ba).cells (ae.refl _)
 clear R
 go_enter Tryz.func155,Tryz.ntmps155
 go_wp2_with fail
 refine(MV _ _ _ _ _ _ _ _ _ _ _ _ HR.o).mono ?_
 rintro e w1 ⟨rfl,h1⟩
 go_wp2_with fail
 go_ret
 exact⟨rfl,((ae.refl _).alloc _).trans h1⟩
theorem OJ (R:cR wk cp pg st tr wt ck pr ca bi ba):
 Calls Tryz.prog 144 #[.agg #[.int .i64 wk,.int .i64 cp,.int .i64 pg,.int .i64 st,.int .i64 tr,.int .i64 wt,.int .i64 ck,.int .i64 pr,.int .i64 ca,.int .i64 bi,.int .i64 ba]] w (aP w (.int .i64 (fL cp pg st ca))):=by
 have HR:=hQQ R
 have b1:=rQ R
 have b2:=qg R
 have h1:=R.cp1
 have h2:=R.cp2
 have h3:=R.ca1
 have h4:=R.ca2
 have q0:IntKind.i64.wrap (5 * cp)=5 * cp:=az (by omega) (by omega)
 have q1:IntKind.i64.wrap (ca+1)=ca+1:=az (by omega) (by omega)
 have q2:IntKind.i64.wrap (5 * cp * (ca+1))=5 * cp * (ca+1):=az (by omega) (by omega)
 have q3:IntKind.i64.wrap (dq st pg+5 * cp * (ca+1))=dq st pg+5 * cp * (ca+1):=az (by omega) (by omega)
 have HC:=hQQ (gS w 73 wk cp pg st tr wt ck pr ca bi ba)
 have HM:Hq (ae w (w.alloc (.cells #[.int .i64 wk,.int .i64 cp,.int .i64 pg,.int .i64 st,.int .i64 tr,.int .i64 wt,.int .i64 ck,.int .i64 pr,.int .i64 ca,.int .i64 bi,.int .i64 ba] 73))):=(ae.refl w).alloc _
 clear R
 go_enter Tryz.func144,Tryz.ntmps144
 go_wp2_with fail
 generalize w.alloc (.cells #[.int .i64 wk,.int .i64 cp,.int .i64 pg,.int .i64 st,.int .i64 tr,.int .i64 wt,.int .i64 ck,.int .i64 pr,.int .i64 ca,.int .i64 bi,.int .i64 ba] 73)=W0 at *
 have hne:∃W,ae W0 W:=⟨W0,ae.refl _⟩
 refine bS (by kernel_rfl) (by kernel_rfl) ?_
 iterate 13
  with_reducible refine wpQuiet_step (fun K hK=>?_)
  go_simp
  first
  |(refine hK _ ?_;clear hK K)
  |(apply Exists.intro
    refine⟨fun W hW=>?_,hK _ ?_⟩
    first
    |(go_at_call 155;exact Calls.more hW (Kn _ _ _ _ _ _ _ _ _ _ _ _ HR.o))
    |(obtain⟨e0,e1,e2,e3,e4,e5,e6,e7,e8,e9,e10⟩:=HC.o.cells hW;go_simp;try rfl)
    clear hK K)
 refine wpQuiet_nil ?_
 intro W hW
 have HW:=hQQ hW
 clear hW
 go_wp2_with fail
 go_ret
 exact⟨rfl,HM.o.trans HW.o⟩
theorem OL (R:cR wk cp pg st tr wt ck pr ca bi ba):
 Calls Tryz.prog 124 #[.agg #[.int .i64 wk,.int .i64 cp,.int .i64 pg,.int .i64 st,.int .i64 tr,.int .i64 wt,.int .i64 ck,.int .i64 pr,.int .i64 ca,.int .i64 bi,.int .i64 ba]] w (aP w (.int .i64 (eH cp pg st ca bi))):=by
 have HR:=hQQ R
 have b1:=Dm R
 have h1:=R.bi1
 have h2:=R.bi2
 have q0:IntKind.i64.wrap (bi+1)=bi+1:=az (by omega) (by omega)
 have q1:IntKind.i64.wrap (5 * (bi+1))=5 * (bi+1):=az (by omega) (by omega)
 have q2:IntKind.i64.wrap (fL cp pg st ca+5 * (bi+1))=fL cp pg st ca+5 * (bi+1):=az (by omega) (by omega)
 have HC:=hQQ (gS w 73 wk cp pg st tr wt ck pr ca bi ba)
 have HM:Hq (ae w (w.alloc (.cells #[.int .i64 wk,.int .i64 cp,.int .i64 pg,.int .i64 st,.int .i64 tr,.int .i64 wt,.int .i64 ck,.int .i64 pr,.int .i64 ca,.int .i64 bi,.int .i64 ba] 73))):=(ae.refl w).alloc _
 clear R
 go_enter Tryz.func124,Tryz.ntmps124
 go_wp2_with fail
 generalize w.alloc (.cells #[.int .i64 wk,.int .i64 cp,.int .i64 pg,.int .i64 st,.int .i64 tr,.int .i64 wt,.int .i64 ck,.int .i64 pr,.int .i64 ca,.int .i64 bi,.int .i64 ba] 73)=W0 at *
 have hne:∃W,ae W0 W:=⟨W0,ae.refl _⟩
 refine bS (by kernel_rfl) (by kernel_rfl) ?_
 iterate 9
  with_reducible refine wpQuiet_step (fun K hK=>?_)
  go_simp
  first
  |(refine hK _ ?_;clear hK K)
  |(apply Exists.intro
    refine⟨fun W hW=>?_,hK _ ?_⟩
    first
    |(go_at_call 144;exact Calls.more hW (OJ _ _ _ _ _ _ _ _ _ _ _ _ HR.o))
    |(obtain⟨e0,e1,e2,e3,e4,e5,e6,e7,e8,e9,e10⟩:=HC.o.cells hW;go_simp;try rfl)
    clear hK K)
 refine wpQuiet_nil ?_
 intro W hW
 have HW:=hQQ hW
 clear hW
 go_wp2_with fail
 go_ret
 exact⟨rfl,HM.o.trans HW.o⟩
theorem OM (R:cR wk cp pg st tr wt ck pr ca bi ba):
 Calls Tryz.prog 102 #[.agg #[.int .i64 wk,.int .i64 cp,.int .i64 pg,.int .i64 st,.int .i64 tr,.int .i64 wt,.int .i64 ck,.int .i64 pr,.int .i64 ca,.int .i64 bi,.int .i64 ba]] w (aP w (.int .i64 (fN cp pg st ca bi))):=by
 have HR:=hQQ R
 have b1:=sw R
 have h1:=R.pg1
 have h2:=R.pg2
 have q0:IntKind.i64.wrap (32 * pg)=32 * pg:=az (by omega) (by omega)
 have q1:IntKind.i64.wrap (eH cp pg st ca bi+32 * pg)=eH cp pg st ca bi+32 * pg:=az (by omega) (by omega)
 have q2:IntKind.i64.wrap (eH cp pg st ca bi+32 * pg+127)=eH cp pg st ca bi+32 * pg+127:=az (by omega) (by omega)
 have q3:IntKind.i64.wrap ((eH cp pg st ca bi+32 * pg+127) / 128 * 128)=(eH cp pg st ca bi+32 * pg+127) / 128 * 128:=az (by omega) (by omega)
 have qd:IntKind.i64.wrap ((eH cp pg st ca bi+32 * pg+127).tdiv 128)=(eH cp pg st ca bi+32 * pg+127) / 128:=by
  rw[Int.tdiv_eq_ediv_of_nonneg (by omega)];exact az (by omega) (by omega)
 have HC:=hQQ (gS w 73 wk cp pg st tr wt ck pr ca bi ba)
 have HM:Hq (ae w (w.alloc (.cells #[.int .i64 wk,.int .i64 cp,.int .i64 pg,.int .i64 st,.int .i64 tr,.int .i64 wt,.int .i64 ck,.int .i64 pr,.int .i64 ca,.int .i64 bi,.int .i64 ba] 73))):=(ae.refl w).alloc _
 clear R
 go_enter Tryz.func102,Tryz.ntmps102
 go_wp2_with fail
 generalize w.alloc (.cells #[.int .i64 wk,.int .i64 cp,.int .i64 pg,.int .i64 st,.int .i64 tr,.int .i64 wt,.int .i64 ck,.int .i64 pr,.int .i64 ca,.int .i64 bi,.int .i64 ba] 73)=W0 at *
 have hne:∃W,ae W0 W:=⟨W0,ae.refl _⟩
 refine bS (by kernel_rfl) (by kernel_rfl) ?_
 iterate 11
  with_reducible refine wpQuiet_step (fun K hK=>?_)
  go_simp
  first
  |(refine hK _ ?_;clear hK K)
  |(apply Exists.intro
    refine⟨fun W hW=>?_,hK _ ?_⟩
    first
    |(go_at_call 124;exact Calls.more hW (OL _ _ _ _ _ _ _ _ _ _ _ _ HR.o))
    |(obtain⟨e0,e1,e2,e3,e4,e5,e6,e7,e8,e9,e10⟩:=HC.o.cells hW;go_simp;try rfl)
    clear hK K)
 refine wpQuiet_nil ?_
 intro W hW
 have HW:=hQQ hW
 clear hW
 go_wp2_with fail
 go_ret
 exact⟨rfl,HM.o.trans HW.o⟩
theorem MX (R:cR wk cp pg st tr wt ck pr ca bi ba):
 Calls Tryz.prog 72 #[.agg #[.int .i64 wk,.int .i64 cp,.int .i64 pg,.int .i64 st,.int .i64 tr,.int .i64 wt,.int .i64 ck,.int .i64 pr,.int .i64 ca,.int .i64 bi,.int .i64 ba]] w (aP w (.int .i64 (eR cp pg st ca bi))):=by
 have HR:=hQQ R
 have b1:=o8 R
 have h1:=R.pg1
 have h2:=R.pg2
 have q0:IntKind.i64.wrap (32 * pg)=32 * pg:=az (by omega) (by omega)
 have q1:IntKind.i64.wrap (fN cp pg st ca bi+32 * pg)=fN cp pg st ca bi+32 * pg:=az (by omega) (by omega)
 have HC:=hQQ (gS w 73 wk cp pg st tr wt ck pr ca bi ba)
 have HM:Hq (ae w (w.alloc (.cells #[.int .i64 wk,.int .i64 cp,.int .i64 pg,.int .i64 st,.int .i64 tr,.int .i64 wt,.int .i64 ck,.int .i64 pr,.int .i64 ca,.int .i64 bi,.int .i64 ba] 73))):=(ae.refl w).alloc _
 clear R
 go_enter Tryz.func72,Tryz.ntmps72
 go_wp2_with fail
 generalize w.alloc (.cells #[.int .i64 wk,.int .i64 cp,.int .i64 pg,.int .i64 st,.int .i64 tr,.int .i64 wt,.int .i64 ck,.int .i64 pr,.int .i64 ca,.int .i64 bi,.int .i64 ba] 73)=W0 at *
 have hne:∃W,ae W0 W:=⟨W0,ae.refl _⟩
 refine bS (by kernel_rfl) (by kernel_rfl) ?_
 iterate 8
  with_reducible refine wpQuiet_step (fun K hK=>?_)
  go_simp
  first
  |(refine hK _ ?_;clear hK K)
  |(apply Exists.intro
    refine⟨fun W hW=>?_,hK _ ?_⟩
    first
    |(go_at_call 102;exact Calls.more hW (OM _ _ _ _ _ _ _ _ _ _ _ _ HR.o))
    |(obtain⟨e0,e1,e2,e3,e4,e5,e6,e7,e8,e9,e10⟩:=HC.o.cells hW;go_simp;try rfl)
    clear hK K)
 refine wpQuiet_nil ?_
 intro W hW
 have HW:=hQQ hW
 clear hW
 go_wp2_with fail
 go_ret
 exact⟨rfl,HM.o.trans HW.o⟩
variable (wk cp pg st tr wt ck pr ca bi ba:Int)(w:World)
section
variable {P:Program}{ops:Array Oper}{rest:List Oper}{o:Oper}{a:Act}{w:World}{Q:Exit→Act→World→Prop}
theorem rL (hw:Region.wanted o (yielded ops a.tmps)=true)(ty:TypeId)(x:Operand)(ho:o.op=.load ty x)(g i:Nat)(hx:a.eval x=.pointer (some ⟨g,i,none⟩))(k:IntKind)(hu:P.underlying ty=some (.int k))(v:Value)(hc:w.cell? ⟨g,i,none⟩=some v)
 (h:wpList P ops Q rest (a.put o.dst v) w):wpList P ops Q (o::rest) a w :=
 el hw fun K hK=>by
  have hr:(loadVar ty ⟨g,i,none⟩).run P w=.ok v w:=fG hu rfl hc
  unfold Oper.wp Oper.upon execOp
  simp only[ho,hx,Instr.loadAt,Instr.sureAddr,Sem.run_bind,Sem.run_pure,Result.andThen_ok,hr]
  exact hK _ _ h
theorem gU (hw:Region.wanted o (yielded ops a.tmps)=true)(ty:TypeId)(x y:Operand)(ho:o.op=.store ty x y)(hd:o.dst=none)(g i:Nat)(hx:a.eval x=.pointer (some ⟨g,i,none⟩))(z:Int)(hy:a.eval y=.int .i64 z)(cs:Array Value)(t:TypeId)(hg:w.heap[g]?=some (.cells cs t (0,0)))(hi:i<cs.size)(hsz:(P.info? ty).map (·.size)=some 1)
 (h:∀w',w'.heap[g]?=some (.cells (cs.setIfInBounds i (.int .i64 z)) t (0,0))→Turned (fun k=>k=g) w w'→wpList P ops Q rest a w'):wpList P ops Q (o::rest) a w :=
 el hw fun K hK=>by
  have hc:w.cell? ⟨g,i,none⟩=some cs[i]:=by rw[cell_of_row w g i cs t _ hg,Array.getElem?_eq_getElem hi]
  have hf:w.frozen? ⟨g,i,none⟩=false:=frozen_of_row w g i cs t hg
  have hs:(Instr.storeAt ty (.pointer (some ⟨g,i,none⟩)) (.int .i64 z)).run P w=.ok () (w.setCell ⟨g,i,none⟩ (.int .i64 z)):=by
   cases hq:P.info? ty with
   |none=>rw[hq] at hsz;simp at hsz
   |some d =>
    rw[hq] at hsz
    have hs1:d.size=1:=by simpa using hsz
    simp[hc,hf,go_sem,sizeOf,typeInfo,hq,hs1]
  have:=hK _ _ (h _ (bo (.int .i64 z) hg) (Turned.setCell (Turned.refl _ w) ⟨g,i,none⟩ (.int .i64 z) (fun _=>rfl)))
  unfold Oper.wp Oper.upon execOp
  simp only[ho,hx,hy,Sem.run_bind,Sem.run_pure,hs,Result.andThen_ok,hd]
  exact this
end
def kP (c:Cfg):Cfg:= { wk:=1+c.wk % 4,cp:=1+c.cp % 2,pg:=1+c.pg % 9,st:=1+c.st % 4,tr:=c.tr,wt:=c.wt,ck:=c.ck,pr:=1+c.pr % 3,ca:=c.ca % 3,bi:=c.bi % 4,ba:=1+c.ba % 3 }
structure Cfg.Small (c:Cfg):Prop where
 ok:c.Ok
 cp2:c.cp≤2
 pg9:c.pg≤9
 st4:c.st≤4
 ca2:c.ca≤2
 bi3:c.bi≤3
theorem rc {c:Cfg}(R:c.Ok):(kP c).Small:=by
 have h1:=R.wk1;have h2:=R.cp1;have h3:=R.pg1;have h4:=R.st1;have h5:=R.tr1;have h6:=R.tr2;have h7:=R.wt1;have h8:=R.wt2;have h9:=R.ck1;have h10:=R.ck2;have h11:=R.pr1;have h12:=R.ca1;have h13:=R.bi1;have h14:=R.ba1
 unfold kP
 refine⟨?_,?_,?_,?_,?_,?_⟩<;>try (show _≤_;simp only;omega)
 constructor<;>(simp only;omega)
theorem Cfg.Small.words {c:Cfg}(S:c.Small):160≤c.words∧c.words≤800:=by
 have hb:=A3 S.ok
 refine⟨hb.1,?_⟩
 have h1:=S.cp2;have h2:=S.pg9;have h3:=S.st4;have h4:=S.ca2;have h5:=S.bi3
 have c0:=S.ok.cp1;have c1:=S.ok.ca1;have c2:=S.ok.bi1;have c3:=S.ok.pg1
 have pb:c.cp * (c.ca+1)≤2 * 3:=Int.mul_le_mul h1 (by omega) (by omega) (by omega)
 have pa:5 * c.cp * (c.ca+1)=5 * (c.cp * (c.ca+1)):=by rw[Int.mul_assoc]
 unfold Cfg.words eR fN eH fL dq bd aZ aL
 rw[pa]
 omega
theorem Cfg.Small.tbl {c:Cfg}(S:c.Small){n:Nat}(hn:(n:Int)=c.words):TblIn c.pg c.st n:=by
 refine⟨S.ok.st1,S.ok.st2,S.ok.pg1,S.ok.pg2,?_⟩
 rw[hn]
 have h1:=sw S.ok;have h2:=o8 S.ok;have h3:=S.ok.pg1
 have h4:aZ c.st+aL c.pg≤bd c.st c.pg:=by unfold bd;omega
 have h5:bd c.st c.pg≤eH c.cp c.pg c.st c.ca c.bi:=by
  have:=qg S.ok;have:=S.ok.bi1
  unfold eH fL dq;omega
 show _≤eR c.cp c.pg c.st c.ca c.bi
 unfold eR
 omega
theorem vJ {c:Cfg}(R:c.Ok)(y0 y1 y2 y3 y4 y5 y6 y7 y8 y9 y10:Int)(v:Value)(w:World)(hS:∀W,Calls Tryz.prog 68 #[v] W (aP W (.agg #[.int .i64 c.wk,.int .i64 c.cp,.int .i64 c.pg,.int .i64 c.st,.int .i64 c.tr,.int .i64 c.wt,.int .i64 c.ck,.int .i64 c.pr,.int .i64 c.ca,.int .i64 c.bi,.int .i64 c.ba])))(hv:v=.agg #[.int .i64 y0,.int .i64 y1,.int .i64 y2,.int .i64 y3,.int .i64 y4,.int .i64 y5,.int .i64 y6,.int .i64 y7,.int .i64 y8,.int .i64 y9,.int .i64 y10]):
 Calls Tryz.prog 31 #[v] w (aP w (.agg (kP c).cells)):=by
 have h1:=R.wk1;have h2:=R.cp1;have h3:=R.pg1;have h4:=R.st1;have h11:=R.pr1;have h12:=R.ca1;have h13:=R.bi1;have h14:=R.ba1
 have g1:=R.wk2;have g2:=R.cp2;have g3:=R.pg2;have g4:=R.st2;have g11:=R.pr2;have g12:=R.ca2;have g13:=R.bi2;have g14:=R.ba2
 have t0:c.wk.tmod 4=c.wk % 4:=Int.tmod_eq_emod_of_nonneg (by omega)
 have t1:c.cp.tmod 2=c.cp % 2:=Int.tmod_eq_emod_of_nonneg (by omega)
 have t2:c.pg.tmod 9=c.pg % 9:=Int.tmod_eq_emod_of_nonneg (by omega)
 have t3:c.st.tmod 4=c.st % 4:=Int.tmod_eq_emod_of_nonneg (by omega)
 have t7:c.pr.tmod 3=c.pr % 3:=Int.tmod_eq_emod_of_nonneg (by omega)
 have t8:c.ca.tmod 3=c.ca % 3:=Int.tmod_eq_emod_of_nonneg (by omega)
 have t9:c.bi.tmod 4=c.bi % 4:=Int.tmod_eq_emod_of_nonneg (by omega)
 have t10:c.ba.tmod 3=c.ba % 3:=Int.tmod_eq_emod_of_nonneg (by omega)
 have q0:IntKind.i64.wrap (1+c.wk % 4)=1+c.wk % 4:=az (by omega) (by omega)
 have q1:IntKind.i64.wrap (1+c.cp % 2)=1+c.cp % 2:=az (by omega) (by omega)
 have q2:IntKind.i64.wrap (1+c.pg % 9)=1+c.pg % 9:=az (by omega) (by omega)
 have q3:IntKind.i64.wrap (1+c.st % 4)=1+c.st % 4:=az (by omega) (by omega)
 have q7:IntKind.i64.wrap (1+c.pr % 3)=1+c.pr % 3:=az (by omega) (by omega)
 have q10:IntKind.i64.wrap (1+c.ba % 3)=1+c.ba % 3:=az (by omega) (by omega)
 have HS:=hQQ hS
 clear hS R h1 h2 h3 h4 h11 h12 h13 h14 g1 g2 g3 g4 g11 g12 g13 g14
 subst hv
 have HA0:=hQQ (aW w #[.int .i64 y0,.int .i64 y1,.int .i64 y2,.int .i64 y3,.int .i64 y4,.int .i64 y5,.int .i64 y6,.int .i64 y7,.int .i64 y8,.int .i64 y9,.int .i64 y10] 23)
 have HA:Hq (((w.alloc (.cells #[.int .i64 y0,.int .i64 y1,.int .i64 y2,.int .i64 y3,.int .i64 y4,.int .i64 y5,.int .i64 y6,.int .i64 y7,.int .i64 y8,.int .i64 y9,.int .i64 y10] 23)).alloc (.cells #[.int .i64 0,.int .i64 0,.int .i64 0,.int .i64 0,.int .i64 0,.int .i64 0,.int .i64 0,.int .i64 0,.int .i64 0,.int .i64 0,.int .i64 0] 23)).heap[w.heap.size]?=some (.cells #[.int .i64 y0,.int .i64 y1,.int .i64 y2,.int .i64 y3,.int .i64 y4,.int .i64 y5,.int .i64 y6,.int .i64 y7,.int .i64 y8,.int .i64 y9,.int .i64 y10] 23 (0,0))):=((ae.refl _).alloc _).block HA0.o
 have HZ0:Hq (((w.alloc (.cells #[.int .i64 y0,.int .i64 y1,.int .i64 y2,.int .i64 y3,.int .i64 y4,.int .i64 y5,.int .i64 y6,.int .i64 y7,.int .i64 y8,.int .i64 y9,.int .i64 y10] 23)).alloc (.cells #[.int .i64 0,.int .i64 0,.int .i64 0,.int .i64 0,.int .i64 0,.int .i64 0,.int .i64 0,.int .i64 0,.int .i64 0,.int .i64 0,.int .i64 0] 23)).heap[w.heap.size+1]?=some (.cells #[.int .i64 0,.int .i64 0,.int .i64 0,.int .i64 0,.int .i64 0,.int .i64 0,.int .i64 0,.int .i64 0,.int .i64 0,.int .i64 0,.int .i64 0] 23 (0,0))):=by
  have:=aW (w.alloc (.cells #[.int .i64 y0,.int .i64 y1,.int .i64 y2,.int .i64 y3,.int .i64 y4,.int .i64 y5,.int .i64 y6,.int .i64 y7,.int .i64 y8,.int .i64 y9,.int .i64 y10] 23)) #[.int .i64 0,.int .i64 0,.int .i64 0,.int .i64 0,.int .i64 0,.int .i64 0,.int .i64 0,.int .i64 0,.int .i64 0,.int .i64 0,.int .i64 0] 23
  rwa [World.size_alloc] at this
 have HM:Hq (ae w ((w.alloc (.cells #[.int .i64 y0,.int .i64 y1,.int .i64 y2,.int .i64 y3,.int .i64 y4,.int .i64 y5,.int .i64 y6,.int .i64 y7,.int .i64 y8,.int .i64 y9,.int .i64 y10] 23)).alloc (.cells #[.int .i64 0,.int .i64 0,.int .i64 0,.int .i64 0,.int .i64 0,.int .i64 0,.int .i64 0,.int .i64 0,.int .i64 0,.int .i64 0,.int .i64 0] 23))):=((ae.refl w).alloc _).alloc _
 go_enter Tryz.func31,Tryz.ntmps31
 go_wp2_with (refine sx rfl rfl rfl HA.o (by kernel_rfl) ?_)
 refine(HS.o _).mono ?_
 rintro e w4 ⟨rfl,m4⟩
 have HB4:=hQQ (setRow_heap w4 w.heap.size _ #[.int .i64 c.wk,.int .i64 c.cp,.int .i64 c.pg,.int .i64 c.st,.int .i64 c.tr,.int .i64 c.wt,.int .i64 c.ck,.int .i64 c.pr,.int .i64 c.ca,.int .i64 c.bi,.int .i64 c.ba] _ _ (m4.block HA.o))
 have HZ4:Hq ((w4.setRow w.heap.size #[.int .i64 c.wk,.int .i64 c.cp,.int .i64 c.pg,.int .i64 c.st,.int .i64 c.tr,.int .i64 c.wt,.int .i64 c.ck,.int .i64 c.pr,.int .i64 c.ca,.int .i64 c.bi,.int .i64 c.ba]).heap[w.heap.size+1]?=_):=hQQ ((setRow_other w4 w.heap.size (w.heap.size+1) #[.int .i64 c.wk,.int .i64 c.cp,.int .i64 c.pg,.int .i64 c.st,.int .i64 c.tr,.int .i64 c.wt,.int .i64 c.ck,.int .i64 c.pr,.int .i64 c.ca,.int .i64 c.bi,.int .i64 c.ba] (by omega)).trans (m4.block HZ0.o))
 have HM4:Hq (ae w (w4.setRow w.heap.size #[.int .i64 c.wk,.int .i64 c.cp,.int .i64 c.pg,.int .i64 c.st,.int .i64 c.tr,.int .i64 c.wt,.int .i64 c.ck,.int .i64 c.pr,.int .i64 c.ca,.int .i64 c.bi,.int .i64 c.ba])):=(HM.o.trans m4).setRow _ _ (Nat.le_refl _)
 have HX4:=hQQ (m4.block HA.o)
 clear m4
 have hw1:w.heap.size+1<(w4.setRow w.heap.size #[.int .i64 c.wk,.int .i64 c.cp,.int .i64 c.pg,.int .i64 c.st,.int .i64 c.tr,.int .i64 c.wt,.int .i64 c.ck,.int .i64 c.pr,.int .i64 c.ca,.int .i64 c.bi,.int .i64 c.ba]).heap.size:=ac HZ4.o
 go_wp2_with (first
  |(refine wpList_store_row rfl 23 _ _ rfl _ _ rfl rfl 23 _ HX4.o (by kernel_rfl) rfl (by simp[Value.oneCell']) ?_;generalize w4.setRow w.heap.size #[.int .i64 c.wk,.int .i64 c.cp,.int .i64 c.pg,.int .i64 c.st,.int .i64 c.tr,.int .i64 c.wt,.int .i64 c.ck,.int .i64 c.pr,.int .i64 c.ca,.int .i64 c.bi,.int .i64 c.ba]=w5 at HB4 HZ4 HM4 hw1⊢;have HB:=HB4;have HZ:=HZ4;have HT:=HM4;clear HX4 HB4 HZ4 HM4)
  |(refine rL rfl 3 _ rfl w.heap.size _ rfl .i64 Tryz.underlying3 _ (a8 HB.o (ae.refl _) rfl) ?_)
  |(refine gU rfl 3 _ _ rfl rfl w.heap.size _ rfl _ rfl _ _ HB.o (by simp) (by kernel_rfl) ?_;intro w6 hb6 ht6;simp only[List.setIfInBounds_toArray,List.set_cons_zero,List.set_cons_succ] at hb6;have HZ:=hQQ ((Turned.block ht6 (w.heap.size+1) (ac HZ.o) (by omega)).trans HZ.o);have HT:Hq (ae w w6):=hQQ (Turned.mono (am (F:=fun _=>False) HT.o ht6 (fun k q=> .inr (by omega))) (fun _ _ q=>q));have HB:=hQQ hb6;clear hb6 ht6)
  |(refine sx rfl rfl rfl HB.o (by kernel_rfl) ?_)
  |(refine wpList_store_row rfl 23 _ _ rfl _ _ rfl rfl 23 _ HZ.o (by kernel_rfl) rfl (by simp[Value.oneCell']) ?_))
 refine bodyPost_ret (v:=.agg (kP c).cells) (results_cell_row Tryz.results31 _ _ _ 23 _ (0,0) _ rfl (setRow_heap _ _ _ _ _ _ HZ.o) Tryz.underlying23 rfl (by kernel_rfl)) rfl ⟨rfl,?_⟩
 exact HT.o.setRow _ _ (by omega)
def cJ (n:Nat):List Int:=List.replicate n 0
theorem j9 (n:Nat):(cJ n).length=n:=by simp[cJ]
theorem Bv (n:Nat):(madeCells (Value.int .i64 0).cells (n * 1)).toList=(cJ n).map (Value.int .i64):=by
 apply List.ext_getElem
 ·simp[madeCells,cJ,Value.cells]
 ·intro i h1 h2
  simp[madeCells,cJ,Value.cells,Nat.mod_one]
theorem gn (n:Nat):OkW (cJ n):=fun x hx=>by
 have:=List.eq_of_mem_replicate hx
 subst this;unfold W64;omega
def Ws (w:World)(g cap:Nat)(zs:List Int):Prop:=∃cur:Array Value,w.heap[g]?=some (.cells cur 3 (0,0))∧zs.length≤cap∧cap≤maxLen∧cur.size=cap∧∀i,i<zs.length→cur[i]?=some (.int .i64 (zs.getD i 0))
theorem Ws.of_rw {w:World}{base g cap:Nat}{zs:List Int}(h:Rw base w (.slice (some ⟨g,0,none⟩) zs.length cap) zs):Ws w g cap zs:=by
 rcases h.2 with⟨q,_⟩|⟨g',cap',cur,q,hb,hg,h1,h2,h3,h4⟩
 ·cases q
 ·cases q
  refine⟨cur,hg,h1,h2,by simpa using h3,fun i hi=>?_⟩
  have h5:(cur.toList.take (zs.length * 1))[i]?=some (.int .i64 (zs.getD i 0)):=by
   rw[h4,List.getElem?_map,List.getElem?_eq_getElem hi];simp[List.getD,hi]
  rw[List.getElem?_take,if_pos (by omega)] at h5
  simpa using h5
theorem Ws.cell {w:World}{g cap:Nat}{zs:List Int}(h:Ws w g cap zs){i:Nat}(hi:i<zs.length):w.cell? ⟨g,i,none⟩=some (.int .i64 (zs.getD i 0)):=by
 obtain⟨cur,hg,_,_,_,h4⟩:=h
 rw[cell_of_row w g i _ _ _ hg,h4 i hi]
theorem Ws.lt {w:World}{g cap:Nat}{zs:List Int}(h:Ws w g cap zs):g<w.heap.size:=by
 obtain⟨cur,hg,_⟩:=h
 exact ac hg
theorem Ws.keep {S:Nat→Prop}{w w':World}{g cap:Nat}{zs:List Int}(h:Ws w g cap zs)(t:Turned S w w')(hs:¬S g):Ws w' g cap zs:=by
 obtain⟨cur,hg,q⟩:=h
 exact⟨cur,(t.block g (ac hg) hs).trans hg,q⟩
theorem Ws.more {w w':World}{g cap:Nat}{zs:List Int}(h:Ws w g cap zs)(t:ae w w'):Ws w' g cap zs:=by
 obtain⟨cur,hg,q⟩:=h
 exact⟨cur,t.block hg,q⟩
theorem Ws.words {w:World}{g cap:Nat}{zs:List Int}(h:Ws w g cap zs):kN w (some ⟨g,0,none⟩) zs :=
 .inr ⟨g,0,rfl,h.lt,fun i hi=>by rw[Nat.zero_add];exact h.cell hi⟩
section
variable {P:Program}{ops:Array Oper}{md:Region.Mode}{C:World→Prop}{Q:Exit→Act→World→Prop}
def bU (P:Program)(ops:Array Oper)(C:World→Prop)(o:Oper)(v:Value)(a:Act):Prop :=
 (Region.wanted o (yielded ops a.tmps)=true∧∀w,C w→(execOp a.eval o).run P w=.ok (.value v) w) ∨
 (Region.wanted o (yielded ops a.tmps)=false∧v=undef)
theorem bU.wpOp {i:Nat}{o:Oper}{v:Value}{a:Act}(hi:ops[i]?=some o)(hy:bU P ops C o v a)
 {K:Act→World→Prop} {w:World} (hC:C w) (h:K (a.put o.dst v) w):wpOp P ops Q i K a w:=by
 unfold Go.wpOp
 simp only[hi]
 rcases hy with⟨hw,hv⟩|⟨hw,rfl⟩
 ·simp only[hw,if_true,Oper.wp,hv w hC,Oper.upon];exact .inl h
 ·simp only[hw,Bool.false_eq_true,if_false];exact h
theorem bU.of_same {o:Oper}{v:Value}{a a':Act}(hy:bU P ops C o v a)(he:execOp a'.eval o=execOp a.eval o)
 (hw:Region.wanted o (yielded ops a'.tmps)=Region.wanted o (yielded ops a.tmps)):bU P ops C o v a':=by
 unfold bU at *
 rw[he,hw]
 exact hy
theorem qt {j:Nat}{oi oj:Oper}{v:Value}(hj:ops[j]?=some oj)(hap:oi.apart ops oj=true)
 (hsi:∀cs b,oi.op≠ .select cs b) (hsj:∀cs b,oj.op≠ .select cs b)
 (hQ:∀c a w,Q (.panic c) (a.put oi.dst v) w→Q (.panic c) a w) {K:Act→World→Prop} {a:Act} {w:World}
 (hy:bU P ops C oi v a) (h:wpOp P ops Q j K (a.put oi.dst v) w):
 wpOp P ops Q j (fun a' w'=>bU P ops C oi v a'∧K (a'.put oi.dst v) w') a w:=by
 obtain⟨h1,h2,h3⟩:=Oper.apart_spec hap
 have keep:∀(a:Act),bU P ops C oi v a→∀u,bU P ops C oi v (a.put oj.dst u):=fun a hy u =>
  hy.of_same (execOp_put oi hsi a oj.dst u h3) (wanted_put oi a oj.dst u h3)
 have keepD:∀d,bU P ops C oi v { a with defers:=d::a.defers } :=fun d=>hy.of_same rfl rfl
 unfold wpOp at *
 simp only[hj] at *
 rw[wanted_put oj a oi.dst v h1] at h
 split
 ·rename_i hw
  simp only[hw,if_true] at h
  rcases h with h|⟨hasks,hlets⟩
  case inr=>exact .inr ⟨by unfold Oper.asks at *;rw[execOp_put oj hsj a oi.dst v h1] at hasks;exact hasks,hlets⟩
  refine .inl ?_
  unfold Oper.wp at *
  rw[execOp_put oj hsj a oi.dst v h1] at h
  generalize (execOp a.eval oj).run P w=r at *
  cases r with
  |ok n w' =>
   cases n<;>simp only[Oper.upon] at h⊢
   case value u=>exact⟨keep a hy u,by rw[←Act.put_comm a v u h2];exact h⟩
   case skip=>exact⟨keep a hy _,by rw[←Act.put_comm a v undef h2];exact h⟩
   case defer d =>
    refine⟨keep _ (keepD d) _,?_⟩
    rw[←Act.put_comm _ v undef h2,←Act.put_defers]
    exact h
   case enter f args =>
    refine Calls.mono h fun e w'' he=>?_
    cases e with
    |returned u=>exact⟨keep a hy u,by rw[←Act.put_comm a v u h2];exact he⟩
    |panicked c=>exact hQ _ _ _ he
    |outgrown=>exact he
   case row row args=>exact Rows.mono h fun u w'' he=>⟨keep a hy u,by rw[←Act.put_comm a v u h2];exact he⟩
  |halt x w' =>
   cases x<;>simp only[Oper.upon] at h⊢
   case panic u=>exact hQ _ _ _ h
 ·rename_i hw
  simp only[hw] at h
  exact⟨keep a hy _,by rw[←Act.put_comm a v undef h2];exact h⟩
def dc (P:Program)(md:Region.Mode)(ops:Array Oper)(C:World→Prop)(Q:Exit→Act→World→Prop):Nat→Array Bool→Act→World→Prop
 | 0,d,a,w=>Region.ready md ops d= []∧Q .normal a w
 |f+1,d,a,w=>(Region.ready md ops d= []→Q .normal a w)∧∀i∈Region.ready md ops d,wpOp P ops Q i (fun a' w'=>C w'∧dc P md ops C Q f (d.setIfInBounds i true) a' w') a w
theorem H4:∀(f:Nat) (d:Array Bool) (a:Act) (w:World),dc P md ops C Q f d a w→wpAny P md ops Q f d a w:=by
 intro f
 induction f with
 |zero=>intro d a w h;exact h
 |succ f ih=>intro d a w h;exact⟨h.1,fun i hi=>wpOp_mono (fun a' w' z=>ih _ a' w' z.2) (h.2 i hi)⟩
theorem Bz {i:Nat}{oi:Oper}{v:Value}(hi:ops[i]?=some oi)(hsel:∀(j:Nat)(o:Oper) cs b,ops[j]?=some o→o.op≠ .select cs b)
 (hQ:∀c a w,Q (.panic c) (a.put oi.dst v) w→Q (.panic c) a w):
 ∀(fuel:Nat) (listed:Array Bool) (a:Act) (w:World),C w →
  (∀j oj,ops[j]?=some oj→j≠i→listed.getD j true=false→(∀e∈oj.after,Region.binds md e=true→e.on≠i)→oi.apart ops oj=true) →
  i∈Region.ready md ops listed→bU P ops C oi v a →
  dc P md ops C Q fuel (listed.setIfInBounds i true) (a.put oi.dst v) w→dc P md ops C Q (fuel+1) listed a w:=by
 intro fuel
 induction fuel with
 |zero =>
  intro listed a w hC _ hr hy H
  refine⟨fun h=>(by rw[h] at hr;cases hr),fun j hj=>?_⟩
  by_cases hji:j=i
  ·subst hji;exact hy.wpOp hi hC ⟨hC,H⟩
  ·have:=ready_mono hj hji
   rw[H.1] at this
   cases this
 |succ fuel ih =>
  intro listed a w hC hfree hr hy H
  refine⟨fun h=>(by rw[h] at hr;cases hr),fun j hj=>?_⟩
  by_cases hji:j=i
  ·subst hji;exact hy.wpOp hi hC ⟨hC,H⟩
  ·have h1:=H.2 j (ready_mono hj hji)
   obtain⟨hjun,oj,hoj,hall⟩:=mem_ready.1 hj
   have hnot:∀e∈oj.after,Region.binds md e=true→e.on≠i:=fun e he hb heq=>by
    have h1:=hall e he hb
    have h0:=(mem_ready.1 hr).1
    rw[heq] at h1
    rcases Nat.lt_or_ge i listed.size with h'|h'
    ·simp[h'] at h0 h1;rw[h0] at h1;cases h1
    ·simp[Array.getElem?_eq_none h'] at h1
   have h2:=qt hoj (hfree j oj hoj hji hjun hnot) (fun cs b=>hsel i oi cs b hi) (fun cs b=>hsel j oj cs b hoj) hQ hy h1
   have hfree':∀k ok,ops[k]?=some ok→k≠i→(listed.setIfInBounds j true).getD k true=false →
    (∀e∈ok.after,Region.binds md e=true→e.on≠i)→oi.apart ops ok=true:=fun k ok hk hki hun hno=>by
    refine hfree k ok hk hki ?_ hno
    by_cases hjk:j=k
    ·subst hjk;exact hjun
    ·rw[getD_set_ne true hjk] at hun;exact hun
   refine wpOp_mono (fun a' w' h3=>⟨h3.2.1,ih (listed.setIfInBounds j true) a' w' h3.2.1 hfree' (ready_mono hr (Ne.symm hji)) h3.1 ?_⟩) h2
   rw[Array.setIfInBounds_comm _ _ hji]
   exact h3.2.2
theorem ER {i:Nat}{oi:Oper}{v:Value}{fuel:Nat}{listed:Array Bool}{a:Act}{w:World}(hi:ops[i]?=some oi)
 (hs:Region.noSelect ops=true) (hf:Region.free md ops listed i=true) (hr:(Region.ready md ops listed).contains i=true)
 (hQ:∀c a w,Q (.panic c) (a.put oi.dst v) w→Q (.panic c) a w) (hC:C w) (hy:bU P ops C oi v a)
 (h:dc P md ops C Q fuel (listed.setIfInBounds i true) (a.put oi.dst v) w):dc P md ops C Q (fuel+1) listed a w :=
 Bz hi (Region.noSelect_spec hs) hQ fuel listed a w hC (Region.free_spec hi hf) (by simpa using hr) hy h
theorem fY {i:Nat}{oi:Oper}{v:Value}{fuel:Nat}{listed:Array Bool}{a:Act}{w:World}(d:Option Tmp)(hi:ops[i]?=some oi)(hd:oi.dst=d)
 (hs:Region.noSelect ops=true) (hf:Region.free md ops listed i=true) (hr:(Region.ready md ops listed).contains i=true)
 (hQ:∀c a w,Q (.panic c) (a.put d v) w→Q (.panic c) a w) (hC:C w) (hy:bU P ops C oi v a)
 (h:dc P md ops C Q fuel (listed.setIfInBounds i true) (a.put d v) w):dc P md ops C Q (fuel+1) listed a w:=by
 subst hd;exact ER hi hs hf hr hQ hC hy h
theorem ze {i:Nat}{o:Oper}{fuel:Nat}{listed:Array Bool}{a:Act}{w:World}(hr:Region.ready md ops listed= [i])(hi:ops[i]?=some o)(hw:Region.wanted o (yielded ops a.tmps)=true)
 (h:Oper.wp P o a w (fun a' w'=>C w'∧dc P md ops C Q fuel (listed.setIfInBounds i true) a' w') Q):dc P md ops C Q (fuel+1) listed a w:=by
 refine⟨fun q=>(by rw[hr] at q;cases q),fun j hj=>?_⟩
 rw[hr] at hj
 obtain rfl:j=i:=by simpa using hj
 unfold Go.wpOp
 simp only[hi,hw,if_true]
 exact .inl h
theorem bI {fuel:Nat}{listed:Array Bool}{a:Act}{w:World}(hr:Region.ready md ops listed= [])(h:Q .normal a w):dc P md ops C Q fuel listed a w:=by
 cases fuel with
 |zero=>exact⟨hr,h⟩
 |succ f=>exact⟨fun _=>h,fun i hi=>(by rw[hr] at hi;cases hi)⟩
theorem aC {o:Oper}{a:Act}(hw:Region.wanted o (yielded ops a.tmps)=true)(ty:TypeId)(x:Operand)(ho:o.op=.load ty x)(g:Nat)(hx:a.eval x=.pointer (some ⟨g,0,none⟩))(t:TypeId)(cs:Array Value)(fr:Nat×Nat)(d:TypeDesc)(hg:∀w,C w→w.heap[g]?=some (.cells cs t fr))
 (hu:P.underlying ty=some d) (hd:(match d with| .struct _| .array _ _=>true|_=>false)=true) (hi:(P.info? ty).map (·.size)=some cs.size):bU P ops C o (.agg cs) a:=by
 refine .inl ⟨hw,fun w hC=>?_⟩
 unfold execOp
 simp only[ho,hx,Instr.loadAt,Instr.sureAddr,Sem.run_bind,Sem.run_pure,Result.andThen_ok,run_loadVar_row w g t ty cs fr d (hg w hC) hu hd hi]
end
theorem aM {P:Program}{ops:Array Oper}{id:Nat}{a:Act}{w:World}{Q:Exit→Act→World→Prop}(C:World→Prop)(hm:P.follows .mixedOrders=true)
 (h:dc P .any ops C Q ops.size (Array.replicate ops.size false) a { w with drawn:=w.drawn+1 }):(Code.region id ops true).wp P Q a w:=wp_region_any hm (H4 _ _ _ _ h)
section
variable {P:Program}{o:Oper}{a:Act}{w:World}{K:Act→World→Prop}{Q:Exit→Act→World→Prop}
theorem Ol {f:Nat}{ts:Array TypeId}(ho:o.op=.call { callee:= .value (.func f),args:= #[],argTypes:=ts })(he:∀(vs:Array Value)(w:World),Sem.run P (callFunc f vs) w=.ok (.enter f vs) w)
 (h:Calls P f #[] w (fun| .returned v,w''=>K (a.put o.dst v) w''| .panicked ch,w''=>Q (.panic ch) a w''| .outgrown,_=>LetsOut Q)):o.wp P a w K Q:=by
 have hv:a.eval (.func f)=.func (.func f) #[] #[]:=rfl
 unfold Oper.wp Oper.upon
 generalize hρ:a.eval=ρ at hv⊢
 simp[execOp,ho,resolve,invoke,hv,he,Sem.run_bind,Result.andThen,go_sem]
 exact h
theorem mV {f:Nat}{x0:Operand}{v0:Value}{ts:Array TypeId}(ho:o.op=.call { callee:= .value (.func f),args:= #[x0],argTypes:=ts })(h0:a.eval x0=v0)(he:∀(vs:Array Value)(w:World),Sem.run P (callFunc f vs) w=.ok (.enter f vs) w)
 (h:Calls P f #[v0] w (fun| .returned v,w''=>K (a.put o.dst v) w''| .panicked ch,w''=>Q (.panic ch) a w''| .outgrown,_=>LetsOut Q)):o.wp P a w K Q:=by
 have hv:a.eval (.func f)=.func (.func f) #[] #[]:=rfl
 unfold Oper.wp Oper.upon
 generalize hρ:a.eval=ρ at h0 hv⊢
 simp[execOp,ho,resolve,invoke,hv,h0,he,Sem.run_bind,Result.andThen,go_sem]
 exact h
theorem bO {f:Nat}{x0 x1:Operand}{v0 v1:Value}{ts:Array TypeId}(ho:o.op=.call { callee:= .value (.func f),args:= #[x0,x1],argTypes:=ts })(h0:a.eval x0=v0)(h1:a.eval x1=v1)(he:∀(vs:Array Value)(w:World),Sem.run P (callFunc f vs) w=.ok (.enter f vs) w)
 (h:Calls P f #[v0,v1] w (fun| .returned v,w''=>K (a.put o.dst v) w''| .panicked ch,w''=>Q (.panic ch) a w''| .outgrown,_=>LetsOut Q)):o.wp P a w K Q:=by
 have hv:a.eval (.func f)=.func (.func f) #[] #[]:=rfl
 unfold Oper.wp Oper.upon
 generalize hρ:a.eval=ρ at h0 h1 hv⊢
 simp[execOp,ho,resolve,invoke,hv,h0,h1,he,Sem.run_bind,Result.andThen,go_sem]
 exact h
end
theorem ES {P:Program}{md:Region.Mode}{ops:Array Oper}{Q:Exit→Act→World→Prop}{n:Nat}{dn:Array Bool}{a:Act}{w:World} (Φ:World→Prop)(ch:List PanicEntry)(fin:∀a w,a.defers= []→Φ w→Q (.panic ch) a w)(h:∀Q':Exit→Act→World→Prop,(∀a w,a.defers= []→Φ w→Q' (.panic ch) a w)→wpAny P md ops Q' n dn a w):wpAny P md ops Q n dn a w:=h Q fin
def AG (m:Nat)(a:Act)(L:List (Nat×Value)):Prop:=(m≤a.tmps.size∧a.defers= [])∧∀q∈L,a.eval (.tmp q.1)=q.2
theorem AG.put {m:Nat}{a:Act}{L:List (Nat×Value)}(h:AG m a L)(d:Nat)(v:Value)(hd:d<m)(hn:L.all (fun q=>q.1 != d)=true):AG m (a.put (some d) v) ((d,v)::L):=by
 have hs:=h.1.1
 refine⟨⟨by simp[Act.put];exact hs,h.1.2⟩,?_⟩
 intro q hq
 rcases List.mem_cons.1 hq with rfl|hq
 ·have hlt:d<a.tmps.size:=by omega
  simp[Act.put,Act.eval,Array.getD,hlt]
 ·rw[Act.eval_put (by have:=List.all_eq_true.1 hn q hq;simp at this;rintro _ ⟨⟩;simp[this])]
  exact h.2 q hq
theorem AG.get {m:Nat}{a:Act}{L:List (Nat×Value)}(h:AG m a L)(i:Nat){k:Nat}{v:Value}(hm:L[i]?=some (k,v)):a.eval (.tmp k)=v:=h.2 (k,v) (List.mem_of_getElem? hm)
theorem Ko {P:Program}{md:Region.Mode}{ops:Array Oper}{Q:Exit→Act→World→Prop}{n:Nat}{dn:Array Bool}{A:Act}{W:World}(m:Nat)(L:List (Nat×Value))(hA:AG m A L)(h:∀a,AG m a L→wpAny P md ops Q n dn a W):wpAny P md ops Q n dn A W:=h A hA
section
variable {P:Program}{o:Oper}{a:Act}{w:World}{K:Act→World→Prop}{Q:Exit→Act→World→Prop}
theorem du {f:Nat}{x0 x1 x2:Operand}{v0 v1 v2:Value}{ts:Array TypeId}(ho:o.op=.call { callee:= .value (.func f),args:= #[x0,x1,x2],argTypes:=ts })(h0:a.eval x0=v0)(h1:a.eval x1=v1)(h2:a.eval x2=v2)(he:∀(vs:Array Value)(w:World),Sem.run P (callFunc f vs) w=.ok (.enter f vs) w)
 (h:Calls P f #[v0,v1,v2] w (fun| .returned v,w''=>K (a.put o.dst v) w''| .panicked ch,w''=>Q (.panic ch) a w''| .outgrown,_=>LetsOut Q)):o.wp P a w K Q:=by
 have hv:a.eval (.func f)=.func (.func f) #[] #[]:=rfl
 unfold Oper.wp Oper.upon
 generalize hρ:a.eval=ρ at h0 h1 h2 hv⊢
 simp[execOp,ho,resolve,invoke,hv,h0,h1,h2,he,Sem.run_bind,Result.andThen,go_sem]
 exact h
theorem ET {xf:Operand}{f:Nat}{clo:Array Value}{x0:Operand}{v0:Value}{ts:Array TypeId}(ho:o.op=.call { callee:= .value xf,args:= #[x0],argTypes:=ts })(hf:a.eval xf=.func (.func f) #[] clo)(h0:a.eval x0=v0)(he:∀(vs:Array Value)(w:World),Sem.run P (callFunc f vs) w=.ok (.enter f vs) w)
 (h:Calls P f (#[v0]++clo) w (fun| .returned v,w''=>K (a.put o.dst v) w''| .panicked ch,w''=>Q (.panic ch) a w''| .outgrown,_=>LetsOut Q)):o.wp P a w K Q:=by
 unfold Oper.wp Oper.upon
 generalize hρ:a.eval=ρ at h0 hf⊢
 simp[execOp,ho,resolve,invoke,hf,h0,he,Sem.run_bind,Result.andThen,go_sem]
 exact h
end
theorem bH {P:Program}{md:Region.Mode}{ops:Array Oper}{C:World→Prop}{Q:Exit→Act→World→Prop}{f:Nat}{d:Array Bool}{a:Act}{w:World} (Φ:Act→World→Prop) (Ψ:World→Prop)(ch:List PanicEntry)(fp:∀a w,a.defers= []→Ψ w→Q (.panic ch) a w)(fq:∀c a k v w,Q (.panic c) (Act.put a (some k) v) w→Q (.panic c) a w)(fn:∀a w,Φ a w→Q .normal a w)
 (h:∀Q':Exit→Act→World→Prop,(∀a w,Φ a w→Q' .normal a w)→(∀a w,a.defers= []→Ψ w→Q' (.panic ch) a w)→(∀c a k v w,Q' (.panic c) (Act.put a (some k) v) w→Q' (.panic c) a w)→dc P md ops C Q' f d a w):dc P md ops C Q f d a w:=h Q fn fp fq
theorem Kp {P:Program}{md:Region.Mode}{ops:Array Oper}{C:World→Prop}{Q:Exit→Act→World→Prop}{n:Nat}{dn:Array Bool}{A:Act}{W:World}(m:Nat)(L:List (Nat×Value))(hA:AG m A L)(h:∀a,AG m a L→dc P md ops C Q n dn a W):dc P md ops C Q n dn A W:=h A hA
theorem AG.getD {m:Nat}{a:Act}{L:List (Nat×Value)}(h:AG m a L)(i:Nat){k:Nat}{v:Value}(hm:L[i]?=some (k,v)):a.tmps[k]?.getD undef=v:=by
 have:=h.get i hm
 simpa [Act.eval] using this
section
variable {P:Program}{ops:Array Oper}{md:Region.Mode}{C:World→Prop}{Q:Exit→Act→World→Prop}
theorem dE {o:Oper}{tmps:Array Value}(g:Nat)(b:Bool)(d:Tmp)(hg:o.guard=some (g,b))(hd:(ops[g]?).bind (·.dst)=some d)(h:tmps[d]?=some (.bool b)):Region.wanted o (yielded ops tmps)=true:=by
 simp[Region.wanted,hg,yielded,hd,h]
theorem ab {o:Oper}{f:Nat→Option Bool}(hg:o.guard=none):Region.wanted o f=true:=by simp[Region.wanted,hg]
theorem AG.at {m:Nat}{a:Act}{L:List (Nat×Value)}(h:AG m a L){k:Nat}(hk:k<m)(i:Nat){v:Value}(hm:L[i]?=some (k,v)):a.tmps[k]?=some v:=by
 have h1:=h.getD i hm
 have hl:k<a.tmps.size:=Nat.lt_of_lt_of_le hk h.1.1
 rw[Array.getElem?_eq_getElem hl] at h1⊢
 simpa using h1
theorem ct {o:Oper}{a:Act}{v:Value}(hw:Region.wanted o (yielded ops a.tmps)=true)(x:Operand)(ho:o.op=.move x)(hx:a.eval x=v):bU P ops C o v a :=
 .inl ⟨hw,fun w _=>by unfold execOp;simp only[ho,hx];rfl⟩
theorem ij {o:Oper}{a:Act}{v:Value}{x y z:Operand}(hw:Region.wanted o (yielded ops a.tmps)=true)(ho:o.op=.pick x y z)(hx:a.eval x=.bool true)(hy:a.eval y=v):bU Tryz.prog ops C o v a :=
 .inl ⟨hw,fun w _=>by unfold execOp;generalize a.eval=ρ at hx hy⊢;simp only[ho,hx,hy];go_simp⟩
theorem bG {i:Nat}{o:Oper}{fuel:Nat}{listed:Array Bool}{a:Act}{w:World}(d:Option Tmp)(hr:Region.ready md ops listed= [i])(hi:ops[i]?=some o)(hw:Region.wanted o (yielded ops a.tmps)=true)(hd:o.dst=d)
 (h:∀K:Act→World→Prop,(∀v w',C w'→dc P md ops C Q fuel (listed.setIfInBounds i true) (a.put d v) w'→K (a.put o.dst v) w')→Oper.wp P o a w K Q):dc P md ops C Q (fuel+1) listed a w:=by
 subst hd
 exact ze hr hi hw (h _ (fun v w' hc hA=>⟨hc,hA⟩))
theorem mW {i:Nat}{o:Oper}{fuel:Nat}{listed:Array Bool}{a:Act}{w:World}(hr:Region.ready md ops listed= [i])(hr2:Region.ready md ops (listed.setIfInBounds i true)= [])(hi:ops[i]?=some o)(hw:Region.wanted o (yielded ops a.tmps)=true)
 (h:∀K:Act→World→Prop,(∀v w',C w'→Q .normal (a.put o.dst v) w'→K (a.put o.dst v) w')→Oper.wp P o a w K Q):dc P md ops C Q (fuel+1) listed a w :=
 ze hr hi hw (h _ (fun v w' hc hq=>⟨hc,bI hr2 hq⟩))
variable {o:Oper}{a:Act}{w:World}{K:Act→World→Prop}
theorem kb {f:Nat}{x0 x1 x2 x3 x4:Operand}{v0 v1 v2 v3 v4:Value}{ts:Array TypeId}(ho:o.op=.call { callee:= .value (.func f),args:= #[x0,x1,x2,x3,x4],argTypes:=ts })(h0:a.eval x0=v0)(h1:a.eval x1=v1)(h2:a.eval x2=v2)(h3:a.eval x3=v3)(h4:a.eval x4=v4)(he:∀(vs:Array Value)(w:World),Sem.run P (callFunc f vs) w=.ok (.enter f vs) w)
 (h:Calls P f #[v0,v1,v2,v3,v4] w (fun| .returned v,w''=>K (a.put o.dst v) w''| .panicked ch,w''=>Q (.panic ch) a w''| .outgrown,_=>LetsOut Q)):o.wp P a w K Q:=by
 have hv:a.eval (.func f)=.func (.func f) #[] #[]:=rfl
 unfold Oper.wp Oper.upon
 generalize hρ:a.eval=ρ at h0 h1 h2 h3 h4 hv⊢
 simp[execOp,ho,resolve,invoke,hv,h0,h1,h2,h3,h4,he,Sem.run_bind,Result.andThen,go_sem]
 exact h
end
section
variable {P:Program}{ops:Array Oper}{md:Region.Mode}{C:World→Prop}{Q:Exit→Act→World→Prop}{o:Oper}{a:Act}{v:Value}
theorem jK (hw:Region.wanted o (yielded ops a.tmps)=true)(x:Operand)(ho:o.op=.load 3 x)(g:Nat)(hx:a.eval x=.pointer (some ⟨g,0,none⟩))(z:Int)(hg:∀w,C w→w.heap[g]?=some (.cells #[.int .i64 z] 3 (0,0))):bU Tryz.prog ops C o (.int .i64 z) a :=
 .inl ⟨hw,fun w hC=>by
  have hl:(loadVar 3 ⟨g,0,none⟩).run Tryz.prog w=.ok (.int .i64 z) w:=fG Tryz.underlying3 rfl (by simp[World.cell?,hg w hC])
  unfold execOp
  simp only[ho,hx,Instr.loadAt,Instr.sureAddr,Sem.run_bind,Sem.run_pure,Result.andThen_ok,hl]⟩
theorem gy {x y:Operand}{u z:Int}(hw:Region.wanted o (yielded ops a.tmps)=true)(ho:o.op=.binOp .add 3 x y 3)(hx:a.eval x=.int .i64 u)(hy:a.eval y=.int .i64 z)(t:Int)(hq:IntKind.i64.wrap (u+z)=t):bU Tryz.prog ops C o (.int .i64 t) a :=
 .inl ⟨hw,fun w _=>by unfold execOp;generalize a.eval=ρ at hx hy⊢;simp only[ho,hx,hy];subst hq;go_simp⟩
theorem zg {x y:Operand}{u z:Int}(hw:Region.wanted o (yielded ops a.tmps)=true)(ho:o.op=.binOp .eql 3 x y 3)(hx:a.eval x=.int .i64 u)(hy:a.eval y=.int .i64 z)(b:Bool)(hb:(u==z)=b):bU Tryz.prog ops C o (.bool b) a :=
 .inl ⟨hw,fun w _=>by unfold execOp;generalize a.eval=ρ at hx hy⊢;simp only[ho,hx,hy];subst hb;go_simp⟩
variable {w:World}{K:Act→World→Prop}
theorem sV {f:Nat}{x0 x1 x2 x3:Operand}{v0 v1 v2 v3:Value}{ts:Array TypeId}(ho:o.op=.call { callee:= .value (.func f),args:= #[x0,x1,x2,x3],argTypes:=ts })(h0:a.eval x0=v0)(h1:a.eval x1=v1)(h2:a.eval x2=v2)(h3:a.eval x3=v3)(he:∀(vs:Array Value)(w:World),Sem.run P (callFunc f vs) w=.ok (.enter f vs) w)
 (h:Calls P f #[v0,v1,v2,v3] w (fun| .returned v,w''=>K (a.put o.dst v) w''| .panicked ch,w''=>Q (.panic ch) a w''| .outgrown,_=>LetsOut Q)):o.wp P a w K Q:=by
 have hv:a.eval (.func f)=.func (.func f) #[] #[]:=rfl
 unfold Oper.wp Oper.upon
 generalize hρ:a.eval=ρ at h0 h1 h2 h3 hv⊢
 simp[execOp,ho,resolve,invoke,hv,h0,h1,h2,h3,he,Sem.run_bind,Result.andThen,go_sem]
 exact h
end
section
variable {P:Program}{ops:Array Oper}{md:Region.Mode}{C:World→Prop}{Q:Exit→Act→World→Prop}
theorem ke {i j:Nat}{oi oj:Oper}{fuel:Nat}{listed:Array Bool}{a:Act}{w:World}(di dj:Option Tmp)(hr:Region.ready md ops listed= [i,j])(hi:ops[i]?=some oi)(hj:ops[j]?=some oj)(wi:Region.wanted oi (yielded ops a.tmps)=true)(wj:Region.wanted oj (yielded ops a.tmps)=true)(hdi:oi.dst=di)(hdj:oj.dst=dj)
 (h1:∀K:Act→World→Prop,(∀v w',C w'→dc P md ops C Q fuel (listed.setIfInBounds i true) (a.put di v) w'→K (a.put oi.dst v) w')→Oper.wp P oi a w K Q)
 (h2:∀K:Act→World→Prop,(∀v w',C w'→dc P md ops C Q fuel (listed.setIfInBounds j true) (a.put dj v) w'→K (a.put oj.dst v) w')→Oper.wp P oj a w K Q):dc P md ops C Q (fuel+1) listed a w:=by
 subst hdi
 subst hdj
 refine⟨fun q=>(by rw[hr] at q;cases q),fun k hk=>?_⟩
 rw[hr] at hk
 rcases List.mem_cons.1 hk with rfl|hk
 ·unfold Go.wpOp
  simp only[hi,wi,if_true]
  exact .inl (h1 _ (fun v w' hc hA=>⟨hc,hA⟩))
 ·obtain rfl:=List.mem_singleton.1 hk
  unfold Go.wpOp
  simp only[hj,wj,if_true]
  exact .inl (h2 _ (fun v w' hc hA=>⟨hc,hA⟩))
theorem cK {o:Oper}{a:Act}{v:Value}(hw:Region.wanted o (yielded ops a.tmps)=true)(x:Operand)(ho:o.op=.assign x)(hx:a.eval x=v):bU P ops C o v a :=
 .inl ⟨hw,fun w _=>by unfold execOp;simp only[ho,hx];rfl⟩
theorem AG.sub {m:Nat}{a:Act}{L L':List (Nat×Value)}(h:AG m a L)(hs:∀q∈L',q∈L):AG m a L':=⟨h.1,fun q hq=>h.2 q (hs q hq)⟩
variable {o:Oper}{a:Act}{w:World}{K:Act→World→Prop}
theorem EU {x:Operand}(ho:o.op=.buildSlice 29 1 #[(0,x)])(z:Int)(hx:a.eval x=.int .i64 z)(h:K (a.put o.dst (.slice (some ⟨w.heap.size,0,none⟩) 1 1)) (w.alloc (.cells #[.int .i64 z] 3))):Oper.wp Tryz.prog o a w K Q:=by
 unfold Oper.wp Oper.upon execOp
 simp only[ho]
 generalize a.eval=ρ at hx⊢
 go_simp
 exact h
theorem Dz {base g:Nat}{v:Value}{xs:List Int}(y:Int)(s x:Operand)
 (ho:o.op=.call { callee:= .builtin .append,args:= #[s,x],argTypes:= #[29,29] })
 (hs:a.eval s=v) (hn:Rw base w v xs) (hb:base≤w.heap.size) (hl:xs.length≤1000000)
 (hx:a.eval x=.slice (some ⟨g,0,none⟩) 1 1) (hg:w.heap[g]?=some (.cells #[.int .i64 y] 3 (0,0)))
 (h:∀v' w',Rw base w' v' (xs++ [y])→Turned (fun k=>v.ownBlock=some k) w w'→(∀k,v'.ownBlock=some k→v.ownBlock=some k∨k=w.heap.size)→K (a.put o.dst v') w'):o.wp Tryz.prog a w K Q:=by
 obtain⟨i,i1,i2,i3,i4⟩:=jf
 refine wp_append_lies w s x 29 ho base 3 i _ 1 8 Tryz.underlying29 i1 i2 i3 i4 rfl (by omega) v xs.length _ hs hn ⟨g,0,none⟩ 1 1 [.int .i64 y] hx (by simp)
  (fun j u hu=>World.news_of_block hg j u (by simpa using hu)) (by intro u hu;simp at hu;subst hu;rfl) (by omega) (by simp only[maxLen];omega) (by omega) hb _ rfl ?_
 intro g' cap w1 hown hgrow h4 _
 have ht:Turned (fun k=>v.ownBlock=some k) w w1:=⟨hgrow.os,hgrow.tape,hgrow.output,hgrow.size,fun k hk hne=>hgrow.block k hk (fun e=>hne e.symm)⟩
 refine h _ w1 ?_ ht (fun k q=>?_)
 ·unfold Rw
  rw[List.length_append,List.map_append]
  exact hown
 ·have:k=g':=by simpa [Value.ownBlock,eq_comm] using q
  subst this
  exact h4
end
section
variable {P:Program}{ops:Array Oper}{C:World→Prop}{o:Oper}{a:Act}
theorem dA (hw:Region.wanted o (yielded ops a.tmps)=true)(ty:TypeId)(x:Operand)(ho:o.op=.load ty x)(g i:Nat)(hx:a.eval x=.pointer (some ⟨g,i,none⟩))(v:Value)(d:TypeDesc)(hu:P.underlying ty=some d)(hd:(match d with| .struct _| .array _ _=>true|_=>false)=false)(hg:∀w,C w→w.cell? ⟨g,i,none⟩=some v):bU P ops C o v a :=
 .inl ⟨hw,fun w hC=>by
  have hl:(loadVar ty ⟨g,i,none⟩).run P w=.ok v w:=fG hu hd (hg w hC)
  unfold execOp
  simp only[ho,hx,Instr.loadAt,Instr.sureAddr,Sem.run_bind,Sem.run_pure,Result.andThen_ok,hl]⟩
end
def MY (md:Region.Mode)(ops:Array Oper)(listed:Array Bool)(i d m:Nat)(L:List (Nat×Value)):Bool:=Region.noSelect ops && (Region.free md ops listed i && ((Region.ready md ops listed).contains i && (decide (i<ops.size) && (((ops.getD i default).dst==some d) && (decide (d<m) && L.all (fun q=>q.1 != d))))))
section
variable {P:Program}{md:Region.Mode}{ops:Array Oper}{C:World→Prop}{Q:Exit→Act→World→Prop}{fuel:Nat}{listed:Array Bool}{a:Act}{w:World}{m:Nat}{L:List (Nat×Value)}
theorem tqC (i d:Nat)(v:Value)(hB:MY md ops listed i d m L=true)(hQ:∀c a k v w,Q (.panic c) (Act.put a (some k) v) w→Q (.panic c) a w)(hC:C w)(HF:AG m a L)(hy:bU P ops C (ops.getD i default) v a)
 (h:∀A,Act.put a (some d) v=A→AG m A ((d,v)::L)→dc P md ops C Q fuel (listed.setIfInBounds i true) A w):dc P md ops C Q (fuel+1) listed a w:=by
 unfold MY at hB
 simp only[Bool.and_eq_true] at hB
 obtain⟨h1,h2,h3,h4,h5,h6,h7⟩:=hB
 have h4:=of_decide_eq_true h4
 have hi:ops[i]?=some (ops.getD i default):=by rw[Array.getElem?_eq_getElem h4];simp[Array.getD,h4]
 exact fY (some d) hi (eq_of_beq h5) h1 h2 h3 (fun c a w=>hQ c a _ _ w) hC hy (h _ rfl (HF.put d v (of_decide_eq_true h6) h7))
theorem tqM (i d k:Nat){s:Nat}{v:Value}(hL:L[k]?=some (s,v))(ho:(ops.getD i default).op=.move (.tmp s)∨(ops.getD i default).op=.assign (.tmp s))(hg:(ops.getD i default).guard=none)(hB:MY md ops listed i d m L=true)(hQ:∀c a k v w,Q (.panic c) (Act.put a (some k) v) w→Q (.panic c) a w)(hC:C w)(HF:AG m a L)
 (h:∀A,Act.put a (some d) v=A→AG m A ((d,v)::L)→dc P md ops C Q fuel (listed.setIfInBounds i true) A w):dc P md ops C Q (fuel+1) listed a w :=
 tqC i d v hB hQ hC HF (by
  rcases ho with ho|ho
  ·exact ct (ab hg) _ ho (HF.get k hL)
  ·exact cK (ab hg) _ ho (HF.get k hL)) h
def OT (md:Region.Mode)(ops:Array Oper)(listed:Array Bool)(i d m:Nat)(L:List (Nat×Value)):Bool:=(Region.ready md ops listed== [i]) && (decide (i<ops.size) && ((ops.getD i default).guard.isNone && (((ops.getD i default).dst==some d) && (decide (d<m) && L.all (fun q=>q.1 != d)))))
theorem tqO (i d:Nat)(hB:OT md ops listed i d m L=true)(HF:AG m a L)
 (h:∀K:Act→World→Prop,(∀v w',C w'→(∀A,Act.put a (some d) v=A→AG m A ((d,v)::L)→dc P md ops C Q fuel (listed.setIfInBounds i true) A w')→K (a.put (ops.getD i default).dst v) w')→Oper.wp P (ops.getD i default) a w K Q):dc P md ops C Q (fuel+1) listed a w:=by
 unfold OT at hB
 simp only[Bool.and_eq_true] at hB
 obtain⟨h1,h2,h3,h5,h6,h7⟩:=hB
 have h4:=of_decide_eq_true h2
 have hi:ops[i]?=some (ops.getD i default):=by rw[Array.getElem?_eq_getElem h4];simp[Array.getD,h4]
 exact bG (some d) (eq_of_beq h1) hi (ab (Option.isNone_iff_eq_none.1 h3)) (eq_of_beq h5) fun K hK=>h K fun v w' hc hA=>hK v w' hc (hA _ rfl (HF.put d v (of_decide_eq_true h6) h7))
end
abbrev pts (A:Act)(l:List (Nat×Value)):Act:=l.foldl (fun a q=>a.put (some q.1) q.2) A
theorem OU {c:Cfg}(R:c.Ok)(w:World):Calls Tryz.prog 32 #[.agg c.cells] w (aP w (.tuple #[.agg c.arr,.int .i64 0])):=GU c.wk c.cp c.pg c.st c.tr c.wt c.ck c.pr c.ca c.bi c.ba w R
theorem H5 {c:Cfg}(R:c.Ok)(w:World):Calls Tryz.prog 72 #[.agg c.cells] w (aP w (.int .i64 c.words)):=MX c.wk c.cp c.pg c.st c.tr c.wt c.ck c.pr c.ca c.bi c.ba w R
theorem EV (c:Cfg)(W:World):(Instr.build 73 #[(0,.agg c.cells)]).run Tryz.prog W=.ok (.agg c.cells) W:=run_build W _ _ _ (by kernel_rfl)
theorem gV (c:Cfg):c.cells.all (·.oneCell')=true:=by simp[Cfg.cells,Value.oneCell']
theorem mX (c:Cfg):c.arr.all (·.oneCell')=true:=kG ..
theorem BA {ops:Array Oper}{rest:List Oper}{o:Oper}{a:Act}{w:World}{Q:Exit→Act→World→Prop}(hw:Region.wanted o (yielded ops a.tmps)=true)(x:Operand)(ho:o.op=.build 73 #[(0,x)])(c:Cfg)
 (hx:a.eval x=.agg c.cells) (h:wpList Tryz.prog ops Q rest (a.put o.dst (.agg c.cells)) w):wpList Tryz.prog ops Q (o::rest) a w :=
 el hw fun K hK=>by
  have hb:=EV c w
  unfold Oper.wp execOp
  simp only[ho,List.map_toArray,List.map_cons,List.map_nil,hx,Sem.run_bind,hb,Result.andThen_ok]
  exact hK _ _ h
theorem zh {P:Program}{fn:Func}{p q u:Tmp}{tp tq:TypeId}(h:fn.results= #[.cell p tp,.cell q tq,.tmp u])(tmps:Array Value)(w:World)(g g':Nat)(v v':Value)(hp:tmps.getD p undef=.pointer (some ⟨g,0,none⟩))(hq:tmps.getD q undef=.pointer (some ⟨g',0,none⟩))
 (h1:(loadVar tp ⟨g,0,none⟩).run P w=.ok v w) (h2:(loadVar tq ⟨g',0,none⟩).run P w=.ok v' w):(results fn tmps).run P w=.ok (.tuple #[v,v',tmps.getD u undef]) w:=by
 have hp':tmps[p]?.getD undef=.pointer (some ⟨g,0,none⟩):=by simpa using hp
 have hq':tmps[q]?.getD undef=.pointer (some ⟨g',0,none⟩):=by simpa using hq
 simp[results,h,asAddr,hp',hq',h1,h2,Sem.run_bind,Result.andThen]
def H6 (w:World)(c:Cfg)(e:Ending)(w':World):Prop :=
 ∃(g n:Nat),(n:Int)=c.words∧e=.returned (.tuple #[.agg c.arr,.agg c.cells,.slice (some ⟨g,0,none⟩) n n])∧Rw w.heap.size w' (.slice (some ⟨g,0,none⟩) n n) (cJ n)∧ae w w'
section
variable {P:Program}{o:Oper}{a:Act}{w:World}{K:Act→World→Prop}{Q:Exit→Act→World→Prop}
theorem sW {f:Nat}{x0:Operand}{v0:Value}{ts:Array TypeId}(ho:o.op=.call { callee:= .value (.func f),args:= #[x0],argTypes:=ts })(h0:a.eval x0=v0)(he:∀(vs:Array Value)(w:World),Sem.run P (callFunc f vs) w=.ok (.enter f vs) w)
 (h:Calls P f #[v0] w (fun| .returned v,w''=>K (a.put o.dst v) w''| .panicked ch,w''=>Q (.panic ch) a w''| .outgrown,_=>LetsOut Q)):o.wp P a w K Q:=by
 have hv:a.eval (.func f)=.func (.func f) #[] #[]:=rfl
 unfold Oper.wp Oper.upon
 generalize hρ:a.eval=ρ at h0 hv⊢
 simp[execOp,ho,resolve,invoke,hv,h0,he,Sem.run_bind,Result.andThen,go_sem]
 exact h
theorem xz {t e:TypeId}{x:Operand}(ho:o.op=.makeSlice t x x){n:Nat}{L:Int}(hx:a.eval x=.int .i64 L)(hL:L=(n:Int))(i:TypeInfo)(z:Value)(h1:P.underlying t=some (.slice e))(h2:P.info? e=some i)(h3:i.zero=some z)(h4:i.size=1)(b2:i.bytes * n≤281474976710656)(b3:n≤maxLen)
 (h:∀w',w'.ownsRow w.heap.size e 1 (.slice (some ⟨w.heap.size,0,none⟩) n n) n (madeCells z.cells (n * 1)).toList→w.grownBy w' none→K (a.put o.dst (.slice (some ⟨w.heap.size,0,none⟩) n n)) w'):o.wp P a w K Q:=by
 obtain⟨w',hrun,r1,r2⟩:=run_make_full (P:=P) (w:=w) w.heap.size t e i z 1 h1 h2 h3 h4 .i64 .i64 n b2 b3 (Nat.le_refl _)
 subst hL
 unfold Oper.wp Oper.upon
 generalize hρ:a.eval=ρ at hx⊢
 simp[execOp,ho,hx,hrun,Result.andThen,Sem.run_bind]
 exact h w' r1 r2
theorem qu {x:Operand}(ho:o.op=.assign x){v:Value}(hx:a.eval x=v)(h:K (a.put o.dst v) w):o.wp P a w K Q:=by
 unfold Oper.wp execOp
 simp only[ho,hx]
 exact h
theorem dJ {md:Region.Mode}{ops:Array Oper}{fuel:Nat}{listed:Array Bool}{i:Nat}{rs:List Nat}(d:Option Tmp)(ho:ops[i]?=some o)(hg:o.guard=none)(hd:o.dst=d)
 (h:∀K':Act→World→Prop,(∀v w,wpAny P md ops Q fuel (listed.setIfInBounds i true) (a.put d v) w→K' (a.put o.dst v) w)→Oper.wp P o a w K' Q)
 (hs:AllReady P md ops Q fuel listed a w rs):AllReady P md ops Q fuel listed a w (i::rs):=
 AllReady.cons ho (fun K hK=>by
  rw[if_pos (by simp[Region.wanted,hg])]
  exact h K fun v w' q=>hK _ _ (by rw[hd];exact q)) hs
end
def AF (a:Act)(L:List (Nat×Value)):Prop:=(22≤a.tmps.size∧a.defers= [])∧∀q∈L,a.eval (.tmp q.1)=q.2
structure BS (w w6:World)(d:Cfg)(x1 x2:Array Value)(W:World):Prop where
 a1:W.heap[w6.heap.size]?=some (.cells d.arr 28 (0,0))
 a2:W.heap[w6.heap.size+1]?=some (.cells d.cells 73 (0,0))
 r1:W.heap[w.heap.size+1]?=some (.cells x1 28 (0,0))
 r2:W.heap[w.heap.size+2]?=some (.cells x2 73 (0,0))
 more:ae w W
 s6:w.heap.size+3≤w6.heap.size
theorem BS.step {w w6 W W':World}{d:Cfg}{x1 x2:Array Value}(h:BS w w6 d x1 x2 W)(m:ae W W'):BS w w6 d x1 x2 W':=⟨m.block h.a1,m.block h.a2,m.block h.r1,m.block h.r2,h.more.trans m,h.s6⟩
theorem BS.put1 {w w6 W:World}{d:Cfg}{x1 x2:Array Value}(h:BS w w6 d x1 x2 W)(ys:Array Value):BS w w6 d ys x2 (W.setRow (w.heap.size+1) ys):=
 ⟨(setRow_other _ _ _ _ (by have:=h.s6;omega)).trans h.a1,(setRow_other _ _ _ _ (by have:=h.s6;omega)).trans h.a2,setRow_heap _ _ _ _ _ _ h.r1,(setRow_other _ _ _ _ (by omega)).trans h.r2,h.more.setRow _ _ (by omega),h.s6⟩
theorem BS.put2 {w w6 W:World}{d:Cfg}{x1 x2:Array Value}(h:BS w w6 d x1 x2 W)(ys:Array Value):BS w w6 d x1 ys (W.setRow (w.heap.size+2) ys):=
 ⟨(setRow_other _ _ _ _ (by have:=h.s6;omega)).trans h.a1,(setRow_other _ _ _ _ (by have:=h.s6;omega)).trans h.a2,(setRow_other _ _ _ _ (by omega)).trans h.r1,setRow_heap _ _ _ _ _ _ h.r2,h.more.setRow _ _ (by omega),h.s6⟩
theorem qz {w W:World}{g k n:Nat}{v:Value}{xs:List Int}{cs:Array Value}(h:Rw w.heap.size W v xs)(hk:∀g',v.ownBlock=some g'→g'≠k):Rw w.heap.size (W.setRow k cs) v xs:=by
 refine⟨h.1,?_⟩
 rcases h.2 with q|⟨g,cap,cur,h1,h2,h3,h4⟩
 ·exact .inl q
 ·exact .inr ⟨g,cap,cur,h1,h2,(setRow_other _ _ _ _ (hk g (by rw[h1];rfl))).trans h3,h4⟩
abbrev kQ:Array Value:= #[.int .i64 0,.int .i64 0,.int .i64 0,.int .i64 0,.int .i64 0,.int .i64 0,.int .i64 0,.int .i64 0,.int .i64 0,.int .i64 0,.int .i64 0]
abbrev fZ:Array Value:= #[.int .i64 0,.int .i64 0,.int .i64 0,.int .i64 0,.int .i64 0,.int .i64 0,.int .i64 0,.int .i64 0,.int .i64 0,.int .i64 0,.int .i64 0,.int .i64 0,.int .i64 0,.int .i64 0,.int .i64 0,.int .i64 0,.int .i64 0,.int .i64 0,.int .i64 0,.int .i64 0,.int .i64 0,.int .i64 0,.int .i64 0,.int .i64 0]
theorem EW {c:Cfg}(R:c.Ok)(y0 y1 y2 y3 y4 y5 y6 y7 y8 y9 y10:Int)(w:World)(hS:∀W,Calls Tryz.prog 68 #[.agg #[.int .i64 y0,.int .i64 y1,.int .i64 y2,.int .i64 y3,.int .i64 y4,.int .i64 y5,.int .i64 y6,.int .i64 y7,.int .i64 y8,.int .i64 y9,.int .i64 y10]] W (aP W (.agg #[.int .i64 c.wk,.int .i64 c.cp,.int .i64 c.pg,.int .i64 c.st,.int .i64 c.tr,.int .i64 c.wt,.int .i64 c.ck,.int .i64 c.pr,.int .i64 c.ca,.int .i64 c.bi,.int .i64 c.ba]))):
 Calls Tryz.prog 36 #[.agg #[.int .i64 y0,.int .i64 y1,.int .i64 y2,.int .i64 y3,.int .i64 y4,.int .i64 y5,.int .i64 y6,.int .i64 y7,.int .i64 y8,.int .i64 y9,.int .i64 y10]] w (H6 w (kP c)):=by
 have S:=rc R
 have SM:=hQQ (fun W=>vJ R y0 y1 y2 y3 y4 y5 y6 y7 y8 y9 y10 _ W hS rfl)
 generalize kP c=d at S SM⊢
 have RR:=hQQ S.ok
 obtain⟨wd0,wd1⟩:=S.words
 clear hS R S
 obtain⟨n,hn⟩:∃n:Nat,(n:Int)=d.words:=⟨d.words.toNat,by omega⟩
 obtain⟨i0,hi0,hz0,hz1,hz2⟩:=jf
 obtain⟨w3,e3,hb0,hb1,hb2,m3,s3⟩:=kO w (.cells #[.int .i64 y0,.int .i64 y1,.int .i64 y2,.int .i64 y3,.int .i64 y4,.int .i64 y5,.int .i64 y6,.int .i64 y7,.int .i64 y8,.int .i64 y9,.int .i64 y10] 23) (.cells fZ 28) (.cells kQ 73)
 have e4:((w.alloc (.cells #[.int .i64 y0,.int .i64 y1,.int .i64 y2,.int .i64 y3,.int .i64 y4,.int .i64 y5,.int .i64 y6,.int .i64 y7,.int .i64 y8,.int .i64 y9,.int .i64 y10] 23)).alloc (.cells #[.int .i64 0,.int .i64 0,.int .i64 0,.int .i64 0,.int .i64 0,.int .i64 0,.int .i64 0,.int .i64 0,.int .i64 0,.int .i64 0,.int .i64 0,.int .i64 0,.int .i64 0,.int .i64 0,.int .i64 0,.int .i64 0,.int .i64 0,.int .i64 0,.int .i64 0,.int .i64 0,.int .i64 0,.int .i64 0,.int .i64 0,.int .i64 0] 28)).alloc (.cells #[.int .i64 0,.int .i64 0,.int .i64 0,.int .i64 0,.int .i64 0,.int .i64 0,.int .i64 0,.int .i64 0,.int .i64 0,.int .i64 0,.int .i64 0] 73)=w3:=e3
 clear e3
 have H0:=hQQ hb0
 have H1:=hQQ hb1
 have H2:=hQQ hb2
 have M3:=hQQ m3
 clear hb0 hb1 hb2 m3
 go_enter Tryz.func36,Tryz.ntmps36
 go_wp2_with (refine sx rfl rfl rfl H0.o (by kernel_rfl) ?_)
 refine(SM.o _).mono ?_
 rintro e w4 ⟨rfl,m4⟩
 have H0:=hQQ (m4.block H0.o)
 have H1:=hQQ (m4.block H1.o)
 have H2:=hQQ (m4.block H2.o)
 have M4:=hQQ (M3.o.trans m4)
 have s4:w.heap.size+3≤w4.heap.size:=by have:=m4.size;omega
 clear m4
 go_wp2_with (first
  |(refine wpList_store_row rfl 23 _ _ rfl w.heap.size _ rfl rfl 23 _ H0.o (by kernel_rfl) rfl (gV d) ?_)
  |(refine sx rfl rfl rfl (setRow_heap _ _ _ _ _ _ H0.o) (by kernel_rfl) ?_))
 have K0:=hQQ (setRow_heap w4 w.heap.size _ d.cells _ _ H0.o)
 have K1:=hQQ ((setRow_other w4 w.heap.size (w.heap.size+1) d.cells (by omega)).trans H1.o)
 have K2:=hQQ ((setRow_other w4 w.heap.size (w.heap.size+2) d.cells (by omega)).trans H2.o)
 have M5:Hq (ae w (w4.setRow w.heap.size d.cells)):=hQQ (M4.o.setRow _ _ (Nat.le_refl _))
 have s5:w.heap.size+3≤(w4.setRow w.heap.size d.cells).heap.size:=by simpa using s4
 clear H0 H1 H2 M4 s4
 generalize w4.setRow w.heap.size d.cells=w5 at K0 K1 K2 M5 s5⊢
 refine(OU RR.o _).mono ?_
 rintro e w6 ⟨rfl,m6⟩
 have A1:=aW w6 fZ 28
 have L0:=hQQ (m6.block K0.o)
 have L1:=hQQ (m6.block K1.o)
 have L2:=hQQ (m6.block K2.o)
 have M6:=hQQ (M5.o.trans m6)
 have s6:w.heap.size+3≤w6.heap.size:=by have:=m6.size;omega
 clear K0 K1 K2 M5 s5 m6
 have m7:ae w6 ((w6.alloc (.cells fZ 28)).setRow w6.heap.size d.arr):=((ae.refl w6).alloc _).setRow _ _ (Nat.le_refl _)
 have B1:=hQQ (setRow_heap _ _ _ d.arr _ _ A1)
 have B0:=hQQ (m7.block L0.o)
 have B2:=hQQ (m7.block L1.o)
 have B3:=hQQ (m7.block L2.o)
 have M7:=hQQ (M6.o.trans m7)
 have s7:((w6.alloc (.cells fZ 28)).setRow w6.heap.size d.arr).heap.size=w6.heap.size+1:=by simp
 go_wp2_with (first
  |(refine wpList_store_row rfl 28 _ _ rfl w6.heap.size _ rfl rfl 28 fZ A1 (by kernel_rfl) rfl (mX d) ?_)
  |(refine sx rfl rfl rfl B0.o (by kernel_rfl) ?_)
  |((with_reducible refine BA ?_ (.tmp 15) ?_ d ?_ ?_);rfl;rfl;rfl)
  |(refine wpList_store_row rfl 73 _ _ rfl (w6.heap.size+1) _ rfl rfl 73 kQ (by rw[←s7];exact aW _ _ _) (by kernel_rfl) rfl (gV d) ?_))
 generalize hw7:World.setRow (World.alloc w6 _) w6.heap.size d.arr=w7
 have F7:w7.heap.size=w6.heap.size+1:=by rw[←hw7];exact s7
 have A7:=aW w7 kQ 73
 have m7':ae w6 w7:=by rw[←hw7];exact m7
 have G1:w7.heap[w6.heap.size]?=some (.cells d.arr 28 (0,0)):=by rw[←hw7];exact B1.o
 rw[F7] at A7
 generalize hw8:World.setRow (World.alloc w7 _) (w6.heap.size+1) d.cells=w8
 have m8:ae w7 w8:=by rw[←hw8];exact((ae.refl w7).alloc _).setRow _ _ (by omega)
 have m68:=m7'.trans m8
 have N1:=hQQ (m8.block G1)
 have N2:Hq (w8.heap[w6.heap.size+1]?=some (.cells d.cells 73 (0,0))):=hQQ (by rw[←hw8];exact setRow_heap _ _ _ _ _ _ A7)
 have N3:=hQQ (m68.block L1.o)
 have N4:=hQQ (m68.block L2.o)
 have M8:=hQQ (M6.o.trans m68)
 have s8:w6.heap.size+2≤w8.heap.size:=ac N2.o
 clear hw7 hw8 m7 m7' G1 A7 F7 m8 m68 B0 B1 B2 B3 M7 s7 A1 L0 L1 L2 M6 SM
 have HEN:=enters_of Tryz.func72 (by kernel_rfl) rfl
 have hmx:Tryz.prog.follows .mixedOrders=true:=by kernel_rfl
 have HBY:i0.bytes * n≤281474976710656:=by rw[hz2];omega
 have HML:n≤maxLen:=by unfold maxLen;omega
 have HMK:Hq (∀(W W3:World) (x1 x2:Array Value),BS w w6 d x1 x2 W→W3.ownsRow W.heap.size 3 1 (.slice (some ⟨W.heap.size,0,none⟩) n n) n (madeCells (Value.int .i64 0).cells (n * 1)).toList→W.grownBy W3 none→BS w w6 d x1 x2 W3∧Rw w.heap.size W3 (.slice (some ⟨W.heap.size,0,none⟩) n n) (cJ n)∧w.heap.size+3≤W.heap.size):=hQQ fun W W3 x1 x2 hb q1 q2=>by
  have m:ae W W3:=⟨q2.os,q2.tape,q2.output,q2.size,fun k hk _=>q2.block k hk (by simp)⟩
  have:=hb.s6
  have:=ac hb.a1
  rw[Bv] at q1
  refine⟨hb.step m,?_,by omega⟩
  unfold Rw
  rw[j9]
  exact qW q1 (by omega)
 refine aM (fun W=>∃x1 x2,BS w w6 d x1 x2 W) hmx ?_
 have BB:BS w w6 d fZ kQ (w8.drewN 1):=⟨N1.o,N2.o,N3.o,N4.o,M8.o.drewN 1,by omega⟩
 clear N1 N2 N3 N4 M8 wd0 wd1 hz2
 change dc _ _ _ _ _ _ _ _ (w8.drewN 1)
 generalize w8.drewN 1=W2 at BB⊢
 refine bH (fun a W=>a.eval (.tmp 2)=.pointer (some ⟨w.heap.size+1,0,none⟩)∧a.eval (.tmp 3)=.pointer (some ⟨w.heap.size+2,0,none⟩)∧∃g,a.eval (.tmp 4)=.slice (some ⟨g,0,none⟩) n n∧Rw w.heap.size W (.slice (some ⟨g,0,none⟩) n n) (cJ n)∧BS w w6 d d.arr d.cells W∧a.defers= []) (fun _=>False) [] (fun a W hd h=>h.elim) (fun _ _ _ _ _ h=>h) ?_ ?_
 ·rintro a W ⟨t2,t3,g,t4,RG,BB,hdf⟩
  go_wp2_with fail
  have h4:a.tmps.getD 4 undef=.slice (some ⟨g,0,none⟩) n n:=t4
  refine bodyPost_ret (zh Tryz.results36 _ _ (w.heap.size+1) (w.heap.size+2) _ _ t2 t3 (run_loadVar_row _ _ _ _ _ _ _ BB.r1 Tryz.underlying28 rfl (by kernel_rfl)) (run_loadVar_row _ _ _ _ _ _ _ BB.r2 Tryz.underlying73 rfl (by kernel_rfl))) hdf ?_
  exact⟨g,n,hn,by rw[h4],RG,BB.more⟩
 intro QQ FIN FIND FINQ
 refine Kp 22 [(5,.pointer (some ⟨w6.heap.size,0,none⟩)),(7,.pointer (some ⟨w6.heap.size+1,0,none⟩)),(2,.pointer (some ⟨w.heap.size+1,0,none⟩)),(3,.pointer (some ⟨w.heap.size+2,0,none⟩))] ⟨⟨Nat.le_of_ble_eq_true rfl,rfl⟩,?_⟩ (fun A HF=>?_)
 ·intro q hq
  simp only[List.mem_cons,List.not_mem_nil,or_false] at hq
  rcases hq with rfl|rfl|rfl|rfl<;>rfl
 refine fY (i:=0) (v:=.agg d.arr) (some 17) rfl rfl (by kernel_rfl) (by kernel_rfl) (by kernel_rfl) (fun c a w=>FINQ c a _ _ w) ⟨_,_,BB⟩ (by exact aC (C:=(fun W=>∃x1 x2,BS w w6 d x1 x2 W)) (ab rfl) 28 _ rfl (w6.heap.size) (HF.get 0 rfl) 28 _ _ _ (fun W hW=>by obtain⟨_,_,h⟩:=hW;exact h.a1) Tryz.underlying28 rfl (by kernel_rfl)) ?_
 replace HF:=HF.put 17 (.agg d.arr) (by decide) rfl
 generalize Act.put _ _ _=A at HF⊢
 refine fY (i:=1) (v:=.agg d.cells) (some 18) rfl rfl (by kernel_rfl) (by kernel_rfl) (by kernel_rfl) (fun c a w=>FINQ c a _ _ w) ⟨_,_,BB⟩ (by exact aC (C:=(fun W=>∃x1 x2,BS w w6 d x1 x2 W)) (ab rfl) 73 _ rfl (w6.heap.size+1) (HF.get 2 rfl) 73 _ _ _ (fun W hW=>by obtain⟨_,_,h⟩:=hW;exact h.a2) Tryz.underlying73 rfl (by kernel_rfl)) ?_
 replace HF:=HF.put 18 (.agg d.cells) (by decide) rfl
 generalize Act.put _ _ _=A at HF⊢
 refine fY (i:=2) (v:=.agg d.cells) (some 19) rfl rfl (by kernel_rfl) (by kernel_rfl) (by kernel_rfl) (fun c a w=>FINQ c a _ _ w) ⟨_,_,BB⟩ (by exact aC (C:=(fun W=>∃x1 x2,BS w w6 d x1 x2 W)) (ab rfl) 73 _ rfl (w6.heap.size+1) (HF.get 3 rfl) 73 _ _ _ (fun W hW=>by obtain⟨_,_,h⟩:=hW;exact h.a2) Tryz.underlying73 rfl (by kernel_rfl)) ?_
 replace HF:=HF.put 19 (.agg d.cells) (by decide) rfl
 generalize Act.put _ _ _=A at HF⊢
 refine bG (i:=3) (some 20) (by kernel_rfl) rfl (ab rfl) rfl (fun K hK=>?_)
 refine sW (v0:=.agg d.cells) rfl (HF.get 0 rfl) HEN ?_
 refine(H5 RR.o _).mono ?_
 rintro e W4 ⟨rfl,m2⟩
 have BB:=BB.step m2
 clear m2
 refine hK _ _ ⟨_,_,BB⟩ ?_
 clear hK K
 replace HF:=HF.put 20 (.int .i64 d.words) (by decide) rfl
 generalize Act.put _ _ _=A at HF⊢
 refine ke (i:=4) (j:=5) (some 21) none (by kernel_rfl) rfl rfl (ab rfl) (ab rfl) rfl rfl (fun K hK=>?_) (fun K hK=>?_)
 ·refine xz (n:=n) rfl (HF.get 0 rfl) hn.symm i0 (.int .i64 0) Tryz.underlying29 hi0 hz0 hz1 HBY HML ?_
  intro W3 q1 q2
  obtain⟨BB,RG,HGn⟩:=HMK.o _ _ _ _ BB q1 q2
  clear q1 q2
  generalize HGG:W4.heap.size=GG at RG HGn⊢
  refine hK _ _ ⟨_,_,BB⟩ ?_
  clear hK K
  replace HF:=HF.put 21 (.slice (some ⟨GG,0,none⟩) n n) (by decide) rfl
  generalize Act.put _ _ _=A at HF⊢
  refine bG (i:=5) none (by kernel_rfl) rfl (ab rfl) rfl (fun K hK=>?_)
  refine wp_store_row 28 _ _ rfl (w.heap.size+1) _ (HF.get 7 rfl) (HF.get 4 rfl) 28 fZ BB.r1 (by kernel_rfl) rfl (mX d) ?_
  have RG:=qz (k:=w.heap.size+1) (cs:=d.arr) (g:=0) (n:=0) RG (fun g' q=>by cases q;show GG≠_;omega)
  have BB:=BB.put1 d.arr
  refine hK _ _ ⟨_,_,BB⟩ ?_
  clear hK K
  rw[show ∀(a:Act) (v:Value),a.put none v=a from fun _ _=>rfl]
  generalize World.setRow _ _ _=W5 at BB RG⊢
  refine bG (i:=6) none (by kernel_rfl) rfl (ab rfl) rfl (fun K hK=>?_)
  refine wp_store_row 73 _ _ rfl (w.heap.size+2) _ (HF.get 8 rfl) (HF.get 3 rfl) 73 kQ BB.r2 (by kernel_rfl) rfl (gV d) ?_
  have RG:=qz (k:=w.heap.size+2) (cs:=d.cells) (g:=0) (n:=0) RG (fun g' q=>by cases q;show GG≠_;omega)
  have BB:=BB.put2 d.cells
  refine hK _ _ ⟨_,_,BB⟩ ?_
  clear hK K
  rw[show ∀(a:Act) (v:Value),a.put none v=a from fun _ _=>rfl]
  generalize World.setRow _ _ _=W6 at BB RG⊢
  refine bG (i:=7) (some 4) (by kernel_rfl) rfl (ab rfl) rfl (fun K hK=>?_)
  refine qu rfl (HF.get 0 rfl) ?_
  refine hK _ _ ⟨_,_,BB⟩ ?_
  clear hK K
  replace HF:=HF.put 4 (.slice (some ⟨GG,0,none⟩) n n) (by decide) rfl
  generalize Act.put _ _ _=A at HF⊢
  exact bI (by kernel_rfl) (FIN _ _ ⟨HF.get 8 rfl,HF.get 9 rfl,_,HF.get 0 rfl,RG,BB,HF.1.2⟩)
 ·refine wp_store_row 28 _ _ rfl (w.heap.size+1) _ (HF.get 6 rfl) (HF.get 3 rfl) 28 fZ BB.r1 (by kernel_rfl) rfl (mX d) ?_
  have BB:=BB.put1 d.arr
  refine hK _ _ ⟨_,_,BB⟩ ?_
  clear hK K
  rw[show ∀(a:Act) (v:Value),a.put none v=a from fun _ _=>rfl]
  generalize World.setRow _ _ _=W5 at BB⊢
  refine ke (i:=4) (j:=6) (some 21) none (by kernel_rfl) rfl rfl (ab rfl) (ab rfl) rfl rfl (fun K hK=>?_) (fun K hK=>?_)
  ·refine xz (n:=n) rfl (HF.get 0 rfl) hn.symm i0 (.int .i64 0) Tryz.underlying29 hi0 hz0 hz1 HBY HML ?_
   intro W3 q1 q2
   obtain⟨BB,RG,HGn⟩:=HMK.o _ _ _ _ BB q1 q2
   clear q1 q2
   generalize HGG:W5.heap.size=GG at RG HGn⊢
   refine hK _ _ ⟨_,_,BB⟩ ?_
   clear hK K
   replace HF:=HF.put 21 (.slice (some ⟨GG,0,none⟩) n n) (by decide) rfl
   generalize Act.put _ _ _=A at HF⊢
   refine bG (i:=6) none (by kernel_rfl) rfl (ab rfl) rfl (fun K hK=>?_)
   refine wp_store_row 73 _ _ rfl (w.heap.size+2) _ (HF.get 8 rfl) (HF.get 3 rfl) 73 kQ BB.r2 (by kernel_rfl) rfl (gV d) ?_
   have RG:=qz (k:=w.heap.size+2) (cs:=d.cells) (g:=0) (n:=0) RG (fun g' q=>by cases q;show GG≠_;omega)
   have BB:=BB.put2 d.cells
   refine hK _ _ ⟨_,_,BB⟩ ?_
   clear hK K
   rw[show ∀(a:Act) (v:Value),a.put none v=a from fun _ _=>rfl]
   generalize World.setRow _ _ _=W6 at BB RG⊢
   refine bG (i:=7) (some 4) (by kernel_rfl) rfl (ab rfl) rfl (fun K hK=>?_)
   refine qu rfl (HF.get 0 rfl) ?_
   refine hK _ _ ⟨_,_,BB⟩ ?_
   clear hK K
   replace HF:=HF.put 4 (.slice (some ⟨GG,0,none⟩) n n) (by decide) rfl
   generalize Act.put _ _ _=A at HF⊢
   exact bI (by kernel_rfl) (FIN _ _ ⟨HF.get 8 rfl,HF.get 9 rfl,_,HF.get 0 rfl,RG,BB,HF.1.2⟩)
  ·refine wp_store_row 73 _ _ rfl (w.heap.size+2) _ (HF.get 7 rfl) (HF.get 2 rfl) 73 kQ BB.r2 (by kernel_rfl) rfl (gV d) ?_
   have BB:=BB.put2 d.cells
   refine hK _ _ ⟨_,_,BB⟩ ?_
   clear hK K
   rw[show ∀(a:Act) (v:Value),a.put none v=a from fun _ _=>rfl]
   generalize World.setRow _ _ _=W6 at BB⊢
   refine bG (i:=4) (some 21) (by kernel_rfl) rfl (ab rfl) rfl (fun K hK=>?_)
   refine xz (n:=n) rfl (HF.get 0 rfl) hn.symm i0 (.int .i64 0) Tryz.underlying29 hi0 hz0 hz1 HBY HML ?_
   intro W3 q1 q2
   obtain⟨BB,RG,HGn⟩:=HMK.o _ _ _ _ BB q1 q2
   clear q1 q2
   generalize HGG:W6.heap.size=GG at RG HGn⊢
   refine hK _ _ ⟨_,_,BB⟩ ?_
   clear hK K
   replace HF:=HF.put 21 (.slice (some ⟨GG,0,none⟩) n n) (by decide) rfl
   generalize Act.put _ _ _=A at HF⊢
   refine bG (i:=7) (some 4) (by kernel_rfl) rfl (ab rfl) rfl (fun K hK=>?_)
   refine qu rfl (HF.get 0 rfl) ?_
   refine hK _ _ ⟨_,_,BB⟩ ?_
   clear hK K
   replace HF:=HF.put 4 (.slice (some ⟨GG,0,none⟩) n n) (by decide) rfl
   generalize Act.put _ _ _=A at HF⊢
   exact bI (by kernel_rfl) (FIN _ _ ⟨HF.get 8 rfl,HF.get 9 rfl,_,HF.get 0 rfl,RG,BB,HF.1.2⟩)
def gA (pg st x y:Int)(ws:List Int):Int×List Int:=if ce pg x y then rT pg st (spanV x y) (x / 4) 0 ws else(0,ws)
def H7 (pg st:Int)(ws:List Int):Int:=Hs pg st (aL pg).toNat 0 0 ws
section
variable {pg st:Int}{n:Nat}(H:TblIn pg st n)
include H
theorem zi (x y:Int):bQ n (fun _=>True) (gw pg st x y):=by
 unfold gw;split
 ·exact de (xq H _ _ 0 (by omega)) (fun _ _=>trivial)
 ·exact ai n trivial
theorem zj (x y:Int):bJ n (gw pg st x y) (gA pg st x y):=by
 unfold gw
 split
 ·rename_i h
  exact aU (xu H _ _ 0) (fun ws _=>by unfold gA;rw[if_pos h])
 ·rename_i h
  exact aU (au n 0) (fun ws _=>by unfold gA;rw[if_neg h])
end
structure Off (pg st:Int)(ws ws':List Int):Prop where
 len:ws'.length=ws.length
 ok:OkW ws→OkW ws'
 eq:∀i:Int,0≤i→(∀k,bR pg k=true→i≠dT pg st k)→wAt ws' i=wAt ws i
structure Pt (pg st:Int)(zs xs:List Int)(k:Nat):Prop where
 len:xs.length=zs.length
 eq:∀i:Int,0≤i→(∀j,bR pg j=true→(k:Int)≤j→i≠dT pg st j)→wAt xs i=wAt zs i
end Go.Proofs.YtddmeghbmdfgeaaGreatDoor
