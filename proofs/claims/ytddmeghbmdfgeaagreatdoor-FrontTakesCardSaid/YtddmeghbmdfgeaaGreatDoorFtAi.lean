/-
  The landed package pages: a page's words, seen by a view, and by one that has ended.
-/
import Derived.Test.YtddmeghbmdfgeaaGreatDoorFtAh
import Derived.Test.YtddmeghbmdfgeaaGreatDoorFtAa
import Derived.Test.YtddmeghbmdfgeaaGreatDoorFtAe
import Derived.Laws.Shifts
import Derived.Laws.Bits64
import Derived.Lib.Hide
import Derived.LoopTactic
import Derived.Outline
import Derived.Test.YtddmeghbmdfgeaaGreatDoorFtAd
import Derived.RangeFuncBox
import Derived.RangeFuncLeaves
import Derived.RangeFuncCalls
import Derived.Shelf.Abstract
import Derived.OwnWalkIn
import Derived.TacticsInMore
import Derived.LoopNIn
import Derived.LoopIn
import Derived.Maps.AppendAt
import Derived.Test.YtddmeghbmdfgeaaGreatDoorFtAg
import Derived.ProofKit
import Derived.LaidMore
import Derived.OpenShut
import Derived.Stop.Joined
set_option maxRecDepth 100000
set_option maxHeartbeats 8000000
set_option linter.all false
namespace Go.Proofs.YtddmeghbmdfgeaaGreatDoor
open Go.RowKit Go.Sort Go.Maps Go.Shelf
def bK (c:Cfg)(p:Nat)(q k:Int):Array Value:=(Value.pointer (some ⟨p,0,none⟩)::(c.arr.toList++ [.int .i64 q,.int .i64 k])).toArray
theorem Dd (c:Cfg):c.arr.toList.length=24:=rfl
theorem tj (c:Cfg)(p:Nat)(q k:Int):(bK c p q k)[0]?=some (.pointer (some ⟨p,0,none⟩)):=by simp[bK]
theorem tk (c:Cfg)(p:Nat)(q k:Int):(bK c p q k)[25]?=some (.int .i64 q):=by
 have h:=Dd c
 unfold bK
 generalize c.arr.toList=l at h⊢
 rw[List.getElem?_toArray,show(25:Nat)=24+1 from rfl,List.getElem?_cons_succ,List.getElem?_append_right (by omega),h]
 rfl
theorem tn (c:Cfg)(p:Nat)(q k:Int):(bK c p q k)[26]?=some (.int .i64 k):=by
 have h:=Dd c
 unfold bK
 generalize c.arr.toList=l at h⊢
 rw[List.getElem?_toArray,show(26:Nat)=25+1 from rfl,List.getElem?_cons_succ,List.getElem?_append_right (by omega),h]
 rfl
theorem gT (c:Cfg)(p:Nat)(q k:Int):∀j,j<c.arr.size→(bK c p q k)[1+j]?=c.arr[j]? :=fun j hj=>by
 have hj:j<c.arr.toList.length:=by simpa using hj
 rw[←Array.getElem?_toList (xs:=c.arr)]
 unfold bK
 generalize c.arr.toList=l at hj⊢
 rw[List.getElem?_toArray,Nat.add_comm,List.getElem?_cons_succ,List.getElem?_append_left hj]
theorem i6 {P:Program}(w:World)(g off:Nat)(t ty:TypeId)(cs hs:Array Value)(fr:Nat×Nat)(d:TypeDesc)(hg:w.heap[g]?=some (.cells cs t fr))(hc:∀j,j<hs.size→cs[off+j]?=hs[j]?)
 (hu:P.underlying ty=some d) (hd:(match d with| .struct _| .array _ _=>true|_=>false)=true) (hi:(P.info? ty).map (·.size)=some hs.size):
 (loadVar ty ⟨g,off,none⟩).run P w=.ok (.agg hs) w:=by
 have hl:(loadCells ⟨g,off,none⟩ hs.toList.length).run P w=.ok hs.toList.toArray w :=
  run_loadCells_list (P:=P) w ⟨g,off,none⟩ hs.toList (fun j v hv=>by
   have hj:j<hs.size:=by have:=(List.getElem?_eq_some_iff.1 hv).1;simpa using this
   rw[js,cell_of_row w g (off+j) cs t fr hg,hc j hj]
   simpa using hv)
 cases hq:P.info? ty with
 |none=>simp[hq] at hi
 |some i =>
  have hs:i.size=hs.size:=by simpa [hq] using hi
  have hagg:(isAgg ty).run P w=.ok true w:=by
   unfold isAgg
   rw[Sem.run_bind,run_underlying hu w]
   cases d<;>simp_all
  simp only[Array.length_toList,Array.toArray_toList] at hl
  simp[loadVar,Sem.run_bind,hagg,sizeOf,typeInfo,hq,hs,hl]
theorem dA {P:Program}{ops:Array Oper}{a:Act}{o:Oper}{rest:List Oper}{C:World→Prop}{Q:Act→Prop}(hw:Region.wanted o (yielded ops a.tmps)=true)(ty:TypeId)(x:Operand)(ho:o.op=.load ty x)
 (g off:Nat) (hx:a.eval x=.pointer (some ⟨g,off,none⟩)) (t:TypeId) (cs hs:Array Value) (fr:Nat×Nat) (d:TypeDesc) (hg:∀W,C W→W.heap[g]?=some (.cells cs t fr)) (hc:∀j,j<hs.size→cs[off+j]?=hs[j]?)
 (hu:P.underlying ty=some d) (hd:(match d with| .struct _| .array _ _=>true|_=>false)=true) (hi:(P.info? ty).map (·.size)=some hs.size)
 (h:wpQuiet P ops C Q rest (a.put o.dst (.agg hs))):wpQuiet P ops C Q (o::rest) a:=by
 refine ox (.agg hs) hw (fun W hW=>?_) h
 unfold Oper.quietAt execOp
 simp only[ho,hx,Instr.loadAt,Instr.sureAddr,Sem.run_bind,Sem.run_pure,Result.andThen_ok,i6 W g off t ty cs hs fr d (hg W hW) hc hu hd hi]
 exact⟨rfl,rfl⟩
theorem i7 {P:Program}{ops:Array Oper}{rest:List Oper}{o:Oper}{a:Act}{w:World}{Q:Exit→Act→World→Prop}(hw:Region.wanted o (yielded ops a.tmps)=true)(ty:TypeId)(x:Operand)(ho:o.op=.load ty x)
 (g off:Nat) (hx:a.eval x=.pointer (some ⟨g,off,none⟩)) (t:TypeId) (cs hs:Array Value) (fr:Nat×Nat) (d:TypeDesc) (hg:w.heap[g]?=some (.cells cs t fr)) (hc:∀j,j<hs.size→cs[off+j]?=hs[j]?)
 (hu:P.underlying ty=some d) (hd:(match d with| .struct _| .array _ _=>true|_=>false)=true) (hi:(P.info? ty).map (·.size)=some hs.size)
 (h:wpList P ops Q rest (a.put o.dst (.agg hs)) w):wpList P ops Q (o::rest) a w :=
 dU hw fun K hK=>by
  unfold Oper.wp Oper.upon execOp
  simp only[ho,hx,Instr.loadAt,Instr.sureAddr,Sem.run_bind,Sem.run_pure,Result.andThen_ok,i6 w g off t ty cs hs fr d hg hc hu hd hi]
  exact hK _ _ h
theorem xh {c:Cfg}(R:c.Ok)(w:World)(q:Int):Calls Tryz.prog 108 #[.agg c.arr,.int .i64 q] w (aQ w (.int .i64 (dD c.pg c.st 2 q))):=Lo R w q
theorem tt {c:Cfg}(R:c.Ok)(w:World)(q:Int):Calls Tryz.prog 134 #[.agg c.arr,.int .i64 q] w (aQ w (.int .i64 (dD c.pg c.st 1 q))):=Gm R w q
theorem Ha {c:Cfg}(R:c.Ok){n:Nat}(H:PgIn c.pg c.st n)(F:Nat→Prop)(p:Nat)(kn:Int→Option Int)(D:List KV)(q k:Int)(hn:n≤10000)(hq:af c.pg q=true)(w:World)(hv:aF w F p kn D)(hk:OkK kn)(hD:cI n D):
 Calls Tryz.prog 82 #[.agg (bK c p q k)] w (aI w F p kn (fun x=> .int .i64 x) (cT (bA c.pg c.st q) kn D)):=by
 obtain⟨Rr,hRr⟩:∃Rr,cT (bA c.pg c.st q) kn D=Rr:=⟨_,rfl⟩
 rw[hRr]
 obtain⟨w1,e1,hl1,m1,s1⟩:=bg w (.cells (bK c p q k) 90)
 have MM:=hQQ m1
 have L0:=hQQ hl1
 have c0:=(show w1.cell? ⟨w.heap.size,0,none⟩=some (.pointer (some ⟨p,0,none⟩)) by rw[cell_of_row w1 _ _ _ _ _ hl1];exact tj c p q k)
 have c25:=(show w1.cell? ⟨w.heap.size,25,none⟩=some (.int .i64 q) by rw[cell_of_row w1 _ _ _ _ _ hl1];exact tk c p q k)
 have c26:=(show w1.cell? ⟨w.heap.size,26,none⟩=some (.int .i64 k) by rw[cell_of_row w1 _ _ _ _ _ hl1];exact tn c p q k)
 have nFl:¬F w.heap.size:=fun z=>by have:=hv.lt _ z;omega
 have M0:=m0Z (hv.more m1) hD
 have NEED:=ndZ (F:=F) (p:=p) (kn:=kn) (R:=Rr) (fun x:Int=>Value.int .i64 x) MM.o
 have DONE:=dnZ (F:=F) (p:=p) (n:=n) (kn:=kn) (R:=Rr) (fun x:Int=>Value.int .i64 x) MM.o
 have HK:=hQQ hk
 have HR:=hQQ R
 clear hl1 m1 hv hD hk R nFl
 have hb:=(cx H hq).2.2
 have YB:=hQQ (fun W=>by have:=xh HR.o W q;rw[C7 hq] at this;exact this)
 have HRr:=hQQ hRr
 have HB:=hQQ hb
 have pg2:=HR.o.pg2
 clear hRr hb hq
 go_enter Tryz.func82,Tryz.ntmps82
 go_wp2_with fail
 clear e1
 refine bI 7 (by kernel_rfl) (by kernel_rfl) ?_
 simp only[List.take_succ_cons,List.take_zero,List.drop_succ_cons,List.drop_zero]
 iterate 3
  with_reducible refine wpQuiet_step (fun K hK=>?_)
  go_simp
  first
  |(refine hK _ ?_;clear hK K)
  |(apply Exists.intro
    refine⟨fun W hW=>?_,hK _ ?_⟩
    first
    |(have c1':=hW.cell c0;go_simp;try rfl)
    clear hK K)
 refine dA rfl 28 _ rfl w.heap.size 1 rfl 90 _ c.arr _ _ (fun W hW=>hW.block L0.o) (gT c p q k) Tryz.underlying28 rfl (by kernel_rfl) ?_
 iterate 2
  with_reducible refine wpQuiet_step (fun K hK=>?_)
  go_simp
  first
  |(refine hK _ ?_;clear hK K)
  |(apply Exists.intro
    refine⟨fun W hW=>?_,hK _ ?_⟩
    first
    |(have c1':=hW.cell c25;go_simp;try rfl)
    clear hK K)
 iterate 1
  with_reducible refine wpQuiet_step (fun K hK=>?_)
  go_simp
  first
  |(refine hK _ ?_;clear hK K)
  |(apply Exists.intro
    refine⟨fun W hW=>?_,hK _ ?_⟩
    first
    |(go_at_call 108;exact Calls.more hW (YB.o W))
    |(go_simp;try rfl)
    clear hK K)
 refine wpQuiet_nil ?_
 intro w2 h2
 have M2:=hQQ (M0.o.more h2)
 clear h2 c0 c25 c26
 go_wp2_with fail
 refine(iK F p kn D (bA c.pg c.st q) w2 M2.o.view (by have:=HB.o;have:=M2.o.inv.len;unfold W64;omega)).mono ?_
 intro e w3 he
 rcases M2.o.step (ae.refl _) HK.o (a6 n HB.o.2.1) he with⟨a',hE,rfl,hd',ht',_⟩|⟨x3,D3,F3,hE,rfl,M3,hq3,_,_⟩
 ·exact⟨rfl,NEED.o a' w3 (HRr.o.symm.trans hE) hd' ht'⟩
 have FIN:=hQQ (DONE.o x3 w3 D3 F3 (HRr.o.symm.trans hE) M3)
 clear he hE M3
 go_wp2_with fail
 go_ret
 exact FIN.o
theorem De {c:Cfg}(R:c.Ok){n:Nat}(H:PgIn c.pg c.st n)(F:Nat→Prop)(p:Nat)(kn:Int→Option Int)(D:List KV)(q k b:Int)(hn:n≤10000)(hq:af c.pg q=true)(w:World)(hv:aF w F p kn D)(hb:dN kn D (bA c.pg c.st q)=some b):
 Calls Tryz.prog 82 #[.agg (bK c p q k)] w (aQ w (.int .i64 b)):=by
 obtain⟨w1,e1,hl1,m1,s1⟩:=bg w (.cells (bK c p q k) 90)
 have MM:=hQQ m1
 have L0:=hQQ hl1
 have c0:=(show w1.cell? ⟨w.heap.size,0,none⟩=some (.pointer (some ⟨p,0,none⟩)) by rw[cell_of_row w1 _ _ _ _ _ hl1];exact tj c p q k)
 have c25:=(show w1.cell? ⟨w.heap.size,25,none⟩=some (.int .i64 q) by rw[cell_of_row w1 _ _ _ _ _ hl1];exact tk c p q k)
 have c26:=(show w1.cell? ⟨w.heap.size,26,none⟩=some (.int .i64 k) by rw[cell_of_row w1 _ _ _ _ _ hl1];exact tn c p q k)
 have YB:=hQQ (fun W=>by have:=xh R W q;rw[C7 hq] at this;exact this)
 have HV:Hq (∀W,ae w1 W→aF W F p kn D):=hQQ fun W m=>(hv.more m1).more m
 have HB:=hQQ hb
 have PB:=hQQ (cx H hq).2.2
 clear hl1 m1 hv hb R H hq
 go_enter Tryz.func82,Tryz.ntmps82
 go_wp2_with fail
 clear e1
 refine bI 7 (by kernel_rfl) (by kernel_rfl) ?_
 simp only[List.take_succ_cons,List.take_zero,List.drop_succ_cons,List.drop_zero]
 iterate 3
  with_reducible refine wpQuiet_step (fun K hK=>?_)
  go_simp
  first
  |(refine hK _ ?_;clear hK K)
  |(apply Exists.intro
    refine⟨fun W hW=>?_,hK _ ?_⟩
    first
    |(have c1':=hW.cell c0;go_simp;try rfl)
    clear hK K)
 refine dA rfl 28 _ rfl w.heap.size 1 rfl 90 _ c.arr _ _ (fun W hW=>hW.block L0.o) (gT c p q k) Tryz.underlying28 rfl (by kernel_rfl) ?_
 iterate 2
  with_reducible refine wpQuiet_step (fun K hK=>?_)
  go_simp
  first
  |(refine hK _ ?_;clear hK K)
  |(apply Exists.intro
    refine⟨fun W hW=>?_,hK _ ?_⟩
    first
    |(have c1':=hW.cell c25;go_simp;try rfl)
    clear hK K)
 iterate 1
  with_reducible refine wpQuiet_step (fun K hK=>?_)
  go_simp
  first
  |(refine hK _ ?_;clear hK K)
  |(apply Exists.intro
    refine⟨fun W hW=>?_,hK _ ?_⟩
    first
    |(go_at_call 108;exact Calls.more hW (YB.o W))
    |(go_simp;try rfl)
    clear hK K)
 refine wpQuiet_nil ?_
 intro w2 h2
 have M2:=hQQ h2
 clear h2 c0 c25 c26
 go_wp2_with fail
 refine(np F p kn D _ b w2 (HV.o _ M2.o) (by have:=PB.o;unfold W64;omega) HB.o).mono ?_
 rintro e w3 ⟨rfl,m,rfl⟩
 have FIN:=hQQ ((MM.o.trans M2.o).drewN m)
 go_wp2_with fail
 go_ret
 exact⟨rfl,FIN.o⟩
theorem Hb {c:Cfg}(R:c.Ok)(p:Nat)(nd q k:Int)(w:World)(hd:bJ w p nd):
 Calls Tryz.prog 128 #[.agg (bK c p q k)] w (aQ w (.int .i64 0)):=by
 obtain⟨w1,e1,hl1,m1,s1⟩:=bg w (.cells (bK c p q k) 90)
 have MM:=hQQ m1
 have L0:=hQQ hl1
 have c0:=(show w1.cell? ⟨w.heap.size,0,none⟩=some (.pointer (some ⟨p,0,none⟩)) by rw[cell_of_row w1 _ _ _ _ _ hl1];exact tj c p q k)
 have c25:=(show w1.cell? ⟨w.heap.size,25,none⟩=some (.int .i64 q) by rw[cell_of_row w1 _ _ _ _ _ hl1];exact tk c p q k)
 have c26:=(show w1.cell? ⟨w.heap.size,26,none⟩=some (.int .i64 k) by rw[cell_of_row w1 _ _ _ _ _ hl1];exact tn c p q k)
 have YB:=hQQ (fun W=>tt R W q)
 have DD:Hq (∀W,ae w1 W→bJ W p nd):=hQQ fun W m=>(hd.keep m1 (fun q=>q)).keep m (fun q=>q)
 clear hl1 m1 hd R
 go_enter Tryz.func128,Tryz.ntmps128
 go_wp2_with fail
 clear e1
 refine bI 7 (by kernel_rfl) (by kernel_rfl) ?_
 simp only[List.take_succ_cons,List.take_zero,List.drop_succ_cons,List.drop_zero]
 iterate 3
  with_reducible refine wpQuiet_step (fun K hK=>?_)
  go_simp
  first
  |(refine hK _ ?_;clear hK K)
  |(apply Exists.intro
    refine⟨fun W hW=>?_,hK _ ?_⟩
    first
    |(have c1':=hW.cell c0;go_simp;try rfl)
    clear hK K)
 refine dA rfl 28 _ rfl w.heap.size 1 rfl 90 _ c.arr _ _ (fun W hW=>hW.block L0.o) (gT c p q k) Tryz.underlying28 rfl (by kernel_rfl) ?_
 iterate 2
  with_reducible refine wpQuiet_step (fun K hK=>?_)
  go_simp
  first
  |(refine hK _ ?_;clear hK K)
  |(apply Exists.intro
    refine⟨fun W hW=>?_,hK _ ?_⟩
    first
    |(have c1':=hW.cell c25;go_simp;try rfl)
    clear hK K)
 iterate 1
  with_reducible refine wpQuiet_step (fun K hK=>?_)
  go_simp
  first
  |(refine hK _ ?_;clear hK K)
  |(apply Exists.intro
    refine⟨fun W hW=>?_,hK _ ?_⟩
    first
    |(go_at_call 134;exact Calls.more hW (YB.o W))
    |(go_simp;try rfl)
    clear hK K)
 refine wpQuiet_nil ?_
 intro w2 h2
 have M2:=hQQ h2
 clear h2 c0 c25 c26
 go_wp2_with fail
 refine(vr p nd _ w2 (DD.o _ M2.o)).mono ?_
 rintro e w3 ⟨rfl,rfl⟩
 go_wp2_with fail
 go_ret
 exact⟨rfl,MM.o.trans M2.o⟩
def xi (w:Int):BitVec 64:=BitVec.ofInt 64 w
def eO (w:Int)(k:Nat):Bool:=(xi w).getLsbD k
def inR (i:Int):Bool:=decide (0≤i∧i<32)
def eP (w i:Int):Bool:=inR i && eO w i.toNat
def je (i:Int):Int:=if inR i then 2 ^ i.toNat else 0
def setV (w i:Int):Int:=if inR i then(xi w |||BitVec.twoPow 64 i.toNat).toInt else w
def clearV (w i:Int):Int:=if inR i then(xi w &&& ~~~ BitVec.twoPow 64 i.toNat).toInt else w
def endN (n:Int):Nat:=(min n 32).toNat
def onN (w:Int)(k:Nat):List Nat:=(List.range k).filter (eO w)
def dx (w n:Int):Int:=(onN w (endN n)).length
def yU (w:Int)(k:Nat):Int:=match (List.range k).find? (fun j=> !eO w j) with|some j=>(j:Int)|none=> -1
def bS (w n:Int):Int:=yU w (endN n)
theorem fg (i:Int):inR i=true↔0≤i∧i<32:=by simp[inR]
theorem xj {k:Nat}(h:k<32):inR (k:Int)=true:=by simp[inR];omega
theorem xm (n:Int):endN n≤32:=by unfold endN;omega
theorem oK (r:BitVec 64):IntKind.i64.wrap (r.toNat:Int)=r.toInt:=by
 have:=r.isLt
 rw[BitVec.toInt_eq_toNat_bmod]
 simp[IntKind.wrap,IntKind.bits,IntKind.signed,Int.bmod]
 omega
theorem pG {w:Int}(h0: -9223372036854775808≤w)(h1:w≤9223372036854775807):(xi w).toInt=w:=by
 rw[xi,BitVec.toInt_ofInt,Int.bmod]
 simp only[Nat.reducePow]
 split<;>omega
theorem yV (r:BitVec 64):xi r.toInt=r:=by rw[xi,BitVec.ofInt_toInt]
theorem tu (r:BitVec 64): -9223372036854775808≤r.toInt∧r.toInt≤9223372036854775807:=by
 have h1:=BitVec.le_toInt r
 have h2:=BitVec.toInt_lt (x:=r)
 constructor<;>omega
theorem Bd {k:Nat}(h:k<32):BitVec.ofInt 64 ((2:Int) ^ k)=BitVec.twoPow 64 k:=by
 rw[show((2:Int) ^ k)=((2 ^ k:Nat):Int) by simp,BitVec.ofInt_natCast]
 apply BitVec.eq_of_toNat_eq
 rw[BitVec.toNat_ofNat,BitVec.toNat_twoPow]
theorem Df:BitVec.ofInt 64 0=0#64:=by decide
theorem Hc (w i:Int):(bits .and .i64 w (je i) != 0)=eP w i:=by
 show(IntKind.i64.wrap ((BitVec.ofInt 64 w &&& BitVec.ofInt 64 (je i)).toNat:Int) != 0)=_
 rw[oK]
 unfold eP je
 cases hi:inR i with
 |false=>simp
 |true =>
  have hr:=(fg i).1 hi
  simp only[if_true,Bool.true_and]
  rw[Bd (by omega),BitVec.and_twoPow]
  unfold eO xi
  cases hb:(BitVec.ofInt 64 w).getLsbD i.toNat with
  |false=>simp
  |true =>
   simp only[if_true]
   simp only[bne_iff_ne,ne_eq]
   intro e
   have:=congrArg (BitVec.ofInt 64) e
   rw[BitVec.ofInt_toInt] at this
   have:=congrArg (fun x=>x.getLsbD i.toNat) this
   simp[BitVec.getLsbD_twoPow] at this
   omega
theorem J6 (w i:Int)(h0: -9223372036854775808≤w)(h1:w≤9223372036854775807):bits .or .i64 w (je i)=setV w i:=by
 show IntKind.i64.wrap ((BitVec.ofInt 64 w |||BitVec.ofInt 64 (je i)).toNat:Int)=_
 rw[oK]
 unfold setV je
 cases hi:inR i with
 |false =>
  rw[if_neg (by simp),if_neg (by simp),Df,BitVec.or_zero]
  exact pG h0 h1
 |true =>
  have hr:=(fg i).1 hi
  simp only[if_true]
  rw[Bd (by omega)];rfl
theorem yW (w i:Int)(h0: -9223372036854775808≤w)(h1:w≤9223372036854775807):bits .andNot .i64 w (je i)=clearV w i:=by
 show IntKind.i64.wrap ((BitVec.ofInt 64 w &&& ~~~ BitVec.ofInt 64 (je i)).toNat:Int)=_
 rw[oK]
 unfold clearV je
 cases hi:inR i with
 |false =>
  rw[if_neg (by simp),if_neg (by simp),Df,BitVec.not_zero,BitVec.and_allOnes]
  exact pG h0 h1
 |true =>
  have hr:=(fg i).1 hi
  simp only[if_true]
  rw[Bd (by omega)];rfl
theorem EA (w i:Int)(h0: -9223372036854775808≤w)(h1:w≤9223372036854775807): -9223372036854775808≤setV w i∧setV w i≤9223372036854775807:=by
 unfold setV;split
 ·exact tu _
 ·exact⟨h0,h1⟩
theorem rk (w i:Int)(h0: -9223372036854775808≤w)(h1:w≤9223372036854775807): -9223372036854775808≤clearV w i∧clearV w i≤9223372036854775807:=by
 unfold clearV;split
 ·exact tu _
 ·exact⟨h0,h1⟩
theorem rX {w i:Int}(hi:inR i=true)(k:Nat)(hk:k<64):eO (setV w i) k=(eO w k ||decide (i.toNat=k)):=by
 have hr:=(fg i).1 hi
 unfold eO setV
 rw[if_pos hi,yV,BitVec.getLsbD_or,BitVec.getLsbD_twoPow,decide_eq_true (show i.toNat<64 by omega),Bool.true_and]
theorem nB {w i:Int}(hi:inR i=true)(k:Nat)(hk:k<64):eO (clearV w i) k=(eO w k && !decide (i.toNat=k)):=by
 have hr:=(fg i).1 hi
 unfold eO clearV
 rw[if_pos hi,yV,BitVec.getLsbD_and,BitVec.getLsbD_not,BitVec.getLsbD_twoPow,decide_eq_true hk,decide_eq_true (show i.toNat<64 by omega),Bool.true_and,Bool.true_and]
theorem yX {a b:Int}(a0: -9223372036854775808≤a)(a1:a≤9223372036854775807)(b0: -9223372036854775808≤b)(b1:b≤9223372036854775807)
 (h:∀k,k<64→eO a k=eO b k):a=b:=by
 rw[←pG a0 a1,←pG b0 b1]
 congr 1
 apply BitVec.eq_of_getLsbD_eq
 exact h
theorem J7 {w i:Int}(hi:inR i=true):eP (setV w i) i=true:=by
 have hr:=(fg i).1 hi
 unfold eP;rw[rX hi _ (by omega)];simp[hi]
theorem vG {w i:Int}(hi:inR i=true):eP (clearV w i) i=false:=by
 have hr:=(fg i).1 hi
 unfold eP;rw[nB hi _ (by omega)];simp
theorem oe {w i k:Int}(hi:inR i=true)(hk:k≠i):eP (setV w i) k=eP w k:=by
 unfold eP
 cases hK:inR k with
 |false=>rfl
 |true =>
  have hr:=(fg i).1 hi
  have hr':=(fg k).1 hK
  rw[rX hi _ (by omega),decide_eq_false (by omega),Bool.or_false]
theorem lU {w i k:Int}(hi:inR i=true)(hk:k≠i):eP (clearV w i) k=eP w k:=by
 unfold eP
 cases hK:inR k with
 |false=>rfl
 |true =>
  have hr:=(fg i).1 hi
  have hr':=(fg k).1 hK
  rw[nB hi _ (by omega),decide_eq_false (by omega),Bool.not_false,Bool.and_true]
section
variable {w i:Int}(h0: -9223372036854775808≤w)(h1:w≤9223372036854775807)
include h0 h1
theorem Nx (hi:inR i=true)(hb:eP w i=false):clearV w i=w:=by
 have hr:=(fg i).1 hi
 have⟨s0,s1⟩:=rk w i h0 h1
 refine yX s0 s1 h0 h1 fun k hk=>?_
 rw[nB hi _ hk]
 by_cases q:i.toNat=k
 ·subst q;unfold eP at hb;simp[hi] at hb;simp[hb]
 ·simp[q]
theorem EB (hi:inR i=true)(hb:eP w i=true):setV (clearV w i) i=w:=by
 have hr:=(fg i).1 hi
 have⟨s0,s1⟩:=rk w i h0 h1
 have⟨t0,t1⟩:=EA (clearV w i) i s0 s1
 refine yX t0 t1 h0 h1 fun k hk=>?_
 rw[rX hi _ hk,nB hi _ hk]
 by_cases q:i.toNat=k
 ·subst q;unfold eP at hb;simp[hi] at hb;simp[hb]
 ·simp[q]
end
theorem pH (w:Int)(k:Nat):onN w (k+1)=onN w k++(if eO w k then [k] else []):=by
 unfold onN
 rw[List.range_succ,List.filter_append]
 congr 1
 cases h:eO w k<;>simp[h]
theorem nD {w:Int}{k j:Nat}(hj:j<k)(h0:eO w j=false)(h1:∀i,i<j→eO w i=true):yU w k=j:=by
 have:(List.range k).find? (fun i=> !eO w i)=some j:=by
  rw[List.find?_range_eq_some]
  exact⟨by simp[h0],by simpa using hj,fun i hi=>by simp[h1 i hi]⟩
 unfold yU;rw[this]
theorem vH {w:Int}{k:Nat}(h:∀i,i<k→eO w i=true):yU w k= -1:=by
 have:(List.range k).find? (fun i=> !eO w i)=none:=by
  rw[List.find?_range_eq_none]
  intro i hi;simp[h i hi]
 unfold yU;rw[this]
theorem EC (w:Int)(k:Nat):(yU w k= -1∧∀i,i<k→eO w i=true)∨∃j:Nat,j<k∧yU w k=j∧eO w j=false∧∀i,i<j→eO w i=true:=by
 induction k with
 |zero=>exact .inl ⟨rfl,fun i h=>by omega⟩
 |succ k ih =>
  rcases ih with⟨_,h⟩|⟨j,hj,_,h0,h1⟩
  ·cases hb:eO w k with
   |true =>
    have:∀i,i<k+1→eO w i=true:=fun i hi=>by
     by_cases q:i=k
     ·rw[q];exact hb
     ·exact h i (by omega)
    exact .inl ⟨vH this,this⟩
   |false=>exact .inr ⟨k,by omega,nD (by omega) hb h,hb,h⟩
  ·exact .inr ⟨j,by omega,nD (by omega) h0 h1,h0,h1⟩
theorem Mv {w:Int}{k:Nat}(h:∀i,i<k→eO w i=true):(onN w k).length=k:=by
 induction k with
 |zero=>rfl
 |succ k ih=>rw[pH,List.length_append,ih (fun i hi=>h i (by omega)),if_pos (h k (by omega))];rfl
theorem Mw {w i:Int}(hi:inR i=true)(hb:eO w i.toNat=false)(k:Nat)(hk:k≤32):(onN (setV w i) k).length=(onN w k).length+if i.toNat<k then 1 else 0:=by
 induction k with
 |zero=>rfl
 |succ k ih =>
  rw[pH,pH,List.length_append,List.length_append,ih (by omega),rX hi k (by omega)]
  by_cases q:i.toNat=k
  ·subst q
   rw[hb]
   simp
  ·rw[decide_eq_false q,Bool.or_false]
   have e:(if i.toNat<k+1 then 1 else 0)=(if i.toNat<k then 1 else 0):=by
    by_cases q2:i.toNat<k
    ·rw[if_pos q2,if_pos (show i.toNat<k+1 by omega)]
    ·rw[if_neg q2,if_neg (show ¬i.toNat<k+1 by omega)]
   rw[e];omega
theorem yY {x:Int}(h0: -9223372036854775808≤x)(h1:x≤9223372036854775807):IntKind.i64.wrap x=x:=by
 simp[IntKind.wrap,IntKind.bits,IntKind.signed];omega
theorem Ol {k:Nat}(h:k<32):1≤(2:Int) ^ k∧(2:Int) ^ k≤2147483648:=by
 have h1:(1:Nat)≤2 ^ k:=Nat.one_le_two_pow
 have h2:(2:Nat) ^ k≤2 ^ 31:=Nat.pow_le_pow_right (by omega) (by omega)
 have e:(2:Int) ^ k=((2 ^ k:Nat):Int):=by simp
 rw[e];omega
theorem Be (i:Int)(w:World):Calls Tryz.prog 107 #[.int .i64 i] w fun e w'=>e=.returned (.int .i64 (je i))∧w'=w:=by
 by_cases c0:i<0
 ·have d0:decide (i<0)=true:=by simpa using c0
  have e0:je i=0:=by unfold je;rw[if_neg (by simp[inR];omega)]
  have HE:=hQQ e0;clear e0
  go_enter Tryz.func107,Tryz.ntmps107
  go_wp2_with fail
  go_ret
  exact⟨by rw[HE.o];rfl,rfl⟩
 ·have d0:decide (i<0)=false:=by simpa using c0
  by_cases c1:32≤i
  ·have d1:decide (32≤i)=true:=by simpa using c1
   have e0:je i=0:=by unfold je;rw[if_neg (by simp[inR];omega)]
   have HE:=hQQ e0;clear e0
   go_enter Tryz.func107,Tryz.ntmps107
   go_wp2_with fail
   go_ret
   exact⟨by rw[HE.o];rfl,rfl⟩
  ·have d1:decide (32≤i)=false:=by simpa using c1
   obtain⟨k,rfl⟩:∃k:Nat,i=k:=⟨i.toNat,by omega⟩
   have hk:k<32:=by omega
   have pb:=Ol hk
   have e0:je (k:Int)=2 ^ k:=by unfold je;rw[if_pos (xj hk)];simp
   have HE:=hQQ e0;clear e0
   have hm:min k 64=k:=by omega
   have HM:=hQQ hm;clear hm
   have HW:=hQQ (yY (x:=2 ^ k) (by omega) (by omega))
   go_enter Tryz.func107,Tryz.ntmps107
   go_wp2_with fail
   go_ret
   exact⟨by rw[HE.o];rfl,rfl⟩
theorem Lw (x i:Int)(w:World):Calls Tryz.prog 81 #[.int .i64 x,.int .i64 i] w fun e w'=>e=.returned (.bool (eP x i))∧w'=w:=by
 have HE:=hQQ (Hc x i)
 go_enter Tryz.func81,Tryz.ntmps81
 go_wp2_with fail
 refine(Be i _).mono ?_
 rintro e w' ⟨rfl,rfl⟩
 go_wp2_with fail
 go_ret
 exact⟨by rw[←HE.o];rfl,rfl⟩
theorem Om (x i:Int)(h0: -9223372036854775808≤x)(h1:x≤9223372036854775807)(w:World):Calls Tryz.prog 142 #[.int .i64 x,.int .i64 i] w fun e w'=>e=.returned (.int .i64 (setV x i))∧w'=w:=by
 have HE:=hQQ (J6 x i h0 h1)
 go_enter Tryz.func142,Tryz.ntmps142
 go_wp2_with fail
 refine(Be i _).mono ?_
 rintro e w' ⟨rfl,rfl⟩
 go_wp2_with fail
 go_ret
 exact⟨by rw[←HE.o];rfl,rfl⟩
theorem J8 (x i:Int)(h0: -9223372036854775808≤x)(h1:x≤9223372036854775807)(w:World):Calls Tryz.prog 113 #[.int .i64 x,.int .i64 i] w fun e w'=>e=.returned (.int .i64 (clearV x i))∧w'=w:=by
 have HE:=hQQ (yW x i h0 h1)
 go_enter Tryz.func113,Tryz.ntmps113
 go_wp2_with fail
 refine(Be i _).mono ?_
 rintro e w' ⟨rfl,rfl⟩
 go_wp2_with fail
 go_ret
 exact⟨by rw[←HE.o];rfl,rfl⟩
theorem Mx {n:Int}{k:Nat}(h:k<endN n):(k:Int)<32∧(k:Int)<n:=by unfold endN at h;omega
theorem xo {x:Int}{k:Nat}(h:k<32):eP x k=eO x k:=by unfold eP;rw[xj h,Int.toNat_natCast,Bool.true_and]
attribute [local go_sem] Oper.semAt_some
theorem fB.setCell {a b:Nat}(w:World){c o:Nat}(v:Value)(ha:a≠c)(hb:b≠c):fB a b w (w.setCell ⟨c,o,none⟩ v):=
 ⟨Below.heap_setCell _ _ _ _ ha,Below.heap_setCell _ _ _ _ hb⟩
def cameUpTo (x:Int)(k:Nat):List (Nat×Bool):=(List.range k).map fun j=>(j,eO x j)
theorem nE (x:Int)(k:Nat):cameUpTo x (k+1)=cameUpTo x k++ [(k,eO x k)]:=by simp[cameUpTo,List.range_succ]
theorem rm (x:Int)(k:Nat):(cameUpTo x k).length=k:=by simp[cameUpTo]
theorem Hd (n:Nat)(hn:1≤n)(l Bm Bw:Nat)(x m:Int)(m0: -9223372036854775808≤m)(m1:m≤9223372036854775807)(J Jx:List (Nat×Bool)→World→Prop)
 (hY:∀pre y W,J pre W→pre.length<endN m→YieldAt Fence.wide (n-1) Tryz.prog l #[.int .i64 (y.1:Int),.bool y.2] W fun e W' =>
  (e=.returned (.bool true)∧J (pre++ [y]) W'∧fB Bm Bw W W')∨(e=.returned (.bool false)∧Jx (pre++ [y]) W'))
 (W:World) (hBm:W.cell? ⟨Bm,0,none⟩=some (.int .i64 m)) (hBw:W.cell? ⟨Bw,0,none⟩=some (.int .i64 x)) (h0:J [] W):
 CallsIn Fence.wide n Tryz.prog 162 #[.func (.yield l) #[] #[],.pointer (some ⟨Bm,0,none⟩),.pointer (some ⟨Bw,0,none⟩)] W fun e W'=>(∃v,e=.returned v) ∧
  ((∃ys,ys=cameUpTo x (endN m)∧J ys W')∨(∃pre,(∃k,k≤endN m∧pre=cameUpTo x k)∧Jx pre W')):=by
 have he:=xm m
 refine callsIn_of_wp Tryz.func162 rfl trivial ?_ rfl
 simp only[Tryz.ntmps162,List.size_toArray,List.length_cons,List.length_nil,Nat.reduceAdd,Nat.reduceSub,Array.replicate_succ,Array.replicate_zero,List.push_toArray,List.append_toArray,List.nil_append,List.cons_append]
 gi_wp2
 all_goals
  gi_loopw [7] (fun i wr=>∃k:Nat,k≤endN m∧i=.int .i64 k∧J (cameUpTo x k) wr∧fB Bm Bw W wr) (fun i _=>endN m-(intOf i).toNat)
  case atStart=>exact⟨0,Nat.zero_le _,rfl,h0,fB.refl _ _ _⟩
  case round =>
   obtain⟨k,hk,rfl,hJs,hnx⟩:=hrel
   by_cases hlt:k<endN m
   ·obtain⟨l1,l2⟩:=Mx hlt
    have hcw:wr.cell? ⟨Bw,0,none⟩=some (.int .i64 x):=hnx.cell2 hBw
    have HK:=hQQ (xo (x:=x) (show k<32 by omega))
    obtain⟨fn,tmps,assign,body,hy,hR⟩:=hY _ (k,eO x k) wr hJs (by rw[rm];exact hlt)
    dsimp only at hy
    gi_wp2_with (refine⟨trivial,?_⟩;gi_at_call 81;refine(callsIn_wide.2 (Lw x k _)).mono ?_;rw[HK.o];rintro e w' ⟨rfl,rfl⟩)
    refine hR.mono ?_
    rintro e W3 (⟨rfl,hJ3,hk3⟩|⟨rfl,hJx3⟩)
    ·gi_wp2
     go_roundw
     case rel=>exact⟨k+1,by omega,by simp,by rw[nE];exact hJ3,hnx.trans hk3⟩
     case measure=>simp[intOf];omega
    ·gi_wp2
     refine bodyPost_ret (results_none rfl _ _ _) rfl ?_
     exact⟨⟨_,rfl⟩,.inr ⟨_,⟨k+1,by omega,(nE _ _).symm⟩,hJx3⟩⟩
   ·have l3:k=endN m:=by omega
    have l4:(m≤32∧m≤(k:Int))∨(32≤m∧32≤(k:Int)):=by unfold endN at l3;omega
    rcases l4 with⟨l6,l5⟩|⟨l6,l5⟩
    ·gi_wp2
     go_end0
     exact⟨⟨_,rfl⟩,.inl ⟨_,rfl,by rw[←l3];exact hJs⟩⟩
    ·gi_wp2
     go_end0
     exact⟨⟨_,rfl⟩,.inl ⟨_,rfl,by rw[←l3];exact hJs⟩⟩
theorem Dg (n:Nat)(x m:Int)(w:World):
 CallsIn Fence.wide n Tryz.prog 154 #[.int .i64 x,.int .i64 m] w fun e w'=>e=.returned (.func (.func 162) #[] #[.pointer (some ⟨w.heap.size+1,0,none⟩),.pointer (some ⟨w.heap.size,0,none⟩)])∧w'=(w.alloc (.cells #[.int .i64 x] 3)).alloc (.cells #[.int .i64 m] 3):=by
 refine callsIn_of_wp Tryz.func154 rfl trivial ?_ rfl
 simp only[Tryz.ntmps154,List.size_toArray,List.length_cons,List.length_nil,Nat.reduceAdd,Nat.reduceSub,Array.replicate_succ,Array.replicate_zero,List.push_toArray,List.append_toArray,List.nil_append,List.cons_append]
 gi_wp2
 go_ret
 exact⟨rfl,rfl⟩
theorem tv (n:Nat)(hn:1≤n)(Bm Bw:Nat)(x m:Int)(m0: -9223372036854775808≤m)(m1:m≤9223372036854775807)(w:World)
 (hBm:w.cell? ⟨Bm,0,none⟩=some (.int .i64 m)) (hBw:w.cell? ⟨Bw,0,none⟩=some (.int .i64 x)):
 SeqStopsK Fence.wide n Tryz.prog 162 #[.pointer (some ⟨Bm,0,none⟩),.pointer (some ⟨Bw,0,none⟩)] (fun y:Nat×Bool=> #[Value.int .i64 (y.1:Int),Value.bool y.2]) (fB Bm Bw) (fun ys=>ys=cameUpTo x (endN m))
  (fun pre=>∃k,k≤endN m∧pre=cameUpTo x k) (endN m) w:=fun l J Jx W hW _ _ hY h0 =>
 Hd n hn l Bm Bw x m m0 m1 J Jx hY W ((hW.cell (p:=⟨Bm,0,none⟩) (eW hBm)).trans hBm) ((hW.cell (p:=⟨Bw,0,none⟩) (eW hBw)).trans hBw) h0
theorem Ka (x:Int)(k:Nat):((cameUpTo x k).filter fun y=>y.2).map (fun y=>y.1)=onN x k:=by
 induction k with
 |zero=>rfl
 |succ k ih =>
  rw[nE,List.filter_append,List.map_append,ih,pH]
  cases eO x k<;>rfl
def qN (pre:List (Nat×Bool)):Int:=((pre.filter fun y=>y.2).length:Int)
theorem He (pre:List (Nat×Bool))(k:Nat):qN (pre++ [(k,true)])=qN pre+1:=by simp[qN]
theorem Kb (pre:List (Nat×Bool))(k:Nat):qN (pre++ [(k,false)])=qN pre:=by simp[qN]
theorem Hf (pre:List (Nat×Bool)):0≤qN pre∧qN pre≤pre.length:=by
 have:=List.length_filter_le (fun y:Nat×Bool=>y.2) pre
 unfold qN;omega
theorem yZ (x n:Int):qN (cameUpTo x (endN n))=dx x n:=by
 unfold qN dx
 rw[←Ka,List.length_map]
theorem Kc (x n:Int)(n0: -9223372036854775808≤n)(n1:n≤9223372036854775807)(w:World):Calls Tryz.prog 148 #[.int .i64 x,.int .i64 n] w (aQ w (.int .i64 (dx x n))):=by
 suffices H:CallsIn Fence.wide 3 Tryz.prog 148 #[.int .i64 x,.int .i64 n] w fun e W'=>e=.returned (.int .i64 (dx x n))∧Below w.heap.size w W' from
  (callsIn_wide (n:=3)).1 (H.mono fun e W' ⟨he,hb⟩=>⟨he,kj hb⟩)
 have he:=xm n
 refine callsIn_of_wp_marks Tryz.func148 rfl trivial ?_ rfl
 simp only[Tryz.ntmps148,List.size_toArray,List.length_cons,List.length_nil,Nat.reduceAdd,Nat.reduceSub,Array.replicate_succ,Array.replicate_zero,List.push_toArray,List.append_toArray,List.nil_append,List.cons_append]
 gi_wp2_with (refine⟨trivial,?_⟩;gi_at_call 154;refine(Dg _ x n _).mono ?_;rintro e w' ⟨rfl,rfl⟩)
 have bC:=Boxed.new w 3 (.int .i64 0)
 have bX:=Boxed.new (w.alloc (.cells #[.int .i64 0] 3)) 3 (.int .i64 x)
 have bN:=Boxed.new ((w.alloc (.cells #[.int .i64 0] 3)).alloc (.cells #[.int .i64 x] 3)) 3 (.int .i64 n)
 simp only[World.size_alloc] at bX bN
 have hB0:Below w.heap.size w (((w.alloc (.cells #[.int .i64 0] 3)).alloc (.cells #[.int .i64 x] 3)).alloc (.cells #[.int .i64 n] 3)):=(((Below.refl _ w).alloc (Nat.le_refl _) _).alloc (by simp) _).alloc (by simp;omega) _
 refine wpIn_rangeFunc_ownG rfl (by omega) (gf:=162) (lb:=#[.pointer (some ⟨w.heap.size+1+1,0,none⟩),.pointer (some ⟨w.heap.size+1,0,none⟩)]) rfl trivial (enters_of Tryz.func162 (by kernel_rfl) rfl)
  (tv 2 (by omega) (w.heap.size+1+1) (w.heap.size+1) x n n0 n1 _ bN.cell (bX.alloc _).cell) (fun h k=>h.trans k) (sM (by simp) (by simp)) (Below.refl _ _) (fun _=>rfl)
  (fun pre W=>(W.cell? ⟨w.heap.size,0,none⟩=some (.int .i64 (qN pre))∧W.frozen? ⟨w.heap.size,0,none⟩=false)∧Below w.heap.size w W)
  (fun _ _ _=>False)
  (OwnFrom.and (Own.from (fun s A B row hs hg hr=>⟨cell_kept hs.1 hg hr,(frozen_kept hs.1 hg hr).trans hs.2⟩) _) (ownFrom_below (Nat.le_refl _) (by simp;omega)))
  (fun _ _ _ _ _ hs _ _=>hs)
  ⟨⟨((bC.alloc _).alloc _).cell,((bC.alloc _).alloc _).frozen⟩,hB0⟩
  (fun y=> { tmps:= #[.int .i64 x,.int .i64 n,undef,undef,.int .i64 0,.pointer (some ⟨w.heap.size,0,none⟩),undef,.bool y.2,.int .i64 x,.int .i64 n,.func (.func 162) #[] #[.pointer (some ⟨w.heap.size+1+1,0,none⟩),.pointer (some ⟨w.heap.size+1,0,none⟩)],.int .i64 (y.1:Int),.bool y.2,undef,undef,undef,undef],defers:= [] }) ?assign ?body ?done ?stop
 case assign =>
  intro l y W K hK
  gi_wp2
  exact hK
 case body =>
  rintro l pre ⟨j,b⟩ W ⟨⟨hc,hf⟩,hB⟩ hlt
  obtain⟨s0,s1⟩:=Hf pre
  cases b with
  |false =>
   gi_wp2
   exact⟨KeepsFrom.refl _ _,fB.refl _ _ _,⟨by rw[Kb];exact hc,hf⟩,hB⟩
  |true =>
   have HS:=hQQ (He pre j)
   generalize qN pre=S at hc s0 s1 HS
   gi_wp2
   exact⟨(KeepsOthers.setCell _ _ _).from _,fB.setCell _ _ (by omega) (by omega),⟨by rw[HS.o];exact World.cell?_setCell_same' _ _ _ (by rw[hc];rfl),by rw[World.frozen?_setCell];exact hf⟩,hB.setCell (p:=⟨w.heap.size,0,none⟩) (Nat.le_refl _) _⟩
 case done =>
  rintro D ys W hD rfl ⟨⟨hc,_⟩,hB⟩ hK
  rw[yZ] at hc
  gi_wp2
  refine⟨by simp,.inl ⟨_,_,rfl,run_takeDeferred hK,?_⟩⟩
  exact⟨_,results_tmp rfl _ _ _,rfl,hB.trans (belowK_b (w:=w) (Nat.le_refl _) W D _ _ (by simp at hD;omega) hK rfl rfl)⟩
 case stop =>
  rintro D c pre W _ _ h _
  exact h.elim
theorem Bf {x n:Int}(h:∀p∈cameUpTo x (endN n),p.2=true):bS x n= -1 :=
 vH fun i hi=>h (i,eO x i) (by simp only[cameUpTo,List.mem_map,List.mem_range];exact⟨i,hi,rfl⟩)
theorem Bg {x n:Int}{k:Nat}(hk:k≤endN n){ini:List (Nat×Bool)}{last:Nat×Bool}(e:cameUpTo x k=ini++ [last])(h:∀p∈ini,p.2=true)(hl:last.2=false):bS x n=(last.1:Int):=by
 obtain⟨k',rfl⟩:∃k',k=k'+1:=by
  cases k with
  |zero=>simp[cameUpTo] at e
  |succ k'=>exact⟨k',rfl⟩
 rw[nE] at e
 obtain⟨e1,e2⟩:=List.append_inj' e rfl
 have e3:(k',eO x k')=last:=by simpa using e2
 subst e1 e3
 exact nD (by omega) hl fun i hi=>h (i,eO x i) (by simp only[cameUpTo,List.mem_map,List.mem_range];exact⟨i,hi,rfl⟩)
theorem Kd (x n:Int)(n0: -9223372036854775808≤n)(n1:n≤9223372036854775807)(w:World):Calls Tryz.prog 141 #[.int .i64 x,.int .i64 n] w (aQ w (.int .i64 (bS x n))):=by
 suffices H:CallsIn Fence.wide 3 Tryz.prog 141 #[.int .i64 x,.int .i64 n] w fun e W'=>e=.returned (.int .i64 (bS x n))∧Below w.heap.size w W' from
  (callsIn_wide (n:=3)).1 (H.mono fun e W' ⟨he,hb⟩=>⟨he,kj hb⟩)
 refine callsIn_of_wp_marks Tryz.func141 rfl trivial ?_ rfl
 simp only[Tryz.ntmps141,List.size_toArray,List.length_cons,List.length_nil,Nat.reduceAdd,Nat.reduceSub,Array.replicate_succ,Array.replicate_zero,List.push_toArray,List.append_toArray,List.nil_append,List.cons_append]
 gi_wp2_with (refine⟨trivial,?_⟩;gi_at_call 154;refine(Dg _ x n _).mono ?_;rintro e w' ⟨rfl,rfl⟩)
 have bC:=Boxed.new w 3 (.int .i64 0)
 have bX:=Boxed.new (w.alloc (.cells #[.int .i64 0] 3)) 3 (.int .i64 x)
 have bN:=Boxed.new ((w.alloc (.cells #[.int .i64 0] 3)).alloc (.cells #[.int .i64 x] 3)) 3 (.int .i64 n)
 simp only[World.size_alloc] at bX bN
 have hB0:Below w.heap.size w (((w.alloc (.cells #[.int .i64 0] 3)).alloc (.cells #[.int .i64 x] 3)).alloc (.cells #[.int .i64 n] 3)):=(((Below.refl _ w).alloc (Nat.le_refl _) _).alloc (by simp) _).alloc (by simp;omega) _
 refine wpIn_rangeFunc_ownG rfl (by omega) (gf:=162) (lb:=#[.pointer (some ⟨w.heap.size+1+1,0,none⟩),.pointer (some ⟨w.heap.size+1,0,none⟩)]) rfl trivial (enters_of Tryz.func162 (by kernel_rfl) rfl)
  (tv 2 (by omega) (w.heap.size+1+1) (w.heap.size+1) x n n0 n1 _ bN.cell (bX.alloc _).cell) (fun h k=>h.trans k) (sM (by simp) (by simp)) (Below.refl _ _) (fun _=>rfl)
  (fun pre W=>((∀p∈pre,p.2=true)∧W.cell? ⟨w.heap.size,0,none⟩=some (.int .i64 0)∧W.frozen? ⟨w.heap.size,0,none⟩=false)∧Below w.heap.size w W)
  (fun c pre W=>(c=.ret∧∃ini last,pre=ini++ [last]∧(∀p∈ini,p.2=true)∧last.2=false∧W.cell? ⟨w.heap.size,0,none⟩=some (.int .i64 (last.1:Int)))∧Below w.heap.size w W)
  (OwnFrom.and (Own.from (fun s A B row hs hg hr=>⟨hs.1,cell_kept hs.2.1 hg hr,(frozen_kept hs.2.1 hg hr).trans hs.2.2⟩) _) (ownFrom_below (Nat.le_refl _) (by simp;omega)))
  (fun c=>OwnFrom.and (Own.from (fun s A B row hs hg hr=>by obtain⟨hc,ini,last,e1,e2,e3,e4⟩:=hs;exact⟨hc,ini,last,e1,e2,e3,cell_kept e4 hg hr⟩) _) (ownFrom_below (Nat.le_refl _) (by simp;omega)))
  ⟨⟨by simp,((bC.alloc _).alloc _).cell,((bC.alloc _).alloc _).frozen⟩,hB0⟩
  (fun y=> { tmps:= #[.int .i64 x,.int .i64 n,undef,undef,.pointer (some ⟨w.heap.size,0,none⟩),.int .i64 (y.1:Int),.bool y.2,.int .i64 x,.int .i64 n,.func (.func 162) #[] #[.pointer (some ⟨w.heap.size+1+1,0,none⟩),.pointer (some ⟨w.heap.size+1,0,none⟩)],.int .i64 (y.1:Int),.bool y.2,undef,undef,undef],defers:= [] }) ?assign ?body ?done ?stop
 case assign =>
  intro l y W K hK
  gi_wp2
  exact hK
 case body =>
  rintro l pre ⟨j,b⟩ W ⟨⟨hp,hcr,hfr⟩,hB⟩ hlt
  have HP:=hQQ hp
  clear hp
  cases b with
  |false =>
   gi_wp2
   exact⟨(KeepsOthers.setCell _ _ _).from _,⟨rfl,pre,(j,false),rfl,HP.o,rfl,World.cell?_setCell_same' _ _ _ (by rw[hcr];rfl)⟩,hB.setCell (p:=⟨w.heap.size,0,none⟩) (Nat.le_refl _) _⟩
  |true =>
   gi_wp2
   exact⟨KeepsFrom.refl _ _,fB.refl _ _ _,⟨fun p hp'=>(List.mem_append.1 hp').elim (HP.o p) (fun e=>by simp at e;subst e;rfl),hcr,hfr⟩,hB⟩
 case done =>
  rintro D ys W hD rfl ⟨⟨hne,hcr,hfr⟩,hB⟩ hK
  have HF:=hQQ (Bf hne)
  clear hne
  gi_wp2
  have hK':=(KeepsOthers.setCell W ⟨w.heap.size,0,none⟩ (.int .i64 (-1))).same D _ hK rfl
  refine⟨by simp,.inl ⟨_,_,rfl,run_takeDeferred hK',?_⟩⟩
  have hc5:=cell_kept (World.cell?_setCell_same' W ⟨w.heap.size,0,none⟩ (.int .i64 (-1)) (by rw[hcr];rfl)) (grownBy_putObj' _ D (.deferred none)) (fun r e=>by cases e;exact⟨_,hK',rfl⟩)
  refine⟨.int .i64 (-1),?_,by rw[HF.o],(hB.setCell (p:=⟨w.heap.size,0,none⟩) (Nat.le_refl _) _).trans (belowK_b (w:=w) (Nat.le_refl _) _ D _ _ (by simp at hD;omega) hK' rfl rfl)⟩
  simp[results,Tryz.f141,go_sem,hc5]
 case stop =>
  rintro D c pre W hD ⟨k,hk,rfl⟩ ⟨⟨rfl,ini,last,e1,e2,e3,hcr⟩,hB⟩ hK
  have HF:=hQQ (Bg hk e1 e2 e3)
  clear e1 e2 e3
  gi_wp2
  refine⟨by simp,.inl ⟨_,_,rfl,run_takeDeferred hK,?_⟩⟩
  have hc5:=cell_kept hcr (grownBy_putObj' _ D (.deferred none)) (fun r e=>by cases e;exact⟨_,hK,rfl⟩)
  refine⟨.int .i64 (last.1:Int),?_,by rw[HF.o],hB.trans (belowK_b (w:=w) (Nat.le_refl _) W D _ _ (by simp at hD;omega) hK rfl rfl)⟩
  simp[results,Tryz.f141,go_sem,hc5]
open Go.ChangeShapes Go.WideShapes Go.ChangeAt
def szV (c:Int):Int:=if c=0 then 1 else if c=1 then 2 else if c=2 then 4 else if c=3 then 8 else if c=4 then 16 else 0
def ax (c:Int):Int:=if c=0 then 32 else if c=1 then 16 else if c=2 then 8 else if c=3 then 4 else if c=4 then 2 else 0
def szT (k:Nat):Int:=2 ^ k
theorem xp {k:Nat}(h:k≤4):k=0∨k=1∨k=2∨k=3∨k=4:=by omega
theorem My {k:Nat}(h:k<8):k=0∨k=1∨k=2∨k=3∨k=4∨k=5∨k=6∨k=7:=by omega
theorem Dh {c:Int}(h:c<0∨4<c):szV c=0:=by
 unfold szV
 rw[if_neg (by omega),if_neg (by omega),if_neg (by omega),if_neg (by omega),if_neg (by omega)]
theorem za {c:Int}(h:c<0∨4<c):ax c=0:=by
 unfold ax
 rw[if_neg (by omega),if_neg (by omega),if_neg (by omega),if_neg (by omega),if_neg (by omega)]
theorem Ke {k:Nat}(h:k≤4):1≤szV k∧szV k≤16:=by
 rcases xp h with rfl|rfl|rfl|rfl|rfl<;>decide
theorem rn {k:Nat}(h:k≤4):(32:Int).tdiv (szV k)=ax k∧2≤ax k∧ax k≤32:=by
 rcases xp h with rfl|rfl|rfl|rfl|rfl<;>decide
theorem ED {c:Int}(h:0≤c∧c≤4):ax c=gj c:=by
 obtain⟨k,rfl⟩:∃k:Nat,c=k:=⟨c.toNat,by omega⟩
 rcases xp (show k≤4 by omega) with rfl|rfl|rfl|rfl|rfl<;>decide
theorem Hg (c:Int):0≤ax c∧ax c≤32:=by unfold ax; (repeat' split)<;>omega
theorem MD {k:Nat}(h:k<5):szT k=szV k:=by
 rcases xp (show k≤4 by omega) with rfl|rfl|rfl|rfl|rfl<;>rfl
def laidL {H : Type} : List (String × DataW H) := [("assart/class.sizes", Rows.laid_assart_class_sizes)]
theorem gSizes : Tryz.prog.globalNamed "assart/class.sizes" = some 0 := by kernel_rfl
theorem ME:(Tryz.prog.globals[0]?).map (·.type)=some 29:=by kernel_rfl
theorem Hh (os:Os)(args:Array Value):laidMetH Tryz.prog laidL ((World.doorLaid Tryz.prog 400 os).forCall (fun _ _=>0) ⟨#[],args,[]⟩).memory :=
 laidMetH_of_parts3 (fuel:=8) (laidMet_of_run' 8 (by kernel_rfl) (by kernel_rfl)) (by kernel_rfl) (by kernel_rfl)
def pI (W:World):Prop:=∃b o cap,W.cell? ⟨0,0,none⟩=some (.slice (some ⟨b,o,none⟩) 8 cap)∧8≤cap∧b<W.heap.size∧∀i:Nat,i<8→W.cell? ⟨b,o+i,none⟩=some (.int .i64 (szT i))
theorem Kf {W:World}(h:laidMetH Tryz.prog laidL W):pI W:=by
 rw[MakeChecks.laidMetH_plain _ _ _ (by kernel_rfl)] at h
 obtain⟨ps,⟨g0,t0,cs0,f0,p0,q0,hg0,ht0,hv0,hd0,hrest⟩,_,_⟩:=h
 obtain rfl:=Option.some.inj (gSizes.symm.trans hg0)
 obtain rfl:=Option.some.inj (ME.symm.trans ht0)
 have hcell:=World.var?_cell hg0 hv0 0
 rcases open_ints Tryz.underlying29 Tryz.underlying3 (by kernel_rfl) hd0 with⟨_,hx⟩|⟨⟨b,o,spot⟩,len,cap,zs,hcs,_,hlc,_,hzl,hx,hc,_⟩
 ·simp[Rows.laid_assart_class_sizes] at hx
 simp only[Prod.mk.injEq,Rows.laid_assart_class_sizes,DataW.slice.injEq] at hx
 obtain⟨⟨h1,h2⟩,_⟩:=hx
 have hcap:zs.length=cap:=by simpa using hzl
 have hz:zs.take len= [1,2,4,8,16,32,64,128]:=by
  have inj:∀l:List Int,([.lit (.int .i64 1),.lit (.int .i64 2),.lit (.int .i64 4),.lit (.int .i64 8),.lit (.int .i64 16),.lit (.int .i64 32),.lit (.int .i64 64),.lit (.int .i64 128)]:List (DataW Unit))=lits .i64 l→l= [1,2,4,8,16,32,64,128]:=by
   intro l hl
   match l with
   | []=>simp[lits] at hl
   | [a]=>simp[lits] at hl
   | [a,b]=>simp[lits] at hl
   | [a,b,c]=>simp[lits] at hl
   | [a,b,c,d]=>simp[lits] at hl
   | [a,b,c,d,e]=>simp[lits] at hl
   | [a,b,c,d,e,f]=>simp[lits] at hl
   | [a,b,c,d,e,f,g]=>simp[lits] at hl
   | [a,b,c,d,e,f,g,h]=>simp[lits] at hl;simp;omega
   |a::b::c::d::e::f::g::h::i::r=>simp[lits] at hl
  exact inj _ h1
 have hlen:len=8:=by
  have:=congrArg List.length hz
  simp at this
  omega
 subst hlen
 have hall:∀i:Nat,i<8→zs.getD i 0=szT i:=by
  intro i hi
  have h3:(zs.take 8).getD i 0=([1,2,4,8,16,32,64,128]:List Int).getD i 0:=by rw[hz]
  have h4:(zs.take 8).getD i 0=zs.getD i 0:=by simp[List.getD,List.getElem?_take,hi]
  rw[←h4,h3]
  rcases My hi with rfl|rfl|rfl|rfl|rfl|rfl|rfl|rfl<;>rfl
 have hlz:8≤zs.length:=by omega
 have hspot:spot=none:=by simpa [Addr.add] using World.cell?_spot (hc 0 (by omega))
 subst hspot
 have hcells:∀i:Nat,i<8→W.cell? ⟨b,o+i,none⟩=some (.int .i64 (szT i)):=fun i hi=>by
  rw[←js,hc i (by omega),hall i hi]
 refine⟨b,o,cap,?_,by omega,eW (hcells 0 (by omega)),hcells⟩
 rw[hcell]
 have:cs0= #[.slice (some ⟨b,o,none⟩) 8 cap]:=by cases cs0;simpa using hcs
 rw[this];rfl
theorem lz (c:Int)(w:World)(h:pI w):Calls Tryz.prog 26 #[.int .i64 c] w fun e w'=>e=.returned (.int .i64 (szV c))∧w'=w:=by
 by_cases hc:0≤c∧c<5
 ·obtain⟨k,rfl⟩:∃k:Nat,c=k:=⟨c.toNat,by omega⟩
  obtain⟨b,o,cap,h1,h2,h3,h4⟩:=h
  have hk:k<5:=by omega
  have x1:=h4 k (by omega)
  rw[MD hk] at x1
  have d0:decide ((k:Int)<0)=false:=by simp
  have d1:decide ((5:Int)≤(k:Int))=false:=by simp;omega
  have d1b:decide (5≤k)=false:=by simp;omega
  have d2:(k:Int)<8:=by omega
  have d3:k<8:=by omega
  clear h4 hc
  go_enter Tryz.func26,Tryz.ntmps26
  go_wp2_with fail
  go_ret
  exact⟨rfl,rfl⟩
 ·rw[Dh (by omega)]
  by_cases c0:c<0
  ·have d0:decide (c<0)=true:=by simp;omega
   go_enter Tryz.func26,Tryz.ntmps26
   go_wp2_with fail
   go_ret
   exact⟨rfl,rfl⟩
  ·have d0:decide (c<0)=false:=by simp;omega
   have d1:decide (5≤c)=true:=by simp;omega
   go_enter Tryz.func26,Tryz.ntmps26
   go_wp2_with fail
   go_ret
   exact⟨rfl,rfl⟩
theorem zc (c:Int)(w:World)(h:pI w):Calls Tryz.prog 91 #[.int .i64 c] w fun e w'=>e=.returned (.int .i64 (ax c))∧w'=w:=by
 by_cases hc:0≤c∧c<5
 ·obtain⟨k,rfl⟩:∃k:Nat,c=k:=⟨c.toNat,by omega⟩
  have hk:k≤4:=by omega
  have sb:=Ke hk
  obtain⟨s1,s2,s3⟩:=rn hk
  have d2:(szV k==0)=false:=by simp;omega
  have q0:IntKind.i64.wrap ((32:Int).tdiv (szV k))=ax k:=by rw[s1];exact aB (by omega) (by omega)
  clear s1 hc
  go_enter Tryz.func91,Tryz.ntmps91
  go_wp2_with fail
  refine(lz _ _ h).mono ?_
  rintro e w1 ⟨rfl,rfl⟩
  go_wp2_with fail
  go_ret
  exact⟨rfl,rfl⟩
 ·have HK:Hq (∀W,pI W→Calls Tryz.prog 26 #[.int .i64 c] W fun e w'=>e=.returned (.int .i64 0)∧w'=W):=fun W hW=>by
   have:=lz c W hW
   rwa [Dh (by omega)] at this
  rw[za (by omega)]
  go_enter Tryz.func91,Tryz.ntmps91
  go_wp2_with fail
  refine(HK.o _ h).mono ?_
  rintro e w1 ⟨rfl,rfl⟩
  go_wp2_with fail
  go_ret
  exact⟨rfl,rfl⟩
theorem EE (c:Int)(w:World)(h:pI w):Calls Tryz.prog 91 #[.int .i64 c] w fun e w'=>e=.returned (.int .i64 (ax c))∧w=w':=(zc c w h).mono fun e w' q=>⟨q.1,q.2.symm⟩
def dh (b:Nat)(W:World):Prop:=∃o cap,W.cell? ⟨0,0,none⟩=some (.slice (some ⟨b,o,none⟩) 8 cap)∧8≤cap∧b<W.heap.size∧∀i:Nat,i<8→W.cell? ⟨b,o+i,none⟩=some (.int .i64 (szT i))
theorem dh.sizes {b:Nat}{w:World}(h:dh b w):pI w:=⟨b,h⟩
theorem dh.lt {b:Nat}{w:World}(h:dh b w):b<w.heap.size:=by obtain⟨_,_,_,_,h,_⟩:=h;exact h
theorem dh.lt0 {b:Nat}{w:World}(h:dh b w):0<w.heap.size:=by obtain⟨_,_,h,_⟩:=h;exact eW h
theorem dh.keep {b:Nat}{w w':World}{S:Nat→Prop}(h:dh b w)(t:Turned S w w')(n0:¬S 0)(nb:¬S b):dh b w':=by
 have hc:∀k,¬S k→∀j v,w.cell? ⟨k,j,none⟩=some v→w'.cell? ⟨k,j,none⟩=some v:=fun k nk j v q=>by
  rw[World.cell?_of_block (w:=w) (t.block k (eW q) nk)];exact q
 obtain⟨o,cap,h1,h2,h3,h4⟩:=h
 exact⟨o,cap,hc _ n0 _ _ h1,h2,Nat.lt_of_lt_of_le h3 t.size,fun i hi=>hc _ nb _ _ (h4 i hi)⟩
theorem dh.more {b:Nat}{w w':World}(h:dh b w)(t:ae w w'):dh b w':=h.keep t (fun q=>q) (fun q=>q)
theorem zd {c:Cfg}(R:c.Ok){n:Nat}(H:cF c.pg c.st n)(F:Nat→Prop)(p:Nat)(kn:Int→Option Int)(D:List KV)(cl:Int)(w:World)(hv:aF w F p kn D)(hk:OkK kn)(hD:cI n D)(b:Nat)(hs:dh b w)(nF0:¬F 0)(nFb:¬F b):
 Calls Tryz.prog 53 #[.pointer (some ⟨p,0,none⟩),.agg c.arr,.int .i64 cl] w (aI w F p kn (fun x=> .int .i64 x) (fl c.pg c.st cl (ax cl).toNat 1 kn D)):=by
 obtain⟨Rr,hRr⟩:∃Rr,fl c.pg c.st cl (ax cl).toNat 1 kn D=Rr:=⟨_,rfl⟩
 rw[hRr]
 obtain⟨w1,e1,hl1,m1,s1⟩:=bg w (.cells c.arr 28)
 have nFl:¬F w.heap.size:=fun q=>by have:=hv.lt _ q;omega
 have MM:=hQQ m1
 have L0:=hQQ hl1
 have M0:=m0Z (hv.more m1) hD
 have KL:=klZ (p:=p) (kn:=kn) (n:=n) L0.o nFl
 have NEED:=ndZ (F:=F) (p:=p) (kn:=kn) (R:=Rr) (fun x:Int=>Value.int .i64 x) MM.o
 have DONE:=dnZ (F:=F) (p:=p) (n:=n) (kn:=kn) (R:=Rr) (fun x:Int=>Value.int .i64 x) MM.o
 have HK:=hQQ hk
 have HR:=hQQ R
 have HH:=hQQ H
 clear hl1 m1 hv hD hk R H nFl
 have SZ:Hq (∀wr D' F',MidV w1 wr F (fun _=>False) p kn n D' F'→pI wr):=hQQ fun wr D' F' h=>((hs.more MM.o).keep h.turn (by rintro(q|q);exact nF0 q;exact q) (by rintro(q|q);exact nFb q;exact q)).sizes
 have HRr:=hQQ hRr
 have hsl:=Hg cl
 clear hRr hs nF0 nFb
 go_enter Tryz.func53,Tryz.ntmps53
 go_wp2_with fail
 go_loopw [7] (fun v7 wr=>∃(f:Int) (k:Nat) (D':List KV) (F':Nat→Prop),v7=.int .i64 f∧1≤f∧f+k=ax cl+1∧MidV w1 wr F (fun _=>False) p kn n D' F'∧fl c.pg c.st cl k f kn D'=Rr) (fun v7 _=>(ax cl+1-intOf v7).toNat)
 case atStart=>exact⟨1,(ax cl).toNat,D,F,rfl,by omega,by omega,M0.o,HRr.o⟩
 case round =>
  clear HRr
  obtain⟨f,k,D',F',rfl,hf1,hfk,MI,hrest⟩:=hrel
  have MI:=hQQ MI
  go_wp2_with fail
  refine(EE cl wr (SZ.o _ _ _ MI.o)).mono ?_
  rintro e w9 ⟨rfl,rfl⟩
  match k with
  | 0 =>
    have d1:decide (f≤ax cl)=false:=by simp;omega
    have FIN:=hQQ (DONE.o (-1) _ D' F' hrest.symm MI.o)
    clear hrest
    go_wp2_with fail
    go_ret
    exact FIN.o
  |k+1 =>
   have d1:decide (f≤ax cl)=true:=by simp;omega
   have qf:IntKind.i64.wrap (f+1)=f+1:=aB (by omega) (by omega)
   have RI:=hQQ (show aq (ep c.pg (aH c.pg c.st cl f)) (fun q=>if q= -1 then fl c.pg c.st cl k (f+1) else az q) kn D'=Rr from hrest)
   clear hrest
   go_wp2_with fail
   refine aO (TrC c w.heap.size) (by kernel_rfl) ?_
   have MR:=hQQ (MI.o.more ((ae.refl wr).drewN 1))
   change dg _ _ _ _ _ _ _ _ (wr.drewN 1)
   generalize wr.drewN 1=wq at MR⊢
   generalize hA:Act.mk _ _=A
   have HF:AG 25 A [(0,.pointer (some ⟨p,0,none⟩)),(1,.agg c.arr),(2,.int .i64 cl),(4,.pointer (some ⟨w.heap.size,0,none⟩)),(7,.int .i64 f)]:=by
    rw[←hA];try simp only[pts,List.foldl]
    refine⟨⟨Nat.le_of_ble_eq_true rfl,rfl⟩,?_⟩
    intro z hz;simp only[List.mem_cons,List.not_mem_nil,or_false] at hz;rcases hz with rfl|rfl|rfl|rfl|rfl<;>rfl
   refine bL (fun a W=>∃(u15 u16 u17 u18 u19 u20:Value) (x9:Int) (D9:List KV) (F9:Nat→Prop),a=(pts A [(15,u15),(16,u16),(17,u17),(18,u18),(19,u19),(20,u20),(21,.int .i64 x9),(8,.int .i64 x9)])∧MidV w1 W F (fun _=>False) p kn n D9 F9∧(if x9= -1 then fl c.pg c.st cl k (f+1) else az x9) kn D9=Rr) (fun W=>aI w F p kn (fun x:Int=>Value.int .i64 x) Rr (.panicked (bB p)) W) (bB p) (fun a W hd h=>⟨hd,h⟩) (fun _ _ _ _ _ h=>h) ?_ ?_
   ·skip
    rintro a wa ⟨u15,u16,u17,u18,u19,u20,x9,D9,F9,rfl,MS,RS⟩
    rw[←hA];try simp only[pts,List.foldl]
    replace MS:=hQQ MS
    clear HF hA MR RI MI
    go_simp
    by_cases hx:x9= -1
    ·have d2:(x9 != -1)=false:=by simp[hx]
     rw[if_pos hx] at RS
     replace RS:=hQQ RS
     clear hx
     go_wp2_with fail
     go_roundw
     case rel=>exact⟨f+1,k,D9,F9,by go_num,by omega,by omega,MS.o,RS.o⟩
     case measure=>simp[intOf];omega
    ·have d2:(x9 != -1)=true:=by simp[hx]
     rw[if_neg hx] at RS
     have FIN:=hQQ (DONE.o x9 wa D9 F9 RS.symm MS.o)
     clear RS hx
     go_wp2_with fail
     go_ret
     exact FIN.o
   intro QQ FINE FIND FINQ
   clear hA
   refine tqM 0 15 0 rfl (.inl rfl) rfl (by kernel_rfl) FINQ (KL.o _ _ _ MR.o) HF fun A β1 HF=>?_
   refine tqC 1 16 (.agg c.arr) (by kernel_rfl) FINQ (KL.o _ _ _ MR.o) HF (by exact aD (ab rfl) 28 _ rfl w.heap.size (HF.get 4 rfl) 28 _ _ _ (fun W hW=>hW) Tryz.underlying28 rfl (by kernel_rfl)) fun A β2 HF=>?_
   refine tqC 2 17 (.agg c.arr) (by kernel_rfl) FINQ (KL.o _ _ _ MR.o) HF (by exact aD (ab rfl) 28 _ rfl w.heap.size (HF.get 5 rfl) 28 _ _ _ (fun W hW=>hW) Tryz.underlying28 rfl (by kernel_rfl)) fun A β3 HF=>?_
   refine tqM 3 18 5 rfl (.inl rfl) rfl (by kernel_rfl) FINQ (KL.o _ _ _ MR.o) HF fun A β4 HF=>?_
   refine tqM 4 19 8 rfl (.inl rfl) rfl (by kernel_rfl) FINQ (KL.o _ _ _ MR.o) HF fun A β5 HF=>?_
   refine tqO 5 20 (by kernel_rfl) HF fun K hK=>?_
   refine dE (v0:=.agg c.arr) (v1:=.int .i64 cl) (v2:=.int .i64 f) rfl (HF.get 2 rfl) (HF.get 1 rfl) (HF.get 0 rfl) (enters_of Tryz.func93 (by kernel_rfl) rfl) ?_
   refine(ly HR.o wq cl f).mono ?_
   rintro e w4 ⟨rfl,h4⟩
   have M4:=hQQ (MR.o.more h4)
   clear h4
   refine hK _ _ (KL.o _ _ _ M4.o) fun A β6 HF=>?_
   clear hK K
   refine tqO 6 21 (by kernel_rfl) HF fun K hK=>?_
   refine dE (v0:=.pointer (some ⟨p,0,none⟩)) (v1:=.agg c.arr) (v2:=.int .i64 (aH c.pg c.st cl f)) rfl (HF.get 5 rfl) (HF.get 4 rfl) (HF.get 0 rfl) (enters_of Tryz.func92 (by kernel_rfl) rfl) ?_
   refine(my HR.o HH.o F' p kn D' (aH c.pg c.st cl f) (bG HH.o).2.2 (bG HH.o).2.1 w4 M4.o.view HK.o M4.o.inv).mono ?_
   intro e w5 he
   rcases M4.o.step (ae.refl _) HK.o (dt HH.o (bG HH.o).2.1) he with⟨a',hE,rfl,hd',ht',_⟩|⟨x5,D5,F5,hE,rfl,M5,hq5,_,_⟩
   ·exact FIND _ _ HF.1.2 (NEED.o a' w5 (RI.o.symm.trans (ag hE)) hd' ht')
   have R5:=hQQ ((aj hE).symm.trans RI.o)
   have M5:=hQQ M5
   clear he hE
   refine hK _ _ (KL.o _ _ _ M5.o) fun A β7 HF=>?_
   clear hK K
   refine tqM 7 8 0 rfl (.inr rfl) rfl (by kernel_rfl) FINQ (KL.o _ _ _ M5.o) HF fun A β8 HF=>?_
   exact bU (by kernel_rfl) (FINE _ _ ⟨(.pointer (some ⟨p,0,none⟩)),(.agg c.arr),(.agg c.arr),(.int .i64 cl),(.int .i64 f),(.int .i64 (aH c.pg c.st cl f)),x5,D5,F5,by rw[← β8,← β7,← β6,← β5,← β4,← β3,← β2,← β1]<;>rfl,M5.o,R5.o⟩)
theorem Di {c:Cfg}(R:c.Ok){n:Nat}(H:PgIn c.pg c.st n)(F:Nat→Prop)(p:Nat)(kn:Int→Option Int)(D:List KV)(q k:Int)(hn:n≤10000)(hq:af c.pg q=true)(w:World)(hv:aF w F p kn D)(hk:OkK kn)(hD:cI n D):
 Calls Tryz.prog 128 #[.agg (bK c p q k)] w (aI w F p kn (fun x=> .int .i64 x) (cT (cA c.pg c.st q) kn D)):=by
 obtain⟨Rr,hRr⟩:∃Rr,cT (cA c.pg c.st q) kn D=Rr:=⟨_,rfl⟩
 rw[hRr]
 obtain⟨w1,e1,hl1,m1,s1⟩:=bg w (.cells (bK c p q k) 90)
 have MM:=hQQ m1
 have L0:=hQQ hl1
 have c0:=(show w1.cell? ⟨w.heap.size,0,none⟩=some (.pointer (some ⟨p,0,none⟩)) by rw[cell_of_row w1 _ _ _ _ _ hl1];exact tj c p q k)
 have c25:=(show w1.cell? ⟨w.heap.size,25,none⟩=some (.int .i64 q) by rw[cell_of_row w1 _ _ _ _ _ hl1];exact tk c p q k)
 have c26:=(show w1.cell? ⟨w.heap.size,26,none⟩=some (.int .i64 k) by rw[cell_of_row w1 _ _ _ _ _ hl1];exact tn c p q k)
 have nFl:¬F w.heap.size:=fun z=>by have:=hv.lt _ z;omega
 have M0:=m0Z (hv.more m1) hD
 have NEED:=ndZ (F:=F) (p:=p) (kn:=kn) (R:=Rr) (fun x:Int=>Value.int .i64 x) MM.o
 have DONE:=dnZ (F:=F) (p:=p) (n:=n) (kn:=kn) (R:=Rr) (fun x:Int=>Value.int .i64 x) MM.o
 have HK:=hQQ hk
 have HR:=hQQ R
 clear hl1 m1 hv hD hk R nFl
 have hb:=(cx H hq).2.1
 have YB:=hQQ (fun W=>by have:=tt HR.o W q;rw[sY hq] at this;exact this)
 have HRr:=hQQ hRr
 have HB:=hQQ hb
 have pg2:=HR.o.pg2
 clear hRr hb hq
 go_enter Tryz.func128,Tryz.ntmps128
 go_wp2_with fail
 clear e1
 refine bI 7 (by kernel_rfl) (by kernel_rfl) ?_
 simp only[List.take_succ_cons,List.take_zero,List.drop_succ_cons,List.drop_zero]
 iterate 3
  with_reducible refine wpQuiet_step (fun K hK=>?_)
  go_simp
  first
  |(refine hK _ ?_;clear hK K)
  |(apply Exists.intro
    refine⟨fun W hW=>?_,hK _ ?_⟩
    first
    |(have c1':=hW.cell c0;go_simp;try rfl)
    clear hK K)
 refine dA rfl 28 _ rfl w.heap.size 1 rfl 90 _ c.arr _ _ (fun W hW=>hW.block L0.o) (gT c p q k) Tryz.underlying28 rfl (by kernel_rfl) ?_
 iterate 2
  with_reducible refine wpQuiet_step (fun K hK=>?_)
  go_simp
  first
  |(refine hK _ ?_;clear hK K)
  |(apply Exists.intro
    refine⟨fun W hW=>?_,hK _ ?_⟩
    first
    |(have c1':=hW.cell c25;go_simp;try rfl)
    clear hK K)
 iterate 1
  with_reducible refine wpQuiet_step (fun K hK=>?_)
  go_simp
  first
  |(refine hK _ ?_;clear hK K)
  |(apply Exists.intro
    refine⟨fun W hW=>?_,hK _ ?_⟩
    first
    |(go_at_call 134;exact Calls.more hW (YB.o W))
    |(go_simp;try rfl)
    clear hK K)
 refine wpQuiet_nil ?_
 intro w2 h2
 have M2:=hQQ (M0.o.more h2)
 clear h2 c0 c25 c26
 go_wp2_with fail
 refine(iK F p kn D (cA c.pg c.st q) w2 M2.o.view (by have:=HB.o;have:=M2.o.inv.len;unfold W64;omega)).mono ?_
 intro e w3 he
 rcases M2.o.step (ae.refl _) HK.o (a6 n HB.o.2.1) he with⟨a',hE,rfl,hd',ht',_⟩|⟨x3,D3,F3,hE,rfl,M3,hq3,_,_⟩
 ·exact⟨rfl,NEED.o a' w3 (HRr.o.symm.trans hE) hd' ht'⟩
 have FIN:=hQQ (DONE.o x3 w3 D3 F3 (HRr.o.symm.trans hE) M3)
 clear he hE M3
 go_wp2_with fail
 go_ret
 exact FIN.o
theorem et (k:Int):0≤ax k∧ax k≤32:=by unfold ax; (repeat' split)<;>omega
theorem rY (k:Int){bt:Nat}(w:World)(h:dh bt w):Calls Tryz.prog 91 #[.int .i64 k] w (aQ w (.int .i64 (ax k))):=(zc k w ⟨bt,h⟩).mono fun e w' q=>⟨q.1,q.2▸ae.refl _⟩
theorem Dj (k:Int){bt:Nat}(w:World)(h:dh bt w):Calls Tryz.prog 80 #[.int .i64 k] w (aQ w (.bool (ax k != 0))):=by
 have HS:=hQQ h
 clear h
 go_enter Tryz.func80,Tryz.ntmps80
 go_wp2_with fail
 refine(rY k w HS.o).mono ?_
 obtain⟨z,hz⟩:∃z,ax k=z:=⟨_,rfl⟩
 rw[hz]
 have HZ:=hQQ hz
 clear hz
 rintro e w2 ⟨rfl,h2⟩
 have M2:=hQQ h2
 clear h2
 go_wp2_with fail
 go_ret
 exact⟨by rw[HZ.o];rfl,M2.o⟩
theorem MG (c:Cfg)(p:Nat)(q k b:Int){bt:Nat}(w:World)(h:dh bt w)(hb:0≤dx b (ax k)∧dx b (ax k)≤32):
 Calls Tryz.prog 132 #[.agg (bK c p q k),.int .i64 b] w (aQ w (.int .i64 (ax k-dx b (ax k)))):=by
 obtain⟨w1,e1,hl1,m1,s1⟩:=bg w (.cells (bK c p q k) 90)
 have MM:=hQQ m1
 have L0:=hQQ hl1
 have c0:=(show w1.cell? ⟨w.heap.size,0,none⟩=some (.pointer (some ⟨p,0,none⟩)) by rw[cell_of_row w1 _ _ _ _ _ hl1];exact tj c p q k)
 have c25:=(show w1.cell? ⟨w.heap.size,25,none⟩=some (.int .i64 q) by rw[cell_of_row w1 _ _ _ _ _ hl1];exact tk c p q k)
 have c26:=(show w1.cell? ⟨w.heap.size,26,none⟩=some (.int .i64 k) by rw[cell_of_row w1 _ _ _ _ _ hl1];exact tn c p q k)
 have HS:=hQQ (h.more m1)
 have hs:=et k
 have SC:=hQQ (fun W=>Kc b (ax k) (by omega) (by omega) W)
 have GS:=hQQ (rY k w1 HS.o)
 obtain⟨z,hz⟩:∃z,ax k=z:=⟨_,rfl⟩
 obtain⟨y,hy⟩:∃y,dx b (ax k)=y:=⟨_,rfl⟩
 rw[hy] at SC hb⊢
 rw[hz] at SC GS hs⊢
 have qs:IntKind.i64.wrap (z-y)=z-y:=aB (by omega) (by omega)
 clear hl1 m1 h hz hy hs hb
 go_enter Tryz.func132,Tryz.ntmps132
 go_wp2_with fail
 clear e1 c0 c25 c26
 refine GS.o.mono ?_
 rintro e w2 ⟨rfl,h2⟩
 have M2:=hQQ h2
 clear h2
 go_wp2_with fail
 refine(SC.o w2).mono ?_
 rintro e w3 ⟨rfl,h3⟩
 have FIN:=hQQ (MM.o.trans (M2.o.trans h3))
 clear h3
 go_wp2_with fail
 go_ret
 exact⟨rfl,FIN.o⟩
theorem ze {c:Cfg}(R:c.Ok){n:Nat}(H:cF c.pg c.st n)(p:Nat)(nd q k was:Int)(gb wb:Nat)(w:World)(hd:bJ w p nd)(hg:w.heap[gb]?=some (.cells (bK c p q k) 90 (0,0)))(hw:w.heap[wb]?=some (.cells #[.int .i64 was] 3 (0,0)))(u:FrameMode):
 CallsD Tryz.prog 129 #[.pointer (some ⟨gb,0,none⟩),.pointer (some ⟨wb,0,none⟩)] u w (fun e u' w'=>u'=u∧aQ w (.tuple #[]) e w'):=by
 have L0:=hQQ hg
 have B0:=hQQ hw
 have c0:=(show w.cell? ⟨gb,0,none⟩=some (.pointer (some ⟨p,0,none⟩)) by rw[cell_of_row w _ _ _ _ _ hg];exact tj c p q k)
 have c25:=(show w.cell? ⟨gb,25,none⟩=some (.int .i64 q) by rw[cell_of_row w _ _ _ _ _ hg];exact tk c p q k)
 have c26:=(show w.cell? ⟨gb,26,none⟩=some (.int .i64 k) by rw[cell_of_row w _ _ _ _ _ hg];exact tn c p q k)
 have cw:=(aA hw).1
 have C0:=hQQ c0
 have C25:=hQQ c25
 have C26:=hQQ c26
 have DD:Hq (∀W,ae w W→bJ W p nd):=hQQ fun W m=>hd.keep m (fun q=>q)
 have HR:=hQQ R
 have HH:=hQQ H
 clear hg hw hd R H
 go_enter_d Tryz.func129,Tryz.ntmps129
 go_wp2_with (refine i7 rfl 28 _ rfl gb 1 rfl 90 _ c.arr _ _ L0.o (gT c p q k) Tryz.underlying28 rfl (by kernel_rfl) ?_)
 refine(Ex HR.o HH.o p nd q k was w (DD.o _ (ae.refl _))).mono ?_
 rintro e w2 ⟨rfl,h2⟩
 have M2:=hQQ h2
 have L2:=hQQ (h2.block L0.o)
 have C0:=hQQ (h2.cell C0.o)
 have C25:=hQQ (h2.cell C25.o)
 have C26:=hQQ (h2.cell C26.o)
 have CN:=hQQ (fun W (hW:ae w2 W)=>Hb HR.o p nd q k W (DD.o _ (M2.o.trans hW)))
 have LN:=hQQ (fun W (hW:ae w2 W)=>J4 HR.o HH.o p nd q k 0 W (DD.o _ (M2.o.trans hW)))
 obtain⟨z,hz⟩:∃z,(aH c.pg c.st k 0 != 0 && af c.pg q)=z:=⟨_,rfl⟩
 rw[hz] at LN
 clear h2 c0 c25 c26 cw hz
 go_wp2_with fail
 refine bQ (by kernel_rfl) (by kernel_rfl) ?_
 iterate 2
  with_reducible refine wpQuiet_step (fun K hK=>?_)
  go_simp
  first
  |(refine hK _ ?_;clear hK K)
  |(apply Exists.intro
    refine⟨fun W hW=>?_,hK _ ?_⟩
    first
    |(have c1':=hW.cell C0.o;go_simp;try rfl)
    clear hK K)
 iterate 1
  with_reducible refine wpQuiet_step (fun K hK=>?_)
  go_simp
  first
  |(refine hK _ ?_;clear hK K)
  |(apply Exists.intro
    refine⟨fun W hW=>?_,hK _ ?_⟩
    first
    |(go_simp;try rfl)
    clear hK K)
 refine dA rfl 28 _ rfl gb 1 rfl 90 _ c.arr _ _ (fun W hW=>hW.block L2.o) (gT c p q k) Tryz.underlying28 rfl (by kernel_rfl) ?_
 iterate 4
  with_reducible refine wpQuiet_step (fun K hK=>?_)
  go_simp
  first
  |(refine hK _ ?_;clear hK K)
  |(apply Exists.intro
    refine⟨fun W hW=>?_,hK _ ?_⟩
    first
    |(have c1':=hW.cell C25.o;have c2':=hW.cell C26.o;go_simp;try rfl)
    clear hK K)
 refine aP rfl 90 _ rfl gb rfl 90 _ _ _ (fun W hW=>hW.block L2.o) Tryz.underlying90 rfl (by kernel_rfl) ?_
 iterate 1
  with_reducible refine wpQuiet_step (fun K hK=>?_)
  go_simp
  first
  |(refine hK _ ?_;clear hK K)
  |(apply Exists.intro
    refine⟨fun W hW=>?_,hK _ ?_⟩
    first
    |(go_at_call 128;exact Calls.more hW (CN.o W hW))
    |(go_simp;try rfl)
    clear hK K)
 iterate 1
  with_reducible refine wpQuiet_step (fun K hK=>?_)
  go_simp
  first
  |(refine hK _ ?_;clear hK K)
  |(apply Exists.intro
    refine⟨fun W hW=>?_,hK _ ?_⟩
    first
    |(go_at_call 131;exact Calls.more hW (LN.o W hW))
    |(go_simp;try rfl)
    clear hK K)
 refine wpQuiet_nil ?_
 intro w5 h5
 have FIN:=hQQ (M2.o.trans h5)
 clear h5
 go_wp2_with fail
 go_end0
 exact⟨rfl,FIN.o⟩
theorem EF {pg st:Int}{n:Nat}(H:PgIn pg st n)(p m:Int):bZ n (fun b:Bool=>b=true→cm pg p m=true) (pA pg st p m):=
 aN (fun h=>d8 (vD H _ _) (fun _ _ _=>h)) (fun _=>ai n (fun h=>by cases h))
theorem MH {c:Cfg}(R:c.Ok){n:Nat}(H:PgIn c.pg c.st n)(hn:n≤10000)(F:Nat→Prop)(p:Nat)(kn:Int→Option Int)(D:List KV)(q m k:Int)(hq:W64 q)(hm:W64 m)(hk6:W64 k)(w:World)(hv:aF w F p kn D)(hk:OkK kn)(hD:cI n D):
 Calls Tryz.prog 153 #[.pointer (some ⟨p,0,none⟩),.agg c.arr,.int .i64 q,.int .i64 m,.int .i64 k] w (aI w F p kn (fun b=> .bool b) (jI c.pg c.st q m k kn D)):=by
 obtain⟨Rr,hRr⟩:∃Rr,jI c.pg c.st q m k kn D=Rr:=⟨_,rfl⟩
 rw[hRr]
 obtain⟨w1,e1,hl1,m1,s1⟩:=bg w (.cells c.arr 28)
 have nFl:¬F w.heap.size:=fun q=>by have:=hv.lt _ q;omega
 have MM:=hQQ m1
 have L0:=hQQ hl1
 have M0:=m0Z (hv.more m1) hD
 have KL:=klZ (p:=p) (kn:=kn) (n:=n) L0.o nFl
 have NEED:=ndZ (F:=F) (p:=p) (kn:=kn) (R:=Rr) (fun b:Bool=>Value.bool b) MM.o
 have DONE:=dnZ (F:=F) (p:=p) (n:=n) (kn:=kn) (R:=Rr) (fun b:Bool=>Value.bool b) MM.o
 have HK:=hQQ hk
 have HR:=hQQ R
 have HH:=hQQ H
 clear hl1 m1 hv hD hk R H nFl
 unfold jI at hRr
 have pg1:=HR.o.pg1
 have pg2:=HR.o.pg2
 cases hf:oH k m with
 |false =>
  rw[if_neg (by simp[hf])] at hRr
  have FIN:Hq (∀w2,ae w1 w2→aI w F p kn (fun b:Bool=>Value.bool b) Rr (.returned (.bool false)) w2):=hQQ fun w2 h=>DONE.o false w2 D F hRr.symm (M0.o.more h)
  clear hRr
  go_enter Tryz.func153,Tryz.ntmps153
  go_wp2_with fail
  refine(GZ k m _).mono ?_
  rw[hf]
  rintro e w2 ⟨rfl,h2⟩
  have F2:=hQQ (FIN.o w2 h2)
  clear h2
  go_wp2_with fail
  go_ret
  exact F2.o
 |true =>
  rw[if_pos hf] at hRr
  have HRr:=hQQ hRr
  clear hRr
  go_enter Tryz.func153,Tryz.ntmps153
  go_wp2_with fail
  refine(GZ k m _).mono ?_
  rw[hf]
  rintro e w2 ⟨rfl,h2⟩
  have M2:=hQQ (M0.o.more h2)
  have L2:=hQQ (KL.o _ _ _ M2.o)
  clear h2
  go_wp2_with (first|(refine aM rfl rfl rfl L2.o (by kernel_rfl) ?_)|(refine aM rfl rfl rfl L2.o (by kernel_rfl) ?_))
  refine(G5 HR.o HH.o F p kn D q m hq w2 M2.o.view HK.o M2.o.inv).mono ?_
  intro e w3 he
  rcases M2.o.step (ae.refl _) HK.o (EF HH.o _ _) he with⟨a',hE,rfl,hd',ht',_⟩|⟨x3,D3,F3,hE,rfl,M3,hq3,_,_⟩
  ·exact⟨rfl,NEED.o a' w3 (HRr.o.symm.trans (ag hE)) hd' ht'⟩
  have L3:=hQQ (KL.o _ _ _ M3)
  have R3:=hQQ ((aj hE).symm.trans HRr.o)
  have M3:=hQQ M3
  clear he hE
  cases x3 with
  |false =>
   have FIN:=hQQ (DONE.o false w3 D3 F3 R3.o.symm M3.o)
   clear R3
   go_wp2_with fail
   go_ret
   exact FIN.o
  |true =>
   obtain⟨t0,t1,t2⟩:=d6.1 (hq3 rfl)
   have R3':=hQQ (show aq (gO c.pg c.st q m) (fun _=>aq (lT c.pg c.st q k (if k=6 then m else 0)) (fun _=>aq (jd c.pg c.st 7 (m-1).toNat (q+1)) (fun _=>az true))) kn D3=Rr from R3.o)
   clear R3
   go_wp2_with (first|(refine aM rfl rfl rfl L3.o (by kernel_rfl) ?_)|(refine aM rfl rfl rfl L3.o (by kernel_rfl) ?_))
   refine(GQ HR.o HH.o.toTblIn hn F3 p kn D3 q m hq w3 M3.o.view HK.o M3.o.inv).mono ?_
   intro e w4 he
   rcases M3.o.step (ae.refl _) HK.o (pC HH.o _ _) he with⟨a',hE,rfl,hd',ht',_⟩|⟨x4,D4,F4,hE,rfl,M4,hq4,_,_⟩
   ·exact⟨rfl,NEED.o a' w4 (R3'.o.symm.trans (ag hE)) hd' ht'⟩
   have L4:=hQQ (KL.o _ _ _ M4)
   have R4:=hQQ ((aj hE).symm.trans R3'.o)
   have M4:=hQQ M4
   clear he hE
   by_cases h6:k=6
   ·have e6:(k==6)=true:=by simp[h6]
    have R4:=hQQ (by have:=R4.o;rwa [if_pos h6] at this)
    have hx6:=hm
    clear h6
    have qp:IntKind.i64.wrap (q+1)=q+1:=aB (by omega) (by omega)
    have qe:IntKind.i64.wrap (q+m)=q+m:=aB (by omega) (by omega)
    have hpg0:af c.pg q=true:=ay.2 ⟨by omega,by omega⟩
    go_wp2_with (first|(refine aM rfl rfl rfl L4.o (by kernel_rfl) ?_)|(refine aM rfl rfl rfl L4.o (by kernel_rfl) ?_))
    refine(yT HR.o HH.o hn F4 p kn D4 q k m hpg0 hk6 hx6 w4 M4.o.view HK.o M4.o.inv).mono ?_
    intro e w5 he
    rcases M4.o.step (ae.refl _) HK.o (kH HH.o hpg0 hk6 hx6) he with⟨a',hE,rfl,hd',ht',_⟩|⟨x5,D5,F5,hE,rfl,M5,hq5,_,_⟩
    ·exact⟨rfl,NEED.o a' w5 (R4.o.symm.trans (ag hE)) hd' ht'⟩
    have L5:=hQQ (KL.o _ _ _ M5)
    have R5:=hQQ ((aj hE).symm.trans R4.o)
    have M5:=hQQ M5
    clear he hE
    have START:=hQQ (And.intro M5.o R5.o)
    clear R5 M5 L5 R4 M4 L4
    go_wp2_with fail
    go_loopw [12] (fun v wr=>∃(i:Nat) (D':List KV) (F':Nat→Prop),v=.int .i64 (q+1+(i:Int))∧(i:Int)≤m-1∧MidV w1 wr F (fun _=>False) p kn n D' F'∧aq (jd c.pg c.st 7 ((m-1).toNat-i) (q+1+(i:Int))) (fun _=>az true) kn D'=Rr) (fun v _=>(q+m-intOf v).toNat)
    case atStart=>exact⟨0,D5,F5,by simp,by omega,START.o.1,by simpa using START.o.2⟩
    case round =>
     clear START
     obtain⟨i,D',F',rfl,hi,MI,hrest⟩:=hrel
     have MI:=hQQ MI
     have LI:=hQQ (KL.o _ _ _ MI.o)
     by_cases hlt:(i:Int)<m-1
     ·have d3:decide (q+1+(i:Int)<q+m)=true:=by simp;omega
      have q3:IntKind.i64.wrap (q+1+(i:Int)+1)=q+1+(i:Int)+1:=aB (by omega) (by omega)
      rw[show(m-1).toNat-i=((m-1).toNat-(i+1))+1 by omega,qM,cM] at hrest
      have RI:=hQQ hrest
      have hpg:af c.pg (q+1+(i:Int))=true:=ay.2 ⟨by omega,by omega⟩
      clear hrest
      go_wp2_with (first|(refine aM rfl rfl rfl LI.o (by kernel_rfl) ?_)|(refine aM rfl rfl rfl LI.o (by kernel_rfl) ?_))
      refine(yT HR.o HH.o hn F' p kn D' (q+1+(i:Int)) 7 0 hpg Db pF wr MI.o.view HK.o MI.o.inv).mono ?_
      intro e w8 he
      rcases MI.o.step (ae.refl _) HK.o (kH HH.o hpg Db pF) he with⟨a',hE,rfl,hd',ht',_⟩|⟨x8,D8,F8,hE,rfl,M8,hq8,_,_⟩
      ·exact⟨rfl,NEED.o a' w8 (RI.o.symm.trans (ag hE)) hd' ht'⟩
      have L8:=hQQ (KL.o _ _ _ M8)
      have R8:=hQQ ((aj hE).symm.trans RI.o)
      have M8:=hQQ M8
      clear he hE
      have NX:=hQQ (show aq (jd c.pg c.st 7 ((m-1).toNat-(i+1)) (q+1+(i:Int)+1)) (fun _=>az true) kn D8=Rr from R8.o)
      clear R8
      go_wp2_with fail
      go_roundw
      case rel=>exact⟨i+1,D8,F8,by go_num,by omega,M8.o,by rw[show q+1+((i+1:Nat):Int)=q+1+(i:Int)+1 by omega];exact NX.o⟩
      case measure=>simp[intOf];omega
     ·have him:q+1+(i:Int)=q+m:=by omega
      have d3:decide (q+1+(i:Int)<q+m)=false:=by simp;omega
      have FIN:=hQQ (DONE.o true wr D' F' (by rw[show((m-1).toNat-i)=0 by omega] at hrest;exact hrest.symm) MI.o)
      clear hrest
      go_wp2_with fail
      go_ret
      exact FIN.o
   ·have e6:(k==6)=false:=by simp[h6]
    have R4:=hQQ (by have:=R4.o;rwa [if_neg h6] at this)
    have hx6:=pF
    clear h6
    have qp:IntKind.i64.wrap (q+1)=q+1:=aB (by omega) (by omega)
    have qe:IntKind.i64.wrap (q+m)=q+m:=aB (by omega) (by omega)
    have hpg0:af c.pg q=true:=ay.2 ⟨by omega,by omega⟩
    go_wp2_with (first|(refine aM rfl rfl rfl L4.o (by kernel_rfl) ?_)|(refine aM rfl rfl rfl L4.o (by kernel_rfl) ?_))
    refine(yT HR.o HH.o hn F4 p kn D4 q k 0 hpg0 hk6 hx6 w4 M4.o.view HK.o M4.o.inv).mono ?_
    intro e w5 he
    rcases M4.o.step (ae.refl _) HK.o (kH HH.o hpg0 hk6 hx6) he with⟨a',hE,rfl,hd',ht',_⟩|⟨x5,D5,F5,hE,rfl,M5,hq5,_,_⟩
    ·exact⟨rfl,NEED.o a' w5 (R4.o.symm.trans (ag hE)) hd' ht'⟩
    have L5:=hQQ (KL.o _ _ _ M5)
    have R5:=hQQ ((aj hE).symm.trans R4.o)
    have M5:=hQQ M5
    clear he hE
    have START:=hQQ (And.intro M5.o R5.o)
    clear R5 M5 L5 R4 M4 L4
    go_wp2_with fail
    go_loopw [12] (fun v wr=>∃(i:Nat) (D':List KV) (F':Nat→Prop),v=.int .i64 (q+1+(i:Int))∧(i:Int)≤m-1∧MidV w1 wr F (fun _=>False) p kn n D' F'∧aq (jd c.pg c.st 7 ((m-1).toNat-i) (q+1+(i:Int))) (fun _=>az true) kn D'=Rr) (fun v _=>(q+m-intOf v).toNat)
    case atStart=>exact⟨0,D5,F5,by simp,by omega,START.o.1,by simpa using START.o.2⟩
    case round =>
     clear START
     obtain⟨i,D',F',rfl,hi,MI,hrest⟩:=hrel
     have MI:=hQQ MI
     have LI:=hQQ (KL.o _ _ _ MI.o)
     by_cases hlt:(i:Int)<m-1
     ·have d3:decide (q+1+(i:Int)<q+m)=true:=by simp;omega
      have q3:IntKind.i64.wrap (q+1+(i:Int)+1)=q+1+(i:Int)+1:=aB (by omega) (by omega)
      rw[show(m-1).toNat-i=((m-1).toNat-(i+1))+1 by omega,qM,cM] at hrest
      have RI:=hQQ hrest
      have hpg:af c.pg (q+1+(i:Int))=true:=ay.2 ⟨by omega,by omega⟩
      clear hrest
      go_wp2_with (first|(refine aM rfl rfl rfl LI.o (by kernel_rfl) ?_)|(refine aM rfl rfl rfl LI.o (by kernel_rfl) ?_))
      refine(yT HR.o HH.o hn F' p kn D' (q+1+(i:Int)) 7 0 hpg Db pF wr MI.o.view HK.o MI.o.inv).mono ?_
      intro e w8 he
      rcases MI.o.step (ae.refl _) HK.o (kH HH.o hpg Db pF) he with⟨a',hE,rfl,hd',ht',_⟩|⟨x8,D8,F8,hE,rfl,M8,hq8,_,_⟩
      ·exact⟨rfl,NEED.o a' w8 (RI.o.symm.trans (ag hE)) hd' ht'⟩
      have L8:=hQQ (KL.o _ _ _ M8)
      have R8:=hQQ ((aj hE).symm.trans RI.o)
      have M8:=hQQ M8
      clear he hE
      have NX:=hQQ (show aq (jd c.pg c.st 7 ((m-1).toNat-(i+1)) (q+1+(i:Int)+1)) (fun _=>az true) kn D8=Rr from R8.o)
      clear R8
      go_wp2_with fail
      go_roundw
      case rel=>exact⟨i+1,D8,F8,by go_num,by omega,M8.o,by rw[show q+1+((i+1:Nat):Int)=q+1+(i:Int)+1 by omega];exact NX.o⟩
      case measure=>simp[intOf];omega
     ·have him:q+1+(i:Int)=q+m:=by omega
      have d3:decide (q+1+(i:Int)<q+m)=false:=by simp;omega
      have FIN:=hQQ (DONE.o true wr D' F' (by rw[show((m-1).toNat-i)=0 by omega] at hrest;exact hrest.symm) MI.o)
      clear hrest
      go_wp2_with fail
      go_ret
      exact FIN.o
def lA (pg st k:Int):Prg Int:=if ax k=0 then az (-1) else aq (fl pg st k (ax k).toNat 1) fun x=>if x= -1 then aq (i5 pg st 1 1) fun y=>aq (jI pg st y 1 (k+1)) fun b=>az (if b then y else -1) else az x
theorem zg (pg st k:Int):bH (lA pg st k):=aG (ah _) (ar (mt _ _ _ _ _) (fun _=>aG (ar (te _ _ _ _) (fun _=>ar (AX _ _ _ _ _) (fun _=>ah _))) (ah _)))
theorem fx {k:Int}(h:ax k≠0):0≤k∧k≤4:=by unfold ax at h; (repeat' split at h)<;>first|omega|exact absurd rfl h
theorem vI:W64 1:=by unfold W64;omega
theorem oL {pg st:Int}{n:Nat}(H:cF pg st n)(k:Int):bZ n (fun q:Int=>q= -1∨af pg q=true) (lA pg st k):=by
 unfold lA
 refine aN (fun _=>ai n (.inl rfl)) (fun h=>aw (gg H _ _ _) (fun x hx=>aN (fun _=>aw (kG H.toPgIn _ _) (fun y hy=>aw (vE H.toPgIn _ _ _ ?_ vI) (fun b _=>ai n ?_))) (fun _=>ai n hx)))
 ·have:=fx h;unfold W64;omega
 ·by_cases e:y= -1
  ·left;split
   ·exact e
   ·rfl
  ·split
   ·exact .inr (ay.2 ⟨by omega,by omega⟩)
   ·exact .inl rfl
theorem Kg {c:Cfg}(R:c.Ok){n:Nat}(H:cF c.pg c.st n)(hn:n≤10000)(F:Nat→Prop)(p:Nat)(kn:Int→Option Int)(D:List KV)(k:Int)(w:World)(hv:aF w F p kn D)(hk:OkK kn)(hD:cI n D)(bt:Nat)(hs:dh bt w)(nF0:¬F 0)(nFb:¬F bt):
 Calls Tryz.prog 140 #[.pointer (some ⟨p,0,none⟩),.agg c.arr,.int .i64 k] w (aI w F p kn (fun x=> .int .i64 x) (lA c.pg c.st k kn D)):=by
 obtain⟨Rr,hRr⟩:∃Rr,lA c.pg c.st k kn D=Rr:=⟨_,rfl⟩
 rw[hRr]
 obtain⟨w1,e1,hl1,m1,s1⟩:=bg w (.cells c.arr 28)
 have nFl:¬F w.heap.size:=fun q=>by have:=hv.lt _ q;omega
 have MM:=hQQ m1
 have L0:=hQQ hl1
 have M0:=m0Z (hv.more m1) hD
 have KL:=klZ (p:=p) (kn:=kn) (n:=n) L0.o nFl
 have NEED:=ndZ (F:=F) (p:=p) (kn:=kn) (R:=Rr) (fun x:Int=>Value.int .i64 x) MM.o
 have DONE:=dnZ (F:=F) (p:=p) (n:=n) (kn:=kn) (R:=Rr) (fun x:Int=>Value.int .i64 x) MM.o
 have HK:=hQQ hk
 have HR:=hQQ R
 have HH:=hQQ H
 clear hl1 m1 hv hD hk R H nFl
 have SZ:Hq (∀wr D' F',MidV w1 wr F (fun _=>False) p kn n D' F'→dh bt wr):=hQQ fun wr D' F' h=>(hs.more MM.o).keep h.turn (by rintro(q|q);exact nF0 q;exact q) (by rintro(q|q);exact nFb q;exact q)
 have NF:Hq (∀wr D' F',MidV w1 wr F (fun _=>False) p kn n D' F'→¬F' 0∧¬F' bt):=hQQ fun wr D' F' h=>⟨h.off (hs.more MM.o).lt0 nF0,h.off (hs.more MM.o).lt nFb⟩
 unfold lA at hRr
 have pg2:=HR.o.pg2
 clear hs nF0 nFb
 go_enter Tryz.func140,Tryz.ntmps140
 go_wp2_with fail
 refine(Dj k w1 (SZ.o _ _ _ M0.o)).mono ?_
 rintro e w2 ⟨rfl,h2⟩
 have M2:=hQQ (M0.o.more h2)
 have L2:=hQQ (KL.o _ _ _ M2.o)
 clear h2
 by_cases hz:ax k=0
 ·rw[if_pos hz] at hRr
  have d0:(ax k != 0)=false:=by simp[hz]
  have FIN:=hQQ (DONE.o (-1) w2 D F hRr.symm M2.o)
  clear hRr hz
  go_wp2_with fail
  go_ret
  exact FIN.o
 rw[if_neg hz] at hRr
 have d0:(ax k != 0)=true:=by simpa using hz
 have hk4:=fx hz
 have q1:IntKind.i64.wrap (k+1)=k+1:=aB (by omega) (by omega)
 have HRr:=hQQ hRr
 clear hRr hz
 go_wp2_with (first|(refine aM rfl rfl rfl L2.o (by kernel_rfl) ?_)|(refine aM rfl rfl rfl L2.o (by kernel_rfl) ?_))
 refine(zd HR.o HH.o F p kn D k w2 M2.o.view HK.o M2.o.inv bt (SZ.o _ _ _ M2.o) (NF.o _ _ _ M2.o).1 (NF.o _ _ _ M2.o).2).mono ?_
 intro e w3 he
 rcases M2.o.step (ae.refl _) HK.o (gg HH.o _ _ _) he with⟨a',hE,rfl,hd',ht',_⟩|⟨x3,D3,F3,hE,rfl,M3,hq3,_,_⟩
 ·exact⟨rfl,NEED.o a' w3 (HRr.o.symm.trans (ag hE)) hd' ht'⟩
 have L3:=hQQ (KL.o _ _ _ M3)
 have R3:=hQQ ((aj hE).symm.trans HRr.o)
 have M3:=hQQ M3
 clear he hE
 by_cases ex:x3= -1
 ·have d1:(x3 != -1)=false:=by simp[ex]
  have R3:=hQQ (show aq (i5 c.pg c.st 1 1) (fun y=>aq (jI c.pg c.st y 1 (k+1)) fun b=>az (if b then y else -1)) kn D3=Rr from by have:=R3.o;rw[if_pos ex] at this;exact this)
  clear ex
  go_wp2_with (first|(refine aM rfl rfl rfl L3.o (by kernel_rfl) ?_)|(refine aM rfl rfl rfl L3.o (by kernel_rfl) ?_))
  refine(G8 HR.o HH.o.toPgIn F3 p kn D3 1 1 vI vI w3 M3.o.view HK.o M3.o.inv).mono ?_
  intro e w4 he
  rcases M3.o.step (ae.refl _) HK.o (kG HH.o.toPgIn _ _) he with⟨a',hE,rfl,hd',ht',_⟩|⟨x4,D4,F4,hE,rfl,M4,hq4,_,_⟩
  ·exact⟨rfl,NEED.o a' w4 (R3.o.symm.trans (ag hE)) hd' ht'⟩
  have L4:=hQQ (KL.o _ _ _ M4)
  have R4:=hQQ ((aj hE).symm.trans R3.o)
  have M4:=hQQ M4
  clear he hE
  have hw4:W64 x4:=by unfold W64;omega
  have HW4:=hQQ hw4
  go_wp2_with (first|(refine aM rfl rfl rfl L4.o (by kernel_rfl) ?_)|(refine aM rfl rfl rfl L4.o (by kernel_rfl) ?_))
  refine(MH HR.o HH.o.toPgIn hn F4 p kn D4 x4 1 (k+1) HW4.o vI (by unfold W64;omega) w4 M4.o.view HK.o M4.o.inv).mono ?_
  intro e w5 he
  rcases M4.o.step (ae.refl _) HK.o (vE HH.o.toPgIn _ _ _ (by unfold W64;omega) vI) he with⟨a',hE,rfl,hd',ht',_⟩|⟨x5,D5,F5,hE,rfl,M5,hq5,_,_⟩
  ·exact⟨rfl,NEED.o a' w5 (R4.o.symm.trans (ag hE)) hd' ht'⟩
  have L5:=hQQ (KL.o _ _ _ M5)
  have R5:=hQQ ((aj hE).symm.trans R4.o)
  have M5:=hQQ M5
  clear he hE
  cases x5 with
  |true =>
   have FIN:=hQQ (DONE.o x4 w5 D5 F5 R5.o.symm M5.o)
   go_wp2_with fail
   go_ret
   exact FIN.o
  |false =>
   have FIN:=hQQ (DONE.o (-1) w5 D5 F5 R5.o.symm M5.o)
   go_wp2_with fail
   go_ret
   exact FIN.o
 ·have d1:(x3 != -1)=true:=by simpa using ex
  have FIN:=hQQ (DONE.o x3 w3 D3 F3 (by have:=R3.o;rw[if_neg ex] at this;exact this.symm) M3.o)
  clear ex
  go_wp2_with fail
  go_ret
  exact FIN.o
def dQ (k b:Int):Int:=ax k-dx b (ax k)
def gU (pg st q k b:Int):Prg Unit:=if dQ k b=ax k then aq (mj pg st q) (fun _=>az ()) else aq (cU (bA pg st q) b) fun _=>aq (cU (cA pg st q) (dQ k b)) fun _=>az ()
theorem ro (pg st q k b:Int):bH (gU pg st q k b):=aG (ar (AY _ _ _) (fun _=>ah _)) (ar (c6 _ _) (fun _=>ar (c6 _ _) (fun _=>ah _)))
theorem Lx {c:Cfg}(R:c.Ok){n:Nat}(H:PgIn c.pg c.st n)(hn:n≤10000)(F:Nat→Prop)(p:Nat)(kn:Int→Option Int)(D:List KV)(q k b:Int)(hq:af c.pg q=true)(hb:W64 b)(hcb:0≤dx b (ax k)∧dx b (ax k)≤32)(w:World)(hv:aF w F p kn D)(hk:OkK kn)(hD:cI n D)(bt:Nat)(hs:dh bt w)(nF0:¬F 0)(nFb:¬F bt):
 Calls Tryz.prog 112 #[.agg (bK c p q k),.int .i64 b] w (aI w F p kn (fun _:Unit=> .tuple #[]) (gU c.pg c.st q k b kn D)):=by
 obtain⟨Rr,hRr⟩:∃Rr,gU c.pg c.st q k b kn D=Rr:=⟨_,rfl⟩
 rw[hRr]
 obtain⟨w1,e1,hl1,m1,s1⟩:=bg w (.cells (bK c p q k) 90)
 have MM:=hQQ m1
 have L0:=hQQ hl1
 have c0:=(show w1.cell? ⟨w.heap.size,0,none⟩=some (.pointer (some ⟨p,0,none⟩)) by rw[cell_of_row w1 _ _ _ _ _ hl1];exact tj c p q k)
 have c25:=(show w1.cell? ⟨w.heap.size,25,none⟩=some (.int .i64 q) by rw[cell_of_row w1 _ _ _ _ _ hl1];exact tk c p q k)
 have c26:=(show w1.cell? ⟨w.heap.size,26,none⟩=some (.int .i64 k) by rw[cell_of_row w1 _ _ _ _ _ hl1];exact tn c p q k)
 have nFl:¬F w.heap.size:=fun z=>by have:=hv.lt _ z;omega
 have L00:=hQQ hl1
 have SZ1:=hQQ (hs.more m1)
 have KP:Hq (∀wr D' F',MidV w1 wr F (fun _=>False) p kn n D' F'→wr.heap[w.heap.size]?=some (.cells (bK c p q k) 90 (0,0))∧dh bt wr):=hQQ fun wr D' F' h=>⟨fS h L00.o nFl (fun q=>q),SZ1.o.keep h.turn (by rintro(z|z);exact nF0 z;exact z) (by rintro(z|z);exact nFb z;exact z)⟩
 have nFl:¬F w.heap.size:=fun z=>by have:=hv.lt _ z;omega
 have M0:=m0Z (hv.more m1) hD
 have NEED:=ndZ (F:=F) (p:=p) (kn:=kn) (R:=Rr) (fun _:Unit=>Value.tuple #[]) MM.o
 have DONE:=dnZ (F:=F) (p:=p) (n:=n) (kn:=kn) (R:=Rr) (fun _:Unit=>Value.tuple #[]) MM.o
 have HK:=hQQ hk
 have HR:=hQQ R
 clear hl1 m1 hv hD hk R nFl
 have CC:Hq (∀W:World,W.heap[w.heap.size]?=some (.cells (bK c p q k) 90 (0,0))→W.cell? ⟨w.heap.size,0,none⟩=some (.pointer (some ⟨p,0,none⟩))∧W.cell? ⟨w.heap.size,25,none⟩=some (.int .i64 q)∧W.cell? ⟨w.heap.size,26,none⟩=some (.int .i64 k)):=hQQ fun W hl1 =>
  ⟨by rw[cell_of_row W _ _ _ _ _ hl1];exact tj c p q k,by rw[cell_of_row W _ _ _ _ _ hl1];exact tk c p q k,by rw[cell_of_row W _ _ _ _ _ hl1];exact tn c p q k⟩
 have YB:=hQQ (fun W=>by have:=xh HR.o W q;rw[C7 hq] at this;exact this)
 have YC:=hQQ (fun W=>by have:=tt HR.o W q;rw[sY hq] at this;exact this)
 have PB:=hQQ (cx H hq)
 have hs3:=et k
 have hqq:=ay.1 hq
 have pg2:=HR.o.pg2
 have HB:=hQQ hb
 have HH:=hQQ H
 have GO:=hQQ (fun W (hW:dh bt W)=>MG c p q k b W hW hcb)
 have GS:=hQQ (fun W (hW:dh bt W)=>rY k W hW)
 have OB:W64 (dQ k b):=by unfold dQ W64;omega
 have HOB:=hQQ OB
 unfold gU at hRr
 obtain⟨ov,hov⟩:∃ov,dQ k b=ov:=⟨_,rfl⟩
 rw[show ax k-dx b (ax k)=ov from hov] at GO
 rw[hov] at hRr HOB
 obtain⟨sv,hsv⟩:∃sv,ax k=sv:=⟨_,rfl⟩
 rw[hsv] at hRr GS
 clear H hq hb hcb hs OB hov hsv hs3 nF0 nFb c0 c25 c26
 go_enter Tryz.func112,Tryz.ntmps112
 go_wp2_with (refine wpList_load_row rfl 90 _ rfl _ rfl 90 _ _ _ L0.o Tryz.underlying90 rfl (by kernel_rfl) ?_)
 clear e1
 refine(GO.o w1 SZ1.o).mono ?_
 rintro e w2 ⟨rfl,h2⟩
 have M2:=hQQ (M0.o.more h2)
 have L2:=hQQ (KP.o _ _ _ M2.o).1
 clear h2
 obtain⟨c0,c25,c26⟩:=CC.o _ L2.o
 go_wp2_with fail
 refine(GS.o w2 (KP.o _ _ _ M2.o).2).mono ?_
 rintro e w3 ⟨rfl,h3⟩
 have M3:=hQQ (M2.o.more h3)
 have L3:=hQQ (KP.o _ _ _ M3.o).1
 clear h3 c0 c25 c26
 obtain⟨c0,c25,c26⟩:=CC.o _ L3.o
 by_cases eo:ov=sv
 ·have d0:(ov==sv)=true:=by simp[eo]
  rw[if_pos eo] at hRr
  have HRr:=hQQ hRr
  clear hRr eo
  go_wp2_with (refine i7 rfl 28 _ rfl w.heap.size 1 rfl 90 _ c.arr _ _ L3.o (gT c p q k) Tryz.underlying28 rfl (by kernel_rfl) ?_)
  clear c0 c25 c26
  refine(Ms HR.o HH.o hn F p kn D q (by unfold W64;omega) w3 M3.o.view HK.o M3.o.inv).mono ?_
  intro e w4 he
  rcases M3.o.step (ae.refl _) HK.o (qG HH.o _) he with⟨a',hE,rfl,hd',ht',_⟩|⟨x4,D4,F4,hE,rfl,M4,hq4,_,_⟩
  ·exact⟨rfl,NEED.o a' w4 (HRr.o.symm.trans (ag hE)) hd' ht'⟩
  have R4:=hQQ ((aj hE).symm.trans HRr.o)
  have M4:=hQQ M4
  obtain⟨lp,lc⟩:=KP.o _ _ _ M4.o
  have L4:=hQQ lp
  clear he hE lp lc
  have FIN:=hQQ (DONE.o () w4 D4 F4 R4.o.symm M4.o)
  go_wp2_with fail
  go_end0
  exact FIN.o
 ·have d0:(ov==sv)=false:=by simpa using eo
  rw[if_neg eo] at hRr
  have HRr:=hQQ hRr
  clear hRr eo
  have C0:=hQQ c0
  have C25:=hQQ c25
  clear c0 c25 c26
  go_wp2_with fail
  refine bI 8 (by kernel_rfl) (by kernel_rfl) ?_
  simp only[List.take_succ_cons,List.take_zero,List.drop_succ_cons,List.drop_zero]
  iterate 3
   with_reducible refine wpQuiet_step (fun K hK=>?_)
   go_simp
   first
   |(refine hK _ ?_;clear hK K)
   |(apply Exists.intro
     refine⟨fun W hW=>?_,hK _ ?_⟩
     first
     |(have c1':=hW.cell C0.o;go_simp;try rfl)
     clear hK K)
  refine dA rfl 28 _ rfl w.heap.size 1 rfl 90 _ c.arr _ _ (fun W hW=>hW.block L3.o) (gT c p q k) Tryz.underlying28 rfl (by kernel_rfl) ?_
  iterate 2
   with_reducible refine wpQuiet_step (fun K hK=>?_)
   go_simp
   first
   |(refine hK _ ?_;clear hK K)
   |(apply Exists.intro
     refine⟨fun W hW=>?_,hK _ ?_⟩
     first
     |(have c1':=hW.cell C25.o;go_simp;try rfl)
     clear hK K)
  iterate 1
   with_reducible refine wpQuiet_step (fun K hK=>?_)
   go_simp
   first
   |(refine hK _ ?_;clear hK K)
   |(apply Exists.intro
     refine⟨fun W hW=>?_,hK _ ?_⟩
     first
     |(go_at_call 108;exact Calls.more hW (YB.o W))
     |(go_simp;try rfl)
     clear hK K)
  iterate 1
   with_reducible refine wpQuiet_step (fun K hK=>?_)
   go_simp
   first
   |(refine hK _ ?_;clear hK K)
   |(apply Exists.intro
     refine⟨fun W hW=>?_,hK _ ?_⟩
     first
     |(go_simp;try rfl)
     clear hK K)
  refine wpQuiet_nil ?_
  intro w4 h4
  have M4:=hQQ (M3.o.more h4)
  clear h4
  go_wp2_with fail
  refine(dq F p kn D (bA c.pg c.st q) b w4 M4.o.view (by have:=M4.o.inv.len;omega)).mono ?_
  intro e w5 he
  rcases M4.o.step (ae.refl _) HK.o (aR n (by have:=PB.o.2.2;unfold W64;omega) PB.o.2.2.2.1 HB.o) he with⟨a',hE,rfl,hd',ht',_⟩|⟨x5,D5,F5,hE,rfl,M5,hq5,_,_⟩
  ·exact⟨rfl,NEED.o a' w5 (HRr.o.symm.trans (ag hE)) hd' ht'⟩
  have R5:=hQQ ((aj hE).symm.trans HRr.o)
  have M5:=hQQ M5
  obtain⟨lp,lc⟩:=KP.o _ _ _ M5.o
  have L5:=hQQ lp
  clear he hE lp lc
  obtain⟨c0,c25,c26⟩:=CC.o _ L5.o
  have C05:=hQQ c0
  have C255:=hQQ c25
  clear c0 c25 c26
  go_wp2_with fail
  refine bI 8 (by kernel_rfl) (by kernel_rfl) ?_
  simp only[List.take_succ_cons,List.take_zero,List.drop_succ_cons,List.drop_zero]
  iterate 3
   with_reducible refine wpQuiet_step (fun K hK=>?_)
   go_simp
   first
   |(refine hK _ ?_;clear hK K)
   |(apply Exists.intro
     refine⟨fun W hW=>?_,hK _ ?_⟩
     first
     |(have c1':=hW.cell C05.o;go_simp;try rfl)
     clear hK K)
  refine dA rfl 28 _ rfl w.heap.size 1 rfl 90 _ c.arr _ _ (fun W hW=>hW.block L5.o) (gT c p q k) Tryz.underlying28 rfl (by kernel_rfl) ?_
  iterate 2
   with_reducible refine wpQuiet_step (fun K hK=>?_)
   go_simp
   first
   |(refine hK _ ?_;clear hK K)
   |(apply Exists.intro
     refine⟨fun W hW=>?_,hK _ ?_⟩
     first
     |(have c1':=hW.cell C255.o;go_simp;try rfl)
     clear hK K)
  iterate 1
   with_reducible refine wpQuiet_step (fun K hK=>?_)
   go_simp
   first
   |(refine hK _ ?_;clear hK K)
   |(apply Exists.intro
     refine⟨fun W hW=>?_,hK _ ?_⟩
     first
     |(go_at_call 134;exact Calls.more hW (YC.o W))
     |(go_simp;try rfl)
     clear hK K)
  iterate 1
   with_reducible refine wpQuiet_step (fun K hK=>?_)
   go_simp
   first
   |(refine hK _ ?_;clear hK K)
   |(apply Exists.intro
     refine⟨fun W hW=>?_,hK _ ?_⟩
     first
     |(go_simp;try rfl)
     clear hK K)
  refine wpQuiet_nil ?_
  intro w6 h6
  have M6:=hQQ (M5.o.more h6)
  clear h6
  go_wp2_with fail
  refine(dq F5 p kn D5 (cA c.pg c.st q) ov w6 M6.o.view (by have:=M6.o.inv.len;omega)).mono ?_
  intro e w7 he
  rcases M6.o.step (ae.refl _) HK.o (aR n (by have:=PB.o.2.1;unfold W64;omega) PB.o.2.1.2.1 HOB.o) he with⟨a',hE,rfl,hd',ht',_⟩|⟨x7,D7,F7,hE,rfl,M7,hq7,_,_⟩
  ·exact⟨rfl,NEED.o a' w7 (R5.o.symm.trans (ag hE)) hd' ht'⟩
  have R7:=hQQ ((aj hE).symm.trans R5.o)
  have M7:=hQQ M7
  obtain⟨lp,lc⟩:=KP.o _ _ _ M7.o
  have L7:=hQQ lp
  clear he hE lp lc
  have FIN:=hQQ (DONE.o () w7 D7 F7 R7.o.symm M7.o)
  go_wp2_with fail
  go_end0
  exact FIN.o
theorem Kh {c:Cfg}(R:c.Ok){n:Nat}(H:cF c.pg c.st n)(hn:n≤10000)(F:Nat→Prop)(p:Nat)(kn:Int→Option Int)(D:List KV)(q cl f:Int)(w:World)(hv:aF w F p kn D)(hk:OkK kn)(hD:cI n D):
 Calls Tryz.prog 131 #[.pointer (some ⟨p,0,none⟩),.agg c.arr,.int .i64 q,.int .i64 cl,.int .i64 f] w (aI w F p kn (fun b=> .bool b) (jk c.pg c.st q cl f kn D)):=by
 obtain⟨Rr,hRr⟩:∃Rr,jk c.pg c.st q cl f kn D=Rr:=⟨_,rfl⟩
 rw[hRr]
 obtain⟨w1,e1,hl1,m1,s1⟩:=bg w (.cells c.arr 28)
 have nFl:¬F w.heap.size:=fun q=>by have:=hv.lt _ q;omega
 have MM:=hQQ m1
 have L0:=hQQ hl1
 have M0:=m0Z (hv.more m1) hD
 have KL:=klZ (p:=p) (kn:=kn) (n:=n) L0.o nFl
 have NEED:=ndZ (F:=F) (p:=p) (kn:=kn) (R:=Rr) (fun b:Bool=>Value.bool b) MM.o
 have DONE:=dnZ (F:=F) (p:=p) (n:=n) (kn:=kn) (R:=Rr) (fun b:Bool=>Value.bool b) MM.o
 have HK:=hQQ hk
 have HR:=hQQ R
 have HH:=hQQ H
 clear hl1 m1 hv hD hk R H nFl
 unfold jk at hRr
 by_cases hz:aH c.pg c.st cl f=0
 ·have d0:(aH c.pg c.st cl f==0)=true:=by simp[hz]
  rw[if_pos hz] at hRr
  have FIN:Hq (∀w2,ae w1 w2→aI w F p kn (fun b:Bool=>Value.bool b) Rr (.returned (.bool false)) w2):=hQQ fun w2 h=>DONE.o false w2 D F hRr.symm (M0.o.more h)
  clear hRr hz
  go_enter Tryz.func131,Tryz.ntmps131
  go_wp2_with (first|(refine aM rfl rfl rfl L0.o (by kernel_rfl) ?_)|(refine aM rfl rfl rfl L0.o (by kernel_rfl) ?_))
  refine(ly HR.o _ cl f).mono ?_
  rintro e w2 ⟨rfl,h2⟩
  have H2:=hQQ h2
  clear h2
  go_wp2_with fail
  go_ret
  exact FIN.o _ H2.o
 have d0:(aH c.pg c.st cl f==0)=false:=by simp[hz]
 rw[if_neg hz] at hRr
 cases hq:af c.pg q with
 |false =>
  rw[hq] at hRr
  have FIN:Hq (∀w2,ae w1 w2→aI w F p kn (fun b:Bool=>Value.bool b) Rr (.returned (.bool false)) w2):=hQQ fun w2 h=>DONE.o false w2 D F hRr.symm (M0.o.more h)
  clear hRr hz
  go_enter Tryz.func131,Tryz.ntmps131
  go_wp2_with (first|(refine aM rfl rfl rfl L0.o (by kernel_rfl) ?_)|(refine aM rfl rfl rfl L0.o (by kernel_rfl) ?_))
  refine(ly HR.o _ cl f).mono ?_
  rintro e w2 ⟨rfl,h2⟩
  have L2:=hQQ (h2.block L0.o)
  have H2:=hQQ h2
  clear h2
  go_wp2_with (first|(refine aM rfl rfl rfl L2.o (by kernel_rfl) ?_)|(refine aM rfl rfl rfl L2.o (by kernel_rfl) ?_))
  refine(iL HR.o HH.o q _).mono ?_
  rw[hq]
  rintro e w3 ⟨rfl,h3⟩
  have H3:=hQQ (H2.o.trans h3)
  clear h3
  go_wp2_with fail
  go_ret
  exact FIN.o _ H3.o
 |true =>
  rw[hq] at hRr
  have HQ:=hQQ hq
  have HRr:=hQQ (show aq (ep c.pg (aH c.pg c.st cl f)) (fun x=>aq (fe c.pg c.st (aH c.pg c.st cl f) q x) fun _=>aq (fe c.pg c.st (aH c.pg c.st cl f) (-1) q) fun _=>az true) kn D=Rr from hRr)
  clear hRr hz hq
  go_enter Tryz.func131,Tryz.ntmps131
  go_wp2_with (first|(refine aM rfl rfl rfl L0.o (by kernel_rfl) ?_)|(refine aM rfl rfl rfl L0.o (by kernel_rfl) ?_))
  refine(ly HR.o _ cl f).mono ?_
  rintro e w2 ⟨rfl,h2⟩
  have M2:=hQQ (M0.o.more h2)
  have L2:=hQQ (KL.o _ _ _ M2.o)
  clear h2
  go_wp2_with (first|(refine aM rfl rfl rfl L2.o (by kernel_rfl) ?_)|(refine aM rfl rfl rfl L2.o (by kernel_rfl) ?_))
  refine(iL HR.o HH.o q _).mono ?_
  rw[HQ.o]
  rintro e w3 ⟨rfl,h3⟩
  have M3:=hQQ (M2.o.more h3)
  clear h3 M2 L2
  go_wp2_with fail
  refine aO (TrC c w.heap.size) (by kernel_rfl) ?_
  have MR:=hQQ (M3.o.more ((ae.refl w3).drewN 1))
  change dg _ _ _ _ _ _ _ _ (w3.drewN 1)
  generalize w3.drewN 1=wr at MR⊢
  generalize hA:Act.mk _ _=A
  have HF:AG 38 A [(0,.pointer (some ⟨p,0,none⟩)),(1,.agg c.arr),(2,.int .i64 q),(3,.int .i64 cl),(4,.int .i64 f),(6,.pointer (some ⟨w.heap.size,0,none⟩)),(11,.int .i64 (aH c.pg c.st cl f))]:=by
   rw[←hA];try simp only[pts,List.foldl]
   refine⟨⟨Nat.le_of_ble_eq_true rfl,rfl⟩,?_⟩
   intro z hz;simp only[List.mem_cons,List.not_mem_nil,or_false] at hz;rcases hz with rfl|rfl|rfl|rfl|rfl|rfl|rfl<;>rfl
  refine bL (fun a W=>∃(u24 u25 u26 u27 u28 u29 u30 u31 u32:Value) (D9:List KV) (F9:Nat→Prop),a=(pts A [(24,u24),(25,u25),(26,u26),(27,u27),(28,u28),(29,u29),(30,u30),(31,u31),(32,u32)])∧MidV w1 W F (fun _=>False) p kn n D9 F9∧aq (fe c.pg c.st (aH c.pg c.st cl f) (-1) q) (fun _=>az true) kn D9=Rr) (fun W=>aI w F p kn (fun b:Bool=>Value.bool b) Rr (.panicked (bB p)) W) (bB p) (fun a W hd h=>⟨hd,h⟩) (fun _ _ _ _ _ h=>h) ?_ ?_
  ·skip
   rintro a wa ⟨u24,u25,u26,u27,u28,u29,u30,u31,u32,D5,F5,rfl,MS,RS⟩
   rw[←hA];try simp only[pts,List.foldl]
   have MS:=hQQ MS
   have LS:=hQQ (KL.o _ _ _ MS.o)
   have RS:=hQQ RS
   clear HF hA MR M3 HRr
   go_wp2_with (first|(refine aM rfl rfl rfl LS.o (by kernel_rfl) ?_)|(refine aM rfl rfl rfl LS.o (by kernel_rfl) ?_))
   refine(rV HR.o HH.o hn F5 p kn D5 (aH c.pg c.st cl f) (-1) q (bG HH.o).2.2 (bG HH.o).2.1 (.inl rfl) (.inr HQ.o) wa MS.o.view HK.o MS.o.inv).mono ?_
   intro e w6 he
   rcases MS.o.step (ae.refl _) HK.o (dW HH.o (bG HH.o).2.2 (bG HH.o).2.1 (.inl rfl) (.inr HQ.o)) he with⟨a',hE,rfl,hd',ht',_⟩|⟨x6,D6,F6,hE,rfl,M6,hq6,_,_⟩
   ·exact⟨rfl,NEED.o a' w6 (RS.o.symm.trans (ag hE)) hd' ht'⟩
   have FIN:=hQQ (DONE.o true w6 D6 F6 (RS.o.symm.trans (aj hE)) M6)
   clear he hE M6
   go_wp2_with fail
   go_ret
   exact FIN.o
  intro QQ FINE FIND FINQ
  clear hA
  refine tqM 0 24 0 rfl (.inl rfl) rfl (by kernel_rfl) FINQ (KL.o _ _ _ MR.o) HF fun A β1 HF=>?_
  refine tqC 1 25 (.agg c.arr) (by kernel_rfl) FINQ (KL.o _ _ _ MR.o) HF (by exact aD (ab rfl) 28 _ rfl w.heap.size (HF.get 6 rfl) 28 _ _ _ (fun W hW=>hW) Tryz.underlying28 rfl (by kernel_rfl)) fun A β2 HF=>?_
  refine tqM 2 26 8 rfl (.inl rfl) rfl (by kernel_rfl) FINQ (KL.o _ _ _ MR.o) HF fun A β3 HF=>?_
  refine tqM 3 27 5 rfl (.inl rfl) rfl (by kernel_rfl) FINQ (KL.o _ _ _ MR.o) HF fun A β4 HF=>?_
  refine tqM 4 28 4 rfl (.inl rfl) rfl (by kernel_rfl) FINQ (KL.o _ _ _ MR.o) HF fun A β5 HF=>?_
  refine tqC 5 29 (.agg c.arr) (by kernel_rfl) FINQ (KL.o _ _ _ MR.o) HF (by exact aD (ab rfl) 28 _ rfl w.heap.size (HF.get 10 rfl) 28 _ _ _ (fun W hW=>hW) Tryz.underlying28 rfl (by kernel_rfl)) fun A β6 HF=>?_
  refine tqM 6 30 12 rfl (.inl rfl) rfl (by kernel_rfl) FINQ (KL.o _ _ _ MR.o) HF fun A β7 HF=>?_
  refine tqO 7 31 (by kernel_rfl) HF fun K hK=>?_
  refine dE (v0:=.pointer (some ⟨p,0,none⟩)) (v1:=.agg c.arr) (v2:=.int .i64 (aH c.pg c.st cl f)) rfl (HF.get 2 rfl) (HF.get 1 rfl) (HF.get 0 rfl) (enters_of Tryz.func92 (by kernel_rfl) rfl) ?_
  refine(my HR.o HH.o F p kn D (aH c.pg c.st cl f) (bG HH.o).2.2 (bG HH.o).2.1 wr MR.o.view HK.o MR.o.inv).mono ?_
  intro e w4 he
  rcases MR.o.step (ae.refl _) HK.o (dt HH.o (bG HH.o).2.1) he with⟨a',hE,rfl,hd',ht',_⟩|⟨x4,D4,F4,hE,rfl,M4,hq4,_,_⟩
  ·exact FIND _ _ HF.1.2 (NEED.o a' w4 (HRr.o.symm.trans (ag hE)) hd' ht')
  have R4:=hQQ ((aj hE).symm.trans HRr.o)
  have M4:=hQQ M4
  clear he hE
  refine hK _ _ (KL.o _ _ _ M4.o) fun A β8 HF=>?_
  clear hK K
  refine tqO 8 32 (by kernel_rfl) HF fun K hK=>?_
  refine jH (v0:=.pointer (some ⟨p,0,none⟩)) (v1:=.agg c.arr) (v2:=.int .i64 (aH c.pg c.st cl f)) (v3:=.int .i64 q) (v4:=.int .i64 x4) rfl (HF.get 7 rfl) (HF.get 6 rfl) (HF.get 5 rfl) (HF.get 4 rfl) (HF.get 0 rfl) (enters_of Tryz.func146 (by kernel_rfl) rfl) ?_
  refine(rV HR.o HH.o hn F4 p kn D4 (aH c.pg c.st cl f) q x4 (bG HH.o).2.2 (bG HH.o).2.1 (.inr HQ.o) hq4 w4 M4.o.view HK.o M4.o.inv).mono ?_
  intro e w5 he
  rcases M4.o.step (ae.refl _) HK.o (dW HH.o (bG HH.o).2.2 (bG HH.o).2.1 (.inr HQ.o) hq4) he with⟨a',hE,rfl,hd',ht',_⟩|⟨x5,D5,F5,hE,rfl,M5,hq5,_,_⟩
  ·exact FIND _ _ HF.1.2 (NEED.o a' w5 (R4.o.symm.trans (ag hE)) hd' ht')
  have R5:=hQQ ((aj hE).symm.trans R4.o)
  have M5:=hQQ M5
  clear he hE
  refine hK _ _ (KL.o _ _ _ M5.o) fun A β9 HF=>?_
  clear hK K
  exact bU (by kernel_rfl) (FINE _ _ ⟨(.pointer (some ⟨p,0,none⟩)),(.agg c.arr),(.int .i64 (aH c.pg c.st cl f)),(.int .i64 q),(.pointer (some ⟨p,0,none⟩)),(.agg c.arr),(.int .i64 (aH c.pg c.st cl f)),(.int .i64 x4),(.tuple #[]),D5,F5,by rw[← β9,← β8,← β7,← β6,← β5,← β4,← β3,← β2,← β1]<;>rfl,M5.o,R5.o⟩)
end Go.Proofs.YtddmeghbmdfgeaaGreatDoor
