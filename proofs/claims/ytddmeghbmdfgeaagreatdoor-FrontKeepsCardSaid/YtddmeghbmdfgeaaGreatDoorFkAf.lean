/-
  The words of layer 4, plainly: bits of a word; the word with one bit set, and cleared; which bits are set.
-/
import Derived.Test.YtddmeghbmdfgeaaGreatDoorFkAa
import Derived.Test.YtddmeghbmdfgeaaGreatDoorFkAc
import Derived.Laws.Shifts
import Derived.Laws.Bits64
import Derived.Lib.Hide
import Derived.LoopTactic
import Derived.Outline
import Derived.RangeFuncBox
import Derived.RangeFuncLeaves
import Derived.RangeFuncCalls
import Derived.Shelf.Abstract
import Derived.OwnWalkIn
import Derived.TacticsInMore
import Derived.LoopNIn
import Derived.LoopIn
import Derived.Maps.AppendAt
import Derived.Test.YtddmeghbmdfgeaaGreatDoorFkAe
import Derived.ProofKit
import Derived.LaidMore
import Derived.OpenShut
import Derived.Stop.Joined
import Derived.Test.YtddmeghbmdfgeaaGreatDoorFkAd
import Derived.Recover
set_option maxRecDepth 100000
set_option maxHeartbeats 8000000
set_option linter.all false
namespace Go.Proofs.YtddmeghbmdfgeaaGreatDoor
open Go.RowKit
def xD (w:Int):BitVec 64:=BitVec.ofInt 64 w
def eJ (w:Int)(k:Nat):Bool:=(xD w).getLsbD k
def inR (i:Int):Bool:=decide (0≤i∧i<32)
def eK (w i:Int):Bool:=inR i && eJ w i.toNat
def iL (i:Int):Int:=if inR i then 2 ^ i.toNat else 0
def setV (w i:Int):Int:=if inR i then(xD w |||BitVec.twoPow 64 i.toNat).toInt else w
def clearV (w i:Int):Int:=if inR i then(xD w &&& ~~~ BitVec.twoPow 64 i.toNat).toInt else w
def endN (n:Int):Nat:=(min n 32).toNat
def onN (w:Int)(k:Nat):List Nat:=(List.range k).filter (eJ w)
def dv (w n:Int):Int:=(onN w (endN n)).length
def zu (w:Int)(k:Nat):Int:=match (List.range k).find? (fun j=> !eJ w j) with|some j=>(j:Int)|none=> -1
def bP (w n:Int):Int:=zu w (endN n)
theorem eV (i:Int):inR i=true↔0≤i∧i<32:=by simp[inR]
theorem xE {k:Nat}(h:k<32):inR (k:Int)=true:=by simp[inR];omega
theorem xF (n:Int):endN n≤32:=by unfold endN;omega
theorem oz (r:BitVec 64):IntKind.i64.wrap (r.toNat:Int)=r.toInt:=by
 have:=r.isLt
 rw[BitVec.toInt_eq_toNat_bmod]
 simp[IntKind.wrap,IntKind.bits,IntKind.signed,Int.bmod]
 omega
theorem pB {w:Int}(h0: -9223372036854775808≤w)(h1:w≤9223372036854775807):(xD w).toInt=w:=by
 rw[xD,BitVec.toInt_ofInt,Int.bmod]
 simp only[Nat.reducePow]
 split<;>omega
theorem zv (r:BitVec 64):xD r.toInt=r:=by rw[xD,BitVec.ofInt_toInt]
theorem tu (r:BitVec 64): -9223372036854775808≤r.toInt∧r.toInt≤9223372036854775807:=by
 have h1:=BitVec.le_toInt r
 have h2:=BitVec.toInt_lt (x:=r)
 constructor<;>omega
theorem B5 {k:Nat}(h:k<32):BitVec.ofInt 64 ((2:Int) ^ k)=BitVec.twoPow 64 k:=by
 rw[show((2:Int) ^ k)=((2 ^ k:Nat):Int) by simp,BitVec.ofInt_natCast]
 apply BitVec.eq_of_toNat_eq
 rw[BitVec.toNat_ofNat,BitVec.toNat_twoPow]
theorem DI:BitVec.ofInt 64 0=0#64:=by decide
theorem Ii (w i:Int):(bits .and .i64 w (iL i) != 0)=eK w i:=by
 show(IntKind.i64.wrap ((BitVec.ofInt 64 w &&& BitVec.ofInt 64 (iL i)).toNat:Int) != 0)=_
 rw[oz]
 unfold eK iL
 cases hi:inR i with
 |false=>simp
 |true =>
  have hr:=(eV i).1 hi
  simp only[if_true,Bool.true_and]
  rw[B5 (by omega),BitVec.and_twoPow]
  unfold eJ xD
  cases hb:(BitVec.ofInt 64 w).getLsbD i.toNat with
  |false=>simp
  |true =>
   simp only[if_true]
   simp only[bne_iff_ne,ne_eq]
   intro e
   have:=congrArg (BitVec.ofInt 64) e
   rw[BitVec.ofInt_toInt] at this
   have:=congrArg (fun x=>x.getLsbD i.toNat) this
   simp[BitVec.getLsbD_twoPow] at this
   omega
theorem Ku (w i:Int)(h0: -9223372036854775808≤w)(h1:w≤9223372036854775807):bits .or .i64 w (iL i)=setV w i:=by
 show IntKind.i64.wrap ((BitVec.ofInt 64 w |||BitVec.ofInt 64 (iL i)).toNat:Int)=_
 rw[oz]
 unfold setV iL
 cases hi:inR i with
 |false =>
  rw[if_neg (by simp),if_neg (by simp),DI,BitVec.or_zero]
  exact pB h0 h1
 |true =>
  have hr:=(eV i).1 hi
  simp only[if_true]
  rw[B5 (by omega)];rfl
theorem zw (w i:Int)(h0: -9223372036854775808≤w)(h1:w≤9223372036854775807):bits .andNot .i64 w (iL i)=clearV w i:=by
 show IntKind.i64.wrap ((BitVec.ofInt 64 w &&& ~~~ BitVec.ofInt 64 (iL i)).toNat:Int)=_
 rw[oz]
 unfold clearV iL
 cases hi:inR i with
 |false =>
  rw[if_neg (by simp),if_neg (by simp),DI,BitVec.not_zero,BitVec.and_allOnes]
  exact pB h0 h1
 |true =>
  have hr:=(eV i).1 hi
  simp only[if_true]
  rw[B5 (by omega)];rfl
theorem Ff (w i:Int)(h0: -9223372036854775808≤w)(h1:w≤9223372036854775807): -9223372036854775808≤setV w i∧setV w i≤9223372036854775807:=by
 unfold setV;split
 ·exact tu _
 ·exact⟨h0,h1⟩
theorem rf (w i:Int)(h0: -9223372036854775808≤w)(h1:w≤9223372036854775807): -9223372036854775808≤clearV w i∧clearV w i≤9223372036854775807:=by
 unfold clearV;split
 ·exact tu _
 ·exact⟨h0,h1⟩
theorem rV {w i:Int}(hi:inR i=true)(k:Nat)(hk:k<64):eJ (setV w i) k=(eJ w k ||decide (i.toNat=k)):=by
 have hr:=(eV i).1 hi
 unfold eJ setV
 rw[if_pos hi,zv,BitVec.getLsbD_or,BitVec.getLsbD_twoPow,decide_eq_true (show i.toNat<64 by omega),Bool.true_and]
theorem mZ {w i:Int}(hi:inR i=true)(k:Nat)(hk:k<64):eJ (clearV w i) k=(eJ w k && !decide (i.toNat=k)):=by
 have hr:=(eV i).1 hi
 unfold eJ clearV
 rw[if_pos hi,zv,BitVec.getLsbD_and,BitVec.getLsbD_not,BitVec.getLsbD_twoPow,decide_eq_true hk,decide_eq_true (show i.toNat<64 by omega),Bool.true_and,Bool.true_and]
theorem zx {a b:Int}(a0: -9223372036854775808≤a)(a1:a≤9223372036854775807)(b0: -9223372036854775808≤b)(b1:b≤9223372036854775807)
 (h:∀k,k<64→eJ a k=eJ b k):a=b:=by
 rw[←pB a0 a1,←pB b0 b1]
 congr 1
 apply BitVec.eq_of_getLsbD_eq
 exact h
theorem Kv {w i:Int}(hi:inR i=true):eK (setV w i) i=true:=by
 have hr:=(eV i).1 hi
 unfold eK;rw[rV hi _ (by omega)];simp[hi]
theorem vP {w i:Int}(hi:inR i=true):eK (clearV w i) i=false:=by
 have hr:=(eV i).1 hi
 unfold eK;rw[mZ hi _ (by omega)];simp
theorem nV {w i k:Int}(hi:inR i=true)(hk:k≠i):eK (setV w i) k=eK w k:=by
 unfold eK
 cases hK:inR k with
 |false=>rfl
 |true =>
  have hr:=(eV i).1 hi
  have hr':=(eV k).1 hK
  rw[rV hi _ (by omega),decide_eq_false (by omega),Bool.or_false]
theorem lE {w i k:Int}(hi:inR i=true)(hk:k≠i):eK (clearV w i) k=eK w k:=by
 unfold eK
 cases hK:inR k with
 |false=>rfl
 |true =>
  have hr:=(eV i).1 hi
  have hr':=(eV k).1 hK
  rw[mZ hi _ (by omega),decide_eq_false (by omega),Bool.not_false,Bool.and_true]
section
variable {w i:Int}(h0: -9223372036854775808≤w)(h1:w≤9223372036854775807)
include h0 h1
theorem Om (hi:inR i=true)(hb:eK w i=false):clearV w i=w:=by
 have hr:=(eV i).1 hi
 have⟨s0,s1⟩:=rf w i h0 h1
 refine zx s0 s1 h0 h1 fun k hk=>?_
 rw[mZ hi _ hk]
 by_cases q:i.toNat=k
 ·subst q;unfold eK at hb;simp[hi] at hb;simp[hb]
 ·simp[q]
theorem Fg (hi:inR i=true)(hb:eK w i=true):setV (clearV w i) i=w:=by
 have hr:=(eV i).1 hi
 have⟨s0,s1⟩:=rf w i h0 h1
 have⟨t0,t1⟩:=Ff (clearV w i) i s0 s1
 refine zx t0 t1 h0 h1 fun k hk=>?_
 rw[rV hi _ hk,mZ hi _ hk]
 by_cases q:i.toNat=k
 ·subst q;unfold eK at hb;simp[hi] at hb;simp[hb]
 ·simp[q]
end
theorem pC (w:Int)(k:Nat):onN w (k+1)=onN w k++(if eJ w k then [k] else []):=by
 unfold onN
 rw[List.range_succ,List.filter_append]
 congr 1
 cases h:eJ w k<;>simp[h]
theorem na {w:Int}{k j:Nat}(hj:j<k)(h0:eJ w j=false)(h1:∀i,i<j→eJ w i=true):zu w k=j:=by
 have:(List.range k).find? (fun i=> !eJ w i)=some j:=by
  rw[List.find?_range_eq_some]
  exact⟨by simp[h0],by simpa using hj,fun i hi=>by simp[h1 i hi]⟩
 unfold zu;rw[this]
theorem vQ {w:Int}{k:Nat}(h:∀i,i<k→eJ w i=true):zu w k= -1:=by
 have:(List.range k).find? (fun i=> !eJ w i)=none:=by
  rw[List.find?_range_eq_none]
  intro i hi;simp[h i hi]
 unfold zu;rw[this]
theorem Fh (w:Int)(k:Nat):(zu w k= -1∧∀i,i<k→eJ w i=true)∨∃j:Nat,j<k∧zu w k=j∧eJ w j=false∧∀i,i<j→eJ w i=true:=by
 induction k with
 |zero=>exact .inl ⟨rfl,fun i h=>by omega⟩
 |succ k ih =>
  rcases ih with⟨_,h⟩|⟨j,hj,_,h0,h1⟩
  ·cases hb:eJ w k with
   |true =>
    have:∀i,i<k+1→eJ w i=true:=fun i hi=>by
     by_cases q:i=k
     ·rw[q];exact hb
     ·exact h i (by omega)
    exact .inl ⟨vQ this,this⟩
   |false=>exact .inr ⟨k,by omega,na (by omega) hb h,hb,h⟩
  ·exact .inr ⟨j,by omega,na (by omega) h0 h1,h0,h1⟩
theorem Nk {w:Int}{k:Nat}(h:∀i,i<k→eJ w i=true):(onN w k).length=k:=by
 induction k with
 |zero=>rfl
 |succ k ih=>rw[pC,List.length_append,ih (fun i hi=>h i (by omega)),if_pos (h k (by omega))];rfl
theorem Nl {w i:Int}(hi:inR i=true)(hb:eJ w i.toNat=false)(k:Nat)(hk:k≤32):(onN (setV w i) k).length=(onN w k).length+if i.toNat<k then 1 else 0:=by
 induction k with
 |zero=>rfl
 |succ k ih =>
  rw[pC,pC,List.length_append,List.length_append,ih (by omega),rV hi k (by omega)]
  by_cases q:i.toNat=k
  ·subst q
   rw[hb]
   simp
  ·rw[decide_eq_false q,Bool.or_false]
   have e:(if i.toNat<k+1 then 1 else 0)=(if i.toNat<k then 1 else 0):=by
    by_cases q2:i.toNat<k
    ·rw[if_pos q2,if_pos (show i.toNat<k+1 by omega)]
    ·rw[if_neg q2,if_neg (show ¬i.toNat<k+1 by omega)]
   rw[e];omega
theorem zy {x:Int}(h0: -9223372036854775808≤x)(h1:x≤9223372036854775807):IntKind.i64.wrap x=x:=by
 simp[IntKind.wrap,IntKind.bits,IntKind.signed];omega
theorem OX {k:Nat}(h:k<32):1≤(2:Int) ^ k∧(2:Int) ^ k≤2147483648:=by
 have h1:(1:Nat)≤2 ^ k:=Nat.one_le_two_pow
 have h2:(2:Nat) ^ k≤2 ^ 31:=Nat.pow_le_pow_right (by omega) (by omega)
 have e:(2:Int) ^ k=((2 ^ k:Nat):Int):=by simp
 rw[e];omega
theorem Ca (i:Int)(w:World):Calls Tryz.prog 107 #[.int .i64 i] w fun e w'=>e=.returned (.int .i64 (iL i))∧w'=w:=by
 by_cases c0:i<0
 ·have d0:decide (i<0)=true:=by simpa using c0
  have e0:iL i=0:=by unfold iL;rw[if_neg (by simp[inR];omega)]
  have HE:=hQQ e0;clear e0
  go_enter Tryz.func107,Tryz.ntmps107
  go_wp2_with fail
  go_ret
  exact⟨by rw[HE.o];rfl,rfl⟩
 ·have d0:decide (i<0)=false:=by simpa using c0
  by_cases c1:32≤i
  ·have d1:decide (32≤i)=true:=by simpa using c1
   have e0:iL i=0:=by unfold iL;rw[if_neg (by simp[inR];omega)]
   have HE:=hQQ e0;clear e0
   go_enter Tryz.func107,Tryz.ntmps107
   go_wp2_with fail
   go_ret
   exact⟨by rw[HE.o];rfl,rfl⟩
  ·have d1:decide (32≤i)=false:=by simpa using c1
   obtain⟨k,rfl⟩:∃k:Nat,i=k:=⟨i.toNat,by omega⟩
   have hk:k<32:=by omega
   have pb:=OX hk
   have e0:iL (k:Int)=2 ^ k:=by unfold iL;rw[if_pos (xE hk)];simp
   have HE:=hQQ e0;clear e0
   have hm:min k 64=k:=by omega
   have HM:=hQQ hm;clear hm
   have HW:=hQQ (zy (x:=2 ^ k) (by omega) (by omega))
   go_enter Tryz.func107,Tryz.ntmps107
   go_wp2_with fail
   go_ret
   exact⟨by rw[HE.o];rfl,rfl⟩
theorem Mm (x i:Int)(w:World):Calls Tryz.prog 81 #[.int .i64 x,.int .i64 i] w fun e w'=>e=.returned (.bool (eK x i))∧w'=w:=by
 have HE:=hQQ (Ii x i)
 go_enter Tryz.func81,Tryz.ntmps81
 go_wp2_with fail
 refine(Ca i _).mono ?_
 rintro e w' ⟨rfl,rfl⟩
 go_wp2_with fail
 go_ret
 exact⟨by rw[←HE.o];rfl,rfl⟩
theorem OY (x i:Int)(h0: -9223372036854775808≤x)(h1:x≤9223372036854775807)(w:World):Calls Tryz.prog 142 #[.int .i64 x,.int .i64 i] w fun e w'=>e=.returned (.int .i64 (setV x i))∧w'=w:=by
 have HE:=hQQ (Ku x i h0 h1)
 go_enter Tryz.func142,Tryz.ntmps142
 go_wp2_with fail
 refine(Ca i _).mono ?_
 rintro e w' ⟨rfl,rfl⟩
 go_wp2_with fail
 go_ret
 exact⟨by rw[←HE.o];rfl,rfl⟩
theorem Kw (x i:Int)(h0: -9223372036854775808≤x)(h1:x≤9223372036854775807)(w:World):Calls Tryz.prog 113 #[.int .i64 x,.int .i64 i] w fun e w'=>e=.returned (.int .i64 (clearV x i))∧w'=w:=by
 have HE:=hQQ (zw x i h0 h1)
 go_enter Tryz.func113,Tryz.ntmps113
 go_wp2_with fail
 refine(Ca i _).mono ?_
 rintro e w' ⟨rfl,rfl⟩
 go_wp2_with fail
 go_ret
 exact⟨by rw[←HE.o];rfl,rfl⟩
theorem Nm {n:Int}{k:Nat}(h:k<endN n):(k:Int)<32∧(k:Int)<n:=by unfold endN at h;omega
theorem xG {x:Int}{k:Nat}(h:k<32):eK x k=eJ x k:=by unfold eK;rw[xE h,Int.toNat_natCast,Bool.true_and]
open Go.Shelf
attribute [local go_sem] Oper.semAt_some
theorem fg.setCell {a b:Nat}(w:World){c o:Nat}(v:Value)(ha:a≠c)(hb:b≠c):fg a b w (w.setCell ⟨c,o,none⟩ v):=
 ⟨Below.heap_setCell _ _ _ _ ha,Below.heap_setCell _ _ _ _ hb⟩
def cameUpTo (x:Int)(k:Nat):List (Nat×Bool):=(List.range k).map fun j=>(j,eJ x j)
theorem nh (x:Int)(k:Nat):cameUpTo x (k+1)=cameUpTo x k++ [(k,eJ x k)]:=by simp[cameUpTo,List.range_succ]
theorem rg (x:Int)(k:Nat):(cameUpTo x k).length=k:=by simp[cameUpTo]
theorem Ij (n:Nat)(hn:1≤n)(l Bm Bw:Nat)(x m:Int)(m0: -9223372036854775808≤m)(m1:m≤9223372036854775807)(J Jx:List (Nat×Bool)→World→Prop)
 (hY:∀pre y W,J pre W→pre.length<endN m→YieldAt Fence.wide (n-1) Tryz.prog l #[.int .i64 (y.1:Int),.bool y.2] W fun e W' =>
  (e=.returned (.bool true)∧J (pre++ [y]) W'∧fg Bm Bw W W')∨(e=.returned (.bool false)∧Jx (pre++ [y]) W'))
 (W:World) (hBm:W.cell? ⟨Bm,0,none⟩=some (.int .i64 m)) (hBw:W.cell? ⟨Bw,0,none⟩=some (.int .i64 x)) (h0:J [] W):
 CallsIn Fence.wide n Tryz.prog 162 #[.func (.yield l) #[] #[],.pointer (some ⟨Bm,0,none⟩),.pointer (some ⟨Bw,0,none⟩)] W fun e W'=>(∃v,e=.returned v) ∧
  ((∃ys,ys=cameUpTo x (endN m)∧J ys W')∨(∃pre,(∃k,k≤endN m∧pre=cameUpTo x k)∧Jx pre W')):=by
 have he:=xF m
 refine callsIn_of_wp Tryz.func162 rfl trivial ?_ rfl
 simp only[Tryz.ntmps162,List.size_toArray,List.length_cons,List.length_nil,Nat.reduceAdd,Nat.reduceSub,Array.replicate_succ,Array.replicate_zero,List.push_toArray,List.append_toArray,List.nil_append,List.cons_append]
 gi_wp2
 all_goals
  gi_loopw [7] (fun i wr=>∃k:Nat,k≤endN m∧i=.int .i64 k∧J (cameUpTo x k) wr∧fg Bm Bw W wr) (fun i _=>endN m-(intOf i).toNat)
  case atStart=>exact⟨0,Nat.zero_le _,rfl,h0,fg.refl _ _ _⟩
  case round =>
   obtain⟨k,hk,rfl,hJs,hnx⟩:=hrel
   by_cases hlt:k<endN m
   ·obtain⟨l1,l2⟩:=Nm hlt
    have hcw:wr.cell? ⟨Bw,0,none⟩=some (.int .i64 x):=hnx.cell2 hBw
    have HK:=hQQ (xG (x:=x) (show k<32 by omega))
    obtain⟨fn,tmps,assign,body,hy,hR⟩:=hY _ (k,eJ x k) wr hJs (by rw[rg];exact hlt)
    dsimp only at hy
    gi_wp2_with (refine⟨trivial,?_⟩;gi_at_call 81;refine(callsIn_wide.2 (Mm x k _)).mono ?_;rw[HK.o];rintro e w' ⟨rfl,rfl⟩)
    refine hR.mono ?_
    rintro e W3 (⟨rfl,hJ3,hk3⟩|⟨rfl,hJx3⟩)
    ·gi_wp2
     go_roundw
     case rel=>exact⟨k+1,by omega,by simp,by rw[nh];exact hJ3,hnx.trans hk3⟩
     case measure=>simp[intOf];omega
    ·gi_wp2
     refine bodyPost_ret (results_none rfl _ _ _) rfl ?_
     exact⟨⟨_,rfl⟩,.inr ⟨_,⟨k+1,by omega,(nh _ _).symm⟩,hJx3⟩⟩
   ·have l3:k=endN m:=by omega
    have l4:(m≤32∧m≤(k:Int))∨(32≤m∧32≤(k:Int)):=by unfold endN at l3;omega
    rcases l4 with⟨l6,l5⟩|⟨l6,l5⟩
    ·gi_wp2
     go_end0
     exact⟨⟨_,rfl⟩,.inl ⟨_,rfl,by rw[←l3];exact hJs⟩⟩
    ·gi_wp2
     go_end0
     exact⟨⟨_,rfl⟩,.inl ⟨_,rfl,by rw[←l3];exact hJs⟩⟩
theorem DK (n:Nat)(x m:Int)(w:World):
 CallsIn Fence.wide n Tryz.prog 154 #[.int .i64 x,.int .i64 m] w fun e w'=>e=.returned (.func (.func 162) #[] #[.pointer (some ⟨w.heap.size+1,0,none⟩),.pointer (some ⟨w.heap.size,0,none⟩)])∧w'=(w.alloc (.cells #[.int .i64 x] 3)).alloc (.cells #[.int .i64 m] 3):=by
 refine callsIn_of_wp Tryz.func154 rfl trivial ?_ rfl
 simp only[Tryz.ntmps154,List.size_toArray,List.length_cons,List.length_nil,Nat.reduceAdd,Nat.reduceSub,Array.replicate_succ,Array.replicate_zero,List.push_toArray,List.append_toArray,List.nil_append,List.cons_append]
 gi_wp2
 go_ret
 exact⟨rfl,rfl⟩
theorem tw (n:Nat)(hn:1≤n)(Bm Bw:Nat)(x m:Int)(m0: -9223372036854775808≤m)(m1:m≤9223372036854775807)(w:World)
 (hBm:w.cell? ⟨Bm,0,none⟩=some (.int .i64 m)) (hBw:w.cell? ⟨Bw,0,none⟩=some (.int .i64 x)):
 SeqStopsK Fence.wide n Tryz.prog 162 #[.pointer (some ⟨Bm,0,none⟩),.pointer (some ⟨Bw,0,none⟩)] (fun y:Nat×Bool=> #[Value.int .i64 (y.1:Int),Value.bool y.2]) (fg Bm Bw) (fun ys=>ys=cameUpTo x (endN m))
  (fun pre=>∃k,k≤endN m∧pre=cameUpTo x k) (endN m) w:=fun l J Jx W hW _ _ hY h0 =>
 Ij n hn l Bm Bw x m m0 m1 J Jx hY W ((hW.cell (p:=⟨Bm,0,none⟩) (eQ hBm)).trans hBm) ((hW.cell (p:=⟨Bw,0,none⟩) (eQ hBw)).trans hBw) h0
theorem Kx (x:Int)(k:Nat):((cameUpTo x k).filter fun y=>y.2).map (fun y=>y.1)=onN x k:=by
 induction k with
 |zero=>rfl
 |succ k ih =>
  rw[nh,List.filter_append,List.map_append,ih,pC]
  cases eJ x k<;>rfl
def qG (pre:List (Nat×Bool)):Int:=((pre.filter fun y=>y.2).length:Int)
theorem Ik (pre:List (Nat×Bool))(k:Nat):qG (pre++ [(k,true)])=qG pre+1:=by simp[qG]
theorem Ky (pre:List (Nat×Bool))(k:Nat):qG (pre++ [(k,false)])=qG pre:=by simp[qG]
theorem Il (pre:List (Nat×Bool)):0≤qG pre∧qG pre≤pre.length:=by
 have:=List.length_filter_le (fun y:Nat×Bool=>y.2) pre
 unfold qG;omega
theorem zA (x n:Int):qG (cameUpTo x (endN n))=dv x n:=by
 unfold qG dv
 rw[←Kx,List.length_map]
theorem Kz (x n:Int)(n0: -9223372036854775808≤n)(n1:n≤9223372036854775807)(w:World):Calls Tryz.prog 148 #[.int .i64 x,.int .i64 n] w (aP w (.int .i64 (dv x n))):=by
 suffices H:CallsIn Fence.wide 3 Tryz.prog 148 #[.int .i64 x,.int .i64 n] w fun e W'=>e=.returned (.int .i64 (dv x n))∧Below w.heap.size w W' from
  (callsIn_wide (n:=3)).1 (H.mono fun e W' ⟨he,hb⟩=>⟨he,jX hb⟩)
 have he:=xF n
 refine callsIn_of_wp_marks Tryz.func148 rfl trivial ?_ rfl
 simp only[Tryz.ntmps148,List.size_toArray,List.length_cons,List.length_nil,Nat.reduceAdd,Nat.reduceSub,Array.replicate_succ,Array.replicate_zero,List.push_toArray,List.append_toArray,List.nil_append,List.cons_append]
 gi_wp2_with (refine⟨trivial,?_⟩;gi_at_call 154;refine(DK _ x n _).mono ?_;rintro e w' ⟨rfl,rfl⟩)
 have bC:=Boxed.new w 3 (.int .i64 0)
 have bX:=Boxed.new (w.alloc (.cells #[.int .i64 0] 3)) 3 (.int .i64 x)
 have bN:=Boxed.new ((w.alloc (.cells #[.int .i64 0] 3)).alloc (.cells #[.int .i64 x] 3)) 3 (.int .i64 n)
 simp only[World.size_alloc] at bX bN
 have hB0:Below w.heap.size w (((w.alloc (.cells #[.int .i64 0] 3)).alloc (.cells #[.int .i64 x] 3)).alloc (.cells #[.int .i64 n] 3)):=(((Below.refl _ w).alloc (Nat.le_refl _) _).alloc (by simp) _).alloc (by simp;omega) _
 refine wpIn_rangeFunc_ownG rfl (by omega) (gf:=162) (lb:=#[.pointer (some ⟨w.heap.size+1+1,0,none⟩),.pointer (some ⟨w.heap.size+1,0,none⟩)]) rfl trivial (enters_of Tryz.func162 (by kernel_rfl) rfl)
  (tw 2 (by omega) (w.heap.size+1+1) (w.heap.size+1) x n n0 n1 _ bN.cell (bX.alloc _).cell) (fun h k=>h.trans k) (sM (by simp) (by simp)) (Below.refl _ _) (fun _=>rfl)
  (fun pre W=>(W.cell? ⟨w.heap.size,0,none⟩=some (.int .i64 (qG pre))∧W.frozen? ⟨w.heap.size,0,none⟩=false)∧Below w.heap.size w W)
  (fun _ _ _=>False)
  (OwnFrom.and (Own.from (fun s A B row hs hg hr=>⟨cell_kept hs.1 hg hr,(frozen_kept hs.1 hg hr).trans hs.2⟩) _) (ownFrom_below (Nat.le_refl _) (by simp;omega)))
  (fun _ _ _ _ _ hs _ _=>hs)
  ⟨⟨((bC.alloc _).alloc _).cell,((bC.alloc _).alloc _).frozen⟩,hB0⟩
  (fun y=> { tmps:= #[.int .i64 x,.int .i64 n,undef,undef,.int .i64 0,.pointer (some ⟨w.heap.size,0,none⟩),undef,.bool y.2,.int .i64 x,.int .i64 n,.func (.func 162) #[] #[.pointer (some ⟨w.heap.size+1+1,0,none⟩),.pointer (some ⟨w.heap.size+1,0,none⟩)],.int .i64 (y.1:Int),.bool y.2,undef,undef,undef,undef],defers:= [] }) ?assign ?body ?done ?stop
 case assign =>
  intro l y W K hK
  gi_wp2
  exact hK
 case body =>
  rintro l pre ⟨j,b⟩ W ⟨⟨hc,hf⟩,hB⟩ hlt
  obtain⟨s0,s1⟩:=Il pre
  cases b with
  |false =>
   gi_wp2
   exact⟨KeepsFrom.refl _ _,fg.refl _ _ _,⟨by rw[Ky];exact hc,hf⟩,hB⟩
  |true =>
   have HS:=hQQ (Ik pre j)
   generalize qG pre=S at hc s0 s1 HS
   gi_wp2
   exact⟨(KeepsOthers.setCell _ _ _).from _,fg.setCell _ _ (by omega) (by omega),⟨by rw[HS.o];exact World.cell?_setCell_same' _ _ _ (by rw[hc];rfl),by rw[World.frozen?_setCell];exact hf⟩,hB.setCell (p:=⟨w.heap.size,0,none⟩) (Nat.le_refl _) _⟩
 case done =>
  rintro D ys W hD rfl ⟨⟨hc,_⟩,hB⟩ hK
  rw[zA] at hc
  gi_wp2
  refine⟨by simp,.inl ⟨_,_,rfl,run_takeDeferred hK,?_⟩⟩
  exact⟨_,results_tmp rfl _ _ _,rfl,hB.trans (belowK_b (w:=w) (Nat.le_refl _) W D _ _ (by simp at hD;omega) hK rfl rfl)⟩
 case stop =>
  rintro D c pre W _ _ h _
  exact h.elim
theorem Cb {x n:Int}(h:∀p∈cameUpTo x (endN n),p.2=true):bP x n= -1 :=
 vQ fun i hi=>h (i,eJ x i) (by simp only[cameUpTo,List.mem_map,List.mem_range];exact⟨i,hi,rfl⟩)
theorem Cc {x n:Int}{k:Nat}(hk:k≤endN n){ini:List (Nat×Bool)}{last:Nat×Bool}(e:cameUpTo x k=ini++ [last])(h:∀p∈ini,p.2=true)(hl:last.2=false):bP x n=(last.1:Int):=by
 obtain⟨k',rfl⟩:∃k',k=k'+1:=by
  cases k with
  |zero=>simp[cameUpTo] at e
  |succ k'=>exact⟨k',rfl⟩
 rw[nh] at e
 obtain⟨e1,e2⟩:=List.append_inj' e rfl
 have e3:(k',eJ x k')=last:=by simpa using e2
 subst e1 e3
 exact na (by omega) hl fun i hi=>h (i,eJ x i) (by simp only[cameUpTo,List.mem_map,List.mem_range];exact⟨i,hi,rfl⟩)
theorem KA (x n:Int)(n0: -9223372036854775808≤n)(n1:n≤9223372036854775807)(w:World):Calls Tryz.prog 141 #[.int .i64 x,.int .i64 n] w (aP w (.int .i64 (bP x n))):=by
 suffices H:CallsIn Fence.wide 3 Tryz.prog 141 #[.int .i64 x,.int .i64 n] w fun e W'=>e=.returned (.int .i64 (bP x n))∧Below w.heap.size w W' from
  (callsIn_wide (n:=3)).1 (H.mono fun e W' ⟨he,hb⟩=>⟨he,jX hb⟩)
 refine callsIn_of_wp_marks Tryz.func141 rfl trivial ?_ rfl
 simp only[Tryz.ntmps141,List.size_toArray,List.length_cons,List.length_nil,Nat.reduceAdd,Nat.reduceSub,Array.replicate_succ,Array.replicate_zero,List.push_toArray,List.append_toArray,List.nil_append,List.cons_append]
 gi_wp2_with (refine⟨trivial,?_⟩;gi_at_call 154;refine(DK _ x n _).mono ?_;rintro e w' ⟨rfl,rfl⟩)
 have bC:=Boxed.new w 3 (.int .i64 0)
 have bX:=Boxed.new (w.alloc (.cells #[.int .i64 0] 3)) 3 (.int .i64 x)
 have bN:=Boxed.new ((w.alloc (.cells #[.int .i64 0] 3)).alloc (.cells #[.int .i64 x] 3)) 3 (.int .i64 n)
 simp only[World.size_alloc] at bX bN
 have hB0:Below w.heap.size w (((w.alloc (.cells #[.int .i64 0] 3)).alloc (.cells #[.int .i64 x] 3)).alloc (.cells #[.int .i64 n] 3)):=(((Below.refl _ w).alloc (Nat.le_refl _) _).alloc (by simp) _).alloc (by simp;omega) _
 refine wpIn_rangeFunc_ownG rfl (by omega) (gf:=162) (lb:=#[.pointer (some ⟨w.heap.size+1+1,0,none⟩),.pointer (some ⟨w.heap.size+1,0,none⟩)]) rfl trivial (enters_of Tryz.func162 (by kernel_rfl) rfl)
  (tw 2 (by omega) (w.heap.size+1+1) (w.heap.size+1) x n n0 n1 _ bN.cell (bX.alloc _).cell) (fun h k=>h.trans k) (sM (by simp) (by simp)) (Below.refl _ _) (fun _=>rfl)
  (fun pre W=>((∀p∈pre,p.2=true)∧W.cell? ⟨w.heap.size,0,none⟩=some (.int .i64 0)∧W.frozen? ⟨w.heap.size,0,none⟩=false)∧Below w.heap.size w W)
  (fun c pre W=>(c=.ret∧∃ini last,pre=ini++ [last]∧(∀p∈ini,p.2=true)∧last.2=false∧W.cell? ⟨w.heap.size,0,none⟩=some (.int .i64 (last.1:Int)))∧Below w.heap.size w W)
  (OwnFrom.and (Own.from (fun s A B row hs hg hr=>⟨hs.1,cell_kept hs.2.1 hg hr,(frozen_kept hs.2.1 hg hr).trans hs.2.2⟩) _) (ownFrom_below (Nat.le_refl _) (by simp;omega)))
  (fun c=>OwnFrom.and (Own.from (fun s A B row hs hg hr=>by obtain⟨hc,ini,last,e1,e2,e3,e4⟩:=hs;exact⟨hc,ini,last,e1,e2,e3,cell_kept e4 hg hr⟩) _) (ownFrom_below (Nat.le_refl _) (by simp;omega)))
  ⟨⟨by simp,((bC.alloc _).alloc _).cell,((bC.alloc _).alloc _).frozen⟩,hB0⟩
  (fun y=> { tmps:= #[.int .i64 x,.int .i64 n,undef,undef,.pointer (some ⟨w.heap.size,0,none⟩),.int .i64 (y.1:Int),.bool y.2,.int .i64 x,.int .i64 n,.func (.func 162) #[] #[.pointer (some ⟨w.heap.size+1+1,0,none⟩),.pointer (some ⟨w.heap.size+1,0,none⟩)],.int .i64 (y.1:Int),.bool y.2,undef,undef,undef],defers:= [] }) ?assign ?body ?done ?stop
 case assign =>
  intro l y W K hK
  gi_wp2
  exact hK
 case body =>
  rintro l pre ⟨j,b⟩ W ⟨⟨hp,hcr,hfr⟩,hB⟩ hlt
  have HP:=hQQ hp
  clear hp
  cases b with
  |false =>
   gi_wp2
   exact⟨(KeepsOthers.setCell _ _ _).from _,⟨rfl,pre,(j,false),rfl,HP.o,rfl,World.cell?_setCell_same' _ _ _ (by rw[hcr];rfl)⟩,hB.setCell (p:=⟨w.heap.size,0,none⟩) (Nat.le_refl _) _⟩
  |true =>
   gi_wp2
   exact⟨KeepsFrom.refl _ _,fg.refl _ _ _,⟨fun p hp'=>(List.mem_append.1 hp').elim (HP.o p) (fun e=>by simp at e;subst e;rfl),hcr,hfr⟩,hB⟩
 case done =>
  rintro D ys W hD rfl ⟨⟨hne,hcr,hfr⟩,hB⟩ hK
  have HF:=hQQ (Cb hne)
  clear hne
  gi_wp2
  have hK':=(KeepsOthers.setCell W ⟨w.heap.size,0,none⟩ (.int .i64 (-1))).same D _ hK rfl
  refine⟨by simp,.inl ⟨_,_,rfl,run_takeDeferred hK',?_⟩⟩
  have hc5:=cell_kept (World.cell?_setCell_same' W ⟨w.heap.size,0,none⟩ (.int .i64 (-1)) (by rw[hcr];rfl)) (grownBy_putObj' _ D (.deferred none)) (fun r e=>by cases e;exact⟨_,hK',rfl⟩)
  refine⟨.int .i64 (-1),?_,by rw[HF.o],(hB.setCell (p:=⟨w.heap.size,0,none⟩) (Nat.le_refl _) _).trans (belowK_b (w:=w) (Nat.le_refl _) _ D _ _ (by simp at hD;omega) hK' rfl rfl)⟩
  simp[results,Tryz.f141,go_sem,hc5]
 case stop =>
  rintro D c pre W hD ⟨k,hk,rfl⟩ ⟨⟨rfl,ini,last,e1,e2,e3,hcr⟩,hB⟩ hK
  have HF:=hQQ (Cc hk e1 e2 e3)
  clear e1 e2 e3
  gi_wp2
  refine⟨by simp,.inl ⟨_,_,rfl,run_takeDeferred hK,?_⟩⟩
  have hc5:=cell_kept hcr (grownBy_putObj' _ D (.deferred none)) (fun r e=>by cases e;exact⟨_,hK,rfl⟩)
  refine⟨.int .i64 (last.1:Int),?_,by rw[HF.o],hB.trans (belowK_b (w:=w) (Nat.le_refl _) W D _ _ (by simp at hD;omega) hK rfl rfl)⟩
  simp[results,Tryz.f141,go_sem,hc5]
open Go.ChangeShapes Go.WideShapes Go.ChangeAt
def szV (c:Int):Int:=if c=0 then 1 else if c=1 then 2 else if c=2 then 4 else if c=3 then 8 else if c=4 then 16 else 0
def aw (c:Int):Int:=if c=0 then 32 else if c=1 then 16 else if c=2 then 8 else if c=3 then 4 else if c=4 then 2 else 0
def szT (k:Nat):Int:=2 ^ k
theorem xH {k:Nat}(h:k≤4):k=0∨k=1∨k=2∨k=3∨k=4:=by omega
theorem Nn {k:Nat}(h:k<8):k=0∨k=1∨k=2∨k=3∨k=4∨k=5∨k=6∨k=7:=by omega
theorem DM {c:Int}(h:c<0∨4<c):szV c=0:=by
 unfold szV
 rw[if_neg (by omega),if_neg (by omega),if_neg (by omega),if_neg (by omega),if_neg (by omega)]
theorem zB {c:Int}(h:c<0∨4<c):aw c=0:=by
 unfold aw
 rw[if_neg (by omega),if_neg (by omega),if_neg (by omega),if_neg (by omega),if_neg (by omega)]
theorem KE {k:Nat}(h:k≤4):1≤szV k∧szV k≤16:=by
 rcases xH h with rfl|rfl|rfl|rfl|rfl<;>decide
theorem rh {k:Nat}(h:k≤4):(32:Int).tdiv (szV k)=aw k∧2≤aw k∧aw k≤32:=by
 rcases xH h with rfl|rfl|rfl|rfl|rfl<;>decide
theorem Fi {c:Int}(h:0≤c∧c≤4):aw c=fV c:=by
 obtain⟨k,rfl⟩:∃k:Nat,c=k:=⟨c.toNat,by omega⟩
 rcases xH (show k≤4 by omega) with rfl|rfl|rfl|rfl|rfl<;>decide
theorem Im (c:Int):0≤aw c∧aw c≤32:=by unfold aw; (repeat' split)<;>omega
theorem Np {k:Nat}(h:k<5):szT k=szV k:=by
 rcases xH (show k≤4 by omega) with rfl|rfl|rfl|rfl|rfl<;>rfl
def laidL {H : Type} : List (String × DataW H) := [("assart/class.sizes", Rows.laid_assart_class_sizes)]
theorem gSizes : Tryz.prog.globalNamed "assart/class.sizes" = some 0 := by kernel_rfl
theorem Nq:(Tryz.prog.globals[0]?).map (·.type)=some 29:=by kernel_rfl
theorem Io (os:Os)(args:Array Value):laidMetH Tryz.prog laidL ((World.doorLaid Tryz.prog 400 os).forCall (fun _ _=>0) ⟨#[],args,[]⟩).memory :=
 laidMetH_of_parts3 (fuel:=8) (laidMet_of_run' 8 (by kernel_rfl) (by kernel_rfl)) (by kernel_rfl) (by kernel_rfl)
def pD (W:World):Prop:=∃b o cap,W.cell? ⟨0,0,none⟩=some (.slice (some ⟨b,o,none⟩) 8 cap)∧8≤cap∧b<W.heap.size∧∀i:Nat,i<8→W.cell? ⟨b,o+i,none⟩=some (.int .i64 (szT i))
theorem KF {W:World}(h:laidMetH Tryz.prog laidL W):pD W:=by
 rw[MakeChecks.laidMetH_plain _ _ _ (by kernel_rfl)] at h
 obtain⟨ps,⟨g0,t0,cs0,f0,p0,q0,hg0,ht0,hv0,hd0,hrest⟩,_,_⟩:=h
 obtain rfl:=Option.some.inj (gSizes.symm.trans hg0)
 obtain rfl:=Option.some.inj (Nq.symm.trans ht0)
 have hcell:=World.var?_cell hg0 hv0 0
 rcases open_ints Tryz.underlying29 Tryz.underlying3 (by kernel_rfl) hd0 with⟨_,hx⟩|⟨⟨b,o,spot⟩,len,cap,zs,hcs,_,hlc,_,hzl,hx,hc,_⟩
 ·simp[Rows.laid_assart_class_sizes] at hx
 simp only[Prod.mk.injEq,Rows.laid_assart_class_sizes,DataW.slice.injEq] at hx
 obtain⟨⟨h1,h2⟩,_⟩:=hx
 have hcap:zs.length=cap:=by simpa using hzl
 have hz:zs.take len= [1,2,4,8,16,32,64,128]:=by
  have inj:∀l:List Int,([.lit (.int .i64 1),.lit (.int .i64 2),.lit (.int .i64 4),.lit (.int .i64 8),.lit (.int .i64 16),.lit (.int .i64 32),.lit (.int .i64 64),.lit (.int .i64 128)]:List (DataW Unit))=lits .i64 l→l= [1,2,4,8,16,32,64,128]:=by
   intro l hl
   match l with
   | []=>simp[lits] at hl
   | [a]=>simp[lits] at hl
   | [a,b]=>simp[lits] at hl
   | [a,b,c]=>simp[lits] at hl
   | [a,b,c,d]=>simp[lits] at hl
   | [a,b,c,d,e]=>simp[lits] at hl
   | [a,b,c,d,e,f]=>simp[lits] at hl
   | [a,b,c,d,e,f,g]=>simp[lits] at hl
   | [a,b,c,d,e,f,g,h]=>simp[lits] at hl;simp;omega
   |a::b::c::d::e::f::g::h::i::r=>simp[lits] at hl
  exact inj _ h1
 have hlen:len=8:=by
  have:=congrArg List.length hz
  simp at this
  omega
 subst hlen
 have hall:∀i:Nat,i<8→zs.getD i 0=szT i:=by
  intro i hi
  have h3:(zs.take 8).getD i 0=([1,2,4,8,16,32,64,128]:List Int).getD i 0:=by rw[hz]
  have h4:(zs.take 8).getD i 0=zs.getD i 0:=by simp[List.getD,List.getElem?_take,hi]
  rw[←h4,h3]
  rcases Nn hi with rfl|rfl|rfl|rfl|rfl|rfl|rfl|rfl<;>rfl
 have hlz:8≤zs.length:=by omega
 have hspot:spot=none:=by simpa [Addr.add] using World.cell?_spot (hc 0 (by omega))
 subst hspot
 have hcells:∀i:Nat,i<8→W.cell? ⟨b,o+i,none⟩=some (.int .i64 (szT i)):=fun i hi=>by
  rw[←i7,hc i (by omega),hall i hi]
 refine⟨b,o,cap,?_,by omega,eQ (hcells 0 (by omega)),hcells⟩
 rw[hcell]
 have:cs0= #[.slice (some ⟨b,o,none⟩) 8 cap]:=by cases cs0;simpa using hcs
 rw[this];rfl
theorem xI (c:Int)(w:World)(h:pD w):Calls Tryz.prog 26 #[.int .i64 c] w fun e w'=>e=.returned (.int .i64 (szV c))∧w'=w:=by
 by_cases hc:0≤c∧c<5
 ·obtain⟨k,rfl⟩:∃k:Nat,c=k:=⟨c.toNat,by omega⟩
  obtain⟨b,o,cap,h1,h2,h3,h4⟩:=h
  have hk:k<5:=by omega
  have x1:=h4 k (by omega)
  rw[Np hk] at x1
  have d0:decide ((k:Int)<0)=false:=by simp
  have d1:decide ((5:Int)≤(k:Int))=false:=by simp;omega
  have d1b:decide (5≤k)=false:=by simp;omega
  have d2:(k:Int)<8:=by omega
  have d3:k<8:=by omega
  clear h4 hc
  go_enter Tryz.func26,Tryz.ntmps26
  go_wp2_with fail
  go_ret
  exact⟨rfl,rfl⟩
 ·rw[DM (by omega)]
  by_cases c0:c<0
  ·have d0:decide (c<0)=true:=by simp;omega
   go_enter Tryz.func26,Tryz.ntmps26
   go_wp2_with fail
   go_ret
   exact⟨rfl,rfl⟩
  ·have d0:decide (c<0)=false:=by simp;omega
   have d1:decide (5≤c)=true:=by simp;omega
   go_enter Tryz.func26,Tryz.ntmps26
   go_wp2_with fail
   go_ret
   exact⟨rfl,rfl⟩
theorem zC (c:Int)(w:World)(h:pD w):Calls Tryz.prog 91 #[.int .i64 c] w fun e w'=>e=.returned (.int .i64 (aw c))∧w'=w:=by
 by_cases hc:0≤c∧c<5
 ·obtain⟨k,rfl⟩:∃k:Nat,c=k:=⟨c.toNat,by omega⟩
  have hk:k≤4:=by omega
  have sb:=KE hk
  obtain⟨s1,s2,s3⟩:=rh hk
  have d2:(szV k==0)=false:=by simp;omega
  have q0:IntKind.i64.wrap ((32:Int).tdiv (szV k))=aw k:=by rw[s1];exact az (by omega) (by omega)
  clear s1 hc
  go_enter Tryz.func91,Tryz.ntmps91
  go_wp2_with fail
  refine(xI _ _ h).mono ?_
  rintro e w1 ⟨rfl,rfl⟩
  go_wp2_with fail
  go_ret
  exact⟨rfl,rfl⟩
 ·have HK:Hq (∀W,pD W→Calls Tryz.prog 26 #[.int .i64 c] W fun e w'=>e=.returned (.int .i64 0)∧w'=W):=fun W hW=>by
   have:=xI c W hW
   rwa [DM (by omega)] at this
  rw[zB (by omega)]
  go_enter Tryz.func91,Tryz.ntmps91
  go_wp2_with fail
  refine(HK.o _ h).mono ?_
  rintro e w1 ⟨rfl,rfl⟩
  go_wp2_with fail
  go_ret
  exact⟨rfl,rfl⟩
theorem Fj (c:Int)(w:World)(h:pD w):Calls Tryz.prog 91 #[.int .i64 c] w fun e w'=>e=.returned (.int .i64 (aw c))∧w=w':=(zC c w h).mono fun e w' q=>⟨q.1,q.2.symm⟩
open Go.Sort Go.Maps
def dd (b:Nat)(W:World):Prop:=∃o cap,W.cell? ⟨0,0,none⟩=some (.slice (some ⟨b,o,none⟩) 8 cap)∧8≤cap∧b<W.heap.size∧∀i:Nat,i<8→W.cell? ⟨b,o+i,none⟩=some (.int .i64 (szT i))
theorem dd.sizes {b:Nat}{w:World}(h:dd b w):pD w:=⟨b,h⟩
theorem dd.lt {b:Nat}{w:World}(h:dd b w):b<w.heap.size:=by obtain⟨_,_,_,_,h,_⟩:=h;exact h
theorem dd.lt0 {b:Nat}{w:World}(h:dd b w):0<w.heap.size:=by obtain⟨_,_,h,_⟩:=h;exact eQ h
theorem dd.keep {b:Nat}{w w':World}{S:Nat→Prop}(h:dd b w)(t:Turned S w w')(n0:¬S 0)(nb:¬S b):dd b w':=by
 have hc:∀k,¬S k→∀j v,w.cell? ⟨k,j,none⟩=some v→w'.cell? ⟨k,j,none⟩=some v:=fun k nk j v q=>by
  rw[World.cell?_of_block (w:=w) (t.block k (eQ q) nk)];exact q
 obtain⟨o,cap,h1,h2,h3,h4⟩:=h
 exact⟨o,cap,hc _ n0 _ _ h1,h2,Nat.lt_of_lt_of_le h3 t.size,fun i hi=>hc _ nb _ _ (h4 i hi)⟩
theorem dd.more {b:Nat}{w w':World}(h:dd b w)(t:ae w w'):dd b w':=h.keep t (fun q=>q) (fun q=>q)
theorem zD {c:Cfg}(R:c.Ok){n:Nat}(H:cB c.pg c.st n)(F:Nat→Prop)(p:Nat)(kn:Int→Option Int)(D:List KV)(cl:Int)(w:World)(hv:aD w F p kn D)(hk:OkK kn)(hD:cC n D)(b:Nat)(hs:dd b w)(nF0:¬F 0)(nFb:¬F b):
 Calls Tryz.prog 53 #[.pointer (some ⟨p,0,none⟩),.agg c.arr,.int .i64 cl] w (aG w F p kn (fun x=> .int .i64 x) (eZ c.pg c.st cl (aw cl).toNat 1 kn D)):=by
 obtain⟨Rr,hRr⟩:∃Rr,eZ c.pg c.st cl (aw cl).toNat 1 kn D=Rr:=⟨_,rfl⟩
 rw[hRr]
 obtain⟨w1,e1,hl1,m1,s1⟩:=a6 w (.cells c.arr 28)
 have nFl:¬F w.heap.size:=fun q=>by have:=hv.lt _ q;omega
 have MM:=hQQ m1
 have L0:=hQQ hl1
 have M0:=m0Z (hv.more m1) hD
 have KL:=klZ (p:=p) (kn:=kn) (n:=n) L0.o nFl
 have NEED:=ndZ (F:=F) (p:=p) (kn:=kn) (R:=Rr) (fun x:Int=>Value.int .i64 x) MM.o
 have DONE:=dnZ (F:=F) (p:=p) (n:=n) (kn:=kn) (R:=Rr) (fun x:Int=>Value.int .i64 x) MM.o
 have HK:=hQQ hk
 have HR:=hQQ R
 have HH:=hQQ H
 clear hl1 m1 hv hD hk R H nFl
 have SZ:Hq (∀wr D' F',MidV w1 wr F (fun _=>False) p kn n D' F'→pD wr):=hQQ fun wr D' F' h=>((hs.more MM.o).keep h.turn (by rintro(q|q);exact nF0 q;exact q) (by rintro(q|q);exact nFb q;exact q)).sizes
 have HRr:=hQQ hRr
 have hsl:=Im cl
 clear hRr hs nF0 nFb
 go_enter Tryz.func53,Tryz.ntmps53
 go_wp2_with fail
 go_loopw [7] (fun v7 wr=>∃(f:Int) (k:Nat) (D':List KV) (F':Nat→Prop),v7=.int .i64 f∧1≤f∧f+k=aw cl+1∧MidV w1 wr F (fun _=>False) p kn n D' F'∧eZ c.pg c.st cl k f kn D'=Rr) (fun v7 _=>(aw cl+1-intOf v7).toNat)
 case atStart=>exact⟨1,(aw cl).toNat,D,F,rfl,by omega,by omega,M0.o,HRr.o⟩
 case round =>
  clear HRr
  obtain⟨f,k,D',F',rfl,hf1,hfk,MI,hrest⟩:=hrel
  have MI:=hQQ MI
  go_wp2_with fail
  refine(Fj cl wr (SZ.o _ _ _ MI.o)).mono ?_
  rintro e w9 ⟨rfl,rfl⟩
  match k with
  | 0 =>
    have d1:decide (f≤aw cl)=false:=by simp;omega
    have FIN:=hQQ (DONE.o (-1) _ D' F' hrest.symm MI.o)
    clear hrest
    go_wp2_with fail
    go_ret
    exact FIN.o
  |k+1 =>
   have d1:decide (f≤aw cl)=true:=by simp;omega
   have qf:IntKind.i64.wrap (f+1)=f+1:=az (by omega) (by omega)
   have RI:=hQQ (show ak (eh c.pg (aF c.pg c.st cl f)) (fun q=>if q= -1 then eZ c.pg c.st cl k (f+1) else ay q) kn D'=Rr from hrest)
   clear hrest
   go_wp2_with fail
   refine aM (TrC c w.heap.size) (by kernel_rfl) ?_
   have MR:=hQQ (MI.o.more ((ae.refl wr).drewN 1))
   change dc _ _ _ _ _ _ _ _ (wr.drewN 1)
   generalize wr.drewN 1=wq at MR⊢
   generalize hA:Act.mk _ _=A
   have HF:AG 25 A [(0,.pointer (some ⟨p,0,none⟩)),(1,.agg c.arr),(2,.int .i64 cl),(4,.pointer (some ⟨w.heap.size,0,none⟩)),(7,.int .i64 f)]:=by
    rw[←hA];try simp only[pts,List.foldl]
    refine⟨⟨Nat.le_of_ble_eq_true rfl,rfl⟩,?_⟩
    intro z hz;simp only[List.mem_cons,List.not_mem_nil,or_false] at hz;rcases hz with rfl|rfl|rfl|rfl|rfl<;>rfl
   refine bH (fun a W=>∃(u15 u16 u17 u18 u19 u20:Value) (x9:Int) (D9:List KV) (F9:Nat→Prop),a=(pts A [(15,u15),(16,u16),(17,u17),(18,u18),(19,u19),(20,u20),(21,.int .i64 x9),(8,.int .i64 x9)])∧MidV w1 W F (fun _=>False) p kn n D9 F9∧(if x9= -1 then eZ c.pg c.st cl k (f+1) else ay x9) kn D9=Rr) (fun W=>aG w F p kn (fun x:Int=>Value.int .i64 x) Rr (.panicked (bg p)) W) (bg p) (fun a W hd h=>⟨hd,h⟩) (fun _ _ _ _ _ h=>h) ?_ ?_
   ·skip
    rintro a wa ⟨u15,u16,u17,u18,u19,u20,x9,D9,F9,rfl,MS,RS⟩
    rw[←hA];try simp only[pts,List.foldl]
    replace MS:=hQQ MS
    clear HF hA MR RI MI
    go_simp
    by_cases hx:x9= -1
    ·have d2:(x9 != -1)=false:=by simp[hx]
     rw[if_pos hx] at RS
     replace RS:=hQQ RS
     clear hx
     go_wp2_with fail
     go_roundw
     case rel=>exact⟨f+1,k,D9,F9,by go_num,by omega,by omega,MS.o,RS.o⟩
     case measure=>simp[intOf];omega
    ·have d2:(x9 != -1)=true:=by simp[hx]
     rw[if_neg hx] at RS
     have FIN:=hQQ (DONE.o x9 wa D9 F9 RS.symm MS.o)
     clear RS hx
     go_wp2_with fail
     go_ret
     exact FIN.o
   intro QQ FINE FIND FINQ
   clear hA
   refine tqM 0 15 0 rfl (.inl rfl) rfl (by kernel_rfl) FINQ (KL.o _ _ _ MR.o) HF fun A β1 HF=>?_
   refine tqC 1 16 (.agg c.arr) (by kernel_rfl) FINQ (KL.o _ _ _ MR.o) HF (by exact aC (ab rfl) 28 _ rfl w.heap.size (HF.get 4 rfl) 28 _ _ _ (fun W hW=>hW) Tryz.underlying28 rfl (by kernel_rfl)) fun A β2 HF=>?_
   refine tqC 2 17 (.agg c.arr) (by kernel_rfl) FINQ (KL.o _ _ _ MR.o) HF (by exact aC (ab rfl) 28 _ rfl w.heap.size (HF.get 5 rfl) 28 _ _ _ (fun W hW=>hW) Tryz.underlying28 rfl (by kernel_rfl)) fun A β3 HF=>?_
   refine tqM 3 18 5 rfl (.inl rfl) rfl (by kernel_rfl) FINQ (KL.o _ _ _ MR.o) HF fun A β4 HF=>?_
   refine tqM 4 19 8 rfl (.inl rfl) rfl (by kernel_rfl) FINQ (KL.o _ _ _ MR.o) HF fun A β5 HF=>?_
   refine tqO 5 20 (by kernel_rfl) HF fun K hK=>?_
   refine du (v0:=.agg c.arr) (v1:=.int .i64 cl) (v2:=.int .i64 f) rfl (HF.get 2 rfl) (HF.get 1 rfl) (HF.get 0 rfl) (enters_of Tryz.func93 (by kernel_rfl) rfl) ?_
   refine(kX HR.o wq cl f).mono ?_
   rintro e w4 ⟨rfl,h4⟩
   have M4:=hQQ (MR.o.more h4)
   clear h4
   refine hK _ _ (KL.o _ _ _ M4.o) fun A β6 HF=>?_
   clear hK K
   refine tqO 6 21 (by kernel_rfl) HF fun K hK=>?_
   refine du (v0:=.pointer (some ⟨p,0,none⟩)) (v1:=.agg c.arr) (v2:=.int .i64 (aF c.pg c.st cl f)) rfl (HF.get 5 rfl) (HF.get 4 rfl) (HF.get 0 rfl) (enters_of Tryz.func92 (by kernel_rfl) rfl) ?_
   refine(lY HR.o HH.o F' p kn D' (aF c.pg c.st cl f) (bD HH.o).2.2 (bD HH.o).2.1 w4 M4.o.view HK.o M4.o.inv).mono ?_
   intro e w5 he
   rcases M4.o.step (ae.refl _) HK.o (dl HH.o (bD HH.o).2.1) he with⟨a',hE,rfl,hd',ht',_⟩|⟨x5,D5,F5,hE,rfl,M5,hq5,_,_⟩
   ·exact FIND _ _ HF.1.2 (NEED.o a' w5 (RI.o.symm.trans (ag hE)) hd' ht')
   have R5:=hQQ ((aj hE).symm.trans RI.o)
   have M5:=hQQ M5
   clear he hE
   refine hK _ _ (KL.o _ _ _ M5.o) fun A β7 HF=>?_
   clear hK K
   refine tqM 7 8 0 rfl (.inr rfl) rfl (by kernel_rfl) FINQ (KL.o _ _ _ M5.o) HF fun A β8 HF=>?_
   exact bI (by kernel_rfl) (FINE _ _ ⟨(.pointer (some ⟨p,0,none⟩)),(.agg c.arr),(.agg c.arr),(.int .i64 cl),(.int .i64 f),(.int .i64 (aF c.pg c.st cl f)),x5,D5,F5,by rw[← β8,← β7,← β6,← β5,← β4,← β3,← β2,← β1]<;>rfl,M5.o,R5.o⟩)
theorem DN {c:Cfg}(R:c.Ok){n:Nat}(H:PgIn c.pg c.st n)(F:Nat→Prop)(p:Nat)(kn:Int→Option Int)(D:List KV)(q k:Int)(hn:n≤10000)(hq:af c.pg q=true)(w:World)(hv:aD w F p kn D)(hk:OkK kn)(hD:cC n D):
 Calls Tryz.prog 128 #[.agg (bF c p q k)] w (aG w F p kn (fun x=> .int .i64 x) (cS (cA c.pg c.st q) kn D)):=by
 obtain⟨Rr,hRr⟩:∃Rr,cS (cA c.pg c.st q) kn D=Rr:=⟨_,rfl⟩
 rw[hRr]
 obtain⟨w1,e1,hl1,m1,s1⟩:=a6 w (.cells (bF c p q k) 90)
 have MM:=hQQ m1
 have L0:=hQQ hl1
 have c0:=(show w1.cell? ⟨w.heap.size,0,none⟩=some (.pointer (some ⟨p,0,none⟩)) by rw[cell_of_row w1 _ _ _ _ _ hl1];exact tj c p q k)
 have c25:=(show w1.cell? ⟨w.heap.size,25,none⟩=some (.int .i64 q) by rw[cell_of_row w1 _ _ _ _ _ hl1];exact tk c p q k)
 have c26:=(show w1.cell? ⟨w.heap.size,26,none⟩=some (.int .i64 k) by rw[cell_of_row w1 _ _ _ _ _ hl1];exact tn c p q k)
 have nFl:¬F w.heap.size:=fun z=>by have:=hv.lt _ z;omega
 have M0:=m0Z (hv.more m1) hD
 have NEED:=ndZ (F:=F) (p:=p) (kn:=kn) (R:=Rr) (fun x:Int=>Value.int .i64 x) MM.o
 have DONE:=dnZ (F:=F) (p:=p) (n:=n) (kn:=kn) (R:=Rr) (fun x:Int=>Value.int .i64 x) MM.o
 have HK:=hQQ hk
 have HR:=hQQ R
 clear hl1 m1 hv hD hk R nFl
 have hb:=(cj H hq).2.1
 have YB:=hQQ (fun W=>by have:=tt HR.o W q;rw[ta hq] at this;exact this)
 have HRr:=hQQ hRr
 have HB:=hQQ hb
 have pg2:=HR.o.pg2
 clear hRr hb hq
 go_enter Tryz.func128,Tryz.ntmps128
 go_wp2_with fail
 clear e1
 refine bM 7 (by kernel_rfl) (by kernel_rfl) ?_
 simp only[List.take_succ_cons,List.take_zero,List.drop_succ_cons,List.drop_zero]
 iterate 3
  with_reducible refine wpQuiet_step (fun K hK=>?_)
  go_simp
  first
  |(refine hK _ ?_;clear hK K)
  |(apply Exists.intro
    refine⟨fun W hW=>?_,hK _ ?_⟩
    first
    |(have c1':=hW.cell c0;go_simp;try rfl)
    clear hK K)
 refine dy rfl 28 _ rfl w.heap.size 1 rfl 90 _ c.arr _ _ (fun W hW=>hW.block L0.o) (gC c p q k) Tryz.underlying28 rfl (by kernel_rfl) ?_
 iterate 2
  with_reducible refine wpQuiet_step (fun K hK=>?_)
  go_simp
  first
  |(refine hK _ ?_;clear hK K)
  |(apply Exists.intro
    refine⟨fun W hW=>?_,hK _ ?_⟩
    first
    |(have c1':=hW.cell c25;go_simp;try rfl)
    clear hK K)
 iterate 1
  with_reducible refine wpQuiet_step (fun K hK=>?_)
  go_simp
  first
  |(refine hK _ ?_;clear hK K)
  |(apply Exists.intro
    refine⟨fun W hW=>?_,hK _ ?_⟩
    first
    |(go_at_call 134;exact Calls.more hW (YB.o W))
    |(go_simp;try rfl)
    clear hK K)
 refine wpQuiet_nil ?_
 intro w2 h2
 have M2:=hQQ (M0.o.more h2)
 clear h2 c0 c25 c26
 go_wp2_with fail
 refine(jj F p kn D (cA c.pg c.st q) w2 M2.o.view (by have:=HB.o;have:=M2.o.inv.len;unfold W64;omega)).mono ?_
 intro e w3 he
 rcases M2.o.step (ae.refl _) HK.o (bb n HB.o.2.1) he with⟨a',hE,rfl,hd',ht',_⟩|⟨x3,D3,F3,hE,rfl,M3,hq3,_,_⟩
 ·exact⟨rfl,NEED.o a' w3 (HRr.o.symm.trans hE) hd' ht'⟩
 have FIN:=hQQ (DONE.o x3 w3 D3 F3 (HRr.o.symm.trans hE) M3)
 clear he hE M3
 go_wp2_with fail
 go_ret
 exact FIN.o
theorem eL (k:Int):0≤aw k∧aw k≤32:=by unfold aw; (repeat' split)<;>omega
theorem rX (k:Int){bt:Nat}(w:World)(h:dd bt w):Calls Tryz.prog 91 #[.int .i64 k] w (aP w (.int .i64 (aw k))):=(zC k w ⟨bt,h⟩).mono fun e w' q=>⟨q.1,q.2▸ae.refl _⟩
theorem DP (k:Int){bt:Nat}(w:World)(h:dd bt w):Calls Tryz.prog 80 #[.int .i64 k] w (aP w (.bool (aw k != 0))):=by
 have HS:=hQQ h
 clear h
 go_enter Tryz.func80,Tryz.ntmps80
 go_wp2_with fail
 refine(rX k w HS.o).mono ?_
 obtain⟨z,hz⟩:∃z,aw k=z:=⟨_,rfl⟩
 rw[hz]
 have HZ:=hQQ hz
 clear hz
 rintro e w2 ⟨rfl,h2⟩
 have M2:=hQQ h2
 clear h2
 go_wp2_with fail
 go_ret
 exact⟨by rw[HZ.o];rfl,M2.o⟩
theorem Nr (c:Cfg)(p:Nat)(q k b:Int){bt:Nat}(w:World)(h:dd bt w)(hb:0≤dv b (aw k)∧dv b (aw k)≤32):
 Calls Tryz.prog 132 #[.agg (bF c p q k),.int .i64 b] w (aP w (.int .i64 (aw k-dv b (aw k)))):=by
 obtain⟨w1,e1,hl1,m1,s1⟩:=a6 w (.cells (bF c p q k) 90)
 have MM:=hQQ m1
 have L0:=hQQ hl1
 have c0:=(show w1.cell? ⟨w.heap.size,0,none⟩=some (.pointer (some ⟨p,0,none⟩)) by rw[cell_of_row w1 _ _ _ _ _ hl1];exact tj c p q k)
 have c25:=(show w1.cell? ⟨w.heap.size,25,none⟩=some (.int .i64 q) by rw[cell_of_row w1 _ _ _ _ _ hl1];exact tk c p q k)
 have c26:=(show w1.cell? ⟨w.heap.size,26,none⟩=some (.int .i64 k) by rw[cell_of_row w1 _ _ _ _ _ hl1];exact tn c p q k)
 have HS:=hQQ (h.more m1)
 have hs:=eL k
 have SC:=hQQ (fun W=>Kz b (aw k) (by omega) (by omega) W)
 have GS:=hQQ (rX k w1 HS.o)
 obtain⟨z,hz⟩:∃z,aw k=z:=⟨_,rfl⟩
 obtain⟨y,hy⟩:∃y,dv b (aw k)=y:=⟨_,rfl⟩
 rw[hy] at SC hb⊢
 rw[hz] at SC GS hs⊢
 have qs:IntKind.i64.wrap (z-y)=z-y:=az (by omega) (by omega)
 clear hl1 m1 h hz hy hs hb
 go_enter Tryz.func132,Tryz.ntmps132
 go_wp2_with fail
 clear e1 c0 c25 c26
 refine GS.o.mono ?_
 rintro e w2 ⟨rfl,h2⟩
 have M2:=hQQ h2
 clear h2
 go_wp2_with fail
 refine(SC.o w2).mono ?_
 rintro e w3 ⟨rfl,h3⟩
 have FIN:=hQQ (MM.o.trans (M2.o.trans h3))
 clear h3
 go_wp2_with fail
 go_ret
 exact⟨rfl,FIN.o⟩
theorem zE {c:Cfg}(R:c.Ok){n:Nat}(H:cB c.pg c.st n)(p:Nat)(nd q k was:Int)(gb wb:Nat)(w:World)(hd:bB w p nd)(hg:w.heap[gb]?=some (.cells (bF c p q k) 90 (0,0)))(hw:w.heap[wb]?=some (.cells #[.int .i64 was] 3 (0,0)))(u:FrameMode):
 CallsD Tryz.prog 129 #[.pointer (some ⟨gb,0,none⟩),.pointer (some ⟨wb,0,none⟩)] u w (fun e u' w'=>u'=u∧aP w (.tuple #[]) e w'):=by
 have L0:=hQQ hg
 have B0:=hQQ hw
 have c0:=(show w.cell? ⟨gb,0,none⟩=some (.pointer (some ⟨p,0,none⟩)) by rw[cell_of_row w _ _ _ _ _ hg];exact tj c p q k)
 have c25:=(show w.cell? ⟨gb,25,none⟩=some (.int .i64 q) by rw[cell_of_row w _ _ _ _ _ hg];exact tk c p q k)
 have c26:=(show w.cell? ⟨gb,26,none⟩=some (.int .i64 k) by rw[cell_of_row w _ _ _ _ _ hg];exact tn c p q k)
 have cw:=(aB hw).1
 have C0:=hQQ c0
 have C25:=hQQ c25
 have C26:=hQQ c26
 have DD:Hq (∀W,ae w W→bB W p nd):=hQQ fun W m=>hd.keep m (fun q=>q)
 have HR:=hQQ R
 have HH:=hQQ H
 clear hg hw hd R H
 go_enter_d Tryz.func129,Tryz.ntmps129
 go_wp2_with (refine iH rfl 28 _ rfl gb 1 rfl 90 _ c.arr _ _ L0.o (gC c p q k) Tryz.underlying28 rfl (by kernel_rfl) ?_)
 refine(Fb HR.o HH.o p nd q k was w (DD.o _ (ae.refl _))).mono ?_
 rintro e w2 ⟨rfl,h2⟩
 have M2:=hQQ h2
 have L2:=hQQ (h2.block L0.o)
 have C0:=hQQ (h2.cell C0.o)
 have C25:=hQQ (h2.cell C25.o)
 have C26:=hQQ (h2.cell C26.o)
 have CN:=hQQ (fun W (hW:ae w2 W)=>Ih HR.o p nd q k W (DD.o _ (M2.o.trans hW)))
 have LN:=hQQ (fun W (hW:ae w2 W)=>Ks HR.o HH.o p nd q k 0 W (DD.o _ (M2.o.trans hW)))
 obtain⟨z,hz⟩:∃z,(aF c.pg c.st k 0 != 0 && af c.pg q)=z:=⟨_,rfl⟩
 rw[hz] at LN
 clear h2 c0 c25 c26 cw hz
 go_wp2_with fail
 refine bS (by kernel_rfl) (by kernel_rfl) ?_
 iterate 2
  with_reducible refine wpQuiet_step (fun K hK=>?_)
  go_simp
  first
  |(refine hK _ ?_;clear hK K)
  |(apply Exists.intro
    refine⟨fun W hW=>?_,hK _ ?_⟩
    first
    |(have c1':=hW.cell C0.o;go_simp;try rfl)
    clear hK K)
 iterate 1
  with_reducible refine wpQuiet_step (fun K hK=>?_)
  go_simp
  first
  |(refine hK _ ?_;clear hK K)
  |(apply Exists.intro
    refine⟨fun W hW=>?_,hK _ ?_⟩
    first
    |(go_simp;try rfl)
    clear hK K)
 refine dy rfl 28 _ rfl gb 1 rfl 90 _ c.arr _ _ (fun W hW=>hW.block L2.o) (gC c p q k) Tryz.underlying28 rfl (by kernel_rfl) ?_
 iterate 4
  with_reducible refine wpQuiet_step (fun K hK=>?_)
  go_simp
  first
  |(refine hK _ ?_;clear hK K)
  |(apply Exists.intro
    refine⟨fun W hW=>?_,hK _ ?_⟩
    first
    |(have c1':=hW.cell C25.o;have c2':=hW.cell C26.o;go_simp;try rfl)
    clear hK K)
 refine aN rfl 90 _ rfl gb rfl 90 _ _ _ (fun W hW=>hW.block L2.o) Tryz.underlying90 rfl (by kernel_rfl) ?_
 iterate 1
  with_reducible refine wpQuiet_step (fun K hK=>?_)
  go_simp
  first
  |(refine hK _ ?_;clear hK K)
  |(apply Exists.intro
    refine⟨fun W hW=>?_,hK _ ?_⟩
    first
    |(go_at_call 128;exact Calls.more hW (CN.o W hW))
    |(go_simp;try rfl)
    clear hK K)
 iterate 1
  with_reducible refine wpQuiet_step (fun K hK=>?_)
  go_simp
  first
  |(refine hK _ ?_;clear hK K)
  |(apply Exists.intro
    refine⟨fun W hW=>?_,hK _ ?_⟩
    first
    |(go_at_call 131;exact Calls.more hW (LN.o W hW))
    |(go_simp;try rfl)
    clear hK K)
 refine wpQuiet_nil ?_
 intro w5 h5
 have FIN:=hQQ (M2.o.trans h5)
 clear h5
 go_wp2_with fail
 go_end0
 exact⟨rfl,FIN.o⟩
theorem Fk {pg st:Int}{n:Nat}(H:PgIn pg st n)(p m:Int):bQ n (fun b:Bool=>b=true→ce pg p m=true) (pq pg st p m):=
 aO (fun h=>de (vL H _ _) (fun _ _ _=>h)) (fun _=>ai n (fun h=>by cases h))
theorem Ns {c:Cfg}(R:c.Ok){n:Nat}(H:PgIn c.pg c.st n)(hn:n≤10000)(F:Nat→Prop)(p:Nat)(kn:Int→Option Int)(D:List KV)(q m k:Int)(hq:W64 q)(hm:W64 m)(hk6:W64 k)(w:World)(hv:aD w F p kn D)(hk:OkK kn)(hD:cC n D):
 Calls Tryz.prog 153 #[.pointer (some ⟨p,0,none⟩),.agg c.arr,.int .i64 q,.int .i64 m,.int .i64 k] w (aG w F p kn (fun b=> .bool b) (jm c.pg c.st q m k kn D)):=by
 obtain⟨Rr,hRr⟩:∃Rr,jm c.pg c.st q m k kn D=Rr:=⟨_,rfl⟩
 rw[hRr]
 obtain⟨w1,e1,hl1,m1,s1⟩:=a6 w (.cells c.arr 28)
 have nFl:¬F w.heap.size:=fun q=>by have:=hv.lt _ q;omega
 have MM:=hQQ m1
 have L0:=hQQ hl1
 have M0:=m0Z (hv.more m1) hD
 have KL:=klZ (p:=p) (kn:=kn) (n:=n) L0.o nFl
 have NEED:=ndZ (F:=F) (p:=p) (kn:=kn) (R:=Rr) (fun b:Bool=>Value.bool b) MM.o
 have DONE:=dnZ (F:=F) (p:=p) (n:=n) (kn:=kn) (R:=Rr) (fun b:Bool=>Value.bool b) MM.o
 have HK:=hQQ hk
 have HR:=hQQ R
 have HH:=hQQ H
 clear hl1 m1 hv hD hk R H nFl
 unfold jm at hRr
 have pg1:=HR.o.pg1
 have pg2:=HR.o.pg2
 cases hf:ow k m with
 |false =>
  rw[if_neg (by simp[hf])] at hRr
  have FIN:Hq (∀w2,ae w1 w2→aG w F p kn (fun b:Bool=>Value.bool b) Rr (.returned (.bool false)) w2):=hQQ fun w2 h=>DONE.o false w2 D F hRr.symm (M0.o.more h)
  clear hRr
  go_enter Tryz.func153,Tryz.ntmps153
  go_wp2_with fail
  refine(Ia k m _).mono ?_
  rw[hf]
  rintro e w2 ⟨rfl,h2⟩
  have F2:=hQQ (FIN.o w2 h2)
  clear h2
  go_wp2_with fail
  go_ret
  exact F2.o
 |true =>
  rw[if_pos hf] at hRr
  have HRr:=hQQ hRr
  clear hRr
  go_enter Tryz.func153,Tryz.ntmps153
  go_wp2_with fail
  refine(Ia k m _).mono ?_
  rw[hf]
  rintro e w2 ⟨rfl,h2⟩
  have M2:=hQQ (M0.o.more h2)
  have L2:=hQQ (KL.o _ _ _ M2.o)
  clear h2
  go_wp2_with (first|(refine aK rfl rfl rfl L2.o (by kernel_rfl) ?_)|(refine aK rfl rfl rfl L2.o (by kernel_rfl) ?_))
  refine(Ib HR.o HH.o F p kn D q m hq w2 M2.o.view HK.o M2.o.inv).mono ?_
  intro e w3 he
  rcases M2.o.step (ae.refl _) HK.o (Fk HH.o _ _) he with⟨a',hE,rfl,hd',ht',_⟩|⟨x3,D3,F3,hE,rfl,M3,hq3,_,_⟩
  ·exact⟨rfl,NEED.o a' w3 (HRr.o.symm.trans (ag hE)) hd' ht'⟩
  have L3:=hQQ (KL.o _ _ _ M3)
  have R3:=hQQ ((aj hE).symm.trans HRr.o)
  have M3:=hQQ M3
  clear he hE
  cases x3 with
  |false =>
   have FIN:=hQQ (DONE.o false w3 D3 F3 R3.o.symm M3.o)
   clear R3
   go_wp2_with fail
   go_ret
   exact FIN.o
  |true =>
   obtain⟨t0,t1,t2⟩:=dW.1 (hq3 rfl)
   have R3':=hQQ (show ak (gw c.pg c.st q m) (fun _=>ak (lD c.pg c.st q k (if k=6 then m else 0)) (fun _=>ak (iK c.pg c.st 7 (m-1).toNat (q+1)) (fun _=>ay true))) kn D3=Rr from R3.o)
   clear R3
   go_wp2_with (first|(refine aK rfl rfl rfl L3.o (by kernel_rfl) ?_)|(refine aK rfl rfl rfl L3.o (by kernel_rfl) ?_))
   refine(Hz HR.o HH.o.toTblIn hn F3 p kn D3 q m hq w3 M3.o.view HK.o M3.o.inv).mono ?_
   intro e w4 he
   rcases M3.o.step (ae.refl _) HK.o (pw HH.o _ _) he with⟨a',hE,rfl,hd',ht',_⟩|⟨x4,D4,F4,hE,rfl,M4,hq4,_,_⟩
   ·exact⟨rfl,NEED.o a' w4 (R3'.o.symm.trans (ag hE)) hd' ht'⟩
   have L4:=hQQ (KL.o _ _ _ M4)
   have R4:=hQQ ((aj hE).symm.trans R3'.o)
   have M4:=hQQ M4
   clear he hE
   by_cases h6:k=6
   ·have e6:(k==6)=true:=by simp[h6]
    have R4:=hQQ (by have:=R4.o;rwa [if_pos h6] at this)
    have hx6:=hm
    clear h6
    have qp:IntKind.i64.wrap (q+1)=q+1:=az (by omega) (by omega)
    have qe:IntKind.i64.wrap (q+m)=q+m:=az (by omega) (by omega)
    have hpg0:af c.pg q=true:=ax.2 ⟨by omega,by omega⟩
    go_wp2_with (first|(refine aK rfl rfl rfl L4.o (by kernel_rfl) ?_)|(refine aK rfl rfl rfl L4.o (by kernel_rfl) ?_))
    refine(zt HR.o HH.o hn F4 p kn D4 q k m hpg0 hk6 hx6 w4 M4.o.view HK.o M4.o.inv).mono ?_
    intro e w5 he
    rcases M4.o.step (ae.refl _) HK.o (kj HH.o hpg0 hk6 hx6) he with⟨a',hE,rfl,hd',ht',_⟩|⟨x5,D5,F5,hE,rfl,M5,hq5,_,_⟩
    ·exact⟨rfl,NEED.o a' w5 (R4.o.symm.trans (ag hE)) hd' ht'⟩
    have L5:=hQQ (KL.o _ _ _ M5)
    have R5:=hQQ ((aj hE).symm.trans R4.o)
    have M5:=hQQ M5
    clear he hE
    have START:=hQQ (And.intro M5.o R5.o)
    clear R5 M5 L5 R4 M4 L4
    go_wp2_with fail
    go_loopw [12] (fun v wr=>∃(i:Nat) (D':List KV) (F':Nat→Prop),v=.int .i64 (q+1+(i:Int))∧(i:Int)≤m-1∧MidV w1 wr F (fun _=>False) p kn n D' F'∧ak (iK c.pg c.st 7 ((m-1).toNat-i) (q+1+(i:Int))) (fun _=>ay true) kn D'=Rr) (fun v _=>(q+m-intOf v).toNat)
    case atStart=>exact⟨0,D5,F5,by simp,by omega,START.o.1,by simpa using START.o.2⟩
    case round =>
     clear START
     obtain⟨i,D',F',rfl,hi,MI,hrest⟩:=hrel
     have MI:=hQQ MI
     have LI:=hQQ (KL.o _ _ _ MI.o)
     by_cases hlt:(i:Int)<m-1
     ·have d3:decide (q+1+(i:Int)<q+m)=true:=by simp;omega
      have q3:IntKind.i64.wrap (q+1+(i:Int)+1)=q+1+(i:Int)+1:=az (by omega) (by omega)
      rw[show(m-1).toNat-i=((m-1).toNat-(i+1))+1 by omega,qF,cI] at hrest
      have RI:=hQQ hrest
      have hpg:af c.pg (q+1+(i:Int))=true:=ax.2 ⟨by omega,by omega⟩
      clear hrest
      go_wp2_with (first|(refine aK rfl rfl rfl LI.o (by kernel_rfl) ?_)|(refine aK rfl rfl rfl LI.o (by kernel_rfl) ?_))
      refine(zt HR.o HH.o hn F' p kn D' (q+1+(i:Int)) 7 0 hpg DE pA wr MI.o.view HK.o MI.o.inv).mono ?_
      intro e w8 he
      rcases MI.o.step (ae.refl _) HK.o (kj HH.o hpg DE pA) he with⟨a',hE,rfl,hd',ht',_⟩|⟨x8,D8,F8,hE,rfl,M8,hq8,_,_⟩
      ·exact⟨rfl,NEED.o a' w8 (RI.o.symm.trans (ag hE)) hd' ht'⟩
      have L8:=hQQ (KL.o _ _ _ M8)
      have R8:=hQQ ((aj hE).symm.trans RI.o)
      have M8:=hQQ M8
      clear he hE
      have NX:=hQQ (show ak (iK c.pg c.st 7 ((m-1).toNat-(i+1)) (q+1+(i:Int)+1)) (fun _=>ay true) kn D8=Rr from R8.o)
      clear R8
      go_wp2_with fail
      go_roundw
      case rel=>exact⟨i+1,D8,F8,by go_num,by omega,M8.o,by rw[show q+1+((i+1:Nat):Int)=q+1+(i:Int)+1 by omega];exact NX.o⟩
      case measure=>simp[intOf];omega
     ·have him:q+1+(i:Int)=q+m:=by omega
      have d3:decide (q+1+(i:Int)<q+m)=false:=by simp;omega
      have FIN:=hQQ (DONE.o true wr D' F' (by rw[show((m-1).toNat-i)=0 by omega] at hrest;exact hrest.symm) MI.o)
      clear hrest
      go_wp2_with fail
      go_ret
      exact FIN.o
   ·have e6:(k==6)=false:=by simp[h6]
    have R4:=hQQ (by have:=R4.o;rwa [if_neg h6] at this)
    have hx6:=pA
    clear h6
    have qp:IntKind.i64.wrap (q+1)=q+1:=az (by omega) (by omega)
    have qe:IntKind.i64.wrap (q+m)=q+m:=az (by omega) (by omega)
    have hpg0:af c.pg q=true:=ax.2 ⟨by omega,by omega⟩
    go_wp2_with (first|(refine aK rfl rfl rfl L4.o (by kernel_rfl) ?_)|(refine aK rfl rfl rfl L4.o (by kernel_rfl) ?_))
    refine(zt HR.o HH.o hn F4 p kn D4 q k 0 hpg0 hk6 hx6 w4 M4.o.view HK.o M4.o.inv).mono ?_
    intro e w5 he
    rcases M4.o.step (ae.refl _) HK.o (kj HH.o hpg0 hk6 hx6) he with⟨a',hE,rfl,hd',ht',_⟩|⟨x5,D5,F5,hE,rfl,M5,hq5,_,_⟩
    ·exact⟨rfl,NEED.o a' w5 (R4.o.symm.trans (ag hE)) hd' ht'⟩
    have L5:=hQQ (KL.o _ _ _ M5)
    have R5:=hQQ ((aj hE).symm.trans R4.o)
    have M5:=hQQ M5
    clear he hE
    have START:=hQQ (And.intro M5.o R5.o)
    clear R5 M5 L5 R4 M4 L4
    go_wp2_with fail
    go_loopw [12] (fun v wr=>∃(i:Nat) (D':List KV) (F':Nat→Prop),v=.int .i64 (q+1+(i:Int))∧(i:Int)≤m-1∧MidV w1 wr F (fun _=>False) p kn n D' F'∧ak (iK c.pg c.st 7 ((m-1).toNat-i) (q+1+(i:Int))) (fun _=>ay true) kn D'=Rr) (fun v _=>(q+m-intOf v).toNat)
    case atStart=>exact⟨0,D5,F5,by simp,by omega,START.o.1,by simpa using START.o.2⟩
    case round =>
     clear START
     obtain⟨i,D',F',rfl,hi,MI,hrest⟩:=hrel
     have MI:=hQQ MI
     have LI:=hQQ (KL.o _ _ _ MI.o)
     by_cases hlt:(i:Int)<m-1
     ·have d3:decide (q+1+(i:Int)<q+m)=true:=by simp;omega
      have q3:IntKind.i64.wrap (q+1+(i:Int)+1)=q+1+(i:Int)+1:=az (by omega) (by omega)
      rw[show(m-1).toNat-i=((m-1).toNat-(i+1))+1 by omega,qF,cI] at hrest
      have RI:=hQQ hrest
      have hpg:af c.pg (q+1+(i:Int))=true:=ax.2 ⟨by omega,by omega⟩
      clear hrest
      go_wp2_with (first|(refine aK rfl rfl rfl LI.o (by kernel_rfl) ?_)|(refine aK rfl rfl rfl LI.o (by kernel_rfl) ?_))
      refine(zt HR.o HH.o hn F' p kn D' (q+1+(i:Int)) 7 0 hpg DE pA wr MI.o.view HK.o MI.o.inv).mono ?_
      intro e w8 he
      rcases MI.o.step (ae.refl _) HK.o (kj HH.o hpg DE pA) he with⟨a',hE,rfl,hd',ht',_⟩|⟨x8,D8,F8,hE,rfl,M8,hq8,_,_⟩
      ·exact⟨rfl,NEED.o a' w8 (RI.o.symm.trans (ag hE)) hd' ht'⟩
      have L8:=hQQ (KL.o _ _ _ M8)
      have R8:=hQQ ((aj hE).symm.trans RI.o)
      have M8:=hQQ M8
      clear he hE
      have NX:=hQQ (show ak (iK c.pg c.st 7 ((m-1).toNat-(i+1)) (q+1+(i:Int)+1)) (fun _=>ay true) kn D8=Rr from R8.o)
      clear R8
      go_wp2_with fail
      go_roundw
      case rel=>exact⟨i+1,D8,F8,by go_num,by omega,M8.o,by rw[show q+1+((i+1:Nat):Int)=q+1+(i:Int)+1 by omega];exact NX.o⟩
      case measure=>simp[intOf];omega
     ·have him:q+1+(i:Int)=q+m:=by omega
      have d3:decide (q+1+(i:Int)<q+m)=false:=by simp;omega
      have FIN:=hQQ (DONE.o true wr D' F' (by rw[show((m-1).toNat-i)=0 by omega] at hrest;exact hrest.symm) MI.o)
      clear hrest
      go_wp2_with fail
      go_ret
      exact FIN.o
def kY (pg st k:Int):Prg Int:=if aw k=0 then ay (-1) else ak (eZ pg st k (aw k).toNat 1) fun x=>if x= -1 then ak (kR pg st 1 1) fun y=>ak (jm pg st y 1 (k+1)) fun b=>ay (if b then y else -1) else ay x
theorem zF (pg st k:Int):bh (kY pg st k):=aH (ah _) (aq (lV _ _ _ _ _) (fun _=>aH (aq (BI _ _ _ _) (fun _=>aq (BE _ _ _ _ _) (fun _=>ah _))) (ah _)))
theorem fe {k:Int}(h:aw k≠0):0≤k∧k≤4:=by unfold aw at h; (repeat' split at h)<;>first|omega|exact absurd rfl h
theorem vR:W64 1:=by unfold W64;omega
theorem oA {pg st:Int}{n:Nat}(H:cB pg st n)(k:Int):bQ n (fun q:Int=>q= -1∨af pg q=true) (kY pg st k):=by
 unfold kY
 refine aO (fun _=>ai n (.inl rfl)) (fun h=>ar (ik H _ _ _) (fun x hx=>aO (fun _=>ar (vN H.toPgIn _ _) (fun y hy=>ar (vM H.toPgIn _ _ _ ?_ vR) (fun b _=>ai n ?_))) (fun _=>ai n hx)))
 ·have:=fe h;unfold W64;omega
 ·by_cases e:y= -1
  ·left;split
   ·exact e
   ·rfl
  ·split
   ·exact .inr (ax.2 ⟨by omega,by omega⟩)
   ·exact .inl rfl
theorem KG {c:Cfg}(R:c.Ok){n:Nat}(H:cB c.pg c.st n)(hn:n≤10000)(F:Nat→Prop)(p:Nat)(kn:Int→Option Int)(D:List KV)(k:Int)(w:World)(hv:aD w F p kn D)(hk:OkK kn)(hD:cC n D)(bt:Nat)(hs:dd bt w)(nF0:¬F 0)(nFb:¬F bt):
 Calls Tryz.prog 140 #[.pointer (some ⟨p,0,none⟩),.agg c.arr,.int .i64 k] w (aG w F p kn (fun x=> .int .i64 x) (kY c.pg c.st k kn D)):=by
 obtain⟨Rr,hRr⟩:∃Rr,kY c.pg c.st k kn D=Rr:=⟨_,rfl⟩
 rw[hRr]
 obtain⟨w1,e1,hl1,m1,s1⟩:=a6 w (.cells c.arr 28)
 have nFl:¬F w.heap.size:=fun q=>by have:=hv.lt _ q;omega
 have MM:=hQQ m1
 have L0:=hQQ hl1
 have M0:=m0Z (hv.more m1) hD
 have KL:=klZ (p:=p) (kn:=kn) (n:=n) L0.o nFl
 have NEED:=ndZ (F:=F) (p:=p) (kn:=kn) (R:=Rr) (fun x:Int=>Value.int .i64 x) MM.o
 have DONE:=dnZ (F:=F) (p:=p) (n:=n) (kn:=kn) (R:=Rr) (fun x:Int=>Value.int .i64 x) MM.o
 have HK:=hQQ hk
 have HR:=hQQ R
 have HH:=hQQ H
 clear hl1 m1 hv hD hk R H nFl
 have SZ:Hq (∀wr D' F',MidV w1 wr F (fun _=>False) p kn n D' F'→dd bt wr):=hQQ fun wr D' F' h=>(hs.more MM.o).keep h.turn (by rintro(q|q);exact nF0 q;exact q) (by rintro(q|q);exact nFb q;exact q)
 have NF:Hq (∀wr D' F',MidV w1 wr F (fun _=>False) p kn n D' F'→¬F' 0∧¬F' bt):=hQQ fun wr D' F' h=>⟨h.off (hs.more MM.o).lt0 nF0,h.off (hs.more MM.o).lt nFb⟩
 unfold kY at hRr
 have pg2:=HR.o.pg2
 clear hs nF0 nFb
 go_enter Tryz.func140,Tryz.ntmps140
 go_wp2_with fail
 refine(DP k w1 (SZ.o _ _ _ M0.o)).mono ?_
 rintro e w2 ⟨rfl,h2⟩
 have M2:=hQQ (M0.o.more h2)
 have L2:=hQQ (KL.o _ _ _ M2.o)
 clear h2
 by_cases hz:aw k=0
 ·rw[if_pos hz] at hRr
  have d0:(aw k != 0)=false:=by simp[hz]
  have FIN:=hQQ (DONE.o (-1) w2 D F hRr.symm M2.o)
  clear hRr hz
  go_wp2_with fail
  go_ret
  exact FIN.o
 rw[if_neg hz] at hRr
 have d0:(aw k != 0)=true:=by simpa using hz
 have hk4:=fe hz
 have q1:IntKind.i64.wrap (k+1)=k+1:=az (by omega) (by omega)
 have HRr:=hQQ hRr
 clear hRr hz
 go_wp2_with (first|(refine aK rfl rfl rfl L2.o (by kernel_rfl) ?_)|(refine aK rfl rfl rfl L2.o (by kernel_rfl) ?_))
 refine(zD HR.o HH.o F p kn D k w2 M2.o.view HK.o M2.o.inv bt (SZ.o _ _ _ M2.o) (NF.o _ _ _ M2.o).1 (NF.o _ _ _ M2.o).2).mono ?_
 intro e w3 he
 rcases M2.o.step (ae.refl _) HK.o (ik HH.o _ _ _) he with⟨a',hE,rfl,hd',ht',_⟩|⟨x3,D3,F3,hE,rfl,M3,hq3,_,_⟩
 ·exact⟨rfl,NEED.o a' w3 (HRr.o.symm.trans (ag hE)) hd' ht'⟩
 have L3:=hQQ (KL.o _ _ _ M3)
 have R3:=hQQ ((aj hE).symm.trans HRr.o)
 have M3:=hQQ M3
 clear he hE
 by_cases ex:x3= -1
 ·have d1:(x3 != -1)=false:=by simp[ex]
  have R3:=hQQ (show ak (kR c.pg c.st 1 1) (fun y=>ak (jm c.pg c.st y 1 (k+1)) fun b=>ay (if b then y else -1)) kn D3=Rr from by have:=R3.o;rw[if_pos ex] at this;exact this)
  clear ex
  go_wp2_with (first|(refine aK rfl rfl rfl L3.o (by kernel_rfl) ?_)|(refine aK rfl rfl rfl L3.o (by kernel_rfl) ?_))
  refine(Nj HR.o HH.o.toPgIn F3 p kn D3 1 1 vR vR w3 M3.o.view HK.o M3.o.inv).mono ?_
  intro e w4 he
  rcases M3.o.step (ae.refl _) HK.o (vN HH.o.toPgIn _ _) he with⟨a',hE,rfl,hd',ht',_⟩|⟨x4,D4,F4,hE,rfl,M4,hq4,_,_⟩
  ·exact⟨rfl,NEED.o a' w4 (R3.o.symm.trans (ag hE)) hd' ht'⟩
  have L4:=hQQ (KL.o _ _ _ M4)
  have R4:=hQQ ((aj hE).symm.trans R3.o)
  have M4:=hQQ M4
  clear he hE
  have hw4:W64 x4:=by unfold W64;omega
  have HW4:=hQQ hw4
  go_wp2_with (first|(refine aK rfl rfl rfl L4.o (by kernel_rfl) ?_)|(refine aK rfl rfl rfl L4.o (by kernel_rfl) ?_))
  refine(Ns HR.o HH.o.toPgIn hn F4 p kn D4 x4 1 (k+1) HW4.o vR (by unfold W64;omega) w4 M4.o.view HK.o M4.o.inv).mono ?_
  intro e w5 he
  rcases M4.o.step (ae.refl _) HK.o (vM HH.o.toPgIn _ _ _ (by unfold W64;omega) vR) he with⟨a',hE,rfl,hd',ht',_⟩|⟨x5,D5,F5,hE,rfl,M5,hq5,_,_⟩
  ·exact⟨rfl,NEED.o a' w5 (R4.o.symm.trans (ag hE)) hd' ht'⟩
  have L5:=hQQ (KL.o _ _ _ M5)
  have R5:=hQQ ((aj hE).symm.trans R4.o)
  have M5:=hQQ M5
  clear he hE
  cases x5 with
  |true =>
   have FIN:=hQQ (DONE.o x4 w5 D5 F5 R5.o.symm M5.o)
   go_wp2_with fail
   go_ret
   exact FIN.o
  |false =>
   have FIN:=hQQ (DONE.o (-1) w5 D5 F5 R5.o.symm M5.o)
   go_wp2_with fail
   go_ret
   exact FIN.o
 ·have d1:(x3 != -1)=true:=by simpa using ex
  have FIN:=hQQ (DONE.o x3 w3 D3 F3 (by have:=R3.o;rw[if_neg ex] at this;exact this.symm) M3.o)
  clear ex
  go_wp2_with fail
  go_ret
  exact FIN.o
def dN (k b:Int):Int:=aw k-dv b (aw k)
def gD (pg st q k b:Int):Prg Unit:=if dN k b=aw k then ak (lS pg st q) (fun _=>ay ()) else ak (cM (bA pg st q) b) fun _=>ak (cM (cA pg st q) (dN k b)) fun _=>ay ()
theorem rj (pg st q k b:Int):bh (gD pg st q k b):=aH (aq (BF _ _ _) (fun _=>ah _)) (aq (cT _ _) (fun _=>aq (cT _ _) (fun _=>ah _)))
theorem Mn {c:Cfg}(R:c.Ok){n:Nat}(H:PgIn c.pg c.st n)(hn:n≤10000)(F:Nat→Prop)(p:Nat)(kn:Int→Option Int)(D:List KV)(q k b:Int)(hq:af c.pg q=true)(hb:W64 b)(hcb:0≤dv b (aw k)∧dv b (aw k)≤32)(w:World)(hv:aD w F p kn D)(hk:OkK kn)(hD:cC n D)(bt:Nat)(hs:dd bt w)(nF0:¬F 0)(nFb:¬F bt):
 Calls Tryz.prog 112 #[.agg (bF c p q k),.int .i64 b] w (aG w F p kn (fun _:Unit=> .tuple #[]) (gD c.pg c.st q k b kn D)):=by
 obtain⟨Rr,hRr⟩:∃Rr,gD c.pg c.st q k b kn D=Rr:=⟨_,rfl⟩
 rw[hRr]
 obtain⟨w1,e1,hl1,m1,s1⟩:=a6 w (.cells (bF c p q k) 90)
 have MM:=hQQ m1
 have L0:=hQQ hl1
 have c0:=(show w1.cell? ⟨w.heap.size,0,none⟩=some (.pointer (some ⟨p,0,none⟩)) by rw[cell_of_row w1 _ _ _ _ _ hl1];exact tj c p q k)
 have c25:=(show w1.cell? ⟨w.heap.size,25,none⟩=some (.int .i64 q) by rw[cell_of_row w1 _ _ _ _ _ hl1];exact tk c p q k)
 have c26:=(show w1.cell? ⟨w.heap.size,26,none⟩=some (.int .i64 k) by rw[cell_of_row w1 _ _ _ _ _ hl1];exact tn c p q k)
 have nFl:¬F w.heap.size:=fun z=>by have:=hv.lt _ z;omega
 have L00:=hQQ hl1
 have SZ1:=hQQ (hs.more m1)
 have KP:Hq (∀wr D' F',MidV w1 wr F (fun _=>False) p kn n D' F'→wr.heap[w.heap.size]?=some (.cells (bF c p q k) 90 (0,0))∧dd bt wr):=hQQ fun wr D' F' h=>⟨eT h L00.o nFl (fun q=>q),SZ1.o.keep h.turn (by rintro(z|z);exact nF0 z;exact z) (by rintro(z|z);exact nFb z;exact z)⟩
 have nFl:¬F w.heap.size:=fun z=>by have:=hv.lt _ z;omega
 have M0:=m0Z (hv.more m1) hD
 have NEED:=ndZ (F:=F) (p:=p) (kn:=kn) (R:=Rr) (fun _:Unit=>Value.tuple #[]) MM.o
 have DONE:=dnZ (F:=F) (p:=p) (n:=n) (kn:=kn) (R:=Rr) (fun _:Unit=>Value.tuple #[]) MM.o
 have HK:=hQQ hk
 have HR:=hQQ R
 clear hl1 m1 hv hD hk R nFl
 have CC:Hq (∀W:World,W.heap[w.heap.size]?=some (.cells (bF c p q k) 90 (0,0))→W.cell? ⟨w.heap.size,0,none⟩=some (.pointer (some ⟨p,0,none⟩))∧W.cell? ⟨w.heap.size,25,none⟩=some (.int .i64 q)∧W.cell? ⟨w.heap.size,26,none⟩=some (.int .i64 k)):=hQQ fun W hl1 =>
  ⟨by rw[cell_of_row W _ _ _ _ _ hl1];exact tj c p q k,by rw[cell_of_row W _ _ _ _ _ hl1];exact tk c p q k,by rw[cell_of_row W _ _ _ _ _ hl1];exact tn c p q k⟩
 have YB:=hQQ (fun W=>by have:=xC HR.o W q;rw[DA hq] at this;exact this)
 have YC:=hQQ (fun W=>by have:=tt HR.o W q;rw[ta hq] at this;exact this)
 have PB:=hQQ (cj H hq)
 have hs3:=eL k
 have hqq:=ax.1 hq
 have pg2:=HR.o.pg2
 have HB:=hQQ hb
 have HH:=hQQ H
 have GO:=hQQ (fun W (hW:dd bt W)=>Nr c p q k b W hW hcb)
 have GS:=hQQ (fun W (hW:dd bt W)=>rX k W hW)
 have OB:W64 (dN k b):=by unfold dN W64;omega
 have HOB:=hQQ OB
 unfold gD at hRr
 obtain⟨ov,hov⟩:∃ov,dN k b=ov:=⟨_,rfl⟩
 rw[show aw k-dv b (aw k)=ov from hov] at GO
 rw[hov] at hRr HOB
 obtain⟨sv,hsv⟩:∃sv,aw k=sv:=⟨_,rfl⟩
 rw[hsv] at hRr GS
 clear H hq hb hcb hs OB hov hsv hs3 nF0 nFb c0 c25 c26
 go_enter Tryz.func112,Tryz.ntmps112
 go_wp2_with (refine wpList_load_row rfl 90 _ rfl _ rfl 90 _ _ _ L0.o Tryz.underlying90 rfl (by kernel_rfl) ?_)
 clear e1
 refine(GO.o w1 SZ1.o).mono ?_
 rintro e w2 ⟨rfl,h2⟩
 have M2:=hQQ (M0.o.more h2)
 have L2:=hQQ (KP.o _ _ _ M2.o).1
 clear h2
 obtain⟨c0,c25,c26⟩:=CC.o _ L2.o
 go_wp2_with fail
 refine(GS.o w2 (KP.o _ _ _ M2.o).2).mono ?_
 rintro e w3 ⟨rfl,h3⟩
 have M3:=hQQ (M2.o.more h3)
 have L3:=hQQ (KP.o _ _ _ M3.o).1
 clear h3 c0 c25 c26
 obtain⟨c0,c25,c26⟩:=CC.o _ L3.o
 by_cases eo:ov=sv
 ·have d0:(ov==sv)=true:=by simp[eo]
  rw[if_pos eo] at hRr
  have HRr:=hQQ hRr
  clear hRr eo
  go_wp2_with (refine iH rfl 28 _ rfl w.heap.size 1 rfl 90 _ c.arr _ _ L3.o (gC c p q k) Tryz.underlying28 rfl (by kernel_rfl) ?_)
  clear c0 c25 c26
  refine(Ng HR.o HH.o hn F p kn D q (by unfold W64;omega) w3 M3.o.view HK.o M3.o.inv).mono ?_
  intro e w4 he
  rcases M3.o.step (ae.refl _) HK.o (qB HH.o _) he with⟨a',hE,rfl,hd',ht',_⟩|⟨x4,D4,F4,hE,rfl,M4,hq4,_,_⟩
  ·exact⟨rfl,NEED.o a' w4 (HRr.o.symm.trans (ag hE)) hd' ht'⟩
  have R4:=hQQ ((aj hE).symm.trans HRr.o)
  have M4:=hQQ M4
  obtain⟨lp,lc⟩:=KP.o _ _ _ M4.o
  have L4:=hQQ lp
  clear he hE lp lc
  have FIN:=hQQ (DONE.o () w4 D4 F4 R4.o.symm M4.o)
  go_wp2_with fail
  go_end0
  exact FIN.o
 ·have d0:(ov==sv)=false:=by simpa using eo
  rw[if_neg eo] at hRr
  have HRr:=hQQ hRr
  clear hRr eo
  have C0:=hQQ c0
  have C25:=hQQ c25
  clear c0 c25 c26
  go_wp2_with fail
  refine bM 8 (by kernel_rfl) (by kernel_rfl) ?_
  simp only[List.take_succ_cons,List.take_zero,List.drop_succ_cons,List.drop_zero]
  iterate 3
   with_reducible refine wpQuiet_step (fun K hK=>?_)
   go_simp
   first
   |(refine hK _ ?_;clear hK K)
   |(apply Exists.intro
     refine⟨fun W hW=>?_,hK _ ?_⟩
     first
     |(have c1':=hW.cell C0.o;go_simp;try rfl)
     clear hK K)
  refine dy rfl 28 _ rfl w.heap.size 1 rfl 90 _ c.arr _ _ (fun W hW=>hW.block L3.o) (gC c p q k) Tryz.underlying28 rfl (by kernel_rfl) ?_
  iterate 2
   with_reducible refine wpQuiet_step (fun K hK=>?_)
   go_simp
   first
   |(refine hK _ ?_;clear hK K)
   |(apply Exists.intro
     refine⟨fun W hW=>?_,hK _ ?_⟩
     first
     |(have c1':=hW.cell C25.o;go_simp;try rfl)
     clear hK K)
  iterate 1
   with_reducible refine wpQuiet_step (fun K hK=>?_)
   go_simp
   first
   |(refine hK _ ?_;clear hK K)
   |(apply Exists.intro
     refine⟨fun W hW=>?_,hK _ ?_⟩
     first
     |(go_at_call 108;exact Calls.more hW (YB.o W))
     |(go_simp;try rfl)
     clear hK K)
  iterate 1
   with_reducible refine wpQuiet_step (fun K hK=>?_)
   go_simp
   first
   |(refine hK _ ?_;clear hK K)
   |(apply Exists.intro
     refine⟨fun W hW=>?_,hK _ ?_⟩
     first
     |(go_simp;try rfl)
     clear hK K)
  refine wpQuiet_nil ?_
  intro w4 h4
  have M4:=hQQ (M3.o.more h4)
  clear h4
  go_wp2_with fail
  refine(dk F p kn D (bA c.pg c.st q) b w4 M4.o.view (by have:=M4.o.inv.len;omega)).mono ?_
  intro e w5 he
  rcases M4.o.step (ae.refl _) HK.o (aQ n (by have:=PB.o.2.2;unfold W64;omega) PB.o.2.2.2.1 HB.o) he with⟨a',hE,rfl,hd',ht',_⟩|⟨x5,D5,F5,hE,rfl,M5,hq5,_,_⟩
  ·exact⟨rfl,NEED.o a' w5 (HRr.o.symm.trans (ag hE)) hd' ht'⟩
  have R5:=hQQ ((aj hE).symm.trans HRr.o)
  have M5:=hQQ M5
  obtain⟨lp,lc⟩:=KP.o _ _ _ M5.o
  have L5:=hQQ lp
  clear he hE lp lc
  obtain⟨c0,c25,c26⟩:=CC.o _ L5.o
  have C05:=hQQ c0
  have C255:=hQQ c25
  clear c0 c25 c26
  go_wp2_with fail
  refine bM 8 (by kernel_rfl) (by kernel_rfl) ?_
  simp only[List.take_succ_cons,List.take_zero,List.drop_succ_cons,List.drop_zero]
  iterate 3
   with_reducible refine wpQuiet_step (fun K hK=>?_)
   go_simp
   first
   |(refine hK _ ?_;clear hK K)
   |(apply Exists.intro
     refine⟨fun W hW=>?_,hK _ ?_⟩
     first
     |(have c1':=hW.cell C05.o;go_simp;try rfl)
     clear hK K)
  refine dy rfl 28 _ rfl w.heap.size 1 rfl 90 _ c.arr _ _ (fun W hW=>hW.block L5.o) (gC c p q k) Tryz.underlying28 rfl (by kernel_rfl) ?_
  iterate 2
   with_reducible refine wpQuiet_step (fun K hK=>?_)
   go_simp
   first
   |(refine hK _ ?_;clear hK K)
   |(apply Exists.intro
     refine⟨fun W hW=>?_,hK _ ?_⟩
     first
     |(have c1':=hW.cell C255.o;go_simp;try rfl)
     clear hK K)
  iterate 1
   with_reducible refine wpQuiet_step (fun K hK=>?_)
   go_simp
   first
   |(refine hK _ ?_;clear hK K)
   |(apply Exists.intro
     refine⟨fun W hW=>?_,hK _ ?_⟩
     first
     |(go_at_call 134;exact Calls.more hW (YC.o W))
     |(go_simp;try rfl)
     clear hK K)
  iterate 1
   with_reducible refine wpQuiet_step (fun K hK=>?_)
   go_simp
   first
   |(refine hK _ ?_;clear hK K)
   |(apply Exists.intro
     refine⟨fun W hW=>?_,hK _ ?_⟩
     first
     |(go_simp;try rfl)
     clear hK K)
  refine wpQuiet_nil ?_
  intro w6 h6
  have M6:=hQQ (M5.o.more h6)
  clear h6
  go_wp2_with fail
  refine(dk F5 p kn D5 (cA c.pg c.st q) ov w6 M6.o.view (by have:=M6.o.inv.len;omega)).mono ?_
  intro e w7 he
  rcases M6.o.step (ae.refl _) HK.o (aQ n (by have:=PB.o.2.1;unfold W64;omega) PB.o.2.1.2.1 HOB.o) he with⟨a',hE,rfl,hd',ht',_⟩|⟨x7,D7,F7,hE,rfl,M7,hq7,_,_⟩
  ·exact⟨rfl,NEED.o a' w7 (R5.o.symm.trans (ag hE)) hd' ht'⟩
  have R7:=hQQ ((aj hE).symm.trans R5.o)
  have M7:=hQQ M7
  obtain⟨lp,lc⟩:=KP.o _ _ _ M7.o
  have L7:=hQQ lp
  clear he hE lp lc
  have FIN:=hQQ (DONE.o () w7 D7 F7 R7.o.symm M7.o)
  go_wp2_with fail
  go_end0
  exact FIN.o
theorem KH {c:Cfg}(R:c.Ok){n:Nat}(H:cB c.pg c.st n)(hn:n≤10000)(F:Nat→Prop)(p:Nat)(kn:Int→Option Int)(D:List KV)(q cl f:Int)(w:World)(hv:aD w F p kn D)(hk:OkK kn)(hD:cC n D):
 Calls Tryz.prog 131 #[.pointer (some ⟨p,0,none⟩),.agg c.arr,.int .i64 q,.int .i64 cl,.int .i64 f] w (aG w F p kn (fun b=> .bool b) (iR c.pg c.st q cl f kn D)):=by
 obtain⟨Rr,hRr⟩:∃Rr,iR c.pg c.st q cl f kn D=Rr:=⟨_,rfl⟩
 rw[hRr]
 obtain⟨w1,e1,hl1,m1,s1⟩:=a6 w (.cells c.arr 28)
 have nFl:¬F w.heap.size:=fun q=>by have:=hv.lt _ q;omega
 have MM:=hQQ m1
 have L0:=hQQ hl1
 have M0:=m0Z (hv.more m1) hD
 have KL:=klZ (p:=p) (kn:=kn) (n:=n) L0.o nFl
 have NEED:=ndZ (F:=F) (p:=p) (kn:=kn) (R:=Rr) (fun b:Bool=>Value.bool b) MM.o
 have DONE:=dnZ (F:=F) (p:=p) (n:=n) (kn:=kn) (R:=Rr) (fun b:Bool=>Value.bool b) MM.o
 have HK:=hQQ hk
 have HR:=hQQ R
 have HH:=hQQ H
 clear hl1 m1 hv hD hk R H nFl
 unfold iR at hRr
 by_cases hz:aF c.pg c.st cl f=0
 ·have d0:(aF c.pg c.st cl f==0)=true:=by simp[hz]
  rw[if_pos hz] at hRr
  have FIN:Hq (∀w2,ae w1 w2→aG w F p kn (fun b:Bool=>Value.bool b) Rr (.returned (.bool false)) w2):=hQQ fun w2 h=>DONE.o false w2 D F hRr.symm (M0.o.more h)
  clear hRr hz
  go_enter Tryz.func131,Tryz.ntmps131
  go_wp2_with (first|(refine aK rfl rfl rfl L0.o (by kernel_rfl) ?_)|(refine aK rfl rfl rfl L0.o (by kernel_rfl) ?_))
  refine(kX HR.o _ cl f).mono ?_
  rintro e w2 ⟨rfl,h2⟩
  have H2:=hQQ h2
  clear h2
  go_wp2_with fail
  go_ret
  exact FIN.o _ H2.o
 have d0:(aF c.pg c.st cl f==0)=false:=by simp[hz]
 rw[if_neg hz] at hRr
 cases hq:af c.pg q with
 |false =>
  rw[hq] at hRr
  have FIN:Hq (∀w2,ae w1 w2→aG w F p kn (fun b:Bool=>Value.bool b) Rr (.returned (.bool false)) w2):=hQQ fun w2 h=>DONE.o false w2 D F hRr.symm (M0.o.more h)
  clear hRr hz
  go_enter Tryz.func131,Tryz.ntmps131
  go_wp2_with (first|(refine aK rfl rfl rfl L0.o (by kernel_rfl) ?_)|(refine aK rfl rfl rfl L0.o (by kernel_rfl) ?_))
  refine(kX HR.o _ cl f).mono ?_
  rintro e w2 ⟨rfl,h2⟩
  have L2:=hQQ (h2.block L0.o)
  have H2:=hQQ h2
  clear h2
  go_wp2_with (first|(refine aK rfl rfl rfl L2.o (by kernel_rfl) ?_)|(refine aK rfl rfl rfl L2.o (by kernel_rfl) ?_))
  refine(iq HR.o HH.o q _).mono ?_
  rw[hq]
  rintro e w3 ⟨rfl,h3⟩
  have H3:=hQQ (H2.o.trans h3)
  clear h3
  go_wp2_with fail
  go_ret
  exact FIN.o _ H3.o
 |true =>
  rw[hq] at hRr
  have HQ:=hQQ hq
  have HRr:=hQQ (show ak (eh c.pg (aF c.pg c.st cl f)) (fun x=>ak (eU c.pg c.st (aF c.pg c.st cl f) q x) fun _=>ak (eU c.pg c.st (aF c.pg c.st cl f) (-1) q) fun _=>ay true) kn D=Rr from hRr)
  clear hRr hz hq
  go_enter Tryz.func131,Tryz.ntmps131
  go_wp2_with (first|(refine aK rfl rfl rfl L0.o (by kernel_rfl) ?_)|(refine aK rfl rfl rfl L0.o (by kernel_rfl) ?_))
  refine(kX HR.o _ cl f).mono ?_
  rintro e w2 ⟨rfl,h2⟩
  have M2:=hQQ (M0.o.more h2)
  have L2:=hQQ (KL.o _ _ _ M2.o)
  clear h2
  go_wp2_with (first|(refine aK rfl rfl rfl L2.o (by kernel_rfl) ?_)|(refine aK rfl rfl rfl L2.o (by kernel_rfl) ?_))
  refine(iq HR.o HH.o q _).mono ?_
  rw[HQ.o]
  rintro e w3 ⟨rfl,h3⟩
  have M3:=hQQ (M2.o.more h3)
  clear h3 M2 L2
  go_wp2_with fail
  refine aM (TrC c w.heap.size) (by kernel_rfl) ?_
  have MR:=hQQ (M3.o.more ((ae.refl w3).drewN 1))
  change dc _ _ _ _ _ _ _ _ (w3.drewN 1)
  generalize w3.drewN 1=wr at MR⊢
  generalize hA:Act.mk _ _=A
  have HF:AG 38 A [(0,.pointer (some ⟨p,0,none⟩)),(1,.agg c.arr),(2,.int .i64 q),(3,.int .i64 cl),(4,.int .i64 f),(6,.pointer (some ⟨w.heap.size,0,none⟩)),(11,.int .i64 (aF c.pg c.st cl f))]:=by
   rw[←hA];try simp only[pts,List.foldl]
   refine⟨⟨Nat.le_of_ble_eq_true rfl,rfl⟩,?_⟩
   intro z hz;simp only[List.mem_cons,List.not_mem_nil,or_false] at hz;rcases hz with rfl|rfl|rfl|rfl|rfl|rfl|rfl<;>rfl
  refine bH (fun a W=>∃(u24 u25 u26 u27 u28 u29 u30 u31 u32:Value) (D9:List KV) (F9:Nat→Prop),a=(pts A [(24,u24),(25,u25),(26,u26),(27,u27),(28,u28),(29,u29),(30,u30),(31,u31),(32,u32)])∧MidV w1 W F (fun _=>False) p kn n D9 F9∧ak (eU c.pg c.st (aF c.pg c.st cl f) (-1) q) (fun _=>ay true) kn D9=Rr) (fun W=>aG w F p kn (fun b:Bool=>Value.bool b) Rr (.panicked (bg p)) W) (bg p) (fun a W hd h=>⟨hd,h⟩) (fun _ _ _ _ _ h=>h) ?_ ?_
  ·skip
   rintro a wa ⟨u24,u25,u26,u27,u28,u29,u30,u31,u32,D5,F5,rfl,MS,RS⟩
   rw[←hA];try simp only[pts,List.foldl]
   have MS:=hQQ MS
   have LS:=hQQ (KL.o _ _ _ MS.o)
   have RS:=hQQ RS
   clear HF hA MR M3 HRr
   go_wp2_with (first|(refine aK rfl rfl rfl LS.o (by kernel_rfl) ?_)|(refine aK rfl rfl rfl LS.o (by kernel_rfl) ?_))
   refine(rU HR.o HH.o hn F5 p kn D5 (aF c.pg c.st cl f) (-1) q (bD HH.o).2.2 (bD HH.o).2.1 (.inl rfl) (.inr HQ.o) wa MS.o.view HK.o MS.o.inv).mono ?_
   intro e w6 he
   rcases MS.o.step (ae.refl _) HK.o (dR HH.o (bD HH.o).2.2 (bD HH.o).2.1 (.inl rfl) (.inr HQ.o)) he with⟨a',hE,rfl,hd',ht',_⟩|⟨x6,D6,F6,hE,rfl,M6,hq6,_,_⟩
   ·exact⟨rfl,NEED.o a' w6 (RS.o.symm.trans (ag hE)) hd' ht'⟩
   have FIN:=hQQ (DONE.o true w6 D6 F6 (RS.o.symm.trans (aj hE)) M6)
   clear he hE M6
   go_wp2_with fail
   go_ret
   exact FIN.o
  intro QQ FINE FIND FINQ
  clear hA
  refine tqM 0 24 0 rfl (.inl rfl) rfl (by kernel_rfl) FINQ (KL.o _ _ _ MR.o) HF fun A β1 HF=>?_
  refine tqC 1 25 (.agg c.arr) (by kernel_rfl) FINQ (KL.o _ _ _ MR.o) HF (by exact aC (ab rfl) 28 _ rfl w.heap.size (HF.get 6 rfl) 28 _ _ _ (fun W hW=>hW) Tryz.underlying28 rfl (by kernel_rfl)) fun A β2 HF=>?_
  refine tqM 2 26 8 rfl (.inl rfl) rfl (by kernel_rfl) FINQ (KL.o _ _ _ MR.o) HF fun A β3 HF=>?_
  refine tqM 3 27 5 rfl (.inl rfl) rfl (by kernel_rfl) FINQ (KL.o _ _ _ MR.o) HF fun A β4 HF=>?_
  refine tqM 4 28 4 rfl (.inl rfl) rfl (by kernel_rfl) FINQ (KL.o _ _ _ MR.o) HF fun A β5 HF=>?_
  refine tqC 5 29 (.agg c.arr) (by kernel_rfl) FINQ (KL.o _ _ _ MR.o) HF (by exact aC (ab rfl) 28 _ rfl w.heap.size (HF.get 10 rfl) 28 _ _ _ (fun W hW=>hW) Tryz.underlying28 rfl (by kernel_rfl)) fun A β6 HF=>?_
  refine tqM 6 30 12 rfl (.inl rfl) rfl (by kernel_rfl) FINQ (KL.o _ _ _ MR.o) HF fun A β7 HF=>?_
  refine tqO 7 31 (by kernel_rfl) HF fun K hK=>?_
  refine du (v0:=.pointer (some ⟨p,0,none⟩)) (v1:=.agg c.arr) (v2:=.int .i64 (aF c.pg c.st cl f)) rfl (HF.get 2 rfl) (HF.get 1 rfl) (HF.get 0 rfl) (enters_of Tryz.func92 (by kernel_rfl) rfl) ?_
  refine(lY HR.o HH.o F p kn D (aF c.pg c.st cl f) (bD HH.o).2.2 (bD HH.o).2.1 wr MR.o.view HK.o MR.o.inv).mono ?_
  intro e w4 he
  rcases MR.o.step (ae.refl _) HK.o (dl HH.o (bD HH.o).2.1) he with⟨a',hE,rfl,hd',ht',_⟩|⟨x4,D4,F4,hE,rfl,M4,hq4,_,_⟩
  ·exact FIND _ _ HF.1.2 (NEED.o a' w4 (HRr.o.symm.trans (ag hE)) hd' ht')
  have R4:=hQQ ((aj hE).symm.trans HRr.o)
  have M4:=hQQ M4
  clear he hE
  refine hK _ _ (KL.o _ _ _ M4.o) fun A β8 HF=>?_
  clear hK K
  refine tqO 8 32 (by kernel_rfl) HF fun K hK=>?_
  refine kb (v0:=.pointer (some ⟨p,0,none⟩)) (v1:=.agg c.arr) (v2:=.int .i64 (aF c.pg c.st cl f)) (v3:=.int .i64 q) (v4:=.int .i64 x4) rfl (HF.get 7 rfl) (HF.get 6 rfl) (HF.get 5 rfl) (HF.get 4 rfl) (HF.get 0 rfl) (enters_of Tryz.func146 (by kernel_rfl) rfl) ?_
  refine(rU HR.o HH.o hn F4 p kn D4 (aF c.pg c.st cl f) q x4 (bD HH.o).2.2 (bD HH.o).2.1 (.inr HQ.o) hq4 w4 M4.o.view HK.o M4.o.inv).mono ?_
  intro e w5 he
  rcases M4.o.step (ae.refl _) HK.o (dR HH.o (bD HH.o).2.2 (bD HH.o).2.1 (.inr HQ.o) hq4) he with⟨a',hE,rfl,hd',ht',_⟩|⟨x5,D5,F5,hE,rfl,M5,hq5,_,_⟩
  ·exact FIND _ _ HF.1.2 (NEED.o a' w5 (R4.o.symm.trans (ag hE)) hd' ht')
  have R5:=hQQ ((aj hE).symm.trans R4.o)
  have M5:=hQQ M5
  clear he hE
  refine hK _ _ (KL.o _ _ _ M5.o) fun A β9 HF=>?_
  clear hK K
  exact bI (by kernel_rfl) (FINE _ _ ⟨(.pointer (some ⟨p,0,none⟩)),(.agg c.arr),(.int .i64 (aF c.pg c.st cl f)),(.int .i64 q),(.pointer (some ⟨p,0,none⟩)),(.agg c.arr),(.int .i64 (aF c.pg c.st cl f)),(.int .i64 x4),(.tuple #[]),D5,F5,by rw[← β9,← β8,← β7,← β6,← β5,← β4,← β3,← β2,← β1]<;>rfl,M5.o,R5.o⟩)
theorem zG {P:Program}{ops:Array Oper}{C:World→Prop}{o:Oper}{a:Act}(hw:Region.wanted o (yielded ops a.tmps)=true)(ty:TypeId)(x:Operand)(ho:o.op=.load ty x)(g off:Nat)(hx:a.eval x=.pointer (some ⟨g,off,none⟩))(t:TypeId)(cs hs:Array Value)(fr:Nat×Nat)(d:TypeDesc)(hg:∀w,C w→w.heap[g]?=some (.cells cs t fr))(hc:∀j,j<hs.size→cs[off+j]?=hs[j]?)
 (hu:P.underlying ty=some d) (hd:(match d with| .struct _| .array _ _=>true|_=>false)=true) (hi:(P.info? ty).map (·.size)=some hs.size):bU P ops C o (.agg hs) a:=by
 refine .inl ⟨hw,fun w hC=>?_⟩
 unfold execOp
 simp only[ho,hx,Instr.loadAt,Instr.sureAddr,Sem.run_bind,Sem.run_pure,Result.andThen_ok,iG w g off t ty cs hs fr d (hg w hC) hc hu hd hi]
def iI (pg st q k was:Int):Prg Unit:=ak (fH pg st q k was) fun _=>ak (cS (cA pg st q)) fun f=>ak (iR pg st q k f) fun _=>ay ()
theorem rk (pg st q k was:Int):bh (iI pg st q k was):=aq (th _ _ _ _ _) (fun _=>aq (dx _) (fun _=>aq (xB _ _ _ _ _) (fun _=>ah _)))
theorem gX {pg st:Int}{n:Nat}(H:cB pg st n)(q k was:Int)(hq:af pg q=true):bQ n (fun _=>True) (iI pg st q k was):=by
 have hb:=(cj H.toPgIn hq).2.1.2.1
 exact ar (jZ H q k was) (fun _ _=>ar (bb n hb) (fun f _=>ar (lW H q k f) (fun _ _=>ai n trivial)))
theorem zH {c:Cfg}(R:c.Ok){n:Nat}(H:cB c.pg c.st n)(hn:n≤10000)(F:Nat→Prop)(p:Nat)(kn:Int→Option Int)(D:List KV)(q k was:Int)(hq:af c.pg q=true)(gb wb:Nat)(w:World)(hv:aD w F p kn D)(hk:OkK kn)(hD:cC n D)(hg:w.heap[gb]?=some (.cells (bF c p q k) 90 (0,0)))(hw:w.heap[wb]?=some (.cells #[.int .i64 was] 3 (0,0)))(nFg:¬F gb)(u:FrameMode):
 CallsD Tryz.prog 129 #[.pointer (some ⟨gb,0,none⟩),.pointer (some ⟨wb,0,none⟩)] u w (fun e u' w'=>u'=u∧aG w F p kn (fun _:Unit=> .tuple #[]) (iI c.pg c.st q k was kn D) e w'):=by
 obtain⟨Rr,hRr⟩:∃Rr,iI c.pg c.st q k was kn D=Rr:=⟨_,rfl⟩
 rw[hRr]
 have M0:Hq (MidV w w F (fun _=>False) p kn n D F):=hQQ (MidV.begin hv hD)
 have NEED:Hq (∀a w2,Rr=.need a→bB w2 p a→Turned (fun b=>F b∨False) w w2→aG w F p kn (fun _:Unit=>Value.tuple #[]) Rr (.panicked (bg p)) w2):=hQQ fun a w2 e hd ht=>ji (ae.refl w) (fun _ q=>q.elim) e hd ht
 have DONE:Hq (∀x w2 D' F',Rr=.ok x D'→MidV w w2 F (fun _=>False) p kn n D' F'→aG w F p kn (fun _:Unit=>Value.tuple #[]) Rr (.returned (.tuple #[])) w2):=hQQ fun x w2 D' F' e h=>fB (val:=fun _:Unit=>Value.tuple #[]) (ae.refl w) (fun _ q=>q.elim) h e
 have KP:Hq (∀wr D' F',MidV w wr F (fun _=>False) p kn n D' F'→wr.heap[gb]?=some (.cells (bF c p q k) 90 (0,0))):=hQQ fun wr D' F' h=>(h.turn.block gb (ac hg) (by rintro(z|z);exact nFg z;exact z)).trans hg
 have CC:Hq (∀W:World,W.heap[gb]?=some (.cells (bF c p q k) 90 (0,0))→W.cell? ⟨gb,0,none⟩=some (.pointer (some ⟨p,0,none⟩))∧W.cell? ⟨gb,25,none⟩=some (.int .i64 q)∧W.cell? ⟨gb,26,none⟩=some (.int .i64 k)):=hQQ fun W hl1 =>
  ⟨by rw[cell_of_row W _ _ _ _ _ hl1];exact tj c p q k,by rw[cell_of_row W _ _ _ _ _ hl1];exact tk c p q k,by rw[cell_of_row W _ _ _ _ _ hl1];exact tn c p q k⟩
 have L0:=hQQ hg
 have cw:=(aB hw).1
 obtain⟨c0,c25,c26⟩:=CC.o _ hg
 have HK:=hQQ hk
 have HR:=hQQ R
 have HH:=hQQ H
 have HQ:=hQQ hq
 have PB:=hQQ (cj H.toPgIn hq)
 unfold iI at hRr
 have HRr:=hQQ hRr
 clear hRr hv hk hD hg hw nFg R H hq
 go_enter_d Tryz.func129,Tryz.ntmps129
 go_wp2_with (refine iH rfl 28 _ rfl gb 1 rfl 90 _ c.arr _ _ L0.o (gC c p q k) Tryz.underlying28 rfl (by kernel_rfl) ?_)
 clear c0 c25 c26 cw
 refine(Fa HR.o HH.o hn F p kn D q k was w M0.o.view HK.o M0.o.inv).mono ?_
 intro e w2 he
 rcases M0.o.step (ae.refl _) HK.o (jZ HH.o q k was) he with⟨a',hE,rfl,hd',ht',_⟩|⟨x2,D2,F2,hE,rfl,M2,hq2,_,_⟩
 ·exact⟨rfl,NEED.o a' w2 (HRr.o.symm.trans (ag hE)) hd' ht'⟩
 have R2:=hQQ ((aj hE).symm.trans HRr.o)
 have M2:=hQQ M2
 have L2:=hQQ (KP.o _ _ _ M2.o)
 clear he hE
 go_wp2_with fail
 refine aM (fun W=>W.heap[gb]?=some (.cells (bF c p q k) 90 (0,0))) (by kernel_rfl) ?_
 have MR:=hQQ (M2.o.more ((ae.refl w2).drewN 1))
 change dc _ _ _ _ _ _ _ _ (w2.drewN 1)
 generalize w2.drewN 1=wr at MR⊢
 generalize hA:Act.mk _ _=A
 have HF:AG 23 A [(0,.pointer (some ⟨gb,0,none⟩))]:=by
  rw[←hA];try simp only[pts,List.foldl]
  refine⟨⟨Nat.le_of_ble_eq_true rfl,rfl⟩,?_⟩
  intro z hz;simp only[List.mem_cons,List.not_mem_nil,or_false] at hz;rcases hz with rfl<;>rfl
 refine bH (fun a W=>∃(u12 u13 u14 u15 u16 u17 u18 u19 u20 u21 u22:Value) (D9:List KV) (F9:Nat→Prop),a=(pts A [(12,u12),(13,u13),(14,u14),(15,u15),(16,u16),(17,u17),(18,u18),(19,u19),(20,u20),(21,u21),(22,u22)])∧MidV w W F (fun _=>False) p kn n D9 F9∧Rr=.ok () D9) (fun W=>aG w F p kn (fun _:Unit=>Value.tuple #[]) Rr (.panicked (bg p)) W) (bg p) (fun a W hd h=>⟨hd,h⟩) (fun _ _ _ _ _ h=>h) ?_ ?_
 ·skip
  rintro a wa ⟨u12,u13,u14,u15,u16,u17,u18,u19,u20,u21,u22,D9,F9,rfl,MS,hr⟩
  rw[←hA];try simp only[pts,List.foldl]
  have FIN:=hQQ (DONE.o () wa D9 F9 hr MS)
  clear HF hA MR MS hr
  go_simp
  go_wp2_with fail
  go_end0
  exact FIN.o
 intro QQ FINE FIND FINQ
 clear hA
 refine tqC 0 12 (.pointer (some ⟨gb,0,none⟩)) (by kernel_rfl) FINQ (KP.o _ _ _ MR.o) HF (by exact(Or.inl ⟨(ab rfl),fun W hW=>by have h5:=(HF.getD 0 rfl);go_simp⟩)) fun A β1 HF=>?_
 refine tqC 1 13 (.pointer (some ⟨p,0,none⟩)) (by kernel_rfl) FINQ (KP.o _ _ _ MR.o) HF (by exact dA (ab rfl) 43 _ rfl gb 0 (HF.get 0 rfl) (.pointer (some ⟨p,0,none⟩)) _ Tryz.underlying43 rfl (fun W hW=>(CC.o W hW).1)) fun A β2 HF=>?_
 refine tqC 2 14 (.pointer (some ⟨gb,1,none⟩)) (by kernel_rfl) FINQ (KP.o _ _ _ MR.o) HF (by exact(Or.inl ⟨(ab rfl),fun W hW=>by have h5:=(HF.getD 2 rfl);go_simp⟩)) fun A β3 HF=>?_
 refine tqC 3 15 (.agg c.arr) (by kernel_rfl) FINQ (KP.o _ _ _ MR.o) HF (by exact zG (ab rfl) 28 _ rfl gb 1 (HF.get 0 rfl) 90 _ c.arr _ _ (fun W hW=>hW) (gC c p q k) Tryz.underlying28 rfl (by kernel_rfl)) fun A β4 HF=>?_
 refine tqC 4 16 (.pointer (some ⟨gb,25,none⟩)) (by kernel_rfl) FINQ (KP.o _ _ _ MR.o) HF (by exact(Or.inl ⟨(ab rfl),fun W hW=>by have h5:=(HF.getD 4 rfl);go_simp⟩)) fun A β5 HF=>?_
 refine tqC 5 17 (.int .i64 q) (by kernel_rfl) FINQ (KP.o _ _ _ MR.o) HF (by exact dA (ab rfl) 3 _ rfl gb 25 (HF.get 0 rfl) (.int .i64 q) _ Tryz.underlying3 rfl (fun W hW=>(CC.o W hW).2.1)) fun A β6 HF=>?_
 refine tqC 6 18 (.pointer (some ⟨gb,26,none⟩)) (by kernel_rfl) FINQ (KP.o _ _ _ MR.o) HF (by exact(Or.inl ⟨(ab rfl),fun W hW=>by have h5:=(HF.getD 6 rfl);go_simp⟩)) fun A β7 HF=>?_
 refine tqC 7 19 (.int .i64 k) (by kernel_rfl) FINQ (KP.o _ _ _ MR.o) HF (by exact dA (ab rfl) 3 _ rfl gb 26 (HF.get 0 rfl) (.int .i64 k) _ Tryz.underlying3 rfl (fun W hW=>(CC.o W hW).2.2)) fun A β8 HF=>?_
 refine tqC 8 20 (.agg (bF c p q k)) (by kernel_rfl) FINQ (KP.o _ _ _ MR.o) HF (by exact aC (ab rfl) 90 _ rfl gb (HF.get 8 rfl) 90 _ _ _ (fun W hW=>hW) Tryz.underlying90 rfl (by kernel_rfl)) fun A β9 HF=>?_
 refine tqO 9 21 (by kernel_rfl) HF fun K hK=>?_
 refine sW (v0:=.agg (bF c p q k)) rfl (HF.get 0 rfl) (enters_of Tryz.func128 (by kernel_rfl) rfl) ?_
 refine(DN HR.o HH.o.toPgIn F2 p kn D2 q k hn HQ.o wr MR.o.view HK.o MR.o.inv).mono ?_
 intro e w4 he
 rcases MR.o.step (ae.refl _) HK.o (bb n PB.o.2.1.2.1) he with⟨a',hE,rfl,hd',ht',_⟩|⟨x4,D4,F4,hE,rfl,M4,hq4,_,_⟩
 ·exact FIND _ _ HF.1.2 (NEED.o a' w4 (R2.o.symm.trans (ag hE)) hd' ht')
 have R4:=hQQ ((aj hE).symm.trans R2.o)
 have M4:=hQQ M4
 clear he hE
 refine hK _ _ (KP.o _ _ _ M4.o) fun A β10 HF=>?_
 clear hK K
 refine tqO 10 22 (by kernel_rfl) HF fun K hK=>?_
 refine kb (v0:=.pointer (some ⟨p,0,none⟩)) (v1:=.agg c.arr) (v2:=.int .i64 q) (v3:=.int .i64 k) (v4:=.int .i64 x4) rfl (HF.get 8 rfl) (HF.get 6 rfl) (HF.get 4 rfl) (HF.get 2 rfl) (HF.get 0 rfl) (enters_of Tryz.func131 (by kernel_rfl) rfl) ?_
 refine(KH HR.o HH.o hn F4 p kn D4 q k x4 w4 M4.o.view HK.o M4.o.inv).mono ?_
 intro e w5 he
 rcases M4.o.step (ae.refl _) HK.o (lW HH.o q k x4) he with⟨a',hE,rfl,hd',ht',_⟩|⟨x5,D5,F5,hE,rfl,M5,hq5,_,_⟩
 ·exact FIND _ _ HF.1.2 (NEED.o a' w5 (R4.o.symm.trans (ag hE)) hd' ht')
 have R5:=hQQ ((aj hE).symm.trans R4.o)
 have M5:=hQQ M5
 clear he hE
 refine hK _ _ (KP.o _ _ _ M5.o) fun A β11 HF=>?_
 clear hK K
 exact bI (by kernel_rfl) (FINE _ _ ⟨(.pointer (some ⟨gb,0,none⟩)),(.pointer (some ⟨p,0,none⟩)),(.pointer (some ⟨gb,1,none⟩)),(.agg c.arr),(.pointer (some ⟨gb,25,none⟩)),(.int .i64 q),(.pointer (some ⟨gb,26,none⟩)),(.int .i64 k),(.agg (bF c p q k)),(.int .i64 x4),(.bool x5),D5,F5,by rw[← β11,← β10,← β9,← β8,← β7,← β6,← β5,← β4,← β3,← β2,← β1]<;>rfl,M5.o,R5.o.symm⟩)
def pE (b:Nat)(c:Cfg)(p:Nat)(q k:Int)(x:Int)(v:Value)(W:World)(F:Nat→Prop):Prop :=
 ∃gb wb,v=.func (.func 129) #[] #[.pointer (some ⟨gb,0,none⟩),.pointer (some ⟨wb,0,none⟩)]∧b≤gb∧b≤wb∧gb≠wb∧¬F gb∧¬F wb ∧
  W.heap[gb]?=some (.cells (bF c p q k) 90 (0,0))∧W.heap[wb]?=some (.cells #[.int .i64 x] 3 (0,0))
theorem DQ {c:Cfg}(R:c.Ok){n:Nat}(H:PgIn c.pg c.st n)(hn:n≤10000)(F:Nat→Prop)(p:Nat)(kn:Int→Option Int)(D:List KV)(q k:Int)(hq:af c.pg q=true)(w:World)(hv:aD w F p kn D)(hk:OkK kn)(hD:cC n D):
 Calls Tryz.prog 111 #[.agg (bF c p q k)] w (fm w F p kn (pE w.heap.size c p q k) (cS (cA c.pg c.st q) kn D)):=by
 obtain⟨Rr,hRr⟩:∃Rr,cS (cA c.pg c.st q) kn D=Rr:=⟨_,rfl⟩
 rw[hRr]
 obtain⟨w1,e1,hl1,m1,s1⟩:=a6 w (.cells (bF c p q k) 90)
 have MM:=hQQ m1
 have L0:=hQQ hl1
 have c0:=(show w1.cell? ⟨w.heap.size,0,none⟩=some (.pointer (some ⟨p,0,none⟩)) by rw[cell_of_row w1 _ _ _ _ _ hl1];exact tj c p q k)
 have c25:=(show w1.cell? ⟨w.heap.size,25,none⟩=some (.int .i64 q) by rw[cell_of_row w1 _ _ _ _ _ hl1];exact tk c p q k)
 have c26:=(show w1.cell? ⟨w.heap.size,26,none⟩=some (.int .i64 k) by rw[cell_of_row w1 _ _ _ _ _ hl1];exact tn c p q k)
 have nFl:¬F w.heap.size:=fun z=>by have:=hv.lt _ z;omega
 have M0:=m0Z (hv.more m1) hD
 have NEED:Hq (∀a w2,Rr=.need a→bB w2 p a→Turned (fun b=>F b∨False) w1 w2→fm w F p kn (pE w.heap.size c p q k) Rr (.panicked (bg p)) w2):=hQQ fun a w2 e hd ht=>kh MM.o (fun _ q=>q.elim) e hd ht
 have DONE:Hq (∀x v w2 D' F',Rr=.ok x D'→MidV w1 w2 F (fun _=>False) p kn n D' F'→pE w.heap.size c p q k x v w2 F'→fm w F p kn (pE w.heap.size c p q k) Rr (.returned v) w2):=hQQ fun x v w2 D' F' e h hp=>ki MM.o (fun _ q=>q.elim) h e hp
 have hwl:w.heap.size<w1.heap.size:=by omega
 have HNF:=hQQ nFl
 have PB:=hQQ (cj H hq).2.1
 have HK:=hQQ hk
 have HRr:=hQQ hRr
 have GC:=hQQ (DN R H F p kn D q k hn hq w1 M0.o.view HK.o M0.o.inv)
 clear hl1 m1 hv hD hk R nFl hRr H hq c0 c25 c26
 go_enter Tryz.func111,Tryz.ntmps111
 go_wp2_with (refine wpList_load_row rfl 90 _ rfl w.heap.size rfl 90 _ _ _ L0.o Tryz.underlying90 rfl (by kernel_rfl) ?_)
 clear e1
 refine GC.o.mono ?_
 intro e w4 he
 rcases M0.o.step (ae.refl _) HK.o (bb n PB.o.2.1) he with⟨a',hE,rfl,hd',ht',_⟩|⟨x4,D4,F4,hE,rfl,M4,hq4,_,_⟩
 ·exact⟨rfl,NEED.o a' w4 (HRr.o.symm.trans hE) hd' ht'⟩
 have M4:=hQQ M4
 have E4:=hQQ (HRr.o.symm.trans hE)
 clear he hE
 obtain⟨wA,eA,hA,mA,sA⟩:=a6 w4 (.cells #[.int .i64 0] 3)
 obtain⟨cA',fA,kA'⟩:=aB hA
 obtain⟨wB,eB⟩:∃wB,wA.setCell ⟨w4.heap.size,0,none⟩ (.int .i64 x4)=wB:=⟨_,rfl⟩
 have mB:ae w4 wB:=by rw[←eB];exact Turned.setCell mA _ _ (fun z=>by simp at z)
 have hB:wB.heap[w4.heap.size]?=some (.cells #[.int .i64 x4] 3 (0,0)):=by rw[←eB];exact jH hA _
 have FIN:Hq (fm w F p kn (pE w.heap.size c p q k) Rr (.returned (.func (.func 129) #[] #[.pointer (some ⟨w.heap.size,0,none⟩),.pointer (some ⟨w4.heap.size,0,none⟩)])) wB):=hQQ (by
  have h4:w1.heap.size≤w4.heap.size:=M4.o.size
  have g4:=eT M4.o L0.o HNF.o (fun q=>q)
  refine DONE.o x4 _ wB D4 F4 E4.o (M4.o.more mB) ⟨_,_,rfl,by omega,by omega,by omega,M4.o.off hwl HNF.o,fun r=>by have:=M4.o.view.lt _ r;omega,mB.block g4,hB⟩)
 clear hA mA sA mB hB
 go_wp2_with fail
 go_ret
 exact FIN.o
theorem tz (c:Cfg)(p:Nat)(q k:Int):Tryz.prog.built 90 [(0,.pointer (some ⟨p,0,none⟩)),(1,.agg c.arr),(2,.int .i64 q),(3,.int .i64 k)]=some (bF c p q k):=by kernel_rfl
theorem zI {ops:Array Oper}{rest:List Oper}{o:Oper}{a:Act}{w:World}{Q:Exit→Act→World→Prop}(hgd:o.guard=none)(x0 x1 x2 x3:Operand)(ho:o.op=.build 90 #[(0,x0),(1,x1),(2,x2),(3,x3)])(c:Cfg)(p:Nat)(q k:Int)
 (h0:a.eval x0=.pointer (some ⟨p,0,none⟩)) (h1:a.eval x1=.agg c.arr) (h2:a.eval x2=.int .i64 q) (h3:a.eval x3=.int .i64 k) (h:wpList Tryz.prog ops Q rest (a.put o.dst (.agg (bF c p q k))) w):wpList Tryz.prog ops Q (o::rest) a w:=by
 have e:Tryz.prog.built 90 ((#[(0,x0),(1,x1),(2,x2),(3,x3)]:Array (Nat×Operand)).map fun(i,x)=>(i,a.eval x)).toList=some (bF c p q k):=by
  simp only[List.map_toArray,List.map_cons,List.map_nil,h0,h1,h2,h3]
  exact tz c p q k
 refine wpList_build hgd _ _ ho ?_ ?_
 ·rw[e];rfl
 ·rw[e];exact h
theorem qH (c:Cfg)(p:Nat)(q k:Int):(bF c p q k).all (·.oneCell')=true:=by
 have h:c.arr.toList.all (·.oneCell')=true:=by rw[Array.all_toList];exact kG ..
 simp[bF,Value.oneCell'] at h⊢
 exact h
theorem Ip (w:World)(c:Cfg)(p:Nat)(q k:Int):∃w1,(w.alloc (.cells #[Value.pointer none,Value.int IntKind.i64 0,Value.int IntKind.i64 0,Value.int IntKind.i64 0,Value.int IntKind.i64 0,Value.int IntKind.i64 0,Value.int IntKind.i64 0,Value.int IntKind.i64 0,Value.int IntKind.i64 0,Value.int IntKind.i64 0,Value.int IntKind.i64 0,Value.int IntKind.i64 0,Value.int IntKind.i64 0,Value.int IntKind.i64 0,Value.int IntKind.i64 0,Value.int IntKind.i64 0,Value.int IntKind.i64 0,Value.int IntKind.i64 0,Value.int IntKind.i64 0,Value.int IntKind.i64 0,Value.int IntKind.i64 0,Value.int IntKind.i64 0,Value.int IntKind.i64 0,Value.int IntKind.i64 0,Value.int IntKind.i64 0,Value.int IntKind.i64 0,Value.int IntKind.i64 0] 90)).setRow w.heap.size (bF c p q k)=w1∧w1.heap[w.heap.size]?=some (.cells (bF c p q k) 90 (0,0))∧ae w w1 :=
 ⟨_,rfl,setRow_heap _ _ _ _ _ _ (aW w _ _),((ae.refl w).alloc _).setRow _ _ (Nat.le_refl _)⟩
def ma (pg st k:Int):Prg Bool:=ak (eZ pg st k (aw k).toNat 1) fun x=>ay (x != -1)
theorem Cd (pg st k:Int):bh (ma pg st k):=aq (lV _ _ _ _ _) (fun _=>ah _)
theorem Nt {c:Cfg}(R:c.Ok){n:Nat}(H:cB c.pg c.st n)(F:Nat→Prop)(p:Nat)(kn:Int→Option Int)(D:List KV)(k:Int)(w:World)(hv:aD w F p kn D)(hk:OkK kn)(hD:cC n D)(bt:Nat)(hs:dd bt w)(nF0:¬F 0)(nFb:¬F bt):
 Calls Tryz.prog 24 #[.pointer (some ⟨p,0,none⟩),.agg c.arr,.int .i64 k] w (aG w F p kn (fun b=> .bool b) (ma c.pg c.st k kn D)):=by
 obtain⟨Rr,hRr⟩:∃Rr,ma c.pg c.st k kn D=Rr:=⟨_,rfl⟩
 rw[hRr]
 obtain⟨w1,e1,hl1,m1,s1⟩:=a6 w (.cells c.arr 28)
 have nFl:¬F w.heap.size:=fun q=>by have:=hv.lt _ q;omega
 have MM:=hQQ m1
 have L0:=hQQ hl1
 have M0:=m0Z (hv.more m1) hD
 have KL:=klZ (p:=p) (kn:=kn) (n:=n) L0.o nFl
 have NEED:=ndZ (F:=F) (p:=p) (kn:=kn) (R:=Rr) (fun b:Bool=>Value.bool b) MM.o
 have DONE:=dnZ (F:=F) (p:=p) (n:=n) (kn:=kn) (R:=Rr) (fun b:Bool=>Value.bool b) MM.o
 have HK:=hQQ hk
 have HR:=hQQ R
 have HH:=hQQ H
 clear hl1 m1 hv hD hk R H nFl
 have HS:=hQQ (hs.more MM.o)
 have HRr:=hQQ (show ak (eZ c.pg c.st k (aw k).toNat 1) (fun x=>ay (x != -1)) kn D=Rr from hRr)
 have HF:=hQQ (And.intro nF0 nFb)
 clear hRr hs nF0 nFb
 go_enter Tryz.func24,Tryz.ntmps24
 go_wp2_with (first|(refine aK rfl rfl rfl L0.o (by kernel_rfl) ?_)|(refine aK rfl rfl rfl L0.o (by kernel_rfl) ?_))
 refine(zD HR.o HH.o F p kn D k w1 M0.o.view HK.o M0.o.inv bt HS.o HF.o.1 HF.o.2).mono ?_
 intro e w3 he
 rcases M0.o.step (ae.refl _) HK.o (ik HH.o _ _ _) he with⟨a',hE,rfl,hd',ht',_⟩|⟨x3,D3,F3,hE,rfl,M3,hq3,_,_⟩
 ·exact⟨rfl,NEED.o a' w3 (HRr.o.symm.trans (ag hE)) hd' ht'⟩
 have L3:=hQQ (KL.o _ _ _ M3)
 have R3:=hQQ ((aj hE).symm.trans HRr.o)
 have M3:=hQQ M3
 clear he hE
 have FIN:=hQQ (DONE.o (x3 != -1) w3 D3 F3 R3.o.symm M3.o)
 go_wp2_with fail
 go_ret
 exact FIN.o
theorem cnt_b (b k:Int):0≤dv b (aw k)∧dv b (aw k)≤32∧0≤dN k b∧dN k b≤32:=by
 have h:=Il (cameUpTo b (endN (aw k)))
 rw[zA,rg] at h
 have hs:=eL k
 have he:(endN (aw k):Int)=aw k:=by unfold endN;omega
 unfold dN
 omega
section
variable {ops:Array Oper}{C:World→Prop}{o':Oper}{a:Act}{x y:Operand}
theorem jo {s len cap j:Nat}(hw:Region.wanted o' (yielded ops a.tmps)=true)(ho:o'.op=.indexAddr 29 x y)(hx:a.eval x=.slice (some ⟨s,0,none⟩) len cap)(hy:a.eval y=.int .i64 (j:Int))(hj:j<len):bU Tryz.prog ops C o' (.pointer (some ⟨s,j,none⟩)) a:=by
 have d1:decide (j<len)=true:=by simp[hj]
 refine .inl ⟨hw,fun W hW=>?_⟩
 unfold execOp
 generalize a.eval=ρ at hx hy⊢
 simp only[ho,hx,hy]
 go_simp
theorem pF {u z:Int}(hw:Region.wanted o' (yielded ops a.tmps)=true)(ho:o'.op=.binOp .sub 3 x y 3)(hx:a.eval x=.int .i64 u)(hy:a.eval y=.int .i64 z)(t:Int)(hq:IntKind.i64.wrap (u-z)=t):bU Tryz.prog ops C o' (.int .i64 t) a :=
 .inl ⟨hw,fun w _=>by unfold execOp;generalize a.eval=ρ at hx hy⊢;simp only[ho,hx,hy];subst hq;go_simp⟩
end
theorem iU {P:Program}{fn:Func}{p u v:Tmp}{ty:TypeId}(h:fn.results= #[.cell p ty,.tmp u,.tmp v])(tmps:Array Value)(w:World)(g:Nat)(t:TypeId)(cs:Array Value)(fr:Nat×Nat)(d:TypeDesc)
 (hp:tmps.getD p undef=.pointer (some ⟨g,0,none⟩)) (hg:w.heap[g]?=some (.cells cs t fr))
 (hu:P.underlying ty=some d) (hd:(match d with| .struct _| .array _ _=>true|_=>false)=true) (hi:(P.info? ty).map (·.size)=some cs.size):
 (results fn tmps).run P w=.ok (.tuple #[.agg cs,tmps.getD u undef,tmps.getD v undef]) w:=by
 have hp':tmps[p]?.getD undef=.pointer (some ⟨g,0,none⟩):=by simpa using hp
 simp[results,h,hp',asAddr,run_loadVar_row w g t ty cs fr d hg hu hd hi,Sem.run_bind,Result.andThen]
def Cfg.us (c:Cfg):Int:=fN c.cp c.pg c.st c.ca c.bi
def pgZ:Array Value:= #[Value.pointer none,Value.int IntKind.i64 0,Value.int IntKind.i64 0,Value.int IntKind.i64 0,Value.int IntKind.i64 0,Value.int IntKind.i64 0,Value.int IntKind.i64 0,Value.int IntKind.i64 0,Value.int IntKind.i64 0,Value.int IntKind.i64 0,Value.int IntKind.i64 0,Value.int IntKind.i64 0,Value.int IntKind.i64 0,Value.int IntKind.i64 0,Value.int IntKind.i64 0,Value.int IntKind.i64 0,Value.int IntKind.i64 0,Value.int IntKind.i64 0,Value.int IntKind.i64 0,Value.int IntKind.i64 0,Value.int IntKind.i64 0,Value.int IntKind.i64 0,Value.int IntKind.i64 0,Value.int IntKind.i64 0,Value.int IntKind.i64 0,Value.int IntKind.i64 0,Value.int IntKind.i64 0]
theorem MidV.row {W wr:World}{F S F':Nat→Prop}{p n:Nat}{kn:Int→Option Int}{D:List KV}(h:MidV W wr F S p kn n D F'){b:Nat}(hS:b<W.heap.size→S b)(nF:¬F' b)(cs':Array Value){cs:Array Value}{t:TypeId}{fr:Nat×Nat}(hb:wr.heap[b]?=some (.cells cs t fr)):MidV W (wr.setRow b cs') F S p kn n D F' :=
 have T:Turned (fun k=>k=b) wr (wr.setRow b cs'):=Turned.setRow (Turned.refl _ wr) b cs' (fun _=>rfl)
 ⟨h.view.keepS (S:=fun k=>k=b) T (fun k q e=>nF (e▸q)) (fun k es cl e q=>by subst e;rw[hb] at q;cases q),
  h.from',am h.turn T (fun k q=>by
   subst q
   rcases Nat.lt_or_ge k W.heap.size with r|r
   ·exact .inl (.inr (hS r))
   ·exact .inr r),h.inv⟩
theorem oC {w:World}{g b:Nat}{cs:Array Value}{o:Obj}(h:w.heap[b]?=some o)(hne:b≠g):(w.setRow g cs).heap[b]?=some o :=
 ((Turned.setRow (S:=fun k=>k=g) (Turned.refl _ w) g cs (fun _=>rfl)).block b (ac h) hne).trans h
theorem vS (w:World):∃w1,w.alloc (.cells pgZ 90)=w1∧w1.heap[w.heap.size]?=some (.cells pgZ 90 (0,0))∧ae w w1:=⟨_,rfl,aW w _ _,(ae.refl w).alloc _⟩
section
variable {o:Oper}{a:Act}{w:World}{K:Act→World→Prop}{Q:Exit→Act→World→Prop}{ops:Array Oper}{rest:List Oper}{C:World→Prop}
theorem nW (ho:o.op=.alloc 90)(h:K (a.put o.dst (.pointer (some ⟨w.heap.size,0,none⟩))) (w.alloc (.cells pgZ 90))):Oper.wp Tryz.prog o a w K Q:=by
 unfold Oper.wp Oper.upon execOp
 simp only[ho]
 go_simp
 exact h
theorem pG (hw:Region.wanted o (yielded ops a.tmps)=true)(x0 x1 x2 x3:Operand)(ho:o.op=.build 90 #[(0,x0),(1,x1),(2,x2),(3,x3)])(c:Cfg)(p:Nat)(q k:Int)
 (h0:a.eval x0=.pointer (some ⟨p,0,none⟩)) (h1:a.eval x1=.agg c.arr) (h2:a.eval x2=.int .i64 q) (h3:a.eval x3=.int .i64 k):bU Tryz.prog ops C o (.agg (bF c p q k)) a:=by
 refine .inl ⟨hw,fun w _=>?_⟩
 unfold execOp
 generalize a.eval=ρ at h0 h1 h2 h3⊢
 simp only[ho,List.map_toArray,List.map_cons,List.map_nil,h0,h1,h2,h3]
 simp[run_build w _ _ _ (tz c p q k),Sem.run_bind,Result.andThen]
theorem Ce:Tryz.prog.built 90 []=some pgZ:=by kernel_rfl
theorem me (hgd:o.guard=none)(ho:o.op=.build 90 #[])(h:wpList Tryz.prog ops Q rest (a.put o.dst (.agg pgZ)) w):wpList Tryz.prog ops Q (o::rest) a w:=by
 have e:Tryz.prog.built 90 ((#[]:Array (Nat×Operand)).map fun(i,x)=>(i,a.eval x)).toList=some pgZ:=by simp only[List.map_toArray,List.map_nil];exact Ce
 refine wpList_build hgd _ _ ho ?_ ?_
 ·rw[e];rfl
 ·rw[e];exact h
theorem xJ {i j:Nat}{x y:Value}(h:i≠j):Act.put (Act.put a (some i) x) (some j) y=Act.put (Act.put a (some j) y) (some i) x:=Act.put_comm a x y (fun d hd e=>by cases hd;cases e;exact h rfl)
end
theorem kZ {W:World}{gb p:Nat}{c:Cfg}{q k:Int}(h:W.heap[gb]?=some (.cells (bF c p q k) 90 (0,0))):W.cell? ⟨gb,0,none⟩=some (.pointer (some ⟨p,0,none⟩))∧W.cell? ⟨gb,25,none⟩=some (.int .i64 q)∧W.cell? ⟨gb,26,none⟩=some (.int .i64 k):=
 ⟨by rw[cell_of_row W _ _ _ _ _ h];exact tj c p q k,by rw[cell_of_row W _ _ _ _ _ h];exact tk c p q k,by rw[cell_of_row W _ _ _ _ _ h];exact tn c p q k⟩
theorem Iq (x:Int):W64 (IntKind.i64.wrap x):=by rw[IntKind.wrap_i64];unfold W64;omega
theorem Ir (k:Int){bt:Nat}(w:World)(h:dd bt w):Calls Tryz.prog 26 #[.int .i64 k] w (aP w (.int .i64 (szV k))):=(xI k w ⟨bt,h⟩).mono fun e w' q=>⟨q.1,q.2▸ae.refl _⟩
abbrev TkA:=Option (Int×Int×Int×Bool)
def tD (c:Cfg)(p:Nat):TkA→Value
 |none=> .tuple #[.agg pgZ,.int .i64 0,.bool false]
 |some (q,k,i,b)=> .tuple #[.agg (bF c p q k),.int .i64 i,.bool b]
def jp (pg st q wd x:Int):Prg TkA :=
 if aw (IntKind.i64.wrap (x-1))=0 then ay none else if wd % szV (IntKind.i64.wrap (x-1))≠0 then ay none
 else ak (cS (bA pg st q)) fun b=>ay (some (q,IntKind.i64.wrap (x-1),wd / szV (IntKind.i64.wrap (x-1)),eK b (wd / szV (IntKind.i64.wrap (x-1)))))
def fR (us pg st a:Int):Prg TkA:=if us≤a∧a<us+32 * pg then ak (fh pg st ((a-us) / 32)) fun x=>jp pg st ((a-us) / 32) ((a-us) % 32) x else ay none
theorem xK (pg st q wd x:Int):bh (jp pg st q wd x):=aH (ah _) (aH (ah _) (aq (dx _) fun _=>ah _))
theorem rm (us pg st a:Int):bh (fR us pg st a):=aH (aq (kS _ _ _) fun _=>xK _ _ _ _ _) (ah _)
def OZ (pg:Int)(x:TkA):Prop:=∀q k i b,x=some (q,k,i,b)→af pg q=true∧0≤k∧k≤4∧0≤i∧i≤31
theorem zJ {pg st:Int}{n:Nat}(H:PgIn pg st n){q:Int}(hq:af pg q=true){wd:Int}(hw:0≤wd∧wd<32)(x:Int):bQ n (OZ pg) (jp pg st q wd x):=by
 unfold jp
 refine aO (fun _=>ai n (fun _ _ _ _ e=>by cases e)) (fun h=>aO (fun _=>ai n (fun _ _ _ _ e=>by cases e)) (fun _=>ar (bb n (cj H hq).2.2.2.1) fun b _=>ai n ?_))
 rintro q' k' i' b' e
 cases e
 have h4:=fe h
 generalize IntKind.i64.wrap (x-1)=kk at h4⊢
 obtain⟨z,rfl⟩:∃z:Nat,kk=(z:Int):=⟨kk.toNat,by omega⟩
 have hs:=KE (k:=z) (by omega)
 exact⟨hq,h4.1,h4.2,Int.ediv_nonneg hw.1 (by omega),by have:=Int.ediv_le_self (szV (z:Int)) hw.1;omega⟩
theorem ni {us pg a:Int}(h:us≤a∧a<us+32 * pg):af pg ((a-us) / 32)=true∧0≤(a-us) % 32∧(a-us) % 32<32:=⟨ax.2 (by omega),by omega,by omega⟩
theorem jq {us pg st:Int}{n:Nat}(H:PgIn pg st n)(a:Int):bQ n (OZ pg) (fR us pg st a):=by
 unfold fR
 exact aO (fun h=>ar (gp H _) fun x _=>zJ H (ni h).1 (ni h).2 x) (fun _=>ai n (fun _ _ _ _ e=>by cases e))
theorem DR {c:Cfg}(R:c.Ok){n:Nat}(H:cB c.pg c.st n)(hn:n≤10000)(F:Nat→Prop)(p:Nat)(kn:Int→Option Int)(D:List KV)(ad:Int)(w:World)(hv:aD w F p kn D)(hk:OkK kn)(hD:cC n D)(bt:Nat)(hs:dd bt w)(nF0:¬F 0)(nFb:¬F bt):
 Calls Tryz.prog 44 #[.pointer (some ⟨p,0,none⟩),.agg c.arr,.int .i64 ad] w (aG w F p kn (tD c p) (fR c.us c.pg c.st ad kn D)):=by
 obtain⟨Rr,hRr⟩:∃Rr,fR c.us c.pg c.st ad kn D=Rr:=⟨_,rfl⟩
 rw[hRr]
 obtain⟨w2,e2,hl2,hz2,m2,s2⟩:=gT w (.cells c.arr 28) (.cells #[Value.pointer none,Value.int IntKind.i64 0,Value.int IntKind.i64 0,Value.int IntKind.i64 0,Value.int IntKind.i64 0,Value.int IntKind.i64 0,Value.int IntKind.i64 0,Value.int IntKind.i64 0,Value.int IntKind.i64 0,Value.int IntKind.i64 0,Value.int IntKind.i64 0,Value.int IntKind.i64 0,Value.int IntKind.i64 0,Value.int IntKind.i64 0,Value.int IntKind.i64 0,Value.int IntKind.i64 0,Value.int IntKind.i64 0,Value.int IntKind.i64 0,Value.int IntKind.i64 0,Value.int IntKind.i64 0,Value.int IntKind.i64 0,Value.int IntKind.i64 0,Value.int IntKind.i64 0,Value.int IntKind.i64 0,Value.int IntKind.i64 0,Value.int IntKind.i64 0,Value.int IntKind.i64 0] 90)
 have hz2:w2.heap[w.heap.size+1]?=some (.cells pgZ 90 (0,0)):=hz2
 have nFl:¬F w.heap.size:=fun q=>by have:=hv.lt _ q;omega
 have nFz:¬F (w.heap.size+1):=fun q=>by have:=hv.lt _ q;omega
 have MM:=hQQ m2
 have HNZ:=hQQ nFz
 have HZL:=hQQ (show w.heap.size+1<w2.heap.size by omega)
 have L0:=hQQ hl2
 have M0:Hq (MidV w2 w2 F (fun b=>b=w.heap.size+1) p kn n D F∧w2.heap[w.heap.size+1]?=some (.cells pgZ 90 (0,0))):=hQQ ⟨MidV.begin (hv.more m2) hD,hz2⟩
 have KL:Hq (∀wr D' F',MidV w2 wr F (fun b=>b=w.heap.size+1) p kn n D' F'→wr.heap[w.heap.size]?=some (.cells c.arr 28 (0,0))):=hQQ fun wr D' F' h=>eT h L0.o nFl (fun q=>by omega)
 have hSS:∀b,(fun b=>b=w.heap.size+1) b→w.heap.size≤b:=fun b q=>by have:b=w.heap.size+1:=q;omega
 have NEED:Hq (∀a w3,Rr=.need a→bB w3 p a→Turned (fun b=>F b∨b=w.heap.size+1) w2 w3→aG w F p kn (tD c p) Rr (.panicked (bg p)) w3):=hQQ fun a w3 e hd ht=>ji MM.o hSS e hd ht
 have DONE:Hq (∀x w3 D' F',Rr=.ok x D'→MidV w2 w3 F (fun b=>b=w.heap.size+1) p kn n D' F'→aG w F p kn (tD c p) Rr (.returned (tD c p x)) w3):=hQQ fun x w3 D' F' e h=>fB MM.o hSS h e
 have SZ:Hq (∀wr D' F',MidV w2 wr F (fun b=>b=w.heap.size+1) p kn n D' F'→dd bt wr):=hQQ fun wr D' F' h=>(hs.more MM.o).keep h.turn (by rintro(q|q);exact nF0 q;have:=hs.lt0;omega) (by rintro(q|q);exact nFb q;have:=hs.lt;omega)
 have HK:=hQQ hk
 have HR:=hQQ R
 have HH:=hQQ H
 have pg1:=HR.o.pg1
 have pg2:=HR.o.pg2
 clear hl2 hz2 m2 hv hD hk R H nFl nFz hs nF0 nFb hSS
 unfold fR at hRr
 have L2:=hQQ (KL.o _ _ _ M0.o.1)
 by_cases hin:c.us≤ad∧ad<c.us+32 * c.pg
 ·rw[if_pos hin] at hRr
  obtain⟨hq,hwd⟩:=ni hin
  have PL:=hQQ (EC HR.o w2 ad hin.1 hin.2)
  have PL:=hQQ (show Calls Tryz.prog 79 #[.agg c.arr,.int .i64 ad] w2 (aP w2 (.tuple #[.int .i64 ((ad-c.us) / 32),.int .i64 ((ad-c.us) % 32),.bool true])) from PL.o)
  generalize (ad-c.us) / 32=q at hRr hq PL
  generalize (ad-c.us) % 32=wd at hRr hwd PL
  have HRr:=hQQ hRr
  have HQ:=hQQ hq
  have PB:=hQQ (cj HH.o.toPgIn hq)
  clear hin hRr hq
  go_enter Tryz.func44,Tryz.ntmps44
  go_wp2_with (first|(refine aK rfl rfl rfl L2.o (by kernel_rfl) ?_)|(refine aK rfl rfl rfl L2.o (by kernel_rfl) ?_))
  refine PL.o.mono ?_
  rintro e w3 ⟨rfl,h3⟩
  have M3:=hQQ (And.intro (M0.o.1.more h3) (h3.block M0.o.2))
  clear h3
  go_wp2_with fail
  have MR:Hq (MidV w2 (w3.drewN 1) F (fun b=>b=w.heap.size+1) p kn n D F∧(w3.drewN 1).heap[w.heap.size+1]?=some (.cells pgZ 90 (0,0))):=hQQ ⟨M3.o.1.more ((ae.refl w3).drewN 1),((ae.refl w3).drewN 1).block M3.o.2⟩
  have KC:Hq (∀W D' F',MidV w2 W F (fun b=>b=w.heap.size+1) p kn n D' F'∧W.heap[w.heap.size+1]?=some (.cells pgZ 90 (0,0))→W.heap[w.heap.size]?=some (.cells c.arr 28 (0,0))):=hQQ fun _ _ _ h=>KL.o _ _ _ h.1
  refine aM (fun W=>W.heap[w.heap.size]?=some (.cells c.arr 28 (0,0))) (by kernel_rfl) ?_
  change dc _ _ _ _ _ _ _ _ (w3.drewN 1)
  generalize hA:Act.mk _ _=A
  have HF:AG 57 A [(0,.pointer (some ⟨p,0,none⟩)),(4,.pointer (some ⟨w.heap.size,0,none⟩)),(9,.int .i64 q)]:=by
   rw[←hA];try simp only[pts,List.foldl]
   refine⟨⟨Nat.le_of_ble_eq_true rfl,rfl⟩,?_⟩
   intro z hz;simp only[List.mem_cons,List.not_mem_nil,or_false] at hz;rcases hz with rfl|rfl|rfl<;>rfl
  generalize w3.drewN 1=wq at MR⊢
  refine bH (fun a W=>∃(u24 u25 u26 u27 u28 u29 u30 u31 u32:Value) (gb:Nat) (x9:Int) (D9:List KV) (F9:Nat→Prop),a=(Act.put (pts A [(24,u24),(25,u25),(26,u26),(27,u27),(28,u28),(29,u29),(30,u30),(31,u31),(32,u32),(12,.pointer (some ⟨gb,0,none⟩))]) none undef)∧(MidV w2 W F (fun b=>b=w.heap.size+1) p kn n D9 F9∧W.heap[w.heap.size+1]?=some (.cells pgZ 90 (0,0))∧W.heap[gb]?=some (.cells (bF c p q (IntKind.i64.wrap (x9-1))) 90 (0,0))∧w2.heap.size≤gb∧¬F9 gb)∧jp c.pg c.st q wd x9 kn D9=Rr) (fun W=>aG w F p kn (tD c p) Rr (.panicked (bg p)) W) (bg p) (fun a W hd h=>⟨hd,h⟩) (fun _ _ _ _ _ h=>h) ?_ ?_
  ·skip
   rintro a W9 ⟨u24,u25,u26,u27,u28,u29,u30,u31,u32,gb,x9,D9,F9,rfl,⟨m9,hz9,hb9,hgb,hnb⟩,hr⟩
   rw[←hA];try simp only[pts,List.foldl]
   have HNB:=hQQ hnb
   have HGB:=hQQ hgb
   have B9:=hQQ hb9
   have M9:=hQQ (And.intro m9 (And.intro hz9 hb9))
   clear HF hA MR KC m9 hz9 hb9 hgb hnb
   go_simp
   obtain⟨kk,hkk⟩:∃kk,IntKind.i64.wrap (x9-1)=kk:=⟨_,rfl⟩
   unfold jp at hr
   simp only[hkk] at hr M9 B9
   have hwkk:W64 kk:=by rw[←hkk];exact Iq _
   clear hkk
   obtain⟨c0,c25,c26⟩:=kZ B9.o
   go_wp2_with fail
   refine(DP kk W9 (SZ.o _ _ _ M9.o.1)).mono ?_
   rintro e w10 ⟨rfl,h10⟩
   have M10:=hQQ (And.intro (M9.o.1.more h10) (And.intro (h10.block M9.o.2.1) (h10.block M9.o.2.2)))
   clear h10 c0 c25 c26
   obtain⟨c0,c25,c26⟩:=kZ M10.o.2.2
   by_cases hz:aw kk=0
   ·rw[if_pos hz] at hr
    have d0:(aw kk != 0)=false:=by simp[hz]
    have MZ:=M10.o.1.row (b:=w.heap.size+1) (fun _=>rfl) (M10.o.1.off HZL.o HNZ.o) pgZ M10.o.2.1
    have HZ:=setRow_heap _ (w.heap.size+1) pgZ pgZ _ _ M10.o.2.1
    obtain⟨wz,ez⟩:∃wz,World.setRow w10 (w.heap.size+1) pgZ=wz:=⟨_,rfl⟩
    have Z0:=hQQ M10.o.2.1
    rw[ez] at MZ HZ
    have FIN:=hQQ (DONE.o none wz D9 F9 (hr.symm) MZ)
    clear MZ
    go_wp2_with (first|(refine me rfl rfl ?_)|(refine wpList_store_row rfl 90 _ _ rfl _ _ rfl rfl 90 _ Z0.o (by kernel_rfl) rfl (by kernel_rfl) ?_))
    refine bodyPost_ret (iU rfl _ _ (w.heap.size+1) 90 pgZ _ _ rfl HZ Tryz.underlying90 rfl (by kernel_rfl)) rfl ?_
    exact FIN.o
   rw[if_neg hz] at hr
   have d0:(aw kk != 0)=true:=by simpa using hz
   have hk4:=fe hz
   obtain⟨kn',rfl⟩:∃z:Nat,kk=(z:Int):=⟨kk.toNat,by omega⟩
   have hsb:=KE (k:=kn') (by omega)
   have CS:=hQQ (fun(W:World) (hW:dd bt W)=>Ir (kn':Int) W hW)
   obtain⟨sz,hsz⟩:∃sz,szV (kn':Int)=sz:=⟨_,rfl⟩
   rw[hsz] at hr hsb CS
   have t1:wd.tmod sz=wd % sz:=Int.tmod_eq_emod_of_nonneg hwd.1
   have t2:wd.tdiv sz=wd / sz:=Int.tdiv_eq_ediv_of_nonneg hwd.1
   have t3:0≤wd % sz∧wd % sz<sz:=⟨Int.emod_nonneg _ (by omega),Int.emod_lt_of_pos _ (by omega)⟩
   have t4:0≤wd / sz∧wd / sz≤wd:=⟨Int.ediv_nonneg hwd.1 (by omega),Int.ediv_le_self _ hwd.1⟩
   have t5:IntKind.i64.wrap (wd / sz)=wd / sz:=az (by omega) (by omega)
   have z0:(sz==0)=false:=by simp;omega
   have z1:decide (sz=0)=false:=by simp;omega
   have z2:(sz== -1)=false:=by simp;omega
   have z3:decide (sz= -1)=false:=by simp;omega
   have z4:¬sz=0:=by omega
   have z5:¬sz= -1:=by omega
   obtain⟨ix,hix⟩:∃ix,wd / sz=ix:=⟨_,rfl⟩
   obtain⟨mm,hmm⟩:∃mm,wd % sz=mm:=⟨_,rfl⟩
   rw[hix] at hr t2 t4 t5
   rw[hmm] at hr t1 t3
   have HIX:=hQQ t4
   have HW:=hQQ hwkk
   clear hz hk4 hsz hix hmm t4 t3 hwkk
   by_cases hm0:mm=0
   ·rw[if_neg (by simpa using hm0)] at hr
    have d1:(mm != 0)=false:=by simp[hm0]
    have RN:=hQQ hr
    clear hr
    go_wp2_with fail
    refine(CS.o w10 (SZ.o _ _ _ M10.o.1)).mono ?_
    rintro e w11 ⟨rfl,h11⟩
    have M11:=hQQ (And.intro (M10.o.1.more h11) (And.intro (h11.block M10.o.2.1) (h11.block M10.o.2.2)))
    clear h11 c0 c25 c26
    obtain⟨c0,c25,c26⟩:=kZ M11.o.2.2
    go_wp2_with fail
    refine(CS.o w11 (SZ.o _ _ _ M11.o.1)).mono ?_
    rintro e w9 ⟨rfl,h9⟩
    have M9:=hQQ (And.intro (M11.o.1.more h9) (And.intro (h9.block M11.o.2.1) (h9.block M11.o.2.2)))
    clear h9 c0 c25 c26 d0 d1 hm0 z0 z1 z2 z3 z4 z5 t1
    go_wp2_with fail
    generalize (kn':Int)=kk at M9 RN HW M11 M10 B9
    clear t2 t5 hsb M11 M10 B9 CS
    have MR:Hq (MidV w2 (w9.drewN 1) F (fun b=>b=w.heap.size+1) p kn n D9 F9∧(w9.drewN 1).heap[w.heap.size+1]?=some (.cells pgZ 90 (0,0))∧(w9.drewN 1).heap[gb]?=some (.cells (bF c p q kk) 90 (0,0))):=hQQ ⟨M9.o.1.more ((ae.refl w9).drewN 1),((ae.refl w9).drewN 1).block M9.o.2.1,((ae.refl w9).drewN 1).block M9.o.2.2⟩
    have KC:Hq (∀W D' F',MidV w2 W F (fun b=>b=w.heap.size+1) p kn n D' F'∧W.heap[w.heap.size+1]?=some (.cells pgZ 90 (0,0))∧W.heap[gb]?=some (.cells (bF c p q kk) 90 (0,0))→W.heap[gb]?=some (.cells (bF c p q kk) 90 (0,0))):=hQQ fun _ _ _ h=>h.2.2
    refine aM (fun W=>W.heap[gb]?=some (.cells (bF c p q kk) 90 (0,0))) (by kernel_rfl) ?_
    change dc _ _ _ _ _ _ _ _ (w9.drewN 1)
    generalize hA:Act.mk _ _=A
    have HF:AG 57 A [(6,.pointer (some ⟨w.heap.size+1,0,none⟩)),(12,.pointer (some ⟨gb,0,none⟩)),(13,.int .i64 ix)]:=by
     rw[←hA];try simp only[pts,List.foldl]
     refine⟨⟨Nat.le_of_ble_eq_true rfl,rfl⟩,?_⟩
     intro z hz;simp only[List.mem_cons,List.not_mem_nil,or_false] at hz;rcases hz with rfl|rfl|rfl<;>rfl
    generalize w9.drewN 1=wq at MR⊢
    refine bH (fun a W=>∃(u51 u52 u53 u55 u54 u56:Value) (x10:Int) (D10:List KV) (F10:Nat→Prop),a=(pts A [(51,u51),(52,u52),(53,u53),(55,u55),(54,u54),(56,u56),(7,.int .i64 ix),(8,.bool (eK x10 ix))])∧MidV w2 W F (fun b=>b=w.heap.size+1) p kn n D10 F10∧W.heap[w.heap.size+1]?=some (.cells (bF c p q kk) 90 (0,0))∧Rr=.ok (some (q,kk,ix,eK x10 ix)) D10) (fun W=>aG w F p kn (tD c p) Rr (.panicked (bg p)) W) (bg p) (fun a W hd h=>⟨hd,h⟩) (fun _ _ _ _ _ h=>h) ?_ ?_
    ·skip
     rintro a wa ⟨u51,u52,u53,u55,u54,u56,x10,D10,F10,rfl,MS,HS,hr⟩
     rw[←hA];try simp only[pts,List.foldl]
     have FIN:=hQQ (DONE.o (some (q,kk,ix,eK x10 ix)) wa D10 F10 hr MS)
     clear HF hA MR KC hr
     go_simp
     go_wp2_with fail
     refine bodyPost_ret (iU rfl _ _ (w.heap.size+1) 90 (bF c p q kk) _ _ rfl HS Tryz.underlying90 rfl (by kernel_rfl)) rfl ?_
     exact FIN.o
    intro QQ FINE FIND FINQ
    clear hA
    refine tqC 0 51 (.agg (bF c p q kk)) (by kernel_rfl) FINQ (KC.o _ _ _ MR.o) HF (by exact aC (ab rfl) 90 _ rfl gb (HF.get 1 rfl) 90 _ _ _ (fun W hW=>hW) Tryz.underlying90 rfl (by kernel_rfl)) fun A β1 HF=>?_
    refine tqM 1 52 3 rfl (.inl rfl) rfl (by kernel_rfl) FINQ (KC.o _ _ _ MR.o) HF fun A β2 HF=>?_
    refine tqC 2 53 (.agg (bF c p q kk)) (by kernel_rfl) FINQ (KC.o _ _ _ MR.o) HF (by exact aC (ab rfl) 90 _ rfl gb (HF.get 3 rfl) 90 _ _ _ (fun W hW=>hW) Tryz.underlying90 rfl (by kernel_rfl)) fun A β3 HF=>?_
    refine tqM 4 55 5 rfl (.inl rfl) rfl (by kernel_rfl) FINQ (KC.o _ _ _ MR.o) HF fun A β4 HF=>?_
    refine tqO 3 54 (by kernel_rfl) HF fun K hK=>?_
    refine sW (v0:=.agg (bF c p q kk)) rfl (HF.get 1 rfl) (enters_of Tryz.func82 (by kernel_rfl) rfl) ?_
    refine(Ig HR.o HH.o.toPgIn F9 p kn D9 q kk hn HQ.o wq MR.o.1.view HK.o MR.o.1.inv).mono ?_
    intro e w10 he
    rcases MR.o.1.step (ae.refl _) HK.o (bb n PB.o.2.2.2.1) he with⟨a',hE,rfl,hd',ht',_⟩|⟨x10,D10,F10,hE,rfl,M10',hq10,hk10,hf10⟩
    ·exact FIND _ _ HF.1.2 (NEED.o a' w10 (RN.o.symm.trans (ag hE)) hd' ht')
    have R10:=hQQ (RN.o.symm.trans (aj hE))
    have nz10:¬F10 (w.heap.size+1):=M10'.off HZL.o HNZ.o
    have M10:Hq (MidV w2 w10 F (fun b=>b=w.heap.size+1) p kn n D10 F10∧w10.heap[w.heap.size+1]?=some (.cells pgZ 90 (0,0))∧w10.heap[gb]?=some (.cells (bF c p q kk) 90 (0,0))):=hQQ ⟨M10',hk10 _ _ (MR.o.1.off HZL.o HNZ.o) MR.o.2.1,hk10 _ _ HNB.o MR.o.2.2⟩
    clear he hE hk10 hf10
    refine hK _ _ (KC.o _ _ _ M10.o) fun A β5 HF=>?_
    clear hK K
    refine tqO 5 56 (by kernel_rfl) HF fun K hK=>?_
    refine bO (v0:=.int .i64 x10) (v1:=.int .i64 ix) rfl (HF.get 0 rfl) (HF.get 1 rfl) (enters_of Tryz.func81 (by kernel_rfl) rfl) ?_
    refine(Mm x10 ix w10).mono ?_
    rintro e w11 ⟨rfl,rfl⟩
    refine hK _ _ (KC.o _ _ _ M10.o) fun A β6 HF=>?_
    clear hK K
    refine bG (i:=6) none (by kernel_rfl) rfl (ab rfl) rfl (fun K hK=>?_)
    refine wp_store_row 90 _ _ rfl (w.heap.size+1) _ (HF.get 6 rfl) (HF.get 5 rfl) 90 pgZ M10.o.2.1 (by kernel_rfl) rfl (qH ..) ?_
    have MS:=M10.o.1.row (b:=w.heap.size+1) (fun _=>rfl) nz10 (bF c p q kk) M10.o.2.1
    have HS1:=setRow_heap _ (w.heap.size+1) pgZ (bF c p q kk) _ _ M10.o.2.1
    have HS2:=oC (cs:=bF c p q kk) M10.o.2.2 (show gb≠w.heap.size+1 by have:=HGB.o;have:=HZL.o;omega)
    refine hK _ _ HS2 ?_
    clear hK K
    rw[show ∀(a:Act) (v:Value),a.put none v=a from fun _ _=>rfl]
    generalize World.setRow _ _ _=wz at MS HS1 HS2⊢
    have HS2H:=hQQ HS2
    refine fY (i:=7) (v:=.int .i64 ix) (some 7) rfl rfl (by kernel_rfl) (by kernel_rfl) (by kernel_rfl) (fun c a w=>FINQ c a _ _ w) (HS2H.o) (by exact cK (ab rfl) _ rfl (HF.get 4 rfl)) ?_
    replace HF:=HF.put 7 (.int .i64 ix) (by decide) rfl
    generalize β7:Act.put _ _ _=A at HF⊢
    refine fY (i:=8) (v:=.bool (eK x10 ix)) (some 8) rfl rfl (by kernel_rfl) (by kernel_rfl) (by kernel_rfl) (fun c a w=>FINQ c a _ _ w) (HS2H.o) (by exact cK (ab rfl) _ rfl (HF.get 1 rfl)) ?_
    replace HF:=HF.put 8 (.bool (eK x10 ix)) (by decide) rfl
    generalize β8:Act.put _ _ _=A at HF⊢
    exact bI (by kernel_rfl) (FINE _ _ ⟨(.agg (bF c p q kk)),(.int .i64 ix),(.agg (bF c p q kk)),(.int .i64 ix),(.int .i64 x10),(.bool (eK x10 ix)),x10,D10,F10,by rw[← β8,← β7,← β6,← β5,← β4,← β3,← β2,← β1]<;>rfl,MS,HS1,R10.o⟩)
   ·rw[if_pos (by simpa using hm0)] at hr
    have d1:(mm != 0)=true:=by simpa using hm0
    go_wp2_with fail
    refine(CS.o w10 (SZ.o _ _ _ M10.o.1)).mono ?_
    rintro e w11 ⟨rfl,h11⟩
    have M11:=hQQ (And.intro (M10.o.1.more h11) (And.intro (h11.block M10.o.2.1) (h11.block M10.o.2.2)))
    clear h11 c0 c25 c26
    have MZ:=M11.o.1.row (b:=w.heap.size+1) (fun _=>rfl) (M11.o.1.off HZL.o HNZ.o) pgZ M11.o.2.1
    have HZ:=setRow_heap _ (w.heap.size+1) pgZ pgZ _ _ M11.o.2.1
    obtain⟨wz,ez⟩:∃wz,World.setRow w11 (w.heap.size+1) pgZ=wz:=⟨_,rfl⟩
    have Z0:=hQQ M11.o.2.1
    rw[ez] at MZ HZ
    have FIN:=hQQ (DONE.o none wz D9 F9 (hr.symm) MZ)
    clear MZ
    go_wp2_with (first|(refine me rfl rfl ?_)|(refine wpList_store_row rfl 90 _ _ rfl _ _ rfl rfl 90 _ Z0.o (by kernel_rfl) rfl (by kernel_rfl) ?_))
    refine bodyPost_ret (iU rfl _ _ (w.heap.size+1) 90 pgZ _ _ rfl HZ Tryz.underlying90 rfl (by kernel_rfl)) rfl ?_
    exact FIN.o
  intro QQ FINE FIND FINQ
  clear hA
  refine tqM 0 24 0 rfl (.inl rfl) rfl (by kernel_rfl) FINQ (KC.o _ _ _ MR.o) HF fun A β1 HF=>?_
  refine tqC 1 25 (.agg c.arr) (by kernel_rfl) FINQ (KC.o _ _ _ MR.o) HF (by exact aC (ab rfl) 28 _ rfl w.heap.size (HF.get 2 rfl) 28 _ _ _ (fun W hW=>hW) Tryz.underlying28 rfl (by kernel_rfl)) fun A β2 HF=>?_
  refine tqM 2 26 4 rfl (.inl rfl) rfl (by kernel_rfl) FINQ (KC.o _ _ _ MR.o) HF fun A β3 HF=>?_
  refine tqM 3 27 3 rfl (.inl rfl) rfl (by kernel_rfl) FINQ (KC.o _ _ _ MR.o) HF fun A β4 HF=>?_
  refine tqC 4 28 (.agg c.arr) (by kernel_rfl) FINQ (KC.o _ _ _ MR.o) HF (by exact aC (ab rfl) 28 _ rfl w.heap.size (HF.get 5 rfl) 28 _ _ _ (fun W hW=>hW) Tryz.underlying28 rfl (by kernel_rfl)) fun A β5 HF=>?_
  refine tqM 5 29 7 rfl (.inl rfl) rfl (by kernel_rfl) FINQ (KC.o _ _ _ MR.o) HF fun A β6 HF=>?_
  refine ke (i:=6) (j:=9) (some 30) (some 12) (by kernel_rfl) rfl rfl (ab rfl) (ab rfl) rfl rfl (fun K hK=>?_) (fun K hK=>?_)
  ·refine du (v0:=.pointer (some ⟨p,0,none⟩)) (v1:=.agg c.arr) (v2:=.int .i64 q) rfl (HF.get 2 rfl) (HF.get 1 rfl) (HF.get 0 rfl) (enters_of Tryz.func51 (by kernel_rfl) rfl) ?_
   refine(ti HR.o HH.o.toPgIn F p kn D q wq MR.o.1.view HK.o MR.o.1.inv).mono ?_
   intro e w7 he
   rcases MR.o.1.step (ae.refl _) HK.o (gp HH.o.toPgIn _) he with⟨a',hE,rfl,hd',ht',_⟩|⟨x6,D6,F6,hE,rfl,M6',hq6,hk6,hf6⟩
   ·exact FIND _ _ HF.1.2 (NEED.o a' w7 (HRr.o.symm.trans (ag hE)) hd' ht')
   have R6:=hQQ ((aj hE).symm.trans HRr.o)
   have M6:Hq (MidV w2 w7 F (fun b=>b=w.heap.size+1) p kn n D6 F6∧w7.heap[w.heap.size+1]?=some (.cells pgZ 90 (0,0))):=hQQ ⟨M6',hk6 _ _ HNZ.o MR.o.2⟩
   clear he hE hk6 hf6
   refine hK _ _ (KC.o _ _ _ M6.o) ?_
   clear hK K
   replace HF:=HF.put 30 (.int .i64 x6) (by decide) rfl
   generalize β7:Act.put _ _ _=A at HF⊢
   refine tqC 7 31 (.int .i64 (IntKind.i64.wrap (x6-1))) (by kernel_rfl) FINQ (KC.o _ _ _ M6.o) HF (by exact pF (ab rfl) rfl (HF.get 0 rfl) rfl _ rfl) fun A β8 HF=>?_
   refine tqC 8 32 (.agg (bF c p q (IntKind.i64.wrap (x6-1)))) (by kernel_rfl) FINQ (KC.o _ _ _ M6.o) HF (by exact pG (ab rfl) _ _ _ _ rfl c p q (IntKind.i64.wrap (x6-1)) (HF.get 7 rfl) (HF.get 6 rfl) (HF.get 5 rfl) (HF.get 0 rfl)) fun A β9 HF=>?_
   refine tqO 9 12 (by kernel_rfl) HF fun K hK=>?_
   refine nW rfl ?_
   obtain⟨w8,e8,h8,m8⟩:=vS w7
   rw[e8]
   clear e8
   have M8:Hq (MidV w2 w8 F (fun b=>b=w.heap.size+1) p kn n D6 F6∧w8.heap[w.heap.size+1]?=some (.cells pgZ 90 (0,0))):=hQQ ⟨M6.o.1.more m8,m8.block M6.o.2⟩
   have nb:¬F6 w7.heap.size:=fun z=>by have:=M6.o.1.view.lt _ z;omega
   have lb:=M6.o.1.size
   refine hK _ _ (KC.o _ _ _ M8.o) fun A β10 HF=>?_
   clear hK K
   refine mW (i:=10) (by kernel_rfl) (by kernel_rfl) rfl (ab rfl) (fun K hK=>?_)
   refine wp_store_row 90 _ _ rfl (w7.heap.size) _ (HF.get 0 rfl) (HF.get 1 rfl) 90 pgZ h8 (by kernel_rfl) rfl (qH ..) ?_
   have MS:=M8.o.1.row (b:=w7.heap.size) (fun q=>by omega) nb (bF c p q (IntKind.i64.wrap (x6-1))) h8
   have HS1:=setRow_heap _ (w7.heap.size) pgZ (bF c p q (IntKind.i64.wrap (x6-1))) _ _ h8
   have HS2:=oC (cs:=bF c p q (IntKind.i64.wrap (x6-1))) M8.o.2 (show w.heap.size+1≠w7.heap.size by omega)
   refine hK _ _ (KC.o _ _ _ ⟨MS,HS2⟩) (FINE _ _ ⟨(.pointer (some ⟨p,0,none⟩)),(.agg c.arr),(.int .i64 q),(.pointer (some ⟨p,0,none⟩)),(.agg c.arr),(.int .i64 q),(.int .i64 x6),(.int .i64 (IntKind.i64.wrap (x6-1))),(.agg (bF c p q (IntKind.i64.wrap (x6-1)))),w7.heap.size,x6,D6,F6,?_,⟨MS,HS2,HS1,lb,nb⟩,R6.o⟩)
   rw[← β10,← β9,← β8,← β7,← β6,← β5,← β4,← β3,← β2,← β1];rfl
  ·refine nW rfl ?_
   obtain⟨w7,e7,h7,m7⟩:=vS wq
   rw[e7]
   clear e7
   have M7:Hq (MidV w2 w7 F (fun b=>b=w.heap.size+1) p kn n D F∧w7.heap[w.heap.size+1]?=some (.cells pgZ 90 (0,0))):=hQQ ⟨MR.o.1.more m7,m7.block MR.o.2⟩
   have nb:¬F wq.heap.size:=fun z=>by have:=MR.o.1.view.lt _ z;omega
   have lb:=MR.o.1.size
   refine hK _ _ (KC.o _ _ _ M7.o) ?_
   clear hK K
   replace HF:=HF.put 12 (.pointer (some ⟨wq.heap.size,0,none⟩)) (by decide) rfl
   generalize β7:Act.put _ _ _=A at HF⊢
   refine tqO 6 30 (by kernel_rfl) HF fun K hK=>?_
   refine du (v0:=.pointer (some ⟨p,0,none⟩)) (v1:=.agg c.arr) (v2:=.int .i64 q) rfl (HF.get 3 rfl) (HF.get 2 rfl) (HF.get 1 rfl) (enters_of Tryz.func51 (by kernel_rfl) rfl) ?_
   refine(ti HR.o HH.o.toPgIn F p kn D q w7 M7.o.1.view HK.o M7.o.1.inv).mono ?_
   intro e w8 he
   rcases M7.o.1.step (ae.refl _) HK.o (gp HH.o.toPgIn _) he with⟨a',hE,rfl,hd',ht',_⟩|⟨x6,D6,F6,hE,rfl,M6',hq6,hk6,hf6⟩
   ·exact FIND _ _ HF.1.2 (NEED.o a' w8 (HRr.o.symm.trans (ag hE)) hd' ht')
   have R6:=hQQ ((aj hE).symm.trans HRr.o)
   have M6:Hq (MidV w2 w8 F (fun b=>b=w.heap.size+1) p kn n D6 F6∧w8.heap[w.heap.size+1]?=some (.cells pgZ 90 (0,0))):=hQQ ⟨M6',hk6 _ _ HNZ.o M7.o.2⟩
   have h8:=hk6 _ _ nb h7
   have nb8:¬F6 wq.heap.size:=fun z=>by rcases hf6 _ z with q|q;exact nb q;have:=ac h7;omega
   clear he hE hk6 hf6
   refine hK _ _ (KC.o _ _ _ M6.o) fun A β8 HF=>?_
   clear hK K
   refine tqC 7 31 (.int .i64 (IntKind.i64.wrap (x6-1))) (by kernel_rfl) FINQ (KC.o _ _ _ M6.o) HF (by exact pF (ab rfl) rfl (HF.get 0 rfl) rfl _ rfl) fun A β9 HF=>?_
   refine tqC 8 32 (.agg (bF c p q (IntKind.i64.wrap (x6-1)))) (by kernel_rfl) FINQ (KC.o _ _ _ M6.o) HF (by exact pG (ab rfl) _ _ _ _ rfl c p q (IntKind.i64.wrap (x6-1)) (HF.get 8 rfl) (HF.get 7 rfl) (HF.get 6 rfl) (HF.get 0 rfl)) fun A β10 HF=>?_
   refine mW (i:=10) (by kernel_rfl) (by kernel_rfl) rfl (ab rfl) (fun K hK=>?_)
   refine wp_store_row 90 _ _ rfl (wq.heap.size) _ (HF.get 3 rfl) (HF.get 0 rfl) 90 pgZ h8 (by kernel_rfl) rfl (qH ..) ?_
   have MS:=M6.o.1.row (b:=wq.heap.size) (fun q=>by omega) nb8 (bF c p q (IntKind.i64.wrap (x6-1))) h8
   have HS1:=setRow_heap _ (wq.heap.size) pgZ (bF c p q (IntKind.i64.wrap (x6-1))) _ _ h8
   have HS2:=oC (cs:=bF c p q (IntKind.i64.wrap (x6-1))) M6.o.2 (show w.heap.size+1≠wq.heap.size by omega)
   refine hK _ _ (KC.o _ _ _ ⟨MS,HS2⟩) (FINE _ _ ⟨(.pointer (some ⟨p,0,none⟩)),(.agg c.arr),(.int .i64 q),(.pointer (some ⟨p,0,none⟩)),(.agg c.arr),(.int .i64 q),(.int .i64 x6),(.int .i64 (IntKind.i64.wrap (x6-1))),(.agg (bF c p q (IntKind.i64.wrap (x6-1)))),wq.heap.size,x6,D6,F6,?_,⟨MS,HS2,HS1,lb,nb8⟩,R6.o⟩)
   rw[← β10,← β9,← β8,← β7,← β6,← β5,← β4,← β3,← β2,← β1,xJ (i:=12) (j:=30) (by decide),xJ (i:=12) (j:=31) (by decide),xJ (i:=12) (j:=32) (by decide)];rfl
 ·rw[if_neg hin] at hRr
  have PL:=hQQ (Bb HR.o w2 ad (by unfold Cfg.us at hin;show ad<fN c.cp c.pg c.st c.ca c.bi∨fN c.cp c.pg c.st c.ca c.bi+32 * c.pg≤ad;omega))
  have PL:=hQQ (show Calls Tryz.prog 79 #[.agg c.arr,.int .i64 ad] w2 (aP w2 (.tuple #[.int .i64 0,.int .i64 0,.bool false])) from PL.o)
  clear hin
  go_enter Tryz.func44,Tryz.ntmps44
  go_wp2_with (first|(refine aK rfl rfl rfl L2.o (by kernel_rfl) ?_)|(refine aK rfl rfl rfl L2.o (by kernel_rfl) ?_))
  refine PL.o.mono ?_
  rintro e w3 ⟨rfl,h3⟩
  have M3:=hQQ (And.intro (M0.o.1.more h3) (h3.block M0.o.2))
  clear h3
  have MZ:=M3.o.1.row (b:=w.heap.size+1) (fun _=>rfl) (M3.o.1.off HZL.o HNZ.o) pgZ M3.o.2
  have HZ:=setRow_heap _ (w.heap.size+1) pgZ pgZ _ _ M3.o.2
  obtain⟨wz,ez⟩:∃wz,World.setRow w3 (w.heap.size+1) pgZ=wz:=⟨_,rfl⟩
  have Z0:=hQQ M3.o.2
  rw[ez] at MZ HZ
  have FIN:=hQQ (DONE.o none wz D F (hRr.symm) MZ)
  clear MZ
  go_wp2_with (first|(refine me rfl rfl ?_)|(refine wpList_store_row rfl 90 _ _ rfl _ _ rfl rfl 90 _ Z0.o (by kernel_rfl) rfl (by kernel_rfl) ?_))
  refine bodyPost_ret (iU rfl _ _ (w.heap.size+1) 90 pgZ _ _ rfl HZ Tryz.underlying90 rfl (by kernel_rfl)) rfl ?_
  exact FIN.o
theorem gE {a x:Int}{kn:Int→Option Int}{D D':List KV}(h:cS a kn D=.ok x D'):D'=D∧dM kn D a=some x:=by
 unfold cS at h
 split at h
 ·cases h
 ·rename_i y e;cases h;exact⟨rfl,e⟩
theorem vT (b:BitVec 64):W64 b.toInt:=by
 have h1:=BitVec.toInt_lt (x:=b)
 have h2:=BitVec.le_toInt (x:=b)
 unfold W64;omega
theorem rY {b:Int}(h:W64 b)(i:Int):W64 (setV b i):=by
 unfold setV;split
 ·exact vT _
 ·exact h
theorem kl {b:Int}(h:W64 b)(i:Int):W64 (clearV b i):=by
 unfold clearV;split
 ·exact vT _
 ·exact h
theorem DS (b n:Int):bP b n= -1∨(0≤bP b n∧bP b n<endN n∧bP b n≤31):=by
 unfold bP zu
 split
 ·rename_i j hj
  have:=List.mem_of_find?_eq_some hj
  simp at this
  have he:endN n≤32:=by unfold endN;omega
  omega
 ·exact .inl rfl
theorem gY {pg st:Int}{n:Nat}(H:PgIn pg st n){q k b:Int}(hq:af pg q=true)(hb:W64 b):bQ n (fun _=>True) (gD pg st q k b):=by
 have PB:=cj H hq
 unfold gD
 exact aO (fun _=>ar (qB H _) fun _ _=>ai n trivial) (fun _=>ar (aQ n PB.2.2.2.2 PB.2.2.2.1 hb) fun _ _=>ar (aQ n PB.2.1.2.2 PB.2.1.2.1 (by have:=cnt_b b k;unfold W64;omega)) fun _ _=>ai n trivial)
theorem Nu {x i:Int}(h:W64 x)(w:World):Calls Tryz.prog 142 #[.int .i64 x,.int .i64 i] w (aP w (.int .i64 (setV x i))):=(OY x i h.1 h.2 w).mono fun e w' q=>⟨q.1,q.2▸ae.refl _⟩
theorem Iu {x i:Int}(h:W64 x)(w:World):Calls Tryz.prog 113 #[.int .i64 x,.int .i64 i] w (aP w (.int .i64 (clearV x i))):=(Kw x i h.1 h.2 w).mono fun e w' q=>⟨q.1,q.2▸ae.refl _⟩
theorem Cf {us pg st a:Int}{kn:Int→Option Int}{D D':List KV}{q k i:Int}{t:Bool}(h:fR us pg st a kn D=.ok (some (q,k,i,t)) D'):∃b,dM kn D' (bA pg st q)=some b∧t=eK b i:=by
 unfold fR at h
 split at h
 ·cases hk:fh pg st ((a-us) / 32) kn D with
  |need a'=>rw[ag hk] at h;cases h
  |ok x D1 =>
   rw[aj hk] at h
   unfold jp at h
   split at h
   ·cases h
   ·split at h
    ·cases h
    ·cases hb:cS (bA pg st ((a-us) / 32)) kn D1 with
     |need a'=>rw[ag hb] at h;cases h
     |ok b D2 =>
      rw[aj hb] at h
      obtain⟨rfl,hw⟩:=gE hb
      cases h
      exact⟨b,hw,rfl⟩
 ·cases h
def fo:TkA→Option (Int×Int×Int)
 |some (q,k,i,true)=>some (q,k,i)
 | _=>none
theorem gZ {x:TkA}{q k i:Int}(h:fo x=some (q,k,i)):x=some (q,k,i,true):=by
 unfold fo at h
 split at h
 ·cases h;rfl
 ·cases h
def tE:Option (Int×Int×Int)→Prg (Int×Bool)
 |some (_,k,_)=>ay (k,true)
 |none=>ay (0,false)
def mg (us pg st a:Int):Prg (Int×Bool):=ak (fR us pg st a) fun x=>tE (fo x)
def km (us pg st k:Int):Prg (Int×Bool):=
 ak (kY pg st k) fun q=>if q= -1 then ay (0,false) else ak (cS (bA pg st q)) fun b =>
  if bP b (aw k)= -1 then ay (0,false) else ak (cS (cA pg st q)) fun was =>
   ak (gD pg st q k (setV b (bP b (aw k)))) fun _=>ak (iI pg st q k was) fun _=>ay (us+32 * q+bP b (aw k) * szV k,true)
def mh (pg st q k i:Int):Prg Bool:=ak (cS (cA pg st q)) fun was=>ak (cS (bA pg st q)) fun b=>ak (gD pg st q k (clearV b i)) fun _=>ak (iI pg st q k was) fun _=>ay true
def Cg (pg st:Int):Option (Int×Int×Int)→Prg Bool
 |some (q,k,i)=>mh pg st q k i
 |none=>ay false
def rn (us pg st a:Int):Prg Bool:=ak (fR us pg st a) fun x=>Cg pg st (fo x)
theorem oD (us pg st a:Int):bh (mg us pg st a):=aq (rm _ _ _ _) fun x=>by
 match fo x with
 |some (_,k,_)=>exact ah _
 |none=>exact ah _
theorem tF (us pg st k:Int):bh (km us pg st k):=aq (zF _ _ _) fun q=>aH (ah _) (aq (dx _) fun b=>aH (ah _) (aq (dx _) fun was=>aq (rj _ _ _ _ _) fun _=>aq (rk _ _ _ _ _) fun _=>ah _))
theorem Ch (us pg st a:Int):bh (rn us pg st a):=aq (rm _ _ _ _) fun x=>by
 match fo x with
 |some (q,k,i)=>exact aq (dx _) fun _=>aq (dx _) fun _=>aq (rj _ _ _ _ _) fun _=>aq (rk _ _ _ _ _) fun _=>ah _
 |none=>exact ah _
section
variable {pg st:Int}{n:Nat}(H:cB pg st n)
include H
theorem iY (us a:Int):bQ n (fun _=>True) (mg us pg st a):=ar (jq H.toPgIn a) fun x _=>by
 match fo x with
 |some (_,k,_)=>exact ai n trivial
 |none=>exact ai n trivial
theorem Fl (us k:Int):bQ n (fun _=>True) (km us pg st k):=ar (oA H k) fun q hq=>aO (fun _=>ai n trivial) (fun h=>by
 have hq:=hq.resolve_left h
 have PB:=cj H.toPgIn hq
 exact ar (bb n PB.2.2.2.1) fun b hb=>aO (fun _=>ai n trivial) (fun _=>ar (bb n PB.2.1.2.1) fun was _=>ar (gY H.toPgIn hq (rY hb _)) fun _ _=>ar (gX H q k was hq) fun _ _=>ai n trivial))
theorem uZ {q:Int}(hq:af pg q=true)(k i:Int):bQ n (fun _=>True) (mh pg st q k i):=by
 have PB:=cj H.toPgIn hq
 exact ar (bb n PB.2.1.2.1) fun was _=>ar (bb n PB.2.2.2.1) fun b hb=>ar (gY H.toPgIn hq (kl hb _)) fun _ _=>ar (gX H q k was hq) fun _ _=>ai n trivial
theorem vU (us a:Int):bQ n (fun _=>True) (rn us pg st a):=ar (jq H.toPgIn a) fun x hx=>by
 match e:fo x with
 |some (q,k,i)=>exact uZ H (hx q k i true (gZ e)).1 k i
 |none=>exact ai n trivial
end
theorem Nv {c:Cfg}(R:c.Ok){n:Nat}(H:cB c.pg c.st n)(hn:n≤10000)(F:Nat→Prop)(p:Nat)(kn:Int→Option Int)(D:List KV)(k:Int)(w:World)(hv:aD w F p kn D)(hk:OkK kn)(hD:cC n D)(bt:Nat)(hs:dd bt w)(nF0:¬F 0)(nFb:¬F bt):
 Calls Tryz.prog 123 #[.pointer (some ⟨p,0,none⟩),.agg c.arr,.int .i64 k] w (aG w F p kn (fun x:Int×Bool=> .tuple #[.int .i64 x.1,.bool x.2]) (km c.us c.pg c.st k kn D)):=by
 obtain⟨Rr,hRr⟩:∃Rr,km c.us c.pg c.st k kn D=Rr:=⟨_,rfl⟩
 rw[hRr]
 obtain⟨w1,e1,hl1,m1,s1⟩:=a6 w (.cells c.arr 28)
 have nFl:¬F w.heap.size:=fun q=>by have:=hv.lt _ q;omega
 have MM:=hQQ m1
 have L0:=hQQ hl1
 have M0:=m0Z (hv.more m1) hD
 have KL:=klZ (p:=p) (kn:=kn) (n:=n) L0.o nFl
 have NEED:=ndZ (F:=F) (p:=p) (kn:=kn) (R:=Rr) (fun x:Int×Bool=>Value.tuple #[.int .i64 x.1,.bool x.2]) MM.o
 have DONE:=dnZ (F:=F) (p:=p) (n:=n) (kn:=kn) (R:=Rr) (fun x:Int×Bool=>Value.tuple #[.int .i64 x.1,.bool x.2]) MM.o
 have HK:=hQQ hk
 have HR:=hQQ R
 have HH:=hQQ H
 clear hl1 m1 hv hD hk R H nFl
 have SZ:Hq (∀wr D' F',MidV w1 wr F (fun _=>False) p kn n D' F'→dd bt wr):=hQQ fun wr D' F' h=>(hs.more MM.o).keep h.turn (by rintro(q|q);exact nF0 q;exact q) (by rintro(q|q);exact nFb q;exact q)
 have NF:Hq (∀wr D' F',MidV w1 wr F (fun _=>False) p kn n D' F'→¬F' 0∧¬F' bt):=hQQ fun wr D' F' h=>⟨h.off (hs.more MM.o).lt0 nF0,h.off (hs.more MM.o).lt nFb⟩
 have HRr:=hQQ hRr
 unfold km at HRr
 have pg1:=HR.o.pg1
 have pg2:=HR.o.pg2
 have UB:=hQQ (o8 HR.o)
 have HN:=hQQ hn
 clear hRr hs nF0 nFb
 have hmf:∀(fn:Fn) (first cap:Array Value) (w:World),(Instr.makeFunc fn first cap).run Tryz.prog w=.ok (.func fn first cap) w:=fun _ _ _ _=>rfl
 go_enter_defers Tryz.func123,Tryz.ntmps123
 go_wp2_with (first|(refine aK rfl rfl rfl L0.o (by kernel_rfl) ?_)|(refine aK rfl rfl rfl L0.o (by kernel_rfl) ?_))
 refine(KG HR.o HH.o hn F p kn D k w1 M0.o.view HK.o M0.o.inv bt (SZ.o _ _ _ M0.o) (NF.o _ _ _ M0.o).1 (NF.o _ _ _ M0.o).2).mono ?_
 intro e w2 he
 rcases M0.o.step (ae.refl _) HK.o (oA HH.o k) he with⟨a',hE,rfl,hd',ht',_⟩|⟨x2,D2,F2,hE,rfl,M2,hq2,hk2,hf2⟩
 ·exact NEED.o a' w2 (HRr.o.symm.trans (ag hE)) hd' ht'
 have L2:=hQQ (KL.o _ _ _ M2)
 have R2:=hQQ ((aj hE).symm.trans HRr.o)
 have M2:=hQQ M2
 clear he hE hk2 hf2
 by_cases eq:x2= -1
 ·have d0:(x2== -1)=true:=by simp[eq]
  have FIN:=hQQ (DONE.o (0,false) w2 D2 F2 (by have:=R2.o;rw[if_pos eq] at this;exact this.symm) M2.o)
  clear eq R2
  go_wp2_with fail
  refine⟨_,results_tmp2 (t:=6) (u:=7) rfl _ _ _,?_⟩
  exact FIN.o
 have d0:(x2== -1)=false:=by simpa using eq
 have hq:=hq2.resolve_left eq
 have R2:=hQQ (show ak (cS (bA c.pg c.st x2)) (fun b=>if bP b (aw k)= -1 then ay (0,false) else ak (cS (cA c.pg c.st x2)) fun was=>ak (gD c.pg c.st x2 k (setV b (bP b (aw k)))) fun _=>ak (iI c.pg c.st x2 k was) fun _=>ay (c.us+32 * x2+bP b (aw k) * szV k,true)) kn D2=Rr from by have:=R2.o;rw[if_neg eq] at this;exact this)
 have HQ:=hQQ hq
 have PB:=hQQ (cj HH.o.toPgIn hq)
 clear eq hq2 hq
 generalize x2=q at *
 obtain⟨w3,e3,b3,m3⟩:=Ip w2 c p q k
 have M3:=hQQ (M2.o.more m3)
 have nFg:¬F2 w2.heap.size:=fun z=>by have:=M2.o.view.lt _ z;omega
 have lg:w1.heap.size≤w2.heap.size:=M2.o.size
 go_wp2_with (first|(refine aK rfl rfl rfl L2.o (by kernel_rfl) ?_)|(refine zI rfl _ _ _ _ rfl c p q k rfl rfl rfl rfl ?_)|(refine wpList_store_row rfl 90 _ _ rfl _ _ rfl rfl 90 _ (aW _ _ _) (by kernel_rfl) rfl (qH ..) (e3.symm▸ ?_))|(refine wpList_load_row rfl 90 _ rfl _ rfl 90 _ _ _ b3 Tryz.underlying90 rfl (by kernel_rfl) ?_))
 have BG:=hQQ b3
 clear e3 m3 b3 M2 L2
 generalize w2.heap.size=gb at BG nFg lg
 refine(Ig HR.o HH.o.toPgIn F2 p kn D2 q k hn HQ.o w3 M3.o.view HK.o M3.o.inv).mono ?_
 intro e w4 he
 rcases M3.o.step (ae.refl _) HK.o (bb n PB.o.2.2.2.1) he with⟨a',hE,rfl,hd',ht',_⟩|⟨b,D4,F4,hE,rfl,M4,hb4,hk4,hf4⟩
 ·exact NEED.o a' w4 (R2.o.symm.trans (ag hE)) hd' ht'
 have R4:=hQQ ((aj hE).symm.trans R2.o)
 obtain⟨rfl,hwb⟩:=gE hE
 have WB:=hQQ hwb
 have nFg4:¬F4 gb:=fun z=>(hf4 gb z).elim nFg (fun q=>by have:=ac BG.o;omega)
 have BG:=hQQ (hk4 _ _ nFg BG.o)
 have M4:=hQQ M4
 have HB0:=hQQ hb4
 clear he hE hk4 hf4 nFg M3 R2 hwb hb4
 have hsl:=eL k
 have SL:=hQQ (fun(W:World) (hW:dd bt W)=>rX k W hW)
 have SF:=hQQ (fun W=>KA b (aw k) (by omega) (by omega) W)
 have CS:=hQQ (fun(W:World) (hW:dd bt W)=>Ir k W hW)
 have R4:=hQQ R4.o
 have hfb:=DS b (aw k)
 have hsz:0≤szV k∧szV k≤16:=by unfold szV; (repeat' split)<;>omega
 obtain⟨i,hi⟩:∃i,bP b (aw k)=i:=⟨_,rfl⟩
 obtain⟨sz,hsz'⟩:∃sz,szV k=sz:=⟨_,rfl⟩
 rw[hi] at SF R4 hfb
 rw[hsz'] at CS R4 hsz
 clear hi hsz'
 go_wp2_with fail
 refine(SL.o w4 (SZ.o _ _ _ M4.o)).mono ?_
 rintro e w5 ⟨rfl,h5⟩
 have M5:=hQQ (M4.o.more h5)
 have BG:=hQQ (h5.block BG.o)
 clear h5 M4
 go_wp2_with fail
 refine(SF.o w5).mono ?_
 rintro e w6 ⟨rfl,h6⟩
 have M5:=hQQ (M5.o.more h6)
 have BG:=hQQ (h6.block BG.o)
 clear h6
 by_cases ei:i= -1
 ·have d1:(i== -1)=true:=by simp[ei]
  have FIN:=hQQ (DONE.o (0,false) w6 D4 F4 (by have:=R4.o;rw[if_pos ei] at this;exact this.symm) M5.o)
  clear ei R4
  go_wp2_with fail
  refine⟨_,results_tmp2 (t:=6) (u:=7) rfl _ _ _,?_⟩
  exact FIN.o
 have d1:(i== -1)=false:=by simpa using ei
 have hfb:=hfb.resolve_left ei
 have R4:=hQQ (show ak (cS (cA c.pg c.st q)) (fun was=>ak (gD c.pg c.st q k (setV b i)) fun _=>ak (iI c.pg c.st q k was) fun _=>ay (c.us+32 * q+i * sz,true)) kn D4=Rr from by have:=R4.o;rw[if_neg ei] at this;exact this)
 have hb1:0≤i * sz:=Int.mul_nonneg hfb.1 hsz.1
 have hb2:i * sz≤31 * 16:=Int.mul_le_mul hfb.2.2 hsz.2 hsz.1 (by omega)
 have t1:IntKind.i64.wrap (i * sz)=i * sz:=az (by omega) (by omega)
 have hqq:=ax.1 HQ.o
 have hub:=UB.o
 have t2:IntKind.i64.wrap (c.us+32 * q+i * sz)=c.us+32 * q+i * sz:=az (by unfold Cfg.us;omega) (by unfold Cfg.us;omega)
 have AD:=hQQ (fun W=>by have:=OD HR.o W q;rw[show yx c.cp c.pg c.st c.ca c.bi q=c.us+32 * q from by unfold yx;rw[if_pos hqq];rfl] at this;exact this)
 have AD:=hQQ (show ∀W,Calls Tryz.prog 143 #[.agg c.arr,.int .i64 q] W (aP W (.int .i64 (c.us+32 * q))) from AD.o)
 obtain⟨adr,hadr⟩:∃adr,c.us+32 * q=adr:=⟨_,rfl⟩
 rw[hadr] at AD R4 t2
 clear ei hfb hsz hb1 hb2 hub hadr hqq hsl
 go_wp2_with (refine wpList_load_row rfl 90 _ rfl _ rfl 90 _ _ _ BG.o Tryz.underlying90 rfl (by kernel_rfl) ?_)
 refine(DQ HR.o HH.o.toPgIn HN.o F4 p kn D4 q k HQ.o w6 M5.o.view HK.o M5.o.inv).mono ?_
 intro e w7 he
 rcases M5.o.stepR (ae.refl _) HK.o (bb n PB.o.2.1.2.1) he with⟨a',hE,rfl,hd',ht',_⟩|⟨was,D6,F6,vm,hE,rfl,⟨gm,wm,rfl,hgm,hwm,hne,nm,nw,bm,bw⟩,M6,hq6,hk6,hf6⟩
 ·exact NEED.o a' w7 (R4.o.symm.trans (ag hE)) hd' ht'
 have R6:=hQQ ((aj hE).symm.trans R4.o)
 obtain⟨rfl,_⟩:=gE hE
 have NG6:=hQQ (show ¬F6 gb from fun z=>(hf6 gb z).elim nFg4 (fun q=>by have:=ac BG.o;omega))
 have BG:=hQQ (hk6 _ _ nFg4 BG.o)
 have BM:=hQQ bm
 have BW:=hQQ bw
 have NM:=hQQ nm
 have NW:=hQQ nw
 have M6:=hQQ M6
 clear he hE bm bw nm nw hgm hwm hne hk6 hf6 hq6 M5 R4 nFg4
 have L6:=hQQ (KL.o _ _ _ M6.o)
 have YB:=hQQ (fun W (hW:ae w7 W)=>DH HR.o HH.o.toPgIn F6 p kn D6 q k b HN.o HQ.o W (M6.o.view.more hW) WB.o)
 have YS:=hQQ (fun W=>Nu (i:=i) HB0.o W)
 obtain⟨nb',hnb'⟩:∃nb',setV b i=nb':=⟨_,rfl⟩
 have HB:=hQQ (rY HB0.o i)
 have HC:=hQQ (And.intro (cnt_b (setV b i) k).1 (cnt_b (setV b i) k).2.1)
 rw[hnb'] at YS R6 HB HC
 clear hnb'
 go_wp2_with fail
 refine bM 5 (by kernel_rfl) (by kernel_rfl) ?_
 simp only[List.take_succ_cons,List.take_zero,List.drop_succ_cons,List.drop_zero]
 refine aN rfl 90 _ rfl gb rfl 90 _ _ _ (fun W hW=>hW.block BG.o) Tryz.underlying90 rfl (by kernel_rfl) ?_
 refine aN rfl 90 _ rfl gb rfl 90 _ _ _ (fun W hW=>hW.block BG.o) Tryz.underlying90 rfl (by kernel_rfl) ?_
 iterate 1
  with_reducible refine wpQuiet_step (fun K hK=>?_)
  go_simp
  first
  |(refine hK _ ?_;clear hK K)
  |(apply Exists.intro
    refine⟨fun W hW=>?_,hK _ ?_⟩
    first
    |(go_at_call 82;exact Calls.more hW (YB.o W hW))
    |(go_simp;try rfl)
    clear hK K)
 iterate 1
  with_reducible refine wpQuiet_step (fun K hK=>?_)
  go_simp
  first
  |(refine hK _ ?_;clear hK K)
  |(apply Exists.intro
    refine⟨fun W hW=>?_,hK _ ?_⟩
    first
    |(go_simp;try rfl)
    clear hK K)
 iterate 1
  with_reducible refine wpQuiet_step (fun K hK=>?_)
  go_simp
  first
  |(refine hK _ ?_;clear hK K)
  |(apply Exists.intro
    refine⟨fun W hW=>?_,hK _ ?_⟩
    first
    |(go_at_call 142;exact Calls.more hW (YS.o W))
    |(go_simp;try rfl)
    clear hK K)
 refine wpQuiet_nil ?_
 intro w8 h8
 have M8:=hQQ (M6.o.more h8)
 have BM8:=hQQ (h8.block BM.o)
 have BW8:=hQQ (h8.block BW.o)
 clear h8
 go_wp2_with fail
 refine(Mn HR.o HH.o.toPgIn hn F6 p kn D6 q k nb' HQ.o HB.o HC.o w8 M8.o.view HK.o M8.o.inv bt (SZ.o _ _ _ M8.o) (NF.o _ _ _ M8.o).1 (NF.o _ _ _ M8.o).2).mono ?_
 intro e w9 he
 rcases M8.o.step (ae.refl _) HK.o (gY HH.o.toPgIn HQ.o HB.o) he with⟨a',hE,rfl,hd',ht',hk'⟩|⟨x9,D9,F9,hE,rfl,M9,hq9,hk9,hf9⟩
 ·have NE:=hQQ (NEED.o a')
  have R9:=hQQ (R6.o.symm.trans (ag hE))
  change bodyPostD _ _ _ (Exit.panic (bg p)) _ _
  refine leaves_cons (f:=129) (args:=#[.pointer (some ⟨gm,0,none⟩),.pointer (some ⟨wm,0,none⟩)]) (by simp) (by simp[go_sem]) ?_
  refine(zE HR.o HH.o p a' q k was gm wm w9 hd' (hk' _ _ NM.o BM8.o) (hk' _ _ NW.o BW8.o) _).mono ?_
  rintro e u' w10 ⟨rfl,rfl,h10⟩
  exact NE.o w10 R9.o (hd'.keep h10 (fun q=>q)) (am ht' h10 (fun _ q=>q.elim))
 have R9:=hQQ ((aj hE).symm.trans R6.o)
 have BM9:=hQQ (hk9 _ _ NM.o BM8.o)
 have BW9:=hQQ (hk9 _ _ NW.o BW8.o)
 have NM9:=hQQ (show ¬F9 gm from fun z=>by rcases hf9 _ z with q|q;exact NM.o q;have:=ac BM8.o;omega)
 have M9:=hQQ M9
 clear he hE hk9 hf9 hq9 M8 BM8 BW8
 have L9:=hQQ (KL.o _ _ _ M9.o)
 have SZ9:=hQQ (SZ.o _ _ _ M9.o)
 clear BG NG6 L6 YB YS HB HC WB HB0 M6 BM BW NM NW SZ NF SL SF R6 L0 M0 d0 d1
 go_wp2_with (first|(refine aK rfl rfl rfl L9.o (by kernel_rfl) ?_)|(refine aK rfl rfl rfl L9.o (by kernel_rfl) ?_))
 refine(AD.o w9).mono ?_
 rintro e w10 ⟨rfl,h10⟩
 have M10:=hQQ (M9.o.more h10)
 have BM10:=hQQ (h10.block BM9.o)
 have BW10:=hQQ (h10.block BW9.o)
 have SZ10:=hQQ (SZ9.o.more h10)
 clear h10 M9 BM9 BW9 SZ9 L9
 go_wp2_with fail
 refine(CS.o w10 SZ10.o).mono ?_
 rintro e w11 ⟨rfl,h11⟩
 have M12:=hQQ (M10.o.more h11)
 have BM12:=hQQ (h11.block BM10.o)
 have BW12:=hQQ (h11.block BW10.o)
 clear h11 M10 BM10 BW10 SZ10
 go_wp2_with fail
 refine leaves_cons (f:=129) (args:=#[.pointer (some ⟨gm,0,none⟩),.pointer (some ⟨wm,0,none⟩)]) (by simp) (by simp[go_sem]) ?_
 refine(zH HR.o HH.o hn F9 p kn D9 q k was HQ.o gm wm w11 M12.o.view HK.o M12.o.inv BM12.o BW12.o NM9.o _).mono ?_
 rintro e u' w13 ⟨rfl,he⟩
 rcases M12.o.step (ae.refl _) HK.o (gX HH.o q k was HQ.o) he with⟨a',hE,rfl,hd',ht',_⟩|⟨x11,D11,F11,hE,rfl,M11,_,_,_⟩
 ·exact NEED.o a' w13 (R9.o.symm.trans (ag hE)) hd' ht'
 have FIN:=hQQ (DONE.o (adr+i * sz,true) w13 D11 F11 (R9.o.symm.trans (aj hE)) M11)
 refine⟨_,results_tmp2 (t:=6) (u:=7) rfl _ _ _,?_⟩
 exact FIN.o
def Low {α:Type}(n:Nat)(m:Int)(p:Prg α):Prop:=∀kn D x D',OkK kn→cC n D→p kn D=.ok x D'→∀a,m≤a→dM kn D' a=dM kn D a
section
variable {α β:Type}{n:Nat}{m:Int}
theorem cE (x:α):Low n m (ay x):=fun kn D y D' _ _ h a _=>by cases h;rfl
theorem mj (b:Int):Low n m (cS b):=fun kn D y D' _ _ h a _=>by rw[(gE h).1]
theorem cm {Q:α→Prop}{p:Prg α}{f:α→Prg β}(G:bQ n Q p)(h:Low n m p)(hf:∀x,Q x→Low n m (f x)):Low n m (ak p f):=fun kn D y D' hk hD e a ha=>by
 cases e1:p kn D with
 |need b=>rw[ag e1] at e;cases e
 |ok x D1 =>
  rw[aj e1] at e
  obtain⟨i1,q1⟩:=G.ok hk hD e1
  exact(hf x q1 kn D1 y D' hk i1 e a ha).trans (h kn D x D1 hk hD e1 a ha)
theorem ej {c:Prop} [Decidable c] {p q:Prg α}(h1:c→Low n m p)(h2:¬c→Low n m q):Low n m (if c then p else q):=by
 split
 ·rename_i h;exact h1 h
 ·rename_i h;exact h2 h
theorem ff {b x:Int}(hb:b<m):Low n m (cM b x):=fun kn D y D' _ hD h a ha=>by
 cases h
 unfold dM ep
 split
 ·rfl
 ·split
  ·rfl
  ·rw[qj hD.asc,if_neg (by omega)]
end
section
variable {pg st:Int}{n m:Nat}(H:cB pg st n)(L:cB pg st m)
include H L
theorem zK (p:Int):Low n m (fh pg st p):=ej (fun _=>mj _) (fun _=>cE _)
theorem KI {p:Int}(h:af pg p=true){k x:Int}(hk:W64 k)(hx:W64 x):Low n m (lD pg st p k x):=
 have b:=cj L.toPgIn h
 have g:=cj H.toPgIn h
 cm (aQ n g.1.2.2 g.1.2.1 hk) (ff b.1.2.1) fun _ _=>cm (aQ n g.2.1.2.2 g.2.1.2.1 hx) (ff b.2.1.2.1) fun _ _=>ff b.2.2.2.1
theorem Iv {k:Int}(hk:W64 k)(j:Nat):∀q,(∀i:Nat,i<j→af pg (q+i)=true)→Low n m (iK pg st k j q):=by
 induction j with
 |zero=>intro q _;exact cE _
 |succ j ih =>
  intro q h
  exact cm (pt H.toPgIn (by simpa using h 0 (by omega)) hk (by unfold W64;omega)) (KI H L (by simpa using h 0 (by omega)) hk (by unfold W64;omega)) (fun _ _=>ih _ (fun i hi=>by have:=h (i+1) (by omega);rwa [show q+((i+1:Nat):Int)=q+1+(i:Int) by omega] at this))
theorem KJ (p:Int):Low n m (nT pg st p):=cm (gp H.toPgIn p) (zK H L p) fun k _=>by
 refine ej (fun _=>cE _) (fun _=>ej (fun _=>?_) (fun _=>cE _))
 intro kn D x D' hk hD e a ha
 cases e1:cS (cA pg st p) kn D with
 |need b=>rw[ag e1] at e;cases e
 |ok y D1 =>
  rw[aj e1] at e
  cases e
  rw[(gE e1).1]
theorem Iw (p:Int):Low n m (lS pg st p):=
 cm (tf H.toPgIn p) (KJ H L p) (fun x hx=>by
  have hb:∀i:Nat,i<x.toNat→af pg (p+i)=true:=fun i hi=>by
   rcases hx with rfl|⟨h,h1,h2⟩
   ·simp at hi
   ·have:=ax.1 h;exact ax.2 ⟨by omega,by omega⟩
  exact cm (qA H.toPgIn (by unfold W64;omega) _ _ hb) (Iv H L (by unfold W64;omega) _ _ hb) (fun _ _=>cE _))
theorem oE {a:Int}(ha:a<n):Low n m (eh pg a):=ej (fun _=>cE _) (fun _=>cm (bb n ha) (mj _) (fun x _=>cE _))
theorem Ci {p:Int}(j:Nat):∀(a:Int) (l:List Int),a<n→Low n m (kT pg st p j a l):=by
 induction j with
 |zero=>intro a l _;exact cE _
 |succ j ih =>
  intro a l ha
  exact cm (dl H ha) (oE H L ha) (fun q hq=>ej (fun _=>cE _) (fun _=>ej (fun _=>cE _) (fun hne=>ih _ _ (eC H (hq.resolve_left hne)).1.2.1)))
theorem Fm (p c f:Int):Low n m (kU pg st p c f):=Ci H L _ _ _ (bD H).2.1
theorem oF {h p q:Int}(g1:W64 h)(g2:h<n)(h2:h<m)(hp:p= -1∨af pg p=true)(hq:q= -1∨af pg q=true):Low n m (eU pg st h p q):=
 cm (Q:=fun _=>True) (aO (fun _=>aQ n g1 g2 (nU H hq)) (fun hne=>aQ n (eC H (hp.resolve_left hne)).1.2.2 (eC H (hp.resolve_left hne)).1.2.1 (nU H hq)))
  (ej (fun _=>ff h2) (fun hne=>ff (eC L (hp.resolve_left hne)).1.2.1))
  (fun _ _=>ej (fun _=>cE _) (fun hne=>ff (eC L (hq.resolve_left hne)).2.2.1))
theorem Cj (p c f:Int):Low n m (iR pg st p c f):=
 ej (fun _=>cE _) (fun _=>ej (fun hp=>cm (dl H (bD H).2.1) (oE H L (bD H).2.1) (fun q hq=>cm (dR H (bD H).2.2 (bD H).2.1 (.inr hp) hq) (oF H L (bD H).2.2 (bD H).2.1 (bD L).2.1 (.inr hp) hq) (fun _ _=>cm (dR H (bD H).2.2 (bD H).2.1 (.inl rfl) (.inr hp)) (oF H L (bD H).2.2 (bD H).2.1 (bD L).2.1 (.inl rfl) (.inr hp)) (fun _ _=>cE _)))) (fun _=>cE _))
theorem xL (p c f:Int):Low n m (fH pg st p c f):=
 ej (fun hp=>cm (oy H _ _ _) (Fm H L _ _ _) (fun r hr=>ej (fun _=>cm (dl H (eC H hp).1.2.1) (oE H L (eC H hp).1.2.1) (fun q hq=>cm (dR H (bD H).2.2 (bD H).2.1 (kW H hr.1) hq) (oF H L (bD H).2.2 (bD H).2.1 (bD L).2.1 (kW H hr.1) hq) (fun _ _=>cm (aQ n (eC H hp).1.2.2 (eC H hp).1.2.1 (by unfold W64;omega)) (ff (eC L hp).1.2.1) (fun _ _=>cm (aQ n (eC H hp).2.2.2 (eC H hp).2.2.1 (by unfold W64;omega)) (ff (eC L hp).2.2.1) (fun _ _=>cE _))))) (fun _=>cE _))) (fun _=>cE _)
theorem Fo {q k b:Int}(hq:af pg q=true)(hb:W64 b):Low n m (gD pg st q k b):=
 ej (fun _=>cm (qB H.toPgIn q) (Iw H L q) fun _ _=>cE _)
  (fun _=>cm (aQ n (cj H.toPgIn hq).2.2.2.2 (cj H.toPgIn hq).2.2.2.1 hb) (ff (cj L.toPgIn hq).2.2.2.1) fun _ _=>fun kn D x D' hk hD e a ha=>by
   cases e
   exact ff (cj L.toPgIn hq).2.1.2.1 kn D () _ hk hD rfl a ha)
theorem Fp (q k was:Int)(hq:af pg q=true):Low n m (iI pg st q k was):=
 cm (jZ H _ _ _) (xL H L _ _ _) fun _ _=>cm (bb n (cj H.toPgIn hq).2.1.2.1) (mj _) fun f _=>cm (lW H _ _ _) (Cj H L _ _ _) fun _ _=>cE _
theorem xM {q:Int}(hq:af pg q=true)(k i:Int):Low n m (mh pg st q k i):=
 cm (bb n (cj H.toPgIn hq).2.1.2.1) (mj _) fun was _=>cm (bb n (cj H.toPgIn hq).2.2.2.1) (mj _) fun b hb=>cm (gY H.toPgIn hq (kl hb i)) (Fo H L hq (kl hb i)) fun _ _=>cm (gX H q k was hq) (Fp H L q k was hq) fun _ _=>cE _
theorem Fq (us a:Int):Low n m (fR us pg st a):=by
 unfold fR
 refine ej (fun h=>?_) (fun _=>cE _)
 refine cm (gp H.toPgIn _) (zK H L _) fun x _=>?_
 unfold jp
 refine ej (fun _=>cE _) (fun _=>ej (fun _=>cE _) (fun _=>?_))
 intro kn D y D' hk hD e b ha
 cases e1:cS (bA pg st ((a-us) / 32)) kn D with
 |need b=>rw[ag e1] at e;cases e
 |ok z D1 =>
  rw[aj e1] at e
  cases e
  rw[(gE e1).1]
theorem Iy (us a:Int):Low n m (rn us pg st a):=cm (jq H.toPgIn a) (Fq H L us a) fun x hx=>by
 cases h:fo x with
 |none=>exact cE _
 |some y =>
  obtain⟨q,k,i⟩:=y
  have:=gZ h
  exact xM H L (hx q k i true this).1 k i
end
end Go.Proofs.YtddmeghbmdfgeaaGreatDoor
