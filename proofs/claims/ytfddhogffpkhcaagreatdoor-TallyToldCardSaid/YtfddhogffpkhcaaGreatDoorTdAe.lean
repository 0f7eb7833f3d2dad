/-
  The document's own answers for slots (by division), and the landed words with one bit, under contract.
-/
import Derived.Test.YtfddhogffpkhcaaGreatDoorTdAd
import Derived.Test.YtfddhogffpkhcaaGreatDoorTdAc
import Derived.Laws.Shifts
import Derived.Laws.Bits64
import Derived.Lib.Hide
import Derived.LoopTactic
import Derived.Outline
import Derived.RangeFuncBox
import Derived.RangeFuncLeaves
import Derived.RangeFuncCalls
import Derived.Shelf.Abstract
import Derived.OwnWalkIn
import Derived.TacticsInMore
import Derived.LoopNIn
import Derived.LoopIn
import Derived.Maps.AppendAt
import Derived.ProofKit
import Derived.LaidMore
import Derived.OpenShut
import Derived.Stop.Joined
import Derived.Recover
import Derived.Deep.Slices
import Derived.Deep.Fields
import Derived.Lib.SmallJoins
set_option maxRecDepth 100000
set_option maxHeartbeats 8000000
set_option linter.all false
namespace Go.Proofs.YtfddhogffpkhcaaGreatDoor
open Go.RowKit
theorem Ef {x:Int}(h0: -9223372036854775808≤x)(h1:x≤9223372036854775807):IntKind.i64.wrap x=x:=by
 simp[IntKind.wrap,IntKind.bits,IntKind.signed];omega
theorem ry {k:Nat}(h:k<32):1≤(2:Int) ^ k∧(2:Int) ^ k≤2147483648:=by
 have h1:(1:Nat)≤2 ^ k:=Nat.one_le_two_pow
 have h2:(2:Nat) ^ k≤2 ^ 31:=Nat.pow_le_pow_right (by omega) (by omega)
 have e:(2:Int) ^ k=((2 ^ k:Nat):Int):=by simp
 rw[e];omega
theorem I8 (i:Int)(w:World):Calls Tryz.prog 161 #[.int .i64 i] w fun e w'=>e=.returned (.int .i64 (lH i))∧w'=w:=by
 by_cases c0:i<0
 ·have d0:decide (i<0)=true:=by simpa using c0
  have e0:lH i=0:=by unfold lH;rw[if_neg (by simp[inR];omega)]
  have HE:=hQQ e0;clear e0
  go_enter Tryz.func161,Tryz.ntmps161
  go_wp2_with fail
  go_ret
  exact⟨by rw[HE.o];rfl,rfl⟩
 ·have d0:decide (i<0)=false:=by simpa using c0
  by_cases c1:32≤i
  ·have d1:decide (32≤i)=true:=by simpa using c1
   have e0:lH i=0:=by unfold lH;rw[if_neg (by simp[inR];omega)]
   have HE:=hQQ e0;clear e0
   go_enter Tryz.func161,Tryz.ntmps161
   go_wp2_with fail
   go_ret
   exact⟨by rw[HE.o];rfl,rfl⟩
  ·have d1:decide (32≤i)=false:=by simpa using c1
   obtain⟨k,rfl⟩:∃k:Nat,i=k:=⟨i.toNat,by omega⟩
   have hk:k<32:=by omega
   have pb:=ry hk
   have e0:lH (k:Int)=2 ^ k:=by unfold lH;rw[if_pos (tg hk)];simp
   have HE:=hQQ e0;clear e0
   have hm:min k 64=k:=by omega
   have HM:=hQQ hm;clear hm
   have HW:=hQQ (Ef (x:=2 ^ k) (by omega) (by omega))
   go_enter Tryz.func161,Tryz.ntmps161
   go_wp2_with fail
   go_ret
   exact⟨by rw[HE.o];rfl,rfl⟩
theorem J7 (x i:Int)(w:World):Calls Tryz.prog 152 #[.int .i64 x,.int .i64 i] w fun e w'=>e=.returned (.bool (cK x i))∧w'=w:=by
 have HE:=hQQ (Eb x i)
 go_enter Tryz.func152,Tryz.ntmps152
 go_wp2_with fail
 refine(I8 i _).mono ?_
 rintro e w' ⟨rfl,rfl⟩
 go_wp2_with fail
 go_ret
 exact⟨by rw[←HE.o];rfl,rfl⟩
theorem ti (i:Int)(w:World):Calls Tryz.prog 89 #[.int .i64 i] w fun e w'=>e=.returned (.bool (inR i))∧w'=w:=by
 by_cases c0:0≤i
 ·have d0:decide (0≤i)=true:=by simpa using c0
  have HE:=hQQ (show inR i=decide (i<32) by simp[inR,c0])
  go_enter Tryz.func89,Tryz.ntmps89
  go_wp2_with fail
  go_ret
  exact⟨by rw[HE.o];rfl,rfl⟩
 ·have d0:decide (0≤i)=false:=by simpa using c0
  have HE:=hQQ (show inR i=false by simp[inR,c0])
  go_enter Tryz.func89,Tryz.ntmps89
  go_wp2_with fail
  go_ret
  exact⟨by rw[HE.o];rfl,rfl⟩
theorem J8 (x:Int)(k:Nat)(hk:k<32)(w:World):Calls Tryz.prog 90 #[.int .i64 x,.int .i64 k] w fun e w'=>e=.returned (.int .u64 (((fo x).toNat / 2 ^ k % 2:Nat):Int))∧w'=w:=by
 go_enter Tryz.func90,Tryz.ntmps90
 have HB:=hQQ (show(fo x).toNat / 2 ^ 0=(fo x).toNat by simp)
 have hl:=(fo x).isLt
 go_wp2_with fail
 rw[xT]
 go_loop [5,6] (fun u i=>∃j:Nat,j≤k∧i=.int .i64 j∧u=.int .u64 (((fo x).toNat / 2 ^ j:Nat):Int)) (fun _ i=>k-(intOf i).toNat)
 case atStart=>exact⟨0,Nat.zero_le _,rfl,by rw[HB.o]⟩
 case round =>
  obtain⟨j,hj,rfl,rfl⟩:=hrel
  have hx:(fo x).toNat / 2 ^ j<18446744073709551616:=Nat.lt_of_le_of_lt (Nat.div_le_self _ _) (by simpa using hl)
  have HS:=hQQ (show(fo x).toNat / 2 ^ j / 2=(fo x).toNat / 2 ^ (j+1) by rw[Nat.div_div_eq_div_mul,Nat.pow_succ])
  clear hl
  generalize hY:(fo x).toNat / 2 ^ j=Y at hx HS⊢
  by_cases hlt:j<k
  ·go_wp2_with fail
   go_round
   case rel=>exact⟨j+1,by omega,by go_num,by rw[←HS.o,Int.natCast_ediv];rfl⟩
   case measure=>simp[intOf];omega
  ·obtain rfl:j=k:=by omega
   go_wp2_with fail
   go_ret
   exact⟨rfl,rfl⟩
theorem zr (k:Nat)(hk:k<32)(w:World):Calls Tryz.prog 158 #[.int .i64 k] w fun e w'=>e=.returned (.int .u64 (2 ^ k))∧w'=w:=by
 go_enter Tryz.func158,Tryz.ntmps158
 go_wp2_with fail
 go_loop [3,4] (fun u i=>∃j:Nat,j≤k∧i=.int .i64 j∧u=.int .u64 (2 ^ j)) (fun _ i=>k-(intOf i).toNat)
 case atStart=>exact⟨0,Nat.zero_le _,rfl,by simp⟩
 case round =>
  obtain⟨j,hj,rfl,rfl⟩:=hrel
  by_cases hlt:j<k
  ·have pb:=ry (show j<32 by omega)
   go_wp2_with fail
   go_round
   case rel=>exact⟨j+1,by omega,by go_num,by rw[Int.pow_succ]⟩
   case measure=>simp[intOf];omega
  ·obtain rfl:j=k:=by omega
   go_wp2_with fail
   go_ret
   exact⟨rfl,rfl⟩
theorem Ja (x:Int)(k:Nat):((((fo x).toNat / 2 ^ k % 2:Nat):Int)==1)=dm x k:=by
 rw[GJ,Bool.eq_iff_iff,beq_iff_eq,decide_eq_true_iff]
 omega
theorem pO (x i:Int)(w:World):Calls Tryz.prog 51 #[.int .i64 x,.int .i64 i] w fun e w'=>e=.returned (.bool (cK x i))∧w'=w:=by
 cases hi:inR i with
 |false =>
  rw[Ed hi]
  have HB:Hq (∀W,Calls Tryz.prog 89 #[.int .i64 i] W fun e w'=>e=.returned (.bool false)∧w'=W):=fun W=>by
   have:=ti i W;rwa [hi] at this
  clear hi
  go_enter Tryz.func51,Tryz.ntmps51
  go_wp2_with fail
  refine(HB.o _).mono ?_
  rintro e w' ⟨rfl,rfl⟩
  go_wp2_with fail
  go_ret
  exact⟨rfl,rfl⟩
 |true =>
  have hr:=(dr i).1 hi
  obtain⟨k,rfl⟩:∃k:Nat,i=k:=⟨i.toNat,by omega⟩
  have HB:Hq (∀W,Calls Tryz.prog 89 #[.int .i64 k] W fun e w'=>e=.returned (.bool true)∧w'=W):=fun W=>by
   have:=ti k W;rwa [hi] at this
  have HK:Hq (cK x k=dm x k):=by unfold cK;rw[hi];rfl
  have HE:=hQQ (Ja x k)
  clear hi
  go_enter Tryz.func51,Tryz.ntmps51
  go_wp2_with fail
  refine(HB.o _).mono ?_
  rintro e w' ⟨rfl,rfl⟩
  go_wp2_with fail
  refine(J8 x k (by omega) _).mono ?_
  rintro e w' ⟨rfl,rfl⟩
  generalize hY:(fo x).toNat / 2 ^ k % 2=Y at HE⊢
  go_wp2_with fail
  go_ret
  exact⟨by rw[HK.o,←HE.o];rfl,rfl⟩
theorem GK {x i:Int}(hi:inR i=true)(hb:cK x i=false):IntKind.i64.wrap (IntKind.u64.wrap (((fo x).toNat:Int)+2 ^ i.toNat))=eQ x i:=by
 have hr:=(dr i).1 hi
 have hb':dm x i.toNat=false:=by unfold cK at hb;rw[hi,Bool.true_and] at hb;exact hb
 have pb:=ry (show i.toNat<32 by omega)
 have e:IntKind.u64.wrap (((fo x).toNat:Int)+2 ^ i.toNat)=((fo x+BitVec.twoPow 64 i.toNat).toNat:Int):=by
  rw[BitVec.toNat_add,BitVec.toNat_twoPow]
  have e1:(2:Int) ^ i.toNat=((2 ^ i.toNat:Nat):Int):=by simp
  rw[e1]
  simp[IntKind.wrap,IntKind.bits,IntKind.signed]
 rw[e,lY]
 unfold eQ
 rw[if_pos hi,BitVec.add_eq_or_of_and_eq_zero]
 rw[BitVec.and_twoPow]
 unfold dm at hb'
 rw[hb'];rfl
theorem A3 {x i:Int}(hi:inR i=true)(hb:cK x i=true):IntKind.i64.wrap (IntKind.u64.wrap (((fo x).toNat:Int)-2 ^ i.toNat))=cC x i:=by
 have hr:=(dr i).1 hi
 have hb':dm x i.toNat=true:=by unfold cK at hb;rw[hi,Bool.true_and] at hb;exact hb
 have pb:=ry (show i.toNat<32 by omega)
 have e:IntKind.u64.wrap (((fo x).toNat:Int)-2 ^ i.toNat)=((fo x-BitVec.twoPow 64 i.toNat).toNat:Int):=by
  rw[BitVec.toNat_sub,BitVec.toNat_twoPow]
  have e1:(2:Int) ^ i.toNat=((2 ^ i.toNat:Nat):Int):=by simp
  have e2:2 ^ i.toNat % 2 ^ 64=2 ^ i.toNat:=by rw[e1] at pb;omega
  rw[e2]
  rw[e1] at pb⊢
  have:=(fo x).isLt
  rw[IntKind.wrap_u64]
  omega
 rw[e,lY]
 unfold cC
 rw[if_pos hi]
 congr 1
 rw[BitVec.sub_eq_iff_eq_add,BitVec.add_eq_or_of_and_eq_zero]
 ·apply BitVec.eq_of_getLsbD_eq
  intro j hj
  rw[BitVec.getLsbD_or,BitVec.getLsbD_and,BitVec.getLsbD_not,BitVec.getLsbD_twoPow,decide_eq_true hj]
  by_cases q:i.toNat=j
  ·subst q;unfold dm at hb';rw[hb'];simp[hj]
  ·simp[q]
 ·apply BitVec.eq_of_getLsbD_eq
  intro j hj
  rw[BitVec.getLsbD_and,BitVec.getLsbD_and,BitVec.getLsbD_not]
  cases (BitVec.twoPow 64 i.toNat).getLsbD j<;>simp
theorem J9 (x i:Int)(h0: -9223372036854775808≤x)(h1:x≤9223372036854775807)(w:World):Calls Tryz.prog 147 #[.int .i64 x,.int .i64 i] w fun e w'=>e=.returned (.int .i64 (eQ x i))∧w'=w:=by
 cases hi:inR i with
 |false =>
  rw[Ec hi]
  have HB:Hq (∀W,Calls Tryz.prog 89 #[.int .i64 i] W fun e w'=>e=.returned (.bool false)∧w'=W):=fun W=>by
   have:=ti i W;rwa [hi] at this
  clear hi
  go_enter Tryz.func147,Tryz.ntmps147
  go_wp2_with fail
  refine(HB.o _).mono ?_
  rintro e w' ⟨rfl,rfl⟩
  go_wp2_with fail
  go_ret
  exact⟨rfl,rfl⟩
 |true =>
  have HB:Hq (∀W,Calls Tryz.prog 89 #[.int .i64 i] W fun e w'=>e=.returned (.bool true)∧w'=W):=fun W=>by
   have:=ti i W;rwa [hi] at this
  cases hb:cK x i with
  |true =>
   rw[GI h0 h1 hi hb]
   have HH:Hq (∀W,Calls Tryz.prog 51 #[.int .i64 x,.int .i64 i] W fun e w'=>e=.returned (.bool true)∧w'=W):=fun W=>by
    have:=pO x i W;rwa [hb] at this
   clear hi hb
   go_enter Tryz.func147,Tryz.ntmps147
   go_wp2_with fail
   refine(HB.o _).mono ?_
   rintro e w' ⟨rfl,rfl⟩
   go_wp2_with fail
   refine(HH.o _).mono ?_
   rintro e w' ⟨rfl,rfl⟩
   go_wp2_with fail
   go_ret
   exact⟨rfl,rfl⟩
  |false =>
   have HS:=hQQ (GK hi hb)
   have HU:=hQQ (xT x)
   have HH:Hq (∀W,Calls Tryz.prog 51 #[.int .i64 x,.int .i64 i] W fun e w'=>e=.returned (.bool false)∧w'=W):=fun W=>by
    have:=pO x i W;rwa [hb] at this
   have hr:=(dr i).1 hi
   obtain⟨k,rfl⟩:∃k:Nat,i=k:=⟨i.toNat,by omega⟩
   rw[Int.toNat_natCast] at HS
   have pb:=ry (show k<32 by omega)
   have HW:Hq (∀W,Calls Tryz.prog 158 #[.int .i64 k] W fun e w'=>e=.returned (.int .u64 (2 ^ k))∧w'=W):=fun W=>zr k (by omega) W
   generalize (2:Int) ^ k=P at HS HW pb
   have hX:=(fo x).isLt
   generalize (fo x).toNat=X at HS HU hX
   clear hi hb
   go_enter Tryz.func147,Tryz.ntmps147
   go_wp2_with fail
   refine(HB.o _).mono ?_
   rintro e w' ⟨rfl,rfl⟩
   go_wp2_with fail
   refine(HH.o _).mono ?_
   rintro e w' ⟨rfl,rfl⟩
   go_wp2_with fail
   refine(HW.o _).mono ?_
   rintro e w' ⟨rfl,rfl⟩
   go_wp2_with fail
   go_ret
   exact⟨by rw[←HS.o,←HU.o,IntWalk.i64_left];rfl,rfl⟩
theorem GM (x i:Int)(h0: -9223372036854775808≤x)(h1:x≤9223372036854775807)(w:World):Calls Tryz.prog 149 #[.int .i64 x,.int .i64 i] w fun e w'=>e=.returned (.int .i64 (cC x i))∧w'=w:=by
 cases hb:cK x i with
 |false =>
  have e:cC x i=x:=by
   cases hi:inR i with
   |false=>exact xS hi
   |true=>exact A0 h0 h1 hi hb
  rw[e]
  have HH:Hq (∀W,Calls Tryz.prog 51 #[.int .i64 x,.int .i64 i] W fun e w'=>e=.returned (.bool false)∧w'=W):=fun W=>by
   have:=pO x i W;rwa [hb] at this
  clear hb e
  go_enter Tryz.func149,Tryz.ntmps149
  go_wp2_with fail
  refine(HH.o _).mono ?_
  rintro e w' ⟨rfl,rfl⟩
  go_wp2_with fail
  go_ret
  exact⟨rfl,rfl⟩
 |true =>
  have hi:inR i=true:=by unfold cK at hb;rw[Bool.and_eq_true] at hb;exact hb.1
  have HS:=hQQ (A3 hi hb)
  have HU:=hQQ (xT x)
  have HH:Hq (∀W,Calls Tryz.prog 51 #[.int .i64 x,.int .i64 i] W fun e w'=>e=.returned (.bool true)∧w'=W):=fun W=>by
   have:=pO x i W;rwa [hb] at this
  have hr:=(dr i).1 hi
  obtain⟨k,rfl⟩:∃k:Nat,i=k:=⟨i.toNat,by omega⟩
  rw[Int.toNat_natCast] at HS
  have pb:=ry (show k<32 by omega)
  have HW:Hq (∀W,Calls Tryz.prog 158 #[.int .i64 k] W fun e w'=>e=.returned (.int .u64 (2 ^ k))∧w'=W):=fun W=>zr k (by omega) W
  generalize (2:Int) ^ k=P at HS HW pb
  have hX:=(fo x).isLt
  generalize (fo x).toNat=X at HS HU hX
  clear hi hb
  go_enter Tryz.func149,Tryz.ntmps149
  go_wp2_with fail
  refine(HH.o _).mono ?_
  rintro e w' ⟨rfl,rfl⟩
  go_wp2_with fail
  refine(HW.o _).mono ?_
  rintro e w' ⟨rfl,rfl⟩
  go_wp2_with fail
  go_ret
  exact⟨by rw[←HS.o,←HU.o,IntWalk.i64_left];rfl,rfl⟩
theorem Eg {n:Int}{k:Nat}(h:k<et n):(k:Int)<32∧(k:Int)<n:=by unfold et at h;omega
theorem GN {n:Int}{k:Nat}(h:k≤et n)(h':¬k<et n):k=et n∧(¬(k:Int)<32∨((k:Int)<32∧¬(k:Int)<n)):=by unfold et at h h' ⊢;omega
theorem pf {x:Int}{k:Nat}(h:k<32):cK x k=dm x k:=by unfold cK;rw[tg h,Int.toNat_natCast,Bool.true_and]
theorem GO (x n:Int)(w:World):Calls Tryz.prog 146 #[.int .i64 x,.int .i64 n] w fun e w'=>e=.returned (.int .i64 (cO x n))∧w'=w:=by
 have he:=mI n
 go_enter Tryz.func146,Tryz.ntmps146
 go_wp2_with fail
 go_loop [5] (fun i=>∃k:Nat,k≤et n∧i=.int .i64 k∧∀j,j<k→dm x j=true) (fun i=>32-(intOf i).toNat)
 case atStart=>exact⟨0,Nat.zero_le _,rfl,fun j h=>by omega⟩
 case round =>
  obtain⟨k,hk,rfl,hj⟩:=hrel
  have Hj:=hQQ hj
  clear hj
  by_cases hlt:k<et n
  ·obtain⟨l1,l2⟩:=Eg hlt
   have d1:decide ((k:Int)<32)=true:=by simpa using l1
   have d2:decide ((k:Int)<n)=true:=by simpa using l2
   have HK:=hQQ (pf (x:=x) (show k<32 by omega))
   cases hb:dm x k with
   |true =>
    have HH:Hq (∀W,Calls Tryz.prog 51 #[.int .i64 x,.int .i64 k] W fun e w'=>e=.returned (.bool true)∧w'=W):=fun W=>by
     have:=pO x k W;rwa [HK.o,hb] at this
    have HB:=hQQ hb
    clear hb
    go_wp2_with fail
    refine(HH.o _).mono ?_
    rintro e w' ⟨rfl,rfl⟩
    go_wp2_with fail
    go_round
    case rel=>exact⟨k+1,by omega,by go_num,fun j h=>by
     by_cases q:j=k
     ·rw[q];exact HB.o
     ·exact Hj.o j (by omega)⟩
    case measure=>simp[intOf];omega
   |false =>
    have HH:Hq (∀W,Calls Tryz.prog 51 #[.int .i64 x,.int .i64 k] W fun e w'=>e=.returned (.bool false)∧w'=W):=fun W=>by
     have:=pO x k W;rwa [HK.o,hb] at this
    have HF:Hq (cO x n=k):=kZ hlt hb Hj.o
    clear hb
    go_wp2_with fail
    refine(HH.o _).mono ?_
    rintro e w' ⟨rfl,rfl⟩
    go_wp2_with fail
    go_ret
    exact⟨by rw[HF.o];rfl,rfl⟩
  ·obtain⟨e0,l1⟩:=GN hk hlt
   have HF:Hq (cO x n= -1):=rx (fun j h=>Hj.o j (by omega))
   clear e0
   rcases l1 with l1|⟨l1,l2⟩
   ·have d1:decide ((k:Int)<32)=false:=by simpa using l1
    go_wp2_with fail
    go_ret
    exact⟨by rw[HF.o];rfl,rfl⟩
   ·have d1:decide ((k:Int)<32)=true:=by simpa using l1
    have d2:decide ((k:Int)<n)=false:=by simpa using l2
    go_wp2_with fail
    go_ret
    exact⟨by rw[HF.o];rfl,rfl⟩
def onI (x:Int)(k:Nat):List Int:=(onN x k).map (fun j:Nat=>(j:Int))
theorem Jb (x:Int)(k:Nat):(onI x k).length≤k:=by unfold onI;rw[List.length_map];exact I5 x k
open Go.Shelf
attribute [local go_sem] Oper.semAt_some
def dM (x:Int)(k:Nat):List (Nat×Bool):=(List.range k).map fun j=>(j,dm x j)
theorem nR (x:Int)(k:Nat):dM x (k+1)=dM x k++ [(k,dm x k)]:=by simp[dM,List.range_succ]
theorem oL (x:Int)(k:Nat):(dM x k).length=k:=by simp[dM]
theorem Eh (n:Nat)(hn:1≤n)(l Bm Bw:Nat)(x m:Int)(m0: -9223372036854775808≤m)(m1:m≤9223372036854775807)(J Jx:List (Nat×Bool)→World→Prop)
 (hY:∀pre y W,J pre W→pre.length<et m→YieldAt Fence.wide (n-1) Tryz.prog l #[.int .i64 (y.1:Int),.bool y.2] W fun e W' =>
  (e=.returned (.bool true)∧J (pre++ [y]) W'∧gd Bm Bw W W')∨(e=.returned (.bool false)∧Jx (pre++ [y]) W'))
 (W:World) (hBm:W.cell? ⟨Bm,0,none⟩=some (.int .i64 m)) (hBw:W.cell? ⟨Bw,0,none⟩=some (.int .i64 x)) (h0:J [] W):
 CallsIn Fence.wide n Tryz.prog 151 #[.func (.yield l) #[] #[],.pointer (some ⟨Bm,0,none⟩),.pointer (some ⟨Bw,0,none⟩)] W fun e W'=>(∃v,e=.returned v) ∧
  ((∃ys,ys=dM x (et m)∧J ys W')∨(∃pre,(∃k,k≤et m∧pre=dM x k)∧Jx pre W')):=by
 have he:=mI m
 refine callsIn_of_wp Tryz.func151 rfl trivial ?_ rfl
 simp only[Tryz.ntmps151,List.size_toArray,List.length_cons,List.length_nil,Nat.reduceAdd,Nat.reduceSub,Array.replicate_succ,Array.replicate_zero,List.push_toArray,List.append_toArray,List.nil_append,List.cons_append]
 gi_wp2
 all_goals
  gi_loopw [7] (fun i wr=>∃k:Nat,k≤et m∧i=.int .i64 k∧J (dM x k) wr∧gd Bm Bw W wr) (fun i _=>et m-(intOf i).toNat)
  case atStart=>exact⟨0,Nat.zero_le _,rfl,h0,gd.refl _ _ _⟩
  case round =>
   obtain⟨k,hk,rfl,hJs,hnx⟩:=hrel
   by_cases hlt:k<et m
   ·obtain⟨l1,l2⟩:=Eg hlt
    have hcw:wr.cell? ⟨Bw,0,none⟩=some (.int .i64 x):=hnx.cell2 hBw
    have HK:=hQQ (pf (x:=x) (show k<32 by omega))
    obtain⟨fn,tmps,assign,body,hy,hR⟩:=hY _ (k,dm x k) wr hJs (by rw[oL];exact hlt)
    dsimp only at hy
    gi_wp2_with (refine⟨trivial,?_⟩;gi_at_call 152;refine(callsIn_wide.2 (J7 x k _)).mono ?_;rw[HK.o];rintro e w' ⟨rfl,rfl⟩)
    refine hR.mono ?_
    rintro e W3 (⟨rfl,hJ3,hk3⟩|⟨rfl,hJx3⟩)
    ·gi_wp2
     go_roundw
     case rel=>exact⟨k+1,by omega,by simp,by rw[nR];exact hJ3,hnx.trans hk3⟩
     case measure=>simp[intOf];omega
    ·gi_wp2
     refine bodyPost_ret (results_none rfl _ _ _) rfl ?_
     exact⟨⟨_,rfl⟩,.inr ⟨_,⟨k+1,by omega,(nR _ _).symm⟩,hJx3⟩⟩
   ·have l3:k=et m:=by omega
    have l4:(m≤32∧m≤(k:Int))∨(32≤m∧32≤(k:Int)):=by unfold et at l3;omega
    rcases l4 with⟨l6,l5⟩|⟨l6,l5⟩
    ·gi_wp2
     go_end0
     exact⟨⟨_,rfl⟩,.inl ⟨_,rfl,by rw[←l3];exact hJs⟩⟩
    ·gi_wp2
     go_end0
     exact⟨⟨_,rfl⟩,.inl ⟨_,rfl,by rw[←l3];exact hJs⟩⟩
theorem GP (n:Nat)(x m:Int)(w:World):
 CallsIn Fence.wide n Tryz.prog 141 #[.int .i64 x,.int .i64 m] w fun e w'=>e=.returned (.func (.func 151) #[] #[.pointer (some ⟨w.heap.size+1,0,none⟩),.pointer (some ⟨w.heap.size,0,none⟩)])∧w'=(w.alloc (.cells #[.int .i64 x] 3)).alloc (.cells #[.int .i64 m] 3):=by
 refine callsIn_of_wp Tryz.func141 rfl trivial ?_ rfl
 simp only[Tryz.ntmps141,List.size_toArray,List.length_cons,List.length_nil,Nat.reduceAdd,Nat.reduceSub,Array.replicate_succ,Array.replicate_zero,List.push_toArray,List.append_toArray,List.nil_append,List.cons_append]
 gi_wp2
 go_ret
 exact⟨rfl,rfl⟩
theorem xU (n:Nat)(hn:1≤n)(Bm Bw:Nat)(x m:Int)(m0: -9223372036854775808≤m)(m1:m≤9223372036854775807)(w:World)
 (hBm:w.cell? ⟨Bm,0,none⟩=some (.int .i64 m)) (hBw:w.cell? ⟨Bw,0,none⟩=some (.int .i64 x)):
 SeqStopsK Fence.wide n Tryz.prog 151 #[.pointer (some ⟨Bm,0,none⟩),.pointer (some ⟨Bw,0,none⟩)] (fun y:Nat×Bool=> #[Value.int .i64 (y.1:Int),Value.bool y.2]) (gd Bm Bw) (fun ys=>ys=dM x (et m))
  (fun pre=>∃k,k≤et m∧pre=dM x k) (et m) w:=fun l J Jx W hW _ _ hY h0 =>
 Eh n hn l Bm Bw x m m0 m1 J Jx hY W ((hW.cell (p:=⟨Bm,0,none⟩) (dA hBm)).trans hBm) ((hW.cell (p:=⟨Bw,0,none⟩) (dA hBw)).trans hBw) h0
theorem zt (x:Int)(k:Nat):((dM x k).filter fun y=>y.2).map (fun y=>y.1)=onN x k:=by
 induction k with
 |zero=>rfl
 |succ k ih =>
  rw[nR,List.filter_append,List.map_append,ih,ky]
  cases dm x k<;>rfl
def Ei (pre:List (Nat×Bool)):Int:=((pre.filter fun y=>y.2).length:Int)
theorem Jc (pre:List (Nat×Bool)):0≤Ei pre∧Ei pre≤pre.length:=by
 have:=List.length_filter_le (fun y:Nat×Bool=>y.2) pre
 unfold Ei;omega
theorem Ej (x n:Int):Ei (dM x (et n))=gh x n:=by
 unfold Ei gh
 rw[←zt,List.length_map]
def ic (pre:List (Nat×Bool)):List Int:=(pre.filter fun y=>y.2).map fun y=>(y.1:Int)
theorem A6 (pre:List (Nat×Bool))(k:Nat):ic (pre++ [(k,true)])=ic pre++ [(k:Int)]:=by simp[ic]
theorem Ek (pre:List (Nat×Bool))(k:Nat):ic (pre++ [(k,false)])=ic pre:=by simp[ic]
theorem El (pre:List (Nat×Bool)):(ic pre).length≤pre.length:=by
 unfold ic;rw[List.length_map];exact List.length_filter_le _ _
theorem A7 (x n:Int):ic (dM x (et n))=iW x n:=by
 unfold ic iW
 rw[←zt,List.map_map];rfl
theorem Jd (x n:Int)(n0: -9223372036854775808≤n)(n1:n≤9223372036854775807)(w:World):Calls Tryz.prog 118 #[.int .i64 x,.int .i64 n] w (uw w (iW x n)):=by
 suffices H:CallsIn Fence.wide 3 Tryz.prog 118 #[.int .i64 x,.int .i64 n] w fun e W'=>∃v,e=.returned v∧Rw w.heap.size W' v (iW x n)∧Below w.heap.size w W' from
  (callsIn_wide (n:=3)).1 (H.mono fun e W' ⟨v,he,hr,hb⟩=>⟨v,he,hr,lE hb⟩)
 obtain⟨i0,hi,hz0,hz1,hz2⟩:=iA
 have he:=mI n
 refine callsIn_of_wp_marks Tryz.func118 rfl trivial ?_ rfl
 simp only[Tryz.ntmps118,List.size_toArray,List.length_cons,List.length_nil,Nat.reduceAdd,Nat.reduceSub,Array.replicate_succ,Array.replicate_zero,List.push_toArray,List.append_toArray,List.nil_append,List.cons_append]
 gi_wp2_with (refine⟨trivial,?_⟩;gi_at_call 141;refine(GP _ x n _).mono ?_;rintro e w' ⟨rfl,rfl⟩)
 have bC:=Boxed.new w 28 (.slice none 0 0)
 have bX:=Boxed.new (w.alloc (.cells #[.slice none 0 0] 28)) 3 (.int .i64 x)
 have bN:=Boxed.new ((w.alloc (.cells #[.slice none 0 0] 28)).alloc (.cells #[.int .i64 x] 3)) 3 (.int .i64 n)
 simp only[World.size_alloc] at bX bN
 have hB0:Below w.heap.size w (((w.alloc (.cells #[.slice none 0 0] 28)).alloc (.cells #[.int .i64 x] 3)).alloc (.cells #[.int .i64 n] 3)):=(((Below.refl _ w).alloc (Nat.le_refl _) _).alloc (by simp) _).alloc (by simp;omega) _
 refine wpIn_rangeFunc_ownG rfl (by omega) (gf:=151) (lb:=#[.pointer (some ⟨w.heap.size+1+1,0,none⟩),.pointer (some ⟨w.heap.size+1,0,none⟩)]) rfl trivial (enters_of Tryz.func151 (by kernel_rfl) rfl)
  (xU 2 (by omega) (w.heap.size+1+1) (w.heap.size+1) x n n0 n1 _ bN.cell (bX.alloc _).cell) (fun h k=>h.trans k) (xq (by simp) (by simp)) (Below.refl _ _) (fun _=>rfl)
  (fun pre W=>((∃v,Boxed W w.heap.size 28 v∧W.ownsRow (w.heap.size+3) 3 1 v (ic pre).length ((ic pre).map (Value.int .i64))∧True)∧w.heap.size+3≤W.heap.size)∧Below w.heap.size w W)
  (fun _ _ _=>False)
  (OwnFrom.and (OwnFrom.and (Own.from (holdsRow_own (w.heap.size+3) w.heap.size 28 3 1 (fun pre=>(ic pre).length) (fun pre=>(ic pre).map (Value.int .i64)) (fun _ _=>True)) _) (Own.from (fun s A B row hs hg hr=>Nat.le_trans hs hg.size) _)) (ownFrom_below (Nat.le_refl _) (by simp;omega)))
  (fun _ _ _ _ _ hs _ _=>hs)
  ⟨⟨⟨_,(bC.alloc _).alloc _,World.ownsRow_nil _ _ _ _,trivial⟩,by simp⟩,hB0⟩
  (fun y=> { tmps:= #[.int .i64 x,.int .i64 n,undef,undef,.slice none 0 0,.pointer (some ⟨w.heap.size,0,none⟩),.int .i64 (y.1:Int),.bool y.2,.int .i64 x,.int .i64 n,.func (.func 151) #[] #[.pointer (some ⟨w.heap.size+1+1,0,none⟩),.pointer (some ⟨w.heap.size+1,0,none⟩)],.int .i64 (y.1:Int),.bool y.2,undef,undef,undef,undef,undef,undef],defers:= [] }) ?assign ?body ?done ?stop
 case assign =>
  intro l y W K hK
  gi_wp2
  exact hK
 case body =>
  rintro l pre ⟨j,b⟩ W ⟨⟨⟨v,hv,hrow,_⟩,hz⟩,hB⟩ hlt
  have hc:=hv.cell
  have hpl:=El pre
  cases b with
  |false =>
   have HS:=hQQ (Ek pre j)
   gi_wp2
   exact⟨KeepsFrom.refl _ _,gd.refl _ _ _,⟨⟨v,hv,by rw[HS.o];exact hrow,trivial⟩,hz⟩,hB⟩
  |true =>
   have HS:=hQQ (A6 pre j)
   gi_wp2_with (gi_at_builtin;refine wpListIn_append_own _ rfl _ _ 28 rfl (w.heap.size+3) 3 i0 (.int .i64 0) 1 8 Tryz.underlying28 hi hz0 hz1 hz2 rfl (by decide) _ _ _ rfl (hrow.alloc _) ⟨W.heap.size,0,none⟩ 1 1 [.int .i64 (j:Int)] rfl rfl (cell_one_new _ _ _) (by simp[Value.oneCell']) (by simp only[maxLen];omega) (by omega) (by simp;omega) ?_;intro v' w1 hown' hgrow _;obtain⟨g',cap',rfl⟩:=ownsRow_succ hown';obtain⟨hv1,hv2,hr2,hk2,hb2⟩:=hv.appended (by decide) (gQ hrow (show w.heap.size≤w.heap.size+3 by omega)) hB.size (Nat.le_refl _) (gQ hown' (show w.heap.size≤w.heap.size+3 by omega)) hgrow;have hc1:=hv1.cell;have hf1:=hv1.frozen)
   have hr3:=World.ownsRow.kept hown' (grownBy_setCell' w1 w.heap.size (.slice (some ⟨g',0,none⟩) ((ic pre).length+1) cap')) (.inr (hv1.not_row (by decide) hown').symm)
   have hnb:∀b,b<w.heap.size+3→some b≠v.ownBlock:=by
    intro b hb
    rcases hrow.2 with⟨rfl,_⟩|⟨g,cap,cur,rfl,hg,_⟩
    ·simp[Value.ownBlock]
    ·simp only[Value.ownBlock,ne_eq,Option.some.injEq];omega
   have hkk:∀b,b<w.heap.size+3→b≠w.heap.size→(w1.setCell ⟨w.heap.size,0,none⟩ (.slice (some ⟨g',0,none⟩) ((ic pre).length+1) cap')).heap[b]?=W.heap[b]? :=fun b hb hne=>by
    rw[Below.heap_setCell _ _ _ _ hne,hgrow.block b (by simp;omega) (hnb b hb),Below.heap_alloc _ _ _ (by omega)]
   exact⟨hk2.from _,⟨hkk _ (by omega) (by omega),hkk _ (by omega) (by omega)⟩,⟨⟨_,hv2,by rw[HS.o];simpa using hr3,trivial⟩,Nat.le_trans hz hb2.size⟩,hB.trans hb2⟩
 case done =>
  rintro D ys W hD rfl ⟨⟨⟨v,hv,hrow,_⟩,_⟩,hB⟩ hK
  have hc:=hv.cell
  gi_wp2
  refine⟨by simp,.inl ⟨_,_,rfl,run_takeDeferred hK,?_⟩⟩
  exact⟨_,results_tmp rfl _ _ _,v,rfl,by rw[←A7];exact ownsRow_putObj (gQ hrow (by omega)) _ hK rfl,hB.trans (belowK_b (w:=w) (Nat.le_refl _) W D _ _ (by simp at hD;omega) hK rfl rfl)⟩
 case stop =>
  rintro D c pre W _ _ h _
  exact h.elim
open Go.ChangeShapes Go.WideShapes Go.ChangeAt
def szV (c:Int):Int:=if c=0 then 1 else if c=1 then 2 else if c=2 then 4 else if c=3 then 8 else if c=4 then 16 else 0
def ao (c:Int):Int:=if c=0 then 32 else if c=1 then 16 else if c=2 then 8 else if c=3 then 4 else if c=4 then 2 else 0
def szT (k:Nat):Int:=2 ^ k
theorem nT {k:Nat}(h:k≤4):k=0∨k=1∨k=2∨k=3∨k=4:=by omega
theorem xV {k:Nat}(h:k<8):k=0∨k=1∨k=2∨k=3∨k=4∨k=5∨k=6∨k=7:=by omega
theorem tj {c:Int}(h:c<0∨4<c):szV c=0:=by
 unfold szV
 rw[if_neg (by omega),if_neg (by omega),if_neg (by omega),if_neg (by omega),if_neg (by omega)]
theorem iX {c:Int}(h:c<0∨4<c):ao c=0:=by
 unfold ao
 rw[if_neg (by omega),if_neg (by omega),if_neg (by omega),if_neg (by omega),if_neg (by omega)]
theorem uS {k:Nat}(h:k≤4):1≤szV k∧szV k≤16:=by
 rcases nT h with rfl|rfl|rfl|rfl|rfl<;>decide
theorem kB {k:Nat}(h:k≤4):(32:Int).tdiv (szV k)=ao k∧2≤ao k∧ao k≤32:=by
 rcases nT h with rfl|rfl|rfl|rfl|rfl<;>decide
theorem rz {c:Int}(h:0≤c∧c≤4):ao c=dB c:=by
 obtain⟨k,rfl⟩:∃k:Nat,c=k:=⟨c.toNat,by omega⟩
 rcases nT (show k≤4 by omega) with rfl|rfl|rfl|rfl|rfl<;>decide
theorem uT (c:Int):0≤ao c∧ao c≤32:=by unfold ao; (repeat' split)<;>omega
theorem Je {k:Nat}(h:k<5):szT k=szV k:=by
 rcases nT (show k≤4 by omega) with rfl|rfl|rfl|rfl|rfl<;>rfl
def laidL {H : Type} : List (String × DataW H) := [("assart/class.sizes", Rows.laid_assart_class_sizes)]
theorem gSizes : Tryz.prog.globalNamed "assart/class.sizes" = some 0 := by kernel_rfl
theorem Jf:(Tryz.prog.globals[0]?).map (·.type)=some 28:=by kernel_rfl
theorem Em (os:Os)(args:Array Value):laidMetH Tryz.prog laidL ((World.doorLaid Tryz.prog 400 os).forCall (fun _ _=>0) ⟨#[],args,[]⟩).memory :=
 laidMetH_of_parts3 (fuel:=8) (laidMet_of_run' 8 (by kernel_rfl) (by kernel_rfl)) (by kernel_rfl) (by kernel_rfl)
def uU (W:World):Prop:=∃b o cap,W.cell? ⟨0,0,none⟩=some (.slice (some ⟨b,o,none⟩) 8 cap)∧8≤cap∧b<W.heap.size∧∀i:Nat,i<8→W.cell? ⟨b,o+i,none⟩=some (.int .i64 (szT i))
theorem GQ {W:World}(h:laidMetH Tryz.prog laidL W):uU W:=by
 rw[MakeChecks.laidMetH_plain _ _ _ (by kernel_rfl)] at h
 obtain⟨ps,⟨g0,t0,cs0,f0,p0,q0,hg0,ht0,hv0,hd0,hrest⟩,_,_⟩:=h
 obtain rfl:=Option.some.inj (gSizes.symm.trans hg0)
 obtain rfl:=Option.some.inj (Jf.symm.trans ht0)
 have hcell:=World.var?_cell hg0 hv0 0
 rcases open_ints Tryz.underlying28 Tryz.underlying3 (by kernel_rfl) hd0 with⟨_,hx⟩|⟨⟨b,o,spot⟩,len,cap,zs,hcs,_,hlc,_,hzl,hx,hc,_⟩
 ·simp[Rows.laid_assart_class_sizes] at hx
 simp only[Prod.mk.injEq,Rows.laid_assart_class_sizes,DataW.slice.injEq] at hx
 obtain⟨⟨h1,h2⟩,_⟩:=hx
 have hcap:zs.length=cap:=by simpa using hzl
 have hz:zs.take len= [1,2,4,8,16,32,64,128]:=by
  have inj:∀l:List Int,([.lit (.int .i64 1),.lit (.int .i64 2),.lit (.int .i64 4),.lit (.int .i64 8),.lit (.int .i64 16),.lit (.int .i64 32),.lit (.int .i64 64),.lit (.int .i64 128)]:List (DataW Unit))=lits .i64 l→l= [1,2,4,8,16,32,64,128]:=by
   intro l hl
   match l with
   | []=>simp[lits] at hl
   | [a]=>simp[lits] at hl
   | [a,b]=>simp[lits] at hl
   | [a,b,c]=>simp[lits] at hl
   | [a,b,c,d]=>simp[lits] at hl
   | [a,b,c,d,e]=>simp[lits] at hl
   | [a,b,c,d,e,f]=>simp[lits] at hl
   | [a,b,c,d,e,f,g]=>simp[lits] at hl
   | [a,b,c,d,e,f,g,h]=>simp[lits] at hl;simp;omega
   |a::b::c::d::e::f::g::h::i::r=>simp[lits] at hl
  exact inj _ h1
 have hlen:len=8:=by
  have:=congrArg List.length hz
  simp at this
  omega
 subst hlen
 have hall:∀i:Nat,i<8→zs.getD i 0=szT i:=by
  intro i hi
  have h3:(zs.take 8).getD i 0=([1,2,4,8,16,32,64,128]:List Int).getD i 0:=by rw[hz]
  have h4:(zs.take 8).getD i 0=zs.getD i 0:=by simp[List.getD,List.getElem?_take,hi]
  rw[←h4,h3]
  rcases xV hi with rfl|rfl|rfl|rfl|rfl|rfl|rfl|rfl<;>rfl
 have hlz:8≤zs.length:=by omega
 have hspot:spot=none:=by simpa [Addr.add] using World.cell?_spot (hc 0 (by omega))
 subst hspot
 have hcells:∀i:Nat,i<8→W.cell? ⟨b,o+i,none⟩=some (.int .i64 (szT i)):=fun i hi=>by
  rw[←eV,hc i (by omega),hall i hi]
 refine⟨b,o,cap,?_,by omega,dA (hcells 0 (by omega)),hcells⟩
 rw[hcell]
 have:cs0= #[.slice (some ⟨b,o,none⟩) 8 cap]:=by cases cs0;simpa using hcs
 rw[this];rfl
theorem tl (c:Int)(w:World)(h:uU w):Calls Tryz.prog 116 #[.int .i64 c] w fun e w'=>e=.returned (.int .i64 (szV c))∧w'=w:=by
 by_cases hc:0≤c∧c<5
 ·obtain⟨k,rfl⟩:∃k:Nat,c=k:=⟨c.toNat,by omega⟩
  obtain⟨b,o,cap,h1,h2,h3,h4⟩:=h
  have hk:k<5:=by omega
  have x1:=h4 k (by omega)
  rw[Je hk] at x1
  have d0:decide ((k:Int)<0)=false:=by simp
  have d1:decide ((5:Int)≤(k:Int))=false:=by simp;omega
  have d1b:decide (5≤k)=false:=by simp;omega
  have d2:(k:Int)<8:=by omega
  have d3:k<8:=by omega
  clear h4 hc
  go_enter Tryz.func116,Tryz.ntmps116
  go_wp2_with fail
  go_ret
  exact⟨rfl,rfl⟩
 ·rw[tj (by omega)]
  by_cases c0:c<0
  ·have d0:decide (c<0)=true:=by simp;omega
   go_enter Tryz.func116,Tryz.ntmps116
   go_wp2_with fail
   go_ret
   exact⟨rfl,rfl⟩
  ·have d0:decide (c<0)=false:=by simp;omega
   have d1:decide (5≤c)=true:=by simp;omega
   go_enter Tryz.func116,Tryz.ntmps116
   go_wp2_with fail
   go_ret
   exact⟨rfl,rfl⟩
theorem En (c:Int)(w:World)(h:uU w):Calls Tryz.prog 117 #[.int .i64 c] w fun e w'=>e=.returned (.int .i64 (ao c))∧w'=w:=by
 by_cases hc:0≤c∧c<5
 ·obtain⟨k,rfl⟩:∃k:Nat,c=k:=⟨c.toNat,by omega⟩
  have hk:k≤4:=by omega
  have sb:=uS hk
  obtain⟨s1,s2,s3⟩:=kB hk
  have d2:(szV k==0)=false:=by simp;omega
  have q0:IntKind.i64.wrap ((32:Int).tdiv (szV k))=ao k:=by rw[s1];exact am (by omega) (by omega)
  clear s1 hc
  go_enter Tryz.func117,Tryz.ntmps117
  go_wp2_with fail
  refine(tl _ _ h).mono ?_
  rintro e w1 ⟨rfl,rfl⟩
  go_wp2_with fail
  go_ret
  exact⟨rfl,rfl⟩
 ·have HK:Hq (∀W,uU W→Calls Tryz.prog 116 #[.int .i64 c] W fun e w'=>e=.returned (.int .i64 0)∧w'=W):=fun W hW=>by
   have:=tl c W hW
   rwa [tj (by omega)] at this
  rw[iX (by omega)]
  go_enter Tryz.func117,Tryz.ntmps117
  go_wp2_with fail
  refine(HK.o _ h).mono ?_
  rintro e w1 ⟨rfl,rfl⟩
  go_wp2_with fail
  go_ret
  exact⟨rfl,rfl⟩
open Go.Sort Go.Maps
def jf (b:Nat)(W:World):Prop:=∃o cap,W.cell? ⟨0,0,none⟩=some (.slice (some ⟨b,o,none⟩) 8 cap)∧8≤cap∧b<W.heap.size∧∀i:Nat,i<8→W.cell? ⟨b,o+i,none⟩=some (.int .i64 (szT i))
theorem jf.lt {b:Nat}{w:World}(h:jf b w):b<w.heap.size:=by obtain⟨_,_,_,_,h,_⟩:=h;exact h
theorem jf.lt0 {b:Nat}{w:World}(h:jf b w):0<w.heap.size:=by obtain⟨_,_,h,_⟩:=h;exact dA h
theorem jf.keep {b:Nat}{w w':World}{S:Nat→Prop}(h:jf b w)(t:Turned S w w')(n0:¬S 0)(nb:¬S b):jf b w':=by
 have hc:∀k,¬S k→∀j v,w.cell? ⟨k,j,none⟩=some v→w'.cell? ⟨k,j,none⟩=some v:=fun k nk j v q=>by
  rw[World.cell?_of_block (w:=w) (t.block k (dA q) nk)];exact q
 obtain⟨o,cap,h1,h2,h3,h4⟩:=h
 exact⟨o,cap,hc _ n0 _ _ h1,h2,Nat.lt_of_lt_of_le h3 t.size,fun i hi=>hc _ nb _ _ (h4 i hi)⟩
theorem jf.more {b:Nat}{w w':World}(h:jf b w)(t:ae w w'):jf b w':=h.keep t (fun q=>q) (fun q=>q)
theorem dN (k:Int):0≤ao k∧ao k≤32:=by unfold ao; (repeat' split)<;>omega
def xW (pg st k:Int):Prg Int:=if ao k=0 then aK (-1) else aJ (pK pg st k (ao k).toNat 1) fun x=>if x= -1 then aJ (xL pg st 1 1) fun y=>aJ (td pg st y 1 (k+1)) fun b=>aK (if b then y else -1) else aK x
theorem eK {k:Int}(h:ao k≠0):0≤k∧k≤4:=by unfold ao at h; (repeat' split at h)<;>first|omega|exact absurd rfl h
theorem Ka:W64 1:=by unfold W64;omega
def eA (k b:Int):Int:=ao k-gh b (ao k)
def pP (pg st q k b:Int):Prg Unit:=if eA k b=ao k then aJ (DX pg st q) (fun _=>aK ()) else aJ (eL (bA pg st q) b) fun _=>aJ (eL (cA pg st q) (eA k b)) fun _=>aK ()
def tm (pg st q k was:Int):Prg Unit:=aJ (nQ pg st q k was) fun _=>aJ (dJ (cA pg st q)) fun f=>aJ (te pg st q k f) fun _=>aK ()
theorem IB (b k:Int):0≤gh b (ao k)∧gh b (ao k)≤32∧0≤eA k b∧eA k b≤32:=by
 have h:=Jc (dM b (et (ao k)))
 rw[Ej,oL] at h
 have hs:=dN k
 have he:(et (ao k):Int)=ao k:=by unfold et;omega
 unfold eA
 omega
section
variable {ops:Array Oper}{C:World→Prop}{o':Oper}{a:Act}{x y:Operand}
theorem kC {s len cap j:Nat}(hw:Region.wanted o' (yielded ops a.tmps)=true)(ho:o'.op=.indexAddr 28 x y)(hx:a.eval x=.slice (some ⟨s,0,none⟩) len cap)(hy:a.eval y=.int .i64 (j:Int))(hj:j<len):bx Tryz.prog ops C o' (.pointer (some ⟨s,j,none⟩)) a:=by
 have d1:decide (j<len)=true:=by simp[hj]
 refine .inl ⟨hw,fun W hW=>?_⟩
 unfold execOp
 generalize a.eval=ρ at hx hy⊢
 simp only[ho,hx,hy]
 go_simp
end
def Cfg.us (c:Cfg):Int:=bH c.cp c.pg c.st c.ca c.bi
section
variable {o:Oper}{a:Act}{w:World}{K:Act→World→Prop}{Q:Exit→Act→World→Prop}{ops:Array Oper}{rest:List Oper}{C:World→Prop}
end
abbrev TkA:=Option (Int×Int×Int×Bool)
def tn (pg st q wd x:Int):Prg TkA :=
 if ao (IntKind.i64.wrap (x-1))=0 then aK none else if wd % szV (IntKind.i64.wrap (x-1))≠0 then aK none
 else aJ (dJ (bA pg st q)) fun b=>aK (some (q,IntKind.i64.wrap (x-1),wd / szV (IntKind.i64.wrap (x-1)),cK b (wd / szV (IntKind.i64.wrap (x-1)))))
def xX (us pg st a:Int):Prg TkA:=if us≤a∧a<us+32 * pg then aJ (fK pg st ((a-us) / 32)) fun x=>tn pg st ((a-us) / 32) ((a-us) % 32) x else aK none
theorem mK {us pg a:Int}(h:us≤a∧a<us+32 * pg):af pg ((a-us) / 32)=true∧0≤(a-us) % 32∧(a-us) % 32<32:=⟨ag.2 (by omega),by omega,by omega⟩
theorem rA (b:BitVec 64):W64 b.toInt:=by
 have h1:=BitVec.toInt_lt (x:=b)
 have h2:=BitVec.le_toInt (x:=b)
 unfold W64;omega
theorem GU {b:Int}(h:W64 b)(i:Int):W64 (eQ b i):=by
 unfold eQ;split
 ·exact rA _
 ·exact h
theorem Ba {b:Int}(h:W64 b)(i:Int):W64 (cC b i):=by
 unfold cC;split
 ·exact rA _
 ·exact h
def gU:TkA→Option (Int×Int×Int)
 |some (q,k,i,true)=>some (q,k,i)
 | _=>none
theorem iE {x:TkA}{q k i:Int}(h:gU x=some (q,k,i)):x=some (q,k,i,true):=by
 unfold gU at h
 split at h
 ·cases h;rfl
 ·cases h
def Kb:Option (Int×Int×Int)→Prg (Int×Bool)
 |some (_,k,_)=>aK (k,true)
 |none=>aK (0,false)
def Kc (us pg st k:Int):Prg (Int×Bool):=
 aJ (xW pg st k) fun q=>if q= -1 then aK (0,false) else aJ (dJ (bA pg st q)) fun b =>
  if cO b (ao k)= -1 then aK (0,false) else aJ (dJ (cA pg st q)) fun was =>
   aJ (pP pg st q k (eQ b (cO b (ao k)))) fun _=>aJ (tm pg st q k was) fun _=>aK (us+32 * q+cO b (ao k) * szV k,true)
def uV (pg st q k i:Int):Prg Bool:=aJ (dJ (cA pg st q)) fun was=>aJ (dJ (bA pg st q)) fun b=>aJ (pP pg st q k (cC b i)) fun _=>aJ (tm pg st q k was) fun _=>aK true
def Eo (pg st:Int):Option (Int×Int×Int)→Prg Bool
 |some (q,k,i)=>uV pg st q k i
 |none=>aK false
def Kd (us pg st a:Int):Prg Bool:=aJ (xX us pg st a) fun x=>Eo pg st (gU x)
section
variable {pg st:Int}{n:Nat}(H:cB pg st n)
include H
end
def aj (pg st:Int)(ws:List Int)(p:Int):Int:=if af pg p then wAt ws (kA pg st p) else -1
def aL (pg st:Int)(ws:List Int)(p:Int):Int:=wAt ws (cA pg st p)
def bz (pg st:Int)(ws:List Int)(p:Int):Int:=wAt ws (bA pg st p)
def bD (pg st p k x:Int)(ws:List Int):List Int:=((ws.set (kA pg st p).toNat k).set (cA pg st p).toNat x).set (bA pg st p).toNat 0
def pQ (pg st:Int):Nat→Int→List Int→Bool
 | 0,_,_=>true
 |m+1,q,ws=>decide (aj pg st ws q=0) && pQ pg st m (q+1) ws
def j3 (pg st p n:Int)(ws:List Int):Bool:=aZ pg p n && pQ pg st n.toNat p ws
def cR (pg st k:Int):Nat→Int→List Int→List Int
 | 0,_,ws=>ws
 |m+1,q,ws=>cR pg st k m (q+1) (bD pg st q k 0 ws)
def dP (pg st p n k:Int)(ws:List Int):Bool×List Int:=if qR k n && j3 pg st p n ws then(true,cR pg st 7 (n-1).toNat (p+1) (bD pg st p k (if k=6 then n else 0) (co pg st p n ws).2)) else(false,ws)
def dX (pg st p:Int)(ws:List Int):Int:=if lz (aj pg st ws p) then 1 else if aj pg st ws p=6 then max 1 (min (aL pg st ws p) (pg-p)) else 0
def dQ (pg st p:Int)(ws:List Int):Int×List Int:=(dX pg st p ws,cR pg st 0 (dX pg st p ws).toNat p ws)
def jg (pg st:Int):Nat→Int→List Int→Int
 | 0,p,_=>p
 |m+1,p,ws=>if aj pg st ws p=7 then jg pg st m (p-1) ws else p
def lZ (pg st p:Int)(ws:List Int):Int:=if aj pg st ws (jg pg st (p+2).toNat p ws)=0∨aj pg st ws (jg pg st (p+2).toNat p ws)= -1 then -1 else jg pg st (p+2).toNat p ws
def dW (pg st:Int)(ws:List Int)(q:Int):Bool:=aG pg st ws (ofV q) && decide (aj pg st ws q=0)
def fH (pg st:Int)(ws:List Int)(q:Int):Bool:=decide (aj pg st ws q=0)
def lJ (f:Int→Bool):Nat→Int→Option Int
 | 0,_=>none
 |m+1,q=>if f q then lJ f m (q+1) else some q
def mL (f:Int→Bool)(pg n step:Int):Nat→Int→Int
 | 0,_=> -1
 |m+1,p=>if p≤pg-n then(match lJ f n.toNat p with|none=>p|some q=>mL f pg n step m ((q / step+1) * step)) else -1
def cj (f:Int→Bool)(pg n step:Int):Int:=mL f pg n step (pg.toNat+1) 0
def dD (pg st n step:Int)(ws:List Int):Int:=if 1≤n∧1≤step then(if cj (dW pg st ws) pg n step= -1 then cj (fH pg st ws) pg n step else cj (dW pg st ws) pg n step) else -1
section
variable {pg st:Int}{n:Nat}(H:PgIn pg st n)
include H
theorem jh (p:Int):bO n (fK pg st p) (fun ws=>(aj pg st ws p,ws)):=by
 unfold fK aj
 cases h:af pg p with
 |true=>exact bg (cV (by have:=(cG H h).1.1;omega) (cG H h).1.2.1) (fun ws _=>by simp)
 |false=>exact bg (az n (-1)) (fun ws _=>by simp)
theorem uW {p:Int}(h:af pg p=true){k x:Int}(hk:W64 k)(hx:W64 x):bO n (DT pg st p k x) (fun ws=>((),bD pg st p k x ws)):=by
 obtain⟨⟨a0,a1,a2⟩,⟨b0,b1,b2⟩,c0,c1,c2⟩:=cG H h
 exact aE (cM (by omega) a1 a2 hk) (fun _=>aE (cM (by omega) b1 b2 hx) (fun _=>cM (by omega) c1 c2 (by unfold W64;omega)))
theorem Bb (m:Nat):∀q,bO n (DU pg st m q) (fun ws=>(pQ pg st m q ws,ws)):=by
 induction m with
 |zero=>intro q;exact az n true
 |succ m ih =>
  intro q
  refine bg (aE (jh H q) (fun k=>bU (fun _=>ih (q+1)) (fun _=>az n false))) (fun ws _=>?_)
  show _=(decide (aj pg st ws q=0) && pQ pg st m (q+1) ws,ws)
  by_cases e:aj pg st ws q=0<;>simp[e]
theorem Ep (p m:Int):bO n (DV pg st p m) (fun ws=>(j3 pg st p m ws,ws)):=by
 refine bg (bU (fun _=>Bb H m.toNat p) (fun _=>az n false)) (fun ws _=>?_)
 unfold j3
 cases aZ pg p m<;>simp
theorem rB {k:Int}(hk:W64 k)(m:Nat):∀q,(∀i:Nat,i<m→af pg (q+i)=true)→bO n (zm pg st k m q) (fun ws=>((),cR pg st k m q ws)):=by
 induction m with
 |zero=>intro q _;exact az n ()
 |succ m ih =>
  intro q h
  exact aE (uW H (by simpa using h 0 (by omega)) hk (by unfold W64;omega)) (fun _=>ih _ (fun i hi=>by have:=h (i+1) (by omega);rwa [show q+((i+1:Nat):Int)=q+1+(i:Int) by omega] at this))
theorem rC (p m k:Int)(hk:W64 k)(hm:W64 m):bO n (td pg st p m k) (dP pg st p m k):=by
 unfold td
 have hx:W64 (if k=6 then m else 0):=by
  split
  ·exact hm
  ·unfold W64;omega
 cases h:aZ pg p m with
 |false =>
  unfold DV
  rw[h]
  have z:bO n (aK false) (dP pg st p m k):=bg (az n false) (fun ws _=>by
   unfold dP j3
   rw[h]
   simp)
  by_cases hf:qR k m=true
  ·rw[if_pos hf];exact z
  ·rw[if_neg hf];exact z
 |true =>
  obtain⟨q0,q1,q2⟩:=bo.1 h
  refine bg (bU (fun _=>aE (Ep H p m) (fun b=>bU (fun _=>aE (uM H.toTblIn p m) (fun _=>aE (uW H (ag.2 ⟨by omega,by omega⟩) hk hx) (fun _=>aE (rB H (by unfold W64;omega) (m-1).toNat (p+1) (fun i hi=>ag.2 ⟨by omega,by omega⟩)) (fun _=>az n true)))) (fun _=>az n false))) (fun _=>az n false)) (fun ws _=>?_)
  unfold dP
  by_cases hf:qR k m=true<;>by_cases hv:j3 pg st p m ws=true<;>simp[hf,hv]
theorem Er (p:Int):bO n (DW pg st p) (fun ws=>(dX pg st p ws,ws)):=by
 cases h:af pg p with
 |true =>
  obtain⟨_,⟨b0,b1,_⟩,_⟩:=cG H h
  refine bg (aE (jh H p) (fun k=>bU (fun _=>az n 1) (fun _=>bU (fun _=>aE (cV (a:=cA pg st p) (by omega) b1) (fun x=>az n (max 1 (min x (pg-p))))) (fun _=>az n 0)))) (fun ws _=>?_)
  unfold dX aL
  by_cases e:lz (aj pg st ws p)=true
  ·simp only[if_pos e]
  ·by_cases e2:aj pg st ws p=6
   ·simp only[if_neg e,if_pos e2]
   ·simp only[if_neg e,if_neg e2]
 |false =>
  unfold DW fK
  rw[h]
  refine bg (az n (0:Int)) (fun ws _=>?_)
  unfold dX aj
  rw[h];rfl
theorem Es (p:Int)(ws:List Int):dX pg st p ws=0∨af pg p=true∧1≤dX pg st p ws∧dX pg st p ws≤pg-p:=by
 cases h:af pg p with
 |true =>
  have:=ag.1 h
  unfold dX
  by_cases e:lz (aj pg st ws p)=true
  ·rw[if_pos e];exact .inr ⟨rfl,by omega,by omega⟩
  ·by_cases e2:aj pg st ws p=6
   ·rw[if_neg e,if_pos e2];exact .inr ⟨rfl,by omega,by omega⟩
   ·rw[if_neg e,if_neg e2];exact .inl rfl
 |false =>
  refine .inl ?_
  unfold dX aj
  rw[h];rfl
theorem rD (p:Int):bO n (DX pg st p) (dQ pg st p):=
 bg (fN (Q:=fun x:Int=>x=0∨af pg p=true∧1≤x∧x≤pg-p) (Er H p) (fun ws _=>Es H p ws) (fun x hx=>aE (rB H (by unfold W64;omega) x.toNat p (fun i hi=>by
  rcases hx with rfl|⟨h,h1,h2⟩
  ·simp at hi
  ·have:=ag.1 h;exact ag.2 ⟨by omega,by omega⟩)) (fun _=>az n x))) (fun ws _=>rfl)
theorem rE (q:Int):bO n (xI pg st q) (fun ws=>(fH pg st ws q,ws)):=aE (jh H q) (fun k=>az n (decide (k=0)))
theorem Bc (q:Int):bO n (DY pg st q) (fun ws=>(dW pg st ws q,ws)):=by
 refine bg (aE (kj H.toTblIn (ofV q)) (fun b=>bU (fun _=>rE H q) (fun _=>az n false))) (fun ws _=>?_)
 unfold dW fH
 by_cases e:aG pg st ws (ofV q)=true<;>simp[e]
theorem xY {f:Int→Prg Bool}{g:List Int→Int→Bool}(hf:∀q,bO n (f q) (fun ws=>(g ws q,ws)))(m:Nat):∀q,bO n (xJ f m q) (fun ws=>(lJ (g ws) m q,ws)):=by
 induction m with
 |zero=>intro q;exact az n none
 |succ m ih =>
  intro q
  refine bg (aE (hf q) (fun b=>bU (fun _=>ih (q+1)) (fun _=>az n (some q)))) (fun ws _=>?_)
  show _=((if g ws q then lJ (g ws) m (q+1) else some q),ws)
  by_cases e:g ws q=true<;>simp[e]
theorem pR {f:Int→Prg Bool}{g:List Int→Int→Bool}(hf:∀q,bO n (f q) (fun ws=>(g ws q,ws)))(m step:Int)(j:Nat):∀p,bO n (xK f pg m step j p) (fun ws=>(mL (g ws) pg m step j p,ws)):=by
 induction j with
 |zero=>intro p;exact az n (-1)
 |succ j ih =>
  intro p
  refine bg (bU (fun _=>aE (xY H hf m.toNat p) (fun r=>(?_:bO n _ (fun ws=>((match r with|none=>p|some q=>mL (g ws) pg m step j ((q / step+1) * step)),ws))))) (fun _=>az n (-1))) (fun ws _=>?_)
  ·cases r with
   |none=>exact az n p
   |some q=>exact ih _
  ·show _=((if p≤pg-m then(match lJ (g ws) m.toNat p with|none=>p|some q=>mL (g ws) pg m step j ((q / step+1) * step)) else -1),ws)
   by_cases e:p≤pg-m<;>simp[e]
theorem Bd (m step:Int):bO n (xL pg st m step) (fun ws=>(dD pg st m step ws,ws)):=by
 refine bg (bU (fun _=>aE (pR H (Bc H) m step (pg.toNat+1) 0) (fun p=>bU (fun _=>pR H (rE H) m step (pg.toNat+1) 0) (fun _=>az n p))) (fun _=>az n (-1))) (fun ws _=>?_)
 unfold dD cj
 by_cases e:1≤m∧1≤step
 ·simp only[if_pos e]
  by_cases e2:mL (dW pg st ws) pg m step (pg.toNat+1) 0= -1
  ·simp only[if_pos e2]
  ·simp only[if_neg e2]
 ·simp only[if_neg e]
end
theorem fI {pg st:Int}{ws:List Int}{p:Int}(h:af pg p=true):aj pg st ws p=wAt ws (kA pg st p):=by unfold aj;rw[h];rfl
theorem dE {pg st:Int}{ws:List Int}{p:Int}(h:af pg p=false):aj pg st ws p= -1:=by unfold aj;rw[h];rfl
theorem fJ {pg st:Int}{ws:List Int}{p:Int}(h:aj pg st ws p≠ -1):0≤p∧p<pg:=by
 cases e:af pg p with
 |true=>exact ag.1 e
 |false=>exact absurd (dE e) h
section
variable {pg st:Int}{n:Nat}(H:PgIn pg st n)
include H
theorem bJ (p k x:Int)(ws:List Int):(bD pg st p k x ws).length=ws.length:=by simp[bD]
theorem dt {p:Int}(h:af pg p=true)(k x:Int){ws:List Int}(hn:ws.length=n){i:Int}(hi:0≤i):wAt (bD pg st p k x ws) i=if i=bA pg st p then 0 else if i=cA pg st p then x else if i=kA pg st p then k else wAt ws i:=by
 obtain⟨⟨a0,a1,a2⟩,⟨b0,b1,b2⟩,c0,c1,c2⟩:=cG H h
 unfold bD
 rw[bL (by omega) hi (by simp[hn];exact c1),bL (by omega) hi (by simp[hn];exact b1),bL (by omega) hi (by rw[hn];exact a1)]
theorem kD {k p:Int}(hk:aU pg k=true)(h:af pg p=true):cI pg st k≠kA pg st p∧cI pg st k≠cA pg st p∧cI pg st k≠bA pg st p:=by
 have:=bT.1 hk;have:=ag.1 h;have:=H.pg1
 rw[i7 hk];unfold kA cA bA;omega
theorem k7 {p:Int}(h:af pg p=true)(k x:Int){ws:List Int}(hn:ws.length=n)(q:Int):aj pg st (bD pg st p k x ws) q=if q=p then k else aj pg st ws q:=by
 cases hq:af pg q with
 |false =>
  rw[dE hq,dE hq,if_neg (by rintro rfl;rw[h] at hq;cases hq)]
 |true =>
  have h0:=(cG H hq).1.1
  have:=ag.1 h;have:=ag.1 hq
  rw[fI hq,fI hq,dt H h k x hn (by omega),if_neg (by unfold kA bA;omega),if_neg (by unfold kA cA;omega)]
  by_cases e:q=p
  ·rw[if_pos e,if_pos (by rw[e])]
  ·rw[if_neg e,if_neg (by unfold kA;omega)]
theorem kE {p:Int}(h:af pg p=true)(k x:Int){ws:List Int}(hn:ws.length=n){q:Int}(hq:af pg q=true):aL pg st (bD pg st p k x ws) q=if q=p then x else aL pg st ws q:=by
 have h0:=(cG H hq).2.1.1
 have:=ag.1 h;have:=ag.1 hq
 unfold aL
 rw[dt H h k x hn (by omega),if_neg (by unfold cA bA;omega)]
 by_cases e:q=p
 ·rw[if_pos e,if_pos (by rw[e])]
 ·rw[if_neg e,if_neg (by unfold cA;omega),if_neg (by unfold cA kA;omega)]
theorem mM {p:Int}(h:af pg p=true)(k x:Int){ws:List Int}(hn:ws.length=n){q:Int}(hq:af pg q=true):bz pg st (bD pg st p k x ws) q=if q=p then 0 else bz pg st ws q:=by
 have h0:=(cG H hq).2.2.1
 have:=ag.1 h;have:=ag.1 hq
 unfold bz
 rw[dt H h k x hn (by omega)]
 by_cases e:q=p
 ·rw[if_pos e,if_pos (by rw[e])]
 ·rw[if_neg e,if_neg (by unfold bA;omega),if_neg (by unfold cA bA;omega),if_neg (by unfold bA kA;omega)]
theorem pS {p:Int}(h:af pg p=true)(k x:Int){ws:List Int}(hn:ws.length=n)(j:Int):aG pg st (bD pg st p k x ws) j=aG pg st ws j:=by
 unfold aG
 cases hj:aU pg j with
 |false=>rfl
 |true =>
  have h0:=(jZ H.toTblIn hj).1
  obtain⟨t0,t1,t2⟩:=kD H hj h
  rw[dt H h k x hn (by omega),if_neg t2,if_neg t1,if_neg t0]
theorem mN (k:Int)(m:Nat):∀(q:Int) (ws:List Int),(cR pg st k m q ws).length=ws.length:=by
 induction m with
 |zero=>intro q ws;rfl
 |succ m ih=>intro q ws;show(cR pg st k m (q+1) _).length=_;rw[ih,bJ H]
theorem gB {m:Nat}{q:Int}(h:∀i:Nat,i<m+1→af pg (q+i)=true):af pg q=true∧∀i:Nat,i<m→af pg (q+1+i)=true :=
 ⟨by simpa using h 0 (by omega),fun i hi=>by have:=h (i+1) (by omega);rwa [show q+((i+1:Nat):Int)=q+1+(i:Int) by omega] at this⟩
theorem nU (k:Int)(m:Nat):∀(q:Int) (ws:List Int),ws.length=n→(∀i:Nat,i<m→af pg (q+i)=true)→∀p,aj pg st (cR pg st k m q ws) p=if q≤p∧p<q+m then k else aj pg st ws p:=by
 induction m with
 |zero=>intro q ws _ _ p;rw[if_neg (by omega)];rfl
 |succ m ih =>
  intro q ws hn h p
  obtain⟨h0,h1⟩:=gB H h
  show aj pg st (cR pg st k m (q+1) (bD pg st q k 0 ws)) p=_
  rw[ih _ _ (by rw[bJ H];exact hn) h1,k7 H h0 k 0 hn]
  by_cases e:p=q
  ·rw[if_neg (by omega),if_pos e,if_pos (by omega)]
  ·rw[if_neg e]
   by_cases e2:q+1≤p∧p<q+1+(m:Int)
   ·rw[if_pos e2,if_pos (by omega)]
   ·rw[if_neg e2,if_neg (by omega)]
theorem uX (k:Int)(m:Nat):∀(q:Int) (ws:List Int),ws.length=n→(∀i:Nat,i<m→af pg (q+i)=true)→∀p,af pg p=true→aL pg st (cR pg st k m q ws) p=if q≤p∧p<q+m then 0 else aL pg st ws p:=by
 induction m with
 |zero=>intro q ws _ _ p _;rw[if_neg (by omega)];rfl
 |succ m ih =>
  intro q ws hn h p hp
  obtain⟨h0,h1⟩:=gB H h
  show aL pg st (cR pg st k m (q+1) (bD pg st q k 0 ws)) p=_
  rw[ih _ _ (by rw[bJ H];exact hn) h1 p hp,kE H h0 k 0 hn hp]
  by_cases e:p=q
  ·rw[if_neg (by omega),if_pos e,if_pos (by omega)]
  ·rw[if_neg e]
   by_cases e2:q+1≤p∧p<q+1+(m:Int)
   ·rw[if_pos e2,if_pos (by omega)]
   ·rw[if_neg e2,if_neg (by omega)]
theorem uY (k:Int)(m:Nat):∀(q:Int) (ws:List Int),ws.length=n→(∀i:Nat,i<m→af pg (q+i)=true)→∀p,af pg p=true→bz pg st (cR pg st k m q ws) p=if q≤p∧p<q+m then 0 else bz pg st ws p:=by
 induction m with
 |zero=>intro q ws _ _ p _;rw[if_neg (by omega)];rfl
 |succ m ih =>
  intro q ws hn h p hp
  obtain⟨h0,h1⟩:=gB H h
  show bz pg st (cR pg st k m (q+1) (bD pg st q k 0 ws)) p=_
  rw[ih _ _ (by rw[bJ H];exact hn) h1 p hp,mM H h0 k 0 hn hp]
  by_cases e:p=q
  ·rw[if_neg (by omega),if_pos e,if_pos (by omega)]
  ·rw[if_neg e]
   by_cases e2:q+1≤p∧p<q+1+(m:Int)
   ·rw[if_pos e2,if_pos (by omega)]
   ·rw[if_neg e2,if_neg (by omega)]
theorem uZ (k:Int)(m:Nat):∀(q:Int) (ws:List Int),ws.length=n→(∀i:Nat,i<m→af pg (q+i)=true)→∀j,aG pg st (cR pg st k m q ws) j=aG pg st ws j:=by
 induction m with
 |zero=>intro q ws _ _ j;rfl
 |succ m ih =>
  intro q ws hn h j
  obtain⟨h0,h1⟩:=gB H h
  show aG pg st (cR pg st k m (q+1) (bD pg st q k 0 ws)) j=_
  rw[ih _ _ (by rw[bJ H];exact hn) h1 j,pS H h0 k 0 hn]
theorem vd (k:Int)(m:Nat):∀(q:Int) (ws:List Int),ws.length=n→(∀i:Nat,i<m→af pg (q+i)=true)→∀i,0≤i→(∀p,af pg p=true→i≠kA pg st p∧i≠cA pg st p∧i≠bA pg st p)→wAt (cR pg st k m q ws) i=wAt ws i:=by
 induction m with
 |zero=>intro q ws _ _ i _ _;rfl
 |succ m ih =>
  intro q ws hn h i hi ho
  obtain⟨h0,h1⟩:=gB H h
  obtain⟨o1,o2,o3⟩:=ho q h0
  show wAt (cR pg st k m (q+1) (bD pg st q k 0 ws)) i=_
  rw[ih _ _ (by rw[bJ H];exact hn) h1 i hi ho,dt H h0 k 0 hn hi,if_neg o3,if_neg o2,if_neg o1]
end
structure Tab (pg st:Int)(ws ws':List Int):Prop where
 len:ws'.length=ws.length
 off:∀i:Int,0≤i→(∀k,aU pg k=true→i≠cI pg st k)→wAt ws' i=wAt ws i
section
variable {pg st:Int}{n:Nat}(H:PgIn pg st n)
include H
theorem Tab.kind {ws ws':List Int}(h:Tab pg st ws ws')(p:Int):aj pg st ws' p=aj pg st ws p:=by
 cases hp:af pg p with
 |false=>rw[dE hp,dE hp]
 |true=>rw[fI hp,fI hp,h.off _ (by have:=(cG H hp).1.1;omega) (fun k hk e=>(kD H hk hp).1 e.symm)]
theorem Tab.cnt {ws ws':List Int}(h:Tab pg st ws ws'){p:Int}(hp:af pg p=true):aL pg st ws' p=aL pg st ws p :=
 h.off _ (by have:=(cG H hp).2.1.1;omega) (fun k hk e=>(kD H hk hp).2.1 e.symm)
theorem Tab.bit {ws ws':List Int}(h:Tab pg st ws ws'){p:Int}(hp:af pg p=true):bz pg st ws' p=bz pg st ws p :=
 h.off _ (by have:=(cG H hp).2.2.1;omega) (fun k hk e=>(kD H hk hp).2.2 e.symm)
theorem pT {x y:Int}(ht:aZ pg x y=true){ws:List Int}(hn:ws.length=n):oT ws (co pg st x y ws).2 (fun i=>∃j:Nat,j<spanV x y∧i=cI pg st (x / 4+j)):=by
 have h2:=oJ H.toTblIn (spanV x y) (x / 4) 0 ws ws (fun _=>False) hn (nO ws _ (fun _ q=>q)) (fun i hi=>o9 ht i hi)
 unfold co
 rw[if_pos ht]
 exact⟨h2.len,fun i h0=>⟨fun q=>(h2.eq i h0).1 (.inr q),fun q=>(h2.eq i h0).2 (by rintro(r|r);exact r;exact q r)⟩⟩
theorem zu {x y:Int}(ht:aZ pg x y=true){ws:List Int}(hn:ws.length=n):Tab pg st ws (co pg st x y ws).2 :=
 ⟨(pT H ht hn).len,fun i h0 ho=>((pT H ht hn).eq i h0).2 (by rintro⟨j,hj,e⟩;exact ho _ (o9 ht j hj) e)⟩
theorem GW {x y:Int}(ht:aZ pg x y=true){ws:List Int}(hn:ws.length=n){j:Int}(hj:aU pg j=true):aG pg st (co pg st x y ws).2 j=(aG pg st ws j ||(decide (x / 4≤j) && decide (j≤(x+y-1) / 4))):=by
 have h:=pT H ht hn
 obtain⟨t0,t1,t2⟩:=jZ H.toTblIn hj
 obtain⟨s1,s2⟩:=xt ht H.pg2
 unfold aG
 rw[hj]
 by_cases e:x / 4≤j∧j≤(x+y-1) / 4
 ·rw[(h.eq _ (by omega)).1 ⟨(j-x / 4).toNat,by omega,by congr 1;omega⟩]
  simp[e]
 ·rw[(h.eq _ (by omega)).2 (by
   rintro⟨i,hi,q⟩
   have hc:=o9 ht i hi
   rw[i7 hj,i7 hc] at q
   omega)]
  by_cases e1:x / 4≤j
  ·have:¬j≤(x+y-1) / 4:=fun q=>e ⟨e1,q⟩
   simp[this]
  ·simp[e1]
end
structure Wf (pg st:Int)(ws:List Int):Prop where
 b:∀p,af pg p=true→0≤aj pg st ws p∧aj pg st ws p≤7
 rest:∀p,aj pg st ws p=7→aj pg st ws (p-1)=6∨aj pg st ws (p-1)=7
 run:∀p,aj pg st ws p=6→1≤aL pg st ws p∧aL pg st ws p≤pg-p∧(∀i,p<i→i<p+aL pg st ws p→aj pg st ws i=7)∧aj pg st ws (p+aL pg st ws p)≠7
 free:∀p,aj pg st ws p=0→aL pg st ws p=0∧bz pg st ws p=0
 map:∀p,af pg p=true→aj pg st ws p≠0→aG pg st ws (p / 4)=true
theorem Be (pg st:Int)(ws:List Int)(m:Nat):∀q:Int,pQ pg st m q ws=true↔∀i:Int,q≤i→i<q+m→aj pg st ws i=0:=by
 induction m with
 |zero=>intro q;simp only[pQ,true_iff];intro i h0 h1;omega
 |succ m ih =>
  intro q
  show(decide (aj pg st ws q=0) && pQ pg st m (q+1) ws)=true↔_
  rw[Bool.and_eq_true,decide_eq_true_eq,ih]
  constructor
  ·rintro⟨h0,h1⟩ i a0 a1
   by_cases e:i=q
   ·rw[e];exact h0
   ·exact h1 i (by omega) (by omega)
  ·intro h
   exact⟨h q (by omega) (by omega),fun i a0 a1=>h i (by omega) (by omega)⟩
theorem fa {pg st p n:Int}{ws:List Int} :j3 pg st p n ws=true↔aZ pg p n=true∧∀i:Int,p≤i→i<p+n→aj pg st ws i=0:=by
 unfold j3
 rw[Bool.and_eq_true,Be]
 constructor
 ·rintro⟨h0,h1⟩
  obtain⟨a,b,c⟩:=bo.1 h0
  exact⟨h0,fun i a0 a1=>h1 i a0 (by omega)⟩
 ·rintro⟨h0,h1⟩
  exact⟨h0,fun i a0 a1=>h1 i a0 (by obtain⟨a,b,c⟩:=bo.1 h0;omega)⟩
theorem pU {pg p:Int}(h:af pg p=true):aU pg (p / 4)=true:=by
 have:=ag.1 h
 rw[bT];unfold aD;omega
section
variable {pg st:Int}{n:Nat}(H:PgIn pg st n)
include H
structure Bf (pg st p m k:Int)(ws ws':List Int):Prop where
 len:ws'.length=ws.length
 kind:∀q,aj pg st ws' q=if q=p then k else if p<q∧q<p+m then 7 else aj pg st ws q
 cnt:∀q,af pg q=true→aL pg st ws' q=if q=p then(if k=6 then m else 0) else if p<q∧q<p+m then 0 else aL pg st ws q
 bit:∀q,af pg q=true→bz pg st ws' q=if p≤q∧q<p+m then 0 else bz pg st ws q
 map:∀j,aU pg j=true→aG pg st ws' j=(aG pg st ws j ||(decide (p / 4≤j) && decide (j≤(p+m-1) / 4)))
 off:∀i:Int,0≤i→(∀p,af pg p=true→i≠kA pg st p∧i≠cA pg st p∧i≠bA pg st p)→(∀k,aU pg k=true→i≠cI pg st k)→wAt ws' i=wAt ws i
theorem rF {p m k:Int}{ws:List Int}(hn:ws.length=n)(ht:aZ pg p m=true):Bf pg st p m k ws (cR pg st 7 (m-1).toNat (p+1) (bD pg st p k (if k=6 then m else 0) (co pg st p m ws).2)):=by
 obtain⟨t0,t1,t2⟩:=bo.1 ht
 have T:=zu H ht hn
 have hE:(co pg st p m ws).2.length=n:=T.len.trans hn
 have hp:af pg p=true:=ag.2 ⟨by omega,by omega⟩
 have hP:(bD pg st p k (if k=6 then m else 0) (co pg st p m ws).2).length=n:=by rw[bJ H];exact hE
 have hr:∀i:Nat,i<(m-1).toNat→af pg (p+1+i)=true:=fun i hi=>ag.2 ⟨by omega,by omega⟩
 have hc:(((m-1).toNat:Nat):Int)=m-1:=by omega
 refine⟨by rw[mN H,bJ H,T.len],fun q=>?_,fun q hq=>?_,fun q hq=>?_,fun j hj=>?_,fun i h0 o1 o2=>?_⟩
 ·rw[nU H _ _ _ _ hP hr,k7 H hp _ _ hE,T.kind H,hc]
  by_cases e:q=p
  ·rw[if_neg (by omega),if_pos e,if_pos e]
  ·rw[if_neg e,if_neg e]
   by_cases e2:p<q∧q<p+m
   ·rw[if_pos (by omega),if_pos e2]
   ·rw[if_neg (by omega),if_neg e2]
 ·rw[uX H _ _ _ _ hP hr q hq,kE H hp _ _ hE hq,T.cnt H hq,hc]
  by_cases e:q=p
  ·rw[if_neg (by omega),if_pos e,if_pos e]
  ·rw[if_neg e,if_neg e]
   by_cases e2:p<q∧q<p+m
   ·rw[if_pos (by omega),if_pos e2]
   ·rw[if_neg (by omega),if_neg e2]
 ·rw[uY H _ _ _ _ hP hr q hq,mM H hp _ _ hE hq,T.bit H hq,hc]
  by_cases e:q=p
  ·rw[if_neg (by omega),if_pos e,if_pos (by omega)]
  ·rw[if_neg e]
   by_cases e2:p<q∧q<p+m
   ·rw[if_pos (by omega),if_pos (by omega)]
   ·rw[if_neg (by omega),if_neg (by omega)]
 ·rw[uZ H _ _ _ _ hP hr,pS H hp _ _ hE,GW H ht hn hj]
 ·obtain⟨o3,o4,o5⟩:=o1 p hp
  rw[vd H _ _ _ _ hP hr i h0 o1,dt H hp _ _ hE h0,if_neg o5,if_neg o4,if_neg o3,T.off i h0 o2]
theorem GX {p m k:Int}{ws ws':List Int}(w:Wf pg st ws)(hv:j3 pg st p m ws=true)(hf:qR k m=true)(T:Bf pg st p m k ws ws'):Wf pg st ws':=by
 obtain⟨ht,h0⟩:=fa.1 hv
 obtain⟨t0,t1,t2⟩:=bo.1 ht
 have hk:=mH.1 hf
 have hout:∀q,q≠p→¬(p<q∧q<p+m)→aj pg st ws' q=aj pg st ws q:=fun q a b=>by rw[T.kind,if_neg a,if_neg b]
 have hin:∀q,p<q→q<p+m→aj pg st ws' q=7:=fun q a b=>by rw[T.kind,if_neg (by omega),if_pos ⟨a,b⟩]
 have hpp:aj pg st ws' p=k:=by rw[T.kind,if_pos rfl]
 refine⟨fun q hq=>?_,fun q hq=>?_,fun q hq=>?_,fun q hq=>?_,fun q hq hne=>?_⟩
 ·rw[T.kind]
  split
  ·omega
  ·split
   ·omega
   ·exact w.b q hq
 ·by_cases e:q=p
  ·rw[e,hpp] at hq;omega
  ·by_cases e2:p<q∧q<p+m
   ·by_cases e3:q-1=p
    ·rw[e3,hpp];omega
    ·exact .inr (hin _ (by omega) (by omega))
   ·rw[hout q e e2] at hq
    have:=w.rest q hq
    have hz:¬(p≤q-1∧q-1<p+m):=fun z=>by have:=h0 (q-1) z.1 z.2;omega
    rw[hout (q-1) (by omega) (by omega)]
    exact this
 ·by_cases e:q=p
  ·subst e
   rw[hpp] at hq
   have hc:aL pg st ws' q=m:=by rw[T.cnt q (ag.2 ⟨by omega,by omega⟩),if_pos rfl,if_pos hq]
   rw[hc]
   refine⟨t1,t2,fun i a b=>hin i a b,fun z=>?_⟩
   rw[hout _ (by omega) (by omega)] at z
   have:=w.rest _ z
   have:=h0 (q+m-1) (by omega) (by omega)
   omega
  ·by_cases e2:p<q∧q<p+m
   ·rw[hin q e2.1 e2.2] at hq;omega
   ·rw[hout q e e2] at hq
    obtain⟨r0,r1,r2,r3⟩:=w.run q hq
    have hpg:=fJ (pg:=pg) (st:=st) (ws:=ws) (p:=q) (by omega)
    have hc:aL pg st ws' q=aL pg st ws q:=by rw[T.cnt q (ag.2 hpg),if_neg e,if_neg e2]
    rw[hc]
    have hlow:q<p→q+aL pg st ws q≤p:=fun a=>by
     rcases Int.lt_or_le p (q+aL pg st ws q) with b|b
     ·have:=r2 p a b
      have:=h0 p (by omega) (by omega)
      omega
     ·exact b
    refine⟨r0,r1,fun i a b=>?_,fun z=>r3 ?_⟩
    ·rw[hout i (by omega) (by omega)];exact r2 i a b
    ·by_cases e3:q+aL pg st ws q=p
     ·rw[e3,hpp] at z;omega
     ·rwa [hout _ e3 (by omega)] at z
 ·by_cases e:q=p
  ·rw[e,hpp] at hq;omega
  ·by_cases e2:p<q∧q<p+m
   ·rw[hin q e2.1 e2.2] at hq;omega
   ·rw[hout q e e2] at hq
    have hpg:=ag.2 (fJ (pg:=pg) (st:=st) (ws:=ws) (p:=q) (by omega))
    rw[T.cnt q hpg,T.bit q hpg,if_neg e,if_neg e2,if_neg (by omega)]
    exact w.free q hq
 ·rw[T.map _ (pU hq)]
  by_cases e:p≤q∧q<p+m
  ·have e1:p / 4≤q / 4:=by omega
   have e2:q / 4≤(p+m-1) / 4:=by omega
   simp[e1,e2]
  ·rw[hout q (by omega) (by omega)] at hne
   rw[w.map q hq hne];rfl
structure GY (pg st p m:Int)(ws ws':List Int):Prop where
 len:ws'.length=ws.length
 kind:∀q,aj pg st ws' q=if p≤q∧q<p+m then 0 else aj pg st ws q
 cnt:∀q,af pg q=true→aL pg st ws' q=if p≤q∧q<p+m then 0 else aL pg st ws q
 bit:∀q,af pg q=true→bz pg st ws' q=if p≤q∧q<p+m then 0 else bz pg st ws q
 map:∀j,aG pg st ws' j=aG pg st ws j
 off:∀i:Int,0≤i→(∀p,af pg p=true→i≠kA pg st p∧i≠cA pg st p∧i≠bA pg st p)→wAt ws' i=wAt ws i
theorem Bg (p:Int){ws:List Int}(hn:ws.length=n):GY pg st p (dX pg st p ws) ws (dQ pg st p ws).2:=by
 have hb:=Es H p ws
 have hc:(((dX pg st p ws).toNat:Nat):Int)=dX pg st p ws:=by omega
 have hr:∀i:Nat,i<(dX pg st p ws).toNat→af pg (p+i)=true:=fun i hi=>by
  rcases hb with h|⟨h,h1,h2⟩
  ·omega
  ·have:=ag.1 h;exact ag.2 ⟨by omega,by omega⟩
 exact⟨mN H _ _ _ _,fun q=>by have:=nU H 0 _ p ws hn hr q;rwa [hc] at this,fun q hq=>by have:=uX H 0 _ p ws hn hr q hq;rwa [hc] at this,fun q hq=>by have:=uY H 0 _ p ws hn hr q hq;rwa [hc] at this,fun j=>uZ H 0 _ p ws hn hr j,fun i h0 ho=>vd H 0 _ p ws hn hr i h0 ho⟩
theorem GZ {p:Int}{ws ws':List Int}(w:Wf pg st ws)(T:GY pg st p (dX pg st p ws) ws ws'):Wf pg st ws':=by
 have hb:=Es H p ws
 have hcase:dX pg st p ws=0∨(0≤p∧p<pg∧((1≤aj pg st ws p∧aj pg st ws p≤5∧dX pg st p ws=1)∨(aj pg st ws p=6∧dX pg st p ws=aL pg st ws p))):=by
  unfold dX
  by_cases e:lz (aj pg st ws p)=true
  ·have:=ta.1 e
   have:=fJ (pg:=pg) (st:=st) (ws:=ws) (p:=p) (by omega)
   rw[if_pos e];omega
  ·by_cases e2:aj pg st ws p=6
   ·have:=fJ (pg:=pg) (st:=st) (ws:=ws) (p:=p) (by omega)
    have:=w.run p e2
    rw[if_neg e,if_pos e2];omega
   ·rw[if_neg e,if_neg e2];exact .inl rfl
 have hout:∀q,¬(p≤q∧q<p+dX pg st p ws)→aj pg st ws' q=aj pg st ws q:=fun q a=>by rw[T.kind,if_neg a]
 have hin:∀q,p≤q→q<p+dX pg st p ws→aj pg st ws' q=0:=fun q a b=>by rw[T.kind,if_pos ⟨a,b⟩]
 have hin7:∀q,p<q→q<p+dX pg st p ws→aj pg st ws q=7:=fun q a b=>by
  rcases hcase with h|⟨_,_,h|⟨h,h1⟩⟩
  ·omega
  ·omega
  ·exact(w.run p h).2.2.1 q a (by omega)
 have hend:aj pg st ws (p+dX pg st p ws)=7→dX pg st p ws=0:=fun z=>by
  rcases hcase with h|⟨_,_,⟨h0,h1,h2⟩|⟨h,h1⟩⟩
  ·exact h
  ·have:=w.rest _ z
   rw[h2,show p+1-1=p by omega] at this
   omega
  ·rw[h1] at z;exact absurd z (w.run p h).2.2.2
 refine⟨fun q hq=>?_,fun q hq=>?_,fun q hq=>?_,fun q hq=>?_,fun q hq hne=>?_⟩
 ·rw[T.kind]
  split
  ·omega
  ·exact w.b q hq
 ·by_cases e:p≤q∧q<p+dX pg st p ws
  ·rw[hin q e.1 e.2] at hq;omega
  ·rw[hout q e] at hq
   by_cases e2:p≤q-1∧q-1<p+dX pg st p ws
   ·have:q=p+dX pg st p ws:=by omega
    rw[this] at hq
    have:=hend hq
    omega
   ·rw[hout _ e2];exact w.rest q hq
 ·by_cases e:p≤q∧q<p+dX pg st p ws
  ·rw[hin q e.1 e.2] at hq;omega
  ·rw[hout q e] at hq
   obtain⟨r0,r1,r2,r3⟩:=w.run q hq
   have hpg:=ag.2 (fJ (pg:=pg) (st:=st) (ws:=ws) (p:=q) (by omega))
   have hc:aL pg st ws' q=aL pg st ws q:=by rw[T.cnt q hpg,if_neg e]
   rw[hc]
   refine⟨r0,r1,fun i a b=>?_,fun z=>r3 ?_⟩
   ·rw[hout i ?_]
    ·exact r2 i a b
    ·rintro⟨z0,z1⟩
     have hq2:q<p:=by omega
     have:=r2 p hq2 (by omega)
     omega
   ·by_cases e2:p≤q+aL pg st ws q∧q+aL pg st ws q<p+dX pg st p ws
    ·rw[hin _ e2.1 e2.2] at z;omega
    ·rwa [hout _ e2] at z
 ·by_cases e:p≤q∧q<p+dX pg st p ws
  ·have hpg:af pg q=true:=ag.2 (by
    rcases hb with h|⟨h,h1,h2⟩
    ·omega
    ·have:=ag.1 h;omega)
   rw[T.cnt q hpg,T.bit q hpg,if_pos e]
   exact⟨rfl,if_pos e⟩
  ·rw[hout q e] at hq
   have hpg:=ag.2 (fJ (pg:=pg) (st:=st) (ws:=ws) (p:=q) (by omega))
   rw[T.cnt q hpg,T.bit q hpg,if_neg e,if_neg e]
   exact w.free q hq
 ·rw[T.map]
  by_cases e:p≤q∧q<p+dX pg st p ws
  ·rw[hin q e.1 e.2] at hne;omega
  ·rw[hout q e] at hne;exact w.map q hq hne
end
open Go.Joins Go.Deep
theorem Bh (b o j:Nat):(⟨b,o,none⟩:Addr).add j=⟨b,o+j,none⟩:=by
 unfold Addr.add
 by_cases q:j=0
 ·subst q;simp
 ·simp[q]
theorem Et {α:Type}{n:Nat}{f:Nat→α}{i:Nat}{t:α}(h:((List.range n).map f)[i]?=some t):i<n∧t=f i:=by
 rw[List.getElem?_map] at h
 by_cases q:i<n
 ·rw[List.getElem?_range q] at h;exact⟨q,by simpa using h.symm⟩
 ·rw[List.getElem?_eq_none (by simpa using q)] at h;cases h
section
variable {H:Type}{enc:TypeId×Value→H}{P:Program}{w:World}{base:Nat}{spare:Nat→Bool}{held:Bool}
end
abbrev nV:=Int×Int×Int×Int
def G0 (l:List nV):Prop:=∀i∈l,W64 i.2.1∧W64 i.2.2.1∧W64 i.2.2.2
def iG (w:World)(a:Option Addr)(l:List nV):Prop :=
 l= []∨∃s o,a=some ⟨s,o,none⟩∧s<w.heap.size∧∀i t,l[i]?=some t→w.cell? ⟨s,o+i * 4,none⟩=some (.int .i64 t.1)∧w.cell? ⟨s,o+i * 4+1,none⟩=some (.int .i64 t.2.1)∧w.cell? ⟨s,o+i * 4+2,none⟩=some (.int .i64 t.2.2.1)∧w.cell? ⟨s,o+i * 4+3,none⟩=some (.int .i64 t.2.2.2)
theorem iG.keep {w w':World}{a:Option Addr}{l:List nV}(h:iG w a l){S:Nat→Prop}(t:Turned S w w')(hs:l≠ []→∀k,lB a k→¬S k):iG w' a l:=by
 rcases h with h|⟨s,o,rfl,hl,hc⟩
 ·exact .inl h
 ·by_cases e:l= []
  ·exact .inl e
  ·exact .inr ⟨s,o,rfl,Nat.lt_of_lt_of_le hl t.size,fun i u hi=>by
    obtain⟨c0,c1,c2,c3⟩:=hc i u hi
    exact⟨eW t (hs e s rfl) c0,eW t (hs e s rfl) c1,eW t (hs e s rfl) c2,eW t (hs e s rfl) c3⟩⟩
theorem iG.more {w w':World}{a:Option Addr}{l:List nV}(h:iG w a l)(t:ae w w'):iG w' a l:=h.keep t (fun _ _ _ q=>q)
section
variable {H:Type}{enc:TypeId×Value→H}{P:Program}{w:World}{base:Nat}{spare:Nat→Bool}{held:Bool}
theorem Bi {t e:TypeId}{f0 f1 f2 f3:Field}{a:Option Addr}{len cap:Nat}{d:DataW H}{p:List MemPlace}(ht:P.underlying t=some (.slice e))(hs:P.underlying e=some (.struct #[f0,f1,f2,f3]))(hone:oneCellFields P #[f0,f1,f2,f3]=true)(hC:P.cellsOf e=4)
 (u0:P.underlying f0.type=some (.int .i64)) (u1:P.underlying f1.type=some (.int .i64)) (u2:P.underlying f2.type=some (.int .i64)) (u3:P.underlying f3.type=some (.int .i64))
 (h:DataW.Trod enc P w base spare held t (.slice a len cap) d p):∃l:List nV,l.length=len∧iG w a l∧G0 l∧l.length≤9223372036854775807:=by
 obtain⟨fuel,hf⟩:=h
 have zero:∀n,len=n→n=0→∃l:List nV,l.length=len∧iG w a l∧G0 l∧l.length≤9223372036854775807:=fun n h0 h1=>⟨[],by rw[h0,h1];rfl,.inl rfl,(fun p hp=>by cases hp),by simp⟩
 rcases open_slice ht hf with⟨hcs,_⟩|⟨x,l,c,m,n,D,Pl,hcs,_,hl,hm,hmm,_,hi⟩
 ·simp[Value.cells] at hcs
  obtain⟨rfl,rfl,rfl⟩:=hcs
  exact zero _ rfl rfl
 ·simp[Value.cells] at hcs
  obtain⟨rfl,rfl,rfl⟩:=hcs
  have key:∀i,i<len→∃g:nV,w.cell? (x.add (i * 4))=some (.int .i64 g.1)∧w.cell? (x.add (i * 4+1))=some (.int .i64 g.2.1)∧w.cell? (x.add (i * 4+2))=some (.int .i64 g.2.2.1)∧w.cell? (x.add (i * 4+3))=some (.int .i64 g.2.2.2)∧W64 g.1∧W64 g.2.1∧W64 g.2.2.1∧W64 g.2.2.2:=by
   intro i hil
   obtain⟨cs',hc,ht'⟩:=hi i (by have:=hmm;split at this<;>omega)
   rw[hC] at hc
   obtain⟨_,hcl,hat⟩:=World.cells?_some hc
   obtain⟨c0,c1,c2,c3,rfl⟩:∃c0 c1 c2 c3,cs'= [c0,c1,c2,c3]:=by
    match cs',hcl with
    | [c0,c1,c2,c3],_=>exact⟨c0,c1,c2,c3,rfl⟩
   obtain⟨y0,y1,y2,y3,n',_,_,h0,h1,h2,h3⟩:=trod_struct4 hs ht'
   obtain⟨o0,k0⟩:=hone_of hone 0 f0 rfl
   obtain⟨o1,k1⟩:=hone_of hone 1 f1 rfl
   obtain⟨o2,k2⟩:=hone_of hone 2 f2 rfl
   obtain⟨o3,k3⟩:=hone_of hone 3 f3 rfl
   rw[o0,k0] at h0;rw[o1,k1] at h1;rw[o2,k2] at h2;rw[o3,k3] at h3
   obtain⟨x0,e0,_,w0⟩:=DataW.trod_int u0 h0
   obtain⟨x1,e1,_,w1⟩:=DataW.trod_int u1 h1
   obtain⟨x2,e2,_,w2⟩:=DataW.trod_int u2 h2
   obtain⟨x3,e3,_,w3⟩:=DataW.trod_int u3 h3
   simp at e0 e1 e2 e3
   subst e0 e1 e2 e3
   have a0:=hat 0 (by omega)
   have a1:=hat 1 (by omega)
   have a2:=hat 2 (by omega)
   have a3:=hat 3 (by omega)
   rw[Go.Deep.add_add] at a0 a1 a2 a3
   exact⟨(x0,x1,x2,x3),a0,a1,a2,a3,yT w0,yT w1,yT w2,yT w3⟩
  by_cases h0:len=0
  ·exact zero _ rfl h0
  ·obtain⟨s,o,spot⟩:=x
   obtain⟨g0,hg0,_⟩:=key 0 (by omega)
   have hspot:spot=none:=by simpa [Addr.add] using World.cell?_spot hg0
   subst hspot
   have hF:∀i,∃g:nV,i<len→w.cell? ⟨s,o+i * 4,none⟩=some (.int .i64 g.1)∧w.cell? ⟨s,o+i * 4+1,none⟩=some (.int .i64 g.2.1)∧w.cell? ⟨s,o+i * 4+2,none⟩=some (.int .i64 g.2.2.1)∧w.cell? ⟨s,o+i * 4+3,none⟩=some (.int .i64 g.2.2.2)∧W64 g.1∧W64 g.2.1∧W64 g.2.2.1∧W64 g.2.2.2:=by
    intro i
    by_cases hil:i<len
    ·obtain⟨g,hg⟩:=key i hil
     exact⟨g,fun _=>by simp only[Nat.add_assoc];simp only[←Bh];exact hg⟩
    ·exact⟨(0,0,0,0),fun q=>absurd q hil⟩
   have hm':cap≤9223372036854775807:=by unfold maxLen at hm;exact hm
   have hspec:=fun i hil=>Classical.choose_spec (hF i) hil
   refine⟨(List.range len).map fun i=>Classical.choose (hF i),by simp,.inr ⟨s,o,rfl,dA (hspec 0 (by omega)).1,fun i t ht=>?_⟩,fun t ht=>?_,by simp;omega⟩
   ·obtain⟨hil,rfl⟩:=Et ht
    have q:=hspec i hil
    exact⟨q.1,q.2.1,q.2.2.1,q.2.2.2.1⟩
   ·obtain⟨i,hi',rfl⟩:=List.mem_map.1 ht
    have q:=hspec i (by simpa using hi')
    exact⟨q.2.2.2.2.2.1,q.2.2.2.2.2.2.1,q.2.2.2.2.2.2.2⟩
end
theorem nW {P:Program}(w:World)(s off:Nat)(ty:TypeId)(v0 v1 v2 v3:Value)(d:TypeDesc)(h0:w.cell? ⟨s,off,none⟩=some v0)(h1:w.cell? ⟨s,off+1,none⟩=some v1)(h2:w.cell? ⟨s,off+2,none⟩=some v2)(h3:w.cell? ⟨s,off+3,none⟩=some v3)
 (hu:P.underlying ty=some d) (hd:(match d with| .struct _| .array _ _=>true|_=>false)=true) (hi:(P.info? ty).map (·.size)=some 4):
 (loadVar ty ⟨s,off,none⟩).run P w=.ok (.agg #[v0,v1,v2,v3]) w:=by
 have hl:(loadCells ⟨s,off,none⟩ [v0,v1,v2,v3].length).run P w=.ok [v0,v1,v2,v3].toArray w :=
  run_loadCells_list (P:=P) w ⟨s,off,none⟩ [v0,v1,v2,v3] (fun j v hv=>by
   rw[eV]
   match j,hv with
   | 0,hv=>cases hv;exact h0
   | 1,hv=>cases hv;exact h1
   | 2,hv=>cases hv;exact h2
   | 3,hv=>cases hv;exact h3
   |j+4,hv=>simp at hv)
 cases hq:P.info? ty with
 |none=>simp[hq] at hi
 |some i =>
  have hs:i.size=4:=by simpa [hq] using hi
  have hagg:(isAgg ty).run P w=.ok true w:=by
   unfold isAgg
   rw[Sem.run_bind,run_underlying hu w]
   cases d<;>simp_all
  simp only[List.length_cons,List.length_nil,Nat.reduceAdd] at hl
  simp[loadVar,Sem.run_bind,hagg,sizeOf,typeInfo,hq,hs,hl]
theorem Eu {α:Type}{l:List α}{j:Nat}{x:α}(h:l[j]?=some x):l.drop j=x::l.drop (j+1):=by
 have hj:j<l.length:=by
  rcases Nat.lt_or_ge j l.length with q|q
  ·exact q
  ·rw[List.getElem?_eq_none q] at h;cases h
 rw[List.drop_eq_getElem_cons hj]
 rw[List.getElem?_eq_getElem hj] at h
 cases h;rfl
theorem kF {α:Type}{w w1 wz w2:World}{F F':Nat→Prop}{p n g:Nat}{kn:Int→Option Int}{D:List KV}{val:α→Value}{R:Res α}{x:α}{cs:Array Value}{t:TypeId}{fr:Nat×Nat}(m:ae w w1)(h:MidV w1 wz F (fun _=>False) p kn n D F')(hR:R=.ok x D)(hg:w.heap.size≤g)(hl:g<w1.heap.size)(nF:¬F g)(hb:wz.heap[g]?=some (.cells cs t fr))(ht:Turned (fun k=>k=g) wz w2):bw w F p kn val R (.returned (val x)) w2:=by
 refine bw.did hR ⟨rfl,F',h.view.keepS ht (fun k hk e=>h.off hl nF (e▸hk)) (fun k es cl e q=>by subst e;rw[hb] at q;cases q),?_,fun k q=>(h.from' k q).imp id (fun r=>Nat.le_trans m.size r)⟩
 exact aq (aq (Turned.mono m (fun _ _ q=>q.elim)) h.turn (fun k q=>q.imp id (fun r=>r.elim))) ht (fun k q=> .inr (by omega))
section
variable {pg st:Int}{n:Nat}(H:PgIn pg st n)
include H
end
section
variable {pg st:Int}{n:Nat}(H:PgIn pg st n)
include H
end
def opN (pg st:Int)(ws:List Int)(mp:Bool):Nat→Int→Bool
 | 0,_=>true
 |m+1,q=>(decide (aj pg st ws q=0) && (!mp ||aG pg st ws (ofV q))) && opN pg st ws mp m (q+1)
def opV (pg st:Int)(ws:List Int)(p n:Int)(mp:Bool):Bool:=aZ pg p n && opN pg st ws mp n.toNat p
theorem zw (pg st:Int)(ws:List Int)(mp:Bool)(m:Nat):∀q:Int,opN pg st ws mp m q=true↔∀i:Int,q≤i→i<q+m→aj pg st ws i=0∧(mp=true→aG pg st ws (ofV i)=true):=by
 induction m with
 |zero=>intro q;exact⟨fun _ i h0 h1=>by omega,fun _=>rfl⟩
 |succ m ih =>
  intro q
  show((decide (aj pg st ws q=0) && (!mp ||aG pg st ws (ofV q))) && opN pg st ws mp m (q+1))=true↔_
  rw[Bool.and_eq_true,Bool.and_eq_true,ih]
  constructor
  ·rintro⟨⟨h0,h1⟩,h2⟩ i hi hl
   by_cases e:i=q
   ·subst e
    refine⟨by simpa using h0,fun hm=>?_⟩
    rw[hm] at h1;simpa using h1
   ·exact h2 i (by omega) (by omega)
  ·intro h
   obtain⟨a,b⟩:=h q (by omega) (by omega)
   refine⟨⟨by simpa using a,?_⟩,fun i hi hl=>h i (by omega) (by omega)⟩
   cases mp with
   |false=>rfl
   |true=>simpa using b rfl
theorem G6 (pg st:Int)(ws:List Int)(p n:Int):opV pg st ws p n false=j3 pg st p n ws:=by
 have h:opV pg st ws p n false=true↔j3 pg st p n ws=true:=by
  rw[fa]
  unfold opV
  rw[Bool.and_eq_true,zw]
  constructor
  ·rintro⟨ht,h⟩
   obtain⟨t0,t1,t2⟩:=bo.1 ht
   exact⟨ht,fun i h0 h1=>(h i h0 (by omega)).1⟩
  ·rintro⟨ht,h⟩
   obtain⟨t0,t1,t2⟩:=bo.1 ht
   exact⟨ht,fun i h0 h1=>⟨h i h0 (by omega),fun e=>by cases e⟩⟩
 cases e:opV pg st ws p n false with
 |true=>exact(h.1 e).symm
 |false =>
  cases e2:j3 pg st p n ws with
  |false=>rfl
  |true=>rw[h.2 e2] at e;cases e
def mO (f:Int→Bool)(pg m q:Int):Prop:=q≤pg-m∧∀i,q≤i→i<q+m→f i=true
theorem xZ {f:Int→Bool}(m:Nat):∀q:Int,lJ f m q=none→∀i,q≤i→i<q+m→f i=true:=by
 induction m with
 |zero=>intro q _ i h0 h1;omega
 |succ m ih =>
  intro q h i h0 h1
  have h:(if f q then lJ f m (q+1) else some q)=none:=h
  by_cases e:f q=true
  ·rw[if_pos e] at h
   by_cases ei:i=q
   ·rw[ei];exact e
   ·exact ih (q+1) h i (by omega) (by omega)
  ·rw[if_neg e] at h;cases h
theorem ya {f:Int→Bool}(m:Nat):∀q x:Int,lJ f m q=some x→q≤x∧x<q+m∧f x=false:=by
 induction m with
 |zero=>intro q x h;cases h
 |succ m ih =>
  intro q x h
  have h:(if f q then lJ f m (q+1) else some q)=some x:=h
  by_cases e:f q=true
  ·rw[if_pos e] at h
   obtain⟨a,b,c⟩:=ih (q+1) x h
   exact⟨by omega,by omega,c⟩
  ·rw[if_neg e] at h
   cases h
   exact⟨by omega,by omega,by simpa using e⟩
theorem jG {f:Int→Bool}{pg m step:Int}(h1:1≤m)(h2:1≤step)(j:Nat):∀p d:Int,p=d * step→0≤p→pg<p+j →
 (mL f pg m step j p= -1∧∀k:Int,p≤k * step→¬mO f pg m (k * step))∨∃k:Int,mL f pg m step j p=k * step∧p≤k * step∧mO f pg m (k * step)∧∀l:Int,p≤l * step→l * step<k * step→¬mO f pg m (l * step):=by
 induction j with
 |zero=>intro p d hp h0 hj;exact .inl ⟨rfl,fun k hk hh=>by have:=hh.1;omega⟩
 |succ j ih =>
  intro p d hp h0 hj
  unfold mL
  by_cases e:p≤pg-m
  ·rw[if_pos e]
   cases hs:lJ f m.toNat p with
   |none =>
    have:=xZ _ _ hs
    exact .inr ⟨d,hp,by omega,⟨by omega,fun i a b=>this i (by omega) (by omega)⟩,fun l a b=>by omega⟩
   |some q =>
    obtain⟨s0,s1,s2⟩:=ya _ _ _ hs
    have q0:q / step * step≤q:=Int.ediv_mul_le q (by omega)
    have q1:q<(q / step+1) * step:=Int.lt_ediv_add_one_mul_self q (by omega)
    have skip:∀l:Int,p≤l * step→l * step<(q / step+1) * step→¬mO f pg m (l * step):=fun l a b hh=>by
     have hl:l<q / step+1:=Int.lt_of_mul_lt_mul_right b (by omega)
     have hl2:l * step≤q / step * step:=Int.mul_le_mul_of_nonneg_right (by omega) (by omega)
     have:=hh.2 q (by omega) (by omega)
     rw[s2] at this;cases this
    rcases ih ((q / step+1) * step) (q / step+1) rfl (by omega) (by omega) with⟨a,b⟩|⟨k,a,b,c,d'⟩
    ·refine .inl ⟨a,fun k hk=>?_⟩
     rcases Int.lt_or_le (k * step) ((q / step+1) * step) with z|z
     ·exact skip k hk z
     ·exact b k z
    ·refine .inr ⟨k,a,by omega,c,fun l hl hl2=>?_⟩
     rcases Int.lt_or_le (l * step) ((q / step+1) * step) with z|z
     ·exact skip l hl z
     ·exact d' l z hl2
  ·rw[if_neg e]
   exact .inl ⟨rfl,fun k hk hh=>by have:=hh.1;omega⟩
theorem Bj {f:Int→Bool}{pg m step:Int}(h1:1≤m)(h2:1≤step)(hpg:0≤pg){k:Int}(h0:0≤k * step)(hk:mO f pg m (k * step))(hl:∀l:Int,0≤l * step→l * step<k * step→¬mO f pg m (l * step)):cj f pg m step=k * step:=by
 rcases jG (f:=f) (pg:=pg) h1 h2 (pg.toNat+1) 0 0 (by omega) (by omega) (by omega) with⟨_,h⟩|⟨k',e,p0,hh,hm⟩
 ·exact absurd hk (h k h0)
 ·unfold cj
  rw[e]
  rcases Int.lt_trichotomy (k' * step) (k * step) with c|c|c
  ·exact absurd hh (hl k' p0 c)
  ·exact c
  ·exact absurd hk (hm k h0 c)
theorem Ev {f:Int→Bool}{pg m step:Int}(h1:1≤m)(h2:1≤step)(hpg:0≤pg)(hl:∀l:Int,0≤l * step→¬mO f pg m (l * step)):cj f pg m step= -1:=by
 rcases jG (f:=f) (pg:=pg) h1 h2 (pg.toNat+1) 0 0 (by omega) (by omega) (by omega) with⟨e,_⟩|⟨k',e,p0,hh,hm⟩
 ·exact e
 ·exact absurd hh (hl k' p0)
theorem tq {pg st:Int}{ws:List Int}{p n:Int}(h0:0≤p)(h1:1≤n)(mp:Bool):opV pg st ws p n mp=true↔mO (if mp then dW pg st ws else fH pg st ws) pg n p:=by
 unfold opV mO
 rw[Bool.and_eq_true,bo,zw]
 constructor
 ·rintro⟨⟨_,_,t2⟩,h⟩
  refine⟨by omega,fun i a b=>?_⟩
  obtain⟨k0,km⟩:=h i a (by omega)
  cases mp with
  |false=>show fH pg st ws i=true;unfold fH;simp[k0]
  |true=>show dW pg st ws i=true;unfold dW;rw[km rfl];simp[k0]
 ·rintro⟨t,h⟩
  refine⟨⟨h0,h1,by omega⟩,fun i a b=>?_⟩
  have:=h i a (by omega)
  cases mp with
  |false =>
   have:fH pg st ws i=true:=this
   unfold fH at this
   exact⟨by simpa using this,fun e=>by cases e⟩
  |true =>
   have:dW pg st ws i=true:=this
   unfold dW at this
   rw[Bool.and_eq_true] at this
   exact⟨by simpa using this.2,fun _=>this.1⟩
theorem pV {pg st:Int}{ws:List Int}{n step:Int}(h1:1≤n)(h2:1≤step)(hpg:0≤pg){p:Int}(p0:0≤p)(pm:p % step=0)(mp:Bool)(ho:opV pg st ws p n mp=true)(hb:∀q,0≤q→q<p→q % step=0→opV pg st ws q n mp=false):cj (if mp then dW pg st ws else fH pg st ws) pg n step=p:=by
 have e:p=p / step * step:=by have:=Int.mul_ediv_add_emod p step;rw[pm] at this;rw[Int.mul_comm];omega
 rw[e]
 refine Bj h1 h2 hpg (by rw[←e];exact p0) (by rw[←e];exact(tq p0 h1 mp).1 ho) (fun l l0 ll hh=>?_)
 rw[←e] at ll
 have:=hb (l * step) l0 ll (Int.mul_emod_left l step)
 rw[(tq l0 h1 mp).2 hh] at this
 cases this
theorem nX {pg st:Int}{ws:List Int}{n step:Int}(h1:1≤n)(h2:1≤step)(hpg:0≤pg)(mp:Bool)(hb:∀q,0≤q→q<pg→q % step=0→opV pg st ws q n mp=false):cj (if mp then dW pg st ws else fH pg st ws) pg n step= -1:=by
 refine Ev h1 h2 hpg (fun l l0 hh=>?_)
 have:=hb (l * step) l0 (by have:=hh.1;omega) (Int.mul_emod_left l step)
 rw[(tq l0 h1 mp).2 hh] at this
 cases this
section
variable {pg st:Int}{n:Nat}(H:PgIn pg st n)
include H
theorem yb {p q:Int}(hp:af pg p=true)(hq:af pg q=true)(h:p≠q):kA pg st p≠kA pg st q∧cA pg st p≠cA pg st q∧bA pg st p≠bA pg st q∧kA pg st p≠cA pg st q∧kA pg st p≠bA pg st q∧cA pg st p≠kA pg st q∧cA pg st p≠bA pg st q∧bA pg st p≠kA pg st q∧bA pg st p≠cA pg st q:=by
 have:=ag.1 hp
 have:=ag.1 hq
 unfold kA cA bA
 refine⟨?_,?_,?_,?_,?_,?_,?_,?_,?_⟩<;>omega
theorem Bk {p q:Int}(hp:af pg p=true)(hq:af pg q=true)(h:p≠q)(a b c d:Int){ws:List Int}(hn:ws.length=n):bD pg st p a b (bD pg st q c d ws)=bD pg st q c d (bD pg st p a b ws):=by
 obtain⟨a1,a2,a3,a4,a5,a6,a7,a8,a9⟩:=yb H hp hq h
 refine ik (by rw[bJ H,bJ H,bJ H,bJ H]) (fun i i0 _=>?_)
 rw[dt H hp a b (by rw[bJ H];exact hn) i0,dt H hq c d hn i0,dt H hq c d (by rw[bJ H];exact hn) i0,dt H hp a b hn i0]
 by_cases e1:i=bA pg st p
 ·rw[if_pos e1,if_neg (by rw[e1];exact a3),if_neg (by rw[e1];exact a9),if_neg (by rw[e1];exact a8),if_pos e1]
 ·rw[if_neg e1,if_neg e1]
  by_cases e2:i=cA pg st p
  ·rw[if_pos e2,if_neg (by rw[e2];exact a7),if_neg (by rw[e2];exact a2),if_neg (by rw[e2];exact a6),if_pos e2]
  ·rw[if_neg e2,if_neg e2]
   by_cases e3:i=kA pg st p
   ·rw[if_pos e3,if_neg (by rw[e3];exact a5),if_neg (by rw[e3];exact a4),if_neg (by rw[e3];exact a1),if_pos e3]
   ·rw[if_neg e3,if_neg e3]
theorem Bn {p:Int}(hp:af pg p=true)(a b c d:Int){ws:List Int}(hn:ws.length=n):bD pg st p a b (bD pg st p c d ws)=bD pg st p a b ws:=by
 refine ik (by rw[bJ H,bJ H,bJ H]) (fun i i0 _=>?_)
 rw[dt H hp a b (by rw[bJ H];exact hn) i0,dt H hp c d hn i0,dt H hp a b hn i0]
 by_cases e1:i=bA pg st p
 ·rw[if_pos e1,if_pos e1]
 ·rw[if_neg e1,if_neg e1,if_neg e1]
  by_cases e2:i=cA pg st p
  ·rw[if_pos e2,if_pos e2]
  ·rw[if_neg e2,if_neg e2,if_neg e2]
   by_cases e3:i=kA pg st p
   ·rw[if_pos e3,if_pos e3]
   ·rw[if_neg e3,if_neg e3,if_neg e3]
theorem Bo {p:Int}(hp:af pg p=true)(a b k:Int)(m:Nat):∀(q:Int) (ws:List Int),p<q→ws.length=n→(∀i:Nat,i<m→af pg (q+i)=true)→bD pg st p a b (cR pg st k m q ws)=cR pg st k m q (bD pg st p a b ws):=by
 induction m with
 |zero=>intro q ws _ _ _;rfl
 |succ m ih =>
  intro q ws hpq hn h
  obtain⟨hq,h2⟩:=gB H h
  show bD pg st p a b (cR pg st k m (q+1) (bD pg st q k 0 ws))=cR pg st k m (q+1) (bD pg st q k 0 (bD pg st p a b ws))
  rw[ih (q+1) _ (by omega) (by rw[bJ H];exact hn) h2,Bk H hp hq (by omega) a b k 0 hn]
theorem rG (k:Int)(m:Nat):∀(q:Int) (ws:List Int),cR pg st k (m+1) q ws=bD pg st (q+m) k 0 (cR pg st k m q ws):=by
 induction m with
 |zero=>intro q ws;show bD pg st q k 0 ws=_;rw[show q+((0:Nat):Int)=q by omega];rfl
 |succ m ih =>
  intro q ws
  show cR pg st k (m+1) (q+1) (bD pg st q k 0 ws)=bD pg st (q+((m+1:Nat):Int)) k 0 (cR pg st k m (q+1) (bD pg st q k 0 ws))
  rw[ih (q+1) (bD pg st q k 0 ws),show q+1+(m:Int)=q+((m+1:Nat):Int) by omega]
theorem Bp {p m k x:Int}{ws:List Int}(hn:ws.length=n)(ht:aZ pg p m=true):bD pg st p k x (cR pg st 7 m.toNat p ws)=cR pg st 7 (m-1).toNat (p+1) (bD pg st p k x ws):=by
 obtain⟨t0,t1,t2⟩:=bo.1 ht
 have hp:af pg p=true:=ag.2 ⟨by omega,by omega⟩
 obtain⟨j,hj⟩:∃j:Nat,m.toNat=j+1:=⟨(m-1).toNat,by omega⟩
 rw[hj,show(m-1).toNat=j by omega]
 show bD pg st p k x (cR pg st 7 j (p+1) (bD pg st p 7 0 ws))=_
 rw[Bo H hp k x 7 j (p+1) _ (by omega) (by rw[bJ H];exact hn) (fun i hi=>ag.2 ⟨by omega,by omega⟩),Bn H hp k x 7 0 hn]
theorem Ew {ws:List Int}(w:Wf pg st ws){p:Int}(hk:aj pg st ws p=7):0<p∧1≤aj pg st ws (p-1)∧jg pg st (p+2).toNat p ws=jg pg st (p-1+2).toNat (p-1) ws:=by
 have h:=w.rest p hk
 have hb:=fJ (pg:=pg) (st:=st) (ws:=ws) (p:=p-1) (by omega)
 refine⟨by omega,by omega,?_⟩
 obtain⟨j,hj⟩:∃j:Nat,(p+2).toNat=j+1:=⟨(p+1).toNat,by omega⟩
 rw[hj,show(p-1+2).toNat=j by omega]
 show(if aj pg st ws p=7 then jg pg st j (p-1) ws else p)=_
 rw[if_pos hk]
theorem pW {ws:List Int}{p:Int}(h0:0≤p)(hk:aj pg st ws p≠7):jg pg st (p+2).toNat p ws=p:=by
 obtain⟨j,hj⟩:∃j:Nat,(p+2).toNat=j+1:=⟨(p+1).toNat,by omega⟩
 rw[hj]
 show(if aj pg st ws p=7 then jg pg st j (p-1) ws else p)=_
 rw[if_neg hk]
theorem Ex {ws:List Int}(w:Wf pg st ws){p:Int}(hk:aj pg st ws p≤0):lZ pg st p ws= -1:=by
 have hk0:aj pg st ws p=0∨aj pg st ws p= -1:=by
  by_cases hp:af pg p=true
  ·have:=(w.b p hp).1;omega
  ·exact .inr (dE (by simpa using hp))
 have e:jg pg st (p+2).toNat p ws=p:=by
  cases hj:(p+2).toNat with
  |zero=>rfl
  |succ j =>
   show(if aj pg st ws p=7 then jg pg st j (p-1) ws else p)=p
   rw[if_neg (by omega)]
 unfold lZ
 rw[e,if_pos hk0]
end
def aW (pg a:Int)(ws:List Int):Int:=if a=0 then -1 else iD pg (wAt ws a)
def plThrV (pg st p:Int):Nat→Int→List Int→List Int→List Int×Bool
 | 0,_,l,_=>(l,false)
 |m+1,a,l,ws=>if aW pg a ws=p then(l,true) else if aW pg a ws= -1 then(l,false) else plThrV pg st p m (nA pg st (aW pg a ws)) (l++ [aW pg a ws]) ws
def ce (pg st h p q:Int)(ws:List Int):List Int:=if q= -1 then ws.set (if p= -1 then h else nA pg st p).toNat (q+1) else(ws.set (if p= -1 then h else nA pg st p).toNat (q+1)).set (vA pg st q).toNat (p+1)
def bZ (pg st p c f:Int)(ws:List Int):Bool×List Int:=if aC pg st c f≠0∧af pg p=true then(true,ce pg st (aC pg st c f) (-1) p (ce pg st (aC pg st c f) p (aW pg (aC pg st c f) ws) ws)) else(false,ws)
def aY (pg st p c f:Int)(ws:List Int):Bool×List Int:=if af pg p=true∧(plThrV pg st p pg.toNat (aC pg st c f) [] ws).2=true then(true,((ce pg st (aC pg st c f) (bV (plThrV pg st p pg.toNat (aC pg st c f) [] ws).1) (aW pg (nA pg st p) ws) ws).set (nA pg st p).toNat 0).set (vA pg st p).toNat 0) else(false,ws)
def bB (pg st c:Int):Nat→Int→List Int→Int
 | 0,_,_=> -1
 |m+1,f,ws=>if aW pg (aC pg st c f) ws= -1 then bB pg st c m (f+1) ws else aW pg (aC pg st c f) ws
section
variable {pg st:Int}{n:Nat}(H:cB pg st n)
include H
theorem iY {a:Int}(h0:0≤a)(ha:a<n):bO n (kX pg a) (fun ws=>(aW pg a ws,ws)):=by
 unfold kX aW
 by_cases e:a=0
 ·simp only[if_pos e];exact az n (-1)
 ·simp only[if_neg e];exact aE (cV h0 ha) (fun x=>az n (iD pg x))
theorem pX (a:Int)(ws:List Int):aW pg a ws= -1∨af pg (aW pg a ws)=true:=by
 unfold aW
 split
 ·exact .inl rfl
 ·exact D8 H _
theorem ve (p:Int)(m:Nat):∀(a:Int) (l:List Int),0≤a→a<n→bO n (xN pg st p m a l) (fun ws=>(plThrV pg st p m a l ws,ws)):=by
 induction m with
 |zero=>intro a l _ _;exact az n (l,false)
 |succ m ih =>
  intro a l h0 ha
  refine bg (fN (Q:=fun q:Int=>q= -1∨af pg q=true) (iY H h0 ha) (fun ws _=>pX H a ws) (fun q hq=>bU (fun _=>az n (l,true)) (fun _=>bU (fun _=>az n (l,false)) (fun hne=>by
   have hp:=hq.resolve_left hne
   have:=(ii H hp).1
   exact ih (nA pg st q) (l++ [q]) (by omega) this.2.1)))) (fun ws _=>?_)
  show _=(if aW pg a ws=p then(l,true) else if aW pg a ws= -1 then(l,false) else plThrV pg st p m (nA pg st (aW pg a ws)) (l++ [aW pg a ws]) ws,ws)
  by_cases e:aW pg a ws=p
  ·simp only[if_pos e]
  ·by_cases e2:aW pg a ws= -1
   ·simp only[if_neg e,if_pos e2]
   ·simp only[if_neg e,if_neg e2]
theorem yc (p c f:Int):bO n (D5 pg st p c f) (fun ws=>(plThrV pg st p pg.toNat (aC pg st c f) [] ws,ws)):=ve H p _ _ _ (pL H).1 (pL H).2.1
theorem kG {h p q:Int}(h0:0≤h)(h1:W64 h)(h2:h<n)(hp:p= -1∨af pg p=true)(hq:q= -1∨af pg q=true):bO n (pd pg st h p q) (fun ws=>((),ce pg st h p q ws)):=by
 have first:bO n (if p= -1 then eL h (q+1) else eL (nA pg st p) (q+1)) (fun ws=>((),ws.set (if p= -1 then h else nA pg st p).toNat (q+1))):=by
  by_cases e:p= -1
  ·simp only[if_pos e];exact cM h0 h2 h1 (Ea H hq)
  ·simp only[if_neg e]
   obtain⟨⟨a,b,c⟩,_⟩:=ii H (hp.resolve_left e)
   exact cM (by omega) b c (Ea H hq)
 refine bg (aE first (fun _=>bU (fun _=>az n ()) (fun hne=>by
  obtain⟨_,a,b,c⟩:=ii H (hq.resolve_left hne)
  exact cM (by omega) b c (Ea H hp)))) (fun ws _=>?_)
 unfold ce
 by_cases e:q= -1
 ·simp only[if_pos e]
 ·simp only[if_neg e]
theorem vg (p c f:Int):bO n (te pg st p c f) (bZ pg st p c f):=by
 unfold te
 by_cases hz:aC pg st c f=0
 ·rw[if_pos hz]
  exact bg (az n false) (fun ws _=>by unfold bZ;rw[if_neg (by rintro⟨a,_⟩;exact a hz)])
 rw[if_neg hz]
 cases hp:af pg p with
 |false=>exact bg (az n false) (fun ws _=>by unfold bZ;rw[if_neg (by rintro⟨_,a⟩;rw[hp] at a;cases a)])
 |true =>
  rw[if_pos rfl]
  obtain⟨b0,b1,b2⟩:=pL (c:=c) (f:=f) H
  refine bg (fN (Q:=fun q:Int=>q= -1∨af pg q=true) (iY H b0 b1) (fun ws _=>pX H _ ws) (fun q hq=>aE (kG H b0 b2 b1 (.inr hp) hq) (fun _=>aE (kG H b0 b2 b1 (.inl rfl) (.inr hp)) (fun _=>az n true)))) (fun ws _=>?_)
  unfold bZ
  rw[if_pos ⟨hz,hp⟩]
theorem Bq (p:Int)(m:Nat)(ws:List Int):∀(a:Int) (l:List Int),(∀x∈l,af pg x=true)→∀x∈(plThrV pg st p m a l ws).1,af pg x=true:=by
 induction m with
 |zero=>intro a l hl;exact hl
 |succ m ih =>
  intro a l hl
  unfold plThrV
  split
  ·exact hl
  ·split
   ·exact hl
   ·rename_i hne
    exact ih _ _ (fun x hx=>by
     rcases List.mem_append.1 hx with h|h
     ·exact hl x h
     ·rw[List.mem_singleton.1 h];exact(pX H a ws).resolve_left hne)
theorem qS (p c f:Int):bO n (nQ pg st p c f) (aY pg st p c f):=by
 unfold nQ
 cases hp:af pg p with
 |false=>exact bg (az n false) (fun ws _=>by unfold aY;rw[if_neg (by rintro⟨a,_⟩;rw[hp] at a;cases a)])
 |true =>
  rw[if_pos rfl]
  obtain⟨b0,b1,b2⟩:=pL (c:=c) (f:=f) H
  obtain⟨⟨a0,a1,a2⟩,c0,c1,c2⟩:=ii H hp
  refine bg (fN (Q:=fun r:List Int×Bool=>∀x∈r.1,af pg x=true) (yc H p c f) (fun ws _=>Bq H _ _ _ _ _ (fun x hx=>by cases hx)) (fun r hr=>bU (fun _=>fN (Q:=fun q:Int=>q= -1∨af pg q=true) (iY H (by omega) a1) (fun ws _=>pX H _ ws) (fun q hq=>aE (kG H b0 b2 b1 (zp H hr) hq) (fun _=>aE (cM (by omega) a1 a2 (by unfold W64;omega)) (fun _=>aE (cM (by omega) c1 c2 (by unfold W64;omega)) (fun _=>az n true))))) (fun _=>az n false))) (fun ws _=>?_)
  unfold aY
  by_cases e:(plThrV pg st p pg.toNat (aC pg st c f) [] ws).2=true
  ·simp only[if_pos e,if_pos (And.intro hp e)]
  ·simp only[if_neg e];rw[if_neg (fun q=>e q.2)]
theorem qT (c:Int)(m:Nat):∀f,bO n (pK pg st c m f) (fun ws=>(bB pg st c m f ws,ws)):=by
 induction m with
 |zero=>intro f;exact az n (-1)
 |succ m ih =>
  intro f
  obtain⟨b0,b1,b2⟩:=pL (c:=c) (f:=f) H
  refine bg (aE (iY H b0 b1) (fun q=>bU (fun _=>ih (f+1)) (fun _=>az n q))) (fun ws _=>?_)
  show _=(if aW pg (aC pg st c f) ws= -1 then bB pg st c m (f+1) ws else aW pg (aC pg st c f) ws,ws)
  by_cases e:aW pg (aC pg st c f) ws= -1
  ·simp only[if_pos e]
  ·simp only[if_neg e]
end
def cE (pg st a:Int):Prop:=aO st pg≤a∧a<aO st pg+62
theorem dF {pg st c f:Int}(h:aC pg st c f≠0):cE pg st (aC pg st c f)∧0≤c∧c≤4∧1≤f∧f≤dB c:=by
 unfold aC at h⊢
 split
 ·rename_i g
  refine⟨?_,g.1,g.2.1,g.2.2.1,g.2.2.2⟩
  obtain⟨c0,c4,f1,fs⟩:=g
  have:c=0∨c=1∨c=2∨c=3∨c=4:=by omega
  unfold cE
  rcases this with rfl|rfl|rfl|rfl|rfl<;>simp[dB,dI] at fs⊢ <;>omega
 ·rename_i g;rw[if_neg g] at h;exact absurd rfl h
theorem Ey {pg st c f c' f':Int}(h:aC pg st c f≠0)(e:aC pg st c f=aC pg st c' f'):c=c'∧f=f':=by
 have g:=(dF h).2
 have g':=(dF (e▸h)).2
 unfold aC at e
 rw[if_pos ⟨g.1,g.2.1,g.2.2.1,g.2.2.2⟩,if_pos ⟨g'.1,g'.2.1,g'.2.2.1,g'.2.2.2⟩] at e
 obtain⟨c0,c4,f1,fs⟩:=g
 obtain⟨d0,d4,k1,ks⟩:=g'
 have h1:c=0∨c=1∨c=2∨c=3∨c=4:=by omega
 have h2:c'=0∨c'=1∨c'=2∨c'=3∨c'=4:=by omega
 rcases h1 with rfl|rfl|rfl|rfl|rfl<;>rcases h2 with rfl|rfl|rfl|rfl|rfl<;>simp[dB,dI] at fs ks e⊢ <;>omega
def hd1:List Int→Int
 | []=>0
 |p::_=>p+1
def ff:List Int→Int
 | []=> -1
 |p::_=>p
theorem zx (l:List Int):hd1 l=ff l+1:=by cases l<;>rfl
def nxL:List Int→Int→Int
 | [],_=>0
 |x::t,p=>if x=p then hd1 t else nxL t p
def pvL:Int→List Int→Int→Int
 | _,[],_=>0
 |k,x::t,p=>if x=p then k else pvL (x+1) t p
theorem fO (l:List Int)(x:Int):bV (l++ [x])=x:=by simp[bV,List.getD]
theorem pY (x:Int)(l:List Int)(h:l≠ []):bV (x::l)=bV l:=by
 obtain⟨s,y,rfl⟩:∃s y,l=s++ [y]:=⟨l.dropLast,l.getLast h,(List.dropLast_concat_getLast h).symm⟩
 rw[fO,show x::(s++ [y])=(x::s)++ [y] from rfl,fO]
theorem rH (l m:List Int)(h:m≠ []):bV (l++m)=bV m:=by
 obtain⟨s,y,rfl⟩:∃s y,m=s++ [y]:=⟨m.dropLast,m.getLast h,(List.dropLast_concat_getLast h).symm⟩
 rw[fO,←List.append_assoc,fO]
theorem rI (l:List Int)(h:l≠ []):bV l∈l:=by
 obtain⟨s,y,rfl⟩:∃s y,l=s++ [y]:=⟨l.dropLast,l.getLast h,(List.dropLast_concat_getLast h).symm⟩
 rw[fO];simp
theorem i8 (u v:List Int)(r:Int)(h:r∉u):nxL (u++r::v) r=hd1 v:=by
 induction u with
 |nil=>show(if r=r then hd1 v else _)=_;rw[if_pos rfl]
 |cons x u ih =>
  show(if x=r then _ else nxL (u++r::v) r)=_
  rw[if_neg (fun e=>h (by simp[e])),ih (fun q=>h (by simp[q]))]
theorem Jg (u v:List Int)(r:Int)(h:r∉u):∀k,pvL k (u++r::v) r=if u= [] then k else bV u+1:=by
 induction u with
 |nil=>intro k;show(if r=r then k else _)=_;rw[if_pos rfl,if_pos rfl]
 |cons x u ih =>
  intro k
  show(if x=r then k else pvL (x+1) (u++r::v) r)=_
  rw[if_neg (fun e=>h (by simp[e])),ih (fun q=>h (by simp[q]))]
  by_cases hu:u= []
  ·subst hu;rfl
  ·rw[if_neg hu,if_neg (show ¬x::u= [] by simp),pY x u hu]
theorem jH (u v:List Int)(r:Int)(h:r∉u):pvL 0 (u++r::v) r=bV u+1:=by
 rw[Jg u v r h]
 split
 ·rename_i e;subst e;rfl
 ·rfl
theorem im {l:List Int}{p:Int}(h:p∈l):∃s t,l=s++p::t∧p∉s:=by
 induction l with
 |nil=>cases h
 |cons x l ih =>
  by_cases e:x=p
  ·exact⟨[],l,by rw[e];rfl,by simp⟩
  ·obtain⟨s,t,rfl,hs⟩:=ih ((List.mem_cons.1 h).resolve_left (fun q=>e q.symm))
   exact⟨x::s,t,rfl,by simp only[List.mem_cons];rintro(q|q);exact e q.symm;exact hs q⟩
structure Ln (pg st:Int)(G:Int→List Int)(ws:List Int):Prop where
 head:∀a,cE pg st a→wAt ws a=hd1 (G a)
 page:∀a,cE pg st a→∀p∈G a,af pg p=true
 nodup:∀a,cE pg st a→(G a).Nodup
 apart:∀a b p,cE pg st a→cE pg st b→p∈G a→p∈G b→a=b
 next:∀a p,cE pg st a→p∈G a→wAt ws (nA pg st p)=nxL (G a) p
 prev:∀a p,cE pg st a→p∈G a→wAt ws (vA pg st p)=pvL 0 (G a) p
 free:∀p,af pg p=true→(∀a,cE pg st a→p∉G a)→wAt ws (nA pg st p)=0∧wAt ws (vA pg st p)=0
structure dy (pg st:Int)(ws ws':List Int):Prop where
 len:ws'.length=ws.length
 off:∀i:Int,0≤i→¬cE pg st i→(∀p,af pg p=true→i≠nA pg st p∧i≠vA pg st p)→wAt ws' i=wAt ws i
theorem dy.refl (pg st:Int)(ws:List Int):dy pg st ws ws:=⟨rfl,fun _ _ _ _=>rfl⟩
theorem dy.trans {pg st:Int}{a b c:List Int}(h:dy pg st a b)(g:dy pg st b c):dy pg st a c:=⟨g.len.trans h.len,fun i h0 h1 h2=>(g.off i h0 h1 h2).trans (h.off i h0 h1 h2)⟩
theorem Ln.uniq {pg st:Int}{G:Int→List Int}{ws ws':List Int}(h:Ln pg st G ws)(g:Ln pg st G ws')(o:dy pg st ws ws'):ws'=ws :=
 ik o.len (fun i h0 _=>by
  by_cases e:cE pg st i
  ·rw[h.head i e,g.head i e]
  by_cases e2:∃p,af pg p=true∧(i=nA pg st p∨i=vA pg st p)
  ·obtain⟨p,hp,hi⟩:=e2
   by_cases m:∃a,cE pg st a∧p∈G a
   ·obtain⟨a,ha,m⟩:=m
    rcases hi with rfl|rfl
    ·rw[h.next a p ha m,g.next a p ha m]
    ·rw[h.prev a p ha m,g.prev a p ha m]
   ·have m':∀a,cE pg st a→p∉G a:=fun a ha q=>m ⟨a,ha,q⟩
    rcases hi with rfl|rfl
    ·rw[(h.free p hp m').1,(g.free p hp m').1]
    ·rw[(h.free p hp m').2,(g.free p hp m').2]
  ·exact o.off i h0 e (fun p hp=>⟨fun q=>e2 ⟨p,hp,.inl q⟩,fun q=>e2 ⟨p,hp,.inr q⟩⟩))
section
variable {pg st:Int}{n:Nat}(H:cB pg st n)
include H
theorem jI {a:Int}(h:cE pg st a):4≤a∧a<n∧W64 a:=by
 have h1:=H.st1;have h2:=H.st2;have h3:=H.top62;have h4:=H.pg1;have h5:=H.pg2
 unfold cE aO W64 at *
 unfold aD aN at *
 omega
theorem fS {a p:Int}(h:cE pg st a)(hp:af pg p=true):a≠nA pg st p∧a≠vA pg st p:=by
 have:=ag.1 hp;have h4:=H.pg1
 unfold cE aO at h
 unfold nA vA
 omega
theorem eB {p q:Int}(hp:af pg p=true)(hq:af pg q=true):nA pg st p≠vA pg st q:=by
 have:=ag.1 hp;have:=ag.1 hq
 unfold nA vA;omega
theorem G7 {x:Int}(h:af pg x=true):iD pg (x+1)=x:=by
 have:=ag.1 h;have h5:=H.pg2
 unfold iD
 rw[show IntKind.i64.wrap (x+1-1)=x by rw[show x+1-1=x by omega];exact am (by omega) (by omega),if_pos h]
theorem Br:iD pg 0= -1:=by
 unfold iD
 rw[show IntKind.i64.wrap (0-1)= -1 from am (by omega) (by omega),if_neg (by rw[lX.2 (by omega)];simp)]
theorem Hb {l:List Int}(h:∀p∈l,af pg p=true):iD pg (hd1 l)=ff l:=by
 cases l with
 |nil=>exact Br H
 |cons x t=>exact G7 H (h x (by simp))
theorem mP {l:List Int}{a:Int}{ws:List Int}(ha:0<a)(hw:wAt ws a=hd1 l)(h:∀p∈l,af pg p=true):aW pg a ws=ff l:=by
 unfold aW
 rw[if_neg (by omega),hw]
 exact Hb H h
theorem vh {l:List Int}(h:∀p∈l,af pg p=true)(hn:l.Nodup):l.length≤pg.toNat :=
 j5 pg.toNat l hn (fun p hp=>by have:=ag.1 (h p hp);omega)
theorem Ez {p a:Int}{G:Int→List Int}{ws:List Int}(L:Ln pg st G ws)(ha:cE pg st a)(m:Nat):∀(s t:List Int) (at':Int),G a=s++t→0<at'→wAt ws at'=hd1 t →
 (∀t1 t2,t=t1++p::t2→p∉t1→t1.length<m→plThrV pg st p m at' s ws=(s++t1,true)) ∧
 (p∉t→t.length≤m→(plThrV pg st p m at' s ws).1=s++t∧(p≠ -1→(plThrV pg st p m at' s ws).2=false)):=by
 induction m with
 |zero =>
  intro s t at' hG h0 hw
  refine⟨fun t1 t2 _ _ h=>absurd h (by omega),fun _ h=>?_⟩
  have:t= []:=List.length_eq_zero_iff.1 (by omega)
  subst this
  exact⟨by show s=s++ [];simp,fun _=>rfl⟩
 |succ m ih =>
  intro s t at' hG h0 hw
  have hpt:∀x∈t,af pg x=true:=fun x hx=>L.page a ha x (by rw[hG];simp[hx])
  have hl:=mP H h0 hw hpt
  unfold plThrV
  rw[hl]
  cases t with
  |nil =>
   refine⟨fun t1 t2 e _ _=>by simp at e,fun _ _=>?_⟩
   rw[show ff []= -1 from rfl]
   by_cases e:(-1:Int)=p
   ·simp only[if_pos e];exact⟨by simp,fun q=>absurd e.symm q⟩
   ·simp only[if_neg e,if_true];exact⟨by simp,fun _=>by simp⟩
  |cons x t =>
   have hx:=hpt x (by simp)
   have hxp:=ag.1 hx
   have hxm:x∈G a:=by rw[hG];simp
   have hnd:=L.nodup a ha
   rw[hG] at hnd
   have hxs:x∉s:=fun q=>by
    have:=List.nodup_append.1 hnd
    exact this.2.2 x q x (by simp) rfl
   have hnx:wAt ws (nA pg st x)=hd1 t:=by rw[L.next a x ha hxm,hG,i8 s t x hxs]
   have I:=ih (s++ [x]) t (nA pg st x) (by rw[hG];simp) (by have:=(ii H hx).1.1;omega) hnx
   show(∀t1 t2,x::t=t1++p::t2→p∉t1→t1.length<m+1→(if x=p then(s,true) else if x= -1 then(s,false) else plThrV pg st p m (nA pg st x) (s++ [x]) ws)=(s++t1,true))∧(p∉x::t→(x::t).length≤m+1→(if x=p then(s,true) else if x= -1 then(s,false) else plThrV pg st p m (nA pg st x) (s++ [x]) ws).1=s++x::t∧(p≠ -1→(if x=p then(s,true) else if x= -1 then(s,false) else plThrV pg st p m (nA pg st x) (s++ [x]) ws).2=false))
   refine⟨fun t1 t2 e hn hm=>?_,fun hn hm=>?_⟩
   ·cases t1 with
    |nil =>
     have:x=p:=by simp at e;exact e.1
     rw[if_pos this];simp
    |cons y t1 =>
     simp only[List.cons_append,List.cons.injEq] at e
     obtain⟨rfl,e⟩:=e
     rw[if_neg (fun q=>hn (by simp[q])),if_neg (by omega),I.1 t1 t2 e (fun q=>hn (by simp[q])) (by simp at hm;omega)]
     simp
   ·have hne:x≠p:=fun q=>hn (by simp[q])
    rw[if_neg hne,if_neg (by omega)]
    have:=I.2 (fun q=>hn (by simp[q])) (by simp at hm;omega)
    exact⟨by rw[this.1];simp,this.2⟩
theorem Hc {p a:Int}{G:Int→List Int}{ws:List Int}(L:Ln pg st G ws)(ha:cE pg st a){s t:List Int}(hG:G a=s++p::t)(hs:p∉s):plThrV pg st p pg.toNat a [] ws=(s,true):=by
 have hl:=vh H (L.page a ha) (L.nodup a ha)
 rw[hG] at hl
 simp at hl
 have:=(Ez H (p:=p) L ha pg.toNat [] (G a) a rfl (by have:=(jI H ha).1;omega) (L.head a ha)).1 s t hG hs (by omega)
 simpa using this
theorem Hd {p a:Int}{G:Int→List Int}{ws:List Int}(L:Ln pg st G ws)(ha:cE pg st a)(hp:p∉G a):(plThrV pg st p pg.toNat a [] ws).1=G a∧(p≠ -1→(plThrV pg st p pg.toNat a [] ws).2=false):=by
 have:=(Ez H (p:=p) L ha pg.toNat [] (G a) a rfl (by have:=(jI H ha).1;omega) (L.head a ha)).2 hp (vh H (L.page a ha) (L.nodup a ha))
 simpa using this
theorem EA {p:Int}(ws:List Int):(plThrV pg st p pg.toNat 0 [] ws).1= []∧(p≠ -1→(plThrV pg st p pg.toNat 0 [] ws).2=false):=by
 obtain⟨m,hm⟩:∃m,pg.toNat=m+1:=⟨pg.toNat-1,by have:=H.pg1;omega⟩
 rw[hm]
 have h0:aW pg 0 ws= -1:=by unfold aW;rw[if_pos rfl]
 unfold plThrV
 rw[h0]
 by_cases e:(-1:Int)=p
 ·rw[if_pos e];exact⟨rfl,fun q=>absurd e.symm q⟩
 ·rw[if_neg e,if_pos rfl];exact⟨rfl,fun _=>rfl⟩
theorem tt {h p q:Int}(hh:cE pg st h)(hp:p= -1∨af pg p=true)(hq:q= -1∨af pg q=true){ws:List Int}(hn:ws.length=n){i:Int}(hi:0≤i):
 wAt (ce pg st h p q ws) i=if q≠ -1∧i=vA pg st q then p+1 else if i=(if p= -1 then h else nA pg st p) then q+1 else wAt ws i:=by
 have hb:4≤(if p= -1 then h else nA pg st p)∧(if p= -1 then h else nA pg st p)<n:=by
  by_cases e:p= -1
  ·rw[if_pos e];exact⟨(jI H hh).1,(jI H hh).2.1⟩
  ·rw[if_neg e];have:=(ii H (hp.resolve_left e)).1;exact⟨this.1,this.2.1⟩
 unfold ce
 by_cases e:q= -1
 ·rw[if_pos e,bL (by omega) hi (by omega),if_neg (fun z:q≠ -1∧i=vA pg st q=>z.1 e)]
 ·have:=(ii H (hq.resolve_left e)).2
  rw[if_neg e,bL (by omega) hi (by simp;omega),bL (by omega) hi (by omega)]
  by_cases e2:i=vA pg st q
  ·rw[if_pos e2,if_pos ⟨e,e2⟩]
  ·rw[if_neg e2,if_neg (fun z:q≠ -1∧i=vA pg st q=>e2 z.2)]
theorem ji (h p q:Int)(ws:List Int):(ce pg st h p q ws).length=ws.length:=by unfold ce;split<;>simp
end
def pZ (G:Int→List Int)(a:Int)(l:List Int):Int→List Int:=fun b=>if b=a then l else G b
theorem bR (G:Int→List Int)(a:Int)(l:List Int):pZ G a l a=l:=if_pos rfl
theorem bM (G:Int→List Int)(a:Int)(l:List Int){b:Int}(h:b≠a):pZ G a l b=G b:=if_neg h
section
variable {pg st:Int}{n:Nat}(H:cB pg st n)
include H
theorem zy {c f p:Int}{G:Int→List Int}{ws:List Int}(L:Ln pg st G ws)(hn:ws.length=n)(hz:aC pg st c f≠0)(hp:af pg p=true)(hf:∀a,cE pg st a→p∉G a):
 Ln pg st (pZ G (aC pg st c f) (p::G (aC pg st c f))) (bZ pg st p c f ws).2∧dy pg st ws (bZ pg st p c f ws).2:=by
 have hv:bZ pg st p c f ws=(true,ce pg st (aC pg st c f) (-1) p (ce pg st (aC pg st c f) p (aW pg (aC pg st c f) ws) ws)):=by unfold bZ;rw[if_pos ⟨hz,hp⟩]
 have ha:=(dF hz).1
 rw[hv]
 generalize aC pg st c f=a at ha hz
 show Ln pg st (pZ G a (p::G a)) (ce pg st a (-1) p (ce pg st a p (aW pg a ws) ws))∧dy pg st ws (ce pg st a (-1) p (ce pg st a p (aW pg a ws) ws))
 have ha4:=(jI H ha).1
 rw[mP H (by omega) (L.head a ha) (L.page a ha)]
 have hq:ff (G a)= -1∨af pg (ff (G a))=true:=by
  cases e:G a with
  |nil=>exact .inl rfl
  |cons x t=>exact .inr (L.page a ha x (by rw[e];simp))
 have hpp:=ag.1 hp
 have hne:p≠ -1:=by omega
 have val:∀i:Int,0≤i→wAt (ce pg st a (-1) p (ce pg st a p (ff (G a)) ws)) i=if i=vA pg st p then 0 else if i=a then p+1 else if ff (G a)≠ -1∧i=vA pg st (ff (G a)) then p+1 else if i=nA pg st p then hd1 (G a) else wAt ws i:=fun i hi=>by
  rw[tt H ha (.inl rfl) (.inr hp) (by rw[ji H];exact hn) hi,tt H ha (.inr hp) hq hn hi,if_pos rfl,if_neg hne,zx]
  by_cases e:i=vA pg st p
  ·rw[if_pos ⟨hne,e⟩,if_pos e];omega
  ·rw[if_neg (fun z:p≠ -1∧i=vA pg st p=>e z.2),if_neg e]
 have hlen:(ce pg st a (-1) p (ce pg st a p (ff (G a)) ws)).length=ws.length:=by rw[ji H,ji H]
 generalize ce pg st a (-1) p (ce pg st a p (ff (G a)) ws)=xs at val hlen
 have hfa:=hf a ha
 have qmem:ff (G a)≠ -1→ff (G a)∈G a:=fun e=>by
  cases e2:G a with
  |nil=>rw[e2] at e;exact absurd rfl e
  |cons x t=>simp[ff]
 have pos1:=fun(b:Int) (hb:cE pg st b)=>(jI H hb).1
 have posn:=fun(r:Int) (hr:af pg r=true)=>(ii H hr).1.1
 have posv:=fun(r:Int) (hr:af pg r=true)=>(ii H hr).2.1
 have injn:∀r,nA pg st r=nA pg st p→r=p:=fun r e=>by unfold nA at e;omega
 have injv:∀r s,vA pg st r=vA pg st s→r=s:=fun r s e=>by unfold vA at e;omega
 refine⟨⟨fun b hb=>?_,fun b hb r hr=>?_,fun b hb=>?_,fun b b' r hb hb' hr hr'=>?_,fun b r hb hr=>?_,fun b r hb hr=>?_,fun r hr hno=>?_⟩,?_,fun i h0 h1 h2=>?_⟩
 ·have nv:=fS H hb hp
  rw[val b (by have:=pos1 b hb;omega),if_neg nv.2]
  by_cases e:b=a
  ·rw[if_pos e,e,bR];rfl
  ·rw[if_neg e,bM _ _ _ e,if_neg (fun z=>(fS H hb (L.page a ha _ (qmem z.1))).2 z.2),if_neg nv.1]
   exact L.head b hb
 ·by_cases e:b=a
  ·subst e
   rw[bR] at hr
   rcases List.mem_cons.1 hr with rfl|hr
   ·exact hp
   ·exact L.page b hb r hr
  ·rw[bM _ _ _ e] at hr;exact L.page b hb r hr
 ·by_cases e:b=a
  ·subst e
   rw[bR]
   exact List.nodup_cons.2 ⟨hfa,L.nodup b hb⟩
  ·rw[bM _ _ _ e];exact L.nodup b hb
 ·have cas:∀b,cE pg st b→r∈pZ G a (p::G a) b→(b=a∧r=p)∨r∈G b:=fun b hb hr=>by
   by_cases e:b=a
   ·subst e
    rw[bR] at hr
    rcases List.mem_cons.1 hr with h|h
    ·exact .inl ⟨rfl,h⟩
    ·exact .inr h
   ·rw[bM _ _ _ e] at hr;exact .inr hr
  rcases cas b hb hr with⟨e,h⟩|h
  ·rcases cas b' hb' hr' with⟨e',_⟩|h'
   ·rw[e,e']
   ·rw[h] at h';exact absurd h' (hf b' hb')
  ·rcases cas b' hb' hr' with⟨e',h'⟩|h'
   ·rw[h'] at h;exact absurd h (hf b hb)
   ·exact L.apart b b' r hb hb' h h'
 ·have hrp:af pg r=true:=by
   by_cases e:b=a
   ·subst e
    rw[bR] at hr
    rcases List.mem_cons.1 hr with rfl|hr
    ·exact hp
    ·exact L.page b hb r hr
   ·rw[bM _ _ _ e] at hr;exact L.page b hb r hr
  have p0:=posn r hrp
  rw[val _ (by omega),if_neg (eB H hrp hp),if_neg (fun e=>(fS H ha hrp).1 e.symm),if_neg (fun z=>eB H hrp (L.page a ha _ (qmem z.1)) z.2)]
  by_cases e:r=p
  ·subst e
   have:b=a:=by
    rcases Classical.em (b=a) with h|h
    ·exact h
    ·rw[bM _ _ _ h] at hr;exact absurd hr (hf b hb)
   subst this
   rw[if_pos rfl,bR]
   exact(i8 [] (G b) r (by simp)).symm
  ·rw[if_neg (fun z=>e (injn r z))]
   by_cases e2:b=a
   ·subst e2
    rw[bR] at hr⊢
    have hr:=(List.mem_cons.1 hr).resolve_left e
    rw[L.next b r hb hr]
    show _=if p=r then _ else nxL (G b) r
    rw[if_neg (fun z=>e z.symm)]
   ·rw[bM _ _ _ e2] at hr⊢
    exact L.next b r hb hr
 ·have hrp:af pg r=true:=by
   by_cases e:b=a
   ·subst e
    rw[bR] at hr
    rcases List.mem_cons.1 hr with rfl|hr
    ·exact hp
    ·exact L.page b hb r hr
   ·rw[bM _ _ _ e] at hr;exact L.page b hb r hr
  have p0:=posv r hrp
  rw[val _ (by omega)]
  by_cases e:r=p
  ·subst e
   have:b=a:=by
    rcases Classical.em (b=a) with h|h
    ·exact h
    ·rw[bM _ _ _ h] at hr;exact absurd hr (hf b hb)
   subst this
   rw[if_pos rfl,bR]
   exact(jH [] (G b) r (by simp)).symm
  ·rw[if_neg (fun z=>e (injv r p z)),if_neg (fun z=>(fS H ha hrp).2 z.symm)]
   by_cases e2:b=a
   ·subst e2
    rw[bR] at hr⊢
    have hr:=(List.mem_cons.1 hr).resolve_left e
    have e5:pvL 0 (p::G b) r=pvL (p+1) (G b) r:=by show(if p=r then 0 else pvL (p+1) (G b) r)=_;rw[if_neg (fun z=>e z.symm)]
    rw[e5]
    by_cases e3:r=ff (G b)
    ·have hq1:ff (G b)≠ -1:=by have:=ag.1 hrp;omega
     rw[if_pos ⟨hq1,by rw[e3]⟩]
     cases e4:G b with
     |nil=>rw[e4] at hr;cases hr
     |cons x t =>
      rw[e4] at e3
      have:x=r:=e3.symm
      show _=if x=r then p+1 else _
      rw[if_pos this]
    ·rw[if_neg (fun z=>e3 (injv _ _ z.2)),if_neg (fun z=>(eB H hp hrp) z.symm),L.prev b r hb hr]
     cases e4:G b with
     |nil=>rw[e4] at hr;cases hr
     |cons x t =>
      rw[e4] at e3
      have:x≠r:=fun z=>e3 z.symm
      show(if x=r then 0 else pvL (x+1) t r)=if x=r then p+1 else pvL (x+1) t r
      rw[if_neg this,if_neg this]
   ·rw[bM _ _ _ e2] at hr⊢
    rw[if_neg (fun z=>e2 (L.apart b a r hb ha hr (by rw[injv _ _ z.2];exact qmem z.1))),if_neg (fun z=>(eB H hp hrp) z.symm)]
    exact L.prev b r hb hr
 ·have hrne:r≠p:=fun e=>hno a ha (by rw[bR,e];simp)
  have hno':∀b,cE pg st b→r∉G b:=fun b hb q=>by
   by_cases e:b=a
   ·subst e;exact hno b hb (by rw[bR];simp[q])
   ·exact hno b hb (by rw[bM _ _ _ e];exact q)
  have:=L.free r hr hno'
  have p0:=posn r hr
  have p1:=posv r hr
  rw[val _ (by omega),val _ (by omega)]
  rw[if_neg (eB H hr hp),if_neg (fun z=>(fS H ha hr).1 z.symm),if_neg (fun z=>eB H hr (L.page a ha _ (qmem z.1)) z.2),if_neg (fun z=>hrne (injn r z))]
  rw[if_neg (fun z=>hrne (injv r p z)),if_neg (fun z=>(fS H ha hr).2 z.symm),if_neg (fun z=>hno' a ha (by rw[injv _ _ z.2];exact qmem z.1)),if_neg (fun z=>(eB H hp hr) z.symm)]
  exact this
 ·exact hlen
 ·rw[val i h0,if_neg (h2 p hp).2,if_neg (fun e=>h1 (by rw[e];exact ha)),if_neg (fun z=>(h2 _ (L.page a ha _ (qmem z.1))).2 z.2),if_neg (h2 p hp).1]
theorem nY {c f p:Int}{G:Int→List Int}{ws:List Int}(L:Ln pg st G ws)(hn:ws.length=n)(hz:aC pg st c f≠0){s t:List Int}(hG:G (aC pg st c f)=s++p::t)(hs:p∉s):
 (aY pg st p c f ws).1=true∧Ln pg st (pZ G (aC pg st c f) (s++t)) (aY pg st p c f ws).2∧dy pg st ws (aY pg st p c f ws).2:=by
 have ha:=(dF hz).1
 have hpm:p∈G (aC pg st c f):=by rw[hG];simp
 have hp:=L.page _ ha p hpm
 have thr:=Hc H L ha hG hs
 have hv:aY pg st p c f ws=(true,((ce pg st (aC pg st c f) (bV s) (aW pg (nA pg st p) ws) ws).set (nA pg st p).toNat 0).set (vA pg st p).toNat 0):=by
  unfold aY
  rw[thr,if_pos ⟨hp,rfl⟩]
 rw[hv]
 refine⟨rfl,?_⟩
 generalize aC pg st c f=a at ha hz hG hpm
 show Ln pg st (pZ G a (s++t)) (((ce pg st a (bV s) (aW pg (nA pg st p) ws) ws).set (nA pg st p).toNat 0).set (vA pg st p).toNat 0)∧dy pg st ws (((ce pg st a (bV s) (aW pg (nA pg st p) ws) ws).set (nA pg st p).toNat 0).set (vA pg st p).toNat 0)
 have hpgl:=L.page a ha
 have hnd:=L.nodup a ha
 rw[hG] at hpgl hnd
 have hna:=List.nodup_append.1 hnd
 have hpt:p∉t:=(List.nodup_cons.1 hna.2.1).1
 have hst:∀x,x∈s→x∉t:=fun x h1 h2=>hna.2.2 x h1 x (by simp[h2]) rfl
 have hnp:wAt ws (nA pg st p)=hd1 t:=by rw[L.next a p ha hpm,hG,i8 s t p hs]
 obtain⟨⟨a0,a1,a2⟩,c0,c1,c2⟩:=ii H hp
 have htp:∀x∈t,af pg x=true:=fun x hx=>hpgl x (by simp[hx])
 have hsp:∀x∈s,af pg x=true:=fun x hx=>hpgl x (by simp[hx])
 rw[mP H (by omega) hnp htp]
 have hq:ff t= -1∨af pg (ff t)=true:=by
  cases t with
  |nil=>exact .inl rfl
  |cons x t=>exact .inr (htp x (by simp))
 have hb:=zp H hsp
 have val:∀i:Int,0≤i→wAt (((ce pg st a (bV s) (ff t) ws).set (nA pg st p).toNat 0).set (vA pg st p).toNat 0) i=if i=vA pg st p then 0 else if i=nA pg st p then 0 else if ff t≠ -1∧i=vA pg st (ff t) then bV s+1 else if i=(if bV s= -1 then a else nA pg st (bV s)) then hd1 t else wAt ws i:=fun i hi=>by
  rw[bL (by omega) hi (by simp[ji H];omega),bL (by omega) hi (by rw[ji H];omega),tt H ha hb hq hn hi,zx]
 have hlen:(((ce pg st a (bV s) (ff t) ws).set (nA pg st p).toNat 0).set (vA pg st p).toNat 0).length=ws.length:=by simp[ji H]
 generalize ((ce pg st a (bV s) (ff t) ws).set (nA pg st p).toNat 0).set (vA pg st p).toNat 0=xs at val hlen
 have hpp:=ag.1 hp
 have pos1:=fun(b:Int) (hb:cE pg st b)=>(jI H hb).1
 have posn:=fun(r:Int) (hr:af pg r=true)=>(ii H hr).1.1
 have posv:=fun(r:Int) (hr:af pg r=true)=>(ii H hr).2.1
 have injn:∀r s,nA pg st r=nA pg st s→r=s:=fun r s e=>by unfold nA at e;omega
 have injv:∀r s,vA pg st r=vA pg st s→r=s:=fun r s e=>by unfold vA at e;omega
 have qmem:ff t≠ -1→ff t∈t:=fun e=>by
  cases t with
  |nil=>exact absurd rfl e
  |cons x t=>simp[ff]
 have bmem:bV s≠ -1→bV s∈s:=fun e=>rI s (fun z=>by rw[z] at e;exact e rfl)
 have snil:bV s= -1→s= []:=fun e=>by
  rcases Classical.em (s= []) with z|z
  ·exact z
  ·have:=ag.1 (hsp _ (rI s z));omega
 have mem':∀b r,cE pg st b→r∈pZ G a (s++t) b→r∈G b∧r≠p:=fun b r hb hr=>by
  by_cases e:b=a
  ·subst e
   rw[bR] at hr
   refine⟨?_,fun z=>?_⟩
   ·rw[hG]
    rcases List.mem_append.1 hr with h|h<;>simp[h]
   ·rw[z] at hr
    rcases List.mem_append.1 hr with h|h
    ·exact hs h
    ·exact hpt h
  ·rw[bM _ _ _ e] at hr
   exact⟨hr,fun z=>e (L.apart b a p hb ha (z▸hr) hpm)⟩
 have qin:∀r,ff t≠ -1∧vA pg st r=vA pg st (ff t)→r∈t:=fun r z=>by rw[injv _ _ z.2];exact qmem z.1
 have ga:∀r,r∈s∨r∈t→r∈G a:=fun r h=>by rw[hG];rcases h with h|h<;>simp[h]
 refine⟨⟨fun b hb=>?_,fun b hb r hr=>L.page b hb r (mem' b r hb hr).1,fun b hb=>?_,fun b b' r hb hb' hr hr'=>L.apart b b' r hb hb' (mem' b r hb hr).1 (mem' b' r hb' hr').1,fun b r hb hr=>?_,fun b r hb hr=>?_,fun r hr hno=>?_⟩,hlen,fun i h0 h1 h2=>?_⟩
 ·have nv:=fS H hb hp
  rw[val b (by have:=pos1 b hb;omega),if_neg nv.2,if_neg nv.1,if_neg (fun z=>(fS H hb (htp _ (qmem z.1))).2 z.2)]
  by_cases e:b=a
  ·subst e
   rw[bR]
   by_cases e2:bV s= -1
   ·rw[if_pos e2,if_pos rfl,snil e2];rfl
   ·rw[if_neg e2,if_neg (fS H hb (hsp _ (bmem e2))).1,L.head b hb,hG]
    cases s with
    |nil=>exact absurd rfl e2
    |cons x s=>rfl
  ·rw[bM _ _ _ e]
   by_cases e2:bV s= -1
   ·rw[if_pos e2,if_neg e];exact L.head b hb
   ·rw[if_neg e2,if_neg (fS H hb (hsp _ (bmem e2))).1];exact L.head b hb
 ·by_cases e:b=a
  ·subst e
   rw[bR]
   refine List.nodup_append.2 ⟨hna.1,(List.nodup_cons.1 hna.2.1).2,fun x hx y hy z=>?_⟩
   subst z
   exact hst x hx hy
  ·rw[bM _ _ _ e];exact L.nodup b hb
 ·obtain⟨hr1,hrp⟩:=mem' b r hb hr
  have hrg:=L.page b hb r hr1
  have p0:=posn r hrg
  rw[val _ (by omega),if_neg (eB H hrg hp),if_neg (fun z=>hrp (injn _ _ z)),if_neg (fun z=>eB H hrg (htp _ (qmem z.1)) z.2)]
  have hh:nA pg st r≠a:=fun z=>(fS H ha hrg).1 z.symm
  by_cases e:b=a
  ·subst e
   rw[bR] at hr⊢
   by_cases e2:r=bV s
   ·have hs0:bV s≠ -1:=by rw[←e2];have:=ag.1 hrg;omega
    rw[if_neg hs0,if_pos (by rw[e2])]
    obtain⟨s',y,rfl⟩:∃s' y,s=s'++ [y]:=⟨s.dropLast,s.getLast (fun z=>hs0 (by rw[z];rfl)),(List.dropLast_concat_getLast _).symm⟩
    rw[fO] at e2
    subst e2
    have:r∉s':=fun q=>(List.nodup_append.1 hna.1).2.2 r q r (by simp) rfl
    rw[List.append_assoc]
    exact(i8 s' t r this).symm
   ·have hif:nA pg st r≠(if bV s= -1 then b else nA pg st (bV s)):=by
     by_cases e3:bV s= -1
     ·rw[if_pos e3];exact hh
     ·rw[if_neg e3];exact fun z=>e2 (injn _ _ z)
    rw[if_neg hif,L.next b r hb hr1,hG]
    rcases List.mem_append.1 hr with h|h
    ·obtain⟨u,v,rfl,hu⟩:=im h
     have hv:v≠ []:=fun z=>e2 (by rw[z,fO])
     obtain⟨y,v',rfl⟩:=List.exists_cons_of_ne_nil hv
     have h1:(u++r::y::v')++p::t=u++r::(y::(v'++p::t)):=by simp
     have h2:(u++r::y::v')++t=u++r::(y::(v'++t)):=by simp
     rw[h1,h2,i8 u _ r hu,i8 u _ r hu]
     rfl
    ·obtain⟨u,v,rfl,hu⟩:=im h
     have hrs:r∉s:=fun q=>hst r q h
     have h1:s++p::(u++r::v)=(s++p::u)++r::v:=by simp
     have h2:s++(u++r::v)=(s++u)++r::v:=by simp
     rw[h1,h2,i8 _ v r (by simp;exact⟨hrs,hrp,hu⟩),i8 _ v r (by simp;exact⟨hrs,hu⟩)]
  ·rw[bM _ _ _ e] at hr⊢
   have hif:nA pg st r≠(if bV s= -1 then a else nA pg st (bV s)):=by
    by_cases e3:bV s= -1
    ·rw[if_pos e3];exact hh
    ·rw[if_neg e3];exact fun z=>e (L.apart b a r hb ha hr (by rw[injn _ _ z];exact ga _ (.inl (bmem e3))))
   rw[if_neg hif]
   exact L.next b r hb hr
 ·obtain⟨hr1,hrp⟩:=mem' b r hb hr
  have hrg:=L.page b hb r hr1
  have p0:=posv r hrg
  rw[val _ (by omega),if_neg (fun z=>hrp (injv _ _ z)),if_neg (fun z=>eB H hp hrg z.symm)]
  have hif:vA pg st r≠(if bV s= -1 then a else nA pg st (bV s)):=by
   by_cases e3:bV s= -1
   ·rw[if_pos e3];exact fun z=>(fS H ha hrg).2 z.symm
   ·rw[if_neg e3];exact fun z=>eB H (hsp _ (bmem e3)) hrg z.symm
  by_cases e:b=a
  ·subst e
   rw[bR] at hr⊢
   by_cases e2:ff t≠ -1∧vA pg st r=vA pg st (ff t)
   ·rw[if_pos e2]
    have hrt:=qin r e2
    have hr':=injv _ _ e2.2
    cases t with
    |nil=>cases hrt
    |cons x t' =>
     have:x=r:=hr'.symm
     subst this
     exact(jH s t' x (fun q=>hst x q (by simp))).symm
   ·rw[if_neg e2,if_neg hif,L.prev b r hb hr1,hG]
    rcases List.mem_append.1 hr with h|h
    ·obtain⟨u,v,rfl,hu⟩:=im h
     have h1:(u++r::v)++p::t=u++r::(v++p::t):=by simp
     have h2:(u++r::v)++t=u++r::(v++t):=by simp
     rw[h1,h2,jH u _ r hu,jH u _ r hu]
    ·obtain⟨u,v,rfl,hu⟩:=im h
     have hrs:r∉s:=fun q=>hst r q h
     have hun:u≠ []:=fun z=>e2 (by subst z;exact⟨by show r≠ -1;have:=ag.1 hrg;omega,rfl⟩)
     have h1:s++p::(u++r::v)=(s++p::u)++r::v:=by simp
     have h2:s++(u++r::v)=(s++u)++r::v:=by simp
     rw[h1,h2,jH _ v r (by simp;exact⟨hrs,hrp,hu⟩),jH _ v r (by simp;exact⟨hrs,hu⟩),rH s (p::u) (by simp),pY p u hun,rH s u hun]
  ·rw[bM _ _ _ e] at hr⊢
   rw[if_neg (fun z=>e (L.apart b a r hb ha hr (ga _ (.inr (qin r z))))),if_neg hif]
   exact L.prev b r hb hr
 ·have p0:=posn r hr
  have p1:=posv r hr
  rw[val _ (by omega),val _ (by omega)]
  by_cases e:r=p
  ·subst e
   rw[if_neg (eB H hr hr),if_pos rfl,if_pos rfl]
   exact⟨rfl,rfl⟩
  ·have hno':∀b,cE pg st b→r∉G b:=fun b hb q=>by
    by_cases e2:b=a
    ·subst e2
     refine hno b hb ?_
     rw[bR]
     rw[hG] at q
     rcases List.mem_append.1 q with h|h
     ·simp[h]
     ·simp[(List.mem_cons.1 h).resolve_left e]
    ·exact hno b hb (by rw[bM _ _ _ e2];exact q)
   have fr:=L.free r hr hno'
   have hif1:nA pg st r≠(if bV s= -1 then a else nA pg st (bV s)):=by
    by_cases e3:bV s= -1
    ·rw[if_pos e3];exact fun z=>(fS H ha hr).1 z.symm
    ·rw[if_neg e3];exact fun z=>hno' a ha (by rw[injn _ _ z];exact ga _ (.inl (bmem e3)))
   have hif2:vA pg st r≠(if bV s= -1 then a else nA pg st (bV s)):=by
    by_cases e3:bV s= -1
    ·rw[if_pos e3];exact fun z=>(fS H ha hr).2 z.symm
    ·rw[if_neg e3];exact fun z=>eB H (hsp _ (bmem e3)) hr z.symm
   rw[if_neg (eB H hr hp),if_neg (fun z=>e (injn _ _ z)),if_neg (fun z=>eB H hr (htp _ (qmem z.1)) z.2),if_neg hif1]
   rw[if_neg (fun z=>e (injv _ _ z)),if_neg (fun z=>eB H hp hr z.symm),if_neg (fun z=>hno' a ha (ga _ (.inr (qin r z)))),if_neg hif2]
   exact fr
 ·have hif:i≠(if bV s= -1 then a else nA pg st (bV s)):=by
   by_cases e3:bV s= -1
   ·rw[if_pos e3];exact fun z=>h1 (by rw[z];exact ha)
   ·rw[if_neg e3];exact(h2 _ (hsp _ (bmem e3))).1
  rw[val i h0,if_neg (h2 p hp).2,if_neg (h2 p hp).1,if_neg (fun z=>(h2 _ (htp _ (qmem z.1))).2 z.2),if_neg hif]
theorem k8 {c f p:Int}{G:Int→List Int}{ws:List Int}(L:Ln pg st G ws)(h:af pg p=true→aC pg st c f≠0→p∉G (aC pg st c f)):aY pg st p c f ws=(false,ws):=by
 unfold aY
 refine if_neg (fun z=>?_)
 have hp:=ag.1 z.1
 by_cases e:aC pg st c f=0
 ·have:=(EA H (p:=p) ws).2 (by omega)
  rw[e,this] at z
  cases z.2
 ·have:=(Hd H L (dF e).1 (h z.1 e)).2 (by omega)
  rw[this] at z
  cases z.2
end
theorem EB {pg st:Int}{n:Nat}(H:cB pg st n):Ln pg st (fun _=> []) (bQ n):=by
 have hz:∀i:Int,wAt (bQ n) i=0:=fun i=>by
  unfold wAt bQ
  simp only[List.getD,List.getElem?_replicate]
  split<;>rfl
 exact⟨fun a _=>hz a,fun a _ p h=>(by cases h),fun a _=>List.nodup_nil,fun a b p _ _ h=>(by cases h),fun a p _ h=>(by cases h),fun a p _ h=>(by cases h),fun p _ _=>⟨hz _,hz _⟩⟩
section
variable {pg st:Int}{n:Nat}(H:cB pg st n)
include H
end
section
variable {pg st:Int}{n:Nat}(H:cB pg st n)
include H
end
theorem dy.symm {pg st:Int}{a b:List Int}(h:dy pg st a b):dy pg st b a:=⟨h.len.symm,fun i h0 h1 h2=>(h.off i h0 h1 h2).symm⟩
def oU (pg st h:Int)(ps:List Int)(i:Nat)(ws:List Int):List Int:=(ws.set (nA pg st (ps.getD i 0)).toNat 0).set (vA pg st (ps.getD i 0)).toNat 0
def nZ (pg st h:Int)(ps:List Int)(i:Nat)(ws:List Int):List Int:=if i=0 then ws.set h.toNat (ps.getD i 0+1) else ws.set (vA pg st (ps.getD i 0)).toNat (ps.getD (i-1) 0+1)
def l9 (pg st h:Int)(ps:List Int)(i:Nat)(ws:List Int):List Int:=if i+1<ps.length then ws.set (nA pg st (ps.getD i 0)).toNat (ps.getD (i+1) 0+1) else ws
def gV (pg st h:Int)(ps:List Int):Nat→List Int→List Int
 | 0,ws=>ws.set h.toNat 0
 |i+1,ws=>l9 pg st h ps i (nZ pg st h ps i (oU pg st h ps i (gV pg st h ps i ws)))
def n6 (pg st h:Int)(ps:List Int)(ws:List Int):List Int:=gV pg st h ps ps.length ws
theorem mQ (pg st h:Int)(ps:List Int)(i:Nat)(ws:List Int):(oU pg st h ps i ws).length=ws.length:=by unfold oU;simp
theorem vi (pg st h:Int)(ps:List Int)(i:Nat)(ws:List Int):(nZ pg st h ps i ws).length=ws.length:=by unfold nZ;split<;>simp
theorem EC (pg st h:Int)(ps:List Int)(i:Nat)(ws:List Int):(l9 pg st h ps i ws).length=ws.length:=by unfold l9;split<;>simp
theorem p4 (pg st h:Int)(ps:List Int)(i:Nat)(ws:List Int):(gV pg st h ps i ws).length=ws.length:=by
 induction i with
 |zero=>unfold gV;simp
 |succ i ih=>unfold gV;rw[EC,vi,mQ,ih]
structure KA (pg st h:Int)(ps:List Int)(ws:List Int)(i:Nat)(ws':List Int):Prop where
 hd:wAt ws' h=if i=0 then 0 else hd1 ps
 nx:∀k,k<i→wAt ws' (nA pg st (ps.getD k 0))=if k+1<ps.length then ps.getD (k+1) 0+1 else 0
 pv:∀k,k<i→wAt ws' (vA pg st (ps.getD k 0))=if k=0 then 0 else ps.getD (k-1) 0+1
 off:∀x:Int,0≤x→x≠h→(∀k,k<i→x≠nA pg st (ps.getD k 0)∧x≠vA pg st (ps.getD k 0))→wAt ws' x=wAt ws x
theorem cT {l:List Int}{k:Nat}(h:k<l.length):l.getD k 0∈l:=by rw[List.getD_eq_getElem?_getD,List.getElem?_eq_getElem h];exact List.getElem_mem h
theorem vj {l:List Int}(hd:l.Nodup){i j:Nat}(hi:i<l.length)(hj:j<l.length)(e:l.getD i 0=l.getD j 0):i=j:=by
 rw[List.getD_eq_getElem?_getD,List.getD_eq_getElem?_getD,List.getElem?_eq_getElem hi,List.getElem?_eq_getElem hj] at e
 have hp:=List.pairwise_iff_getElem.1 hd
 rcases Nat.lt_trichotomy i j with h|h|h
 ·exact absurd e (hp i j hi hj h)
 ·exact h
 ·exact absurd e.symm (hp j i hj hi h)
section
variable {pg st:Int}{n:Nat}(H:cB pg st n)
include H
theorem tu {p q:Int}(e:nA pg st p=nA pg st q):p=q:=by unfold nA at e;omega
theorem tv {p q:Int}(e:vA pg st p=vA pg st q):p=q:=by unfold vA at e;omega
theorem He {h:Int}(hh:cE pg st h){ps:List Int}(hp:∀p∈ps,af pg p=true)(hd:ps.Nodup){ws:List Int}(hn:ws.length=n)(i:Nat):i≤ps.length→KA pg st h ps ws i (gV pg st h ps i ws):=by
 obtain⟨h0,h1,_⟩:=jI H hh
 induction i with
 |zero =>
  intro _
  refine⟨?_,fun k hk=>by omega,fun k hk=>by omega,fun x x0 xh _=>?_⟩
  ·show wAt (ws.set h.toNat 0) h=0
   rw[bL (by omega) (by omega) (by omega),if_pos rfl]
  ·show wAt (ws.set h.toNat 0) x=_
   rw[bL (by omega) x0 (by omega),if_neg xh]
 |succ i ih =>
  intro hi
  have I:=ih (by omega)
  have hil:i<ps.length:=by omega
  have hP:=hp _ (cT hil)
  obtain⟨⟨n0,n1,_⟩,⟨v0,v1,_⟩⟩:=ii H hP
  obtain⟨hn1,hv1⟩:=fS H hh hP
  have hnv:=eB H hP hP
  have hL:(gV pg st h ps i ws).length=n:=by rw[p4,hn]
  -- what the three steps do with a word
  have hA:∀x:Int,0≤x→wAt (oU pg st h ps i (gV pg st h ps i ws)) x=if x=vA pg st (ps.getD i 0) then 0 else if x=nA pg st (ps.getD i 0) then 0 else wAt (gV pg st h ps i ws) x:=fun x x0=>by
   unfold oU
   rw[bL (by omega) x0 (by rw[List.length_set];omega),bL (by omega) x0 (by omega)]
  have hB:∀x:Int,0≤x→wAt (nZ pg st h ps i (oU pg st h ps i (gV pg st h ps i ws))) x=if i=0 then(if x=h then ps.getD i 0+1 else wAt (oU pg st h ps i (gV pg st h ps i ws)) x) else(if x=vA pg st (ps.getD i 0) then ps.getD (i-1) 0+1 else wAt (oU pg st h ps i (gV pg st h ps i ws)) x):=fun x x0=>by
   unfold nZ
   split
   ·rw[bL (by omega) x0 (by rw[mQ];omega)]
   ·rw[bL (by omega) x0 (by rw[mQ];omega)]
  have hC:∀x:Int,0≤x→wAt (gV pg st h ps (i+1) ws) x=if i+1<ps.length then(if x=nA pg st (ps.getD i 0) then ps.getD (i+1) 0+1 else wAt (nZ pg st h ps i (oU pg st h ps i (gV pg st h ps i ws))) x) else wAt (nZ pg st h ps i (oU pg st h ps i (gV pg st h ps i ws))) x:=fun x x0=>by
   show wAt (l9 pg st h ps i _) x=_
   unfold l9
   split
   ·rw[bL (by omega) x0 (by rw[vi,mQ];omega)]
   ·rfl
  have key:∀x:Int,0≤x→wAt (gV pg st h ps (i+1) ws) x=if x=nA pg st (ps.getD i 0) then(if i+1<ps.length then ps.getD (i+1) 0+1 else 0) else if x=vA pg st (ps.getD i 0) then(if i=0 then 0 else ps.getD (i-1) 0+1) else if x=h then(if i=0 then ps.getD 0 0+1 else wAt (gV pg st h ps i ws) h) else wAt (gV pg st h ps i ws) x:=fun x x0=>by
   rw[hC x x0,hB x x0,hA x x0]
   by_cases e1:x=nA pg st (ps.getD i 0)
   ·have e2:x≠vA pg st (ps.getD i 0):=by rw[e1];exact hnv
    have e3:x≠h:=by rw[e1];exact fun q=>hn1 q.symm
    simp only[if_pos e1,if_neg e2,if_neg e3,ite_self]
   ·by_cases e2:x=vA pg st (ps.getD i 0)
    ·have e3:x≠h:=by rw[e2];exact fun q=>hv1 q.symm
     simp only[if_neg e1,if_pos e2,if_neg e3,ite_self]
    ·by_cases e3:x=h
     ·by_cases z:i=0
      ·subst z;simp only[if_neg e1,if_neg e2,if_pos e3,ite_self,if_true]
      ·rw[e3] at e1 e2⊢
       simp only[if_neg e1,if_neg e2,if_true,ite_self,if_neg z]
     ·simp only[if_neg e1,if_neg e2,if_neg e3,ite_self]
  refine⟨?_,fun k hk=>?_,fun k hk=>?_,fun x x0 xh hx=>?_⟩
  ·rw[key h (by omega),if_neg hn1,if_neg hv1,if_pos rfl,if_neg (show ¬(i+1=0) by omega)]
   by_cases z:i=0
   ·rw[if_pos z]
    match ps,hil with
    |y::l,_=>rfl
   ·rw[if_neg z,I.hd,if_neg z]
  ·obtain⟨⟨m0,_,_⟩,_⟩:=ii H (hp _ (cT (show k<ps.length by omega)))
   rw[key _ (by omega)]
   by_cases e:k=i
   ·rw[e,if_pos rfl]
   ·have ne:ps.getD k 0≠ps.getD i 0:=fun q=>e (vj hd (by omega) hil q)
    obtain⟨g1,g2⟩:=fS H hh (hp _ (cT (show k<ps.length by omega)))
    rw[if_neg (fun q=>ne (tu H q)),if_neg (eB H (hp _ (cT (show k<ps.length by omega))) hP),if_neg (fun q=>g1 q.symm)]
    exact I.nx k (by omega)
  ·obtain⟨_,⟨m0,_,_⟩⟩:=ii H (hp _ (cT (show k<ps.length by omega)))
   rw[key _ (by omega)]
   obtain⟨g1,g2⟩:=fS H hh (hp _ (cT (show k<ps.length by omega)))
   rw[if_neg (fun q=>eB H hP (hp _ (cT (show k<ps.length by omega))) q.symm)]
   by_cases e:k=i
   ·rw[e,if_pos rfl]
   ·have ne:ps.getD k 0≠ps.getD i 0:=fun q=>e (vj hd (by omega) hil q)
    rw[if_neg (fun q=>ne (tv H q)),if_neg (fun q=>g2 q.symm)]
    exact I.pv k (by omega)
  ·have:=hx i (by omega)
   rw[key x x0,if_neg this.1,if_neg this.2,if_neg xh]
   exact I.off x x0 xh (fun k hk=>hx k (by omega))
theorem ED {l:List Int}(hd:l.Nodup){k:Nat}(hk:k<l.length):nxL l (l.getD k 0)=if k+1<l.length then l.getD (k+1) 0+1 else 0:=by
 have hs:l=l.take k++l.getD k 0::l.drop (k+1):=by
  rw[List.getD_eq_getElem?_getD,List.getElem?_eq_getElem hk];simp
 have hnd:l.getD k 0∉l.take k:=by
  have hh:=hd
  rw[hs] at hh
  intro q
  exact(List.nodup_append.1 hh).2.2 _ q _ (by simp) rfl
 have h1:=i8 (l.take k) (l.drop (k+1)) _ hnd
 rw[←hs] at h1
 rw[h1]
 by_cases h0:k+1<l.length
 ·rw[if_pos h0,List.drop_eq_getElem_cons h0,List.getD_eq_getElem?_getD,List.getElem?_eq_getElem h0];rfl
 ·rw[if_neg h0,List.drop_eq_nil_of_le (by omega)];rfl
theorem EE {l:List Int}(hd:l.Nodup){k:Nat}(hk:k<l.length):pvL 0 l (l.getD k 0)=if k=0 then 0 else l.getD (k-1) 0+1:=by
 have hs:l=l.take k++l.getD k 0::l.drop (k+1):=by
  rw[List.getD_eq_getElem?_getD,List.getElem?_eq_getElem hk];simp
 have hnd:l.getD k 0∉l.take k:=by
  have hh:=hd
  rw[hs] at hh
  intro q
  exact(List.nodup_append.1 hh).2.2 _ q _ (by simp) rfl
 have h1:=jH (l.take k) (l.drop (k+1)) _ hnd
 rw[←hs] at h1
 rw[h1]
 by_cases h0:k=0
 ·subst h0;rfl
 ·rw[if_neg h0]
  unfold bV
  have hl:(l.take k).length=k:=by simp;omega
  rw[hl,List.getD_eq_getElem?_getD,List.getD_eq_getElem?_getD,List.getElem?_take_of_lt (by omega),List.getElem?_eq_getElem (show k-1<l.length by omega)]
  rfl
theorem vk {l:List Int}{p:Int}(h:p∈l):∃k,k<l.length∧l.getD k 0=p:=by
 obtain⟨k,hk,e⟩:=List.getElem_of_mem h
 exact⟨k,hk,by rw[List.getD_eq_getElem?_getD,List.getElem?_eq_getElem hk];exact e⟩
theorem EF {a:Int}{G:Int→List Int}{ws0 ws:List Int}(L:Ln pg st G ws0)(ha:cE pg st a){ps:List Int}(hp:∀p∈ps,af pg p=true)(hd:ps.Nodup)(hn:ws.length=n)
 (hap:∀b,cE pg st b→b≠a→∀p∈G b,p∉ps) (hs:∀b,cE pg st b→b≠a→wAt ws b=wAt ws0 b∧∀p∈G b,wAt ws (nA pg st p)=wAt ws0 (nA pg st p)∧wAt ws (vA pg st p)=wAt ws0 (vA pg st p))
 (hf:∀p,af pg p=true→p∉ps→(∀b,cE pg st b→b≠a→p∉G b)→wAt ws (nA pg st p)=0∧wAt ws (vA pg st p)=0):
 Ln pg st (pZ G a ps) (n6 pg st a ps ws)∧dy pg st ws (n6 pg st a ps ws):=by
 have I:=He H ha hp hd hn ps.length (Nat.le_refl _)
 have offp:∀q,af pg q=true→q∉ps→wAt (n6 pg st a ps ws) (nA pg st q)=wAt ws (nA pg st q)∧wAt (n6 pg st a ps ws) (vA pg st q)=wAt ws (vA pg st q):=fun q hq hnq=>by
  obtain⟨⟨m0,_,_⟩,⟨m1,_,_⟩⟩:=ii H hq
  obtain⟨g1,g2⟩:=fS H ha hq
  refine⟨I.off _ (by omega) (fun e=>g1 e.symm) (fun k hk=>⟨fun e=>?_,?_⟩),I.off _ (by omega) (fun e=>g2 e.symm) (fun k hk=>⟨fun e=>?_,fun e=>?_⟩)⟩
  ·exact hnq (by rw[tu H e];exact cT hk)
  ·exact eB H hq (hp _ (cT hk))
  ·exact eB H (hp _ (cT hk)) hq e.symm
  ·exact hnq (by rw[tv H e];exact cT hk)
 refine⟨⟨fun b hb=>?_,fun b hb p hm=>?_,fun b hb=>?_,fun b1 b2 p h1 h2 m1 m2=>?_,fun b p hb hm=>?_,fun b p hb hm=>?_,fun p hpg hno=>?_⟩,⟨by unfold n6;rw[p4],fun i i0 i1 i2=>I.off i i0 (fun e=>i1 (e▸ha)) (fun k hk=>i2 _ (hp _ (cT hk)))⟩⟩
 ·by_cases e:b=a
  ·subst e
   rw[bR]
   have:=I.hd
   by_cases z:ps.length=0
   ·rw[if_pos z] at this
    rw[List.length_eq_zero_iff.1 z]
    have e0:n6 pg st b [] ws=gV pg st b ps ps.length ws:=by rw[List.length_eq_zero_iff.1 z];rfl
    rw[e0];exact this
   ·rw[if_neg z] at this;exact this
  ·rw[bM _ _ _ e,←L.head b hb,←(hs b hb e).1]
   obtain⟨b0,_,_⟩:=jI H hb
   exact I.off b (by omega) e (fun k hk=>fS H hb (hp _ (cT hk)))
 ·by_cases e:b=a
  ·subst e;rw[bR] at hm;exact hp p hm
  ·rw[bM _ _ _ e] at hm;exact L.page b hb p hm
 ·by_cases e:b=a
  ·subst e;rw[bR];exact hd
  ·rw[bM _ _ _ e];exact L.nodup b hb
 ·by_cases e1:b1=a
  ·by_cases e2:b2=a
   ·rw[e1,e2]
   ·subst e1
    rw[bR] at m1
    rw[bM _ _ _ e2] at m2
    exact absurd m1 (hap b2 h2 e2 p m2)
  ·by_cases e2:b2=a
   ·subst e2
    rw[bR] at m2
    rw[bM _ _ _ e1] at m1
    exact absurd m2 (hap b1 h1 e1 p m1)
   ·rw[bM _ _ _ e1] at m1
    rw[bM _ _ _ e2] at m2
    exact L.apart b1 b2 p h1 h2 m1 m2
 ·by_cases e:b=a
  ·subst e
   rw[bR] at hm⊢
   obtain⟨k,hk,rfl⟩:=vk H hm
   rw[ED H hd hk]
   exact I.nx k hk
  ·rw[bM _ _ _ e] at hm⊢
   rw[(offp p (L.page b hb p hm) (hap b hb e p hm)).1,((hs b hb e).2 p hm).1]
   exact L.next b p hb hm
 ·by_cases e:b=a
  ·subst e
   rw[bR] at hm⊢
   obtain⟨k,hk,rfl⟩:=vk H hm
   rw[EE H hd hk]
   exact I.pv k hk
  ·rw[bM _ _ _ e] at hm⊢
   rw[(offp p (L.page b hb p hm) (hap b hb e p hm)).2,((hs b hb e).2 p hm).2]
   exact L.prev b p hb hm
 ·have hnp:p∉ps:=fun q=>hno a ha (by rw[bR];exact q)
  obtain⟨o1,o2⟩:=offp p hpg hnp
  obtain⟨f1,f2⟩:=hf p hpg hnp (fun b hb e q=>hno b hb (by rw[bM _ _ _ e];exact q))
  exact⟨o1.trans f1,o2.trans f2⟩
theorem Bs {c f p:Int}{G:Int→List Int}{ws:List Int}(L:Ln pg st G ws)(hn:ws.length=n)(hz:aC pg st c f≠0)(hp:af pg p=true)(hf:∀a,cE pg st a→p∉G a):n6 pg st (aC pg st c f) (p::G (aC pg st c f)) ws=(bZ pg st p c f ws).2:=by
 have ha:=(dF hz).1
 obtain⟨L1,o1⟩:=zy H L hn hz hp hf
 obtain⟨L2,o2⟩:=EF H L ha (ps:=p::G (aC pg st c f)) (fun q hq=>by
  rcases List.mem_cons.1 hq with rfl|hq
  ·exact hp
  ·exact L.page _ ha q hq) (List.nodup_cons.2 ⟨hf _ ha,L.nodup _ ha⟩) hn
  (fun b hb e q hq hm=>by
   rcases List.mem_cons.1 hm with rfl|hm
   ·exact hf b hb hq
   ·exact e (L.apart b _ q hb ha hq hm))
  (fun b hb e=>⟨rfl,fun q hq=>⟨rfl,rfl⟩⟩)
  (fun q hq hm hno=>L.free q hq (fun b hb h=>by
   by_cases e:b=aC pg st c f
   ·subst e;exact hm (List.mem_cons_of_mem _ h)
   ·exact hno b hb e h))
 exact L1.uniq L2 (o1.symm.trans o2)
theorem yd {s t:List Int}{p:Int}(hs:p∉s)(ht:p∉t):(s++p::t).filter (fun x=>decide (x≠p))=s++t:=by
 have h1:∀l:List Int,p∉l→l.filter (fun x=>decide (x≠p))=l:=fun l hl=>List.filter_eq_self.2 (fun a ha=>by simp;rintro rfl;exact hl ha)
 rw[List.filter_append,List.filter_cons,h1 s hs,h1 t ht]
 simp
theorem vm {c f p:Int}{G:Int→List Int}{ws:List Int}(L:Ln pg st G ws)(hn:ws.length=n)(hz:aC pg st c f≠0){s t:List Int}(hG:G (aC pg st c f)=s++p::t)(hs:p∉s):n6 pg st (aC pg st c f) (s++t) ((ws.set (nA pg st p).toNat 0).set (vA pg st p).toNat 0)=(aY pg st p c f ws).2:=by
 have ha:=(dF hz).1
 have hmp:p∈G (aC pg st c f):=by rw[hG];simp
 have hp:=L.page _ ha p hmp
 obtain⟨_,L1,o1⟩:=nY H L hn hz hG hs
 have hnd:=L.nodup _ ha
 have hpg:=L.page _ ha
 rw[hG] at hnd hpg
 obtain⟨⟨n0,n1,_⟩,⟨v0,v1,_⟩⟩:=ii H hp
 have hw:∀x:Int,0≤x→wAt ((ws.set (nA pg st p).toNat 0).set (vA pg st p).toNat 0) x=if x=vA pg st p then 0 else if x=nA pg st p then 0 else wAt ws x:=fun x x0=>by
  rw[bL (by omega) x0 (by rw[List.length_set];omega),bL (by omega) x0 (by omega)]
 have ht:p∉t:=by
  have:=(List.nodup_append.1 hnd).2.1
  exact(List.nodup_cons.1 this).1
 have hsub:∀q,q∈s++t→q∈G (aC pg st c f):=fun q hq=>by
  rw[hG]
  rcases List.mem_append.1 hq with h|h
  ·exact List.mem_append_left _ h
  ·exact List.mem_append_right _ (List.mem_cons_of_mem _ h)
 obtain⟨L2,o2⟩:=EF H L ha (ps:=s++t) (ws:=(ws.set (nA pg st p).toNat 0).set (vA pg st p).toNat 0) (fun q hq=>L.page _ ha q (hsub q hq))
  (by
   refine List.nodup_append.2 ⟨(List.nodup_append.1 hnd).1,(List.nodup_cons.1 (List.nodup_append.1 hnd).2.1).2,fun a h1 b h2=>(List.nodup_append.1 hnd).2.2 a h1 b (List.mem_cons_of_mem _ h2)⟩)
  (by simp[hn])
  (fun b hb e q hq hm=>e (L.apart b _ q hb ha hq (hsub q hm)))
  (fun b hb e=>by
   obtain⟨b0,_,_⟩:=jI H hb
   obtain⟨g1,g2⟩:=fS H hb hp
   refine⟨by rw[hw b (by omega),if_neg g2,if_neg g1],fun q hq=>?_⟩
   have hqg:=L.page b hb q hq
   obtain⟨⟨m0,_,_⟩,⟨m1,_,_⟩⟩:=ii H hqg
   have hne:q≠p:=by rintro rfl;exact e (L.apart b _ q hb ha hq hmp)
   exact⟨by rw[hw _ (by omega),if_neg (eB H hqg hp),if_neg (fun z=>hne (tu H z))],by rw[hw _ (by omega),if_neg (fun z=>hne (tv H z)),if_neg (fun z=>eB H hp hqg z.symm)]⟩)
  (fun q hq hm hno=>by
   obtain⟨⟨m0,_,_⟩,⟨m1,_,_⟩⟩:=ii H hq
   by_cases e:q=p
   ·subst e
    exact⟨by rw[hw _ (by omega),if_neg (eB H hq hq),if_pos rfl],by rw[hw _ (by omega),if_pos rfl]⟩
   ·have hfree:=L.free q hq (fun b hb h=>by
     by_cases e2:b=aC pg st c f
     ·subst e2
      rw[hG] at h
      rcases List.mem_append.1 h with h|h
      ·exact hm (List.mem_append_left _ h)
      ·rcases List.mem_cons.1 h with h|h
       ·exact e h
       ·exact hm (List.mem_append_right _ h)
     ·exact hno b hb e2 h)
    exact⟨by rw[hw _ (by omega),if_neg (eB H hq hp),if_neg (fun z=>e (tu H z))];exact hfree.1,by rw[hw _ (by omega),if_neg (fun z=>e (tv H z)),if_neg (fun z=>eB H hp hq z.symm)];exact hfree.2⟩)
 have o3:dy pg st ws ((ws.set (nA pg st p).toNat 0).set (vA pg st p).toNat 0):=⟨by simp,fun i i0 i1 i2=>by rw[hw i i0,if_neg (i2 p hp).2,if_neg (i2 p hp).1]⟩
 exact L1.uniq L2 (o1.symm.trans (o3.trans o2))
end
theorem zA {n:Nat}{zs:List Int}{D:List KV}(hz:OkW zs)(h:fy n D)(hn:zs.length=n):OkW (bG zs D):=by
 subst hn
 intro x hx
 obtain⟨i,hi,rfl⟩:=List.getElem_of_mem hx
 have hl:i<zs.length:=by rw[dS] at hi;exact hi
 have h1:=ud (zs:=zs) h (a:=(i:Int)) (by omega) (by omega)
 have h2:wAt (bG zs D) (i:Int)=(bG zs D)[i]:=by simp[wAt,List.getD,hi]
 rw[←h2]
 exact yN (sw hz) h.ok h1
theorem mR {ws:List Int}(h:OkW ws)(a:Int):W64 (wAt ws a):=by
 unfold wAt
 by_cases e:a.toNat<ws.length
 ·rw[List.getD,List.getElem?_eq_getElem e];exact h _ (List.getElem_mem e)
 ·rw[List.getD,List.getElem?_eq_none (by omega)];unfold W64;constructor<;>decide
theorem p6 {α β:Type}{n:Nat}{p:Prg α}{f:α→Prg β}{g:List Int→α×List Int}{k:α→List Int→β×List Int}{Q:α→Prop}(h:bO n p g)(hq:∀ws,ws.length=n→OkW ws→Q (g ws).1)(hf:∀x,Q x→bO n (f x) (k x)):bO n (aJ p f) (fun ws=>k (g ws).1 (g ws).2):=fun zs D hn hz hD=>by
 obtain⟨D1,e1,a1,i1⟩:=h zs D hn hz hD
 obtain⟨D2,e2,a2,i2⟩:=hf (g (bG zs D)).1 (hq _ (by rw[dS];exact hn) (zA hz hD hn)) zs D1 hn hz i1
 refine⟨D2,?_,?_,i2⟩
 ·rw[bE e1,e2,a1]
 ·rw[a2,a1]
def jJ (pg st k x:Int)(ws:List Int):Int×List Int :=
 if x= -1 then(if(dP pg st (dD pg st 1 1 ws) 1 (k+1) ws).1 then dD pg st 1 1 ws else -1,(dP pg st (dD pg st 1 1 ws) 1 (k+1) ws).2) else(x,ws)
def gi (pg st k:Int)(ws:List Int):Int×List Int:=if ao k=0 then(-1,ws) else jJ pg st k (bB pg st k (ao k).toNat 1 ws) ws
def oa (pg st q k b:Int)(ws:List Int):List Int:=if eA k b=ao k then(dQ pg st q ws).2 else(ws.set (bA pg st q).toNat b).set (cA pg st q).toNat (eA k b)
def kH (pg st q k was:Int)(ws:List Int):List Int:=(bZ pg st q k (aL pg st (aY pg st q k was ws).2 q) (aY pg st q k was ws).2).2
def gj (pg st q k was b:Int)(ws:List Int):List Int:=kH pg st q k was (oa pg st q k b ws)
def mh (us pg st k q:Int)(ws:List Int):(Int×Bool)×List Int :=
 if q= -1 then((0,false),ws) else if cO (bz pg st ws q) (ao k)= -1 then((0,false),ws)
 else((us+32 * q+cO (bz pg st ws q) (ao k) * szV k,true),gj pg st q k (aL pg st ws q) (eQ (bz pg st ws q) (cO (bz pg st ws q) (ao k))) ws)
def dR (us pg st k:Int)(ws:List Int):(Int×Bool)×List Int:=mh us pg st k (gi pg st k ws).1 (gi pg st k ws).2
def ij (pg st q wd x:Int)(ws:List Int):TkA :=
 if ao (IntKind.i64.wrap (x-1))=0 then none else if wd % szV (IntKind.i64.wrap (x-1))≠0 then none
 else some (q,IntKind.i64.wrap (x-1),wd / szV (IntKind.i64.wrap (x-1)),cK (bz pg st ws q) (wd / szV (IntKind.i64.wrap (x-1))))
def dp (us pg st a:Int)(ws:List Int):TkA:=if us≤a∧a<us+32 * pg then ij pg st ((a-us) / 32) ((a-us) % 32) (aj pg st ws ((a-us) / 32)) ws else none
def tw (pg st:Int)(x:Option (Int×Int×Int))(ws:List Int):Bool×List Int :=
 match x with
 |some (q,k,i)=>(true,gj pg st q k (aL pg st ws q) (cC (bz pg st ws q) i) ws)
 |none=>(false,ws)
def fT (us pg st a:Int)(ws:List Int):Bool×List Int:=tw pg st (gU (dp us pg st a ws)) ws
def Jh:Option (Int×Int×Int)→Int×Bool
 |some (_,k,_)=>(k,true)
 |none=>(0,false)
def iZ (us pg st a:Int)(ws:List Int):Int×Bool:=Jh (gU (dp us pg st a ws))
def rJ (pg st k:Int)(ws:List Int):Bool:=bB pg st k (ao k).toNat 1 ws != -1
section
variable {pg st:Int}{n:Nat}(H:cB pg st n)
include H
theorem iH {q:Int}(hq:af pg q=true):(0≤cA pg st q∧cA pg st q<n∧W64 (cA pg st q))∧0≤bA pg st q∧bA pg st q<n∧W64 (bA pg st q):=by
 obtain⟨_,⟨b0,b1,b2⟩,c0,c1,c2⟩:=cG H.toPgIn hq
 exact⟨⟨by omega,b1,b2⟩,by omega,c1,c2⟩
theorem oc (k:Int)(m:Nat)(ws:List Int):∀f,bB pg st k m f ws= -1∨af pg (bB pg st k m f ws)=true:=by
 induction m with
 |zero=>intro f;exact .inl rfl
 |succ m ih =>
  intro f
  show(if _ then _ else _)= -1∨af pg (if _ then _ else _)=true
  split
  ·exact ih _
  ·exact pX H _ _
theorem vo {k:Int}(hk:0≤k∧k≤4)(x:Int):bO n (if x= -1 then aJ (xL pg st 1 1) (fun y=>aJ (td pg st y 1 (k+1)) fun b=>aK (if b then y else -1)) else aK x) (jJ pg st k x):=by
 unfold jJ
 exact bU (fun _=>aE (Bd H.toPgIn 1 1) fun y=>aE (rC H.toPgIn y 1 (k+1) (by unfold W64;omega) Ka) fun b=>az n _) (fun _=>az n x)
theorem ye (k:Int):bO n (xW pg st k) (gi pg st k):=by
 unfold xW gi
 exact bU (fun _=>az n _) (fun h=>aE (qT H k _ 1) fun x=>vo H (eK h) x)
theorem Bt {y m k:Int}{ws:List Int}(h:(dP pg st y m k ws).1=true):af pg y=true:=by
 unfold dP at h
 split at h
 ·rename_i e
  simp at e
  have:=(fa.1 e.2).1
  have:=bo.1 this
  exact ag.2 ⟨by omega,by omega⟩
 ·cases h
theorem Hf (k:Int)(ws:List Int):(gi pg st k ws).1= -1∨af pg (gi pg st k ws).1=true:=by
 unfold gi
 split
 ·exact .inl rfl
 ·unfold jJ
  split
  ·show(if _ then _ else _)= -1∨af pg (if _ then _ else _)=true
   split
   ·rename_i e;exact .inr (Bt H e)
   ·exact .inl rfl
  ·exact oc H k _ ws 1
theorem p7 {q k b:Int}(hq:af pg q=true)(hb:W64 b):bO n (pP pg st q k b) (fun ws=>((),oa pg st q k b ws)):=by
 obtain⟨⟨b0,b1,b2⟩,c0,c1,c2⟩:=iH H hq
 unfold pP
 refine bg (bU (fun _=>aE (rD H.toPgIn q) fun _=>az n ()) (fun _=>aE (cM c0 c1 c2 hb) fun _=>aE (cM b0 b1 b2 (x:=eA k b) (by have:=IB b k;unfold W64;omega)) fun _=>az n _)) (fun ws _=>?_)
 unfold oa
 split<;>rfl
theorem p8 {q:Int}(hq:af pg q=true)(k was:Int):bO n (tm pg st q k was) (fun ws=>((),kH pg st q k was ws)):=by
 obtain⟨⟨b0,b1,b2⟩,_⟩:=iH H hq
 exact aE (qS H q k was) fun _=>aE (cV b0 b1) fun f=>aE (vg H q k f) fun _=>az n ()
theorem yg (us k:Int){q:Int}(hq:q= -1∨af pg q=true):bO n (if q= -1 then aK (0,false) else aJ (dJ (bA pg st q)) fun b =>
 if cO b (ao k)= -1 then aK (0,false) else aJ (dJ (cA pg st q)) fun was =>
  aJ (pP pg st q k (eQ b (cO b (ao k)))) fun _=>aJ (tm pg st q k was) fun _=>aK (us+32 * q+cO b (ao k) * szV k,true)) (mh us pg st k q):=by
 unfold mh
 refine bU (fun _=>az n _) (fun h=>?_)
 have hq:=hq.resolve_left h
 obtain⟨⟨b0,b1,b2⟩,c0,c1,c2⟩:=iH H hq
 refine bg (p6 (Q:=W64) (cV c0 c1) (fun ws _ ho=>mR ho _) fun b hb=>bU (fun _=>az n ((0:Int),false)) fun _=>aE (cV b0 b1) fun was=>aE (p7 H hq (GU hb _)) fun _=>aE (p8 H hq k was) fun _=>az n (us+32 * q+cO b (ao k) * szV k,true)) (fun ws _=>?_)
 rfl
theorem Bu (us k:Int):bO n (Kc us pg st k) (dR us pg st k):=
 fN (Q:=fun q=>q= -1∨af pg q=true) (ye H k) (fun ws _=>Hf H k ws) fun q hq=>yg H us k hq
theorem vq {q:Int}(hq:af pg q=true)(wd x:Int):bO n (tn pg st q wd x) (fun ws=>(ij pg st q wd x ws,ws)):=by
 obtain⟨_,c0,c1,c2⟩:=iH H hq
 unfold tn
 refine bg (bU (fun _=>az n _) (fun _=>bU (fun _=>az n _) (fun _=>aE (cV c0 c1) fun b=>az n _))) (fun ws _=>?_)
 unfold ij
 split
 ·rfl
 ·split<;>rfl
theorem vr {q:Int}(hq:af pg q=true)(wd:Int):bO n (aJ (fK pg st q) fun x=>tn pg st q wd x) (fun ws=>(ij pg st q wd (aj pg st ws q) ws,ws)):=
 bg (aE (jh H.toPgIn q) fun x=>vq H hq wd x) (fun ws _=>rfl)
theorem yh (us a:Int):bO n (xX us pg st a) (fun ws=>(dp us pg st a ws,ws)):=by
 unfold xX
 generalize hq:(a-us) / 32=q
 generalize hw:(a-us) % 32=wd
 refine bg (bU (fun h=>vr H (by rw[←hq];exact(mK h).1) wd) (fun _=>az n (none:TkA))) (fun ws _=>?_)
 unfold dp
 rw[hq,hw]
 split<;>rfl
theorem Hg {us a:Int}{ws:List Int}{q k i:Int}{t:Bool}(h:dp us pg st a ws=some (q,k,i,t)):af pg q=true∧0≤k∧k≤4:=by
 unfold dp at h
 split at h
 ·rename_i hin
  unfold ij at h
  split at h
  ·cases h
  ·rename_i hz
   split at h
   ·cases h
   ·cases h
    have:=eK hz
    exact⟨(mK hin).1,this.1,this.2⟩
 ·cases h
theorem qU {q:Int}(hq:af pg q=true)(k i:Int):bO n (uV pg st q k i) (fun ws=>(true,gj pg st q k (aL pg st ws q) (cC (bz pg st ws q) i) ws)):=by
 obtain⟨⟨b0,b1,b2⟩,c0,c1,c2⟩:=iH H hq
 refine bg (aE (cV b0 b1) fun was=>p6 (Q:=W64) (cV c0 c1) (fun ws _ ho=>mR ho _) fun b hb=>aE (p7 H hq (Ba hb i)) fun _=>aE (p8 H hq k was) fun _=>az n true) (fun ws _=>?_)
 rfl
theorem vt (x:Option (Int×Int×Int))(hx:∀q k i,x=some (q,k,i)→af pg q=true):bO n (Eo pg st x) (tw pg st x):=by
 cases x with
 |none=>exact az n _
 |some y =>
  obtain⟨q,k,i⟩:=y
  exact qU H (hx q k i rfl) k i
theorem Bv (us a:Int):bO n (Kd us pg st a) (fT us pg st a):=
 fN (k:=fun x ws=>tw pg st (gU x) ws) (Q:=fun x:TkA=>∀q k i t,x=some (q,k,i,t)→af pg q=true) (yh H us a) (fun ws _ q k i t e=>(Hg H e).1) fun x hx=>vt H _ fun q k i e=>hx q k i true (iE e)
end
end Go.Proofs.YtfddhogffpkhcaaGreatDoor
