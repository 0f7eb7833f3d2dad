/-
  The words of layer 4, plainly: bits of a word; the word with one bit set, and cleared; which bits are set.
-/
import Derived.Test.YtmafllcmkhgidaaGreatDoorPfAa
import Derived.Test.YtmafllcmkhgidaaGreatDoorPfAe
import Derived.Laws.Shifts
import Derived.Laws.Bits64
import Derived.Lib.Hide
import Derived.LoopTactic
import Derived.Outline
import Derived.RangeFuncBox
import Derived.RangeFuncLeaves
import Derived.RangeFuncCalls
import Derived.Shelf.Abstract
import Derived.OwnWalkIn
import Derived.TacticsInMore
import Derived.LoopNIn
import Derived.LoopIn
import Derived.Maps.AppendAt
import Derived.Test.YtmafllcmkhgidaaGreatDoorPfAh
import Derived.ProofKit
import Derived.LaidMore
import Derived.OpenShut
import Derived.Stop.Joined
import Derived.Test.YtmafllcmkhgidaaGreatDoorPfAi
import Derived.Test.YtmafllcmkhgidaaGreatDoorPfAj
set_option maxRecDepth 100000
set_option maxHeartbeats 8000000
set_option linter.unusedVariables false
set_option linter.unusedSimpArgs false
set_option linter.unusedSectionVars false
namespace Go.Proofs.YtmafllcmkhgidaaGreatDoor
open Go.RowKit
def bvOf (w : Int) : BitVec 64 := BitVec.ofInt 64 w
def bitB (w : Int) (k : Nat) : Bool := (bvOf w).getLsbD k
def inR (i : Int) : Bool := decide (0 ≤ i ∧ i < 32)
def hasB (w i : Int) : Bool := inR i && bitB w i.toNat
def onlyV (i : Int) : Int := if inR i then 2 ^ i.toNat else 0
def setV (w i : Int) : Int := if inR i then (bvOf w ||| BitVec.twoPow 64 i.toNat).toInt else w
def clearV (w i : Int) : Int := if inR i then (bvOf w &&& ~~~ BitVec.twoPow 64 i.toNat).toInt else w
def endN (n : Int) : Nat := (min n 32).toNat
def onN (w : Int) (k : Nat) : List Nat := (List.range k).filter (bitB w)
def slCountV (w n : Int) : Int := (onN w (endN n)).length
def offN (w : Int) (k : Nat) : Int := match (List.range k).find? (fun j => !bitB w j) with | some j => (j : Int) | none => -1
def slFirstV (w n : Int) : Int := offN w (endN n)
theorem inR_iff (i : Int) : inR i = true ↔ 0 ≤ i ∧ i < 32 := by simp [inR]
theorem inR_nat {k : Nat} (h : k < 32) : inR (k : Int) = true := by simp [inR]; omega
theorem endN_le (n : Int) : endN n ≤ 32 := by unfold endN; omega
theorem wrap_toNat (r : BitVec 64) : IntKind.i64.wrap (r.toNat : Int) = r.toInt := by
 have := r.isLt
 rw [BitVec.toInt_eq_toNat_bmod]
 simp [IntKind.wrap,IntKind.bits,IntKind.signed,Int.bmod]
 omega
theorem toInt_of {w : Int} (h0 : -9223372036854775808 ≤ w) (h1 : w ≤ 9223372036854775807) : (bvOf w).toInt = w := by
 rw [bvOf,BitVec.toInt_ofInt,Int.bmod]
 simp only [Nat.reducePow]
 split <;> omega
theorem bv_toInt (r : BitVec 64) : bvOf r.toInt = r := by rw [bvOf,BitVec.ofInt_toInt]
theorem toInt_wide (r : BitVec 64) : -9223372036854775808 ≤ r.toInt ∧ r.toInt ≤ 9223372036854775807 := by
 have h1 := BitVec.le_toInt r
 have h2 := BitVec.toInt_lt (x:=r)
 constructor <;> omega
theorem bv_pow {k : Nat} (h : k < 32) : BitVec.ofInt 64 ((2 : Int) ^ k) = BitVec.twoPow 64 k := by
 rw [show ((2 : Int) ^ k) = ((2 ^ k : Nat) : Int) by simp,BitVec.ofInt_natCast]
 apply BitVec.eq_of_toNat_eq
 rw [BitVec.toNat_ofNat,BitVec.toNat_twoPow]
theorem bv_zero : BitVec.ofInt 64 0 = 0#64 := by decide
theorem bits_and (w i : Int) : (bits .and .i64 w (onlyV i) != 0) = hasB w i := by
 show (IntKind.i64.wrap ((BitVec.ofInt 64 w &&& BitVec.ofInt 64 (onlyV i)).toNat : Int) != 0) = _
 rw [wrap_toNat]
 unfold hasB onlyV
 cases hi : inR i with
 | false => simp
 | true =>
   have hr := (inR_iff i).1 hi
   simp only [if_true,Bool.true_and]
   rw [bv_pow (by omega),BitVec.and_twoPow]
   unfold bitB bvOf
   cases hb : (BitVec.ofInt 64 w).getLsbD i.toNat with
   | false => simp
   | true =>
     simp only [if_true]
     simp only [bne_iff_ne,ne_eq]
     intro e
     have := congrArg (BitVec.ofInt 64) e
     rw [BitVec.ofInt_toInt] at this
     have := congrArg (fun x => x.getLsbD i.toNat) this
     simp [BitVec.getLsbD_twoPow] at this
     omega
theorem bits_or (w i : Int) (h0 : -9223372036854775808 ≤ w) (h1 : w ≤ 9223372036854775807) : bits .or .i64 w (onlyV i) = setV w i := by
 show IntKind.i64.wrap ((BitVec.ofInt 64 w ||| BitVec.ofInt 64 (onlyV i)).toNat : Int) = _
 rw [wrap_toNat]
 unfold setV onlyV
 cases hi : inR i with
 | false =>
   rw [if_neg (by simp),if_neg (by simp),bv_zero,BitVec.or_zero]
   exact toInt_of h0 h1
 | true =>
   have hr := (inR_iff i).1 hi
   simp only [if_true]
   rw [bv_pow (by omega)]; rfl
theorem bits_andNot (w i : Int) (h0 : -9223372036854775808 ≤ w) (h1 : w ≤ 9223372036854775807) : bits .andNot .i64 w (onlyV i) = clearV w i := by
 show IntKind.i64.wrap ((BitVec.ofInt 64 w &&& ~~~ BitVec.ofInt 64 (onlyV i)).toNat : Int) = _
 rw [wrap_toNat]
 unfold clearV onlyV
 cases hi : inR i with
 | false =>
   rw [if_neg (by simp),if_neg (by simp),bv_zero,BitVec.not_zero,BitVec.and_allOnes]
   exact toInt_of h0 h1
 | true =>
   have hr := (inR_iff i).1 hi
   simp only [if_true]
   rw [bv_pow (by omega)]; rfl
theorem setV_wide (w i : Int) (h0 : -9223372036854775808 ≤ w) (h1 : w ≤ 9223372036854775807) : -9223372036854775808 ≤ setV w i ∧ setV w i ≤ 9223372036854775807 := by
 unfold setV; split
 · exact toInt_wide _
 · exact ⟨h0,h1⟩
theorem clearV_wide (w i : Int) (h0 : -9223372036854775808 ≤ w) (h1 : w ≤ 9223372036854775807) : -9223372036854775808 ≤ clearV w i ∧ clearV w i ≤ 9223372036854775807 := by
 unfold clearV; split
 · exact toInt_wide _
 · exact ⟨h0,h1⟩
theorem bit_set {w i : Int} (hi : inR i = true) (k : Nat) (hk : k < 64) : bitB (setV w i) k = (bitB w k || decide (i.toNat = k)) := by
 have hr := (inR_iff i).1 hi
 unfold bitB setV
 rw [if_pos hi,bv_toInt,BitVec.getLsbD_or,BitVec.getLsbD_twoPow,decide_eq_true (show i.toNat < 64 by omega),Bool.true_and]
theorem bit_clear {w i : Int} (hi : inR i = true) (k : Nat) (hk : k < 64) : bitB (clearV w i) k = (bitB w k && !decide (i.toNat = k)) := by
 have hr := (inR_iff i).1 hi
 unfold bitB clearV
 rw [if_pos hi,bv_toInt,BitVec.getLsbD_and,BitVec.getLsbD_not,BitVec.getLsbD_twoPow,decide_eq_true hk,decide_eq_true (show i.toNat < 64 by omega),Bool.true_and,Bool.true_and]
theorem word_ext {a b : Int} (a0 : -9223372036854775808 ≤ a) (a1 : a ≤ 9223372036854775807) (b0 : -9223372036854775808 ≤ b) (b1 : b ≤ 9223372036854775807)
   (h : ∀ k,k < 64 → bitB a k = bitB b k) : a = b := by
 rw [← toInt_of a0 a1,← toInt_of b0 b1]
 congr 1
 apply BitVec.eq_of_getLsbD_eq
 exact h
theorem has_set {w i : Int} (hi : inR i = true) : hasB (setV w i) i = true := by
 have hr := (inR_iff i).1 hi
 unfold hasB; rw [bit_set hi _ (by omega)]; simp [hi]
theorem has_clear {w i : Int} (hi : inR i = true) : hasB (clearV w i) i = false := by
 have hr := (inR_iff i).1 hi
 unfold hasB; rw [bit_clear hi _ (by omega)]; simp
section
variable {w i : Int} (h0 : -9223372036854775808 ≤ w) (h1 : w ≤ 9223372036854775807)
include h0 h1
theorem clear_not (hi : inR i = true) (hb : hasB w i = false) : clearV w i = w := by
 have hr := (inR_iff i).1 hi
 have ⟨s0,s1⟩ := clearV_wide w i h0 h1
 refine word_ext s0 s1 h0 h1 fun k hk => ?_
 rw [bit_clear hi _ hk]
 by_cases q : i.toNat = k
 · subst q; unfold hasB at hb; simp [hi] at hb; simp [hb]
 · simp [q]
theorem set_clear (hi : inR i = true) (hb : hasB w i = true) : setV (clearV w i) i = w := by
 have hr := (inR_iff i).1 hi
 have ⟨s0,s1⟩ := clearV_wide w i h0 h1
 have ⟨t0,t1⟩ := setV_wide (clearV w i) i s0 s1
 refine word_ext t0 t1 h0 h1 fun k hk => ?_
 rw [bit_set hi _ hk,bit_clear hi _ hk]
 by_cases q : i.toNat = k
 · subst q; unfold hasB at hb; simp [hi] at hb; simp [hb]
 · simp [q]
end
theorem onN_succ (w : Int) (k : Nat) : onN w (k + 1) = onN w k ++ (if bitB w k then [k] else []) := by
 unfold onN
 rw [List.range_succ,List.filter_append]
 congr 1
 cases h : bitB w k <;> simp [h]
theorem offN_some {w : Int} {k j : Nat} (hj : j < k) (h0 : bitB w j = false) (h1 : ∀ i,i < j → bitB w i = true) : offN w k = j := by
 have : (List.range k).find? (fun i => !bitB w i) = some j := by
   rw [List.find?_range_eq_some]
   exact ⟨by simp [h0],by simpa using hj,fun i hi => by simp [h1 i hi]⟩
 unfold offN; rw [this]
theorem offN_none {w : Int} {k : Nat} (h : ∀ i,i < k → bitB w i = true) : offN w k = -1 := by
 have : (List.range k).find? (fun i => !bitB w i) = none := by
   rw [List.find?_range_eq_none]
   intro i hi; simp [h i hi]
 unfold offN; rw [this]
theorem offN_ways (w : Int) (k : Nat) : (offN w k = -1 ∧ ∀ i,i < k → bitB w i = true) ∨ ∃ j : Nat,j < k ∧ offN w k = j ∧ bitB w j = false ∧ ∀ i,i < j → bitB w i = true := by
 induction k with
 | zero => exact .inl ⟨rfl,fun i h => by omega⟩
 | succ k ih =>
   rcases ih with ⟨_,h⟩ | ⟨j,hj,_,h0,h1⟩
   · cases hb : bitB w k with
     | true =>
       have : ∀ i,i < k + 1 → bitB w i = true := fun i hi => by
         by_cases q : i = k
         · rw [q]; exact hb
         · exact h i (by omega)
       exact .inl ⟨offN_none this,this⟩
     | false => exact .inr ⟨k,by omega,offN_some (by omega) hb h,hb,h⟩
   · exact .inr ⟨j,by omega,offN_some (by omega) h0 h1,h0,h1⟩
theorem on_all {w : Int} {k : Nat} (h : ∀ i,i < k → bitB w i = true) : (onN w k).length = k := by
 induction k with
 | zero => rfl
 | succ k ih => rw [onN_succ,List.length_append,ih (fun i hi => h i (by omega)),if_pos (h k (by omega))]; rfl
theorem on_set {w i : Int} (hi : inR i = true) (hb : bitB w i.toNat = false) (k : Nat) (hk : k ≤ 32) : (onN (setV w i) k).length = (onN w k).length + if i.toNat < k then 1 else 0 := by
 induction k with
 | zero => rfl
 | succ k ih =>
   rw [onN_succ,onN_succ,List.length_append,List.length_append,ih (by omega),bit_set hi k (by omega)]
   by_cases q : i.toNat = k
   · subst q
     rw [hb]
     simp
   · rw [decide_eq_false q,Bool.or_false]
     have e : (if i.toNat < k + 1 then 1 else 0) = (if i.toNat < k then 1 else 0) := by
       by_cases q2 : i.toNat < k
       · rw [if_pos q2,if_pos (show i.toNat < k + 1 by omega)]
       · rw [if_neg q2,if_neg (show ¬ i.toNat < k + 1 by omega)]
     rw [e]; omega
theorem wrap_i64 {x : Int} (h0 : -9223372036854775808 ≤ x) (h1 : x ≤ 9223372036854775807) : IntKind.i64.wrap x = x := by
 simp [IntKind.wrap,IntKind.bits,IntKind.signed]; omega
theorem pow_b {k : Nat} (h : k < 32) : 1 ≤ (2 : Int) ^ k ∧ (2 : Int) ^ k ≤ 2147483648 := by
 have h1 : (1 : Nat) ≤ 2 ^ k := Nat.one_le_two_pow
 have h2 : (2 : Nat) ^ k ≤ 2 ^ 31 := Nat.pow_le_pow_right (by omega) (by omega)
 have e : (2 : Int) ^ k = ((2 ^ k : Nat) : Int) := by simp
 rw [e]; omega
theorem o_only (i : Int) (w : World) : Calls Tryz.prog 42 #[.int .i64 i] w fun e w' => e = .returned (.int .i64 (onlyV i)) ∧ w' = w := by
 by_cases c0 : i < 0
 · have d0 : decide (i < 0) = true := by simpa using c0
   have e0 : onlyV i = 0 := by unfold onlyV; rw [if_neg (by simp [inR]; omega)]
   have HE := hQQ e0; clear e0
   go_enter Tryz.func42,Tryz.ntmps42
   go_wp2_with fail
   go_ret
   exact ⟨by rw [HE.out]; rfl,rfl⟩
 · have d0 : decide (i < 0) = false := by simpa using c0
   by_cases c1 : 32 ≤ i
   · have d1 : decide (32 ≤ i) = true := by simpa using c1
     have e0 : onlyV i = 0 := by unfold onlyV; rw [if_neg (by simp [inR]; omega)]
     have HE := hQQ e0; clear e0
     go_enter Tryz.func42,Tryz.ntmps42
     go_wp2_with fail
     go_ret
     exact ⟨by rw [HE.out]; rfl,rfl⟩
   · have d1 : decide (32 ≤ i) = false := by simpa using c1
     obtain ⟨k,rfl⟩ : ∃ k : Nat,i = k := ⟨i.toNat,by omega⟩
     have hk : k < 32 := by omega
     have pb := pow_b hk
     have e0 : onlyV (k : Int) = 2 ^ k := by unfold onlyV; rw [if_pos (inR_nat hk)]; simp
     have HE := hQQ e0; clear e0
     have hm : min k 64 = k := by omega
     have HM := hQQ hm; clear hm
     have HW := hQQ (wrap_i64 (x:=2 ^ k) (by omega) (by omega))
     go_enter Tryz.func42,Tryz.ntmps42
     go_wp2_with fail
     go_ret
     exact ⟨by rw [HE.out]; rfl,rfl⟩
theorem o_has (x i : Int) (w : World) : Calls Tryz.prog 17 #[.int .i64 x,.int .i64 i] w fun e w' => e = .returned (.bool (hasB x i)) ∧ w' = w := by
 have HE := hQQ (bits_and x i)
 go_enter Tryz.func17,Tryz.ntmps17
 go_wp2_with fail
 refine (o_only i _).mono ?_
 rintro e w' ⟨rfl,rfl⟩
 go_wp2_with fail
 go_ret
 exact ⟨by rw [← HE.out]; rfl,rfl⟩
theorem o_set (x i : Int) (h0 : -9223372036854775808 ≤ x) (h1 : x ≤ 9223372036854775807) (w : World) : Calls Tryz.prog 40 #[.int .i64 x,.int .i64 i] w fun e w' => e = .returned (.int .i64 (setV x i)) ∧ w' = w := by
 have HE := hQQ (bits_or x i h0 h1)
 go_enter Tryz.func40,Tryz.ntmps40
 go_wp2_with fail
 refine (o_only i _).mono ?_
 rintro e w' ⟨rfl,rfl⟩
 go_wp2_with fail
 go_ret
 exact ⟨by rw [← HE.out]; rfl,rfl⟩
theorem o_clear (x i : Int) (h0 : -9223372036854775808 ≤ x) (h1 : x ≤ 9223372036854775807) (w : World) : Calls Tryz.prog 76 #[.int .i64 x,.int .i64 i] w fun e w' => e = .returned (.int .i64 (clearV x i)) ∧ w' = w := by
 have HE := hQQ (bits_andNot x i h0 h1)
 go_enter Tryz.func76,Tryz.ntmps76
 go_wp2_with fail
 refine (o_only i _).mono ?_
 rintro e w' ⟨rfl,rfl⟩
 go_wp2_with fail
 go_ret
 exact ⟨by rw [← HE.out]; rfl,rfl⟩
theorem end_in {n : Int} {k : Nat} (h : k < endN n) : (k : Int) < 32 ∧ (k : Int) < n := by unfold endN at h; omega
theorem has_nat {x : Int} {k : Nat} (h : k < 32) : hasB x k = bitB x k := by unfold hasB; rw [inR_nat h,Int.toNat_natCast,Bool.true_and]
end Go.Proofs.YtmafllcmkhgidaaGreatDoor
namespace Go.Proofs.YtmafllcmkhgidaaGreatDoor
open Go.RowKit Go.Shelf
attribute [local go_sem] Oper.semAt_some
theorem Keeps2.setCell {a b : Nat} (w : World) {c o : Nat} (v : Value) (ha : a ≠ c) (hb : b ≠ c) : Keeps2 a b w (w.setCell ⟨c,o,none⟩ v) :=
 ⟨Below.heap_setCell _ _ _ _ ha,Below.heap_setCell _ _ _ _ hb⟩
def cameUpTo (x : Int) (k : Nat) : List (Nat × Bool) := (List.range k).map fun j => (j,bitB x j)
theorem came_succ (x : Int) (k : Nat) : cameUpTo x (k + 1) = cameUpTo x k ++ [(k,bitB x k)] := by simp [cameUpTo,List.range_succ]
theorem came_length (x : Int) (k : Nat) : (cameUpTo x k).length = k := by simp [cameUpTo]
theorem bits1_in (n : Nat) (hn : 1 ≤ n) (l Bm Bw : Nat) (x m : Int) (m0 : -9223372036854775808 ≤ m) (m1 : m ≤ 9223372036854775807) (J Jx : List (Nat × Bool) → World → Prop)
   (hY : ∀ pre y W,J pre W → pre.length < endN m → YieldAt Fence.wide (n - 1) Tryz.prog l #[.int .i64 (y.1 : Int),.bool y.2] W fun e W' =>
     (e = .returned (.bool true) ∧ J (pre ++ [y]) W' ∧ Keeps2 Bm Bw W W') ∨ (e = .returned (.bool false) ∧ Jx (pre ++ [y]) W'))
   (W : World) (hBm : W.cell? ⟨Bm,0,none⟩ = some (.int .i64 m)) (hBw : W.cell? ⟨Bw,0,none⟩ = some (.int .i64 x)) (h0 : J [] W) :
   CallsIn Fence.wide n Tryz.prog 54 #[.func (.yield l) #[] #[],.pointer (some ⟨Bm,0,none⟩),.pointer (some ⟨Bw,0,none⟩)] W fun e W' => (∃ v,e = .returned v) ∧
     ((∃ ys,ys = cameUpTo x (endN m) ∧ J ys W') ∨ (∃ pre,(∃ k,k ≤ endN m ∧ pre = cameUpTo x k) ∧ Jx pre W')) := by
 have he := endN_le m
 refine callsIn_of_wp Tryz.func54 rfl trivial ?_ rfl
 simp only [Tryz.ntmps54,List.size_toArray,List.length_cons,List.length_nil,Nat.reduceAdd,Nat.reduceSub,Array.replicate_succ,Array.replicate_zero,List.push_toArray,List.append_toArray,List.nil_append,List.cons_append]
 gi_wp2
 all_goals
   gi_loopw [7] (fun i wr => ∃ k : Nat,k ≤ endN m ∧ i = .int .i64 k ∧ J (cameUpTo x k) wr ∧ Keeps2 Bm Bw W wr) (fun i _ => endN m - (intOf i).toNat)
   case atStart => exact ⟨0,Nat.zero_le _,rfl,h0,Keeps2.refl _ _ _⟩
   case round =>
     obtain ⟨k,hk,rfl,hJs,hnx⟩ := hrel
     by_cases hlt : k < endN m
     · obtain ⟨l1,l2⟩ := end_in hlt
       have hcw : wr.cell? ⟨Bw,0,none⟩ = some (.int .i64 x) := hnx.cell2 hBw
       have HK := hQQ (has_nat (x:=x) (show k < 32 by omega))
       obtain ⟨fn,tmps,assign,body,hy,hR⟩ := hY _ (k,bitB x k) wr hJs (by rw [came_length]; exact hlt)
       dsimp only at hy
       gi_wp2_with (refine ⟨trivial,?_⟩; gi_at_call 17; refine (callsIn_wide.2 (o_has x k _)).mono ?_; rw [HK.out]; rintro e w' ⟨rfl,rfl⟩)
       refine hR.mono ?_
       rintro e W3 (⟨rfl,hJ3,hk3⟩ | ⟨rfl,hJx3⟩)
       · gi_wp2
         go_roundw
         case rel => exact ⟨k + 1,by omega,by simp,by rw [came_succ]; exact hJ3,hnx.trans hk3⟩
         case measure => simp [intOf]; omega
       · gi_wp2
         refine bodyPost_ret (results_none rfl _ _ _) rfl ?_
         exact ⟨⟨_,rfl⟩,.inr ⟨_,⟨k + 1,by omega,(came_succ _ _).symm⟩,hJx3⟩⟩
     · have l3 : k = endN m := by omega
       have l4 : (m ≤ 32 ∧ m ≤ (k : Int)) ∨ (32 ≤ m ∧ 32 ≤ (k : Int)) := by unfold endN at l3; omega
       rcases l4 with ⟨l6,l5⟩ | ⟨l6,l5⟩
       · gi_wp2
         go_end0
         exact ⟨⟨_,rfl⟩,.inl ⟨_,rfl,by rw [← l3]; exact hJs⟩⟩
       · gi_wp2
         go_end0
         exact ⟨⟨_,rfl⟩,.inl ⟨_,rfl,by rw [← l3]; exact hJs⟩⟩
theorem bits_in (n : Nat) (x m : Int) (w : World) :
   CallsIn Fence.wide n Tryz.prog 30 #[.int .i64 x,.int .i64 m] w fun e w' => e = .returned (.func (.func 54) #[] #[.pointer (some ⟨w.heap.size + 1,0,none⟩),.pointer (some ⟨w.heap.size,0,none⟩)]) ∧ w' = (w.alloc (.cells #[.int .i64 x] 3)).alloc (.cells #[.int .i64 m] 3) := by
 refine callsIn_of_wp Tryz.func30 rfl trivial ?_ rfl
 simp only [Tryz.ntmps30,List.size_toArray,List.length_cons,List.length_nil,Nat.reduceAdd,Nat.reduceSub,Array.replicate_succ,Array.replicate_zero,List.push_toArray,List.append_toArray,List.nil_append,List.cons_append]
 gi_wp2
 go_ret
 exact ⟨rfl,rfl⟩
theorem bits_stops (n : Nat) (hn : 1 ≤ n) (Bm Bw : Nat) (x m : Int) (m0 : -9223372036854775808 ≤ m) (m1 : m ≤ 9223372036854775807) (w : World)
   (hBm : w.cell? ⟨Bm,0,none⟩ = some (.int .i64 m)) (hBw : w.cell? ⟨Bw,0,none⟩ = some (.int .i64 x)) :
   SeqStopsK Fence.wide n Tryz.prog 54 #[.pointer (some ⟨Bm,0,none⟩),.pointer (some ⟨Bw,0,none⟩)] (fun y : Nat × Bool => #[Value.int .i64 (y.1 : Int),Value.bool y.2]) (Keeps2 Bm Bw) (fun ys => ys = cameUpTo x (endN m))
     (fun pre => ∃ k,k ≤ endN m ∧ pre = cameUpTo x k) (endN m) w := fun l J Jx W hW _ _ hY h0 =>
 bits1_in n hn l Bm Bw x m m0 m1 J Jx hY W ((hW.cell (p:=⟨Bm,0,none⟩) (lt_of_cell hBm)).trans hBm) ((hW.cell (p:=⟨Bw,0,none⟩) (lt_of_cell hBw)).trans hBw) h0
theorem came_on (x : Int) (k : Nat) : ((cameUpTo x k).filter fun y => y.2).map (fun y => y.1) = onN x k := by
 induction k with
 | zero => rfl
 | succ k ih =>
   rw [came_succ,List.filter_append,List.map_append,ih,onN_succ]
   cases bitB x k <;> rfl
def sumC (pre : List (Nat × Bool)) : Int := ((pre.filter fun y => y.2).length : Int)
theorem sumC_yes (pre : List (Nat × Bool)) (k : Nat) : sumC (pre ++ [(k,true)]) = sumC pre + 1 := by simp [sumC]
theorem sumC_no (pre : List (Nat × Bool)) (k : Nat) : sumC (pre ++ [(k,false)]) = sumC pre := by simp [sumC]
theorem sumC_b (pre : List (Nat × Bool)) : 0 ≤ sumC pre ∧ sumC pre ≤ pre.length := by
 have := List.length_filter_le (fun y : Nat × Bool => y.2) pre
 unfold sumC; omega
theorem sumC_all (x n : Int) : sumC (cameUpTo x (endN n)) = slCountV x n := by
 unfold sumC slCountV
 rw [← came_on,List.length_map]
theorem o_count (x n : Int) (n0 : -9223372036854775808 ≤ n) (n1 : n ≤ 9223372036854775807) (w : World) : Calls Tryz.prog 10 #[.int .i64 x,.int .i64 n] w (Gives w (.int .i64 (slCountV x n))) := by
 suffices H : CallsIn Fence.wide 3 Tryz.prog 10 #[.int .i64 x,.int .i64 n] w fun e W' => e = .returned (.int .i64 (slCountV x n)) ∧ Below w.heap.size w W' from
   (callsIn_wide (n:=3)).1 (H.mono fun e W' ⟨he,hb⟩ => ⟨he,more_of_below hb⟩)
 have he := endN_le n
 refine callsIn_of_wp_marks Tryz.func10 rfl trivial ?_ rfl
 simp only [Tryz.ntmps10,List.size_toArray,List.length_cons,List.length_nil,Nat.reduceAdd,Nat.reduceSub,Array.replicate_succ,Array.replicate_zero,List.push_toArray,List.append_toArray,List.nil_append,List.cons_append]
 gi_wp2_with (refine ⟨trivial,?_⟩; gi_at_call 30; refine (bits_in _ x n _).mono ?_; rintro e w' ⟨rfl,rfl⟩)
 have bC := Boxed.new w 3 (.int .i64 0)
 have bX := Boxed.new (w.alloc (.cells #[.int .i64 0] 3)) 3 (.int .i64 x)
 have bN := Boxed.new ((w.alloc (.cells #[.int .i64 0] 3)).alloc (.cells #[.int .i64 x] 3)) 3 (.int .i64 n)
 simp only [World.size_alloc] at bX bN
 have hB0 : Below w.heap.size w (((w.alloc (.cells #[.int .i64 0] 3)).alloc (.cells #[.int .i64 x] 3)).alloc (.cells #[.int .i64 n] 3)) := (((Below.refl _ w).alloc (Nat.le_refl _) _).alloc (by simp) _).alloc (by simp; omega) _
 refine wpIn_rangeFunc_ownG rfl (by omega) (gf:=54) (lb:=#[.pointer (some ⟨w.heap.size + 1 + 1,0,none⟩),.pointer (some ⟨w.heap.size + 1,0,none⟩)]) rfl trivial (enters_of Tryz.func54 (by kernel_rfl) rfl)
   (bits_stops 2 (by omega) (w.heap.size + 1 + 1) (w.heap.size + 1) x n n0 n1 _ bN.cell (bX.alloc _).cell) (fun h k => h.trans k) (keeps2_put (by simp) (by simp)) (Below.refl _ _) (fun _ => rfl)
   (fun pre W => (W.cell? ⟨w.heap.size,0,none⟩ = some (.int .i64 (sumC pre)) ∧ W.frozen? ⟨w.heap.size,0,none⟩ = false) ∧ Below w.heap.size w W)
   (fun _ _ _ => False)
   (OwnFrom.and (Own.from (fun s A B row hs hg hr => ⟨cell_kept hs.1 hg hr,(frozen_kept hs.1 hg hr).trans hs.2⟩) _) (ownFrom_below (Nat.le_refl _) (by simp; omega)))
   (fun _ _ _ _ _ hs _ _ => hs)
   ⟨⟨((bC.alloc _).alloc _).cell,((bC.alloc _).alloc _).frozen⟩,hB0⟩
   (fun y => { tmps := #[.int .i64 x,.int .i64 n,undef,undef,.int .i64 0,.pointer (some ⟨w.heap.size,0,none⟩),undef,.bool y.2,.int .i64 x,.int .i64 n,.func (.func 54) #[] #[.pointer (some ⟨w.heap.size + 1 + 1,0,none⟩),.pointer (some ⟨w.heap.size + 1,0,none⟩)],.int .i64 (y.1 : Int),.bool y.2,undef,undef,undef,undef],defers := [] }) ?assign ?body ?done ?stop
 case assign =>
   intro l y W K hK
   gi_wp2
   exact hK
 case body =>
   rintro l pre ⟨j,b⟩ W ⟨⟨hc,hf⟩,hB⟩ hlt
   obtain ⟨s0,s1⟩ := sumC_b pre
   cases b with
   | false =>
     gi_wp2
     exact ⟨KeepsFrom.refl _ _,Keeps2.refl _ _ _,⟨by rw [sumC_no]; exact hc,hf⟩,hB⟩
   | true =>
     have HS := hQQ (sumC_yes pre j)
     generalize sumC pre = S at hc s0 s1 HS
     gi_wp2
     exact ⟨(KeepsOthers.setCell _ _ _).from _,Keeps2.setCell _ _ (by omega) (by omega),⟨by rw [HS.out]; exact World.cell?_setCell_same' _ _ _ (by rw [hc]; rfl),by rw [World.frozen?_setCell]; exact hf⟩,hB.setCell (p:=⟨w.heap.size,0,none⟩) (Nat.le_refl _) _⟩
 case done =>
   rintro D ys W hD rfl ⟨⟨hc,_⟩,hB⟩ hK
   rw [sumC_all] at hc
   gi_wp2
   refine ⟨by simp,.inl ⟨_,_,rfl,run_takeDeferred hK,?_⟩⟩
   exact ⟨_,results_tmp rfl _ _ _,rfl,hB.trans (belowK_b (w:=w) (Nat.le_refl _) W D _ _ (by simp at hD; omega) hK rfl rfl)⟩
 case stop =>
   rintro D c pre W _ _ h _
   exact h.elim
theorem first_none {x n : Int} (h : ∀ p ∈ cameUpTo x (endN n),p.2 = true) : slFirstV x n = -1 :=
 offN_none fun i hi => h (i,bitB x i) (by simp only [cameUpTo,List.mem_map,List.mem_range]; exact ⟨i,hi,rfl⟩)
theorem first_some {x n : Int} {k : Nat} (hk : k ≤ endN n) {ini : List (Nat × Bool)} {last : Nat × Bool} (e : cameUpTo x k = ini ++ [last]) (h : ∀ p ∈ ini,p.2 = true) (hl : last.2 = false) : slFirstV x n = (last.1 : Int) := by
 obtain ⟨k',rfl⟩ : ∃ k',k = k' + 1 := by
   cases k with
   | zero => simp [cameUpTo] at e
   | succ k' => exact ⟨k',rfl⟩
 rw [came_succ] at e
 obtain ⟨e1,e2⟩ := List.append_inj' e rfl
 have e3 : (k',bitB x k') = last := by simpa using e2
 subst e1 e3
 exact offN_some (by omega) hl fun i hi => h (i,bitB x i) (by simp only [cameUpTo,List.mem_map,List.mem_range]; exact ⟨i,hi,rfl⟩)
theorem o_first (x n : Int) (n0 : -9223372036854775808 ≤ n) (n1 : n ≤ 9223372036854775807) (w : World) : Calls Tryz.prog 36 #[.int .i64 x,.int .i64 n] w (Gives w (.int .i64 (slFirstV x n))) := by
 suffices H : CallsIn Fence.wide 3 Tryz.prog 36 #[.int .i64 x,.int .i64 n] w fun e W' => e = .returned (.int .i64 (slFirstV x n)) ∧ Below w.heap.size w W' from
   (callsIn_wide (n:=3)).1 (H.mono fun e W' ⟨he,hb⟩ => ⟨he,more_of_below hb⟩)
 refine callsIn_of_wp_marks Tryz.func36 rfl trivial ?_ rfl
 simp only [Tryz.ntmps36,List.size_toArray,List.length_cons,List.length_nil,Nat.reduceAdd,Nat.reduceSub,Array.replicate_succ,Array.replicate_zero,List.push_toArray,List.append_toArray,List.nil_append,List.cons_append]
 gi_wp2_with (refine ⟨trivial,?_⟩; gi_at_call 30; refine (bits_in _ x n _).mono ?_; rintro e w' ⟨rfl,rfl⟩)
 have bC := Boxed.new w 3 (.int .i64 0)
 have bX := Boxed.new (w.alloc (.cells #[.int .i64 0] 3)) 3 (.int .i64 x)
 have bN := Boxed.new ((w.alloc (.cells #[.int .i64 0] 3)).alloc (.cells #[.int .i64 x] 3)) 3 (.int .i64 n)
 simp only [World.size_alloc] at bX bN
 have hB0 : Below w.heap.size w (((w.alloc (.cells #[.int .i64 0] 3)).alloc (.cells #[.int .i64 x] 3)).alloc (.cells #[.int .i64 n] 3)) := (((Below.refl _ w).alloc (Nat.le_refl _) _).alloc (by simp) _).alloc (by simp; omega) _
 refine wpIn_rangeFunc_ownG rfl (by omega) (gf:=54) (lb:=#[.pointer (some ⟨w.heap.size + 1 + 1,0,none⟩),.pointer (some ⟨w.heap.size + 1,0,none⟩)]) rfl trivial (enters_of Tryz.func54 (by kernel_rfl) rfl)
   (bits_stops 2 (by omega) (w.heap.size + 1 + 1) (w.heap.size + 1) x n n0 n1 _ bN.cell (bX.alloc _).cell) (fun h k => h.trans k) (keeps2_put (by simp) (by simp)) (Below.refl _ _) (fun _ => rfl)
   (fun pre W => ((∀ p ∈ pre,p.2 = true) ∧ W.cell? ⟨w.heap.size,0,none⟩ = some (.int .i64 0) ∧ W.frozen? ⟨w.heap.size,0,none⟩ = false) ∧ Below w.heap.size w W)
   (fun c pre W => (c = .ret ∧ ∃ ini last,pre = ini ++ [last] ∧ (∀ p ∈ ini,p.2 = true) ∧ last.2 = false ∧ W.cell? ⟨w.heap.size,0,none⟩ = some (.int .i64 (last.1 : Int))) ∧ Below w.heap.size w W)
   (OwnFrom.and (Own.from (fun s A B row hs hg hr => ⟨hs.1,cell_kept hs.2.1 hg hr,(frozen_kept hs.2.1 hg hr).trans hs.2.2⟩) _) (ownFrom_below (Nat.le_refl _) (by simp; omega)))
   (fun c => OwnFrom.and (Own.from (fun s A B row hs hg hr => by obtain ⟨hc,ini,last,e1,e2,e3,e4⟩ := hs; exact ⟨hc,ini,last,e1,e2,e3,cell_kept e4 hg hr⟩) _) (ownFrom_below (Nat.le_refl _) (by simp; omega)))
   ⟨⟨by simp,((bC.alloc _).alloc _).cell,((bC.alloc _).alloc _).frozen⟩,hB0⟩
   (fun y => { tmps := #[.int .i64 x,.int .i64 n,undef,undef,.pointer (some ⟨w.heap.size,0,none⟩),.int .i64 (y.1 : Int),.bool y.2,.int .i64 x,.int .i64 n,.func (.func 54) #[] #[.pointer (some ⟨w.heap.size + 1 + 1,0,none⟩),.pointer (some ⟨w.heap.size + 1,0,none⟩)],.int .i64 (y.1 : Int),.bool y.2,undef,undef,undef],defers := [] }) ?assign ?body ?done ?stop
 case assign =>
   intro l y W K hK
   gi_wp2
   exact hK
 case body =>
   rintro l pre ⟨j,b⟩ W ⟨⟨hp,hcr,hfr⟩,hB⟩ hlt
   have HP := hQQ hp
   clear hp
   cases b with
   | false =>
     gi_wp2
     exact ⟨(KeepsOthers.setCell _ _ _).from _,⟨rfl,pre,(j,false),rfl,HP.out,rfl,World.cell?_setCell_same' _ _ _ (by rw [hcr]; rfl)⟩,hB.setCell (p:=⟨w.heap.size,0,none⟩) (Nat.le_refl _) _⟩
   | true =>
     gi_wp2
     exact ⟨KeepsFrom.refl _ _,Keeps2.refl _ _ _,⟨fun p hp' => (List.mem_append.1 hp').elim (HP.out p) (fun e => by simp at e; subst e; rfl),hcr,hfr⟩,hB⟩
 case done =>
   rintro D ys W hD rfl ⟨⟨hne,hcr,hfr⟩,hB⟩ hK
   have HF := hQQ (first_none hne)
   clear hne
   gi_wp2
   have hK' := (KeepsOthers.setCell W ⟨w.heap.size,0,none⟩ (.int .i64 (-1))).same D _ hK rfl
   refine ⟨by simp,.inl ⟨_,_,rfl,run_takeDeferred hK',?_⟩⟩
   have hc5 := cell_kept (World.cell?_setCell_same' W ⟨w.heap.size,0,none⟩ (.int .i64 (-1)) (by rw [hcr]; rfl)) (grownBy_putObj' _ D (.deferred none)) (fun r e => by cases e; exact ⟨_,hK',rfl⟩)
   refine ⟨.int .i64 (-1),?_,by rw [HF.out],(hB.setCell (p:=⟨w.heap.size,0,none⟩) (Nat.le_refl _) _).trans (belowK_b (w:=w) (Nat.le_refl _) _ D _ _ (by simp at hD; omega) hK' rfl rfl)⟩
   simp [results,Tryz.f36,go_sem,hc5]
 case stop =>
   rintro D c pre W hD ⟨k,hk,rfl⟩ ⟨⟨rfl,ini,last,e1,e2,e3,hcr⟩,hB⟩ hK
   have HF := hQQ (first_some hk e1 e2 e3)
   clear e1 e2 e3
   gi_wp2
   refine ⟨by simp,.inl ⟨_,_,rfl,run_takeDeferred hK,?_⟩⟩
   have hc5 := cell_kept hcr (grownBy_putObj' _ D (.deferred none)) (fun r e => by cases e; exact ⟨_,hK,rfl⟩)
   refine ⟨.int .i64 (last.1 : Int),?_,by rw [HF.out],hB.trans (belowK_b (w:=w) (Nat.le_refl _) W D _ _ (by simp at hD; omega) hK rfl rfl)⟩
   simp [results,Tryz.f36,go_sem,hc5]
end Go.Proofs.YtmafllcmkhgidaaGreatDoor
namespace Go.Proofs.YtmafllcmkhgidaaGreatDoor
open Go.ChangeShapes Go.WideShapes Go.ChangeAt Go.RowKit
def szV (c : Int) : Int := if c = 0 then 1 else if c = 1 then 2 else if c = 2 then 4 else if c = 3 then 8 else if c = 4 then 16 else 0
def slotsC (c : Int) : Int := if c = 0 then 32 else if c = 1 then 16 else if c = 2 then 8 else if c = 3 then 4 else if c = 4 then 2 else 0
def szT (k : Nat) : Int := 2 ^ k
theorem ways5c {k : Nat} (h : k ≤ 4) : k = 0 ∨ k = 1 ∨ k = 2 ∨ k = 3 ∨ k = 4 := by omega
theorem ways8c {k : Nat} (h : k < 8) : k = 0 ∨ k = 1 ∨ k = 2 ∨ k = 3 ∨ k = 4 ∨ k = 5 ∨ k = 6 ∨ k = 7 := by omega
theorem sz_none {c : Int} (h : c < 0 ∨ 4 < c) : szV c = 0 := by
 unfold szV
 rw [if_neg (by omega),if_neg (by omega),if_neg (by omega),if_neg (by omega),if_neg (by omega)]
theorem slotsC_none {c : Int} (h : c < 0 ∨ 4 < c) : slotsC c = 0 := by
 unfold slotsC
 rw [if_neg (by omega),if_neg (by omega),if_neg (by omega),if_neg (by omega),if_neg (by omega)]
theorem sz_b {k : Nat} (h : k ≤ 4) : 1 ≤ szV k ∧ szV k ≤ 16 := by
 rcases ways5c h with rfl | rfl | rfl | rfl | rfl <;> decide
theorem slots_of_sz {k : Nat} (h : k ≤ 4) : (32 : Int).tdiv (szV k) = slotsC k ∧ 2 ≤ slotsC k ∧ slotsC k ≤ 32 := by
 rcases ways5c h with rfl | rfl | rfl | rfl | rfl <;> decide
theorem slotsC_eq {c : Int} (h : 0 ≤ c ∧ c ≤ 4) : slotsC c = slotsV c := by
 obtain ⟨k,rfl⟩ : ∃ k : Nat,c = k := ⟨c.toNat,by omega⟩
 rcases ways5c (show k ≤ 4 by omega) with rfl | rfl | rfl | rfl | rfl <;> decide
theorem slotsC_b (c : Int) : 0 ≤ slotsC c ∧ slotsC c ≤ 32 := by unfold slotsC; (repeat' split) <;> omega
theorem szT_sz {k : Nat} (h : k < 5) : szT k = szV k := by
 rcases ways5c (show k ≤ 4 by omega) with rfl | rfl | rfl | rfl | rfl <;> rfl
def laidL {H : Type} : List (String × DataW H) := [("assart/class.sizes", Rows.laid_assart_class_sizes)]
theorem gSizes : Tryz.prog.globalNamed "assart/class.sizes" = some 0 := by kernel_rfl
theorem tSizes : (Tryz.prog.globals[0]?).map (·.type) = some 29 := by kernel_rfl
theorem door_met (os : Os) (args : Array Value) : laidMetH Tryz.prog laidL ((World.doorLaid Tryz.prog 400 os).forCall (fun _ _ => 0) ⟨#[],args,[]⟩).memory :=
 laidMetH_of_parts3 (fuel:=8) (laidMet_of_run' 8 (by kernel_rfl) (by kernel_rfl)) (by kernel_rfl) (by kernel_rfl)
def Sizes (W : World) : Prop := ∃ b o cap,W.cell? ⟨0,0,none⟩ = some (.slice (some ⟨b,o,none⟩) 8 cap) ∧ 8 ≤ cap ∧ b < W.heap.size ∧ ∀ i : Nat,i < 8 → W.cell? ⟨b,o + i,none⟩ = some (.int .i64 (szT i))
theorem of_laid {W : World} (h : laidMetH Tryz.prog laidL W) : Sizes W := by
 rw [MakeChecks.laidMetH_plain _ _ _ (by kernel_rfl)] at h
 obtain ⟨ps,⟨g0,t0,cs0,f0,p0,q0,hg0,ht0,hv0,hd0,hrest⟩,_,_⟩ := h
 obtain rfl := Option.some.inj (gSizes.symm.trans hg0)
 obtain rfl := Option.some.inj (tSizes.symm.trans ht0)
 have hcell := World.var?_cell hg0 hv0 0
 rcases open_ints Tryz.underlying29 Tryz.underlying3 (by kernel_rfl) hd0 with ⟨_,hx⟩ | ⟨⟨b,o,spot⟩,len,cap,zs,hcs,_,hlc,_,hzl,hx,hc,_⟩
 · simp [Rows.laid_assart_class_sizes] at hx
 simp only [Prod.mk.injEq,Rows.laid_assart_class_sizes,DataW.slice.injEq] at hx
 obtain ⟨⟨h1,h2⟩,_⟩ := hx
 have hcap : zs.length = cap := by simpa using hzl
 have hz : zs.take len = [1,2,4,8,16,32,64,128] := by
   have inj : ∀ l : List Int,([.lit (.int .i64 1),.lit (.int .i64 2),.lit (.int .i64 4),.lit (.int .i64 8),.lit (.int .i64 16),.lit (.int .i64 32),.lit (.int .i64 64),.lit (.int .i64 128)] : List (DataW Unit)) = lits .i64 l → l = [1,2,4,8,16,32,64,128] := by
     intro l hl
     match l with
     | [] => simp [lits] at hl
     | [a] => simp [lits] at hl
     | [a,b] => simp [lits] at hl
     | [a,b,c] => simp [lits] at hl
     | [a,b,c,d] => simp [lits] at hl
     | [a,b,c,d,e] => simp [lits] at hl
     | [a,b,c,d,e,f] => simp [lits] at hl
     | [a,b,c,d,e,f,g] => simp [lits] at hl
     | [a,b,c,d,e,f,g,h] => simp [lits] at hl; simp; omega
     | a :: b :: c :: d :: e :: f :: g :: h :: i :: r => simp [lits] at hl
   exact inj _ h1
 have hlen : len = 8 := by
   have := congrArg List.length hz
   simp at this
   omega
 subst hlen
 have hall : ∀ i : Nat,i < 8 → zs.getD i 0 = szT i := by
   intro i hi
   have h3 : (zs.take 8).getD i 0 = ([1,2,4,8,16,32,64,128] : List Int).getD i 0 := by rw [hz]
   have h4 : (zs.take 8).getD i 0 = zs.getD i 0 := by simp [List.getD,List.getElem?_take,hi]
   rw [← h4,h3]
   rcases ways8c hi with rfl | rfl | rfl | rfl | rfl | rfl | rfl | rfl <;> rfl
 have hlz : 8 ≤ zs.length := by omega
 have hspot : spot = none := by simpa [Addr.add] using World.cell?_spot (hc 0 (by omega))
 subst hspot
 have hcells : ∀ i : Nat,i < 8 → W.cell? ⟨b,o + i,none⟩ = some (.int .i64 (szT i)) := fun i hi => by
   rw [← addr_add,hc i (by omega),hall i hi]
 refine ⟨b,o,cap,?_,by omega,lt_of_cell (hcells 0 (by omega)),hcells⟩
 rw [hcell]
 have : cs0 = #[.slice (some ⟨b,o,none⟩) 8 cap] := by cases cs0; simpa using hcs
 rw [this]; rfl
theorem cl_size (c : Int) (w : World) (h : Sizes w) : Calls Tryz.prog 8 #[.int .i64 c] w fun e w' => e = .returned (.int .i64 (szV c)) ∧ w' = w := by
 by_cases hc : 0 ≤ c ∧ c < 5
 · obtain ⟨k,rfl⟩ : ∃ k : Nat,c = k := ⟨c.toNat,by omega⟩
   obtain ⟨b,o,cap,h1,h2,h3,h4⟩ := h
   have hk : k < 5 := by omega
   have x1 := h4 k (by omega)
   rw [szT_sz hk] at x1
   have d0 : decide ((k : Int) < 0) = false := by simp
   have d1 : decide ((5 : Int) ≤ (k : Int)) = false := by simp; omega
   have d1b : decide (5 ≤ k) = false := by simp; omega
   have d2 : (k : Int) < 8 := by omega
   have d3 : k < 8 := by omega
   clear h4 hc
   go_enter Tryz.func8,Tryz.ntmps8
   go_wp2_with fail
   go_ret
   exact ⟨rfl,rfl⟩
 · rw [sz_none (by omega)]
   by_cases c0 : c < 0
   · have d0 : decide (c < 0) = true := by simp; omega
     go_enter Tryz.func8,Tryz.ntmps8
     go_wp2_with fail
     go_ret
     exact ⟨rfl,rfl⟩
   · have d0 : decide (c < 0) = false := by simp; omega
     have d1 : decide (5 ≤ c) = true := by simp; omega
     go_enter Tryz.func8,Tryz.ntmps8
     go_wp2_with fail
     go_ret
     exact ⟨rfl,rfl⟩
theorem cl_slots (c : Int) (w : World) (h : Sizes w) : Calls Tryz.prog 9 #[.int .i64 c] w fun e w' => e = .returned (.int .i64 (slotsC c)) ∧ w' = w := by
 by_cases hc : 0 ≤ c ∧ c < 5
 · obtain ⟨k,rfl⟩ : ∃ k : Nat,c = k := ⟨c.toNat,by omega⟩
   have hk : k ≤ 4 := by omega
   have sb := sz_b hk
   obtain ⟨s1,s2,s3⟩ := slots_of_sz hk
   have d2 : (szV k == 0) = false := by simp; omega
   have q0 : IntKind.i64.wrap ((32 : Int).tdiv (szV k)) = slotsC k := by rw [s1]; exact wrap_in (by omega) (by omega)
   clear s1 hc
   go_enter Tryz.func9,Tryz.ntmps9
   go_wp2_with fail
   refine (cl_size _ _ h).mono ?_
   rintro e w1 ⟨rfl,rfl⟩
   go_wp2_with fail
   go_ret
   exact ⟨rfl,rfl⟩
 · have HK : Hid (∀ W,Sizes W → Calls Tryz.prog 8 #[.int .i64 c] W fun e w' => e = .returned (.int .i64 0) ∧ w' = W) := fun W hW => by
     have := cl_size c W hW
     rwa [sz_none (by omega)] at this
   rw [slotsC_none (by omega)]
   go_enter Tryz.func9,Tryz.ntmps9
   go_wp2_with fail
   refine (HK.out _ h).mono ?_
   rintro e w1 ⟨rfl,rfl⟩
   go_wp2_with fail
   go_ret
   exact ⟨rfl,rfl⟩
theorem cl_slotsW (c : Int) (w : World) (h : Sizes w) : Calls Tryz.prog 9 #[.int .i64 c] w fun e w' => e = .returned (.int .i64 (slotsC c)) ∧ w = w' := (cl_slots c w h).mono fun e w' q => ⟨q.1,q.2.symm⟩
end Go.Proofs.YtmafllcmkhgidaaGreatDoor
namespace Go.Proofs.YtmafllcmkhgidaaGreatDoor
open Go.RowKit Go.Sort Go.Maps Go.Shelf
def SzAt (b : Nat) (W : World) : Prop := ∃ o cap,W.cell? ⟨0,0,none⟩ = some (.slice (some ⟨b,o,none⟩) 8 cap) ∧ 8 ≤ cap ∧ b < W.heap.size ∧ ∀ i : Nat,i < 8 → W.cell? ⟨b,o + i,none⟩ = some (.int .i64 (szT i))
theorem SzAt.sizes {b : Nat} {w : World} (h : SzAt b w) : Sizes w := ⟨b,h⟩
theorem SzAt.lt {b : Nat} {w : World} (h : SzAt b w) : b < w.heap.size := by obtain ⟨_,_,_,_,h,_⟩ := h; exact h
theorem SzAt.lt0 {b : Nat} {w : World} (h : SzAt b w) : 0 < w.heap.size := by obtain ⟨_,_,h,_⟩ := h; exact lt_of_cell h
theorem SzAt.keep {b : Nat} {w w' : World} {S : Nat → Prop} (h : SzAt b w) (t : Turned S w w') (n0 : ¬ S 0) (nb : ¬ S b) : SzAt b w' := by
 have hc : ∀ k,¬ S k → ∀ j v,w.cell? ⟨k,j,none⟩ = some v → w'.cell? ⟨k,j,none⟩ = some v := fun k nk j v q => by
   rw [World.cell?_of_block (w:=w) (t.block k (lt_of_cell q) nk)]; exact q
 obtain ⟨o,cap,h1,h2,h3,h4⟩ := h
 exact ⟨o,cap,hc _ n0 _ _ h1,h2,Nat.lt_of_lt_of_le h3 t.size,fun i hi => hc _ nb _ _ (h4 i hi)⟩
theorem SzAt.more {b : Nat} {w w' : World} (h : SzAt b w) (t : More w w') : SzAt b w' := h.keep t (fun q => q) (fun q => q)
theorem pl_First {c : Cfg} (R : c.Ok) {n : Nat} (H : HdIn c.pg c.st n) (F : Nat → Prop) (p : Nat) (kn : Int → Option Int) (D : List KV) (cl : Int) (w : World) (hv : ViewAt w F p kn D) (hk : OkK kn) (hD : InvD n D) (b : Nat) (hs : SzAt b w) (nF0 : ¬ F 0) (nFb : ¬ F b) :
   Calls Tryz.prog 34 #[.pointer (some ⟨p,0,none⟩),.agg c.arr,.int .i64 cl] w (WentV w F p kn (fun x => .int .i64 x) (plFirstN c.pg c.st cl (slotsC cl).toNat 1 kn D)) := by
 obtain ⟨Rr,hRr⟩ : ∃ Rr,plFirstN c.pg c.st cl (slotsC cl).toNat 1 kn D = Rr := ⟨_,rfl⟩
 rw [hRr]
 obtain ⟨w1,e1,hl1,m1,s1⟩ := entry1 w (.cells c.arr 28)
 have nFl : ¬ F w.heap.size := fun q => by have := hv.lt _ q; omega
 have MM := hQQ m1
 have L0 := hQQ hl1
 have M0 : Hid (MidV w1 w1 F (fun _ => False) p kn n D F) := hQQ (MidV.begin (hv.more m1) hD)
 have KL : Hid (∀ wr D' F',MidV w1 wr F (fun _ => False) p kn n D' F' → wr.heap[w.heap.size]? = some (.cells c.arr 28 (0,0))) := hQQ fun wr D' F' h => mid_own h L0.out nFl (fun q => q)
 have NEED : Hid (∀ a w2,Rr = .need a → DeadAt w2 p a → Turned (fun b => F b ∨ False) w1 w2 → WentV w F p kn (fun x : Int => Value.int .i64 x) Rr (.panicked (endOf p)) w2) := hQQ fun a w2 e hd ht => mid_need MM.out (fun _ q => q.elim) e hd ht
 have DONE : Hid (∀ x w2 D' F',Rr = .ok x D' → MidV w1 w2 F (fun _ => False) p kn n D' F' → WentV w F p kn (fun x : Int => Value.int .i64 x) Rr (.returned ((fun x : Int => Value.int .i64 x) x)) w2) := hQQ fun x w2 D' F' e h => mid_done MM.out (fun _ q => q.elim) h e
 have HK := hQQ hk
 have HR := hQQ R
 have HH := hQQ H
 clear hl1 m1 hv hD hk R H nFl
 have SZ : Hid (∀ wr D' F',MidV w1 wr F (fun _ => False) p kn n D' F' → Sizes wr) := hQQ fun wr D' F' h => ((hs.more MM.out).keep h.turn (by rintro (q | q); exact nF0 q; exact q) (by rintro (q | q); exact nFb q; exact q)).sizes
 have HRr := hQQ hRr
 have hsl := slotsC_b cl
 clear hRr hs nF0 nFb
 go_enter Tryz.func34,Tryz.ntmps34
 go_wp2_with fail
 go_loopw [7] (fun v7 wr => ∃ (f : Int) (k : Nat) (D' : List KV) (F' : Nat → Prop),v7 = .int .i64 f ∧ 1 ≤ f ∧ f + k = slotsC cl + 1 ∧ MidV w1 wr F (fun _ => False) p kn n D' F' ∧ plFirstN c.pg c.st cl k f kn D' = Rr) (fun v7 _ => (slotsC cl + 1 - intOf v7).toNat)
 case atStart => exact ⟨1,(slotsC cl).toNat,D,F,rfl,by omega,by omega,M0.out,HRr.out⟩
 case round =>
   clear HRr
   obtain ⟨f,k,D',F',rfl,hf1,hfk,MI,hrest⟩ := hrel
   have MI := hQQ MI
   go_wp2_with fail
   refine (cl_slotsW cl wr (SZ.out _ _ _ MI.out)).mono ?_
   rintro e w9 ⟨rfl,rfl⟩
   match k with
   | 0 =>
     have d1 : decide (f ≤ slotsC cl) = false := by simp; omega
     have FIN := hQQ (DONE.out (-1) _ D' F' hrest.symm MI.out)
     clear hrest
     go_wp2_with fail
     go_ret
     exact FIN.out
   | k + 1 =>
     have d1 : decide (f ≤ slotsC cl) = true := by simp; omega
     have qf : IntKind.i64.wrap (f + 1) = f + 1 := wrap_in (by omega) (by omega)
     have RI := hQQ (show bindP (plLeadP c.pg (headV c.pg c.st cl f)) (fun q => if q = -1 then plFirstN c.pg c.st cl k (f + 1) else pureP q) kn D' = Rr from hrest)
     clear hrest
     go_wp2_with fail
     refine wp_region_anyC (TrC c w.heap.size) (by kernel_rfl) ?_
     have MR := hQQ (MI.out.more ((More.refl wr).drewN 1))
     change anyC _ _ _ _ _ _ _ _ (wr.drewN 1)
     generalize wr.drewN 1 = wq at MR ⊢
     generalize hA : Act.mk _ _ = A
     have HF : AG 25 A [(0,.pointer (some ⟨p,0,none⟩)),(1,.agg c.arr),(2,.int .i64 cl),(4,.pointer (some ⟨w.heap.size,0,none⟩)),(7,.int .i64 f)] := by
       rw [← hA]
       refine ⟨⟨Nat.le_of_ble_eq_true rfl,rfl⟩,?_⟩
       intro z hz; simp only [List.mem_cons,List.not_mem_nil,or_false] at hz; rcases hz with rfl | rfl | rfl | rfl | rfl <;> rfl
     refine anyC_start (fun a W => ∃ (u15 u16 u17 u18 u19 u20 : Value) (x9 : Int) (D9 : List KV) (F9 : Nat → Prop),a = (Act.put (Act.put (Act.put (Act.put (Act.put (Act.put (Act.put (Act.put A (some 15) u15) (some 16) u16) (some 17) u17) (some 18) u18) (some 19) u19) (some 20) u20) (some 21) (.int .i64 x9)) (some 8) (.int .i64 x9)) ∧ MidV w1 W F (fun _ => False) p kn n D9 F9 ∧ (if x9 = -1 then plFirstN c.pg c.st cl k (f + 1) else pureP x9) kn D9 = Rr) (fun W => WentV w F p kn (fun x : Int => Value.int .i64 x) Rr (.panicked (endOf p)) W) (endOf p) (fun a W hd h => ⟨hd,h⟩) (fun _ _ _ _ _ h => h) ?_ ?_
     · skip
       rintro a wa ⟨u15,u16,u17,u18,u19,u20,x9,D9,F9,rfl,MS,RS⟩
       rw [← hA]
       replace MS := hQQ MS
       clear HF hA MR RI MI
       go_simp
       by_cases hx : x9 = -1
       · have d2 : (x9 != -1) = false := by simp [hx]
         rw [if_pos hx] at RS
         replace RS := hQQ RS
         clear hx
         go_wp2_with fail
         go_roundw
         case rel => exact ⟨f + 1,k,D9,F9,by go_num,by omega,by omega,MS.out,RS.out⟩
         case measure => simp [intOf]; omega
       · have d2 : (x9 != -1) = true := by simp [hx]
         rw [if_neg hx] at RS
         have FIN := hQQ (DONE.out x9 wa D9 F9 RS.symm MS.out)
         clear RS hx
         go_wp2_with fail
         go_ret
         exact FIN.out
     intro QQ FINE FIND FINQ
     clear hA
     refine anyC_takeD (i:=0) (v:=.pointer (some ⟨p,0,none⟩)) (some 15) rfl rfl (by kernel_rfl) (by kernel_rfl) (by kernel_rfl) (fun c a w => FINQ c a _ _ w) (KL.out _ _ _ MR.out) (by exact yieldsC_moveG (wanted_none rfl) _ rfl (HF.get 0 rfl)) ?_
     replace HF := HF.put 15 (.pointer (some ⟨p,0,none⟩)) (by decide) rfl
     generalize hB1_15 : Act.put _ _ _ = A at HF ⊢
     refine anyC_takeD (i:=1) (v:=.agg c.arr) (some 16) rfl rfl (by kernel_rfl) (by kernel_rfl) (by kernel_rfl) (fun c a w => FINQ c a _ _ w) (KL.out _ _ _ MR.out) (by exact yieldsC_row (C:=(TrC c w.heap.size)) (wanted_none rfl) 28 _ rfl w.heap.size (HF.get 4 rfl) 28 _ _ _ (fun W hW => hW) Tryz.underlying28 rfl (by kernel_rfl)) ?_
     replace HF := HF.put 16 (.agg c.arr) (by decide) rfl
     generalize hB2_16 : Act.put _ _ _ = A at HF ⊢
     refine anyC_takeD (i:=2) (v:=.agg c.arr) (some 17) rfl rfl (by kernel_rfl) (by kernel_rfl) (by kernel_rfl) (fun c a w => FINQ c a _ _ w) (KL.out _ _ _ MR.out) (by exact yieldsC_row (C:=(TrC c w.heap.size)) (wanted_none rfl) 28 _ rfl w.heap.size (HF.get 5 rfl) 28 _ _ _ (fun W hW => hW) Tryz.underlying28 rfl (by kernel_rfl)) ?_
     replace HF := HF.put 17 (.agg c.arr) (by decide) rfl
     generalize hB3_17 : Act.put _ _ _ = A at HF ⊢
     refine anyC_takeD (i:=3) (v:=.int .i64 cl) (some 18) rfl rfl (by kernel_rfl) (by kernel_rfl) (by kernel_rfl) (fun c a w => FINQ c a _ _ w) (KL.out _ _ _ MR.out) (by exact yieldsC_moveG (wanted_none rfl) _ rfl (HF.get 5 rfl)) ?_
     replace HF := HF.put 18 (.int .i64 cl) (by decide) rfl
     generalize hB4_18 : Act.put _ _ _ = A at HF ⊢
     refine anyC_takeD (i:=4) (v:=.int .i64 f) (some 19) rfl rfl (by kernel_rfl) (by kernel_rfl) (by kernel_rfl) (fun c a w => FINQ c a _ _ w) (KL.out _ _ _ MR.out) (by exact yieldsC_moveG (wanted_none rfl) _ rfl (HF.get 8 rfl)) ?_
     replace HF := HF.put 19 (.int .i64 f) (by decide) rfl
     generalize hB5_19 : Act.put _ _ _ = A at HF ⊢
     refine anyC_oneK (i:=5) (some 20) (by kernel_rfl) rfl (wanted_none rfl) rfl (fun K hK => ?_)
     refine wp_call3 (v0:=.agg c.arr) (v1:=.int .i64 cl) (v2:=.int .i64 f) rfl (HF.get 2 rfl) (HF.get 1 rfl) (HF.get 0 rfl) (enters_of Tryz.func59 (by kernel_rfl) rfl) ?_
     refine (y_head HR.out wq cl f).mono ?_
     rintro e w4 ⟨rfl,h4⟩
     have M4 := hQQ (MR.out.more h4)
     clear h4
     refine hK _ _ (KL.out _ _ _ M4.out) ?_
     clear hK K
     replace HF := HF.put 20 (.int .i64 (headV c.pg c.st cl f)) (by decide) rfl
     generalize hB6_20 : Act.put _ _ _ = A at HF ⊢
     refine anyC_oneK (i:=6) (some 21) (by kernel_rfl) rfl (wanted_none rfl) rfl (fun K hK => ?_)
     refine wp_call3 (v0:=.pointer (some ⟨p,0,none⟩)) (v1:=.agg c.arr) (v2:=.int .i64 (headV c.pg c.st cl f)) rfl (HF.get 5 rfl) (HF.get 4 rfl) (HF.get 0 rfl) (enters_of Tryz.func58 (by kernel_rfl) rfl) ?_
     refine (pl_leads HR.out HH.out F' p kn D' (headV c.pg c.st cl f) (head_b HH.out).2.2 (head_b HH.out).2.1 w4 M4.out.view HK.out M4.out.inv).mono ?_
     intro e w5 he
     rcases M4.out.step (More.refl _) HK.out (good_plLead HH.out (head_b HH.out).2.1) he with ⟨a',hE,rfl,hd',ht',_⟩ | ⟨x5,D5,F5,hE,rfl,M5,hq5,_,_⟩
     · exact FIND _ _ HF.1.2 (NEED.out a' w5 (RI.out.symm.trans (bindP_need hE)) hd' ht')
     have R5 := hQQ ((bindP_ok hE).symm.trans RI.out)
     have M5 := hQQ M5
     clear he hE
     refine hK _ _ (KL.out _ _ _ M5.out) ?_
     clear hK K
     replace HF := HF.put 21 (.int .i64 x5) (by decide) rfl
     generalize hB7_21 : Act.put _ _ _ = A at HF ⊢
     refine anyC_takeD (i:=7) (v:=.int .i64 x5) (some 8) rfl rfl (by kernel_rfl) (by kernel_rfl) (by kernel_rfl) (fun c a w => FINQ c a _ _ w) (KL.out _ _ _ M5.out) (by exact yieldsC_assign (wanted_none rfl) _ rfl (HF.get 0 rfl)) ?_
     replace HF := HF.put 8 (.int .i64 x5) (by decide) rfl
     generalize hB8_8 : Act.put _ _ _ = A at HF ⊢
     exact anyC_done (by kernel_rfl) (FINE _ _ ⟨(.pointer (some ⟨p,0,none⟩)),(.agg c.arr),(.agg c.arr),(.int .i64 cl),(.int .i64 f),(.int .i64 (headV c.pg c.st cl f)),x5,D5,F5,by rw [← hB8_8,← hB7_21,← hB6_20,← hB5_19,← hB4_18,← hB3_17,← hB2_16,← hB1_15],M5.out,R5.out⟩)
theorem g_count {c : Cfg} (R : c.Ok) {n : Nat} (H : PgIn c.pg c.st n) (F : Nat → Prop) (p : Nat) (kn : Int → Option Int) (D : List KV) (q k : Int) (hn : n ≤ 10000) (hq : isPage c.pg q = true) (w : World) (hv : ViewAt w F p kn D) (hk : OkK kn) (hD : InvD n D) :
   Calls Tryz.prog 63 #[.agg (pgArr c p q k)] w (WentV w F p kn (fun x => .int .i64 x) (readP (cA c.pg c.st q) kn D)) := by
 obtain ⟨Rr,hRr⟩ : ∃ Rr,readP (cA c.pg c.st q) kn D = Rr := ⟨_,rfl⟩
 rw [hRr]
 obtain ⟨w1,e1,hl1,m1,s1⟩ := entry1 w (.cells (pgArr c p q k) 74)
 have MM := hQQ m1
 have L0 := hQQ hl1
 have c0 := (show w1.cell? ⟨w.heap.size,0,none⟩ = some (.pointer (some ⟨p,0,none⟩)) by rw [cell_of_row w1 _ _ _ _ _ hl1]; exact pg_v c p q k)
 have c25 := (show w1.cell? ⟨w.heap.size,25,none⟩ = some (.int .i64 q) by rw [cell_of_row w1 _ _ _ _ _ hl1]; exact pg_n c p q k)
 have c26 := (show w1.cell? ⟨w.heap.size,26,none⟩ = some (.int .i64 k) by rw [cell_of_row w1 _ _ _ _ _ hl1]; exact pg_c c p q k)
 have nFl : ¬ F w.heap.size := fun z => by have := hv.lt _ z; omega
 have M0 : Hid (MidV w1 w1 F (fun _ => False) p kn n D F) := hQQ (MidV.begin (hv.more m1) hD)
 have NEED : Hid (∀ a w2,Rr = .need a → DeadAt w2 p a → Turned (fun b => F b ∨ False) w1 w2 → WentV w F p kn (fun x : Int => Value.int .i64 x) Rr (.panicked (endOf p)) w2) := hQQ fun a w2 e hd ht => mid_need MM.out (fun _ q => q.elim) e hd ht
 have DONE : Hid (∀ x w2 D' F',Rr = .ok x D' → MidV w1 w2 F (fun _ => False) p kn n D' F' → WentV w F p kn (fun x : Int => Value.int .i64 x) Rr (.returned ((fun x : Int => Value.int .i64 x) x)) w2) := hQQ fun x w2 D' F' e h => mid_done MM.out (fun _ q => q.elim) h e
 have HK := hQQ hk
 have HR := hQQ R
 clear hl1 m1 hv hD hk R nFl
 have hb := (page_b H hq).2.1
 have YB := hQQ (fun W => by have := g_countA HR.out W q; rw [page1 hq] at this; exact this)
 have HRr := hQQ hRr
 have HB := hQQ hb
 have pg2 := HR.out.pg2
 clear hRr hb hq
 go_enter Tryz.func63,Tryz.ntmps63
 go_wp2_with fail
 clear e1
 refine wp_region_more_tail 7 (by kernel_rfl) (by kernel_rfl) ?_
 simp only [List.take_succ_cons,List.take_zero,List.drop_succ_cons,List.drop_zero]
 iterate 3
   with_reducible refine wpQuiet_step (fun K hK => ?_)
   go_simp
   first
   | (refine hK _ ?_; clear hK K)
   | (apply Exists.intro
      refine ⟨fun W hW => ?_,hK _ ?_⟩
      first
      | (have c1' := hW.cell c0; go_simp; try rfl)
      clear hK K)
 refine wpQuiet_load_sub rfl 28 _ rfl w.heap.size 1 rfl 74 _ c.arr _ _ (fun W hW => hW.block L0.out) (pg_part c p q k) Tryz.underlying28 rfl (by kernel_rfl) ?_
 iterate 2
   with_reducible refine wpQuiet_step (fun K hK => ?_)
   go_simp
   first
   | (refine hK _ ?_; clear hK K)
   | (apply Exists.intro
      refine ⟨fun W hW => ?_,hK _ ?_⟩
      first
      | (have c1' := hW.cell c25; go_simp; try rfl)
      clear hK K)
 iterate 1
   with_reducible refine wpQuiet_step (fun K hK => ?_)
   go_simp
   first
   | (refine hK _ ?_; clear hK K)
   | (apply Exists.intro
      refine ⟨fun W hW => ?_,hK _ ?_⟩
      first
      | (go_at_call 69; exact Calls.more hW (YB.out W))
      | (go_simp; try rfl)
      clear hK K)
 refine wpQuiet_nil ?_
 intro w2 h2
 have M2 := hQQ (M0.out.more h2)
 clear h2 c0 c25 c26
 go_wp2_with fail
 refine (read_any F p kn D (cA c.pg c.st q) w2 M2.out.view (by have := HB.out; have := M2.out.inv.len; unfold W64; omega)).mono ?_
 intro e w3 he
 rcases M2.out.step (More.refl _) HK.out (good_read n HB.out.2.1) he with ⟨a',hE,rfl,hd',ht',_⟩ | ⟨x3,D3,F3,hE,rfl,M3,hq3,_,_⟩
 · exact ⟨rfl,NEED.out a' w3 (HRr.out.symm.trans hE) hd' ht'⟩
 have FIN := hQQ (DONE.out x3 w3 D3 F3 (HRr.out.symm.trans hE) M3)
 clear he hE M3
 go_wp2_with fail
 go_ret
 exact FIN.out
theorem slots_in (k : Int) : 0 ≤ slotsC k ∧ slotsC k ≤ 32 := by unfold slotsC; (repeat' split) <;> omega
theorem g_slots (k : Int) {bt : Nat} (w : World) (h : SzAt bt w) : Calls Tryz.prog 9 #[.int .i64 k] w (Gives w (.int .i64 (slotsC k))) := (cl_slots k w ⟨bt,h⟩).mono fun e w' q => ⟨q.1,q.2 ▸ More.refl _⟩
theorem g_there (k : Int) {bt : Nat} (w : World) (h : SzAt bt w) : Calls Tryz.prog 47 #[.int .i64 k] w (Gives w (.bool (slotsC k != 0))) := by
 have HS := hQQ h
 clear h
 go_enter Tryz.func47,Tryz.ntmps47
 go_wp2_with fail
 refine (g_slots k w HS.out).mono ?_
 obtain ⟨z,hz⟩ : ∃ z,slotsC k = z := ⟨_,rfl⟩
 rw [hz]
 have HZ := hQQ hz
 clear hz
 rintro e w2 ⟨rfl,h2⟩
 have M2 := hQQ h2
 clear h2
 go_wp2_with fail
 go_ret
 exact ⟨by rw [HZ.out]; rfl,M2.out⟩
theorem g_open (c : Cfg) (p : Nat) (q k b : Int) {bt : Nat} (w : World) (h : SzAt bt w) (hb : 0 ≤ slCountV b (slotsC k) ∧ slCountV b (slotsC k) ≤ 32) :
   Calls Tryz.prog 49 #[.agg (pgArr c p q k),.int .i64 b] w (Gives w (.int .i64 (slotsC k - slCountV b (slotsC k)))) := by
 obtain ⟨w1,e1,hl1,m1,s1⟩ := entry1 w (.cells (pgArr c p q k) 74)
 have MM := hQQ m1
 have L0 := hQQ hl1
 have c0 := (show w1.cell? ⟨w.heap.size,0,none⟩ = some (.pointer (some ⟨p,0,none⟩)) by rw [cell_of_row w1 _ _ _ _ _ hl1]; exact pg_v c p q k)
 have c25 := (show w1.cell? ⟨w.heap.size,25,none⟩ = some (.int .i64 q) by rw [cell_of_row w1 _ _ _ _ _ hl1]; exact pg_n c p q k)
 have c26 := (show w1.cell? ⟨w.heap.size,26,none⟩ = some (.int .i64 k) by rw [cell_of_row w1 _ _ _ _ _ hl1]; exact pg_c c p q k)
 have HS := hQQ (h.more m1)
 have hs := slots_in k
 have SC := hQQ (fun W => o_count b (slotsC k) (by omega) (by omega) W)
 have GS := hQQ (g_slots k w1 HS.out)
 obtain ⟨z,hz⟩ : ∃ z,slotsC k = z := ⟨_,rfl⟩
 obtain ⟨y,hy⟩ : ∃ y,slCountV b (slotsC k) = y := ⟨_,rfl⟩
 rw [hy] at SC hb ⊢
 rw [hz] at SC GS hs ⊢
 have qs : IntKind.i64.wrap (z - y) = z - y := wrap_in (by omega) (by omega)
 clear hl1 m1 h hz hy hs hb
 go_enter Tryz.func49,Tryz.ntmps49
 go_wp2_with fail
 clear e1 c0 c25 c26
 refine GS.out.mono ?_
 rintro e w2 ⟨rfl,h2⟩
 have M2 := hQQ h2
 clear h2
 go_wp2_with fail
 refine (SC.out w2).mono ?_
 rintro e w3 ⟨rfl,h3⟩
 have FIN := hQQ (MM.out.trans (M2.out.trans h3))
 clear h3
 go_wp2_with fail
 go_ret
 exact ⟨rfl,FIN.out⟩
theorem gd_moves {c : Cfg} (R : c.Ok) {n : Nat} (H : HdIn c.pg c.st n) (p : Nat) (nd q k was : Int) (gb wb : Nat) (w : World) (hd : DeadAt w p nd) (hg : w.heap[gb]? = some (.cells (pgArr c p q k) 74 (0,0))) (hw : w.heap[wb]? = some (.cells #[.int .i64 was] 3 (0,0))) (u : FrameMode) :
   CallsD Tryz.prog 64 #[.pointer (some ⟨gb,0,none⟩),.pointer (some ⟨wb,0,none⟩)] u w (fun e u' w' => u' = u ∧ Gives w (.tuple #[]) e w') := by
 have L0 := hQQ hg
 have B0 := hQQ hw
 have c0 := (show w.cell? ⟨gb,0,none⟩ = some (.pointer (some ⟨p,0,none⟩)) by rw [cell_of_row w _ _ _ _ _ hg]; exact pg_v c p q k)
 have c25 := (show w.cell? ⟨gb,25,none⟩ = some (.int .i64 q) by rw [cell_of_row w _ _ _ _ _ hg]; exact pg_n c p q k)
 have c26 := (show w.cell? ⟨gb,26,none⟩ = some (.int .i64 k) by rw [cell_of_row w _ _ _ _ _ hg]; exact pg_c c p q k)
 have cw := (box_cells hw).1
 have C0 := hQQ c0
 have C25 := hQQ c25
 have C26 := hQQ c26
 have DD : Hid (∀ W,More w W → DeadAt W p nd) := hQQ fun W m => hd.keep m (fun q => q)
 have HR := hQQ R
 have HH := hQQ H
 clear hg hw hd R H
 go_enter_d Tryz.func64,Tryz.ntmps64
 go_wp2_with (refine wpList_load_sub rfl 28 _ rfl gb 1 rfl 74 _ c.arr _ _ L0.out (pg_part c p q k) Tryz.underlying28 rfl (by kernel_rfl) ?_)
 refine (pd_Unlink HR.out HH.out p nd q k was w (DD.out _ (More.refl _))).mono ?_
 rintro e w2 ⟨rfl,h2⟩
 have M2 := hQQ h2
 have L2 := hQQ (h2.block L0.out)
 have C0 := hQQ (h2.cell C0.out)
 have C25 := hQQ (h2.cell C25.out)
 have C26 := hQQ (h2.cell C26.out)
 have CN := hQQ (fun W (hW : More w2 W) => gd_count HR.out p nd q k W (DD.out _ (M2.out.trans hW)))
 have LN := hQQ (fun W (hW : More w2 W) => pd_Link HR.out HH.out p nd q k 0 W (DD.out _ (M2.out.trans hW)))
 obtain ⟨z,hz⟩ : ∃ z,(headV c.pg c.st k 0 != 0 && isPage c.pg q) = z := ⟨_,rfl⟩
 rw [hz] at LN
 clear h2 c0 c25 c26 cw hz
 go_wp2_with fail
 refine wp_region_more (by kernel_rfl) (by kernel_rfl) ?_
 iterate 2
   with_reducible refine wpQuiet_step (fun K hK => ?_)
   go_simp
   first
   | (refine hK _ ?_; clear hK K)
   | (apply Exists.intro
      refine ⟨fun W hW => ?_,hK _ ?_⟩
      first
      | (have c1' := hW.cell C0.out; go_simp; try rfl)
      clear hK K)
 iterate 1
   with_reducible refine wpQuiet_step (fun K hK => ?_)
   go_simp
   first
   | (refine hK _ ?_; clear hK K)
   | (apply Exists.intro
      refine ⟨fun W hW => ?_,hK _ ?_⟩
      first
      | (go_simp; try rfl)
      clear hK K)
 refine wpQuiet_load_sub rfl 28 _ rfl gb 1 rfl 74 _ c.arr _ _ (fun W hW => hW.block L2.out) (pg_part c p q k) Tryz.underlying28 rfl (by kernel_rfl) ?_
 iterate 4
   with_reducible refine wpQuiet_step (fun K hK => ?_)
   go_simp
   first
   | (refine hK _ ?_; clear hK K)
   | (apply Exists.intro
      refine ⟨fun W hW => ?_,hK _ ?_⟩
      first
      | (have c1' := hW.cell C25.out; have c2' := hW.cell C26.out; go_simp; try rfl)
      clear hK K)
 refine wpQuiet_load_row rfl 74 _ rfl gb rfl 74 _ _ _ (fun W hW => hW.block L2.out) Tryz.underlying74 rfl (by kernel_rfl) ?_
 iterate 1
   with_reducible refine wpQuiet_step (fun K hK => ?_)
   go_simp
   first
   | (refine hK _ ?_; clear hK K)
   | (apply Exists.intro
      refine ⟨fun W hW => ?_,hK _ ?_⟩
      first
      | (go_at_call 63; exact Calls.more hW (CN.out W hW))
      | (go_simp; try rfl)
      clear hK K)
 iterate 1
   with_reducible refine wpQuiet_step (fun K hK => ?_)
   go_simp
   first
   | (refine hK _ ?_; clear hK K)
   | (apply Exists.intro
      refine ⟨fun W hW => ?_,hK _ ?_⟩
      first
      | (go_at_call 66; exact Calls.more hW (LN.out W hW))
      | (go_simp; try rfl)
      clear hK K)
 refine wpQuiet_nil ?_
 intro w5 h5
 have FIN := hQQ (M2.out.trans h5)
 clear h5
 go_wp2_with fail
 go_end0
 exact ⟨rfl,FIN.out⟩
theorem good_vac2 {pg st : Int} {n : Nat} (H : PgIn pg st n) (p m : Int) : Good n (fun b : Bool => b = true → thereB pg p m = true) (evacP pg st p m) :=
 good_ite (fun h => good_imp (good_vacN H _ _) (fun _ _ _ => h)) (fun _ => good_pure n (fun h => by cases h))
theorem e_Take {c : Cfg} (R : c.Ok) {n : Nat} (H : PgIn c.pg c.st n) (hn : n ≤ 10000) (F : Nat → Prop) (p : Nat) (kn : Int → Option Int) (D : List KV) (q m k : Int) (hq : W64 q) (hm : W64 m) (hk6 : W64 k) (w : World) (hv : ViewAt w F p kn D) (hk : OkK kn) (hD : InvD n D) :
   Calls Tryz.prog 61 #[.pointer (some ⟨p,0,none⟩),.agg c.arr,.int .i64 q,.int .i64 m,.int .i64 k] w (WentV w F p kn (fun b => .bool b) (etakeP c.pg c.st q m k kn D)) := by
 obtain ⟨Rr,hRr⟩ : ∃ Rr,etakeP c.pg c.st q m k kn D = Rr := ⟨_,rfl⟩
 rw [hRr]
 obtain ⟨w1,e1,hl1,m1,s1⟩ := entry1 w (.cells c.arr 28)
 have nFl : ¬ F w.heap.size := fun q => by have := hv.lt _ q; omega
 have MM := hQQ m1
 have L0 := hQQ hl1
 have M0 : Hid (MidV w1 w1 F (fun _ => False) p kn n D F) := hQQ (MidV.begin (hv.more m1) hD)
 have KL : Hid (∀ wr D' F',MidV w1 wr F (fun _ => False) p kn n D' F' → wr.heap[w.heap.size]? = some (.cells c.arr 28 (0,0))) := hQQ fun wr D' F' h => mid_own h L0.out nFl (fun q => q)
 have NEED : Hid (∀ a w2,Rr = .need a → DeadAt w2 p a → Turned (fun b => F b ∨ False) w1 w2 → WentV w F p kn (fun b : Bool => Value.bool b) Rr (.panicked (endOf p)) w2) := hQQ fun a w2 e hd ht => mid_need MM.out (fun _ q => q.elim) e hd ht
 have DONE : Hid (∀ x w2 D' F',Rr = .ok x D' → MidV w1 w2 F (fun _ => False) p kn n D' F' → WentV w F p kn (fun b : Bool => Value.bool b) Rr (.returned ((fun b : Bool => Value.bool b) x)) w2) := hQQ fun x w2 D' F' e h => mid_done MM.out (fun _ q => q.elim) h e
 have HK := hQQ hk
 have HR := hQQ R
 have HH := hQQ H
 clear hl1 m1 hv hD hk R H nFl
 unfold etakeP at hRr
 have pg1 := HR.out.pg1
 have pg2 := HR.out.pg2
 cases hf : fitB k m with
 | false =>
   rw [if_neg (by simp [hf])] at hRr
   have FIN : Hid (∀ w2,More w1 w2 → WentV w F p kn (fun b : Bool => Value.bool b) Rr (.returned (.bool false)) w2) := hQQ fun w2 h => DONE.out false w2 D F hRr.symm (M0.out.more h)
   clear hRr
   go_enter Tryz.func61,Tryz.ntmps61
   go_wp2_with fail
   refine (e_fits k m _).mono ?_
   rw [hf]
   rintro e w2 ⟨rfl,h2⟩
   have F2 := hQQ (FIN.out w2 h2)
   clear h2
   go_wp2_with fail
   go_ret
   exact F2.out
 | true =>
   rw [if_pos hf] at hRr
   have HRr := hQQ hRr
   clear hRr
   go_enter Tryz.func61,Tryz.ntmps61
   go_wp2_with fail
   refine (e_fits k m _).mono ?_
   rw [hf]
   rintro e w2 ⟨rfl,h2⟩
   have M2 := hQQ (M0.out.more h2)
   have L2 := hQQ (KL.out _ _ _ M2.out)
   clear h2
   go_wp2_with (refine wpList_load_rowG rfl 28 _ rfl _ rfl 28 _ _ _ L2.out Tryz.underlying28 rfl (by kernel_rfl) ?_)
   refine (e_vacant HR.out HH.out F p kn D q m hq w2 M2.out.view HK.out M2.out.inv).mono ?_
   intro e w3 he
   rcases M2.out.step (More.refl _) HK.out (good_vac2 HH.out _ _) he with ⟨a',hE,rfl,hd',ht',_⟩ | ⟨x3,D3,F3,hE,rfl,M3,hq3,_,_⟩
   · exact ⟨rfl,NEED.out a' w3 (HRr.out.symm.trans (bindP_need hE)) hd' ht'⟩
   have L3 := hQQ (KL.out _ _ _ M3)
   have R3 := hQQ ((bindP_ok hE).symm.trans HRr.out)
   have M3 := hQQ M3
   clear he hE
   cases x3 with
   | false =>
     have FIN := hQQ (DONE.out false w3 D3 F3 R3.out.symm M3.out)
     clear R3
     go_wp2_with fail
     go_ret
     exact FIN.out
   | true =>
     obtain ⟨t0,t1,t2⟩ := there_iff.1 (hq3 rfl)
     have R3' := hQQ (show bindP (ensureP c.pg c.st q m) (fun _ => bindP (eputP c.pg c.st q k (if k = 6 then m else 0)) (fun _ => bindP (eputN c.pg c.st 7 (m - 1).toNat (q + 1)) (fun _ => pureP true))) kn D3 = Rr from R3.out)
     clear R3
     go_wp2_with (refine wpList_load_rowG rfl 28 _ rfl _ rfl 28 _ _ _ L3.out Tryz.underlying28 rfl (by kernel_rfl) ?_)
     refine (c_Ensure HR.out HH.out.toTblIn hn F3 p kn D3 q m hq w3 M3.out.view HK.out M3.out.inv).mono ?_
     intro e w4 he
     rcases M3.out.step (More.refl _) HK.out (good_ensure2 HH.out _ _) he with ⟨a',hE,rfl,hd',ht',_⟩ | ⟨x4,D4,F4,hE,rfl,M4,hq4,_,_⟩
     · exact ⟨rfl,NEED.out a' w4 (R3'.out.symm.trans (bindP_need hE)) hd' ht'⟩
     have L4 := hQQ (KL.out _ _ _ M4)
     have R4 := hQQ ((bindP_ok hE).symm.trans R3'.out)
     have M4 := hQQ M4
     clear he hE
     by_cases h6 : k = 6
     · have e6 : (k == 6) = true := by simp [h6]
       have R4 := hQQ (by have := R4.out; rwa [if_pos h6] at this)
       have hx6 := hm
       clear h6
       have qp : IntKind.i64.wrap (q + 1) = q + 1 := wrap_in (by omega) (by omega)
       have qe : IntKind.i64.wrap (q + m) = q + m := wrap_in (by omega) (by omega)
       have hpg0 : isPage c.pg q = true := isPage_iff.2 ⟨by omega,by omega⟩
       go_wp2_with (refine wpList_load_rowG rfl 28 _ rfl _ rfl 28 _ _ _ L4.out Tryz.underlying28 rfl (by kernel_rfl) ?_)
       refine (e_put HR.out HH.out hn F4 p kn D4 q k m hpg0 hk6 hx6 w4 M4.out.view HK.out M4.out.inv).mono ?_
       intro e w5 he
       rcases M4.out.step (More.refl _) HK.out (good_put2 HH.out hpg0 hk6 hx6) he with ⟨a',hE,rfl,hd',ht',_⟩ | ⟨x5,D5,F5,hE,rfl,M5,hq5,_,_⟩
       · exact ⟨rfl,NEED.out a' w5 (R4.out.symm.trans (bindP_need hE)) hd' ht'⟩
       have L5 := hQQ (KL.out _ _ _ M5)
       have R5 := hQQ ((bindP_ok hE).symm.trans R4.out)
       have M5 := hQQ M5
       clear he hE
       have START := hQQ (And.intro M5.out R5.out)
       clear R5 M5 L5 R4 M4 L4
       go_wp2_with fail
       go_loopw [12] (fun v wr => ∃ (i : Nat) (D' : List KV) (F' : Nat → Prop),v = .int .i64 (q + 1 + (i : Int)) ∧ (i : Int) ≤ m - 1 ∧ MidV w1 wr F (fun _ => False) p kn n D' F' ∧ bindP (eputN c.pg c.st 7 ((m - 1).toNat - i) (q + 1 + (i : Int))) (fun _ => pureP true) kn D' = Rr) (fun v _ => (q + m - intOf v).toNat)
       case atStart => exact ⟨0,D5,F5,by simp,by omega,START.out.1,by simpa using START.out.2⟩
       case round =>
         clear START
         obtain ⟨i,D',F',rfl,hi,MI,hrest⟩ := hrel
         have MI := hQQ MI
         have LI := hQQ (KL.out _ _ _ MI.out)
         by_cases hlt : (i : Int) < m - 1
         · have d3 : decide (q + 1 + (i : Int) < q + m) = true := by simp; omega
           have q3 : IntKind.i64.wrap (q + 1 + (i : Int) + 1) = q + 1 + (i : Int) + 1 := wrap_in (by omega) (by omega)
           rw [show (m - 1).toNat - i = ((m - 1).toNat - (i + 1)) + 1 by omega,putN_step,bindP_assoc] at hrest
           have RI := hQQ hrest
           have hpg : isPage c.pg (q + 1 + (i : Int)) = true := isPage_iff.2 ⟨by omega,by omega⟩
           clear hrest
           go_wp2_with (refine wpList_load_rowG rfl 28 _ rfl _ rfl 28 _ _ _ LI.out Tryz.underlying28 rfl (by kernel_rfl) ?_)
           refine (e_put HR.out HH.out hn F' p kn D' (q + 1 + (i : Int)) 7 0 hpg w64_7 w64_0 wr MI.out.view HK.out MI.out.inv).mono ?_
           intro e w8 he
           rcases MI.out.step (More.refl _) HK.out (good_put2 HH.out hpg w64_7 w64_0) he with ⟨a',hE,rfl,hd',ht',_⟩ | ⟨x8,D8,F8,hE,rfl,M8,hq8,_,_⟩
           · exact ⟨rfl,NEED.out a' w8 (RI.out.symm.trans (bindP_need hE)) hd' ht'⟩
           have L8 := hQQ (KL.out _ _ _ M8)
           have R8 := hQQ ((bindP_ok hE).symm.trans RI.out)
           have M8 := hQQ M8
           clear he hE
           have NX := hQQ (show bindP (eputN c.pg c.st 7 ((m - 1).toNat - (i + 1)) (q + 1 + (i : Int) + 1)) (fun _ => pureP true) kn D8 = Rr from R8.out)
           clear R8
           go_wp2_with fail
           go_roundw
           case rel => exact ⟨i + 1,D8,F8,by go_num,by omega,M8.out,by rw [show q + 1 + ((i + 1 : Nat) : Int) = q + 1 + (i : Int) + 1 by omega]; exact NX.out⟩
           case measure => simp [intOf]; omega
         · have him : q + 1 + (i : Int) = q + m := by omega
           have d3 : decide (q + 1 + (i : Int) < q + m) = false := by simp; omega
           have FIN := hQQ (DONE.out true wr D' F' (by rw [show ((m - 1).toNat - i) = 0 by omega] at hrest; exact hrest.symm) MI.out)
           clear hrest
           go_wp2_with fail
           go_ret
           exact FIN.out
     · have e6 : (k == 6) = false := by simp [h6]
       have R4 := hQQ (by have := R4.out; rwa [if_neg h6] at this)
       have hx6 := w64_0
       clear h6
       have qp : IntKind.i64.wrap (q + 1) = q + 1 := wrap_in (by omega) (by omega)
       have qe : IntKind.i64.wrap (q + m) = q + m := wrap_in (by omega) (by omega)
       have hpg0 : isPage c.pg q = true := isPage_iff.2 ⟨by omega,by omega⟩
       go_wp2_with (refine wpList_load_rowG rfl 28 _ rfl _ rfl 28 _ _ _ L4.out Tryz.underlying28 rfl (by kernel_rfl) ?_)
       refine (e_put HR.out HH.out hn F4 p kn D4 q k 0 hpg0 hk6 hx6 w4 M4.out.view HK.out M4.out.inv).mono ?_
       intro e w5 he
       rcases M4.out.step (More.refl _) HK.out (good_put2 HH.out hpg0 hk6 hx6) he with ⟨a',hE,rfl,hd',ht',_⟩ | ⟨x5,D5,F5,hE,rfl,M5,hq5,_,_⟩
       · exact ⟨rfl,NEED.out a' w5 (R4.out.symm.trans (bindP_need hE)) hd' ht'⟩
       have L5 := hQQ (KL.out _ _ _ M5)
       have R5 := hQQ ((bindP_ok hE).symm.trans R4.out)
       have M5 := hQQ M5
       clear he hE
       have START := hQQ (And.intro M5.out R5.out)
       clear R5 M5 L5 R4 M4 L4
       go_wp2_with fail
       go_loopw [12] (fun v wr => ∃ (i : Nat) (D' : List KV) (F' : Nat → Prop),v = .int .i64 (q + 1 + (i : Int)) ∧ (i : Int) ≤ m - 1 ∧ MidV w1 wr F (fun _ => False) p kn n D' F' ∧ bindP (eputN c.pg c.st 7 ((m - 1).toNat - i) (q + 1 + (i : Int))) (fun _ => pureP true) kn D' = Rr) (fun v _ => (q + m - intOf v).toNat)
       case atStart => exact ⟨0,D5,F5,by simp,by omega,START.out.1,by simpa using START.out.2⟩
       case round =>
         clear START
         obtain ⟨i,D',F',rfl,hi,MI,hrest⟩ := hrel
         have MI := hQQ MI
         have LI := hQQ (KL.out _ _ _ MI.out)
         by_cases hlt : (i : Int) < m - 1
         · have d3 : decide (q + 1 + (i : Int) < q + m) = true := by simp; omega
           have q3 : IntKind.i64.wrap (q + 1 + (i : Int) + 1) = q + 1 + (i : Int) + 1 := wrap_in (by omega) (by omega)
           rw [show (m - 1).toNat - i = ((m - 1).toNat - (i + 1)) + 1 by omega,putN_step,bindP_assoc] at hrest
           have RI := hQQ hrest
           have hpg : isPage c.pg (q + 1 + (i : Int)) = true := isPage_iff.2 ⟨by omega,by omega⟩
           clear hrest
           go_wp2_with (refine wpList_load_rowG rfl 28 _ rfl _ rfl 28 _ _ _ LI.out Tryz.underlying28 rfl (by kernel_rfl) ?_)
           refine (e_put HR.out HH.out hn F' p kn D' (q + 1 + (i : Int)) 7 0 hpg w64_7 w64_0 wr MI.out.view HK.out MI.out.inv).mono ?_
           intro e w8 he
           rcases MI.out.step (More.refl _) HK.out (good_put2 HH.out hpg w64_7 w64_0) he with ⟨a',hE,rfl,hd',ht',_⟩ | ⟨x8,D8,F8,hE,rfl,M8,hq8,_,_⟩
           · exact ⟨rfl,NEED.out a' w8 (RI.out.symm.trans (bindP_need hE)) hd' ht'⟩
           have L8 := hQQ (KL.out _ _ _ M8)
           have R8 := hQQ ((bindP_ok hE).symm.trans RI.out)
           have M8 := hQQ M8
           clear he hE
           have NX := hQQ (show bindP (eputN c.pg c.st 7 ((m - 1).toNat - (i + 1)) (q + 1 + (i : Int) + 1)) (fun _ => pureP true) kn D8 = Rr from R8.out)
           clear R8
           go_wp2_with fail
           go_roundw
           case rel => exact ⟨i + 1,D8,F8,by go_num,by omega,M8.out,by rw [show q + 1 + ((i + 1 : Nat) : Int) = q + 1 + (i : Int) + 1 by omega]; exact NX.out⟩
           case measure => simp [intOf]; omega
         · have him : q + 1 + (i : Int) = q + m := by omega
           have d3 : decide (q + 1 + (i : Int) < q + m) = false := by simp; omega
           have FIN := hQQ (DONE.out true wr D' F' (by rw [show ((m - 1).toNat - i) = 0 by omega] at hrest; exact hrest.symm) MI.out)
           clear hrest
           go_wp2_with fail
           go_ret
           exact FIN.out
def giverP (pg st k : Int) : Prg Int := if slotsC k = 0 then pureP (-1) else bindP (plFirstN pg st k (slotsC k).toNat 1) fun x => if x = -1 then bindP (efindP pg st 1 1) fun y => bindP (etakeP pg st y 1 (k + 1)) fun b => pureP (if b then y else -1) else pureP x
theorem sound_giver (pg st k : Int) : Sound (giverP pg st k) := sound_ite (sound_pure _) (sound_bind (sound_plFirstN _ _ _ _ _) (fun _ => sound_ite (sound_bind (sound_find _ _ _ _) (fun _ => sound_bind (sound_take _ _ _ _ _) (fun _ => sound_pure _))) (sound_pure _)))
theorem slots_cls {k : Int} (h : slotsC k ≠ 0) : 0 ≤ k ∧ k ≤ 4 := by unfold slotsC at h; (repeat' split at h) <;> first | omega | exact absurd rfl h
theorem w64_1 : W64 1 := by unfold W64; omega
theorem good_giver {pg st : Int} {n : Nat} (H : HdIn pg st n) (k : Int) : Good n (fun q : Int => q = -1 ∨ isPage pg q = true) (giverP pg st k) := by
 unfold giverP
 refine good_ite (fun _ => good_pure n (.inl rfl)) (fun h => good_bind (good_plFirstN H _ _ _) (fun x hx => good_ite (fun _ => good_bind (good_find H.toPgIn _ _) (fun y hy => good_bind (good_take H.toPgIn _ _ _ ?_ w64_1) (fun b _ => good_pure n ?_))) (fun _ => good_pure n hx)))
 · have := slots_cls h; unfold W64; omega
 · by_cases e : y = -1
   · left; split
     · exact e
     · rfl
   · split
     · exact .inr (isPage_iff.2 ⟨by omega,by omega⟩)
     · exact .inl rfl
theorem g_giver {c : Cfg} (R : c.Ok) {n : Nat} (H : HdIn c.pg c.st n) (hn : n ≤ 10000) (F : Nat → Prop) (p : Nat) (kn : Int → Option Int) (D : List KV) (k : Int) (w : World) (hv : ViewAt w F p kn D) (hk : OkK kn) (hD : InvD n D) (bt : Nat) (hs : SzAt bt w) (nF0 : ¬ F 0) (nFb : ¬ F bt) :
   Calls Tryz.prog 35 #[.pointer (some ⟨p,0,none⟩),.agg c.arr,.int .i64 k] w (WentV w F p kn (fun x => .int .i64 x) (giverP c.pg c.st k kn D)) := by
 obtain ⟨Rr,hRr⟩ : ∃ Rr,giverP c.pg c.st k kn D = Rr := ⟨_,rfl⟩
 rw [hRr]
 obtain ⟨w1,e1,hl1,m1,s1⟩ := entry1 w (.cells c.arr 28)
 have nFl : ¬ F w.heap.size := fun q => by have := hv.lt _ q; omega
 have MM := hQQ m1
 have L0 := hQQ hl1
 have M0 : Hid (MidV w1 w1 F (fun _ => False) p kn n D F) := hQQ (MidV.begin (hv.more m1) hD)
 have KL : Hid (∀ wr D' F',MidV w1 wr F (fun _ => False) p kn n D' F' → wr.heap[w.heap.size]? = some (.cells c.arr 28 (0,0))) := hQQ fun wr D' F' h => mid_own h L0.out nFl (fun q => q)
 have NEED : Hid (∀ a w2,Rr = .need a → DeadAt w2 p a → Turned (fun b => F b ∨ False) w1 w2 → WentV w F p kn (fun x : Int => Value.int .i64 x) Rr (.panicked (endOf p)) w2) := hQQ fun a w2 e hd ht => mid_need MM.out (fun _ q => q.elim) e hd ht
 have DONE : Hid (∀ x w2 D' F',Rr = .ok x D' → MidV w1 w2 F (fun _ => False) p kn n D' F' → WentV w F p kn (fun x : Int => Value.int .i64 x) Rr (.returned ((fun x : Int => Value.int .i64 x) x)) w2) := hQQ fun x w2 D' F' e h => mid_done MM.out (fun _ q => q.elim) h e
 have HK := hQQ hk
 have HR := hQQ R
 have HH := hQQ H
 clear hl1 m1 hv hD hk R H nFl
 have SZ : Hid (∀ wr D' F',MidV w1 wr F (fun _ => False) p kn n D' F' → SzAt bt wr) := hQQ fun wr D' F' h => (hs.more MM.out).keep h.turn (by rintro (q | q); exact nF0 q; exact q) (by rintro (q | q); exact nFb q; exact q)
 have NF : Hid (∀ wr D' F',MidV w1 wr F (fun _ => False) p kn n D' F' → ¬ F' 0 ∧ ¬ F' bt) := hQQ fun wr D' F' h => ⟨h.off (hs.more MM.out).lt0 nF0,h.off (hs.more MM.out).lt nFb⟩
 unfold giverP at hRr
 have pg2 := HR.out.pg2
 clear hs nF0 nFb
 go_enter Tryz.func35,Tryz.ntmps35
 go_wp2_with fail
 refine (g_there k w1 (SZ.out _ _ _ M0.out)).mono ?_
 rintro e w2 ⟨rfl,h2⟩
 have M2 := hQQ (M0.out.more h2)
 have L2 := hQQ (KL.out _ _ _ M2.out)
 clear h2
 by_cases hz : slotsC k = 0
 · rw [if_pos hz] at hRr
   have d0 : (slotsC k != 0) = false := by simp [hz]
   have FIN := hQQ (DONE.out (-1) w2 D F hRr.symm M2.out)
   clear hRr hz
   go_wp2_with fail
   go_ret
   exact FIN.out
 rw [if_neg hz] at hRr
 have d0 : (slotsC k != 0) = true := by simpa using hz
 have hk4 := slots_cls hz
 have q1 : IntKind.i64.wrap (k + 1) = k + 1 := wrap_in (by omega) (by omega)
 have HRr := hQQ hRr
 clear hRr hz
 go_wp2_with (refine wpList_load_rowG rfl 28 _ rfl _ rfl 28 _ _ _ L2.out Tryz.underlying28 rfl (by kernel_rfl) ?_)
 refine (pl_First HR.out HH.out F p kn D k w2 M2.out.view HK.out M2.out.inv bt (SZ.out _ _ _ M2.out) (NF.out _ _ _ M2.out).1 (NF.out _ _ _ M2.out).2).mono ?_
 intro e w3 he
 rcases M2.out.step (More.refl _) HK.out (good_plFirstN HH.out _ _ _) he with ⟨a',hE,rfl,hd',ht',_⟩ | ⟨x3,D3,F3,hE,rfl,M3,hq3,_,_⟩
 · exact ⟨rfl,NEED.out a' w3 (HRr.out.symm.trans (bindP_need hE)) hd' ht'⟩
 have L3 := hQQ (KL.out _ _ _ M3)
 have R3 := hQQ ((bindP_ok hE).symm.trans HRr.out)
 have M3 := hQQ M3
 clear he hE
 by_cases ex : x3 = -1
 · have d1 : (x3 != -1) = false := by simp [ex]
   have R3 := hQQ (show bindP (efindP c.pg c.st 1 1) (fun y => bindP (etakeP c.pg c.st y 1 (k + 1)) fun b => pureP (if b then y else -1)) kn D3 = Rr from by have := R3.out; rw [if_pos ex] at this; exact this)
   clear ex
   go_wp2_with (refine wpList_load_rowG rfl 28 _ rfl _ rfl 28 _ _ _ L3.out Tryz.underlying28 rfl (by kernel_rfl) ?_)
   refine (e_Find HR.out HH.out.toPgIn F3 p kn D3 1 1 w64_1 w64_1 w3 M3.out.view HK.out M3.out.inv).mono ?_
   intro e w4 he
   rcases M3.out.step (More.refl _) HK.out (good_find HH.out.toPgIn _ _) he with ⟨a',hE,rfl,hd',ht',_⟩ | ⟨x4,D4,F4,hE,rfl,M4,hq4,_,_⟩
   · exact ⟨rfl,NEED.out a' w4 (R3.out.symm.trans (bindP_need hE)) hd' ht'⟩
   have L4 := hQQ (KL.out _ _ _ M4)
   have R4 := hQQ ((bindP_ok hE).symm.trans R3.out)
   have M4 := hQQ M4
   clear he hE
   have hw4 : W64 x4 := by unfold W64; omega
   have HW4 := hQQ hw4
   go_wp2_with (refine wpList_load_rowG rfl 28 _ rfl _ rfl 28 _ _ _ L4.out Tryz.underlying28 rfl (by kernel_rfl) ?_)
   refine (e_Take HR.out HH.out.toPgIn hn F4 p kn D4 x4 1 (k + 1) HW4.out w64_1 (by unfold W64; omega) w4 M4.out.view HK.out M4.out.inv).mono ?_
   intro e w5 he
   rcases M4.out.step (More.refl _) HK.out (good_take HH.out.toPgIn _ _ _ (by unfold W64; omega) w64_1) he with ⟨a',hE,rfl,hd',ht',_⟩ | ⟨x5,D5,F5,hE,rfl,M5,hq5,_,_⟩
   · exact ⟨rfl,NEED.out a' w5 (R4.out.symm.trans (bindP_need hE)) hd' ht'⟩
   have L5 := hQQ (KL.out _ _ _ M5)
   have R5 := hQQ ((bindP_ok hE).symm.trans R4.out)
   have M5 := hQQ M5
   clear he hE
   cases x5 with
   | true =>
     have FIN := hQQ (DONE.out x4 w5 D5 F5 R5.out.symm M5.out)
     go_wp2_with fail
     go_ret
     exact FIN.out
   | false =>
     have FIN := hQQ (DONE.out (-1) w5 D5 F5 R5.out.symm M5.out)
     go_wp2_with fail
     go_ret
     exact FIN.out
 · have d1 : (x3 != -1) = true := by simpa using ex
   have FIN := hQQ (DONE.out x3 w3 D3 F3 (by have := R3.out; rw [if_neg ex] at this; exact this.symm) M3.out)
   clear ex
   go_wp2_with fail
   go_ret
   exact FIN.out
end Go.Proofs.YtmafllcmkhgidaaGreatDoor
