/-
  A region whose order is left open: its first operations only read (their calls at most make new blocks), in whatever order; all others wait for them.
-/
import Derived.Test.YtflihdcliknggaaGreatDoorPpAa
import Derived.Test.YtflihdcliknggaaGreatDoorPpAj
import Derived.Deep.LoopGhost
import Derived.WalkMore
import Derived.Test.YtflihdcliknggaaGreatDoorPpAe
import Derived.Laws.Shifts
import Derived.Laws.Bits64
import Derived.Lib.Hide
import Derived.LoopTactic
import Derived.Outline
set_option maxRecDepth 100000
set_option maxHeartbeats 8000000
set_option linter.unusedVariables false
set_option linter.unusedSimpArgs false
set_option linter.unusedSectionVars false
namespace Go.Proofs.YtflihdcliknggaaGreatDoor
open Go.RowKit
section
variable {P : Program} {ops : Array Oper} {md : Region.Mode} {C : World → Prop}
def headD (md : Region.Mode) (ops : Array Oper) (t : Array Bool) : Nat → Nat → Array Bool → Bool
 | 0,_,d => d == t
 | m + 1,k,d => (Region.ready md ops d).contains k && Region.free md ops d k && headD md ops t m (k + 1) (d.setIfInBounds k true)
def headOk (md : Region.Mode) (ops : Array Oper) (n : Nat) (t : Array Bool) : Bool :=
 Region.noSelect ops && decide (n < ops.size) && sinkFrom md ops 0 n && ((List.range ops.size).all fun i => decide (i ≤ n) || (List.range i).any fun j => decide (n ≤ j) && Region.waitsFor md ops i j) && ((Region.ready md ops t).all fun i => decide (n ≤ i)) && headD md ops t n 0 (Array.replicate ops.size false)
theorem head_waits {n : Nat} (hs : sinkFrom md ops 0 n = true) (hc : ((List.range ops.size).all fun i => decide (i ≤ n) || (List.range i).any fun j => decide (n ≤ j) && Region.waitsFor md ops i j) = true) (hn : n < ops.size) (m : Nat) :
   ∀ i,n - i ≤ m → i < n → ∀ d,HeadInv md ops n d → d.getD i true = false → ∀ t,n ≤ t → t ∉ Region.ready md ops d := by
 induction m with
 | zero => intro i h hi; omega
 | succ m ih =>
   intro i hm hi d inv hun t ht hr
   obtain ⟨_,ot,hot,hall⟩ := mem_ready.1 hr
   have hlt : t < ops.size := (Array.getElem?_eq_some_iff.1 hot).1
   by_cases e : t = n
   · subst e
     have h1 := List.all_eq_true.1 hs i (List.mem_range.2 hi)
     simp only [Bool.or_eq_true,decide_eq_true_eq] at h1
     rcases h1 with h1 | h1
     · omega
     obtain ⟨j,hj,hj2⟩ := List.any_eq_true.1 h1
     simp only [Bool.and_eq_true,decide_eq_true_eq] at hj2
     obtain ⟨oj,hoj,x,hx,hb,hon⟩ := Region.waitsFor_spec hj2.2
     have hjn := List.mem_range.1 hj
     have no : d.getD j false = true ∨ j = t → False := by
       rintro (q | q)
       · have := inv.closed j oj hoj q x hx hb
         rw [hon,getD_both hun] at this; cases this
       · subst q
         obtain rfl : oj = ot := Option.some.inj (hoj.symm.trans hot)
         have := hall x hx hb
         rw [hon,getD_both hun] at this; cases this
     cases q : d.getD j false with
     | true => exact no (.inl q)
     | false =>
       have hne : j ≠ t := fun z => no (.inr z)
       exact ih j (by omega) (by omega) d inv (getD_in (by rw [inv.size]; omega) q) t (Nat.le_refl _) hr
   · have h1 := List.all_eq_true.1 hc t (List.mem_range.2 hlt)
     simp only [Bool.or_eq_true,decide_eq_true_eq] at h1
     rcases h1 with h1 | h1
     · omega
     obtain ⟨j,hj,hj2⟩ := List.any_eq_true.1 h1
     simp only [Bool.and_eq_true,decide_eq_true_eq] at hj2
     obtain ⟨o',ho',x,hx,hb,hon⟩ := Region.waitsFor_spec hj2.2
     obtain rfl : o' = ot := Option.some.inj (ho'.symm.trans hot)
     have hjt := List.mem_range.1 hj
     have := hall x hx hb
     rw [hon,getD_both (inv.tail j hj2.1 (by omega))] at this; cases this
theorem anyT_head {n : Nat} {t : Array Bool} {Z : Act → Prop} (hsel : Region.noSelect ops = true) (hend : ∀ i ∈ Region.ready md ops t,n ≤ i) (hwait : ∀ i,i < n → ∀ d,HeadInv md ops n d → d.getD i true = false → ∀ t,n ≤ t → t ∉ Region.ready md ops d) (l : List Oper) :
   ∀ (k : Nat) (d : Array Bool) (a : Act),(∀ j,j < l.length → l[j]? = ops[k + j]?) → k + l.length = n → HeadInv md ops n d →
   headD md ops t l.length k d = true → wpQuiet P ops C Z l a →
   anyT P md ops C n (fun d' a' => d' = t ∧ Z a') l.length d a := by
 induction l with
 | nil =>
   intro k d a _ hk _ hB h
   exact ⟨by simpa [headD] using hB,h⟩
 | cons o l ih =>
   intro k d a hl hk inv hB h
   have h0 : ops[k]? = some o := by simpa using (hl 0 (by simp)).symm
   simp only [List.length_cons,headD,Bool.and_eq_true] at hB hk
   have hr : k ∈ Region.ready md ops d := by simpa using hB.1.1
   have hst : qOp P ops C k (wpQuiet P ops C Z l) a := by unfold qOp; simp only [h0]; exact h
   obtain ⟨v,hy,hK⟩ := yieldsIn_of_qOp h0 hst
   exact anyT_first h0 (Region.noSelect_spec hsel) (hwait k (by omega)) (by omega) (fun _ _ z => by rw [z.1]; exact hend) l.length d a inv (Region.free_spec h0 hB.1.2) hr hy
     (ih (k + 1) _ _ (fun j hj => by have := hl (j + 1) (by simp; omega); simpa [Nat.add_assoc,Nat.add_comm 1 j] using this) (by omega) (inv.set hr (by omega)) hB.2 hK)
end
theorem wp_region_quiet_head {P : Program} {C : World → Prop} {id : Nat} {Q : Exit → Act → World → Prop} {a : Act} {w : World} {l : List Oper} (n : Nat) (t : Array Bool) (hm : P.follows .mixedOrders = true) (hB : headOk .any l.toArray n t = true)
   (hC : C { w with drawn := w.drawn + 1 }) (h : wpQuiet P l.toArray C (fun a' => ∀ w',C w' → wpAny P .any l.toArray Q (l.length - n) t a' w') (l.take n) a) : (Code.region id l.toArray true).wp P Q a w := by
 simp only [headOk,Bool.and_eq_true,decide_eq_true_eq] at hB
 obtain ⟨⟨⟨⟨⟨hsel,hn⟩,hs⟩,hc⟩,he⟩,hlex⟩ := hB
 have hn' : n < l.length := by simpa using hn
 have ht : (l.take n).length = n := by simp; omega
 have inv : HeadInv .any l.toArray n (Array.replicate l.toArray.size false) :=
   ⟨by simp,fun j p _ q => (by rw [getD_replicate_false] at q; cases q),fun t _ q => getD_in (by simpa using q) (getD_replicate_false _ _)⟩
 have H := anyT_head (md:=.any) (t:=t) hsel (fun i hi => by have := List.all_eq_true.1 he i hi; simpa using this) (fun i hi d inv hun t ht => head_waits hs hc hn n i (by omega) hi d inv hun t ht) (l.take n) 0 _ a (fun j hj => by
   have : j < n := by rw [ht] at hj; exact hj
   simp [this]) (by simpa using ht) inv (by rw [ht]; exact hlex) h
 have K := any_of_T (Q:=Q) (g:=l.length - n) (fun d a' w' hw z => by rw [z.1]; exact z.2 w' hw) _ _ _ _ hC H
 rw [ht,show n + (l.length - n) = l.toArray.size by simp; omega] at K
 exact wp_region_any hm K
theorem wp_region_more_head {P : Program} {id : Nat} {Q : Exit → Act → World → Prop} {a : Act} {w : World} {l : List Oper} (n : Nat) (t : Array Bool) (hm : P.follows .mixedOrders = true) (hB : headOk .any l.toArray n t = true)
   (h : wpQuiet P l.toArray (More w) (fun a' => ∀ w',More w w' → wpAny P .any l.toArray Q (l.length - n) t a' w') (l.take n) a) : (Code.region id l.toArray true).wp P Q a w :=
 wp_region_quiet_head (C:=More w) n t hm hB ((More.refl w).drewN 1) h
end Go.Proofs.YtflihdcliknggaaGreatDoor
namespace Go.Proofs.YtflihdcliknggaaGreatDoor
open Go.RowKit Go.Sort Go.Maps Go.Shelf
theorem seek_step {f : Int → Prg Bool} {pg n step : Int} {m : Nat} {p : Int} : eseekN f pg n step (m + 1) p = if p ≤ pg - n then bindP (escanN f n.toNat p) (fun r => match r with | none => pureP p | some q => eseekN f pg n step m ((q / step + 1) * step)) else pureP (-1) := rfl
theorem scan_step {f : Int → Prg Bool} {m : Nat} {q : Int} : escanN f (m + 1) q = bindP (f q) (fun b => if b then escanN f m (q + 1) else pureP (some q)) := rfl
theorem leap_b {q step : Int} (h0 : 0 ≤ q) (h1 : q < 256) (h2 : 1 ≤ step) (h3 : step ≤ 9223372036854775807) : 0 ≤ q / step ∧ q / step < 256 ∧ q < (q / step + 1) * step ∧ (q / step + 1) * step ≤ 9223372036854775807 := by
 have a0 : 0 ≤ q / step := Int.ediv_nonneg h0 (by omega)
 have a1 : q / step * step ≤ q := Int.ediv_mul_le q (by omega)
 have a2 : q < (q / step + 1) * step := Int.lt_ediv_add_one_mul_self q (by omega)
 have a3 : q / step ≤ q := Int.ediv_le_self step h0
 have a4 : (q / step + 1) * step = q / step * step + step := by rw [Int.add_mul,Int.one_mul]
 refine ⟨a0,by omega,a2,?_⟩
 rw [a4]
 by_cases hs : q < step
 · rw [Int.ediv_eq_zero_of_lt h0 hs]; omega
 · omega
theorem e_least {c : Cfg} (R : c.Ok) {n : Nat} (H : PgIn c.pg c.st n) (F : Nat → Prop) (p : Nat) (kn : Int → Option Int) (D : List KV) (m step : Int) (hm1 : 1 ≤ m) (hm2 : m ≤ 9223372036854775807) (hs1 : 1 ≤ step) (hs2 : step ≤ 9223372036854775807) (f : Nat) (clo : Array Value) (fP : Int → Prg Bool) (w : World) (hv : ViewAt w F p kn D) (hk : OkK kn) (hD : InvD n D)
   (hG : ∀ q,Good n (fun _ => True) (fP q)) (henter : ∀ args w,Sem.run Tryz.prog (callFunc f args) w = .ok (.enter f args) w)
   (hf : ∀ wr D' F' q,Turned F w wr → (∀ k,F' k → F k ∨ w.heap.size ≤ k) → ViewAt wr F' p kn D' → InvD n D' → W64 q → Calls Tryz.prog f (#[.int .i64 q] ++ clo) wr (WentV wr F' p kn (fun b => .bool b) (fP q kn D'))) :
   Calls Tryz.prog 133 #[.agg c.arr,.int .i64 m,.int .i64 step,.func (.func f) #[] clo] w (WentV w F p kn (fun x => .int .i64 x) (eleastP fP c.pg m step kn D)) := by
 obtain ⟨Rr,hRr⟩ : ∃ Rr,eleastP fP c.pg m step kn D = Rr := ⟨_,rfl⟩
 rw [hRr]
 obtain ⟨w1,e1,hl1,m1,s1⟩ := entry1 w (.cells c.arr 28)
 have nFl : ¬ F w.heap.size := fun q => by have := hv.lt _ q; omega
 have MM := hQQ m1
 have L0 := hQQ hl1
 have M0 : Hid (MidV w1 w1 F (fun _ => False) p kn n D F) := hQQ (MidV.begin (hv.more m1) hD)
 have KL : Hid (∀ wr D' F',MidV w1 wr F (fun _ => False) p kn n D' F' → wr.heap[w.heap.size]? = some (.cells c.arr 28 (0,0))) := hQQ fun wr D' F' h => mid_own h L0.out nFl (fun q => q)
 have NEED : Hid (∀ a w2,Rr = .need a → DeadAt w2 p a → Turned (fun b => F b ∨ False) w1 w2 → WentV w F p kn (fun x : Int => Value.int .i64 x) Rr (.panicked (endOf p)) w2) := hQQ fun a w2 e hd ht => mid_need MM.out (fun _ q => q.elim) e hd ht
 have DONE : Hid (∀ x w2 D' F',Rr = .ok x D' → MidV w1 w2 F (fun _ => False) p kn n D' F' → WentV w F p kn (fun x : Int => Value.int .i64 x) Rr (.returned ((fun x : Int => Value.int .i64 x) x)) w2) := hQQ fun x w2 D' F' e h => mid_done MM.out (fun _ q => q.elim) h e
 have HK := hQQ hk
 have HR := hQQ R
 have HH := hQQ H
 clear hl1 m1 hv hD hk R H nFl
 have hfl := field_pages c
 unfold eleastP at hRr
 have pg1 := HR.out.pg1
 have pg2 := HR.out.pg2
 have HRr := hQQ hRr
 have HF := hQQ hf
 have HG := hQQ hG
 have q1 : IntKind.i64.wrap (c.pg - m) = c.pg - m := wrap_in (by omega) (by omega)
 have TT : Hid (∀ wr D' F',MidV w1 wr F (fun _ => False) p kn n D' F' → Turned F w wr) := hQQ fun wr D' F' h => turned_own (Turned.mono MM.out (fun _ _ q => q.elim)) h.turn (fun k q => q.imp id (fun r => r.elim))
 clear hRr hf hG
 go_enter Tryz.func133,Tryz.ntmps133
 go_wp2_with fail
 go_step3
 go_wp2_with (refine wpList_load_rowG rfl 28 _ rfl _ rfl 28 _ _ _ L0.out Tryz.underlying28 rfl (by kernel_rfl) ?_)
 refine (y_config HR.out _).mono ?_
 rintro e w2 ⟨rfl,h2⟩
 have START := hQQ (And.intro (M0.out.more h2) HRr.out)
 clear h2 HRr
 go_wp2_with fail
 go_step3
 go_wp2_with fail
 go_loopg [10,11,12] (c.pg.toNat + 1) (fun j v10 v11 v12 wr => ∃ (p0 : Int) (D' : List KV) (F' : Nat → Prop),v10 = .int .i64 (-1) ∧ v11 = .int .i64 p0 ∧ 0 ≤ p0 ∧ p0 ≤ 9223372036854775807 ∧ c.pg + 1 ≤ (j : Int) + p0 ∧ MidV w1 wr F (fun _ => False) p kn n D' F' ∧ eseekN fP c.pg m step j p0 kn D' = Rr)
 case atStart => exact ⟨0,D,F,rfl,rfl,by omega,by omega,by omega,START.out.1,START.out.2⟩
 case round =>
   clear START
   obtain ⟨p0,D',F',rfl,rfl,p00,p01,hj,MI,hrest⟩ := hrel
   have MI := hQQ MI
   by_cases hle : p0 ≤ c.pg - m
   · have d1 : decide (p0 ≤ c.pg - m) = true := by simp [hle]
     obtain ⟨j,rfl⟩ : ∃ j',gk = j' + 1 := ⟨gk - 1,by omega⟩
     rw [seek_step,if_pos hle] at hrest
     have q2 : IntKind.i64.wrap (p0 + m) = p0 + m := wrap_in (by omega) (by omega)
     have START := hQQ (And.intro MI.out hrest)
     clear hrest MI
     go_wp2_with fail
     go_loopg [10,11,12] m.toNat (fun g2 v10 v11 v12 wr => ∃ (i : Nat) (D' : List KV) (F' : Nat → Prop),v10 = .int .i64 (-1) ∧ v11 = .int .i64 p0 ∧ v12 = .int .i64 (p0 + (i : Int)) ∧ i + g2 = m.toNat ∧ MidV w1 wr F (fun _ => False) p kn n D' F' ∧ bindP (escanN fP g2 (p0 + (i : Int))) (fun r => match r with | none => pureP p0 | some q => eseekN fP c.pg m step j ((q / step + 1) * step)) kn D' = Rr)
     case atStart => exact ⟨0,D',F',rfl,rfl,by simp,by omega,START.out.1,by simpa using START.out.2⟩
     case round =>
       clear START
       obtain ⟨i,D2,F2,rfl,rfl,rfl,hig,MI,hrest⟩ := hrel
       have MI := hQQ MI
       cases gk with
       | zero =>
         have e0 : (p0 + (i : Int) == p0 + m) = true := by simp; omega
         have FIN := hQQ (DONE.out p0 _ D2 F2 hrest.symm MI.out)
         clear hrest
         go_wp2_with fail
         try rw [Exit.noGoto_ret]
         go_ret
         exact FIN.out
       | succ g =>
         have e0 : (p0 + (i : Int) == p0 + m) = false := by simp; omega
         have hqw : W64 (p0 + (i : Int)) := by unfold W64; omega
         have q3 : IntKind.i64.wrap (p0 + (i : Int) + 1) = p0 + (i : Int) + 1 := wrap_in (by omega) (by omega)
         rw [scan_step,bindP_assoc] at hrest
         have RI := hQQ hrest
         have CL := HF.out _ D2 F2 (p0 + (i : Int)) (TT.out _ _ _ MI.out) (fun k hk => (MI.out.from' k hk).imp id (fun r => Nat.le_trans MM.out.size r)) MI.out.view MI.out.inv hqw
         clear hrest
         go_wp2_with fail
         refine (CL).mono ?_
         intro e w5 he
         rcases MI.out.step (More.refl _) HK.out (HG.out _) he with ⟨a',hE,rfl,hd',ht',_⟩ | ⟨x5,D5,F5,hE,rfl,M5,hq5,_,_⟩
         · exact ⟨rfl,NEED.out a' w5 (RI.out.symm.trans (bindP_need hE)) hd' ht'⟩
         have L5 := hQQ (KL.out _ _ _ M5)
         have R5 := hQQ ((bindP_ok hE).symm.trans RI.out)
         have M5 := hQQ M5
         clear he hE
         cases x5 with
         | true =>
           have R5' := hQQ (show bindP (escanN fP g (p0 + (i : Int) + 1)) (fun r => match r with | none => pureP p0 | some q => eseekN fP c.pg m step j ((q / step + 1) * step)) kn D5 = Rr from R5.out)
           clear R5
           go_wp2_with fail
           go_roundg g
           case measure => omega
           case rel => exact ⟨i + 1,D5,F5,rfl,rfl,by go_num,by omega,M5.out,by rw [show p0 + ((i + 1 : Nat) : Int) = p0 + (i : Int) + 1 by omega]; exact R5'.out⟩
         | false =>
           have R5' := hQQ (show eseekN fP c.pg m step j (((p0 + (i : Int)) / step + 1) * step) kn D5 = Rr from R5.out)
           clear R5
           obtain ⟨z0,z1,z2,z3⟩ := leap_b (q:=p0 + (i : Int)) (step:=step) (by omega) (by omega) hs1 hs2
           have e5 : (p0 + (i : Int)).tdiv step = (p0 + (i : Int)) / step := Int.tdiv_eq_ediv_of_nonneg (by omega)
           have e6 : (step == 0) = false := by simp; omega
           generalize hz : (p0 + (i : Int)) / step = z at z0 z1 z2 z3 e5 R5'
           have q5 : IntKind.i64.wrap z = z := wrap_in (by omega) (by omega)
           have q6 : IntKind.i64.wrap (z + 1) = z + 1 := wrap_in (by omega) (by omega)
           have q7 : IntKind.i64.wrap ((z + 1) * step) = (z + 1) * step := wrap_in (by omega) (by omega)
           have Z := hQQ (And.intro z2 z3)
           clear hz z2 z3 z0 z1
           go_wp2_with fail
           go_roundg j
           case measure => omega
           case rel => exact ⟨(z + 1) * step,D5,F5,rfl,rfl,by have := Z.out; omega,Z.out.2,by have := Z.out; omega,M5.out,R5'.out⟩
   · have d1 : decide (p0 ≤ c.pg - m) = false := by simp [hle]
     have FIN := hQQ (DONE.out (-1) _ D' F' (by
       cases gk with
       | zero => exact hrest.symm
       | succ j => rw [seek_step,if_neg hle] at hrest; exact hrest.symm) MI.out)
     clear hrest
     go_wp2_with fail
     try rw [Exit.noGoto_ret]
     go_ret
     exact FIN.out
theorem e_free {c : Cfg} (R : c.Ok) {n : Nat} (H : PgIn c.pg c.st n) (F : Nat → Prop) (p : Nat) (kn : Int → Option Int) (D : List KV) (q : Int) (b1 b2 : Nat) (w : World) (hv : ViewAt w F p kn D) (hk : OkK kn) (hD : InvD n D)
   (h1 : w.heap[b1]? = some (.cells #[.pointer (some ⟨p,0,none⟩)] 44 (0,0))) (h2 : w.heap[b2]? = some (.cells c.arr 28 (0,0))) :
   Calls Tryz.prog 129 #[.int .i64 q,.pointer (some ⟨b1,0,none⟩),.pointer (some ⟨b2,0,none⟩)] w (WentV w F p kn (fun b => .bool b) (efreeP c.pg c.st q kn D)) := by
 have KD := e_Kind R H F p kn D q w hv hk hD
 have c1 := (box_cells h1).1
 have L0 := hQQ h2
 clear h1 h2
 go_enter Tryz.func129,Tryz.ntmps129
 go_wp2_with (refine wpList_load_rowG rfl 28 _ rfl _ rfl 28 _ _ _ L0.out Tryz.underlying28 rfl (by kernel_rfl) ?_)
 refine KD.mono ?_
 intro e w1 he
 rcases went_cases he with ⟨a,hR,rfl⟩ | ⟨x,D',hR,rfl⟩
 · have := WentV.mapN (val' := fun b : Bool => Value.bool b) (fun k : Int => decide (k = 0)) hR he
   rw [mapR_eq] at this
   exact ⟨rfl,this⟩
 · have FIN := WentV.map (val' := fun b : Bool => Value.bool b) (fun k : Int => decide (k = 0)) hR he
   rw [mapR_eq] at FIN
   have FIN := hQQ FIN
   have e1 : (x == 0) = decide (x = 0) := by by_cases z : x = 0 <;> simp [z]
   clear he KD hv hD hR
   go_wp2_with fail
   go_ret
   exact FIN.out
theorem e_open {c : Cfg} (R : c.Ok) {n : Nat} (H : PgIn c.pg c.st n) (F : Nat → Prop) (p : Nat) (kn : Int → Option Int) (D : List KV) (q : Int) (hq : W64 q) (b1 b2 b3 : Nat) (w : World) (hv : ViewAt w F p kn D) (hk : OkK kn) (hD : InvD n D)
   (h1 : w.heap[b1]? = some (.cells #[.pointer (some ⟨p,0,none⟩)] 44 (0,0))) (h2 : w.heap[b2]? = some (.cells c.arr 28 (0,0)))
   (h3 : w.heap[b3]? = some (.cells #[.func (.func 129) #[] #[.pointer (some ⟨b1,0,none⟩),.pointer (some ⟨b2,0,none⟩)]] 86 (0,0))) (n1 : ¬ F b1) (n2 : ¬ F b2) (n3 : ¬ F b3) :
   Calls Tryz.prog 130 #[.int .i64 q,.pointer (some ⟨b1,0,none⟩),.pointer (some ⟨b2,0,none⟩),.pointer (some ⟨b3,0,none⟩)] w (WentV w F p kn (fun b => .bool b) (eopenP c.pg c.st q kn D)) := by
 obtain ⟨Rr,hRr⟩ : ∃ Rr,eopenP c.pg c.st q kn D = Rr := ⟨_,rfl⟩
 rw [hRr]
 unfold eopenP at hRr
 have HRr := hQQ hRr
 have l1 := lt_of_heap h1
 have l2 := lt_of_heap h2
 have l3 := lt_of_heap h3
 have H1 := hQQ h1
 have H2 := hQQ h2
 have H3 := hQQ h3
 have c1 := (box_cells h1).1
 have HR := hQQ R
 have HH := hQQ H
 have HK := hQQ hk
 have M0 : Hid (MidV w w F (fun _ => False) p kn n D F) := hQQ (MidV.begin hv hD)
 clear h1 h2 h3 hRr R H hk hv hD
 have NEED : Hid (∀ a w2,Rr = .need a → DeadAt w2 p a → Turned (fun b => F b ∨ False) w w2 → WentV w F p kn (fun b : Bool => Value.bool b) Rr (.panicked (endOf p)) w2) := hQQ fun a w2 e hd ht => mid_need (More.refl w) (fun _ q => q.elim) e hd ht
 have DONE : Hid (∀ x w2 D' F',Rr = .ok x D' → MidV w w2 F (fun _ => False) p kn n D' F' → WentV w F p kn (fun b : Bool => Value.bool b) Rr (.returned (.bool x)) w2) := hQQ fun x w2 D' F' e h => mid_done (More.refl w) (fun _ q => q.elim) h e
 go_enter Tryz.func130,Tryz.ntmps130
 go_wp2_with fail
 refine wp_region_more_head 4 #[true,true,true,true,false,false,false,false,false,false,false] (by kernel_rfl) (by kernel_rfl) ?_
 simp only [List.take_succ_cons,List.take_zero]
 iterate 1
   with_reducible refine wpQuiet_step (fun K hK => ?_)
   go_simp
   first
   | (refine hK _ ?_; clear hK K)
   | (apply Exists.intro
      refine ⟨fun W hW => ?_,hK _ ?_⟩
      first
      | (have c1' := hW.cell c1; go_simp; try rfl)
      clear hK K)
 refine wpQuiet_load_row rfl 28 _ rfl _ rfl 28 _ _ _ (fun W hW => hW.block H2.out) Tryz.underlying28 rfl (by kernel_rfl) ?_
 iterate 1
   with_reducible refine wpQuiet_step (fun K hK => ?_)
   go_simp
   first
   | (refine hK _ ?_; clear hK K)
   | (apply Exists.intro
      refine ⟨fun W hW => ?_,hK _ ?_⟩
      first
      | (go_simp; try rfl)
      clear hK K)
 iterate 1
   with_reducible refine wpQuiet_step (fun K hK => ?_)
   go_simp
   first
   | (refine hK _ ?_; clear hK K)
   | (apply Exists.intro
      refine ⟨fun W hW => ?_,hK _ ?_⟩
      first
      | (go_at_call 132; exact (c_of q hq.1 hq.2 W).mono (fun e w'' h => ⟨h.1,by rw [h.2]; exact hW⟩))
      clear hK K)
 refine wpQuiet_nil ?_
 intro w2 m2
 have M2 := hQQ (M0.out.more m2)
 clear m2
 refine wpAny_ready (rs:=[4]) (by kernel_rfl) (by simp) ?_
 refine AllReady.cons rfl (fun K hK => ?_) AllReady.nil
 rw [if_pos (by kernel_rfl)]
 refine wp_call3 (v0:=.pointer (some ⟨p,0,none⟩)) (v1:=.agg c.arr) (v2:=.int .i64 (ofV q)) rfl rfl rfl rfl (enters_of Tryz.func131 (by kernel_rfl) rfl) ?_
 refine (c_Mapped HR.out F p kn D (ofV q) w2 M2.out.view).mono ?_
 intro e w3 he
 rcases M2.out.step (More.refl _) HK.out (good_mapped HH.out.toTblIn _) he with ⟨a',hE,rfl,hd',ht',_⟩ | ⟨x3,D3,F3,hE,rfl,M3,hq3,_,_⟩
 · exact ⟨rfl,NEED.out a' w3 (HRr.out.symm.trans (bindP_need hE)) hd' ht'⟩
 have R3 := hQQ ((bindP_ok hE).symm.trans HRr.out)
 have M3 := hQQ M3
 clear he hE
 refine hK _ _ ?_
 clear hK K
 cases x3 with
 | false =>
   have FIN := hQQ (DONE.out false w3 D3 F3 R3.out.symm M3.out)
   clear R3
   refine wpAny_take (i:=5) (v:=.bool false) rfl (by kernel_rfl) (by kernel_rfl) (by kernel_rfl) (fun _ _ _ h => h) (Or.inl ⟨by rfl,fun W => by go_simp⟩) ?_
   refine wpAny_take (i:=6) (v:=undef) rfl (by kernel_rfl) (by kernel_rfl) (by kernel_rfl) (fun _ _ _ h => h) (Or.inr ⟨by rfl,rfl⟩) ?_
   refine wpAny_take (i:=7) (v:=undef) rfl (by kernel_rfl) (by kernel_rfl) (by kernel_rfl) (fun _ _ _ h => h) (Or.inr ⟨by rfl,rfl⟩) ?_
   refine wpAny_take (i:=8) (v:=undef) rfl (by kernel_rfl) (by kernel_rfl) (by kernel_rfl) (fun _ _ _ h => h) (Or.inr ⟨by rfl,rfl⟩) ?_
   refine wpAny_take (i:=9) (v:=.bool false) rfl (by kernel_rfl) (by kernel_rfl) (by kernel_rfl) (fun _ _ _ h => h) (Or.inl ⟨by rfl,fun W => by go_simp⟩) ?_
   refine wpAny_take (i:=10) (v:=.bool false) rfl (by kernel_rfl) (by kernel_rfl) (by kernel_rfl) (fun _ _ _ h => h) (Or.inl ⟨by rfl,fun W => by go_simp⟩) ?_
   refine wpAny_done (by kernel_rfl) ?_ _
   go_wp2_with fail
   go_ret
   exact FIN.out
 | true =>
   have R3' := hQQ (show efreeP c.pg c.st q kn D3 = Rr from R3.out)
   have h1 := mid_own M3.out H1.out n1 (fun r => r)
   have h2 := mid_own M3.out H2.out n2 (fun r => r)
   have h3 := mid_own M3.out H3.out n3 (fun r => r)
   have FR := hQQ (e_free HR.out HH.out F3 p kn D3 q b1 b2 w3 M3.out.view HK.out M3.out.inv h1 h2)
   have c3 := (box_cells h3).1
   clear R3 h1 h2 h3 c1
   refine wpAny_take (i:=5) (v:=.bool true) rfl (by kernel_rfl) (by kernel_rfl) (by kernel_rfl) (fun _ _ _ h => h) (Or.inl ⟨by rfl,fun W => by go_simp⟩) ?_
   refine wpAny_take (i:=7) (v:=.int .i64 q) rfl (by kernel_rfl) (by kernel_rfl) (by kernel_rfl) (fun _ _ _ h => h) (Or.inl ⟨by rfl,fun W => by go_simp⟩) ?_
   refine wpAny_ready (rs:=[6]) (by kernel_rfl) (by simp) ?_
   refine AllReady.cons rfl (fun K hK => ?_) AllReady.nil
   rw [if_pos (by kernel_rfl)]
   go_simp
   refine hK _ _ ?_
   clear hK K
   refine wpAny_ready (rs:=[8]) (by kernel_rfl) (by simp) ?_
   refine AllReady.cons rfl (fun K hK => ?_) AllReady.nil
   rw [if_pos (by kernel_rfl)]
   refine wp_callv1 (x0:=.tmp 13) (v0:=.int .i64 q) rfl rfl rfl (enters_of Tryz.func129 (by kernel_rfl) rfl) ?_
   refine FR.out.mono ?_
   intro e w4 he
   rcases M3.out.step (More.refl _) HK.out (good_free HH.out q) he with ⟨a',hE,rfl,hd',ht',_⟩ | ⟨x4,D4,F4,hE,rfl,M4,hq4,_,_⟩
   · exact ⟨rfl,NEED.out a' w4 (R3'.out.symm.trans hE) hd' ht'⟩
   have FIN := hQQ (DONE.out x4 w4 D4 F4 (R3'.out.symm.trans hE) M4)
   clear he hE M4
   refine hK _ _ ?_
   clear hK K
   refine wpAny_take (i:=9) (v:=.bool x4) rfl (by kernel_rfl) (by kernel_rfl) (by kernel_rfl) (fun _ _ _ h => h) (Or.inl ⟨by rfl,fun W => by go_simp⟩) ?_
   refine wpAny_take (i:=10) (v:=.bool x4) rfl (by kernel_rfl) (by kernel_rfl) (by kernel_rfl) (fun _ _ _ h => h) (Or.inl ⟨by rfl,fun W => by go_simp⟩) ?_
   refine wpAny_done (by kernel_rfl) ?_ _
   go_wp2_with fail
   go_ret
   exact FIN.out
theorem good_seekN2 {pg st : Int} {n : Nat} (H : PgIn pg st n) {f : Int → Prg Bool} (hf : ∀ q,Good n (fun _ => True) (f q)) (m step : Int) (hm : 1 ≤ m) (hs : 1 ≤ step) : Good n (fun x : Int => -1 ≤ x ∧ x < pg) (eleastP f pg m step) := good_seekN H hf m step hm hs _ 0 (by omega)
theorem e_Find {c : Cfg} (R : c.Ok) {n : Nat} (H : PgIn c.pg c.st n) (F : Nat → Prop) (p : Nat) (kn : Int → Option Int) (D : List KV) (m step : Int) (hm : W64 m) (hs : W64 step) (w : World) (hv : ViewAt w F p kn D) (hk : OkK kn) (hD : InvD n D) :
   Calls Tryz.prog 95 #[.pointer (some ⟨p,0,none⟩),.agg c.arr,.int .i64 m,.int .i64 step] w (WentV w F p kn (fun x => .int .i64 x) (efindP c.pg c.st m step kn D)) := by
 obtain ⟨Rr,hRr⟩ : ∃ Rr,efindP c.pg c.st m step kn D = Rr := ⟨_,rfl⟩
 rw [hRr]
 obtain ⟨w1,e1,hb1,hb2,m1,s1⟩ := entry2 w (.cells #[.pointer (some ⟨p,0,none⟩)] 44) (.cells c.arr 28)
 obtain ⟨w2,e2,hb3,m2,s2⟩ := entry1 w1 (.cells #[.nilFunc] 86)
 rw [s1] at hb3
 unfold efindP at hRr
 have hfw := hv.lt
 unfold W64 at hm hs
 by_cases a0 : m < 1
 · have d0 : decide (m < 1) = true := by simp [a0]
   rw [if_neg (by omega)] at hRr
   have FIN : Hid (WentV w F p kn (fun x : Int => Value.int .i64 x) Rr (.returned (.int .i64 (-1))) w1) := hQQ (mid_done (S:=fun _ => False) m1 (fun _ q => q.elim) (MidV.begin (hv.more m1) hD) hRr.symm)
   clear hRr hb1 hb2 hb3 e2 m1 m2 hv hD
   go_enter Tryz.func95,Tryz.ntmps95
   go_wp2_with fail
   go_ret
   exact FIN.out
 have d0 : decide (m < 1) = false := by simp; omega
 by_cases a1 : step < 1
 · have d1 : decide (step < 1) = true := by simp [a1]
   rw [if_neg (by omega)] at hRr
   have FIN : Hid (WentV w F p kn (fun x : Int => Value.int .i64 x) Rr (.returned (.int .i64 (-1))) w1) := hQQ (mid_done (S:=fun _ => False) m1 (fun _ q => q.elim) (MidV.begin (hv.more m1) hD) hRr.symm)
   clear hRr hb1 hb2 hb3 e2 m1 m2 hv hD
   go_enter Tryz.func95,Tryz.ntmps95
   go_wp2_with fail
   go_ret
   exact FIN.out
 have d1 : decide (step < 1) = false := by simp; omega
 rw [if_pos ⟨by omega,by omega⟩] at hRr
 obtain ⟨c3,f3,l3⟩ := box_cells hb3
 have hb3' : (w2.setCell ⟨w.heap.size + 2,0,none⟩ (.func (.func 129) #[] #[.pointer (some ⟨w.heap.size,0,none⟩),.pointer (some ⟨w.heap.size + 1,0,none⟩)])).heap[w.heap.size + 2]? = _ := setCell_one hb3 _
 have t23 : Turned (fun b => b = w.heap.size + 2) w2 (w2.setCell ⟨w.heap.size + 2,0,none⟩ (.func (.func 129) #[] #[.pointer (some ⟨w.heap.size,0,none⟩),.pointer (some ⟨w.heap.size + 1,0,none⟩)])) := Turned.setCell (Turned.refl _ w2) ⟨w.heap.size + 2,0,none⟩ _ (fun _ => rfl)
 have T23 := hQQ t23
 have B3 := hQQ hb3'
 have B1 := hQQ (m2.block hb1)
 have B2 := hQQ (m2.block hb2)
 have M12 := hQQ (m1.trans m2)
 have HV := hQQ hv
 have HDD := hQQ hD
 have HRr := hQQ hRr
 clear hRr hb1 hb2 hb3 m1 m2 hv hD hb3' t23
 go_enter Tryz.func95,Tryz.ntmps95
 have rst := run_store Tryz.prog w2 ⟨w.heap.size + 2,0,none⟩ (.func (.func 129) #[] #[.pointer (some ⟨w.heap.size,0,none⟩),.pointer (some ⟨w.heap.size + 1,0,none⟩)]) .plain rfl
 go_wp2_with (refine wpList_load_row rfl 28 _ rfl (w.heap.size + 1) rfl 28 _ _ _ (by have := T23.out.block (w.heap.size + 1) (lt_of_heap B2.out) (by omega); exact this.trans B2.out) Tryz.underlying28 rfl (by kernel_rfl) ?_)
 have h1 := (T23.out.block w.heap.size (lt_of_heap B1.out) (by omega)).trans B1.out
 have h2 := (T23.out.block (w.heap.size + 1) (lt_of_heap B2.out) (by omega)).trans B2.out
 have h3 := B3.out
 have m3 : More w (w2.setCell ⟨w.heap.size + 2,0,none⟩ (.func (.func 129) #[] #[.pointer (some ⟨w.heap.size,0,none⟩),.pointer (some ⟨w.heap.size + 1,0,none⟩)])) := Turned.mono (turned_own (F:=fun _ => False) M12.out T23.out (fun b e => .inr (by omega))) (fun _ _ q => q)
 generalize w2.setCell ⟨w.heap.size + 2,0,none⟩ (.func (.func 129) #[] #[.pointer (some ⟨w.heap.size,0,none⟩),.pointer (some ⟨w.heap.size + 1,0,none⟩)]) = w3 at h1 h2 h3 m3 ⊢
 have hv3 := HV.out.more m3
 have HH := hQQ H
 have HR := hQQ R
 have HK := hQQ hk
 have H1 := hQQ h1
 have H2 := hQQ h2
 have H3 := hQQ h3
 have M3 := hQQ m3
 have l1 := lt_of_heap h1
 have l2 := lt_of_heap h2
 have l3 := lt_of_heap h3
 have M0 : Hid (MidV w3 w3 F (fun _ => False) p kn n D F) := hQQ (MidV.begin hv3 HDD.out)
 have nF : ∀ b,w.heap.size ≤ b → ¬ F b := fun b hb q => by have := hfw b q; omega
 have KEEP : Hid (∀ wr D' F',MidV w3 wr F (fun _ => False) p kn n D' F' → wr.heap[w.heap.size]? = some (.cells #[.pointer (some ⟨p,0,none⟩)] 44 (0,0)) ∧ wr.heap[w.heap.size + 1]? = some (.cells c.arr 28 (0,0)) ∧ wr.heap[w.heap.size + 2]? = some (.cells #[(.func (.func 129) #[] #[.pointer (some ⟨w.heap.size,0,none⟩),.pointer (some ⟨w.heap.size + 1,0,none⟩)])] 86 (0,0))) := hQQ fun wr D' F' h =>
   ⟨mid_own h H1.out (nF _ (by omega)) (fun q => q),mid_own h H2.out (nF _ (by omega)) (fun q => q),mid_own h H3.out (nF _ (by omega)) (fun q => q)⟩
 have NEED : Hid (∀ a w2,Rr = .need a → DeadAt w2 p a → Turned (fun b => F b ∨ False) w3 w2 → WentV w F p kn (fun x : Int => Value.int .i64 x) Rr (.panicked (endOf p)) w2) := hQQ fun a w2 e hd ht => mid_need M3.out (fun _ q => q.elim) e hd ht
 have DONE : Hid (∀ x w2 D' F',Rr = .ok x D' → MidV w3 w2 F (fun _ => False) p kn n D' F' → WentV w F p kn (fun x : Int => Value.int .i64 x) Rr (.returned (.int .i64 x)) w2) := hQQ fun x w2 D' F' e h => mid_done M3.out (fun _ q => q.elim) h e
 have NN : ∀ (w0 wr : World) (F' : Nat → Prop) (b : Nat),w.heap.size ≤ b → b < w0.heap.size → (∀ k,F' k → F k ∨ w0.heap.size ≤ k) → ¬ F' b := fun w0 wr F' b hb hl hn q => by
   rcases hn b q with r | r
   · exact nF b hb r
   · omega
 have LO := e_least HR.out HH.out F p kn D m step (by omega) (by omega) (by omega) (by omega) 130 #[.pointer (some ⟨w.heap.size,0,none⟩),.pointer (some ⟨w.heap.size + 1,0,none⟩),.pointer (some ⟨w.heap.size + 2,0,none⟩)] (eopenP c.pg c.st) w3 hv3 HK.out HDD.out (good_open HH.out) (enters_of Tryz.func130 (by kernel_rfl) rfl)
   (fun wr D' F' q t hn hv' hD' hq => e_open HR.out HH.out F' p kn D' q hq w.heap.size (w.heap.size + 1) (w.heap.size + 2) wr hv' HK.out hD' ((t.block _ l1 (nF _ (by omega))).trans H1.out) ((t.block _ l2 (nF _ (by omega))).trans H2.out) ((t.block _ l3 (nF _ (by omega))).trans H3.out) (NN w3 wr F' _ (by omega) l1 hn) (NN w3 wr F' _ (by omega) l2 hn) (NN w3 wr F' _ (by omega) l3 hn))
 have LF := hQQ (fun (w4 : World) (D4 : List KV) (F4 : Nat → Prop) (M4 : MidV w3 w4 F (fun _ => False) p kn n D4 F4) => e_least HR.out HH.out F4 p kn D4 m step (by omega) (by omega) (by omega) (by omega) 129 #[.pointer (some ⟨w.heap.size,0,none⟩),.pointer (some ⟨w.heap.size + 1,0,none⟩)] (efreeP c.pg c.st) w4 M4.view HK.out M4.inv (good_free HH.out) (enters_of Tryz.func129 (by kernel_rfl) rfl)
   (fun wr D' F' q t hn hv' hD' hq => e_free HR.out HH.out F' p kn D' q w.heap.size (w.heap.size + 1) wr hv' HK.out hD' ((t.block _ (Nat.lt_of_lt_of_le l1 M4.size) (M4.off l1 (nF _ (by omega)))).trans (KEEP.out _ _ _ M4).1) ((t.block _ (Nat.lt_of_lt_of_le l2 M4.size) (M4.off l2 (nF _ (by omega)))).trans (KEEP.out _ _ _ M4).2.1)))
 have LO := hQQ LO
 clear h1 h2 h3 m3 hv3 hm hs R H hk T23 c3 f3 l3 rst e1 e2 NN nF
 go_wp2_with fail
 refine LO.out.mono ?_
 intro e w4 he
 rcases M0.out.step (More.refl _) HK.out (good_seekN2 HH.out (good_open HH.out) m step a0 a1) he with ⟨a',hE,rfl,hd',ht',_⟩ | ⟨x4,D4,F4,hE,rfl,M4,hq4,_,_⟩
 · exact ⟨rfl,NEED.out a' w4 (HRr.out.symm.trans (bindP_need hE)) hd' ht'⟩
 have R4 := (bindP_ok hE).symm.trans HRr.out
 have K4 := KEEP.out _ _ _ M4
 have K42 := hQQ K4.2.1
 have c9 := (box_cells K4.2.2).1
 have M4 := hQQ M4
 clear he hE LO K4
 by_cases z : x4 = -1
 · rw [if_pos z] at R4
   have e4 : (x4 != -1) = false := by simp [z]
   have LL4 := hQQ (LF.out w4 D4 F4 M4.out)
   have R4 := hQQ R4
   clear z LF
   go_wp2_with (refine wpList_load_rowG rfl 28 _ rfl _ rfl 28 _ _ _ K42.out Tryz.underlying28 rfl (by kernel_rfl) ?_)
   refine LL4.out.mono ?_
   intro e w5 he
   rcases M4.out.step (More.refl _) HK.out (good_seekN2 HH.out (good_free HH.out) m step a0 a1) he with ⟨a',hE,rfl,hd',ht',_⟩ | ⟨x5,D5,F5,hE,rfl,M5,hq5,_,_⟩
   · exact ⟨rfl,NEED.out a' w5 (R4.out.symm.trans hE) hd' ht'⟩
   have FIN := hQQ (DONE.out x5 w5 D5 F5 (R4.out.symm.trans hE) M5)
   clear he hE M5
   go_wp2_with fail
   go_ret
   exact FIN.out
 · rw [if_neg z] at R4
   have e4 : (x4 != -1) = true := by simp [z]
   have FIN := hQQ (DONE.out x4 w4 D4 F4 R4.symm M4.out)
   clear z LF R4 c9
   go_wp2_with fail
   go_ret
   exact FIN.out
def pgArr (c : Cfg) (p : Nat) (q k : Int) : Array Value := (Value.pointer (some ⟨p,0,none⟩) :: (c.arr.toList ++ [.int .i64 q,.int .i64 k])).toArray
theorem arr_len (c : Cfg) : c.arr.toList.length = 24 := rfl
theorem pg_v (c : Cfg) (p : Nat) (q k : Int) : (pgArr c p q k)[0]? = some (.pointer (some ⟨p,0,none⟩)) := by simp [pgArr]
theorem pg_n (c : Cfg) (p : Nat) (q k : Int) : (pgArr c p q k)[25]? = some (.int .i64 q) := by
 have h := arr_len c
 unfold pgArr
 generalize c.arr.toList = l at h ⊢
 rw [List.getElem?_toArray,show (25 : Nat) = 24 + 1 from rfl,List.getElem?_cons_succ,List.getElem?_append_right (by omega),h]
 rfl
theorem pg_c (c : Cfg) (p : Nat) (q k : Int) : (pgArr c p q k)[26]? = some (.int .i64 k) := by
 have h := arr_len c
 unfold pgArr
 generalize c.arr.toList = l at h ⊢
 rw [List.getElem?_toArray,show (26 : Nat) = 25 + 1 from rfl,List.getElem?_cons_succ,List.getElem?_append_right (by omega),h]
 rfl
theorem pg_part (c : Cfg) (p : Nat) (q k : Int) : ∀ j,j < c.arr.size → (pgArr c p q k)[1 + j]? = c.arr[j]? := fun j hj => by
 have hj : j < c.arr.toList.length := by simpa using hj
 rw [← Array.getElem?_toList (xs:=c.arr)]
 unfold pgArr
 generalize c.arr.toList = l at hj ⊢
 rw [List.getElem?_toArray,Nat.add_comm,List.getElem?_cons_succ,List.getElem?_append_left hj]
theorem run_loadVar_sub {P : Program} (w : World) (g off : Nat) (t ty : TypeId) (cs hs : Array Value) (fr : Nat × Nat) (d : TypeDesc) (hg : w.heap[g]? = some (.cells cs t fr)) (hc : ∀ j,j < hs.size → cs[off + j]? = hs[j]?)
   (hu : P.underlying ty = some d) (hd : (match d with | .struct _ | .array _ _ => true | _ => false) = true) (hi : (P.info? ty).map (·.size) = some hs.size) :
   (loadVar ty ⟨g,off,none⟩).run P w = .ok (.agg hs) w := by
 have hl : (loadCells ⟨g,off,none⟩ hs.toList.length).run P w = .ok hs.toList.toArray w :=
   run_loadCells_list (P:=P) w ⟨g,off,none⟩ hs.toList (fun j v hv => by
     have hj : j < hs.size := by have := (List.getElem?_eq_some_iff.1 hv).1; simpa using this
     rw [addr_add,cell_of_row w g (off + j) cs t fr hg,hc j hj]
     simpa using hv)
 cases hq : P.info? ty with
 | none => simp [hq] at hi
 | some i =>
   have hs : i.size = hs.size := by simpa [hq] using hi
   have hagg : (isAgg ty).run P w = .ok true w := by
     unfold isAgg
     rw [Sem.run_bind,run_underlying hu w]
     cases d <;> simp_all
   simp only [Array.length_toList,Array.toArray_toList] at hl
   simp [loadVar,Sem.run_bind,hagg,sizeOf,typeInfo,hq,hs,hl]
theorem wpQuiet_load_sub {P : Program} {ops : Array Oper} {a : Act} {o : Oper} {rest : List Oper} {C : World → Prop} {Q : Act → Prop} (hw : Region.wanted o (yielded ops a.tmps) = true) (ty : TypeId) (x : Operand) (ho : o.op = .load ty x)
   (g off : Nat) (hx : a.eval x = .pointer (some ⟨g,off,none⟩)) (t : TypeId) (cs hs : Array Value) (fr : Nat × Nat) (d : TypeDesc) (hg : ∀ W,C W → W.heap[g]? = some (.cells cs t fr)) (hc : ∀ j,j < hs.size → cs[off + j]? = hs[j]?)
   (hu : P.underlying ty = some d) (hd : (match d with | .struct _ | .array _ _ => true | _ => false) = true) (hi : (P.info? ty).map (·.size) = some hs.size)
   (h : wpQuiet P ops C Q rest (a.put o.dst (.agg hs))) : wpQuiet P ops C Q (o :: rest) a := by
 refine wpQuiet_do (.agg hs) hw (fun W hW => ?_) h
 unfold Oper.quietAt execOp
 simp only [ho,hx,Instr.loadAt,Instr.sureAddr,Sem.run_bind,Sem.run_pure,Result.andThen_ok,run_loadVar_sub W g off t ty cs hs fr d (hg W hW) hc hu hd hi]
 exact ⟨rfl,rfl⟩
theorem wpList_load_sub {P : Program} {ops : Array Oper} {rest : List Oper} {o : Oper} {a : Act} {w : World} {Q : Exit → Act → World → Prop} (hw : Region.wanted o (yielded ops a.tmps) = true) (ty : TypeId) (x : Operand) (ho : o.op = .load ty x)
   (g off : Nat) (hx : a.eval x = .pointer (some ⟨g,off,none⟩)) (t : TypeId) (cs hs : Array Value) (fr : Nat × Nat) (d : TypeDesc) (hg : w.heap[g]? = some (.cells cs t fr)) (hc : ∀ j,j < hs.size → cs[off + j]? = hs[j]?)
   (hu : P.underlying ty = some d) (hd : (match d with | .struct _ | .array _ _ => true | _ => false) = true) (hi : (P.info? ty).map (·.size) = some hs.size)
   (h : wpList P ops Q rest (a.put o.dst (.agg hs)) w) : wpList P ops Q (o :: rest) a w :=
 wpList_wanted hw fun K hK => by
   unfold Oper.wp Oper.upon execOp
   simp only [ho,hx,Instr.loadAt,Instr.sureAddr,Sem.run_bind,Sem.run_pure,Result.andThen_ok,run_loadVar_sub w g off t ty cs hs fr d hg hc hu hd hi]
   exact hK _ _ h
theorem g_bitsA {c : Cfg} (R : c.Ok) (w : World) (q : Int) : Calls Tryz.prog 22 #[.agg c.arr,.int .i64 q] w (Gives w (.int .i64 (pageV c.pg c.st 2 q))) := xbits R w q
theorem g_countA {c : Cfg} (R : c.Ok) (w : World) (q : Int) : Calls Tryz.prog 31 #[.agg c.arr,.int .i64 q] w (Gives w (.int .i64 (pageV c.pg c.st 1 q))) := xcount R w q
theorem g_bits {c : Cfg} (R : c.Ok) {n : Nat} (H : PgIn c.pg c.st n) (F : Nat → Prop) (p : Nat) (kn : Int → Option Int) (D : List KV) (q k : Int) (hn : n ≤ 10000) (hq : isPage c.pg q = true) (w : World) (hv : ViewAt w F p kn D) (hk : OkK kn) (hD : InvD n D) :
   Calls Tryz.prog 55 #[.agg (pgArr c p q k)] w (WentV w F p kn (fun x => .int .i64 x) (readP (bA c.pg c.st q) kn D)) := by
 obtain ⟨Rr,hRr⟩ : ∃ Rr,readP (bA c.pg c.st q) kn D = Rr := ⟨_,rfl⟩
 rw [hRr]
 obtain ⟨w1,e1,hl1,m1,s1⟩ := entry1 w (.cells (pgArr c p q k) 83)
 have MM := hQQ m1
 have L0 := hQQ hl1
 have c0 := (show w1.cell? ⟨w.heap.size,0,none⟩ = some (.pointer (some ⟨p,0,none⟩)) by rw [cell_of_row w1 _ _ _ _ _ hl1]; exact pg_v c p q k)
 have c25 := (show w1.cell? ⟨w.heap.size,25,none⟩ = some (.int .i64 q) by rw [cell_of_row w1 _ _ _ _ _ hl1]; exact pg_n c p q k)
 have c26 := (show w1.cell? ⟨w.heap.size,26,none⟩ = some (.int .i64 k) by rw [cell_of_row w1 _ _ _ _ _ hl1]; exact pg_c c p q k)
 have nFl : ¬ F w.heap.size := fun z => by have := hv.lt _ z; omega
 have M0 : Hid (MidV w1 w1 F (fun _ => False) p kn n D F) := hQQ (MidV.begin (hv.more m1) hD)
 have NEED : Hid (∀ a w2,Rr = .need a → DeadAt w2 p a → Turned (fun b => F b ∨ False) w1 w2 → WentV w F p kn (fun x : Int => Value.int .i64 x) Rr (.panicked (endOf p)) w2) := hQQ fun a w2 e hd ht => mid_need MM.out (fun _ q => q.elim) e hd ht
 have DONE : Hid (∀ x w2 D' F',Rr = .ok x D' → MidV w1 w2 F (fun _ => False) p kn n D' F' → WentV w F p kn (fun x : Int => Value.int .i64 x) Rr (.returned ((fun x : Int => Value.int .i64 x) x)) w2) := hQQ fun x w2 D' F' e h => mid_done MM.out (fun _ q => q.elim) h e
 have HK := hQQ hk
 have HR := hQQ R
 clear hl1 m1 hv hD hk R nFl
 have hb := (page_b H hq).2.2
 have YB := hQQ (fun W => by have := g_bitsA HR.out W q; rw [page2 hq] at this; exact this)
 have HRr := hQQ hRr
 have HB := hQQ hb
 have pg2 := HR.out.pg2
 clear hRr hb hq
 go_enter Tryz.func55,Tryz.ntmps55
 go_wp2_with fail
 clear e1
 refine wp_region_more_tail 7 (by kernel_rfl) (by kernel_rfl) ?_
 simp only [List.take_succ_cons,List.take_zero,List.drop_succ_cons,List.drop_zero]
 iterate 3
   with_reducible refine wpQuiet_step (fun K hK => ?_)
   go_simp
   first
   | (refine hK _ ?_; clear hK K)
   | (apply Exists.intro
      refine ⟨fun W hW => ?_,hK _ ?_⟩
      first
      | (have c1' := hW.cell c0; go_simp; try rfl)
      clear hK K)
 refine wpQuiet_load_sub rfl 28 _ rfl w.heap.size 1 rfl 83 _ c.arr _ _ (fun W hW => hW.block L0.out) (pg_part c p q k) Tryz.underlying28 rfl (by kernel_rfl) ?_
 iterate 2
   with_reducible refine wpQuiet_step (fun K hK => ?_)
   go_simp
   first
   | (refine hK _ ?_; clear hK K)
   | (apply Exists.intro
      refine ⟨fun W hW => ?_,hK _ ?_⟩
      first
      | (have c1' := hW.cell c25; go_simp; try rfl)
      clear hK K)
 iterate 1
   with_reducible refine wpQuiet_step (fun K hK => ?_)
   go_simp
   first
   | (refine hK _ ?_; clear hK K)
   | (apply Exists.intro
      refine ⟨fun W hW => ?_,hK _ ?_⟩
      first
      | (go_at_call 22; exact Calls.more hW (YB.out W))
      | (go_simp; try rfl)
      clear hK K)
 refine wpQuiet_nil ?_
 intro w2 h2
 have M2 := hQQ (M0.out.more h2)
 clear h2 c0 c25 c26
 go_wp2_with fail
 refine (read_any F p kn D (bA c.pg c.st q) w2 M2.out.view (by have := HB.out; have := M2.out.inv.len; unfold W64; omega)).mono ?_
 intro e w3 he
 rcases M2.out.step (More.refl _) HK.out (good_read n HB.out.2.1) he with ⟨a',hE,rfl,hd',ht',_⟩ | ⟨x3,D3,F3,hE,rfl,M3,hq3,_,_⟩
 · exact ⟨rfl,NEED.out a' w3 (HRr.out.symm.trans hE) hd' ht'⟩
 have FIN := hQQ (DONE.out x3 w3 D3 F3 (HRr.out.symm.trans hE) M3)
 clear he hE M3
 go_wp2_with fail
 go_ret
 exact FIN.out
theorem g_bitsK {c : Cfg} (R : c.Ok) {n : Nat} (H : PgIn c.pg c.st n) (F : Nat → Prop) (p : Nat) (kn : Int → Option Int) (D : List KV) (q k b : Int) (hn : n ≤ 10000) (hq : isPage c.pg q = true) (w : World) (hv : ViewAt w F p kn D) (hb : wordV kn D (bA c.pg c.st q) = some b) :
   Calls Tryz.prog 55 #[.agg (pgArr c p q k)] w (Gives w (.int .i64 b)) := by
 obtain ⟨w1,e1,hl1,m1,s1⟩ := entry1 w (.cells (pgArr c p q k) 83)
 have MM := hQQ m1
 have L0 := hQQ hl1
 have c0 := (show w1.cell? ⟨w.heap.size,0,none⟩ = some (.pointer (some ⟨p,0,none⟩)) by rw [cell_of_row w1 _ _ _ _ _ hl1]; exact pg_v c p q k)
 have c25 := (show w1.cell? ⟨w.heap.size,25,none⟩ = some (.int .i64 q) by rw [cell_of_row w1 _ _ _ _ _ hl1]; exact pg_n c p q k)
 have c26 := (show w1.cell? ⟨w.heap.size,26,none⟩ = some (.int .i64 k) by rw [cell_of_row w1 _ _ _ _ _ hl1]; exact pg_c c p q k)
 have YB := hQQ (fun W => by have := g_bitsA R W q; rw [page2 hq] at this; exact this)
 have HV : Hid (∀ W,More w1 W → ViewAt W F p kn D) := hQQ fun W m => (hv.more m1).more m
 have HB := hQQ hb
 have PB := hQQ (page_b H hq).2.2
 clear hl1 m1 hv hb R H hq
 go_enter Tryz.func55,Tryz.ntmps55
 go_wp2_with fail
 clear e1
 refine wp_region_more_tail 7 (by kernel_rfl) (by kernel_rfl) ?_
 simp only [List.take_succ_cons,List.take_zero,List.drop_succ_cons,List.drop_zero]
 iterate 3
   with_reducible refine wpQuiet_step (fun K hK => ?_)
   go_simp
   first
   | (refine hK _ ?_; clear hK K)
   | (apply Exists.intro
      refine ⟨fun W hW => ?_,hK _ ?_⟩
      first
      | (have c1' := hW.cell c0; go_simp; try rfl)
      clear hK K)
 refine wpQuiet_load_sub rfl 28 _ rfl w.heap.size 1 rfl 83 _ c.arr _ _ (fun W hW => hW.block L0.out) (pg_part c p q k) Tryz.underlying28 rfl (by kernel_rfl) ?_
 iterate 2
   with_reducible refine wpQuiet_step (fun K hK => ?_)
   go_simp
   first
   | (refine hK _ ?_; clear hK K)
   | (apply Exists.intro
      refine ⟨fun W hW => ?_,hK _ ?_⟩
      first
      | (have c1' := hW.cell c25; go_simp; try rfl)
      clear hK K)
 iterate 1
   with_reducible refine wpQuiet_step (fun K hK => ?_)
   go_simp
   first
   | (refine hK _ ?_; clear hK K)
   | (apply Exists.intro
      refine ⟨fun W hW => ?_,hK _ ?_⟩
      first
      | (go_at_call 22; exact Calls.more hW (YB.out W))
      | (go_simp; try rfl)
      clear hK K)
 refine wpQuiet_nil ?_
 intro w2 h2
 have M2 := hQQ h2
 clear h2 c0 c25 c26
 go_wp2_with fail
 refine (read_some F p kn D _ b w2 (HV.out _ M2.out) (by have := PB.out; unfold W64; omega) HB.out).mono ?_
 rintro e w3 ⟨rfl,m,rfl⟩
 have FIN := hQQ ((MM.out.trans M2.out).drewN m)
 go_wp2_with fail
 go_ret
 exact ⟨rfl,FIN.out⟩
theorem gd_count {c : Cfg} (R : c.Ok) (p : Nat) (nd q k : Int) (w : World) (hd : DeadAt w p nd) :
   Calls Tryz.prog 98 #[.agg (pgArr c p q k)] w (Gives w (.int .i64 0)) := by
 obtain ⟨w1,e1,hl1,m1,s1⟩ := entry1 w (.cells (pgArr c p q k) 83)
 have MM := hQQ m1
 have L0 := hQQ hl1
 have c0 := (show w1.cell? ⟨w.heap.size,0,none⟩ = some (.pointer (some ⟨p,0,none⟩)) by rw [cell_of_row w1 _ _ _ _ _ hl1]; exact pg_v c p q k)
 have c25 := (show w1.cell? ⟨w.heap.size,25,none⟩ = some (.int .i64 q) by rw [cell_of_row w1 _ _ _ _ _ hl1]; exact pg_n c p q k)
 have c26 := (show w1.cell? ⟨w.heap.size,26,none⟩ = some (.int .i64 k) by rw [cell_of_row w1 _ _ _ _ _ hl1]; exact pg_c c p q k)
 have YB := hQQ (fun W => g_countA R W q)
 have DD : Hid (∀ W,More w1 W → DeadAt W p nd) := hQQ fun W m => (hd.keep m1 (fun q => q)).keep m (fun q => q)
 clear hl1 m1 hd R
 go_enter Tryz.func98,Tryz.ntmps98
 go_wp2_with fail
 clear e1
 refine wp_region_more_tail 7 (by kernel_rfl) (by kernel_rfl) ?_
 simp only [List.take_succ_cons,List.take_zero,List.drop_succ_cons,List.drop_zero]
 iterate 3
   with_reducible refine wpQuiet_step (fun K hK => ?_)
   go_simp
   first
   | (refine hK _ ?_; clear hK K)
   | (apply Exists.intro
      refine ⟨fun W hW => ?_,hK _ ?_⟩
      first
      | (have c1' := hW.cell c0; go_simp; try rfl)
      clear hK K)
 refine wpQuiet_load_sub rfl 28 _ rfl w.heap.size 1 rfl 83 _ c.arr _ _ (fun W hW => hW.block L0.out) (pg_part c p q k) Tryz.underlying28 rfl (by kernel_rfl) ?_
 iterate 2
   with_reducible refine wpQuiet_step (fun K hK => ?_)
   go_simp
   first
   | (refine hK _ ?_; clear hK K)
   | (apply Exists.intro
      refine ⟨fun W hW => ?_,hK _ ?_⟩
      first
      | (have c1' := hW.cell c25; go_simp; try rfl)
      clear hK K)
 iterate 1
   with_reducible refine wpQuiet_step (fun K hK => ?_)
   go_simp
   first
   | (refine hK _ ?_; clear hK K)
   | (apply Exists.intro
      refine ⟨fun W hW => ?_,hK _ ?_⟩
      first
      | (go_at_call 31; exact Calls.more hW (YB.out W))
      | (go_simp; try rfl)
      clear hK K)
 refine wpQuiet_nil ?_
 intro w2 h2
 have M2 := hQQ h2
 clear h2 c0 c25 c26
 go_wp2_with fail
 refine (read_dead p nd _ w2 (DD.out _ M2.out)).mono ?_
 rintro e w3 ⟨rfl,rfl⟩
 go_wp2_with fail
 go_ret
 exact ⟨rfl,MM.out.trans M2.out⟩
end Go.Proofs.YtflihdcliknggaaGreatDoor
namespace Go.Proofs.YtflihdcliknggaaGreatDoor
open Go.RowKit
def bvOf (w : Int) : BitVec 64 := BitVec.ofInt 64 w
def bitB (w : Int) (k : Nat) : Bool := (bvOf w).getLsbD k
def inR (i : Int) : Bool := decide (0 ≤ i ∧ i < 32)
def hasB (w i : Int) : Bool := inR i && bitB w i.toNat
def onlyV (i : Int) : Int := if inR i then 2 ^ i.toNat else 0
def setV (w i : Int) : Int := if inR i then (bvOf w ||| BitVec.twoPow 64 i.toNat).toInt else w
def clearV (w i : Int) : Int := if inR i then (bvOf w &&& ~~~ BitVec.twoPow 64 i.toNat).toInt else w
def endN (n : Int) : Nat := (min n 32).toNat
def onN (w : Int) (k : Nat) : List Nat := (List.range k).filter (bitB w)
def slCountV (w n : Int) : Int := (onN w (endN n)).length
def listV (w n : Int) : List Int := (onN w (endN n)).map (fun k : Nat => (k : Int))
def offN (w : Int) (k : Nat) : Int := match (List.range k).find? (fun j => !bitB w j) with | some j => (j : Int) | none => -1
def slFirstV (w n : Int) : Int := offN w (endN n)
theorem inR_iff (i : Int) : inR i = true ↔ 0 ≤ i ∧ i < 32 := by simp [inR]
theorem inR_nat {k : Nat} (h : k < 32) : inR (k : Int) = true := by simp [inR]; omega
theorem endN_le (n : Int) : endN n ≤ 32 := by unfold endN; omega
theorem wrap_toNat (r : BitVec 64) : IntKind.i64.wrap (r.toNat : Int) = r.toInt := by
 have := r.isLt
 rw [BitVec.toInt_eq_toNat_bmod]
 simp [IntKind.wrap,IntKind.bits,IntKind.signed,Int.bmod]
 omega
theorem toInt_of {w : Int} (h0 : -9223372036854775808 ≤ w) (h1 : w ≤ 9223372036854775807) : (bvOf w).toInt = w := by
 rw [bvOf,BitVec.toInt_ofInt,Int.bmod]
 simp only [Nat.reducePow]
 split <;> omega
theorem bv_toInt (r : BitVec 64) : bvOf r.toInt = r := by rw [bvOf,BitVec.ofInt_toInt]
theorem toInt_wide (r : BitVec 64) : -9223372036854775808 ≤ r.toInt ∧ r.toInt ≤ 9223372036854775807 := by
 have h1 := BitVec.le_toInt r
 have h2 := BitVec.toInt_lt (x:=r)
 constructor <;> omega
theorem bv_pow {k : Nat} (h : k < 32) : BitVec.ofInt 64 ((2 : Int) ^ k) = BitVec.twoPow 64 k := by
 rw [show ((2 : Int) ^ k) = ((2 ^ k : Nat) : Int) by simp,BitVec.ofInt_natCast]
 apply BitVec.eq_of_toNat_eq
 rw [BitVec.toNat_ofNat,BitVec.toNat_twoPow]
theorem bv_zero : BitVec.ofInt 64 0 = 0#64 := by decide
theorem bits_and (w i : Int) : (bits .and .i64 w (onlyV i) != 0) = hasB w i := by
 show (IntKind.i64.wrap ((BitVec.ofInt 64 w &&& BitVec.ofInt 64 (onlyV i)).toNat : Int) != 0) = _
 rw [wrap_toNat]
 unfold hasB onlyV
 cases hi : inR i with
 | false => simp
 | true =>
   have hr := (inR_iff i).1 hi
   simp only [if_true,Bool.true_and]
   rw [bv_pow (by omega),BitVec.and_twoPow]
   unfold bitB bvOf
   cases hb : (BitVec.ofInt 64 w).getLsbD i.toNat with
   | false => simp
   | true =>
     simp only [if_true]
     simp only [bne_iff_ne,ne_eq]
     intro e
     have := congrArg (BitVec.ofInt 64) e
     rw [BitVec.ofInt_toInt] at this
     have := congrArg (fun x => x.getLsbD i.toNat) this
     simp [BitVec.getLsbD_twoPow] at this
     omega
theorem bits_or (w i : Int) (h0 : -9223372036854775808 ≤ w) (h1 : w ≤ 9223372036854775807) : bits .or .i64 w (onlyV i) = setV w i := by
 show IntKind.i64.wrap ((BitVec.ofInt 64 w ||| BitVec.ofInt 64 (onlyV i)).toNat : Int) = _
 rw [wrap_toNat]
 unfold setV onlyV
 cases hi : inR i with
 | false =>
   rw [if_neg (by simp),if_neg (by simp),bv_zero,BitVec.or_zero]
   exact toInt_of h0 h1
 | true =>
   have hr := (inR_iff i).1 hi
   simp only [if_true]
   rw [bv_pow (by omega)]; rfl
theorem bits_andNot (w i : Int) (h0 : -9223372036854775808 ≤ w) (h1 : w ≤ 9223372036854775807) : bits .andNot .i64 w (onlyV i) = clearV w i := by
 show IntKind.i64.wrap ((BitVec.ofInt 64 w &&& ~~~ BitVec.ofInt 64 (onlyV i)).toNat : Int) = _
 rw [wrap_toNat]
 unfold clearV onlyV
 cases hi : inR i with
 | false =>
   rw [if_neg (by simp),if_neg (by simp),bv_zero,BitVec.not_zero,BitVec.and_allOnes]
   exact toInt_of h0 h1
 | true =>
   have hr := (inR_iff i).1 hi
   simp only [if_true]
   rw [bv_pow (by omega)]; rfl
theorem setV_wide (w i : Int) (h0 : -9223372036854775808 ≤ w) (h1 : w ≤ 9223372036854775807) : -9223372036854775808 ≤ setV w i ∧ setV w i ≤ 9223372036854775807 := by
 unfold setV; split
 · exact toInt_wide _
 · exact ⟨h0,h1⟩
theorem clearV_wide (w i : Int) (h0 : -9223372036854775808 ≤ w) (h1 : w ≤ 9223372036854775807) : -9223372036854775808 ≤ clearV w i ∧ clearV w i ≤ 9223372036854775807 := by
 unfold clearV; split
 · exact toInt_wide _
 · exact ⟨h0,h1⟩
theorem bit_set {w i : Int} (hi : inR i = true) (k : Nat) (hk : k < 64) : bitB (setV w i) k = (bitB w k || decide (i.toNat = k)) := by
 have hr := (inR_iff i).1 hi
 unfold bitB setV
 rw [if_pos hi,bv_toInt,BitVec.getLsbD_or,BitVec.getLsbD_twoPow,decide_eq_true (show i.toNat < 64 by omega),Bool.true_and]
theorem bit_clear {w i : Int} (hi : inR i = true) (k : Nat) (hk : k < 64) : bitB (clearV w i) k = (bitB w k && !decide (i.toNat = k)) := by
 have hr := (inR_iff i).1 hi
 unfold bitB clearV
 rw [if_pos hi,bv_toInt,BitVec.getLsbD_and,BitVec.getLsbD_not,BitVec.getLsbD_twoPow,decide_eq_true hk,decide_eq_true (show i.toNat < 64 by omega),Bool.true_and,Bool.true_and]
theorem word_ext {a b : Int} (a0 : -9223372036854775808 ≤ a) (a1 : a ≤ 9223372036854775807) (b0 : -9223372036854775808 ≤ b) (b1 : b ≤ 9223372036854775807)
   (h : ∀ k,k < 64 → bitB a k = bitB b k) : a = b := by
 rw [← toInt_of a0 a1,← toInt_of b0 b1]
 congr 1
 apply BitVec.eq_of_getLsbD_eq
 exact h
theorem has_set {w i : Int} (hi : inR i = true) : hasB (setV w i) i = true := by
 have hr := (inR_iff i).1 hi
 unfold hasB; rw [bit_set hi _ (by omega)]; simp [hi]
theorem has_clear {w i : Int} (hi : inR i = true) : hasB (clearV w i) i = false := by
 have hr := (inR_iff i).1 hi
 unfold hasB; rw [bit_clear hi _ (by omega)]; simp
section
variable {w i : Int} (h0 : -9223372036854775808 ≤ w) (h1 : w ≤ 9223372036854775807)
include h0 h1
theorem set_had (hi : inR i = true) (hb : hasB w i = true) : setV w i = w := by
 have hr := (inR_iff i).1 hi
 have ⟨s0,s1⟩ := setV_wide w i h0 h1
 refine word_ext s0 s1 h0 h1 fun k hk => ?_
 rw [bit_set hi _ hk]
 by_cases q : i.toNat = k
 · subst q; unfold hasB at hb; simp [hi] at hb; simp [hb]
 · simp [q]
theorem clear_not (hi : inR i = true) (hb : hasB w i = false) : clearV w i = w := by
 have hr := (inR_iff i).1 hi
 have ⟨s0,s1⟩ := clearV_wide w i h0 h1
 refine word_ext s0 s1 h0 h1 fun k hk => ?_
 rw [bit_clear hi _ hk]
 by_cases q : i.toNat = k
 · subst q; unfold hasB at hb; simp [hi] at hb; simp [hb]
 · simp [q]
theorem set_clear (hi : inR i = true) (hb : hasB w i = true) : setV (clearV w i) i = w := by
 have hr := (inR_iff i).1 hi
 have ⟨s0,s1⟩ := clearV_wide w i h0 h1
 have ⟨t0,t1⟩ := setV_wide (clearV w i) i s0 s1
 refine word_ext t0 t1 h0 h1 fun k hk => ?_
 rw [bit_set hi _ hk,bit_clear hi _ hk]
 by_cases q : i.toNat = k
 · subst q; unfold hasB at hb; simp [hi] at hb; simp [hb]
 · simp [q]
end
theorem set_none {w i : Int} (hi : inR i = false) : setV w i = w := by simp [setV,hi]
theorem clear_none {w i : Int} (hi : inR i = false) : clearV w i = w := by simp [clearV,hi]
theorem has_none {w i : Int} (hi : inR i = false) : hasB w i = false := by simp [hasB,hi]
theorem nat_bit (w : Int) (k : Nat) : bitB w k = decide ((bvOf w).toNat / 2 ^ k % 2 = 1) := by
 unfold bitB
 rw [BitVec.getLsbD,Nat.testBit_eq_decide_div_mod_eq]
theorem u64_of (w : Int) : IntKind.u64.wrap w = ((bvOf w).toNat : Int) := by
 rw [bvOf,BitVec.toNat_ofInt]
 simp [IntKind.wrap,IntKind.bits,IntKind.signed]
 omega
theorem onN_succ (w : Int) (k : Nat) : onN w (k + 1) = onN w k ++ (if bitB w k then [k] else []) := by
 unfold onN
 rw [List.range_succ,List.filter_append]
 congr 1
 cases h : bitB w k <;> simp [h]
theorem onN_le (w : Int) (k : Nat) : (onN w k).length ≤ k := by
 have := List.length_filter_le (bitB w) (List.range k)
 rw [List.length_range] at this
 exact this
theorem offN_some {w : Int} {k j : Nat} (hj : j < k) (h0 : bitB w j = false) (h1 : ∀ i,i < j → bitB w i = true) : offN w k = j := by
 have : (List.range k).find? (fun i => !bitB w i) = some j := by
   rw [List.find?_range_eq_some]
   exact ⟨by simp [h0],by simpa using hj,fun i hi => by simp [h1 i hi]⟩
 unfold offN; rw [this]
theorem offN_none {w : Int} {k : Nat} (h : ∀ i,i < k → bitB w i = true) : offN w k = -1 := by
 have : (List.range k).find? (fun i => !bitB w i) = none := by
   rw [List.find?_range_eq_none]
   intro i hi; simp [h i hi]
 unfold offN; rw [this]
theorem offN_ways (w : Int) (k : Nat) : (offN w k = -1 ∧ ∀ i,i < k → bitB w i = true) ∨ ∃ j : Nat,j < k ∧ offN w k = j ∧ bitB w j = false ∧ ∀ i,i < j → bitB w i = true := by
 induction k with
 | zero => exact .inl ⟨rfl,fun i h => by omega⟩
 | succ k ih =>
   rcases ih with ⟨_,h⟩ | ⟨j,hj,_,h0,h1⟩
   · cases hb : bitB w k with
     | true =>
       have : ∀ i,i < k + 1 → bitB w i = true := fun i hi => by
         by_cases q : i = k
         · rw [q]; exact hb
         · exact h i (by omega)
       exact .inl ⟨offN_none this,this⟩
     | false => exact .inr ⟨k,by omega,offN_some (by omega) hb h,hb,h⟩
   · exact .inr ⟨j,by omega,offN_some (by omega) h0 h1,h0,h1⟩
theorem on_all {w : Int} {k : Nat} (h : ∀ i,i < k → bitB w i = true) : (onN w k).length = k := by
 induction k with
 | zero => rfl
 | succ k ih => rw [onN_succ,List.length_append,ih (fun i hi => h i (by omega)),if_pos (h k (by omega))]; rfl
theorem on_set {w i : Int} (hi : inR i = true) (hb : bitB w i.toNat = false) (k : Nat) (hk : k ≤ 32) : (onN (setV w i) k).length = (onN w k).length + if i.toNat < k then 1 else 0 := by
 induction k with
 | zero => rfl
 | succ k ih =>
   rw [onN_succ,onN_succ,List.length_append,List.length_append,ih (by omega),bit_set hi k (by omega)]
   by_cases q : i.toNat = k
   · subst q
     rw [hb]
     simp
   · rw [decide_eq_false q,Bool.or_false]
     have e : (if i.toNat < k + 1 then 1 else 0) = (if i.toNat < k then 1 else 0) := by
       by_cases q2 : i.toNat < k
       · rw [if_pos q2,if_pos (show i.toNat < k + 1 by omega)]
       · rw [if_neg q2,if_neg (show ¬ i.toNat < k + 1 by omega)]
     rw [e]; omega
theorem wrap_i64 {x : Int} (h0 : -9223372036854775808 ≤ x) (h1 : x ≤ 9223372036854775807) : IntKind.i64.wrap x = x := by
 simp [IntKind.wrap,IntKind.bits,IntKind.signed]; omega
theorem pow_b {k : Nat} (h : k < 32) : 1 ≤ (2 : Int) ^ k ∧ (2 : Int) ^ k ≤ 2147483648 := by
 have h1 : (1 : Nat) ≤ 2 ^ k := Nat.one_le_two_pow
 have h2 : (2 : Nat) ^ k ≤ 2 ^ 31 := Nat.pow_le_pow_right (by omega) (by omega)
 have e : (2 : Int) ^ k = ((2 ^ k : Nat) : Int) := by simp
 rw [e]; omega
theorem o_only (i : Int) (w : World) : Calls Tryz.prog 60 #[.int .i64 i] w fun e w' => e = .returned (.int .i64 (onlyV i)) ∧ w' = w := by
 by_cases c0 : i < 0
 · have d0 : decide (i < 0) = true := by simpa using c0
   have e0 : onlyV i = 0 := by unfold onlyV; rw [if_neg (by simp [inR]; omega)]
   have HE := hQQ e0; clear e0
   go_enter Tryz.func60,Tryz.ntmps60
   go_wp2_with fail
   go_ret
   exact ⟨by rw [HE.out]; rfl,rfl⟩
 · have d0 : decide (i < 0) = false := by simpa using c0
   by_cases c1 : 32 ≤ i
   · have d1 : decide (32 ≤ i) = true := by simpa using c1
     have e0 : onlyV i = 0 := by unfold onlyV; rw [if_neg (by simp [inR]; omega)]
     have HE := hQQ e0; clear e0
     go_enter Tryz.func60,Tryz.ntmps60
     go_wp2_with fail
     go_ret
     exact ⟨by rw [HE.out]; rfl,rfl⟩
   · have d1 : decide (32 ≤ i) = false := by simpa using c1
     obtain ⟨k,rfl⟩ : ∃ k : Nat,i = k := ⟨i.toNat,by omega⟩
     have hk : k < 32 := by omega
     have pb := pow_b hk
     have e0 : onlyV (k : Int) = 2 ^ k := by unfold onlyV; rw [if_pos (inR_nat hk)]; simp
     have HE := hQQ e0; clear e0
     have hm : min k 64 = k := by omega
     have HM := hQQ hm; clear hm
     have HW := hQQ (wrap_i64 (x:=2 ^ k) (by omega) (by omega))
     go_enter Tryz.func60,Tryz.ntmps60
     go_wp2_with fail
     go_ret
     exact ⟨by rw [HE.out]; rfl,rfl⟩
theorem o_has (x i : Int) (w : World) : Calls Tryz.prog 27 #[.int .i64 x,.int .i64 i] w fun e w' => e = .returned (.bool (hasB x i)) ∧ w' = w := by
 have HE := hQQ (bits_and x i)
 go_enter Tryz.func27,Tryz.ntmps27
 go_wp2_with fail
 refine (o_only i _).mono ?_
 rintro e w' ⟨rfl,rfl⟩
 go_wp2_with fail
 go_ret
 exact ⟨by rw [← HE.out]; rfl,rfl⟩
theorem o_set (x i : Int) (h0 : -9223372036854775808 ≤ x) (h1 : x ≤ 9223372036854775807) (w : World) : Calls Tryz.prog 58 #[.int .i64 x,.int .i64 i] w fun e w' => e = .returned (.int .i64 (setV x i)) ∧ w' = w := by
 have HE := hQQ (bits_or x i h0 h1)
 go_enter Tryz.func58,Tryz.ntmps58
 go_wp2_with fail
 refine (o_only i _).mono ?_
 rintro e w' ⟨rfl,rfl⟩
 go_wp2_with fail
 go_ret
 exact ⟨by rw [← HE.out]; rfl,rfl⟩
theorem o_clear (x i : Int) (h0 : -9223372036854775808 ≤ x) (h1 : x ≤ 9223372036854775807) (w : World) : Calls Tryz.prog 65 #[.int .i64 x,.int .i64 i] w fun e w' => e = .returned (.int .i64 (clearV x i)) ∧ w' = w := by
 have HE := hQQ (bits_andNot x i h0 h1)
 go_enter Tryz.func65,Tryz.ntmps65
 go_wp2_with fail
 refine (o_only i _).mono ?_
 rintro e w' ⟨rfl,rfl⟩
 go_wp2_with fail
 go_ret
 exact ⟨by rw [← HE.out]; rfl,rfl⟩
theorem r_bits (i : Int) (w : World) : Calls Tryz.prog 120 #[.int .i64 i] w fun e w' => e = .returned (.bool (inR i)) ∧ w' = w := by
 by_cases c0 : 0 ≤ i
 · have d0 : decide (0 ≤ i) = true := by simpa using c0
   have HE := hQQ (show inR i = decide (i < 32) by simp [inR,c0])
   go_enter Tryz.func120,Tryz.ntmps120
   go_wp2_with fail
   go_ret
   exact ⟨by rw [HE.out]; rfl,rfl⟩
 · have d0 : decide (0 ≤ i) = false := by simpa using c0
   have HE := hQQ (show inR i = false by simp [inR,c0])
   go_enter Tryz.func120,Tryz.ntmps120
   go_wp2_with fail
   go_ret
   exact ⟨by rw [HE.out]; rfl,rfl⟩
theorem r_bit (x : Int) (k : Nat) (hk : k < 32) (w : World) : Calls Tryz.prog 124 #[.int .i64 x,.int .i64 k] w fun e w' => e = .returned (.int .u64 (((bvOf x).toNat / 2 ^ k % 2 : Nat) : Int)) ∧ w' = w := by
 go_enter Tryz.func124,Tryz.ntmps124
 have HB := hQQ (show (bvOf x).toNat / 2 ^ 0 = (bvOf x).toNat by simp)
 have hl := (bvOf x).isLt
 go_wp2_with fail
 rw [u64_of]
 go_loop [5,6] (fun u i => ∃ j : Nat,j ≤ k ∧ i = .int .i64 j ∧ u = .int .u64 (((bvOf x).toNat / 2 ^ j : Nat) : Int)) (fun _ i => k - (intOf i).toNat)
 case atStart => exact ⟨0,Nat.zero_le _,rfl,by rw [HB.out]⟩
 case round =>
   obtain ⟨j,hj,rfl,rfl⟩ := hrel
   have hx : (bvOf x).toNat / 2 ^ j < 18446744073709551616 := Nat.lt_of_le_of_lt (Nat.div_le_self _ _) (by simpa using hl)
   have HS := hQQ (show (bvOf x).toNat / 2 ^ j / 2 = (bvOf x).toNat / 2 ^ (j + 1) by rw [Nat.div_div_eq_div_mul,Nat.pow_succ])
   clear hl
   generalize hY : (bvOf x).toNat / 2 ^ j = Y at hx HS ⊢
   by_cases hlt : j < k
   · go_wp2_with fail
     go_round
     case rel => exact ⟨j + 1,by omega,by go_num,by rw [← HS.out,Int.natCast_ediv]; rfl⟩
     case measure => simp [intOf]; omega
   · obtain rfl : j = k := by omega
     go_wp2_with fail
     go_ret
     exact ⟨rfl,rfl⟩
theorem r_worth (k : Nat) (hk : k < 32) (w : World) : Calls Tryz.prog 121 #[.int .i64 k] w fun e w' => e = .returned (.int .u64 (2 ^ k)) ∧ w' = w := by
 go_enter Tryz.func121,Tryz.ntmps121
 go_wp2_with fail
 go_loop [3,4] (fun u i => ∃ j : Nat,j ≤ k ∧ i = .int .i64 j ∧ u = .int .u64 (2 ^ j)) (fun _ i => k - (intOf i).toNat)
 case atStart => exact ⟨0,Nat.zero_le _,rfl,by simp⟩
 case round =>
   obtain ⟨j,hj,rfl,rfl⟩ := hrel
   by_cases hlt : j < k
   · have pb := pow_b (show j < 32 by omega)
     go_wp2_with fail
     go_round
     case rel => exact ⟨j + 1,by omega,by go_num,by rw [Int.pow_succ]⟩
     case measure => simp [intOf]; omega
   · obtain rfl : j = k := by omega
     go_wp2_with fail
     go_ret
     exact ⟨rfl,rfl⟩
theorem bit_eq (x : Int) (k : Nat) : ((((bvOf x).toNat / 2 ^ k % 2 : Nat) : Int) == 1) = bitB x k := by
 rw [nat_bit,Bool.eq_iff_iff,beq_iff_eq,decide_eq_true_iff]
 omega
theorem r_has (x i : Int) (w : World) : Calls Tryz.prog 90 #[.int .i64 x,.int .i64 i] w fun e w' => e = .returned (.bool (hasB x i)) ∧ w' = w := by
 cases hi : inR i with
 | false =>
   rw [has_none hi]
   have HB : Hid (∀ W,Calls Tryz.prog 120 #[.int .i64 i] W fun e w' => e = .returned (.bool false) ∧ w' = W) := fun W => by
     have := r_bits i W; rwa [hi] at this
   clear hi
   go_enter Tryz.func90,Tryz.ntmps90
   go_wp2_with fail
   refine (HB.out _).mono ?_
   rintro e w' ⟨rfl,rfl⟩
   go_wp2_with fail
   go_ret
   exact ⟨rfl,rfl⟩
 | true =>
   have hr := (inR_iff i).1 hi
   obtain ⟨k,rfl⟩ : ∃ k : Nat,i = k := ⟨i.toNat,by omega⟩
   have HB : Hid (∀ W,Calls Tryz.prog 120 #[.int .i64 k] W fun e w' => e = .returned (.bool true) ∧ w' = W) := fun W => by
     have := r_bits k W; rwa [hi] at this
   have HK : Hid (hasB x k = bitB x k) := by unfold hasB; rw [hi]; rfl
   have HE := hQQ (bit_eq x k)
   clear hi
   go_enter Tryz.func90,Tryz.ntmps90
   go_wp2_with fail
   refine (HB.out _).mono ?_
   rintro e w' ⟨rfl,rfl⟩
   go_wp2_with fail
   refine (r_bit x k (by omega) _).mono ?_
   rintro e w' ⟨rfl,rfl⟩
   generalize hY : (bvOf x).toNat / 2 ^ k % 2 = Y at HE ⊢
   go_wp2_with fail
   go_ret
   exact ⟨by rw [HK.out,← HE.out]; rfl,rfl⟩
theorem set_sum {x i : Int} (hi : inR i = true) (hb : hasB x i = false) : IntKind.i64.wrap (IntKind.u64.wrap (((bvOf x).toNat : Int) + 2 ^ i.toNat)) = setV x i := by
 have hr := (inR_iff i).1 hi
 have hb' : bitB x i.toNat = false := by unfold hasB at hb; rw [hi,Bool.true_and] at hb; exact hb
 have pb := pow_b (show i.toNat < 32 by omega)
 have e : IntKind.u64.wrap (((bvOf x).toNat : Int) + 2 ^ i.toNat) = ((bvOf x + BitVec.twoPow 64 i.toNat).toNat : Int) := by
   rw [BitVec.toNat_add,BitVec.toNat_twoPow]
   have e1 : (2 : Int) ^ i.toNat = ((2 ^ i.toNat : Nat) : Int) := by simp
   rw [e1]
   simp [IntKind.wrap,IntKind.bits,IntKind.signed]
 rw [e,wrap_toNat]
 unfold setV
 rw [if_pos hi,BitVec.add_eq_or_of_and_eq_zero]
 rw [BitVec.and_twoPow]
 unfold bitB at hb'
 rw [hb']; rfl
theorem clear_sum {x i : Int} (hi : inR i = true) (hb : hasB x i = true) : IntKind.i64.wrap (IntKind.u64.wrap (((bvOf x).toNat : Int) - 2 ^ i.toNat)) = clearV x i := by
 have hr := (inR_iff i).1 hi
 have hb' : bitB x i.toNat = true := by unfold hasB at hb; rw [hi,Bool.true_and] at hb; exact hb
 have pb := pow_b (show i.toNat < 32 by omega)
 have e : IntKind.u64.wrap (((bvOf x).toNat : Int) - 2 ^ i.toNat) = ((bvOf x - BitVec.twoPow 64 i.toNat).toNat : Int) := by
   rw [BitVec.toNat_sub,BitVec.toNat_twoPow]
   have e1 : (2 : Int) ^ i.toNat = ((2 ^ i.toNat : Nat) : Int) := by simp
   have e2 : 2 ^ i.toNat % 2 ^ 64 = 2 ^ i.toNat := by rw [e1] at pb; omega
   rw [e2]
   rw [e1] at pb ⊢
   have := (bvOf x).isLt
   rw [IntKind.wrap_u64]
   omega
 rw [e,wrap_toNat]
 unfold clearV
 rw [if_pos hi]
 congr 1
 rw [BitVec.sub_eq_iff_eq_add,BitVec.add_eq_or_of_and_eq_zero]
 · apply BitVec.eq_of_getLsbD_eq
   intro j hj
   rw [BitVec.getLsbD_or,BitVec.getLsbD_and,BitVec.getLsbD_not,BitVec.getLsbD_twoPow,decide_eq_true hj]
   by_cases q : i.toNat = j
   · subst q; unfold bitB at hb'; rw [hb']; simp [hj]
   · simp [q]
 · apply BitVec.eq_of_getLsbD_eq
   intro j hj
   rw [BitVec.getLsbD_and,BitVec.getLsbD_and,BitVec.getLsbD_not]
   cases (BitVec.twoPow 64 i.toNat).getLsbD j <;> simp
theorem r_set (x i : Int) (h0 : -9223372036854775808 ≤ x) (h1 : x ≤ 9223372036854775807) (w : World) : Calls Tryz.prog 83 #[.int .i64 x,.int .i64 i] w fun e w' => e = .returned (.int .i64 (setV x i)) ∧ w' = w := by
 cases hi : inR i with
 | false =>
   rw [set_none hi]
   have HB : Hid (∀ W,Calls Tryz.prog 120 #[.int .i64 i] W fun e w' => e = .returned (.bool false) ∧ w' = W) := fun W => by
     have := r_bits i W; rwa [hi] at this
   clear hi
   go_enter Tryz.func83,Tryz.ntmps83
   go_wp2_with fail
   refine (HB.out _).mono ?_
   rintro e w' ⟨rfl,rfl⟩
   go_wp2_with fail
   go_ret
   exact ⟨rfl,rfl⟩
 | true =>
   have HB : Hid (∀ W,Calls Tryz.prog 120 #[.int .i64 i] W fun e w' => e = .returned (.bool true) ∧ w' = W) := fun W => by
     have := r_bits i W; rwa [hi] at this
   cases hb : hasB x i with
   | true =>
     rw [set_had h0 h1 hi hb]
     have HH : Hid (∀ W,Calls Tryz.prog 90 #[.int .i64 x,.int .i64 i] W fun e w' => e = .returned (.bool true) ∧ w' = W) := fun W => by
       have := r_has x i W; rwa [hb] at this
     clear hi hb
     go_enter Tryz.func83,Tryz.ntmps83
     go_wp2_with fail
     refine (HB.out _).mono ?_
     rintro e w' ⟨rfl,rfl⟩
     go_wp2_with fail
     refine (HH.out _).mono ?_
     rintro e w' ⟨rfl,rfl⟩
     go_wp2_with fail
     go_ret
     exact ⟨rfl,rfl⟩
   | false =>
     have HS := hQQ (set_sum hi hb)
     have HU := hQQ (u64_of x)
     have HH : Hid (∀ W,Calls Tryz.prog 90 #[.int .i64 x,.int .i64 i] W fun e w' => e = .returned (.bool false) ∧ w' = W) := fun W => by
       have := r_has x i W; rwa [hb] at this
     have hr := (inR_iff i).1 hi
     obtain ⟨k,rfl⟩ : ∃ k : Nat,i = k := ⟨i.toNat,by omega⟩
     rw [Int.toNat_natCast] at HS
     have pb := pow_b (show k < 32 by omega)
     have HW : Hid (∀ W,Calls Tryz.prog 121 #[.int .i64 k] W fun e w' => e = .returned (.int .u64 (2 ^ k)) ∧ w' = W) := fun W => r_worth k (by omega) W
     generalize (2 : Int) ^ k = P at HS HW pb
     have hX := (bvOf x).isLt
     generalize (bvOf x).toNat = X at HS HU hX
     clear hi hb
     go_enter Tryz.func83,Tryz.ntmps83
     go_wp2_with fail
     refine (HB.out _).mono ?_
     rintro e w' ⟨rfl,rfl⟩
     go_wp2_with fail
     refine (HH.out _).mono ?_
     rintro e w' ⟨rfl,rfl⟩
     go_wp2_with fail
     refine (HW.out _).mono ?_
     rintro e w' ⟨rfl,rfl⟩
     go_wp2_with fail
     go_ret
     exact ⟨by rw [← HS.out,← HU.out,IntWalk.i64_left]; rfl,rfl⟩
theorem r_clear (x i : Int) (h0 : -9223372036854775808 ≤ x) (h1 : x ≤ 9223372036854775807) (w : World) : Calls Tryz.prog 87 #[.int .i64 x,.int .i64 i] w fun e w' => e = .returned (.int .i64 (clearV x i)) ∧ w' = w := by
 cases hb : hasB x i with
 | false =>
   have e : clearV x i = x := by
     cases hi : inR i with
     | false => exact clear_none hi
     | true => exact clear_not h0 h1 hi hb
   rw [e]
   have HH : Hid (∀ W,Calls Tryz.prog 90 #[.int .i64 x,.int .i64 i] W fun e w' => e = .returned (.bool false) ∧ w' = W) := fun W => by
     have := r_has x i W; rwa [hb] at this
   clear hb e
   go_enter Tryz.func87,Tryz.ntmps87
   go_wp2_with fail
   refine (HH.out _).mono ?_
   rintro e w' ⟨rfl,rfl⟩
   go_wp2_with fail
   go_ret
   exact ⟨rfl,rfl⟩
 | true =>
   have hi : inR i = true := by unfold hasB at hb; rw [Bool.and_eq_true] at hb; exact hb.1
   have HS := hQQ (clear_sum hi hb)
   have HU := hQQ (u64_of x)
   have HH : Hid (∀ W,Calls Tryz.prog 90 #[.int .i64 x,.int .i64 i] W fun e w' => e = .returned (.bool true) ∧ w' = W) := fun W => by
     have := r_has x i W; rwa [hb] at this
   have hr := (inR_iff i).1 hi
   obtain ⟨k,rfl⟩ : ∃ k : Nat,i = k := ⟨i.toNat,by omega⟩
   rw [Int.toNat_natCast] at HS
   have pb := pow_b (show k < 32 by omega)
   have HW : Hid (∀ W,Calls Tryz.prog 121 #[.int .i64 k] W fun e w' => e = .returned (.int .u64 (2 ^ k)) ∧ w' = W) := fun W => r_worth k (by omega) W
   generalize (2 : Int) ^ k = P at HS HW pb
   have hX := (bvOf x).isLt
   generalize (bvOf x).toNat = X at HS HU hX
   clear hi hb
   go_enter Tryz.func87,Tryz.ntmps87
   go_wp2_with fail
   refine (HH.out _).mono ?_
   rintro e w' ⟨rfl,rfl⟩
   go_wp2_with fail
   refine (HW.out _).mono ?_
   rintro e w' ⟨rfl,rfl⟩
   go_wp2_with fail
   go_ret
   exact ⟨by rw [← HS.out,← HU.out,IntWalk.i64_left]; rfl,rfl⟩
theorem end_in {n : Int} {k : Nat} (h : k < endN n) : (k : Int) < 32 ∧ (k : Int) < n := by unfold endN at h; omega
theorem end_out {n : Int} {k : Nat} (h : k ≤ endN n) (h' : ¬ k < endN n) : k = endN n ∧ (¬ (k : Int) < 32 ∨ ((k : Int) < 32 ∧ ¬ (k : Int) < n)) := by unfold endN at h h' ⊢; omega
theorem has_nat {x : Int} {k : Nat} (h : k < 32) : hasB x k = bitB x k := by unfold hasB; rw [inR_nat h,Int.toNat_natCast,Bool.true_and]
theorem r_first (x n : Int) (w : World) : Calls Tryz.prog 81 #[.int .i64 x,.int .i64 n] w fun e w' => e = .returned (.int .i64 (slFirstV x n)) ∧ w' = w := by
 have he := endN_le n
 go_enter Tryz.func81,Tryz.ntmps81
 go_wp2_with fail
 go_loop [5] (fun i => ∃ k : Nat,k ≤ endN n ∧ i = .int .i64 k ∧ ∀ j,j < k → bitB x j = true) (fun i => 32 - (intOf i).toNat)
 case atStart => exact ⟨0,Nat.zero_le _,rfl,fun j h => by omega⟩
 case round =>
   obtain ⟨k,hk,rfl,hj⟩ := hrel
   have Hj := hQQ hj
   clear hj
   by_cases hlt : k < endN n
   · obtain ⟨l1,l2⟩ := end_in hlt
     have d1 : decide ((k : Int) < 32) = true := by simpa using l1
     have d2 : decide ((k : Int) < n) = true := by simpa using l2
     have HK := hQQ (has_nat (x:=x) (show k < 32 by omega))
     cases hb : bitB x k with
     | true =>
       have HH : Hid (∀ W,Calls Tryz.prog 90 #[.int .i64 x,.int .i64 k] W fun e w' => e = .returned (.bool true) ∧ w' = W) := fun W => by
         have := r_has x k W; rwa [HK.out,hb] at this
       have HB := hQQ hb
       clear hb
       go_wp2_with fail
       refine (HH.out _).mono ?_
       rintro e w' ⟨rfl,rfl⟩
       go_wp2_with fail
       go_round
       case rel => exact ⟨k + 1,by omega,by go_num,fun j h => by
         by_cases q : j = k
         · rw [q]; exact HB.out
         · exact Hj.out j (by omega)⟩
       case measure => simp [intOf]; omega
     | false =>
       have HH : Hid (∀ W,Calls Tryz.prog 90 #[.int .i64 x,.int .i64 k] W fun e w' => e = .returned (.bool false) ∧ w' = W) := fun W => by
         have := r_has x k W; rwa [HK.out,hb] at this
       have HF : Hid (slFirstV x n = k) := offN_some hlt hb Hj.out
       clear hb
       go_wp2_with fail
       refine (HH.out _).mono ?_
       rintro e w' ⟨rfl,rfl⟩
       go_wp2_with fail
       go_ret
       exact ⟨by rw [HF.out]; rfl,rfl⟩
   · obtain ⟨e0,l1⟩ := end_out hk hlt
     have HF : Hid (slFirstV x n = -1) := offN_none (fun j h => Hj.out j (by omega))
     clear e0
     rcases l1 with l1 | ⟨l1,l2⟩
     · have d1 : decide ((k : Int) < 32) = false := by simpa using l1
       go_wp2_with fail
       go_ret
       exact ⟨by rw [HF.out]; rfl,rfl⟩
     · have d1 : decide ((k : Int) < 32) = true := by simpa using l1
       have d2 : decide ((k : Int) < n) = false := by simpa using l2
       go_wp2_with fail
       go_ret
       exact ⟨by rw [HF.out]; rfl,rfl⟩
def onI (x : Int) (k : Nat) : List Int := (onN x k).map (fun j : Nat => (j : Int))
theorem onI_succ_yes {x : Int} {k : Nat} (h : bitB x k = true) : onI x (k + 1) = onI x k ++ [(k : Int)] := by unfold onI; rw [onN_succ,h]; simp
theorem onI_succ_no {x : Int} {k : Nat} (h : bitB x k = false) : onI x (k + 1) = onI x k := by unfold onI; rw [onN_succ,h]; simp
theorem onI_le (x : Int) (k : Nat) : (onI x k).length ≤ k := by unfold onI; rw [List.length_map]; exact onN_le x k
theorem r_list (x n : Int) (w : World) : Calls Tryz.prog 125 #[.int .i64 x,.int .i64 n] w (GaveInts w (listV x n)) := by
 have he := endN_le n
 have HM : Hid (More w w) := More.refl w
 go_enter Tryz.func125,Tryz.ntmps125
 go_wp2_with fail
 go_loopw [5,6] (fun v i wr => ∃ k : Nat,k ≤ endN n ∧ i = .int .i64 k ∧ Rw w.heap.size wr v (onI x k) ∧ More w wr) (fun _ i _ => 32 - (intOf i).toNat)
 case atStart => exact ⟨0,Nat.zero_le _,rfl,Rw.nil _ _,HM.out⟩
 case round =>
   obtain ⟨k,hk,rfl,hr,hm⟩ := hrel
   have HR := hQQ hr
   have HM2 := hQQ hm
   clear hr hm
   by_cases hlt : k < endN n
   · obtain ⟨l1,l2⟩ := end_in hlt
     have d1 : decide ((k : Int) < 32) = true := by simpa using l1
     have d2 : decide ((k : Int) < n) = true := by simpa using l2
     have HK := hQQ (has_nat (x:=x) (show k < 32 by omega))
     have HL := hQQ (onI_le x k)
     cases hb : bitB x k with
     | true =>
       have HH : Hid (∀ W,Calls Tryz.prog 90 #[.int .i64 x,.int .i64 k] W fun e w' => e = .returned (.bool true) ∧ w' = W) := fun W => by
         have := r_has x k W; rwa [HK.out,hb] at this
       have HS := hQQ (onI_succ_yes hb)
       clear hb
       go_wp2_with fail
       refine (HH.out _).mono ?_
       rintro e w' ⟨rfl,rfl⟩
       go_wp2_with (at_builtin; refine wpList_push _ rfl _ _ rfl rfl HR.out HM2.out (by have := HL.out; omega) rfl ?_; intro v' w1 hr1 hm1; have HR1 := hQQ hr1; have HM1 := hQQ hm1; clear hr1 hm1)
       go_roundw
       case rel => exact ⟨k + 1,by omega,by go_num,by rw [HS.out]; exact HR1.out,HM1.out⟩
       case measure => simp [intOf]; omega
     | false =>
       have HH : Hid (∀ W,Calls Tryz.prog 90 #[.int .i64 x,.int .i64 k] W fun e w' => e = .returned (.bool false) ∧ w' = W) := fun W => by
         have := r_has x k W; rwa [HK.out,hb] at this
       have HS := hQQ (onI_succ_no hb)
       clear hb
       go_wp2_with fail
       refine (HH.out _).mono ?_
       rintro e w' ⟨rfl,rfl⟩
       go_wp2_with fail
       go_roundw
       case rel => exact ⟨k + 1,by omega,by go_num,by rw [HS.out]; exact HR.out,HM2.out⟩
       case measure => simp [intOf]; omega
   · obtain ⟨e0,l1⟩ := end_out hk hlt
     have HE := hQQ (show onI x k = listV x n by rw [e0]; rfl)
     clear e0
     rcases l1 with l1 | ⟨l1,l2⟩
     · have d1 : decide ((k : Int) < 32) = false := by simpa using l1
       go_wp2_with fail
       go_ret
       exact ⟨_,rfl,by rw [← HE.out]; exact HR.out,HM2.out⟩
     · have d1 : decide ((k : Int) < 32) = true := by simpa using l1
       have d2 : decide ((k : Int) < n) = false := by simpa using l2
       go_wp2_with fail
       go_ret
       exact ⟨_,rfl,by rw [← HE.out]; exact HR.out,HM2.out⟩
theorem rs_count (x n : Int) (w : World) : Calls Tryz.prog 91 #[.int .i64 x,.int .i64 n] w (Gives w (.int .i64 (slCountV x n))) := by
 have HC : Hid (((listV x n).length : Int) = slCountV x n) := by unfold listV slCountV; rw [List.length_map]; exact rfl
 have HL := hQQ (show (listV x n).length ≤ 32 from Nat.le_trans (onI_le x _) (endN_le n))
 go_enter Tryz.func91,Tryz.ntmps91
 go_wp2_with fail
 refine (r_list x n _).mono ?_
 rintro e w1 ⟨v,rfl,hr,hm⟩
 obtain ⟨a,cap,rfl,_⟩ := hr.reads
 clear hr
 have hl := HL.out
 go_wp2_with fail
 go_ret
 exact ⟨by rw [← HC.out]; rfl,hm⟩
end Go.Proofs.YtflihdcliknggaaGreatDoor
