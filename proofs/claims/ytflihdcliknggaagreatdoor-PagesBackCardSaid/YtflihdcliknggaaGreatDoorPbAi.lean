/-
  The landed package chunk: Ensure.
-/
import Derived.Test.YtflihdcliknggaaGreatDoorPbAh
import Derived.Test.YtflihdcliknggaaGreatDoorPbAa
import Derived.Deep.RegionHeld3
set_option maxRecDepth 100000
set_option maxHeartbeats 8000000
set_option linter.unusedVariables false
set_option linter.unusedSimpArgs false
set_option linter.unusedSectionVars false
namespace Go.Proofs.YtflihdcliknggaaGreatDoor
open Go.RowKit Go.Sort Go.Maps Go.Shelf
attribute [local go_sem] Oper.semAt_some
theorem run_loadVar_one {P : Program} {w : World} {ty : TypeId} {g : Nat} {v : Value} {d : TypeDesc} (hu : P.underlying ty = some d) (hd : (match d with | .struct _ | .array _ _ => true | _ => false) = false) (hc : w.cell? ⟨g,0,none⟩ = some v) : (loadVar ty ⟨g,0,none⟩).run P w = .ok v w := by
 have hagg : (isAgg ty).run P w = .ok false w := by
   unfold isAgg
   rw [Sem.run_bind,run_underlying hu w]
   cases d <;> simp_all
 simp [loadVar,Sem.run_bind,hagg,hc,Result.andThen,go_sem]
section
variable {F : Fence} {n : Nat} {P : Program} {o : Oper} {a : Act} {w : World} {K : Act → World → Prop} {Q : Exit → Act → World → Prop}
theorem wpIn_load_run {ty : TypeId} {x : Operand} (ho : o.op = .load ty x) {g : Nat} (hx : a.eval x = .pointer (some ⟨g,0,none⟩)) {v : Value} (hr : (loadVar ty ⟨g,0,none⟩).run P w = .ok v w) (h : K (a.put o.dst v) w) : o.wpIn F n P a w K Q := by
 refine ⟨by simp [Oper.about,ho],?_⟩
 rw [Oper.semAt_plain F _ _ (by rw [ho]; intro c hc; cases hc)]
 simp [execOp,ho,hx,Instr.loadAt,Instr.sureAddr,Sem.run_bind,hr,Result.andThen]
 exact h
theorem wpIn_call3 {l f : Nat} {x0 x1 x2 : Operand} {v0 v1 v2 : Value} {ts : Array TypeId} (ho : o.op = .call { callee := .value (.func f),args := #[x0,x1,x2],argTypes := ts }) (h0 : a.eval x0 = v0) (h1 : a.eval x1 = v1) (h2 : a.eval x2 = v2) (he : ∀ (vs : Array Value) (w : World),Sem.run P (callFunc f vs) w = .ok (.enter f vs) w)
   (h : CallsIn Fence.wide (n - 1) P f #[v0,v1,v2] w (fun | .returned v,w'' => K (a.put o.dst v) w'' | .panicked ch,w'' => Q (.panic ch) a w'' | .outgrown,_ => LetsOut Q)) : o.wpIn (Fence.wide.inRound l) n P a w K Q := by
 refine ⟨fun _ _ => trivial,?_⟩
 have hv : a.eval (.func f) = .func (.func f) #[] #[] := rfl
 rw [Oper.semAt_plain _ _ _ (by rw [ho]; intro c hc; cases hc)]
 generalize a.eval = ρ at h0 h1 h2 hv ⊢
 simp [execOp,ho,resolve,invoke,hv,h0,h1,h2,he,Sem.run_bind,Result.andThen,go_sem]
 exact ⟨fun q => by simp [Fence.inRound,Fence.wide] at q,CallsIn.inRound l h⟩
end
theorem c_Ensure {c : Cfg} (R : c.Ok) {n : Nat} (H : TblIn c.pg c.st n) (hn : n ≤ 10000) (F : Nat → Prop) (p : Nat) (kn : Int → Option Int) (D : List KV) (x y : Int) (hx : W64 x) (w : World) (hv : ViewAt w F p kn D) (hk : OkK kn) (hD : InvD n D) :
   Calls Tryz.prog 136 #[.pointer (some ⟨p,0,none⟩),.agg c.arr,.int .i64 x,.int .i64 y] w (WentV w F p kn (fun s => .int .i64 s) (ensureP c.pg c.st x y kn D)) := by
 obtain ⟨Rr,hRr⟩ : ∃ Rr,ensureP c.pg c.st x y kn D = Rr := ⟨_,rfl⟩
 rw [hRr]
 refine (callsIn_wide (n:=3)).1 ?_
 refine callsIn_of_wpOf Tryz.func136 rfl trivial ?_ rfl
 simp only [Tryz.ntmps136,List.size_toArray,List.length_cons,List.length_nil,Nat.reduceAdd,Nat.reduceSub,Array.replicate_succ,Array.replicate_zero,List.push_toArray,List.append_toArray,List.nil_append,List.cons_append]
 refine wpOf_first ?_
 gi_wp2
 refine wpOf_first ?_
 gi_wp2
 refine wpOf_seq ?_
 refine wpOf_first ?_
 obtain ⟨w3,e3,hb0,hb1,hb2,m3,s3⟩ := entry3 w (.cells #[.pointer (some ⟨p,0,none⟩)] 44) (.cells c.arr 28) (.cells #[.int .i64 0] 3)
 rw [e3]
 clear e3
 have hld3 : (loadVar 28 ⟨w.heap.size + 1,0,none⟩).run Tryz.prog w3 = .ok (.agg c.arr) w3 := run_loadVar_row w3 _ _ _ _ _ _ hb1 Tryz.underlying28 rfl (by kernel_rfl)
 have HB0 := hQQ hb0
 have HB1 := hQQ hb1
 have HB2 := hQQ hb2
 clear hb0 hb1 hb2
 gi_wp2_with (first
   | ((with_reducible refine wpListIn_load_run ?_ 28 (.tmp 5) ?_ (w.heap.size + 1) ?_ (.agg c.arr) ?_ ?_); rfl; rfl; rfl; exact hld3)
   | ((with_reducible refine And.intro ?_ ?_); exact trivial; gi_at_call 160; refine (over_in _ x y _).mono ?_; rintro e w' ⟨rfl,rfl⟩))
 obtain ⟨hl,hp4,hp5⟩ := over_made c x y w3
 have m6 : More w3 (((w3.alloc (.cells c.arr 28)).alloc (.cells #[.int .i64 x] 3)).alloc (.cells #[.int .i64 y] 3)) := (((More.refl _).alloc _).alloc _).alloc _
 have s6 : (((w3.alloc (.cells c.arr 28)).alloc (.cells #[.int .i64 x] 3)).alloc (.cells #[.int .i64 y] 3)).heap.size = w.heap.size + 6 := by simp [s3]
 rw [s3] at hl hp4 hp5
 generalize ((w3.alloc (.cells c.arr 28)).alloc (.cells #[.int .i64 x] 3)).alloc (.cells #[.int .i64 y] 3) = w6 at hl hp4 hp5 m6 s6 ⊢
 have hc0 := m6.block HB0.out
 have hc1 := m6.block HB1.out
 have hc2 := m6.block HB2.out
 have m06 := m3.trans m6
 have hv6 := hv.more m06
 have hF := hv.lt
 have hF6 : ∀ k,F k → k < w6.heap.size := fun k q => by have := hF k q; omega
 have HR := hQQ R
 have HK := hQQ hk
 have HH := hQQ H
 have HT := hQQ (fun w => c_there (c:=c) R x y hx w)
 have OE := hQQ (over_ends 2 (by omega) R x y hx (w.heap.size + 3) (w.heap.size + 3 + 1) (w.heap.size + 3 + 2) w6 hl hp4 hp5)
 have hR0 : (thereB c.pg x y = true → ensureN c.pg c.st (roundsV c.pg x y) (x / 4) 0 kn D = Rr) ∧ (thereB c.pg x y = false → Rr = .ok 0 D) := by
   unfold ensureP at hRr
   unfold roundsV
   cases hth : thereB c.pg x y with
   | true => rw [hth] at hRr; exact ⟨fun _ => hRr,fun q => (by cases q)⟩
   | false => rw [hth] at hRr; exact ⟨fun q => (by cases q),fun _ => hRr.symm⟩
 have HR0 := hQQ hR0
 have ON0 := hQQ (OnV.begin (T:=fun k => k = w.heap.size + 2) hv6 hD)
 clear hRr R hk H hl hp4 hp5 hv hv6 hD hx m3 s3 hld3 HB0 HB1 HB2 m6 hR0
 have HC0 := hQQ hc0
 have HC1 := hQQ hc1
 have HC2 := hQQ hc2
 clear hc0 hc1 hc2
 have hNT : ∀ k,k = w.heap.size + 2 → w.heap.size ≤ k := fun k q => by omega
 have hb6 : w.heap.size + 2 < w6.heap.size := by omega
 refine wpOf_block ?_
 refine range_of (N:=roundsV c.pg x y) (gf:=170) (lb:=#[.pointer (some ⟨w.heap.size + 3,0,none⟩),.pointer (some ⟨w.heap.size + 3 + 1,0,none⟩),.pointer (some ⟨w.heap.size + 3 + 2,0,none⟩)]) Tryz.func136 rfl (by omega) rfl trivial (enters_of Tryz.func170 (by kernel_rfl) rfl) OE.out (More.refl _) (by rintro k (rfl | rfl | rfl) <;> omega) (fun _ => rfl)
   (fun i => LoopI w6 F (w.heap.size + 2) p 3 kn n (fun D' v => ∃ s : Int,v = .int .i64 s ∧ 0 ≤ s ∧ s ≤ 4 * (i : Int) ∧ (thereB c.pg x y = true → ensureN c.pg c.st (roundsV c.pg x y - i) (x / 4 + (i : Int)) s kn D' = Rr) ∧ (thereB c.pg x y = false → D' = D ∧ s = 0)))
   (fun e _ => LoopX w6 F (w.heap.size + 2) p 3 kn n (fun a => Rr = .need a) (fun _ _ => False) e)
   (fun i => loopI_books hF6 hb6 _) (fun e i => loopX_books hF6 hb6 _ _ e)
   ⟨F,D,_,ON0.out,HC2.out,0,rfl,by omega,by omega,fun h => by simpa using HR0.out.1 h,fun _ => ⟨rfl,rfl⟩⟩
   (fun i => LoopA w6 F (w.heap.size + 2) p 3 kn n (fun D' v => ∃ s : Int,v = .int .i64 s ∧ 0 ≤ s ∧ s ≤ 4 * (i : Int) ∧ (thereB c.pg x y = true → ensureN c.pg c.st (roundsV c.pg x y - i) (x / 4 + (i : Int)) s kn D' = Rr) ∧ (thereB c.pg x y = false → D' = D ∧ s = 0)) 132 (chkArr c (x / 4 + (i : Int)))
     (fun Bx => { tmps := #[.pointer (some ⟨p,0,none⟩),.agg c.arr,.int .i64 x,.int .i64 y,.pointer (some ⟨w.heap.size,0,none⟩),.pointer (some ⟨w.heap.size + 1,0,none⟩),undef,undef,.int .i64 0,.pointer (some ⟨w.heap.size + 1 + 1,0,none⟩),.pointer (some ⟨Bx,0,none⟩),.agg c.arr,.int .i64 x,.int .i64 y,.func (.func 170) #[] #[.pointer (some ⟨w.heap.size + 3,0,none⟩),.pointer (some ⟨w.heap.size + 3 + 1,0,none⟩),.pointer (some ⟨w.heap.size + 3 + 2,0,none⟩)],.agg (chkArr c (x / 4 + (i : Int))),undef,undef,undef,undef,undef,undef],defers := [] }))
   (fun i a' => loopA_books hF6 hb6 _ _ _ _ a') ?assign ?body ?done ?stop ?dies
 case assign =>
   rintro l i W K hi hsz ⟨F',D',v,h1,h2,h3⟩ hK
   obtain ⟨hx1,hm1⟩ := chk_boxed W c (x / 4 + (i : Int))
   gi_wp2_with ((with_reducible refine wpListIn_store_row ?_ 132 (.tmp 10) (.tmp 15) ?_ W.heap.size ?_ (chkArr c (x / 4 + (i : Int))) ?_ 132 chkZero ?_ ?_ ?_ ?_ ?_); rfl; rfl; rfl; rfl; exact heap_new W _; kernel_rfl; rfl; exact chk_one c _)
   refine hK _ _ (same_more hm1 (by rintro k (rfl | rfl) <;> omega)) (same_more hm1 (by rintro k (rfl | rfl | rfl) <;> omega)) ?_
   exact ⟨W.heap.size,F',D',v,hsz,fun q => by have := h1.view.lt _ q; omega,hx1,h1.more hm1,hm1.block h2,h3,rfl⟩
 case body =>
   rintro l i a' W hsz hi ⟨Bx,F',D',v,g0,g1,g2,g3,g4,⟨s,rfl,s0,s1,g5,g6⟩,rfl⟩
   have HEN := enters_of Tryz.func161 (by kernel_rfl) rfl
   have hmx : Tryz.prog.follows .mixedOrders = true := by kernel_rfl
   have hld := run_loadVar_row (P:=Tryz.prog) W.drew Bx _ 132 _ _ _ g2 Tryz.underlying132 rfl (by kernel_rfl)
   have hcv := (Turned.block g3.turn w.heap.size (by omega) (by rintro (q | q); have := hF _ q; omega; omega)).trans HC0.out
   have cv : W.drew.cell? ⟨w.heap.size,0,none⟩ = some (.pointer (some ⟨p,0,none⟩)) := (box_cells hcv).1
   have cs : W.drew.cell? ⟨w.heap.size + 1 + 1,0,none⟩ = some (.int .i64 s) := (box_cells (b:=w.heap.size + 1 + 1) g4).1
   have hv1 : (loadVar 44 ⟨w.heap.size,0,none⟩).run Tryz.prog W.drew = .ok (.pointer (some ⟨p,0,none⟩)) W.drew := run_loadVar_one Tryz.underlying44 rfl cv
   have hs1 : (loadVar 3 ⟨w.heap.size + 1 + 1,0,none⟩).run Tryz.prog W.drew = .ok (.int .i64 s) W.drew := run_loadVar_one Tryz.underlying3 rfl cs
   have hth : thereB c.pg x y = true := by
     cases q : thereB c.pg x y with
     | true => rfl
     | false => unfold roundsV at hi; rw [q] at hi; simp at hi
   have hN : roundsV c.pg x y ≤ 64 := by unfold roundsV; rw [hth]; exact (span_b hth HR.out.pg2).2
   have hsem := g5 hth
   rw [show roundsV c.pg x y - i = (roundsV c.pg x y - (i + 1)) + 1 by omega] at hsem
   have hsem2 : bindP (turnP c.pg c.st (x / 4 + (i : Int)) 1) (fun z => ensureN c.pg c.st (roundsV c.pg x y - (i + 1)) (x / 4 + (i : Int) + 1) (s + z)) kn D' = Rr := hsem
   have TN := hQQ (c_turn HR.out HH.out hn F' p kn D' (x / 4 + (i : Int)) 1 W.drew (g3.view.more (More.refl W).drew) HK.out g3.inv)
   have G3 := hQQ g3
   have G4 := hQQ g4
   have HS := hQQ hsem2
   clear hcv hsem hsem2 g3 g4 g5 g6 g2 cv cs
   refine wpIn_block ?_
   cases hm : turnP c.pg c.st (x / 4 + (i : Int)) 1 kn D' with
   | need a =>
     have FIN : Hid (∀ W2 e,WentV W.drew F' p kn (fun y : Int => Value.int .i64 y) (.need a) e W2 → e = .panicked (endOf p) ∧ SameOn (bookAt w6.heap.size) W W2 ∧ ([] : List Deferred) = [] ∧ LoopX w6 F (w.heap.size + 2) p 3 kn n (fun a => Rr = .need a) (fun _ _ => False) (.panic (endOf p)) W2) := hQQ fun W2 e he => by
       obtain ⟨he',hend,ht⟩ := EndV.of G3.out (by omega) (More.refl W).drew he
       exact ⟨he',G3.out.same hF6 hsz ht,rfl,rfl,a,HS.out.symm.trans (bindP_need hm),hend⟩
     refine wpIn_region_any hmx ?_
     change wpAnyIn _ _ _ _ _ _ _ _ _ (World.drew _)
     refine wpAnyIn_ready (rs:=[0,1,2]) (by kernel_rfl) (by simp) ?_
     refine AllReadyIn.cons rfl (fun K hK => ?_) ?_
     · rw [if_pos (by rfl)]; refine wpIn_load_run rfl rfl hs1 ?_; refine hK _ _ ?_; clear hK K
       refine wpAnyIn_ready (rs:=[1,2]) (by kernel_rfl) (by simp) ?_
       refine AllReadyIn.cons rfl (fun K hK => ?_) ?_
       · rw [if_pos (by rfl)]; refine wpIn_load_run rfl rfl hld ?_; refine hK _ _ ?_; clear hK K
         refine wpAnyIn_ready (rs:=[2]) (by kernel_rfl) (by simp) ?_
         refine AllReadyIn.cons rfl (fun K hK => ?_) ?_
         · rw [if_pos (by rfl)]; refine wpIn_load_run rfl rfl hv1 ?_; refine hK _ _ ?_; clear hK K
           refine wpAnyIn_ready (rs:=[3]) (by kernel_rfl) (by simp) ?_
           refine AllReadyIn.cons rfl (fun K hK => ?_) ?_
           · rw [if_pos (by rfl)]; refine wpIn_call3 (v0:=.agg (chkArr c (x / 4 + (i : Int)))) (v1:=.pointer (some ⟨p,0,none⟩)) (v2:=.int .i64 1) rfl rfl rfl rfl HEN ?_
             refine (callsIn_wide.2 TN.out).mono ?_
             intro e W2 he
             rw [hm] at he
             obtain ⟨rfl,hfin⟩ := FIN.out W2 e he
             exact hfin
           exact AllReadyIn.nil
         exact AllReadyIn.nil
       refine AllReadyIn.cons rfl (fun K hK => ?_) ?_
       · rw [if_pos (by rfl)]; refine wpIn_load_run rfl rfl hv1 ?_; refine hK _ _ ?_; clear hK K
         refine wpAnyIn_ready (rs:=[1]) (by kernel_rfl) (by simp) ?_
         refine AllReadyIn.cons rfl (fun K hK => ?_) ?_
         · rw [if_pos (by rfl)]; refine wpIn_load_run rfl rfl hld ?_; refine hK _ _ ?_; clear hK K
           refine wpAnyIn_ready (rs:=[3]) (by kernel_rfl) (by simp) ?_
           refine AllReadyIn.cons rfl (fun K hK => ?_) ?_
           · rw [if_pos (by rfl)]; refine wpIn_call3 (v0:=.agg (chkArr c (x / 4 + (i : Int)))) (v1:=.pointer (some ⟨p,0,none⟩)) (v2:=.int .i64 1) rfl rfl rfl rfl HEN ?_
             refine (callsIn_wide.2 TN.out).mono ?_
             intro e W2 he
             rw [hm] at he
             obtain ⟨rfl,hfin⟩ := FIN.out W2 e he
             exact hfin
           exact AllReadyIn.nil
         exact AllReadyIn.nil
       exact AllReadyIn.nil
     refine AllReadyIn.cons rfl (fun K hK => ?_) ?_
     · rw [if_pos (by rfl)]; refine wpIn_load_run rfl rfl hld ?_; refine hK _ _ ?_; clear hK K
       refine wpAnyIn_ready (rs:=[0,2]) (by kernel_rfl) (by simp) ?_
       refine AllReadyIn.cons rfl (fun K hK => ?_) ?_
       · rw [if_pos (by rfl)]; refine wpIn_load_run rfl rfl hs1 ?_; refine hK _ _ ?_; clear hK K
         refine wpAnyIn_ready (rs:=[2]) (by kernel_rfl) (by simp) ?_
         refine AllReadyIn.cons rfl (fun K hK => ?_) ?_
         · rw [if_pos (by rfl)]; refine wpIn_load_run rfl rfl hv1 ?_; refine hK _ _ ?_; clear hK K
           refine wpAnyIn_ready (rs:=[3]) (by kernel_rfl) (by simp) ?_
           refine AllReadyIn.cons rfl (fun K hK => ?_) ?_
           · rw [if_pos (by rfl)]; refine wpIn_call3 (v0:=.agg (chkArr c (x / 4 + (i : Int)))) (v1:=.pointer (some ⟨p,0,none⟩)) (v2:=.int .i64 1) rfl rfl rfl rfl HEN ?_
             refine (callsIn_wide.2 TN.out).mono ?_
             intro e W2 he
             rw [hm] at he
             obtain ⟨rfl,hfin⟩ := FIN.out W2 e he
             exact hfin
           exact AllReadyIn.nil
         exact AllReadyIn.nil
       refine AllReadyIn.cons rfl (fun K hK => ?_) ?_
       · rw [if_pos (by rfl)]; refine wpIn_load_run rfl rfl hv1 ?_; refine hK _ _ ?_; clear hK K
         refine wpAnyIn_ready (rs:=[0,3]) (by kernel_rfl) (by simp) ?_
         refine AllReadyIn.cons rfl (fun K hK => ?_) ?_
         · rw [if_pos (by rfl)]; refine wpIn_load_run rfl rfl hs1 ?_; refine hK _ _ ?_; clear hK K
           refine wpAnyIn_ready (rs:=[3]) (by kernel_rfl) (by simp) ?_
           refine AllReadyIn.cons rfl (fun K hK => ?_) ?_
           · rw [if_pos (by rfl)]; refine wpIn_call3 (v0:=.agg (chkArr c (x / 4 + (i : Int)))) (v1:=.pointer (some ⟨p,0,none⟩)) (v2:=.int .i64 1) rfl rfl rfl rfl HEN ?_
             refine (callsIn_wide.2 TN.out).mono ?_
             intro e W2 he
             rw [hm] at he
             obtain ⟨rfl,hfin⟩ := FIN.out W2 e he
             exact hfin
           exact AllReadyIn.nil
         refine AllReadyIn.cons rfl (fun K hK => ?_) ?_
         · rw [if_pos (by rfl)]; refine wpIn_call3 (v0:=.agg (chkArr c (x / 4 + (i : Int)))) (v1:=.pointer (some ⟨p,0,none⟩)) (v2:=.int .i64 1) rfl rfl rfl rfl HEN ?_
           refine (callsIn_wide.2 TN.out).mono ?_
           intro e W2 he
           rw [hm] at he
           obtain ⟨rfl,hfin⟩ := FIN.out W2 e he
           exact hfin
         exact AllReadyIn.nil
       exact AllReadyIn.nil
     refine AllReadyIn.cons rfl (fun K hK => ?_) ?_
     · rw [if_pos (by rfl)]; refine wpIn_load_run rfl rfl hv1 ?_; refine hK _ _ ?_; clear hK K
       refine wpAnyIn_ready (rs:=[0,1]) (by kernel_rfl) (by simp) ?_
       refine AllReadyIn.cons rfl (fun K hK => ?_) ?_
       · rw [if_pos (by rfl)]; refine wpIn_load_run rfl rfl hs1 ?_; refine hK _ _ ?_; clear hK K
         refine wpAnyIn_ready (rs:=[1]) (by kernel_rfl) (by simp) ?_
         refine AllReadyIn.cons rfl (fun K hK => ?_) ?_
         · rw [if_pos (by rfl)]; refine wpIn_load_run rfl rfl hld ?_; refine hK _ _ ?_; clear hK K
           refine wpAnyIn_ready (rs:=[3]) (by kernel_rfl) (by simp) ?_
           refine AllReadyIn.cons rfl (fun K hK => ?_) ?_
           · rw [if_pos (by rfl)]; refine wpIn_call3 (v0:=.agg (chkArr c (x / 4 + (i : Int)))) (v1:=.pointer (some ⟨p,0,none⟩)) (v2:=.int .i64 1) rfl rfl rfl rfl HEN ?_
             refine (callsIn_wide.2 TN.out).mono ?_
             intro e W2 he
             rw [hm] at he
             obtain ⟨rfl,hfin⟩ := FIN.out W2 e he
             exact hfin
           exact AllReadyIn.nil
         exact AllReadyIn.nil
       refine AllReadyIn.cons rfl (fun K hK => ?_) ?_
       · rw [if_pos (by rfl)]; refine wpIn_load_run rfl rfl hld ?_; refine hK _ _ ?_; clear hK K
         refine wpAnyIn_ready (rs:=[0,3]) (by kernel_rfl) (by simp) ?_
         refine AllReadyIn.cons rfl (fun K hK => ?_) ?_
         · rw [if_pos (by rfl)]; refine wpIn_load_run rfl rfl hs1 ?_; refine hK _ _ ?_; clear hK K
           refine wpAnyIn_ready (rs:=[3]) (by kernel_rfl) (by simp) ?_
           refine AllReadyIn.cons rfl (fun K hK => ?_) ?_
           · rw [if_pos (by rfl)]; refine wpIn_call3 (v0:=.agg (chkArr c (x / 4 + (i : Int)))) (v1:=.pointer (some ⟨p,0,none⟩)) (v2:=.int .i64 1) rfl rfl rfl rfl HEN ?_
             refine (callsIn_wide.2 TN.out).mono ?_
             intro e W2 he
             rw [hm] at he
             obtain ⟨rfl,hfin⟩ := FIN.out W2 e he
             exact hfin
           exact AllReadyIn.nil
         refine AllReadyIn.cons rfl (fun K hK => ?_) ?_
         · rw [if_pos (by rfl)]; refine wpIn_call3 (v0:=.agg (chkArr c (x / 4 + (i : Int)))) (v1:=.pointer (some ⟨p,0,none⟩)) (v2:=.int .i64 1) rfl rfl rfl rfl HEN ?_
           refine (callsIn_wide.2 TN.out).mono ?_
           intro e W2 he
           rw [hm] at he
           obtain ⟨rfl,hfin⟩ := FIN.out W2 e he
           exact hfin
         exact AllReadyIn.nil
       exact AllReadyIn.nil
     exact AllReadyIn.nil
   | ok z D1 =>
     have FI2 : Hid (∀ W2 e,WentV W.drew F' p kn (fun y : Int => Value.int .i64 y) (.ok z D1) e W2 → e = .returned (.int .i64 z) ∧ (loadVar 3 ⟨w.heap.size + 1 + 1,0,none⟩).run Tryz.prog W2 = .ok (.int .i64 s) W2 ∧ W2.cell? ⟨w.heap.size + 1 + 1,0,none⟩ = some (.int .i64 s) ∧ W2.frozen? ⟨w.heap.size + 1 + 1,0,none⟩ = false ∧
         (SameOn (bookAt w6.heap.size) W (W2.setCell ⟨w.heap.size + 1 + 1,0,none⟩ (.int .i64 (s + z))) ∧ SameOn (fun k => k = w.heap.size + 3 ∨ k = w.heap.size + 3 + 1 ∨ k = w.heap.size + 3 + 2) W (W2.setCell ⟨w.heap.size + 1 + 1,0,none⟩ (.int .i64 (s + z))) ∧ LoopI w6 F (w.heap.size + 2) p 3 kn n (fun D' v => ∃ s : Int,v = .int .i64 s ∧ 0 ≤ s ∧ s ≤ 4 * ((i + 1 : Nat) : Int) ∧ (thereB c.pg x y = true → ensureN c.pg c.st (roundsV c.pg x y - (i + 1)) (x / 4 + ((i + 1 : Nat) : Int)) s kn D' = Rr) ∧ (thereB c.pg x y = false → D' = D ∧ s = 0)) (W2.setCell ⟨w.heap.size + 1 + 1,0,none⟩ (.int .i64 (s + z))))) := hQQ fun W2 e he => by
       obtain ⟨hI1,z0,z1⟩ := (good_turn HH.out _ 1 (by unfold W64; omega)).ok HK.out G3.out.inv hm
       obtain ⟨he',F1,hon,ht⟩ := G3.out.step hsz (More.refl W).drew he hI1
       have hbr : W2.heap[w.heap.size + 2]? = some (.cells #[.int .i64 s] 3 (0,0)) := (Turned.block ht _ (by omega) (fun q => by rcases G3.out.from' _ q with r | r; have := hF _ r; omega; omega)).trans G4.out
       obtain ⟨cr,fr,_⟩ := box_cells (b:=w.heap.size + 1 + 1) hbr
       have hlt := lt_of_heap hbr
       have hsz2 := ht.size
       have tb : Turned (fun k => k = w.heap.size + 1 + 1) W2 (W2.setCell ⟨w.heap.size + 1 + 1,0,none⟩ (.int .i64 (s + z))) := Turned.setCell (Turned.refl _ W2) _ _ (fun _ => rfl)
       refine ⟨he',run_loadVar_one Tryz.underlying3 rfl cr,cr,fr,?_,?_,F1,D1,_,hon.box (b:=w.heap.size + 1 + 1) rfl (fun k q => by have := hF _ q; omega) (by omega) _ hbr (fun _ _ q => by cases q),box_put (b:=w.heap.size + 1 + 1) _ hbr,s + z,rfl,by omega,by omega,fun _ => ?_,fun q => by rw [hth] at q; cases q⟩
       · exact (G3.out.same hF6 hsz ht).trans (SameOn.turned tb (fun k q => by rcases q with q | q <;> omega) (fun k q r => by rcases q with q | q <;> omega))
       · exact (G3.out.sameS (by rintro k (rfl | rfl | rfl) <;> exact ⟨by omega,fun q => by have := hF _ q; omega⟩) ht).trans (SameOn.turned tb (fun k q => by rcases q with q | q | q <;> omega) (fun k q r => by rcases q with q | q | q <;> omega))
       · rw [show x / 4 + ((i + 1 : Nat) : Int) = x / 4 + (i : Int) + 1 by omega]
         exact (bindP_ok hm).symm.trans HS.out
     have zb := ((good_turn HH.out _ 1 (by unfold W64; omega)).ok HK.out G3.out.inv hm).2
     have qw : IntKind.i64.wrap (s + z) = s + z := wrap_in (by omega) (by omega)
     refine wpIn_region_any hmx ?_
     change wpAnyIn _ _ _ _ _ _ _ _ _ (World.drew _)
     refine wpAnyIn_ready (rs:=[0,1,2]) (by kernel_rfl) (by simp) ?_
     refine AllReadyIn.cons rfl (fun K hK => ?_) ?_
     · rw [if_pos (by rfl)]; refine wpIn_load_run rfl rfl hs1 ?_; refine hK _ _ ?_; clear hK K
       refine wpAnyIn_ready (rs:=[1,2]) (by kernel_rfl) (by simp) ?_
       refine AllReadyIn.cons rfl (fun K hK => ?_) ?_
       · rw [if_pos (by rfl)]; refine wpIn_load_run rfl rfl hld ?_; refine hK _ _ ?_; clear hK K
         refine wpAnyIn_ready (rs:=[2]) (by kernel_rfl) (by simp) ?_
         refine AllReadyIn.cons rfl (fun K hK => ?_) ?_
         · rw [if_pos (by rfl)]; refine wpIn_load_run rfl rfl hv1 ?_; refine hK _ _ ?_; clear hK K
           refine wpAnyIn_ready (rs:=[3]) (by kernel_rfl) (by simp) ?_
           refine AllReadyIn.cons rfl (fun K hK => ?_) ?_
           · rw [if_pos (by rfl)]; refine wpIn_call3 (v0:=.agg (chkArr c (x / 4 + (i : Int)))) (v1:=.pointer (some ⟨p,0,none⟩)) (v2:=.int .i64 1) rfl rfl rfl rfl HEN ?_
             refine (callsIn_wide.2 TN.out).mono ?_
             intro e W2 he
             rw [hm] at he
             obtain ⟨rfl,hs2,cs2,fs2,hfin⟩ := FI2.out W2 e he
             have FIN := hQQ hfin
             clear hfin he
             refine hK _ _ ?_; clear hK K
             refine wpAnyIn_ready (rs:=[4]) (by kernel_rfl) (by simp) ?_
             refine AllReadyIn.cons rfl (fun K hK => ?_) ?_
             · go_simp; refine hK _ _ ?_; clear hK K
               refine wpAnyIn_ready (rs:=[5]) (by kernel_rfl) (by simp) ?_
               refine AllReadyIn.cons rfl (fun K hK => ?_) ?_
               · go_simp; refine hK _ _ ?_; clear hK K
                 refine wpAnyIn_done (by kernel_rfl) ?_ _
                 exact FIN.out
               exact AllReadyIn.nil
             exact AllReadyIn.nil
           exact AllReadyIn.nil
         exact AllReadyIn.nil
       refine AllReadyIn.cons rfl (fun K hK => ?_) ?_
       · rw [if_pos (by rfl)]; refine wpIn_load_run rfl rfl hv1 ?_; refine hK _ _ ?_; clear hK K
         refine wpAnyIn_ready (rs:=[1]) (by kernel_rfl) (by simp) ?_
         refine AllReadyIn.cons rfl (fun K hK => ?_) ?_
         · rw [if_pos (by rfl)]; refine wpIn_load_run rfl rfl hld ?_; refine hK _ _ ?_; clear hK K
           refine wpAnyIn_ready (rs:=[3]) (by kernel_rfl) (by simp) ?_
           refine AllReadyIn.cons rfl (fun K hK => ?_) ?_
           · rw [if_pos (by rfl)]; refine wpIn_call3 (v0:=.agg (chkArr c (x / 4 + (i : Int)))) (v1:=.pointer (some ⟨p,0,none⟩)) (v2:=.int .i64 1) rfl rfl rfl rfl HEN ?_
             refine (callsIn_wide.2 TN.out).mono ?_
             intro e W2 he
             rw [hm] at he
             obtain ⟨rfl,hs2,cs2,fs2,hfin⟩ := FI2.out W2 e he
             have FIN := hQQ hfin
             clear hfin he
             refine hK _ _ ?_; clear hK K
             refine wpAnyIn_ready (rs:=[4]) (by kernel_rfl) (by simp) ?_
             refine AllReadyIn.cons rfl (fun K hK => ?_) ?_
             · go_simp; refine hK _ _ ?_; clear hK K
               refine wpAnyIn_ready (rs:=[5]) (by kernel_rfl) (by simp) ?_
               refine AllReadyIn.cons rfl (fun K hK => ?_) ?_
               · go_simp; refine hK _ _ ?_; clear hK K
                 refine wpAnyIn_done (by kernel_rfl) ?_ _
                 exact FIN.out
               exact AllReadyIn.nil
             exact AllReadyIn.nil
           exact AllReadyIn.nil
         exact AllReadyIn.nil
       exact AllReadyIn.nil
     refine AllReadyIn.cons rfl (fun K hK => ?_) ?_
     · rw [if_pos (by rfl)]; refine wpIn_load_run rfl rfl hld ?_; refine hK _ _ ?_; clear hK K
       refine wpAnyIn_ready (rs:=[0,2]) (by kernel_rfl) (by simp) ?_
       refine AllReadyIn.cons rfl (fun K hK => ?_) ?_
       · rw [if_pos (by rfl)]; refine wpIn_load_run rfl rfl hs1 ?_; refine hK _ _ ?_; clear hK K
         refine wpAnyIn_ready (rs:=[2]) (by kernel_rfl) (by simp) ?_
         refine AllReadyIn.cons rfl (fun K hK => ?_) ?_
         · rw [if_pos (by rfl)]; refine wpIn_load_run rfl rfl hv1 ?_; refine hK _ _ ?_; clear hK K
           refine wpAnyIn_ready (rs:=[3]) (by kernel_rfl) (by simp) ?_
           refine AllReadyIn.cons rfl (fun K hK => ?_) ?_
           · rw [if_pos (by rfl)]; refine wpIn_call3 (v0:=.agg (chkArr c (x / 4 + (i : Int)))) (v1:=.pointer (some ⟨p,0,none⟩)) (v2:=.int .i64 1) rfl rfl rfl rfl HEN ?_
             refine (callsIn_wide.2 TN.out).mono ?_
             intro e W2 he
             rw [hm] at he
             obtain ⟨rfl,hs2,cs2,fs2,hfin⟩ := FI2.out W2 e he
             have FIN := hQQ hfin
             clear hfin he
             refine hK _ _ ?_; clear hK K
             refine wpAnyIn_ready (rs:=[4]) (by kernel_rfl) (by simp) ?_
             refine AllReadyIn.cons rfl (fun K hK => ?_) ?_
             · go_simp; refine hK _ _ ?_; clear hK K
               refine wpAnyIn_ready (rs:=[5]) (by kernel_rfl) (by simp) ?_
               refine AllReadyIn.cons rfl (fun K hK => ?_) ?_
               · go_simp; refine hK _ _ ?_; clear hK K
                 refine wpAnyIn_done (by kernel_rfl) ?_ _
                 exact FIN.out
               exact AllReadyIn.nil
             exact AllReadyIn.nil
           exact AllReadyIn.nil
         exact AllReadyIn.nil
       refine AllReadyIn.cons rfl (fun K hK => ?_) ?_
       · rw [if_pos (by rfl)]; refine wpIn_load_run rfl rfl hv1 ?_; refine hK _ _ ?_; clear hK K
         refine wpAnyIn_ready (rs:=[0,3]) (by kernel_rfl) (by simp) ?_
         refine AllReadyIn.cons rfl (fun K hK => ?_) ?_
         · rw [if_pos (by rfl)]; refine wpIn_load_run rfl rfl hs1 ?_; refine hK _ _ ?_; clear hK K
           refine wpAnyIn_ready (rs:=[3]) (by kernel_rfl) (by simp) ?_
           refine AllReadyIn.cons rfl (fun K hK => ?_) ?_
           · rw [if_pos (by rfl)]; refine wpIn_call3 (v0:=.agg (chkArr c (x / 4 + (i : Int)))) (v1:=.pointer (some ⟨p,0,none⟩)) (v2:=.int .i64 1) rfl rfl rfl rfl HEN ?_
             refine (callsIn_wide.2 TN.out).mono ?_
             intro e W2 he
             rw [hm] at he
             obtain ⟨rfl,hs2,cs2,fs2,hfin⟩ := FI2.out W2 e he
             have FIN := hQQ hfin
             clear hfin he
             refine hK _ _ ?_; clear hK K
             refine wpAnyIn_ready (rs:=[4]) (by kernel_rfl) (by simp) ?_
             refine AllReadyIn.cons rfl (fun K hK => ?_) ?_
             · go_simp; refine hK _ _ ?_; clear hK K
               refine wpAnyIn_ready (rs:=[5]) (by kernel_rfl) (by simp) ?_
               refine AllReadyIn.cons rfl (fun K hK => ?_) ?_
               · go_simp; refine hK _ _ ?_; clear hK K
                 refine wpAnyIn_done (by kernel_rfl) ?_ _
                 exact FIN.out
               exact AllReadyIn.nil
             exact AllReadyIn.nil
           exact AllReadyIn.nil
         refine AllReadyIn.cons rfl (fun K hK => ?_) ?_
         · rw [if_pos (by rfl)]; refine wpIn_call3 (v0:=.agg (chkArr c (x / 4 + (i : Int)))) (v1:=.pointer (some ⟨p,0,none⟩)) (v2:=.int .i64 1) rfl rfl rfl rfl HEN ?_
           refine (callsIn_wide.2 TN.out).mono ?_
           intro e W2 he
           rw [hm] at he
           obtain ⟨rfl,hs2,cs2,fs2,hfin⟩ := FI2.out W2 e he
           have FIN := hQQ hfin
           clear hfin he
           refine hK _ _ ?_; clear hK K
           refine wpAnyIn_ready (rs:=[0]) (by kernel_rfl) (by simp) ?_
           refine AllReadyIn.cons rfl (fun K hK => ?_) ?_
           · rw [if_pos (by rfl)]; refine wpIn_load_run rfl rfl hs2 ?_; refine hK _ _ ?_; clear hK K
             refine wpAnyIn_ready (rs:=[4]) (by kernel_rfl) (by simp) ?_
             refine AllReadyIn.cons rfl (fun K hK => ?_) ?_
             · go_simp; refine hK _ _ ?_; clear hK K
               refine wpAnyIn_ready (rs:=[5]) (by kernel_rfl) (by simp) ?_
               refine AllReadyIn.cons rfl (fun K hK => ?_) ?_
               · go_simp; refine hK _ _ ?_; clear hK K
                 refine wpAnyIn_done (by kernel_rfl) ?_ _
                 exact FIN.out
               exact AllReadyIn.nil
             exact AllReadyIn.nil
           exact AllReadyIn.nil
         exact AllReadyIn.nil
       exact AllReadyIn.nil
     refine AllReadyIn.cons rfl (fun K hK => ?_) ?_
     · rw [if_pos (by rfl)]; refine wpIn_load_run rfl rfl hv1 ?_; refine hK _ _ ?_; clear hK K
       refine wpAnyIn_ready (rs:=[0,1]) (by kernel_rfl) (by simp) ?_
       refine AllReadyIn.cons rfl (fun K hK => ?_) ?_
       · rw [if_pos (by rfl)]; refine wpIn_load_run rfl rfl hs1 ?_; refine hK _ _ ?_; clear hK K
         refine wpAnyIn_ready (rs:=[1]) (by kernel_rfl) (by simp) ?_
         refine AllReadyIn.cons rfl (fun K hK => ?_) ?_
         · rw [if_pos (by rfl)]; refine wpIn_load_run rfl rfl hld ?_; refine hK _ _ ?_; clear hK K
           refine wpAnyIn_ready (rs:=[3]) (by kernel_rfl) (by simp) ?_
           refine AllReadyIn.cons rfl (fun K hK => ?_) ?_
           · rw [if_pos (by rfl)]; refine wpIn_call3 (v0:=.agg (chkArr c (x / 4 + (i : Int)))) (v1:=.pointer (some ⟨p,0,none⟩)) (v2:=.int .i64 1) rfl rfl rfl rfl HEN ?_
             refine (callsIn_wide.2 TN.out).mono ?_
             intro e W2 he
             rw [hm] at he
             obtain ⟨rfl,hs2,cs2,fs2,hfin⟩ := FI2.out W2 e he
             have FIN := hQQ hfin
             clear hfin he
             refine hK _ _ ?_; clear hK K
             refine wpAnyIn_ready (rs:=[4]) (by kernel_rfl) (by simp) ?_
             refine AllReadyIn.cons rfl (fun K hK => ?_) ?_
             · go_simp; refine hK _ _ ?_; clear hK K
               refine wpAnyIn_ready (rs:=[5]) (by kernel_rfl) (by simp) ?_
               refine AllReadyIn.cons rfl (fun K hK => ?_) ?_
               · go_simp; refine hK _ _ ?_; clear hK K
                 refine wpAnyIn_done (by kernel_rfl) ?_ _
                 exact FIN.out
               exact AllReadyIn.nil
             exact AllReadyIn.nil
           exact AllReadyIn.nil
         exact AllReadyIn.nil
       refine AllReadyIn.cons rfl (fun K hK => ?_) ?_
       · rw [if_pos (by rfl)]; refine wpIn_load_run rfl rfl hld ?_; refine hK _ _ ?_; clear hK K
         refine wpAnyIn_ready (rs:=[0,3]) (by kernel_rfl) (by simp) ?_
         refine AllReadyIn.cons rfl (fun K hK => ?_) ?_
         · rw [if_pos (by rfl)]; refine wpIn_load_run rfl rfl hs1 ?_; refine hK _ _ ?_; clear hK K
           refine wpAnyIn_ready (rs:=[3]) (by kernel_rfl) (by simp) ?_
           refine AllReadyIn.cons rfl (fun K hK => ?_) ?_
           · rw [if_pos (by rfl)]; refine wpIn_call3 (v0:=.agg (chkArr c (x / 4 + (i : Int)))) (v1:=.pointer (some ⟨p,0,none⟩)) (v2:=.int .i64 1) rfl rfl rfl rfl HEN ?_
             refine (callsIn_wide.2 TN.out).mono ?_
             intro e W2 he
             rw [hm] at he
             obtain ⟨rfl,hs2,cs2,fs2,hfin⟩ := FI2.out W2 e he
             have FIN := hQQ hfin
             clear hfin he
             refine hK _ _ ?_; clear hK K
             refine wpAnyIn_ready (rs:=[4]) (by kernel_rfl) (by simp) ?_
             refine AllReadyIn.cons rfl (fun K hK => ?_) ?_
             · go_simp; refine hK _ _ ?_; clear hK K
               refine wpAnyIn_ready (rs:=[5]) (by kernel_rfl) (by simp) ?_
               refine AllReadyIn.cons rfl (fun K hK => ?_) ?_
               · go_simp; refine hK _ _ ?_; clear hK K
                 refine wpAnyIn_done (by kernel_rfl) ?_ _
                 exact FIN.out
               exact AllReadyIn.nil
             exact AllReadyIn.nil
           exact AllReadyIn.nil
         refine AllReadyIn.cons rfl (fun K hK => ?_) ?_
         · rw [if_pos (by rfl)]; refine wpIn_call3 (v0:=.agg (chkArr c (x / 4 + (i : Int)))) (v1:=.pointer (some ⟨p,0,none⟩)) (v2:=.int .i64 1) rfl rfl rfl rfl HEN ?_
           refine (callsIn_wide.2 TN.out).mono ?_
           intro e W2 he
           rw [hm] at he
           obtain ⟨rfl,hs2,cs2,fs2,hfin⟩ := FI2.out W2 e he
           have FIN := hQQ hfin
           clear hfin he
           refine hK _ _ ?_; clear hK K
           refine wpAnyIn_ready (rs:=[0]) (by kernel_rfl) (by simp) ?_
           refine AllReadyIn.cons rfl (fun K hK => ?_) ?_
           · rw [if_pos (by rfl)]; refine wpIn_load_run rfl rfl hs2 ?_; refine hK _ _ ?_; clear hK K
             refine wpAnyIn_ready (rs:=[4]) (by kernel_rfl) (by simp) ?_
             refine AllReadyIn.cons rfl (fun K hK => ?_) ?_
             · go_simp; refine hK _ _ ?_; clear hK K
               refine wpAnyIn_ready (rs:=[5]) (by kernel_rfl) (by simp) ?_
               refine AllReadyIn.cons rfl (fun K hK => ?_) ?_
               · go_simp; refine hK _ _ ?_; clear hK K
                 refine wpAnyIn_done (by kernel_rfl) ?_ _
                 exact FIN.out
               exact AllReadyIn.nil
             exact AllReadyIn.nil
           exact AllReadyIn.nil
         exact AllReadyIn.nil
       exact AllReadyIn.nil
     exact AllReadyIn.nil
 case done =>
   rintro W ⟨F',D',v,h1,h2,⟨s,rfl,s0,s1,h4,h5⟩⟩ hdf
   have hR : Rr = .ok s D' := by
     cases q : thereB c.pg x y with
     | true => have := h4 q; rw [Nat.sub_self] at this; exact this.symm
     | false => obtain ⟨rfl,rfl⟩ := h5 q; exact HR0.out.2 q
   have cs : W.cell? ⟨w.heap.size + 1 + 1,0,none⟩ = some (.int .i64 s) := (box_cells (b:=w.heap.size + 1 + 1) h2).1
   have FIN := hQQ (onV_fin (S:=fun k => k = w6.heap.size) (val:=fun s : Int => Value.int .i64 s) m06 hNT h1 hR (turned_put (Turned.refl _ W) _ (.deferred none) (fun _ => rfl)) (fun k q => ⟨by omega,fun r => by rcases h1.from' k r with s | s; have := hF _ s; omega; omega⟩)
     (fun k es cl q r => by subst q; rw [hdf] at r; cases r))
   clear h1 h2 h4 h5 hR
   rw [s6] at hdf FIN
   refine wpOf_of ?_
   gi_wp2
   refine ⟨by simp,.inl ⟨_,_,rfl,run_takeDeferred hdf,?_⟩⟩
   refine ⟨.int .i64 s,?_,FIN.out⟩
   exact (results_tmp (t:=8) rfl _ _ _).trans rfl
 case stop =>
   rintro i e cc W hj hi hx hdf
   cases e with
   | ret => obtain ⟨F',D',v,h1,h2,hR⟩ := hx; exact hR.elim
   | exit _ => exact hx.elim
   | goto _ => exact hx.elim
   | normal => cases hj
   | panic _ => cases hj
   | outgrown => cases hj
 case dies =>
   rintro i ch W hi ⟨rfl,a,hR,hend⟩ hdf
   exact ⟨by simp,.inl ⟨_,_,rfl,run_takeDeferred hdf,endV_fin m06 hNT (hend.put hdf rfl (Nat.le_refl _) _) hR⟩⟩
attribute [local go_sem] Oper.semAt_some
end Go.Proofs.YtflihdcliknggaaGreatDoor
namespace Go.Proofs.YtflihdcliknggaaGreatDoor
open Go.RowKit
def withinV (n lo hi : Int) : Int := lo + (IntKind.u64.wrap n).tmod (hi - lo + 1)
theorem u64_nonneg (n : Int) : 0 ≤ IntKind.u64.wrap n := by
 simp only [IntKind.wrap]
 first | exact Int.emod_nonneg _ (by decide) | (simp; done) | omega
theorem rem_b (n lo hi : Int) (h : lo ≤ hi) : 0 ≤ (IntKind.u64.wrap n).tmod (hi - lo + 1) ∧ (IntKind.u64.wrap n).tmod (hi - lo + 1) ≤ hi - lo := by
 have h0 := u64_nonneg n
 rw [Int.tmod_eq_emod_of_nonneg h0]
 have m0 := Int.emod_nonneg (IntKind.u64.wrap n) (show hi - lo + 1 ≠ 0 by omega)
 have m1 := Int.emod_lt_of_pos (IntKind.u64.wrap n) (show 0 < hi - lo + 1 by omega)
 omega
theorem within_b (n lo hi : Int) (h : lo ≤ hi) : lo ≤ withinV n lo hi ∧ withinV n lo hi ≤ hi := by
 have := rem_b n lo hi h
 unfold withinV; omega
theorem within_any (n lo hi : Int) (w : World) (h0 : 0 ≤ lo) (h1 : lo ≤ hi) (h2 : hi ≤ 1099511627776) (hn : -9223372036854775808 ≤ n ∧ n ≤ 9223372036854775807) :
   Calls Tryz.prog 105 #[.int .i64 n,.int .i64 lo,.int .i64 hi] w fun e w' => e = .returned (.int .i64 (withinV n lo hi)) ∧ w' = w := by
 obtain ⟨hn0,hn1⟩ := hn
 obtain ⟨m0,m1⟩ := rem_b n lo hi h1
 go_enter Tryz.func105,Tryz.ntmps105
 go_wp2_with fail
 go_ret
 exact ⟨rfl,rfl⟩
variable (wk cp pg st tr wt ck pr ca bi ba : Int) (w : World)
theorem some_ok : CfgOk (withinV wk 1 64) (withinV cp 1 8) (withinV pg 1 256) (withinV st 1 64) (withinV tr 0 16) (withinV wt 0 64) (withinV ck 1 1099511627776) (withinV pr 1 8) (withinV ca 0 8) (withinV bi 0 16) (withinV ba 1 8) :=
 ⟨(within_b wk 1 64 (by omega)).1,(within_b wk 1 64 (by omega)).2,(within_b cp 1 8 (by omega)).1,(within_b cp 1 8 (by omega)).2,(within_b pg 1 256 (by omega)).1,(within_b pg 1 256 (by omega)).2,(within_b st 1 64 (by omega)).1,(within_b st 1 64 (by omega)).2,(within_b tr 0 16 (by omega)).1,(within_b tr 0 16 (by omega)).2,(within_b wt 0 64 (by omega)).1,(within_b wt 0 64 (by omega)).2,(within_b ck 1 1099511627776 (by omega)).1,(within_b ck 1 1099511627776 (by omega)).2,(within_b pr 1 8 (by omega)).1,(within_b pr 1 8 (by omega)).2,(within_b ca 0 8 (by omega)).1,(within_b ca 0 8 (by omega)).2,(within_b bi 0 16 (by omega)).1,(within_b bi 0 16 (by omega)).2,(within_b ba 1 8 (by omega)).1,(within_b ba 1 8 (by omega)).2⟩
theorem some_any (wk0 : -9223372036854775808 ≤ wk ∧ wk ≤ 9223372036854775807) (cp0 : -9223372036854775808 ≤ cp ∧ cp ≤ 9223372036854775807) (pg0 : -9223372036854775808 ≤ pg ∧ pg ≤ 9223372036854775807) (st0 : -9223372036854775808 ≤ st ∧ st ≤ 9223372036854775807) (tr0 : -9223372036854775808 ≤ tr ∧ tr ≤ 9223372036854775807) (wt0 : -9223372036854775808 ≤ wt ∧ wt ≤ 9223372036854775807) (ck0 : -9223372036854775808 ≤ ck ∧ ck ≤ 9223372036854775807) (pr0 : -9223372036854775808 ≤ pr ∧ pr ≤ 9223372036854775807) (ca0 : -9223372036854775808 ≤ ca ∧ ca ≤ 9223372036854775807) (bi0 : -9223372036854775808 ≤ bi ∧ bi ≤ 9223372036854775807) (ba0 : -9223372036854775808 ≤ ba ∧ ba ≤ 9223372036854775807) :
   Calls Tryz.prog 66 #[.agg #[.int .i64 wk,.int .i64 cp,.int .i64 pg,.int .i64 st,.int .i64 tr,.int .i64 wt,.int .i64 ck,.int .i64 pr,.int .i64 ca,.int .i64 bi,.int .i64 ba]] w (Gives w (.agg #[.int .i64 (withinV wk 1 64),.int .i64 (withinV cp 1 8),.int .i64 (withinV pg 1 256),.int .i64 (withinV st 1 64),.int .i64 (withinV tr 0 16),.int .i64 (withinV wt 0 64),.int .i64 (withinV ck 1 1099511627776),.int .i64 (withinV pr 1 8),.int .i64 (withinV ca 0 8),.int .i64 (withinV bi 0 16),.int .i64 (withinV ba 1 8)])) := by
 have HN := hQQ (cfgAt_new w 23 wk cp pg st tr wt ck pr ca bi ba)
 have Hwk := hQQ wk0; clear wk0
 have Hcp := hQQ cp0; clear cp0
 have Hpg := hQQ pg0; clear pg0
 have Hst := hQQ st0; clear st0
 have Htr := hQQ tr0; clear tr0
 have Hwt := hQQ wt0; clear wt0
 have Hck := hQQ ck0; clear ck0
 have Hpr := hQQ pr0; clear pr0
 have Hca := hQQ ca0; clear ca0
 have Hbi := hQQ bi0; clear bi0
 have Hba := hQQ ba0; clear ba0
 have HS : Hid (((w.alloc (.cells #[.int .i64 wk,.int .i64 cp,.int .i64 pg,.int .i64 st,.int .i64 tr,.int .i64 wt,.int .i64 ck,.int .i64 pr,.int .i64 ca,.int .i64 bi,.int .i64 ba] 23)).alloc (.cells #[.int .i64 0,.int .i64 0,.int .i64 0,.int .i64 0,.int .i64 0,.int .i64 0,.int .i64 0,.int .i64 0,.int .i64 0,.int .i64 0,.int .i64 0] 23)).drew.cell? ⟨w.heap.size,0,none⟩ = some (.int .i64 wk) ∧ ((w.alloc (.cells #[.int .i64 wk,.int .i64 cp,.int .i64 pg,.int .i64 st,.int .i64 tr,.int .i64 wt,.int .i64 ck,.int .i64 pr,.int .i64 ca,.int .i64 bi,.int .i64 ba] 23)).alloc (.cells #[.int .i64 0,.int .i64 0,.int .i64 0,.int .i64 0,.int .i64 0,.int .i64 0,.int .i64 0,.int .i64 0,.int .i64 0,.int .i64 0,.int .i64 0] 23)).drew.cell? ⟨w.heap.size,1,none⟩ = some (.int .i64 cp) ∧ ((w.alloc (.cells #[.int .i64 wk,.int .i64 cp,.int .i64 pg,.int .i64 st,.int .i64 tr,.int .i64 wt,.int .i64 ck,.int .i64 pr,.int .i64 ca,.int .i64 bi,.int .i64 ba] 23)).alloc (.cells #[.int .i64 0,.int .i64 0,.int .i64 0,.int .i64 0,.int .i64 0,.int .i64 0,.int .i64 0,.int .i64 0,.int .i64 0,.int .i64 0,.int .i64 0] 23)).drew.cell? ⟨w.heap.size,2,none⟩ = some (.int .i64 pg) ∧ ((w.alloc (.cells #[.int .i64 wk,.int .i64 cp,.int .i64 pg,.int .i64 st,.int .i64 tr,.int .i64 wt,.int .i64 ck,.int .i64 pr,.int .i64 ca,.int .i64 bi,.int .i64 ba] 23)).alloc (.cells #[.int .i64 0,.int .i64 0,.int .i64 0,.int .i64 0,.int .i64 0,.int .i64 0,.int .i64 0,.int .i64 0,.int .i64 0,.int .i64 0,.int .i64 0] 23)).drew.cell? ⟨w.heap.size,3,none⟩ = some (.int .i64 st) ∧ ((w.alloc (.cells #[.int .i64 wk,.int .i64 cp,.int .i64 pg,.int .i64 st,.int .i64 tr,.int .i64 wt,.int .i64 ck,.int .i64 pr,.int .i64 ca,.int .i64 bi,.int .i64 ba] 23)).alloc (.cells #[.int .i64 0,.int .i64 0,.int .i64 0,.int .i64 0,.int .i64 0,.int .i64 0,.int .i64 0,.int .i64 0,.int .i64 0,.int .i64 0,.int .i64 0] 23)).drew.cell? ⟨w.heap.size,4,none⟩ = some (.int .i64 tr) ∧ ((w.alloc (.cells #[.int .i64 wk,.int .i64 cp,.int .i64 pg,.int .i64 st,.int .i64 tr,.int .i64 wt,.int .i64 ck,.int .i64 pr,.int .i64 ca,.int .i64 bi,.int .i64 ba] 23)).alloc (.cells #[.int .i64 0,.int .i64 0,.int .i64 0,.int .i64 0,.int .i64 0,.int .i64 0,.int .i64 0,.int .i64 0,.int .i64 0,.int .i64 0,.int .i64 0] 23)).drew.cell? ⟨w.heap.size,5,none⟩ = some (.int .i64 wt) ∧ ((w.alloc (.cells #[.int .i64 wk,.int .i64 cp,.int .i64 pg,.int .i64 st,.int .i64 tr,.int .i64 wt,.int .i64 ck,.int .i64 pr,.int .i64 ca,.int .i64 bi,.int .i64 ba] 23)).alloc (.cells #[.int .i64 0,.int .i64 0,.int .i64 0,.int .i64 0,.int .i64 0,.int .i64 0,.int .i64 0,.int .i64 0,.int .i64 0,.int .i64 0,.int .i64 0] 23)).drew.cell? ⟨w.heap.size,6,none⟩ = some (.int .i64 ck) ∧ ((w.alloc (.cells #[.int .i64 wk,.int .i64 cp,.int .i64 pg,.int .i64 st,.int .i64 tr,.int .i64 wt,.int .i64 ck,.int .i64 pr,.int .i64 ca,.int .i64 bi,.int .i64 ba] 23)).alloc (.cells #[.int .i64 0,.int .i64 0,.int .i64 0,.int .i64 0,.int .i64 0,.int .i64 0,.int .i64 0,.int .i64 0,.int .i64 0,.int .i64 0,.int .i64 0] 23)).drew.cell? ⟨w.heap.size,7,none⟩ = some (.int .i64 pr) ∧ ((w.alloc (.cells #[.int .i64 wk,.int .i64 cp,.int .i64 pg,.int .i64 st,.int .i64 tr,.int .i64 wt,.int .i64 ck,.int .i64 pr,.int .i64 ca,.int .i64 bi,.int .i64 ba] 23)).alloc (.cells #[.int .i64 0,.int .i64 0,.int .i64 0,.int .i64 0,.int .i64 0,.int .i64 0,.int .i64 0,.int .i64 0,.int .i64 0,.int .i64 0,.int .i64 0] 23)).drew.cell? ⟨w.heap.size,8,none⟩ = some (.int .i64 ca) ∧ ((w.alloc (.cells #[.int .i64 wk,.int .i64 cp,.int .i64 pg,.int .i64 st,.int .i64 tr,.int .i64 wt,.int .i64 ck,.int .i64 pr,.int .i64 ca,.int .i64 bi,.int .i64 ba] 23)).alloc (.cells #[.int .i64 0,.int .i64 0,.int .i64 0,.int .i64 0,.int .i64 0,.int .i64 0,.int .i64 0,.int .i64 0,.int .i64 0,.int .i64 0,.int .i64 0] 23)).drew.cell? ⟨w.heap.size,9,none⟩ = some (.int .i64 bi) ∧ ((w.alloc (.cells #[.int .i64 wk,.int .i64 cp,.int .i64 pg,.int .i64 st,.int .i64 tr,.int .i64 wt,.int .i64 ck,.int .i64 pr,.int .i64 ca,.int .i64 bi,.int .i64 ba] 23)).alloc (.cells #[.int .i64 0,.int .i64 0,.int .i64 0,.int .i64 0,.int .i64 0,.int .i64 0,.int .i64 0,.int .i64 0,.int .i64 0,.int .i64 0,.int .i64 0] 23)).drew.cell? ⟨w.heap.size,10,none⟩ = some (.int .i64 ba)) := HN.out.cells ((((More.refl _).alloc _)).drew)
 go_enter Tryz.func66,Tryz.ntmps66
 go_wp2_with fail
 go_region_held3 (fun w' => w'.cell? ⟨w.heap.size,0,none⟩ = some (.int .i64 wk) ∧ w'.cell? ⟨w.heap.size,1,none⟩ = some (.int .i64 cp) ∧ w'.cell? ⟨w.heap.size,2,none⟩ = some (.int .i64 pg) ∧ w'.cell? ⟨w.heap.size,3,none⟩ = some (.int .i64 st) ∧ w'.cell? ⟨w.heap.size,4,none⟩ = some (.int .i64 tr) ∧ w'.cell? ⟨w.heap.size,5,none⟩ = some (.int .i64 wt) ∧ w'.cell? ⟨w.heap.size,6,none⟩ = some (.int .i64 ck) ∧ w'.cell? ⟨w.heap.size,7,none⟩ = some (.int .i64 pr) ∧ w'.cell? ⟨w.heap.size,8,none⟩ = some (.int .i64 ca) ∧ w'.cell? ⟨w.heap.size,9,none⟩ = some (.int .i64 bi) ∧ w'.cell? ⟨w.heap.size,10,none⟩ = some (.int .i64 ba))
   (first | exact HS.out | go_keep)
   (first | (go_at_call 105; refine (within_any _ _ _ _ (by omega) (by omega) (by omega) (by first | exact Hwk.out | exact Hcp.out | exact Hpg.out | exact Hst.out | exact Htr.out | exact Hwt.out | exact Hck.out | exact Hpr.out | exact Hca.out | exact Hbi.out | exact Hba.out)).mono ?_; rintro e w' ⟨rfl,rfl⟩))
 all_goals go_wp2_with fail
 all_goals refine bodyPost_ret (v:=.agg #[.int .i64 (withinV wk 1 64),.int .i64 (withinV cp 1 8),.int .i64 (withinV pg 1 256),.int .i64 (withinV st 1 64),.int .i64 (withinV tr 0 16),.int .i64 (withinV wt 0 64),.int .i64 (withinV ck 1 1099511627776),.int .i64 (withinV pr 1 8),.int .i64 (withinV ca 0 8),.int .i64 (withinV bi 0 16),.int .i64 (withinV ba 1 8)]) (by simp [results,Tryz.results66,go_sem]) rfl ⟨rfl,?_⟩
 all_goals first | exact (((More.refl _).alloc _).alloc _).drew | exact ((More.refl _).alloc _).alloc _
theorem wf_lo {x : Int} (h : (Lit.int .i64 x).wf = true) : -9223372036854775808 ≤ x := by
 simp only [Lit.wf,Bool.and_eq_true,decide_eq_true_eq] at h
 have e : IntKind.i64.min = -9223372036854775808 := by decide
 omega
theorem wf_hi {x : Int} (h : (Lit.int .i64 x).wf = true) : x ≤ 9223372036854775807 := by
 simp only [Lit.wf,Bool.and_eq_true,decide_eq_true_eq] at h
 have e : IntKind.i64.max = 9223372036854775807 := by decide
 omega
theorem some_gives (y0 y1 y2 y3 y4 y5 y6 y7 y8 y9 y10 : Int) (f0 : (Lit.int .i64 y0).wf = true) (f1 : (Lit.int .i64 y1).wf = true) (f2 : (Lit.int .i64 y2).wf = true) (f3 : (Lit.int .i64 y3).wf = true) (f4 : (Lit.int .i64 y4).wf = true) (f5 : (Lit.int .i64 y5).wf = true) (f6 : (Lit.int .i64 y6).wf = true) (f7 : (Lit.int .i64 y7).wf = true) (f8 : (Lit.int .i64 y8).wf = true) (f9 : (Lit.int .i64 y9).wf = true) (f10 : (Lit.int .i64 y10).wf = true) :
   ∃ wk cp pg st tr wt ck pr ca bi ba,CfgOk wk cp pg st tr wt ck pr ca bi ba ∧ Hid (∀ W,Calls Tryz.prog 66 #[.agg #[.int .i64 y0,.int .i64 y1,.int .i64 y2,.int .i64 y3,.int .i64 y4,.int .i64 y5,.int .i64 y6,.int .i64 y7,.int .i64 y8,.int .i64 y9,.int .i64 y10]] W (Gives W (.agg #[.int .i64 wk,.int .i64 cp,.int .i64 pg,.int .i64 st,.int .i64 tr,.int .i64 wt,.int .i64 ck,.int .i64 pr,.int .i64 ca,.int .i64 bi,.int .i64 ba]))) :=
 ⟨(withinV y0 1 64),(withinV y1 1 8),(withinV y2 1 256),(withinV y3 1 64),(withinV y4 0 16),(withinV y5 0 64),(withinV y6 1 1099511627776),(withinV y7 1 8),(withinV y8 0 8),(withinV y9 0 16),(withinV y10 1 8),some_ok y0 y1 y2 y3 y4 y5 y6 y7 y8 y9 y10,fun W => some_any y0 y1 y2 y3 y4 y5 y6 y7 y8 y9 y10 W ⟨wf_lo f0,wf_hi f0⟩ ⟨wf_lo f1,wf_hi f1⟩ ⟨wf_lo f2,wf_hi f2⟩ ⟨wf_lo f3,wf_hi f3⟩ ⟨wf_lo f4,wf_hi f4⟩ ⟨wf_lo f5,wf_hi f5⟩ ⟨wf_lo f6,wf_hi f6⟩ ⟨wf_lo f7,wf_hi f7⟩ ⟨wf_lo f8,wf_hi f8⟩ ⟨wf_lo f9,wf_hi f9⟩ ⟨wf_lo f10,wf_hi f10⟩⟩
end Go.Proofs.YtflihdcliknggaaGreatDoor
