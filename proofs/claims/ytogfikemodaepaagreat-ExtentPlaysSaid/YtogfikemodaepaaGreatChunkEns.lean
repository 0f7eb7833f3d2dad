/-
  The landed package chunk: Ensure.
-/
import Derived.Test.YtogfikemodaepaaGreatChunkSeq
import Derived.Test.YtogfikemodaepaaGreatChunkMany
namespace Go.Proofs.YtogfikemodaepaaGreat
open Go.RowKit Go.Sort Go.Maps Go.Shelf
set_option linter.unusedVariables false
set_option linter.unusedSimpArgs false
attribute [local go_sem] Oper.semAt_some

/-- A load of one cell. -/
theorem run_loadVar_one {P : Program} {w : World} {ty : TypeId} {g : Nat} {v : Value} {d : TypeDesc} (hu : P.underlying ty = some d) (hd : (match d with | .struct _ | .array _ _ => true | _ => false) = false) (hc : w.cell? ⟨g, 0, none⟩ = some v) : (loadVar ty ⟨g, 0, none⟩).run P w = .ok v w := by
  have hagg : (isAgg ty).run P w = .ok false w := by
    unfold isAgg
    rw [Sem.run_bind, run_underlying hu w]
    cases d <;> simp_all
  simp [loadVar, Sem.run_bind, hagg, hc, Result.andThen, go_sem]
section
variable {F : Fence} {n : Nat} {P : Program} {o : Oper} {a : Act} {w : World} {K : Act → World → Prop} {Q : Exit → Act → World → Prop}
theorem wpIn_load_run {ty : TypeId} {x : Operand} (ho : o.op = .load ty x) {g : Nat} (hx : a.eval x = .pointer (some ⟨g, 0, none⟩)) {v : Value} (hr : (loadVar ty ⟨g, 0, none⟩).run P w = .ok v w) (h : K (a.put o.dst v) w) : o.wpIn F n P a w K Q := by
  refine ⟨by simp [Oper.about, ho], ?_⟩
  rw [Oper.semAt_plain F _ _ (by rw [ho]; intro c hc; cases hc)]
  simp [execOp, ho, hx, Instr.loadAt, Instr.sureAddr, Sem.run_bind, hr, Result.andThen]
  exact h
/-- A call of a function of three arguments, in a round of the wide fence. -/
theorem wpIn_call3 {l f : Nat} {x0 x1 x2 : Operand} {v0 v1 v2 : Value} {ts : Array TypeId} (ho : o.op = .call { callee := .value (.func f), args := #[x0, x1, x2], argTypes := ts }) (h0 : a.eval x0 = v0) (h1 : a.eval x1 = v1) (h2 : a.eval x2 = v2) (he : ∀ (vs : Array Value) (w : World), Sem.run P (callFunc f vs) w = .ok (.enter f vs) w)
    (h : CallsIn Fence.wide (n - 1) P f #[v0, v1, v2] w (fun | .returned v, w'' => K (a.put o.dst v) w'' | .panicked ch, w'' => Q (.panic ch) a w'' | .outgrown, _ => LetsOut Q)) : o.wpIn (Fence.wide.inRound l) n P a w K Q := by
  refine ⟨fun _ _ => trivial, ?_⟩
  have hv : a.eval (.func f) = .func (.func f) #[] #[] := rfl
  rw [Oper.semAt_plain _ _ _ (by rw [ho]; intro c hc; cases hc)]
  generalize a.eval = ρ at h0 h1 h2 hv ⊢
  simp [execOp, ho, resolve, invoke, hv, h0, h1, h2, he, Sem.run_bind, Result.andThen, go_sem]
  exact ⟨fun q => by simp [Fence.inRound, Fence.wide] at q, CallsIn.inRound l h⟩
end

set_option maxRecDepth 100000 in
set_option maxHeartbeats 600000 in
theorem c_Ensure {c : Cfg} (R : c.Ok) {n : Nat} (H : TblIn c.pg c.st n) (hn : n ≤ 10000) (F : Nat → Prop) (p : Nat) (kn : Int → Option Int) (D : List KV) (x y : Int) (hx : W64 x) (w : World) (hv : ViewAt w F p kn D) (hk : OkK kn) (hD : InvD n D) :
    Calls Tryz.prog 46 #[.pointer (some ⟨p, 0, none⟩), .agg c.arr, .int .i64 x, .int .i64 y] w (WentV w F p kn (fun s => .int .i64 s) (ensureP c.pg c.st x y kn D)) := by
  obtain ⟨Rr, hRr⟩ : ∃ Rr, ensureP c.pg c.st x y kn D = Rr := ⟨_, rfl⟩
  rw [hRr]
  refine (callsIn_wide (n := 3)).1 ?_
  refine callsIn_of_wpOf Tryz.func46 rfl trivial ?_ rfl
  simp only [Tryz.ntmps46, List.size_toArray, List.length_cons, List.length_nil, Nat.reduceAdd, Nat.reduceSub, Array.replicate_succ, Array.replicate_zero, List.push_toArray, List.append_toArray, List.nil_append, List.cons_append]
  refine wpOf_first ?_
  gi_wp2
  refine wpOf_first ?_
  gi_wp2
  refine wpOf_seq ?_
  refine wpOf_first ?_
  obtain ⟨w3, e3, hb0, hb1, hb2, m3, s3⟩ := entry3 w (.cells #[.pointer (some ⟨p, 0, none⟩)] 39) (.cells c.arr 28) (.cells #[.int .i64 0] 3)
  rw [e3]
  clear e3
  have hld3 : (loadVar 28 ⟨w.heap.size + 1, 0, none⟩).run Tryz.prog w3 = .ok (.agg c.arr) w3 := run_loadVar_row w3 _ _ _ _ _ _ hb1 Tryz.underlying28 rfl (by kernel_rfl)
  have HB0 := Lib.hid hb0
  have HB1 := Lib.hid hb1
  have HB2 := Lib.hid hb2
  clear hb0 hb1 hb2
  gi_wp2_with (first
    | ((with_reducible refine wpListIn_load_run ?_ 28 (.tmp 5) ?_ (w.heap.size + 1) ?_ (.agg c.arr) ?_ ?_); rfl; rfl; rfl; exact hld3)
    | ((with_reducible refine And.intro ?_ ?_); exact trivial; gi_at_call 73; refine (over_in _ x y _).mono ?_; rintro e w' ⟨rfl, rfl⟩))
  obtain ⟨hl, hp4, hp5⟩ := over_made c x y w3
  have m6 : More w3 (((w3.alloc (.cells c.arr 28)).alloc (.cells #[.int .i64 x] 3)).alloc (.cells #[.int .i64 y] 3)) := (((More.refl _).alloc _).alloc _).alloc _
  have s6 : (((w3.alloc (.cells c.arr 28)).alloc (.cells #[.int .i64 x] 3)).alloc (.cells #[.int .i64 y] 3)).heap.size = w.heap.size + 6 := by simp [s3]
  rw [s3] at hl hp4 hp5
  generalize ((w3.alloc (.cells c.arr 28)).alloc (.cells #[.int .i64 x] 3)).alloc (.cells #[.int .i64 y] 3) = w6 at hl hp4 hp5 m6 s6 ⊢
  have hc0 := m6.block HB0.out
  have hc1 := m6.block HB1.out
  have hc2 := m6.block HB2.out
  have m06 := m3.trans m6
  have hv6 := hv.more m06
  have hF := hv.lt
  have hF6 : ∀ k, F k → k < w6.heap.size := fun k q => by have := hF k q; omega
  have HR := Lib.hid R
  have HK := Lib.hid hk
  have HH := Lib.hid H
  have HT := Lib.hid (fun w => c_there (c := c) R x y hx w)
  have OE := Lib.hid (over_ends 2 (by omega) R x y hx (w.heap.size + 3) (w.heap.size + 3 + 1) (w.heap.size + 3 + 2) w6 hl hp4 hp5)
  have hR0 : (thereB c.pg x y = true → ensureN c.pg c.st (roundsV c.pg x y) (x / 4) 0 kn D = Rr) ∧ (thereB c.pg x y = false → Rr = .ok 0 D) := by
    unfold ensureP at hRr
    unfold roundsV
    cases hth : thereB c.pg x y with
    | true => rw [hth] at hRr; exact ⟨fun _ => hRr, fun q => (by cases q)⟩
    | false => rw [hth] at hRr; exact ⟨fun q => (by cases q), fun _ => hRr.symm⟩
  have HR0 := Lib.hid hR0
  have ON0 := Lib.hid (OnV.begin (T := fun k => k = w.heap.size + 2) hv6 hD)
  clear hRr R hk H hl hp4 hp5 hv hv6 hD hx m3 s3 hld3 HB0 HB1 HB2 m6 hR0
  have HC0 := Lib.hid hc0
  have HC1 := Lib.hid hc1
  have HC2 := Lib.hid hc2
  clear hc0 hc1 hc2
  have hNT : ∀ k, k = w.heap.size + 2 → w.heap.size ≤ k := fun k q => by omega
  have hb6 : w.heap.size + 2 < w6.heap.size := by omega
  refine wpOf_block ?_
  refine range_of (N := roundsV c.pg x y) (gf := 95) (lb := #[.pointer (some ⟨w.heap.size + 3, 0, none⟩), .pointer (some ⟨w.heap.size + 3 + 1, 0, none⟩), .pointer (some ⟨w.heap.size + 3 + 2, 0, none⟩)]) Tryz.func46 rfl (by omega) rfl trivial (enters_of Tryz.func95 (by kernel_rfl) rfl) OE.out (More.refl _) (by rintro k (rfl | rfl | rfl) <;> omega) (fun _ => rfl)
    (fun i => LoopI w6 F (w.heap.size + 2) p 3 kn n (fun D' v => ∃ s : Int, v = .int .i64 s ∧ 0 ≤ s ∧ s ≤ 4 * (i : Int) ∧ (thereB c.pg x y = true → ensureN c.pg c.st (roundsV c.pg x y - i) (x / 4 + (i : Int)) s kn D' = Rr) ∧ (thereB c.pg x y = false → D' = D ∧ s = 0)))
    (fun e _ => LoopX w6 F (w.heap.size + 2) p 3 kn n (fun a => Rr = .need a) (fun _ _ => False) e)
    (fun i => loopI_books hF6 hb6 _) (fun e i => loopX_books hF6 hb6 _ _ e)
    ⟨F, D, _, ON0.out, HC2.out, 0, rfl, by omega, by omega, fun h => by simpa using HR0.out.1 h, fun _ => ⟨rfl, rfl⟩⟩
    (fun i => LoopA w6 F (w.heap.size + 2) p 3 kn n (fun D' v => ∃ s : Int, v = .int .i64 s ∧ 0 ≤ s ∧ s ≤ 4 * (i : Int) ∧ (thereB c.pg x y = true → ensureN c.pg c.st (roundsV c.pg x y - i) (x / 4 + (i : Int)) s kn D' = Rr) ∧ (thereB c.pg x y = false → D' = D ∧ s = 0)) 98 (chkArr c (x / 4 + (i : Int)))
      (fun Bx => { tmps := #[.pointer (some ⟨p, 0, none⟩), .agg c.arr, .int .i64 x, .int .i64 y, .pointer (some ⟨w.heap.size, 0, none⟩), .pointer (some ⟨w.heap.size + 1, 0, none⟩), undef, undef, .int .i64 0, .pointer (some ⟨w.heap.size + 1 + 1, 0, none⟩), .pointer (some ⟨Bx, 0, none⟩), .agg c.arr, .int .i64 x, .int .i64 y, .func (.func 95) #[] #[.pointer (some ⟨w.heap.size + 3, 0, none⟩), .pointer (some ⟨w.heap.size + 3 + 1, 0, none⟩), .pointer (some ⟨w.heap.size + 3 + 2, 0, none⟩)], .agg (chkArr c (x / 4 + (i : Int))), undef, undef, undef, undef, undef, undef], defers := [] }))
    (fun i a' => loopA_books hF6 hb6 _ _ _ _ a') ?assign ?body ?done ?stop ?dies
  case assign =>
    rintro l i W K hi hsz ⟨F', D', v, h1, h2, h3⟩ hK
    obtain ⟨hx1, hm1⟩ := chk_boxed W c (x / 4 + (i : Int))
    gi_wp2_with ((with_reducible refine wpListIn_store_row ?_ 98 (.tmp 10) (.tmp 15) ?_ W.heap.size ?_ (chkArr c (x / 4 + (i : Int))) ?_ 98 chkZero ?_ ?_ ?_ ?_ ?_); rfl; rfl; rfl; rfl; exact heap_new W _; kernel_rfl; rfl; exact chk_one c _)
    refine hK _ _ (same_more hm1 (by rintro k (rfl | rfl) <;> omega)) (same_more hm1 (by rintro k (rfl | rfl | rfl) <;> omega)) ?_
    exact ⟨W.heap.size, F', D', v, hsz, fun q => by have := h1.view.lt _ q; omega, hx1, h1.more hm1, hm1.block h2, h3, rfl⟩
  case body =>
    rintro l i a' W hsz hi ⟨Bx, F', D', v, g0, g1, g2, g3, g4, ⟨s, rfl, s0, s1, g5, g6⟩, rfl⟩
    have HEN := enters_of Tryz.func74 (by kernel_rfl) rfl
    have hmx : Tryz.prog.follows .mixedOrders = true := by kernel_rfl
    have hld := run_loadVar_row (P := Tryz.prog) W.drew Bx _ 98 _ _ _ g2 Tryz.underlying98 rfl (by kernel_rfl)
    have hcv := (Turned.block g3.turn w.heap.size (by omega) (by rintro (q | q); have := hF _ q; omega; omega)).trans HC0.out
    have cv : W.drew.cell? ⟨w.heap.size, 0, none⟩ = some (.pointer (some ⟨p, 0, none⟩)) := (box_cells hcv).1
    have cs : W.drew.cell? ⟨w.heap.size + 1 + 1, 0, none⟩ = some (.int .i64 s) := (box_cells (b := w.heap.size + 1 + 1) g4).1
    have hv1 : (loadVar 39 ⟨w.heap.size, 0, none⟩).run Tryz.prog W.drew = .ok (.pointer (some ⟨p, 0, none⟩)) W.drew := run_loadVar_one Tryz.underlying39 rfl cv
    have hs1 : (loadVar 3 ⟨w.heap.size + 1 + 1, 0, none⟩).run Tryz.prog W.drew = .ok (.int .i64 s) W.drew := run_loadVar_one Tryz.underlying3 rfl cs
    have hth : thereB c.pg x y = true := by
      cases q : thereB c.pg x y with
      | true => rfl
      | false => unfold roundsV at hi; rw [q] at hi; simp at hi
    have hN : roundsV c.pg x y ≤ 64 := by unfold roundsV; rw [hth]; exact (span_b hth HR.out.pg2).2
    have hsem := g5 hth
    rw [show roundsV c.pg x y - i = (roundsV c.pg x y - (i + 1)) + 1 by omega] at hsem
    have hsem2 : bindP (turnP c.pg c.st (x / 4 + (i : Int)) 1) (fun z => ensureN c.pg c.st (roundsV c.pg x y - (i + 1)) (x / 4 + (i : Int) + 1) (s + z)) kn D' = Rr := hsem
    have TN := Lib.hid (c_turn HR.out HH.out hn F' p kn D' (x / 4 + (i : Int)) 1 W.drew (g3.view.more (More.refl W).drew) HK.out g3.inv)
    have G3 := Lib.hid g3
    have G4 := Lib.hid g4
    have HS := Lib.hid hsem2
    clear hcv hsem hsem2 g3 g4 g5 g6 g2 cv cs
    refine wpIn_block ?_
    cases hm : turnP c.pg c.st (x / 4 + (i : Int)) 1 kn D' with
    | need a =>
      have FIN : Hid (∀ W2 e, WentV W.drew F' p kn (fun y : Int => Value.int .i64 y) (.need a) e W2 → e = .panicked (endOf p) ∧ SameOn (bookAt w6.heap.size) W W2 ∧ ([] : List Deferred) = [] ∧ LoopX w6 F (w.heap.size + 2) p 3 kn n (fun a => Rr = .need a) (fun _ _ => False) (.panic (endOf p)) W2) := Lib.hid fun W2 e he => by
        obtain ⟨he', hend, ht⟩ := EndV.of G3.out (by omega) (More.refl W).drew he
        exact ⟨he', G3.out.same hF6 hsz ht, rfl, rfl, a, HS.out.symm.trans (bindP_need hm), hend⟩
      refine wpIn_region_any hmx ?_
      change wpAnyIn _ _ _ _ _ _ _ _ _ (World.drew _)
      refine wpAnyIn_ready (rs := [0, 1, 2]) (by kernel_rfl) (by simp) ?_
      refine AllReadyIn.cons rfl (fun K hK => ?_) ?_
      · rw [if_pos (by rfl)]; refine wpIn_load_run rfl rfl hs1 ?_; refine hK _ _ ?_; clear hK K
        refine wpAnyIn_ready (rs := [1, 2]) (by kernel_rfl) (by simp) ?_
        refine AllReadyIn.cons rfl (fun K hK => ?_) ?_
        · rw [if_pos (by rfl)]; refine wpIn_load_run rfl rfl hld ?_; refine hK _ _ ?_; clear hK K
          refine wpAnyIn_ready (rs := [2]) (by kernel_rfl) (by simp) ?_
          refine AllReadyIn.cons rfl (fun K hK => ?_) ?_
          · rw [if_pos (by rfl)]; refine wpIn_load_run rfl rfl hv1 ?_; refine hK _ _ ?_; clear hK K
            refine wpAnyIn_ready (rs := [3]) (by kernel_rfl) (by simp) ?_
            refine AllReadyIn.cons rfl (fun K hK => ?_) ?_
            · rw [if_pos (by rfl)]; refine wpIn_call3 (v0 := .agg (chkArr c (x / 4 + (i : Int)))) (v1 := .pointer (some ⟨p, 0, none⟩)) (v2 := .int .i64 1) rfl rfl rfl rfl HEN ?_
              refine (callsIn_wide.2 TN.out).mono ?_
              intro e W2 he
              rw [hm] at he
              obtain ⟨rfl, hfin⟩ := FIN.out W2 e he
              exact hfin
            exact AllReadyIn.nil
          exact AllReadyIn.nil
        refine AllReadyIn.cons rfl (fun K hK => ?_) ?_
        · rw [if_pos (by rfl)]; refine wpIn_load_run rfl rfl hv1 ?_; refine hK _ _ ?_; clear hK K
          refine wpAnyIn_ready (rs := [1]) (by kernel_rfl) (by simp) ?_
          refine AllReadyIn.cons rfl (fun K hK => ?_) ?_
          · rw [if_pos (by rfl)]; refine wpIn_load_run rfl rfl hld ?_; refine hK _ _ ?_; clear hK K
            refine wpAnyIn_ready (rs := [3]) (by kernel_rfl) (by simp) ?_
            refine AllReadyIn.cons rfl (fun K hK => ?_) ?_
            · rw [if_pos (by rfl)]; refine wpIn_call3 (v0 := .agg (chkArr c (x / 4 + (i : Int)))) (v1 := .pointer (some ⟨p, 0, none⟩)) (v2 := .int .i64 1) rfl rfl rfl rfl HEN ?_
              refine (callsIn_wide.2 TN.out).mono ?_
              intro e W2 he
              rw [hm] at he
              obtain ⟨rfl, hfin⟩ := FIN.out W2 e he
              exact hfin
            exact AllReadyIn.nil
          exact AllReadyIn.nil
        exact AllReadyIn.nil
      refine AllReadyIn.cons rfl (fun K hK => ?_) ?_
      · rw [if_pos (by rfl)]; refine wpIn_load_run rfl rfl hld ?_; refine hK _ _ ?_; clear hK K
        refine wpAnyIn_ready (rs := [0, 2]) (by kernel_rfl) (by simp) ?_
        refine AllReadyIn.cons rfl (fun K hK => ?_) ?_
        · rw [if_pos (by rfl)]; refine wpIn_load_run rfl rfl hs1 ?_; refine hK _ _ ?_; clear hK K
          refine wpAnyIn_ready (rs := [2]) (by kernel_rfl) (by simp) ?_
          refine AllReadyIn.cons rfl (fun K hK => ?_) ?_
          · rw [if_pos (by rfl)]; refine wpIn_load_run rfl rfl hv1 ?_; refine hK _ _ ?_; clear hK K
            refine wpAnyIn_ready (rs := [3]) (by kernel_rfl) (by simp) ?_
            refine AllReadyIn.cons rfl (fun K hK => ?_) ?_
            · rw [if_pos (by rfl)]; refine wpIn_call3 (v0 := .agg (chkArr c (x / 4 + (i : Int)))) (v1 := .pointer (some ⟨p, 0, none⟩)) (v2 := .int .i64 1) rfl rfl rfl rfl HEN ?_
              refine (callsIn_wide.2 TN.out).mono ?_
              intro e W2 he
              rw [hm] at he
              obtain ⟨rfl, hfin⟩ := FIN.out W2 e he
              exact hfin
            exact AllReadyIn.nil
          exact AllReadyIn.nil
        refine AllReadyIn.cons rfl (fun K hK => ?_) ?_
        · rw [if_pos (by rfl)]; refine wpIn_load_run rfl rfl hv1 ?_; refine hK _ _ ?_; clear hK K
          refine wpAnyIn_ready (rs := [0, 3]) (by kernel_rfl) (by simp) ?_
          refine AllReadyIn.cons rfl (fun K hK => ?_) ?_
          · rw [if_pos (by rfl)]; refine wpIn_load_run rfl rfl hs1 ?_; refine hK _ _ ?_; clear hK K
            refine wpAnyIn_ready (rs := [3]) (by kernel_rfl) (by simp) ?_
            refine AllReadyIn.cons rfl (fun K hK => ?_) ?_
            · rw [if_pos (by rfl)]; refine wpIn_call3 (v0 := .agg (chkArr c (x / 4 + (i : Int)))) (v1 := .pointer (some ⟨p, 0, none⟩)) (v2 := .int .i64 1) rfl rfl rfl rfl HEN ?_
              refine (callsIn_wide.2 TN.out).mono ?_
              intro e W2 he
              rw [hm] at he
              obtain ⟨rfl, hfin⟩ := FIN.out W2 e he
              exact hfin
            exact AllReadyIn.nil
          refine AllReadyIn.cons rfl (fun K hK => ?_) ?_
          · rw [if_pos (by rfl)]; refine wpIn_call3 (v0 := .agg (chkArr c (x / 4 + (i : Int)))) (v1 := .pointer (some ⟨p, 0, none⟩)) (v2 := .int .i64 1) rfl rfl rfl rfl HEN ?_
            refine (callsIn_wide.2 TN.out).mono ?_
            intro e W2 he
            rw [hm] at he
            obtain ⟨rfl, hfin⟩ := FIN.out W2 e he
            exact hfin
          exact AllReadyIn.nil
        exact AllReadyIn.nil
      refine AllReadyIn.cons rfl (fun K hK => ?_) ?_
      · rw [if_pos (by rfl)]; refine wpIn_load_run rfl rfl hv1 ?_; refine hK _ _ ?_; clear hK K
        refine wpAnyIn_ready (rs := [0, 1]) (by kernel_rfl) (by simp) ?_
        refine AllReadyIn.cons rfl (fun K hK => ?_) ?_
        · rw [if_pos (by rfl)]; refine wpIn_load_run rfl rfl hs1 ?_; refine hK _ _ ?_; clear hK K
          refine wpAnyIn_ready (rs := [1]) (by kernel_rfl) (by simp) ?_
          refine AllReadyIn.cons rfl (fun K hK => ?_) ?_
          · rw [if_pos (by rfl)]; refine wpIn_load_run rfl rfl hld ?_; refine hK _ _ ?_; clear hK K
            refine wpAnyIn_ready (rs := [3]) (by kernel_rfl) (by simp) ?_
            refine AllReadyIn.cons rfl (fun K hK => ?_) ?_
            · rw [if_pos (by rfl)]; refine wpIn_call3 (v0 := .agg (chkArr c (x / 4 + (i : Int)))) (v1 := .pointer (some ⟨p, 0, none⟩)) (v2 := .int .i64 1) rfl rfl rfl rfl HEN ?_
              refine (callsIn_wide.2 TN.out).mono ?_
              intro e W2 he
              rw [hm] at he
              obtain ⟨rfl, hfin⟩ := FIN.out W2 e he
              exact hfin
            exact AllReadyIn.nil
          exact AllReadyIn.nil
        refine AllReadyIn.cons rfl (fun K hK => ?_) ?_
        · rw [if_pos (by rfl)]; refine wpIn_load_run rfl rfl hld ?_; refine hK _ _ ?_; clear hK K
          refine wpAnyIn_ready (rs := [0, 3]) (by kernel_rfl) (by simp) ?_
          refine AllReadyIn.cons rfl (fun K hK => ?_) ?_
          · rw [if_pos (by rfl)]; refine wpIn_load_run rfl rfl hs1 ?_; refine hK _ _ ?_; clear hK K
            refine wpAnyIn_ready (rs := [3]) (by kernel_rfl) (by simp) ?_
            refine AllReadyIn.cons rfl (fun K hK => ?_) ?_
            · rw [if_pos (by rfl)]; refine wpIn_call3 (v0 := .agg (chkArr c (x / 4 + (i : Int)))) (v1 := .pointer (some ⟨p, 0, none⟩)) (v2 := .int .i64 1) rfl rfl rfl rfl HEN ?_
              refine (callsIn_wide.2 TN.out).mono ?_
              intro e W2 he
              rw [hm] at he
              obtain ⟨rfl, hfin⟩ := FIN.out W2 e he
              exact hfin
            exact AllReadyIn.nil
          refine AllReadyIn.cons rfl (fun K hK => ?_) ?_
          · rw [if_pos (by rfl)]; refine wpIn_call3 (v0 := .agg (chkArr c (x / 4 + (i : Int)))) (v1 := .pointer (some ⟨p, 0, none⟩)) (v2 := .int .i64 1) rfl rfl rfl rfl HEN ?_
            refine (callsIn_wide.2 TN.out).mono ?_
            intro e W2 he
            rw [hm] at he
            obtain ⟨rfl, hfin⟩ := FIN.out W2 e he
            exact hfin
          exact AllReadyIn.nil
        exact AllReadyIn.nil
      exact AllReadyIn.nil
    | ok z D1 =>
      have FI2 : Hid (∀ W2 e, WentV W.drew F' p kn (fun y : Int => Value.int .i64 y) (.ok z D1) e W2 → e = .returned (.int .i64 z) ∧ (loadVar 3 ⟨w.heap.size + 1 + 1, 0, none⟩).run Tryz.prog W2 = .ok (.int .i64 s) W2 ∧ W2.cell? ⟨w.heap.size + 1 + 1, 0, none⟩ = some (.int .i64 s) ∧ W2.frozen? ⟨w.heap.size + 1 + 1, 0, none⟩ = false ∧
          (SameOn (bookAt w6.heap.size) W (W2.setCell ⟨w.heap.size + 1 + 1, 0, none⟩ (.int .i64 (s + z))) ∧ SameOn (fun k => k = w.heap.size + 3 ∨ k = w.heap.size + 3 + 1 ∨ k = w.heap.size + 3 + 2) W (W2.setCell ⟨w.heap.size + 1 + 1, 0, none⟩ (.int .i64 (s + z))) ∧ LoopI w6 F (w.heap.size + 2) p 3 kn n (fun D' v => ∃ s : Int, v = .int .i64 s ∧ 0 ≤ s ∧ s ≤ 4 * ((i + 1 : Nat) : Int) ∧ (thereB c.pg x y = true → ensureN c.pg c.st (roundsV c.pg x y - (i + 1)) (x / 4 + ((i + 1 : Nat) : Int)) s kn D' = Rr) ∧ (thereB c.pg x y = false → D' = D ∧ s = 0)) (W2.setCell ⟨w.heap.size + 1 + 1, 0, none⟩ (.int .i64 (s + z))))) := Lib.hid fun W2 e he => by
        obtain ⟨hI1, z0, z1⟩ := (good_turn HH.out _ 1 (by unfold W64; omega)).ok HK.out G3.out.inv hm
        obtain ⟨he', F1, hon, ht⟩ := G3.out.step hsz (More.refl W).drew he hI1
        have hbr : W2.heap[w.heap.size + 2]? = some (.cells #[.int .i64 s] 3 (0, 0)) := (Turned.block ht _ (by omega) (fun q => by rcases G3.out.from' _ q with r | r; have := hF _ r; omega; omega)).trans G4.out
        obtain ⟨cr, fr, _⟩ := box_cells (b := w.heap.size + 1 + 1) hbr
        have hlt := lt_of_heap hbr
        have hsz2 := ht.size
        have tb : Turned (fun k => k = w.heap.size + 1 + 1) W2 (W2.setCell ⟨w.heap.size + 1 + 1, 0, none⟩ (.int .i64 (s + z))) := Turned.setCell (Turned.refl _ W2) _ _ (fun _ => rfl)
        refine ⟨he', run_loadVar_one Tryz.underlying3 rfl cr, cr, fr, ?_, ?_, F1, D1, _, hon.box (b := w.heap.size + 1 + 1) rfl (fun k q => by have := hF _ q; omega) (by omega) _ hbr (fun _ _ q => by cases q), box_put (b := w.heap.size + 1 + 1) _ hbr, s + z, rfl, by omega, by omega, fun _ => ?_, fun q => by rw [hth] at q; cases q⟩
        · exact (G3.out.same hF6 hsz ht).trans (SameOn.turned tb (fun k q => by rcases q with q | q <;> omega) (fun k q r => by rcases q with q | q <;> omega))
        · exact (G3.out.sameS (by rintro k (rfl | rfl | rfl) <;> exact ⟨by omega, fun q => by have := hF _ q; omega⟩) ht).trans (SameOn.turned tb (fun k q => by rcases q with q | q | q <;> omega) (fun k q r => by rcases q with q | q | q <;> omega))
        · rw [show x / 4 + ((i + 1 : Nat) : Int) = x / 4 + (i : Int) + 1 by omega]
          exact (bindP_ok hm).symm.trans HS.out
      have zb := ((good_turn HH.out _ 1 (by unfold W64; omega)).ok HK.out G3.out.inv hm).2
      have qw : IntKind.i64.wrap (s + z) = s + z := wrap_in (by omega) (by omega)
      refine wpIn_region_any hmx ?_
      change wpAnyIn _ _ _ _ _ _ _ _ _ (World.drew _)
      refine wpAnyIn_ready (rs := [0, 1, 2]) (by kernel_rfl) (by simp) ?_
      refine AllReadyIn.cons rfl (fun K hK => ?_) ?_
      · rw [if_pos (by rfl)]; refine wpIn_load_run rfl rfl hs1 ?_; refine hK _ _ ?_; clear hK K
        refine wpAnyIn_ready (rs := [1, 2]) (by kernel_rfl) (by simp) ?_
        refine AllReadyIn.cons rfl (fun K hK => ?_) ?_
        · rw [if_pos (by rfl)]; refine wpIn_load_run rfl rfl hld ?_; refine hK _ _ ?_; clear hK K
          refine wpAnyIn_ready (rs := [2]) (by kernel_rfl) (by simp) ?_
          refine AllReadyIn.cons rfl (fun K hK => ?_) ?_
          · rw [if_pos (by rfl)]; refine wpIn_load_run rfl rfl hv1 ?_; refine hK _ _ ?_; clear hK K
            refine wpAnyIn_ready (rs := [3]) (by kernel_rfl) (by simp) ?_
            refine AllReadyIn.cons rfl (fun K hK => ?_) ?_
            · rw [if_pos (by rfl)]; refine wpIn_call3 (v0 := .agg (chkArr c (x / 4 + (i : Int)))) (v1 := .pointer (some ⟨p, 0, none⟩)) (v2 := .int .i64 1) rfl rfl rfl rfl HEN ?_
              refine (callsIn_wide.2 TN.out).mono ?_
              intro e W2 he
              rw [hm] at he
              obtain ⟨rfl, hs2, cs2, fs2, hfin⟩ := FI2.out W2 e he
              have FIN := Lib.hid hfin
              clear hfin he
              refine hK _ _ ?_; clear hK K
              refine wpAnyIn_ready (rs := [4]) (by kernel_rfl) (by simp) ?_
              refine AllReadyIn.cons rfl (fun K hK => ?_) ?_
              · go_simp; refine hK _ _ ?_; clear hK K
                refine wpAnyIn_ready (rs := [5]) (by kernel_rfl) (by simp) ?_
                refine AllReadyIn.cons rfl (fun K hK => ?_) ?_
                · go_simp; refine hK _ _ ?_; clear hK K
                  refine wpAnyIn_done (by kernel_rfl) ?_ _
                  exact FIN.out
                exact AllReadyIn.nil
              exact AllReadyIn.nil
            exact AllReadyIn.nil
          exact AllReadyIn.nil
        refine AllReadyIn.cons rfl (fun K hK => ?_) ?_
        · rw [if_pos (by rfl)]; refine wpIn_load_run rfl rfl hv1 ?_; refine hK _ _ ?_; clear hK K
          refine wpAnyIn_ready (rs := [1]) (by kernel_rfl) (by simp) ?_
          refine AllReadyIn.cons rfl (fun K hK => ?_) ?_
          · rw [if_pos (by rfl)]; refine wpIn_load_run rfl rfl hld ?_; refine hK _ _ ?_; clear hK K
            refine wpAnyIn_ready (rs := [3]) (by kernel_rfl) (by simp) ?_
            refine AllReadyIn.cons rfl (fun K hK => ?_) ?_
            · rw [if_pos (by rfl)]; refine wpIn_call3 (v0 := .agg (chkArr c (x / 4 + (i : Int)))) (v1 := .pointer (some ⟨p, 0, none⟩)) (v2 := .int .i64 1) rfl rfl rfl rfl HEN ?_
              refine (callsIn_wide.2 TN.out).mono ?_
              intro e W2 he
              rw [hm] at he
              obtain ⟨rfl, hs2, cs2, fs2, hfin⟩ := FI2.out W2 e he
              have FIN := Lib.hid hfin
              clear hfin he
              refine hK _ _ ?_; clear hK K
              refine wpAnyIn_ready (rs := [4]) (by kernel_rfl) (by simp) ?_
              refine AllReadyIn.cons rfl (fun K hK => ?_) ?_
              · go_simp; refine hK _ _ ?_; clear hK K
                refine wpAnyIn_ready (rs := [5]) (by kernel_rfl) (by simp) ?_
                refine AllReadyIn.cons rfl (fun K hK => ?_) ?_
                · go_simp; refine hK _ _ ?_; clear hK K
                  refine wpAnyIn_done (by kernel_rfl) ?_ _
                  exact FIN.out
                exact AllReadyIn.nil
              exact AllReadyIn.nil
            exact AllReadyIn.nil
          exact AllReadyIn.nil
        exact AllReadyIn.nil
      refine AllReadyIn.cons rfl (fun K hK => ?_) ?_
      · rw [if_pos (by rfl)]; refine wpIn_load_run rfl rfl hld ?_; refine hK _ _ ?_; clear hK K
        refine wpAnyIn_ready (rs := [0, 2]) (by kernel_rfl) (by simp) ?_
        refine AllReadyIn.cons rfl (fun K hK => ?_) ?_
        · rw [if_pos (by rfl)]; refine wpIn_load_run rfl rfl hs1 ?_; refine hK _ _ ?_; clear hK K
          refine wpAnyIn_ready (rs := [2]) (by kernel_rfl) (by simp) ?_
          refine AllReadyIn.cons rfl (fun K hK => ?_) ?_
          · rw [if_pos (by rfl)]; refine wpIn_load_run rfl rfl hv1 ?_; refine hK _ _ ?_; clear hK K
            refine wpAnyIn_ready (rs := [3]) (by kernel_rfl) (by simp) ?_
            refine AllReadyIn.cons rfl (fun K hK => ?_) ?_
            · rw [if_pos (by rfl)]; refine wpIn_call3 (v0 := .agg (chkArr c (x / 4 + (i : Int)))) (v1 := .pointer (some ⟨p, 0, none⟩)) (v2 := .int .i64 1) rfl rfl rfl rfl HEN ?_
              refine (callsIn_wide.2 TN.out).mono ?_
              intro e W2 he
              rw [hm] at he
              obtain ⟨rfl, hs2, cs2, fs2, hfin⟩ := FI2.out W2 e he
              have FIN := Lib.hid hfin
              clear hfin he
              refine hK _ _ ?_; clear hK K
              refine wpAnyIn_ready (rs := [4]) (by kernel_rfl) (by simp) ?_
              refine AllReadyIn.cons rfl (fun K hK => ?_) ?_
              · go_simp; refine hK _ _ ?_; clear hK K
                refine wpAnyIn_ready (rs := [5]) (by kernel_rfl) (by simp) ?_
                refine AllReadyIn.cons rfl (fun K hK => ?_) ?_
                · go_simp; refine hK _ _ ?_; clear hK K
                  refine wpAnyIn_done (by kernel_rfl) ?_ _
                  exact FIN.out
                exact AllReadyIn.nil
              exact AllReadyIn.nil
            exact AllReadyIn.nil
          exact AllReadyIn.nil
        refine AllReadyIn.cons rfl (fun K hK => ?_) ?_
        · rw [if_pos (by rfl)]; refine wpIn_load_run rfl rfl hv1 ?_; refine hK _ _ ?_; clear hK K
          refine wpAnyIn_ready (rs := [0, 3]) (by kernel_rfl) (by simp) ?_
          refine AllReadyIn.cons rfl (fun K hK => ?_) ?_
          · rw [if_pos (by rfl)]; refine wpIn_load_run rfl rfl hs1 ?_; refine hK _ _ ?_; clear hK K
            refine wpAnyIn_ready (rs := [3]) (by kernel_rfl) (by simp) ?_
            refine AllReadyIn.cons rfl (fun K hK => ?_) ?_
            · rw [if_pos (by rfl)]; refine wpIn_call3 (v0 := .agg (chkArr c (x / 4 + (i : Int)))) (v1 := .pointer (some ⟨p, 0, none⟩)) (v2 := .int .i64 1) rfl rfl rfl rfl HEN ?_
              refine (callsIn_wide.2 TN.out).mono ?_
              intro e W2 he
              rw [hm] at he
              obtain ⟨rfl, hs2, cs2, fs2, hfin⟩ := FI2.out W2 e he
              have FIN := Lib.hid hfin
              clear hfin he
              refine hK _ _ ?_; clear hK K
              refine wpAnyIn_ready (rs := [4]) (by kernel_rfl) (by simp) ?_
              refine AllReadyIn.cons rfl (fun K hK => ?_) ?_
              · go_simp; refine hK _ _ ?_; clear hK K
                refine wpAnyIn_ready (rs := [5]) (by kernel_rfl) (by simp) ?_
                refine AllReadyIn.cons rfl (fun K hK => ?_) ?_
                · go_simp; refine hK _ _ ?_; clear hK K
                  refine wpAnyIn_done (by kernel_rfl) ?_ _
                  exact FIN.out
                exact AllReadyIn.nil
              exact AllReadyIn.nil
            exact AllReadyIn.nil
          refine AllReadyIn.cons rfl (fun K hK => ?_) ?_
          · rw [if_pos (by rfl)]; refine wpIn_call3 (v0 := .agg (chkArr c (x / 4 + (i : Int)))) (v1 := .pointer (some ⟨p, 0, none⟩)) (v2 := .int .i64 1) rfl rfl rfl rfl HEN ?_
            refine (callsIn_wide.2 TN.out).mono ?_
            intro e W2 he
            rw [hm] at he
            obtain ⟨rfl, hs2, cs2, fs2, hfin⟩ := FI2.out W2 e he
            have FIN := Lib.hid hfin
            clear hfin he
            refine hK _ _ ?_; clear hK K
            refine wpAnyIn_ready (rs := [0]) (by kernel_rfl) (by simp) ?_
            refine AllReadyIn.cons rfl (fun K hK => ?_) ?_
            · rw [if_pos (by rfl)]; refine wpIn_load_run rfl rfl hs2 ?_; refine hK _ _ ?_; clear hK K
              refine wpAnyIn_ready (rs := [4]) (by kernel_rfl) (by simp) ?_
              refine AllReadyIn.cons rfl (fun K hK => ?_) ?_
              · go_simp; refine hK _ _ ?_; clear hK K
                refine wpAnyIn_ready (rs := [5]) (by kernel_rfl) (by simp) ?_
                refine AllReadyIn.cons rfl (fun K hK => ?_) ?_
                · go_simp; refine hK _ _ ?_; clear hK K
                  refine wpAnyIn_done (by kernel_rfl) ?_ _
                  exact FIN.out
                exact AllReadyIn.nil
              exact AllReadyIn.nil
            exact AllReadyIn.nil
          exact AllReadyIn.nil
        exact AllReadyIn.nil
      refine AllReadyIn.cons rfl (fun K hK => ?_) ?_
      · rw [if_pos (by rfl)]; refine wpIn_load_run rfl rfl hv1 ?_; refine hK _ _ ?_; clear hK K
        refine wpAnyIn_ready (rs := [0, 1]) (by kernel_rfl) (by simp) ?_
        refine AllReadyIn.cons rfl (fun K hK => ?_) ?_
        · rw [if_pos (by rfl)]; refine wpIn_load_run rfl rfl hs1 ?_; refine hK _ _ ?_; clear hK K
          refine wpAnyIn_ready (rs := [1]) (by kernel_rfl) (by simp) ?_
          refine AllReadyIn.cons rfl (fun K hK => ?_) ?_
          · rw [if_pos (by rfl)]; refine wpIn_load_run rfl rfl hld ?_; refine hK _ _ ?_; clear hK K
            refine wpAnyIn_ready (rs := [3]) (by kernel_rfl) (by simp) ?_
            refine AllReadyIn.cons rfl (fun K hK => ?_) ?_
            · rw [if_pos (by rfl)]; refine wpIn_call3 (v0 := .agg (chkArr c (x / 4 + (i : Int)))) (v1 := .pointer (some ⟨p, 0, none⟩)) (v2 := .int .i64 1) rfl rfl rfl rfl HEN ?_
              refine (callsIn_wide.2 TN.out).mono ?_
              intro e W2 he
              rw [hm] at he
              obtain ⟨rfl, hs2, cs2, fs2, hfin⟩ := FI2.out W2 e he
              have FIN := Lib.hid hfin
              clear hfin he
              refine hK _ _ ?_; clear hK K
              refine wpAnyIn_ready (rs := [4]) (by kernel_rfl) (by simp) ?_
              refine AllReadyIn.cons rfl (fun K hK => ?_) ?_
              · go_simp; refine hK _ _ ?_; clear hK K
                refine wpAnyIn_ready (rs := [5]) (by kernel_rfl) (by simp) ?_
                refine AllReadyIn.cons rfl (fun K hK => ?_) ?_
                · go_simp; refine hK _ _ ?_; clear hK K
                  refine wpAnyIn_done (by kernel_rfl) ?_ _
                  exact FIN.out
                exact AllReadyIn.nil
              exact AllReadyIn.nil
            exact AllReadyIn.nil
          exact AllReadyIn.nil
        refine AllReadyIn.cons rfl (fun K hK => ?_) ?_
        · rw [if_pos (by rfl)]; refine wpIn_load_run rfl rfl hld ?_; refine hK _ _ ?_; clear hK K
          refine wpAnyIn_ready (rs := [0, 3]) (by kernel_rfl) (by simp) ?_
          refine AllReadyIn.cons rfl (fun K hK => ?_) ?_
          · rw [if_pos (by rfl)]; refine wpIn_load_run rfl rfl hs1 ?_; refine hK _ _ ?_; clear hK K
            refine wpAnyIn_ready (rs := [3]) (by kernel_rfl) (by simp) ?_
            refine AllReadyIn.cons rfl (fun K hK => ?_) ?_
            · rw [if_pos (by rfl)]; refine wpIn_call3 (v0 := .agg (chkArr c (x / 4 + (i : Int)))) (v1 := .pointer (some ⟨p, 0, none⟩)) (v2 := .int .i64 1) rfl rfl rfl rfl HEN ?_
              refine (callsIn_wide.2 TN.out).mono ?_
              intro e W2 he
              rw [hm] at he
              obtain ⟨rfl, hs2, cs2, fs2, hfin⟩ := FI2.out W2 e he
              have FIN := Lib.hid hfin
              clear hfin he
              refine hK _ _ ?_; clear hK K
              refine wpAnyIn_ready (rs := [4]) (by kernel_rfl) (by simp) ?_
              refine AllReadyIn.cons rfl (fun K hK => ?_) ?_
              · go_simp; refine hK _ _ ?_; clear hK K
                refine wpAnyIn_ready (rs := [5]) (by kernel_rfl) (by simp) ?_
                refine AllReadyIn.cons rfl (fun K hK => ?_) ?_
                · go_simp; refine hK _ _ ?_; clear hK K
                  refine wpAnyIn_done (by kernel_rfl) ?_ _
                  exact FIN.out
                exact AllReadyIn.nil
              exact AllReadyIn.nil
            exact AllReadyIn.nil
          refine AllReadyIn.cons rfl (fun K hK => ?_) ?_
          · rw [if_pos (by rfl)]; refine wpIn_call3 (v0 := .agg (chkArr c (x / 4 + (i : Int)))) (v1 := .pointer (some ⟨p, 0, none⟩)) (v2 := .int .i64 1) rfl rfl rfl rfl HEN ?_
            refine (callsIn_wide.2 TN.out).mono ?_
            intro e W2 he
            rw [hm] at he
            obtain ⟨rfl, hs2, cs2, fs2, hfin⟩ := FI2.out W2 e he
            have FIN := Lib.hid hfin
            clear hfin he
            refine hK _ _ ?_; clear hK K
            refine wpAnyIn_ready (rs := [0]) (by kernel_rfl) (by simp) ?_
            refine AllReadyIn.cons rfl (fun K hK => ?_) ?_
            · rw [if_pos (by rfl)]; refine wpIn_load_run rfl rfl hs2 ?_; refine hK _ _ ?_; clear hK K
              refine wpAnyIn_ready (rs := [4]) (by kernel_rfl) (by simp) ?_
              refine AllReadyIn.cons rfl (fun K hK => ?_) ?_
              · go_simp; refine hK _ _ ?_; clear hK K
                refine wpAnyIn_ready (rs := [5]) (by kernel_rfl) (by simp) ?_
                refine AllReadyIn.cons rfl (fun K hK => ?_) ?_
                · go_simp; refine hK _ _ ?_; clear hK K
                  refine wpAnyIn_done (by kernel_rfl) ?_ _
                  exact FIN.out
                exact AllReadyIn.nil
              exact AllReadyIn.nil
            exact AllReadyIn.nil
          exact AllReadyIn.nil
        exact AllReadyIn.nil
      exact AllReadyIn.nil
  case done =>
    rintro W ⟨F', D', v, h1, h2, ⟨s, rfl, s0, s1, h4, h5⟩⟩ hdf
    have hR : Rr = .ok s D' := by
      cases q : thereB c.pg x y with
      | true => have := h4 q; rw [Nat.sub_self] at this; exact this.symm
      | false => obtain ⟨rfl, rfl⟩ := h5 q; exact HR0.out.2 q
    have cs : W.cell? ⟨w.heap.size + 1 + 1, 0, none⟩ = some (.int .i64 s) := (box_cells (b := w.heap.size + 1 + 1) h2).1
    have FIN := Lib.hid (onV_fin (S := fun k => k = w6.heap.size) (val := fun s : Int => Value.int .i64 s) m06 hNT h1 hR (turned_put (Turned.refl _ W) _ (.deferred none) (fun _ => rfl)) (fun k q => ⟨by omega, fun r => by rcases h1.from' k r with s | s; have := hF _ s; omega; omega⟩)
      (fun k es cl q r => by subst q; rw [hdf] at r; cases r))
    clear h1 h2 h4 h5 hR
    rw [s6] at hdf FIN
    refine wpOf_of ?_
    gi_wp2
    refine ⟨by simp, .inl ⟨_, _, rfl, run_takeDeferred hdf, ?_⟩⟩
    refine ⟨.int .i64 s, ?_, FIN.out⟩
    exact (results_tmp (t := 8) rfl _ _ _).trans rfl
  case stop =>
    rintro i e cc W hj hi hx hdf
    cases e with
    | ret => obtain ⟨F', D', v, h1, h2, hR⟩ := hx; exact hR.elim
    | exit _ => exact hx.elim
    | goto _ => exact hx.elim
    | normal => cases hj
    | panic _ => cases hj
    | outgrown => cases hj
  case dies =>
    rintro i ch W hi ⟨rfl, a, hR, hend⟩ hdf
    exact ⟨by simp, .inl ⟨_, _, rfl, run_takeDeferred hdf, endV_fin m06 hNT (hend.put hdf rfl (Nat.le_refl _) _) hR⟩⟩
end Go.Proofs.YtogfikemodaepaaGreat
