/-
  The landed package chunk: Count.
-/
import Derived.Test.YtjljkidlhlgefaaChunkSeq
import Derived.Test.YtjljkidlhlgefaaChunkEns
namespace Go.Proofs.Ytjljkidlhlgefaa
open Go.RowKit Go.Sort Go.Maps Go.Shelf
set_option linter.unusedVariables false
set_option linter.unusedSimpArgs false
attribute [local go_sem] Oper.semAt_some

set_option maxRecDepth 100000 in
set_option maxHeartbeats 1000000 in
theorem c_Count {c : Cfg} (R : c.Ok) {n : Nat} (H : TblIn c.pg c.st n) (F : Nat → Prop) (p : Nat) (kn : Int → Option Int) (D : List KV) (w : World) (hv : ViewAt w F p kn D) (hk : OkK kn) (hD : InvD n D) :
    Calls Try.prog 11 #[.pointer (some ⟨p, 0, none⟩), .agg c.arr] w (WentV w F p kn (fun s => .int .i64 s) (countP c.pg c.st kn D)) := by
  obtain ⟨Rr, hRr⟩ : ∃ Rr, countP c.pg c.st kn D = Rr := ⟨_, rfl⟩
  rw [hRr]
  refine (callsIn_wide (n := 3)).1 ?_
  refine callsIn_of_wpOf Try.func11 rfl trivial ?_ rfl
  simp only [Try.ntmps11, List.size_toArray, List.length_cons, List.length_nil, Nat.reduceAdd, Nat.reduceSub, Array.replicate_succ, Array.replicate_zero, List.push_toArray, List.append_toArray, List.nil_append, List.cons_append]
  refine wpOf_first ?_
  gi_wp2
  refine wpOf_first ?_
  gi_wp2
  refine wpOf_seq ?_
  refine wpOf_first ?_
  obtain ⟨w3, e3, hb0, hb1, hb2, m3, s3⟩ := entry3 w (.cells #[.pointer (some ⟨p, 0, none⟩)] 38) (.cells c.arr 28) (.cells #[.int .i64 0] 3)
  rw [e3]
  clear e3
  have HB0 := Lib.hid hb0
  have HB1 := Lib.hid hb1
  have HB2 := Lib.hid hb2
  have hfl := field_pages c
  have R' := Lib.hid R
  clear hb0 hb1 hb2
  refine wpIn_wide.2 ?_
  refine wp_region_more_tail 4 (by kernel_rfl) (by kernel_rfl) ?_
  simp only [List.take_succ_cons, List.take_zero, List.drop_succ_cons, List.drop_zero]
  refine wpQuiet_load_row rfl 28 _ rfl _ rfl 28 _ _ _ (fun W hW => hW.block HB1.out) Try.underlying28 rfl (by kernel_rfl) ?_
  refine wpQuiet_load_row rfl 28 _ rfl _ rfl 28 _ _ _ (fun W hW => hW.block HB1.out) Try.underlying28 rfl (by kernel_rfl) ?_
  iterate 2
    with_reducible refine wpQuiet_step (fun K hK => ?_)
    go_simp
    first
    | (refine hK _ ?_; clear hK K)
    | (apply Exists.intro
       refine ⟨fun W hW => ?_, hK _ ?_⟩
       first
       | (go_at_call 16; exact Calls.more hW (y_config R'.out W))
       | (go_simp; try rfl)
       clear hK K)
  refine wpQuiet_nil ?_
  intro w4 m4
  have m34 := m3.trans m4
  have hq0 := m4.block HB0.out
  have hq1 := m4.block HB1.out
  have hq2 := m4.block HB2.out
  have HQ0 := Lib.hid hq0
  have HQ1 := Lib.hid hq1
  have HQ2 := Lib.hid hq2
  have s4 : w.heap.size + 3 ≤ w4.heap.size := by have := m4.size; omega
  clear hq0 hq1 hq2 HB0 HB1 HB2 m3 m4 s3 w3
  go_wp2_with (go_at_call 43; refine (callsIn_wide.1 (over_in 3 0 c.pg w4)).mono ?_; rintro e w' ⟨rfl, rfl⟩)
  obtain ⟨hl, hp4, hp5⟩ := over_made c 0 c.pg w4
  have m6 : More w4 (((w4.alloc (.cells c.arr 28)).alloc (.cells #[.int .i64 0] 3)).alloc (.cells #[.int .i64 c.pg] 3)) := (((More.refl _).alloc _).alloc _).alloc _
  have s6 : (((w4.alloc (.cells c.arr 28)).alloc (.cells #[.int .i64 0] 3)).alloc (.cells #[.int .i64 c.pg] 3)).heap.size = w4.heap.size + 3 := by simp
  generalize ((w4.alloc (.cells c.arr 28)).alloc (.cells #[.int .i64 0] 3)).alloc (.cells #[.int .i64 c.pg] 3) = w6 at hl hp4 hp5 m6 s6 ⊢
  have HC0 := Lib.hid (m6.block HQ0.out)
  have HC1 := Lib.hid (m6.block HQ1.out)
  have HC2 := Lib.hid (m6.block HQ2.out)
  have m06 := m34.trans m6
  have hv6 := hv.more m06
  have hF := hv.lt
  have hF6 : ∀ k, F k → k < w6.heap.size := fun k q => by have := hF k q; omega
  obtain ⟨x, hx0⟩ : ∃ x : Int, x = 0 := ⟨0, rfl⟩
  rw [← hx0] at hp4
  have hth : thereB c.pg x c.pg = true := there_iff.2 ⟨by omega, R.pg1, by omega⟩
  have hN : roundsV c.pg x c.pg = (chunksV c.pg).toNat := by
    have h1 := R.pg1
    unfold roundsV; rw [hth]; show spanV x c.pg = _; unfold spanV chunksV; rw [hx0]; omega
  have hN6 : roundsV c.pg x c.pg ≤ 64 := by unfold roundsV; rw [hth]; exact (span_b hth R.pg2).2
  have HK := Lib.hid hk
  have HH := Lib.hid H
  have OE := Lib.hid (over_ends 2 (by omega) R x c.pg (by unfold W64; omega) w4.heap.size (w4.heap.size + 1) (w4.heap.size + 2) w6 hl hp4 hp5)
  have hR0 : countN c.pg c.st (roundsV c.pg x c.pg) (x / 4) 0 kn D = Rr := by rw [hN, hx0]; exact hRr
  have HR0 := Lib.hid hR0
  have ON0 := Lib.hid (OnV.begin (T := fun k => k = w.heap.size + 2) hv6 hD)
  clear hRr R hk H hl hp4 hp5 hv hv6 hD m6 m34 hR0 HQ0 HQ1 HQ2 hx0 hN hth
  have hNT : ∀ k, k = w.heap.size + 2 → w.heap.size ≤ k := fun k q => by omega
  have hb6 : w.heap.size + 2 < w6.heap.size := by omega
  refine wpOf_block ?_
  refine range_of (N := roundsV c.pg x c.pg) (gf := 71) (lb := #[.pointer (some ⟨w4.heap.size, 0, none⟩), .pointer (some ⟨w4.heap.size + 1, 0, none⟩), .pointer (some ⟨w4.heap.size + 2, 0, none⟩)]) Try.func11 rfl (by omega) rfl trivial (enters_of Try.func71 (by kernel_rfl) rfl) OE.out (More.refl _) (by rintro k (rfl | rfl | rfl) <;> omega) (fun _ => rfl)
    (fun i => LoopI w6 F (w.heap.size + 2) p 3 kn n (fun D' v => ∃ s : Int, v = .int .i64 s ∧ 0 ≤ s ∧ s ≤ 4 * (i : Int) ∧ countN c.pg c.st (roundsV c.pg x c.pg - i) (x / 4 + (i : Int)) s kn D' = Rr))
    (fun e _ => LoopX w6 F (w.heap.size + 2) p 3 kn n (fun a => Rr = .need a) (fun _ _ => False) e)
    (fun i => loopI_books hF6 hb6 _) (fun e i => loopX_books hF6 hb6 _ _ e)
    ⟨F, D, _, ON0.out, HC2.out, 0, rfl, by omega, by omega, by simpa using HR0.out⟩
    (fun i => LoopA w6 F (w.heap.size + 2) p 3 kn n (fun D' v => ∃ s : Int, v = .int .i64 s ∧ 0 ≤ s ∧ s ≤ 4 * (i : Int) ∧ countN c.pg c.st (roundsV c.pg x c.pg - i) (x / 4 + (i : Int)) s kn D' = Rr) 77 (chkArr c (x / 4 + (i : Int)))
      (fun Bx => { tmps := #[.pointer (some ⟨p, 0, none⟩), .agg c.arr, .pointer (some ⟨w.heap.size, 0, none⟩), .pointer (some ⟨w.heap.size + 1, 0, none⟩), .int .i64 0, .pointer (some ⟨w.heap.size + 1 + 1, 0, none⟩), .pointer (some ⟨Bx, 0, none⟩), undef, undef, .agg c.arr, .agg c.arr, .agg #[.int .i64 c.wk, .int .i64 c.cp, .int .i64 c.pg, .int .i64 c.st, .int .i64 c.tr, .int .i64 c.wt, .int .i64 c.ck, .int .i64 c.pr, .int .i64 c.ca, .int .i64 c.bi, .int .i64 c.ba], .int .i64 c.pg, .func (.func 71) #[] #[.pointer (some ⟨w4.heap.size, 0, none⟩), .pointer (some ⟨w4.heap.size + 1, 0, none⟩), .pointer (some ⟨w4.heap.size + 2, 0, none⟩)], .agg (chkArr c (x / 4 + (i : Int))), undef, undef, undef, undef, undef, undef, undef, undef, undef, undef, undef, undef], defers := [] }))
    (fun i a' => loopA_books hF6 hb6 _ _ _ _ a') ?assign ?body ?done ?stop ?dies
  case assign =>
    rintro l i W K hi hsz ⟨F', D', v, h1, h2, h3⟩ hK
    obtain ⟨hx1, hm1⟩ := chk_boxed W c (x / 4 + (i : Int))
    gi_wp2_with ((with_reducible refine wpListIn_store_row ?_ 77 (.tmp 6) (.tmp 14) ?_ W.heap.size ?_ (chkArr c (x / 4 + (i : Int))) ?_ 77 chkZero ?_ ?_ ?_ ?_ ?_); rfl; rfl; rfl; rfl; exact heap_new W _; kernel_rfl; rfl; exact chk_one c _)
    refine hK _ _ (same_more hm1 (by rintro k (rfl | rfl) <;> omega)) (same_more hm1 (by rintro k (rfl | rfl | rfl) <;> omega)) ?_
    exact ⟨W.heap.size, F', D', v, hsz, fun q => by have := h1.view.lt _ q; omega, hx1, h1.more hm1, hm1.block h2, h3, rfl⟩
  case body =>
    rintro l i a' W hsz hi ⟨Bx, F', D', v, g0, g1, g2, g3, g4, ⟨s, rfl, s0, s1, g5⟩, rfl⟩
    have hld := run_loadVar_row (P := Try.prog) W Bx _ 77 _ _ _ g2 Try.underlying77 rfl (by kernel_rfl)
    have hcv := (Turned.block g3.turn w.heap.size (by omega) (by rintro (q | q); have := hF _ q; omega; omega)).trans HC0.out
    have cv := (box_cells hcv).1
    rw [show roundsV c.pg x c.pg - i = (roundsV c.pg x c.pg - (i + 1)) + 1 by omega] at g5
    have hsem2 : bindP (mappedP c.pg c.st (x / 4 + (i : Int))) (fun b => countN c.pg c.st (roundsV c.pg x c.pg - (i + 1)) (x / 4 + (i : Int) + 1) (s + if b then sizeV c.pg (x / 4 + (i : Int)) else 0)) kn D' = Rr := g5
    have IM := c_isMapped R'.out F' p kn D' (x / 4 + (i : Int)) W g3.view
    have G2 := Lib.hid g2
    have G3 := Lib.hid g3
    have G4 := Lib.hid g4
    have HS := Lib.hid hsem2
    clear hcv hsem2 g3 g4 g5 g2
    gi_wp2_with ((with_reducible refine wpListIn_load_run ?_ 77 (.tmp 6) ?_ Bx ?_ (.agg (chkArr c (x / 4 + (i : Int)))) ?_ ?_); rfl; rfl; rfl; exact hld)
    refine ⟨trivial, ?_⟩
    gi_at_call 44
    refine (CallsIn.inRound l (callsIn_wide.2 IM)).mono ?_
    intro e W2 he
    cases hm : mappedP c.pg c.st (x / 4 + (i : Int)) kn D' with
    | need a =>
      rw [hm] at he
      obtain ⟨rfl, hend, ht⟩ := EndV.of G3.out (by omega) (More.refl W) he
      exact ⟨G3.out.same hF6 hsz ht, rfl, rfl, a, HS.out.symm.trans (bindP_need hm), hend⟩
    | ok b D1 =>
      rw [hm] at he
      have hI1 := ((good_mapped HH.out _).ok HK.out G3.out.inv hm).1
      obtain ⟨rfl, F1, hon, ht⟩ := G3.out.step hsz (More.refl W) he hI1
      have hbk := G3.out.same hF6 hsz ht
      have hbs := G3.out.sameS (S := fun k => k = w4.heap.size ∨ k = w4.heap.size + 1 ∨ k = w4.heap.size + 2) (by rintro k (rfl | rfl | rfl) <;> exact ⟨by omega, fun q => by have := hF _ q; omega⟩) ht
      have hbr : W2.heap[w.heap.size + 2]? = some (.cells #[.int .i64 s] 3 (0, 0)) := (Turned.block ht _ (by omega) (fun q => by rcases G3.out.from' _ q with r | r; have := hF _ r; omega; omega)).trans G4.out
      have hsem := (bindP_ok hm).symm.trans HS.out
      have ix : x / 4 + ((i + 1 : Nat) : Int) = x / 4 + (i : Int) + 1 := by omega
      cases b with
      | false =>
        have hsem0 : countN c.pg c.st (roundsV c.pg x c.pg - (i + 1)) (x / 4 + (i : Int) + 1) (s + 0) kn D1 = Rr := hsem
        rw [Int.add_zero, ← ix] at hsem0
        gi_wp2
        exact ⟨hbk, hbs, F1, D1, _, hon, hbr, s, rfl, s0, by omega, hsem0⟩
      | true =>
        have hsem1 : countN c.pg c.st (roundsV c.pg x c.pg - (i + 1)) (x / 4 + (i : Int) + 1) (s + sizeV c.pg (x / 4 + (i : Int))) kn D1 = Rr := hsem
        rw [← ix] at hsem1
        have zb := size_b HH.out (x / 4 + (i : Int))
        have hBx : W2.heap[Bx]? = some (.cells (chkArr c (x / 4 + (i : Int))) 77 (0, 0)) := (Turned.block ht _ (lt_of_heap G2.out) g1).trans G2.out
        have hld2 := run_loadVar_row (P := Try.prog) W2 Bx _ 77 _ _ _ hBx Try.underlying77 rfl (by kernel_rfl)
        have PG := Lib.hid (c_pages R'.out (x / 4 + (i : Int)) W2)
        have HBR := Lib.hid hbr
        have HSM := Lib.hid hsem1
        have hlt := lt_of_heap hbr
        have hsz2 := ht.size
        generalize hgz : sizeV c.pg (x / 4 + (i : Int)) = z at zb PG HSM
        generalize firstV c.pg (x / 4 + (i : Int)) = fz at PG
        have qw : IntKind.i64.wrap (s + z) = s + z := wrap_in (by omega) (by omega)
        clear hsem hsem1 hBx hbr hgz
        gi_wp2_with ((with_reducible refine wpListIn_load_run ?_ 77 (.tmp 6) ?_ Bx ?_ (.agg (chkArr c (x / 4 + (i : Int)))) ?_ ?_); rfl; rfl; rfl; exact hld2)
        refine ⟨trivial, ?_⟩
        gi_at_call 45
        refine (CallsIn.inRound l (callsIn_wide.2 PG.out)).mono ?_
        rintro e W3 ⟨rfl, m3⟩
        have hbr3 := m3.block HBR.out
        obtain ⟨cr, fr, _⟩ := box_cells (b := w.heap.size + 1 + 1) hbr3
        have hon3 := (hon.more m3).box (b := w.heap.size + 1 + 1) rfl (fun k q => by have := hF _ q; omega) (by omega) (.int .i64 (s + z)) hbr3 (fun _ _ q => by cases q)
        have hb4 := box_put (b := w.heap.size + 1 + 1) (.int .i64 (s + z)) hbr3
        have t3 : Turned (fun k => k = w.heap.size + 1 + 1) W2 (W3.setCell ⟨w.heap.size + 1 + 1, 0, none⟩ (.int .i64 (s + z))) := Turned.setCell (Turned.mono m3 (fun _ _ q => q.elim)) _ _ (fun _ => rfl)
        clear hbr3
        gi_wp2
        refine ⟨hbk.trans (SameOn.turned t3 (fun k q => by rcases q with q | q <;> omega) (fun k q r => by rcases q with q | q <;> omega)), hbs.trans (SameOn.turned t3 (fun k q => by rcases q with q | q | q <;> omega) (fun k q r => by rcases q with q | q | q <;> omega)), F1, D1, _, hon3, hb4, s + z, rfl, by omega, by omega, HSM.out⟩
  case done =>
    rintro W ⟨F', D', v, h1, h2, ⟨s, rfl, s0, s1, h4⟩⟩ hdf
    have hR : Rr = .ok s D' := by rw [Nat.sub_self] at h4; exact h4.symm
    have cs : W.cell? ⟨w.heap.size + 1 + 1, 0, none⟩ = some (.int .i64 s) := (box_cells (b := w.heap.size + 1 + 1) h2).1
    have FIN := Lib.hid (onV_fin (S := fun k => k = w6.heap.size) (val := fun s : Int => Value.int .i64 s) m06 hNT h1 hR (turned_put (Turned.refl _ W) _ (.deferred none) (fun _ => rfl)) (fun k q => ⟨by omega, fun r => by rcases h1.from' k r with s | s; have := hF _ s; omega; omega⟩)
      (fun k es cl q r => by subst q; rw [hdf] at r; cases r))
    clear h1 h2 h4 hR
    rw [s6] at hdf FIN
    refine wpOf_of ?_
    gi_wp2
    refine ⟨by simp, .inl ⟨_, _, rfl, run_takeDeferred hdf, ?_⟩⟩
    refine ⟨.int .i64 s, ?_, FIN.out⟩
    exact (results_tmp (t := 4) rfl _ _ _).trans rfl
  case stop =>
    rintro i e cc W hj hi hx hdf
    cases e with
    | ret => obtain ⟨F', D', v, h1, h2, hR⟩ := hx; exact hR.elim
    | exit _ => exact hx.elim
    | goto _ => exact hx.elim
    | normal => cases hj
    | panic _ => cases hj
    | outgrown => cases hj
  case dies =>
    rintro i ch W hi ⟨rfl, a, hR, hend⟩ hdf
    exact ⟨by simp, .inl ⟨_, _, rfl, run_takeDeferred hdf, endV_fin m06 hNT (hend.put hdf rfl (Nat.le_refl _) _) hR⟩⟩
end Go.Proofs.Ytjljkidlhlgefaa
