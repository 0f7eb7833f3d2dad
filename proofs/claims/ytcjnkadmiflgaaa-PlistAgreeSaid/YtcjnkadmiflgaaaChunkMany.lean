/-
  The landed package chunk: Covers, Ensure and Count.
-/
import Derived.Test.YtcjnkadmiflgaaaChunkSeq
import Derived.Test.YtcjnkadmiflgaaaViewLoop
namespace Go.Proofs.Ytcjnkadmiflgaaa
open Go.RowKit Go.Sort Go.Maps Go.Shelf
set_option linter.unusedVariables false
set_option linter.unusedSimpArgs false
attribute [local go_sem] Oper.semAt_some

theorem entry3 (w : World) (o0 o1 o2 : Obj) : ∃ w3, ((w.alloc o0).alloc o1).alloc o2 = w3 ∧ w3.heap[w.heap.size]? = some o0 ∧ w3.heap[w.heap.size + 1]? = some o1 ∧ w3.heap[w.heap.size + 2]? = some o2 ∧ More w w3 ∧ w3.heap.size = w.heap.size + 3 := by
  have h0 := heap_new w o0
  have s0 : (w.alloc o0).heap.size = w.heap.size + 1 := by simp
  have m0 : More w (w.alloc o0) := (More.refl _).alloc _
  generalize w.alloc o0 = w1 at h0 s0 m0 ⊢
  have h1 := heap_new w1 o1
  rw [s0] at h1
  have s1 : (w1.alloc o1).heap.size = w.heap.size + 2 := by simp [s0]
  have m1 : More w1 (w1.alloc o1) := (More.refl _).alloc _
  generalize w1.alloc o1 = w2 at h1 s1 m1 ⊢
  have h2 := heap_new w2 o2
  rw [s1] at h2
  have m2 : More w2 (w2.alloc o2) := (More.refl _).alloc _
  exact ⟨_, rfl, m2.block (m1.block h0), m2.block h1, h2, (m0.trans m1).trans m2, by simp [s1]⟩
def chkZero : Array Value := #[.int .i64 0, .int .i64 0, .int .i64 0, .int .i64 0, .int .i64 0, .int .i64 0, .int .i64 0, .int .i64 0, .int .i64 0, .int .i64 0, .int .i64 0, .int .i64 0, .int .i64 0, .int .i64 0, .int .i64 0, .int .i64 0, .int .i64 0, .int .i64 0, .int .i64 0, .int .i64 0, .int .i64 0, .int .i64 0, .int .i64 0, .int .i64 0, .int .i64 0]
theorem chk_one (c : Cfg) (k : Int) : (chkArr c k).all (·.oneCell') = true := by
  unfold chkArr
  rw [Array.all_push]
  have : c.arr.all (·.oneCell') = true := layArr_one ..
  rw [this]; rfl
theorem chk_size (c : Cfg) (k : Int) : (chkArr c k).size = 25 := by rfl
/-- A loop's variable is boxed. -/
theorem chk_boxed (W : World) (c : Cfg) (k : Int) : ((W.alloc (.cells chkZero 84)).setRow W.heap.size (chkArr c k)).heap[W.heap.size]? = some (.cells (chkArr c k) 84 (0, 0)) ∧ More W ((W.alloc (.cells chkZero 84)).setRow W.heap.size (chkArr c k)) :=
  ⟨setRow_heap _ _ _ _ _ _ (heap_new W _), ((More.refl W).alloc _).setRow _ _ (Nat.le_refl _)⟩

theorem same_more {S : Nat → Prop} {W W' : World} (m : More W W') (hS : ∀ k, S k → k < W.heap.size) : SameOn S W W' := SameOn.turned m hS (fun _ _ q => q)

set_option maxRecDepth 100000 in
set_option maxHeartbeats 4000000 in
theorem c_Covers {c : Cfg} (R : c.Ok) {n : Nat} (H : TblIn c.pg c.st n) (F : Nat → Prop) (p : Nat) (kn : Int → Option Int) (D : List KV) (x y : Int) (hx : W64 x) (w : World) (hv : ViewAt w F p kn D) (hk : OkK kn) (hD : InvD n D) :
    Calls Try.prog 18 #[.pointer (some ⟨p, 0, none⟩), .agg c.arr, .int .i64 x, .int .i64 y] w (WentV w F p kn (fun b => .bool b) (coversP c.pg c.st x y kn D)) := by
  obtain ⟨Rr, hRr⟩ : ∃ Rr, coversP c.pg c.st x y kn D = Rr := ⟨_, rfl⟩
  rw [hRr]
  refine (callsIn_wide (n := 3)).1 ?_
  refine callsIn_of_wpOf Try.func18 rfl trivial ?_ rfl
  simp only [Try.ntmps18, List.size_toArray, List.length_cons, List.length_nil, Nat.reduceAdd, Nat.reduceSub, Array.replicate_succ, Array.replicate_zero, List.push_toArray, List.append_toArray, List.nil_append, List.cons_append]
  refine wpOf_first ?_
  gi_wp2
  refine wpOf_seq ?_
  refine wpOf_first ?_
  obtain ⟨w3, e3, hb0, hb1, hb2, m3, s3⟩ := entry3 w (.cells #[.pointer (some ⟨p, 0, none⟩)] 36) (.cells c.arr 28) (.cells #[.bool false] 4)
  rw [e3]
  clear e3
  have hld3 : (loadVar 28 ⟨w.heap.size + 1, 0, none⟩).run Try.prog w3 = .ok (.agg c.arr) w3 := run_loadVar_row w3 _ _ _ _ _ _ hb1 Try.underlying28 rfl (by kernel_rfl)
  have HB0 := Lib.hid hb0
  have HB1 := Lib.hid hb1
  have HB2 := Lib.hid hb2
  clear hb0 hb1 hb2
  gi_wp2_with (first
    | ((with_reducible refine wpListIn_load_run ?_ 28 (.tmp 5) ?_ (w.heap.size + 1) ?_ (.agg c.arr) ?_ ?_); rfl; rfl; rfl; exact hld3)
    | ((with_reducible refine And.intro ?_ ?_); exact trivial; gi_at_call 50; refine (over_in _ x y _).mono ?_; rintro e w' ⟨rfl, rfl⟩))
  obtain ⟨hl, hp4, hp5⟩ := over_made c x y w3
  have m6 : More w3 (((w3.alloc (.cells c.arr 28)).alloc (.cells #[.int .i64 x] 3)).alloc (.cells #[.int .i64 y] 3)) := (((More.refl _).alloc _).alloc _).alloc _
  have s6 : (((w3.alloc (.cells c.arr 28)).alloc (.cells #[.int .i64 x] 3)).alloc (.cells #[.int .i64 y] 3)).heap.size = w.heap.size + 6 := by simp [s3]
  rw [s3] at hl hp4 hp5
  generalize ((w3.alloc (.cells c.arr 28)).alloc (.cells #[.int .i64 x] 3)).alloc (.cells #[.int .i64 y] 3) = w6 at hl hp4 hp5 m6 s6 ⊢
  have hc0 := m6.block HB0.out
  have hc1 := m6.block HB1.out
  have hc2 := m6.block HB2.out
  have m06 := m3.trans m6
  have hv6 := hv.more m06
  have hF := hv.lt
  have hF6 : ∀ k, F k → k < w6.heap.size := fun k q => by have := hF k q; omega
  have HR := Lib.hid R
  have HK := Lib.hid hk
  have HH := Lib.hid H
  have HT := Lib.hid (fun w => c_there (c := c) R x y hx w)
  have OE := Lib.hid (over_ends 2 (by omega) R x y hx (w.heap.size + 3) (w.heap.size + 3 + 1) (w.heap.size + 3 + 2) w6 hl hp4 hp5)
  have hR0 : (thereB c.pg x y = true → coversN c.pg c.st (roundsV c.pg x y) (x / 4) kn D = Rr) ∧ (thereB c.pg x y = false → Rr = .ok false D) := by
    unfold coversP at hRr
    unfold roundsV
    cases hth : thereB c.pg x y with
    | true => rw [hth] at hRr; exact ⟨fun _ => hRr, fun q => (by cases q)⟩
    | false => rw [hth] at hRr; exact ⟨fun q => (by cases q), fun _ => hRr.symm⟩
  have HR0 := Lib.hid hR0
  have ON0 := Lib.hid (OnV.begin (T := fun k => k = w.heap.size + 2) hv6 hD)
  clear hRr R hk H hl hp4 hp5 hv hv6 hD hx m3 s3 hld3 HB0 HB1 HB2 m6 hR0
  have HC0 := Lib.hid hc0
  have HC1 := Lib.hid hc1
  have HC2 := Lib.hid hc2
  clear hc0 hc1 hc2
  have hNT : ∀ k, k = w.heap.size + 2 → w.heap.size ≤ k := fun k q => by omega
  have hb6 : w.heap.size + 2 < w6.heap.size := by omega
  refine wpOf_block ?_
  refine range_of (N := roundsV c.pg x y) (gf := 81) (lb := #[.pointer (some ⟨w.heap.size + 3, 0, none⟩), .pointer (some ⟨w.heap.size + 3 + 1, 0, none⟩), .pointer (some ⟨w.heap.size + 3 + 2, 0, none⟩)]) Try.func18 rfl (by omega) rfl trivial (enters_of Try.func81 (by kernel_rfl) rfl) OE.out (More.refl _) (by rintro k (rfl | rfl | rfl) <;> omega) (fun _ => rfl)
    (fun i => LoopI w6 F (w.heap.size + 2) p 4 kn n (fun D' v => v = .bool false ∧ (thereB c.pg x y = true → coversN c.pg c.st (roundsV c.pg x y - i) (x / 4 + (i : Int)) kn D' = Rr) ∧ (thereB c.pg x y = false → D' = D)))
    (fun e _ => LoopX w6 F (w.heap.size + 2) p 4 kn n (fun a => Rr = .need a) (fun D' v => v = .bool false ∧ Rr = .ok false D') e)
    (fun i => loopI_books hF6 hb6 _) (fun e i => loopX_books hF6 hb6 _ _ e)
    ⟨F, D, _, ON0.out, HC2.out, rfl, fun h => by simpa using HR0.out.1 h, fun _ => rfl⟩
    (fun i => LoopA w6 F (w.heap.size + 2) p 4 kn n (fun D' v => v = .bool false ∧ (thereB c.pg x y = true → coversN c.pg c.st (roundsV c.pg x y - i) (x / 4 + (i : Int)) kn D' = Rr) ∧ (thereB c.pg x y = false → D' = D)) 84 (chkArr c (x / 4 + (i : Int)))
      (fun Bx => { tmps := #[.pointer (some ⟨p, 0, none⟩), .agg c.arr, .int .i64 x, .int .i64 y, .pointer (some ⟨w.heap.size, 0, none⟩), .pointer (some ⟨w.heap.size + 1, 0, none⟩), undef, undef, .pointer (some ⟨w.heap.size + 1 + 1, 0, none⟩), .pointer (some ⟨Bx, 0, none⟩), .agg c.arr, .int .i64 x, .int .i64 y, .func (.func 81) #[] #[.pointer (some ⟨w.heap.size + 3, 0, none⟩), .pointer (some ⟨w.heap.size + 3 + 1, 0, none⟩), .pointer (some ⟨w.heap.size + 3 + 2, 0, none⟩)], .agg (chkArr c (x / 4 + (i : Int))), undef, undef, undef, undef, undef, undef, undef, undef], defers := [] }))
    (fun i a' => loopA_books hF6 hb6 _ _ _ _ a') ?assign ?body ?done ?stop ?dies
  case assign =>
    rintro l i W K hi hsz ⟨F', D', v, h1, h2, h3⟩ hK
    obtain ⟨hx1, hm1⟩ := chk_boxed W c (x / 4 + (i : Int))
    gi_wp2_with ((with_reducible refine wpListIn_store_row ?_ 84 (.tmp 9) (.tmp 14) ?_ W.heap.size ?_ (chkArr c (x / 4 + (i : Int))) ?_ 84 chkZero ?_ ?_ ?_ ?_ ?_); rfl; rfl; rfl; rfl; exact heap_new W _; kernel_rfl; rfl; exact chk_one c _)
    refine hK _ _ (same_more hm1 (by rintro k (rfl | rfl) <;> omega)) (same_more hm1 (by rintro k (rfl | rfl | rfl) <;> omega)) ?_
    exact ⟨W.heap.size, F', D', v, hsz, fun q => by have := h1.view.lt _ q; omega, hx1, h1.more hm1, hm1.block h2, h3, rfl⟩
  case body =>
    rintro l i a' W hsz hi ⟨Bx, F', D', v, g0, g1, g2, g3, g4, ⟨rfl, g5, g6⟩, rfl⟩
    have hld := run_loadVar_row (P := Try.prog) W Bx _ 84 _ _ _ g2 Try.underlying84 rfl (by kernel_rfl)
    have hcv := (Turned.block g3.turn w.heap.size (by omega) (by rintro (q | q); have := hF _ q; omega; omega)).trans HC0.out
    have cv := (box_cells hcv).1
    have hth : thereB c.pg x y = true := by
      cases q : thereB c.pg x y with
      | true => rfl
      | false => unfold roundsV at hi; rw [q] at hi; simp at hi
    have hsem := g5 hth
    rw [show roundsV c.pg x y - i = (roundsV c.pg x y - (i + 1)) + 1 by omega] at hsem
    have hsem2 : bindP (mappedP c.pg c.st (x / 4 + (i : Int))) (fun b => if b then coversN c.pg c.st (roundsV c.pg x y - (i + 1)) (x / 4 + (i : Int) + 1) else pureP false) kn D' = Rr := hsem
    have IM := c_isMapped HR.out F' p kn D' (x / 4 + (i : Int)) W g3.view
    have G3 := Lib.hid g3
    have G4 := Lib.hid g4
    have HS := Lib.hid hsem2
    clear hcv hsem hsem2 g3 g4 g5 g6 g2
    gi_wp2_with ((with_reducible refine wpListIn_load_run ?_ 84 (.tmp 9) ?_ Bx ?_ (.agg (chkArr c (x / 4 + (i : Int)))) ?_ ?_); rfl; rfl; rfl; exact hld)
    refine ⟨trivial, ?_⟩
    gi_at_call 51
    refine (CallsIn.inRound l (callsIn_wide.2 IM)).mono ?_
    intro e W2 he
    cases hm : mappedP c.pg c.st (x / 4 + (i : Int)) kn D' with
    | need a =>
      rw [hm] at he
      obtain ⟨rfl, hend, ht⟩ := EndV.of G3.out (by omega) (More.refl W) he
      exact ⟨G3.out.same hF6 hsz ht, rfl, rfl, a, HS.out.symm.trans (bindP_need hm), hend⟩
    | ok b D1 =>
      rw [hm] at he
      have hI1 := ((good_mapped HH.out _).ok HK.out G3.out.inv hm).1
      obtain ⟨rfl, F1, hon, ht⟩ := G3.out.step hsz (More.refl W) he hI1
      have hbk := G3.out.same hF6 hsz ht
      have hbs := G3.out.sameS (S := fun k => k = w.heap.size + 3 ∨ k = w.heap.size + 3 + 1 ∨ k = w.heap.size + 3 + 2) (by rintro k (rfl | rfl | rfl) <;> exact ⟨by omega, fun q => by have := hF _ q; omega⟩) ht
      have hbr : W2.heap[w.heap.size + 2]? = some (.cells #[.bool false] 4 (0, 0)) := (Turned.block ht _ (by omega) (fun q => by rcases G3.out.from' _ q with r | r; have := hF _ r; omega; omega)).trans G4.out
      have hsem := (bindP_ok hm).symm.trans HS.out
      cases b with
      | true =>
        gi_wp2
        exact ⟨hbk, hbs, F1, D1, _, hon, hbr, rfl, fun _ => by rw [show x / 4 + ((i + 1 : Nat) : Int) = x / 4 + (i : Int) + 1 by omega]; exact hsem, fun q => by rw [hth] at q; cases q⟩
      | false =>
        obtain ⟨cr, fr, _⟩ := box_cells hbr
        have hon2 := hon.box (b := w.heap.size + 2) rfl (fun k q => by have := hF _ q; omega) (by omega) (.bool false) hbr (fun _ _ q => by cases q)
        have hbr2 := box_put (.bool false) hbr
        have e2 : w.heap.size + 1 + 1 = w.heap.size + 2 := rfl
        rw [← e2] at cr fr hon2 hbr2
        gi_wp2
        refine ⟨?_, F1, D1, _, hon2, hbr2, rfl, hsem.symm⟩
        exact hbk.trans (SameOn.turned (T := fun k => k = w.heap.size + 1 + 1) (Turned.setCell (Turned.refl _ W2) _ _ (fun _ => rfl)) (fun k q => by have := hon.turn.size; rcases q with q | q <;> (have := lt_of_heap hbr; have := ht.size; omega)) (fun k q r => by rcases q with q | q <;> omega))
  case done =>
    rintro W ⟨F', D', v, h1, h2, ⟨rfl, h4, h5⟩⟩ hdf
    have hR : Rr = .ok (thereB c.pg x y) D' := by
      cases q : thereB c.pg x y with
      | true => have := h4 q; rw [Nat.sub_self] at this; exact this.symm
      | false => rw [h5 q]; exact HR0.out.2 q
    have hcl := (Turned.block h1.turn (w.heap.size + 1) (by omega) (by rintro (q | q); have := hF _ q; omega; omega)).trans HC1.out
    have hld := run_loadVar_row (P := Try.prog) W (w.heap.size + 1) _ 28 _ _ _ hcl Try.underlying28 rfl (by kernel_rfl)
    have H1 := Lib.hid h1
    have H2 := Lib.hid h2
    have HD := Lib.hid hdf
    have HRR := Lib.hid hR
    clear h1 h2 h4 h5 hdf hR hcl
    refine wpOf_of ?_
    gi_wp2_with ((with_reducible refine wpListIn_load_run ?_ 28 (.tmp 5) ?_ (w.heap.size + 1) ?_ (.agg c.arr) ?_ ?_); rfl; rfl; rfl; exact hld)
    refine ⟨trivial, ?_⟩
    gi_at_call 52
    refine (callsIn_wide.2 (HT.out W)).mono ?_
    rintro e W3 ⟨rfl, m3⟩
    have hbr := m3.block H2.out
    obtain ⟨cr, fr, lr⟩ := box_cells hbr
    have e2 : w.heap.size + 1 + 1 = w.heap.size + 2 := rfl
    rw [← e2] at cr fr
    have hd4 : (W3.setCell ⟨w.heap.size + 1 + 1, 0, none⟩ (.bool (thereB c.pg x y))).heap[w6.heap.size]? = some (.deferred (some [])) := (Below.heap_setCell _ _ _ _ (by simp only; omega)).trans (m3.block HD.out)
    have hb4 := box_put (.bool (thereB c.pg x y)) hbr
    have t4 : Turned (fun k => k = w.heap.size + 2 ∨ k = w6.heap.size) W ((W3.setCell ⟨w.heap.size + 1 + 1, 0, none⟩ (.bool (thereB c.pg x y))).putObj w6.heap.size (.deferred none)) :=
      turned_put (Turned.setCell (Turned.mono m3 (fun _ _ q => q.elim)) _ _ (fun _ => .inl rfl)) _ _ (fun _ => .inr rfl)
    have hc5 : ((W3.setCell ⟨w.heap.size + 1 + 1, 0, none⟩ (.bool (thereB c.pg x y))).putObj w6.heap.size (.deferred none)).cell? ⟨w.heap.size + 1 + 1, 0, none⟩ = some (.bool (thereB c.pg x y)) :=
      (box_cells (b := w.heap.size + 1 + 1) ((World.putObj_heap_other (by omega)).trans hb4)).1
    have FIN := Lib.hid (onV_fin (val := fun b : Bool => Value.bool b) m06 hNT H1.out HRR.out t4 (fun k q => ⟨by rcases q with q | q <;> omega, fun r => by rcases H1.out.from' k r with s | s; have := hF _ s; omega; rcases q with q | q <;> omega⟩)
      (fun k es cl q r => by rcases q with rfl | rfl; rw [H2.out] at r; cases r; rw [HD.out] at r; cases r))
    clear t4 hbr hb4
    rw [s6] at hd4 hc5 FIN
    gi_wp2
    refine ⟨by simp, .inl ⟨_, _, rfl, run_takeDeferred hd4, ?_⟩⟩
    refine ⟨.bool (thereB c.pg x y), ?_, FIN.out⟩
    simp [results, Try.f18, go_sem, hc5]
  case stop =>
    rintro i e cc W hj hi hx hdf
    cases e with
    | ret =>
      cases hj
      obtain ⟨F', D', v, h1, h2, rfl, hR⟩ := hx
      have hc5 : (W.putObj w6.heap.size (.deferred none)).cell? ⟨w.heap.size + 1 + 1, 0, none⟩ = some (.bool false) := (box_cells (b := w.heap.size + 1 + 1) ((World.putObj_heap_other (by omega)).trans h2)).1
      have FIN := Lib.hid (onV_fin (S := fun k => k = w6.heap.size) (val := fun b : Bool => Value.bool b) m06 hNT h1 hR (turned_put (Turned.refl _ W) _ (.deferred none) (fun _ => rfl)) (fun k q => ⟨by omega, fun r => by rcases h1.from' k r with s | s; have := hF _ s; omega; omega⟩)
        (fun k es cl q r => by subst q; rw [hdf] at r; cases r))
      clear h1 h2 hR
      gi_wp2
      refine ⟨by simp, .inl ⟨_, _, rfl, run_takeDeferred hdf, ?_⟩⟩
      refine ⟨.bool false, ?_, FIN.out⟩
      simp [results, Try.f18, go_sem, hc5]
    | exit _ => exact hx.elim
    | goto _ => exact hx.elim
    | normal => cases hj
    | panic _ => cases hj
    | outgrown => cases hj
  case dies =>
    rintro i ch W hi ⟨rfl, a, hR, hend⟩ hdf
    exact ⟨by simp, .inl ⟨_, _, rfl, run_takeDeferred hdf, endV_fin m06 hNT (hend.put hdf rfl (Nat.le_refl _) _) hR⟩⟩
end Go.Proofs.Ytcjnkadmiflgaaa
