/-
  The statements' small configurations.
-/
import Derived.Test.YtahejbahnhohcaaDoorMdL
import Derived.Test.YtahejbahnhohcaaDoorLaySome
import Derived.OwnWalk
namespace Go.Proofs.YtahejbahnhohcaaDoor
open Go.RowKit Go.Sort
set_option linter.unusedVariables false
set_option linter.unusedSimpArgs false

theorem turned_own {F F' : Nat → Prop} {W w w' : World} (h : Turned F W w) (t : Turned F' w w') (n : ∀ k, F' k → F k ∨ W.heap.size ≤ k) : Turned F W w' :=
  ⟨t.os.trans h.os, t.tape.trans h.tape, t.output.trans h.output, Nat.le_trans h.size t.size, fun k hk hs => by
    rw [Turned.block t k (Nat.lt_of_lt_of_le hk h.size) (fun q => by rcases n k q with r | r; exact hs r; omega)]
    exact Turned.block h k hk hs⟩

section
variable {P : Program} {ops : Array Oper} {rest : List Oper} {o : Oper} {a : Act} {w : World} {Q : Exit → Act → World → Prop}
/-- A load of one cell. -/
theorem wpList_load_int (hw : Region.wanted o (yielded ops a.tmps) = true) (ty : TypeId) (x : Operand) (ho : o.op = .load ty x) (g i : Nat) (hx : a.eval x = .pointer (some ⟨g, i, none⟩)) (k : IntKind) (hu : P.underlying ty = some (.int k)) (v : Value) (hc : w.cell? ⟨g, i, none⟩ = some v)
    (h : wpList P ops Q rest (a.put o.dst v) w) : wpList P ops Q (o :: rest) a w :=
  wpList_wanted hw fun K hK => by
    have hr : (loadVar ty ⟨g, i, none⟩).run P w = .ok v w := run_loadVar_cell hu rfl hc
    unfold Oper.wp Oper.upon execOp
    simp only [ho, hx, Instr.loadAt, Instr.sureAddr, Sem.run_bind, Sem.run_pure, Result.andThen_ok, hr]
    exact hK _ _ h
/-- A store of one integer into a struct: the memory behind it. -/
theorem wpList_store_int (hw : Region.wanted o (yielded ops a.tmps) = true) (ty : TypeId) (x y : Operand) (ho : o.op = .store ty x y) (hd : o.dst = none) (g i : Nat) (hx : a.eval x = .pointer (some ⟨g, i, none⟩)) (z : Int) (hy : a.eval y = .int .i64 z) (cs : Array Value) (t : TypeId) (hg : w.heap[g]? = some (.cells cs t (0, 0))) (hi : i < cs.size) (hsz : (P.info? ty).map (·.size) = some 1)
    (h : ∀ w', w'.heap[g]? = some (.cells (cs.setIfInBounds i (.int .i64 z)) t (0, 0)) → Turned (fun k => k = g) w w' → wpList P ops Q rest a w') : wpList P ops Q (o :: rest) a w :=
  wpList_wanted hw fun K hK => by
    have hc : w.cell? ⟨g, i, none⟩ = some cs[i] := by rw [cell_of_row w g i cs t _ hg, Array.getElem?_eq_getElem hi]
    have hf : w.frozen? ⟨g, i, none⟩ = false := frozen_of_row w g i cs t hg
    have hs : (Instr.storeAt ty (.pointer (some ⟨g, i, none⟩)) (.int .i64 z)).run P w = .ok () (w.setCell ⟨g, i, none⟩ (.int .i64 z)) := by
      cases hq : P.info? ty with
      | none => rw [hq] at hsz; simp at hsz
      | some d =>
        rw [hq] at hsz
        have hs1 : d.size = 1 := by simpa using hsz
        simp [hc, hf, go_sem, sizeOf, typeInfo, hq, hs1]
    have := hK _ _ (h _ (heap_setCell (.int .i64 z) hg) (Turned.setCell (Turned.refl _ w) ⟨g, i, none⟩ (.int .i64 z) (fun _ => rfl)))
    unfold Oper.wp Oper.upon execOp
    simp only [ho, hx, hy, Sem.run_bind, Sem.run_pure, hs, Result.andThen_ok, hd]
    exact this
end

/-- A small configuration, of any one that may be. -/
def smallC (c : Cfg) : Cfg := { wk := 1 + c.wk % 4, cp := 1 + c.cp % 2, pg := 1 + c.pg % 9, st := 1 + c.st % 4, tr := c.tr, wt := c.wt, ck := c.ck, pr := 1 + c.pr % 3, ca := c.ca % 3, bi := c.bi % 4, ba := 1 + c.ba % 3 }
structure Cfg.Small (c : Cfg) : Prop where
  ok : c.Ok
  cp2 : c.cp ≤ 2
  pg9 : c.pg ≤ 9
  st4 : c.st ≤ 4
  ca2 : c.ca ≤ 2
  bi3 : c.bi ≤ 3
theorem small_small {c : Cfg} (R : c.Ok) : (smallC c).Small := by
  have h1 := R.wk1; have h2 := R.cp1; have h3 := R.pg1; have h4 := R.st1; have h5 := R.tr1; have h6 := R.tr2; have h7 := R.wt1; have h8 := R.wt2; have h9 := R.ck1; have h10 := R.ck2; have h11 := R.pr1; have h12 := R.ca1; have h13 := R.bi1; have h14 := R.ba1
  unfold smallC
  refine ⟨?_, ?_, ?_, ?_, ?_, ?_⟩ <;> try (show _ ≤ _; simp only; omega)
  constructor <;> (simp only; omega)
theorem Cfg.Small.words {c : Cfg} (S : c.Small) : 160 ≤ c.words ∧ c.words ≤ 800 := by
  have hb := wordsB S.ok
  refine ⟨hb.1, ?_⟩
  have h1 := S.cp2; have h2 := S.pg9; have h3 := S.st4; have h4 := S.ca2; have h5 := S.bi3
  have c0 := S.ok.cp1; have c1 := S.ok.ca1; have c2 := S.ok.bi1; have c3 := S.ok.pg1
  have pb : c.cp * (c.ca + 1) ≤ 2 * 3 := Int.mul_le_mul h1 (by omega) (by omega) (by omega)
  have pa : 5 * c.cp * (c.ca + 1) = 5 * (c.cp * (c.ca + 1)) := by rw [Int.mul_assoc]
  unfold Cfg.words wordsV userV liveV binsV cachesV headsV tableV chunksV
  rw [pa]
  omega
set_option maxRecDepth 100000 in
set_option maxHeartbeats 2000000 in
theorem small_any {c : Cfg} (R : c.Ok) (y0 y1 y2 y3 y4 y5 y6 y7 y8 y9 y10 : Int) (v : Value) (w : World) (hS : ∀ W, Calls Tryd.prog 48 #[v] W (Gives W (.agg #[.int .i64 c.wk, .int .i64 c.cp, .int .i64 c.pg, .int .i64 c.st, .int .i64 c.tr, .int .i64 c.wt, .int .i64 c.ck, .int .i64 c.pr, .int .i64 c.ca, .int .i64 c.bi, .int .i64 c.ba]))) (hv : v = .agg #[.int .i64 y0, .int .i64 y1, .int .i64 y2, .int .i64 y3, .int .i64 y4, .int .i64 y5, .int .i64 y6, .int .i64 y7, .int .i64 y8, .int .i64 y9, .int .i64 y10]) :
    Calls Tryd.prog 33 #[v] w (Gives w (.agg (smallC c).cells)) := by
  have h1 := R.wk1; have h2 := R.cp1; have h3 := R.pg1; have h4 := R.st1; have h11 := R.pr1; have h12 := R.ca1; have h13 := R.bi1; have h14 := R.ba1
  have g1 := R.wk2; have g2 := R.cp2; have g3 := R.pg2; have g4 := R.st2; have g11 := R.pr2; have g12 := R.ca2; have g13 := R.bi2; have g14 := R.ba2
  have t0 : c.wk.tmod 4 = c.wk % 4 := Int.tmod_eq_emod_of_nonneg (by omega)
  have t1 : c.cp.tmod 2 = c.cp % 2 := Int.tmod_eq_emod_of_nonneg (by omega)
  have t2 : c.pg.tmod 9 = c.pg % 9 := Int.tmod_eq_emod_of_nonneg (by omega)
  have t3 : c.st.tmod 4 = c.st % 4 := Int.tmod_eq_emod_of_nonneg (by omega)
  have t7 : c.pr.tmod 3 = c.pr % 3 := Int.tmod_eq_emod_of_nonneg (by omega)
  have t8 : c.ca.tmod 3 = c.ca % 3 := Int.tmod_eq_emod_of_nonneg (by omega)
  have t9 : c.bi.tmod 4 = c.bi % 4 := Int.tmod_eq_emod_of_nonneg (by omega)
  have t10 : c.ba.tmod 3 = c.ba % 3 := Int.tmod_eq_emod_of_nonneg (by omega)
  have q0 : IntKind.i64.wrap (1 + c.wk % 4) = 1 + c.wk % 4 := wrap_in (by omega) (by omega)
  have q1 : IntKind.i64.wrap (1 + c.cp % 2) = 1 + c.cp % 2 := wrap_in (by omega) (by omega)
  have q2 : IntKind.i64.wrap (1 + c.pg % 9) = 1 + c.pg % 9 := wrap_in (by omega) (by omega)
  have q3 : IntKind.i64.wrap (1 + c.st % 4) = 1 + c.st % 4 := wrap_in (by omega) (by omega)
  have q7 : IntKind.i64.wrap (1 + c.pr % 3) = 1 + c.pr % 3 := wrap_in (by omega) (by omega)
  have q10 : IntKind.i64.wrap (1 + c.ba % 3) = 1 + c.ba % 3 := wrap_in (by omega) (by omega)
  have HS := Lib.hid hS
  clear hS R h1 h2 h3 h4 h11 h12 h13 h14 g1 g2 g3 g4 g11 g12 g13 g14
  subst hv
  have HA0 := Lib.hid (row_new w #[.int .i64 y0, .int .i64 y1, .int .i64 y2, .int .i64 y3, .int .i64 y4, .int .i64 y5, .int .i64 y6, .int .i64 y7, .int .i64 y8, .int .i64 y9, .int .i64 y10] 23)
  have HA : Hid (((w.alloc (.cells #[.int .i64 y0, .int .i64 y1, .int .i64 y2, .int .i64 y3, .int .i64 y4, .int .i64 y5, .int .i64 y6, .int .i64 y7, .int .i64 y8, .int .i64 y9, .int .i64 y10] 23)).alloc (.cells #[.int .i64 0, .int .i64 0, .int .i64 0, .int .i64 0, .int .i64 0, .int .i64 0, .int .i64 0, .int .i64 0, .int .i64 0, .int .i64 0, .int .i64 0] 23)).heap[w.heap.size]? = some (.cells #[.int .i64 y0, .int .i64 y1, .int .i64 y2, .int .i64 y3, .int .i64 y4, .int .i64 y5, .int .i64 y6, .int .i64 y7, .int .i64 y8, .int .i64 y9, .int .i64 y10] 23 (0, 0))) := ((More.refl _).alloc _).block HA0.out
  have HZ0 : Hid (((w.alloc (.cells #[.int .i64 y0, .int .i64 y1, .int .i64 y2, .int .i64 y3, .int .i64 y4, .int .i64 y5, .int .i64 y6, .int .i64 y7, .int .i64 y8, .int .i64 y9, .int .i64 y10] 23)).alloc (.cells #[.int .i64 0, .int .i64 0, .int .i64 0, .int .i64 0, .int .i64 0, .int .i64 0, .int .i64 0, .int .i64 0, .int .i64 0, .int .i64 0, .int .i64 0] 23)).heap[w.heap.size + 1]? = some (.cells #[.int .i64 0, .int .i64 0, .int .i64 0, .int .i64 0, .int .i64 0, .int .i64 0, .int .i64 0, .int .i64 0, .int .i64 0, .int .i64 0, .int .i64 0] 23 (0, 0))) := by
    have := row_new (w.alloc (.cells #[.int .i64 y0, .int .i64 y1, .int .i64 y2, .int .i64 y3, .int .i64 y4, .int .i64 y5, .int .i64 y6, .int .i64 y7, .int .i64 y8, .int .i64 y9, .int .i64 y10] 23)) #[.int .i64 0, .int .i64 0, .int .i64 0, .int .i64 0, .int .i64 0, .int .i64 0, .int .i64 0, .int .i64 0, .int .i64 0, .int .i64 0, .int .i64 0] 23
    rwa [World.size_alloc] at this
  have HM : Hid (More w ((w.alloc (.cells #[.int .i64 y0, .int .i64 y1, .int .i64 y2, .int .i64 y3, .int .i64 y4, .int .i64 y5, .int .i64 y6, .int .i64 y7, .int .i64 y8, .int .i64 y9, .int .i64 y10] 23)).alloc (.cells #[.int .i64 0, .int .i64 0, .int .i64 0, .int .i64 0, .int .i64 0, .int .i64 0, .int .i64 0, .int .i64 0, .int .i64 0, .int .i64 0, .int .i64 0] 23))) := ((More.refl w).alloc _).alloc _
  go_enter Tryd.func33, Tryd.ntmps33
  go_wp2_with (refine wpList_load_row rfl 23 _ rfl _ rfl 23 _ _ _ HA.out Tryd.underlying23 rfl (by kernel_rfl) ?_)
  refine (HS.out _).mono ?_
  rintro e w4 ⟨rfl, m4⟩
  have HB4 := Lib.hid (setRow_heap w4 w.heap.size _ #[.int .i64 c.wk, .int .i64 c.cp, .int .i64 c.pg, .int .i64 c.st, .int .i64 c.tr, .int .i64 c.wt, .int .i64 c.ck, .int .i64 c.pr, .int .i64 c.ca, .int .i64 c.bi, .int .i64 c.ba] _ _ (m4.block HA.out))
  have HZ4 : Hid ((w4.setRow w.heap.size #[.int .i64 c.wk, .int .i64 c.cp, .int .i64 c.pg, .int .i64 c.st, .int .i64 c.tr, .int .i64 c.wt, .int .i64 c.ck, .int .i64 c.pr, .int .i64 c.ca, .int .i64 c.bi, .int .i64 c.ba]).heap[w.heap.size + 1]? = _) := Lib.hid ((setRow_other w4 w.heap.size (w.heap.size + 1) #[.int .i64 c.wk, .int .i64 c.cp, .int .i64 c.pg, .int .i64 c.st, .int .i64 c.tr, .int .i64 c.wt, .int .i64 c.ck, .int .i64 c.pr, .int .i64 c.ca, .int .i64 c.bi, .int .i64 c.ba] (by omega)).trans (m4.block HZ0.out))
  have HM4 : Hid (More w (w4.setRow w.heap.size #[.int .i64 c.wk, .int .i64 c.cp, .int .i64 c.pg, .int .i64 c.st, .int .i64 c.tr, .int .i64 c.wt, .int .i64 c.ck, .int .i64 c.pr, .int .i64 c.ca, .int .i64 c.bi, .int .i64 c.ba])) := (HM.out.trans m4).setRow _ _ (Nat.le_refl _)
  have HX4 := Lib.hid (m4.block HA.out)
  clear m4
  have hw1 : w.heap.size + 1 < (w4.setRow w.heap.size #[.int .i64 c.wk, .int .i64 c.cp, .int .i64 c.pg, .int .i64 c.st, .int .i64 c.tr, .int .i64 c.wt, .int .i64 c.ck, .int .i64 c.pr, .int .i64 c.ca, .int .i64 c.bi, .int .i64 c.ba]).heap.size := lt_of_heap HZ4.out
  go_wp2_with (first
    | (refine wpList_store_row rfl 23 _ _ rfl _ _ rfl rfl 23 _ HX4.out (by kernel_rfl) rfl (by simp [Value.oneCell']) ?_; generalize w4.setRow w.heap.size #[.int .i64 c.wk, .int .i64 c.cp, .int .i64 c.pg, .int .i64 c.st, .int .i64 c.tr, .int .i64 c.wt, .int .i64 c.ck, .int .i64 c.pr, .int .i64 c.ca, .int .i64 c.bi, .int .i64 c.ba] = w5 at HB4 HZ4 HM4 hw1 ⊢; have HB := HB4; have HZ := HZ4; have HT := HM4; clear HX4 HB4 HZ4 HM4)
    | (refine wpList_load_int rfl 3 _ rfl w.heap.size _ rfl .i64 Tryd.underlying3 _ (cell_more HB.out (More.refl _) rfl) ?_)
    | (refine wpList_store_int rfl 3 _ _ rfl rfl w.heap.size _ rfl _ rfl _ _ HB.out (by simp) (by kernel_rfl) ?_; intro w6 hb6 ht6; simp only [List.setIfInBounds_toArray, List.set_cons_zero, List.set_cons_succ] at hb6; have HZ := Lib.hid ((Turned.block ht6 (w.heap.size + 1) (lt_of_heap HZ.out) (by omega)).trans HZ.out); have HT : Hid (More w w6) := Lib.hid (Turned.mono (turned_own (F := fun _ => False) HT.out ht6 (fun k q => .inr (by omega))) (fun _ _ q => q)); have HB := Lib.hid hb6; clear hb6 ht6)
    | (refine wpList_load_row rfl 23 _ rfl _ rfl 23 _ _ _ HB.out Tryd.underlying23 rfl (by kernel_rfl) ?_)
    | (refine wpList_store_row rfl 23 _ _ rfl _ _ rfl rfl 23 _ HZ.out (by kernel_rfl) rfl (by simp [Value.oneCell']) ?_))
  refine bodyPost_ret (v := .agg (smallC c).cells) (results_cell_row Tryd.results33 _ _ _ 23 _ (0, 0) _ rfl (setRow_heap _ _ _ _ _ _ HZ.out) Tryd.underlying23 rfl (by kernel_rfl)) rfl ⟨rfl, ?_⟩
  exact HT.out.setRow _ _ (by omega)
end Go.Proofs.YtahejbahnhohcaaDoor
