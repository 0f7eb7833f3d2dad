/-
  The landed model: New.
-/
import Derived.Test.YtahejbahnhohcaaDoorMdA
import Derived.Test.YtahejbahnhohcaaDoorRegI
namespace Go.Proofs.YtahejbahnhohcaaDoor
open Go.RowKit Go.Sort
set_option linter.unusedVariables false
set_option linter.unusedSimpArgs false

def Cfg.arg (c : Cfg) : Value := .agg c.cells
section
variable {P : Program} {o : Oper} {a : Act} {w : World} {K : Act → World → Prop} {Q : Exit → Act → World → Prop}
theorem wp_callm0 {f : Nat} {ts : Array TypeId} (ho : o.op = .call { callee := .value (.func f), args := #[], argTypes := ts }) (he : ∀ (vs : Array Value) (w : World), Sem.run P (callFunc f vs) w = .ok (.enter f vs) w)
    (h : Calls P f #[] w (fun | .returned v, w'' => K (a.put o.dst v) w'' | .panicked ch, w'' => Q (.panic ch) a w'' | .outgrown, _ => LetsOut Q)) : o.wp P a w K Q := wp_callz0 ho he h
theorem wp_make {t e : TypeId} {x : Operand} (ho : o.op = .makeSlice t x x) {n : Nat} {L : Int} (hx : a.eval x = .int .i64 L) (hL : L = (n : Int)) (i : TypeInfo) (z : Value) (h1 : P.underlying t = some (.slice e)) (h2 : P.info? e = some i) (h3 : i.zero = some z) (h4 : i.size = 1) (b2 : i.bytes * n ≤ 281474976710656) (b3 : n ≤ maxLen)
    (h : ∀ w', w'.ownsRow w.heap.size e 1 (.slice (some ⟨w.heap.size, 0, none⟩) n n) n (madeCells z.cells (n * 1)).toList → w.grownBy w' none → K (a.put o.dst (.slice (some ⟨w.heap.size, 0, none⟩) n n)) w') : o.wp P a w K Q := by
  obtain ⟨w', hrun, r1, r2⟩ := run_make_full (P := P) (w := w) w.heap.size t e i z 1 h1 h2 h3 h4 .i64 .i64 n b2 b3 (Nat.le_refl _)
  subst hL
  unfold Oper.wp Oper.upon
  generalize hρ : a.eval = ρ at hx ⊢
  simp [execOp, ho, hx, hrun, Result.andThen, Sem.run_bind]
  exact h w' r1 r2
theorem wp_callr1 {f : Nat} {x0 : Operand} {v0 : Value} {ts : Array TypeId} (ho : o.op = .call { callee := .value (.func f), args := #[x0], argTypes := ts }) (h0 : a.eval x0 = v0) (he : ∀ (vs : Array Value) (w : World), Sem.run P (callFunc f vs) w = .ok (.enter f vs) w)
    (h : Calls P f #[v0] w (fun | .returned v, w'' => K (a.put o.dst v) w'' | .panicked ch, w'' => Q (.panic ch) a w'' | .outgrown, _ => LetsOut Q)) : o.wp P a w K Q := wp_callz1 ho h0 he h
/-- A struct put into a block of its own. -/
theorem wp_boxr {ty : TypeId} {x : Operand} (ho : o.op = .box ty x) (cs : Array Value) (hx : a.eval x = .agg cs)
    (h : K (a.put o.dst (.pointer (some ⟨w.heap.size, 0, none⟩))) (w.alloc (.cells cs ty))) : o.wp P a w K Q := by
  unfold Oper.wp Oper.upon execOp
  simp only [ho, hx]
  exact h
end
set_option maxRecDepth 100000 in
theorem built_md (c : Cfg) (q g n cap : Nat) : Tryd.prog.built 68 [(0, .agg c.arr), (1, .pointer (some ⟨q, 0, none⟩)), (2, .slice (some ⟨g, 0, none⟩) n cap)] = some (mdArr c q g n cap) := by kernel_rfl
theorem yieldsC_md {ops : Array Oper} {C : World → Prop} {o : Oper} {a : Act} (hw : Region.wanted o (yielded ops a.tmps) = true) (x0 x1 x2 : Operand) (ho : o.op = .build 68 #[(0, x0), (1, x1), (2, x2)]) (c : Cfg) (q g n cap : Nat)
    (h0 : a.eval x0 = .agg c.arr) (h1 : a.eval x1 = .pointer (some ⟨q, 0, none⟩)) (h2 : a.eval x2 = .slice (some ⟨g, 0, none⟩) n cap) : YieldsC Tryd.prog ops C o (.agg (mdArr c q g n cap)) a := by
  refine .inl ⟨hw, fun w _ => ?_⟩
  unfold execOp
  generalize a.eval = ρ at h0 h1 h2 ⊢
  simp only [ho, List.map_toArray, List.map_cons, List.map_nil, h0, h1, h2]
  simp [run_build w _ _ _ (built_md c q g n cap), Sem.run_bind, Result.andThen]
theorem results_two {P : Program} {fn : Func} {u v : Tmp} (h : fn.results = #[.tmp u, .tmp v]) (tmps : Array Value) (w : World) : (results fn tmps).run P w = .ok (.tuple #[tmps.getD u undef, tmps.getD v undef]) w := by
  simp only [results, h]
  simp [Sem.run_bind, Result.andThen]
theorem md_zeros (n : Nat) : (madeCells (Value.int .i64 0).cells (n * 1)).toList = (List.replicate n 0).map (Value.int .i64) := by
  apply List.ext_getElem
  · simp [size_madeCells]
  · intro i h1 h2
    simp [madeCells, Value.cells, Nat.mod_one]
theorem md_lt {w : World} {b g n c : Nat} {e : TypeId} {xs : List Value} (h : w.ownsRow b e 1 (.slice (some ⟨g, 0, none⟩) n c) n xs) : g < w.heap.size := by
  rcases h.2 with ⟨h, _⟩ | ⟨g', cap, cur, h, _, hg, _⟩
  · cases h
  · cases h; exact lt_of_heap hg
theorem md_row {w w' : World} {b g n c : Nat} {e : TypeId} {xs : List Value} (h : w.ownsRow b e 1 (.slice (some ⟨g, 0, none⟩) n c) n xs) (m : More w w') : RowAt w' e xs (some ⟨g, 0, none⟩) c := by
  obtain ⟨a', cap', hv, hr, _⟩ := RowAt.of_own h
  cases hv
  exact hr.keep m (fun _ _ q => q)
set_option maxRecDepth 100000 in
set_option maxHeartbeats 2000000 in
theorem md_new {c : Cfg} (R : c.Ok) (n : Nat) (hn : (n : Int) = 32 * c.pg) (w : World) : Calls Tryd.prog 6 #[.agg c.cells] w fun e w' => ∃ F p, e = .returned (.tuple #[.pointer (some ⟨p, 0, none⟩), .int .i64 0]) ∧ MdAt w' F p c [] (List.replicate n 0) ∧ More w w' ∧ ∀ k, F k → w.heap.size ≤ k := by
  obtain ⟨w1, e1, h1, m1, s1⟩ := entry1 w (.cells c.cells 23)
  have HC := Lib.hid h1
  have M1 := Lib.hid m1
  have HO := Lib.hid (fun W => of_right c.wk c.cp c.pg c.st c.tr c.wt c.ck c.pr c.ca c.bi c.ba W R)
  obtain ⟨i0, hi0, hz0, hz1, hz2⟩ := info_int
  have hpb := us_b R
  have HSUB : Hid (IntKind.i64.wrap (wordsV c.cp c.pg c.st c.ca c.bi - userV c.cp c.pg c.st c.ca c.bi) = (n : Int)) := Lib.hid (by
    have h1 : wordsV c.cp c.pg c.st c.ca c.bi = userV c.cp c.pg c.st c.ca c.bi + 32 * c.pg := rfl
    rw [h1, wrap_in (by omega) (by omega)]; omega)
  have hn1 : n ≤ 8192 := by omega
  have HBY : i0.bytes * n ≤ 281474976710656 := by rw [hz2]; omega
  have HML : n ≤ maxLen := by unfold maxLen; omega
  have HN := Lib.hid hn
  have R' := R
  clear h1 m1 hpb hn hn1
  go_enter Tryd.func6, Tryd.ntmps6
  go_wp2_with (refine wpList_load_row rfl 23 _ rfl _ rfl 23 _ _ _ (HC.out) Tryd.underlying23 rfl (by kernel_rfl) ?_)
  refine (HO.out _).mono ?_
  rintro e w2 ⟨rfl, h2⟩
  obtain ⟨w3, e3, h3, m3, s3⟩ := entry1 w2 (.cells #[.int .i64 0, .int .i64 0, .int .i64 0, .int .i64 0, .int .i64 0, .int .i64 0, .int .i64 0, .int .i64 0, .int .i64 0, .int .i64 0, .int .i64 0, .int .i64 0, .int .i64 0, .int .i64 0, .int .i64 0, .int .i64 0, .int .i64 0, .int .i64 0, .int .i64 0, .int .i64 0, .int .i64 0, .int .i64 0, .int .i64 0, .int .i64 0] 49)
  have HL3 := Lib.hid h3
  have hl : layArr c.wk c.cp c.pg c.st c.tr c.wt c.ck c.pr c.ca c.bi c.ba (startsV c.cp c.pg c.st c.ca c.bi) = c.arr := rfl
  rw [hl]
  clear hl
  go_wp2_with (refine wpList_store_row rfl 49 _ _ rfl _ _ rfl rfl 49 _ HL3.out (by kernel_rfl) rfl (layArr_one ..) ?_)
  have H4 := Lib.hid (setRow_heap w3 _ _ c.arr _ _ h3)
  have M4 : Hid (More w (w3.setRow w2.heap.size c.arr)) := Lib.hid (((M1.out.trans h2).trans m3).setRow _ _ (Nat.le_trans M1.out.size h2.size))
  have g0 : w.heap.size < w2.heap.size := by have := h2.size; omega
  clear h2 h3 m3 s3 e3 HL3
  generalize w3.setRow w2.heap.size c.arr = w4 at H4 M4 ⊢
  generalize w2.heap.size = gl at H4 g0 ⊢
  refine wp_region_anyC (fun W => W.heap[gl]? = some (.cells c.arr 49 (0, 0))) (by kernel_rfl) ?_
  change anyC _ _ _ _ _ _ _ _ (w4.drewN 1)
  have H5 := Lib.hid (((More.refl w4).drewN 1).block H4.out)
  have M5 := Lib.hid (M4.out.trans ((More.refl w4).drewN 1))
  clear H4 M4
  generalize w4.drewN 1 = w5 at H5 M5 ⊢
  generalize hA : Act.mk _ _ = A
  have HF : AG 24 A [(4, .pointer (some ⟨gl, 0, none⟩))] := by
    rw [← hA]
    refine ⟨⟨Nat.le_of_ble_eq_true rfl, rfl⟩, ?_⟩
    intro z hz; simp only [List.mem_cons, List.not_mem_nil, or_false] at hz; rcases hz with rfl <;> rfl
  refine anyC_start (fun a W => ∃ F p, AG 24 a [(3, .int .i64 0), (2, .pointer (some ⟨p, 0, none⟩))] ∧ MdAt W F p c [] (List.replicate n 0) ∧ More w W ∧ ∀ k, F k → w.heap.size ≤ k) (fun _ => False) [] (fun a W hd h => h.elim) (fun _ _ _ _ _ h => h) ?_ ?_
  · rintro a W ⟨F, p, ha, hm, hM, hN⟩
    go_wp2_with fail
    have h3 : a.tmps.getD 3 undef = .int .i64 0 := ha.get 0 rfl
    have h2 : a.tmps.getD 2 undef = .pointer (some ⟨p, 0, none⟩) := ha.get 1 rfl
    refine bodyPost_ret (v := .tuple #[.pointer (some ⟨p, 0, none⟩), .int .i64 0]) ?_ ha.1.2 ⟨F, p, rfl, hm, hM, hN⟩
    have hr := Tryd.results6
    rw [results_two hr, h2, h3]
  intro QQ FINE FIND FINQ
  clear hA
  refine anyC_takeD (i := 0) (v := .agg c.arr) (some 14) rfl rfl (by kernel_rfl) (by kernel_rfl) (by kernel_rfl) (fun c a w => FINQ c a _ _ w) H5.out (by exact yieldsC_row (C := (fun W => W.heap[gl]? = some (.cells c.arr 49 (0, 0)))) (wanted_none rfl) 49 _ rfl gl (HF.get 0 rfl) 49 _ _ _ (fun W hW => hW) Tryd.underlying49 rfl (by kernel_rfl)) ?_
  replace HF := HF.put 14 (.agg c.arr) (by decide) rfl
  generalize Act.put _ _ _ = A at HF ⊢
  refine anyC_takeD (i := 2) (v := .agg c.arr) (some 16) rfl rfl (by kernel_rfl) (by kernel_rfl) (by kernel_rfl) (fun c a w => FINQ c a _ _ w) H5.out (by exact yieldsC_row (C := (fun W => W.heap[gl]? = some (.cells c.arr 49 (0, 0)))) (wanted_none rfl) 49 _ rfl gl (HF.get 1 rfl) 49 _ _ _ (fun W hW => hW) Tryd.underlying49 rfl (by kernel_rfl)) ?_
  replace HF := HF.put 16 (.agg c.arr) (by decide) rfl
  generalize Act.put _ _ _ = A at HF ⊢
  refine anyC_takeD (i := 4) (v := .agg c.arr) (some 18) rfl rfl (by kernel_rfl) (by kernel_rfl) (by kernel_rfl) (fun c a w => FINQ c a _ _ w) H5.out (by exact yieldsC_row (C := (fun W => W.heap[gl]? = some (.cells c.arr 49 (0, 0)))) (wanted_none rfl) 49 _ rfl gl (HF.get 2 rfl) 49 _ _ _ (fun W hW => hW) Tryd.underlying49 rfl (by kernel_rfl)) ?_
  replace HF := HF.put 18 (.agg c.arr) (by decide) rfl
  generalize Act.put _ _ _ = A at HF ⊢
  refine anyC_oneK (i := 1) (some 15) (by kernel_rfl) rfl (wanted_none rfl) rfl (fun K hK => ?_)
  refine wp_callz0 rfl (enters_of Tryd.func20 (by kernel_rfl) rfl) ?_
  refine (b_new_ok w5).mono ?_
  rintro e w6 ⟨F1, q, rfl, hq, h6, n6⟩
  have H6 := Lib.hid (h6.block H5.out)
  have M6 := Lib.hid (M5.out.trans h6)
  have Q6 := Lib.hid hq
  have N6 := Lib.hid (fun k (hk : F1 k) => Nat.le_trans M5.out.size (n6 k hk))
  clear hq h6 n6
  refine hK _ _ H6.out ?_
  clear hK K
  replace HF := HF.put 15 (.pointer (some ⟨q, 0, none⟩)) (by decide) rfl
  generalize Act.put _ _ _ = A at HF ⊢
  refine anyC_oneK (i := 3) (some 17) (by kernel_rfl) rfl (wanted_none rfl) rfl (fun K hK => ?_)
  refine wp_callz1 rfl (HF.get 2 rfl) (enters_of Tryd.func16 (by kernel_rfl) rfl) ?_
  refine (xwords R w6).mono ?_
  rintro e w7 ⟨rfl, h7⟩
  have H7 := Lib.hid (h7.block H6.out)
  have M7 := Lib.hid (M6.out.trans h7)
  have Q7 := Lib.hid (Q6.out.more h7)
  clear h7
  refine hK _ _ H7.out ?_
  clear hK K
  replace HF := HF.put 17 (.int .i64 (wordsV c.cp c.pg c.st c.ca c.bi)) (by decide) rfl
  generalize Act.put _ _ _ = A at HF ⊢
  refine anyC_oneK (i := 5) (some 19) (by kernel_rfl) rfl (wanted_none rfl) rfl (fun K hK => ?_)
  refine wp_callz1 rfl (HF.get 2 rfl) (enters_of Tryd.func15 (by kernel_rfl) rfl) ?_
  refine (xuser R w7).mono ?_
  rintro e w8 ⟨rfl, h8⟩
  have H8 := Lib.hid (h8.block H7.out)
  have M8 := Lib.hid (M7.out.trans h8)
  have Q8 := Lib.hid (Q7.out.more h8)
  clear h8
  refine hK _ _ H8.out ?_
  clear hK K
  replace HF := HF.put 19 (.int .i64 (userV c.cp c.pg c.st c.ca c.bi)) (by decide) rfl
  generalize Act.put _ _ _ = A at HF ⊢
  refine anyC_takeD (i := 6) (v := .int .i64 (n : Int)) (some 20) rfl rfl (by kernel_rfl) (by kernel_rfl) (by kernel_rfl) (fun c a w => FINQ c a _ _ w) H8.out (by exact yieldsC_subI (wanted_none rfl) rfl (HF.get 1 rfl) (HF.get 0 rfl) _ HSUB.out) ?_
  replace HF := HF.put 20 (.int .i64 (n : Int)) (by decide) rfl
  generalize Act.put _ _ _ = A at HF ⊢
  refine anyC_oneK (i := 7) (some 21) (by kernel_rfl) rfl (wanted_none rfl) rfl (fun K hK => ?_)
  refine wp_make (n := n) rfl (HF.get 0 rfl) rfl i0 (.int .i64 0) Tryd.underlying66 hi0 hz0 hz1 HBY HML ?_
  intro w9 hown hgrow
  have h9 : More w8 w9 := ⟨hgrow.os, hgrow.tape, hgrow.output, hgrow.size, fun k hk _ => hgrow.block k hk (by simp)⟩
  have H9 := Lib.hid (h9.block H8.out)
  have M9 := Lib.hid (M8.out.trans h9)
  have Q9 := Lib.hid (Q8.out.more h9)
  have W9 := Lib.hid hown
  have S9 := h9.size
  clear hown hgrow h9
  refine hK _ _ H9.out ?_
  clear hK K
  replace HF := HF.put 21 (.slice (some ⟨w8.heap.size, 0, none⟩) n n) (by decide) rfl
  generalize Act.put _ _ _ = A at HF ⊢
  refine anyC_takeD (i := 8) (v := .agg (mdArr c q w8.heap.size n n)) (some 22) rfl rfl (by kernel_rfl) (by kernel_rfl) (by kernel_rfl) (fun c a w => FINQ c a _ _ w) H9.out (by exact yieldsC_md (wanted_none rfl) _ _ _ rfl c q w8.heap.size n n (HF.get 7 rfl) (HF.get 4 rfl) (HF.get 0 rfl)) ?_
  replace HF := HF.put 22 (.agg (mdArr c q w8.heap.size n n)) (by decide) rfl
  generalize Act.put _ _ _ = A at HF ⊢
  refine anyC_oneK (i := 9) (some 23) (by kernel_rfl) rfl (wanted_none rfl) rfl (fun K hK => ?_)
  refine wp_boxr rfl _ (HF.get 0 rfl) ?_
  have h10 : More w9 (w9.alloc (.cells (mdArr c q w8.heap.size n n) 68)) := (More.refl _).alloc _
  have H10 := Lib.hid (h10.block H9.out)
  refine hK _ _ H10.out ?_
  clear hK K
  replace HF := HF.put 23 (.pointer (some ⟨w9.heap.size, 0, none⟩)) (by decide) rfl
  generalize Act.put _ _ _ = A at HF ⊢
  refine anyC_takeD (i := 10) (v := .pointer (some ⟨w9.heap.size, 0, none⟩)) (some 2) rfl rfl (by kernel_rfl) (by kernel_rfl) (by kernel_rfl) (fun c a w => FINQ c a _ _ w) H10.out (by exact yieldsC_assign (wanted_none rfl) _ rfl (HF.get 0 rfl)) ?_
  replace HF := HF.put 2 (.pointer (some ⟨w9.heap.size, 0, none⟩)) (by decide) rfl
  generalize Act.put _ _ _ = A at HF ⊢
  refine anyC_takeD (i := 11) (v := .int .i64 0) (some 3) rfl rfl (by kernel_rfl) (by kernel_rfl) (by kernel_rfl) (fun c a w => FINQ c a _ _ w) H10.out (by exact yieldsC_assign (wanted_none rfl) _ rfl rfl) ?_
  replace HF := HF.put 3 (.int .i64 0) (by decide) rfl
  generalize Act.put _ _ _ = A at HF ⊢
  have hz : (madeCells (Value.int .i64 0).cells (n * 1)).toList = (List.replicate n 0).map (Value.int .i64) := md_zeros n
  have hw := W9.out
  rw [hz] at hw
  have hb9 : w8.heap.size < w9.heap.size := md_lt hw
  refine anyC_done (by kernel_rfl) (FINE _ _ ⟨fun k => w.heap.size ≤ k ∧ k ≤ w9.heap.size, w9.heap.size, HF.sub (by intro z hz; simp at hz ⊢; rcases hz with rfl | rfl <;> simp), ?_⟩)
  refine ⟨⟨R', Bk.nil _ _, by rw [List.length_replicate]; exact HN.out, fun k hk => by simp; omega, q, w8.heap.size, n, F1, ?_, Q9.out.more h10, md_row hw h10, ⟨M9.out.size, Nat.le_refl _⟩, ⟨M8.out.size, by omega⟩, by omega, fun k hk => ⟨⟨N6.out k hk, ?_⟩, ?_, ?_⟩⟩, M9.out.trans h10, fun k hk => hk.1⟩
  · have := heap_new w9 (.cells (mdArr c q w8.heap.size n n) 68)
    rw [List.length_replicate]; exact this
  · have := Q8.out.lt k hk; omega
  · have := Q8.out.lt k hk; omega
  · have := Q8.out.lt k hk; omega
end Go.Proofs.YtahejbahnhohcaaDoor
