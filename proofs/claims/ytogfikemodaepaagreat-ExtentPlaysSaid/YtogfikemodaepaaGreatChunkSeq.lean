/-
  The landed package chunk: going through the chunks of pages, by a function to range over.
-/
import Derived.Test.YtogfikemodaepaaGreatChunk
import Derived.Test.YtogfikemodaepaaGreatRange
import Derived.RangeFuncBox
import Derived.Shelf.Abstract
import Derived.LoopNIn
import Derived.LoopIn
namespace Go.Proofs.YtogfikemodaepaaGreat
open Go.RowKit Go.Sort Go.Maps Go.Shelf
set_option linter.unusedVariables false
set_option linter.unusedSimpArgs false
attribute [local go_sem] Oper.semAt_some

section
variable {F : Fence} {n : Nat} {P : Program} {ops : Array Oper} {rest : List Oper} {o : Oper} {a : Act} {w : World} {Q : Exit → Act → World → Prop}
/-- A load whose run is known, in a fence. -/
theorem wpListIn_load_run (hw : Region.wanted o (yielded ops a.tmps) = true) (ty : TypeId) (x : Operand) (ho : o.op = .load ty x) (g : Nat) (hx : a.eval x = .pointer (some ⟨g, 0, none⟩)) (v : Value)
    (hr : (loadVar ty ⟨g, 0, none⟩).run P w = .ok v w) (h : wpListIn F n P ops Q rest (a.put o.dst v) w) : wpListIn F n P ops Q (o :: rest) a w :=
  BigFrame.wpListIn_want hw fun K hK => by
    refine ⟨by simp [Oper.about, ho], ?_⟩
    rw [Oper.semAt_plain F _ _ (by rw [ho]; intro c hc; cases hc)]
    simp [execOp, ho, hx, Instr.loadAt, Instr.sureAddr, Sem.run_bind, hr, Result.andThen]
    exact hK _ _ h
/-- A load of a whole struct, in a fence. -/
theorem wpListIn_load_row (hw : Region.wanted o (yielded ops a.tmps) = true) (ty : TypeId) (x : Operand) (ho : o.op = .load ty x)
    (g : Nat) (hx : a.eval x = .pointer (some ⟨g, 0, none⟩)) (t : TypeId) (cs : Array Value) (fr : Nat × Nat) (d : TypeDesc) (hg : w.heap[g]? = some (.cells cs t fr))
    (hu : P.underlying ty = some d) (hd : (match d with | .struct _ | .array _ _ => true | _ => false) = true) (hi : (P.info? ty).map (·.size) = some cs.size)
    (h : wpListIn F n P ops Q rest (a.put o.dst (.agg cs)) w) : wpListIn F n P ops Q (o :: rest) a w :=
  wpListIn_load_run hw ty x ho g hx _ (run_loadVar_row w g t ty cs fr d hg hu hd hi) h
/-- A store of a whole struct, in a fence. -/
theorem wpListIn_store_row (hw : Region.wanted o (yielded ops a.tmps) = true) (ty : TypeId) (x y : Operand) (ho : o.op = .store ty x y)
    (g : Nat) (hx : a.eval x = .pointer (some ⟨g, 0, none⟩)) (cells : Array Value) (hy : a.eval y = .agg cells) (t : TypeId) (old : Array Value) (hg : w.heap[g]? = some (.cells old t (0, 0)))
    (hi : (P.info? ty).map (·.size) = some cells.size) (hsz : old.size = cells.size) (hone : cells.all (·.oneCell') = true)
    (h : wpListIn F n P ops Q rest (a.put o.dst (.tuple #[])) (w.setRow g cells)) : wpListIn F n P ops Q (o :: rest) a w :=
  BigFrame.wpListIn_want hw fun K hK => by
    refine ⟨by simp [Oper.about, ho], ?_⟩
    rw [Oper.semAt_plain F _ _ (by rw [ho]; intro c hc; cases hc)]
    have hs := run_storeVar_row (P := P) w g t ty old cells hg hi hsz hone
    simp [execOp, ho, hx, hy, Instr.storeAt, Instr.sureAddr, Sem.run_bind, hs, Result.andThen]
    exact hK _ _ h
end

/-- A chunk is made. -/
theorem wpListIn_chunk {F : Fence} {n : Nat} {ops : Array Oper} {rest : List Oper} {o : Oper} {a : Act} {w : World} {Q : Exit → Act → World → Prop} (hw : Region.wanted o (yielded ops a.tmps) = true) (x y : Operand) (ho : o.op = .build 98 #[(0, x), (1, y)]) (c : Cfg) (k : Int)
    (hx : a.eval x = .agg c.arr) (hy : a.eval y = .int .i64 k) (h : wpListIn F n Tryz.prog ops Q rest (a.put o.dst (.agg (chkArr c k))) w) : wpListIn F n Tryz.prog ops Q (o :: rest) a w :=
  BigFrame.wpListIn_want hw fun K hK => by
    refine ⟨by simp [Oper.about, ho], ?_⟩
    rw [Oper.semAt_plain F _ _ (by rw [ho]; intro c hc; cases hc)]
    have hb := build_chunk c k w
    simp only [execOp, ho, List.map_toArray, List.map_cons, List.map_nil, hx, hy, Sem.run_bind, hb, Result.andThen_ok]
    exact hK _ _ h
theorem wpList_chunk {ops : Array Oper} {rest : List Oper} {o : Oper} {a : Act} {w : World} {Q : Exit → Act → World → Prop} (hw : Region.wanted o (yielded ops a.tmps) = true) (x y : Operand) (ho : o.op = .build 98 #[(0, x), (1, y)]) (c : Cfg) (k : Int)
    (hx : a.eval x = .agg c.arr) (hy : a.eval y = .int .i64 k) (h : wpList Tryz.prog ops Q rest (a.put o.dst (.agg (chkArr c k))) w) : wpList Tryz.prog ops Q (o :: rest) a w :=
  wpList_wanted hw fun K hK => by
    have hb := build_chunk c k w
    unfold Oper.wp execOp
    simp only [ho, List.map_toArray, List.map_cons, List.map_nil, hx, hy, Sem.run_bind, hb, Result.andThen_ok]
    exact hK _ _ h

theorem c_there {c : Cfg} (R : c.Ok) (p n : Int) (hp : W64 p) (w : World) : Calls Tryz.prog 96 #[.agg c.arr, .int .i64 p, .int .i64 n] w (Gives w (.bool (thereB c.pg p n))) := by
  have HC := Lib.hid (row_new w c.arr 28)
  have HM : Hid (More w (w.alloc (.cells c.arr 28))) := (More.refl w).alloc _
  have hfl := field_pages c
  have p1 := R.pg1
  have p2 := R.pg2
  by_cases c0 : 0 ≤ p
  · by_cases c1 : 1 ≤ n
    · have q1 : IntKind.i64.wrap (c.pg - p) = c.pg - p := by unfold W64 at hp; exact wrap_in (by omega) (by omega)
      rw [show thereB c.pg p n = decide (n ≤ c.pg - p) by unfold thereB; simp [c0, c1]]
      clear p1 p2 hp
      go_enter Tryz.func96, Tryz.ntmps96
      go_wp2_with (refine wpList_load_rowG rfl 28 _ rfl _ rfl 28 _ _ _ HC.out Tryz.underlying28 rfl (by kernel_rfl) ?_)
      refine (y_config R _).mono ?_
      rintro e w2 ⟨rfl, h2⟩
      have HM2 := Lib.hid (HM.out.trans h2)
      clear h2
      go_wp2_with fail
      go_ret
      exact ⟨rfl, HM2.out⟩
    · rw [show thereB c.pg p n = false by unfold thereB; simp [c1]]
      have d1 : decide (1 ≤ n) = false := by simp; omega
      go_enter Tryz.func96, Tryz.ntmps96
      go_wp2_with fail
      go_ret
      exact ⟨rfl, HM.out⟩
  · rw [show thereB c.pg p n = false by unfold thereB; simp [c0]]
    have d0 : decide (0 ≤ p) = false := by simp; omega
    go_enter Tryz.func96, Tryz.ntmps96
    go_wp2_with fail
    go_ret
    exact ⟨rfl, HM.out⟩

/-- How many chunks are gone through. -/
def roundsV (pg p n : Int) : Nat := if thereB pg p n then spanV p n else 0
/-- The box of an integer. -/
def IntBox (w : World) (b : Nat) (x : Int) : Prop := w.heap[b]? = some (.cells #[.int .i64 x] 3 (0, 0))

set_option maxRecDepth 100000 in
set_option maxHeartbeats 2000000 in
theorem over_in (n : Nat) {c : Cfg} (p q : Int) (w : World) :
    CallsIn Fence.wide n Tryz.prog 73 #[.agg c.arr, .int .i64 p, .int .i64 q] w fun e w' =>
      e = .returned (.func (.func 95) #[] #[.pointer (some ⟨w.heap.size, 0, none⟩), .pointer (some ⟨w.heap.size + 1, 0, none⟩), .pointer (some ⟨w.heap.size + 2, 0, none⟩)]) ∧
      w' = ((w.alloc (.cells c.arr 28)).alloc (.cells #[.int .i64 p] 3)).alloc (.cells #[.int .i64 q] 3) := by
  refine callsIn_of_wp Tryz.func73 rfl trivial ?_ rfl
  simp only [Tryz.ntmps73, List.size_toArray, List.length_cons, List.length_nil, Nat.reduceAdd, Nat.reduceSub, Array.replicate_succ, Array.replicate_zero, List.push_toArray, List.append_toArray, List.nil_append, List.cons_append]
  gi_wp2
  go_ret
  exact ⟨rfl, rfl⟩
theorem over_made (c : Cfg) (p q : Int) (w : World) :
    (((w.alloc (.cells c.arr 28)).alloc (.cells #[.int .i64 p] 3)).alloc (.cells #[.int .i64 q] 3)).heap[w.heap.size]? = some (.cells c.arr 28 (0, 0)) ∧
    IntBox (((w.alloc (.cells c.arr 28)).alloc (.cells #[.int .i64 p] 3)).alloc (.cells #[.int .i64 q] 3)) (w.heap.size + 1) p ∧
    IntBox (((w.alloc (.cells c.arr 28)).alloc (.cells #[.int .i64 p] 3)).alloc (.cells #[.int .i64 q] 3)) (w.heap.size + 2) q := by
  have h0 := heap_new w (.cells c.arr 28)
  have s0 : (w.alloc (.cells c.arr 28)).heap.size = w.heap.size + 1 := by simp
  generalize w.alloc (.cells c.arr 28) = w1 at h0 s0 ⊢
  have h1 := heap_new w1 (.cells #[.int .i64 p] 3)
  rw [s0] at h1
  have s1 : (w1.alloc (.cells #[.int .i64 p] 3)).heap.size = w.heap.size + 2 := by simp [s0]
  have m1 : More w1 (w1.alloc (.cells #[.int .i64 p] 3)) := (More.refl _).alloc _
  generalize w1.alloc (.cells #[.int .i64 p] 3) = w2 at h1 s1 m1 ⊢
  have h2 := heap_new w2 (.cells #[.int .i64 q] 3)
  rw [s1] at h2
  have m2 : More w2 (w2.alloc (.cells #[.int .i64 q] 3)) := (More.refl _).alloc _
  exact ⟨m2.block (m1.block h0), m2.block h1, h2⟩

set_option maxRecDepth 100000 in
set_option maxHeartbeats 400000 in
theorem over_ends (n : Nat) (hn : 1 ≤ n) {c : Cfg} (R : c.Ok) (p q : Int) (hp : W64 p) (bl bp bq : Nat) (w0 : World) (hl : w0.heap[bl]? = some (.cells c.arr 28 (0, 0))) (hbp : IntBox w0 bp p) (hbq : IntBox w0 bq q) :
    SeqEnds Fence.wide n Tryz.prog 95 #[.pointer (some ⟨bl, 0, none⟩), .pointer (some ⟨bp, 0, none⟩), .pointer (some ⟨bq, 0, none⟩)] (fun i => #[.agg (chkArr c (p / 4 + (i : Int)))]) (roundsV c.pg p q) (fun k => k = bl ∨ k = bp ∨ k = bq) w0 := by
  intro l J Jx W hW hJ hJx hY h0
  have HL := Lib.hid (hW.block hl)
  have HP := Lib.hid (hW.block hbp)
  have HQ := Lib.hid (hW.block hbq)
  have HR := Lib.hid R
  have cp := (box_cells HP.out).1
  have cq := (box_cells HQ.out).1
  have TH := Lib.hid (fun w => c_there (c := c) R p q hp w)
  have HJ := Lib.hid hJ
  have HJx := Lib.hid hJx
  have HY := Lib.hid hY
  clear hl hbp hbq hW hJ hJx hY
  refine callsIn_of_wp Tryz.func95 rfl trivial ?_ rfl
  simp only [Tryz.ntmps95, List.size_toArray, List.length_cons, List.length_nil, Nat.reduceAdd, Nat.reduceSub, Array.replicate_succ, Array.replicate_zero, List.push_toArray, List.append_toArray, List.nil_append, List.cons_append]
  cases hth : thereB c.pg p q with
  | false =>
    have hN : roundsV c.pg p q = 0 := by unfold roundsV; rw [hth]; rfl
    rw [hN] at HY ⊢
    gi_wp2_with (first
      | (refine wpListIn_load_row rfl 28 _ rfl _ rfl 28 _ _ _ HL.out Tryz.underlying28 rfl (by kernel_rfl) ?_)
      | ((with_reducible refine And.intro ?_ ?_); exact trivial; gi_at_call 96; refine (callsIn_wide.2 (TH.out _)).mono ?_; rw [hth]; rintro e w' ⟨rfl, h1⟩; have M1 := Lib.hid h1; clear h1))
    refine bodyPost_ret (results_none rfl _ _ _) rfl ?_
    exact .inl ⟨⟨_, rfl⟩, .inl (HJ.out _ _ _ h0 M1.out)⟩
  | true =>
    have hN : roundsV c.pg p q = spanV p q := by unfold roundsV; rw [hth]; rfl
    rw [hN] at HY ⊢
    obtain ⟨r0, r1, r2⟩ := there_iff.1 hth
    have pg2 := R.pg2
    have q1 : IntKind.i64.wrap (p + q) = p + q := wrap_in (by omega) (by omega)
    have q2 : IntKind.i64.wrap (p + q - 1) = p + q - 1 := wrap_in (by omega) (by omega)
    have o1 : ofV p = p / 4 := if_neg (by omega)
    have o2 : ofV (p + q - 1) = (p + q - 1) / 4 := if_neg (by omega)
    obtain ⟨sp, _⟩ := span_b hth pg2
    have OP := Lib.hid (fun w => c_of p (by omega) (by omega) w)
    have OQ := Lib.hid (fun w => c_of (p + q - 1) (by omega) (by omega) w)
    rw [o1] at OP
    rw [o2] at OQ
    clear o1 o2 r1 R hp
    gi_wp2_with (first
      | (refine wpListIn_load_row rfl 28 _ rfl _ rfl 28 _ _ _ HL.out Tryz.underlying28 rfl (by kernel_rfl) ?_)
      | ((with_reducible refine And.intro ?_ ?_); exact trivial; gi_at_call 96; refine (callsIn_wide.2 (TH.out _)).mono ?_; rw [hth]; rintro e w' ⟨rfl, h1⟩; have M1 := Lib.hid h1; have cp1 := h1.cell cp; clear h1)
      | ((with_reducible refine And.intro ?_ ?_); exact trivial; gi_at_call 42; refine (callsIn_wide.2 (OP.out _)).mono ?_; rintro e w' ⟨rfl, rfl⟩))
    have J0 := Lib.hid (HJ.out _ _ _ h0 M1.out)
    have HL1 := Lib.hid (M1.out.block HL.out)
    have HP1 := Lib.hid (M1.out.block HP.out)
    have HQ1 := Lib.hid (M1.out.block HQ.out)
    clear cp cq cp1 h0
    gi_loopw [5] (fun u wr => ∃ i : Nat, i ≤ spanV p q ∧ u = .int .i64 (p / 4 + (i : Int)) ∧ J i wr ∧ wr.heap[bl]? = some (.cells c.arr 28 (0, 0)) ∧ IntBox wr bp p ∧ IntBox wr bq q) (fun u _ => ((p + q - 1) / 4 + 1 - intOf u).toNat)
    case atStart => exact ⟨0, Nat.zero_le _, by simp, J0.out, HL1.out, HP1.out, HQ1.out⟩
    case round =>
      obtain ⟨i, hi, rfl, hJi, hli, hpi, hqi⟩ := hrel
      have cpi := (box_cells hpi).1
      have cqi := (box_cells hqi).1
      have HLi := Lib.hid hli
      have HPi := Lib.hid hpi
      have HQi := Lib.hid hqi
      have HJi := Lib.hid hJi
      clear hli hpi hqi hJi
      by_cases hlt : i < spanV p q
      · obtain ⟨fn, tmps, assign, body, hy, hR⟩ := HY.out i wr hlt HJi.out
        have hld : (loadVar 28 ⟨bl, 0, none⟩).run Tryz.prog wr = .ok (.agg c.arr) wr := run_loadVar_row wr bl _ _ _ _ _ HLi.out Tryz.underlying28 rfl (by kernel_rfl)
        have d1 : decide (p / 4 + (i : Int) ≤ (p + q - 1) / 4) = true := by simp; omega
        have q3 : IntKind.i64.wrap (p / 4 + (i : Int) + 1) = p / 4 + (i : Int) + 1 := wrap_in (by omega) (by omega)
        gi_wp2_with (first
          | ((with_reducible refine wpListIn_load_run ?_ 28 (.tmp 1) ?_ bl ?_ (.agg c.arr) ?_ ?_); rfl; rfl; rfl; exact hld)
          | ((with_reducible refine wpListIn_chunk ?_ (.tmp 23) (.tmp 24) ?_ c (p / 4 + (i : Int)) ?_ ?_ ?_); rfl; rfl; rfl; rfl)
          | ((with_reducible refine And.intro ?_ ?_); exact trivial; gi_at_call 42; refine (callsIn_wide.2 (OQ.out _)).mono ?_; rintro e w' ⟨rfl, rfl⟩))
        refine hR.mono ?_
        rintro e W3 (⟨rfl, hJ3, hs3⟩ | ⟨he, hJx3⟩)
        · have HL3 := Lib.hid ((hs3 bl (.inl rfl)).trans HLi.out)
          have HP3 := Lib.hid ((hs3 bp (.inr (.inl rfl))).trans HPi.out)
          have HQ3 := Lib.hid ((hs3 bq (.inr (.inr rfl))).trans HQi.out)
          clear hs3
          gi_wp2
          go_roundw
          case rel => exact ⟨i + 1, by omega, by go_num, hJ3, HL3.out, HP3.out, HQ3.out⟩
          case measure => simp [intOf]; omega
        · rcases he with rfl | ⟨ch, rfl⟩
          · gi_wp2
            refine bodyPost_ret (results_none rfl _ _ _) rfl ?_
            exact .inl ⟨⟨_, rfl⟩, .inr ⟨i, hlt, hJx3⟩⟩
          · exact ⟨rfl, .inr ⟨ch, i, rfl, hlt, hJx3⟩⟩
      · obtain rfl : i = spanV p q := by omega
        have d1 : decide (p / 4 + ((spanV p q : Nat) : Int) ≤ (p + q - 1) / 4) = false := by simp; omega
        gi_wp2_with (first
          | ((with_reducible refine And.intro ?_ ?_); exact trivial; gi_at_call 42; refine (callsIn_wide.2 (OQ.out _)).mono ?_; rintro e w' ⟨rfl, rfl⟩))
        go_end0
        exact .inl ⟨⟨_, rfl⟩, .inl HJi.out⟩
theorem c_Pages {c : Cfg} (R : c.Ok) (k : Int) (w : World) : Calls Tryz.prog 55 #[.agg c.arr, .int .i64 k] w (Gives w (.tuple #[.int .i64 (firstV c.pg k), .int .i64 (sizeV c.pg k)])) := by
  have HC := Lib.hid (row_new w c.arr 28)
  have HM : Hid (More w (w.alloc (.cells c.arr 28))) := (More.refl w).alloc _
  go_enter Tryz.func55, Tryz.ntmps55
  go_wp2_with (first | refine wpList_load_row rfl 28 _ rfl _ rfl 28 _ _ _ HC.out Tryz.underlying28 rfl (by kernel_rfl) ?_ | ((with_reducible refine wpList_chunk ?_ (.tmp 6) (.tmp 7) ?_ c k ?_ ?_ ?_); rfl; rfl; rfl; rfl))
  refine (c_pages R k _).mono ?_
  rintro e w1 ⟨rfl, h1⟩
  go_wp2_with fail
  go_ret2
  exact ⟨rfl, HM.out.trans h1⟩
theorem went_cases {α : Type} {w w' : World} {F : Nat → Prop} {p : Nat} {kn : Int → Option Int} {val : α → Value} {R : Res α} {e : Ending} (h : WentV w F p kn val R e w') : (∃ a, R = .need a ∧ e = .panicked (endOf p)) ∨ ∃ x D, R = .ok x D ∧ e = .returned (val x) := by
  cases R with
  | need a => exact .inl ⟨a, rfl, h.1⟩
  | ok x D => exact .inr ⟨x, D, rfl, h.1⟩

theorem c_Mapped {c : Cfg} (R : c.Ok) (F : Nat → Prop) (p : Nat) (kn : Int → Option Int) (D : List KV) (k : Int) (w : World) (hv : ViewAt w F p kn D) :
    Calls Tryz.prog 41 #[.pointer (some ⟨p, 0, none⟩), .agg c.arr, .int .i64 k] w (WentV w F p kn (fun b => .bool b) (mappedP c.pg c.st k kn D)) := by
  have HC := Lib.hid (row_new w c.arr 28)
  have HM : Hid (More w (w.alloc (.cells c.arr 28))) := (More.refl w).alloc _
  have HV := Lib.hid (hv.more HM.out)
  clear hv
  go_enter Tryz.func41, Tryz.ntmps41
  go_wp2_with (first | refine wpList_load_row rfl 28 _ rfl _ rfl 28 _ _ _ HC.out Tryz.underlying28 rfl (by kernel_rfl) ?_ | ((with_reducible refine wpList_chunk ?_ (.tmp 7) (.tmp 8) ?_ c k ?_ ?_ ?_); rfl; rfl; rfl; rfl))
  refine (c_isMapped R F p kn D k _ HV.out).mono ?_
  intro e w1 he
  have FIN := Lib.hid (he.after HM.out)
  rcases went_cases he with ⟨a, _, rfl⟩ | ⟨x, D', _, rfl⟩
  · exact ⟨rfl, FIN.out⟩
  · clear he
    go_wp2_with fail
    go_ret
    exact FIN.out

/-- Another answer of the same end. -/
def mapR {α β : Type} (f : α → β) : Res α → Res β
  | .need a => .need a
  | .ok x D => .ok (f x) D
theorem WentV.map {α β : Type} {w w' : World} {F : Nat → Prop} {p : Nat} {kn : Int → Option Int} {val : α → Value} {val' : β → Value} (f : α → β) {R : Res α} {x : α} {D : List KV} {v : Value} (hR : R = .ok x D) (h : WentV w F p kn val R (.returned v) w') : WentV w F p kn val' (mapR f R) (.returned (val' (f x))) w' := by
  subst hR
  obtain ⟨_, F', hv, ht, hn⟩ := h
  exact ⟨rfl, F', hv, ht, hn⟩
theorem WentV.mapN {α β : Type} {w w' : World} {F : Nat → Prop} {p : Nat} {kn : Int → Option Int} {val : α → Value} {val' : β → Value} (f : α → β) {R : Res α} {a : Int} {e : Ending} (hR : R = .need a) (h : WentV w F p kn val R e w') : WentV w F p kn val' (mapR f R) e w' := by
  subst hR
  exact h

theorem c_Unmap {c : Cfg} (R : c.Ok) {n : Nat} (H : TblIn c.pg c.st n) (hn : n ≤ 10000) (F : Nat → Prop) (p : Nat) (kn : Int → Option Int) (D : List KV) (k : Int) (w : World) (hv : ViewAt w F p kn D) (hk : OkK kn) (hD : InvD n D) :
    Calls Tryz.prog 56 #[.pointer (some ⟨p, 0, none⟩), .agg c.arr, .int .i64 k] w (WentV w F p kn (fun b => .bool b) (mapR (fun y => decide (0 < y)) (turnP c.pg c.st k 0 kn D))) := by
  have HC := Lib.hid (row_new w c.arr 28)
  have HM : Hid (More w (w.alloc (.cells c.arr 28))) := (More.refl w).alloc _
  have HV := Lib.hid (hv.more HM.out)
  clear hv
  go_enter Tryz.func56, Tryz.ntmps56
  go_wp2_with (first | refine wpList_load_row rfl 28 _ rfl _ rfl 28 _ _ _ HC.out Tryz.underlying28 rfl (by kernel_rfl) ?_ | ((with_reducible refine wpList_chunk ?_ (.tmp 7) (.tmp 8) ?_ c k ?_ ?_ ?_); rfl; rfl; rfl; rfl))
  refine (c_turn R H hn F p kn D k 0 _ HV.out hk hD).mono ?_
  intro e w1 he
  rcases went_cases he with ⟨a, hR, rfl⟩ | ⟨x, D', hR, rfl⟩
  · exact ⟨rfl, WentV.mapN _ hR (he.after HM.out)⟩
  · have FIN := Lib.hid (WentV.map (val' := fun b : Bool => Value.bool b) (fun y : Int => decide (0 < y)) hR (he.after HM.out))
    clear he
    go_wp2_with fail
    go_ret
    exact FIN.out
end Go.Proofs.YtogfikemodaepaaGreat
