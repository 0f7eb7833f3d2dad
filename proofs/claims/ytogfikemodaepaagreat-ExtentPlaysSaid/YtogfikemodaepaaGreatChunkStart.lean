/-
  What the statements begin with: a small layout, and its words, all 0.
-/
import Derived.Test.YtogfikemodaepaaGreatChunkBegin
namespace Go.Proofs.YtogfikemodaepaaGreat
open Go.RowKit Go.Sort Go.Maps Go.Shelf
set_option linter.unusedVariables false
set_option linter.unusedSimpArgs false

theorem y_of {c : Cfg} (R : c.Ok) (w : World) : Calls Tryz.prog 12 #[.agg c.cells] w (Gives w (.tuple #[.agg c.arr, .int .i64 0])) := of_right c.wk c.cp c.pg c.st c.tr c.wt c.ck c.pr c.ca c.bi c.ba w R
theorem y_rwords {c : Cfg} (R : c.Ok) (w : World) : Calls Tryz.prog 18 #[.agg c.cells] w (Gives w (.int .i64 c.words)) := rwords c.wk c.cp c.pg c.st c.tr c.wt c.ck c.pr c.ca c.bi c.ba w R
theorem build_ref (c : Cfg) (W : World) : (Instr.build 30 #[(0, .agg c.cells)]).run Tryz.prog W = .ok (.agg c.cells) W := run_build W _ _ _ (by kernel_rfl)
theorem cells_one (c : Cfg) : c.cells.all (·.oneCell') = true := by simp [Cfg.cells, Value.oneCell']
theorem arr_one (c : Cfg) : c.arr.all (·.oneCell') = true := layArr_one ..
theorem wpList_ref {ops : Array Oper} {rest : List Oper} {o : Oper} {a : Act} {w : World} {Q : Exit → Act → World → Prop} (hw : Region.wanted o (yielded ops a.tmps) = true) (x : Operand) (ho : o.op = .build 30 #[(0, x)]) (c : Cfg)
    (hx : a.eval x = .agg c.cells) (h : wpList Tryz.prog ops Q rest (a.put o.dst (.agg c.cells)) w) : wpList Tryz.prog ops Q (o :: rest) a w :=
  wpList_wanted hw fun K hK => by
    have hb := build_ref c w
    unfold Oper.wp execOp
    simp only [ho, List.map_toArray, List.map_cons, List.map_nil, hx, Sem.run_bind, hb, Result.andThen_ok]
    exact hK _ _ h
theorem results_cct {P : Program} {fn : Func} {p q u : Tmp} {tp tq : TypeId} (h : fn.results = #[.cell p tp, .cell q tq, .tmp u]) (tmps : Array Value) (w : World) (g g' : Nat) (v v' : Value) (hp : tmps.getD p undef = .pointer (some ⟨g, 0, none⟩)) (hq : tmps.getD q undef = .pointer (some ⟨g', 0, none⟩))
    (h1 : (loadVar tp ⟨g, 0, none⟩).run P w = .ok v w) (h2 : (loadVar tq ⟨g', 0, none⟩).run P w = .ok v' w) : (results fn tmps).run P w = .ok (.tuple #[v, v', tmps.getD u undef]) w := by
  have hp' : tmps[p]?.getD undef = .pointer (some ⟨g, 0, none⟩) := by simpa using hp
  have hq' : tmps[q]?.getD undef = .pointer (some ⟨g', 0, none⟩) := by simpa using hq
  simp [results, h, asAddr, hp', hq', h1, h2, Sem.run_bind, Result.andThen]
/-- n zeros. -/
def zeros (n : Nat) : List Int := List.replicate n 0
theorem zeros_len (n : Nat) : (zeros n).length = n := by simp [zeros]
theorem zeros_made (n : Nat) : (madeCells (Value.int .i64 0).cells (n * 1)).toList = (zeros n).map (Value.int .i64) := by
  apply List.ext_getElem
  · simp [madeCells, zeros, Value.cells]
  · intro i h1 h2
    simp [madeCells, zeros, Value.cells, Nat.mod_one]

/-- What Begin hands back. -/
def Begun8 (w : World) (c : Cfg) (e : Ending) (w' : World) : Prop :=
  ∃ (g n : Nat), (n : Int) = c.words ∧ e = .returned (.tuple #[.agg c.arr, .agg c.cells, .slice (some ⟨g, 0, none⟩) n n]) ∧ Rw w.heap.size w' (.slice (some ⟨g, 0, none⟩) n n) (zeros n) ∧ More w w'
section
variable {P : Program} {o : Oper} {a : Act} {w : World} {K : Act → World → Prop} {Q : Exit → Act → World → Prop}
/-- A call of a function of one argument. -/
theorem wp_call1 {f : Nat} {x0 : Operand} {v0 : Value} {ts : Array TypeId} (ho : o.op = .call { callee := .value (.func f), args := #[x0], argTypes := ts }) (h0 : a.eval x0 = v0) (he : ∀ (vs : Array Value) (w : World), Sem.run P (callFunc f vs) w = .ok (.enter f vs) w)
    (h : Calls P f #[v0] w (fun | .returned v, w'' => K (a.put o.dst v) w'' | .panicked ch, w'' => Q (.panic ch) a w'' | .outgrown, _ => LetsOut Q)) : o.wp P a w K Q := by
  have hv : a.eval (.func f) = .func (.func f) #[] #[] := rfl
  unfold Oper.wp Oper.upon
  generalize hρ : a.eval = ρ at h0 hv ⊢
  simp [execOp, ho, resolve, invoke, hv, h0, he, Sem.run_bind, Result.andThen, go_sem]
  exact h
theorem wp_make {t e : TypeId} {x : Operand} (ho : o.op = .makeSlice t x x) {n : Nat} {L : Int} (hx : a.eval x = .int .i64 L) (hL : L = (n : Int)) (i : TypeInfo) (z : Value) (h1 : P.underlying t = some (.slice e)) (h2 : P.info? e = some i) (h3 : i.zero = some z) (h4 : i.size = 1) (b2 : i.bytes * n ≤ 281474976710656) (b3 : n ≤ maxLen)
    (h : ∀ w', w'.ownsRow w.heap.size e 1 (.slice (some ⟨w.heap.size, 0, none⟩) n n) n (madeCells z.cells (n * 1)).toList → w.grownBy w' none → K (a.put o.dst (.slice (some ⟨w.heap.size, 0, none⟩) n n)) w') : o.wp P a w K Q := by
  obtain ⟨w', hrun, r1, r2⟩ := run_make_full (P := P) (w := w) w.heap.size t e i z 1 h1 h2 h3 h4 .i64 .i64 n b2 b3 (Nat.le_refl _)
  subst hL
  unfold Oper.wp Oper.upon
  generalize hρ : a.eval = ρ at hx ⊢
  simp [execOp, ho, hx, hrun, Result.andThen, Sem.run_bind]
  exact h w' r1 r2
theorem wp_assign {x : Operand} (ho : o.op = .assign x) {v : Value} (hx : a.eval x = v) (h : K (a.put o.dst v) w) : o.wp P a w K Q := by
  unfold Oper.wp execOp
  simp only [ho, hx]
  exact h
theorem ready_step {md : Region.Mode} {ops : Array Oper} {fuel : Nat} {listed : Array Bool} {i : Nat} {rs : List Nat} (d : Option Tmp) (ho : ops[i]? = some o) (hg : o.guard = none) (hd : o.dst = d)
    (h : ∀ K' : Act → World → Prop, (∀ v w, wpAny P md ops Q fuel (listed.setIfInBounds i true) (a.put d v) w → K' (a.put o.dst v) w) → Oper.wp P o a w K' Q)
    (hs : AllReady P md ops Q fuel listed a w rs) : AllReady P md ops Q fuel listed a w (i :: rs) :=
  AllReady.cons ho (fun K hK => by
    rw [if_pos (by simp [Region.wanted, hg])]
    exact h K fun v w' q => hK _ _ (by rw [hd]; exact q)) hs
theorem tree_start {md : Region.Mode} {ops : Array Oper} {n : Nat} {dn : Array Bool} (Φ : Act → World → Prop) (fin : ∀ a w, Φ a w → Q .normal a w) (h : ∀ Q' : Exit → Act → World → Prop, (∀ a w, Φ a w → Q' .normal a w) → wpAny P md ops Q' n dn a w) : wpAny P md ops Q n dn a w := h Q fin
end
/-- What is known of a frame. -/
def AF (a : Act) (L : List (Nat × Value)) : Prop := (22 ≤ a.tmps.size ∧ a.defers = []) ∧ ∀ q ∈ L, a.eval (.tmp q.1) = q.2
theorem AF.put {a : Act} {L : List (Nat × Value)} (h : AF a L) (d : Nat) (v : Value) (hd : d < 22) (hn : L.all (fun q => q.1 != d) = true) : AF (a.put (some d) v) ((d, v) :: L) := by
  have hs := h.1.1
  refine ⟨⟨by simp [Act.put]; exact hs, h.1.2⟩, ?_⟩
  intro q hq
  rcases List.mem_cons.1 hq with rfl | hq
  · have hlt : d < a.tmps.size := by omega
    simp [Act.put, Act.eval, Array.getD, hlt]
  · rw [Act.eval_put (by have := List.all_eq_true.1 hn q hq; simp at this; rintro _ ⟨⟩; simp [this])]
    exact h.2 q hq
theorem AF.skip {a : Act} {L : List (Nat × Value)} (h : AF a L) (v : Value) : AF (a.put none v) L := h
theorem AF.get {a : Act} {L : List (Nat × Value)} (h : AF a L) (i : Nat) {k : Nat} {v : Value} (hm : L[i]? = some (k, v)) : a.eval (.tmp k) = v := h.2 (k, v) (List.mem_of_getElem? hm)
theorem frame_start {P : Program} {md : Region.Mode} {ops : Array Oper} {Q : Exit → Act → World → Prop} {n : Nat} {dn : Array Bool} {A : Act} {W : World} (L : List (Nat × Value)) (hA : AF A L) (h : ∀ a, AF a L → wpAny P md ops Q n dn a W) : wpAny P md ops Q n dn A W := h A hA

/-- What lies in memory on the way through the last statement of Begin. -/
structure BS (w w6 : World) (d : Cfg) (x1 x2 : Array Value) (W : World) : Prop where
  a1 : W.heap[w6.heap.size]? = some (.cells d.arr 28 (0, 0))
  a2 : W.heap[w6.heap.size + 1]? = some (.cells d.cells 30 (0, 0))
  r1 : W.heap[w.heap.size + 1]? = some (.cells x1 28 (0, 0))
  r2 : W.heap[w.heap.size + 2]? = some (.cells x2 30 (0, 0))
  more : More w W
  s6 : w.heap.size + 3 ≤ w6.heap.size
theorem BS.step {w w6 W W' : World} {d : Cfg} {x1 x2 : Array Value} (h : BS w w6 d x1 x2 W) (m : More W W') : BS w w6 d x1 x2 W' := ⟨m.block h.a1, m.block h.a2, m.block h.r1, m.block h.r2, h.more.trans m, h.s6⟩
theorem BS.put1 {w w6 W : World} {d : Cfg} {x1 x2 : Array Value} (h : BS w w6 d x1 x2 W) (ys : Array Value) : BS w w6 d ys x2 (W.setRow (w.heap.size + 1) ys) :=
  ⟨(setRow_other _ _ _ _ (by have := h.s6; omega)).trans h.a1, (setRow_other _ _ _ _ (by have := h.s6; omega)).trans h.a2, setRow_heap _ _ _ _ _ _ h.r1, (setRow_other _ _ _ _ (by omega)).trans h.r2, h.more.setRow _ _ (by omega), h.s6⟩
theorem BS.put2 {w w6 W : World} {d : Cfg} {x1 x2 : Array Value} (h : BS w w6 d x1 x2 W) (ys : Array Value) : BS w w6 d x1 ys (W.setRow (w.heap.size + 2) ys) :=
  ⟨(setRow_other _ _ _ _ (by have := h.s6; omega)).trans h.a1, (setRow_other _ _ _ _ (by have := h.s6; omega)).trans h.a2, (setRow_other _ _ _ _ (by omega)).trans h.r1, setRow_heap _ _ _ _ _ _ h.r2, h.more.setRow _ _ (by omega), h.s6⟩
theorem rw_setRow {w W : World} {g k n : Nat} {v : Value} {xs : List Int} {cs : Array Value} (h : Rw w.heap.size W v xs) (hk : ∀ g', v.ownBlock = some g' → g' ≠ k) : Rw w.heap.size (W.setRow k cs) v xs := by
  refine ⟨h.1, ?_⟩
  rcases h.2 with q | ⟨g, cap, cur, h1, h2, h3, h4⟩
  · exact .inl q
  · exact .inr ⟨g, cap, cur, h1, h2, (setRow_other _ _ _ _ (hk g (by rw [h1]; rfl))).trans h3, h4⟩

abbrev zero11 : Array Value := #[.int .i64 0, .int .i64 0, .int .i64 0, .int .i64 0, .int .i64 0, .int .i64 0, .int .i64 0, .int .i64 0, .int .i64 0, .int .i64 0, .int .i64 0]
abbrev zero24 : Array Value := #[.int .i64 0, .int .i64 0, .int .i64 0, .int .i64 0, .int .i64 0, .int .i64 0, .int .i64 0, .int .i64 0, .int .i64 0, .int .i64 0, .int .i64 0, .int .i64 0, .int .i64 0, .int .i64 0, .int .i64 0, .int .i64 0, .int .i64 0, .int .i64 0, .int .i64 0, .int .i64 0, .int .i64 0, .int .i64 0, .int .i64 0, .int .i64 0]

set_option maxRecDepth 100000 in
set_option maxHeartbeats 2000000 in
theorem begin_any {c : Cfg} (R : c.Ok) (y0 y1 y2 y3 y4 y5 y6 y7 y8 y9 y10 : Int) (w : World) (hS : ∀ W, Calls Tryz.prog 35 #[.agg #[.int .i64 y0, .int .i64 y1, .int .i64 y2, .int .i64 y3, .int .i64 y4, .int .i64 y5, .int .i64 y6, .int .i64 y7, .int .i64 y8, .int .i64 y9, .int .i64 y10]] W (Gives W (.agg #[.int .i64 c.wk, .int .i64 c.cp, .int .i64 c.pg, .int .i64 c.st, .int .i64 c.tr, .int .i64 c.wt, .int .i64 c.ck, .int .i64 c.pr, .int .i64 c.ca, .int .i64 c.bi, .int .i64 c.ba]))) :
    Calls Tryz.prog 5 #[.agg #[.int .i64 y0, .int .i64 y1, .int .i64 y2, .int .i64 y3, .int .i64 y4, .int .i64 y5, .int .i64 y6, .int .i64 y7, .int .i64 y8, .int .i64 y9, .int .i64 y10]] w (Begun8 w (smallC c)) := by
  have S := small_small R
  have SM := Lib.hid (fun W => small_any R y0 y1 y2 y3 y4 y5 y6 y7 y8 y9 y10 _ W hS rfl)
  generalize smallC c = d at S SM ⊢
  have RR := Lib.hid S.ok
  obtain ⟨wd0, wd1⟩ := S.words
  clear hS R S
  obtain ⟨n, hn⟩ : ∃ n : Nat, (n : Int) = d.words := ⟨d.words.toNat, by omega⟩
  obtain ⟨i0, hi0, hz0, hz1, hz2⟩ := int_info
  obtain ⟨w3, e3, hb0, hb1, hb2, m3, s3⟩ := entry3 w (.cells #[.int .i64 y0, .int .i64 y1, .int .i64 y2, .int .i64 y3, .int .i64 y4, .int .i64 y5, .int .i64 y6, .int .i64 y7, .int .i64 y8, .int .i64 y9, .int .i64 y10] 23) (.cells zero24 28) (.cells zero11 30)
  have e4 : ((w.alloc (.cells #[.int .i64 y0, .int .i64 y1, .int .i64 y2, .int .i64 y3, .int .i64 y4, .int .i64 y5, .int .i64 y6, .int .i64 y7, .int .i64 y8, .int .i64 y9, .int .i64 y10] 23)).alloc (.cells #[.int .i64 0, .int .i64 0, .int .i64 0, .int .i64 0, .int .i64 0, .int .i64 0, .int .i64 0, .int .i64 0, .int .i64 0, .int .i64 0, .int .i64 0, .int .i64 0, .int .i64 0, .int .i64 0, .int .i64 0, .int .i64 0, .int .i64 0, .int .i64 0, .int .i64 0, .int .i64 0, .int .i64 0, .int .i64 0, .int .i64 0, .int .i64 0] 28)).alloc (.cells #[.int .i64 0, .int .i64 0, .int .i64 0, .int .i64 0, .int .i64 0, .int .i64 0, .int .i64 0, .int .i64 0, .int .i64 0, .int .i64 0, .int .i64 0] 30) = w3 := e3
  clear e3
  have H0 := Lib.hid hb0
  have H1 := Lib.hid hb1
  have H2 := Lib.hid hb2
  have M3 := Lib.hid m3
  clear hb0 hb1 hb2 m3
  go_enter Tryz.func5, Tryz.ntmps5
  go_wp2_with (refine wpList_load_row rfl 23 _ rfl w.heap.size rfl 23 _ _ _ H0.out Tryz.underlying23 rfl (by kernel_rfl) ?_)
  refine (SM.out _).mono ?_
  rintro e w4 ⟨rfl, m4⟩
  have H0 := Lib.hid (m4.block H0.out)
  have H1 := Lib.hid (m4.block H1.out)
  have H2 := Lib.hid (m4.block H2.out)
  have M4 := Lib.hid (M3.out.trans m4)
  have s4 : w.heap.size + 3 ≤ w4.heap.size := by have := m4.size; omega
  clear m4
  go_wp2_with (first
    | (refine wpList_store_row rfl 23 _ _ rfl w.heap.size _ rfl rfl 23 _ H0.out (by kernel_rfl) rfl (cells_one d) ?_)
    | (refine wpList_load_row rfl 23 _ rfl w.heap.size rfl 23 _ _ _ (setRow_heap _ _ _ _ _ _ H0.out) Tryz.underlying23 rfl (by kernel_rfl) ?_))
  have K0 := Lib.hid (setRow_heap w4 w.heap.size _ d.cells _ _ H0.out)
  have K1 := Lib.hid ((setRow_other w4 w.heap.size (w.heap.size + 1) d.cells (by omega)).trans H1.out)
  have K2 := Lib.hid ((setRow_other w4 w.heap.size (w.heap.size + 2) d.cells (by omega)).trans H2.out)
  have M5 : Hid (More w (w4.setRow w.heap.size d.cells)) := Lib.hid (M4.out.setRow _ _ (Nat.le_refl _))
  have s5 : w.heap.size + 3 ≤ (w4.setRow w.heap.size d.cells).heap.size := by simpa using s4
  clear H0 H1 H2 M4 s4
  generalize w4.setRow w.heap.size d.cells = w5 at K0 K1 K2 M5 s5 ⊢
  refine (y_of RR.out _).mono ?_
  rintro e w6 ⟨rfl, m6⟩
  have A1 := row_new w6 zero24 28
  have L0 := Lib.hid (m6.block K0.out)
  have L1 := Lib.hid (m6.block K1.out)
  have L2 := Lib.hid (m6.block K2.out)
  have M6 := Lib.hid (M5.out.trans m6)
  have s6 : w.heap.size + 3 ≤ w6.heap.size := by have := m6.size; omega
  clear K0 K1 K2 M5 s5 m6
  have m7 : More w6 ((w6.alloc (.cells zero24 28)).setRow w6.heap.size d.arr) := ((More.refl w6).alloc _).setRow _ _ (Nat.le_refl _)
  have B1 := Lib.hid (setRow_heap _ _ _ d.arr _ _ A1)
  have B0 := Lib.hid (m7.block L0.out)
  have B2 := Lib.hid (m7.block L1.out)
  have B3 := Lib.hid (m7.block L2.out)
  have M7 := Lib.hid (M6.out.trans m7)
  have s7 : ((w6.alloc (.cells zero24 28)).setRow w6.heap.size d.arr).heap.size = w6.heap.size + 1 := by simp
  go_wp2_with (first
    | (refine wpList_store_row rfl 28 _ _ rfl w6.heap.size _ rfl rfl 28 zero24 A1 (by kernel_rfl) rfl (arr_one d) ?_)
    | (refine wpList_load_row rfl 23 _ rfl w.heap.size rfl 23 _ _ _ B0.out Tryz.underlying23 rfl (by kernel_rfl) ?_)
    | ((with_reducible refine wpList_ref ?_ (.tmp 15) ?_ d ?_ ?_); rfl; rfl; rfl)
    | (refine wpList_store_row rfl 30 _ _ rfl (w6.heap.size + 1) _ rfl rfl 30 zero11 (by rw [← s7]; exact row_new _ _ _) (by kernel_rfl) rfl (cells_one d) ?_))
  generalize hw7 : World.setRow (World.alloc w6 _) w6.heap.size d.arr = w7
  have F7 : w7.heap.size = w6.heap.size + 1 := by rw [← hw7]; exact s7
  have A7 := row_new w7 zero11 30
  have m7' : More w6 w7 := by rw [← hw7]; exact m7
  have G1 : w7.heap[w6.heap.size]? = some (.cells d.arr 28 (0, 0)) := by rw [← hw7]; exact B1.out
  rw [F7] at A7
  generalize hw8 : World.setRow (World.alloc w7 _) (w6.heap.size + 1) d.cells = w8
  have m8 : More w7 w8 := by rw [← hw8]; exact ((More.refl w7).alloc _).setRow _ _ (by omega)
  have m68 := m7'.trans m8
  have N1 := Lib.hid (m8.block G1)
  have N2 : Hid (w8.heap[w6.heap.size + 1]? = some (.cells d.cells 30 (0, 0))) := Lib.hid (by rw [← hw8]; exact setRow_heap _ _ _ _ _ _ A7)
  have N3 := Lib.hid (m68.block L1.out)
  have N4 := Lib.hid (m68.block L2.out)
  have M8 := Lib.hid (M6.out.trans m68)
  have s8 : w6.heap.size + 2 ≤ w8.heap.size := lt_of_heap N2.out
  clear hw7 hw8 m7 m7' G1 A7 F7 m8 m68 B0 B1 B2 B3 M7 s7 A1 L0 L1 L2 M6 SM
  have HEN := enters_of Tryz.func18 (by kernel_rfl) rfl
  have hmx : Tryz.prog.follows .mixedOrders = true := by kernel_rfl
  have BB : BS w w6 d zero24 zero11 w8.drew := ⟨N1.out, N2.out, N3.out, N4.out, M8.out.drew, by omega⟩
  have HBY : i0.bytes * n ≤ 281474976710656 := by rw [hz2]; omega
  have HML : n ≤ maxLen := by unfold maxLen; omega
  have HMK : Hid (∀ (W W3 : World) (x1 x2 : Array Value), BS w w6 d x1 x2 W → W3.ownsRow W.heap.size 3 1 (.slice (some ⟨W.heap.size, 0, none⟩) n n) n (madeCells (Value.int .i64 0).cells (n * 1)).toList → W.grownBy W3 none → BS w w6 d x1 x2 W3 ∧ Rw w.heap.size W3 (.slice (some ⟨W.heap.size, 0, none⟩) n n) (zeros n) ∧ w.heap.size + 3 ≤ W.heap.size) := Lib.hid fun W W3 x1 x2 hb q1 q2 => by
    have m : More W W3 := ⟨q2.os, q2.tape, q2.output, q2.size, fun k hk _ => q2.block k hk (by simp)⟩
    have := hb.s6
    have := lt_of_heap hb.a1
    rw [zeros_made] at q1
    refine ⟨hb.step m, ?_, by omega⟩
    unfold Rw
    rw [zeros_len]
    exact ownsRow_low q1 (by omega)
  clear N1 N2 N3 N4 M8 wd0 wd1 hz2
  refine wp_region_any hmx ?_
  change wpAny _ _ _ _ _ _ _ (World.drew _)
  generalize w8.drew = W2 at BB ⊢
  refine tree_start (fun a W => a.eval (.tmp 2) = .pointer (some ⟨w.heap.size + 1, 0, none⟩) ∧ a.eval (.tmp 3) = .pointer (some ⟨w.heap.size + 2, 0, none⟩) ∧ ∃ g, a.eval (.tmp 4) = .slice (some ⟨g, 0, none⟩) n n ∧ Rw w.heap.size W (.slice (some ⟨g, 0, none⟩) n n) (zeros n) ∧ BS w w6 d d.arr d.cells W ∧ a.defers = []) ?_ ?_
  · rintro a W ⟨t2, t3, g, t4, RG, BB, hdf⟩
    go_wp2_with fail
    have h4 : a.tmps.getD 4 undef = .slice (some ⟨g, 0, none⟩) n n := t4
    refine bodyPost_ret (results_cct Tryz.results5 _ _ (w.heap.size + 1) (w.heap.size + 2) _ _ t2 t3 (run_loadVar_row _ _ _ _ _ _ _ BB.r1 Tryz.underlying28 rfl (by kernel_rfl)) (run_loadVar_row _ _ _ _ _ _ _ BB.r2 Tryz.underlying30 rfl (by kernel_rfl))) hdf ?_
    exact ⟨g, n, hn, by rw [h4], RG, BB.more⟩
  intro Q FIN
  refine frame_start [(5, .pointer (some ⟨w6.heap.size, 0, none⟩)), (7, .pointer (some ⟨w6.heap.size + 1, 0, none⟩)), (2, .pointer (some ⟨w.heap.size + 1, 0, none⟩)), (3, .pointer (some ⟨w.heap.size + 2, 0, none⟩))] ⟨⟨Nat.le_of_ble_eq_true rfl, rfl⟩, ?_⟩ (fun a HF => ?_)
  · intro q hq
    simp only [List.mem_cons, List.not_mem_nil, or_false] at hq
    rcases hq with rfl | rfl | rfl | rfl <;> rfl
  refine wpAny_ready (rs := [0, 1, 2]) (by kernel_rfl) (by simp) ?_
  refine ready_step (some 17) rfl rfl rfl (fun K hK => ?_) ?_
  · refine wp_load_row 28 _ rfl w6.heap.size (HF.get 0 rfl) 28 _ _ _ BB.a1 Tryz.underlying28 rfl (by kernel_rfl) ?_; refine hK _ _ ?_; clear hK K; have HF := HF.put 17 (.agg d.arr) (by decide) rfl; generalize Act.put _ _ _ = a at HF ⊢
    refine wpAny_ready (rs := [1, 2]) (by kernel_rfl) (by simp) ?_
    refine ready_step (some 18) rfl rfl rfl (fun K hK => ?_) ?_
    · refine wp_load_row 30 _ rfl (w6.heap.size + 1) (HF.get 2 rfl) 30 _ _ _ BB.a2 Tryz.underlying30 rfl (by kernel_rfl) ?_; refine hK _ _ ?_; clear hK K; have HF := HF.put 18 (.agg d.cells) (by decide) rfl; generalize Act.put _ _ _ = a at HF ⊢
      refine wpAny_ready (rs := [2]) (by kernel_rfl) (by simp) ?_
      refine ready_step (some 19) rfl rfl rfl (fun K hK => ?_) ?_
      · refine wp_load_row 30 _ rfl (w6.heap.size + 1) (HF.get 3 rfl) 30 _ _ _ BB.a2 Tryz.underlying30 rfl (by kernel_rfl) ?_; refine hK _ _ ?_; clear hK K; have HF := HF.put 19 (.agg d.cells) (by decide) rfl; generalize Act.put _ _ _ = a at HF ⊢
        refine wpAny_ready (rs := [3]) (by kernel_rfl) (by simp) ?_
        refine ready_step (some 20) rfl rfl rfl (fun K hK => ?_) ?_
        · refine wp_call1 (v0 := .agg d.cells) rfl (HF.get 0 rfl) HEN ?_; refine (y_rwords RR.out _).mono ?_; rintro e W2 ⟨rfl, m2⟩; have BB := BB.step m2; clear m2; refine hK _ _ ?_; clear hK K; have HF := HF.put 20 (.int .i64 d.words) (by decide) rfl; generalize Act.put _ _ _ = a at HF ⊢
          refine wpAny_ready (rs := [4, 5]) (by kernel_rfl) (by simp) ?_
          refine ready_step (some 21) rfl rfl rfl (fun K hK => ?_) ?_
          · refine wp_make (n := n) rfl (HF.get 0 rfl) hn.symm i0 (.int .i64 0) Tryz.underlying31 hi0 hz0 hz1 HBY HML ?_; intro W3 q1 q2; obtain ⟨BB, RG, HGn⟩ := HMK.out _ _ _ _ BB q1 q2; clear q1 q2; generalize HGG : W2.heap.size = GG at RG HGn ⊢; refine hK _ _ ?_; clear hK K; have HF := HF.put 21 (.slice (some ⟨GG, 0, none⟩) n n) (by decide) rfl; generalize Act.put _ _ _ = a at HF ⊢
            refine wpAny_ready (rs := [5]) (by kernel_rfl) (by simp) ?_
            refine ready_step none rfl rfl rfl (fun K hK => ?_) ?_
            · refine wp_store_row 28 _ _ rfl (w.heap.size + 1) _ (HF.get 7 rfl) (HF.get 4 rfl) 28 zero24 BB.r1 (by kernel_rfl) rfl (arr_one d) ?_; have RG := rw_setRow (k := w.heap.size + 1) (cs := d.arr) (g := 0) (n := 0) RG (fun g' q => by cases q; show GG ≠ _; omega); have BB := BB.put1 d.arr; refine hK _ _ ?_; clear hK K; have HF := HF.skip undef; generalize Act.put _ _ _ = a at HF ⊢
              generalize World.setRow _ _ _ = W2 at BB RG ⊢
              refine wpAny_ready (rs := [6]) (by kernel_rfl) (by simp) ?_
              refine ready_step none rfl rfl rfl (fun K hK => ?_) ?_
              · refine wp_store_row 30 _ _ rfl (w.heap.size + 2) _ (HF.get 8 rfl) (HF.get 3 rfl) 30 zero11 BB.r2 (by kernel_rfl) rfl (cells_one d) ?_; have RG := rw_setRow (k := w.heap.size + 2) (cs := d.cells) (g := 0) (n := 0) RG (fun g' q => by cases q; show GG ≠ _; omega); have BB := BB.put2 d.cells; refine hK _ _ ?_; clear hK K; have HF := HF.skip undef; generalize Act.put _ _ _ = a at HF ⊢
                generalize World.setRow _ _ _ = W2 at BB RG ⊢
                refine wpAny_ready (rs := [7]) (by kernel_rfl) (by simp) ?_
                refine ready_step (some 4) rfl rfl rfl (fun K hK => ?_) ?_
                · refine wp_assign rfl (HF.get 0 rfl) ?_; refine hK _ _ ?_; clear hK K; have HF := HF.put 4 (.slice (some ⟨GG, 0, none⟩) n n) (by decide) rfl; generalize Act.put _ _ _ = a at HF ⊢
                  exact wpAny_done (by kernel_rfl) (FIN _ _ ⟨HF.get 8 rfl, HF.get 9 rfl, _, HF.get 0 rfl, RG, BB, HF.1.2⟩) _
                exact AllReady.nil
              exact AllReady.nil
            exact AllReady.nil
          refine ready_step none rfl rfl rfl (fun K hK => ?_) ?_
          · refine wp_store_row 28 _ _ rfl (w.heap.size + 1) _ (HF.get 6 rfl) (HF.get 3 rfl) 28 zero24 BB.r1 (by kernel_rfl) rfl (arr_one d) ?_; have BB := BB.put1 d.arr; refine hK _ _ ?_; clear hK K; have HF := HF.skip undef; generalize Act.put _ _ _ = a at HF ⊢
            generalize World.setRow _ _ _ = W2 at BB ⊢
            refine wpAny_ready (rs := [4, 6]) (by kernel_rfl) (by simp) ?_
            refine ready_step (some 21) rfl rfl rfl (fun K hK => ?_) ?_
            · refine wp_make (n := n) rfl (HF.get 0 rfl) hn.symm i0 (.int .i64 0) Tryz.underlying31 hi0 hz0 hz1 HBY HML ?_; intro W3 q1 q2; obtain ⟨BB, RG, HGn⟩ := HMK.out _ _ _ _ BB q1 q2; clear q1 q2; generalize HGG : W2.heap.size = GG at RG HGn ⊢; refine hK _ _ ?_; clear hK K; have HF := HF.put 21 (.slice (some ⟨GG, 0, none⟩) n n) (by decide) rfl; generalize Act.put _ _ _ = a at HF ⊢
              refine wpAny_ready (rs := [6]) (by kernel_rfl) (by simp) ?_
              refine ready_step none rfl rfl rfl (fun K hK => ?_) ?_
              · refine wp_store_row 30 _ _ rfl (w.heap.size + 2) _ (HF.get 8 rfl) (HF.get 3 rfl) 30 zero11 BB.r2 (by kernel_rfl) rfl (cells_one d) ?_; have RG := rw_setRow (k := w.heap.size + 2) (cs := d.cells) (g := 0) (n := 0) RG (fun g' q => by cases q; show GG ≠ _; omega); have BB := BB.put2 d.cells; refine hK _ _ ?_; clear hK K; have HF := HF.skip undef; generalize Act.put _ _ _ = a at HF ⊢
                generalize World.setRow _ _ _ = W2 at BB RG ⊢
                refine wpAny_ready (rs := [7]) (by kernel_rfl) (by simp) ?_
                refine ready_step (some 4) rfl rfl rfl (fun K hK => ?_) ?_
                · refine wp_assign rfl (HF.get 0 rfl) ?_; refine hK _ _ ?_; clear hK K; have HF := HF.put 4 (.slice (some ⟨GG, 0, none⟩) n n) (by decide) rfl; generalize Act.put _ _ _ = a at HF ⊢
                  exact wpAny_done (by kernel_rfl) (FIN _ _ ⟨HF.get 8 rfl, HF.get 9 rfl, _, HF.get 0 rfl, RG, BB, HF.1.2⟩) _
                exact AllReady.nil
              exact AllReady.nil
            refine ready_step none rfl rfl rfl (fun K hK => ?_) ?_
            · refine wp_store_row 30 _ _ rfl (w.heap.size + 2) _ (HF.get 7 rfl) (HF.get 2 rfl) 30 zero11 BB.r2 (by kernel_rfl) rfl (cells_one d) ?_; have BB := BB.put2 d.cells; refine hK _ _ ?_; clear hK K; have HF := HF.skip undef; generalize Act.put _ _ _ = a at HF ⊢
              generalize World.setRow _ _ _ = W2 at BB ⊢
              refine wpAny_ready (rs := [4]) (by kernel_rfl) (by simp) ?_
              refine ready_step (some 21) rfl rfl rfl (fun K hK => ?_) ?_
              · refine wp_make (n := n) rfl (HF.get 0 rfl) hn.symm i0 (.int .i64 0) Tryz.underlying31 hi0 hz0 hz1 HBY HML ?_; intro W3 q1 q2; obtain ⟨BB, RG, HGn⟩ := HMK.out _ _ _ _ BB q1 q2; clear q1 q2; generalize HGG : W2.heap.size = GG at RG HGn ⊢; refine hK _ _ ?_; clear hK K; have HF := HF.put 21 (.slice (some ⟨GG, 0, none⟩) n n) (by decide) rfl; generalize Act.put _ _ _ = a at HF ⊢
                refine wpAny_ready (rs := [7]) (by kernel_rfl) (by simp) ?_
                refine ready_step (some 4) rfl rfl rfl (fun K hK => ?_) ?_
                · refine wp_assign rfl (HF.get 0 rfl) ?_; refine hK _ _ ?_; clear hK K; have HF := HF.put 4 (.slice (some ⟨GG, 0, none⟩) n n) (by decide) rfl; generalize Act.put _ _ _ = a at HF ⊢
                  exact wpAny_done (by kernel_rfl) (FIN _ _ ⟨HF.get 8 rfl, HF.get 9 rfl, _, HF.get 0 rfl, RG, BB, HF.1.2⟩) _
                exact AllReady.nil
              exact AllReady.nil
            exact AllReady.nil
          exact AllReady.nil
        exact AllReady.nil
      exact AllReady.nil
    refine ready_step (some 19) rfl rfl rfl (fun K hK => ?_) ?_
    · refine wp_load_row 30 _ rfl (w6.heap.size + 1) (HF.get 2 rfl) 30 _ _ _ BB.a2 Tryz.underlying30 rfl (by kernel_rfl) ?_; refine hK _ _ ?_; clear hK K; have HF := HF.put 19 (.agg d.cells) (by decide) rfl; generalize Act.put _ _ _ = a at HF ⊢
      refine wpAny_ready (rs := [1, 3]) (by kernel_rfl) (by simp) ?_
      refine ready_step (some 18) rfl rfl rfl (fun K hK => ?_) ?_
      · refine wp_load_row 30 _ rfl (w6.heap.size + 1) (HF.get 3 rfl) 30 _ _ _ BB.a2 Tryz.underlying30 rfl (by kernel_rfl) ?_; refine hK _ _ ?_; clear hK K; have HF := HF.put 18 (.agg d.cells) (by decide) rfl; generalize Act.put _ _ _ = a at HF ⊢
        refine wpAny_ready (rs := [3]) (by kernel_rfl) (by simp) ?_
        refine ready_step (some 20) rfl rfl rfl (fun K hK => ?_) ?_
        · refine wp_call1 (v0 := .agg d.cells) rfl (HF.get 1 rfl) HEN ?_; refine (y_rwords RR.out _).mono ?_; rintro e W2 ⟨rfl, m2⟩; have BB := BB.step m2; clear m2; refine hK _ _ ?_; clear hK K; have HF := HF.put 20 (.int .i64 d.words) (by decide) rfl; generalize Act.put _ _ _ = a at HF ⊢
          refine wpAny_ready (rs := [4, 5]) (by kernel_rfl) (by simp) ?_
          refine ready_step (some 21) rfl rfl rfl (fun K hK => ?_) ?_
          · refine wp_make (n := n) rfl (HF.get 0 rfl) hn.symm i0 (.int .i64 0) Tryz.underlying31 hi0 hz0 hz1 HBY HML ?_; intro W3 q1 q2; obtain ⟨BB, RG, HGn⟩ := HMK.out _ _ _ _ BB q1 q2; clear q1 q2; generalize HGG : W2.heap.size = GG at RG HGn ⊢; refine hK _ _ ?_; clear hK K; have HF := HF.put 21 (.slice (some ⟨GG, 0, none⟩) n n) (by decide) rfl; generalize Act.put _ _ _ = a at HF ⊢
            refine wpAny_ready (rs := [5]) (by kernel_rfl) (by simp) ?_
            refine ready_step none rfl rfl rfl (fun K hK => ?_) ?_
            · refine wp_store_row 28 _ _ rfl (w.heap.size + 1) _ (HF.get 7 rfl) (HF.get 4 rfl) 28 zero24 BB.r1 (by kernel_rfl) rfl (arr_one d) ?_; have RG := rw_setRow (k := w.heap.size + 1) (cs := d.arr) (g := 0) (n := 0) RG (fun g' q => by cases q; show GG ≠ _; omega); have BB := BB.put1 d.arr; refine hK _ _ ?_; clear hK K; have HF := HF.skip undef; generalize Act.put _ _ _ = a at HF ⊢
              generalize World.setRow _ _ _ = W2 at BB RG ⊢
              refine wpAny_ready (rs := [6]) (by kernel_rfl) (by simp) ?_
              refine ready_step none rfl rfl rfl (fun K hK => ?_) ?_
              · refine wp_store_row 30 _ _ rfl (w.heap.size + 2) _ (HF.get 8 rfl) (HF.get 2 rfl) 30 zero11 BB.r2 (by kernel_rfl) rfl (cells_one d) ?_; have RG := rw_setRow (k := w.heap.size + 2) (cs := d.cells) (g := 0) (n := 0) RG (fun g' q => by cases q; show GG ≠ _; omega); have BB := BB.put2 d.cells; refine hK _ _ ?_; clear hK K; have HF := HF.skip undef; generalize Act.put _ _ _ = a at HF ⊢
                generalize World.setRow _ _ _ = W2 at BB RG ⊢
                refine wpAny_ready (rs := [7]) (by kernel_rfl) (by simp) ?_
                refine ready_step (some 4) rfl rfl rfl (fun K hK => ?_) ?_
                · refine wp_assign rfl (HF.get 0 rfl) ?_; refine hK _ _ ?_; clear hK K; have HF := HF.put 4 (.slice (some ⟨GG, 0, none⟩) n n) (by decide) rfl; generalize Act.put _ _ _ = a at HF ⊢
                  exact wpAny_done (by kernel_rfl) (FIN _ _ ⟨HF.get 8 rfl, HF.get 9 rfl, _, HF.get 0 rfl, RG, BB, HF.1.2⟩) _
                exact AllReady.nil
              exact AllReady.nil
            exact AllReady.nil
          refine ready_step none rfl rfl rfl (fun K hK => ?_) ?_
          · refine wp_store_row 28 _ _ rfl (w.heap.size + 1) _ (HF.get 6 rfl) (HF.get 3 rfl) 28 zero24 BB.r1 (by kernel_rfl) rfl (arr_one d) ?_; have BB := BB.put1 d.arr; refine hK _ _ ?_; clear hK K; have HF := HF.skip undef; generalize Act.put _ _ _ = a at HF ⊢
            generalize World.setRow _ _ _ = W2 at BB ⊢
            refine wpAny_ready (rs := [4, 6]) (by kernel_rfl) (by simp) ?_
            refine ready_step (some 21) rfl rfl rfl (fun K hK => ?_) ?_
            · refine wp_make (n := n) rfl (HF.get 0 rfl) hn.symm i0 (.int .i64 0) Tryz.underlying31 hi0 hz0 hz1 HBY HML ?_; intro W3 q1 q2; obtain ⟨BB, RG, HGn⟩ := HMK.out _ _ _ _ BB q1 q2; clear q1 q2; generalize HGG : W2.heap.size = GG at RG HGn ⊢; refine hK _ _ ?_; clear hK K; have HF := HF.put 21 (.slice (some ⟨GG, 0, none⟩) n n) (by decide) rfl; generalize Act.put _ _ _ = a at HF ⊢
              refine wpAny_ready (rs := [6]) (by kernel_rfl) (by simp) ?_
              refine ready_step none rfl rfl rfl (fun K hK => ?_) ?_
              · refine wp_store_row 30 _ _ rfl (w.heap.size + 2) _ (HF.get 8 rfl) (HF.get 2 rfl) 30 zero11 BB.r2 (by kernel_rfl) rfl (cells_one d) ?_; have RG := rw_setRow (k := w.heap.size + 2) (cs := d.cells) (g := 0) (n := 0) RG (fun g' q => by cases q; show GG ≠ _; omega); have BB := BB.put2 d.cells; refine hK _ _ ?_; clear hK K; have HF := HF.skip undef; generalize Act.put _ _ _ = a at HF ⊢
                generalize World.setRow _ _ _ = W2 at BB RG ⊢
                refine wpAny_ready (rs := [7]) (by kernel_rfl) (by simp) ?_
                refine ready_step (some 4) rfl rfl rfl (fun K hK => ?_) ?_
                · refine wp_assign rfl (HF.get 0 rfl) ?_; refine hK _ _ ?_; clear hK K; have HF := HF.put 4 (.slice (some ⟨GG, 0, none⟩) n n) (by decide) rfl; generalize Act.put _ _ _ = a at HF ⊢
                  exact wpAny_done (by kernel_rfl) (FIN _ _ ⟨HF.get 8 rfl, HF.get 9 rfl, _, HF.get 0 rfl, RG, BB, HF.1.2⟩) _
                exact AllReady.nil
              exact AllReady.nil
            refine ready_step none rfl rfl rfl (fun K hK => ?_) ?_
            · refine wp_store_row 30 _ _ rfl (w.heap.size + 2) _ (HF.get 7 rfl) (HF.get 1 rfl) 30 zero11 BB.r2 (by kernel_rfl) rfl (cells_one d) ?_; have BB := BB.put2 d.cells; refine hK _ _ ?_; clear hK K; have HF := HF.skip undef; generalize Act.put _ _ _ = a at HF ⊢
              generalize World.setRow _ _ _ = W2 at BB ⊢
              refine wpAny_ready (rs := [4]) (by kernel_rfl) (by simp) ?_
              refine ready_step (some 21) rfl rfl rfl (fun K hK => ?_) ?_
              · refine wp_make (n := n) rfl (HF.get 0 rfl) hn.symm i0 (.int .i64 0) Tryz.underlying31 hi0 hz0 hz1 HBY HML ?_; intro W3 q1 q2; obtain ⟨BB, RG, HGn⟩ := HMK.out _ _ _ _ BB q1 q2; clear q1 q2; generalize HGG : W2.heap.size = GG at RG HGn ⊢; refine hK _ _ ?_; clear hK K; have HF := HF.put 21 (.slice (some ⟨GG, 0, none⟩) n n) (by decide) rfl; generalize Act.put _ _ _ = a at HF ⊢
                refine wpAny_ready (rs := [7]) (by kernel_rfl) (by simp) ?_
                refine ready_step (some 4) rfl rfl rfl (fun K hK => ?_) ?_
                · refine wp_assign rfl (HF.get 0 rfl) ?_; refine hK _ _ ?_; clear hK K; have HF := HF.put 4 (.slice (some ⟨GG, 0, none⟩) n n) (by decide) rfl; generalize Act.put _ _ _ = a at HF ⊢
                  exact wpAny_done (by kernel_rfl) (FIN _ _ ⟨HF.get 8 rfl, HF.get 9 rfl, _, HF.get 0 rfl, RG, BB, HF.1.2⟩) _
                exact AllReady.nil
              exact AllReady.nil
            exact AllReady.nil
          exact AllReady.nil
        exact AllReady.nil
      refine ready_step (some 20) rfl rfl rfl (fun K hK => ?_) ?_
      · refine wp_call1 (v0 := .agg d.cells) rfl (HF.get 0 rfl) HEN ?_; refine (y_rwords RR.out _).mono ?_; rintro e W2 ⟨rfl, m2⟩; have BB := BB.step m2; clear m2; refine hK _ _ ?_; clear hK K; have HF := HF.put 20 (.int .i64 d.words) (by decide) rfl; generalize Act.put _ _ _ = a at HF ⊢
        refine wpAny_ready (rs := [1, 4, 5]) (by kernel_rfl) (by simp) ?_
        refine ready_step (some 18) rfl rfl rfl (fun K hK => ?_) ?_
        · refine wp_load_row 30 _ rfl (w6.heap.size + 1) (HF.get 4 rfl) 30 _ _ _ BB.a2 Tryz.underlying30 rfl (by kernel_rfl) ?_; refine hK _ _ ?_; clear hK K; have HF := HF.put 18 (.agg d.cells) (by decide) rfl; generalize Act.put _ _ _ = a at HF ⊢
          refine wpAny_ready (rs := [4, 5]) (by kernel_rfl) (by simp) ?_
          refine ready_step (some 21) rfl rfl rfl (fun K hK => ?_) ?_
          · refine wp_make (n := n) rfl (HF.get 1 rfl) hn.symm i0 (.int .i64 0) Tryz.underlying31 hi0 hz0 hz1 HBY HML ?_; intro W3 q1 q2; obtain ⟨BB, RG, HGn⟩ := HMK.out _ _ _ _ BB q1 q2; clear q1 q2; generalize HGG : W2.heap.size = GG at RG HGn ⊢; refine hK _ _ ?_; clear hK K; have HF := HF.put 21 (.slice (some ⟨GG, 0, none⟩) n n) (by decide) rfl; generalize Act.put _ _ _ = a at HF ⊢
            refine wpAny_ready (rs := [5]) (by kernel_rfl) (by simp) ?_
            refine ready_step none rfl rfl rfl (fun K hK => ?_) ?_
            · refine wp_store_row 28 _ _ rfl (w.heap.size + 1) _ (HF.get 7 rfl) (HF.get 4 rfl) 28 zero24 BB.r1 (by kernel_rfl) rfl (arr_one d) ?_; have RG := rw_setRow (k := w.heap.size + 1) (cs := d.arr) (g := 0) (n := 0) RG (fun g' q => by cases q; show GG ≠ _; omega); have BB := BB.put1 d.arr; refine hK _ _ ?_; clear hK K; have HF := HF.skip undef; generalize Act.put _ _ _ = a at HF ⊢
              generalize World.setRow _ _ _ = W2 at BB RG ⊢
              refine wpAny_ready (rs := [6]) (by kernel_rfl) (by simp) ?_
              refine ready_step none rfl rfl rfl (fun K hK => ?_) ?_
              · refine wp_store_row 30 _ _ rfl (w.heap.size + 2) _ (HF.get 8 rfl) (HF.get 1 rfl) 30 zero11 BB.r2 (by kernel_rfl) rfl (cells_one d) ?_; have RG := rw_setRow (k := w.heap.size + 2) (cs := d.cells) (g := 0) (n := 0) RG (fun g' q => by cases q; show GG ≠ _; omega); have BB := BB.put2 d.cells; refine hK _ _ ?_; clear hK K; have HF := HF.skip undef; generalize Act.put _ _ _ = a at HF ⊢
                generalize World.setRow _ _ _ = W2 at BB RG ⊢
                refine wpAny_ready (rs := [7]) (by kernel_rfl) (by simp) ?_
                refine ready_step (some 4) rfl rfl rfl (fun K hK => ?_) ?_
                · refine wp_assign rfl (HF.get 0 rfl) ?_; refine hK _ _ ?_; clear hK K; have HF := HF.put 4 (.slice (some ⟨GG, 0, none⟩) n n) (by decide) rfl; generalize Act.put _ _ _ = a at HF ⊢
                  exact wpAny_done (by kernel_rfl) (FIN _ _ ⟨HF.get 8 rfl, HF.get 9 rfl, _, HF.get 0 rfl, RG, BB, HF.1.2⟩) _
                exact AllReady.nil
              exact AllReady.nil
            exact AllReady.nil
          refine ready_step none rfl rfl rfl (fun K hK => ?_) ?_
          · refine wp_store_row 28 _ _ rfl (w.heap.size + 1) _ (HF.get 6 rfl) (HF.get 3 rfl) 28 zero24 BB.r1 (by kernel_rfl) rfl (arr_one d) ?_; have BB := BB.put1 d.arr; refine hK _ _ ?_; clear hK K; have HF := HF.skip undef; generalize Act.put _ _ _ = a at HF ⊢
            generalize World.setRow _ _ _ = W2 at BB ⊢
            refine wpAny_ready (rs := [4, 6]) (by kernel_rfl) (by simp) ?_
            refine ready_step (some 21) rfl rfl rfl (fun K hK => ?_) ?_
            · refine wp_make (n := n) rfl (HF.get 1 rfl) hn.symm i0 (.int .i64 0) Tryz.underlying31 hi0 hz0 hz1 HBY HML ?_; intro W3 q1 q2; obtain ⟨BB, RG, HGn⟩ := HMK.out _ _ _ _ BB q1 q2; clear q1 q2; generalize HGG : W2.heap.size = GG at RG HGn ⊢; refine hK _ _ ?_; clear hK K; have HF := HF.put 21 (.slice (some ⟨GG, 0, none⟩) n n) (by decide) rfl; generalize Act.put _ _ _ = a at HF ⊢
              refine wpAny_ready (rs := [6]) (by kernel_rfl) (by simp) ?_
              refine ready_step none rfl rfl rfl (fun K hK => ?_) ?_
              · refine wp_store_row 30 _ _ rfl (w.heap.size + 2) _ (HF.get 8 rfl) (HF.get 1 rfl) 30 zero11 BB.r2 (by kernel_rfl) rfl (cells_one d) ?_; have RG := rw_setRow (k := w.heap.size + 2) (cs := d.cells) (g := 0) (n := 0) RG (fun g' q => by cases q; show GG ≠ _; omega); have BB := BB.put2 d.cells; refine hK _ _ ?_; clear hK K; have HF := HF.skip undef; generalize Act.put _ _ _ = a at HF ⊢
                generalize World.setRow _ _ _ = W2 at BB RG ⊢
                refine wpAny_ready (rs := [7]) (by kernel_rfl) (by simp) ?_
                refine ready_step (some 4) rfl rfl rfl (fun K hK => ?_) ?_
                · refine wp_assign rfl (HF.get 0 rfl) ?_; refine hK _ _ ?_; clear hK K; have HF := HF.put 4 (.slice (some ⟨GG, 0, none⟩) n n) (by decide) rfl; generalize Act.put _ _ _ = a at HF ⊢
                  exact wpAny_done (by kernel_rfl) (FIN _ _ ⟨HF.get 8 rfl, HF.get 9 rfl, _, HF.get 0 rfl, RG, BB, HF.1.2⟩) _
                exact AllReady.nil
              exact AllReady.nil
            refine ready_step none rfl rfl rfl (fun K hK => ?_) ?_
            · refine wp_store_row 30 _ _ rfl (w.heap.size + 2) _ (HF.get 7 rfl) (HF.get 0 rfl) 30 zero11 BB.r2 (by kernel_rfl) rfl (cells_one d) ?_; have BB := BB.put2 d.cells; refine hK _ _ ?_; clear hK K; have HF := HF.skip undef; generalize Act.put _ _ _ = a at HF ⊢
              generalize World.setRow _ _ _ = W2 at BB ⊢
              refine wpAny_ready (rs := [4]) (by kernel_rfl) (by simp) ?_
              refine ready_step (some 21) rfl rfl rfl (fun K hK => ?_) ?_
              · refine wp_make (n := n) rfl (HF.get 1 rfl) hn.symm i0 (.int .i64 0) Tryz.underlying31 hi0 hz0 hz1 HBY HML ?_; intro W3 q1 q2; obtain ⟨BB, RG, HGn⟩ := HMK.out _ _ _ _ BB q1 q2; clear q1 q2; generalize HGG : W2.heap.size = GG at RG HGn ⊢; refine hK _ _ ?_; clear hK K; have HF := HF.put 21 (.slice (some ⟨GG, 0, none⟩) n n) (by decide) rfl; generalize Act.put _ _ _ = a at HF ⊢
                refine wpAny_ready (rs := [7]) (by kernel_rfl) (by simp) ?_
                refine ready_step (some 4) rfl rfl rfl (fun K hK => ?_) ?_
                · refine wp_assign rfl (HF.get 0 rfl) ?_; refine hK _ _ ?_; clear hK K; have HF := HF.put 4 (.slice (some ⟨GG, 0, none⟩) n n) (by decide) rfl; generalize Act.put _ _ _ = a at HF ⊢
                  exact wpAny_done (by kernel_rfl) (FIN _ _ ⟨HF.get 8 rfl, HF.get 9 rfl, _, HF.get 0 rfl, RG, BB, HF.1.2⟩) _
                exact AllReady.nil
              exact AllReady.nil
            exact AllReady.nil
          exact AllReady.nil
        refine ready_step (some 21) rfl rfl rfl (fun K hK => ?_) ?_
        · refine wp_make (n := n) rfl (HF.get 0 rfl) hn.symm i0 (.int .i64 0) Tryz.underlying31 hi0 hz0 hz1 HBY HML ?_; intro W3 q1 q2; obtain ⟨BB, RG, HGn⟩ := HMK.out _ _ _ _ BB q1 q2; clear q1 q2; generalize HGG : W2.heap.size = GG at RG HGn ⊢; refine hK _ _ ?_; clear hK K; have HF := HF.put 21 (.slice (some ⟨GG, 0, none⟩) n n) (by decide) rfl; generalize Act.put _ _ _ = a at HF ⊢
          refine wpAny_ready (rs := [1, 5]) (by kernel_rfl) (by simp) ?_
          refine ready_step (some 18) rfl rfl rfl (fun K hK => ?_) ?_
          · refine wp_load_row 30 _ rfl (w6.heap.size + 1) (HF.get 5 rfl) 30 _ _ _ BB.a2 Tryz.underlying30 rfl (by kernel_rfl) ?_; refine hK _ _ ?_; clear hK K; have HF := HF.put 18 (.agg d.cells) (by decide) rfl; generalize Act.put _ _ _ = a at HF ⊢
            refine wpAny_ready (rs := [5]) (by kernel_rfl) (by simp) ?_
            refine ready_step none rfl rfl rfl (fun K hK => ?_) ?_
            · refine wp_store_row 28 _ _ rfl (w.heap.size + 1) _ (HF.get 7 rfl) (HF.get 4 rfl) 28 zero24 BB.r1 (by kernel_rfl) rfl (arr_one d) ?_; have RG := rw_setRow (k := w.heap.size + 1) (cs := d.arr) (g := 0) (n := 0) RG (fun g' q => by cases q; show GG ≠ _; omega); have BB := BB.put1 d.arr; refine hK _ _ ?_; clear hK K; have HF := HF.skip undef; generalize Act.put _ _ _ = a at HF ⊢
              generalize World.setRow _ _ _ = W2 at BB RG ⊢
              refine wpAny_ready (rs := [6]) (by kernel_rfl) (by simp) ?_
              refine ready_step none rfl rfl rfl (fun K hK => ?_) ?_
              · refine wp_store_row 30 _ _ rfl (w.heap.size + 2) _ (HF.get 8 rfl) (HF.get 0 rfl) 30 zero11 BB.r2 (by kernel_rfl) rfl (cells_one d) ?_; have RG := rw_setRow (k := w.heap.size + 2) (cs := d.cells) (g := 0) (n := 0) RG (fun g' q => by cases q; show GG ≠ _; omega); have BB := BB.put2 d.cells; refine hK _ _ ?_; clear hK K; have HF := HF.skip undef; generalize Act.put _ _ _ = a at HF ⊢
                generalize World.setRow _ _ _ = W2 at BB RG ⊢
                refine wpAny_ready (rs := [7]) (by kernel_rfl) (by simp) ?_
                refine ready_step (some 4) rfl rfl rfl (fun K hK => ?_) ?_
                · refine wp_assign rfl (HF.get 1 rfl) ?_; refine hK _ _ ?_; clear hK K; have HF := HF.put 4 (.slice (some ⟨GG, 0, none⟩) n n) (by decide) rfl; generalize Act.put _ _ _ = a at HF ⊢
                  exact wpAny_done (by kernel_rfl) (FIN _ _ ⟨HF.get 8 rfl, HF.get 9 rfl, _, HF.get 0 rfl, RG, BB, HF.1.2⟩) _
                exact AllReady.nil
              exact AllReady.nil
            exact AllReady.nil
          refine ready_step none rfl rfl rfl (fun K hK => ?_) ?_
          · refine wp_store_row 28 _ _ rfl (w.heap.size + 1) _ (HF.get 6 rfl) (HF.get 3 rfl) 28 zero24 BB.r1 (by kernel_rfl) rfl (arr_one d) ?_; have RG := rw_setRow (k := w.heap.size + 1) (cs := d.arr) (g := 0) (n := 0) RG (fun g' q => by cases q; show GG ≠ _; omega); have BB := BB.put1 d.arr; refine hK _ _ ?_; clear hK K; have HF := HF.skip undef; generalize Act.put _ _ _ = a at HF ⊢
            generalize World.setRow _ _ _ = W2 at BB RG ⊢
            refine wpAny_ready (rs := [1]) (by kernel_rfl) (by simp) ?_
            refine ready_step (some 18) rfl rfl rfl (fun K hK => ?_) ?_
            · refine wp_load_row 30 _ rfl (w6.heap.size + 1) (HF.get 5 rfl) 30 _ _ _ BB.a2 Tryz.underlying30 rfl (by kernel_rfl) ?_; refine hK _ _ ?_; clear hK K; have HF := HF.put 18 (.agg d.cells) (by decide) rfl; generalize Act.put _ _ _ = a at HF ⊢
              refine wpAny_ready (rs := [6]) (by kernel_rfl) (by simp) ?_
              refine ready_step none rfl rfl rfl (fun K hK => ?_) ?_
              · refine wp_store_row 30 _ _ rfl (w.heap.size + 2) _ (HF.get 8 rfl) (HF.get 0 rfl) 30 zero11 BB.r2 (by kernel_rfl) rfl (cells_one d) ?_; have RG := rw_setRow (k := w.heap.size + 2) (cs := d.cells) (g := 0) (n := 0) RG (fun g' q => by cases q; show GG ≠ _; omega); have BB := BB.put2 d.cells; refine hK _ _ ?_; clear hK K; have HF := HF.skip undef; generalize Act.put _ _ _ = a at HF ⊢
                generalize World.setRow _ _ _ = W2 at BB RG ⊢
                refine wpAny_ready (rs := [7]) (by kernel_rfl) (by simp) ?_
                refine ready_step (some 4) rfl rfl rfl (fun K hK => ?_) ?_
                · refine wp_assign rfl (HF.get 1 rfl) ?_; refine hK _ _ ?_; clear hK K; have HF := HF.put 4 (.slice (some ⟨GG, 0, none⟩) n n) (by decide) rfl; generalize Act.put _ _ _ = a at HF ⊢
                  exact wpAny_done (by kernel_rfl) (FIN _ _ ⟨HF.get 8 rfl, HF.get 9 rfl, _, HF.get 0 rfl, RG, BB, HF.1.2⟩) _
                exact AllReady.nil
              exact AllReady.nil
            exact AllReady.nil
          exact AllReady.nil
        refine ready_step none rfl rfl rfl (fun K hK => ?_) ?_
        · refine wp_store_row 28 _ _ rfl (w.heap.size + 1) _ (HF.get 5 rfl) (HF.get 2 rfl) 28 zero24 BB.r1 (by kernel_rfl) rfl (arr_one d) ?_; have BB := BB.put1 d.arr; refine hK _ _ ?_; clear hK K; have HF := HF.skip undef; generalize Act.put _ _ _ = a at HF ⊢
          generalize World.setRow _ _ _ = W2 at BB ⊢
          refine wpAny_ready (rs := [1, 4]) (by kernel_rfl) (by simp) ?_
          refine ready_step (some 18) rfl rfl rfl (fun K hK => ?_) ?_
          · refine wp_load_row 30 _ rfl (w6.heap.size + 1) (HF.get 4 rfl) 30 _ _ _ BB.a2 Tryz.underlying30 rfl (by kernel_rfl) ?_; refine hK _ _ ?_; clear hK K; have HF := HF.put 18 (.agg d.cells) (by decide) rfl; generalize Act.put _ _ _ = a at HF ⊢
            refine wpAny_ready (rs := [4, 6]) (by kernel_rfl) (by simp) ?_
            refine ready_step (some 21) rfl rfl rfl (fun K hK => ?_) ?_
            · refine wp_make (n := n) rfl (HF.get 1 rfl) hn.symm i0 (.int .i64 0) Tryz.underlying31 hi0 hz0 hz1 HBY HML ?_; intro W3 q1 q2; obtain ⟨BB, RG, HGn⟩ := HMK.out _ _ _ _ BB q1 q2; clear q1 q2; generalize HGG : W2.heap.size = GG at RG HGn ⊢; refine hK _ _ ?_; clear hK K; have HF := HF.put 21 (.slice (some ⟨GG, 0, none⟩) n n) (by decide) rfl; generalize Act.put _ _ _ = a at HF ⊢
              refine wpAny_ready (rs := [6]) (by kernel_rfl) (by simp) ?_
              refine ready_step none rfl rfl rfl (fun K hK => ?_) ?_
              · refine wp_store_row 30 _ _ rfl (w.heap.size + 2) _ (HF.get 8 rfl) (HF.get 1 rfl) 30 zero11 BB.r2 (by kernel_rfl) rfl (cells_one d) ?_; have RG := rw_setRow (k := w.heap.size + 2) (cs := d.cells) (g := 0) (n := 0) RG (fun g' q => by cases q; show GG ≠ _; omega); have BB := BB.put2 d.cells; refine hK _ _ ?_; clear hK K; have HF := HF.skip undef; generalize Act.put _ _ _ = a at HF ⊢
                generalize World.setRow _ _ _ = W2 at BB RG ⊢
                refine wpAny_ready (rs := [7]) (by kernel_rfl) (by simp) ?_
                refine ready_step (some 4) rfl rfl rfl (fun K hK => ?_) ?_
                · refine wp_assign rfl (HF.get 0 rfl) ?_; refine hK _ _ ?_; clear hK K; have HF := HF.put 4 (.slice (some ⟨GG, 0, none⟩) n n) (by decide) rfl; generalize Act.put _ _ _ = a at HF ⊢
                  exact wpAny_done (by kernel_rfl) (FIN _ _ ⟨HF.get 8 rfl, HF.get 9 rfl, _, HF.get 0 rfl, RG, BB, HF.1.2⟩) _
                exact AllReady.nil
              exact AllReady.nil
            refine ready_step none rfl rfl rfl (fun K hK => ?_) ?_
            · refine wp_store_row 30 _ _ rfl (w.heap.size + 2) _ (HF.get 7 rfl) (HF.get 0 rfl) 30 zero11 BB.r2 (by kernel_rfl) rfl (cells_one d) ?_; have BB := BB.put2 d.cells; refine hK _ _ ?_; clear hK K; have HF := HF.skip undef; generalize Act.put _ _ _ = a at HF ⊢
              generalize World.setRow _ _ _ = W2 at BB ⊢
              refine wpAny_ready (rs := [4]) (by kernel_rfl) (by simp) ?_
              refine ready_step (some 21) rfl rfl rfl (fun K hK => ?_) ?_
              · refine wp_make (n := n) rfl (HF.get 1 rfl) hn.symm i0 (.int .i64 0) Tryz.underlying31 hi0 hz0 hz1 HBY HML ?_; intro W3 q1 q2; obtain ⟨BB, RG, HGn⟩ := HMK.out _ _ _ _ BB q1 q2; clear q1 q2; generalize HGG : W2.heap.size = GG at RG HGn ⊢; refine hK _ _ ?_; clear hK K; have HF := HF.put 21 (.slice (some ⟨GG, 0, none⟩) n n) (by decide) rfl; generalize Act.put _ _ _ = a at HF ⊢
                refine wpAny_ready (rs := [7]) (by kernel_rfl) (by simp) ?_
                refine ready_step (some 4) rfl rfl rfl (fun K hK => ?_) ?_
                · refine wp_assign rfl (HF.get 0 rfl) ?_; refine hK _ _ ?_; clear hK K; have HF := HF.put 4 (.slice (some ⟨GG, 0, none⟩) n n) (by decide) rfl; generalize Act.put _ _ _ = a at HF ⊢
                  exact wpAny_done (by kernel_rfl) (FIN _ _ ⟨HF.get 8 rfl, HF.get 9 rfl, _, HF.get 0 rfl, RG, BB, HF.1.2⟩) _
                exact AllReady.nil
              exact AllReady.nil
            exact AllReady.nil
          refine ready_step (some 21) rfl rfl rfl (fun K hK => ?_) ?_
          · refine wp_make (n := n) rfl (HF.get 0 rfl) hn.symm i0 (.int .i64 0) Tryz.underlying31 hi0 hz0 hz1 HBY HML ?_; intro W3 q1 q2; obtain ⟨BB, RG, HGn⟩ := HMK.out _ _ _ _ BB q1 q2; clear q1 q2; generalize HGG : W2.heap.size = GG at RG HGn ⊢; refine hK _ _ ?_; clear hK K; have HF := HF.put 21 (.slice (some ⟨GG, 0, none⟩) n n) (by decide) rfl; generalize Act.put _ _ _ = a at HF ⊢
            refine wpAny_ready (rs := [1]) (by kernel_rfl) (by simp) ?_
            refine ready_step (some 18) rfl rfl rfl (fun K hK => ?_) ?_
            · refine wp_load_row 30 _ rfl (w6.heap.size + 1) (HF.get 5 rfl) 30 _ _ _ BB.a2 Tryz.underlying30 rfl (by kernel_rfl) ?_; refine hK _ _ ?_; clear hK K; have HF := HF.put 18 (.agg d.cells) (by decide) rfl; generalize Act.put _ _ _ = a at HF ⊢
              refine wpAny_ready (rs := [6]) (by kernel_rfl) (by simp) ?_
              refine ready_step none rfl rfl rfl (fun K hK => ?_) ?_
              · refine wp_store_row 30 _ _ rfl (w.heap.size + 2) _ (HF.get 8 rfl) (HF.get 0 rfl) 30 zero11 BB.r2 (by kernel_rfl) rfl (cells_one d) ?_; have RG := rw_setRow (k := w.heap.size + 2) (cs := d.cells) (g := 0) (n := 0) RG (fun g' q => by cases q; show GG ≠ _; omega); have BB := BB.put2 d.cells; refine hK _ _ ?_; clear hK K; have HF := HF.skip undef; generalize Act.put _ _ _ = a at HF ⊢
                generalize World.setRow _ _ _ = W2 at BB RG ⊢
                refine wpAny_ready (rs := [7]) (by kernel_rfl) (by simp) ?_
                refine ready_step (some 4) rfl rfl rfl (fun K hK => ?_) ?_
                · refine wp_assign rfl (HF.get 1 rfl) ?_; refine hK _ _ ?_; clear hK K; have HF := HF.put 4 (.slice (some ⟨GG, 0, none⟩) n n) (by decide) rfl; generalize Act.put _ _ _ = a at HF ⊢
                  exact wpAny_done (by kernel_rfl) (FIN _ _ ⟨HF.get 8 rfl, HF.get 9 rfl, _, HF.get 0 rfl, RG, BB, HF.1.2⟩) _
                exact AllReady.nil
              exact AllReady.nil
            exact AllReady.nil
          exact AllReady.nil
        exact AllReady.nil
      exact AllReady.nil
    exact AllReady.nil
  refine ready_step (some 18) rfl rfl rfl (fun K hK => ?_) ?_
  · refine wp_load_row 30 _ rfl (w6.heap.size + 1) (HF.get 1 rfl) 30 _ _ _ BB.a2 Tryz.underlying30 rfl (by kernel_rfl) ?_; refine hK _ _ ?_; clear hK K; have HF := HF.put 18 (.agg d.cells) (by decide) rfl; generalize Act.put _ _ _ = a at HF ⊢
    refine wpAny_ready (rs := [0, 2]) (by kernel_rfl) (by simp) ?_
    refine ready_step (some 17) rfl rfl rfl (fun K hK => ?_) ?_
    · refine wp_load_row 28 _ rfl w6.heap.size (HF.get 1 rfl) 28 _ _ _ BB.a1 Tryz.underlying28 rfl (by kernel_rfl) ?_; refine hK _ _ ?_; clear hK K; have HF := HF.put 17 (.agg d.arr) (by decide) rfl; generalize Act.put _ _ _ = a at HF ⊢
      refine wpAny_ready (rs := [2]) (by kernel_rfl) (by simp) ?_
      refine ready_step (some 19) rfl rfl rfl (fun K hK => ?_) ?_
      · refine wp_load_row 30 _ rfl (w6.heap.size + 1) (HF.get 3 rfl) 30 _ _ _ BB.a2 Tryz.underlying30 rfl (by kernel_rfl) ?_; refine hK _ _ ?_; clear hK K; have HF := HF.put 19 (.agg d.cells) (by decide) rfl; generalize Act.put _ _ _ = a at HF ⊢
        refine wpAny_ready (rs := [3]) (by kernel_rfl) (by simp) ?_
        refine ready_step (some 20) rfl rfl rfl (fun K hK => ?_) ?_
        · refine wp_call1 (v0 := .agg d.cells) rfl (HF.get 0 rfl) HEN ?_; refine (y_rwords RR.out _).mono ?_; rintro e W2 ⟨rfl, m2⟩; have BB := BB.step m2; clear m2; refine hK _ _ ?_; clear hK K; have HF := HF.put 20 (.int .i64 d.words) (by decide) rfl; generalize Act.put _ _ _ = a at HF ⊢
          refine wpAny_ready (rs := [4, 5]) (by kernel_rfl) (by simp) ?_
          refine ready_step (some 21) rfl rfl rfl (fun K hK => ?_) ?_
          · refine wp_make (n := n) rfl (HF.get 0 rfl) hn.symm i0 (.int .i64 0) Tryz.underlying31 hi0 hz0 hz1 HBY HML ?_; intro W3 q1 q2; obtain ⟨BB, RG, HGn⟩ := HMK.out _ _ _ _ BB q1 q2; clear q1 q2; generalize HGG : W2.heap.size = GG at RG HGn ⊢; refine hK _ _ ?_; clear hK K; have HF := HF.put 21 (.slice (some ⟨GG, 0, none⟩) n n) (by decide) rfl; generalize Act.put _ _ _ = a at HF ⊢
            refine wpAny_ready (rs := [5]) (by kernel_rfl) (by simp) ?_
            refine ready_step none rfl rfl rfl (fun K hK => ?_) ?_
            · refine wp_store_row 28 _ _ rfl (w.heap.size + 1) _ (HF.get 7 rfl) (HF.get 3 rfl) 28 zero24 BB.r1 (by kernel_rfl) rfl (arr_one d) ?_; have RG := rw_setRow (k := w.heap.size + 1) (cs := d.arr) (g := 0) (n := 0) RG (fun g' q => by cases q; show GG ≠ _; omega); have BB := BB.put1 d.arr; refine hK _ _ ?_; clear hK K; have HF := HF.skip undef; generalize Act.put _ _ _ = a at HF ⊢
              generalize World.setRow _ _ _ = W2 at BB RG ⊢
              refine wpAny_ready (rs := [6]) (by kernel_rfl) (by simp) ?_
              refine ready_step none rfl rfl rfl (fun K hK => ?_) ?_
              · refine wp_store_row 30 _ _ rfl (w.heap.size + 2) _ (HF.get 8 rfl) (HF.get 4 rfl) 30 zero11 BB.r2 (by kernel_rfl) rfl (cells_one d) ?_; have RG := rw_setRow (k := w.heap.size + 2) (cs := d.cells) (g := 0) (n := 0) RG (fun g' q => by cases q; show GG ≠ _; omega); have BB := BB.put2 d.cells; refine hK _ _ ?_; clear hK K; have HF := HF.skip undef; generalize Act.put _ _ _ = a at HF ⊢
                generalize World.setRow _ _ _ = W2 at BB RG ⊢
                refine wpAny_ready (rs := [7]) (by kernel_rfl) (by simp) ?_
                refine ready_step (some 4) rfl rfl rfl (fun K hK => ?_) ?_
                · refine wp_assign rfl (HF.get 0 rfl) ?_; refine hK _ _ ?_; clear hK K; have HF := HF.put 4 (.slice (some ⟨GG, 0, none⟩) n n) (by decide) rfl; generalize Act.put _ _ _ = a at HF ⊢
                  exact wpAny_done (by kernel_rfl) (FIN _ _ ⟨HF.get 8 rfl, HF.get 9 rfl, _, HF.get 0 rfl, RG, BB, HF.1.2⟩) _
                exact AllReady.nil
              exact AllReady.nil
            exact AllReady.nil
          refine ready_step none rfl rfl rfl (fun K hK => ?_) ?_
          · refine wp_store_row 28 _ _ rfl (w.heap.size + 1) _ (HF.get 6 rfl) (HF.get 2 rfl) 28 zero24 BB.r1 (by kernel_rfl) rfl (arr_one d) ?_; have BB := BB.put1 d.arr; refine hK _ _ ?_; clear hK K; have HF := HF.skip undef; generalize Act.put _ _ _ = a at HF ⊢
            generalize World.setRow _ _ _ = W2 at BB ⊢
            refine wpAny_ready (rs := [4, 6]) (by kernel_rfl) (by simp) ?_
            refine ready_step (some 21) rfl rfl rfl (fun K hK => ?_) ?_
            · refine wp_make (n := n) rfl (HF.get 0 rfl) hn.symm i0 (.int .i64 0) Tryz.underlying31 hi0 hz0 hz1 HBY HML ?_; intro W3 q1 q2; obtain ⟨BB, RG, HGn⟩ := HMK.out _ _ _ _ BB q1 q2; clear q1 q2; generalize HGG : W2.heap.size = GG at RG HGn ⊢; refine hK _ _ ?_; clear hK K; have HF := HF.put 21 (.slice (some ⟨GG, 0, none⟩) n n) (by decide) rfl; generalize Act.put _ _ _ = a at HF ⊢
              refine wpAny_ready (rs := [6]) (by kernel_rfl) (by simp) ?_
              refine ready_step none rfl rfl rfl (fun K hK => ?_) ?_
              · refine wp_store_row 30 _ _ rfl (w.heap.size + 2) _ (HF.get 8 rfl) (HF.get 4 rfl) 30 zero11 BB.r2 (by kernel_rfl) rfl (cells_one d) ?_; have RG := rw_setRow (k := w.heap.size + 2) (cs := d.cells) (g := 0) (n := 0) RG (fun g' q => by cases q; show GG ≠ _; omega); have BB := BB.put2 d.cells; refine hK _ _ ?_; clear hK K; have HF := HF.skip undef; generalize Act.put _ _ _ = a at HF ⊢
                generalize World.setRow _ _ _ = W2 at BB RG ⊢
                refine wpAny_ready (rs := [7]) (by kernel_rfl) (by simp) ?_
                refine ready_step (some 4) rfl rfl rfl (fun K hK => ?_) ?_
                · refine wp_assign rfl (HF.get 0 rfl) ?_; refine hK _ _ ?_; clear hK K; have HF := HF.put 4 (.slice (some ⟨GG, 0, none⟩) n n) (by decide) rfl; generalize Act.put _ _ _ = a at HF ⊢
                  exact wpAny_done (by kernel_rfl) (FIN _ _ ⟨HF.get 8 rfl, HF.get 9 rfl, _, HF.get 0 rfl, RG, BB, HF.1.2⟩) _
                exact AllReady.nil
              exact AllReady.nil
            refine ready_step none rfl rfl rfl (fun K hK => ?_) ?_
            · refine wp_store_row 30 _ _ rfl (w.heap.size + 2) _ (HF.get 7 rfl) (HF.get 3 rfl) 30 zero11 BB.r2 (by kernel_rfl) rfl (cells_one d) ?_; have BB := BB.put2 d.cells; refine hK _ _ ?_; clear hK K; have HF := HF.skip undef; generalize Act.put _ _ _ = a at HF ⊢
              generalize World.setRow _ _ _ = W2 at BB ⊢
              refine wpAny_ready (rs := [4]) (by kernel_rfl) (by simp) ?_
              refine ready_step (some 21) rfl rfl rfl (fun K hK => ?_) ?_
              · refine wp_make (n := n) rfl (HF.get 0 rfl) hn.symm i0 (.int .i64 0) Tryz.underlying31 hi0 hz0 hz1 HBY HML ?_; intro W3 q1 q2; obtain ⟨BB, RG, HGn⟩ := HMK.out _ _ _ _ BB q1 q2; clear q1 q2; generalize HGG : W2.heap.size = GG at RG HGn ⊢; refine hK _ _ ?_; clear hK K; have HF := HF.put 21 (.slice (some ⟨GG, 0, none⟩) n n) (by decide) rfl; generalize Act.put _ _ _ = a at HF ⊢
                refine wpAny_ready (rs := [7]) (by kernel_rfl) (by simp) ?_
                refine ready_step (some 4) rfl rfl rfl (fun K hK => ?_) ?_
                · refine wp_assign rfl (HF.get 0 rfl) ?_; refine hK _ _ ?_; clear hK K; have HF := HF.put 4 (.slice (some ⟨GG, 0, none⟩) n n) (by decide) rfl; generalize Act.put _ _ _ = a at HF ⊢
                  exact wpAny_done (by kernel_rfl) (FIN _ _ ⟨HF.get 8 rfl, HF.get 9 rfl, _, HF.get 0 rfl, RG, BB, HF.1.2⟩) _
                exact AllReady.nil
              exact AllReady.nil
            exact AllReady.nil
          exact AllReady.nil
        exact AllReady.nil
      exact AllReady.nil
    refine ready_step (some 19) rfl rfl rfl (fun K hK => ?_) ?_
    · refine wp_load_row 30 _ rfl (w6.heap.size + 1) (HF.get 2 rfl) 30 _ _ _ BB.a2 Tryz.underlying30 rfl (by kernel_rfl) ?_; refine hK _ _ ?_; clear hK K; have HF := HF.put 19 (.agg d.cells) (by decide) rfl; generalize Act.put _ _ _ = a at HF ⊢
      refine wpAny_ready (rs := [0, 3]) (by kernel_rfl) (by simp) ?_
      refine ready_step (some 17) rfl rfl rfl (fun K hK => ?_) ?_
      · refine wp_load_row 28 _ rfl w6.heap.size (HF.get 2 rfl) 28 _ _ _ BB.a1 Tryz.underlying28 rfl (by kernel_rfl) ?_; refine hK _ _ ?_; clear hK K; have HF := HF.put 17 (.agg d.arr) (by decide) rfl; generalize Act.put _ _ _ = a at HF ⊢
        refine wpAny_ready (rs := [3]) (by kernel_rfl) (by simp) ?_
        refine ready_step (some 20) rfl rfl rfl (fun K hK => ?_) ?_
        · refine wp_call1 (v0 := .agg d.cells) rfl (HF.get 1 rfl) HEN ?_; refine (y_rwords RR.out _).mono ?_; rintro e W2 ⟨rfl, m2⟩; have BB := BB.step m2; clear m2; refine hK _ _ ?_; clear hK K; have HF := HF.put 20 (.int .i64 d.words) (by decide) rfl; generalize Act.put _ _ _ = a at HF ⊢
          refine wpAny_ready (rs := [4, 5]) (by kernel_rfl) (by simp) ?_
          refine ready_step (some 21) rfl rfl rfl (fun K hK => ?_) ?_
          · refine wp_make (n := n) rfl (HF.get 0 rfl) hn.symm i0 (.int .i64 0) Tryz.underlying31 hi0 hz0 hz1 HBY HML ?_; intro W3 q1 q2; obtain ⟨BB, RG, HGn⟩ := HMK.out _ _ _ _ BB q1 q2; clear q1 q2; generalize HGG : W2.heap.size = GG at RG HGn ⊢; refine hK _ _ ?_; clear hK K; have HF := HF.put 21 (.slice (some ⟨GG, 0, none⟩) n n) (by decide) rfl; generalize Act.put _ _ _ = a at HF ⊢
            refine wpAny_ready (rs := [5]) (by kernel_rfl) (by simp) ?_
            refine ready_step none rfl rfl rfl (fun K hK => ?_) ?_
            · refine wp_store_row 28 _ _ rfl (w.heap.size + 1) _ (HF.get 7 rfl) (HF.get 2 rfl) 28 zero24 BB.r1 (by kernel_rfl) rfl (arr_one d) ?_; have RG := rw_setRow (k := w.heap.size + 1) (cs := d.arr) (g := 0) (n := 0) RG (fun g' q => by cases q; show GG ≠ _; omega); have BB := BB.put1 d.arr; refine hK _ _ ?_; clear hK K; have HF := HF.skip undef; generalize Act.put _ _ _ = a at HF ⊢
              generalize World.setRow _ _ _ = W2 at BB RG ⊢
              refine wpAny_ready (rs := [6]) (by kernel_rfl) (by simp) ?_
              refine ready_step none rfl rfl rfl (fun K hK => ?_) ?_
              · refine wp_store_row 30 _ _ rfl (w.heap.size + 2) _ (HF.get 8 rfl) (HF.get 4 rfl) 30 zero11 BB.r2 (by kernel_rfl) rfl (cells_one d) ?_; have RG := rw_setRow (k := w.heap.size + 2) (cs := d.cells) (g := 0) (n := 0) RG (fun g' q => by cases q; show GG ≠ _; omega); have BB := BB.put2 d.cells; refine hK _ _ ?_; clear hK K; have HF := HF.skip undef; generalize Act.put _ _ _ = a at HF ⊢
                generalize World.setRow _ _ _ = W2 at BB RG ⊢
                refine wpAny_ready (rs := [7]) (by kernel_rfl) (by simp) ?_
                refine ready_step (some 4) rfl rfl rfl (fun K hK => ?_) ?_
                · refine wp_assign rfl (HF.get 0 rfl) ?_; refine hK _ _ ?_; clear hK K; have HF := HF.put 4 (.slice (some ⟨GG, 0, none⟩) n n) (by decide) rfl; generalize Act.put _ _ _ = a at HF ⊢
                  exact wpAny_done (by kernel_rfl) (FIN _ _ ⟨HF.get 8 rfl, HF.get 9 rfl, _, HF.get 0 rfl, RG, BB, HF.1.2⟩) _
                exact AllReady.nil
              exact AllReady.nil
            exact AllReady.nil
          refine ready_step none rfl rfl rfl (fun K hK => ?_) ?_
          · refine wp_store_row 28 _ _ rfl (w.heap.size + 1) _ (HF.get 6 rfl) (HF.get 1 rfl) 28 zero24 BB.r1 (by kernel_rfl) rfl (arr_one d) ?_; have BB := BB.put1 d.arr; refine hK _ _ ?_; clear hK K; have HF := HF.skip undef; generalize Act.put _ _ _ = a at HF ⊢
            generalize World.setRow _ _ _ = W2 at BB ⊢
            refine wpAny_ready (rs := [4, 6]) (by kernel_rfl) (by simp) ?_
            refine ready_step (some 21) rfl rfl rfl (fun K hK => ?_) ?_
            · refine wp_make (n := n) rfl (HF.get 0 rfl) hn.symm i0 (.int .i64 0) Tryz.underlying31 hi0 hz0 hz1 HBY HML ?_; intro W3 q1 q2; obtain ⟨BB, RG, HGn⟩ := HMK.out _ _ _ _ BB q1 q2; clear q1 q2; generalize HGG : W2.heap.size = GG at RG HGn ⊢; refine hK _ _ ?_; clear hK K; have HF := HF.put 21 (.slice (some ⟨GG, 0, none⟩) n n) (by decide) rfl; generalize Act.put _ _ _ = a at HF ⊢
              refine wpAny_ready (rs := [6]) (by kernel_rfl) (by simp) ?_
              refine ready_step none rfl rfl rfl (fun K hK => ?_) ?_
              · refine wp_store_row 30 _ _ rfl (w.heap.size + 2) _ (HF.get 8 rfl) (HF.get 4 rfl) 30 zero11 BB.r2 (by kernel_rfl) rfl (cells_one d) ?_; have RG := rw_setRow (k := w.heap.size + 2) (cs := d.cells) (g := 0) (n := 0) RG (fun g' q => by cases q; show GG ≠ _; omega); have BB := BB.put2 d.cells; refine hK _ _ ?_; clear hK K; have HF := HF.skip undef; generalize Act.put _ _ _ = a at HF ⊢
                generalize World.setRow _ _ _ = W2 at BB RG ⊢
                refine wpAny_ready (rs := [7]) (by kernel_rfl) (by simp) ?_
                refine ready_step (some 4) rfl rfl rfl (fun K hK => ?_) ?_
                · refine wp_assign rfl (HF.get 0 rfl) ?_; refine hK _ _ ?_; clear hK K; have HF := HF.put 4 (.slice (some ⟨GG, 0, none⟩) n n) (by decide) rfl; generalize Act.put _ _ _ = a at HF ⊢
                  exact wpAny_done (by kernel_rfl) (FIN _ _ ⟨HF.get 8 rfl, HF.get 9 rfl, _, HF.get 0 rfl, RG, BB, HF.1.2⟩) _
                exact AllReady.nil
              exact AllReady.nil
            refine ready_step none rfl rfl rfl (fun K hK => ?_) ?_
            · refine wp_store_row 30 _ _ rfl (w.heap.size + 2) _ (HF.get 7 rfl) (HF.get 3 rfl) 30 zero11 BB.r2 (by kernel_rfl) rfl (cells_one d) ?_; have BB := BB.put2 d.cells; refine hK _ _ ?_; clear hK K; have HF := HF.skip undef; generalize Act.put _ _ _ = a at HF ⊢
              generalize World.setRow _ _ _ = W2 at BB ⊢
              refine wpAny_ready (rs := [4]) (by kernel_rfl) (by simp) ?_
              refine ready_step (some 21) rfl rfl rfl (fun K hK => ?_) ?_
              · refine wp_make (n := n) rfl (HF.get 0 rfl) hn.symm i0 (.int .i64 0) Tryz.underlying31 hi0 hz0 hz1 HBY HML ?_; intro W3 q1 q2; obtain ⟨BB, RG, HGn⟩ := HMK.out _ _ _ _ BB q1 q2; clear q1 q2; generalize HGG : W2.heap.size = GG at RG HGn ⊢; refine hK _ _ ?_; clear hK K; have HF := HF.put 21 (.slice (some ⟨GG, 0, none⟩) n n) (by decide) rfl; generalize Act.put _ _ _ = a at HF ⊢
                refine wpAny_ready (rs := [7]) (by kernel_rfl) (by simp) ?_
                refine ready_step (some 4) rfl rfl rfl (fun K hK => ?_) ?_
                · refine wp_assign rfl (HF.get 0 rfl) ?_; refine hK _ _ ?_; clear hK K; have HF := HF.put 4 (.slice (some ⟨GG, 0, none⟩) n n) (by decide) rfl; generalize Act.put _ _ _ = a at HF ⊢
                  exact wpAny_done (by kernel_rfl) (FIN _ _ ⟨HF.get 8 rfl, HF.get 9 rfl, _, HF.get 0 rfl, RG, BB, HF.1.2⟩) _
                exact AllReady.nil
              exact AllReady.nil
            exact AllReady.nil
          exact AllReady.nil
        exact AllReady.nil
      refine ready_step (some 20) rfl rfl rfl (fun K hK => ?_) ?_
      · refine wp_call1 (v0 := .agg d.cells) rfl (HF.get 0 rfl) HEN ?_; refine (y_rwords RR.out _).mono ?_; rintro e W2 ⟨rfl, m2⟩; have BB := BB.step m2; clear m2; refine hK _ _ ?_; clear hK K; have HF := HF.put 20 (.int .i64 d.words) (by decide) rfl; generalize Act.put _ _ _ = a at HF ⊢
        refine wpAny_ready (rs := [0, 4]) (by kernel_rfl) (by simp) ?_
        refine ready_step (some 17) rfl rfl rfl (fun K hK => ?_) ?_
        · refine wp_load_row 28 _ rfl w6.heap.size (HF.get 3 rfl) 28 _ _ _ BB.a1 Tryz.underlying28 rfl (by kernel_rfl) ?_; refine hK _ _ ?_; clear hK K; have HF := HF.put 17 (.agg d.arr) (by decide) rfl; generalize Act.put _ _ _ = a at HF ⊢
          refine wpAny_ready (rs := [4, 5]) (by kernel_rfl) (by simp) ?_
          refine ready_step (some 21) rfl rfl rfl (fun K hK => ?_) ?_
          · refine wp_make (n := n) rfl (HF.get 1 rfl) hn.symm i0 (.int .i64 0) Tryz.underlying31 hi0 hz0 hz1 HBY HML ?_; intro W3 q1 q2; obtain ⟨BB, RG, HGn⟩ := HMK.out _ _ _ _ BB q1 q2; clear q1 q2; generalize HGG : W2.heap.size = GG at RG HGn ⊢; refine hK _ _ ?_; clear hK K; have HF := HF.put 21 (.slice (some ⟨GG, 0, none⟩) n n) (by decide) rfl; generalize Act.put _ _ _ = a at HF ⊢
            refine wpAny_ready (rs := [5]) (by kernel_rfl) (by simp) ?_
            refine ready_step none rfl rfl rfl (fun K hK => ?_) ?_
            · refine wp_store_row 28 _ _ rfl (w.heap.size + 1) _ (HF.get 7 rfl) (HF.get 1 rfl) 28 zero24 BB.r1 (by kernel_rfl) rfl (arr_one d) ?_; have RG := rw_setRow (k := w.heap.size + 1) (cs := d.arr) (g := 0) (n := 0) RG (fun g' q => by cases q; show GG ≠ _; omega); have BB := BB.put1 d.arr; refine hK _ _ ?_; clear hK K; have HF := HF.skip undef; generalize Act.put _ _ _ = a at HF ⊢
              generalize World.setRow _ _ _ = W2 at BB RG ⊢
              refine wpAny_ready (rs := [6]) (by kernel_rfl) (by simp) ?_
              refine ready_step none rfl rfl rfl (fun K hK => ?_) ?_
              · refine wp_store_row 30 _ _ rfl (w.heap.size + 2) _ (HF.get 8 rfl) (HF.get 4 rfl) 30 zero11 BB.r2 (by kernel_rfl) rfl (cells_one d) ?_; have RG := rw_setRow (k := w.heap.size + 2) (cs := d.cells) (g := 0) (n := 0) RG (fun g' q => by cases q; show GG ≠ _; omega); have BB := BB.put2 d.cells; refine hK _ _ ?_; clear hK K; have HF := HF.skip undef; generalize Act.put _ _ _ = a at HF ⊢
                generalize World.setRow _ _ _ = W2 at BB RG ⊢
                refine wpAny_ready (rs := [7]) (by kernel_rfl) (by simp) ?_
                refine ready_step (some 4) rfl rfl rfl (fun K hK => ?_) ?_
                · refine wp_assign rfl (HF.get 0 rfl) ?_; refine hK _ _ ?_; clear hK K; have HF := HF.put 4 (.slice (some ⟨GG, 0, none⟩) n n) (by decide) rfl; generalize Act.put _ _ _ = a at HF ⊢
                  exact wpAny_done (by kernel_rfl) (FIN _ _ ⟨HF.get 8 rfl, HF.get 9 rfl, _, HF.get 0 rfl, RG, BB, HF.1.2⟩) _
                exact AllReady.nil
              exact AllReady.nil
            exact AllReady.nil
          refine ready_step none rfl rfl rfl (fun K hK => ?_) ?_
          · refine wp_store_row 28 _ _ rfl (w.heap.size + 1) _ (HF.get 6 rfl) (HF.get 0 rfl) 28 zero24 BB.r1 (by kernel_rfl) rfl (arr_one d) ?_; have BB := BB.put1 d.arr; refine hK _ _ ?_; clear hK K; have HF := HF.skip undef; generalize Act.put _ _ _ = a at HF ⊢
            generalize World.setRow _ _ _ = W2 at BB ⊢
            refine wpAny_ready (rs := [4, 6]) (by kernel_rfl) (by simp) ?_
            refine ready_step (some 21) rfl rfl rfl (fun K hK => ?_) ?_
            · refine wp_make (n := n) rfl (HF.get 1 rfl) hn.symm i0 (.int .i64 0) Tryz.underlying31 hi0 hz0 hz1 HBY HML ?_; intro W3 q1 q2; obtain ⟨BB, RG, HGn⟩ := HMK.out _ _ _ _ BB q1 q2; clear q1 q2; generalize HGG : W2.heap.size = GG at RG HGn ⊢; refine hK _ _ ?_; clear hK K; have HF := HF.put 21 (.slice (some ⟨GG, 0, none⟩) n n) (by decide) rfl; generalize Act.put _ _ _ = a at HF ⊢
              refine wpAny_ready (rs := [6]) (by kernel_rfl) (by simp) ?_
              refine ready_step none rfl rfl rfl (fun K hK => ?_) ?_
              · refine wp_store_row 30 _ _ rfl (w.heap.size + 2) _ (HF.get 8 rfl) (HF.get 4 rfl) 30 zero11 BB.r2 (by kernel_rfl) rfl (cells_one d) ?_; have RG := rw_setRow (k := w.heap.size + 2) (cs := d.cells) (g := 0) (n := 0) RG (fun g' q => by cases q; show GG ≠ _; omega); have BB := BB.put2 d.cells; refine hK _ _ ?_; clear hK K; have HF := HF.skip undef; generalize Act.put _ _ _ = a at HF ⊢
                generalize World.setRow _ _ _ = W2 at BB RG ⊢
                refine wpAny_ready (rs := [7]) (by kernel_rfl) (by simp) ?_
                refine ready_step (some 4) rfl rfl rfl (fun K hK => ?_) ?_
                · refine wp_assign rfl (HF.get 0 rfl) ?_; refine hK _ _ ?_; clear hK K; have HF := HF.put 4 (.slice (some ⟨GG, 0, none⟩) n n) (by decide) rfl; generalize Act.put _ _ _ = a at HF ⊢
                  exact wpAny_done (by kernel_rfl) (FIN _ _ ⟨HF.get 8 rfl, HF.get 9 rfl, _, HF.get 0 rfl, RG, BB, HF.1.2⟩) _
                exact AllReady.nil
              exact AllReady.nil
            refine ready_step none rfl rfl rfl (fun K hK => ?_) ?_
            · refine wp_store_row 30 _ _ rfl (w.heap.size + 2) _ (HF.get 7 rfl) (HF.get 3 rfl) 30 zero11 BB.r2 (by kernel_rfl) rfl (cells_one d) ?_; have BB := BB.put2 d.cells; refine hK _ _ ?_; clear hK K; have HF := HF.skip undef; generalize Act.put _ _ _ = a at HF ⊢
              generalize World.setRow _ _ _ = W2 at BB ⊢
              refine wpAny_ready (rs := [4]) (by kernel_rfl) (by simp) ?_
              refine ready_step (some 21) rfl rfl rfl (fun K hK => ?_) ?_
              · refine wp_make (n := n) rfl (HF.get 1 rfl) hn.symm i0 (.int .i64 0) Tryz.underlying31 hi0 hz0 hz1 HBY HML ?_; intro W3 q1 q2; obtain ⟨BB, RG, HGn⟩ := HMK.out _ _ _ _ BB q1 q2; clear q1 q2; generalize HGG : W2.heap.size = GG at RG HGn ⊢; refine hK _ _ ?_; clear hK K; have HF := HF.put 21 (.slice (some ⟨GG, 0, none⟩) n n) (by decide) rfl; generalize Act.put _ _ _ = a at HF ⊢
                refine wpAny_ready (rs := [7]) (by kernel_rfl) (by simp) ?_
                refine ready_step (some 4) rfl rfl rfl (fun K hK => ?_) ?_
                · refine wp_assign rfl (HF.get 0 rfl) ?_; refine hK _ _ ?_; clear hK K; have HF := HF.put 4 (.slice (some ⟨GG, 0, none⟩) n n) (by decide) rfl; generalize Act.put _ _ _ = a at HF ⊢
                  exact wpAny_done (by kernel_rfl) (FIN _ _ ⟨HF.get 8 rfl, HF.get 9 rfl, _, HF.get 0 rfl, RG, BB, HF.1.2⟩) _
                exact AllReady.nil
              exact AllReady.nil
            exact AllReady.nil
          exact AllReady.nil
        refine ready_step (some 21) rfl rfl rfl (fun K hK => ?_) ?_
        · refine wp_make (n := n) rfl (HF.get 0 rfl) hn.symm i0 (.int .i64 0) Tryz.underlying31 hi0 hz0 hz1 HBY HML ?_; intro W3 q1 q2; obtain ⟨BB, RG, HGn⟩ := HMK.out _ _ _ _ BB q1 q2; clear q1 q2; generalize HGG : W2.heap.size = GG at RG HGn ⊢; refine hK _ _ ?_; clear hK K; have HF := HF.put 21 (.slice (some ⟨GG, 0, none⟩) n n) (by decide) rfl; generalize Act.put _ _ _ = a at HF ⊢
          refine wpAny_ready (rs := [0]) (by kernel_rfl) (by simp) ?_
          refine ready_step (some 17) rfl rfl rfl (fun K hK => ?_) ?_
          · refine wp_load_row 28 _ rfl w6.heap.size (HF.get 4 rfl) 28 _ _ _ BB.a1 Tryz.underlying28 rfl (by kernel_rfl) ?_; refine hK _ _ ?_; clear hK K; have HF := HF.put 17 (.agg d.arr) (by decide) rfl; generalize Act.put _ _ _ = a at HF ⊢
            refine wpAny_ready (rs := [5]) (by kernel_rfl) (by simp) ?_
            refine ready_step none rfl rfl rfl (fun K hK => ?_) ?_
            · refine wp_store_row 28 _ _ rfl (w.heap.size + 1) _ (HF.get 7 rfl) (HF.get 0 rfl) 28 zero24 BB.r1 (by kernel_rfl) rfl (arr_one d) ?_; have RG := rw_setRow (k := w.heap.size + 1) (cs := d.arr) (g := 0) (n := 0) RG (fun g' q => by cases q; show GG ≠ _; omega); have BB := BB.put1 d.arr; refine hK _ _ ?_; clear hK K; have HF := HF.skip undef; generalize Act.put _ _ _ = a at HF ⊢
              generalize World.setRow _ _ _ = W2 at BB RG ⊢
              refine wpAny_ready (rs := [6]) (by kernel_rfl) (by simp) ?_
              refine ready_step none rfl rfl rfl (fun K hK => ?_) ?_
              · refine wp_store_row 30 _ _ rfl (w.heap.size + 2) _ (HF.get 8 rfl) (HF.get 4 rfl) 30 zero11 BB.r2 (by kernel_rfl) rfl (cells_one d) ?_; have RG := rw_setRow (k := w.heap.size + 2) (cs := d.cells) (g := 0) (n := 0) RG (fun g' q => by cases q; show GG ≠ _; omega); have BB := BB.put2 d.cells; refine hK _ _ ?_; clear hK K; have HF := HF.skip undef; generalize Act.put _ _ _ = a at HF ⊢
                generalize World.setRow _ _ _ = W2 at BB RG ⊢
                refine wpAny_ready (rs := [7]) (by kernel_rfl) (by simp) ?_
                refine ready_step (some 4) rfl rfl rfl (fun K hK => ?_) ?_
                · refine wp_assign rfl (HF.get 1 rfl) ?_; refine hK _ _ ?_; clear hK K; have HF := HF.put 4 (.slice (some ⟨GG, 0, none⟩) n n) (by decide) rfl; generalize Act.put _ _ _ = a at HF ⊢
                  exact wpAny_done (by kernel_rfl) (FIN _ _ ⟨HF.get 8 rfl, HF.get 9 rfl, _, HF.get 0 rfl, RG, BB, HF.1.2⟩) _
                exact AllReady.nil
              exact AllReady.nil
            exact AllReady.nil
          exact AllReady.nil
        exact AllReady.nil
      exact AllReady.nil
    exact AllReady.nil
  refine ready_step (some 19) rfl rfl rfl (fun K hK => ?_) ?_
  · refine wp_load_row 30 _ rfl (w6.heap.size + 1) (HF.get 1 rfl) 30 _ _ _ BB.a2 Tryz.underlying30 rfl (by kernel_rfl) ?_; refine hK _ _ ?_; clear hK K; have HF := HF.put 19 (.agg d.cells) (by decide) rfl; generalize Act.put _ _ _ = a at HF ⊢
    refine wpAny_ready (rs := [0, 1, 3]) (by kernel_rfl) (by simp) ?_
    refine ready_step (some 17) rfl rfl rfl (fun K hK => ?_) ?_
    · refine wp_load_row 28 _ rfl w6.heap.size (HF.get 1 rfl) 28 _ _ _ BB.a1 Tryz.underlying28 rfl (by kernel_rfl) ?_; refine hK _ _ ?_; clear hK K; have HF := HF.put 17 (.agg d.arr) (by decide) rfl; generalize Act.put _ _ _ = a at HF ⊢
      refine wpAny_ready (rs := [1, 3]) (by kernel_rfl) (by simp) ?_
      refine ready_step (some 18) rfl rfl rfl (fun K hK => ?_) ?_
      · refine wp_load_row 30 _ rfl (w6.heap.size + 1) (HF.get 3 rfl) 30 _ _ _ BB.a2 Tryz.underlying30 rfl (by kernel_rfl) ?_; refine hK _ _ ?_; clear hK K; have HF := HF.put 18 (.agg d.cells) (by decide) rfl; generalize Act.put _ _ _ = a at HF ⊢
        refine wpAny_ready (rs := [3]) (by kernel_rfl) (by simp) ?_
        refine ready_step (some 20) rfl rfl rfl (fun K hK => ?_) ?_
        · refine wp_call1 (v0 := .agg d.cells) rfl (HF.get 2 rfl) HEN ?_; refine (y_rwords RR.out _).mono ?_; rintro e W2 ⟨rfl, m2⟩; have BB := BB.step m2; clear m2; refine hK _ _ ?_; clear hK K; have HF := HF.put 20 (.int .i64 d.words) (by decide) rfl; generalize Act.put _ _ _ = a at HF ⊢
          refine wpAny_ready (rs := [4, 5]) (by kernel_rfl) (by simp) ?_
          refine ready_step (some 21) rfl rfl rfl (fun K hK => ?_) ?_
          · refine wp_make (n := n) rfl (HF.get 0 rfl) hn.symm i0 (.int .i64 0) Tryz.underlying31 hi0 hz0 hz1 HBY HML ?_; intro W3 q1 q2; obtain ⟨BB, RG, HGn⟩ := HMK.out _ _ _ _ BB q1 q2; clear q1 q2; generalize HGG : W2.heap.size = GG at RG HGn ⊢; refine hK _ _ ?_; clear hK K; have HF := HF.put 21 (.slice (some ⟨GG, 0, none⟩) n n) (by decide) rfl; generalize Act.put _ _ _ = a at HF ⊢
            refine wpAny_ready (rs := [5]) (by kernel_rfl) (by simp) ?_
            refine ready_step none rfl rfl rfl (fun K hK => ?_) ?_
            · refine wp_store_row 28 _ _ rfl (w.heap.size + 1) _ (HF.get 7 rfl) (HF.get 3 rfl) 28 zero24 BB.r1 (by kernel_rfl) rfl (arr_one d) ?_; have RG := rw_setRow (k := w.heap.size + 1) (cs := d.arr) (g := 0) (n := 0) RG (fun g' q => by cases q; show GG ≠ _; omega); have BB := BB.put1 d.arr; refine hK _ _ ?_; clear hK K; have HF := HF.skip undef; generalize Act.put _ _ _ = a at HF ⊢
              generalize World.setRow _ _ _ = W2 at BB RG ⊢
              refine wpAny_ready (rs := [6]) (by kernel_rfl) (by simp) ?_
              refine ready_step none rfl rfl rfl (fun K hK => ?_) ?_
              · refine wp_store_row 30 _ _ rfl (w.heap.size + 2) _ (HF.get 8 rfl) (HF.get 2 rfl) 30 zero11 BB.r2 (by kernel_rfl) rfl (cells_one d) ?_; have RG := rw_setRow (k := w.heap.size + 2) (cs := d.cells) (g := 0) (n := 0) RG (fun g' q => by cases q; show GG ≠ _; omega); have BB := BB.put2 d.cells; refine hK _ _ ?_; clear hK K; have HF := HF.skip undef; generalize Act.put _ _ _ = a at HF ⊢
                generalize World.setRow _ _ _ = W2 at BB RG ⊢
                refine wpAny_ready (rs := [7]) (by kernel_rfl) (by simp) ?_
                refine ready_step (some 4) rfl rfl rfl (fun K hK => ?_) ?_
                · refine wp_assign rfl (HF.get 0 rfl) ?_; refine hK _ _ ?_; clear hK K; have HF := HF.put 4 (.slice (some ⟨GG, 0, none⟩) n n) (by decide) rfl; generalize Act.put _ _ _ = a at HF ⊢
                  exact wpAny_done (by kernel_rfl) (FIN _ _ ⟨HF.get 8 rfl, HF.get 9 rfl, _, HF.get 0 rfl, RG, BB, HF.1.2⟩) _
                exact AllReady.nil
              exact AllReady.nil
            exact AllReady.nil
          refine ready_step none rfl rfl rfl (fun K hK => ?_) ?_
          · refine wp_store_row 28 _ _ rfl (w.heap.size + 1) _ (HF.get 6 rfl) (HF.get 2 rfl) 28 zero24 BB.r1 (by kernel_rfl) rfl (arr_one d) ?_; have BB := BB.put1 d.arr; refine hK _ _ ?_; clear hK K; have HF := HF.skip undef; generalize Act.put _ _ _ = a at HF ⊢
            generalize World.setRow _ _ _ = W2 at BB ⊢
            refine wpAny_ready (rs := [4, 6]) (by kernel_rfl) (by simp) ?_
            refine ready_step (some 21) rfl rfl rfl (fun K hK => ?_) ?_
            · refine wp_make (n := n) rfl (HF.get 0 rfl) hn.symm i0 (.int .i64 0) Tryz.underlying31 hi0 hz0 hz1 HBY HML ?_; intro W3 q1 q2; obtain ⟨BB, RG, HGn⟩ := HMK.out _ _ _ _ BB q1 q2; clear q1 q2; generalize HGG : W2.heap.size = GG at RG HGn ⊢; refine hK _ _ ?_; clear hK K; have HF := HF.put 21 (.slice (some ⟨GG, 0, none⟩) n n) (by decide) rfl; generalize Act.put _ _ _ = a at HF ⊢
              refine wpAny_ready (rs := [6]) (by kernel_rfl) (by simp) ?_
              refine ready_step none rfl rfl rfl (fun K hK => ?_) ?_
              · refine wp_store_row 30 _ _ rfl (w.heap.size + 2) _ (HF.get 8 rfl) (HF.get 2 rfl) 30 zero11 BB.r2 (by kernel_rfl) rfl (cells_one d) ?_; have RG := rw_setRow (k := w.heap.size + 2) (cs := d.cells) (g := 0) (n := 0) RG (fun g' q => by cases q; show GG ≠ _; omega); have BB := BB.put2 d.cells; refine hK _ _ ?_; clear hK K; have HF := HF.skip undef; generalize Act.put _ _ _ = a at HF ⊢
                generalize World.setRow _ _ _ = W2 at BB RG ⊢
                refine wpAny_ready (rs := [7]) (by kernel_rfl) (by simp) ?_
                refine ready_step (some 4) rfl rfl rfl (fun K hK => ?_) ?_
                · refine wp_assign rfl (HF.get 0 rfl) ?_; refine hK _ _ ?_; clear hK K; have HF := HF.put 4 (.slice (some ⟨GG, 0, none⟩) n n) (by decide) rfl; generalize Act.put _ _ _ = a at HF ⊢
                  exact wpAny_done (by kernel_rfl) (FIN _ _ ⟨HF.get 8 rfl, HF.get 9 rfl, _, HF.get 0 rfl, RG, BB, HF.1.2⟩) _
                exact AllReady.nil
              exact AllReady.nil
            refine ready_step none rfl rfl rfl (fun K hK => ?_) ?_
            · refine wp_store_row 30 _ _ rfl (w.heap.size + 2) _ (HF.get 7 rfl) (HF.get 1 rfl) 30 zero11 BB.r2 (by kernel_rfl) rfl (cells_one d) ?_; have BB := BB.put2 d.cells; refine hK _ _ ?_; clear hK K; have HF := HF.skip undef; generalize Act.put _ _ _ = a at HF ⊢
              generalize World.setRow _ _ _ = W2 at BB ⊢
              refine wpAny_ready (rs := [4]) (by kernel_rfl) (by simp) ?_
              refine ready_step (some 21) rfl rfl rfl (fun K hK => ?_) ?_
              · refine wp_make (n := n) rfl (HF.get 0 rfl) hn.symm i0 (.int .i64 0) Tryz.underlying31 hi0 hz0 hz1 HBY HML ?_; intro W3 q1 q2; obtain ⟨BB, RG, HGn⟩ := HMK.out _ _ _ _ BB q1 q2; clear q1 q2; generalize HGG : W2.heap.size = GG at RG HGn ⊢; refine hK _ _ ?_; clear hK K; have HF := HF.put 21 (.slice (some ⟨GG, 0, none⟩) n n) (by decide) rfl; generalize Act.put _ _ _ = a at HF ⊢
                refine wpAny_ready (rs := [7]) (by kernel_rfl) (by simp) ?_
                refine ready_step (some 4) rfl rfl rfl (fun K hK => ?_) ?_
                · refine wp_assign rfl (HF.get 0 rfl) ?_; refine hK _ _ ?_; clear hK K; have HF := HF.put 4 (.slice (some ⟨GG, 0, none⟩) n n) (by decide) rfl; generalize Act.put _ _ _ = a at HF ⊢
                  exact wpAny_done (by kernel_rfl) (FIN _ _ ⟨HF.get 8 rfl, HF.get 9 rfl, _, HF.get 0 rfl, RG, BB, HF.1.2⟩) _
                exact AllReady.nil
              exact AllReady.nil
            exact AllReady.nil
          exact AllReady.nil
        exact AllReady.nil
      refine ready_step (some 20) rfl rfl rfl (fun K hK => ?_) ?_
      · refine wp_call1 (v0 := .agg d.cells) rfl (HF.get 1 rfl) HEN ?_; refine (y_rwords RR.out _).mono ?_; rintro e W2 ⟨rfl, m2⟩; have BB := BB.step m2; clear m2; refine hK _ _ ?_; clear hK K; have HF := HF.put 20 (.int .i64 d.words) (by decide) rfl; generalize Act.put _ _ _ = a at HF ⊢
        refine wpAny_ready (rs := [1, 4, 5]) (by kernel_rfl) (by simp) ?_
        refine ready_step (some 18) rfl rfl rfl (fun K hK => ?_) ?_
        · refine wp_load_row 30 _ rfl (w6.heap.size + 1) (HF.get 4 rfl) 30 _ _ _ BB.a2 Tryz.underlying30 rfl (by kernel_rfl) ?_; refine hK _ _ ?_; clear hK K; have HF := HF.put 18 (.agg d.cells) (by decide) rfl; generalize Act.put _ _ _ = a at HF ⊢
          refine wpAny_ready (rs := [4, 5]) (by kernel_rfl) (by simp) ?_
          refine ready_step (some 21) rfl rfl rfl (fun K hK => ?_) ?_
          · refine wp_make (n := n) rfl (HF.get 1 rfl) hn.symm i0 (.int .i64 0) Tryz.underlying31 hi0 hz0 hz1 HBY HML ?_; intro W3 q1 q2; obtain ⟨BB, RG, HGn⟩ := HMK.out _ _ _ _ BB q1 q2; clear q1 q2; generalize HGG : W2.heap.size = GG at RG HGn ⊢; refine hK _ _ ?_; clear hK K; have HF := HF.put 21 (.slice (some ⟨GG, 0, none⟩) n n) (by decide) rfl; generalize Act.put _ _ _ = a at HF ⊢
            refine wpAny_ready (rs := [5]) (by kernel_rfl) (by simp) ?_
            refine ready_step none rfl rfl rfl (fun K hK => ?_) ?_
            · refine wp_store_row 28 _ _ rfl (w.heap.size + 1) _ (HF.get 7 rfl) (HF.get 3 rfl) 28 zero24 BB.r1 (by kernel_rfl) rfl (arr_one d) ?_; have RG := rw_setRow (k := w.heap.size + 1) (cs := d.arr) (g := 0) (n := 0) RG (fun g' q => by cases q; show GG ≠ _; omega); have BB := BB.put1 d.arr; refine hK _ _ ?_; clear hK K; have HF := HF.skip undef; generalize Act.put _ _ _ = a at HF ⊢
              generalize World.setRow _ _ _ = W2 at BB RG ⊢
              refine wpAny_ready (rs := [6]) (by kernel_rfl) (by simp) ?_
              refine ready_step none rfl rfl rfl (fun K hK => ?_) ?_
              · refine wp_store_row 30 _ _ rfl (w.heap.size + 2) _ (HF.get 8 rfl) (HF.get 1 rfl) 30 zero11 BB.r2 (by kernel_rfl) rfl (cells_one d) ?_; have RG := rw_setRow (k := w.heap.size + 2) (cs := d.cells) (g := 0) (n := 0) RG (fun g' q => by cases q; show GG ≠ _; omega); have BB := BB.put2 d.cells; refine hK _ _ ?_; clear hK K; have HF := HF.skip undef; generalize Act.put _ _ _ = a at HF ⊢
                generalize World.setRow _ _ _ = W2 at BB RG ⊢
                refine wpAny_ready (rs := [7]) (by kernel_rfl) (by simp) ?_
                refine ready_step (some 4) rfl rfl rfl (fun K hK => ?_) ?_
                · refine wp_assign rfl (HF.get 0 rfl) ?_; refine hK _ _ ?_; clear hK K; have HF := HF.put 4 (.slice (some ⟨GG, 0, none⟩) n n) (by decide) rfl; generalize Act.put _ _ _ = a at HF ⊢
                  exact wpAny_done (by kernel_rfl) (FIN _ _ ⟨HF.get 8 rfl, HF.get 9 rfl, _, HF.get 0 rfl, RG, BB, HF.1.2⟩) _
                exact AllReady.nil
              exact AllReady.nil
            exact AllReady.nil
          refine ready_step none rfl rfl rfl (fun K hK => ?_) ?_
          · refine wp_store_row 28 _ _ rfl (w.heap.size + 1) _ (HF.get 6 rfl) (HF.get 2 rfl) 28 zero24 BB.r1 (by kernel_rfl) rfl (arr_one d) ?_; have BB := BB.put1 d.arr; refine hK _ _ ?_; clear hK K; have HF := HF.skip undef; generalize Act.put _ _ _ = a at HF ⊢
            generalize World.setRow _ _ _ = W2 at BB ⊢
            refine wpAny_ready (rs := [4, 6]) (by kernel_rfl) (by simp) ?_
            refine ready_step (some 21) rfl rfl rfl (fun K hK => ?_) ?_
            · refine wp_make (n := n) rfl (HF.get 1 rfl) hn.symm i0 (.int .i64 0) Tryz.underlying31 hi0 hz0 hz1 HBY HML ?_; intro W3 q1 q2; obtain ⟨BB, RG, HGn⟩ := HMK.out _ _ _ _ BB q1 q2; clear q1 q2; generalize HGG : W2.heap.size = GG at RG HGn ⊢; refine hK _ _ ?_; clear hK K; have HF := HF.put 21 (.slice (some ⟨GG, 0, none⟩) n n) (by decide) rfl; generalize Act.put _ _ _ = a at HF ⊢
              refine wpAny_ready (rs := [6]) (by kernel_rfl) (by simp) ?_
              refine ready_step none rfl rfl rfl (fun K hK => ?_) ?_
              · refine wp_store_row 30 _ _ rfl (w.heap.size + 2) _ (HF.get 8 rfl) (HF.get 1 rfl) 30 zero11 BB.r2 (by kernel_rfl) rfl (cells_one d) ?_; have RG := rw_setRow (k := w.heap.size + 2) (cs := d.cells) (g := 0) (n := 0) RG (fun g' q => by cases q; show GG ≠ _; omega); have BB := BB.put2 d.cells; refine hK _ _ ?_; clear hK K; have HF := HF.skip undef; generalize Act.put _ _ _ = a at HF ⊢
                generalize World.setRow _ _ _ = W2 at BB RG ⊢
                refine wpAny_ready (rs := [7]) (by kernel_rfl) (by simp) ?_
                refine ready_step (some 4) rfl rfl rfl (fun K hK => ?_) ?_
                · refine wp_assign rfl (HF.get 0 rfl) ?_; refine hK _ _ ?_; clear hK K; have HF := HF.put 4 (.slice (some ⟨GG, 0, none⟩) n n) (by decide) rfl; generalize Act.put _ _ _ = a at HF ⊢
                  exact wpAny_done (by kernel_rfl) (FIN _ _ ⟨HF.get 8 rfl, HF.get 9 rfl, _, HF.get 0 rfl, RG, BB, HF.1.2⟩) _
                exact AllReady.nil
              exact AllReady.nil
            refine ready_step none rfl rfl rfl (fun K hK => ?_) ?_
            · refine wp_store_row 30 _ _ rfl (w.heap.size + 2) _ (HF.get 7 rfl) (HF.get 0 rfl) 30 zero11 BB.r2 (by kernel_rfl) rfl (cells_one d) ?_; have BB := BB.put2 d.cells; refine hK _ _ ?_; clear hK K; have HF := HF.skip undef; generalize Act.put _ _ _ = a at HF ⊢
              generalize World.setRow _ _ _ = W2 at BB ⊢
              refine wpAny_ready (rs := [4]) (by kernel_rfl) (by simp) ?_
              refine ready_step (some 21) rfl rfl rfl (fun K hK => ?_) ?_
              · refine wp_make (n := n) rfl (HF.get 1 rfl) hn.symm i0 (.int .i64 0) Tryz.underlying31 hi0 hz0 hz1 HBY HML ?_; intro W3 q1 q2; obtain ⟨BB, RG, HGn⟩ := HMK.out _ _ _ _ BB q1 q2; clear q1 q2; generalize HGG : W2.heap.size = GG at RG HGn ⊢; refine hK _ _ ?_; clear hK K; have HF := HF.put 21 (.slice (some ⟨GG, 0, none⟩) n n) (by decide) rfl; generalize Act.put _ _ _ = a at HF ⊢
                refine wpAny_ready (rs := [7]) (by kernel_rfl) (by simp) ?_
                refine ready_step (some 4) rfl rfl rfl (fun K hK => ?_) ?_
                · refine wp_assign rfl (HF.get 0 rfl) ?_; refine hK _ _ ?_; clear hK K; have HF := HF.put 4 (.slice (some ⟨GG, 0, none⟩) n n) (by decide) rfl; generalize Act.put _ _ _ = a at HF ⊢
                  exact wpAny_done (by kernel_rfl) (FIN _ _ ⟨HF.get 8 rfl, HF.get 9 rfl, _, HF.get 0 rfl, RG, BB, HF.1.2⟩) _
                exact AllReady.nil
              exact AllReady.nil
            exact AllReady.nil
          exact AllReady.nil
        refine ready_step (some 21) rfl rfl rfl (fun K hK => ?_) ?_
        · refine wp_make (n := n) rfl (HF.get 0 rfl) hn.symm i0 (.int .i64 0) Tryz.underlying31 hi0 hz0 hz1 HBY HML ?_; intro W3 q1 q2; obtain ⟨BB, RG, HGn⟩ := HMK.out _ _ _ _ BB q1 q2; clear q1 q2; generalize HGG : W2.heap.size = GG at RG HGn ⊢; refine hK _ _ ?_; clear hK K; have HF := HF.put 21 (.slice (some ⟨GG, 0, none⟩) n n) (by decide) rfl; generalize Act.put _ _ _ = a at HF ⊢
          refine wpAny_ready (rs := [1, 5]) (by kernel_rfl) (by simp) ?_
          refine ready_step (some 18) rfl rfl rfl (fun K hK => ?_) ?_
          · refine wp_load_row 30 _ rfl (w6.heap.size + 1) (HF.get 5 rfl) 30 _ _ _ BB.a2 Tryz.underlying30 rfl (by kernel_rfl) ?_; refine hK _ _ ?_; clear hK K; have HF := HF.put 18 (.agg d.cells) (by decide) rfl; generalize Act.put _ _ _ = a at HF ⊢
            refine wpAny_ready (rs := [5]) (by kernel_rfl) (by simp) ?_
            refine ready_step none rfl rfl rfl (fun K hK => ?_) ?_
            · refine wp_store_row 28 _ _ rfl (w.heap.size + 1) _ (HF.get 7 rfl) (HF.get 3 rfl) 28 zero24 BB.r1 (by kernel_rfl) rfl (arr_one d) ?_; have RG := rw_setRow (k := w.heap.size + 1) (cs := d.arr) (g := 0) (n := 0) RG (fun g' q => by cases q; show GG ≠ _; omega); have BB := BB.put1 d.arr; refine hK _ _ ?_; clear hK K; have HF := HF.skip undef; generalize Act.put _ _ _ = a at HF ⊢
              generalize World.setRow _ _ _ = W2 at BB RG ⊢
              refine wpAny_ready (rs := [6]) (by kernel_rfl) (by simp) ?_
              refine ready_step none rfl rfl rfl (fun K hK => ?_) ?_
              · refine wp_store_row 30 _ _ rfl (w.heap.size + 2) _ (HF.get 8 rfl) (HF.get 0 rfl) 30 zero11 BB.r2 (by kernel_rfl) rfl (cells_one d) ?_; have RG := rw_setRow (k := w.heap.size + 2) (cs := d.cells) (g := 0) (n := 0) RG (fun g' q => by cases q; show GG ≠ _; omega); have BB := BB.put2 d.cells; refine hK _ _ ?_; clear hK K; have HF := HF.skip undef; generalize Act.put _ _ _ = a at HF ⊢
                generalize World.setRow _ _ _ = W2 at BB RG ⊢
                refine wpAny_ready (rs := [7]) (by kernel_rfl) (by simp) ?_
                refine ready_step (some 4) rfl rfl rfl (fun K hK => ?_) ?_
                · refine wp_assign rfl (HF.get 1 rfl) ?_; refine hK _ _ ?_; clear hK K; have HF := HF.put 4 (.slice (some ⟨GG, 0, none⟩) n n) (by decide) rfl; generalize Act.put _ _ _ = a at HF ⊢
                  exact wpAny_done (by kernel_rfl) (FIN _ _ ⟨HF.get 8 rfl, HF.get 9 rfl, _, HF.get 0 rfl, RG, BB, HF.1.2⟩) _
                exact AllReady.nil
              exact AllReady.nil
            exact AllReady.nil
          refine ready_step none rfl rfl rfl (fun K hK => ?_) ?_
          · refine wp_store_row 28 _ _ rfl (w.heap.size + 1) _ (HF.get 6 rfl) (HF.get 2 rfl) 28 zero24 BB.r1 (by kernel_rfl) rfl (arr_one d) ?_; have RG := rw_setRow (k := w.heap.size + 1) (cs := d.arr) (g := 0) (n := 0) RG (fun g' q => by cases q; show GG ≠ _; omega); have BB := BB.put1 d.arr; refine hK _ _ ?_; clear hK K; have HF := HF.skip undef; generalize Act.put _ _ _ = a at HF ⊢
            generalize World.setRow _ _ _ = W2 at BB RG ⊢
            refine wpAny_ready (rs := [1]) (by kernel_rfl) (by simp) ?_
            refine ready_step (some 18) rfl rfl rfl (fun K hK => ?_) ?_
            · refine wp_load_row 30 _ rfl (w6.heap.size + 1) (HF.get 5 rfl) 30 _ _ _ BB.a2 Tryz.underlying30 rfl (by kernel_rfl) ?_; refine hK _ _ ?_; clear hK K; have HF := HF.put 18 (.agg d.cells) (by decide) rfl; generalize Act.put _ _ _ = a at HF ⊢
              refine wpAny_ready (rs := [6]) (by kernel_rfl) (by simp) ?_
              refine ready_step none rfl rfl rfl (fun K hK => ?_) ?_
              · refine wp_store_row 30 _ _ rfl (w.heap.size + 2) _ (HF.get 8 rfl) (HF.get 0 rfl) 30 zero11 BB.r2 (by kernel_rfl) rfl (cells_one d) ?_; have RG := rw_setRow (k := w.heap.size + 2) (cs := d.cells) (g := 0) (n := 0) RG (fun g' q => by cases q; show GG ≠ _; omega); have BB := BB.put2 d.cells; refine hK _ _ ?_; clear hK K; have HF := HF.skip undef; generalize Act.put _ _ _ = a at HF ⊢
                generalize World.setRow _ _ _ = W2 at BB RG ⊢
                refine wpAny_ready (rs := [7]) (by kernel_rfl) (by simp) ?_
                refine ready_step (some 4) rfl rfl rfl (fun K hK => ?_) ?_
                · refine wp_assign rfl (HF.get 1 rfl) ?_; refine hK _ _ ?_; clear hK K; have HF := HF.put 4 (.slice (some ⟨GG, 0, none⟩) n n) (by decide) rfl; generalize Act.put _ _ _ = a at HF ⊢
                  exact wpAny_done (by kernel_rfl) (FIN _ _ ⟨HF.get 8 rfl, HF.get 9 rfl, _, HF.get 0 rfl, RG, BB, HF.1.2⟩) _
                exact AllReady.nil
              exact AllReady.nil
            exact AllReady.nil
          exact AllReady.nil
        refine ready_step none rfl rfl rfl (fun K hK => ?_) ?_
        · refine wp_store_row 28 _ _ rfl (w.heap.size + 1) _ (HF.get 5 rfl) (HF.get 1 rfl) 28 zero24 BB.r1 (by kernel_rfl) rfl (arr_one d) ?_; have BB := BB.put1 d.arr; refine hK _ _ ?_; clear hK K; have HF := HF.skip undef; generalize Act.put _ _ _ = a at HF ⊢
          generalize World.setRow _ _ _ = W2 at BB ⊢
          refine wpAny_ready (rs := [1, 4]) (by kernel_rfl) (by simp) ?_
          refine ready_step (some 18) rfl rfl rfl (fun K hK => ?_) ?_
          · refine wp_load_row 30 _ rfl (w6.heap.size + 1) (HF.get 4 rfl) 30 _ _ _ BB.a2 Tryz.underlying30 rfl (by kernel_rfl) ?_; refine hK _ _ ?_; clear hK K; have HF := HF.put 18 (.agg d.cells) (by decide) rfl; generalize Act.put _ _ _ = a at HF ⊢
            refine wpAny_ready (rs := [4, 6]) (by kernel_rfl) (by simp) ?_
            refine ready_step (some 21) rfl rfl rfl (fun K hK => ?_) ?_
            · refine wp_make (n := n) rfl (HF.get 1 rfl) hn.symm i0 (.int .i64 0) Tryz.underlying31 hi0 hz0 hz1 HBY HML ?_; intro W3 q1 q2; obtain ⟨BB, RG, HGn⟩ := HMK.out _ _ _ _ BB q1 q2; clear q1 q2; generalize HGG : W2.heap.size = GG at RG HGn ⊢; refine hK _ _ ?_; clear hK K; have HF := HF.put 21 (.slice (some ⟨GG, 0, none⟩) n n) (by decide) rfl; generalize Act.put _ _ _ = a at HF ⊢
              refine wpAny_ready (rs := [6]) (by kernel_rfl) (by simp) ?_
              refine ready_step none rfl rfl rfl (fun K hK => ?_) ?_
              · refine wp_store_row 30 _ _ rfl (w.heap.size + 2) _ (HF.get 8 rfl) (HF.get 1 rfl) 30 zero11 BB.r2 (by kernel_rfl) rfl (cells_one d) ?_; have RG := rw_setRow (k := w.heap.size + 2) (cs := d.cells) (g := 0) (n := 0) RG (fun g' q => by cases q; show GG ≠ _; omega); have BB := BB.put2 d.cells; refine hK _ _ ?_; clear hK K; have HF := HF.skip undef; generalize Act.put _ _ _ = a at HF ⊢
                generalize World.setRow _ _ _ = W2 at BB RG ⊢
                refine wpAny_ready (rs := [7]) (by kernel_rfl) (by simp) ?_
                refine ready_step (some 4) rfl rfl rfl (fun K hK => ?_) ?_
                · refine wp_assign rfl (HF.get 0 rfl) ?_; refine hK _ _ ?_; clear hK K; have HF := HF.put 4 (.slice (some ⟨GG, 0, none⟩) n n) (by decide) rfl; generalize Act.put _ _ _ = a at HF ⊢
                  exact wpAny_done (by kernel_rfl) (FIN _ _ ⟨HF.get 8 rfl, HF.get 9 rfl, _, HF.get 0 rfl, RG, BB, HF.1.2⟩) _
                exact AllReady.nil
              exact AllReady.nil
            refine ready_step none rfl rfl rfl (fun K hK => ?_) ?_
            · refine wp_store_row 30 _ _ rfl (w.heap.size + 2) _ (HF.get 7 rfl) (HF.get 0 rfl) 30 zero11 BB.r2 (by kernel_rfl) rfl (cells_one d) ?_; have BB := BB.put2 d.cells; refine hK _ _ ?_; clear hK K; have HF := HF.skip undef; generalize Act.put _ _ _ = a at HF ⊢
              generalize World.setRow _ _ _ = W2 at BB ⊢
              refine wpAny_ready (rs := [4]) (by kernel_rfl) (by simp) ?_
              refine ready_step (some 21) rfl rfl rfl (fun K hK => ?_) ?_
              · refine wp_make (n := n) rfl (HF.get 1 rfl) hn.symm i0 (.int .i64 0) Tryz.underlying31 hi0 hz0 hz1 HBY HML ?_; intro W3 q1 q2; obtain ⟨BB, RG, HGn⟩ := HMK.out _ _ _ _ BB q1 q2; clear q1 q2; generalize HGG : W2.heap.size = GG at RG HGn ⊢; refine hK _ _ ?_; clear hK K; have HF := HF.put 21 (.slice (some ⟨GG, 0, none⟩) n n) (by decide) rfl; generalize Act.put _ _ _ = a at HF ⊢
                refine wpAny_ready (rs := [7]) (by kernel_rfl) (by simp) ?_
                refine ready_step (some 4) rfl rfl rfl (fun K hK => ?_) ?_
                · refine wp_assign rfl (HF.get 0 rfl) ?_; refine hK _ _ ?_; clear hK K; have HF := HF.put 4 (.slice (some ⟨GG, 0, none⟩) n n) (by decide) rfl; generalize Act.put _ _ _ = a at HF ⊢
                  exact wpAny_done (by kernel_rfl) (FIN _ _ ⟨HF.get 8 rfl, HF.get 9 rfl, _, HF.get 0 rfl, RG, BB, HF.1.2⟩) _
                exact AllReady.nil
              exact AllReady.nil
            exact AllReady.nil
          refine ready_step (some 21) rfl rfl rfl (fun K hK => ?_) ?_
          · refine wp_make (n := n) rfl (HF.get 0 rfl) hn.symm i0 (.int .i64 0) Tryz.underlying31 hi0 hz0 hz1 HBY HML ?_; intro W3 q1 q2; obtain ⟨BB, RG, HGn⟩ := HMK.out _ _ _ _ BB q1 q2; clear q1 q2; generalize HGG : W2.heap.size = GG at RG HGn ⊢; refine hK _ _ ?_; clear hK K; have HF := HF.put 21 (.slice (some ⟨GG, 0, none⟩) n n) (by decide) rfl; generalize Act.put _ _ _ = a at HF ⊢
            refine wpAny_ready (rs := [1]) (by kernel_rfl) (by simp) ?_
            refine ready_step (some 18) rfl rfl rfl (fun K hK => ?_) ?_
            · refine wp_load_row 30 _ rfl (w6.heap.size + 1) (HF.get 5 rfl) 30 _ _ _ BB.a2 Tryz.underlying30 rfl (by kernel_rfl) ?_; refine hK _ _ ?_; clear hK K; have HF := HF.put 18 (.agg d.cells) (by decide) rfl; generalize Act.put _ _ _ = a at HF ⊢
              refine wpAny_ready (rs := [6]) (by kernel_rfl) (by simp) ?_
              refine ready_step none rfl rfl rfl (fun K hK => ?_) ?_
              · refine wp_store_row 30 _ _ rfl (w.heap.size + 2) _ (HF.get 8 rfl) (HF.get 0 rfl) 30 zero11 BB.r2 (by kernel_rfl) rfl (cells_one d) ?_; have RG := rw_setRow (k := w.heap.size + 2) (cs := d.cells) (g := 0) (n := 0) RG (fun g' q => by cases q; show GG ≠ _; omega); have BB := BB.put2 d.cells; refine hK _ _ ?_; clear hK K; have HF := HF.skip undef; generalize Act.put _ _ _ = a at HF ⊢
                generalize World.setRow _ _ _ = W2 at BB RG ⊢
                refine wpAny_ready (rs := [7]) (by kernel_rfl) (by simp) ?_
                refine ready_step (some 4) rfl rfl rfl (fun K hK => ?_) ?_
                · refine wp_assign rfl (HF.get 1 rfl) ?_; refine hK _ _ ?_; clear hK K; have HF := HF.put 4 (.slice (some ⟨GG, 0, none⟩) n n) (by decide) rfl; generalize Act.put _ _ _ = a at HF ⊢
                  exact wpAny_done (by kernel_rfl) (FIN _ _ ⟨HF.get 8 rfl, HF.get 9 rfl, _, HF.get 0 rfl, RG, BB, HF.1.2⟩) _
                exact AllReady.nil
              exact AllReady.nil
            exact AllReady.nil
          exact AllReady.nil
        exact AllReady.nil
      exact AllReady.nil
    refine ready_step (some 18) rfl rfl rfl (fun K hK => ?_) ?_
    · refine wp_load_row 30 _ rfl (w6.heap.size + 1) (HF.get 2 rfl) 30 _ _ _ BB.a2 Tryz.underlying30 rfl (by kernel_rfl) ?_; refine hK _ _ ?_; clear hK K; have HF := HF.put 18 (.agg d.cells) (by decide) rfl; generalize Act.put _ _ _ = a at HF ⊢
      refine wpAny_ready (rs := [0, 3]) (by kernel_rfl) (by simp) ?_
      refine ready_step (some 17) rfl rfl rfl (fun K hK => ?_) ?_
      · refine wp_load_row 28 _ rfl w6.heap.size (HF.get 2 rfl) 28 _ _ _ BB.a1 Tryz.underlying28 rfl (by kernel_rfl) ?_; refine hK _ _ ?_; clear hK K; have HF := HF.put 17 (.agg d.arr) (by decide) rfl; generalize Act.put _ _ _ = a at HF ⊢
        refine wpAny_ready (rs := [3]) (by kernel_rfl) (by simp) ?_
        refine ready_step (some 20) rfl rfl rfl (fun K hK => ?_) ?_
        · refine wp_call1 (v0 := .agg d.cells) rfl (HF.get 2 rfl) HEN ?_; refine (y_rwords RR.out _).mono ?_; rintro e W2 ⟨rfl, m2⟩; have BB := BB.step m2; clear m2; refine hK _ _ ?_; clear hK K; have HF := HF.put 20 (.int .i64 d.words) (by decide) rfl; generalize Act.put _ _ _ = a at HF ⊢
          refine wpAny_ready (rs := [4, 5]) (by kernel_rfl) (by simp) ?_
          refine ready_step (some 21) rfl rfl rfl (fun K hK => ?_) ?_
          · refine wp_make (n := n) rfl (HF.get 0 rfl) hn.symm i0 (.int .i64 0) Tryz.underlying31 hi0 hz0 hz1 HBY HML ?_; intro W3 q1 q2; obtain ⟨BB, RG, HGn⟩ := HMK.out _ _ _ _ BB q1 q2; clear q1 q2; generalize HGG : W2.heap.size = GG at RG HGn ⊢; refine hK _ _ ?_; clear hK K; have HF := HF.put 21 (.slice (some ⟨GG, 0, none⟩) n n) (by decide) rfl; generalize Act.put _ _ _ = a at HF ⊢
            refine wpAny_ready (rs := [5]) (by kernel_rfl) (by simp) ?_
            refine ready_step none rfl rfl rfl (fun K hK => ?_) ?_
            · refine wp_store_row 28 _ _ rfl (w.heap.size + 1) _ (HF.get 7 rfl) (HF.get 2 rfl) 28 zero24 BB.r1 (by kernel_rfl) rfl (arr_one d) ?_; have RG := rw_setRow (k := w.heap.size + 1) (cs := d.arr) (g := 0) (n := 0) RG (fun g' q => by cases q; show GG ≠ _; omega); have BB := BB.put1 d.arr; refine hK _ _ ?_; clear hK K; have HF := HF.skip undef; generalize Act.put _ _ _ = a at HF ⊢
              generalize World.setRow _ _ _ = W2 at BB RG ⊢
              refine wpAny_ready (rs := [6]) (by kernel_rfl) (by simp) ?_
              refine ready_step none rfl rfl rfl (fun K hK => ?_) ?_
              · refine wp_store_row 30 _ _ rfl (w.heap.size + 2) _ (HF.get 8 rfl) (HF.get 3 rfl) 30 zero11 BB.r2 (by kernel_rfl) rfl (cells_one d) ?_; have RG := rw_setRow (k := w.heap.size + 2) (cs := d.cells) (g := 0) (n := 0) RG (fun g' q => by cases q; show GG ≠ _; omega); have BB := BB.put2 d.cells; refine hK _ _ ?_; clear hK K; have HF := HF.skip undef; generalize Act.put _ _ _ = a at HF ⊢
                generalize World.setRow _ _ _ = W2 at BB RG ⊢
                refine wpAny_ready (rs := [7]) (by kernel_rfl) (by simp) ?_
                refine ready_step (some 4) rfl rfl rfl (fun K hK => ?_) ?_
                · refine wp_assign rfl (HF.get 0 rfl) ?_; refine hK _ _ ?_; clear hK K; have HF := HF.put 4 (.slice (some ⟨GG, 0, none⟩) n n) (by decide) rfl; generalize Act.put _ _ _ = a at HF ⊢
                  exact wpAny_done (by kernel_rfl) (FIN _ _ ⟨HF.get 8 rfl, HF.get 9 rfl, _, HF.get 0 rfl, RG, BB, HF.1.2⟩) _
                exact AllReady.nil
              exact AllReady.nil
            exact AllReady.nil
          refine ready_step none rfl rfl rfl (fun K hK => ?_) ?_
          · refine wp_store_row 28 _ _ rfl (w.heap.size + 1) _ (HF.get 6 rfl) (HF.get 1 rfl) 28 zero24 BB.r1 (by kernel_rfl) rfl (arr_one d) ?_; have BB := BB.put1 d.arr; refine hK _ _ ?_; clear hK K; have HF := HF.skip undef; generalize Act.put _ _ _ = a at HF ⊢
            generalize World.setRow _ _ _ = W2 at BB ⊢
            refine wpAny_ready (rs := [4, 6]) (by kernel_rfl) (by simp) ?_
            refine ready_step (some 21) rfl rfl rfl (fun K hK => ?_) ?_
            · refine wp_make (n := n) rfl (HF.get 0 rfl) hn.symm i0 (.int .i64 0) Tryz.underlying31 hi0 hz0 hz1 HBY HML ?_; intro W3 q1 q2; obtain ⟨BB, RG, HGn⟩ := HMK.out _ _ _ _ BB q1 q2; clear q1 q2; generalize HGG : W2.heap.size = GG at RG HGn ⊢; refine hK _ _ ?_; clear hK K; have HF := HF.put 21 (.slice (some ⟨GG, 0, none⟩) n n) (by decide) rfl; generalize Act.put _ _ _ = a at HF ⊢
              refine wpAny_ready (rs := [6]) (by kernel_rfl) (by simp) ?_
              refine ready_step none rfl rfl rfl (fun K hK => ?_) ?_
              · refine wp_store_row 30 _ _ rfl (w.heap.size + 2) _ (HF.get 8 rfl) (HF.get 3 rfl) 30 zero11 BB.r2 (by kernel_rfl) rfl (cells_one d) ?_; have RG := rw_setRow (k := w.heap.size + 2) (cs := d.cells) (g := 0) (n := 0) RG (fun g' q => by cases q; show GG ≠ _; omega); have BB := BB.put2 d.cells; refine hK _ _ ?_; clear hK K; have HF := HF.skip undef; generalize Act.put _ _ _ = a at HF ⊢
                generalize World.setRow _ _ _ = W2 at BB RG ⊢
                refine wpAny_ready (rs := [7]) (by kernel_rfl) (by simp) ?_
                refine ready_step (some 4) rfl rfl rfl (fun K hK => ?_) ?_
                · refine wp_assign rfl (HF.get 0 rfl) ?_; refine hK _ _ ?_; clear hK K; have HF := HF.put 4 (.slice (some ⟨GG, 0, none⟩) n n) (by decide) rfl; generalize Act.put _ _ _ = a at HF ⊢
                  exact wpAny_done (by kernel_rfl) (FIN _ _ ⟨HF.get 8 rfl, HF.get 9 rfl, _, HF.get 0 rfl, RG, BB, HF.1.2⟩) _
                exact AllReady.nil
              exact AllReady.nil
            refine ready_step none rfl rfl rfl (fun K hK => ?_) ?_
            · refine wp_store_row 30 _ _ rfl (w.heap.size + 2) _ (HF.get 7 rfl) (HF.get 2 rfl) 30 zero11 BB.r2 (by kernel_rfl) rfl (cells_one d) ?_; have BB := BB.put2 d.cells; refine hK _ _ ?_; clear hK K; have HF := HF.skip undef; generalize Act.put _ _ _ = a at HF ⊢
              generalize World.setRow _ _ _ = W2 at BB ⊢
              refine wpAny_ready (rs := [4]) (by kernel_rfl) (by simp) ?_
              refine ready_step (some 21) rfl rfl rfl (fun K hK => ?_) ?_
              · refine wp_make (n := n) rfl (HF.get 0 rfl) hn.symm i0 (.int .i64 0) Tryz.underlying31 hi0 hz0 hz1 HBY HML ?_; intro W3 q1 q2; obtain ⟨BB, RG, HGn⟩ := HMK.out _ _ _ _ BB q1 q2; clear q1 q2; generalize HGG : W2.heap.size = GG at RG HGn ⊢; refine hK _ _ ?_; clear hK K; have HF := HF.put 21 (.slice (some ⟨GG, 0, none⟩) n n) (by decide) rfl; generalize Act.put _ _ _ = a at HF ⊢
                refine wpAny_ready (rs := [7]) (by kernel_rfl) (by simp) ?_
                refine ready_step (some 4) rfl rfl rfl (fun K hK => ?_) ?_
                · refine wp_assign rfl (HF.get 0 rfl) ?_; refine hK _ _ ?_; clear hK K; have HF := HF.put 4 (.slice (some ⟨GG, 0, none⟩) n n) (by decide) rfl; generalize Act.put _ _ _ = a at HF ⊢
                  exact wpAny_done (by kernel_rfl) (FIN _ _ ⟨HF.get 8 rfl, HF.get 9 rfl, _, HF.get 0 rfl, RG, BB, HF.1.2⟩) _
                exact AllReady.nil
              exact AllReady.nil
            exact AllReady.nil
          exact AllReady.nil
        exact AllReady.nil
      refine ready_step (some 20) rfl rfl rfl (fun K hK => ?_) ?_
      · refine wp_call1 (v0 := .agg d.cells) rfl (HF.get 1 rfl) HEN ?_; refine (y_rwords RR.out _).mono ?_; rintro e W2 ⟨rfl, m2⟩; have BB := BB.step m2; clear m2; refine hK _ _ ?_; clear hK K; have HF := HF.put 20 (.int .i64 d.words) (by decide) rfl; generalize Act.put _ _ _ = a at HF ⊢
        refine wpAny_ready (rs := [0, 4]) (by kernel_rfl) (by simp) ?_
        refine ready_step (some 17) rfl rfl rfl (fun K hK => ?_) ?_
        · refine wp_load_row 28 _ rfl w6.heap.size (HF.get 3 rfl) 28 _ _ _ BB.a1 Tryz.underlying28 rfl (by kernel_rfl) ?_; refine hK _ _ ?_; clear hK K; have HF := HF.put 17 (.agg d.arr) (by decide) rfl; generalize Act.put _ _ _ = a at HF ⊢
          refine wpAny_ready (rs := [4, 5]) (by kernel_rfl) (by simp) ?_
          refine ready_step (some 21) rfl rfl rfl (fun K hK => ?_) ?_
          · refine wp_make (n := n) rfl (HF.get 1 rfl) hn.symm i0 (.int .i64 0) Tryz.underlying31 hi0 hz0 hz1 HBY HML ?_; intro W3 q1 q2; obtain ⟨BB, RG, HGn⟩ := HMK.out _ _ _ _ BB q1 q2; clear q1 q2; generalize HGG : W2.heap.size = GG at RG HGn ⊢; refine hK _ _ ?_; clear hK K; have HF := HF.put 21 (.slice (some ⟨GG, 0, none⟩) n n) (by decide) rfl; generalize Act.put _ _ _ = a at HF ⊢
            refine wpAny_ready (rs := [5]) (by kernel_rfl) (by simp) ?_
            refine ready_step none rfl rfl rfl (fun K hK => ?_) ?_
            · refine wp_store_row 28 _ _ rfl (w.heap.size + 1) _ (HF.get 7 rfl) (HF.get 1 rfl) 28 zero24 BB.r1 (by kernel_rfl) rfl (arr_one d) ?_; have RG := rw_setRow (k := w.heap.size + 1) (cs := d.arr) (g := 0) (n := 0) RG (fun g' q => by cases q; show GG ≠ _; omega); have BB := BB.put1 d.arr; refine hK _ _ ?_; clear hK K; have HF := HF.skip undef; generalize Act.put _ _ _ = a at HF ⊢
              generalize World.setRow _ _ _ = W2 at BB RG ⊢
              refine wpAny_ready (rs := [6]) (by kernel_rfl) (by simp) ?_
              refine ready_step none rfl rfl rfl (fun K hK => ?_) ?_
              · refine wp_store_row 30 _ _ rfl (w.heap.size + 2) _ (HF.get 8 rfl) (HF.get 3 rfl) 30 zero11 BB.r2 (by kernel_rfl) rfl (cells_one d) ?_; have RG := rw_setRow (k := w.heap.size + 2) (cs := d.cells) (g := 0) (n := 0) RG (fun g' q => by cases q; show GG ≠ _; omega); have BB := BB.put2 d.cells; refine hK _ _ ?_; clear hK K; have HF := HF.skip undef; generalize Act.put _ _ _ = a at HF ⊢
                generalize World.setRow _ _ _ = W2 at BB RG ⊢
                refine wpAny_ready (rs := [7]) (by kernel_rfl) (by simp) ?_
                refine ready_step (some 4) rfl rfl rfl (fun K hK => ?_) ?_
                · refine wp_assign rfl (HF.get 0 rfl) ?_; refine hK _ _ ?_; clear hK K; have HF := HF.put 4 (.slice (some ⟨GG, 0, none⟩) n n) (by decide) rfl; generalize Act.put _ _ _ = a at HF ⊢
                  exact wpAny_done (by kernel_rfl) (FIN _ _ ⟨HF.get 8 rfl, HF.get 9 rfl, _, HF.get 0 rfl, RG, BB, HF.1.2⟩) _
                exact AllReady.nil
              exact AllReady.nil
            exact AllReady.nil
          refine ready_step none rfl rfl rfl (fun K hK => ?_) ?_
          · refine wp_store_row 28 _ _ rfl (w.heap.size + 1) _ (HF.get 6 rfl) (HF.get 0 rfl) 28 zero24 BB.r1 (by kernel_rfl) rfl (arr_one d) ?_; have BB := BB.put1 d.arr; refine hK _ _ ?_; clear hK K; have HF := HF.skip undef; generalize Act.put _ _ _ = a at HF ⊢
            generalize World.setRow _ _ _ = W2 at BB ⊢
            refine wpAny_ready (rs := [4, 6]) (by kernel_rfl) (by simp) ?_
            refine ready_step (some 21) rfl rfl rfl (fun K hK => ?_) ?_
            · refine wp_make (n := n) rfl (HF.get 1 rfl) hn.symm i0 (.int .i64 0) Tryz.underlying31 hi0 hz0 hz1 HBY HML ?_; intro W3 q1 q2; obtain ⟨BB, RG, HGn⟩ := HMK.out _ _ _ _ BB q1 q2; clear q1 q2; generalize HGG : W2.heap.size = GG at RG HGn ⊢; refine hK _ _ ?_; clear hK K; have HF := HF.put 21 (.slice (some ⟨GG, 0, none⟩) n n) (by decide) rfl; generalize Act.put _ _ _ = a at HF ⊢
              refine wpAny_ready (rs := [6]) (by kernel_rfl) (by simp) ?_
              refine ready_step none rfl rfl rfl (fun K hK => ?_) ?_
              · refine wp_store_row 30 _ _ rfl (w.heap.size + 2) _ (HF.get 8 rfl) (HF.get 3 rfl) 30 zero11 BB.r2 (by kernel_rfl) rfl (cells_one d) ?_; have RG := rw_setRow (k := w.heap.size + 2) (cs := d.cells) (g := 0) (n := 0) RG (fun g' q => by cases q; show GG ≠ _; omega); have BB := BB.put2 d.cells; refine hK _ _ ?_; clear hK K; have HF := HF.skip undef; generalize Act.put _ _ _ = a at HF ⊢
                generalize World.setRow _ _ _ = W2 at BB RG ⊢
                refine wpAny_ready (rs := [7]) (by kernel_rfl) (by simp) ?_
                refine ready_step (some 4) rfl rfl rfl (fun K hK => ?_) ?_
                · refine wp_assign rfl (HF.get 0 rfl) ?_; refine hK _ _ ?_; clear hK K; have HF := HF.put 4 (.slice (some ⟨GG, 0, none⟩) n n) (by decide) rfl; generalize Act.put _ _ _ = a at HF ⊢
                  exact wpAny_done (by kernel_rfl) (FIN _ _ ⟨HF.get 8 rfl, HF.get 9 rfl, _, HF.get 0 rfl, RG, BB, HF.1.2⟩) _
                exact AllReady.nil
              exact AllReady.nil
            refine ready_step none rfl rfl rfl (fun K hK => ?_) ?_
            · refine wp_store_row 30 _ _ rfl (w.heap.size + 2) _ (HF.get 7 rfl) (HF.get 2 rfl) 30 zero11 BB.r2 (by kernel_rfl) rfl (cells_one d) ?_; have BB := BB.put2 d.cells; refine hK _ _ ?_; clear hK K; have HF := HF.skip undef; generalize Act.put _ _ _ = a at HF ⊢
              generalize World.setRow _ _ _ = W2 at BB ⊢
              refine wpAny_ready (rs := [4]) (by kernel_rfl) (by simp) ?_
              refine ready_step (some 21) rfl rfl rfl (fun K hK => ?_) ?_
              · refine wp_make (n := n) rfl (HF.get 1 rfl) hn.symm i0 (.int .i64 0) Tryz.underlying31 hi0 hz0 hz1 HBY HML ?_; intro W3 q1 q2; obtain ⟨BB, RG, HGn⟩ := HMK.out _ _ _ _ BB q1 q2; clear q1 q2; generalize HGG : W2.heap.size = GG at RG HGn ⊢; refine hK _ _ ?_; clear hK K; have HF := HF.put 21 (.slice (some ⟨GG, 0, none⟩) n n) (by decide) rfl; generalize Act.put _ _ _ = a at HF ⊢
                refine wpAny_ready (rs := [7]) (by kernel_rfl) (by simp) ?_
                refine ready_step (some 4) rfl rfl rfl (fun K hK => ?_) ?_
                · refine wp_assign rfl (HF.get 0 rfl) ?_; refine hK _ _ ?_; clear hK K; have HF := HF.put 4 (.slice (some ⟨GG, 0, none⟩) n n) (by decide) rfl; generalize Act.put _ _ _ = a at HF ⊢
                  exact wpAny_done (by kernel_rfl) (FIN _ _ ⟨HF.get 8 rfl, HF.get 9 rfl, _, HF.get 0 rfl, RG, BB, HF.1.2⟩) _
                exact AllReady.nil
              exact AllReady.nil
            exact AllReady.nil
          exact AllReady.nil
        refine ready_step (some 21) rfl rfl rfl (fun K hK => ?_) ?_
        · refine wp_make (n := n) rfl (HF.get 0 rfl) hn.symm i0 (.int .i64 0) Tryz.underlying31 hi0 hz0 hz1 HBY HML ?_; intro W3 q1 q2; obtain ⟨BB, RG, HGn⟩ := HMK.out _ _ _ _ BB q1 q2; clear q1 q2; generalize HGG : W2.heap.size = GG at RG HGn ⊢; refine hK _ _ ?_; clear hK K; have HF := HF.put 21 (.slice (some ⟨GG, 0, none⟩) n n) (by decide) rfl; generalize Act.put _ _ _ = a at HF ⊢
          refine wpAny_ready (rs := [0]) (by kernel_rfl) (by simp) ?_
          refine ready_step (some 17) rfl rfl rfl (fun K hK => ?_) ?_
          · refine wp_load_row 28 _ rfl w6.heap.size (HF.get 4 rfl) 28 _ _ _ BB.a1 Tryz.underlying28 rfl (by kernel_rfl) ?_; refine hK _ _ ?_; clear hK K; have HF := HF.put 17 (.agg d.arr) (by decide) rfl; generalize Act.put _ _ _ = a at HF ⊢
            refine wpAny_ready (rs := [5]) (by kernel_rfl) (by simp) ?_
            refine ready_step none rfl rfl rfl (fun K hK => ?_) ?_
            · refine wp_store_row 28 _ _ rfl (w.heap.size + 1) _ (HF.get 7 rfl) (HF.get 0 rfl) 28 zero24 BB.r1 (by kernel_rfl) rfl (arr_one d) ?_; have RG := rw_setRow (k := w.heap.size + 1) (cs := d.arr) (g := 0) (n := 0) RG (fun g' q => by cases q; show GG ≠ _; omega); have BB := BB.put1 d.arr; refine hK _ _ ?_; clear hK K; have HF := HF.skip undef; generalize Act.put _ _ _ = a at HF ⊢
              generalize World.setRow _ _ _ = W2 at BB RG ⊢
              refine wpAny_ready (rs := [6]) (by kernel_rfl) (by simp) ?_
              refine ready_step none rfl rfl rfl (fun K hK => ?_) ?_
              · refine wp_store_row 30 _ _ rfl (w.heap.size + 2) _ (HF.get 8 rfl) (HF.get 3 rfl) 30 zero11 BB.r2 (by kernel_rfl) rfl (cells_one d) ?_; have RG := rw_setRow (k := w.heap.size + 2) (cs := d.cells) (g := 0) (n := 0) RG (fun g' q => by cases q; show GG ≠ _; omega); have BB := BB.put2 d.cells; refine hK _ _ ?_; clear hK K; have HF := HF.skip undef; generalize Act.put _ _ _ = a at HF ⊢
                generalize World.setRow _ _ _ = W2 at BB RG ⊢
                refine wpAny_ready (rs := [7]) (by kernel_rfl) (by simp) ?_
                refine ready_step (some 4) rfl rfl rfl (fun K hK => ?_) ?_
                · refine wp_assign rfl (HF.get 1 rfl) ?_; refine hK _ _ ?_; clear hK K; have HF := HF.put 4 (.slice (some ⟨GG, 0, none⟩) n n) (by decide) rfl; generalize Act.put _ _ _ = a at HF ⊢
                  exact wpAny_done (by kernel_rfl) (FIN _ _ ⟨HF.get 8 rfl, HF.get 9 rfl, _, HF.get 0 rfl, RG, BB, HF.1.2⟩) _
                exact AllReady.nil
              exact AllReady.nil
            exact AllReady.nil
          exact AllReady.nil
        exact AllReady.nil
      exact AllReady.nil
    refine ready_step (some 20) rfl rfl rfl (fun K hK => ?_) ?_
    · refine wp_call1 (v0 := .agg d.cells) rfl (HF.get 0 rfl) HEN ?_; refine (y_rwords RR.out _).mono ?_; rintro e W2 ⟨rfl, m2⟩; have BB := BB.step m2; clear m2; refine hK _ _ ?_; clear hK K; have HF := HF.put 20 (.int .i64 d.words) (by decide) rfl; generalize Act.put _ _ _ = a at HF ⊢
      refine wpAny_ready (rs := [0, 1, 4]) (by kernel_rfl) (by simp) ?_
      refine ready_step (some 17) rfl rfl rfl (fun K hK => ?_) ?_
      · refine wp_load_row 28 _ rfl w6.heap.size (HF.get 2 rfl) 28 _ _ _ BB.a1 Tryz.underlying28 rfl (by kernel_rfl) ?_; refine hK _ _ ?_; clear hK K; have HF := HF.put 17 (.agg d.arr) (by decide) rfl; generalize Act.put _ _ _ = a at HF ⊢
        refine wpAny_ready (rs := [1, 4, 5]) (by kernel_rfl) (by simp) ?_
        refine ready_step (some 18) rfl rfl rfl (fun K hK => ?_) ?_
        · refine wp_load_row 30 _ rfl (w6.heap.size + 1) (HF.get 4 rfl) 30 _ _ _ BB.a2 Tryz.underlying30 rfl (by kernel_rfl) ?_; refine hK _ _ ?_; clear hK K; have HF := HF.put 18 (.agg d.cells) (by decide) rfl; generalize Act.put _ _ _ = a at HF ⊢
          refine wpAny_ready (rs := [4, 5]) (by kernel_rfl) (by simp) ?_
          refine ready_step (some 21) rfl rfl rfl (fun K hK => ?_) ?_
          · refine wp_make (n := n) rfl (HF.get 2 rfl) hn.symm i0 (.int .i64 0) Tryz.underlying31 hi0 hz0 hz1 HBY HML ?_; intro W3 q1 q2; obtain ⟨BB, RG, HGn⟩ := HMK.out _ _ _ _ BB q1 q2; clear q1 q2; generalize HGG : W2.heap.size = GG at RG HGn ⊢; refine hK _ _ ?_; clear hK K; have HF := HF.put 21 (.slice (some ⟨GG, 0, none⟩) n n) (by decide) rfl; generalize Act.put _ _ _ = a at HF ⊢
            refine wpAny_ready (rs := [5]) (by kernel_rfl) (by simp) ?_
            refine ready_step none rfl rfl rfl (fun K hK => ?_) ?_
            · refine wp_store_row 28 _ _ rfl (w.heap.size + 1) _ (HF.get 7 rfl) (HF.get 2 rfl) 28 zero24 BB.r1 (by kernel_rfl) rfl (arr_one d) ?_; have RG := rw_setRow (k := w.heap.size + 1) (cs := d.arr) (g := 0) (n := 0) RG (fun g' q => by cases q; show GG ≠ _; omega); have BB := BB.put1 d.arr; refine hK _ _ ?_; clear hK K; have HF := HF.skip undef; generalize Act.put _ _ _ = a at HF ⊢
              generalize World.setRow _ _ _ = W2 at BB RG ⊢
              refine wpAny_ready (rs := [6]) (by kernel_rfl) (by simp) ?_
              refine ready_step none rfl rfl rfl (fun K hK => ?_) ?_
              · refine wp_store_row 30 _ _ rfl (w.heap.size + 2) _ (HF.get 8 rfl) (HF.get 1 rfl) 30 zero11 BB.r2 (by kernel_rfl) rfl (cells_one d) ?_; have RG := rw_setRow (k := w.heap.size + 2) (cs := d.cells) (g := 0) (n := 0) RG (fun g' q => by cases q; show GG ≠ _; omega); have BB := BB.put2 d.cells; refine hK _ _ ?_; clear hK K; have HF := HF.skip undef; generalize Act.put _ _ _ = a at HF ⊢
                generalize World.setRow _ _ _ = W2 at BB RG ⊢
                refine wpAny_ready (rs := [7]) (by kernel_rfl) (by simp) ?_
                refine ready_step (some 4) rfl rfl rfl (fun K hK => ?_) ?_
                · refine wp_assign rfl (HF.get 0 rfl) ?_; refine hK _ _ ?_; clear hK K; have HF := HF.put 4 (.slice (some ⟨GG, 0, none⟩) n n) (by decide) rfl; generalize Act.put _ _ _ = a at HF ⊢
                  exact wpAny_done (by kernel_rfl) (FIN _ _ ⟨HF.get 8 rfl, HF.get 9 rfl, _, HF.get 0 rfl, RG, BB, HF.1.2⟩) _
                exact AllReady.nil
              exact AllReady.nil
            exact AllReady.nil
          refine ready_step none rfl rfl rfl (fun K hK => ?_) ?_
          · refine wp_store_row 28 _ _ rfl (w.heap.size + 1) _ (HF.get 6 rfl) (HF.get 1 rfl) 28 zero24 BB.r1 (by kernel_rfl) rfl (arr_one d) ?_; have BB := BB.put1 d.arr; refine hK _ _ ?_; clear hK K; have HF := HF.skip undef; generalize Act.put _ _ _ = a at HF ⊢
            generalize World.setRow _ _ _ = W2 at BB ⊢
            refine wpAny_ready (rs := [4, 6]) (by kernel_rfl) (by simp) ?_
            refine ready_step (some 21) rfl rfl rfl (fun K hK => ?_) ?_
            · refine wp_make (n := n) rfl (HF.get 2 rfl) hn.symm i0 (.int .i64 0) Tryz.underlying31 hi0 hz0 hz1 HBY HML ?_; intro W3 q1 q2; obtain ⟨BB, RG, HGn⟩ := HMK.out _ _ _ _ BB q1 q2; clear q1 q2; generalize HGG : W2.heap.size = GG at RG HGn ⊢; refine hK _ _ ?_; clear hK K; have HF := HF.put 21 (.slice (some ⟨GG, 0, none⟩) n n) (by decide) rfl; generalize Act.put _ _ _ = a at HF ⊢
              refine wpAny_ready (rs := [6]) (by kernel_rfl) (by simp) ?_
              refine ready_step none rfl rfl rfl (fun K hK => ?_) ?_
              · refine wp_store_row 30 _ _ rfl (w.heap.size + 2) _ (HF.get 8 rfl) (HF.get 1 rfl) 30 zero11 BB.r2 (by kernel_rfl) rfl (cells_one d) ?_; have RG := rw_setRow (k := w.heap.size + 2) (cs := d.cells) (g := 0) (n := 0) RG (fun g' q => by cases q; show GG ≠ _; omega); have BB := BB.put2 d.cells; refine hK _ _ ?_; clear hK K; have HF := HF.skip undef; generalize Act.put _ _ _ = a at HF ⊢
                generalize World.setRow _ _ _ = W2 at BB RG ⊢
                refine wpAny_ready (rs := [7]) (by kernel_rfl) (by simp) ?_
                refine ready_step (some 4) rfl rfl rfl (fun K hK => ?_) ?_
                · refine wp_assign rfl (HF.get 0 rfl) ?_; refine hK _ _ ?_; clear hK K; have HF := HF.put 4 (.slice (some ⟨GG, 0, none⟩) n n) (by decide) rfl; generalize Act.put _ _ _ = a at HF ⊢
                  exact wpAny_done (by kernel_rfl) (FIN _ _ ⟨HF.get 8 rfl, HF.get 9 rfl, _, HF.get 0 rfl, RG, BB, HF.1.2⟩) _
                exact AllReady.nil
              exact AllReady.nil
            refine ready_step none rfl rfl rfl (fun K hK => ?_) ?_
            · refine wp_store_row 30 _ _ rfl (w.heap.size + 2) _ (HF.get 7 rfl) (HF.get 0 rfl) 30 zero11 BB.r2 (by kernel_rfl) rfl (cells_one d) ?_; have BB := BB.put2 d.cells; refine hK _ _ ?_; clear hK K; have HF := HF.skip undef; generalize Act.put _ _ _ = a at HF ⊢
              generalize World.setRow _ _ _ = W2 at BB ⊢
              refine wpAny_ready (rs := [4]) (by kernel_rfl) (by simp) ?_
              refine ready_step (some 21) rfl rfl rfl (fun K hK => ?_) ?_
              · refine wp_make (n := n) rfl (HF.get 2 rfl) hn.symm i0 (.int .i64 0) Tryz.underlying31 hi0 hz0 hz1 HBY HML ?_; intro W3 q1 q2; obtain ⟨BB, RG, HGn⟩ := HMK.out _ _ _ _ BB q1 q2; clear q1 q2; generalize HGG : W2.heap.size = GG at RG HGn ⊢; refine hK _ _ ?_; clear hK K; have HF := HF.put 21 (.slice (some ⟨GG, 0, none⟩) n n) (by decide) rfl; generalize Act.put _ _ _ = a at HF ⊢
                refine wpAny_ready (rs := [7]) (by kernel_rfl) (by simp) ?_
                refine ready_step (some 4) rfl rfl rfl (fun K hK => ?_) ?_
                · refine wp_assign rfl (HF.get 0 rfl) ?_; refine hK _ _ ?_; clear hK K; have HF := HF.put 4 (.slice (some ⟨GG, 0, none⟩) n n) (by decide) rfl; generalize Act.put _ _ _ = a at HF ⊢
                  exact wpAny_done (by kernel_rfl) (FIN _ _ ⟨HF.get 8 rfl, HF.get 9 rfl, _, HF.get 0 rfl, RG, BB, HF.1.2⟩) _
                exact AllReady.nil
              exact AllReady.nil
            exact AllReady.nil
          exact AllReady.nil
        refine ready_step (some 21) rfl rfl rfl (fun K hK => ?_) ?_
        · refine wp_make (n := n) rfl (HF.get 1 rfl) hn.symm i0 (.int .i64 0) Tryz.underlying31 hi0 hz0 hz1 HBY HML ?_; intro W3 q1 q2; obtain ⟨BB, RG, HGn⟩ := HMK.out _ _ _ _ BB q1 q2; clear q1 q2; generalize HGG : W2.heap.size = GG at RG HGn ⊢; refine hK _ _ ?_; clear hK K; have HF := HF.put 21 (.slice (some ⟨GG, 0, none⟩) n n) (by decide) rfl; generalize Act.put _ _ _ = a at HF ⊢
          refine wpAny_ready (rs := [1, 5]) (by kernel_rfl) (by simp) ?_
          refine ready_step (some 18) rfl rfl rfl (fun K hK => ?_) ?_
          · refine wp_load_row 30 _ rfl (w6.heap.size + 1) (HF.get 5 rfl) 30 _ _ _ BB.a2 Tryz.underlying30 rfl (by kernel_rfl) ?_; refine hK _ _ ?_; clear hK K; have HF := HF.put 18 (.agg d.cells) (by decide) rfl; generalize Act.put _ _ _ = a at HF ⊢
            refine wpAny_ready (rs := [5]) (by kernel_rfl) (by simp) ?_
            refine ready_step none rfl rfl rfl (fun K hK => ?_) ?_
            · refine wp_store_row 28 _ _ rfl (w.heap.size + 1) _ (HF.get 7 rfl) (HF.get 2 rfl) 28 zero24 BB.r1 (by kernel_rfl) rfl (arr_one d) ?_; have RG := rw_setRow (k := w.heap.size + 1) (cs := d.arr) (g := 0) (n := 0) RG (fun g' q => by cases q; show GG ≠ _; omega); have BB := BB.put1 d.arr; refine hK _ _ ?_; clear hK K; have HF := HF.skip undef; generalize Act.put _ _ _ = a at HF ⊢
              generalize World.setRow _ _ _ = W2 at BB RG ⊢
              refine wpAny_ready (rs := [6]) (by kernel_rfl) (by simp) ?_
              refine ready_step none rfl rfl rfl (fun K hK => ?_) ?_
              · refine wp_store_row 30 _ _ rfl (w.heap.size + 2) _ (HF.get 8 rfl) (HF.get 0 rfl) 30 zero11 BB.r2 (by kernel_rfl) rfl (cells_one d) ?_; have RG := rw_setRow (k := w.heap.size + 2) (cs := d.cells) (g := 0) (n := 0) RG (fun g' q => by cases q; show GG ≠ _; omega); have BB := BB.put2 d.cells; refine hK _ _ ?_; clear hK K; have HF := HF.skip undef; generalize Act.put _ _ _ = a at HF ⊢
                generalize World.setRow _ _ _ = W2 at BB RG ⊢
                refine wpAny_ready (rs := [7]) (by kernel_rfl) (by simp) ?_
                refine ready_step (some 4) rfl rfl rfl (fun K hK => ?_) ?_
                · refine wp_assign rfl (HF.get 1 rfl) ?_; refine hK _ _ ?_; clear hK K; have HF := HF.put 4 (.slice (some ⟨GG, 0, none⟩) n n) (by decide) rfl; generalize Act.put _ _ _ = a at HF ⊢
                  exact wpAny_done (by kernel_rfl) (FIN _ _ ⟨HF.get 8 rfl, HF.get 9 rfl, _, HF.get 0 rfl, RG, BB, HF.1.2⟩) _
                exact AllReady.nil
              exact AllReady.nil
            exact AllReady.nil
          refine ready_step none rfl rfl rfl (fun K hK => ?_) ?_
          · refine wp_store_row 28 _ _ rfl (w.heap.size + 1) _ (HF.get 6 rfl) (HF.get 1 rfl) 28 zero24 BB.r1 (by kernel_rfl) rfl (arr_one d) ?_; have RG := rw_setRow (k := w.heap.size + 1) (cs := d.arr) (g := 0) (n := 0) RG (fun g' q => by cases q; show GG ≠ _; omega); have BB := BB.put1 d.arr; refine hK _ _ ?_; clear hK K; have HF := HF.skip undef; generalize Act.put _ _ _ = a at HF ⊢
            generalize World.setRow _ _ _ = W2 at BB RG ⊢
            refine wpAny_ready (rs := [1]) (by kernel_rfl) (by simp) ?_
            refine ready_step (some 18) rfl rfl rfl (fun K hK => ?_) ?_
            · refine wp_load_row 30 _ rfl (w6.heap.size + 1) (HF.get 5 rfl) 30 _ _ _ BB.a2 Tryz.underlying30 rfl (by kernel_rfl) ?_; refine hK _ _ ?_; clear hK K; have HF := HF.put 18 (.agg d.cells) (by decide) rfl; generalize Act.put _ _ _ = a at HF ⊢
              refine wpAny_ready (rs := [6]) (by kernel_rfl) (by simp) ?_
              refine ready_step none rfl rfl rfl (fun K hK => ?_) ?_
              · refine wp_store_row 30 _ _ rfl (w.heap.size + 2) _ (HF.get 8 rfl) (HF.get 0 rfl) 30 zero11 BB.r2 (by kernel_rfl) rfl (cells_one d) ?_; have RG := rw_setRow (k := w.heap.size + 2) (cs := d.cells) (g := 0) (n := 0) RG (fun g' q => by cases q; show GG ≠ _; omega); have BB := BB.put2 d.cells; refine hK _ _ ?_; clear hK K; have HF := HF.skip undef; generalize Act.put _ _ _ = a at HF ⊢
                generalize World.setRow _ _ _ = W2 at BB RG ⊢
                refine wpAny_ready (rs := [7]) (by kernel_rfl) (by simp) ?_
                refine ready_step (some 4) rfl rfl rfl (fun K hK => ?_) ?_
                · refine wp_assign rfl (HF.get 1 rfl) ?_; refine hK _ _ ?_; clear hK K; have HF := HF.put 4 (.slice (some ⟨GG, 0, none⟩) n n) (by decide) rfl; generalize Act.put _ _ _ = a at HF ⊢
                  exact wpAny_done (by kernel_rfl) (FIN _ _ ⟨HF.get 8 rfl, HF.get 9 rfl, _, HF.get 0 rfl, RG, BB, HF.1.2⟩) _
                exact AllReady.nil
              exact AllReady.nil
            exact AllReady.nil
          exact AllReady.nil
        refine ready_step none rfl rfl rfl (fun K hK => ?_) ?_
        · refine wp_store_row 28 _ _ rfl (w.heap.size + 1) _ (HF.get 5 rfl) (HF.get 0 rfl) 28 zero24 BB.r1 (by kernel_rfl) rfl (arr_one d) ?_; have BB := BB.put1 d.arr; refine hK _ _ ?_; clear hK K; have HF := HF.skip undef; generalize Act.put _ _ _ = a at HF ⊢
          generalize World.setRow _ _ _ = W2 at BB ⊢
          refine wpAny_ready (rs := [1, 4]) (by kernel_rfl) (by simp) ?_
          refine ready_step (some 18) rfl rfl rfl (fun K hK => ?_) ?_
          · refine wp_load_row 30 _ rfl (w6.heap.size + 1) (HF.get 4 rfl) 30 _ _ _ BB.a2 Tryz.underlying30 rfl (by kernel_rfl) ?_; refine hK _ _ ?_; clear hK K; have HF := HF.put 18 (.agg d.cells) (by decide) rfl; generalize Act.put _ _ _ = a at HF ⊢
            refine wpAny_ready (rs := [4, 6]) (by kernel_rfl) (by simp) ?_
            refine ready_step (some 21) rfl rfl rfl (fun K hK => ?_) ?_
            · refine wp_make (n := n) rfl (HF.get 2 rfl) hn.symm i0 (.int .i64 0) Tryz.underlying31 hi0 hz0 hz1 HBY HML ?_; intro W3 q1 q2; obtain ⟨BB, RG, HGn⟩ := HMK.out _ _ _ _ BB q1 q2; clear q1 q2; generalize HGG : W2.heap.size = GG at RG HGn ⊢; refine hK _ _ ?_; clear hK K; have HF := HF.put 21 (.slice (some ⟨GG, 0, none⟩) n n) (by decide) rfl; generalize Act.put _ _ _ = a at HF ⊢
              refine wpAny_ready (rs := [6]) (by kernel_rfl) (by simp) ?_
              refine ready_step none rfl rfl rfl (fun K hK => ?_) ?_
              · refine wp_store_row 30 _ _ rfl (w.heap.size + 2) _ (HF.get 8 rfl) (HF.get 1 rfl) 30 zero11 BB.r2 (by kernel_rfl) rfl (cells_one d) ?_; have RG := rw_setRow (k := w.heap.size + 2) (cs := d.cells) (g := 0) (n := 0) RG (fun g' q => by cases q; show GG ≠ _; omega); have BB := BB.put2 d.cells; refine hK _ _ ?_; clear hK K; have HF := HF.skip undef; generalize Act.put _ _ _ = a at HF ⊢
                generalize World.setRow _ _ _ = W2 at BB RG ⊢
                refine wpAny_ready (rs := [7]) (by kernel_rfl) (by simp) ?_
                refine ready_step (some 4) rfl rfl rfl (fun K hK => ?_) ?_
                · refine wp_assign rfl (HF.get 0 rfl) ?_; refine hK _ _ ?_; clear hK K; have HF := HF.put 4 (.slice (some ⟨GG, 0, none⟩) n n) (by decide) rfl; generalize Act.put _ _ _ = a at HF ⊢
                  exact wpAny_done (by kernel_rfl) (FIN _ _ ⟨HF.get 8 rfl, HF.get 9 rfl, _, HF.get 0 rfl, RG, BB, HF.1.2⟩) _
                exact AllReady.nil
              exact AllReady.nil
            refine ready_step none rfl rfl rfl (fun K hK => ?_) ?_
            · refine wp_store_row 30 _ _ rfl (w.heap.size + 2) _ (HF.get 7 rfl) (HF.get 0 rfl) 30 zero11 BB.r2 (by kernel_rfl) rfl (cells_one d) ?_; have BB := BB.put2 d.cells; refine hK _ _ ?_; clear hK K; have HF := HF.skip undef; generalize Act.put _ _ _ = a at HF ⊢
              generalize World.setRow _ _ _ = W2 at BB ⊢
              refine wpAny_ready (rs := [4]) (by kernel_rfl) (by simp) ?_
              refine ready_step (some 21) rfl rfl rfl (fun K hK => ?_) ?_
              · refine wp_make (n := n) rfl (HF.get 2 rfl) hn.symm i0 (.int .i64 0) Tryz.underlying31 hi0 hz0 hz1 HBY HML ?_; intro W3 q1 q2; obtain ⟨BB, RG, HGn⟩ := HMK.out _ _ _ _ BB q1 q2; clear q1 q2; generalize HGG : W2.heap.size = GG at RG HGn ⊢; refine hK _ _ ?_; clear hK K; have HF := HF.put 21 (.slice (some ⟨GG, 0, none⟩) n n) (by decide) rfl; generalize Act.put _ _ _ = a at HF ⊢
                refine wpAny_ready (rs := [7]) (by kernel_rfl) (by simp) ?_
                refine ready_step (some 4) rfl rfl rfl (fun K hK => ?_) ?_
                · refine wp_assign rfl (HF.get 0 rfl) ?_; refine hK _ _ ?_; clear hK K; have HF := HF.put 4 (.slice (some ⟨GG, 0, none⟩) n n) (by decide) rfl; generalize Act.put _ _ _ = a at HF ⊢
                  exact wpAny_done (by kernel_rfl) (FIN _ _ ⟨HF.get 8 rfl, HF.get 9 rfl, _, HF.get 0 rfl, RG, BB, HF.1.2⟩) _
                exact AllReady.nil
              exact AllReady.nil
            exact AllReady.nil
          refine ready_step (some 21) rfl rfl rfl (fun K hK => ?_) ?_
          · refine wp_make (n := n) rfl (HF.get 1 rfl) hn.symm i0 (.int .i64 0) Tryz.underlying31 hi0 hz0 hz1 HBY HML ?_; intro W3 q1 q2; obtain ⟨BB, RG, HGn⟩ := HMK.out _ _ _ _ BB q1 q2; clear q1 q2; generalize HGG : W2.heap.size = GG at RG HGn ⊢; refine hK _ _ ?_; clear hK K; have HF := HF.put 21 (.slice (some ⟨GG, 0, none⟩) n n) (by decide) rfl; generalize Act.put _ _ _ = a at HF ⊢
            refine wpAny_ready (rs := [1]) (by kernel_rfl) (by simp) ?_
            refine ready_step (some 18) rfl rfl rfl (fun K hK => ?_) ?_
            · refine wp_load_row 30 _ rfl (w6.heap.size + 1) (HF.get 5 rfl) 30 _ _ _ BB.a2 Tryz.underlying30 rfl (by kernel_rfl) ?_; refine hK _ _ ?_; clear hK K; have HF := HF.put 18 (.agg d.cells) (by decide) rfl; generalize Act.put _ _ _ = a at HF ⊢
              refine wpAny_ready (rs := [6]) (by kernel_rfl) (by simp) ?_
              refine ready_step none rfl rfl rfl (fun K hK => ?_) ?_
              · refine wp_store_row 30 _ _ rfl (w.heap.size + 2) _ (HF.get 8 rfl) (HF.get 0 rfl) 30 zero11 BB.r2 (by kernel_rfl) rfl (cells_one d) ?_; have RG := rw_setRow (k := w.heap.size + 2) (cs := d.cells) (g := 0) (n := 0) RG (fun g' q => by cases q; show GG ≠ _; omega); have BB := BB.put2 d.cells; refine hK _ _ ?_; clear hK K; have HF := HF.skip undef; generalize Act.put _ _ _ = a at HF ⊢
                generalize World.setRow _ _ _ = W2 at BB RG ⊢
                refine wpAny_ready (rs := [7]) (by kernel_rfl) (by simp) ?_
                refine ready_step (some 4) rfl rfl rfl (fun K hK => ?_) ?_
                · refine wp_assign rfl (HF.get 1 rfl) ?_; refine hK _ _ ?_; clear hK K; have HF := HF.put 4 (.slice (some ⟨GG, 0, none⟩) n n) (by decide) rfl; generalize Act.put _ _ _ = a at HF ⊢
                  exact wpAny_done (by kernel_rfl) (FIN _ _ ⟨HF.get 8 rfl, HF.get 9 rfl, _, HF.get 0 rfl, RG, BB, HF.1.2⟩) _
                exact AllReady.nil
              exact AllReady.nil
            exact AllReady.nil
          exact AllReady.nil
        exact AllReady.nil
      refine ready_step (some 18) rfl rfl rfl (fun K hK => ?_) ?_
      · refine wp_load_row 30 _ rfl (w6.heap.size + 1) (HF.get 3 rfl) 30 _ _ _ BB.a2 Tryz.underlying30 rfl (by kernel_rfl) ?_; refine hK _ _ ?_; clear hK K; have HF := HF.put 18 (.agg d.cells) (by decide) rfl; generalize Act.put _ _ _ = a at HF ⊢
        refine wpAny_ready (rs := [0, 4]) (by kernel_rfl) (by simp) ?_
        refine ready_step (some 17) rfl rfl rfl (fun K hK => ?_) ?_
        · refine wp_load_row 28 _ rfl w6.heap.size (HF.get 3 rfl) 28 _ _ _ BB.a1 Tryz.underlying28 rfl (by kernel_rfl) ?_; refine hK _ _ ?_; clear hK K; have HF := HF.put 17 (.agg d.arr) (by decide) rfl; generalize Act.put _ _ _ = a at HF ⊢
          refine wpAny_ready (rs := [4, 5]) (by kernel_rfl) (by simp) ?_
          refine ready_step (some 21) rfl rfl rfl (fun K hK => ?_) ?_
          · refine wp_make (n := n) rfl (HF.get 2 rfl) hn.symm i0 (.int .i64 0) Tryz.underlying31 hi0 hz0 hz1 HBY HML ?_; intro W3 q1 q2; obtain ⟨BB, RG, HGn⟩ := HMK.out _ _ _ _ BB q1 q2; clear q1 q2; generalize HGG : W2.heap.size = GG at RG HGn ⊢; refine hK _ _ ?_; clear hK K; have HF := HF.put 21 (.slice (some ⟨GG, 0, none⟩) n n) (by decide) rfl; generalize Act.put _ _ _ = a at HF ⊢
            refine wpAny_ready (rs := [5]) (by kernel_rfl) (by simp) ?_
            refine ready_step none rfl rfl rfl (fun K hK => ?_) ?_
            · refine wp_store_row 28 _ _ rfl (w.heap.size + 1) _ (HF.get 7 rfl) (HF.get 1 rfl) 28 zero24 BB.r1 (by kernel_rfl) rfl (arr_one d) ?_; have RG := rw_setRow (k := w.heap.size + 1) (cs := d.arr) (g := 0) (n := 0) RG (fun g' q => by cases q; show GG ≠ _; omega); have BB := BB.put1 d.arr; refine hK _ _ ?_; clear hK K; have HF := HF.skip undef; generalize Act.put _ _ _ = a at HF ⊢
              generalize World.setRow _ _ _ = W2 at BB RG ⊢
              refine wpAny_ready (rs := [6]) (by kernel_rfl) (by simp) ?_
              refine ready_step none rfl rfl rfl (fun K hK => ?_) ?_
              · refine wp_store_row 30 _ _ rfl (w.heap.size + 2) _ (HF.get 8 rfl) (HF.get 2 rfl) 30 zero11 BB.r2 (by kernel_rfl) rfl (cells_one d) ?_; have RG := rw_setRow (k := w.heap.size + 2) (cs := d.cells) (g := 0) (n := 0) RG (fun g' q => by cases q; show GG ≠ _; omega); have BB := BB.put2 d.cells; refine hK _ _ ?_; clear hK K; have HF := HF.skip undef; generalize Act.put _ _ _ = a at HF ⊢
                generalize World.setRow _ _ _ = W2 at BB RG ⊢
                refine wpAny_ready (rs := [7]) (by kernel_rfl) (by simp) ?_
                refine ready_step (some 4) rfl rfl rfl (fun K hK => ?_) ?_
                · refine wp_assign rfl (HF.get 0 rfl) ?_; refine hK _ _ ?_; clear hK K; have HF := HF.put 4 (.slice (some ⟨GG, 0, none⟩) n n) (by decide) rfl; generalize Act.put _ _ _ = a at HF ⊢
                  exact wpAny_done (by kernel_rfl) (FIN _ _ ⟨HF.get 8 rfl, HF.get 9 rfl, _, HF.get 0 rfl, RG, BB, HF.1.2⟩) _
                exact AllReady.nil
              exact AllReady.nil
            exact AllReady.nil
          refine ready_step none rfl rfl rfl (fun K hK => ?_) ?_
          · refine wp_store_row 28 _ _ rfl (w.heap.size + 1) _ (HF.get 6 rfl) (HF.get 0 rfl) 28 zero24 BB.r1 (by kernel_rfl) rfl (arr_one d) ?_; have BB := BB.put1 d.arr; refine hK _ _ ?_; clear hK K; have HF := HF.skip undef; generalize Act.put _ _ _ = a at HF ⊢
            generalize World.setRow _ _ _ = W2 at BB ⊢
            refine wpAny_ready (rs := [4, 6]) (by kernel_rfl) (by simp) ?_
            refine ready_step (some 21) rfl rfl rfl (fun K hK => ?_) ?_
            · refine wp_make (n := n) rfl (HF.get 2 rfl) hn.symm i0 (.int .i64 0) Tryz.underlying31 hi0 hz0 hz1 HBY HML ?_; intro W3 q1 q2; obtain ⟨BB, RG, HGn⟩ := HMK.out _ _ _ _ BB q1 q2; clear q1 q2; generalize HGG : W2.heap.size = GG at RG HGn ⊢; refine hK _ _ ?_; clear hK K; have HF := HF.put 21 (.slice (some ⟨GG, 0, none⟩) n n) (by decide) rfl; generalize Act.put _ _ _ = a at HF ⊢
              refine wpAny_ready (rs := [6]) (by kernel_rfl) (by simp) ?_
              refine ready_step none rfl rfl rfl (fun K hK => ?_) ?_
              · refine wp_store_row 30 _ _ rfl (w.heap.size + 2) _ (HF.get 8 rfl) (HF.get 2 rfl) 30 zero11 BB.r2 (by kernel_rfl) rfl (cells_one d) ?_; have RG := rw_setRow (k := w.heap.size + 2) (cs := d.cells) (g := 0) (n := 0) RG (fun g' q => by cases q; show GG ≠ _; omega); have BB := BB.put2 d.cells; refine hK _ _ ?_; clear hK K; have HF := HF.skip undef; generalize Act.put _ _ _ = a at HF ⊢
                generalize World.setRow _ _ _ = W2 at BB RG ⊢
                refine wpAny_ready (rs := [7]) (by kernel_rfl) (by simp) ?_
                refine ready_step (some 4) rfl rfl rfl (fun K hK => ?_) ?_
                · refine wp_assign rfl (HF.get 0 rfl) ?_; refine hK _ _ ?_; clear hK K; have HF := HF.put 4 (.slice (some ⟨GG, 0, none⟩) n n) (by decide) rfl; generalize Act.put _ _ _ = a at HF ⊢
                  exact wpAny_done (by kernel_rfl) (FIN _ _ ⟨HF.get 8 rfl, HF.get 9 rfl, _, HF.get 0 rfl, RG, BB, HF.1.2⟩) _
                exact AllReady.nil
              exact AllReady.nil
            refine ready_step none rfl rfl rfl (fun K hK => ?_) ?_
            · refine wp_store_row 30 _ _ rfl (w.heap.size + 2) _ (HF.get 7 rfl) (HF.get 1 rfl) 30 zero11 BB.r2 (by kernel_rfl) rfl (cells_one d) ?_; have BB := BB.put2 d.cells; refine hK _ _ ?_; clear hK K; have HF := HF.skip undef; generalize Act.put _ _ _ = a at HF ⊢
              generalize World.setRow _ _ _ = W2 at BB ⊢
              refine wpAny_ready (rs := [4]) (by kernel_rfl) (by simp) ?_
              refine ready_step (some 21) rfl rfl rfl (fun K hK => ?_) ?_
              · refine wp_make (n := n) rfl (HF.get 2 rfl) hn.symm i0 (.int .i64 0) Tryz.underlying31 hi0 hz0 hz1 HBY HML ?_; intro W3 q1 q2; obtain ⟨BB, RG, HGn⟩ := HMK.out _ _ _ _ BB q1 q2; clear q1 q2; generalize HGG : W2.heap.size = GG at RG HGn ⊢; refine hK _ _ ?_; clear hK K; have HF := HF.put 21 (.slice (some ⟨GG, 0, none⟩) n n) (by decide) rfl; generalize Act.put _ _ _ = a at HF ⊢
                refine wpAny_ready (rs := [7]) (by kernel_rfl) (by simp) ?_
                refine ready_step (some 4) rfl rfl rfl (fun K hK => ?_) ?_
                · refine wp_assign rfl (HF.get 0 rfl) ?_; refine hK _ _ ?_; clear hK K; have HF := HF.put 4 (.slice (some ⟨GG, 0, none⟩) n n) (by decide) rfl; generalize Act.put _ _ _ = a at HF ⊢
                  exact wpAny_done (by kernel_rfl) (FIN _ _ ⟨HF.get 8 rfl, HF.get 9 rfl, _, HF.get 0 rfl, RG, BB, HF.1.2⟩) _
                exact AllReady.nil
              exact AllReady.nil
            exact AllReady.nil
          exact AllReady.nil
        refine ready_step (some 21) rfl rfl rfl (fun K hK => ?_) ?_
        · refine wp_make (n := n) rfl (HF.get 1 rfl) hn.symm i0 (.int .i64 0) Tryz.underlying31 hi0 hz0 hz1 HBY HML ?_; intro W3 q1 q2; obtain ⟨BB, RG, HGn⟩ := HMK.out _ _ _ _ BB q1 q2; clear q1 q2; generalize HGG : W2.heap.size = GG at RG HGn ⊢; refine hK _ _ ?_; clear hK K; have HF := HF.put 21 (.slice (some ⟨GG, 0, none⟩) n n) (by decide) rfl; generalize Act.put _ _ _ = a at HF ⊢
          refine wpAny_ready (rs := [0]) (by kernel_rfl) (by simp) ?_
          refine ready_step (some 17) rfl rfl rfl (fun K hK => ?_) ?_
          · refine wp_load_row 28 _ rfl w6.heap.size (HF.get 4 rfl) 28 _ _ _ BB.a1 Tryz.underlying28 rfl (by kernel_rfl) ?_; refine hK _ _ ?_; clear hK K; have HF := HF.put 17 (.agg d.arr) (by decide) rfl; generalize Act.put _ _ _ = a at HF ⊢
            refine wpAny_ready (rs := [5]) (by kernel_rfl) (by simp) ?_
            refine ready_step none rfl rfl rfl (fun K hK => ?_) ?_
            · refine wp_store_row 28 _ _ rfl (w.heap.size + 1) _ (HF.get 7 rfl) (HF.get 0 rfl) 28 zero24 BB.r1 (by kernel_rfl) rfl (arr_one d) ?_; have RG := rw_setRow (k := w.heap.size + 1) (cs := d.arr) (g := 0) (n := 0) RG (fun g' q => by cases q; show GG ≠ _; omega); have BB := BB.put1 d.arr; refine hK _ _ ?_; clear hK K; have HF := HF.skip undef; generalize Act.put _ _ _ = a at HF ⊢
              generalize World.setRow _ _ _ = W2 at BB RG ⊢
              refine wpAny_ready (rs := [6]) (by kernel_rfl) (by simp) ?_
              refine ready_step none rfl rfl rfl (fun K hK => ?_) ?_
              · refine wp_store_row 30 _ _ rfl (w.heap.size + 2) _ (HF.get 8 rfl) (HF.get 2 rfl) 30 zero11 BB.r2 (by kernel_rfl) rfl (cells_one d) ?_; have RG := rw_setRow (k := w.heap.size + 2) (cs := d.cells) (g := 0) (n := 0) RG (fun g' q => by cases q; show GG ≠ _; omega); have BB := BB.put2 d.cells; refine hK _ _ ?_; clear hK K; have HF := HF.skip undef; generalize Act.put _ _ _ = a at HF ⊢
                generalize World.setRow _ _ _ = W2 at BB RG ⊢
                refine wpAny_ready (rs := [7]) (by kernel_rfl) (by simp) ?_
                refine ready_step (some 4) rfl rfl rfl (fun K hK => ?_) ?_
                · refine wp_assign rfl (HF.get 1 rfl) ?_; refine hK _ _ ?_; clear hK K; have HF := HF.put 4 (.slice (some ⟨GG, 0, none⟩) n n) (by decide) rfl; generalize Act.put _ _ _ = a at HF ⊢
                  exact wpAny_done (by kernel_rfl) (FIN _ _ ⟨HF.get 8 rfl, HF.get 9 rfl, _, HF.get 0 rfl, RG, BB, HF.1.2⟩) _
                exact AllReady.nil
              exact AllReady.nil
            exact AllReady.nil
          exact AllReady.nil
        exact AllReady.nil
      refine ready_step (some 21) rfl rfl rfl (fun K hK => ?_) ?_
      · refine wp_make (n := n) rfl (HF.get 0 rfl) hn.symm i0 (.int .i64 0) Tryz.underlying31 hi0 hz0 hz1 HBY HML ?_; intro W3 q1 q2; obtain ⟨BB, RG, HGn⟩ := HMK.out _ _ _ _ BB q1 q2; clear q1 q2; generalize HGG : W2.heap.size = GG at RG HGn ⊢; refine hK _ _ ?_; clear hK K; have HF := HF.put 21 (.slice (some ⟨GG, 0, none⟩) n n) (by decide) rfl; generalize Act.put _ _ _ = a at HF ⊢
        refine wpAny_ready (rs := [0, 1]) (by kernel_rfl) (by simp) ?_
        refine ready_step (some 17) rfl rfl rfl (fun K hK => ?_) ?_
        · refine wp_load_row 28 _ rfl w6.heap.size (HF.get 3 rfl) 28 _ _ _ BB.a1 Tryz.underlying28 rfl (by kernel_rfl) ?_; refine hK _ _ ?_; clear hK K; have HF := HF.put 17 (.agg d.arr) (by decide) rfl; generalize Act.put _ _ _ = a at HF ⊢
          refine wpAny_ready (rs := [1, 5]) (by kernel_rfl) (by simp) ?_
          refine ready_step (some 18) rfl rfl rfl (fun K hK => ?_) ?_
          · refine wp_load_row 30 _ rfl (w6.heap.size + 1) (HF.get 5 rfl) 30 _ _ _ BB.a2 Tryz.underlying30 rfl (by kernel_rfl) ?_; refine hK _ _ ?_; clear hK K; have HF := HF.put 18 (.agg d.cells) (by decide) rfl; generalize Act.put _ _ _ = a at HF ⊢
            refine wpAny_ready (rs := [5]) (by kernel_rfl) (by simp) ?_
            refine ready_step none rfl rfl rfl (fun K hK => ?_) ?_
            · refine wp_store_row 28 _ _ rfl (w.heap.size + 1) _ (HF.get 7 rfl) (HF.get 1 rfl) 28 zero24 BB.r1 (by kernel_rfl) rfl (arr_one d) ?_; have RG := rw_setRow (k := w.heap.size + 1) (cs := d.arr) (g := 0) (n := 0) RG (fun g' q => by cases q; show GG ≠ _; omega); have BB := BB.put1 d.arr; refine hK _ _ ?_; clear hK K; have HF := HF.skip undef; generalize Act.put _ _ _ = a at HF ⊢
              generalize World.setRow _ _ _ = W2 at BB RG ⊢
              refine wpAny_ready (rs := [6]) (by kernel_rfl) (by simp) ?_
              refine ready_step none rfl rfl rfl (fun K hK => ?_) ?_
              · refine wp_store_row 30 _ _ rfl (w.heap.size + 2) _ (HF.get 8 rfl) (HF.get 0 rfl) 30 zero11 BB.r2 (by kernel_rfl) rfl (cells_one d) ?_; have RG := rw_setRow (k := w.heap.size + 2) (cs := d.cells) (g := 0) (n := 0) RG (fun g' q => by cases q; show GG ≠ _; omega); have BB := BB.put2 d.cells; refine hK _ _ ?_; clear hK K; have HF := HF.skip undef; generalize Act.put _ _ _ = a at HF ⊢
                generalize World.setRow _ _ _ = W2 at BB RG ⊢
                refine wpAny_ready (rs := [7]) (by kernel_rfl) (by simp) ?_
                refine ready_step (some 4) rfl rfl rfl (fun K hK => ?_) ?_
                · refine wp_assign rfl (HF.get 2 rfl) ?_; refine hK _ _ ?_; clear hK K; have HF := HF.put 4 (.slice (some ⟨GG, 0, none⟩) n n) (by decide) rfl; generalize Act.put _ _ _ = a at HF ⊢
                  exact wpAny_done (by kernel_rfl) (FIN _ _ ⟨HF.get 8 rfl, HF.get 9 rfl, _, HF.get 0 rfl, RG, BB, HF.1.2⟩) _
                exact AllReady.nil
              exact AllReady.nil
            exact AllReady.nil
          refine ready_step none rfl rfl rfl (fun K hK => ?_) ?_
          · refine wp_store_row 28 _ _ rfl (w.heap.size + 1) _ (HF.get 6 rfl) (HF.get 0 rfl) 28 zero24 BB.r1 (by kernel_rfl) rfl (arr_one d) ?_; have RG := rw_setRow (k := w.heap.size + 1) (cs := d.arr) (g := 0) (n := 0) RG (fun g' q => by cases q; show GG ≠ _; omega); have BB := BB.put1 d.arr; refine hK _ _ ?_; clear hK K; have HF := HF.skip undef; generalize Act.put _ _ _ = a at HF ⊢
            generalize World.setRow _ _ _ = W2 at BB RG ⊢
            refine wpAny_ready (rs := [1]) (by kernel_rfl) (by simp) ?_
            refine ready_step (some 18) rfl rfl rfl (fun K hK => ?_) ?_
            · refine wp_load_row 30 _ rfl (w6.heap.size + 1) (HF.get 5 rfl) 30 _ _ _ BB.a2 Tryz.underlying30 rfl (by kernel_rfl) ?_; refine hK _ _ ?_; clear hK K; have HF := HF.put 18 (.agg d.cells) (by decide) rfl; generalize Act.put _ _ _ = a at HF ⊢
              refine wpAny_ready (rs := [6]) (by kernel_rfl) (by simp) ?_
              refine ready_step none rfl rfl rfl (fun K hK => ?_) ?_
              · refine wp_store_row 30 _ _ rfl (w.heap.size + 2) _ (HF.get 8 rfl) (HF.get 0 rfl) 30 zero11 BB.r2 (by kernel_rfl) rfl (cells_one d) ?_; have RG := rw_setRow (k := w.heap.size + 2) (cs := d.cells) (g := 0) (n := 0) RG (fun g' q => by cases q; show GG ≠ _; omega); have BB := BB.put2 d.cells; refine hK _ _ ?_; clear hK K; have HF := HF.skip undef; generalize Act.put _ _ _ = a at HF ⊢
                generalize World.setRow _ _ _ = W2 at BB RG ⊢
                refine wpAny_ready (rs := [7]) (by kernel_rfl) (by simp) ?_
                refine ready_step (some 4) rfl rfl rfl (fun K hK => ?_) ?_
                · refine wp_assign rfl (HF.get 2 rfl) ?_; refine hK _ _ ?_; clear hK K; have HF := HF.put 4 (.slice (some ⟨GG, 0, none⟩) n n) (by decide) rfl; generalize Act.put _ _ _ = a at HF ⊢
                  exact wpAny_done (by kernel_rfl) (FIN _ _ ⟨HF.get 8 rfl, HF.get 9 rfl, _, HF.get 0 rfl, RG, BB, HF.1.2⟩) _
                exact AllReady.nil
              exact AllReady.nil
            exact AllReady.nil
          exact AllReady.nil
        refine ready_step (some 18) rfl rfl rfl (fun K hK => ?_) ?_
        · refine wp_load_row 30 _ rfl (w6.heap.size + 1) (HF.get 4 rfl) 30 _ _ _ BB.a2 Tryz.underlying30 rfl (by kernel_rfl) ?_; refine hK _ _ ?_; clear hK K; have HF := HF.put 18 (.agg d.cells) (by decide) rfl; generalize Act.put _ _ _ = a at HF ⊢
          refine wpAny_ready (rs := [0]) (by kernel_rfl) (by simp) ?_
          refine ready_step (some 17) rfl rfl rfl (fun K hK => ?_) ?_
          · refine wp_load_row 28 _ rfl w6.heap.size (HF.get 4 rfl) 28 _ _ _ BB.a1 Tryz.underlying28 rfl (by kernel_rfl) ?_; refine hK _ _ ?_; clear hK K; have HF := HF.put 17 (.agg d.arr) (by decide) rfl; generalize Act.put _ _ _ = a at HF ⊢
            refine wpAny_ready (rs := [5]) (by kernel_rfl) (by simp) ?_
            refine ready_step none rfl rfl rfl (fun K hK => ?_) ?_
            · refine wp_store_row 28 _ _ rfl (w.heap.size + 1) _ (HF.get 7 rfl) (HF.get 0 rfl) 28 zero24 BB.r1 (by kernel_rfl) rfl (arr_one d) ?_; have RG := rw_setRow (k := w.heap.size + 1) (cs := d.arr) (g := 0) (n := 0) RG (fun g' q => by cases q; show GG ≠ _; omega); have BB := BB.put1 d.arr; refine hK _ _ ?_; clear hK K; have HF := HF.skip undef; generalize Act.put _ _ _ = a at HF ⊢
              generalize World.setRow _ _ _ = W2 at BB RG ⊢
              refine wpAny_ready (rs := [6]) (by kernel_rfl) (by simp) ?_
              refine ready_step none rfl rfl rfl (fun K hK => ?_) ?_
              · refine wp_store_row 30 _ _ rfl (w.heap.size + 2) _ (HF.get 8 rfl) (HF.get 1 rfl) 30 zero11 BB.r2 (by kernel_rfl) rfl (cells_one d) ?_; have RG := rw_setRow (k := w.heap.size + 2) (cs := d.cells) (g := 0) (n := 0) RG (fun g' q => by cases q; show GG ≠ _; omega); have BB := BB.put2 d.cells; refine hK _ _ ?_; clear hK K; have HF := HF.skip undef; generalize Act.put _ _ _ = a at HF ⊢
                generalize World.setRow _ _ _ = W2 at BB RG ⊢
                refine wpAny_ready (rs := [7]) (by kernel_rfl) (by simp) ?_
                refine ready_step (some 4) rfl rfl rfl (fun K hK => ?_) ?_
                · refine wp_assign rfl (HF.get 2 rfl) ?_; refine hK _ _ ?_; clear hK K; have HF := HF.put 4 (.slice (some ⟨GG, 0, none⟩) n n) (by decide) rfl; generalize Act.put _ _ _ = a at HF ⊢
                  exact wpAny_done (by kernel_rfl) (FIN _ _ ⟨HF.get 8 rfl, HF.get 9 rfl, _, HF.get 0 rfl, RG, BB, HF.1.2⟩) _
                exact AllReady.nil
              exact AllReady.nil
            exact AllReady.nil
          exact AllReady.nil
        exact AllReady.nil
      exact AllReady.nil
    exact AllReady.nil
  exact AllReady.nil
end Go.Proofs.YtogfikemodaepaaGreat
