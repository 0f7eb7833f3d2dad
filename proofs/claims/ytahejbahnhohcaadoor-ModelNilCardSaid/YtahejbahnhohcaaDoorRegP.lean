/-
  Regions that draw their order: what an operation there yields, or comes to; what is known of a frame.
-/
import Derived.Test.YtahejbahnhohcaaDoorAnyC
import Derived.Test.YtahejbahnhohcaaDoorInts
namespace Go.Proofs.YtahejbahnhohcaaDoor
open Go.RowKit
set_option linter.unusedVariables false
set_option linter.unusedSimpArgs false
set_option linter.unusedSectionVars false

section
variable {P : Program} {o : Oper} {a : Act} {w : World} {K : Act → World → Prop} {Q : Exit → Act → World → Prop}
/-- A call of a function without arguments. -/
theorem wp_callz0 {f : Nat} {ts : Array TypeId} (ho : o.op = .call { callee := .value (.func f), args := #[], argTypes := ts }) (he : ∀ (vs : Array Value) (w : World), Sem.run P (callFunc f vs) w = .ok (.enter f vs) w)
    (h : Calls P f #[] w (fun | .returned v, w'' => K (a.put o.dst v) w'' | .panicked ch, w'' => Q (.panic ch) a w'' | .outgrown, _ => LetsOut Q)) : o.wp P a w K Q := by
  have hv : a.eval (.func f) = .func (.func f) #[] #[] := rfl
  unfold Oper.wp Oper.upon
  generalize hρ : a.eval = ρ at hv ⊢
  simp [execOp, ho, resolve, invoke, hv, he, Sem.run_bind, Result.andThen, go_sem]
  exact h
/-- A call of a function of one argument. -/
theorem wp_callz1 {f : Nat} {x0 : Operand} {v0 : Value} {ts : Array TypeId} (ho : o.op = .call { callee := .value (.func f), args := #[x0], argTypes := ts }) (h0 : a.eval x0 = v0) (he : ∀ (vs : Array Value) (w : World), Sem.run P (callFunc f vs) w = .ok (.enter f vs) w)
    (h : Calls P f #[v0] w (fun | .returned v, w'' => K (a.put o.dst v) w'' | .panicked ch, w'' => Q (.panic ch) a w'' | .outgrown, _ => LetsOut Q)) : o.wp P a w K Q := by
  have hv : a.eval (.func f) = .func (.func f) #[] #[] := rfl
  unfold Oper.wp Oper.upon
  generalize hρ : a.eval = ρ at h0 hv ⊢
  simp [execOp, ho, resolve, invoke, hv, h0, he, Sem.run_bind, Result.andThen, go_sem]
  exact h
/-- A call of a function of two arguments. -/
theorem wp_call2 {f : Nat} {x0 x1 : Operand} {v0 v1 : Value} {ts : Array TypeId} (ho : o.op = .call { callee := .value (.func f), args := #[x0, x1], argTypes := ts }) (h0 : a.eval x0 = v0) (h1 : a.eval x1 = v1) (he : ∀ (vs : Array Value) (w : World), Sem.run P (callFunc f vs) w = .ok (.enter f vs) w)
    (h : Calls P f #[v0, v1] w (fun | .returned v, w'' => K (a.put o.dst v) w'' | .panicked ch, w'' => Q (.panic ch) a w'' | .outgrown, _ => LetsOut Q)) : o.wp P a w K Q := by
  have hv : a.eval (.func f) = .func (.func f) #[] #[] := rfl
  unfold Oper.wp Oper.upon
  generalize hρ : a.eval = ρ at h0 h1 hv ⊢
  simp [execOp, ho, resolve, invoke, hv, h0, h1, he, Sem.run_bind, Result.andThen, go_sem]
  exact h
end
/-- A region that dies: nothing else is asked of its end. -/
theorem any_start {P : Program} {md : Region.Mode} {ops : Array Oper} {Q : Exit → Act → World → Prop} {n : Nat} {dn : Array Bool} {a : Act} {w : World} (Φ : World → Prop) (ch : List PanicEntry) (fin : ∀ a w, a.defers = [] → Φ w → Q (.panic ch) a w) (h : ∀ Q' : Exit → Act → World → Prop, (∀ a w, a.defers = [] → Φ w → Q' (.panic ch) a w) → wpAny P md ops Q' n dn a w) : wpAny P md ops Q n dn a w := h Q fin
/-- What is known of a frame. -/
def AG (m : Nat) (a : Act) (L : List (Nat × Value)) : Prop := (m ≤ a.tmps.size ∧ a.defers = []) ∧ ∀ q ∈ L, a.eval (.tmp q.1) = q.2
theorem AG.put {m : Nat} {a : Act} {L : List (Nat × Value)} (h : AG m a L) (d : Nat) (v : Value) (hd : d < m) (hn : L.all (fun q => q.1 != d) = true) : AG m (a.put (some d) v) ((d, v) :: L) := by
  have hs := h.1.1
  refine ⟨⟨by simp [Act.put]; exact hs, h.1.2⟩, ?_⟩
  intro q hq
  rcases List.mem_cons.1 hq with rfl | hq
  · have hlt : d < a.tmps.size := by omega
    simp [Act.put, Act.eval, Array.getD, hlt]
  · rw [Act.eval_put (by have := List.all_eq_true.1 hn q hq; simp at this; rintro _ ⟨⟩; simp [this])]
    exact h.2 q hq
theorem AG.get {m : Nat} {a : Act} {L : List (Nat × Value)} (h : AG m a L) (i : Nat) {k : Nat} {v : Value} (hm : L[i]? = some (k, v)) : a.eval (.tmp k) = v := h.2 (k, v) (List.mem_of_getElem? hm)
theorem frame_g {P : Program} {md : Region.Mode} {ops : Array Oper} {Q : Exit → Act → World → Prop} {n : Nat} {dn : Array Bool} {A : Act} {W : World} (m : Nat) (L : List (Nat × Value)) (hA : AG m A L) (h : ∀ a, AG m a L → wpAny P md ops Q n dn a W) : wpAny P md ops Q n dn A W := h A hA
section
variable {P : Program} {o : Oper} {a : Act} {w : World} {K : Act → World → Prop} {Q : Exit → Act → World → Prop}
/-- A call of a function of three arguments. -/
theorem wp_call3 {f : Nat} {x0 x1 x2 : Operand} {v0 v1 v2 : Value} {ts : Array TypeId} (ho : o.op = .call { callee := .value (.func f), args := #[x0, x1, x2], argTypes := ts }) (h0 : a.eval x0 = v0) (h1 : a.eval x1 = v1) (h2 : a.eval x2 = v2) (he : ∀ (vs : Array Value) (w : World), Sem.run P (callFunc f vs) w = .ok (.enter f vs) w)
    (h : Calls P f #[v0, v1, v2] w (fun | .returned v, w'' => K (a.put o.dst v) w'' | .panicked ch, w'' => Q (.panic ch) a w'' | .outgrown, _ => LetsOut Q)) : o.wp P a w K Q := by
  have hv : a.eval (.func f) = .func (.func f) #[] #[] := rfl
  unfold Oper.wp Oper.upon
  generalize hρ : a.eval = ρ at h0 h1 h2 hv ⊢
  simp [execOp, ho, resolve, invoke, hv, h0, h1, h2, he, Sem.run_bind, Result.andThen, go_sem]
  exact h
/-- A call of a function value of one argument. -/
theorem wp_callv1 {xf : Operand} {f : Nat} {clo : Array Value} {x0 : Operand} {v0 : Value} {ts : Array TypeId} (ho : o.op = .call { callee := .value xf, args := #[x0], argTypes := ts }) (hf : a.eval xf = .func (.func f) #[] clo) (h0 : a.eval x0 = v0) (he : ∀ (vs : Array Value) (w : World), Sem.run P (callFunc f vs) w = .ok (.enter f vs) w)
    (h : Calls P f (#[v0] ++ clo) w (fun | .returned v, w'' => K (a.put o.dst v) w'' | .panicked ch, w'' => Q (.panic ch) a w'' | .outgrown, _ => LetsOut Q)) : o.wp P a w K Q := by
  unfold Oper.wp Oper.upon
  generalize hρ : a.eval = ρ at h0 hf ⊢
  simp [execOp, ho, resolve, invoke, hf, h0, he, Sem.run_bind, Result.andThen, go_sem]
  exact h
end
/-- The end of a region, under letters: whole, or by a panic. -/
theorem anyC_start {P : Program} {md : Region.Mode} {ops : Array Oper} {C : World → Prop} {Q : Exit → Act → World → Prop} {f : Nat} {d : Array Bool} {a : Act} {w : World} (Φ : Act → World → Prop) (Ψ : World → Prop) (ch : List PanicEntry) (fp : ∀ a w, a.defers = [] → Ψ w → Q (.panic ch) a w) (fq : ∀ c a k v w, Q (.panic c) (Act.put a (some k) v) w → Q (.panic c) a w) (fn : ∀ a w, Φ a w → Q .normal a w)
    (h : ∀ Q' : Exit → Act → World → Prop, (∀ a w, Φ a w → Q' .normal a w) → (∀ a w, a.defers = [] → Ψ w → Q' (.panic ch) a w) → (∀ c a k v w, Q' (.panic c) (Act.put a (some k) v) w → Q' (.panic c) a w) → anyC P md ops C Q' f d a w) : anyC P md ops C Q f d a w := h Q fn fp fq
theorem frame_c {P : Program} {md : Region.Mode} {ops : Array Oper} {C : World → Prop} {Q : Exit → Act → World → Prop} {n : Nat} {dn : Array Bool} {A : Act} {W : World} (m : Nat) (L : List (Nat × Value)) (hA : AG m A L) (h : ∀ a, AG m a L → anyC P md ops C Q n dn a W) : anyC P md ops C Q n dn A W := h A hA
theorem yieldsC_move {P : Program} {ops : Array Oper} {C : World → Prop} {o : Oper} {a : Act} {v : Value} (hg : o.guard = none) (x : Operand) (ho : o.op = .move x) (hx : a.eval x = v) : YieldsC P ops C o v a :=
  .inl ⟨by simp [Region.wanted, hg], fun w _ => by unfold execOp; simp only [ho, hx]; rfl⟩
theorem AG.getD {m : Nat} {a : Act} {L : List (Nat × Value)} (h : AG m a L) (i : Nat) {k : Nat} {v : Value} (hm : L[i]? = some (k, v)) : a.tmps[k]?.getD undef = v := by
  have := h.get i hm
  simpa [Act.eval] using this
section
variable {P : Program} {ops : Array Oper} {md : Region.Mode} {C : World → Prop} {Q : Exit → Act → World → Prop}
theorem wanted_g {o : Oper} {tmps : Array Value} (g : Nat) (b : Bool) (d : Tmp) (hg : o.guard = some (g, b)) (hd : (ops[g]?).bind (·.dst) = some d) (h : tmps[d]? = some (.bool b)) : Region.wanted o (yielded ops tmps) = true := by
  simp [Region.wanted, hg, yielded, hd, h]
theorem wanted_none {o : Oper} {f : Nat → Option Bool} (hg : o.guard = none) : Region.wanted o f = true := by simp [Region.wanted, hg]
theorem AG.at {m : Nat} {a : Act} {L : List (Nat × Value)} (h : AG m a L) {k : Nat} (hk : k < m) (i : Nat) {v : Value} (hm : L[i]? = some (k, v)) : a.tmps[k]? = some v := by
  have h1 := h.getD i hm
  have hl : k < a.tmps.size := Nat.lt_of_lt_of_le hk h.1.1
  rw [Array.getElem?_eq_getElem hl] at h1 ⊢
  simpa using h1
theorem yieldsC_moveG {o : Oper} {a : Act} {v : Value} (hw : Region.wanted o (yielded ops a.tmps) = true) (x : Operand) (ho : o.op = .move x) (hx : a.eval x = v) : YieldsC P ops C o v a :=
  .inl ⟨hw, fun w _ => by unfold execOp; simp only [ho, hx]; rfl⟩
theorem yieldsC_not {o : Oper} {a : Act} {b : Bool} {x : Operand} (hw : Region.wanted o (yielded ops a.tmps) = true) (ho : o.op = .unOp .not 4 x) (hx : a.eval x = .bool b) : YieldsC Tryd.prog ops C o (.bool (!b)) a :=
  .inl ⟨hw, fun w _ => by unfold execOp; generalize a.eval = ρ at hx ⊢; simp only [ho, hx]; go_simp⟩
theorem yieldsC_eqlB {o : Oper} {a : Act} {b b' : Bool} {x y : Operand} (hw : Region.wanted o (yielded ops a.tmps) = true) (ho : o.op = .binOp .eql 4 x y 4) (hx : a.eval x = .bool b) (hy : a.eval y = .bool b') : YieldsC Tryd.prog ops C o (.bool (b == b')) a :=
  .inl ⟨hw, fun w _ => by unfold execOp; generalize a.eval = ρ at hx hy ⊢; simp only [ho, hx, hy]; go_simp⟩
theorem yieldsC_pickT {o : Oper} {a : Act} {v : Value} {x y z : Operand} (hw : Region.wanted o (yielded ops a.tmps) = true) (ho : o.op = .pick x y z) (hx : a.eval x = .bool true) (hy : a.eval y = v) : YieldsC Tryd.prog ops C o v a :=
  .inl ⟨hw, fun w _ => by unfold execOp; generalize a.eval = ρ at hx hy ⊢; simp only [ho, hx, hy]; go_simp⟩
theorem frame_k {n : Nat} {dn : Array Bool} {A : Act} {W : World} (m : Nat) (L : List (Nat × Value)) (hA : AG m A L) (h : AG m A L → anyC P md ops C Q n dn A W) : anyC P md ops C Q n dn A W := h hA
theorem anyC_oneK {i : Nat} {o : Oper} {fuel : Nat} {listed : Array Bool} {a : Act} {w : World} (d : Option Tmp) (hr : Region.ready md ops listed = [i]) (hi : ops[i]? = some o) (hw : Region.wanted o (yielded ops a.tmps) = true) (hd : o.dst = d)
    (h : ∀ K : Act → World → Prop, (∀ v w', C w' → anyC P md ops C Q fuel (listed.setIfInBounds i true) (a.put d v) w' → K (a.put o.dst v) w') → Oper.wp P o a w K Q) : anyC P md ops C Q (fuel + 1) listed a w := by
  subst hd
  exact anyC_one hr hi hw (h _ (fun v w' hc hA => ⟨hc, hA⟩))
theorem anyC_last {i : Nat} {o : Oper} {fuel : Nat} {listed : Array Bool} {a : Act} {w : World} (hr : Region.ready md ops listed = [i]) (hr2 : Region.ready md ops (listed.setIfInBounds i true) = []) (hi : ops[i]? = some o) (hw : Region.wanted o (yielded ops a.tmps) = true)
    (h : ∀ K : Act → World → Prop, (∀ v w', C w' → Q .normal (a.put o.dst v) w' → K (a.put o.dst v) w') → Oper.wp P o a w K Q) : anyC P md ops C Q (fuel + 1) listed a w :=
  anyC_one hr hi hw (h _ (fun v w' hc hq => ⟨hc, anyC_done hr2 hq⟩))
variable {o : Oper} {a : Act} {w : World} {K : Act → World → Prop}
theorem wp_call5 {f : Nat} {x0 x1 x2 x3 x4 : Operand} {v0 v1 v2 v3 v4 : Value} {ts : Array TypeId} (ho : o.op = .call { callee := .value (.func f), args := #[x0, x1, x2, x3, x4], argTypes := ts }) (h0 : a.eval x0 = v0) (h1 : a.eval x1 = v1) (h2 : a.eval x2 = v2) (h3 : a.eval x3 = v3) (h4 : a.eval x4 = v4) (he : ∀ (vs : Array Value) (w : World), Sem.run P (callFunc f vs) w = .ok (.enter f vs) w)
    (h : Calls P f #[v0, v1, v2, v3, v4] w (fun | .returned v, w'' => K (a.put o.dst v) w'' | .panicked ch, w'' => Q (.panic ch) a w'' | .outgrown, _ => LetsOut Q)) : o.wp P a w K Q := by
  have hv : a.eval (.func f) = .func (.func f) #[] #[] := rfl
  unfold Oper.wp Oper.upon
  generalize hρ : a.eval = ρ at h0 h1 h2 h3 h4 hv ⊢
  simp [execOp, ho, resolve, invoke, hv, h0, h1, h2, h3, h4, he, Sem.run_bind, Result.andThen, go_sem]
  exact h
theorem wp_load_bool {x : Operand} (ho : o.op = .load 4 x) (g : Nat) (hx : a.eval x = .pointer (some ⟨g, 0, none⟩)) (v : Value) (hc : w.cell? ⟨g, 0, none⟩ = some v) (h : K (a.put o.dst v) w) : Oper.wp Tryd.prog o a w K Q := by
  have hl : (loadVar 4 ⟨g, 0, none⟩).run Tryd.prog w = .ok v w := run_loadVar_cell Tryd.underlying4 rfl hc
  unfold Oper.wp Oper.upon execOp
  simp only [ho, hx, Instr.loadAt, Instr.sureAddr, Sem.run_bind, Sem.run_pure, Result.andThen_ok, hl]
  exact h
theorem wp_store_bool {x y : Operand} (ho : o.op = .store 4 x y) (g : Nat) (hx : a.eval x = .pointer (some ⟨g, 0, none⟩)) (b : Bool) (hy : a.eval y = .bool b) (v : Value) (hb : w.heap[g]? = some (.cells #[v] 4 (0, 0))) (h : K (a.put o.dst undef) (w.setCell ⟨g, 0, none⟩ (.bool b))) : Oper.wp Tryd.prog o a w K Q := by
  obtain ⟨hc, hf, hl⟩ : w.cell? ⟨g, 0, none⟩ = some v ∧ w.frozen? ⟨g, 0, none⟩ = false ∧ g < w.heap.size := ⟨by simp [World.cell?, hb], by simp [World.frozen?, hb], lt_of_heap hb⟩
  unfold Oper.wp Oper.upon execOp
  simp only [ho, hx, hy]
  go_simp
  exact h
end

section
variable {P : Program} {ops : Array Oper} {md : Region.Mode} {C : World → Prop} {Q : Exit → Act → World → Prop} {o : Oper} {a : Act} {v : Value}
theorem wanted_gF {tmps : Array Value} (g : Nat) (b : Bool) (d : Tmp) (hg : o.guard = some (g, b)) (hd : (ops[g]?).bind (·.dst) = some d) (h : tmps[d]? = some (.bool (!b))) : Region.wanted o (yielded ops tmps) = false := by
  cases b <;> simp [Region.wanted, hg, yielded, hd, h]
theorem wanted_gU {tmps : Array Value} (g : Nat) (b : Bool) (d : Tmp) (hg : o.guard = some (g, b)) (hd : (ops[g]?).bind (·.dst) = some d) (h : tmps[d]? = some undef) : Region.wanted o (yielded ops tmps) = false := by
  cases b <;> simp [Region.wanted, hg, yielded, hd, h, undef]
theorem yieldsC_skip (hw : Region.wanted o (yielded ops a.tmps) = false) : YieldsC P ops C o undef a := .inr ⟨hw, rfl⟩
theorem yieldsC_pickF {x y z : Operand} (hw : Region.wanted o (yielded ops a.tmps) = true) (ho : o.op = .pick x y z) (hx : a.eval x = .bool false) (hz : a.eval z = v) : YieldsC Tryd.prog ops C o v a :=
  .inl ⟨hw, fun w _ => by unfold execOp; generalize a.eval = ρ at hx hz ⊢; simp only [ho, hx, hz]; go_simp⟩
theorem yieldsC_int (hw : Region.wanted o (yielded ops a.tmps) = true) (x : Operand) (ho : o.op = .load 3 x) (g : Nat) (hx : a.eval x = .pointer (some ⟨g, 0, none⟩)) (z : Int) (hg : ∀ w, C w → w.heap[g]? = some (.cells #[.int .i64 z] 3 (0, 0))) : YieldsC Tryd.prog ops C o (.int .i64 z) a :=
  .inl ⟨hw, fun w hC => by
    have hl : (loadVar 3 ⟨g, 0, none⟩).run Tryd.prog w = .ok (.int .i64 z) w := run_loadVar_cell Tryd.underlying3 rfl (by simp [World.cell?, hg w hC])
    unfold execOp
    simp only [ho, hx, Instr.loadAt, Instr.sureAddr, Sem.run_bind, Sem.run_pure, Result.andThen_ok, hl]⟩
theorem yieldsC_addI {x y : Operand} {u z : Int} (hw : Region.wanted o (yielded ops a.tmps) = true) (ho : o.op = .binOp .add 3 x y 3) (hx : a.eval x = .int .i64 u) (hy : a.eval y = .int .i64 z) (t : Int) (hq : IntKind.i64.wrap (u + z) = t) : YieldsC Tryd.prog ops C o (.int .i64 t) a :=
  .inl ⟨hw, fun w _ => by unfold execOp; generalize a.eval = ρ at hx hy ⊢; simp only [ho, hx, hy]; subst hq; go_simp⟩
theorem yieldsC_eqI {x y : Operand} {u z : Int} (hw : Region.wanted o (yielded ops a.tmps) = true) (ho : o.op = .binOp .eql 3 x y 3) (hx : a.eval x = .int .i64 u) (hy : a.eval y = .int .i64 z) (b : Bool) (hb : (u == z) = b) : YieldsC Tryd.prog ops C o (.bool b) a :=
  .inl ⟨hw, fun w _ => by unfold execOp; generalize a.eval = ρ at hx hy ⊢; simp only [ho, hx, hy]; subst hb; go_simp⟩
variable {w : World} {K : Act → World → Prop}
theorem wp_call4 {f : Nat} {x0 x1 x2 x3 : Operand} {v0 v1 v2 v3 : Value} {ts : Array TypeId} (ho : o.op = .call { callee := .value (.func f), args := #[x0, x1, x2, x3], argTypes := ts }) (h0 : a.eval x0 = v0) (h1 : a.eval x1 = v1) (h2 : a.eval x2 = v2) (h3 : a.eval x3 = v3) (he : ∀ (vs : Array Value) (w : World), Sem.run P (callFunc f vs) w = .ok (.enter f vs) w)
    (h : Calls P f #[v0, v1, v2, v3] w (fun | .returned v, w'' => K (a.put o.dst v) w'' | .panicked ch, w'' => Q (.panic ch) a w'' | .outgrown, _ => LetsOut Q)) : o.wp P a w K Q := by
  have hv : a.eval (.func f) = .func (.func f) #[] #[] := rfl
  unfold Oper.wp Oper.upon
  generalize hρ : a.eval = ρ at h0 h1 h2 h3 hv ⊢
  simp [execOp, ho, resolve, invoke, hv, h0, h1, h2, h3, he, Sem.run_bind, Result.andThen, go_sem]
  exact h
end

section
variable {P : Program} {ops : Array Oper} {md : Region.Mode} {C : World → Prop} {Q : Exit → Act → World → Prop}
theorem anyC_two {i j : Nat} {oi oj : Oper} {fuel : Nat} {listed : Array Bool} {a : Act} {w : World} (di dj : Option Tmp) (hr : Region.ready md ops listed = [i, j]) (hi : ops[i]? = some oi) (hj : ops[j]? = some oj) (wi : Region.wanted oi (yielded ops a.tmps) = true) (wj : Region.wanted oj (yielded ops a.tmps) = true) (hdi : oi.dst = di) (hdj : oj.dst = dj)
    (h1 : ∀ K : Act → World → Prop, (∀ v w', C w' → anyC P md ops C Q fuel (listed.setIfInBounds i true) (a.put di v) w' → K (a.put oi.dst v) w') → Oper.wp P oi a w K Q)
    (h2 : ∀ K : Act → World → Prop, (∀ v w', C w' → anyC P md ops C Q fuel (listed.setIfInBounds j true) (a.put dj v) w' → K (a.put oj.dst v) w') → Oper.wp P oj a w K Q) : anyC P md ops C Q (fuel + 1) listed a w := by
  subst hdi
  subst hdj
  refine ⟨fun q => (by rw [hr] at q; cases q), fun k hk => ?_⟩
  rw [hr] at hk
  rcases List.mem_cons.1 hk with rfl | hk
  · unfold Go.wpOp
    simp only [hi, wi, if_true]
    exact .inl (h1 _ (fun v w' hc hA => ⟨hc, hA⟩))
  · obtain rfl := List.mem_singleton.1 hk
    unfold Go.wpOp
    simp only [hj, wj, if_true]
    exact .inl (h2 _ (fun v w' hc hA => ⟨hc, hA⟩))
theorem yieldsC_assign {o : Oper} {a : Act} {v : Value} (hw : Region.wanted o (yielded ops a.tmps) = true) (x : Operand) (ho : o.op = .assign x) (hx : a.eval x = v) : YieldsC P ops C o v a :=
  .inl ⟨hw, fun w _ => by unfold execOp; simp only [ho, hx]; rfl⟩
theorem AG.sub {m : Nat} {a : Act} {L L' : List (Nat × Value)} (h : AG m a L) (hs : ∀ q ∈ L', q ∈ L) : AG m a L' := ⟨h.1, fun q hq => h.2 q (hs q hq)⟩
variable {o : Oper} {a : Act} {w : World} {K : Act → World → Prop}
theorem wp_build1 {x : Operand} (ho : o.op = .buildSlice 66 1 #[(0, x)]) (z : Int) (hx : a.eval x = .int .i64 z) (h : K (a.put o.dst (.slice (some ⟨w.heap.size, 0, none⟩) 1 1)) (w.alloc (.cells #[.int .i64 z] 3))) : Oper.wp Tryd.prog o a w K Q := by
  unfold Oper.wp Oper.upon execOp
  simp only [ho]
  generalize a.eval = ρ at hx ⊢
  go_simp
  exact h
theorem wp_push {base g : Nat} {v : Value} {xs : List Int} (y : Int) (s x : Operand)
    (ho : o.op = .call { callee := .builtin .append, args := #[s, x], argTypes := #[66, 66] })
    (hs : a.eval s = v) (hn : Rw base w v xs) (hb : base ≤ w.heap.size) (hl : xs.length ≤ 1000000)
    (hx : a.eval x = .slice (some ⟨g, 0, none⟩) 1 1) (hg : w.heap[g]? = some (.cells #[.int .i64 y] 3 (0, 0)))
    (h : ∀ v' w', Rw base w' v' (xs ++ [y]) → Turned (fun k => v.ownBlock = some k) w w' → (∀ k, v'.ownBlock = some k → v.ownBlock = some k ∨ k = w.heap.size) → K (a.put o.dst v') w') : o.wp Tryd.prog a w K Q := by
  obtain ⟨i, i1, i2, i3, i4⟩ := int_info
  refine wp_append_lies w s x 66 ho base 3 i _ 1 8 Tryd.underlying66 i1 i2 i3 i4 rfl (by omega) v xs.length _ hs hn ⟨g, 0, none⟩ 1 1 [.int .i64 y] hx (by simp)
    (fun j u hu => World.news_of_block hg j u (by simpa using hu)) (by intro u hu; simp at hu; subst hu; rfl) (by omega) (by simp only [maxLen]; omega) (by omega) hb _ rfl ?_
  intro g' cap w1 hown hgrow h4 _
  have ht : Turned (fun k => v.ownBlock = some k) w w1 := ⟨hgrow.os, hgrow.tape, hgrow.output, hgrow.size, fun k hk hne => hgrow.block k hk (fun e => hne e.symm)⟩
  refine h _ w1 ?_ ht (fun k q => ?_)
  · unfold Rw
    rw [List.length_append, List.map_append]
    exact hown
  · have : k = g' := by simpa [Value.ownBlock, eq_comm] using q
    subst this
    exact h4
end
section
variable {P : Program} {ops : Array Oper} {C : World → Prop} {o : Oper} {a : Act}
theorem yieldsC_cell (hw : Region.wanted o (yielded ops a.tmps) = true) (ty : TypeId) (x : Operand) (ho : o.op = .load ty x) (g i : Nat) (hx : a.eval x = .pointer (some ⟨g, i, none⟩)) (v : Value) (d : TypeDesc) (hu : P.underlying ty = some d) (hd : (match d with | .struct _ | .array _ _ => true | _ => false) = false) (hg : ∀ w, C w → w.cell? ⟨g, i, none⟩ = some v) : YieldsC P ops C o v a :=
  .inl ⟨hw, fun w hC => by
    have hl : (loadVar ty ⟨g, i, none⟩).run P w = .ok v w := run_loadVar_cell hu hd (hg w hC)
    unfold execOp
    simp only [ho, hx, Instr.loadAt, Instr.sureAddr, Sem.run_bind, Sem.run_pure, Result.andThen_ok, hl]⟩
end
end Go.Proofs.YtahejbahnhohcaaDoor
