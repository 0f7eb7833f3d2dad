/-
  Regions that draw their order: more of what an operation there yields, or comes to.
-/
import Derived.Test.YtcjnkadmiflgaaaExtAftAll
namespace Go.Proofs.Ytcjnkadmiflgaaa
open Go.RowKit Go.Sort Go.Maps Go.Shelf
set_option linter.unusedVariables false
set_option linter.unusedSimpArgs false
set_option linter.unusedSectionVars false

section
variable {P : Program} {ops : Array Oper} {md : Region.Mode} {C : World → Prop} {Q : Exit → Act → World → Prop} {o : Oper} {a : Act} {v : Value}
theorem wanted_gF {tmps : Array Value} (g : Nat) (b : Bool) (d : Tmp) (hg : o.guard = some (g, b)) (hd : (ops[g]?).bind (·.dst) = some d) (h : tmps[d]? = some (.bool (!b))) : Region.wanted o (yielded ops tmps) = false := by
  cases b <;> simp [Region.wanted, hg, yielded, hd, h]
theorem wanted_gU {tmps : Array Value} (g : Nat) (b : Bool) (d : Tmp) (hg : o.guard = some (g, b)) (hd : (ops[g]?).bind (·.dst) = some d) (h : tmps[d]? = some undef) : Region.wanted o (yielded ops tmps) = false := by
  cases b <;> simp [Region.wanted, hg, yielded, hd, h, undef]
theorem yieldsC_skip (hw : Region.wanted o (yielded ops a.tmps) = false) : YieldsC P ops C o undef a := .inr ⟨hw, rfl⟩
theorem yieldsC_pickF {x y z : Operand} (hw : Region.wanted o (yielded ops a.tmps) = true) (ho : o.op = .pick x y z) (hx : a.eval x = .bool false) (hz : a.eval z = v) : YieldsC Try.prog ops C o v a :=
  .inl ⟨hw, fun w _ => by unfold execOp; generalize a.eval = ρ at hx hz ⊢; simp only [ho, hx, hz]; go_simp⟩
theorem yieldsC_int (hw : Region.wanted o (yielded ops a.tmps) = true) (x : Operand) (ho : o.op = .load 3 x) (g : Nat) (hx : a.eval x = .pointer (some ⟨g, 0, none⟩)) (z : Int) (hg : ∀ w, C w → w.heap[g]? = some (.cells #[.int .i64 z] 3 (0, 0))) : YieldsC Try.prog ops C o (.int .i64 z) a :=
  .inl ⟨hw, fun w hC => by
    have hl : (loadVar 3 ⟨g, 0, none⟩).run Try.prog w = .ok (.int .i64 z) w := run_loadVar_cell Try.underlying3 rfl (box_cells (hg w hC)).1
    unfold execOp
    simp only [ho, hx, Instr.loadAt, Instr.sureAddr, Sem.run_bind, Sem.run_pure, Result.andThen_ok, hl]⟩
theorem yieldsC_addI {x y : Operand} {u z : Int} (hw : Region.wanted o (yielded ops a.tmps) = true) (ho : o.op = .binOp .add 3 x y 3) (hx : a.eval x = .int .i64 u) (hy : a.eval y = .int .i64 z) (t : Int) (hq : IntKind.i64.wrap (u + z) = t) : YieldsC Try.prog ops C o (.int .i64 t) a :=
  .inl ⟨hw, fun w _ => by unfold execOp; generalize a.eval = ρ at hx hy ⊢; simp only [ho, hx, hy]; subst hq; go_simp⟩
theorem yieldsC_eqI {x y : Operand} {u z : Int} (hw : Region.wanted o (yielded ops a.tmps) = true) (ho : o.op = .binOp .eql 3 x y 3) (hx : a.eval x = .int .i64 u) (hy : a.eval y = .int .i64 z) (b : Bool) (hb : (u == z) = b) : YieldsC Try.prog ops C o (.bool b) a :=
  .inl ⟨hw, fun w _ => by unfold execOp; generalize a.eval = ρ at hx hy ⊢; simp only [ho, hx, hy]; subst hb; go_simp⟩
variable {w : World} {K : Act → World → Prop}
theorem wp_call4 {f : Nat} {x0 x1 x2 x3 : Operand} {v0 v1 v2 v3 : Value} {ts : Array TypeId} (ho : o.op = .call { callee := .value (.func f), args := #[x0, x1, x2, x3], argTypes := ts }) (h0 : a.eval x0 = v0) (h1 : a.eval x1 = v1) (h2 : a.eval x2 = v2) (h3 : a.eval x3 = v3) (he : ∀ (vs : Array Value) (w : World), Sem.run P (callFunc f vs) w = .ok (.enter f vs) w)
    (h : Calls P f #[v0, v1, v2, v3] w (fun | .returned v, w'' => K (a.put o.dst v) w'' | .panicked ch, w'' => Q (.panic ch) a w'' | .outgrown, _ => LetsOut Q)) : o.wp P a w K Q := by
  have hv : a.eval (.func f) = .func (.func f) #[] #[] := rfl
  unfold Oper.wp Oper.upon
  generalize hρ : a.eval = ρ at h0 h1 h2 h3 hv ⊢
  simp [execOp, ho, resolve, invoke, hv, h0, h1, h2, h3, he, Sem.run_bind, Result.andThen, go_sem]
  exact h
end
end Go.Proofs.Ytcjnkadmiflgaaa
