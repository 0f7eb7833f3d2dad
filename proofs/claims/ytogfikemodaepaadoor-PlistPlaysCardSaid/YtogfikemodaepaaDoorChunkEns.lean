/-
  The landed package chunk: Ensure.
-/
import Derived.Test.YtogfikemodaepaaDoorChunkSeq
import Derived.Test.YtogfikemodaepaaDoorChunkMany
namespace Go.Proofs.YtogfikemodaepaaDoor
open Go.RowKit Go.Sort Go.Maps Go.Shelf
set_option linter.unusedVariables false
set_option linter.unusedSimpArgs false
attribute [local go_sem] Oper.semAt_some

/-- A load of one cell. -/
theorem run_loadVar_one {P : Program} {w : World} {ty : TypeId} {g : Nat} {v : Value} {d : TypeDesc} (hu : P.underlying ty = some d) (hd : (match d with | .struct _ | .array _ _ => true | _ => false) = false) (hc : w.cell? ⟨g, 0, none⟩ = some v) : (loadVar ty ⟨g, 0, none⟩).run P w = .ok v w := by
  have hagg : (isAgg ty).run P w = .ok false w := by
    unfold isAgg
    rw [Sem.run_bind, run_underlying hu w]
    cases d <;> simp_all
  simp [loadVar, Sem.run_bind, hagg, hc, Result.andThen, go_sem]
section
variable {F : Fence} {n : Nat} {P : Program} {o : Oper} {a : Act} {w : World} {K : Act → World → Prop} {Q : Exit → Act → World → Prop}
theorem wpIn_load_run {ty : TypeId} {x : Operand} (ho : o.op = .load ty x) {g : Nat} (hx : a.eval x = .pointer (some ⟨g, 0, none⟩)) {v : Value} (hr : (loadVar ty ⟨g, 0, none⟩).run P w = .ok v w) (h : K (a.put o.dst v) w) : o.wpIn F n P a w K Q := by
  refine ⟨by simp [Oper.about, ho], ?_⟩
  rw [Oper.semAt_plain F _ _ (by rw [ho]; intro c hc; cases hc)]
  simp [execOp, ho, hx, Instr.loadAt, Instr.sureAddr, Sem.run_bind, hr, Result.andThen]
  exact h
/-- A call of a function of three arguments, in a round of the wide fence. -/
theorem wpIn_call3 {l f : Nat} {x0 x1 x2 : Operand} {v0 v1 v2 : Value} {ts : Array TypeId} (ho : o.op = .call { callee := .value (.func f), args := #[x0, x1, x2], argTypes := ts }) (h0 : a.eval x0 = v0) (h1 : a.eval x1 = v1) (h2 : a.eval x2 = v2) (he : ∀ (vs : Array Value) (w : World), Sem.run P (callFunc f vs) w = .ok (.enter f vs) w)
    (h : CallsIn Fence.wide (n - 1) P f #[v0, v1, v2] w (fun | .returned v, w'' => K (a.put o.dst v) w'' | .panicked ch, w'' => Q (.panic ch) a w'' | .outgrown, _ => LetsOut Q)) : o.wpIn (Fence.wide.inRound l) n P a w K Q := by
  refine ⟨fun _ _ => trivial, ?_⟩
  have hv : a.eval (.func f) = .func (.func f) #[] #[] := rfl
  rw [Oper.semAt_plain _ _ _ (by rw [ho]; intro c hc; cases hc)]
  generalize a.eval = ρ at h0 h1 h2 hv ⊢
  simp [execOp, ho, resolve, invoke, hv, h0, h1, h2, he, Sem.run_bind, Result.andThen, go_sem]
  exact ⟨fun q => by simp [Fence.inRound, Fence.wide] at q, CallsIn.inRound l h⟩
end

end Go.Proofs.YtogfikemodaepaaDoor
