/-
  The landed package chunk: going through the chunks of pages, by a function to range over.
-/
import Derived.Test.YtogfikemodaepaaDoorChunk
import Derived.Test.YtogfikemodaepaaDoorRange
import Derived.RangeFuncBox
import Derived.Shelf.Abstract
import Derived.LoopNIn
import Derived.LoopIn
namespace Go.Proofs.YtogfikemodaepaaDoor
open Go.RowKit Go.Sort Go.Maps Go.Shelf
set_option linter.unusedVariables false
set_option linter.unusedSimpArgs false
attribute [local go_sem] Oper.semAt_some

section
variable {F : Fence} {n : Nat} {P : Program} {ops : Array Oper} {rest : List Oper} {o : Oper} {a : Act} {w : World} {Q : Exit → Act → World → Prop}
/-- A load whose run is known, in a fence. -/
theorem wpListIn_load_run (hw : Region.wanted o (yielded ops a.tmps) = true) (ty : TypeId) (x : Operand) (ho : o.op = .load ty x) (g : Nat) (hx : a.eval x = .pointer (some ⟨g, 0, none⟩)) (v : Value)
    (hr : (loadVar ty ⟨g, 0, none⟩).run P w = .ok v w) (h : wpListIn F n P ops Q rest (a.put o.dst v) w) : wpListIn F n P ops Q (o :: rest) a w :=
  BigFrame.wpListIn_want hw fun K hK => by
    refine ⟨by simp [Oper.about, ho], ?_⟩
    rw [Oper.semAt_plain F _ _ (by rw [ho]; intro c hc; cases hc)]
    simp [execOp, ho, hx, Instr.loadAt, Instr.sureAddr, Sem.run_bind, hr, Result.andThen]
    exact hK _ _ h
/-- A load of a whole struct, in a fence. -/
theorem wpListIn_load_row (hw : Region.wanted o (yielded ops a.tmps) = true) (ty : TypeId) (x : Operand) (ho : o.op = .load ty x)
    (g : Nat) (hx : a.eval x = .pointer (some ⟨g, 0, none⟩)) (t : TypeId) (cs : Array Value) (fr : Nat × Nat) (d : TypeDesc) (hg : w.heap[g]? = some (.cells cs t fr))
    (hu : P.underlying ty = some d) (hd : (match d with | .struct _ | .array _ _ => true | _ => false) = true) (hi : (P.info? ty).map (·.size) = some cs.size)
    (h : wpListIn F n P ops Q rest (a.put o.dst (.agg cs)) w) : wpListIn F n P ops Q (o :: rest) a w :=
  wpListIn_load_run hw ty x ho g hx _ (run_loadVar_row w g t ty cs fr d hg hu hd hi) h
/-- A store of a whole struct, in a fence. -/
theorem wpListIn_store_row (hw : Region.wanted o (yielded ops a.tmps) = true) (ty : TypeId) (x y : Operand) (ho : o.op = .store ty x y)
    (g : Nat) (hx : a.eval x = .pointer (some ⟨g, 0, none⟩)) (cells : Array Value) (hy : a.eval y = .agg cells) (t : TypeId) (old : Array Value) (hg : w.heap[g]? = some (.cells old t (0, 0)))
    (hi : (P.info? ty).map (·.size) = some cells.size) (hsz : old.size = cells.size) (hone : cells.all (·.oneCell') = true)
    (h : wpListIn F n P ops Q rest (a.put o.dst (.tuple #[])) (w.setRow g cells)) : wpListIn F n P ops Q (o :: rest) a w :=
  BigFrame.wpListIn_want hw fun K hK => by
    refine ⟨by simp [Oper.about, ho], ?_⟩
    rw [Oper.semAt_plain F _ _ (by rw [ho]; intro c hc; cases hc)]
    have hs := run_storeVar_row (P := P) w g t ty old cells hg hi hsz hone
    simp [execOp, ho, hx, hy, Instr.storeAt, Instr.sureAddr, Sem.run_bind, hs, Result.andThen]
    exact hK _ _ h
end

/-- How many chunks are gone through. -/
def roundsV (pg p n : Int) : Nat := if thereB pg p n then spanV p n else 0
/-- The box of an integer. -/
def IntBox (w : World) (b : Nat) (x : Int) : Prop := w.heap[b]? = some (.cells #[.int .i64 x] 3 (0, 0))

theorem over_made (c : Cfg) (p q : Int) (w : World) :
    (((w.alloc (.cells c.arr 28)).alloc (.cells #[.int .i64 p] 3)).alloc (.cells #[.int .i64 q] 3)).heap[w.heap.size]? = some (.cells c.arr 28 (0, 0)) ∧
    IntBox (((w.alloc (.cells c.arr 28)).alloc (.cells #[.int .i64 p] 3)).alloc (.cells #[.int .i64 q] 3)) (w.heap.size + 1) p ∧
    IntBox (((w.alloc (.cells c.arr 28)).alloc (.cells #[.int .i64 p] 3)).alloc (.cells #[.int .i64 q] 3)) (w.heap.size + 2) q := by
  have h0 := heap_new w (.cells c.arr 28)
  have s0 : (w.alloc (.cells c.arr 28)).heap.size = w.heap.size + 1 := by simp
  generalize w.alloc (.cells c.arr 28) = w1 at h0 s0 ⊢
  have h1 := heap_new w1 (.cells #[.int .i64 p] 3)
  rw [s0] at h1
  have s1 : (w1.alloc (.cells #[.int .i64 p] 3)).heap.size = w.heap.size + 2 := by simp [s0]
  have m1 : More w1 (w1.alloc (.cells #[.int .i64 p] 3)) := (More.refl _).alloc _
  generalize w1.alloc (.cells #[.int .i64 p] 3) = w2 at h1 s1 m1 ⊢
  have h2 := heap_new w2 (.cells #[.int .i64 q] 3)
  rw [s1] at h2
  have m2 : More w2 (w2.alloc (.cells #[.int .i64 q] 3)) := (More.refl _).alloc _
  exact ⟨m2.block (m1.block h0), m2.block h1, h2⟩

theorem went_cases {α : Type} {w w' : World} {F : Nat → Prop} {p : Nat} {kn : Int → Option Int} {val : α → Value} {R : Res α} {e : Ending} (h : WentV w F p kn val R e w') : (∃ a, R = .need a ∧ e = .panicked (endOf p)) ∨ ∃ x D, R = .ok x D ∧ e = .returned (val x) := by
  cases R with
  | need a => exact .inl ⟨a, rfl, h.1⟩
  | ok x D => exact .inr ⟨x, D, rfl, h.1⟩

/-- Another answer of the same end. -/
def mapR {α β : Type} (f : α → β) : Res α → Res β
  | .need a => .need a
  | .ok x D => .ok (f x) D
theorem WentV.map {α β : Type} {w w' : World} {F : Nat → Prop} {p : Nat} {kn : Int → Option Int} {val : α → Value} {val' : β → Value} (f : α → β) {R : Res α} {x : α} {D : List KV} {v : Value} (hR : R = .ok x D) (h : WentV w F p kn val R (.returned v) w') : WentV w F p kn val' (mapR f R) (.returned (val' (f x))) w' := by
  subst hR
  obtain ⟨_, F', hv, ht, hn⟩ := h
  exact ⟨rfl, F', hv, ht, hn⟩
theorem WentV.mapN {α β : Type} {w w' : World} {F : Nat → Prop} {p : Nat} {kn : Int → Option Int} {val : α → Value} {val' : β → Value} (f : α → β) {R : Res α} {a : Int} {e : Ending} (hR : R = .need a) (h : WentV w F p kn val R e w') : WentV w F p kn val' (mapR f R) e w' := by
  subst hR
  exact h

end Go.Proofs.YtogfikemodaepaaDoor
