/-
  Entries, loads of a struct within a greater one, and results of which one lies in a cell.
-/
import Derived.Test.YtahejbahnhohcaaDoorRegP
import Derived.Test.YtahejbahnhohcaaDoorLayTop
namespace Go.Proofs.YtahejbahnhohcaaDoor
open Go.RowKit
set_option linter.unusedVariables false
set_option linter.unusedSimpArgs false

/-- A load of a struct that lies within a greater one. -/
theorem run_loadVar_sub {P : Program} (w : World) (g off : Nat) (t ty : TypeId) (cs hs : Array Value) (fr : Nat × Nat) (d : TypeDesc) (hg : w.heap[g]? = some (.cells cs t fr)) (hc : ∀ j, j < hs.size → cs[off + j]? = hs[j]?)
    (hu : P.underlying ty = some d) (hd : (match d with | .struct _ | .array _ _ => true | _ => false) = true) (hi : (P.info? ty).map (·.size) = some hs.size) :
    (loadVar ty ⟨g, off, none⟩).run P w = .ok (.agg hs) w := by
  have hl : (loadCells ⟨g, off, none⟩ hs.toList.length).run P w = .ok hs.toList.toArray w :=
    run_loadCells_list (P := P) w ⟨g, off, none⟩ hs.toList (fun j v hv => by
      have hj : j < hs.size := by have := (List.getElem?_eq_some_iff.1 hv).1; simpa using this
      rw [addr_add, cell_of_row w g (off + j) cs t fr hg, hc j hj]
      simpa using hv)
  cases hq : P.info? ty with
  | none => simp [hq] at hi
  | some i =>
    have hs : i.size = hs.size := by simpa [hq] using hi
    have hagg : (isAgg ty).run P w = .ok true w := by
      unfold isAgg
      rw [Sem.run_bind, run_underlying hu w]
      cases d <;> simp_all
    simp only [Array.length_toList, Array.toArray_toList] at hl
    simp [loadVar, Sem.run_bind, hagg, sizeOf, typeInfo, hq, hs, hl]
theorem wpQuiet_load_sub {P : Program} {ops : Array Oper} {a : Act} {o : Oper} {rest : List Oper} {C : World → Prop} {Q : Act → Prop} (hw : Region.wanted o (yielded ops a.tmps) = true) (ty : TypeId) (x : Operand) (ho : o.op = .load ty x)
    (g off : Nat) (hx : a.eval x = .pointer (some ⟨g, off, none⟩)) (t : TypeId) (cs hs : Array Value) (fr : Nat × Nat) (d : TypeDesc) (hg : ∀ W, C W → W.heap[g]? = some (.cells cs t fr)) (hc : ∀ j, j < hs.size → cs[off + j]? = hs[j]?)
    (hu : P.underlying ty = some d) (hd : (match d with | .struct _ | .array _ _ => true | _ => false) = true) (hi : (P.info? ty).map (·.size) = some hs.size)
    (h : wpQuiet P ops C Q rest (a.put o.dst (.agg hs))) : wpQuiet P ops C Q (o :: rest) a := by
  refine wpQuiet_do (.agg hs) hw (fun W hW => ?_) h
  unfold Oper.quietAt execOp
  simp only [ho, hx, Instr.loadAt, Instr.sureAddr, Sem.run_bind, Sem.run_pure, Result.andThen_ok, run_loadVar_sub W g off t ty cs hs fr d (hg W hW) hc hu hd hi]
  exact ⟨rfl, rfl⟩
theorem wpList_load_sub {P : Program} {ops : Array Oper} {rest : List Oper} {o : Oper} {a : Act} {w : World} {Q : Exit → Act → World → Prop} (hw : Region.wanted o (yielded ops a.tmps) = true) (ty : TypeId) (x : Operand) (ho : o.op = .load ty x)
    (g off : Nat) (hx : a.eval x = .pointer (some ⟨g, off, none⟩)) (t : TypeId) (cs hs : Array Value) (fr : Nat × Nat) (d : TypeDesc) (hg : w.heap[g]? = some (.cells cs t fr)) (hc : ∀ j, j < hs.size → cs[off + j]? = hs[j]?)
    (hu : P.underlying ty = some d) (hd : (match d with | .struct _ | .array _ _ => true | _ => false) = true) (hi : (P.info? ty).map (·.size) = some hs.size)
    (h : wpList P ops Q rest (a.put o.dst (.agg hs)) w) : wpList P ops Q (o :: rest) a w :=
  wpList_wanted hw fun K hK => by
    unfold Oper.wp Oper.upon execOp
    simp only [ho, hx, Instr.loadAt, Instr.sureAddr, Sem.run_bind, Sem.run_pure, Result.andThen_ok, run_loadVar_sub w g off t ty cs hs fr d hg hc hu hd hi]
    exact hK _ _ h
theorem entry1 (w : World) (o0 : Obj) : ∃ w1, w.alloc o0 = w1 ∧ w1.heap[w.heap.size]? = some o0 ∧ More w w1 ∧ w1.heap.size = w.heap.size + 1 := ⟨_, rfl, heap_new w o0, (More.refl _).alloc _, by simp⟩
theorem entry2 (w : World) (o0 o1 : Obj) : ∃ w2, (w.alloc o0).alloc o1 = w2 ∧ w2.heap[w.heap.size]? = some o0 ∧ w2.heap[w.heap.size + 1]? = some o1 ∧ More w w2 ∧ w2.heap.size = w.heap.size + 2 := by
  obtain ⟨w1, e1, h0, m0, s0⟩ := entry1 w o0
  rw [e1]
  obtain ⟨w2, e2, h1, m1, s1⟩ := entry1 w1 o1
  rw [s0] at h1
  exact ⟨w2, e2, m1.block h0, h1, m0.trans m1, by omega⟩
theorem entry3 (w : World) (o0 o1 o2 : Obj) : ∃ w3, ((w.alloc o0).alloc o1).alloc o2 = w3 ∧ w3.heap[w.heap.size]? = some o0 ∧ w3.heap[w.heap.size + 1]? = some o1 ∧ w3.heap[w.heap.size + 2]? = some o2 ∧ More w w3 ∧ w3.heap.size = w.heap.size + 3 := by
  have h0 := heap_new w o0
  have s0 : (w.alloc o0).heap.size = w.heap.size + 1 := by simp
  have m0 : More w (w.alloc o0) := (More.refl _).alloc _
  generalize w.alloc o0 = w1 at h0 s0 m0 ⊢
  have h1 := heap_new w1 o1
  rw [s0] at h1
  have s1 : (w1.alloc o1).heap.size = w.heap.size + 2 := by simp [s0]
  have m1 : More w1 (w1.alloc o1) := (More.refl _).alloc _
  generalize w1.alloc o1 = w2 at h1 s1 m1 ⊢
  have h2 := heap_new w2 o2
  rw [s1] at h2
  have m2 : More w2 (w2.alloc o2) := (More.refl _).alloc _
  exact ⟨_, rfl, m2.block (m1.block h0), m2.block h1, h2, (m0.trans m1).trans m2, by simp [s1]⟩
theorem entry4 (w : World) (o0 o1 o2 o3 : Obj) : ∃ w4, (((w.alloc o0).alloc o1).alloc o2).alloc o3 = w4 ∧ w4.heap[w.heap.size]? = some o0 ∧ w4.heap[w.heap.size + 1]? = some o1 ∧ w4.heap[w.heap.size + 2]? = some o2 ∧ w4.heap[w.heap.size + 3]? = some o3 ∧ More w w4 ∧ w4.heap.size = w.heap.size + 4 := by
  obtain ⟨w3, e3, h0, h1, h2, m3, s3⟩ := entry3 w o0 o1 o2
  rw [e3]
  obtain ⟨w4, e4, h3, m4, s4⟩ := entry1 w3 o3
  rw [s3] at h3
  exact ⟨w4, e4, m4.block h0, m4.block h1, m4.block h2, h3, m3.trans m4, by omega⟩
theorem entry5 (w : World) (o0 o1 o2 o3 o4 : Obj) : ∃ w5, ((((w.alloc o0).alloc o1).alloc o2).alloc o3).alloc o4 = w5 ∧ w5.heap[w.heap.size]? = some o0 ∧ w5.heap[w.heap.size + 1]? = some o1 ∧ w5.heap[w.heap.size + 2]? = some o2 ∧ w5.heap[w.heap.size + 3]? = some o3 ∧ w5.heap[w.heap.size + 4]? = some o4 ∧ More w w5 ∧ w5.heap.size = w.heap.size + 5 := by
  obtain ⟨w4, e4, h0, h1, h2, h3, m4, s4⟩ := entry4 w o0 o1 o2 o3
  rw [e4]
  obtain ⟨w5, e5, h4, m5, s5⟩ := entry1 w4 o4
  rw [s4] at h4
  exact ⟨w5, e5, m5.block h0, m5.block h1, m5.block h2, m5.block h3, h4, m4.trans m5, by omega⟩

theorem results_mid {P : Program} {fn : Func} {p u v : Tmp} {ty : TypeId} (h : fn.results = #[.tmp u, .cell p ty, .tmp v]) (tmps : Array Value) (w : World) (g : Nat) (t : TypeId) (cs : Array Value) (fr : Nat × Nat) (d : TypeDesc)
    (hp : tmps.getD p undef = .pointer (some ⟨g, 0, none⟩)) (hg : w.heap[g]? = some (.cells cs t fr))
    (hu : P.underlying ty = some d) (hd : (match d with | .struct _ | .array _ _ => true | _ => false) = true) (hi : (P.info? ty).map (·.size) = some cs.size) :
    (results fn tmps).run P w = .ok (.tuple #[tmps.getD u undef, .agg cs, tmps.getD v undef]) w := by
  have hr := run_loadVar_row w g t ty cs fr d hg hu hd hi
  have e : (results fn tmps).run P w = ((asAddr (tmps.getD p undef)).run P w).andThen fun a w₁ => ((loadVar ty a).run P w₁).andThen fun x w₂ => .ok (.tuple #[tmps.getD u undef, x, tmps.getD v undef]) w₂ := by
    simp only [results, h]
    simp [Sem.run_bind, Result.andThen]
  rw [e, hp]
  simp [asAddr, hr]
end Go.Proofs.YtahejbahnhohcaaDoor
