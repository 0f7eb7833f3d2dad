/-
  Slices of structs of four integers.
-/
import Derived.Test.YtogfikemodaepaaGreatViewArgs
import Derived.Test.YtogfikemodaepaaGreatReg
namespace Go.Proofs.YtogfikemodaepaaGreat
open Go.ChangeShapes Go.WideShapes Go.ChangeAt Go.RowKit Go.Joins Go.Deep
set_option linter.unusedVariables false
set_option linter.unusedSimpArgs false

abbrev Ins4 := Int × Int × Int × Int
def OkP4 (l : List Ins4) : Prop := ∀ i ∈ l, W64 i.2.1 ∧ W64 i.2.2.1 ∧ W64 i.2.2.2
def IsIns4 (w : World) (a : Option Addr) (l : List Ins4) : Prop :=
  l = [] ∨ ∃ s o, a = some ⟨s, o, none⟩ ∧ s < w.heap.size ∧ ∀ i t, l[i]? = some t → w.cell? ⟨s, o + i * 4, none⟩ = some (.int .i64 t.1) ∧ w.cell? ⟨s, o + i * 4 + 1, none⟩ = some (.int .i64 t.2.1) ∧ w.cell? ⟨s, o + i * 4 + 2, none⟩ = some (.int .i64 t.2.2.1) ∧ w.cell? ⟨s, o + i * 4 + 3, none⟩ = some (.int .i64 t.2.2.2)
theorem IsIns4.keep {w w' : World} {a : Option Addr} {l : List Ins4} (h : IsIns4 w a l) {S : Nat → Prop} (t : Turned S w w') (hs : l ≠ [] → ∀ k, leads a k → ¬ S k) : IsIns4 w' a l := by
  rcases h with h | ⟨s, o, rfl, hl, hc⟩
  · exact .inl h
  · by_cases e : l = []
    · exact .inl e
    · exact .inr ⟨s, o, rfl, Nat.lt_of_lt_of_le hl t.size, fun i u hi => by
        obtain ⟨c0, c1, c2, c3⟩ := hc i u hi
        exact ⟨cell_turned t (hs e s rfl) c0, cell_turned t (hs e s rfl) c1, cell_turned t (hs e s rfl) c2, cell_turned t (hs e s rfl) c3⟩⟩
theorem IsIns4.more {w w' : World} {a : Option Addr} {l : List Ins4} (h : IsIns4 w a l) (t : More w w') : IsIns4 w' a l := h.keep t (fun _ _ _ q => q)
theorem IsIns4.lt {w : World} {a : Option Addr} {l : List Ins4} (h : IsIns4 w a l) (hne : l ≠ []) : ∀ b, leads a b → b < w.heap.size := fun b hb => by
  obtain ⟨s, o, rfl, hs, _⟩ := h.resolve_left hne
  have : s = b := by simpa [leads] using hb
  omega
section
variable {H : Type} {enc : TypeId × Value → H} {P : Program} {w : World} {base : Nat} {spare : Nat → Bool} {held : Bool}
theorem isIns4_of {t e : TypeId} {f0 f1 f2 f3 : Field} {a : Option Addr} {len cap : Nat} {d : DataW H} {p : List MemPlace} (ht : P.underlying t = some (.slice e)) (hs : P.underlying e = some (.struct #[f0, f1, f2, f3])) (hone : oneCellFields P #[f0, f1, f2, f3] = true) (hC : P.cellsOf e = 4)
    (u0 : P.underlying f0.type = some (.int .i64)) (u1 : P.underlying f1.type = some (.int .i64)) (u2 : P.underlying f2.type = some (.int .i64)) (u3 : P.underlying f3.type = some (.int .i64))
    (h : DataW.Trod enc P w base spare held t (.slice a len cap) d p) : ∃ l : List Ins4, l.length = len ∧ IsIns4 w a l ∧ OkP4 l ∧ l.length ≤ 9223372036854775807 := by
  obtain ⟨fuel, hf⟩ := h
  have zero : ∀ n, len = n → n = 0 → ∃ l : List Ins4, l.length = len ∧ IsIns4 w a l ∧ OkP4 l ∧ l.length ≤ 9223372036854775807 := fun n h0 h1 => ⟨[], by rw [h0, h1]; rfl, .inl rfl, (fun p hp => by cases hp), by simp⟩
  rcases open_slice ht hf with ⟨hcs, _⟩ | ⟨x, l, c, m, n, D, Pl, hcs, _, hl, hm, hmm, _, hi⟩
  · simp [Value.cells] at hcs
    obtain ⟨rfl, rfl, rfl⟩ := hcs
    exact zero _ rfl rfl
  · simp [Value.cells] at hcs
    obtain ⟨rfl, rfl, rfl⟩ := hcs
    have key : ∀ i, i < len → ∃ g : Ins4, w.cell? (x.add (i * 4)) = some (.int .i64 g.1) ∧ w.cell? (x.add (i * 4 + 1)) = some (.int .i64 g.2.1) ∧ w.cell? (x.add (i * 4 + 2)) = some (.int .i64 g.2.2.1) ∧ w.cell? (x.add (i * 4 + 3)) = some (.int .i64 g.2.2.2) ∧ W64 g.1 ∧ W64 g.2.1 ∧ W64 g.2.2.1 ∧ W64 g.2.2.2 := by
      intro i hil
      obtain ⟨cs', hc, ht'⟩ := hi i (by have := hmm; split at this <;> omega)
      rw [hC] at hc
      obtain ⟨_, hcl, hat⟩ := World.cells?_some hc
      obtain ⟨c0, c1, c2, c3, rfl⟩ : ∃ c0 c1 c2 c3, cs' = [c0, c1, c2, c3] := by
        match cs', hcl with
        | [c0, c1, c2, c3], _ => exact ⟨c0, c1, c2, c3, rfl⟩
      obtain ⟨y0, y1, y2, y3, n', _, _, h0, h1, h2, h3⟩ := trod_struct4 hs ht'
      obtain ⟨o0, k0⟩ := hone_of hone 0 f0 rfl
      obtain ⟨o1, k1⟩ := hone_of hone 1 f1 rfl
      obtain ⟨o2, k2⟩ := hone_of hone 2 f2 rfl
      obtain ⟨o3, k3⟩ := hone_of hone 3 f3 rfl
      rw [o0, k0] at h0; rw [o1, k1] at h1; rw [o2, k2] at h2; rw [o3, k3] at h3
      obtain ⟨x0, e0, _, w0⟩ := DataW.trod_int u0 h0
      obtain ⟨x1, e1, _, w1⟩ := DataW.trod_int u1 h1
      obtain ⟨x2, e2, _, w2⟩ := DataW.trod_int u2 h2
      obtain ⟨x3, e3, _, w3⟩ := DataW.trod_int u3 h3
      simp at e0 e1 e2 e3
      subst e0 e1 e2 e3
      have a0 := hat 0 (by omega)
      have a1 := hat 1 (by omega)
      have a2 := hat 2 (by omega)
      have a3 := hat 3 (by omega)
      rw [Go.Deep.add_add] at a0 a1 a2 a3
      exact ⟨(x0, x1, x2, x3), a0, a1, a2, a3, of_wf w0, of_wf w1, of_wf w2, of_wf w3⟩
    by_cases h0 : len = 0
    · exact zero _ rfl h0
    · obtain ⟨s, o, spot⟩ := x
      obtain ⟨g0, hg0, _⟩ := key 0 (by omega)
      have hspot : spot = none := by simpa [Addr.add] using World.cell?_spot hg0
      subst hspot
      have hF : ∀ i, ∃ g : Ins4, i < len → w.cell? ⟨s, o + i * 4, none⟩ = some (.int .i64 g.1) ∧ w.cell? ⟨s, o + i * 4 + 1, none⟩ = some (.int .i64 g.2.1) ∧ w.cell? ⟨s, o + i * 4 + 2, none⟩ = some (.int .i64 g.2.2.1) ∧ w.cell? ⟨s, o + i * 4 + 3, none⟩ = some (.int .i64 g.2.2.2) ∧ W64 g.1 ∧ W64 g.2.1 ∧ W64 g.2.2.1 ∧ W64 g.2.2.2 := by
        intro i
        by_cases hil : i < len
        · obtain ⟨g, hg⟩ := key i hil
          exact ⟨g, fun _ => by simp only [Nat.add_assoc]; simp only [← addr_add']; exact hg⟩
        · exact ⟨(0, 0, 0, 0), fun q => absurd q hil⟩
      have hm' : cap ≤ 9223372036854775807 := by unfold maxLen at hm; exact hm
      have hspec := fun i hil => Classical.choose_spec (hF i) hil
      refine ⟨(List.range len).map fun i => Classical.choose (hF i), by simp, .inr ⟨s, o, rfl, lt_of_cell (hspec 0 (by omega)).1, fun i t ht => ?_⟩, fun t ht => ?_, by simp; omega⟩
      · obtain ⟨hil, rfl⟩ := list_get ht
        have q := hspec i hil
        exact ⟨q.1, q.2.1, q.2.2.1, q.2.2.2.1⟩
      · obtain ⟨i, hi', rfl⟩ := List.mem_map.1 ht
        have q := hspec i (by simpa using hi')
        exact ⟨q.2.2.2.2.2.1, q.2.2.2.2.2.2.1, q.2.2.2.2.2.2.2⟩
end
theorem run_loadVar_four {P : Program} (w : World) (s off : Nat) (ty : TypeId) (v0 v1 v2 v3 : Value) (d : TypeDesc) (h0 : w.cell? ⟨s, off, none⟩ = some v0) (h1 : w.cell? ⟨s, off + 1, none⟩ = some v1) (h2 : w.cell? ⟨s, off + 2, none⟩ = some v2) (h3 : w.cell? ⟨s, off + 3, none⟩ = some v3)
    (hu : P.underlying ty = some d) (hd : (match d with | .struct _ | .array _ _ => true | _ => false) = true) (hi : (P.info? ty).map (·.size) = some 4) :
    (loadVar ty ⟨s, off, none⟩).run P w = .ok (.agg #[v0, v1, v2, v3]) w := by
  have hl : (loadCells ⟨s, off, none⟩ [v0, v1, v2, v3].length).run P w = .ok [v0, v1, v2, v3].toArray w :=
    run_loadCells_list (P := P) w ⟨s, off, none⟩ [v0, v1, v2, v3] (fun j v hv => by
      rw [addr_add]
      match j, hv with
      | 0, hv => cases hv; exact h0
      | 1, hv => cases hv; exact h1
      | 2, hv => cases hv; exact h2
      | 3, hv => cases hv; exact h3
      | j + 4, hv => simp at hv)
  cases hq : P.info? ty with
  | none => simp [hq] at hi
  | some i =>
    have hs : i.size = 4 := by simpa [hq] using hi
    have hagg : (isAgg ty).run P w = .ok true w := by
      unfold isAgg
      rw [Sem.run_bind, run_underlying hu w]
      cases d <;> simp_all
    simp only [List.length_cons, List.length_nil, Nat.reduceAdd] at hl
    simp [loadVar, Sem.run_bind, hagg, sizeOf, typeInfo, hq, hs, hl]
theorem wpQuiet_load_four {P : Program} {ops : Array Oper} {a : Act} {o : Oper} {rest : List Oper} {C : World → Prop} {Q : Act → Prop} (hw : Region.wanted o (yielded ops a.tmps) = true) (ty : TypeId) (x : Operand) (ho : o.op = .load ty x)
    (s off : Nat) (hx : a.eval x = .pointer (some ⟨s, off, none⟩)) (v0 v1 v2 v3 : Value) (d : TypeDesc) (hg : ∀ W, C W → W.cell? ⟨s, off, none⟩ = some v0 ∧ W.cell? ⟨s, off + 1, none⟩ = some v1 ∧ W.cell? ⟨s, off + 2, none⟩ = some v2 ∧ W.cell? ⟨s, off + 3, none⟩ = some v3)
    (hu : P.underlying ty = some d) (hd : (match d with | .struct _ | .array _ _ => true | _ => false) = true) (hi : (P.info? ty).map (·.size) = some 4)
    (h : wpQuiet P ops C Q rest (a.put o.dst (.agg #[v0, v1, v2, v3]))) : wpQuiet P ops C Q (o :: rest) a := by
  refine wpQuiet_do (.agg #[v0, v1, v2, v3]) hw (fun W hW => ?_) h
  obtain ⟨h0, h1, h2, h3⟩ := hg W hW
  unfold Oper.quietAt execOp
  simp only [ho, hx, Instr.loadAt, Instr.sureAddr, Sem.run_bind, Sem.run_pure, Result.andThen_ok, run_loadVar_four W s off ty v0 v1 v2 v3 d h0 h1 h2 h3 hu hd hi]
  exact ⟨rfl, rfl⟩
theorem drop_at4 {α : Type} {l : List α} {j : Nat} {x : α} (h : l[j]? = some x) : l.drop j = x :: l.drop (j + 1) := by
  have hj : j < l.length := by
    rcases Nat.lt_or_ge j l.length with q | q
    · exact q
    · rw [List.getElem?_eq_none q] at h; cases h
  rw [List.drop_eq_getElem_cons hj]
  rw [List.getElem?_eq_getElem hj] at h
  cases h; rfl
theorem yieldsC_four {P : Program} {ops : Array Oper} {C : World → Prop} {o : Oper} {a : Act} (hw : Region.wanted o (yielded ops a.tmps) = true) (ty : TypeId) (x : Operand) (ho : o.op = .load ty x)
    (s off : Nat) (hx : a.eval x = .pointer (some ⟨s, off, none⟩)) (v0 v1 v2 v3 : Value) (d : TypeDesc) (hg : ∀ W, C W → W.cell? ⟨s, off, none⟩ = some v0 ∧ W.cell? ⟨s, off + 1, none⟩ = some v1 ∧ W.cell? ⟨s, off + 2, none⟩ = some v2 ∧ W.cell? ⟨s, off + 3, none⟩ = some v3)
    (hu : P.underlying ty = some d) (hd : (match d with | .struct _ | .array _ _ => true | _ => false) = true) (hi : (P.info? ty).map (·.size) = some 4) : YieldsC P ops C o (.agg #[v0, v1, v2, v3]) a := by
  refine .inl ⟨hw, fun W hW => ?_⟩
  obtain ⟨h0, h1, h2, h3⟩ := hg W hW
  unfold execOp
  simp only [ho, hx, Instr.loadAt, Instr.sureAddr, Sem.run_bind, Sem.run_pure, Result.andThen_ok, run_loadVar_four W s off ty v0 v1 v2 v3 d h0 h1 h2 h3 hu hd hi]
end Go.Proofs.YtogfikemodaepaaGreat
