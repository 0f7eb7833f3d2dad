/-
  Whole structs read and written by value, whatever their number of cells: one step each, in plain regions, under a guard, and in regions that draw their order.
-/
import Derived.Test.YtonenkgjlmcfkaaPure
import Derived.Laws.Rows
import Derived.Laws.Tables
namespace Go.Proofs.Ytonenkgjlmcfkaa
open Go.RowKit

section
variable {P : Program} {ops : Array Oper} {rest : List Oper} {o : Oper} {a : Act} {w : World} {Q : Exit → Act → World → Prop}
theorem wpList_wanted (hw : Region.wanted o (yielded ops a.tmps) = true)
    (h : ∀ K : Act → World → Prop, (∀ a w, wpList P ops Q rest a w → K a w) → o.wp P a w K Q) : wpList P ops Q (o :: rest) a w :=
  wpList_step fun K hK => by simp only [hw, if_true]; exact h K hK

/-- A load of a whole struct under a guard that holds. -/
theorem wpList_load_rowG (hw : Region.wanted o (yielded ops a.tmps) = true) (ty : TypeId) (x : Operand) (ho : o.op = .load ty x)
    (g : Nat) (hx : a.eval x = .pointer (some ⟨g, 0, none⟩)) (t : TypeId) (cs : Array Value) (fr : Nat × Nat) (d : TypeDesc) (hg : w.heap[g]? = some (.cells cs t fr))
    (hu : P.underlying ty = some d) (hd : (match d with | .struct _ | .array _ _ => true | _ => false) = true) (hi : (P.info? ty).map (·.size) = some cs.size)
    (h : wpList P ops Q rest (a.put o.dst (.agg cs)) w) : wpList P ops Q (o :: rest) a w :=
  wpList_wanted hw fun _ hK => wp_load_row ty x ho g hx t cs fr d hg hu hd hi (hK _ _ h)

/-- A load of a whole struct in a region that draws its order. -/
theorem wpQuiet_load_row {C : World → Prop} {Q : Act → Prop} (hw : Region.wanted o (yielded ops a.tmps) = true) (ty : TypeId) (x : Operand) (ho : o.op = .load ty x)
    (g : Nat) (hx : a.eval x = .pointer (some ⟨g, 0, none⟩)) (t : TypeId) (cs : Array Value) (fr : Nat × Nat) (d : TypeDesc) (hg : ∀ W, C W → W.heap[g]? = some (.cells cs t fr))
    (hu : P.underlying ty = some d) (hd : (match d with | .struct _ | .array _ _ => true | _ => false) = true) (hi : (P.info? ty).map (·.size) = some cs.size)
    (h : wpQuiet P ops C Q rest (a.put o.dst (.agg cs))) : wpQuiet P ops C Q (o :: rest) a := by
  refine wpQuiet_do (.agg cs) hw (fun W hW => ?_) h
  unfold Oper.quietAt execOp
  simp only [ho, hx, Instr.loadAt, Instr.sureAddr, Sem.run_bind, Sem.run_pure, Result.andThen_ok, run_loadVar_row W g t ty cs fr d (hg W hW) hu hd hi]
  exact ⟨rfl, rfl⟩
end

/-- An element of an array of integers, by value. -/
theorem run_index_row {P : Program} {t e : TypeId} {n : Nat} {cs : Array Value} {i : Nat} {v : Value} {q : IntKind} (W : World) (hu : P.underlying t = some (.array n e)) (he : P.underlying e = some (.int q)) (hz : (P.info? e).map (·.size) = some 1)
    (hi : i < n) (hv : cs[i]? = some v) : (Instr.index t (.agg cs) (.int .i64 i)).run P W = .ok v W := by
  have hagg : (isAgg e).run P W = .ok false W := by
    unfold isAgg
    rw [Sem.run_bind, run_underlying he W]
    rfl
  cases hq : P.info? e with
  | none => simp [hq] at hz
  | some d =>
    have hs : d.size = 1 := by simpa [hq] using hz
    have hin : (0 : Int) ≤ (i : Int) ∧ (i : Int) < (n : Int) := by omega
    simp [Instr.index, asIntOf, Sem.run_bind, run_underlying hu W, hin, part, hagg, sizeOf, typeInfo, hq, hs, hv]
    intro q; omega

theorem Turned.setRow {S : Nat → Prop} {w w' : World} (h : Turned S w w') (g : Nat) (cs : Array Value) (hg : g < w.heap.size → S g) : Turned S w (w'.setRow g cs) :=
  ⟨h.os, h.tape, h.output, by have := h.size; simpa using this, fun k hk hs => by
    rw [setRow_other w' g k cs (by intro e; subst e; exact hs (hg hk))]; exact h.block k hk hs⟩
theorem More.setRow {w w' : World} (h : More w w') (g : Nat) (cs : Array Value) (hg : w.heap.size ≤ g) : More w (w'.setRow g cs) := Turned.setRow h g cs (fun q => by omega)
theorem cell_more {w W : World} {k : Nat} {cs : Array Value} {t : Nat} {fr : Nat × Nat} (h : w.heap[k]? = some (.cells cs t fr)) (hW : More w W) {j : Nat} {v : Value} (hv : cs[j]? = some v) : W.cell? ⟨k, j, none⟩ = some v := by
  rw [cell_of_row W k j cs t fr (hW.block h)]; exact hv
theorem row_new (w : World) (cs : Array Value) (t : TypeId) : (w.alloc (.cells cs t)).heap[w.heap.size]? = some (.cells cs t (0, 0)) := heap_new w _

end Go.Proofs.Ytonenkgjlmcfkaa
