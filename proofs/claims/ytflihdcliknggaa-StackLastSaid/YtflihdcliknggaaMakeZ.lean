/-
  Making n zeros.
-/
import Derived.Test.YtflihdcliknggaaWentAll
namespace Go.Proofs.Ytflihdcliknggaa
open Go.RowKit Go.Sort Go.Maps Go.Shelf
set_option linter.unusedVariables false
set_option linter.unusedSimpArgs false

theorem run_make_zs (k : Nat) (hk : k ≤ 1000000) (w : World) :
    (Instr.makeSlice 23 (.int .i64 (k : Int)) (.int .i64 (k : Int))).run Try.prog w = .ok (.slice (some ⟨w.heap.size, 0, none⟩) k k) (w.alloc (.cells (rowOf (zeros k)) 3)) := by
  obtain ⟨i, hi, hz, hs, hb⟩ := int_info
  have := run_make (P := Try.prog) w 23 3 i (.int .i64 0) Try.underlying23 hi hz .i64 .i64 k k (by omega) (by omega) (by rw [hb]; omega) (by omega)
  rw [this]
  simp only [Int.toNat_natCast, hs, Nat.mul_one]
  have e : madeCells (Value.int .i64 0).cells k = rowOf (zeros k) := by
    apply Array.ext
    · simp [size_madeCells, rowOf, zeros]
    · intro j h1 h2
      simp [madeCells, rowOf, zeros, Value.cells, Nat.mod_one]
  rw [e]
theorem set_othB {w : World} {g b : Nat} {v : Value} {o : Obj} (h : w.heap[b]? = some o) (hne : b ≠ g) : (w.setCell ⟨g, 0, none⟩ v).heap[b]? = some o :=
  ((Turned.setCell (S := fun k => k = g) (Turned.refl _ w) ⟨g, 0, none⟩ v (fun _ => rfl)).block b (lt_of_heap h) hne).trans h
/-- A box of an integer. -/
def BoxN (g : Nat) (w : World) (x : Int) : Prop := w.heap[g]? = some (.cells #[.int .i64 x] 3 (0, 0))
/-- What a box holds already is written into it: nothing changes. -/
theorem set_noop {w : World} {g : Nat} {v : Value} {t : TypeId} {fr : Nat × Nat} (h : w.heap[g]? = some (.cells #[v] t fr)) : w.setCell ⟨g, 0, none⟩ v = w := by
  unfold World.setCell
  have e : (w.heap.modify g fun x => match x with | .cells c elem frozen => .cells (if ((none : Option Nat)).isSome then c else c.setIfInBounds 0 v) elem frozen | o => o) = w.heap := by
    apply Array.ext
    · simp
    · intro i h1 h2
      rw [Array.getElem_modify]
      split
      · rename_i q
        subst q
        have : w.heap[g] = .cells #[v] t fr := by rw [Array.getElem?_eq_getElem h2] at h; simpa using h
        rw [this]
        simp
      · rfl
  show World.mk _ _ _ _ _ = _
  exact congrArg (fun h => World.mk h w.tape w.drawn w.os w.output) e
theorem kept_one {S : Nat → Prop} {w w' : World} (t : Turned S w w') {g : Nat} {o : Obj} (h : w.heap[g]? = some o) (n : ¬ S g) : w'.heap[g]? = some o := (t.block g (lt_of_heap h) n).trans h
end Go.Proofs.Ytflihdcliknggaa
