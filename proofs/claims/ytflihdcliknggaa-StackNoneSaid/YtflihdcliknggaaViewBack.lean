/-
  The library's Backward over a slice of pairs, under contract: a function to range over.
-/
import Derived.Test.YtflihdcliknggaaViewRun
import Derived.RangeFuncBox
import Derived.RangeFuncLeaves
import Derived.RangeFuncCalls
import Derived.Shelf.Abstract
import Derived.OwnWalkIn
import Derived.TacticsInMore
import Derived.LoopNIn
import Derived.LoopIn
namespace Go.Proofs.Ytflihdcliknggaa
open Go.RowKit Go.Sort Go.Maps Go.Shelf
set_option linter.unusedVariables false
set_option linter.unusedSimpArgs false
attribute [local go_sem] Oper.semAt_some

theorem more_of_below {w w' : World} (h : Below w.heap.size w w') : More w w' := ⟨h.1, h.2, h.3, h.4, fun k hk _ => h.5 k hk⟩

/-- Two blocks lie as they lay. -/
def Keeps2 (a b : Nat) (w w' : World) : Prop := w'.heap[a]? = w.heap[a]? ∧ w'.heap[b]? = w.heap[b]?
theorem Keeps2.refl (a b : Nat) (w : World) : Keeps2 a b w w := ⟨rfl, rfl⟩
theorem Keeps2.trans {a b : Nat} {w w' w'' : World} (h : Keeps2 a b w w') (k : Keeps2 a b w' w'') : Keeps2 a b w w'' := ⟨k.1.trans h.1, k.2.trans h.2⟩
theorem Keeps2.cell1 {a b o : Nat} {w w' : World} {v : Value} (h : Keeps2 a b w w') (hc : w.cell? ⟨a, o, none⟩ = some v) : w'.cell? ⟨a, o, none⟩ = some v := by
  rw [World.cell?_of_block (w := w) h.1]; exact hc
theorem Keeps2.cell2 {a b o : Nat} {w w' : World} {v : Value} (h : Keeps2 a b w w') (hc : w.cell? ⟨b, o, none⟩ = some v) : w'.cell? ⟨b, o, none⟩ = some v := by
  rw [World.cell?_of_block (w := w) h.2]; exact hc
theorem keeps2_put {a b n : Nat} (ha : a < n) (hb : b < n) (W : World) (l : Nat) (o o' : Obj) (hl : n ≤ l) (h : W.heap[l]? = some o) (_ : o.isCells = false) (_ : o.isWalk = false) : Keeps2 a b W (W.putObj l o') :=
  ⟨World.putObj_heap_other (by omega), World.putObj_heap_other (by omega)⟩

/-- What has come when k rounds are over: the last places first. -/
def cameBack (n k : Nat) : List Nat := (List.range k).map fun j => n - 1 - j
theorem cameBack_succ (n k : Nat) : cameBack n (k + 1) = cameBack n k ++ [n - 1 - k] := by simp [cameBack, List.range_succ]
theorem cameBack_length (n k : Nat) : (cameBack n k).length = k := by simp [cameBack]
/-- The pair at a place. -/
def pairAt (l : List KV) (i : Nat) : KV := l.getD i (0, 0)
def backEnc (l : List KV) (i : Nat) : Array Value := #[.int .i64 (i : Int), .agg #[.int .i64 (pairAt l i).1, .int .i64 (pairAt l i).2]]

end Go.Proofs.Ytflihdcliknggaa
