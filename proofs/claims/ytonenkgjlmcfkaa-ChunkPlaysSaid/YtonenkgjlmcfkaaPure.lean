/-
  A region whose order is left open, whose operations read and whose calls at most make new blocks: one walk in the order of the text.
-/
import Derived.Test.YtonenkgjlmcfkaaMem
import Derived.Deep.Quiet
import Derived.Deep.QuietTactic
import Derived.BigQuiet
import Derived.RegionTactic
namespace Go.Proofs.Ytonenkgjlmcfkaa
open Go.RowKit

/-- w' is w with at most new blocks. -/
def More (w w' : World) : Prop := Turned (fun _ => False) w w'
theorem More.refl (w : World) : More w w := Turned.refl _ _
theorem More.trans {w w' w'' : World} (h : More w w') (k : More w' w'') : More w w'' := Turned.trans h k
theorem More.alloc {w w' : World} (h : More w w') (o : Obj) : More w (w'.alloc o) := Turned.alloc h o
theorem More.drew {w w' : World} (h : More w w') : More w w'.drew := Turned.drew h
theorem More.drewN {w w' : World} (h : More w w') (n : Nat) : More w (w'.drewN n) := Turned.drewN h n
theorem More.block {w w' : World} (h : More w w') {k : Nat} {o : Obj} (hk : w.heap[k]? = some o) : w'.heap[k]? = some o := by
  rw [Turned.block h k (lt_of_heap hk) (fun q => q)]; exact hk
theorem More.cell {w w' : World} (h : More w w') {k o : Nat} {v : Value} (hc : w.cell? ⟨k, o, none⟩ = some v) : w'.cell? ⟨k, o, none⟩ = some v := by
  rw [World.cell?_of_block (w := w) (Turned.block h k (lt_of_cell hc) (fun q => q))]; exact hc

/-- A call answers v, and makes at most new blocks. -/
def Gives (w : World) (v : Value) (e : Ending) (w' : World) : Prop := e = .returned v ∧ More w w'

theorem wp_region_more {P : Program} {id : Nat} {Q : Exit → Act → World → Prop} {a : Act} {w : World} {l : List Oper} (hm : P.follows .mixedOrders = true) (hB : Region.lexB .any l.toArray = true)
    (h : wpQuiet P l.toArray (More w) (fun a' => ∀ w', More w w' → Q .normal a' w') l a) : (Code.region id l.toArray true).wp P Q a w :=
  wp_region_quiet (C := More w) hm hB ((More.refl w).drewN 1) (by simpa using h)

/-- An operation that is carried out. -/
theorem wpQuiet_do {P : Program} {ops : Array Oper} {C : World → Prop} {Q : Act → Prop} {a : Act} {o : Oper} {rest : List Oper} (v : Value) (hw : Region.wanted o (yielded ops a.tmps) = true)
    (hy : ∀ W, C W → o.quietAt P a C W v) (h : wpQuiet P ops C Q rest (a.put o.dst v)) : wpQuiet P ops C Q (o :: rest) a := by
  unfold wpQuiet; rw [if_pos hw]; exact ⟨v, hy, h⟩
/-- One that is not. -/
theorem wpQuiet_skip {P : Program} {ops : Array Oper} {C : World → Prop} {Q : Act → Prop} {a : Act} {o : Oper} {rest : List Oper} (hw : Region.wanted o (yielded ops a.tmps) = false)
    (h : wpQuiet P ops C Q rest (a.put o.dst undef)) : wpQuiet P ops C Q (o :: rest) a := by
  unfold wpQuiet; rw [if_neg (by rw [hw]; simp)]; exact h

/-- A call whose contract is known. -/
theorem Calls.more {P : Program} {f : FuncId} {args : Array Value} {w W : World} {v : Value} (hW : More w W) (h : Calls P f args W (Gives W v)) : Calls P f args W fun e w'' => e = .returned v ∧ More w w'' :=
  h.mono fun _ _ ⟨he, hm⟩ => ⟨he, hW.trans hm⟩

end Go.Proofs.Ytonenkgjlmcfkaa
