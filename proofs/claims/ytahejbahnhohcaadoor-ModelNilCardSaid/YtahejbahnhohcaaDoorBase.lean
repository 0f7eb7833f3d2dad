/-
  An arena in memory, and what a call turns: the words that the walks over package arena speak with.
-/
import Derived.WalkKit
import Derived.Deep.Draws
import Derived.Deep.Quiet
import Derived.Deep.QuietTactic
import Derived.BigQuiet
import Derived.RegionTactic
import Derived.Laws.Rows
import Derived.Laws.Tables
import Derived.StillTail
import Derived.Orders
namespace Go.Proofs.YtahejbahnhohcaaDoor
open Go.RowKit

/-- From w to w' nothing has turned but blocks of S and new ones. -/
structure Turned (S : Nat → Prop) (w w' : World) : Prop where
  os : w'.os = w.os
  tape : w'.tape = w.tape
  output : w'.output = w.output
  size : w.heap.size ≤ w'.heap.size
  block : ∀ k, k < w.heap.size → ¬ S k → w'.heap[k]? = w.heap[k]?

namespace Turned
variable {S S' : Nat → Prop} {w w' w'' : World}
theorem refl (S : Nat → Prop) (w : World) : Turned S w w := ⟨rfl, rfl, rfl, Nat.le_refl _, fun _ _ _ => rfl⟩
theorem trans (h : Turned S w w') (k : Turned S w' w'') : Turned S w w'' :=
  ⟨k.os.trans h.os, k.tape.trans h.tape, k.output.trans h.output, Nat.le_trans h.size k.size,
   fun i hi hs => (k.block i (Nat.lt_of_lt_of_le hi h.size) hs).trans (h.block i hi hs)⟩
theorem mono (h : Turned S w w') (hs : ∀ k, k < w.heap.size → S k → S' k) : Turned S' w w' :=
  ⟨h.os, h.tape, h.output, h.size, fun i hi hn => h.block i hi (fun q => hn (hs i hi q))⟩
theorem drew (h : Turned S w w') : Turned S w w'.drew := ⟨h.os, h.tape, h.output, h.size, h.block⟩
theorem drewN (h : Turned S w w') (n : Nat) : Turned S w (w'.drewN n) := ⟨h.os, h.tape, h.output, h.size, h.block⟩
theorem alloc (h : Turned S w w') (o : Obj) : Turned S w (w'.alloc o) :=
  h.trans ⟨rfl, rfl, rfl, by simp, fun k hk _ => Below.heap_alloc _ _ _ hk⟩
theorem setCell (h : Turned S w w') (p : Addr) (u : Value) (hp : p.block < w.heap.size → S p.block) : Turned S w (w'.setCell p u) :=
  ⟨h.os, h.tape, h.output, by have := h.size; simpa using this, fun k hk hs => by
    rw [Below.heap_setCell _ _ _ _ (by intro e; subst e; exact hs (hp hk))]; exact h.block k hk hs⟩
theorem below (h : Turned S w w') {B : Nat} (hB : B ≤ w.heap.size) (hs : ∀ k, S k → B ≤ k) : Below B w w' :=
  ⟨h.os, h.tape, h.output, h.size, fun k hk => h.block k (by omega) (fun q => by have := hs k q; omega)⟩
end Turned

/-- A row of words in memory. -/
def rowOf (ws : List Int) : Array Value := (ws.map (Value.int .i64)).toArray

/-- At blocks a (a struct of type T) and b (its row) stands an arena of the words ws, with c accesses counted. -/
structure At (T : Nat) (w : World) (a b : Nat) (ws : List Int) (c : Int) : Prop where
  head : w.heap[a]? = some (.cells #[.slice (some ⟨b, 0, none⟩) ws.length ws.length, .int .i64 c] T (0, 0))
  row : w.heap[b]? = some (.cells (rowOf ws) 3 (0, 0))
  ne : a ≠ b

theorem lt_of_heap {w : World} {k : Nat} {o : Obj} (h : w.heap[k]? = some o) : k < w.heap.size := by
  by_cases q : k < w.heap.size
  · exact q
  · rw [Array.getElem?_eq_none (by omega)] at h; cases h
theorem lt_of_cell {w : World} {k o : Nat} {v : Value} (h : w.cell? ⟨k, o, none⟩ = some v) : k < w.heap.size := by
  by_cases q : k < w.heap.size
  · exact q
  · unfold World.cell? at h; rw [Array.getElem?_eq_none (by simpa using q)] at h; cases h

namespace At
variable {T : Nat} {w w' : World} {a b : Nat} {ws : List Int} {c : Int}
theorem la (h : At T w a b ws c) : a < w.heap.size := lt_of_heap h.head
theorem lb (h : At T w a b ws c) : b < w.heap.size := lt_of_heap h.row
theorem keep (h : At T w a b ws c) {S : Nat → Prop} (t : Turned S w w') (ha : ¬ S a) (hb : ¬ S b) : At T w' a b ws c :=
  ⟨by rw [t.block a h.la ha]; exact h.head, by rw [t.block b h.lb hb]; exact h.row, h.ne⟩
theorem c0 (h : At T w a b ws c) : w.cell? ⟨a, 0, none⟩ = some (.slice (some ⟨b, 0, none⟩) ws.length ws.length) := by simp [World.cell?, h.head]
theorem c1 (h : At T w a b ws c) : w.cell? ⟨a, 1, none⟩ = some (.int .i64 c) := by simp [World.cell?, h.head]
theorem f0 (h : At T w a b ws c) : w.frozen? ⟨a, 0, none⟩ = false := by simp [World.frozen?, h.head]
theorem f1 (h : At T w a b ws c) : w.frozen? ⟨a, 1, none⟩ = false := by simp [World.frozen?, h.head]
theorem wd (h : At T w a b ws c) {i : Nat} (hi : i < ws.length) : w.cell? ⟨b, i, none⟩ = some (.int .i64 (ws.getD i 0)) := by
  simp [World.cell?, h.row, rowOf, hi, List.getD]
theorem fw (h : At T w a b ws c) (i : Nat) : w.frozen? ⟨b, i, none⟩ = false := by simp [World.frozen?, h.row]
/-- The count is set. -/
theorem setCount (h : At T w a b ws c) (d : Int) : At T (w.setCell ⟨a, 1, none⟩ (.int .i64 d)) a b ws d :=
  ⟨by simp [World.setCell, Array.getElem?_modify, h.head], by simp [World.setCell, Array.getElem?_modify, h.ne, h.row], h.ne⟩
/-- A word is set. -/
theorem setWord (h : At T w a b ws c) (i : Nat) (x : Int) : At T (w.setCell ⟨b, i, none⟩ (.int .i64 x)) a b (ws.set i x) c :=
  ⟨by simp [World.setCell, Array.getElem?_modify, h.ne.symm, h.head], by
    simp [World.setCell, Array.getElem?_modify, h.row, rowOf, List.map_set], h.ne⟩
theorem drew (h : At T w a b ws c) : At T w.drew a b ws c := ⟨h.head, h.row, h.ne⟩
theorem drewN (h : At T w a b ws c) (n : Nat) : At T (w.drewN n) a b ws c := ⟨h.head, h.row, h.ne⟩
theorem alloc (h : At T w a b ws c) (o : Obj) : At T (w.alloc o) a b ws c := h.keep ((Turned.refl (fun _ => False) w).alloc o) (fun q => q) (fun q => q)
end At

/-- What an access has done: it answers v, and leaves the words ws, and c accesses. -/
def Did (T a b : Nat) (w : World) (ws : List Int) (c : Int) (v : Value) (e : Ending) (w' : World) : Prop :=
  e = .returned v ∧ At T w' a b ws c ∧ Turned (fun k => k = a ∨ k = b) w w'

/-- The world behind an access of a word that is there: the access boxed, the count, the word. -/
theorem did_word {T a b : Nat} {w : World} {ws : List Int} {c : Int} (h : At T w a b ws c) (o : Obj) (n m i : Nat) (x : Int) :
    At T (((((w.alloc o).drewN n).setCell ⟨a, 1, none⟩ (.int .i64 (c + 1))).drewN m).setCell ⟨b, i, none⟩ (.int .i64 x)) a b (ws.set i x) (c + 1) ∧
    Turned (fun k => k = a ∨ k = b) w (((((w.alloc o).drewN n).setCell ⟨a, 1, none⟩ (.int .i64 (c + 1))).drewN m).setCell ⟨b, i, none⟩ (.int .i64 x)) :=
  ⟨((((h.alloc o).drewN n).setCount (c + 1)).drewN m).setWord i x,
   ((((((Turned.refl _ w).alloc o).drewN n).setCell _ _ (fun _ => Or.inl rfl)).drewN m).setCell _ _ (fun _ => Or.inr rfl))⟩

theorem set_same (ws : List Int) (i : Nat) : ws.set i (ws.getD i 0) = ws := by
  apply List.ext_getElem?
  intro j
  rw [List.getElem?_set]
  split
  · rename_i e; subst e
    split
    · rename_i q; simp [List.getD, q]
    · rename_i q; rw [List.getElem?_eq_none (by omega)]
  · rfl

/-- The same, where the word is put back as it was. -/
theorem did_same {T a b : Nat} {w : World} {ws : List Int} {c : Int} (h : At T w a b ws c) (o : Obj) (n m : Nat) {i : Nat} {x : Int} (hx : ws.getD i 0 = x) :
    At T (((((w.alloc o).drewN n).setCell ⟨a, 1, none⟩ (.int .i64 (c + 1))).drewN m).setCell ⟨b, i, none⟩ (.int .i64 x)) a b ws (c + 1) := by
  have := (did_word h o n m i x).1
  rwa [← hx, set_same, hx] at this

theorem addr_add (b o j : Nat) : (⟨b, o, none⟩ : Addr).add j = ⟨b, o + j, none⟩ := by
  unfold Addr.add
  by_cases q : j = 0
  · subst q; simp
  · simp [q]
theorem heap_new (w : World) (o : Obj) : (w.alloc o).heap[w.heap.size]? = some o := by
  show (w.heap.push o)[w.heap.size]? = _
  simp
/-- A call has handed back a new arena. -/
def MadeArena (T : Nat) (w : World) (ws : List Int) (c : Int) (val : Value → Value) (e : Ending) (w' : World) : Prop :=
  ∃ a b, e = .returned (val (.pointer (some ⟨a, 0, none⟩))) ∧ w.heap.size ≤ a ∧ w.heap.size ≤ b ∧ At T w' a b ws c ∧ Turned (fun _ => False) w w'

/-- A call has handed back a new row of words. -/
def GaveRow (w : World) (ws : List Int) (e : Ending) (w' : World) : Prop :=
  ∃ g, e = .returned (.slice (some ⟨g, 0, none⟩) ws.length ws.length) ∧ w.heap.size ≤ g ∧ w'.heap[g]? = some (.cells (rowOf ws) 3 (0, 0)) ∧ Turned (fun _ => False) w w'

theorem at_new {T : Nat} (w : World) (ws : List Int) (c : Int) :
    At T ((w.alloc (.cells (rowOf ws) 3)).alloc (.cells #[.slice (some ⟨w.heap.size, 0, none⟩) ws.length ws.length, .int .i64 c] T)) (w.heap.size + 1) w.heap.size ws c :=
  ⟨by have := heap_new (w.alloc (.cells (rowOf ws) 3)) (.cells #[.slice (some ⟨w.heap.size, 0, none⟩) ws.length ws.length, .int .i64 c] T); rwa [World.size_alloc] at this,
   by rw [Below.heap_alloc _ _ _ (by simp)]; exact heap_new _ _, by omega⟩

/-! What the document asks of accesses, as plain functions. -/
/-- Is there such a word? -/
def inB (ws : List Int) (i : Int) : Bool := decide (0 ≤ i ∧ i < ws.length)
def wordAt (ws : List Int) (i : Int) : Int := ws.getD i.toNat 0
def errOf (ws : List Int) (i : Int) : Int := if inB ws i then 0 else 3
def cntOf (ws : List Int) (i c : Int) : Int := if inB ws i then c + 1 else c
def loadV (ws : List Int) (i : Int) : Int := if inB ws i then wordAt ws i else 0
def storeW (ws : List Int) (i x : Int) : List Int := if inB ws i then ws.set i.toNat x else ws
def swapW (ws : List Int) (i old x : Int) : List Int := if inB ws i then (if wordAt ws i = old then ws.set i.toNat x else ws) else ws
def bumpV (ws : List Int) (i most : Int) : Int := if inB ws i then (if most ≤ wordAt ws i then wordAt ws i else wordAt ws i + 1) else 0
def bumpE (ws : List Int) (i most : Int) : Int := if inB ws i then (if most ≤ wordAt ws i then 8 else 0) else 3
def bumpW (ws : List Int) (i most : Int) : List Int := if inB ws i then (if most ≤ wordAt ws i then ws else ws.set i.toNat (wordAt ws i + 1)) else ws

end Go.Proofs.YtahejbahnhohcaaDoor

namespace Go.Proofs.YtahejbahnhohcaaDoor
open Go.RowKit

/-- w' is w with at most new blocks. -/
def More (w w' : World) : Prop := Turned (fun _ => False) w w'
theorem More.refl (w : World) : More w w := Turned.refl _ _
theorem More.trans {w w' w'' : World} (h : More w w') (k : More w' w'') : More w w'' := Turned.trans h k
theorem More.alloc {w w' : World} (h : More w w') (o : Obj) : More w (w'.alloc o) := Turned.alloc h o
theorem More.drew {w w' : World} (h : More w w') : More w w'.drew := Turned.drew h
theorem More.drewN {w w' : World} (h : More w w') (n : Nat) : More w (w'.drewN n) := Turned.drewN h n
theorem More.block {w w' : World} (h : More w w') {k : Nat} {o : Obj} (hk : w.heap[k]? = some o) : w'.heap[k]? = some o := by
  rw [Turned.block h k (lt_of_heap hk) (fun q => q)]; exact hk
theorem More.cell {w w' : World} (h : More w w') {k o : Nat} {v : Value} (hc : w.cell? ⟨k, o, none⟩ = some v) : w'.cell? ⟨k, o, none⟩ = some v := by
  rw [World.cell?_of_block (w := w) (Turned.block h k (lt_of_cell hc) (fun q => q))]; exact hc

/-- A call answers v, and makes at most new blocks. -/
def Gives (w : World) (v : Value) (e : Ending) (w' : World) : Prop := e = .returned v ∧ More w w'

theorem wp_region_more {P : Program} {id : Nat} {Q : Exit → Act → World → Prop} {a : Act} {w : World} {l : List Oper} (hm : P.follows .mixedOrders = true) (hB : Region.lexB .any l.toArray = true)
    (h : wpQuiet P l.toArray (More w) (fun a' => ∀ w', More w w' → Q .normal a' w') l a) : (Code.region id l.toArray true).wp P Q a w :=
  wp_region_quiet (C := More w) hm hB ((More.refl w).drewN 1) (by simpa using h)

/-- An operation that is carried out. -/
theorem wpQuiet_do {P : Program} {ops : Array Oper} {C : World → Prop} {Q : Act → Prop} {a : Act} {o : Oper} {rest : List Oper} (v : Value) (hw : Region.wanted o (yielded ops a.tmps) = true)
    (hy : ∀ W, C W → o.quietAt P a C W v) (h : wpQuiet P ops C Q rest (a.put o.dst v)) : wpQuiet P ops C Q (o :: rest) a := by
  unfold wpQuiet; rw [if_pos hw]; exact ⟨v, hy, h⟩
/-- One that is not. -/
theorem wpQuiet_skip {P : Program} {ops : Array Oper} {C : World → Prop} {Q : Act → Prop} {a : Act} {o : Oper} {rest : List Oper} (hw : Region.wanted o (yielded ops a.tmps) = false)
    (h : wpQuiet P ops C Q rest (a.put o.dst undef)) : wpQuiet P ops C Q (o :: rest) a := by
  unfold wpQuiet; rw [if_neg (by rw [hw]; simp)]; exact h

/-- A call whose contract is known. -/
theorem Calls.more {P : Program} {f : FuncId} {args : Array Value} {w W : World} {v : Value} (hW : More w W) (h : Calls P f args W (Gives W v)) : Calls P f args W fun e w'' => e = .returned v ∧ More w w'' :=
  h.mono fun _ _ ⟨he, hm⟩ => ⟨he, hW.trans hm⟩

end Go.Proofs.YtahejbahnhohcaaDoor

namespace Go.Proofs.YtahejbahnhohcaaDoor
open Go.RowKit

section
variable {P : Program} {ops : Array Oper} {rest : List Oper} {o : Oper} {a : Act} {w : World} {Q : Exit → Act → World → Prop}
theorem wpList_wanted (hw : Region.wanted o (yielded ops a.tmps) = true)
    (h : ∀ K : Act → World → Prop, (∀ a w, wpList P ops Q rest a w → K a w) → o.wp P a w K Q) : wpList P ops Q (o :: rest) a w :=
  wpList_step fun K hK => by simp only [hw, if_true]; exact h K hK

/-- A load of a whole struct under a guard that holds. -/
theorem wpList_load_rowG (hw : Region.wanted o (yielded ops a.tmps) = true) (ty : TypeId) (x : Operand) (ho : o.op = .load ty x)
    (g : Nat) (hx : a.eval x = .pointer (some ⟨g, 0, none⟩)) (t : TypeId) (cs : Array Value) (fr : Nat × Nat) (d : TypeDesc) (hg : w.heap[g]? = some (.cells cs t fr))
    (hu : P.underlying ty = some d) (hd : (match d with | .struct _ | .array _ _ => true | _ => false) = true) (hi : (P.info? ty).map (·.size) = some cs.size)
    (h : wpList P ops Q rest (a.put o.dst (.agg cs)) w) : wpList P ops Q (o :: rest) a w :=
  wpList_wanted hw fun _ hK => wp_load_row ty x ho g hx t cs fr d hg hu hd hi (hK _ _ h)

/-- A load of a whole struct in a region that draws its order. -/
theorem wpQuiet_load_row {C : World → Prop} {Q : Act → Prop} (hw : Region.wanted o (yielded ops a.tmps) = true) (ty : TypeId) (x : Operand) (ho : o.op = .load ty x)
    (g : Nat) (hx : a.eval x = .pointer (some ⟨g, 0, none⟩)) (t : TypeId) (cs : Array Value) (fr : Nat × Nat) (d : TypeDesc) (hg : ∀ W, C W → W.heap[g]? = some (.cells cs t fr))
    (hu : P.underlying ty = some d) (hd : (match d with | .struct _ | .array _ _ => true | _ => false) = true) (hi : (P.info? ty).map (·.size) = some cs.size)
    (h : wpQuiet P ops C Q rest (a.put o.dst (.agg cs))) : wpQuiet P ops C Q (o :: rest) a := by
  refine wpQuiet_do (.agg cs) hw (fun W hW => ?_) h
  unfold Oper.quietAt execOp
  simp only [ho, hx, Instr.loadAt, Instr.sureAddr, Sem.run_bind, Sem.run_pure, Result.andThen_ok, run_loadVar_row W g t ty cs fr d (hg W hW) hu hd hi]
  exact ⟨rfl, rfl⟩
end

section
variable {P : Program} {w : World}
theorem run_loadVar_cell {ty : TypeId} {g i : Nat} {v : Value} {d : TypeDesc} (hu : P.underlying ty = some d) (hd : (match d with | .struct _ | .array _ _ => true | _ => false) = false) (hc : w.cell? ⟨g, i, none⟩ = some v) : (loadVar ty ⟨g, i, none⟩).run P w = .ok v w := by
  have hagg : (isAgg ty).run P w = .ok false w := by
    unfold isAgg
    rw [Sem.run_bind, run_underlying hu w]
    cases d <;> simp_all
  simp [loadVar, Sem.run_bind, hagg, hc, Result.andThen, go_sem]
end
/-- An element of an array of integers, by value. -/
theorem run_index_row {P : Program} {t e : TypeId} {n : Nat} {cs : Array Value} {i : Nat} {v : Value} {q : IntKind} (W : World) (hu : P.underlying t = some (.array n e)) (he : P.underlying e = some (.int q)) (hz : (P.info? e).map (·.size) = some 1)
    (hi : i < n) (hv : cs[i]? = some v) : (Instr.index t (.agg cs) (.int .i64 i)).run P W = .ok v W := by
  have hagg : (isAgg e).run P W = .ok false W := by
    unfold isAgg
    rw [Sem.run_bind, run_underlying he W]
    rfl
  cases hq : P.info? e with
  | none => simp [hq] at hz
  | some d =>
    have hs : d.size = 1 := by simpa [hq] using hz
    have hin : (0 : Int) ≤ (i : Int) ∧ (i : Int) < (n : Int) := by omega
    simp [Instr.index, asIntOf, Sem.run_bind, run_underlying hu W, hin, part, hagg, sizeOf, typeInfo, hq, hs, hv]
    intro q; omega

theorem Turned.setRow {S : Nat → Prop} {w w' : World} (h : Turned S w w') (g : Nat) (cs : Array Value) (hg : g < w.heap.size → S g) : Turned S w (w'.setRow g cs) :=
  ⟨h.os, h.tape, h.output, by have := h.size; simpa using this, fun k hk hs => by
    rw [setRow_other w' g k cs (by intro e; subst e; exact hs (hg hk))]; exact h.block k hk hs⟩
theorem More.setRow {w w' : World} (h : More w w') (g : Nat) (cs : Array Value) (hg : w.heap.size ≤ g) : More w (w'.setRow g cs) := Turned.setRow h g cs (fun q => by omega)
theorem cell_more {w W : World} {k : Nat} {cs : Array Value} {t : Nat} {fr : Nat × Nat} (h : w.heap[k]? = some (.cells cs t fr)) (hW : More w W) {j : Nat} {v : Value} (hv : cs[j]? = some v) : W.cell? ⟨k, j, none⟩ = some v := by
  rw [cell_of_row W k j cs t fr (hW.block h)]; exact hv
theorem row_new (w : World) (cs : Array Value) (t : TypeId) : (w.alloc (.cells cs t)).heap[w.heap.size]? = some (.cells cs t (0, 0)) := heap_new w _

end Go.Proofs.YtahejbahnhohcaaDoor

namespace Go.Proofs.YtahejbahnhohcaaDoor
open Go.RowKit

section
variable {P : Program} {ops : Array Oper} {md : Region.Mode} {C : World → Prop}

/-- The operations ahead of number n, in whatever order, each quiet in the class C; L is asked once they have come up. -/
def anyT (P : Program) (md : Region.Mode) (ops : Array Oper) (C : World → Prop) (n : Nat) (L : Array Bool → Act → Prop) : Nat → Array Bool → Act → Prop
  | 0, d, a => L d a
  | f + 1, d, a => Region.ready md ops d ≠ [] ∧ ∀ i ∈ Region.ready md ops d, i < n ∧ qOp P ops C i (anyT P md ops C n L f (d.setIfInBounds i true)) a

theorem any_of_T {n g : Nat} {L : Array Bool → Act → Prop} {Q : Exit → Act → World → Prop} (hL : ∀ d a w, C w → L d a → wpAny P md ops Q g d a w) (f : Nat) :
    ∀ (d : Array Bool) (a : Act) (w : World), C w → anyT P md ops C n L f d a → wpAny P md ops Q (f + g) d a w := by
  induction f with
  | zero => intro d a w hw h; rw [Nat.zero_add]; exact hL _ _ _ hw h
  | succ f ih =>
    intro d a w hw h
    rw [Nat.add_right_comm]
    exact ⟨fun q => absurd q h.1, fun i hi => wpOp_of_qOp hw (fun a' w' hw' k => ih _ a' w' hw' k) (h.2 i hi).2⟩

/-- One that is ready may be taken first. -/
theorem anyT_first {n i : Nat} {o : Oper} {v : Value} {L : Array Bool → Act → Prop} (hi : ops[i]? = some o) (hsel : ∀ (j : Nat) (o : Oper) cs b, ops[j]? = some o → o.op ≠ .select cs b)
    (hwait : ∀ d, HeadInv md ops n d → d.getD i true = false → ∀ t, n ≤ t → t ∉ Region.ready md ops d) (hin : i < n)
    (hend : ∀ d a, L d a → ∀ j ∈ Region.ready md ops d, n ≤ j) (f : Nat) :
    ∀ (d : Array Bool) (a : Act), HeadInv md ops n d →
      (∀ j p, ops[j]? = some p → j ≠ i → d.getD j true = false → (∀ e ∈ p.after, Region.binds md e = true → e.on ≠ i) → o.apart ops p = true) →
      i ∈ Region.ready md ops d → YieldsIn P ops C o v a →
      anyT P md ops C n L f (d.setIfInBounds i true) (a.put o.dst v) → anyT P md ops C n L (f + 1) d a := by
  induction f with
  | zero =>
    intro d a inv _ hr hy H
    refine ⟨fun q => (by rw [q] at hr; cases hr), fun j hj => ?_⟩
    have hlt : j < n := Nat.lt_of_not_le fun q => hwait d inv (mem_ready.1 hr).1 j q hj
    refine ⟨hlt, ?_⟩
    by_cases e : j = i
    · subst e; exact hy.qOp hi H
    · exact absurd (hend _ _ H j (ready_mono hj e)) (by omega)
  | succ f ih =>
    intro d a inv hfree hr hy H
    have hun := (mem_ready.1 hr).1
    refine ⟨fun q => (by rw [q] at hr; cases hr), fun j hj => ?_⟩
    have hlt : j < n := Nat.lt_of_not_le fun q => hwait d inv hun j q hj
    refine ⟨hlt, ?_⟩
    by_cases e : j = i
    · subst e; exact hy.qOp hi H
    · obtain ⟨hjun, p, hp, hall⟩ := mem_ready.1 hj
      have hno : ∀ e ∈ p.after, Region.binds md e = true → e.on ≠ i := fun e he hb q => by
        have := hall e he hb
        rw [q, getD_both hun] at this
        cases this
      have k := qOp_put hp (hfree j p hp e hjun hno) (fun cs b => hsel i o cs b hi) (fun cs b => hsel j p cs b hp) hy (H.2 j (ready_mono hj e)).2
      refine qOp_mono (fun a' z => ih (d.setIfInBounds j true) a' (inv.set hj hlt) (fun x q hx hxi hun' hno' => hfree x q hx hxi ?_ hno') (ready_mono hr (Ne.symm e)) z.1 ?_) k
      · by_cases y : j = x
        · subst y; exact hjun
        · rw [getD_set_ne true y] at hun'; exact hun'
      · rw [Array.setIfInBounds_comm _ _ e]; exact z.2

theorem anyT_lex {n g k0 : Nat} {Z : Act → Prop} (hsel : Region.noSelect ops = true) (hwait : ∀ i, k0 ≤ i → i < n → ∀ d, HeadInv md ops n d → d.getD i true = false → ∀ t, n ≤ t → t ∉ Region.ready md ops d) (l : List Oper) :
    ∀ (k : Nat) (d : Array Bool) (a : Act), k0 ≤ k → (∀ j, j < l.length → l[j]? = ops[k + j]?) → k + l.length = n → HeadInv md ops n d →
    Region.lexHead md ops g l.length k d = true → wpQuiet P ops C Z l a →
    anyT P md ops C n (fun d' a' => Region.seqB md ops g n d' = true ∧ Z a') l.length d a := by
  induction l with
  | nil =>
    intro k d a _ _ hk _ hB h
    have : k = n := by simpa using hk
    subst this
    exact ⟨by simpa [Region.lexHead] using hB, h⟩
  | cons o l ih =>
    intro k d a hk0 hl hk inv hB h
    have h0 : ops[k]? = some o := by simpa using (hl 0 (by simp)).symm
    simp only [List.length_cons, Region.lexHead, Bool.and_eq_true] at hB hk
    have hr : k ∈ Region.ready md ops d := by simpa using hB.1.1
    have hst : qOp P ops C k (wpQuiet P ops C Z l) a := by unfold qOp; simp only [h0]; exact h
    obtain ⟨v, hy, hK⟩ := yieldsIn_of_qOp h0 hst
    exact anyT_first h0 (Region.noSelect_spec hsel) (hwait k hk0 (by omega)) (by omega) (fun _ _ z => seqB_ready z.1) l.length d a inv (Region.free_spec h0 hB.1.2) hr hy
      (ih (k + 1) _ _ (by omega) (fun j hj => by have := hl (j + 1) (by simp; omega); simpa [Nat.add_assoc, Nat.add_comm 1 j] using this) (by omega) (inv.set hr (by omega)) hB.2 hK)
end

theorem wp_region_quiet_tail {P : Program} {C : World → Prop} {id : Nat} {Q : Exit → Act → World → Prop} {a : Act} {w : World} {l : List Oper} (n : Nat) (hm : P.follows .mixedOrders = true) (hB : Region.lexTailB .any l.toArray n = true)
    (hC : C { w with drawn := w.drawn + 1 }) (h : wpQuiet P l.toArray C (fun a' => ∀ w', C w' → wpList P l.toArray Q (l.drop n) a' w') (l.take n) a) : (Code.region id l.toArray true).wp P Q a w := by
  simp only [Region.lexTailB, Bool.and_eq_true, decide_eq_true_eq] at hB
  obtain ⟨⟨⟨⟨hsel, hn⟩, hs⟩, hc⟩, hlex⟩ := hB
  have hn' : n < l.length := by simpa using hn
  have ht : (l.take n).length = n := by simp; omega
  have hd : (l.drop n).length = l.toArray.size - n := by simp
  have inv : HeadInv .any l.toArray n (Array.replicate l.toArray.size false) :=
    ⟨by simp, fun j p _ q => (by rw [getD_replicate_false] at q; cases q), fun t _ q => getD_in (by simpa using q) (getD_replicate_false _ _)⟩
  have H := anyT_lex (md := .any) (g := l.toArray.size - n) (k0 := 0) hsel (fun i _ hi d inv hun t ht => tail_waits hs hc hn inv _ i rfl hi hun t ht) (l.take n) 0 _ a (by omega) (fun j hj => by
    have : j < n := by rw [ht] at hj; exact hj
    simp [this]) (by simpa using ht) inv (by rw [ht]; exact hlex) h
  have K := any_of_T (Q := Q) (g := l.toArray.size - n) (fun d a' w' hw z => by
    have := wpAny_of_seq (md := .any) (Q' := Q) (l.drop n) n d a' w' (fun j => by simp [List.getElem?_drop]) (by rw [hd]; exact z.1) (z.2 w' hw)
    rwa [hd] at this) _ _ _ _ hC H
  rw [ht, show n + (l.toArray.size - n) = l.toArray.size by omega] at K
  exact wp_region_any hm K

/-- Of the operations ahead of number n, those from k on are each waited for, on some way, by number n. -/
def sinkFrom (md : Region.Mode) (ops : Array Oper) (k n : Nat) : Bool :=
  (List.range n).all fun i => decide (i < k) || (List.range (n + 1)).any fun j => decide (i < j) && Region.waitsFor md ops j i

theorem waits_from {md : Region.Mode} {ops : Array Oper} {k n : Nat} (hs : sinkFrom md ops k n = true) (hc : Region.chainB md ops n = true) (hn : n < ops.size) (m : Nat) :
    ∀ i, n - i ≤ m → k ≤ i → i < n → ∀ d, HeadInv md ops n d → d.getD i true = false → ∀ t, n ≤ t → t ∉ Region.ready md ops d := by
  induction m with
  | zero => intro i h _ hi; omega
  | succ m ih =>
    intro i hm hk hi d inv hun t ht hr
    obtain ⟨_, ot, hot, hall⟩ := mem_ready.1 hr
    have hlt : t < ops.size := (Array.getElem?_eq_some_iff.1 hot).1
    by_cases e : t = n
    · subst e
      have h1 := List.all_eq_true.1 hs i (List.mem_range.2 hi)
      simp only [Bool.or_eq_true, decide_eq_true_eq] at h1
      rcases h1 with h1 | h1
      · omega
      obtain ⟨j, hj, hj2⟩ := List.any_eq_true.1 h1
      simp only [Bool.and_eq_true, decide_eq_true_eq] at hj2
      obtain ⟨oj, hoj, x, hx, hb, hon⟩ := Region.waitsFor_spec hj2.2
      have hjn := List.mem_range.1 hj
      have no : d.getD j false = true ∨ j = t → False := by
        rintro (q | q)
        · have := inv.closed j oj hoj q x hx hb
          rw [hon, getD_both hun] at this; cases this
        · subst q
          obtain rfl : oj = ot := Option.some.inj (hoj.symm.trans hot)
          have := hall x hx hb
          rw [hon, getD_both hun] at this; cases this
      cases q : d.getD j false with
      | true => exact no (.inl q)
      | false =>
        have hne : j ≠ t := fun z => no (.inr z)
        exact ih j (by omega) (by omega) (by omega) d inv (getD_in (by rw [inv.size]; omega) q) t (Nat.le_refl _) hr
    · have h1 := List.all_eq_true.1 hc t (List.mem_range.2 hlt)
      simp only [Bool.or_eq_true, decide_eq_true_eq] at h1
      rcases h1 with h1 | h1
      · omega
      obtain ⟨o', ho', x, hx, hb, hon⟩ := Region.waitsFor_spec h1
      obtain rfl : o' = ot := Option.some.inj (ho'.symm.trans hot)
      have := hall x hx hb
      rw [hon, getD_both (inv.tail (t - 1) (by omega) (by omega))] at this; cases this

/-- What the order must keep: the first operation may come first, those ahead of number n may come in the order of the text, and behind them comes the rest in one order alone. -/
def oneThenTail (md : Region.Mode) (ops : Array Oper) (n : Nat) : Bool :=
  Region.noSelect ops && decide (n < ops.size) && sinkFrom md ops 1 n && Region.chainB md ops n && decide (0 < n) && Region.free md ops (Array.replicate ops.size false) 0 && (Region.ready md ops (Array.replicate ops.size false)).contains 0 &&
    Region.lexHead md ops (ops.size - n) (n - 1) 1 ((Array.replicate ops.size false).setIfInBounds 0 true)

theorem wp_region_quiet_tail1 {P : Program} {C : World → Prop} {id : Nat} {Q : Exit → Act → World → Prop} {a : Act} {w : World} {o : Oper} {v : Value} {l : List Oper} (n : Nat) (hm : P.follows .mixedOrders = true) (hB : oneThenTail .any (o :: l).toArray n = true)
    (hC : C { w with drawn := w.drawn + 1 }) (hQ : ∀ c a w, Q (.panic c) (a.put o.dst v) w → Q (.panic c) a w) (hy : Yields P (o :: l).toArray o v a)
    (h : wpQuiet P (o :: l).toArray C (fun a' => ∀ w', C w' → wpList P (o :: l).toArray Q (l.drop (n - 1)) a' w') (l.take (n - 1)) (a.put o.dst v)) : (Code.region id (o :: l).toArray true).wp P Q a w := by
  simp only [oneThenTail, Bool.and_eq_true, decide_eq_true_eq] at hB
  obtain ⟨⟨⟨⟨⟨⟨⟨hsel, hn⟩, hs⟩, hc⟩, hn0⟩, hf⟩, hr⟩, hlex⟩ := hB
  have hsz : (o :: l).toArray.size = l.length + 1 := by simp
  have ht : (l.take (n - 1)).length = n - 1 := by simp; omega
  have hd : (l.drop (n - 1)).length = (o :: l).toArray.size - n := by simp; omega
  have inv0 : HeadInv .any (o :: l).toArray n (Array.replicate (o :: l).toArray.size false) :=
    ⟨by simp, fun j p _ q => (by rw [getD_replicate_false] at q; cases q), fun t _ q => getD_in (by simpa using q) (getD_replicate_false _ _)⟩
  have hr0 : 0 ∈ Region.ready .any (o :: l).toArray (Array.replicate (o :: l).toArray.size false) := by simpa using hr
  have H := anyT_lex (md := .any) (g := (o :: l).toArray.size - n) (k0 := 1) hsel (fun i h1 hi d inv hun t ht => waits_from hs hc hn n i (by omega) h1 hi d inv hun t ht) (l.take (n - 1)) 1 _ (a.put o.dst v) (by omega) (fun j hj => by
    have : j < n - 1 := by rw [ht] at hj; exact hj
    rw [List.getElem?_take_of_lt this]
    simp [Nat.add_comm 1 j]) (by rw [ht]; omega) (inv0.set hr0 hn0) (by rw [ht]; exact hlex) h
  have K := any_of_T (Q := Q) (g := (o :: l).toArray.size - n) (fun d a' w' hw z => by
    have := wpAny_of_seq (md := .any) (Q' := Q) (l.drop (n - 1)) n d a' w' (fun j => by
      rw [List.getElem?_drop]
      simp only [List.getElem?_toArray]
      rw [show n + j = (n - 1 + j) + 1 by omega, List.getElem?_cons_succ]) (by rw [hd]; exact z.1) (z.2 w' hw)
    rwa [hd] at this) _ _ _ _ hC H
  rw [ht, show n - 1 + ((o :: l).toArray.size - n) = l.length by rw [hsz]; omega] at K
  refine wp_region_any hm ?_
  rw [hsz]
  have := wpAny_take (P := P) (md := .any) (Q := Q) (w := { w with drawn := w.drawn + 1 }) (i := 0) (oi := o) (v := v) (fuel := l.length) (by simp) hsel hf hr hQ hy K
  rwa [hsz] at this

theorem wp_region_more_tail1 {P : Program} {id : Nat} {Q : Exit → Act → World → Prop} {a : Act} {w : World} {o : Oper} {v : Value} {l : List Oper} (n : Nat) (hm : P.follows .mixedOrders = true) (hB : oneThenTail .any (o :: l).toArray n = true)
    (hQ : ∀ c a w, Q (.panic c) (a.put o.dst v) w → Q (.panic c) a w) (hy : Yields P (o :: l).toArray o v a)
    (h : wpQuiet P (o :: l).toArray (More w) (fun a' => ∀ w', More w w' → wpList P (o :: l).toArray Q (l.drop (n - 1)) a' w') (l.take (n - 1)) (a.put o.dst v)) : (Code.region id (o :: l).toArray true).wp P Q a w :=
  wp_region_quiet_tail1 (C := More w) n hm hB ((More.refl w).drewN 1) hQ hy h

theorem wp_region_more_tail {P : Program} {id : Nat} {Q : Exit → Act → World → Prop} {a : Act} {w : World} {l : List Oper} (n : Nat) (hm : P.follows .mixedOrders = true) (hB : Region.lexTailB .any l.toArray n = true)
    (h : wpQuiet P l.toArray (More w) (fun a' => ∀ w', More w w' → wpList P l.toArray Q (l.drop n) a' w') (l.take n) a) : (Code.region id l.toArray true).wp P Q a w :=
  wp_region_quiet_tail (C := More w) n hm hB ((More.refl w).drewN 1) h

end Go.Proofs.YtahejbahnhohcaaDoor

