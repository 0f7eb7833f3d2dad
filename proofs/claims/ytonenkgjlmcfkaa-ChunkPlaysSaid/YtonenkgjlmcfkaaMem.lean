/-
  An arena in memory, and what a call turns: the words that the walks over package arena speak with.
-/
import Derived.WalkKit
import Derived.Deep.Draws
namespace Go.Proofs.Ytonenkgjlmcfkaa
open Go.RowKit

/-- From w to w' nothing has turned but blocks of S and new ones. -/
structure Turned (S : Nat → Prop) (w w' : World) : Prop where
  os : w'.os = w.os
  tape : w'.tape = w.tape
  output : w'.output = w.output
  size : w.heap.size ≤ w'.heap.size
  block : ∀ k, k < w.heap.size → ¬ S k → w'.heap[k]? = w.heap[k]?

namespace Turned
variable {S S' : Nat → Prop} {w w' w'' : World}
theorem refl (S : Nat → Prop) (w : World) : Turned S w w := ⟨rfl, rfl, rfl, Nat.le_refl _, fun _ _ _ => rfl⟩
theorem trans (h : Turned S w w') (k : Turned S w' w'') : Turned S w w'' :=
  ⟨k.os.trans h.os, k.tape.trans h.tape, k.output.trans h.output, Nat.le_trans h.size k.size,
   fun i hi hs => (k.block i (Nat.lt_of_lt_of_le hi h.size) hs).trans (h.block i hi hs)⟩
theorem mono (h : Turned S w w') (hs : ∀ k, k < w.heap.size → S k → S' k) : Turned S' w w' :=
  ⟨h.os, h.tape, h.output, h.size, fun i hi hn => h.block i hi (fun q => hn (hs i hi q))⟩
theorem drew (h : Turned S w w') : Turned S w w'.drew := ⟨h.os, h.tape, h.output, h.size, h.block⟩
theorem drewN (h : Turned S w w') (n : Nat) : Turned S w (w'.drewN n) := ⟨h.os, h.tape, h.output, h.size, h.block⟩
theorem alloc (h : Turned S w w') (o : Obj) : Turned S w (w'.alloc o) :=
  h.trans ⟨rfl, rfl, rfl, by simp, fun k hk _ => Below.heap_alloc _ _ _ hk⟩
theorem setCell (h : Turned S w w') (p : Addr) (u : Value) (hp : p.block < w.heap.size → S p.block) : Turned S w (w'.setCell p u) :=
  ⟨h.os, h.tape, h.output, by have := h.size; simpa using this, fun k hk hs => by
    rw [Below.heap_setCell _ _ _ _ (by intro e; subst e; exact hs (hp hk))]; exact h.block k hk hs⟩
theorem below (h : Turned S w w') {B : Nat} (hB : B ≤ w.heap.size) (hs : ∀ k, S k → B ≤ k) : Below B w w' :=
  ⟨h.os, h.tape, h.output, h.size, fun k hk => h.block k (by omega) (fun q => by have := hs k q; omega)⟩
end Turned

/-- A row of words in memory. -/
def rowOf (ws : List Int) : Array Value := (ws.map (Value.int .i64)).toArray

/-- At blocks a (a struct of type T) and b (its row) stands an arena of the words ws, with c accesses counted. -/
structure At (T : Nat) (w : World) (a b : Nat) (ws : List Int) (c : Int) : Prop where
  head : w.heap[a]? = some (.cells #[.slice (some ⟨b, 0, none⟩) ws.length ws.length, .int .i64 c] T (0, 0))
  row : w.heap[b]? = some (.cells (rowOf ws) 3 (0, 0))
  ne : a ≠ b

theorem lt_of_heap {w : World} {k : Nat} {o : Obj} (h : w.heap[k]? = some o) : k < w.heap.size := by
  by_cases q : k < w.heap.size
  · exact q
  · rw [Array.getElem?_eq_none (by omega)] at h; cases h
theorem lt_of_cell {w : World} {k o : Nat} {v : Value} (h : w.cell? ⟨k, o, none⟩ = some v) : k < w.heap.size := by
  by_cases q : k < w.heap.size
  · exact q
  · unfold World.cell? at h; rw [Array.getElem?_eq_none (by simpa using q)] at h; cases h

namespace At
variable {T : Nat} {w w' : World} {a b : Nat} {ws : List Int} {c : Int}
theorem la (h : At T w a b ws c) : a < w.heap.size := lt_of_heap h.head
theorem lb (h : At T w a b ws c) : b < w.heap.size := lt_of_heap h.row
theorem keep (h : At T w a b ws c) {S : Nat → Prop} (t : Turned S w w') (ha : ¬ S a) (hb : ¬ S b) : At T w' a b ws c :=
  ⟨by rw [t.block a h.la ha]; exact h.head, by rw [t.block b h.lb hb]; exact h.row, h.ne⟩
theorem c0 (h : At T w a b ws c) : w.cell? ⟨a, 0, none⟩ = some (.slice (some ⟨b, 0, none⟩) ws.length ws.length) := by simp [World.cell?, h.head]
theorem c1 (h : At T w a b ws c) : w.cell? ⟨a, 1, none⟩ = some (.int .i64 c) := by simp [World.cell?, h.head]
theorem f0 (h : At T w a b ws c) : w.frozen? ⟨a, 0, none⟩ = false := by simp [World.frozen?, h.head]
theorem f1 (h : At T w a b ws c) : w.frozen? ⟨a, 1, none⟩ = false := by simp [World.frozen?, h.head]
theorem wd (h : At T w a b ws c) {i : Nat} (hi : i < ws.length) : w.cell? ⟨b, i, none⟩ = some (.int .i64 (ws.getD i 0)) := by
  simp [World.cell?, h.row, rowOf, hi, List.getD]
theorem fw (h : At T w a b ws c) (i : Nat) : w.frozen? ⟨b, i, none⟩ = false := by simp [World.frozen?, h.row]
/-- The count is set. -/
theorem setCount (h : At T w a b ws c) (d : Int) : At T (w.setCell ⟨a, 1, none⟩ (.int .i64 d)) a b ws d :=
  ⟨by simp [World.setCell, Array.getElem?_modify, h.head], by simp [World.setCell, Array.getElem?_modify, h.ne, h.row], h.ne⟩
/-- A word is set. -/
theorem setWord (h : At T w a b ws c) (i : Nat) (x : Int) : At T (w.setCell ⟨b, i, none⟩ (.int .i64 x)) a b (ws.set i x) c :=
  ⟨by simp [World.setCell, Array.getElem?_modify, h.ne.symm, h.head], by
    simp [World.setCell, Array.getElem?_modify, h.row, rowOf, List.map_set], h.ne⟩
theorem drew (h : At T w a b ws c) : At T w.drew a b ws c := ⟨h.head, h.row, h.ne⟩
theorem drewN (h : At T w a b ws c) (n : Nat) : At T (w.drewN n) a b ws c := ⟨h.head, h.row, h.ne⟩
theorem alloc (h : At T w a b ws c) (o : Obj) : At T (w.alloc o) a b ws c := h.keep ((Turned.refl (fun _ => False) w).alloc o) (fun q => q) (fun q => q)
end At

/-- What an access has done: it answers v, and leaves the words ws, and c accesses. -/
def Did (T a b : Nat) (w : World) (ws : List Int) (c : Int) (v : Value) (e : Ending) (w' : World) : Prop :=
  e = .returned v ∧ At T w' a b ws c ∧ Turned (fun k => k = a ∨ k = b) w w'

/-- The world behind an access of a word that is there: the access boxed, the count, the word. -/
theorem did_word {T a b : Nat} {w : World} {ws : List Int} {c : Int} (h : At T w a b ws c) (o : Obj) (n m i : Nat) (x : Int) :
    At T (((((w.alloc o).drewN n).setCell ⟨a, 1, none⟩ (.int .i64 (c + 1))).drewN m).setCell ⟨b, i, none⟩ (.int .i64 x)) a b (ws.set i x) (c + 1) ∧
    Turned (fun k => k = a ∨ k = b) w (((((w.alloc o).drewN n).setCell ⟨a, 1, none⟩ (.int .i64 (c + 1))).drewN m).setCell ⟨b, i, none⟩ (.int .i64 x)) :=
  ⟨((((h.alloc o).drewN n).setCount (c + 1)).drewN m).setWord i x,
   ((((((Turned.refl _ w).alloc o).drewN n).setCell _ _ (fun _ => Or.inl rfl)).drewN m).setCell _ _ (fun _ => Or.inr rfl))⟩

theorem set_same (ws : List Int) (i : Nat) : ws.set i (ws.getD i 0) = ws := by
  apply List.ext_getElem?
  intro j
  rw [List.getElem?_set]
  split
  · rename_i e; subst e
    split
    · rename_i q; simp [List.getD, q]
    · rename_i q; rw [List.getElem?_eq_none (by omega)]
  · rfl

/-- The same, where the word is put back as it was. -/
theorem did_same {T a b : Nat} {w : World} {ws : List Int} {c : Int} (h : At T w a b ws c) (o : Obj) (n m : Nat) {i : Nat} {x : Int} (hx : ws.getD i 0 = x) :
    At T (((((w.alloc o).drewN n).setCell ⟨a, 1, none⟩ (.int .i64 (c + 1))).drewN m).setCell ⟨b, i, none⟩ (.int .i64 x)) a b ws (c + 1) := by
  have := (did_word h o n m i x).1
  rwa [← hx, set_same, hx] at this

theorem addr_add (b o j : Nat) : (⟨b, o, none⟩ : Addr).add j = ⟨b, o + j, none⟩ := by
  unfold Addr.add
  by_cases q : j = 0
  · subst q; simp
  · simp [q]
theorem heap_new (w : World) (o : Obj) : (w.alloc o).heap[w.heap.size]? = some o := by
  show (w.heap.push o)[w.heap.size]? = _
  simp
/-- A call has handed back a new arena. -/
def MadeArena (T : Nat) (w : World) (ws : List Int) (c : Int) (val : Value → Value) (e : Ending) (w' : World) : Prop :=
  ∃ a b, e = .returned (val (.pointer (some ⟨a, 0, none⟩))) ∧ w.heap.size ≤ a ∧ w.heap.size ≤ b ∧ At T w' a b ws c ∧ Turned (fun _ => False) w w'

/-- A call has handed back a new row of words. -/
def GaveRow (w : World) (ws : List Int) (e : Ending) (w' : World) : Prop :=
  ∃ g, e = .returned (.slice (some ⟨g, 0, none⟩) ws.length ws.length) ∧ w.heap.size ≤ g ∧ w'.heap[g]? = some (.cells (rowOf ws) 3 (0, 0)) ∧ Turned (fun _ => False) w w'

theorem at_new {T : Nat} (w : World) (ws : List Int) (c : Int) :
    At T ((w.alloc (.cells (rowOf ws) 3)).alloc (.cells #[.slice (some ⟨w.heap.size, 0, none⟩) ws.length ws.length, .int .i64 c] T)) (w.heap.size + 1) w.heap.size ws c :=
  ⟨by have := heap_new (w.alloc (.cells (rowOf ws) 3)) (.cells #[.slice (some ⟨w.heap.size, 0, none⟩) ws.length ws.length, .int .i64 c] T); rwa [World.size_alloc] at this,
   by rw [Below.heap_alloc _ _ _ (by simp)]; exact heap_new _ _, by omega⟩

/-! What the document asks of accesses, as plain functions. -/
/-- Is there such a word? -/
def inB (ws : List Int) (i : Int) : Bool := decide (0 ≤ i ∧ i < ws.length)
def wordAt (ws : List Int) (i : Int) : Int := ws.getD i.toNat 0
def errOf (ws : List Int) (i : Int) : Int := if inB ws i then 0 else 3
def cntOf (ws : List Int) (i c : Int) : Int := if inB ws i then c + 1 else c
def loadV (ws : List Int) (i : Int) : Int := if inB ws i then wordAt ws i else 0
def storeW (ws : List Int) (i x : Int) : List Int := if inB ws i then ws.set i.toNat x else ws
def swapW (ws : List Int) (i old x : Int) : List Int := if inB ws i then (if wordAt ws i = old then ws.set i.toNat x else ws) else ws
def bumpV (ws : List Int) (i most : Int) : Int := if inB ws i then (if most ≤ wordAt ws i then wordAt ws i else wordAt ws i + 1) else 0
def bumpE (ws : List Int) (i most : Int) : Int := if inB ws i then (if most ≤ wordAt ws i then 8 else 0) else 3
def bumpW (ws : List Int) (i most : Int) : List Int := if inB ws i then (if most ≤ wordAt ws i then ws else ws.set i.toNat (wordAt ws i + 1)) else ws

end Go.Proofs.Ytonenkgjlmcfkaa
