/-
  Rows of values of one cell each, in memory of the call's own: what a store, a run of stores, and the library's Insert and Delete make of them.
-/
import Derived.Test.YtahejbahnhohcaaDoorBase
import Derived.Sort.Row
import Derived.Laws.IdiomCopy
import Derived.Laws.AppendOwn
import Derived.Lib.Hide
namespace Go.Proofs.YtahejbahnhohcaaDoor
open Go.RowKit Go.Sort
set_option linter.unusedVariables false
set_option linter.unusedSimpArgs false

theorem heap_mapBlock {w : World} {b : Nat} {c : Array Value} {e : TypeId} {fr : Nat × Nat} (f : Array Value → Array Value) (h : w.heap[b]? = some (.cells c e fr)) : (mapBlock w b f).heap[b]? = some (.cells (f c) e fr) := by
  simp [mapBlock, Array.getElem?_modify, h, onCells]
theorem turned_mapBlock {S : Nat → Prop} {w w' : World} (ht : Turned S w w') {b : Nat} (hb : b < w.heap.size → S b) (f : Array Value → Array Value) : Turned S w (mapBlock w' b f) :=
  ⟨ht.os, ht.tape, ht.output, by have := ht.size; simpa [mapBlock] using this, fun k hk hs => by
    rw [← Turned.block ht k hk hs]
    have : k ≠ b := by rintro rfl; exact hs (hb hk)
    simp [mapBlock, Array.getElem?_modify, Ne.symm this]⟩

/-- A run of stores, on a block's cells. -/
def writes (c : Array Value) : Nat → List Value → Array Value
  | _, [] => c
  | o, v :: r => writes (c.setIfInBounds o v) (o + 1) r
theorem setCells_eq (b : Nat) : ∀ (vs : List Value) (o : Nat) (w : World), w.setCells b o vs = mapBlock w b (fun c => writes c o vs)
  | [], o, w => (mapBlock_id w b _ (fun _ _ _ _ => rfl)).symm
  | v :: r, o, w => by
    rw [World.setCells, setCells_eq b r, setCell_eq, mapBlock_mapBlock]; rfl
theorem writes_size : ∀ (vs : List Value) (c : Array Value) (o : Nat), (writes c o vs).size = c.size
  | [], _, _ => rfl
  | v :: r, c, o => by rw [writes, writes_size r]; simp
theorem take_len {α : Type} (A B : List α) {n : Nat} (h : A.length = n) : (A ++ B).take n = A := by rw [← h]; simp
theorem drop_len {α : Type} (A B : List α) {n m : Nat} (h : A.length = n) : (A ++ B).drop (n + m) = B.drop m := by
  rw [List.drop_append, List.drop_eq_nil_of_le (by omega), List.nil_append, h, Nat.add_sub_cancel_left]
theorem writes_toList : ∀ (vs : List Value) (c : Array Value) (o : Nat), o + vs.length ≤ c.size → (writes c o vs).toList = c.toList.take o ++ vs ++ c.toList.drop (o + vs.length)
  | [], c, o, _ => by simp [writes]
  | v :: r, c, o, h => by
    simp only [List.length_cons] at h
    have hl : o < c.toList.length := by simp; omega
    rw [writes, writes_toList r _ _ (by simp; omega), Array.toList_setIfInBounds, List.set_eq_take_append_cons_drop, if_pos hl]
    have h1 : (c.toList.take o ++ [v]).length = o + 1 := by simp; omega
    rw [show c.toList.take o ++ v :: c.toList.drop (o + 1) = (c.toList.take o ++ [v]) ++ c.toList.drop (o + 1) by simp]
    rw [take_len _ _ h1, drop_len _ _ h1, List.drop_drop]
    simp
    congr 1
    omega

/-- xs lie behind a, whose room is cap. -/
def RowAt (w : World) (e : TypeId) (xs : List Value) (a : Option Addr) (cap : Nat) : Prop :=
  (a = none ∧ cap = 0 ∧ xs = []) ∨ ∃ g cur, a = some ⟨g, 0, none⟩ ∧ w.heap[g]? = some (.cells cur e (0, 0)) ∧ xs.length ≤ cap ∧ cap ≤ maxLen ∧ cur.size = cap ∧ cur.toList.take xs.length = xs
/-- Which block it is. -/
def owned (a : Option Addr) (k : Nat) : Prop := a.map (·.block) = some k

namespace RowAt
variable {w w' : World} {e : TypeId} {xs : List Value} {a : Option Addr} {cap : Nat}
theorem nil (w : World) (e : TypeId) : RowAt w e [] none 0 := .inl ⟨rfl, rfl, rfl⟩
theorem keep (h : RowAt w e xs a cap) {S : Nat → Prop} (ht : Turned S w w') (hs : ∀ k, owned a k → ¬ S k) : RowAt w' e xs a cap := by
  rcases h with h | ⟨g, cur, rfl, hg, rest⟩
  · exact .inl h
  · refine .inr ⟨g, cur, rfl, ?_, rest⟩
    rw [Turned.block ht g (lt_of_heap hg) (hs g rfl)]; exact hg
theorem lt (h : RowAt w e xs a cap) : ∀ k, owned a k → k < w.heap.size := by
  rcases h with ⟨rfl, _⟩ | ⟨g, cur, rfl, hg, _⟩
  · intro k hk; cases hk
  · intro k hk; cases hk; exact lt_of_heap hg
theorem of_own {base n : Nat} {v : Value} (h : w.ownsRow base e 1 v n xs) : ∃ a cap, v = .slice a n cap ∧ RowAt w e xs a cap ∧ (∀ k, owned a k → base ≤ k) ∧ xs.length = n := by
  have hl : xs.length = n := by have := h.1; omega
  rcases h.2 with ⟨rfl, rfl⟩ | ⟨g, cap, cur, rfl, hb, hg, hn, hm, hs, ht⟩
  · exact ⟨none, 0, rfl, .inl ⟨rfl, rfl, List.length_eq_zero_iff.1 hl⟩, (fun k hk => by cases hk), hl⟩
  · exact ⟨_, cap, rfl, .inr ⟨g, cur, rfl, hg, by omega, hm, by omega, by rw [hl]; simpa using ht⟩, fun k hk => by cases hk; exact hb, hl⟩
theorem own (h : RowAt w e xs a cap) {base : Nat} (hb : ∀ k, owned a k → base ≤ k) : w.ownsRow base e 1 (.slice a xs.length cap) xs.length xs := by
  refine ⟨by omega, ?_⟩
  rcases h with ⟨rfl, rfl, rfl⟩ | ⟨g, cur, rfl, hg, hn, hm, hs, ht⟩
  · exact .inl ⟨rfl, rfl⟩
  · exact .inr ⟨g, cap, cur, rfl, hb g rfl, hg, hn, hm, by omega, by simpa using ht⟩
/-- How it reads. -/
theorem reads (h : RowAt w e xs a cap) (h0 : 0 < xs.length) : ∃ g, a = some ⟨g, 0, none⟩ ∧ g < w.heap.size ∧ (∀ j v, xs[j]? = some v → w.cell? ⟨g, j, none⟩ = some v) ∧ ∀ j, w.frozen? ⟨g, j, none⟩ = false := by
  rcases h with ⟨rfl, _, rfl⟩ | ⟨g, cur, rfl, hg, hn, hm, hs, ht⟩
  · simp at h0
  · refine ⟨g, rfl, lt_of_heap hg, fun j v hj => ?_, fun j => by simp [World.frozen?, hg]⟩
    have hj' : j < xs.length := (List.getElem?_eq_some_iff.1 hj).1
    have e1 : cur.toList[j]? = some v := by
      have : (cur.toList.take xs.length)[j]? = some v := by rw [ht]; exact hj
      rw [List.getElem?_take, if_pos hj'] at this; exact this
    simp [World.cell?, hg]
    simpa using e1
end RowAt

/-- What Insert and Delete hand back: the row in its old block, or in a new one. -/
structure Moved (w w' : World) (e : TypeId) (ys : List Value) (a a' : Option Addr) (cap' : Nat) : Prop where
  row : RowAt w' e ys a' cap'
  turn : Turned (owned a) w w'
  from' : ∀ k, owned a' k → owned a k ∨ w.heap.size ≤ k

/-- In place: two runs of stores. -/
theorem moved_shift {w : World} {e : TypeId} {xs : List Value} {g i cap : Nat} {cur : Array Value} (x : Value) (hg : w.heap[g]? = some (.cells cur e (0, 0))) (hn : xs.length + 1 ≤ cap) (hm : cap ≤ maxLen) (hs : cur.size = cap) (ht : cur.toList.take xs.length = xs) (hi : i ≤ xs.length) :
    Moved w ((w.drew.setCells g (0 + (i + 1)) (xs.drop i)).setCells g (0 + i) [x]) e (xs.take i ++ x :: xs.drop i) (some ⟨g, 0, none⟩) (some ⟨g, 0, none⟩) cap := by
  rw [Nat.zero_add, Nat.zero_add, setCells_eq, setCells_eq, mapBlock_mapBlock]
  refine ⟨.inr ⟨g, _, rfl, heap_mapBlock _ hg, by simp; omega, hm, by rw [writes_size, writes_size]; exact hs, ?_⟩, turned_mapBlock (S := owned (some ⟨g, 0, none⟩)) ((Turned.refl _ w).drew) (fun _ => rfl) _, fun k hk => .inl hk⟩
  have hd : (xs.drop i).length = xs.length - i := by simp
  rw [writes_toList _ _ _ (by rw [writes_size]; simp; omega), writes_toList _ _ _ (by rw [hd]; omega)]
  have h1 : (cur.toList.take (i + 1)).take i = xs.take i := by
    rw [List.take_take, show min i (i + 1) = min i xs.length by omega, ← List.take_take, ht]
  have h2 : ((cur.toList.take (i + 1)) ++ xs.drop i ++ cur.toList.drop (i + 1 + (xs.drop i).length)).take i = xs.take i := by
    rw [List.append_assoc, List.take_append_of_le_length (by simp; omega), h1]
  have h3 : ((cur.toList.take (i + 1)) ++ xs.drop i ++ cur.toList.drop (i + 1 + (xs.drop i).length)).drop (i + 1) = xs.drop i ++ cur.toList.drop (i + 1 + (xs.drop i).length) := by
    rw [List.append_assoc, List.drop_append, List.drop_eq_nil_of_le (by simp; omega)]
    have : (cur.toList.take (i + 1)).length = i + 1 := by simp; omega
    rw [this, Nat.sub_self]; simp
  rw [h2, show i + [x].length = i + 1 from rfl, h3]
  rw [← List.append_assoc, show xs.take i ++ [x] ++ xs.drop i = xs.take i ++ x :: xs.drop i by simp]
  exact take_len _ _ rfl
/-- In place, at the end. -/
theorem moved_end {w : World} {e : TypeId} {xs : List Value} {g cap : Nat} {cur : Array Value} (x : Value) (hg : w.heap[g]? = some (.cells cur e (0, 0))) (hn : xs.length + 1 ≤ cap) (hm : cap ≤ maxLen) (hs : cur.size = cap) (ht : cur.toList.take xs.length = xs) :
    Moved w (w.setCells g (0 + xs.length) [x]) e (xs.take xs.length ++ x :: xs.drop xs.length) (some ⟨g, 0, none⟩) (some ⟨g, 0, none⟩) cap := by
  rw [Nat.zero_add, setCells_eq]
  refine ⟨.inr ⟨g, _, rfl, heap_mapBlock _ hg, by simp; omega, hm, by rw [writes_size]; exact hs, ?_⟩, turned_mapBlock (S := owned (some ⟨g, 0, none⟩)) (Turned.refl _ w) (fun _ => rfl) _, fun k hk => .inl hk⟩
  rw [writes_toList _ _ _ (by simp; omega), ht, List.take_length, List.drop_length, List.length_append]
  exact take_len (xs ++ [x]) _ (by simp)
theorem zeroCells_size (z : Array Value) (n : Nat) : (Builtin.zeroCells z n).size = n * z.size := by simp [Builtin.zeroCells]
/-- A new row, at the end. -/
theorem moved_new_end {w : World} {e : TypeId} {xs : List Value} {a : Option Addr} {G : Nat} (x z : Value) (hz : z.cells.size = 1) (hG : xs.length + 1 ≤ G) (hm : G ≤ maxLen) :
    Moved w (w.drew.alloc (.cells ((xs ++ [x]).toArray ++ Builtin.zeroCells z.cells (G - (xs.length + 1))) e)) e (xs.take xs.length ++ x :: xs.drop xs.length) a (some ⟨w.heap.size, 0, none⟩) G := by
  refine ⟨.inr ⟨_, _, rfl, heap_new w.drew _, by simp; omega, hm, by simp [zeroCells_size, hz]; omega, ?_⟩, ((Turned.refl _ w).drew).alloc _, fun k hk => by cases hk; exact .inr (Nat.le_refl _)⟩
  rw [List.take_length, List.drop_length, List.length_append, Array.toList_append]
  exact take_len (xs ++ [x]) _ (by simp)
/-- A new row, in the midst. -/
theorem moved_new {w : World} {e : TypeId} {xs : List Value} {a : Option Addr} {G i : Nat} (x z : Value) (hz : z.cells.size = 1) (hG : xs.length + 1 ≤ G) (hm : G ≤ maxLen) (hi : i ≤ xs.length) :
    Moved w (((w.alloc (.cells ((xs.take i).toArray ++ Builtin.zeroCells z.cells (xs.length + 1 - i) ++ Builtin.zeroCells z.cells (G - (xs.length + 1))) e)).drew.setCells w.heap.size i [x]).drew.setCells w.heap.size (i + 1) (xs.drop i)) e (xs.take i ++ x :: xs.drop i) a (some ⟨w.heap.size, 0, none⟩) G := by
  have hd : (xs.drop i).length = xs.length - i := by simp
  generalize hc : (xs.take i).toArray ++ Builtin.zeroCells z.cells (xs.length + 1 - i) ++ Builtin.zeroCells z.cells (G - (xs.length + 1)) = cur
  have hs : cur.size = G := by rw [← hc]; simp [zeroCells_size, hz]; omega
  have ht : cur.toList.take i = xs.take i := by
    rw [← hc]; simp only [Array.toList_append, List.append_assoc]
    have q : (xs.take i).length = i := by simp; omega
    exact take_len _ _ q
  have e1 : ∀ W : World, (W.drew).heap = W.heap := fun _ => rfl
  rw [setCells_eq, setCells_eq]
  have hA : ((w.alloc (.cells cur e)).drew).heap[w.heap.size]? = some (.cells cur e (0, 0)) := heap_new w _
  have hB := heap_mapBlock (fun c => writes c i [x]) hA
  have hC : ((mapBlock (w.alloc (.cells cur e)).drew w.heap.size fun c => writes c i [x]).drew).heap[w.heap.size]? = some (.cells (writes cur i [x]) e (0, 0)) := hB
  refine ⟨.inr ⟨_, _, rfl, heap_mapBlock _ hC, by simp; omega, hm, by rw [writes_size, writes_size]; exact hs, ?_⟩, ?_, fun k hk => by cases hk; exact .inr (Nat.le_refl _)⟩
  · rw [writes_toList _ _ _ (by rw [writes_size, hd]; omega), writes_toList _ _ _ (by simp; omega), ht]
    rw [show i + [x].length = i + 1 from rfl]
    have h1 : (xs.take i ++ [x] ++ cur.toList.drop (i + 1)).take (i + 1) = xs.take i ++ [x] := take_len _ _ (by simp; omega)
    rw [h1]
    rw [show xs.take i ++ [x] ++ xs.drop i = xs.take i ++ x :: xs.drop i by simp]
    exact take_len _ _ rfl
  · refine turned_mapBlock (Turned.drew (turned_mapBlock (((Turned.refl _ w).alloc _).drew) ?_ _)) ?_ _
    · intro q; omega
    · intro q; omega
/-- Delete, in place. -/
theorem moved_cut {α : Type} [Inhabited α] (enc : α → Value) {w : World} {e : TypeId} {ys : List Value} {g cap q : Nat} {cur : Array Value} (d : Array α) (hg : w.heap[g]? = some (.cells cur e (0, 0))) (hn : d.size ≤ cap) (hm : cap ≤ maxLen) (hs : cur.size = cap) (hd : (d.toList.map enc).take ys.length = ys) :
    Moved w (putRow enc (Sort.ahead w q) g 0 d) e ys (some ⟨g, 0, none⟩) (some ⟨g, 0, none⟩) cap := by
  have hy : ys.length ≤ d.size := by
    have := congrArg List.length hd; simp at this; omega
  refine ⟨.inr ⟨g, _, rfl, heap_mapBlock _ hg, by omega, hm, by simp [putCells]; exact hs, ?_⟩, turned_mapBlock (S := owned (some ⟨g, 0, none⟩)) (w := w) (w' := Sort.ahead w q) ⟨rfl, rfl, rfl, Nat.le_refl _, fun _ _ _ => rfl⟩ (fun _ => rfl) _, fun k hk => .inl hk⟩
  apply List.ext_getElem?
  intro j
  rw [List.getElem?_take]
  conv => rhs; rw [← hd]
  rw [List.getElem?_take]
  by_cases hj : j < ys.length
  · rw [if_pos hj, if_pos hj, Array.getElem?_toList, putCells, Array.getElem?_mapIdx, Array.getElem?_eq_getElem (by omega), List.getElem?_map, Array.getElem?_toList, Array.getElem?_eq_getElem (by omega)]
    simp
    rw [if_pos (by omega)]
    congr 1
    simp [getElem!_pos, show j < d.size by omega]
  · rw [if_neg hj, if_neg hj]
/-- One store. -/
theorem rowAt_set {w : World} {e : TypeId} {xs : List Value} {g cap i : Nat} (x : Value) (h : RowAt w e xs (some ⟨g, 0, none⟩) cap) (hi : i < xs.length) : RowAt (w.setCell ⟨g, i, none⟩ x) e (xs.set i x) (some ⟨g, 0, none⟩) cap := by
  rcases h with ⟨h, _⟩ | ⟨g', cur, h, hg, hn, hm, hs, ht⟩
  · cases h
  · cases h
    rw [setCell_eq]
    refine .inr ⟨g, _, rfl, heap_mapBlock _ hg, by simpa using hn, hm, by simpa using hs, ?_⟩
    rw [Array.toList_setIfInBounds, List.length_set, List.take_set, ht]
end Go.Proofs.YtahejbahnhohcaaDoor
