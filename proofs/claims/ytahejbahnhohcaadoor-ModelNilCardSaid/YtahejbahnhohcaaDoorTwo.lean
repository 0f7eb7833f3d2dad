/-
  Rows of values of two cells each, in memory of the call's own: what the library's Insert, Delete and Clone make of them.
-/
import Derived.Test.YtahejbahnhohcaaDoorSeq
import Derived.Lib.SliceRun
namespace Go.Proofs.YtahejbahnhohcaaDoor
open Go.RowKit Go.Sort
set_option linter.unusedVariables false
set_option linter.unusedSimpArgs false

section
variable {P : Program}
/-- copy, of elements of two cells: all is read before anything is written. -/
theorem run_copy_two (w : World) (dT sT ty elem : TypeId) (b o dLen dCap : Nat) (a : Addr) (sLen sCap : Nat) (cs : List Value)
    (hu : P.underlying dT = some (.slice elem)) (hs : (P.info? elem).map (·.size) = some 2) (hn : cs.length = Nat.min sLen dLen * 2)
    (hsrc : ∀ j v, cs[j]? = some v → w.cell? (a.add j) = some v) (hc : ∀ j, j < cs.length → (w.cell? ⟨b, o + j, none⟩).isSome = true) (hf : ∀ j, j < cs.length → w.frozen? ⟨b, o + j, none⟩ = false) (h1 : ∀ v ∈ cs, v.oneCell' = true) :
    (Builtin.copy_ #[dT, sT] ty #[.slice (some ⟨b, o, none⟩) dLen dCap, .slice (some a) sLen sCap]).run P w = .ok (goInt (Nat.min sLen dLen)) (w.setCells b o cs) := by
  have hl := run_loadCells_list (P := P) w a cs hsrc
  have hst := run_storeCells_cells (P := P) b o cs 0 w (by simpa using hc) (by simpa using hf) h1
  cases hq : P.info? elem with
  | none => simp [hq] at hs
  | some i =>
    have hi : i.size = 2 := by simpa [hq] using hs
    simp only [Nat.add_zero] at hst
    simp [Builtin.copy_, run_underlying hu, Builtin.lenOf, Builtin.firstCells, sizeOf, typeInfo, hq, hi, ← hn, hl, hst]
/-- clear, of one element of two cells. -/
theorem run_clear_two (w : World) (t e ty : TypeId) (z : Value) (x y : Value) (ht : P.underlying t = some (.slice e)) (hv : ∀ w, (zeroValue e).run P w = .ok z w) (hz : z.cells = #[x, y]) (h1 : x.oneCell' = true) (h2 : y.oneCell' = true) (b o c : Nat)
    (hc : ∀ j, j < 2 → (w.cell? ⟨b, o + j, none⟩).isSome = true) (hf : ∀ j, j < 2 → w.frozen? ⟨b, o + j, none⟩ = false) :
    (Builtin.clear_ #[t] ty #[.slice (some ⟨b, o, none⟩) 1 c]).run P w = .ok (.tuple #[]) (w.setCells b o [x, y]) := by
  have hzc : (Builtin.zeroCells z.cells 1).toList = [x, y] := by
    rw [hz]
    simp [Builtin.zeroCells]
    rfl
  have hst := run_storeCells_cells (P := P) b o [x, y] 0 w (by simpa using hc) (by simpa using hf) (by intro v hv'; simp at hv'; rcases hv' with rfl | rfl <;> assumption)
  simp only [Nat.add_zero] at hst
  simp [Builtin.clear_, run_underlying ht, hv, hzc, hst]
end

/-- n elements of two cells, whose cells are cs, lie behind a, whose room is cap. -/
def RowB (w : World) (e : TypeId) (n : Nat) (cs : List Value) (a : Option Addr) (cap : Nat) : Prop :=
  cs.length = n * 2 ∧ ((a = none ∧ cap = 0 ∧ n = 0) ∨ ∃ g cur, a = some ⟨g, 0, none⟩ ∧ w.heap[g]? = some (.cells cur e (0, 0)) ∧ n ≤ cap ∧ cap ≤ maxLen ∧ cur.size = cap * 2 ∧ cur.toList.take (n * 2) = cs)

namespace RowB
variable {w w' : World} {e : TypeId} {n : Nat} {cs : List Value} {a : Option Addr} {cap : Nat}
theorem nil (w : World) (e : TypeId) : RowB w e 0 [] none 0 := ⟨rfl, .inl ⟨rfl, rfl, rfl⟩⟩
theorem keep (h : RowB w e n cs a cap) {S : Nat → Prop} (ht : Turned S w w') (hs : ∀ k, owned a k → ¬ S k) : RowB w' e n cs a cap := by
  rcases h with ⟨h0, h | ⟨g, cur, rfl, hg, rest⟩⟩
  · exact ⟨h0, .inl h⟩
  · refine ⟨h0, .inr ⟨g, cur, rfl, ?_, rest⟩⟩
    rw [Turned.block ht g (lt_of_heap hg) (hs g rfl)]; exact hg
theorem lt (h : RowB w e n cs a cap) : ∀ k, owned a k → k < w.heap.size := by
  rcases h with ⟨_, ⟨rfl, _⟩ | ⟨g, cur, rfl, hg, _⟩⟩
  · intro k hk; cases hk
  · intro k hk; cases hk; exact lt_of_heap hg
theorem of_own {base : Nat} {v : Value} (h : w.ownsRow base e 2 v n cs) : ∃ a cap, v = .slice a n cap ∧ RowB w e n cs a cap ∧ (∀ k, owned a k → base ≤ k) := by
  rcases h.2 with ⟨rfl, rfl⟩ | ⟨g, cap, cur, rfl, hb, hg, hn, hm, hs, ht⟩
  · exact ⟨none, 0, rfl, ⟨h.1, .inl ⟨rfl, rfl, rfl⟩⟩, (fun k hk => by cases hk)⟩
  · exact ⟨_, cap, rfl, ⟨h.1, .inr ⟨g, cur, rfl, hg, by omega, hm, by omega, ht⟩⟩, fun k hk => by cases hk; exact hb⟩
/-- How it reads. -/
theorem reads (h : RowB w e n cs a cap) (h0 : 0 < n) : ∃ g, a = some ⟨g, 0, none⟩ ∧ g < w.heap.size ∧ (∀ j v, cs[j]? = some v → w.cell? ⟨g, j, none⟩ = some v) ∧ ∀ j, w.frozen? ⟨g, j, none⟩ = false := by
  rcases h with ⟨hl, ⟨rfl, _, rfl⟩ | ⟨g, cur, rfl, hg, hn, hm, hs, ht⟩⟩
  · simp at h0
  · refine ⟨g, rfl, lt_of_heap hg, fun j v hj => ?_, fun j => by simp [World.frozen?, hg]⟩
    have hj' : j < cs.length := (List.getElem?_eq_some_iff.1 hj).1
    have e1 : cur.toList[j]? = some v := by
      have : (cur.toList.take (n * 2))[j]? = some v := by rw [ht]; exact hj
      rw [List.getElem?_take, if_pos (by omega)] at this; exact this
    simp [World.cell?, hg]
    simpa using e1
/-- The block itself. -/
theorem block (h : RowB w e n cs a cap) (h0 : 0 < n) : ∃ (g : Nat) (cur : Array Value), a = some ⟨g, 0, none⟩ ∧ w.heap[g]? = some (.cells cur e (0, 0)) ∧ n ≤ cap ∧ ∀ (j : Nat) (v : Value), cs[j]? = some v → cur[j]? = some v := by
  rcases h with ⟨hl, ⟨rfl, _, rfl⟩ | ⟨g, cur, rfl, hg, hn, hm, hs, ht⟩⟩
  · simp at h0
  · refine ⟨g, cur, rfl, hg, hn, fun j v hj => ?_⟩
    have hj' : j < cs.length := (List.getElem?_eq_some_iff.1 hj).1
    have : (cur.toList.take (n * 2))[j]? = some v := by rw [ht]; exact hj
    rw [List.getElem?_take, if_pos (by omega)] at this
    simpa using this
end RowB

/-- What Insert and Delete hand back: the row in its old block, or in a new one. -/
structure MovedB (w w' : World) (e : TypeId) (n : Nat) (ys : List Value) (a a' : Option Addr) (cap' : Nat) : Prop where
  row : RowB w' e n ys a' cap'
  turn : Turned (owned a) w w'
  from' : ∀ k, owned a' k → owned a k ∨ w.heap.size ≤ k
theorem MovedB.low {W w w' : World} {e : TypeId} {n : Nat} {ys : List Value} {a a' : Option Addr} {cap' : Nat} (h : MovedB W w' e n ys a a' cap') (hW : More w W) (ha : ∀ k, owned a k → k < w.heap.size) : MovedB w w' e n ys a a' cap' :=
  ⟨h.row, (Turned.mono hW (fun _ _ q => q.elim)).trans h.turn, fun k hk => (h.from' k hk).imp id (fun q => Nat.le_trans hW.size q)⟩

/-- In place: two runs of stores. -/
theorem movedB_shift {w : World} {e : TypeId} {n : Nat} {cs : List Value} {g i cap : Nat} {cur : Array Value} (vs : List Value) (hv : vs.length = 2) (hc : cs.length = n * 2) (hg : w.heap[g]? = some (.cells cur e (0, 0))) (hn : n + 1 ≤ cap) (hm : cap ≤ maxLen) (hs : cur.size = cap * 2) (ht : cur.toList.take (n * 2) = cs) (hi : i ≤ n) :
    MovedB w ((w.drew.setCells g (0 + (i + 1) * 2) (cs.drop (i * 2))).setCells g (0 + i * 2) vs) e (n + 1) (cs.take (i * 2) ++ vs ++ cs.drop (i * 2)) (some ⟨g, 0, none⟩) (some ⟨g, 0, none⟩) cap := by
  rw [Nat.zero_add, Nat.zero_add, setCells_eq, setCells_eq, mapBlock_mapBlock]
  have hd : (cs.drop (i * 2)).length = n * 2 - i * 2 := by (try simp); omega
  refine ⟨⟨by (try simp); omega, .inr ⟨g, _, rfl, heap_mapBlock _ hg, hn, hm, by rw [writes_size, writes_size]; exact hs, ?_⟩⟩, turned_mapBlock (S := owned (some ⟨g, 0, none⟩)) ((Turned.refl _ w).drew) (fun _ => rfl) _, fun k hk => .inl hk⟩
  rw [writes_toList _ _ _ (by rw [writes_size]; (try simp); omega), writes_toList _ _ _ (by rw [hd]; omega)]
  have h1 : (cur.toList.take ((i + 1) * 2)).take (i * 2) = cs.take (i * 2) := by
    rw [List.take_take, show min (i * 2) ((i + 1) * 2) = min (i * 2) (n * 2) by omega, ← List.take_take, ht]
  have h2 : (cur.toList.take ((i + 1) * 2) ++ cs.drop (i * 2) ++ cur.toList.drop ((i + 1) * 2 + (cs.drop (i * 2)).length)).take (i * 2) = cs.take (i * 2) := by
    rw [List.append_assoc, List.take_append_of_le_length (by (try simp); omega), h1]
  have h3 : (cur.toList.take ((i + 1) * 2) ++ cs.drop (i * 2) ++ cur.toList.drop ((i + 1) * 2 + (cs.drop (i * 2)).length)).drop ((i + 1) * 2) = cs.drop (i * 2) ++ cur.toList.drop ((i + 1) * 2 + (cs.drop (i * 2)).length) := by
    rw [List.append_assoc, List.drop_append, List.drop_eq_nil_of_le (by (try simp); omega)]
    have : (cur.toList.take ((i + 1) * 2)).length = (i + 1) * 2 := by (try simp); omega
    rw [this, Nat.sub_self]; simp
  rw [h2, hv, show i * 2 + 2 = (i + 1) * 2 by omega, h3, ← List.append_assoc]
  exact take_len _ _ (by (try simp); omega)
/-- In place, at the end. -/
theorem movedB_end {w : World} {e : TypeId} {n : Nat} {cs : List Value} {g cap : Nat} {cur : Array Value} (vs : List Value) (hv : vs.length = 2) (hc : cs.length = n * 2) (hg : w.heap[g]? = some (.cells cur e (0, 0))) (hn : n + 1 ≤ cap) (hm : cap ≤ maxLen) (hs : cur.size = cap * 2) (ht : cur.toList.take (n * 2) = cs) :
    MovedB w (w.setCells g (0 + n * 2) vs) e (n + 1) (cs.take (n * 2) ++ vs ++ cs.drop (n * 2)) (some ⟨g, 0, none⟩) (some ⟨g, 0, none⟩) cap := by
  rw [Nat.zero_add, setCells_eq]
  refine ⟨⟨by (try simp); omega, .inr ⟨g, _, rfl, heap_mapBlock _ hg, hn, hm, by rw [writes_size]; exact hs, ?_⟩⟩, turned_mapBlock (S := owned (some ⟨g, 0, none⟩)) (Turned.refl _ w) (fun _ => rfl) _, fun k hk => .inl hk⟩
  rw [writes_toList _ _ _ (by (try simp); omega), ht, ← hc, List.take_length, List.drop_length, List.append_nil]
  exact take_len (cs ++ vs) _ (by (try simp); omega)
/-- A new row, at the end. -/
theorem movedB_new_end {w : World} {e : TypeId} {n : Nat} {cs : List Value} {a : Option Addr} {G : Nat} (vs : List Value) (z : Value) (hv : vs.length = 2) (hc : cs.length = n * 2) (hz : z.cells.size = 2) (hG : n + 1 ≤ G) (hm : G ≤ maxLen) :
    MovedB w (w.drew.alloc (.cells ((cs ++ vs).toArray ++ Builtin.zeroCells z.cells (G - (n + 1))) e)) e (n + 1) (cs.take (n * 2) ++ vs ++ cs.drop (n * 2)) a (some ⟨w.heap.size, 0, none⟩) G := by
  refine ⟨⟨by (try simp); omega, .inr ⟨_, _, rfl, heap_new w.drew _, hG, hm, by simp [zeroCells_size, hz]; omega, ?_⟩⟩, ((Turned.refl _ w).drew).alloc _, fun k hk => by cases hk; exact .inr (Nat.le_refl _)⟩
  rw [← hc, List.take_length, List.drop_length, List.append_nil, Array.toList_append]
  exact take_len (cs ++ vs) _ (by (try simp); omega)
/-- A new row, in the midst. -/
theorem movedB_new {w : World} {e : TypeId} {n : Nat} {cs : List Value} {a : Option Addr} {G i : Nat} (vs : List Value) (z : Value) (hv : vs.length = 2) (hc : cs.length = n * 2) (hz : z.cells.size = 2) (hG : n + 1 ≤ G) (hm : G ≤ maxLen) (hi : i ≤ n) :
    MovedB w (((w.alloc (.cells ((cs.take (i * 2)).toArray ++ Builtin.zeroCells z.cells (n + 1 - i) ++ Builtin.zeroCells z.cells (G - (n + 1))) e)).drew.setCells w.heap.size (i * 2) vs).drew.setCells w.heap.size ((i + 1) * 2) (cs.drop (i * 2))) e (n + 1) (cs.take (i * 2) ++ vs ++ cs.drop (i * 2)) a (some ⟨w.heap.size, 0, none⟩) G := by
  have hd : (cs.drop (i * 2)).length = n * 2 - i * 2 := by (try simp); omega
  generalize hq : (cs.take (i * 2)).toArray ++ Builtin.zeroCells z.cells (n + 1 - i) ++ Builtin.zeroCells z.cells (G - (n + 1)) = cur
  have hs : cur.size = G * 2 := by rw [← hq]; simp [zeroCells_size, hz]; omega
  have ht : cur.toList.take (i * 2) = cs.take (i * 2) := by
    rw [← hq]; simp only [Array.toList_append, List.append_assoc]
    exact take_len _ _ (by (try simp); omega)
  rw [setCells_eq, setCells_eq]
  have hA : ((w.alloc (.cells cur e)).drew).heap[w.heap.size]? = some (.cells cur e (0, 0)) := heap_new w _
  have hB := heap_mapBlock (fun c => writes c (i * 2) vs) hA
  have hC : ((mapBlock (w.alloc (.cells cur e)).drew w.heap.size fun c => writes c (i * 2) vs).drew).heap[w.heap.size]? = some (.cells (writes cur (i * 2) vs) e (0, 0)) := hB
  refine ⟨⟨by (try simp); omega, .inr ⟨_, _, rfl, heap_mapBlock _ hC, hG, hm, by rw [writes_size, writes_size]; exact hs, ?_⟩⟩, ?_, fun k hk => by cases hk; exact .inr (Nat.le_refl _)⟩
  · rw [writes_toList _ _ _ (by rw [writes_size, hd]; omega), writes_toList _ _ _ (by omega), ht, hv, show i * 2 + 2 = (i + 1) * 2 by omega]
    have h1 : (cs.take (i * 2) ++ vs ++ cur.toList.drop ((i + 1) * 2)).take ((i + 1) * 2) = cs.take (i * 2) ++ vs := take_len _ _ (by (try simp); omega)
    rw [h1]
    exact take_len _ _ (by (try simp); omega)
  · refine turned_mapBlock (Turned.drew (turned_mapBlock (((Turned.refl _ w).alloc _).drew) ?_ _)) ?_ _
    · intro q; omega
    · intro q; omega
/-- Delete, in place. -/
theorem movedB_cut {w : World} {e : TypeId} {n : Nat} {cs : List Value} {g i cap : Nat} {cur : Array Value} (zs : List Value) (hz : zs.length = 2) (hc : cs.length = n * 2) (hg : w.heap[g]? = some (.cells cur e (0, 0))) (hn : n ≤ cap) (hm : cap ≤ maxLen) (hs : cur.size = cap * 2) (ht : cur.toList.take (n * 2) = cs) (hi : i < n) :
    MovedB w ((w.drew.setCells g (0 + i * 2) (cs.drop ((i + 1) * 2))).setCells g (0 + (n - 1) * 2) zs) e (n - 1) (cs.take (i * 2) ++ cs.drop ((i + 1) * 2)) (some ⟨g, 0, none⟩) (some ⟨g, 0, none⟩) cap := by
  rw [Nat.zero_add, Nat.zero_add, setCells_eq, setCells_eq, mapBlock_mapBlock]
  have hd : (cs.drop ((i + 1) * 2)).length = n * 2 - (i + 1) * 2 := by (try simp); omega
  refine ⟨⟨by (try simp); omega, .inr ⟨g, _, rfl, heap_mapBlock _ hg, by omega, hm, by rw [writes_size, writes_size]; exact hs, ?_⟩⟩, turned_mapBlock (S := owned (some ⟨g, 0, none⟩)) ((Turned.refl _ w).drew) (fun _ => rfl) _, fun k hk => .inl hk⟩
  rw [writes_toList _ _ _ (by rw [writes_size]; (try simp); omega), writes_toList _ _ _ (by rw [hd]; (try simp); omega)]
  have h1 : cur.toList.take (i * 2) = cs.take (i * 2) := by rw [← ht, List.take_take, show min (i * 2) (n * 2) = i * 2 by omega]
  rw [h1]
  have h2 : (cs.take (i * 2) ++ cs.drop ((i + 1) * 2) ++ cur.toList.drop (i * 2 + (cs.drop ((i + 1) * 2)).length)).take ((n - 1) * 2) = cs.take (i * 2) ++ cs.drop ((i + 1) * 2) := take_len _ _ (by (try simp); omega)
  rw [h2, List.append_assoc]
  exact take_len _ _ (by (try simp); omega)
/-- One store, of two cells. -/
theorem rowB_set {w : World} {e : TypeId} {n : Nat} {cs : List Value} {g cap i : Nat} (vs : List Value) (hv : vs.length = 2) (h : RowB w e n cs (some ⟨g, 0, none⟩) cap) (hi : i < n) : RowB (w.setCells g (i * 2) vs) e n (cs.take (i * 2) ++ vs ++ cs.drop ((i + 1) * 2)) (some ⟨g, 0, none⟩) cap := by
  rcases h with ⟨hl, ⟨h, _⟩ | ⟨g', cur, h, hg, hn, hm, hs, ht⟩⟩
  · cases h
  · cases h
    rw [setCells_eq]
    refine ⟨by (try simp); omega, .inr ⟨g, _, rfl, heap_mapBlock _ hg, hn, hm, by rw [writes_size]; exact hs, ?_⟩⟩
    rw [writes_toList _ _ _ (by (try simp); omega), hv, show i * 2 + 2 = (i + 1) * 2 by omega]
    have h1 : cur.toList.take (i * 2) = cs.take (i * 2) := by rw [← ht, List.take_take, show min (i * 2) (n * 2) = i * 2 by omega]
    have h2 : (cur.toList.drop ((i + 1) * 2)).take (n * 2 - (i + 1) * 2) = cs.drop ((i + 1) * 2) := by rw [← ht, List.drop_take]
    rw [h1, List.take_append, List.take_of_length_le (by (try simp); omega)]
    have h3 : n * 2 - (cs.take (i * 2) ++ vs).length = n * 2 - (i + 1) * 2 := by (try simp); omega
    rw [h3, h2]
theorem heap_setCell {w : World} {b o : Nat} {c : Array Value} {e : TypeId} {fr : Nat × Nat} (x : Value) (h : w.heap[b]? = some (.cells c e fr)) : (w.setCell ⟨b, o, none⟩ x).heap[b]? = some (.cells (c.setIfInBounds o x) e fr) := by
  rw [setCell_eq]; exact heap_mapBlock _ h
theorem turned_setCell {S : Nat → Prop} {w w' : World} (ht : Turned S w w') {b o : Nat} (hb : b < w.heap.size → S b) (x : Value) : Turned S w (w'.setCell ⟨b, o, none⟩ x) := ht.setCell _ _ hb
/-- Both cells of a pair are written. -/
theorem heap_pair {w : World} {b : Nat} {x y u v : Value} {e : TypeId} (h : w.heap[b]? = some (.cells #[x, y] e (0, 0))) : ((w.setCell ⟨b, 0, none⟩ u).setCell ⟨b, 1, none⟩ v).heap[b]? = some (.cells #[u, v] e (0, 0)) := by
  have := heap_setCell (o := 1) v (heap_setCell (o := 0) u h)
  simpa using this
theorem more_pair {w w' : World} {b : Nat} (h : More w w') (hb : w.heap.size ≤ b) (u v : Value) : More w ((w'.setCell ⟨b, 0, none⟩ u).setCell ⟨b, 1, none⟩ v) :=
  turned_setCell (turned_setCell h (fun q => by omega) u) (fun q => by omega) v
end Go.Proofs.YtahejbahnhohcaaDoor
