/-
  A row of words that is written word by word; which words are the table's.
-/
import Derived.Test.YtjljkidlhlgefaaChunkStart
import Derived.Test.YtjljkidlhlgefaaChunkDone
namespace Go.Proofs.Ytjljkidlhlgefaa
open Go.RowKit Go.Sort Go.Maps Go.Shelf
set_option linter.unusedVariables false
set_option linter.unusedSimpArgs false

/-- At block g lie the words zs, with room for cap. -/
def Ws (w : World) (g cap : Nat) (zs : List Int) : Prop := ∃ cur : Array Value, w.heap[g]? = some (.cells cur 3 (0, 0)) ∧ zs.length ≤ cap ∧ cap ≤ maxLen ∧ cur.size = cap ∧ ∀ i, i < zs.length → cur[i]? = some (.int .i64 (zs.getD i 0))
theorem Ws.of_rw {w : World} {base g cap : Nat} {zs : List Int} (h : Rw base w (.slice (some ⟨g, 0, none⟩) zs.length cap) zs) : Ws w g cap zs := by
  rcases h.2 with ⟨q, _⟩ | ⟨g', cap', cur, q, hb, hg, h1, h2, h3, h4⟩
  · cases q
  · cases q
    refine ⟨cur, hg, h1, h2, by simpa using h3, fun i hi => ?_⟩
    have h5 : (cur.toList.take (zs.length * 1))[i]? = some (.int .i64 (zs.getD i 0)) := by
      rw [h4, List.getElem?_map, List.getElem?_eq_getElem hi]; simp [List.getD, hi]
    rw [List.getElem?_take, if_pos (by omega)] at h5
    simpa using h5
theorem Ws.rw' {w : World} {base g cap : Nat} {zs : List Int} (h : Ws w g cap zs) (hb : base ≤ g) : Rw base w (.slice (some ⟨g, 0, none⟩) zs.length cap) zs := by
  obtain ⟨cur, hg, h1, h2, h3, h4⟩ := h
  refine ⟨by simp, .inr ⟨g, cap, cur, rfl, hb, hg, h1, h2, by simpa using h3, ?_⟩⟩
  apply List.ext_getElem?
  intro i
  rw [List.getElem?_take]
  by_cases hi : i < zs.length
  · rw [if_pos (by omega), List.getElem?_map, List.getElem?_eq_getElem hi]
    have := h4 i hi
    simpa [List.getD, hi] using this
  · rw [if_neg (by omega)]
    simp [hi]
theorem Ws.cell {w : World} {g cap : Nat} {zs : List Int} (h : Ws w g cap zs) {i : Nat} (hi : i < zs.length) : w.cell? ⟨g, i, none⟩ = some (.int .i64 (zs.getD i 0)) := by
  obtain ⟨cur, hg, _, _, _, h4⟩ := h
  rw [cell_of_row w g i _ _ _ hg, h4 i hi]
theorem Ws.froz {w : World} {g cap : Nat} {zs : List Int} (h : Ws w g cap zs) (i : Nat) : w.frozen? ⟨g, i, none⟩ = false := by
  obtain ⟨cur, hg, _⟩ := h
  exact frozen_of_row w g i _ _ hg
theorem Ws.lt {w : World} {g cap : Nat} {zs : List Int} (h : Ws w g cap zs) : g < w.heap.size := by
  obtain ⟨cur, hg, _⟩ := h
  exact lt_of_heap hg
theorem Ws.keep {S : Nat → Prop} {w w' : World} {g cap : Nat} {zs : List Int} (h : Ws w g cap zs) (t : Turned S w w') (hs : ¬ S g) : Ws w' g cap zs := by
  obtain ⟨cur, hg, q⟩ := h
  exact ⟨cur, (t.block g (lt_of_heap hg) hs).trans hg, q⟩
theorem Ws.more {w w' : World} {g cap : Nat} {zs : List Int} (h : Ws w g cap zs) (t : More w w') : Ws w' g cap zs := by
  obtain ⟨cur, hg, q⟩ := h
  exact ⟨cur, t.block hg, q⟩
theorem Ws.set {w : World} {g cap : Nat} {zs : List Int} (h : Ws w g cap zs) {i : Nat} (hi : i < zs.length) (x : Int) : Ws (w.setCell ⟨g, i, none⟩ (.int .i64 x)) g cap (zs.set i x) := by
  obtain ⟨cur, hg, h1, h2, h3, h4⟩ := h
  refine ⟨_, heap_setCell _ hg, by simpa using h1, h2, by simpa using h3, fun j hj => ?_⟩
  have hj' : j < zs.length := by simpa using hj
  rw [Array.getElem?_setIfInBounds]
  by_cases e : i = j
  · subst e
    rw [if_pos rfl, if_pos (by omega)]
    simp [List.getD, hj']
  · rw [if_neg e, h4 j hj']
    simp [List.getD, List.getElem?_set_ne e]
theorem Ws.words {w : World} {g cap : Nat} {zs : List Int} (h : Ws w g cap zs) : IsWords w (some ⟨g, 0, none⟩) zs :=
  .inr ⟨g, 0, rfl, h.lt, fun i hi => by rw [Nat.zero_add]; exact h.cell hi⟩

/-- The first k of n words are set, to what ChunkOnly sets. -/
def setL (n k : Nat) : List Int := (List.range n).map (fun j => if j < k then (((j % 2 + j % 3 : Nat)) : Int) else 0)
theorem setL_len (n k : Nat) : (setL n k).length = n := by simp [setL]
theorem setL_zero (n : Nat) : setL n 0 = zeros n := by
  apply List.ext_getElem
  · simp [setL, zeros]
  · intro i h1 h2; simp [setL, zeros]
theorem setL_step (n k : Nat) (hk : k < n) : (setL n k).set k ((k % 2 + k % 3 : Nat) : Int) = setL n (k + 1) := by
  apply List.ext_getElem
  · simp [setL]
  · intro i h1 h2
    rw [List.getElem_set]
    by_cases e : k = i
    · subst e; simp [setL]
    · rw [if_neg e]
      simp only [setL, List.getElem_map, List.getElem_range]
      by_cases q : i < k
      · rw [if_pos q, if_pos (by omega)]
      · rw [if_neg q, if_neg (by omega)]
theorem setL_ok (n k : Nat) : OkW (setL n k) := fun x hx => by
  obtain ⟨j, _, rfl⟩ := List.mem_map.1 hx
  unfold W64
  split <;> omega

/-- The first k of the table's words are as they were; all words that are not the table's, too. -/
structure Back (pg st : Int) (zs xs : List Int) (k : Nat) : Prop where
  len : xs.length = zs.length
  eq : ∀ i : Int, 0 ≤ i → (∀ j, isChunk pg j = true → (k : Int) ≤ j → i ≠ tblV pg st j) → wAt xs i = wAt zs i
theorem Off.back {pg st : Int} {zs xs : List Int} (h : Off pg st zs xs) : Back pg st zs xs 0 := ⟨h.len, fun i h0 hk => h.eq i h0 (fun j hj => hk j hj (isChunk_iff.1 hj).1)⟩
theorem Back.step {pg st : Int} {n : Nat} (H : TblIn pg st n) {zs xs : List Int} {k : Nat} (h : Back pg st zs xs k) (hn : zs.length = n) (hk : isChunk pg k = true) : Back pg st zs (xs.set (tblV pg st k).toNat (wAt zs (tblV pg st k))) (k + 1) := by
  obtain ⟨t0, t1, t2⟩ := tbl_b H hk
  refine ⟨by simpa using h.len, fun i h0 hi => ?_⟩
  rw [wAt_set (by omega) h0 (by rw [h.len, hn]; exact t1)]
  split
  · rename_i e; rw [e]
  · rename_i e
    exact h.eq i h0 (fun j hj hkj q => by
      by_cases ej : j = k
      · subst ej; exact e q
      · exact hi j hj (by omega) q)
theorem Back.fin {pg st : Int} {zs xs : List Int} {k : Nat} (h : Back pg st zs xs k) (hk : chunksV pg ≤ k) : xs = zs :=
  words_ext h.len (fun i h0 _ => h.eq i h0 (fun j hj hkj => by have := (isChunk_iff.1 hj).2; omega))
end Go.Proofs.Ytjljkidlhlgefaa
