/-
  What the statements' steps tell.
-/
import Derived.Test.YtogfikemodaepaaGreatChunkCnt
import Derived.Test.YtogfikemodaepaaGreatChunkStart
namespace Go.Proofs.YtogfikemodaepaaGreat
open Go.RowKit Go.Sort Go.Maps Go.Shelf
set_option linter.unusedVariables false
set_option linter.unusedSimpArgs false

def b2i (b : Bool) : Int := if b then 1 else 0
/-- A step, as a program. -/
def doneP (pg st kind k n : Int) : Prg Int :=
  if kind = 0 then bindP (turnP pg st k 1) (fun y => pureP (b2i (decide (0 < y))))
  else if kind = 1 then bindP (turnP pg st k 0) (fun y => pureP (b2i (decide (0 < y))))
  else if kind = 2 then bindP (mappedP pg st k) (fun b => pureP (b2i b))
  else if kind = 3 then bindP (coversP pg st k n) (fun b => pureP (b2i b))
  else if kind = 4 then ensureP pg st k n
  else countP pg st
theorem bind_map {α β : Type} (p : Prg α) (f : α → β) (kn : Int → Option Int) (D : List KV) : bindP p (fun x => pureP (f x)) kn D = mapR f (p kn D) := by
  unfold bindP pureP mapR
  cases p kn D <;> rfl
theorem mapR_map {α β γ : Type} (f : α → β) (g : β → γ) (R : Res α) : mapR g (mapR f R) = mapR (fun x => g (f x)) R := by cases R <;> rfl
theorem done_out {w w' : World} {F : Nat → Prop} {p : Nat} {kn : Int → Option Int} {Rb : Res Bool} {e : Ending} (he : WentV w F p kn (fun b => .bool b) Rb e w') :
    (e = .panicked (endOf p) ∧ WentV w F p kn (fun s => .int .i64 s) (mapR b2i Rb) e w') ∨ ∃ b, e = .returned (.bool b) ∧ WentV w F p kn (fun s => .int .i64 s) (mapR b2i Rb) (.returned (.int .i64 (b2i b))) w' := by
  rcases went_cases he with ⟨a, hR, rfl⟩ | ⟨b, D, hR, rfl⟩
  · exact .inl ⟨rfl, WentV.mapN _ hR he⟩
  · exact .inr ⟨b, rfl, WentV.map (val' := fun s : Int => Value.int .i64 s) b2i hR he⟩

/-- Over words. -/
def coversW (pg st x y : Int) (ws : List Int) : Bool := if thereB pg x y then coversV pg st (spanV x y) (x / 4) ws else false
def ensureW (pg st x y : Int) (ws : List Int) : Int × List Int := if thereB pg x y then ensureV pg st (spanV x y) (x / 4) 0 ws else (0, ws)
def countW (pg st : Int) (ws : List Int) : Int := countV pg st (chunksV pg).toNat 0 0 ws
def doneV (pg st kind k y : Int) (ws : List Int) : Int × List Int :=
  if kind = 0 then (b2i (decide (0 < (turnV pg st k 1 ws).1)), (turnV pg st k 1 ws).2)
  else if kind = 1 then (b2i (decide (0 < (turnV pg st k 0 ws).1)), (turnV pg st k 0 ws).2)
  else if kind = 2 then (b2i (mappedV pg st ws k), ws)
  else if kind = 3 then (b2i (coversW pg st k y ws), ws)
  else if kind = 4 then ensureW pg st k y ws
  else (countW pg st ws, ws)
section
variable {pg st : Int} {n : Nat} (H : TblIn pg st n)
include H
theorem good_covers (x y : Int) : Good n (fun _ => True) (coversP pg st x y) := by
  unfold coversP; split
  · exact good_coversN H _ _
  · exact good_pure n trivial
theorem good_ensure (x y : Int) : Good n (fun _ => True) (ensureP pg st x y) := by
  unfold ensureP; split
  · exact good_imp (good_ensureN H _ _ 0 (by omega)) (fun _ _ => trivial)
  · exact good_pure n trivial
theorem good_count : Good n (fun _ => True) (countP pg st) := good_imp (good_countN H _ _ 0 (by omega)) (fun _ _ => trivial)
theorem flat_covers (x y : Int) : Flat n (coversP pg st x y) (fun ws => (coversW pg st x y ws, ws)) := by
  unfold coversP coversW; split
  · exact flat_coversN H _ _
  · exact flat_pure n false
theorem flat_ensure (x y : Int) : Flat n (ensureP pg st x y) (ensureW pg st x y) := by
  unfold ensureP
  split
  · rename_i h
    exact flat_eq (flat_ensureN H _ _ 0) (fun ws _ => by unfold ensureW; rw [if_pos h])
  · rename_i h
    exact flat_eq (flat_pure n 0) (fun ws _ => by unfold ensureW; rw [if_neg h])
theorem flat_count : Flat n (countP pg st) (fun ws => (countW pg st ws, ws)) := flat_countN H _ _ _
theorem good_done (kind k y : Int) : Good n (fun _ => True) (doneP pg st kind k y) := by
  unfold doneP
  split
  · exact good_bind (good_turn H k 1 (by unfold W64; omega)) (fun x _ => good_pure n trivial)
  split
  · exact good_bind (good_turn H k 0 (by unfold W64; omega)) (fun x _ => good_pure n trivial)
  split
  · exact good_bind (good_mapped H k) (fun x _ => good_pure n trivial)
  split
  · exact good_bind (good_covers H k y) (fun x _ => good_pure n trivial)
  split
  · exact good_ensure H k y
  · exact good_count H
theorem flat_done (kind k y : Int) : Flat n (doneP pg st kind k y) (doneV pg st kind k y) := by
  unfold doneP
  split
  · rename_i h
    exact flat_eq (flat_bind (flat_turn H k 1 (by unfold W64; omega)) (fun x => flat_pure n (b2i (decide (0 < x))))) (fun ws _ => by unfold doneV; rw [if_pos h])
  split
  · rename_i h0 h
    exact flat_eq (flat_bind (flat_turn H k 0 (by unfold W64; omega)) (fun x => flat_pure n (b2i (decide (0 < x))))) (fun ws _ => by unfold doneV; rw [if_neg h0, if_pos h])
  split
  · rename_i h0 h1 h
    exact flat_eq (flat_bind (flat_mapped H k) (fun x => flat_pure n (b2i x))) (fun ws _ => by unfold doneV; rw [if_neg h0, if_neg h1, if_pos h])
  split
  · rename_i h0 h1 h2 h
    exact flat_eq (flat_bind (flat_covers H k y) (fun x => flat_pure n (b2i x))) (fun ws _ => by unfold doneV; rw [if_neg h0, if_neg h1, if_neg h2, if_pos h])
  split
  · rename_i h0 h1 h2 h3 h
    exact flat_eq (flat_ensure H k y) (fun ws _ => by unfold doneV; rw [if_neg h0, if_neg h1, if_neg h2, if_neg h3, if_pos h])
  · rename_i h0 h1 h2 h3 h4
    exact flat_eq (flat_count H) (fun ws _ => by unfold doneV; rw [if_neg h0, if_neg h1, if_neg h2, if_neg h3, if_neg h4])
end
theorem sound_done (pg st kind k y : Int) : Sound (doneP pg st kind k y) := by
  unfold doneP
  refine sound_ite (sound_bind (sound_turn _ _ _ _) (fun _ => sound_pure _)) (sound_ite (sound_bind (sound_turn _ _ _ _) (fun _ => sound_pure _)) (sound_ite (sound_bind (sound_mapped _ _ _) (fun _ => sound_pure _)) (sound_ite (sound_bind (sound_covers _ _ _ _) (fun _ => sound_pure _)) (sound_ite (sound_ensure _ _ _ _) (sound_count _ _)))))

/-- No word but the table's. -/
structure Off (pg st : Int) (ws ws' : List Int) : Prop where
  len : ws'.length = ws.length
  ok : OkW ws → OkW ws'
  eq : ∀ i : Int, 0 ≤ i → (∀ k, isChunk pg k = true → i ≠ tblV pg st k) → wAt ws' i = wAt ws i
theorem Off.refl (pg st : Int) (ws : List Int) : Off pg st ws ws := ⟨rfl, id, fun _ _ _ => rfl⟩
theorem Off.trans {pg st : Int} {a b c : List Int} (h : Off pg st a b) (g : Off pg st b c) : Off pg st a c := ⟨g.len.trans h.len, fun q => g.ok (h.ok q), fun i h0 hk => (g.eq i h0 hk).trans (h.eq i h0 hk)⟩
theorem off_turn {pg st : Int} {n : Nat} (H : TblIn pg st n) (k x : Int) (hx : W64 x) (ws : List Int) (hn : ws.length = n) : Off pg st ws (turnV pg st k x ws).2 := by
  refine ⟨turn_len _ _ _ _ _, turn_ok _ _ _ _ hx _, fun i h0 hk => ?_⟩
  unfold turnV
  split
  · rename_i h
    split
    · rfl
    · obtain ⟨t0, t1, t2⟩ := tbl_b H h
      show wAt (ws.set _ x) i = _
      rw [wAt_set (by omega) h0 (by omega), if_neg (hk k h)]
  · rfl
theorem off_ensure {pg st : Int} {n : Nat} (H : TblIn pg st n) (m : Nat) : ∀ (k s : Int) (ws : List Int), ws.length = n → Off pg st ws (ensureV pg st m k s ws).2 := by
  induction m with
  | zero => intro k s ws _; exact Off.refl _ _ _
  | succ m ih =>
    intro k s ws hn
    have h1 := off_turn H k 1 (by unfold W64; omega) ws hn
    exact h1.trans (ih (k + 1) _ _ (h1.len.trans hn))
theorem off_done {pg st : Int} {n : Nat} (H : TblIn pg st n) (kind k y : Int) (ws : List Int) (hn : ws.length = n) : Off pg st ws (doneV pg st kind k y ws).2 := by
  unfold doneV
  split
  · exact off_turn H k 1 (by unfold W64; omega) ws hn
  split
  · exact off_turn H k 0 (by unfold W64; omega) ws hn
  split
  · exact Off.refl _ _ _
  split
  · exact Off.refl _ _ _
  split
  · unfold ensureW; split
    · exact off_ensure H _ _ _ _ hn
    · exact Off.refl _ _ _
  · exact Off.refl _ _ _
end Go.Proofs.YtogfikemodaepaaGreat

namespace Go.Proofs.YtogfikemodaepaaGreat
open Go.RowKit Go.Sort Go.Maps Go.Shelf
set_option linter.unusedVariables false
set_option linter.unusedSimpArgs false

/-- At block g lie the words zs, with room for cap. -/
def Ws (w : World) (g cap : Nat) (zs : List Int) : Prop := ∃ cur : Array Value, w.heap[g]? = some (.cells cur 3 (0, 0)) ∧ zs.length ≤ cap ∧ cap ≤ maxLen ∧ cur.size = cap ∧ ∀ i, i < zs.length → cur[i]? = some (.int .i64 (zs.getD i 0))
theorem Ws.of_rw {w : World} {base g cap : Nat} {zs : List Int} (h : Rw base w (.slice (some ⟨g, 0, none⟩) zs.length cap) zs) : Ws w g cap zs := by
  rcases h.2 with ⟨q, _⟩ | ⟨g', cap', cur, q, hb, hg, h1, h2, h3, h4⟩
  · cases q
  · cases q
    refine ⟨cur, hg, h1, h2, by simpa using h3, fun i hi => ?_⟩
    have h5 : (cur.toList.take (zs.length * 1))[i]? = some (.int .i64 (zs.getD i 0)) := by
      rw [h4, List.getElem?_map, List.getElem?_eq_getElem hi]; simp [List.getD, hi]
    rw [List.getElem?_take, if_pos (by omega)] at h5
    simpa using h5
theorem Ws.rw' {w : World} {base g cap : Nat} {zs : List Int} (h : Ws w g cap zs) (hb : base ≤ g) : Rw base w (.slice (some ⟨g, 0, none⟩) zs.length cap) zs := by
  obtain ⟨cur, hg, h1, h2, h3, h4⟩ := h
  refine ⟨by simp, .inr ⟨g, cap, cur, rfl, hb, hg, h1, h2, by simpa using h3, ?_⟩⟩
  apply List.ext_getElem?
  intro i
  rw [List.getElem?_take]
  by_cases hi : i < zs.length
  · rw [if_pos (by omega), List.getElem?_map, List.getElem?_eq_getElem hi]
    have := h4 i hi
    simpa [List.getD, hi] using this
  · rw [if_neg (by omega)]
    simp [hi]
theorem Ws.cell {w : World} {g cap : Nat} {zs : List Int} (h : Ws w g cap zs) {i : Nat} (hi : i < zs.length) : w.cell? ⟨g, i, none⟩ = some (.int .i64 (zs.getD i 0)) := by
  obtain ⟨cur, hg, _, _, _, h4⟩ := h
  rw [cell_of_row w g i _ _ _ hg, h4 i hi]
theorem Ws.froz {w : World} {g cap : Nat} {zs : List Int} (h : Ws w g cap zs) (i : Nat) : w.frozen? ⟨g, i, none⟩ = false := by
  obtain ⟨cur, hg, _⟩ := h
  exact frozen_of_row w g i _ _ hg
theorem Ws.lt {w : World} {g cap : Nat} {zs : List Int} (h : Ws w g cap zs) : g < w.heap.size := by
  obtain ⟨cur, hg, _⟩ := h
  exact lt_of_heap hg
theorem Ws.keep {S : Nat → Prop} {w w' : World} {g cap : Nat} {zs : List Int} (h : Ws w g cap zs) (t : Turned S w w') (hs : ¬ S g) : Ws w' g cap zs := by
  obtain ⟨cur, hg, q⟩ := h
  exact ⟨cur, (t.block g (lt_of_heap hg) hs).trans hg, q⟩
theorem Ws.more {w w' : World} {g cap : Nat} {zs : List Int} (h : Ws w g cap zs) (t : More w w') : Ws w' g cap zs := by
  obtain ⟨cur, hg, q⟩ := h
  exact ⟨cur, t.block hg, q⟩
theorem Ws.set {w : World} {g cap : Nat} {zs : List Int} (h : Ws w g cap zs) {i : Nat} (hi : i < zs.length) (x : Int) : Ws (w.setCell ⟨g, i, none⟩ (.int .i64 x)) g cap (zs.set i x) := by
  obtain ⟨cur, hg, h1, h2, h3, h4⟩ := h
  refine ⟨_, heap_setCell _ hg, by simpa using h1, h2, by simpa using h3, fun j hj => ?_⟩
  have hj' : j < zs.length := by simpa using hj
  rw [Array.getElem?_setIfInBounds]
  by_cases e : i = j
  · subst e
    rw [if_pos rfl, if_pos (by omega)]
    simp [List.getD, hj']
  · rw [if_neg e, h4 j hj']
    simp [List.getD, List.getElem?_set_ne e]
theorem Ws.words {w : World} {g cap : Nat} {zs : List Int} (h : Ws w g cap zs) : IsWords w (some ⟨g, 0, none⟩) zs :=
  .inr ⟨g, 0, rfl, h.lt, fun i hi => by rw [Nat.zero_add]; exact h.cell hi⟩

/-- The first k of n words are set, to what ChunkOnly sets. -/
def setL (n k : Nat) : List Int := (List.range n).map (fun j => if j < k then (((j % 2 + j % 3 : Nat)) : Int) else 0)
theorem setL_len (n k : Nat) : (setL n k).length = n := by simp [setL]
theorem setL_zero (n : Nat) : setL n 0 = zeros n := by
  apply List.ext_getElem
  · simp [setL, zeros]
  · intro i h1 h2; simp [setL, zeros]
theorem setL_step (n k : Nat) (hk : k < n) : (setL n k).set k ((k % 2 + k % 3 : Nat) : Int) = setL n (k + 1) := by
  apply List.ext_getElem
  · simp [setL]
  · intro i h1 h2
    rw [List.getElem_set]
    by_cases e : k = i
    · subst e; simp [setL]
    · rw [if_neg e]
      simp only [setL, List.getElem_map, List.getElem_range]
      by_cases q : i < k
      · rw [if_pos q, if_pos (by omega)]
      · rw [if_neg q, if_neg (by omega)]
theorem setL_ok (n k : Nat) : OkW (setL n k) := fun x hx => by
  obtain ⟨j, _, rfl⟩ := List.mem_map.1 hx
  unfold W64
  split <;> omega

/-- The first k of the table's words are as they were; all words that are not the table's, too. -/
structure Back (pg st : Int) (zs xs : List Int) (k : Nat) : Prop where
  len : xs.length = zs.length
  eq : ∀ i : Int, 0 ≤ i → (∀ j, isChunk pg j = true → (k : Int) ≤ j → i ≠ tblV pg st j) → wAt xs i = wAt zs i
theorem Off.back {pg st : Int} {zs xs : List Int} (h : Off pg st zs xs) : Back pg st zs xs 0 := ⟨h.len, fun i h0 hk => h.eq i h0 (fun j hj => hk j hj (isChunk_iff.1 hj).1)⟩
theorem Back.step {pg st : Int} {n : Nat} (H : TblIn pg st n) {zs xs : List Int} {k : Nat} (h : Back pg st zs xs k) (hn : zs.length = n) (hk : isChunk pg k = true) : Back pg st zs (xs.set (tblV pg st k).toNat (wAt zs (tblV pg st k))) (k + 1) := by
  obtain ⟨t0, t1, t2⟩ := tbl_b H hk
  refine ⟨by simpa using h.len, fun i h0 hi => ?_⟩
  rw [wAt_set (by omega) h0 (by rw [h.len, hn]; exact t1)]
  split
  · rename_i e; rw [e]
  · rename_i e
    exact h.eq i h0 (fun j hj hkj q => by
      by_cases ej : j = k
      · subst ej; exact e q
      · exact hi j hj (by omega) q)
theorem Back.fin {pg st : Int} {zs xs : List Int} {k : Nat} (h : Back pg st zs xs k) (hk : chunksV pg ≤ k) : xs = zs :=
  words_ext h.len (fun i h0 _ => h.eq i h0 (fun j hj hkj => by have := (isChunk_iff.1 hj).2; omega))
end Go.Proofs.YtogfikemodaepaaGreat

namespace Go.Proofs.YtogfikemodaepaaGreat
set_option linter.unusedVariables false
set_option linter.unusedSimpArgs false

/-- How many of the first p pages are mapped. -/
def pagesC (pg st : Int) (ws : List Int) : Nat → Int
  | 0 => 0
  | p + 1 => pagesC pg st ws p + if mappedV pg st ws ((p : Int) / 4) then 1 else 0
theorem pagesC_in (pg st : Int) (ws : List Int) (k j : Nat) (hj : j ≤ 4) : pagesC pg st ws (4 * k + j) = pagesC pg st ws (4 * k) + if mappedV pg st ws (k : Int) then (j : Int) else 0 := by
  induction j with
  | zero => simp
  | succ j ih =>
    have hq : (((4 * k + j : Nat) : Int)) / 4 = (k : Int) := by omega
    show pagesC pg st ws (4 * k + j) + (if mappedV pg st ws (((4 * k + j : Nat) : Int) / 4) then 1 else 0) = _
    rw [ih (by omega), hq]
    split <;> omega
theorem countV_pages (pg st : Int) (ws : List Int) (hp : 1 ≤ pg) (m : Nat) : ∀ (k : Nat) (s : Int), ((k + m : Nat) : Int) = chunksV pg → s = pagesC pg st ws (min (4 * k) pg.toNat) → countV pg st m (k : Int) s ws = pagesC pg st ws pg.toNat := by
  induction m with
  | zero =>
    intro k s hk hs
    unfold chunksV at hk
    rw [show min (4 * k) pg.toNat = pg.toNat by omega] at hs
    exact hs
  | succ m ih =>
    intro k s hk hs
    have hc : isChunk pg (k : Int) = true := isChunk_iff.2 ⟨by omega, by omega⟩
    have hlt : 4 * (k : Int) < pg := by unfold chunksV at hk; omega
    show countV pg st m ((k : Int) + 1) _ ws = _
    have := ih (k + 1) (s + if mappedV pg st ws (k : Int) then sizeV pg (k : Int) else 0) (by omega) ?_
    · rw [show (((k + 1 : Nat)) : Int) = (k : Int) + 1 by omega] at this
      exact this
    · rw [hs, show min (4 * k) pg.toNat = 4 * k by omega]
      have hz : sizeV pg (k : Int) = ((min 4 (pg.toNat - 4 * k) : Nat) : Int) := by unfold sizeV; rw [if_pos hc]; omega
      rw [show min (4 * (k + 1)) pg.toNat = 4 * k + min 4 (pg.toNat - 4 * k) by omega, pagesC_in pg st ws k _ (by omega), hz]
theorem count_pages (pg st : Int) (ws : List Int) (hp : 1 ≤ pg) : pagesC pg st ws pg.toNat = countW pg st ws := by
  have h : 0 ≤ chunksV pg := by unfold chunksV; omega
  have := countV_pages pg st ws hp (chunksV pg).toNat 0 0 (by omega) (by simp [pagesC])
  unfold countW
  exact this.symm
theorem pagesC_b (pg st : Int) (ws : List Int) (p : Nat) : 0 ≤ pagesC pg st ws p ∧ pagesC pg st ws p ≤ p := by
  induction p with
  | zero => simp [pagesC]
  | succ p ih => unfold pagesC; split <;> omega

theorem coversV_iff (pg st : Int) (ws : List Int) (m : Nat) : ∀ k : Int, coversV pg st m k ws = true ↔ ∀ i : Nat, i < m → mappedV pg st ws (k + i) = true := by
  induction m with
  | zero => intro k; simp [coversV]
  | succ m ih =>
    intro k
    unfold coversV
    rw [Bool.and_eq_true, ih]
    constructor
    · rintro ⟨h0, h1⟩ i hi
      cases i with
      | zero => simpa using h0
      | succ i => have := h1 i (by omega); rw [show k + ((i + 1 : Nat) : Int) = k + 1 + (i : Int) by omega]; exact this
    · intro h
      refine ⟨by simpa using h 0 (by omega), fun i hi => ?_⟩
      have := h (i + 1) (by omega)
      rwa [show k + ((i + 1 : Nat) : Int) = k + 1 + (i : Int) by omega] at this
theorem covers_pages {pg st x y : Int} (ws : List Int) (h : thereB pg x y = true) (h2 : pg ≤ 256) : coversW pg st x y ws = true ↔ ∀ i : Int, x ≤ i → i < x + y → mappedV pg st ws (i / 4) = true := by
  obtain ⟨s1, s2⟩ := span_b h h2
  obtain ⟨q0, q1, q2⟩ := there_iff.1 h
  unfold coversW
  rw [if_pos h, coversV_iff]
  constructor
  · intro hh i h0 h1
    have := hh ((i / 4 - x / 4).toNat) (by omega)
    rwa [show x / 4 + (((i / 4 - x / 4).toNat : Nat) : Int) = i / 4 by omega] at this
  · intro hh j hj
    have := hh (max x (4 * (x / 4 + (j : Int)))) (by omega) (by omega)
    rwa [show (max x (4 * (x / 4 + (j : Int)))) / 4 = x / 4 + (j : Int) by omega] at this

/-- Where a word is set to 1, and nowhere else, are they unlike. -/
structure Ones (ws ws' : List Int) (S : Int → Prop) : Prop where
  len : ws'.length = ws.length
  eq : ∀ i : Int, 0 ≤ i → (S i → wAt ws' i = 1) ∧ (¬ S i → wAt ws' i = wAt ws i)
theorem Ones.uniq {ws a b : List Int} {S T : Int → Prop} (h : Ones ws a S) (g : Ones ws b T) (e : ∀ i, S i ↔ T i) : a = b :=
  words_ext (h.len.trans g.len.symm) (fun i h0 _ => by
    by_cases q : S i
    · rw [(h.eq i h0).1 q, (g.eq i h0).1 ((e i).1 q)]
    · rw [(h.eq i h0).2 q, (g.eq i h0).2 (fun r => q ((e i).2 r))])
theorem ones_refl (ws : List Int) (S : Int → Prop) (h : ∀ i, ¬ S i) : Ones ws ws S := ⟨rfl, fun i _ => ⟨fun q => absurd q (h i), fun _ => rfl⟩⟩
theorem ones_turn {pg st : Int} {n : Nat} (H : TblIn pg st n) {ws a : List Int} {S : Int → Prop} (h : Ones ws a S) (hn : ws.length = n) {k : Int} (hk : isChunk pg k = true) : Ones ws (turnV pg st k 1 a).2 (fun i => S i ∨ i = tblV pg st k) := by
  obtain ⟨t0, t1, t2⟩ := tbl_b H hk
  have hv : ∀ i : Int, 0 ≤ i → wAt (turnV pg st k 1 a).2 i = if i = tblV pg st k then 1 else wAt a i := fun i h0 => by
    unfold turnV
    rw [if_pos hk]
    split
    · rename_i q
      have : wAt a (tblV pg st k) = 1 := by
        unfold mappedV at q; rw [hk] at q; simpa using q
      split
      · rename_i e; rw [e]; exact this
      · rfl
    · rw [show (sizeV pg k, a.set (tblV pg st k).toNat 1).2 = a.set (tblV pg st k).toNat 1 from rfl, wAt_set (by omega) h0 (by rw [h.len, hn]; exact t1)]
  refine ⟨by rw [turn_len]; exact h.len, fun i h0 => ⟨fun q => ?_, fun q => ?_⟩⟩
  · rw [hv i h0]
    split
    · rfl
    · rename_i e; exact (h.eq i h0).1 (q.resolve_right e)
  · rw [hv i h0, if_neg (fun e => q (.inr e))]
    exact (h.eq i h0).2 (fun r => q (.inl r))
theorem ones_ensure {pg st : Int} {n : Nat} (H : TblIn pg st n) (m : Nat) : ∀ (k s : Int) (ws a : List Int) (S : Int → Prop), ws.length = n → Ones ws a S → (∀ i : Nat, i < m → isChunk pg (k + i) = true) → Ones ws (ensureV pg st m k s a).2 (fun i => S i ∨ ∃ j : Nat, j < m ∧ i = tblV pg st (k + j)) := by
  induction m with
  | zero =>
    intro k s ws a S hn h hc
    exact ⟨h.len, fun i h0 => ⟨fun q => by rcases q with q | ⟨j, hj, _⟩; exact (h.eq i h0).1 q; omega, fun q => (h.eq i h0).2 (fun r => q (.inl r))⟩⟩
  | succ m ih =>
    intro k s ws a S hn h hc
    have h1 := ones_turn H h hn (by simpa using hc 0 (by omega))
    have h2 := ih (k + 1) (s + (turnV pg st k 1 a).1) ws _ _ hn h1 (fun i hi => by have := hc (i + 1) (by omega); rwa [show k + ((i + 1 : Nat) : Int) = k + 1 + (i : Int) by omega] at this)
    refine ⟨h2.len, fun i h0 => ?_⟩
    have e : (S i ∨ ∃ j : Nat, j < m + 1 ∧ i = tblV pg st (k + j)) ↔ ((S i ∨ i = tblV pg st k) ∨ ∃ j : Nat, j < m ∧ i = tblV pg st (k + 1 + j)) := by
      constructor
      · rintro (q | ⟨j, hj, q⟩)
        · exact .inl (.inl q)
        · cases j with
          | zero => exact .inl (.inr (by simpa using q))
          | succ j => exact .inr ⟨j, by omega, by rw [q]; congr 1; omega⟩
      · rintro ((q | q) | ⟨j, hj, q⟩)
        · exact .inl q
        · exact .inr ⟨0, by omega, by simpa using q⟩
        · exact .inr ⟨j + 1, by omega, by rw [q]; congr 1; omega⟩
    exact ⟨fun q => (h2.eq i h0).1 (e.1 q), fun q => (h2.eq i h0).2 (fun r => q (e.2 r))⟩
/-- Page by page. -/
theorem ones_pages {pg st x y : Int} {n : Nat} (H : TblIn pg st n) {ws a : List Int} (hn : ws.length = n) (h : thereB pg x y = true) (ha : Ones ws a (fun i => ∃ q : Int, x ≤ q ∧ q < x + y ∧ i = tblV pg st (q / 4))) : a = (ensureW pg st x y ws).2 := by
  obtain ⟨s1, s2⟩ := span_b h H.pg2
  obtain ⟨q0, q1, q2⟩ := there_iff.1 h
  have h2 := ones_ensure H (spanV x y) (x / 4) 0 ws ws (fun _ => False) hn (ones_refl ws _ (fun _ q => q)) (fun i hi => span_in h i hi)
  unfold ensureW
  rw [if_pos h]
  refine ha.uniq h2 (fun i => ⟨?_, ?_⟩)
  · rintro ⟨q, h0, h1, rfl⟩
    exact .inr ⟨(q / 4 - x / 4).toNat, by omega, by congr 1; omega⟩
  · rintro (q | ⟨j, hj, rfl⟩)
    · exact q.elim
    · exact ⟨max x (4 * (x / 4 + (j : Int))), by omega, by omega, by congr 1; omega⟩

/-- What a turned chunk does to the count. -/
theorem mapped_set {pg st : Int} {n : Nat} (H : TblIn pg st n) {ws : List Int} (hn : ws.length = n) {k j : Int} (x : Int) (hk : isChunk pg k = true) (hj : isChunk pg j = true) : mappedV pg st (ws.set (tblV pg st k).toNat x) j = if j = k then decide (x = 1) else mappedV pg st ws j := by
  obtain ⟨t0, t1, t2⟩ := tbl_b H hk
  obtain ⟨u0, u1, u2⟩ := tbl_b H hj
  unfold mappedV
  rw [hj, wAt_set (by omega) (by omega) (by rw [hn]; exact t1)]
  by_cases e : j = k
  · subst e; simp
  · have : tblV pg st j ≠ tblV pg st k := by rw [tbl_in hj, tbl_in hk]; omega
    rw [if_neg this, if_neg e]
theorem countV_set {pg st : Int} {n : Nat} (H : TblIn pg st n) {ws : List Int} (hn : ws.length = n) {k : Int} (x : Int) (hk : isChunk pg k = true) (m : Nat) : ∀ (j : Nat) (s d : Int), ((j + m : Nat) : Int) ≤ chunksV pg →
    countV pg st m (j : Int) (s + d) (ws.set (tblV pg st k).toNat x) = countV pg st m (j : Int) s ws + d + (if (j : Int) ≤ k ∧ k < (j : Int) + (m : Int) then ((if decide (x = 1) then sizeV pg k else 0) - (if mappedV pg st ws k then sizeV pg k else 0)) else 0) := by
  induction m with
  | zero => intro j s d hj; rw [if_neg (by omega)]; simp [countV]
  | succ m ih =>
    intro j s d hj
    have hc : isChunk pg (j : Int) = true := isChunk_iff.2 ⟨by omega, by omega⟩
    show countV pg st m ((j : Int) + 1) (s + d + (if mappedV pg st (ws.set (tblV pg st k).toNat x) (j : Int) then sizeV pg (j : Int) else 0)) (ws.set (tblV pg st k).toNat x) = countV pg st m ((j : Int) + 1) (s + (if mappedV pg st ws (j : Int) then sizeV pg (j : Int) else 0)) ws + d + (if (j : Int) ≤ k ∧ k < (j : Int) + ((m + 1 : Nat) : Int) then ((if decide (x = 1) then sizeV pg k else 0) - (if mappedV pg st ws k then sizeV pg k else 0)) else 0)
    rw [mapped_set H hn x hk hc]
    have hI := fun s d => ih (j + 1) s d (by omega)
    rw [show (((j + 1 : Nat)) : Int) = (j : Int) + 1 by omega] at hI
    by_cases e : (j : Int) = k
    · have hneg : ¬ ((j : Int) + 1 ≤ k ∧ k < (j : Int) + 1 + (m : Int)) := by omega
      have hpos : (j : Int) ≤ k ∧ k < (j : Int) + ((m + 1 : Nat) : Int) := by omega
      rw [if_pos e, if_pos hpos]
      rw [show s + d + (if decide (x = 1) = true then sizeV pg (j : Int) else 0) = (s + if mappedV pg st ws (j : Int) = true then sizeV pg (j : Int) else 0) + (d + (if decide (x = 1) = true then sizeV pg (j : Int) else 0) - (if mappedV pg st ws (j : Int) = true then sizeV pg (j : Int) else 0)) by omega, hI]
      rw [if_neg hneg, ← e]
      omega
    · rw [if_neg e]
      rw [show s + d + (if mappedV pg st ws (j : Int) = true then sizeV pg (j : Int) else 0) = (s + if mappedV pg st ws (j : Int) = true then sizeV pg (j : Int) else 0) + d by omega, hI]
      by_cases q : (j : Int) + 1 ≤ k ∧ k < (j : Int) + 1 + (m : Int)
      · have hpos : (j : Int) ≤ k ∧ k < (j : Int) + ((m + 1 : Nat) : Int) := by omega
        rw [if_pos q, if_pos hpos]
      · have hneg : ¬ ((j : Int) ≤ k ∧ k < (j : Int) + ((m + 1 : Nat) : Int)) := by omega
        rw [if_neg q, if_neg hneg]
theorem count_set {pg st : Int} {n : Nat} (H : TblIn pg st n) {ws : List Int} (hn : ws.length = n) {k : Int} (x : Int) (hk : isChunk pg k = true) :
    countW pg st (ws.set (tblV pg st k).toNat x) = countW pg st ws + ((if decide (x = 1) then sizeV pg k else 0) - (if mappedV pg st ws k then sizeV pg k else 0)) := by
  obtain ⟨h0, h1⟩ := isChunk_iff.1 hk
  have hpos : ((0 : Nat) : Int) ≤ k ∧ k < ((0 : Nat) : Int) + ((chunksV pg).toNat : Int) := by omega
  have := countV_set H hn x hk (chunksV pg).toNat 0 0 0 (by omega)
  rw [if_pos hpos] at this
  unfold countW
  simpa using this
/-- Turned on, and off. -/
theorem count_on {pg st : Int} {n : Nat} (H : TblIn pg st n) {ws : List Int} (hn : ws.length = n) (k : Int) : countW pg st (turnV pg st k 1 ws).2 = countW pg st ws + (turnV pg st k 1 ws).1 := by
  unfold turnV
  split
  · rename_i hk
    split
    · simp
    · rename_i q
      show countW pg st (ws.set (tblV pg st k).toNat 1) = countW pg st ws + sizeV pg k
      rw [count_set H hn 1 hk]
      have : mappedV pg st ws k = false := by simpa using q
      rw [this]; simp
  · simp
theorem count_off {pg st : Int} {n : Nat} (H : TblIn pg st n) {ws : List Int} (hn : ws.length = n) (k : Int) : countW pg st (turnV pg st k 0 ws).2 = countW pg st ws - (turnV pg st k 0 ws).1 := by
  unfold turnV
  split
  · rename_i hk
    split
    · simp
    · rename_i q
      show countW pg st (ws.set (tblV pg st k).toNat 0) = countW pg st ws - sizeV pg k
      rw [count_set H hn 0 hk]
      have : mappedV pg st ws k = true := by simpa using q
      rw [this]; simp; omega
  · simp
theorem count_ensureN {pg st : Int} {n : Nat} (H : TblIn pg st n) (m : Nat) : ∀ (k s : Int) (ws : List Int), ws.length = n → countW pg st (ensureV pg st m k s ws).2 = countW pg st ws + ((ensureV pg st m k s ws).1 - s) := by
  induction m with
  | zero => intro k s ws hn; simp [ensureV]
  | succ m ih =>
    intro k s ws hn
    unfold ensureV
    rw [ih _ _ _ (by rw [turn_len]; exact hn), count_on H hn]
    omega
theorem count_ensure {pg st : Int} {n : Nat} (H : TblIn pg st n) (x y : Int) (ws : List Int) (hn : ws.length = n) : countW pg st (ensureW pg st x y ws).2 = countW pg st ws + (ensureW pg st x y ws).1 := by
  unfold ensureW
  split
  · rw [count_ensureN H _ _ _ _ hn]; omega
  · simp
theorem count_b {pg st : Int} (ws : List Int) (h1 : 1 ≤ pg) (h2 : pg ≤ 256) : 0 ≤ countW pg st ws ∧ countW pg st ws ≤ 256 := by
  rw [← count_pages pg st ws h1]
  have := pagesC_b pg st ws pg.toNat
  omega
end Go.Proofs.YtogfikemodaepaaGreat

