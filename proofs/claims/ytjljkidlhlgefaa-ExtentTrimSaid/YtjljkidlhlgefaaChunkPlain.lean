/-
  What is counted, covered and ensured by pages, and by chunks, is the same.
-/
import Derived.Test.YtjljkidlhlgefaaChunkRow
namespace Go.Proofs.Ytjljkidlhlgefaa
set_option linter.unusedVariables false
set_option linter.unusedSimpArgs false

/-- How many of the first p pages are mapped. -/
def pagesC (pg st : Int) (ws : List Int) : Nat → Int
  | 0 => 0
  | p + 1 => pagesC pg st ws p + if mappedV pg st ws ((p : Int) / 4) then 1 else 0
theorem pagesC_in (pg st : Int) (ws : List Int) (k j : Nat) (hj : j ≤ 4) : pagesC pg st ws (4 * k + j) = pagesC pg st ws (4 * k) + if mappedV pg st ws (k : Int) then (j : Int) else 0 := by
  induction j with
  | zero => simp
  | succ j ih =>
    have hq : (((4 * k + j : Nat) : Int)) / 4 = (k : Int) := by omega
    show pagesC pg st ws (4 * k + j) + (if mappedV pg st ws (((4 * k + j : Nat) : Int) / 4) then 1 else 0) = _
    rw [ih (by omega), hq]
    split <;> omega
theorem countV_pages (pg st : Int) (ws : List Int) (hp : 1 ≤ pg) (m : Nat) : ∀ (k : Nat) (s : Int), ((k + m : Nat) : Int) = chunksV pg → s = pagesC pg st ws (min (4 * k) pg.toNat) → countV pg st m (k : Int) s ws = pagesC pg st ws pg.toNat := by
  induction m with
  | zero =>
    intro k s hk hs
    unfold chunksV at hk
    rw [show min (4 * k) pg.toNat = pg.toNat by omega] at hs
    exact hs
  | succ m ih =>
    intro k s hk hs
    have hc : isChunk pg (k : Int) = true := isChunk_iff.2 ⟨by omega, by omega⟩
    have hlt : 4 * (k : Int) < pg := by unfold chunksV at hk; omega
    show countV pg st m ((k : Int) + 1) _ ws = _
    have := ih (k + 1) (s + if mappedV pg st ws (k : Int) then sizeV pg (k : Int) else 0) (by omega) ?_
    · rw [show (((k + 1 : Nat)) : Int) = (k : Int) + 1 by omega] at this
      exact this
    · rw [hs, show min (4 * k) pg.toNat = 4 * k by omega]
      have hz : sizeV pg (k : Int) = ((min 4 (pg.toNat - 4 * k) : Nat) : Int) := by unfold sizeV; rw [if_pos hc]; omega
      rw [show min (4 * (k + 1)) pg.toNat = 4 * k + min 4 (pg.toNat - 4 * k) by omega, pagesC_in pg st ws k _ (by omega), hz]
theorem count_pages (pg st : Int) (ws : List Int) (hp : 1 ≤ pg) : pagesC pg st ws pg.toNat = countW pg st ws := by
  have h : 0 ≤ chunksV pg := by unfold chunksV; omega
  have := countV_pages pg st ws hp (chunksV pg).toNat 0 0 (by omega) (by simp [pagesC])
  unfold countW
  exact this.symm
theorem pagesC_b (pg st : Int) (ws : List Int) (p : Nat) : 0 ≤ pagesC pg st ws p ∧ pagesC pg st ws p ≤ p := by
  induction p with
  | zero => simp [pagesC]
  | succ p ih => unfold pagesC; split <;> omega

theorem coversV_iff (pg st : Int) (ws : List Int) (m : Nat) : ∀ k : Int, coversV pg st m k ws = true ↔ ∀ i : Nat, i < m → mappedV pg st ws (k + i) = true := by
  induction m with
  | zero => intro k; simp [coversV]
  | succ m ih =>
    intro k
    unfold coversV
    rw [Bool.and_eq_true, ih]
    constructor
    · rintro ⟨h0, h1⟩ i hi
      cases i with
      | zero => simpa using h0
      | succ i => have := h1 i (by omega); rw [show k + ((i + 1 : Nat) : Int) = k + 1 + (i : Int) by omega]; exact this
    · intro h
      refine ⟨by simpa using h 0 (by omega), fun i hi => ?_⟩
      have := h (i + 1) (by omega)
      rwa [show k + ((i + 1 : Nat) : Int) = k + 1 + (i : Int) by omega] at this
theorem covers_pages {pg st x y : Int} (ws : List Int) (h : thereB pg x y = true) (h2 : pg ≤ 256) : coversW pg st x y ws = true ↔ ∀ i : Int, x ≤ i → i < x + y → mappedV pg st ws (i / 4) = true := by
  obtain ⟨s1, s2⟩ := span_b h h2
  obtain ⟨q0, q1, q2⟩ := there_iff.1 h
  unfold coversW
  rw [if_pos h, coversV_iff]
  constructor
  · intro hh i h0 h1
    have := hh ((i / 4 - x / 4).toNat) (by omega)
    rwa [show x / 4 + (((i / 4 - x / 4).toNat : Nat) : Int) = i / 4 by omega] at this
  · intro hh j hj
    have := hh (max x (4 * (x / 4 + (j : Int)))) (by omega) (by omega)
    rwa [show (max x (4 * (x / 4 + (j : Int)))) / 4 = x / 4 + (j : Int) by omega] at this

/-- Where a word is set to 1, and nowhere else, are they unlike. -/
structure Ones (ws ws' : List Int) (S : Int → Prop) : Prop where
  len : ws'.length = ws.length
  eq : ∀ i : Int, 0 ≤ i → (S i → wAt ws' i = 1) ∧ (¬ S i → wAt ws' i = wAt ws i)
theorem Ones.uniq {ws a b : List Int} {S T : Int → Prop} (h : Ones ws a S) (g : Ones ws b T) (e : ∀ i, S i ↔ T i) : a = b :=
  words_ext (h.len.trans g.len.symm) (fun i h0 _ => by
    by_cases q : S i
    · rw [(h.eq i h0).1 q, (g.eq i h0).1 ((e i).1 q)]
    · rw [(h.eq i h0).2 q, (g.eq i h0).2 (fun r => q ((e i).2 r))])
theorem ones_refl (ws : List Int) (S : Int → Prop) (h : ∀ i, ¬ S i) : Ones ws ws S := ⟨rfl, fun i _ => ⟨fun q => absurd q (h i), fun _ => rfl⟩⟩
theorem ones_turn {pg st : Int} {n : Nat} (H : TblIn pg st n) {ws a : List Int} {S : Int → Prop} (h : Ones ws a S) (hn : ws.length = n) {k : Int} (hk : isChunk pg k = true) : Ones ws (turnV pg st k 1 a).2 (fun i => S i ∨ i = tblV pg st k) := by
  obtain ⟨t0, t1, t2⟩ := tbl_b H hk
  have hv : ∀ i : Int, 0 ≤ i → wAt (turnV pg st k 1 a).2 i = if i = tblV pg st k then 1 else wAt a i := fun i h0 => by
    unfold turnV
    rw [if_pos hk]
    split
    · rename_i q
      have : wAt a (tblV pg st k) = 1 := by
        unfold mappedV at q; rw [hk] at q; simpa using q
      split
      · rename_i e; rw [e]; exact this
      · rfl
    · rw [show (sizeV pg k, a.set (tblV pg st k).toNat 1).2 = a.set (tblV pg st k).toNat 1 from rfl, wAt_set (by omega) h0 (by rw [h.len, hn]; exact t1)]
  refine ⟨by rw [turn_len]; exact h.len, fun i h0 => ⟨fun q => ?_, fun q => ?_⟩⟩
  · rw [hv i h0]
    split
    · rfl
    · rename_i e; exact (h.eq i h0).1 (q.resolve_right e)
  · rw [hv i h0, if_neg (fun e => q (.inr e))]
    exact (h.eq i h0).2 (fun r => q (.inl r))
theorem ones_ensure {pg st : Int} {n : Nat} (H : TblIn pg st n) (m : Nat) : ∀ (k s : Int) (ws a : List Int) (S : Int → Prop), ws.length = n → Ones ws a S → (∀ i : Nat, i < m → isChunk pg (k + i) = true) → Ones ws (ensureV pg st m k s a).2 (fun i => S i ∨ ∃ j : Nat, j < m ∧ i = tblV pg st (k + j)) := by
  induction m with
  | zero =>
    intro k s ws a S hn h hc
    exact ⟨h.len, fun i h0 => ⟨fun q => by rcases q with q | ⟨j, hj, _⟩; exact (h.eq i h0).1 q; omega, fun q => (h.eq i h0).2 (fun r => q (.inl r))⟩⟩
  | succ m ih =>
    intro k s ws a S hn h hc
    have h1 := ones_turn H h hn (by simpa using hc 0 (by omega))
    have h2 := ih (k + 1) (s + (turnV pg st k 1 a).1) ws _ _ hn h1 (fun i hi => by have := hc (i + 1) (by omega); rwa [show k + ((i + 1 : Nat) : Int) = k + 1 + (i : Int) by omega] at this)
    refine ⟨h2.len, fun i h0 => ?_⟩
    have e : (S i ∨ ∃ j : Nat, j < m + 1 ∧ i = tblV pg st (k + j)) ↔ ((S i ∨ i = tblV pg st k) ∨ ∃ j : Nat, j < m ∧ i = tblV pg st (k + 1 + j)) := by
      constructor
      · rintro (q | ⟨j, hj, q⟩)
        · exact .inl (.inl q)
        · cases j with
          | zero => exact .inl (.inr (by simpa using q))
          | succ j => exact .inr ⟨j, by omega, by rw [q]; congr 1; omega⟩
      · rintro ((q | q) | ⟨j, hj, q⟩)
        · exact .inl q
        · exact .inr ⟨0, by omega, by simpa using q⟩
        · exact .inr ⟨j + 1, by omega, by rw [q]; congr 1; omega⟩
    exact ⟨fun q => (h2.eq i h0).1 (e.1 q), fun q => (h2.eq i h0).2 (fun r => q (e.2 r))⟩
/-- Page by page. -/
theorem ones_pages {pg st x y : Int} {n : Nat} (H : TblIn pg st n) {ws a : List Int} (hn : ws.length = n) (h : thereB pg x y = true) (ha : Ones ws a (fun i => ∃ q : Int, x ≤ q ∧ q < x + y ∧ i = tblV pg st (q / 4))) : a = (ensureW pg st x y ws).2 := by
  obtain ⟨s1, s2⟩ := span_b h H.pg2
  obtain ⟨q0, q1, q2⟩ := there_iff.1 h
  have h2 := ones_ensure H (spanV x y) (x / 4) 0 ws ws (fun _ => False) hn (ones_refl ws _ (fun _ q => q)) (fun i hi => span_in h i hi)
  unfold ensureW
  rw [if_pos h]
  refine ha.uniq h2 (fun i => ⟨?_, ?_⟩)
  · rintro ⟨q, h0, h1, rfl⟩
    exact .inr ⟨(q / 4 - x / 4).toNat, by omega, by congr 1; omega⟩
  · rintro (q | ⟨j, hj, rfl⟩)
    · exact q.elim
    · exact ⟨max x (4 * (x / 4 + (j : Int))), by omega, by omega, by congr 1; omega⟩

/-- What a turned chunk does to the count. -/
theorem mapped_set {pg st : Int} {n : Nat} (H : TblIn pg st n) {ws : List Int} (hn : ws.length = n) {k j : Int} (x : Int) (hk : isChunk pg k = true) (hj : isChunk pg j = true) : mappedV pg st (ws.set (tblV pg st k).toNat x) j = if j = k then decide (x = 1) else mappedV pg st ws j := by
  obtain ⟨t0, t1, t2⟩ := tbl_b H hk
  obtain ⟨u0, u1, u2⟩ := tbl_b H hj
  unfold mappedV
  rw [hj, wAt_set (by omega) (by omega) (by rw [hn]; exact t1)]
  by_cases e : j = k
  · subst e; simp
  · have : tblV pg st j ≠ tblV pg st k := by rw [tbl_in hj, tbl_in hk]; omega
    rw [if_neg this, if_neg e]
theorem countV_set {pg st : Int} {n : Nat} (H : TblIn pg st n) {ws : List Int} (hn : ws.length = n) {k : Int} (x : Int) (hk : isChunk pg k = true) (m : Nat) : ∀ (j : Nat) (s d : Int), ((j + m : Nat) : Int) ≤ chunksV pg →
    countV pg st m (j : Int) (s + d) (ws.set (tblV pg st k).toNat x) = countV pg st m (j : Int) s ws + d + (if (j : Int) ≤ k ∧ k < (j : Int) + (m : Int) then ((if decide (x = 1) then sizeV pg k else 0) - (if mappedV pg st ws k then sizeV pg k else 0)) else 0) := by
  induction m with
  | zero => intro j s d hj; rw [if_neg (by omega)]; simp [countV]
  | succ m ih =>
    intro j s d hj
    have hc : isChunk pg (j : Int) = true := isChunk_iff.2 ⟨by omega, by omega⟩
    show countV pg st m ((j : Int) + 1) (s + d + (if mappedV pg st (ws.set (tblV pg st k).toNat x) (j : Int) then sizeV pg (j : Int) else 0)) (ws.set (tblV pg st k).toNat x) = countV pg st m ((j : Int) + 1) (s + (if mappedV pg st ws (j : Int) then sizeV pg (j : Int) else 0)) ws + d + (if (j : Int) ≤ k ∧ k < (j : Int) + ((m + 1 : Nat) : Int) then ((if decide (x = 1) then sizeV pg k else 0) - (if mappedV pg st ws k then sizeV pg k else 0)) else 0)
    rw [mapped_set H hn x hk hc]
    have hI := fun s d => ih (j + 1) s d (by omega)
    rw [show (((j + 1 : Nat)) : Int) = (j : Int) + 1 by omega] at hI
    by_cases e : (j : Int) = k
    · have hneg : ¬ ((j : Int) + 1 ≤ k ∧ k < (j : Int) + 1 + (m : Int)) := by omega
      have hpos : (j : Int) ≤ k ∧ k < (j : Int) + ((m + 1 : Nat) : Int) := by omega
      rw [if_pos e, if_pos hpos]
      rw [show s + d + (if decide (x = 1) = true then sizeV pg (j : Int) else 0) = (s + if mappedV pg st ws (j : Int) = true then sizeV pg (j : Int) else 0) + (d + (if decide (x = 1) = true then sizeV pg (j : Int) else 0) - (if mappedV pg st ws (j : Int) = true then sizeV pg (j : Int) else 0)) by omega, hI]
      rw [if_neg hneg, ← e]
      omega
    · rw [if_neg e]
      rw [show s + d + (if mappedV pg st ws (j : Int) = true then sizeV pg (j : Int) else 0) = (s + if mappedV pg st ws (j : Int) = true then sizeV pg (j : Int) else 0) + d by omega, hI]
      by_cases q : (j : Int) + 1 ≤ k ∧ k < (j : Int) + 1 + (m : Int)
      · have hpos : (j : Int) ≤ k ∧ k < (j : Int) + ((m + 1 : Nat) : Int) := by omega
        rw [if_pos q, if_pos hpos]
      · have hneg : ¬ ((j : Int) ≤ k ∧ k < (j : Int) + ((m + 1 : Nat) : Int)) := by omega
        rw [if_neg q, if_neg hneg]
theorem count_set {pg st : Int} {n : Nat} (H : TblIn pg st n) {ws : List Int} (hn : ws.length = n) {k : Int} (x : Int) (hk : isChunk pg k = true) :
    countW pg st (ws.set (tblV pg st k).toNat x) = countW pg st ws + ((if decide (x = 1) then sizeV pg k else 0) - (if mappedV pg st ws k then sizeV pg k else 0)) := by
  obtain ⟨h0, h1⟩ := isChunk_iff.1 hk
  have hpos : ((0 : Nat) : Int) ≤ k ∧ k < ((0 : Nat) : Int) + ((chunksV pg).toNat : Int) := by omega
  have := countV_set H hn x hk (chunksV pg).toNat 0 0 0 (by omega)
  rw [if_pos hpos] at this
  unfold countW
  simpa using this
/-- Turned on, and off. -/
theorem count_on {pg st : Int} {n : Nat} (H : TblIn pg st n) {ws : List Int} (hn : ws.length = n) (k : Int) : countW pg st (turnV pg st k 1 ws).2 = countW pg st ws + (turnV pg st k 1 ws).1 := by
  unfold turnV
  split
  · rename_i hk
    split
    · simp
    · rename_i q
      show countW pg st (ws.set (tblV pg st k).toNat 1) = countW pg st ws + sizeV pg k
      rw [count_set H hn 1 hk]
      have : mappedV pg st ws k = false := by simpa using q
      rw [this]; simp
  · simp
theorem count_off {pg st : Int} {n : Nat} (H : TblIn pg st n) {ws : List Int} (hn : ws.length = n) (k : Int) : countW pg st (turnV pg st k 0 ws).2 = countW pg st ws - (turnV pg st k 0 ws).1 := by
  unfold turnV
  split
  · rename_i hk
    split
    · simp
    · rename_i q
      show countW pg st (ws.set (tblV pg st k).toNat 0) = countW pg st ws - sizeV pg k
      rw [count_set H hn 0 hk]
      have : mappedV pg st ws k = true := by simpa using q
      rw [this]; simp; omega
  · simp
theorem count_ensureN {pg st : Int} {n : Nat} (H : TblIn pg st n) (m : Nat) : ∀ (k s : Int) (ws : List Int), ws.length = n → countW pg st (ensureV pg st m k s ws).2 = countW pg st ws + ((ensureV pg st m k s ws).1 - s) := by
  induction m with
  | zero => intro k s ws hn; simp [ensureV]
  | succ m ih =>
    intro k s ws hn
    unfold ensureV
    rw [ih _ _ _ (by rw [turn_len]; exact hn), count_on H hn]
    omega
theorem count_ensure {pg st : Int} {n : Nat} (H : TblIn pg st n) (x y : Int) (ws : List Int) (hn : ws.length = n) : countW pg st (ensureW pg st x y ws).2 = countW pg st ws + (ensureW pg st x y ws).1 := by
  unfold ensureW
  split
  · rw [count_ensureN H _ _ _ _ hn]; omega
  · simp
theorem count_b {pg st : Int} (ws : List Int) (h1 : 1 ≤ pg) (h2 : pg ≤ 256) : 0 ≤ countW pg st ws ∧ countW pg st ws ≤ 256 := by
  rw [← count_pages pg st ws h1]
  have := pagesC_b pg st ws pg.toNat
  omega
end Go.Proofs.Ytjljkidlhlgefaa
