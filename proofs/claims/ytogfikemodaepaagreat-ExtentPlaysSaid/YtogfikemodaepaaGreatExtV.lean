/-
  What a row of extent's steps leaves of words.
-/
import Derived.Test.YtogfikemodaepaaGreatExtSem
import Derived.Test.YtogfikemodaepaaGreatExtDone
namespace Go.Proofs.YtogfikemodaepaaGreat
set_option linter.unusedVariables false
set_option linter.unusedSimpArgs false
set_option linter.unusedSectionVars false

def chkVac (pg st k : Int) (ws : List Int) : Bool := vacB pg st (firstV pg k) (sizeV pg k) ws
theorem first_in {pg k : Int} (h : isChunk pg k = true) : firstV pg k = 4 * k := by unfold firstV; rw [h]; rfl
theorem size_in {pg k : Int} (h : isChunk pg k = true) : sizeV pg k = min 4 (pg - 4 * k) := by unfold sizeV; rw [h]; rfl
theorem chkVac_iff {pg st k : Int} {ws : List Int} (h : isChunk pg k = true) : chkVac pg st k ws = true ↔ ∀ p, isPage pg p = true → p / 4 = k → kindV pg st ws p = 0 := by
  have hc := isChunk_iff.1 h
  unfold chunksV at hc
  unfold chkVac
  rw [vacB_iff, first_in h, size_in h]
  constructor
  · rintro ⟨_, h1⟩ p hp e
    have := isPage_iff.1 hp
    exact h1 p (by omega) (by omega)
  · intro h1
    exact ⟨there_iff.2 ⟨by omega, by omega, by omega⟩, fun i a b => h1 i (isPage_iff.2 ⟨by omega, by omega⟩) (by omega)⟩
theorem vac_congr {pg st : Int} {ws ws' : List Int} (h : ∀ p, kindV pg st ws' p = kindV pg st ws p) (p m : Int) : vacB pg st p m ws' = vacB pg st p m ws := by
  have : ∀ (m : Nat) (q : Int), vacBN pg st m q ws' = vacBN pg st m q ws := by
    intro m
    induction m with
    | zero => intro q; rfl
    | succ m ih => intro q; show (decide (kindV pg st ws' q = 0) && vacBN pg st m (q + 1) ws') = _; rw [h, ih]; rfl
  unfold vacB; rw [this]
theorem used_congr {pg st : Int} {ws ws' : List Int} (h : ∀ p, kindV pg st ws' p = kindV pg st ws p) : usedV pg st ws' = usedV pg st ws := by
  have : ∀ (m : Nat) (q s : Int), usedNV pg st m q s ws' = usedNV pg st m q s ws := by
    intro m
    induction m with
    | zero => intro q s; rfl
    | succ m ih => intro q s; show usedNV pg st m (q + 1) (s + if kindV pg st ws' q = 0 then 0 else 1) ws' = _; rw [h, ih]; rfl
  exact this _ _ _
section
variable {pg st : Int} {n : Nat} (H : PgIn pg st n)
include H
theorem map_turn0 {k j : Int} (hk : isChunk pg k = true) (hj : isChunk pg j = true) {ws : List Int} (hn : ws.length = n) : mappedV pg st (turnV pg st k 0 ws).2 j = if j = k then false else mappedV pg st ws j := by
  unfold turnV
  rw [if_pos hk]
  split
  · rename_i q
    have q : mappedV pg st ws k = false := by simpa using q
    split
    · rename_i e; rw [e]; exact q
    · rfl
  · show mappedV pg st (ws.set (tblV pg st k).toNat 0) j = _
    rw [mapped_set H.toTblIn hn 0 hk hj]
    simp
theorem Tab.wf {ws ws' : List Int} (w : Wf pg st ws) (T : Tab pg st ws ws') (hm : ∀ p, isPage pg p = true → kindV pg st ws p ≠ 0 → mappedV pg st ws' (p / 4) = true) : Wf pg st ws' := by
  have pg_of : ∀ p, kindV pg st ws p ≠ -1 → isPage pg p = true := fun p h => isPage_iff.2 (page_of h)
  refine ⟨fun p hp => by rw [T.kind H]; exact w.b p hp, fun p hp => ?_, fun p hp => ?_, fun p hp => ?_, fun p hp hne => ?_⟩
  · rw [T.kind H] at hp; rw [T.kind H]; exact w.rest p hp
  · rw [T.kind H] at hp
    have := w.run p hp
    rw [T.cnt H (pg_of p (by omega)), T.kind H]
    exact ⟨this.1, this.2.1, fun i a b => by rw [T.kind H]; exact this.2.2.1 i a b, this.2.2.2⟩
  · rw [T.kind H] at hp
    have hq := pg_of p (by omega)
    rw [T.cnt H hq, T.bit H hq]; exact w.free p hp
  · rw [T.kind H] at hne; exact hm p hp hne
structure Trimmed (pg st : Int) (lo s : Int) (ws : List Int) (r : Int × List Int) : Prop where
  tab : Tab pg st ws r.2
  wf : Wf pg st r.2
  cnt : countW pg st r.2 = countW pg st ws - (r.1 - s)
  le : s ≤ r.1
  map : ∀ j, isChunk pg j = true → mappedV pg st r.2 j = if lo ≤ j then (mappedV pg st ws j && !chkVac pg st j ws) else mappedV pg st ws j
theorem trimN_spec (m : Nat) : ∀ (k s : Int) (ws : List Int), 0 ≤ k → k + m = chunksV pg → ws.length = n → Wf pg st ws → Trimmed pg st k s ws (trimNV pg st m k s ws) := by
  induction m with
  | zero =>
    intro k s ws h0 hk hn w
    exact ⟨Tab.refl _ _ _, w, by show countW pg st ws = countW pg st ws - (s - s); omega, Int.le_refl _, fun j hj => by rw [if_neg (by have := isChunk_iff.1 hj; omega)]; rfl⟩
  | succ m ih =>
    intro k s ws h0 hk hn w
    have hc : isChunk pg k = true := isChunk_iff.2 ⟨h0, by omega⟩
    show Trimmed pg st k s ws (trimNV pg st m (k + 1) (s + (trim1V pg st k ws).1) (trim1V pg st k ws).2)
    by_cases e : (mappedV pg st ws k && vacB pg st (firstV pg k) (sizeV pg k) ws) = true
    · have e2 := Bool.and_eq_true_iff.1 e
      have hm : mappedV pg st ws k = true := e2.1
      have hvac : chkVac pg st k ws = true := e2.2
      have ht1 : (turnV pg st k 0 ws).1 = sizeV pg k := by unfold turnV; rw [if_pos hc, if_neg (by rw [hm]; simp)]
      have hs := size_1 hc
      have hv : trim1V pg st k ws = (sizeV pg k, (turnV pg st k 0 ws).2) := by unfold trim1V; rw [if_pos e, ht1, if_pos (by omega)]
      rw [hv]
      show Trimmed pg st k s ws (trimNV pg st m (k + 1) (s + sizeV pg k) (turnV pg st k 0 ws).2)
      have T := tab_turn H k 0 hn
      have w2 : Wf pg st (turnV pg st k 0 ws).2 := T.wf H w (fun p hp hne => by
        rw [map_turn0 H hc (chunk_of hp) hn, if_neg (fun q => hne ((chkVac_iff hc).1 hvac p hp q))]
        exact w.map p hp hne)
      have I := ih (k + 1) (s + sizeV pg k) _ (by omega) (by omega) (T.len.trans hn) w2
      refine ⟨T.trans I.tab, I.wf, ?_, by have := I.le; omega, fun j hj => ?_⟩
      · rw [I.cnt, count_off H.toTblIn hn, ht1]; omega
      · rw [I.map j hj, map_turn0 H hc hj hn]
        have hvc : chkVac pg st j (turnV pg st k 0 ws).2 = chkVac pg st j ws := vac_congr (fun p => T.kind H p) _ _
        rw [hvc]
        by_cases e3 : j = k
        · subst e3; rw [if_neg (by omega), if_pos rfl, if_pos (Int.le_refl _), hvac]; simp
        · rw [if_neg e3]
          by_cases e4 : k + 1 ≤ j
          · rw [if_pos e4, if_pos (by omega)]
          · rw [if_neg e4, if_neg (by omega)]
    · have hv : trim1V pg st k ws = (0, ws) := by unfold trim1V; rw [if_neg e]
      rw [hv]
      show Trimmed pg st k s ws (trimNV pg st m (k + 1) (s + 0) ws)
      have I := ih (k + 1) (s + 0) ws (by omega) (by omega) hn w
      refine ⟨I.tab, I.wf, by rw [I.cnt]; omega, by have := I.le; omega, fun j hj => ?_⟩
      rw [I.map j hj]
      by_cases e3 : j = k
      · subst e3
        rw [if_neg (by omega), if_pos (Int.le_refl _)]
        have : ¬ (mappedV pg st ws j = true ∧ chkVac pg st j ws = true) := fun q => e (by rw [Bool.and_eq_true]; exact q)
        cases h1 : mappedV pg st ws j <;> cases h2 : chkVac pg st j ws <;> simp [h1, h2] at this ⊢
      · by_cases e4 : k + 1 ≤ j
        · rw [if_pos e4, if_pos (by omega)]
        · rw [if_neg e4, if_neg (by omega)]
theorem trim_spec {ws : List Int} (hn : ws.length = n) (w : Wf pg st ws) : Trimmed pg st 0 0 ws (trimV pg st ws) := by
  have : 0 ≤ chunksV pg := by have := H.pg1; unfold chunksV; omega
  exact trimN_spec H (chunksV pg).toNat 0 0 ws (Int.le_refl _) (by omega) hn w

/-- A step, over words. -/
def edoneV (pg st kind p m k : Int) (ws : List Int) : (Int × Int × Int) × List Int :=
  if kind = 0 then ((findV pg st m k ws, 0, 0), ws)
  else if kind = 1 then ((b2i (takeV pg st p m k ws).1, 0, 0), (takeV pg st p m k ws).2)
  else if kind = 2 then (((dropV pg st p ws).1, 0, 0), (dropV pg st p ws).2)
  else if kind = 3 then (((trimV pg st ws).1, 0, 0), (trimV pg st ws).2)
  else if kind = 5 then ((findV pg st m k ws, b2i (takeV pg st (findV pg st m k ws) m 6 ws).1, 0), (takeV pg st (findV pg st m k ws) m 6 ws).2)
  else ((kindV pg st ws p, fstV pg st p ws, usedV pg st ws), ws)
theorem flat_edone (kind p m k : Int) (hm : W64 m) (hk : W64 k) : Flat n (edoneP pg st kind p m k) (edoneV pg st kind p m k) :=
  flat_ite (fun _ => flat_bind (flat_find H m k) (fun x => flat_pure n (x, 0, 0))) (fun _ => flat_ite (fun _ => flat_bind (flat_take H p m k hk hm) (fun b => flat_pure n (b2i b, 0, 0))) (fun _ => flat_ite (fun _ => flat_bind (flat_drop H p) (fun x => flat_pure n (x, 0, 0))) (fun _ => flat_ite (fun _ => flat_bind (flat_trim H) (fun x => flat_pure n (x, 0, 0))) (fun _ => flat_ite (fun _ => flat_bind (flat_find H m k) (fun q => flat_bind (flat_take H q m 6 w64_6 hm) (fun b => flat_pure n (q, b2i b, 0)))) (fun _ => flat_bind (flat_kind H p) (fun a => flat_bind (flat_first H p) (fun b => flat_bind (flat_used H) (fun c => flat_pure n (a, b, c)))))))))
theorem take_keep {p m k : Int} {ws : List Int} (hn : ws.length = n) (w : Wf pg st ws) : Wf pg st (takeV pg st p m k ws).2 ∧ (takeV pg st p m k ws).2.length = n := by
  unfold takeV
  split
  · rename_i e
    have e := Bool.and_eq_true_iff.1 e
    have T := take_took H (k := k) hn (vacB_iff.1 e.2).1
    exact ⟨wf_took H w e.2 e.1 T, T.len.trans hn⟩
  · exact ⟨w, hn⟩
theorem edone_keep (kind p m k : Int) {ws : List Int} (hn : ws.length = n) (w : Wf pg st ws) : Wf pg st (edoneV pg st kind p m k ws).2 ∧ (edoneV pg st kind p m k ws).2.length = n := by
  unfold edoneV
  split
  · exact ⟨w, hn⟩
  split
  · exact take_keep H hn w
  split
  · have T := drop_fell H p hn
    exact ⟨wf_fell H w T, T.len.trans hn⟩
  split
  · have T := trim_spec H hn w
    exact ⟨T.wf, T.tab.len.trans hn⟩
  split
  · exact take_keep H hn w
  · exact ⟨w, hn⟩
end
def edonesP (pg st : Int) : List Ins4 → Prg Unit
  | [] => pureP ()
  | (a, b, c, d) :: l => bindP (edoneP pg st a b c d) (fun _ => edonesP pg st l)
def edonesV (pg st : Int) : List Ins4 → List Int → List Int
  | [], ws => ws
  | (a, b, c, d) :: l, ws => edonesV pg st l (edoneV pg st a b c d ws).2
theorem sound_edones (pg st : Int) (l : List Ins4) : Sound (edonesP pg st l) := by
  induction l with
  | nil => exact sound_pure _
  | cons i l ih => exact sound_bind (sound_edone _ _ _ _ _ _) (fun _ => ih)
section
variable {pg st : Int} {n : Nat} (H : PgIn pg st n)
include H
theorem good_edones (l : List Ins4) (hO : OkP4 l) : Good n (fun _ => True) (edonesP pg st l) := by
  induction l with
  | nil => exact good_pure n trivial
  | cons i l ih =>
    have h := hO i (by simp)
    exact good_bind (good_edone H _ _ _ _ h.2.1 h.2.2) (fun _ _ => ih (fun x hx => hO x (by simp [hx])))
theorem flat_edones (l : List Ins4) (hO : OkP4 l) : Flat n (edonesP pg st l) (fun ws => ((), edonesV pg st l ws)) := by
  induction l with
  | nil => exact flat_pure n ()
  | cons i l ih =>
    have h := hO i (by simp)
    exact flat_bind (flat_edone H _ _ _ _ h.2.1 h.2.2) (fun _ => ih (fun x hx => hO x (by simp [hx])))
theorem edones_keep (l : List Ins4) : ∀ ws : List Int, ws.length = n → Wf pg st ws → Wf pg st (edonesV pg st l ws) ∧ (edonesV pg st l ws).length = n := by
  induction l with
  | nil => intro ws hn w; exact ⟨w, hn⟩
  | cons i l ih =>
    intro ws hn w
    obtain ⟨a, b⟩ := edone_keep H i.1 i.2.1 i.2.2.1 i.2.2.2 hn w
    exact ih _ b a
theorem wf_zeros : Wf pg st (zeros n) := by
  have hz : ∀ i : Int, wAt (zeros n) i = 0 := fun i => by
    unfold wAt zeros
    simp only [List.getD, List.getElem?_replicate]
    split <;> rfl
  have hk : ∀ p, kindV pg st (zeros n) p = 0 ∨ kindV pg st (zeros n) p = -1 := fun p => by
    unfold kindV; split
    · exact .inl (hz _)
    · exact .inr rfl
  refine ⟨fun p hp => ?_, fun p hp => ?_, fun p hp => ?_, fun p hp => ⟨hz _, hz _⟩, fun p hp hne => ?_⟩
  · rw [kind_in hp, hz]; omega
  · rcases hk p with h | h <;> omega
  · rcases hk p with h | h <;> omega
  · rw [kind_in hp, hz] at hne; omega
end
end Go.Proofs.YtogfikemodaepaaGreat
