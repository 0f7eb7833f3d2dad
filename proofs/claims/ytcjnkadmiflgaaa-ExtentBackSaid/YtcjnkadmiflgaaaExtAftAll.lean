/-
  What a row of extent's steps leaves of words.
-/
import Derived.Test.YtcjnkadmiflgaaaExtSem
import Derived.Test.YtcjnkadmiflgaaaExtDone
import Derived.Test.YtcjnkadmiflgaaaViewArgs
import Derived.Test.YtcjnkadmiflgaaaExtLives
namespace Go.Proofs.Ytcjnkadmiflgaaa
set_option linter.unusedVariables false
set_option linter.unusedSimpArgs false
set_option linter.unusedSectionVars false

def chkVac (pg st k : Int) (ws : List Int) : Bool := vacB pg st (firstV pg k) (sizeV pg k) ws
theorem first_in {pg k : Int} (h : isChunk pg k = true) : firstV pg k = 4 * k := by unfold firstV; rw [h]; rfl
theorem size_in {pg k : Int} (h : isChunk pg k = true) : sizeV pg k = min 4 (pg - 4 * k) := by unfold sizeV; rw [h]; rfl
theorem chkVac_iff {pg st k : Int} {ws : List Int} (h : isChunk pg k = true) : chkVac pg st k ws = true ↔ ∀ p, isPage pg p = true → p / 4 = k → kindV pg st ws p = 0 := by
  have hc := isChunk_iff.1 h
  unfold chunksV at hc
  unfold chkVac
  rw [vacB_iff, first_in h, size_in h]
  constructor
  · rintro ⟨_, h1⟩ p hp e
    have := isPage_iff.1 hp
    exact h1 p (by omega) (by omega)
  · intro h1
    exact ⟨there_iff.2 ⟨by omega, by omega, by omega⟩, fun i a b => h1 i (isPage_iff.2 ⟨by omega, by omega⟩) (by omega)⟩
theorem vac_congr {pg st : Int} {ws ws' : List Int} (h : ∀ p, kindV pg st ws' p = kindV pg st ws p) (p m : Int) : vacB pg st p m ws' = vacB pg st p m ws := by
  have : ∀ (m : Nat) (q : Int), vacBN pg st m q ws' = vacBN pg st m q ws := by
    intro m
    induction m with
    | zero => intro q; rfl
    | succ m ih => intro q; show (decide (kindV pg st ws' q = 0) && vacBN pg st m (q + 1) ws') = _; rw [h, ih]; rfl
  unfold vacB; rw [this]
theorem used_congr {pg st : Int} {ws ws' : List Int} (h : ∀ p, kindV pg st ws' p = kindV pg st ws p) : usedV pg st ws' = usedV pg st ws := by
  have : ∀ (m : Nat) (q s : Int), usedNV pg st m q s ws' = usedNV pg st m q s ws := by
    intro m
    induction m with
    | zero => intro q s; rfl
    | succ m ih => intro q s; show usedNV pg st m (q + 1) (s + if kindV pg st ws' q = 0 then 0 else 1) ws' = _; rw [h, ih]; rfl
  exact this _ _ _
section
variable {pg st : Int} {n : Nat} (H : PgIn pg st n)
include H
theorem map_turn0 {k j : Int} (hk : isChunk pg k = true) (hj : isChunk pg j = true) {ws : List Int} (hn : ws.length = n) : mappedV pg st (turnV pg st k 0 ws).2 j = if j = k then false else mappedV pg st ws j := by
  unfold turnV
  rw [if_pos hk]
  split
  · rename_i q
    have q : mappedV pg st ws k = false := by simpa using q
    split
    · rename_i e; rw [e]; exact q
    · rfl
  · show mappedV pg st (ws.set (tblV pg st k).toNat 0) j = _
    rw [mapped_set H.toTblIn hn 0 hk hj]
    simp
theorem Tab.wf {ws ws' : List Int} (w : Wf pg st ws) (T : Tab pg st ws ws') (hm : ∀ p, isPage pg p = true → kindV pg st ws p ≠ 0 → mappedV pg st ws' (p / 4) = true) : Wf pg st ws' := by
  have pg_of : ∀ p, kindV pg st ws p ≠ -1 → isPage pg p = true := fun p h => isPage_iff.2 (page_of h)
  refine ⟨fun p hp => by rw [T.kind H]; exact w.b p hp, fun p hp => ?_, fun p hp => ?_, fun p hp => ?_, fun p hp hne => ?_⟩
  · rw [T.kind H] at hp; rw [T.kind H]; exact w.rest p hp
  · rw [T.kind H] at hp
    have := w.run p hp
    rw [T.cnt H (pg_of p (by omega)), T.kind H]
    exact ⟨this.1, this.2.1, fun i a b => by rw [T.kind H]; exact this.2.2.1 i a b, this.2.2.2⟩
  · rw [T.kind H] at hp
    have hq := pg_of p (by omega)
    rw [T.cnt H hq, T.bit H hq]; exact w.free p hp
  · rw [T.kind H] at hne; exact hm p hp hne
structure Trimmed (pg st : Int) (lo s : Int) (ws : List Int) (r : Int × List Int) : Prop where
  tab : Tab pg st ws r.2
  wf : Wf pg st r.2
  cnt : countW pg st r.2 = countW pg st ws - (r.1 - s)
  le : s ≤ r.1
  map : ∀ j, isChunk pg j = true → mappedV pg st r.2 j = if lo ≤ j then (mappedV pg st ws j && !chkVac pg st j ws) else mappedV pg st ws j
theorem trimN_spec (m : Nat) : ∀ (k s : Int) (ws : List Int), 0 ≤ k → k + m = chunksV pg → ws.length = n → Wf pg st ws → Trimmed pg st k s ws (trimNV pg st m k s ws) := by
  induction m with
  | zero =>
    intro k s ws h0 hk hn w
    exact ⟨Tab.refl _ _ _, w, by show countW pg st ws = countW pg st ws - (s - s); omega, Int.le_refl _, fun j hj => by rw [if_neg (by have := isChunk_iff.1 hj; omega)]; rfl⟩
  | succ m ih =>
    intro k s ws h0 hk hn w
    have hc : isChunk pg k = true := isChunk_iff.2 ⟨h0, by omega⟩
    show Trimmed pg st k s ws (trimNV pg st m (k + 1) (s + (trim1V pg st k ws).1) (trim1V pg st k ws).2)
    by_cases e : (mappedV pg st ws k && vacB pg st (firstV pg k) (sizeV pg k) ws) = true
    · have e2 := Bool.and_eq_true_iff.1 e
      have hm : mappedV pg st ws k = true := e2.1
      have hvac : chkVac pg st k ws = true := e2.2
      have ht1 : (turnV pg st k 0 ws).1 = sizeV pg k := by unfold turnV; rw [if_pos hc, if_neg (by rw [hm]; simp)]
      have hs := size_1 hc
      have hv : trim1V pg st k ws = (sizeV pg k, (turnV pg st k 0 ws).2) := by unfold trim1V; rw [if_pos e, ht1, if_pos (by omega)]
      rw [hv]
      show Trimmed pg st k s ws (trimNV pg st m (k + 1) (s + sizeV pg k) (turnV pg st k 0 ws).2)
      have T := tab_turn H k 0 hn
      have w2 : Wf pg st (turnV pg st k 0 ws).2 := T.wf H w (fun p hp hne => by
        rw [map_turn0 H hc (chunk_of hp) hn, if_neg (fun q => hne ((chkVac_iff hc).1 hvac p hp q))]
        exact w.map p hp hne)
      have I := ih (k + 1) (s + sizeV pg k) _ (by omega) (by omega) (T.len.trans hn) w2
      refine ⟨T.trans I.tab, I.wf, ?_, by have := I.le; omega, fun j hj => ?_⟩
      · rw [I.cnt, count_off H.toTblIn hn, ht1]; omega
      · rw [I.map j hj, map_turn0 H hc hj hn]
        have hvc : chkVac pg st j (turnV pg st k 0 ws).2 = chkVac pg st j ws := vac_congr (fun p => T.kind H p) _ _
        rw [hvc]
        by_cases e3 : j = k
        · subst e3; rw [if_neg (by omega), if_pos rfl, if_pos (Int.le_refl _), hvac]; simp
        · rw [if_neg e3]
          by_cases e4 : k + 1 ≤ j
          · rw [if_pos e4, if_pos (by omega)]
          · rw [if_neg e4, if_neg (by omega)]
    · have hv : trim1V pg st k ws = (0, ws) := by unfold trim1V; rw [if_neg e]
      rw [hv]
      show Trimmed pg st k s ws (trimNV pg st m (k + 1) (s + 0) ws)
      have I := ih (k + 1) (s + 0) ws (by omega) (by omega) hn w
      refine ⟨I.tab, I.wf, by rw [I.cnt]; omega, by have := I.le; omega, fun j hj => ?_⟩
      rw [I.map j hj]
      by_cases e3 : j = k
      · subst e3
        rw [if_neg (by omega), if_pos (Int.le_refl _)]
        have : ¬ (mappedV pg st ws j = true ∧ chkVac pg st j ws = true) := fun q => e (by rw [Bool.and_eq_true]; exact q)
        cases h1 : mappedV pg st ws j <;> cases h2 : chkVac pg st j ws <;> simp [h1, h2] at this ⊢
      · by_cases e4 : k + 1 ≤ j
        · rw [if_pos e4, if_pos (by omega)]
        · rw [if_neg e4, if_neg (by omega)]
theorem trim_spec {ws : List Int} (hn : ws.length = n) (w : Wf pg st ws) : Trimmed pg st 0 0 ws (trimV pg st ws) := by
  have : 0 ≤ chunksV pg := by have := H.pg1; unfold chunksV; omega
  exact trimN_spec H (chunksV pg).toNat 0 0 ws (Int.le_refl _) (by omega) hn w

/-- A step, over words. -/
def edoneV (pg st kind p m k : Int) (ws : List Int) : (Int × Int × Int) × List Int :=
  if kind = 0 then ((findV pg st m k ws, 0, 0), ws)
  else if kind = 1 then ((b2i (takeV pg st p m k ws).1, 0, 0), (takeV pg st p m k ws).2)
  else if kind = 2 then (((dropV pg st p ws).1, 0, 0), (dropV pg st p ws).2)
  else if kind = 3 then (((trimV pg st ws).1, 0, 0), (trimV pg st ws).2)
  else if kind = 5 then ((findV pg st m k ws, b2i (takeV pg st (findV pg st m k ws) m 6 ws).1, 0), (takeV pg st (findV pg st m k ws) m 6 ws).2)
  else ((kindV pg st ws p, fstV pg st p ws, usedV pg st ws), ws)
theorem flat_edone (kind p m k : Int) (hm : W64 m) (hk : W64 k) : Flat n (edoneP pg st kind p m k) (edoneV pg st kind p m k) :=
  flat_ite (fun _ => flat_bind (flat_find H m k) (fun x => flat_pure n (x, 0, 0))) (fun _ => flat_ite (fun _ => flat_bind (flat_take H p m k hk hm) (fun b => flat_pure n (b2i b, 0, 0))) (fun _ => flat_ite (fun _ => flat_bind (flat_drop H p) (fun x => flat_pure n (x, 0, 0))) (fun _ => flat_ite (fun _ => flat_bind (flat_trim H) (fun x => flat_pure n (x, 0, 0))) (fun _ => flat_ite (fun _ => flat_bind (flat_find H m k) (fun q => flat_bind (flat_take H q m 6 w64_6 hm) (fun b => flat_pure n (q, b2i b, 0)))) (fun _ => flat_bind (flat_kind H p) (fun a => flat_bind (flat_first H p) (fun b => flat_bind (flat_used H) (fun c => flat_pure n (a, b, c)))))))))
theorem take_keep {p m k : Int} {ws : List Int} (hn : ws.length = n) (w : Wf pg st ws) : Wf pg st (takeV pg st p m k ws).2 ∧ (takeV pg st p m k ws).2.length = n := by
  unfold takeV
  split
  · rename_i e
    have e := Bool.and_eq_true_iff.1 e
    have T := take_took H (k := k) hn (vacB_iff.1 e.2).1
    exact ⟨wf_took H w e.2 e.1 T, T.len.trans hn⟩
  · exact ⟨w, hn⟩
theorem edone_keep (kind p m k : Int) {ws : List Int} (hn : ws.length = n) (w : Wf pg st ws) : Wf pg st (edoneV pg st kind p m k ws).2 ∧ (edoneV pg st kind p m k ws).2.length = n := by
  unfold edoneV
  split
  · exact ⟨w, hn⟩
  split
  · exact take_keep H hn w
  split
  · have T := drop_fell H p hn
    exact ⟨wf_fell H w T, T.len.trans hn⟩
  split
  · have T := trim_spec H hn w
    exact ⟨T.wf, T.tab.len.trans hn⟩
  split
  · exact take_keep H hn w
  · exact ⟨w, hn⟩
end
def edonesP (pg st : Int) : List Ins4 → Prg Unit
  | [] => pureP ()
  | (a, b, c, d) :: l => bindP (edoneP pg st a b c d) (fun _ => edonesP pg st l)
def edonesV (pg st : Int) : List Ins4 → List Int → List Int
  | [], ws => ws
  | (a, b, c, d) :: l, ws => edonesV pg st l (edoneV pg st a b c d ws).2
theorem sound_edones (pg st : Int) (l : List Ins4) : Sound (edonesP pg st l) := by
  induction l with
  | nil => exact sound_pure _
  | cons i l ih => exact sound_bind (sound_edone _ _ _ _ _ _) (fun _ => ih)
section
variable {pg st : Int} {n : Nat} (H : PgIn pg st n)
include H
theorem good_edones (l : List Ins4) (hO : OkP4 l) : Good n (fun _ => True) (edonesP pg st l) := by
  induction l with
  | nil => exact good_pure n trivial
  | cons i l ih =>
    have h := hO i (by simp)
    exact good_bind (good_edone H _ _ _ _ h.2.1 h.2.2) (fun _ _ => ih (fun x hx => hO x (by simp [hx])))
theorem flat_edones (l : List Ins4) (hO : OkP4 l) : Flat n (edonesP pg st l) (fun ws => ((), edonesV pg st l ws)) := by
  induction l with
  | nil => exact flat_pure n ()
  | cons i l ih =>
    have h := hO i (by simp)
    exact flat_bind (flat_edone H _ _ _ _ h.2.1 h.2.2) (fun _ => ih (fun x hx => hO x (by simp [hx])))
theorem edones_keep (l : List Ins4) : ∀ ws : List Int, ws.length = n → Wf pg st ws → Wf pg st (edonesV pg st l ws) ∧ (edonesV pg st l ws).length = n := by
  induction l with
  | nil => intro ws hn w; exact ⟨w, hn⟩
  | cons i l ih =>
    intro ws hn w
    obtain ⟨a, b⟩ := edone_keep H i.1 i.2.1 i.2.2.1 i.2.2.2 hn w
    exact ih _ b a
theorem wf_zeros : Wf pg st (zeros n) := by
  have hz : ∀ i : Int, wAt (zeros n) i = 0 := fun i => by
    unfold wAt zeros
    simp only [List.getD, List.getElem?_replicate]
    split <;> rfl
  have hk : ∀ p, kindV pg st (zeros n) p = 0 ∨ kindV pg st (zeros n) p = -1 := fun p => by
    unfold kindV; split
    · exact .inl (hz _)
    · exact .inr rfl
  refine ⟨fun p hp => ?_, fun p hp => ?_, fun p hp => ?_, fun p hp => ⟨hz _, hz _⟩, fun p hp hne => ?_⟩
  · rw [kind_in hp, hz]; omega
  · rcases hk p with h | h <;> omega
  · rcases hk p with h | h <;> omega
  · rw [kind_in hp, hz] at hne; omega
end
end Go.Proofs.Ytcjnkadmiflgaaa

namespace Go.Proofs.Ytcjnkadmiflgaaa
open Go.ChangeShapes Go.WideShapes Go.ChangeAt Go.RowKit Go.Joins Go.Deep
set_option linter.unusedVariables false
set_option linter.unusedSimpArgs false

def IsIns4 (w : World) (a : Option Addr) (l : List Ins4) : Prop :=
  l = [] ∨ ∃ s o, a = some ⟨s, o, none⟩ ∧ s < w.heap.size ∧ ∀ i t, l[i]? = some t → w.cell? ⟨s, o + i * 4, none⟩ = some (.int .i64 t.1) ∧ w.cell? ⟨s, o + i * 4 + 1, none⟩ = some (.int .i64 t.2.1) ∧ w.cell? ⟨s, o + i * 4 + 2, none⟩ = some (.int .i64 t.2.2.1) ∧ w.cell? ⟨s, o + i * 4 + 3, none⟩ = some (.int .i64 t.2.2.2)
theorem IsIns4.keep {w w' : World} {a : Option Addr} {l : List Ins4} (h : IsIns4 w a l) {S : Nat → Prop} (t : Turned S w w') (hs : l ≠ [] → ∀ k, leads a k → ¬ S k) : IsIns4 w' a l := by
  rcases h with h | ⟨s, o, rfl, hl, hc⟩
  · exact .inl h
  · by_cases e : l = []
    · exact .inl e
    · exact .inr ⟨s, o, rfl, Nat.lt_of_lt_of_le hl t.size, fun i u hi => by
        obtain ⟨c0, c1, c2, c3⟩ := hc i u hi
        exact ⟨cell_turned t (hs e s rfl) c0, cell_turned t (hs e s rfl) c1, cell_turned t (hs e s rfl) c2, cell_turned t (hs e s rfl) c3⟩⟩
theorem IsIns4.more {w w' : World} {a : Option Addr} {l : List Ins4} (h : IsIns4 w a l) (t : More w w') : IsIns4 w' a l := h.keep t (fun _ _ _ q => q)
theorem IsIns4.lt {w : World} {a : Option Addr} {l : List Ins4} (h : IsIns4 w a l) (hne : l ≠ []) : ∀ b, leads a b → b < w.heap.size := fun b hb => by
  obtain ⟨s, o, rfl, hs, _⟩ := h.resolve_left hne
  have : s = b := by simpa [leads] using hb
  omega
section
variable {H : Type} {enc : TypeId × Value → H} {P : Program} {w : World} {base : Nat} {spare : Nat → Bool} {held : Bool}
theorem isIns4_of {t e : TypeId} {f0 f1 f2 f3 : Field} {a : Option Addr} {len cap : Nat} {d : DataW H} {p : List MemPlace} (ht : P.underlying t = some (.slice e)) (hs : P.underlying e = some (.struct #[f0, f1, f2, f3])) (hone : oneCellFields P #[f0, f1, f2, f3] = true) (hC : P.cellsOf e = 4)
    (u0 : P.underlying f0.type = some (.int .i64)) (u1 : P.underlying f1.type = some (.int .i64)) (u2 : P.underlying f2.type = some (.int .i64)) (u3 : P.underlying f3.type = some (.int .i64))
    (h : DataW.Trod enc P w base spare held t (.slice a len cap) d p) : ∃ l : List Ins4, l.length = len ∧ IsIns4 w a l ∧ OkP4 l ∧ l.length ≤ 9223372036854775807 := by
  obtain ⟨fuel, hf⟩ := h
  have zero : ∀ n, len = n → n = 0 → ∃ l : List Ins4, l.length = len ∧ IsIns4 w a l ∧ OkP4 l ∧ l.length ≤ 9223372036854775807 := fun n h0 h1 => ⟨[], by rw [h0, h1]; rfl, .inl rfl, (fun p hp => by cases hp), by simp⟩
  rcases open_slice ht hf with ⟨hcs, _⟩ | ⟨x, l, c, m, n, D, Pl, hcs, _, hl, hm, hmm, _, hi⟩
  · simp [Value.cells] at hcs
    obtain ⟨rfl, rfl, rfl⟩ := hcs
    exact zero _ rfl rfl
  · simp [Value.cells] at hcs
    obtain ⟨rfl, rfl, rfl⟩ := hcs
    have key : ∀ i, i < len → ∃ g : Ins4, w.cell? (x.add (i * 4)) = some (.int .i64 g.1) ∧ w.cell? (x.add (i * 4 + 1)) = some (.int .i64 g.2.1) ∧ w.cell? (x.add (i * 4 + 2)) = some (.int .i64 g.2.2.1) ∧ w.cell? (x.add (i * 4 + 3)) = some (.int .i64 g.2.2.2) ∧ W64 g.1 ∧ W64 g.2.1 ∧ W64 g.2.2.1 ∧ W64 g.2.2.2 := by
      intro i hil
      obtain ⟨cs', hc, ht'⟩ := hi i (by have := hmm; split at this <;> omega)
      rw [hC] at hc
      obtain ⟨_, hcl, hat⟩ := World.cells?_some hc
      obtain ⟨c0, c1, c2, c3, rfl⟩ : ∃ c0 c1 c2 c3, cs' = [c0, c1, c2, c3] := by
        match cs', hcl with
        | [c0, c1, c2, c3], _ => exact ⟨c0, c1, c2, c3, rfl⟩
      obtain ⟨y0, y1, y2, y3, n', _, _, h0, h1, h2, h3⟩ := trod_struct4 hs ht'
      obtain ⟨o0, k0⟩ := hone_of hone 0 f0 rfl
      obtain ⟨o1, k1⟩ := hone_of hone 1 f1 rfl
      obtain ⟨o2, k2⟩ := hone_of hone 2 f2 rfl
      obtain ⟨o3, k3⟩ := hone_of hone 3 f3 rfl
      rw [o0, k0] at h0; rw [o1, k1] at h1; rw [o2, k2] at h2; rw [o3, k3] at h3
      obtain ⟨x0, e0, _, w0⟩ := DataW.trod_int u0 h0
      obtain ⟨x1, e1, _, w1⟩ := DataW.trod_int u1 h1
      obtain ⟨x2, e2, _, w2⟩ := DataW.trod_int u2 h2
      obtain ⟨x3, e3, _, w3⟩ := DataW.trod_int u3 h3
      simp at e0 e1 e2 e3
      subst e0 e1 e2 e3
      have a0 := hat 0 (by omega)
      have a1 := hat 1 (by omega)
      have a2 := hat 2 (by omega)
      have a3 := hat 3 (by omega)
      rw [Go.Deep.add_add] at a0 a1 a2 a3
      exact ⟨(x0, x1, x2, x3), a0, a1, a2, a3, of_wf w0, of_wf w1, of_wf w2, of_wf w3⟩
    by_cases h0 : len = 0
    · exact zero _ rfl h0
    · obtain ⟨s, o, spot⟩ := x
      obtain ⟨g0, hg0, _⟩ := key 0 (by omega)
      have hspot : spot = none := by simpa [Addr.add] using World.cell?_spot hg0
      subst hspot
      have hF : ∀ i, ∃ g : Ins4, i < len → w.cell? ⟨s, o + i * 4, none⟩ = some (.int .i64 g.1) ∧ w.cell? ⟨s, o + i * 4 + 1, none⟩ = some (.int .i64 g.2.1) ∧ w.cell? ⟨s, o + i * 4 + 2, none⟩ = some (.int .i64 g.2.2.1) ∧ w.cell? ⟨s, o + i * 4 + 3, none⟩ = some (.int .i64 g.2.2.2) ∧ W64 g.1 ∧ W64 g.2.1 ∧ W64 g.2.2.1 ∧ W64 g.2.2.2 := by
        intro i
        by_cases hil : i < len
        · obtain ⟨g, hg⟩ := key i hil
          exact ⟨g, fun _ => by simp only [Nat.add_assoc]; simp only [← addr_add']; exact hg⟩
        · exact ⟨(0, 0, 0, 0), fun q => absurd q hil⟩
      have hm' : cap ≤ 9223372036854775807 := by unfold maxLen at hm; exact hm
      have hspec := fun i hil => Classical.choose_spec (hF i) hil
      refine ⟨(List.range len).map fun i => Classical.choose (hF i), by simp, .inr ⟨s, o, rfl, lt_of_cell (hspec 0 (by omega)).1, fun i t ht => ?_⟩, fun t ht => ?_, by simp; omega⟩
      · obtain ⟨hil, rfl⟩ := list_get ht
        have q := hspec i hil
        exact ⟨q.1, q.2.1, q.2.2.1, q.2.2.2.1⟩
      · obtain ⟨i, hi', rfl⟩ := List.mem_map.1 ht
        have q := hspec i (by simpa using hi')
        exact ⟨q.2.2.2.2.2.1, q.2.2.2.2.2.2.1, q.2.2.2.2.2.2.2⟩
end
end Go.Proofs.Ytcjnkadmiflgaaa

namespace Go.Proofs.Ytcjnkadmiflgaaa
open Go.RowKit Go.Sort Go.Maps Go.Shelf
set_option linter.unusedVariables false
set_option linter.unusedSimpArgs false

theorem run_loadVar_four {P : Program} (w : World) (s off : Nat) (ty : TypeId) (v0 v1 v2 v3 : Value) (d : TypeDesc) (h0 : w.cell? ⟨s, off, none⟩ = some v0) (h1 : w.cell? ⟨s, off + 1, none⟩ = some v1) (h2 : w.cell? ⟨s, off + 2, none⟩ = some v2) (h3 : w.cell? ⟨s, off + 3, none⟩ = some v3)
    (hu : P.underlying ty = some d) (hd : (match d with | .struct _ | .array _ _ => true | _ => false) = true) (hi : (P.info? ty).map (·.size) = some 4) :
    (loadVar ty ⟨s, off, none⟩).run P w = .ok (.agg #[v0, v1, v2, v3]) w := by
  have hl : (loadCells ⟨s, off, none⟩ [v0, v1, v2, v3].length).run P w = .ok [v0, v1, v2, v3].toArray w :=
    run_loadCells_list (P := P) w ⟨s, off, none⟩ [v0, v1, v2, v3] (fun j v hv => by
      rw [addr_add]
      match j, hv with
      | 0, hv => cases hv; exact h0
      | 1, hv => cases hv; exact h1
      | 2, hv => cases hv; exact h2
      | 3, hv => cases hv; exact h3
      | j + 4, hv => simp at hv)
  cases hq : P.info? ty with
  | none => simp [hq] at hi
  | some i =>
    have hs : i.size = 4 := by simpa [hq] using hi
    have hagg : (isAgg ty).run P w = .ok true w := by
      unfold isAgg
      rw [Sem.run_bind, run_underlying hu w]
      cases d <;> simp_all
    simp only [List.length_cons, List.length_nil, Nat.reduceAdd] at hl
    simp [loadVar, Sem.run_bind, hagg, sizeOf, typeInfo, hq, hs, hl]
theorem wpQuiet_load_four {P : Program} {ops : Array Oper} {a : Act} {o : Oper} {rest : List Oper} {C : World → Prop} {Q : Act → Prop} (hw : Region.wanted o (yielded ops a.tmps) = true) (ty : TypeId) (x : Operand) (ho : o.op = .load ty x)
    (s off : Nat) (hx : a.eval x = .pointer (some ⟨s, off, none⟩)) (v0 v1 v2 v3 : Value) (d : TypeDesc) (hg : ∀ W, C W → W.cell? ⟨s, off, none⟩ = some v0 ∧ W.cell? ⟨s, off + 1, none⟩ = some v1 ∧ W.cell? ⟨s, off + 2, none⟩ = some v2 ∧ W.cell? ⟨s, off + 3, none⟩ = some v3)
    (hu : P.underlying ty = some d) (hd : (match d with | .struct _ | .array _ _ => true | _ => false) = true) (hi : (P.info? ty).map (·.size) = some 4)
    (h : wpQuiet P ops C Q rest (a.put o.dst (.agg #[v0, v1, v2, v3]))) : wpQuiet P ops C Q (o :: rest) a := by
  refine wpQuiet_do (.agg #[v0, v1, v2, v3]) hw (fun W hW => ?_) h
  obtain ⟨h0, h1, h2, h3⟩ := hg W hW
  unfold Oper.quietAt execOp
  simp only [ho, hx, Instr.loadAt, Instr.sureAddr, Sem.run_bind, Sem.run_pure, Result.andThen_ok, run_loadVar_four W s off ty v0 v1 v2 v3 d h0 h1 h2 h3 hu hd hi]
  exact ⟨rfl, rfl⟩
theorem drop_at4 {α : Type} {l : List α} {j : Nat} {x : α} (h : l[j]? = some x) : l.drop j = x :: l.drop (j + 1) := by
  have hj : j < l.length := by
    rcases Nat.lt_or_ge j l.length with q | q
    · exact q
    · rw [List.getElem?_eq_none q] at h; cases h
  rw [List.drop_eq_getElem_cons hj]
  rw [List.getElem?_eq_getElem hj] at h
  cases h; rfl
structure AfY (c : Cfg) (a : Option Addr) (capl : Nat) (l : List Ins4) (g1 g2 : Nat) (w : World) : Prop where
  h1 : w.heap[g1]? = some (.cells #[.slice a l.length capl] 24 (0, 0))
  h2 : w.heap[g2]? = some (.cells c.arr 28 (0, 0))
  ins : IsIns4 w a l
theorem AfY.keep {c : Cfg} {a : Option Addr} {capl : Nat} {l : List Ins4} {g1 g2 : Nat} {S : Nat → Prop} {w w' : World} (h : AfY c a capl l g1 g2 w) (t : Turned S w w') (n1 : ¬ S g1) (n2 : ¬ S g2) (n3 : l ≠ [] → ∀ k, leads a k → ¬ S k) : AfY c a capl l g1 g2 w' :=
  ⟨(t.block g1 (lt_of_heap h.h1) n1).trans h.h1, (t.block g2 (lt_of_heap h.h2) n2).trans h.h2, h.ins.keep t n3⟩

set_option maxRecDepth 100000 in
set_option maxHeartbeats 2000000 in
theorem after_clo {c : Cfg} (R : c.Ok) {n : Nat} (H : PgIn c.pg c.st n) (hn : n ≤ 10000) (F : Nat → Prop) (p g1 g2 : Nat) (kn : Int → Option Int) (a : Option Addr) (capl : Nat) (l : List Ins4) (hO : OkP4 l) (hll : l.length ≤ 1000) (W : World) (hv : ViewAt W F p kn []) (hk : OkK kn)
    (hY : AfY c a capl l g1 g2 W) (n1 : ¬ F g1) (n2 : ¬ F g2) (n3 : l ≠ [] → ∀ k, leads a k → ¬ F k) :
    Calls Try.prog 35 #[.pointer (some ⟨p, 0, none⟩), .pointer (some ⟨g1, 0, none⟩), .pointer (some ⟨g2, 0, none⟩)] W (WentY W F (fun _ => False) (fun w' => AfY c a capl l g1 g2 w') (fun _ => True) p kn (ranOf (edonesP c.pg c.st l kn []))) := by
  obtain ⟨Rr, hR⟩ : ∃ Rr, edonesP c.pg c.st l kn [] = Rr := ⟨_, rfl⟩
  rw [hR]
  have HYY := Lib.hid hY
  have KEEP : Hid (∀ w', Turned (fun b => F b ∨ False) W w' → AfY c a capl l g1 g2 w') := Lib.hid fun w' t => HYY.out.keep t (by rintro (q | q); exact n1 q; exact q) (by rintro (q | q); exact n2 q; exact q) (by rintro ne k hk (q | q); exact n3 ne k hk q; exact q)
  have NEED : Hid (∀ a' w2, Rr = .need a' → DeadAt w2 p a' → Turned (fun b => F b ∨ False) W w2 → WentY W F (fun _ => False) (fun w' => AfY c a capl l g1 g2 w') (fun _ => True) p kn (ranOf Rr) (.panicked (endOf p)) w2) := Lib.hid fun a' w2 e hd ht => wy_need (ranOf_need e) hd ht (KEEP.out _ ht)
  have DONE : Hid (∀ w2 D F', Rr = .ok () D → MidV W w2 F (fun _ => False) p kn n D F' → WentY W F (fun _ => False) (fun w' => AfY c a capl l g1 g2 w') (fun _ => True) p kn (ranOf Rr) (.returned (.tuple #[])) w2) := Lib.hid fun w2 D F' e h => wy_done h (ranOf_ok e) (KEEP.out _ h.turn) trivial
  have START := Lib.hid (And.intro (MidV.begin (W := W) (F := F) (S := fun _ => False) (p := p) (kn := kn) hv (invD_nil n)) hR)
  have HK := Lib.hid hk
  have HR := Lib.hid R
  have HH := Lib.hid H
  have OP := Lib.hid hO
  clear hv hR hY n1 n2 n3 hk R H hO
  go_enter Try.func35, Try.ntmps35
  go_wp2_with fail
  go_loopw [4] (fun v4 wr => ∃ (j : Nat) (D : List KV) (F' : Nat → Prop), v4 = .int .i64 (j : Int) ∧ j ≤ l.length ∧ MidV W wr F (fun _ => False) p kn n D F' ∧ edonesP c.pg c.st (l.drop j) kn D = Rr) (fun v4 _ => l.length - (intOf v4).toNat)
  case atStart => exact ⟨0, [], F, rfl, by omega, START.out.1, START.out.2⟩
  case round =>
    clear START
    obtain ⟨j, D, F', rfl, hjl, MI, hrest⟩ := hrel
    have MI := Lib.hid MI
    have KY := KEEP.out _ MI.out.turn
    have c1 := (box_cells KY.h1).1
    have q1 : IntKind.i64.wrap ((j : Int) + 1) = (j : Int) + 1 := wrap_in (by omega) (by omega)
    by_cases hlt : j < l.length
    · have d1 : decide ((j : Int) < (l.length : Int)) = true := by simp; omega
      obtain ⟨⟨kind, q, m, k⟩, hj⟩ : ∃ t, l[j]? = some t := ⟨_, List.getElem?_eq_getElem hlt⟩
      rw [drop_at4 hj] at hrest
      have RI := Lib.hid (show bindP (edoneP c.pg c.st kind q m k) (fun _ => edonesP c.pg c.st (l.drop (j + 1))) kn D = Rr from hrest)
      obtain ⟨s, o, rfl, hs, hc⟩ := KY.ins.resolve_left (by intro e; rw [e] at hlt; simp at hlt)
      obtain ⟨y0, y1, y2, y3⟩ := hc j _ hj
      simp only at y0 y1 y2 y3
      have C4 := Lib.hid (fun W' (hm : More wr W') => And.intro (hm.cell y0) (And.intro (hm.cell y1) (And.intro (hm.cell y2) (hm.cell y3))))
      have K2 := Lib.hid KY.h2
      obtain ⟨hq, hm, hk⟩ := OP.out _ (List.mem_of_getElem? hj)
      have EN := Lib.hid (fun w' (hm' : More wr w') => e_done HR.out HH.out hn F' p kn D kind q m k hq hm hk w' (MI.out.view.more hm') HK.out MI.out.inv)
      have GD := Lib.hid (good_edone HH.out kind q m k hm hk)
      clear hrest y0 y1 y2 y3 hc KY hq hm hk hj
      go_wp2_with fail
      refine wp_region_more_tail 6 (by kernel_rfl) (by kernel_rfl) ?_
      simp only [List.take_succ_cons, List.take_zero, List.drop_succ_cons, List.drop_zero]
      iterate 1
        with_reducible refine wpQuiet_step (fun K hK => ?_)
        go_simp
        first
        | (refine hK _ ?_; clear hK K)
        | (apply Exists.intro
           refine ⟨fun W hW => ?_, hK _ ?_⟩
           first
           | (go_simp; try rfl)
           clear hK K)
      refine wpQuiet_load_row rfl 28 _ rfl _ rfl 28 _ _ _ (fun W hW => hW.block K2.out) Try.underlying28 rfl (by kernel_rfl) ?_
      iterate 3
        with_reducible refine wpQuiet_step (fun K hK => ?_)
        go_simp
        first
        | (refine hK _ ?_; clear hK K)
        | (apply Exists.intro
           refine ⟨fun W hW => ?_, hK _ ?_⟩
           first
           | (have c1' := hW.cell c1; go_simp; try rfl)
           clear hK K)
      refine wpQuiet_load_four rfl 67 _ rfl s (o + j * 4) rfl _ _ _ _ _ (fun W hW => C4.out W hW) Try.underlying67 rfl (by kernel_rfl) ?_
      refine wpQuiet_nil ?_
      intro w2 m2
      have M2 := Lib.hid m2
      clear m2 c1
      go_wp2_with fail
      refine (EN.out w2 M2.out).mono ?_
      intro e w3 he
      rcases MI.out.step M2.out HK.out GD.out he with ⟨a', hE, rfl, hd', ht', _⟩ | ⟨x3, D3, F3, hE, rfl, M3, hq3, _, _⟩
      · exact ⟨rfl, NEED.out a' w3 (RI.out.symm.trans (bindP_need hE)) hd' ht'⟩
      have R3 := Lib.hid ((bindP_ok hE).symm.trans RI.out)
      have M3 := Lib.hid M3
      clear he hE EN GD
      go_wp2_with fail
      go_roundw
      case rel => exact ⟨j + 1, D3, F3, by go_num, by omega, M3.out, R3.out⟩
      case measure => simp [intOf]; omega
    · obtain rfl : j = l.length := by omega
      have d1 : decide ((l.length : Int) < (l.length : Int)) = false := by simp
      rw [List.drop_length] at hrest
      have FIN := Lib.hid (DONE.out _ D F' hrest.symm MI.out)
      clear hrest KY
      go_wp2_with fail
      go_end0
      exact FIN.out

/-- Words behind any program that comes to its end over them. -/
theorem okW_apply {n : Nat} {zs : List Int} {D : List KV} (hz : OkW zs) (h : InvD n D) (hn : zs.length = n) : OkW (applyD zs D) := by
  subst hn
  intro x hx
  obtain ⟨i, hi, rfl⟩ := List.getElem_of_mem hx
  have hl : i < zs.length := by rw [applyD_len] at hi; exact hi
  have h1 := word_all (zs := zs) h (a := (i : Int)) (by omega) (by omega)
  have h2 : wAt (applyD zs D) (i : Int) = (applyD zs D)[i] := by simp [wAt, List.getD, hi]
  rw [← h2]
  exact word_ok (okK_all hz) h.ok h1
theorem after_call {c : Cfg} (R : c.Ok) (zs : List Int) (H : PgIn c.pg c.st zs.length) (hlen : zs.length ≤ 1000) (hz : OkW zs) (w : World) (g1 g2 : Nat) (a : Option Addr) (cap : Nat) (al : Option Addr) (capl : Nat) (l : List Ins4) (hO : OkP4 l) (hll : l.length ≤ 1000) (hY : AfY c al capl l g1 g2 w) (hw : IsWords w a zs) :
    OkW (edonesV c.pg c.st l zs) ∧ Calls Try.prog 8 #[.slice a zs.length cap, .func (.func 35) #[] #[.pointer (some ⟨g1, 0, none⟩), .pointer (some ⟨g2, 0, none⟩)]] w (fun e w' => ∃ v1 v2, e = .returned (.tuple #[v1, v2, .int .i64 0]) ∧ Rw w.heap.size w' v1 (edonesV c.pg c.st l zs) ∧ More w w') := by
  have l1 := lt_of_heap hY.h1
  have l2 := lt_of_heap hY.h2
  have G := good_edones H l hO
  obtain ⟨D, hD, ha, hi⟩ := flat_edones H l hO zs [] rfl hz (invD_nil _)
  obtain ⟨K', hK', _, _⟩ := flat_do (sound_edones c.pg c.st l) G hz (flat_edones H l hO)
  have ha2 : applyD zs D = edonesV c.pg c.st l zs := ha
  refine ⟨by rw [← ha2]; exact okW_apply hz hi rfl, ?_⟩
  have hlt : l ≠ [] → ∀ k, leads al k → k < w.heap.size := fun ne => hY.ins.lt ne
  have M := doY_ok a cap zs (fun K => ranOf (edonesP c.pg c.st l (look K) [])) (some (edonesV c.pg c.st l zs, K')) zs.length w hw hlen hz (fine_of G hz (by omega)) (by omega) hK' 35 #[.pointer (some ⟨g1, 0, none⟩), .pointer (some ⟨g2, 0, none⟩)] (fun _ => False)
    (fun w' => AfY c al capl l g1 g2 w') (fun _ => True) (fun k q => q.elim)
    (fun w' w'' y t => y.keep t (by omega) (by omega) (fun ne k hk q => by have := hlt ne k hk; omega)) (fun _ _ _ _ => trivial) hY (enters_of Try.func35 (by kernel_rfl) rfl)
    (fun K hK W F p t yy hv hF => after_clo R H (by omega) F p g1 g2 (look K) al capl l hO hll W hv (okK_of hK hz) yy (fun q => by have := hF _ q; omega) (fun q => by have := hF _ q; omega) (fun ne k hk q => by have := hF _ q; have := hlt ne k hk; omega))
  refine M.mono ?_
  rintro e w' ⟨v1, v2, rfl, r1, _, t, _, _⟩
  exact ⟨v1, v2, rfl, r1, t⟩
end Go.Proofs.Ytcjnkadmiflgaaa

namespace Go.Proofs.Ytcjnkadmiflgaaa
open Go.RowKit Go.Sort Go.Maps Go.Shelf
set_option linter.unusedVariables false
set_option linter.unusedSimpArgs false

theorem Cfg.Small.pgin {c : Cfg} (S : c.Small) {n : Nat} (hn : (n : Int) = c.words) : PgIn c.pg c.st n := by
  refine { S.tbl hn with top5 := ?_ }
  rw [hn]
  have h2 := userB S.ok; have h3 := S.ok.pg1
  have h5 : headsV c.st c.pg ≤ liveV c.cp c.pg c.st c.ca c.bi := by
    have := prod5B S.ok; have := S.ok.bi1
    unfold liveV binsV cachesV; omega
  show _ ≤ wordsV c.cp c.pg c.st c.ca c.bi
  unfold wordsV
  unfold headsV at h5
  omega
theorem results_ctt {P : Program} {fn : Func} {p q u : Tmp} {tp : TypeId} (h : fn.results = #[.cell p tp, .tmp q, .tmp u]) (tmps : Array Value) (w : World) (g : Nat) (v : Value) (hp : tmps.getD p undef = .pointer (some ⟨g, 0, none⟩))
    (h1 : (loadVar tp ⟨g, 0, none⟩).run P w = .ok v w) : (results fn tmps).run P w = .ok (.tuple #[v, tmps.getD q undef, tmps.getD u undef]) w := by
  have hp' : tmps[p]?.getD undef = .pointer (some ⟨g, 0, none⟩) := by simpa using hp
  simp [results, h, asAddr, hp', h1, Sem.run_bind, Result.andThen]
/-- What after answers. -/
def Aftered (w : World) (d : Cfg) (n : Nat) (zs : List Int) (e : Ending) (w' : World) : Prop :=
  ∃ gz cz, e = .returned (.tuple #[.agg d.arr, .slice (some ⟨gz, 0, none⟩) n cz, .bool true]) ∧ Ws w' gz cz zs ∧ w.heap.size ≤ gz ∧ More w w'
set_option maxRecDepth 100000 in
set_option maxHeartbeats 4000000 in
theorem after_ok (y0 y1 y2 y3 y4 y5 y6 y7 y8 y9 y10 : Int) (f0 : (Lit.int .i64 y0).wf = true) (f1 : (Lit.int .i64 y1).wf = true) (f2 : (Lit.int .i64 y2).wf = true) (f3 : (Lit.int .i64 y3).wf = true) (f4 : (Lit.int .i64 y4).wf = true) (f5 : (Lit.int .i64 y5).wf = true) (f6 : (Lit.int .i64 y6).wf = true) (f7 : (Lit.int .i64 y7).wf = true) (f8 : (Lit.int .i64 y8).wf = true) (f9 : (Lit.int .i64 y9).wf = true) (f10 : (Lit.int .i64 y10).wf = true) (l : List Ins4) (ho : OkP4 l) (hll : l.length ≤ 1000) :
    ∃ (d : Cfg) (n : Nat) (zs : List Int), d.Small ∧ (n : Int) = d.words ∧ zs.length = n ∧ OkW zs ∧ Wf d.pg d.st zs ∧ Hid (∀ (a : Option Addr) (capl : Nat) (w : World), IsIns4 w a l → Calls Try.prog 7 #[.agg #[.int .i64 y0, .int .i64 y1, .int .i64 y2, .int .i64 y3, .int .i64 y4, .int .i64 y5, .int .i64 y6, .int .i64 y7, .int .i64 y8, .int .i64 y9, .int .i64 y10], .slice a l.length capl] w (Aftered w d n zs)) := by
  obtain ⟨d, S, BEG⟩ := begin_at y0 y1 y2 y3 y4 y5 y6 y7 y8 y9 y10 f0 f1 f2 f3 f4 f5 f6 f7 f8 f9 f10
  have wds := S.words
  obtain ⟨n, hn⟩ : ∃ n : Nat, (n : Int) = d.words := ⟨d.words.toNat, by omega⟩
  have H := S.pgin hn
  have hz := zeros_len n
  have keep := edones_keep H l (zeros n) hz (wf_zeros H)
  have ok := fun (w : World) (g1 g2 : Nat) (a : Option Addr) (cap : Nat) (al : Option Addr) (capl : Nat) => after_call (c := d) S.ok (zeros n) (by rw [hz]; exact H) (by rw [hz]; omega) (okW_zeros n) w g1 g2 a cap al capl l ho hll
  have okw : OkW (edonesV d.pg d.st l (zeros n)) := by
    obtain ⟨D, hD, ha, hi⟩ := flat_edones H l ho (zeros n) [] hz (okW_zeros n) (invD_nil _)
    have ha2 : applyD (zeros n) D = edonesV d.pg d.st l (zeros n) := ha
    rw [← ha2]; exact okW_apply (okW_zeros n) hi hz
  refine ⟨d, n, edonesV d.pg d.st l (zeros n), S, hn, keep.2, okw, keep.1, Lib.hid fun a capl w hl => ?_⟩
  have EL := Lib.hid keep.2
  have OK := Lib.hid ok
  have HZ := Lib.hid hz
  clear f0 f1 f2 f3 f4 f5 f6 f7 f8 f9 f10 ho keep okw ok hz H
  generalize edonesV d.pg d.st l (zeros n) = xs at EL OK ⊢
  obtain ⟨w3, e3, ha, hb, hc, m3, s3⟩ := entry3 w (.cells #[.int .i64 y0, .int .i64 y1, .int .i64 y2, .int .i64 y3, .int .i64 y4, .int .i64 y5, .int .i64 y6, .int .i64 y7, .int .i64 y8, .int .i64 y9, .int .i64 y10] 23) (.cells #[.slice a l.length capl] 24) (.cells zero24 28)
  have HA := Lib.hid ha
  have HB := Lib.hid hb
  have HC := Lib.hid hc
  have M3 := Lib.hid m3
  have HL := Lib.hid (hl.more m3)
  clear ha hb hc m3 hl
  go_enter Try.func7, Try.ntmps7
  go_wp2_with (refine wpList_load_row rfl 23 _ rfl w.heap.size rfl 23 _ _ _ HA.out Try.underlying23 rfl (by kernel_rfl) ?_)
  clear e3
  refine (BEG.out _).mono ?_
  rintro e w5 ⟨g, n', hn', rfl, hrw, m5⟩
  obtain rfl : n' = n := by omega
  obtain ⟨w6, e6, b1, b2, b3, m6, s6⟩ := rows2 w5 zero24 zero11 d.arr d.cells 28 61
  have wz : Ws w5 g n' (zeros n') := Ws.of_rw (base := w3.heap.size) (by rw [HZ.out]; exact hrw)
  have B1 := Lib.hid b1
  have B2 := Lib.hid b2
  have m36 := m5.trans m6
  have AC := Lib.hid (m36.block HB.out)
  have RC := Lib.hid (m36.block HC.out)
  have LC := Lib.hid b3
  have WZ := Lib.hid (wz.more m6)
  have M6 := Lib.hid (M3.out.trans m36)
  have HL6 := Lib.hid (HL.out.more m36)
  have DO := (OK.out w6 (w.heap.size + 1) w5.heap.size (some ⟨g, 0, none⟩) n' a capl ⟨AC.out, LC.out, HL6.out⟩ WZ.out.words).2
  rw [HZ.out] at DO
  have DO := Lib.hid DO
  have h35 := m5.size
  have h5l := lt_of_heap b3
  clear b1 b2 b3 hrw wz m5 m6 m36 BEG OK HA HB HC HL
  go_wp2_with (first
    | (refine wpList_store_row rfl 28 _ _ rfl w5.heap.size _ rfl rfl 28 zero24 B1.out (by kernel_rfl) rfl (arr_one d) ?_)
    | (refine wpList_store_row rfl 61 _ _ rfl (w5.heap.size + 1) _ rfl rfl 61 zero11 B2.out (by kernel_rfl) rfl (cells_one d) ?_))
  clear e6
  refine DO.out.mono ?_
  rintro e w7 ⟨v1, v2, rfl, hr, m7⟩
  obtain ⟨av, cv, rfl, hrd⟩ := hr.reads
  obtain ⟨gz, rfl, hb1, hb2, _⟩ := hrd 0 (by rw [EL.out]; omega)
  have NW := Lib.hid (Ws.of_rw hr)
  rw [EL.out]
  have LC7 := Lib.hid (m7.block LC.out)
  have RC7 := Lib.hid (m7.block RC.out)
  have M7 := Lib.hid (M6.out.trans m7)
  have hgz : w.heap.size ≤ gz := by have := M6.out.size; omega
  have hgz2 : w6.heap.size ≤ gz := hb1
  have lr := lt_of_heap RC.out
  clear hr hrd m7 hb1 hb2 DO
  have e1 : ((n' : Int) == (n' : Int)) = true := by simp
  go_wp2_with (first
    | (refine wpList_load_row rfl 28 _ rfl w5.heap.size rfl 28 _ _ _ LC7.out Try.underlying28 rfl (by kernel_rfl) ?_)
    | (refine wpList_store_row rfl 28 _ _ rfl (w.heap.size + 2) _ rfl rfl 28 zero24 RC7.out (by kernel_rfl) rfl (arr_one d) ?_))
  have tR := Turned.setRow (S := fun b => b = w.heap.size + 2) (Turned.refl _ w7) (w.heap.size + 2) d.arr (fun _ => rfl)
  refine bodyPost_ret (results_ctt Try.results7 _ _ (w.heap.size + 2) (.agg d.arr) rfl (run_loadVar_row _ _ _ _ _ _ _ (setRow_heap _ _ _ _ _ _ RC7.out) Try.underlying28 rfl (by kernel_rfl))) rfl ⟨gz, cv, rfl, NW.out.keep tR (by omega), hgz, ?_⟩
  exact Turned.mono (turned_own (F := fun _ => False) M7.out tR (fun b q => .inr (by omega))) (fun _ _ q => q)
end Go.Proofs.Ytcjnkadmiflgaaa

namespace Go.Proofs.Ytcjnkadmiflgaaa
open Go.RowKit Go.Sort Go.Maps Go.Shelf
set_option linter.unusedVariables false
set_option linter.unusedSimpArgs false

def efitsP (pg st p m : Int) (mp : Bool) : Prg Bool := if pg - p < m then pureP false else bindP (evacN pg st m.toNat p) (fun b => if b then (if mp then coversP pg st p m else pureP true) else pureP false)
theorem sound_fits (pg st p m : Int) (mp : Bool) : Sound (efitsP pg st p m mp) := sound_ite (sound_pure _) (sound_bind (sound_vacN _ _ _ _) (fun _ => sound_ite (sound_ite (sound_covers _ _ _ _) (sound_pure _)) (sound_pure _)))
theorem good_fits {pg st : Int} {n : Nat} (H : PgIn pg st n) (p m : Int) (mp : Bool) : Good n (fun _ => True) (efitsP pg st p m mp) := good_ite (fun _ => good_pure n trivial) (fun _ => good_bind (good_vacN H _ _) (fun _ _ => good_ite (fun _ => good_ite (fun _ => good_covers H.toTblIn _ _) (fun _ => good_pure n trivial)) (fun _ => good_pure n trivial)))
def fitsV (pg st p m : Int) (mp : Bool) (ws : List Int) : Bool := if pg - p < m then false else (vacBN pg st m.toNat p ws && (if mp then coversW pg st p m ws else true))
theorem flat_fits {pg st : Int} {n : Nat} (H : PgIn pg st n) (p m : Int) (mp : Bool) : Flat n (efitsP pg st p m mp) (fun ws => (fitsV pg st p m mp ws, ws)) := by
  refine flat_eq (flat_ite (fun _ => flat_pure n false) (fun _ => flat_bind (flat_vacN H m.toNat p) (fun b => flat_ite (fun _ => flat_ite (fun _ => flat_covers H.toTblIn p m) (fun _ => flat_pure n true)) (fun _ => flat_pure n false)))) (fun ws _ => ?_)
  unfold fitsV
  by_cases e : pg - p < m
  · simp only [if_pos e]
  · simp only [if_neg e]
    cases vacBN pg st m.toNat p ws <;> cases mp <;> simp

set_option maxRecDepth 100000 in
set_option maxHeartbeats 2000000 in
theorem e_fits9 {c : Cfg} (R : c.Ok) {n : Nat} (H : PgIn c.pg c.st n) (F : Nat → Prop) (p : Nat) (kn : Int → Option Int) (D : List KV) (q m : Int) (mp : Bool) (hq : 0 ≤ q ∧ q ≤ 300) (hm : 0 ≤ m ∧ m ≤ 300) (w : World) (hv : ViewAt w F p kn D) (hk : OkK kn) (hD : InvD n D) :
    Calls Try.prog 11 #[.pointer (some ⟨p, 0, none⟩), .agg c.arr, .int .i64 q, .int .i64 m, .bool mp] w (WentV w F p kn (fun b => .bool b) (efitsP c.pg c.st q m mp kn D)) := by
  obtain ⟨Rr, hRr⟩ : ∃ Rr, efitsP c.pg c.st q m mp kn D = Rr := ⟨_, rfl⟩
  rw [hRr]
  obtain ⟨w1, e1, hl1, m1, s1⟩ := entry1 w (.cells c.arr 28)
  have nFl : ¬ F w.heap.size := fun q => by have := hv.lt _ q; omega
  have MM := Lib.hid m1
  have L0 := Lib.hid hl1
  have M0 : Hid (MidV w1 w1 F (fun _ => False) p kn n D F) := Lib.hid (MidV.begin (hv.more m1) hD)
  have KL : Hid (∀ wr D' F', MidV w1 wr F (fun _ => False) p kn n D' F' → wr.heap[w.heap.size]? = some (.cells c.arr 28 (0, 0))) := Lib.hid fun wr D' F' h => mid_own h L0.out nFl (fun q => q)
  have NEED : Hid (∀ a w2, Rr = .need a → DeadAt w2 p a → Turned (fun b => F b ∨ False) w1 w2 → WentV w F p kn (fun b : Bool => Value.bool b) Rr (.panicked (endOf p)) w2) := Lib.hid fun a w2 e hd ht => mid_need MM.out (fun _ q => q.elim) e hd ht
  have DONE : Hid (∀ x w2 D' F', Rr = .ok x D' → MidV w1 w2 F (fun _ => False) p kn n D' F' → WentV w F p kn (fun b : Bool => Value.bool b) Rr (.returned ((fun b : Bool => Value.bool b) x)) w2) := Lib.hid fun x w2 D' F' e h => mid_done MM.out (fun _ q => q.elim) h e
  have HK := Lib.hid hk
  have HR := Lib.hid R
  have HH := Lib.hid H
  clear hl1 m1 hv hD hk R H nFl
  have hfl := field_pages c
  unfold efitsP at hRr
  have pg1 := HR.out.pg1
  have pg2 := HR.out.pg2
  have q1 : IntKind.i64.wrap (c.pg - q) = c.pg - q := wrap_in (by omega) (by omega)
  by_cases a2 : c.pg - q < m
  · have d2 : decide (c.pg - q < m) = true := by simp [a2]
    rw [if_pos a2] at hRr
    have FIN : Hid (∀ w2, More w1 w2 → WentV w F p kn (fun b : Bool => Value.bool b) Rr (.returned (.bool false)) w2) := Lib.hid fun w2 h => DONE.out false w2 D F hRr.symm (M0.out.more h)
    clear hRr
    go_enter Try.func11, Try.ntmps11
    go_wp2_with (first | (refine wpList_load_row rfl 28 _ rfl _ rfl 28 _ _ _ L0.out Try.underlying28 rfl (by kernel_rfl) ?_) | (refine wpList_load_rowG rfl 28 _ rfl _ rfl 28 _ _ _ L0.out Try.underlying28 rfl (by kernel_rfl) ?_))
    refine (y_config HR.out _).mono ?_
    rintro e w2 ⟨rfl, h2⟩
    have H2 := Lib.hid h2
    clear h2
    go_wp2_with fail
    go_ret
    exact FIN.out _ H2.out
  have d2 : decide (c.pg - q < m) = false := by simp; omega
  rw [if_neg a2] at hRr
  have HRr := Lib.hid hRr
  have q2 : IntKind.i64.wrap (q + m) = q + m := wrap_in (by omega) (by omega)
  have hqw : W64 q := by unfold W64; omega
  clear hRr
  go_enter Try.func11, Try.ntmps11
  go_wp2_with (first | (refine wpList_load_row rfl 28 _ rfl _ rfl 28 _ _ _ L0.out Try.underlying28 rfl (by kernel_rfl) ?_) | (refine wpList_load_rowG rfl 28 _ rfl _ rfl 28 _ _ _ L0.out Try.underlying28 rfl (by kernel_rfl) ?_))
  refine (y_config HR.out _).mono ?_
  rintro e w2 ⟨rfl, h2⟩
  have START := Lib.hid (And.intro (M0.out.more h2) HRr.out)
  clear h2 HRr
  go_wp2_with fail
  go_loopw [11] (fun v9 wr => ∃ (i : Nat) (D' : List KV) (F' : Nat → Prop), v9 = .int .i64 (q + (i : Int)) ∧ (i : Int) ≤ m ∧ MidV w1 wr F (fun _ => False) p kn n D' F' ∧ bindP (evacN c.pg c.st (m.toNat - i) (q + (i : Int))) (fun b => if b then (if mp then coversP c.pg c.st q m else pureP true) else pureP false) kn D' = Rr) (fun v9 _ => (q + m - intOf v9).toNat)
  case atStart => exact ⟨0, D, F, by simp, by omega, START.out.1, by simpa using START.out.2⟩
  case round =>
    clear START
    obtain ⟨i, D', F', rfl, hi, MI, hrest⟩ := hrel
    have MI := Lib.hid MI
    have LI := Lib.hid (KL.out _ _ _ MI.out)
    by_cases hlt : (i : Int) < m
    · have d3 : decide (q + (i : Int) < q + m) = true := by simp; omega
      have q3 : IntKind.i64.wrap (q + (i : Int) + 1) = q + (i : Int) + 1 := wrap_in (by omega) (by omega)
      rw [show m.toNat - i = (m.toNat - (i + 1)) + 1 by omega, vac_len, bindP_assoc] at hrest
      have RI := Lib.hid hrest
      clear hrest
      go_wp2_with (first | (refine wpList_load_row rfl 28 _ rfl _ rfl 28 _ _ _ LI.out Try.underlying28 rfl (by kernel_rfl) ?_) | (refine wpList_load_rowG rfl 28 _ rfl _ rfl 28 _ _ _ LI.out Try.underlying28 rfl (by kernel_rfl) ?_))
      refine (e_Kind HR.out HH.out F' p kn D' (q + (i : Int)) wr MI.out.view HK.out MI.out.inv).mono ?_
      intro e w4 he
      rcases MI.out.step (More.refl _) HK.out (good_kind HH.out _) he with ⟨a', hE, rfl, hd', ht', _⟩ | ⟨x4, D4, F4, hE, rfl, M4, hq4, _, _⟩
      · exact ⟨rfl, NEED.out a' w4 (RI.out.symm.trans (bindP_need hE)) hd' ht'⟩
      have L4 := Lib.hid (KL.out _ _ _ M4)
      have R4 := Lib.hid ((bindP_ok hE).symm.trans RI.out)
      have M4 := Lib.hid M4
      clear he hE
      have b1 := neq_of x4 0
      by_cases z : x4 = 0
      · rw [show decide (x4 = 0) = true by simp [z]] at b1
        have NX := Lib.hid (show bindP (evacN c.pg c.st (m.toNat - (i + 1)) (q + (i : Int) + 1)) (fun b => if b then (if mp then coversP c.pg c.st q m else pureP true) else pureP false) kn D4 = Rr from by have := R4.out; rwa [if_pos z] at this)
        clear R4 z
        go_wp2_with fail
        go_roundw
        case rel => exact ⟨i + 1, D4, F4, by go_num, by omega, M4.out, by rw [show q + ((i + 1 : Nat) : Int) = q + (i : Int) + 1 by omega]; exact NX.out⟩
        case measure => simp [intOf]; omega
      · rw [show decide (x4 = 0) = false by simp [z]] at b1
        have FIN := Lib.hid (DONE.out false w4 D4 F4 (by have := R4.out; rw [if_neg z] at this; exact this.symm) M4.out)
        clear R4 z
        go_wp2_with fail
        go_ret
        exact FIN.out
    · obtain rfl : (i : Int) = m := by omega
      have d3 : decide (q + (i : Int) < q + (i : Int)) = false := by simp
      rw [show ((i : Int).toNat - i) = 0 by omega] at hrest
      cases mp with
      | false =>
        have FIN := Lib.hid (DONE.out true wr D' F' hrest.symm MI.out)
        clear hrest
        go_wp2_with fail
        go_ret
        exact FIN.out
      | true =>
        have RI := Lib.hid (show coversP c.pg c.st q (i : Int) kn D' = Rr from hrest)
        clear hrest
        go_wp2_with (first | (refine wpList_load_row rfl 28 _ rfl _ rfl 28 _ _ _ LI.out Try.underlying28 rfl (by kernel_rfl) ?_) | (refine wpList_load_rowG rfl 28 _ rfl _ rfl 28 _ _ _ LI.out Try.underlying28 rfl (by kernel_rfl) ?_))
        refine (c_Covers HR.out HH.out.toTblIn F' p kn D' q (i : Int) hqw wr MI.out.view HK.out MI.out.inv).mono ?_
        intro e w4 he
        rcases MI.out.step (More.refl _) HK.out (good_covers HH.out.toTblIn q (i : Int)) he with ⟨a', hE, rfl, hd', ht', _⟩ | ⟨x4, D4, F4, hE, rfl, M4, hq4, _, _⟩
        · exact ⟨rfl, NEED.out a' w4 (RI.out.symm.trans hE) hd' ht'⟩
        have FIN := Lib.hid (DONE.out x4 w4 D4 F4 (RI.out.symm.trans hE) M4)
        clear he hE M4
        go_wp2_with fail
        go_ret
        exact FIN.out
end Go.Proofs.Ytcjnkadmiflgaaa

namespace Go.Proofs.Ytcjnkadmiflgaaa
set_option linter.unusedVariables false
set_option linter.unusedSimpArgs false
set_option linter.unusedSectionVars false

/-- Over words zs the words are now ws. -/
structure OnW (zs : List Int) (D : List KV) (ws : List Int) : Prop where
  inv : InvD zs.length D
  eq : applyD zs D = ws
theorem OnW.len {zs ws : List Int} {D : List KV} (h : OnW zs D ws) : ws.length = zs.length := by rw [← h.eq, applyD_len]
theorem at_flat {α : Type} {zs : List Int} {p : Prg α} {g : List Int → α × List Int} (hF : Flat zs.length p g) (hz : OkW zs) {D : List KV} {ws : List Int} (h : OnW zs D ws) : ∃ D', p (allK zs) D = .ok (g ws).1 D' ∧ OnW zs D' (g ws).2 := by
  obtain ⟨D', e, a, i⟩ := hF zs D rfl hz h.inv
  rw [h.eq] at e a
  exact ⟨D', e, i, a⟩
section
variable {pg st : Int} {n : Nat} (H : PgIn pg st n)
include H
theorem good_count9 : Good n (fun y : Int => 0 ≤ y ∧ y ≤ 1000) (countP pg st) := good_imp (good_countN H.toTblIn _ _ 0 (by omega)) (fun y hy => by have := H.pg2; have := H.pg1; unfold chunksV at hy; omega)
end
end Go.Proofs.Ytcjnkadmiflgaaa

namespace Go.Proofs.Ytcjnkadmiflgaaa
open Go.RowKit Go.Sort Go.Maps Go.Shelf
set_option linter.unusedVariables false
set_option linter.unusedSimpArgs false
set_option linter.unusedSectionVars false

def TrC (c : Cfg) (g1 : Nat) (W : World) : Prop := W.heap[g1]? = some (.cells c.arr 28 (0, 0))
structure TrY (c : Cfg) (g1 g2 : Nat) (w : World) : Prop where
  h1 : w.heap[g1]? = some (.cells c.arr 28 (0, 0))
  h2 : ∃ b, BoxB g2 w b
section
variable {P : Program} {ops : Array Oper} {md : Region.Mode} {C : World → Prop} {Q : Exit → Act → World → Prop}
theorem wanted_g {o : Oper} {tmps : Array Value} (g : Nat) (b : Bool) (d : Tmp) (hg : o.guard = some (g, b)) (hd : (ops[g]?).bind (·.dst) = some d) (h : tmps[d]? = some (.bool b)) : Region.wanted o (yielded ops tmps) = true := by
  simp [Region.wanted, hg, yielded, hd, h]
theorem wanted_none {o : Oper} {f : Nat → Option Bool} (hg : o.guard = none) : Region.wanted o f = true := by simp [Region.wanted, hg]
theorem AG.at {m : Nat} {a : Act} {L : List (Nat × Value)} (h : AG m a L) {k : Nat} (hk : k < m) (i : Nat) {v : Value} (hm : L[i]? = some (k, v)) : a.tmps[k]? = some v := by
  have h1 := h.getD i hm
  have hl : k < a.tmps.size := Nat.lt_of_lt_of_le hk h.1.1
  rw [Array.getElem?_eq_getElem hl] at h1 ⊢
  simpa using h1
theorem yieldsC_moveG {o : Oper} {a : Act} {v : Value} (hw : Region.wanted o (yielded ops a.tmps) = true) (x : Operand) (ho : o.op = .move x) (hx : a.eval x = v) : YieldsC P ops C o v a :=
  .inl ⟨hw, fun w _ => by unfold execOp; simp only [ho, hx]; rfl⟩
theorem yieldsC_not {o : Oper} {a : Act} {b : Bool} {x : Operand} (hw : Region.wanted o (yielded ops a.tmps) = true) (ho : o.op = .unOp .not 4 x) (hx : a.eval x = .bool b) : YieldsC Try.prog ops C o (.bool (!b)) a :=
  .inl ⟨hw, fun w _ => by unfold execOp; generalize a.eval = ρ at hx ⊢; simp only [ho, hx]; go_simp⟩
theorem yieldsC_eqlB {o : Oper} {a : Act} {b b' : Bool} {x y : Operand} (hw : Region.wanted o (yielded ops a.tmps) = true) (ho : o.op = .binOp .eql 4 x y 4) (hx : a.eval x = .bool b) (hy : a.eval y = .bool b') : YieldsC Try.prog ops C o (.bool (b == b')) a :=
  .inl ⟨hw, fun w _ => by unfold execOp; generalize a.eval = ρ at hx hy ⊢; simp only [ho, hx, hy]; go_simp⟩
theorem yieldsC_pickT {o : Oper} {a : Act} {v : Value} {x y z : Operand} (hw : Region.wanted o (yielded ops a.tmps) = true) (ho : o.op = .pick x y z) (hx : a.eval x = .bool true) (hy : a.eval y = v) : YieldsC Try.prog ops C o v a :=
  .inl ⟨hw, fun w _ => by unfold execOp; generalize a.eval = ρ at hx hy ⊢; simp only [ho, hx, hy]; go_simp⟩
theorem frame_k {n : Nat} {dn : Array Bool} {A : Act} {W : World} (m : Nat) (L : List (Nat × Value)) (hA : AG m A L) (h : AG m A L → anyC P md ops C Q n dn A W) : anyC P md ops C Q n dn A W := h hA
theorem anyC_oneK {i : Nat} {o : Oper} {fuel : Nat} {listed : Array Bool} {a : Act} {w : World} (d : Option Tmp) (hr : Region.ready md ops listed = [i]) (hi : ops[i]? = some o) (hw : Region.wanted o (yielded ops a.tmps) = true) (hd : o.dst = d)
    (h : ∀ K : Act → World → Prop, (∀ v w', C w' → anyC P md ops C Q fuel (listed.setIfInBounds i true) (a.put d v) w' → K (a.put o.dst v) w') → Oper.wp P o a w K Q) : anyC P md ops C Q (fuel + 1) listed a w := by
  subst hd
  exact anyC_one hr hi hw (h _ (fun v w' hc hA => ⟨hc, hA⟩))
theorem anyC_last {i : Nat} {o : Oper} {fuel : Nat} {listed : Array Bool} {a : Act} {w : World} (hr : Region.ready md ops listed = [i]) (hr2 : Region.ready md ops (listed.setIfInBounds i true) = []) (hi : ops[i]? = some o) (hw : Region.wanted o (yielded ops a.tmps) = true)
    (h : ∀ K : Act → World → Prop, (∀ v w', C w' → Q .normal (a.put o.dst v) w' → K (a.put o.dst v) w') → Oper.wp P o a w K Q) : anyC P md ops C Q (fuel + 1) listed a w :=
  anyC_one hr hi hw (h _ (fun v w' hc hq => ⟨hc, anyC_done hr2 hq⟩))
variable {o : Oper} {a : Act} {w : World} {K : Act → World → Prop}
theorem wp_call5 {f : Nat} {x0 x1 x2 x3 x4 : Operand} {v0 v1 v2 v3 v4 : Value} {ts : Array TypeId} (ho : o.op = .call { callee := .value (.func f), args := #[x0, x1, x2, x3, x4], argTypes := ts }) (h0 : a.eval x0 = v0) (h1 : a.eval x1 = v1) (h2 : a.eval x2 = v2) (h3 : a.eval x3 = v3) (h4 : a.eval x4 = v4) (he : ∀ (vs : Array Value) (w : World), Sem.run P (callFunc f vs) w = .ok (.enter f vs) w)
    (h : Calls P f #[v0, v1, v2, v3, v4] w (fun | .returned v, w'' => K (a.put o.dst v) w'' | .panicked ch, w'' => Q (.panic ch) a w'' | .outgrown, _ => LetsOut Q)) : o.wp P a w K Q := by
  have hv : a.eval (.func f) = .func (.func f) #[] #[] := rfl
  unfold Oper.wp Oper.upon
  generalize hρ : a.eval = ρ at h0 h1 h2 h3 h4 hv ⊢
  simp [execOp, ho, resolve, invoke, hv, h0, h1, h2, h3, h4, he, Sem.run_bind, Result.andThen, go_sem]
  exact h
theorem wp_load_bool {x : Operand} (ho : o.op = .load 4 x) (g : Nat) (hx : a.eval x = .pointer (some ⟨g, 0, none⟩)) (v : Value) (hc : w.cell? ⟨g, 0, none⟩ = some v) (h : K (a.put o.dst v) w) : Oper.wp Try.prog o a w K Q := by
  have hl : (loadVar 4 ⟨g, 0, none⟩).run Try.prog w = .ok v w := run_loadVar_cell Try.underlying4 rfl hc
  unfold Oper.wp Oper.upon execOp
  simp only [ho, hx, Instr.loadAt, Instr.sureAddr, Sem.run_bind, Sem.run_pure, Result.andThen_ok, hl]
  exact h
theorem wp_store_bool {x y : Operand} (ho : o.op = .store 4 x y) (g : Nat) (hx : a.eval x = .pointer (some ⟨g, 0, none⟩)) (b : Bool) (hy : a.eval y = .bool b) (v : Value) (hb : w.heap[g]? = some (.cells #[v] 4 (0, 0))) (h : K (a.put o.dst undef) (w.setCell ⟨g, 0, none⟩ (.bool b))) : Oper.wp Try.prog o a w K Q := by
  obtain ⟨hc, hf, hl⟩ := box_cells hb
  unfold Oper.wp Oper.upon execOp
  simp only [ho, hx, hy]
  go_simp
  exact h
end

end Go.Proofs.Ytcjnkadmiflgaaa

