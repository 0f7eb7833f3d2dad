/-
  What a row of extent's steps leaves of words.
-/
import Derived.Test.YtjljkidlhlgefaaExtW
import Derived.Test.YtjljkidlhlgefaaExtDone
import Derived.Test.YtjljkidlhlgefaaViewArgs
import Derived.Test.YtjljkidlhlgefaaExtLives
namespace Go.Proofs.Ytjljkidlhlgefaa
set_option linter.unusedVariables false
set_option linter.unusedSimpArgs false
set_option linter.unusedSectionVars false

def chkVac (pg st k : Int) (ws : List Int) : Bool := vacB pg st (firstV pg k) (sizeV pg k) ws
theorem first_in {pg k : Int} (h : isChunk pg k = true) : firstV pg k = 4 * k := by unfold firstV; rw [h]; rfl
theorem size_in {pg k : Int} (h : isChunk pg k = true) : sizeV pg k = min 4 (pg - 4 * k) := by unfold sizeV; rw [h]; rfl
theorem chkVac_iff {pg st k : Int} {ws : List Int} (h : isChunk pg k = true) : chkVac pg st k ws = true ↔ ∀ p, isPage pg p = true → p / 4 = k → kindV pg st ws p = 0 := by
  have hc := isChunk_iff.1 h
  unfold chunksV at hc
  unfold chkVac
  rw [vacB_iff, first_in h, size_in h]
  constructor
  · rintro ⟨_, h1⟩ p hp e
    have := isPage_iff.1 hp
    exact h1 p (by omega) (by omega)
  · intro h1
    exact ⟨there_iff.2 ⟨by omega, by omega, by omega⟩, fun i a b => h1 i (isPage_iff.2 ⟨by omega, by omega⟩) (by omega)⟩
theorem vac_congr {pg st : Int} {ws ws' : List Int} (h : ∀ p, kindV pg st ws' p = kindV pg st ws p) (p m : Int) : vacB pg st p m ws' = vacB pg st p m ws := by
  have : ∀ (m : Nat) (q : Int), vacBN pg st m q ws' = vacBN pg st m q ws := by
    intro m
    induction m with
    | zero => intro q; rfl
    | succ m ih => intro q; show (decide (kindV pg st ws' q = 0) && vacBN pg st m (q + 1) ws') = _; rw [h, ih]; rfl
  unfold vacB; rw [this]
theorem used_congr {pg st : Int} {ws ws' : List Int} (h : ∀ p, kindV pg st ws' p = kindV pg st ws p) : usedV pg st ws' = usedV pg st ws := by
  have : ∀ (m : Nat) (q s : Int), usedNV pg st m q s ws' = usedNV pg st m q s ws := by
    intro m
    induction m with
    | zero => intro q s; rfl
    | succ m ih => intro q s; show usedNV pg st m (q + 1) (s + if kindV pg st ws' q = 0 then 0 else 1) ws' = _; rw [h, ih]; rfl
  exact this _ _ _
section
variable {pg st : Int} {n : Nat} (H : PgIn pg st n)
include H
theorem map_turn0 {k j : Int} (hk : isChunk pg k = true) (hj : isChunk pg j = true) {ws : List Int} (hn : ws.length = n) : mappedV pg st (turnV pg st k 0 ws).2 j = if j = k then false else mappedV pg st ws j := by
  unfold turnV
  rw [if_pos hk]
  split
  · rename_i q
    have q : mappedV pg st ws k = false := by simpa using q
    split
    · rename_i e; rw [e]; exact q
    · rfl
  · show mappedV pg st (ws.set (tblV pg st k).toNat 0) j = _
    rw [mapped_set H.toTblIn hn 0 hk hj]
    simp
theorem Tab.wf {ws ws' : List Int} (w : Wf pg st ws) (T : Tab pg st ws ws') (hm : ∀ p, isPage pg p = true → kindV pg st ws p ≠ 0 → mappedV pg st ws' (p / 4) = true) : Wf pg st ws' := by
  have pg_of : ∀ p, kindV pg st ws p ≠ -1 → isPage pg p = true := fun p h => isPage_iff.2 (page_of h)
  refine ⟨fun p hp => by rw [T.kind H]; exact w.b p hp, fun p hp => ?_, fun p hp => ?_, fun p hp => ?_, fun p hp hne => ?_⟩
  · rw [T.kind H] at hp; rw [T.kind H]; exact w.rest p hp
  · rw [T.kind H] at hp
    have := w.run p hp
    rw [T.cnt H (pg_of p (by omega)), T.kind H]
    exact ⟨this.1, this.2.1, fun i a b => by rw [T.kind H]; exact this.2.2.1 i a b, this.2.2.2⟩
  · rw [T.kind H] at hp
    have hq := pg_of p (by omega)
    rw [T.cnt H hq, T.bit H hq]; exact w.free p hp
  · rw [T.kind H] at hne; exact hm p hp hne
structure Trimmed (pg st : Int) (lo s : Int) (ws : List Int) (r : Int × List Int) : Prop where
  tab : Tab pg st ws r.2
  wf : Wf pg st r.2
  cnt : countW pg st r.2 = countW pg st ws - (r.1 - s)
  le : s ≤ r.1
  map : ∀ j, isChunk pg j = true → mappedV pg st r.2 j = if lo ≤ j then (mappedV pg st ws j && !chkVac pg st j ws) else mappedV pg st ws j
theorem trimN_spec (m : Nat) : ∀ (k s : Int) (ws : List Int), 0 ≤ k → k + m = chunksV pg → ws.length = n → Wf pg st ws → Trimmed pg st k s ws (trimNV pg st m k s ws) := by
  induction m with
  | zero =>
    intro k s ws h0 hk hn w
    exact ⟨Tab.refl _ _ _, w, by show countW pg st ws = countW pg st ws - (s - s); omega, Int.le_refl _, fun j hj => by rw [if_neg (by have := isChunk_iff.1 hj; omega)]; rfl⟩
  | succ m ih =>
    intro k s ws h0 hk hn w
    have hc : isChunk pg k = true := isChunk_iff.2 ⟨h0, by omega⟩
    show Trimmed pg st k s ws (trimNV pg st m (k + 1) (s + (trim1V pg st k ws).1) (trim1V pg st k ws).2)
    by_cases e : (mappedV pg st ws k && vacB pg st (firstV pg k) (sizeV pg k) ws) = true
    · have e2 := Bool.and_eq_true_iff.1 e
      have hm : mappedV pg st ws k = true := e2.1
      have hvac : chkVac pg st k ws = true := e2.2
      have ht1 : (turnV pg st k 0 ws).1 = sizeV pg k := by unfold turnV; rw [if_pos hc, if_neg (by rw [hm]; simp)]
      have hs := size_1 hc
      have hv : trim1V pg st k ws = (sizeV pg k, (turnV pg st k 0 ws).2) := by unfold trim1V; rw [if_pos e, ht1, if_pos (by omega)]
      rw [hv]
      show Trimmed pg st k s ws (trimNV pg st m (k + 1) (s + sizeV pg k) (turnV pg st k 0 ws).2)
      have T := tab_turn H k 0 hn
      have w2 : Wf pg st (turnV pg st k 0 ws).2 := T.wf H w (fun p hp hne => by
        rw [map_turn0 H hc (chunk_of hp) hn, if_neg (fun q => hne ((chkVac_iff hc).1 hvac p hp q))]
        exact w.map p hp hne)
      have I := ih (k + 1) (s + sizeV pg k) _ (by omega) (by omega) (T.len.trans hn) w2
      refine ⟨T.trans I.tab, I.wf, ?_, by have := I.le; omega, fun j hj => ?_⟩
      · rw [I.cnt, count_off H.toTblIn hn, ht1]; omega
      · rw [I.map j hj, map_turn0 H hc hj hn]
        have hvc : chkVac pg st j (turnV pg st k 0 ws).2 = chkVac pg st j ws := vac_congr (fun p => T.kind H p) _ _
        rw [hvc]
        by_cases e3 : j = k
        · subst e3; rw [if_neg (by omega), if_pos rfl, if_pos (Int.le_refl _), hvac]; simp
        · rw [if_neg e3]
          by_cases e4 : k + 1 ≤ j
          · rw [if_pos e4, if_pos (by omega)]
          · rw [if_neg e4, if_neg (by omega)]
    · have hv : trim1V pg st k ws = (0, ws) := by unfold trim1V; rw [if_neg e]
      rw [hv]
      show Trimmed pg st k s ws (trimNV pg st m (k + 1) (s + 0) ws)
      have I := ih (k + 1) (s + 0) ws (by omega) (by omega) hn w
      refine ⟨I.tab, I.wf, by rw [I.cnt]; omega, by have := I.le; omega, fun j hj => ?_⟩
      rw [I.map j hj]
      by_cases e3 : j = k
      · subst e3
        rw [if_neg (by omega), if_pos (Int.le_refl _)]
        have : ¬ (mappedV pg st ws j = true ∧ chkVac pg st j ws = true) := fun q => e (by rw [Bool.and_eq_true]; exact q)
        cases h1 : mappedV pg st ws j <;> cases h2 : chkVac pg st j ws <;> simp [h1, h2] at this ⊢
      · by_cases e4 : k + 1 ≤ j
        · rw [if_pos e4, if_pos (by omega)]
        · rw [if_neg e4, if_neg (by omega)]
theorem trim_spec {ws : List Int} (hn : ws.length = n) (w : Wf pg st ws) : Trimmed pg st 0 0 ws (trimV pg st ws) := by
  have : 0 ≤ chunksV pg := by have := H.pg1; unfold chunksV; omega
  exact trimN_spec H (chunksV pg).toNat 0 0 ws (Int.le_refl _) (by omega) hn w

/-- A step, over words. -/
def edoneV (pg st kind p m k : Int) (ws : List Int) : (Int × Int × Int) × List Int :=
  if kind = 0 then ((findV pg st m k ws, 0, 0), ws)
  else if kind = 1 then ((b2i (takeV pg st p m k ws).1, 0, 0), (takeV pg st p m k ws).2)
  else if kind = 2 then (((dropV pg st p ws).1, 0, 0), (dropV pg st p ws).2)
  else if kind = 3 then (((trimV pg st ws).1, 0, 0), (trimV pg st ws).2)
  else if kind = 5 then ((findV pg st m k ws, b2i (takeV pg st (findV pg st m k ws) m 6 ws).1, 0), (takeV pg st (findV pg st m k ws) m 6 ws).2)
  else ((kindV pg st ws p, fstV pg st p ws, usedV pg st ws), ws)
theorem flat_edone (kind p m k : Int) (hm : W64 m) (hk : W64 k) : Flat n (edoneP pg st kind p m k) (edoneV pg st kind p m k) :=
  flat_ite (fun _ => flat_bind (flat_find H m k) (fun x => flat_pure n (x, 0, 0))) (fun _ => flat_ite (fun _ => flat_bind (flat_take H p m k hk hm) (fun b => flat_pure n (b2i b, 0, 0))) (fun _ => flat_ite (fun _ => flat_bind (flat_drop H p) (fun x => flat_pure n (x, 0, 0))) (fun _ => flat_ite (fun _ => flat_bind (flat_trim H) (fun x => flat_pure n (x, 0, 0))) (fun _ => flat_ite (fun _ => flat_bind (flat_find H m k) (fun q => flat_bind (flat_take H q m 6 w64_6 hm) (fun b => flat_pure n (q, b2i b, 0)))) (fun _ => flat_bind (flat_kind H p) (fun a => flat_bind (flat_first H p) (fun b => flat_bind (flat_used H) (fun c => flat_pure n (a, b, c)))))))))
theorem take_keep {p m k : Int} {ws : List Int} (hn : ws.length = n) (w : Wf pg st ws) : Wf pg st (takeV pg st p m k ws).2 ∧ (takeV pg st p m k ws).2.length = n := by
  unfold takeV
  split
  · rename_i e
    have e := Bool.and_eq_true_iff.1 e
    have T := take_took H (k := k) hn (vacB_iff.1 e.2).1
    exact ⟨wf_took H w e.2 e.1 T, T.len.trans hn⟩
  · exact ⟨w, hn⟩
theorem edone_keep (kind p m k : Int) {ws : List Int} (hn : ws.length = n) (w : Wf pg st ws) : Wf pg st (edoneV pg st kind p m k ws).2 ∧ (edoneV pg st kind p m k ws).2.length = n := by
  unfold edoneV
  split
  · exact ⟨w, hn⟩
  split
  · exact take_keep H hn w
  split
  · have T := drop_fell H p hn
    exact ⟨wf_fell H w T, T.len.trans hn⟩
  split
  · have T := trim_spec H hn w
    exact ⟨T.wf, T.tab.len.trans hn⟩
  split
  · exact take_keep H hn w
  · exact ⟨w, hn⟩
end
def edonesP (pg st : Int) : List Ins4 → Prg Unit
  | [] => pureP ()
  | (a, b, c, d) :: l => bindP (edoneP pg st a b c d) (fun _ => edonesP pg st l)
def edonesV (pg st : Int) : List Ins4 → List Int → List Int
  | [], ws => ws
  | (a, b, c, d) :: l, ws => edonesV pg st l (edoneV pg st a b c d ws).2
theorem sound_edones (pg st : Int) (l : List Ins4) : Sound (edonesP pg st l) := by
  induction l with
  | nil => exact sound_pure _
  | cons i l ih => exact sound_bind (sound_edone _ _ _ _ _ _) (fun _ => ih)
section
variable {pg st : Int} {n : Nat} (H : PgIn pg st n)
include H
theorem good_edones (l : List Ins4) (hO : OkP4 l) : Good n (fun _ => True) (edonesP pg st l) := by
  induction l with
  | nil => exact good_pure n trivial
  | cons i l ih =>
    have h := hO i (by simp)
    exact good_bind (good_edone H _ _ _ _ h.2.1 h.2.2) (fun _ _ => ih (fun x hx => hO x (by simp [hx])))
theorem flat_edones (l : List Ins4) (hO : OkP4 l) : Flat n (edonesP pg st l) (fun ws => ((), edonesV pg st l ws)) := by
  induction l with
  | nil => exact flat_pure n ()
  | cons i l ih =>
    have h := hO i (by simp)
    exact flat_bind (flat_edone H _ _ _ _ h.2.1 h.2.2) (fun _ => ih (fun x hx => hO x (by simp [hx])))
theorem edones_keep (l : List Ins4) : ∀ ws : List Int, ws.length = n → Wf pg st ws → Wf pg st (edonesV pg st l ws) ∧ (edonesV pg st l ws).length = n := by
  induction l with
  | nil => intro ws hn w; exact ⟨w, hn⟩
  | cons i l ih =>
    intro ws hn w
    obtain ⟨a, b⟩ := edone_keep H i.1 i.2.1 i.2.2.1 i.2.2.2 hn w
    exact ih _ b a
theorem wf_zeros : Wf pg st (zeros n) := by
  have hz : ∀ i : Int, wAt (zeros n) i = 0 := fun i => by
    unfold wAt zeros
    simp only [List.getD, List.getElem?_replicate]
    split <;> rfl
  have hk : ∀ p, kindV pg st (zeros n) p = 0 ∨ kindV pg st (zeros n) p = -1 := fun p => by
    unfold kindV; split
    · exact .inl (hz _)
    · exact .inr rfl
  refine ⟨fun p hp => ?_, fun p hp => ?_, fun p hp => ?_, fun p hp => ⟨hz _, hz _⟩, fun p hp hne => ?_⟩
  · rw [kind_in hp, hz]; omega
  · rcases hk p with h | h <;> omega
  · rcases hk p with h | h <;> omega
  · rw [kind_in hp, hz] at hne; omega
end
end Go.Proofs.Ytjljkidlhlgefaa

namespace Go.Proofs.Ytjljkidlhlgefaa
open Go.ChangeShapes Go.WideShapes Go.ChangeAt Go.RowKit Go.Joins Go.Deep
set_option linter.unusedVariables false
set_option linter.unusedSimpArgs false

def IsIns4 (w : World) (a : Option Addr) (l : List Ins4) : Prop :=
  l = [] ∨ ∃ s o, a = some ⟨s, o, none⟩ ∧ s < w.heap.size ∧ ∀ i t, l[i]? = some t → w.cell? ⟨s, o + i * 4, none⟩ = some (.int .i64 t.1) ∧ w.cell? ⟨s, o + i * 4 + 1, none⟩ = some (.int .i64 t.2.1) ∧ w.cell? ⟨s, o + i * 4 + 2, none⟩ = some (.int .i64 t.2.2.1) ∧ w.cell? ⟨s, o + i * 4 + 3, none⟩ = some (.int .i64 t.2.2.2)
theorem IsIns4.keep {w w' : World} {a : Option Addr} {l : List Ins4} (h : IsIns4 w a l) {S : Nat → Prop} (t : Turned S w w') (hs : l ≠ [] → ∀ k, leads a k → ¬ S k) : IsIns4 w' a l := by
  rcases h with h | ⟨s, o, rfl, hl, hc⟩
  · exact .inl h
  · by_cases e : l = []
    · exact .inl e
    · exact .inr ⟨s, o, rfl, Nat.lt_of_lt_of_le hl t.size, fun i u hi => by
        obtain ⟨c0, c1, c2, c3⟩ := hc i u hi
        exact ⟨cell_turned t (hs e s rfl) c0, cell_turned t (hs e s rfl) c1, cell_turned t (hs e s rfl) c2, cell_turned t (hs e s rfl) c3⟩⟩
theorem IsIns4.more {w w' : World} {a : Option Addr} {l : List Ins4} (h : IsIns4 w a l) (t : More w w') : IsIns4 w' a l := h.keep t (fun _ _ _ q => q)
theorem IsIns4.lt {w : World} {a : Option Addr} {l : List Ins4} (h : IsIns4 w a l) (hne : l ≠ []) : ∀ b, leads a b → b < w.heap.size := fun b hb => by
  obtain ⟨s, o, rfl, hs, _⟩ := h.resolve_left hne
  have : s = b := by simpa [leads] using hb
  omega
section
variable {H : Type} {enc : TypeId × Value → H} {P : Program} {w : World} {base : Nat} {spare : Nat → Bool} {held : Bool}
theorem isIns4_of {t e : TypeId} {f0 f1 f2 f3 : Field} {a : Option Addr} {len cap : Nat} {d : DataW H} {p : List MemPlace} (ht : P.underlying t = some (.slice e)) (hs : P.underlying e = some (.struct #[f0, f1, f2, f3])) (hone : oneCellFields P #[f0, f1, f2, f3] = true) (hC : P.cellsOf e = 4)
    (u0 : P.underlying f0.type = some (.int .i64)) (u1 : P.underlying f1.type = some (.int .i64)) (u2 : P.underlying f2.type = some (.int .i64)) (u3 : P.underlying f3.type = some (.int .i64))
    (h : DataW.Trod enc P w base spare held t (.slice a len cap) d p) : ∃ l : List Ins4, l.length = len ∧ IsIns4 w a l ∧ OkP4 l ∧ l.length ≤ 9223372036854775807 := by
  obtain ⟨fuel, hf⟩ := h
  have zero : ∀ n, len = n → n = 0 → ∃ l : List Ins4, l.length = len ∧ IsIns4 w a l ∧ OkP4 l ∧ l.length ≤ 9223372036854775807 := fun n h0 h1 => ⟨[], by rw [h0, h1]; rfl, .inl rfl, (fun p hp => by cases hp), by simp⟩
  rcases open_slice ht hf with ⟨hcs, _⟩ | ⟨x, l, c, m, n, D, Pl, hcs, _, hl, hm, hmm, _, hi⟩
  · simp [Value.cells] at hcs
    obtain ⟨rfl, rfl, rfl⟩ := hcs
    exact zero _ rfl rfl
  · simp [Value.cells] at hcs
    obtain ⟨rfl, rfl, rfl⟩ := hcs
    have key : ∀ i, i < len → ∃ g : Ins4, w.cell? (x.add (i * 4)) = some (.int .i64 g.1) ∧ w.cell? (x.add (i * 4 + 1)) = some (.int .i64 g.2.1) ∧ w.cell? (x.add (i * 4 + 2)) = some (.int .i64 g.2.2.1) ∧ w.cell? (x.add (i * 4 + 3)) = some (.int .i64 g.2.2.2) ∧ W64 g.1 ∧ W64 g.2.1 ∧ W64 g.2.2.1 ∧ W64 g.2.2.2 := by
      intro i hil
      obtain ⟨cs', hc, ht'⟩ := hi i (by have := hmm; split at this <;> omega)
      rw [hC] at hc
      obtain ⟨_, hcl, hat⟩ := World.cells?_some hc
      obtain ⟨c0, c1, c2, c3, rfl⟩ : ∃ c0 c1 c2 c3, cs' = [c0, c1, c2, c3] := by
        match cs', hcl with
        | [c0, c1, c2, c3], _ => exact ⟨c0, c1, c2, c3, rfl⟩
      obtain ⟨y0, y1, y2, y3, n', _, _, h0, h1, h2, h3⟩ := trod_struct4 hs ht'
      obtain ⟨o0, k0⟩ := hone_of hone 0 f0 rfl
      obtain ⟨o1, k1⟩ := hone_of hone 1 f1 rfl
      obtain ⟨o2, k2⟩ := hone_of hone 2 f2 rfl
      obtain ⟨o3, k3⟩ := hone_of hone 3 f3 rfl
      rw [o0, k0] at h0; rw [o1, k1] at h1; rw [o2, k2] at h2; rw [o3, k3] at h3
      obtain ⟨x0, e0, _, w0⟩ := DataW.trod_int u0 h0
      obtain ⟨x1, e1, _, w1⟩ := DataW.trod_int u1 h1
      obtain ⟨x2, e2, _, w2⟩ := DataW.trod_int u2 h2
      obtain ⟨x3, e3, _, w3⟩ := DataW.trod_int u3 h3
      simp at e0 e1 e2 e3
      subst e0 e1 e2 e3
      have a0 := hat 0 (by omega)
      have a1 := hat 1 (by omega)
      have a2 := hat 2 (by omega)
      have a3 := hat 3 (by omega)
      rw [Go.Deep.add_add] at a0 a1 a2 a3
      exact ⟨(x0, x1, x2, x3), a0, a1, a2, a3, of_wf w0, of_wf w1, of_wf w2, of_wf w3⟩
    by_cases h0 : len = 0
    · exact zero _ rfl h0
    · obtain ⟨s, o, spot⟩ := x
      obtain ⟨g0, hg0, _⟩ := key 0 (by omega)
      have hspot : spot = none := by simpa [Addr.add] using World.cell?_spot hg0
      subst hspot
      have hF : ∀ i, ∃ g : Ins4, i < len → w.cell? ⟨s, o + i * 4, none⟩ = some (.int .i64 g.1) ∧ w.cell? ⟨s, o + i * 4 + 1, none⟩ = some (.int .i64 g.2.1) ∧ w.cell? ⟨s, o + i * 4 + 2, none⟩ = some (.int .i64 g.2.2.1) ∧ w.cell? ⟨s, o + i * 4 + 3, none⟩ = some (.int .i64 g.2.2.2) ∧ W64 g.1 ∧ W64 g.2.1 ∧ W64 g.2.2.1 ∧ W64 g.2.2.2 := by
        intro i
        by_cases hil : i < len
        · obtain ⟨g, hg⟩ := key i hil
          exact ⟨g, fun _ => by simp only [Nat.add_assoc]; simp only [← addr_add']; exact hg⟩
        · exact ⟨(0, 0, 0, 0), fun q => absurd q hil⟩
      have hm' : cap ≤ 9223372036854775807 := by unfold maxLen at hm; exact hm
      have hspec := fun i hil => Classical.choose_spec (hF i) hil
      refine ⟨(List.range len).map fun i => Classical.choose (hF i), by simp, .inr ⟨s, o, rfl, lt_of_cell (hspec 0 (by omega)).1, fun i t ht => ?_⟩, fun t ht => ?_, by simp; omega⟩
      · obtain ⟨hil, rfl⟩ := list_get ht
        have q := hspec i hil
        exact ⟨q.1, q.2.1, q.2.2.1, q.2.2.2.1⟩
      · obtain ⟨i, hi', rfl⟩ := List.mem_map.1 ht
        have q := hspec i (by simpa using hi')
        exact ⟨q.2.2.2.2.2.1, q.2.2.2.2.2.2.1, q.2.2.2.2.2.2.2⟩
end
end Go.Proofs.Ytjljkidlhlgefaa

namespace Go.Proofs.Ytjljkidlhlgefaa
open Go.RowKit Go.Sort Go.Maps Go.Shelf
set_option linter.unusedVariables false
set_option linter.unusedSimpArgs false

theorem run_loadVar_four {P : Program} (w : World) (s off : Nat) (ty : TypeId) (v0 v1 v2 v3 : Value) (d : TypeDesc) (h0 : w.cell? ⟨s, off, none⟩ = some v0) (h1 : w.cell? ⟨s, off + 1, none⟩ = some v1) (h2 : w.cell? ⟨s, off + 2, none⟩ = some v2) (h3 : w.cell? ⟨s, off + 3, none⟩ = some v3)
    (hu : P.underlying ty = some d) (hd : (match d with | .struct _ | .array _ _ => true | _ => false) = true) (hi : (P.info? ty).map (·.size) = some 4) :
    (loadVar ty ⟨s, off, none⟩).run P w = .ok (.agg #[v0, v1, v2, v3]) w := by
  have hl : (loadCells ⟨s, off, none⟩ [v0, v1, v2, v3].length).run P w = .ok [v0, v1, v2, v3].toArray w :=
    run_loadCells_list (P := P) w ⟨s, off, none⟩ [v0, v1, v2, v3] (fun j v hv => by
      rw [addr_add]
      match j, hv with
      | 0, hv => cases hv; exact h0
      | 1, hv => cases hv; exact h1
      | 2, hv => cases hv; exact h2
      | 3, hv => cases hv; exact h3
      | j + 4, hv => simp at hv)
  cases hq : P.info? ty with
  | none => simp [hq] at hi
  | some i =>
    have hs : i.size = 4 := by simpa [hq] using hi
    have hagg : (isAgg ty).run P w = .ok true w := by
      unfold isAgg
      rw [Sem.run_bind, run_underlying hu w]
      cases d <;> simp_all
    simp only [List.length_cons, List.length_nil, Nat.reduceAdd] at hl
    simp [loadVar, Sem.run_bind, hagg, sizeOf, typeInfo, hq, hs, hl]
theorem wpQuiet_load_four {P : Program} {ops : Array Oper} {a : Act} {o : Oper} {rest : List Oper} {C : World → Prop} {Q : Act → Prop} (hw : Region.wanted o (yielded ops a.tmps) = true) (ty : TypeId) (x : Operand) (ho : o.op = .load ty x)
    (s off : Nat) (hx : a.eval x = .pointer (some ⟨s, off, none⟩)) (v0 v1 v2 v3 : Value) (d : TypeDesc) (hg : ∀ W, C W → W.cell? ⟨s, off, none⟩ = some v0 ∧ W.cell? ⟨s, off + 1, none⟩ = some v1 ∧ W.cell? ⟨s, off + 2, none⟩ = some v2 ∧ W.cell? ⟨s, off + 3, none⟩ = some v3)
    (hu : P.underlying ty = some d) (hd : (match d with | .struct _ | .array _ _ => true | _ => false) = true) (hi : (P.info? ty).map (·.size) = some 4)
    (h : wpQuiet P ops C Q rest (a.put o.dst (.agg #[v0, v1, v2, v3]))) : wpQuiet P ops C Q (o :: rest) a := by
  refine wpQuiet_do (.agg #[v0, v1, v2, v3]) hw (fun W hW => ?_) h
  obtain ⟨h0, h1, h2, h3⟩ := hg W hW
  unfold Oper.quietAt execOp
  simp only [ho, hx, Instr.loadAt, Instr.sureAddr, Sem.run_bind, Sem.run_pure, Result.andThen_ok, run_loadVar_four W s off ty v0 v1 v2 v3 d h0 h1 h2 h3 hu hd hi]
  exact ⟨rfl, rfl⟩
theorem drop_at4 {α : Type} {l : List α} {j : Nat} {x : α} (h : l[j]? = some x) : l.drop j = x :: l.drop (j + 1) := by
  have hj : j < l.length := by
    rcases Nat.lt_or_ge j l.length with q | q
    · exact q
    · rw [List.getElem?_eq_none q] at h; cases h
  rw [List.drop_eq_getElem_cons hj]
  rw [List.getElem?_eq_getElem hj] at h
  cases h; rfl
structure AfY (c : Cfg) (a : Option Addr) (capl : Nat) (l : List Ins4) (g1 g2 : Nat) (w : World) : Prop where
  h1 : w.heap[g1]? = some (.cells #[.slice a l.length capl] 50 (0, 0))
  h2 : w.heap[g2]? = some (.cells c.arr 28 (0, 0))
  ins : IsIns4 w a l
theorem AfY.keep {c : Cfg} {a : Option Addr} {capl : Nat} {l : List Ins4} {g1 g2 : Nat} {S : Nat → Prop} {w w' : World} (h : AfY c a capl l g1 g2 w) (t : Turned S w w') (n1 : ¬ S g1) (n2 : ¬ S g2) (n3 : l ≠ [] → ∀ k, leads a k → ¬ S k) : AfY c a capl l g1 g2 w' :=
  ⟨(t.block g1 (lt_of_heap h.h1) n1).trans h.h1, (t.block g2 (lt_of_heap h.h2) n2).trans h.h2, h.ins.keep t n3⟩

set_option maxRecDepth 100000 in
set_option maxHeartbeats 2000000 in
theorem after_clo {c : Cfg} (R : c.Ok) {n : Nat} (H : PgIn c.pg c.st n) (hn : n ≤ 10000) (F : Nat → Prop) (p g1 g2 : Nat) (kn : Int → Option Int) (a : Option Addr) (capl : Nat) (l : List Ins4) (hO : OkP4 l) (hll : l.length ≤ 1000) (W : World) (hv : ViewAt W F p kn []) (hk : OkK kn)
    (hY : AfY c a capl l g1 g2 W) (n1 : ¬ F g1) (n2 : ¬ F g2) (n3 : l ≠ [] → ∀ k, leads a k → ¬ F k) :
    Calls Try.prog 50 #[.pointer (some ⟨p, 0, none⟩), .pointer (some ⟨g1, 0, none⟩), .pointer (some ⟨g2, 0, none⟩)] W (WentY W F (fun _ => False) (fun w' => AfY c a capl l g1 g2 w') (fun _ => True) p kn (ranOf (edonesP c.pg c.st l kn []))) := by
  obtain ⟨Rr, hR⟩ : ∃ Rr, edonesP c.pg c.st l kn [] = Rr := ⟨_, rfl⟩
  rw [hR]
  have HYY := Lib.hid hY
  have KEEP : Hid (∀ w', Turned (fun b => F b ∨ False) W w' → AfY c a capl l g1 g2 w') := Lib.hid fun w' t => HYY.out.keep t (by rintro (q | q); exact n1 q; exact q) (by rintro (q | q); exact n2 q; exact q) (by rintro ne k hk (q | q); exact n3 ne k hk q; exact q)
  have NEED : Hid (∀ a' w2, Rr = .need a' → DeadAt w2 p a' → Turned (fun b => F b ∨ False) W w2 → WentY W F (fun _ => False) (fun w' => AfY c a capl l g1 g2 w') (fun _ => True) p kn (ranOf Rr) (.panicked (endOf p)) w2) := Lib.hid fun a' w2 e hd ht => wy_need (ranOf_need e) hd ht (KEEP.out _ ht)
  have DONE : Hid (∀ w2 D F', Rr = .ok () D → MidV W w2 F (fun _ => False) p kn n D F' → WentY W F (fun _ => False) (fun w' => AfY c a capl l g1 g2 w') (fun _ => True) p kn (ranOf Rr) (.returned (.tuple #[])) w2) := Lib.hid fun w2 D F' e h => wy_done h (ranOf_ok e) (KEEP.out _ h.turn) trivial
  have START := Lib.hid (And.intro (MidV.begin (W := W) (F := F) (S := fun _ => False) (p := p) (kn := kn) hv (invD_nil n)) hR)
  have HK := Lib.hid hk
  have HR := Lib.hid R
  have HH := Lib.hid H
  have OP := Lib.hid hO
  clear hv hR hY n1 n2 n3 hk R H hO
  go_enter Try.func50, Try.ntmps50
  go_wp2_with fail
  go_loopw [4] (fun v4 wr => ∃ (j : Nat) (D : List KV) (F' : Nat → Prop), v4 = .int .i64 (j : Int) ∧ j ≤ l.length ∧ MidV W wr F (fun _ => False) p kn n D F' ∧ edonesP c.pg c.st (l.drop j) kn D = Rr) (fun v4 _ => l.length - (intOf v4).toNat)
  case atStart => exact ⟨0, [], F, rfl, by omega, START.out.1, START.out.2⟩
  case round =>
    clear START
    obtain ⟨j, D, F', rfl, hjl, MI, hrest⟩ := hrel
    have MI := Lib.hid MI
    have KY := KEEP.out _ MI.out.turn
    have c1 := (box_cells KY.h1).1
    have q1 : IntKind.i64.wrap ((j : Int) + 1) = (j : Int) + 1 := wrap_in (by omega) (by omega)
    by_cases hlt : j < l.length
    · have d1 : decide ((j : Int) < (l.length : Int)) = true := by simp; omega
      obtain ⟨⟨kind, q, m, k⟩, hj⟩ : ∃ t, l[j]? = some t := ⟨_, List.getElem?_eq_getElem hlt⟩
      rw [drop_at4 hj] at hrest
      have RI := Lib.hid (show bindP (edoneP c.pg c.st kind q m k) (fun _ => edonesP c.pg c.st (l.drop (j + 1))) kn D = Rr from hrest)
      obtain ⟨s, o, rfl, hs, hc⟩ := KY.ins.resolve_left (by intro e; rw [e] at hlt; simp at hlt)
      obtain ⟨y0, y1, y2, y3⟩ := hc j _ hj
      simp only at y0 y1 y2 y3
      have C4 := Lib.hid (fun W' (hm : More wr W') => And.intro (hm.cell y0) (And.intro (hm.cell y1) (And.intro (hm.cell y2) (hm.cell y3))))
      have K2 := Lib.hid KY.h2
      obtain ⟨hq, hm, hk⟩ := OP.out _ (List.mem_of_getElem? hj)
      have EN := Lib.hid (fun w' (hm' : More wr w') => e_done HR.out HH.out hn F' p kn D kind q m k hq hm hk w' (MI.out.view.more hm') HK.out MI.out.inv)
      have GD := Lib.hid (good_edone HH.out kind q m k hm hk)
      clear hrest y0 y1 y2 y3 hc KY hq hm hk hj
      go_wp2_with fail
      refine wp_region_more_tail 6 (by kernel_rfl) (by kernel_rfl) ?_
      simp only [List.take_succ_cons, List.take_zero, List.drop_succ_cons, List.drop_zero]
      iterate 1
        with_reducible refine wpQuiet_step (fun K hK => ?_)
        go_simp
        first
        | (refine hK _ ?_; clear hK K)
        | (apply Exists.intro
           refine ⟨fun W hW => ?_, hK _ ?_⟩
           first
           | (go_simp; try rfl)
           clear hK K)
      refine wpQuiet_load_row rfl 28 _ rfl _ rfl 28 _ _ _ (fun W hW => hW.block K2.out) Try.underlying28 rfl (by kernel_rfl) ?_
      iterate 3
        with_reducible refine wpQuiet_step (fun K hK => ?_)
        go_simp
        first
        | (refine hK _ ?_; clear hK K)
        | (apply Exists.intro
           refine ⟨fun W hW => ?_, hK _ ?_⟩
           first
           | (have c1' := hW.cell c1; go_simp; try rfl)
           clear hK K)
      refine wpQuiet_load_four rfl 85 _ rfl s (o + j * 4) rfl _ _ _ _ _ (fun W hW => C4.out W hW) Try.underlying85 rfl (by kernel_rfl) ?_
      refine wpQuiet_nil ?_
      intro w2 m2
      have M2 := Lib.hid m2
      clear m2 c1
      go_wp2_with fail
      refine (EN.out w2 M2.out).mono ?_
      intro e w3 he
      rcases MI.out.step M2.out HK.out GD.out he with ⟨a', hE, rfl, hd', ht', _⟩ | ⟨x3, D3, F3, hE, rfl, M3, hq3, _, _⟩
      · exact ⟨rfl, NEED.out a' w3 (RI.out.symm.trans (bindP_need hE)) hd' ht'⟩
      have R3 := Lib.hid ((bindP_ok hE).symm.trans RI.out)
      have M3 := Lib.hid M3
      clear he hE EN GD
      go_wp2_with fail
      go_roundw
      case rel => exact ⟨j + 1, D3, F3, by go_num, by omega, M3.out, R3.out⟩
      case measure => simp [intOf]; omega
    · obtain rfl : j = l.length := by omega
      have d1 : decide ((l.length : Int) < (l.length : Int)) = false := by simp
      rw [List.drop_length] at hrest
      have FIN := Lib.hid (DONE.out _ D F' hrest.symm MI.out)
      clear hrest KY
      go_wp2_with fail
      go_end0
      exact FIN.out

/-- Words behind any program that comes to its end over them. -/
theorem okW_apply {n : Nat} {zs : List Int} {D : List KV} (hz : OkW zs) (h : InvD n D) (hn : zs.length = n) : OkW (applyD zs D) := by
  subst hn
  intro x hx
  obtain ⟨i, hi, rfl⟩ := List.getElem_of_mem hx
  have hl : i < zs.length := by rw [applyD_len] at hi; exact hi
  have h1 := word_all (zs := zs) h (a := (i : Int)) (by omega) (by omega)
  have h2 : wAt (applyD zs D) (i : Int) = (applyD zs D)[i] := by simp [wAt, List.getD, hi]
  rw [← h2]
  exact word_ok (okK_all hz) h.ok h1
theorem after_call {c : Cfg} (R : c.Ok) (zs : List Int) (H : PgIn c.pg c.st zs.length) (hlen : zs.length ≤ 1000) (hz : OkW zs) (w : World) (g1 g2 : Nat) (a : Option Addr) (cap : Nat) (al : Option Addr) (capl : Nat) (l : List Ins4) (hO : OkP4 l) (hll : l.length ≤ 1000) (hY : AfY c al capl l g1 g2 w) (hw : IsWords w a zs) :
    OkW (edonesV c.pg c.st l zs) ∧ Calls Try.prog 9 #[.slice a zs.length cap, .func (.func 50) #[] #[.pointer (some ⟨g1, 0, none⟩), .pointer (some ⟨g2, 0, none⟩)]] w (fun e w' => ∃ v1 v2, e = .returned (.tuple #[v1, v2, .int .i64 0]) ∧ Rw w.heap.size w' v1 (edonesV c.pg c.st l zs) ∧ More w w') := by
  have l1 := lt_of_heap hY.h1
  have l2 := lt_of_heap hY.h2
  have G := good_edones H l hO
  obtain ⟨D, hD, ha, hi⟩ := flat_edones H l hO zs [] rfl hz (invD_nil _)
  obtain ⟨K', hK', _, _⟩ := flat_do (sound_edones c.pg c.st l) G hz (flat_edones H l hO)
  have ha2 : applyD zs D = edonesV c.pg c.st l zs := ha
  refine ⟨by rw [← ha2]; exact okW_apply hz hi rfl, ?_⟩
  have hlt : l ≠ [] → ∀ k, leads al k → k < w.heap.size := fun ne => hY.ins.lt ne
  have M := doY_ok a cap zs (fun K => ranOf (edonesP c.pg c.st l (look K) [])) (some (edonesV c.pg c.st l zs, K')) zs.length w hw hlen hz (fine_of G hz (by omega)) (by omega) hK' 50 #[.pointer (some ⟨g1, 0, none⟩), .pointer (some ⟨g2, 0, none⟩)] (fun _ => False)
    (fun w' => AfY c al capl l g1 g2 w') (fun _ => True) (fun k q => q.elim)
    (fun w' w'' y t => y.keep t (by omega) (by omega) (fun ne k hk q => by have := hlt ne k hk; omega)) (fun _ _ _ _ => trivial) hY (enters_of Try.func50 (by kernel_rfl) rfl)
    (fun K hK W F p t yy hv hF => after_clo R H (by omega) F p g1 g2 (look K) al capl l hO hll W hv (okK_of hK hz) yy (fun q => by have := hF _ q; omega) (fun q => by have := hF _ q; omega) (fun ne k hk q => by have := hF _ q; have := hlt ne k hk; omega))
  refine M.mono ?_
  rintro e w' ⟨v1, v2, rfl, r1, _, t, _, _⟩
  exact ⟨v1, v2, rfl, r1, t⟩
end Go.Proofs.Ytjljkidlhlgefaa

namespace Go.Proofs.Ytjljkidlhlgefaa
open Go.RowKit Go.Sort Go.Maps Go.Shelf
set_option linter.unusedVariables false
set_option linter.unusedSimpArgs false

theorem Cfg.Small.pgin {c : Cfg} (S : c.Small) {n : Nat} (hn : (n : Int) = c.words) : PgIn c.pg c.st n := by
  refine { S.tbl hn with top5 := ?_ }
  rw [hn]
  have h2 := userB S.ok; have h3 := S.ok.pg1
  have h5 : headsV c.st c.pg ≤ liveV c.cp c.pg c.st c.ca c.bi := by
    have := prod5B S.ok; have := S.ok.bi1
    unfold liveV binsV cachesV; omega
  show _ ≤ wordsV c.cp c.pg c.st c.ca c.bi
  unfold wordsV
  unfold headsV at h5
  omega
theorem results_ctt {P : Program} {fn : Func} {p q u : Tmp} {tp : TypeId} (h : fn.results = #[.cell p tp, .tmp q, .tmp u]) (tmps : Array Value) (w : World) (g : Nat) (v : Value) (hp : tmps.getD p undef = .pointer (some ⟨g, 0, none⟩))
    (h1 : (loadVar tp ⟨g, 0, none⟩).run P w = .ok v w) : (results fn tmps).run P w = .ok (.tuple #[v, tmps.getD q undef, tmps.getD u undef]) w := by
  have hp' : tmps[p]?.getD undef = .pointer (some ⟨g, 0, none⟩) := by simpa using hp
  simp [results, h, asAddr, hp', h1, Sem.run_bind, Result.andThen]
/-- What after answers. -/
def Aftered (w : World) (d : Cfg) (n : Nat) (zs : List Int) (e : Ending) (w' : World) : Prop :=
  ∃ gz cz, e = .returned (.tuple #[.agg d.arr, .slice (some ⟨gz, 0, none⟩) n cz, .bool true]) ∧ Ws w' gz cz zs ∧ w.heap.size ≤ gz ∧ More w w'
set_option maxRecDepth 100000 in
set_option maxHeartbeats 4000000 in
theorem after_ok (y0 y1 y2 y3 y4 y5 y6 y7 y8 y9 y10 : Int) (f0 : (Lit.int .i64 y0).wf = true) (f1 : (Lit.int .i64 y1).wf = true) (f2 : (Lit.int .i64 y2).wf = true) (f3 : (Lit.int .i64 y3).wf = true) (f4 : (Lit.int .i64 y4).wf = true) (f5 : (Lit.int .i64 y5).wf = true) (f6 : (Lit.int .i64 y6).wf = true) (f7 : (Lit.int .i64 y7).wf = true) (f8 : (Lit.int .i64 y8).wf = true) (f9 : (Lit.int .i64 y9).wf = true) (f10 : (Lit.int .i64 y10).wf = true) (l : List Ins4) (ho : OkP4 l) (hll : l.length ≤ 1000) :
    ∃ (d : Cfg) (n : Nat) (zs : List Int), d.Small ∧ (n : Int) = d.words ∧ zs.length = n ∧ OkW zs ∧ Wf d.pg d.st zs ∧ Hid (∀ (a : Option Addr) (capl : Nat) (w : World), IsIns4 w a l → Calls Try.prog 19 #[.agg #[.int .i64 y0, .int .i64 y1, .int .i64 y2, .int .i64 y3, .int .i64 y4, .int .i64 y5, .int .i64 y6, .int .i64 y7, .int .i64 y8, .int .i64 y9, .int .i64 y10], .slice a l.length capl] w (Aftered w d n zs)) := by
  obtain ⟨d, S, BEG⟩ := begin_at y0 y1 y2 y3 y4 y5 y6 y7 y8 y9 y10 f0 f1 f2 f3 f4 f5 f6 f7 f8 f9 f10
  have wds := S.words
  obtain ⟨n, hn⟩ : ∃ n : Nat, (n : Int) = d.words := ⟨d.words.toNat, by omega⟩
  have H := S.pgin hn
  have hz := zeros_len n
  have keep := edones_keep H l (zeros n) hz (wf_zeros H)
  have ok := fun (w : World) (g1 g2 : Nat) (a : Option Addr) (cap : Nat) (al : Option Addr) (capl : Nat) => after_call (c := d) S.ok (zeros n) (by rw [hz]; exact H) (by rw [hz]; omega) (okW_zeros n) w g1 g2 a cap al capl l ho hll
  have okw : OkW (edonesV d.pg d.st l (zeros n)) := by
    obtain ⟨D, hD, ha, hi⟩ := flat_edones H l ho (zeros n) [] hz (okW_zeros n) (invD_nil _)
    have ha2 : applyD (zeros n) D = edonesV d.pg d.st l (zeros n) := ha
    rw [← ha2]; exact okW_apply (okW_zeros n) hi hz
  refine ⟨d, n, edonesV d.pg d.st l (zeros n), S, hn, keep.2, okw, keep.1, Lib.hid fun a capl w hl => ?_⟩
  have EL := Lib.hid keep.2
  have OK := Lib.hid ok
  have HZ := Lib.hid hz
  clear f0 f1 f2 f3 f4 f5 f6 f7 f8 f9 f10 ho keep okw ok hz H
  generalize edonesV d.pg d.st l (zeros n) = xs at EL OK ⊢
  obtain ⟨w3, e3, ha, hb, hc, m3, s3⟩ := entry3 w (.cells #[.int .i64 y0, .int .i64 y1, .int .i64 y2, .int .i64 y3, .int .i64 y4, .int .i64 y5, .int .i64 y6, .int .i64 y7, .int .i64 y8, .int .i64 y9, .int .i64 y10] 23) (.cells #[.slice a l.length capl] 50) (.cells zero24 28)
  have HA := Lib.hid ha
  have HB := Lib.hid hb
  have HC := Lib.hid hc
  have M3 := Lib.hid m3
  have HL := Lib.hid (hl.more m3)
  clear ha hb hc m3 hl
  go_enter Try.func19, Try.ntmps19
  go_wp2_with (refine wpList_load_row rfl 23 _ rfl w.heap.size rfl 23 _ _ _ HA.out Try.underlying23 rfl (by kernel_rfl) ?_)
  clear e3
  refine (BEG.out _).mono ?_
  rintro e w5 ⟨g, n', hn', rfl, hrw, m5⟩
  obtain rfl : n' = n := by omega
  obtain ⟨w6, e6, b1, b2, b3, m6, s6⟩ := rows2 w5 zero24 zero11 d.arr d.cells 28 30
  have wz : Ws w5 g n' (zeros n') := Ws.of_rw (base := w3.heap.size) (by rw [HZ.out]; exact hrw)
  have B1 := Lib.hid b1
  have B2 := Lib.hid b2
  have m36 := m5.trans m6
  have AC := Lib.hid (m36.block HB.out)
  have RC := Lib.hid (m36.block HC.out)
  have LC := Lib.hid b3
  have WZ := Lib.hid (wz.more m6)
  have M6 := Lib.hid (M3.out.trans m36)
  have HL6 := Lib.hid (HL.out.more m36)
  have DO := (OK.out w6 (w.heap.size + 1) w5.heap.size (some ⟨g, 0, none⟩) n' a capl ⟨AC.out, LC.out, HL6.out⟩ WZ.out.words).2
  rw [HZ.out] at DO
  have DO := Lib.hid DO
  have h35 := m5.size
  have h5l := lt_of_heap b3
  clear b1 b2 b3 hrw wz m5 m6 m36 BEG OK HA HB HC HL
  go_wp2_with (first
    | (refine wpList_store_row rfl 28 _ _ rfl w5.heap.size _ rfl rfl 28 zero24 B1.out (by kernel_rfl) rfl (arr_one d) ?_)
    | (refine wpList_store_row rfl 30 _ _ rfl (w5.heap.size + 1) _ rfl rfl 30 zero11 B2.out (by kernel_rfl) rfl (cells_one d) ?_))
  clear e6
  refine DO.out.mono ?_
  rintro e w7 ⟨v1, v2, rfl, hr, m7⟩
  obtain ⟨av, cv, rfl, hrd⟩ := hr.reads
  obtain ⟨gz, rfl, hb1, hb2, _⟩ := hrd 0 (by rw [EL.out]; omega)
  have NW := Lib.hid (Ws.of_rw hr)
  rw [EL.out]
  have LC7 := Lib.hid (m7.block LC.out)
  have RC7 := Lib.hid (m7.block RC.out)
  have M7 := Lib.hid (M6.out.trans m7)
  have hgz : w.heap.size ≤ gz := by have := M6.out.size; omega
  have hgz2 : w6.heap.size ≤ gz := hb1
  have lr := lt_of_heap RC.out
  clear hr hrd m7 hb1 hb2 DO
  have e1 : ((n' : Int) == (n' : Int)) = true := by simp
  go_wp2_with (first
    | (refine wpList_load_row rfl 28 _ rfl w5.heap.size rfl 28 _ _ _ LC7.out Try.underlying28 rfl (by kernel_rfl) ?_)
    | (refine wpList_store_row rfl 28 _ _ rfl (w.heap.size + 2) _ rfl rfl 28 zero24 RC7.out (by kernel_rfl) rfl (arr_one d) ?_))
  have tR := Turned.setRow (S := fun b => b = w.heap.size + 2) (Turned.refl _ w7) (w.heap.size + 2) d.arr (fun _ => rfl)
  refine bodyPost_ret (results_ctt Try.results19 _ _ (w.heap.size + 2) (.agg d.arr) rfl (run_loadVar_row _ _ _ _ _ _ _ (setRow_heap _ _ _ _ _ _ RC7.out) Try.underlying28 rfl (by kernel_rfl))) rfl ⟨gz, cv, rfl, NW.out.keep tR (by omega), hgz, ?_⟩
  exact Turned.mono (turned_own (F := fun _ => False) M7.out tR (fun b q => .inr (by omega))) (fun _ _ q => q)
end Go.Proofs.Ytjljkidlhlgefaa

namespace Go.Proofs.Ytjljkidlhlgefaa
open Go.RowKit Go.Sort Go.Maps Go.Shelf
set_option linter.unusedVariables false
set_option linter.unusedSimpArgs false

def efitsP (pg st p m : Int) (mp : Bool) : Prg Bool := if pg - p < m then pureP false else bindP (evacN pg st m.toNat p) (fun b => if b then (if mp then coversP pg st p m else pureP true) else pureP false)
theorem sound_fits (pg st p m : Int) (mp : Bool) : Sound (efitsP pg st p m mp) := sound_ite (sound_pure _) (sound_bind (sound_vacN _ _ _ _) (fun _ => sound_ite (sound_ite (sound_covers _ _ _ _) (sound_pure _)) (sound_pure _)))
theorem good_fits {pg st : Int} {n : Nat} (H : PgIn pg st n) (p m : Int) (mp : Bool) : Good n (fun _ => True) (efitsP pg st p m mp) := good_ite (fun _ => good_pure n trivial) (fun _ => good_bind (good_vacN H _ _) (fun _ _ => good_ite (fun _ => good_ite (fun _ => good_covers H.toTblIn _ _) (fun _ => good_pure n trivial)) (fun _ => good_pure n trivial)))
def fitsV (pg st p m : Int) (mp : Bool) (ws : List Int) : Bool := if pg - p < m then false else (vacBN pg st m.toNat p ws && (if mp then coversW pg st p m ws else true))
theorem flat_fits {pg st : Int} {n : Nat} (H : PgIn pg st n) (p m : Int) (mp : Bool) : Flat n (efitsP pg st p m mp) (fun ws => (fitsV pg st p m mp ws, ws)) := by
  refine flat_eq (flat_ite (fun _ => flat_pure n false) (fun _ => flat_bind (flat_vacN H m.toNat p) (fun b => flat_ite (fun _ => flat_ite (fun _ => flat_covers H.toTblIn p m) (fun _ => flat_pure n true)) (fun _ => flat_pure n false)))) (fun ws _ => ?_)
  unfold fitsV
  by_cases e : pg - p < m
  · simp only [if_pos e]
  · simp only [if_neg e]
    cases vacBN pg st m.toNat p ws <;> cases mp <;> simp

set_option maxRecDepth 100000 in
set_option maxHeartbeats 2000000 in
theorem e_fits9 {c : Cfg} (R : c.Ok) {n : Nat} (H : PgIn c.pg c.st n) (F : Nat → Prop) (p : Nat) (kn : Int → Option Int) (D : List KV) (q m : Int) (mp : Bool) (hq : 0 ≤ q ∧ q ≤ 300) (hm : 0 ≤ m ∧ m ≤ 300) (w : World) (hv : ViewAt w F p kn D) (hk : OkK kn) (hD : InvD n D) :
    Calls Try.prog 22 #[.pointer (some ⟨p, 0, none⟩), .agg c.arr, .int .i64 q, .int .i64 m, .bool mp] w (WentV w F p kn (fun b => .bool b) (efitsP c.pg c.st q m mp kn D)) := by
  obtain ⟨Rr, hRr⟩ : ∃ Rr, efitsP c.pg c.st q m mp kn D = Rr := ⟨_, rfl⟩
  rw [hRr]
  obtain ⟨w1, e1, hl1, m1, s1⟩ := entry1 w (.cells c.arr 28)
  have nFl : ¬ F w.heap.size := fun q => by have := hv.lt _ q; omega
  have MM := Lib.hid m1
  have L0 := Lib.hid hl1
  have M0 : Hid (MidV w1 w1 F (fun _ => False) p kn n D F) := Lib.hid (MidV.begin (hv.more m1) hD)
  have KL : Hid (∀ wr D' F', MidV w1 wr F (fun _ => False) p kn n D' F' → wr.heap[w.heap.size]? = some (.cells c.arr 28 (0, 0))) := Lib.hid fun wr D' F' h => mid_own h L0.out nFl (fun q => q)
  have NEED : Hid (∀ a w2, Rr = .need a → DeadAt w2 p a → Turned (fun b => F b ∨ False) w1 w2 → WentV w F p kn (fun b : Bool => Value.bool b) Rr (.panicked (endOf p)) w2) := Lib.hid fun a w2 e hd ht => mid_need MM.out (fun _ q => q.elim) e hd ht
  have DONE : Hid (∀ x w2 D' F', Rr = .ok x D' → MidV w1 w2 F (fun _ => False) p kn n D' F' → WentV w F p kn (fun b : Bool => Value.bool b) Rr (.returned ((fun b : Bool => Value.bool b) x)) w2) := Lib.hid fun x w2 D' F' e h => mid_done MM.out (fun _ q => q.elim) h e
  have HK := Lib.hid hk
  have HR := Lib.hid R
  have HH := Lib.hid H
  clear hl1 m1 hv hD hk R H nFl
  have hfl := field_pages c
  unfold efitsP at hRr
  have pg1 := HR.out.pg1
  have pg2 := HR.out.pg2
  have q1 : IntKind.i64.wrap (c.pg - q) = c.pg - q := wrap_in (by omega) (by omega)
  by_cases a2 : c.pg - q < m
  · have d2 : decide (c.pg - q < m) = true := by simp [a2]
    rw [if_pos a2] at hRr
    have FIN : Hid (∀ w2, More w1 w2 → WentV w F p kn (fun b : Bool => Value.bool b) Rr (.returned (.bool false)) w2) := Lib.hid fun w2 h => DONE.out false w2 D F hRr.symm (M0.out.more h)
    clear hRr
    go_enter Try.func22, Try.ntmps22
    go_wp2_with (first | (refine wpList_load_row rfl 28 _ rfl _ rfl 28 _ _ _ L0.out Try.underlying28 rfl (by kernel_rfl) ?_) | (refine wpList_load_rowG rfl 28 _ rfl _ rfl 28 _ _ _ L0.out Try.underlying28 rfl (by kernel_rfl) ?_))
    refine (y_config HR.out _).mono ?_
    rintro e w2 ⟨rfl, h2⟩
    have H2 := Lib.hid h2
    clear h2
    go_wp2_with fail
    go_ret
    exact FIN.out _ H2.out
  have d2 : decide (c.pg - q < m) = false := by simp; omega
  rw [if_neg a2] at hRr
  have HRr := Lib.hid hRr
  have q2 : IntKind.i64.wrap (q + m) = q + m := wrap_in (by omega) (by omega)
  have hqw : W64 q := by unfold W64; omega
  clear hRr
  go_enter Try.func22, Try.ntmps22
  go_wp2_with (first | (refine wpList_load_row rfl 28 _ rfl _ rfl 28 _ _ _ L0.out Try.underlying28 rfl (by kernel_rfl) ?_) | (refine wpList_load_rowG rfl 28 _ rfl _ rfl 28 _ _ _ L0.out Try.underlying28 rfl (by kernel_rfl) ?_))
  refine (y_config HR.out _).mono ?_
  rintro e w2 ⟨rfl, h2⟩
  have START := Lib.hid (And.intro (M0.out.more h2) HRr.out)
  clear h2 HRr
  go_wp2_with fail
  go_loopw [11] (fun v9 wr => ∃ (i : Nat) (D' : List KV) (F' : Nat → Prop), v9 = .int .i64 (q + (i : Int)) ∧ (i : Int) ≤ m ∧ MidV w1 wr F (fun _ => False) p kn n D' F' ∧ bindP (evacN c.pg c.st (m.toNat - i) (q + (i : Int))) (fun b => if b then (if mp then coversP c.pg c.st q m else pureP true) else pureP false) kn D' = Rr) (fun v9 _ => (q + m - intOf v9).toNat)
  case atStart => exact ⟨0, D, F, by simp, by omega, START.out.1, by simpa using START.out.2⟩
  case round =>
    clear START
    obtain ⟨i, D', F', rfl, hi, MI, hrest⟩ := hrel
    have MI := Lib.hid MI
    have LI := Lib.hid (KL.out _ _ _ MI.out)
    by_cases hlt : (i : Int) < m
    · have d3 : decide (q + (i : Int) < q + m) = true := by simp; omega
      have q3 : IntKind.i64.wrap (q + (i : Int) + 1) = q + (i : Int) + 1 := wrap_in (by omega) (by omega)
      rw [show m.toNat - i = (m.toNat - (i + 1)) + 1 by omega, vac_len, bindP_assoc] at hrest
      have RI := Lib.hid hrest
      clear hrest
      go_wp2_with (first | (refine wpList_load_row rfl 28 _ rfl _ rfl 28 _ _ _ LI.out Try.underlying28 rfl (by kernel_rfl) ?_) | (refine wpList_load_rowG rfl 28 _ rfl _ rfl 28 _ _ _ LI.out Try.underlying28 rfl (by kernel_rfl) ?_))
      refine (e_Kind HR.out HH.out F' p kn D' (q + (i : Int)) wr MI.out.view HK.out MI.out.inv).mono ?_
      intro e w4 he
      rcases MI.out.step (More.refl _) HK.out (good_kind HH.out _) he with ⟨a', hE, rfl, hd', ht', _⟩ | ⟨x4, D4, F4, hE, rfl, M4, hq4, _, _⟩
      · exact ⟨rfl, NEED.out a' w4 (RI.out.symm.trans (bindP_need hE)) hd' ht'⟩
      have L4 := Lib.hid (KL.out _ _ _ M4)
      have R4 := Lib.hid ((bindP_ok hE).symm.trans RI.out)
      have M4 := Lib.hid M4
      clear he hE
      have b1 := neq_of x4 0
      by_cases z : x4 = 0
      · rw [show decide (x4 = 0) = true by simp [z]] at b1
        have NX := Lib.hid (show bindP (evacN c.pg c.st (m.toNat - (i + 1)) (q + (i : Int) + 1)) (fun b => if b then (if mp then coversP c.pg c.st q m else pureP true) else pureP false) kn D4 = Rr from by have := R4.out; rwa [if_pos z] at this)
        clear R4 z
        go_wp2_with fail
        go_roundw
        case rel => exact ⟨i + 1, D4, F4, by go_num, by omega, M4.out, by rw [show q + ((i + 1 : Nat) : Int) = q + (i : Int) + 1 by omega]; exact NX.out⟩
        case measure => simp [intOf]; omega
      · rw [show decide (x4 = 0) = false by simp [z]] at b1
        have FIN := Lib.hid (DONE.out false w4 D4 F4 (by have := R4.out; rw [if_neg z] at this; exact this.symm) M4.out)
        clear R4 z
        go_wp2_with fail
        go_ret
        exact FIN.out
    · obtain rfl : (i : Int) = m := by omega
      have d3 : decide (q + (i : Int) < q + (i : Int)) = false := by simp
      rw [show ((i : Int).toNat - i) = 0 by omega] at hrest
      cases mp with
      | false =>
        have FIN := Lib.hid (DONE.out true wr D' F' hrest.symm MI.out)
        clear hrest
        go_wp2_with fail
        go_ret
        exact FIN.out
      | true =>
        have RI := Lib.hid (show coversP c.pg c.st q (i : Int) kn D' = Rr from hrest)
        clear hrest
        go_wp2_with (first | (refine wpList_load_row rfl 28 _ rfl _ rfl 28 _ _ _ LI.out Try.underlying28 rfl (by kernel_rfl) ?_) | (refine wpList_load_rowG rfl 28 _ rfl _ rfl 28 _ _ _ LI.out Try.underlying28 rfl (by kernel_rfl) ?_))
        refine (c_Covers HR.out HH.out.toTblIn F' p kn D' q (i : Int) hqw wr MI.out.view HK.out MI.out.inv).mono ?_
        intro e w4 he
        rcases MI.out.step (More.refl _) HK.out (good_covers HH.out.toTblIn q (i : Int)) he with ⟨a', hE, rfl, hd', ht', _⟩ | ⟨x4, D4, F4, hE, rfl, M4, hq4, _, _⟩
        · exact ⟨rfl, NEED.out a' w4 (RI.out.symm.trans hE) hd' ht'⟩
        have FIN := Lib.hid (DONE.out x4 w4 D4 F4 (RI.out.symm.trans hE) M4)
        clear he hE M4
        go_wp2_with fail
        go_ret
        exact FIN.out
end Go.Proofs.Ytjljkidlhlgefaa

namespace Go.Proofs.Ytjljkidlhlgefaa
open Go.RowKit Go.Sort Go.Maps Go.Shelf
set_option linter.unusedVariables false
set_option linter.unusedSimpArgs false
set_option linter.unusedSectionVars false

def tmidP (pg st u was m : Int) : Prg Bool := bindP (eusedP pg st) fun u2 => if u2 = u then bindP (countP pg st) (fun c => if c = was - m then (if 0 ≤ m then bindP (etrimP pg st) (fun z => pureP (decide (z = 0))) else pureP false) else pureP false) else pureP false
def toneP (pg st k : Int) (r : Bool) : Prg Bool := if r then bindP (mappedP pg st k) (fun b => bindP (efitsP pg st (firstV pg k) (sizeV pg k) false) (fun f => pureP (b == !f))) else pureP false
def tloopP (pg st : Int) : Nat → Int → Bool → Prg Bool
  | 0, _, r => pureP r
  | m + 1, k, r => bindP (toneP pg st k r) (fun r => tloopP pg st m (k + 1) r)
def tlawP (pg st : Int) : Prg Bool := bindP (eusedP pg st) fun u => bindP (countP pg st) fun was => bindP (etrimP pg st) fun m => bindP (tmidP pg st u was m) fun r => tloopP pg st (chunksV pg).toNat 0 r
theorem sound_tmid (pg st u was m : Int) : Sound (tmidP pg st u was m) := sound_bind (sound_used _ _) (fun _ => sound_ite (sound_bind (sound_count _ _) (fun _ => sound_ite (sound_ite (sound_bind (sound_trim _ _) (fun _ => sound_pure _)) (sound_pure _)) (sound_pure _))) (sound_pure _))
theorem sound_tone (pg st k : Int) (r : Bool) : Sound (toneP pg st k r) := sound_ite (sound_bind (sound_mapped _ _ _) (fun _ => sound_bind (sound_fits _ _ _ _ _) (fun _ => sound_pure _))) (sound_pure _)
theorem sound_tloop (pg st : Int) (m : Nat) : ∀ k r, Sound (tloopP pg st m k r) := by
  induction m with
  | zero => intro k r; exact sound_pure _
  | succ m ih => intro k r; exact sound_bind (sound_tone _ _ _ _) (fun _ => ih _ _)
theorem sound_tlaw (pg st : Int) : Sound (tlawP pg st) := sound_bind (sound_used _ _) (fun _ => sound_bind (sound_count _ _) (fun _ => sound_bind (sound_trim _ _) (fun _ => sound_bind (sound_tmid _ _ _ _ _) (fun _ => sound_tloop _ _ _ _ _))))
section
variable {pg st : Int} {n : Nat} (H : PgIn pg st n)
include H
theorem good_count9 : Good n (fun y : Int => 0 ≤ y ∧ y ≤ 1000) (countP pg st) := good_imp (good_countN H.toTblIn _ _ 0 (by omega)) (fun y hy => by have := H.pg2; have := H.pg1; unfold chunksV at hy; omega)
theorem good_tmid (u was m : Int) : Good n (fun _ => True) (tmidP pg st u was m) := good_bind (good_used H) (fun _ _ => good_ite (fun _ => good_bind (good_count9 H) (fun _ _ => good_ite (fun _ => good_ite (fun _ => good_bind (good_trim H) (fun _ _ => good_pure n trivial)) (fun _ => good_pure n trivial)) (fun _ => good_pure n trivial))) (fun _ => good_pure n trivial))
theorem good_tone (k : Int) (r : Bool) : Good n (fun _ => True) (toneP pg st k r) := good_ite (fun _ => good_bind (good_mapped H.toTblIn _) (fun _ _ => good_bind (good_fits H _ _ _) (fun _ _ => good_pure n trivial))) (fun _ => good_pure n trivial)
theorem good_tloop (m : Nat) : ∀ k r, Good n (fun _ => True) (tloopP pg st m k r) := by
  induction m with
  | zero => intro k r; exact good_pure n trivial
  | succ m ih => intro k r; exact good_bind (good_tone H _ _) (fun _ _ => ih _ _)
theorem good_tlaw : Good n (fun _ => True) (tlawP pg st) := good_bind (good_used H) (fun _ _ => good_bind (good_count9 H) (fun _ _ => good_bind (good_trim H) (fun _ _ => good_bind (good_tmid H _ _ _) (fun _ _ => good_tloop H _ _ _))))
end
/-- Over words zs the words are now ws. -/
structure OnW (zs : List Int) (D : List KV) (ws : List Int) : Prop where
  inv : InvD zs.length D
  eq : applyD zs D = ws
theorem OnW.len {zs ws : List Int} {D : List KV} (h : OnW zs D ws) : ws.length = zs.length := by rw [← h.eq, applyD_len]
theorem at_flat {α : Type} {zs : List Int} {p : Prg α} {g : List Int → α × List Int} (hF : Flat zs.length p g) (hz : OkW zs) {D : List KV} {ws : List Int} (h : OnW zs D ws) : ∃ D', p (allK zs) D = .ok (g ws).1 D' ∧ OnW zs D' (g ws).2 := by
  obtain ⟨D', e, a, i⟩ := hF zs D rfl hz h.inv
  rw [h.eq] at e a
  exact ⟨D', e, i, a⟩
theorem fits_chk {pg st k : Int} {ws : List Int} (hk : isChunk pg k = true) : fitsV pg st (firstV pg k) (sizeV pg k) false ws = chkVac pg st k ws := by
  have hc := isChunk_iff.1 hk
  unfold chunksV at hc
  unfold fitsV chkVac vacB
  have ht : thereB pg (firstV pg k) (sizeV pg k) = true := by rw [first_in hk, size_in hk]; exact there_iff.2 ⟨by omega, by omega, by omega⟩
  rw [ht, if_neg (by rw [first_in hk, size_in hk]; omega)]
  simp
theorem tloop_true {pg st : Int} {zs : List Int} (H : PgIn pg st zs.length) (hz : OkW zs) {ws : List Int} (hm : ∀ j, isChunk pg j = true → mappedV pg st ws j = !chkVac pg st j ws) (m : Nat) : ∀ (k : Int) (D : List KV), 0 ≤ k → k + m = chunksV pg → OnW zs D ws → ∃ D', tloopP pg st m k true (allK zs) D = .ok true D' := by
  induction m with
  | zero => intro k D _ _ _; exact ⟨D, rfl⟩
  | succ m ih =>
    intro k D h0 hk hA
    have hc : isChunk pg k = true := isChunk_iff.2 ⟨h0, by omega⟩
    obtain ⟨D1, e1, A1⟩ := at_flat (flat_mapped H.toTblIn k) hz hA
    obtain ⟨D2, e2, A2⟩ := at_flat (flat_fits H (firstV pg k) (sizeV pg k) false) hz A1
    obtain ⟨D3, e3⟩ := ih (k + 1) D2 (by omega) (by omega) A2
    refine ⟨D3, ?_⟩
    show bindP (toneP pg st k true) (fun r => tloopP pg st m (k + 1) r) (allK zs) D = _
    have : toneP pg st k true (allK zs) D = .ok true D2 := by
      show bindP (mappedP pg st k) _ (allK zs) D = _
      rw [bindP_ok e1, bindP_ok e2]
      show Res.ok (mappedV pg st ws k == !fitsV pg st (firstV pg k) (sizeV pg k) false ws) D2 = _
      rw [fits_chk hc, hm k hc]
      simp
    rw [bindP_ok this]
    exact e3
theorem tlaw_true {pg st : Int} {zs : List Int} (H : PgIn pg st zs.length) (hz : OkW zs) (w : Wf pg st zs) : ∃ D, tlawP pg st (allK zs) [] = .ok true D := by
  have A0 : OnW zs [] zs := ⟨invD_nil _, rfl⟩
  obtain ⟨D1, e1, A1⟩ := at_flat (flat_used H) hz A0
  obtain ⟨D2, e2, A2⟩ := at_flat (flat_count H.toTblIn) hz A1
  obtain ⟨D3, e3, A3⟩ := at_flat (flat_trim H) hz A2
  have T := trim_spec H rfl w
  obtain ⟨D4, e4, A4⟩ := at_flat (flat_used H) hz A3
  obtain ⟨D5, e5, A5⟩ := at_flat (flat_count H.toTblIn) hz A4
  obtain ⟨D6, e6, A6⟩ := at_flat (flat_trim H) hz A5
  have hl := T.tab.len
  have hvc : ∀ j, chkVac pg st j (trimV pg st zs).2 = chkVac pg st j zs := fun j => vac_congr (fun p => T.tab.kind H p) _ _
  have hmap : ∀ j, isChunk pg j = true → mappedV pg st (trimV pg st zs).2 j = !chkVac pg st j (trimV pg st zs).2 := fun j hj => by
    rw [T.map j hj, if_pos (isChunk_iff.1 hj).1, hvc]
    cases hv : chkVac pg st j zs with
    | true => simp
    | false =>
      have : mappedV pg st zs j = true := by
        have hne : ¬ ∀ p, isPage pg p = true → p / 4 = j → kindV pg st zs p = 0 := fun q => by rw [(chkVac_iff hj).2 q] at hv; cases hv
        obtain ⟨p, hp⟩ := Classical.not_forall.1 hne
        obtain ⟨hp, hp2⟩ := Classical.not_imp.1 hp
        obtain ⟨e, hk⟩ := Classical.not_imp.1 hp2
        rw [← e]; exact w.map p hp hk
      rw [this]; rfl
  have T2 := trim_spec H (ws := (trimV pg st zs).2) hl T.wf
  have htt : trimV pg st (trimV pg st zs).2 = (0, (trimV pg st zs).2) := by
    have : ∀ (m : Nat) (k s : Int), 0 ≤ k → k + m = chunksV pg → (trimNV pg st m k s (trimV pg st zs).2) = (s, (trimV pg st zs).2) := by
      intro m
      induction m with
      | zero => intro k s _ _; rfl
      | succ m ih =>
        intro k s h0 hk
        have hc : isChunk pg k = true := isChunk_iff.2 ⟨h0, by omega⟩
        have hv : trim1V pg st k (trimV pg st zs).2 = (0, (trimV pg st zs).2) := by
          unfold trim1V
          have := hmap k hc
          have hb : (mappedV pg st (trimV pg st zs).2 k && vacB pg st (firstV pg k) (sizeV pg k) (trimV pg st zs).2) = false := by
            rw [this]; show (!chkVac pg st k (trimV pg st zs).2 && chkVac pg st k (trimV pg st zs).2) = false
            cases chkVac pg st k (trimV pg st zs).2 <;> rfl
          rw [hb]; rfl
        show trimNV pg st m (k + 1) (s + (trim1V pg st k (trimV pg st zs).2).1) (trim1V pg st k (trimV pg st zs).2).2 = _
        rw [hv]
        show trimNV pg st m (k + 1) (s + 0) (trimV pg st zs).2 = _
        rw [Int.add_zero]
        exact ih _ _ (by omega) (by omega)
    have h0 : 0 ≤ chunksV pg := by have := H.pg1; unfold chunksV; omega
    exact this _ 0 0 (Int.le_refl _) (by omega)
  rw [htt] at e6 A6
  obtain ⟨D7, e7⟩ := tloop_true H hz hmap (chunksV pg).toNat 0 D6 (Int.le_refl _) (by have := H.pg1; unfold chunksV; omega) A6
  refine ⟨D7, ?_⟩
  have hu : usedV pg st (trimV pg st zs).2 = usedV pg st zs := used_congr (fun p => T.tab.kind H p)
  have hc := T.cnt
  have hle := T.le
  have hmid : tmidP pg st (usedV pg st zs) (countW pg st zs) (trimV pg st zs).1 (allK zs) D3 = .ok true D6 := by
    unfold tmidP
    rw [bindP_ok e4, if_pos hu, bindP_ok e5, if_pos (by rw [hc]; omega), if_pos (by omega), bindP_ok e6]
    rfl
  unfold tlawP
  rw [bindP_ok e1]
  show bindP (countP pg st) _ (allK zs) D1 = _
  rw [bindP_ok e2]
  show bindP (etrimP pg st) _ (allK zs) D2 = _
  rw [bindP_ok e3, bindP_ok hmid]
  exact e7
end Go.Proofs.Ytjljkidlhlgefaa

namespace Go.Proofs.Ytjljkidlhlgefaa
open Go.RowKit Go.Sort Go.Maps Go.Shelf
set_option linter.unusedVariables false
set_option linter.unusedSimpArgs false
set_option linter.unusedSectionVars false

def TrC (c : Cfg) (g1 : Nat) (W : World) : Prop := W.heap[g1]? = some (.cells c.arr 28 (0, 0))
structure TrY (c : Cfg) (g1 g2 : Nat) (w : World) : Prop where
  h1 : w.heap[g1]? = some (.cells c.arr 28 (0, 0))
  h2 : ∃ b, BoxB g2 w b
section
variable {P : Program} {ops : Array Oper} {md : Region.Mode} {C : World → Prop} {Q : Exit → Act → World → Prop}
theorem wanted_g {o : Oper} {tmps : Array Value} (g : Nat) (b : Bool) (d : Tmp) (hg : o.guard = some (g, b)) (hd : (ops[g]?).bind (·.dst) = some d) (h : tmps[d]? = some (.bool b)) : Region.wanted o (yielded ops tmps) = true := by
  simp [Region.wanted, hg, yielded, hd, h]
theorem wanted_none {o : Oper} {f : Nat → Option Bool} (hg : o.guard = none) : Region.wanted o f = true := by simp [Region.wanted, hg]
theorem AG.at {m : Nat} {a : Act} {L : List (Nat × Value)} (h : AG m a L) {k : Nat} (hk : k < m) (i : Nat) {v : Value} (hm : L[i]? = some (k, v)) : a.tmps[k]? = some v := by
  have h1 := h.getD i hm
  have hl : k < a.tmps.size := Nat.lt_of_lt_of_le hk h.1.1
  rw [Array.getElem?_eq_getElem hl] at h1 ⊢
  simpa using h1
theorem yieldsC_moveG {o : Oper} {a : Act} {v : Value} (hw : Region.wanted o (yielded ops a.tmps) = true) (x : Operand) (ho : o.op = .move x) (hx : a.eval x = v) : YieldsC P ops C o v a :=
  .inl ⟨hw, fun w _ => by unfold execOp; simp only [ho, hx]; rfl⟩
theorem yieldsC_not {o : Oper} {a : Act} {b : Bool} {x : Operand} (hw : Region.wanted o (yielded ops a.tmps) = true) (ho : o.op = .unOp .not 4 x) (hx : a.eval x = .bool b) : YieldsC Try.prog ops C o (.bool (!b)) a :=
  .inl ⟨hw, fun w _ => by unfold execOp; generalize a.eval = ρ at hx ⊢; simp only [ho, hx]; go_simp⟩
theorem yieldsC_eqlB {o : Oper} {a : Act} {b b' : Bool} {x y : Operand} (hw : Region.wanted o (yielded ops a.tmps) = true) (ho : o.op = .binOp .eql 4 x y 4) (hx : a.eval x = .bool b) (hy : a.eval y = .bool b') : YieldsC Try.prog ops C o (.bool (b == b')) a :=
  .inl ⟨hw, fun w _ => by unfold execOp; generalize a.eval = ρ at hx hy ⊢; simp only [ho, hx, hy]; go_simp⟩
theorem yieldsC_pickT {o : Oper} {a : Act} {v : Value} {x y z : Operand} (hw : Region.wanted o (yielded ops a.tmps) = true) (ho : o.op = .pick x y z) (hx : a.eval x = .bool true) (hy : a.eval y = v) : YieldsC Try.prog ops C o v a :=
  .inl ⟨hw, fun w _ => by unfold execOp; generalize a.eval = ρ at hx hy ⊢; simp only [ho, hx, hy]; go_simp⟩
theorem frame_k {n : Nat} {dn : Array Bool} {A : Act} {W : World} (m : Nat) (L : List (Nat × Value)) (hA : AG m A L) (h : AG m A L → anyC P md ops C Q n dn A W) : anyC P md ops C Q n dn A W := h hA
theorem anyC_oneK {i : Nat} {o : Oper} {fuel : Nat} {listed : Array Bool} {a : Act} {w : World} (d : Option Tmp) (hr : Region.ready md ops listed = [i]) (hi : ops[i]? = some o) (hw : Region.wanted o (yielded ops a.tmps) = true) (hd : o.dst = d)
    (h : ∀ K : Act → World → Prop, (∀ v w', C w' → anyC P md ops C Q fuel (listed.setIfInBounds i true) (a.put d v) w' → K (a.put o.dst v) w') → Oper.wp P o a w K Q) : anyC P md ops C Q (fuel + 1) listed a w := by
  subst hd
  exact anyC_one hr hi hw (h _ (fun v w' hc hA => ⟨hc, hA⟩))
theorem anyC_last {i : Nat} {o : Oper} {fuel : Nat} {listed : Array Bool} {a : Act} {w : World} (hr : Region.ready md ops listed = [i]) (hr2 : Region.ready md ops (listed.setIfInBounds i true) = []) (hi : ops[i]? = some o) (hw : Region.wanted o (yielded ops a.tmps) = true)
    (h : ∀ K : Act → World → Prop, (∀ v w', C w' → Q .normal (a.put o.dst v) w' → K (a.put o.dst v) w') → Oper.wp P o a w K Q) : anyC P md ops C Q (fuel + 1) listed a w :=
  anyC_one hr hi hw (h _ (fun v w' hc hq => ⟨hc, anyC_done hr2 hq⟩))
variable {o : Oper} {a : Act} {w : World} {K : Act → World → Prop}
theorem wp_call5 {f : Nat} {x0 x1 x2 x3 x4 : Operand} {v0 v1 v2 v3 v4 : Value} {ts : Array TypeId} (ho : o.op = .call { callee := .value (.func f), args := #[x0, x1, x2, x3, x4], argTypes := ts }) (h0 : a.eval x0 = v0) (h1 : a.eval x1 = v1) (h2 : a.eval x2 = v2) (h3 : a.eval x3 = v3) (h4 : a.eval x4 = v4) (he : ∀ (vs : Array Value) (w : World), Sem.run P (callFunc f vs) w = .ok (.enter f vs) w)
    (h : Calls P f #[v0, v1, v2, v3, v4] w (fun | .returned v, w'' => K (a.put o.dst v) w'' | .panicked ch, w'' => Q (.panic ch) a w'' | .outgrown, _ => LetsOut Q)) : o.wp P a w K Q := by
  have hv : a.eval (.func f) = .func (.func f) #[] #[] := rfl
  unfold Oper.wp Oper.upon
  generalize hρ : a.eval = ρ at h0 h1 h2 h3 h4 hv ⊢
  simp [execOp, ho, resolve, invoke, hv, h0, h1, h2, h3, h4, he, Sem.run_bind, Result.andThen, go_sem]
  exact h
theorem wp_load_bool {x : Operand} (ho : o.op = .load 4 x) (g : Nat) (hx : a.eval x = .pointer (some ⟨g, 0, none⟩)) (v : Value) (hc : w.cell? ⟨g, 0, none⟩ = some v) (h : K (a.put o.dst v) w) : Oper.wp Try.prog o a w K Q := by
  have hl : (loadVar 4 ⟨g, 0, none⟩).run Try.prog w = .ok v w := run_loadVar_cell Try.underlying4 rfl hc
  unfold Oper.wp Oper.upon execOp
  simp only [ho, hx, Instr.loadAt, Instr.sureAddr, Sem.run_bind, Sem.run_pure, Result.andThen_ok, hl]
  exact h
theorem wp_store_bool {x y : Operand} (ho : o.op = .store 4 x y) (g : Nat) (hx : a.eval x = .pointer (some ⟨g, 0, none⟩)) (b : Bool) (hy : a.eval y = .bool b) (v : Value) (hb : w.heap[g]? = some (.cells #[v] 4 (0, 0))) (h : K (a.put o.dst undef) (w.setCell ⟨g, 0, none⟩ (.bool b))) : Oper.wp Try.prog o a w K Q := by
  obtain ⟨hc, hf, hl⟩ := box_cells hb
  unfold Oper.wp Oper.upon execOp
  simp only [ho, hx, hy]
  go_simp
  exact h
end

set_option maxRecDepth 100000 in
set_option maxHeartbeats 8000000 in
theorem trim_clo {c : Cfg} (R : c.Ok) {n : Nat} (H : PgIn c.pg c.st n) (hn : n ≤ 10000) (F : Nat → Prop) (p g1 g2 : Nat) (kn : Int → Option Int) (W0 : World) (hv : ViewAt W0 F p kn []) (hk : OkK kn) (hY : TrY c g1 g2 W0) (n1 : ¬ F g1) (n2 : ¬ F g2) (hne : g1 ≠ g2) (ht : ∀ z D, tlawP c.pg c.st kn [] = .ok z D → z = true) :
    Calls Try.prog 32 #[.pointer (some ⟨p, 0, none⟩), .pointer (some ⟨g1, 0, none⟩), .pointer (some ⟨g2, 0, none⟩)] W0 (WentY W0 F (fun b => b = g2) (fun w' => TrY c g1 g2 w') (fun w' => BoxB g2 w' true) p kn (ranOf (tlawP c.pg c.st kn []))) := by
  obtain ⟨Rr, hR⟩ : ∃ Rr, tlawP c.pg c.st kn [] = Rr := ⟨_, rfl⟩
  rw [hR] at ht ⊢
  obtain ⟨b0, hb0⟩ := hY.h2
  have l1 := lt_of_heap hY.h1
  have l2 := lt_of_heap hb0
  have H1 := Lib.hid hY.h1
  have HK := Lib.hid hk
  have HR := Lib.hid R
  have HH := Lib.hid H
  have pg1 := HR.out.pg1
  have pg2 := HR.out.pg2
  have hch : chunksV c.pg ≤ 64 ∧ 0 ≤ chunksV c.pg := by unfold chunksV; omega
  have M0 : Hid (MidV W0 W0 F (fun b => b = g2) p kn n [] F) := Lib.hid (MidV.begin hv (invD_nil n))
  have B0 := Lib.hid hb0
  have KL : Hid (∀ wr D' F', MidV W0 wr F (fun b => b = g2) p kn n D' F' → TrC c g1 wr) := Lib.hid fun wr D' F' h => mid_own h H1.out n1 hne
  have NF : Hid (∀ wr D' F', MidV W0 wr F (fun b => b = g2) p kn n D' F' → ¬ F' g2) := Lib.hid fun wr D' F' h => h.off l2 n2
  have NEED : Hid (∀ a w2 (b : Bool), Rr = .need a → DeadAt w2 p a → Turned (fun b => F b ∨ b = g2) W0 w2 → BoxB g2 w2 b → WentY W0 F (fun b => b = g2) (fun w' => TrY c g1 g2 w') (fun w' => BoxB g2 w' true) p kn (ranOf Rr) (.panicked (endOf p)) w2) := Lib.hid fun a w2 b e hd ht' hb => wy_need (ranOf_need e) hd ht' ⟨(ht'.block g1 l1 (by rintro (q | q); exact n1 q; exact hne q)).trans H1.out, ⟨b, hb⟩⟩
  have DONE : Hid (∀ w2 D F' (b : Bool), Rr = .ok b D → MidV W0 w2 F (fun b => b = g2) p kn n D F' → BoxB g2 w2 b → WentY W0 F (fun b => b = g2) (fun w' => TrY c g1 g2 w') (fun w' => BoxB g2 w' true) p kn (ranOf Rr) (.returned (.tuple #[])) w2) := Lib.hid fun w2 D F' b e h hb => wy_done h (ranOf_ok e) ⟨KL.out _ _ _ h, ⟨b, hb⟩⟩ (by rw [ht b D e] at hb; exact hb)
  have HRr := Lib.hid hR
  clear hv hk R H hY hb0 n1 n2 hne ht hR
  go_enter Try.func32, Try.ntmps32
  go_wp2_with (first | (refine wpList_load_row rfl 28 _ rfl _ rfl 28 _ _ _ H1.out Try.underlying28 rfl (by kernel_rfl) ?_) | (refine wpList_load_rowG rfl 28 _ rfl _ rfl 28 _ _ _ H1.out Try.underlying28 rfl (by kernel_rfl) ?_))
  refine (e_Used HR.out HH.out F p kn [] W0 M0.out.view HK.out M0.out.inv).mono ?_
  intro e w1 he
  rcases M0.out.step (More.refl _) HK.out (good_used HH.out) he with ⟨a', hE, rfl, hd', ht', hk'⟩ | ⟨x1, D1, F1, hE, rfl, M1, hq1, hk', hf'⟩
  · exact ⟨rfl, NEED.out a' w1 _ (HRr.out.symm.trans (bindP_need hE)) hd' ht' (hk' _ _ (NF.out _ _ _ M0.out) B0.out)⟩
  have B1 := Lib.hid (show BoxB g2 w1 b0 from hk' _ _ (NF.out _ _ _ M0.out) B0.out)
  have R1 := Lib.hid ((bindP_ok hE).symm.trans HRr.out)
  have M1 := Lib.hid M1
  have L1 := Lib.hid (KL.out _ _ _ M1.out)
  clear he hE hk' hf'
  go_wp2_with (first | (refine wpList_load_row rfl 28 _ rfl _ rfl 28 _ _ _ L1.out Try.underlying28 rfl (by kernel_rfl) ?_) | (refine wpList_load_rowG rfl 28 _ rfl _ rfl 28 _ _ _ L1.out Try.underlying28 rfl (by kernel_rfl) ?_))
  refine (c_Count HR.out HH.out.toTblIn F1 p kn D1 w1 M1.out.view HK.out M1.out.inv).mono ?_
  intro e w2 he
  rcases M1.out.step (More.refl _) HK.out (good_count9 HH.out) he with ⟨a', hE, rfl, hd', ht', hk'⟩ | ⟨x2, D2, F2, hE, rfl, M2, hq2, hk', hf'⟩
  · exact ⟨rfl, NEED.out a' w2 _ (R1.out.symm.trans (bindP_need hE)) hd' ht' (hk' _ _ (NF.out _ _ _ M1.out) B1.out)⟩
  have B2 := Lib.hid (show BoxB g2 w2 b0 from hk' _ _ (NF.out _ _ _ M1.out) B1.out)
  have R2 := Lib.hid ((bindP_ok hE).symm.trans R1.out)
  have M2 := Lib.hid M2
  have L2 := Lib.hid (KL.out _ _ _ M2.out)
  clear he hE hk' hf'
  go_wp2_with (first | (refine wpList_load_row rfl 28 _ rfl _ rfl 28 _ _ _ L2.out Try.underlying28 rfl (by kernel_rfl) ?_) | (refine wpList_load_rowG rfl 28 _ rfl _ rfl 28 _ _ _ L2.out Try.underlying28 rfl (by kernel_rfl) ?_))
  refine (e_Trim HR.out HH.out hn F2 p kn D2 w2 M2.out.view HK.out M2.out.inv).mono ?_
  intro e w3 he
  rcases M2.out.step (More.refl _) HK.out (good_trim HH.out) he with ⟨a', hE, rfl, hd', ht', hk'⟩ | ⟨x3, D3, F3, hE, rfl, M3, hq3, hk', hf'⟩
  · exact ⟨rfl, NEED.out a' w3 _ (R2.out.symm.trans (bindP_need hE)) hd' ht' (hk' _ _ (NF.out _ _ _ M2.out) B2.out)⟩
  have B3 := Lib.hid (show BoxB g2 w3 b0 from hk' _ _ (NF.out _ _ _ M2.out) B2.out)
  have R3 := Lib.hid ((bindP_ok hE).symm.trans R2.out)
  have M3 := Lib.hid M3
  have L3 := Lib.hid (KL.out _ _ _ M3.out)
  clear he hE hk' hf'
  have qs : IntKind.i64.wrap (x2 - x3) = x2 - x3 := wrap_in (by omega) (by omega)
  have R3' := Lib.hid (by have := R3.out; unfold tmidP at this; rw [bindP_assoc] at this; exact this)
  clear R3
  go_wp2_with (first | (refine wpList_load_row rfl 28 _ rfl _ rfl 28 _ _ _ L3.out Try.underlying28 rfl (by kernel_rfl) ?_) | (refine wpList_load_rowG rfl 28 _ rfl _ rfl 28 _ _ _ L3.out Try.underlying28 rfl (by kernel_rfl) ?_))
  refine (e_Used HR.out HH.out F3 p kn D3 w3 M3.out.view HK.out M3.out.inv).mono ?_
  intro e w4 he
  rcases M3.out.step (More.refl _) HK.out (good_used HH.out) he with ⟨a', hE, rfl, hd', ht', hk'⟩ | ⟨x4, D4, F4, hE, rfl, M4, hq4, hk', hf'⟩
  · exact ⟨rfl, NEED.out a' w4 _ (R3'.out.symm.trans (bindP_need hE)) hd' ht' (hk' _ _ (NF.out _ _ _ M3.out) B3.out)⟩
  have B4 := Lib.hid (show BoxB g2 w4 b0 from hk' _ _ (NF.out _ _ _ M3.out) B3.out)
  have R4 := Lib.hid ((bindP_ok hE).symm.trans R3'.out)
  have M4 := Lib.hid M4
  have L4 := Lib.hid (KL.out _ _ _ M4.out)
  clear he hE hk' hf'
  have ge0 : decide (0 ≤ x3) = true := by simp; omega
  by_cases z4 : x4 = x1
  · have e4 : (x4 == x1) = true := by simp [z4]
    have R4' := Lib.hid (by have := R4.out; rw [if_pos z4, bindP_assoc] at this; exact this)
    clear R4 z4
    go_wp2_with (first | (refine wpList_load_row rfl 28 _ rfl _ rfl 28 _ _ _ L4.out Try.underlying28 rfl (by kernel_rfl) ?_) | (refine wpList_load_rowG rfl 28 _ rfl _ rfl 28 _ _ _ L4.out Try.underlying28 rfl (by kernel_rfl) ?_))
    refine (c_Count HR.out HH.out.toTblIn F4 p kn D4 w4 M4.out.view HK.out M4.out.inv).mono ?_
    intro e w5 he
    rcases M4.out.step (More.refl _) HK.out (good_count9 HH.out) he with ⟨a', hE, rfl, hd', ht', hk'⟩ | ⟨x5, D5, F5, hE, rfl, M5, hq5, hk', hf'⟩
    · exact ⟨rfl, NEED.out a' w5 _ (R4'.out.symm.trans (bindP_need hE)) hd' ht' (hk' _ _ (NF.out _ _ _ M4.out) B4.out)⟩
    have B5 := Lib.hid (show BoxB g2 w5 b0 from hk' _ _ (NF.out _ _ _ M4.out) B4.out)
    have R5 := Lib.hid ((bindP_ok hE).symm.trans R4'.out)
    have M5 := Lib.hid M5
    have L5 := Lib.hid (KL.out _ _ _ M5.out)
    clear he hE hk' hf'
    by_cases z5 : x5 = x2 - x3
    · have e5 : (x5 == x2 - x3) = true := by simp [z5]
      have R5' := Lib.hid (by have := R5.out; rw [if_pos z5, if_pos hq3.1, bindP_assoc] at this; exact this)
      clear R5 z5
      go_wp2_with (first | (refine wpList_load_row rfl 28 _ rfl _ rfl 28 _ _ _ L5.out Try.underlying28 rfl (by kernel_rfl) ?_) | (refine wpList_load_rowG rfl 28 _ rfl _ rfl 28 _ _ _ L5.out Try.underlying28 rfl (by kernel_rfl) ?_))
      refine (e_Trim HR.out HH.out hn F5 p kn D5 w5 M5.out.view HK.out M5.out.inv).mono ?_
      intro e w6 he
      rcases M5.out.step (More.refl _) HK.out (good_trim HH.out) he with ⟨a', hE, rfl, hd', ht', hk'⟩ | ⟨x6, D6, F6, hE, rfl, M6, hq6, hk', hf'⟩
      · exact ⟨rfl, NEED.out a' w6 _ (R5'.out.symm.trans (bindP_need hE)) hd' ht' (hk' _ _ (NF.out _ _ _ M5.out) B5.out)⟩
      have B6 := Lib.hid (show BoxB g2 w6 b0 from hk' _ _ (NF.out _ _ _ M5.out) B5.out)
      have R6 := Lib.hid ((bindP_ok hE).symm.trans R5'.out)
      have M6 := Lib.hid M6
      have L6 := Lib.hid (KL.out _ _ _ M6.out)
      clear he hE hk' hf'
      have e6 : (x6 == 0) = decide (x6 = 0) := by by_cases z : x6 = 0 <;> simp [z]
      obtain ⟨cS, fS, lS⟩ := box_cells B6.out
      obtain ⟨wS, eS⟩ : ∃ wS, w6.setCell ⟨g2, 0, none⟩ (.bool (decide (x6 = 0))) = wS := ⟨_, rfl⟩
      have MS : Hid (MidV W0 wS F (fun b => b = g2) p kn n D6 F6) := Lib.hid (by rw [← eS]; exact M6.out.box (fun _ => rfl) (NF.out _ _ _ M6.out) _ B6.out)
      have BS : Hid (BoxB g2 wS (decide (x6 = 0))) := Lib.hid (by rw [← eS]; exact boxB_set B6.out (decide (x6 = 0)))
      have RS := Lib.hid (show tloopP c.pg c.st (chunksV c.pg).toNat 0 (decide (x6 = 0)) kn D6 = Rr from R6.out)
      clear R6
      go_wp2_with fail
      clear cS fS lS
      go_loopw [7, 8, 9] (fun v7 _ _ wr => ∃ (i : Nat) (D' : List KV) (F' : Nat → Prop) (r : Bool), v7 = .int .i64 (i : Int) ∧ (i : Int) ≤ chunksV c.pg ∧ MidV W0 wr F (fun b => b = g2) p kn n D' F' ∧ BoxB g2 wr r ∧ tloopP c.pg c.st ((chunksV c.pg).toNat - i) (i : Int) r kn D' = Rr) (fun v7 _ _ _ => (chunksV c.pg - intOf v7).toNat)
      case atStart => exact ⟨0, D6, F6, (decide (x6 = 0)), rfl, by omega, MS.out, BS.out, by simpa using RS.out⟩
      case round =>
        clear MS BS RS eS
        obtain ⟨i, D', F', r, rfl, hi, MI, BI, hrest⟩ := hrel
        have MI := Lib.hid MI
        have BI := Lib.hid BI
        have LI := Lib.hid (KL.out _ _ _ MI.out)
        go_wp2_with (first | (refine wpList_load_row rfl 28 _ rfl _ rfl 28 _ _ _ LI.out Try.underlying28 rfl (by kernel_rfl) ?_) | (refine wpList_load_rowG rfl 28 _ rfl _ rfl 28 _ _ _ LI.out Try.underlying28 rfl (by kernel_rfl) ?_))
        refine (y_chunks HR.out _).mono ?_
        rintro e w2q ⟨rfl, h2⟩
        have M2q := Lib.hid (MI.out.more h2)
        have B2q : Hid (BoxB g2 w2q r) := Lib.hid (h2.block BI.out)
        have L2q := Lib.hid (KL.out _ _ _ M2q.out)
        clear h2
        by_cases hlt : (i : Int) < chunksV c.pg
        · have d3 : decide ((i : Int) < chunksV c.pg) = true := by simp; omega
          have q3 : IntKind.i64.wrap ((i : Int) + 1) = (i : Int) + 1 := wrap_in (by omega) (by omega)
          have hsz := size_b HH.out.toTblIn (i : Int)
          have hfb : 0 ≤ firstV c.pg (i : Int) ∧ firstV c.pg (i : Int) ≤ 300 := by unfold firstV; split <;> omega
          have hsb : 0 ≤ sizeV c.pg (i : Int) ∧ sizeV c.pg (i : Int) ≤ 300 := by omega
          rw [show (chunksV c.pg).toNat - i = ((chunksV c.pg).toNat - (i + 1)) + 1 by omega] at hrest
          have hrest : bindP (toneP c.pg c.st (i : Int) r) (fun r => tloopP c.pg c.st ((chunksV c.pg).toNat - (i + 1)) ((i : Int) + 1) r) kn D' = Rr := hrest
          go_wp2_with (first | (refine wpList_load_row rfl 28 _ rfl _ rfl 28 _ _ _ L2q.out Try.underlying28 rfl (by kernel_rfl) ?_) | (refine wpList_load_rowG rfl 28 _ rfl _ rfl 28 _ _ _ L2q.out Try.underlying28 rfl (by kernel_rfl) ?_))
          refine (c_Pages HR.out (i : Int) _).mono ?_
          rintro e w3 ⟨rfl, h3⟩
          have M3 := Lib.hid (M2q.out.more h3)
          have B3 : Hid (BoxB g2 w3 r) := Lib.hid (h3.block B2q.out)
          clear h3
          cases r with
          | false =>
            have NX := Lib.hid (show tloopP c.pg c.st ((chunksV c.pg).toNat - (i + 1)) ((i : Int) + 1) false kn D' = Rr from hrest)
            obtain ⟨cS, fS, lS⟩ := box_cells B3.out
            clear hrest
            go_wp2_with fail
            refine wp_region_more_tail 14 (by kernel_rfl) (by kernel_rfl) ?_
            simp only [List.take_succ_cons, List.take_zero, List.drop_succ_cons, List.drop_zero]
            iterate 14
              with_reducible refine wpQuiet_step (fun K hK => ?_)
              go_simp
              first
              | (refine hK _ ?_; clear hK K)
              | (apply Exists.intro
                 refine ⟨fun W hW => ?_, hK _ ?_⟩
                 first
                 | (have cS' := hW.cell cS; go_simp; try rfl)
                 clear hK K)
            refine wpQuiet_nil ?_
            intro w4 h4
            have M4 := Lib.hid (M3.out.more h4)
            have B4 : Hid (BoxB g2 w4 false) := Lib.hid (h4.block B3.out)
            clear h4 cS fS lS
            obtain ⟨cS, fS, lS⟩ := box_cells B4.out
            obtain ⟨w5, e5⟩ : ∃ w5, w4.setCell ⟨g2, 0, none⟩ (.bool false) = w5 := ⟨_, rfl⟩
            have M5 : Hid (MidV W0 w5 F (fun b => b = g2) p kn n D' F') := Lib.hid (by rw [← e5]; exact M4.out.box (fun _ => rfl) (NF.out _ _ _ M4.out) _ B4.out)
            have B5 : Hid (BoxB g2 w5 false) := Lib.hid (by rw [← e5]; exact boxB_set B4.out false)
            go_wp2_with fail
            go_roundw
            case rel => exact ⟨i + 1, D', F', false, by go_num, by omega, M5.out, B5.out, by rw [show ((i + 1 : Nat) : Int) = (i : Int) + 1 by omega]; exact NX.out⟩
            case measure => simp [intOf]; omega
          | true =>
            have RI := Lib.hid (show bindP (mappedP c.pg c.st (i : Int)) (fun b => bindP (efitsP c.pg c.st (firstV c.pg (i : Int)) (sizeV c.pg (i : Int)) false) (fun f => tloopP c.pg c.st ((chunksV c.pg).toNat - (i + 1)) ((i : Int) + 1) (b == !f))) kn D' = Rr from by
              have h := hrest
              unfold toneP at h
              simp only [if_true, bindP_assoc] at h
              exact h)
            clear hrest
            go_wp2_with fail
            refine wp_region_anyC (TrC c g1) (by kernel_rfl) ?_
            have MR := Lib.hid (M3.out.more ((More.refl w3).drewN 1))
            have BR : Hid (BoxB g2 (w3.drewN 1) true) := Lib.hid (((More.refl w3).drewN 1).block B3.out)
            change anyC _ _ _ _ _ _ _ _ (w3.drewN 1)
            generalize w3.drewN 1 = w4 at MR BR ⊢
            generalize hA : Act.mk _ _ = A
            have HF : AG 69 A [(0, .pointer (some ⟨p, 0, none⟩)), (1, .pointer (some ⟨g1, 0, none⟩)), (2, .pointer (some ⟨g2, 0, none⟩)), (7, .int .i64 (i : Int)), (8, .int .i64 (firstV c.pg (i : Int))), (9, .int .i64 (sizeV c.pg (i : Int)))] := by
              rw [← hA]
              refine ⟨⟨Nat.le_of_ble_eq_true rfl, rfl⟩, ?_⟩
              intro z hz; simp only [List.mem_cons, List.not_mem_nil, or_false] at hz; rcases hz with rfl | rfl | rfl | rfl | rfl | rfl <;> rfl
            refine anyC_start (fun a W => ∃ (x5 x6 : Bool) (D6 : List KV) (F6 : Nat → Prop), a = (Act.put (Act.put (Act.put (Act.put (Act.put (Act.put (Act.put (Act.put (Act.put (Act.put (Act.put (Act.put (Act.put (Act.put (Act.put A (some 55) (.bool true)) (some 56) (.bool true)) (some 57) (.pointer (some ⟨p, 0, none⟩))) (some 58) (.agg c.arr)) (some 59) (.int .i64 (i : Int))) (some 61) (.pointer (some ⟨p, 0, none⟩))) (some 62) (.agg c.arr)) (some 63) (.int .i64 (firstV c.pg (i : Int)))) (some 64) (.int .i64 (sizeV c.pg (i : Int)))) (some 60) (.bool x5)) (some 65) (.bool x6)) (some 66) (.bool (!x6))) (some 67) (.bool (x5 == !x6))) (some 68) (.bool (x5 == !x6))) none undef) ∧ MidV W0 W F (fun b => b = g2) p kn n D6 F6 ∧ BoxB g2 W (x5 == !x6) ∧ tloopP c.pg c.st ((chunksV c.pg).toNat - (i + 1)) ((i : Int) + 1) (x5 == !x6) kn D6 = Rr) (fun W => WentY W0 F (fun b => b = g2) (fun w' => TrY c g1 g2 w') (fun w' => BoxB g2 w' true) p kn (ranOf Rr) (.panicked (endOf p)) W) (endOf p) (fun a W hd h => ⟨hd, h⟩) (fun _ _ _ _ _ h => h) ?_ ?_
            · rintro a w7 ⟨x5, x6, D6, F6, rfl, MS, BS, NX⟩
              rw [← hA]
              have MS := Lib.hid MS
              have BS := Lib.hid BS
              have NX := Lib.hid NX
              clear HF hA MR BR RI
              go_wp2_with fail
              go_roundw
              case rel => exact ⟨i + 1, D6, F6, _, by go_num, by omega, MS.out, BS.out, by rw [show ((i + 1 : Nat) : Int) = (i : Int) + 1 by omega]; exact NX.out⟩
              case measure => simp [intOf]; omega
            intro QQ FINE FIND FINQ
            clear hA
            have cR := (box_cells BR.out).1
            refine anyC_oneK (i := 0) (some 55) (by kernel_rfl) rfl (wanted_none rfl) rfl (fun K hK => ?_)
            refine wp_load_bool rfl g2 (HF.get 2 rfl) _ cR ?_
            refine hK _ _ (KL.out _ _ _ MR.out) ?_
            clear hK K cR
            replace HF := HF.put 55 (.bool true) (by decide) rfl
            generalize hB1 : Act.put _ _ _ = A at HF ⊢
            refine anyC_takeD (i := 1) (v := .bool true) (some 56) rfl rfl (by kernel_rfl) (by kernel_rfl) (by kernel_rfl) (fun c a w => FINQ c a _ _ w) (KL.out _ _ _ MR.out) (by exact yieldsC_moveG (wanted_none rfl) _ rfl (HF.get 0 rfl)) ?_
            replace HF := HF.put 56 (.bool true) (by decide) rfl
            generalize hB2 : Act.put _ _ _ = A at HF ⊢
            refine anyC_takeD (i := 2) (v := .pointer (some ⟨p, 0, none⟩)) (some 57) rfl rfl (by kernel_rfl) (by kernel_rfl) (by kernel_rfl) (fun c a w => FINQ c a _ _ w) (KL.out _ _ _ MR.out) (by exact yieldsC_moveG (wanted_g 1 true 56 rfl rfl (HF.at (by decide) 0 rfl)) _ rfl (HF.get 2 rfl)) ?_
            replace HF := HF.put 57 (.pointer (some ⟨p, 0, none⟩)) (by decide) rfl
            generalize hB3 : Act.put _ _ _ = A at HF ⊢
            refine anyC_takeD (i := 3) (v := .agg c.arr) (some 58) rfl rfl (by kernel_rfl) (by kernel_rfl) (by kernel_rfl) (fun c a w => FINQ c a _ _ w) (KL.out _ _ _ MR.out) (by exact yieldsC_row (C := TrC c g1) (wanted_g 1 true 56 rfl rfl (HF.at (by decide) 1 rfl)) 28 _ rfl g1 (HF.get 4 rfl) 28 _ _ _ (fun W hW => hW) Try.underlying28 rfl (by kernel_rfl)) ?_
            replace HF := HF.put 58 (.agg c.arr) (by decide) rfl
            generalize hB4 : Act.put _ _ _ = A at HF ⊢
            refine anyC_takeD (i := 4) (v := .int .i64 (i : Int)) (some 59) rfl rfl (by kernel_rfl) (by kernel_rfl) (by kernel_rfl) (fun c a w => FINQ c a _ _ w) (KL.out _ _ _ MR.out) (by exact yieldsC_moveG (wanted_g 1 true 56 rfl rfl (HF.at (by decide) 2 rfl)) _ rfl (HF.get 7 rfl)) ?_
            replace HF := HF.put 59 (.int .i64 (i : Int)) (by decide) rfl
            generalize hB5 : Act.put _ _ _ = A at HF ⊢
            refine anyC_takeD (i := 6) (v := .pointer (some ⟨p, 0, none⟩)) (some 61) rfl rfl (by kernel_rfl) (by kernel_rfl) (by kernel_rfl) (fun c a w => FINQ c a _ _ w) (KL.out _ _ _ MR.out) (by exact yieldsC_moveG (wanted_g 1 true 56 rfl rfl (HF.at (by decide) 3 rfl)) _ rfl (HF.get 5 rfl)) ?_
            replace HF := HF.put 61 (.pointer (some ⟨p, 0, none⟩)) (by decide) rfl
            generalize hB6 : Act.put _ _ _ = A at HF ⊢
            refine anyC_takeD (i := 7) (v := .agg c.arr) (some 62) rfl rfl (by kernel_rfl) (by kernel_rfl) (by kernel_rfl) (fun c a w => FINQ c a _ _ w) (KL.out _ _ _ MR.out) (by exact yieldsC_row (C := TrC c g1) (wanted_g 1 true 56 rfl rfl (HF.at (by decide) 4 rfl)) 28 _ rfl g1 (HF.get 7 rfl) 28 _ _ _ (fun W hW => hW) Try.underlying28 rfl (by kernel_rfl)) ?_
            replace HF := HF.put 62 (.agg c.arr) (by decide) rfl
            generalize hB7 : Act.put _ _ _ = A at HF ⊢
            refine anyC_takeD (i := 8) (v := .int .i64 (firstV c.pg (i : Int))) (some 63) rfl rfl (by kernel_rfl) (by kernel_rfl) (by kernel_rfl) (fun c a w => FINQ c a _ _ w) (KL.out _ _ _ MR.out) (by exact yieldsC_moveG (wanted_g 1 true 56 rfl rfl (HF.at (by decide) 5 rfl)) _ rfl (HF.get 11 rfl)) ?_
            replace HF := HF.put 63 (.int .i64 (firstV c.pg (i : Int))) (by decide) rfl
            generalize hB8 : Act.put _ _ _ = A at HF ⊢
            refine anyC_takeD (i := 9) (v := .int .i64 (sizeV c.pg (i : Int))) (some 64) rfl rfl (by kernel_rfl) (by kernel_rfl) (by kernel_rfl) (fun c a w => FINQ c a _ _ w) (KL.out _ _ _ MR.out) (by exact yieldsC_moveG (wanted_g 1 true 56 rfl rfl (HF.at (by decide) 6 rfl)) _ rfl (HF.get 13 rfl)) ?_
            replace HF := HF.put 64 (.int .i64 (sizeV c.pg (i : Int))) (by decide) rfl
            generalize hB9 : Act.put _ _ _ = A at HF ⊢
            refine anyC_oneK (i := 5) (some 60) (by kernel_rfl) rfl (wanted_g 1 true 56 rfl rfl (HF.at (by decide) 7 rfl)) rfl (fun K hK => ?_)
            refine wp_call3 (v0 := .pointer (some ⟨p, 0, none⟩)) (v1 := .agg c.arr) (v2 := .int .i64 (i : Int)) rfl (HF.get 6 rfl) (HF.get 5 rfl) (HF.get 4 rfl) (enters_of Try.func34 (by kernel_rfl) rfl) ?_
            refine (c_Mapped HR.out F' p kn D' (i : Int) w4 MR.out.view).mono ?_
            intro e w5 he
            rcases MR.out.step (More.refl _) HK.out (good_mapped HH.out.toTblIn _) he with ⟨a', hE, rfl, hd', ht', hk'⟩ | ⟨x5, D5, F5, hE, rfl, M5, hq5, hk', hf'⟩
            · exact FIND _ _ HF.1.2 (NEED.out a' w5 _ (RI.out.symm.trans (bindP_need hE)) hd' ht' (hk' _ _ (NF.out _ _ _ MR.out) BR.out))
            have B5 := Lib.hid (show BoxB g2 w5 true from hk' _ _ (NF.out _ _ _ MR.out) BR.out)
            have R5 := Lib.hid ((bindP_ok hE).symm.trans RI.out)
            have M5 := Lib.hid M5
            clear he hE hk' hf'
            refine hK _ _ (KL.out _ _ _ M5.out) ?_
            clear hK K
            replace HF := HF.put 60 (.bool x5) (by decide) rfl
            generalize hB10 : Act.put _ _ _ = A at HF ⊢
            refine anyC_oneK (i := 10) (some 65) (by kernel_rfl) rfl (wanted_g 1 true 56 rfl rfl (HF.at (by decide) 8 rfl)) rfl (fun K hK => ?_)
            refine wp_call5 (v0 := .pointer (some ⟨p, 0, none⟩)) (v1 := .agg c.arr) (v2 := .int .i64 (firstV c.pg (i : Int))) (v3 := .int .i64 (sizeV c.pg (i : Int))) (v4 := .bool false) rfl (HF.get 4 rfl) (HF.get 3 rfl) (HF.get 2 rfl) (HF.get 1 rfl) rfl (enters_of Try.func22 (by kernel_rfl) rfl) ?_
            refine (e_fits9 HR.out HH.out F5 p kn D5 (firstV c.pg (i : Int)) (sizeV c.pg (i : Int)) false hfb hsb w5 M5.out.view HK.out M5.out.inv).mono ?_
            intro e w6 he
            rcases M5.out.step (More.refl _) HK.out (good_fits HH.out _ _ _) he with ⟨a', hE, rfl, hd', ht', hk'⟩ | ⟨x6, D6, F6, hE, rfl, M6, hq6, hk', hf'⟩
            · exact FIND _ _ HF.1.2 (NEED.out a' w6 _ (R5.out.symm.trans (bindP_need hE)) hd' ht' (hk' _ _ (NF.out _ _ _ M5.out) B5.out))
            have B6 := Lib.hid (show BoxB g2 w6 true from hk' _ _ (NF.out _ _ _ M5.out) B5.out)
            have R6 := Lib.hid ((bindP_ok hE).symm.trans R5.out)
            have M6 := Lib.hid M6
            clear he hE hk' hf'
            refine hK _ _ (KL.out _ _ _ M6.out) ?_
            clear hK K
            replace HF := HF.put 65 (.bool x6) (by decide) rfl
            generalize hB11 : Act.put _ _ _ = A at HF ⊢
            refine anyC_takeD (i := 11) (v := .bool (!x6)) (some 66) rfl rfl (by kernel_rfl) (by kernel_rfl) (by kernel_rfl) (fun c a w => FINQ c a _ _ w) (KL.out _ _ _ M6.out) (by exact yieldsC_not (wanted_g 1 true 56 rfl rfl (HF.at (by decide) 9 rfl)) rfl (HF.get 0 rfl)) ?_
            replace HF := HF.put 66 (.bool (!x6)) (by decide) rfl
            generalize hB12 : Act.put _ _ _ = A at HF ⊢
            refine anyC_takeD (i := 12) (v := .bool (x5 == !x6)) (some 67) rfl rfl (by kernel_rfl) (by kernel_rfl) (by kernel_rfl) (fun c a w => FINQ c a _ _ w) (KL.out _ _ _ M6.out) (by exact yieldsC_eqlB (wanted_g 1 true 56 rfl rfl (HF.at (by decide) 10 rfl)) rfl (HF.get 2 rfl) (HF.get 0 rfl)) ?_
            replace HF := HF.put 67 (.bool (x5 == !x6)) (by decide) rfl
            generalize hB13 : Act.put _ _ _ = A at HF ⊢
            refine anyC_takeD (i := 13) (v := .bool (x5 == !x6)) (some 68) rfl rfl (by kernel_rfl) (by kernel_rfl) (by kernel_rfl) (fun c a w => FINQ c a _ _ w) (KL.out _ _ _ M6.out) (by exact yieldsC_pickT rfl rfl (HF.get 11 rfl) (HF.get 0 rfl)) ?_
            replace HF := HF.put 68 (.bool (x5 == !x6)) (by decide) rfl
            generalize hB14 : Act.put _ _ _ = A at HF ⊢
            obtain ⟨cS, fS, lS⟩ := box_cells B6.out
            refine anyC_last (i := 14) (by kernel_rfl) (by kernel_rfl) rfl (wanted_none rfl) (fun K hK => ?_)
            refine wp_store_bool rfl g2 (HF.get 16 rfl) (x5 == !x6) (HF.get 0 rfl) _ B6.out ?_
            have MS := M6.out.box (fun _ => rfl) (NF.out _ _ _ M6.out) (.bool (x5 == !x6)) B6.out
            have NX : tloopP c.pg c.st ((chunksV c.pg).toNat - (i + 1)) ((i : Int) + 1) (x5 == !x6) kn D6 = Rr := R6.out
            have BS := boxB_set B6.out (x5 == !x6)
            exact hK _ _ (KL.out _ _ _ MS) (FINE _ _ ⟨x5, x6, D6, F6, by rw [← hB14, ← hB13, ← hB12, ← hB11, ← hB10, ← hB9, ← hB8, ← hB7, ← hB6, ← hB5, ← hB4, ← hB3, ← hB2, ← hB1]; rfl, MS, BS, NX⟩)
        · have hie : (i : Int) = chunksV c.pg := by omega
          have d3 : decide ((i : Int) < chunksV c.pg) = false := by simp; omega
          rw [show (chunksV c.pg).toNat - i = 0 by omega] at hrest
          have FIN := Lib.hid (DONE.out _ D' F' r hrest.symm M2q.out B2q.out)
          clear hrest
          go_wp2_with fail
          go_end0
          exact FIN.out
    · have e5 : (x5 == x2 - x3) = false := by simp [z5]
      have R5' := R5.out
      rw [if_neg z5] at R5'
      clear z5
      obtain ⟨cS, fS, lS⟩ := box_cells B5.out
      obtain ⟨wS, eS⟩ : ∃ wS, w5.setCell ⟨g2, 0, none⟩ (.bool false) = wS := ⟨_, rfl⟩
      have MS : Hid (MidV W0 wS F (fun b => b = g2) p kn n D5 F5) := Lib.hid (by rw [← eS]; exact M5.out.box (fun _ => rfl) (NF.out _ _ _ M5.out) _ B5.out)
      have BS : Hid (BoxB g2 wS false) := Lib.hid (by rw [← eS]; exact boxB_set B5.out false)
      have RS := Lib.hid (show tloopP c.pg c.st (chunksV c.pg).toNat 0 false kn D5 = Rr from R5')
      clear R5 R5'
      go_wp2_with fail
      clear cS fS lS
      go_loopw [7, 8, 9] (fun v7 _ _ wr => ∃ (i : Nat) (D' : List KV) (F' : Nat → Prop) (r : Bool), v7 = .int .i64 (i : Int) ∧ (i : Int) ≤ chunksV c.pg ∧ MidV W0 wr F (fun b => b = g2) p kn n D' F' ∧ BoxB g2 wr r ∧ tloopP c.pg c.st ((chunksV c.pg).toNat - i) (i : Int) r kn D' = Rr) (fun v7 _ _ _ => (chunksV c.pg - intOf v7).toNat)
      case atStart => exact ⟨0, D5, F5, false, rfl, by omega, MS.out, BS.out, by simpa using RS.out⟩
      case round =>
        clear MS BS RS eS
        obtain ⟨i, D', F', r, rfl, hi, MI, BI, hrest⟩ := hrel
        have MI := Lib.hid MI
        have BI := Lib.hid BI
        have LI := Lib.hid (KL.out _ _ _ MI.out)
        go_wp2_with (first | (refine wpList_load_row rfl 28 _ rfl _ rfl 28 _ _ _ LI.out Try.underlying28 rfl (by kernel_rfl) ?_) | (refine wpList_load_rowG rfl 28 _ rfl _ rfl 28 _ _ _ LI.out Try.underlying28 rfl (by kernel_rfl) ?_))
        refine (y_chunks HR.out _).mono ?_
        rintro e w2q ⟨rfl, h2⟩
        have M2q := Lib.hid (MI.out.more h2)
        have B2q : Hid (BoxB g2 w2q r) := Lib.hid (h2.block BI.out)
        have L2q := Lib.hid (KL.out _ _ _ M2q.out)
        clear h2
        by_cases hlt : (i : Int) < chunksV c.pg
        · have d3 : decide ((i : Int) < chunksV c.pg) = true := by simp; omega
          have q3 : IntKind.i64.wrap ((i : Int) + 1) = (i : Int) + 1 := wrap_in (by omega) (by omega)
          have hsz := size_b HH.out.toTblIn (i : Int)
          have hfb : 0 ≤ firstV c.pg (i : Int) ∧ firstV c.pg (i : Int) ≤ 300 := by unfold firstV; split <;> omega
          have hsb : 0 ≤ sizeV c.pg (i : Int) ∧ sizeV c.pg (i : Int) ≤ 300 := by omega
          rw [show (chunksV c.pg).toNat - i = ((chunksV c.pg).toNat - (i + 1)) + 1 by omega] at hrest
          have hrest : bindP (toneP c.pg c.st (i : Int) r) (fun r => tloopP c.pg c.st ((chunksV c.pg).toNat - (i + 1)) ((i : Int) + 1) r) kn D' = Rr := hrest
          go_wp2_with (first | (refine wpList_load_row rfl 28 _ rfl _ rfl 28 _ _ _ L2q.out Try.underlying28 rfl (by kernel_rfl) ?_) | (refine wpList_load_rowG rfl 28 _ rfl _ rfl 28 _ _ _ L2q.out Try.underlying28 rfl (by kernel_rfl) ?_))
          refine (c_Pages HR.out (i : Int) _).mono ?_
          rintro e w3 ⟨rfl, h3⟩
          have M3 := Lib.hid (M2q.out.more h3)
          have B3 : Hid (BoxB g2 w3 r) := Lib.hid (h3.block B2q.out)
          clear h3
          cases r with
          | false =>
            have NX := Lib.hid (show tloopP c.pg c.st ((chunksV c.pg).toNat - (i + 1)) ((i : Int) + 1) false kn D' = Rr from hrest)
            obtain ⟨cS, fS, lS⟩ := box_cells B3.out
            clear hrest
            go_wp2_with fail
            refine wp_region_more_tail 14 (by kernel_rfl) (by kernel_rfl) ?_
            simp only [List.take_succ_cons, List.take_zero, List.drop_succ_cons, List.drop_zero]
            iterate 14
              with_reducible refine wpQuiet_step (fun K hK => ?_)
              go_simp
              first
              | (refine hK _ ?_; clear hK K)
              | (apply Exists.intro
                 refine ⟨fun W hW => ?_, hK _ ?_⟩
                 first
                 | (have cS' := hW.cell cS; go_simp; try rfl)
                 clear hK K)
            refine wpQuiet_nil ?_
            intro w4 h4
            have M4 := Lib.hid (M3.out.more h4)
            have B4 : Hid (BoxB g2 w4 false) := Lib.hid (h4.block B3.out)
            clear h4 cS fS lS
            obtain ⟨cS, fS, lS⟩ := box_cells B4.out
            obtain ⟨w5, e5⟩ : ∃ w5, w4.setCell ⟨g2, 0, none⟩ (.bool false) = w5 := ⟨_, rfl⟩
            have M5 : Hid (MidV W0 w5 F (fun b => b = g2) p kn n D' F') := Lib.hid (by rw [← e5]; exact M4.out.box (fun _ => rfl) (NF.out _ _ _ M4.out) _ B4.out)
            have B5 : Hid (BoxB g2 w5 false) := Lib.hid (by rw [← e5]; exact boxB_set B4.out false)
            go_wp2_with fail
            go_roundw
            case rel => exact ⟨i + 1, D', F', false, by go_num, by omega, M5.out, B5.out, by rw [show ((i + 1 : Nat) : Int) = (i : Int) + 1 by omega]; exact NX.out⟩
            case measure => simp [intOf]; omega
          | true =>
            have RI := Lib.hid (show bindP (mappedP c.pg c.st (i : Int)) (fun b => bindP (efitsP c.pg c.st (firstV c.pg (i : Int)) (sizeV c.pg (i : Int)) false) (fun f => tloopP c.pg c.st ((chunksV c.pg).toNat - (i + 1)) ((i : Int) + 1) (b == !f))) kn D' = Rr from by
              have h := hrest
              unfold toneP at h
              simp only [if_true, bindP_assoc] at h
              exact h)
            clear hrest
            go_wp2_with fail
            refine wp_region_anyC (TrC c g1) (by kernel_rfl) ?_
            have MR := Lib.hid (M3.out.more ((More.refl w3).drewN 1))
            have BR : Hid (BoxB g2 (w3.drewN 1) true) := Lib.hid (((More.refl w3).drewN 1).block B3.out)
            change anyC _ _ _ _ _ _ _ _ (w3.drewN 1)
            generalize w3.drewN 1 = w4 at MR BR ⊢
            generalize hA : Act.mk _ _ = A
            have HF : AG 69 A [(0, .pointer (some ⟨p, 0, none⟩)), (1, .pointer (some ⟨g1, 0, none⟩)), (2, .pointer (some ⟨g2, 0, none⟩)), (7, .int .i64 (i : Int)), (8, .int .i64 (firstV c.pg (i : Int))), (9, .int .i64 (sizeV c.pg (i : Int)))] := by
              rw [← hA]
              refine ⟨⟨Nat.le_of_ble_eq_true rfl, rfl⟩, ?_⟩
              intro z hz; simp only [List.mem_cons, List.not_mem_nil, or_false] at hz; rcases hz with rfl | rfl | rfl | rfl | rfl | rfl <;> rfl
            refine anyC_start (fun a W => ∃ (x5 x6 : Bool) (D6 : List KV) (F6 : Nat → Prop), a = (Act.put (Act.put (Act.put (Act.put (Act.put (Act.put (Act.put (Act.put (Act.put (Act.put (Act.put (Act.put (Act.put (Act.put (Act.put A (some 55) (.bool true)) (some 56) (.bool true)) (some 57) (.pointer (some ⟨p, 0, none⟩))) (some 58) (.agg c.arr)) (some 59) (.int .i64 (i : Int))) (some 61) (.pointer (some ⟨p, 0, none⟩))) (some 62) (.agg c.arr)) (some 63) (.int .i64 (firstV c.pg (i : Int)))) (some 64) (.int .i64 (sizeV c.pg (i : Int)))) (some 60) (.bool x5)) (some 65) (.bool x6)) (some 66) (.bool (!x6))) (some 67) (.bool (x5 == !x6))) (some 68) (.bool (x5 == !x6))) none undef) ∧ MidV W0 W F (fun b => b = g2) p kn n D6 F6 ∧ BoxB g2 W (x5 == !x6) ∧ tloopP c.pg c.st ((chunksV c.pg).toNat - (i + 1)) ((i : Int) + 1) (x5 == !x6) kn D6 = Rr) (fun W => WentY W0 F (fun b => b = g2) (fun w' => TrY c g1 g2 w') (fun w' => BoxB g2 w' true) p kn (ranOf Rr) (.panicked (endOf p)) W) (endOf p) (fun a W hd h => ⟨hd, h⟩) (fun _ _ _ _ _ h => h) ?_ ?_
            · rintro a w7 ⟨x5, x6, D6, F6, rfl, MS, BS, NX⟩
              rw [← hA]
              have MS := Lib.hid MS
              have BS := Lib.hid BS
              have NX := Lib.hid NX
              clear HF hA MR BR RI
              go_wp2_with fail
              go_roundw
              case rel => exact ⟨i + 1, D6, F6, _, by go_num, by omega, MS.out, BS.out, by rw [show ((i + 1 : Nat) : Int) = (i : Int) + 1 by omega]; exact NX.out⟩
              case measure => simp [intOf]; omega
            intro QQ FINE FIND FINQ
            clear hA
            have cR := (box_cells BR.out).1
            refine anyC_oneK (i := 0) (some 55) (by kernel_rfl) rfl (wanted_none rfl) rfl (fun K hK => ?_)
            refine wp_load_bool rfl g2 (HF.get 2 rfl) _ cR ?_
            refine hK _ _ (KL.out _ _ _ MR.out) ?_
            clear hK K cR
            replace HF := HF.put 55 (.bool true) (by decide) rfl
            generalize hB1 : Act.put _ _ _ = A at HF ⊢
            refine anyC_takeD (i := 1) (v := .bool true) (some 56) rfl rfl (by kernel_rfl) (by kernel_rfl) (by kernel_rfl) (fun c a w => FINQ c a _ _ w) (KL.out _ _ _ MR.out) (by exact yieldsC_moveG (wanted_none rfl) _ rfl (HF.get 0 rfl)) ?_
            replace HF := HF.put 56 (.bool true) (by decide) rfl
            generalize hB2 : Act.put _ _ _ = A at HF ⊢
            refine anyC_takeD (i := 2) (v := .pointer (some ⟨p, 0, none⟩)) (some 57) rfl rfl (by kernel_rfl) (by kernel_rfl) (by kernel_rfl) (fun c a w => FINQ c a _ _ w) (KL.out _ _ _ MR.out) (by exact yieldsC_moveG (wanted_g 1 true 56 rfl rfl (HF.at (by decide) 0 rfl)) _ rfl (HF.get 2 rfl)) ?_
            replace HF := HF.put 57 (.pointer (some ⟨p, 0, none⟩)) (by decide) rfl
            generalize hB3 : Act.put _ _ _ = A at HF ⊢
            refine anyC_takeD (i := 3) (v := .agg c.arr) (some 58) rfl rfl (by kernel_rfl) (by kernel_rfl) (by kernel_rfl) (fun c a w => FINQ c a _ _ w) (KL.out _ _ _ MR.out) (by exact yieldsC_row (C := TrC c g1) (wanted_g 1 true 56 rfl rfl (HF.at (by decide) 1 rfl)) 28 _ rfl g1 (HF.get 4 rfl) 28 _ _ _ (fun W hW => hW) Try.underlying28 rfl (by kernel_rfl)) ?_
            replace HF := HF.put 58 (.agg c.arr) (by decide) rfl
            generalize hB4 : Act.put _ _ _ = A at HF ⊢
            refine anyC_takeD (i := 4) (v := .int .i64 (i : Int)) (some 59) rfl rfl (by kernel_rfl) (by kernel_rfl) (by kernel_rfl) (fun c a w => FINQ c a _ _ w) (KL.out _ _ _ MR.out) (by exact yieldsC_moveG (wanted_g 1 true 56 rfl rfl (HF.at (by decide) 2 rfl)) _ rfl (HF.get 7 rfl)) ?_
            replace HF := HF.put 59 (.int .i64 (i : Int)) (by decide) rfl
            generalize hB5 : Act.put _ _ _ = A at HF ⊢
            refine anyC_takeD (i := 6) (v := .pointer (some ⟨p, 0, none⟩)) (some 61) rfl rfl (by kernel_rfl) (by kernel_rfl) (by kernel_rfl) (fun c a w => FINQ c a _ _ w) (KL.out _ _ _ MR.out) (by exact yieldsC_moveG (wanted_g 1 true 56 rfl rfl (HF.at (by decide) 3 rfl)) _ rfl (HF.get 5 rfl)) ?_
            replace HF := HF.put 61 (.pointer (some ⟨p, 0, none⟩)) (by decide) rfl
            generalize hB6 : Act.put _ _ _ = A at HF ⊢
            refine anyC_takeD (i := 7) (v := .agg c.arr) (some 62) rfl rfl (by kernel_rfl) (by kernel_rfl) (by kernel_rfl) (fun c a w => FINQ c a _ _ w) (KL.out _ _ _ MR.out) (by exact yieldsC_row (C := TrC c g1) (wanted_g 1 true 56 rfl rfl (HF.at (by decide) 4 rfl)) 28 _ rfl g1 (HF.get 7 rfl) 28 _ _ _ (fun W hW => hW) Try.underlying28 rfl (by kernel_rfl)) ?_
            replace HF := HF.put 62 (.agg c.arr) (by decide) rfl
            generalize hB7 : Act.put _ _ _ = A at HF ⊢
            refine anyC_takeD (i := 8) (v := .int .i64 (firstV c.pg (i : Int))) (some 63) rfl rfl (by kernel_rfl) (by kernel_rfl) (by kernel_rfl) (fun c a w => FINQ c a _ _ w) (KL.out _ _ _ MR.out) (by exact yieldsC_moveG (wanted_g 1 true 56 rfl rfl (HF.at (by decide) 5 rfl)) _ rfl (HF.get 11 rfl)) ?_
            replace HF := HF.put 63 (.int .i64 (firstV c.pg (i : Int))) (by decide) rfl
            generalize hB8 : Act.put _ _ _ = A at HF ⊢
            refine anyC_takeD (i := 9) (v := .int .i64 (sizeV c.pg (i : Int))) (some 64) rfl rfl (by kernel_rfl) (by kernel_rfl) (by kernel_rfl) (fun c a w => FINQ c a _ _ w) (KL.out _ _ _ MR.out) (by exact yieldsC_moveG (wanted_g 1 true 56 rfl rfl (HF.at (by decide) 6 rfl)) _ rfl (HF.get 13 rfl)) ?_
            replace HF := HF.put 64 (.int .i64 (sizeV c.pg (i : Int))) (by decide) rfl
            generalize hB9 : Act.put _ _ _ = A at HF ⊢
            refine anyC_oneK (i := 5) (some 60) (by kernel_rfl) rfl (wanted_g 1 true 56 rfl rfl (HF.at (by decide) 7 rfl)) rfl (fun K hK => ?_)
            refine wp_call3 (v0 := .pointer (some ⟨p, 0, none⟩)) (v1 := .agg c.arr) (v2 := .int .i64 (i : Int)) rfl (HF.get 6 rfl) (HF.get 5 rfl) (HF.get 4 rfl) (enters_of Try.func34 (by kernel_rfl) rfl) ?_
            refine (c_Mapped HR.out F' p kn D' (i : Int) w4 MR.out.view).mono ?_
            intro e w5 he
            rcases MR.out.step (More.refl _) HK.out (good_mapped HH.out.toTblIn _) he with ⟨a', hE, rfl, hd', ht', hk'⟩ | ⟨x5, D5, F5, hE, rfl, M5, hq5, hk', hf'⟩
            · exact FIND _ _ HF.1.2 (NEED.out a' w5 _ (RI.out.symm.trans (bindP_need hE)) hd' ht' (hk' _ _ (NF.out _ _ _ MR.out) BR.out))
            have B5 := Lib.hid (show BoxB g2 w5 true from hk' _ _ (NF.out _ _ _ MR.out) BR.out)
            have R5 := Lib.hid ((bindP_ok hE).symm.trans RI.out)
            have M5 := Lib.hid M5
            clear he hE hk' hf'
            refine hK _ _ (KL.out _ _ _ M5.out) ?_
            clear hK K
            replace HF := HF.put 60 (.bool x5) (by decide) rfl
            generalize hB10 : Act.put _ _ _ = A at HF ⊢
            refine anyC_oneK (i := 10) (some 65) (by kernel_rfl) rfl (wanted_g 1 true 56 rfl rfl (HF.at (by decide) 8 rfl)) rfl (fun K hK => ?_)
            refine wp_call5 (v0 := .pointer (some ⟨p, 0, none⟩)) (v1 := .agg c.arr) (v2 := .int .i64 (firstV c.pg (i : Int))) (v3 := .int .i64 (sizeV c.pg (i : Int))) (v4 := .bool false) rfl (HF.get 4 rfl) (HF.get 3 rfl) (HF.get 2 rfl) (HF.get 1 rfl) rfl (enters_of Try.func22 (by kernel_rfl) rfl) ?_
            refine (e_fits9 HR.out HH.out F5 p kn D5 (firstV c.pg (i : Int)) (sizeV c.pg (i : Int)) false hfb hsb w5 M5.out.view HK.out M5.out.inv).mono ?_
            intro e w6 he
            rcases M5.out.step (More.refl _) HK.out (good_fits HH.out _ _ _) he with ⟨a', hE, rfl, hd', ht', hk'⟩ | ⟨x6, D6, F6, hE, rfl, M6, hq6, hk', hf'⟩
            · exact FIND _ _ HF.1.2 (NEED.out a' w6 _ (R5.out.symm.trans (bindP_need hE)) hd' ht' (hk' _ _ (NF.out _ _ _ M5.out) B5.out))
            have B6 := Lib.hid (show BoxB g2 w6 true from hk' _ _ (NF.out _ _ _ M5.out) B5.out)
            have R6 := Lib.hid ((bindP_ok hE).symm.trans R5.out)
            have M6 := Lib.hid M6
            clear he hE hk' hf'
            refine hK _ _ (KL.out _ _ _ M6.out) ?_
            clear hK K
            replace HF := HF.put 65 (.bool x6) (by decide) rfl
            generalize hB11 : Act.put _ _ _ = A at HF ⊢
            refine anyC_takeD (i := 11) (v := .bool (!x6)) (some 66) rfl rfl (by kernel_rfl) (by kernel_rfl) (by kernel_rfl) (fun c a w => FINQ c a _ _ w) (KL.out _ _ _ M6.out) (by exact yieldsC_not (wanted_g 1 true 56 rfl rfl (HF.at (by decide) 9 rfl)) rfl (HF.get 0 rfl)) ?_
            replace HF := HF.put 66 (.bool (!x6)) (by decide) rfl
            generalize hB12 : Act.put _ _ _ = A at HF ⊢
            refine anyC_takeD (i := 12) (v := .bool (x5 == !x6)) (some 67) rfl rfl (by kernel_rfl) (by kernel_rfl) (by kernel_rfl) (fun c a w => FINQ c a _ _ w) (KL.out _ _ _ M6.out) (by exact yieldsC_eqlB (wanted_g 1 true 56 rfl rfl (HF.at (by decide) 10 rfl)) rfl (HF.get 2 rfl) (HF.get 0 rfl)) ?_
            replace HF := HF.put 67 (.bool (x5 == !x6)) (by decide) rfl
            generalize hB13 : Act.put _ _ _ = A at HF ⊢
            refine anyC_takeD (i := 13) (v := .bool (x5 == !x6)) (some 68) rfl rfl (by kernel_rfl) (by kernel_rfl) (by kernel_rfl) (fun c a w => FINQ c a _ _ w) (KL.out _ _ _ M6.out) (by exact yieldsC_pickT rfl rfl (HF.get 11 rfl) (HF.get 0 rfl)) ?_
            replace HF := HF.put 68 (.bool (x5 == !x6)) (by decide) rfl
            generalize hB14 : Act.put _ _ _ = A at HF ⊢
            obtain ⟨cS, fS, lS⟩ := box_cells B6.out
            refine anyC_last (i := 14) (by kernel_rfl) (by kernel_rfl) rfl (wanted_none rfl) (fun K hK => ?_)
            refine wp_store_bool rfl g2 (HF.get 16 rfl) (x5 == !x6) (HF.get 0 rfl) _ B6.out ?_
            have MS := M6.out.box (fun _ => rfl) (NF.out _ _ _ M6.out) (.bool (x5 == !x6)) B6.out
            have NX : tloopP c.pg c.st ((chunksV c.pg).toNat - (i + 1)) ((i : Int) + 1) (x5 == !x6) kn D6 = Rr := R6.out
            have BS := boxB_set B6.out (x5 == !x6)
            exact hK _ _ (KL.out _ _ _ MS) (FINE _ _ ⟨x5, x6, D6, F6, by rw [← hB14, ← hB13, ← hB12, ← hB11, ← hB10, ← hB9, ← hB8, ← hB7, ← hB6, ← hB5, ← hB4, ← hB3, ← hB2, ← hB1]; rfl, MS, BS, NX⟩)
        · have hie : (i : Int) = chunksV c.pg := by omega
          have d3 : decide ((i : Int) < chunksV c.pg) = false := by simp; omega
          rw [show (chunksV c.pg).toNat - i = 0 by omega] at hrest
          have FIN := Lib.hid (DONE.out _ D' F' r hrest.symm M2q.out B2q.out)
          clear hrest
          go_wp2_with fail
          go_end0
          exact FIN.out
  · have e4 : (x4 == x1) = false := by simp [z4]
    have R4' := R4.out
    rw [if_neg z4] at R4'
    clear z4
    obtain ⟨cS, fS, lS⟩ := box_cells B4.out
    obtain ⟨wS, eS⟩ : ∃ wS, w4.setCell ⟨g2, 0, none⟩ (.bool false) = wS := ⟨_, rfl⟩
    have MS : Hid (MidV W0 wS F (fun b => b = g2) p kn n D4 F4) := Lib.hid (by rw [← eS]; exact M4.out.box (fun _ => rfl) (NF.out _ _ _ M4.out) _ B4.out)
    have BS : Hid (BoxB g2 wS false) := Lib.hid (by rw [← eS]; exact boxB_set B4.out false)
    have RS := Lib.hid (show tloopP c.pg c.st (chunksV c.pg).toNat 0 false kn D4 = Rr from R4')
    clear R4 R4'
    go_wp2_with fail
    clear cS fS lS
    go_loopw [7, 8, 9] (fun v7 _ _ wr => ∃ (i : Nat) (D' : List KV) (F' : Nat → Prop) (r : Bool), v7 = .int .i64 (i : Int) ∧ (i : Int) ≤ chunksV c.pg ∧ MidV W0 wr F (fun b => b = g2) p kn n D' F' ∧ BoxB g2 wr r ∧ tloopP c.pg c.st ((chunksV c.pg).toNat - i) (i : Int) r kn D' = Rr) (fun v7 _ _ _ => (chunksV c.pg - intOf v7).toNat)
    case atStart => exact ⟨0, D4, F4, false, rfl, by omega, MS.out, BS.out, by simpa using RS.out⟩
    case round =>
      clear MS BS RS eS
      obtain ⟨i, D', F', r, rfl, hi, MI, BI, hrest⟩ := hrel
      have MI := Lib.hid MI
      have BI := Lib.hid BI
      have LI := Lib.hid (KL.out _ _ _ MI.out)
      go_wp2_with (first | (refine wpList_load_row rfl 28 _ rfl _ rfl 28 _ _ _ LI.out Try.underlying28 rfl (by kernel_rfl) ?_) | (refine wpList_load_rowG rfl 28 _ rfl _ rfl 28 _ _ _ LI.out Try.underlying28 rfl (by kernel_rfl) ?_))
      refine (y_chunks HR.out _).mono ?_
      rintro e w2q ⟨rfl, h2⟩
      have M2q := Lib.hid (MI.out.more h2)
      have B2q : Hid (BoxB g2 w2q r) := Lib.hid (h2.block BI.out)
      have L2q := Lib.hid (KL.out _ _ _ M2q.out)
      clear h2
      by_cases hlt : (i : Int) < chunksV c.pg
      · have d3 : decide ((i : Int) < chunksV c.pg) = true := by simp; omega
        have q3 : IntKind.i64.wrap ((i : Int) + 1) = (i : Int) + 1 := wrap_in (by omega) (by omega)
        have hsz := size_b HH.out.toTblIn (i : Int)
        have hfb : 0 ≤ firstV c.pg (i : Int) ∧ firstV c.pg (i : Int) ≤ 300 := by unfold firstV; split <;> omega
        have hsb : 0 ≤ sizeV c.pg (i : Int) ∧ sizeV c.pg (i : Int) ≤ 300 := by omega
        rw [show (chunksV c.pg).toNat - i = ((chunksV c.pg).toNat - (i + 1)) + 1 by omega] at hrest
        have hrest : bindP (toneP c.pg c.st (i : Int) r) (fun r => tloopP c.pg c.st ((chunksV c.pg).toNat - (i + 1)) ((i : Int) + 1) r) kn D' = Rr := hrest
        go_wp2_with (first | (refine wpList_load_row rfl 28 _ rfl _ rfl 28 _ _ _ L2q.out Try.underlying28 rfl (by kernel_rfl) ?_) | (refine wpList_load_rowG rfl 28 _ rfl _ rfl 28 _ _ _ L2q.out Try.underlying28 rfl (by kernel_rfl) ?_))
        refine (c_Pages HR.out (i : Int) _).mono ?_
        rintro e w3 ⟨rfl, h3⟩
        have M3 := Lib.hid (M2q.out.more h3)
        have B3 : Hid (BoxB g2 w3 r) := Lib.hid (h3.block B2q.out)
        clear h3
        cases r with
        | false =>
          have NX := Lib.hid (show tloopP c.pg c.st ((chunksV c.pg).toNat - (i + 1)) ((i : Int) + 1) false kn D' = Rr from hrest)
          obtain ⟨cS, fS, lS⟩ := box_cells B3.out
          clear hrest
          go_wp2_with fail
          refine wp_region_more_tail 14 (by kernel_rfl) (by kernel_rfl) ?_
          simp only [List.take_succ_cons, List.take_zero, List.drop_succ_cons, List.drop_zero]
          iterate 14
            with_reducible refine wpQuiet_step (fun K hK => ?_)
            go_simp
            first
            | (refine hK _ ?_; clear hK K)
            | (apply Exists.intro
               refine ⟨fun W hW => ?_, hK _ ?_⟩
               first
               | (have cS' := hW.cell cS; go_simp; try rfl)
               clear hK K)
          refine wpQuiet_nil ?_
          intro w4 h4
          have M4 := Lib.hid (M3.out.more h4)
          have B4 : Hid (BoxB g2 w4 false) := Lib.hid (h4.block B3.out)
          clear h4 cS fS lS
          obtain ⟨cS, fS, lS⟩ := box_cells B4.out
          obtain ⟨w5, e5⟩ : ∃ w5, w4.setCell ⟨g2, 0, none⟩ (.bool false) = w5 := ⟨_, rfl⟩
          have M5 : Hid (MidV W0 w5 F (fun b => b = g2) p kn n D' F') := Lib.hid (by rw [← e5]; exact M4.out.box (fun _ => rfl) (NF.out _ _ _ M4.out) _ B4.out)
          have B5 : Hid (BoxB g2 w5 false) := Lib.hid (by rw [← e5]; exact boxB_set B4.out false)
          go_wp2_with fail
          go_roundw
          case rel => exact ⟨i + 1, D', F', false, by go_num, by omega, M5.out, B5.out, by rw [show ((i + 1 : Nat) : Int) = (i : Int) + 1 by omega]; exact NX.out⟩
          case measure => simp [intOf]; omega
        | true =>
          have RI := Lib.hid (show bindP (mappedP c.pg c.st (i : Int)) (fun b => bindP (efitsP c.pg c.st (firstV c.pg (i : Int)) (sizeV c.pg (i : Int)) false) (fun f => tloopP c.pg c.st ((chunksV c.pg).toNat - (i + 1)) ((i : Int) + 1) (b == !f))) kn D' = Rr from by
            have h := hrest
            unfold toneP at h
            simp only [if_true, bindP_assoc] at h
            exact h)
          clear hrest
          go_wp2_with fail
          refine wp_region_anyC (TrC c g1) (by kernel_rfl) ?_
          have MR := Lib.hid (M3.out.more ((More.refl w3).drewN 1))
          have BR : Hid (BoxB g2 (w3.drewN 1) true) := Lib.hid (((More.refl w3).drewN 1).block B3.out)
          change anyC _ _ _ _ _ _ _ _ (w3.drewN 1)
          generalize w3.drewN 1 = w4 at MR BR ⊢
          generalize hA : Act.mk _ _ = A
          have HF : AG 69 A [(0, .pointer (some ⟨p, 0, none⟩)), (1, .pointer (some ⟨g1, 0, none⟩)), (2, .pointer (some ⟨g2, 0, none⟩)), (7, .int .i64 (i : Int)), (8, .int .i64 (firstV c.pg (i : Int))), (9, .int .i64 (sizeV c.pg (i : Int)))] := by
            rw [← hA]
            refine ⟨⟨Nat.le_of_ble_eq_true rfl, rfl⟩, ?_⟩
            intro z hz; simp only [List.mem_cons, List.not_mem_nil, or_false] at hz; rcases hz with rfl | rfl | rfl | rfl | rfl | rfl <;> rfl
          refine anyC_start (fun a W => ∃ (x5 x6 : Bool) (D6 : List KV) (F6 : Nat → Prop), a = (Act.put (Act.put (Act.put (Act.put (Act.put (Act.put (Act.put (Act.put (Act.put (Act.put (Act.put (Act.put (Act.put (Act.put (Act.put A (some 55) (.bool true)) (some 56) (.bool true)) (some 57) (.pointer (some ⟨p, 0, none⟩))) (some 58) (.agg c.arr)) (some 59) (.int .i64 (i : Int))) (some 61) (.pointer (some ⟨p, 0, none⟩))) (some 62) (.agg c.arr)) (some 63) (.int .i64 (firstV c.pg (i : Int)))) (some 64) (.int .i64 (sizeV c.pg (i : Int)))) (some 60) (.bool x5)) (some 65) (.bool x6)) (some 66) (.bool (!x6))) (some 67) (.bool (x5 == !x6))) (some 68) (.bool (x5 == !x6))) none undef) ∧ MidV W0 W F (fun b => b = g2) p kn n D6 F6 ∧ BoxB g2 W (x5 == !x6) ∧ tloopP c.pg c.st ((chunksV c.pg).toNat - (i + 1)) ((i : Int) + 1) (x5 == !x6) kn D6 = Rr) (fun W => WentY W0 F (fun b => b = g2) (fun w' => TrY c g1 g2 w') (fun w' => BoxB g2 w' true) p kn (ranOf Rr) (.panicked (endOf p)) W) (endOf p) (fun a W hd h => ⟨hd, h⟩) (fun _ _ _ _ _ h => h) ?_ ?_
          · rintro a w7 ⟨x5, x6, D6, F6, rfl, MS, BS, NX⟩
            rw [← hA]
            have MS := Lib.hid MS
            have BS := Lib.hid BS
            have NX := Lib.hid NX
            clear HF hA MR BR RI
            go_wp2_with fail
            go_roundw
            case rel => exact ⟨i + 1, D6, F6, _, by go_num, by omega, MS.out, BS.out, by rw [show ((i + 1 : Nat) : Int) = (i : Int) + 1 by omega]; exact NX.out⟩
            case measure => simp [intOf]; omega
          intro QQ FINE FIND FINQ
          clear hA
          have cR := (box_cells BR.out).1
          refine anyC_oneK (i := 0) (some 55) (by kernel_rfl) rfl (wanted_none rfl) rfl (fun K hK => ?_)
          refine wp_load_bool rfl g2 (HF.get 2 rfl) _ cR ?_
          refine hK _ _ (KL.out _ _ _ MR.out) ?_
          clear hK K cR
          replace HF := HF.put 55 (.bool true) (by decide) rfl
          generalize hB1 : Act.put _ _ _ = A at HF ⊢
          refine anyC_takeD (i := 1) (v := .bool true) (some 56) rfl rfl (by kernel_rfl) (by kernel_rfl) (by kernel_rfl) (fun c a w => FINQ c a _ _ w) (KL.out _ _ _ MR.out) (by exact yieldsC_moveG (wanted_none rfl) _ rfl (HF.get 0 rfl)) ?_
          replace HF := HF.put 56 (.bool true) (by decide) rfl
          generalize hB2 : Act.put _ _ _ = A at HF ⊢
          refine anyC_takeD (i := 2) (v := .pointer (some ⟨p, 0, none⟩)) (some 57) rfl rfl (by kernel_rfl) (by kernel_rfl) (by kernel_rfl) (fun c a w => FINQ c a _ _ w) (KL.out _ _ _ MR.out) (by exact yieldsC_moveG (wanted_g 1 true 56 rfl rfl (HF.at (by decide) 0 rfl)) _ rfl (HF.get 2 rfl)) ?_
          replace HF := HF.put 57 (.pointer (some ⟨p, 0, none⟩)) (by decide) rfl
          generalize hB3 : Act.put _ _ _ = A at HF ⊢
          refine anyC_takeD (i := 3) (v := .agg c.arr) (some 58) rfl rfl (by kernel_rfl) (by kernel_rfl) (by kernel_rfl) (fun c a w => FINQ c a _ _ w) (KL.out _ _ _ MR.out) (by exact yieldsC_row (C := TrC c g1) (wanted_g 1 true 56 rfl rfl (HF.at (by decide) 1 rfl)) 28 _ rfl g1 (HF.get 4 rfl) 28 _ _ _ (fun W hW => hW) Try.underlying28 rfl (by kernel_rfl)) ?_
          replace HF := HF.put 58 (.agg c.arr) (by decide) rfl
          generalize hB4 : Act.put _ _ _ = A at HF ⊢
          refine anyC_takeD (i := 4) (v := .int .i64 (i : Int)) (some 59) rfl rfl (by kernel_rfl) (by kernel_rfl) (by kernel_rfl) (fun c a w => FINQ c a _ _ w) (KL.out _ _ _ MR.out) (by exact yieldsC_moveG (wanted_g 1 true 56 rfl rfl (HF.at (by decide) 2 rfl)) _ rfl (HF.get 7 rfl)) ?_
          replace HF := HF.put 59 (.int .i64 (i : Int)) (by decide) rfl
          generalize hB5 : Act.put _ _ _ = A at HF ⊢
          refine anyC_takeD (i := 6) (v := .pointer (some ⟨p, 0, none⟩)) (some 61) rfl rfl (by kernel_rfl) (by kernel_rfl) (by kernel_rfl) (fun c a w => FINQ c a _ _ w) (KL.out _ _ _ MR.out) (by exact yieldsC_moveG (wanted_g 1 true 56 rfl rfl (HF.at (by decide) 3 rfl)) _ rfl (HF.get 5 rfl)) ?_
          replace HF := HF.put 61 (.pointer (some ⟨p, 0, none⟩)) (by decide) rfl
          generalize hB6 : Act.put _ _ _ = A at HF ⊢
          refine anyC_takeD (i := 7) (v := .agg c.arr) (some 62) rfl rfl (by kernel_rfl) (by kernel_rfl) (by kernel_rfl) (fun c a w => FINQ c a _ _ w) (KL.out _ _ _ MR.out) (by exact yieldsC_row (C := TrC c g1) (wanted_g 1 true 56 rfl rfl (HF.at (by decide) 4 rfl)) 28 _ rfl g1 (HF.get 7 rfl) 28 _ _ _ (fun W hW => hW) Try.underlying28 rfl (by kernel_rfl)) ?_
          replace HF := HF.put 62 (.agg c.arr) (by decide) rfl
          generalize hB7 : Act.put _ _ _ = A at HF ⊢
          refine anyC_takeD (i := 8) (v := .int .i64 (firstV c.pg (i : Int))) (some 63) rfl rfl (by kernel_rfl) (by kernel_rfl) (by kernel_rfl) (fun c a w => FINQ c a _ _ w) (KL.out _ _ _ MR.out) (by exact yieldsC_moveG (wanted_g 1 true 56 rfl rfl (HF.at (by decide) 5 rfl)) _ rfl (HF.get 11 rfl)) ?_
          replace HF := HF.put 63 (.int .i64 (firstV c.pg (i : Int))) (by decide) rfl
          generalize hB8 : Act.put _ _ _ = A at HF ⊢
          refine anyC_takeD (i := 9) (v := .int .i64 (sizeV c.pg (i : Int))) (some 64) rfl rfl (by kernel_rfl) (by kernel_rfl) (by kernel_rfl) (fun c a w => FINQ c a _ _ w) (KL.out _ _ _ MR.out) (by exact yieldsC_moveG (wanted_g 1 true 56 rfl rfl (HF.at (by decide) 6 rfl)) _ rfl (HF.get 13 rfl)) ?_
          replace HF := HF.put 64 (.int .i64 (sizeV c.pg (i : Int))) (by decide) rfl
          generalize hB9 : Act.put _ _ _ = A at HF ⊢
          refine anyC_oneK (i := 5) (some 60) (by kernel_rfl) rfl (wanted_g 1 true 56 rfl rfl (HF.at (by decide) 7 rfl)) rfl (fun K hK => ?_)
          refine wp_call3 (v0 := .pointer (some ⟨p, 0, none⟩)) (v1 := .agg c.arr) (v2 := .int .i64 (i : Int)) rfl (HF.get 6 rfl) (HF.get 5 rfl) (HF.get 4 rfl) (enters_of Try.func34 (by kernel_rfl) rfl) ?_
          refine (c_Mapped HR.out F' p kn D' (i : Int) w4 MR.out.view).mono ?_
          intro e w5 he
          rcases MR.out.step (More.refl _) HK.out (good_mapped HH.out.toTblIn _) he with ⟨a', hE, rfl, hd', ht', hk'⟩ | ⟨x5, D5, F5, hE, rfl, M5, hq5, hk', hf'⟩
          · exact FIND _ _ HF.1.2 (NEED.out a' w5 _ (RI.out.symm.trans (bindP_need hE)) hd' ht' (hk' _ _ (NF.out _ _ _ MR.out) BR.out))
          have B5 := Lib.hid (show BoxB g2 w5 true from hk' _ _ (NF.out _ _ _ MR.out) BR.out)
          have R5 := Lib.hid ((bindP_ok hE).symm.trans RI.out)
          have M5 := Lib.hid M5
          clear he hE hk' hf'
          refine hK _ _ (KL.out _ _ _ M5.out) ?_
          clear hK K
          replace HF := HF.put 60 (.bool x5) (by decide) rfl
          generalize hB10 : Act.put _ _ _ = A at HF ⊢
          refine anyC_oneK (i := 10) (some 65) (by kernel_rfl) rfl (wanted_g 1 true 56 rfl rfl (HF.at (by decide) 8 rfl)) rfl (fun K hK => ?_)
          refine wp_call5 (v0 := .pointer (some ⟨p, 0, none⟩)) (v1 := .agg c.arr) (v2 := .int .i64 (firstV c.pg (i : Int))) (v3 := .int .i64 (sizeV c.pg (i : Int))) (v4 := .bool false) rfl (HF.get 4 rfl) (HF.get 3 rfl) (HF.get 2 rfl) (HF.get 1 rfl) rfl (enters_of Try.func22 (by kernel_rfl) rfl) ?_
          refine (e_fits9 HR.out HH.out F5 p kn D5 (firstV c.pg (i : Int)) (sizeV c.pg (i : Int)) false hfb hsb w5 M5.out.view HK.out M5.out.inv).mono ?_
          intro e w6 he
          rcases M5.out.step (More.refl _) HK.out (good_fits HH.out _ _ _) he with ⟨a', hE, rfl, hd', ht', hk'⟩ | ⟨x6, D6, F6, hE, rfl, M6, hq6, hk', hf'⟩
          · exact FIND _ _ HF.1.2 (NEED.out a' w6 _ (R5.out.symm.trans (bindP_need hE)) hd' ht' (hk' _ _ (NF.out _ _ _ M5.out) B5.out))
          have B6 := Lib.hid (show BoxB g2 w6 true from hk' _ _ (NF.out _ _ _ M5.out) B5.out)
          have R6 := Lib.hid ((bindP_ok hE).symm.trans R5.out)
          have M6 := Lib.hid M6
          clear he hE hk' hf'
          refine hK _ _ (KL.out _ _ _ M6.out) ?_
          clear hK K
          replace HF := HF.put 65 (.bool x6) (by decide) rfl
          generalize hB11 : Act.put _ _ _ = A at HF ⊢
          refine anyC_takeD (i := 11) (v := .bool (!x6)) (some 66) rfl rfl (by kernel_rfl) (by kernel_rfl) (by kernel_rfl) (fun c a w => FINQ c a _ _ w) (KL.out _ _ _ M6.out) (by exact yieldsC_not (wanted_g 1 true 56 rfl rfl (HF.at (by decide) 9 rfl)) rfl (HF.get 0 rfl)) ?_
          replace HF := HF.put 66 (.bool (!x6)) (by decide) rfl
          generalize hB12 : Act.put _ _ _ = A at HF ⊢
          refine anyC_takeD (i := 12) (v := .bool (x5 == !x6)) (some 67) rfl rfl (by kernel_rfl) (by kernel_rfl) (by kernel_rfl) (fun c a w => FINQ c a _ _ w) (KL.out _ _ _ M6.out) (by exact yieldsC_eqlB (wanted_g 1 true 56 rfl rfl (HF.at (by decide) 10 rfl)) rfl (HF.get 2 rfl) (HF.get 0 rfl)) ?_
          replace HF := HF.put 67 (.bool (x5 == !x6)) (by decide) rfl
          generalize hB13 : Act.put _ _ _ = A at HF ⊢
          refine anyC_takeD (i := 13) (v := .bool (x5 == !x6)) (some 68) rfl rfl (by kernel_rfl) (by kernel_rfl) (by kernel_rfl) (fun c a w => FINQ c a _ _ w) (KL.out _ _ _ M6.out) (by exact yieldsC_pickT rfl rfl (HF.get 11 rfl) (HF.get 0 rfl)) ?_
          replace HF := HF.put 68 (.bool (x5 == !x6)) (by decide) rfl
          generalize hB14 : Act.put _ _ _ = A at HF ⊢
          obtain ⟨cS, fS, lS⟩ := box_cells B6.out
          refine anyC_last (i := 14) (by kernel_rfl) (by kernel_rfl) rfl (wanted_none rfl) (fun K hK => ?_)
          refine wp_store_bool rfl g2 (HF.get 16 rfl) (x5 == !x6) (HF.get 0 rfl) _ B6.out ?_
          have MS := M6.out.box (fun _ => rfl) (NF.out _ _ _ M6.out) (.bool (x5 == !x6)) B6.out
          have NX : tloopP c.pg c.st ((chunksV c.pg).toNat - (i + 1)) ((i : Int) + 1) (x5 == !x6) kn D6 = Rr := R6.out
          have BS := boxB_set B6.out (x5 == !x6)
          exact hK _ _ (KL.out _ _ _ MS) (FINE _ _ ⟨x5, x6, D6, F6, by rw [← hB14, ← hB13, ← hB12, ← hB11, ← hB10, ← hB9, ← hB8, ← hB7, ← hB6, ← hB5, ← hB4, ← hB3, ← hB2, ← hB1]; rfl, MS, BS, NX⟩)
      · have hie : (i : Int) = chunksV c.pg := by omega
        have d3 : decide ((i : Int) < chunksV c.pg) = false := by simp; omega
        rw [show (chunksV c.pg).toNat - i = 0 by omega] at hrest
        have FIN := Lib.hid (DONE.out _ D' F' r hrest.symm M2q.out B2q.out)
        clear hrest
        go_wp2_with fail
        go_end0
        exact FIN.out
end Go.Proofs.Ytjljkidlhlgefaa

namespace Go.Proofs.Ytjljkidlhlgefaa
open Go.RowKit Go.Sort Go.Maps Go.Shelf
set_option linter.unusedVariables false
set_option linter.unusedSimpArgs false

theorem trim_call {c : Cfg} (R : c.Ok) (zs : List Int) (H : PgIn c.pg c.st zs.length) (hlen : zs.length ≤ 1000) (hz : OkW zs) (hwf : Wf c.pg c.st zs) (w : World) (g1 g2 : Nat) (a : Option Addr) (cap : Nat) (hY : TrY c g1 g2 w) (hne : g1 ≠ g2) (hw : IsWords w a zs) :
    Calls Try.prog 9 #[.slice a zs.length cap, .func (.func 32) #[] #[.pointer (some ⟨g1, 0, none⟩), .pointer (some ⟨g2, 0, none⟩)]] w (fun e w' => ∃ v1 v2, e = .returned (.tuple #[v1, v2, .int .i64 0]) ∧ BoxB g2 w' true ∧ Turned (fun b => b = g2) w w') := by
  have l1 := lt_of_heap hY.h1
  have l2 : g2 < w.heap.size := by obtain ⟨b, h⟩ := hY.h2; exact lt_of_heap h
  obtain ⟨D, hD⟩ := tlaw_true H hz hwf
  obtain ⟨K', hK, hd⟩ := doP_run (sound_tlaw c.pg c.st) (good_tlaw H) hz hD (zs.length + 1) [] (okKn_nil _) (by simp)
  have M := doY_ok a cap zs (fun K => ranOf (tlawP c.pg c.st (look K) [])) (some (applyD zs D, K')) zs.length w hw hlen hz (fine_of (good_tlaw H) hz (by omega)) (by omega) hd 32 #[.pointer (some ⟨g1, 0, none⟩), .pointer (some ⟨g2, 0, none⟩)] (fun b => b = g2)
    (fun w' => TrY c g1 g2 w') (fun w' => BoxB g2 w' true)
    (fun k q => by subst q; exact l2)
    (fun w' w'' y t => by obtain ⟨y1, b, y2⟩ := y; exact ⟨(t.block g1 (lt_of_heap y1) (by omega)).trans y1, b, (t.block g2 (lt_of_heap y2) (by omega)).trans y2⟩)
    (fun w' w'' y t => (t.block g2 (lt_of_heap y) (by omega)).trans y) hY (enters_of Try.func32 (by kernel_rfl) rfl)
    (fun K hK W F p t yy hv hF => trim_clo R H (by omega) F p g1 g2 (look K) W hv (okK_of hK hz) yy (fun q => by have := hF _ q; omega) (fun q => by have := hF _ q; omega) hne
      (fun z D' e => (sound_same (sound_tlaw _ _) hK hD e).1))
  refine M.mono ?_
  rintro e w' ⟨v1, v2, rfl, _, _, t, _, x⟩
  exact ⟨v1, v2, rfl, x, t⟩

set_option maxRecDepth 100000 in
set_option maxHeartbeats 4000000 in
theorem trim_walk (y0 y1 y2 y3 y4 y5 y6 y7 y8 y9 y10 : Int) (a : Option Addr) (capl : Nat) (l : List Ins4) (w : World) (f0 : (Lit.int .i64 y0).wf = true) (f1 : (Lit.int .i64 y1).wf = true) (f2 : (Lit.int .i64 y2).wf = true) (f3 : (Lit.int .i64 y3).wf = true) (f4 : (Lit.int .i64 y4).wf = true) (f5 : (Lit.int .i64 y5).wf = true) (f6 : (Lit.int .i64 y6).wf = true) (f7 : (Lit.int .i64 y7).wf = true) (f8 : (Lit.int .i64 y8).wf = true) (f9 : (Lit.int .i64 y9).wf = true) (f10 : (Lit.int .i64 y10).wf = true) (hl : IsIns4 w a l) (ho : OkP4 l) (hm : l.length ≤ 9223372036854775807) :
    Calls Try.prog 6 #[.agg #[.int .i64 y0, .int .i64 y1, .int .i64 y2, .int .i64 y3, .int .i64 y4, .int .i64 y5, .int .i64 y6, .int .i64 y7, .int .i64 y8, .int .i64 y9, .int .i64 y10], .slice a l.length capl] w (Gives w (.bool true)) := by
  by_cases hbig : 60 < l.length
  · have d0 : decide ((60 : Int) < (l.length : Int)) = true := by simp; omega
    obtain ⟨w1, e1, h1, m1, s1⟩ := entry1 w (.cells #[.int .i64 y0, .int .i64 y1, .int .i64 y2, .int .i64 y3, .int .i64 y4, .int .i64 y5, .int .i64 y6, .int .i64 y7, .int .i64 y8, .int .i64 y9, .int .i64 y10] 23)
    have M1 := Lib.hid m1
    clear h1 m1 f0 f1 f2 f3 f4 f5 f6 f7 f8 f9 f10 hl ho
    go_enter Try.func6, Try.ntmps6
    go_wp2_with fail
    refine (lives9_ok _).mono ?_
    rintro e w8 ⟨rfl, h8⟩
    have M8 := Lib.hid (M1.out.trans h8)
    clear h8
    go_wp2_with fail
    go_ret
    exact ⟨rfl, M8.out⟩
  · have d0 : decide ((60 : Int) < (l.length : Int)) = false := by simp; omega
    obtain ⟨d, n, zs, S, hn, hlz, hz, hwf, AF⟩ := after_ok y0 y1 y2 y3 y4 y5 y6 y7 y8 y9 y10 f0 f1 f2 f3 f4 f5 f6 f7 f8 f9 f10 l ho (by omega)
    have wds := S.words
    have H := S.pgin hn
    obtain ⟨w1, e1, h1, m1, s1⟩ := entry1 w (.cells #[.int .i64 y0, .int .i64 y1, .int .i64 y2, .int .i64 y3, .int .i64 y4, .int .i64 y5, .int .i64 y6, .int .i64 y7, .int .i64 y8, .int .i64 y9, .int .i64 y10] 23)
    have M1 := Lib.hid m1
    have HA := Lib.hid h1
    have AO := Lib.hid (AF.out a capl w1 (hl.more m1))
    have TC := Lib.hid (fun (w : World) (g1 g2 : Nat) (a : Option Addr) (cap : Nat) => trim_call S.ok zs (by rw [hlz]; exact H) (by omega) hz hwf w g1 g2 a cap)
    have HLZ := Lib.hid hlz
    clear h1 m1 f0 f1 f2 f3 f4 f5 f6 f7 f8 f9 f10 hl ho AF hz hwf hlz H
    go_enter Try.func6, Try.ntmps6
    go_wp2_with (refine wpList_load_row rfl 23 _ rfl w.heap.size rfl 23 _ _ _ HA.out Try.underlying23 rfl (by kernel_rfl) ?_)
    clear e1
    refine AO.out.mono ?_
    rintro e w2 ⟨gz, cz, rfl, hws, hgz, m2⟩
    have D1 := Lib.hid (row_new w2 zero24 28)
    have D2 := setRow_heap (w2.alloc (.cells zero24 28)) w2.heap.size _ d.arr _ _ D1.out
    have M2 := M1.out.trans m2
    have hw2 : w.heap.size ≤ w2.heap.size := M2.size
    have M3 : More w2 ((w2.alloc (.cells zero24 28)).setRow w2.heap.size d.arr) := ((More.refl w2).alloc _).setRow _ _ (Nat.le_refl _)
    have s3 : ((w2.alloc (.cells zero24 28)).setRow w2.heap.size d.arr).heap.size = w2.heap.size + 1 := by simp
    obtain ⟨w3, e3⟩ : ∃ w3, (w2.alloc (.cells zero24 28)).setRow w2.heap.size d.arr = w3 := ⟨_, rfl⟩
    rw [e3] at D2 M3 s3
    obtain ⟨w4, e4, hb4, m4, s4⟩ := entry1 w3 (.cells #[.bool false] 4)
    rw [s3] at hb4
    obtain ⟨cS, fS, lS⟩ := box_cells hb4
    obtain ⟨w5, e5⟩ : ∃ w5, w4.setCell ⟨w2.heap.size + 1, 0, none⟩ (.bool false) = w5 := ⟨_, rfl⟩
    have b5 := boxB_set hb4 false
    rw [e5] at b5
    have t5 : Turned (fun b => b = w2.heap.size + 1) w4 w5 := by rw [← e5]; exact Turned.setCell (Turned.refl _ w4) _ _ (fun _ => rfl)
    have d5 := (t5.block _ (lt_of_heap (m4.block D2)) (by omega)).trans (m4.block D2)
    have ws5 := ((hws.more M3).more m4).keep t5 (by have := hws.lt; omega)
    have DO := TC.out w5 w2.heap.size (w2.heap.size + 1) (some ⟨gz, 0, none⟩) cz ⟨d5, false, b5⟩ (by omega) ws5.words
    rw [HLZ.out] at DO
    have DO := Lib.hid DO
    have M5 : Hid (More w w5) := Lib.hid (Turned.mono (turned_own (F := fun _ => False) ((M2.trans M3).trans m4) t5 (fun b e => .inr (by omega))) (fun _ _ q => q))
    clear hws D2 M2 M3 m2 hb4 m4 b5 t5 d5 ws5 TC s4 AO
    go_wp2_with (refine wpList_store_row rfl 28 _ _ rfl w2.heap.size _ rfl rfl 28 zero24 D1.out (by kernel_rfl) rfl (arr_one d) ?_)
    refine DO.out.mono ?_
    rintro e w6 ⟨v1, v2, rfl, b6, t6⟩
    have M6 : Hid (More w w6) := Lib.hid (Turned.mono (turned_own (F := fun _ => False) M5.out t6 (fun b e => .inr (by omega))) (fun _ _ q => q))
    have c6 := (box_cells b6).1
    clear b6 t6 DO cS fS lS e3 e4 e5
    go_wp2_with fail
    refine (lives9_ok _).mono ?_
    rintro e w7 ⟨rfl, h7⟩
    have M7 := Lib.hid (M6.out.trans h7)
    clear h7
    go_wp2_with fail
    go_ret
    exact ⟨rfl, M7.out⟩
end Go.Proofs.Ytjljkidlhlgefaa

