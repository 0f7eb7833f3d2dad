/-
  What package extent's functions do over words.
-/
import Derived.Test.YtogfikemodaepaaGreatExtD
namespace Go.Proofs.YtogfikemodaepaaGreat
set_option linter.unusedVariables false
set_option linter.unusedSimpArgs false
set_option linter.unusedSectionVars false

def kindV (pg st : Int) (ws : List Int) (p : Int) : Int := if isPage pg p then wAt ws (kA pg st p) else -1
def cntV (pg st : Int) (ws : List Int) (p : Int) : Int := wAt ws (cA pg st p)
def bitV (pg st : Int) (ws : List Int) (p : Int) : Int := wAt ws (bA pg st p)
def put3V (pg st p k x : Int) (ws : List Int) : List Int := ((ws.set (kA pg st p).toNat k).set (cA pg st p).toNat x).set (bA pg st p).toNat 0
def vacBN (pg st : Int) : Nat → Int → List Int → Bool
  | 0, _, _ => true
  | m + 1, q, ws => decide (kindV pg st ws q = 0) && vacBN pg st m (q + 1) ws
def vacB (pg st p n : Int) (ws : List Int) : Bool := thereB pg p n && vacBN pg st n.toNat p ws
def putNV (pg st k : Int) : Nat → Int → List Int → List Int
  | 0, _, ws => ws
  | m + 1, q, ws => putNV pg st k m (q + 1) (put3V pg st q k 0 ws)
def takeV (pg st p n k : Int) (ws : List Int) : Bool × List Int := if fitB k n && vacB pg st p n ws then (true, putNV pg st 7 (n - 1).toNat (p + 1) (put3V pg st p k (if k = 6 then n else 0) (ensureW pg st p n ws).2)) else (false, ws)
def lenV (pg st p : Int) (ws : List Int) : Int := if clsB (kindV pg st ws p) then 1 else if kindV pg st ws p = 6 then max 1 (min (cntV pg st ws p) (pg - p)) else 0
def dropV (pg st p : Int) (ws : List Int) : Int × List Int := (lenV pg st p ws, putNV pg st 0 (lenV pg st p ws).toNat p ws)
def fstNV (pg st : Int) : Nat → Int → List Int → Int
  | 0, p, _ => p
  | m + 1, p, ws => if kindV pg st ws p = 7 then fstNV pg st m (p - 1) ws else p
def fstV (pg st p : Int) (ws : List Int) : Int := if kindV pg st ws (fstNV pg st (p + 2).toNat p ws) = 0 ∨ kindV pg st ws (fstNV pg st (p + 2).toNat p ws) = -1 then -1 else fstNV pg st (p + 2).toNat p ws
def usedNV (pg st : Int) : Nat → Int → Int → List Int → Int
  | 0, _, s, _ => s
  | m + 1, q, s, ws => usedNV pg st m (q + 1) (s + if kindV pg st ws q = 0 then 0 else 1) ws
def usedV (pg st : Int) (ws : List Int) : Int := usedNV pg st pg.toNat 0 0 ws
def trim1V (pg st k : Int) (ws : List Int) : Int × List Int := if mappedV pg st ws k && vacB pg st (firstV pg k) (sizeV pg k) ws then (if 0 < (turnV pg st k 0 ws).1 then sizeV pg k else 0, (turnV pg st k 0 ws).2) else (0, ws)
def trimNV (pg st : Int) : Nat → Int → Int → List Int → Int × List Int
  | 0, _, s, ws => (s, ws)
  | m + 1, k, s, ws => trimNV pg st m (k + 1) (s + (trim1V pg st k ws).1) (trim1V pg st k ws).2
def trimV (pg st : Int) (ws : List Int) : Int × List Int := trimNV pg st (chunksV pg).toNat 0 0 ws
def openB (pg st : Int) (ws : List Int) (q : Int) : Bool := mappedV pg st ws (ofV q) && decide (kindV pg st ws q = 0)
def freeB (pg st : Int) (ws : List Int) (q : Int) : Bool := decide (kindV pg st ws q = 0)
def scanV (f : Int → Bool) : Nat → Int → Option Int
  | 0, _ => none
  | m + 1, q => if f q then scanV f m (q + 1) else some q
def seekV (f : Int → Bool) (pg n step : Int) : Nat → Int → Int
  | 0, _ => -1
  | m + 1, p => if p ≤ pg - n then (match scanV f n.toNat p with | none => p | some q => seekV f pg n step m ((q / step + 1) * step)) else -1
def leastV (f : Int → Bool) (pg n step : Int) : Int := seekV f pg n step (pg.toNat + 1) 0
def findV (pg st n step : Int) (ws : List Int) : Int := if 1 ≤ n ∧ 1 ≤ step then (if leastV (openB pg st ws) pg n step = -1 then leastV (freeB pg st ws) pg n step else leastV (openB pg st ws) pg n step) else -1

section
variable {pg st : Int} {n : Nat} (H : PgIn pg st n)
include H
theorem flat_kind (p : Int) : Flat n (ekindP pg st p) (fun ws => (kindV pg st ws p, ws)) := by
  unfold ekindP kindV
  cases h : isPage pg p with
  | true => exact flat_eq (flat_read (by have := (page_b H h).1.1; omega) (page_b H h).1.2.1) (fun ws _ => by simp)
  | false => exact flat_eq (flat_pure n (-1)) (fun ws _ => by simp)
theorem flat_put {p : Int} (h : isPage pg p = true) {k x : Int} (hk : W64 k) (hx : W64 x) : Flat n (eputP pg st p k x) (fun ws => ((), put3V pg st p k x ws)) := by
  obtain ⟨⟨a0, a1, a2⟩, ⟨b0, b1, b2⟩, c0, c1, c2⟩ := page_b H h
  exact flat_bind (flat_write (by omega) a1 a2 hk) (fun _ => flat_bind (flat_write (by omega) b1 b2 hx) (fun _ => flat_write (by omega) c1 c2 (by unfold W64; omega)))
theorem flat_vacN (m : Nat) : ∀ q, Flat n (evacN pg st m q) (fun ws => (vacBN pg st m q ws, ws)) := by
  induction m with
  | zero => intro q; exact flat_pure n true
  | succ m ih =>
    intro q
    refine flat_eq (flat_bind (flat_kind H q) (fun k => flat_ite (fun _ => ih (q + 1)) (fun _ => flat_pure n false))) (fun ws _ => ?_)
    show _ = (decide (kindV pg st ws q = 0) && vacBN pg st m (q + 1) ws, ws)
    by_cases e : kindV pg st ws q = 0 <;> simp [e]
theorem flat_vac (p m : Int) : Flat n (evacP pg st p m) (fun ws => (vacB pg st p m ws, ws)) := by
  refine flat_eq (flat_ite (fun _ => flat_vacN H m.toNat p) (fun _ => flat_pure n false)) (fun ws _ => ?_)
  unfold vacB
  cases thereB pg p m <;> simp
theorem flat_putN {k : Int} (hk : W64 k) (m : Nat) : ∀ q, (∀ i : Nat, i < m → isPage pg (q + i) = true) → Flat n (eputN pg st k m q) (fun ws => ((), putNV pg st k m q ws)) := by
  induction m with
  | zero => intro q _; exact flat_pure n ()
  | succ m ih =>
    intro q h
    exact flat_bind (flat_put H (by simpa using h 0 (by omega)) hk (by unfold W64; omega)) (fun _ => ih _ (fun i hi => by have := h (i + 1) (by omega); rwa [show q + ((i + 1 : Nat) : Int) = q + 1 + (i : Int) by omega] at this))
theorem flat_take (p m k : Int) (hk : W64 k) (hm : W64 m) : Flat n (etakeP pg st p m k) (takeV pg st p m k) := by
  unfold etakeP
  have hx : W64 (if k = 6 then m else 0) := by
    split
    · exact hm
    · unfold W64; omega
  cases h : thereB pg p m with
  | false =>
    unfold evacP
    rw [h]
    have z : Flat n (pureP false) (takeV pg st p m k) := flat_eq (flat_pure n false) (fun ws _ => by
      unfold takeV vacB
      rw [h]
      simp)
    by_cases hf : fitB k m = true
    · rw [if_pos hf]; exact z
    · rw [if_neg hf]; exact z
  | true =>
    obtain ⟨q0, q1, q2⟩ := there_iff.1 h
    refine flat_eq (flat_ite (fun _ => flat_bind (flat_vac H p m) (fun b => flat_ite (fun _ => flat_bind (flat_ensure H.toTblIn p m) (fun _ => flat_bind (flat_put H (isPage_iff.2 ⟨by omega, by omega⟩) hk hx) (fun _ => flat_bind (flat_putN H (by unfold W64; omega) (m - 1).toNat (p + 1) (fun i hi => isPage_iff.2 ⟨by omega, by omega⟩)) (fun _ => flat_pure n true)))) (fun _ => flat_pure n false))) (fun _ => flat_pure n false)) (fun ws _ => ?_)
    unfold takeV
    by_cases hf : fitB k m = true <;> by_cases hv : vacB pg st p m ws = true <;> simp [hf, hv]
theorem flat_len (p : Int) : Flat n (elenP pg st p) (fun ws => (lenV pg st p ws, ws)) := by
  cases h : isPage pg p with
  | true =>
    obtain ⟨_, ⟨b0, b1, _⟩, _⟩ := page_b H h
    refine flat_eq (flat_bind (flat_kind H p) (fun k => flat_ite (fun _ => flat_pure n 1) (fun _ => flat_ite (fun _ => flat_bind (flat_read (a := cA pg st p) (by omega) b1) (fun x => flat_pure n (max 1 (min x (pg - p))))) (fun _ => flat_pure n 0)))) (fun ws _ => ?_)
    unfold lenV cntV
    by_cases e : clsB (kindV pg st ws p) = true
    · simp only [if_pos e]
    · by_cases e2 : kindV pg st ws p = 6
      · simp only [if_neg e, if_pos e2]
      · simp only [if_neg e, if_neg e2]
  | false =>
    unfold elenP ekindP
    rw [h]
    refine flat_eq (flat_pure n (0 : Int)) (fun ws _ => ?_)
    unfold lenV kindV
    rw [h]; rfl
theorem len_b (p : Int) (ws : List Int) : lenV pg st p ws = 0 ∨ isPage pg p = true ∧ 1 ≤ lenV pg st p ws ∧ lenV pg st p ws ≤ pg - p := by
  cases h : isPage pg p with
  | true =>
    have := isPage_iff.1 h
    unfold lenV
    by_cases e : clsB (kindV pg st ws p) = true
    · rw [if_pos e]; exact .inr ⟨rfl, by omega, by omega⟩
    · by_cases e2 : kindV pg st ws p = 6
      · rw [if_neg e, if_pos e2]; exact .inr ⟨rfl, by omega, by omega⟩
      · rw [if_neg e, if_neg e2]; exact .inl rfl
  | false =>
    refine .inl ?_
    unfold lenV kindV
    rw [h]; rfl
theorem flat_drop (p : Int) : Flat n (edropP pg st p) (dropV pg st p) :=
  flat_eq (flat_bindQ (Q := fun x : Int => x = 0 ∨ isPage pg p = true ∧ 1 ≤ x ∧ x ≤ pg - p) (flat_len H p) (fun ws _ => len_b H p ws) (fun x hx => flat_bind (flat_putN H (by unfold W64; omega) x.toNat p (fun i hi => by
    rcases hx with rfl | ⟨h, h1, h2⟩
    · simp at hi
    · have := isPage_iff.1 h; exact isPage_iff.2 ⟨by omega, by omega⟩)) (fun _ => flat_pure n x))) (fun ws _ => rfl)
theorem flat_fstN (m : Nat) : ∀ q, Flat n (efirstN pg st m q) (fun ws => (fstNV pg st m q ws, ws)) := by
  induction m with
  | zero => intro q; exact flat_pure n q
  | succ m ih =>
    intro q
    refine flat_eq (flat_bind (flat_kind H q) (fun k => flat_ite (fun _ => ih (q - 1)) (fun _ => flat_pure n q))) (fun ws _ => ?_)
    show _ = ((if kindV pg st ws q = 7 then fstNV pg st m (q - 1) ws else q), ws)
    by_cases e : kindV pg st ws q = 7 <;> simp [e]
theorem flat_first (p : Int) : Flat n (efirstP pg st p) (fun ws => (fstV pg st p ws, ws)) := by
  refine flat_eq (flat_bind (flat_fstN H (p + 2).toNat p) (fun q => flat_bind (flat_kind H q) (fun k => flat_ite (fun _ => flat_pure n (-1)) (fun _ => flat_pure n q)))) (fun ws _ => ?_)
  unfold fstV
  by_cases e : kindV pg st ws (fstNV pg st (p + 2).toNat p ws) = 0 ∨ kindV pg st ws (fstNV pg st (p + 2).toNat p ws) = -1
  · simp only [if_pos e]
  · simp only [if_neg e]
theorem flat_usedN (m : Nat) : ∀ q s, Flat n (eusedN pg st m q s) (fun ws => (usedNV pg st m q s ws, ws)) := by
  induction m with
  | zero => intro q s; exact flat_pure n s
  | succ m ih => intro q s; exact flat_eq (flat_bind (flat_kind H q) (fun k => ih (q + 1) (s + if k = 0 then 0 else 1))) (fun ws _ => rfl)
theorem flat_used : Flat n (eusedP pg st) (fun ws => (usedV pg st ws, ws)) := flat_usedN H _ _ _
theorem flat_trim1 (k : Int) : Flat n (etrim1 pg st k) (trim1V pg st k) := by
  refine flat_eq (flat_bind (flat_mapped H.toTblIn k) (fun b => flat_ite (fun _ => flat_bind (flat_vac H (firstV pg k) (sizeV pg k)) (fun b => flat_ite (fun _ => flat_bind (flat_turn H.toTblIn k 0 (by unfold W64; omega)) (fun y => flat_pure n (if 0 < y then sizeV pg k else 0))) (fun _ => flat_pure n 0))) (fun _ => flat_pure n 0))) (fun ws _ => ?_)
  unfold trim1V
  by_cases e : mappedV pg st ws k = true <;> by_cases e2 : vacB pg st (firstV pg k) (sizeV pg k) ws = true <;> simp [e, e2]
theorem flat_trimN (m : Nat) : ∀ k s, Flat n (etrimN pg st m k s) (trimNV pg st m k s) := by
  induction m with
  | zero => intro k s; exact flat_pure n s
  | succ m ih => intro k s; exact flat_eq (flat_bind (flat_trim1 H k) (fun x => ih (k + 1) (s + x))) (fun ws _ => rfl)
theorem flat_trim : Flat n (etrimP pg st) (trimV pg st) := flat_trimN H _ _ _
theorem flat_free (q : Int) : Flat n (efreeP pg st q) (fun ws => (freeB pg st ws q, ws)) := flat_bind (flat_kind H q) (fun k => flat_pure n (decide (k = 0)))
theorem flat_open (q : Int) : Flat n (eopenP pg st q) (fun ws => (openB pg st ws q, ws)) := by
  refine flat_eq (flat_bind (flat_mapped H.toTblIn (ofV q)) (fun b => flat_ite (fun _ => flat_free H q) (fun _ => flat_pure n false))) (fun ws _ => ?_)
  unfold openB freeB
  by_cases e : mappedV pg st ws (ofV q) = true <;> simp [e]
theorem flat_scanN {f : Int → Prg Bool} {g : List Int → Int → Bool} (hf : ∀ q, Flat n (f q) (fun ws => (g ws q, ws))) (m : Nat) : ∀ q, Flat n (escanN f m q) (fun ws => (scanV (g ws) m q, ws)) := by
  induction m with
  | zero => intro q; exact flat_pure n none
  | succ m ih =>
    intro q
    refine flat_eq (flat_bind (hf q) (fun b => flat_ite (fun _ => ih (q + 1)) (fun _ => flat_pure n (some q)))) (fun ws _ => ?_)
    show _ = ((if g ws q then scanV (g ws) m (q + 1) else some q), ws)
    by_cases e : g ws q = true <;> simp [e]
theorem flat_seekN {f : Int → Prg Bool} {g : List Int → Int → Bool} (hf : ∀ q, Flat n (f q) (fun ws => (g ws q, ws))) (m step : Int) (j : Nat) : ∀ p, Flat n (eseekN f pg m step j p) (fun ws => (seekV (g ws) pg m step j p, ws)) := by
  induction j with
  | zero => intro p; exact flat_pure n (-1)
  | succ j ih =>
    intro p
    refine flat_eq (flat_ite (fun _ => flat_bind (flat_scanN H hf m.toNat p) (fun r => (?_ : Flat n _ (fun ws => ((match r with | none => p | some q => seekV (g ws) pg m step j ((q / step + 1) * step)), ws))))) (fun _ => flat_pure n (-1))) (fun ws _ => ?_)
    · cases r with
      | none => exact flat_pure n p
      | some q => exact ih _
    · show _ = ((if p ≤ pg - m then (match scanV (g ws) m.toNat p with | none => p | some q => seekV (g ws) pg m step j ((q / step + 1) * step)) else -1), ws)
      by_cases e : p ≤ pg - m <;> simp [e]
theorem flat_find (m step : Int) : Flat n (efindP pg st m step) (fun ws => (findV pg st m step ws, ws)) := by
  refine flat_eq (flat_ite (fun _ => flat_bind (flat_seekN H (flat_open H) m step (pg.toNat + 1) 0) (fun p => flat_ite (fun _ => flat_seekN H (flat_free H) m step (pg.toNat + 1) 0) (fun _ => flat_pure n p))) (fun _ => flat_pure n (-1))) (fun ws _ => ?_)
  unfold findV leastV
  by_cases e : 1 ≤ m ∧ 1 ≤ step
  · simp only [if_pos e]
    by_cases e2 : seekV (openB pg st ws) pg m step (pg.toNat + 1) 0 = -1
    · simp only [if_pos e2]
    · simp only [if_neg e2]
  · simp only [if_neg e]
end
end Go.Proofs.YtogfikemodaepaaGreat

namespace Go.Proofs.YtogfikemodaepaaGreat
set_option linter.unusedVariables false
set_option linter.unusedSimpArgs false
set_option linter.unusedSectionVars false

theorem kind_in {pg st : Int} {ws : List Int} {p : Int} (h : isPage pg p = true) : kindV pg st ws p = wAt ws (kA pg st p) := by unfold kindV; rw [h]; rfl
theorem kind_out {pg st : Int} {ws : List Int} {p : Int} (h : isPage pg p = false) : kindV pg st ws p = -1 := by unfold kindV; rw [h]; rfl
theorem page_of {pg st : Int} {ws : List Int} {p : Int} (h : kindV pg st ws p ≠ -1) : 0 ≤ p ∧ p < pg := by
  cases e : isPage pg p with
  | true => exact isPage_iff.1 e
  | false => exact absurd (kind_out e) h
section
variable {pg st : Int} {n : Nat} (H : PgIn pg st n)
include H
theorem put3_len (p k x : Int) (ws : List Int) : (put3V pg st p k x ws).length = ws.length := by simp [put3V]
theorem put3_at {p : Int} (h : isPage pg p = true) (k x : Int) {ws : List Int} (hn : ws.length = n) {i : Int} (hi : 0 ≤ i) : wAt (put3V pg st p k x ws) i = if i = bA pg st p then 0 else if i = cA pg st p then x else if i = kA pg st p then k else wAt ws i := by
  obtain ⟨⟨a0, a1, a2⟩, ⟨b0, b1, b2⟩, c0, c1, c2⟩ := page_b H h
  unfold put3V
  rw [wAt_set (by omega) hi (by simp [hn]; exact c1), wAt_set (by omega) hi (by simp [hn]; exact b1), wAt_set (by omega) hi (by rw [hn]; exact a1)]
theorem tbl_page {k p : Int} (hk : isChunk pg k = true) (h : isPage pg p = true) : tblV pg st k ≠ kA pg st p ∧ tblV pg st k ≠ cA pg st p ∧ tblV pg st k ≠ bA pg st p := by
  have := isChunk_iff.1 hk; have := isPage_iff.1 h; have := H.pg1
  rw [tbl_in hk]; unfold kA cA bA; omega
theorem kind_put3 {p : Int} (h : isPage pg p = true) (k x : Int) {ws : List Int} (hn : ws.length = n) (q : Int) : kindV pg st (put3V pg st p k x ws) q = if q = p then k else kindV pg st ws q := by
  cases hq : isPage pg q with
  | false =>
    rw [kind_out hq, kind_out hq, if_neg (by rintro rfl; rw [h] at hq; cases hq)]
  | true =>
    have h0 := (page_b H hq).1.1
    have := isPage_iff.1 h; have := isPage_iff.1 hq
    rw [kind_in hq, kind_in hq, put3_at H h k x hn (by omega), if_neg (by unfold kA bA; omega), if_neg (by unfold kA cA; omega)]
    by_cases e : q = p
    · rw [if_pos e, if_pos (by rw [e])]
    · rw [if_neg e, if_neg (by unfold kA; omega)]
theorem cnt_put3 {p : Int} (h : isPage pg p = true) (k x : Int) {ws : List Int} (hn : ws.length = n) {q : Int} (hq : isPage pg q = true) : cntV pg st (put3V pg st p k x ws) q = if q = p then x else cntV pg st ws q := by
  have h0 := (page_b H hq).2.1.1
  have := isPage_iff.1 h; have := isPage_iff.1 hq
  unfold cntV
  rw [put3_at H h k x hn (by omega), if_neg (by unfold cA bA; omega)]
  by_cases e : q = p
  · rw [if_pos e, if_pos (by rw [e])]
  · rw [if_neg e, if_neg (by unfold cA; omega), if_neg (by unfold cA kA; omega)]
theorem bit_put3 {p : Int} (h : isPage pg p = true) (k x : Int) {ws : List Int} (hn : ws.length = n) {q : Int} (hq : isPage pg q = true) : bitV pg st (put3V pg st p k x ws) q = if q = p then 0 else bitV pg st ws q := by
  have h0 := (page_b H hq).2.2.1
  have := isPage_iff.1 h; have := isPage_iff.1 hq
  unfold bitV
  rw [put3_at H h k x hn (by omega)]
  by_cases e : q = p
  · rw [if_pos e, if_pos (by rw [e])]
  · rw [if_neg e, if_neg (by unfold bA; omega), if_neg (by unfold cA bA; omega), if_neg (by unfold bA kA; omega)]
theorem map_put3 {p : Int} (h : isPage pg p = true) (k x : Int) {ws : List Int} (hn : ws.length = n) (j : Int) : mappedV pg st (put3V pg st p k x ws) j = mappedV pg st ws j := by
  unfold mappedV
  cases hj : isChunk pg j with
  | false => rfl
  | true =>
    have h0 := (tbl_b H.toTblIn hj).1
    obtain ⟨t0, t1, t2⟩ := tbl_page H hj h
    rw [put3_at H h k x hn (by omega), if_neg t2, if_neg t1, if_neg t0]
theorem putN_len (k : Int) (m : Nat) : ∀ (q : Int) (ws : List Int), (putNV pg st k m q ws).length = ws.length := by
  induction m with
  | zero => intro q ws; rfl
  | succ m ih => intro q ws; show (putNV pg st k m (q + 1) _).length = _; rw [ih, put3_len H]
theorem pages_succ {m : Nat} {q : Int} (h : ∀ i : Nat, i < m + 1 → isPage pg (q + i) = true) : isPage pg q = true ∧ ∀ i : Nat, i < m → isPage pg (q + 1 + i) = true :=
  ⟨by simpa using h 0 (by omega), fun i hi => by have := h (i + 1) (by omega); rwa [show q + ((i + 1 : Nat) : Int) = q + 1 + (i : Int) by omega] at this⟩
theorem kind_putN (k : Int) (m : Nat) : ∀ (q : Int) (ws : List Int), ws.length = n → (∀ i : Nat, i < m → isPage pg (q + i) = true) → ∀ p, kindV pg st (putNV pg st k m q ws) p = if q ≤ p ∧ p < q + m then k else kindV pg st ws p := by
  induction m with
  | zero => intro q ws _ _ p; rw [if_neg (by omega)]; rfl
  | succ m ih =>
    intro q ws hn h p
    obtain ⟨h0, h1⟩ := pages_succ H h
    show kindV pg st (putNV pg st k m (q + 1) (put3V pg st q k 0 ws)) p = _
    rw [ih _ _ (by rw [put3_len H]; exact hn) h1, kind_put3 H h0 k 0 hn]
    by_cases e : p = q
    · rw [if_neg (by omega), if_pos e, if_pos (by omega)]
    · rw [if_neg e]
      by_cases e2 : q + 1 ≤ p ∧ p < q + 1 + (m : Int)
      · rw [if_pos e2, if_pos (by omega)]
      · rw [if_neg e2, if_neg (by omega)]
theorem cnt_putN (k : Int) (m : Nat) : ∀ (q : Int) (ws : List Int), ws.length = n → (∀ i : Nat, i < m → isPage pg (q + i) = true) → ∀ p, isPage pg p = true → cntV pg st (putNV pg st k m q ws) p = if q ≤ p ∧ p < q + m then 0 else cntV pg st ws p := by
  induction m with
  | zero => intro q ws _ _ p _; rw [if_neg (by omega)]; rfl
  | succ m ih =>
    intro q ws hn h p hp
    obtain ⟨h0, h1⟩ := pages_succ H h
    show cntV pg st (putNV pg st k m (q + 1) (put3V pg st q k 0 ws)) p = _
    rw [ih _ _ (by rw [put3_len H]; exact hn) h1 p hp, cnt_put3 H h0 k 0 hn hp]
    by_cases e : p = q
    · rw [if_neg (by omega), if_pos e, if_pos (by omega)]
    · rw [if_neg e]
      by_cases e2 : q + 1 ≤ p ∧ p < q + 1 + (m : Int)
      · rw [if_pos e2, if_pos (by omega)]
      · rw [if_neg e2, if_neg (by omega)]
theorem bit_putN (k : Int) (m : Nat) : ∀ (q : Int) (ws : List Int), ws.length = n → (∀ i : Nat, i < m → isPage pg (q + i) = true) → ∀ p, isPage pg p = true → bitV pg st (putNV pg st k m q ws) p = if q ≤ p ∧ p < q + m then 0 else bitV pg st ws p := by
  induction m with
  | zero => intro q ws _ _ p _; rw [if_neg (by omega)]; rfl
  | succ m ih =>
    intro q ws hn h p hp
    obtain ⟨h0, h1⟩ := pages_succ H h
    show bitV pg st (putNV pg st k m (q + 1) (put3V pg st q k 0 ws)) p = _
    rw [ih _ _ (by rw [put3_len H]; exact hn) h1 p hp, bit_put3 H h0 k 0 hn hp]
    by_cases e : p = q
    · rw [if_neg (by omega), if_pos e, if_pos (by omega)]
    · rw [if_neg e]
      by_cases e2 : q + 1 ≤ p ∧ p < q + 1 + (m : Int)
      · rw [if_pos e2, if_pos (by omega)]
      · rw [if_neg e2, if_neg (by omega)]
theorem map_putN (k : Int) (m : Nat) : ∀ (q : Int) (ws : List Int), ws.length = n → (∀ i : Nat, i < m → isPage pg (q + i) = true) → ∀ j, mappedV pg st (putNV pg st k m q ws) j = mappedV pg st ws j := by
  induction m with
  | zero => intro q ws _ _ j; rfl
  | succ m ih =>
    intro q ws hn h j
    obtain ⟨h0, h1⟩ := pages_succ H h
    show mappedV pg st (putNV pg st k m (q + 1) (put3V pg st q k 0 ws)) j = _
    rw [ih _ _ (by rw [put3_len H]; exact hn) h1 j, map_put3 H h0 k 0 hn]
/-- Words that are no page's are left. -/
theorem off_putN (k : Int) (m : Nat) : ∀ (q : Int) (ws : List Int), ws.length = n → (∀ i : Nat, i < m → isPage pg (q + i) = true) → ∀ i, 0 ≤ i → (∀ p, isPage pg p = true → i ≠ kA pg st p ∧ i ≠ cA pg st p ∧ i ≠ bA pg st p) → wAt (putNV pg st k m q ws) i = wAt ws i := by
  induction m with
  | zero => intro q ws _ _ i _ _; rfl
  | succ m ih =>
    intro q ws hn h i hi ho
    obtain ⟨h0, h1⟩ := pages_succ H h
    obtain ⟨o1, o2, o3⟩ := ho q h0
    show wAt (putNV pg st k m (q + 1) (put3V pg st q k 0 ws)) i = _
    rw [ih _ _ (by rw [put3_len H]; exact hn) h1 i hi ho, put3_at H h0 k 0 hn hi, if_neg o3, if_neg o2, if_neg o1]
end
/-- Nothing but words of the table may be unlike. -/
structure Tab (pg st : Int) (ws ws' : List Int) : Prop where
  len : ws'.length = ws.length
  off : ∀ i : Int, 0 ≤ i → (∀ k, isChunk pg k = true → i ≠ tblV pg st k) → wAt ws' i = wAt ws i
theorem Tab.refl (pg st : Int) (ws : List Int) : Tab pg st ws ws := ⟨rfl, fun _ _ _ => rfl⟩
theorem Tab.trans {pg st : Int} {a b c : List Int} (h : Tab pg st a b) (g : Tab pg st b c) : Tab pg st a c := ⟨g.len.trans h.len, fun i h0 ho => (g.off i h0 ho).trans (h.off i h0 ho)⟩
section
variable {pg st : Int} {n : Nat} (H : PgIn pg st n)
include H
theorem Tab.kind {ws ws' : List Int} (h : Tab pg st ws ws') (p : Int) : kindV pg st ws' p = kindV pg st ws p := by
  cases hp : isPage pg p with
  | false => rw [kind_out hp, kind_out hp]
  | true => rw [kind_in hp, kind_in hp, h.off _ (by have := (page_b H hp).1.1; omega) (fun k hk e => (tbl_page H hk hp).1 e.symm)]
theorem Tab.cnt {ws ws' : List Int} (h : Tab pg st ws ws') {p : Int} (hp : isPage pg p = true) : cntV pg st ws' p = cntV pg st ws p :=
  h.off _ (by have := (page_b H hp).2.1.1; omega) (fun k hk e => (tbl_page H hk hp).2.1 e.symm)
theorem Tab.bit {ws ws' : List Int} (h : Tab pg st ws ws') {p : Int} (hp : isPage pg p = true) : bitV pg st ws' p = bitV pg st ws p :=
  h.off _ (by have := (page_b H hp).2.2.1; omega) (fun k hk e => (tbl_page H hk hp).2.2 e.symm)
theorem tab_turn (k x : Int) {ws : List Int} (hn : ws.length = n) : Tab pg st ws (turnV pg st k x ws).2 := by
  refine ⟨turn_len .., fun i h0 ho => ?_⟩
  unfold turnV
  split
  · rename_i hk
    split
    · rfl
    · obtain ⟨t0, t1, t2⟩ := tbl_b H.toTblIn hk
      show wAt (ws.set (tblV pg st k).toNat x) i = _
      rw [wAt_set (by omega) h0 (by rw [hn]; exact t1), if_neg (ho k hk)]
  · rfl
theorem ens_ones {x y : Int} (ht : thereB pg x y = true) {ws : List Int} (hn : ws.length = n) : Ones ws (ensureW pg st x y ws).2 (fun i => ∃ j : Nat, j < spanV x y ∧ i = tblV pg st (x / 4 + j)) := by
  have h2 := ones_ensure H.toTblIn (spanV x y) (x / 4) 0 ws ws (fun _ => False) hn (ones_refl ws _ (fun _ q => q)) (fun i hi => span_in ht i hi)
  unfold ensureW
  rw [if_pos ht]
  exact ⟨h2.len, fun i h0 => ⟨fun q => (h2.eq i h0).1 (.inr q), fun q => (h2.eq i h0).2 (by rintro (r | r); exact r; exact q r)⟩⟩
theorem tab_ens {x y : Int} (ht : thereB pg x y = true) {ws : List Int} (hn : ws.length = n) : Tab pg st ws (ensureW pg st x y ws).2 :=
  ⟨(ens_ones H ht hn).len, fun i h0 ho => ((ens_ones H ht hn).eq i h0).2 (by rintro ⟨j, hj, e⟩; exact ho _ (span_in ht j hj) e)⟩
theorem map_ens {x y : Int} (ht : thereB pg x y = true) {ws : List Int} (hn : ws.length = n) {j : Int} (hj : isChunk pg j = true) : mappedV pg st (ensureW pg st x y ws).2 j = (mappedV pg st ws j || (decide (x / 4 ≤ j) && decide (j ≤ (x + y - 1) / 4))) := by
  have h := ens_ones H ht hn
  obtain ⟨t0, t1, t2⟩ := tbl_b H.toTblIn hj
  obtain ⟨s1, s2⟩ := span_b ht H.pg2
  unfold mappedV
  rw [hj]
  by_cases e : x / 4 ≤ j ∧ j ≤ (x + y - 1) / 4
  · rw [(h.eq _ (by omega)).1 ⟨(j - x / 4).toNat, by omega, by congr 1; omega⟩]
    simp [e]
  · rw [(h.eq _ (by omega)).2 (by
      rintro ⟨i, hi, q⟩
      have hc := span_in ht i hi
      rw [tbl_in hj, tbl_in hc] at q
      omega)]
    by_cases e1 : x / 4 ≤ j
    · have : ¬ j ≤ (x + y - 1) / 4 := fun q => e ⟨e1, q⟩
      simp [this]
    · simp [e1]
end

/-- What words hold behind extent's calls. -/
structure Wf (pg st : Int) (ws : List Int) : Prop where
  b : ∀ p, isPage pg p = true → 0 ≤ kindV pg st ws p ∧ kindV pg st ws p ≤ 7
  rest : ∀ p, kindV pg st ws p = 7 → kindV pg st ws (p - 1) = 6 ∨ kindV pg st ws (p - 1) = 7
  run : ∀ p, kindV pg st ws p = 6 → 1 ≤ cntV pg st ws p ∧ cntV pg st ws p ≤ pg - p ∧ (∀ i, p < i → i < p + cntV pg st ws p → kindV pg st ws i = 7) ∧ kindV pg st ws (p + cntV pg st ws p) ≠ 7
  free : ∀ p, kindV pg st ws p = 0 → cntV pg st ws p = 0 ∧ bitV pg st ws p = 0
  map : ∀ p, isPage pg p = true → kindV pg st ws p ≠ 0 → mappedV pg st ws (p / 4) = true

theorem vacBN_iff (pg st : Int) (ws : List Int) (m : Nat) : ∀ q : Int, vacBN pg st m q ws = true ↔ ∀ i : Int, q ≤ i → i < q + m → kindV pg st ws i = 0 := by
  induction m with
  | zero => intro q; simp only [vacBN, true_iff]; intro i h0 h1; omega
  | succ m ih =>
    intro q
    show (decide (kindV pg st ws q = 0) && vacBN pg st m (q + 1) ws) = true ↔ _
    rw [Bool.and_eq_true, decide_eq_true_eq, ih]
    constructor
    · rintro ⟨h0, h1⟩ i a0 a1
      by_cases e : i = q
      · rw [e]; exact h0
      · exact h1 i (by omega) (by omega)
    · intro h
      exact ⟨h q (by omega) (by omega), fun i a0 a1 => h i (by omega) (by omega)⟩
theorem vacB_iff {pg st p n : Int} {ws : List Int} : vacB pg st p n ws = true ↔ thereB pg p n = true ∧ ∀ i : Int, p ≤ i → i < p + n → kindV pg st ws i = 0 := by
  unfold vacB
  rw [Bool.and_eq_true, vacBN_iff]
  constructor
  · rintro ⟨h0, h1⟩
    obtain ⟨a, b, c⟩ := there_iff.1 h0
    exact ⟨h0, fun i a0 a1 => h1 i a0 (by omega)⟩
  · rintro ⟨h0, h1⟩
    exact ⟨h0, fun i a0 a1 => h1 i a0 (by obtain ⟨a, b, c⟩ := there_iff.1 h0; omega)⟩
theorem chunk_of {pg p : Int} (h : isPage pg p = true) : isChunk pg (p / 4) = true := by
  have := isPage_iff.1 h
  rw [isChunk_iff]; unfold chunksV; omega

section
variable {pg st : Int} {n : Nat} (H : PgIn pg st n)
include H
/-- What is taken. -/
structure Took (pg st p m k : Int) (ws ws' : List Int) : Prop where
  len : ws'.length = ws.length
  kind : ∀ q, kindV pg st ws' q = if q = p then k else if p < q ∧ q < p + m then 7 else kindV pg st ws q
  cnt : ∀ q, isPage pg q = true → cntV pg st ws' q = if q = p then (if k = 6 then m else 0) else if p < q ∧ q < p + m then 0 else cntV pg st ws q
  bit : ∀ q, isPage pg q = true → bitV pg st ws' q = if p ≤ q ∧ q < p + m then 0 else bitV pg st ws q
  map : ∀ j, isChunk pg j = true → mappedV pg st ws' j = (mappedV pg st ws j || (decide (p / 4 ≤ j) && decide (j ≤ (p + m - 1) / 4)))
  off : ∀ i : Int, 0 ≤ i → (∀ p, isPage pg p = true → i ≠ kA pg st p ∧ i ≠ cA pg st p ∧ i ≠ bA pg st p) → (∀ k, isChunk pg k = true → i ≠ tblV pg st k) → wAt ws' i = wAt ws i
theorem take_took {p m k : Int} {ws : List Int} (hn : ws.length = n) (ht : thereB pg p m = true) : Took pg st p m k ws (putNV pg st 7 (m - 1).toNat (p + 1) (put3V pg st p k (if k = 6 then m else 0) (ensureW pg st p m ws).2)) := by
  obtain ⟨t0, t1, t2⟩ := there_iff.1 ht
  have T := tab_ens H ht hn
  have hE : (ensureW pg st p m ws).2.length = n := T.len.trans hn
  have hp : isPage pg p = true := isPage_iff.2 ⟨by omega, by omega⟩
  have hP : (put3V pg st p k (if k = 6 then m else 0) (ensureW pg st p m ws).2).length = n := by rw [put3_len H]; exact hE
  have hr : ∀ i : Nat, i < (m - 1).toNat → isPage pg (p + 1 + i) = true := fun i hi => isPage_iff.2 ⟨by omega, by omega⟩
  have hc : (((m - 1).toNat : Nat) : Int) = m - 1 := by omega
  refine ⟨by rw [putN_len H, put3_len H, T.len], fun q => ?_, fun q hq => ?_, fun q hq => ?_, fun j hj => ?_, fun i h0 o1 o2 => ?_⟩
  · rw [kind_putN H _ _ _ _ hP hr, kind_put3 H hp _ _ hE, T.kind H, hc]
    by_cases e : q = p
    · rw [if_neg (by omega), if_pos e, if_pos e]
    · rw [if_neg e, if_neg e]
      by_cases e2 : p < q ∧ q < p + m
      · rw [if_pos (by omega), if_pos e2]
      · rw [if_neg (by omega), if_neg e2]
  · rw [cnt_putN H _ _ _ _ hP hr q hq, cnt_put3 H hp _ _ hE hq, T.cnt H hq, hc]
    by_cases e : q = p
    · rw [if_neg (by omega), if_pos e, if_pos e]
    · rw [if_neg e, if_neg e]
      by_cases e2 : p < q ∧ q < p + m
      · rw [if_pos (by omega), if_pos e2]
      · rw [if_neg (by omega), if_neg e2]
  · rw [bit_putN H _ _ _ _ hP hr q hq, bit_put3 H hp _ _ hE hq, T.bit H hq, hc]
    by_cases e : q = p
    · rw [if_neg (by omega), if_pos e, if_pos (by omega)]
    · rw [if_neg e]
      by_cases e2 : p < q ∧ q < p + m
      · rw [if_pos (by omega), if_pos (by omega)]
      · rw [if_neg (by omega), if_neg (by omega)]
  · rw [map_putN H _ _ _ _ hP hr, map_put3 H hp _ _ hE, map_ens H ht hn hj]
  · obtain ⟨o3, o4, o5⟩ := o1 p hp
    rw [off_putN H _ _ _ _ hP hr i h0 o1, put3_at H hp _ _ hE h0, if_neg o5, if_neg o4, if_neg o3, T.off i h0 o2]
theorem wf_took {p m k : Int} {ws ws' : List Int} (w : Wf pg st ws) (hv : vacB pg st p m ws = true) (hf : fitB k m = true) (T : Took pg st p m k ws ws') : Wf pg st ws' := by
  obtain ⟨ht, h0⟩ := vacB_iff.1 hv
  obtain ⟨t0, t1, t2⟩ := there_iff.1 ht
  have hk := fit_iff.1 hf
  have hout : ∀ q, q ≠ p → ¬ (p < q ∧ q < p + m) → kindV pg st ws' q = kindV pg st ws q := fun q a b => by rw [T.kind, if_neg a, if_neg b]
  have hin : ∀ q, p < q → q < p + m → kindV pg st ws' q = 7 := fun q a b => by rw [T.kind, if_neg (by omega), if_pos ⟨a, b⟩]
  have hpp : kindV pg st ws' p = k := by rw [T.kind, if_pos rfl]
  refine ⟨fun q hq => ?_, fun q hq => ?_, fun q hq => ?_, fun q hq => ?_, fun q hq hne => ?_⟩
  · rw [T.kind]
    split
    · omega
    · split
      · omega
      · exact w.b q hq
  · by_cases e : q = p
    · rw [e, hpp] at hq; omega
    · by_cases e2 : p < q ∧ q < p + m
      · by_cases e3 : q - 1 = p
        · rw [e3, hpp]; omega
        · exact .inr (hin _ (by omega) (by omega))
      · rw [hout q e e2] at hq
        have := w.rest q hq
        have hz : ¬ (p ≤ q - 1 ∧ q - 1 < p + m) := fun z => by have := h0 (q - 1) z.1 z.2; omega
        rw [hout (q - 1) (by omega) (by omega)]
        exact this
  · by_cases e : q = p
    · subst e
      rw [hpp] at hq
      have hc : cntV pg st ws' q = m := by rw [T.cnt q (isPage_iff.2 ⟨by omega, by omega⟩), if_pos rfl, if_pos hq]
      rw [hc]
      refine ⟨t1, t2, fun i a b => hin i a b, fun z => ?_⟩
      rw [hout _ (by omega) (by omega)] at z
      have := w.rest _ z
      have := h0 (q + m - 1) (by omega) (by omega)
      omega
    · by_cases e2 : p < q ∧ q < p + m
      · rw [hin q e2.1 e2.2] at hq; omega
      · rw [hout q e e2] at hq
        obtain ⟨r0, r1, r2, r3⟩ := w.run q hq
        have hpg := page_of (pg := pg) (st := st) (ws := ws) (p := q) (by omega)
        have hc : cntV pg st ws' q = cntV pg st ws q := by rw [T.cnt q (isPage_iff.2 hpg), if_neg e, if_neg e2]
        rw [hc]
        have hlow : q < p → q + cntV pg st ws q ≤ p := fun a => by
          rcases Int.lt_or_le p (q + cntV pg st ws q) with b | b
          · have := r2 p a b
            have := h0 p (by omega) (by omega)
            omega
          · exact b
        refine ⟨r0, r1, fun i a b => ?_, fun z => r3 ?_⟩
        · rw [hout i (by omega) (by omega)]; exact r2 i a b
        · by_cases e3 : q + cntV pg st ws q = p
          · rw [e3, hpp] at z; omega
          · rwa [hout _ e3 (by omega)] at z
  · by_cases e : q = p
    · rw [e, hpp] at hq; omega
    · by_cases e2 : p < q ∧ q < p + m
      · rw [hin q e2.1 e2.2] at hq; omega
      · rw [hout q e e2] at hq
        have hpg := isPage_iff.2 (page_of (pg := pg) (st := st) (ws := ws) (p := q) (by omega))
        rw [T.cnt q hpg, T.bit q hpg, if_neg e, if_neg e2, if_neg (by omega)]
        exact w.free q hq
  · rw [T.map _ (chunk_of hq)]
    by_cases e : p ≤ q ∧ q < p + m
    · have e1 : p / 4 ≤ q / 4 := by omega
      have e2 : q / 4 ≤ (p + m - 1) / 4 := by omega
      simp [e1, e2]
    · rw [hout q (by omega) (by omega)] at hne
      rw [w.map q hq hne]; rfl

/-- What is dropped. -/
structure Fell (pg st p m : Int) (ws ws' : List Int) : Prop where
  len : ws'.length = ws.length
  kind : ∀ q, kindV pg st ws' q = if p ≤ q ∧ q < p + m then 0 else kindV pg st ws q
  cnt : ∀ q, isPage pg q = true → cntV pg st ws' q = if p ≤ q ∧ q < p + m then 0 else cntV pg st ws q
  bit : ∀ q, isPage pg q = true → bitV pg st ws' q = if p ≤ q ∧ q < p + m then 0 else bitV pg st ws q
  map : ∀ j, mappedV pg st ws' j = mappedV pg st ws j
  off : ∀ i : Int, 0 ≤ i → (∀ p, isPage pg p = true → i ≠ kA pg st p ∧ i ≠ cA pg st p ∧ i ≠ bA pg st p) → wAt ws' i = wAt ws i
theorem drop_fell (p : Int) {ws : List Int} (hn : ws.length = n) : Fell pg st p (lenV pg st p ws) ws (dropV pg st p ws).2 := by
  have hb := len_b H p ws
  have hc : (((lenV pg st p ws).toNat : Nat) : Int) = lenV pg st p ws := by omega
  have hr : ∀ i : Nat, i < (lenV pg st p ws).toNat → isPage pg (p + i) = true := fun i hi => by
    rcases hb with h | ⟨h, h1, h2⟩
    · omega
    · have := isPage_iff.1 h; exact isPage_iff.2 ⟨by omega, by omega⟩
  exact ⟨putN_len H _ _ _ _, fun q => by have := kind_putN H 0 _ p ws hn hr q; rwa [hc] at this, fun q hq => by have := cnt_putN H 0 _ p ws hn hr q hq; rwa [hc] at this, fun q hq => by have := bit_putN H 0 _ p ws hn hr q hq; rwa [hc] at this, fun j => map_putN H 0 _ p ws hn hr j, fun i h0 ho => off_putN H 0 _ p ws hn hr i h0 ho⟩
theorem wf_fell {p : Int} {ws ws' : List Int} (w : Wf pg st ws) (T : Fell pg st p (lenV pg st p ws) ws ws') : Wf pg st ws' := by
  have hb := len_b H p ws
  have hcase : lenV pg st p ws = 0 ∨ (0 ≤ p ∧ p < pg ∧ ((1 ≤ kindV pg st ws p ∧ kindV pg st ws p ≤ 5 ∧ lenV pg st p ws = 1) ∨ (kindV pg st ws p = 6 ∧ lenV pg st p ws = cntV pg st ws p))) := by
    unfold lenV
    by_cases e : clsB (kindV pg st ws p) = true
    · have := cls_iff.1 e
      have := page_of (pg := pg) (st := st) (ws := ws) (p := p) (by omega)
      rw [if_pos e]; omega
    · by_cases e2 : kindV pg st ws p = 6
      · have := page_of (pg := pg) (st := st) (ws := ws) (p := p) (by omega)
        have := w.run p e2
        rw [if_neg e, if_pos e2]; omega
      · rw [if_neg e, if_neg e2]; exact .inl rfl
  have hout : ∀ q, ¬ (p ≤ q ∧ q < p + lenV pg st p ws) → kindV pg st ws' q = kindV pg st ws q := fun q a => by rw [T.kind, if_neg a]
  have hin : ∀ q, p ≤ q → q < p + lenV pg st p ws → kindV pg st ws' q = 0 := fun q a b => by rw [T.kind, if_pos ⟨a, b⟩]
  have hin7 : ∀ q, p < q → q < p + lenV pg st p ws → kindV pg st ws q = 7 := fun q a b => by
    rcases hcase with h | ⟨_, _, h | ⟨h, h1⟩⟩
    · omega
    · omega
    · exact (w.run p h).2.2.1 q a (by omega)
  have hend : kindV pg st ws (p + lenV pg st p ws) = 7 → lenV pg st p ws = 0 := fun z => by
    rcases hcase with h | ⟨_, _, ⟨h0, h1, h2⟩ | ⟨h, h1⟩⟩
    · exact h
    · have := w.rest _ z
      rw [h2, show p + 1 - 1 = p by omega] at this
      omega
    · rw [h1] at z; exact absurd z (w.run p h).2.2.2
  refine ⟨fun q hq => ?_, fun q hq => ?_, fun q hq => ?_, fun q hq => ?_, fun q hq hne => ?_⟩
  · rw [T.kind]
    split
    · omega
    · exact w.b q hq
  · by_cases e : p ≤ q ∧ q < p + lenV pg st p ws
    · rw [hin q e.1 e.2] at hq; omega
    · rw [hout q e] at hq
      by_cases e2 : p ≤ q - 1 ∧ q - 1 < p + lenV pg st p ws
      · have : q = p + lenV pg st p ws := by omega
        rw [this] at hq
        have := hend hq
        omega
      · rw [hout _ e2]; exact w.rest q hq
  · by_cases e : p ≤ q ∧ q < p + lenV pg st p ws
    · rw [hin q e.1 e.2] at hq; omega
    · rw [hout q e] at hq
      obtain ⟨r0, r1, r2, r3⟩ := w.run q hq
      have hpg := isPage_iff.2 (page_of (pg := pg) (st := st) (ws := ws) (p := q) (by omega))
      have hc : cntV pg st ws' q = cntV pg st ws q := by rw [T.cnt q hpg, if_neg e]
      rw [hc]
      refine ⟨r0, r1, fun i a b => ?_, fun z => r3 ?_⟩
      · rw [hout i ?_]
        · exact r2 i a b
        · rintro ⟨z0, z1⟩
          have hq2 : q < p := by omega
          have := r2 p hq2 (by omega)
          omega
      · by_cases e2 : p ≤ q + cntV pg st ws q ∧ q + cntV pg st ws q < p + lenV pg st p ws
        · rw [hin _ e2.1 e2.2] at z; omega
        · rwa [hout _ e2] at z
  · by_cases e : p ≤ q ∧ q < p + lenV pg st p ws
    · have hpg : isPage pg q = true := isPage_iff.2 (by
        rcases hb with h | ⟨h, h1, h2⟩
        · omega
        · have := isPage_iff.1 h; omega)
      rw [T.cnt q hpg, T.bit q hpg, if_pos e]
      exact ⟨rfl, if_pos e⟩
    · rw [hout q e] at hq
      have hpg := isPage_iff.2 (page_of (pg := pg) (st := st) (ws := ws) (p := q) (by omega))
      rw [T.cnt q hpg, T.bit q hpg, if_neg e, if_neg e]
      exact w.free q hq
  · rw [T.map]
    by_cases e : p ≤ q ∧ q < p + lenV pg st p ws
    · rw [hin q e.1 e.2] at hne; omega
    · rw [hout q e] at hne; exact w.map q hq hne
end
end Go.Proofs.YtogfikemodaepaaGreat

