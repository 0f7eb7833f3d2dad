/-
  What package extent's functions do over words.
-/
import Derived.Test.YtjljkidlhlgefaaExtD
namespace Go.Proofs.Ytjljkidlhlgefaa
set_option linter.unusedVariables false
set_option linter.unusedSimpArgs false
set_option linter.unusedSectionVars false

def kindV (pg st : Int) (ws : List Int) (p : Int) : Int := if isPage pg p then wAt ws (kA pg st p) else -1
def cntV (pg st : Int) (ws : List Int) (p : Int) : Int := wAt ws (cA pg st p)
def bitV (pg st : Int) (ws : List Int) (p : Int) : Int := wAt ws (bA pg st p)
def put3V (pg st p k x : Int) (ws : List Int) : List Int := ((ws.set (kA pg st p).toNat k).set (cA pg st p).toNat x).set (bA pg st p).toNat 0
def vacBN (pg st : Int) : Nat → Int → List Int → Bool
  | 0, _, _ => true
  | m + 1, q, ws => decide (kindV pg st ws q = 0) && vacBN pg st m (q + 1) ws
def vacB (pg st p n : Int) (ws : List Int) : Bool := thereB pg p n && vacBN pg st n.toNat p ws
def putNV (pg st k : Int) : Nat → Int → List Int → List Int
  | 0, _, ws => ws
  | m + 1, q, ws => putNV pg st k m (q + 1) (put3V pg st q k 0 ws)
def takeV (pg st p n k : Int) (ws : List Int) : Bool × List Int := if fitB k n && vacB pg st p n ws then (true, putNV pg st 7 (n - 1).toNat (p + 1) (put3V pg st p k (if k = 6 then n else 0) (ensureW pg st p n ws).2)) else (false, ws)
def lenV (pg st p : Int) (ws : List Int) : Int := if clsB (kindV pg st ws p) then 1 else if kindV pg st ws p = 6 then max 1 (min (cntV pg st ws p) (pg - p)) else 0
def dropV (pg st p : Int) (ws : List Int) : Int × List Int := (lenV pg st p ws, putNV pg st 0 (lenV pg st p ws).toNat p ws)
def fstNV (pg st : Int) : Nat → Int → List Int → Int
  | 0, p, _ => p
  | m + 1, p, ws => if kindV pg st ws p = 7 then fstNV pg st m (p - 1) ws else p
def fstV (pg st p : Int) (ws : List Int) : Int := if kindV pg st ws (fstNV pg st (p + 2).toNat p ws) = 0 ∨ kindV pg st ws (fstNV pg st (p + 2).toNat p ws) = -1 then -1 else fstNV pg st (p + 2).toNat p ws
def usedNV (pg st : Int) : Nat → Int → Int → List Int → Int
  | 0, _, s, _ => s
  | m + 1, q, s, ws => usedNV pg st m (q + 1) (s + if kindV pg st ws q = 0 then 0 else 1) ws
def usedV (pg st : Int) (ws : List Int) : Int := usedNV pg st pg.toNat 0 0 ws
def trim1V (pg st k : Int) (ws : List Int) : Int × List Int := if mappedV pg st ws k && vacB pg st (firstV pg k) (sizeV pg k) ws then (if 0 < (turnV pg st k 0 ws).1 then sizeV pg k else 0, (turnV pg st k 0 ws).2) else (0, ws)
def trimNV (pg st : Int) : Nat → Int → Int → List Int → Int × List Int
  | 0, _, s, ws => (s, ws)
  | m + 1, k, s, ws => trimNV pg st m (k + 1) (s + (trim1V pg st k ws).1) (trim1V pg st k ws).2
def trimV (pg st : Int) (ws : List Int) : Int × List Int := trimNV pg st (chunksV pg).toNat 0 0 ws
def openB (pg st : Int) (ws : List Int) (q : Int) : Bool := mappedV pg st ws (ofV q) && decide (kindV pg st ws q = 0)
def freeB (pg st : Int) (ws : List Int) (q : Int) : Bool := decide (kindV pg st ws q = 0)
def scanV (f : Int → Bool) : Nat → Int → Option Int
  | 0, _ => none
  | m + 1, q => if f q then scanV f m (q + 1) else some q
def seekV (f : Int → Bool) (pg n step : Int) : Nat → Int → Int
  | 0, _ => -1
  | m + 1, p => if p ≤ pg - n then (match scanV f n.toNat p with | none => p | some q => seekV f pg n step m ((q / step + 1) * step)) else -1
def leastV (f : Int → Bool) (pg n step : Int) : Int := seekV f pg n step (pg.toNat + 1) 0
def findV (pg st n step : Int) (ws : List Int) : Int := if 1 ≤ n ∧ 1 ≤ step then (if leastV (openB pg st ws) pg n step = -1 then leastV (freeB pg st ws) pg n step else leastV (openB pg st ws) pg n step) else -1

theorem flat_ite {α : Type} {n : Nat} {c : Prop} [Decidable c] {p q : Prg α} {g h : List Int → α × List Int} (hp : c → Flat n p g) (hq : ¬ c → Flat n q h) : Flat n (if c then p else q) (fun ws => if c then g ws else h ws) := by
  by_cases e : c
  · simp only [if_pos e]; exact hp e
  · simp only [if_neg e]; exact hq e
theorem flat_bindQ {α β : Type} {n : Nat} {p : Prg α} {f : α → Prg β} {g : List Int → α × List Int} {k : α → List Int → β × List Int} {Q : α → Prop} (h : Flat n p g) (hq : ∀ ws, ws.length = n → Q (g ws).1) (hf : ∀ x, Q x → Flat n (f x) (k x)) : Flat n (bindP p f) (fun ws => k (g ws).1 (g ws).2) := fun zs D hn hz hD => by
  obtain ⟨D1, e1, a1, i1⟩ := h zs D hn hz hD
  obtain ⟨D2, e2, a2, i2⟩ := hf (g (applyD zs D)).1 (hq _ (by rw [applyD_len]; exact hn)) zs D1 hn hz i1
  refine ⟨D2, ?_, ?_, i2⟩
  · rw [bindP_ok e1, e2, a1]
  · rw [a2, a1]
section
variable {pg st : Int} {n : Nat} (H : PgIn pg st n)
include H
theorem flat_kind (p : Int) : Flat n (ekindP pg st p) (fun ws => (kindV pg st ws p, ws)) := by
  unfold ekindP kindV
  cases h : isPage pg p with
  | true => exact flat_eq (flat_read (by have := (page_b H h).1.1; omega) (page_b H h).1.2.1) (fun ws _ => by simp)
  | false => exact flat_eq (flat_pure n (-1)) (fun ws _ => by simp)
theorem flat_put {p : Int} (h : isPage pg p = true) {k x : Int} (hk : W64 k) (hx : W64 x) : Flat n (eputP pg st p k x) (fun ws => ((), put3V pg st p k x ws)) := by
  obtain ⟨⟨a0, a1, a2⟩, ⟨b0, b1, b2⟩, c0, c1, c2⟩ := page_b H h
  exact flat_bind (flat_write (by omega) a1 a2 hk) (fun _ => flat_bind (flat_write (by omega) b1 b2 hx) (fun _ => flat_write (by omega) c1 c2 (by unfold W64; omega)))
theorem flat_vacN (m : Nat) : ∀ q, Flat n (evacN pg st m q) (fun ws => (vacBN pg st m q ws, ws)) := by
  induction m with
  | zero => intro q; exact flat_pure n true
  | succ m ih =>
    intro q
    refine flat_eq (flat_bind (flat_kind H q) (fun k => flat_ite (fun _ => ih (q + 1)) (fun _ => flat_pure n false))) (fun ws _ => ?_)
    show _ = (decide (kindV pg st ws q = 0) && vacBN pg st m (q + 1) ws, ws)
    by_cases e : kindV pg st ws q = 0 <;> simp [e]
theorem flat_vac (p m : Int) : Flat n (evacP pg st p m) (fun ws => (vacB pg st p m ws, ws)) := by
  refine flat_eq (flat_ite (fun _ => flat_vacN H m.toNat p) (fun _ => flat_pure n false)) (fun ws _ => ?_)
  unfold vacB
  cases thereB pg p m <;> simp
theorem flat_putN {k : Int} (hk : W64 k) (m : Nat) : ∀ q, (∀ i : Nat, i < m → isPage pg (q + i) = true) → Flat n (eputN pg st k m q) (fun ws => ((), putNV pg st k m q ws)) := by
  induction m with
  | zero => intro q _; exact flat_pure n ()
  | succ m ih =>
    intro q h
    exact flat_bind (flat_put H (by simpa using h 0 (by omega)) hk (by unfold W64; omega)) (fun _ => ih _ (fun i hi => by have := h (i + 1) (by omega); rwa [show q + ((i + 1 : Nat) : Int) = q + 1 + (i : Int) by omega] at this))
theorem flat_take (p m k : Int) (hk : W64 k) (hm : W64 m) : Flat n (etakeP pg st p m k) (takeV pg st p m k) := by
  unfold etakeP
  have hx : W64 (if k = 6 then m else 0) := by
    split
    · exact hm
    · unfold W64; omega
  cases h : thereB pg p m with
  | false =>
    unfold evacP
    rw [h]
    have z : Flat n (pureP false) (takeV pg st p m k) := flat_eq (flat_pure n false) (fun ws _ => by
      unfold takeV vacB
      rw [h]
      simp)
    by_cases hf : fitB k m = true
    · rw [if_pos hf]; exact z
    · rw [if_neg hf]; exact z
  | true =>
    obtain ⟨q0, q1, q2⟩ := there_iff.1 h
    refine flat_eq (flat_ite (fun _ => flat_bind (flat_vac H p m) (fun b => flat_ite (fun _ => flat_bind (flat_ensure H.toTblIn p m) (fun _ => flat_bind (flat_put H (isPage_iff.2 ⟨by omega, by omega⟩) hk hx) (fun _ => flat_bind (flat_putN H (by unfold W64; omega) (m - 1).toNat (p + 1) (fun i hi => isPage_iff.2 ⟨by omega, by omega⟩)) (fun _ => flat_pure n true)))) (fun _ => flat_pure n false))) (fun _ => flat_pure n false)) (fun ws _ => ?_)
    unfold takeV
    by_cases hf : fitB k m = true <;> by_cases hv : vacB pg st p m ws = true <;> simp [hf, hv]
theorem flat_len (p : Int) : Flat n (elenP pg st p) (fun ws => (lenV pg st p ws, ws)) := by
  cases h : isPage pg p with
  | true =>
    obtain ⟨_, ⟨b0, b1, _⟩, _⟩ := page_b H h
    refine flat_eq (flat_bind (flat_kind H p) (fun k => flat_ite (fun _ => flat_pure n 1) (fun _ => flat_ite (fun _ => flat_bind (flat_read (a := cA pg st p) (by omega) b1) (fun x => flat_pure n (max 1 (min x (pg - p))))) (fun _ => flat_pure n 0)))) (fun ws _ => ?_)
    unfold lenV cntV
    by_cases e : clsB (kindV pg st ws p) = true
    · simp only [if_pos e]
    · by_cases e2 : kindV pg st ws p = 6
      · simp only [if_neg e, if_pos e2]
      · simp only [if_neg e, if_neg e2]
  | false =>
    unfold elenP ekindP
    rw [h]
    refine flat_eq (flat_pure n (0 : Int)) (fun ws _ => ?_)
    unfold lenV kindV
    rw [h]; rfl
theorem len_b (p : Int) (ws : List Int) : lenV pg st p ws = 0 ∨ isPage pg p = true ∧ 1 ≤ lenV pg st p ws ∧ lenV pg st p ws ≤ pg - p := by
  cases h : isPage pg p with
  | true =>
    have := isPage_iff.1 h
    unfold lenV
    by_cases e : clsB (kindV pg st ws p) = true
    · rw [if_pos e]; exact .inr ⟨rfl, by omega, by omega⟩
    · by_cases e2 : kindV pg st ws p = 6
      · rw [if_neg e, if_pos e2]; exact .inr ⟨rfl, by omega, by omega⟩
      · rw [if_neg e, if_neg e2]; exact .inl rfl
  | false =>
    refine .inl ?_
    unfold lenV kindV
    rw [h]; rfl
theorem flat_drop (p : Int) : Flat n (edropP pg st p) (dropV pg st p) :=
  flat_eq (flat_bindQ (Q := fun x : Int => x = 0 ∨ isPage pg p = true ∧ 1 ≤ x ∧ x ≤ pg - p) (flat_len H p) (fun ws _ => len_b H p ws) (fun x hx => flat_bind (flat_putN H (by unfold W64; omega) x.toNat p (fun i hi => by
    rcases hx with rfl | ⟨h, h1, h2⟩
    · simp at hi
    · have := isPage_iff.1 h; exact isPage_iff.2 ⟨by omega, by omega⟩)) (fun _ => flat_pure n x))) (fun ws _ => rfl)
theorem flat_fstN (m : Nat) : ∀ q, Flat n (efirstN pg st m q) (fun ws => (fstNV pg st m q ws, ws)) := by
  induction m with
  | zero => intro q; exact flat_pure n q
  | succ m ih =>
    intro q
    refine flat_eq (flat_bind (flat_kind H q) (fun k => flat_ite (fun _ => ih (q - 1)) (fun _ => flat_pure n q))) (fun ws _ => ?_)
    show _ = ((if kindV pg st ws q = 7 then fstNV pg st m (q - 1) ws else q), ws)
    by_cases e : kindV pg st ws q = 7 <;> simp [e]
theorem flat_first (p : Int) : Flat n (efirstP pg st p) (fun ws => (fstV pg st p ws, ws)) := by
  refine flat_eq (flat_bind (flat_fstN H (p + 2).toNat p) (fun q => flat_bind (flat_kind H q) (fun k => flat_ite (fun _ => flat_pure n (-1)) (fun _ => flat_pure n q)))) (fun ws _ => ?_)
  unfold fstV
  by_cases e : kindV pg st ws (fstNV pg st (p + 2).toNat p ws) = 0 ∨ kindV pg st ws (fstNV pg st (p + 2).toNat p ws) = -1
  · simp only [if_pos e]
  · simp only [if_neg e]
theorem flat_usedN (m : Nat) : ∀ q s, Flat n (eusedN pg st m q s) (fun ws => (usedNV pg st m q s ws, ws)) := by
  induction m with
  | zero => intro q s; exact flat_pure n s
  | succ m ih => intro q s; exact flat_eq (flat_bind (flat_kind H q) (fun k => ih (q + 1) (s + if k = 0 then 0 else 1))) (fun ws _ => rfl)
theorem flat_used : Flat n (eusedP pg st) (fun ws => (usedV pg st ws, ws)) := flat_usedN H _ _ _
theorem flat_trim1 (k : Int) : Flat n (etrim1 pg st k) (trim1V pg st k) := by
  refine flat_eq (flat_bind (flat_mapped H.toTblIn k) (fun b => flat_ite (fun _ => flat_bind (flat_vac H (firstV pg k) (sizeV pg k)) (fun b => flat_ite (fun _ => flat_bind (flat_turn H.toTblIn k 0 (by unfold W64; omega)) (fun y => flat_pure n (if 0 < y then sizeV pg k else 0))) (fun _ => flat_pure n 0))) (fun _ => flat_pure n 0))) (fun ws _ => ?_)
  unfold trim1V
  by_cases e : mappedV pg st ws k = true <;> by_cases e2 : vacB pg st (firstV pg k) (sizeV pg k) ws = true <;> simp [e, e2]
theorem flat_trimN (m : Nat) : ∀ k s, Flat n (etrimN pg st m k s) (trimNV pg st m k s) := by
  induction m with
  | zero => intro k s; exact flat_pure n s
  | succ m ih => intro k s; exact flat_eq (flat_bind (flat_trim1 H k) (fun x => ih (k + 1) (s + x))) (fun ws _ => rfl)
theorem flat_trim : Flat n (etrimP pg st) (trimV pg st) := flat_trimN H _ _ _
theorem flat_free (q : Int) : Flat n (efreeP pg st q) (fun ws => (freeB pg st ws q, ws)) := flat_bind (flat_kind H q) (fun k => flat_pure n (decide (k = 0)))
theorem flat_open (q : Int) : Flat n (eopenP pg st q) (fun ws => (openB pg st ws q, ws)) := by
  refine flat_eq (flat_bind (flat_mapped H.toTblIn (ofV q)) (fun b => flat_ite (fun _ => flat_free H q) (fun _ => flat_pure n false))) (fun ws _ => ?_)
  unfold openB freeB
  by_cases e : mappedV pg st ws (ofV q) = true <;> simp [e]
theorem flat_scanN {f : Int → Prg Bool} {g : List Int → Int → Bool} (hf : ∀ q, Flat n (f q) (fun ws => (g ws q, ws))) (m : Nat) : ∀ q, Flat n (escanN f m q) (fun ws => (scanV (g ws) m q, ws)) := by
  induction m with
  | zero => intro q; exact flat_pure n none
  | succ m ih =>
    intro q
    refine flat_eq (flat_bind (hf q) (fun b => flat_ite (fun _ => ih (q + 1)) (fun _ => flat_pure n (some q)))) (fun ws _ => ?_)
    show _ = ((if g ws q then scanV (g ws) m (q + 1) else some q), ws)
    by_cases e : g ws q = true <;> simp [e]
theorem flat_seekN {f : Int → Prg Bool} {g : List Int → Int → Bool} (hf : ∀ q, Flat n (f q) (fun ws => (g ws q, ws))) (m step : Int) (j : Nat) : ∀ p, Flat n (eseekN f pg m step j p) (fun ws => (seekV (g ws) pg m step j p, ws)) := by
  induction j with
  | zero => intro p; exact flat_pure n (-1)
  | succ j ih =>
    intro p
    refine flat_eq (flat_ite (fun _ => flat_bind (flat_scanN H hf m.toNat p) (fun r => (?_ : Flat n _ (fun ws => ((match r with | none => p | some q => seekV (g ws) pg m step j ((q / step + 1) * step)), ws))))) (fun _ => flat_pure n (-1))) (fun ws _ => ?_)
    · cases r with
      | none => exact flat_pure n p
      | some q => exact ih _
    · show _ = ((if p ≤ pg - m then (match scanV (g ws) m.toNat p with | none => p | some q => seekV (g ws) pg m step j ((q / step + 1) * step)) else -1), ws)
      by_cases e : p ≤ pg - m <;> simp [e]
theorem flat_find (m step : Int) : Flat n (efindP pg st m step) (fun ws => (findV pg st m step ws, ws)) := by
  refine flat_eq (flat_ite (fun _ => flat_bind (flat_seekN H (flat_open H) m step (pg.toNat + 1) 0) (fun p => flat_ite (fun _ => flat_seekN H (flat_free H) m step (pg.toNat + 1) 0) (fun _ => flat_pure n p))) (fun _ => flat_pure n (-1))) (fun ws _ => ?_)
  unfold findV leastV
  by_cases e : 1 ≤ m ∧ 1 ≤ step
  · simp only [if_pos e]
    by_cases e2 : seekV (openB pg st ws) pg m step (pg.toNat + 1) 0 = -1
    · simp only [if_pos e2]
    · simp only [if_neg e2]
  · simp only [if_neg e]
end
end Go.Proofs.Ytjljkidlhlgefaa
