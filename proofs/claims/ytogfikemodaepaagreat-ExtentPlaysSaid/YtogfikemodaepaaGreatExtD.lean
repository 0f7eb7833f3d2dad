/-
  What package extent's functions do, as programs over words, and as plain functions.
-/
import Derived.Test.YtogfikemodaepaaGreatChunkEnd
import Derived.Test.YtogfikemodaepaaGreatWay
namespace Go.Proofs.YtogfikemodaepaaGreat
set_option linter.unusedVariables false
set_option linter.unusedSimpArgs false
set_option linter.unusedSectionVars false

def isPage (pg p : Int) : Bool := decide (0 ≤ p) && decide (p < pg)
theorem isPage_iff {pg p : Int} : isPage pg p = true ↔ 0 ≤ p ∧ p < pg := by simp [isPage]
theorem isPage_not {pg p : Int} : isPage pg p = false ↔ ¬ (0 ≤ p ∧ p < pg) := by
  cases h : isPage pg p with
  | true => simp [isPage_iff.1 h]
  | false => simp only [true_iff]; intro q; rw [isPage_iff.2 q] at h; cases h
def kA (pg st p : Int) : Int := tableV st + chunksV pg + p
def cA (pg st p : Int) : Int := tableV st + chunksV pg + pg + p
def bA (pg st p : Int) : Int := tableV st + chunksV pg + 2 * pg + p
theorem page0 {pg st p : Int} (h : isPage pg p = true) : pageV pg st 0 p = kA pg st p := by unfold pageV kA; rw [if_pos (isPage_iff.1 h)]; omega
theorem page1 {pg st p : Int} (h : isPage pg p = true) : pageV pg st 1 p = cA pg st p := by unfold pageV cA; rw [if_pos (isPage_iff.1 h)]; omega
theorem page2 {pg st p : Int} (h : isPage pg p = true) : pageV pg st 2 p = bA pg st p := by unfold pageV bA; rw [if_pos (isPage_iff.1 h)]
theorem pageN {pg st i p : Int} (h : isPage pg p = false) : pageV pg st i p = 0 := by unfold pageV; rw [if_neg (isPage_not.1 h)]

/-! The programs. -/
def ekindP (pg st p : Int) : Prg Int := if isPage pg p then readP (kA pg st p) else pureP (-1)
def eputP (pg st p k x : Int) : Prg Unit := bindP (writeP (kA pg st p) k) fun _ => bindP (writeP (cA pg st p) x) fun _ => writeP (bA pg st p) 0
def evacN (pg st : Int) : Nat → Int → Prg Bool
  | 0, _ => pureP true
  | m + 1, q => bindP (ekindP pg st q) (fun k => if k = 0 then evacN pg st m (q + 1) else pureP false)
def evacP (pg st p n : Int) : Prg Bool := if thereB pg p n then evacN pg st n.toNat p else pureP false
def eputN (pg st k : Int) : Nat → Int → Prg Unit
  | 0, _ => pureP ()
  | m + 1, q => bindP (eputP pg st q k 0) fun _ => eputN pg st k m (q + 1)
def clsB (k : Int) : Bool := decide (1 ≤ k) && decide (k ≤ 5)
theorem cls_iff {k : Int} : clsB k = true ↔ 1 ≤ k ∧ k ≤ 5 := by simp [clsB]
def fitB (k n : Int) : Bool := decide (k = 6) || (clsB k && decide (n = 1))
theorem fit_iff {k n : Int} : fitB k n = true ↔ k = 6 ∨ (1 ≤ k ∧ k ≤ 5 ∧ n = 1) := by simp [fitB, clsB, and_assoc]
def etakeP (pg st p n k : Int) : Prg Bool := if fitB k n then bindP (evacP pg st p n) (fun b => if b then bindP (ensureP pg st p n) (fun _ => bindP (eputP pg st p k (if k = 6 then n else 0)) (fun _ => bindP (eputN pg st 7 (n - 1).toNat (p + 1)) (fun _ => pureP true))) else pureP false) else pureP false
def elenP (pg st p : Int) : Prg Int := bindP (ekindP pg st p) (fun k => if clsB k then pureP 1 else if k = 6 then bindP (readP (cA pg st p)) (fun x => pureP (max 1 (min x (pg - p)))) else pureP 0)
def edropP (pg st p : Int) : Prg Int := bindP (elenP pg st p) (fun n => bindP (eputN pg st 0 n.toNat p) (fun _ => pureP n))
def efirstN (pg st : Int) : Nat → Int → Prg Int
  | 0, p => pureP p
  | m + 1, p => bindP (ekindP pg st p) (fun k => if k = 7 then efirstN pg st m (p - 1) else pureP p)
def efirstP (pg st p : Int) : Prg Int := bindP (efirstN pg st (p + 2).toNat p) (fun q => bindP (ekindP pg st q) (fun k => if k = 0 ∨ k = -1 then pureP (-1) else pureP q))
def eusedN (pg st : Int) : Nat → Int → Int → Prg Int
  | 0, _, s => pureP s
  | m + 1, q, s => bindP (ekindP pg st q) (fun k => eusedN pg st m (q + 1) (s + if k = 0 then 0 else 1))
def eusedP (pg st : Int) : Prg Int := eusedN pg st pg.toNat 0 0
def etrim1 (pg st k : Int) : Prg Int := bindP (mappedP pg st k) (fun b => if b then bindP (evacP pg st (firstV pg k) (sizeV pg k)) (fun b => if b then bindP (turnP pg st k 0) (fun y => pureP (if 0 < y then sizeV pg k else 0)) else pureP 0) else pureP 0)
def etrimN (pg st : Int) : Nat → Int → Int → Prg Int
  | 0, _, s => pureP s
  | m + 1, k, s => bindP (etrim1 pg st k) (fun x => etrimN pg st m (k + 1) (s + x))
def etrimP (pg st : Int) : Prg Int := etrimN pg st (chunksV pg).toNat 0 0
def efreeP (pg st q : Int) : Prg Bool := bindP (ekindP pg st q) (fun k => pureP (decide (k = 0)))
def eopenP (pg st q : Int) : Prg Bool := bindP (mappedP pg st (ofV q)) (fun b => if b then efreeP pg st q else pureP false)
def escanN (f : Int → Prg Bool) : Nat → Int → Prg (Option Int)
  | 0, _ => pureP none
  | m + 1, q => bindP (f q) (fun b => if b then escanN f m (q + 1) else pureP (some q))
def eseekN (f : Int → Prg Bool) (pg n step : Int) : Nat → Int → Prg Int
  | 0, _ => pureP (-1)
  | m + 1, p => if p ≤ pg - n then bindP (escanN f n.toNat p) (fun r => match r with | none => pureP p | some q => eseekN f pg n step m ((q / step + 1) * step)) else pureP (-1)
def eleastP (f : Int → Prg Bool) (pg n step : Int) : Prg Int := eseekN f pg n step (pg.toNat + 1) 0
def efindP (pg st n step : Int) : Prg Int := if 1 ≤ n ∧ 1 ≤ step then bindP (eleastP (eopenP pg st) pg n step) (fun p => if p = -1 then eleastP (efreeP pg st) pg n step else pureP p) else pureP (-1)

/-! Where more is known they do the same. -/
theorem sound_kind (pg st p : Int) : Sound (ekindP pg st p) := sound_ite (sound_read _) (sound_pure _)
theorem sound_put (pg st p k x : Int) : Sound (eputP pg st p k x) := sound_bind (sound_write _ _) (fun _ => sound_bind (sound_write _ _) (fun _ => sound_write _ _))
theorem sound_vacN (pg st : Int) (m : Nat) : ∀ q, Sound (evacN pg st m q) := by
  induction m with
  | zero => intro q; exact sound_pure _
  | succ m ih => intro q; exact sound_bind (sound_kind _ _ _) (fun _ => sound_ite (ih _) (sound_pure _))
theorem sound_vac (pg st p n : Int) : Sound (evacP pg st p n) := sound_ite (sound_vacN _ _ _ _) (sound_pure _)
theorem sound_putN (pg st k : Int) (m : Nat) : ∀ q, Sound (eputN pg st k m q) := by
  induction m with
  | zero => intro q; exact sound_pure _
  | succ m ih => intro q; exact sound_bind (sound_put _ _ _ _ _) (fun _ => ih _)
theorem sound_take (pg st p n k : Int) : Sound (etakeP pg st p n k) :=
  sound_ite (sound_bind (sound_vac _ _ _ _) (fun _ => sound_ite (sound_bind (sound_ensure _ _ _ _) (fun _ => sound_bind (sound_put _ _ _ _ _) (fun _ => sound_bind (sound_putN _ _ _ _ _) (fun _ => sound_pure _)))) (sound_pure _))) (sound_pure _)
theorem sound_len (pg st p : Int) : Sound (elenP pg st p) := sound_bind (sound_kind _ _ _) (fun _ => sound_ite (sound_pure _) (sound_ite (sound_bind (sound_read _) (fun _ => sound_pure _)) (sound_pure _)))
theorem sound_drop (pg st p : Int) : Sound (edropP pg st p) := sound_bind (sound_len _ _ _) (fun _ => sound_bind (sound_putN _ _ _ _ _) (fun _ => sound_pure _))
theorem sound_firstN (pg st : Int) (m : Nat) : ∀ q, Sound (efirstN pg st m q) := by
  induction m with
  | zero => intro q; exact sound_pure _
  | succ m ih => intro q; exact sound_bind (sound_kind _ _ _) (fun _ => sound_ite (ih _) (sound_pure _))
theorem sound_first (pg st p : Int) : Sound (efirstP pg st p) := sound_bind (sound_firstN _ _ _ _) (fun _ => sound_bind (sound_kind _ _ _) (fun _ => sound_ite (sound_pure _) (sound_pure _)))
theorem sound_usedN (pg st : Int) (m : Nat) : ∀ q s, Sound (eusedN pg st m q s) := by
  induction m with
  | zero => intro q s; exact sound_pure _
  | succ m ih => intro q s; exact sound_bind (sound_kind _ _ _) (fun _ => ih _ _)
theorem sound_used (pg st : Int) : Sound (eusedP pg st) := sound_usedN _ _ _ _ _
theorem sound_trim1 (pg st k : Int) : Sound (etrim1 pg st k) := sound_bind (sound_mapped _ _ _) (fun _ => sound_ite (sound_bind (sound_vac _ _ _ _) (fun _ => sound_ite (sound_bind (sound_turn _ _ _ _) (fun _ => sound_pure _)) (sound_pure _))) (sound_pure _))
theorem sound_trimN (pg st : Int) (m : Nat) : ∀ q s, Sound (etrimN pg st m q s) := by
  induction m with
  | zero => intro q s; exact sound_pure _
  | succ m ih => intro q s; exact sound_bind (sound_trim1 _ _ _) (fun _ => ih _ _)
theorem sound_trim (pg st : Int) : Sound (etrimP pg st) := sound_trimN _ _ _ _ _
theorem sound_free (pg st q : Int) : Sound (efreeP pg st q) := sound_bind (sound_kind _ _ _) (fun _ => sound_pure _)
theorem sound_open (pg st q : Int) : Sound (eopenP pg st q) := sound_bind (sound_mapped _ _ _) (fun _ => sound_ite (sound_free _ _ _) (sound_pure _))
theorem sound_scanN {f : Int → Prg Bool} (hf : ∀ q, Sound (f q)) (m : Nat) : ∀ q, Sound (escanN f m q) := by
  induction m with
  | zero => intro q; exact sound_pure _
  | succ m ih => intro q; exact sound_bind (hf q) (fun _ => sound_ite (ih _) (sound_pure _))
theorem sound_seekN {f : Int → Prg Bool} (hf : ∀ q, Sound (f q)) (pg n step : Int) (m : Nat) : ∀ p, Sound (eseekN f pg n step m p) := by
  induction m with
  | zero => intro q; exact sound_pure _
  | succ m ih =>
    intro q
    refine sound_ite (sound_bind (sound_scanN hf _ _) (fun r => ?_)) (sound_pure _)
    cases r with
    | none => exact sound_pure _
    | some q => exact ih _
theorem sound_find (pg st n step : Int) : Sound (efindP pg st n step) := sound_ite (sound_bind (sound_seekN (sound_open pg st) _ _ _ _ _) (fun _ => sound_ite (sound_seekN (sound_free pg st) _ _ _ _ _) (sound_pure _))) (sound_pure _)

/-- The pages' words lie among n words. -/
structure PgIn (pg st : Int) (n : Nat) : Prop extends TblIn pg st n where
  top5 : tableV st + chunksV pg + 5 * pg ≤ n
theorem good_ite {α : Type} {n : Nat} {Q : α → Prop} {c : Prop} [Decidable c] {p q : Prg α} (h1 : c → Good n Q p) (h2 : ¬ c → Good n Q q) : Good n Q (if c then p else q) := by
  split
  · rename_i h; exact h1 h
  · rename_i h; exact h2 h
section
variable {pg st : Int} {n : Nat} (H : PgIn pg st n)
include H
theorem page_b {p : Int} (h : isPage pg p = true) : (4 ≤ kA pg st p ∧ kA pg st p < n ∧ W64 (kA pg st p)) ∧ (4 ≤ cA pg st p ∧ cA pg st p < n ∧ W64 (cA pg st p)) ∧ (4 ≤ bA pg st p ∧ bA pg st p < n ∧ W64 (bA pg st p)) := by
  have h0 := isPage_iff.1 h
  have h1 := H.st1; have h2 := H.st2; have h3 := H.top5; have h4 := H.pg1; have h5 := H.pg2
  unfold kA cA bA W64
  unfold chunksV tableV at *
  omega
theorem good_kind (p : Int) : Good n W64 (ekindP pg st p) :=
  good_ite (fun h => good_read n (page_b H h).1.2.1) (fun _ => good_pure n (by unfold W64; omega))
theorem good_put {p : Int} (h : isPage pg p = true) {k x : Int} (hk : W64 k) (hx : W64 x) : Good n (fun _ => True) (eputP pg st p k x) := by
  obtain ⟨⟨_, a1, a2⟩, ⟨_, b1, b2⟩, _, c1, c2⟩ := page_b H h
  exact good_bind (good_write n a2 a1 hk) (fun _ _ => good_bind (good_write n b2 b1 hx) (fun _ _ => good_write n c2 c1 (by unfold W64; omega)))
theorem good_vacN (m : Nat) : ∀ q, Good n (fun _ => True) (evacN pg st m q) := by
  induction m with
  | zero => intro q; exact good_pure n trivial
  | succ m ih => intro q; exact good_bind (good_kind H q) (fun k _ => good_ite (fun _ => ih _) (fun _ => good_pure n trivial))
theorem good_vac (p m : Int) : Good n (fun _ => True) (evacP pg st p m) := good_ite (fun _ => good_vacN H _ _) (fun _ => good_pure n trivial)
theorem good_putN {k : Int} (hk : W64 k) (m : Nat) : ∀ q, (∀ i : Nat, i < m → isPage pg (q + i) = true) → Good n (fun _ => True) (eputN pg st k m q) := by
  induction m with
  | zero => intro q _; exact good_pure n trivial
  | succ m ih =>
    intro q h
    exact good_bind (good_put H (by simpa using h 0 (by omega)) hk (by unfold W64; omega)) (fun _ _ => ih _ (fun i hi => by have := h (i + 1) (by omega); rwa [show q + ((i + 1 : Nat) : Int) = q + 1 + (i : Int) by omega] at this))
theorem good_ensure2 (x y : Int) : Good n (fun _ => True) (ensureP pg st x y) := good_ensure H.toTblIn x y
theorem good_take (p m k : Int) (hk : W64 k) (hm : W64 m) : Good n (fun _ => True) (etakeP pg st p m k) := by
  unfold etakeP evacP
  refine good_ite (fun hf => ?_) (fun _ => good_pure n trivial)
  cases h : thereB pg p m with
  | false => exact good_bind (good_pure n (Q := fun b : Bool => b = false) rfl) (fun b hb => by subst hb; exact good_pure n trivial)
  | true =>
    obtain ⟨q0, q1, q2⟩ := there_iff.1 h
    have hx : W64 (if k = 6 then m else 0) := by
      split
      · exact hm
      · unfold W64; omega
    exact good_bind (good_vacN H _ _) (fun b _ => good_ite (fun _ => good_bind (good_ensure2 H _ _) (fun _ _ => good_bind (good_put H (isPage_iff.2 ⟨by omega, by omega⟩) hk hx) (fun _ _ => good_bind (good_putN H (by unfold W64; omega) _ _ (fun i hi => isPage_iff.2 ⟨by omega, by omega⟩)) (fun _ _ => good_pure n trivial)))) (fun _ => good_pure n trivial))
theorem good_len (p : Int) : Good n (fun x : Int => x = 0 ∨ isPage pg p = true ∧ 1 ≤ x ∧ x ≤ pg - p) (elenP pg st p) := by
  unfold elenP ekindP
  cases h : isPage pg p with
  | false => exact good_bind (good_pure n (Q := fun k : Int => k = -1) rfl) (fun k hk => by subst hk; exact good_pure n (.inl rfl))
  | true =>
    have := isPage_iff.1 h
    exact good_bind (good_read n (page_b H h).1.2.1) (fun k _ => good_ite (fun _ => good_pure n (.inr ⟨rfl, by omega, by omega⟩)) (fun _ => good_ite (fun _ => good_bind (good_read n (page_b H h).2.1.2.1) (fun x _ => good_pure n (.inr ⟨rfl, by omega, by omega⟩))) (fun _ => good_pure n (.inl rfl))))
theorem good_drop (p : Int) : Good n (fun x : Int => 0 ≤ x ∧ x ≤ 256) (edropP pg st p) := by
  have h5 := H.pg2
  exact good_bind (good_len H p) (fun x hx => by
    have hb : ∀ i : Nat, i < x.toNat → isPage pg (p + i) = true := fun i hi => by
      rcases hx with rfl | ⟨h, h1, h2⟩
      · simp at hi
      · have := isPage_iff.1 h; exact isPage_iff.2 ⟨by omega, by omega⟩
    exact good_bind (good_putN H (by unfold W64; omega) _ _ hb) (fun _ _ => good_pure n (by
      rcases hx with rfl | ⟨h, h1, h2⟩
      · omega
      · have := isPage_iff.1 h; omega)))
theorem good_firstN (m : Nat) : ∀ q : Int, Good n (fun x : Int => x ≤ q ∧ (x = q ∨ -1 ≤ x ∧ x < pg)) (efirstN pg st m q) := by
  induction m with
  | zero => intro q; exact good_pure n (by omega)
  | succ m ih =>
    intro q
    unfold efirstN
    cases h : isPage pg q with
    | false =>
      unfold ekindP
      rw [h]
      exact good_bind (good_pure n (Q := fun k : Int => k = -1) rfl) (fun k hk => by subst hk; exact good_pure n (by omega))
    | true =>
      have := isPage_iff.1 h
      exact good_bind (good_kind H q) (fun k _ => good_ite (fun _ => good_imp (ih _) (fun x hx => by omega)) (fun _ => good_pure n (by omega)))
theorem good_first (p : Int) : Good n (fun _ => True) (efirstP pg st p) := good_bind (good_firstN H _ _) (fun q _ => good_bind (good_kind H q) (fun k _ => good_ite (fun _ => good_pure n trivial) (fun _ => good_pure n trivial)))
theorem good_usedN (m : Nat) : ∀ q s : Int, 0 ≤ s → Good n (fun x : Int => 0 ≤ x ∧ x ≤ s + m) (eusedN pg st m q s) := by
  induction m with
  | zero => intro q s h; exact good_pure n (by omega)
  | succ m ih => intro q s h; exact good_bind (good_kind H q) (fun k _ => good_imp (ih (q + 1) (s + if k = 0 then 0 else 1) (by split <;> omega)) (fun x hx => by split at hx <;> omega))
theorem good_used : Good n (fun x : Int => 0 ≤ x ∧ x ≤ 256) (eusedP pg st) := good_imp (good_usedN H _ _ 0 (by omega)) (fun x hx => by have := H.pg2; have := H.pg1; omega)
theorem good_trim1 (k : Int) : Good n (fun x : Int => 0 ≤ x ∧ x ≤ 4) (etrim1 pg st k) := by
  have hs := size_b H.toTblIn k
  exact good_bind (good_mapped H.toTblIn k) (fun b _ => good_ite (fun _ => good_bind (good_vac H _ _) (fun b _ => good_ite (fun _ => good_bind (good_turn H.toTblIn k 0 (by unfold W64; omega)) (fun y _ => good_pure n (by split <;> omega))) (fun _ => good_pure n (by omega)))) (fun _ => good_pure n (by omega)))
theorem good_trimN (m : Nat) : ∀ q s : Int, 0 ≤ s → Good n (fun x : Int => 0 ≤ x ∧ x ≤ s + 4 * m) (etrimN pg st m q s) := by
  induction m with
  | zero => intro q s h; exact good_pure n (by omega)
  | succ m ih => intro q s h; exact good_bind (good_trim1 H q) (fun k _ => good_imp (ih (q + 1) _ (by omega)) (fun x hx => by omega))
theorem good_trim : Good n (fun x : Int => 0 ≤ x ∧ x ≤ 256) (etrimP pg st) := good_imp (good_trimN H _ _ 0 (by omega)) (fun x hx => by have := H.pg2; have := H.pg1; unfold chunksV at hx; omega)
theorem good_free (q : Int) : Good n (fun _ => True) (efreeP pg st q) := good_bind (good_kind H q) (fun _ _ => good_pure n trivial)
theorem good_open (q : Int) : Good n (fun _ => True) (eopenP pg st q) := good_bind (good_mapped H.toTblIn _) (fun b _ => good_ite (fun _ => good_free H q) (fun _ => good_pure n trivial))
theorem good_scanN {f : Int → Prg Bool} (hf : ∀ q, Good n (fun _ => True) (f q)) (m : Nat) : ∀ q : Int, Good n (fun r : Option Int => ∀ x, r = some x → q ≤ x ∧ x < q + m) (escanN f m q) := by
  induction m with
  | zero => intro q; exact good_pure n (fun x h => by cases h)
  | succ m ih => intro q; exact good_bind (hf q) (fun b _ => good_ite (fun _ => good_imp (ih _) (fun r hr x hx => by have := hr x hx; omega)) (fun _ => good_pure n (fun x hx => by cases hx; omega)))
theorem good_seekN {f : Int → Prg Bool} (hf : ∀ q, Good n (fun _ => True) (f q)) (m step : Int) (hm : 1 ≤ m) (hs : 1 ≤ step) (j : Nat) : ∀ p : Int, 0 ≤ p → Good n (fun x : Int => -1 ≤ x ∧ x < pg) (eseekN f pg m step j p) := by
  have h4 := H.pg1
  induction j with
  | zero => intro p _; exact good_pure n (by omega)
  | succ j ih =>
    intro p hp
    refine good_ite (fun h => good_bind (good_scanN H hf _ _) (fun r hr => ?_)) (fun _ => good_pure n (by omega))
    cases r with
    | none => exact good_pure n (by omega)
    | some q =>
      have := hr q rfl
      refine ih _ (Int.mul_nonneg ?_ (by omega))
      have := Int.ediv_nonneg (a := q) (b := step) (by omega) (by omega)
      omega
theorem good_find (m step : Int) : Good n (fun x : Int => -1 ≤ x ∧ x < pg) (efindP pg st m step) := by
  have h4 := H.pg1
  exact good_ite (fun h => good_bind (good_seekN H (good_open H) m step h.1 h.2 _ 0 (by omega)) (fun p hp => good_ite (fun _ => good_seekN H (good_free H) m step h.1 h.2 _ 0 (by omega)) (fun _ => good_pure n hp))) (fun _ => good_pure n (by omega))
end
theorem flat_ite {α : Type} {n : Nat} {c : Prop} [Decidable c] {p q : Prg α} {g h : List Int → α × List Int} (hp : c → Flat n p g) (hq : ¬ c → Flat n q h) : Flat n (if c then p else q) (fun ws => if c then g ws else h ws) := by
  by_cases e : c
  · simp only [if_pos e]; exact hp e
  · simp only [if_neg e]; exact hq e
theorem flat_bindQ {α β : Type} {n : Nat} {p : Prg α} {f : α → Prg β} {g : List Int → α × List Int} {k : α → List Int → β × List Int} {Q : α → Prop} (h : Flat n p g) (hq : ∀ ws, ws.length = n → Q (g ws).1) (hf : ∀ x, Q x → Flat n (f x) (k x)) : Flat n (bindP p f) (fun ws => k (g ws).1 (g ws).2) := fun zs D hn hz hD => by
  obtain ⟨D1, e1, a1, i1⟩ := h zs D hn hz hD
  obtain ⟨D2, e2, a2, i2⟩ := hf (g (applyD zs D)).1 (hq _ (by rw [applyD_len]; exact hn)) zs D1 hn hz i1
  refine ⟨D2, ?_, ?_, i2⟩
  · rw [bindP_ok e1, e2, a1]
  · rw [a2, a1]
end Go.Proofs.YtogfikemodaepaaGreat
