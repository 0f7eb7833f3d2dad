/-
  ExtentLeast's program over words: what is found is the first that will do.
-/
import Derived.Test.YtcjnkadmiflgaaaExtAftAll
namespace Go.Proofs.Ytcjnkadmiflgaaa
open Go.RowKit Go.Sort Go.Maps Go.Shelf
set_option linter.unusedVariables false
set_option linter.unusedSimpArgs false
set_option linter.unusedSectionVars false

def lmapP (pg st m p : Int) : Prg Bool := if 0 ≤ p then efitsP pg st p m true else pureP false
def lfreeP (pg st m step p : Int) : Prg Bool := if p < 0 then pureP true else if p.tmod step = 0 then efitsP pg st p m false else pureP false
def ltwoP (pg st m p : Int) (mp : Bool) (q : Int) : Prg Bool := bindP (efitsP pg st q m false) fun b => if b then pureP (decide (p < 0) || (!mp && decide (q < p))) else pureP false
def ltailP (pg st m p : Int) (mp : Bool) (q : Int) (a : Bool) : Prg Bool := if a then (if (!mp || decide (q < p)) = true then pureP true else ltwoP pg st m p mp q) else ltwoP pg st m p mp q
def loneP (pg st m p : Int) (mp : Bool) (q : Int) : Prg Bool := bindP (efitsP pg st q m true) (ltailP pg st m p mp q)
def lloopP (pg st m step p : Int) (mp : Bool) : Nat → Int → Bool → Prg Bool
  | 0, _, r => pureP r
  | j + 1, q, r => if q < pg then bindP (loneP pg st m p mp q) (fun c => lloopP pg st m step p mp j (q + step) (if c then false else r)) else pureP r
def llawP (pg st m step : Int) : Prg Bool := bindP (efindP pg st m step) fun p => bindP (lmapP pg st m p) fun mp => bindP (lfreeP pg st m step p) fun r => lloopP pg st m step p mp pg.toNat 0 r
theorem sound_lmap (pg st m p : Int) : Sound (lmapP pg st m p) := sound_ite (sound_fits _ _ _ _ _) (sound_pure _)
theorem sound_lfree (pg st m step p : Int) : Sound (lfreeP pg st m step p) := sound_ite (sound_pure _) (sound_ite (sound_fits _ _ _ _ _) (sound_pure _))
theorem sound_ltwo (pg st m p : Int) (mp : Bool) (q : Int) : Sound (ltwoP pg st m p mp q) := sound_bind (sound_fits _ _ _ _ _) (fun _ => sound_ite (sound_pure _) (sound_pure _))
theorem sound_lone (pg st m p : Int) (mp : Bool) (q : Int) : Sound (loneP pg st m p mp q) := sound_bind (sound_fits _ _ _ _ _) (fun _ => sound_ite (sound_ite (sound_pure _) (sound_ltwo _ _ _ _ _ _)) (sound_ltwo _ _ _ _ _ _))
theorem lloop_step {pg st m step p q : Int} {mp r : Bool} {j : Nat} (h : q < pg) : lloopP pg st m step p mp (j + 1) q r = bindP (efitsP pg st q m true) (fun a => bindP (ltailP pg st m p mp q a) (fun c => lloopP pg st m step p mp j (q + step) (if c then false else r))) := by
  show (if q < pg then bindP (loneP pg st m p mp q) _ else pureP r) = _
  rw [if_pos h]
  unfold loneP
  rw [bindP_assoc]
theorem lloop_end {pg st m step p q : Int} {mp r : Bool} {j : Nat} (h : pg ≤ q) : lloopP pg st m step p mp j q r = pureP r := by
  cases j with
  | zero => rfl
  | succ j => show (if q < pg then _ else pureP r) = _; rw [if_neg (by omega)]
theorem ltail_hit {pg st m p q : Int} {mp : Bool} {k : Bool → Prg Bool} (h : (!mp || decide (q < p)) = true) : bindP (ltailP pg st m p mp q true) k = k true := by
  unfold ltailP; rw [if_pos rfl, if_pos h]; rfl
theorem ltail_two {pg st m p q : Int} {mp a : Bool} {k : Bool → Prg Bool} (h : (a && (!mp || decide (q < p))) = false) : bindP (ltailP pg st m p mp q a) k = bindP (efitsP pg st q m false) (fun b => k (b && (decide (p < 0) || (!mp && decide (q < p))))) := by
  have two : bindP (ltwoP pg st m p mp q) k = bindP (efitsP pg st q m false) (fun b => k (b && (decide (p < 0) || (!mp && decide (q < p))))) := by
    unfold ltwoP
    rw [bindP_assoc]
    congr 1
    funext b
    cases b <;> rfl
  cases a with
  | false => exact two
  | true =>
    have h : (!mp || decide (q < p)) = false := by simpa using h
    have e : ltailP pg st m p mp q true = ltwoP pg st m p mp q := by unfold ltailP; rw [if_pos rfl, h]; rfl
    rw [e]; exact two
theorem sound_lloop (pg st m step p : Int) (mp : Bool) (j : Nat) : ∀ q r, Sound (lloopP pg st m step p mp j q r) := by
  induction j with
  | zero => intro q r; exact sound_pure _
  | succ j ih => intro q r; exact sound_ite (sound_bind (sound_lone _ _ _ _ _ _) (fun _ => ih _ _)) (sound_pure _)
theorem sound_llaw (pg st m step : Int) : Sound (llawP pg st m step) := sound_bind (sound_find _ _ _ _) (fun _ => sound_bind (sound_lmap _ _ _ _) (fun _ => sound_bind (sound_lfree _ _ _ _ _) (fun _ => sound_lloop _ _ _ _ _ _ _ _ _)))
section
variable {pg st : Int} {n : Nat} (H : PgIn pg st n)
include H
theorem good_lmap (m p : Int) : Good n (fun _ => True) (lmapP pg st m p) := good_ite (fun _ => good_fits H _ _ _) (fun _ => good_pure n trivial)
theorem good_lfree (m step p : Int) : Good n (fun _ => True) (lfreeP pg st m step p) := good_ite (fun _ => good_pure n trivial) (fun _ => good_ite (fun _ => good_fits H _ _ _) (fun _ => good_pure n trivial))
theorem good_ltwo (m p : Int) (mp : Bool) (q : Int) : Good n (fun _ => True) (ltwoP pg st m p mp q) := good_bind (good_fits H _ _ _) (fun _ _ => good_ite (fun _ => good_pure n trivial) (fun _ => good_pure n trivial))
theorem good_lone (m p : Int) (mp : Bool) (q : Int) : Good n (fun _ => True) (loneP pg st m p mp q) := good_bind (good_fits H _ _ _) (fun _ _ => good_ite (fun _ => good_ite (fun _ => good_pure n trivial) (fun _ => good_ltwo H _ _ _ _)) (fun _ => good_ltwo H _ _ _ _))
theorem good_lloop (m step p : Int) (mp : Bool) (j : Nat) : ∀ q r, Good n (fun _ => True) (lloopP pg st m step p mp j q r) := by
  induction j with
  | zero => intro q r; exact good_pure n trivial
  | succ j ih => intro q r; exact good_ite (fun _ => good_bind (good_lone H _ _ _ _) (fun _ _ => ih _ _)) (fun _ => good_pure n trivial)
theorem good_llaw (m step : Int) : Good n (fun _ => True) (llawP pg st m step) := good_bind (good_find H _ _) (fun _ _ => good_bind (good_lmap H _ _) (fun _ _ => good_bind (good_lfree H _ _ _) (fun _ _ => good_lloop H _ _ _ _ _ _ _)))
end
theorem scan_none {f : Int → Bool} (m : Nat) : ∀ q : Int, scanV f m q = none → ∀ i, q ≤ i → i < q + m → f i = true := by
  induction m with
  | zero => intro q _ i a b; omega
  | succ m ih =>
    intro q h i a b
    unfold scanV at h
    by_cases e : f q = true
    · rw [if_pos e] at h
      by_cases z : i = q
      · rw [z]; exact e
      · exact ih _ h i (by omega) (by omega)
    · rw [if_neg e] at h; cases h
theorem scan_some {f : Int → Bool} (m : Nat) : ∀ q x : Int, scanV f m q = some x → q ≤ x ∧ x < q + m ∧ f x = false := by
  induction m with
  | zero => intro q x h; cases h
  | succ m ih =>
    intro q x h
    unfold scanV at h
    by_cases e : f q = true
    · rw [if_pos e] at h
      have := ih _ _ h
      exact ⟨by omega, by omega, this.2.2⟩
    · rw [if_neg e] at h
      cases h
      exact ⟨by omega, by omega, by simpa using e⟩
/-- m of them from q on will do. -/
def Hits (f : Int → Bool) (pg m q : Int) : Prop := q ≤ pg - m ∧ ∀ i, q ≤ i → i < q + m → f i = true
theorem seek_spec {f : Int → Bool} {pg m step : Int} (h1 : 1 ≤ m) (h2 : 1 ≤ step) (j : Nat) : ∀ p d : Int, p = d * step → 0 ≤ p → pg < p + j →
    (seekV f pg m step j p = -1 ∧ ∀ k : Int, p ≤ k * step → ¬ Hits f pg m (k * step)) ∨ ∃ k : Int, seekV f pg m step j p = k * step ∧ p ≤ k * step ∧ Hits f pg m (k * step) ∧ ∀ l : Int, p ≤ l * step → l * step < k * step → ¬ Hits f pg m (l * step) := by
  induction j with
  | zero => intro p d hp h0 hj; exact .inl ⟨rfl, fun k hk hh => by have := hh.1; omega⟩
  | succ j ih =>
    intro p d hp h0 hj
    unfold seekV
    by_cases e : p ≤ pg - m
    · rw [if_pos e]
      cases hs : scanV f m.toNat p with
      | none =>
        have := scan_none _ _ hs
        exact .inr ⟨d, hp, by omega, ⟨by omega, fun i a b => this i (by omega) (by omega)⟩, fun l a b => by omega⟩
      | some q =>
        obtain ⟨s0, s1, s2⟩ := scan_some _ _ _ hs
        have q0 : q / step * step ≤ q := Int.ediv_mul_le q (by omega)
        have q1 : q < (q / step + 1) * step := Int.lt_ediv_add_one_mul_self q (by omega)
        have skip : ∀ l : Int, p ≤ l * step → l * step < (q / step + 1) * step → ¬ Hits f pg m (l * step) := fun l a b hh => by
          have hl : l < q / step + 1 := Int.lt_of_mul_lt_mul_right b (by omega)
          have hl2 : l * step ≤ q / step * step := Int.mul_le_mul_of_nonneg_right (by omega) (by omega)
          have := hh.2 q (by omega) (by omega)
          rw [s2] at this; cases this
        rcases ih ((q / step + 1) * step) (q / step + 1) rfl (by omega) (by omega) with ⟨a, b⟩ | ⟨k, a, b, c, d'⟩
        · refine .inl ⟨a, fun k hk => ?_⟩
          rcases Int.lt_or_le (k * step) ((q / step + 1) * step) with z | z
          · exact skip k hk z
          · exact b k z
        · refine .inr ⟨k, a, by omega, c, fun l hl hl2 => ?_⟩
          rcases Int.lt_or_le (l * step) ((q / step + 1) * step) with z | z
          · exact skip l hl z
          · exact d' l z hl2
    · rw [if_neg e]
      exact .inl ⟨rfl, fun k hk hh => by have := hh.1; omega⟩
theorem fits_free {pg st m q : Int} {ws : List Int} (h1 : 1 ≤ m) : fitsV pg st q m false ws = true ↔ Hits (freeB pg st ws) pg m q := by
  unfold fitsV Hits freeB
  by_cases e : pg - q < m
  · rw [if_pos e]
    constructor
    · intro h; cases h
    · rintro ⟨h, _⟩; omega
  · rw [if_neg e]
    simp only [Bool.and_true, if_false, Bool.false_eq_true]
    rw [vacBN_iff]
    constructor
    · intro h
      exact ⟨by omega, fun i a b => by have := h i a (by omega); simpa using this⟩
    · rintro ⟨_, h⟩ i a b
      have := h i a (by omega)
      simpa using this
theorem fits_open {pg st m q : Int} {ws : List Int} (hpg : pg ≤ 256) (h0 : 0 ≤ q) (h1 : 1 ≤ m) : fitsV pg st q m true ws = true ↔ Hits (openB pg st ws) pg m q := by
  unfold fitsV Hits openB
  by_cases e : pg - q < m
  · rw [if_pos e]
    constructor
    · intro h; cases h
    · rintro ⟨h, _⟩; omega
  · have ht : thereB pg q m = true := there_iff.2 ⟨h0, h1, by omega⟩
    rw [if_neg e, if_pos rfl, Bool.and_eq_true, vacBN_iff, covers_pages ws ht hpg]
    constructor
    · rintro ⟨h, g⟩
      refine ⟨by omega, fun i a b => ?_⟩
      rw [Bool.and_eq_true]
      refine ⟨?_, by have := h i a (by omega); simpa using this⟩
      have : ofV i = i / 4 := by unfold ofV; rw [if_neg (by omega)]
      rw [this]; exact g i a b
    · rintro ⟨_, h⟩
      refine ⟨fun i a b => ?_, fun i a b => ?_⟩
      · have := (Bool.and_eq_true_iff.1 (h i a (by omega))).2
        simpa using this
      · have := (Bool.and_eq_true_iff.1 (h i a b)).1
        have e2 : ofV i = i / 4 := by unfold ofV; rw [if_neg (by omega)]
        rwa [e2] at this
theorem lloop_true {pg st m step p : Int} {mp : Bool} {zs : List Int} (H : PgIn pg st zs.length) (hz : OkW zs) (h2 : 1 ≤ step)
    (hc : ∀ k : Int, 0 ≤ k * step → ((fitsV pg st (k * step) m true zs && (!mp || decide (k * step < p))) || (fitsV pg st (k * step) m false zs && (decide (p < 0) || (!mp && decide (k * step < p))))) = false) (j : Nat) :
    ∀ (q d : Int) (D : List KV), q = d * step → 0 ≤ q → OnW zs D zs → ∃ D', lloopP pg st m step p mp j q true (allK zs) D = .ok true D' ∧ OnW zs D' zs := by
  induction j with
  | zero => intro q d D _ _ h; exact ⟨D, rfl, h⟩
  | succ j ih =>
    intro q d D hq h0 hA
    unfold lloopP
    by_cases e : q < pg
    · rw [if_pos e]
      have c := hc d (by omega)
      rw [← hq, Bool.or_eq_false_iff] at c
      obtain ⟨D1, e1, A1⟩ := at_flat (flat_fits H q m true) hz hA
      obtain ⟨D2, e2, A2⟩ := at_flat (flat_fits H q m false) hz A1
      have htwo : ltwoP pg st m p mp q (allK zs) D1 = .ok false D2 := by
        unfold ltwoP
        rw [bindP_ok e2]
        cases hb : fitsV pg st q m false zs with
        | false => rfl
        | true =>
          have c2 := c.2
          rw [hb] at c2
          simp only [Bool.true_and] at c2
          rw [if_pos rfl, c2]; rfl
      have hone : loneP pg st m p mp q (allK zs) D = .ok false D2 := by
        unfold loneP
        rw [bindP_ok e1]
        cases ha : fitsV pg st q m true zs with
        | false => exact htwo
        | true =>
          have c1 := c.1
          rw [ha] at c1
          simp only [Bool.true_and] at c1
          unfold ltailP
          rw [if_pos rfl, if_neg (by rw [c1]; simp)]
          exact htwo
      rw [bindP_ok hone]
      exact ih (q + step) (d + 1) D2 (by rw [hq, Int.add_mul]; omega) (by omega) A2
    · rw [if_neg e]; exact ⟨D, rfl, hA⟩
theorem least_true {pg st m step : Int} {zs : List Int} (H : PgIn pg st zs.length) (hz : OkW zs) (h1 : 1 ≤ m) (h2 : 1 ≤ step) : ∃ D, llawP pg st m step (allK zs) [] = .ok true D ∧ OnW zs D zs := by
  have hp1 := H.pg1
  have hp2 := H.pg2
  have A0 : OnW zs [] zs := ⟨invD_nil _, rfl⟩
  obtain ⟨D1, e1, A1⟩ := at_flat (flat_find H m step) hz A0
  have e1 : efindP pg st m step (allK zs) [] = .ok (findV pg st m step zs) D1 := e1
  have A1 : OnW zs D1 zs := A1
  have SO := seek_spec (f := openB pg st zs) (pg := pg) h1 h2 (pg.toNat + 1) 0 0 (by omega) (Int.le_refl _) (by omega)
  have SF := seek_spec (f := freeB pg st zs) (pg := pg) h1 h2 (pg.toNat + 1) 0 0 (by omega) (Int.le_refl _) (by omega)
  have hfo : findV pg st m step zs = if seekV (openB pg st zs) pg m step (pg.toNat + 1) 0 = -1 then seekV (freeB pg st zs) pg m step (pg.toNat + 1) 0 else seekV (openB pg st zs) pg m step (pg.toNat + 1) 0 := by
    unfold findV leastV; rw [if_pos ⟨h1, h2⟩]
  have hO : ∀ k : Int, 0 ≤ k * step → (fitsV pg st (k * step) m true zs = true ↔ Hits (openB pg st zs) pg m (k * step)) := fun k h0 => fits_open hp2 h0 h1
  have hF : ∀ k : Int, (fitsV pg st (k * step) m false zs = true ↔ Hits (freeB pg st zs) pg m (k * step)) := fun k => fits_free h1
  have hno : ∀ b : Bool, b ≠ true → b = false := fun b h => by cases b <;> simp_all
  have hmod : ∀ k : Int, (k * step).tmod step = 0 := fun k => Int.mul_tmod_left k step
  have fin : ∀ (p : Int) (mp r : Bool) (D2 D3 : List KV), findV pg st m step zs = p → lmapP pg st m p (allK zs) D1 = .ok mp D2 → lfreeP pg st m step p (allK zs) D2 = .ok true D3 → OnW zs D3 zs →
      (∀ k : Int, 0 ≤ k * step → ((fitsV pg st (k * step) m true zs && (!mp || decide (k * step < p))) || (fitsV pg st (k * step) m false zs && (decide (p < 0) || (!mp && decide (k * step < p))))) = false) → ∃ D, llawP pg st m step (allK zs) [] = .ok true D ∧ OnW zs D zs := by
    intro p mp r D2 D3 hp a b A3 hc
    obtain ⟨D4, e4, A4⟩ := lloop_true (p := p) (mp := mp) H hz h2 hc pg.toNat 0 0 D3 (by omega) (Int.le_refl _) A3
    refine ⟨D4, ?_, A4⟩
    unfold llawP
    rw [bindP_ok e1, hp, bindP_ok a, bindP_ok b]
    exact e4
  rcases SO with ⟨o1, o2⟩ | ⟨k, o1, o2, o3, o4⟩
  · rw [if_pos o1] at hfo
    rcases SF with ⟨f1, f2⟩ | ⟨k, f1, f2, f3, f4⟩
    · refine fin (-1) false true D1 D1 (hfo.trans f1) rfl rfl A1 (fun k h0 => ?_)
      rw [hno _ (fun q => o2 k h0 ((hO k h0).1 q)), hno _ (fun q => f2 k h0 ((hF k).1 q))]
      rfl
    · obtain ⟨D2, e2, A2⟩ := at_flat (flat_fits H (k * step) m true) hz A1
      obtain ⟨D3, e3, A3⟩ := at_flat (flat_fits H (k * step) m false) hz A2
      rw [hno _ (fun q => o2 k f2 ((hO k f2).1 q))] at e2
      rw [(hF k).2 f3] at e3
      refine fin (k * step) false true D2 D3 (hfo.trans f1) (by unfold lmapP; rw [if_pos f2]; exact e2) (by unfold lfreeP; rw [if_neg (by omega), if_pos (hmod k)]; exact e3) A3 (fun l h0 => ?_)
      rw [hno _ (fun q => o2 l h0 ((hO l h0).1 q))]
      by_cases z : l * step < k * step
      · rw [hno _ (fun q => f4 l h0 z ((hF l).1 q))]; rfl
      · have z1 : decide (l * step < k * step) = false := by simp; omega
        have z2 : decide (k * step < 0) = false := by simp; omega
        rw [z1, z2]; simp
  · have hne : seekV (openB pg st zs) pg m step (pg.toNat + 1) 0 ≠ -1 := by rw [o1]; omega
    rw [if_neg hne] at hfo
    obtain ⟨D2, e2, A2⟩ := at_flat (flat_fits H (k * step) m true) hz A1
    obtain ⟨D3, e3, A3⟩ := at_flat (flat_fits H (k * step) m false) hz A2
    rw [(hO k o2).2 o3] at e2
    have hfr : Hits (freeB pg st zs) pg m (k * step) := ⟨o3.1, fun i a b => (Bool.and_eq_true_iff.1 (o3.2 i a b)).2⟩
    rw [(hF k).2 hfr] at e3
    refine fin (k * step) true true D2 D3 (hfo.trans o1) (by unfold lmapP; rw [if_pos o2]; exact e2) (by unfold lfreeP; rw [if_neg (by omega), if_pos (hmod k)]; exact e3) A3 (fun l h0 => ?_)
    have z2 : decide (k * step < 0) = false := by simp; omega
    rw [z2]
    by_cases z : l * step < k * step
    · rw [hno _ (fun q => o4 l h0 z ((hO l h0).1 q))]; simp
    · have z1 : decide (l * step < k * step) = false := by simp; omega
      rw [z1]; simp
end Go.Proofs.Ytcjnkadmiflgaaa
