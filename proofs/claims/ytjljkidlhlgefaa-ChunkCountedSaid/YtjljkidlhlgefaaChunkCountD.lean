/-
  What ChunkCounted's program does over words: its answer is always true.
-/
import Derived.Test.YtjljkidlhlgefaaChunkPlain
namespace Go.Proofs.Ytjljkidlhlgefaa
set_option linter.unusedVariables false
set_option linter.unusedSimpArgs false
set_option linter.unusedSectionVars false

/-- What one act adds. -/
def actP (pg st kind k y : Int) : Prg Int :=
  if kind = 0 then bindP (turnP pg st k 1) (fun x => pureP (if decide (0 < x) then sizeV pg k else 0))
  else if kind = 1 then bindP (turnP pg st k 0) (fun x => pureP (if decide (0 < x) then -sizeV pg k else 0))
  else ensureP pg st k y
/-- A step: counted, done, counted. -/
def stepP (pg st kind k y : Int) (right : Bool) : Prg Bool :=
  bindP (countP pg st) (fun was => bindP (actP pg st kind k y) (fun by' =>
    if right then bindP (countP pg st) (fun now => pureP (decide (now = was + by'))) else pureP false))
def stepsP (pg st : Int) : List Ins3 → Bool → Prg Bool
  | [], right => pureP right
  | (kind, k, y) :: l, right => bindP (stepP pg st kind k y right) (fun r => stepsP pg st l r)
def endP (pg st x y : Int) (right : Bool) : Prg Bool :=
  bindP (ensureP pg st x y) (fun _ =>
    if right then bindP (coversP pg st x y) (fun b => if b = thereB pg x y then bindP (ensureP pg st x y) (fun z => pureP (decide (z = 0))) else pureP false) else pureP false)
def countedP (pg st : Int) (l : List Ins3) (x y : Int) : Prg Bool := bindP (stepsP pg st l true) (fun r => endP pg st x y r)

theorem sound_act (pg st kind k y : Int) : Sound (actP pg st kind k y) :=
  sound_ite (sound_bind (sound_turn _ _ _ _) (fun _ => sound_pure _)) (sound_ite (sound_bind (sound_turn _ _ _ _) (fun _ => sound_pure _)) (sound_ensure _ _ _ _))
theorem sound_step (pg st kind k y : Int) (r : Bool) : Sound (stepP pg st kind k y r) :=
  sound_bind (sound_count _ _) (fun _ => sound_bind (sound_act _ _ _ _ _) (fun _ => sound_ite (sound_bind (sound_count _ _) (fun _ => sound_pure _)) (sound_pure _)))
theorem sound_steps (pg st : Int) (l : List Ins3) : ∀ r, Sound (stepsP pg st l r) := by
  induction l with
  | nil => intro r; exact sound_pure _
  | cons i l ih => intro r; exact sound_bind (sound_step _ _ _ _ _ _) (fun r => ih r)
theorem sound_end (pg st x y : Int) (r : Bool) : Sound (endP pg st x y r) :=
  sound_bind (sound_ensure _ _ _ _) (fun _ => sound_ite (sound_bind (sound_covers _ _ _ _) (fun _ => sound_ite (sound_bind (sound_ensure _ _ _ _) (fun _ => sound_pure _)) (sound_pure _))) (sound_pure _))
theorem sound_counted (pg st : Int) (l : List Ins3) (x y : Int) : Sound (countedP pg st l x y) := sound_bind (sound_steps _ _ _ _) (fun r => sound_end _ _ _ _ r)
section
variable {pg st : Int} {n : Nat} (H : TblIn pg st n)
include H
theorem good_act (kind k y : Int) : Good n (fun _ => True) (actP pg st kind k y) := by
  unfold actP
  split
  · exact good_bind (good_turn H k 1 (by unfold W64; omega)) (fun x _ => good_pure n trivial)
  split
  · exact good_bind (good_turn H k 0 (by unfold W64; omega)) (fun x _ => good_pure n trivial)
  · exact good_ensure H k y
theorem good_step (kind k y : Int) (r : Bool) : Good n (fun _ => True) (stepP pg st kind k y r) :=
  good_bind (good_count H) (fun _ _ => good_bind (good_act H kind k y) (fun _ _ => by
    split
    · exact good_bind (good_count H) (fun _ _ => good_pure n trivial)
    · exact good_pure n trivial))
theorem good_steps (l : List Ins3) : ∀ r, Good n (fun _ => True) (stepsP pg st l r) := by
  induction l with
  | nil => intro r; exact good_pure n trivial
  | cons i l ih => intro r; exact good_bind (good_step H _ _ _ _) (fun r _ => ih r)
theorem good_end (x y : Int) (r : Bool) : Good n (fun _ => True) (endP pg st x y r) :=
  good_bind (good_ensure H x y) (fun _ _ => by
    split
    · exact good_bind (good_covers H x y) (fun _ _ => by
        split
        · exact good_bind (good_ensure H x y) (fun _ _ => good_pure n trivial)
        · exact good_pure n trivial)
    · exact good_pure n trivial)
theorem good_counted (l : List Ins3) (x y : Int) : Good n (fun _ => True) (countedP pg st l x y) := good_bind (good_steps H l true) (fun r _ => good_end H x y r)

/-- Ensured is covered, and ensured. -/
theorem covers_ensured (x y : Int) (ws : List Int) (hn : ws.length = n) : coversW pg st x y (ensureW pg st x y ws).2 = thereB pg x y := by
  cases h : thereB pg x y with
  | false => unfold coversW; rw [h]; rfl
  | true =>
    unfold coversW
    rw [if_pos h, coversV_iff]
    intro i hi
    have h2 := ones_ensure H (spanV x y) (x / 4) 0 ws ws (fun _ => False) hn (ones_refl ws _ (fun _ q => q)) (fun i hi => span_in h i hi)
    have hc := span_in h i hi
    obtain ⟨t0, t1, t2⟩ := tbl_b H hc
    unfold mappedV
    rw [hc]
    have := (h2.eq (tblV pg st (x / 4 + i)) (by omega)).1 (.inr ⟨i, hi, rfl⟩)
    unfold ensureW
    rw [if_pos h, this]
    rfl
end

/-- Over any words of that number: how they were, what it answers, how they are then. -/
def Tells {α : Type} (n : Nat) (p : Prg α) (R : List Int → α → List Int → Prop) : Prop := ∀ zs D, zs.length = n → OkW zs → InvD n D → ∃ x D', p (allK zs) D = .ok x D' ∧ InvD n D' ∧ R (applyD zs D) x (applyD zs D')
theorem tells_flat {α : Type} {n : Nat} {p : Prg α} {g : List Int → α × List Int} (h : Flat n p g) : Tells n p (fun ws x ws' => ws.length = n ∧ x = (g ws).1 ∧ ws' = (g ws).2) := fun zs D hn hz hD => by
  obtain ⟨D', e, a, i⟩ := h zs D hn hz hD
  exact ⟨_, D', e, i, by rw [applyD_len]; exact hn, rfl, a⟩
theorem tells_pure {α : Type} (n : Nat) (x : α) : Tells n (pureP x) (fun ws y ws' => y = x ∧ ws' = ws) := fun zs D hn hz hD => ⟨x, D, rfl, hD, rfl, rfl⟩
theorem tells_bind {α β : Type} {n : Nat} {p : Prg α} {f : α → Prg β} {R : List Int → α → List Int → Prop} {R' : α → List Int → β → List Int → Prop} (h : Tells n p R) (hf : ∀ x, Tells n (f x) (R' x)) : Tells n (bindP p f) (fun ws y ws2 => ∃ x ws1, R ws x ws1 ∧ R' x ws1 y ws2) := fun zs D hn hz hD => by
  obtain ⟨x, D1, e1, i1, r1⟩ := h zs D hn hz hD
  obtain ⟨y, D2, e2, i2, r2⟩ := hf x zs D1 hn hz i1
  exact ⟨y, D2, by rw [bindP_ok e1]; exact e2, i2, x, _, r1, r2⟩
theorem tells_imp {α : Type} {n : Nat} {p : Prg α} {R R' : List Int → α → List Int → Prop} (h : Tells n p R) (g : ∀ ws x ws', R ws x ws' → R' ws x ws') : Tells n p R' := fun zs D hn hz hD => by
  obtain ⟨x, D1, e1, i1, r1⟩ := h zs D hn hz hD
  exact ⟨x, D1, e1, i1, g _ _ _ r1⟩
section
variable {pg st : Int} {n : Nat} (H : TblIn pg st n)
include H
theorem turn_is (k x : Int) (ws : List Int) : (if decide (0 < (turnV pg st k x ws).1) then sizeV pg k else 0) = (turnV pg st k x ws).1 := by
  unfold turnV
  split
  · rename_i hk
    have := size_1 hk
    split
    · rfl
    · show (if decide (0 < sizeV pg k) then sizeV pg k else 0) = sizeV pg k
      rw [if_pos (by simp; omega)]
  · rfl
theorem tells_act (kind k y : Int) : Tells n (actP pg st kind k y) (fun ws x ws' => countW pg st ws' = countW pg st ws + x) := by
  unfold actP
  split
  · refine tells_imp (tells_bind (tells_flat (flat_turn H k 1 (by unfold W64; omega))) (fun x => tells_pure n _)) ?_
    rintro ws z ws' ⟨x, ws1, ⟨hl, rfl, rfl⟩, rfl, rfl⟩
    rw [turn_is H, count_on H hl]
  split
  · refine tells_imp (tells_bind (tells_flat (flat_turn H k 0 (by unfold W64; omega))) (fun x => tells_pure n _)) ?_
    rintro ws z ws' ⟨x, ws1, ⟨hl, rfl, rfl⟩, rfl, rfl⟩
    have h1 := turn_is H k 0 ws
    rw [count_off H hl]
    split
    · rename_i q; rw [if_pos q] at h1; omega
    · rename_i q; rw [if_neg q] at h1; omega
  · refine tells_imp (tells_flat (flat_ensure H k y)) ?_
    rintro ws z ws' ⟨hl, rfl, rfl⟩
    exact count_ensure H k y ws hl
theorem tells_step (kind k y : Int) : Tells n (stepP pg st kind k y true) (fun _ x _ => x = true) := by
  unfold stepP
  refine tells_imp (tells_bind (tells_flat (flat_count H)) (fun was => tells_bind (tells_act H kind k y) (fun by' => tells_bind (tells_flat (flat_count H)) (fun now => tells_pure n _)))) ?_
  rintro ws z ws' ⟨was, ws1, ⟨_, rfl, rfl⟩, by', ws2, h2, now, ws3, ⟨_, rfl, rfl⟩, rfl, rfl⟩
  simp only [decide_eq_true_eq]
  exact h2
theorem tells_steps (l : List Ins3) : Tells n (stepsP pg st l true) (fun _ x _ => x = true) := by
  induction l with
  | nil => exact tells_imp (tells_pure n true) (fun _ _ _ h => h.1)
  | cons i l ih =>
    intro zs D hn hz hD
    obtain ⟨x, D1, e1, i1, rfl⟩ := tells_step H i.1 i.2.1 i.2.2 zs D hn hz hD
    obtain ⟨y, D2, e2, i2, r2⟩ := ih zs D1 hn hz i1
    exact ⟨y, D2, by show bindP _ _ _ _ = _; rw [bindP_ok e1]; exact e2, i2, r2⟩
theorem tells_end (x y : Int) : Tells n (endP pg st x y true) (fun _ z _ => z = true) := by
  intro zs D hn hz hD
  obtain ⟨x1, D1, e1, i1, hl, rfl, r1⟩ := tells_flat (flat_ensure H x y) zs D hn hz hD
  obtain ⟨x2, D2, e2, i2, hl2, rfl, r2⟩ := tells_flat (flat_covers H x y) zs D1 hn hz i1
  obtain ⟨x3, D3, e3, i3, hl3, h3, r3⟩ := tells_flat (flat_ensure H x y) zs D2 hn hz i2
  have hc : coversW pg st x y (applyD zs D1) = thereB pg x y := by rw [r1]; exact covers_ensured H x y _ hl
  have h0 : x3 = 0 := by
    rw [h3, r2]
    show (ensureW pg st x y (applyD zs D1)).1 = 0
    have c1 := count_ensure H x y (applyD zs D1) hl2
    have hE : (ensureW pg st x y (applyD zs D1)).2 = applyD zs D1 := by
      rw [r1]
      cases h : thereB pg x y with
      | false => unfold ensureW; rw [h]; rfl
      | true =>
        have a1 := ones_ensure H (spanV x y) (x / 4) 0 _ _ (fun _ => False) hl (ones_refl (applyD zs D) _ (fun _ q => q)) (fun i hi => span_in h i hi)
        have a2 := ones_ensure H (spanV x y) (x / 4) 0 _ _ _ hl a1 (fun i hi => span_in h i hi)
        have hE : ∀ a, ensureW pg st x y a = ensureV pg st (spanV x y) (x / 4) 0 a := fun a => by unfold ensureW; rw [if_pos h]
        rw [hE, hE]
        exact a2.uniq a1 (fun i => by simp)
    rw [hE] at c1
    omega
  refine ⟨true, D3, ?_, i3, rfl⟩
  unfold endP
  rw [bindP_ok e1]
  show bindP (coversP pg st x y) _ _ _ = _
  rw [bindP_ok e2, if_pos hc, bindP_ok e3, h0]
  rfl
theorem tells_counted (l : List Ins3) (x y : Int) : Tells n (countedP pg st l x y) (fun _ z _ => z = true) := by
  intro zs D hn hz hD
  obtain ⟨z, D1, e1, i1, rfl⟩ := tells_steps H l zs D hn hz hD
  obtain ⟨z, D2, e2, i2, rfl⟩ := tells_end H x y zs D1 hn hz i1
  exact ⟨true, D2, by unfold countedP; rw [bindP_ok e1]; exact e2, i2, rfl⟩
/-- However much is known: where it comes to its end, it has answered true. -/
theorem counted_do (l : List Ins3) (x y : Int) (zs : List Int) (hn : zs.length = n) (hz : OkW zs) : ∃ ws K, doP (fun K => ranOf (countedP pg st l x y (look K) [])) zs (zs.length + 1) [] = some (ws, K) ∧ ∀ K, OkKn zs K → ∀ z D, countedP pg st l x y (look K) [] = .ok z D → z = true := by
  subst hn
  obtain ⟨z, D, e, i, rfl⟩ := tells_counted H l x y zs [] rfl hz (invD_nil _)
  obtain ⟨K, hK, hd⟩ := doP_run (sound_counted pg st l x y) (good_counted H l x y) hz e (zs.length + 1) [] (okKn_nil zs) (by simp)
  exact ⟨_, K, hd, fun K hK y D' h => (sound_same (sound_counted pg st l _ _) hK e h).1⟩
end
end Go.Proofs.Ytjljkidlhlgefaa
