/-
  What package plist's functions do, as programs over words.
-/
import Derived.Test.YtogfikemodaepaaDoorExtD
namespace Go.Proofs.YtogfikemodaepaaDoor
set_option linter.unusedVariables false
set_option linter.unusedSimpArgs false
set_option linter.unusedSectionVars false

def nA (pg st p : Int) : Int := tableV st + chunksV pg + 3 * pg + p
def vA (pg st p : Int) : Int := tableV st + chunksV pg + 4 * pg + p
theorem page3 {pg st p : Int} (h : isPage pg p = true) : pageV pg st 3 p = nA pg st p := by unfold pageV nA; rw [if_pos (isPage_iff.1 h)]
theorem page4 {pg st p : Int} (h : isPage pg p = true) : pageV pg st 4 p = vA pg st p := by unfold pageV vA; rw [if_pos (isPage_iff.1 h)]

def plWord (pg x : Int) : Int := if isPage pg (IntKind.i64.wrap (x - 1)) then IntKind.i64.wrap (x - 1) else -1
def plLeadP (pg a : Int) : Prg Int := if a = 0 then pureP (-1) else bindP (readP a) (fun x => pureP (plWord pg x))
def plThrN (pg st p : Int) : Nat → Int → List Int → Prg (List Int × Bool)
  | 0, _, l => pureP (l, false)
  | m + 1, a, l => bindP (plLeadP pg a) (fun q => if q = p then pureP (l, true) else if q = -1 then pureP (l, false) else plThrN pg st p m (nA pg st q) (l ++ [q]))
def plThrP (pg st p c f : Int) : Prg (List Int × Bool) := plThrN pg st p pg.toNat (headV pg st c f) []
def plJoinP (pg st h p q : Int) : Prg Unit := bindP (if p = -1 then writeP h (q + 1) else writeP (nA pg st p) (q + 1)) (fun _ => if q = -1 then pureP () else writeP (vA pg st q) (p + 1))
def plLinkP (pg st p c f : Int) : Prg Bool := if headV pg st c f = 0 then pureP false else if isPage pg p then bindP (plLeadP pg (headV pg st c f)) (fun q => bindP (plJoinP pg st (headV pg st c f) p q) fun _ => bindP (plJoinP pg st (headV pg st c f) (-1) p) fun _ => pureP true) else pureP false
def lastO (l : List Int) : Int := l.getD (l.length - 1) (-1)
def plUnlinkP (pg st p c f : Int) : Prg Bool := if isPage pg p then bindP (plThrP pg st p c f) (fun r => if r.2 then bindP (plLeadP pg (nA pg st p)) (fun q => bindP (plJoinP pg st (headV pg st c f) (lastO r.1) q) fun _ => bindP (writeP (nA pg st p) 0) fun _ => bindP (writeP (vA pg st p) 0) fun _ => pureP true) else pureP false) else pureP false
def plListP (pg st c f : Int) : Prg (List Int) := bindP (plThrP pg st (-1) c f) (fun r => pureP r.1)
def plFirstN (pg st c : Int) : Nat → Int → Prg Int
  | 0, _ => pureP (-1)
  | m + 1, f => bindP (plLeadP pg (headV pg st c f)) (fun q => if q = -1 then plFirstN pg st c m (f + 1) else pureP q)

theorem sound_plLead (pg a : Int) : Sound (plLeadP pg a) := sound_ite (sound_pure _) (sound_bind (sound_read _) (fun _ => sound_pure _))
theorem sound_plThrN (pg st p : Int) (m : Nat) : ∀ a l, Sound (plThrN pg st p m a l) := by
  induction m with
  | zero => intro a l; exact sound_pure _
  | succ m ih => intro a l; exact sound_bind (sound_plLead _ _) (fun _ => sound_ite (sound_pure _) (sound_ite (sound_pure _) (ih _ _)))
theorem sound_plThr (pg st p c f : Int) : Sound (plThrP pg st p c f) := sound_plThrN _ _ _ _ _ _
theorem sound_plJoin (pg st h p q : Int) : Sound (plJoinP pg st h p q) := sound_bind (sound_ite (sound_write _ _) (sound_write _ _)) (fun _ => sound_ite (sound_pure _) (sound_write _ _))
theorem sound_plLink (pg st p c f : Int) : Sound (plLinkP pg st p c f) := sound_ite (sound_pure _) (sound_ite (sound_bind (sound_plLead _ _) (fun _ => sound_bind (sound_plJoin _ _ _ _ _) (fun _ => sound_bind (sound_plJoin _ _ _ _ _) (fun _ => sound_pure _)))) (sound_pure _))
theorem sound_plUnlink (pg st p c f : Int) : Sound (plUnlinkP pg st p c f) := sound_ite (sound_bind (sound_plThr _ _ _ _ _) (fun _ => sound_ite (sound_bind (sound_plLead _ _) (fun _ => sound_bind (sound_plJoin _ _ _ _ _) (fun _ => sound_bind (sound_write _ _) (fun _ => sound_bind (sound_write _ _) (fun _ => sound_pure _))))) (sound_pure _))) (sound_pure _)
theorem sound_plList (pg st c f : Int) : Sound (plListP pg st c f) := sound_bind (sound_plThr _ _ _ _ _) (fun _ => sound_pure _)
theorem sound_plFirstN (pg st c : Int) (m : Nat) : ∀ f, Sound (plFirstN pg st c m f) := by
  induction m with
  | zero => intro f; exact sound_pure _
  | succ m ih => intro f; exact sound_bind (sound_plLead _ _) (fun _ => sound_ite (ih _) (sound_pure _))

/-- The lists' words lie among n words, too. -/
structure HdIn (pg st : Int) (n : Nat) : Prop extends PgIn pg st n where
  top62 : tableV st + chunksV pg + 5 * pg + 62 ≤ n
theorem head_b {pg st c f : Int} {n : Nat} (H : HdIn pg st n) : 0 ≤ headV pg st c f ∧ headV pg st c f < n ∧ W64 (headV pg st c f) := by
  have h1 := H.st1; have h2 := H.st2; have h3 := H.top62; have h4 := H.pg1; have h5 := H.pg2
  have hc : 0 ≤ chunksV pg ∧ chunksV pg ≤ 64 := by unfold chunksV; omega
  have ht : 0 ≤ tableV st := by unfold tableV; omega
  unfold headV
  split
  · rename_i h
    obtain ⟨c0, c4, f1, fs⟩ := h
    have : c = 0 ∨ c = 1 ∨ c = 2 ∨ c = 3 ∨ c = 4 := by omega
    unfold headsV W64 tableV at *
    rcases this with rfl | rfl | rfl | rfl | rfl <;> simp [slotsV, aheadV] at fs ⊢ <;> omega
  · unfold W64; omega
section
variable {pg st : Int} {n : Nat} (H : HdIn pg st n)
include H
theorem nv_b {p : Int} (h : isPage pg p = true) : (4 ≤ nA pg st p ∧ nA pg st p < n ∧ W64 (nA pg st p)) ∧ (4 ≤ vA pg st p ∧ vA pg st p < n ∧ W64 (vA pg st p)) := by
  have h0 := isPage_iff.1 h
  have h1 := H.st1; have h2 := H.st2; have h3 := H.top62; have h4 := H.pg1; have h5 := H.pg2
  unfold nA vA W64
  unfold chunksV tableV at *
  omega
theorem plWord_b (x : Int) : plWord pg x = -1 ∨ isPage pg (plWord pg x) = true := by
  unfold plWord
  split
  · rename_i h; exact .inr h
  · exact .inl rfl
theorem good_plLead {a : Int} (ha : a < n) : Good n (fun q : Int => q = -1 ∨ isPage pg q = true) (plLeadP pg a) :=
  good_ite (fun _ => good_pure n (.inl rfl)) (fun _ => good_bind (good_read n ha) (fun x _ => good_pure n (plWord_b H x)))
theorem good_plThrN {p : Int} (m : Nat) : ∀ (a : Int) (l : List Int), a < n → (∀ x ∈ l, isPage pg x = true) → Good n (fun r : List Int × Bool => (∀ x ∈ r.1, isPage pg x = true) ∧ r.1.length ≤ l.length + m) (plThrN pg st p m a l) := by
  induction m with
  | zero => intro a l _ hl; exact good_pure n ⟨hl, by simp⟩
  | succ m ih =>
    intro a l ha hl
    exact good_bind (good_plLead H ha) (fun q hq => good_ite (fun _ => good_pure n ⟨hl, by simp⟩) (fun _ => good_ite (fun _ => good_pure n ⟨hl, by simp⟩) (fun hne => by
      have hp : isPage pg q = true := hq.resolve_left hne
      exact good_imp (ih _ _ (nv_b H hp).1.2.1 (fun x hx => by
        rcases List.mem_append.1 hx with h | h
        · exact hl x h
        · rw [List.mem_singleton.1 h]; exact hp)) (fun r hr => ⟨hr.1, by have := hr.2; simp at this; omega⟩))))
theorem good_plThr (p c f : Int) : Good n (fun r : List Int × Bool => (∀ x ∈ r.1, isPage pg x = true) ∧ r.1.length ≤ 256) (plThrP pg st p c f) := good_imp (good_plThrN H _ _ _ (head_b H).2.1 (fun x hx => by cases hx)) (fun r hr => ⟨hr.1, by have h1 := hr.2; have h2 := H.pg2; simp only [List.length_nil] at h1; omega⟩)
theorem pageW {q : Int} (hq : q = -1 ∨ isPage pg q = true) : W64 (q + 1) := by
  have h5 := H.pg2
  rcases hq with rfl | h
  · unfold W64; omega
  · have := isPage_iff.1 h; unfold W64; omega
theorem good_plJoin {h p q : Int} (h1 : W64 h) (h2 : h < n) (hp : p = -1 ∨ isPage pg p = true) (hq : q = -1 ∨ isPage pg q = true) : Good n (fun _ => True) (plJoinP pg st h p q) :=
  good_bind (Q := fun _ => True) (good_ite (fun _ => good_write n h1 h2 (pageW H hq)) (fun hne => good_write n (nv_b H (hp.resolve_left hne)).1.2.2 (nv_b H (hp.resolve_left hne)).1.2.1 (pageW H hq)))
    (fun _ _ => good_ite (fun _ => good_pure n trivial) (fun hne => good_write n (nv_b H (hq.resolve_left hne)).2.2.2 (nv_b H (hq.resolve_left hne)).2.2.1 (pageW H hp)))
theorem good_plLink (p c f : Int) : Good n (fun _ => True) (plLinkP pg st p c f) :=
  good_ite (fun _ => good_pure n trivial) (fun _ => good_ite (fun hp => good_bind (good_plLead H (head_b H).2.1) (fun q hq => good_bind (good_plJoin H (head_b H).2.2 (head_b H).2.1 (.inr hp) hq) (fun _ _ => good_bind (good_plJoin H (head_b H).2.2 (head_b H).2.1 (.inl rfl) (.inr hp)) (fun _ _ => good_pure n trivial)))) (fun _ => good_pure n trivial))
theorem lastO_b {l : List Int} (hl : ∀ x ∈ l, isPage pg x = true) : lastO l = -1 ∨ isPage pg (lastO l) = true := by
  unfold lastO
  rcases Nat.eq_zero_or_pos l.length with h | h
  · refine .inl ?_
    rw [List.length_eq_zero_iff.1 h]; rfl
  · refine .inr (hl _ ?_)
    rw [List.getD_eq_getElem?_getD, List.getElem?_eq_getElem (by omega)]
    exact List.getElem_mem _
theorem good_plUnlink (p c f : Int) : Good n (fun _ => True) (plUnlinkP pg st p c f) :=
  good_ite (fun hp => good_bind (good_plThr H _ _ _) (fun r hr => good_ite (fun _ => good_bind (good_plLead H (nv_b H hp).1.2.1) (fun q hq => good_bind (good_plJoin H (head_b H).2.2 (head_b H).2.1 (lastO_b H hr.1) hq) (fun _ _ => good_bind (good_write n (nv_b H hp).1.2.2 (nv_b H hp).1.2.1 (by unfold W64; omega)) (fun _ _ => good_bind (good_write n (nv_b H hp).2.2.2 (nv_b H hp).2.2.1 (by unfold W64; omega)) (fun _ _ => good_pure n trivial))))) (fun _ => good_pure n trivial))) (fun _ => good_pure n trivial)
theorem good_plList (c f : Int) : Good n (fun l : List Int => (∀ x ∈ l, isPage pg x = true) ∧ l.length ≤ 256) (plListP pg st c f) := good_bind (good_plThr H _ _ _) (fun r hr => good_pure n hr)
theorem good_plFirstN (c : Int) (m : Nat) : ∀ f, Good n (fun q : Int => q = -1 ∨ isPage pg q = true) (plFirstN pg st c m f) := by
  induction m with
  | zero => intro f; exact good_pure n (.inl rfl)
  | succ m ih => intro f; exact good_bind (good_plLead H (head_b H).2.1) (fun q hq => good_ite (fun _ => ih _) (fun _ => good_pure n hq))
end
end Go.Proofs.YtogfikemodaepaaDoor
