/-
  The model of an allocator, in plain words: live blocks in order, and the user words.
-/
import Derived.Test.YtahejbahnhohcaaDoorMdS
import Derived.Test.YtahejbahnhohcaaDoorMbCopy
import Derived.Test.YtahejbahnhohcaaDoorCmFit
namespace Go.Proofs.YtahejbahnhohcaaDoor
open Go.RowKit Go.Sort
set_option linter.unusedVariables false
set_option linter.unusedSimpArgs false

def Cfg.us (c : Cfg) : Int := userV c.cp c.pg c.st c.ca c.bi
theorem us_b {c : Cfg} (R : c.Ok) : 128 ≤ c.us ∧ c.us ≤ 10240 ∧ c.words = c.us + 32 * c.pg ∧ 1 ≤ c.pg ∧ c.pg ≤ 256 := by
  have h := userB R
  exact ⟨h.1, h.2.1, rfl, R.pg1, R.pg2⟩
/-- Live blocks: they do not meet, and lie among the user words. -/
structure Bk (us wd : Int) (D : List BKV) : Prop where
  part : D.Pairwise (fun p q => p.1 + p.2.2 ≤ q.1)
  mem : ∀ p ∈ D, us ≤ p.1 ∧ 1 ≤ p.2.2 ∧ p.1 + p.2.2 ≤ wd ∧ 0 ≤ p.2.1 ∧ p.2.1 ≤ p.2.2
theorem Bk.nil (us wd : Int) : Bk us wd [] := ⟨List.Pairwise.nil, by simp⟩
theorem Bk.asc {us wd : Int} {D : List BKV} (h : Bk us wd D) : BAsc D := by
  have hm := h.mem
  have hp := h.part
  clear h
  unfold BAsc
  induction D with
  | nil => exact List.Pairwise.nil
  | cons p D ih =>
    have hc := List.pairwise_cons.1 hp
    refine List.pairwise_cons.2 ⟨fun q hq => ?_, ih (fun q hq => hm q (by simp [hq])) hc.2⟩
    have h1 := hc.1 q hq
    have h2 := hm p (by simp)
    omega
/-- How many blocks end ahead of a word. -/
def firstM (D : List BKV) (a : Int) : Nat := D.countP (fun p => decide (p.1 + p.2.2 ≤ a))
theorem firstM_le (D : List BKV) (a : Int) : firstM D a ≤ D.length := List.countP_le_length
theorem first_iff {us wd : Int} {D : List BKV} (h : Bk us wd D) (a : Int) {i : Nat} {p : BKV} (hi : D[i]? = some p) : p.1 + p.2.2 ≤ a ↔ i < firstM D a := by
  have hp := h.part
  have hm := h.mem
  clear h
  induction D generalizing i with
  | nil => cases hi
  | cons q D ih =>
    have hc := List.pairwise_cons.1 hp
    have hrest : ∀ x ∈ D, q.1 + q.2.2 ≤ x.1 + x.2.2 := fun x hx => by have := hc.1 x hx; have := hm x (by simp [hx]); omega
    have hz : ¬ q.1 + q.2.2 ≤ a → D.countP (fun p => decide (p.1 + p.2.2 ≤ a)) = 0 := fun hq => List.countP_eq_zero.2 fun x hx => by have := hrest x hx; simp; omega
    cases i with
    | zero =>
      simp at hi; subst hi
      unfold firstM
      rw [List.countP_cons]
      by_cases hq : q.1 + q.2.2 ≤ a
      · simp [hq]
      · simp [hq, hz hq]
    | succ i =>
      simp at hi
      have := ih hi hc.2 (fun x hx => hm x (by simp [hx]))
      unfold firstM at this ⊢
      rw [List.countP_cons]
      by_cases hq : q.1 + q.2.2 ≤ a
      · simp [hq]; exact this
      · have hx := hrest p (List.mem_of_getElem? hi)
        simp [hq, hz hq]; omega
/-- The live block that has a word. -/
def blockM (D : List BKV) (a : Int) : Option BKV := (D[firstM D a]?).filter (fun p => decide (p.1 ≤ a))
theorem blockM_some {us wd : Int} {D : List BKV} (h : Bk us wd D) {a : Int} {p : BKV} (hb : blockM D a = some p) : p ∈ D ∧ p.1 ≤ a ∧ a < p.1 + p.2.2 := by
  unfold blockM at hb
  cases e : D[firstM D a]? with
  | none => rw [e] at hb; simp at hb
  | some q =>
    rw [e] at hb
    simp only [Option.filter_some] at hb
    split at hb
    · rename_i hq
      cases hb
      have := first_iff h a e
      simp at hq
      exact ⟨List.mem_of_getElem? e, hq, by omega⟩
    · cases hb
theorem blockM_of {us wd : Int} {D : List BKV} (h : Bk us wd D) {a : Int} {p : BKV} (hp : p ∈ D) (h1 : p.1 ≤ a) (h2 : a < p.1 + p.2.2) : blockM D a = some p := by
  obtain ⟨i, hi⟩ := List.mem_iff_getElem?.1 hp
  have e : firstM D a = i := by
    have k1 := first_iff h a hi
    have hl := (List.getElem?_eq_some_iff.1 hi).1
    rcases Nat.lt_trichotomy (firstM D a) i with q | q | q
    · obtain ⟨x, hx⟩ : ∃ x, D[firstM D a]? = some x := ⟨_, List.getElem?_eq_getElem (by omega)⟩
      have k2 := first_iff h a hx
      have := (List.pairwise_iff_getElem.1 h.part) (firstM D a) i (by omega) hl q
      rw [List.getElem?_eq_getElem (by omega)] at hx hi
      cases hx; cases hi
      omega
    · exact q
    · omega
  unfold blockM
  rw [e, hi]
  simp [h1]
/-- Are words there, and of no live block? -/
def openM (us wd : Int) (D : List BKV) (a n : Int) : Bool :=
  if n < 1 ∨ a < us ∨ wd - a < n then false else match D[firstM D a]? with | none => true | some p => decide (a + n ≤ p.1)
/-- A new block in its place. -/
theorem Bk.put {us wd : Int} {D : List BKV} (h : Bk us wd D) {a n k : Int} (ho : openM us wd D a n = true) (h0 : 0 ≤ k) (h1 : k ≤ n) : Bk us wd (b_putD D a (k, n)) ∧ b_look D a = none := by
  unfold openM at ho
  split at ho
  · cases ho
  rename_i hb
  have hlo : ∀ p ∈ D, p.1 + p.2.2 ≤ a ∨ a + n ≤ p.1 := by
    intro p hp
    obtain ⟨i, hi⟩ := List.mem_iff_getElem?.1 hp
    have k1 := first_iff h a hi
    by_cases q : i < firstM D a
    · exact .inl (k1.2 q)
    · right
      have hl := (List.getElem?_eq_some_iff.1 hi).1
      obtain ⟨x, hx⟩ : ∃ x, D[firstM D a]? = some x := ⟨_, List.getElem?_eq_getElem (by omega)⟩
      rw [hx] at ho
      simp at ho
      by_cases e : firstM D a = i
      · rw [e, hi] at hx; cases hx; exact ho
      · have := (List.pairwise_iff_getElem.1 h.part) (firstM D a) i (by omega) hl (by omega)
        have hm := h.mem x (List.mem_of_getElem? hx)
        rw [List.getElem?_eq_getElem (by omega)] at hx hi
        rw [Option.some.inj hx, Option.some.inj hi] at this
        omega
  have hnone : b_look D a = none := b_look_none fun p hp e => by
    have := hlo p hp; have := h.mem p hp; omega
  refine ⟨⟨?_, ?_⟩, hnone⟩
  · obtain ⟨A, B, rfl, _, ha, hb2⟩ := h.asc.without hnone
    rw [b_putD_new ha hb2]
    have hp := h.part
    rw [List.pairwise_append] at hp ⊢
    refine ⟨hp.1, List.pairwise_cons.2 ⟨fun q hq => ?_, hp.2.1⟩, fun p hp' q hq => ?_⟩
    · have h3 := hb2 q hq
      have h4 := hlo q (by simp [hq])
      have h5 := h.mem q (by simp [hq])
      simp only; omega
    · rcases List.mem_cons.1 hq with rfl | hq
      · have h3 := ha p hp'
        have h4 := hlo p (by simp [hp'])
        simp only; omega
      · exact hp.2.2 p hp' q hq
  · intro p hp
    have : p ∈ D ∨ p = (a, (k, n)) := by
      obtain ⟨A, B, rfl, _, ha, hb2⟩ := h.asc.without hnone
      rw [b_putD_new ha hb2] at hp
      simp at hp ⊢
      rcases hp with q | q | q
      · exact .inl (.inl q)
      · exact .inr q
      · exact .inl (.inr q)
    rcases this with q | rfl
    · exact h.mem p q
    · simp only; omega
theorem Bk.cut {us wd : Int} {D : List BKV} (h : Bk us wd D) (a : Int) : Bk us wd (b_cutD D a) := by
  unfold b_cutD
  exact ⟨List.Pairwise.filter _ h.part, fun p hp => h.mem p (List.mem_filter.1 hp).1⟩
/-- Of another number that was asked for. -/
theorem Bk.ask {us wd : Int} {D : List BKV} (h : Bk us wd D) {a k n : Int} (hl : ∃ x, b_look D a = some (x, n)) (h0 : 0 ≤ k) (h1 : k ≤ n) : Bk us wd (b_putD D a (k, n)) := by
  obtain ⟨x, hx⟩ := hl
  obtain ⟨A, B, rfl, _, ha, hb⟩ := h.asc.with hx
  rw [b_putD_old ha hb]
  have hp := h.part
  rw [List.pairwise_append] at hp
  have hc := List.pairwise_cons.1 hp.2.1
  refine ⟨List.pairwise_append.2 ⟨hp.1, List.pairwise_cons.2 ⟨fun q hq => hc.1 q hq, hc.2⟩, fun p hp' q hq => ?_⟩, fun p hp' => ?_⟩
  · rcases List.mem_cons.1 hq with rfl | hq
    · exact hp.2.2 p hp' (a, (x, n)) (by simp)
    · exact hp.2.2 p hp' q (by simp [hq])
  · simp at hp'
    rcases hp' with q | rfl | q
    · exact h.mem p (by simp [q])
    · have := h.mem (a, (x, n)) (by simp)
      simp only at this ⊢; omega
    · exact h.mem p (by simp [q])
theorem Bk.many {us wd : Int} {D : List BKV} (h : Bk us wd D) : (D.length : Int) ≤ max 0 (wd - us) := by
  have key : ∀ (L : List BKV) (lo : Int), (∀ p ∈ L, lo ≤ p.1 ∧ 1 ≤ p.2.2 ∧ p.1 + p.2.2 ≤ wd) → L.Pairwise (fun p q => p.1 + p.2.2 ≤ q.1) → (L.length : Int) ≤ max 0 (wd - lo) := by
    intro L
    induction L with
    | nil => intro lo _ _; simp; omega
    | cons p L ih =>
      intro lo hm hp
      have hc := List.pairwise_cons.1 hp
      have h1 := hm p (by simp)
      have := ih (lo + 1) (fun q hq => by have := hm q (by simp [hq]); have := hc.1 q hq; omega) hc.2
      rw [List.length_cons]
      omega
  exact key D us (fun p hp => by have := h.mem p hp; omega) h.part
end Go.Proofs.YtahejbahnhohcaaDoor
