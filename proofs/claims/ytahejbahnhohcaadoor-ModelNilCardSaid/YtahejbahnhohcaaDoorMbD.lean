/-
  Things by numbers, in order, as lists: what a key has, what put and cut make of a list that rises, and of one without an order.
-/
import Derived.Lib.Hide
namespace Go.Proofs.YtahejbahnhohcaaDoor
set_option linter.unusedVariables false
set_option linter.unusedSimpArgs false

abbrev BKV := Int × (Int × Int)
def b_keysOf (D : List BKV) : List Int := D.map (·.1)
def b_valsOf (D : List BKV) : List (Int × Int) := D.map (·.2)
/-- The keys rise. -/
def BAsc (D : List BKV) : Prop := D.Pairwise (fun a b => a.1 < b.1)
/-- No key twice. -/
def BOnce (D : List BKV) : Prop := D.Pairwise (fun a b => a.1 ≠ b.1)
/-- What a key has. -/
def b_look (D : List BKV) (k : Int) : Option (Int × Int) := (D.find? (fun p => p.1 == k)).map (·.2)
/-- How many keys are b_less. -/
def b_pos (D : List BKV) (k : Int) : Nat := D.countP (fun p => decide (p.1 < k))
def b_less (D : List BKV) (k : Int) : List BKV := D.filter (fun p => decide (p.1 < k))
def b_more (D : List BKV) (k : Int) : List BKV := D.filter (fun p => decide (k < p.1))
def b_putD (D : List BKV) (k : Int) (v : Int × Int) : List BKV := b_less D k ++ (k, v) :: b_more D k
def b_cutD (D : List BKV) (k : Int) : List BKV := D.filter (fun p => decide (p.1 ≠ k))

theorem BAsc.once {D : List BKV} (h : BAsc D) : BOnce D := by
  unfold BAsc at h
  unfold BOnce
  exact h.imp (fun {a b} q => by omega)
theorem b_asc_nil : BAsc [] := List.Pairwise.nil
theorem b_once_nil : BOnce [] := List.Pairwise.nil

@[simp] theorem look_nil (k : Int) : b_look [] k = none := rfl
theorem b_look_cons (p : BKV) (D : List BKV) (k : Int) : b_look (p :: D) k = if p.1 = k then some p.2 else b_look D k := by
  unfold b_look
  rw [List.find?_cons]
  by_cases h : p.1 = k
  · simp [h]
  · have : (p.1 == k) = false := by simpa using h
    simp [this, h]
theorem b_look_append (A B : List BKV) (k : Int) : b_look (A ++ B) k = (b_look A k).or (b_look B k) := by
  induction A with
  | nil => simp
  | cons p A ih => rw [List.cons_append, b_look_cons, b_look_cons]; split <;> simp [ih]
theorem b_look_none {D : List BKV} {k : Int} (h : ∀ p ∈ D, p.1 ≠ k) : b_look D k = none := by
  induction D with
  | nil => rfl
  | cons p D ih => rw [b_look_cons, if_neg (h p (by simp))]; exact ih fun q hq => h q (by simp [hq])
theorem b_look_none_iff {D : List BKV} {k : Int} : b_look D k = none ↔ ∀ p ∈ D, p.1 ≠ k := by
  refine ⟨fun h => ?_, b_look_none⟩
  induction D with
  | nil => simp
  | cons p D ih =>
    rw [b_look_cons] at h
    split at h
    · cases h
    · intro q hq
      rcases List.mem_cons.1 hq with rfl | hq
      · assumption
      · exact ih h q hq
theorem b_look_mem {D : List BKV} {k : Int} {v : Int × Int} (h : b_look D k = some v) : (k, v) ∈ D := by
  induction D with
  | nil => cases h
  | cons p D ih =>
    rw [b_look_cons] at h
    split at h
    · rename_i e
      subst e; cases h; simp
    · exact List.mem_cons_of_mem _ (ih h)
theorem b_look_of_mem {D : List BKV} (hD : BOnce D) {k : Int} {v : Int × Int} (h : (k, v) ∈ D) : b_look D k = some v := by
  induction D with
  | nil => cases h
  | cons p D ih =>
    have hc := List.pairwise_cons.1 hD
    rw [b_look_cons]
    rcases List.mem_cons.1 h with rfl | h
    · simp
    · rw [if_neg (hc.1 _ h)]; exact ih hc.2 h

/-- A list that rises, parted at a key. -/
theorem BAsc.part {D : List BKV} (h : BAsc D) (k : Int) : ∃ A B, D = A ++ B ∧ A.length = b_pos D k ∧ (∀ p ∈ A, p.1 < k) ∧ (∀ p ∈ B, k ≤ p.1) := by
  induction D with
  | nil => exact ⟨[], [], rfl, rfl, by simp, by simp⟩
  | cons p D ih =>
    have hc := List.pairwise_cons.1 h
    by_cases hp : p.1 < k
    · obtain ⟨A, B, e, hl, ha, hb⟩ := ih hc.2
      refine ⟨p :: A, B, by rw [e]; rfl, ?_, ?_, hb⟩
      · simp [b_pos, List.countP_cons, hp] at hl ⊢; exact hl
      · intro q hq
        rcases List.mem_cons.1 hq with rfl | hq
        · exact hp
        · exact ha q hq
    · refine ⟨[], p :: D, rfl, ?_, by simp, ?_⟩
      · unfold b_pos
        rw [List.length_nil, eq_comm, List.countP_eq_zero]
        intro q hq
        rcases List.mem_cons.1 hq with rfl | hq
        · simpa using hp
        · have := hc.1 q hq; simp; omega
      · intro q hq
        rcases List.mem_cons.1 hq with rfl | hq
        · omega
        · have := hc.1 q hq; omega
/-- .. a key that is not there. -/
theorem BAsc.without {D : List BKV} (h : BAsc D) {k : Int} (hk : b_look D k = none) : ∃ A B, D = A ++ B ∧ A.length = b_pos D k ∧ (∀ p ∈ A, p.1 < k) ∧ (∀ p ∈ B, k < p.1) := by
  obtain ⟨A, B, e, hl, ha, hb⟩ := h.part k
  refine ⟨A, B, e, hl, ha, fun p hp => ?_⟩
  have h1 := hb p hp
  have h2 := b_look_none_iff.1 hk p (by rw [e]; simp [hp])
  omega
/-- .. a key that is there. -/
theorem BAsc.with {D : List BKV} (h : BAsc D) {k : Int} {v : Int × Int} (hk : b_look D k = some v) : ∃ A B, D = A ++ (k, v) :: B ∧ A.length = b_pos D k ∧ (∀ p ∈ A, p.1 < k) ∧ (∀ p ∈ B, k < p.1) := by
  obtain ⟨A, B, e, hl, ha, hb⟩ := h.part k
  have hm : (k, v) ∈ B := by
    have := b_look_mem hk
    rw [e, List.mem_append] at this
    rcases this with q | q
    · have := ha _ q; simp at this
    · exact q
  have hB : BAsc B := by unfold BAsc at h; rw [e, List.pairwise_append] at h; exact h.2.1
  match B, hB, hm, hb, e with
  | p :: B, hB, hm, hb, e =>
    have hc := List.pairwise_cons.1 hB
    have hp : p = (k, v) := by
      rcases List.mem_cons.1 hm with q | q
      · exact q.symm
      · have h1 := hc.1 _ q
        have h2 := hb p (by simp)
        simp at h1
        omega
    subst hp
    exact ⟨A, B, e, hl, ha, fun q hq => hc.1 q hq⟩

theorem b_pos_le (D : List BKV) (k : Int) : b_pos D k ≤ D.length := List.countP_le_length
theorem b_filter_all {D : List BKV} {f : BKV → Bool} (h : ∀ p ∈ D, f p = true) : D.filter f = D := List.filter_eq_self.2 h
theorem b_filter_none {D : List BKV} {f : BKV → Bool} (h : ∀ p ∈ D, f p = false) : D.filter f = [] := List.filter_eq_nil_iff.2 fun p hp => by rw [h p hp]; simp
theorem b_less_parts {A B : List BKV} {k : Int} (ha : ∀ p ∈ A, p.1 < k) (hb : ∀ p ∈ B, k ≤ p.1) : b_less (A ++ B) k = A := by
  unfold b_less
  rw [List.filter_append, b_filter_all (fun p hp => by simpa using ha p hp), b_filter_none (fun p hp => by have := hb p hp; simp; omega), List.append_nil]
theorem b_more_parts {A B : List BKV} {k : Int} (ha : ∀ p ∈ A, p.1 ≤ k) (hb : ∀ p ∈ B, k < p.1) : b_more (A ++ B) k = B := by
  unfold b_more
  rw [List.filter_append, b_filter_none (D := A) (fun p hp => by have := ha p hp; simp; omega), b_filter_all (D := B) (fun p hp => by simpa using hb p hp), List.nil_append]
theorem b_putD_new {A B : List BKV} {k : Int} (ha : ∀ p ∈ A, p.1 < k) (hb : ∀ p ∈ B, k < p.1) (v : Int × Int) : b_putD (A ++ B) k v = A ++ (k, v) :: B := by
  unfold b_putD
  rw [b_less_parts ha (fun p hp => by have := hb p hp; omega), b_more_parts (fun p hp => by have := ha p hp; omega) hb]
theorem b_putD_old {A B : List BKV} {k : Int} {u : Int × Int} (ha : ∀ p ∈ A, p.1 < k) (hb : ∀ p ∈ B, k < p.1) (v : Int × Int) : b_putD (A ++ (k, u) :: B) k v = A ++ (k, v) :: B := by
  unfold b_putD
  rw [b_less_parts ha (fun p hp => (List.mem_cons.1 hp).elim (fun e => by rw [e]; exact Int.le_refl _) (fun q => by have := hb p q; omega))]
  rw [show A ++ (k, u) :: B = (A ++ [(k, u)]) ++ B by simp, b_more_parts (fun p hp => by
    rcases List.mem_append.1 hp with q | q
    · have := ha p q; omega
    · simp at q; rw [q]; exact Int.le_refl _) hb]
theorem b_cutD_old {A B : List BKV} {k : Int} {u : Int × Int} (ha : ∀ p ∈ A, p.1 < k) (hb : ∀ p ∈ B, k < p.1) : b_cutD (A ++ (k, u) :: B) k = A ++ B := by
  unfold b_cutD
  rw [List.filter_append, List.filter_cons, if_neg (by simp), b_filter_all (fun p hp => by have := ha p hp; simp; omega), b_filter_all (fun p hp => by have := hb p hp; simp; omega)]
theorem b_cutD_none {D : List BKV} {k : Int} (h : b_look D k = none) : b_cutD D k = D := b_filter_all fun p hp => by simpa using b_look_none_iff.1 h p hp

theorem b_asc_parts {A B : List BKV} (h : BAsc (A ++ B)) : BAsc A ∧ BAsc B := by unfold BAsc at h ⊢; rw [List.pairwise_append] at h; exact ⟨h.1, h.2.1⟩
theorem b_asc_mid {A B : List BKV} (hA : BAsc A) (hB : BAsc B) {k : Int} (ha : ∀ p ∈ A, p.1 < k) (hb : ∀ p ∈ B, k < p.1) (v : Int × Int) : BAsc (A ++ (k, v) :: B) := by
  unfold BAsc at *
  rw [List.pairwise_append, List.pairwise_cons]
  refine ⟨hA, ⟨fun p hp => hb p hp, hB⟩, fun p hp q hq => ?_⟩
  rcases List.mem_cons.1 hq with rfl | hq
  · exact ha p hp
  · have h1 := ha p hp; have h2 := hb q hq; omega
theorem b_asc_filter {D : List BKV} (h : BAsc D) (f : BKV → Bool) : BAsc (D.filter f) := List.Pairwise.filter f h
theorem b_asc_putD {D : List BKV} (h : BAsc D) (k : Int) (v : Int × Int) : BAsc (b_putD D k v) :=
  b_asc_mid (b_asc_filter h _) (b_asc_filter h _) (fun p hp => by simpa using (List.mem_filter.1 hp).2) (fun p hp => by simpa using (List.mem_filter.1 hp).2) v
theorem b_asc_cutD {D : List BKV} (h : BAsc D) (k : Int) : BAsc (b_cutD D k) := b_asc_filter h _

theorem b_len_putD {D : List BKV} (h : BAsc D) (k : Int) (v : Int × Int) : (b_putD D k v).length = if (b_look D k).isSome then D.length else D.length + 1 := by
  cases hk : b_look D k with
  | none =>
    obtain ⟨A, B, rfl, _, ha, hb⟩ := h.without hk
    rw [b_putD_new ha hb]; simp; omega
  | some u =>
    obtain ⟨A, B, rfl, _, ha, hb⟩ := h.with hk
    rw [b_putD_old ha hb]; simp
theorem b_len_cutD_le (D : List BKV) (k : Int) : (b_cutD D k).length ≤ D.length := List.length_filter_le _ _
theorem b_len_putD_le {D : List BKV} (h : BAsc D) (k : Int) (v : Int × Int) : (b_putD D k v).length ≤ D.length + 1 := by
  rw [b_len_putD h]; split <;> omega

theorem b_look_mid {A B : List BKV} {k : Int} (ha : ∀ p ∈ A, p.1 < k) (v : Int × Int) (x : Int) : b_look (A ++ (k, v) :: B) x = if x = k then some v else (b_look A x).or (b_look B x) := by
  rw [b_look_append, b_look_cons]
  by_cases hx : x = k
  · subst hx
    rw [b_look_none (fun p hp => by have := ha p hp; omega)]; simp
  · rw [if_neg (fun q => hx q.symm), if_neg hx]
theorem b_look_putD {D : List BKV} (h : BAsc D) (k : Int) (v : Int × Int) (x : Int) : b_look (b_putD D k v) x = if x = k then some v else b_look D x := by
  cases hk : b_look D k with
  | none =>
    obtain ⟨A, B, rfl, _, ha, hb⟩ := h.without hk
    rw [b_putD_new ha hb, b_look_mid ha, b_look_append]
  | some u =>
    obtain ⟨A, B, rfl, _, ha, hb⟩ := h.with hk
    rw [b_putD_old ha hb, b_look_mid ha, b_look_mid ha]; split <;> rfl
theorem b_look_filter {D : List BKV} (f : BKV → Bool) (x : Int) (h : ∀ p ∈ D, p.1 = x → f p = true) : b_look (D.filter f) x = b_look D x := by
  induction D with
  | nil => rfl
  | cons p D ih =>
    have ih := ih fun q hq => h q (by simp [hq])
    rw [List.filter_cons]
    split
    · rw [b_look_cons, b_look_cons, ih]
    · rename_i hf
      rw [b_look_cons, if_neg (fun q => hf (h p (by simp) q)), ih]
theorem b_look_cutD (D : List BKV) (k x : Int) : b_look (b_cutD D k) x = if x = k then none else b_look D x := by
  split
  · rename_i e; subst e
    exact b_look_none fun p hp => by simpa using (List.mem_filter.1 hp).2
  · rename_i e
    exact b_look_filter _ _ fun p _ q => by simp; omega

/-- Two lists that rise, with the same things. -/
theorem b_asc_ext {D E : List BKV} (hD : BAsc D) (hE : BAsc E) (h : ∀ k, b_look D k = b_look E k) : D = E := by
  induction D generalizing E with
  | nil =>
    cases E with
    | nil => rfl
    | cons q E => have := h q.1; rw [b_look_cons] at this; simp at this
  | cons p D ih =>
    have hp := List.pairwise_cons.1 hD
    cases E with
    | nil => have := h p.1; rw [b_look_cons] at this; simp at this
    | cons q E =>
      have hq := List.pairwise_cons.1 hE
      have e1 : p.1 = q.1 := by
        have m1 : (p.1, p.2) ∈ q :: E := b_look_mem (by rw [← h, b_look_cons]; simp)
        have m2 : (q.1, q.2) ∈ p :: D := b_look_mem (by rw [h, b_look_cons]; simp)
        have l1 : q.1 ≤ p.1 := by
          rcases List.mem_cons.1 m1 with e | e
          · have := congrArg Prod.fst e; simp at this; omega
          · have := hq.1 _ e; simp at this; omega
        have l2 : p.1 ≤ q.1 := by
          rcases List.mem_cons.1 m2 with e | e
          · have := congrArg Prod.fst e; simp at this; omega
          · have := hp.1 _ e; simp at this; omega
        omega
      have e2 : p.2 = q.2 := by have := h p.1; rw [b_look_cons, b_look_cons] at this; simpa [e1] using this
      have e : p = q := Prod.ext e1 e2
      subst e
      congr 1
      refine ih hp.2 hq.2 fun k => ?_
      have := h k
      rw [b_look_cons, b_look_cons] at this
      by_cases hk : p.1 = k
      · rw [b_look_none (fun x hx => by have := hp.1 x hx; omega), b_look_none (fun x hx => by have := hq.1 x hx; omega)]
      · simpa [hk] using this

/-- The i-th of a list that rises: as many keys are b_less. -/
theorem b_pos_at {D : List BKV} (h : BAsc D) {i : Nat} {p : BKV} (hi : D[i]? = some p) : b_pos D p.1 = i := by
  induction D generalizing i with
  | nil => cases hi
  | cons q D ih =>
    have hc := List.pairwise_cons.1 h
    cases i with
    | zero =>
      simp at hi; subst hi
      unfold b_pos
      rw [List.countP_eq_zero]
      intro x hx
      rcases List.mem_cons.1 hx with rfl | hx
      · simp
      · have := hc.1 x hx; simp; omega
    | succ i =>
      simp at hi
      have hm := hc.1 p (List.mem_of_getElem? hi)
      have := ih hc.2 hi
      simp [b_pos, List.countP_cons, hm] at this ⊢
      exact this

-- the list without an order
def b_putR (R : List BKV) (k : Int) (v : Int × Int) : List BKV := if (b_look R k).isSome then R.map (fun p => if p.1 = k then (k, v) else p) else R ++ [(k, v)]
def b_nthR (R : List BKV) (i : Int) : Option BKV := R.find? (fun p => decide ((b_pos R p.1 : Int) = i))

/-- A list without a key twice, parted where a key stands. -/
theorem b_part_with {R : List BKV} {k : Int} {v : Int × Int} (hk : b_look R k = some v) : ∃ A B, R = A ++ (k, v) :: B ∧ ∀ p ∈ A, p.1 ≠ k := by
  induction R with
  | nil => cases hk
  | cons p R ih =>
    rw [b_look_cons] at hk
    split at hk
    · rename_i e
      subst e; cases hk
      exact ⟨[], R, rfl, by simp⟩
    · rename_i e
      obtain ⟨A, B, rfl, ha⟩ := ih hk
      refine ⟨p :: A, B, rfl, fun q hq => ?_⟩
      rcases List.mem_cons.1 hq with rfl | hq
      · exact e
      · exact ha q hq
theorem b_once_mid {A B : List BKV} {k : Int} {v : Int × Int} (h : BOnce (A ++ (k, v) :: B)) : ∀ p ∈ B, p.1 ≠ k := by
  unfold BOnce at h
  rw [List.pairwise_append, List.pairwise_cons] at h
  exact fun p hp q => h.2.1.1 p hp q.symm
theorem b_map_other {A : List BKV} {k : Int} (v : Int × Int) (h : ∀ p ∈ A, p.1 ≠ k) : A.map (fun p => if p.1 = k then (k, v) else p) = A := by
  rw [List.map_congr_left (g := id) (fun p hp => by simp [h p hp]), List.map_id]
theorem b_putR_old {A B : List BKV} {k : Int} {u : Int × Int} (hR : BOnce (A ++ (k, u) :: B)) (ha : ∀ p ∈ A, p.1 ≠ k) (v : Int × Int) : b_putR (A ++ (k, u) :: B) k v = A ++ (k, v) :: B := by
  have hl : b_look (A ++ (k, u) :: B) k = some u := b_look_of_mem hR (by simp)
  unfold b_putR
  rw [hl, Option.isSome_some, if_pos rfl, List.map_append, List.map_cons, b_map_other v ha, b_map_other v (b_once_mid hR), if_pos rfl]
theorem b_putR_new {R : List BKV} {k : Int} (h : b_look R k = none) (v : Int × Int) : b_putR R k v = R ++ [(k, v)] := by
  unfold b_putR; rw [h]; simp
theorem b_cutR_old {A B : List BKV} {k : Int} {u : Int × Int} (hR : BOnce (A ++ (k, u) :: B)) (ha : ∀ p ∈ A, p.1 ≠ k) : b_cutD (A ++ (k, u) :: B) k = A ++ B := by
  unfold b_cutD
  rw [List.filter_append, List.filter_cons, if_neg (by simp), b_filter_all (fun p hp => by simpa using ha p hp), b_filter_all (fun p hp => by simpa using b_once_mid hR p hp)]

theorem b_perm_once {D R : List BKV} (h : D.Perm R) : BOnce D ↔ BOnce R := by
  unfold BOnce
  exact h.pairwise_iff (fun {a b} q e => q e.symm)
theorem b_perm_look {D R : List BKV} (hD : BOnce D) (h : D.Perm R) (k : Int) : b_look D k = b_look R k := by
  have hR := (b_perm_once h).1 hD
  cases e : b_look D k with
  | none =>
    exact (b_look_none fun p hp => b_look_none_iff.1 e p (h.mem_iff.2 hp)).symm
  | some v => exact (b_look_of_mem hR (h.mem_iff.1 (b_look_mem e))).symm
theorem b_perm_pos {D R : List BKV} (h : D.Perm R) (k : Int) : b_pos D k = b_pos R k := h.countP_eq _
theorem b_perm_cut {D R : List BKV} (h : D.Perm R) (k : Int) : (b_cutD D k).Perm (b_cutD R k) := h.filter _
theorem b_perm_put {D R : List BKV} (hD : BAsc D) (h : D.Perm R) (k : Int) (v : Int × Int) : (b_putD D k v).Perm (b_putR R k v) := by
  have hR := (b_perm_once h).1 hD.once
  have hl := b_perm_look hD.once h k
  cases e : b_look D k with
  | none =>
    obtain ⟨A, B, rfl, _, ha, hb⟩ := hD.without e
    rw [b_putD_new ha hb, b_putR_new (by rw [← hl, e])]
    refine List.perm_middle.trans ?_
    refine (List.Perm.cons _ h).trans ?_
    exact (List.perm_append_singleton _ _).symm
  | some u =>
    obtain ⟨A, B, rfl, _, ha, hb⟩ := hD.with e
    obtain ⟨A', B', rfl, ha'⟩ := b_part_with (hl.symm.trans e)
    rw [b_putD_old ha hb, b_putR_old hR ha']
    have h1 : ((k, u) :: (A ++ B)).Perm ((k, u) :: (A' ++ B')) := List.perm_middle.symm.trans (h.trans List.perm_middle)
    have h2 := List.Perm.cons_inv h1
    exact List.perm_middle.trans ((List.Perm.cons _ h2).trans List.perm_middle.symm)
theorem b_nth_perm {D R : List BKV} (hD : BAsc D) (h : D.Perm R) (i : Int) : b_nthR R i = if i < 0 then none else D[i.toNat]? := by
  unfold b_nthR
  cases e : R.find? (fun p => decide ((b_pos R p.1 : Int) = i)) with
  | none =>
    split
    · rfl
    · cases e2 : D[i.toNat]? with
      | none => rfl
      | some p =>
        have hm := h.mem_iff.1 (List.mem_of_getElem? e2)
        have h1 := List.find?_eq_none.1 e p hm
        have h2 := b_pos_at hD e2
        rw [← b_perm_pos h, h2] at h1
        simp at h1
        omega
  | some p =>
    have hm := h.mem_iff.2 (List.mem_of_find?_eq_some e)
    have h1 := List.find?_some e
    obtain ⟨j, hj, rfl⟩ := List.getElem_of_mem hm
    have h2 := b_pos_at hD (List.getElem?_eq_getElem hj)
    rw [← b_perm_pos h, h2] at h1
    simp at h1
    subst h1
    rw [if_neg (by omega)]
    simp [hj]
end Go.Proofs.YtahejbahnhohcaaDoor
