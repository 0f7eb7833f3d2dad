/-
  Things by numbers, in order, as lists: what a key has, what put and cut make of a list that rises, and of one without an order.
-/
import Derived.Lib.Hide
namespace Go.Proofs.Ytonenkgjlmcfkaa
set_option linter.unusedVariables false
set_option linter.unusedSimpArgs false

abbrev KV := Int × Int
def keysOf (D : List KV) : List Int := D.map (·.1)
def valsOf (D : List KV) : List Int := D.map (·.2)
/-- The keys rise. -/
def Asc (D : List KV) : Prop := D.Pairwise (fun a b => a.1 < b.1)
/-- No key twice. -/
def Once (D : List KV) : Prop := D.Pairwise (fun a b => a.1 ≠ b.1)
/-- What a key has. -/
def look (D : List KV) (k : Int) : Option Int := (D.find? (fun p => p.1 == k)).map (·.2)
/-- How many keys are less. -/
def pos (D : List KV) (k : Int) : Nat := D.countP (fun p => decide (p.1 < k))
def less (D : List KV) (k : Int) : List KV := D.filter (fun p => decide (p.1 < k))
def more (D : List KV) (k : Int) : List KV := D.filter (fun p => decide (k < p.1))
def putD (D : List KV) (k : Int) (v : Int) : List KV := less D k ++ (k, v) :: more D k
def cutD (D : List KV) (k : Int) : List KV := D.filter (fun p => decide (p.1 ≠ k))

theorem Asc.once {D : List KV} (h : Asc D) : Once D := by
  unfold Asc at h
  unfold Once
  exact h.imp (fun {a b} q => by omega)
theorem asc_nil : Asc [] := List.Pairwise.nil
theorem once_nil : Once [] := List.Pairwise.nil

@[simp] theorem look_nil (k : Int) : look [] k = none := rfl
theorem look_cons (p : KV) (D : List KV) (k : Int) : look (p :: D) k = if p.1 = k then some p.2 else look D k := by
  unfold look
  rw [List.find?_cons]
  by_cases h : p.1 = k
  · simp [h]
  · have : (p.1 == k) = false := by simpa using h
    simp [this, h]
theorem look_append (A B : List KV) (k : Int) : look (A ++ B) k = (look A k).or (look B k) := by
  induction A with
  | nil => simp
  | cons p A ih => rw [List.cons_append, look_cons, look_cons]; split <;> simp [ih]
theorem look_none {D : List KV} {k : Int} (h : ∀ p ∈ D, p.1 ≠ k) : look D k = none := by
  induction D with
  | nil => rfl
  | cons p D ih => rw [look_cons, if_neg (h p (by simp))]; exact ih fun q hq => h q (by simp [hq])
theorem look_none_iff {D : List KV} {k : Int} : look D k = none ↔ ∀ p ∈ D, p.1 ≠ k := by
  refine ⟨fun h => ?_, look_none⟩
  induction D with
  | nil => simp
  | cons p D ih =>
    rw [look_cons] at h
    split at h
    · cases h
    · intro q hq
      rcases List.mem_cons.1 hq with rfl | hq
      · assumption
      · exact ih h q hq
theorem look_mem {D : List KV} {k : Int} {v : Int} (h : look D k = some v) : (k, v) ∈ D := by
  induction D with
  | nil => cases h
  | cons p D ih =>
    rw [look_cons] at h
    split at h
    · rename_i e
      subst e; cases h; simp
    · exact List.mem_cons_of_mem _ (ih h)
theorem look_of_mem {D : List KV} (hD : Once D) {k : Int} {v : Int} (h : (k, v) ∈ D) : look D k = some v := by
  induction D with
  | nil => cases h
  | cons p D ih =>
    have hc := List.pairwise_cons.1 hD
    rw [look_cons]
    rcases List.mem_cons.1 h with rfl | h
    · simp
    · rw [if_neg (hc.1 _ h)]; exact ih hc.2 h

/-- A list that rises, parted at a key. -/
theorem Asc.part {D : List KV} (h : Asc D) (k : Int) : ∃ A B, D = A ++ B ∧ A.length = pos D k ∧ (∀ p ∈ A, p.1 < k) ∧ (∀ p ∈ B, k ≤ p.1) := by
  induction D with
  | nil => exact ⟨[], [], rfl, rfl, by simp, by simp⟩
  | cons p D ih =>
    have hc := List.pairwise_cons.1 h
    by_cases hp : p.1 < k
    · obtain ⟨A, B, e, hl, ha, hb⟩ := ih hc.2
      refine ⟨p :: A, B, by rw [e]; rfl, ?_, ?_, hb⟩
      · simp [pos, List.countP_cons, hp] at hl ⊢; exact hl
      · intro q hq
        rcases List.mem_cons.1 hq with rfl | hq
        · exact hp
        · exact ha q hq
    · refine ⟨[], p :: D, rfl, ?_, by simp, ?_⟩
      · unfold pos
        rw [List.length_nil, eq_comm, List.countP_eq_zero]
        intro q hq
        rcases List.mem_cons.1 hq with rfl | hq
        · simpa using hp
        · have := hc.1 q hq; simp; omega
      · intro q hq
        rcases List.mem_cons.1 hq with rfl | hq
        · omega
        · have := hc.1 q hq; omega
/-- .. a key that is not there. -/
theorem Asc.without {D : List KV} (h : Asc D) {k : Int} (hk : look D k = none) : ∃ A B, D = A ++ B ∧ A.length = pos D k ∧ (∀ p ∈ A, p.1 < k) ∧ (∀ p ∈ B, k < p.1) := by
  obtain ⟨A, B, e, hl, ha, hb⟩ := h.part k
  refine ⟨A, B, e, hl, ha, fun p hp => ?_⟩
  have h1 := hb p hp
  have h2 := look_none_iff.1 hk p (by rw [e]; simp [hp])
  omega
/-- .. a key that is there. -/
theorem Asc.with {D : List KV} (h : Asc D) {k : Int} {v : Int} (hk : look D k = some v) : ∃ A B, D = A ++ (k, v) :: B ∧ A.length = pos D k ∧ (∀ p ∈ A, p.1 < k) ∧ (∀ p ∈ B, k < p.1) := by
  obtain ⟨A, B, e, hl, ha, hb⟩ := h.part k
  have hm : (k, v) ∈ B := by
    have := look_mem hk
    rw [e, List.mem_append] at this
    rcases this with q | q
    · have := ha _ q; simp at this
    · exact q
  have hB : Asc B := by unfold Asc at h; rw [e, List.pairwise_append] at h; exact h.2.1
  match B, hB, hm, hb, e with
  | p :: B, hB, hm, hb, e =>
    have hc := List.pairwise_cons.1 hB
    have hp : p = (k, v) := by
      rcases List.mem_cons.1 hm with q | q
      · exact q.symm
      · have h1 := hc.1 _ q
        have h2 := hb p (by simp)
        simp at h1
        omega
    subst hp
    exact ⟨A, B, e, hl, ha, fun q hq => hc.1 q hq⟩

theorem pos_le (D : List KV) (k : Int) : pos D k ≤ D.length := List.countP_le_length
theorem filter_all {D : List KV} {f : KV → Bool} (h : ∀ p ∈ D, f p = true) : D.filter f = D := List.filter_eq_self.2 h
theorem filter_none {D : List KV} {f : KV → Bool} (h : ∀ p ∈ D, f p = false) : D.filter f = [] := List.filter_eq_nil_iff.2 fun p hp => by rw [h p hp]; simp
theorem less_parts {A B : List KV} {k : Int} (ha : ∀ p ∈ A, p.1 < k) (hb : ∀ p ∈ B, k ≤ p.1) : less (A ++ B) k = A := by
  unfold less
  rw [List.filter_append, filter_all (fun p hp => by simpa using ha p hp), filter_none (fun p hp => by have := hb p hp; simp; omega), List.append_nil]
theorem more_parts {A B : List KV} {k : Int} (ha : ∀ p ∈ A, p.1 ≤ k) (hb : ∀ p ∈ B, k < p.1) : more (A ++ B) k = B := by
  unfold more
  rw [List.filter_append, filter_none (D := A) (fun p hp => by have := ha p hp; simp; omega), filter_all (D := B) (fun p hp => by simpa using hb p hp), List.nil_append]
theorem putD_new {A B : List KV} {k : Int} (ha : ∀ p ∈ A, p.1 < k) (hb : ∀ p ∈ B, k < p.1) (v : Int) : putD (A ++ B) k v = A ++ (k, v) :: B := by
  unfold putD
  rw [less_parts ha (fun p hp => by have := hb p hp; omega), more_parts (fun p hp => by have := ha p hp; omega) hb]
theorem putD_old {A B : List KV} {k : Int} {u : Int} (ha : ∀ p ∈ A, p.1 < k) (hb : ∀ p ∈ B, k < p.1) (v : Int) : putD (A ++ (k, u) :: B) k v = A ++ (k, v) :: B := by
  unfold putD
  rw [less_parts ha (fun p hp => by rcases List.mem_cons.1 hp with rfl | q; · exact Int.le_refl _
                                    · have := hb p q; omega)]
  rw [show A ++ (k, u) :: B = (A ++ [(k, u)]) ++ B by simp, more_parts (fun p hp => by
    rcases List.mem_append.1 hp with q | q
    · have := ha p q; omega
    · simp at q; rw [q]; exact Int.le_refl _) hb]
theorem cutD_old {A B : List KV} {k : Int} {u : Int} (ha : ∀ p ∈ A, p.1 < k) (hb : ∀ p ∈ B, k < p.1) : cutD (A ++ (k, u) :: B) k = A ++ B := by
  unfold cutD
  rw [List.filter_append, List.filter_cons, if_neg (by simp), filter_all (fun p hp => by have := ha p hp; simp; omega), filter_all (fun p hp => by have := hb p hp; simp; omega)]
theorem cutD_none {D : List KV} {k : Int} (h : look D k = none) : cutD D k = D := filter_all fun p hp => by simpa using look_none_iff.1 h p hp

theorem asc_parts {A B : List KV} (h : Asc (A ++ B)) : Asc A ∧ Asc B := by unfold Asc at h ⊢; rw [List.pairwise_append] at h; exact ⟨h.1, h.2.1⟩
theorem asc_mid {A B : List KV} (hA : Asc A) (hB : Asc B) {k : Int} (ha : ∀ p ∈ A, p.1 < k) (hb : ∀ p ∈ B, k < p.1) (v : Int) : Asc (A ++ (k, v) :: B) := by
  unfold Asc at *
  rw [List.pairwise_append, List.pairwise_cons]
  refine ⟨hA, ⟨fun p hp => hb p hp, hB⟩, fun p hp q hq => ?_⟩
  rcases List.mem_cons.1 hq with rfl | hq
  · exact ha p hp
  · have h1 := ha p hp; have h2 := hb q hq; omega
theorem asc_filter {D : List KV} (h : Asc D) (f : KV → Bool) : Asc (D.filter f) := List.Pairwise.filter f h
theorem asc_putD {D : List KV} (h : Asc D) (k : Int) (v : Int) : Asc (putD D k v) :=
  asc_mid (asc_filter h _) (asc_filter h _) (fun p hp => by simpa using (List.mem_filter.1 hp).2) (fun p hp => by simpa using (List.mem_filter.1 hp).2) v
theorem asc_cutD {D : List KV} (h : Asc D) (k : Int) : Asc (cutD D k) := asc_filter h _

theorem len_putD {D : List KV} (h : Asc D) (k : Int) (v : Int) : (putD D k v).length = if (look D k).isSome then D.length else D.length + 1 := by
  cases hk : look D k with
  | none =>
    obtain ⟨A, B, rfl, _, ha, hb⟩ := h.without hk
    rw [putD_new ha hb]; simp; omega
  | some u =>
    obtain ⟨A, B, rfl, _, ha, hb⟩ := h.with hk
    rw [putD_old ha hb]; simp
theorem len_cutD_le (D : List KV) (k : Int) : (cutD D k).length ≤ D.length := List.length_filter_le _ _
theorem len_putD_le {D : List KV} (h : Asc D) (k : Int) (v : Int) : (putD D k v).length ≤ D.length + 1 := by
  rw [len_putD h]; split <;> omega

theorem look_mid {A B : List KV} {k : Int} (ha : ∀ p ∈ A, p.1 < k) (v : Int) (x : Int) : look (A ++ (k, v) :: B) x = if x = k then some v else (look A x).or (look B x) := by
  rw [look_append, look_cons]
  by_cases hx : x = k
  · subst hx
    rw [look_none (fun p hp => by have := ha p hp; omega)]; simp
  · rw [if_neg (fun q => hx q.symm), if_neg hx]
theorem look_putD {D : List KV} (h : Asc D) (k : Int) (v : Int) (x : Int) : look (putD D k v) x = if x = k then some v else look D x := by
  cases hk : look D k with
  | none =>
    obtain ⟨A, B, rfl, _, ha, hb⟩ := h.without hk
    rw [putD_new ha hb, look_mid ha, look_append]
  | some u =>
    obtain ⟨A, B, rfl, _, ha, hb⟩ := h.with hk
    rw [putD_old ha hb, look_mid ha, look_mid ha]; split <;> rfl
theorem look_filter {D : List KV} (f : KV → Bool) (x : Int) (h : ∀ p ∈ D, p.1 = x → f p = true) : look (D.filter f) x = look D x := by
  induction D with
  | nil => rfl
  | cons p D ih =>
    have ih := ih fun q hq => h q (by simp [hq])
    rw [List.filter_cons]
    split
    · rw [look_cons, look_cons, ih]
    · rename_i hf
      rw [look_cons, if_neg (fun q => hf (h p (by simp) q)), ih]
theorem look_cutD (D : List KV) (k x : Int) : look (cutD D k) x = if x = k then none else look D x := by
  split
  · rename_i e; subst e
    exact look_none fun p hp => by simpa using (List.mem_filter.1 hp).2
  · rename_i e
    exact look_filter _ _ fun p _ q => by simp; omega

/-- Two lists that rise, with the same things. -/
theorem asc_ext {D E : List KV} (hD : Asc D) (hE : Asc E) (h : ∀ k, look D k = look E k) : D = E := by
  induction D generalizing E with
  | nil =>
    cases E with
    | nil => rfl
    | cons q E => have := h q.1; rw [look_cons] at this; simp at this
  | cons p D ih =>
    have hp := List.pairwise_cons.1 hD
    cases E with
    | nil => have := h p.1; rw [look_cons] at this; simp at this
    | cons q E =>
      have hq := List.pairwise_cons.1 hE
      have e1 : p.1 = q.1 := by
        have m1 : (p.1, p.2) ∈ q :: E := look_mem (by rw [← h, look_cons]; simp)
        have m2 : (q.1, q.2) ∈ p :: D := look_mem (by rw [h, look_cons]; simp)
        have l1 : q.1 ≤ p.1 := by
          rcases List.mem_cons.1 m1 with e | e
          · have := congrArg Prod.fst e; simp at this; omega
          · have := hq.1 _ e; simp at this; omega
        have l2 : p.1 ≤ q.1 := by
          rcases List.mem_cons.1 m2 with e | e
          · have := congrArg Prod.fst e; simp at this; omega
          · have := hp.1 _ e; simp at this; omega
        omega
      have e2 : p.2 = q.2 := by have := h p.1; rw [look_cons, look_cons] at this; simpa [e1] using this
      have e : p = q := Prod.ext e1 e2
      subst e
      congr 1
      refine ih hp.2 hq.2 fun k => ?_
      have := h k
      rw [look_cons, look_cons] at this
      by_cases hk : p.1 = k
      · rw [look_none (fun x hx => by have := hp.1 x hx; omega), look_none (fun x hx => by have := hq.1 x hx; omega)]
      · simpa [hk] using this

/-- The i-th of a list that rises: as many keys are less. -/
theorem pos_at {D : List KV} (h : Asc D) {i : Nat} {p : KV} (hi : D[i]? = some p) : pos D p.1 = i := by
  induction D generalizing i with
  | nil => cases hi
  | cons q D ih =>
    have hc := List.pairwise_cons.1 h
    cases i with
    | zero =>
      simp at hi; subst hi
      unfold pos
      rw [List.countP_eq_zero]
      intro x hx
      rcases List.mem_cons.1 hx with rfl | hx
      · simp
      · have := hc.1 x hx; simp; omega
    | succ i =>
      simp at hi
      have hm := hc.1 p (List.mem_of_getElem? hi)
      have := ih hc.2 hi
      simp [pos, List.countP_cons, hm] at this ⊢
      exact this

-- the list without an order
def putR (R : List KV) (k : Int) (v : Int) : List KV := if (look R k).isSome then R.map (fun p => if p.1 = k then (k, v) else p) else R ++ [(k, v)]
def nthR (R : List KV) (i : Int) : Option KV := R.find? (fun p => decide ((pos R p.1 : Int) = i))

/-- A list without a key twice, parted where a key stands. -/
theorem part_with {R : List KV} {k : Int} {v : Int} (hk : look R k = some v) : ∃ A B, R = A ++ (k, v) :: B ∧ ∀ p ∈ A, p.1 ≠ k := by
  induction R with
  | nil => cases hk
  | cons p R ih =>
    rw [look_cons] at hk
    split at hk
    · rename_i e
      subst e; cases hk
      exact ⟨[], R, rfl, by simp⟩
    · rename_i e
      obtain ⟨A, B, rfl, ha⟩ := ih hk
      refine ⟨p :: A, B, rfl, fun q hq => ?_⟩
      rcases List.mem_cons.1 hq with rfl | hq
      · exact e
      · exact ha q hq
theorem once_mid {A B : List KV} {k : Int} {v : Int} (h : Once (A ++ (k, v) :: B)) : ∀ p ∈ B, p.1 ≠ k := by
  unfold Once at h
  rw [List.pairwise_append, List.pairwise_cons] at h
  exact fun p hp q => h.2.1.1 p hp q.symm
theorem map_other {A : List KV} {k : Int} (v : Int) (h : ∀ p ∈ A, p.1 ≠ k) : A.map (fun p => if p.1 = k then (k, v) else p) = A := by
  rw [List.map_congr_left (g := id) (fun p hp => by simp [h p hp]), List.map_id]
theorem putR_old {A B : List KV} {k : Int} {u : Int} (hR : Once (A ++ (k, u) :: B)) (ha : ∀ p ∈ A, p.1 ≠ k) (v : Int) : putR (A ++ (k, u) :: B) k v = A ++ (k, v) :: B := by
  have hl : look (A ++ (k, u) :: B) k = some u := look_of_mem hR (by simp)
  unfold putR
  rw [hl, Option.isSome_some, if_pos rfl, List.map_append, List.map_cons, map_other v ha, map_other v (once_mid hR), if_pos rfl]
theorem putR_new {R : List KV} {k : Int} (h : look R k = none) (v : Int) : putR R k v = R ++ [(k, v)] := by
  unfold putR; rw [h]; simp
theorem cutR_old {A B : List KV} {k : Int} {u : Int} (hR : Once (A ++ (k, u) :: B)) (ha : ∀ p ∈ A, p.1 ≠ k) : cutD (A ++ (k, u) :: B) k = A ++ B := by
  unfold cutD
  rw [List.filter_append, List.filter_cons, if_neg (by simp), filter_all (fun p hp => by simpa using ha p hp), filter_all (fun p hp => by simpa using once_mid hR p hp)]

theorem perm_once {D R : List KV} (h : D.Perm R) : Once D ↔ Once R := by
  unfold Once
  exact h.pairwise_iff (fun {a b} q e => q e.symm)
theorem perm_look {D R : List KV} (hD : Once D) (h : D.Perm R) (k : Int) : look D k = look R k := by
  have hR := (perm_once h).1 hD
  cases e : look D k with
  | none =>
    exact (look_none fun p hp => look_none_iff.1 e p (h.mem_iff.2 hp)).symm
  | some v => exact (look_of_mem hR (h.mem_iff.1 (look_mem e))).symm
theorem perm_pos {D R : List KV} (h : D.Perm R) (k : Int) : pos D k = pos R k := h.countP_eq _
theorem perm_cut {D R : List KV} (h : D.Perm R) (k : Int) : (cutD D k).Perm (cutD R k) := h.filter _
theorem perm_put {D R : List KV} (hD : Asc D) (h : D.Perm R) (k : Int) (v : Int) : (putD D k v).Perm (putR R k v) := by
  have hR := (perm_once h).1 hD.once
  have hl := perm_look hD.once h k
  cases e : look D k with
  | none =>
    obtain ⟨A, B, rfl, _, ha, hb⟩ := hD.without e
    rw [putD_new ha hb, putR_new (by rw [← hl, e])]
    refine List.perm_middle.trans ?_
    refine (List.Perm.cons _ h).trans ?_
    exact (List.perm_append_singleton _ _).symm
  | some u =>
    obtain ⟨A, B, rfl, _, ha, hb⟩ := hD.with e
    obtain ⟨A', B', rfl, ha'⟩ := part_with (hl.symm.trans e)
    rw [putD_old ha hb, putR_old hR ha']
    have h1 : ((k, u) :: (A ++ B)).Perm ((k, u) :: (A' ++ B')) := List.perm_middle.symm.trans (h.trans List.perm_middle)
    have h2 := List.Perm.cons_inv h1
    exact List.perm_middle.trans ((List.Perm.cons _ h2).trans List.perm_middle.symm)
theorem nth_perm {D R : List KV} (hD : Asc D) (h : D.Perm R) (i : Int) : nthR R i = if i < 0 then none else D[i.toNat]? := by
  unfold nthR
  cases e : R.find? (fun p => decide ((pos R p.1 : Int) = i)) with
  | none =>
    split
    · rfl
    · cases e2 : D[i.toNat]? with
      | none => rfl
      | some p =>
        have hm := h.mem_iff.1 (List.mem_of_getElem? e2)
        have h1 := List.find?_eq_none.1 e p hm
        have h2 := pos_at hD e2
        rw [← perm_pos h, h2] at h1
        simp at h1
        omega
  | some p =>
    have hm := h.mem_iff.2 (List.mem_of_find?_eq_some e)
    have h1 := List.find?_some e
    obtain ⟨j, hj, rfl⟩ := List.getElem_of_mem hm
    have h2 := pos_at hD (List.getElem?_eq_getElem hj)
    rw [← perm_pos h, h2] at h1
    simp at h1
    subst h1
    rw [if_neg (by omega)]
    simp [hj]
end Go.Proofs.Ytonenkgjlmcfkaa
