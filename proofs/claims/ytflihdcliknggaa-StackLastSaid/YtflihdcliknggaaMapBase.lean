/-
  Things by numbers, in order, as lists: what a key has, what put and cut make of a list that rises, and of one without an order.
-/
import Derived.Lib.Hide
import Derived.Test.YtflihdcliknggaaBase
import Derived.Sort.Row
import Derived.Laws.IdiomCopy
import Derived.Laws.AppendOwn
import Derived.Test.YtflihdcliknggaaMapLay
import Derived.Test.YtflihdcliknggaaChecked
import Derived.WalkKit
import Derived.Outline
namespace Go.Proofs.Ytflihdcliknggaa
set_option linter.unusedVariables false
set_option linter.unusedSimpArgs false

abbrev KV := Int × Int
def keysOf (D : List KV) : List Int := D.map (·.1)
def valsOf (D : List KV) : List Int := D.map (·.2)
/-- The keys rise. -/
def Asc (D : List KV) : Prop := D.Pairwise (fun a b => a.1 < b.1)
/-- No key twice. -/
def Once (D : List KV) : Prop := D.Pairwise (fun a b => a.1 ≠ b.1)
/-- What a key has. -/
def look (D : List KV) (k : Int) : Option Int := (D.find? (fun p => p.1 == k)).map (·.2)
/-- How many keys are less. -/
def pos (D : List KV) (k : Int) : Nat := D.countP (fun p => decide (p.1 < k))
def less (D : List KV) (k : Int) : List KV := D.filter (fun p => decide (p.1 < k))
def more (D : List KV) (k : Int) : List KV := D.filter (fun p => decide (k < p.1))
def putD (D : List KV) (k : Int) (v : Int) : List KV := less D k ++ (k, v) :: more D k
def cutD (D : List KV) (k : Int) : List KV := D.filter (fun p => decide (p.1 ≠ k))

theorem Asc.once {D : List KV} (h : Asc D) : Once D := by
  unfold Asc at h
  unfold Once
  exact h.imp (fun {a b} q => by omega)
theorem asc_nil : Asc [] := List.Pairwise.nil
theorem once_nil : Once [] := List.Pairwise.nil

@[simp] theorem look_nil (k : Int) : look [] k = none := rfl
theorem look_cons (p : KV) (D : List KV) (k : Int) : look (p :: D) k = if p.1 = k then some p.2 else look D k := by
  unfold look
  rw [List.find?_cons]
  by_cases h : p.1 = k
  · simp [h]
  · have : (p.1 == k) = false := by simpa using h
    simp [this, h]
theorem look_append (A B : List KV) (k : Int) : look (A ++ B) k = (look A k).or (look B k) := by
  induction A with
  | nil => simp
  | cons p A ih => rw [List.cons_append, look_cons, look_cons]; split <;> simp [ih]
theorem look_none {D : List KV} {k : Int} (h : ∀ p ∈ D, p.1 ≠ k) : look D k = none := by
  induction D with
  | nil => rfl
  | cons p D ih => rw [look_cons, if_neg (h p (by simp))]; exact ih fun q hq => h q (by simp [hq])
theorem look_none_iff {D : List KV} {k : Int} : look D k = none ↔ ∀ p ∈ D, p.1 ≠ k := by
  refine ⟨fun h => ?_, look_none⟩
  induction D with
  | nil => simp
  | cons p D ih =>
    rw [look_cons] at h
    split at h
    · cases h
    · intro q hq
      rcases List.mem_cons.1 hq with rfl | hq
      · assumption
      · exact ih h q hq
theorem look_mem {D : List KV} {k : Int} {v : Int} (h : look D k = some v) : (k, v) ∈ D := by
  induction D with
  | nil => cases h
  | cons p D ih =>
    rw [look_cons] at h
    split at h
    · rename_i e
      subst e; cases h; simp
    · exact List.mem_cons_of_mem _ (ih h)
theorem look_of_mem {D : List KV} (hD : Once D) {k : Int} {v : Int} (h : (k, v) ∈ D) : look D k = some v := by
  induction D with
  | nil => cases h
  | cons p D ih =>
    have hc := List.pairwise_cons.1 hD
    rw [look_cons]
    rcases List.mem_cons.1 h with rfl | h
    · simp
    · rw [if_neg (hc.1 _ h)]; exact ih hc.2 h

/-- A list that rises, parted at a key. -/
theorem Asc.part {D : List KV} (h : Asc D) (k : Int) : ∃ A B, D = A ++ B ∧ A.length = pos D k ∧ (∀ p ∈ A, p.1 < k) ∧ (∀ p ∈ B, k ≤ p.1) := by
  induction D with
  | nil => exact ⟨[], [], rfl, rfl, by simp, by simp⟩
  | cons p D ih =>
    have hc := List.pairwise_cons.1 h
    by_cases hp : p.1 < k
    · obtain ⟨A, B, e, hl, ha, hb⟩ := ih hc.2
      refine ⟨p :: A, B, by rw [e]; rfl, ?_, ?_, hb⟩
      · simp [pos, List.countP_cons, hp] at hl ⊢; exact hl
      · intro q hq
        rcases List.mem_cons.1 hq with rfl | hq
        · exact hp
        · exact ha q hq
    · refine ⟨[], p :: D, rfl, ?_, by simp, ?_⟩
      · unfold pos
        rw [List.length_nil, eq_comm, List.countP_eq_zero]
        intro q hq
        rcases List.mem_cons.1 hq with rfl | hq
        · simpa using hp
        · have := hc.1 q hq; simp; omega
      · intro q hq
        rcases List.mem_cons.1 hq with rfl | hq
        · omega
        · have := hc.1 q hq; omega
/-- .. a key that is not there. -/
theorem Asc.without {D : List KV} (h : Asc D) {k : Int} (hk : look D k = none) : ∃ A B, D = A ++ B ∧ A.length = pos D k ∧ (∀ p ∈ A, p.1 < k) ∧ (∀ p ∈ B, k < p.1) := by
  obtain ⟨A, B, e, hl, ha, hb⟩ := h.part k
  refine ⟨A, B, e, hl, ha, fun p hp => ?_⟩
  have h1 := hb p hp
  have h2 := look_none_iff.1 hk p (by rw [e]; simp [hp])
  omega
/-- .. a key that is there. -/
theorem Asc.with {D : List KV} (h : Asc D) {k : Int} {v : Int} (hk : look D k = some v) : ∃ A B, D = A ++ (k, v) :: B ∧ A.length = pos D k ∧ (∀ p ∈ A, p.1 < k) ∧ (∀ p ∈ B, k < p.1) := by
  obtain ⟨A, B, e, hl, ha, hb⟩ := h.part k
  have hm : (k, v) ∈ B := by
    have := look_mem hk
    rw [e, List.mem_append] at this
    rcases this with q | q
    · have := ha _ q; simp at this
    · exact q
  have hB : Asc B := by unfold Asc at h; rw [e, List.pairwise_append] at h; exact h.2.1
  match B, hB, hm, hb, e with
  | p :: B, hB, hm, hb, e =>
    have hc := List.pairwise_cons.1 hB
    have hp : p = (k, v) := by
      rcases List.mem_cons.1 hm with q | q
      · exact q.symm
      · have h1 := hc.1 _ q
        have h2 := hb p (by simp)
        simp at h1
        omega
    subst hp
    exact ⟨A, B, e, hl, ha, fun q hq => hc.1 q hq⟩

theorem pos_le (D : List KV) (k : Int) : pos D k ≤ D.length := List.countP_le_length
theorem filter_all {D : List KV} {f : KV → Bool} (h : ∀ p ∈ D, f p = true) : D.filter f = D := List.filter_eq_self.2 h
theorem filter_none {D : List KV} {f : KV → Bool} (h : ∀ p ∈ D, f p = false) : D.filter f = [] := List.filter_eq_nil_iff.2 fun p hp => by rw [h p hp]; simp
theorem less_parts {A B : List KV} {k : Int} (ha : ∀ p ∈ A, p.1 < k) (hb : ∀ p ∈ B, k ≤ p.1) : less (A ++ B) k = A := by
  unfold less
  rw [List.filter_append, filter_all (fun p hp => by simpa using ha p hp), filter_none (fun p hp => by have := hb p hp; simp; omega), List.append_nil]
theorem more_parts {A B : List KV} {k : Int} (ha : ∀ p ∈ A, p.1 ≤ k) (hb : ∀ p ∈ B, k < p.1) : more (A ++ B) k = B := by
  unfold more
  rw [List.filter_append, filter_none (D := A) (fun p hp => by have := ha p hp; simp; omega), filter_all (D := B) (fun p hp => by simpa using hb p hp), List.nil_append]
theorem putD_new {A B : List KV} {k : Int} (ha : ∀ p ∈ A, p.1 < k) (hb : ∀ p ∈ B, k < p.1) (v : Int) : putD (A ++ B) k v = A ++ (k, v) :: B := by
  unfold putD
  rw [less_parts ha (fun p hp => by have := hb p hp; omega), more_parts (fun p hp => by have := ha p hp; omega) hb]
theorem putD_old {A B : List KV} {k : Int} {u : Int} (ha : ∀ p ∈ A, p.1 < k) (hb : ∀ p ∈ B, k < p.1) (v : Int) : putD (A ++ (k, u) :: B) k v = A ++ (k, v) :: B := by
  unfold putD
  rw [less_parts ha (fun p hp => by rcases List.mem_cons.1 hp with rfl | q; · exact Int.le_refl _
                                    · have := hb p q; omega)]
  rw [show A ++ (k, u) :: B = (A ++ [(k, u)]) ++ B by simp, more_parts (fun p hp => by
    rcases List.mem_append.1 hp with q | q
    · have := ha p q; omega
    · simp at q; rw [q]; exact Int.le_refl _) hb]
theorem cutD_old {A B : List KV} {k : Int} {u : Int} (ha : ∀ p ∈ A, p.1 < k) (hb : ∀ p ∈ B, k < p.1) : cutD (A ++ (k, u) :: B) k = A ++ B := by
  unfold cutD
  rw [List.filter_append, List.filter_cons, if_neg (by simp), filter_all (fun p hp => by have := ha p hp; simp; omega), filter_all (fun p hp => by have := hb p hp; simp; omega)]
theorem cutD_none {D : List KV} {k : Int} (h : look D k = none) : cutD D k = D := filter_all fun p hp => by simpa using look_none_iff.1 h p hp

theorem asc_parts {A B : List KV} (h : Asc (A ++ B)) : Asc A ∧ Asc B := by unfold Asc at h ⊢; rw [List.pairwise_append] at h; exact ⟨h.1, h.2.1⟩
theorem asc_mid {A B : List KV} (hA : Asc A) (hB : Asc B) {k : Int} (ha : ∀ p ∈ A, p.1 < k) (hb : ∀ p ∈ B, k < p.1) (v : Int) : Asc (A ++ (k, v) :: B) := by
  unfold Asc at *
  rw [List.pairwise_append, List.pairwise_cons]
  refine ⟨hA, ⟨fun p hp => hb p hp, hB⟩, fun p hp q hq => ?_⟩
  rcases List.mem_cons.1 hq with rfl | hq
  · exact ha p hp
  · have h1 := ha p hp; have h2 := hb q hq; omega
theorem asc_filter {D : List KV} (h : Asc D) (f : KV → Bool) : Asc (D.filter f) := List.Pairwise.filter f h
theorem asc_putD {D : List KV} (h : Asc D) (k : Int) (v : Int) : Asc (putD D k v) :=
  asc_mid (asc_filter h _) (asc_filter h _) (fun p hp => by simpa using (List.mem_filter.1 hp).2) (fun p hp => by simpa using (List.mem_filter.1 hp).2) v
theorem asc_cutD {D : List KV} (h : Asc D) (k : Int) : Asc (cutD D k) := asc_filter h _

theorem len_putD {D : List KV} (h : Asc D) (k : Int) (v : Int) : (putD D k v).length = if (look D k).isSome then D.length else D.length + 1 := by
  cases hk : look D k with
  | none =>
    obtain ⟨A, B, rfl, _, ha, hb⟩ := h.without hk
    rw [putD_new ha hb]; simp; omega
  | some u =>
    obtain ⟨A, B, rfl, _, ha, hb⟩ := h.with hk
    rw [putD_old ha hb]; simp
theorem len_cutD_le (D : List KV) (k : Int) : (cutD D k).length ≤ D.length := List.length_filter_le _ _
theorem len_putD_le {D : List KV} (h : Asc D) (k : Int) (v : Int) : (putD D k v).length ≤ D.length + 1 := by
  rw [len_putD h]; split <;> omega

theorem look_mid {A B : List KV} {k : Int} (ha : ∀ p ∈ A, p.1 < k) (v : Int) (x : Int) : look (A ++ (k, v) :: B) x = if x = k then some v else (look A x).or (look B x) := by
  rw [look_append, look_cons]
  by_cases hx : x = k
  · subst hx
    rw [look_none (fun p hp => by have := ha p hp; omega)]; simp
  · rw [if_neg (fun q => hx q.symm), if_neg hx]
theorem look_putD {D : List KV} (h : Asc D) (k : Int) (v : Int) (x : Int) : look (putD D k v) x = if x = k then some v else look D x := by
  cases hk : look D k with
  | none =>
    obtain ⟨A, B, rfl, _, ha, hb⟩ := h.without hk
    rw [putD_new ha hb, look_mid ha, look_append]
  | some u =>
    obtain ⟨A, B, rfl, _, ha, hb⟩ := h.with hk
    rw [putD_old ha hb, look_mid ha, look_mid ha]; split <;> rfl
theorem look_filter {D : List KV} (f : KV → Bool) (x : Int) (h : ∀ p ∈ D, p.1 = x → f p = true) : look (D.filter f) x = look D x := by
  induction D with
  | nil => rfl
  | cons p D ih =>
    have ih := ih fun q hq => h q (by simp [hq])
    rw [List.filter_cons]
    split
    · rw [look_cons, look_cons, ih]
    · rename_i hf
      rw [look_cons, if_neg (fun q => hf (h p (by simp) q)), ih]
theorem look_cutD (D : List KV) (k x : Int) : look (cutD D k) x = if x = k then none else look D x := by
  split
  · rename_i e; subst e
    exact look_none fun p hp => by simpa using (List.mem_filter.1 hp).2
  · rename_i e
    exact look_filter _ _ fun p _ q => by simp; omega

/-- Two lists that rise, with the same things. -/
theorem asc_ext {D E : List KV} (hD : Asc D) (hE : Asc E) (h : ∀ k, look D k = look E k) : D = E := by
  induction D generalizing E with
  | nil =>
    cases E with
    | nil => rfl
    | cons q E => have := h q.1; rw [look_cons] at this; simp at this
  | cons p D ih =>
    have hp := List.pairwise_cons.1 hD
    cases E with
    | nil => have := h p.1; rw [look_cons] at this; simp at this
    | cons q E =>
      have hq := List.pairwise_cons.1 hE
      have e1 : p.1 = q.1 := by
        have m1 : (p.1, p.2) ∈ q :: E := look_mem (by rw [← h, look_cons]; simp)
        have m2 : (q.1, q.2) ∈ p :: D := look_mem (by rw [h, look_cons]; simp)
        have l1 : q.1 ≤ p.1 := by
          rcases List.mem_cons.1 m1 with e | e
          · have := congrArg Prod.fst e; simp at this; omega
          · have := hq.1 _ e; simp at this; omega
        have l2 : p.1 ≤ q.1 := by
          rcases List.mem_cons.1 m2 with e | e
          · have := congrArg Prod.fst e; simp at this; omega
          · have := hp.1 _ e; simp at this; omega
        omega
      have e2 : p.2 = q.2 := by have := h p.1; rw [look_cons, look_cons] at this; simpa [e1] using this
      have e : p = q := Prod.ext e1 e2
      subst e
      congr 1
      refine ih hp.2 hq.2 fun k => ?_
      have := h k
      rw [look_cons, look_cons] at this
      by_cases hk : p.1 = k
      · rw [look_none (fun x hx => by have := hp.1 x hx; omega), look_none (fun x hx => by have := hq.1 x hx; omega)]
      · simpa [hk] using this

/-- The i-th of a list that rises: as many keys are less. -/
theorem pos_at {D : List KV} (h : Asc D) {i : Nat} {p : KV} (hi : D[i]? = some p) : pos D p.1 = i := by
  induction D generalizing i with
  | nil => cases hi
  | cons q D ih =>
    have hc := List.pairwise_cons.1 h
    cases i with
    | zero =>
      simp at hi; subst hi
      unfold pos
      rw [List.countP_eq_zero]
      intro x hx
      rcases List.mem_cons.1 hx with rfl | hx
      · simp
      · have := hc.1 x hx; simp; omega
    | succ i =>
      simp at hi
      have hm := hc.1 p (List.mem_of_getElem? hi)
      have := ih hc.2 hi
      simp [pos, List.countP_cons, hm] at this ⊢
      exact this

-- the list without an order
def putR (R : List KV) (k : Int) (v : Int) : List KV := if (look R k).isSome then R.map (fun p => if p.1 = k then (k, v) else p) else R ++ [(k, v)]
def nthR (R : List KV) (i : Int) : Option KV := R.find? (fun p => decide ((pos R p.1 : Int) = i))

/-- A list without a key twice, parted where a key stands. -/
theorem part_with {R : List KV} {k : Int} {v : Int} (hk : look R k = some v) : ∃ A B, R = A ++ (k, v) :: B ∧ ∀ p ∈ A, p.1 ≠ k := by
  induction R with
  | nil => cases hk
  | cons p R ih =>
    rw [look_cons] at hk
    split at hk
    · rename_i e
      subst e; cases hk
      exact ⟨[], R, rfl, by simp⟩
    · rename_i e
      obtain ⟨A, B, rfl, ha⟩ := ih hk
      refine ⟨p :: A, B, rfl, fun q hq => ?_⟩
      rcases List.mem_cons.1 hq with rfl | hq
      · exact e
      · exact ha q hq
theorem once_mid {A B : List KV} {k : Int} {v : Int} (h : Once (A ++ (k, v) :: B)) : ∀ p ∈ B, p.1 ≠ k := by
  unfold Once at h
  rw [List.pairwise_append, List.pairwise_cons] at h
  exact fun p hp q => h.2.1.1 p hp q.symm
theorem map_other {A : List KV} {k : Int} (v : Int) (h : ∀ p ∈ A, p.1 ≠ k) : A.map (fun p => if p.1 = k then (k, v) else p) = A := by
  rw [List.map_congr_left (g := id) (fun p hp => by simp [h p hp]), List.map_id]
theorem putR_old {A B : List KV} {k : Int} {u : Int} (hR : Once (A ++ (k, u) :: B)) (ha : ∀ p ∈ A, p.1 ≠ k) (v : Int) : putR (A ++ (k, u) :: B) k v = A ++ (k, v) :: B := by
  have hl : look (A ++ (k, u) :: B) k = some u := look_of_mem hR (by simp)
  unfold putR
  rw [hl, Option.isSome_some, if_pos rfl, List.map_append, List.map_cons, map_other v ha, map_other v (once_mid hR), if_pos rfl]
theorem putR_new {R : List KV} {k : Int} (h : look R k = none) (v : Int) : putR R k v = R ++ [(k, v)] := by
  unfold putR; rw [h]; simp
theorem cutR_old {A B : List KV} {k : Int} {u : Int} (hR : Once (A ++ (k, u) :: B)) (ha : ∀ p ∈ A, p.1 ≠ k) : cutD (A ++ (k, u) :: B) k = A ++ B := by
  unfold cutD
  rw [List.filter_append, List.filter_cons, if_neg (by simp), filter_all (fun p hp => by simpa using ha p hp), filter_all (fun p hp => by simpa using once_mid hR p hp)]

theorem perm_once {D R : List KV} (h : D.Perm R) : Once D ↔ Once R := by
  unfold Once
  exact h.pairwise_iff (fun {a b} q e => q e.symm)
theorem perm_look {D R : List KV} (hD : Once D) (h : D.Perm R) (k : Int) : look D k = look R k := by
  have hR := (perm_once h).1 hD
  cases e : look D k with
  | none =>
    exact (look_none fun p hp => look_none_iff.1 e p (h.mem_iff.2 hp)).symm
  | some v => exact (look_of_mem hR (h.mem_iff.1 (look_mem e))).symm
theorem perm_pos {D R : List KV} (h : D.Perm R) (k : Int) : pos D k = pos R k := h.countP_eq _
theorem perm_cut {D R : List KV} (h : D.Perm R) (k : Int) : (cutD D k).Perm (cutD R k) := h.filter _
theorem perm_put {D R : List KV} (hD : Asc D) (h : D.Perm R) (k : Int) (v : Int) : (putD D k v).Perm (putR R k v) := by
  have hR := (perm_once h).1 hD.once
  have hl := perm_look hD.once h k
  cases e : look D k with
  | none =>
    obtain ⟨A, B, rfl, _, ha, hb⟩ := hD.without e
    rw [putD_new ha hb, putR_new (by rw [← hl, e])]
    refine List.perm_middle.trans ?_
    refine (List.Perm.cons _ h).trans ?_
    exact (List.perm_append_singleton _ _).symm
  | some u =>
    obtain ⟨A, B, rfl, _, ha, hb⟩ := hD.with e
    obtain ⟨A', B', rfl, ha'⟩ := part_with (hl.symm.trans e)
    rw [putD_old ha hb, putR_old hR ha']
    have h1 : ((k, u) :: (A ++ B)).Perm ((k, u) :: (A' ++ B')) := List.perm_middle.symm.trans (h.trans List.perm_middle)
    have h2 := List.Perm.cons_inv h1
    exact List.perm_middle.trans ((List.Perm.cons _ h2).trans List.perm_middle.symm)
theorem nth_perm {D R : List KV} (hD : Asc D) (h : D.Perm R) (i : Int) : nthR R i = if i < 0 then none else D[i.toNat]? := by
  unfold nthR
  cases e : R.find? (fun p => decide ((pos R p.1 : Int) = i)) with
  | none =>
    split
    · rfl
    · cases e2 : D[i.toNat]? with
      | none => rfl
      | some p =>
        have hm := h.mem_iff.1 (List.mem_of_getElem? e2)
        have h1 := List.find?_eq_none.1 e p hm
        have h2 := pos_at hD e2
        rw [← perm_pos h, h2] at h1
        simp at h1
        omega
  | some p =>
    have hm := h.mem_iff.2 (List.mem_of_find?_eq_some e)
    have h1 := List.find?_some e
    obtain ⟨j, hj, rfl⟩ := List.getElem_of_mem hm
    have h2 := pos_at hD (List.getElem?_eq_getElem hj)
    rw [← perm_pos h, h2] at h1
    simp at h1
    subst h1
    rw [if_neg (by omega)]
    simp [hj]
end Go.Proofs.Ytflihdcliknggaa

namespace Go.Proofs.Ytflihdcliknggaa
open Go.RowKit Go.Sort
set_option linter.unusedVariables false
set_option linter.unusedSimpArgs false

theorem heap_mapBlock {w : World} {b : Nat} {c : Array Value} {e : TypeId} {fr : Nat × Nat} (f : Array Value → Array Value) (h : w.heap[b]? = some (.cells c e fr)) : (mapBlock w b f).heap[b]? = some (.cells (f c) e fr) := by
  simp [mapBlock, Array.getElem?_modify, h, onCells]
theorem turned_mapBlock {S : Nat → Prop} {w w' : World} (ht : Turned S w w') {b : Nat} (hb : b < w.heap.size → S b) (f : Array Value → Array Value) : Turned S w (mapBlock w' b f) :=
  ⟨ht.os, ht.tape, ht.output, by have := ht.size; simpa [mapBlock] using this, fun k hk hs => by
    rw [← Turned.block ht k hk hs]
    have : k ≠ b := by rintro rfl; exact hs (hb hk)
    simp [mapBlock, Array.getElem?_modify, Ne.symm this]⟩

/-- A run of stores, on a block's cells. -/
def writes (c : Array Value) : Nat → List Value → Array Value
  | _, [] => c
  | o, v :: r => writes (c.setIfInBounds o v) (o + 1) r
theorem setCells_eq (b : Nat) : ∀ (vs : List Value) (o : Nat) (w : World), w.setCells b o vs = mapBlock w b (fun c => writes c o vs)
  | [], o, w => (mapBlock_id w b _ (fun _ _ _ _ => rfl)).symm
  | v :: r, o, w => by
    rw [World.setCells, setCells_eq b r, setCell_eq, mapBlock_mapBlock]; rfl
theorem writes_size : ∀ (vs : List Value) (c : Array Value) (o : Nat), (writes c o vs).size = c.size
  | [], _, _ => rfl
  | v :: r, c, o => by rw [writes, writes_size r]; simp
theorem take_len {α : Type} (A B : List α) {n : Nat} (h : A.length = n) : (A ++ B).take n = A := by rw [← h]; simp
theorem drop_len {α : Type} (A B : List α) {n m : Nat} (h : A.length = n) : (A ++ B).drop (n + m) = B.drop m := by
  rw [List.drop_append, List.drop_eq_nil_of_le (by omega), List.nil_append, h, Nat.add_sub_cancel_left]
theorem writes_toList : ∀ (vs : List Value) (c : Array Value) (o : Nat), o + vs.length ≤ c.size → (writes c o vs).toList = c.toList.take o ++ vs ++ c.toList.drop (o + vs.length)
  | [], c, o, _ => by simp [writes]
  | v :: r, c, o, h => by
    simp only [List.length_cons] at h
    have hl : o < c.toList.length := by simp; omega
    rw [writes, writes_toList r _ _ (by simp; omega), Array.toList_setIfInBounds, List.set_eq_take_append_cons_drop, if_pos hl]
    have h1 : (c.toList.take o ++ [v]).length = o + 1 := by simp; omega
    rw [show c.toList.take o ++ v :: c.toList.drop (o + 1) = (c.toList.take o ++ [v]) ++ c.toList.drop (o + 1) by simp]
    rw [take_len _ _ h1, drop_len _ _ h1, List.drop_drop]
    simp
    congr 1
    omega

/-- xs lie behind a, whose room is cap. -/
def RowAt (w : World) (e : TypeId) (xs : List Value) (a : Option Addr) (cap : Nat) : Prop :=
  (a = none ∧ cap = 0 ∧ xs = []) ∨ ∃ g cur, a = some ⟨g, 0, none⟩ ∧ w.heap[g]? = some (.cells cur e (0, 0)) ∧ xs.length ≤ cap ∧ cap ≤ maxLen ∧ cur.size = cap ∧ cur.toList.take xs.length = xs
/-- Which block it is. -/
def owned (a : Option Addr) (k : Nat) : Prop := a.map (·.block) = some k

namespace RowAt
variable {w w' : World} {e : TypeId} {xs : List Value} {a : Option Addr} {cap : Nat}
theorem nil (w : World) (e : TypeId) : RowAt w e [] none 0 := .inl ⟨rfl, rfl, rfl⟩
theorem keep (h : RowAt w e xs a cap) {S : Nat → Prop} (ht : Turned S w w') (hs : ∀ k, owned a k → ¬ S k) : RowAt w' e xs a cap := by
  rcases h with h | ⟨g, cur, rfl, hg, rest⟩
  · exact .inl h
  · refine .inr ⟨g, cur, rfl, ?_, rest⟩
    rw [Turned.block ht g (lt_of_heap hg) (hs g rfl)]; exact hg
theorem lt (h : RowAt w e xs a cap) : ∀ k, owned a k → k < w.heap.size := by
  rcases h with ⟨rfl, _⟩ | ⟨g, cur, rfl, hg, _⟩
  · intro k hk; cases hk
  · intro k hk; cases hk; exact lt_of_heap hg
theorem of_own {base n : Nat} {v : Value} (h : w.ownsRow base e 1 v n xs) : ∃ a cap, v = .slice a n cap ∧ RowAt w e xs a cap ∧ (∀ k, owned a k → base ≤ k) ∧ xs.length = n := by
  have hl : xs.length = n := by have := h.1; omega
  rcases h.2 with ⟨rfl, rfl⟩ | ⟨g, cap, cur, rfl, hb, hg, hn, hm, hs, ht⟩
  · exact ⟨none, 0, rfl, .inl ⟨rfl, rfl, List.length_eq_zero_iff.1 hl⟩, (fun k hk => by cases hk), hl⟩
  · exact ⟨_, cap, rfl, .inr ⟨g, cur, rfl, hg, by omega, hm, by omega, by rw [hl]; simpa using ht⟩, fun k hk => by cases hk; exact hb, hl⟩
theorem own (h : RowAt w e xs a cap) {base : Nat} (hb : ∀ k, owned a k → base ≤ k) : w.ownsRow base e 1 (.slice a xs.length cap) xs.length xs := by
  refine ⟨by omega, ?_⟩
  rcases h with ⟨rfl, rfl, rfl⟩ | ⟨g, cur, rfl, hg, hn, hm, hs, ht⟩
  · exact .inl ⟨rfl, rfl⟩
  · exact .inr ⟨g, cap, cur, rfl, hb g rfl, hg, hn, hm, by omega, by simpa using ht⟩
/-- How it reads. -/
theorem reads (h : RowAt w e xs a cap) (h0 : 0 < xs.length) : ∃ g, a = some ⟨g, 0, none⟩ ∧ g < w.heap.size ∧ (∀ j v, xs[j]? = some v → w.cell? ⟨g, j, none⟩ = some v) ∧ ∀ j, w.frozen? ⟨g, j, none⟩ = false := by
  rcases h with ⟨rfl, _, rfl⟩ | ⟨g, cur, rfl, hg, hn, hm, hs, ht⟩
  · simp at h0
  · refine ⟨g, rfl, lt_of_heap hg, fun j v hj => ?_, fun j => by simp [World.frozen?, hg]⟩
    have hj' : j < xs.length := (List.getElem?_eq_some_iff.1 hj).1
    have e1 : cur.toList[j]? = some v := by
      have : (cur.toList.take xs.length)[j]? = some v := by rw [ht]; exact hj
      rw [List.getElem?_take, if_pos hj'] at this; exact this
    simp [World.cell?, hg]
    simpa using e1
end RowAt

/-- What Insert and Delete hand back: the row in its old block, or in a new one. -/
structure Moved (w w' : World) (e : TypeId) (ys : List Value) (a a' : Option Addr) (cap' : Nat) : Prop where
  row : RowAt w' e ys a' cap'
  turn : Turned (owned a) w w'
  from' : ∀ k, owned a' k → owned a k ∨ w.heap.size ≤ k

/-- In place: two runs of stores. -/
theorem moved_shift {w : World} {e : TypeId} {xs : List Value} {g i cap : Nat} {cur : Array Value} (x : Value) (hg : w.heap[g]? = some (.cells cur e (0, 0))) (hn : xs.length + 1 ≤ cap) (hm : cap ≤ maxLen) (hs : cur.size = cap) (ht : cur.toList.take xs.length = xs) (hi : i ≤ xs.length) :
    Moved w ((w.drew.setCells g (0 + (i + 1)) (xs.drop i)).setCells g (0 + i) [x]) e (xs.take i ++ x :: xs.drop i) (some ⟨g, 0, none⟩) (some ⟨g, 0, none⟩) cap := by
  rw [Nat.zero_add, Nat.zero_add, setCells_eq, setCells_eq, mapBlock_mapBlock]
  refine ⟨.inr ⟨g, _, rfl, heap_mapBlock _ hg, by simp; omega, hm, by rw [writes_size, writes_size]; exact hs, ?_⟩, turned_mapBlock (S := owned (some ⟨g, 0, none⟩)) ((Turned.refl _ w).drew) (fun _ => rfl) _, fun k hk => .inl hk⟩
  have hd : (xs.drop i).length = xs.length - i := by simp
  rw [writes_toList _ _ _ (by rw [writes_size]; simp; omega), writes_toList _ _ _ (by rw [hd]; omega)]
  have h1 : (cur.toList.take (i + 1)).take i = xs.take i := by
    rw [List.take_take, show min i (i + 1) = min i xs.length by omega, ← List.take_take, ht]
  have h2 : ((cur.toList.take (i + 1)) ++ xs.drop i ++ cur.toList.drop (i + 1 + (xs.drop i).length)).take i = xs.take i := by
    rw [List.append_assoc, List.take_append_of_le_length (by simp; omega), h1]
  have h3 : ((cur.toList.take (i + 1)) ++ xs.drop i ++ cur.toList.drop (i + 1 + (xs.drop i).length)).drop (i + 1) = xs.drop i ++ cur.toList.drop (i + 1 + (xs.drop i).length) := by
    rw [List.append_assoc, List.drop_append, List.drop_eq_nil_of_le (by simp; omega)]
    have : (cur.toList.take (i + 1)).length = i + 1 := by simp; omega
    rw [this, Nat.sub_self]; simp
  rw [h2, show i + [x].length = i + 1 from rfl, h3]
  rw [← List.append_assoc, show xs.take i ++ [x] ++ xs.drop i = xs.take i ++ x :: xs.drop i by simp]
  exact take_len _ _ rfl
/-- In place, at the end. -/
theorem moved_end {w : World} {e : TypeId} {xs : List Value} {g cap : Nat} {cur : Array Value} (x : Value) (hg : w.heap[g]? = some (.cells cur e (0, 0))) (hn : xs.length + 1 ≤ cap) (hm : cap ≤ maxLen) (hs : cur.size = cap) (ht : cur.toList.take xs.length = xs) :
    Moved w (w.setCells g (0 + xs.length) [x]) e (xs.take xs.length ++ x :: xs.drop xs.length) (some ⟨g, 0, none⟩) (some ⟨g, 0, none⟩) cap := by
  rw [Nat.zero_add, setCells_eq]
  refine ⟨.inr ⟨g, _, rfl, heap_mapBlock _ hg, by simp; omega, hm, by rw [writes_size]; exact hs, ?_⟩, turned_mapBlock (S := owned (some ⟨g, 0, none⟩)) (Turned.refl _ w) (fun _ => rfl) _, fun k hk => .inl hk⟩
  rw [writes_toList _ _ _ (by simp; omega), ht, List.take_length, List.drop_length, List.length_append]
  exact take_len (xs ++ [x]) _ (by simp)
theorem zeroCells_size (z : Array Value) (n : Nat) : (Builtin.zeroCells z n).size = n * z.size := by simp [Builtin.zeroCells]
/-- A new row, at the end. -/
theorem moved_new_end {w : World} {e : TypeId} {xs : List Value} {a : Option Addr} {G : Nat} (x z : Value) (hz : z.cells.size = 1) (hG : xs.length + 1 ≤ G) (hm : G ≤ maxLen) :
    Moved w (w.drew.alloc (.cells ((xs ++ [x]).toArray ++ Builtin.zeroCells z.cells (G - (xs.length + 1))) e)) e (xs.take xs.length ++ x :: xs.drop xs.length) a (some ⟨w.heap.size, 0, none⟩) G := by
  refine ⟨.inr ⟨_, _, rfl, heap_new w.drew _, by simp; omega, hm, by simp [zeroCells_size, hz]; omega, ?_⟩, ((Turned.refl _ w).drew).alloc _, fun k hk => by cases hk; exact .inr (Nat.le_refl _)⟩
  rw [List.take_length, List.drop_length, List.length_append, Array.toList_append]
  exact take_len (xs ++ [x]) _ (by simp)
/-- A new row, in the midst. -/
theorem moved_new {w : World} {e : TypeId} {xs : List Value} {a : Option Addr} {G i : Nat} (x z : Value) (hz : z.cells.size = 1) (hG : xs.length + 1 ≤ G) (hm : G ≤ maxLen) (hi : i ≤ xs.length) :
    Moved w (((w.alloc (.cells ((xs.take i).toArray ++ Builtin.zeroCells z.cells (xs.length + 1 - i) ++ Builtin.zeroCells z.cells (G - (xs.length + 1))) e)).drew.setCells w.heap.size i [x]).drew.setCells w.heap.size (i + 1) (xs.drop i)) e (xs.take i ++ x :: xs.drop i) a (some ⟨w.heap.size, 0, none⟩) G := by
  have hd : (xs.drop i).length = xs.length - i := by simp
  generalize hc : (xs.take i).toArray ++ Builtin.zeroCells z.cells (xs.length + 1 - i) ++ Builtin.zeroCells z.cells (G - (xs.length + 1)) = cur
  have hs : cur.size = G := by rw [← hc]; simp [zeroCells_size, hz]; omega
  have ht : cur.toList.take i = xs.take i := by
    rw [← hc]; simp only [Array.toList_append, List.append_assoc]
    have q : (xs.take i).length = i := by simp; omega
    exact take_len _ _ q
  have e1 : ∀ W : World, (W.drew).heap = W.heap := fun _ => rfl
  rw [setCells_eq, setCells_eq]
  have hA : ((w.alloc (.cells cur e)).drew).heap[w.heap.size]? = some (.cells cur e (0, 0)) := heap_new w _
  have hB := heap_mapBlock (fun c => writes c i [x]) hA
  have hC : ((mapBlock (w.alloc (.cells cur e)).drew w.heap.size fun c => writes c i [x]).drew).heap[w.heap.size]? = some (.cells (writes cur i [x]) e (0, 0)) := hB
  refine ⟨.inr ⟨_, _, rfl, heap_mapBlock _ hC, by simp; omega, hm, by rw [writes_size, writes_size]; exact hs, ?_⟩, ?_, fun k hk => by cases hk; exact .inr (Nat.le_refl _)⟩
  · rw [writes_toList _ _ _ (by rw [writes_size, hd]; omega), writes_toList _ _ _ (by simp; omega), ht]
    rw [show i + [x].length = i + 1 from rfl]
    have h1 : (xs.take i ++ [x] ++ cur.toList.drop (i + 1)).take (i + 1) = xs.take i ++ [x] := take_len _ _ (by simp; omega)
    rw [h1]
    rw [show xs.take i ++ [x] ++ xs.drop i = xs.take i ++ x :: xs.drop i by simp]
    exact take_len _ _ rfl
  · refine turned_mapBlock (Turned.drew (turned_mapBlock (((Turned.refl _ w).alloc _).drew) ?_ _)) ?_ _
    · intro q; omega
    · intro q; omega
/-- Delete, in place. -/
theorem moved_cut {α : Type} [Inhabited α] (enc : α → Value) {w : World} {e : TypeId} {ys : List Value} {g cap q : Nat} {cur : Array Value} (d : Array α) (hg : w.heap[g]? = some (.cells cur e (0, 0))) (hn : d.size ≤ cap) (hm : cap ≤ maxLen) (hs : cur.size = cap) (hd : (d.toList.map enc).take ys.length = ys) :
    Moved w (putRow enc (Sort.ahead w q) g 0 d) e ys (some ⟨g, 0, none⟩) (some ⟨g, 0, none⟩) cap := by
  have hy : ys.length ≤ d.size := by
    have := congrArg List.length hd; simp at this; omega
  refine ⟨.inr ⟨g, _, rfl, heap_mapBlock _ hg, by omega, hm, by simp [putCells]; exact hs, ?_⟩, turned_mapBlock (S := owned (some ⟨g, 0, none⟩)) (w := w) (w' := Sort.ahead w q) ⟨rfl, rfl, rfl, Nat.le_refl _, fun _ _ _ => rfl⟩ (fun _ => rfl) _, fun k hk => .inl hk⟩
  apply List.ext_getElem?
  intro j
  rw [List.getElem?_take]
  conv => rhs; rw [← hd]
  rw [List.getElem?_take]
  by_cases hj : j < ys.length
  · rw [if_pos hj, if_pos hj, Array.getElem?_toList, putCells, Array.getElem?_mapIdx, Array.getElem?_eq_getElem (by omega), List.getElem?_map, Array.getElem?_toList, Array.getElem?_eq_getElem (by omega)]
    simp
    rw [if_pos (by omega)]
    congr 1
    simp [getElem!_pos, show j < d.size by omega]
  · rw [if_neg hj, if_neg hj]
/-- One store. -/
theorem rowAt_set {w : World} {e : TypeId} {xs : List Value} {g cap i : Nat} (x : Value) (h : RowAt w e xs (some ⟨g, 0, none⟩) cap) (hi : i < xs.length) : RowAt (w.setCell ⟨g, i, none⟩ x) e (xs.set i x) (some ⟨g, 0, none⟩) cap := by
  rcases h with ⟨h, _⟩ | ⟨g', cur, h, hg, hn, hm, hs, ht⟩
  · cases h
  · cases h
    rw [setCell_eq]
    refine .inr ⟨g, _, rfl, heap_mapBlock _ hg, by simpa using hn, hm, by simpa using hs, ?_⟩
    rw [Array.toList_setIfInBounds, List.length_set, List.take_set, ht]
end Go.Proofs.Ytflihdcliknggaa

namespace Go.Proofs.Ytflihdcliknggaa
open Go.RowKit Go.Sort Go.Shelf
set_option linter.unusedVariables false
set_option linter.unusedSimpArgs false

theorem Moved.low {W w w' : World} {e : TypeId} {ys : List Value} {a a' : Option Addr} {cap' : Nat} (h : Moved W w' e ys a a' cap') (hW : More w W) (ha : ∀ k, owned a k → k < w.heap.size) : Moved w w' e ys a a' cap' :=
  ⟨h.row, (Turned.mono hW (fun _ _ q => q.elim)).trans h.turn, fun k hk => (h.from' k hk).imp id (fun q => Nat.le_trans hW.size q)⟩
theorem map_get {α : Type} {xs : List α} {enc : α → Value} {j : Nat} {v : Value} (h : (xs.map enc)[j]? = some v) : ∃ x, xs[j]? = some x ∧ v = enc x := by
  rw [List.getElem?_map] at h
  cases q : xs[j]? with
  | none => rw [q] at h; cases h
  | some x => rw [q] at h; exact ⟨x, rfl, by simpa using h.symm⟩
theorem one_get {x v : Value} {j : Nat} (h : ([x] : List Value)[j]? = some v) : j = 0 ∧ v = x := by
  cases j with
  | zero => exact ⟨rfl, by simpa using h.symm⟩
  | succ j => simp at h

/-- slices.BinarySearch over integers that rise. -/
theorem search (zs : List Int) (k : Int) (a : Option Addr) (cap : Nat) (w : World) (h : RowAt w 3 (zs.map (Value.int .i64)) a cap) (hs : zs.Pairwise (· ≤ ·)) (hl : zs.length ≤ 1000000) :
    Calls Try.prog 37 #[.slice a zs.length cap, .int .i64 k] w fun e w' => e = .returned (.tuple #[.int .i64 (zs.countP (· < k) : Nat), .bool (zs.contains k)]) ∧ ∃ q, w' = w.drewN q := by
  by_cases h0 : zs.length = 0
  · obtain rfl : zs = [] := List.length_eq_zero_iff.1 h0
    clear h h0 hs hl
    have E : ∃ q, w.drewN 1 = w.drewN q := ⟨_, rfl⟩
    go_enter Try.func37, Try.ntmps37
    go_wp2_with fail
    go_loop [7, 8] (fun i j => i = .int .i64 0 ∧ j = .int .i64 0) (fun _ _ => 0)
    case atStart => exact ⟨rfl, rfl⟩
    case round =>
      obtain ⟨rfl, rfl⟩ := hrel
      go_wp2_with fail
      all_goals first | (go_quiet (fail); go_wp2_with fail) | skip
      all_goals go_ret2
      all_goals exact ⟨rfl, 0, rfl⟩
  · obtain ⟨g, rfl, hg, hc, hf⟩ := h.reads (by simp; omega)
    have := AnyG.slices_BinarySearch_int Try.lSearch g 0 zs.length cap zs k w (Nat.le_refl _) (by omega) (fun j hj => by rw [Nat.zero_add]; exact hc j _ (by rw [List.getElem?_map, List.getElem?_eq_getElem hj]; simp [List.getD, hj])) (by rw [List.take_length]; exact hs)
    rw [List.take_length] at this
    exact this

section
theorem one_int (xs : List Int) : ∀ v ∈ xs.map (Value.int .i64), v.oneCell' = true := by
  intro v hv
  obtain ⟨x, _, rfl⟩ := List.mem_map.1 hv
  rfl
/-- slices.Insert of one. -/
theorem ins_int (xs : List Int) (i : Nat) (hi : i ≤ xs.length) (hl : xs.length ≤ 1000000) (y : Int) (a : Option Addr) (cap : Nat) (w : World) (h : RowAt w 3 (xs.map (Value.int .i64)) a cap) :
    Calls Try.prog 38 #[.slice a xs.length cap, .int .i64 i, .slice (some ⟨w.heap.size, 0, none⟩) 1 1] (w.alloc (.cells #[Value.int .i64 y] 3))
      fun e w' => ∃ a' cap', e = .returned (.slice a' (xs.length + 1) cap') ∧ Moved w w' 3 ((xs.map (Value.int .i64)).take i ++ Value.int .i64 y :: (xs.map (Value.int .i64)).drop i) a a' cap' := by
  have hM : More w (w.alloc (.cells #[Value.int .i64 y] 3)) := (More.refl w).alloc _
  have hN : (w.alloc (.cells #[Value.int .i64 y] 3)).heap[w.heap.size]? = some (.cells #[Value.int .i64 y] 3 (0, 0)) := heap_new w _
  have hlt := h.lt
  have h := h.keep hM (fun _ _ q => q)
  have hsz : w.heap.size < (w.alloc (.cells #[Value.int .i64 y] 3)).heap.size := by simp
  generalize w.alloc (.cells #[Value.int .i64 y] 3) = W at h hM hN hsz ⊢
  have hlen : (xs.map (Value.int .i64)).length = xs.length := by simp
  have hvs : ∀ j v, ([Value.int .i64 y] : List Value)[j]? = some v → W.cell? ⟨w.heap.size, 0 + j, none⟩ = some v := fun j v hj => by
    obtain ⟨rfl, rfl⟩ := one_get hj
    simp [World.cell?, hN]
  have h1c := one_int xs
  have h1v : ∀ v ∈ ([Value.int .i64 y] : List Value), v.oneCell' = true := by intro v hv; simp at hv; subst hv; rfl
  have hz : (Value.int .i64 0).cells.size = 1 := rfl
  have hfa : W.frozen? ⟨w.heap.size, 0, none⟩ = false := by simp [World.frozen?, hN]
  have hfe : W.frozen? ⟨w.heap.size, 1, none⟩ = false := by simp [World.frozen?, hN]
  have hsa : W.shape? w.heap.size = some (3, 1) := by simp [World.shape?, hN]
  have hG : ∀ c, xs.length + 1 ≤ grownCap W (xs.length + 1) c 3 := fun c => grownCap_ge W _ _ _
  have hGm : ∀ c, grownCap W (xs.length + 1) c 3 ≤ maxLen := fun c => grownCap_le_maxLen W _ c _ (by unfold maxLen; omega)
  by_cases hroom : xs.length + 1 ≤ cap
  · rcases h with ⟨rfl, rfl, hx⟩ | ⟨g, cur, rfl, hg, hn, hm, hs, ht⟩
    · omega
    rw [hlen] at hn
    have hgw := hlt g rfl
    have hgc : ∀ j, j < cap → W.cell? ⟨g, 0 + j, none⟩ = cur[j]? := fun j hj => by simp [World.cell?, hg]
    have hgf : ∀ j, W.frozen? ⟨g, j, none⟩ = false := fun j => by simp [World.frozen?, hg]
    have hcs : ∀ j v, (xs.map (Value.int .i64))[j]? = some v → W.cell? ⟨g, 0 + j, none⟩ = some v := fun j v hj => by
      have hj' : j < xs.length := by have := (List.getElem?_eq_some_iff.1 hj).1; omega
      rw [hgc j (by omega), ← Array.getElem?_toList]
      rw [← ht, List.getElem?_take, if_pos (by omega)] at hj
      exact hj
    by_cases hin : i < xs.length
    · refine (Any2.slices_Insert_int_shift Try.lInsI g 0 xs.length cap i w.heap.size 0 1 1 (xs.map (Value.int .i64)) [Value.int .i64 y] W hin (by omega) hroom (by unfold maxLen at hm; omega) (by omega) hlen rfl hcs
        (fun j hj => by rw [hgc j (by omega), Array.getElem?_eq_getElem (by omega)]; rfl) (fun j _ => hgf _) hvs h1c h1v _ 3 1 cap hsa (by simp [World.shape?, hg, hs]) (by omega) hfa hfe).mono ?_
      rintro e w' ⟨rfl, rfl⟩
      exact ⟨_, _, rfl, (moved_shift _ hg (by rw [hlen]; exact hroom) hm hs ht (by omega)).low hM hlt⟩
    · obtain rfl : i = xs.length := by omega
      refine (Any2.slices_Insert_int_end_room Try.lInsI g 0 xs.length cap w.heap.size 0 1 1 [Value.int .i64 y] W (by omega) hroom (by unfold maxLen at hm; omega) rfl
        (fun j hj => by rw [Nat.zero_add, ← Nat.zero_add (xs.length + j), hgc _ (by omega), Array.getElem?_eq_getElem (by omega)]; rfl) (fun j _ => hgf _) hvs h1v).mono ?_
      rintro e w' ⟨rfl, rfl⟩
      have := moved_end (Value.int .i64 y) hg (by rw [hlen]; exact hroom) hm hs ht
      rw [hlen] at this
      exact ⟨_, _, rfl, this.low hM hlt⟩
  · have hcap : xs.length ≤ cap := by
      rcases h with ⟨rfl, rfl, hx⟩ | ⟨g, cur, rfl, hg, hn, _⟩
      · have := congrArg List.length hx; simp at this; simp [this]
      · omega
    have hbig : (xs.length + 1) * 8 ≤ 140737488355328 := by omega
    by_cases hin : i < xs.length
    · rcases h with ⟨rfl, rfl, hx⟩ | ⟨g, cur, rfl, hg, hn, hm, hs, ht⟩
      · have := congrArg List.length hx; simp at this; subst this; simp at hin
      have hcs : ∀ j v, (xs.map (Value.int .i64))[j]? = some v → W.cell? ⟨g, 0 + j, none⟩ = some v := fun j v hj => by
        have hj' : j < xs.length := by have := (List.getElem?_eq_some_iff.1 hj).1; omega
        rw [← ht, List.getElem?_take, if_pos (by omega)] at hj
        simp [World.cell?, hg]
        simpa using hj
      refine (Any2.slices_Insert_int_grow Try.lInsI g 0 xs.length cap i w.heap.size 0 1 1 (xs.map (Value.int .i64)) [Value.int .i64 y] W hin (by omega) hcap (by omega) hbig hlen rfl hcs hvs h1c h1v).mono ?_
      rintro e w' ⟨rfl, rfl⟩
      have := moved_new (w := W) (e := 3) (xs := xs.map (Value.int .i64)) (a := some ⟨g, 0, none⟩) (i := i) (Value.int .i64 y) (Value.int .i64 0) hz (by rw [hlen]; exact hG cap) (hGm cap) (by omega)
      rw [hlen] at this
      exact ⟨_, _, rfl, this.low hM hlt⟩
    · obtain rfl : i = xs.length := by omega
      refine (Any2.slices_Insert_int_end_grow Try.lInsI a xs.length cap w.heap.size 0 1 1 (xs.map (Value.int .i64)) [Value.int .i64 y] W (by omega) hcap (by omega) hbig hlen rfl
        (fun ha => by
          rcases h with ⟨_, _, hx⟩ | ⟨g, cur, hh, _⟩
          · have := congrArg List.length hx; simpa using this
          · rw [ha] at hh; cases hh)
        (fun b hb j v hj => by
          have hj' : j < xs.length := by have := (List.getElem?_eq_some_iff.1 hj).1; omega
          rcases h with ⟨hh, _⟩ | ⟨g, cur, hh, hg, hn, hm, hs, ht⟩
          · rw [hb] at hh; cases hh
          · rw [hb] at hh; cases hh
            rw [← ht, List.getElem?_take, if_pos (by omega)] at hj
            rw [Addr.add_lit]
            simp [World.cell?, hg]
            simpa using hj) hvs h1v).mono ?_
      rintro e w' ⟨rfl, rfl⟩
      have := moved_new_end (w := W) (e := 3) (xs := xs.map (Value.int .i64)) (a := a) (Value.int .i64 y) (Value.int .i64 0) hz (by rw [hlen]; exact hG cap) (hGm cap)
      rw [hlen] at this
      exact ⟨_, _, rfl, this.low hM hlt⟩

theorem info_int : ∃ i : TypeInfo, Try.prog.info? 3 = some i ∧ i.zero = some (Value.int .i64 0) ∧ i.size = 1 ∧ i.bytes = 8 := by
  have h1 : (Try.prog.info? 3).map (·.size) = some 1 := by kernel_rfl
  have h2 : (Try.prog.info? 3).bind (·.zero) = some (Value.int .i64 0) := by kernel_rfl
  have h3 : (Try.prog.info? 3).map (·.bytes) = some 8 := by kernel_rfl
  cases q : Try.prog.info? 3 with
  | none => rw [q] at h1; simp at h1
  | some i => rw [q] at h1 h2 h3; exact ⟨i, rfl, by simpa using h2, by simpa using h1, by simpa using h3⟩

/-- slices.Clone. -/
theorem clone_int (xs : List Int) (hl : xs.length ≤ 1000000) (a : Option Addr) (cap : Nat) (w : World) (h : RowAt w 3 (xs.map (Value.int .i64)) a cap) :
    Calls Try.prog 18 #[.slice a xs.length cap] w
      fun e w' => ∃ a' cap', e = .returned (.slice a' xs.length cap') ∧ RowAt w' 3 (xs.map (Value.int .i64)) a' cap' ∧ More w w' ∧ ∀ k, owned a' k → w.heap.size ≤ k := by
  have hlen : (xs.map (Value.int .i64)).length = xs.length := by simp
  rcases h with ⟨rfl, rfl, hx⟩ | ⟨g, cur, rfl, hg, hn, hm, hs, ht⟩
  · have h0 : xs = [] := by simpa using hx
    subst h0
    refine (AnyE.slices_Clone_nil { Try.lCloneI with } 0 0 w).mono ?_
    rintro e w' ⟨rfl, rfl⟩
    exact ⟨_, _, rfl, RowAt.nil _ _, More.refl _, fun k hk => by cases hk⟩
  · obtain ⟨i0, hi0, hz0, hz1, hz2⟩ := info_int
    refine (AnyE.slices_Clone { Try.lCloneI with } i0 (Value.int .i64 0) 1 8 hi0 hz0 hz1 hz2 rfl (by omega) Try.sizeOf3 g 0 xs.length cap (xs.map (Value.int .i64)) w (by omega) (by unfold maxLen; omega) (by omega)
      (fun j v hj => by
        have hj' : j < xs.length := by have := (List.getElem?_eq_some_iff.1 hj).1; omega
        rw [← ht, List.getElem?_take, if_pos (by omega)] at hj
        simp [World.cell?, hg]
        simpa using hj) (one_int xs)).mono ?_
    rintro e w' ⟨v', rfl, hown, _, hB⟩
    obtain ⟨a', cap', rfl, hr, hb, _⟩ := RowAt.of_own hown
    exact ⟨_, _, rfl, hr, ⟨hB.os, hB.tape, hB.output, hB.size, fun k hk _ => hB.block k hk⟩, hb⟩
end
end Go.Proofs.Ytflihdcliknggaa

