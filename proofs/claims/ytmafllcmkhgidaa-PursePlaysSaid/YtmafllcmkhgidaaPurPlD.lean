/-
  Layer 13: a purse by classes, and the document's one list, have the same.
-/
import Derived.Test.YtmafllcmkhgidaaPurPop
import Derived.Test.YtmafllcmkhgidaaPurLives
namespace Go.Proofs.Ytmafllcmkhgidaa
open Go.RowKit Go.Shelf
set_option linter.unusedVariables false
set_option linter.unusedSimpArgs false

structure Eqv (P : Nat → List Int) (its : List It) : Prop where
  cls : ∀ p ∈ its, clsB p.1 = true
  at' : ∀ k, k < 5 → P k = listR its k
theorem eqv_zero : Eqv (fun _ => []) [] := ⟨(fun p hp => by cases hp), fun k _ => rfl⟩
theorem listR_app (A B : List It) (c : Int) : listR (A ++ B) c = listR A c ++ listR B c := by unfold listR; rw [List.filter_append, List.map_append]
theorem listR_one (c x k : Int) : listR [(c, x)] k = if c = k then [x] else [] := by
  unfold listR
  by_cases e : c = k
  · simp [e]
  · simp [e]
theorem listR_none {B : List It} {c : Int} (h : ∀ p ∈ B, p.1 ≠ c) : listR B c = [] := by
  unfold listR
  rw [List.filter_eq_nil_iff.2]
  · rfl
  · intro p hp; simp [h p hp]
theorem Eqv.list {P : Nat → List Int} {its : List It} (h : Eqv P its) (c : Int) : listC P c = listR its c := by
  unfold listC
  by_cases hc : clsB c = true
  · obtain ⟨k, rfl, hk⟩ := clsB_nat hc
    rw [if_pos hc]
    simpa using h.at' k hk
  · rw [if_neg hc]
    refine (listR_none fun p hp => ?_).symm
    rintro rfl
    exact hc (h.cls p hp)
theorem Eqv.len {P : Nat → List Int} {its : List It} (h : Eqv P its) (c : Int) : lenC P c = (listR its c).length := by
  rw [← h.list c]
  unfold lenC listC
  split <;> simp
theorem Eqv.push {P : Nat → List Int} {its : List It} (h : Eqv P its) (c a l : Int) : pushB P c l = pushBR its c l ∧ Eqv (pushP P c a l) (pushR its c a l) := by
  have e : pushB P c l = pushBR its c l := by unfold pushB pushBR; rw [h.len c]
  refine ⟨e, ?_⟩
  unfold pushP pushR
  rw [← e]
  by_cases hb : pushB P c l = true
  · rw [if_pos hb, if_pos hb]
    have hc : clsB c = true := by simp [pushB] at hb; exact hb.1
    refine ⟨fun p hp => ?_, fun k hk => ?_⟩
    · rcases List.mem_append.1 hp with q | q
      · exact h.cls p q
      · obtain rfl := List.mem_singleton.1 q; exact hc
    · obtain ⟨j, rfl, hj⟩ := clsB_nat hc
      rw [listR_app, listR_one]
      by_cases q : k = j
      · subst q; simp [h.at' k hk]
      · have q' : ¬ ((j : Int) = (k : Int)) := by omega
        simp [q, q', h.at' k hk]
  · rw [if_neg hb, if_neg hb]; exact h
/-- The last item of a class, or none. -/
theorem last_of (its : List It) (c : Int) : (∀ p ∈ its, p.1 ≠ c) ∨ ∃ A x B, its = A ++ (c, x) :: B ∧ ∀ p ∈ B, p.1 ≠ c := by
  induction its with
  | nil => exact .inl fun p hp => by cases hp
  | cons p its ih =>
    rcases ih with h | ⟨A, x, B, rfl, hB⟩
    · by_cases e : p.1 = c
      · obtain ⟨p1, p2⟩ := p
        simp only at e
        subst e
        exact .inr ⟨[], p2, its, rfl, h⟩
      · refine .inl fun q hq => ?_
        rcases List.mem_cons.1 hq with rfl | hq
        · exact e
        · exact h q hq
    · exact .inr ⟨p :: A, x, B, rfl, hB⟩
/-- What the document's Pop answers. -/
structure PopIs (its : List It) (c : Int) (its' : List It) (x : Int) (b : Bool) : Prop where
  calls : ∀ (v : Value) (w : World), IR 0 w v its → its.length ≤ 100000 → Calls Try.prog 7 #[.agg #[v], .int .i64 c] w (GaveIt w its' (fun v => .tuple #[v, .int .i64 x, .bool b]))
  len : its'.length ≤ its.length
theorem Eqv.pop {P : Nat → List Int} {its : List It} (h : Eqv P its) (c : Int) : ∃ its', PopIs its c its' (popX P c) (popB P c) ∧ Eqv (popP P c) its' := by
  rcases last_of its c with hn | ⟨A, x, B, rfl, hB⟩
  · have l0 : lenC P c = 0 := by rw [h.len c, listR_none hn]; rfl
    have b0 : popB P c = false := by simp [popB, l0]
    have x0 : popX P c = 0 := by simp [popX, b0]
    refine ⟨its, ⟨fun v w hv hl => ?_, Nat.le_refl _⟩, ?_⟩
    · rw [b0, x0]; exact r_pop_no v its c w hv hl hn
    · unfold popP; rw [b0]; exact h
  · have hc : clsB c = true := h.cls (c, x) (by simp)
    obtain ⟨k, rfl, hk⟩ := clsB_nat hc
    have eP : P k = listR A k ++ [x] := by
      rw [h.at' k hk, listR_app, show ((k : Int), x) :: B = [((k : Int), x)] ++ B from rfl, listR_app, listR_one, listR_none hB]; simp
    have b1 : popB P k = true := by simp [popB, lenC_nat P hk, eP]
    have x1 : popX P k = x := by simp [popX, b1, eP]
    refine ⟨A ++ B, ⟨fun v w hv hl => ?_, by simp⟩, ?_⟩
    · rw [b1, x1]; exact r_pop_yes v A B k x w hv hl hB
    · refine ⟨fun p hp => h.cls p ?_, fun j hj => ?_⟩
      · rcases List.mem_append.1 hp with q | q
        · exact List.mem_append_left _ q
        · exact List.mem_append_right _ (List.mem_cons_of_mem _ q)
      · unfold popP
        rw [if_pos b1, listR_app]
        by_cases q : j = k
        · subst q
          rw [listR_none hB]
          simp [eP]
        · have q' : ¬ ((k : Int) = (j : Int)) := by omega
          have := h.at' j hj
          rw [listR_app, show ((k : Int), x) :: B = [((k : Int), x)] ++ B from rfl, listR_app, listR_one, if_neg q'] at this
          simp [q, this]
theorem Eqv.all {P : Nat → List Int} {its : List It} (h : Eqv P its) : allTo P 5 = allR its 5 := by
  have : ∀ n, n ≤ 5 → allTo P n = allR its n := by
    intro n
    induction n with
    | zero => intro _; rfl
    | succ n ih => intro hn; rw [allTo, allR, ih (by omega), h.at' n (by omega)]
  exact this 5 (Nat.le_refl _)
theorem Eqv.has {P : Nat → List Int} {its : List It} (h : Eqv P its) (a : Int) : hasD (allTo P 5) a = hasR its a := by
  rw [h.all]
  have key : ∀ n, hasD (allR its n) a = its.any (fun p => (decide (0 ≤ p.1) && decide (p.1 < n)) && p.2 == a) := by
    intro n
    induction n with
    | zero =>
      symm
      rw [allR]
      show _ = false
      rw [List.any_eq_false]
      intro p hp
      simp
      intro _ q
      omega
    | succ n ih =>
      rw [allR]
      unfold hasD at *
      rw [List.any_append, ih]
      rw [Bool.eq_iff_iff]
      simp only [Bool.or_eq_true, List.any_eq_true]
      constructor
      · rintro (⟨p, hp, q⟩ | ⟨x, hx, q⟩)
        · refine ⟨p, hp, ?_⟩
          simp at q ⊢
          exact ⟨⟨q.1.1, by omega⟩, q.2⟩
        · unfold listR at hx
          obtain ⟨p, hp, rfl⟩ := List.mem_map.1 hx
          rw [List.mem_filter] at hp
          refine ⟨p, hp.1, ?_⟩
          simp at q hp ⊢
          exact ⟨⟨by omega, by omega⟩, q⟩
      · rintro ⟨p, hp, q⟩
        simp at q
        by_cases e : p.1 = n
        · refine .inr ⟨p.2, ?_, by simpa using q.2⟩
          unfold listR
          exact List.mem_map.2 ⟨p, List.mem_filter.2 ⟨hp, by simpa using e⟩, rfl⟩
        · refine .inl ⟨p, hp, ?_⟩
          simp
          exact ⟨⟨q.1.1, by omega⟩, q.2⟩
  rw [key 5]
  unfold hasR
  rw [Bool.eq_iff_iff]
  simp only [List.any_eq_true]
  constructor
  · rintro ⟨p, hp, q⟩
    simp at q
    exact ⟨p, hp, by simpa using q.2⟩
  · rintro ⟨p, hp, q⟩
    have := h.cls p hp
    simp [clsB] at this
    simp at q
    exact ⟨p, hp, by simp; exact ⟨⟨this.1, this.2⟩, q⟩⟩
end Go.Proofs.Ytmafllcmkhgidaa
