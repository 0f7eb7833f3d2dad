/-
  Layer 13: what is pushed is popped, in plain lists.
-/
import Derived.Test.YtmafllcmkhgidaaPurAft
namespace Go.Proofs.Ytmafllcmkhgidaa
open Go.RowKit Go.Shelf
set_option linter.unusedVariables false
set_option linter.unusedSimpArgs false

theorem push_ok {P : Nat → List Int} {c a : Int} (hc : clsB c = true) (hl : ∀ k, (P k).length ≤ 60) : pushB P c 1000 = true := by
  obtain ⟨k, rfl, hk⟩ := clsB_nat hc
  have := hl k
  simp [pushB, hc, lenC_nat P hk]
  omega
theorem push_not {P : Nat → List Int} {c a l : Int} (hc : clsB c = false) : pushB P c l = false ∧ pushP P c a l = P := by
  have : pushB P c l = false := by simp [pushB, hc]
  exact ⟨this, by simp [pushP, this]⟩
theorem pop_push {P : Nat → List Int} {c a l : Int} (h : pushB P c l = true) : popB (pushP P c a l) c = true ∧ popX (pushP P c a l) c = a ∧ popP (pushP P c a l) c = P := by
  have hc : clsB c = true := by simp [pushB] at h; exact h.1
  obtain ⟨k, rfl, hk⟩ := clsB_nat hc
  have e1 : pushP P k a l k = P k ++ [a] := by simp [pushP, h]
  have e2 : ∀ j, j ≠ k → pushP P k a l j = P j := fun j hj => by simp [pushP, h, hj]
  have b : popB (pushP P k a l) k = true := by simp [popB, lenC_nat _ hk, e1]
  refine ⟨b, ?_, ?_⟩
  · simp [popX, b, e1]
  · unfold popP
    rw [if_pos b]
    funext j
    by_cases e : j = k
    · subst e; simp [e1]
    · simp [e, e2 j e]
theorem all_push {P : Nat → List Int} {k : Nat} {a : Int} (hk : k < 5) : (allTo (fun j => if j = k then P j ++ [a] else P j) 5).length = (allTo P 5).length + 1 := by
  have h : ∀ n, (allTo (fun j => if j = k then P j ++ [a] else P j) n).length = (allTo P n).length + (if k < n then 1 else 0) := by
    intro n
    induction n with
    | zero => rfl
    | succ n ih =>
      rw [allTo, allTo, List.length_append, List.length_append, ih]
      by_cases e : n = k
      · subst e; simp; omega
      · rw [if_neg e]
        by_cases q : k < n
        · rw [if_pos q, if_pos (by omega)]; omega
        · rw [if_neg q, if_neg (by omega)]; omega
  rw [h 5, if_pos hk]
theorem all_push' {P : Nat → List Int} {c a l : Int} (h : pushB P c l = true) : (allTo (pushP P c a l) 5).length = (allTo P 5).length + 1 := by
  have hc : clsB c = true := by simp [pushB] at h; exact h.1
  obtain ⟨k, rfl, hk⟩ := clsB_nat hc
  have : pushP P k a l = fun j => if j = k then P j ++ [a] else P j := by simp [pushP, h]
  rw [this]
  exact all_push hk
theorem hasD_mem {xs : List Int} {k : Nat} (hk : k < xs.length) : hasD xs (xs.getD k 0) = true := hasD_at hk rfl
theorem all_len {P : Nat → List Int} {m : Nat} (hl : ∀ k, (P k).length ≤ m) : (allTo P 5).length ≤ 5 * m := by
  have : ∀ n, (allTo P n).length ≤ n * m := by
    intro n
    induction n with
    | zero => simp [allTo]
    | succ n ih => rw [allTo, List.length_append, Nat.succ_mul]; have := hl n; omega
  exact this 5
end Go.Proofs.Ytmafllcmkhgidaa
