/-
  What a program that only writes comes to, as plain lists.
-/
import Derived.Test.YtjoeminkdafmaaaViewRuns
namespace Go.Proofs.Ytjoeminkdafmaaa
set_option linter.unusedVariables false
set_option linter.unusedSimpArgs false

/-- Each pair written, in a row. -/
def insOf (l : List KV) : List Ins3 := l.map fun p => (1, p.1, p.2)
def wroteD (l : List KV) : List KV := l.foldl (fun D p => writeV D p.1 p.2) []
theorem runP_writes (kn : Int → Option Int) (x : Int) : ∀ (l : List KV) (D : List KV), runP kn (insOf l) false x D = .done (l.foldl (fun D p => writeV D p.1 p.2) D)
  | [], D => rfl
  | p :: l, D => by
    have := runP_writes kn x l (writeV D p.1 p.2)
    show runP kn ((1, p.1, p.2) :: insOf l) false x D = _
    unfold runP
    rw [if_neg (by omega), if_pos rfl]
    exact this
theorem wroteD_snoc (l : List KV) (p : KV) : wroteD (l ++ [p]) = writeV (wroteD l) p.1 p.2 := by unfold wroteD; rw [List.foldl_append]; rfl
theorem wroteD_asc : ∀ (n : Nat) (l : List KV), l.length = n → Asc (wroteD l)
  | 0, l, h => by
    have := List.length_eq_zero_iff.1 h; subst this; exact asc_nil
  | n + 1, l, h => by
    obtain ⟨l', p, rfl⟩ : ∃ l' p, l = l' ++ [p] := by
      have h0 : l ≠ [] := by intro e; rw [e] at h; simp at h
      exact ⟨l.dropLast, l.getLast h0, (List.dropLast_concat_getLast h0).symm⟩
    rw [wroteD_snoc]
    exact asc_write (wroteD_asc n l' (by simp at h; exact h)) _ _
/-- The last place with an address, among the first m; -1: none. -/
def lastIx (l : List KV) (a : Int) : Nat → Int
  | 0 => -1
  | m + 1 => if (pairAt l m).1 = a then (m : Int) else lastIx l a m
theorem lastIx_succ (l : List KV) (a : Int) (m : Nat) : lastIx l a (m + 1) = if (pairAt l m).1 = a then (m : Int) else lastIx l a m := rfl
theorem lastIx_lt (l : List KV) (a : Int) : ∀ m, lastIx l a m < m
  | 0 => by unfold lastIx; omega
  | m + 1 => by have := lastIx_lt l a m; unfold lastIx; split <;> omega
theorem lastIx_ge (l : List KV) (a : Int) : ∀ m, -1 ≤ lastIx l a m
  | 0 => by unfold lastIx; omega
  | m + 1 => by have := lastIx_ge l a m; unfold lastIx; split <;> omega
theorem pairAt_get {l : List KV} {i : Nat} (h : i < l.length) : l[i]? = some (pairAt l i) := by
  unfold pairAt; rw [List.getElem?_eq_getElem h]; simp [List.getD, h]
theorem look_write {D : List KV} (h : Asc D) (a x y : Int) : look (writeV D a x) y = if 0 ≤ a ∧ y = a then some x else look D y := by
  unfold writeV
  by_cases q : a < 0
  · rw [if_pos q, if_neg (by omega)]
  · rw [if_neg q, look_putD h]
    by_cases r : y = a
    · rw [if_pos r, if_pos ⟨by omega, r⟩]
    · rw [if_neg r, if_neg (fun e => r e.2)]
theorem look_wrote (l : List KV) (a : Int) : ∀ m, m ≤ l.length → look (wroteD (l.take m)) a = if 0 ≤ a ∧ 0 ≤ lastIx l a m then some (pairAt l (lastIx l a m).toNat).2 else none
  | 0, _ => by rw [if_neg (by unfold lastIx; omega)]; rfl
  | m + 1, hm => by
    rw [List.take_add_one, pairAt_get (show m < l.length by omega), Option.toList_some, wroteD_snoc, look_write (wroteD_asc _ _ rfl), look_wrote l a m (by omega), lastIx_succ]
    by_cases q : (pairAt l m).1 = a
    · rw [if_pos q]
      by_cases r : 0 ≤ a
      · rw [if_pos ⟨by omega, q.symm⟩, if_pos ⟨r, by omega⟩]; simp
      · rw [if_neg (by omega), if_neg (by omega), if_neg (by omega)]
    · rw [if_neg q, if_neg (fun e => q e.2.symm)]
theorem wrote_all (l : List KV) (a : Int) : look (wroteD l) a = if 0 ≤ a ∧ 0 ≤ lastIx l a l.length then some (pairAt l (lastIx l a l.length).toNat).2 else none := by
  have := look_wrote l a l.length (Nat.le_refl _)
  rwa [List.take_length] at this
/-- Of each pair that was written: the last place, and what stands there. -/
theorem wrote_at {l : List KV} {i : Nat} {p : KV} (h : (wroteD l)[i]? = some p) : 0 ≤ p.1 ∧ ∃ j : Nat, lastIx l p.1 l.length = j ∧ j < l.length ∧ (pairAt l j).2 = p.2 := by
  have h1 := look_of_mem (wroteD_asc _ l rfl).once (k := p.1) (v := p.2) (List.mem_of_getElem? h)
  rw [wrote_all] at h1
  split at h1
  · rename_i q
    have h2 := lastIx_lt l p.1 l.length
    exact ⟨q.1, (lastIx l p.1 l.length).toNat, by omega, by omega, by simpa using h1⟩
  · cases h1
theorem wrote_rise {l : List KV} {i : Nat} {p q : KV} (h : (wroteD l)[i]? = some p) (h' : (wroteD l)[i + 1]? = some q) : p.1 < q.1 := by
  obtain ⟨l1, e1⟩ := List.getElem?_eq_some_iff.1 h
  obtain ⟨l2, e2⟩ := List.getElem?_eq_some_iff.1 h'
  have := List.pairwise_iff_getElem.1 (wroteD_asc _ l rfl) i (i + 1) l1 l2 (by omega)
  rw [e1, e2] at this; exact this
/-- Is the address among the first i that were written, or below 0? -/
def foundAt (D : List KV) (a : Int) (i : Nat) : Bool := decide (a < 0) || (D.take i).any fun p => p.1 == a
theorem foundAt_succ {D : List KV} {a : Int} {i : Nat} {p : KV} (h : D[i]? = some p) : foundAt D a (i + 1) = (foundAt D a i || (p.1 == a)) := by
  unfold foundAt
  rw [List.take_add_one, h, Option.toList_some, List.any_append, Bool.or_assoc]
  simp
theorem foundAt_zero (D : List KV) (a : Int) : foundAt D a 0 = decide (a < 0) := by simp [foundAt]
theorem lastIx_has (l : List KV) (a : Int) : ∀ m k, k < m → (pairAt l k).1 = a → 0 ≤ lastIx l a m
  | 0, k, h, _ => by omega
  | m + 1, k, h, e => by
    unfold lastIx
    split
    · omega
    · rename_i q
      by_cases r : k = m
      · subst r; exact absurd e q
      · exact lastIx_has l a m k (by omega) e
theorem found_all {l : List KV} {k : Nat} (hk : k < l.length) : foundAt (wroteD l) (pairAt l k).1 (wroteD l).length = true := by
  unfold foundAt
  rw [List.take_length]
  by_cases q : (pairAt l k).1 < 0
  · simp [q]
  · have h1 := wrote_all l (pairAt l k).1
    rw [if_pos ⟨by omega, lastIx_has l _ _ k hk rfl⟩] at h1
    have := look_mem h1
    rw [Bool.or_eq_true, List.any_eq_true]
    exact .inr ⟨_, this, by simp⟩
end Go.Proofs.Ytjoeminkdafmaaa
