/-
  Small programs over words, step by step, as plain functions: what a run needs, or writes; and what they do over words.
-/
import Derived.Test.YtonenkgjlmcfkaaMapD
namespace Go.Proofs.Ytonenkgjlmcfkaa
set_option linter.unusedVariables false
set_option linter.unusedSimpArgs false

/-- A number of 64 bits. -/
def W64 (x : Int) : Prop := -9223372036854775808 ≤ x ∧ x ≤ 9223372036854775807
abbrev Ins3 := Int × Int × Int
/-- What a run comes to: a word that is needed, or what was written. -/
inductive Ran where
  | need (a : Int)
  | done (D : List KV)
/-- What is read at an address. -/
def wordV (kn : Int → Option Int) (D : List KV) (a : Int) : Option Int :=
  if a < 0 then some 0 else (look D a).or (kn a)
def writeV (D : List KV) (a x : Int) : List KV := if a < 0 then D else putD D a x
/-- A run, from a step on; the Bool: is the step left out? -/
def runP (kn : Int → Option Int) : List Ins3 → Bool → Int → List KV → Ran
  | [], _, _, D => .done D
  | _ :: r, true, x, D => runP kn r false x D
  | (k, a, b) :: r, false, x, D =>
    if k = 0 then (match wordV kn D a with | none => .need a | some y => runP kn r false y D)
    else if k = 1 then runP kn r false x (writeV D a b)
    else if k = 2 then runP kn r false x (writeV D a x)
    else if k = 3 then (match wordV kn D x with | none => .need x | some y => runP kn r false y D)
    else if k = 4 then runP kn r (decide (x = b)) x D
    else runP kn r false x D

theorem runP_skip (kn : Int → Option Int) (l : List Ins3) (x : Int) (D : List KV) : runP kn l true x D = runP kn (l.drop 1) false x D := by
  cases l <;> rfl
theorem runP_past (kn : Int → Option Int) (l : List Ins3) (i : Nat) (x : Int) (D : List KV) (h : l.length ≤ i) : runP kn (l.drop i) false x D = .done D := by
  rw [List.drop_eq_nil_of_le h]; rfl

def OkP (l : List Ins3) : Prop := ∀ i ∈ l, W64 i.2.1 ∧ W64 i.2.2
def OkK (kn : Int → Option Int) : Prop := ∀ a v, kn a = some v → W64 v
def OkD (D : List KV) : Prop := ∀ p ∈ D, 0 ≤ p.1 ∧ W64 p.1 ∧ W64 p.2

theorem okD_nil : OkD [] := fun p h => by cases h
theorem mem_putD {D : List KV} {k v : Int} {p : KV} (h : p ∈ putD D k v) : p = (k, v) ∨ p ∈ D := by
  unfold putD less more at h
  rw [List.mem_append, List.mem_cons] at h
  rcases h with h | h | h
  · exact .inr (List.mem_filter.1 h).1
  · exact .inl h
  · exact .inr (List.mem_filter.1 h).1
theorem okD_write {D : List KV} (h : OkD D) {a x : Int} (ha : W64 a) (hx : W64 x) : OkD (writeV D a x) := by
  unfold writeV
  split
  · exact h
  · intro p hp
    rcases mem_putD hp with rfl | hp
    · exact ⟨by simp; omega, ha, hx⟩
    · exact h p hp
theorem asc_write {D : List KV} (h : Asc D) (a x : Int) : Asc (writeV D a x) := by
  unfold writeV
  split
  · exact h
  · exact asc_putD h a x
theorem len_write {D : List KV} (h : Asc D) (a x : Int) : (writeV D a x).length ≤ D.length + 1 := by
  unfold writeV
  split
  · omega
  · exact len_putD_le h a x
theorem word_ok {kn : Int → Option Int} (hk : OkK kn) {D : List KV} (hD : OkD D) {a y : Int} (h : wordV kn D a = some y) : W64 y := by
  unfold wordV at h
  split at h
  · cases h; unfold W64; omega
  · cases e : look D a with
    | none => rw [e] at h; exact hk a y (by simpa using h)
    | some v =>
      rw [e] at h
      have : v = y := by simpa using h
      subst this
      exact (hD _ (look_mem e)).2.2
theorem word_none {kn : Int → Option Int} {D : List KV} {a : Int} (h : wordV kn D a = none) : 0 ≤ a ∧ look D a = none ∧ kn a = none := by
  unfold wordV at h
  split at h
  · cases h
  · cases e : look D a with
    | none => rw [e] at h; exact ⟨by omega, rfl, by simpa using h⟩
    | some v => rw [e] at h; simp at h

/-- What a run comes to is in order. -/
def Fine (kn : Int → Option Int) (n : Nat) : Ran → Prop
  | .need a => 0 ≤ a ∧ W64 a ∧ kn a = none
  | .done D => OkD D ∧ Asc D ∧ D.length ≤ n
theorem runP_fine {kn : Int → Option Int} (hk : OkK kn) : ∀ (l : List Ins3) (s : Bool) (x : Int) (D : List KV) (n : Nat), OkP l → W64 x → OkD D → Asc D → D.length + l.length ≤ n → Fine kn n (runP kn l s x D)
  | [], s, x, D, n, _, _, hD, hA, hn => ⟨hD, hA, by simpa using hn⟩
  | i :: r, true, x, D, n, hl, hx, hD, hA, hn => runP_fine hk r false x D n (fun j hj => hl j (by simp [hj])) hx hD hA (by simp at hn; omega)
  | (k, a, b) :: r, false, x, D, n, hl, hx, hD, hA, hn => by
    have hr : OkP r := fun j hj => hl j (by simp [hj])
    obtain ⟨ha, hb⟩ := hl (k, a, b) (by simp)
    simp only [List.length_cons] at hn
    simp only at ha hb
    have h1 := len_write hA a b
    have h2 := len_write hA a x
    unfold runP
    split
    · split
      · rename_i e; exact ⟨(word_none e).1, ha, (word_none e).2.2⟩
      · rename_i y e; exact runP_fine hk r false y D n hr (word_ok hk hD e) hD hA (by omega)
    split
    · exact runP_fine hk r false x _ n hr hx (okD_write hD ha hb) (asc_write hA a b) (by omega)
    split
    · exact runP_fine hk r false x _ n hr hx (okD_write hD ha hx) (asc_write hA a x) (by omega)
    split
    · split
      · rename_i e; exact ⟨(word_none e).1, hx, (word_none e).2.2⟩
      · rename_i y e; exact runP_fine hk r false y D n hr (word_ok hk hD e) hD hA (by omega)
    split
    · exact runP_fine hk r _ x D n hr hx hD hA (by omega)
    · exact runP_fine hk r false x D n hr hx hD hA (by omega)

/-- The step at i, and from there on. -/
theorem drop_step {l : List Ins3} {i : Nat} {s : Ins3} (h : l[i]? = some s) : l.drop i = s :: l.drop (i + 1) := by
  obtain ⟨hi, rfl⟩ := List.getElem?_eq_some_iff.1 h
  exact List.drop_eq_getElem_cons hi
section
variable {kn : Int → Option Int} {l : List Ins3} {i : Nat} {k a b x y : Int} {D : List KV} {R : Ran}
theorem step0_some (h : l[i]? = some (k, a, b)) (hk : k = 0) (hw : wordV kn D a = some y) (hR : runP kn (l.drop i) false x D = R) : runP kn (l.drop (i + 1)) false y D = R := by
  rw [drop_step h] at hR; unfold runP at hR; rw [if_pos hk, hw] at hR; exact hR
theorem step0_none (h : l[i]? = some (k, a, b)) (hk : k = 0) (hw : wordV kn D a = none) (hR : runP kn (l.drop i) false x D = R) : R = .need a := by
  rw [drop_step h] at hR; unfold runP at hR; rw [if_pos hk, hw] at hR; exact hR.symm
theorem step1 (h : l[i]? = some (k, a, b)) (hk : k = 1) (hR : runP kn (l.drop i) false x D = R) : runP kn (l.drop (i + 1)) false x (writeV D a b) = R := by
  rw [drop_step h] at hR; unfold runP at hR; rw [if_neg (by omega), if_pos hk] at hR; exact hR
theorem step2 (h : l[i]? = some (k, a, b)) (hk : k = 2) (hR : runP kn (l.drop i) false x D = R) : runP kn (l.drop (i + 1)) false x (writeV D a x) = R := by
  rw [drop_step h] at hR; unfold runP at hR; rw [if_neg (by omega), if_neg (by omega), if_pos hk] at hR; exact hR
theorem step3_some (h : l[i]? = some (k, a, b)) (hk : k = 3) (hw : wordV kn D x = some y) (hR : runP kn (l.drop i) false x D = R) : runP kn (l.drop (i + 1)) false y D = R := by
  rw [drop_step h] at hR; unfold runP at hR; rw [if_neg (by omega), if_neg (by omega), if_neg (by omega), if_pos hk, hw] at hR; exact hR
theorem step3_none (h : l[i]? = some (k, a, b)) (hk : k = 3) (hw : wordV kn D x = none) (hR : runP kn (l.drop i) false x D = R) : R = .need x := by
  rw [drop_step h] at hR; unfold runP at hR; rw [if_neg (by omega), if_neg (by omega), if_neg (by omega), if_pos hk, hw] at hR; exact hR.symm
theorem step4_yes (h : l[i]? = some (k, a, b)) (hk : k = 4) (hx : x = b) (hR : runP kn (l.drop i) false x D = R) : runP kn (l.drop (i + 2)) false x D = R := by
  rw [drop_step h] at hR; unfold runP at hR; rw [if_neg (by omega), if_neg (by omega), if_neg (by omega), if_neg (by omega), if_pos hk, decide_eq_true hx, runP_skip, List.drop_drop] at hR; exact hR
theorem step4_no (h : l[i]? = some (k, a, b)) (hk : k = 4) (hx : ¬ x = b) (hR : runP kn (l.drop i) false x D = R) : runP kn (l.drop (i + 1)) false x D = R := by
  rw [drop_step h] at hR; unfold runP at hR; rw [if_neg (by omega), if_neg (by omega), if_neg (by omega), if_neg (by omega), if_pos hk, decide_eq_false hx] at hR; exact hR
theorem step5 (h : l[i]? = some (k, a, b)) (h0 : ¬ k = 0) (h1 : ¬ k = 1) (h2 : ¬ k = 2) (h3 : ¬ k = 3) (h4 : ¬ k = 4) (hR : runP kn (l.drop i) false x D = R) : runP kn (l.drop (i + 1)) false x D = R := by
  rw [drop_step h] at hR; unfold runP at hR; rw [if_neg h0, if_neg h1, if_neg h2, if_neg h3, if_neg h4] at hR; exact hR
end
end Go.Proofs.Ytonenkgjlmcfkaa
