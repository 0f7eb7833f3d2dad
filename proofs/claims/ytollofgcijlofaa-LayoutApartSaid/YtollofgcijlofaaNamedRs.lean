/-
  Where the names of an arena stand, as far as they have been listed: plain numbers.
-/
import Derived.Test.YtollofgcijlofaaLayPlain
namespace Go.Proofs.Ytollofgcijlofaa
set_option linter.unusedVariables false

/-- The first words: from 3 to ahead of t. -/
def Ra (t x : Int) : Prop := 3 ≤ x ∧ x < t
/-- The first words to ahead of t, and of five parts of pg words each, that begin at t, the first k of each. -/
def Rp (t pg k x : Int) : Prop := (3 ≤ x ∧ x < t + k) ∨ (t + pg ≤ x ∧ x < t + pg + k) ∨ (t + 2 * pg ≤ x ∧ x < t + 2 * pg + k) ∨ (t + 3 * pg ≤ x ∧ x < t + 3 * pg + k) ∨ (t + 4 * pg ≤ x ∧ x < t + 4 * pg + k)
/-- Caches' words, from c on: of all classes ahead of q, and of q those of the CPUs ahead of u, and of u those ahead of i. -/
def Rc (cp ca c q u i x : Int) : Prop := ∃ v d j : Int, 0 ≤ v ∧ v < cp ∧ 0 ≤ d ∧ d ≤ 4 ∧ 0 ≤ j ∧ j ≤ ca ∧ x = c + (5 * v + d) * (ca + 1) + j ∧ (d < q ∨ (d = q ∧ (v < u ∨ (v = u ∧ j < i))))
/-- All words to ahead of h, caches' words as above, and words from b to ahead of e. -/
def Rq (h b e cp ca c q u i x : Int) : Prop := (3 ≤ x ∧ x < h) ∨ (b ≤ x ∧ x < e) ∨ Rc cp ca c q u i x
/-- All words to ahead of l + k, and k user words from s on. -/
def Ru (l s k x : Int) : Prop := (3 ≤ x ∧ x < l + k) ∨ (s ≤ x ∧ x < s + k)

theorem rc_range {cp ca c q u i x : Int} (hca : 0 ≤ ca) (h : Rc cp ca c q u i x) : c ≤ x ∧ x < c + 5 * cp * (ca + 1) := by
  obtain ⟨v, d, j, v0, v1, d0, d1, j0, j1, rfl, _⟩ := h
  have h3 : (5 * v + d) * (ca + 1) ≤ (5 * cp - 1) * (ca + 1) := Int.mul_le_mul_of_nonneg_right (by omega) (by omega)
  have h4 : (5 * cp - 1) * (ca + 1) = 5 * cp * (ca + 1) - (ca + 1) := by rw [Int.sub_mul, Int.one_mul]
  have h5 : 0 ≤ (5 * v + d) * (ca + 1) := Int.mul_nonneg (by omega) (by omega)
  omega
/-- A place tells its CPU, its class and its number. -/
theorem place_one {m a b i j : Int} (hm : 0 < m) (i0 : 0 ≤ i) (i1 : i < m) (j0 : 0 ≤ j) (j1 : j < m) (h : a * m + i = b * m + j) : a = b ∧ i = j := by
  have key : ∀ a b i j : Int, 0 ≤ i → i < m → 0 ≤ j → j < m → a * m + i = b * m + j → ¬ a < b := by
    intro a b i j i0 i1 j0 j1 h q
    have h1 : (a + 1) * m ≤ b * m := Int.mul_le_mul_of_nonneg_right (by omega) (by omega)
    rw [Int.add_mul, Int.one_mul] at h1
    omega
  have e : a = b := by
    have := key a b i j i0 i1 j0 j1 h
    have := key b a j i j0 j1 i0 i1 h.symm
    omega
  subst e
  exact ⟨rfl, by omega⟩
theorem rc_new {cp ca c q u i : Int} (hca : 0 ≤ ca) (q0 : 0 ≤ q) (q4 : q ≤ 4) (i0 : 0 ≤ i) (i1 : i ≤ ca) : ¬ Rc cp ca c q u i (c + (5 * u + q) * (ca + 1) + i) := by
  rintro ⟨v, d, j, v0, v1, d0, d1, j0, j1, h, k⟩
  obtain ⟨h1, h2⟩ := place_one (m := ca + 1) (a := 5 * u + q) (b := 5 * v + d) (i := i) (j := j) (by omega) (by omega) (by omega) (by omega) (by omega) (by omega)
  omega
theorem rc_it {cp ca c q u i : Int} (hca : 0 ≤ ca) (q0 : 0 ≤ q) (q4 : q ≤ 4) (i0 : 0 ≤ i) (i1 : i ≤ ca) (u0 : 0 ≤ u) (u1 : u < cp) : Rc cp ca c q u (i + 1) (c + (5 * u + q) * (ca + 1) + i) :=
  ⟨u, q, i, u0, u1, q0, q4, i0, i1, rfl, by omega⟩
theorem rc_more {cp ca c q u i x : Int} (h : Rc cp ca c q u i x) : Rc cp ca c q u (i + 1) x := by
  obtain ⟨v, d, j, v0, v1, d0, d1, j0, j1, h, k⟩ := h
  exact ⟨v, d, j, v0, v1, d0, d1, j0, j1, h, by omega⟩
theorem rc_cpu {cp ca c q u x : Int} (h : Rc cp ca c q u (ca + 1) x) : Rc cp ca c q (u + 1) 0 x := by
  obtain ⟨v, d, j, v0, v1, d0, d1, j0, j1, h, k⟩ := h
  exact ⟨v, d, j, v0, v1, d0, d1, j0, j1, h, by omega⟩
theorem rc_class {cp ca c q x : Int} (h : Rc cp ca c q cp 0 x) : Rc cp ca c (q + 1) 0 0 x := by
  obtain ⟨v, d, j, v0, v1, d0, d1, j0, j1, h, k⟩ := h
  exact ⟨v, d, j, v0, v1, d0, d1, j0, j1, h, by omega⟩
theorem rc_none {cp ca c x : Int} : ¬ Rc cp ca c 0 0 0 x := by
  rintro ⟨v, d, j, v0, v1, d0, d1, j0, j1, h, k⟩
  omega

end Go.Proofs.Ytollofgcijlofaa
