/-
  Arguments as the walks are told of them: a slice of integers, a struct of four integers, a slice of such structs.
-/
import Derived.Test.YtmafllcmkhgidaaBase
import Derived.ProofKit
import Derived.OpenShut
import Derived.Deep.Slices
import Derived.Deep.Fields
import Derived.Lib.SmallJoins
namespace Go.Proofs.Ytmafllcmkhgidaa
open Go.ChangeShapes Go.WideShapes Go.ChangeAt Go.RowKit Go.Joins Go.Deep
set_option linter.unusedVariables false
set_option linter.unusedSimpArgs false

/-- A slice of integers: it is empty, or leads to its elements zs. -/
def IsInts (w : World) (a : Option Addr) (zs : List Int) : Prop :=
  zs = [] ∨ ∃ s o, a = some ⟨s, o, none⟩ ∧ s < w.heap.size ∧ (∀ i, i < zs.length → w.cell? ⟨s, o + i, none⟩ = some (.int .i64 (wordAt zs i))) ∧ ∀ z ∈ zs, (Lit.int .i64 z).wf = true

/-- A slice of structs of four integers: it is empty, or leads to them. -/
def IsFours (w : World) (a : Option Addr) (len : Nat) (f : Nat → Nat → Int) : Prop :=
  len = 0 ∨ ∃ s o, a = some ⟨s, o, none⟩ ∧ s < w.heap.size ∧ ∀ i, i < len → ∀ j, j < 4 → w.cell? ⟨s, o + (i * 4 + j), none⟩ = some (.int .i64 (f i j)) ∧ (Lit.int .i64 (f i j)).wf = true

section
variable {H : Type} {enc : TypeId × Value → H} {P : Program} {w : World} {base : Nat} {spare : Nat → Bool} {held : Bool}

theorem isInts_of {t e : TypeId} {a : Option Addr} {len cap : Nat} {d : DataW H} {p : List MemPlace} (ht : P.underlying t = some (.slice e)) (he : P.underlying e = some (.int .i64)) (hc : P.cellsOf e = 1)
    (h : DataW.Trod enc P w base spare held t (.slice a len cap) d p) : ∃ zs : List Int, zs.length = len ∧ IsInts w a zs ∧ zs.length ≤ 9223372036854775807 := by
  obtain ⟨fuel, hf⟩ := h
  rcases open_ints ht he hc hf with ⟨hcs, _⟩ | ⟨x, l, c, zs, hcs, _, hl, hm, hz, _, hcell, hwz⟩
  · simp [Value.cells] at hcs
    obtain ⟨rfl, rfl, rfl⟩ := hcs
    exact ⟨[], rfl, .inl rfl, by simp⟩
  · simp [Value.cells] at hcs
    obtain ⟨rfl, rfl, rfl⟩ := hcs
    by_cases h0 : len = 0
    · subst h0; exact ⟨[], rfl, .inl rfl, by simp⟩
    · obtain ⟨s, o, spot⟩ := x
      have hlen : len ≤ zs.length := by
        have := hz; split at this <;> omega
      have hspot : spot = none := by simpa [Addr.add] using World.cell?_spot (hcell 0 (by omega))
      subst hspot
      have hcl : ∀ i, i < zs.length → w.cell? ⟨s, o + i, none⟩ = some (.int .i64 (zs.getD i 0)) := fun i hi => by rw [← addr_add]; exact hcell i hi
      have hm' : cap ≤ 9223372036854775807 := by unfold maxLen at hm; exact hm
      refine ⟨zs.take len, by simp; omega, .inr ⟨s, o, rfl, lt_of_cell (hcl 0 (by omega)), fun i hi => ?_, fun z hz' => hwz z (List.mem_of_mem_take hz')⟩, by simp; omega⟩
      have hi' : i < len := by simp at hi; omega
      rw [hcl i (by omega)]
      simp [wordAt, List.getD, List.getElem?_take, hi']

theorem open_four {r : Reach} {b0 : Nat} {t : TypeId} {f0 f1 f2 f3 : Field} {v : Value} {d : DataW H} {p : List MemPlace} (hs : P.underlying t = some (.struct #[f0, f1, f2, f3])) (hone : oneCellFields P #[f0, f1, f2, f3] = true) (hC : P.cellsOf t = 4)
    (u0 : P.underlying f0.type = some (.int .i64)) (u1 : P.underlying f1.type = some (.int .i64)) (u2 : P.underlying f2.type = some (.int .i64)) (u3 : P.underlying f3.type = some (.int .i64))
    (hv : Value.okWide P w r b0 t v) (h : DataW.Trod enc P w base spare held t v d p) :
    ∃ x0 x1 x2 x3 : Int, v = .agg #[.int .i64 x0, .int .i64 x1, .int .i64 x2, .int .i64 x3] ∧ (Lit.int .i64 x0).wf = true ∧ (Lit.int .i64 x1).wf = true ∧ (Lit.int .i64 x2).wf = true ∧ (Lit.int .i64 x3).wf = true := by
  obtain ⟨v0, v1, v2, v3, y0, y1, y2, y3, n, rfl, _, _, h0, h1, h2, h3⟩ := open_agg4 hs hone hC hv h
  obtain ⟨x0, e0, _, w0⟩ := DataW.trod_int u0 h0
  obtain ⟨x1, e1, _, w1⟩ := DataW.trod_int u1 h1
  obtain ⟨x2, e2, _, w2⟩ := DataW.trod_int u2 h2
  obtain ⟨x3, e3, _, w3⟩ := DataW.trod_int u3 h3
  simp only [List.cons.injEq, and_true] at e0 e1 e2 e3
  subst e0 e1 e2 e3
  exact ⟨x0, x1, x2, x3, rfl, w0, w1, w2, w3⟩

theorem isFours_of {t e : TypeId} {f0 f1 f2 f3 : Field} {a : Option Addr} {len cap : Nat} {d : DataW H} {p : List MemPlace} (ht : P.underlying t = some (.slice e)) (hs : P.underlying e = some (.struct #[f0, f1, f2, f3])) (hone : oneCellFields P #[f0, f1, f2, f3] = true) (hC : P.cellsOf e = 4)
    (u0 : P.underlying f0.type = some (.int .i64)) (u1 : P.underlying f1.type = some (.int .i64)) (u2 : P.underlying f2.type = some (.int .i64)) (u3 : P.underlying f3.type = some (.int .i64))
    (h : DataW.Trod enc P w base spare held t (.slice a len cap) d p) : ∃ f : Nat → Nat → Int, IsFours w a len f ∧ len ≤ 9223372036854775807 := by
  obtain ⟨fuel, hf⟩ := h
  rcases open_slice ht hf with ⟨hcs, _⟩ | ⟨x, l, c, m, n, D, Pl, hcs, _, hl, hm, hmm, _, hi⟩
  · simp [Value.cells] at hcs
    obtain ⟨rfl, rfl, rfl⟩ := hcs
    exact ⟨fun _ _ => 0, .inl rfl, by omega⟩
  · simp [Value.cells] at hcs
    obtain ⟨rfl, rfl, rfl⟩ := hcs
    have key : ∀ i, i < len → ∃ g : Nat → Int, ∀ j, j < 4 → w.cell? (x.add (i * 4 + j)) = some (.int .i64 (g j)) ∧ (Lit.int .i64 (g j)).wf = true := by
      intro i hil
      obtain ⟨cs', hc, ht'⟩ := hi i (by have := hmm; split at this <;> omega)
      rw [hC] at hc
      obtain ⟨_, hcl, hat⟩ := World.cells?_some hc
      obtain ⟨c0, c1, c2, c3, rfl⟩ : ∃ c0 c1 c2 c3, cs' = [c0, c1, c2, c3] := by
        match cs', hcl with
        | [c0, c1, c2, c3], _ => exact ⟨c0, c1, c2, c3, rfl⟩
      obtain ⟨y0, y1, y2, y3, n', _, _, h0, h1, h2, h3⟩ := trod_struct4 hs ht'
      obtain ⟨o0, k0⟩ := hone_of hone 0 f0 rfl
      obtain ⟨o1, k1⟩ := hone_of hone 1 f1 rfl
      obtain ⟨o2, k2⟩ := hone_of hone 2 f2 rfl
      obtain ⟨o3, k3⟩ := hone_of hone 3 f3 rfl
      rw [o0, k0] at h0; rw [o1, k1] at h1; rw [o2, k2] at h2; rw [o3, k3] at h3
      obtain ⟨x0, e0, _, w0⟩ := DataW.trod_int u0 h0
      obtain ⟨x1, e1, _, w1⟩ := DataW.trod_int u1 h1
      obtain ⟨x2, e2, _, w2⟩ := DataW.trod_int u2 h2
      obtain ⟨x3, e3, _, w3⟩ := DataW.trod_int u3 h3
      simp at e0 e1 e2 e3
      subst e0 e1 e2 e3
      refine ⟨fun j => match j with | 0 => x0 | 1 => x1 | 2 => x2 | _ => x3, fun j hj => ?_⟩
      have := hat j hj
      rw [Go.Deep.add_add] at this
      rw [this]
      match j, hj with
      | 0, _ => exact ⟨rfl, w0⟩
      | 1, _ => exact ⟨rfl, w1⟩
      | 2, _ => exact ⟨rfl, w2⟩
      | 3, _ => exact ⟨rfl, w3⟩
    by_cases h0 : len = 0
    · exact ⟨fun _ _ => 0, .inl h0, by omega⟩
    · obtain ⟨s, o, spot⟩ := x
      obtain ⟨g0, hg0⟩ := key 0 (by omega)
      have hspot : spot = none := by simpa [Addr.add] using World.cell?_spot (hg0 0 (by omega)).1
      subst hspot
      have hF : ∀ i, ∃ g : Nat → Int, i < len → ∀ j, j < 4 → w.cell? ⟨s, o + (i * 4 + j), none⟩ = some (.int .i64 (g j)) ∧ (Lit.int .i64 (g j)).wf = true := by
        intro i
        by_cases hil : i < len
        · obtain ⟨g, hg⟩ := key i hil
          exact ⟨g, fun _ j hj => by rw [← addr_add]; exact hg j hj⟩
        · exact ⟨fun _ => 0, fun q => absurd q hil⟩
      have hm' : cap ≤ 9223372036854775807 := by unfold maxLen at hm; exact hm
      refine ⟨fun i => Classical.choose (hF i), .inr ⟨s, o, rfl, ?_, fun i hil => Classical.choose_spec (hF i) hil⟩, by omega⟩
      exact lt_of_cell (Classical.choose_spec (hF 0) (by omega) 0 (by omega)).1
end

end Go.Proofs.Ytmafllcmkhgidaa
