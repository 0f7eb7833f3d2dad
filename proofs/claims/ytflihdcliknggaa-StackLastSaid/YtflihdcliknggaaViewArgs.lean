/-
  Arguments as the walks of layer 7 are told of them: slices of pairs, of steps, of integers.
-/
import Derived.Test.YtflihdcliknggaaViewDo
import Derived.ProofKit
import Derived.OpenShut
import Derived.Deep.Slices
import Derived.Deep.Fields
import Derived.Lib.SmallJoins
namespace Go.Proofs.Ytflihdcliknggaa
open Go.ChangeShapes Go.WideShapes Go.ChangeAt Go.RowKit Go.Joins Go.Deep
set_option linter.unusedVariables false
set_option linter.unusedSimpArgs false

theorem addr_add' (b o j : Nat) : (⟨b, o, none⟩ : Addr).add j = ⟨b, o + j, none⟩ := by
  unfold Addr.add
  by_cases q : j = 0
  · subst q; simp
  · simp [q]
theorem list_get {α : Type} {n : Nat} {f : Nat → α} {i : Nat} {t : α} (h : ((List.range n).map f)[i]? = some t) : i < n ∧ t = f i := by
  rw [List.getElem?_map] at h
  by_cases q : i < n
  · rw [List.getElem?_range q] at h; exact ⟨q, by simpa using h.symm⟩
  · rw [List.getElem?_eq_none (by simpa using q)] at h; cases h
section
variable {H : Type} {enc : TypeId × Value → H} {P : Program} {w : World} {base : Nat} {spare : Nat → Bool} {held : Bool}

theorem isPairs_of {t e : TypeId} {f0 f1 : Field} {a : Option Addr} {len cap : Nat} {d : DataW H} {p : List MemPlace} (ht : P.underlying t = some (.slice e)) (hs : P.underlying e = some (.struct #[f0, f1])) (hone : oneCellFields P #[f0, f1] = true) (hC : P.cellsOf e = 2)
    (u0 : P.underlying f0.type = some (.int .i64)) (u1 : P.underlying f1.type = some (.int .i64))
    (h : DataW.Trod enc P w base spare held t (.slice a len cap) d p) : ∃ l : List KV, l.length = len ∧ IsPairs w a l ∧ OkPs l ∧ l.length ≤ 9223372036854775807 := by
  obtain ⟨fuel, hf⟩ := h
  have zero : ∀ n, len = n → n = 0 → ∃ l : List KV, l.length = len ∧ IsPairs w a l ∧ OkPs l ∧ l.length ≤ 9223372036854775807 := fun n h0 h1 => ⟨[], by rw [h0, h1]; rfl, .inl rfl, (fun p hp => by cases hp), by simp⟩
  rcases open_slice ht hf with ⟨hcs, _⟩ | ⟨x, l, c, m, n, D, Pl, hcs, _, hl, hm, hmm, _, hi⟩
  · simp [Value.cells] at hcs
    obtain ⟨rfl, rfl, rfl⟩ := hcs
    exact zero _ rfl rfl
  · simp [Value.cells] at hcs
    obtain ⟨rfl, rfl, rfl⟩ := hcs
    have key : ∀ i, i < len → ∃ g : KV, w.cell? (x.add (i * 2)) = some (.int .i64 g.1) ∧ w.cell? (x.add (i * 2 + 1)) = some (.int .i64 g.2) ∧ W64 g.1 ∧ W64 g.2 := by
      intro i hil
      obtain ⟨cs', hc, ht'⟩ := hi i (by have := hmm; split at this <;> omega)
      rw [hC] at hc
      obtain ⟨_, hcl, hat⟩ := World.cells?_some hc
      obtain ⟨c0, c1, rfl⟩ : ∃ c0 c1, cs' = [c0, c1] := by
        match cs', hcl with
        | [c0, c1], _ => exact ⟨c0, c1, rfl⟩
      obtain ⟨y0, y1, n', _, _, h0, h1⟩ := trod_struct2 hs ht'
      obtain ⟨o0, k0⟩ := hone_of hone 0 f0 rfl
      obtain ⟨o1, k1⟩ := hone_of hone 1 f1 rfl
      rw [o0, k0] at h0; rw [o1, k1] at h1
      obtain ⟨x0, e0, _, w0⟩ := DataW.trod_int u0 h0
      obtain ⟨x1, e1, _, w1⟩ := DataW.trod_int u1 h1
      simp at e0 e1
      subst e0 e1
      have a0 := hat 0 (by omega)
      have a1 := hat 1 (by omega)
      rw [Go.Deep.add_add] at a0 a1
      exact ⟨(x0, x1), a0, a1, of_wf w0, of_wf w1⟩
    by_cases h0 : len = 0
    · exact zero _ rfl h0
    · obtain ⟨s, o, spot⟩ := x
      obtain ⟨g0, hg0, _⟩ := key 0 (by omega)
      have hspot : spot = none := by simpa [Addr.add] using World.cell?_spot hg0
      subst hspot
      have hF : ∀ i, ∃ g : KV, i < len → w.cell? ⟨s, o + i * 2, none⟩ = some (.int .i64 g.1) ∧ w.cell? ⟨s, o + i * 2 + 1, none⟩ = some (.int .i64 g.2) ∧ W64 g.1 ∧ W64 g.2 := by
        intro i
        by_cases hil : i < len
        · obtain ⟨g, hg⟩ := key i hil
          exact ⟨g, fun _ => by simp only [Nat.add_assoc]; simp only [← addr_add']; exact hg⟩
        · exact ⟨(0, 0), fun q => absurd q hil⟩
      have hm' : cap ≤ 9223372036854775807 := by unfold maxLen at hm; exact hm
      have hspec := fun i hil => Classical.choose_spec (hF i) hil
      refine ⟨(List.range len).map fun i => Classical.choose (hF i), by simp, .inr ⟨s, o, rfl, lt_of_cell (hspec 0 (by omega)).1, fun i t ht => ?_⟩, fun t ht => ?_, by simp; omega⟩
      · obtain ⟨hil, rfl⟩ := list_get ht
        have q := hspec i hil
        exact ⟨q.1, q.2.1⟩
      · obtain ⟨i, hi', rfl⟩ := List.mem_map.1 ht
        have q := hspec i (by simpa using hi')
        exact ⟨q.2.2.1, q.2.2.2⟩

theorem isIns_of {t e : TypeId} {f0 f1 f2 : Field} {a : Option Addr} {len cap : Nat} {d : DataW H} {p : List MemPlace} (ht : P.underlying t = some (.slice e)) (hs : P.underlying e = some (.struct #[f0, f1, f2])) (hone : oneCellFields P #[f0, f1, f2] = true) (hC : P.cellsOf e = 3)
    (u0 : P.underlying f0.type = some (.int .i64)) (u1 : P.underlying f1.type = some (.int .i64)) (u2 : P.underlying f2.type = some (.int .i64))
    (h : DataW.Trod enc P w base spare held t (.slice a len cap) d p) : ∃ l : List Ins3, l.length = len ∧ IsIns w a l ∧ OkP l ∧ l.length ≤ 9223372036854775807 := by
  obtain ⟨fuel, hf⟩ := h
  have zero : ∀ n, len = n → n = 0 → ∃ l : List Ins3, l.length = len ∧ IsIns w a l ∧ OkP l ∧ l.length ≤ 9223372036854775807 := fun n h0 h1 => ⟨[], by rw [h0, h1]; rfl, .inl rfl, (fun p hp => by cases hp), by simp⟩
  rcases open_slice ht hf with ⟨hcs, _⟩ | ⟨x, l, c, m, n, D, Pl, hcs, _, hl, hm, hmm, _, hi⟩
  · simp [Value.cells] at hcs
    obtain ⟨rfl, rfl, rfl⟩ := hcs
    exact zero _ rfl rfl
  · simp [Value.cells] at hcs
    obtain ⟨rfl, rfl, rfl⟩ := hcs
    have key : ∀ i, i < len → ∃ g : Ins3, w.cell? (x.add (i * 3)) = some (.int .i64 g.1) ∧ w.cell? (x.add (i * 3 + 1)) = some (.int .i64 g.2.1) ∧ w.cell? (x.add (i * 3 + 2)) = some (.int .i64 g.2.2) ∧ W64 g.1 ∧ W64 g.2.1 ∧ W64 g.2.2 := by
      intro i hil
      obtain ⟨cs', hc, ht'⟩ := hi i (by have := hmm; split at this <;> omega)
      rw [hC] at hc
      obtain ⟨_, hcl, hat⟩ := World.cells?_some hc
      obtain ⟨c0, c1, c2, rfl⟩ : ∃ c0 c1 c2, cs' = [c0, c1, c2] := by
        match cs', hcl with
        | [c0, c1, c2], _ => exact ⟨c0, c1, c2, rfl⟩
      obtain ⟨y0, y1, y2, n', _, _, h0, h1, h2⟩ := trod_struct3 hs ht'
      obtain ⟨o0, k0⟩ := hone_of hone 0 f0 rfl
      obtain ⟨o1, k1⟩ := hone_of hone 1 f1 rfl
      obtain ⟨o2, k2⟩ := hone_of hone 2 f2 rfl
      rw [o0, k0] at h0; rw [o1, k1] at h1; rw [o2, k2] at h2
      obtain ⟨x0, e0, _, w0⟩ := DataW.trod_int u0 h0
      obtain ⟨x1, e1, _, w1⟩ := DataW.trod_int u1 h1
      obtain ⟨x2, e2, _, w2⟩ := DataW.trod_int u2 h2
      simp at e0 e1 e2
      subst e0 e1 e2
      have a0 := hat 0 (by omega)
      have a1 := hat 1 (by omega)
      have a2 := hat 2 (by omega)
      rw [Go.Deep.add_add] at a0 a1 a2
      exact ⟨(x0, x1, x2), a0, a1, a2, of_wf w0, of_wf w1, of_wf w2⟩
    by_cases h0 : len = 0
    · exact zero _ rfl h0
    · obtain ⟨s, o, spot⟩ := x
      obtain ⟨g0, hg0, _⟩ := key 0 (by omega)
      have hspot : spot = none := by simpa [Addr.add] using World.cell?_spot hg0
      subst hspot
      have hF : ∀ i, ∃ g : Ins3, i < len → w.cell? ⟨s, o + i * 3, none⟩ = some (.int .i64 g.1) ∧ w.cell? ⟨s, o + i * 3 + 1, none⟩ = some (.int .i64 g.2.1) ∧ w.cell? ⟨s, o + i * 3 + 2, none⟩ = some (.int .i64 g.2.2) ∧ W64 g.1 ∧ W64 g.2.1 ∧ W64 g.2.2 := by
        intro i
        by_cases hil : i < len
        · obtain ⟨g, hg⟩ := key i hil
          exact ⟨g, fun _ => by simp only [Nat.add_assoc]; simp only [← addr_add']; exact hg⟩
        · exact ⟨(0, 0, 0), fun q => absurd q hil⟩
      have hm' : cap ≤ 9223372036854775807 := by unfold maxLen at hm; exact hm
      have hspec := fun i hil => Classical.choose_spec (hF i) hil
      refine ⟨(List.range len).map fun i => Classical.choose (hF i), by simp, .inr ⟨s, o, rfl, lt_of_cell (hspec 0 (by omega)).1, fun i t ht => ?_⟩, fun t ht => ?_, by simp; omega⟩
      · obtain ⟨hil, rfl⟩ := list_get ht
        have q := hspec i hil
        exact ⟨q.1, q.2.1, q.2.2.1⟩
      · obtain ⟨i, hi', rfl⟩ := List.mem_map.1 ht
        have q := hspec i (by simpa using hi')
        exact ⟨q.2.2.2.2.1, q.2.2.2.2.2⟩

theorem isWords_of {t e : TypeId} {a : Option Addr} {len cap : Nat} {d : DataW H} {p : List MemPlace} (ht : P.underlying t = some (.slice e)) (he : P.underlying e = some (.int .i64)) (hc : P.cellsOf e = 1)
    (h : DataW.Trod enc P w base spare held t (.slice a len cap) d p) : ∃ zs : List Int, zs.length = len ∧ IsWords w a zs ∧ OkW zs ∧ zs.length ≤ 9223372036854775807 := by
  obtain ⟨fuel, hf⟩ := h
  rcases open_ints ht he hc hf with ⟨hcs, _⟩ | ⟨x, l, c, zs, hcs, _, hl, hm, hz, _, hcell, hwz⟩
  · simp [Value.cells] at hcs
    obtain ⟨rfl, rfl, rfl⟩ := hcs
    exact ⟨[], rfl, .inl rfl, (fun p hp => by cases hp), by simp⟩
  · simp [Value.cells] at hcs
    obtain ⟨rfl, rfl, rfl⟩ := hcs
    by_cases h0 : len = 0
    · subst h0; exact ⟨[], rfl, .inl rfl, (fun p hp => by cases hp), by simp⟩
    · obtain ⟨s, o, spot⟩ := x
      have hlen : len ≤ zs.length := by
        have := hz; split at this <;> omega
      have hspot : spot = none := by simpa [Addr.add] using World.cell?_spot (hcell 0 (by omega))
      subst hspot
      have hcl : ∀ i, i < zs.length → w.cell? ⟨s, o + i, none⟩ = some (.int .i64 (zs.getD i 0)) := fun i hi => by rw [← addr_add']; exact hcell i hi
      have hm' : cap ≤ 9223372036854775807 := by unfold maxLen at hm; exact hm
      refine ⟨zs.take len, by simp; omega, .inr ⟨s, o, rfl, lt_of_cell (hcl 0 (by omega)), fun i hi => ?_⟩, fun z hz' => of_wf (hwz z (List.mem_of_mem_take hz')), by simp; omega⟩
      have hi' : i < len := by simp at hi; omega
      rw [hcl i (by omega)]
      simp [List.getD, List.getElem?_take, hi']
end
end Go.Proofs.Ytflihdcliknggaa
