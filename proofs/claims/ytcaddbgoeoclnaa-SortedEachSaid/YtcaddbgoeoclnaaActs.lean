/-
  Steps as they come in: a slice of structs of two integers and a string; and the statements' own bound on them.
-/
import Derived.Test.YtcaddbgoeoclnaaChecked
import Derived.Test.YtcaddbgoeoclnaaMem
import Derived.ProofKit
import Derived.OpenShut
import Derived.ShutString
import Derived.ChangeMaps5
import Derived.Deep.Slices
import Derived.Deep.Fields
import Derived.Deep.Strs
import Derived.WalkKit
import Derived.Outline
import Derived.Lib.Hide
namespace Go.Proofs.Ytcaddbgoeoclnaa
open Go.ChangeShapes Go.WideShapes Go.ChangeAt Go.RowKit Go.Deep
set_option linter.unusedVariables false
set_option linter.unusedSimpArgs false

abbrev Act3 := Int × Int × ByteArray
/-- A slice of such structs: it is empty, or leads to them. -/
def IsActs (w : World) (a : Option Addr) (len : Nat) (f : Nat → Act3) : Prop :=
  len = 0 ∨ ∃ s o, a = some ⟨s, o, none⟩ ∧ s < w.heap.size ∧ ∀ i, i < len → w.cell? ⟨s, o + i * 3, none⟩ = some (.int .i64 (f i).1) ∧ w.cell? ⟨s, o + i * 3 + 1, none⟩ = some (.int .i64 (f i).2.1) ∧ w.cell? ⟨s, o + i * 3 + 2, none⟩ = some (.string (f i).2.2) ∧ (f i).2.2.size ≤ 9223372036854775807

section
variable {H : Type} {enc : TypeId × Value → H} {P : Program} {w : World} {base : Nat} {spare : Nat → Bool} {held : Bool}
theorem isActs_of {t e : TypeId} {f0 f1 f2 : Field} {a : Option Addr} {len cap : Nat} {d : DataW H} {p : List MemPlace} (ht : P.underlying t = some (.slice e)) (hs : P.underlying e = some (.struct #[f0, f1, f2])) (hone : oneCellFields P #[f0, f1, f2] = true) (hC : P.cellsOf e = 3)
    (u0 : P.underlying f0.type = some (.int .i64)) (u1 : P.underlying f1.type = some (.int .i64)) (u2 : P.underlying f2.type = some .string)
    (h : DataW.Trod enc P w base spare held t (.slice a len cap) d p) : ∃ f : Nat → Act3, IsActs w a len f ∧ len ≤ 9223372036854775807 := by
  obtain ⟨fuel, hf⟩ := h
  rcases open_slice ht hf with ⟨hcs, _⟩ | ⟨x, l, c, m, n, D, Pl, hcs, _, hl, hm, hmm, _, hi⟩
  · simp [Value.cells] at hcs
    obtain ⟨rfl, rfl, rfl⟩ := hcs
    exact ⟨fun _ => (0, 0, ⟨#[]⟩), .inl rfl, by omega⟩
  · simp [Value.cells] at hcs
    obtain ⟨rfl, rfl, rfl⟩ := hcs
    have key : ∀ i, i < len → ∃ g : Act3, w.cell? (x.add (i * 3)) = some (.int .i64 g.1) ∧ w.cell? (x.add (i * 3 + 1)) = some (.int .i64 g.2.1) ∧ w.cell? (x.add (i * 3 + 2)) = some (.string g.2.2) ∧ g.2.2.size ≤ 9223372036854775807 := by
      intro i hil
      obtain ⟨cs', hc, ht'⟩ := hi i (by have := hmm; split at this <;> omega)
      rw [hC] at hc
      obtain ⟨_, hcl, hat⟩ := World.cells?_some hc
      obtain ⟨c0, c1, c2, rfl⟩ : ∃ c0 c1 c2, cs' = [c0, c1, c2] := by
        match cs', hcl with
        | [c0, c1, c2], _ => exact ⟨c0, c1, c2, rfl⟩
      obtain ⟨y0, y1, y2, n', _, _, h0, h1, h2⟩ := trod_struct3 hs ht'
      obtain ⟨o0, k0⟩ := hone_of hone 0 f0 rfl
      obtain ⟨o1, k1⟩ := hone_of hone 1 f1 rfl
      obtain ⟨o2, k2⟩ := hone_of hone 2 f2 rfl
      rw [o0, k0] at h0; rw [o1, k1] at h1; rw [o2, k2] at h2
      obtain ⟨x0, e0, _, w0⟩ := DataW.trod_int u0 h0
      obtain ⟨x1, e1, _, w1⟩ := DataW.trod_int u1 h1
      obtain ⟨x2, e2, _, w2⟩ := DataW.trod_string u2 h2
      simp at e0 e1 e2
      subst e0 e1 e2
      have a0 := hat 0 (by omega)
      have a1 := hat 1 (by omega)
      have a2 := hat 2 (by omega)
      rw [Go.Deep.add_add] at a0 a1 a2
      exact ⟨(x0, x1, x2), a0, a1, a2, by unfold maxLen at w2; exact w2⟩
    by_cases h0 : len = 0
    · exact ⟨fun _ => (0, 0, ⟨#[]⟩), .inl h0, by omega⟩
    · obtain ⟨s, o, spot⟩ := x
      obtain ⟨g0, hg0, _⟩ := key 0 (by omega)
      have hspot : spot = none := by simpa [Addr.add] using World.cell?_spot hg0
      subst hspot
      have hF : ∀ i, ∃ g : Act3, i < len → w.cell? ⟨s, o + i * 3, none⟩ = some (.int .i64 g.1) ∧ w.cell? ⟨s, o + i * 3 + 1, none⟩ = some (.int .i64 g.2.1) ∧ w.cell? ⟨s, o + i * 3 + 2, none⟩ = some (.string g.2.2) ∧ g.2.2.size ≤ 9223372036854775807 := by
        intro i
        by_cases hil : i < len
        · obtain ⟨g, hg⟩ := key i hil
          exact ⟨g, fun _ => by rw [Nat.add_assoc, Nat.add_assoc]; simp only [← addr_add]; exact hg⟩
        · exact ⟨(0, 0, ⟨#[]⟩), fun q => absurd q hil⟩
      have hm' : cap ≤ 9223372036854775807 := by unfold maxLen at hm; exact hm
      refine ⟨fun i => Classical.choose (hF i), .inr ⟨s, o, rfl, ?_, fun i hil => Classical.choose_spec (hF i) hil⟩, by omega⟩
      exact lt_of_cell (Classical.choose_spec (hF 0) (by omega)).1
end

set_option maxRecDepth 100000 in
set_option maxHeartbeats 1000000 in
/-- The statements' own bound. -/
theorem great_ok (a : Option Addr) (len cap : Nat) (f : Nat → Act3) (w : World) (h : IsActs w a len f) (hm : len ≤ 9223372036854775807) :
    Calls Try.prog 8 #[.slice a len cap] w fun e w' => (e = .returned (.bool true) ∨ (e = .returned (.bool false) ∧ len ≤ 120)) ∧ w' = w := by
  by_cases h0 : len = 0
  · subst h0
    clear h
    go_enter Try.func8, Try.ntmps8
    go_wp2_with fail
    go_loop [3] (fun i => i = .int .i64 0) (fun i => 0)
    case atStart => rfl
    case round =>
      obtain rfl := hrel
      go_wp2_with fail
      go_ret
      exact ⟨.inr rfl, rfl⟩
  · obtain ⟨s, o, rfl, hs, hc⟩ := h.resolve_left h0
    have HC := Lib.hid hc
    clear hc
    go_enter Try.func8, Try.ntmps8
    go_wp2_with fail
    go_loop [3] (fun i => ∃ j : Nat, j ≤ len ∧ j ≤ 130 ∧ i = .int .i64 j) (fun i => len - (intOf i).toNat)
    case atStart => exact ⟨0, by omega, by omega, rfl⟩
    case round =>
      obtain ⟨j, hj, hj2, rfl⟩ := hrel
      have FIN : Hid ((len : Int) > 120 → ¬ len ≤ 120) := Lib.hid (by omega)
      by_cases hlt : j < len ∧ j < 130
      · obtain ⟨hl1, hl2⟩ := hlt
        obtain ⟨_, _, x1, hb⟩ := HC.out j hl1
        generalize (f j).2.2 = b at x1 hb
        cases d : decide ((100 : Int) < (b.size : Int)) with
        | true =>
          go_wp2_with fail
          go_ret
          exact ⟨.inl rfl, rfl⟩
        | false =>
          go_wp2_with fail
          go_round
          case rel => exact ⟨j + 1, by omega, by omega, by go_num⟩
          case measure => simp [intOf]; omega
      · cases d : decide ((120 : Int) < (len : Int)) with
        | true =>
          by_cases hl1 : j < len
          · obtain rfl : j = 130 := by omega
            go_wp2_with fail
            go_ret
            exact ⟨.inl rfl, rfl⟩
          · obtain rfl : j = len := by omega
            go_wp2_with fail
            go_ret
            exact ⟨.inl rfl, rfl⟩
        | false =>
          have hle : len ≤ 120 := by simp at d; omega
          obtain rfl : j = len := by omega
          go_wp2_with fail
          go_ret
          exact ⟨.inr rfl, rfl⟩
end Go.Proofs.Ytcaddbgoeoclnaa
