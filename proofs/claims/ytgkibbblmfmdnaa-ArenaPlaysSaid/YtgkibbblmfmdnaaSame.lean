/-
  The statements' own comparison of two rows of words, at equal rows.
-/
import Derived.Test.YtgkibbblmfmdnaaFilled
namespace Go.Proofs.Ytgkibbblmfmdnaa
open Go.RowKit
set_option linter.unusedVariables false
set_option linter.unusedSimpArgs false

def YesPost (w : World) (e : Ending) (w' : World) : Prop := e = .returned (.bool true) ∧ Turned (fun _ => False) w w'

theorem same_yes (ws : List Int) (s1 o1 c1 s2 o2 c2 : Nat) (w : World) (hl : ws.length ≤ 1048576) (hs1 : s1 < w.heap.size) (hs2 : s2 < w.heap.size)
    (h1 : ∀ i, i < ws.length → w.cell? ⟨s1, o1 + i, none⟩ = some (.int .i64 (wordAt ws i)))
    (h2 : ∀ i, i < ws.length → w.cell? ⟨s2, o2 + i, none⟩ = some (.int .i64 (wordAt ws i))) :
    Calls Try.prog 17 #[.slice (some ⟨s1, o1, none⟩) ws.length c1, .slice (some ⟨s2, o2, none⟩) ws.length c2] w (YesPost w) := by
  have H1 := Lib.hid h1; clear h1
  have H2 := Lib.hid h2; clear h2
  go_enter Try.func17, Try.ntmps17
  go_wp2_with fail
  go_loopw [5] (fun i wr => ∃ k : Nat, k ≤ ws.length ∧ i = .int .i64 k ∧ Turned (fun _ => False) w wr) (fun i _ => ws.length - (intOf i).toNat)
  case atStart => exact ⟨0, Nat.zero_le _, rfl, Turned.refl _ _⟩
  case round =>
    obtain ⟨k, hk, rfl, ht⟩ := hrel
    by_cases hlt : k < ws.length
    · have hc1 : wr.cell? ⟨s1, o1 + k, none⟩ = some (.int .i64 (wordAt ws k)) := by rw [ht.cell hs1 (fun q => q)]; exact H1.out k hlt
      have hc2 : wr.cell? ⟨s2, o2 + k, none⟩ = some (.int .i64 (wordAt ws k)) := by rw [ht.cell hs2 (fun q => q)]; exact H2.out k hlt
      go_wp2_with fail
      go_quiet (fail)
      go_wp2_with fail
      go_roundw
      case rel => exact ⟨k + 1, by omega, by go_num, ht.drewN _⟩
      case measure => simp [intOf]; omega
    · go_wp2_with fail
      go_ret
      exact ⟨rfl, ht⟩

end Go.Proofs.Ytgkibbblmfmdnaa
