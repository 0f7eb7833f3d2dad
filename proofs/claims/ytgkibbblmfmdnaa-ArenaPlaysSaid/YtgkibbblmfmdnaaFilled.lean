/-
  The statements' own helper: an arena of some words.
-/
import Derived.Test.YtgkibbblmfmdnaaLives
namespace Go.Proofs.Ytgkibbblmfmdnaa
open Go.RowKit
set_option linter.unusedVariables false
set_option linter.unusedSimpArgs false

theorem Turned.cell {S : Nat → Prop} {w w' : World} (h : Turned S w w') {k : Nat} (hk : k < w.heap.size) (hs : ¬ S k) (o : Nat) : w'.cell? ⟨k, o, none⟩ = w.cell? ⟨k, o, none⟩ :=
  World.cell?_of_block (w := w) (h.block k hk hs)

/-- The first k words are laid, the rest are 0. -/
def fillW (ys : List Int) (k : Nat) : List Int := ys.take k ++ List.replicate (ys.length - k) 0
theorem length_fillW (ys : List Int) (k : Nat) (h : k ≤ ys.length) : (fillW ys k).length = ys.length := by simp [fillW]; omega
theorem fillW_all (ys : List Int) : fillW ys ys.length = ys := by simp [fillW]
theorem fillW_none (ys : List Int) : fillW ys 0 = List.replicate ys.length 0 := by simp [fillW]
theorem fillW_step (ys : List Int) (k : Nat) (h : k < ys.length) : storeW (fillW ys k) k (wordAt ys k) = fillW ys (k + 1) ∧ cntOf (fillW ys k) k k = ((k + 1 : Nat) : Int) := by
  have hl := length_fillW ys k (by omega)
  have hin : inB (fillW ys k) k = true := by simp [inB, hl]; omega
  refine ⟨?_, by simp [cntOf, hin]⟩
  simp only [storeW, hin, if_true, Int.toNat_natCast, wordAt]
  apply List.ext_getElem?
  intro j
  simp only [fillW, List.getElem?_set, List.getElem?_append, List.length_append, List.length_take, List.length_replicate, List.getElem?_take, List.getElem?_replicate, List.getD]
  have hm : min k ys.length = k := by omega
  have hm1 : min (k + 1) ys.length = k + 1 := by omega
  rw [hm, hm1]
  by_cases e1 : k = j
  · subst e1
    have : k < k + (ys.length - k) := by omega
    simp [this, h]
  · by_cases e2 : j < k
    · have : j < k + 1 := by omega
      simp [e1, e2, this]
    · have e3 : ¬ j < k + 1 := by omega
      simp only [e1, e2, e3, if_false]
      by_cases e4 : j - k < ys.length - k
      · have : j - (k + 1) < ys.length - (k + 1) := by omega
        simp [e4, this]
      · have : ¬ j - (k + 1) < ys.length - (k + 1) := by omega
        simp [e4, this]

set_option maxHeartbeats 1000000 in
theorem filled_any (ys : List Int) (s o cap : Nat) (w : World) (h1 : 1 ≤ ys.length) (h2 : ys.length ≤ 1048576)
    (hc : ∀ i, i < ys.length → w.cell? ⟨s, o + i, none⟩ = some (.int .i64 (wordAt ys i))) :
    Calls Try.prog 21 #[.slice (some ⟨s, o, none⟩) ys.length cap] w (MadeArena 53 w ys ys.length (fun p => p)) := by
  have hs : s < w.heap.size := lt_of_cell (hc 0 (by omega))
  have HC := Lib.hid hc; clear hc
  go_enter Try.func21, Try.ntmps21
  go_wp2_with fail
  refine (new_ok ys.length h1 h2 _).mono ?_
  rintro e w1 ⟨a, b, rfl, ha, hb, hat1, t1⟩
  rw [← fillW_none] at hat1
  have HAT := Lib.hid hat1; clear hat1
  go_wp2_with fail
  go_loopw [5] (fun i wr => ∃ k : Nat, k ≤ ys.length ∧ i = .int .i64 k ∧ At 53 wr a b (fillW ys k) k ∧ Turned (fun _ => False) w wr) (fun i _ => ys.length - (intOf i).toNat)
  case atStart => exact ⟨0, Nat.zero_le _, rfl, HAT.out, t1⟩
  case round =>
    obtain ⟨k, hk, rfl, hat, ht⟩ := hrel
    by_cases hlt : k < ys.length
    · have hcell : wr.cell? ⟨s, o + k, none⟩ = some (.int .i64 (wordAt ys k)) := by rw [ht.cell hs (fun q => q)]; exact HC.out k hlt
      have HS := Lib.hid (fillW_step ys k hlt)
      go_wp2_with fail
      refine (store_any a b _ _ k _ _ hat (by rw [length_fillW ys k hk]; exact h2) (by omega) (by omega)).mono ?_
      rintro e w2 ⟨rfl, hat2, t2⟩
      rw [HS.out.1, HS.out.2] at hat2
      go_wp2_with fail
      go_roundw
      case rel => exact ⟨k + 1, by omega, by go_num, hat2, own_turn ht ha hb t2⟩
      case measure => simp [intOf]; omega
    · have he : k = ys.length := by omega
      have hat' : At 53 wr a b ys ys.length := by
        have := hat; rw [he, fillW_all] at this; exact this
      have HE := Lib.hid hat'; clear hat'
      clear he
      go_wp2_with fail
      go_ret
      exact ⟨a, b, rfl, ha, hb, HE.out, ht⟩

end Go.Proofs.Ytgkibbblmfmdnaa
