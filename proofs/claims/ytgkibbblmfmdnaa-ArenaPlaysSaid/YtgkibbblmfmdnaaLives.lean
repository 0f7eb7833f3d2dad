/-
  The document's example run, which every statement of this layer runs at its end.
-/
import Derived.Test.YtgkibbblmfmdnaaOther
namespace Go.Proofs.Ytgkibbblmfmdnaa
open Go.RowKit
set_option linter.unusedVariables false
set_option linter.unusedSimpArgs false

theorem new_any (n : Int) (h1 : 1 ≤ n) (h2 : n ≤ 1048576) (w : World) :
    Calls Try.prog 9 #[.int .i64 n] w (MadeArena 53 w (List.replicate n.toNat 0) 0 (fun p => .tuple #[p, .int .i64 0])) := by
  obtain ⟨k, rfl⟩ : ∃ k : Nat, n = k := ⟨n.toNat, by omega⟩
  rw [Int.toNat_natCast]
  exact new_ok k (by omega) (by omega) w

/-- What stands at an arena of the call's own turns nothing that was there. -/
theorem own_turn {w0 w w' : World} {a b : Nat} (h : Turned (fun _ => False) w0 w) (ha : w0.heap.size ≤ a) (hb : w0.heap.size ≤ b) (t : Turned (fun k => k = a ∨ k = b) w w') : Turned (fun _ => False) w0 w' :=
  ⟨t.os.trans h.os, t.tape.trans h.tape, t.output.trans h.output, Nat.le_trans h.size t.size, fun k hk _ => by
    rw [t.block k (Nat.lt_of_lt_of_le hk h.size) (by omega)]; exact h.block k hk (fun q => q)⟩

set_option maxHeartbeats 1000000 in
theorem lives_any (w : World) : Calls Try.prog 8 #[] w fun e w' => e = .returned (.bool true) ∧ Turned (fun _ => False) w w' := by
  go_enter Try.func8, Try.ntmps8
  go_wp2_with fail
  refine (new_any 4 (by omega) (by omega) _).mono ?_
  rintro e w1 ⟨a, b, rfl, ha, hb, h1, t1⟩
  rw [show List.replicate (Int.toNat 4) (0 : Int) = [0, 0, 0, 0] from rfl] at h1
  go_wp2_with fail
  refine (store_any a b _ _ 2 7 _ h1 (by decide) (by omega) (by omega)).mono ?_
  rintro e w2 ⟨rfl, h2, t2⟩
  rw [show errOf [0, 0, 0, 0] 2 = 0 from by decide]
  rw [show storeW [0, 0, 0, 0] 2 7 = [0, 0, 7, 0] from by decide, show cntOf [0, 0, 0, 0] 2 0 = 1 from by decide] at h2
  go_wp2_with fail
  refine (swap_any a b _ _ 2 7 9 _ h2 (by decide) (by omega) (by omega)).mono ?_
  rintro e w3 ⟨rfl, h3, t3⟩
  rw [show errOf [0, 0, 7, 0] 2 = 0 from by decide, show loadV [0, 0, 7, 0] 2 = 7 from by decide]
  rw [show swapW [0, 0, 7, 0] 2 7 9 = [0, 0, 9, 0] from by decide, show cntOf [0, 0, 7, 0] 2 1 = 2 from by decide] at h3
  go_wp2_with fail
  refine (bump_any a b _ _ 2 9 _ h3 (by decide) (by omega) (by decide) (by omega) (by omega)).mono ?_
  rintro e w4 ⟨rfl, h4, t4⟩
  rw [show bumpE [0, 0, 9, 0] 2 9 = 8 from by decide, show bumpV [0, 0, 9, 0] 2 9 = 9 from by decide]
  rw [show bumpW [0, 0, 9, 0] 2 9 = [0, 0, 9, 0] from by decide, show cntOf [0, 0, 9, 0] 2 2 = 3 from by decide] at h4
  have T := own_turn (own_turn (own_turn t1 ha hb t2) ha hb t3) ha hb t4
  go_wp2_with fail
  refine (count_at a b _ _ _ h4).mono ?_
  rintro e w5 ⟨rfl, rfl⟩
  go_wp2_with fail
  refine (len_at a b _ _ _ h4).mono ?_
  rintro e w6 ⟨rfl, rfl⟩
  go_wp2_with fail
  go_ret
  exact ⟨rfl, T⟩

end Go.Proofs.Ytgkibbblmfmdnaa
