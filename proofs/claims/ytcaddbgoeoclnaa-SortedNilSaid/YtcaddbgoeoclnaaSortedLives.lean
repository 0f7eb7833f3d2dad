/-
  The document's example of package sorted, told by the landed code.
-/
import Derived.Test.YtcaddbgoeoclnaaSortedCopy
namespace Go.Proofs.Ytcaddbgoeoclnaa
open Go.RowKit Go.Sort
set_option linter.unusedVariables false
set_option linter.unusedSimpArgs false

/-- What turned lies in memory of the call's own. -/
theorem more_own {w w1 w2 : World} {F : Nat → Prop} (h : More w w1) (t : Turned F w1 w2) (hF : ∀ k, F k → w.heap.size ≤ k) : More w w2 :=
  ⟨t.os.trans h.os, t.tape.trans h.tape, t.output.trans h.output, Nat.le_trans h.size t.size, fun k hk _ => by
    rw [Turned.block t k (Nat.lt_of_lt_of_le hk h.size) (fun q => by have := hF k q; omega)]
    exact Turned.block h k hk (fun q => q)⟩
theorem own_on {w w1 : World} {F F' : Nat → Prop} (hs : w.heap.size ≤ w1.heap.size) (hF : ∀ k, F k → w.heap.size ≤ k) (h : ∀ k, F' k → F k ∨ w1.heap.size ≤ k) : ∀ k, F' k → w.heap.size ≤ k := fun k q => by
  rcases h k q with q | q
  · exact hF k q
  · omega

set_option maxHeartbeats 2000000 in
theorem lives_ok (w : World) : Calls Try.prog 9 #[] w (Gives w (.bool true)) := by
  have e1 : putD (putD (putD [] 5 ⟨#[97]⟩) 2 ⟨#[98]⟩) 5 ⟨#[99]⟩ = [(2, ⟨#[98]⟩), (5, ⟨#[99]⟩)] := by rfl
  have r1 : (look [] 5).isNone = true := rfl
  have r2 : (look (putD [] 5 ⟨#[97]⟩) 2).isNone = true := rfl
  have r3 : (look (putD (putD [] 5 ⟨#[97]⟩) 2 ⟨#[98]⟩) 5).isNone = false := rfl
  have E1 := Lib.hid e1
  have R1 := Lib.hid r1
  have R2 := Lib.hid r2
  have R3 := Lib.hid r3
  clear e1 r1 r2 r3
  go_enter Try.func9, Try.ntmps9
  go_wp2_with fail
  refine (new_ok w).mono ?_
  rintro e w1 ⟨F1, p, rfl, m1, M1, n1⟩
  have H1 := Lib.hid m1; have K1 := Lib.hid M1; have N1 := Lib.hid n1
  clear m1 M1 n1
  go_wp2_with fail
  refine (put_ok F1 p [] 5 ⟨#[97]⟩ w1 H1.out (by simp)).mono ?_
  rw [R1.out]
  rintro e w2 ⟨rfl, F2, m2, t2, n2⟩
  have H2 := Lib.hid m2; have K2 := Lib.hid (more_own K1.out t2 N1.out); have N2 := Lib.hid (own_on K1.out.size N1.out n2)
  clear m2 t2 n2
  go_wp2_with fail
  refine (put_ok F2 p _ 2 ⟨#[98]⟩ w2 H2.out (by simp [putD, less, more])).mono ?_
  rw [R2.out]
  rintro e w3 ⟨rfl, F3, m3, t3, n3⟩
  have H3 := Lib.hid m3; have K3 := Lib.hid (more_own K2.out t3 N2.out); have N3 := Lib.hid (own_on K2.out.size N2.out n3)
  clear m3 t3 n3
  go_wp2_with fail
  refine (put_ok F3 p _ 5 ⟨#[99]⟩ w3 H3.out (by simp [putD, less, more])).mono ?_
  rw [R3.out, E1.out]
  rintro e w4 ⟨rfl, F4, m4, t4, n4⟩
  have H4 := Lib.hid m4; have K4 := Lib.hid (more_own K3.out t4 N3.out)
  clear m4 t4 n4
  go_wp2_with fail
  refine (at_ok F4 p _ 1 (5, ⟨#[99]⟩) w4 H4.out rfl).mono ?_
  rintro e w5 ⟨rfl, q, rfl⟩
  have H5 : Hid (MapAt (w4.drewN q) F4 p _) := Lib.hid (H4.out.more (more_drewN w4 q))
  have K5 : Hid (More w (w4.drewN q)) := Lib.hid (K4.out.drewN q)
  generalize w4.drewN q = w5 at H5 K5 ⊢
  go_wp2_with (go_at_call 20; refine (len_ok F4 p _ _ H5.out).mono ?_; rintro e w6 ⟨rfl, rfl⟩)
  go_ret
  exact ⟨rfl, K5.out⟩
end Go.Proofs.Ytcaddbgoeoclnaa
