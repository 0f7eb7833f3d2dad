/-
  Contracts of the four accesses of package arena, at any address, and at an arena that is none.
-/
import Derived.Test.YtgkibbblmfmdnaaArena
namespace Go.Proofs.Ytgkibbblmfmdnaa
open Go.RowKit
set_option linter.unusedVariables false
set_option linter.unusedSimpArgs false

theorem do_out (a b : Nat) (ws : List Int) (c i : Int) (g : Nat) (caps : Array Value) (w : World) (h : At 53 w a b ws c) (hi : inB ws i = false) (hl : ws.length ≤ 1048576) :
    Calls Try.prog 22 #[.pointer (some ⟨a, 0, none⟩), .agg #[.int .i64 i, .func (Fn.func g) #[] caps]] w
      (Did 53 a b w ws c (.tuple #[.int .i64 0, .int .i64 3])) := by
  by_cases q : i < 0
  · exact do_low a b ws c i g caps w h q hl
  · exact do_high a b ws c i g caps w h (by simp [inB] at hi; omega) hl

/-- What was laid ahead of an access. -/
theorem Did.over {T a b : Nat} {w w1 : World} {ws ws' : List Int} {c c' : Int} {v : Value} {e : Ending} {w' : World} (t : Turned (fun _ => False) w w1) (h : Did T a b w1 ws c v e w') : Did T a b w ws c v e w' :=
  ⟨h.1, h.2.1, (t.mono (fun _ _ q => q.elim)).trans h.2.2⟩

set_option maxHeartbeats 1000000 in
theorem store_any (a b : Nat) (ws : List Int) (c i x : Int) (w : World) (h : At 53 w a b ws c) (hl : ws.length ≤ 1048576) (hc : 0 ≤ c) (hc' : c ≤ 4611686018427387904) :
    Calls Try.prog 12 #[.pointer (some ⟨a, 0, none⟩), .int .i64 i, .int .i64 x] w
      (Did 53 a b w (storeW ws i x) (cntOf ws i c) (.int .i64 (errOf ws i))) := by
  have hla := h.la
  cases hin : inB ws i with
  | false =>
    have HE : Hid (errOf ws i = 3 ∧ cntOf ws i c = c) := ⟨by simp [errOf, hin], by simp [cntOf, hin]⟩
    have HW : Hid (storeW ws i x = ws ∧ True) := by show storeW ws i x = ws ∧ True; simp [storeW, swapW, bumpW, bumpV, bumpE, loadV, hin]
    have HI := Lib.hid hin; clear hin
    go_enter Try.func12, Try.ntmps12
    go_wp2_with fail
    refine (do_out a b ws c i _ _ _ ((h).alloc _) HI.out hl).mono ?_
    rintro e w' ⟨rfl, hat, ht⟩
    go_wp2_with fail
    go_ret
    exact ⟨by first | (rw [HE.out.1]; rfl) | rw [HE.out.1], by rw [HW.out.1]; rw [HE.out.2]; exact hat, (((Turned.refl (fun _ => False) w)).alloc _).mono (fun _ _ q => q.elim) |>.trans ht⟩
  | true =>
    obtain ⟨n, rfl⟩ : ∃ n : Nat, i = n := ⟨i.toNat, by simp [inB] at hin; omega⟩
    have hn : n < ws.length := by simp [inB] at hin; omega
    have HE : Hid (errOf ws n = 0 ∧ cntOf ws n c = c + 1) := ⟨by simp [errOf, hin], by simp [cntOf, hin]⟩
    have HW : Hid (storeW ws n x = ws.set n x ∧ True) := by show storeW ws n x = ws.set n x ∧ True; simp [storeW, swapW, bumpW, bumpV, bumpE, loadV, hin]
    clear hin
    go_enter Try.func12, Try.ntmps12
    go_wp2_with fail
    refine (do_store a b ws c n x w.heap.size _ (h.alloc _) (by go_simp) (by omega) hn hl hc hc').mono ?_
    rintro e w' ⟨rfl, hat, ht⟩
    go_wp2_with fail
    go_ret
    exact ⟨by first | (rw [HE.out.1]; rfl) | rw [HE.out.1], by rw [HW.out.1]; rw [HE.out.2]; exact hat, (((Turned.refl (fun _ => False) w)).alloc _).mono (fun _ _ q => q.elim) |>.trans ht⟩

set_option maxHeartbeats 1000000 in
theorem load_any (a b : Nat) (ws : List Int) (c i : Int) (w : World) (h : At 53 w a b ws c) (hl : ws.length ≤ 1048576) (hc : 0 ≤ c) (hc' : c ≤ 4611686018427387904) :
    Calls Try.prog 18 #[.pointer (some ⟨a, 0, none⟩), .int .i64 i] w
      (Did 53 a b w (ws) (cntOf ws i c) (.tuple #[.int .i64 (loadV ws i), .int .i64 (errOf ws i)])) := by
  have hla := h.la
  cases hin : inB ws i with
  | false =>
    have HE : Hid (errOf ws i = 3 ∧ cntOf ws i c = c) := ⟨by simp [errOf, hin], by simp [cntOf, hin]⟩
    have HW : Hid (True ∧ loadV ws i = 0) := by show True ∧ loadV ws i = 0; simp [storeW, swapW, bumpW, bumpV, bumpE, loadV, hin]
    have HI := Lib.hid hin; clear hin
    go_enter Try.func18, Try.ntmps18
    go_wp2_with fail
    refine (do_out a b ws c i _ _ _ (h) HI.out hl).mono ?_
    rintro e w' ⟨rfl, hat, ht⟩
    go_wp2_with fail
    go_ret2
    exact ⟨by first | (rw [HE.out.1, HW.out.2]; rfl) | rw [HE.out.1, HW.out.2], by rw [HE.out.2]; exact hat, ht⟩
  | true =>
    obtain ⟨n, rfl⟩ : ∃ n : Nat, i = n := ⟨i.toNat, by simp [inB] at hin; omega⟩
    have hn : n < ws.length := by simp [inB] at hin; omega
    have HE : Hid (errOf ws n = 0 ∧ cntOf ws n c = c + 1) := ⟨by simp [errOf, hin], by simp [cntOf, hin]⟩
    have HW : Hid (True ∧ loadV ws n = wordAt ws n) := by show True ∧ loadV ws n = wordAt ws n; simp [storeW, swapW, bumpW, bumpV, bumpE, loadV, hin]
    clear hin
    go_enter Try.func18, Try.ntmps18
    go_wp2_with fail
    refine (do_load a b ws c n _ h hn hl hc hc').mono ?_
    rintro e w' ⟨rfl, hat, ht⟩
    go_wp2_with fail
    go_ret2
    exact ⟨by first | (rw [HE.out.1, HW.out.2]; rfl) | rw [HE.out.1, HW.out.2], by rw [HE.out.2]; exact hat, ht⟩

set_option maxHeartbeats 1000000 in
theorem swap_any (a b : Nat) (ws : List Int) (c i o x : Int) (w : World) (h : At 53 w a b ws c) (hl : ws.length ≤ 1048576) (hc : 0 ≤ c) (hc' : c ≤ 4611686018427387904) :
    Calls Try.prog 19 #[.pointer (some ⟨a, 0, none⟩), .int .i64 i, .int .i64 o, .int .i64 x] w
      (Did 53 a b w (swapW ws i o x) (cntOf ws i c) (.tuple #[.int .i64 (loadV ws i), .int .i64 (errOf ws i)])) := by
  have hla := h.la
  cases hin : inB ws i with
  | false =>
    have HE : Hid (errOf ws i = 3 ∧ cntOf ws i c = c) := ⟨by simp [errOf, hin], by simp [cntOf, hin]⟩
    have HW : Hid (swapW ws i o x = ws ∧ loadV ws i = 0) := by show swapW ws i o x = ws ∧ loadV ws i = 0; simp [storeW, swapW, bumpW, bumpV, bumpE, loadV, hin]
    have HI := Lib.hid hin; clear hin
    go_enter Try.func19, Try.ntmps19
    go_wp2_with fail
    refine (do_out a b ws c i _ _ _ (((h).alloc _).alloc _) HI.out hl).mono ?_
    rintro e w' ⟨rfl, hat, ht⟩
    go_wp2_with fail
    go_ret2
    exact ⟨by first | (rw [HE.out.1, HW.out.2]; rfl) | rw [HE.out.1, HW.out.2], by rw [HW.out.1]; rw [HE.out.2]; exact hat, ((((Turned.refl (fun _ => False) w)).alloc _).alloc _).mono (fun _ _ q => q.elim) |>.trans ht⟩
  | true =>
    obtain ⟨n, rfl⟩ : ∃ n : Nat, i = n := ⟨i.toNat, by simp [inB] at hin; omega⟩
    have hn : n < ws.length := by simp [inB] at hin; omega
    have HE : Hid (errOf ws n = 0 ∧ cntOf ws n c = c + 1) := ⟨by simp [errOf, hin], by simp [cntOf, hin]⟩
    by_cases hq : wordAt ws n = o
    · have HW : Hid (swapW ws n o x = ws.set n x ∧ loadV ws n = wordAt ws n) := by show swapW ws n o x = ws.set n x ∧ loadV ws n = wordAt ws n; simp [storeW, swapW, bumpW, bumpV, bumpE, loadV, hin, hq]
      have HQ := Lib.hid hq; clear hq; clear hin
      go_enter Try.func19, Try.ntmps19
      go_wp2_with fail
      refine (do_swap_yes a b ws c n x w.heap.size (w.heap.size + 1) _ ((h.alloc _).alloc _) (by rw [HQ.out]; go_simp) (by go_simp) (by omega) (by omega) hn hl hc hc').mono ?_
      rintro e w' ⟨rfl, hat, ht⟩
      go_wp2_with fail
      go_ret2
      exact ⟨by first | (rw [HE.out.1, HW.out.2]; rfl) | rw [HE.out.1, HW.out.2], by rw [HW.out.1]; rw [HE.out.2]; exact hat, ((((Turned.refl (fun _ => False) w)).alloc _).alloc _).mono (fun _ _ q => q.elim) |>.trans ht⟩
    · have HW : Hid (swapW ws n o x = ws ∧ loadV ws n = wordAt ws n) := by show swapW ws n o x = ws ∧ loadV ws n = wordAt ws n; simp [storeW, swapW, bumpW, bumpV, bumpE, loadV, hin, hq]
      have HQ := Lib.hid hq; clear hq; clear hin
      go_enter Try.func19, Try.ntmps19
      go_wp2_with fail
      refine (do_swap_no a b ws c n o w.heap.size (w.heap.size + 1) _ ((h.alloc _).alloc _) (by go_simp) (by simpa using HQ.out) (by omega) hn hl hc hc').mono ?_
      rintro e w' ⟨rfl, hat, ht⟩
      go_wp2_with fail
      go_ret2
      exact ⟨by first | (rw [HE.out.1, HW.out.2]; rfl) | rw [HE.out.1, HW.out.2], by rw [HW.out.1]; rw [HE.out.2]; exact hat, ((((Turned.refl (fun _ => False) w)).alloc _).alloc _).mono (fun _ _ q => q.elim) |>.trans ht⟩

set_option maxHeartbeats 1000000 in
theorem bump_any (a b : Nat) (ws : List Int) (c i m : Int) (w : World) (h : At 53 w a b ws c) (hv : ∀ j : Nat, j < ws.length → -9223372036854775808 ≤ wordAt ws j) (hm9 : m ≤ 9223372036854775807) (hl : ws.length ≤ 1048576) (hc : 0 ≤ c) (hc' : c ≤ 4611686018427387904) :
    Calls Try.prog 20 #[.pointer (some ⟨a, 0, none⟩), .int .i64 i, .int .i64 m] w
      (Did 53 a b w (bumpW ws i m) (cntOf ws i c) (.tuple #[.int .i64 (bumpV ws i m), .int .i64 (bumpE ws i m)])) := by
  have hla := h.la
  cases hin : inB ws i with
  | false =>
    have HE : Hid (errOf ws i = 3 ∧ cntOf ws i c = c) := ⟨by simp [errOf, hin], by simp [cntOf, hin]⟩
    have HW : Hid (bumpW ws i m = ws ∧ bumpV ws i m = 0 ∧ bumpE ws i m = 3) := by show bumpW ws i m = ws ∧ bumpV ws i m = 0 ∧ bumpE ws i m = 3; simp [storeW, swapW, bumpW, bumpV, bumpE, loadV, hin]
    have HI := Lib.hid hin; clear hin
    go_enter Try.func20, Try.ntmps20
    go_wp2_with fail
    refine (do_out a b ws c i _ _ _ ((h).alloc _) HI.out hl).mono ?_
    rintro e w' ⟨rfl, hat, ht⟩
    go_wp2_with fail
    go_ret2
    exact ⟨by first | (rw [HW.out.2.1, HW.out.2.2]; rfl) | rw [HW.out.2.1, HW.out.2.2], by rw [HW.out.1]; rw [HE.out.2]; exact hat, (((Turned.refl (fun _ => False) w)).alloc _).mono (fun _ _ q => q.elim) |>.trans ht⟩
  | true =>
    obtain ⟨n, rfl⟩ : ∃ n : Nat, i = n := ⟨i.toNat, by simp [inB] at hin; omega⟩
    have hn : n < ws.length := by simp [inB] at hin; omega
    have HE : Hid (errOf ws n = 0 ∧ cntOf ws n c = c + 1) := ⟨by simp [errOf, hin], by simp [cntOf, hin]⟩
    by_cases hq : m ≤ wordAt ws n
    · have HW : Hid (bumpW ws n m = ws ∧ bumpV ws n m = wordAt ws n ∧ bumpE ws n m = 8) := by show bumpW ws n m = ws ∧ bumpV ws n m = wordAt ws n ∧ bumpE ws n m = 8; simp [storeW, swapW, bumpW, bumpV, bumpE, loadV, hin, hq]
      have HQ := Lib.hid hq; clear hq; clear hin
      go_enter Try.func20, Try.ntmps20
      go_wp2_with fail
      refine (do_bump_end a b ws c n m w.heap.size _ (h.alloc _) (by go_simp) HQ.out (by omega) hn hl hc hc').mono ?_
      rintro e w' ⟨rfl, hat, ht⟩
      go_wp2_with fail
      go_ret2
      exact ⟨by first | (rw [HW.out.2.1, HW.out.2.2]; rfl) | rw [HW.out.2.1, HW.out.2.2], by rw [HW.out.1]; rw [HE.out.2]; exact hat, (((Turned.refl (fun _ => False) w)).alloc _).mono (fun _ _ q => q.elim) |>.trans ht⟩
    · have HW : Hid (bumpW ws n m = ws.set n (wordAt ws n + 1) ∧ bumpV ws n m = wordAt ws n + 1 ∧ bumpE ws n m = 0) := by show bumpW ws n m = ws.set n (wordAt ws n + 1) ∧ bumpV ws n m = wordAt ws n + 1 ∧ bumpE ws n m = 0; simp [storeW, swapW, bumpW, bumpV, bumpE, loadV, hin, hq]
      have HQ := Lib.hid hq; clear hq; clear hin
      go_enter Try.func20, Try.ntmps20
      go_wp2_with fail
      refine (do_bump_on a b ws c n m w.heap.size _ (h.alloc _) (by go_simp) (by have := HQ.out; omega) (hv n hn) hm9 (by omega) hn hl hc hc').mono ?_
      rintro e w' ⟨rfl, hat, ht⟩
      go_wp2_with fail
      go_ret2
      exact ⟨by first | (rw [HW.out.2.1, HW.out.2.2]; rfl) | rw [HW.out.2.1, HW.out.2.2], by rw [HW.out.1]; rw [HE.out.2]; exact hat, (((Turned.refl (fun _ => False) w)).alloc _).mono (fun _ _ q => q.elim) |>.trans ht⟩

theorem store_nil (i x : Int) (w : World) :
    Calls Try.prog 12 #[.pointer none, .int .i64 i, .int .i64 x] w fun e w' => e = .returned (.int .i64 1) ∧ Turned (fun _ => False) w w' := by
  go_enter Try.func12, Try.ntmps12
  go_wp2_with fail
  refine (do_nil i _ _ _).mono ?_
  rintro e w' ⟨rfl, ht⟩
  go_wp2_with fail
  go_ret
  exact ⟨rfl, (((Turned.refl (fun _ => False) w)).alloc _).trans ht⟩

theorem load_nil (i : Int) (w : World) :
    Calls Try.prog 18 #[.pointer none, .int .i64 i] w fun e w' => e = .returned (.tuple #[.int .i64 0, .int .i64 1]) ∧ Turned (fun _ => False) w w' := by
  go_enter Try.func18, Try.ntmps18
  go_wp2_with fail
  refine (do_nil i _ _ _).mono ?_
  rintro e w' ⟨rfl, ht⟩
  go_wp2_with fail
  go_ret2
  exact ⟨rfl, ht⟩

theorem swap_nil (i o x : Int) (w : World) :
    Calls Try.prog 19 #[.pointer none, .int .i64 i, .int .i64 o, .int .i64 x] w fun e w' => e = .returned (.tuple #[.int .i64 0, .int .i64 1]) ∧ Turned (fun _ => False) w w' := by
  go_enter Try.func19, Try.ntmps19
  go_wp2_with fail
  refine (do_nil i _ _ _).mono ?_
  rintro e w' ⟨rfl, ht⟩
  go_wp2_with fail
  go_ret2
  exact ⟨rfl, ((((Turned.refl (fun _ => False) w)).alloc _).alloc _).trans ht⟩

theorem bump_nil (i m : Int) (w : World) :
    Calls Try.prog 20 #[.pointer none, .int .i64 i, .int .i64 m] w fun e w' => e = .returned (.tuple #[.int .i64 0, .int .i64 1]) ∧ Turned (fun _ => False) w w' := by
  go_enter Try.func20, Try.ntmps20
  go_wp2_with fail
  refine (do_nil i _ _ _).mono ?_
  rintro e w' ⟨rfl, ht⟩
  go_wp2_with fail
  go_ret2
  exact ⟨rfl, (((Turned.refl (fun _ => False) w)).alloc _).trans ht⟩

end Go.Proofs.Ytgkibbblmfmdnaa
