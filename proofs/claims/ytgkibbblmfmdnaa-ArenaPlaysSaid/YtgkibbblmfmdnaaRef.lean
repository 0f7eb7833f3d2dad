/-
  Contracts of the document's own answers for arena (package assartref01).
-/
import Derived.Test.YtgkibbblmfmdnaaOther
namespace Go.Proofs.Ytgkibbblmfmdnaa
open Go.RowKit
set_option linter.unusedVariables false
set_option linter.unusedSimpArgs false

theorem rnew_ok (k : Nat) (h1 : 1 ≤ k) (hk : k ≤ 1048576) (w : World) :
    Calls Try.prog 10 #[.int .i64 k] w (MadeArena 38 w (List.replicate k 0) 0 (fun p => p)) := by
  have hmk := run_make_words k hk
  have d1 : decide ((k : Int) < 1) = false := by simp; omega
  have d2 : decide ((1048576 : Int) < (k : Int)) = false := by simp; omega
  go_enter Try.func10, Try.ntmps10
  go_wp2
  go_ret
  have ha := at_new (T := 38) w (List.replicate k 0) 0
  rw [List.length_replicate] at ha
  exact ⟨_, _, rfl, by omega, Nat.le_refl _, ha, ((Turned.refl _ w).alloc _).alloc _⟩

theorem rnew_no (n : Int) (h : n < 1 ∨ 1048576 < n) (w : World) :
    Calls Try.prog 10 #[.int .i64 n] w fun e w' => e = .returned (.pointer none) ∧ w' = w := by
  by_cases q : n < 1
  · have d1 : decide (n < 1) = true := by simp; omega
    clear h
    go_enter Try.func10, Try.ntmps10
    go_wp2
    go_ret
    exact ⟨rfl, rfl⟩
  · have d1 : decide (n < 1) = false := by simp; omega
    have d2 : decide ((1048576 : Int) < n) = true := by simp; omega
    clear h
    go_enter Try.func10, Try.ntmps10
    go_wp2
    go_ret
    exact ⟨rfl, rfl⟩

/-- The world behind 'has', where there is such a word. -/
theorem did_count {T a b : Nat} {w : World} {ws : List Int} {c : Int} (h : At T w a b ws c) :
    At T (w.setCell ⟨a, 1, none⟩ (.int .i64 (c + 1))) a b ws (c + 1) ∧ Turned (fun k => k = a ∨ k = b) w (w.setCell ⟨a, 1, none⟩ (.int .i64 (c + 1))) :=
  ⟨h.setCount (c + 1), (Turned.refl _ w).setCell _ _ (fun _ => Or.inl rfl)⟩

theorem rhas (a b : Nat) (ws : List Int) (c i : Int) (w : World) (h : At 38 w a b ws c) (hl : ws.length ≤ 1048576) (hc : 0 ≤ c) (hc' : c ≤ 4611686018427387904) :
    Calls Try.prog 31 #[.pointer (some ⟨a, 0, none⟩), .int .i64 i] w (Did 38 a b w ws (cntOf ws i c) (.bool (inB ws i))) := by
  have h0 := h.c0; have h1 := h.c1; have h2 := h.f1
  by_cases c1 : i < 0
  · have b1 : decide (i < 0) = true := by simp; omega
    have HI : Hid (inB ws i = false ∧ cntOf ws i c = c) := by
      have q : inB ws i = false := by simp [inB]; omega
      exact ⟨q, by simp [cntOf, q]⟩
    go_enter Try.func31, Try.ntmps31
    go_wp2_with fail
    go_ret
    exact ⟨by rw [HI.out.1]; rfl, by rw [HI.out.2]; exact h, Turned.refl _ _⟩
  · have b1 : decide (i < 0) = false := by simp; omega
    by_cases c2 : (ws.length : Int) ≤ i
    · have b2 : decide ((ws.length : Int) ≤ i) = true := by simp; omega
      have HI : Hid (inB ws i = false ∧ cntOf ws i c = c) := by
        have q : inB ws i = false := by simp [inB]; omega
        exact ⟨q, by simp [cntOf, q]⟩
      go_enter Try.func31, Try.ntmps31
      go_wp2_with fail
      go_ret
      exact ⟨by rw [HI.out.1]; rfl, by rw [HI.out.2]; exact h, Turned.refl _ _⟩
    · have b2 : decide ((ws.length : Int) ≤ i) = false := by simp; omega
      have HI : Hid (inB ws i = true ∧ cntOf ws i c = c + 1) := by
        have q : inB ws i = true := by simp [inB]; omega
        exact ⟨q, by simp [cntOf, q]⟩
      go_enter Try.func31, Try.ntmps31
      go_wp2_with fail
      go_ret
      exact ⟨by rw [HI.out.1]; rfl, by rw [HI.out.2]; exact (did_count h).1, (did_count h).2⟩

theorem rload (a b : Nat) (ws : List Int) (c i : Int) (w : World) (h : At 38 w a b ws c) (hl : ws.length ≤ 1048576) (hc : 0 ≤ c) (hc' : c ≤ 4611686018427387904) :
    Calls Try.prog 24 #[.pointer (some ⟨a, 0, none⟩), .int .i64 i] w (Did 38 a b w ws (cntOf ws i c) (.tuple #[.int .i64 (loadV ws i), .int .i64 (errOf ws i)])) := by
  have HH := Lib.hid (rhas a b ws c i w h hl hc hc')
  cases hin : inB ws i with
  | false =>
    have HE : Hid (errOf ws i = 3 ∧ loadV ws i = 0) := ⟨by simp [errOf, hin], by simp [loadV, hin]⟩
    rw [hin] at HH
    clear hin
    go_enter Try.func24, Try.ntmps24
    go_wp2_with fail
    refine HH.out.mono ?_
    rintro e w1 ⟨rfl, hat, t1⟩
    go_wp2_with fail
    go_ret2
    exact ⟨by first | (rw [HE.out.1, HE.out.2]; rfl) | rw [HE.out.1, HE.out.2], hat, t1⟩
  | true =>
    obtain ⟨n, rfl⟩ : ∃ n : Nat, i = n := ⟨i.toNat, by simp [inB] at hin; omega⟩
    have hn : n < ws.length := by simp [inB] at hin; omega
    have HE : Hid (errOf ws n = 0 ∧ loadV ws n = wordAt ws n) := ⟨by simp [errOf, hin], by simp [loadV, hin]⟩
    rw [hin] at HH
    clear hin
    go_enter Try.func24, Try.ntmps24
    go_wp2_with fail
    refine HH.out.mono ?_
    rintro e w1 ⟨rfl, hat, t1⟩
    have k0 := hat.c0
    have k1 : w1.cell? ⟨b, n, none⟩ = some (.int .i64 (wordAt ws n)) := hat.wd hn
    go_wp2_with fail
    go_ret2
    exact ⟨by first | (rw [HE.out.1, HE.out.2]; rfl) | rw [HE.out.1, HE.out.2], hat, t1⟩

theorem rstore (a b : Nat) (ws : List Int) (c i x : Int) (w : World) (h : At 38 w a b ws c) (hl : ws.length ≤ 1048576) (hc : 0 ≤ c) (hc' : c ≤ 4611686018427387904) :
    Calls Try.prog 25 #[.pointer (some ⟨a, 0, none⟩), .int .i64 i, .int .i64 x] w (Did 38 a b w (storeW ws i x) (cntOf ws i c) (.int .i64 (errOf ws i))) := by
  have HH := Lib.hid (rhas a b ws c i w h hl hc hc')
  cases hin : inB ws i with
  | false =>
    have HE : Hid (errOf ws i = 3 ∧ storeW ws i x = ws) := ⟨by simp [errOf, hin], by simp [storeW, hin]⟩
    rw [hin] at HH
    clear hin
    go_enter Try.func25, Try.ntmps25
    go_wp2_with fail
    refine HH.out.mono ?_
    rintro e w1 ⟨rfl, hat, t1⟩
    go_wp2_with fail
    go_ret
    exact ⟨by first | (rw [HE.out.1]; rfl) | rw [HE.out.1], by rw [HE.out.2]; exact hat, t1⟩
  | true =>
    obtain ⟨n, rfl⟩ : ∃ n : Nat, i = n := ⟨i.toNat, by simp [inB] at hin; omega⟩
    have hn : n < ws.length := by simp [inB] at hin; omega
    have HE : Hid (errOf ws n = 0 ∧ storeW ws n x = ws.set n x) := ⟨by simp [errOf, hin], by simp [storeW, hin]⟩
    rw [hin] at HH
    clear hin
    go_enter Try.func25, Try.ntmps25
    go_wp2_with fail
    refine HH.out.mono ?_
    rintro e w1 ⟨rfl, hat, t1⟩
    have k0 := hat.c0
    have k1 : w1.cell? ⟨b, n, none⟩ = some (.int .i64 (wordAt ws n)) := hat.wd hn
    have k2 := hat.fw n
    go_wp2_with fail
    go_ret
    exact ⟨by first | (rw [HE.out.1]; rfl) | rw [HE.out.1], by rw [HE.out.2]; exact hat.setWord n x, t1.setCell _ _ (fun _ => Or.inr rfl)⟩

theorem rswap (a b : Nat) (ws : List Int) (c i o x : Int) (w : World) (h : At 38 w a b ws c) (hl : ws.length ≤ 1048576) (hc : 0 ≤ c) (hc' : c ≤ 4611686018427387904) :
    Calls Try.prog 26 #[.pointer (some ⟨a, 0, none⟩), .int .i64 i, .int .i64 o, .int .i64 x] w (Did 38 a b w (swapW ws i o x) (cntOf ws i c) (.tuple #[.int .i64 (loadV ws i), .int .i64 (errOf ws i)])) := by
  have HH := Lib.hid (rhas a b ws c i w h hl hc hc')
  cases hin : inB ws i with
  | false =>
    have HE : Hid (errOf ws i = 3 ∧ loadV ws i = 0 ∧ swapW ws i o x = ws) := ⟨by simp [errOf, hin], by simp [loadV, hin], by simp [swapW, hin]⟩
    rw [hin] at HH
    clear hin
    go_enter Try.func26, Try.ntmps26
    go_wp2_with fail
    refine HH.out.mono ?_
    rintro e w1 ⟨rfl, hat, t1⟩
    go_wp2_with fail
    go_ret2
    exact ⟨by first | (rw [HE.out.1, HE.out.2.1]; rfl) | rw [HE.out.1, HE.out.2.1], by rw [HE.out.2.2]; exact hat, t1⟩
  | true =>
    obtain ⟨n, rfl⟩ : ∃ n : Nat, i = n := ⟨i.toNat, by simp [inB] at hin; omega⟩
    have hn : n < ws.length := by simp [inB] at hin; omega
    rw [hin] at HH
    cases hq : (wordAt ws n == o) with
    | true =>
      have HE : Hid (errOf ws n = 0 ∧ loadV ws n = wordAt ws n ∧ swapW ws n o x = ws.set n x) := ⟨by simp [errOf, hin], by simp [loadV, hin], by have := beq_iff_eq.1 hq; simp [swapW, hin, this]⟩
      clear hin
      go_enter Try.func26, Try.ntmps26
      go_wp2_with fail
      refine HH.out.mono ?_
      rintro e w1 ⟨rfl, hat, t1⟩
      have k0 := hat.c0
      have k1 : w1.cell? ⟨b, n, none⟩ = some (.int .i64 (wordAt ws n)) := hat.wd hn
      have k2 := hat.fw n
      go_wp2_with fail
      go_ret2
      exact ⟨by first | (rw [HE.out.1, HE.out.2.1]; rfl) | rw [HE.out.1, HE.out.2.1], by rw [HE.out.2.2]; exact hat.setWord n x, t1.setCell _ _ (fun _ => Or.inr rfl)⟩
    | false =>
      have HE : Hid (errOf ws n = 0 ∧ loadV ws n = wordAt ws n ∧ swapW ws n o x = ws) := ⟨by simp [errOf, hin], by simp [loadV, hin], by have := beq_eq_false_iff_ne.1 hq; simp [swapW, hin, this]⟩
      clear hin
      go_enter Try.func26, Try.ntmps26
      go_wp2_with fail
      refine HH.out.mono ?_
      rintro e w1 ⟨rfl, hat, t1⟩
      have k0 := hat.c0
      have k1 : w1.cell? ⟨b, n, none⟩ = some (.int .i64 (wordAt ws n)) := hat.wd hn
      go_wp2_with fail
      go_ret2
      exact ⟨by first | (rw [HE.out.1, HE.out.2.1]; rfl) | rw [HE.out.1, HE.out.2.1], by rw [HE.out.2.2]; exact hat, t1⟩

theorem rbump (a b : Nat) (ws : List Int) (c i m : Int) (w : World) (h : At 38 w a b ws c) (hv : ∀ j : Nat, j < ws.length → -9223372036854775808 ≤ wordAt ws j) (hm9 : m ≤ 9223372036854775807) (hl : ws.length ≤ 1048576) (hc : 0 ≤ c) (hc' : c ≤ 4611686018427387904) :
    Calls Try.prog 27 #[.pointer (some ⟨a, 0, none⟩), .int .i64 i, .int .i64 m] w (Did 38 a b w (bumpW ws i m) (cntOf ws i c) (.tuple #[.int .i64 (bumpV ws i m), .int .i64 (bumpE ws i m)])) := by
  have HH := Lib.hid (rhas a b ws c i w h hl hc hc')
  have HV := Lib.hid hv; clear hv
  cases hin : inB ws i with
  | false =>
    have HE : Hid (bumpE ws i m = 3 ∧ bumpV ws i m = 0 ∧ bumpW ws i m = ws) := ⟨by simp [bumpE, hin], by simp [bumpV, hin], by simp [bumpW, hin]⟩
    rw [hin] at HH
    clear hin
    go_enter Try.func27, Try.ntmps27
    go_wp2_with fail
    refine HH.out.mono ?_
    rintro e w1 ⟨rfl, hat, t1⟩
    go_wp2_with fail
    go_ret2
    exact ⟨by first | (rw [HE.out.1, HE.out.2.1]; rfl) | rw [HE.out.1, HE.out.2.1], by rw [HE.out.2.2]; exact hat, t1⟩
  | true =>
    obtain ⟨n, rfl⟩ : ∃ n : Nat, i = n := ⟨i.toNat, by simp [inB] at hin; omega⟩
    have hn : n < ws.length := by simp [inB] at hin; omega
    rw [hin] at HH
    by_cases hq : m ≤ wordAt ws n
    · have HE : Hid (bumpE ws n m = 8 ∧ bumpV ws n m = wordAt ws n ∧ bumpW ws n m = ws) := ⟨by simp [bumpE, hin, hq], by simp [bumpV, hin, hq], by simp [bumpW, hin, hq]⟩
      clear hin
      go_enter Try.func27, Try.ntmps27
      go_wp2_with fail
      refine HH.out.mono ?_
      rintro e w1 ⟨rfl, hat, t1⟩
      have k0 := hat.c0
      have k1 : w1.cell? ⟨b, n, none⟩ = some (.int .i64 (wordAt ws n)) := hat.wd hn
      go_wp2_with fail
      go_ret2
      exact ⟨by first | (rw [HE.out.1, HE.out.2.1]; rfl) | rw [HE.out.1, HE.out.2.1], by rw [HE.out.2.2]; exact hat, t1⟩
    · have HE : Hid (bumpE ws n m = 0 ∧ bumpV ws n m = wordAt ws n + 1 ∧ bumpW ws n m = ws.set n (wordAt ws n + 1)) := ⟨by simp [bumpE, hin, hq], by simp [bumpV, hin, hq], by simp [bumpW, hin, hq]⟩
      clear hin
      have hlo := HV.out n hn
      have hhi : wordAt ws n < m := by omega
      go_enter Try.func27, Try.ntmps27
      go_wp2_with fail
      refine HH.out.mono ?_
      rintro e w1 ⟨rfl, hat, t1⟩
      have k0 := hat.c0
      have k1 : w1.cell? ⟨b, n, none⟩ = some (.int .i64 (wordAt ws n)) := hat.wd hn
      have k2 := hat.fw n
      have k3 := hat.ne
      go_wp2_with fail
      go_ret2
      exact ⟨by first | (rw [HE.out.1, HE.out.2.1]; rfl) | rw [HE.out.1, HE.out.2.1], by rw [HE.out.2.2]; exact hat.setWord n _, t1.setCell _ _ (fun _ => Or.inr rfl)⟩

end Go.Proofs.Ytgkibbblmfmdnaa
