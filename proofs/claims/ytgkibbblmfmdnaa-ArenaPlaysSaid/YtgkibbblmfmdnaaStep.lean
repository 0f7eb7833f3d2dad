/-
  One step of the statement on plays: both answer the same, and hold the same words.
-/
import Derived.Test.YtgkibbblmfmdnaaRef
import Derived.Test.YtgkibbblmfmdnaaOneWalk
namespace Go.Proofs.Ytgkibbblmfmdnaa
open Go.RowKit
set_option linter.unusedVariables false
set_option linter.unusedSimpArgs false

/-- Both arenas stand apart, with the same words and the same count. -/
structure Both (w : World) (a b p q : Nat) (ws : List Int) (c : Int) : Prop where
  m : At 53 w a b ws c
  r : At 38 w p q ws c
  ap : a ≠ p
  aq : a ≠ q
  bp : b ≠ p
  bq : b ≠ q
  wf : ∀ z ∈ ws, (Lit.int .i64 z).wf = true

def Of4 (a b p q k : Nat) : Prop := k = a ∨ k = b ∨ k = p ∨ k = q

def StepPost (a b p q : Nat) (ws : List Int) (c : Int) (w : World) (e : Ending) (w' : World) : Prop :=
  e = .returned (.bool true) ∧ ∃ ws' c', ws'.length = ws.length ∧ c ≤ c' ∧ c' ≤ c + 1 ∧ Both w' a b p q ws' c' ∧ Turned (Of4 a b p q) w w'

theorem cnt_lo (ws : List Int) (i c : Int) : c ≤ cntOf ws i c ∧ cntOf ws i c ≤ c + 1 := by unfold cntOf; split <;> omega
theorem wf_set {ws : List Int} (h : ∀ z ∈ ws, (Lit.int .i64 z).wf = true) (i : Nat) {x : Int} (hx : (Lit.int .i64 x).wf = true) : ∀ z ∈ ws.set i x, (Lit.int .i64 z).wf = true := by
  intro z hz
  rcases List.mem_or_eq_of_mem_set hz with q | q
  · exact h z q
  · rw [q]; exact hx
theorem wf_storeW {ws : List Int} (h : ∀ z ∈ ws, (Lit.int .i64 z).wf = true) (i : Int) {x : Int} (hx : (Lit.int .i64 x).wf = true) : ∀ z ∈ storeW ws i x, (Lit.int .i64 z).wf = true := by
  unfold storeW; split
  · exact wf_set h _ hx
  · exact h
theorem wf_swapW {ws : List Int} (h : ∀ z ∈ ws, (Lit.int .i64 z).wf = true) (i o : Int) {x : Int} (hx : (Lit.int .i64 x).wf = true) : ∀ z ∈ swapW ws i o x, (Lit.int .i64 z).wf = true := by
  unfold swapW; split
  · split
    · exact wf_set h _ hx
    · exact h
  · exact h
theorem wf_mk {x : Int} (h1 : -9223372036854775808 ≤ x) (h2 : x ≤ 9223372036854775807) : (Lit.int .i64 x).wf = true := by
  have e1 : IntKind.i64.min = -9223372036854775808 := by decide
  have e2 : IntKind.i64.max = 9223372036854775807 := by decide
  simp only [Lit.wf, Bool.and_eq_true, decide_eq_true_eq]; omega
theorem wf_bumpW {ws : List Int} (h : ∀ z ∈ ws, (Lit.int .i64 z).wf = true) (i : Int) {m : Int} (hm : (Lit.int .i64 m).wf = true) : ∀ z ∈ bumpW ws i m, (Lit.int .i64 z).wf = true := by
  unfold bumpW; split
  · rename_i q; split
    · exact h
    · rename_i q2
      have hn : i.toNat < ws.length := by simp [inB] at q; omega
      have hw : (Lit.int .i64 (wordAt ws i)).wf = true := h _ (by simp [wordAt, List.getD, hn])
      exact wf_set h _ (wf_mk (by have := int_lo hw; omega) (by have := int_hi hm; omega))
  · exact h

/-- Behind an access of each. -/
theorem both_of {w w1 w2 : World} {a b p q : Nat} {ws ws' : List Int} {c c' : Int} (h : Both w a b p q ws c) (h1 : At 53 w1 a b ws' c') (t1 : Turned (fun k => k = a ∨ k = b) w w1)
    (h2 : At 38 w2 p q ws' c') (t2 : Turned (fun k => k = p ∨ k = q) w1 w2) (hwf : ∀ z ∈ ws', (Lit.int .i64 z).wf = true) : Both w2 a b p q ws' c' ∧ Turned (Of4 a b p q) w w2 :=
  ⟨⟨h1.keep t2 (by have := h.ap; have := h.aq; omega) (by have := h.bp; have := h.bq; omega), h2, h.ap, h.aq, h.bp, h.bq, hwf⟩,
   (t1.mono (fun k _ hk => by unfold Of4; omega)).trans (t2.mono (fun k _ hk => by unfold Of4; omega))⟩
/-- The other arena stays at an access of the first. -/
theorem Both.r1 {w w1 : World} {a b p q : Nat} {ws : List Int} {c : Int} (h : Both w a b p q ws c) (t1 : Turned (fun k => k = a ∨ k = b) w w1) : At 38 w1 p q ws c :=
  h.r.keep t1 (by have := h.ap; have := h.bp; omega) (by have := h.aq; have := h.bq; omega)
theorem Both.m1 {w w1 : World} {a b p q : Nat} {ws : List Int} {c : Int} (h : Both w a b p q ws c) (t1 : Turned (fun k => k = p ∨ k = q) w w1) : At 53 w1 a b ws c :=
  h.m.keep t1 (by have := h.ap; have := h.aq; omega) (by have := h.bp; have := h.bq; omega)
theorem Both.over {w w1 : World} {a b p q : Nat} {ws : List Int} {c : Int} (h : Both w a b p q ws c) (t1 : Turned (fun _ => False) w w1) : Both w1 a b p q ws c :=
  ⟨h.m.keep t1 (fun x => x) (fun x => x), h.r.keep t1 (fun x => x) (fun x => x), h.ap, h.aq, h.bp, h.bq, h.wf⟩

/-- What stands in the block of an act. -/
theorem act_cells {w : World} {k : Nat} {x0 x1 x2 x3 : Int} {T : Nat} (h : w.heap[k]? = some (.cells #[.int .i64 x0, .int .i64 x1, .int .i64 x2, .int .i64 x3] T (0, 0))) :
    w.cell? ⟨k, 0, none⟩ = some (.int .i64 x0) ∧ w.cell? ⟨k, 1, none⟩ = some (.int .i64 x1) ∧ w.cell? ⟨k, 2, none⟩ = some (.int .i64 x2) ∧ w.cell? ⟨k, 3, none⟩ = some (.int .i64 x3) := by
  simp [World.cell?, h]

def ActAt (w : World) (k : Nat) (x0 x1 x2 x3 : Int) : Prop := w.heap[k]? = some (.cells #[.int .i64 x0, .int .i64 x1, .int .i64 x2, .int .i64 x3] 31 (0, 0))
theorem ActAt.keep {w w1 : World} {k : Nat} {x0 x1 x2 x3 : Int} {S : Nat → Prop} (h : ActAt w k x0 x1 x2 x3) (t : Turned S w w1) (hk : ¬ S k) : ActAt w1 k x0 x1 x2 x3 := (t.block k (lt_of_heap h) hk).trans h
theorem ActAt.cells {w : World} {k : Nat} {x0 x1 x2 x3 : Int} (h : ActAt w k x0 x1 x2 x3) :
    w.cell? ⟨k, 0, none⟩ = some (.int .i64 x0) ∧ w.cell? ⟨k, 1, none⟩ = some (.int .i64 x1) ∧ w.cell? ⟨k, 2, none⟩ = some (.int .i64 x2) ∧ w.cell? ⟨k, 3, none⟩ = some (.int .i64 x3) := act_cells h
theorem actAt_new (w : World) (x0 x1 x2 x3 : Int) : ActAt (w.alloc (.cells #[.int .i64 x0, .int .i64 x1, .int .i64 x2, .int .i64 x3] 31)) w.heap.size x0 x1 x2 x3 := heap_new w _

variable (a b p q : Nat) (ws : List Int) (c x0 x1 x2 x3 : Int) (w : World)

theorem step_load (h : Both w a b p q ws c) (hl : ws.length ≤ 1048576) (hc : 0 ≤ c) (hc' : c ≤ 4611686018427387904) (k0 : x0 = 0) :
    Calls Try.prog 13 #[.pointer (some ⟨a, 0, none⟩), .pointer (some ⟨p, 0, none⟩), .agg #[.int .i64 x0, .int .i64 x1, .int .i64 x2, .int .i64 x3]] w (StepPost a b p q ws c w) := by
  subst k0
  have T0 : Turned (fun _ => False) w (w.alloc (.cells #[.int .i64 0, .int .i64 x1, .int .i64 x2, .int .i64 x3] 31)) := (Turned.refl _ w).alloc _
  have HA := Lib.hid (actAt_new w 0 x1 x2 x3)
  have hb0 := h.over T0
  have s1 := h.m.la; have s2 := h.m.lb; have s3 := h.r.la; have s4 := h.r.lb
  go_enter Try.func13, Try.ntmps13
  go_wp2_with fail
  refine (load_any a b ws c x1 _ hb0.m hl hc hc').mono ?_
  rintro e w1 ⟨rfl, hat, t1⟩
  have A1 := (HA.out.keep t1 (by omega)).cells
  have hr1 := hb0.r1 t1
  go_wp2_with fail
  refine (rload p q ws c x1 _ hr1 hl hc hc').mono ?_
  rintro e w2 ⟨rfl, hat2, t2⟩
  have HB := Lib.hid (both_of hb0 hat t1 hat2 t2 h.wf)
  have HC := Lib.hid (cnt_lo ws x1 c)
  clear t1 t2 hr1
  go_wp2_with fail
  go_ret
  exact ⟨rfl, _, _, rfl, HC.out.1, HC.out.2, HB.out.1, (T0.mono (fun _ _ z => z.elim)).trans HB.out.2⟩

theorem step_swap (h : Both w a b p q ws c) (hl : ws.length ≤ 1048576) (hc : 0 ≤ c) (hc' : c ≤ 4611686018427387904) (k0 : x0 = 2) (q3 : (Lit.int .i64 x3).wf = true) :
    Calls Try.prog 13 #[.pointer (some ⟨a, 0, none⟩), .pointer (some ⟨p, 0, none⟩), .agg #[.int .i64 x0, .int .i64 x1, .int .i64 x2, .int .i64 x3]] w (StepPost a b p q ws c w) := by
  subst k0
  have T0 : Turned (fun _ => False) w (w.alloc (.cells #[.int .i64 2, .int .i64 x1, .int .i64 x2, .int .i64 x3] 31)) := (Turned.refl _ w).alloc _
  have HA := Lib.hid (actAt_new w 2 x1 x2 x3)
  have hb0 := h.over T0
  have s1 := h.m.la; have s2 := h.m.lb; have s3 := h.r.la; have s4 := h.r.lb
  go_enter Try.func13, Try.ntmps13
  go_wp2_with fail
  refine (swap_any a b ws c x1 x2 x3 _ hb0.m hl hc hc').mono ?_
  rintro e w1 ⟨rfl, hat, t1⟩
  have A1 := (HA.out.keep t1 (by omega)).cells
  have hr1 := hb0.r1 t1
  go_wp2_with fail
  refine (rswap p q ws c x1 x2 x3 _ hr1 hl hc hc').mono ?_
  rintro e w2 ⟨rfl, hat2, t2⟩
  have HB := Lib.hid (both_of hb0 hat t1 hat2 t2 (wf_swapW h.wf x1 x2 q3))
  have HC := Lib.hid (cnt_lo ws x1 c)
  clear t1 t2 hr1
  go_wp2_with fail
  go_ret
  exact ⟨rfl, _, _, len_swapW _ _ _ _, HC.out.1, HC.out.2, HB.out.1, (T0.mono (fun _ _ z => z.elim)).trans HB.out.2⟩

theorem step_bump (h : Both w a b p q ws c) (hl : ws.length ≤ 1048576) (hc : 0 ≤ c) (hc' : c ≤ 4611686018427387904) (k0 : x0 = 3) (q2 : (Lit.int .i64 x2).wf = true) :
    Calls Try.prog 13 #[.pointer (some ⟨a, 0, none⟩), .pointer (some ⟨p, 0, none⟩), .agg #[.int .i64 x0, .int .i64 x1, .int .i64 x2, .int .i64 x3]] w (StepPost a b p q ws c w) := by
  subst k0
  have T0 : Turned (fun _ => False) w (w.alloc (.cells #[.int .i64 3, .int .i64 x1, .int .i64 x2, .int .i64 x3] 31)) := (Turned.refl _ w).alloc _
  have HA := Lib.hid (actAt_new w 3 x1 x2 x3)
  have hb0 := h.over T0
  have s1 := h.m.la; have s2 := h.m.lb; have s3 := h.r.la; have s4 := h.r.lb
  go_enter Try.func13, Try.ntmps13
  go_wp2_with fail
  refine (bump_any a b ws c x1 x2 _ hb0.m (low_of h.wf) (int_hi q2) hl hc hc').mono ?_
  rintro e w1 ⟨rfl, hat, t1⟩
  have A1 := (HA.out.keep t1 (by omega)).cells
  have hr1 := hb0.r1 t1
  go_wp2_with fail
  refine (rbump p q ws c x1 x2 _ hr1 (low_of h.wf) (int_hi q2) hl hc hc').mono ?_
  rintro e w2 ⟨rfl, hat2, t2⟩
  have HB := Lib.hid (both_of hb0 hat t1 hat2 t2 (wf_bumpW h.wf x1 q2))
  have HC := Lib.hid (cnt_lo ws x1 c)
  clear t1 t2 hr1
  go_wp2_with fail
  go_ret
  exact ⟨rfl, _, _, len_bumpW _ _ _, HC.out.1, HC.out.2, HB.out.1, (T0.mono (fun _ _ z => z.elim)).trans HB.out.2⟩

theorem step_other (h : Both w a b p q ws c) (b0 : (x0 == 0) = false) (b1 : (x0 == 1) = false) (b2 : (x0 == 2) = false) (b3 : (x0 == 3) = false) :
    Calls Try.prog 13 #[.pointer (some ⟨a, 0, none⟩), .pointer (some ⟨p, 0, none⟩), .agg #[.int .i64 x0, .int .i64 x1, .int .i64 x2, .int .i64 x3]] w (StepPost a b p q ws c w) := by
  have T0 : Turned (fun _ => False) w (w.alloc (.cells #[.int .i64 x0, .int .i64 x1, .int .i64 x2, .int .i64 x3] 31)) := (Turned.refl _ w).alloc _
  have HB := Lib.hid (h.over T0)
  go_enter Try.func13, Try.ntmps13
  go_wp2_with fail
  go_ret
  exact ⟨rfl, ws, c, rfl, by omega, by omega, HB.out, T0.mono (fun _ _ z => z.elim)⟩

end Go.Proofs.Ytgkibbblmfmdnaa
