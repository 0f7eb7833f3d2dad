/-
  The step that stores: Go leaves open which of the two stores comes first.
-/
import Derived.Test.YtgkibbblmfmdnaaStep
import Derived.Deep.RegionWith
import Derived.Deep.RegionHeld3
namespace Go.Proofs.Ytgkibbblmfmdnaa
open Go.RowKit
set_option linter.unusedVariables false
set_option linter.unusedSimpArgs false

/-- Behind an access of each, the document's own first. -/
theorem both_of' {w w1 w2 : World} {a b p q : Nat} {ws ws' : List Int} {c c' : Int} (h : Both w a b p q ws c) (h2 : At 38 w1 p q ws' c') (t2 : Turned (fun k => k = p ∨ k = q) w w1)
    (h1 : At 53 w2 a b ws' c') (t1 : Turned (fun k => k = a ∨ k = b) w1 w2) (hwf : ∀ z ∈ ws', (Lit.int .i64 z).wf = true) : Both w2 a b p q ws' c' ∧ Turned (Of4 a b p q) w w2 :=
  ⟨⟨h1, h2.keep t1 (by have := h.ap; have := h.bp; omega) (by have := h.aq; have := h.bq; omega), h.ap, h.aq, h.bp, h.bq, hwf⟩,
   (t2.mono (fun k _ hk => by unfold Of4; omega)).trans (t1.mono (fun k _ hk => by unfold Of4; omega))⟩

variable (a b p q : Nat) (ws : List Int) (c x0 x1 x2 x3 : Int) (w : World)

theorem step_store (h : Both w a b p q ws c) (hl : ws.length ≤ 1048576) (hc : 0 ≤ c) (hc' : c ≤ 4611686018427387904) (k0 : x0 = 1) (q2 : (Lit.int .i64 x2).wf = true) :
    Calls Try.prog 13 #[.pointer (some ⟨a, 0, none⟩), .pointer (some ⟨p, 0, none⟩), .agg #[.int .i64 x0, .int .i64 x1, .int .i64 x2, .int .i64 x3]] w (StepPost a b p q ws c w) := by
  subst k0
  have T0 : Turned (fun _ => False) w (w.alloc (.cells #[.int .i64 1, .int .i64 x1, .int .i64 x2, .int .i64 x3] 31)).drew := ((Turned.refl _ w).alloc _).drew
  have HA : Hid (ActAt (w.alloc (.cells #[.int .i64 1, .int .i64 x1, .int .i64 x2, .int .i64 x3] 31)).drew w.heap.size 1 x1 x2 x3) := actAt_new w 1 x1 x2 x3
  have hb0 := h.over T0
  have hm0 := hb0.m
  have hr0 := hb0.r
  have s1 := h.m.la; have s2 := h.m.lb; have s3 := h.r.la; have s4 := h.r.lb
  go_enter Try.func13, Try.ntmps13
  go_wp2_with fail
  go_region_held3 (fun w' => w'.cell? ⟨w.heap.size, 1, none⟩ = some (.int .i64 x1) ∧ w'.cell? ⟨w.heap.size, 2, none⟩ = some (.int .i64 x2))
    (first | exact ⟨HA.out.cells.2.1, HA.out.cells.2.2.1⟩ | exact ⟨K1.out.cells.2.1, K1.out.cells.2.2.1⟩ | exact ⟨K2.out.cells.2.1, K2.out.cells.2.2.1⟩)
    (first | (go_at_call 12; refine (store_any a b ws c x1 x2 _ (by assumption) hl hc hc').mono ?_; rintro e wm ⟨rfl, hatm, tm⟩; have K1 : Hid (ActAt wm w.heap.size 1 x1 x2 x3) := (by first | exact HA.out.keep tm (by omega) | exact K2.out.keep tm (by omega)); (try have hr1 := hb0.r1 tm)) | (go_at_call 25; refine (rstore p q ws c x1 x2 _ (by assumption) hl hc hc').mono ?_; rintro e wr ⟨rfl, hatr, tr⟩; have K2 : Hid (ActAt wr w.heap.size 1 x1 x2 x3) := (by first | exact HA.out.keep tr (by omega) | exact K1.out.keep tr (by omega)); (try have hm1 := hb0.m1 tr)))
  all_goals
    have HB := Lib.hid (both_of hb0 hatm tm hatr tr (wf_storeW h.wf x1 q2))
    have HC := Lib.hid (cnt_lo ws x1 c)
    clear tm tr hatm hatr
    go_wp2_with fail
    go_ret
    exact ⟨rfl, _, _, len_storeW _ _ _, HC.out.1, HC.out.2, HB.out.1, (T0.mono (fun _ _ z => z.elim)).trans HB.out.2⟩

theorem step_any (h : Both w a b p q ws c) (hl : ws.length ≤ 1048576) (hc : 0 ≤ c) (hc' : c ≤ 4611686018427387904) (q2 : (Lit.int .i64 x2).wf = true) (q3 : (Lit.int .i64 x3).wf = true) :
    Calls Try.prog 13 #[.pointer (some ⟨a, 0, none⟩), .pointer (some ⟨p, 0, none⟩), .agg #[.int .i64 x0, .int .i64 x1, .int .i64 x2, .int .i64 x3]] w (StepPost a b p q ws c w) := by
  by_cases k0 : x0 = 0
  · exact step_load a b p q ws c x0 x1 x2 x3 w h hl hc hc' k0
  by_cases k1 : x0 = 1
  · exact step_store a b p q ws c x0 x1 x2 x3 w h hl hc hc' k1 q2
  by_cases k2 : x0 = 2
  · exact step_swap a b p q ws c x0 x1 x2 x3 w h hl hc hc' k2 q3
  by_cases k3 : x0 = 3
  · exact step_bump a b p q ws c x0 x1 x2 x3 w h hl hc hc' k3 q2
  exact step_other a b p q ws c x0 x1 x2 x3 w h (by simpa using k0) (by simpa using k1) (by simpa using k2) (by simpa using k3)

end Go.Proofs.Ytgkibbblmfmdnaa
