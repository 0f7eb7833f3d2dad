/-
  Layer 8's statement of a page's chunk and a chunk's pages.
-/
import Derived.Test.YtonenkgjlmcfkaaChunkLives
import Derived.Test.YtonenkgjlmcfkaaChunkRef
namespace Go.Proofs.Ytonenkgjlmcfkaa
open Go.RowKit Go.Sort Go.Maps Go.Shelf
set_option linter.unusedVariables false
set_option linter.unusedSimpArgs false

set_option maxRecDepth 100000 in
set_option maxHeartbeats 2000000 in
theorem parts_walk (y0 y1 y2 y3 y4 y5 y6 y7 y8 y9 y10 p k : Int) (w : World) (f0 : (Lit.int .i64 y0).wf = true) (f1 : (Lit.int .i64 y1).wf = true) (f2 : (Lit.int .i64 y2).wf = true) (f3 : (Lit.int .i64 y3).wf = true) (f4 : (Lit.int .i64 y4).wf = true) (f5 : (Lit.int .i64 y5).wf = true) (f6 : (Lit.int .i64 y6).wf = true) (f7 : (Lit.int .i64 y7).wf = true) (f8 : (Lit.int .i64 y8).wf = true) (f9 : (Lit.int .i64 y9).wf = true) (f10 : (Lit.int .i64 y10).wf = true) (fp : (Lit.int .i64 p).wf = true) (fk : (Lit.int .i64 k).wf = true) :
    Calls Try.prog 4 #[.agg #[.int .i64 y0, .int .i64 y1, .int .i64 y2, .int .i64 y3, .int .i64 y4, .int .i64 y5, .int .i64 y6, .int .i64 y7, .int .i64 y8, .int .i64 y9, .int .i64 y10], .int .i64 p, .int .i64 k] w (Gives w (.bool true)) := by
  obtain ⟨wk, cp, pg, st, tr, wt, ck, pr, ca, bi, ba, R0, S0⟩ := some_gives y0 y1 y2 y3 y4 y5 y6 y7 y8 y9 y10 f0 f1 f2 f3 f4 f5 f6 f7 f8 f9 f10
  obtain ⟨c, hc⟩ : ∃ c : Cfg, c = ⟨wk, cp, pg, st, tr, wt, ck, pr, ca, bi, ba⟩ := ⟨_, rfl⟩
  have R : Hid c.Ok := Lib.hid (by subst hc; exact R0)
  have S : Hid (∀ W, Calls Try.prog 14 #[.agg #[.int .i64 y0, .int .i64 y1, .int .i64 y2, .int .i64 y3, .int .i64 y4, .int .i64 y5, .int .i64 y6, .int .i64 y7, .int .i64 y8, .int .i64 y9, .int .i64 y10]] W (Gives W (.agg c.cells))) := Lib.hid (by subst hc; exact S0.out)
  clear S0 hc R0
  have p0 := wf_lo fp
  have p1 := wf_hi fp
  have HA := Lib.hid (row_new w #[.int .i64 y0, .int .i64 y1, .int .i64 y2, .int .i64 y3, .int .i64 y4, .int .i64 y5, .int .i64 y6, .int .i64 y7, .int .i64 y8, .int .i64 y9, .int .i64 y10] 23)
  have HM : Hid (More w (w.alloc (.cells #[.int .i64 y0, .int .i64 y1, .int .i64 y2, .int .i64 y3, .int .i64 y4, .int .i64 y5, .int .i64 y6, .int .i64 y7, .int .i64 y8, .int .i64 y9, .int .i64 y10] 23))) := (More.refl w).alloc _
  have OF := Lib.hid (fun w => c_of p p0 p1 w)
  have OR := Lib.hid (fun w => r_of p p0 p1 w)
  clear f0 f1 f2 f3 f4 f5 f6 f7 f8 f9 f10 fp fk p0 p1
  go_enter Try.func4, Try.ntmps4
  go_wp2_with (refine wpList_load_row rfl 23 _ rfl w.heap.size rfl 23 _ _ _ HA.out Try.underlying23 rfl (by kernel_rfl) ?_)
  refine (S.out _).mono ?_
  rintro e w1 ⟨rfl, h1⟩
  have A1 := Lib.hid (h1.block HA.out)
  have A2 := Lib.hid (setRow_heap w1 w.heap.size _ c.cells _ _ (h1.block HA.out))
  have M2 : Hid (More w (w1.setRow w.heap.size c.cells)) := Lib.hid ((HM.out.trans h1).setRow _ _ (Nat.le_refl _))
  clear h1 HA HM S
  go_wp2_with (first
    | (refine wpList_store_row rfl 23 _ _ rfl w.heap.size c.cells rfl rfl 23 _ A1.out (by kernel_rfl) rfl (cells_one c) ?_; generalize World.setRow _ _ _ = w2 at A2 M2 ⊢; clear A1)
    | (refine wpList_load_row rfl 23 _ rfl w.heap.size rfl 23 _ _ _ A2.out Try.underlying23 rfl (by kernel_rfl) ?_))
  refine (y_of R.out _).mono ?_
  rintro e w3 ⟨rfl, h3⟩
  have A3 := Lib.hid (h3.block A2.out)
  have M3 := Lib.hid (M2.out.trans h3)
  clear h3 A2 M2
  obtain ⟨w5, e5, b1, b2, b3, m5, s5⟩ := rows2 w3 zero24 zero11 c.arr c.cells 28 30
  have B1 := Lib.hid (row_new w3 zero24 28)
  have m4 : More w3 ((w3.alloc (.cells zero24 28)).setRow w3.heap.size c.arr) := ((More.refl w3).alloc _).setRow _ _ (Nat.le_refl _)
  have A4 := Lib.hid (m4.block A3.out)
  have L4 := Lib.hid (setRow_heap _ _ _ c.arr _ _ B1.out)
  have M4 := Lib.hid (M3.out.trans m4)
  have s4 : ((w3.alloc (.cells zero24 28)).setRow w3.heap.size c.arr).heap.size = w3.heap.size + 1 := by simp
  have S4 := Lib.hid s4
  clear e5 b1 b2 b3 m5 s5 w5 m4 M3 s4
  go_wp2_with (first
    | (refine wpList_store_row rfl 28 _ _ rfl w3.heap.size c.arr rfl rfl 28 zero24 B1.out (by kernel_rfl) rfl (arr_one c) ?_; generalize World.setRow _ _ _ = w4 at A4 L4 M4 S4 ⊢; clear B1 A3)
    | (refine wpList_load_row rfl 23 _ rfl w.heap.size rfl 23 _ _ _ A4.out Try.underlying23 rfl (by kernel_rfl) ?_)
    | ((with_reducible refine wpList_ref ?_ (.tmp 21) ?_ c ?_ ?_); rfl; rfl; rfl)
    | (refine wpList_store_row rfl 30 _ _ rfl w4.heap.size c.cells rfl rfl 30 zero11 (row_new w4 _ _) (by kernel_rfl) rfl (cells_one c) ?_; have m5 : More w4 ((w4.alloc (.cells zero11 30)).setRow w4.heap.size c.cells) := ((More.refl w4).alloc _).setRow _ _ (Nat.le_refl _); have L5 := Lib.hid (m5.block L4.out); have P5 := Lib.hid (setRow_heap _ _ _ c.cells _ _ (row_new w4 zero11 30)); have M5 := Lib.hid (M4.out.trans m5); clear m5; generalize World.setRow _ _ _ = w5 at L5 P5 M5 ⊢)
    | (refine wpList_load_row rfl 28 _ rfl w3.heap.size rfl 28 _ _ _ L5.out Try.underlying28 rfl (by kernel_rfl) ?_))
  refine (c_Pages R.out k _).mono ?_
  rintro e w6 ⟨rfl, h6⟩
  have P6 := Lib.hid (h6.block P5.out)
  have M6 := Lib.hid (M5.out.trans h6)
  clear h6 P5 L5 L4 M4 M5 A4 S4
  have RP := Lib.hid (fun w => r_pages R.out k w)
  generalize firstV c.pg k = x1 at RP ⊢
  generalize sizeV c.pg k = x2 at RP ⊢
  go_wp2_with (refine wpList_load_row rfl 30 _ rfl w4.heap.size rfl 30 _ _ _ P6.out Try.underlying30 rfl (by kernel_rfl) ?_)
  refine (RP.out _).mono ?_
  rintro e w7 ⟨rfl, h7⟩
  have M7 := Lib.hid (M6.out.trans h7)
  clear h7 P6 M6 RP
  go_wp2_with fail
  refine (OF.out _).mono ?_
  rintro e w8 ⟨rfl, rfl⟩
  go_wp2_with fail
  refine (OR.out _).mono ?_
  rintro e w8 ⟨rfl, rfl⟩
  go_wp2_with fail
  refine (lives8_ok _).mono ?_
  rintro e w9 ⟨rfl, h9⟩
  have M9 := Lib.hid (M7.out.trans h9)
  go_wp2_with fail
  go_ret
  exact ⟨rfl, M9.out⟩
end Go.Proofs.Ytonenkgjlmcfkaa
