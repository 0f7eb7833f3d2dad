/-
  The document's own answers for chunks: which there are, and their pages.
-/
import Derived.Test.YtonenkgjlmcfkaaChunkBegin
namespace Go.Proofs.Ytonenkgjlmcfkaa
open Go.RowKit Go.Sort Go.Maps Go.Shelf
set_option linter.unusedVariables false
set_option linter.unusedSimpArgs false

theorem y_rchunks {c : Cfg} (R : c.Ok) (w : World) : Calls Try.prog 64 #[.agg c.cells] w (Gives w (.int .i64 (chunksV c.pg))) := rchunks c.wk c.cp c.pg c.st c.tr c.wt c.ck c.pr c.ca c.bi c.ba w R
theorem y_rtable {c : Cfg} (R : c.Ok) (k : Int) (w : World) : Calls Try.prog 59 #[.agg c.cells, .int .i64 k] w (Gives w (.int .i64 (tblV c.pg c.st k))) := rtbl c.wk c.cp c.pg c.st c.tr c.wt c.ck c.pr c.ca c.bi c.ba w k R

theorem r_of (p : Int) (h0 : -9223372036854775808 ≤ p) (h1 : p ≤ 9223372036854775807) (w : World) : Calls Try.prog 19 #[.int .i64 p] w fun e w' => e = .returned (.int .i64 (ofV p)) ∧ w' = w := by
  by_cases c : p < 0
  · rw [show ofV p = -1 from if_pos c]
    go_enter Try.func19, Try.ntmps19
    go_wp2_with fail
    go_ret
    exact ⟨rfl, rfl⟩
  · rw [show ofV p = p / 4 from if_neg c]
    have q2 : IntKind.i64.wrap (p.tdiv 4) = p / 4 := by rw [Int.tdiv_eq_ediv_of_nonneg (by omega)]; exact wrap_in (by omega) (by omega)
    have d0 : decide (p < 0) = false := by simp; omega
    go_enter Try.func19, Try.ntmps19
    go_wp2_with fail
    go_ret
    exact ⟨rfl, rfl⟩

theorem r_there {c : Cfg} (R : c.Ok) (k : Int) (w : World) : Calls Try.prog 48 #[.agg c.cells, .int .i64 k] w (Gives w (.bool (isChunk c.pg k))) := by
  have HC := Lib.hid (row_new w c.cells 30)
  have HM : Hid (More w (w.alloc (.cells c.cells 30))) := (More.refl w).alloc _
  by_cases h : 0 ≤ k
  · have d0 : decide (0 ≤ k) = true := by simp [h]
    have hk : isChunk c.pg k = decide (k < chunksV c.pg) := by unfold isChunk; rw [d0]; rfl
    rw [hk]
    go_enter Try.func48, Try.ntmps48
    go_wp2_with (refine wpList_load_rowG rfl 30 _ rfl _ rfl 30 _ _ _ HC.out Try.underlying30 rfl (by kernel_rfl) ?_)
    refine (y_rchunks R _).mono ?_
    rintro e w1 ⟨rfl, h1⟩
    go_wp2_with fail
    go_ret
    exact ⟨rfl, HM.out.trans h1⟩
  · have d0 : decide (0 ≤ k) = false := by simp [h]
    have hk : isChunk c.pg k = false := by unfold isChunk; rw [d0]; rfl
    rw [hk]
    go_enter Try.func48, Try.ntmps48
    go_wp2_with fail
    go_ret
    exact ⟨rfl, HM.out⟩

set_option maxHeartbeats 1000000 in
theorem r_pages {c : Cfg} (R : c.Ok) (k : Int) (w : World) : Calls Try.prog 17 #[.agg c.cells, .int .i64 k] w (Gives w (.tuple #[.int .i64 (firstV c.pg k), .int .i64 (sizeV c.pg k)])) := by
  have HC := Lib.hid (row_new w c.cells 30)
  have HM : Hid (More w (w.alloc (.cells c.cells 30))) := (More.refl w).alloc _
  cases h : isChunk c.pg k with
  | false =>
    rw [show firstV c.pg k = 0 by unfold firstV; rw [h]; rfl, show sizeV c.pg k = 0 by unfold sizeV; rw [h]; rfl]
    go_enter Try.func17, Try.ntmps17
    go_wp2_with (refine wpList_load_row rfl 30 _ rfl _ rfl 30 _ _ _ HC.out Try.underlying30 rfl (by kernel_rfl) ?_)
    refine (r_there R k _).mono ?_
    rw [h]
    rintro e w1 ⟨rfl, h1⟩
    go_wp2_with fail
    go_ret2
    exact ⟨rfl, HM.out.trans h1⟩
  | true =>
    have hb := isChunk_iff.1 h
    have p1 := R.pg1
    have p2 := R.pg2
    have hu : 4 * k < c.pg ∧ k < 64 := by unfold chunksV at hb; omega
    have q0 : IntKind.i64.wrap (4 * k) = 4 * k := wrap_in (by omega) (by omega)
    have q1 : IntKind.i64.wrap (c.pg - 4 * k) = c.pg - 4 * k := wrap_in (by omega) (by omega)
    rw [show firstV c.pg k = 4 * k by unfold firstV; rw [h]; rfl, show sizeV c.pg k = min 4 (c.pg - 4 * k) by unfold sizeV; rw [h]; rfl]
    have R' := Lib.hid R
    clear hb hu p1 p2
    go_enter Try.func17, Try.ntmps17
    go_wp2_with (refine wpList_load_row rfl 30 _ rfl _ rfl 30 _ _ _ HC.out Try.underlying30 rfl (by kernel_rfl) ?_)
    refine (r_there R'.out k _).mono ?_
    rw [h]
    rintro e w1 ⟨rfl, h1⟩
    have HC1 := h1.block HC.out
    have HM1 := Lib.hid (HM.out.trans h1)
    have x2 : w1.cell? ⟨w.heap.size, 2, none⟩ = some (.int .i64 c.pg) := cell_more HC1 (More.refl _) rfl
    clear h1 HC1
    go_wp2_with fail
    go_quiet (fail)
    go_wp2_with fail
    go_ret2
    exact ⟨rfl, HM1.out.drewN _⟩
end Go.Proofs.Ytonenkgjlmcfkaa
