/-
  The document's own answers for chunks: which there are, and their pages.
-/
import Derived.Test.YtogfikemodaepaaGreatChunkBegin
import Derived.Test.YtogfikemodaepaaGreatChunkEnd
namespace Go.Proofs.YtogfikemodaepaaGreat
open Go.RowKit Go.Sort Go.Maps Go.Shelf
set_option linter.unusedVariables false
set_option linter.unusedSimpArgs false

theorem y_rchunks {c : Cfg} (R : c.Ok) (w : World) : Calls Tryz.prog 63 #[.agg c.cells] w (Gives w (.int .i64 (chunksV c.pg))) := rchunks c.wk c.cp c.pg c.st c.tr c.wt c.ck c.pr c.ca c.bi c.ba w R
theorem y_rtable {c : Cfg} (R : c.Ok) (k : Int) (w : World) : Calls Tryz.prog 90 #[.agg c.cells, .int .i64 k] w (Gives w (.int .i64 (tblV c.pg c.st k))) := rtbl c.wk c.cp c.pg c.st c.tr c.wt c.ck c.pr c.ca c.bi c.ba w k R

theorem r_of (p : Int) (h0 : -9223372036854775808 ≤ p) (h1 : p ≤ 9223372036854775807) (w : World) : Calls Tryz.prog 85 #[.int .i64 p] w fun e w' => e = .returned (.int .i64 (ofV p)) ∧ w' = w := by
  by_cases c : p < 0
  · rw [show ofV p = -1 from if_pos c]
    go_enter Tryz.func85, Tryz.ntmps85
    go_wp2_with fail
    go_ret
    exact ⟨rfl, rfl⟩
  · rw [show ofV p = p / 4 from if_neg c]
    have q2 : IntKind.i64.wrap (p.tdiv 4) = p / 4 := by rw [Int.tdiv_eq_ediv_of_nonneg (by omega)]; exact wrap_in (by omega) (by omega)
    have d0 : decide (p < 0) = false := by simp; omega
    go_enter Tryz.func85, Tryz.ntmps85
    go_wp2_with fail
    go_ret
    exact ⟨rfl, rfl⟩

theorem r_there {c : Cfg} (R : c.Ok) (k : Int) (w : World) : Calls Tryz.prog 89 #[.agg c.cells, .int .i64 k] w (Gives w (.bool (isChunk c.pg k))) := by
  have HC := Lib.hid (row_new w c.cells 30)
  have HM : Hid (More w (w.alloc (.cells c.cells 30))) := (More.refl w).alloc _
  by_cases h : 0 ≤ k
  · have d0 : decide (0 ≤ k) = true := by simp [h]
    have hk : isChunk c.pg k = decide (k < chunksV c.pg) := by unfold isChunk; rw [d0]; rfl
    rw [hk]
    go_enter Tryz.func89, Tryz.ntmps89
    go_wp2_with (refine wpList_load_rowG rfl 30 _ rfl _ rfl 30 _ _ _ HC.out Tryz.underlying30 rfl (by kernel_rfl) ?_)
    refine (y_rchunks R _).mono ?_
    rintro e w1 ⟨rfl, h1⟩
    go_wp2_with fail
    go_ret
    exact ⟨rfl, HM.out.trans h1⟩
  · have d0 : decide (0 ≤ k) = false := by simp [h]
    have hk : isChunk c.pg k = false := by unfold isChunk; rw [d0]; rfl
    rw [hk]
    go_enter Tryz.func89, Tryz.ntmps89
    go_wp2_with fail
    go_ret
    exact ⟨rfl, HM.out⟩

set_option maxHeartbeats 1000000 in
theorem r_pages {c : Cfg} (R : c.Ok) (k : Int) (w : World) : Calls Tryz.prog 64 #[.agg c.cells, .int .i64 k] w (Gives w (.tuple #[.int .i64 (firstV c.pg k), .int .i64 (sizeV c.pg k)])) := by
  have HC := Lib.hid (row_new w c.cells 30)
  have HM : Hid (More w (w.alloc (.cells c.cells 30))) := (More.refl w).alloc _
  cases h : isChunk c.pg k with
  | false =>
    rw [show firstV c.pg k = 0 by unfold firstV; rw [h]; rfl, show sizeV c.pg k = 0 by unfold sizeV; rw [h]; rfl]
    go_enter Tryz.func64, Tryz.ntmps64
    go_wp2_with (refine wpList_load_row rfl 30 _ rfl _ rfl 30 _ _ _ HC.out Tryz.underlying30 rfl (by kernel_rfl) ?_)
    refine (r_there R k _).mono ?_
    rw [h]
    rintro e w1 ⟨rfl, h1⟩
    go_wp2_with fail
    go_ret2
    exact ⟨rfl, HM.out.trans h1⟩
  | true =>
    have hb := isChunk_iff.1 h
    have p1 := R.pg1
    have p2 := R.pg2
    have hu : 4 * k < c.pg ∧ k < 64 := by unfold chunksV at hb; omega
    have q0 : IntKind.i64.wrap (4 * k) = 4 * k := wrap_in (by omega) (by omega)
    have q1 : IntKind.i64.wrap (c.pg - 4 * k) = c.pg - 4 * k := wrap_in (by omega) (by omega)
    rw [show firstV c.pg k = 4 * k by unfold firstV; rw [h]; rfl, show sizeV c.pg k = min 4 (c.pg - 4 * k) by unfold sizeV; rw [h]; rfl]
    have R' := Lib.hid R
    clear hb hu p1 p2
    go_enter Tryz.func64, Tryz.ntmps64
    go_wp2_with (refine wpList_load_row rfl 30 _ rfl _ rfl 30 _ _ _ HC.out Tryz.underlying30 rfl (by kernel_rfl) ?_)
    refine (r_there R'.out k _).mono ?_
    rw [h]
    rintro e w1 ⟨rfl, h1⟩
    have HC1 := h1.block HC.out
    have HM1 := Lib.hid (HM.out.trans h1)
    have x2 : w1.cell? ⟨w.heap.size, 2, none⟩ = some (.int .i64 c.pg) := cell_more HC1 (More.refl _) rfl
    clear h1 HC1
    go_wp2_with fail
    go_quiet (fail)
    go_wp2_with fail
    go_ret2
    exact ⟨rfl, HM1.out.drewN _⟩
end Go.Proofs.YtogfikemodaepaaGreat

namespace Go.Proofs.YtogfikemodaepaaGreat
open Go.RowKit Go.Sort Go.Maps Go.Shelf
set_option linter.unusedVariables false
set_option linter.unusedSimpArgs false

set_option maxHeartbeats 1000000 in
theorem r_mapped {c : Cfg} (R : c.Ok) (ws : List Int) (H : TblIn c.pg c.st ws.length) (hl : ws.length ≤ 1000) (g cap : Nat) (k : Int) (w : World) (hw : Ws w g cap ws) :
    Calls Tryz.prog 84 #[.agg c.cells, .slice (some ⟨g, 0, none⟩) ws.length cap, .int .i64 k] w (Gives w (.bool (mappedV c.pg c.st ws k))) := by
  have HC := Lib.hid (row_new w c.cells 30)
  have HM : Hid (More w (w.alloc (.cells c.cells 30))) := (More.refl w).alloc _
  have R' := Lib.hid R
  have HW := Lib.hid hw
  cases h : isChunk c.pg k with
  | false =>
    rw [show mappedV c.pg c.st ws k = false by unfold mappedV; rw [h]; rfl]
    clear hw R
    go_enter Tryz.func84, Tryz.ntmps84
    go_wp2_with (refine wpList_load_row rfl 30 _ rfl _ rfl 30 _ _ _ HC.out Tryz.underlying30 rfl (by kernel_rfl) ?_)
    refine (r_there R'.out k _).mono ?_
    rw [h]
    rintro e w1 ⟨rfl, h1⟩
    have HM1 := Lib.hid (HM.out.trans h1)
    clear h1
    go_wp2_with fail
    go_ret
    exact ⟨rfl, HM1.out⟩
  | true =>
    obtain ⟨t0, t1, t2⟩ := tbl_b H h
    obtain ⟨m, hm⟩ : ∃ m : Nat, tblV c.pg c.st k = (m : Int) := ⟨(tblV c.pg c.st k).toNat, by omega⟩
    have hmj : m < ws.length := by omega
    have hv : mappedV c.pg c.st ws k = decide (ws.getD m 0 = 1) := by unfold mappedV; rw [h, hm]; rfl
    rw [hv]
    have YT : Hid (∀ W, Calls Tryz.prog 90 #[.agg c.cells, .int .i64 k] W (Gives W (.int .i64 (m : Int)))) := Lib.hid (fun W => by have := y_rtable R k W; rw [hm] at this; exact this)
    have HX : Hid (∀ W, More w W → W.cell? ⟨g, m, none⟩ = some (.int .i64 (ws.getD m 0))) := Lib.hid (fun W hW => (hw.more hW).cell hmj)
    generalize ws.getD m 0 = z at HX ⊢
    have b1 : (z == 1) = decide (z = 1) := by by_cases q : z = 1 <;> simp [q]
    clear hw R hm t0 t1 t2 hv HW
    go_enter Tryz.func84, Tryz.ntmps84
    go_wp2_with (refine wpList_load_row rfl 30 _ rfl _ rfl 30 _ _ _ HC.out Tryz.underlying30 rfl (by kernel_rfl) ?_)
    refine (r_there R'.out k _).mono ?_
    rw [h]
    rintro e w1 ⟨rfl, h1⟩
    have HC1 := Lib.hid (h1.block HC.out)
    have HM1 := Lib.hid (HM.out.trans h1)
    clear h1
    go_wp2_with (refine wpList_load_rowG rfl 30 _ rfl _ rfl 30 _ _ _ HC1.out Tryz.underlying30 rfl (by kernel_rfl) ?_)
    refine (YT.out _).mono ?_
    rintro e w2 ⟨rfl, h2⟩
    have HM2 := Lib.hid (HM1.out.trans h2)
    have x1 := HX.out _ HM2.out
    clear h2
    go_wp2_with fail
    go_ret
    exact ⟨rfl, HM2.out⟩

theorem r_all {c : Cfg} (R : c.Ok) (x y : Int) (hx : W64 x) (w : World) : Calls Tryz.prog 86 #[.agg c.cells, .int .i64 x, .int .i64 y] w (Gives w (.bool (thereB c.pg x y))) := by
  have hc := row_new w c.cells 30
  have x2 : (w.alloc (.cells c.cells 30)).cell? ⟨w.heap.size, 2, none⟩ = some (.int .i64 c.pg) := cell_more hc (More.refl _) rfl
  have HM : Hid (More w (w.alloc (.cells c.cells 30))) := (More.refl w).alloc _
  have p1 := R.pg1
  have p2 := R.pg2
  have q0 : thereB c.pg x y = (decide (1 ≤ y) && decide (0 ≤ x) && decide (x < c.pg) && decide (y ≤ c.pg - x)) := by
    unfold thereB
    by_cases a : 1 ≤ y <;> by_cases b : 0 ≤ x <;> by_cases d : y ≤ c.pg - x <;> simp [a, b, d]
    omega
  rw [q0]
  clear q0 hc
  unfold W64 at hx
  by_cases a : 1 ≤ y
  · have d1 : decide (1 ≤ y) = true := by simp [a]
    by_cases b : 0 ≤ x
    · have d2 : decide (0 ≤ x) = true := by simp [b]
      by_cases d : x < c.pg
      · have d3 : decide (x < c.pg) = true := by simp [d]
        have q1 : IntKind.i64.wrap (c.pg - x) = c.pg - x := wrap_in (by omega) (by omega)
        rw [d1, d2, d3]
        simp only [Bool.true_and, Bool.and_true]
        clear a b d p1 p2 hx R
        go_enter Tryz.func86, Tryz.ntmps86
        go_wp2_with fail
        go_ret
        exact ⟨rfl, HM.out⟩
      · have d3 : decide (x < c.pg) = false := by simp; omega
        rw [d1, d2, d3]
        simp only [Bool.true_and, Bool.and_true, Bool.false_and, Bool.and_false]
        clear a b d p1 p2 hx R
        go_enter Tryz.func86, Tryz.ntmps86
        go_wp2_with fail
        go_ret
        exact ⟨rfl, HM.out⟩
    · have d2 : decide (0 ≤ x) = false := by simp [b]
      rw [d1, d2]
      simp only [Bool.true_and, Bool.and_true, Bool.false_and, Bool.and_false]
      clear a b p1 p2 hx R
      go_enter Tryz.func86, Tryz.ntmps86
      go_wp2_with fail
      go_ret
      exact ⟨rfl, HM.out⟩
  · have d1 : decide (1 ≤ y) = false := by simp [a]
    rw [d1]
    simp only [Bool.true_and, Bool.and_true, Bool.false_and, Bool.and_false]
    clear a p1 p2 hx R
    go_enter Tryz.func86, Tryz.ntmps86
    go_wp2_with fail
    go_ret
    exact ⟨rfl, HM.out⟩
/-- A row was turned to ws. -/
def RowTo (w : World) (g cap : Nat) (v : Value) (ws : List Int) (e : Ending) (w' : World) : Prop := e = .returned v ∧ Ws w' g cap ws ∧ Turned (fun b => b = g) w w'
theorem turned_more {S : Nat → Prop} {w w' : World} (m : More w w') : Turned S w w' := Turned.mono m (fun _ _ q => q.elim)

set_option maxHeartbeats 2000000 in
theorem r_turn {c : Cfg} (R : c.Ok) (ws : List Int) (H : TblIn c.pg c.st ws.length) (hl : ws.length ≤ 1000) (g cap : Nat) (k x : Int) (w : World) (hw : Ws w g cap ws) :
    Calls Tryz.prog 65 #[.agg c.cells, .slice (some ⟨g, 0, none⟩) ws.length cap, .int .i64 k, .int .i64 x] w (RowTo w g cap (.bool (decide (0 < (turnV c.pg c.st k x ws).1))) (turnV c.pg c.st k x ws).2) := by
  have HC := Lib.hid (row_new w c.cells 30)
  have HM : Hid (More w (w.alloc (.cells c.cells 30))) := (More.refl w).alloc _
  have R' := Lib.hid R
  have HW := Lib.hid hw
  cases h : isChunk c.pg k with
  | false =>
    rw [show turnV c.pg c.st k x ws = (0, ws) by unfold turnV; rw [h]; rfl]
    clear hw R
    go_enter Tryz.func65, Tryz.ntmps65
    go_wp2_with (refine wpList_load_row rfl 30 _ rfl _ rfl 30 _ _ _ HC.out Tryz.underlying30 rfl (by kernel_rfl) ?_)
    refine (r_there R'.out k _).mono ?_
    rw [h]
    rintro e w1 ⟨rfl, h1⟩
    have HM1 := Lib.hid (HM.out.trans h1)
    clear h1
    go_wp2_with fail
    go_ret
    exact ⟨rfl, HW.out.more HM1.out, turned_more HM1.out⟩
  | true =>
    obtain ⟨t0, t1, t2⟩ := tbl_b H h
    obtain ⟨m, hm⟩ : ∃ m : Nat, tblV c.pg c.st k = (m : Int) := ⟨(tblV c.pg c.st k).toNat, by omega⟩
    have hmj : m < ws.length := by omega
    have YT : Hid (∀ W, Calls Tryz.prog 90 #[.agg c.cells, .int .i64 k] W (Gives W (.int .i64 (m : Int)))) := Lib.hid (fun W => by have := y_rtable R k W; rw [hm] at this; exact this)
    have RM := Lib.hid (fun W (hW : More w W) => r_mapped R ws H hl g cap k W (hw.more hW))
    have hs := size_1 h
    have e1 : decide (0 < sizeV c.pg k) = true := by simp; omega
    have hT : turnV c.pg c.st k x ws = if mappedV c.pg c.st ws k = decide (x = 1) then (0, ws) else (sizeV c.pg k, ws.set m x) := by unfold turnV; rw [h, hm]; rfl
    rw [hT]
    generalize mappedV c.pg c.st ws k = b at RM ⊢
    by_cases hx : x = 1
    · cases b with
      | false =>
        have d0 : (x == 1) = true := by simp [hx]
        have d1 : decide (x = 1) = true := by simp [hx]
        rw [d1]
        rw [if_neg (by decide)]
        show Calls _ _ _ _ (RowTo w g cap (.bool (decide (0 < sizeV c.pg k))) (ws.set m x))
        rw [e1]
        clear hw R hm t0 t1 t2 hT hs e1 hx d1
        go_enter Tryz.func65, Tryz.ntmps65
        go_wp2_with (refine wpList_load_row rfl 30 _ rfl _ rfl 30 _ _ _ HC.out Tryz.underlying30 rfl (by kernel_rfl) ?_)
        refine (r_there R'.out k _).mono ?_
        rw [h]
        rintro e w1 ⟨rfl, h1⟩
        have HC1 := Lib.hid (h1.block HC.out)
        have HM1 := Lib.hid (HM.out.trans h1)
        clear h1
        go_wp2_with (refine wpList_load_rowG rfl 30 _ rfl _ rfl 30 _ _ _ HC1.out Tryz.underlying30 rfl (by kernel_rfl) ?_)
        refine (RM.out _ HM1.out).mono ?_
        rintro e w2 ⟨rfl, h2⟩
        have HC2 := Lib.hid (h2.block HC1.out)
        have HM2 := Lib.hid (HM1.out.trans h2)
        clear h2
        go_wp2_with (refine wpList_load_row rfl 30 _ rfl _ rfl 30 _ _ _ HC2.out Tryz.underlying30 rfl (by kernel_rfl) ?_)
        refine (YT.out _).mono ?_
        rintro e w3 ⟨rfl, h3⟩
        have HM3 := Lib.hid (HM2.out.trans h3)
        have x1 := (HW.out.more HM3.out).cell hmj
        have x2 := (HW.out.more HM3.out).froz m
        have FIN := Lib.hid (And.intro ((HW.out.more HM3.out).set hmj x) ((turned_more (S := fun b => b = g) HM3.out).setCell ⟨g, m, none⟩ (.int .i64 x) (fun _ => rfl)))
        clear h3
        go_wp2_with fail
        go_ret
        exact ⟨rfl, FIN.out.1, FIN.out.2⟩
      | true =>
        have d0 : (x == 1) = true := by simp [hx]
        have d1 : decide (x = 1) = true := by simp [hx]
        rw [d1]
        rw [if_pos rfl]
        clear hw R hm t0 t1 t2 hT hs e1 hx d1
        go_enter Tryz.func65, Tryz.ntmps65
        go_wp2_with (refine wpList_load_row rfl 30 _ rfl _ rfl 30 _ _ _ HC.out Tryz.underlying30 rfl (by kernel_rfl) ?_)
        refine (r_there R'.out k _).mono ?_
        rw [h]
        rintro e w1 ⟨rfl, h1⟩
        have HC1 := Lib.hid (h1.block HC.out)
        have HM1 := Lib.hid (HM.out.trans h1)
        clear h1
        go_wp2_with (refine wpList_load_rowG rfl 30 _ rfl _ rfl 30 _ _ _ HC1.out Tryz.underlying30 rfl (by kernel_rfl) ?_)
        refine (RM.out _ HM1.out).mono ?_
        rintro e w2 ⟨rfl, h2⟩
        have HC2 := Lib.hid (h2.block HC1.out)
        have HM2 := Lib.hid (HM1.out.trans h2)
        clear h2
        go_wp2_with fail
        go_ret
        exact ⟨rfl, HW.out.more HM2.out, turned_more HM2.out⟩
    · cases b with
      | false =>
        have d0 : (x == 1) = false := by simp [hx]
        have d1 : decide (x = 1) = false := by simp [hx]
        rw [d1]
        rw [if_pos rfl]
        clear hw R hm t0 t1 t2 hT hs e1 hx d1
        go_enter Tryz.func65, Tryz.ntmps65
        go_wp2_with (refine wpList_load_row rfl 30 _ rfl _ rfl 30 _ _ _ HC.out Tryz.underlying30 rfl (by kernel_rfl) ?_)
        refine (r_there R'.out k _).mono ?_
        rw [h]
        rintro e w1 ⟨rfl, h1⟩
        have HC1 := Lib.hid (h1.block HC.out)
        have HM1 := Lib.hid (HM.out.trans h1)
        clear h1
        go_wp2_with (refine wpList_load_rowG rfl 30 _ rfl _ rfl 30 _ _ _ HC1.out Tryz.underlying30 rfl (by kernel_rfl) ?_)
        refine (RM.out _ HM1.out).mono ?_
        rintro e w2 ⟨rfl, h2⟩
        have HC2 := Lib.hid (h2.block HC1.out)
        have HM2 := Lib.hid (HM1.out.trans h2)
        clear h2
        go_wp2_with fail
        go_ret
        exact ⟨rfl, HW.out.more HM2.out, turned_more HM2.out⟩
      | true =>
        have d0 : (x == 1) = false := by simp [hx]
        have d1 : decide (x = 1) = false := by simp [hx]
        rw [d1]
        rw [if_neg (by decide)]
        show Calls _ _ _ _ (RowTo w g cap (.bool (decide (0 < sizeV c.pg k))) (ws.set m x))
        rw [e1]
        clear hw R hm t0 t1 t2 hT hs e1 hx d1
        go_enter Tryz.func65, Tryz.ntmps65
        go_wp2_with (refine wpList_load_row rfl 30 _ rfl _ rfl 30 _ _ _ HC.out Tryz.underlying30 rfl (by kernel_rfl) ?_)
        refine (r_there R'.out k _).mono ?_
        rw [h]
        rintro e w1 ⟨rfl, h1⟩
        have HC1 := Lib.hid (h1.block HC.out)
        have HM1 := Lib.hid (HM.out.trans h1)
        clear h1
        go_wp2_with (refine wpList_load_rowG rfl 30 _ rfl _ rfl 30 _ _ _ HC1.out Tryz.underlying30 rfl (by kernel_rfl) ?_)
        refine (RM.out _ HM1.out).mono ?_
        rintro e w2 ⟨rfl, h2⟩
        have HC2 := Lib.hid (h2.block HC1.out)
        have HM2 := Lib.hid (HM1.out.trans h2)
        clear h2
        go_wp2_with (refine wpList_load_row rfl 30 _ rfl _ rfl 30 _ _ _ HC2.out Tryz.underlying30 rfl (by kernel_rfl) ?_)
        refine (YT.out _).mono ?_
        rintro e w3 ⟨rfl, h3⟩
        have HM3 := Lib.hid (HM2.out.trans h3)
        have x1 := (HW.out.more HM3.out).cell hmj
        have x2 := (HW.out.more HM3.out).froz m
        have FIN := Lib.hid (And.intro ((HW.out.more HM3.out).set hmj x) ((turned_more (S := fun b => b = g) HM3.out).setCell ⟨g, m, none⟩ (.int .i64 x) (fun _ => rfl)))
        clear h3
        go_wp2_with fail
        go_ret
        exact ⟨rfl, FIN.out.1, FIN.out.2⟩
end Go.Proofs.YtogfikemodaepaaGreat

namespace Go.Proofs.YtogfikemodaepaaGreat
open Go.RowKit Go.Sort Go.Maps Go.Shelf
set_option linter.unusedVariables false
set_option linter.unusedSimpArgs false

theorem of_page {p : Int} (h : 0 ≤ p) : ofV p = p / 4 := if_neg (by omega)
theorem r_of_more (p : Int) (h0 : -9223372036854775808 ≤ p) (h1 : p ≤ 9223372036854775807) (w : World) : Calls Tryz.prog 85 #[.int .i64 p] w (Gives w (.int .i64 (ofV p))) := by
  refine (r_of p h0 h1 w).mono ?_
  rintro e w' ⟨rfl, rfl⟩
  exact ⟨rfl, More.refl _⟩

set_option maxHeartbeats 2000000 in
theorem r_count {c : Cfg} (R : c.Ok) (ws : List Int) (H : TblIn c.pg c.st ws.length) (hl : ws.length ≤ 1000) (g cap : Nat) (w : World) (hw : Ws w g cap ws) :
    Calls Tryz.prog 62 #[.agg c.cells, .slice (some ⟨g, 0, none⟩) ws.length cap] w (Gives w (.int .i64 (countW c.pg c.st ws))) := by
  have HC := Lib.hid (row_new w c.cells 30)
  have HM : Hid (More w (w.alloc (.cells c.cells 30))) := (More.refl w).alloc _
  have p1 := R.pg1
  have p2 := R.pg2
  rw [← count_pages c.pg c.st ws p1]
  have RM := Lib.hid (fun k W (hW : More w W) => r_mapped R ws H hl g cap k W (hw.more hW))
  have CB := Lib.hid (pagesC_b c.pg c.st ws)
  clear R H hw
  go_enter Tryz.func62, Tryz.ntmps62
  go_wp2_with fail
  go_loopw [5, 6] (fun nv pv wr => ∃ p : Nat, (p : Int) ≤ c.pg ∧ pv = .int .i64 p ∧ nv = .int .i64 (pagesC c.pg c.st ws p) ∧ More (w.alloc (.cells c.cells 30)) wr) (fun _ pv _ => c.pg.toNat - (intOf pv).toNat)
  case atStart => exact ⟨0, by omega, rfl, rfl, More.refl _⟩
  case round =>
    obtain ⟨p, hp, rfl, rfl, ht⟩ := hrel
    have hc := ht.block HC.out
    have x2 : wr.cell? ⟨w.heap.size, 2, none⟩ = some (.int .i64 c.pg) := cell_more hc (More.refl _) rfl
    have HC1 := Lib.hid hc
    have HT := Lib.hid ht
    have cb := CB.out p
    clear hc ht
    by_cases hlt : (p : Int) < c.pg
    · have d0 : decide ((p : Int) < c.pg) = true := by simp [hlt]
      have hq : ofV (p : Int) = (p : Int) / 4 := of_page (by omega)
      have q1 : IntKind.i64.wrap ((p : Int) + 1) = (p : Int) + 1 := wrap_in (by omega) (by omega)
      have q2 : IntKind.i64.wrap (pagesC c.pg c.st ws p + 1) = pagesC c.pg c.st ws p + 1 := wrap_in (by omega) (by omega)
      have OF := Lib.hid (fun W => by have := r_of_more (p : Int) (by omega) (by omega) W; rw [hq] at this; exact this)
      have hs : pagesC c.pg c.st ws (p + 1) = pagesC c.pg c.st ws p + if mappedV c.pg c.st ws ((p : Int) / 4) then 1 else 0 := rfl
      have RK := Lib.hid (RM.out ((p : Int) / 4))
      have HLT := Lib.hid hlt
      generalize mappedV c.pg c.st ws ((p : Int) / 4) = b at RK hs
      have HS := Lib.hid hs
      have CB0 := Lib.hid cb
      generalize pagesC c.pg c.st ws p = z at HS q2 CB0 ⊢
      clear hq hs hlt cb
      go_wp2_with fail
      refine wp_region_more (by kernel_rfl) (by kernel_rfl) ?_
      iterate 5
        first
        | (refine wpQuiet_load_row rfl 30 _ rfl _ rfl 30 _ _ _ (fun W hW => hW.block HC1.out) Tryz.underlying30 rfl (by kernel_rfl) ?_)
        | (with_reducible refine wpQuiet_step (fun K hK => ?_)
           go_simp
           first
           | (refine hK _ ?_; clear hK K)
           | (apply Exists.intro
              refine ⟨fun W hW => ?_, hK _ ?_⟩
              first
              | (go_at_call 85; exact Calls.more hW (OF.out W))
              | (go_at_call 84; exact Calls.more hW (RK.out W ((HM.out.trans HT.out).trans hW)))
              | ((try go_simp); try rfl)
              clear hK K))
      refine wpQuiet_nil ?_
      intro w2 m2
      have T2 := Lib.hid (HT.out.trans m2)
      clear m2
      cases b with
      | true =>
        go_wp2_with fail
        exact ⟨⟨p + 1, by have := HLT.out; omega, by go_num, by rw [HS.out]; rfl, T2.out⟩, by have := HLT.out; simp [intOf]; omega⟩
      | false =>
        go_wp2_with fail
        exact ⟨⟨p + 1, by have := HLT.out; omega, by go_num, by rw [HS.out]; simp, T2.out⟩, by have := HLT.out; simp [intOf]; omega⟩
    · have d0 : decide ((p : Int) < c.pg) = false := by simp [hlt]
      have hpe : p = c.pg.toNat := by omega
      have FIN := Lib.hid (HM.out.trans HT.out)
      have HE : Hid (pagesC c.pg c.st ws p = pagesC c.pg c.st ws c.pg.toNat) := Lib.hid (by rw [← hpe])
      clear hlt hpe cb
      go_wp2_with fail
      go_ret
      exact ⟨by rw [← HE.out]; rfl, FIN.out⟩

end Go.Proofs.YtogfikemodaepaaGreat

namespace Go.Proofs.YtogfikemodaepaaGreat
open Go.RowKit Go.Sort Go.Maps Go.Shelf
set_option linter.unusedVariables false
set_option linter.unusedSimpArgs false

theorem RowTo.from {w w1 w' : World} {g cap : Nat} {v : Value} {ws : List Int} {e : Ending} (t : Turned (fun b => b = g) w w1) (h : RowTo w1 g cap v ws e w') : RowTo w g cap v ws e w' := ⟨h.1, h.2.1, t.trans h.2.2⟩
theorem tbl_len {pg st : Int} {n m : Nat} (H : TblIn pg st n) (e : m = n) : TblIn pg st m := e ▸ H

set_option maxHeartbeats 2000000 in
theorem r_ensure {c : Cfg} (R : c.Ok) (ws : List Int) (H : TblIn c.pg c.st ws.length) (hl : ws.length ≤ 1000) (g cap : Nat) (x y : Int) (hx : W64 x) (w : World) (hw : Ws w g cap ws) :
    Calls Tryz.prog 60 #[.agg c.cells, .slice (some ⟨g, 0, none⟩) ws.length cap, .int .i64 x, .int .i64 y] w (RowTo w g cap (.int .i64 (ensureW c.pg c.st x y ws).1) (ensureW c.pg c.st x y ws).2) := by
  have HC := Lib.hid (row_new w c.cells 30)
  have HM : Hid (More w (w.alloc (.cells c.cells 30))) := (More.refl w).alloc _
  have p1 := R.pg1
  have p2 := R.pg2
  have RA := Lib.hid (fun W => r_all R x y hx W)
  have RCN := Lib.hid (fun (a : List Int) (e : a.length = ws.length) (W : World) (hW : Ws W g cap a) => by have := r_count R a (tbl_len H e) (by omega) g cap W hW; rw [e] at this; exact this)
  have RT := Lib.hid (fun (a : List Int) (e : a.length = ws.length) (k : Int) (W : World) (hW : Ws W g cap a) => by have := r_turn R a (tbl_len H e) (by omega) g cap k 1 W hW; rw [e] at this; exact this)
  have HW := Lib.hid hw
  have HH := Lib.hid H
  have hgl := hw.lt
  clear R H hw
  cases h : thereB c.pg x y with
  | false =>
    rw [show ensureW c.pg c.st x y ws = (0, ws) by unfold ensureW; rw [h]; rfl]
    rw [h] at RA
    clear h hx
    go_enter Tryz.func60, Tryz.ntmps60
    go_wp2_with (refine wpList_load_row rfl 30 _ rfl _ rfl 30 _ _ _ HC.out Tryz.underlying30 rfl (by kernel_rfl) ?_)
    refine (RA.out _).mono ?_
    rintro e w1 ⟨rfl, h1⟩
    have HM1 := Lib.hid (HM.out.trans h1)
    clear h1
    go_wp2_with fail
    go_ret
    exact ⟨rfl, HW.out.more HM1.out, turned_more HM1.out⟩
  | true =>
    have hth := h
    obtain ⟨i0, i1, i2⟩ := there_iff.1 h
    rw [h] at RA
    have q3 : IntKind.i64.wrap (x + y) = x + y := wrap_in (by omega) (by omega)
    have cb0 := count_b (st := c.st) ws p1 p2
    have cb1 := count_b (st := c.st) (ensureW c.pg c.st x y ws).2 p1 p2
    have hcd := count_ensure HH.out x y ws rfl
    have HTH := Lib.hid hth
    clear h hx hth
    go_enter Tryz.func60, Tryz.ntmps60
    go_wp2_with (refine wpList_load_row rfl 30 _ rfl _ rfl 30 _ _ _ HC.out Tryz.underlying30 rfl (by kernel_rfl) ?_)
    refine (RA.out _).mono ?_
    rintro e w1 ⟨rfl, h1⟩
    have HC1 := Lib.hid (h1.block HC.out)
    have HM1 := Lib.hid (HM.out.trans h1)
    clear h1
    go_wp2_with (refine wpList_load_row rfl 30 _ rfl _ rfl 30 _ _ _ HC1.out Tryz.underlying30 rfl (by kernel_rfl) ?_)
    refine (RCN.out ws rfl _ (HW.out.more HM1.out)).mono ?_
    rintro e w2 ⟨rfl, h2⟩
    have HC2 := Lib.hid (h2.block HC1.out)
    have HM2 := Lib.hid (HM1.out.trans h2)
    clear h2
    have HCD := Lib.hid (And.intro cb0 (And.intro cb1 hcd))
    generalize countW c.pg c.st ws = z0 at HCD ⊢
    clear cb0 cb1 hcd
    go_wp2_with fail
    go_loopw [10] (fun pv wr => ∃ (p : Int) (a : List Int), x ≤ p ∧ p ≤ x + y ∧ pv = .int .i64 p ∧ Ws wr g cap a ∧ Hid (Ones ws a (fun i => ∃ q : Int, x ≤ q ∧ q < p ∧ i = tblV c.pg c.st (q / 4))) ∧ Turned (fun b => b = g) w2 wr) (fun pv _ => (x + y - intOf pv).toNat)
    case atStart => exact ⟨x, ws, by omega, by omega, rfl, HW.out.more HM2.out, Lib.hid (ones_refl ws _ (fun i => by rintro ⟨q, h0, h1, _⟩; omega)), Turned.refl _ _⟩
    case round =>
      obtain ⟨p, a, hp0, hp1, rfl, hws, hon, ht⟩ := hrel
      have hal := hon.out.len
      have HC3 := Lib.hid ((ht.block w.heap.size (lt_of_heap HC2.out) (by omega)).trans HC2.out)
      have HT := Lib.hid ht
      have HWS := Lib.hid hws
      clear ht hws
      by_cases hlt : p < x + y
      · have d0 : decide (p < x + y) = true := by simp [hlt]
        have hq : ofV p = p / 4 := of_page (by omega)
        have q1 : IntKind.i64.wrap (p + 1) = p + 1 := wrap_in (by omega) (by omega)
        have OF := Lib.hid (fun W => by have := r_of_more p (by omega) (by omega) W; rw [hq] at this; exact this)
        have hck : isChunk c.pg (p / 4) = true := isChunk_iff.2 (by unfold chunksV; omega)
        have hn1 := ones_turn HH.out hon.out rfl hck
        have HNX : Hid (Ones ws (turnV c.pg c.st (p / 4) 1 a).2 (fun i => ∃ q : Int, x ≤ q ∧ q < p + 1 ∧ i = tblV c.pg c.st (q / 4))) := ⟨hn1.len, fun i h0 => by
          have e : (∃ q : Int, x ≤ q ∧ q < p + 1 ∧ i = tblV c.pg c.st (q / 4)) ↔ ((∃ q : Int, x ≤ q ∧ q < p ∧ i = tblV c.pg c.st (q / 4)) ∨ i = tblV c.pg c.st (p / 4)) := by
            constructor
            · rintro ⟨q, a0, a1, a2⟩
              by_cases e : q = p
              · subst e; exact .inr a2
              · exact .inl ⟨q, a0, by omega, a2⟩
            · rintro (⟨q, a0, a1, a2⟩ | a2)
              · exact ⟨q, a0, by omega, a2⟩
              · exact ⟨p, hp0, by omega, a2⟩
          exact ⟨fun r => (hn1.eq i h0).1 (e.1 r), fun r => (hn1.eq i h0).2 (fun s => r (e.2 s))⟩⟩
        have HB := Lib.hid (And.intro hp0 (And.intro hp1 hlt))
        have TT := Lib.hid (fun W (hW : More wr W) => RT.out a hal (p / 4) W (HWS.out.more hW))
        clear hq hck hn1 hlt hp0 hp1 hon hal i1 i2
        go_wp2_with fail
        refine wp_region_more_tail 4 (by kernel_rfl) (by kernel_rfl) ?_
        simp only [List.take_succ_cons, List.take_zero, List.drop_succ_cons, List.drop_zero]
        iterate 4
          first
          | (refine wpQuiet_load_row rfl 30 _ rfl _ rfl 30 _ _ _ (fun W hW => hW.block HC3.out) Tryz.underlying30 rfl (by kernel_rfl) ?_)
          | (with_reducible refine wpQuiet_step (fun K hK => ?_)
             go_simp
             first
             | (refine hK _ ?_; clear hK K)
             | (apply Exists.intro
                refine ⟨fun W hW => ?_, hK _ ?_⟩
                first
                | (go_at_call 85; exact Calls.more hW (OF.out W))
                | ((try go_simp); try rfl)
                clear hK K))
        refine wpQuiet_nil ?_
        intro w4 m4
        have T4 := Lib.hid (HT.out.trans (turned_more m4))
        have TW := Lib.hid (TT.out w4 m4)
        clear m4
        go_wp2_with fail
        refine TW.out.mono ?_
        rintro e w5 ⟨rfl, hw5, ht5⟩
        have T5 := Lib.hid (T4.out.trans ht5)
        have W5 := Lib.hid hw5
        clear ht5 hw5
        go_wp2_with fail
        exact ⟨⟨p + 1, _, by have := HB.out; omega, by have := HB.out; omega, by go_num, W5.out, HNX, T5.out⟩, by have := HB.out; simp [intOf]; omega⟩
      · have d0 : decide (p < x + y) = false := by simp [hlt]
        obtain rfl : p = x + y := by omega
        have ha : a = (ensureW c.pg c.st x y ws).2 := ones_pages HH.out rfl HTH.out hon.out
        have RC2 := Lib.hid (RCN.out a hal wr HWS.out)
        have HAE := Lib.hid ha
        have hz := HCD.out
        rw [← ha] at hz
        have q5 : IntKind.i64.wrap (countW c.pg c.st a - z0) = (ensureW c.pg c.st x y ws).1 := by rw [wrap_in (by omega) (by omega)]; omega
        have FT := Lib.hid ((turned_more (S := fun b => b = g) HM2.out).trans HT.out)
        clear hlt hp0 hp1 hon ha hz hal i1 i2
        generalize countW c.pg c.st a = z1 at q5 RC2
        have Q5 := Lib.hid q5
        go_wp2_with (refine wpList_load_row rfl 30 _ rfl _ rfl 30 _ _ _ HC3.out Tryz.underlying30 rfl (by kernel_rfl) ?_)
        refine RC2.out.mono ?_
        rintro e w6 ⟨rfl, h6⟩
        have FW := Lib.hid (HWS.out.more h6)
        have FT6 := Lib.hid (FT.out.trans (turned_more h6))
        clear h6
        go_wp2_with fail
        go_ret
        exact ⟨rfl, by rw [← HAE.out]; exact FW.out, FT6.out⟩
end Go.Proofs.YtogfikemodaepaaGreat

