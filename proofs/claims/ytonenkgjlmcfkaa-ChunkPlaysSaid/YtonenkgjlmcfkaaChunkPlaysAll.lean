/-
  ChunkPlays: the document's own answers for chunks over a row of words, and the walk.
-/
import Derived.Test.YtonenkgjlmcfkaaChunkRef
import Derived.Test.YtonenkgjlmcfkaaChunkRow
import Derived.Test.YtonenkgjlmcfkaaChunkLives
import Derived.Test.YtonenkgjlmcfkaaViewWords
namespace Go.Proofs.Ytonenkgjlmcfkaa
open Go.RowKit Go.Sort Go.Maps Go.Shelf
set_option linter.unusedVariables false
set_option linter.unusedSimpArgs false

set_option maxHeartbeats 1000000 in
theorem r_mapped {c : Cfg} (R : c.Ok) (ws : List Int) (H : TblIn c.pg c.st ws.length) (hl : ws.length ≤ 1000) (g cap : Nat) (k : Int) (w : World) (hw : Ws w g cap ws) :
    Calls Try.prog 39 #[.agg c.cells, .slice (some ⟨g, 0, none⟩) ws.length cap, .int .i64 k] w (Gives w (.bool (mappedV c.pg c.st ws k))) := by
  have HC := Lib.hid (row_new w c.cells 30)
  have HM : Hid (More w (w.alloc (.cells c.cells 30))) := (More.refl w).alloc _
  have R' := Lib.hid R
  have HW := Lib.hid hw
  cases h : isChunk c.pg k with
  | false =>
    rw [show mappedV c.pg c.st ws k = false by unfold mappedV; rw [h]; rfl]
    clear hw R
    go_enter Try.func39, Try.ntmps39
    go_wp2_with (refine wpList_load_row rfl 30 _ rfl _ rfl 30 _ _ _ HC.out Try.underlying30 rfl (by kernel_rfl) ?_)
    refine (r_there R'.out k _).mono ?_
    rw [h]
    rintro e w1 ⟨rfl, h1⟩
    have HM1 := Lib.hid (HM.out.trans h1)
    clear h1
    go_wp2_with fail
    go_ret
    exact ⟨rfl, HM1.out⟩
  | true =>
    obtain ⟨t0, t1, t2⟩ := tbl_b H h
    obtain ⟨m, hm⟩ : ∃ m : Nat, tblV c.pg c.st k = (m : Int) := ⟨(tblV c.pg c.st k).toNat, by omega⟩
    have hmj : m < ws.length := by omega
    have hv : mappedV c.pg c.st ws k = decide (ws.getD m 0 = 1) := by unfold mappedV; rw [h, hm]; rfl
    rw [hv]
    have YT : Hid (∀ W, Calls Try.prog 59 #[.agg c.cells, .int .i64 k] W (Gives W (.int .i64 (m : Int)))) := Lib.hid (fun W => by have := y_rtable R k W; rw [hm] at this; exact this)
    have HX : Hid (∀ W, More w W → W.cell? ⟨g, m, none⟩ = some (.int .i64 (ws.getD m 0))) := Lib.hid (fun W hW => (hw.more hW).cell hmj)
    generalize ws.getD m 0 = z at HX ⊢
    have b1 : (z == 1) = decide (z = 1) := by by_cases q : z = 1 <;> simp [q]
    clear hw R hm t0 t1 t2 hv HW
    go_enter Try.func39, Try.ntmps39
    go_wp2_with (refine wpList_load_row rfl 30 _ rfl _ rfl 30 _ _ _ HC.out Try.underlying30 rfl (by kernel_rfl) ?_)
    refine (r_there R'.out k _).mono ?_
    rw [h]
    rintro e w1 ⟨rfl, h1⟩
    have HC1 := Lib.hid (h1.block HC.out)
    have HM1 := Lib.hid (HM.out.trans h1)
    clear h1
    go_wp2_with (refine wpList_load_rowG rfl 30 _ rfl _ rfl 30 _ _ _ HC1.out Try.underlying30 rfl (by kernel_rfl) ?_)
    refine (YT.out _).mono ?_
    rintro e w2 ⟨rfl, h2⟩
    have HM2 := Lib.hid (HM1.out.trans h2)
    have x1 := HX.out _ HM2.out
    clear h2
    go_wp2_with fail
    go_ret
    exact ⟨rfl, HM2.out⟩

theorem r_all {c : Cfg} (R : c.Ok) (x y : Int) (hx : W64 x) (w : World) : Calls Try.prog 60 #[.agg c.cells, .int .i64 x, .int .i64 y] w (Gives w (.bool (thereB c.pg x y))) := by
  have hc := row_new w c.cells 30
  have x2 : (w.alloc (.cells c.cells 30)).cell? ⟨w.heap.size, 2, none⟩ = some (.int .i64 c.pg) := cell_more hc (More.refl _) rfl
  have HM : Hid (More w (w.alloc (.cells c.cells 30))) := (More.refl w).alloc _
  have p1 := R.pg1
  have p2 := R.pg2
  have q0 : thereB c.pg x y = (decide (1 ≤ y) && decide (0 ≤ x) && decide (x < c.pg) && decide (y ≤ c.pg - x)) := by
    unfold thereB
    by_cases a : 1 ≤ y <;> by_cases b : 0 ≤ x <;> by_cases d : y ≤ c.pg - x <;> simp [a, b, d]
    omega
  rw [q0]
  clear q0 hc
  unfold W64 at hx
  by_cases a : 1 ≤ y
  · have d1 : decide (1 ≤ y) = true := by simp [a]
    by_cases b : 0 ≤ x
    · have d2 : decide (0 ≤ x) = true := by simp [b]
      by_cases d : x < c.pg
      · have d3 : decide (x < c.pg) = true := by simp [d]
        have q1 : IntKind.i64.wrap (c.pg - x) = c.pg - x := wrap_in (by omega) (by omega)
        rw [d1, d2, d3]
        simp only [Bool.true_and, Bool.and_true]
        clear a b d p1 p2 hx R
        go_enter Try.func60, Try.ntmps60
        go_wp2_with fail
        go_ret
        exact ⟨rfl, HM.out⟩
      · have d3 : decide (x < c.pg) = false := by simp; omega
        rw [d1, d2, d3]
        simp only [Bool.true_and, Bool.and_true, Bool.false_and, Bool.and_false]
        clear a b d p1 p2 hx R
        go_enter Try.func60, Try.ntmps60
        go_wp2_with fail
        go_ret
        exact ⟨rfl, HM.out⟩
    · have d2 : decide (0 ≤ x) = false := by simp [b]
      rw [d1, d2]
      simp only [Bool.true_and, Bool.and_true, Bool.false_and, Bool.and_false]
      clear a b p1 p2 hx R
      go_enter Try.func60, Try.ntmps60
      go_wp2_with fail
      go_ret
      exact ⟨rfl, HM.out⟩
  · have d1 : decide (1 ≤ y) = false := by simp [a]
    rw [d1]
    simp only [Bool.true_and, Bool.and_true, Bool.false_and, Bool.and_false]
    clear a p1 p2 hx R
    go_enter Try.func60, Try.ntmps60
    go_wp2_with fail
    go_ret
    exact ⟨rfl, HM.out⟩
/-- A row was turned to ws. -/
def RowTo (w : World) (g cap : Nat) (v : Value) (ws : List Int) (e : Ending) (w' : World) : Prop := e = .returned v ∧ Ws w' g cap ws ∧ Turned (fun b => b = g) w w'
theorem turned_more {S : Nat → Prop} {w w' : World} (m : More w w') : Turned S w w' := Turned.mono m (fun _ _ q => q.elim)

set_option maxHeartbeats 2000000 in
theorem r_turn {c : Cfg} (R : c.Ok) (ws : List Int) (H : TblIn c.pg c.st ws.length) (hl : ws.length ≤ 1000) (g cap : Nat) (k x : Int) (w : World) (hw : Ws w g cap ws) :
    Calls Try.prog 38 #[.agg c.cells, .slice (some ⟨g, 0, none⟩) ws.length cap, .int .i64 k, .int .i64 x] w (RowTo w g cap (.bool (decide (0 < (turnV c.pg c.st k x ws).1))) (turnV c.pg c.st k x ws).2) := by
  have HC := Lib.hid (row_new w c.cells 30)
  have HM : Hid (More w (w.alloc (.cells c.cells 30))) := (More.refl w).alloc _
  have R' := Lib.hid R
  have HW := Lib.hid hw
  cases h : isChunk c.pg k with
  | false =>
    rw [show turnV c.pg c.st k x ws = (0, ws) by unfold turnV; rw [h]; rfl]
    clear hw R
    go_enter Try.func38, Try.ntmps38
    go_wp2_with (refine wpList_load_row rfl 30 _ rfl _ rfl 30 _ _ _ HC.out Try.underlying30 rfl (by kernel_rfl) ?_)
    refine (r_there R'.out k _).mono ?_
    rw [h]
    rintro e w1 ⟨rfl, h1⟩
    have HM1 := Lib.hid (HM.out.trans h1)
    clear h1
    go_wp2_with fail
    go_ret
    exact ⟨rfl, HW.out.more HM1.out, turned_more HM1.out⟩
  | true =>
    obtain ⟨t0, t1, t2⟩ := tbl_b H h
    obtain ⟨m, hm⟩ : ∃ m : Nat, tblV c.pg c.st k = (m : Int) := ⟨(tblV c.pg c.st k).toNat, by omega⟩
    have hmj : m < ws.length := by omega
    have YT : Hid (∀ W, Calls Try.prog 59 #[.agg c.cells, .int .i64 k] W (Gives W (.int .i64 (m : Int)))) := Lib.hid (fun W => by have := y_rtable R k W; rw [hm] at this; exact this)
    have RM := Lib.hid (fun W (hW : More w W) => r_mapped R ws H hl g cap k W (hw.more hW))
    have hs := size_1 h
    have e1 : decide (0 < sizeV c.pg k) = true := by simp; omega
    have hT : turnV c.pg c.st k x ws = if mappedV c.pg c.st ws k = decide (x = 1) then (0, ws) else (sizeV c.pg k, ws.set m x) := by unfold turnV; rw [h, hm]; rfl
    rw [hT]
    generalize mappedV c.pg c.st ws k = b at RM ⊢
    by_cases hx : x = 1
    · cases b with
      | false =>
        have d0 : (x == 1) = true := by simp [hx]
        have d1 : decide (x = 1) = true := by simp [hx]
        rw [d1]
        rw [if_neg (by decide)]
        show Calls _ _ _ _ (RowTo w g cap (.bool (decide (0 < sizeV c.pg k))) (ws.set m x))
        rw [e1]
        clear hw R hm t0 t1 t2 hT hs e1 hx d1
        go_enter Try.func38, Try.ntmps38
        go_wp2_with (refine wpList_load_row rfl 30 _ rfl _ rfl 30 _ _ _ HC.out Try.underlying30 rfl (by kernel_rfl) ?_)
        refine (r_there R'.out k _).mono ?_
        rw [h]
        rintro e w1 ⟨rfl, h1⟩
        have HC1 := Lib.hid (h1.block HC.out)
        have HM1 := Lib.hid (HM.out.trans h1)
        clear h1
        go_wp2_with (refine wpList_load_rowG rfl 30 _ rfl _ rfl 30 _ _ _ HC1.out Try.underlying30 rfl (by kernel_rfl) ?_)
        refine (RM.out _ HM1.out).mono ?_
        rintro e w2 ⟨rfl, h2⟩
        have HC2 := Lib.hid (h2.block HC1.out)
        have HM2 := Lib.hid (HM1.out.trans h2)
        clear h2
        go_wp2_with (refine wpList_load_row rfl 30 _ rfl _ rfl 30 _ _ _ HC2.out Try.underlying30 rfl (by kernel_rfl) ?_)
        refine (YT.out _).mono ?_
        rintro e w3 ⟨rfl, h3⟩
        have HM3 := Lib.hid (HM2.out.trans h3)
        have x1 := (HW.out.more HM3.out).cell hmj
        have x2 := (HW.out.more HM3.out).froz m
        have FIN := Lib.hid (And.intro ((HW.out.more HM3.out).set hmj x) ((turned_more (S := fun b => b = g) HM3.out).setCell ⟨g, m, none⟩ (.int .i64 x) (fun _ => rfl)))
        clear h3
        go_wp2_with fail
        go_ret
        exact ⟨rfl, FIN.out.1, FIN.out.2⟩
      | true =>
        have d0 : (x == 1) = true := by simp [hx]
        have d1 : decide (x = 1) = true := by simp [hx]
        rw [d1]
        rw [if_pos rfl]
        clear hw R hm t0 t1 t2 hT hs e1 hx d1
        go_enter Try.func38, Try.ntmps38
        go_wp2_with (refine wpList_load_row rfl 30 _ rfl _ rfl 30 _ _ _ HC.out Try.underlying30 rfl (by kernel_rfl) ?_)
        refine (r_there R'.out k _).mono ?_
        rw [h]
        rintro e w1 ⟨rfl, h1⟩
        have HC1 := Lib.hid (h1.block HC.out)
        have HM1 := Lib.hid (HM.out.trans h1)
        clear h1
        go_wp2_with (refine wpList_load_rowG rfl 30 _ rfl _ rfl 30 _ _ _ HC1.out Try.underlying30 rfl (by kernel_rfl) ?_)
        refine (RM.out _ HM1.out).mono ?_
        rintro e w2 ⟨rfl, h2⟩
        have HC2 := Lib.hid (h2.block HC1.out)
        have HM2 := Lib.hid (HM1.out.trans h2)
        clear h2
        go_wp2_with fail
        go_ret
        exact ⟨rfl, HW.out.more HM2.out, turned_more HM2.out⟩
    · cases b with
      | false =>
        have d0 : (x == 1) = false := by simp [hx]
        have d1 : decide (x = 1) = false := by simp [hx]
        rw [d1]
        rw [if_pos rfl]
        clear hw R hm t0 t1 t2 hT hs e1 hx d1
        go_enter Try.func38, Try.ntmps38
        go_wp2_with (refine wpList_load_row rfl 30 _ rfl _ rfl 30 _ _ _ HC.out Try.underlying30 rfl (by kernel_rfl) ?_)
        refine (r_there R'.out k _).mono ?_
        rw [h]
        rintro e w1 ⟨rfl, h1⟩
        have HC1 := Lib.hid (h1.block HC.out)
        have HM1 := Lib.hid (HM.out.trans h1)
        clear h1
        go_wp2_with (refine wpList_load_rowG rfl 30 _ rfl _ rfl 30 _ _ _ HC1.out Try.underlying30 rfl (by kernel_rfl) ?_)
        refine (RM.out _ HM1.out).mono ?_
        rintro e w2 ⟨rfl, h2⟩
        have HC2 := Lib.hid (h2.block HC1.out)
        have HM2 := Lib.hid (HM1.out.trans h2)
        clear h2
        go_wp2_with fail
        go_ret
        exact ⟨rfl, HW.out.more HM2.out, turned_more HM2.out⟩
      | true =>
        have d0 : (x == 1) = false := by simp [hx]
        have d1 : decide (x = 1) = false := by simp [hx]
        rw [d1]
        rw [if_neg (by decide)]
        show Calls _ _ _ _ (RowTo w g cap (.bool (decide (0 < sizeV c.pg k))) (ws.set m x))
        rw [e1]
        clear hw R hm t0 t1 t2 hT hs e1 hx d1
        go_enter Try.func38, Try.ntmps38
        go_wp2_with (refine wpList_load_row rfl 30 _ rfl _ rfl 30 _ _ _ HC.out Try.underlying30 rfl (by kernel_rfl) ?_)
        refine (r_there R'.out k _).mono ?_
        rw [h]
        rintro e w1 ⟨rfl, h1⟩
        have HC1 := Lib.hid (h1.block HC.out)
        have HM1 := Lib.hid (HM.out.trans h1)
        clear h1
        go_wp2_with (refine wpList_load_rowG rfl 30 _ rfl _ rfl 30 _ _ _ HC1.out Try.underlying30 rfl (by kernel_rfl) ?_)
        refine (RM.out _ HM1.out).mono ?_
        rintro e w2 ⟨rfl, h2⟩
        have HC2 := Lib.hid (h2.block HC1.out)
        have HM2 := Lib.hid (HM1.out.trans h2)
        clear h2
        go_wp2_with (refine wpList_load_row rfl 30 _ rfl _ rfl 30 _ _ _ HC2.out Try.underlying30 rfl (by kernel_rfl) ?_)
        refine (YT.out _).mono ?_
        rintro e w3 ⟨rfl, h3⟩
        have HM3 := Lib.hid (HM2.out.trans h3)
        have x1 := (HW.out.more HM3.out).cell hmj
        have x2 := (HW.out.more HM3.out).froz m
        have FIN := Lib.hid (And.intro ((HW.out.more HM3.out).set hmj x) ((turned_more (S := fun b => b = g) HM3.out).setCell ⟨g, m, none⟩ (.int .i64 x) (fun _ => rfl)))
        clear h3
        go_wp2_with fail
        go_ret
        exact ⟨rfl, FIN.out.1, FIN.out.2⟩
end Go.Proofs.Ytonenkgjlmcfkaa

namespace Go.Proofs.Ytonenkgjlmcfkaa
set_option linter.unusedVariables false
set_option linter.unusedSimpArgs false

/-- How many of the first p pages are mapped. -/
def pagesC (pg st : Int) (ws : List Int) : Nat → Int
  | 0 => 0
  | p + 1 => pagesC pg st ws p + if mappedV pg st ws ((p : Int) / 4) then 1 else 0
theorem pagesC_in (pg st : Int) (ws : List Int) (k j : Nat) (hj : j ≤ 4) : pagesC pg st ws (4 * k + j) = pagesC pg st ws (4 * k) + if mappedV pg st ws (k : Int) then (j : Int) else 0 := by
  induction j with
  | zero => simp
  | succ j ih =>
    have hq : (((4 * k + j : Nat) : Int)) / 4 = (k : Int) := by omega
    show pagesC pg st ws (4 * k + j) + (if mappedV pg st ws (((4 * k + j : Nat) : Int) / 4) then 1 else 0) = _
    rw [ih (by omega), hq]
    split <;> omega
theorem countV_pages (pg st : Int) (ws : List Int) (hp : 1 ≤ pg) (m : Nat) : ∀ (k : Nat) (s : Int), ((k + m : Nat) : Int) = chunksV pg → s = pagesC pg st ws (min (4 * k) pg.toNat) → countV pg st m (k : Int) s ws = pagesC pg st ws pg.toNat := by
  induction m with
  | zero =>
    intro k s hk hs
    unfold chunksV at hk
    rw [show min (4 * k) pg.toNat = pg.toNat by omega] at hs
    exact hs
  | succ m ih =>
    intro k s hk hs
    have hc : isChunk pg (k : Int) = true := isChunk_iff.2 ⟨by omega, by omega⟩
    have hlt : 4 * (k : Int) < pg := by unfold chunksV at hk; omega
    show countV pg st m ((k : Int) + 1) _ ws = _
    have := ih (k + 1) (s + if mappedV pg st ws (k : Int) then sizeV pg (k : Int) else 0) (by omega) ?_
    · rw [show (((k + 1 : Nat)) : Int) = (k : Int) + 1 by omega] at this
      exact this
    · rw [hs, show min (4 * k) pg.toNat = 4 * k by omega]
      have hz : sizeV pg (k : Int) = ((min 4 (pg.toNat - 4 * k) : Nat) : Int) := by unfold sizeV; rw [if_pos hc]; omega
      rw [show min (4 * (k + 1)) pg.toNat = 4 * k + min 4 (pg.toNat - 4 * k) by omega, pagesC_in pg st ws k _ (by omega), hz]
theorem count_pages (pg st : Int) (ws : List Int) (hp : 1 ≤ pg) : pagesC pg st ws pg.toNat = countW pg st ws := by
  have h : 0 ≤ chunksV pg := by unfold chunksV; omega
  have := countV_pages pg st ws hp (chunksV pg).toNat 0 0 (by omega) (by simp [pagesC])
  unfold countW
  exact this.symm
theorem pagesC_b (pg st : Int) (ws : List Int) (p : Nat) : 0 ≤ pagesC pg st ws p ∧ pagesC pg st ws p ≤ p := by
  induction p with
  | zero => simp [pagesC]
  | succ p ih => unfold pagesC; split <;> omega

theorem coversV_iff (pg st : Int) (ws : List Int) (m : Nat) : ∀ k : Int, coversV pg st m k ws = true ↔ ∀ i : Nat, i < m → mappedV pg st ws (k + i) = true := by
  induction m with
  | zero => intro k; simp [coversV]
  | succ m ih =>
    intro k
    unfold coversV
    rw [Bool.and_eq_true, ih]
    constructor
    · rintro ⟨h0, h1⟩ i hi
      cases i with
      | zero => simpa using h0
      | succ i => have := h1 i (by omega); rw [show k + ((i + 1 : Nat) : Int) = k + 1 + (i : Int) by omega]; exact this
    · intro h
      refine ⟨by simpa using h 0 (by omega), fun i hi => ?_⟩
      have := h (i + 1) (by omega)
      rwa [show k + ((i + 1 : Nat) : Int) = k + 1 + (i : Int) by omega] at this
theorem covers_pages {pg st x y : Int} (ws : List Int) (h : thereB pg x y = true) (h2 : pg ≤ 256) : coversW pg st x y ws = true ↔ ∀ i : Int, x ≤ i → i < x + y → mappedV pg st ws (i / 4) = true := by
  obtain ⟨s1, s2⟩ := span_b h h2
  obtain ⟨q0, q1, q2⟩ := there_iff.1 h
  unfold coversW
  rw [if_pos h, coversV_iff]
  constructor
  · intro hh i h0 h1
    have := hh ((i / 4 - x / 4).toNat) (by omega)
    rwa [show x / 4 + (((i / 4 - x / 4).toNat : Nat) : Int) = i / 4 by omega] at this
  · intro hh j hj
    have := hh (max x (4 * (x / 4 + (j : Int)))) (by omega) (by omega)
    rwa [show (max x (4 * (x / 4 + (j : Int)))) / 4 = x / 4 + (j : Int) by omega] at this

/-- Where a word is set to 1, and nowhere else, are they unlike. -/
structure Ones (ws ws' : List Int) (S : Int → Prop) : Prop where
  len : ws'.length = ws.length
  eq : ∀ i : Int, 0 ≤ i → (S i → wAt ws' i = 1) ∧ (¬ S i → wAt ws' i = wAt ws i)
theorem Ones.uniq {ws a b : List Int} {S T : Int → Prop} (h : Ones ws a S) (g : Ones ws b T) (e : ∀ i, S i ↔ T i) : a = b :=
  words_ext (h.len.trans g.len.symm) (fun i h0 _ => by
    by_cases q : S i
    · rw [(h.eq i h0).1 q, (g.eq i h0).1 ((e i).1 q)]
    · rw [(h.eq i h0).2 q, (g.eq i h0).2 (fun r => q ((e i).2 r))])
theorem ones_refl (ws : List Int) (S : Int → Prop) (h : ∀ i, ¬ S i) : Ones ws ws S := ⟨rfl, fun i _ => ⟨fun q => absurd q (h i), fun _ => rfl⟩⟩
theorem ones_turn {pg st : Int} {n : Nat} (H : TblIn pg st n) {ws a : List Int} {S : Int → Prop} (h : Ones ws a S) (hn : ws.length = n) {k : Int} (hk : isChunk pg k = true) : Ones ws (turnV pg st k 1 a).2 (fun i => S i ∨ i = tblV pg st k) := by
  obtain ⟨t0, t1, t2⟩ := tbl_b H hk
  have hv : ∀ i : Int, 0 ≤ i → wAt (turnV pg st k 1 a).2 i = if i = tblV pg st k then 1 else wAt a i := fun i h0 => by
    unfold turnV
    rw [if_pos hk]
    split
    · rename_i q
      have : wAt a (tblV pg st k) = 1 := by
        unfold mappedV at q; rw [hk] at q; simpa using q
      split
      · rename_i e; rw [e]; exact this
      · rfl
    · rw [show (sizeV pg k, a.set (tblV pg st k).toNat 1).2 = a.set (tblV pg st k).toNat 1 from rfl, wAt_set (by omega) h0 (by rw [h.len, hn]; exact t1)]
  refine ⟨by rw [turn_len]; exact h.len, fun i h0 => ⟨fun q => ?_, fun q => ?_⟩⟩
  · rw [hv i h0]
    split
    · rfl
    · rename_i e; exact (h.eq i h0).1 (q.resolve_right e)
  · rw [hv i h0, if_neg (fun e => q (.inr e))]
    exact (h.eq i h0).2 (fun r => q (.inl r))
theorem ones_ensure {pg st : Int} {n : Nat} (H : TblIn pg st n) (m : Nat) : ∀ (k s : Int) (ws a : List Int) (S : Int → Prop), ws.length = n → Ones ws a S → (∀ i : Nat, i < m → isChunk pg (k + i) = true) → Ones ws (ensureV pg st m k s a).2 (fun i => S i ∨ ∃ j : Nat, j < m ∧ i = tblV pg st (k + j)) := by
  induction m with
  | zero =>
    intro k s ws a S hn h hc
    exact ⟨h.len, fun i h0 => ⟨fun q => by rcases q with q | ⟨j, hj, _⟩; exact (h.eq i h0).1 q; omega, fun q => (h.eq i h0).2 (fun r => q (.inl r))⟩⟩
  | succ m ih =>
    intro k s ws a S hn h hc
    have h1 := ones_turn H h hn (by simpa using hc 0 (by omega))
    have h2 := ih (k + 1) (s + (turnV pg st k 1 a).1) ws _ _ hn h1 (fun i hi => by have := hc (i + 1) (by omega); rwa [show k + ((i + 1 : Nat) : Int) = k + 1 + (i : Int) by omega] at this)
    refine ⟨h2.len, fun i h0 => ?_⟩
    have e : (S i ∨ ∃ j : Nat, j < m + 1 ∧ i = tblV pg st (k + j)) ↔ ((S i ∨ i = tblV pg st k) ∨ ∃ j : Nat, j < m ∧ i = tblV pg st (k + 1 + j)) := by
      constructor
      · rintro (q | ⟨j, hj, q⟩)
        · exact .inl (.inl q)
        · cases j with
          | zero => exact .inl (.inr (by simpa using q))
          | succ j => exact .inr ⟨j, by omega, by rw [q]; congr 1; omega⟩
      · rintro ((q | q) | ⟨j, hj, q⟩)
        · exact .inl q
        · exact .inr ⟨0, by omega, by simpa using q⟩
        · exact .inr ⟨j + 1, by omega, by rw [q]; congr 1; omega⟩
    exact ⟨fun q => (h2.eq i h0).1 (e.1 q), fun q => (h2.eq i h0).2 (fun r => q (e.2 r))⟩
/-- Page by page. -/
theorem ones_pages {pg st x y : Int} {n : Nat} (H : TblIn pg st n) {ws a : List Int} (hn : ws.length = n) (h : thereB pg x y = true) (ha : Ones ws a (fun i => ∃ q : Int, x ≤ q ∧ q < x + y ∧ i = tblV pg st (q / 4))) : a = (ensureW pg st x y ws).2 := by
  obtain ⟨s1, s2⟩ := span_b h H.pg2
  obtain ⟨q0, q1, q2⟩ := there_iff.1 h
  have h2 := ones_ensure H (spanV x y) (x / 4) 0 ws ws (fun _ => False) hn (ones_refl ws _ (fun _ q => q)) (fun i hi => span_in h i hi)
  unfold ensureW
  rw [if_pos h]
  refine ha.uniq h2 (fun i => ⟨?_, ?_⟩)
  · rintro ⟨q, h0, h1, rfl⟩
    exact .inr ⟨(q / 4 - x / 4).toNat, by omega, by congr 1; omega⟩
  · rintro (q | ⟨j, hj, rfl⟩)
    · exact q.elim
    · exact ⟨max x (4 * (x / 4 + (j : Int))), by omega, by omega, by congr 1; omega⟩

/-- What a turned chunk does to the count. -/
theorem mapped_set {pg st : Int} {n : Nat} (H : TblIn pg st n) {ws : List Int} (hn : ws.length = n) {k j : Int} (x : Int) (hk : isChunk pg k = true) (hj : isChunk pg j = true) : mappedV pg st (ws.set (tblV pg st k).toNat x) j = if j = k then decide (x = 1) else mappedV pg st ws j := by
  obtain ⟨t0, t1, t2⟩ := tbl_b H hk
  obtain ⟨u0, u1, u2⟩ := tbl_b H hj
  unfold mappedV
  rw [hj, wAt_set (by omega) (by omega) (by rw [hn]; exact t1)]
  by_cases e : j = k
  · subst e; simp
  · have : tblV pg st j ≠ tblV pg st k := by rw [tbl_in hj, tbl_in hk]; omega
    rw [if_neg this, if_neg e]
theorem countV_set {pg st : Int} {n : Nat} (H : TblIn pg st n) {ws : List Int} (hn : ws.length = n) {k : Int} (x : Int) (hk : isChunk pg k = true) (m : Nat) : ∀ (j : Nat) (s d : Int), ((j + m : Nat) : Int) ≤ chunksV pg →
    countV pg st m (j : Int) (s + d) (ws.set (tblV pg st k).toNat x) = countV pg st m (j : Int) s ws + d + (if (j : Int) ≤ k ∧ k < (j : Int) + (m : Int) then ((if decide (x = 1) then sizeV pg k else 0) - (if mappedV pg st ws k then sizeV pg k else 0)) else 0) := by
  induction m with
  | zero => intro j s d hj; rw [if_neg (by omega)]; simp [countV]
  | succ m ih =>
    intro j s d hj
    have hc : isChunk pg (j : Int) = true := isChunk_iff.2 ⟨by omega, by omega⟩
    show countV pg st m ((j : Int) + 1) (s + d + (if mappedV pg st (ws.set (tblV pg st k).toNat x) (j : Int) then sizeV pg (j : Int) else 0)) (ws.set (tblV pg st k).toNat x) = countV pg st m ((j : Int) + 1) (s + (if mappedV pg st ws (j : Int) then sizeV pg (j : Int) else 0)) ws + d + (if (j : Int) ≤ k ∧ k < (j : Int) + ((m + 1 : Nat) : Int) then ((if decide (x = 1) then sizeV pg k else 0) - (if mappedV pg st ws k then sizeV pg k else 0)) else 0)
    rw [mapped_set H hn x hk hc]
    have hI := fun s d => ih (j + 1) s d (by omega)
    rw [show (((j + 1 : Nat)) : Int) = (j : Int) + 1 by omega] at hI
    by_cases e : (j : Int) = k
    · have hneg : ¬ ((j : Int) + 1 ≤ k ∧ k < (j : Int) + 1 + (m : Int)) := by omega
      have hpos : (j : Int) ≤ k ∧ k < (j : Int) + ((m + 1 : Nat) : Int) := by omega
      rw [if_pos e, if_pos hpos]
      rw [show s + d + (if decide (x = 1) = true then sizeV pg (j : Int) else 0) = (s + if mappedV pg st ws (j : Int) = true then sizeV pg (j : Int) else 0) + (d + (if decide (x = 1) = true then sizeV pg (j : Int) else 0) - (if mappedV pg st ws (j : Int) = true then sizeV pg (j : Int) else 0)) by omega, hI]
      rw [if_neg hneg, ← e]
      omega
    · rw [if_neg e]
      rw [show s + d + (if mappedV pg st ws (j : Int) = true then sizeV pg (j : Int) else 0) = (s + if mappedV pg st ws (j : Int) = true then sizeV pg (j : Int) else 0) + d by omega, hI]
      by_cases q : (j : Int) + 1 ≤ k ∧ k < (j : Int) + 1 + (m : Int)
      · have hpos : (j : Int) ≤ k ∧ k < (j : Int) + ((m + 1 : Nat) : Int) := by omega
        rw [if_pos q, if_pos hpos]
      · have hneg : ¬ ((j : Int) ≤ k ∧ k < (j : Int) + ((m + 1 : Nat) : Int)) := by omega
        rw [if_neg q, if_neg hneg]
theorem count_set {pg st : Int} {n : Nat} (H : TblIn pg st n) {ws : List Int} (hn : ws.length = n) {k : Int} (x : Int) (hk : isChunk pg k = true) :
    countW pg st (ws.set (tblV pg st k).toNat x) = countW pg st ws + ((if decide (x = 1) then sizeV pg k else 0) - (if mappedV pg st ws k then sizeV pg k else 0)) := by
  obtain ⟨h0, h1⟩ := isChunk_iff.1 hk
  have hpos : ((0 : Nat) : Int) ≤ k ∧ k < ((0 : Nat) : Int) + ((chunksV pg).toNat : Int) := by omega
  have := countV_set H hn x hk (chunksV pg).toNat 0 0 0 (by omega)
  rw [if_pos hpos] at this
  unfold countW
  simpa using this
/-- Turned on, and off. -/
theorem count_on {pg st : Int} {n : Nat} (H : TblIn pg st n) {ws : List Int} (hn : ws.length = n) (k : Int) : countW pg st (turnV pg st k 1 ws).2 = countW pg st ws + (turnV pg st k 1 ws).1 := by
  unfold turnV
  split
  · rename_i hk
    split
    · simp
    · rename_i q
      show countW pg st (ws.set (tblV pg st k).toNat 1) = countW pg st ws + sizeV pg k
      rw [count_set H hn 1 hk]
      have : mappedV pg st ws k = false := by simpa using q
      rw [this]; simp
  · simp
theorem count_off {pg st : Int} {n : Nat} (H : TblIn pg st n) {ws : List Int} (hn : ws.length = n) (k : Int) : countW pg st (turnV pg st k 0 ws).2 = countW pg st ws - (turnV pg st k 0 ws).1 := by
  unfold turnV
  split
  · rename_i hk
    split
    · simp
    · rename_i q
      show countW pg st (ws.set (tblV pg st k).toNat 0) = countW pg st ws - sizeV pg k
      rw [count_set H hn 0 hk]
      have : mappedV pg st ws k = true := by simpa using q
      rw [this]; simp; omega
  · simp
theorem count_ensureN {pg st : Int} {n : Nat} (H : TblIn pg st n) (m : Nat) : ∀ (k s : Int) (ws : List Int), ws.length = n → countW pg st (ensureV pg st m k s ws).2 = countW pg st ws + ((ensureV pg st m k s ws).1 - s) := by
  induction m with
  | zero => intro k s ws hn; simp [ensureV]
  | succ m ih =>
    intro k s ws hn
    unfold ensureV
    rw [ih _ _ _ (by rw [turn_len]; exact hn), count_on H hn]
    omega
theorem count_ensure {pg st : Int} {n : Nat} (H : TblIn pg st n) (x y : Int) (ws : List Int) (hn : ws.length = n) : countW pg st (ensureW pg st x y ws).2 = countW pg st ws + (ensureW pg st x y ws).1 := by
  unfold ensureW
  split
  · rw [count_ensureN H _ _ _ _ hn]; omega
  · simp
theorem count_b {pg st : Int} (ws : List Int) (h1 : 1 ≤ pg) (h2 : pg ≤ 256) : 0 ≤ countW pg st ws ∧ countW pg st ws ≤ 256 := by
  rw [← count_pages pg st ws h1]
  have := pagesC_b pg st ws pg.toNat
  omega
end Go.Proofs.Ytonenkgjlmcfkaa

namespace Go.Proofs.Ytonenkgjlmcfkaa
open Go.RowKit Go.Sort Go.Maps Go.Shelf
set_option linter.unusedVariables false
set_option linter.unusedSimpArgs false

theorem of_page {p : Int} (h : 0 ≤ p) : ofV p = p / 4 := if_neg (by omega)
theorem r_of_more (p : Int) (h0 : -9223372036854775808 ≤ p) (h1 : p ≤ 9223372036854775807) (w : World) : Calls Try.prog 19 #[.int .i64 p] w (Gives w (.int .i64 (ofV p))) := by
  refine (r_of p h0 h1 w).mono ?_
  rintro e w' ⟨rfl, rfl⟩
  exact ⟨rfl, More.refl _⟩

set_option maxHeartbeats 2000000 in
theorem r_count {c : Cfg} (R : c.Ok) (ws : List Int) (H : TblIn c.pg c.st ws.length) (hl : ws.length ≤ 1000) (g cap : Nat) (w : World) (hw : Ws w g cap ws) :
    Calls Try.prog 42 #[.agg c.cells, .slice (some ⟨g, 0, none⟩) ws.length cap] w (Gives w (.int .i64 (countW c.pg c.st ws))) := by
  have HC := Lib.hid (row_new w c.cells 30)
  have HM : Hid (More w (w.alloc (.cells c.cells 30))) := (More.refl w).alloc _
  have p1 := R.pg1
  have p2 := R.pg2
  rw [← count_pages c.pg c.st ws p1]
  have RM := Lib.hid (fun k W (hW : More w W) => r_mapped R ws H hl g cap k W (hw.more hW))
  have CB := Lib.hid (pagesC_b c.pg c.st ws)
  clear R H hw
  go_enter Try.func42, Try.ntmps42
  go_wp2_with fail
  go_loopw [5, 6] (fun nv pv wr => ∃ p : Nat, (p : Int) ≤ c.pg ∧ pv = .int .i64 p ∧ nv = .int .i64 (pagesC c.pg c.st ws p) ∧ More (w.alloc (.cells c.cells 30)) wr) (fun _ pv _ => c.pg.toNat - (intOf pv).toNat)
  case atStart => exact ⟨0, by omega, rfl, rfl, More.refl _⟩
  case round =>
    obtain ⟨p, hp, rfl, rfl, ht⟩ := hrel
    have hc := ht.block HC.out
    have x2 : wr.cell? ⟨w.heap.size, 2, none⟩ = some (.int .i64 c.pg) := cell_more hc (More.refl _) rfl
    have HC1 := Lib.hid hc
    have HT := Lib.hid ht
    have cb := CB.out p
    clear hc ht
    by_cases hlt : (p : Int) < c.pg
    · have d0 : decide ((p : Int) < c.pg) = true := by simp [hlt]
      have hq : ofV (p : Int) = (p : Int) / 4 := of_page (by omega)
      have q1 : IntKind.i64.wrap ((p : Int) + 1) = (p : Int) + 1 := wrap_in (by omega) (by omega)
      have q2 : IntKind.i64.wrap (pagesC c.pg c.st ws p + 1) = pagesC c.pg c.st ws p + 1 := wrap_in (by omega) (by omega)
      have OF := Lib.hid (fun W => by have := r_of_more (p : Int) (by omega) (by omega) W; rw [hq] at this; exact this)
      have hs : pagesC c.pg c.st ws (p + 1) = pagesC c.pg c.st ws p + if mappedV c.pg c.st ws ((p : Int) / 4) then 1 else 0 := rfl
      have RK := Lib.hid (RM.out ((p : Int) / 4))
      have HLT := Lib.hid hlt
      generalize mappedV c.pg c.st ws ((p : Int) / 4) = b at RK hs
      have HS := Lib.hid hs
      have CB0 := Lib.hid cb
      generalize pagesC c.pg c.st ws p = z at HS q2 CB0 ⊢
      clear hq hs hlt cb
      go_wp2_with fail
      refine wp_region_more (by kernel_rfl) (by kernel_rfl) ?_
      iterate 5
        first
        | (refine wpQuiet_load_row rfl 30 _ rfl _ rfl 30 _ _ _ (fun W hW => hW.block HC1.out) Try.underlying30 rfl (by kernel_rfl) ?_)
        | (with_reducible refine wpQuiet_step (fun K hK => ?_)
           go_simp
           first
           | (refine hK _ ?_; clear hK K)
           | (apply Exists.intro
              refine ⟨fun W hW => ?_, hK _ ?_⟩
              first
              | (go_at_call 19; exact Calls.more hW (OF.out W))
              | (go_at_call 39; exact Calls.more hW (RK.out W ((HM.out.trans HT.out).trans hW)))
              | ((try go_simp); try rfl)
              clear hK K))
      refine wpQuiet_nil ?_
      intro w2 m2
      have T2 := Lib.hid (HT.out.trans m2)
      clear m2
      cases b with
      | true =>
        go_wp2_with fail
        exact ⟨⟨p + 1, by have := HLT.out; omega, by go_num, by rw [HS.out]; rfl, T2.out⟩, by have := HLT.out; simp [intOf]; omega⟩
      | false =>
        go_wp2_with fail
        exact ⟨⟨p + 1, by have := HLT.out; omega, by go_num, by rw [HS.out]; simp, T2.out⟩, by have := HLT.out; simp [intOf]; omega⟩
    · have d0 : decide ((p : Int) < c.pg) = false := by simp [hlt]
      have hpe : p = c.pg.toNat := by omega
      have FIN := Lib.hid (HM.out.trans HT.out)
      have HE : Hid (pagesC c.pg c.st ws p = pagesC c.pg c.st ws c.pg.toNat) := Lib.hid (by rw [← hpe])
      clear hlt hpe cb
      go_wp2_with fail
      go_ret
      exact ⟨by rw [← HE.out]; rfl, FIN.out⟩

set_option maxHeartbeats 2000000 in
theorem r_covers {c : Cfg} (R : c.Ok) (ws : List Int) (H : TblIn c.pg c.st ws.length) (hl : ws.length ≤ 1000) (g cap : Nat) (x y : Int) (hx : W64 x) (w : World) (hw : Ws w g cap ws) :
    Calls Try.prog 40 #[.agg c.cells, .slice (some ⟨g, 0, none⟩) ws.length cap, .int .i64 x, .int .i64 y] w (Gives w (.bool (coversW c.pg c.st x y ws))) := by
  have HC := Lib.hid (row_new w c.cells 30)
  have HM : Hid (More w (w.alloc (.cells c.cells 30))) := (More.refl w).alloc _
  have p1 := R.pg1
  have p2 := R.pg2
  have RA := Lib.hid (fun W => r_all R x y hx W)
  have RM := Lib.hid (fun k W (hW : More w W) => r_mapped R ws H hl g cap k W (hw.more hW))
  clear R H hw
  cases h : thereB c.pg x y with
  | false =>
    rw [show coversW c.pg c.st x y ws = false by unfold coversW; rw [h]; rfl]
    rw [h] at RA
    clear h hx
    go_enter Try.func40, Try.ntmps40
    go_wp2_with (refine wpList_load_row rfl 30 _ rfl _ rfl 30 _ _ _ HC.out Try.underlying30 rfl (by kernel_rfl) ?_)
    refine (RA.out _).mono ?_
    rintro e w1 ⟨rfl, h1⟩
    have HM1 := Lib.hid (HM.out.trans h1)
    clear h1
    go_wp2_with fail
    go_ret
    exact ⟨rfl, HM1.out⟩
  | true =>
    have CI := Lib.hid (covers_pages (pg := c.pg) (st := c.st) ws h p2)
    obtain ⟨i0, i1, i2⟩ := there_iff.1 h
    rw [h] at RA
    have q3 : IntKind.i64.wrap (x + y) = x + y := wrap_in (by omega) (by omega)
    clear h hx
    go_enter Try.func40, Try.ntmps40
    go_wp2_with (refine wpList_load_row rfl 30 _ rfl _ rfl 30 _ _ _ HC.out Try.underlying30 rfl (by kernel_rfl) ?_)
    refine (RA.out _).mono ?_
    rintro e w1 ⟨rfl, h1⟩
    have HC1 := Lib.hid (h1.block HC.out)
    have HM1 := Lib.hid (HM.out.trans h1)
    clear h1
    go_wp2_with fail
    go_loopw [9] (fun pv wr => ∃ p : Int, x ≤ p ∧ p ≤ x + y ∧ pv = .int .i64 p ∧ Hid (∀ i : Int, x ≤ i → i < p → mappedV c.pg c.st ws (i / 4) = true) ∧ More w1 wr) (fun pv _ => (x + y - intOf pv).toNat)
    case atStart => exact ⟨x, by omega, by omega, rfl, fun i h0 h1 => by omega, More.refl _⟩
    case round =>
      obtain ⟨p, hp0, hp1, rfl, hall, ht⟩ := hrel
      have HC2 := Lib.hid (ht.block HC1.out)
      have HT := Lib.hid ht
      clear ht
      by_cases hlt : p < x + y
      · have d0 : decide (p < x + y) = true := by simp [hlt]
        have hq : ofV p = p / 4 := of_page (by omega)
        have q1 : IntKind.i64.wrap (p + 1) = p + 1 := wrap_in (by omega) (by omega)
        have OF := Lib.hid (fun W => by have := r_of_more p (by omega) (by omega) W; rw [hq] at this; exact this)
        have RK := Lib.hid (RM.out (p / 4))
        cases hb : mappedV c.pg c.st ws (p / 4) with
        | true =>
          rw [hb] at RK
          have HNX : Hid (∀ i : Int, x ≤ i → i < p + 1 → mappedV c.pg c.st ws (i / 4) = true) := fun i h0 h1 => by
            by_cases e : i = p
            · subst e; exact hb
            · exact hall i h0 (by omega)
          have HB := Lib.hid (And.intro hp0 (And.intro hp1 hlt))
          clear hb hq hlt hp0 hp1 hall i1 i2
          go_wp2_with fail
          refine wp_region_more (by kernel_rfl) (by kernel_rfl) ?_
          iterate 6
            first
            | (refine wpQuiet_load_row rfl 30 _ rfl _ rfl 30 _ _ _ (fun W hW => hW.block HC2.out) Try.underlying30 rfl (by kernel_rfl) ?_)
            | (with_reducible refine wpQuiet_step (fun K hK => ?_)
               go_simp
               first
               | (refine hK _ ?_; clear hK K)
               | (apply Exists.intro
                  refine ⟨fun W hW => ?_, hK _ ?_⟩
                  first
                  | (go_at_call 19; exact Calls.more hW (OF.out W))
                  | (go_at_call 39; exact Calls.more hW (RK.out W ((HM1.out.trans HT.out).trans hW)))
                  | ((try go_simp); try rfl)
                  clear hK K))
          refine wpQuiet_nil ?_
          intro w2 m2
          have T2 := Lib.hid (HT.out.trans m2)
          clear m2
          go_wp2_with fail
          exact ⟨⟨p + 1, by have := HB.out; omega, by have := HB.out; omega, by go_num, HNX, T2.out⟩, by have := HB.out; simp [intOf]; omega⟩
        | false =>
          rw [hb] at RK
          have hno : coversW c.pg c.st x y ws = false := by
            cases q : coversW c.pg c.st x y ws with
            | false => rfl
            | true => rw [CI.out.1 q p hp0 hlt] at hb; cases hb
          have HNO := Lib.hid hno
          clear hb hq hlt hp0 hp1 hall i1 i2 hno
          go_wp2_with fail
          refine wp_region_more (by kernel_rfl) (by kernel_rfl) ?_
          iterate 6
            first
            | (refine wpQuiet_load_row rfl 30 _ rfl _ rfl 30 _ _ _ (fun W hW => hW.block HC2.out) Try.underlying30 rfl (by kernel_rfl) ?_)
            | (with_reducible refine wpQuiet_step (fun K hK => ?_)
               go_simp
               first
               | (refine hK _ ?_; clear hK K)
               | (apply Exists.intro
                  refine ⟨fun W hW => ?_, hK _ ?_⟩
                  first
                  | (go_at_call 19; exact Calls.more hW (OF.out W))
                  | (go_at_call 39; exact Calls.more hW (RK.out W ((HM1.out.trans HT.out).trans hW)))
                  | ((try go_simp); try rfl)
                  clear hK K))
          refine wpQuiet_nil ?_
          intro w2 m2
          have T2 := Lib.hid (HM1.out.trans (HT.out.trans m2))
          clear m2
          go_wp2_with fail
          go_ret
          exact ⟨by rw [HNO.out]; rfl, T2.out⟩
      · have d0 : decide (p < x + y) = false := by simp [hlt]
        have hye : coversW c.pg c.st x y ws = true := CI.out.2 (fun i h0 h1 => hall i h0 (by omega))
        have HYE := Lib.hid hye
        have T2 := Lib.hid (HM1.out.trans HT.out)
        clear hlt hp0 hp1 hall i1 i2 hye
        go_wp2_with fail
        go_ret
        exact ⟨by rw [HYE.out]; rfl, T2.out⟩
end Go.Proofs.Ytonenkgjlmcfkaa

namespace Go.Proofs.Ytonenkgjlmcfkaa
open Go.RowKit Go.Sort Go.Maps Go.Shelf
set_option linter.unusedVariables false
set_option linter.unusedSimpArgs false

theorem RowTo.from {w w1 w' : World} {g cap : Nat} {v : Value} {ws : List Int} {e : Ending} (t : Turned (fun b => b = g) w w1) (h : RowTo w1 g cap v ws e w') : RowTo w g cap v ws e w' := ⟨h.1, h.2.1, t.trans h.2.2⟩
theorem tbl_len {pg st : Int} {n m : Nat} (H : TblIn pg st n) (e : m = n) : TblIn pg st m := e ▸ H

set_option maxHeartbeats 2000000 in
theorem r_ensure {c : Cfg} (R : c.Ok) (ws : List Int) (H : TblIn c.pg c.st ws.length) (hl : ws.length ≤ 1000) (g cap : Nat) (x y : Int) (hx : W64 x) (w : World) (hw : Ws w g cap ws) :
    Calls Try.prog 41 #[.agg c.cells, .slice (some ⟨g, 0, none⟩) ws.length cap, .int .i64 x, .int .i64 y] w (RowTo w g cap (.int .i64 (ensureW c.pg c.st x y ws).1) (ensureW c.pg c.st x y ws).2) := by
  have HC := Lib.hid (row_new w c.cells 30)
  have HM : Hid (More w (w.alloc (.cells c.cells 30))) := (More.refl w).alloc _
  have p1 := R.pg1
  have p2 := R.pg2
  have RA := Lib.hid (fun W => r_all R x y hx W)
  have RCN := Lib.hid (fun (a : List Int) (e : a.length = ws.length) (W : World) (hW : Ws W g cap a) => by have := r_count R a (tbl_len H e) (by omega) g cap W hW; rw [e] at this; exact this)
  have RT := Lib.hid (fun (a : List Int) (e : a.length = ws.length) (k : Int) (W : World) (hW : Ws W g cap a) => by have := r_turn R a (tbl_len H e) (by omega) g cap k 1 W hW; rw [e] at this; exact this)
  have HW := Lib.hid hw
  have HH := Lib.hid H
  have hgl := hw.lt
  clear R H hw
  cases h : thereB c.pg x y with
  | false =>
    rw [show ensureW c.pg c.st x y ws = (0, ws) by unfold ensureW; rw [h]; rfl]
    rw [h] at RA
    clear h hx
    go_enter Try.func41, Try.ntmps41
    go_wp2_with (refine wpList_load_row rfl 30 _ rfl _ rfl 30 _ _ _ HC.out Try.underlying30 rfl (by kernel_rfl) ?_)
    refine (RA.out _).mono ?_
    rintro e w1 ⟨rfl, h1⟩
    have HM1 := Lib.hid (HM.out.trans h1)
    clear h1
    go_wp2_with fail
    go_ret
    exact ⟨rfl, HW.out.more HM1.out, turned_more HM1.out⟩
  | true =>
    have hth := h
    obtain ⟨i0, i1, i2⟩ := there_iff.1 h
    rw [h] at RA
    have q3 : IntKind.i64.wrap (x + y) = x + y := wrap_in (by omega) (by omega)
    have cb0 := count_b (st := c.st) ws p1 p2
    have cb1 := count_b (st := c.st) (ensureW c.pg c.st x y ws).2 p1 p2
    have hcd := count_ensure HH.out x y ws rfl
    have HTH := Lib.hid hth
    clear h hx hth
    go_enter Try.func41, Try.ntmps41
    go_wp2_with (refine wpList_load_row rfl 30 _ rfl _ rfl 30 _ _ _ HC.out Try.underlying30 rfl (by kernel_rfl) ?_)
    refine (RA.out _).mono ?_
    rintro e w1 ⟨rfl, h1⟩
    have HC1 := Lib.hid (h1.block HC.out)
    have HM1 := Lib.hid (HM.out.trans h1)
    clear h1
    go_wp2_with (refine wpList_load_row rfl 30 _ rfl _ rfl 30 _ _ _ HC1.out Try.underlying30 rfl (by kernel_rfl) ?_)
    refine (RCN.out ws rfl _ (HW.out.more HM1.out)).mono ?_
    rintro e w2 ⟨rfl, h2⟩
    have HC2 := Lib.hid (h2.block HC1.out)
    have HM2 := Lib.hid (HM1.out.trans h2)
    clear h2
    have HCD := Lib.hid (And.intro cb0 (And.intro cb1 hcd))
    generalize countW c.pg c.st ws = z0 at HCD ⊢
    clear cb0 cb1 hcd
    go_wp2_with fail
    go_loopw [10] (fun pv wr => ∃ (p : Int) (a : List Int), x ≤ p ∧ p ≤ x + y ∧ pv = .int .i64 p ∧ Ws wr g cap a ∧ Hid (Ones ws a (fun i => ∃ q : Int, x ≤ q ∧ q < p ∧ i = tblV c.pg c.st (q / 4))) ∧ Turned (fun b => b = g) w2 wr) (fun pv _ => (x + y - intOf pv).toNat)
    case atStart => exact ⟨x, ws, by omega, by omega, rfl, HW.out.more HM2.out, Lib.hid (ones_refl ws _ (fun i => by rintro ⟨q, h0, h1, _⟩; omega)), Turned.refl _ _⟩
    case round =>
      obtain ⟨p, a, hp0, hp1, rfl, hws, hon, ht⟩ := hrel
      have hal := hon.out.len
      have HC3 := Lib.hid ((ht.block w.heap.size (lt_of_heap HC2.out) (by omega)).trans HC2.out)
      have HT := Lib.hid ht
      have HWS := Lib.hid hws
      clear ht hws
      by_cases hlt : p < x + y
      · have d0 : decide (p < x + y) = true := by simp [hlt]
        have hq : ofV p = p / 4 := of_page (by omega)
        have q1 : IntKind.i64.wrap (p + 1) = p + 1 := wrap_in (by omega) (by omega)
        have OF := Lib.hid (fun W => by have := r_of_more p (by omega) (by omega) W; rw [hq] at this; exact this)
        have hck : isChunk c.pg (p / 4) = true := isChunk_iff.2 (by unfold chunksV; omega)
        have hn1 := ones_turn HH.out hon.out rfl hck
        have HNX : Hid (Ones ws (turnV c.pg c.st (p / 4) 1 a).2 (fun i => ∃ q : Int, x ≤ q ∧ q < p + 1 ∧ i = tblV c.pg c.st (q / 4))) := ⟨hn1.len, fun i h0 => by
          have e : (∃ q : Int, x ≤ q ∧ q < p + 1 ∧ i = tblV c.pg c.st (q / 4)) ↔ ((∃ q : Int, x ≤ q ∧ q < p ∧ i = tblV c.pg c.st (q / 4)) ∨ i = tblV c.pg c.st (p / 4)) := by
            constructor
            · rintro ⟨q, a0, a1, a2⟩
              by_cases e : q = p
              · subst e; exact .inr a2
              · exact .inl ⟨q, a0, by omega, a2⟩
            · rintro (⟨q, a0, a1, a2⟩ | a2)
              · exact ⟨q, a0, by omega, a2⟩
              · exact ⟨p, hp0, by omega, a2⟩
          exact ⟨fun r => (hn1.eq i h0).1 (e.1 r), fun r => (hn1.eq i h0).2 (fun s => r (e.2 s))⟩⟩
        have HB := Lib.hid (And.intro hp0 (And.intro hp1 hlt))
        have TT := Lib.hid (fun W (hW : More wr W) => RT.out a hal (p / 4) W (HWS.out.more hW))
        clear hq hck hn1 hlt hp0 hp1 hon hal i1 i2
        go_wp2_with fail
        refine wp_region_more_tail 4 (by kernel_rfl) (by kernel_rfl) ?_
        simp only [List.take_succ_cons, List.take_zero, List.drop_succ_cons, List.drop_zero]
        iterate 4
          first
          | (refine wpQuiet_load_row rfl 30 _ rfl _ rfl 30 _ _ _ (fun W hW => hW.block HC3.out) Try.underlying30 rfl (by kernel_rfl) ?_)
          | (with_reducible refine wpQuiet_step (fun K hK => ?_)
             go_simp
             first
             | (refine hK _ ?_; clear hK K)
             | (apply Exists.intro
                refine ⟨fun W hW => ?_, hK _ ?_⟩
                first
                | (go_at_call 19; exact Calls.more hW (OF.out W))
                | ((try go_simp); try rfl)
                clear hK K))
        refine wpQuiet_nil ?_
        intro w4 m4
        have T4 := Lib.hid (HT.out.trans (turned_more m4))
        have TW := Lib.hid (TT.out w4 m4)
        clear m4
        go_wp2_with fail
        refine TW.out.mono ?_
        rintro e w5 ⟨rfl, hw5, ht5⟩
        have T5 := Lib.hid (T4.out.trans ht5)
        have W5 := Lib.hid hw5
        clear ht5 hw5
        go_wp2_with fail
        exact ⟨⟨p + 1, _, by have := HB.out; omega, by have := HB.out; omega, by go_num, W5.out, HNX, T5.out⟩, by have := HB.out; simp [intOf]; omega⟩
      · have d0 : decide (p < x + y) = false := by simp [hlt]
        obtain rfl : p = x + y := by omega
        have ha : a = (ensureW c.pg c.st x y ws).2 := ones_pages HH.out rfl HTH.out hon.out
        have RC2 := Lib.hid (RCN.out a hal wr HWS.out)
        have HAE := Lib.hid ha
        have hz := HCD.out
        rw [← ha] at hz
        have q5 : IntKind.i64.wrap (countW c.pg c.st a - z0) = (ensureW c.pg c.st x y ws).1 := by rw [wrap_in (by omega) (by omega)]; omega
        have FT := Lib.hid ((turned_more (S := fun b => b = g) HM2.out).trans HT.out)
        clear hlt hp0 hp1 hon ha hz hal i1 i2
        generalize countW c.pg c.st a = z1 at q5 RC2
        have Q5 := Lib.hid q5
        go_wp2_with (refine wpList_load_row rfl 30 _ rfl _ rfl 30 _ _ _ HC3.out Try.underlying30 rfl (by kernel_rfl) ?_)
        refine RC2.out.mono ?_
        rintro e w6 ⟨rfl, h6⟩
        have FW := Lib.hid (HWS.out.more h6)
        have FT6 := Lib.hid (FT.out.trans (turned_more h6))
        clear h6
        go_wp2_with fail
        go_ret
        exact ⟨rfl, by rw [← HAE.out]; exact FW.out, FT6.out⟩
end Go.Proofs.Ytonenkgjlmcfkaa

namespace Go.Proofs.Ytonenkgjlmcfkaa
open Go.RowKit Go.Sort Go.Maps Go.Shelf
set_option linter.unusedVariables false
set_option linter.unusedSimpArgs false

theorem RowTo.same {w w1 w' : World} {g cap : Nat} {v : Value} {ws : List Int} {e : Ending} (m : More w w1) (hw : Ws w1 g cap ws) (h : Gives w1 v e w') : RowTo w g cap v ws e w' := ⟨h.1, hw.more h.2, (turned_more m).trans (turned_more h.2)⟩

set_option maxRecDepth 100000 in
set_option maxHeartbeats 4000000 in
theorem r_told {c : Cfg} (R : c.Ok) (ws : List Int) (H : TblIn c.pg c.st ws.length) (hl : ws.length ≤ 1000) (g cap : Nat) (kind k y : Int) (hx : W64 k) (w : World) (hw : Ws w g cap ws) :
    Calls Try.prog 12 #[.agg c.cells, .slice (some ⟨g, 0, none⟩) ws.length cap, .agg #[.int .i64 kind, .int .i64 k, .int .i64 y]] w (RowTo w g cap (.int .i64 (doneV c.pg c.st kind k y ws).1) (doneV c.pg c.st kind k y ws).2) := by
  have h0 := row_new w c.cells 30
  have mB : More (w.alloc (.cells c.cells 30)) ((w.alloc (.cells c.cells 30)).alloc (.cells #[.int .i64 kind, .int .i64 k, .int .i64 y] 41)) := (More.refl _).alloc _
  have HC := Lib.hid (mB.block h0)
  have hb := row_new (w.alloc (.cells c.cells 30)) #[.int .i64 kind, .int .i64 k, .int .i64 y] 41
  rw [World.size_alloc] at hb
  have HM := Lib.hid (((More.refl w).alloc (.cells c.cells 30)).trans mB)
  have x0 := cell_more (j := 0) hb (More.refl _) rfl
  have x1 := cell_more (j := 1) hb (More.refl _) rfl
  have x2 := cell_more (j := 2) hb (More.refl _) rfl
  have HWS := Lib.hid (hw.more HM.out)
  have HH := Lib.hid H
  have HR := Lib.hid R
  have HX := Lib.hid hx
  clear hw H R h0 mB hb hx
  by_cases e0 : kind = 0
  · have d0 : (kind == 0) = true := by simp [e0]
    have hP : doneV c.pg c.st kind k y ws = (b2i (decide (0 < (turnV c.pg c.st k 1 ws).1)), (turnV c.pg c.st k 1 ws).2) := by unfold doneV; rw [if_pos e0]
    rw [hP]
    clear hP e0
    have CT := Lib.hid (r_turn HR.out ws HH.out hl g cap k 1 _ HWS.out)
    show Calls _ _ _ _ (RowTo w g cap (.int .i64 (b2i (decide (0 < (turnV c.pg c.st k 1 ws).1)))) (turnV c.pg c.st k 1 ws).2)
    generalize decide (0 < (turnV c.pg c.st k 1 ws).1) = b at CT ⊢
    generalize (turnV c.pg c.st k 1 ws).2 = ws' at CT ⊢
    go_enter Try.func12, Try.ntmps12
    go_wp2_with (refine wpList_load_row rfl 30 _ rfl _ rfl 30 _ _ _ HC.out Try.underlying30 rfl (by kernel_rfl) ?_)
    refine CT.out.mono ?_
    rintro e w1 ⟨rfl, hw1, ht1⟩
    have FIN := Lib.hid (And.intro hw1 ((turned_more (S := fun b => b = g) HM.out).trans ht1))
    clear hw1 ht1
    cases b <;> (go_wp2_with fail; go_ret; exact ⟨rfl, FIN.out.1, FIN.out.2⟩)
  by_cases e1 : kind = 1
  · have d0 : (kind == 0) = false := by simp [e0]
    have d1 : (kind == 1) = true := by simp [e1]
    have hP : doneV c.pg c.st kind k y ws = (b2i (decide (0 < (turnV c.pg c.st k 0 ws).1)), (turnV c.pg c.st k 0 ws).2) := by unfold doneV; rw [if_neg e0]; rw [if_pos e1]
    rw [hP]
    clear hP e0 e1
    have CT := Lib.hid (r_turn HR.out ws HH.out hl g cap k 0 _ HWS.out)
    show Calls _ _ _ _ (RowTo w g cap (.int .i64 (b2i (decide (0 < (turnV c.pg c.st k 0 ws).1)))) (turnV c.pg c.st k 0 ws).2)
    generalize decide (0 < (turnV c.pg c.st k 0 ws).1) = b at CT ⊢
    generalize (turnV c.pg c.st k 0 ws).2 = ws' at CT ⊢
    go_enter Try.func12, Try.ntmps12
    go_wp2_with (refine wpList_load_row rfl 30 _ rfl _ rfl 30 _ _ _ HC.out Try.underlying30 rfl (by kernel_rfl) ?_)
    refine CT.out.mono ?_
    rintro e w1 ⟨rfl, hw1, ht1⟩
    have FIN := Lib.hid (And.intro hw1 ((turned_more (S := fun b => b = g) HM.out).trans ht1))
    clear hw1 ht1
    cases b <;> (go_wp2_with fail; go_ret; exact ⟨rfl, FIN.out.1, FIN.out.2⟩)
  by_cases e2 : kind = 2
  · have d0 : (kind == 0) = false := by simp [e0]
    have d1 : (kind == 1) = false := by simp [e1]
    have d2 : (kind == 2) = true := by simp [e2]
    have hP : doneV c.pg c.st kind k y ws = (b2i (mappedV c.pg c.st ws k), ws) := by unfold doneV; rw [if_neg e0]; rw [if_neg e1]; rw [if_pos e2]
    rw [hP]
    clear hP e0 e1 e2
    have CT := Lib.hid (r_mapped HR.out ws HH.out hl g cap k _ HWS.out)
    show Calls _ _ _ _ (RowTo w g cap (.int .i64 (b2i (mappedV c.pg c.st ws k))) ws)
    generalize mappedV c.pg c.st ws k = b at CT ⊢
    go_enter Try.func12, Try.ntmps12
    go_wp2_with (refine wpList_load_row rfl 30 _ rfl _ rfl 30 _ _ _ HC.out Try.underlying30 rfl (by kernel_rfl) ?_)
    refine CT.out.mono ?_
    rintro e w1 ⟨rfl, h1⟩
    have FIN := Lib.hid (And.intro (HWS.out.more h1) (turned_more (S := fun b => b = g) (HM.out.trans h1)))
    clear h1
    cases b <;> (go_wp2_with fail; go_ret; exact ⟨rfl, FIN.out.1, FIN.out.2⟩)
  by_cases e3 : kind = 3
  · have d0 : (kind == 0) = false := by simp [e0]
    have d1 : (kind == 1) = false := by simp [e1]
    have d2 : (kind == 2) = false := by simp [e2]
    have d3 : (kind == 3) = true := by simp [e3]
    have hP : doneV c.pg c.st kind k y ws = (b2i (coversW c.pg c.st k y ws), ws) := by unfold doneV; rw [if_neg e0]; rw [if_neg e1]; rw [if_neg e2]; rw [if_pos e3]
    rw [hP]
    clear hP e0 e1 e2 e3
    have CT := Lib.hid (r_covers HR.out ws HH.out hl g cap k y HX.out _ HWS.out)
    show Calls _ _ _ _ (RowTo w g cap (.int .i64 (b2i (coversW c.pg c.st k y ws))) ws)
    generalize coversW c.pg c.st k y ws = b at CT ⊢
    go_enter Try.func12, Try.ntmps12
    go_wp2_with (refine wpList_load_row rfl 30 _ rfl _ rfl 30 _ _ _ HC.out Try.underlying30 rfl (by kernel_rfl) ?_)
    refine CT.out.mono ?_
    rintro e w1 ⟨rfl, h1⟩
    have FIN := Lib.hid (And.intro (HWS.out.more h1) (turned_more (S := fun b => b = g) (HM.out.trans h1)))
    clear h1
    cases b <;> (go_wp2_with fail; go_ret; exact ⟨rfl, FIN.out.1, FIN.out.2⟩)
  by_cases e4 : kind = 4
  · have d0 : (kind == 0) = false := by simp [e0]
    have d1 : (kind == 1) = false := by simp [e1]
    have d2 : (kind == 2) = false := by simp [e2]
    have d3 : (kind == 3) = false := by simp [e3]
    have d4 : (kind == 4) = true := by simp [e4]
    have hP : doneV c.pg c.st kind k y ws = ensureW c.pg c.st k y ws := by unfold doneV; rw [if_neg e0]; rw [if_neg e1]; rw [if_neg e2]; rw [if_neg e3]; rw [if_pos e4]
    rw [hP]
    clear hP e0 e1 e2 e3 e4
    have CT := Lib.hid (r_ensure HR.out ws HH.out hl g cap k y HX.out _ HWS.out)
    generalize (ensureW c.pg c.st k y ws).1 = z at CT ⊢
    generalize (ensureW c.pg c.st k y ws).2 = ws' at CT ⊢
    go_enter Try.func12, Try.ntmps12
    go_wp2_with (refine wpList_load_row rfl 30 _ rfl _ rfl 30 _ _ _ HC.out Try.underlying30 rfl (by kernel_rfl) ?_)
    refine CT.out.mono ?_
    rintro e w1 ⟨rfl, hw1, ht1⟩
    have FIN := Lib.hid (And.intro hw1 ((turned_more (S := fun b => b = g) HM.out).trans ht1))
    clear hw1 ht1
    go_wp2_with fail
    go_ret
    exact ⟨rfl, FIN.out.1, FIN.out.2⟩
  have d0 : (kind == 0) = false := by simp [e0]
  have d1 : (kind == 1) = false := by simp [e1]
  have d2 : (kind == 2) = false := by simp [e2]
  have d3 : (kind == 3) = false := by simp [e3]
  have d4 : (kind == 4) = false := by simp [e4]
  have hP : doneV c.pg c.st kind k y ws = (countW c.pg c.st ws, ws) := by unfold doneV; rw [if_neg e0]; rw [if_neg e1]; rw [if_neg e2]; rw [if_neg e3]; rw [if_neg e4]
  rw [hP]
  clear hP e0 e1 e2 e3 e4
  have CT := Lib.hid (r_count HR.out ws HH.out hl g cap _ HWS.out)
  show Calls _ _ _ _ (RowTo w g cap (.int .i64 (countW c.pg c.st ws)) ws)
  generalize countW c.pg c.st ws = z at CT ⊢
  go_enter Try.func12, Try.ntmps12
  go_wp2_with (refine wpList_load_row rfl 30 _ rfl _ rfl 30 _ _ _ HC.out Try.underlying30 rfl (by kernel_rfl) ?_)
  refine CT.out.mono ?_
  rintro e w1 ⟨rfl, h1⟩
  have FIN := Lib.hid (And.intro (HWS.out.more h1) (turned_more (S := fun b => b = g) (HM.out.trans h1)))
  clear h1
  go_wp2_with fail
  go_ret
  exact ⟨rfl, FIN.out.1, FIN.out.2⟩
end Go.Proofs.Ytonenkgjlmcfkaa

namespace Go.Proofs.Ytonenkgjlmcfkaa
open Go.RowKit Go.Sort Go.Maps Go.Shelf
set_option linter.unusedVariables false
set_option linter.unusedSimpArgs false

/-- A load of three cells that lie side by side. -/
theorem run_loadVar_three {P : Program} (w : World) (s off : Nat) (ty : TypeId) (v0 v1 v2 : Value) (d : TypeDesc) (h0 : w.cell? ⟨s, off, none⟩ = some v0) (h1 : w.cell? ⟨s, off + 1, none⟩ = some v1) (h2 : w.cell? ⟨s, off + 2, none⟩ = some v2)
    (hu : P.underlying ty = some d) (hd : (match d with | .struct _ | .array _ _ => true | _ => false) = true) (hi : (P.info? ty).map (·.size) = some 3) :
    (loadVar ty ⟨s, off, none⟩).run P w = .ok (.agg #[v0, v1, v2]) w := by
  have hl : (loadCells ⟨s, off, none⟩ [v0, v1, v2].length).run P w = .ok [v0, v1, v2].toArray w :=
    run_loadCells_list (P := P) w ⟨s, off, none⟩ [v0, v1, v2] (fun j v hv => by
      rw [addr_add]
      match j, hv with
      | 0, hv => cases hv; exact h0
      | 1, hv => cases hv; exact h1
      | 2, hv => cases hv; exact h2
      | j + 3, hv => simp at hv)
  cases hq : P.info? ty with
  | none => simp [hq] at hi
  | some i =>
    have hs : i.size = 3 := by simpa [hq] using hi
    have hagg : (isAgg ty).run P w = .ok true w := by
      unfold isAgg
      rw [Sem.run_bind, run_underlying hu w]
      cases d <;> simp_all
    simp only [List.length_cons, List.length_nil, Nat.reduceAdd] at hl
    simp [loadVar, Sem.run_bind, hagg, sizeOf, typeInfo, hq, hs, hl]
theorem wpQuiet_load_three {P : Program} {ops : Array Oper} {a : Act} {o : Oper} {rest : List Oper} {C : World → Prop} {Q : Act → Prop} (hw : Region.wanted o (yielded ops a.tmps) = true) (ty : TypeId) (x : Operand) (ho : o.op = .load ty x)
    (s off : Nat) (hx : a.eval x = .pointer (some ⟨s, off, none⟩)) (v0 v1 v2 : Value) (d : TypeDesc) (hg : ∀ W, C W → W.cell? ⟨s, off, none⟩ = some v0 ∧ W.cell? ⟨s, off + 1, none⟩ = some v1 ∧ W.cell? ⟨s, off + 2, none⟩ = some v2)
    (hu : P.underlying ty = some d) (hd : (match d with | .struct _ | .array _ _ => true | _ => false) = true) (hi : (P.info? ty).map (·.size) = some 3)
    (h : wpQuiet P ops C Q rest (a.put o.dst (.agg #[v0, v1, v2]))) : wpQuiet P ops C Q (o :: rest) a := by
  refine wpQuiet_do (.agg #[v0, v1, v2]) hw (fun W hW => ?_) h
  obtain ⟨h0, h1, h2⟩ := hg W hW
  unfold Oper.quietAt execOp
  simp only [ho, hx, Instr.loadAt, Instr.sureAddr, Sem.run_bind, Sem.run_pure, Result.andThen_ok, run_loadVar_three W s off ty v0 v1 v2 d h0 h1 h2 hu hd hi]
  exact ⟨rfl, rfl⟩

set_option maxRecDepth 100000 in
set_option maxHeartbeats 1000000 in
theorem plays_clo {c : Cfg} (R : c.Ok) {n : Nat} (H : TblIn c.pg c.st n) (hn : n ≤ 10000) (F : Nat → Prop) (p g1 g2 g3 g4 : Nat) (kn : Int → Option Int) (a : Option Addr) (capl : Nat) (l : List Ins3) (j : Nat) (kind k y : Int) (hx : W64 k) (W : World) (hv : ViewAt W F p kn []) (hk : OkK kn)
    (h1 : W.heap[g1]? = some (.cells c.arr 28 (0, 0))) (h2 : W.heap[g2]? = some (.cells #[.slice a l.length capl] 24 (0, 0))) (h3 : W.heap[g3]? = some (.cells #[.int .i64 (j : Int)] 3 (0, 0))) (h4 : BoxI g4 W) (hL : IsIns W a l) (hll : l.length ≤ 1000) (hj : l[j]? = some (kind, k, y))
    (n4 : ¬ F g4) (X Y : World → Prop)
    (hY : ∀ w', Turned (fun b => F b ∨ b = g4) W w' → BoxI g4 w' → Y w')
    (hX : ∀ w' z D, doneP c.pg c.st kind k y kn [] = .ok z D → w'.heap[g4]? = some (.cells #[.int .i64 z] 3 (0, 0)) → X w') :
    Calls Try.prog 10 #[.pointer (some ⟨p, 0, none⟩), .pointer (some ⟨g1, 0, none⟩), .pointer (some ⟨g2, 0, none⟩), .pointer (some ⟨g3, 0, none⟩), .pointer (some ⟨g4, 0, none⟩)] W (WentY W F (fun b => b = g4) Y X p kn (ranOf (doneP c.pg c.st kind k y kn []))) := by
  obtain ⟨z0, h4⟩ := h4
  have hjl : j < l.length := by
    rcases Nat.lt_or_ge j l.length with q | q
    · exact q
    · rw [List.getElem?_eq_none q] at hj; cases hj
  obtain ⟨s, o, rfl, hs, hc⟩ := hL.resolve_left (by intro q; rw [q] at hjl; simp at hjl)
  obtain ⟨y0, y1, y2⟩ := hc j _ hj
  simp only at y0 y1 y2
  have H1 := Lib.hid h1
  have H4 := Lib.hid h4
  have hl4 := lt_of_heap h4
  have c2 := (box_cells h2).1
  have c3 := (box_cells h3).1
  have C3 := Lib.hid (fun W' (m : More W W') => And.intro (m.cell y0) (And.intro (m.cell y1) (m.cell y2)))
  have EN := Lib.hid (fun w' (m : More W w') => c_done R H hn F p kn [] kind k y hx w' (hv.more m) hk (invD_nil n))
  have HY := Lib.hid hY
  have HX := Lib.hid hX
  clear hv h1 h2 h3 h4 hY hX hk R hc y0 y1 y2 hj
  go_enter Try.func10, Try.ntmps10
  refine wp_region_more_tail 6 (by kernel_rfl) (by kernel_rfl) ?_
  simp only [List.take_succ_cons, List.take_zero, List.drop_succ_cons, List.drop_zero]
  with_reducible refine wpQuiet_step (fun K hK => ?_)
  go_simp
  first
  | (refine hK _ ?_; clear hK K)
  | (apply Exists.intro
     refine ⟨fun W hW => ?_, hK _ ?_⟩
     first
     | (have c2' := hW.cell c2; have c3' := hW.cell c3; go_simp; try rfl)
     clear hK K)
  refine wpQuiet_load_row rfl 28 _ rfl _ rfl 28 _ _ _ (fun W hW => hW.block H1.out) Try.underlying28 rfl (by kernel_rfl) ?_
  with_reducible refine wpQuiet_step (fun K hK => ?_)
  go_simp
  first
  | (refine hK _ ?_; clear hK K)
  | (apply Exists.intro
     refine ⟨fun W hW => ?_, hK _ ?_⟩
     first
     | (have c2' := hW.cell c2; have c3' := hW.cell c3; go_simp; try rfl)
     clear hK K)
  with_reducible refine wpQuiet_step (fun K hK => ?_)
  go_simp
  first
  | (refine hK _ ?_; clear hK K)
  | (apply Exists.intro
     refine ⟨fun W hW => ?_, hK _ ?_⟩
     first
     | (have c2' := hW.cell c2; have c3' := hW.cell c3; go_simp; try rfl)
     clear hK K)
  with_reducible refine wpQuiet_step (fun K hK => ?_)
  go_simp
  first
  | (refine hK _ ?_; clear hK K)
  | (apply Exists.intro
     refine ⟨fun W hW => ?_, hK _ ?_⟩
     first
     | (have c2' := hW.cell c2; have c3' := hW.cell c3; go_simp; try rfl)
     clear hK K)
  refine wpQuiet_load_three rfl 41 _ rfl s (o + j * 3) rfl _ _ _ _ (fun W hW => C3.out W hW) Try.underlying41 rfl (by kernel_rfl) ?_
  refine wpQuiet_nil ?_
  intro w4 m4
  have M4 := Lib.hid m4
  clear m4
  go_wp2_with fail
  refine (EN.out w4 M4.out).mono ?_
  intro e w1 he
  have he := he.after M4.out
  cases hE : doneP c.pg c.st kind k y kn [] with
  | need a =>
    rw [hE] at he
    obtain ⟨rfl, hd, ht⟩ := he
    refine ⟨rfl, (?_ : WentY W F (fun k => k = g4) Y X p kn (ranOf (.need a)) _ _)⟩
    exact ⟨rfl, hd, ht.mono (fun _ _ q => .inl q), HY.out _ (ht.mono (fun _ _ q => .inl q)) ⟨z0, (ht.block g4 hl4 n4).trans H4.out⟩⟩
  | ok x D =>
    rw [hE] at he
    obtain ⟨rfl, F', hv1, ht, hf⟩ := he
    have b2 := (ht.block g4 hl4 n4).trans H4.out
    have n2' : ¬ F' g4 := fun q => by rcases hf g4 q with q | q; exact n4 q; omega
    have X0 := HX.out
    rw [hE] at X0
    have HXD := Lib.hid X0
    have B2 := Lib.hid b2
    have HV1 := Lib.hid hv1
    have HT := Lib.hid ht
    have HE := Lib.hid hE
    obtain ⟨c0, c1, c2⟩ := box_cells b2
    clear b2 hv1 ht X0 HX hE
    go_wp2_with fail
    go_end0
    have q2 := setCell_one B2.out (.int .i64 x)
    have t2 : Turned (fun k => k = g4) w1 (w1.setCell ⟨g4, 0, none⟩ (.int .i64 x)) := Turned.setCell (Turned.refl _ w1) ⟨g4, 0, none⟩ _ (fun _ => rfl)
    have tt : Turned (fun b => F b ∨ b = g4) W (w1.setCell ⟨g4, 0, none⟩ (.int .i64 x)) := Turned.setCell (HT.out.mono (fun _ _ q => .inl q)) ⟨g4, 0, none⟩ _ (fun _ => .inr rfl)
    show WentY W F (fun k => k = g4) Y X p kn (ranOf (doneP c.pg c.st kind k y kn [])) _ _
    rw [HE.out]
    refine ⟨rfl, ⟨F', ?_⟩, tt, HY.out _ tt ⟨x, q2⟩, HXD.out _ x D rfl q2⟩
    exact HV1.out.keepS t2 (fun k hk e => n2' (e ▸ hk)) (fun k es cl e h => by subst e; rw [B2.out] at h; cases h)

/-- What stands while a step is done. -/
structure PlY (g1 g2 g3 g4 : Nat) (c : Cfg) (a : Option Addr) (capl : Nat) (l : List Ins3) (j : Nat) (w : World) : Prop where
  h1 : w.heap[g1]? = some (.cells c.arr 28 (0, 0))
  h2 : w.heap[g2]? = some (.cells #[.slice a l.length capl] 24 (0, 0))
  h3 : w.heap[g3]? = some (.cells #[.int .i64 (j : Int)] 3 (0, 0))
  h4 : BoxI g4 w
theorem PlY.keep {g1 g2 g3 g4 : Nat} {c : Cfg} {a : Option Addr} {capl : Nat} {l : List Ins3} {j : Nat} {S : Nat → Prop} {w w' : World} (h : PlY g1 g2 g3 g4 c a capl l j w) (t : Turned S w w') (n1 : ¬ S g1) (n2 : ¬ S g2) (n3 : ¬ S g3) (b : BoxI g4 w') : PlY g1 g2 g3 g4 c a capl l j w' :=
  ⟨(t.block g1 (lt_of_heap h.h1) n1).trans h.h1, (t.block g2 (lt_of_heap h.h2) n2).trans h.h2, (t.block g3 (lt_of_heap h.h3) n3).trans h.h3, b⟩
theorem plays_do {c : Cfg} (R : c.Ok) (zs : List Int) (H : TblIn c.pg c.st zs.length) (hlen : zs.length ≤ 1000) (hz : OkW zs) (kind k y : Int) (hx : W64 k) (w : World) (g1 g2 g3 g4 : Nat) (a : Option Addr) (cap : Nat) (al : Option Addr) (capl : Nat) (l : List Ins3) (j : Nat) (hp : PlY g1 g2 g3 g4 c al capl l j w) (hL : IsIns w al l) (hll : l.length ≤ 1000) (hj : l[j]? = some (kind, k, y)) (d1 : g1 ≠ g4) (d2 : g2 ≠ g4) (d3 : g3 ≠ g4) (hal : ∀ b, leads al b → b ≠ g4) (hw : IsWords w a zs) :
    Calls Try.prog 9 #[.slice a zs.length cap, .func (.func 10) #[] #[.pointer (some ⟨g1, 0, none⟩), .pointer (some ⟨g2, 0, none⟩), .pointer (some ⟨g3, 0, none⟩), .pointer (some ⟨g4, 0, none⟩)]] w (fun e w' => ∃ v1 v2, e = .returned (.tuple #[v1, v2, .int .i64 0]) ∧ Rw w.heap.size w' v1 (doneV c.pg c.st kind k y zs).2 ∧ w'.heap[g4]? = some (.cells #[.int .i64 (doneV c.pg c.st kind k y zs).1] 3 (0, 0)) ∧ Turned (fun b => b = g4) w w') := by
  have l1 := lt_of_heap hp.h1
  have l2 := lt_of_heap hp.h2
  have l3 := lt_of_heap hp.h3
  have l4 : g4 < w.heap.size := by obtain ⟨z, q⟩ := hp.h4; exact lt_of_heap q
  have lal : l ≠ [] → ∀ b, leads al b → b < w.heap.size := fun hne b hb => by
    obtain ⟨s, o, rfl, hs, _⟩ := hL.resolve_left hne
    have : s = b := by simpa [leads] using hb
    omega
  have G := good_done H kind k y
  obtain ⟨K', hK', _, hans⟩ := flat_do (sound_done c.pg c.st kind k y) G hz (flat_done H kind k y)
  have M := doY_ok a cap zs (fun K => ranOf (doneP c.pg c.st kind k y (look K) [])) (some ((doneV c.pg c.st kind k y zs).2, K')) zs.length w hw hlen hz (fine_of G hz (by omega)) (by omega) hK' 10 #[.pointer (some ⟨g1, 0, none⟩), .pointer (some ⟨g2, 0, none⟩), .pointer (some ⟨g3, 0, none⟩), .pointer (some ⟨g4, 0, none⟩)] (fun b => b = g4)
    (fun w' => PlY g1 g2 g3 g4 c al capl l j w') (fun w' => w'.heap[g4]? = some (.cells #[.int .i64 (doneV c.pg c.st kind k y zs).1] 3 (0, 0)))
    (fun k q => by subst q; exact l4)
    (fun w' w'' y t => y.keep t (by omega) (by omega) (by omega) (by obtain ⟨z, q⟩ := y.h4; exact ⟨z, (t.block g4 (lt_of_heap q) (by omega)).trans q⟩))
    (fun w' w'' y t => (t.block g4 (lt_of_heap y) (by omega)).trans y) hp (enters_of Try.func10 (by kernel_rfl) rfl)
    (fun K hK W F p t yy hv hF => plays_clo R H (by omega) F p g1 g2 g3 g4 (look K) al capl l j kind k y hx W hv (okK_of hK hz) yy.h1 yy.h2 yy.h3 yy.h4 (hL.keep t (fun b hb e => hal b hb e)) hll hj (fun q => by have := hF _ q; omega) _ _
      (fun w' t' b => yy.keep t' (by rintro (q | q); have := hF _ q; omega; exact d1 q) (by rintro (q | q); have := hF _ q; omega; exact d2 q) (by rintro (q | q); have := hF _ q; omega; exact d3 q) b)
      (fun w' z D e q => by rw [← hans K hK z D e]; exact q))
  refine M.mono ?_
  rintro e w' ⟨v1, v2, rfl, r1, _, t, _, x⟩
  exact ⟨v1, v2, rfl, r1, x, t⟩
end Go.Proofs.Ytonenkgjlmcfkaa

namespace Go.Proofs.Ytonenkgjlmcfkaa
open Go.RowKit Go.Sort Go.Maps Go.Shelf
set_option linter.unusedVariables false
set_option linter.unusedSimpArgs false

theorem Ws.of_row {w : World} {a : Option Addr} {cap : Nat} {zs : List Int} (h : RowAt w 3 (zs.map (Value.int .i64)) a cap) (hne : 0 < zs.length) : ∃ g, a = some ⟨g, 0, none⟩ ∧ Ws w g cap zs := by
  rcases h with ⟨_, _, q⟩ | ⟨g, cur, rfl, hg, h1, h2, h3, h4⟩
  · have : zs = [] := List.map_eq_nil_iff.1 q
    rw [this] at hne; simp at hne
  · refine ⟨g, rfl, cur, hg, by simpa using h1, h2, h3, fun i hi => ?_⟩
    have h5 : (cur.toList.take (zs.map (Value.int .i64)).length)[i]? = some (.int .i64 (zs.getD i 0)) := by
      rw [h4, List.getElem?_map, List.getElem?_eq_getElem hi]; simp [List.getD, hi]
    rw [List.getElem?_take, if_pos (by simpa using hi)] at h5
    simpa using h5
/-- What Begin does, at whatever configuration it is given. -/
theorem begin_at (y0 y1 y2 y3 y4 y5 y6 y7 y8 y9 y10 : Int) (f0 : (Lit.int .i64 y0).wf = true) (f1 : (Lit.int .i64 y1).wf = true) (f2 : (Lit.int .i64 y2).wf = true) (f3 : (Lit.int .i64 y3).wf = true) (f4 : (Lit.int .i64 y4).wf = true) (f5 : (Lit.int .i64 y5).wf = true) (f6 : (Lit.int .i64 y6).wf = true) (f7 : (Lit.int .i64 y7).wf = true) (f8 : (Lit.int .i64 y8).wf = true) (f9 : (Lit.int .i64 y9).wf = true) (f10 : (Lit.int .i64 y10).wf = true) : ∃ d : Cfg, d.Small ∧ Hid (∀ W, Calls Try.prog 8 #[.agg #[.int .i64 y0, .int .i64 y1, .int .i64 y2, .int .i64 y3, .int .i64 y4, .int .i64 y5, .int .i64 y6, .int .i64 y7, .int .i64 y8, .int .i64 y9, .int .i64 y10]] W (Begun8 W d)) := by
  obtain ⟨wk, cp, pg, st, tr, wt, ck, pr, ca, bi, ba, R0, S0⟩ := some_gives y0 y1 y2 y3 y4 y5 y6 y7 y8 y9 y10 f0 f1 f2 f3 f4 f5 f6 f7 f8 f9 f10
  have R : Cfg.Ok ⟨wk, cp, pg, st, tr, wt, ck, pr, ca, bi, ba⟩ := R0
  exact ⟨_, small_small R, fun W => begin_any R y0 y1 y2 y3 y4 y5 y6 y7 y8 y9 y10 W S0.out⟩

/-- Between two steps. -/
structure PlI (w wr : World) (d : Cfg) (a : Option Addr) (capl : Nat) (l : List Ins3) (bl br ba : Nat) (n gw cw j : Nat) (zs : List Int) (gz cz gi : Nat) : Prop where
  hj : j ≤ l.length
  hi : wr.heap[gi]? = some (.cells #[.int .i64 (j : Int)] 3 (0, 0))
  len : zs.length = n
  ok : OkW zs
  z : Ws wr gz cz zs
  wnt : Ws wr gw cw zs
  lb : wr.heap[bl]? = some (.cells d.arr 28 (0, 0))
  rb : wr.heap[br]? = some (.cells d.cells 30 (0, 0))
  ab : wr.heap[ba]? = some (.cells #[.slice a l.length capl] 24 (0, 0))
  n1 : gw ≠ gz
  n2 : gi ≠ gw ∧ gi ≠ gz ∧ gi ≠ bl ∧ gi ≠ br ∧ gi ≠ ba
  n3 : gw ≠ bl ∧ gw ≠ br ∧ gw ≠ ba
  more : More w wr
  lo : w.heap.size ≤ gi ∧ w.heap.size ≤ gw

/-- What a box holds. -/
def cellAt (w : World) : Value → Int
  | .pointer (some ad) => intOf ((w.cell? ad).getD undef)
  | _ => 0
theorem cellAt_of {w : World} {g : Nat} {z : Int} (h : w.cell? ⟨g, 0, none⟩ = some (.int .i64 z)) : cellAt w (.pointer (some ⟨g, 0, none⟩)) = z := by
  show intOf ((w.cell? ⟨g, 0, none⟩).getD undef) = z
  rw [h]; rfl

set_option maxRecDepth 100000 in
set_option maxHeartbeats 4000000 in
theorem plays8_walk (y0 y1 y2 y3 y4 y5 y6 y7 y8 y9 y10 : Int) (a : Option Addr) (capl : Nat) (l : List Ins3) (w : World) (f0 : (Lit.int .i64 y0).wf = true) (f1 : (Lit.int .i64 y1).wf = true) (f2 : (Lit.int .i64 y2).wf = true) (f3 : (Lit.int .i64 y3).wf = true) (f4 : (Lit.int .i64 y4).wf = true) (f5 : (Lit.int .i64 y5).wf = true) (f6 : (Lit.int .i64 y6).wf = true) (f7 : (Lit.int .i64 y7).wf = true) (f8 : (Lit.int .i64 y8).wf = true) (f9 : (Lit.int .i64 y9).wf = true) (f10 : (Lit.int .i64 y10).wf = true) (hl : IsIns w a l) (ho : OkP l) (hm : l.length ≤ 9223372036854775807) :
    Calls Try.prog 3 #[.agg #[.int .i64 y0, .int .i64 y1, .int .i64 y2, .int .i64 y3, .int .i64 y4, .int .i64 y5, .int .i64 y6, .int .i64 y7, .int .i64 y8, .int .i64 y9, .int .i64 y10], .slice a l.length capl] w (Gives w (.bool true)) := by
  obtain ⟨d, S, BEG⟩ := begin_at y0 y1 y2 y3 y4 y5 y6 y7 y8 y9 y10 f0 f1 f2 f3 f4 f5 f6 f7 f8 f9 f10
  have SS := Lib.hid S
  have wds := S.words
  have OP := Lib.hid ho
  clear f0 f1 f2 f3 f4 f5 f6 f7 f8 f9 f10 S ho
  have mB : More (w.alloc (.cells #[.int .i64 y0, .int .i64 y1, .int .i64 y2, .int .i64 y3, .int .i64 y4, .int .i64 y5, .int .i64 y6, .int .i64 y7, .int .i64 y8, .int .i64 y9, .int .i64 y10] 23)) ((w.alloc (.cells #[.int .i64 y0, .int .i64 y1, .int .i64 y2, .int .i64 y3, .int .i64 y4, .int .i64 y5, .int .i64 y6, .int .i64 y7, .int .i64 y8, .int .i64 y9, .int .i64 y10] 23)).alloc (.cells #[.slice a l.length capl] 24)) := (More.refl _).alloc _
  have HA := Lib.hid (mB.block (row_new w #[.int .i64 y0, .int .i64 y1, .int .i64 y2, .int .i64 y3, .int .i64 y4, .int .i64 y5, .int .i64 y6, .int .i64 y7, .int .i64 y8, .int .i64 y9, .int .i64 y10] 23))
  have hb := row_new (w.alloc (.cells #[.int .i64 y0, .int .i64 y1, .int .i64 y2, .int .i64 y3, .int .i64 y4, .int .i64 y5, .int .i64 y6, .int .i64 y7, .int .i64 y8, .int .i64 y9, .int .i64 y10] 23)) #[.slice a l.length capl] 24
  rw [World.size_alloc] at hb
  have HB := Lib.hid hb
  have cb := (box_cells hb).1
  have HM := Lib.hid (((More.refl w).alloc (.cells #[.int .i64 y0, .int .i64 y1, .int .i64 y2, .int .i64 y3, .int .i64 y4, .int .i64 y5, .int .i64 y6, .int .i64 y7, .int .i64 y8, .int .i64 y9, .int .i64 y10] 23)).trans mB)
  have s2 : ((w.alloc (.cells #[.int .i64 y0, .int .i64 y1, .int .i64 y2, .int .i64 y3, .int .i64 y4, .int .i64 y5, .int .i64 y6, .int .i64 y7, .int .i64 y8, .int .i64 y9, .int .i64 y10] 23)).alloc (.cells #[.slice a l.length capl] 24)).heap.size = w.heap.size + 2 := by simp
  have S2 := Lib.hid s2
  clear hb mB s2
  by_cases hbig : 100 < l.length
  · have d0 : decide ((100 : Int) < (l.length : Int)) = true := by simp; omega
    clear HA HB BEG wds
    go_enter Try.func3, Try.ntmps3
    go_wp2_with fail
    refine (lives8_ok _).mono ?_
    rintro e w8 ⟨rfl, h8⟩
    have HM8 := Lib.hid (HM.out.trans h8)
    clear h8
    go_wp2_with fail
    go_ret
    exact ⟨rfl, HM8.out⟩
  · have d0 : decide ((100 : Int) < (l.length : Int)) = false := by simp; omega
    go_enter Try.func3, Try.ntmps3
    go_wp2_with (refine wpList_load_row rfl 23 _ rfl w.heap.size rfl 23 _ _ _ HA.out Try.underlying23 rfl (by kernel_rfl) ?_)
    have hs2 := S2.out
    generalize World.alloc (World.alloc w _) _ = w2 at HA HB HM hs2 cb ⊢
    clear S2 cb
    refine (BEG.out _).mono ?_
    rintro e w1 ⟨g, n, hn, rfl, hrw, m1⟩
    obtain ⟨w3, e3, b1, b2, b3, m3, s3⟩ := rows2 w1 zero24 zero11 d.arr d.cells 28 30
    have b4 : w3.heap[w1.heap.size + 1]? = some (.cells d.cells 30 (0, 0)) := by rw [← e3]; exact setRow_heap _ _ _ _ _ _ b2
    have hz := zeros_len n
    have wz : Ws w1 g n (zeros n) := Ws.of_rw (base := w2.heap.size) (by rw [hz]; exact hrw)
    have hg2 : w2.heap.size ≤ g := by
      rcases hrw.2 with ⟨q, _⟩ | ⟨g', cap', cur, q, q2, _⟩
      · cases q
      · have := congrArg Value.ownBlock q
        simp [Value.ownBlock] at this
        omega
    have hg1 := wz.lt
    have B1 := Lib.hid b1
    have B2 := Lib.hid b2
    have B3 := Lib.hid b3
    have B4 := Lib.hid b4
    have m13 := m1.trans m3
    have AC := Lib.hid (m13.block HB.out)
    have WZ := Lib.hid (wz.more m3)
    have M3 := Lib.hid (HM.out.trans m13)
    have hw1 : w2.heap.size ≤ w1.heap.size := m1.size
    have HN := Lib.hid hn
    have hnb : 160 ≤ n ∧ n ≤ 800 := by omega
    have ZW := Lib.hid (WZ.out.words)
    have HZ := Lib.hid hz
    have HL := Lib.hid (hl.more M3.out)
    have HLL := Lib.hid hl
    clear b1 b2 b3 b4 hrw hn BEG hz wz HA HB HM m1 m3 m13 wds hl
    go_wp2_with (first
      | (refine wpList_store_row rfl 28 _ _ rfl w1.heap.size _ rfl rfl 28 zero24 B1.out (by kernel_rfl) rfl (arr_one d) ?_)
      | (refine wpList_store_row rfl 30 _ _ rfl (w1.heap.size + 1) _ rfl rfl 30 zero11 B2.out (by kernel_rfl) rfl (cells_one d) ?_)
      | (at_builtin; refine wpList_words (zs := zeros n) rfl _ _ rfl rfl (by rw [HZ.out]; rfl) ZW.out (by rw [HZ.out]; omega) ?_; intro a' cw w4 h4 n4 m4; have RW := Lib.hid h4; have N4 := Lib.hid n4; have M4 := Lib.hid m4; clear h4 n4 m4))
    obtain ⟨gw, rfl, WR⟩ := Ws.of_row RW.out (by rw [HZ.out]; omega)
    have hgw := N4.out gw rfl
    have m34 := M4.out
    have hi0 := row_new w4 #[.int .i64 0] 3
    have m45 : More w4 (w4.alloc (.cells #[.int .i64 0] 3)) := (More.refl _).alloc _
    have hwl := WR.lt
    have h3l := lt_of_heap AC.out
    have h4l := m34.size
    have hg3 := WZ.out.lt
    have START : Hid (PlI w (w4.alloc (.cells #[.int .i64 0] 3)) d a capl l w1.heap.size (w1.heap.size + 1) (w.heap.size + 1) n gw cw 0 (zeros n) g n w4.heap.size) := Lib.hid
      { hj := Nat.zero_le _, hi := hi0, len := HZ.out, ok := okW_zeros n, z := (WZ.out.more m34).more m45, wnt := WR.more m45, lb := m45.block (m34.block B3.out), rb := m45.block (m34.block B4.out), ab := m45.block (m34.block AC.out)
        n1 := by omega, n2 := by refine ⟨?_, ?_, ?_, ?_, ?_⟩ <;> omega, n3 := by refine ⟨?_, ?_, ?_⟩ <;> omega, more := (M3.out.trans m34).trans m45, lo := by have := M3.out.size; constructor <;> omega }
    rw [HZ.out]
    clear e3 B1 B2 B3 B4 AC WZ M3 ZW HZ HL RW N4 M4 WR hi0 m45 m34 hwl h3l h4l hg3 hgw hg1 hg2 hw1
    go_loopw [7, 9] (fun v7 v9 wr => ∃ (j : Nat) (zs : List Int) (gz cz gi : Nat), v7 = .slice (some ⟨gz, 0, none⟩) n cz ∧ v9 = .pointer (some ⟨gi, 0, none⟩) ∧ PlI w wr d a capl l w1.heap.size (w1.heap.size + 1) (w.heap.size + 1) n gw cw j zs gz cz gi) (fun _ v9 wr => l.length - (cellAt wr v9).toNat)
    case atStart => exact ⟨0, _, _, _, _, rfl, rfl, START.out⟩
    case round =>
      clear START
      obtain ⟨j, zs, gz, cz, gi, rfl, rfl, I⟩ := hrel
      have c2 := (box_cells I.ab).1
      have c3 := (box_cells I.hi).1
      have hK1 := cellAt_of c3
      have II := Lib.hid I
      have hgil := lt_of_heap I.hi
      have hjl := I.hj
      by_cases hlt : j < l.length
      · have d1 : decide ((j : Int) < (l.length : Int)) = true := by simp; omega
        obtain ⟨⟨kind, k, y⟩, hj⟩ : ∃ t, l[j]? = some t := ⟨_, List.getElem?_eq_getElem hlt⟩
        have hx : W64 k := (OP.out _ (List.mem_of_getElem? hj)).1
        have m5 : More wr (wr.alloc (.cells #[.int .i64 0] 3)) := (More.refl _).alloc _
        have hx5 := row_new wr #[.int .i64 0] 3
        have s5 : (wr.alloc (.cells #[.int .i64 0] 3)).heap.size = wr.heap.size + 1 := by simp
        have lbl := lt_of_heap I.lb
        have rbl := lt_of_heap I.rb
        have abl := lt_of_heap I.ab
        have gwl := I.wnt.lt
        have wsz := I.more.size
        have hal : ∀ b, leads a b → b ≠ wr.heap.size := fun b hb => by
          obtain ⟨s, o, rfl, hs, _⟩ := HLL.out.resolve_left (by intro q; rw [q] at hlt; simp at hlt)
          have : s = b := by simpa [leads] using hb
          omega
        have DO := plays_do SS.out.ok zs (by rw [I.len]; exact SS.out.tbl HN.out) (by rw [I.len]; omega) I.ok kind k y hx _ w1.heap.size (w.heap.size + 1) gi wr.heap.size (some ⟨gz, 0, none⟩) cz a capl l j ⟨m5.block I.lb, m5.block I.ab, m5.block I.hi, 0, hx5⟩ ((HLL.out.more I.more).more m5) (by omega) hj (by omega) (by omega) (by omega) hal (I.z.words.more m5)
        have OF := off_done (SS.out.tbl HN.out) kind k y zs I.len
        have TL := Lib.hid (fun W (hW : Ws W gw cw zs) => by have := r_told SS.out.ok zs (by rw [I.len]; exact SS.out.tbl HN.out) (by rw [I.len]; omega) gw cw kind k y hx W hW; rw [I.len] at this; exact this)
        rw [I.len] at DO
        have hok' := OF.ok I.ok
        have hln' := OF.len.trans I.len
        have HK0 := Lib.hid hK1
        generalize (doneV d.pg d.st kind k y zs).2 = zs' at DO TL hok' hln'
        generalize (doneV d.pg d.st kind k y zs).1 = ans at DO TL
        have DO := Lib.hid DO
        have HLN := Lib.hid hln'
        have HOK := Lib.hid hok'
        have MM := Lib.hid (I.more.trans m5)
        have M5 := Lib.hid m5
        have HJ := Lib.hid hj
        have S5 := Lib.hid s5
        clear OF hok' hln' I hj hx m5 hx5 s5 hal hK1
        go_wp2_with fail
        refine DO.out.mono ?_
        rintro e w6 ⟨v1, v2, rfl, hr, hx4, t6⟩
        obtain ⟨av, cv, rfl, hrd⟩ := hr.reads
        obtain ⟨gz', rfl, hb1, hb2, _⟩ := hrd 0 (by rw [HLN.out]; omega)
        have NW := Lib.hid (Ws.of_rw hr)
        rw [HLN.out]
        have hb1' : wr.heap.size + 1 ≤ gz' := by rw [← S5.out]; exact hb1
        have K6 : ∀ (b : Nat) (o : Obj), wr.heap[b]? = some o → w6.heap[b]? = some o := fun b o hb => (t6.block b (lt_of_heap (M5.out.block hb)) (by have := lt_of_heap hb; omega)).trans (M5.out.block hb)
        have lb6 := Lib.hid (K6 _ _ II.out.lb)
        have rb6 := Lib.hid (K6 _ _ II.out.rb)
        have ab6 := Lib.hid (K6 _ _ II.out.ab)
        have hi6 := Lib.hid (K6 _ _ II.out.hi)
        have wnt6 := Lib.hid ((II.out.wnt.more M5.out).keep t6 (by omega))
        have HX4 := Lib.hid hx4
        have M6 : Hid (More w w6) := Lib.hid (Turned.mono (turned_own (F := fun _ => False) MM.out t6 (fun b e => .inr (by omega))) (fun _ _ q => q))
        obtain ⟨s, o, ha, hs, hc⟩ := (HLL.out.more M6.out).resolve_left (by intro q; rw [q] at hlt; simp at hlt)
        subst ha
        obtain ⟨y0, y1, y2⟩ := hc j _ HJ.out
        simp only at y0 y1 y2
        have C3 := Lib.hid (fun W' (m : More w6 W') => And.intro (m.cell y0) (And.intro (m.cell y1) (m.cell y2)))
        have c2 := (box_cells ab6.out).1
        have c3 := (box_cells hi6.out).1
        clear hr hrd hx4 t6 K6 DO y0 y1 y2 hc hb1
        go_wp2_with fail
        refine wp_region_more_tail 6 (by kernel_rfl) (by kernel_rfl) ?_
        simp only [List.take_succ_cons, List.take_zero, List.drop_succ_cons, List.drop_zero]
        refine wpQuiet_load_row rfl 30 _ rfl _ rfl 30 _ _ _ (fun W hW => hW.block rb6.out) Try.underlying30 rfl (by kernel_rfl) ?_
        with_reducible refine wpQuiet_step (fun K hK => ?_)
        go_simp
        first
        | (refine hK _ ?_; clear hK K)
        | (apply Exists.intro
           refine ⟨fun W hW => ?_, hK _ ?_⟩
           first
           | (have c2' := hW.cell c2; have c3' := hW.cell c3; go_simp; try rfl)
           clear hK K)
        with_reducible refine wpQuiet_step (fun K hK => ?_)
        go_simp
        first
        | (refine hK _ ?_; clear hK K)
        | (apply Exists.intro
           refine ⟨fun W hW => ?_, hK _ ?_⟩
           first
           | (have c2' := hW.cell c2; have c3' := hW.cell c3; go_simp; try rfl)
           clear hK K)
        with_reducible refine wpQuiet_step (fun K hK => ?_)
        go_simp
        first
        | (refine hK _ ?_; clear hK K)
        | (apply Exists.intro
           refine ⟨fun W hW => ?_, hK _ ?_⟩
           first
           | (have c2' := hW.cell c2; have c3' := hW.cell c3; go_simp; try rfl)
           clear hK K)
        with_reducible refine wpQuiet_step (fun K hK => ?_)
        go_simp
        first
        | (refine hK _ ?_; clear hK K)
        | (apply Exists.intro
           refine ⟨fun W hW => ?_, hK _ ?_⟩
           first
           | (have c2' := hW.cell c2; have c3' := hW.cell c3; go_simp; try rfl)
           clear hK K)
        refine wpQuiet_load_three rfl 41 _ rfl s (o + j * 3) rfl _ _ _ _ (fun W hW => C3.out W hW) Try.underlying41 rfl (by kernel_rfl) ?_
        refine wpQuiet_nil ?_
        intro w7 m7
        have M7 := Lib.hid m7
        clear m7 c2 c3
        go_wp2_with fail
        refine (TL.out w7 (wnt6.out.more M7.out)).mono ?_
        rintro e w8 ⟨rfl, hw8, t8⟩
        have hlw := wnt6.out.lt
        have K8 : ∀ (b : Nat) (o : Obj), w6.heap[b]? = some o → b ≠ gw → w8.heap[b]? = some o := fun b o hb hne => (t8.block b (lt_of_heap (M7.out.block hb)) hne).trans (M7.out.block hb)
        have hN2 := II.out.n2
        have hN3 := II.out.n3
        have hLo := II.out.lo
        have lb8 := Lib.hid (K8 _ _ lb6.out (by omega))
        have rb8 := Lib.hid (K8 _ _ rb6.out (by omega))
        have ab8 := Lib.hid (K8 _ _ ab6.out (by omega))
        have hi8 := Lib.hid (K8 _ _ hi6.out (by omega))
        have x48 := Lib.hid (K8 _ _ HX4.out (by omega))
        have wnt8 := Lib.hid hw8
        have z8 := Lib.hid (((NW.out.more M7.out).keep t8 (by omega)))
        have M8 : Hid (More w w8) := Lib.hid (Turned.mono (turned_own (F := fun _ => False) (M6.out.trans M7.out) t8 (fun b e => .inr (by omega))) (fun _ _ q => q))
        have SM := rows_same zs' _ _ 0 0 w8 (by rw [HLN.out]; omega) (z8.out.rw' (Nat.zero_le _)) (wnt8.out.rw' (Nat.zero_le _))
        rw [HLN.out] at SM
        have SM := Lib.hid SM
        have c4 := (box_cells x48.out).1
        have hgi8 := lt_of_heap hi8.out
        clear hw8 t8 K8 lb6 rb6 ab6 hi6 wnt6 HX4 NW C3 TL
        go_wp2_with fail
        refine SM.out.mono ?_
        rintro e w9 ⟨rfl, m9⟩
        have lb9 := Lib.hid (m9.block lb8.out)
        have rb9 := Lib.hid (m9.block rb8.out)
        have ab9 := Lib.hid (m9.block ab8.out)
        have hi9 := Lib.hid (m9.block hi8.out)
        have wnt9 := Lib.hid (wnt8.out.more m9)
        have z9 := Lib.hid (z8.out.more m9)
        have M9 := Lib.hid (M8.out.trans m9)
        have c3 := (box_cells hi9.out).1
        have hgi9 := lt_of_heap hi9.out
        have q1 : IntKind.i64.wrap ((j : Int) + 1) = (j : Int) + 1 := wrap_in (by omega) (by omega)
        clear m9 lb8 rb8 ab8 hi8 wnt8 z8 M8 x48 c4 SM
        go_wp2_with fail
        have m10 : More w9 (w9.alloc (.cells #[.int .i64 ((j : Int) + 1)] 3)) := (More.refl _).alloc _
        have hi10 := row_new w9 #[.int .i64 ((j : Int) + 1)] 3
        have hlb := lt_of_heap lb9.out
        have hrb := lt_of_heap rb9.out
        have hab := lt_of_heap ab9.out
        have hw9 := wnt9.out.lt
        have hz9 := z9.out.lt
        have hms := M9.out.size
        refine ⟨⟨j + 1, zs', gz', cv, w9.heap.size, rfl, rfl, ?_⟩, ?_⟩
        · exact { hj := by omega, hi := by rw [hi10]; rfl, len := HLN.out, ok := HOK.out, z := z9.out.more m10, wnt := wnt9.out.more m10, lb := m10.block lb9.out, rb := m10.block rb9.out, ab := m10.block ab9.out
                  n1 := by omega, n2 := by refine ⟨?_, ?_, ?_, ?_, ?_⟩ <;> omega, n3 := hN3, more := M9.out.trans m10, lo := by constructor <;> omega }
        · rw [HK0.out, cellAt_of (z := (j : Int) + 1) (box_cells hi10).1]
          omega
      · have d1 : decide ((j : Int) < (l.length : Int)) = false := by simp; omega
        have HMF := Lib.hid I.more
        clear I II hK1
        go_wp2_with fail
        refine (lives8_ok _).mono ?_
        rintro e w8 ⟨rfl, h8⟩
        have HM8 := Lib.hid (HMF.out.trans h8)
        clear h8
        go_wp2_with fail
        go_ret
        exact ⟨rfl, HM8.out⟩
end Go.Proofs.Ytonenkgjlmcfkaa

