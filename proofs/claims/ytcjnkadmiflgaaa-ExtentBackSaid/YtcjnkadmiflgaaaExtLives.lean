/-
  The statements' example: a program that stores what Find, Take and Find answer.
-/
import Derived.Test.YtcjnkadmiflgaaaExtDone
import Derived.Test.YtcjnkadmiflgaaaBeginAt
namespace Go.Proofs.Ytcjnkadmiflgaaa
open Go.RowKit Go.Sort Go.Maps Go.Shelf
set_option linter.unusedVariables false
set_option linter.unusedSimpArgs false

def live9P (pg st : Int) : Prg (Int × Bool × Int) := bindP (efindP pg st 2 1) (fun a => bindP (etakeP pg st 0 1 3) (fun t => bindP (efindP pg st 2 2) (fun b => pureP (a, t, b))))
theorem sound_live9 (pg st : Int) : Sound (live9P pg st) := sound_bind (sound_find _ _ _ _) (fun _ => sound_bind (sound_take _ _ _ _ _) (fun _ => sound_bind (sound_find _ _ _ _) (fun _ => sound_pure _)))
theorem good_live9 {pg st : Int} {n : Nat} (H : PgIn pg st n) : Good n (fun _ => True) (live9P pg st) := good_bind (good_find H _ _) (fun _ _ => good_bind (good_take H _ _ _ (by unfold W64; omega) (by unfold W64; omega)) (fun _ _ => good_bind (good_find H _ _) (fun _ _ => good_pure n trivial)))
def BoxN (g : Nat) (w : World) (x : Int) : Prop := w.heap[g]? = some (.cells #[.int .i64 x] 3 (0, 0))
structure L9Y (c : Cfg) (g1 g2 g3 g4 : Nat) (w : World) : Prop where
  h1 : w.heap[g1]? = some (.cells c.arr 28 (0, 0))
  h2 : ∃ x, BoxN g2 w x
  h3 : ∃ x, BoxB g3 w x
  h4 : ∃ x, BoxN g4 w x
/-- A box of the program's own, written; the others stay. -/
theorem set_other {w : World} {g b : Nat} {v : Value} {o : Obj} (h : w.heap[b]? = some o) (hne : b ≠ g) : (w.setCell ⟨g, 0, none⟩ v).heap[b]? = some o :=
  ((Turned.setCell (S := fun k => k = g) (Turned.refl _ w) ⟨g, 0, none⟩ v (fun _ => rfl)).block b (lt_of_heap h) hne).trans h

set_option maxRecDepth 100000 in
set_option maxHeartbeats 2000000 in
theorem live9_clo {c : Cfg} (R : c.Ok) {n : Nat} (H : PgIn c.pg c.st n) (hn : n ≤ 10000) (F : Nat → Prop) (p g1 g2 g3 g4 : Nat) (kn : Int → Option Int) (W : World) (hv : ViewAt W F p kn []) (hk : OkK kn) (hY : L9Y c g1 g2 g3 g4 W) (n1 : ¬ F g1) (n2 : ¬ F g2) (n3 : ¬ F g3) (n4 : ¬ F g4) (hd : g1 ≠ g2 ∧ g1 ≠ g3 ∧ g1 ≠ g4 ∧ g2 ≠ g3 ∧ g2 ≠ g4 ∧ g3 ≠ g4) (a0 b0 : Int) (t0 : Bool)
    (ht : ∀ x D, live9P c.pg c.st kn [] = .ok x D → x = (a0, t0, b0)) :
    Calls Try.prog 32 #[.pointer (some ⟨p, 0, none⟩), .pointer (some ⟨g1, 0, none⟩), .pointer (some ⟨g2, 0, none⟩), .pointer (some ⟨g3, 0, none⟩), .pointer (some ⟨g4, 0, none⟩)] W (WentY W F (fun b => b = g2 ∨ b = g3 ∨ b = g4) (fun w' => L9Y c g1 g2 g3 g4 w') (fun w' => BoxN g2 w' a0 ∧ BoxB g3 w' t0 ∧ BoxN g4 w' b0) p kn (ranOf (live9P c.pg c.st kn []))) := by
  obtain ⟨Rr, hR⟩ : ∃ Rr, live9P c.pg c.st kn [] = Rr := ⟨_, rfl⟩
  rw [hR] at ht ⊢
  obtain ⟨h1, ⟨z2, h2⟩, ⟨z3, h3⟩, ⟨z4, h4⟩⟩ := hY
  have l1 := lt_of_heap h1
  have l2 := lt_of_heap h2
  have l3 := lt_of_heap h3
  have l4 := lt_of_heap h4
  have H1 := Lib.hid h1
  have HK := Lib.hid hk
  have HR := Lib.hid R
  have HH := Lib.hid H
  have HRr := Lib.hid hR
  have M0 : Hid (MidV W W F (fun b => b = g2 ∨ b = g3 ∨ b = g4) p kn n [] F) := Lib.hid (MidV.begin hv (invD_nil n))
  have B0 := Lib.hid (And.intro h2 (And.intro h3 h4))
  have nf2 : ∀ D wr {F'}, MidV W wr F (fun b => b = g2 ∨ b = g3 ∨ b = g4) p kn n D F' → ¬ F' g2 := fun D wr F' h => h.off l2 n2
  have nf3 : ∀ D wr {F'}, MidV W wr F (fun b => b = g2 ∨ b = g3 ∨ b = g4) p kn n D F' → ¬ F' g3 := fun D wr F' h => h.off l3 n3
  have nf4 : ∀ D wr {F'}, MidV W wr F (fun b => b = g2 ∨ b = g3 ∨ b = g4) p kn n D F' → ¬ F' g4 := fun D wr F' h => h.off l4 n4
  have KL : Hid (∀ wr D' F', MidV W wr F (fun b => b = g2 ∨ b = g3 ∨ b = g4) p kn n D' F' → wr.heap[g1]? = some (.cells c.arr 28 (0, 0))) := Lib.hid fun wr D' F' h => mid_own h H1.out n1 (by rintro (q | q | q); exact hd.1 q; exact hd.2.1 q; exact hd.2.2.1 q)
  have NEED : Hid (∀ a w2 {x y} {z : Bool}, Rr = .need a → DeadAt w2 p a → Turned (fun b => F b ∨ (b = g2 ∨ b = g3 ∨ b = g4)) W w2 → BoxN g2 w2 x → BoxB g3 w2 z → BoxN g4 w2 y → WentY W F (fun b => b = g2 ∨ b = g3 ∨ b = g4) (fun w' => L9Y c g1 g2 g3 g4 w') (fun w' => BoxN g2 w' a0 ∧ BoxB g3 w' t0 ∧ BoxN g4 w' b0) p kn (ranOf Rr) (.panicked (endOf p)) w2) := Lib.hid fun a w2 x y z e hd' ht' q2 q3 q4 =>
    wy_need (ranOf_need e) hd' ht' ⟨(ht'.block g1 l1 (by rintro (q | q | q | q); exact n1 q; exact hd.1 q; exact hd.2.1 q; exact hd.2.2.1 q)).trans H1.out, ⟨x, q2⟩, ⟨z, q3⟩, ⟨y, q4⟩⟩
  have HT := Lib.hid ht
  clear h1 h2 h3 h4 hv hk R H hR ht n1
  go_enter Try.func32, Try.ntmps32
  go_wp2_with (first | (refine wpList_load_row rfl 28 _ rfl _ rfl 28 _ _ _ H1.out Try.underlying28 rfl (by kernel_rfl) ?_) | (refine wpList_load_rowG rfl 28 _ rfl _ rfl 28 _ _ _ H1.out Try.underlying28 rfl (by kernel_rfl) ?_))
  refine (e_Find HR.out HH.out F p kn [] 2 1 (by unfold W64; omega) (by unfold W64; omega) W M0.out.view HK.out M0.out.inv).mono ?_
  intro e w1 he
  rcases M0.out.step (More.refl _) HK.out (good_find HH.out _ _) he with ⟨a', hE, rfl, hd', ht', hk'⟩ | ⟨x1, D1, F1, hE, rfl, M1, hq1, hk', hf'⟩
  · exact ⟨rfl, NEED.out a' w1 (HRr.out.symm.trans (bindP_need hE)) hd' ht' (hk' _ _ (nf2 _ _ M0.out) B0.out.1) (hk' _ _ (nf3 _ _ M0.out) B0.out.2.1) (hk' _ _ (nf4 _ _ M0.out) B0.out.2.2)⟩
  have B1 := Lib.hid (And.intro (hk' _ _ (nf2 _ _ M0.out) B0.out.1) (And.intro (hk' _ _ (nf3 _ _ M0.out) B0.out.2.1) (hk' _ _ (nf4 _ _ M0.out) B0.out.2.2)))
  have R1 := Lib.hid ((bindP_ok hE).symm.trans HRr.out)
  have M1 := Lib.hid M1
  clear he hE hk' hf'
  obtain ⟨c2, f2, k2⟩ := box_cells B1.out.1
  obtain ⟨w2, e2⟩ : ∃ w2, w1.setCell ⟨g2, 0, none⟩ (.int .i64 x1) = w2 := ⟨_, rfl⟩
  have M2 : Hid (MidV W w2 F (fun b => b = g2 ∨ b = g3 ∨ b = g4) p kn n D1 F1) := Lib.hid (by rw [← e2]; exact M1.out.box (fun _ => .inl rfl) (nf2 _ _ M1.out) _ B1.out.1)
  have B2 : Hid (BoxN g2 w2 x1 ∧ BoxB g3 w2 z3 ∧ BoxN g4 w2 z4) := Lib.hid (by rw [← e2]; exact ⟨setCell_one B1.out.1 _, set_other B1.out.2.1 (Ne.symm hd.2.2.2.1), set_other B1.out.2.2 (Ne.symm hd.2.2.2.2.1)⟩)
  have L2 := Lib.hid (KL.out _ _ _ M2.out)
  go_wp2_with (first | (refine wpList_load_row rfl 28 _ rfl _ rfl 28 _ _ _ L2.out Try.underlying28 rfl (by kernel_rfl) ?_) | (refine wpList_load_rowG rfl 28 _ rfl _ rfl 28 _ _ _ L2.out Try.underlying28 rfl (by kernel_rfl) ?_))
  clear c2 f2 k2
  refine (e_Take HR.out HH.out hn F1 p kn D1 0 1 3 (by unfold W64; omega) (by unfold W64; omega) (by unfold W64; omega) w2 M2.out.view HK.out M2.out.inv).mono ?_
  intro e w3 he
  rcases M2.out.step (More.refl _) HK.out (good_take HH.out _ _ _ (by unfold W64; omega) (by unfold W64; omega)) he with ⟨a', hE, rfl, hd', ht', hk'⟩ | ⟨x3, D3, F3, hE, rfl, M3, hq3, hk', hf'⟩
  · exact ⟨rfl, NEED.out a' w3 (R1.out.symm.trans (bindP_need hE)) hd' ht' (hk' _ _ (nf2 _ _ M2.out) B2.out.1) (hk' _ _ (nf3 _ _ M2.out) B2.out.2.1) (hk' _ _ (nf4 _ _ M2.out) B2.out.2.2)⟩
  have B3 := Lib.hid (And.intro (hk' _ _ (nf2 _ _ M2.out) B2.out.1) (And.intro (hk' _ _ (nf3 _ _ M2.out) B2.out.2.1) (hk' _ _ (nf4 _ _ M2.out) B2.out.2.2)))
  have R3 := Lib.hid ((bindP_ok hE).symm.trans R1.out)
  have M3 := Lib.hid M3
  clear he hE hk' hf'
  obtain ⟨c2, f2, k2⟩ := box_cells B3.out.2.1
  obtain ⟨w4, e4⟩ : ∃ w4, w3.setCell ⟨g3, 0, none⟩ (.bool x3) = w4 := ⟨_, rfl⟩
  have M4 : Hid (MidV W w4 F (fun b => b = g2 ∨ b = g3 ∨ b = g4) p kn n D3 F3) := Lib.hid (by rw [← e4]; exact M3.out.box (fun _ => .inr (.inl rfl)) (nf3 _ _ M3.out) _ B3.out.2.1)
  have B4 : Hid (BoxN g2 w4 x1 ∧ BoxB g3 w4 x3 ∧ BoxN g4 w4 z4) := Lib.hid (by rw [← e4]; exact ⟨set_other B3.out.1 hd.2.2.2.1, setCell_one B3.out.2.1 _, set_other B3.out.2.2 (Ne.symm hd.2.2.2.2.2)⟩)
  have L4 := Lib.hid (KL.out _ _ _ M4.out)
  go_wp2_with (first | (refine wpList_load_row rfl 28 _ rfl _ rfl 28 _ _ _ L4.out Try.underlying28 rfl (by kernel_rfl) ?_) | (refine wpList_load_rowG rfl 28 _ rfl _ rfl 28 _ _ _ L4.out Try.underlying28 rfl (by kernel_rfl) ?_))
  clear c2 f2 k2
  refine (e_Find HR.out HH.out F3 p kn D3 2 2 (by unfold W64; omega) (by unfold W64; omega) w4 M4.out.view HK.out M4.out.inv).mono ?_
  intro e w5 he
  rcases M4.out.step (More.refl _) HK.out (good_find HH.out _ _) he with ⟨a', hE, rfl, hd', ht', hk'⟩ | ⟨x5, D5, F5, hE, rfl, M5, hq5, hk', hf'⟩
  · exact ⟨rfl, NEED.out a' w5 (R3.out.symm.trans (bindP_need hE)) hd' ht' (hk' _ _ (nf2 _ _ M4.out) B4.out.1) (hk' _ _ (nf3 _ _ M4.out) B4.out.2.1) (hk' _ _ (nf4 _ _ M4.out) B4.out.2.2)⟩
  have B5 := Lib.hid (And.intro (hk' _ _ (nf2 _ _ M4.out) B4.out.1) (And.intro (hk' _ _ (nf3 _ _ M4.out) B4.out.2.1) (hk' _ _ (nf4 _ _ M4.out) B4.out.2.2)))
  have R5 := Lib.hid ((bindP_ok hE).symm.trans R3.out)
  have M5 := Lib.hid M5
  clear he hE hk' hf'
  obtain ⟨c2, f2, k2⟩ := box_cells B5.out.2.2
  obtain ⟨w6, e6⟩ : ∃ w6, w5.setCell ⟨g4, 0, none⟩ (.int .i64 x5) = w6 := ⟨_, rfl⟩
  have M6 : Hid (MidV W w6 F (fun b => b = g2 ∨ b = g3 ∨ b = g4) p kn n D5 F5) := Lib.hid (by rw [← e6]; exact M5.out.box (fun _ => .inr (.inr rfl)) (nf4 _ _ M5.out) _ B5.out.2.2)
  have B6 : Hid (BoxN g2 w6 x1 ∧ BoxB g3 w6 x3 ∧ BoxN g4 w6 x5) := Lib.hid (by rw [← e6]; exact ⟨set_other B5.out.1 hd.2.2.2.2.1, set_other B5.out.2.1 hd.2.2.2.2.2, setCell_one B5.out.2.2 _⟩)
  have hx := HT.out _ _ R5.out.symm
  have FN : Hid (WentY W F (fun b => b = g2 ∨ b = g3 ∨ b = g4) (fun w' => L9Y c g1 g2 g3 g4 w') (fun w' => BoxN g2 w' a0 ∧ BoxB g3 w' t0 ∧ BoxN g4 w' b0) p kn (ranOf Rr) (.returned (.tuple #[])) w6) := Lib.hid (wy_done M6.out (ranOf_ok R5.out.symm) ⟨KL.out _ _ _ M6.out, ⟨_, B6.out.1⟩, ⟨_, B6.out.2.1⟩, ⟨_, B6.out.2.2⟩⟩ (by
    simp only [Prod.mk.injEq] at hx
    obtain ⟨rfl, rfl, rfl⟩ := hx
    exact B6.out))
  clear hx
  go_wp2_with fail
  go_end0
  exact FN.out

def liveS9 : Cfg := ⟨withinV 0 1 64, withinV 0 1 8, withinV 0 1 256, withinV 0 1 64, withinV 0 0 16, withinV 0 0 64, withinV 0 1 1099511627776, withinV 0 1 8, withinV 0 0 8, withinV 0 0 16, withinV 0 1 8⟩
theorem liveS9_ok : liveS9.Ok := some_ok 0 0 0 0 0 0 0 0 0 0 0
theorem liveS9_is : smallC liveS9 = ⟨2, 2, 2, 2, 0, 0, 1, 2, 0, 0, 2⟩ := by rfl
theorem live5_pg : PgIn live5.pg live5.st 544 := { live5_tbl with top5 := by decide }
def live9D : List KV := [(5, 1), (7, 3), (12, 0), (17, 0)]
theorem live9_run : live9P live5.pg live5.st (allK (zeros 544)) [] = .ok (0, true, 2) live9D := by kernel_rfl
theorem live9_ends : ∃ K', doP (fun K => ranOf (live9P live5.pg live5.st (look K) [])) (zeros 544) ((zeros 544).length + 1) [] = some (applyD (zeros 544) live9D, K') := by
  have H : PgIn live5.pg live5.st (zeros 544).length := by rw [zeros_len]; exact live5_pg
  obtain ⟨K', _, h⟩ := doP_run (sound_live9 _ _) (good_live9 H) (okW_zeros 544) live9_run ((zeros 544).length + 1) [] (okKn_nil _) (by simp)
  exact ⟨K', h⟩
theorem live9_seven : (applyD (zeros 544) live9D).getD 7 0 = 3 := by kernel_rfl
theorem live9_len : (applyD (zeros 544) live9D).length = 544 := by rw [len_apply, zeros_len]
theorem live9_kind : pageV live5.pg live5.st 0 0 = 7 := by decide
theorem live9_do (w : World) (g1 g2 g3 g4 : Nat) (a : Option Addr) (cap : Nat) (hY : L9Y live5 g1 g2 g3 g4 w) (hd : g1 ≠ g2 ∧ g1 ≠ g3 ∧ g1 ≠ g4 ∧ g2 ≠ g3 ∧ g2 ≠ g4 ∧ g3 ≠ g4) (hz : IsWords w a (zeros 544)) :
    Calls Try.prog 8 #[.slice a 544 cap, .func (.func 32) #[] #[.pointer (some ⟨g1, 0, none⟩), .pointer (some ⟨g2, 0, none⟩), .pointer (some ⟨g3, 0, none⟩), .pointer (some ⟨g4, 0, none⟩)]] w (fun e w' => ∃ v1 v2, e = .returned (.tuple #[v1, v2, .int .i64 0]) ∧ Rw w.heap.size w' v1 (applyD (zeros 544) live9D) ∧ w'.heap[g1]? = some (.cells live5.arr 28 (0, 0)) ∧ (BoxN g2 w' 0 ∧ BoxB g3 w' true ∧ BoxN g4 w' 2) ∧ Turned (fun b => b = g2 ∨ b = g3 ∨ b = g4) w w') := by
  have hl : (zeros 544).length = 544 := zeros_len 544
  obtain ⟨K', hK'⟩ := live9_ends
  have l1 := lt_of_heap hY.h1
  have l2 : g2 < w.heap.size := by obtain ⟨x, h⟩ := hY.h2; exact lt_of_heap h
  have l3 : g3 < w.heap.size := by obtain ⟨x, h⟩ := hY.h3; exact lt_of_heap h
  have l4 : g4 < w.heap.size := by obtain ⟨x, h⟩ := hY.h4; exact lt_of_heap h
  have H : PgIn live5.pg live5.st (zeros 544).length := by rw [hl]; exact live5_pg
  have M := doY_ok a cap (zeros 544) (fun K => ranOf (live9P live5.pg live5.st (look K) [])) (some (applyD (zeros 544) live9D, K')) (zeros 544).length w hz (by omega) (okW_zeros _) (fine_of (good_live9 H) (okW_zeros _) (by omega)) (by omega) hK' 32 #[.pointer (some ⟨g1, 0, none⟩), .pointer (some ⟨g2, 0, none⟩), .pointer (some ⟨g3, 0, none⟩), .pointer (some ⟨g4, 0, none⟩)] (fun b => b = g2 ∨ b = g3 ∨ b = g4)
    (fun w' => L9Y live5 g1 g2 g3 g4 w') (fun w' => BoxN g2 w' 0 ∧ BoxB g3 w' true ∧ BoxN g4 w' 2)
    (fun k q => by rcases q with rfl | rfl | rfl; exact l2; exact l3; exact l4)
    (fun w' w'' y t => by
      obtain ⟨y1, ⟨x2, y2⟩, ⟨x3, y3⟩, ⟨x4, y4⟩⟩ := y
      exact ⟨(t.block g1 (lt_of_heap y1) (by omega)).trans y1, ⟨x2, (t.block g2 (lt_of_heap y2) (by omega)).trans y2⟩, ⟨x3, (t.block g3 (lt_of_heap y3) (by omega)).trans y3⟩, ⟨x4, (t.block g4 (lt_of_heap y4) (by omega)).trans y4⟩⟩)
    (fun w' w'' y t => ⟨(t.block g2 (lt_of_heap y.1) (by omega)).trans y.1, (t.block g3 (lt_of_heap y.2.1) (by omega)).trans y.2.1, (t.block g4 (lt_of_heap y.2.2) (by omega)).trans y.2.2⟩) hY (enters_of Try.func32 (by kernel_rfl) rfl)
    (fun K hK W F p t y hv hF => live9_clo live5_ok live5_pg (by omega) F p g1 g2 g3 g4 (look K) W hv (okK_of hK (okW_zeros _)) y (fun q => by have := hF _ q; omega) (fun q => by have := hF _ q; omega) (fun q => by have := hF _ q; omega) (fun q => by have := hF _ q; omega) hd 0 2 true
      (fun x D e => (sound_same (sound_live9 _ _) hK live9_run e).1))
  rw [hl] at M
  refine M.mono ?_
  rintro e w' ⟨v1, v2, rfl, r1, _, t, y, x⟩
  exact ⟨v1, v2, rfl, r1, y.h1, x, t⟩

set_option maxRecDepth 100000 in
set_option maxHeartbeats 2000000 in
theorem lives9_ok (w : World) : Calls Try.prog 6 #[] w (Gives w (.bool true)) := by
  have SM := Lib.hid (small_any liveS9_ok 0 0 0 0 0 0 0 0 0 0 0 _ w (fun W => some_any 0 0 0 0 0 0 0 0 0 0 0 W (by omega) (by omega) (by omega) (by omega) (by omega) (by omega) (by omega) (by omega) (by omega) (by omega) (by omega)) rfl)
  have D0 : Hid ((smallC liveS9).cells.setIfInBounds 2 (.int .i64 5) = live5.cells) := Lib.hid (by rw [liveS9_is]; rfl)
  generalize smallC liveS9 = d at SM D0
  have R5 := Lib.hid live5_ok
  have hc4 := cells_one d
  go_enter Try.func6, Try.ntmps6
  go_wp2_with fail
  refine (SM.out).mono ?_
  rintro e w1 ⟨rfl, m1⟩
  have MA := Lib.hid m1
  have hs1 := m1.size
  have C2 := row_new w1 #[.int .i64 0, .int .i64 0, .int .i64 0, .int .i64 0, .int .i64 0, .int .i64 0, .int .i64 0, .int .i64 0, .int .i64 0, .int .i64 0, .int .i64 0] 23
  clear m1 SM
  go_wp2_with (first
    | (refine wpList_store_row rfl 23 _ _ rfl w1.heap.size d.cells rfl rfl 23 _ C2 (by kernel_rfl) rfl hc4 ?_; have C3 := setRow_heap _ _ _ d.cells _ _ C2; have M5 : Hid (More w ((w1.alloc (.cells #[.int .i64 0, .int .i64 0, .int .i64 0, .int .i64 0, .int .i64 0, .int .i64 0, .int .i64 0, .int .i64 0, .int .i64 0, .int .i64 0, .int .i64 0] 23)).setRow w1.heap.size d.cells)) := Lib.hid ((MA.out.alloc _).setRow _ _ hs1); generalize World.setRow _ _ _ = w5 at C3 M5 ⊢; clear C2)
    | (refine wpList_store_int rfl 3 _ _ rfl rfl w1.heap.size 2 rfl 5 rfl _ _ C3 (by simp [Cfg.cells]) (by kernel_rfl) ?_; rw [D0.out]; intro w6 hb6 ht6; have HB := Lib.hid hb6; have HM : Hid (More w w6) := Lib.hid (Turned.mono (turned_own (F := fun _ => False) M5.out ht6 (fun k q => .inr (by omega))) (fun _ _ q => q)); clear hb6 ht6)
    | (refine wpList_load_row rfl 23 _ rfl w1.heap.size rfl 23 _ _ _ HB.out Try.underlying23 rfl (by kernel_rfl) ?_))
  refine (y_of R5.out _).mono ?_
  rintro e w7 ⟨rfl, m7⟩
  have D1 := row_new w7 zero24 28
  have D2 := setRow_heap (w7.alloc (.cells zero24 28)) w7.heap.size _ live5.arr _ _ D1
  have M7 := HM.out.trans m7
  have M8 : More w ((w7.alloc (.cells zero24 28)).setRow w7.heap.size live5.arr) := (M7.alloc _).setRow _ _ M7.size
  have s8 : ((w7.alloc (.cells zero24 28)).setRow w7.heap.size live5.arr).heap.size = w7.heap.size + 1 := by simp
  have hs7 := M7.size
  have D1 := Lib.hid D1
  obtain ⟨w8, e8⟩ : ∃ w8, (w7.alloc (.cells zero24 28)).setRow w7.heap.size live5.arr = w8 := ⟨_, rfl⟩
  rw [e8] at D2 M8 s8
  obtain ⟨w9, e9, ha, hb, m9, s9⟩ := entry2 w8 (.cells #[.int .i64 0] 3) (.cells #[.int .i64 0] 3)
  obtain ⟨ca, fa, la⟩ := box_cells ha
  obtain ⟨w10, e10⟩ : ∃ w10, w9.setCell ⟨w8.heap.size, 0, none⟩ (.int .i64 (-1)) = w10 := ⟨_, rfl⟩
  have ha10 := setCell_one ha (.int .i64 (-1))
  rw [e10] at ha10
  have hb10 := set_other (g := w8.heap.size) (v := .int .i64 (-1)) hb (by omega)
  rw [e10] at hb10
  have hd10 := set_other (g := w8.heap.size) (v := .int .i64 (-1)) (m9.block D2) (by have := lt_of_heap D2; omega)
  rw [e10] at hd10
  have t10 : Turned (fun b => b = w8.heap.size ∨ b = w8.heap.size + 1) w9 w10 := by rw [← e10]; exact Turned.setCell (Turned.refl _ w9) _ _ (fun _ => .inl rfl)
  obtain ⟨cb, fb, lb⟩ := box_cells hb10
  obtain ⟨w11, e11⟩ : ∃ w11, w10.setCell ⟨w8.heap.size + 1, 0, none⟩ (.int .i64 (-1)) = w11 := ⟨_, rfl⟩
  have hb11 := setCell_one hb10 (.int .i64 (-1))
  rw [e11] at hb11
  have ha11 := set_other (g := w8.heap.size + 1) (v := .int .i64 (-1)) ha10 (by omega)
  rw [e11] at ha11
  have hd11 := set_other (g := w8.heap.size + 1) (v := .int .i64 (-1)) hd10 (by have := lt_of_heap D2; omega)
  rw [e11] at hd11
  have t11 : Turned (fun b => b = w8.heap.size ∨ b = w8.heap.size + 1) w9 w11 := by rw [← e11]; exact Turned.setCell t10 _ _ (fun _ => .inr rfl)
  have s11 : w11.heap.size = w8.heap.size + 2 := by rw [← e11, ← e10]; simp [World.setCell, s9]
  obtain ⟨w12, e12, ht12, m12, s12⟩ := entry1 w11 (.cells #[.bool false] 4)
  rw [s11] at ht12
  obtain ⟨ct, ft, lt12⟩ := box_cells ht12
  obtain ⟨w13, e13⟩ : ∃ w13, w12.setCell ⟨w8.heap.size + 2, 0, none⟩ (.bool false) = w13 := ⟨_, rfl⟩
  have ht13 := setCell_one ht12 (.bool false)
  rw [e13] at ht13
  have ha13 := set_other (g := w8.heap.size + 2) (v := .bool false) (m12.block ha11) (by omega)
  rw [e13] at ha13
  have hb13 := set_other (g := w8.heap.size + 2) (v := .bool false) (m12.block hb11) (by omega)
  rw [e13] at hb13
  have hd13 := set_other (g := w8.heap.size + 2) (v := .bool false) (m12.block hd11) (by have := lt_of_heap D2; omega)
  rw [e13] at hd13
  have s13 : w13.heap.size = w8.heap.size + 3 := by rw [← e13]; simp [World.setCell, s12, s11]
  have M13 : Hid (More w w13) := Lib.hid (by
    have a1 := turned_own (F := fun _ => False) (M8.trans m9) t11 (fun b q => .inr (by have := M8.size; omega))
    have a2 := turned_own (F := fun _ => False) a1 m12 (fun b q => q.elim)
    have a3 : Turned (fun b => b = w8.heap.size + 2) w12 w13 := by rw [← e13]; exact Turned.setCell (Turned.refl _ w12) _ _ (fun _ => rfl)
    exact turned_own (F := fun _ => False) a2 a3 (fun b q => .inr (by have := M8.size; omega)))
  have HD := Lib.hid hd13
  have HA := Lib.hid ha13
  have HBB := Lib.hid hb13
  have HT := Lib.hid ht13
  have l7 : w7.heap.size < w8.heap.size := by omega
  clear m7 HM HB C3 M5 M7 M8 ha hb m9 ha10 hb10 hd10 t10 hb11 ha11 hd11 t11 ht12 m12 ht13 ha13 hb13 hd13 hc4 D2 s12 s9
  have S8 := Lib.hid s8
  have S13 := Lib.hid s13
  clear s8 s13
  go_wp2_with (first
    | (refine wpList_store_row rfl 28 _ _ rfl w7.heap.size live5.arr rfl rfl 28 _ D1.out (by kernel_rfl) rfl (arr_one live5) ?_)
    | (refine wpList_load_row rfl 28 _ rfl w7.heap.size rfl 28 _ _ _ HD.out Try.underlying28 rfl (by kernel_rfl) ?_))
  refine (y_words R5.out _).mono ?_
  rw [live5_words]
  rintro e w14 ⟨rfl, m14⟩
  obtain ⟨w15, hmk, N1, m15, s15⟩ : ∃ w15, (Instr.makeSlice 29 (.int .i64 544) (.int .i64 544)).run Try.prog w14 = .ok (.slice (some ⟨w14.heap.size, 0, none⟩) 544 544) w15 ∧ w15.heap[w14.heap.size]? = some (.cells (rowOf (zeros 544)) 3 (0, 0)) ∧ More w14 w15 ∧ w15.heap.size = w14.heap.size + 1 :=
    ⟨_, run_make_zeros 544 (by omega) w14, row_new w14 _ _, (More.refl _).alloc _, by simp⟩
  have mm := m14.trans m15
  have DO := Lib.hid (live9_do w15 w7.heap.size w8.heap.size (w8.heap.size + 2) (w8.heap.size + 1) (some ⟨w14.heap.size, 0, none⟩) 544 ⟨mm.block HD.out, ⟨_, mm.block HA.out⟩, ⟨_, mm.block HT.out⟩, ⟨_, mm.block HBB.out⟩⟩ ⟨by omega, by omega, by omega, by omega, by omega, by omega⟩ (zeros_row _ _ _ N1))
  have M15 := Lib.hid (M13.out.trans mm)
  have hw8 : w.heap.size ≤ w8.heap.size := by omega
  clear m14 m15 mm N1 s15 HD HA HT HBB M13 e8 e9 e10 e11 e12 e13 ca fa la cb fb lb ct ft lt12 s11 D1
  go_wp2_with fail
  refine DO.out.mono ?_
  rintro e w16 ⟨v1, v2, rfl, hr, h1, ⟨q2, q3, q4⟩, ht⟩
  obtain ⟨a, cap, rfl, hrd⟩ := hr.reads
  rw [live9_len] at hrd ⊢
  obtain ⟨gw, rfl, hb1, hb2, hcell⟩ := hrd 0 (by omega)
  have c6 := hcell 7 (by omega)
  rw [live9_seven] at c6
  have L1 := Lib.hid h1
  have ca := (box_cells q2).1
  have ct := (box_cells q3).1
  have cb := (box_cells q4).1
  have FIN := Lib.hid (Turned.mono (turned_own (F := fun _ => False) M15.out ht (fun k q => .inr (by omega))) (fun _ _ q => q))
  clear hr hrd hcell h1 q2 q3 q4 ht DO M15
  go_wp2_with (refine wpList_load_rowG rfl 28 _ rfl _ rfl 28 _ _ _ L1.out Try.underlying28 rfl (by kernel_rfl) ?_)
  refine (y_words R5.out _).mono ?_
  rw [live5_words]
  rintro e w17 ⟨rfl, m17⟩
  have L2 := Lib.hid (m17.block L1.out)
  have F17 := Lib.hid (FIN.out.trans m17)
  have c7 := m17.cell c6
  clear m17 c6 FIN ca ct cb L1
  go_wp2_with (refine wpList_load_rowG rfl 28 _ rfl _ rfl 28 _ _ _ L2.out Try.underlying28 rfl (by kernel_rfl) ?_)
  refine (y_kind R5.out _ 0).mono ?_
  rw [live9_kind]
  rintro e w18 ⟨rfl, m18⟩
  have c8 := m18.cell c7
  have F18 := Lib.hid (F17.out.trans m18)
  clear m18 c7
  go_wp2_with fail
  go_ret
  exact ⟨rfl, F18.out⟩
end Go.Proofs.Ytcjnkadmiflgaaa
