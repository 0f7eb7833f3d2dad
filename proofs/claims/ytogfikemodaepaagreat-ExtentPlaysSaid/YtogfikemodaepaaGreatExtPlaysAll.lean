/-
  The statements' example: a program that stores what Find, Take and Find answer.
-/
import Derived.Test.YtogfikemodaepaaGreatExtDone
import Derived.Test.YtogfikemodaepaaGreatBeginAt
import Derived.Test.YtogfikemodaepaaGreatExtV
import Derived.Test.YtogfikemodaepaaGreatChunkRefs
import Derived.Test.YtogfikemodaepaaGreatRegI
import Derived.Test.YtogfikemodaepaaGreatIns4
import Derived.Test.YtogfikemodaepaaGreatViewDoY
import Derived.Test.YtogfikemodaepaaGreatHead
import Derived.Test.YtogfikemodaepaaGreatViewWords
import Derived.ChangeKeysEq
namespace Go.Proofs.YtogfikemodaepaaGreat
open Go.RowKit Go.Sort Go.Maps Go.Shelf
set_option linter.unusedVariables false
set_option linter.unusedSimpArgs false

def live9P (pg st : Int) : Prg (Int × Bool × Int) := bindP (efindP pg st 2 1) (fun a => bindP (etakeP pg st 0 1 3) (fun t => bindP (efindP pg st 2 2) (fun b => pureP (a, t, b))))
theorem sound_live9 (pg st : Int) : Sound (live9P pg st) := sound_bind (sound_find _ _ _ _) (fun _ => sound_bind (sound_take _ _ _ _ _) (fun _ => sound_bind (sound_find _ _ _ _) (fun _ => sound_pure _)))
theorem good_live9 {pg st : Int} {n : Nat} (H : PgIn pg st n) : Good n (fun _ => True) (live9P pg st) := good_bind (good_find H _ _) (fun _ _ => good_bind (good_take H _ _ _ (by unfold W64; omega) (by unfold W64; omega)) (fun _ _ => good_bind (good_find H _ _) (fun _ _ => good_pure n trivial)))
def BoxN (g : Nat) (w : World) (x : Int) : Prop := w.heap[g]? = some (.cells #[.int .i64 x] 3 (0, 0))
structure L9Y (c : Cfg) (g1 g2 g3 g4 : Nat) (w : World) : Prop where
  h1 : w.heap[g1]? = some (.cells c.arr 28 (0, 0))
  h2 : ∃ x, BoxN g2 w x
  h3 : ∃ x, BoxB g3 w x
  h4 : ∃ x, BoxN g4 w x
/-- A box of the program's own, written; the others stay. -/
theorem set_other {w : World} {g b : Nat} {v : Value} {o : Obj} (h : w.heap[b]? = some o) (hne : b ≠ g) : (w.setCell ⟨g, 0, none⟩ v).heap[b]? = some o :=
  ((Turned.setCell (S := fun k => k = g) (Turned.refl _ w) ⟨g, 0, none⟩ v (fun _ => rfl)).block b (lt_of_heap h) hne).trans h

set_option maxRecDepth 100000 in
set_option maxHeartbeats 2000000 in
theorem live9_clo {c : Cfg} (R : c.Ok) {n : Nat} (H : PgIn c.pg c.st n) (hn : n ≤ 10000) (F : Nat → Prop) (p g1 g2 g3 g4 : Nat) (kn : Int → Option Int) (W : World) (hv : ViewAt W F p kn []) (hk : OkK kn) (hY : L9Y c g1 g2 g3 g4 W) (n1 : ¬ F g1) (n2 : ¬ F g2) (n3 : ¬ F g3) (n4 : ¬ F g4) (hd : g1 ≠ g2 ∧ g1 ≠ g3 ∧ g1 ≠ g4 ∧ g2 ≠ g3 ∧ g2 ≠ g4 ∧ g3 ≠ g4) (a0 b0 : Int) (t0 : Bool)
    (ht : ∀ x D, live9P c.pg c.st kn [] = .ok x D → x = (a0, t0, b0)) :
    Calls Tryz.prog 14 #[.pointer (some ⟨p, 0, none⟩), .pointer (some ⟨g1, 0, none⟩), .pointer (some ⟨g2, 0, none⟩), .pointer (some ⟨g3, 0, none⟩), .pointer (some ⟨g4, 0, none⟩)] W (WentY W F (fun b => b = g2 ∨ b = g3 ∨ b = g4) (fun w' => L9Y c g1 g2 g3 g4 w') (fun w' => BoxN g2 w' a0 ∧ BoxB g3 w' t0 ∧ BoxN g4 w' b0) p kn (ranOf (live9P c.pg c.st kn []))) := by
  obtain ⟨Rr, hR⟩ : ∃ Rr, live9P c.pg c.st kn [] = Rr := ⟨_, rfl⟩
  rw [hR] at ht ⊢
  obtain ⟨h1, ⟨z2, h2⟩, ⟨z3, h3⟩, ⟨z4, h4⟩⟩ := hY
  have l1 := lt_of_heap h1
  have l2 := lt_of_heap h2
  have l3 := lt_of_heap h3
  have l4 := lt_of_heap h4
  have H1 := Lib.hid h1
  have HK := Lib.hid hk
  have HR := Lib.hid R
  have HH := Lib.hid H
  have HRr := Lib.hid hR
  have M0 : Hid (MidV W W F (fun b => b = g2 ∨ b = g3 ∨ b = g4) p kn n [] F) := Lib.hid (MidV.begin hv (invD_nil n))
  have B0 := Lib.hid (And.intro h2 (And.intro h3 h4))
  have nf2 : ∀ D wr {F'}, MidV W wr F (fun b => b = g2 ∨ b = g3 ∨ b = g4) p kn n D F' → ¬ F' g2 := fun D wr F' h => h.off l2 n2
  have nf3 : ∀ D wr {F'}, MidV W wr F (fun b => b = g2 ∨ b = g3 ∨ b = g4) p kn n D F' → ¬ F' g3 := fun D wr F' h => h.off l3 n3
  have nf4 : ∀ D wr {F'}, MidV W wr F (fun b => b = g2 ∨ b = g3 ∨ b = g4) p kn n D F' → ¬ F' g4 := fun D wr F' h => h.off l4 n4
  have KL : Hid (∀ wr D' F', MidV W wr F (fun b => b = g2 ∨ b = g3 ∨ b = g4) p kn n D' F' → wr.heap[g1]? = some (.cells c.arr 28 (0, 0))) := Lib.hid fun wr D' F' h => mid_own h H1.out n1 (by rintro (q | q | q); exact hd.1 q; exact hd.2.1 q; exact hd.2.2.1 q)
  have NEED : Hid (∀ a w2 {x y} {z : Bool}, Rr = .need a → DeadAt w2 p a → Turned (fun b => F b ∨ (b = g2 ∨ b = g3 ∨ b = g4)) W w2 → BoxN g2 w2 x → BoxB g3 w2 z → BoxN g4 w2 y → WentY W F (fun b => b = g2 ∨ b = g3 ∨ b = g4) (fun w' => L9Y c g1 g2 g3 g4 w') (fun w' => BoxN g2 w' a0 ∧ BoxB g3 w' t0 ∧ BoxN g4 w' b0) p kn (ranOf Rr) (.panicked (endOf p)) w2) := Lib.hid fun a w2 x y z e hd' ht' q2 q3 q4 =>
    wy_need (ranOf_need e) hd' ht' ⟨(ht'.block g1 l1 (by rintro (q | q | q | q); exact n1 q; exact hd.1 q; exact hd.2.1 q; exact hd.2.2.1 q)).trans H1.out, ⟨x, q2⟩, ⟨z, q3⟩, ⟨y, q4⟩⟩
  have HT := Lib.hid ht
  clear h1 h2 h3 h4 hv hk R H hR ht n1
  go_enter Tryz.func14, Tryz.ntmps14
  go_wp2_with (first | (refine wpList_load_row rfl 28 _ rfl _ rfl 28 _ _ _ H1.out Tryz.underlying28 rfl (by kernel_rfl) ?_) | (refine wpList_load_rowG rfl 28 _ rfl _ rfl 28 _ _ _ H1.out Tryz.underlying28 rfl (by kernel_rfl) ?_))
  refine (e_Find HR.out HH.out F p kn [] 2 1 (by unfold W64; omega) (by unfold W64; omega) W M0.out.view HK.out M0.out.inv).mono ?_
  intro e w1 he
  rcases M0.out.step (More.refl _) HK.out (good_find HH.out _ _) he with ⟨a', hE, rfl, hd', ht', hk'⟩ | ⟨x1, D1, F1, hE, rfl, M1, hq1, hk', hf'⟩
  · exact ⟨rfl, NEED.out a' w1 (HRr.out.symm.trans (bindP_need hE)) hd' ht' (hk' _ _ (nf2 _ _ M0.out) B0.out.1) (hk' _ _ (nf3 _ _ M0.out) B0.out.2.1) (hk' _ _ (nf4 _ _ M0.out) B0.out.2.2)⟩
  have B1 := Lib.hid (And.intro (hk' _ _ (nf2 _ _ M0.out) B0.out.1) (And.intro (hk' _ _ (nf3 _ _ M0.out) B0.out.2.1) (hk' _ _ (nf4 _ _ M0.out) B0.out.2.2)))
  have R1 := Lib.hid ((bindP_ok hE).symm.trans HRr.out)
  have M1 := Lib.hid M1
  clear he hE hk' hf'
  obtain ⟨c2, f2, k2⟩ := box_cells B1.out.1
  obtain ⟨w2, e2⟩ : ∃ w2, w1.setCell ⟨g2, 0, none⟩ (.int .i64 x1) = w2 := ⟨_, rfl⟩
  have M2 : Hid (MidV W w2 F (fun b => b = g2 ∨ b = g3 ∨ b = g4) p kn n D1 F1) := Lib.hid (by rw [← e2]; exact M1.out.box (fun _ => .inl rfl) (nf2 _ _ M1.out) _ B1.out.1)
  have B2 : Hid (BoxN g2 w2 x1 ∧ BoxB g3 w2 z3 ∧ BoxN g4 w2 z4) := Lib.hid (by rw [← e2]; exact ⟨setCell_one B1.out.1 _, set_other B1.out.2.1 (Ne.symm hd.2.2.2.1), set_other B1.out.2.2 (Ne.symm hd.2.2.2.2.1)⟩)
  have L2 := Lib.hid (KL.out _ _ _ M2.out)
  go_wp2_with (first | (refine wpList_load_row rfl 28 _ rfl _ rfl 28 _ _ _ L2.out Tryz.underlying28 rfl (by kernel_rfl) ?_) | (refine wpList_load_rowG rfl 28 _ rfl _ rfl 28 _ _ _ L2.out Tryz.underlying28 rfl (by kernel_rfl) ?_))
  clear c2 f2 k2
  refine (e_Take HR.out HH.out hn F1 p kn D1 0 1 3 (by unfold W64; omega) (by unfold W64; omega) (by unfold W64; omega) w2 M2.out.view HK.out M2.out.inv).mono ?_
  intro e w3 he
  rcases M2.out.step (More.refl _) HK.out (good_take HH.out _ _ _ (by unfold W64; omega) (by unfold W64; omega)) he with ⟨a', hE, rfl, hd', ht', hk'⟩ | ⟨x3, D3, F3, hE, rfl, M3, hq3, hk', hf'⟩
  · exact ⟨rfl, NEED.out a' w3 (R1.out.symm.trans (bindP_need hE)) hd' ht' (hk' _ _ (nf2 _ _ M2.out) B2.out.1) (hk' _ _ (nf3 _ _ M2.out) B2.out.2.1) (hk' _ _ (nf4 _ _ M2.out) B2.out.2.2)⟩
  have B3 := Lib.hid (And.intro (hk' _ _ (nf2 _ _ M2.out) B2.out.1) (And.intro (hk' _ _ (nf3 _ _ M2.out) B2.out.2.1) (hk' _ _ (nf4 _ _ M2.out) B2.out.2.2)))
  have R3 := Lib.hid ((bindP_ok hE).symm.trans R1.out)
  have M3 := Lib.hid M3
  clear he hE hk' hf'
  obtain ⟨c2, f2, k2⟩ := box_cells B3.out.2.1
  obtain ⟨w4, e4⟩ : ∃ w4, w3.setCell ⟨g3, 0, none⟩ (.bool x3) = w4 := ⟨_, rfl⟩
  have M4 : Hid (MidV W w4 F (fun b => b = g2 ∨ b = g3 ∨ b = g4) p kn n D3 F3) := Lib.hid (by rw [← e4]; exact M3.out.box (fun _ => .inr (.inl rfl)) (nf3 _ _ M3.out) _ B3.out.2.1)
  have B4 : Hid (BoxN g2 w4 x1 ∧ BoxB g3 w4 x3 ∧ BoxN g4 w4 z4) := Lib.hid (by rw [← e4]; exact ⟨set_other B3.out.1 hd.2.2.2.1, setCell_one B3.out.2.1 _, set_other B3.out.2.2 (Ne.symm hd.2.2.2.2.2)⟩)
  have L4 := Lib.hid (KL.out _ _ _ M4.out)
  go_wp2_with (first | (refine wpList_load_row rfl 28 _ rfl _ rfl 28 _ _ _ L4.out Tryz.underlying28 rfl (by kernel_rfl) ?_) | (refine wpList_load_rowG rfl 28 _ rfl _ rfl 28 _ _ _ L4.out Tryz.underlying28 rfl (by kernel_rfl) ?_))
  clear c2 f2 k2
  refine (e_Find HR.out HH.out F3 p kn D3 2 2 (by unfold W64; omega) (by unfold W64; omega) w4 M4.out.view HK.out M4.out.inv).mono ?_
  intro e w5 he
  rcases M4.out.step (More.refl _) HK.out (good_find HH.out _ _) he with ⟨a', hE, rfl, hd', ht', hk'⟩ | ⟨x5, D5, F5, hE, rfl, M5, hq5, hk', hf'⟩
  · exact ⟨rfl, NEED.out a' w5 (R3.out.symm.trans (bindP_need hE)) hd' ht' (hk' _ _ (nf2 _ _ M4.out) B4.out.1) (hk' _ _ (nf3 _ _ M4.out) B4.out.2.1) (hk' _ _ (nf4 _ _ M4.out) B4.out.2.2)⟩
  have B5 := Lib.hid (And.intro (hk' _ _ (nf2 _ _ M4.out) B4.out.1) (And.intro (hk' _ _ (nf3 _ _ M4.out) B4.out.2.1) (hk' _ _ (nf4 _ _ M4.out) B4.out.2.2)))
  have R5 := Lib.hid ((bindP_ok hE).symm.trans R3.out)
  have M5 := Lib.hid M5
  clear he hE hk' hf'
  obtain ⟨c2, f2, k2⟩ := box_cells B5.out.2.2
  obtain ⟨w6, e6⟩ : ∃ w6, w5.setCell ⟨g4, 0, none⟩ (.int .i64 x5) = w6 := ⟨_, rfl⟩
  have M6 : Hid (MidV W w6 F (fun b => b = g2 ∨ b = g3 ∨ b = g4) p kn n D5 F5) := Lib.hid (by rw [← e6]; exact M5.out.box (fun _ => .inr (.inr rfl)) (nf4 _ _ M5.out) _ B5.out.2.2)
  have B6 : Hid (BoxN g2 w6 x1 ∧ BoxB g3 w6 x3 ∧ BoxN g4 w6 x5) := Lib.hid (by rw [← e6]; exact ⟨set_other B5.out.1 hd.2.2.2.2.1, set_other B5.out.2.1 hd.2.2.2.2.2, setCell_one B5.out.2.2 _⟩)
  have hx := HT.out _ _ R5.out.symm
  have FN : Hid (WentY W F (fun b => b = g2 ∨ b = g3 ∨ b = g4) (fun w' => L9Y c g1 g2 g3 g4 w') (fun w' => BoxN g2 w' a0 ∧ BoxB g3 w' t0 ∧ BoxN g4 w' b0) p kn (ranOf Rr) (.returned (.tuple #[])) w6) := Lib.hid (wy_done M6.out (ranOf_ok R5.out.symm) ⟨KL.out _ _ _ M6.out, ⟨_, B6.out.1⟩, ⟨_, B6.out.2.1⟩, ⟨_, B6.out.2.2⟩⟩ (by
    simp only [Prod.mk.injEq] at hx
    obtain ⟨rfl, rfl, rfl⟩ := hx
    exact B6.out))
  clear hx
  go_wp2_with fail
  go_end0
  exact FN.out

def liveS9 : Cfg := ⟨withinV 0 1 64, withinV 0 1 8, withinV 0 1 256, withinV 0 1 64, withinV 0 0 16, withinV 0 0 64, withinV 0 1 1099511627776, withinV 0 1 8, withinV 0 0 8, withinV 0 0 16, withinV 0 1 8⟩
theorem liveS9_ok : liveS9.Ok := some_ok 0 0 0 0 0 0 0 0 0 0 0
theorem liveS9_is : smallC liveS9 = ⟨2, 2, 2, 2, 0, 0, 1, 2, 0, 0, 2⟩ := by rfl
theorem live5_pg : PgIn live5.pg live5.st 544 := { live5_tbl with top5 := by decide }
def live9D : List KV := [(5, 1), (7, 3), (12, 0), (17, 0)]
theorem live9_run : live9P live5.pg live5.st (allK (zeros 544)) [] = .ok (0, true, 2) live9D := by kernel_rfl
theorem live9_ends : ∃ K', doP (fun K => ranOf (live9P live5.pg live5.st (look K) [])) (zeros 544) ((zeros 544).length + 1) [] = some (applyD (zeros 544) live9D, K') := by
  have H : PgIn live5.pg live5.st (zeros 544).length := by rw [zeros_len]; exact live5_pg
  obtain ⟨K', _, h⟩ := doP_run (sound_live9 _ _) (good_live9 H) (okW_zeros 544) live9_run ((zeros 544).length + 1) [] (okKn_nil _) (by simp)
  exact ⟨K', h⟩
theorem live9_seven : (applyD (zeros 544) live9D).getD 7 0 = 3 := by kernel_rfl
theorem live9_len : (applyD (zeros 544) live9D).length = 544 := by rw [len_apply, zeros_len]
theorem live9_kind : pageV live5.pg live5.st 0 0 = 7 := by decide
theorem live9_do (w : World) (g1 g2 g3 g4 : Nat) (a : Option Addr) (cap : Nat) (hY : L9Y live5 g1 g2 g3 g4 w) (hd : g1 ≠ g2 ∧ g1 ≠ g3 ∧ g1 ≠ g4 ∧ g2 ≠ g3 ∧ g2 ≠ g4 ∧ g3 ≠ g4) (hz : IsWords w a (zeros 544)) :
    Calls Tryz.prog 6 #[.slice a 544 cap, .func (.func 14) #[] #[.pointer (some ⟨g1, 0, none⟩), .pointer (some ⟨g2, 0, none⟩), .pointer (some ⟨g3, 0, none⟩), .pointer (some ⟨g4, 0, none⟩)]] w (fun e w' => ∃ v1 v2, e = .returned (.tuple #[v1, v2, .int .i64 0]) ∧ Rw w.heap.size w' v1 (applyD (zeros 544) live9D) ∧ w'.heap[g1]? = some (.cells live5.arr 28 (0, 0)) ∧ (BoxN g2 w' 0 ∧ BoxB g3 w' true ∧ BoxN g4 w' 2) ∧ Turned (fun b => b = g2 ∨ b = g3 ∨ b = g4) w w') := by
  have hl : (zeros 544).length = 544 := zeros_len 544
  obtain ⟨K', hK'⟩ := live9_ends
  have l1 := lt_of_heap hY.h1
  have l2 : g2 < w.heap.size := by obtain ⟨x, h⟩ := hY.h2; exact lt_of_heap h
  have l3 : g3 < w.heap.size := by obtain ⟨x, h⟩ := hY.h3; exact lt_of_heap h
  have l4 : g4 < w.heap.size := by obtain ⟨x, h⟩ := hY.h4; exact lt_of_heap h
  have H : PgIn live5.pg live5.st (zeros 544).length := by rw [hl]; exact live5_pg
  have M := doY_ok a cap (zeros 544) (fun K => ranOf (live9P live5.pg live5.st (look K) [])) (some (applyD (zeros 544) live9D, K')) (zeros 544).length w hz (by omega) (okW_zeros _) (fine_of (good_live9 H) (okW_zeros _) (by omega)) (by omega) hK' 14 #[.pointer (some ⟨g1, 0, none⟩), .pointer (some ⟨g2, 0, none⟩), .pointer (some ⟨g3, 0, none⟩), .pointer (some ⟨g4, 0, none⟩)] (fun b => b = g2 ∨ b = g3 ∨ b = g4)
    (fun w' => L9Y live5 g1 g2 g3 g4 w') (fun w' => BoxN g2 w' 0 ∧ BoxB g3 w' true ∧ BoxN g4 w' 2)
    (fun k q => by rcases q with rfl | rfl | rfl; exact l2; exact l3; exact l4)
    (fun w' w'' y t => by
      obtain ⟨y1, ⟨x2, y2⟩, ⟨x3, y3⟩, ⟨x4, y4⟩⟩ := y
      exact ⟨(t.block g1 (lt_of_heap y1) (by omega)).trans y1, ⟨x2, (t.block g2 (lt_of_heap y2) (by omega)).trans y2⟩, ⟨x3, (t.block g3 (lt_of_heap y3) (by omega)).trans y3⟩, ⟨x4, (t.block g4 (lt_of_heap y4) (by omega)).trans y4⟩⟩)
    (fun w' w'' y t => ⟨(t.block g2 (lt_of_heap y.1) (by omega)).trans y.1, (t.block g3 (lt_of_heap y.2.1) (by omega)).trans y.2.1, (t.block g4 (lt_of_heap y.2.2) (by omega)).trans y.2.2⟩) hY (enters_of Tryz.func14 (by kernel_rfl) rfl)
    (fun K hK W F p t y hv hF => live9_clo live5_ok live5_pg (by omega) F p g1 g2 g3 g4 (look K) W hv (okK_of hK (okW_zeros _)) y (fun q => by have := hF _ q; omega) (fun q => by have := hF _ q; omega) (fun q => by have := hF _ q; omega) (fun q => by have := hF _ q; omega) hd 0 2 true
      (fun x D e => (sound_same (sound_live9 _ _) hK live9_run e).1))
  rw [hl] at M
  refine M.mono ?_
  rintro e w' ⟨v1, v2, rfl, r1, _, t, y, x⟩
  exact ⟨v1, v2, rfl, r1, y.h1, x, t⟩

set_option maxRecDepth 100000 in
set_option maxHeartbeats 2000000 in
theorem lives9_ok (w : World) : Calls Tryz.prog 4 #[] w (Gives w (.bool true)) := by
  have SM := Lib.hid (small_any liveS9_ok 0 0 0 0 0 0 0 0 0 0 0 _ w (fun W => some_any 0 0 0 0 0 0 0 0 0 0 0 W (by omega) (by omega) (by omega) (by omega) (by omega) (by omega) (by omega) (by omega) (by omega) (by omega) (by omega)) rfl)
  have D0 : Hid ((smallC liveS9).cells.setIfInBounds 2 (.int .i64 5) = live5.cells) := Lib.hid (by rw [liveS9_is]; rfl)
  generalize smallC liveS9 = d at SM D0
  have R5 := Lib.hid live5_ok
  have hc4 := cells_one d
  go_enter Tryz.func4, Tryz.ntmps4
  go_wp2_with fail
  refine (SM.out).mono ?_
  rintro e w1 ⟨rfl, m1⟩
  have MA := Lib.hid m1
  have hs1 := m1.size
  have C2 := row_new w1 #[.int .i64 0, .int .i64 0, .int .i64 0, .int .i64 0, .int .i64 0, .int .i64 0, .int .i64 0, .int .i64 0, .int .i64 0, .int .i64 0, .int .i64 0] 23
  clear m1 SM
  go_wp2_with (first
    | (refine wpList_store_row rfl 23 _ _ rfl w1.heap.size d.cells rfl rfl 23 _ C2 (by kernel_rfl) rfl hc4 ?_; have C3 := setRow_heap _ _ _ d.cells _ _ C2; have M5 : Hid (More w ((w1.alloc (.cells #[.int .i64 0, .int .i64 0, .int .i64 0, .int .i64 0, .int .i64 0, .int .i64 0, .int .i64 0, .int .i64 0, .int .i64 0, .int .i64 0, .int .i64 0] 23)).setRow w1.heap.size d.cells)) := Lib.hid ((MA.out.alloc _).setRow _ _ hs1); generalize World.setRow _ _ _ = w5 at C3 M5 ⊢; clear C2)
    | (refine wpList_store_int rfl 3 _ _ rfl rfl w1.heap.size 2 rfl 5 rfl _ _ C3 (by simp [Cfg.cells]) (by kernel_rfl) ?_; rw [D0.out]; intro w6 hb6 ht6; have HB := Lib.hid hb6; have HM : Hid (More w w6) := Lib.hid (Turned.mono (turned_own (F := fun _ => False) M5.out ht6 (fun k q => .inr (by omega))) (fun _ _ q => q)); clear hb6 ht6)
    | (refine wpList_load_row rfl 23 _ rfl w1.heap.size rfl 23 _ _ _ HB.out Tryz.underlying23 rfl (by kernel_rfl) ?_))
  refine (y_of R5.out _).mono ?_
  rintro e w7 ⟨rfl, m7⟩
  have D1 := row_new w7 zero24 28
  have D2 := setRow_heap (w7.alloc (.cells zero24 28)) w7.heap.size _ live5.arr _ _ D1
  have M7 := HM.out.trans m7
  have M8 : More w ((w7.alloc (.cells zero24 28)).setRow w7.heap.size live5.arr) := (M7.alloc _).setRow _ _ M7.size
  have s8 : ((w7.alloc (.cells zero24 28)).setRow w7.heap.size live5.arr).heap.size = w7.heap.size + 1 := by simp
  have hs7 := M7.size
  have D1 := Lib.hid D1
  obtain ⟨w8, e8⟩ : ∃ w8, (w7.alloc (.cells zero24 28)).setRow w7.heap.size live5.arr = w8 := ⟨_, rfl⟩
  rw [e8] at D2 M8 s8
  obtain ⟨w9, e9, ha, hb, m9, s9⟩ := entry2 w8 (.cells #[.int .i64 0] 3) (.cells #[.int .i64 0] 3)
  obtain ⟨ca, fa, la⟩ := box_cells ha
  obtain ⟨w10, e10⟩ : ∃ w10, w9.setCell ⟨w8.heap.size, 0, none⟩ (.int .i64 (-1)) = w10 := ⟨_, rfl⟩
  have ha10 := setCell_one ha (.int .i64 (-1))
  rw [e10] at ha10
  have hb10 := set_other (g := w8.heap.size) (v := .int .i64 (-1)) hb (by omega)
  rw [e10] at hb10
  have hd10 := set_other (g := w8.heap.size) (v := .int .i64 (-1)) (m9.block D2) (by have := lt_of_heap D2; omega)
  rw [e10] at hd10
  have t10 : Turned (fun b => b = w8.heap.size ∨ b = w8.heap.size + 1) w9 w10 := by rw [← e10]; exact Turned.setCell (Turned.refl _ w9) _ _ (fun _ => .inl rfl)
  obtain ⟨cb, fb, lb⟩ := box_cells hb10
  obtain ⟨w11, e11⟩ : ∃ w11, w10.setCell ⟨w8.heap.size + 1, 0, none⟩ (.int .i64 (-1)) = w11 := ⟨_, rfl⟩
  have hb11 := setCell_one hb10 (.int .i64 (-1))
  rw [e11] at hb11
  have ha11 := set_other (g := w8.heap.size + 1) (v := .int .i64 (-1)) ha10 (by omega)
  rw [e11] at ha11
  have hd11 := set_other (g := w8.heap.size + 1) (v := .int .i64 (-1)) hd10 (by have := lt_of_heap D2; omega)
  rw [e11] at hd11
  have t11 : Turned (fun b => b = w8.heap.size ∨ b = w8.heap.size + 1) w9 w11 := by rw [← e11]; exact Turned.setCell t10 _ _ (fun _ => .inr rfl)
  have s11 : w11.heap.size = w8.heap.size + 2 := by rw [← e11, ← e10]; simp [World.setCell, s9]
  obtain ⟨w12, e12, ht12, m12, s12⟩ := entry1 w11 (.cells #[.bool false] 4)
  rw [s11] at ht12
  obtain ⟨ct, ft, lt12⟩ := box_cells ht12
  obtain ⟨w13, e13⟩ : ∃ w13, w12.setCell ⟨w8.heap.size + 2, 0, none⟩ (.bool false) = w13 := ⟨_, rfl⟩
  have ht13 := setCell_one ht12 (.bool false)
  rw [e13] at ht13
  have ha13 := set_other (g := w8.heap.size + 2) (v := .bool false) (m12.block ha11) (by omega)
  rw [e13] at ha13
  have hb13 := set_other (g := w8.heap.size + 2) (v := .bool false) (m12.block hb11) (by omega)
  rw [e13] at hb13
  have hd13 := set_other (g := w8.heap.size + 2) (v := .bool false) (m12.block hd11) (by have := lt_of_heap D2; omega)
  rw [e13] at hd13
  have s13 : w13.heap.size = w8.heap.size + 3 := by rw [← e13]; simp [World.setCell, s12, s11]
  have M13 : Hid (More w w13) := Lib.hid (by
    have a1 := turned_own (F := fun _ => False) (M8.trans m9) t11 (fun b q => .inr (by have := M8.size; omega))
    have a2 := turned_own (F := fun _ => False) a1 m12 (fun b q => q.elim)
    have a3 : Turned (fun b => b = w8.heap.size + 2) w12 w13 := by rw [← e13]; exact Turned.setCell (Turned.refl _ w12) _ _ (fun _ => rfl)
    exact turned_own (F := fun _ => False) a2 a3 (fun b q => .inr (by have := M8.size; omega)))
  have HD := Lib.hid hd13
  have HA := Lib.hid ha13
  have HBB := Lib.hid hb13
  have HT := Lib.hid ht13
  have l7 : w7.heap.size < w8.heap.size := by omega
  clear m7 HM HB C3 M5 M7 M8 ha hb m9 ha10 hb10 hd10 t10 hb11 ha11 hd11 t11 ht12 m12 ht13 ha13 hb13 hd13 hc4 D2 s12 s9
  have S8 := Lib.hid s8
  have S13 := Lib.hid s13
  clear s8 s13
  go_wp2_with (first
    | (refine wpList_store_row rfl 28 _ _ rfl w7.heap.size live5.arr rfl rfl 28 _ D1.out (by kernel_rfl) rfl (arr_one live5) ?_)
    | (refine wpList_load_row rfl 28 _ rfl w7.heap.size rfl 28 _ _ _ HD.out Tryz.underlying28 rfl (by kernel_rfl) ?_))
  refine (y_words R5.out _).mono ?_
  rw [live5_words]
  rintro e w14 ⟨rfl, m14⟩
  obtain ⟨w15, hmk, N1, m15, s15⟩ : ∃ w15, (Instr.makeSlice 31 (.int .i64 544) (.int .i64 544)).run Tryz.prog w14 = .ok (.slice (some ⟨w14.heap.size, 0, none⟩) 544 544) w15 ∧ w15.heap[w14.heap.size]? = some (.cells (rowOf (zeros 544)) 3 (0, 0)) ∧ More w14 w15 ∧ w15.heap.size = w14.heap.size + 1 :=
    ⟨_, run_make_zeros 544 (by omega) w14, row_new w14 _ _, (More.refl _).alloc _, by simp⟩
  have mm := m14.trans m15
  have DO := Lib.hid (live9_do w15 w7.heap.size w8.heap.size (w8.heap.size + 2) (w8.heap.size + 1) (some ⟨w14.heap.size, 0, none⟩) 544 ⟨mm.block HD.out, ⟨_, mm.block HA.out⟩, ⟨_, mm.block HT.out⟩, ⟨_, mm.block HBB.out⟩⟩ ⟨by omega, by omega, by omega, by omega, by omega, by omega⟩ (zeros_row _ _ _ N1))
  have M15 := Lib.hid (M13.out.trans mm)
  have hw8 : w.heap.size ≤ w8.heap.size := by omega
  clear m14 m15 mm N1 s15 HD HA HT HBB M13 e8 e9 e10 e11 e12 e13 ca fa la cb fb lb ct ft lt12 s11 D1
  go_wp2_with fail
  refine DO.out.mono ?_
  rintro e w16 ⟨v1, v2, rfl, hr, h1, ⟨q2, q3, q4⟩, ht⟩
  obtain ⟨a, cap, rfl, hrd⟩ := hr.reads
  rw [live9_len] at hrd ⊢
  obtain ⟨gw, rfl, hb1, hb2, hcell⟩ := hrd 0 (by omega)
  have c6 := hcell 7 (by omega)
  rw [live9_seven] at c6
  have L1 := Lib.hid h1
  have ca := (box_cells q2).1
  have ct := (box_cells q3).1
  have cb := (box_cells q4).1
  have FIN := Lib.hid (Turned.mono (turned_own (F := fun _ => False) M15.out ht (fun k q => .inr (by omega))) (fun _ _ q => q))
  clear hr hrd hcell h1 q2 q3 q4 ht DO M15
  go_wp2_with (refine wpList_load_rowG rfl 28 _ rfl _ rfl 28 _ _ _ L1.out Tryz.underlying28 rfl (by kernel_rfl) ?_)
  refine (y_words R5.out _).mono ?_
  rw [live5_words]
  rintro e w17 ⟨rfl, m17⟩
  have L2 := Lib.hid (m17.block L1.out)
  have F17 := Lib.hid (FIN.out.trans m17)
  have c7 := m17.cell c6
  clear m17 c6 FIN ca ct cb L1
  go_wp2_with (refine wpList_load_rowG rfl 28 _ rfl _ rfl 28 _ _ _ L2.out Tryz.underlying28 rfl (by kernel_rfl) ?_)
  refine (y_kind R5.out _ 0).mono ?_
  rw [live9_kind]
  rintro e w18 ⟨rfl, m18⟩
  have c8 := m18.cell c7
  have F18 := Lib.hid (F17.out.trans m18)
  clear m18 c7
  go_wp2_with fail
  go_ret
  exact ⟨rfl, F18.out⟩
end Go.Proofs.YtogfikemodaepaaGreat

namespace Go.Proofs.YtogfikemodaepaaGreat
open Go.RowKit Go.Sort Go.Maps Go.Shelf
set_option linter.unusedVariables false
set_option linter.unusedSimpArgs false
set_option linter.unusedSectionVars false

/-- Are so many pages free (and mapped, if that is asked)? -/
def opN (pg st : Int) (ws : List Int) (mp : Bool) : Nat → Int → Bool
  | 0, _ => true
  | m + 1, q => (decide (kindV pg st ws q = 0) && (!mp || mappedV pg st ws (ofV q))) && opN pg st ws mp m (q + 1)
def opV (pg st : Int) (ws : List Int) (p n : Int) (mp : Bool) : Bool := thereB pg p n && opN pg st ws mp n.toNat p
theorem opN_iff (pg st : Int) (ws : List Int) (mp : Bool) (m : Nat) : ∀ q : Int, opN pg st ws mp m q = true ↔ ∀ i : Int, q ≤ i → i < q + m → kindV pg st ws i = 0 ∧ (mp = true → mappedV pg st ws (ofV i) = true) := by
  induction m with
  | zero => intro q; exact ⟨fun _ i h0 h1 => by omega, fun _ => rfl⟩
  | succ m ih =>
    intro q
    show ((decide (kindV pg st ws q = 0) && (!mp || mappedV pg st ws (ofV q))) && opN pg st ws mp m (q + 1)) = true ↔ _
    rw [Bool.and_eq_true, Bool.and_eq_true, ih]
    constructor
    · rintro ⟨⟨h0, h1⟩, h2⟩ i hi hl
      by_cases e : i = q
      · subst e
        refine ⟨by simpa using h0, fun hm => ?_⟩
        rw [hm] at h1; simpa using h1
      · exact h2 i (by omega) (by omega)
    · intro h
      obtain ⟨a, b⟩ := h q (by omega) (by omega)
      refine ⟨⟨by simpa using a, ?_⟩, fun i hi hl => h i (by omega) (by omega)⟩
      cases mp with
      | false => rfl
      | true => simpa using b rfl
theorem opV_vac (pg st : Int) (ws : List Int) (p n : Int) : opV pg st ws p n false = vacB pg st p n ws := by
  have h : opV pg st ws p n false = true ↔ vacB pg st p n ws = true := by
    rw [vacB_iff]
    unfold opV
    rw [Bool.and_eq_true, opN_iff]
    constructor
    · rintro ⟨ht, h⟩
      obtain ⟨t0, t1, t2⟩ := there_iff.1 ht
      exact ⟨ht, fun i h0 h1 => (h i h0 (by omega)).1⟩
    · rintro ⟨ht, h⟩
      obtain ⟨t0, t1, t2⟩ := there_iff.1 ht
      exact ⟨ht, fun i h0 h1 => ⟨h i h0 (by omega), fun e => by cases e⟩⟩
  cases e : opV pg st ws p n false with
  | true => exact (h.1 e).symm
  | false =>
    cases e2 : vacB pg st p n ws with
    | false => rfl
    | true => rw [h.2 e2] at e; cases e
/-- What a step of looking through says. -/
def HitsR (f : Int → Bool) (pg m q : Int) : Prop := q ≤ pg - m ∧ ∀ i, q ≤ i → i < q + m → f i = true
theorem scan_noneR {f : Int → Bool} (m : Nat) : ∀ q : Int, scanV f m q = none → ∀ i, q ≤ i → i < q + m → f i = true := by
  induction m with
  | zero => intro q _ i h0 h1; omega
  | succ m ih =>
    intro q h i h0 h1
    have h : (if f q then scanV f m (q + 1) else some q) = none := h
    by_cases e : f q = true
    · rw [if_pos e] at h
      by_cases ei : i = q
      · rw [ei]; exact e
      · exact ih (q + 1) h i (by omega) (by omega)
    · rw [if_neg e] at h; cases h
theorem scan_someR {f : Int → Bool} (m : Nat) : ∀ q x : Int, scanV f m q = some x → q ≤ x ∧ x < q + m ∧ f x = false := by
  induction m with
  | zero => intro q x h; cases h
  | succ m ih =>
    intro q x h
    have h : (if f q then scanV f m (q + 1) else some q) = some x := h
    by_cases e : f q = true
    · rw [if_pos e] at h
      obtain ⟨a, b, c⟩ := ih (q + 1) x h
      exact ⟨by omega, by omega, c⟩
    · rw [if_neg e] at h
      cases h
      exact ⟨by omega, by omega, by simpa using e⟩
theorem seek_specR {f : Int → Bool} {pg m step : Int} (h1 : 1 ≤ m) (h2 : 1 ≤ step) (j : Nat) : ∀ p d : Int, p = d * step → 0 ≤ p → pg < p + j →
    (seekV f pg m step j p = -1 ∧ ∀ k : Int, p ≤ k * step → ¬ HitsR f pg m (k * step)) ∨ ∃ k : Int, seekV f pg m step j p = k * step ∧ p ≤ k * step ∧ HitsR f pg m (k * step) ∧ ∀ l : Int, p ≤ l * step → l * step < k * step → ¬ HitsR f pg m (l * step) := by
  induction j with
  | zero => intro p d hp h0 hj; exact .inl ⟨rfl, fun k hk hh => by have := hh.1; omega⟩
  | succ j ih =>
    intro p d hp h0 hj
    unfold seekV
    by_cases e : p ≤ pg - m
    · rw [if_pos e]
      cases hs : scanV f m.toNat p with
      | none =>
        have := scan_noneR _ _ hs
        exact .inr ⟨d, hp, by omega, ⟨by omega, fun i a b => this i (by omega) (by omega)⟩, fun l a b => by omega⟩
      | some q =>
        obtain ⟨s0, s1, s2⟩ := scan_someR _ _ _ hs
        have q0 : q / step * step ≤ q := Int.ediv_mul_le q (by omega)
        have q1 : q < (q / step + 1) * step := Int.lt_ediv_add_one_mul_self q (by omega)
        have skip : ∀ l : Int, p ≤ l * step → l * step < (q / step + 1) * step → ¬ HitsR f pg m (l * step) := fun l a b hh => by
          have hl : l < q / step + 1 := Int.lt_of_mul_lt_mul_right b (by omega)
          have hl2 : l * step ≤ q / step * step := Int.mul_le_mul_of_nonneg_right (by omega) (by omega)
          have := hh.2 q (by omega) (by omega)
          rw [s2] at this; cases this
        rcases ih ((q / step + 1) * step) (q / step + 1) rfl (by omega) (by omega) with ⟨a, b⟩ | ⟨k, a, b, c, d'⟩
        · refine .inl ⟨a, fun k hk => ?_⟩
          rcases Int.lt_or_le (k * step) ((q / step + 1) * step) with z | z
          · exact skip k hk z
          · exact b k z
        · refine .inr ⟨k, a, by omega, c, fun l hl hl2 => ?_⟩
          rcases Int.lt_or_le (l * step) ((q / step + 1) * step) with z | z
          · exact skip l hl z
          · exact d' l z hl2
    · rw [if_neg e]
      exact .inl ⟨rfl, fun k hk hh => by have := hh.1; omega⟩
theorem least_one {f : Int → Bool} {pg m step : Int} (h1 : 1 ≤ m) (h2 : 1 ≤ step) (hpg : 0 ≤ pg) {k : Int} (h0 : 0 ≤ k * step) (hk : HitsR f pg m (k * step)) (hl : ∀ l : Int, 0 ≤ l * step → l * step < k * step → ¬ HitsR f pg m (l * step)) : leastV f pg m step = k * step := by
  rcases seek_specR (f := f) (pg := pg) h1 h2 (pg.toNat + 1) 0 0 (by omega) (by omega) (by omega) with ⟨_, h⟩ | ⟨k', e, p0, hh, hm⟩
  · exact absurd hk (h k h0)
  · unfold leastV
    rw [e]
    rcases Int.lt_trichotomy (k' * step) (k * step) with c | c | c
    · exact absurd hh (hl k' p0 c)
    · exact c
    · exact absurd hk (hm k h0 c)
theorem least_no {f : Int → Bool} {pg m step : Int} (h1 : 1 ≤ m) (h2 : 1 ≤ step) (hpg : 0 ≤ pg) (hl : ∀ l : Int, 0 ≤ l * step → ¬ HitsR f pg m (l * step)) : leastV f pg m step = -1 := by
  rcases seek_specR (f := f) (pg := pg) h1 h2 (pg.toNat + 1) 0 0 (by omega) (by omega) (by omega) with ⟨e, _⟩ | ⟨k', e, p0, hh, hm⟩
  · exact e
  · exact absurd hh (hl k' p0)
theorem op_hits {pg st : Int} {ws : List Int} {p n : Int} (h0 : 0 ≤ p) (h1 : 1 ≤ n) (mp : Bool) : opV pg st ws p n mp = true ↔ HitsR (if mp then openB pg st ws else freeB pg st ws) pg n p := by
  unfold opV HitsR
  rw [Bool.and_eq_true, there_iff, opN_iff]
  constructor
  · rintro ⟨⟨_, _, t2⟩, h⟩
    refine ⟨by omega, fun i a b => ?_⟩
    obtain ⟨k0, km⟩ := h i a (by omega)
    cases mp with
    | false => show freeB pg st ws i = true; unfold freeB; simp [k0]
    | true => show openB pg st ws i = true; unfold openB; rw [km rfl]; simp [k0]
  · rintro ⟨t, h⟩
    refine ⟨⟨h0, h1, by omega⟩, fun i a b => ?_⟩
    have := h i a (by omega)
    cases mp with
    | false =>
      have : freeB pg st ws i = true := this
      unfold freeB at this
      exact ⟨by simpa using this, fun e => by cases e⟩
    | true =>
      have : openB pg st ws i = true := this
      unfold openB at this
      rw [Bool.and_eq_true] at this
      exact ⟨by simpa using this.2, fun _ => this.1⟩
/-- The first such page, as the document looks for it. -/
theorem find_first {pg st : Int} {ws : List Int} {n step : Int} (h1 : 1 ≤ n) (h2 : 1 ≤ step) (hpg : 0 ≤ pg) {p : Int} (p0 : 0 ≤ p) (pm : p % step = 0) (mp : Bool) (ho : opV pg st ws p n mp = true) (hb : ∀ q, 0 ≤ q → q < p → q % step = 0 → opV pg st ws q n mp = false) : leastV (if mp then openB pg st ws else freeB pg st ws) pg n step = p := by
  have e : p = p / step * step := by have := Int.mul_ediv_add_emod p step; rw [pm] at this; rw [Int.mul_comm]; omega
  rw [e]
  refine least_one h1 h2 hpg (by rw [← e]; exact p0) (by rw [← e]; exact (op_hits p0 h1 mp).1 ho) (fun l l0 ll hh => ?_)
  rw [← e] at ll
  have := hb (l * step) l0 ll (Int.mul_emod_left l step)
  rw [(op_hits l0 h1 mp).2 hh] at this
  cases this
theorem find_none {pg st : Int} {ws : List Int} {n step : Int} (h1 : 1 ≤ n) (h2 : 1 ≤ step) (hpg : 0 ≤ pg) (mp : Bool) (hb : ∀ q, 0 ≤ q → q < pg → q % step = 0 → opV pg st ws q n mp = false) : leastV (if mp then openB pg st ws else freeB pg st ws) pg n step = -1 := by
  refine least_no h1 h2 hpg (fun l l0 hh => ?_)
  have := hb (l * step) l0 (by have := hh.1; omega) (Int.mul_emod_left l step)
  rw [(op_hits l0 h1 mp).2 hh] at this
  cases this
section
variable {pg st : Int} {n : Nat} (H : PgIn pg st n)
include H
theorem page_apart {p q : Int} (hp : isPage pg p = true) (hq : isPage pg q = true) (h : p ≠ q) : kA pg st p ≠ kA pg st q ∧ cA pg st p ≠ cA pg st q ∧ bA pg st p ≠ bA pg st q ∧ kA pg st p ≠ cA pg st q ∧ kA pg st p ≠ bA pg st q ∧ cA pg st p ≠ kA pg st q ∧ cA pg st p ≠ bA pg st q ∧ bA pg st p ≠ kA pg st q ∧ bA pg st p ≠ cA pg st q := by
  have := isPage_iff.1 hp
  have := isPage_iff.1 hq
  unfold kA cA bA
  refine ⟨?_, ?_, ?_, ?_, ?_, ?_, ?_, ?_, ?_⟩ <;> omega
theorem put3_comm {p q : Int} (hp : isPage pg p = true) (hq : isPage pg q = true) (h : p ≠ q) (a b c d : Int) {ws : List Int} (hn : ws.length = n) : put3V pg st p a b (put3V pg st q c d ws) = put3V pg st q c d (put3V pg st p a b ws) := by
  obtain ⟨a1, a2, a3, a4, a5, a6, a7, a8, a9⟩ := page_apart H hp hq h
  refine words_ext (by rw [put3_len H, put3_len H, put3_len H, put3_len H]) (fun i i0 _ => ?_)
  rw [put3_at H hp a b (by rw [put3_len H]; exact hn) i0, put3_at H hq c d hn i0, put3_at H hq c d (by rw [put3_len H]; exact hn) i0, put3_at H hp a b hn i0]
  by_cases e1 : i = bA pg st p
  · rw [if_pos e1, if_neg (by rw [e1]; exact a3), if_neg (by rw [e1]; exact a9), if_neg (by rw [e1]; exact a8), if_pos e1]
  · rw [if_neg e1, if_neg e1]
    by_cases e2 : i = cA pg st p
    · rw [if_pos e2, if_neg (by rw [e2]; exact a7), if_neg (by rw [e2]; exact a2), if_neg (by rw [e2]; exact a6), if_pos e2]
    · rw [if_neg e2, if_neg e2]
      by_cases e3 : i = kA pg st p
      · rw [if_pos e3, if_neg (by rw [e3]; exact a5), if_neg (by rw [e3]; exact a4), if_neg (by rw [e3]; exact a1), if_pos e3]
      · rw [if_neg e3, if_neg e3]
theorem put3_over {p : Int} (hp : isPage pg p = true) (a b c d : Int) {ws : List Int} (hn : ws.length = n) : put3V pg st p a b (put3V pg st p c d ws) = put3V pg st p a b ws := by
  refine words_ext (by rw [put3_len H, put3_len H, put3_len H]) (fun i i0 _ => ?_)
  rw [put3_at H hp a b (by rw [put3_len H]; exact hn) i0, put3_at H hp c d hn i0, put3_at H hp a b hn i0]
  by_cases e1 : i = bA pg st p
  · rw [if_pos e1, if_pos e1]
  · rw [if_neg e1, if_neg e1, if_neg e1]
    by_cases e2 : i = cA pg st p
    · rw [if_pos e2, if_pos e2]
    · rw [if_neg e2, if_neg e2, if_neg e2]
      by_cases e3 : i = kA pg st p
      · rw [if_pos e3, if_pos e3]
      · rw [if_neg e3, if_neg e3, if_neg e3]
theorem putN_put3 {p : Int} (hp : isPage pg p = true) (a b k : Int) (m : Nat) : ∀ (q : Int) (ws : List Int), p < q → ws.length = n → (∀ i : Nat, i < m → isPage pg (q + i) = true) → put3V pg st p a b (putNV pg st k m q ws) = putNV pg st k m q (put3V pg st p a b ws) := by
  induction m with
  | zero => intro q ws _ _ _; rfl
  | succ m ih =>
    intro q ws hpq hn h
    obtain ⟨hq, h2⟩ := pages_succ H h
    show put3V pg st p a b (putNV pg st k m (q + 1) (put3V pg st q k 0 ws)) = putNV pg st k m (q + 1) (put3V pg st q k 0 (put3V pg st p a b ws))
    rw [ih (q + 1) _ (by omega) (by rw [put3_len H]; exact hn) h2, put3_comm H hp hq (by omega) a b k 0 hn]
theorem putN_snoc (k : Int) (m : Nat) : ∀ (q : Int) (ws : List Int), putNV pg st k (m + 1) q ws = put3V pg st (q + m) k 0 (putNV pg st k m q ws) := by
  induction m with
  | zero => intro q ws; show put3V pg st q k 0 ws = _; rw [show q + ((0 : Nat) : Int) = q by omega]; rfl
  | succ m ih =>
    intro q ws
    show putNV pg st k (m + 1) (q + 1) (put3V pg st q k 0 ws) = put3V pg st (q + ((m + 1 : Nat) : Int)) k 0 (putNV pg st k m (q + 1) (put3V pg st q k 0 ws))
    rw [ih (q + 1) (put3V pg st q k 0 ws), show q + 1 + (m : Int) = q + ((m + 1 : Nat) : Int) by omega]
/-- A run that is laid as the document lays it. -/
theorem take_same {p m k x : Int} {ws : List Int} (hn : ws.length = n) (ht : thereB pg p m = true) : put3V pg st p k x (putNV pg st 7 m.toNat p ws) = putNV pg st 7 (m - 1).toNat (p + 1) (put3V pg st p k x ws) := by
  obtain ⟨t0, t1, t2⟩ := there_iff.1 ht
  have hp : isPage pg p = true := isPage_iff.2 ⟨by omega, by omega⟩
  obtain ⟨j, hj⟩ : ∃ j : Nat, m.toNat = j + 1 := ⟨(m - 1).toNat, by omega⟩
  rw [hj, show (m - 1).toNat = j by omega]
  show put3V pg st p k x (putNV pg st 7 j (p + 1) (put3V pg st p 7 0 ws)) = _
  rw [putN_put3 H hp k x 7 j (p + 1) _ (by omega) (by rw [put3_len H]; exact hn) (fun i hi => isPage_iff.2 ⟨by omega, by omega⟩), put3_over H hp k x 7 0 hn]
theorem fst_step {ws : List Int} (w : Wf pg st ws) {p : Int} (hk : kindV pg st ws p = 7) : 0 < p ∧ 1 ≤ kindV pg st ws (p - 1) ∧ fstNV pg st (p + 2).toNat p ws = fstNV pg st (p - 1 + 2).toNat (p - 1) ws := by
  have h := w.rest p hk
  have hb := page_of (pg := pg) (st := st) (ws := ws) (p := p - 1) (by omega)
  refine ⟨by omega, by omega, ?_⟩
  obtain ⟨j, hj⟩ : ∃ j : Nat, (p + 2).toNat = j + 1 := ⟨(p + 1).toNat, by omega⟩
  rw [hj, show (p - 1 + 2).toNat = j by omega]
  show (if kindV pg st ws p = 7 then fstNV pg st j (p - 1) ws else p) = _
  rw [if_pos hk]
theorem fst_stop {ws : List Int} {p : Int} (h0 : 0 ≤ p) (hk : kindV pg st ws p ≠ 7) : fstNV pg st (p + 2).toNat p ws = p := by
  obtain ⟨j, hj⟩ : ∃ j : Nat, (p + 2).toNat = j + 1 := ⟨(p + 1).toNat, by omega⟩
  rw [hj]
  show (if kindV pg st ws p = 7 then fstNV pg st j (p - 1) ws else p) = _
  rw [if_neg hk]
theorem fst_none {ws : List Int} (w : Wf pg st ws) {p : Int} (hk : kindV pg st ws p ≤ 0) : fstV pg st p ws = -1 := by
  have hk0 : kindV pg st ws p = 0 ∨ kindV pg st ws p = -1 := by
    by_cases hp : isPage pg p = true
    · have := (w.b p hp).1; omega
    · exact .inr (kind_out (by simpa using hp))
  have e : fstNV pg st (p + 2).toNat p ws = p := by
    cases hj : (p + 2).toNat with
    | zero => rfl
    | succ j =>
      show (if kindV pg st ws p = 7 then fstNV pg st j (p - 1) ws else p) = p
      rw [if_neg (by omega)]
  unfold fstV
  rw [e, if_pos hk0]
end
/-- A chunk that is not mapped is not turned. -/
theorem turn_un {pg st k : Int} {ws : List Int} (h : mappedV pg st ws k = false) : (turnV pg st k 0 ws).2 = ws := by
  unfold turnV
  simp [h]
end Go.Proofs.YtogfikemodaepaaGreat

namespace Go.Proofs.YtogfikemodaepaaGreat
open Go.RowKit Go.Sort Go.Maps Go.Shelf
set_option linter.unusedVariables false
set_option linter.unusedSimpArgs false
set_option linter.unusedSectionVars false

theorem y_rkind {c : Cfg} (R : c.Ok) (k : Int) (w : World) : Calls Tryz.prog 66 #[.agg c.cells, .int .i64 k] w (Gives w (.int .i64 (pageV c.pg c.st 0 k))) := rkind c.wk c.cp c.pg c.st c.tr c.wt c.ck c.pr c.ca c.bi c.ba w k R
theorem y_rcount {c : Cfg} (R : c.Ok) (k : Int) (w : World) : Calls Tryz.prog 87 #[.agg c.cells, .int .i64 k] w (Gives w (.int .i64 (pageV c.pg c.st 1 k))) := rcount c.wk c.cp c.pg c.st c.tr c.wt c.ck c.pr c.ca c.bi c.ba w k R
theorem y_rbits {c : Cfg} (R : c.Ok) (k : Int) (w : World) : Calls Tryz.prog 88 #[.agg c.cells, .int .i64 k] w (Gives w (.int .i64 (pageV c.pg c.st 2 k))) := rbits c.wk c.cp c.pg c.st c.tr c.wt c.ck c.pr c.ca c.bi c.ba w k R

set_option maxHeartbeats 2000000 in
theorem r9_Kind {c : Cfg} (R : c.Ok) (ws : List Int) (H : PgIn c.pg c.st ws.length) (hl : ws.length ≤ 1000) (g cap : Nat) (p : Int) (w : World) (hw : Ws w g cap ws) :
    Calls Tryz.prog 32 #[.agg c.cells, .slice (some ⟨g, 0, none⟩) ws.length cap, .int .i64 p] w (Gives w (.int .i64 (kindV c.pg c.st ws p))) := by
  by_cases hp : isPage c.pg p = true
  · obtain ⟨⟨q0, q1, _⟩, _⟩ := page_b H hp
    obtain ⟨b, hb⟩ : ∃ b : Nat, kA c.pg c.st p = (b : Int) := ⟨(kA c.pg c.st p).toNat, by omega⟩
    have hbl : b < ws.length := by omega
    have P := Lib.hid ((page0 (st := c.st) hp).trans hb)
    have hv : kindV c.pg c.st ws p = ws.getD b 0 := by rw [kind_in hp, hb]; rfl
    rw [hv]
    obtain ⟨z, hz⟩ : ∃ z, ws.getD b 0 = z := ⟨_, rfl⟩
    rw [hz]
    have hpp := isPage_iff.1 hp
    have hc := row_new w c.cells 30
    have HR := Lib.hid R
    have HH := Lib.hid H
    have hgl := hw.lt
    obtain ⟨w1, e1⟩ : ∃ w1, w.alloc (.cells c.cells 30) = w1 := ⟨_, rfl⟩
    have m1 : More w w1 := by rw [← e1]; exact (More.refl w).alloc _
    rw [e1] at hc
    have HC := Lib.hid hc
    have HM := Lib.hid m1
    have HW := Lib.hid (hw.more m1)
    have x2 : w1.cell? ⟨w.heap.size, 2, none⟩ = some (.int .i64 c.pg) := cell_more hc (More.refl _) rfl
    have X2 := Lib.hid x2
    have pg1 := R.pg1
    have pg2 := R.pg2
    clear x2 m1 hw R H hc
    have CZ : Hid (∀ W, More w1 W → W.cell? ⟨g, b, none⟩ = some (.int .i64 z)) := Lib.hid fun W hW => by rw [← hz]; exact (HW.out.more hW).cell hbl
    have x2 := X2.out
    have d1 : decide (p < 0) = false := by simp; omega
    have d2 : decide (c.pg ≤ p) = false := by simp; omega
    clear hv hz hb q0 q1 hp
    go_enter Tryz.func32, Tryz.ntmps32
    go_wp2_with (first | (refine wpList_load_row rfl 30 _ rfl _ rfl 30 _ _ _ HC.out Tryz.underlying30 rfl (by kernel_rfl) ?_) | (refine wpList_load_rowG rfl 30 _ rfl _ rfl 30 _ _ _ HC.out Tryz.underlying30 rfl (by kernel_rfl) ?_))
    clear e1
    refine (y_rkind HR.out p _).mono ?_
    rw [P.out]
    rintro e w3 ⟨rfl, h3⟩
    have cz := CZ.out _ h3
    have M3 := Lib.hid (HM.out.trans h3)
    clear h3
    go_wp2_with fail
    go_ret
    exact ⟨rfl, M3.out⟩
  · have hp : isPage c.pg p = false := by simpa using hp
    rw [kind_out hp]
    have hpp := isPage_not.1 hp
    have hc := row_new w c.cells 30
    have HR := Lib.hid R
    have HH := Lib.hid H
    have hgl := hw.lt
    obtain ⟨w1, e1⟩ : ∃ w1, w.alloc (.cells c.cells 30) = w1 := ⟨_, rfl⟩
    have m1 : More w w1 := by rw [← e1]; exact (More.refl w).alloc _
    rw [e1] at hc
    have HC := Lib.hid hc
    have HM := Lib.hid m1
    have HW := Lib.hid (hw.more m1)
    have x2 : w1.cell? ⟨w.heap.size, 2, none⟩ = some (.int .i64 c.pg) := cell_more hc (More.refl _) rfl
    have X2 := Lib.hid x2
    have pg1 := R.pg1
    have pg2 := R.pg2
    clear x2 m1 hw R H hc
    have x2 := X2.out
    clear hp
    by_cases h0 : p < 0
    · have d1 : decide (p < 0) = true := by simpa using h0
      go_enter Tryz.func32, Tryz.ntmps32
      go_wp2_with fail
      go_ret
      exact ⟨rfl, HM.out⟩
    · have d1 : decide (p < 0) = false := by simpa using h0
      have d2 : decide (c.pg ≤ p) = true := by simp; omega
      go_enter Tryz.func32, Tryz.ntmps32
      go_wp2_with fail
      go_ret
      exact ⟨rfl, HM.out⟩

set_option maxRecDepth 100000 in
set_option maxHeartbeats 2000000 in
theorem r9_Used {c : Cfg} (R : c.Ok) (ws : List Int) (H : PgIn c.pg c.st ws.length) (hl : ws.length ≤ 1000) (g cap : Nat) (w : World) (hw : Ws w g cap ws) :
    Calls Tryz.prog 34 #[.agg c.cells, .slice (some ⟨g, 0, none⟩) ws.length cap] w (Gives w (.int .i64 (usedV c.pg c.st ws))) := by
  obtain ⟨res, hres⟩ : ∃ res, usedV c.pg c.st ws = res := ⟨_, rfl⟩
  rw [hres]
  have HRES := Lib.hid (show usedNV c.pg c.st c.pg.toNat 0 0 ws = res from hres)
  clear hres
  have hc := row_new w c.cells 30
  have HR := Lib.hid R
  have HH := Lib.hid H
  have hgl := hw.lt
  obtain ⟨w1, e1⟩ : ∃ w1, w.alloc (.cells c.cells 30) = w1 := ⟨_, rfl⟩
  have m1 : More w w1 := by rw [← e1]; exact (More.refl w).alloc _
  rw [e1] at hc
  have HC := Lib.hid hc
  have HM := Lib.hid m1
  have HW := Lib.hid (hw.more m1)
  have x2 : w1.cell? ⟨w.heap.size, 2, none⟩ = some (.int .i64 c.pg) := cell_more hc (More.refl _) rfl
  have X2 := Lib.hid x2
  have pg1 := R.pg1
  have pg2 := R.pg2
  clear x2 m1 hw R H hc
  go_enter Tryz.func34, Tryz.ntmps34
  go_wp2_with fail
  clear e1
  go_loopw [5, 6] (fun v5 v6 wr => ∃ (j : Nat) (s : Int), v6 = .int .i64 (j : Int) ∧ v5 = .int .i64 s ∧ (j : Int) ≤ c.pg ∧ 0 ≤ s ∧ s ≤ j ∧ More w1 wr ∧ usedNV c.pg c.st (c.pg.toNat - j) j s ws = res) (fun _ v6 _ => c.pg.toNat - (intOf v6).toNat)
  case atStart => exact ⟨0, 0, rfl, rfl, by omega, by omega, by omega, More.refl _, HRES.out⟩
  case round =>
    clear HRES
    obtain ⟨j, s, rfl, rfl, hj, s0, s1, ht, hrest⟩ := hrel
    have HT := Lib.hid ht
    have x2 := ht.cell X2.out
    have q1 : IntKind.i64.wrap ((j : Int) + 1) = (j : Int) + 1 := wrap_in (by omega) (by omega)
    have q2 : IntKind.i64.wrap (s + 1) = s + 1 := wrap_in (by omega) (by omega)
    have HC1 := Lib.hid (ht.block HC.out)
    by_cases hlt : (j : Int) < c.pg
    · have d1 : decide ((j : Int) < c.pg) = true := by simpa using hlt
      rw [show c.pg.toNat - j = (c.pg.toNat - (j + 1)) + 1 by omega] at hrest
      have REST := Lib.hid (show usedNV c.pg c.st (c.pg.toNat - (j + 1)) ((j : Int) + 1) (s + if kindV c.pg c.st ws j = 0 then 0 else 1) ws = res from hrest)
      clear ht hrest
      go_wp2_with (first | (refine wpList_load_row rfl 30 _ rfl _ rfl 30 _ _ _ HC1.out Tryz.underlying30 rfl (by kernel_rfl) ?_) | (refine wpList_load_rowG rfl 30 _ rfl _ rfl 30 _ _ _ HC1.out Tryz.underlying30 rfl (by kernel_rfl) ?_))
      refine (r9_Kind HR.out ws HH.out hl g cap (j : Int) wr (HW.out.more HT.out)).mono ?_
      rintro e w3 ⟨rfl, h3⟩
      have M3 := Lib.hid (HT.out.trans h3)
      clear h3 x2
      by_cases hk : kindV c.pg c.st ws j = 0
      · have d2 : (kindV c.pg c.st ws j != 0) = false := by simp [hk]
        have d3 : (kindV c.pg c.st ws j == 0) = true := by simp [hk]
        have R3 := Lib.hid (show usedNV c.pg c.st (c.pg.toNat - (j + 1)) ((j : Int) + 1) s ws = res from by have h := REST.out; rw [if_pos hk, show s + 0 = s by omega] at h; exact h)
        clear hk
        go_wp2_with fail
        go_roundw
        case rel => exact ⟨j + 1, s, by go_num, rfl, by omega, by omega, by omega, M3.out, R3.out⟩
        case measure => simp [intOf]; omega
      · have d2 : (kindV c.pg c.st ws j != 0) = true := by simpa using hk
        have R3 := Lib.hid (show usedNV c.pg c.st (c.pg.toNat - (j + 1)) ((j : Int) + 1) (s + 1) ws = res from by have h := REST.out; rw [if_neg hk] at h; exact h)
        clear hk
        go_wp2_with fail
        go_roundw
        case rel => exact ⟨j + 1, s + 1, by go_num, by go_num, by omega, by omega, by omega, M3.out, R3.out⟩
        case measure => simp [intOf]; omega
    · have d1 : decide ((j : Int) < c.pg) = false := by simpa using hlt
      rw [show c.pg.toNat - j = 0 by omega] at hrest
      have he : s = res := hrest
      subst he
      have FIN := Lib.hid (HM.out.trans ht)
      clear ht hrest
      go_wp2_with fail
      go_ret
      exact ⟨rfl, FIN.out⟩

set_option maxRecDepth 100000 in
set_option maxHeartbeats 2000000 in
theorem r9_First {c : Cfg} (R : c.Ok) (ws : List Int) (H : PgIn c.pg c.st ws.length) (hl : ws.length ≤ 1000) (wf : Wf c.pg c.st ws) (g cap : Nat) (p : Int) (w : World) (hw : Ws w g cap ws) :
    Calls Tryz.prog 33 #[.agg c.cells, .slice (some ⟨g, 0, none⟩) ws.length cap, .int .i64 p] w (Gives w (.int .i64 (fstV c.pg c.st p ws))) := by
  have WF := Lib.hid wf
  by_cases hk : kindV c.pg c.st ws p ≤ 0
  · rw [fst_none H wf hk]
    clear wf
    have hc := row_new w c.cells 30
    have HR := Lib.hid R
    have HH := Lib.hid H
    have hgl := hw.lt
    obtain ⟨w1, e1⟩ : ∃ w1, w.alloc (.cells c.cells 30) = w1 := ⟨_, rfl⟩
    have m1 : More w w1 := by rw [← e1]; exact (More.refl w).alloc _
    rw [e1] at hc
    have HC := Lib.hid hc
    have HM := Lib.hid m1
    have HW := Lib.hid (hw.more m1)
    have x2 : w1.cell? ⟨w.heap.size, 2, none⟩ = some (.int .i64 c.pg) := cell_more hc (More.refl _) rfl
    have X2 := Lib.hid x2
    have pg1 := R.pg1
    have pg2 := R.pg2
    clear x2 m1 hw R H hc
    have d1 : decide (kindV c.pg c.st ws p ≤ 0) = true := by simpa using hk
    clear hk
    go_enter Tryz.func33, Tryz.ntmps33
    go_wp2_with (first | (refine wpList_load_row rfl 30 _ rfl _ rfl 30 _ _ _ HC.out Tryz.underlying30 rfl (by kernel_rfl) ?_) | (refine wpList_load_rowG rfl 30 _ rfl _ rfl 30 _ _ _ HC.out Tryz.underlying30 rfl (by kernel_rfl) ?_))
    clear e1
    refine (r9_Kind HR.out ws HH.out hl g cap p w1 HW.out).mono ?_
    rintro e w3 ⟨rfl, h3⟩
    have M3 := Lib.hid (HM.out.trans h3)
    clear h3
    go_wp2_with fail
    go_ret
    exact ⟨rfl, M3.out⟩
  · have hpp := page_of (pg := c.pg) (st := c.st) (ws := ws) (p := p) (by omega)
    obtain ⟨res, hres⟩ : ∃ res, fstV c.pg c.st p ws = res := ⟨_, rfl⟩
    rw [hres]
    have HRES := Lib.hid hres
    have HK1 := Lib.hid hk
    clear wf hres
    have hc := row_new w c.cells 30
    have HR := Lib.hid R
    have HH := Lib.hid H
    have hgl := hw.lt
    obtain ⟨w1, e1⟩ : ∃ w1, w.alloc (.cells c.cells 30) = w1 := ⟨_, rfl⟩
    have m1 : More w w1 := by rw [← e1]; exact (More.refl w).alloc _
    rw [e1] at hc
    have HC := Lib.hid hc
    have HM := Lib.hid m1
    have HW := Lib.hid (hw.more m1)
    have x2 : w1.cell? ⟨w.heap.size, 2, none⟩ = some (.int .i64 c.pg) := cell_more hc (More.refl _) rfl
    have X2 := Lib.hid x2
    have pg1 := R.pg1
    have pg2 := R.pg2
    clear x2 m1 hw R H hc
    have d1 : decide (kindV c.pg c.st ws p ≤ 0) = false := by simp; omega
    clear hk
    go_enter Tryz.func33, Tryz.ntmps33
    go_wp2_with (first | (refine wpList_load_row rfl 30 _ rfl _ rfl 30 _ _ _ HC.out Tryz.underlying30 rfl (by kernel_rfl) ?_) | (refine wpList_load_rowG rfl 30 _ rfl _ rfl 30 _ _ _ HC.out Tryz.underlying30 rfl (by kernel_rfl) ?_))
    clear e1
    refine (r9_Kind HR.out ws HH.out hl g cap p w1 HW.out).mono ?_
    rintro e w3 ⟨rfl, h3⟩
    have M3 := Lib.hid h3
    clear h3
    go_wp2_with fail
    go_loopw [2] (fun v2 wr => ∃ q : Int, v2 = .int .i64 q ∧ 0 ≤ q ∧ q < c.pg ∧ 1 ≤ kindV c.pg c.st ws q ∧ More w1 wr ∧ fstNV c.pg c.st (q + 2).toNat q ws = fstNV c.pg c.st (p + 2).toNat p ws) (fun v2 _ => (intOf v2).toNat)
    case atStart => exact ⟨p, rfl, hpp.1, hpp.2, by have := HK1.out; omega, M3.out, rfl⟩
    case round =>
      obtain ⟨q, rfl, q0, q1, qk, ht, hq⟩ := hrel
      have HT := Lib.hid ht
      have HC1 := Lib.hid (ht.block HC.out)
      have HQ := Lib.hid hq
      have w1q : IntKind.i64.wrap (q - 1) = q - 1 := wrap_in (by omega) (by omega)
      clear ht hq
      by_cases h7 : kindV c.pg c.st ws q = 7
      · obtain ⟨f0, f1, f2⟩ := fst_step HH.out WF.out h7
        have F2 := Lib.hid f2
        have d2 : decide (0 < q) = true := by simpa using f0
        have d3 : (kindV c.pg c.st ws q == 7) = true := by simp [h7]
        clear f2 h7
        go_wp2_with (first | (refine wpList_load_row rfl 30 _ rfl _ rfl 30 _ _ _ HC1.out Tryz.underlying30 rfl (by kernel_rfl) ?_) | (refine wpList_load_rowG rfl 30 _ rfl _ rfl 30 _ _ _ HC1.out Tryz.underlying30 rfl (by kernel_rfl) ?_))
        refine (r9_Kind HR.out ws HH.out hl g cap q wr (HW.out.more HT.out)).mono ?_
        rintro e w5 ⟨rfl, h5⟩
        have M5 := Lib.hid (HT.out.trans h5)
        clear h5
        go_wp2_with fail
        go_roundw
        case rel => exact ⟨q - 1, by go_num, by omega, by omega, f1, M5.out, F2.out.symm.trans HQ.out⟩
        case measure => simp [intOf]; omega
      · have hst := fst_stop HH.out (ws := ws) q0 h7
        have hfin : q = res := by
          rw [← HRES.out]
          unfold fstV
          rw [← HQ.out, hst, if_neg (by omega)]
        have d3 : (kindV c.pg c.st ws q == 7) = false := by simpa using h7
        have d4 : decide (kindV c.pg c.st ws q = 7) = false := by simpa using h7
        have HF := Lib.hid hfin
        clear hst hfin h7
        by_cases hq0 : 0 < q
        · have d2 : decide (0 < q) = true := by simpa using hq0
          go_wp2_with (first | (refine wpList_load_row rfl 30 _ rfl _ rfl 30 _ _ _ HC1.out Tryz.underlying30 rfl (by kernel_rfl) ?_) | (refine wpList_load_rowG rfl 30 _ rfl _ rfl 30 _ _ _ HC1.out Tryz.underlying30 rfl (by kernel_rfl) ?_))
          refine (r9_Kind HR.out ws HH.out hl g cap q wr (HW.out.more HT.out)).mono ?_
          rintro e w5 ⟨rfl, h5⟩
          have M5 := Lib.hid (HM.out.trans (HT.out.trans h5))
          clear h5
          go_wp2_with fail
          go_ret
          exact ⟨by rw [← HF.out]; rfl, M5.out⟩
        · have d2 : decide (0 < q) = false := by simpa using hq0
          have M5 := Lib.hid (HM.out.trans HT.out)
          go_wp2_with fail
          go_ret
          exact ⟨by rw [← HF.out]; rfl, M5.out⟩

set_option maxRecDepth 100000 in
set_option maxHeartbeats 2000000 in
theorem r9_set {c : Cfg} (R : c.Ok) (ws : List Int) (H : PgIn c.pg c.st ws.length) (hl : ws.length ≤ 1000) (g cap : Nat) (p k x : Int) (hp : isPage c.pg p = true) (w : World) (hw : Ws w g cap ws) :
    Calls Tryz.prog 61 #[.agg c.cells, .slice (some ⟨g, 0, none⟩) ws.length cap, .int .i64 p, .int .i64 k, .int .i64 x] w (RowTo w g cap (.tuple #[]) (put3V c.pg c.st p k x ws)) := by
  obtain ⟨⟨q0, q1, _⟩, ⟨q2, q3, _⟩, ⟨q4, q5, _⟩⟩ := page_b H hp
  obtain ⟨b0, hb0⟩ : ∃ b : Nat, kA c.pg c.st p = (b : Int) := ⟨(kA c.pg c.st p).toNat, by omega⟩
  obtain ⟨b1, hb1⟩ : ∃ b : Nat, cA c.pg c.st p = (b : Int) := ⟨(cA c.pg c.st p).toNat, by omega⟩
  obtain ⟨b2, hb2⟩ : ∃ b : Nat, bA c.pg c.st p = (b : Int) := ⟨(bA c.pg c.st p).toNat, by omega⟩
  have l0 : b0 < ws.length := by omega
  have l1 : b1 < ws.length := by omega
  have l2 : b2 < ws.length := by omega
  have P0 := Lib.hid ((page0 (st := c.st) hp).trans hb0)
  have P1 := Lib.hid ((page1 (st := c.st) hp).trans hb1)
  have P2 := Lib.hid ((page2 (st := c.st) hp).trans hb2)
  have hv : put3V c.pg c.st p k x ws = ((ws.set b0 k).set b1 x).set b2 0 := by unfold put3V; rw [hb0, hb1, hb2]; rfl
  rw [hv]
  clear hv hb0 hb1 hb2 q0 q1 q2 q3 q4 q5 hp
  have hc := row_new w c.cells 30
  have HR := Lib.hid R
  have HH := Lib.hid H
  have hgl := hw.lt
  obtain ⟨w1, e1⟩ : ∃ w1, w.alloc (.cells c.cells 30) = w1 := ⟨_, rfl⟩
  have m1 : More w w1 := by rw [← e1]; exact (More.refl w).alloc _
  rw [e1] at hc
  have HC := Lib.hid hc
  have HM := Lib.hid m1
  have HW := Lib.hid (hw.more m1)
  have x2 : w1.cell? ⟨w.heap.size, 2, none⟩ = some (.int .i64 c.pg) := cell_more hc (More.refl _) rfl
  have X2 := Lib.hid x2
  have pg1 := R.pg1
  have pg2 := R.pg2
  clear x2 m1 hw R H hc
  have T1 : Hid (Turned (fun b => b = g) w1 w1) := Lib.hid (Turned.refl _ _)
  have KC : Hid (∀ W, Turned (fun b => b = g) w1 W → W.heap[w.heap.size]? = some (.cells c.cells 30 (0, 0))) := Lib.hid fun W t => (t.block _ (lt_of_heap HC.out) (by omega)).trans HC.out
  go_enter Tryz.func61, Tryz.ntmps61
  go_wp2_with (first | (refine wpList_load_row rfl 30 _ rfl _ rfl 30 _ _ _ HC.out Tryz.underlying30 rfl (by kernel_rfl) ?_) | (refine wpList_load_rowG rfl 30 _ rfl _ rfl 30 _ _ _ HC.out Tryz.underlying30 rfl (by kernel_rfl) ?_))
  clear e1
  refine (y_rkind HR.out p _).mono ?_
  rw [P0.out]
  rintro e wa ⟨rfl, ha⟩
  have Ta : Hid (Turned (fun b => b = g) w1 wa) := Lib.hid (T1.out.trans (turned_more ha))
  have Xa := Lib.hid (HW.out.more ha)
  clear ha
  have cb := Xa.out.cell (i := b0) l0
  have fb := Xa.out.froz b0
  have lb := Xa.out.lt
  obtain ⟨wb, eb⟩ : ∃ wb, World.setCell wa ⟨g, b0, none⟩ (.int .i64 k) = wb := ⟨_, rfl⟩
  have Xb : Hid (Ws wb g cap (ws.set b0 k)) := Lib.hid (by rw [← eb]; exact Xa.out.set l0 _)
  have Tb : Hid (Turned (fun b => b = g) w1 wb) := Lib.hid (by rw [← eb]; exact Turned.setCell Ta.out _ _ (fun _ => rfl))
  have HLb := Lib.hid (KC.out _ Tb.out)
  go_wp2_with (first | (refine wpList_load_row rfl 30 _ rfl _ rfl 30 _ _ _ HLb.out Tryz.underlying30 rfl (by kernel_rfl) ?_) | (refine wpList_load_rowG rfl 30 _ rfl _ rfl 30 _ _ _ HLb.out Tryz.underlying30 rfl (by kernel_rfl) ?_))
  clear cb fb lb eb
  refine (y_rcount HR.out p _).mono ?_
  rw [P1.out]
  rintro e wc ⟨rfl, hc⟩
  have Tc : Hid (Turned (fun b => b = g) w1 wc) := Lib.hid (Tb.out.trans (turned_more hc))
  have Xc := Lib.hid (Xb.out.more hc)
  clear hc
  have cd := Xc.out.cell (i := b1) (by simp; omega)
  have fd := Xc.out.froz b1
  have ld := Xc.out.lt
  obtain ⟨wd, ed⟩ : ∃ wd, World.setCell wc ⟨g, b1, none⟩ (.int .i64 x) = wd := ⟨_, rfl⟩
  have Xd : Hid (Ws wd g cap ((ws.set b0 k).set b1 x)) := Lib.hid (by rw [← ed]; exact Xc.out.set (by simp; omega) _)
  have Td : Hid (Turned (fun b => b = g) w1 wd) := Lib.hid (by rw [← ed]; exact Turned.setCell Tc.out _ _ (fun _ => rfl))
  have HLd := Lib.hid (KC.out _ Td.out)
  go_wp2_with (first | (refine wpList_load_row rfl 30 _ rfl _ rfl 30 _ _ _ HLd.out Tryz.underlying30 rfl (by kernel_rfl) ?_) | (refine wpList_load_rowG rfl 30 _ rfl _ rfl 30 _ _ _ HLd.out Tryz.underlying30 rfl (by kernel_rfl) ?_))
  clear cd fd ld ed
  refine (y_rbits HR.out p _).mono ?_
  rw [P2.out]
  rintro e wf ⟨rfl, hf⟩
  have Tf : Hid (Turned (fun b => b = g) w1 wf) := Lib.hid (Td.out.trans (turned_more hf))
  have Xf := Lib.hid (Xd.out.more hf)
  clear hf
  have ch := Xf.out.cell (i := b2) (by simp; omega)
  have fh := Xf.out.froz b2
  have lh := Xf.out.lt
  obtain ⟨wh, eh⟩ : ∃ wh, World.setCell wf ⟨g, b2, none⟩ (.int .i64 0) = wh := ⟨_, rfl⟩
  have Xh : Hid (Ws wh g cap (((ws.set b0 k).set b1 x).set b2 0)) := Lib.hid (by rw [← eh]; exact Xf.out.set (by simp; omega) _)
  have Th : Hid (Turned (fun b => b = g) w1 wh) := Lib.hid (by rw [← eh]; exact Turned.setCell Tf.out _ _ (fun _ => rfl))
  go_wp2_with fail
  clear ch fh lh eh
  go_end0
  exact ⟨rfl, Xh.out, (turned_more HM.out).trans Th.out⟩
end Go.Proofs.YtogfikemodaepaaGreat

namespace Go.Proofs.YtogfikemodaepaaGreat
open Go.RowKit Go.Sort Go.Maps Go.Shelf
set_option linter.unusedVariables false
set_option linter.unusedSimpArgs false
set_option linter.unusedSectionVars false

set_option maxRecDepth 100000 in
set_option maxHeartbeats 2000000 in
theorem r9_open {c : Cfg} (R : c.Ok) (ws : List Int) (H : PgIn c.pg c.st ws.length) (hl : ws.length ≤ 1000) (g cap : Nat) (p n : Int) (mp : Bool) (w : World) (hw : Ws w g cap ws) :
    Calls Tryz.prog 59 #[.agg c.cells, .slice (some ⟨g, 0, none⟩) ws.length cap, .int .i64 p, .int .i64 n, .bool mp] w (Gives w (.bool (opV c.pg c.st ws p n mp))) := by
  cases ht : thereB c.pg p n with
  | false =>
    rw [show opV c.pg c.st ws p n mp = false by unfold opV; rw [ht]; rfl]
    have hh : ¬ (0 ≤ p ∧ 1 ≤ n ∧ n ≤ c.pg - p) := fun q => by rw [there_iff.2 q] at ht; cases ht
    clear ht
    have hc := row_new w c.cells 30
    have HR := Lib.hid R
    have HH := Lib.hid H
    have hgl := hw.lt
    obtain ⟨w1, e1⟩ : ∃ w1, w.alloc (.cells c.cells 30) = w1 := ⟨_, rfl⟩
    have m1 : More w w1 := by rw [← e1]; exact (More.refl w).alloc _
    rw [e1] at hc
    have HC := Lib.hid hc
    have HM := Lib.hid m1
    have HW := Lib.hid (hw.more m1)
    have x2 : w1.cell? ⟨w.heap.size, 2, none⟩ = some (.int .i64 c.pg) := cell_more hc (More.refl _) rfl
    have X2 := Lib.hid x2
    have pg1 := R.pg1
    have pg2 := R.pg2
    clear x2 m1 hw R H hc
    have x2 := X2.out
    by_cases h0 : p < 0
    · have d1 : decide (p < 0) = true := by simpa using h0
      clear hh h0
      go_enter Tryz.func59, Tryz.ntmps59
      go_wp2_with fail
      go_ret
      exact ⟨rfl, HM.out⟩
    · have d1 : decide (p < 0) = false := by simp; omega
      by_cases h1 : c.pg ≤ p
      · have d2 : decide (c.pg ≤ p) = true := by simpa using h1
        clear hh h0 h1
        go_enter Tryz.func59, Tryz.ntmps59
        go_wp2_with fail
        go_ret
        exact ⟨rfl, HM.out⟩
      · have d2 : decide (c.pg ≤ p) = false := by simp; omega
        by_cases h2 : n < 1
        · have d3 : decide (n < 1) = true := by simpa using h2
          clear hh h0 h1 h2
          go_enter Tryz.func59, Tryz.ntmps59
          go_wp2_with fail
          go_ret
          exact ⟨rfl, HM.out⟩
        · have d3 : decide (n < 1) = false := by simp; omega
          have d4 : decide (c.pg - p < n) = true := by simp; omega
          have q4 : IntKind.i64.wrap (c.pg - p) = c.pg - p := wrap_in (by omega) (by omega)
          clear hh h0 h1 h2
          go_enter Tryz.func59, Tryz.ntmps59
          go_wp2_with fail
          go_ret
          exact ⟨rfl, HM.out⟩
  | true =>
    obtain ⟨t0, t1, t2⟩ := there_iff.1 ht
    obtain ⟨res, hres⟩ : ∃ res, opN c.pg c.st ws mp n.toNat p = res := ⟨_, rfl⟩
    rw [show opV c.pg c.st ws p n mp = res by unfold opV; rw [ht, hres]; rfl]
    have HRES := Lib.hid hres
    clear ht hres
    have hc := row_new w c.cells 30
    have HR := Lib.hid R
    have HH := Lib.hid H
    have hgl := hw.lt
    obtain ⟨w1, e1⟩ : ∃ w1, w.alloc (.cells c.cells 30) = w1 := ⟨_, rfl⟩
    have m1 : More w w1 := by rw [← e1]; exact (More.refl w).alloc _
    rw [e1] at hc
    have HC := Lib.hid hc
    have HM := Lib.hid m1
    have HW := Lib.hid (hw.more m1)
    have x2 : w1.cell? ⟨w.heap.size, 2, none⟩ = some (.int .i64 c.pg) := cell_more hc (More.refl _) rfl
    have X2 := Lib.hid x2
    have pg1 := R.pg1
    have pg2 := R.pg2
    clear x2 m1 hw R H hc
    have x2 := X2.out
    have d1 : decide (p < 0) = false := by simp; omega
    have d2 : decide (c.pg ≤ p) = false := by simp; omega
    have d3 : decide (n < 1) = false := by simp; omega
    have d4 : decide (c.pg - p < n) = false := by simp; omega
    have q4 : IntKind.i64.wrap (c.pg - p) = c.pg - p := wrap_in (by omega) (by omega)
    have q5 : IntKind.i64.wrap (p + n) = p + n := wrap_in (by omega) (by omega)
    go_enter Tryz.func59, Tryz.ntmps59
    go_wp2_with fail
    clear e1 x2 d1 d2 d3 d4 q4
    go_loopw [11] (fun v11 wr => ∃ j : Nat, v11 = .int .i64 (p + (j : Int)) ∧ (j : Int) ≤ n ∧ More w1 wr ∧ opN c.pg c.st ws mp (n.toNat - j) (p + (j : Int)) = res) (fun v11 _ => (p + n - intOf v11).toNat)
    case atStart => exact ⟨0, by simp, by omega, More.refl _, by simpa using HRES.out⟩
    case round =>
      clear HRES
      obtain ⟨j, rfl, hj, htw, hrest⟩ := hrel
      have HT := Lib.hid htw
      have HC1 := Lib.hid (htw.block HC.out)
      have HW1 := Lib.hid (HW.out.more htw)
      clear htw
      obtain ⟨i, hi⟩ : ∃ i : Int, p + (j : Int) = i := ⟨_, rfl⟩
      rw [hi]
      have hi1 : i = p + (j : Int) := hi.symm
      by_cases hlt : i < p + n
      · have d1 : decide (i < p + n) = true := by simpa using hlt
        rw [show n.toNat - j = (n.toNat - (j + 1)) + 1 by omega, hi] at hrest
        have REST := Lib.hid (show ((decide (kindV c.pg c.st ws i = 0) && (!mp || mappedV c.pg c.st ws (ofV i))) && opN c.pg c.st ws mp (n.toNat - (j + 1)) (i + 1)) = res from hrest)
        have q6 : IntKind.i64.wrap (i + 1) = i + 1 := wrap_in (by omega) (by omega)
        have OF := Lib.hid (fun W => r_of_more i (by omega) (by omega) W)
        have KD := Lib.hid (fun W (hW : More wr W) => r9_Kind HR.out ws HH.out hl g cap i W (HW1.out.more hW))
        have MD := Lib.hid (fun W (hW : More wr W) => r_mapped HR.out ws HH.out.toTblIn hl g cap (ofV i) W (HW1.out.more hW))
        have HI := Lib.hid hi1
        clear hrest hi hi1
        by_cases hk : kindV c.pg c.st ws i = 0
        · have dk : (kindV c.pg c.st ws i != 0) = false := by simp [hk]
          cases mp with
          | false =>
            have R3 := Lib.hid (show opN c.pg c.st ws false (n.toNat - (j + 1)) (i + 1) = res from by have h := REST.out; simpa [hk] using h)
            clear hk REST
            go_wp2_with fail
            refine wp_region_more (by kernel_rfl) (by kernel_rfl) ?_
            refine wpQuiet_load_row rfl 30 _ rfl _ rfl 30 _ _ _ (fun W hW => hW.block HC1.out) Tryz.underlying30 rfl (by kernel_rfl) ?_
            iterate 7
              with_reducible refine wpQuiet_step (fun K hK => ?_)
              go_simp
              first
              | (refine hK _ ?_; clear hK K)
              | (apply Exists.intro
                 refine ⟨fun W hW => ?_, hK _ ?_⟩
                 first
                 | (go_at_call 32; exact Calls.more hW (KD.out W hW))
                 | (go_simp; try rfl)
                 clear hK K)
            iterate 8
              with_reducible refine wpQuiet_step (fun K hK => ?_)
              go_simp
              first
              | (refine hK _ ?_; clear hK K)
              | (apply Exists.intro
                 refine ⟨fun W hW => ?_, hK _ ?_⟩
                 first
                 | (go_simp; try rfl)
                 clear hK K)
            refine wpQuiet_nil ?_
            intro w4 m4
            have M4 := Lib.hid (HT.out.trans m4)
            clear m4
            go_wp2_with fail
            go_roundw
            case rel => exact ⟨j + 1, by rw [HI.out]; go_num, by have := HI.out; omega, M4.out, by have := HI.out; rw [show p + ((j + 1 : Nat) : Int) = i + 1 by omega]; exact R3.out⟩
            case measure => simp [intOf]; omega
          | true =>
            cases hm : mappedV c.pg c.st ws (ofV i) with
            | true =>
              rw [hm] at MD
              have R3 := Lib.hid (show opN c.pg c.st ws true (n.toNat - (j + 1)) (i + 1) = res from by have h := REST.out; simpa [hk, hm] using h)
              clear hk hm REST
              go_wp2_with fail
              refine wp_region_more (by kernel_rfl) (by kernel_rfl) ?_
              refine wpQuiet_load_row rfl 30 _ rfl _ rfl 30 _ _ _ (fun W hW => hW.block HC1.out) Tryz.underlying30 rfl (by kernel_rfl) ?_
              iterate 7
                with_reducible refine wpQuiet_step (fun K hK => ?_)
                go_simp
                first
                | (refine hK _ ?_; clear hK K)
                | (apply Exists.intro
                   refine ⟨fun W hW => ?_, hK _ ?_⟩
                   first
                   | (go_at_call 32; exact Calls.more hW (KD.out W hW))
                   | (go_simp; try rfl)
                   clear hK K)
              refine wpQuiet_load_row rfl 30 _ rfl _ rfl 30 _ _ _ (fun W hW => hW.block HC1.out) Tryz.underlying30 rfl (by kernel_rfl) ?_
              iterate 7
                with_reducible refine wpQuiet_step (fun K hK => ?_)
                go_simp
                first
                | (refine hK _ ?_; clear hK K)
                | (apply Exists.intro
                   refine ⟨fun W hW => ?_, hK _ ?_⟩
                   first
                   | (go_at_call 85; exact Calls.more hW (OF.out W))
                   | (go_at_call 84; exact Calls.more hW (MD.out W hW))
                   | (go_simp; try rfl)
                   clear hK K)
              refine wpQuiet_nil ?_
              intro w4 m4
              have M4 := Lib.hid (HT.out.trans m4)
              clear m4
              go_wp2_with fail
              go_roundw
              case rel => exact ⟨j + 1, by rw [HI.out]; go_num, by have := HI.out; omega, M4.out, by have := HI.out; rw [show p + ((j + 1 : Nat) : Int) = i + 1 by omega]; exact R3.out⟩
              case measure => simp [intOf]; omega
            | false =>
              rw [hm] at MD
              have HF := Lib.hid (show false = res from by have h := REST.out; simpa [hk, hm] using h)
              clear hk hm REST
              go_wp2_with fail
              refine wp_region_more (by kernel_rfl) (by kernel_rfl) ?_
              refine wpQuiet_load_row rfl 30 _ rfl _ rfl 30 _ _ _ (fun W hW => hW.block HC1.out) Tryz.underlying30 rfl (by kernel_rfl) ?_
              iterate 7
                with_reducible refine wpQuiet_step (fun K hK => ?_)
                go_simp
                first
                | (refine hK _ ?_; clear hK K)
                | (apply Exists.intro
                   refine ⟨fun W hW => ?_, hK _ ?_⟩
                   first
                   | (go_at_call 32; exact Calls.more hW (KD.out W hW))
                   | (go_simp; try rfl)
                   clear hK K)
              refine wpQuiet_load_row rfl 30 _ rfl _ rfl 30 _ _ _ (fun W hW => hW.block HC1.out) Tryz.underlying30 rfl (by kernel_rfl) ?_
              iterate 7
                with_reducible refine wpQuiet_step (fun K hK => ?_)
                go_simp
                first
                | (refine hK _ ?_; clear hK K)
                | (apply Exists.intro
                   refine ⟨fun W hW => ?_, hK _ ?_⟩
                   first
                   | (go_at_call 85; exact Calls.more hW (OF.out W))
                   | (go_at_call 84; exact Calls.more hW (MD.out W hW))
                   | (go_simp; try rfl)
                   clear hK K)
              refine wpQuiet_nil ?_
              intro w4 m4
              have M4 := Lib.hid (HT.out.trans m4)
              clear m4
              go_wp2_with fail
              go_ret
              exact ⟨by have h := HF.out; subst h; rfl, HM.out.trans M4.out⟩
        · have dk : (kindV c.pg c.st ws i != 0) = true := by simpa using hk
          have HF := Lib.hid (show false = res from by have h := REST.out; simpa [hk] using h)
          clear hk REST
          go_wp2_with fail
          refine wp_region_more (by kernel_rfl) (by kernel_rfl) ?_
          refine wpQuiet_load_row rfl 30 _ rfl _ rfl 30 _ _ _ (fun W hW => hW.block HC1.out) Tryz.underlying30 rfl (by kernel_rfl) ?_
          iterate 7
            with_reducible refine wpQuiet_step (fun K hK => ?_)
            go_simp
            first
            | (refine hK _ ?_; clear hK K)
            | (apply Exists.intro
               refine ⟨fun W hW => ?_, hK _ ?_⟩
               first
               | (go_at_call 32; exact Calls.more hW (KD.out W hW))
               | (go_simp; try rfl)
               clear hK K)
          iterate 8
            with_reducible refine wpQuiet_step (fun K hK => ?_)
            go_simp
            first
            | (refine hK _ ?_; clear hK K)
            | (apply Exists.intro
               refine ⟨fun W hW => ?_, hK _ ?_⟩
               first
               | (go_simp; try rfl)
               clear hK K)
          refine wpQuiet_nil ?_
          intro w4 m4
          have M4 := Lib.hid (HT.out.trans m4)
          clear m4
          go_wp2_with fail
          go_ret
          exact ⟨by have h := HF.out; subst h; rfl, HM.out.trans M4.out⟩
      · have d1 : decide (i < p + n) = false := by simpa using hlt
        rw [show n.toNat - j = 0 by omega] at hrest
        have he : true = res := hrest
        subst he
        have FIN := Lib.hid (HM.out.trans HT.out)
        clear hrest hi hi1
        go_wp2_with fail
        go_ret
        exact ⟨rfl, FIN.out⟩
end Go.Proofs.YtogfikemodaepaaGreat

namespace Go.Proofs.YtogfikemodaepaaGreat
open Go.RowKit Go.Sort Go.Maps Go.Shelf
set_option linter.unusedVariables false
set_option linter.unusedSimpArgs false
set_option linter.unusedSectionVars false

section
variable {c : Cfg} {ws : List Int} {n step res : Int}
theorem FIN1 (n1 : 1 ≤ n) (s1 : 1 ≤ step) (hpg : 0 ≤ c.pg) {p : Int} (p0 : 0 ≤ p) (pm : p % step = 0) (ho : opV c.pg c.st ws p n true = true) (hb : ∀ q, 0 ≤ q → q < p → q % step = 0 → opV c.pg c.st ws q n true = false) (hres : (if leastV (openB c.pg c.st ws) c.pg n step = -1 then leastV (freeB c.pg c.st ws) c.pg n step else leastV (openB c.pg c.st ws) c.pg n step) = res) : p = res := by
  have h : leastV (openB c.pg c.st ws) c.pg n step = p := find_first n1 s1 hpg p0 pm true ho hb
  rw [h, if_neg (by omega)] at hres
  exact hres
theorem FIN2 (n1 : 1 ≤ n) (s1 : 1 ≤ step) (hpg : 0 ≤ c.pg) (hn : ∀ q, 0 ≤ q → q < c.pg → q % step = 0 → opV c.pg c.st ws q n true = false) {p : Int} (p0 : 0 ≤ p) (pm : p % step = 0) (ho : opV c.pg c.st ws p n false = true) (hb : ∀ q, 0 ≤ q → q < p → q % step = 0 → opV c.pg c.st ws q n false = false) (hres : (if leastV (openB c.pg c.st ws) c.pg n step = -1 then leastV (freeB c.pg c.st ws) c.pg n step else leastV (openB c.pg c.st ws) c.pg n step) = res) : p = res := by
  have h0 : leastV (openB c.pg c.st ws) c.pg n step = -1 := find_none n1 s1 hpg true hn
  have h : leastV (freeB c.pg c.st ws) c.pg n step = p := find_first n1 s1 hpg p0 pm false ho hb
  rw [h0, if_pos rfl, h] at hres
  exact hres
theorem FIN3 (n1 : 1 ≤ n) (s1 : 1 ≤ step) (hpg : 0 ≤ c.pg) (hn : ∀ q, 0 ≤ q → q < c.pg → q % step = 0 → opV c.pg c.st ws q n true = false) (hb : ∀ q, 0 ≤ q → q < c.pg → q % step = 0 → opV c.pg c.st ws q n false = false) (hres : (if leastV (openB c.pg c.st ws) c.pg n step = -1 then leastV (freeB c.pg c.st ws) c.pg n step else leastV (openB c.pg c.st ws) c.pg n step) = res) : -1 = res := by
  have h0 : leastV (openB c.pg c.st ws) c.pg n step = -1 := find_none n1 s1 hpg true hn
  have h : leastV (freeB c.pg c.st ws) c.pg n step = -1 := find_none n1 s1 hpg false hb
  rw [h0, if_pos rfl, h] at hres
  exact hres
end
set_option maxRecDepth 100000 in
set_option maxHeartbeats 2000000 in
theorem r9_Find {c : Cfg} (R : c.Ok) (ws : List Int) (H : PgIn c.pg c.st ws.length) (hl : ws.length ≤ 1000) (g cap : Nat) (n step : Int) (w : World) (hw : Ws w g cap ws) :
    Calls Tryz.prog 28 #[.agg c.cells, .slice (some ⟨g, 0, none⟩) ws.length cap, .int .i64 n, .int .i64 step] w (Gives w (.int .i64 (findV c.pg c.st n step ws))) := by
  by_cases hn : 1 ≤ n ∧ 1 ≤ step
  · obtain ⟨n1, s1⟩ := hn
    obtain ⟨res, hres⟩ : ∃ res, (if leastV (openB c.pg c.st ws) c.pg n step = -1 then leastV (freeB c.pg c.st ws) c.pg n step else leastV (openB c.pg c.st ws) c.pg n step) = res := ⟨_, rfl⟩
    rw [show findV c.pg c.st n step ws = res by unfold findV; rw [if_pos ⟨n1, s1⟩, hres]]
    have HRES := Lib.hid hres
    clear hres
    have hc := row_new w c.cells 30
    have HR := Lib.hid R
    have HH := Lib.hid H
    have hgl := hw.lt
    obtain ⟨w1, e1⟩ : ∃ w1, w.alloc (.cells c.cells 30) = w1 := ⟨_, rfl⟩
    have m1 : More w w1 := by rw [← e1]; exact (More.refl w).alloc _
    rw [e1] at hc
    have HC := Lib.hid hc
    have HM := Lib.hid m1
    have HW := Lib.hid (hw.more m1)
    have x2 : w1.cell? ⟨w.heap.size, 2, none⟩ = some (.int .i64 c.pg) := cell_more hc (More.refl _) rfl
    have X2 := Lib.hid x2
    have pg1 := R.pg1
    have pg2 := R.pg2
    clear x2 m1 hw R H hc
    have d2 : decide (n < 1) = false := by simp; omega
    have d3 : decide (step < 1) = false := by simp; omega
    have nz : (step == 0) = false := by simp; omega
    have nz1 : (step == -1) = false := by simp; omega
    go_enter Tryz.func28, Tryz.ntmps28
    go_wp2_with fail
    clear e1 d2 d3
    go_loopw [9] (fun v wr => ∃ j : Nat, v = .int .i64 (j : Int) ∧ (j : Int) ≤ c.pg ∧ More w1 wr ∧ ∀ q, 0 ≤ q → q < (j : Int) → q % step = 0 → opV c.pg c.st ws q n true = false) (fun v _ => c.pg.toNat - (intOf v).toNat)
    case atStart => exact ⟨0, rfl, by omega, (More.refl _), fun q h0 h1 => by omega⟩
    case round =>
      obtain ⟨j, rfl, hj, htw, hno⟩ := hrel
      have HT := Lib.hid htw
      have HC1 := Lib.hid (htw.block HC.out)
      have X21 := Lib.hid (htw.cell X2.out)
      have HW1 := Lib.hid (HW.out.more htw)
      have q6 : IntKind.i64.wrap ((j : Int) + 1) = (j : Int) + 1 := wrap_in (by omega) (by omega)
      have HNO := Lib.hid hno
      clear htw hno
      by_cases hlt : (j : Int) < c.pg
      · have d1 : decide ((j : Int) < c.pg) = true := by simpa using hlt
        by_cases z : (j : Int).tmod step = 0
        · have dz : ((j : Int).tmod step == 0) = true := by simp [z]
          have z3 : (j : Int) % step = 0 := by rwa [Int.tmod_eq_emod_of_nonneg (by omega)] at z
          have Z3 := Lib.hid z3
          clear z dz
          go_wp2_with (first | (first | (refine wpList_load_row rfl 30 _ rfl _ rfl 30 _ _ _ HC1.out Tryz.underlying30 rfl (by kernel_rfl) ?_) | (refine wpList_load_rowG rfl 30 _ rfl _ rfl 30 _ _ _ HC1.out Tryz.underlying30 rfl (by kernel_rfl) ?_)) | (refine wpList_load_int rfl 3 _ rfl w.heap.size _ rfl .i64 Tryz.underlying3 _ X21.out ?_))
          refine (r9_open HR.out ws HH.out hl g cap (j : Int) n true wr HW1.out).mono ?_
          cases ho : opV c.pg c.st ws (j : Int) n true with
          | true =>
            rintro e w3 ⟨rfl, h3⟩
            have M3 := Lib.hid (HM.out.trans (HT.out.trans h3))
            have hfin := FIN1 n1 s1 (by omega) (by omega) Z3.out ho HNO.out HRES.out
            have HF := Lib.hid hfin
            clear h3 ho hfin
            go_wp2_with fail
            go_ret
            exact ⟨by have h := HF.out; subst h; rfl, M3.out⟩
          | false =>
            rintro e w3 ⟨rfl, h3⟩
            have M3 := Lib.hid (HT.out.trans h3)
            have NO := Lib.hid (show ∀ q, 0 ≤ q → q < ((j + 1 : Nat) : Int) → q % step = 0 → opV c.pg c.st ws q n true = false from fun q h0 h1 hq => by
              by_cases e : q = (j : Int)
              · rw [e]; exact ho
              · exact HNO.out q h0 (by omega) hq)
            clear h3 ho
            go_wp2_with fail
            go_roundw
            case rel => exact ⟨j + 1, by go_num, by omega, M3.out, NO.out⟩
            case measure => simp [intOf]; omega
        · have dz : ((j : Int).tmod step == 0) = false := by simp [z]
          have z3 : ¬ (j : Int) % step = 0 := by rwa [Int.tmod_eq_emod_of_nonneg (by omega)] at z
          have NO := Lib.hid (show ∀ q, 0 ≤ q → q < ((j + 1 : Nat) : Int) → q % step = 0 → opV c.pg c.st ws q n true = false from fun q h0 h1 hq => by
            by_cases e : q = (j : Int)
            · rw [e] at hq; exact absurd hq z3
            · exact HNO.out q h0 (by omega) hq)
          have dz1 : ((j : Int) % step == 0) = false := by simpa using z3
          have dz2 : decide ((j : Int) % step = 0) = false := by simpa using z3
          clear z dz
          go_wp2_with (refine wpList_load_int rfl 3 _ rfl w.heap.size _ rfl .i64 Tryz.underlying3 _ X21.out ?_)
          go_roundw
          case rel => exact ⟨j + 1, by go_num, by omega, HT.out, NO.out⟩
          case measure => simp [intOf]; omega
      · have d1 : decide ((j : Int) < c.pg) = false := by simpa using hlt
        have NO := Lib.hid (show ∀ q, 0 ≤ q → q < c.pg → q % step = 0 → opV c.pg c.st ws q n true = false from fun q h0 h1 hq => HNO.out q h0 (by omega) hq)
        have TT := Lib.hid HT.out
        clear hlt
        skip
        clear HNO HT HC1 HW1 q6
        have NO1 := NO
        go_wp2_with (refine wpList_load_int rfl 3 _ rfl w.heap.size _ rfl .i64 Tryz.underlying3 _ X21.out ?_)
        clear d1 NO X21
        go_loopw [10] (fun v wr => ∃ j : Nat, v = .int .i64 (j : Int) ∧ (j : Int) ≤ c.pg ∧ More w1 wr ∧ ∀ q, 0 ≤ q → q < (j : Int) → q % step = 0 → opV c.pg c.st ws q n false = false) (fun v _ => c.pg.toNat - (intOf v).toNat)
        case atStart => exact ⟨0, rfl, by omega, TT.out, fun q h0 h1 => by omega⟩
        case round =>
          obtain ⟨j, rfl, hj, htw, hno⟩ := hrel
          have HT := Lib.hid htw
          have HC1 := Lib.hid (htw.block HC.out)
          have X21 := Lib.hid (htw.cell X2.out)
          have HW1 := Lib.hid (HW.out.more htw)
          have q6 : IntKind.i64.wrap ((j : Int) + 1) = (j : Int) + 1 := wrap_in (by omega) (by omega)
          have HNO := Lib.hid hno
          clear htw hno
          by_cases hlt : (j : Int) < c.pg
          · have d1 : decide ((j : Int) < c.pg) = true := by simpa using hlt
            by_cases z : (j : Int).tmod step = 0
            · have dz : ((j : Int).tmod step == 0) = true := by simp [z]
              have z3 : (j : Int) % step = 0 := by rwa [Int.tmod_eq_emod_of_nonneg (by omega)] at z
              have Z3 := Lib.hid z3
              clear z dz
              go_wp2_with (first | (first | (refine wpList_load_row rfl 30 _ rfl _ rfl 30 _ _ _ HC1.out Tryz.underlying30 rfl (by kernel_rfl) ?_) | (refine wpList_load_rowG rfl 30 _ rfl _ rfl 30 _ _ _ HC1.out Tryz.underlying30 rfl (by kernel_rfl) ?_)) | (refine wpList_load_int rfl 3 _ rfl w.heap.size _ rfl .i64 Tryz.underlying3 _ X21.out ?_))
              refine (r9_open HR.out ws HH.out hl g cap (j : Int) n false wr HW1.out).mono ?_
              cases ho : opV c.pg c.st ws (j : Int) n false with
              | true =>
                rintro e w3 ⟨rfl, h3⟩
                have M3 := Lib.hid (HM.out.trans (HT.out.trans h3))
                have hfin := FIN2 n1 s1 (by omega) NO1.out (by omega) Z3.out ho HNO.out HRES.out
                have HF := Lib.hid hfin
                clear h3 ho hfin
                go_wp2_with fail
                go_ret
                exact ⟨by have h := HF.out; subst h; rfl, M3.out⟩
              | false =>
                rintro e w3 ⟨rfl, h3⟩
                have M3 := Lib.hid (HT.out.trans h3)
                have NO := Lib.hid (show ∀ q, 0 ≤ q → q < ((j + 1 : Nat) : Int) → q % step = 0 → opV c.pg c.st ws q n false = false from fun q h0 h1 hq => by
                  by_cases e : q = (j : Int)
                  · rw [e]; exact ho
                  · exact HNO.out q h0 (by omega) hq)
                clear h3 ho
                go_wp2_with fail
                go_roundw
                case rel => exact ⟨j + 1, by go_num, by omega, M3.out, NO.out⟩
                case measure => simp [intOf]; omega
            · have dz : ((j : Int).tmod step == 0) = false := by simp [z]
              have z3 : ¬ (j : Int) % step = 0 := by rwa [Int.tmod_eq_emod_of_nonneg (by omega)] at z
              have NO := Lib.hid (show ∀ q, 0 ≤ q → q < ((j + 1 : Nat) : Int) → q % step = 0 → opV c.pg c.st ws q n false = false from fun q h0 h1 hq => by
                by_cases e : q = (j : Int)
                · rw [e] at hq; exact absurd hq z3
                · exact HNO.out q h0 (by omega) hq)
              have dz1 : ((j : Int) % step == 0) = false := by simpa using z3
              have dz2 : decide ((j : Int) % step = 0) = false := by simpa using z3
              clear z dz
              go_wp2_with (refine wpList_load_int rfl 3 _ rfl w.heap.size _ rfl .i64 Tryz.underlying3 _ X21.out ?_)
              go_roundw
              case rel => exact ⟨j + 1, by go_num, by omega, HT.out, NO.out⟩
              case measure => simp [intOf]; omega
          · have d1 : decide ((j : Int) < c.pg) = false := by simpa using hlt
            have NO := Lib.hid (show ∀ q, 0 ≤ q → q < c.pg → q % step = 0 → opV c.pg c.st ws q n false = false from fun q h0 h1 hq => HNO.out q h0 (by omega) hq)
            have TT := Lib.hid HT.out
            clear hlt
            skip
            have HF := Lib.hid (FIN3 n1 s1 (by omega) NO1.out NO.out HRES.out)
            go_wp2_with (refine wpList_load_int rfl 3 _ rfl w.heap.size _ rfl .i64 Tryz.underlying3 _ X21.out ?_)
            go_ret
            exact ⟨by have h := HF.out; subst h; rfl, HM.out.trans TT.out⟩
  · have d : n < 1 ∨ step < 1 := by omega
    rw [show findV c.pg c.st n step ws = -1 by unfold findV; rw [if_neg hn]]
    clear hn
    have hc := row_new w c.cells 30
    have HR := Lib.hid R
    have HH := Lib.hid H
    have hgl := hw.lt
    obtain ⟨w1, e1⟩ : ∃ w1, w.alloc (.cells c.cells 30) = w1 := ⟨_, rfl⟩
    have m1 : More w w1 := by rw [← e1]; exact (More.refl w).alloc _
    rw [e1] at hc
    have HC := Lib.hid hc
    have HM := Lib.hid m1
    have HW := Lib.hid (hw.more m1)
    have x2 : w1.cell? ⟨w.heap.size, 2, none⟩ = some (.int .i64 c.pg) := cell_more hc (More.refl _) rfl
    have X2 := Lib.hid x2
    have pg1 := R.pg1
    have pg2 := R.pg2
    clear x2 m1 hw R H hc
    by_cases h0 : n < 1
    · have d2 : decide (n < 1) = true := by simpa using h0
      go_enter Tryz.func28, Tryz.ntmps28
      go_wp2_with fail
      go_ret
      exact ⟨rfl, HM.out⟩
    · have d2 : decide (n < 1) = false := by simpa using h0
      have d3 : decide (step < 1) = true := by simp; omega
      go_enter Tryz.func28, Tryz.ntmps28
      go_wp2_with fail
      go_ret
      exact ⟨rfl, HM.out⟩
end Go.Proofs.YtogfikemodaepaaGreat

namespace Go.Proofs.YtogfikemodaepaaGreat
open Go.RowKit Go.Sort Go.Maps Go.Shelf
set_option linter.unusedVariables false
set_option linter.unusedSimpArgs false
set_option linter.unusedSectionVars false

set_option maxRecDepth 100000 in
set_option maxHeartbeats 2000000 in
theorem r9_Take {c : Cfg} (R : c.Ok) (ws : List Int) (H : PgIn c.pg c.st ws.length) (hl : ws.length ≤ 1000) (g cap : Nat) (p n k : Int) (hp64 : W64 p) (w : World) (hw : Ws w g cap ws) :
    Calls Tryz.prog 29 #[.agg c.cells, .slice (some ⟨g, 0, none⟩) ws.length cap, .int .i64 p, .int .i64 n, .int .i64 k] w (RowTo w g cap (.bool (takeV c.pg c.st p n k ws).1) (takeV c.pg c.st p n k ws).2) := by
  have OP := Lib.hid (fun W hW => by have := r9_open R ws H hl g cap p n false W hW; rw [opV_vac] at this; exact this)
  cases hv : vacB c.pg c.st p n ws with
  | false =>
    rw [show takeV c.pg c.st p n k ws = (false, ws) by unfold takeV; rw [hv, Bool.and_false]; rfl]
    rw [hv] at OP
    clear hv
    have hc := row_new w c.cells 30
    have HR := Lib.hid R
    have HH := Lib.hid H
    have hgl := hw.lt
    obtain ⟨w1, e1⟩ : ∃ w1, w.alloc (.cells c.cells 30) = w1 := ⟨_, rfl⟩
    have m1 : More w w1 := by rw [← e1]; exact (More.refl w).alloc _
    rw [e1] at hc
    have HC := Lib.hid hc
    have HM := Lib.hid m1
    have HW := Lib.hid (hw.more m1)
    have x2 : w1.cell? ⟨w.heap.size, 2, none⟩ = some (.int .i64 c.pg) := cell_more hc (More.refl _) rfl
    have X2 := Lib.hid x2
    have pg1 := R.pg1
    have pg2 := R.pg2
    clear x2 m1 hw R H hc
    go_enter Tryz.func29, Tryz.ntmps29
    go_wp2_with (first | (refine wpList_load_row rfl 30 _ rfl _ rfl 30 _ _ _ HC.out Tryz.underlying30 rfl (by kernel_rfl) ?_) | (refine wpList_load_rowG rfl 30 _ rfl _ rfl 30 _ _ _ HC.out Tryz.underlying30 rfl (by kernel_rfl) ?_))
    clear e1
    refine (OP.out _ HW.out).mono ?_
    rintro e w3 ⟨rfl, h3⟩
    have M3 := Lib.hid h3
    clear h3
    go_wp2_with fail
    go_ret
    exact ⟨rfl, HW.out.more M3.out, turned_more (HM.out.trans M3.out)⟩
  | true =>
    have HV := Lib.hid hv
    rw [hv] at OP
    cases hf : fitB k n with
    | false =>
      rw [show takeV c.pg c.st p n k ws = (false, ws) by unfold takeV; rw [hf, Bool.false_and]; rfl]
      have hf2 : ¬ (k = 6 ∨ (1 ≤ k ∧ k ≤ 5 ∧ n = 1)) := fun q => by rw [fit_iff.2 q] at hf; cases hf
      clear hv hf
      have hc := row_new w c.cells 30
      have HR := Lib.hid R
      have HH := Lib.hid H
      have hgl := hw.lt
      obtain ⟨w1, e1⟩ : ∃ w1, w.alloc (.cells c.cells 30) = w1 := ⟨_, rfl⟩
      have m1 : More w w1 := by rw [← e1]; exact (More.refl w).alloc _
      rw [e1] at hc
      have HC := Lib.hid hc
      have HM := Lib.hid m1
      have HW := Lib.hid (hw.more m1)
      have x2 : w1.cell? ⟨w.heap.size, 2, none⟩ = some (.int .i64 c.pg) := cell_more hc (More.refl _) rfl
      have X2 := Lib.hid x2
      have pg1 := R.pg1
      have pg2 := R.pg2
      clear x2 m1 hw R H hc
      by_cases k1 : k < 1
      · have d1 : decide (k < 1) = true := by simpa using k1
        clear k1 hf2
        go_enter Tryz.func29, Tryz.ntmps29
        go_wp2_with (first | (refine wpList_load_row rfl 30 _ rfl _ rfl 30 _ _ _ HC.out Tryz.underlying30 rfl (by kernel_rfl) ?_) | (refine wpList_load_rowG rfl 30 _ rfl _ rfl 30 _ _ _ HC.out Tryz.underlying30 rfl (by kernel_rfl) ?_))
        clear e1
        refine (OP.out _ HW.out).mono ?_
        rintro e w3 ⟨rfl, h3⟩
        have M3 := Lib.hid h3
        clear h3
        go_wp2_with fail
        go_ret
        exact ⟨rfl, HW.out.more M3.out, turned_more (HM.out.trans M3.out)⟩
      · have d1 : decide (k < 1) = false := by simp; omega
        by_cases k6 : 6 < k
        · have d2 : decide (6 < k) = true := by simpa using k6
          clear k1 k6 hf2
          go_enter Tryz.func29, Tryz.ntmps29
          go_wp2_with (first | (refine wpList_load_row rfl 30 _ rfl _ rfl 30 _ _ _ HC.out Tryz.underlying30 rfl (by kernel_rfl) ?_) | (refine wpList_load_rowG rfl 30 _ rfl _ rfl 30 _ _ _ HC.out Tryz.underlying30 rfl (by kernel_rfl) ?_))
          clear e1
          refine (OP.out _ HW.out).mono ?_
          rintro e w3 ⟨rfl, h3⟩
          have M3 := Lib.hid h3
          clear h3
          go_wp2_with fail
          go_ret
          exact ⟨rfl, HW.out.more M3.out, turned_more (HM.out.trans M3.out)⟩
        · have d2 : decide (6 < k) = false := by simp; omega
          have d3 : decide (k < 6) = true := by simp; omega
          have d4 : (n != 1) = true := by simp; omega
          clear k1 k6 hf2
          go_enter Tryz.func29, Tryz.ntmps29
          go_wp2_with (first | (refine wpList_load_row rfl 30 _ rfl _ rfl 30 _ _ _ HC.out Tryz.underlying30 rfl (by kernel_rfl) ?_) | (refine wpList_load_rowG rfl 30 _ rfl _ rfl 30 _ _ _ HC.out Tryz.underlying30 rfl (by kernel_rfl) ?_))
          clear e1
          refine (OP.out _ HW.out).mono ?_
          rintro e w3 ⟨rfl, h3⟩
          have M3 := Lib.hid h3
          clear h3
          go_wp2_with fail
          go_ret
          exact ⟨rfl, HW.out.more M3.out, turned_more (HM.out.trans M3.out)⟩
    | true =>
      have hf2 := fit_iff.1 hf
      have hth := (vacB_iff.1 hv).1
      obtain ⟨t0, t1, t2⟩ := there_iff.1 hth
      obtain ⟨a0, ha0⟩ : ∃ a0, (ensureW c.pg c.st p n ws).2 = a0 := ⟨_, rfl⟩
      have al : a0.length = ws.length := by rw [← ha0]; exact (tab_ens H hth rfl).len
      have TK : Hid (takeV c.pg c.st p n k ws = (true, put3V c.pg c.st p k (if k = 6 then n else 0) (putNV c.pg c.st 7 n.toNat p a0))) := Lib.hid (by
        unfold takeV
        rw [hf, hv, take_same H al hth, ha0]
        rfl)
      have ST := Lib.hid (fun (a : List Int) (e : a.length = ws.length) (q : Int) (hq : isPage c.pg q = true) (k x : Int) (W : World) (hW : Ws W g cap a) => by have := r9_set R a (by rw [e]; exact H) (by omega) g cap q k x hq W hW; rw [e] at this; exact this)
      have EN := Lib.hid (fun W hW => by have := r_ensure R ws H.toTblIn hl g cap p n hp64 W hW; rw [ha0] at this; exact this)
      have HA : Hid (∀ m : Nat, (putNV c.pg c.st 7 m p a0).length = ws.length) := Lib.hid fun m => (putN_len H 7 m p a0).trans al
      have HAL := Lib.hid al
      rw [TK.out]
      have q5 : IntKind.i64.wrap (p + n) = p + n := by have := R.pg2; exact wrap_in (by omega) (by omega)
      clear ha0 al hv hf hth
      have SN := Lib.hid (fun (j : Nat) => putN_snoc H 7 j p a0)
      clear TK
      have hc := row_new w c.cells 30
      have HR := Lib.hid R
      have HH := Lib.hid H
      have hgl := hw.lt
      obtain ⟨w1, e1⟩ : ∃ w1, w.alloc (.cells c.cells 30) = w1 := ⟨_, rfl⟩
      have m1 : More w w1 := by rw [← e1]; exact (More.refl w).alloc _
      rw [e1] at hc
      have HC := Lib.hid hc
      have HM := Lib.hid m1
      have HW := Lib.hid (hw.more m1)
      have x2 : w1.cell? ⟨w.heap.size, 2, none⟩ = some (.int .i64 c.pg) := cell_more hc (More.refl _) rfl
      have X2 := Lib.hid x2
      have pg1 := R.pg1
      have pg2 := R.pg2
      clear x2 m1 hw R H hc
      have KC : Hid (∀ W, Turned (fun b => b = g) w1 W → W.heap[w.heap.size]? = some (.cells c.cells 30 (0, 0))) := Lib.hid fun W t => (t.block _ (lt_of_heap HC.out) (by omega)).trans HC.out
      have d1 : decide (k < 1) = false := by simp; omega
      have d2 : decide (6 < k) = false := by simp; omega
      obtain ⟨b3, hb3⟩ : ∃ b3, decide (k < 6) = b3 := ⟨_, rfl⟩
      have d4 : b3 = true → (n != 1) = false := fun e => by rw [← hb3] at e; have := of_decide_eq_true e; simp; omega
      go_enter Tryz.func29, Tryz.ntmps29
      cases b3 with
      | true =>
        have d4 := d4 rfl
        have hk : (k == 6) = false := by have := of_decide_eq_true hb3; simp; omega
        have hx : (if k = 6 then n else 0) = 0 := if_neg (by have := of_decide_eq_true hb3; omega)
        rw [hx]
        clear hx
        go_wp2_with (first | (refine wpList_load_row rfl 30 _ rfl _ rfl 30 _ _ _ HC.out Tryz.underlying30 rfl (by kernel_rfl) ?_) | (refine wpList_load_rowG rfl 30 _ rfl _ rfl 30 _ _ _ HC.out Tryz.underlying30 rfl (by kernel_rfl) ?_))
        clear e1
        refine (OP.out _ HW.out).mono ?_
        rintro e w3 ⟨rfl, h3⟩
        have M3 := Lib.hid h3
        have HC3 := Lib.hid (h3.block HC.out)
        clear h3
        go_wp2_with (first | (refine wpList_load_row rfl 30 _ rfl _ rfl 30 _ _ _ HC3.out Tryz.underlying30 rfl (by kernel_rfl) ?_) | (refine wpList_load_rowG rfl 30 _ rfl _ rfl 30 _ _ _ HC3.out Tryz.underlying30 rfl (by kernel_rfl) ?_))
        refine (EN.out _ (HW.out.more M3.out)).mono ?_
        rintro e w4 ⟨rfl, hw4, ht4⟩
        have W4 := Lib.hid hw4
        have T4 : Hid (Turned (fun b => b = g) w1 w4) := Lib.hid ((turned_more M3.out).trans ht4)
        clear hw4 ht4
        go_wp2_with fail
        go_loopw [11] (fun v11 wr => ∃ j : Nat, v11 = .int .i64 (p + (j : Int)) ∧ (j : Int) ≤ n ∧ Ws wr g cap (putNV c.pg c.st 7 j p a0) ∧ Turned (fun b => b = g) w1 wr) (fun v11 _ => (p + n - intOf v11).toNat)
        case atStart => exact ⟨0, by simp, by omega, W4.out, T4.out⟩
        case round =>
          obtain ⟨j, rfl, hj, hwr, htr⟩ := hrel
          have WR := Lib.hid hwr
          have TR := Lib.hid htr
          have HC5 := Lib.hid (KC.out _ htr)
          clear hwr htr
          obtain ⟨i, hi⟩ : ∃ i : Int, p + (j : Int) = i := ⟨_, rfl⟩
          rw [hi]
          by_cases hlt : i < p + n
          · have d5 : decide (i < p + n) = true := by simpa using hlt
            have q6 : IntKind.i64.wrap (i + 1) = i + 1 := wrap_in (by omega) (by omega)
            have SJ := Lib.hid (SN.out j)
            have HI := Lib.hid hi
            rw [hi] at SJ
            clear hi
            go_wp2_with (first | (refine wpList_load_row rfl 30 _ rfl _ rfl 30 _ _ _ HC5.out Tryz.underlying30 rfl (by kernel_rfl) ?_) | (refine wpList_load_rowG rfl 30 _ rfl _ rfl 30 _ _ _ HC5.out Tryz.underlying30 rfl (by kernel_rfl) ?_))
            refine (ST.out _ (HA.out j) i (isPage_iff.2 ⟨by have := HI.out; omega, by omega⟩) 7 0 wr WR.out).mono ?_
            rintro e w5 ⟨rfl, hw5, ht5⟩
            have W5 := Lib.hid hw5
            have T5 := Lib.hid (TR.out.trans ht5)
            clear hw5 ht5
            go_wp2_with fail
            go_roundw
            case rel => exact ⟨j + 1, by rw [show p + ((j + 1 : Nat) : Int) = i + 1 by have := HI.out; omega], by have := HI.out; omega, by rw [SJ.out]; exact W5.out, T5.out⟩
            case measure => simp [intOf]; omega
          · have d5 : decide (i < p + n) = false := by simpa using hlt
            have hjn : j = n.toNat := by omega
            clear hi hlt
            subst hjn
            go_wp2_with (first | (refine wpList_load_row rfl 30 _ rfl _ rfl 30 _ _ _ HC5.out Tryz.underlying30 rfl (by kernel_rfl) ?_) | (refine wpList_load_rowG rfl 30 _ rfl _ rfl 30 _ _ _ HC5.out Tryz.underlying30 rfl (by kernel_rfl) ?_))
            refine (ST.out _ (HA.out _) p (isPage_iff.2 ⟨by omega, by omega⟩) k 0 wr WR.out).mono ?_
            rintro e w5 ⟨rfl, hw5, ht5⟩
            have W5 := Lib.hid hw5
            have T5 := Lib.hid (TR.out.trans ht5)
            clear hw5 ht5
            go_wp2_with fail
            go_ret
            exact ⟨rfl, W5.out, (turned_more HM.out).trans T5.out⟩
      | false =>
        clear d4
        have hk6 : k = 6 := by have := of_decide_eq_false hb3; omega
        have hk : (k == 6) = true := by simp [hk6]
        rw [if_pos hk6]
        clear hk6
        go_wp2_with (first | (refine wpList_load_row rfl 30 _ rfl _ rfl 30 _ _ _ HC.out Tryz.underlying30 rfl (by kernel_rfl) ?_) | (refine wpList_load_rowG rfl 30 _ rfl _ rfl 30 _ _ _ HC.out Tryz.underlying30 rfl (by kernel_rfl) ?_))
        clear e1
        refine (OP.out _ HW.out).mono ?_
        rintro e w3 ⟨rfl, h3⟩
        have M3 := Lib.hid h3
        have HC3 := Lib.hid (h3.block HC.out)
        clear h3
        go_wp2_with (first | (refine wpList_load_row rfl 30 _ rfl _ rfl 30 _ _ _ HC3.out Tryz.underlying30 rfl (by kernel_rfl) ?_) | (refine wpList_load_rowG rfl 30 _ rfl _ rfl 30 _ _ _ HC3.out Tryz.underlying30 rfl (by kernel_rfl) ?_))
        refine (EN.out _ (HW.out.more M3.out)).mono ?_
        rintro e w4 ⟨rfl, hw4, ht4⟩
        have W4 := Lib.hid hw4
        have T4 : Hid (Turned (fun b => b = g) w1 w4) := Lib.hid ((turned_more M3.out).trans ht4)
        clear hw4 ht4
        go_wp2_with fail
        go_loopw [11] (fun v11 wr => ∃ j : Nat, v11 = .int .i64 (p + (j : Int)) ∧ (j : Int) ≤ n ∧ Ws wr g cap (putNV c.pg c.st 7 j p a0) ∧ Turned (fun b => b = g) w1 wr) (fun v11 _ => (p + n - intOf v11).toNat)
        case atStart => exact ⟨0, by simp, by omega, W4.out, T4.out⟩
        case round =>
          obtain ⟨j, rfl, hj, hwr, htr⟩ := hrel
          have WR := Lib.hid hwr
          have TR := Lib.hid htr
          have HC5 := Lib.hid (KC.out _ htr)
          clear hwr htr
          obtain ⟨i, hi⟩ : ∃ i : Int, p + (j : Int) = i := ⟨_, rfl⟩
          rw [hi]
          by_cases hlt : i < p + n
          · have d5 : decide (i < p + n) = true := by simpa using hlt
            have q6 : IntKind.i64.wrap (i + 1) = i + 1 := wrap_in (by omega) (by omega)
            have SJ := Lib.hid (SN.out j)
            have HI := Lib.hid hi
            rw [hi] at SJ
            clear hi
            go_wp2_with (first | (refine wpList_load_row rfl 30 _ rfl _ rfl 30 _ _ _ HC5.out Tryz.underlying30 rfl (by kernel_rfl) ?_) | (refine wpList_load_rowG rfl 30 _ rfl _ rfl 30 _ _ _ HC5.out Tryz.underlying30 rfl (by kernel_rfl) ?_))
            refine (ST.out _ (HA.out j) i (isPage_iff.2 ⟨by have := HI.out; omega, by omega⟩) 7 0 wr WR.out).mono ?_
            rintro e w5 ⟨rfl, hw5, ht5⟩
            have W5 := Lib.hid hw5
            have T5 := Lib.hid (TR.out.trans ht5)
            clear hw5 ht5
            go_wp2_with fail
            go_roundw
            case rel => exact ⟨j + 1, by rw [show p + ((j + 1 : Nat) : Int) = i + 1 by have := HI.out; omega], by have := HI.out; omega, by rw [SJ.out]; exact W5.out, T5.out⟩
            case measure => simp [intOf]; omega
          · have d5 : decide (i < p + n) = false := by simpa using hlt
            have hjn : j = n.toNat := by omega
            clear hi hlt
            subst hjn
            go_wp2_with (first | (refine wpList_load_row rfl 30 _ rfl _ rfl 30 _ _ _ HC5.out Tryz.underlying30 rfl (by kernel_rfl) ?_) | (refine wpList_load_rowG rfl 30 _ rfl _ rfl 30 _ _ _ HC5.out Tryz.underlying30 rfl (by kernel_rfl) ?_))
            refine (ST.out _ (HA.out _) p (isPage_iff.2 ⟨by omega, by omega⟩) k n wr WR.out).mono ?_
            rintro e w5 ⟨rfl, hw5, ht5⟩
            have W5 := Lib.hid hw5
            have T5 := Lib.hid (TR.out.trans ht5)
            clear hw5 ht5
            go_wp2_with fail
            go_ret
            exact ⟨rfl, W5.out, (turned_more HM.out).trans T5.out⟩
end Go.Proofs.YtogfikemodaepaaGreat

namespace Go.Proofs.YtogfikemodaepaaGreat
open Go.RowKit Go.Sort Go.Maps Go.Shelf
set_option linter.unusedVariables false
set_option linter.unusedSimpArgs false
set_option linter.unusedSectionVars false

set_option maxRecDepth 100000 in
set_option maxHeartbeats 2000000 in
theorem r9_Drop {c : Cfg} (R : c.Ok) (ws : List Int) (H : PgIn c.pg c.st ws.length) (hl : ws.length ≤ 1000) (wf : Wf c.pg c.st ws) (g cap : Nat) (p : Int) (w : World) (hw : Ws w g cap ws) :
    Calls Tryz.prog 30 #[.agg c.cells, .slice (some ⟨g, 0, none⟩) ws.length cap, .int .i64 p] w (RowTo w g cap (.int .i64 (dropV c.pg c.st p ws).1) (dropV c.pg c.st p ws).2) := by
  have KD := Lib.hid (fun (a : List Int) (e : a.length = ws.length) (q : Int) (W : World) (hW : Ws W g cap a) => by have := r9_Kind R a (by rw [e]; exact H) (by omega) g cap q W hW; rw [e] at this; exact this)
  have ST := Lib.hid (fun (a : List Int) (e : a.length = ws.length) (q : Int) (hq : isPage c.pg q = true) (k x : Int) (W : World) (hW : Ws W g cap a) => by have := r9_set R a (by rw [e]; exact H) (by omega) g cap q k x hq W hW; rw [e] at this; exact this)
  have K0 := Lib.hid (fun W hW => KD.out ws rfl p W hW)
  have S0 := Lib.hid (fun hq W hW => ST.out ws rfl p hq 0 0 W hW)
  obtain ⟨k, hk⟩ : ∃ k, kindV c.pg c.st ws p = k := ⟨_, rfl⟩
  rw [hk] at K0
  by_cases k1 : k < 1
  · rw [show dropV c.pg c.st p ws = (0, ws) by unfold dropV lenV; rw [hk, show clsB k = false by unfold clsB; simp; omega, if_neg (by simp), if_neg (by omega)]; rfl]
    clear hk wf
    have hc := row_new w c.cells 30
    have HR := Lib.hid R
    have HH := Lib.hid H
    have hgl := hw.lt
    obtain ⟨w1, e1⟩ : ∃ w1, w.alloc (.cells c.cells 30) = w1 := ⟨_, rfl⟩
    have m1 : More w w1 := by rw [← e1]; exact (More.refl w).alloc _
    rw [e1] at hc
    have HC := Lib.hid hc
    have HM := Lib.hid m1
    have HW := Lib.hid (hw.more m1)
    have x2 : w1.cell? ⟨w.heap.size, 2, none⟩ = some (.int .i64 c.pg) := cell_more hc (More.refl _) rfl
    have X2 := Lib.hid x2
    have pg1 := R.pg1
    have pg2 := R.pg2
    clear x2 m1 hw R H hc
    have d1 : decide (k < 1) = true := by simpa using k1
    clear k1
    go_enter Tryz.func30, Tryz.ntmps30
    go_wp2_with (first | (refine wpList_load_row rfl 30 _ rfl _ rfl 30 _ _ _ HC.out Tryz.underlying30 rfl (by kernel_rfl) ?_) | (refine wpList_load_rowG rfl 30 _ rfl _ rfl 30 _ _ _ HC.out Tryz.underlying30 rfl (by kernel_rfl) ?_))
    clear e1
    refine (K0.out _ HW.out).mono ?_
    rintro e w3 ⟨rfl, h3⟩
    have M3 := Lib.hid h3
    clear h3
    go_wp2_with fail
    go_ret
    exact ⟨rfl, HW.out.more M3.out, turned_more (HM.out.trans M3.out)⟩
  · by_cases k6 : 6 < k
    · rw [show dropV c.pg c.st p ws = (0, ws) by unfold dropV lenV; rw [hk, show clsB k = false by unfold clsB; simp; omega, if_neg (by simp), if_neg (by omega)]; rfl]
      clear hk wf
      have hc := row_new w c.cells 30
      have HR := Lib.hid R
      have HH := Lib.hid H
      have hgl := hw.lt
      obtain ⟨w1, e1⟩ : ∃ w1, w.alloc (.cells c.cells 30) = w1 := ⟨_, rfl⟩
      have m1 : More w w1 := by rw [← e1]; exact (More.refl w).alloc _
      rw [e1] at hc
      have HC := Lib.hid hc
      have HM := Lib.hid m1
      have HW := Lib.hid (hw.more m1)
      have x2 : w1.cell? ⟨w.heap.size, 2, none⟩ = some (.int .i64 c.pg) := cell_more hc (More.refl _) rfl
      have X2 := Lib.hid x2
      have pg1 := R.pg1
      have pg2 := R.pg2
      clear x2 m1 hw R H hc
      have d1 : decide (k < 1) = false := by simpa using k1
      have d2 : decide (6 < k) = true := by simpa using k6
      clear k1 k6
      go_enter Tryz.func30, Tryz.ntmps30
      go_wp2_with (first | (refine wpList_load_row rfl 30 _ rfl _ rfl 30 _ _ _ HC.out Tryz.underlying30 rfl (by kernel_rfl) ?_) | (refine wpList_load_rowG rfl 30 _ rfl _ rfl 30 _ _ _ HC.out Tryz.underlying30 rfl (by kernel_rfl) ?_))
      clear e1
      refine (K0.out _ HW.out).mono ?_
      rintro e w3 ⟨rfl, h3⟩
      have M3 := Lib.hid h3
      clear h3
      go_wp2_with fail
      go_ret
      exact ⟨rfl, HW.out.more M3.out, turned_more (HM.out.trans M3.out)⟩
    · have hpp := page_of (pg := c.pg) (st := c.st) (ws := ws) (p := p) (by omega)
      have hp := isPage_iff.2 hpp
      have d1 : decide (k < 1) = false := by simpa using k1
      have d2 : decide (6 < k) = false := by simpa using k6
      by_cases e6 : k = 6
      · obtain ⟨r1, r2, r3, r4⟩ := wf.run p (hk.trans e6)
        obtain ⟨m, hm⟩ : ∃ m : Nat, cntV c.pg c.st ws p = (m : Int) := ⟨(cntV c.pg c.st ws p).toNat, by omega⟩
        rw [hm] at r1 r2 r3 r4
        have HD : Hid (dropV c.pg c.st p ws = ((m : Int), putNV c.pg c.st 0 m p ws)) := Lib.hid (by
          have hlen : lenV c.pg c.st p ws = (m : Int) := by
            unfold lenV
            rw [hk, e6, show clsB 6 = false by decide, if_neg (by simp), if_pos rfl, hm]
            omega
          unfold dropV
          rw [hlen]
          simp)
        rw [HD.out]
        have SN := Lib.hid (fun (j : Nat) => putN_snoc H 0 j p ws)
        have HA : Hid (∀ j : Nat, (putNV c.pg c.st 0 j p ws).length = ws.length) := Lib.hid fun j => putN_len H 0 j p ws
        have KN : Hid (∀ j : Nat, (j : Int) ≤ m → kindV c.pg c.st (putNV c.pg c.st 0 j p ws) (p + (j : Int)) = kindV c.pg c.st ws (p + (j : Int))) := Lib.hid fun j hj => by
          rw [kind_putN H 0 j p ws rfl (fun i hi => isPage_iff.2 ⟨by omega, by omega⟩) (p + (j : Int)), if_neg (by omega)]
        have RUN := Lib.hid (And.intro r3 r4)
        have dk : (k == 6) = true := by simp [e6]
        clear HD hk hm wf r3 r4 k1 k6 e6
        have HP := Lib.hid hp
        clear hp
        have hc := row_new w c.cells 30
        have HR := Lib.hid R
        have HH := Lib.hid H
        have hgl := hw.lt
        obtain ⟨w1, e1⟩ : ∃ w1, w.alloc (.cells c.cells 30) = w1 := ⟨_, rfl⟩
        have m1 : More w w1 := by rw [← e1]; exact (More.refl w).alloc _
        rw [e1] at hc
        have HC := Lib.hid hc
        have HM := Lib.hid m1
        have HW := Lib.hid (hw.more m1)
        have x2 : w1.cell? ⟨w.heap.size, 2, none⟩ = some (.int .i64 c.pg) := cell_more hc (More.refl _) rfl
        have X2 := Lib.hid x2
        have pg1 := R.pg1
        have pg2 := R.pg2
        clear x2 m1 hw R H hc
        have KC : Hid (∀ W, Turned (fun b => b = g) w1 W → W.heap[w.heap.size]? = some (.cells c.cells 30 (0, 0))) := Lib.hid fun W t => (t.block _ (lt_of_heap HC.out) (by omega)).trans HC.out
        go_enter Tryz.func30, Tryz.ntmps30
        go_wp2_with (first | (refine wpList_load_row rfl 30 _ rfl _ rfl 30 _ _ _ HC.out Tryz.underlying30 rfl (by kernel_rfl) ?_) | (refine wpList_load_rowG rfl 30 _ rfl _ rfl 30 _ _ _ HC.out Tryz.underlying30 rfl (by kernel_rfl) ?_))
        clear e1
        refine (K0.out _ HW.out).mono ?_
        rintro e w3 ⟨rfl, h3⟩
        have M3 := Lib.hid h3
        have HC3 := Lib.hid (h3.block HC.out)
        clear h3
        go_wp2_with (first | (refine wpList_load_row rfl 30 _ rfl _ rfl 30 _ _ _ HC3.out Tryz.underlying30 rfl (by kernel_rfl) ?_) | (refine wpList_load_rowG rfl 30 _ rfl _ rfl 30 _ _ _ HC3.out Tryz.underlying30 rfl (by kernel_rfl) ?_))
        refine (S0.out HP.out _ (HW.out.more M3.out)).mono ?_
        rintro e w4 ⟨rfl, hw4, ht4⟩
        have W4 := Lib.hid hw4
        have T4 : Hid (Turned (fun b => b = g) w1 w4) := Lib.hid ((turned_more M3.out).trans ht4)
        clear hw4 ht4
        go_wp2_with fail
        go_loopw [8] (fun v8 wr => ∃ j : Nat, v8 = .int .i64 (j : Int) ∧ 1 ≤ j ∧ j ≤ m ∧ Ws wr g cap (putNV c.pg c.st 0 j p ws) ∧ Turned (fun b => b = g) w1 wr) (fun v8 _ => m - (intOf v8).toNat)
        case atStart => exact ⟨1, rfl, by omega, by omega, W4.out, T4.out⟩
        case round =>
          obtain ⟨j, rfl, hj1, hj, hwr, htr⟩ := hrel
          have WR := Lib.hid hwr
          have TR := Lib.hid htr
          have HC5 := Lib.hid (KC.out _ htr)
          have q5 : IntKind.i64.wrap (p + (j : Int)) = p + (j : Int) := wrap_in (by omega) (by omega)
          have q6 : IntKind.i64.wrap ((j : Int) + 1) = (j : Int) + 1 := wrap_in (by omega) (by omega)
          have KJ := Lib.hid (fun W hW => by have := KD.out _ (HA.out j) (p + (j : Int)) W hW; rw [KN.out j (by omega)] at this; exact this)
          clear hwr htr
          by_cases hlt : j < m
          · have h7 := RUN.out.1 (p + (j : Int)) (by omega) (by omega)
            rw [h7] at KJ
            have SJ := Lib.hid (SN.out j)
            clear h7
            go_wp2_with (first | (refine wpList_load_row rfl 30 _ rfl _ rfl 30 _ _ _ HC5.out Tryz.underlying30 rfl (by kernel_rfl) ?_) | (refine wpList_load_rowG rfl 30 _ rfl _ rfl 30 _ _ _ HC5.out Tryz.underlying30 rfl (by kernel_rfl) ?_))
            refine (KJ.out wr WR.out).mono ?_
            rintro e w5 ⟨rfl, h5⟩
            have W5 := Lib.hid (WR.out.more h5)
            have T5 := Lib.hid (TR.out.trans (turned_more h5))
            have HC6 := Lib.hid (KC.out _ T5.out)
            clear h5
            go_wp2_with (first | (refine wpList_load_row rfl 30 _ rfl _ rfl 30 _ _ _ HC6.out Tryz.underlying30 rfl (by kernel_rfl) ?_) | (refine wpList_load_rowG rfl 30 _ rfl _ rfl 30 _ _ _ HC6.out Tryz.underlying30 rfl (by kernel_rfl) ?_))
            refine (ST.out _ (HA.out j) (p + (j : Int)) (isPage_iff.2 ⟨by omega, by omega⟩) 0 0 w5 W5.out).mono ?_
            rintro e w6 ⟨rfl, hw6, ht6⟩
            have W6 := Lib.hid hw6
            have T6 := Lib.hid (T5.out.trans ht6)
            clear hw6 ht6
            go_wp2_with fail
            go_roundw
            case rel => exact ⟨j + 1, by go_num, by omega, by omega, by rw [SJ.out]; exact W6.out, T6.out⟩
            case measure => simp [intOf]; omega
          · obtain rfl : j = m := by omega
            have h7 : (kindV c.pg c.st ws (p + (j : Int)) == 7) = false := by simpa using RUN.out.2
            clear hlt
            go_wp2_with (first | (refine wpList_load_row rfl 30 _ rfl _ rfl 30 _ _ _ HC5.out Tryz.underlying30 rfl (by kernel_rfl) ?_) | (refine wpList_load_rowG rfl 30 _ rfl _ rfl 30 _ _ _ HC5.out Tryz.underlying30 rfl (by kernel_rfl) ?_))
            refine (KJ.out wr WR.out).mono ?_
            rintro e w5 ⟨rfl, h5⟩
            have W5 := Lib.hid (WR.out.more h5)
            have T5 := Lib.hid (TR.out.trans (turned_more h5))
            clear h5
            go_wp2_with fail
            go_ret
            exact ⟨rfl, W5.out, (turned_more HM.out).trans T5.out⟩
      · rw [show dropV c.pg c.st p ws = (1, put3V c.pg c.st p 0 0 ws) by unfold dropV lenV; rw [hk, show clsB k = true by unfold clsB; simp; omega, if_pos rfl]; rfl]
        have dk : (k == 6) = false := by simp; omega
        clear hk wf k1 k6 e6
        have HP := Lib.hid hp
        clear hp
        have hc := row_new w c.cells 30
        have HR := Lib.hid R
        have HH := Lib.hid H
        have hgl := hw.lt
        obtain ⟨w1, e1⟩ : ∃ w1, w.alloc (.cells c.cells 30) = w1 := ⟨_, rfl⟩
        have m1 : More w w1 := by rw [← e1]; exact (More.refl w).alloc _
        rw [e1] at hc
        have HC := Lib.hid hc
        have HM := Lib.hid m1
        have HW := Lib.hid (hw.more m1)
        have x2 : w1.cell? ⟨w.heap.size, 2, none⟩ = some (.int .i64 c.pg) := cell_more hc (More.refl _) rfl
        have X2 := Lib.hid x2
        have pg1 := R.pg1
        have pg2 := R.pg2
        clear x2 m1 hw R H hc
        have KC : Hid (∀ W, Turned (fun b => b = g) w1 W → W.heap[w.heap.size]? = some (.cells c.cells 30 (0, 0))) := Lib.hid fun W t => (t.block _ (lt_of_heap HC.out) (by omega)).trans HC.out
        go_enter Tryz.func30, Tryz.ntmps30
        go_wp2_with (first | (refine wpList_load_row rfl 30 _ rfl _ rfl 30 _ _ _ HC.out Tryz.underlying30 rfl (by kernel_rfl) ?_) | (refine wpList_load_rowG rfl 30 _ rfl _ rfl 30 _ _ _ HC.out Tryz.underlying30 rfl (by kernel_rfl) ?_))
        clear e1
        refine (K0.out _ HW.out).mono ?_
        rintro e w3 ⟨rfl, h3⟩
        have M3 := Lib.hid h3
        have HC3 := Lib.hid (h3.block HC.out)
        clear h3
        go_wp2_with (first | (refine wpList_load_row rfl 30 _ rfl _ rfl 30 _ _ _ HC3.out Tryz.underlying30 rfl (by kernel_rfl) ?_) | (refine wpList_load_rowG rfl 30 _ rfl _ rfl 30 _ _ _ HC3.out Tryz.underlying30 rfl (by kernel_rfl) ?_))
        refine (S0.out HP.out _ (HW.out.more M3.out)).mono ?_
        rintro e w4 ⟨rfl, hw4, ht4⟩
        have W4 := Lib.hid hw4
        have T4 : Hid (Turned (fun b => b = g) w1 w4) := Lib.hid ((turned_more M3.out).trans ht4)
        clear hw4 ht4
        go_wp2_with fail
        go_loopw [8] (fun v8 wr => v8 = .int .i64 1 ∧ Ws wr g cap (put3V c.pg c.st p 0 0 ws) ∧ Turned (fun b => b = g) w1 wr) (fun _ _ => 0)
        case atStart => exact ⟨rfl, W4.out, T4.out⟩
        case round =>
          obtain ⟨rfl, hwr, htr⟩ := hrel
          have WR := Lib.hid hwr
          have TR := Lib.hid htr
          clear hwr htr
          go_wp2_with fail
          go_ret
          exact ⟨rfl, WR.out, (turned_more HM.out).trans TR.out⟩
end Go.Proofs.YtogfikemodaepaaGreat

namespace Go.Proofs.YtogfikemodaepaaGreat
open Go.RowKit Go.Sort Go.Maps Go.Shelf
set_option linter.unusedVariables false
set_option linter.unusedSimpArgs false
set_option linter.unusedSectionVars false

theorem vac_chunk {pg st k : Int} {ws : List Int} : (trim1V pg st k ws).2 = if vacB pg st (firstV pg k) (sizeV pg k) ws then (turnV pg st k 0 ws).2 else ws := by
  unfold trim1V
  cases hm : mappedV pg st ws k with
  | true =>
    cases hv : vacB pg st (firstV pg k) (sizeV pg k) ws <;> simp
  | false =>
    have := turn_un hm
    cases hv : vacB pg st (firstV pg k) (sizeV pg k) ws <;> simp [this]
theorem trim1_len {pg st k : Int} {ws : List Int} : (trim1V pg st k ws).2.length = ws.length := by
  rw [vac_chunk]
  split
  · exact turn_len _ _ _ _ _
  · rfl

set_option maxRecDepth 100000 in
set_option maxHeartbeats 2000000 in
theorem r9_Trim {c : Cfg} (R : c.Ok) (ws : List Int) (H : PgIn c.pg c.st ws.length) (hl : ws.length ≤ 1000) (wf : Wf c.pg c.st ws) (g cap : Nat) (w : World) (hw : Ws w g cap ws) :
    Calls Tryz.prog 31 #[.agg c.cells, .slice (some ⟨g, 0, none⟩) ws.length cap] w (RowTo w g cap (.int .i64 (trimV c.pg c.st ws).1) (trimV c.pg c.st ws).2) := by
  have CN := Lib.hid (fun (a : List Int) (e : a.length = ws.length) (W : World) (hW : Ws W g cap a) => by have := r_count R a (by rw [e]; exact H.toTblIn) (by omega) g cap W hW; rw [e] at this; exact this)
  have OP := Lib.hid (fun (a : List Int) (e : a.length = ws.length) (k : Int) (W : World) (hW : Ws W g cap a) => by have := r9_open R a (by rw [e]; exact H) (by omega) g cap (firstV c.pg k) (sizeV c.pg k) false W hW; rw [e, opV_vac] at this; exact this)
  have TN := Lib.hid (fun (a : List Int) (e : a.length = ws.length) (k : Int) (W : World) (hW : Ws W g cap a) => by have := r_turn R a (by rw [e]; exact H.toTblIn) (by omega) g cap k 0 W hW; rw [e] at this; exact this)
  have C0 := Lib.hid (fun W hW => CN.out ws rfl W hW)
  obtain ⟨res, hres⟩ : ∃ res, trimV c.pg c.st ws = res := ⟨_, rfl⟩
  have ts := trim_spec H rfl wf
  rw [hres] at ts
  have hcnt := ts.cnt
  have hlen : res.2.length = ws.length := ts.tab.len
  have hle := ts.le
  have cb0 := count_b (st := c.st) ws R.pg1 R.pg2
  have cb1 := count_b (st := c.st) res.2 R.pg1 R.pg2
  obtain ⟨z0, hz0⟩ : ∃ z, countW c.pg c.st ws = z := ⟨_, rfl⟩
  obtain ⟨z1, hz1⟩ : ∃ z, countW c.pg c.st res.2 = z := ⟨_, rfl⟩
  rw [hz0] at hcnt cb0 C0
  rw [hz1] at hcnt cb1
  rw [hres]
  have q1 : IntKind.i64.wrap (z0 - z1) = res.1 := by rw [wrap_in (by omega) (by omega)]; omega
  have CE := Lib.hid (fun W hW => by have := CN.out res.2 hlen W hW; rw [hz1] at this; exact this)
  have HRES := Lib.hid (show trimNV c.pg c.st (chunksV c.pg).toNat 0 0 ws = res from hres)
  have Q1 := Lib.hid q1
  have hch : 0 ≤ chunksV c.pg ∧ chunksV c.pg ≤ 64 := by have := R.pg1; have := R.pg2; unfold chunksV; omega
  clear hres ts hcnt hlen hle cb0 cb1 hz0 hz1 q1 wf
  obtain ⟨ch, hc⟩ : ∃ ch, chunksV c.pg = ch := ⟨_, rfl⟩
  rw [hc] at HRES hch
  have RC := Lib.hid (fun W => by have := y_rchunks R W; rw [hc] at this; exact this)
  clear hc
  have HCH := Lib.hid hch
  clear hch
  have hc := row_new w c.cells 30
  have HR := Lib.hid R
  have HH := Lib.hid H
  have hgl := hw.lt
  obtain ⟨w1, e1⟩ : ∃ w1, w.alloc (.cells c.cells 30) = w1 := ⟨_, rfl⟩
  have m1 : More w w1 := by rw [← e1]; exact (More.refl w).alloc _
  rw [e1] at hc
  have HC := Lib.hid hc
  have HM := Lib.hid m1
  have HW := Lib.hid (hw.more m1)
  have x2 : w1.cell? ⟨w.heap.size, 2, none⟩ = some (.int .i64 c.pg) := cell_more hc (More.refl _) rfl
  have X2 := Lib.hid x2
  have pg1 := R.pg1
  have pg2 := R.pg2
  clear x2 m1 hw R H hc
  have KC : Hid (∀ W, Turned (fun b => b = g) w1 W → W.heap[w.heap.size]? = some (.cells c.cells 30 (0, 0))) := Lib.hid fun W t => (t.block _ (lt_of_heap HC.out) (by omega)).trans HC.out
  go_enter Tryz.func31, Tryz.ntmps31
  go_wp2_with (first | (refine wpList_load_row rfl 30 _ rfl _ rfl 30 _ _ _ HC.out Tryz.underlying30 rfl (by kernel_rfl) ?_) | (refine wpList_load_rowG rfl 30 _ rfl _ rfl 30 _ _ _ HC.out Tryz.underlying30 rfl (by kernel_rfl) ?_))
  clear e1
  refine (C0.out _ HW.out).mono ?_
  rintro e w3 ⟨rfl, h3⟩
  have M3 := Lib.hid h3
  clear h3
  go_wp2_with fail
  go_loopw [6] (fun v6 wr => ∃ (j : Nat) (s : Int) (a : List Int), v6 = .int .i64 (j : Int) ∧ (j : Int) ≤ ch ∧ a.length = ws.length ∧ Ws wr g cap a ∧ Turned (fun b => b = g) w1 wr ∧ trimNV c.pg c.st (ch.toNat - j) j s a = res) (fun v6 _ => ch.toNat - (intOf v6).toNat)
  case atStart => exact ⟨0, 0, ws, rfl, by have := HCH.out; omega, rfl, HW.out.more M3.out, turned_more M3.out, HRES.out⟩
  case round =>
    clear HRES
    obtain ⟨j, s, a, rfl, hj, hal, hwr, htr, hrest⟩ := hrel
    have WR := Lib.hid hwr
    have TR := Lib.hid htr
    have HC5 := Lib.hid (KC.out _ htr)
    have AL := Lib.hid hal
    have HREST := Lib.hid hrest
    clear hwr htr hal hrest
    have hcb := HCH.out
    have q6 : IntKind.i64.wrap ((j : Int) + 1) = (j : Int) + 1 := wrap_in (by omega) (by omega)
    go_wp2_with (first | (refine wpList_load_row rfl 30 _ rfl _ rfl 30 _ _ _ HC5.out Tryz.underlying30 rfl (by kernel_rfl) ?_) | (refine wpList_load_rowG rfl 30 _ rfl _ rfl 30 _ _ _ HC5.out Tryz.underlying30 rfl (by kernel_rfl) ?_))
    refine (RC.out wr).mono ?_
    rintro e w4 ⟨rfl, h4⟩
    have T4 := Lib.hid (TR.out.trans (turned_more h4))
    have W4 := Lib.hid (WR.out.more h4)
    have HC6 := Lib.hid (KC.out _ T4.out)
    clear h4
    by_cases hlt : (j : Int) < ch
    · have d1 : decide ((j : Int) < ch) = true := by simpa using hlt
      have REST := Lib.hid (show trimNV c.pg c.st (ch.toNat - (j + 1)) ((j : Int) + 1) (s + (trim1V c.pg c.st j a).1) (trim1V c.pg c.st j a).2 = res from by have h := HREST.out; rw [show ch.toNat - j = (ch.toNat - (j + 1)) + 1 by omega] at h; exact h)
      clear HREST
      go_wp2_with (first | (refine wpList_load_row rfl 30 _ rfl _ rfl 30 _ _ _ HC6.out Tryz.underlying30 rfl (by kernel_rfl) ?_) | (refine wpList_load_rowG rfl 30 _ rfl _ rfl 30 _ _ _ HC6.out Tryz.underlying30 rfl (by kernel_rfl) ?_))
      refine (r_pages HR.out (j : Int) w4).mono ?_
      rintro e w5 ⟨rfl, h5⟩
      have T5 := Lib.hid (T4.out.trans (turned_more h5))
      have W5 := Lib.hid (W4.out.more h5)
      have HC7 := Lib.hid (KC.out _ T5.out)
      clear h5
      go_wp2_with (first | (refine wpList_load_row rfl 30 _ rfl _ rfl 30 _ _ _ HC7.out Tryz.underlying30 rfl (by kernel_rfl) ?_) | (refine wpList_load_rowG rfl 30 _ rfl _ rfl 30 _ _ _ HC7.out Tryz.underlying30 rfl (by kernel_rfl) ?_))
      refine (OP.out a AL.out (j : Int) w5 W5.out).mono ?_
      cases hv : vacB c.pg c.st (firstV c.pg j) (sizeV c.pg j) a with
      | true =>
        have VC := Lib.hid (show (trim1V c.pg c.st j a).2 = (turnV c.pg c.st j 0 a).2 by rw [vac_chunk, hv]; rfl)
        rintro e w6 ⟨rfl, h6⟩
        have T6 := Lib.hid (T5.out.trans (turned_more h6))
        have W6 := Lib.hid (W5.out.more h6)
        have HC8 := Lib.hid (KC.out _ T6.out)
        clear h6 hv
        go_wp2_with (first | (refine wpList_load_row rfl 30 _ rfl _ rfl 30 _ _ _ HC8.out Tryz.underlying30 rfl (by kernel_rfl) ?_) | (refine wpList_load_rowG rfl 30 _ rfl _ rfl 30 _ _ _ HC8.out Tryz.underlying30 rfl (by kernel_rfl) ?_))
        refine (TN.out a AL.out (j : Int) w6 W6.out).mono ?_
        rintro e w7 ⟨rfl, hw7, ht7⟩
        have W7 := Lib.hid hw7
        have T7 := Lib.hid (T6.out.trans ht7)
        clear hw7 ht7
        go_wp2_with fail
        go_roundw
        case rel => exact ⟨j + 1, _, (trim1V c.pg c.st j a).2, by go_num, by omega, trim1_len.trans AL.out, by rw [VC.out]; exact W7.out, T7.out, REST.out⟩
        case measure => simp [intOf]; omega
      | false =>
        have VC := Lib.hid (show (trim1V c.pg c.st j a).2 = a by rw [vac_chunk, hv]; rfl)
        rintro e w6 ⟨rfl, h6⟩
        have T6 := Lib.hid (T5.out.trans (turned_more h6))
        have W6 := Lib.hid (W5.out.more h6)
        clear h6 hv
        go_wp2_with fail
        go_roundw
        case rel => exact ⟨j + 1, _, (trim1V c.pg c.st j a).2, by go_num, by omega, trim1_len.trans AL.out, by rw [VC.out]; exact W6.out, T6.out, REST.out⟩
        case measure => simp [intOf]; omega
    · have d1 : decide ((j : Int) < ch) = false := by simpa using hlt
      have hfin : a = res.2 := by have h := HREST.out; rw [show ch.toNat - j = 0 by omega] at h; rw [← h]; rfl
      have HF := Lib.hid hfin
      have WF6 := Lib.hid (show Ws w4 g cap res.2 by rw [← hfin]; exact W4.out)
      have q1 := Q1.out
      clear hfin HREST hlt
      go_wp2_with (first | (refine wpList_load_row rfl 30 _ rfl _ rfl 30 _ _ _ HC6.out Tryz.underlying30 rfl (by kernel_rfl) ?_) | (refine wpList_load_rowG rfl 30 _ rfl _ rfl 30 _ _ _ HC6.out Tryz.underlying30 rfl (by kernel_rfl) ?_))
      refine (CE.out w4 WF6.out).mono ?_
      rintro e w7 ⟨rfl, h7⟩
      have T7 := Lib.hid (T4.out.trans (turned_more h7))
      have W7 := Lib.hid (WF6.out.more h7)
      clear h7
      go_wp2_with fail
      go_ret
      exact ⟨rfl, W7.out, (turned_more HM.out).trans T7.out⟩
end Go.Proofs.YtogfikemodaepaaGreat

namespace Go.Proofs.YtogfikemodaepaaGreat
open Go.RowKit Go.Sort Go.Maps Go.Shelf
set_option linter.unusedVariables false
set_option linter.unusedSimpArgs false
set_option linter.unusedSectionVars false

theorem least_b {f : Int → Bool} {pg m step : Int} (h1 : 1 ≤ m) (h2 : 1 ≤ step) (hpg : 0 ≤ pg) : -1 ≤ leastV f pg m step ∧ leastV f pg m step ≤ pg := by
  rcases seek_specR (f := f) (pg := pg) h1 h2 (pg.toNat + 1) 0 0 (by omega) (by omega) (by omega) with ⟨e, _⟩ | ⟨k, e, p0, hh, _⟩
  · unfold leastV; rw [e]; omega
  · unfold leastV; rw [e]; have := hh.1; omega
theorem find_b {pg st : Int} {ws : List Int} (n k : Int) (hpg : 1 ≤ pg) : -1 ≤ findV pg st n k ws ∧ findV pg st n k ws ≤ pg := by
  unfold findV
  split
  · rename_i h
    split
    · exact least_b h.1 h.2 (by omega)
    · exact least_b h.1 h.2 (by omega)
  · omega
theorem told_fin {w w1 wz : World} {g cap k : Nat} {ws : List Int} (cs : Array Value) (m : More w w1) (hT : Turned (fun b => b = g) w1 wz) (hW : Ws wz g cap ws) (hg : g < w.heap.size) (hk : w.heap.size ≤ k) : Ws (wz.setRow k cs) g cap ws ∧ Turned (fun b => b = g) w (wz.setRow k cs) := by
  have t : Turned (fun b => b = k) wz (wz.setRow k cs) := Turned.setRow (Turned.refl _ wz) _ _ (fun _ => rfl)
  exact ⟨hW.keep t (by omega), turned_own ((turned_more m).trans hT) t (fun b q => .inr (by omega))⟩

set_option maxRecDepth 100000 in
set_option maxHeartbeats 4000000 in
theorem fn_told9 {c : Cfg} (R : c.Ok) (ws : List Int) (H : PgIn c.pg c.st ws.length) (hl : ws.length ≤ 1000) (wf : Wf c.pg c.st ws) (kd p n k : Int) (hp : W64 p) (g cap : Nat) (w : World) (hw : Ws w g cap ws) :
    Calls Tryz.prog 9 #[.agg c.cells, .slice (some ⟨g, 0, none⟩) ws.length cap, .agg #[.int .i64 kd, .int .i64 p, .int .i64 n, .int .i64 k]] w (RowTo w g cap (val3 (edoneV c.pg c.st kd p n k ws).1) (edoneV c.pg c.st kd p n k ws).2) := by
  have CF := Lib.hid (fun W hW => r9_Find R ws H hl g cap n k W hW)
  have CT := Lib.hid (fun q k hq W hW => r9_Take R ws H hl g cap q n k hq W hW)
  have CD := Lib.hid (fun W hW => r9_Drop R ws H hl wf g cap p W hW)
  have CM := Lib.hid (fun W hW => r9_Trim R ws H hl wf g cap W hW)
  have CK := Lib.hid (fun W hW => r9_Kind R ws H hl g cap p W hW)
  have C1 := Lib.hid (fun W hW => r9_First R ws H hl wf g cap p W hW)
  have CU := Lib.hid (fun W hW => r9_Used R ws H hl g cap W hW)
  have hfb : W64 (findV c.pg c.st n k ws) := by
    have := R.pg2
    have := find_b (st := c.st) (ws := ws) n k R.pg1
    unfold W64; omega
  obtain ⟨w1, e1, hb0, hb1, hb2, m1, s1⟩ := entry3 w (.cells c.cells 30) (.cells #[.int .i64 kd, .int .i64 p, .int .i64 n, .int .i64 k] 42) (.cells #[.int .i64 0, .int .i64 0, .int .i64 0] 34)
  have hgl := hw.lt
  have W1 := Lib.hid (hw.more m1)
  have T1 : Hid (Turned (fun b => b = g) w1 w1) := Lib.hid (Turned.refl _ _)
  have L0 := Lib.hid hb0
  have KZ : Hid (∀ W, Turned (fun b => b = g) w1 W → W.heap[w.heap.size + 2]? = some (.cells #[.int .i64 0, .int .i64 0, .int .i64 0] 34 (0, 0)) ∧ W.heap[w.heap.size]? = some (.cells c.cells 30 (0, 0)) ∧ W.heap[w.heap.size + 1]? = some (.cells #[.int .i64 kd, .int .i64 p, .int .i64 n, .int .i64 k] 42 (0, 0))) := Lib.hid fun W t =>
    ⟨(t.block _ (lt_of_heap hb2) (by omega)).trans hb2, (t.block _ (lt_of_heap hb0) (by omega)).trans hb0, (t.block _ (lt_of_heap hb1) (by omega)).trans hb1⟩
  have FINT : Hid (∀ (x : Int × Int × Int) (a : List Int) (W : World), Turned (fun b => b = g) w1 W → Ws W g cap a → Ws (W.setRow (w.heap.size + 2) #[.int .i64 x.1, .int .i64 x.2.1, .int .i64 x.2.2]) g cap a ∧ Turned (fun b => b = g) w (W.setRow (w.heap.size + 2) #[.int .i64 x.1, .int .i64 x.2.1, .int .i64 x.2.2])) := Lib.hid fun x a W t h => told_fin _ m1 t h hgl (by omega)
  have y0 := cell_more (j := 0) hb1 (More.refl _) rfl
  have y1 := cell_more (j := 1) hb1 (More.refl _) rfl
  have y2 := cell_more (j := 2) hb1 (More.refl _) rfl
  have y3 := cell_more (j := 3) hb1 (More.refl _) rfl
  have Y1 := Lib.hid y1
  have HP := Lib.hid hp
  have HFB := Lib.hid hfb
  have b31 := build3
  have b32 := build3b
  have b33 := build3c
  clear hb0 hb1 hb2 m1 hw R H wf hp hfb s1
  by_cases z0 : kd = 0
  · have t0 : (kd == 0) = true := by simp [z0]
    rw [show edoneV c.pg c.st kd p n k ws = ((findV c.pg c.st n k ws, 0, 0), ws) by unfold edoneV; rw [if_pos z0]]
    clear z0
    go_enter Tryz.func9, Tryz.ntmps9
    go_wp2_with (first | (refine wpList_load_row rfl 30 _ rfl _ rfl 30 _ _ _ L0.out Tryz.underlying30 rfl (by kernel_rfl) ?_) | (refine wpList_load_rowG rfl 30 _ rfl _ rfl 30 _ _ _ L0.out Tryz.underlying30 rfl (by kernel_rfl) ?_))
    clear e1
    refine (CF.out w1 W1.out).mono ?_
    rintro e w4 ⟨rfl, h4⟩
    have W4 := Lib.hid (W1.out.more h4)
    have T4 := Lib.hid (T1.out.trans (turned_more h4))
    clear h4
    obtain ⟨Zn, Wn, Tn⟩ := KZ.out _ T4.out
    have FIN := Lib.hid (FINT.out (findV c.pg c.st n k ws, 0, 0) _ _ T4.out W4.out)
    have Z9 := Lib.hid Zn
    clear Zn Wn Tn
    go_wp2_with (refine wpList_store_row rfl 34 _ _ rfl (w.heap.size + 2) _ rfl rfl 34 #[.int .i64 0, .int .i64 0, .int .i64 0] Z9.out (by kernel_rfl) rfl (by simp [Value.oneCell']) ?_)
    refine bodyPost_ret (v := val3 (findV c.pg c.st n k ws, 0, 0)) (results_cell_row Tryz.results9 _ _ _ 34 _ (0, 0) _ rfl (setRow_heap _ _ _ _ _ _ Z9.out) Tryz.underlying34 rfl (by kernel_rfl)) rfl ⟨rfl, FIN.out⟩
  have t0 : (kd == 0) = false := by simp [z0]
  by_cases z1 : kd = 1
  · have t1 : (kd == 1) = true := by simp [z1]
    rw [show edoneV c.pg c.st kd p n k ws = ((b2i (takeV c.pg c.st p n k ws).1, 0, 0), (takeV c.pg c.st p n k ws).2) by unfold edoneV; rw [if_neg z0, if_pos z1]]
    clear z0 z1
    go_enter Tryz.func9, Tryz.ntmps9
    go_wp2_with (first | (refine wpList_load_row rfl 30 _ rfl _ rfl 30 _ _ _ L0.out Tryz.underlying30 rfl (by kernel_rfl) ?_) | (refine wpList_load_rowG rfl 30 _ rfl _ rfl 30 _ _ _ L0.out Tryz.underlying30 rfl (by kernel_rfl) ?_))
    clear e1
    refine (CT.out p k HP.out w1 W1.out).mono ?_
    rintro e w4 ⟨rfl, hw4, ht4⟩
    have W4 := Lib.hid hw4
    have T4 := Lib.hid (T1.out.trans ht4)
    clear hw4 ht4
    go_wp2_with fail
    refine (e_number _ w4).mono ?_
    rintro e w5 ⟨rfl, h5⟩
    have W5 := Lib.hid (W4.out.more h5)
    have T5 := Lib.hid (T4.out.trans (turned_more h5))
    clear h5
    obtain ⟨Zn, Wn, Tn⟩ := KZ.out _ T5.out
    have FIN := Lib.hid (FINT.out (b2i (takeV c.pg c.st p n k ws).1, 0, 0) _ _ T5.out W5.out)
    have Z9 := Lib.hid Zn
    clear Zn Wn Tn
    go_wp2_with (refine wpList_store_row rfl 34 _ _ rfl (w.heap.size + 2) _ rfl rfl 34 #[.int .i64 0, .int .i64 0, .int .i64 0] Z9.out (by kernel_rfl) rfl (by simp [Value.oneCell']) ?_)
    refine bodyPost_ret (v := val3 (b2i (takeV c.pg c.st p n k ws).1, 0, 0)) (results_cell_row Tryz.results9 _ _ _ 34 _ (0, 0) _ rfl (setRow_heap _ _ _ _ _ _ Z9.out) Tryz.underlying34 rfl (by kernel_rfl)) rfl ⟨rfl, FIN.out⟩
  have t1 : (kd == 1) = false := by simp [z1]
  by_cases z2 : kd = 2
  · have t2 : (kd == 2) = true := by simp [z2]
    rw [show edoneV c.pg c.st kd p n k ws = (((dropV c.pg c.st p ws).1, 0, 0), (dropV c.pg c.st p ws).2) by unfold edoneV; rw [if_neg z0, if_neg z1, if_pos z2]]
    clear z0 z1 z2
    go_enter Tryz.func9, Tryz.ntmps9
    go_wp2_with (first | (refine wpList_load_row rfl 30 _ rfl _ rfl 30 _ _ _ L0.out Tryz.underlying30 rfl (by kernel_rfl) ?_) | (refine wpList_load_rowG rfl 30 _ rfl _ rfl 30 _ _ _ L0.out Tryz.underlying30 rfl (by kernel_rfl) ?_))
    clear e1
    refine (CD.out w1 W1.out).mono ?_
    rintro e w4 ⟨rfl, hw4, ht4⟩
    have W4 := Lib.hid hw4
    have T4 := Lib.hid (T1.out.trans ht4)
    clear hw4 ht4
    obtain ⟨Zn, Wn, Tn⟩ := KZ.out _ T4.out
    have FIN := Lib.hid (FINT.out ((dropV c.pg c.st p ws).1, 0, 0) _ _ T4.out W4.out)
    have Z9 := Lib.hid Zn
    clear Zn Wn Tn
    go_wp2_with (refine wpList_store_row rfl 34 _ _ rfl (w.heap.size + 2) _ rfl rfl 34 #[.int .i64 0, .int .i64 0, .int .i64 0] Z9.out (by kernel_rfl) rfl (by simp [Value.oneCell']) ?_)
    refine bodyPost_ret (v := val3 ((dropV c.pg c.st p ws).1, 0, 0)) (results_cell_row Tryz.results9 _ _ _ 34 _ (0, 0) _ rfl (setRow_heap _ _ _ _ _ _ Z9.out) Tryz.underlying34 rfl (by kernel_rfl)) rfl ⟨rfl, FIN.out⟩
  have t2 : (kd == 2) = false := by simp [z2]
  by_cases z3 : kd = 3
  · have t3 : (kd == 3) = true := by simp [z3]
    rw [show edoneV c.pg c.st kd p n k ws = (((trimV c.pg c.st ws).1, 0, 0), (trimV c.pg c.st ws).2) by unfold edoneV; rw [if_neg z0, if_neg z1, if_neg z2, if_pos z3]]
    clear z0 z1 z2 z3
    go_enter Tryz.func9, Tryz.ntmps9
    go_wp2_with (first | (refine wpList_load_row rfl 30 _ rfl _ rfl 30 _ _ _ L0.out Tryz.underlying30 rfl (by kernel_rfl) ?_) | (refine wpList_load_rowG rfl 30 _ rfl _ rfl 30 _ _ _ L0.out Tryz.underlying30 rfl (by kernel_rfl) ?_))
    clear e1
    refine (CM.out w1 W1.out).mono ?_
    rintro e w4 ⟨rfl, hw4, ht4⟩
    have W4 := Lib.hid hw4
    have T4 := Lib.hid (T1.out.trans ht4)
    clear hw4 ht4
    obtain ⟨Zn, Wn, Tn⟩ := KZ.out _ T4.out
    have FIN := Lib.hid (FINT.out ((trimV c.pg c.st ws).1, 0, 0) _ _ T4.out W4.out)
    have Z9 := Lib.hid Zn
    clear Zn Wn Tn
    go_wp2_with (refine wpList_store_row rfl 34 _ _ rfl (w.heap.size + 2) _ rfl rfl 34 #[.int .i64 0, .int .i64 0, .int .i64 0] Z9.out (by kernel_rfl) rfl (by simp [Value.oneCell']) ?_)
    refine bodyPost_ret (v := val3 ((trimV c.pg c.st ws).1, 0, 0)) (results_cell_row Tryz.results9 _ _ _ 34 _ (0, 0) _ rfl (setRow_heap _ _ _ _ _ _ Z9.out) Tryz.underlying34 rfl (by kernel_rfl)) rfl ⟨rfl, FIN.out⟩
  have t3 : (kd == 3) = false := by simp [z3]
  by_cases z5 : kd = 5
  · have t5 : (kd == 5) = true := by simp [z5]
    obtain ⟨q, hq⟩ : ∃ q, findV c.pg c.st n k ws = q := ⟨_, rfl⟩
    rw [show edoneV c.pg c.st kd p n k ws = ((q, b2i (takeV c.pg c.st q n 6 ws).1, 0), (takeV c.pg c.st q n 6 ws).2) by unfold edoneV; rw [if_neg z0, if_neg z1, if_neg z2, if_neg z3, if_pos z5, hq]]
    rw [hq] at CF HFB
    clear z0 z1 z2 z3 z5 hq
    go_enter Tryz.func9, Tryz.ntmps9
    go_wp2_with (first | (refine wpList_load_row rfl 30 _ rfl _ rfl 30 _ _ _ L0.out Tryz.underlying30 rfl (by kernel_rfl) ?_) | (refine wpList_load_rowG rfl 30 _ rfl _ rfl 30 _ _ _ L0.out Tryz.underlying30 rfl (by kernel_rfl) ?_))
    clear e1
    refine (CF.out w1 W1.out).mono ?_
    rintro e w4 ⟨rfl, h4⟩
    have W4 := Lib.hid (W1.out.more h4)
    have T4 := Lib.hid (T1.out.trans (turned_more h4))
    clear h4
    have L4 := Lib.hid (KZ.out _ T4.out).2.1
    have c24 := cell_more (j := 2) (KZ.out _ T4.out).2.2 (More.refl _) rfl
    go_wp2_with (first | (refine wpList_load_row rfl 30 _ rfl _ rfl 30 _ _ _ L4.out Tryz.underlying30 rfl (by kernel_rfl) ?_) | (refine wpList_load_rowG rfl 30 _ rfl _ rfl 30 _ _ _ L4.out Tryz.underlying30 rfl (by kernel_rfl) ?_))
    refine (CT.out q 6 HFB.out w4 W4.out).mono ?_
    clear c24
    rintro e w5 ⟨rfl, hw5, ht5⟩
    have W5 := Lib.hid hw5
    have T5 := Lib.hid (T4.out.trans ht5)
    clear hw5 ht5
    go_wp2_with fail
    refine (e_number _ w5).mono ?_
    rintro e w6 ⟨rfl, h6⟩
    have W6 := Lib.hid (W5.out.more h6)
    have T6 := Lib.hid (T5.out.trans (turned_more h6))
    clear h6
    obtain ⟨Zn, Wn, Tn⟩ := KZ.out _ T6.out
    have FIN := Lib.hid (FINT.out (q, b2i (takeV c.pg c.st q n 6 ws).1, 0) _ _ T6.out W6.out)
    have Z9 := Lib.hid Zn
    clear Zn Wn Tn
    go_wp2_with (refine wpList_store_row rfl 34 _ _ rfl (w.heap.size + 2) _ rfl rfl 34 #[.int .i64 0, .int .i64 0, .int .i64 0] Z9.out (by kernel_rfl) rfl (by simp [Value.oneCell']) ?_)
    refine bodyPost_ret (v := val3 (q, b2i (takeV c.pg c.st q n 6 ws).1, 0)) (results_cell_row Tryz.results9 _ _ _ 34 _ (0, 0) _ rfl (setRow_heap _ _ _ _ _ _ Z9.out) Tryz.underlying34 rfl (by kernel_rfl)) rfl ⟨rfl, FIN.out⟩
  have t5 : (kd == 5) = false := by simp [z5]
  rw [show edoneV c.pg c.st kd p n k ws = ((kindV c.pg c.st ws p, fstV c.pg c.st p ws, usedV c.pg c.st ws), ws) by unfold edoneV; rw [if_neg z0, if_neg z1, if_neg z2, if_neg z3, if_neg z5]]
  clear z0 z1 z2 z3 z5
  go_enter Tryz.func9, Tryz.ntmps9
  go_wp2_with fail
  clear e1
  refine wp_region_more_tail 14 (by kernel_rfl) (by kernel_rfl) ?_
  simp only [List.take_succ_cons, List.take_zero, List.drop_succ_cons, List.drop_zero]
  refine wpQuiet_load_row rfl 30 _ rfl _ rfl 30 _ _ _ (fun W hW => hW.block L0.out) Tryz.underlying30 rfl (by kernel_rfl) ?_
  iterate 3
    with_reducible refine wpQuiet_step (fun K hK => ?_)
    go_simp
    first
    | (refine hK _ ?_; clear hK K)
    | (apply Exists.intro
       refine ⟨fun W hW => ?_, hK _ ?_⟩
       first
       | (have c1' := hW.cell Y1.out; go_simp; try rfl)
       clear hK K)
  iterate 1
    with_reducible refine wpQuiet_step (fun K hK => ?_)
    go_simp
    first
    | (refine hK _ ?_; clear hK K)
    | (apply Exists.intro
       refine ⟨fun W hW => ?_, hK _ ?_⟩
       first
       | (go_at_call 32; exact Calls.more hW (CK.out W (W1.out.more hW)))
       | (go_simp; try rfl)
       clear hK K)
  refine wpQuiet_load_row rfl 30 _ rfl _ rfl 30 _ _ _ (fun W hW => hW.block L0.out) Tryz.underlying30 rfl (by kernel_rfl) ?_
  iterate 3
    with_reducible refine wpQuiet_step (fun K hK => ?_)
    go_simp
    first
    | (refine hK _ ?_; clear hK K)
    | (apply Exists.intro
       refine ⟨fun W hW => ?_, hK _ ?_⟩
       first
       | (have c1' := hW.cell Y1.out; go_simp; try rfl)
       clear hK K)
  iterate 1
    with_reducible refine wpQuiet_step (fun K hK => ?_)
    go_simp
    first
    | (refine hK _ ?_; clear hK K)
    | (apply Exists.intro
       refine ⟨fun W hW => ?_, hK _ ?_⟩
       first
       | (go_at_call 33; exact Calls.more hW (C1.out W (W1.out.more hW)))
       | (go_simp; try rfl)
       clear hK K)
  refine wpQuiet_load_row rfl 30 _ rfl _ rfl 30 _ _ _ (fun W hW => hW.block L0.out) Tryz.underlying30 rfl (by kernel_rfl) ?_
  iterate 1
    with_reducible refine wpQuiet_step (fun K hK => ?_)
    go_simp
    first
    | (refine hK _ ?_; clear hK K)
    | (apply Exists.intro
       refine ⟨fun W hW => ?_, hK _ ?_⟩
       first
       | (go_simp; try rfl)
       clear hK K)
  iterate 1
    with_reducible refine wpQuiet_step (fun K hK => ?_)
    go_simp
    first
    | (refine hK _ ?_; clear hK K)
    | (apply Exists.intro
       refine ⟨fun W hW => ?_, hK _ ?_⟩
       first
       | (go_at_call 34; exact Calls.more hW (CU.out W (W1.out.more hW)))
       | (go_simp; try rfl)
       clear hK K)
  iterate 1
    with_reducible refine wpQuiet_step (fun K hK => ?_)
    go_simp
    first
    | (refine hK _ ?_; clear hK K)
    | (apply Exists.intro
       refine ⟨fun W hW => ?_, hK _ ?_⟩
       first
       | (go_simp; try rfl)
       clear hK K)
  refine wpQuiet_nil ?_
  intro w4 m4
  have W4 := Lib.hid (W1.out.more m4)
  have T4 : Hid (Turned (fun b => b = g) w1 w4) := Lib.hid (turned_more m4)
  clear m4
  obtain ⟨Zn, Wn, Tn⟩ := KZ.out _ T4.out
  have FIN := Lib.hid (FINT.out (kindV c.pg c.st ws p, fstV c.pg c.st p ws, usedV c.pg c.st ws) _ _ T4.out W4.out)
  have Z9 := Lib.hid Zn
  clear Zn Wn Tn
  go_wp2_with (refine wpList_store_row rfl 34 _ _ rfl (w.heap.size + 2) _ rfl rfl 34 #[.int .i64 0, .int .i64 0, .int .i64 0] Z9.out (by kernel_rfl) rfl (by simp [Value.oneCell']) ?_)
  refine bodyPost_ret (v := val3 (kindV c.pg c.st ws p, fstV c.pg c.st p ws, usedV c.pg c.st ws)) (results_cell_row Tryz.results9 _ _ _ 34 _ (0, 0) _ rfl (setRow_heap _ _ _ _ _ _ Z9.out) Tryz.underlying34 rfl (by kernel_rfl)) rfl ⟨rfl, FIN.out⟩
end Go.Proofs.YtogfikemodaepaaGreat

namespace Go.Proofs.YtogfikemodaepaaGreat
open Go.RowKit Go.Sort Go.Maps Go.Shelf
set_option linter.unusedVariables false
set_option linter.unusedSimpArgs false

def BoxT (g : Nat) (w : World) (t : Int × Int × Int) : Prop := w.heap[g]? = some (.cells #[.int .i64 t.1, .int .i64 t.2.1, .int .i64 t.2.2] 34 (0, 0))
theorem small_pgin {c : Cfg} (S : c.Small) {n : Nat} (hn : (n : Int) = c.words) : PgIn c.pg c.st n := by
  refine { S.tbl hn with top5 := ?_ }
  rw [hn]
  have h2 := userB S.ok; have h3 := S.ok.pg1
  have h5 : headsV c.st c.pg ≤ liveV c.cp c.pg c.st c.ca c.bi := by
    have := prod5B S.ok; have := S.ok.bi1
    unfold liveV binsV cachesV; omega
  show _ ≤ wordsV c.cp c.pg c.st c.ca c.bi
  unfold wordsV
  unfold headsV at h5
  omega

set_option maxRecDepth 100000 in
set_option maxHeartbeats 1000000 in
theorem ep_clo {c : Cfg} (R : c.Ok) {n : Nat} (H : PgIn c.pg c.st n) (hn : n ≤ 10000) (F : Nat → Prop) (p g1 g2 g3 g4 : Nat) (kn : Int → Option Int) (a : Option Addr) (capl : Nat) (l : List Ins4) (j : Nat) (kind q m k : Int) (hq : W64 q) (hm : W64 m) (hk6 : W64 k) (W : World) (hv : ViewAt W F p kn []) (hk : OkK kn)
    (h1 : W.heap[g1]? = some (.cells c.arr 28 (0, 0))) (h2 : W.heap[g2]? = some (.cells #[.slice a l.length capl] 24 (0, 0))) (h3 : W.heap[g3]? = some (.cells #[.int .i64 (j : Int)] 3 (0, 0))) (h4 : ∃ t, BoxT g4 W t) (hL : IsIns4 W a l) (hll : l.length ≤ 1000) (hj : l[j]? = some (kind, q, m, k))
    (n4 : ¬ F g4) (X Y : World → Prop)
    (hY : ∀ w', Turned (fun b => F b ∨ b = g4) W w' → (∃ t, BoxT g4 w' t) → Y w')
    (hX : ∀ w' z D, edoneP c.pg c.st kind q m k kn [] = .ok z D → BoxT g4 w' z → X w') :
    Calls Tryz.prog 7 #[.pointer (some ⟨p, 0, none⟩), .pointer (some ⟨g1, 0, none⟩), .pointer (some ⟨g2, 0, none⟩), .pointer (some ⟨g3, 0, none⟩), .pointer (some ⟨g4, 0, none⟩)] W (WentY W F (fun b => b = g4) Y X p kn (ranOf (edoneP c.pg c.st kind q m k kn []))) := by
  obtain ⟨t0, h4⟩ := h4
  have hjl : j < l.length := by
    rcases Nat.lt_or_ge j l.length with q | q
    · exact q
    · rw [List.getElem?_eq_none q] at hj; cases hj
  obtain ⟨s, o, rfl, hs, hc⟩ := hL.resolve_left (by intro q; rw [q] at hjl; simp at hjl)
  obtain ⟨y0, y1, y2, y3⟩ := hc j _ hj
  simp only at y0 y1 y2 y3
  have H1 := Lib.hid h1
  have H4 := Lib.hid h4
  have hl4 := lt_of_heap h4
  have c2 := (box_cells h2).1
  have c3 := (box_cells h3).1
  have C4 := Lib.hid (fun W' (m : More W W') => And.intro (m.cell y0) (And.intro (m.cell y1) (And.intro (m.cell y2) (m.cell y3))))
  have EN := Lib.hid (fun w' (m' : More W w') => e_done R H hn F p kn [] kind q m k hq hm hk6 w' (hv.more m') hk (invD_nil n))
  have HY := Lib.hid hY
  have HX := Lib.hid hX
  clear hv h1 h2 h3 h4 hY hX hk R hc y0 y1 y2 y3 hj hq hm hk6
  go_enter Tryz.func7, Tryz.ntmps7
  refine wp_region_more_tail 6 (by kernel_rfl) (by kernel_rfl) ?_
  simp only [List.take_succ_cons, List.take_zero, List.drop_succ_cons, List.drop_zero]
  with_reducible refine wpQuiet_step (fun K hK => ?_)
  go_simp
  first
  | (refine hK _ ?_; clear hK K)
  | (apply Exists.intro
     refine ⟨fun W hW => ?_, hK _ ?_⟩
     first
     | (have c2' := hW.cell c2; have c3' := hW.cell c3; go_simp; try rfl)
     clear hK K)
  refine wpQuiet_load_row rfl 28 _ rfl _ rfl 28 _ _ _ (fun W hW => hW.block H1.out) Tryz.underlying28 rfl (by kernel_rfl) ?_
  with_reducible refine wpQuiet_step (fun K hK => ?_)
  go_simp
  first
  | (refine hK _ ?_; clear hK K)
  | (apply Exists.intro
     refine ⟨fun W hW => ?_, hK _ ?_⟩
     first
     | (have c2' := hW.cell c2; have c3' := hW.cell c3; go_simp; try rfl)
     clear hK K)
  with_reducible refine wpQuiet_step (fun K hK => ?_)
  go_simp
  first
  | (refine hK _ ?_; clear hK K)
  | (apply Exists.intro
     refine ⟨fun W hW => ?_, hK _ ?_⟩
     first
     | (have c2' := hW.cell c2; have c3' := hW.cell c3; go_simp; try rfl)
     clear hK K)
  with_reducible refine wpQuiet_step (fun K hK => ?_)
  go_simp
  first
  | (refine hK _ ?_; clear hK K)
  | (apply Exists.intro
     refine ⟨fun W hW => ?_, hK _ ?_⟩
     first
     | (have c2' := hW.cell c2; have c3' := hW.cell c3; go_simp; try rfl)
     clear hK K)
  refine wpQuiet_load_four rfl 42 _ rfl s (o + j * 4) rfl _ _ _ _ _ (fun W hW => C4.out W hW) Tryz.underlying42 rfl (by kernel_rfl) ?_
  refine wpQuiet_nil ?_
  intro w4 m4
  have M4 := Lib.hid m4
  clear m4
  go_wp2_with fail
  refine (EN.out w4 M4.out).mono ?_
  intro e w1 he
  have he := he.after M4.out
  cases hE : edoneP c.pg c.st kind q m k kn [] with
  | need a =>
    rw [hE] at he
    obtain ⟨rfl, hd, ht⟩ := he
    refine ⟨rfl, (?_ : WentY W F (fun k => k = g4) Y X p kn (ranOf (.need a)) _ _)⟩
    exact ⟨rfl, hd, ht.mono (fun _ _ q => .inl q), HY.out _ (ht.mono (fun _ _ q => .inl q)) ⟨t0, (ht.block g4 hl4 n4).trans H4.out⟩⟩
  | ok x D =>
    rw [hE] at he
    obtain ⟨rfl, F', hv1, ht, hf⟩ := he
    have b2 : BoxT g4 w1 t0 := (ht.block g4 hl4 n4).trans H4.out
    have n2' : ¬ F' g4 := fun q => by rcases hf g4 q with q | q; exact n4 q; omega
    have X0 := HX.out
    rw [hE] at X0
    have HXD := Lib.hid X0
    have B2 := Lib.hid b2
    have HV1 := Lib.hid hv1
    have HT := Lib.hid ht
    have HE := Lib.hid hE
    clear b2 hv1 ht X0 HX hE
    go_wp2_with (refine wpList_store_row rfl 34 _ _ rfl g4 #[.int .i64 x.1, .int .i64 x.2.1, .int .i64 x.2.2] rfl rfl 34 #[.int .i64 t0.1, .int .i64 t0.2.1, .int .i64 t0.2.2] B2.out (by kernel_rfl) rfl (by simp [Value.oneCell']) ?_)
    go_end0
    have q2 : BoxT g4 (w1.setRow g4 #[.int .i64 x.1, .int .i64 x.2.1, .int .i64 x.2.2]) x := setRow_heap _ _ _ _ _ _ B2.out
    have t2 : Turned (fun k => k = g4) w1 (w1.setRow g4 #[.int .i64 x.1, .int .i64 x.2.1, .int .i64 x.2.2]) := Turned.setRow (Turned.refl _ w1) _ _ (fun _ => rfl)
    have tt : Turned (fun b => F b ∨ b = g4) W (w1.setRow g4 #[.int .i64 x.1, .int .i64 x.2.1, .int .i64 x.2.2]) := Turned.setRow (HT.out.mono (fun _ _ q => .inl q)) _ _ (fun _ => .inr rfl)
    show WentY W F (fun k => k = g4) Y X p kn (ranOf (edoneP c.pg c.st kind q m k kn [])) _ _
    rw [HE.out]
    refine ⟨rfl, ⟨F', ?_⟩, tt, HY.out _ tt ⟨x, q2⟩, HXD.out _ x D rfl q2⟩
    exact HV1.out.keepS t2 (fun k hk e => n2' (e ▸ hk)) (fun k es cl e h => by subst e; rw [B2.out] at h; cases h)

theorem okW_ap9 {n : Nat} {zs : List Int} {D : List KV} (hz : OkW zs) (h : InvD n D) (hn : zs.length = n) : OkW (applyD zs D) := by
  subst hn
  intro x hx
  obtain ⟨i, hi, rfl⟩ := List.getElem_of_mem hx
  have hl : i < zs.length := by rw [applyD_len] at hi; exact hi
  have h1 := word_all (zs := zs) h (a := (i : Int)) (by omega) (by omega)
  have h2 : wAt (applyD zs D) (i : Int) = (applyD zs D)[i] := by simp [wAt, List.getD, hi]
  rw [← h2]
  exact word_ok (okK_all hz) h.ok h1
/-- What stands while a step is done. -/
structure EpY (g1 g2 g3 g4 : Nat) (c : Cfg) (a : Option Addr) (capl : Nat) (l : List Ins4) (j : Nat) (w : World) : Prop where
  h1 : w.heap[g1]? = some (.cells c.arr 28 (0, 0))
  h2 : w.heap[g2]? = some (.cells #[.slice a l.length capl] 24 (0, 0))
  h3 : w.heap[g3]? = some (.cells #[.int .i64 (j : Int)] 3 (0, 0))
  h4 : ∃ t, BoxT g4 w t
theorem EpY.keep {g1 g2 g3 g4 : Nat} {c : Cfg} {a : Option Addr} {capl : Nat} {l : List Ins4} {j : Nat} {S : Nat → Prop} {w w' : World} (h : EpY g1 g2 g3 g4 c a capl l j w) (t : Turned S w w') (n1 : ¬ S g1) (n2 : ¬ S g2) (n3 : ¬ S g3) (b : ∃ t, BoxT g4 w' t) : EpY g1 g2 g3 g4 c a capl l j w' :=
  ⟨(t.block g1 (lt_of_heap h.h1) n1).trans h.h1, (t.block g2 (lt_of_heap h.h2) n2).trans h.h2, (t.block g3 (lt_of_heap h.h3) n3).trans h.h3, b⟩
theorem ep_do {c : Cfg} (R : c.Ok) (zs : List Int) (H : PgIn c.pg c.st zs.length) (hlen : zs.length ≤ 1000) (hz : OkW zs) (kind q m k : Int) (hq : W64 q) (hm : W64 m) (hk6 : W64 k) (w : World) (g1 g2 g3 g4 : Nat) (a : Option Addr) (cap : Nat) (al : Option Addr) (capl : Nat) (l : List Ins4) (j : Nat) (hp : EpY g1 g2 g3 g4 c al capl l j w) (hL : IsIns4 w al l) (hll : l.length ≤ 1000) (hj : l[j]? = some (kind, q, m, k)) (d1 : g1 ≠ g4) (d2 : g2 ≠ g4) (d3 : g3 ≠ g4) (hal : l ≠ [] → ∀ b, leads al b → b ≠ g4) (hw : IsWords w a zs) :
    OkW (edoneV c.pg c.st kind q m k zs).2 ∧ Calls Tryz.prog 6 #[.slice a zs.length cap, .func (.func 7) #[] #[.pointer (some ⟨g1, 0, none⟩), .pointer (some ⟨g2, 0, none⟩), .pointer (some ⟨g3, 0, none⟩), .pointer (some ⟨g4, 0, none⟩)]] w (fun e w' => ∃ v1 v2, e = .returned (.tuple #[v1, v2, .int .i64 0]) ∧ Rw w.heap.size w' v1 (edoneV c.pg c.st kind q m k zs).2 ∧ BoxT g4 w' (edoneV c.pg c.st kind q m k zs).1 ∧ Turned (fun b => b = g4) w w') := by
  have l1 := lt_of_heap hp.h1
  have l2 := lt_of_heap hp.h2
  have l3 := lt_of_heap hp.h3
  have l4 : g4 < w.heap.size := by obtain ⟨z, q⟩ := hp.h4; exact lt_of_heap q
  have G := good_edone H kind q m k hm hk6
  obtain ⟨D, hD, ha, hi⟩ := flat_edone H kind q m k hm hk6 zs [] rfl hz (invD_nil _)
  have e0 : applyD zs [] = zs := rfl
  rw [e0] at hD ha
  have ha : applyD zs D = (edoneV c.pg c.st kind q m k zs).2 := ha
  refine ⟨by rw [← ha]; exact okW_ap9 hz hi rfl, ?_⟩
  obtain ⟨K', hK', _, hans⟩ := flat_do (sound_edone c.pg c.st kind q m k) G hz (flat_edone H kind q m k hm hk6)
  have M := doY_ok a cap zs (fun K => ranOf (edoneP c.pg c.st kind q m k (look K) [])) (some ((edoneV c.pg c.st kind q m k zs).2, K')) zs.length w hw hlen hz (fine_of G hz (by omega)) (by omega) hK' 7 #[.pointer (some ⟨g1, 0, none⟩), .pointer (some ⟨g2, 0, none⟩), .pointer (some ⟨g3, 0, none⟩), .pointer (some ⟨g4, 0, none⟩)] (fun b => b = g4)
    (fun w' => EpY g1 g2 g3 g4 c al capl l j w') (fun w' => BoxT g4 w' (edoneV c.pg c.st kind q m k zs).1)
    (fun k q => by subst q; exact l4)
    (fun w' w'' y t => y.keep t (by omega) (by omega) (by omega) (by obtain ⟨z, q⟩ := y.h4; exact ⟨z, (t.block g4 (lt_of_heap q) (by omega)).trans q⟩))
    (fun w' w'' y t => (t.block g4 (lt_of_heap y) (by omega)).trans y) hp (enters_of Tryz.func7 (by kernel_rfl) rfl)
    (fun K hK W F p t yy hv hF => ep_clo R H (by omega) F p g1 g2 g3 g4 (look K) al capl l j kind q m k hq hm hk6 W hv (okK_of hK hz) yy.h1 yy.h2 yy.h3 yy.h4 (hL.keep t (fun ne b hb e => hal ne b hb e)) hll hj (fun q => by have := hF _ q; omega) _ _
      (fun w' t' b => yy.keep t' (by rintro (q | q); have := hF _ q; omega; exact d1 q) (by rintro (q | q); have := hF _ q; omega; exact d2 q) (by rintro (q | q); have := hF _ q; omega; exact d3 q) b)
      (fun w' z D e q => by rw [← hans K hK z D e]; exact q))
  refine M.mono ?_
  rintro e w' ⟨v1, v2, rfl, r1, _, t, _, x⟩
  exact ⟨v1, v2, rfl, r1, x, t⟩
end Go.Proofs.YtogfikemodaepaaGreat

namespace Go.Proofs.YtogfikemodaepaaGreat
open Go.RowKit Go.Sort Go.Maps Go.Shelf
set_option linter.unusedVariables false
set_option linter.unusedSimpArgs false

/-- An array of three integers equals itself. -/
theorem eq3 (x y z : Int) (w : World) : (Op.equalIn 10000 34 (.agg #[.int .i64 x, .int .i64 y, .int .i64 z]) (.agg #[.int .i64 x, .int .i64 y, .int .i64 z])).run Tryz.prog w = .ok true w := by
  have hu : Tryz.prog.underlying 3 = some (.int .i64) := Tryz.underlying3
  have hc : Tryz.prog.cellsOf 3 = 1 := by kernel_rfl
  have hs : (Tryz.prog.info? 3).isSome = true := by kernel_rfl
  obtain ⟨i, hi⟩ := Option.isSome_iff_exists.1 hs
  have h3 := Tryz.underlying34
  rw [show (10000 : Nat) = 9999 + 1 from rfl, run_equalIn_array w 9999 _ _ h3 hi, hc]
  have e := fun v => run_equalIn_int (P := Tryz.prog) (w := w) 9998 3 .i64 .i64 v v hu
  simp only [List.range, List.range.loop, Op.eqItems, Sem.run_bind, Result.andThen_ok]
  have p : ∀ (k : Nat) (v : Value), (#[Value.int .i64 x, .int .i64 y, .int .i64 z])[k]? = some v → (part 3 #[.int .i64 x, .int .i64 y, .int .i64 z] (k * 1)).run Tryz.prog w = .ok v w := by
    intro k v h
    exact run_part_plain w (by kernel_rfl) (by simpa using h)
  simp [p 0 (.int .i64 x) rfl, p 1 (.int .i64 y) rfl, p 2 (.int .i64 z) rfl, e]
theorem wp_alloc3 {o : Oper} {a : Act} {w : World} {K : Act → World → Prop} {Q : Exit → Act → World → Prop} (ho : o.op = .alloc 34) (h : K (a.put o.dst (.pointer (some ⟨w.heap.size, 0, none⟩))) (w.alloc (.cells #[.int .i64 0, .int .i64 0, .int .i64 0] 34))) : Oper.wp Tryz.prog o a w K Q := by
  unfold Oper.wp Oper.upon execOp
  simp only [ho]
  go_simp
  exact h
theorem put_com9 {a : Act} {i j : Nat} {x y : Value} (h : i ≠ j) : Act.put (Act.put a (some i) x) (some j) y = Act.put (Act.put a (some j) y) (some i) x := Act.put_comm a x y (fun d hd e => by cases hd; cases e; exact h rfl)
theorem reg_fin {w6 wz : World} {gw cw gy : Nat} {zs : List Int} (t : Int × Int × Int) (hT : Turned (fun b => b = gw) w6 wz) (hW : Ws wz gw cw zs) (hb : wz.heap[gy]? = some (.cells #[.int .i64 0, .int .i64 0, .int .i64 0] 34 (0, 0))) (hg : w6.heap.size ≤ gy) (hgw : gw < w6.heap.size) :
    BoxT gy (wz.setRow gy #[.int .i64 t.1, .int .i64 t.2.1, .int .i64 t.2.2]) t ∧ Ws (wz.setRow gy #[.int .i64 t.1, .int .i64 t.2.1, .int .i64 t.2.2]) gw cw zs ∧ Turned (fun b => b = gw) w6 (wz.setRow gy #[.int .i64 t.1, .int .i64 t.2.1, .int .i64 t.2.2]) := by
  have tt : Turned (fun b => b = gy) wz (wz.setRow gy #[.int .i64 t.1, .int .i64 t.2.1, .int .i64 t.2.2]) := Turned.setRow (Turned.refl _ wz) _ _ (fun _ => rfl)
  exact ⟨setRow_heap _ _ _ _ _ _ hb, hW.keep tt (by omega), turned_own hT tt (fun b q => .inr (by omega))⟩
/-- Between two steps. -/
structure EpI (w wr : World) (d : Cfg) (a : Option Addr) (capl : Nat) (l : List Ins4) (bl br ba : Nat) (n gw cw j : Nat) (zs : List Int) (gz cz gi : Nat) : Prop where
  hj : j ≤ l.length
  hi : wr.heap[gi]? = some (.cells #[.int .i64 (j : Int)] 3 (0, 0))
  len : zs.length = n
  ok : OkW zs
  wf : Wf d.pg d.st zs
  z : Ws wr gz cz zs
  wnt : Ws wr gw cw zs
  lb : wr.heap[bl]? = some (.cells d.arr 28 (0, 0))
  rb : wr.heap[br]? = some (.cells d.cells 30 (0, 0))
  ab : wr.heap[ba]? = some (.cells #[.slice a l.length capl] 24 (0, 0))
  n1 : gw ≠ gz
  n2 : gi ≠ gw ∧ gi ≠ gz ∧ gi ≠ bl ∧ gi ≠ br ∧ gi ≠ ba
  n3 : gw ≠ bl ∧ gw ≠ br ∧ gw ≠ ba
  more : More w wr
  lo : w.heap.size ≤ gi ∧ w.heap.size ≤ gw

/-- What a box holds. -/
def cellAt (w : World) : Value → Int
  | .pointer (some ad) => intOf ((w.cell? ad).getD undef)
  | _ => 0
theorem cellAt_of {w : World} {g : Nat} {z : Int} (h : w.cell? ⟨g, 0, none⟩ = some (.int .i64 z)) : cellAt w (.pointer (some ⟨g, 0, none⟩)) = z := by
  show intOf ((w.cell? ⟨g, 0, none⟩).getD undef) = z
  rw [h]; rfl

set_option maxRecDepth 100000 in
set_option maxHeartbeats 4000000 in
theorem ep_walk (y0 y1 y2 y3 y4 y5 y6 y7 y8 y9 y10 : Int) (a : Option Addr) (capl : Nat) (l : List Ins4) (w : World) (f0 : (Lit.int .i64 y0).wf = true) (f1 : (Lit.int .i64 y1).wf = true) (f2 : (Lit.int .i64 y2).wf = true) (f3 : (Lit.int .i64 y3).wf = true) (f4 : (Lit.int .i64 y4).wf = true) (f5 : (Lit.int .i64 y5).wf = true) (f6 : (Lit.int .i64 y6).wf = true) (f7 : (Lit.int .i64 y7).wf = true) (f8 : (Lit.int .i64 y8).wf = true) (f9 : (Lit.int .i64 y9).wf = true) (f10 : (Lit.int .i64 y10).wf = true) (hl : IsIns4 w a l) (ho : OkP4 l) (hm : l.length ≤ 9223372036854775807) :
    Calls Tryz.prog 3 #[.agg #[.int .i64 y0, .int .i64 y1, .int .i64 y2, .int .i64 y3, .int .i64 y4, .int .i64 y5, .int .i64 y6, .int .i64 y7, .int .i64 y8, .int .i64 y9, .int .i64 y10], .slice a l.length capl] w (Gives w (.bool true)) := by
  obtain ⟨d, S, BEG⟩ := begin_at y0 y1 y2 y3 y4 y5 y6 y7 y8 y9 y10 f0 f1 f2 f3 f4 f5 f6 f7 f8 f9 f10
  have SS := Lib.hid S
  have wds := S.words
  have OP := Lib.hid ho
  clear f0 f1 f2 f3 f4 f5 f6 f7 f8 f9 f10 S ho
  obtain ⟨w2, e2, ha2, hb2, m2, hs2⟩ := entry2 w (.cells #[.int .i64 y0, .int .i64 y1, .int .i64 y2, .int .i64 y3, .int .i64 y4, .int .i64 y5, .int .i64 y6, .int .i64 y7, .int .i64 y8, .int .i64 y9, .int .i64 y10] 23) (.cells #[.slice a l.length capl] 24)
  have HA := Lib.hid ha2
  have HB := Lib.hid hb2
  have HM := Lib.hid m2
  have cb := (box_cells hb2).1
  clear ha2 hb2 m2
  by_cases hbig : 100 < l.length
  · have d0 : decide ((100 : Int) < (l.length : Int)) = true := by simp; omega
    clear HA HB BEG wds hs2
    go_enter Tryz.func3, Tryz.ntmps3
    go_wp2_with fail
    refine (lives9_ok _).mono ?_
    rintro e w8 ⟨rfl, h8⟩
    have HM8 := Lib.hid (HM.out.trans h8)
    clear h8
    go_wp2_with fail
    go_ret
    exact ⟨rfl, HM8.out⟩
  · have d0 : decide ((100 : Int) < (l.length : Int)) = false := by simp; omega
    have HS2 := Lib.hid hs2
    clear hs2
    go_enter Tryz.func3, Tryz.ntmps3
    go_wp2_with (refine wpList_load_row rfl 23 _ rfl w.heap.size rfl 23 _ _ _ HA.out Tryz.underlying23 rfl (by kernel_rfl) ?_)
    have hs2 := HS2.out
    clear e2 cb HS2
    refine (BEG.out _).mono ?_
    rintro e w1 ⟨g, n, hn, rfl, hrw, m1⟩
    obtain ⟨w3, e3, b1, b2, b3, m3, s3⟩ := rows2 w1 zero24 zero11 d.arr d.cells 28 30
    have b4 : w3.heap[w1.heap.size + 1]? = some (.cells d.cells 30 (0, 0)) := by rw [← e3]; exact setRow_heap _ _ _ _ _ _ b2
    have hz := zeros_len n
    have wz : Ws w1 g n (zeros n) := Ws.of_rw (base := w2.heap.size) (by rw [hz]; exact hrw)
    have hg2 : w2.heap.size ≤ g := by
      rcases hrw.2 with ⟨q, _⟩ | ⟨g', cap', cur, q, q2, _⟩
      · cases q
      · have := congrArg Value.ownBlock q
        simp [Value.ownBlock] at this
        omega
    have hg1 := wz.lt
    have B1 := Lib.hid b1
    have B2 := Lib.hid b2
    have B3 := Lib.hid b3
    have B4 := Lib.hid b4
    have m13 := m1.trans m3
    have AC := Lib.hid (m13.block HB.out)
    have WZ := Lib.hid (wz.more m3)
    have M3 := Lib.hid (HM.out.trans m13)
    have hw1 : w2.heap.size ≤ w1.heap.size := m1.size
    have HN := Lib.hid hn
    have hnb : 160 ≤ n ∧ n ≤ 800 := by omega
    have ZW := Lib.hid (WZ.out.words)
    have HZ := Lib.hid hz
    have HLL := Lib.hid hl
    clear b1 b2 b3 b4 hrw hn BEG hz wz HA HB HM m1 m3 m13 wds hl
    go_wp2_with (first
      | (refine wpList_store_row rfl 28 _ _ rfl w1.heap.size _ rfl rfl 28 zero24 B1.out (by kernel_rfl) rfl (arr_one d) ?_)
      | (refine wpList_store_row rfl 30 _ _ rfl (w1.heap.size + 1) _ rfl rfl 30 zero11 B2.out (by kernel_rfl) rfl (cells_one d) ?_)
      | (at_builtin; refine wpList_words (zs := zeros n) rfl _ _ rfl rfl (by rw [HZ.out]; rfl) ZW.out (by rw [HZ.out]; omega) ?_; intro a' cw w4 h4 n4 m4; have RW := Lib.hid h4; have N4 := Lib.hid n4; have M4 := Lib.hid m4; clear h4 n4 m4))
    obtain ⟨gw, rfl, WR⟩ := Ws.of_row' RW.out (by rw [HZ.out]; omega)
    have hgw := N4.out gw rfl
    have m34 := M4.out
    have hi0 := row_new w4 #[.int .i64 0] 3
    have m45 : More w4 (w4.alloc (.cells #[.int .i64 0] 3)) := (More.refl _).alloc _
    have hwl := WR.lt
    have h3l := lt_of_heap AC.out
    have h4l := m34.size
    have hg3 := WZ.out.lt
    have HPG := Lib.hid (small_pgin SS.out HN.out)
    have START : Hid (EpI w (w4.alloc (.cells #[.int .i64 0] 3)) d a capl l w1.heap.size (w1.heap.size + 1) (w.heap.size + 1) n gw cw 0 (zeros n) g n w4.heap.size) := Lib.hid
      { hj := Nat.zero_le _, hi := hi0, len := HZ.out, ok := okW_zeros n, wf := wf_zeros HPG.out, z := (WZ.out.more m34).more m45, wnt := WR.more m45, lb := m45.block (m34.block B3.out), rb := m45.block (m34.block B4.out), ab := m45.block (m34.block AC.out)
        n1 := by omega, n2 := by refine ⟨?_, ?_, ?_, ?_, ?_⟩ <;> omega, n3 := by refine ⟨?_, ?_, ?_⟩ <;> omega, more := (M3.out.trans m34).trans m45, lo := by have := M3.out.size; constructor <;> omega }
    rw [HZ.out]
    clear e3 B1 B2 B3 B4 AC WZ M3 ZW HZ RW N4 M4 WR hi0 m45 m34 hwl h3l h4l hg3 hgw hg1 hg2 hw1
    go_loopw [7, 9] (fun v7 v9 wr => ∃ (j : Nat) (zs : List Int) (gz cz gi : Nat), v7 = .slice (some ⟨gz, 0, none⟩) n cz ∧ v9 = .pointer (some ⟨gi, 0, none⟩) ∧ EpI w wr d a capl l w1.heap.size (w1.heap.size + 1) (w.heap.size + 1) n gw cw j zs gz cz gi) (fun _ v9 wr => l.length - (cellAt wr v9).toNat)
    case atStart => exact ⟨0, _, _, _, _, rfl, rfl, START.out⟩
    case round =>
      clear START
      obtain ⟨j, zs, gz, cz, gi, rfl, rfl, I⟩ := hrel
      have c2 := (box_cells I.ab).1
      have c3 := (box_cells I.hi).1
      have hK1 := cellAt_of c3
      have II := Lib.hid I
      have hgil := lt_of_heap I.hi
      have hjl := I.hj
      by_cases hlt : j < l.length
      · have d1 : decide ((j : Int) < (l.length : Int)) = true := by simp; omega
        obtain ⟨⟨kind, q, m, k⟩, hj⟩ : ∃ t, l[j]? = some t := ⟨_, List.getElem?_eq_getElem hlt⟩
        obtain ⟨hxq, hxm, hxk⟩ := OP.out _ (List.mem_of_getElem? hj)
        have m5 : More wr (wr.alloc (.cells #[.int .i64 0, .int .i64 0, .int .i64 0] 34)) := (More.refl _).alloc _
        have hx5 : BoxT wr.heap.size (wr.alloc (.cells #[.int .i64 0, .int .i64 0, .int .i64 0] 34)) (0, 0, 0) := row_new wr #[.int .i64 0, .int .i64 0, .int .i64 0] 34
        have s5 : (wr.alloc (.cells #[.int .i64 0, .int .i64 0, .int .i64 0] 34)).heap.size = wr.heap.size + 1 := by simp
        have lbl := lt_of_heap I.lb
        have rbl := lt_of_heap I.rb
        have abl := lt_of_heap I.ab
        have gwl := I.wnt.lt
        have wsz := I.more.size
        have hal : l ≠ [] → ∀ b, leads a b → b ≠ wr.heap.size := fun ne b hb => by
          have := HLL.out.lt ne b hb
          omega
        have HPZ : PgIn d.pg d.st zs.length := by rw [I.len]; exact HPG.out
        obtain ⟨hok', DO⟩ := ep_do SS.out.ok zs HPZ (by rw [I.len]; omega) I.ok kind q m k hxq hxm hxk _ w1.heap.size (w.heap.size + 1) gi wr.heap.size (some ⟨gz, 0, none⟩) cz a capl l j ⟨m5.block I.lb, m5.block I.ab, m5.block I.hi, _, hx5⟩ ((HLL.out.more I.more).more m5) (by omega) hj (by omega) (by omega) (by omega) hal (I.z.words.more m5)
        obtain ⟨hwf', hln0⟩ := edone_keep HPZ kind q m k rfl I.wf
        have TL : Hid (∀ W, Ws W gw cw zs → Calls Tryz.prog 9 #[.agg d.cells, .slice (some ⟨gw, 0, none⟩) n cw, .agg #[.int .i64 kind, .int .i64 q, .int .i64 m, .int .i64 k]] W (RowTo W gw cw (.agg #[.int .i64 (edoneV d.pg d.st kind q m k zs).1.1, .int .i64 (edoneV d.pg d.st kind q m k zs).1.2.1, .int .i64 (edoneV d.pg d.st kind q m k zs).1.2.2]) (edoneV d.pg d.st kind q m k zs).2)) := Lib.hid (fun W (hW : Ws W gw cw zs) => by have := fn_told9 SS.out.ok zs HPZ (by rw [I.len]; omega) I.wf kind q m k hxq gw cw W hW; rw [I.len] at this; exact this)
        rw [I.len] at DO
        have hln' := hln0.trans I.len
        have HK0 := Lib.hid hK1
        generalize (edoneV d.pg d.st kind q m k zs).2 = zs' at DO TL hok' hln' hwf'
        generalize (edoneV d.pg d.st kind q m k zs).1 = ans at DO TL
        have DO := Lib.hid DO
        have HLN := Lib.hid hln'
        have HOK := Lib.hid hok'
        have HWF := Lib.hid hwf'
        have MM := Lib.hid (I.more.trans m5)
        have M5 := Lib.hid m5
        have HJ := Lib.hid hj
        have S5 := Lib.hid s5
        clear hok' hln' hwf' hln0 I hj hxq hxm hxk m5 hx5 s5 hal hK1 HPZ
        go_wp2_with fail
        refine DO.out.mono ?_
        rintro e w6 ⟨v1, v2, rfl, hr, hx4, t6⟩
        obtain ⟨av, cv, rfl, hrd⟩ := hr.reads
        obtain ⟨gz', rfl, hb1, hb2, _⟩ := hrd 0 (by rw [HLN.out]; omega)
        have NW := Lib.hid (Ws.of_rw hr)
        rw [HLN.out]
        have hb1' : wr.heap.size + 1 ≤ gz' := by rw [← S5.out]; exact hb1
        have K6 : ∀ (b : Nat) (o : Obj), wr.heap[b]? = some o → w6.heap[b]? = some o := fun b o hb => (t6.block b (lt_of_heap (M5.out.block hb)) (by have := lt_of_heap hb; omega)).trans (M5.out.block hb)
        have lb6 := Lib.hid (K6 _ _ II.out.lb)
        have rb6 := Lib.hid (K6 _ _ II.out.rb)
        have ab6 := Lib.hid (K6 _ _ II.out.ab)
        have hi6 := Lib.hid (K6 _ _ II.out.hi)
        have WNT := Lib.hid ((II.out.wnt.more M5.out).keep t6 (by omega))
        have HX4 : Hid (w6.heap[wr.heap.size]? = some (.cells #[.int .i64 ans.1, .int .i64 ans.2.1, .int .i64 ans.2.2] 34 (0, 0))) := Lib.hid hx4
        have M6 : Hid (More w w6) := Lib.hid (Turned.mono (turned_own (F := fun _ => False) MM.out t6 (fun b e => .inr (by omega))) (fun _ _ q => q))
        have GWL := Lib.hid (And.intro WNT.out.lt gwl)
        obtain ⟨s, o, ha, hs, hc⟩ := (HLL.out.more M6.out).resolve_left (by intro q; rw [q] at hlt; simp at hlt)
        subst ha
        obtain ⟨y0, y1, y2, y3⟩ := hc j _ HJ.out
        simp only at y0 y1 y2 y3
        have hsw : s < w.heap.size := HLL.out.lt (by intro q; rw [q] at hlt; simp at hlt) s rfl
        have hN2 := II.out.n2
        have hN3 := II.out.n3
        have hLo := II.out.lo
        have kc : ∀ (W : World) (oo : Nat) (v : Value), Turned (fun b => b = gw) w6 W → w6.cell? ⟨s, oo, none⟩ = some v → W.cell? ⟨s, oo, none⟩ = some v := fun W oo v hW hc => cell_turned hW (by omega) hc
        have K4 := Lib.hid (fun W (hW : Turned (fun b => b = gw) w6 W) => And.intro (kc W _ _ hW y0) (And.intro (kc W _ _ hW y1) (And.intro (kc W _ _ hW y2) (kc W _ _ hW y3))))
        have kb : ∀ (W : World) (b : Nat) (ob : Obj), Turned (fun b => b = gw) w6 W → b ≠ gw → w6.heap[b]? = some ob → W.heap[b]? = some ob := fun W b ob hW hne hb => (hW.block b (lt_of_heap hb) hne).trans hb
        have KRB := Lib.hid (fun W (hW : Turned (fun b => b = gw) w6 W) => kb W _ _ hW (by omega) rb6.out)
        have KA := Lib.hid (fun W (hW : Turned (fun b => b = gw) w6 W) => (box_cells (kb W _ _ hW (by omega) ab6.out)).1)
        have KI := Lib.hid (fun W (hW : Turned (fun b => b = gw) w6 W) => (box_cells (kb W _ _ hW (by omega) hi6.out)).1)
        have KC : Hid (∀ W, Turned (fun b => b = gw) w6 W → Turned (fun b => b = gw) w6 W) := Lib.hid fun _ h => h
        have hjx : (j : Int) < (l.length : Int) := by omega
        have hjy : (0 : Int) ≤ (j : Int) := by omega
        clear hr hrd hx4 t6 K6 DO y0 y1 y2 y3 hc hb1 kc kb hN2 hN3 hLo c2 c3
        go_wp2_with fail
        refine wp_region_anyC (fun W => Turned (fun b => b = gw) w6 W) (by kernel_rfl) ?_
        have MQ : Hid (More w6 (w6.drewN 1)) := Lib.hid ((More.refl w6).drewN 1)
        change anyC _ _ _ _ _ _ _ _ (w6.drewN 1)
        generalize w6.drewN 1 = wq at MQ ⊢
        have MR : Hid (Turned (fun b => b = gw) w6 wq) := Lib.hid (turned_more MQ.out)
        generalize hA : Act.mk _ _ = A
        have HF : AG 64 A [(3, .pointer (some ⟨w.heap.size + 1, 0, none⟩)), (6, .pointer (some ⟨w1.heap.size + 1, 0, none⟩)), (8, .slice (some ⟨gw, 0, none⟩) n cw), (9, .pointer (some ⟨gi, 0, none⟩))] := by
          rw [← hA]
          refine ⟨⟨Nat.le_of_ble_eq_true rfl, rfl⟩, ?_⟩
          intro z hz; simp only [List.mem_cons, List.not_mem_nil, or_false] at hz; rcases hz with rfl | rfl | rfl | rfl <;> rfl
        refine anyC_start (fun a W => ∃ (u41 u42 u43 u44 u45 u46 u47 : Value) (gy : Nat), a = (Act.put (Act.put (Act.put (Act.put (Act.put (Act.put (Act.put (Act.put (Act.put A (some 41) u41) (some 42) u42) (some 43) u43) (some 44) u44) (some 45) u45) (some 46) u46) (some 47) u47) (some 14) (.pointer (some ⟨gy, 0, none⟩))) none undef) ∧ w6.heap.size ≤ gy ∧ BoxT gy W ans ∧ Ws W gw cw zs' ∧ Turned (fun b => b = gw) w6 W) (fun _ => False) [] (fun a W hd h => h.elim) (fun _ _ _ _ _ h => h) ?_ ?_
        · skip
          rintro a9 w8 ⟨u41, u42, u43, u44, u45, u46, u47, gy, rfl, hgy, hY8, hW8, t8⟩
          rw [← hA]
          have hN2 := II.out.n2
          have hN3 := II.out.n3
          have hLo := II.out.lo
          have K8 : ∀ (b : Nat) (o : Obj), w6.heap[b]? = some o → b ≠ gw → w8.heap[b]? = some o := fun b o hb hne => (t8.block b (lt_of_heap hb) hne).trans hb
          have lb8 := Lib.hid (K8 _ _ lb6.out (by omega))
          have rb8 := Lib.hid (K8 _ _ rb6.out (by omega))
          have ab8 := Lib.hid (K8 _ _ ab6.out (by omega))
          have hi8 := Lib.hid (K8 _ _ hi6.out (by omega))
          have x8 := Lib.hid (K8 _ _ HX4.out (by have := GWL.out; omega))
          have y8 := Lib.hid hY8
          have wnt8 := Lib.hid hW8
          have z8 := Lib.hid (NW.out.keep t8 (by have := GWL.out; omega))
          have M8 : Hid (More w w8) := Lib.hid (Turned.mono (turned_own (F := fun _ => False) M6.out t8 (fun b e => .inr (by omega))) (fun _ _ q => q))
          have SM := rows_same zs' _ _ 0 0 w8 (by rw [HLN.out]; omega) (z8.out.rw' (Nat.zero_le _)) (wnt8.out.rw' (Nat.zero_le _))
          rw [HLN.out] at SM
          have SM := Lib.hid SM
          clear hY8 hW8 t8 K8 HF hA MR MQ lb6 rb6 ab6 hi6 HX4 NW
          have eq8 := eq3 ans.1 ans.2.1 ans.2.2 w8
          go_simp
          go_wp2_with (first | (refine wpList_load_row rfl 34 _ rfl _ rfl 34 _ _ _ x8.out Tryz.underlying34 rfl (by kernel_rfl) ?_) | (refine wpList_load_rowG rfl 34 _ rfl _ rfl 34 _ _ _ x8.out Tryz.underlying34 rfl (by kernel_rfl) ?_) | (refine wpList_load_row rfl 34 _ rfl _ rfl 34 _ _ _ y8.out Tryz.underlying34 rfl (by kernel_rfl) ?_) | (refine wpList_load_rowG rfl 34 _ rfl _ rfl 34 _ _ _ y8.out Tryz.underlying34 rfl (by kernel_rfl) ?_))
          clear eq8
          refine SM.out.mono ?_
          rintro e w9 ⟨rfl, m9⟩
          have lb9 := Lib.hid (m9.block lb8.out)
          have rb9 := Lib.hid (m9.block rb8.out)
          have ab9 := Lib.hid (m9.block ab8.out)
          have hi9 := Lib.hid (m9.block hi8.out)
          have wnt9 := Lib.hid (wnt8.out.more m9)
          have z9 := Lib.hid (z8.out.more m9)
          have M9 := Lib.hid (M8.out.trans m9)
          have c3 := (box_cells hi9.out).1
          have hgi9 := lt_of_heap hi9.out
          have q1 : IntKind.i64.wrap ((j : Int) + 1) = (j : Int) + 1 := wrap_in (by omega) (by omega)
          clear m9 lb8 rb8 ab8 hi8 wnt8 z8 M8 x8 y8 SM
          go_wp2_with fail
          have m10 : More w9 (w9.alloc (.cells #[.int .i64 ((j : Int) + 1)] 3)) := (More.refl _).alloc _
          have hi10 := row_new w9 #[.int .i64 ((j : Int) + 1)] 3
          have hlb := lt_of_heap lb9.out
          have hrb := lt_of_heap rb9.out
          have hab := lt_of_heap ab9.out
          have hw9 := wnt9.out.lt
          have hz9 := z9.out.lt
          have hms := M9.out.size
          refine ⟨⟨j + 1, zs', gz', cv, w9.heap.size, rfl, rfl, ?_⟩, ?_⟩
          · exact { hj := by omega, hi := by rw [hi10]; rfl, len := HLN.out, ok := HOK.out, wf := HWF.out, z := z9.out.more m10, wnt := wnt9.out.more m10, lb := m10.block lb9.out, rb := m10.block rb9.out, ab := m10.block ab9.out
                    n1 := by omega, n2 := by refine ⟨?_, ?_, ?_, ?_, ?_⟩ <;> omega, n3 := hN3, more := M9.out.trans m10, lo := by constructor <;> omega }
          · rw [HK0.out, cellAt_of (z := (j : Int) + 1) (box_cells hi10).1]
            omega
        intro QQ FINE FIND FINQ
        clear hA
        refine anyC_takeD (i := 0) (v := .agg d.cells) (some 41) rfl rfl (by kernel_rfl) (by kernel_rfl) (by kernel_rfl) (fun c a w => FINQ c a _ _ w) (KC.out _ MR.out) (by exact yieldsC_row (C := (fun W => Turned (fun b => b = gw) w6 W)) (wanted_none rfl) 30 _ rfl (w1.heap.size + 1) (HF.get 1 rfl) 30 _ _ _ (fun W hW => KRB.out W hW) Tryz.underlying30 rfl (by kernel_rfl)) ?_
        replace HF := HF.put 41 (.agg d.cells) (by decide) rfl
        generalize hB1_41 : Act.put _ _ _ = A at HF ⊢
        refine anyC_takeD (i := 1) (v := .slice (some ⟨gw, 0, none⟩) n cw) (some 42) rfl rfl (by kernel_rfl) (by kernel_rfl) (by kernel_rfl) (fun c a w => FINQ c a _ _ w) (KC.out _ MR.out) (by exact yieldsC_moveG (wanted_none rfl) _ rfl (HF.get 3 rfl)) ?_
        replace HF := HF.put 42 (.slice (some ⟨gw, 0, none⟩) n cw) (by decide) rfl
        generalize hB2_42 : Act.put _ _ _ = A at HF ⊢
        refine anyC_takeD (i := 2) (v := .slice (some ⟨s, o, none⟩) l.length capl) (some 43) rfl rfl (by kernel_rfl) (by kernel_rfl) (by kernel_rfl) (fun c a w => FINQ c a _ _ w) (KC.out _ MR.out) (by exact yieldsC_cell (C := (fun W => Turned (fun b => b = gw) w6 W)) (wanted_none rfl) 24 _ rfl (w.heap.size + 1) 0 (HF.get 2 rfl) (.slice (some ⟨s, o, none⟩) l.length capl) _ Tryz.underlying24 rfl (fun W hW => KA.out W hW)) ?_
        replace HF := HF.put 43 (.slice (some ⟨s, o, none⟩) l.length capl) (by decide) rfl
        generalize hB3_43 : Act.put _ _ _ = A at HF ⊢
        refine anyC_takeD (i := 3) (v := .int .i64 (j : Int)) (some 44) rfl rfl (by kernel_rfl) (by kernel_rfl) (by kernel_rfl) (fun c a w => FINQ c a _ _ w) (KC.out _ MR.out) (by exact yieldsC_cell (C := (fun W => Turned (fun b => b = gw) w6 W)) (wanted_none rfl) 3 _ rfl (gi) 0 (HF.get 6 rfl) (.int .i64 (j : Int)) _ Tryz.underlying3 rfl (fun W hW => KI.out W hW)) ?_
        replace HF := HF.put 44 (.int .i64 (j : Int)) (by decide) rfl
        generalize hB4_44 : Act.put _ _ _ = A at HF ⊢
        refine anyC_takeD (i := 4) (v := .pointer (some ⟨s, o + j * 4, none⟩)) (some 45) rfl rfl (by kernel_rfl) (by kernel_rfl) (by kernel_rfl) (fun c a w => FINQ c a _ _ w) (KC.out _ MR.out) (by exact (Or.inl ⟨(wanted_none rfl), fun W hW => by have h5 := (HF.getD 1 rfl); have h6 := (HF.getD 0 rfl); go_simp⟩)) ?_
        replace HF := HF.put 45 (.pointer (some ⟨s, o + j * 4, none⟩)) (by decide) rfl
        generalize hB5_45 : Act.put _ _ _ = A at HF ⊢
        refine anyC_takeD (i := 5) (v := .agg #[.int .i64 kind, .int .i64 q, .int .i64 m, .int .i64 k]) (some 46) rfl rfl (by kernel_rfl) (by kernel_rfl) (by kernel_rfl) (fun c a w => FINQ c a _ _ w) (KC.out _ MR.out) (by exact yieldsC_four (C := (fun W => Turned (fun b => b = gw) w6 W)) (wanted_none rfl) 42 _ rfl s (o + j * 4) (HF.get 0 rfl) _ _ _ _ _ (fun W hW => K4.out W hW) Tryz.underlying42 rfl (by kernel_rfl)) ?_
        replace HF := HF.put 46 (.agg #[.int .i64 kind, .int .i64 q, .int .i64 m, .int .i64 k]) (by decide) rfl
        generalize hB6_46 : Act.put _ _ _ = A at HF ⊢
        refine anyC_two (i := 6) (j := 7) (some 47) (some 14) (by kernel_rfl) rfl rfl (wanted_none rfl) (wanted_none rfl) rfl rfl (fun K hK => ?_) (fun K hK => ?_)
        · refine wp_call3 (v0 := .agg d.cells) (v1 := .slice (some ⟨gw, 0, none⟩) n cw) (v2 := .agg #[.int .i64 kind, .int .i64 q, .int .i64 m, .int .i64 k]) rfl (HF.get 5 rfl) (HF.get 4 rfl) (HF.get 0 rfl) (enters_of Tryz.func9 (by kernel_rfl) rfl) ?_
          refine (TL.out wq (WNT.out.more MQ.out)).mono ?_
          rintro e w7 ⟨rfl, hw7, ht7⟩
          have W7 := Lib.hid hw7
          have T7 := Lib.hid (MR.out.trans ht7)
          refine hK _ _ T7.out ?_
          clear hK K
          replace HF := HF.put 47 (.agg #[.int .i64 ans.1, .int .i64 ans.2.1, .int .i64 ans.2.2]) (by decide) rfl
          generalize hB7_47 : Act.put _ _ _ = A at HF ⊢
          refine anyC_oneK (i := 7) (some 14) (by kernel_rfl) rfl (wanted_none rfl) rfl (fun K hK => ?_)
          refine wp_alloc3 rfl ?_
          obtain ⟨w8, e8⟩ : ∃ w8, w7.alloc (.cells #[.int .i64 0, .int .i64 0, .int .i64 0] 34) = w8 := ⟨_, rfl⟩
          have h8 : w8.heap[w7.heap.size]? = some (.cells #[.int .i64 0, .int .i64 0, .int .i64 0] 34 (0, 0)) := by rw [← e8]; exact row_new _ _ _
          have m8 : More w7 w8 := by rw [← e8]; exact (More.refl _).alloc _
          rw [e8]
          clear e8
          have T8 := Lib.hid (T7.out.trans (turned_more m8))
          have hgy : w6.heap.size ≤ w7.heap.size := T7.out.size
          refine hK _ _ T8.out ?_
          clear hK K
          replace HF := HF.put 14 (.pointer (some ⟨w7.heap.size, 0, none⟩)) (by decide) rfl
          generalize hB8_14 : Act.put _ _ _ = A at HF ⊢
          refine anyC_one (i := 8) (by kernel_rfl) rfl (wanted_none rfl) ?_
          refine wp_store_row 34 _ _ rfl (w7.heap.size) _ (HF.get 0 rfl) (HF.get 1 rfl) 34 #[.int .i64 0, .int .i64 0, .int .i64 0] h8 (by kernel_rfl) rfl (by simp [Value.oneCell']) ?_
          obtain ⟨fb, fw, ft⟩ := reg_fin ans T8.out (W7.out.more m8) h8 hgy (by have := GWL.out; omega)
          refine ⟨ft, ?_⟩
          exact anyC_done (by kernel_rfl) (FINE _ _ ⟨(.agg d.cells), (.slice (some ⟨gw, 0, none⟩) n cw), (.slice (some ⟨s, o, none⟩) l.length capl), (.int .i64 (j : Int)), (.pointer (some ⟨s, o + j * 4, none⟩)), (.agg #[.int .i64 kind, .int .i64 q, .int .i64 m, .int .i64 k]), (.agg #[.int .i64 ans.1, .int .i64 ans.2.1, .int .i64 ans.2.2]), w7.heap.size, by rw [← hB8_14, ← hB7_47, ← hB6_46, ← hB5_45, ← hB4_44, ← hB3_43, ← hB2_42, ← hB1_41]; rfl, hgy, fb, fw, ft⟩)
        · refine wp_alloc3 rfl ?_
          obtain ⟨w7, e7⟩ : ∃ w7, wq.alloc (.cells #[.int .i64 0, .int .i64 0, .int .i64 0] 34) = w7 := ⟨_, rfl⟩
          have h7 : w7.heap[wq.heap.size]? = some (.cells #[.int .i64 0, .int .i64 0, .int .i64 0] 34 (0, 0)) := by rw [← e7]; exact row_new _ _ _
          have m7 : More wq w7 := by rw [← e7]; exact (More.refl _).alloc _
          rw [e7]
          clear e7
          have T7 := Lib.hid (MR.out.trans (turned_more m7))
          have hgy : w6.heap.size ≤ wq.heap.size := MR.out.size
          refine hK _ _ T7.out ?_
          clear hK K
          replace HF := HF.put 14 (.pointer (some ⟨wq.heap.size, 0, none⟩)) (by decide) rfl
          generalize hB7_14 : Act.put _ _ _ = A at HF ⊢
          refine anyC_oneK (i := 6) (some 47) (by kernel_rfl) rfl (wanted_none rfl) rfl (fun K hK => ?_)
          refine wp_call3 (v0 := .agg d.cells) (v1 := .slice (some ⟨gw, 0, none⟩) n cw) (v2 := .agg #[.int .i64 kind, .int .i64 q, .int .i64 m, .int .i64 k]) rfl (HF.get 6 rfl) (HF.get 5 rfl) (HF.get 1 rfl) (enters_of Tryz.func9 (by kernel_rfl) rfl) ?_
          refine (TL.out w7 ((WNT.out.more MQ.out).more m7)).mono ?_
          rintro e w8 ⟨rfl, hw8, ht8⟩
          have W8 := Lib.hid hw8
          have T8 := Lib.hid (T7.out.trans ht8)
          refine hK _ _ T8.out ?_
          clear hK K
          replace HF := HF.put 47 (.agg #[.int .i64 ans.1, .int .i64 ans.2.1, .int .i64 ans.2.2]) (by decide) rfl
          generalize hB8_47 : Act.put _ _ _ = A at HF ⊢
          have h9 := (ht8.block wq.heap.size (lt_of_heap h7) (by have := GWL.out; omega)).trans h7
          refine anyC_one (i := 8) (by kernel_rfl) rfl (wanted_none rfl) ?_
          refine wp_store_row 34 _ _ rfl (wq.heap.size) _ (HF.get 1 rfl) (HF.get 0 rfl) 34 #[.int .i64 0, .int .i64 0, .int .i64 0] h9 (by kernel_rfl) rfl (by simp [Value.oneCell']) ?_
          obtain ⟨fb, fw, ft⟩ := reg_fin ans T8.out W8.out h9 hgy (by have := GWL.out; omega)
          refine ⟨ft, ?_⟩
          exact anyC_done (by kernel_rfl) (FINE _ _ ⟨(.agg d.cells), (.slice (some ⟨gw, 0, none⟩) n cw), (.slice (some ⟨s, o, none⟩) l.length capl), (.int .i64 (j : Int)), (.pointer (some ⟨s, o + j * 4, none⟩)), (.agg #[.int .i64 kind, .int .i64 q, .int .i64 m, .int .i64 k]), (.agg #[.int .i64 ans.1, .int .i64 ans.2.1, .int .i64 ans.2.2]), wq.heap.size, by rw [← hB8_47, ← hB7_14, ← hB6_46, ← hB5_45, ← hB4_44, ← hB3_43, ← hB2_42, ← hB1_41, put_com9 (i := 14) (j := 47) (by decide)]; rfl, hgy, fb, fw, ft⟩)
      · have d1 : decide ((j : Int) < (l.length : Int)) = false := by simp; omega
        have HMF := Lib.hid I.more
        clear I II hK1
        go_wp2_with fail
        refine (lives9_ok _).mono ?_
        rintro e w8 ⟨rfl, h8⟩
        have HM8 := Lib.hid (HMF.out.trans h8)
        clear h8
        go_wp2_with fail
        go_ret
        exact ⟨rfl, HM8.out⟩
end Go.Proofs.YtogfikemodaepaaGreat

