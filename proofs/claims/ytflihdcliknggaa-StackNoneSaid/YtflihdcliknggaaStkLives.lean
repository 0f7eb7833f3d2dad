/-
  Layer 12's example holds.
-/
import Derived.Test.YtflihdcliknggaaStkC
import Derived.Test.YtflihdcliknggaaMakeZ
import Derived.Test.YtflihdcliknggaaViewDoX
import Derived.Test.YtflihdcliknggaaViewWords
namespace Go.Proofs.Ytflihdcliknggaa
open Go.RowKit Go.Sort Go.Maps Go.Shelf
set_option linter.unusedVariables false
set_option linter.unusedSimpArgs false

def live12P : Prg (Bool × Bool × Bool × Int × Bool) := bindP (stPushP 1 2 7) fun a => bindP (stPushP 1 2 8) fun b => bindP (stPushP 1 2 9) fun c => bindP (stPopP 1 2) fun d => pureP (a, b, c, d.1, d.2)
theorem stIn12 : StIn 1 2 4 := ⟨by omega, by omega, by omega, by omega⟩
theorem sound_live12 : Sound live12P := sound_bind (sound_stPush _ _ _) fun _ => sound_bind (sound_stPush _ _ _) fun _ => sound_bind (sound_stPush _ _ _) fun _ => sound_bind (sound_stPop _ _) fun _ => sound_pure _
theorem w64_small {x : Int} (h0 : 0 ≤ x) (h1 : x ≤ 1000) : W64 x := by unfold W64; omega
theorem good_live12 : Good 4 (fun _ => True) live12P := good_bind (good_stPush stIn12 (w64_small (by omega) (by omega))) fun _ _ => good_bind (good_stPush stIn12 (w64_small (by omega) (by omega))) fun _ _ => good_bind (good_stPush stIn12 (w64_small (by omega) (by omega))) fun _ _ => good_bind (good_stPop stIn12) fun _ _ => good_pure 4 trivial
def live12D : List KV := [(1, 1), (2, 7), (3, 8)]
theorem live12_run : live12P (allK (zeros 4)) [] = .ok (true, true, false, 8, true) live12D := by kernel_rfl
theorem live12_ends : ∃ K', doP (fun K => ranOf (live12P (look K) [])) (zeros 4) ((zeros 4).length + 1) [] = some (applyD (zeros 4) live12D, K') := by
  obtain ⟨K', _, h⟩ := doP_run (zs := zeros 4) sound_live12 (by rw [zeros_len]; exact good_live12) (okW_zeros 4) live12_run ((zeros 4).length + 1) [] (okKn_nil _) (by simp)
  exact ⟨K', h⟩

/-- The boxes that the example's program fills. -/
structure LvB (g1 g2 g3 g4 g5 : Nat) (w : World) (a b c : Bool) (x : Int) (ok : Bool) : Prop where
  h1 : BoxB g1 w a
  h2 : BoxB g2 w b
  h3 : BoxB g3 w c
  h4 : BoxN g4 w x
  h5 : BoxB g5 w ok
def LvS (g1 g2 g3 g4 g5 k : Nat) : Prop := k = g1 ∨ k = g2 ∨ k = g3 ∨ k = g4 ∨ k = g5
theorem LvB.keep {g1 g2 g3 g4 g5 : Nat} {w w' : World} {a b c ok : Bool} {x : Int} {S : Nat → Prop} (h : LvB g1 g2 g3 g4 g5 w a b c x ok) (t : Turned S w w') (n : ∀ k, LvS g1 g2 g3 g4 g5 k → ¬ S k) : LvB g1 g2 g3 g4 g5 w' a b c x ok :=
  ⟨kept_one t h.h1 (n _ (.inl rfl)), kept_one t h.h2 (n _ (.inr (.inl rfl))), kept_one t h.h3 (n _ (.inr (.inr (.inl rfl)))), kept_one t h.h4 (n _ (.inr (.inr (.inr (.inl rfl))))), kept_one t h.h5 (n _ (.inr (.inr (.inr (.inr rfl)))))⟩
theorem LvB.keepB {g1 g2 g3 g4 g5 : Nat} {w w' : World} {a b c ok : Bool} {x : Int} (h : LvB g1 g2 g3 g4 g5 w a b c x ok) {F' : Nat → Prop} (n : ∀ k, LvS g1 g2 g3 g4 g5 k → ¬ F' k) (t : ∀ b o, ¬ F' b → w.heap[b]? = some o → w'.heap[b]? = some o) : LvB g1 g2 g3 g4 g5 w' a b c x ok :=
  ⟨t _ _ (n _ (.inl rfl)) h.h1, t _ _ (n _ (.inr (.inl rfl))) h.h2, t _ _ (n _ (.inr (.inr (.inl rfl)))) h.h3, t _ _ (n _ (.inr (.inr (.inr (.inl rfl))))) h.h4, t _ _ (n _ (.inr (.inr (.inr (.inr rfl))))) h.h5⟩
theorem LvB.lt {g1 g2 g3 g4 g5 : Nat} {w : World} {a b c ok : Bool} {x : Int} (h : LvB g1 g2 g3 g4 g5 w a b c x ok) {k : Nat} (q : LvS g1 g2 g3 g4 g5 k) : k < w.heap.size := by
  rcases q with rfl | rfl | rfl | rfl | rfl
  · exact lt_of_heap h.h1
  · exact lt_of_heap h.h2
  · exact lt_of_heap h.h3
  · exact lt_of_heap h.h4
  · exact lt_of_heap h.h5
def Five (g1 g2 g3 g4 g5 : Nat) : Prop := g1 ≠ g2 ∧ g1 ≠ g3 ∧ g1 ≠ g4 ∧ g1 ≠ g5 ∧ g2 ≠ g3 ∧ g2 ≠ g4 ∧ g2 ≠ g5 ∧ g3 ≠ g4 ∧ g3 ≠ g5 ∧ g4 ≠ g5

set_option maxRecDepth 100000 in
set_option maxHeartbeats 2000000 in
theorem live12_clo (F : Nat → Prop) (p g1 g2 g3 g4 g5 : Nat) (kn : Int → Option Int) (W : World) (hv : ViewAt W F p kn []) (hk : OkK kn) (a0 b0 c0 k0 : Bool) (x0 : Int) (hY : LvB g1 g2 g3 g4 g5 W a0 b0 c0 x0 k0) (nF : ∀ k, LvS g1 g2 g3 g4 g5 k → ¬ F k) (hd : Five g1 g2 g3 g4 g5) (a b c k : Bool) (x : Int)
    (ht : ∀ z D, live12P kn [] = .ok z D → z = (a, b, c, x, k)) :
    Calls Try.prog 17 #[.pointer (some ⟨p, 0, none⟩), .pointer (some ⟨g1, 0, none⟩), .pointer (some ⟨g2, 0, none⟩), .pointer (some ⟨g3, 0, none⟩), .pointer (some ⟨g4, 0, none⟩), .pointer (some ⟨g5, 0, none⟩)] W (WentY W F (LvS g1 g2 g3 g4 g5) (fun w' => ∃ a b c x k, LvB g1 g2 g3 g4 g5 w' a b c x k) (fun w' => LvB g1 g2 g3 g4 g5 w' a b c x k) p kn (ranOf (live12P kn []))) := by
  obtain ⟨Rr, hR⟩ : ∃ Rr, live12P kn [] = Rr := ⟨_, rfl⟩
  rw [hR] at ht ⊢
  have DD := Lib.hid hd
  have HK := Lib.hid hk
  have HRr := Lib.hid hR
  have M0 : Hid (MidV W W F (LvS g1 g2 g3 g4 g5) p kn 4 [] F) := Lib.hid (MidV.begin hv (invD_nil 4))
  have B0 := Lib.hid hY
  have NF : Hid (∀ wr D' F', MidV W wr F (LvS g1 g2 g3 g4 g5) p kn 4 D' F' → ∀ k, LvS g1 g2 g3 g4 g5 k → ¬ F' k) := Lib.hid fun wr D' F' h k hk => h.off (hY.lt hk) (nF k hk)
  have NEED : Hid (∀ a' w2 a1 b1 c1 x1 k1, Rr = .need a' → DeadAt w2 p a' → Turned (fun b => F b ∨ LvS g1 g2 g3 g4 g5 b) W w2 → LvB g1 g2 g3 g4 g5 w2 a1 b1 c1 x1 k1 → WentY W F (LvS g1 g2 g3 g4 g5) (fun w' => ∃ a b c x k, LvB g1 g2 g3 g4 g5 w' a b c x k) (fun w' => LvB g1 g2 g3 g4 g5 w' a b c x k) p kn (ranOf Rr) (.panicked (endOf p)) w2) := Lib.hid fun a' w2 a1 b1 c1 x1 k1 e hd ht' hb => wy_need (ranOf_need e) hd ht' ⟨_, _, _, _, _, hb⟩
  have HT := Lib.hid ht
  clear hv hk hY nF hR ht hd
  go_enter Try.func17, Try.ntmps17
  go_wp2_with fail
  refine (st_Push stIn12 F p kn [] 7 (w64_small (by omega) (by omega)) W M0.out.view HK.out M0.out.inv).mono ?_
  intro e w2 he
  rcases M0.out.step (More.refl _) HK.out (good_stPush stIn12 (w64_small (by omega) (by omega))) he with ⟨a', hE, rfl, hd', ht', hk'⟩ | ⟨x1, D1, F1, hE, rfl, M1, hq, hk', hf'⟩
  · exact ⟨rfl, NEED.out a' w2 _ _ _ _ _ (HRr.out.symm.trans (bindP_need hE)) hd' ht' (B0.out.keepB (NF.out _ _ _ M0.out) hk')⟩
  have B1 := Lib.hid (B0.out.keepB (NF.out _ _ _ M0.out) hk')
  have R1 := Lib.hid ((bindP_ok hE).symm.trans HRr.out)
  have M1 := Lib.hid M1
  clear he hE hk' hf' hq
  obtain ⟨y0, y1, y2⟩ := box_cells B1.out.h1
  obtain ⟨v1, ev1⟩ : ∃ v, w2.setCell ⟨g1, 0, none⟩ (.bool x1) = v := ⟨_, rfl⟩
  have N1 : Hid (MidV W v1 F (LvS g1 g2 g3 g4 g5) p kn 4 D1 F1) := Lib.hid (by rw [← ev1]; exact M1.out.box (fun _ => .inl rfl) (NF.out _ _ _ M1.out _ (.inl rfl)) _ B1.out.h1)
  have C1 : Hid (LvB g1 g2 g3 g4 g5 v1 x1 _ _ _ _) := Lib.hid (by
    obtain ⟨d12, d13, d14, d15, d23, d24, d25, d34, d35, d45⟩ := DD.out
    rw [← ev1]
    exact ⟨setCell_one B1.out.h1 _, set_othB B1.out.h2 (by omega), set_othB B1.out.h3 (by omega), set_othB B1.out.h4 (by omega), set_othB B1.out.h5 (by omega)⟩)
  clear B1 M1
  go_wp2_with fail
  refine (st_Push stIn12 F1 p kn D1 8 (w64_small (by omega) (by omega)) v1 N1.out.view HK.out N1.out.inv).mono ?_
  intro e w4 he
  rcases N1.out.step (More.refl _) HK.out (good_stPush stIn12 (w64_small (by omega) (by omega))) he with ⟨a', hE, rfl, hd', ht', hk'⟩ | ⟨x2, D2, F2, hE, rfl, M2, hq, hk', hf'⟩
  · exact ⟨rfl, NEED.out a' w4 _ _ _ _ _ (R1.out.symm.trans (bindP_need hE)) hd' ht' (C1.out.keepB (NF.out _ _ _ N1.out) hk')⟩
  have B2 := Lib.hid (C1.out.keepB (NF.out _ _ _ N1.out) hk')
  have R2 := Lib.hid ((bindP_ok hE).symm.trans R1.out)
  have M2 := Lib.hid M2
  clear he hE hk' hf' hq
  obtain ⟨y0, y1, y2⟩ := box_cells B2.out.h2
  obtain ⟨v2, ev2⟩ : ∃ v, w4.setCell ⟨g2, 0, none⟩ (.bool x2) = v := ⟨_, rfl⟩
  have N2 : Hid (MidV W v2 F (LvS g1 g2 g3 g4 g5) p kn 4 D2 F2) := Lib.hid (by rw [← ev2]; exact M2.out.box (fun _ => .inr (.inl rfl)) (NF.out _ _ _ M2.out _ (.inr (.inl rfl))) _ B2.out.h2)
  have C2 : Hid (LvB g1 g2 g3 g4 g5 v2 x1 x2 _ _ _) := Lib.hid (by
    obtain ⟨d12, d13, d14, d15, d23, d24, d25, d34, d35, d45⟩ := DD.out
    rw [← ev2]
    exact ⟨set_othB B2.out.h1 (by omega), setCell_one B2.out.h2 _, set_othB B2.out.h3 (by omega), set_othB B2.out.h4 (by omega), set_othB B2.out.h5 (by omega)⟩)
  clear B2 M2
  go_wp2_with fail
  refine (st_Push stIn12 F2 p kn D2 9 (w64_small (by omega) (by omega)) v2 N2.out.view HK.out N2.out.inv).mono ?_
  intro e w6 he
  rcases N2.out.step (More.refl _) HK.out (good_stPush stIn12 (w64_small (by omega) (by omega))) he with ⟨a', hE, rfl, hd', ht', hk'⟩ | ⟨x3, D3, F3, hE, rfl, M3, hq, hk', hf'⟩
  · exact ⟨rfl, NEED.out a' w6 _ _ _ _ _ (R2.out.symm.trans (bindP_need hE)) hd' ht' (C2.out.keepB (NF.out _ _ _ N2.out) hk')⟩
  have B3 := Lib.hid (C2.out.keepB (NF.out _ _ _ N2.out) hk')
  have R3 := Lib.hid ((bindP_ok hE).symm.trans R2.out)
  have M3 := Lib.hid M3
  clear he hE hk' hf' hq
  obtain ⟨y0, y1, y2⟩ := box_cells B3.out.h3
  obtain ⟨v3, ev3⟩ : ∃ v, w6.setCell ⟨g3, 0, none⟩ (.bool x3) = v := ⟨_, rfl⟩
  have N3 : Hid (MidV W v3 F (LvS g1 g2 g3 g4 g5) p kn 4 D3 F3) := Lib.hid (by rw [← ev3]; exact M3.out.box (fun _ => .inr (.inr (.inl rfl))) (NF.out _ _ _ M3.out _ (.inr (.inr (.inl rfl)))) _ B3.out.h3)
  have C3 : Hid (LvB g1 g2 g3 g4 g5 v3 x1 x2 x3 _ _) := Lib.hid (by
    obtain ⟨d12, d13, d14, d15, d23, d24, d25, d34, d35, d45⟩ := DD.out
    rw [← ev3]
    exact ⟨set_othB B3.out.h1 (by omega), set_othB B3.out.h2 (by omega), setCell_one B3.out.h3 _, set_othB B3.out.h4 (by omega), set_othB B3.out.h5 (by omega)⟩)
  clear B3 M3
  go_wp2_with fail
  refine (st_Pop stIn12 F3 p kn D3 v3 N3.out.view HK.out N3.out.inv).mono ?_
  intro e w8 he
  rcases N3.out.step (More.refl _) HK.out (good_stPop stIn12) he with ⟨a', hE, rfl, hd', ht', hk'⟩ | ⟨x4, D4, F4, hE, rfl, M4, hq, hk', hf'⟩
  · exact ⟨rfl, NEED.out a' w8 _ _ _ _ _ (R3.out.symm.trans (bindP_need hE)) hd' ht' (C3.out.keepB (NF.out _ _ _ N3.out) hk')⟩
  obtain ⟨x4, ok4⟩ := x4
  have B4 := C3.out.keepB (NF.out _ _ _ N3.out) hk'
  have R4 := (bindP_ok hE).symm.trans R3.out
  clear he hE hk' hf' hq
  obtain ⟨y0, y1, y2⟩ := box_cells B4.h4
  obtain ⟨v4, ev4⟩ : ∃ v, w8.setCell ⟨g4, 0, none⟩ (.int .i64 x4) = v := ⟨_, rfl⟩
  obtain ⟨d12, d13, d14, d15, d23, d24, d25, d34, d35, d45⟩ := DD.out
  have N4 : MidV W v4 F (LvS g1 g2 g3 g4 g5) p kn 4 D4 F4 := by rw [← ev4]; exact M4.box (fun _ => .inr (.inr (.inr (.inl rfl)))) (NF.out _ _ _ M4 _ (.inr (.inr (.inr (.inl rfl))))) _ B4.h4
  have C4 : LvB g1 g2 g3 g4 g5 v4 x1 x2 x3 x4 k0 := by
    rw [← ev4]
    exact ⟨set_othB B4.h1 (by omega), set_othB B4.h2 (by omega), set_othB B4.h3 (by omega), setCell_one B4.h4 _, set_othB B4.h5 (by omega)⟩
  obtain ⟨s0, s1, s2⟩ := box_cells C4.h5
  obtain ⟨v5, ev5⟩ : ∃ v, v4.setCell ⟨g5, 0, none⟩ (.bool ok4) = v := ⟨_, rfl⟩
  have N5 : MidV W v5 F (LvS g1 g2 g3 g4 g5) p kn 4 D4 F4 := by rw [← ev5]; exact N4.box (fun _ => .inr (.inr (.inr (.inr rfl)))) (NF.out _ _ _ N4 _ (.inr (.inr (.inr (.inr rfl))))) _ C4.h5
  have C5 : LvB g1 g2 g3 g4 g5 v5 x1 x2 x3 x4 ok4 := by
    rw [← ev5]
    exact ⟨set_othB C4.h1 (by omega), set_othB C4.h2 (by omega), set_othB C4.h3 (by omega), set_othB C4.h4 (by omega), setCell_one C4.h5 _⟩
  have hx := HT.out _ _ R4.symm
  simp only [Prod.mk.injEq] at hx
  obtain ⟨e1, e2, e3, e4, e5⟩ := hx
  have FIN := Lib.hid (show WentY W F (LvS g1 g2 g3 g4 g5) (fun w' => ∃ a b c x k, LvB g1 g2 g3 g4 g5 w' a b c x k) (fun w' => LvB g1 g2 g3 g4 g5 w' a b c x k) p kn (ranOf Rr) (.returned (.tuple #[])) v5 from wy_done N5 (ranOf_ok R4.symm) ⟨_, _, _, _, _, C5⟩ (by rw [← e1, ← e2, ← e3, ← e4, ← e5]; exact C5))
  clear N4 C4 N5 C5 M4 B4 e1 e2 e3 e4 e5 R4 d12 d13 d14 d15 d23 d24 d25 d34 d35 d45
  go_wp2_with fail
  go_end0
  exact FIN.out

theorem live12_do (g1 g2 g3 g4 g5 : Nat) (ad : Option Addr) (cap : Nat) (w : World) (hY : LvB g1 g2 g3 g4 g5 w false false false 0 false) (hd : Five g1 g2 g3 g4 g5) (hz : IsWords w ad (zeros 4)) :
    Calls Try.prog 7 #[.slice ad 4 cap, .func (.func 17) #[] #[.pointer (some ⟨g1, 0, none⟩), .pointer (some ⟨g2, 0, none⟩), .pointer (some ⟨g3, 0, none⟩), .pointer (some ⟨g4, 0, none⟩), .pointer (some ⟨g5, 0, none⟩)]] w (fun e w' => ∃ v1 v2, e = .returned (.tuple #[v1, v2, .int .i64 0]) ∧ Rw w.heap.size w' v1 (applyD (zeros 4) live12D) ∧ Turned (LvS g1 g2 g3 g4 g5) w w' ∧ LvB g1 g2 g3 g4 g5 w' true true false 8 true) := by
  obtain ⟨K', hK'⟩ := live12_ends
  have hl : (zeros 4).length = 4 := zeros_len 4
  have G : Good (zeros 4).length (fun _ => True) live12P := by rw [hl]; exact good_live12
  have hlt : ∀ k, LvS g1 g2 g3 g4 g5 k → k < w.heap.size := fun k q => hY.lt q
  have M := doX_ok ad cap (zeros 4) (fun K => ranOf (live12P (look K) [])) (some (applyD (zeros 4) live12D, K')) (zeros 4).length w hz (by omega) (okW_zeros _) (fine_of G (okW_zeros _) (by omega)) (by omega) hK' 17 #[.pointer (some ⟨g1, 0, none⟩), .pointer (some ⟨g2, 0, none⟩), .pointer (some ⟨g3, 0, none⟩), .pointer (some ⟨g4, 0, none⟩), .pointer (some ⟨g5, 0, none⟩)] (LvS g1 g2 g3 g4 g5)
    (fun w' => ∃ a b c x k, LvB g1 g2 g3 g4 g5 w' a b c x k) (fun _ w' => LvB g1 g2 g3 g4 g5 w' true true false 8 true)
    hlt
    (fun w' w'' y t => by obtain ⟨a, b, c, x, k, h⟩ := y; exact ⟨a, b, c, x, k, h.keep t (fun k q r => by have := hlt k q; omega)⟩)
    (fun b w' w'' hb y t => y.keep t (fun k q r => by have := hlt k q; omega)) ⟨_, _, _, _, _, hY⟩ (enters_of Try.func17 (by kernel_rfl) rfl)
    (fun K hK W F p t y hv hF => by
      obtain ⟨a, b, c, x, k, y⟩ := y
      exact live12_clo F p g1 g2 g3 g4 g5 (look K) W hv (okK_of hK (okW_zeros _)) a b c k x y (fun k q r => by have := hlt k q; have := hF _ r; omega) hd true true false true 8
        (fun z D e => (sound_same sound_live12 hK live12_run e).1))
  rw [hl] at M
  refine M.mono ?_
  rintro e w' ⟨v1, v2, b, rfl, r1, _, t, _, _, x⟩
  exact ⟨v1, v2, rfl, r1, t, x⟩
theorem live12_len : (applyD (zeros 4) live12D).length = 4 := by rw [len_apply, zeros_len]
theorem live12_one : (applyD (zeros 4) live12D).getD 1 0 = 1 := by kernel_rfl
theorem live12_two : (applyD (zeros 4) live12D).getD 2 0 = 7 := by kernel_rfl
set_option maxRecDepth 100000 in
set_option maxHeartbeats 2000000 in
theorem lives12_ok (w : World) : Calls Try.prog 6 #[] w (Gives w (.bool true)) := by
  obtain ⟨w4, e4, b1, b2, b3, b5, m4, s4⟩ := entry4 w (.cells #[.bool false] 4) (.cells #[.bool false] 4) (.cells #[.bool false] 4) (.cells #[.bool false] 4)
  have n1 := set_noop b1
  have n2 := set_noop b2
  have n3 := set_noop b3
  have n5 := set_noop b5
  obtain ⟨p1, q1, _⟩ := box_cells b1
  obtain ⟨p2, q2, _⟩ := box_cells b2
  obtain ⟨p3, q3, _⟩ := box_cells b3
  obtain ⟨p5, q5, _⟩ := box_cells b5
  obtain ⟨w5, e5, b4, m5, s5⟩ := entry1 w4 (.cells #[.int .i64 0] 3)
  rw [s4] at b4 s5
  have n4 := set_noop b4
  obtain ⟨p4, q4, _⟩ := box_cells b4
  obtain ⟨w6, hmk, bz, m6, s6⟩ : ∃ w6, (Instr.makeSlice 23 (.int .i64 4) (.int .i64 4)).run Try.prog w5 = .ok (.slice (some ⟨w5.heap.size, 0, none⟩) 4 4) w6 ∧ w6.heap[w5.heap.size]? = some (.cells (rowOf (zeros 4)) 3 (0, 0)) ∧ More w5 w6 ∧ w6.heap.size = w5.heap.size + 1 :=
    ⟨_, run_make_zs 4 (by omega) w5, row_new w5 _ _, (More.refl _).alloc _, by simp⟩
  rw [s5] at hmk bz
  have m46 := m5.trans m6
  have Z6 := Lib.hid (ws_zeros w6 4 (by omega) bz).words
  have B6 : LvB w.heap.size (w.heap.size + 1) (w.heap.size + 2) (w.heap.size + 4) (w.heap.size + 3) w6 false false false 0 false := ⟨m46.block b1, m46.block b2, m46.block b3, m6.block b4, m46.block b5⟩
  have LD := Lib.hid (live12_do w.heap.size (w.heap.size + 1) (w.heap.size + 2) (w.heap.size + 4) (w.heap.size + 3) (some ⟨w.heap.size + 5, 0, none⟩) 4 w6 B6 ⟨by omega, by omega, by omega, by omega, by omega, by omega, by omega, by omega, by omega, by omega⟩ Z6.out)
  have M6 := Lib.hid (m4.trans m46)
  have hS : ∀ k, LvS w.heap.size (w.heap.size + 1) (w.heap.size + 2) (w.heap.size + 4) (w.heap.size + 3) k → w.heap.size ≤ k := by rintro k (rfl | rfl | rfl | rfl | rfl) <;> omega
  have HS := Lib.hid hS
  clear b1 b2 b3 b5 b4 bz B6 m46 m5 m6 m4 Z6 hS
  go_enter Try.func6, Try.ntmps6
  go_wp2_with fail
  refine LD.out.mono ?_
  rintro e w7 ⟨v1, v2, rfl, r1, t7, B7⟩
  obtain ⟨a, cap, rfl, hrd⟩ := r1.reads
  rw [live12_len] at hrd ⊢
  obtain ⟨gw, rfl, hb1, hb2, hcell⟩ := hrd 0 (by omega)
  have c1 := hcell 1 (by omega)
  have c2 := hcell 2 (by omega)
  rw [live12_one] at c1
  rw [live12_two] at c2
  have k1 := (box_cells B7.h1).1
  have k2 := (box_cells B7.h2).1
  have k3 := (box_cells B7.h3).1
  have k4 := (box_cells B7.h4).1
  have k5 := (box_cells B7.h5).1
  have FIN := Lib.hid (show More w w7 from Turned.mono (turned_own (F := fun _ => False) M6.out t7 (fun b e => .inr (HS.out b e))) (fun _ _ q => q))
  clear r1 hrd hcell t7 B7 LD M6 HS p1 p2 p3 p4 p5 q1 q2 q3 q4 q5 n1 n2 n3 n4 n5 e4 e5 hmk
  go_wp2_with fail
  go_ret
  exact ⟨rfl, FIN.out⟩
end Go.Proofs.Ytflihdcliknggaa
