/-
  ExtentLeast's program, walked.
-/
import Derived.Test.YtcjnkadmiflgaaaExtLeastD
import Derived.Test.YtcjnkadmiflgaaaExtAftAll
namespace Go.Proofs.Ytcjnkadmiflgaaa
open Go.RowKit Go.Sort Go.Maps Go.Shelf
set_option linter.unusedVariables false
set_option linter.unusedSimpArgs false
set_option linter.unusedSectionVars false

structure LsC (c : Cfg) (g1 g2 g3 : Nat) (m step : Int) (W : World) : Prop where
  l : W.heap[g1]? = some (.cells c.arr 28 (0, 0))
  n : W.heap[g2]? = some (.cells #[.int .i64 m] 3 (0, 0))
  s : W.heap[g3]? = some (.cells #[.int .i64 step] 3 (0, 0))
structure LsY (c : Cfg) (g1 g2 g3 g4 : Nat) (m step : Int) (w : World) : Prop where
  k : LsC c g1 g2 g3 m step w
  r : ∃ b, BoxB g4 w b
theorem LsC.keep {c : Cfg} {g1 g2 g3 : Nat} {m step : Int} {S : Nat → Prop} {w w' : World} (h : LsC c g1 g2 g3 m step w) (t : Turned S w w') (n1 : ¬ S g1) (n2 : ¬ S g2) (n3 : ¬ S g3) : LsC c g1 g2 g3 m step w' :=
  ⟨(t.block g1 (lt_of_heap h.l) n1).trans h.l, (t.block g2 (lt_of_heap h.n) n2).trans h.n, (t.block g3 (lt_of_heap h.s) n3).trans h.s⟩

set_option maxRecDepth 100000 in
set_option maxHeartbeats 8000000 in
theorem least_clo {c : Cfg} (R : c.Ok) {n : Nat} (H : PgIn c.pg c.st n) (hn : n ≤ 10000) (F : Nat → Prop) (p g1 g2 g3 g4 : Nat) (kn : Int → Option Int) (m step : Int) (hm : 1 ≤ m ∧ m ≤ 20) (hs : 1 ≤ step ∧ step ≤ 20) (W0 : World) (hv : ViewAt W0 F p kn []) (hk : OkK kn) (hY : LsY c g1 g2 g3 g4 m step W0) (n1 : ¬ F g1) (n2 : ¬ F g2) (n3 : ¬ F g3) (n4 : ¬ F g4) (hne : g1 ≠ g4 ∧ g2 ≠ g4 ∧ g3 ≠ g4) (ht : ∀ z D, llawP c.pg c.st m step kn [] = .ok z D → z = true) :
    Calls Try.prog 9 #[.pointer (some ⟨p, 0, none⟩), .pointer (some ⟨g1, 0, none⟩), .pointer (some ⟨g2, 0, none⟩), .pointer (some ⟨g3, 0, none⟩), .pointer (some ⟨g4, 0, none⟩)] W0 (WentY W0 F (fun b => b = g4) (fun w' => LsY c g1 g2 g3 g4 m step w') (fun w' => BoxB g4 w' true) p kn (ranOf (llawP c.pg c.st m step kn []))) := by
  obtain ⟨Rr, hR⟩ : ∃ Rr, llawP c.pg c.st m step kn [] = Rr := ⟨_, rfl⟩
  rw [hR] at ht ⊢
  obtain ⟨b0, hb0⟩ := hY.r
  have l4 := lt_of_heap hb0
  have HK := Lib.hid hk
  have HR := Lib.hid R
  have HH := Lib.hid H
  have pg1 := HR.out.pg1
  have pg2 := HR.out.pg2
  have M0 : Hid (MidV W0 W0 F (fun b => b = g4) p kn n [] F) := Lib.hid (MidV.begin hv (invD_nil n))
  have B0 := Lib.hid hb0
  have KT : Hid (∀ wr, Turned (fun b => F b ∨ b = g4) W0 wr → LsC c g1 g2 g3 m step wr) := Lib.hid fun wr t => hY.k.keep t (by rintro (q | q); exact n1 q; exact hne.1 q) (by rintro (q | q); exact n2 q; exact hne.2.1 q) (by rintro (q | q); exact n3 q; exact hne.2.2 q)
  have KL : Hid (∀ wr D' F', MidV W0 wr F (fun b => b = g4) p kn n D' F' → LsC c g1 g2 g3 m step wr) := Lib.hid fun wr D' F' h => KT.out _ h.turn
  have NF : Hid (∀ wr D' F', MidV W0 wr F (fun b => b = g4) p kn n D' F' → ¬ F' g4) := Lib.hid fun wr D' F' h => h.off l4 n4
  have NEED : Hid (∀ a w2 (b : Bool), Rr = .need a → DeadAt w2 p a → Turned (fun b => F b ∨ b = g4) W0 w2 → BoxB g4 w2 b → WentY W0 F (fun b => b = g4) (fun w' => LsY c g1 g2 g3 g4 m step w') (fun w' => BoxB g4 w' true) p kn (ranOf Rr) (.panicked (endOf p)) w2) := Lib.hid fun a w2 b e hd ht' hb => wy_need (ranOf_need e) hd ht' ⟨KT.out _ ht', ⟨b, hb⟩⟩
  have DONE : Hid (∀ w2 D F' (b : Bool), Rr = .ok b D → MidV W0 w2 F (fun b => b = g4) p kn n D F' → BoxB g4 w2 b → WentY W0 F (fun b => b = g4) (fun w' => LsY c g1 g2 g3 g4 m step w') (fun w' => BoxB g4 w' true) p kn (ranOf Rr) (.returned (.tuple #[])) w2) := Lib.hid fun w2 D F' b e h hb => wy_done h (ranOf_ok e) ⟨KL.out _ _ _ h, ⟨b, hb⟩⟩ (by rw [ht b D e] at hb; exact hb)
  have HRr := Lib.hid hR
  have hfl := field_pages c
  have L0 := Lib.hid hY.k.l
  have c20 := (box_cells hY.k.n).1
  have c30 := (box_cells hY.k.s).1
  have hmw : W64 m := by unfold W64; omega
  have hsw : W64 step := by unfold W64; omega
  have hmb : 0 ≤ m ∧ m ≤ 300 := by omega
  clear hv hk R H hY hb0 n1 n2 n3 n4 hne ht hR KT
  go_enter Try.func9, Try.ntmps9
  go_wp2_with (first | (refine wpList_load_row rfl 28 _ rfl _ rfl 28 _ _ _ L0.out Try.underlying28 rfl (by kernel_rfl) ?_) | (refine wpList_load_rowG rfl 28 _ rfl _ rfl 28 _ _ _ L0.out Try.underlying28 rfl (by kernel_rfl) ?_))
  refine (e_Find HR.out HH.out F p kn [] m step hmw hsw W0 M0.out.view HK.out M0.out.inv).mono ?_
  intro e w1 he
  rcases M0.out.step (More.refl _) HK.out (good_find HH.out _ _) he with ⟨a', hE, rfl, hd', ht', hk'⟩ | ⟨x1, D1, F1, hE, rfl, M1, hq1, hk', hf'⟩
  · exact ⟨rfl, NEED.out a' w1 _ (HRr.out.symm.trans (bindP_need hE)) hd' ht' (hk' _ _ (NF.out _ _ _ M0.out) B0.out)⟩
  have B1 := Lib.hid (show BoxB g4 w1 b0 from hk' _ _ (NF.out _ _ _ M0.out) B0.out)
  have R1 := Lib.hid ((bindP_ok hE).symm.trans HRr.out)
  have M1 := Lib.hid M1
  have L1 := Lib.hid (KL.out _ _ _ M1.out).l
  have c21 := (box_cells (KL.out _ _ _ M1.out).n).1
  have c31 := (box_cells (KL.out _ _ _ M1.out).s).1
  clear he hE hk' hf'
  clear c20 c30 hmw hsw
  by_cases a0 : 0 ≤ x1
  · have d0 : decide (0 ≤ x1) = true := by simp [a0]
    have d1 : decide (x1 < 0) = false := by simp; omega
    have hxb : 0 ≤ x1 ∧ x1 ≤ 300 := by omega
    have R1' := Lib.hid (show bindP (efitsP c.pg c.st x1 m true) (fun mp => bindP (lfreeP c.pg c.st m step x1) fun r => lloopP c.pg c.st m step x1 mp c.pg.toNat 0 r) kn D1 = Rr from by have := R1.out; unfold lmapP at this; rw [if_pos a0] at this; exact this)
    clear R1
    go_wp2_with (first | (refine wpList_load_row rfl 28 _ rfl _ rfl 28 _ _ _ L1.out Try.underlying28 rfl (by kernel_rfl) ?_) | (refine wpList_load_rowG rfl 28 _ rfl _ rfl 28 _ _ _ L1.out Try.underlying28 rfl (by kernel_rfl) ?_))
    refine (e_fits9 HR.out HH.out F1 p kn D1 x1 m true hxb hmb w1 M1.out.view HK.out M1.out.inv).mono ?_
    intro e w2 he
    rcases M1.out.step (More.refl _) HK.out (good_fits HH.out _ _ _) he with ⟨a', hE, rfl, hd', ht', hk'⟩ | ⟨x2, D2, F2, hE, rfl, M2, hq2, hk', hf'⟩
    · exact ⟨rfl, NEED.out a' w2 _ (R1'.out.symm.trans (bindP_need hE)) hd' ht' (hk' _ _ (NF.out _ _ _ M1.out) B1.out)⟩
    have B2 := Lib.hid (show BoxB g4 w2 b0 from hk' _ _ (NF.out _ _ _ M1.out) B1.out)
    have R2 := Lib.hid ((bindP_ok hE).symm.trans R1'.out)
    have M2 := Lib.hid M2
    have L2 := Lib.hid (KL.out _ _ _ M2.out).l
    have c22 := (box_cells (KL.out _ _ _ M2.out).n).1
    have c32 := (box_cells (KL.out _ _ _ M2.out).s).1
    clear he hE hk' hf'
    clear c21 c31
    have nz : (step == 0) = false := by simp; omega
    have nz1 : (step == -1) = false := by simp; omega
    by_cases z : x1.tmod step = 0
    · have dz : (x1.tmod step == 0) = true := by simp [z]
      have R2' := Lib.hid (show bindP (efitsP c.pg c.st x1 m false) (fun r => lloopP c.pg c.st m step x1 x2 c.pg.toNat 0 r) kn D2 = Rr from by have := R2.out; unfold lfreeP at this; rw [if_neg (by omega), if_pos z] at this; exact this)
      clear R2
      go_wp2_with (first | (refine wpList_load_row rfl 28 _ rfl _ rfl 28 _ _ _ L2.out Try.underlying28 rfl (by kernel_rfl) ?_) | (refine wpList_load_rowG rfl 28 _ rfl _ rfl 28 _ _ _ L2.out Try.underlying28 rfl (by kernel_rfl) ?_))
      refine (e_fits9 HR.out HH.out F2 p kn D2 x1 m false hxb hmb w2 M2.out.view HK.out M2.out.inv).mono ?_
      intro e w3 he
      rcases M2.out.step (More.refl _) HK.out (good_fits HH.out _ _ _) he with ⟨a', hE, rfl, hd', ht', hk'⟩ | ⟨x3, D3, F3, hE, rfl, M3, hq3, hk', hf'⟩
      · exact ⟨rfl, NEED.out a' w3 _ (R2'.out.symm.trans (bindP_need hE)) hd' ht' (hk' _ _ (NF.out _ _ _ M2.out) B2.out)⟩
      have B3 := Lib.hid (show BoxB g4 w3 b0 from hk' _ _ (NF.out _ _ _ M2.out) B2.out)
      have R3 := Lib.hid ((bindP_ok hE).symm.trans R2'.out)
      have M3 := Lib.hid M3
      have L3 := Lib.hid (KL.out _ _ _ M3.out).l
      have c23 := (box_cells (KL.out _ _ _ M3.out).n).1
      have c33 := (box_cells (KL.out _ _ _ M3.out).s).1
      clear he hE hk' hf'
      clear c22 c32 dz z
      cases x2 with
      | false =>
        obtain ⟨cS, fS, lS⟩ := box_cells B3.out
        obtain ⟨wS, eS⟩ : ∃ wS, w3.setCell ⟨g4, 0, none⟩ (.bool x3) = wS := ⟨_, rfl⟩
        have MS : Hid (MidV W0 wS F (fun b => b = g4) p kn n D3 F3) := Lib.hid (by rw [← eS]; exact M3.out.box (fun _ => rfl) (NF.out _ _ _ M3.out) _ B3.out)
        have BS : Hid (BoxB g4 wS x3) := Lib.hid (by rw [← eS]; exact boxB_set B3.out x3)
        have RS := Lib.hid (show lloopP c.pg c.st m step x1 false c.pg.toNat 0 x3 kn D3 = Rr from R3.out)
        clear R3
        go_wp2_with fail
        clear cS fS lS
        go_loopw [8] (fun v8 wr => ∃ (q : Int) (j : Nat) (D' : List KV) (F' : Nat → Prop) (r : Bool), v8 = .int .i64 q ∧ 0 ≤ q ∧ q ≤ 300 ∧ c.pg ≤ q + (j : Int) ∧ MidV W0 wr F (fun b => b = g4) p kn n D' F' ∧ BoxB g4 wr r ∧ lloopP c.pg c.st m step x1 false j q r kn D' = Rr) (fun v8 _ => (c.pg - intOf v8).toNat)
        case atStart => exact ⟨0, c.pg.toNat, D3, F3, x3, rfl, by omega, by omega, by omega, MS.out, BS.out, RS.out⟩
        case round =>
          clear MS BS RS eS
          obtain ⟨q, j, D', F', r, rfl, q0, q9, hj, MI, BI, hrest⟩ := hrel
          have MI := Lib.hid MI
          have BI := Lib.hid BI
          have LI := Lib.hid (KL.out _ _ _ MI.out).l
          go_wp2_with (first | (refine wpList_load_row rfl 28 _ rfl _ rfl 28 _ _ _ LI.out Try.underlying28 rfl (by kernel_rfl) ?_) | (refine wpList_load_rowG rfl 28 _ rfl _ rfl 28 _ _ _ LI.out Try.underlying28 rfl (by kernel_rfl) ?_))
          refine (y_config HR.out _).mono ?_
          rintro e w4 ⟨rfl, h4⟩
          have M4 := Lib.hid (MI.out.more h4)
          have B4 : Hid (BoxB g4 w4 r) := Lib.hid (h4.block BI.out)
          have L4 := Lib.hid (KL.out _ _ _ M4.out).l
          have c24 := (box_cells (KL.out _ _ _ M4.out).n).1
          have c34 := (box_cells (KL.out _ _ _ M4.out).s).1
          clear h4
          by_cases hlt : q < c.pg
          · have d3 : decide (q < c.pg) = true := by simp [hlt]
            have q3 : IntKind.i64.wrap (q + step) = q + step := wrap_in (by omega) (by omega)
            have hqb : 0 ≤ q ∧ q ≤ 300 := by omega
            obtain ⟨j, rfl⟩ : ∃ k, j = k + 1 := ⟨j - 1, by omega⟩
            rw [lloop_step hlt] at hrest
            have RI := Lib.hid hrest
            clear hrest
            go_wp2_with (first | (refine wpList_load_row rfl 28 _ rfl _ rfl 28 _ _ _ L4.out Try.underlying28 rfl (by kernel_rfl) ?_) | (refine wpList_load_rowG rfl 28 _ rfl _ rfl 28 _ _ _ L4.out Try.underlying28 rfl (by kernel_rfl) ?_))
            refine (e_fits9 HR.out HH.out F' p kn D' q m true hqb hmb w4 M4.out.view HK.out M4.out.inv).mono ?_
            intro e w5 he
            rcases M4.out.step (More.refl _) HK.out (good_fits HH.out _ _ _) he with ⟨a', hE, rfl, hd', ht', hk'⟩ | ⟨x5, D5, F5, hE, rfl, M5, hq5, hk', hf'⟩
            · exact ⟨rfl, NEED.out a' w5 _ (RI.out.symm.trans (bindP_need hE)) hd' ht' (hk' _ _ (NF.out _ _ _ M4.out) B4.out)⟩
            have B5 := Lib.hid (show BoxB g4 w5 r from hk' _ _ (NF.out _ _ _ M4.out) B4.out)
            have R5 := Lib.hid ((bindP_ok hE).symm.trans RI.out)
            have M5 := Lib.hid M5
            have L5 := Lib.hid (KL.out _ _ _ M5.out).l
            have c25 := (box_cells (KL.out _ _ _ M5.out).n).1
            have c35 := (box_cells (KL.out _ _ _ M5.out).s).1
            clear he hE hk' hf'
            clear c24 c34
            cases x5 with
            | false =>
              have R6 := Lib.hid ((congrFun (congrFun (ltail_two (pg := c.pg) (st := c.st) (m := m) (p := x1) (mp := false) (q := q) (a := false) (by simp)) kn) D5).symm.trans R5.out)
              clear R5
              go_wp2_with (first | (refine wpList_load_row rfl 28 _ rfl _ rfl 28 _ _ _ L5.out Try.underlying28 rfl (by kernel_rfl) ?_) | (refine wpList_load_rowG rfl 28 _ rfl _ rfl 28 _ _ _ L5.out Try.underlying28 rfl (by kernel_rfl) ?_))
              refine (e_fits9 HR.out HH.out F5 p kn D5 q m false hqb hmb w5 M5.out.view HK.out M5.out.inv).mono ?_
              intro e w7 he
              rcases M5.out.step (More.refl _) HK.out (good_fits HH.out _ _ _) he with ⟨a', hE, rfl, hd', ht', hk'⟩ | ⟨x7, D7, F7, hE, rfl, M7, hq7, hk', hf'⟩
              · exact ⟨rfl, NEED.out a' w7 _ (R6.out.symm.trans (bindP_need hE)) hd' ht' (hk' _ _ (NF.out _ _ _ M5.out) B5.out)⟩
              have B7 := Lib.hid (show BoxB g4 w7 r from hk' _ _ (NF.out _ _ _ M5.out) B5.out)
              have R7 := Lib.hid ((bindP_ok hE).symm.trans R6.out)
              have M7 := Lib.hid M7
              have L7 := Lib.hid (KL.out _ _ _ M7.out).l
              have c27 := (box_cells (KL.out _ _ _ M7.out).n).1
              have c37 := (box_cells (KL.out _ _ _ M7.out).s).1
              clear he hE hk' hf'
              clear c25 c35
              cases x7 with
              | false =>
                have NX := Lib.hid (show lloopP c.pg c.st m step x1 false j (q + step) r kn D7 = Rr from R7.out)
                clear R7
                go_wp2_with fail
                go_roundw
                case rel => exact ⟨q + step, j, D7, F7, r, rfl, by omega, by omega, by omega, M7.out, B7.out, NX.out⟩
                case measure => simp [intOf]; omega
              | true =>
                by_cases z2 : q < x1
                · have d2 : decide (q < x1) = true := by simp [z2]
                  have NX := Lib.hid (show lloopP c.pg c.st m step x1 false j (q + step) false kn D7 = Rr from (by have := R7.out; simp only [d1, d2, Bool.true_and, Bool.false_or, Bool.not_false, if_true] at this; exact this))
                  obtain ⟨cS, fS, lS⟩ := box_cells B7.out
                  obtain ⟨wS, eS⟩ : ∃ wS, w7.setCell ⟨g4, 0, none⟩ (.bool false) = wS := ⟨_, rfl⟩
                  have MS : Hid (MidV W0 wS F (fun b => b = g4) p kn n D7 F7) := Lib.hid (by rw [← eS]; exact M7.out.box (fun _ => rfl) (NF.out _ _ _ M7.out) _ B7.out)
                  have BS : Hid (BoxB g4 wS false) := Lib.hid (by rw [← eS]; exact boxB_set B7.out false)
                  have cc := (box_cells (KL.out _ _ _ MS.out).s).1
                  clear R7
                  go_wp2_with fail
                  go_roundw
                  case rel => exact ⟨q + step, j, D7, F7, false, rfl, by omega, by omega, by omega, MS.out, BS.out, NX.out⟩
                  case measure => simp [intOf]; omega
                · have d2 : decide (q < x1) = false := by simp; omega
                  have NX := Lib.hid (show lloopP c.pg c.st m step x1 false j (q + step) r kn D7 = Rr from (by have := R7.out; simp only [d1, d2, Bool.true_and, Bool.false_or, Bool.not_false, Bool.false_eq_true, if_false] at this; exact this))
                  clear R7
                  go_wp2_with fail
                  go_roundw
                  case rel => exact ⟨q + step, j, D7, F7, r, rfl, by omega, by omega, by omega, M7.out, B7.out, NX.out⟩
                  case measure => simp [intOf]; omega
            | true =>
              have NX := Lib.hid (show lloopP c.pg c.st m step x1 false j (q + step) false kn D5 = Rr from ((congrFun (congrFun (ltail_hit (pg := c.pg) (st := c.st) (m := m) (p := x1) (mp := false) (q := q) (by simp)) kn) D5).symm.trans R5.out))
              obtain ⟨cS, fS, lS⟩ := box_cells B5.out
              obtain ⟨wS, eS⟩ : ∃ wS, w5.setCell ⟨g4, 0, none⟩ (.bool false) = wS := ⟨_, rfl⟩
              have MS : Hid (MidV W0 wS F (fun b => b = g4) p kn n D5 F5) := Lib.hid (by rw [← eS]; exact M5.out.box (fun _ => rfl) (NF.out _ _ _ M5.out) _ B5.out)
              have BS : Hid (BoxB g4 wS false) := Lib.hid (by rw [← eS]; exact boxB_set B5.out false)
              have cc := (box_cells (KL.out _ _ _ MS.out).s).1
              clear R5
              go_wp2_with fail
              go_roundw
              case rel => exact ⟨q + step, j, D5, F5, false, rfl, by omega, by omega, by omega, MS.out, BS.out, NX.out⟩
              case measure => simp [intOf]; omega
          · have d3 : decide (q < c.pg) = false := by simp; omega
            rw [lloop_end (by omega)] at hrest
            have FIN := Lib.hid (DONE.out _ D' F' r hrest.symm M4.out B4.out)
            clear hrest
            go_wp2_with fail
            go_end0
            exact FIN.out
      | true =>
        obtain ⟨cS, fS, lS⟩ := box_cells B3.out
        obtain ⟨wS, eS⟩ : ∃ wS, w3.setCell ⟨g4, 0, none⟩ (.bool x3) = wS := ⟨_, rfl⟩
        have MS : Hid (MidV W0 wS F (fun b => b = g4) p kn n D3 F3) := Lib.hid (by rw [← eS]; exact M3.out.box (fun _ => rfl) (NF.out _ _ _ M3.out) _ B3.out)
        have BS : Hid (BoxB g4 wS x3) := Lib.hid (by rw [← eS]; exact boxB_set B3.out x3)
        have RS := Lib.hid (show lloopP c.pg c.st m step x1 true c.pg.toNat 0 x3 kn D3 = Rr from R3.out)
        clear R3
        go_wp2_with fail
        clear cS fS lS
        go_loopw [8] (fun v8 wr => ∃ (q : Int) (j : Nat) (D' : List KV) (F' : Nat → Prop) (r : Bool), v8 = .int .i64 q ∧ 0 ≤ q ∧ q ≤ 300 ∧ c.pg ≤ q + (j : Int) ∧ MidV W0 wr F (fun b => b = g4) p kn n D' F' ∧ BoxB g4 wr r ∧ lloopP c.pg c.st m step x1 true j q r kn D' = Rr) (fun v8 _ => (c.pg - intOf v8).toNat)
        case atStart => exact ⟨0, c.pg.toNat, D3, F3, x3, rfl, by omega, by omega, by omega, MS.out, BS.out, RS.out⟩
        case round =>
          clear MS BS RS eS
          obtain ⟨q, j, D', F', r, rfl, q0, q9, hj, MI, BI, hrest⟩ := hrel
          have MI := Lib.hid MI
          have BI := Lib.hid BI
          have LI := Lib.hid (KL.out _ _ _ MI.out).l
          go_wp2_with (first | (refine wpList_load_row rfl 28 _ rfl _ rfl 28 _ _ _ LI.out Try.underlying28 rfl (by kernel_rfl) ?_) | (refine wpList_load_rowG rfl 28 _ rfl _ rfl 28 _ _ _ LI.out Try.underlying28 rfl (by kernel_rfl) ?_))
          refine (y_config HR.out _).mono ?_
          rintro e w4 ⟨rfl, h4⟩
          have M4 := Lib.hid (MI.out.more h4)
          have B4 : Hid (BoxB g4 w4 r) := Lib.hid (h4.block BI.out)
          have L4 := Lib.hid (KL.out _ _ _ M4.out).l
          have c24 := (box_cells (KL.out _ _ _ M4.out).n).1
          have c34 := (box_cells (KL.out _ _ _ M4.out).s).1
          clear h4
          by_cases hlt : q < c.pg
          · have d3 : decide (q < c.pg) = true := by simp [hlt]
            have q3 : IntKind.i64.wrap (q + step) = q + step := wrap_in (by omega) (by omega)
            have hqb : 0 ≤ q ∧ q ≤ 300 := by omega
            obtain ⟨j, rfl⟩ : ∃ k, j = k + 1 := ⟨j - 1, by omega⟩
            rw [lloop_step hlt] at hrest
            have RI := Lib.hid hrest
            clear hrest
            go_wp2_with (first | (refine wpList_load_row rfl 28 _ rfl _ rfl 28 _ _ _ L4.out Try.underlying28 rfl (by kernel_rfl) ?_) | (refine wpList_load_rowG rfl 28 _ rfl _ rfl 28 _ _ _ L4.out Try.underlying28 rfl (by kernel_rfl) ?_))
            refine (e_fits9 HR.out HH.out F' p kn D' q m true hqb hmb w4 M4.out.view HK.out M4.out.inv).mono ?_
            intro e w5 he
            rcases M4.out.step (More.refl _) HK.out (good_fits HH.out _ _ _) he with ⟨a', hE, rfl, hd', ht', hk'⟩ | ⟨x5, D5, F5, hE, rfl, M5, hq5, hk', hf'⟩
            · exact ⟨rfl, NEED.out a' w5 _ (RI.out.symm.trans (bindP_need hE)) hd' ht' (hk' _ _ (NF.out _ _ _ M4.out) B4.out)⟩
            have B5 := Lib.hid (show BoxB g4 w5 r from hk' _ _ (NF.out _ _ _ M4.out) B4.out)
            have R5 := Lib.hid ((bindP_ok hE).symm.trans RI.out)
            have M5 := Lib.hid M5
            have L5 := Lib.hid (KL.out _ _ _ M5.out).l
            have c25 := (box_cells (KL.out _ _ _ M5.out).n).1
            have c35 := (box_cells (KL.out _ _ _ M5.out).s).1
            clear he hE hk' hf'
            clear c24 c34
            cases x5 with
            | false =>
              have R6 := Lib.hid ((congrFun (congrFun (ltail_two (pg := c.pg) (st := c.st) (m := m) (p := x1) (mp := true) (q := q) (a := false) (by simp)) kn) D5).symm.trans R5.out)
              clear R5
              go_wp2_with (first | (refine wpList_load_row rfl 28 _ rfl _ rfl 28 _ _ _ L5.out Try.underlying28 rfl (by kernel_rfl) ?_) | (refine wpList_load_rowG rfl 28 _ rfl _ rfl 28 _ _ _ L5.out Try.underlying28 rfl (by kernel_rfl) ?_))
              refine (e_fits9 HR.out HH.out F5 p kn D5 q m false hqb hmb w5 M5.out.view HK.out M5.out.inv).mono ?_
              intro e w7 he
              rcases M5.out.step (More.refl _) HK.out (good_fits HH.out _ _ _) he with ⟨a', hE, rfl, hd', ht', hk'⟩ | ⟨x7, D7, F7, hE, rfl, M7, hq7, hk', hf'⟩
              · exact ⟨rfl, NEED.out a' w7 _ (R6.out.symm.trans (bindP_need hE)) hd' ht' (hk' _ _ (NF.out _ _ _ M5.out) B5.out)⟩
              have B7 := Lib.hid (show BoxB g4 w7 r from hk' _ _ (NF.out _ _ _ M5.out) B5.out)
              have R7 := Lib.hid ((bindP_ok hE).symm.trans R6.out)
              have M7 := Lib.hid M7
              have L7 := Lib.hid (KL.out _ _ _ M7.out).l
              have c27 := (box_cells (KL.out _ _ _ M7.out).n).1
              have c37 := (box_cells (KL.out _ _ _ M7.out).s).1
              clear he hE hk' hf'
              clear c25 c35
              cases x7 with
              | false =>
                have NX := Lib.hid (show lloopP c.pg c.st m step x1 true j (q + step) r kn D7 = Rr from R7.out)
                clear R7
                go_wp2_with fail
                go_roundw
                case rel => exact ⟨q + step, j, D7, F7, r, rfl, by omega, by omega, by omega, M7.out, B7.out, NX.out⟩
                case measure => simp [intOf]; omega
              | true =>
                have NX := Lib.hid (show lloopP c.pg c.st m step x1 true j (q + step) r kn D7 = Rr from (by have := R7.out; simp only [d1, Bool.true_and, Bool.false_or, Bool.not_true, Bool.false_and, Bool.false_eq_true, if_false] at this; exact this))
                clear R7
                go_wp2_with fail
                go_roundw
                case rel => exact ⟨q + step, j, D7, F7, r, rfl, by omega, by omega, by omega, M7.out, B7.out, NX.out⟩
                case measure => simp [intOf]; omega
            | true =>
              by_cases z2 : q < x1
              · have d2 : decide (q < x1) = true := by simp [z2]
                have NX := Lib.hid (show lloopP c.pg c.st m step x1 true j (q + step) false kn D5 = Rr from ((congrFun (congrFun (ltail_hit (pg := c.pg) (st := c.st) (m := m) (p := x1) (mp := true) (q := q) (by simp [z2])) kn) D5).symm.trans R5.out))
                obtain ⟨cS, fS, lS⟩ := box_cells B5.out
                obtain ⟨wS, eS⟩ : ∃ wS, w5.setCell ⟨g4, 0, none⟩ (.bool false) = wS := ⟨_, rfl⟩
                have MS : Hid (MidV W0 wS F (fun b => b = g4) p kn n D5 F5) := Lib.hid (by rw [← eS]; exact M5.out.box (fun _ => rfl) (NF.out _ _ _ M5.out) _ B5.out)
                have BS : Hid (BoxB g4 wS false) := Lib.hid (by rw [← eS]; exact boxB_set B5.out false)
                have cc := (box_cells (KL.out _ _ _ MS.out).s).1
                clear R5
                go_wp2_with fail
                go_roundw
                case rel => exact ⟨q + step, j, D5, F5, false, rfl, by omega, by omega, by omega, MS.out, BS.out, NX.out⟩
                case measure => simp [intOf]; omega
              · have d2 : decide (q < x1) = false := by simp; omega
                have R6 := Lib.hid ((congrFun (congrFun (ltail_two (pg := c.pg) (st := c.st) (m := m) (p := x1) (mp := true) (q := q) (a := true) (by simp; omega)) kn) D5).symm.trans R5.out)
                clear R5
                go_wp2_with (first | (refine wpList_load_row rfl 28 _ rfl _ rfl 28 _ _ _ L5.out Try.underlying28 rfl (by kernel_rfl) ?_) | (refine wpList_load_rowG rfl 28 _ rfl _ rfl 28 _ _ _ L5.out Try.underlying28 rfl (by kernel_rfl) ?_))
                refine (e_fits9 HR.out HH.out F5 p kn D5 q m false hqb hmb w5 M5.out.view HK.out M5.out.inv).mono ?_
                intro e w7 he
                rcases M5.out.step (More.refl _) HK.out (good_fits HH.out _ _ _) he with ⟨a', hE, rfl, hd', ht', hk'⟩ | ⟨x7, D7, F7, hE, rfl, M7, hq7, hk', hf'⟩
                · exact ⟨rfl, NEED.out a' w7 _ (R6.out.symm.trans (bindP_need hE)) hd' ht' (hk' _ _ (NF.out _ _ _ M5.out) B5.out)⟩
                have B7 := Lib.hid (show BoxB g4 w7 r from hk' _ _ (NF.out _ _ _ M5.out) B5.out)
                have R7 := Lib.hid ((bindP_ok hE).symm.trans R6.out)
                have M7 := Lib.hid M7
                have L7 := Lib.hid (KL.out _ _ _ M7.out).l
                have c27 := (box_cells (KL.out _ _ _ M7.out).n).1
                have c37 := (box_cells (KL.out _ _ _ M7.out).s).1
                clear he hE hk' hf'
                clear c25 c35
                cases x7 with
                | false =>
                  have NX := Lib.hid (show lloopP c.pg c.st m step x1 true j (q + step) r kn D7 = Rr from R7.out)
                  clear R7
                  go_wp2_with fail
                  go_roundw
                  case rel => exact ⟨q + step, j, D7, F7, r, rfl, by omega, by omega, by omega, M7.out, B7.out, NX.out⟩
                  case measure => simp [intOf]; omega
                | true =>
                  have NX := Lib.hid (show lloopP c.pg c.st m step x1 true j (q + step) r kn D7 = Rr from (by have := R7.out; simp only [d1, Bool.true_and, Bool.false_or, Bool.not_true, Bool.false_and, Bool.false_eq_true, if_false] at this; exact this))
                  clear R7
                  go_wp2_with fail
                  go_roundw
                  case rel => exact ⟨q + step, j, D7, F7, r, rfl, by omega, by omega, by omega, M7.out, B7.out, NX.out⟩
                  case measure => simp [intOf]; omega
          · have d3 : decide (q < c.pg) = false := by simp; omega
            rw [lloop_end (by omega)] at hrest
            have FIN := Lib.hid (DONE.out _ D' F' r hrest.symm M4.out B4.out)
            clear hrest
            go_wp2_with fail
            go_end0
            exact FIN.out
    · have dz : (x1.tmod step == 0) = false := by simp [z]
      have z3 : ¬ x1 % step = 0 := by rwa [Int.tmod_eq_emod_of_nonneg a0] at z
      have R2' : lloopP c.pg c.st m step x1 x2 c.pg.toNat 0 false kn D2 = Rr := by have := R2.out; unfold lfreeP at this; rw [if_neg (by omega), if_neg z] at this; exact this
      clear R2
      cases x2 with
      | false =>
        obtain ⟨cS, fS, lS⟩ := box_cells B2.out
        obtain ⟨wS, eS⟩ : ∃ wS, w2.setCell ⟨g4, 0, none⟩ (.bool false) = wS := ⟨_, rfl⟩
        have MS : Hid (MidV W0 wS F (fun b => b = g4) p kn n D2 F2) := Lib.hid (by rw [← eS]; exact M2.out.box (fun _ => rfl) (NF.out _ _ _ M2.out) _ B2.out)
        have BS : Hid (BoxB g4 wS false) := Lib.hid (by rw [← eS]; exact boxB_set B2.out false)
        have RS := Lib.hid (show lloopP c.pg c.st m step x1 false c.pg.toNat 0 false kn D2 = Rr from R2')
        clear R2'
        go_wp2_with fail
        clear cS fS lS
        go_loopw [8] (fun v8 wr => ∃ (q : Int) (j : Nat) (D' : List KV) (F' : Nat → Prop) (r : Bool), v8 = .int .i64 q ∧ 0 ≤ q ∧ q ≤ 300 ∧ c.pg ≤ q + (j : Int) ∧ MidV W0 wr F (fun b => b = g4) p kn n D' F' ∧ BoxB g4 wr r ∧ lloopP c.pg c.st m step x1 false j q r kn D' = Rr) (fun v8 _ => (c.pg - intOf v8).toNat)
        case atStart => exact ⟨0, c.pg.toNat, D2, F2, false, rfl, by omega, by omega, by omega, MS.out, BS.out, RS.out⟩
        case round =>
          clear MS BS RS eS
          obtain ⟨q, j, D', F', r, rfl, q0, q9, hj, MI, BI, hrest⟩ := hrel
          have MI := Lib.hid MI
          have BI := Lib.hid BI
          have LI := Lib.hid (KL.out _ _ _ MI.out).l
          go_wp2_with (first | (refine wpList_load_row rfl 28 _ rfl _ rfl 28 _ _ _ LI.out Try.underlying28 rfl (by kernel_rfl) ?_) | (refine wpList_load_rowG rfl 28 _ rfl _ rfl 28 _ _ _ LI.out Try.underlying28 rfl (by kernel_rfl) ?_))
          refine (y_config HR.out _).mono ?_
          rintro e w4 ⟨rfl, h4⟩
          have M4 := Lib.hid (MI.out.more h4)
          have B4 : Hid (BoxB g4 w4 r) := Lib.hid (h4.block BI.out)
          have L4 := Lib.hid (KL.out _ _ _ M4.out).l
          have c24 := (box_cells (KL.out _ _ _ M4.out).n).1
          have c34 := (box_cells (KL.out _ _ _ M4.out).s).1
          clear h4
          by_cases hlt : q < c.pg
          · have d3 : decide (q < c.pg) = true := by simp [hlt]
            have q3 : IntKind.i64.wrap (q + step) = q + step := wrap_in (by omega) (by omega)
            have hqb : 0 ≤ q ∧ q ≤ 300 := by omega
            obtain ⟨j, rfl⟩ : ∃ k, j = k + 1 := ⟨j - 1, by omega⟩
            rw [lloop_step hlt] at hrest
            have RI := Lib.hid hrest
            clear hrest
            go_wp2_with (first | (refine wpList_load_row rfl 28 _ rfl _ rfl 28 _ _ _ L4.out Try.underlying28 rfl (by kernel_rfl) ?_) | (refine wpList_load_rowG rfl 28 _ rfl _ rfl 28 _ _ _ L4.out Try.underlying28 rfl (by kernel_rfl) ?_))
            refine (e_fits9 HR.out HH.out F' p kn D' q m true hqb hmb w4 M4.out.view HK.out M4.out.inv).mono ?_
            intro e w5 he
            rcases M4.out.step (More.refl _) HK.out (good_fits HH.out _ _ _) he with ⟨a', hE, rfl, hd', ht', hk'⟩ | ⟨x5, D5, F5, hE, rfl, M5, hq5, hk', hf'⟩
            · exact ⟨rfl, NEED.out a' w5 _ (RI.out.symm.trans (bindP_need hE)) hd' ht' (hk' _ _ (NF.out _ _ _ M4.out) B4.out)⟩
            have B5 := Lib.hid (show BoxB g4 w5 r from hk' _ _ (NF.out _ _ _ M4.out) B4.out)
            have R5 := Lib.hid ((bindP_ok hE).symm.trans RI.out)
            have M5 := Lib.hid M5
            have L5 := Lib.hid (KL.out _ _ _ M5.out).l
            have c25 := (box_cells (KL.out _ _ _ M5.out).n).1
            have c35 := (box_cells (KL.out _ _ _ M5.out).s).1
            clear he hE hk' hf'
            clear c24 c34
            cases x5 with
            | false =>
              have R6 := Lib.hid ((congrFun (congrFun (ltail_two (pg := c.pg) (st := c.st) (m := m) (p := x1) (mp := false) (q := q) (a := false) (by simp)) kn) D5).symm.trans R5.out)
              clear R5
              go_wp2_with (first | (refine wpList_load_row rfl 28 _ rfl _ rfl 28 _ _ _ L5.out Try.underlying28 rfl (by kernel_rfl) ?_) | (refine wpList_load_rowG rfl 28 _ rfl _ rfl 28 _ _ _ L5.out Try.underlying28 rfl (by kernel_rfl) ?_))
              refine (e_fits9 HR.out HH.out F5 p kn D5 q m false hqb hmb w5 M5.out.view HK.out M5.out.inv).mono ?_
              intro e w7 he
              rcases M5.out.step (More.refl _) HK.out (good_fits HH.out _ _ _) he with ⟨a', hE, rfl, hd', ht', hk'⟩ | ⟨x7, D7, F7, hE, rfl, M7, hq7, hk', hf'⟩
              · exact ⟨rfl, NEED.out a' w7 _ (R6.out.symm.trans (bindP_need hE)) hd' ht' (hk' _ _ (NF.out _ _ _ M5.out) B5.out)⟩
              have B7 := Lib.hid (show BoxB g4 w7 r from hk' _ _ (NF.out _ _ _ M5.out) B5.out)
              have R7 := Lib.hid ((bindP_ok hE).symm.trans R6.out)
              have M7 := Lib.hid M7
              have L7 := Lib.hid (KL.out _ _ _ M7.out).l
              have c27 := (box_cells (KL.out _ _ _ M7.out).n).1
              have c37 := (box_cells (KL.out _ _ _ M7.out).s).1
              clear he hE hk' hf'
              clear c25 c35
              cases x7 with
              | false =>
                have NX := Lib.hid (show lloopP c.pg c.st m step x1 false j (q + step) r kn D7 = Rr from R7.out)
                clear R7
                go_wp2_with fail
                go_roundw
                case rel => exact ⟨q + step, j, D7, F7, r, rfl, by omega, by omega, by omega, M7.out, B7.out, NX.out⟩
                case measure => simp [intOf]; omega
              | true =>
                by_cases z2 : q < x1
                · have d2 : decide (q < x1) = true := by simp [z2]
                  have NX := Lib.hid (show lloopP c.pg c.st m step x1 false j (q + step) false kn D7 = Rr from (by have := R7.out; simp only [d1, d2, Bool.true_and, Bool.false_or, Bool.not_false, if_true] at this; exact this))
                  obtain ⟨cS, fS, lS⟩ := box_cells B7.out
                  obtain ⟨wS, eS⟩ : ∃ wS, w7.setCell ⟨g4, 0, none⟩ (.bool false) = wS := ⟨_, rfl⟩
                  have MS : Hid (MidV W0 wS F (fun b => b = g4) p kn n D7 F7) := Lib.hid (by rw [← eS]; exact M7.out.box (fun _ => rfl) (NF.out _ _ _ M7.out) _ B7.out)
                  have BS : Hid (BoxB g4 wS false) := Lib.hid (by rw [← eS]; exact boxB_set B7.out false)
                  have cc := (box_cells (KL.out _ _ _ MS.out).s).1
                  clear R7
                  go_wp2_with fail
                  go_roundw
                  case rel => exact ⟨q + step, j, D7, F7, false, rfl, by omega, by omega, by omega, MS.out, BS.out, NX.out⟩
                  case measure => simp [intOf]; omega
                · have d2 : decide (q < x1) = false := by simp; omega
                  have NX := Lib.hid (show lloopP c.pg c.st m step x1 false j (q + step) r kn D7 = Rr from (by have := R7.out; simp only [d1, d2, Bool.true_and, Bool.false_or, Bool.not_false, Bool.false_eq_true, if_false] at this; exact this))
                  clear R7
                  go_wp2_with fail
                  go_roundw
                  case rel => exact ⟨q + step, j, D7, F7, r, rfl, by omega, by omega, by omega, M7.out, B7.out, NX.out⟩
                  case measure => simp [intOf]; omega
            | true =>
              have NX := Lib.hid (show lloopP c.pg c.st m step x1 false j (q + step) false kn D5 = Rr from ((congrFun (congrFun (ltail_hit (pg := c.pg) (st := c.st) (m := m) (p := x1) (mp := false) (q := q) (by simp)) kn) D5).symm.trans R5.out))
              obtain ⟨cS, fS, lS⟩ := box_cells B5.out
              obtain ⟨wS, eS⟩ : ∃ wS, w5.setCell ⟨g4, 0, none⟩ (.bool false) = wS := ⟨_, rfl⟩
              have MS : Hid (MidV W0 wS F (fun b => b = g4) p kn n D5 F5) := Lib.hid (by rw [← eS]; exact M5.out.box (fun _ => rfl) (NF.out _ _ _ M5.out) _ B5.out)
              have BS : Hid (BoxB g4 wS false) := Lib.hid (by rw [← eS]; exact boxB_set B5.out false)
              have cc := (box_cells (KL.out _ _ _ MS.out).s).1
              clear R5
              go_wp2_with fail
              go_roundw
              case rel => exact ⟨q + step, j, D5, F5, false, rfl, by omega, by omega, by omega, MS.out, BS.out, NX.out⟩
              case measure => simp [intOf]; omega
          · have d3 : decide (q < c.pg) = false := by simp; omega
            rw [lloop_end (by omega)] at hrest
            have FIN := Lib.hid (DONE.out _ D' F' r hrest.symm M4.out B4.out)
            clear hrest
            go_wp2_with fail
            go_end0
            exact FIN.out
      | true =>
        obtain ⟨cS, fS, lS⟩ := box_cells B2.out
        obtain ⟨wS, eS⟩ : ∃ wS, w2.setCell ⟨g4, 0, none⟩ (.bool false) = wS := ⟨_, rfl⟩
        have MS : Hid (MidV W0 wS F (fun b => b = g4) p kn n D2 F2) := Lib.hid (by rw [← eS]; exact M2.out.box (fun _ => rfl) (NF.out _ _ _ M2.out) _ B2.out)
        have BS : Hid (BoxB g4 wS false) := Lib.hid (by rw [← eS]; exact boxB_set B2.out false)
        have RS := Lib.hid (show lloopP c.pg c.st m step x1 true c.pg.toNat 0 false kn D2 = Rr from R2')
        clear R2'
        go_wp2_with fail
        clear cS fS lS
        go_loopw [8] (fun v8 wr => ∃ (q : Int) (j : Nat) (D' : List KV) (F' : Nat → Prop) (r : Bool), v8 = .int .i64 q ∧ 0 ≤ q ∧ q ≤ 300 ∧ c.pg ≤ q + (j : Int) ∧ MidV W0 wr F (fun b => b = g4) p kn n D' F' ∧ BoxB g4 wr r ∧ lloopP c.pg c.st m step x1 true j q r kn D' = Rr) (fun v8 _ => (c.pg - intOf v8).toNat)
        case atStart => exact ⟨0, c.pg.toNat, D2, F2, false, rfl, by omega, by omega, by omega, MS.out, BS.out, RS.out⟩
        case round =>
          clear MS BS RS eS
          obtain ⟨q, j, D', F', r, rfl, q0, q9, hj, MI, BI, hrest⟩ := hrel
          have MI := Lib.hid MI
          have BI := Lib.hid BI
          have LI := Lib.hid (KL.out _ _ _ MI.out).l
          go_wp2_with (first | (refine wpList_load_row rfl 28 _ rfl _ rfl 28 _ _ _ LI.out Try.underlying28 rfl (by kernel_rfl) ?_) | (refine wpList_load_rowG rfl 28 _ rfl _ rfl 28 _ _ _ LI.out Try.underlying28 rfl (by kernel_rfl) ?_))
          refine (y_config HR.out _).mono ?_
          rintro e w4 ⟨rfl, h4⟩
          have M4 := Lib.hid (MI.out.more h4)
          have B4 : Hid (BoxB g4 w4 r) := Lib.hid (h4.block BI.out)
          have L4 := Lib.hid (KL.out _ _ _ M4.out).l
          have c24 := (box_cells (KL.out _ _ _ M4.out).n).1
          have c34 := (box_cells (KL.out _ _ _ M4.out).s).1
          clear h4
          by_cases hlt : q < c.pg
          · have d3 : decide (q < c.pg) = true := by simp [hlt]
            have q3 : IntKind.i64.wrap (q + step) = q + step := wrap_in (by omega) (by omega)
            have hqb : 0 ≤ q ∧ q ≤ 300 := by omega
            obtain ⟨j, rfl⟩ : ∃ k, j = k + 1 := ⟨j - 1, by omega⟩
            rw [lloop_step hlt] at hrest
            have RI := Lib.hid hrest
            clear hrest
            go_wp2_with (first | (refine wpList_load_row rfl 28 _ rfl _ rfl 28 _ _ _ L4.out Try.underlying28 rfl (by kernel_rfl) ?_) | (refine wpList_load_rowG rfl 28 _ rfl _ rfl 28 _ _ _ L4.out Try.underlying28 rfl (by kernel_rfl) ?_))
            refine (e_fits9 HR.out HH.out F' p kn D' q m true hqb hmb w4 M4.out.view HK.out M4.out.inv).mono ?_
            intro e w5 he
            rcases M4.out.step (More.refl _) HK.out (good_fits HH.out _ _ _) he with ⟨a', hE, rfl, hd', ht', hk'⟩ | ⟨x5, D5, F5, hE, rfl, M5, hq5, hk', hf'⟩
            · exact ⟨rfl, NEED.out a' w5 _ (RI.out.symm.trans (bindP_need hE)) hd' ht' (hk' _ _ (NF.out _ _ _ M4.out) B4.out)⟩
            have B5 := Lib.hid (show BoxB g4 w5 r from hk' _ _ (NF.out _ _ _ M4.out) B4.out)
            have R5 := Lib.hid ((bindP_ok hE).symm.trans RI.out)
            have M5 := Lib.hid M5
            have L5 := Lib.hid (KL.out _ _ _ M5.out).l
            have c25 := (box_cells (KL.out _ _ _ M5.out).n).1
            have c35 := (box_cells (KL.out _ _ _ M5.out).s).1
            clear he hE hk' hf'
            clear c24 c34
            cases x5 with
            | false =>
              have R6 := Lib.hid ((congrFun (congrFun (ltail_two (pg := c.pg) (st := c.st) (m := m) (p := x1) (mp := true) (q := q) (a := false) (by simp)) kn) D5).symm.trans R5.out)
              clear R5
              go_wp2_with (first | (refine wpList_load_row rfl 28 _ rfl _ rfl 28 _ _ _ L5.out Try.underlying28 rfl (by kernel_rfl) ?_) | (refine wpList_load_rowG rfl 28 _ rfl _ rfl 28 _ _ _ L5.out Try.underlying28 rfl (by kernel_rfl) ?_))
              refine (e_fits9 HR.out HH.out F5 p kn D5 q m false hqb hmb w5 M5.out.view HK.out M5.out.inv).mono ?_
              intro e w7 he
              rcases M5.out.step (More.refl _) HK.out (good_fits HH.out _ _ _) he with ⟨a', hE, rfl, hd', ht', hk'⟩ | ⟨x7, D7, F7, hE, rfl, M7, hq7, hk', hf'⟩
              · exact ⟨rfl, NEED.out a' w7 _ (R6.out.symm.trans (bindP_need hE)) hd' ht' (hk' _ _ (NF.out _ _ _ M5.out) B5.out)⟩
              have B7 := Lib.hid (show BoxB g4 w7 r from hk' _ _ (NF.out _ _ _ M5.out) B5.out)
              have R7 := Lib.hid ((bindP_ok hE).symm.trans R6.out)
              have M7 := Lib.hid M7
              have L7 := Lib.hid (KL.out _ _ _ M7.out).l
              have c27 := (box_cells (KL.out _ _ _ M7.out).n).1
              have c37 := (box_cells (KL.out _ _ _ M7.out).s).1
              clear he hE hk' hf'
              clear c25 c35
              cases x7 with
              | false =>
                have NX := Lib.hid (show lloopP c.pg c.st m step x1 true j (q + step) r kn D7 = Rr from R7.out)
                clear R7
                go_wp2_with fail
                go_roundw
                case rel => exact ⟨q + step, j, D7, F7, r, rfl, by omega, by omega, by omega, M7.out, B7.out, NX.out⟩
                case measure => simp [intOf]; omega
              | true =>
                have NX := Lib.hid (show lloopP c.pg c.st m step x1 true j (q + step) r kn D7 = Rr from (by have := R7.out; simp only [d1, Bool.true_and, Bool.false_or, Bool.not_true, Bool.false_and, Bool.false_eq_true, if_false] at this; exact this))
                clear R7
                go_wp2_with fail
                go_roundw
                case rel => exact ⟨q + step, j, D7, F7, r, rfl, by omega, by omega, by omega, M7.out, B7.out, NX.out⟩
                case measure => simp [intOf]; omega
            | true =>
              by_cases z2 : q < x1
              · have d2 : decide (q < x1) = true := by simp [z2]
                have NX := Lib.hid (show lloopP c.pg c.st m step x1 true j (q + step) false kn D5 = Rr from ((congrFun (congrFun (ltail_hit (pg := c.pg) (st := c.st) (m := m) (p := x1) (mp := true) (q := q) (by simp [z2])) kn) D5).symm.trans R5.out))
                obtain ⟨cS, fS, lS⟩ := box_cells B5.out
                obtain ⟨wS, eS⟩ : ∃ wS, w5.setCell ⟨g4, 0, none⟩ (.bool false) = wS := ⟨_, rfl⟩
                have MS : Hid (MidV W0 wS F (fun b => b = g4) p kn n D5 F5) := Lib.hid (by rw [← eS]; exact M5.out.box (fun _ => rfl) (NF.out _ _ _ M5.out) _ B5.out)
                have BS : Hid (BoxB g4 wS false) := Lib.hid (by rw [← eS]; exact boxB_set B5.out false)
                have cc := (box_cells (KL.out _ _ _ MS.out).s).1
                clear R5
                go_wp2_with fail
                go_roundw
                case rel => exact ⟨q + step, j, D5, F5, false, rfl, by omega, by omega, by omega, MS.out, BS.out, NX.out⟩
                case measure => simp [intOf]; omega
              · have d2 : decide (q < x1) = false := by simp; omega
                have R6 := Lib.hid ((congrFun (congrFun (ltail_two (pg := c.pg) (st := c.st) (m := m) (p := x1) (mp := true) (q := q) (a := true) (by simp; omega)) kn) D5).symm.trans R5.out)
                clear R5
                go_wp2_with (first | (refine wpList_load_row rfl 28 _ rfl _ rfl 28 _ _ _ L5.out Try.underlying28 rfl (by kernel_rfl) ?_) | (refine wpList_load_rowG rfl 28 _ rfl _ rfl 28 _ _ _ L5.out Try.underlying28 rfl (by kernel_rfl) ?_))
                refine (e_fits9 HR.out HH.out F5 p kn D5 q m false hqb hmb w5 M5.out.view HK.out M5.out.inv).mono ?_
                intro e w7 he
                rcases M5.out.step (More.refl _) HK.out (good_fits HH.out _ _ _) he with ⟨a', hE, rfl, hd', ht', hk'⟩ | ⟨x7, D7, F7, hE, rfl, M7, hq7, hk', hf'⟩
                · exact ⟨rfl, NEED.out a' w7 _ (R6.out.symm.trans (bindP_need hE)) hd' ht' (hk' _ _ (NF.out _ _ _ M5.out) B5.out)⟩
                have B7 := Lib.hid (show BoxB g4 w7 r from hk' _ _ (NF.out _ _ _ M5.out) B5.out)
                have R7 := Lib.hid ((bindP_ok hE).symm.trans R6.out)
                have M7 := Lib.hid M7
                have L7 := Lib.hid (KL.out _ _ _ M7.out).l
                have c27 := (box_cells (KL.out _ _ _ M7.out).n).1
                have c37 := (box_cells (KL.out _ _ _ M7.out).s).1
                clear he hE hk' hf'
                clear c25 c35
                cases x7 with
                | false =>
                  have NX := Lib.hid (show lloopP c.pg c.st m step x1 true j (q + step) r kn D7 = Rr from R7.out)
                  clear R7
                  go_wp2_with fail
                  go_roundw
                  case rel => exact ⟨q + step, j, D7, F7, r, rfl, by omega, by omega, by omega, M7.out, B7.out, NX.out⟩
                  case measure => simp [intOf]; omega
                | true =>
                  have NX := Lib.hid (show lloopP c.pg c.st m step x1 true j (q + step) r kn D7 = Rr from (by have := R7.out; simp only [d1, Bool.true_and, Bool.false_or, Bool.not_true, Bool.false_and, Bool.false_eq_true, if_false] at this; exact this))
                  clear R7
                  go_wp2_with fail
                  go_roundw
                  case rel => exact ⟨q + step, j, D7, F7, r, rfl, by omega, by omega, by omega, M7.out, B7.out, NX.out⟩
                  case measure => simp [intOf]; omega
          · have d3 : decide (q < c.pg) = false := by simp; omega
            rw [lloop_end (by omega)] at hrest
            have FIN := Lib.hid (DONE.out _ D' F' r hrest.symm M4.out B4.out)
            clear hrest
            go_wp2_with fail
            go_end0
            exact FIN.out
  · have d0 : decide (0 ≤ x1) = false := by simp; omega
    have d1 : decide (x1 < 0) = true := by simp; omega
    have R1' : lloopP c.pg c.st m step x1 false c.pg.toNat 0 true kn D1 = Rr := by have := R1.out; unfold lmapP lfreeP at this; rw [if_neg a0, if_pos (by omega)] at this; exact this
    clear R1
    obtain ⟨cS, fS, lS⟩ := box_cells B1.out
    obtain ⟨wS, eS⟩ : ∃ wS, w1.setCell ⟨g4, 0, none⟩ (.bool true) = wS := ⟨_, rfl⟩
    have MS : Hid (MidV W0 wS F (fun b => b = g4) p kn n D1 F1) := Lib.hid (by rw [← eS]; exact M1.out.box (fun _ => rfl) (NF.out _ _ _ M1.out) _ B1.out)
    have BS : Hid (BoxB g4 wS true) := Lib.hid (by rw [← eS]; exact boxB_set B1.out true)
    have RS := Lib.hid (show lloopP c.pg c.st m step x1 false c.pg.toNat 0 true kn D1 = Rr from R1')
    clear R1'
    go_wp2_with fail
    clear cS fS lS
    go_loopw [8] (fun v8 wr => ∃ (q : Int) (j : Nat) (D' : List KV) (F' : Nat → Prop) (r : Bool), v8 = .int .i64 q ∧ 0 ≤ q ∧ q ≤ 300 ∧ c.pg ≤ q + (j : Int) ∧ MidV W0 wr F (fun b => b = g4) p kn n D' F' ∧ BoxB g4 wr r ∧ lloopP c.pg c.st m step x1 false j q r kn D' = Rr) (fun v8 _ => (c.pg - intOf v8).toNat)
    case atStart => exact ⟨0, c.pg.toNat, D1, F1, true, rfl, by omega, by omega, by omega, MS.out, BS.out, RS.out⟩
    case round =>
      clear MS BS RS eS
      obtain ⟨q, j, D', F', r, rfl, q0, q9, hj, MI, BI, hrest⟩ := hrel
      have MI := Lib.hid MI
      have BI := Lib.hid BI
      have LI := Lib.hid (KL.out _ _ _ MI.out).l
      go_wp2_with (first | (refine wpList_load_row rfl 28 _ rfl _ rfl 28 _ _ _ LI.out Try.underlying28 rfl (by kernel_rfl) ?_) | (refine wpList_load_rowG rfl 28 _ rfl _ rfl 28 _ _ _ LI.out Try.underlying28 rfl (by kernel_rfl) ?_))
      refine (y_config HR.out _).mono ?_
      rintro e w4 ⟨rfl, h4⟩
      have M4 := Lib.hid (MI.out.more h4)
      have B4 : Hid (BoxB g4 w4 r) := Lib.hid (h4.block BI.out)
      have L4 := Lib.hid (KL.out _ _ _ M4.out).l
      have c24 := (box_cells (KL.out _ _ _ M4.out).n).1
      have c34 := (box_cells (KL.out _ _ _ M4.out).s).1
      clear h4
      by_cases hlt : q < c.pg
      · have d3 : decide (q < c.pg) = true := by simp [hlt]
        have q3 : IntKind.i64.wrap (q + step) = q + step := wrap_in (by omega) (by omega)
        have hqb : 0 ≤ q ∧ q ≤ 300 := by omega
        obtain ⟨j, rfl⟩ : ∃ k, j = k + 1 := ⟨j - 1, by omega⟩
        rw [lloop_step hlt] at hrest
        have RI := Lib.hid hrest
        clear hrest
        go_wp2_with (first | (refine wpList_load_row rfl 28 _ rfl _ rfl 28 _ _ _ L4.out Try.underlying28 rfl (by kernel_rfl) ?_) | (refine wpList_load_rowG rfl 28 _ rfl _ rfl 28 _ _ _ L4.out Try.underlying28 rfl (by kernel_rfl) ?_))
        refine (e_fits9 HR.out HH.out F' p kn D' q m true hqb hmb w4 M4.out.view HK.out M4.out.inv).mono ?_
        intro e w5 he
        rcases M4.out.step (More.refl _) HK.out (good_fits HH.out _ _ _) he with ⟨a', hE, rfl, hd', ht', hk'⟩ | ⟨x5, D5, F5, hE, rfl, M5, hq5, hk', hf'⟩
        · exact ⟨rfl, NEED.out a' w5 _ (RI.out.symm.trans (bindP_need hE)) hd' ht' (hk' _ _ (NF.out _ _ _ M4.out) B4.out)⟩
        have B5 := Lib.hid (show BoxB g4 w5 r from hk' _ _ (NF.out _ _ _ M4.out) B4.out)
        have R5 := Lib.hid ((bindP_ok hE).symm.trans RI.out)
        have M5 := Lib.hid M5
        have L5 := Lib.hid (KL.out _ _ _ M5.out).l
        have c25 := (box_cells (KL.out _ _ _ M5.out).n).1
        have c35 := (box_cells (KL.out _ _ _ M5.out).s).1
        clear he hE hk' hf'
        clear c24 c34
        cases x5 with
        | false =>
          have R6 := Lib.hid ((congrFun (congrFun (ltail_two (pg := c.pg) (st := c.st) (m := m) (p := x1) (mp := false) (q := q) (a := false) (by simp)) kn) D5).symm.trans R5.out)
          clear R5
          go_wp2_with (first | (refine wpList_load_row rfl 28 _ rfl _ rfl 28 _ _ _ L5.out Try.underlying28 rfl (by kernel_rfl) ?_) | (refine wpList_load_rowG rfl 28 _ rfl _ rfl 28 _ _ _ L5.out Try.underlying28 rfl (by kernel_rfl) ?_))
          refine (e_fits9 HR.out HH.out F5 p kn D5 q m false hqb hmb w5 M5.out.view HK.out M5.out.inv).mono ?_
          intro e w7 he
          rcases M5.out.step (More.refl _) HK.out (good_fits HH.out _ _ _) he with ⟨a', hE, rfl, hd', ht', hk'⟩ | ⟨x7, D7, F7, hE, rfl, M7, hq7, hk', hf'⟩
          · exact ⟨rfl, NEED.out a' w7 _ (R6.out.symm.trans (bindP_need hE)) hd' ht' (hk' _ _ (NF.out _ _ _ M5.out) B5.out)⟩
          have B7 := Lib.hid (show BoxB g4 w7 r from hk' _ _ (NF.out _ _ _ M5.out) B5.out)
          have R7 := Lib.hid ((bindP_ok hE).symm.trans R6.out)
          have M7 := Lib.hid M7
          have L7 := Lib.hid (KL.out _ _ _ M7.out).l
          have c27 := (box_cells (KL.out _ _ _ M7.out).n).1
          have c37 := (box_cells (KL.out _ _ _ M7.out).s).1
          clear he hE hk' hf'
          clear c25 c35
          cases x7 with
          | false =>
            have NX := Lib.hid (show lloopP c.pg c.st m step x1 false j (q + step) r kn D7 = Rr from R7.out)
            clear R7
            go_wp2_with fail
            go_roundw
            case rel => exact ⟨q + step, j, D7, F7, r, rfl, by omega, by omega, by omega, M7.out, B7.out, NX.out⟩
            case measure => simp [intOf]; omega
          | true =>
            have NX := Lib.hid (show lloopP c.pg c.st m step x1 false j (q + step) false kn D7 = Rr from (by have := R7.out; simp only [Bool.true_and, d1, Bool.true_or, if_true] at this; exact this))
            obtain ⟨cS, fS, lS⟩ := box_cells B7.out
            obtain ⟨wS, eS⟩ : ∃ wS, w7.setCell ⟨g4, 0, none⟩ (.bool false) = wS := ⟨_, rfl⟩
            have MS : Hid (MidV W0 wS F (fun b => b = g4) p kn n D7 F7) := Lib.hid (by rw [← eS]; exact M7.out.box (fun _ => rfl) (NF.out _ _ _ M7.out) _ B7.out)
            have BS : Hid (BoxB g4 wS false) := Lib.hid (by rw [← eS]; exact boxB_set B7.out false)
            have cc := (box_cells (KL.out _ _ _ MS.out).s).1
            clear R7
            go_wp2_with fail
            go_roundw
            case rel => exact ⟨q + step, j, D7, F7, false, rfl, by omega, by omega, by omega, MS.out, BS.out, NX.out⟩
            case measure => simp [intOf]; omega
        | true =>
          have NX := Lib.hid (show lloopP c.pg c.st m step x1 false j (q + step) false kn D5 = Rr from ((congrFun (congrFun (ltail_hit (pg := c.pg) (st := c.st) (m := m) (p := x1) (mp := false) (q := q) (by simp)) kn) D5).symm.trans R5.out))
          obtain ⟨cS, fS, lS⟩ := box_cells B5.out
          obtain ⟨wS, eS⟩ : ∃ wS, w5.setCell ⟨g4, 0, none⟩ (.bool false) = wS := ⟨_, rfl⟩
          have MS : Hid (MidV W0 wS F (fun b => b = g4) p kn n D5 F5) := Lib.hid (by rw [← eS]; exact M5.out.box (fun _ => rfl) (NF.out _ _ _ M5.out) _ B5.out)
          have BS : Hid (BoxB g4 wS false) := Lib.hid (by rw [← eS]; exact boxB_set B5.out false)
          have cc := (box_cells (KL.out _ _ _ MS.out).s).1
          clear R5
          go_wp2_with fail
          go_roundw
          case rel => exact ⟨q + step, j, D5, F5, false, rfl, by omega, by omega, by omega, MS.out, BS.out, NX.out⟩
          case measure => simp [intOf]; omega
      · have d3 : decide (q < c.pg) = false := by simp; omega
        rw [lloop_end (by omega)] at hrest
        have FIN := Lib.hid (DONE.out _ D' F' r hrest.symm M4.out B4.out)
        clear hrest
        go_wp2_with fail
        go_end0
        exact FIN.out
end Go.Proofs.Ytcjnkadmiflgaaa
