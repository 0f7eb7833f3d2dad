/-
  ExtentBack's program, walked.
-/
import Derived.Test.YtcjnkadmiflgaaaExtBackD
import Derived.Test.YtcjnkadmiflgaaaRegA
namespace Go.Proofs.Ytcjnkadmiflgaaa
open Go.RowKit Go.Sort Go.Maps Go.Shelf
set_option linter.unusedVariables false
set_option linter.unusedSimpArgs false
set_option linter.unusedSectionVars false

structure BkC (c : Cfg) (g1 g2 g3 g4 : Nat) (q m k : Int) (W : World) : Prop where
  l : W.heap[g1]? = some (.cells c.arr 28 (0, 0))
  q : W.heap[g2]? = some (.cells #[.int .i64 q] 3 (0, 0))
  m : W.heap[g3]? = some (.cells #[.int .i64 m] 3 (0, 0))
  k : W.heap[g4]? = some (.cells #[.int .i64 k] 3 (0, 0))
structure BkY (c : Cfg) (g1 g2 g3 g4 g5 : Nat) (q m k : Int) (w : World) : Prop where
  b : BkC c g1 g2 g3 g4 q m k w
  r : ∃ b, BoxB g5 w b
theorem BkC.keep {c : Cfg} {g1 g2 g3 g4 : Nat} {q m k : Int} {S : Nat → Prop} {w w' : World} (h : BkC c g1 g2 g3 g4 q m k w) (t : Turned S w w') (n1 : ¬ S g1) (n2 : ¬ S g2) (n3 : ¬ S g3) (n4 : ¬ S g4) : BkC c g1 g2 g3 g4 q m k w' :=
  ⟨(t.block g1 (lt_of_heap h.l) n1).trans h.l, (t.block g2 (lt_of_heap h.q) n2).trans h.q, (t.block g3 (lt_of_heap h.m) n3).trans h.m, (t.block g4 (lt_of_heap h.k) n4).trans h.k⟩

set_option maxRecDepth 100000 in
set_option maxHeartbeats 8000000 in
theorem back_clo {c : Cfg} (R : c.Ok) {n : Nat} (H : PgIn c.pg c.st n) (hn : n ≤ 10000) (F : Nat → Prop) (p g1 g2 g3 g4 g5 : Nat) (kn : Int → Option Int) (q m k : Int) (hqw : W64 q) (hmw : W64 m) (hkw : W64 k) (W0 : World) (hv : ViewAt W0 F p kn []) (hk : OkK kn) (hY : BkY c g1 g2 g3 g4 g5 q m k W0) (n1 : ¬ F g1) (n2 : ¬ F g2) (n3 : ¬ F g3) (n4 : ¬ F g4) (n5 : ¬ F g5) (hne : g1 ≠ g5 ∧ g2 ≠ g5 ∧ g3 ≠ g5 ∧ g4 ≠ g5) (ht : ∀ z D, blawP c.pg c.st q m k kn [] = .ok z D → z = true) :
    Calls Try.prog 14 #[.pointer (some ⟨p, 0, none⟩), .pointer (some ⟨g1, 0, none⟩), .pointer (some ⟨g2, 0, none⟩), .pointer (some ⟨g3, 0, none⟩), .pointer (some ⟨g4, 0, none⟩), .pointer (some ⟨g5, 0, none⟩)] W0 (WentY W0 F (fun b => b = g5) (fun w' => BkY c g1 g2 g3 g4 g5 q m k w') (fun w' => BoxB g5 w' true) p kn (ranOf (blawP c.pg c.st q m k kn []))) := by
  obtain ⟨Rr, hR⟩ : ∃ Rr, blawP c.pg c.st q m k kn [] = Rr := ⟨_, rfl⟩
  rw [hR] at ht ⊢
  obtain ⟨b0, hb0⟩ := hY.r
  have l5 := lt_of_heap hb0
  have HK := Lib.hid hk
  have HR := Lib.hid R
  have HH := Lib.hid H
  have pg1 := HR.out.pg1
  have pg2 := HR.out.pg2
  have M0 : Hid (MidV W0 W0 F (fun b => b = g5) p kn n [] F) := Lib.hid (MidV.begin hv (invD_nil n))
  have B0 := Lib.hid hb0
  have KT : Hid (∀ wr, Turned (fun b => F b ∨ b = g5) W0 wr → BkC c g1 g2 g3 g4 q m k wr) := Lib.hid fun wr t => hY.b.keep t (by rintro (z | z); exact n1 z; exact hne.1 z) (by rintro (z | z); exact n2 z; exact hne.2.1 z) (by rintro (z | z); exact n3 z; exact hne.2.2.1 z) (by rintro (z | z); exact n4 z; exact hne.2.2.2 z)
  have KL : Hid (∀ wr D' F', MidV W0 wr F (fun b => b = g5) p kn n D' F' → BkC c g1 g2 g3 g4 q m k wr) := Lib.hid fun wr D' F' h => KT.out _ h.turn
  have NF : Hid (∀ wr D' F', MidV W0 wr F (fun b => b = g5) p kn n D' F' → ¬ F' g5) := Lib.hid fun wr D' F' h => h.off l5 n5
  have NEED : Hid (∀ a w2 (b : Bool), Rr = .need a → DeadAt w2 p a → Turned (fun b => F b ∨ b = g5) W0 w2 → BoxB g5 w2 b → WentY W0 F (fun b => b = g5) (fun w' => BkY c g1 g2 g3 g4 g5 q m k w') (fun w' => BoxB g5 w' true) p kn (ranOf Rr) (.panicked (endOf p)) w2) := Lib.hid fun a w2 b e hd ht' hb => wy_need (ranOf_need e) hd ht' ⟨KT.out _ ht', ⟨b, hb⟩⟩
  have DONE : Hid (∀ w2 D F' (b : Bool), Rr = .ok b D → MidV W0 w2 F (fun b => b = g5) p kn n D F' → BoxB g5 w2 b → WentY W0 F (fun b => b = g5) (fun w' => BkY c g1 g2 g3 g4 g5 q m k w') (fun w' => BoxB g5 w' true) p kn (ranOf Rr) (.returned (.tuple #[])) w2) := Lib.hid fun w2 D F' b e h hb => wy_done h (ranOf_ok e) ⟨KL.out _ _ _ h, ⟨b, hb⟩⟩ (by rw [ht b D e] at hb; exact hb)
  have HRr := Lib.hid hR
  have L0 := Lib.hid (KL.out _ _ _ M0.out).l
  have c20 := (box_cells (KL.out _ _ _ M0.out).q).1
  have c30 := (box_cells (KL.out _ _ _ M0.out).m).1
  have c40 := (box_cells (KL.out _ _ _ M0.out).k).1
  clear hv hk R H hY hb0 n1 n2 n3 n4 n5 hne ht hR KT
  go_enter Try.func14, Try.ntmps14
  go_wp2_with (first | (refine wpList_load_row rfl 28 _ rfl _ rfl 28 _ _ _ L0.out Try.underlying28 rfl (by kernel_rfl) ?_) | (refine wpList_load_rowG rfl 28 _ rfl _ rfl 28 _ _ _ L0.out Try.underlying28 rfl (by kernel_rfl) ?_))
  refine (e_Used HR.out HH.out F p kn [] W0 M0.out.view HK.out M0.out.inv).mono ?_
  intro e w1 he
  rcases M0.out.step (More.refl _) HK.out (good_used HH.out) he with ⟨a', hE, rfl, hd', ht', hk'⟩ | ⟨x1, D1, F1, hE, rfl, M1, hq1, hk', hf'⟩
  · exact ⟨rfl, NEED.out a' w1 _ (HRr.out.symm.trans (bindP_need hE)) hd' ht' (hk' _ _ (NF.out _ _ _ M0.out) B0.out)⟩
  have B1 := Lib.hid (show BoxB g5 w1 b0 from hk' _ _ (NF.out _ _ _ M0.out) B0.out)
  have R1 := Lib.hid ((bindP_ok hE).symm.trans HRr.out)
  have M1 := Lib.hid M1
  have L1 := Lib.hid (KL.out _ _ _ M1.out).l
  have c21 := (box_cells (KL.out _ _ _ M1.out).q).1
  have c31 := (box_cells (KL.out _ _ _ M1.out).m).1
  have c41 := (box_cells (KL.out _ _ _ M1.out).k).1
  clear he hE hk' hf' c20 c30 c40
  go_wp2_with (first | (refine wpList_load_row rfl 28 _ rfl _ rfl 28 _ _ _ L1.out Try.underlying28 rfl (by kernel_rfl) ?_) | (refine wpList_load_rowG rfl 28 _ rfl _ rfl 28 _ _ _ L1.out Try.underlying28 rfl (by kernel_rfl) ?_))
  refine (e_Take HR.out HH.out hn F1 p kn D1 q m k hqw hmw hkw w1 M1.out.view HK.out M1.out.inv).mono ?_
  intro e w2 he
  rcases M1.out.step (More.refl _) HK.out (good_take HH.out q m k hkw hmw) he with ⟨a', hE, rfl, hd', ht', hk'⟩ | ⟨x2, D2, F2, hE, rfl, M2, hq2, hk', hf'⟩
  · exact ⟨rfl, NEED.out a' w2 _ (R1.out.symm.trans (bindP_need hE)) hd' ht' (hk' _ _ (NF.out _ _ _ M1.out) B1.out)⟩
  have B2 := Lib.hid (show BoxB g5 w2 b0 from hk' _ _ (NF.out _ _ _ M1.out) B1.out)
  have R2 := Lib.hid ((bindP_ok hE).symm.trans R1.out)
  have M2 := Lib.hid M2
  have L2 := Lib.hid (KL.out _ _ _ M2.out).l
  have c22 := (box_cells (KL.out _ _ _ M2.out).q).1
  have c32 := (box_cells (KL.out _ _ _ M2.out).m).1
  have c42 := (box_cells (KL.out _ _ _ M2.out).k).1
  cases x2 with
  | false =>
    have R2' := Lib.hid (show bindP (eusedP c.pg c.st) (fun u => pureP (decide (u = x1))) kn D2 = Rr from R2.out)
    clear he hE hk' hf' c21 c31 c41 R2
    go_wp2_with (first | (refine wpList_load_row rfl 28 _ rfl _ rfl 28 _ _ _ L2.out Try.underlying28 rfl (by kernel_rfl) ?_) | (refine wpList_load_rowG rfl 28 _ rfl _ rfl 28 _ _ _ L2.out Try.underlying28 rfl (by kernel_rfl) ?_))
    refine (e_Used HR.out HH.out F2 p kn D2 w2 M2.out.view HK.out M2.out.inv).mono ?_
    intro e w3 he
    rcases M2.out.step (More.refl _) HK.out (good_used HH.out) he with ⟨a', hE, rfl, hd', ht', hk'⟩ | ⟨x3, D3, F3, hE, rfl, M3, hq3, hk', hf'⟩
    · exact ⟨rfl, NEED.out a' w3 _ (R2'.out.symm.trans (bindP_need hE)) hd' ht' (hk' _ _ (NF.out _ _ _ M2.out) B2.out)⟩
    have B3 := Lib.hid (show BoxB g5 w3 b0 from hk' _ _ (NF.out _ _ _ M2.out) B2.out)
    have R3 := Lib.hid ((bindP_ok hE).symm.trans R2'.out)
    have M3 := Lib.hid M3
    have L3 := Lib.hid (KL.out _ _ _ M3.out).l
    have c23 := (box_cells (KL.out _ _ _ M3.out).q).1
    have c33 := (box_cells (KL.out _ _ _ M3.out).m).1
    have c43 := (box_cells (KL.out _ _ _ M3.out).k).1
    clear he hE hk' hf' c22 c32 c42
    have e3 : (x3 == x1) = decide (x3 = x1) := by by_cases z : x3 = x1 <;> simp [z]
    obtain ⟨cS, fS, lS⟩ := box_cells B3.out
    obtain ⟨wS, eS⟩ : ∃ wS, w3.setCell ⟨g5, 0, none⟩ (.bool (decide (x3 = x1))) = wS := ⟨_, rfl⟩
    have MS : Hid (MidV W0 wS F (fun b => b = g5) p kn n D3 F3) := Lib.hid (by rw [← eS]; exact M3.out.box (fun _ => rfl) (NF.out _ _ _ M3.out) _ B3.out)
    have BS : Hid (BoxB g5 wS (decide (x3 = x1))) := Lib.hid (by rw [← eS]; exact boxB_set B3.out _)
    have FIN := Lib.hid (DONE.out _ D3 F3 _ R3.out.symm MS.out BS.out)
    clear MS BS R3
    go_wp2_with fail
    go_end0
    exact FIN.out
  | true =>
    obtain ⟨hfit, hthere⟩ := take_there hE
    obtain ⟨t0, t1, t2⟩ := there_iff.1 hthere
    have R2' := Lib.hid (show bindP (eusedP c.pg c.st) (fun u => bindP (if u = x1 + m then bindP (ekindP c.pg c.st q) (fun x => if x = k then coversP c.pg c.st q m else pureP false) else pureP false) (fun r => bindP (bloopP c.pg c.st q m.toNat q r) (fun r => bendP c.pg c.st q m x1 r))) kn D2 = Rr from by
      have h := R2.out
      simp only [if_true] at h
      unfold brestP bmidP at h
      rw [bindP_assoc] at h
      exact h)
    have qs : IntKind.i64.wrap (x1 + m) = x1 + m := wrap_in (by omega) (by omega)
    have qr : IntKind.i64.wrap (q + m) = q + m := wrap_in (by omega) (by omega)
    clear he hE hk' hf' c21 c31 c41 R2 hfit hthere
    have R2 := R2'
    clear R2'
    go_wp2_with (first | (refine wpList_load_row rfl 28 _ rfl _ rfl 28 _ _ _ L2.out Try.underlying28 rfl (by kernel_rfl) ?_) | (refine wpList_load_rowG rfl 28 _ rfl _ rfl 28 _ _ _ L2.out Try.underlying28 rfl (by kernel_rfl) ?_))
    refine wp_region_anyC (BkC c g1 g2 g3 g4 q m k) (by kernel_rfl) ?_
    have MR := Lib.hid (M2.out.more ((More.refl w2).drewN 1))
    have BR : Hid (BoxB g5 (w2.drewN 1) b0) := Lib.hid (((More.refl w2).drewN 1).block B2.out)
    change anyC _ _ _ _ _ _ _ _ (w2.drewN 1)
    generalize w2.drewN 1 = wr at MR BR ⊢
    generalize hA : Act.mk _ _ = A
    have HF : AG 79 A [(0, .pointer (some ⟨p, 0, none⟩)), (1, .pointer (some ⟨g1, 0, none⟩)), (2, .pointer (some ⟨g2, 0, none⟩)), (3, .pointer (some ⟨g3, 0, none⟩)), (4, .pointer (some ⟨g4, 0, none⟩)), (5, .pointer (some ⟨g5, 0, none⟩)), (7, .int .i64 x1)] := by
      rw [← hA]
      refine ⟨⟨Nat.le_of_ble_eq_true rfl, rfl⟩, ?_⟩
      intro z hz; simp only [List.mem_cons, List.not_mem_nil, or_false] at hz; rcases hz with rfl | rfl | rfl | rfl | rfl | rfl | rfl <;> rfl
    refine anyC_start (fun a W => ∃ (u24 u25 u27 u28 u29 u26 u30 u31 u32 u33 u34 u36 u35 u37 u38 u39 u40 u41 u42 u43 u44 u45 : Value) (r : Bool) (D9 : List KV) (F9 : Nat → Prop), a = (Act.put (Act.put (Act.put (Act.put (Act.put (Act.put (Act.put (Act.put (Act.put (Act.put (Act.put (Act.put (Act.put (Act.put (Act.put (Act.put (Act.put (Act.put (Act.put (Act.put (Act.put (Act.put (Act.put A (some 24) u24) (some 25) u25) (some 27) u27) (some 28) u28) (some 29) u29) (some 26) u26) (some 30) u30) (some 31) u31) (some 32) u32) (some 33) u33) (some 34) u34) (some 36) u36) (some 35) u35) (some 37) u37) (some 38) u38) (some 39) u39) (some 40) u40) (some 41) u41) (some 42) u42) (some 43) u43) (some 44) u44) (some 45) u45) none undef) ∧ MidV W0 W F (fun b => b = g5) p kn n D9 F9 ∧ BoxB g5 W r ∧ bindP (bloopP c.pg c.st q m.toNat q r) (fun r => bendP c.pg c.st q m x1 r) kn D9 = Rr) (fun W => WentY W0 F (fun b => b = g5) (fun w' => BkY c g1 g2 g3 g4 g5 q m k w') (fun w' => BoxB g5 w' true) p kn (ranOf Rr) (.panicked (endOf p)) W) (endOf p) (fun a W hd h => ⟨hd, h⟩) (fun _ _ _ _ _ h => h) ?_ ?_
    · skip
      rintro a wa ⟨u24, u25, u27, u28, u29, u26, u30, u31, u32, u33, u34, u36, u35, u37, u38, u39, u40, u41, u42, u43, u44, u45, r0, D', F', rfl, MS, BS, RS⟩
      rw [← hA]
      have MS := Lib.hid MS
      have BS := Lib.hid BS
      have RS := Lib.hid RS
      clear HF hA MR BR R2 M2 B2 L2 c22 c32 c42
      have L5 := Lib.hid (KL.out _ _ _ MS.out).l
      have c25 := (box_cells (KL.out _ _ _ MS.out).q).1
      have c35 := (box_cells (KL.out _ _ _ MS.out).m).1
      have c45 := (box_cells (KL.out _ _ _ MS.out).k).1
      go_wp2_with fail
      go_loopw [8] (fun v8 wr => ∃ (i : Int) (j : Nat) (D' : List KV) (F' : Nat → Prop) (r : Bool), v8 = .int .i64 i ∧ q ≤ i ∧ i + (j : Int) = q + m ∧ MidV W0 wr F (fun b => b = g5) p kn n D' F' ∧ BoxB g5 wr r ∧ bindP (bloopP c.pg c.st q j i r) (fun r => bendP c.pg c.st q m x1 r) kn D' = Rr) (fun v8 _ => (q + m - intOf v8).toNat)
      case atStart => exact ⟨q, m.toNat, D', F', r0, rfl, by omega, by omega, MS.out, BS.out, RS.out⟩
      case round =>
        clear MS BS RS L5 c25 c35 c45
        obtain ⟨i, j, D', F', r0, rfl, i0, hij, MI, BI, hrest⟩ := hrel
        have MI := Lib.hid MI
        have BI := Lib.hid BI
        have L6 := Lib.hid (KL.out _ _ _ MI.out).l
        have c26 := (box_cells (KL.out _ _ _ MI.out).q).1
        have c36 := (box_cells (KL.out _ _ _ MI.out).m).1
        have c46 := (box_cells (KL.out _ _ _ MI.out).k).1
        have qi : IntKind.i64.wrap (i + 1) = i + 1 := wrap_in (by omega) (by omega)
        by_cases hlt : i < q + m
        · have d3 : decide (i < q + m) = true := by simp; omega
          obtain ⟨j, rfl⟩ : ∃ t, j = t + 1 := ⟨j - 1, by omega⟩
          have RI := Lib.hid (show bindP (boneP c.pg c.st q i r0) (fun r => bindP (bloopP c.pg c.st q j (i + 1) r) (fun r => bendP c.pg c.st q m x1 r)) kn D' = Rr from by
            have h := hrest
            unfold bloopP at h
            rw [bindP_assoc] at h
            exact h)
          have hiw : W64 i := by unfold W64; omega
          clear hrest
          go_wp2_with (first | (refine wpList_load_row rfl 28 _ rfl _ rfl 28 _ _ _ L6.out Try.underlying28 rfl (by kernel_rfl) ?_) | (refine wpList_load_rowG rfl 28 _ rfl _ rfl 28 _ _ _ L6.out Try.underlying28 rfl (by kernel_rfl) ?_))
          clear L6 c26 c36 c46
          refine wp_region_anyC (BkC c g1 g2 g3 g4 q m k) (by kernel_rfl) ?_
          have MR := Lib.hid (MI.out.more ((More.refl wr).drewN 1))
          have BR : Hid (BoxB g5 (wr.drewN 1) r0) := Lib.hid (((More.refl wr).drewN 1).block BI.out)
          change anyC _ _ _ _ _ _ _ _ (wr.drewN 1)
          generalize wr.drewN 1 = wq at MR BR ⊢
          generalize hA : Act.mk _ _ = A
          have HF : AG 79 A [(0, .pointer (some ⟨p, 0, none⟩)), (1, .pointer (some ⟨g1, 0, none⟩)), (2, .pointer (some ⟨g2, 0, none⟩)), (3, .pointer (some ⟨g3, 0, none⟩)), (4, .pointer (some ⟨g4, 0, none⟩)), (5, .pointer (some ⟨g5, 0, none⟩)), (7, .int .i64 x1), (8, .int .i64 i)] := by
            rw [← hA]
            refine ⟨⟨Nat.le_of_ble_eq_true rfl, rfl⟩, ?_⟩
            intro z hz; simp only [List.mem_cons, List.not_mem_nil, or_false] at hz; rcases hz with rfl | rfl | rfl | rfl | rfl | rfl | rfl | rfl <;> rfl
          refine anyC_start (fun a W => ∃ (u54 u55 u56 u57 u58 u60 u59 u61 u62 : Value) (r : Bool) (D9 : List KV) (F9 : Nat → Prop), a = (Act.put (Act.put (Act.put (Act.put (Act.put (Act.put (Act.put (Act.put (Act.put (Act.put A (some 54) u54) (some 55) u55) (some 56) u56) (some 57) u57) (some 58) u58) (some 60) u60) (some 59) u59) (some 61) u61) (some 62) u62) none undef) ∧ MidV W0 W F (fun b => b = g5) p kn n D9 F9 ∧ BoxB g5 W r ∧ bindP (bloopP c.pg c.st q j (i + 1) r) (fun r => bendP c.pg c.st q m x1 r) kn D9 = Rr) (fun W => WentY W0 F (fun b => b = g5) (fun w' => BkY c g1 g2 g3 g4 g5 q m k w') (fun w' => BoxB g5 w' true) p kn (ranOf Rr) (.panicked (endOf p)) W) (endOf p) (fun a W hd h => ⟨hd, h⟩) (fun _ _ _ _ _ h => h) ?_ ?_
          · skip
            rintro a wa ⟨u54, u55, u56, u57, u58, u60, u59, u61, u62, r1, D1, F1, rfl, MS, BS, RS⟩
            rw [← hA]
            have MS := Lib.hid MS
            have BS := Lib.hid BS
            have RS := Lib.hid RS
            clear HF hA MR BR RI MI BI
            go_wp2_with fail
            go_roundw
            case rel => exact ⟨i + 1, j, D1, F1, r1, by go_num, by omega, by omega, MS.out, BS.out, RS.out⟩
            case measure => simp [intOf]; omega
          intro QQ FINE FIND FINQ
          clear hA
          have cR := (box_cells BR.out).1
          cases r0 with
          | true =>
            have RI := Lib.hid (show bindP (efirstP c.pg c.st i) (fun x => bindP (bloopP c.pg c.st q j (i + 1) (decide (x = q))) (fun r => bendP c.pg c.st q m x1 r)) kn D' = Rr from by have h := RI.out; unfold boneP at h; simp only [if_true, bindP_assoc] at h; exact h)
            refine anyC_oneK (i := 0) (some 54) (by kernel_rfl) rfl (wanted_none rfl) rfl (fun K hK => ?_)
            refine wp_load_bool rfl g5 (HF.get 5 rfl) _ cR ?_
            refine hK _ _ (KL.out _ _ _ MR.out) ?_
            clear hK K
            replace HF := HF.put 54 (.bool true) (by decide) rfl
            generalize hB1_54 : Act.put _ _ _ = A at HF ⊢
            refine anyC_takeD (i := 1) (v := .bool true) (some 55) rfl rfl (by kernel_rfl) (by kernel_rfl) (by kernel_rfl) (fun c a w => FINQ c a _ _ w) (KL.out _ _ _ MR.out) (by exact yieldsC_moveG (wanted_none rfl) _ rfl (HF.get 0 rfl)) ?_
            replace HF := HF.put 55 (.bool true) (by decide) rfl
            generalize hB2_55 : Act.put _ _ _ = A at HF ⊢
            refine anyC_takeD (i := 2) (v := .pointer (some ⟨p, 0, none⟩)) (some 56) rfl rfl (by kernel_rfl) (by kernel_rfl) (by kernel_rfl) (fun c a w => FINQ c a _ _ w) (KL.out _ _ _ MR.out) (by exact yieldsC_moveG (wanted_g 1 true 55 rfl rfl (HF.at (by decide) 0 rfl)) _ rfl (HF.get 2 rfl)) ?_
            replace HF := HF.put 56 (.pointer (some ⟨p, 0, none⟩)) (by decide) rfl
            generalize hB3_56 : Act.put _ _ _ = A at HF ⊢
            refine anyC_takeD (i := 3) (v := .agg c.arr) (some 57) rfl rfl (by kernel_rfl) (by kernel_rfl) (by kernel_rfl) (fun c a w => FINQ c a _ _ w) (KL.out _ _ _ MR.out) (by exact yieldsC_row (C := (BkC c g1 g2 g3 g4 q m k)) (wanted_g 1 true 55 rfl rfl (HF.at (by decide) 1 rfl)) 28 _ rfl g1 (HF.get 4 rfl) 28 _ _ _ (fun W hW => hW.l) Try.underlying28 rfl (by kernel_rfl)) ?_
            replace HF := HF.put 57 (.agg c.arr) (by decide) rfl
            generalize hB4_57 : Act.put _ _ _ = A at HF ⊢
            refine anyC_takeD (i := 4) (v := .int .i64 i) (some 58) rfl rfl (by kernel_rfl) (by kernel_rfl) (by kernel_rfl) (fun c a w => FINQ c a _ _ w) (KL.out _ _ _ MR.out) (by exact yieldsC_moveG (wanted_g 1 true 55 rfl rfl (HF.at (by decide) 2 rfl)) _ rfl (HF.get 11 rfl)) ?_
            replace HF := HF.put 58 (.int .i64 i) (by decide) rfl
            generalize hB5_58 : Act.put _ _ _ = A at HF ⊢
            refine anyC_takeD (i := 6) (v := .int .i64 q) (some 60) rfl rfl (by kernel_rfl) (by kernel_rfl) (by kernel_rfl) (fun c a w => FINQ c a _ _ w) (KL.out _ _ _ MR.out) (by exact yieldsC_int (C := (BkC c g1 g2 g3 g4 q m k)) (wanted_g 1 true 55 rfl rfl (HF.at (by decide) 3 rfl)) _ rfl g2 (HF.get 7 rfl) _ (fun W hW => hW.q)) ?_
            replace HF := HF.put 60 (.int .i64 q) (by decide) rfl
            generalize hB6_60 : Act.put _ _ _ = A at HF ⊢
            refine anyC_oneK (i := 5) (some 59) (by kernel_rfl) rfl (wanted_g 1 true 55 rfl rfl (HF.at (by decide) 4 rfl)) rfl (fun K hK => ?_)
            refine wp_call3 (v0 := .pointer (some ⟨p, 0, none⟩)) (v1 := .agg c.arr) (v2 := .int .i64 i) rfl (HF.get 3 rfl) (HF.get 2 rfl) (HF.get 1 rfl) (enters_of Try.func19 (by kernel_rfl) rfl) ?_
            refine (e_First HR.out HH.out F' p kn D' i hiw wq MR.out.view HK.out MR.out.inv).mono ?_
            intro e w3 he
            rcases MR.out.step (More.refl _) HK.out (good_first HH.out _) he with ⟨a', hE, rfl, hd', ht', hk'⟩ | ⟨x3, D3, F3, hE, rfl, M3, hq3, hk', hf'⟩
            · exact FIND _ _ HF.1.2 (NEED.out a' w3 _ (RI.out.symm.trans (bindP_need hE)) hd' ht' (hk' _ _ (NF.out _ _ _ MR.out) BR.out))
            have B3 := Lib.hid (show BoxB g5 w3 true from hk' _ _ (NF.out _ _ _ MR.out) BR.out)
            have R3 := Lib.hid ((bindP_ok hE).symm.trans RI.out)
            have M3 := Lib.hid M3
            clear he hE hk' hf'
            refine hK _ _ (KL.out _ _ _ M3.out) ?_
            clear hK K
            replace HF := HF.put 59 (.int .i64 x3) (by decide) rfl
            generalize hB7_59 : Act.put _ _ _ = A at HF ⊢
            refine anyC_takeD (i := 7) (v := .bool (decide (x3 = q))) (some 61) rfl rfl (by kernel_rfl) (by kernel_rfl) (by kernel_rfl) (fun c a w => FINQ c a _ _ w) (KL.out _ _ _ M3.out) (by exact yieldsC_eqI (wanted_g 1 true 55 rfl rfl (HF.at (by decide) 5 rfl)) rfl (HF.get 0 rfl) (HF.get 1 rfl) (decide (x3 = q)) (by by_cases z : x3 = q <;> simp [z])) ?_
            replace HF := HF.put 61 (.bool (decide (x3 = q))) (by decide) rfl
            generalize hB8_61 : Act.put _ _ _ = A at HF ⊢
            refine anyC_takeD (i := 8) (v := .bool (decide (x3 = q))) (some 62) rfl rfl (by kernel_rfl) (by kernel_rfl) (by kernel_rfl) (fun c a w => FINQ c a _ _ w) (KL.out _ _ _ M3.out) (by exact yieldsC_pickT (wanted_none rfl) rfl (HF.get 6 rfl) (HF.get 0 rfl)) ?_
            replace HF := HF.put 62 (.bool (decide (x3 = q))) (by decide) rfl
            generalize hB9_62 : Act.put _ _ _ = A at HF ⊢
            refine anyC_last (i := 9) (by kernel_rfl) (by kernel_rfl) rfl (wanted_none rfl) (fun K hK => ?_)
            refine wp_store_bool rfl g5 (HF.get 14 rfl) (decide (x3 = q)) (HF.get 0 rfl) _ B3.out ?_
            have MS := M3.out.box (fun _ => rfl) (NF.out _ _ _ M3.out) (.bool (decide (x3 = q))) B3.out
            have BS := boxB_set B3.out (decide (x3 = q))
            have NX : bindP (bloopP c.pg c.st q j (i + 1) (decide (x3 = q))) (fun r => bendP c.pg c.st q m x1 r) kn D3 = Rr := R3.out
            exact hK _ _ (KL.out _ _ _ MS) (FINE _ _ ⟨(.bool true), (.bool true), (.pointer (some ⟨p, 0, none⟩)), (.agg c.arr), (.int .i64 i), (.int .i64 q), (.int .i64 x3), (.bool (decide (x3 = q))), (.bool (decide (x3 = q))), (decide (x3 = q)), D3, F3, by rw [← hB9_62, ← hB8_61, ← hB7_59, ← hB6_60, ← hB5_58, ← hB4_57, ← hB3_56, ← hB2_55, ← hB1_54]; rfl, MS, BS, NX⟩)
          | false =>
            have RI := Lib.hid (show bindP (bloopP c.pg c.st q j (i + 1) false) (fun r => bendP c.pg c.st q m x1 r) kn D' = Rr from RI.out)
            refine anyC_oneK (i := 0) (some 54) (by kernel_rfl) rfl (wanted_none rfl) rfl (fun K hK => ?_)
            refine wp_load_bool rfl g5 (HF.get 5 rfl) _ cR ?_
            refine hK _ _ (KL.out _ _ _ MR.out) ?_
            clear hK K
            replace HF := HF.put 54 (.bool false) (by decide) rfl
            generalize hB1_54 : Act.put _ _ _ = A at HF ⊢
            refine anyC_takeD (i := 1) (v := .bool false) (some 55) rfl rfl (by kernel_rfl) (by kernel_rfl) (by kernel_rfl) (fun c a w => FINQ c a _ _ w) (KL.out _ _ _ MR.out) (by exact yieldsC_moveG (wanted_none rfl) _ rfl (HF.get 0 rfl)) ?_
            replace HF := HF.put 55 (.bool false) (by decide) rfl
            generalize hB2_55 : Act.put _ _ _ = A at HF ⊢
            refine anyC_takeD (i := 2) (v := undef) (some 56) rfl rfl (by kernel_rfl) (by kernel_rfl) (by kernel_rfl) (fun c a w => FINQ c a _ _ w) (KL.out _ _ _ MR.out) (by exact yieldsC_skip (wanted_gF 1 true 55 rfl rfl (HF.at (by decide) 0 rfl))) ?_
            replace HF := HF.put 56 (undef) (by decide) rfl
            generalize hB3_56 : Act.put _ _ _ = A at HF ⊢
            refine anyC_takeD (i := 3) (v := undef) (some 57) rfl rfl (by kernel_rfl) (by kernel_rfl) (by kernel_rfl) (fun c a w => FINQ c a _ _ w) (KL.out _ _ _ MR.out) (by exact yieldsC_skip (wanted_gF 1 true 55 rfl rfl (HF.at (by decide) 1 rfl))) ?_
            replace HF := HF.put 57 (undef) (by decide) rfl
            generalize hB4_57 : Act.put _ _ _ = A at HF ⊢
            refine anyC_takeD (i := 4) (v := undef) (some 58) rfl rfl (by kernel_rfl) (by kernel_rfl) (by kernel_rfl) (fun c a w => FINQ c a _ _ w) (KL.out _ _ _ MR.out) (by exact yieldsC_skip (wanted_gF 1 true 55 rfl rfl (HF.at (by decide) 2 rfl))) ?_
            replace HF := HF.put 58 (undef) (by decide) rfl
            generalize hB5_58 : Act.put _ _ _ = A at HF ⊢
            refine anyC_takeD (i := 6) (v := undef) (some 60) rfl rfl (by kernel_rfl) (by kernel_rfl) (by kernel_rfl) (fun c a w => FINQ c a _ _ w) (KL.out _ _ _ MR.out) (by exact yieldsC_skip (wanted_gF 1 true 55 rfl rfl (HF.at (by decide) 3 rfl))) ?_
            replace HF := HF.put 60 (undef) (by decide) rfl
            generalize hB6_60 : Act.put _ _ _ = A at HF ⊢
            refine anyC_takeD (i := 5) (v := undef) (some 59) rfl rfl (by kernel_rfl) (by kernel_rfl) (by kernel_rfl) (fun c a w => FINQ c a _ _ w) (KL.out _ _ _ MR.out) (by exact yieldsC_skip (wanted_gF 1 true 55 rfl rfl (HF.at (by decide) 4 rfl))) ?_
            replace HF := HF.put 59 (undef) (by decide) rfl
            generalize hB7_59 : Act.put _ _ _ = A at HF ⊢
            refine anyC_takeD (i := 7) (v := undef) (some 61) rfl rfl (by kernel_rfl) (by kernel_rfl) (by kernel_rfl) (fun c a w => FINQ c a _ _ w) (KL.out _ _ _ MR.out) (by exact yieldsC_skip (wanted_gF 1 true 55 rfl rfl (HF.at (by decide) 5 rfl))) ?_
            replace HF := HF.put 61 (undef) (by decide) rfl
            generalize hB8_61 : Act.put _ _ _ = A at HF ⊢
            refine anyC_takeD (i := 8) (v := (.bool false)) (some 62) rfl rfl (by kernel_rfl) (by kernel_rfl) (by kernel_rfl) (fun c a w => FINQ c a _ _ w) (KL.out _ _ _ MR.out) (by exact yieldsC_pickF (wanted_none rfl) rfl (HF.get 6 rfl) rfl) ?_
            replace HF := HF.put 62 ((.bool false)) (by decide) rfl
            generalize hB9_62 : Act.put _ _ _ = A at HF ⊢
            refine anyC_last (i := 9) (by kernel_rfl) (by kernel_rfl) rfl (wanted_none rfl) (fun K hK => ?_)
            refine wp_store_bool rfl g5 (HF.get 14 rfl) false (HF.get 0 rfl) _ BR.out ?_
            have MS := MR.out.box (fun _ => rfl) (NF.out _ _ _ MR.out) (.bool false) BR.out
            have BS := boxB_set BR.out false
            have NX : bindP (bloopP c.pg c.st q j (i + 1) false) (fun r => bendP c.pg c.st q m x1 r) kn D' = Rr := RI.out
            exact hK _ _ (KL.out _ _ _ MS) (FINE _ _ ⟨(.bool false), (.bool false), (undef), (undef), (undef), (undef), (undef), (undef), ((.bool false)), false, D', F', by rw [← hB9_62, ← hB8_61, ← hB7_59, ← hB6_60, ← hB5_58, ← hB4_57, ← hB3_56, ← hB2_55, ← hB1_54]; rfl, MS, BS, NX⟩)
        · have d3 : decide (i < q + m) = false := by simp; omega
          obtain rfl : j = 0 := by omega
          have RI := Lib.hid (show bendP c.pg c.st q m x1 r0 kn D' = Rr from hrest)
          clear hrest
          go_wp2_with (first | (refine wpList_load_row rfl 28 _ rfl _ rfl 28 _ _ _ L6.out Try.underlying28 rfl (by kernel_rfl) ?_) | (refine wpList_load_rowG rfl 28 _ rfl _ rfl 28 _ _ _ L6.out Try.underlying28 rfl (by kernel_rfl) ?_))
          clear L6 c26 c36 c46
          refine wp_region_anyC (BkC c g1 g2 g3 g4 q m k) (by kernel_rfl) ?_
          have MR := Lib.hid (MI.out.more ((More.refl wr).drewN 1))
          have BR : Hid (BoxB g5 (wr.drewN 1) r0) := Lib.hid (((More.refl wr).drewN 1).block BI.out)
          change anyC _ _ _ _ _ _ _ _ (wr.drewN 1)
          generalize wr.drewN 1 = wq at MR BR ⊢
          generalize hA : Act.mk _ _ = A
          have HF : AG 79 A [(0, .pointer (some ⟨p, 0, none⟩)), (1, .pointer (some ⟨g1, 0, none⟩)), (2, .pointer (some ⟨g2, 0, none⟩)), (3, .pointer (some ⟨g3, 0, none⟩)), (4, .pointer (some ⟨g4, 0, none⟩)), (5, .pointer (some ⟨g5, 0, none⟩)), (7, .int .i64 x1), (8, .int .i64 i)] := by
            rw [← hA]
            refine ⟨⟨Nat.le_of_ble_eq_true rfl, rfl⟩, ?_⟩
            intro z hz; simp only [List.mem_cons, List.not_mem_nil, or_false] at hz; rcases hz with rfl | rfl | rfl | rfl | rfl | rfl | rfl | rfl <;> rfl
          refine anyC_start (fun a W => ∃ (u63 u64 u65 u66 u67 u69 u68 u70 u71 u72 u73 u74 u76 u75 u77 u78 : Value) (r : Bool) (D9 : List KV) (F9 : Nat → Prop), a = (Act.put (Act.put (Act.put (Act.put (Act.put (Act.put (Act.put (Act.put (Act.put (Act.put (Act.put (Act.put (Act.put (Act.put (Act.put (Act.put (Act.put A (some 63) u63) (some 64) u64) (some 65) u65) (some 66) u66) (some 67) u67) (some 69) u69) (some 68) u68) (some 70) u70) (some 71) u71) (some 72) u72) (some 73) u73) (some 74) u74) (some 76) u76) (some 75) u75) (some 77) u77) (some 78) u78) none undef) ∧ MidV W0 W F (fun b => b = g5) p kn n D9 F9 ∧ BoxB g5 W r ∧ Rr = .ok r D9) (fun W => WentY W0 F (fun b => b = g5) (fun w' => BkY c g1 g2 g3 g4 g5 q m k w') (fun w' => BoxB g5 w' true) p kn (ranOf Rr) (.panicked (endOf p)) W) (endOf p) (fun a W hd h => ⟨hd, h⟩) (fun _ _ _ _ _ h => h) ?_ ?_
          · skip
            rintro a wa ⟨u63, u64, u65, u66, u67, u69, u68, u70, u71, u72, u73, u74, u76, u75, u77, u78, r1, D1, F1, rfl, MS, BS, RS⟩
            rw [← hA]
            have FIN := Lib.hid (DONE.out _ D1 F1 r1 RS MS BS)
            clear HF hA MR BR RI MI BI MS BS RS
            go_wp2_with fail
            go_end0
            exact FIN.out
          intro QQ FINE FIND FINQ
          clear hA
          have cR := (box_cells BR.out).1
          cases r0 with
          | true =>
            have RI := Lib.hid (show bindP (edropP c.pg c.st q) (fun x => if x = m then bindP (eusedP c.pg c.st) (fun u => pureP (decide (u = x1))) else pureP false) kn D' = Rr from by have h := RI.out; unfold bendP at h; rw [if_pos rfl] at h; exact h)
            refine anyC_oneK (i := 0) (some 63) (by kernel_rfl) rfl (wanted_none rfl) rfl (fun K hK => ?_)
            refine wp_load_bool rfl g5 (HF.get 5 rfl) _ cR ?_
            refine hK _ _ (KL.out _ _ _ MR.out) ?_
            clear hK K
            replace HF := HF.put 63 (.bool true) (by decide) rfl
            generalize hB1_63 : Act.put _ _ _ = A at HF ⊢
            refine anyC_takeD (i := 1) (v := .bool true) (some 64) rfl rfl (by kernel_rfl) (by kernel_rfl) (by kernel_rfl) (fun c a w => FINQ c a _ _ w) (KL.out _ _ _ MR.out) (by exact yieldsC_moveG (wanted_none rfl) _ rfl (HF.get 0 rfl)) ?_
            replace HF := HF.put 64 (.bool true) (by decide) rfl
            generalize hB2_64 : Act.put _ _ _ = A at HF ⊢
            refine anyC_takeD (i := 2) (v := .pointer (some ⟨p, 0, none⟩)) (some 65) rfl rfl (by kernel_rfl) (by kernel_rfl) (by kernel_rfl) (fun c a w => FINQ c a _ _ w) (KL.out _ _ _ MR.out) (by exact yieldsC_moveG (wanted_g 1 true 64 rfl rfl (HF.at (by decide) 0 rfl)) _ rfl (HF.get 2 rfl)) ?_
            replace HF := HF.put 65 (.pointer (some ⟨p, 0, none⟩)) (by decide) rfl
            generalize hB3_65 : Act.put _ _ _ = A at HF ⊢
            refine anyC_takeD (i := 3) (v := .agg c.arr) (some 66) rfl rfl (by kernel_rfl) (by kernel_rfl) (by kernel_rfl) (fun c a w => FINQ c a _ _ w) (KL.out _ _ _ MR.out) (by exact yieldsC_row (C := (BkC c g1 g2 g3 g4 q m k)) (wanted_g 1 true 64 rfl rfl (HF.at (by decide) 1 rfl)) 28 _ rfl g1 (HF.get 4 rfl) 28 _ _ _ (fun W hW => hW.l) Try.underlying28 rfl (by kernel_rfl)) ?_
            replace HF := HF.put 66 (.agg c.arr) (by decide) rfl
            generalize hB4_66 : Act.put _ _ _ = A at HF ⊢
            refine anyC_takeD (i := 4) (v := .int .i64 q) (some 67) rfl rfl (by kernel_rfl) (by kernel_rfl) (by kernel_rfl) (fun c a w => FINQ c a _ _ w) (KL.out _ _ _ MR.out) (by exact yieldsC_int (C := (BkC c g1 g2 g3 g4 q m k)) (wanted_g 1 true 64 rfl rfl (HF.at (by decide) 2 rfl)) _ rfl g2 (HF.get 6 rfl) _ (fun W hW => hW.q)) ?_
            replace HF := HF.put 67 (.int .i64 q) (by decide) rfl
            generalize hB5_67 : Act.put _ _ _ = A at HF ⊢
            refine anyC_takeD (i := 6) (v := .int .i64 m) (some 69) rfl rfl (by kernel_rfl) (by kernel_rfl) (by kernel_rfl) (fun c a w => FINQ c a _ _ w) (KL.out _ _ _ MR.out) (by exact yieldsC_int (C := (BkC c g1 g2 g3 g4 q m k)) (wanted_g 1 true 64 rfl rfl (HF.at (by decide) 3 rfl)) _ rfl g3 (HF.get 8 rfl) _ (fun W hW => hW.m)) ?_
            replace HF := HF.put 69 (.int .i64 m) (by decide) rfl
            generalize hB6_69 : Act.put _ _ _ = A at HF ⊢
            refine anyC_oneK (i := 5) (some 68) (by kernel_rfl) rfl (wanted_g 1 true 64 rfl rfl (HF.at (by decide) 4 rfl)) rfl (fun K hK => ?_)
            refine wp_call3 (v0 := .pointer (some ⟨p, 0, none⟩)) (v1 := .agg c.arr) (v2 := .int .i64 q) rfl (HF.get 3 rfl) (HF.get 2 rfl) (HF.get 1 rfl) (enters_of Try.func20 (by kernel_rfl) rfl) ?_
            refine (e_Drop HR.out HH.out hn F' p kn D' q hqw wq MR.out.view HK.out MR.out.inv).mono ?_
            intro e w3 he
            rcases MR.out.step (More.refl _) HK.out (good_drop HH.out _) he with ⟨a', hE, rfl, hd', ht', hk'⟩ | ⟨x3, D3, F3, hE, rfl, M3, hq3, hk', hf'⟩
            · exact FIND _ _ HF.1.2 (NEED.out a' w3 _ (RI.out.symm.trans (bindP_need hE)) hd' ht' (hk' _ _ (NF.out _ _ _ MR.out) BR.out))
            have B3 := Lib.hid (show BoxB g5 w3 true from hk' _ _ (NF.out _ _ _ MR.out) BR.out)
            have R3 := Lib.hid ((bindP_ok hE).symm.trans RI.out)
            have M3 := Lib.hid M3
            clear he hE hk' hf'
            refine hK _ _ (KL.out _ _ _ M3.out) ?_
            clear hK K
            replace HF := HF.put 68 (.int .i64 x3) (by decide) rfl
            generalize hB7_68 : Act.put _ _ _ = A at HF ⊢
            by_cases z3 : x3 = m
            · have ez3 : (x3 == m) = true := by simp [z3]
              have R3' := Lib.hid (by have := R3.out; rw [if_pos z3] at this; exact this)
              clear R3 z3
              refine anyC_takeD (i := 7) (v := .bool true) (some 70) rfl rfl (by kernel_rfl) (by kernel_rfl) (by kernel_rfl) (fun c a w => FINQ c a _ _ w) (KL.out _ _ _ M3.out) (by exact yieldsC_eqI (wanted_g 1 true 64 rfl rfl (HF.at (by decide) 5 rfl)) rfl (HF.get 0 rfl) (HF.get 1 rfl) true ez3) ?_
              replace HF := HF.put 70 (.bool true) (by decide) rfl
              generalize hB8_70 : Act.put _ _ _ = A at HF ⊢
              refine anyC_takeD (i := 8) (v := .bool true) (some 71) rfl rfl (by kernel_rfl) (by kernel_rfl) (by kernel_rfl) (fun c a w => FINQ c a _ _ w) (KL.out _ _ _ M3.out) (by exact yieldsC_pickT (wanted_none rfl) rfl (HF.get 6 rfl) (HF.get 0 rfl)) ?_
              replace HF := HF.put 71 (.bool true) (by decide) rfl
              generalize hB9_71 : Act.put _ _ _ = A at HF ⊢
              refine anyC_takeD (i := 9) (v := .bool true) (some 72) rfl rfl (by kernel_rfl) (by kernel_rfl) (by kernel_rfl) (fun c a w => FINQ c a _ _ w) (KL.out _ _ _ M3.out) (by exact yieldsC_moveG (wanted_none rfl) _ rfl (HF.get 0 rfl)) ?_
              replace HF := HF.put 72 (.bool true) (by decide) rfl
              generalize hB10_72 : Act.put _ _ _ = A at HF ⊢
              refine anyC_takeD (i := 10) (v := .pointer (some ⟨p, 0, none⟩)) (some 73) rfl rfl (by kernel_rfl) (by kernel_rfl) (by kernel_rfl) (fun c a w => FINQ c a _ _ w) (KL.out _ _ _ M3.out) (by exact yieldsC_moveG (wanted_g 9 true 72 rfl rfl (HF.at (by decide) 0 rfl)) _ rfl (HF.get 10 rfl)) ?_
              replace HF := HF.put 73 (.pointer (some ⟨p, 0, none⟩)) (by decide) rfl
              generalize hB11_73 : Act.put _ _ _ = A at HF ⊢
              refine anyC_takeD (i := 11) (v := .agg c.arr) (some 74) rfl rfl (by kernel_rfl) (by kernel_rfl) (by kernel_rfl) (fun c a w => FINQ c a _ _ w) (KL.out _ _ _ M3.out) (by exact yieldsC_row (C := (BkC c g1 g2 g3 g4 q m k)) (wanted_g 9 true 72 rfl rfl (HF.at (by decide) 1 rfl)) 28 _ rfl g1 (HF.get 12 rfl) 28 _ _ _ (fun W hW => hW.l) Try.underlying28 rfl (by kernel_rfl)) ?_
              replace HF := HF.put 74 (.agg c.arr) (by decide) rfl
              generalize hB12_74 : Act.put _ _ _ = A at HF ⊢
              refine anyC_takeD (i := 13) (v := .int .i64 x1) (some 76) rfl rfl (by kernel_rfl) (by kernel_rfl) (by kernel_rfl) (fun c a w => FINQ c a _ _ w) (KL.out _ _ _ M3.out) (by exact yieldsC_moveG (wanted_g 9 true 72 rfl rfl (HF.at (by decide) 2 rfl)) _ rfl (HF.get 18 rfl)) ?_
              replace HF := HF.put 76 (.int .i64 x1) (by decide) rfl
              generalize hB13_76 : Act.put _ _ _ = A at HF ⊢
              refine anyC_oneK (i := 12) (some 75) (by kernel_rfl) rfl (wanted_g 9 true 72 rfl rfl (HF.at (by decide) 3 rfl)) rfl (fun K hK => ?_)
              refine wp_call2 (v0 := .pointer (some ⟨p, 0, none⟩)) (v1 := .agg c.arr) rfl (HF.get 2 rfl) (HF.get 1 rfl) (enters_of Try.func15 (by kernel_rfl) rfl) ?_
              refine (e_Used HR.out HH.out F3 p kn D3 w3 M3.out.view HK.out M3.out.inv).mono ?_
              intro e w4 he
              rcases M3.out.step (More.refl _) HK.out (good_used HH.out) he with ⟨a', hE, rfl, hd', ht', hk'⟩ | ⟨x4, D4, F4, hE, rfl, M4, hq4, hk', hf'⟩
              · exact FIND _ _ HF.1.2 (NEED.out a' w4 _ (R3'.out.symm.trans (bindP_need hE)) hd' ht' (hk' _ _ (NF.out _ _ _ M3.out) B3.out))
              have B4 := Lib.hid (show BoxB g5 w4 true from hk' _ _ (NF.out _ _ _ M3.out) B3.out)
              have R4 := Lib.hid ((bindP_ok hE).symm.trans R3'.out)
              have M4 := Lib.hid M4
              clear he hE hk' hf'
              refine hK _ _ (KL.out _ _ _ M4.out) ?_
              clear hK K
              replace HF := HF.put 75 (.int .i64 x4) (by decide) rfl
              generalize hB14_75 : Act.put _ _ _ = A at HF ⊢
              refine anyC_takeD (i := 14) (v := .bool (decide (x4 = x1))) (some 77) rfl rfl (by kernel_rfl) (by kernel_rfl) (by kernel_rfl) (fun c a w => FINQ c a _ _ w) (KL.out _ _ _ M4.out) (by exact yieldsC_eqI (wanted_g 9 true 72 rfl rfl (HF.at (by decide) 4 rfl)) rfl (HF.get 0 rfl) (HF.get 1 rfl) (decide (x4 = x1)) (by by_cases z : x4 = x1 <;> simp [z])) ?_
              replace HF := HF.put 77 (.bool (decide (x4 = x1))) (by decide) rfl
              generalize hB15_77 : Act.put _ _ _ = A at HF ⊢
              refine anyC_takeD (i := 15) (v := .bool (decide (x4 = x1))) (some 78) rfl rfl (by kernel_rfl) (by kernel_rfl) (by kernel_rfl) (fun c a w => FINQ c a _ _ w) (KL.out _ _ _ M4.out) (by exact yieldsC_pickT (wanted_none rfl) rfl (HF.get 5 rfl) (HF.get 0 rfl)) ?_
              replace HF := HF.put 78 (.bool (decide (x4 = x1))) (by decide) rfl
              generalize hB16_78 : Act.put _ _ _ = A at HF ⊢
              refine anyC_last (i := 16) (by kernel_rfl) (by kernel_rfl) rfl (wanted_none rfl) (fun K hK => ?_)
              refine wp_store_bool rfl g5 (HF.get 21 rfl) (decide (x4 = x1)) (HF.get 0 rfl) _ B4.out ?_
              have MS := M4.out.box (fun _ => rfl) (NF.out _ _ _ M4.out) (.bool (decide (x4 = x1))) B4.out
              have BS := boxB_set B4.out (decide (x4 = x1))
              have NX : Rr = .ok (decide (x4 = x1)) D4 := R4.out.symm
              exact hK _ _ (KL.out _ _ _ MS) (FINE _ _ ⟨(.bool true), (.bool true), (.pointer (some ⟨p, 0, none⟩)), (.agg c.arr), (.int .i64 q), (.int .i64 m), (.int .i64 x3), (.bool true), (.bool true), (.bool true), (.pointer (some ⟨p, 0, none⟩)), (.agg c.arr), (.int .i64 x1), (.int .i64 x4), (.bool (decide (x4 = x1))), (.bool (decide (x4 = x1))), (decide (x4 = x1)), D4, F4, by rw [← hB16_78, ← hB15_77, ← hB14_75, ← hB13_76, ← hB12_74, ← hB11_73, ← hB10_72, ← hB9_71, ← hB8_70, ← hB7_68, ← hB6_69, ← hB5_67, ← hB4_66, ← hB3_65, ← hB2_64, ← hB1_63]; rfl, MS, BS, NX⟩)
            · have ez3 : (x3 == m) = false := by simp [z3]
              have R3' := by have := R3.out; rw [if_neg z3] at this; exact this
              clear R3 z3
              refine anyC_takeD (i := 7) (v := .bool false) (some 70) rfl rfl (by kernel_rfl) (by kernel_rfl) (by kernel_rfl) (fun c a w => FINQ c a _ _ w) (KL.out _ _ _ M3.out) (by exact yieldsC_eqI (wanted_g 1 true 64 rfl rfl (HF.at (by decide) 5 rfl)) rfl (HF.get 0 rfl) (HF.get 1 rfl) false ez3) ?_
              replace HF := HF.put 70 (.bool false) (by decide) rfl
              generalize hB8_70 : Act.put _ _ _ = A at HF ⊢
              refine anyC_takeD (i := 8) (v := .bool false) (some 71) rfl rfl (by kernel_rfl) (by kernel_rfl) (by kernel_rfl) (fun c a w => FINQ c a _ _ w) (KL.out _ _ _ M3.out) (by exact yieldsC_pickT (wanted_none rfl) rfl (HF.get 6 rfl) (HF.get 0 rfl)) ?_
              replace HF := HF.put 71 (.bool false) (by decide) rfl
              generalize hB9_71 : Act.put _ _ _ = A at HF ⊢
              refine anyC_takeD (i := 9) (v := .bool false) (some 72) rfl rfl (by kernel_rfl) (by kernel_rfl) (by kernel_rfl) (fun c a w => FINQ c a _ _ w) (KL.out _ _ _ M3.out) (by exact yieldsC_moveG (wanted_none rfl) _ rfl (HF.get 0 rfl)) ?_
              replace HF := HF.put 72 (.bool false) (by decide) rfl
              generalize hB10_72 : Act.put _ _ _ = A at HF ⊢
              refine anyC_takeD (i := 10) (v := undef) (some 73) rfl rfl (by kernel_rfl) (by kernel_rfl) (by kernel_rfl) (fun c a w => FINQ c a _ _ w) (KL.out _ _ _ M3.out) (by exact yieldsC_skip (wanted_gF 9 true 72 rfl rfl (HF.at (by decide) 0 rfl))) ?_
              replace HF := HF.put 73 (undef) (by decide) rfl
              generalize hB11_73 : Act.put _ _ _ = A at HF ⊢
              refine anyC_takeD (i := 11) (v := undef) (some 74) rfl rfl (by kernel_rfl) (by kernel_rfl) (by kernel_rfl) (fun c a w => FINQ c a _ _ w) (KL.out _ _ _ M3.out) (by exact yieldsC_skip (wanted_gF 9 true 72 rfl rfl (HF.at (by decide) 1 rfl))) ?_
              replace HF := HF.put 74 (undef) (by decide) rfl
              generalize hB12_74 : Act.put _ _ _ = A at HF ⊢
              refine anyC_takeD (i := 13) (v := undef) (some 76) rfl rfl (by kernel_rfl) (by kernel_rfl) (by kernel_rfl) (fun c a w => FINQ c a _ _ w) (KL.out _ _ _ M3.out) (by exact yieldsC_skip (wanted_gF 9 true 72 rfl rfl (HF.at (by decide) 2 rfl))) ?_
              replace HF := HF.put 76 (undef) (by decide) rfl
              generalize hB13_76 : Act.put _ _ _ = A at HF ⊢
              refine anyC_takeD (i := 12) (v := undef) (some 75) rfl rfl (by kernel_rfl) (by kernel_rfl) (by kernel_rfl) (fun c a w => FINQ c a _ _ w) (KL.out _ _ _ M3.out) (by exact yieldsC_skip (wanted_gF 9 true 72 rfl rfl (HF.at (by decide) 3 rfl))) ?_
              replace HF := HF.put 75 (undef) (by decide) rfl
              generalize hB14_75 : Act.put _ _ _ = A at HF ⊢
              refine anyC_takeD (i := 14) (v := undef) (some 77) rfl rfl (by kernel_rfl) (by kernel_rfl) (by kernel_rfl) (fun c a w => FINQ c a _ _ w) (KL.out _ _ _ M3.out) (by exact yieldsC_skip (wanted_gF 9 true 72 rfl rfl (HF.at (by decide) 4 rfl))) ?_
              replace HF := HF.put 77 (undef) (by decide) rfl
              generalize hB15_77 : Act.put _ _ _ = A at HF ⊢
              refine anyC_takeD (i := 15) (v := (.bool false)) (some 78) rfl rfl (by kernel_rfl) (by kernel_rfl) (by kernel_rfl) (fun c a w => FINQ c a _ _ w) (KL.out _ _ _ M3.out) (by exact yieldsC_pickF (wanted_none rfl) rfl (HF.get 5 rfl) rfl) ?_
              replace HF := HF.put 78 ((.bool false)) (by decide) rfl
              generalize hB16_78 : Act.put _ _ _ = A at HF ⊢
              refine anyC_last (i := 16) (by kernel_rfl) (by kernel_rfl) rfl (wanted_none rfl) (fun K hK => ?_)
              refine wp_store_bool rfl g5 (HF.get 21 rfl) false (HF.get 0 rfl) _ B3.out ?_
              have MS := M3.out.box (fun _ => rfl) (NF.out _ _ _ M3.out) (.bool false) B3.out
              have BS := boxB_set B3.out false
              have NX : Rr = .ok false D3 := R3'.symm
              exact hK _ _ (KL.out _ _ _ MS) (FINE _ _ ⟨(.bool true), (.bool true), (.pointer (some ⟨p, 0, none⟩)), (.agg c.arr), (.int .i64 q), (.int .i64 m), (.int .i64 x3), (.bool false), (.bool false), (.bool false), (undef), (undef), (undef), (undef), (undef), ((.bool false)), false, D3, F3, by rw [← hB16_78, ← hB15_77, ← hB14_75, ← hB13_76, ← hB12_74, ← hB11_73, ← hB10_72, ← hB9_71, ← hB8_70, ← hB7_68, ← hB6_69, ← hB5_67, ← hB4_66, ← hB3_65, ← hB2_64, ← hB1_63]; rfl, MS, BS, NX⟩)
          | false =>
            have RI := Lib.hid (show pureP false kn D' = Rr from by have h := RI.out; exact h)
            refine anyC_oneK (i := 0) (some 63) (by kernel_rfl) rfl (wanted_none rfl) rfl (fun K hK => ?_)
            refine wp_load_bool rfl g5 (HF.get 5 rfl) _ cR ?_
            refine hK _ _ (KL.out _ _ _ MR.out) ?_
            clear hK K
            replace HF := HF.put 63 (.bool false) (by decide) rfl
            generalize hB1_63 : Act.put _ _ _ = A at HF ⊢
            refine anyC_takeD (i := 1) (v := .bool false) (some 64) rfl rfl (by kernel_rfl) (by kernel_rfl) (by kernel_rfl) (fun c a w => FINQ c a _ _ w) (KL.out _ _ _ MR.out) (by exact yieldsC_moveG (wanted_none rfl) _ rfl (HF.get 0 rfl)) ?_
            replace HF := HF.put 64 (.bool false) (by decide) rfl
            generalize hB2_64 : Act.put _ _ _ = A at HF ⊢
            refine anyC_takeD (i := 2) (v := undef) (some 65) rfl rfl (by kernel_rfl) (by kernel_rfl) (by kernel_rfl) (fun c a w => FINQ c a _ _ w) (KL.out _ _ _ MR.out) (by exact yieldsC_skip (wanted_gF 1 true 64 rfl rfl (HF.at (by decide) 0 rfl))) ?_
            replace HF := HF.put 65 (undef) (by decide) rfl
            generalize hB3_65 : Act.put _ _ _ = A at HF ⊢
            refine anyC_takeD (i := 3) (v := undef) (some 66) rfl rfl (by kernel_rfl) (by kernel_rfl) (by kernel_rfl) (fun c a w => FINQ c a _ _ w) (KL.out _ _ _ MR.out) (by exact yieldsC_skip (wanted_gF 1 true 64 rfl rfl (HF.at (by decide) 1 rfl))) ?_
            replace HF := HF.put 66 (undef) (by decide) rfl
            generalize hB4_66 : Act.put _ _ _ = A at HF ⊢
            refine anyC_takeD (i := 4) (v := undef) (some 67) rfl rfl (by kernel_rfl) (by kernel_rfl) (by kernel_rfl) (fun c a w => FINQ c a _ _ w) (KL.out _ _ _ MR.out) (by exact yieldsC_skip (wanted_gF 1 true 64 rfl rfl (HF.at (by decide) 2 rfl))) ?_
            replace HF := HF.put 67 (undef) (by decide) rfl
            generalize hB5_67 : Act.put _ _ _ = A at HF ⊢
            refine anyC_takeD (i := 6) (v := undef) (some 69) rfl rfl (by kernel_rfl) (by kernel_rfl) (by kernel_rfl) (fun c a w => FINQ c a _ _ w) (KL.out _ _ _ MR.out) (by exact yieldsC_skip (wanted_gF 1 true 64 rfl rfl (HF.at (by decide) 3 rfl))) ?_
            replace HF := HF.put 69 (undef) (by decide) rfl
            generalize hB6_69 : Act.put _ _ _ = A at HF ⊢
            refine anyC_takeD (i := 5) (v := undef) (some 68) rfl rfl (by kernel_rfl) (by kernel_rfl) (by kernel_rfl) (fun c a w => FINQ c a _ _ w) (KL.out _ _ _ MR.out) (by exact yieldsC_skip (wanted_gF 1 true 64 rfl rfl (HF.at (by decide) 4 rfl))) ?_
            replace HF := HF.put 68 (undef) (by decide) rfl
            generalize hB7_68 : Act.put _ _ _ = A at HF ⊢
            refine anyC_takeD (i := 7) (v := undef) (some 70) rfl rfl (by kernel_rfl) (by kernel_rfl) (by kernel_rfl) (fun c a w => FINQ c a _ _ w) (KL.out _ _ _ MR.out) (by exact yieldsC_skip (wanted_gF 1 true 64 rfl rfl (HF.at (by decide) 5 rfl))) ?_
            replace HF := HF.put 70 (undef) (by decide) rfl
            generalize hB8_70 : Act.put _ _ _ = A at HF ⊢
            refine anyC_takeD (i := 8) (v := (.bool false)) (some 71) rfl rfl (by kernel_rfl) (by kernel_rfl) (by kernel_rfl) (fun c a w => FINQ c a _ _ w) (KL.out _ _ _ MR.out) (by exact yieldsC_pickF (wanted_none rfl) rfl (HF.get 6 rfl) rfl) ?_
            replace HF := HF.put 71 ((.bool false)) (by decide) rfl
            generalize hB9_71 : Act.put _ _ _ = A at HF ⊢
            refine anyC_takeD (i := 9) (v := (.bool false)) (some 72) rfl rfl (by kernel_rfl) (by kernel_rfl) (by kernel_rfl) (fun c a w => FINQ c a _ _ w) (KL.out _ _ _ MR.out) (by exact yieldsC_moveG (wanted_none rfl) _ rfl (HF.get 0 rfl)) ?_
            replace HF := HF.put 72 ((.bool false)) (by decide) rfl
            generalize hB10_72 : Act.put _ _ _ = A at HF ⊢
            refine anyC_takeD (i := 10) (v := undef) (some 73) rfl rfl (by kernel_rfl) (by kernel_rfl) (by kernel_rfl) (fun c a w => FINQ c a _ _ w) (KL.out _ _ _ MR.out) (by exact yieldsC_skip (wanted_gF 9 true 72 rfl rfl (HF.at (by decide) 0 rfl))) ?_
            replace HF := HF.put 73 (undef) (by decide) rfl
            generalize hB11_73 : Act.put _ _ _ = A at HF ⊢
            refine anyC_takeD (i := 11) (v := undef) (some 74) rfl rfl (by kernel_rfl) (by kernel_rfl) (by kernel_rfl) (fun c a w => FINQ c a _ _ w) (KL.out _ _ _ MR.out) (by exact yieldsC_skip (wanted_gF 9 true 72 rfl rfl (HF.at (by decide) 1 rfl))) ?_
            replace HF := HF.put 74 (undef) (by decide) rfl
            generalize hB12_74 : Act.put _ _ _ = A at HF ⊢
            refine anyC_takeD (i := 13) (v := undef) (some 76) rfl rfl (by kernel_rfl) (by kernel_rfl) (by kernel_rfl) (fun c a w => FINQ c a _ _ w) (KL.out _ _ _ MR.out) (by exact yieldsC_skip (wanted_gF 9 true 72 rfl rfl (HF.at (by decide) 2 rfl))) ?_
            replace HF := HF.put 76 (undef) (by decide) rfl
            generalize hB13_76 : Act.put _ _ _ = A at HF ⊢
            refine anyC_takeD (i := 12) (v := undef) (some 75) rfl rfl (by kernel_rfl) (by kernel_rfl) (by kernel_rfl) (fun c a w => FINQ c a _ _ w) (KL.out _ _ _ MR.out) (by exact yieldsC_skip (wanted_gF 9 true 72 rfl rfl (HF.at (by decide) 3 rfl))) ?_
            replace HF := HF.put 75 (undef) (by decide) rfl
            generalize hB14_75 : Act.put _ _ _ = A at HF ⊢
            refine anyC_takeD (i := 14) (v := undef) (some 77) rfl rfl (by kernel_rfl) (by kernel_rfl) (by kernel_rfl) (fun c a w => FINQ c a _ _ w) (KL.out _ _ _ MR.out) (by exact yieldsC_skip (wanted_gF 9 true 72 rfl rfl (HF.at (by decide) 4 rfl))) ?_
            replace HF := HF.put 77 (undef) (by decide) rfl
            generalize hB15_77 : Act.put _ _ _ = A at HF ⊢
            refine anyC_takeD (i := 15) (v := (.bool false)) (some 78) rfl rfl (by kernel_rfl) (by kernel_rfl) (by kernel_rfl) (fun c a w => FINQ c a _ _ w) (KL.out _ _ _ MR.out) (by exact yieldsC_pickF (wanted_none rfl) rfl (HF.get 5 rfl) rfl) ?_
            replace HF := HF.put 78 ((.bool false)) (by decide) rfl
            generalize hB16_78 : Act.put _ _ _ = A at HF ⊢
            refine anyC_last (i := 16) (by kernel_rfl) (by kernel_rfl) rfl (wanted_none rfl) (fun K hK => ?_)
            refine wp_store_bool rfl g5 (HF.get 21 rfl) false (HF.get 0 rfl) _ BR.out ?_
            have MS := MR.out.box (fun _ => rfl) (NF.out _ _ _ MR.out) (.bool false) BR.out
            have BS := boxB_set BR.out false
            have NX : Rr = .ok false D' := RI.out.symm
            exact hK _ _ (KL.out _ _ _ MS) (FINE _ _ ⟨(.bool false), (.bool false), (undef), (undef), (undef), (undef), (undef), (undef), ((.bool false)), ((.bool false)), (undef), (undef), (undef), (undef), (undef), ((.bool false)), false, D', F', by rw [← hB16_78, ← hB15_77, ← hB14_75, ← hB13_76, ← hB12_74, ← hB11_73, ← hB10_72, ← hB9_71, ← hB8_70, ← hB7_68, ← hB6_69, ← hB5_67, ← hB4_66, ← hB3_65, ← hB2_64, ← hB1_63]; rfl, MS, BS, NX⟩)
    intro QQ FINE FIND FINQ
    clear hA
    refine anyC_takeD (i := 0) (v := .pointer (some ⟨p, 0, none⟩)) (some 24) rfl rfl (by kernel_rfl) (by kernel_rfl) (by kernel_rfl) (fun c a w => FINQ c a _ _ w) (KL.out _ _ _ MR.out) (by exact yieldsC_moveG (wanted_none rfl) _ rfl (HF.get 0 rfl)) ?_
    replace HF := HF.put 24 (.pointer (some ⟨p, 0, none⟩)) (by decide) rfl
    generalize hB1_24 : Act.put _ _ _ = A at HF ⊢
    refine anyC_takeD (i := 1) (v := .agg c.arr) (some 25) rfl rfl (by kernel_rfl) (by kernel_rfl) (by kernel_rfl) (fun c a w => FINQ c a _ _ w) (KL.out _ _ _ MR.out) (by exact yieldsC_row (C := (BkC c g1 g2 g3 g4 q m k)) (wanted_none rfl) 28 _ rfl g1 (HF.get 2 rfl) 28 _ _ _ (fun W hW => hW.l) Try.underlying28 rfl (by kernel_rfl)) ?_
    replace HF := HF.put 25 (.agg c.arr) (by decide) rfl
    generalize hB2_25 : Act.put _ _ _ = A at HF ⊢
    refine anyC_takeD (i := 3) (v := .int .i64 x1) (some 27) rfl rfl (by kernel_rfl) (by kernel_rfl) (by kernel_rfl) (fun c a w => FINQ c a _ _ w) (KL.out _ _ _ MR.out) (by exact yieldsC_moveG (wanted_none rfl) _ rfl (HF.get 8 rfl)) ?_
    replace HF := HF.put 27 (.int .i64 x1) (by decide) rfl
    generalize hB3_27 : Act.put _ _ _ = A at HF ⊢
    refine anyC_takeD (i := 4) (v := .int .i64 m) (some 28) rfl rfl (by kernel_rfl) (by kernel_rfl) (by kernel_rfl) (fun c a w => FINQ c a _ _ w) (KL.out _ _ _ MR.out) (by exact yieldsC_int (C := (BkC c g1 g2 g3 g4 q m k)) (wanted_none rfl) _ rfl g3 (HF.get 6 rfl) _ (fun W hW => hW.m)) ?_
    replace HF := HF.put 28 (.int .i64 m) (by decide) rfl
    generalize hB4_28 : Act.put _ _ _ = A at HF ⊢
    refine anyC_takeD (i := 5) (v := .int .i64 (x1 + m)) (some 29) rfl rfl (by kernel_rfl) (by kernel_rfl) (by kernel_rfl) (fun c a w => FINQ c a _ _ w) (KL.out _ _ _ MR.out) (by exact yieldsC_addI (wanted_none rfl) rfl (HF.get 1 rfl) (HF.get 0 rfl) _ qs) ?_
    replace HF := HF.put 29 (.int .i64 (x1 + m)) (by decide) rfl
    generalize hB5_29 : Act.put _ _ _ = A at HF ⊢
    refine anyC_oneK (i := 2) (some 26) (by kernel_rfl) rfl (wanted_none rfl) rfl (fun K hK => ?_)
    refine wp_call2 (v0 := .pointer (some ⟨p, 0, none⟩)) (v1 := .agg c.arr) rfl (HF.get 4 rfl) (HF.get 3 rfl) (enters_of Try.func15 (by kernel_rfl) rfl) ?_
    refine (e_Used HR.out HH.out F2 p kn D2 wr MR.out.view HK.out MR.out.inv).mono ?_
    intro e w3 he
    rcases MR.out.step (More.refl _) HK.out (good_used HH.out) he with ⟨a', hE, rfl, hd', ht', hk'⟩ | ⟨x3, D3, F3, hE, rfl, M3, hq3, hk', hf'⟩
    · exact FIND _ _ HF.1.2 (NEED.out a' w3 _ (R2.out.symm.trans (bindP_need hE)) hd' ht' (hk' _ _ (NF.out _ _ _ MR.out) BR.out))
    have B3 := Lib.hid (show BoxB g5 w3 b0 from hk' _ _ (NF.out _ _ _ MR.out) BR.out)
    have R3 := Lib.hid ((bindP_ok hE).symm.trans R2.out)
    have M3 := Lib.hid M3
    clear he hE hk' hf'
    refine hK _ _ (KL.out _ _ _ M3.out) ?_
    clear hK K
    replace HF := HF.put 26 (.int .i64 x3) (by decide) rfl
    generalize hB6_26 : Act.put _ _ _ = A at HF ⊢
    by_cases z3 : x3 = x1 + m
    · have ez : (x3 == x1 + m) = true := by simp [z3]
      have R3' := Lib.hid (by have := R3.out; rw [if_pos z3, bindP_assoc] at this; exact this)
      clear R3 z3
      refine anyC_takeD (i := 6) (v := .bool true) (some 30) rfl rfl (by kernel_rfl) (by kernel_rfl) (by kernel_rfl) (fun c a w => FINQ c a _ _ w) (KL.out _ _ _ M3.out) (by exact yieldsC_eqI (wanted_none rfl) rfl (HF.get 0 rfl) (HF.get 1 rfl) true ez) ?_
      replace HF := HF.put 30 (.bool true) (by decide) rfl
      generalize hB7_30 : Act.put _ _ _ = A at HF ⊢
      refine anyC_takeD (i := 7) (v := .bool true) (some 31) rfl rfl (by kernel_rfl) (by kernel_rfl) (by kernel_rfl) (fun c a w => FINQ c a _ _ w) (KL.out _ _ _ M3.out) (by exact yieldsC_moveG (wanted_none rfl) _ rfl (HF.get 0 rfl)) ?_
      replace HF := HF.put 31 (.bool true) (by decide) rfl
      generalize hB8_31 : Act.put _ _ _ = A at HF ⊢
      refine anyC_takeD (i := 8) (v := .pointer (some ⟨p, 0, none⟩)) (some 32) rfl rfl (by kernel_rfl) (by kernel_rfl) (by kernel_rfl) (fun c a w => FINQ c a _ _ w) (KL.out _ _ _ M3.out) (by exact yieldsC_moveG (wanted_g 7 true 31 rfl rfl (HF.at (by decide) 0 rfl)) _ rfl (HF.get 8 rfl)) ?_
      replace HF := HF.put 32 (.pointer (some ⟨p, 0, none⟩)) (by decide) rfl
      generalize hB9_32 : Act.put _ _ _ = A at HF ⊢
      refine anyC_takeD (i := 9) (v := .agg c.arr) (some 33) rfl rfl (by kernel_rfl) (by kernel_rfl) (by kernel_rfl) (fun c a w => FINQ c a _ _ w) (KL.out _ _ _ M3.out) (by exact yieldsC_row (C := (BkC c g1 g2 g3 g4 q m k)) (wanted_g 7 true 31 rfl rfl (HF.at (by decide) 1 rfl)) 28 _ rfl g1 (HF.get 10 rfl) 28 _ _ _ (fun W hW => hW.l) Try.underlying28 rfl (by kernel_rfl)) ?_
      replace HF := HF.put 33 (.agg c.arr) (by decide) rfl
      generalize hB10_33 : Act.put _ _ _ = A at HF ⊢
      refine anyC_takeD (i := 10) (v := .int .i64 q) (some 34) rfl rfl (by kernel_rfl) (by kernel_rfl) (by kernel_rfl) (fun c a w => FINQ c a _ _ w) (KL.out _ _ _ M3.out) (by exact yieldsC_int (C := (BkC c g1 g2 g3 g4 q m k)) (wanted_g 7 true 31 rfl rfl (HF.at (by decide) 2 rfl)) _ rfl g2 (HF.get 12 rfl) _ (fun W hW => hW.q)) ?_
      replace HF := HF.put 34 (.int .i64 q) (by decide) rfl
      generalize hB11_34 : Act.put _ _ _ = A at HF ⊢
      refine anyC_takeD (i := 12) (v := .int .i64 k) (some 36) rfl rfl (by kernel_rfl) (by kernel_rfl) (by kernel_rfl) (fun c a w => FINQ c a _ _ w) (KL.out _ _ _ M3.out) (by exact yieldsC_int (C := (BkC c g1 g2 g3 g4 q m k)) (wanted_g 7 true 31 rfl rfl (HF.at (by decide) 3 rfl)) _ rfl g4 (HF.get 15 rfl) _ (fun W hW => hW.k)) ?_
      replace HF := HF.put 36 (.int .i64 k) (by decide) rfl
      generalize hB12_36 : Act.put _ _ _ = A at HF ⊢
      refine anyC_oneK (i := 11) (some 35) (by kernel_rfl) rfl (wanted_g 7 true 31 rfl rfl (HF.at (by decide) 4 rfl)) rfl (fun K hK => ?_)
      refine wp_call3 (v0 := .pointer (some ⟨p, 0, none⟩)) (v1 := .agg c.arr) (v2 := .int .i64 q) rfl (HF.get 3 rfl) (HF.get 2 rfl) (HF.get 1 rfl) (enters_of Try.func17 (by kernel_rfl) rfl) ?_
      refine (e_Kind HR.out HH.out F3 p kn D3 q w3 M3.out.view HK.out M3.out.inv).mono ?_
      intro e w4 he
      rcases M3.out.step (More.refl _) HK.out (good_kind HH.out _) he with ⟨a', hE, rfl, hd', ht', hk'⟩ | ⟨x4, D4, F4, hE, rfl, M4, hq4, hk', hf'⟩
      · exact FIND _ _ HF.1.2 (NEED.out a' w4 _ (R3'.out.symm.trans (bindP_need hE)) hd' ht' (hk' _ _ (NF.out _ _ _ M3.out) B3.out))
      have B4 := Lib.hid (show BoxB g5 w4 b0 from hk' _ _ (NF.out _ _ _ M3.out) B3.out)
      have R4 := Lib.hid ((bindP_ok hE).symm.trans R3'.out)
      have M4 := Lib.hid M4
      clear he hE hk' hf'
      refine hK _ _ (KL.out _ _ _ M4.out) ?_
      clear hK K
      replace HF := HF.put 35 (.int .i64 x4) (by decide) rfl
      generalize hB13_35 : Act.put _ _ _ = A at HF ⊢
      by_cases z4 : x4 = k
      · have ez4 : (x4 == k) = true := by simp [z4]
        have R4' := Lib.hid (by have := R4.out; rw [if_pos z4] at this; exact this)
        clear R4 z4
        refine anyC_takeD (i := 13) (v := .bool true) (some 37) rfl rfl (by kernel_rfl) (by kernel_rfl) (by kernel_rfl) (fun c a w => FINQ c a _ _ w) (KL.out _ _ _ M4.out) (by exact yieldsC_eqI (wanted_g 7 true 31 rfl rfl (HF.at (by decide) 5 rfl)) rfl (HF.get 0 rfl) (HF.get 1 rfl) true ez4) ?_
        replace HF := HF.put 37 (.bool true) (by decide) rfl
        generalize hB14_37 : Act.put _ _ _ = A at HF ⊢
        refine anyC_takeD (i := 14) (v := .bool true) (some 38) rfl rfl (by kernel_rfl) (by kernel_rfl) (by kernel_rfl) (fun c a w => FINQ c a _ _ w) (KL.out _ _ _ M4.out) (by exact yieldsC_pickT (wanted_none rfl) rfl (HF.get 6 rfl) (HF.get 0 rfl)) ?_
        replace HF := HF.put 38 (.bool true) (by decide) rfl
        generalize hB15_38 : Act.put _ _ _ = A at HF ⊢
        refine anyC_takeD (i := 15) (v := .bool true) (some 39) rfl rfl (by kernel_rfl) (by kernel_rfl) (by kernel_rfl) (fun c a w => FINQ c a _ _ w) (KL.out _ _ _ M4.out) (by exact yieldsC_moveG (wanted_none rfl) _ rfl (HF.get 0 rfl)) ?_
        replace HF := HF.put 39 (.bool true) (by decide) rfl
        generalize hB16_39 : Act.put _ _ _ = A at HF ⊢
        refine anyC_takeD (i := 16) (v := .pointer (some ⟨p, 0, none⟩)) (some 40) rfl rfl (by kernel_rfl) (by kernel_rfl) (by kernel_rfl) (fun c a w => FINQ c a _ _ w) (KL.out _ _ _ M4.out) (by exact yieldsC_moveG (wanted_g 15 true 39 rfl rfl (HF.at (by decide) 0 rfl)) _ rfl (HF.get 16 rfl)) ?_
        replace HF := HF.put 40 (.pointer (some ⟨p, 0, none⟩)) (by decide) rfl
        generalize hB17_40 : Act.put _ _ _ = A at HF ⊢
        refine anyC_takeD (i := 17) (v := .agg c.arr) (some 41) rfl rfl (by kernel_rfl) (by kernel_rfl) (by kernel_rfl) (fun c a w => FINQ c a _ _ w) (KL.out _ _ _ M4.out) (by exact yieldsC_row (C := (BkC c g1 g2 g3 g4 q m k)) (wanted_g 15 true 39 rfl rfl (HF.at (by decide) 1 rfl)) 28 _ rfl g1 (HF.get 18 rfl) 28 _ _ _ (fun W hW => hW.l) Try.underlying28 rfl (by kernel_rfl)) ?_
        replace HF := HF.put 41 (.agg c.arr) (by decide) rfl
        generalize hB18_41 : Act.put _ _ _ = A at HF ⊢
        refine anyC_takeD (i := 18) (v := .int .i64 q) (some 42) rfl rfl (by kernel_rfl) (by kernel_rfl) (by kernel_rfl) (fun c a w => FINQ c a _ _ w) (KL.out _ _ _ M4.out) (by exact yieldsC_int (C := (BkC c g1 g2 g3 g4 q m k)) (wanted_g 15 true 39 rfl rfl (HF.at (by decide) 2 rfl)) _ rfl g2 (HF.get 20 rfl) _ (fun W hW => hW.q)) ?_
        replace HF := HF.put 42 (.int .i64 q) (by decide) rfl
        generalize hB19_42 : Act.put _ _ _ = A at HF ⊢
        refine anyC_takeD (i := 19) (v := .int .i64 m) (some 43) rfl rfl (by kernel_rfl) (by kernel_rfl) (by kernel_rfl) (fun c a w => FINQ c a _ _ w) (KL.out _ _ _ M4.out) (by exact yieldsC_int (C := (BkC c g1 g2 g3 g4 q m k)) (wanted_g 15 true 39 rfl rfl (HF.at (by decide) 3 rfl)) _ rfl g3 (HF.get 22 rfl) _ (fun W hW => hW.m)) ?_
        replace HF := HF.put 43 (.int .i64 m) (by decide) rfl
        generalize hB20_43 : Act.put _ _ _ = A at HF ⊢
        refine anyC_oneK (i := 20) (some 44) (by kernel_rfl) rfl (wanted_g 15 true 39 rfl rfl (HF.at (by decide) 4 rfl)) rfl (fun K hK => ?_)
        refine wp_call4 (v0 := .pointer (some ⟨p, 0, none⟩)) (v1 := .agg c.arr) (v2 := .int .i64 q) (v3 := .int .i64 m) rfl (HF.get 3 rfl) (HF.get 2 rfl) (HF.get 1 rfl) (HF.get 0 rfl) (enters_of Try.func18 (by kernel_rfl) rfl) ?_
        refine (c_Covers HR.out HH.out.toTblIn F4 p kn D4 q m hqw w4 M4.out.view HK.out M4.out.inv).mono ?_
        intro e w5 he
        rcases M4.out.step (More.refl _) HK.out (good_covers HH.out.toTblIn q m) he with ⟨a', hE, rfl, hd', ht', hk'⟩ | ⟨x5, D5, F5, hE, rfl, M5, hq5, hk', hf'⟩
        · exact FIND _ _ HF.1.2 (NEED.out a' w5 _ (R4'.out.symm.trans (bindP_need hE)) hd' ht' (hk' _ _ (NF.out _ _ _ M4.out) B4.out))
        have B5 := Lib.hid (show BoxB g5 w5 b0 from hk' _ _ (NF.out _ _ _ M4.out) B4.out)
        have R5 := Lib.hid ((bindP_ok hE).symm.trans R4'.out)
        have M5 := Lib.hid M5
        clear he hE hk' hf'
        refine hK _ _ (KL.out _ _ _ M5.out) ?_
        clear hK K
        replace HF := HF.put 44 (.bool x5) (by decide) rfl
        generalize hB21_44 : Act.put _ _ _ = A at HF ⊢
        refine anyC_takeD (i := 21) (v := .bool x5) (some 45) rfl rfl (by kernel_rfl) (by kernel_rfl) (by kernel_rfl) (fun c a w => FINQ c a _ _ w) (KL.out _ _ _ M5.out) (by exact yieldsC_pickT (wanted_none rfl) rfl (HF.get 5 rfl) (HF.get 0 rfl)) ?_
        replace HF := HF.put 45 (.bool x5) (by decide) rfl
        generalize hB22_45 : Act.put _ _ _ = A at HF ⊢
        refine anyC_last (i := 22) (by kernel_rfl) (by kernel_rfl) rfl (wanted_none rfl) (fun K hK => ?_)
        refine wp_store_bool rfl g5 (HF.get 27 rfl) x5 (HF.get 0 rfl) _ B5.out ?_
        have MS := M5.out.box (fun _ => rfl) (NF.out _ _ _ M5.out) (.bool x5) B5.out
        have BS := boxB_set B5.out x5
        have NX : bindP (bloopP c.pg c.st q m.toNat q x5) (fun r => bendP c.pg c.st q m x1 r) kn D5 = Rr := R5.out
        exact hK _ _ (KL.out _ _ _ MS) (FINE _ _ ⟨(.pointer (some ⟨p, 0, none⟩)), (.agg c.arr), (.int .i64 x1), (.int .i64 m), (.int .i64 (x1 + m)), (.int .i64 x3), (.bool true), (.bool true), (.pointer (some ⟨p, 0, none⟩)), (.agg c.arr), (.int .i64 q), (.int .i64 k), (.int .i64 x4), (.bool true), (.bool true), (.bool true), (.pointer (some ⟨p, 0, none⟩)), (.agg c.arr), (.int .i64 q), (.int .i64 m), (.bool x5), (.bool x5), x5, D5, F5, by rw [← hB22_45, ← hB21_44, ← hB20_43, ← hB19_42, ← hB18_41, ← hB17_40, ← hB16_39, ← hB15_38, ← hB14_37, ← hB13_35, ← hB12_36, ← hB11_34, ← hB10_33, ← hB9_32, ← hB8_31, ← hB7_30, ← hB6_26, ← hB5_29, ← hB4_28, ← hB3_27, ← hB2_25, ← hB1_24]; rfl, MS, BS, NX⟩)
      · have ez4 : (x4 == k) = false := by simp [z4]
        have R4' := by have := R4.out; rw [if_neg z4] at this; exact this
        clear R4 z4
        refine anyC_takeD (i := 13) (v := .bool false) (some 37) rfl rfl (by kernel_rfl) (by kernel_rfl) (by kernel_rfl) (fun c a w => FINQ c a _ _ w) (KL.out _ _ _ M4.out) (by exact yieldsC_eqI (wanted_g 7 true 31 rfl rfl (HF.at (by decide) 5 rfl)) rfl (HF.get 0 rfl) (HF.get 1 rfl) false ez4) ?_
        replace HF := HF.put 37 (.bool false) (by decide) rfl
        generalize hB14_37 : Act.put _ _ _ = A at HF ⊢
        refine anyC_takeD (i := 14) (v := .bool false) (some 38) rfl rfl (by kernel_rfl) (by kernel_rfl) (by kernel_rfl) (fun c a w => FINQ c a _ _ w) (KL.out _ _ _ M4.out) (by exact yieldsC_pickT (wanted_none rfl) rfl (HF.get 6 rfl) (HF.get 0 rfl)) ?_
        replace HF := HF.put 38 (.bool false) (by decide) rfl
        generalize hB15_38 : Act.put _ _ _ = A at HF ⊢
        refine anyC_takeD (i := 15) (v := .bool false) (some 39) rfl rfl (by kernel_rfl) (by kernel_rfl) (by kernel_rfl) (fun c a w => FINQ c a _ _ w) (KL.out _ _ _ M4.out) (by exact yieldsC_moveG (wanted_none rfl) _ rfl (HF.get 0 rfl)) ?_
        replace HF := HF.put 39 (.bool false) (by decide) rfl
        generalize hB16_39 : Act.put _ _ _ = A at HF ⊢
        refine anyC_takeD (i := 16) (v := undef) (some 40) rfl rfl (by kernel_rfl) (by kernel_rfl) (by kernel_rfl) (fun c a w => FINQ c a _ _ w) (KL.out _ _ _ M4.out) (by exact yieldsC_skip (wanted_gF 15 true 39 rfl rfl (HF.at (by decide) 0 rfl))) ?_
        replace HF := HF.put 40 (undef) (by decide) rfl
        generalize hB17_40 : Act.put _ _ _ = A at HF ⊢
        refine anyC_takeD (i := 17) (v := undef) (some 41) rfl rfl (by kernel_rfl) (by kernel_rfl) (by kernel_rfl) (fun c a w => FINQ c a _ _ w) (KL.out _ _ _ M4.out) (by exact yieldsC_skip (wanted_gF 15 true 39 rfl rfl (HF.at (by decide) 1 rfl))) ?_
        replace HF := HF.put 41 (undef) (by decide) rfl
        generalize hB18_41 : Act.put _ _ _ = A at HF ⊢
        refine anyC_takeD (i := 18) (v := undef) (some 42) rfl rfl (by kernel_rfl) (by kernel_rfl) (by kernel_rfl) (fun c a w => FINQ c a _ _ w) (KL.out _ _ _ M4.out) (by exact yieldsC_skip (wanted_gF 15 true 39 rfl rfl (HF.at (by decide) 2 rfl))) ?_
        replace HF := HF.put 42 (undef) (by decide) rfl
        generalize hB19_42 : Act.put _ _ _ = A at HF ⊢
        refine anyC_takeD (i := 19) (v := undef) (some 43) rfl rfl (by kernel_rfl) (by kernel_rfl) (by kernel_rfl) (fun c a w => FINQ c a _ _ w) (KL.out _ _ _ M4.out) (by exact yieldsC_skip (wanted_gF 15 true 39 rfl rfl (HF.at (by decide) 3 rfl))) ?_
        replace HF := HF.put 43 (undef) (by decide) rfl
        generalize hB20_43 : Act.put _ _ _ = A at HF ⊢
        refine anyC_takeD (i := 20) (v := undef) (some 44) rfl rfl (by kernel_rfl) (by kernel_rfl) (by kernel_rfl) (fun c a w => FINQ c a _ _ w) (KL.out _ _ _ M4.out) (by exact yieldsC_skip (wanted_gF 15 true 39 rfl rfl (HF.at (by decide) 4 rfl))) ?_
        replace HF := HF.put 44 (undef) (by decide) rfl
        generalize hB21_44 : Act.put _ _ _ = A at HF ⊢
        refine anyC_takeD (i := 21) (v := (.bool false)) (some 45) rfl rfl (by kernel_rfl) (by kernel_rfl) (by kernel_rfl) (fun c a w => FINQ c a _ _ w) (KL.out _ _ _ M4.out) (by exact yieldsC_pickF (wanted_none rfl) rfl (HF.get 5 rfl) rfl) ?_
        replace HF := HF.put 45 ((.bool false)) (by decide) rfl
        generalize hB22_45 : Act.put _ _ _ = A at HF ⊢
        refine anyC_last (i := 22) (by kernel_rfl) (by kernel_rfl) rfl (wanted_none rfl) (fun K hK => ?_)
        refine wp_store_bool rfl g5 (HF.get 27 rfl) false (HF.get 0 rfl) _ B4.out ?_
        have MS := M4.out.box (fun _ => rfl) (NF.out _ _ _ M4.out) (.bool false) B4.out
        have BS := boxB_set B4.out false
        have NX : bindP (bloopP c.pg c.st q m.toNat q false) (fun r => bendP c.pg c.st q m x1 r) kn D4 = Rr := R4'
        exact hK _ _ (KL.out _ _ _ MS) (FINE _ _ ⟨(.pointer (some ⟨p, 0, none⟩)), (.agg c.arr), (.int .i64 x1), (.int .i64 m), (.int .i64 (x1 + m)), (.int .i64 x3), (.bool true), (.bool true), (.pointer (some ⟨p, 0, none⟩)), (.agg c.arr), (.int .i64 q), (.int .i64 k), (.int .i64 x4), (.bool false), (.bool false), (.bool false), (undef), (undef), (undef), (undef), (undef), ((.bool false)), false, D4, F4, by rw [← hB22_45, ← hB21_44, ← hB20_43, ← hB19_42, ← hB18_41, ← hB17_40, ← hB16_39, ← hB15_38, ← hB14_37, ← hB13_35, ← hB12_36, ← hB11_34, ← hB10_33, ← hB9_32, ← hB8_31, ← hB7_30, ← hB6_26, ← hB5_29, ← hB4_28, ← hB3_27, ← hB2_25, ← hB1_24]; rfl, MS, BS, NX⟩)
    · have ez : (x3 == x1 + m) = false := by simp [z3]
      have R3' := by have := R3.out; rw [if_neg z3] at this; exact this
      clear R3 z3
      refine anyC_takeD (i := 6) (v := .bool false) (some 30) rfl rfl (by kernel_rfl) (by kernel_rfl) (by kernel_rfl) (fun c a w => FINQ c a _ _ w) (KL.out _ _ _ M3.out) (by exact yieldsC_eqI (wanted_none rfl) rfl (HF.get 0 rfl) (HF.get 1 rfl) false ez) ?_
      replace HF := HF.put 30 (.bool false) (by decide) rfl
      generalize hB7_30 : Act.put _ _ _ = A at HF ⊢
      refine anyC_takeD (i := 7) (v := .bool false) (some 31) rfl rfl (by kernel_rfl) (by kernel_rfl) (by kernel_rfl) (fun c a w => FINQ c a _ _ w) (KL.out _ _ _ M3.out) (by exact yieldsC_moveG (wanted_none rfl) _ rfl (HF.get 0 rfl)) ?_
      replace HF := HF.put 31 (.bool false) (by decide) rfl
      generalize hB8_31 : Act.put _ _ _ = A at HF ⊢
      refine anyC_takeD (i := 8) (v := undef) (some 32) rfl rfl (by kernel_rfl) (by kernel_rfl) (by kernel_rfl) (fun c a w => FINQ c a _ _ w) (KL.out _ _ _ M3.out) (by exact yieldsC_skip (wanted_gF 7 true 31 rfl rfl (HF.at (by decide) 0 rfl))) ?_
      replace HF := HF.put 32 (undef) (by decide) rfl
      generalize hB9_32 : Act.put _ _ _ = A at HF ⊢
      refine anyC_takeD (i := 9) (v := undef) (some 33) rfl rfl (by kernel_rfl) (by kernel_rfl) (by kernel_rfl) (fun c a w => FINQ c a _ _ w) (KL.out _ _ _ M3.out) (by exact yieldsC_skip (wanted_gF 7 true 31 rfl rfl (HF.at (by decide) 1 rfl))) ?_
      replace HF := HF.put 33 (undef) (by decide) rfl
      generalize hB10_33 : Act.put _ _ _ = A at HF ⊢
      refine anyC_takeD (i := 10) (v := undef) (some 34) rfl rfl (by kernel_rfl) (by kernel_rfl) (by kernel_rfl) (fun c a w => FINQ c a _ _ w) (KL.out _ _ _ M3.out) (by exact yieldsC_skip (wanted_gF 7 true 31 rfl rfl (HF.at (by decide) 2 rfl))) ?_
      replace HF := HF.put 34 (undef) (by decide) rfl
      generalize hB11_34 : Act.put _ _ _ = A at HF ⊢
      refine anyC_takeD (i := 12) (v := undef) (some 36) rfl rfl (by kernel_rfl) (by kernel_rfl) (by kernel_rfl) (fun c a w => FINQ c a _ _ w) (KL.out _ _ _ M3.out) (by exact yieldsC_skip (wanted_gF 7 true 31 rfl rfl (HF.at (by decide) 3 rfl))) ?_
      replace HF := HF.put 36 (undef) (by decide) rfl
      generalize hB12_36 : Act.put _ _ _ = A at HF ⊢
      refine anyC_takeD (i := 11) (v := undef) (some 35) rfl rfl (by kernel_rfl) (by kernel_rfl) (by kernel_rfl) (fun c a w => FINQ c a _ _ w) (KL.out _ _ _ M3.out) (by exact yieldsC_skip (wanted_gF 7 true 31 rfl rfl (HF.at (by decide) 4 rfl))) ?_
      replace HF := HF.put 35 (undef) (by decide) rfl
      generalize hB13_35 : Act.put _ _ _ = A at HF ⊢
      refine anyC_takeD (i := 13) (v := undef) (some 37) rfl rfl (by kernel_rfl) (by kernel_rfl) (by kernel_rfl) (fun c a w => FINQ c a _ _ w) (KL.out _ _ _ M3.out) (by exact yieldsC_skip (wanted_gF 7 true 31 rfl rfl (HF.at (by decide) 5 rfl))) ?_
      replace HF := HF.put 37 (undef) (by decide) rfl
      generalize hB14_37 : Act.put _ _ _ = A at HF ⊢
      refine anyC_takeD (i := 14) (v := (.bool false)) (some 38) rfl rfl (by kernel_rfl) (by kernel_rfl) (by kernel_rfl) (fun c a w => FINQ c a _ _ w) (KL.out _ _ _ M3.out) (by exact yieldsC_pickF (wanted_none rfl) rfl (HF.get 6 rfl) rfl) ?_
      replace HF := HF.put 38 ((.bool false)) (by decide) rfl
      generalize hB15_38 : Act.put _ _ _ = A at HF ⊢
      refine anyC_takeD (i := 15) (v := (.bool false)) (some 39) rfl rfl (by kernel_rfl) (by kernel_rfl) (by kernel_rfl) (fun c a w => FINQ c a _ _ w) (KL.out _ _ _ M3.out) (by exact yieldsC_moveG (wanted_none rfl) _ rfl (HF.get 0 rfl)) ?_
      replace HF := HF.put 39 ((.bool false)) (by decide) rfl
      generalize hB16_39 : Act.put _ _ _ = A at HF ⊢
      refine anyC_takeD (i := 16) (v := undef) (some 40) rfl rfl (by kernel_rfl) (by kernel_rfl) (by kernel_rfl) (fun c a w => FINQ c a _ _ w) (KL.out _ _ _ M3.out) (by exact yieldsC_skip (wanted_gF 15 true 39 rfl rfl (HF.at (by decide) 0 rfl))) ?_
      replace HF := HF.put 40 (undef) (by decide) rfl
      generalize hB17_40 : Act.put _ _ _ = A at HF ⊢
      refine anyC_takeD (i := 17) (v := undef) (some 41) rfl rfl (by kernel_rfl) (by kernel_rfl) (by kernel_rfl) (fun c a w => FINQ c a _ _ w) (KL.out _ _ _ M3.out) (by exact yieldsC_skip (wanted_gF 15 true 39 rfl rfl (HF.at (by decide) 1 rfl))) ?_
      replace HF := HF.put 41 (undef) (by decide) rfl
      generalize hB18_41 : Act.put _ _ _ = A at HF ⊢
      refine anyC_takeD (i := 18) (v := undef) (some 42) rfl rfl (by kernel_rfl) (by kernel_rfl) (by kernel_rfl) (fun c a w => FINQ c a _ _ w) (KL.out _ _ _ M3.out) (by exact yieldsC_skip (wanted_gF 15 true 39 rfl rfl (HF.at (by decide) 2 rfl))) ?_
      replace HF := HF.put 42 (undef) (by decide) rfl
      generalize hB19_42 : Act.put _ _ _ = A at HF ⊢
      refine anyC_takeD (i := 19) (v := undef) (some 43) rfl rfl (by kernel_rfl) (by kernel_rfl) (by kernel_rfl) (fun c a w => FINQ c a _ _ w) (KL.out _ _ _ M3.out) (by exact yieldsC_skip (wanted_gF 15 true 39 rfl rfl (HF.at (by decide) 3 rfl))) ?_
      replace HF := HF.put 43 (undef) (by decide) rfl
      generalize hB20_43 : Act.put _ _ _ = A at HF ⊢
      refine anyC_takeD (i := 20) (v := undef) (some 44) rfl rfl (by kernel_rfl) (by kernel_rfl) (by kernel_rfl) (fun c a w => FINQ c a _ _ w) (KL.out _ _ _ M3.out) (by exact yieldsC_skip (wanted_gF 15 true 39 rfl rfl (HF.at (by decide) 4 rfl))) ?_
      replace HF := HF.put 44 (undef) (by decide) rfl
      generalize hB21_44 : Act.put _ _ _ = A at HF ⊢
      refine anyC_takeD (i := 21) (v := (.bool false)) (some 45) rfl rfl (by kernel_rfl) (by kernel_rfl) (by kernel_rfl) (fun c a w => FINQ c a _ _ w) (KL.out _ _ _ M3.out) (by exact yieldsC_pickF (wanted_none rfl) rfl (HF.get 5 rfl) rfl) ?_
      replace HF := HF.put 45 ((.bool false)) (by decide) rfl
      generalize hB22_45 : Act.put _ _ _ = A at HF ⊢
      refine anyC_last (i := 22) (by kernel_rfl) (by kernel_rfl) rfl (wanted_none rfl) (fun K hK => ?_)
      refine wp_store_bool rfl g5 (HF.get 27 rfl) false (HF.get 0 rfl) _ B3.out ?_
      have MS := M3.out.box (fun _ => rfl) (NF.out _ _ _ M3.out) (.bool false) B3.out
      have BS := boxB_set B3.out false
      have NX : bindP (bloopP c.pg c.st q m.toNat q false) (fun r => bendP c.pg c.st q m x1 r) kn D3 = Rr := R3'
      exact hK _ _ (KL.out _ _ _ MS) (FINE _ _ ⟨(.pointer (some ⟨p, 0, none⟩)), (.agg c.arr), (.int .i64 x1), (.int .i64 m), (.int .i64 (x1 + m)), (.int .i64 x3), (.bool false), (.bool false), (undef), (undef), (undef), (undef), (undef), (undef), ((.bool false)), ((.bool false)), (undef), (undef), (undef), (undef), (undef), ((.bool false)), false, D3, F3, by rw [← hB22_45, ← hB21_44, ← hB20_43, ← hB19_42, ← hB18_41, ← hB17_40, ← hB16_39, ← hB15_38, ← hB14_37, ← hB13_35, ← hB12_36, ← hB11_34, ← hB10_33, ← hB9_32, ← hB8_31, ← hB7_30, ← hB6_26, ← hB5_29, ← hB4_28, ← hB3_27, ← hB2_25, ← hB1_24]; rfl, MS, BS, NX⟩)
end Go.Proofs.Ytcjnkadmiflgaaa
