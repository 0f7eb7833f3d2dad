/-
  Layer 13's statement that what is pushed is popped: the walk.
-/
import Derived.Test.YtmafllcmkhgidaaPurLives
import Derived.Test.YtmafllcmkhgidaaPurBackD
import Derived.IntWalk
namespace Go.Proofs.Ytmafllcmkhgidaa
open Go.RowKit Go.Shelf
set_option linter.unusedVariables false
set_option linter.unusedSimpArgs false

set_option maxRecDepth 100000 in
set_option maxHeartbeats 4000000 in
theorem back13_walk (ad : Option Addr) (n cap : Nat) (l : Nat → Nat → Int) (c a : Int) (w : World) (h : IsFours w ad n l) (hm : n ≤ 9223372036854775807) :
    Calls Try.prog 4 #[.slice ad n cap, .int .i64 c, .int .i64 a] w (Gives w (.bool true)) := by
  by_cases h60 : 60 < n
  · have d0 : decide ((60 : Int) < (n : Int)) = true := by simp; omega
    have LV : Hid (∀ w', Calls Try.prog 5 #[] w' (Gives w' (.bool true))) := Lib.hid lives13_ok
    clear h h60
    go_enter Try.func4, Try.ntmps4
    go_wp2_with fail
    refine (LV.out w).mono ?_
    rintro e w2 ⟨rfl, h2⟩
    have M2 := Lib.hid h2
    clear h2
    go_wp2_with fail
    go_ret
    exact ⟨rfl, M2.out⟩
  have d0 : decide ((60 : Int) < (n : Int)) = false := by simp; omega
  have AF := Lib.hid (pu_after ad n cap l w h (by omega))
  obtain ⟨P, hP⟩ : ∃ P, aftP l n = P := ⟨_, rfl⟩
  have hl : ∀ k, (P k).length ≤ 60 := fun k => by rw [← hP]; have := aft_len l k n; omega
  rw [hP] at AF
  have HL := Lib.hid hl
  have LA : Hid ((allTo P 5).length ≤ 1000000) := Lib.hid (by have := all_len hl; omega)
  clear h h60 hP
  have A7 := Lib.hid (fun (g7 : Nat) => True.intro)
  go_enter Try.func4, Try.ntmps4
  go_wp2_with fail
  refine AF.out.mono ?_
  rintro e w2 ⟨f7, rfl, h2, m2⟩
  obtain ⟨w3, e3, r3, b3, m3, o3⟩ := pu_box w2 h2
  have R3 := Lib.hid r3
  have B3 := Lib.hid b3
  have O3 := Lib.hid o3
  have Q3 := Lib.hid (h2.more m3)
  have M3 := Lib.hid (m2.trans m3)
  have S3 : Hid (w2.heap.size < w3.heap.size) := Lib.hid (lt_of_heap b3)
  clear r3 b3 m3 o3 h2 m2
  go_wp2_with (first
    | (refine wpList_store_row rfl 27 _ _ rfl _ _ rfl rfl 27 _ R3.out (by kernel_rfl) rfl O3.out ?_; rw [e3]; clear e3)
    | (refine wpList_load_row rfl 27 _ rfl _ rfl 27 _ _ _ B3.out Try.underlying27 rfl (by kernel_rfl) ?_))
  refine (p_Push f7 P c a 1000 w3 Q3.out (fun k _ => by have := HL.out k; omega)).mono ?_
  rintro e w4 ⟨f8, rfl, h4, m4⟩
  obtain ⟨w5, e5, r5, b5, m5, o5⟩ := pu_box w4 h4
  have R5 := Lib.hid r5
  have B8 := Lib.hid b5
  have O5 := Lib.hid o5
  have Q8 := Lib.hid (h4.more m5)
  have Q7 := Lib.hid (Q3.out.more (m4.trans m5))
  have B7 := Lib.hid ((m4.trans m5).block B3.out)
  have M8 := Lib.hid (M3.out.trans (m4.trans m5))
  clear r5 b5 m5 o5 h4 m4 A7
  obtain ⟨g7, hg7⟩ : ∃ g7, w2.heap.size = g7 := ⟨_, rfl⟩
  rw [hg7] at B7 ⊢
  have A7 : Hid (∀ W, More w5 W → Calls Try.prog 15 #[.agg (puA f7)] W (GaveInts W (allTo P 5))) := Lib.hid fun W hW => p_All f7 P W (Q7.out.more hW) (fun k _ => by have := HL.out k; omega)
  clear hl hg7 R3 S3 B3 M3 O3
  cases hc : clsB c with
  | false =>
    obtain ⟨p1, p2⟩ := push_not (P := P) (a := a) (l := 1000) hc
    rw [p1]
    rw [p2] at Q8
    have A8 : Hid (∀ W, More w5 W → Calls Try.prog 15 #[.agg (puA f8)] W (GaveInts W (allTo P 5))) := Lib.hid fun W hW => p_All f8 P W (Q8.out.more hW) (fun k _ => by have := HL.out k; omega)
    clear p1 p2
    go_wp2_with (refine wpList_store_row rfl 27 _ _ rfl _ _ rfl rfl 27 _ R5.out (by kernel_rfl) rfl O5.out ?_; rw [e5]; clear e5)
    obtain ⟨g8, hg8⟩ : ∃ g8, w4.heap.size = g8 := ⟨_, rfl⟩
    rw [hg8] at B8 ⊢
    clear hg8 R5 O5 d0
    obtain ⟨wr, rfl⟩ : ∃ wr, wr = w5 := ⟨_, rfl⟩
    by_cases q : c < 0
    · have X1 := Lib.hid (show decide (c < 0) = true by simp [q])
      clear q hc
      refine wp_region_anyC (More wr) (by kernel_rfl) ?_
      change anyC _ _ _ _ _ _ _ _ (wr.drewN 1)
      have MR : Hid (More wr (wr.drewN 1)) := Lib.hid ((More.refl wr).drewN 1)
      generalize wr.drewN 1 = wq at MR ⊢
      generalize hA : Act.mk _ _ = A
      have HF : AG 93 A [(1, .int .i64 c), (7, .pointer (some ⟨g7, 0, none⟩)), (8, .pointer (some ⟨g8, 0, none⟩))] := by
        rw [← hA]
        refine ⟨⟨Nat.le_of_ble_eq_true rfl, rfl⟩, ?_⟩
        intro z hz; simp only [List.mem_cons, List.not_mem_nil, or_false] at hz; rcases hz with rfl | rfl | rfl <;> rfl
      refine anyC_start (fun a W => a.eval (.tmp 6) = .bool true ∧ a.defers = [] ∧ More wr W) (fun _ => False) [] (fun a W hd h => h.elim) (fun _ _ _ _ _ h => h) ?_ ?_
      · skip
        rintro a9 wa ⟨hs, hd, MS⟩
        replace MS := Lib.hid (M8.out.trans MS)
        clear HF hA MR
        obtain ⟨ts, ds⟩ := a9
        simp only [Act.eval] at hs
        obtain rfl : ds = [] := hd
        go_wp2_with fail
        refine bodyPost_ret (v := .bool true) ((results_tmp (t := 6) Try.results4 _ _ _).trans (by rw [hs])) rfl ⟨rfl, MS.out⟩
      intro QQ FINE FIND FINQ
      clear hA
      refine anyC_takeD (i := 0) (v := .int .i64 c) (some 30) rfl rfl (by kernel_rfl) (by kernel_rfl) (by kernel_rfl) (fun c a w => FINQ c a _ _ w) MR.out (by exact yieldsC_moveG (wanted_none rfl) _ rfl (HF.get 0 rfl)) ?_
      replace HF := HF.put 30 (.int .i64 c) (by decide) rfl
      generalize hB1_30 : Act.put _ _ _ = A at HF ⊢
      refine anyC_takeD (i := 1) (v := .bool true) (some 31) rfl rfl (by kernel_rfl) (by kernel_rfl) (by kernel_rfl) (fun c a w => FINQ c a _ _ w) MR.out (by exact yieldsC_lssI (wanted_none rfl) rfl (HF.get 0 rfl) rfl true X1.out) ?_
      replace HF := HF.put 31 (.bool true) (by decide) rfl
      generalize hB2_31 : Act.put _ _ _ = A at HF ⊢
      refine anyC_takeD (i := 2) (v := .bool true) (some 32) rfl rfl (by kernel_rfl) (by kernel_rfl) (by kernel_rfl) (fun c a w => FINQ c a _ _ w) MR.out (by exact yieldsC_moveG (wanted_none rfl) _ rfl (HF.get 0 rfl)) ?_
      replace HF := HF.put 32 (.bool true) (by decide) rfl
      generalize hB3_32 : Act.put _ _ _ = A at HF ⊢
      refine anyC_takeD (i := 3) (v := undef) (some 33) rfl rfl (by kernel_rfl) (by kernel_rfl) (by kernel_rfl) (fun c a w => FINQ c a _ _ w) MR.out (by exact yieldsC_skip (wanted_gF 2 false 32 rfl rfl (HF.at (by decide) 0 rfl))) ?_
      replace HF := HF.put 33 (undef) (by decide) rfl
      generalize hB4_33 : Act.put _ _ _ = A at HF ⊢
      refine anyC_takeD (i := 4) (v := undef) (some 34) rfl rfl (by kernel_rfl) (by kernel_rfl) (by kernel_rfl) (fun c a w => FINQ c a _ _ w) MR.out (by exact yieldsC_skip (wanted_gF 2 false 32 rfl rfl (HF.at (by decide) 1 rfl))) ?_
      replace HF := HF.put 34 (undef) (by decide) rfl
      generalize hB5_34 : Act.put _ _ _ = A at HF ⊢
      refine anyC_takeD (i := 5) (v := (.bool true)) (some 35) rfl rfl (by kernel_rfl) (by kernel_rfl) (by kernel_rfl) (fun c a w => FINQ c a _ _ w) MR.out (by exact yieldsC_pickT (wanted_none rfl) rfl (HF.get 2 rfl) rfl) ?_
      replace HF := HF.put 35 ((.bool true)) (by decide) rfl
      generalize hB6_35 : Act.put _ _ _ = A at HF ⊢
      refine anyC_takeD (i := 6) (v := (.bool true)) (some 36) rfl rfl (by kernel_rfl) (by kernel_rfl) (by kernel_rfl) (fun c a w => FINQ c a _ _ w) MR.out (by exact yieldsC_moveG (wanted_none rfl) _ rfl (HF.get 0 rfl)) ?_
      replace HF := HF.put 36 ((.bool true)) (by decide) rfl
      generalize hB7_36 : Act.put _ _ _ = A at HF ⊢
      refine anyC_takeD (i := 7) (v := .agg (puA f8)) (some 37) rfl rfl (by kernel_rfl) (by kernel_rfl) (by kernel_rfl) (fun c a w => FINQ c a _ _ w) MR.out (by exact yieldsC_row (C := More wr) (wanted_g 6 true 36 rfl rfl (HF.at (by decide) 0 rfl)) 27 _ rfl (g8) (HF.get 9 rfl) 27 _ _ _ (fun W hW => hW.block B8.out) Try.underlying27 rfl (by kernel_rfl)) ?_
      replace HF := HF.put 37 (.agg (puA f8)) (by decide) rfl
      generalize hB8_37 : Act.put _ _ _ = A at HF ⊢
      refine anyC_takeD (i := 9) (v := .agg (puA f7)) (some 39) rfl rfl (by kernel_rfl) (by kernel_rfl) (by kernel_rfl) (fun c a w => FINQ c a _ _ w) MR.out (by exact yieldsC_row (C := More wr) (wanted_g 6 true 36 rfl rfl (HF.at (by decide) 1 rfl)) 27 _ rfl (g7) (HF.get 9 rfl) 27 _ _ _ (fun W hW => hW.block B7.out) Try.underlying27 rfl (by kernel_rfl)) ?_
      replace HF := HF.put 39 (.agg (puA f7)) (by decide) rfl
      generalize hB9_39 : Act.put _ _ _ = A at HF ⊢
      refine anyC_oneK (i := 8) (some 38) (by kernel_rfl) rfl (wanted_g 6 true 36 rfl rfl (HF.at (by decide) 2 rfl)) rfl (fun K hK => ?_)
      refine wp_callz1 (v0 := .agg (puA f8)) rfl (HF.get 1 rfl) (enters_of Try.func15 (by kernel_rfl) rfl) ?_
      refine (A8.out _ MR.out).mono ?_
      rintro e w1 ⟨v1, rfl, h1, m1⟩
      have M1 := Lib.hid (MR.out.trans m1)
      have R1 := Lib.hid h1
      clear h1
      refine hK _ _ M1.out ?_
      clear hK K
      replace HF := HF.put 38 (v1) (by decide) rfl
      generalize hB10_38 : Act.put _ _ _ = A at HF ⊢
      refine anyC_oneK (i := 10) (some 40) (by kernel_rfl) rfl (wanted_g 6 true 36 rfl rfl (HF.at (by decide) 3 rfl)) rfl (fun K hK => ?_)
      refine wp_callz1 (v0 := .agg (puA f7)) rfl (HF.get 1 rfl) (enters_of Try.func15 (by kernel_rfl) rfl) ?_
      refine (A7.out _ M1.out).mono ?_
      rintro e w2 ⟨v2, rfl, h2, m2⟩
      have M2 := Lib.hid (M1.out.trans m2)
      have R2 := Lib.hid h2
      clear h2
      refine hK _ _ M2.out ?_
      clear hK K
      replace HF := HF.put 40 (v2) (by decide) rfl
      generalize hB11_40 : Act.put _ _ _ = A at HF ⊢
      refine anyC_oneK (i := 11) (some 41) (by kernel_rfl) rfl (wanted_g 6 true 36 rfl rfl (HF.at (by decide) 4 rfl)) rfl (fun K hK => ?_)
      refine wp_call2 (v0 := v1) (v1 := v2) rfl (HF.get 1 rfl) (HF.get 0 rfl) (enters_of Try.func16 (by kernel_rfl) rfl) ?_
      refine (rows_same _ _ _ _ _ w2 LA.out (R1.out.more m2) R2.out).mono ?_
      rintro e w3 ⟨rfl, m3⟩
      have M3 := Lib.hid (M2.out.trans m3)
      refine hK _ _ M3.out ?_
      clear hK K m3
      replace HF := HF.put 41 (.bool true) (by decide) rfl
      generalize hB12_41 : Act.put _ _ _ = A at HF ⊢
      refine anyC_takeD (i := 12) (v := .bool true) (some 42) rfl rfl (by kernel_rfl) (by kernel_rfl) (by kernel_rfl) (fun c a w => FINQ c a _ _ w) M3.out (by exact yieldsC_pickT (wanted_none rfl) rfl (HF.get 5 rfl) (HF.get 0 rfl)) ?_
      replace HF := HF.put 42 (.bool true) (by decide) rfl
      generalize hB13_42 : Act.put _ _ _ = A at HF ⊢
      refine anyC_takeD (i := 13) (v := .bool true) (some 43) rfl rfl (by kernel_rfl) (by kernel_rfl) (by kernel_rfl) (fun c a w => FINQ c a _ _ w) M3.out (by exact yieldsC_moveG (wanted_none rfl) _ rfl (HF.get 0 rfl)) ?_
      replace HF := HF.put 43 (.bool true) (by decide) rfl
      generalize hB14_43 : Act.put _ _ _ = A at HF ⊢
      refine anyC_oneK (i := 14) (some 44) (by kernel_rfl) rfl (wanted_g 13 true 43 rfl rfl (HF.at (by decide) 0 rfl)) rfl (fun K hK => ?_)
      refine wp_callz0  rfl  (enters_of Try.func5 (by kernel_rfl) rfl) ?_
      refine (lives13_ok w3).mono ?_
      rintro e w4 ⟨rfl, m4⟩
      have M4 := Lib.hid (M3.out.trans m4)
      refine hK _ _ M4.out ?_
      clear hK K m4
      replace HF := HF.put 44 (.bool true) (by decide) rfl
      generalize hB15_44 : Act.put _ _ _ = A at HF ⊢
      refine anyC_takeD (i := 15) (v := .bool true) (some 45) rfl rfl (by kernel_rfl) (by kernel_rfl) (by kernel_rfl) (fun c a w => FINQ c a _ _ w) M4.out (by exact yieldsC_pickT (wanted_none rfl) rfl (HF.get 1 rfl) (HF.get 0 rfl)) ?_
      replace HF := HF.put 45 (.bool true) (by decide) rfl
      generalize hB16_45 : Act.put _ _ _ = A at HF ⊢
      refine anyC_takeD (i := 16) (v := .bool true) (some 6) rfl rfl (by kernel_rfl) (by kernel_rfl) (by kernel_rfl) (fun c a w => FINQ c a _ _ w) M4.out (by exact yieldsC_assign (wanted_none rfl) _ rfl (HF.get 0 rfl)) ?_
      replace HF := HF.put 6 (.bool true) (by decide) rfl
      exact anyC_done (by kernel_rfl) (FINE _ _ ⟨HF.get 0 rfl, HF.1.2, M4.out⟩)
    · have X1 := Lib.hid (show decide (c < 0) = false by simp [q])
      have X2 := Lib.hid (show decide (4 < c) = true by simp [clsB] at hc; simp; omega)
      clear q hc
      refine wp_region_anyC (More wr) (by kernel_rfl) ?_
      change anyC _ _ _ _ _ _ _ _ (wr.drewN 1)
      have MR : Hid (More wr (wr.drewN 1)) := Lib.hid ((More.refl wr).drewN 1)
      generalize wr.drewN 1 = wq at MR ⊢
      generalize hA : Act.mk _ _ = A
      have HF : AG 93 A [(1, .int .i64 c), (7, .pointer (some ⟨g7, 0, none⟩)), (8, .pointer (some ⟨g8, 0, none⟩))] := by
        rw [← hA]
        refine ⟨⟨Nat.le_of_ble_eq_true rfl, rfl⟩, ?_⟩
        intro z hz; simp only [List.mem_cons, List.not_mem_nil, or_false] at hz; rcases hz with rfl | rfl | rfl <;> rfl
      refine anyC_start (fun a W => a.eval (.tmp 6) = .bool true ∧ a.defers = [] ∧ More wr W) (fun _ => False) [] (fun a W hd h => h.elim) (fun _ _ _ _ _ h => h) ?_ ?_
      · skip
        rintro a9 wa ⟨hs, hd, MS⟩
        replace MS := Lib.hid (M8.out.trans MS)
        clear HF hA MR
        obtain ⟨ts, ds⟩ := a9
        simp only [Act.eval] at hs
        obtain rfl : ds = [] := hd
        go_wp2_with fail
        refine bodyPost_ret (v := .bool true) ((results_tmp (t := 6) Try.results4 _ _ _).trans (by rw [hs])) rfl ⟨rfl, MS.out⟩
      intro QQ FINE FIND FINQ
      clear hA
      refine anyC_takeD (i := 0) (v := .int .i64 c) (some 30) rfl rfl (by kernel_rfl) (by kernel_rfl) (by kernel_rfl) (fun c a w => FINQ c a _ _ w) MR.out (by exact yieldsC_moveG (wanted_none rfl) _ rfl (HF.get 0 rfl)) ?_
      replace HF := HF.put 30 (.int .i64 c) (by decide) rfl
      generalize hB1_30 : Act.put _ _ _ = A at HF ⊢
      refine anyC_takeD (i := 1) (v := .bool false) (some 31) rfl rfl (by kernel_rfl) (by kernel_rfl) (by kernel_rfl) (fun c a w => FINQ c a _ _ w) MR.out (by exact yieldsC_lssI (wanted_none rfl) rfl (HF.get 0 rfl) rfl false X1.out) ?_
      replace HF := HF.put 31 (.bool false) (by decide) rfl
      generalize hB2_31 : Act.put _ _ _ = A at HF ⊢
      refine anyC_takeD (i := 2) (v := .bool false) (some 32) rfl rfl (by kernel_rfl) (by kernel_rfl) (by kernel_rfl) (fun c a w => FINQ c a _ _ w) MR.out (by exact yieldsC_moveG (wanted_none rfl) _ rfl (HF.get 0 rfl)) ?_
      replace HF := HF.put 32 (.bool false) (by decide) rfl
      generalize hB3_32 : Act.put _ _ _ = A at HF ⊢
      refine anyC_takeD (i := 3) (v := .int .i64 c) (some 33) rfl rfl (by kernel_rfl) (by kernel_rfl) (by kernel_rfl) (fun c a w => FINQ c a _ _ w) MR.out (by exact yieldsC_moveG (wanted_g 2 false 32 rfl rfl (HF.at (by decide) 0 rfl)) _ rfl (HF.get 3 rfl)) ?_
      replace HF := HF.put 33 (.int .i64 c) (by decide) rfl
      generalize hB4_33 : Act.put _ _ _ = A at HF ⊢
      refine anyC_takeD (i := 4) (v := .bool true) (some 34) rfl rfl (by kernel_rfl) (by kernel_rfl) (by kernel_rfl) (fun c a w => FINQ c a _ _ w) MR.out (by exact yieldsC_gtrI (wanted_g 2 false 32 rfl rfl (HF.at (by decide) 1 rfl)) rfl (HF.get 0 rfl) rfl true X2.out) ?_
      replace HF := HF.put 34 (.bool true) (by decide) rfl
      generalize hB5_34 : Act.put _ _ _ = A at HF ⊢
      refine anyC_takeD (i := 5) (v := .bool true) (some 35) rfl rfl (by kernel_rfl) (by kernel_rfl) (by kernel_rfl) (fun c a w => FINQ c a _ _ w) MR.out (by exact yieldsC_pickF (wanted_none rfl) rfl (HF.get 2 rfl) (HF.get 0 rfl)) ?_
      replace HF := HF.put 35 (.bool true) (by decide) rfl
      generalize hB6_35 : Act.put _ _ _ = A at HF ⊢
      refine anyC_takeD (i := 6) (v := .bool true) (some 36) rfl rfl (by kernel_rfl) (by kernel_rfl) (by kernel_rfl) (fun c a w => FINQ c a _ _ w) MR.out (by exact yieldsC_moveG (wanted_none rfl) _ rfl (HF.get 0 rfl)) ?_
      replace HF := HF.put 36 (.bool true) (by decide) rfl
      generalize hB7_36 : Act.put _ _ _ = A at HF ⊢
      refine anyC_takeD (i := 7) (v := .agg (puA f8)) (some 37) rfl rfl (by kernel_rfl) (by kernel_rfl) (by kernel_rfl) (fun c a w => FINQ c a _ _ w) MR.out (by exact yieldsC_row (C := More wr) (wanted_g 6 true 36 rfl rfl (HF.at (by decide) 0 rfl)) 27 _ rfl (g8) (HF.get 9 rfl) 27 _ _ _ (fun W hW => hW.block B8.out) Try.underlying27 rfl (by kernel_rfl)) ?_
      replace HF := HF.put 37 (.agg (puA f8)) (by decide) rfl
      generalize hB8_37 : Act.put _ _ _ = A at HF ⊢
      refine anyC_takeD (i := 9) (v := .agg (puA f7)) (some 39) rfl rfl (by kernel_rfl) (by kernel_rfl) (by kernel_rfl) (fun c a w => FINQ c a _ _ w) MR.out (by exact yieldsC_row (C := More wr) (wanted_g 6 true 36 rfl rfl (HF.at (by decide) 1 rfl)) 27 _ rfl (g7) (HF.get 9 rfl) 27 _ _ _ (fun W hW => hW.block B7.out) Try.underlying27 rfl (by kernel_rfl)) ?_
      replace HF := HF.put 39 (.agg (puA f7)) (by decide) rfl
      generalize hB9_39 : Act.put _ _ _ = A at HF ⊢
      refine anyC_oneK (i := 8) (some 38) (by kernel_rfl) rfl (wanted_g 6 true 36 rfl rfl (HF.at (by decide) 2 rfl)) rfl (fun K hK => ?_)
      refine wp_callz1 (v0 := .agg (puA f8)) rfl (HF.get 1 rfl) (enters_of Try.func15 (by kernel_rfl) rfl) ?_
      refine (A8.out _ MR.out).mono ?_
      rintro e w1 ⟨v1, rfl, h1, m1⟩
      have M1 := Lib.hid (MR.out.trans m1)
      have R1 := Lib.hid h1
      clear h1
      refine hK _ _ M1.out ?_
      clear hK K
      replace HF := HF.put 38 (v1) (by decide) rfl
      generalize hB10_38 : Act.put _ _ _ = A at HF ⊢
      refine anyC_oneK (i := 10) (some 40) (by kernel_rfl) rfl (wanted_g 6 true 36 rfl rfl (HF.at (by decide) 3 rfl)) rfl (fun K hK => ?_)
      refine wp_callz1 (v0 := .agg (puA f7)) rfl (HF.get 1 rfl) (enters_of Try.func15 (by kernel_rfl) rfl) ?_
      refine (A7.out _ M1.out).mono ?_
      rintro e w2 ⟨v2, rfl, h2, m2⟩
      have M2 := Lib.hid (M1.out.trans m2)
      have R2 := Lib.hid h2
      clear h2
      refine hK _ _ M2.out ?_
      clear hK K
      replace HF := HF.put 40 (v2) (by decide) rfl
      generalize hB11_40 : Act.put _ _ _ = A at HF ⊢
      refine anyC_oneK (i := 11) (some 41) (by kernel_rfl) rfl (wanted_g 6 true 36 rfl rfl (HF.at (by decide) 4 rfl)) rfl (fun K hK => ?_)
      refine wp_call2 (v0 := v1) (v1 := v2) rfl (HF.get 1 rfl) (HF.get 0 rfl) (enters_of Try.func16 (by kernel_rfl) rfl) ?_
      refine (rows_same _ _ _ _ _ w2 LA.out (R1.out.more m2) R2.out).mono ?_
      rintro e w3 ⟨rfl, m3⟩
      have M3 := Lib.hid (M2.out.trans m3)
      refine hK _ _ M3.out ?_
      clear hK K m3
      replace HF := HF.put 41 (.bool true) (by decide) rfl
      generalize hB12_41 : Act.put _ _ _ = A at HF ⊢
      refine anyC_takeD (i := 12) (v := .bool true) (some 42) rfl rfl (by kernel_rfl) (by kernel_rfl) (by kernel_rfl) (fun c a w => FINQ c a _ _ w) M3.out (by exact yieldsC_pickT (wanted_none rfl) rfl (HF.get 5 rfl) (HF.get 0 rfl)) ?_
      replace HF := HF.put 42 (.bool true) (by decide) rfl
      generalize hB13_42 : Act.put _ _ _ = A at HF ⊢
      refine anyC_takeD (i := 13) (v := .bool true) (some 43) rfl rfl (by kernel_rfl) (by kernel_rfl) (by kernel_rfl) (fun c a w => FINQ c a _ _ w) M3.out (by exact yieldsC_moveG (wanted_none rfl) _ rfl (HF.get 0 rfl)) ?_
      replace HF := HF.put 43 (.bool true) (by decide) rfl
      generalize hB14_43 : Act.put _ _ _ = A at HF ⊢
      refine anyC_oneK (i := 14) (some 44) (by kernel_rfl) rfl (wanted_g 13 true 43 rfl rfl (HF.at (by decide) 0 rfl)) rfl (fun K hK => ?_)
      refine wp_callz0  rfl  (enters_of Try.func5 (by kernel_rfl) rfl) ?_
      refine (lives13_ok w3).mono ?_
      rintro e w4 ⟨rfl, m4⟩
      have M4 := Lib.hid (M3.out.trans m4)
      refine hK _ _ M4.out ?_
      clear hK K m4
      replace HF := HF.put 44 (.bool true) (by decide) rfl
      generalize hB15_44 : Act.put _ _ _ = A at HF ⊢
      refine anyC_takeD (i := 15) (v := .bool true) (some 45) rfl rfl (by kernel_rfl) (by kernel_rfl) (by kernel_rfl) (fun c a w => FINQ c a _ _ w) M4.out (by exact yieldsC_pickT (wanted_none rfl) rfl (HF.get 1 rfl) (HF.get 0 rfl)) ?_
      replace HF := HF.put 45 (.bool true) (by decide) rfl
      generalize hB16_45 : Act.put _ _ _ = A at HF ⊢
      refine anyC_takeD (i := 16) (v := .bool true) (some 6) rfl rfl (by kernel_rfl) (by kernel_rfl) (by kernel_rfl) (fun c a w => FINQ c a _ _ w) M4.out (by exact yieldsC_assign (wanted_none rfl) _ rfl (HF.get 0 rfl)) ?_
      replace HF := HF.put 6 (.bool true) (by decide) rfl
      exact anyC_done (by kernel_rfl) (FINE _ _ ⟨HF.get 0 rfl, HF.1.2, M4.out⟩)
  | true =>
    have po := push_ok (a := a) hc HL.out
    obtain ⟨q1, q2, q3⟩ := pop_push (a := a) po
    have q4 := all_push' (a := a) po
    rw [po]
    have HL8 : Hid (∀ k, (pushP P c a 1000 k).length ≤ 61) := Lib.hid fun k => by have := push_len P c a 1000 k; have := HL.out k; omega
    obtain ⟨P8, hP8⟩ : ∃ P8, pushP P c a 1000 = P8 := ⟨_, rfl⟩
    rw [hP8] at Q8 q1 q2 q3 q4 HL8
    have C10 := Lib.hid (p_Pop f8 P8 c w5 Q8.out (fun k _ => by have := HL8.out k; omega))
    rw [q1, q2, q3] at C10
    have QL := Lib.hid q4
    clear q1 q2 q3 q4 po hc hP8
    go_wp2_with (first
      | (refine wpList_store_row rfl 27 _ _ rfl _ _ rfl rfl 27 _ R5.out (by kernel_rfl) rfl O5.out ?_; rw [e5]; clear e5)
      | (refine wpList_load_row rfl 27 _ rfl _ rfl 27 _ _ _ B8.out Try.underlying27 rfl (by kernel_rfl) ?_))
    obtain ⟨g8, hg8⟩ : ∃ g8, w4.heap.size = g8 := ⟨_, rfl⟩
    rw [hg8] at B8 ⊢
    clear hg8 R5 O5
    refine C10.out.mono ?_
    rintro e w6 ⟨f10, rfl, h6, m6⟩
    obtain ⟨w7, e7, r7, b7, m7, o7⟩ := pu_box w6 h6
    have R7 := Lib.hid r7
    have B10 := Lib.hid b7
    have O7 := Lib.hid o7
    have Q10 := Lib.hid (h6.more m7)
    have N7 := Lib.hid (m6.trans m7)
    clear r7 b7 m7 o7 h6 m6 C10
    have A8 : Hid (∀ W, More w5 W → Calls Try.prog 15 #[.agg (puA f8)] W (GaveInts W (allTo P8 5))) := Lib.hid fun W hW => p_All f8 P8 W (Q8.out.more hW) (fun k _ => by have := HL8.out k; omega)
    go_wp2_with (first
      | (refine wpList_store_row rfl 27 _ _ rfl _ _ rfl rfl 27 _ R7.out (by kernel_rfl) rfl O7.out ?_; rw [e7]; clear e7)
      | (refine wpList_load_row rfl 27 _ rfl _ rfl 27 _ _ _ (N7.out.block B8.out) Try.underlying27 rfl (by kernel_rfl) ?_))
    obtain ⟨g10, hg10⟩ : ∃ g10, w6.heap.size = g10 := ⟨_, rfl⟩
    rw [hg10] at B10 ⊢
    clear hg10 R7 O7
    refine (A8.out w7 N7.out).mono ?_
    have HD : Hid (∀ W k, More w5 W → k < (allTo P8 5).length → Calls Try.prog 12 #[.agg (puA f8), .int .i64 ((allTo P8 5).getD k 0)] W (Gives W (.bool true))) := Lib.hid fun W k hW hk => by
      have := p_Has f8 P8 ((allTo P8 5).getD k 0) W (Q8.out.more hW) (fun k _ => by have := HL8.out k; omega)
      rwa [hasD_mem hk] at this
    obtain ⟨xs, hxs⟩ : ∃ xs, allTo P8 5 = xs := ⟨_, rfl⟩
    rw [hxs] at HD QL ⊢
    rintro e w8 ⟨v8, rfl, h8, m8⟩
    obtain ⟨ax, cx, rfl, hr⟩ := h8.reads
    have HR := Lib.hid hr
    have N8 := Lib.hid (N7.out.trans m8)
    have B10 := Lib.hid (m8.block B10.out)
    have Q10 := Lib.hid (Q10.out.more m8)
    have QW : Hid (IntKind.i64.wrap (((allTo P 5).length : Int) + 1) = ((allTo P 5).length : Int) + 1) := Lib.hid (IntWalk.i64_in _ (by have := LA.out; omega))
    have QE : Hid (((xs.length : Int) == ((allTo P 5).length : Int) + 1) = true) := Lib.hid (by simp [QL.out])
    have hxl : xs.length ≤ 1000001 := by rw [QL.out]; have := LA.out; omega
    clear hxs hr h8 m8 A8 QL HL8 d0
    go_wp2_with fail
    go_loopw [14] (fun i wr => ∃ k : Nat, k ≤ xs.length ∧ i = .int .i64 k ∧ More w8 wr) (fun i _ => xs.length - (intOf i).toNat)
    case atStart => exact ⟨0, Nat.zero_le _, rfl, More.refl _⟩
    case round =>
      obtain ⟨k, hk, rfl, ht⟩ := hrel
      by_cases hlt : k < xs.length
      · obtain ⟨gx, rfl, _, _, hc⟩ := HR.out k hlt
        have x1 := ht.cell (hc k hlt)
        have HS := Lib.hid (fun W (hW : More wr W) => HD.out W k (N8.out.trans (ht.trans hW)) hlt)
        have BW := Lib.hid ((N8.out.trans ht).block B8.out)
        have HT := Lib.hid ht
        obtain ⟨z, hz⟩ : ∃ z, xs.getD k 0 = z := ⟨_, rfl⟩
        rw [hz] at x1 HS
        clear hc ht hz
        go_wp2_with fail
        refine wp_region_more (by kernel_rfl) (by kernel_rfl) ?_
        refine wpQuiet_load_row rfl 27 _ rfl g8 rfl 27 _ _ _ (fun W hW => hW.block BW.out) Try.underlying27 rfl (by kernel_rfl) ?_
        iterate 6
          with_reducible refine wpQuiet_step (fun K hK => ?_)
          go_simp
          first
          | (refine hK _ ?_; clear hK K)
          | (apply Exists.intro
             refine ⟨fun W hW => ?_, hK _ ?_⟩
             first
             | (go_at_call 12; exact Calls.more hW (HS.out W hW))
             | (have c1' := hW.cell x1; go_simp; try rfl)
             clear hK K)
        refine wpQuiet_nil ?_
        intro w9 m9
        have M9 := Lib.hid (HT.out.trans m9)
        clear m9 x1
        go_wp2_with fail
        go_roundw
        case rel => exact ⟨k + 1, by omega, by go_num, M9.out⟩
        case measure => simp [intOf]; omega
      · have e := ht
        have B7 := Lib.hid ((N8.out.trans ht).block B7.out)
        have B8 := Lib.hid ((N8.out.trans ht).block B8.out)
        have B10 := Lib.hid (ht.block B10.out)
        have A7 : Hid (∀ W, More wr W → Calls Try.prog 15 #[.agg (puA f7)] W (GaveInts W (allTo P 5))) := Lib.hid fun W hW => A7.out W ((N8.out.trans e).trans hW)
        have A10 : Hid (∀ W, More wr W → Calls Try.prog 15 #[.agg (puA f10)] W (GaveInts W (allTo P 5))) := Lib.hid fun W hW => p_All f10 P W (Q10.out.more (e.trans hW)) (fun k _ => by have := HL.out k; omega)
        have M8 := Lib.hid (M8.out.trans (N8.out.trans ht))
        have HT := Lib.hid ht
        clear ht e HD
        go_wp2_with fail
        refine wp_region_anyC (More wr) (by kernel_rfl) ?_
        change anyC _ _ _ _ _ _ _ _ (wr.drewN 1)
        have MR : Hid (More wr (wr.drewN 1)) := Lib.hid ((More.refl wr).drewN 1)
        generalize wr.drewN 1 = wq at MR ⊢
        generalize hA : Act.mk _ _ = A
        have HF : AG 93 A [(2, .int .i64 a), (7, .pointer (some ⟨g7, 0, none⟩)), (8, .pointer (some ⟨g8, 0, none⟩)), (10, .pointer (some ⟨g10, 0, none⟩)), (11, .int .i64 a), (12, .bool true), (13, .slice ax xs.length cx)] := by
          rw [← hA]
          refine ⟨⟨Nat.le_of_ble_eq_true rfl, rfl⟩, ?_⟩
          intro z hz; simp only [List.mem_cons, List.not_mem_nil, or_false] at hz; rcases hz with rfl | rfl | rfl | rfl | rfl | rfl | rfl <;> rfl
        refine anyC_start (fun a W => a.eval (.tmp 6) = .bool true ∧ a.defers = [] ∧ More wr W) (fun _ => False) [] (fun a W hd h => h.elim) (fun _ _ _ _ _ h => h) ?_ ?_
        · skip
          rintro a9 wa ⟨hs, hd, MS⟩
          replace MS := Lib.hid (M8.out.trans MS)
          clear HF hA MR
          obtain ⟨ts, ds⟩ := a9
          simp only [Act.eval] at hs
          obtain rfl : ds = [] := hd
          go_wp2_with fail
          refine bodyPost_ret (v := .bool true) ((results_tmp (t := 6) Try.results4 _ _ _).trans (by rw [hs])) rfl ⟨rfl, MS.out⟩
        intro QQ FINE FIND FINQ
        clear hA
        refine anyC_takeD (i := 0) (v := .bool true) (some 68) rfl rfl (by kernel_rfl) (by kernel_rfl) (by kernel_rfl) (fun c a w => FINQ c a _ _ w) MR.out (by exact yieldsC_moveG (wanted_none rfl) _ rfl (HF.get 5 rfl)) ?_
        replace HF := HF.put 68 (.bool true) (by decide) rfl
        generalize hB1_68 : Act.put _ _ _ = A at HF ⊢
        refine anyC_takeD (i := 1) (v := .bool true) (some 69) rfl rfl (by kernel_rfl) (by kernel_rfl) (by kernel_rfl) (fun c a w => FINQ c a _ _ w) MR.out (by exact yieldsC_moveG (wanted_none rfl) _ rfl (HF.get 0 rfl)) ?_
        replace HF := HF.put 69 (.bool true) (by decide) rfl
        generalize hB2_69 : Act.put _ _ _ = A at HF ⊢
        refine anyC_takeD (i := 2) (v := .int .i64 a) (some 70) rfl rfl (by kernel_rfl) (by kernel_rfl) (by kernel_rfl) (fun c a w => FINQ c a _ _ w) MR.out (by exact yieldsC_moveG (wanted_g 1 true 69 rfl rfl (HF.at (by decide) 0 rfl)) _ rfl (HF.get 6 rfl)) ?_
        replace HF := HF.put 70 (.int .i64 a) (by decide) rfl
        generalize hB3_70 : Act.put _ _ _ = A at HF ⊢
        refine anyC_takeD (i := 3) (v := .int .i64 a) (some 71) rfl rfl (by kernel_rfl) (by kernel_rfl) (by kernel_rfl) (fun c a w => FINQ c a _ _ w) MR.out (by exact yieldsC_moveG (wanted_g 1 true 69 rfl rfl (HF.at (by decide) 1 rfl)) _ rfl (HF.get 3 rfl)) ?_
        replace HF := HF.put 71 (.int .i64 a) (by decide) rfl
        generalize hB4_71 : Act.put _ _ _ = A at HF ⊢
        refine anyC_takeD (i := 4) (v := .bool true) (some 72) rfl rfl (by kernel_rfl) (by kernel_rfl) (by kernel_rfl) (fun c a w => FINQ c a _ _ w) MR.out (by exact yieldsC_eqI (wanted_g 1 true 69 rfl rfl (HF.at (by decide) 2 rfl)) rfl (HF.get 1 rfl) (HF.get 0 rfl) true (by simp)) ?_
        replace HF := HF.put 72 (.bool true) (by decide) rfl
        generalize hB5_72 : Act.put _ _ _ = A at HF ⊢
        refine anyC_takeD (i := 5) (v := .bool true) (some 73) rfl rfl (by kernel_rfl) (by kernel_rfl) (by kernel_rfl) (fun c a w => FINQ c a _ _ w) MR.out (by exact yieldsC_pickT (wanted_none rfl) rfl (HF.get 3 rfl) (HF.get 0 rfl)) ?_
        replace HF := HF.put 73 (.bool true) (by decide) rfl
        generalize hB6_73 : Act.put _ _ _ = A at HF ⊢
        refine anyC_takeD (i := 6) (v := .bool true) (some 74) rfl rfl (by kernel_rfl) (by kernel_rfl) (by kernel_rfl) (fun c a w => FINQ c a _ _ w) MR.out (by exact yieldsC_moveG (wanted_none rfl) _ rfl (HF.get 0 rfl)) ?_
        replace HF := HF.put 74 (.bool true) (by decide) rfl
        generalize hB7_74 : Act.put _ _ _ = A at HF ⊢
        refine anyC_takeD (i := 7) (v := .agg (puA f10)) (some 75) rfl rfl (by kernel_rfl) (by kernel_rfl) (by kernel_rfl) (fun c a w => FINQ c a _ _ w) MR.out (by exact yieldsC_row (C := More wr) (wanted_g 6 true 74 rfl rfl (HF.at (by decide) 0 rfl)) 27 _ rfl (g10) (HF.get 10 rfl) 27 _ _ _ (fun W hW => hW.block B10.out) Try.underlying27 rfl (by kernel_rfl)) ?_
        replace HF := HF.put 75 (.agg (puA f10)) (by decide) rfl
        generalize hB8_75 : Act.put _ _ _ = A at HF ⊢
        refine anyC_takeD (i := 9) (v := .agg (puA f7)) (some 77) rfl rfl (by kernel_rfl) (by kernel_rfl) (by kernel_rfl) (fun c a w => FINQ c a _ _ w) MR.out (by exact yieldsC_row (C := More wr) (wanted_g 6 true 74 rfl rfl (HF.at (by decide) 1 rfl)) 27 _ rfl (g7) (HF.get 9 rfl) 27 _ _ _ (fun W hW => hW.block B7.out) Try.underlying27 rfl (by kernel_rfl)) ?_
        replace HF := HF.put 77 (.agg (puA f7)) (by decide) rfl
        generalize hB9_77 : Act.put _ _ _ = A at HF ⊢
        refine anyC_oneK (i := 8) (some 76) (by kernel_rfl) rfl (wanted_g 6 true 74 rfl rfl (HF.at (by decide) 2 rfl)) rfl (fun K hK => ?_)
        refine wp_callz1 (v0 := .agg (puA f10)) rfl (HF.get 1 rfl) (enters_of Try.func15 (by kernel_rfl) rfl) ?_
        refine (A10.out _ MR.out).mono ?_
        rintro e w1 ⟨v1, rfl, h1, m1⟩
        have M1 := Lib.hid (MR.out.trans m1)
        have R1 := Lib.hid h1
        clear h1
        refine hK _ _ M1.out ?_
        clear hK K
        replace HF := HF.put 76 (v1) (by decide) rfl
        generalize hB10_76 : Act.put _ _ _ = A at HF ⊢
        refine anyC_oneK (i := 10) (some 78) (by kernel_rfl) rfl (wanted_g 6 true 74 rfl rfl (HF.at (by decide) 3 rfl)) rfl (fun K hK => ?_)
        refine wp_callz1 (v0 := .agg (puA f7)) rfl (HF.get 1 rfl) (enters_of Try.func15 (by kernel_rfl) rfl) ?_
        refine (A7.out _ M1.out).mono ?_
        rintro e w2 ⟨v2, rfl, h2, m2⟩
        have M2 := Lib.hid (M1.out.trans m2)
        have R2 := Lib.hid h2
        clear h2
        refine hK _ _ M2.out ?_
        clear hK K
        replace HF := HF.put 78 (v2) (by decide) rfl
        generalize hB11_78 : Act.put _ _ _ = A at HF ⊢
        refine anyC_oneK (i := 11) (some 79) (by kernel_rfl) rfl (wanted_g 6 true 74 rfl rfl (HF.at (by decide) 4 rfl)) rfl (fun K hK => ?_)
        refine wp_call2 (v0 := v1) (v1 := v2) rfl (HF.get 1 rfl) (HF.get 0 rfl) (enters_of Try.func16 (by kernel_rfl) rfl) ?_
        refine (rows_same _ _ _ _ _ w2 LA.out (R1.out.more m2) R2.out).mono ?_
        rintro e w3 ⟨rfl, m3⟩
        have M3 := Lib.hid (M2.out.trans m3)
        refine hK _ _ M3.out ?_
        clear hK K m3
        replace HF := HF.put 79 (.bool true) (by decide) rfl
        generalize hB12_79 : Act.put _ _ _ = A at HF ⊢
        refine anyC_takeD (i := 12) (v := .bool true) (some 80) rfl rfl (by kernel_rfl) (by kernel_rfl) (by kernel_rfl) (fun c a w => FINQ c a _ _ w) M3.out (by exact yieldsC_pickT (wanted_none rfl) rfl (HF.get 5 rfl) (HF.get 0 rfl)) ?_
        replace HF := HF.put 80 (.bool true) (by decide) rfl
        generalize hB13_80 : Act.put _ _ _ = A at HF ⊢
        refine anyC_takeD (i := 13) (v := .bool true) (some 81) rfl rfl (by kernel_rfl) (by kernel_rfl) (by kernel_rfl) (fun c a w => FINQ c a _ _ w) M3.out (by exact yieldsC_moveG (wanted_none rfl) _ rfl (HF.get 0 rfl)) ?_
        replace HF := HF.put 81 (.bool true) (by decide) rfl
        generalize hB14_81 : Act.put _ _ _ = A at HF ⊢
        refine anyC_takeD (i := 14) (v := .slice ax xs.length cx) (some 82) rfl rfl (by kernel_rfl) (by kernel_rfl) (by kernel_rfl) (fun c a w => FINQ c a _ _ w) M3.out (by exact yieldsC_moveG (wanted_g 13 true 81 rfl rfl (HF.at (by decide) 0 rfl)) _ rfl (HF.get 20 rfl)) ?_
        replace HF := HF.put 82 (.slice ax xs.length cx) (by decide) rfl
        generalize hB15_82 : Act.put _ _ _ = A at HF ⊢
        refine anyC_takeD (i := 15) (v := .int .i64 (xs.length : Int)) (some 83) rfl rfl (by kernel_rfl) (by kernel_rfl) (by kernel_rfl) (fun c a w => FINQ c a _ _ w) M3.out (by exact (Or.inl ⟨(wanted_g 13 true 81 rfl rfl (HF.at (by decide) 1 rfl)), fun W hW => by have h5 := (HF.getD 0 rfl); go_simp⟩)) ?_
        replace HF := HF.put 83 (.int .i64 (xs.length : Int)) (by decide) rfl
        generalize hB16_83 : Act.put _ _ _ = A at HF ⊢
        refine anyC_takeD (i := 16) (v := .agg (puA f7)) (some 84) rfl rfl (by kernel_rfl) (by kernel_rfl) (by kernel_rfl) (fun c a w => FINQ c a _ _ w) M3.out (by exact yieldsC_row (C := More wr) (wanted_g 13 true 81 rfl rfl (HF.at (by decide) 2 rfl)) 27 _ rfl (g7) (HF.get 17 rfl) 27 _ _ _ (fun W hW => hW.block B7.out) Try.underlying27 rfl (by kernel_rfl)) ?_
        replace HF := HF.put 84 (.agg (puA f7)) (by decide) rfl
        generalize hB17_84 : Act.put _ _ _ = A at HF ⊢
        clear m1 m2
        refine anyC_oneK (i := 17) (some 85) (by kernel_rfl) rfl (wanted_g 13 true 81 rfl rfl (HF.at (by decide) 3 rfl)) rfl (fun K hK => ?_)
        refine wp_callz1 (v0 := .agg (puA f7)) rfl (HF.get 0 rfl) (enters_of Try.func15 (by kernel_rfl) rfl) ?_
        refine (A7.out _ M3.out).mono ?_
        rintro e w5 ⟨v5, rfl, h5, m5⟩
        obtain ⟨ay, cy, rfl, _⟩ := h5.reads
        have M5 := Lib.hid (M3.out.trans m5)
        clear h5 m5
        refine hK _ _ M5.out ?_
        clear hK K
        replace HF := HF.put 85 (.slice ay (allTo P 5).length cy) (by decide) rfl
        generalize hB18_85 : Act.put _ _ _ = A at HF ⊢
        refine anyC_takeD (i := 18) (v := .int .i64 ((allTo P 5).length : Int)) (some 86) rfl rfl (by kernel_rfl) (by kernel_rfl) (by kernel_rfl) (fun c a w => FINQ c a _ _ w) M5.out (by exact (Or.inl ⟨(wanted_g 13 true 81 rfl rfl (HF.at (by decide) 4 rfl)), fun W hW => by have h5 := (HF.getD 0 rfl); go_simp⟩)) ?_
        replace HF := HF.put 86 (.int .i64 ((allTo P 5).length : Int)) (by decide) rfl
        generalize hB19_86 : Act.put _ _ _ = A at HF ⊢
        refine anyC_takeD (i := 19) (v := .int .i64 (((allTo P 5).length : Int) + 1)) (some 87) rfl rfl (by kernel_rfl) (by kernel_rfl) (by kernel_rfl) (fun c a w => FINQ c a _ _ w) M5.out (by exact yieldsC_addI (wanted_g 13 true 81 rfl rfl (HF.at (by decide) 5 rfl)) rfl (HF.get 0 rfl) rfl _ QW.out) ?_
        replace HF := HF.put 87 (.int .i64 (((allTo P 5).length : Int) + 1)) (by decide) rfl
        generalize hB20_87 : Act.put _ _ _ = A at HF ⊢
        refine anyC_takeD (i := 20) (v := .bool true) (some 88) rfl rfl (by kernel_rfl) (by kernel_rfl) (by kernel_rfl) (fun c a w => FINQ c a _ _ w) M5.out (by exact yieldsC_eqI (wanted_g 13 true 81 rfl rfl (HF.at (by decide) 6 rfl)) rfl (HF.get 4 rfl) (HF.get 0 rfl) true QE.out) ?_
        replace HF := HF.put 88 (.bool true) (by decide) rfl
        generalize hB21_88 : Act.put _ _ _ = A at HF ⊢
        refine anyC_takeD (i := 21) (v := .bool true) (some 89) rfl rfl (by kernel_rfl) (by kernel_rfl) (by kernel_rfl) (fun c a w => FINQ c a _ _ w) M5.out (by exact yieldsC_pickT (wanted_none rfl) rfl (HF.get 7 rfl) (HF.get 0 rfl)) ?_
        replace HF := HF.put 89 (.bool true) (by decide) rfl
        generalize hB22_89 : Act.put _ _ _ = A at HF ⊢
        refine anyC_takeD (i := 22) (v := .bool true) (some 90) rfl rfl (by kernel_rfl) (by kernel_rfl) (by kernel_rfl) (fun c a w => FINQ c a _ _ w) M5.out (by exact yieldsC_moveG (wanted_none rfl) _ rfl (HF.get 0 rfl)) ?_
        replace HF := HF.put 90 (.bool true) (by decide) rfl
        generalize hB23_90 : Act.put _ _ _ = A at HF ⊢
        refine anyC_oneK (i := 23) (some 91) (by kernel_rfl) rfl (wanted_g 22 true 90 rfl rfl (HF.at (by decide) 0 rfl)) rfl (fun K hK => ?_)
        refine wp_callz0  rfl  (enters_of Try.func5 (by kernel_rfl) rfl) ?_
        refine (lives13_ok w5).mono ?_
        rintro e w6 ⟨rfl, m6⟩
        have M6 := Lib.hid (M5.out.trans m6)
        refine hK _ _ M6.out ?_
        clear hK K m6
        replace HF := HF.put 91 (.bool true) (by decide) rfl
        generalize hB24_91 : Act.put _ _ _ = A at HF ⊢
        refine anyC_takeD (i := 24) (v := .bool true) (some 92) rfl rfl (by kernel_rfl) (by kernel_rfl) (by kernel_rfl) (fun c a w => FINQ c a _ _ w) M6.out (by exact yieldsC_pickT (wanted_none rfl) rfl (HF.get 1 rfl) (HF.get 0 rfl)) ?_
        replace HF := HF.put 92 (.bool true) (by decide) rfl
        generalize hB25_92 : Act.put _ _ _ = A at HF ⊢
        refine anyC_takeD (i := 25) (v := .bool true) (some 6) rfl rfl (by kernel_rfl) (by kernel_rfl) (by kernel_rfl) (fun c a w => FINQ c a _ _ w) M6.out (by exact yieldsC_assign (wanted_none rfl) _ rfl (HF.get 0 rfl)) ?_
        replace HF := HF.put 6 (.bool true) (by decide) rfl
        exact anyC_done (by kernel_rfl) (FINE _ _ ⟨HF.get 0 rfl, HF.1.2, M6.out⟩)
end Go.Proofs.Ytmafllcmkhgidaa
