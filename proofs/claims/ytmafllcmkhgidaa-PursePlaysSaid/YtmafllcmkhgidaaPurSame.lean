/-
  Layer 13's statement of any steps: a purse has what the document's has.
-/
import Derived.Test.YtmafllcmkhgidaaPurPlW
namespace Go.Proofs.Ytmafllcmkhgidaa
open Go.RowKit Go.Shelf
set_option linter.unusedVariables false
set_option linter.unusedSimpArgs false

theorem en3 (w : World) (o0 o1 o2 : Obj) : ∃ w3, ((w.alloc o0).alloc o1).alloc o2 = w3 ∧ w3.heap[w.heap.size]? = some o0 ∧ w3.heap[w.heap.size + 1]? = some o1 ∧ w3.heap[w.heap.size + 2]? = some o2 ∧ More w w3 ∧ w3.heap.size = w.heap.size + 3 := by
  obtain ⟨w2, e2, h0, h1, m2, s2⟩ := en2 w o0 o1
  rw [e2]
  obtain ⟨w3, e3, h2, m3, s3⟩ := en1 w2 o2
  rw [s2] at h2
  exact ⟨w3, e3, m3.block h0, m3.block h1, h2, m2.trans m3, by omega⟩

set_option maxRecDepth 100000 in
set_option maxHeartbeats 4000000 in
theorem pl_Same (f : Nat → Value) (P : Nat → List Int) (v : Value) (its : List It) (w : World) (hp : Pu w f P) (hi : IR 0 w v its) (he : Eqv P its) (hl : its.length ≤ 1000) (hP : ∀ k, (P k).length ≤ 1000) :
    Calls Try.prog 11 #[.agg (puA f), .agg #[v]] w (Gives w (.bool true)) := by
  obtain ⟨w3, e3, hl1, hl2, hl3, m3, s3⟩ := en3 w (.cells (puA f) 42) (.cells #[v] 30) (.cells #[.slice none 0 0, .slice none 0 0, .slice none 0 0, .slice none 0 0, .slice none 0 0] 27)
  have L1 := Lib.hid hl1
  have L2 := Lib.hid hl2
  have L3 := Lib.hid hl3
  obtain ⟨w4, e4⟩ : ∃ w4, w3.setRow (w.heap.size + 2) (puA f) = w4 := ⟨_, rfl⟩
  have t4 : Turned (fun k => k = w.heap.size + 2) w3 w4 := by rw [← e4]; exact Turned.setRow (Turned.refl _ w3) _ _ (fun _ => rfl)
  have B5 : Hid (w4.heap[w.heap.size + 2]? = some (.cells (puA f) 27 (0, 0))) := Lib.hid (by rw [← e4]; exact setRow_heap _ _ _ _ _ _ hl3)
  have B3 : Hid (w4.heap[w.heap.size + 1]? = some (.cells #[v] 30 (0, 0))) := Lib.hid ((t4.block _ (lt_of_heap hl2) (by omega)).trans hl2)
  have M4 : Hid (More w w4) := Lib.hid (turned_own13 m3 t4 (fun k q => by omega))
  have O5 := Lib.hid hp.all1
  have PL : Hid (∀ W c, More w4 W → Calls Try.prog 22 #[.agg (puA f), .int .i64 c] W (GaveInts W (listR its c))) := Lib.hid fun W c hW => by
    have := p_List f P c W (hp.more (M4.out.trans hW)) (fun k _ => by have := hP k; omega)
    rwa [he.list c] at this
  have RL : Hid (∀ W c, More w4 W → Calls Try.prog 21 #[.agg #[v], .int .i64 c] W (GaveInts W (listR its c))) := Lib.hid fun W c hW => r_List v its c W (hi.more (M4.out.trans hW)) (by omega)
  have PN : Hid (∀ W c, More w4 W → Calls Try.prog 17 #[.agg (puA f), .int .i64 c] W (Gives W (.int .i64 ((listR its c).length)))) := Lib.hid fun W c hW => by
    have := p_Len f P c W (hp.more (M4.out.trans hW))
    rwa [he.len c] at this
  have PA : Hid (∀ W, More w4 W → Calls Try.prog 15 #[.agg (puA f)] W (GaveInts W (allR its 5))) := Lib.hid fun W hW => by
    have := p_All f P W (hp.more (M4.out.trans hW)) (fun k _ => by have := hP k; omega)
    rwa [he.all] at this
  have RA : Hid (∀ W, More w4 W → Calls Try.prog 23 #[.agg #[v]] W (GaveInts W (allR its 5))) := Lib.hid fun W hW => r_All v its W (hi.more (M4.out.trans hW)) (by omega)
  have LN : Hid (∀ c, (listR its c).length ≤ 1000000) := Lib.hid fun c => by have := listR_len its c; omega
  have LA : Hid ((allR its 5).length ≤ 1000000) := Lib.hid (by have := allR_len its 5; omega)
  clear hl1 hl2 hl3 m3 s3 t4 hp hi he hl hP L2
  have hsz : (puA f).size = 5 := rfl
  go_enter Try.func11, Try.ntmps11
  go_wp2_with (first
    | (refine wpList_load_row rfl 27 _ rfl w.heap.size rfl 42 _ _ _ L1.out Try.underlying27 rfl (by kernel_rfl) ?_)
    | (refine wpList_store_row rfl 27 _ _ rfl (w.heap.size + 2) (puA f) rfl rfl 27 _ L3.out (by kernel_rfl) rfl O5.out ?_; rw [e4]; clear e4))
  go_loopw [6] (fun i wr => ∃ z : Int, -1 ≤ z ∧ z ≤ 6 ∧ i = .int .i64 z ∧ More w4 wr) (fun i _ => (6 - intOf i).toNat)
  case atStart => exact ⟨-1, by omega, by omega, rfl, More.refl _⟩
  case round =>
    obtain ⟨z, hz1, hz2, rfl, ht⟩ := hrel
    have HT := Lib.hid ht
    have B5 := Lib.hid (ht.block B5.out)
    have B3 := Lib.hid (ht.block B3.out)
    have PL := Lib.hid (fun W c (hW : More wr W) => PL.out W c (HT.out.trans hW))
    have RL := Lib.hid (fun W c (hW : More wr W) => RL.out W c (HT.out.trans hW))
    have PN := Lib.hid (fun W c (hW : More wr W) => PN.out W c (HT.out.trans hW))
    have PA := Lib.hid (fun W (hW : More wr W) => PA.out W (HT.out.trans hW))
    have RA := Lib.hid (fun W (hW : More wr W) => RA.out W (HT.out.trans hW))
    clear ht
    by_cases h5 : z ≤ 5
    · have d0 : decide (z ≤ 5) = true := by simp [h5]
      obtain ⟨nl, hnl⟩ : ∃ nl, (listR its z).length = nl := ⟨_, rfl⟩
      have NL := Lib.hid hnl
      have PN := Lib.hid (fun W (hW : More wr W) => PN.out W z hW)
      rw [hnl] at PN
      clear hnl hz2
      go_wp2_with fail
      clear d0
      refine wp_region_anyC (More wr) (by kernel_rfl) ?_
      change anyC _ _ _ _ _ _ _ _ (wr.drewN 1)
      have MR : Hid (More wr (wr.drewN 1)) := Lib.hid ((More.refl wr).drewN 1)
      generalize wr.drewN 1 = wq at MR ⊢
      generalize hA : Act.mk _ _ = A
      have HF : AG 36 A [(3, .pointer (some ⟨w.heap.size + 1, 0, none⟩)), (5, .pointer (some ⟨w.heap.size + 2, 0, none⟩)), (6, .int .i64 z)] := by
        rw [← hA]
        refine ⟨⟨Nat.le_of_ble_eq_true rfl, rfl⟩, ?_⟩
        intro z hz; simp only [List.mem_cons, List.not_mem_nil, or_false] at hz; rcases hz with rfl | rfl | rfl <;> rfl
      refine anyC_start (fun a W => ∃ (u13 u14 u16 u17 u15 u18 u19 u20 u21 u22 u23 u25 u26 u24 u27 u28 u29 : Value), a = (Act.put (Act.put (Act.put (Act.put (Act.put (Act.put (Act.put (Act.put (Act.put (Act.put (Act.put (Act.put (Act.put (Act.put (Act.put (Act.put (Act.put (Act.put A (some 13) u13) (some 14) u14) (some 16) u16) (some 17) u17) (some 15) u15) (some 18) u18) (some 19) u19) (some 20) u20) (some 21) u21) (some 22) u22) (some 23) u23) (some 25) u25) (some 26) u26) (some 24) u24) (some 27) u27) (some 28) u28) (some 29) u29) (some 30) (.bool false)) ∧ More wr W) (fun _ => False) [] (fun a W hd h => h.elim) (fun _ _ _ _ _ h => h) ?_ ?_
      · skip
        rintro a9 wa ⟨u13, u14, u16, u17, u15, u18, u19, u20, u21, u22, u23, u25, u26, u24, u27, u28, u29, rfl, MS⟩
        rw [← hA]
        replace MS := Lib.hid (HT.out.trans MS)
        clear HF hA MR B5 B3 PL RL PN LN NL HT
        go_simp
        go_wp2_with fail
        go_roundw
        case rel => exact ⟨z + 1, by omega, by omega, by go_num, MS.out⟩
        case measure => simp [intOf]; omega
      intro QQ FINE FIND FINQ
      clear hA
      refine anyC_takeD (i := 0) (v := .agg (puA f)) (some 13) rfl rfl (by kernel_rfl) (by kernel_rfl) (by kernel_rfl) (fun c a w => FINQ c a _ _ w) MR.out (by exact yieldsC_row (C := More wr) (wanted_none rfl) 27 _ rfl (w.heap.size + 2) (HF.get 1 rfl) 27 _ _ _ (fun W hW => hW.block B5.out) Try.underlying27 rfl (by kernel_rfl)) ?_
      replace HF := HF.put 13 (.agg (puA f)) (by decide) rfl
      generalize hB1_13 : Act.put _ _ _ = A at HF ⊢
      refine anyC_takeD (i := 1) (v := .int .i64 z) (some 14) rfl rfl (by kernel_rfl) (by kernel_rfl) (by kernel_rfl) (fun c a w => FINQ c a _ _ w) MR.out (by exact yieldsC_moveG (wanted_none rfl) _ rfl (HF.get 3 rfl)) ?_
      replace HF := HF.put 14 (.int .i64 z) (by decide) rfl
      generalize hB2_14 : Act.put _ _ _ = A at HF ⊢
      refine anyC_takeD (i := 3) (v := .agg #[v]) (some 16) rfl rfl (by kernel_rfl) (by kernel_rfl) (by kernel_rfl) (fun c a w => FINQ c a _ _ w) MR.out (by exact yieldsC_row (C := More wr) (wanted_none rfl) 30 _ rfl (w.heap.size + 1) (HF.get 2 rfl) 30 _ _ _ (fun W hW => hW.block B3.out) Try.underlying30 rfl (by kernel_rfl)) ?_
      replace HF := HF.put 16 (.agg #[v]) (by decide) rfl
      generalize hB3_16 : Act.put _ _ _ = A at HF ⊢
      refine anyC_takeD (i := 4) (v := .int .i64 z) (some 17) rfl rfl (by kernel_rfl) (by kernel_rfl) (by kernel_rfl) (fun c a w => FINQ c a _ _ w) MR.out (by exact yieldsC_moveG (wanted_none rfl) _ rfl (HF.get 5 rfl)) ?_
      replace HF := HF.put 17 (.int .i64 z) (by decide) rfl
      generalize hB4_17 : Act.put _ _ _ = A at HF ⊢
      refine anyC_oneK (i := 2) (some 15) (by kernel_rfl) rfl (wanted_none rfl) rfl (fun K hK => ?_)
      refine wp_call2 (v0 := .agg (puA f)) (v1 := .int .i64 z) rfl (HF.get 3 rfl) (HF.get 2 rfl) (enters_of Try.func22 (by kernel_rfl) rfl) ?_
      refine (PL.out _ z MR.out).mono ?_
      rintro e x1 ⟨v1, rfl, h1, m1⟩
      have R1 := Lib.hid h1
      clear h1
      have M1 := Lib.hid (MR.out.trans m1)
      refine hK _ _ M1.out ?_
      clear hK K
      replace HF := HF.put 15 (v1) (by decide) rfl
      generalize hB5_15 : Act.put _ _ _ = A at HF ⊢
      refine anyC_oneK (i := 5) (some 18) (by kernel_rfl) rfl (wanted_none rfl) rfl (fun K hK => ?_)
      refine wp_call2 (v0 := .agg #[v]) (v1 := .int .i64 z) rfl (HF.get 2 rfl) (HF.get 1 rfl) (enters_of Try.func21 (by kernel_rfl) rfl) ?_
      refine (RL.out _ z M1.out).mono ?_
      rintro e x2 ⟨v2, rfl, h2, m2⟩
      have R2 := Lib.hid h2
      clear h2
      have M2 := Lib.hid (M1.out.trans m2)
      refine hK _ _ M2.out ?_
      clear hK K
      replace HF := HF.put 18 (v2) (by decide) rfl
      generalize hB6_18 : Act.put _ _ _ = A at HF ⊢
      refine anyC_oneK (i := 6) (some 19) (by kernel_rfl) rfl (wanted_none rfl) rfl (fun K hK => ?_)
      refine wp_call2 (v0 := v1) (v1 := v2) rfl (HF.get 1 rfl) (HF.get 0 rfl) (enters_of Try.func16 (by kernel_rfl) rfl) ?_
      refine (rows_same (listR its z) _ _ _ _ x2 (LN.out z) (R1.out.more m2) R2.out).mono ?_
      rintro e x3 ⟨rfl, m3⟩
      have M3 := Lib.hid (M2.out.trans m3)
      refine hK _ _ M3.out ?_
      clear hK K
      replace HF := HF.put 19 (.bool true) (by decide) rfl
      generalize hB7_19 : Act.put _ _ _ = A at HF ⊢
      refine anyC_takeD (i := 7) (v := .bool false) (some 20) rfl rfl (by kernel_rfl) (by kernel_rfl) (by kernel_rfl) (fun c a w => FINQ c a _ _ w) M3.out (by exact yieldsC_not (wanted_none rfl) rfl (HF.get 0 rfl)) ?_
      replace HF := HF.put 20 (.bool false) (by decide) rfl
      generalize hB8_20 : Act.put _ _ _ = A at HF ⊢
      refine anyC_takeD (i := 8) (v := .bool false) (some 21) rfl rfl (by kernel_rfl) (by kernel_rfl) (by kernel_rfl) (fun c a w => FINQ c a _ _ w) M3.out (by exact yieldsC_moveG (wanted_none rfl) _ rfl (HF.get 0 rfl)) ?_
      replace HF := HF.put 21 (.bool false) (by decide) rfl
      generalize hB9_21 : Act.put _ _ _ = A at HF ⊢
      refine anyC_takeD (i := 9) (v := .agg (puA f)) (some 22) rfl rfl (by kernel_rfl) (by kernel_rfl) (by kernel_rfl) (fun c a w => FINQ c a _ _ w) M3.out (by exact yieldsC_row (C := More wr) (wanted_g 8 false 21 rfl rfl (HF.at (by decide) 0 rfl)) 27 _ rfl (w.heap.size + 2) (HF.get 10 rfl) 27 _ _ _ (fun W hW => hW.block B5.out) Try.underlying27 rfl (by kernel_rfl)) ?_
      replace HF := HF.put 22 (.agg (puA f)) (by decide) rfl
      generalize hB10_22 : Act.put _ _ _ = A at HF ⊢
      refine anyC_takeD (i := 10) (v := .int .i64 z) (some 23) rfl rfl (by kernel_rfl) (by kernel_rfl) (by kernel_rfl) (fun c a w => FINQ c a _ _ w) M3.out (by exact yieldsC_moveG (wanted_g 8 false 21 rfl rfl (HF.at (by decide) 1 rfl)) _ rfl (HF.get 12 rfl)) ?_
      replace HF := HF.put 23 (.int .i64 z) (by decide) rfl
      generalize hB11_23 : Act.put _ _ _ = A at HF ⊢
      refine anyC_takeD (i := 12) (v := .agg #[v]) (some 25) rfl rfl (by kernel_rfl) (by kernel_rfl) (by kernel_rfl) (fun c a w => FINQ c a _ _ w) M3.out (by exact yieldsC_row (C := More wr) (wanted_g 8 false 21 rfl rfl (HF.at (by decide) 2 rfl)) 30 _ rfl (w.heap.size + 1) (HF.get 11 rfl) 30 _ _ _ (fun W hW => hW.block B3.out) Try.underlying30 rfl (by kernel_rfl)) ?_
      replace HF := HF.put 25 (.agg #[v]) (by decide) rfl
      generalize hB12_25 : Act.put _ _ _ = A at HF ⊢
      refine anyC_takeD (i := 13) (v := .int .i64 z) (some 26) rfl rfl (by kernel_rfl) (by kernel_rfl) (by kernel_rfl) (fun c a w => FINQ c a _ _ w) M3.out (by exact yieldsC_moveG (wanted_g 8 false 21 rfl rfl (HF.at (by decide) 3 rfl)) _ rfl (HF.get 14 rfl)) ?_
      replace HF := HF.put 26 (.int .i64 z) (by decide) rfl
      generalize hB13_26 : Act.put _ _ _ = A at HF ⊢
      clear m1 m2
      refine anyC_oneK (i := 11) (some 24) (by kernel_rfl) rfl (wanted_g 8 false 21 rfl rfl (HF.at (by decide) 4 rfl)) rfl (fun K hK => ?_)
      refine wp_call2 (v0 := .agg (puA f)) (v1 := .int .i64 z) rfl (HF.get 3 rfl) (HF.get 2 rfl) (enters_of Try.func17 (by kernel_rfl) rfl) ?_
      refine (PN.out _ M3.out).mono ?_
      rintro e x4 ⟨rfl, m4⟩
      have M4 := Lib.hid (M3.out.trans m4)
      refine hK _ _ M4.out ?_
      clear hK K
      replace HF := HF.put 24 (.int .i64 (nl : Int)) (by decide) rfl
      generalize hB14_24 : Act.put _ _ _ = A at HF ⊢
      refine anyC_oneK (i := 14) (some 27) (by kernel_rfl) rfl (wanted_g 8 false 21 rfl rfl (HF.at (by decide) 5 rfl)) rfl (fun K hK => ?_)
      refine wp_call2 (v0 := .agg #[v]) (v1 := .int .i64 z) rfl (HF.get 2 rfl) (HF.get 1 rfl) (enters_of Try.func21 (by kernel_rfl) rfl) ?_
      refine (RL.out _ z M4.out).mono ?_
      rintro e x5 ⟨v5, rfl, h5, m5⟩
      have R5 := Lib.hid h5
      obtain ⟨a5, c5, hv5, _⟩ := h5.reads
      rw [NL.out] at hv5
      subst hv5
      clear h5
      have M5 := Lib.hid (M4.out.trans m5)
      refine hK _ _ M5.out ?_
      clear hK K
      replace HF := HF.put 27 (.slice a5 nl c5) (by decide) rfl
      generalize hB15_27 : Act.put _ _ _ = A at HF ⊢
      refine anyC_takeD (i := 15) (v := .int .i64 (nl : Int)) (some 28) rfl rfl (by kernel_rfl) (by kernel_rfl) (by kernel_rfl) (fun c a w => FINQ c a _ _ w) M5.out (by exact (Or.inl ⟨(wanted_g 8 false 21 rfl rfl (HF.at (by decide) 6 rfl)), fun W hW => by have h5 := (HF.getD 0 rfl); go_simp⟩)) ?_
      replace HF := HF.put 28 (.int .i64 (nl : Int)) (by decide) rfl
      generalize hB16_28 : Act.put _ _ _ = A at HF ⊢
      refine anyC_takeD (i := 16) (v := .bool false) (some 29) rfl rfl (by kernel_rfl) (by kernel_rfl) (by kernel_rfl) (fun c a w => FINQ c a _ _ w) M5.out (by exact yieldsC_neqI (wanted_g 8 false 21 rfl rfl (HF.at (by decide) 7 rfl)) rfl (HF.get 2 rfl) (HF.get 0 rfl) false (by simp)) ?_
      replace HF := HF.put 29 (.bool false) (by decide) rfl
      generalize hB17_29 : Act.put _ _ _ = A at HF ⊢
      refine anyC_takeD (i := 17) (v := .bool false) (some 30) rfl rfl (by kernel_rfl) (by kernel_rfl) (by kernel_rfl) (fun c a w => FINQ c a _ _ w) M5.out (by exact yieldsC_pickF (wanted_none rfl) rfl (HF.get 8 rfl) (HF.get 0 rfl)) ?_
      replace HF := HF.put 30 (.bool false) (by decide) rfl
      generalize hB18_30 : Act.put _ _ _ = A at HF ⊢
      exact anyC_done (by kernel_rfl) (FINE _ _ ⟨(.agg (puA f)), (.int .i64 z), (.agg #[v]), (.int .i64 z), (v1), (v2), (.bool true), (.bool false), (.bool false), (.agg (puA f)), (.int .i64 z), (.agg #[v]), (.int .i64 z), (.int .i64 (nl : Int)), (.slice a5 nl c5), (.int .i64 (nl : Int)), (.bool false), by rw [← hB18_30, ← hB17_29, ← hB16_28, ← hB15_27, ← hB14_24, ← hB13_26, ← hB12_25, ← hB11_23, ← hB10_22, ← hB9_21, ← hB8_20, ← hB7_19, ← hB6_18, ← hB5_15, ← hB4_17, ← hB3_16, ← hB2_14, ← hB1_13], M5.out⟩)
    · have d0 : decide (z ≤ 5) = false := by simp; omega
      have M4 := Lib.hid (M4.out.trans HT.out)
      clear hz1 hz2 h5
      go_wp2_with fail
      clear d0
      refine wp_region_anyC (More wr) (by kernel_rfl) ?_
      change anyC _ _ _ _ _ _ _ _ (wr.drewN 1)
      have MR : Hid (More wr (wr.drewN 1)) := Lib.hid ((More.refl wr).drewN 1)
      generalize wr.drewN 1 = wq at MR ⊢
      generalize hA : Act.mk _ _ = A
      have HF : AG 36 A [(3, .pointer (some ⟨w.heap.size + 1, 0, none⟩)), (5, .pointer (some ⟨w.heap.size + 2, 0, none⟩))] := by
        rw [← hA]
        refine ⟨⟨Nat.le_of_ble_eq_true rfl, rfl⟩, ?_⟩
        intro z hz; simp only [List.mem_cons, List.not_mem_nil, or_false] at hz; rcases hz with rfl | rfl <;> rfl
      refine anyC_start (fun a W => a.eval (.tmp 4) = .bool true ∧ a.defers = [] ∧ More wr W) (fun _ => False) [] (fun a W hd h => h.elim) (fun _ _ _ _ _ h => h) ?_ ?_
      · skip
        rintro a9 wa ⟨hs, hd, MS⟩
        replace MS := Lib.hid (M4.out.trans MS)
        clear HF hA MR
        obtain ⟨ts, ds⟩ := a9
        simp only [Act.eval] at hs
        obtain rfl : ds = [] := hd
        go_wp2_with fail
        refine bodyPost_ret (v := .bool true) ((results_tmp (t := 4) Try.results11 _ _ _).trans (by rw [hs])) rfl ⟨rfl, MS.out⟩
      intro QQ FINE FIND FINQ
      clear hA
      refine anyC_takeD (i := 0) (v := .agg (puA f)) (some 31) rfl rfl (by kernel_rfl) (by kernel_rfl) (by kernel_rfl) (fun c a w => FINQ c a _ _ w) MR.out (by exact yieldsC_row (C := More wr) (wanted_none rfl) 27 _ rfl (w.heap.size + 2) (HF.get 1 rfl) 27 _ _ _ (fun W hW => hW.block B5.out) Try.underlying27 rfl (by kernel_rfl)) ?_
      replace HF := HF.put 31 (.agg (puA f)) (by decide) rfl
      generalize hB1_31 : Act.put _ _ _ = A at HF ⊢
      refine anyC_takeD (i := 2) (v := .agg #[v]) (some 33) rfl rfl (by kernel_rfl) (by kernel_rfl) (by kernel_rfl) (fun c a w => FINQ c a _ _ w) MR.out (by exact yieldsC_row (C := More wr) (wanted_none rfl) 30 _ rfl (w.heap.size + 1) (HF.get 1 rfl) 30 _ _ _ (fun W hW => hW.block B3.out) Try.underlying30 rfl (by kernel_rfl)) ?_
      replace HF := HF.put 33 (.agg #[v]) (by decide) rfl
      generalize hB2_33 : Act.put _ _ _ = A at HF ⊢
      refine anyC_oneK (i := 1) (some 32) (by kernel_rfl) rfl (wanted_none rfl) rfl (fun K hK => ?_)
      refine wp_callz1 (v0 := .agg (puA f)) rfl (HF.get 1 rfl) (enters_of Try.func15 (by kernel_rfl) rfl) ?_
      refine (PA.out _ MR.out).mono ?_
      rintro e x1 ⟨v1, rfl, h1, m1⟩
      have R1 := Lib.hid h1
      clear h1
      have M1 := Lib.hid (MR.out.trans m1)
      refine hK _ _ M1.out ?_
      clear hK K
      replace HF := HF.put 32 (v1) (by decide) rfl
      generalize hB3_32 : Act.put _ _ _ = A at HF ⊢
      refine anyC_oneK (i := 3) (some 34) (by kernel_rfl) rfl (wanted_none rfl) rfl (fun K hK => ?_)
      refine wp_callz1 (v0 := .agg #[v]) rfl (HF.get 1 rfl) (enters_of Try.func23 (by kernel_rfl) rfl) ?_
      refine (RA.out _ M1.out).mono ?_
      rintro e x2 ⟨v2, rfl, h2, m2⟩
      have R2 := Lib.hid h2
      clear h2
      have M2 := Lib.hid (M1.out.trans m2)
      refine hK _ _ M2.out ?_
      clear hK K
      replace HF := HF.put 34 (v2) (by decide) rfl
      generalize hB4_34 : Act.put _ _ _ = A at HF ⊢
      refine anyC_oneK (i := 4) (some 35) (by kernel_rfl) rfl (wanted_none rfl) rfl (fun K hK => ?_)
      refine wp_call2 (v0 := v1) (v1 := v2) rfl (HF.get 1 rfl) (HF.get 0 rfl) (enters_of Try.func16 (by kernel_rfl) rfl) ?_
      refine (rows_same (allR its 5) _ _ _ _ x2 LA.out (R1.out.more m2) R2.out).mono ?_
      rintro e x3 ⟨rfl, m3⟩
      have M3 := Lib.hid (M2.out.trans m3)
      refine hK _ _ M3.out ?_
      clear hK K
      replace HF := HF.put 35 (.bool true) (by decide) rfl
      generalize hB5_35 : Act.put _ _ _ = A at HF ⊢
      refine anyC_takeD (i := 5) (v := .bool true) (some 4) rfl rfl (by kernel_rfl) (by kernel_rfl) (by kernel_rfl) (fun c a w => FINQ c a _ _ w) M3.out (by exact yieldsC_assign (wanted_none rfl) _ rfl (HF.get 0 rfl)) ?_
      replace HF := HF.put 4 (.bool true) (by decide) rfl
      exact anyC_done (by kernel_rfl) (FINE _ _ ⟨HF.get 0 rfl, HF.1.2, M3.out⟩)
end Go.Proofs.Ytmafllcmkhgidaa
