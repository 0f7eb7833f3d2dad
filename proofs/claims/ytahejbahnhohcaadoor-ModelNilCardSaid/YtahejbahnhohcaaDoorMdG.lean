/-
  The landed model: whether words are open.
-/
import Derived.Test.YtahejbahnhohcaaDoorMdF
namespace Go.Proofs.YtahejbahnhohcaaDoor
open Go.RowKit Go.Sort
set_option linter.unusedVariables false
set_option linter.unusedSimpArgs false

theorem openM_of {us wd : Int} {D : List BKV} {a n : Int} (h : ¬ (n < 1 ∨ a < us ∨ wd - a < n)) : openM us wd D a n = (!(atM D (firstM D a)).2 || decide (a + n ≤ (atM D (firstM D a)).1.1)) := by
  unfold openM atM
  rw [if_neg h]
  cases D[firstM D a]? <;> simp

set_option maxRecDepth 100000 in
set_option maxHeartbeats 4000000 in
theorem md_open {F : Nat → Prop} {p : Nat} {c : Cfg} {D : List BKV} {ws : List Int} (a n : Int) (ha : a ≤ 9223372036854775807) (w : World) (h : MdAt w F p c D ws) :
    Calls Tryd.prog 75 #[.pointer (some ⟨p, 0, none⟩), .int .i64 a, .int .i64 n] w (Gives w (.bool (openM c.us c.words D a n))) := by
  obtain ⟨q, g, cap, F1, hp, hb, hr, _⟩ := h.ex
  have HB : Hid (MdB w p c q g ws.length cap) := Lib.hid hp
  have hq0 := HB.out.live
  have FST := Lib.hid (fun W (hW : More w W) => md_first a W (h.more hW))
  have AT := Lib.hid (fun W (hW : More w W) => b_at_any F1 q D (firstM D a) W (hb.more hW))
  have HU := Lib.hid (fun W => y_user h.ok W)
  have HW := Lib.hid (fun W => y_words h.ok W)
  have hus := us_b h.ok
  by_cases c1 : n < 1
  · have HE := Lib.hid (show openM c.us c.words D a n = false by simp [openM, c1])
    have d1 : decide (n < 1) = true := by simpa using c1
    clear c1 hus FST AT HU HW hp hb hr h
    generalize openM c.us c.words D a n = RV at HE ⊢
    go_enter Tryd.func75, Tryd.ntmps75
    go_wp2_with fail
    go_ret
    exact ⟨by rw [HE.out]; rfl, More.refl _⟩
  have d1 : decide (n < 1) = false := by simpa using c1
  by_cases c2 : a < c.us
  · have HE := Lib.hid (show openM c.us c.words D a n = false by simp [openM, c2])
    have d2 : decide (a < c.us) = true := by simpa using c2
    clear c1 c2 hus FST AT HW hp hb hr h
    generalize openM c.us c.words D a n = RV at HE ⊢
    go_enter Tryd.func75, Tryd.ntmps75
    go_wp2_with (refine wpList_load_sub rfl 49 _ rfl p 0 rfl 68 _ c.arr _ _ HB.out (md_lay _ _ _ _ _) Tryd.underlying49 rfl (by kernel_rfl) ?_)
    refine (HU.out _).mono ?_
    rintro e w1 ⟨rfl, h1⟩
    have M1 := Lib.hid h1
    clear h1
    go_wp2_with fail
    go_ret
    exact ⟨by rw [HE.out]; rfl, M1.out⟩
  have d2 : decide (a < c.us) = false := by simpa using c2
  have hs : IntKind.i64.wrap (c.words - a) = c.words - a := wrap_in (by omega) (by omega)
  by_cases c3 : c.words - a < n
  · have HE := Lib.hid (show openM c.us c.words D a n = false by simp [openM, c3])
    have d3 : decide (c.words - a < n) = true := by simpa using c3
    clear c1 c2 c3 hus FST AT hp hb hr h
    generalize openM c.us c.words D a n = RV at HE ⊢
    go_enter Tryd.func75, Tryd.ntmps75
    go_wp2_with (refine wpList_load_sub rfl 49 _ rfl p 0 rfl 68 _ c.arr _ _ HB.out (md_lay _ _ _ _ _) Tryd.underlying49 rfl (by kernel_rfl) ?_)
    refine (HU.out _).mono ?_
    rintro e w1 ⟨rfl, h1⟩
    have HB1 := Lib.hid (HB.out.more h1)
    have M1 := Lib.hid h1
    clear h1
    go_wp2_with (refine wpList_load_sub rfl 49 _ rfl p 0 rfl 68 _ c.arr _ _ HB1.out (md_lay _ _ _ _ _) Tryd.underlying49 rfl (by kernel_rfl) ?_)
    refine (HW.out _).mono ?_
    rintro e w2 ⟨rfl, h2⟩
    have M2 := Lib.hid (M1.out.trans h2)
    clear h2
    go_wp2_with fail
    go_ret
    exact ⟨by rw [HE.out]; rfl, M2.out⟩
  have d3 : decide (c.words - a < n) = false := by simpa using c3
  have hsum : IntKind.i64.wrap (a + n) = a + n := wrap_in (by omega) (by omega)
  have hop := openM_of (D := D) (show ¬ (n < 1 ∨ a < c.us ∨ c.words - a < n) by omega)
  rw [hop]
  have HQ := Lib.hid hq0
  clear hop c1 c2 c3 hus hp hb hr h
  generalize atM D (firstM D a) = y at AT ⊢
  generalize firstM D a = k at FST AT
  obtain ⟨⟨y1, y2, y3⟩, b⟩ := y
  simp only at AT ⊢
  obtain ⟨RV, hRV⟩ : ∃ RV, (!b || decide (a + n ≤ y1)) = RV := ⟨_, rfl⟩
  rw [hRV]
  have HRV : Hid ((b = false → RV = true) ∧ (b = true → RV = decide (a + n ≤ y1))) := Lib.hid ⟨fun h => by subst h; exact hRV.symm, fun h => by subst h; rw [← hRV]; rfl⟩
  clear hRV
  go_enter Tryd.func75, Tryd.ntmps75
  go_wp2_with (refine wpList_load_sub rfl 49 _ rfl p 0 rfl 68 _ c.arr _ _ HB.out (md_lay _ _ _ _ _) Tryd.underlying49 rfl (by kernel_rfl) ?_)
  refine (HU.out _).mono ?_
  rintro e w1 ⟨rfl, h1⟩
  have HB1 := Lib.hid (HB.out.more h1)
  have M1 := Lib.hid h1
  clear h1
  go_wp2_with (refine wpList_load_sub rfl 49 _ rfl p 0 rfl 68 _ c.arr _ _ HB1.out (md_lay _ _ _ _ _) Tryd.underlying49 rfl (by kernel_rfl) ?_)
  refine (HW.out _).mono ?_
  rintro e W0 ⟨rfl, h2⟩
  have M0 := Lib.hid (M1.out.trans h2)
  clear h2
  go_wp2_with fail
  refine wp_region_anyC (fun W => W.cell? ⟨p, 24, none⟩ = some (.pointer (some ⟨q, 0, none⟩))) (by kernel_rfl) ?_
  change anyC _ _ _ _ _ _ _ _ (W0.drewN 1)
  have MQ : Hid (More w (W0.drewN 1)) := Lib.hid (M0.out.trans ((More.refl W0).drewN 1))
  generalize W0.drewN 1 = wq at MQ ⊢
  generalize hA : Act.mk _ _ = A
  have HF : AG 53 A [(0, .pointer (some ⟨p, 0, none⟩)), (1, .int .i64 a), (2, .int .i64 n)] := by
    rw [← hA]
    refine ⟨⟨Nat.le_of_ble_eq_true rfl, rfl⟩, ?_⟩
    intro z hz; simp only [List.mem_cons, List.not_mem_nil, or_false] at hz; rcases hz with rfl | rfl | rfl <;> rfl
  refine anyC_start (fun a' W => ∃ bz : Nat, a' = (Act.put (Act.put (Act.put (Act.put (Act.put (Act.put (Act.put (Act.put (Act.put (Act.put (Act.put (Act.put (Act.put (Act.put (Act.put A (some 33) (.pointer (some ⟨p, 0, none⟩))) (some 34) (.pointer (some ⟨p, 0, none⟩))) (some 35) (.pointer (some ⟨p, 24, none⟩))) (some 36) (.pointer (some ⟨q, 0, none⟩))) (some 37) (.pointer (some ⟨p, 0, none⟩))) (some 38) (.int .i64 a)) (some 39) (.int .i64 (k : Int))) (some 40) (.tuple #[.int .i64 y1, .agg #[.int .i64 y2, .int .i64 y3], .bool b])) (some 32) (.tuple #[.int .i64 y1, .agg #[.int .i64 y2, .int .i64 y3], .bool b])) (some 41) (.int .i64 y1)) (some 42) (.agg #[.int .i64 y2, .int .i64 y3])) (some 43) (.bool b)) (some 8) (.pointer (some ⟨bz, 0, none⟩))) (some 7) (.int .i64 y1)) (some 9) (.bool b)) ∧ W.heap[bz]? = some (.cells #[.int .i64 y2, .int .i64 y3] 65 (0, 0)) ∧ More w W) (fun _ => False) [] (fun a W hd h => h.elim) (fun _ _ _ _ _ h => h) ?_ ?_
  · rintro a1 W ⟨bz, rfl, hz, hM⟩
    rw [← hA]
    clear hA
    have MM := Lib.hid hM
    clear hz hM FST AT
    cases b with
    | false =>
      have HE := Lib.hid (HRV.out.1 rfl)
      clear HRV
      go_simp
      go_wp2_with fail
      go_ret
      exact ⟨by rw [HE.out]; rfl, MM.out⟩
    | true =>
      have HE := Lib.hid (HRV.out.2 rfl)
      clear HRV
      go_simp
      go_wp2_with fail
      go_ret
      exact ⟨by rw [HE.out]; rfl, MM.out⟩
  intro QQ FINE FIND FINQ
  clear hA
  refine anyC_takeD (i := 0) (v := .pointer (some ⟨p, 0, none⟩)) (some 33) rfl rfl (by kernel_rfl) (by kernel_rfl) (by kernel_rfl) (fun c a w => FINQ c a _ _ w) (MQ.out.cell HQ.out) (by exact yieldsC_moveG (wanted_none rfl) _ rfl (HF.get 0 rfl)) ?_
  replace HF := HF.put 33 (.pointer (some ⟨p, 0, none⟩)) (by decide) rfl
  generalize hB1 : Act.put _ _ _ = A at HF ⊢
  refine anyC_takeD (i := 1) (v := .pointer (some ⟨p, 0, none⟩)) (some 34) rfl rfl (by kernel_rfl) (by kernel_rfl) (by kernel_rfl) (fun c a w => FINQ c a _ _ w) (MQ.out.cell HQ.out) (by exact yieldsC_nilp (wanted_none rfl) rfl (HF.get 0 rfl)) ?_
  replace HF := HF.put 34 (.pointer (some ⟨p, 0, none⟩)) (by decide) rfl
  generalize hB2 : Act.put _ _ _ = A at HF ⊢
  refine anyC_takeD (i := 2) (v := .pointer (some ⟨p, 24, none⟩)) (some 35) rfl rfl (by kernel_rfl) (by kernel_rfl) (by kernel_rfl) (fun c a w => FINQ c a _ _ w) (MQ.out.cell HQ.out) (by exact yieldsC_md1 (wanted_none rfl) rfl (HF.get 0 rfl)) ?_
  replace HF := HF.put 35 (.pointer (some ⟨p, 24, none⟩)) (by decide) rfl
  generalize hB3 : Act.put _ _ _ = A at HF ⊢
  refine anyC_takeD (i := 3) (v := .pointer (some ⟨q, 0, none⟩)) (some 36) rfl rfl (by kernel_rfl) (by kernel_rfl) (by kernel_rfl) (fun c a w => FINQ c a _ _ w) (MQ.out.cell HQ.out) (by exact yieldsC_cell (C := (fun W => W.cell? ⟨p, 24, none⟩ = some (.pointer (some ⟨q, 0, none⟩)))) (wanted_none rfl) _ _ rfl p 24 (HF.get 0 rfl) _ _ Tryd.underlying62 rfl (fun W hW => hW)) ?_
  replace HF := HF.put 36 (.pointer (some ⟨q, 0, none⟩)) (by decide) rfl
  generalize hB4 : Act.put _ _ _ = A at HF ⊢
  refine anyC_takeD (i := 4) (v := .pointer (some ⟨p, 0, none⟩)) (some 37) rfl rfl (by kernel_rfl) (by kernel_rfl) (by kernel_rfl) (fun c a w => FINQ c a _ _ w) (MQ.out.cell HQ.out) (by exact yieldsC_moveG (wanted_none rfl) _ rfl (HF.get 4 rfl)) ?_
  replace HF := HF.put 37 (.pointer (some ⟨p, 0, none⟩)) (by decide) rfl
  generalize hB5 : Act.put _ _ _ = A at HF ⊢
  refine anyC_takeD (i := 5) (v := .int .i64 a) (some 38) rfl rfl (by kernel_rfl) (by kernel_rfl) (by kernel_rfl) (fun c a w => FINQ c a _ _ w) (MQ.out.cell HQ.out) (by exact yieldsC_moveG (wanted_none rfl) _ rfl (HF.get 6 rfl)) ?_
  replace HF := HF.put 38 (.int .i64 a) (by decide) rfl
  generalize hB6 : Act.put _ _ _ = A at HF ⊢
  refine anyC_two (i := 6) (j := 12) (some 39) (some 8) (by kernel_rfl) rfl rfl (wanted_none rfl) (wanted_none rfl) rfl rfl (fun K hK => ?_) (fun K hK => ?_)
  · refine wp_call2 rfl (HF.get 1 rfl) (HF.get 0 rfl) (enters_of Tryd.func23 (by kernel_rfl) rfl) ?_
    refine (FST.out _ MQ.out).mono ?_
    rintro e w6 ⟨rfl, h6⟩
    have M6 := Lib.hid (MQ.out.trans h6)
    clear h6
    refine hK _ _ (M6.out.cell HQ.out) ?_
    clear hK K
    replace HF := HF.put 39 (.int .i64 (k : Int)) (by decide) rfl
    generalize hB7 : Act.put _ _ _ = A at HF ⊢
    refine anyC_two (i := 7) (j := 12) (some 40) (some 8) (by kernel_rfl) rfl rfl (wanted_none rfl) (wanted_none rfl) rfl rfl (fun K hK => ?_) (fun K hK => ?_)
    · refine wp_call2 rfl (HF.get 3 rfl) (HF.get 0 rfl) (enters_of Tryd.func22 (by kernel_rfl) rfl) ?_
      refine (AT.out _ M6.out).mono ?_
      rintro e w7 ⟨rfl, h7⟩
      have M7 := Lib.hid (M6.out.trans h7)
      clear h7
      refine hK _ _ (M7.out.cell HQ.out) ?_
      clear hK K
      replace HF := HF.put 40 (.tuple #[.int .i64 y1, .agg #[.int .i64 y2, .int .i64 y3], .bool b]) (by decide) rfl
      generalize hB8 : Act.put _ _ _ = A at HF ⊢
      refine anyC_takeD (i := 8) (v := .tuple #[.int .i64 y1, .agg #[.int .i64 y2, .int .i64 y3], .bool b]) (some 32) rfl rfl (by kernel_rfl) (by kernel_rfl) (by kernel_rfl) (fun c a w => FINQ c a _ _ w) (M7.out.cell HQ.out) (by exact yieldsC_moveG (wanted_none rfl) _ rfl (HF.get 0 rfl)) ?_
      replace HF := HF.put 32 (.tuple #[.int .i64 y1, .agg #[.int .i64 y2, .int .i64 y3], .bool b]) (by decide) rfl
      generalize hB9 : Act.put _ _ _ = A at HF ⊢
      refine anyC_takeD (i := 9) (v := .int .i64 y1) (some 41) rfl rfl (by kernel_rfl) (by kernel_rfl) (by kernel_rfl) (fun c a w => FINQ c a _ _ w) (M7.out.cell HQ.out) (by exact yieldsC_ext (wanted_none rfl) rfl (HF.get 0 rfl) rfl) ?_
      replace HF := HF.put 41 (.int .i64 y1) (by decide) rfl
      generalize hB10 : Act.put _ _ _ = A at HF ⊢
      refine anyC_takeD (i := 10) (v := .agg #[.int .i64 y2, .int .i64 y3]) (some 42) rfl rfl (by kernel_rfl) (by kernel_rfl) (by kernel_rfl) (fun c a w => FINQ c a _ _ w) (M7.out.cell HQ.out) (by exact yieldsC_ext (wanted_none rfl) rfl (HF.get 1 rfl) rfl) ?_
      replace HF := HF.put 42 (.agg #[.int .i64 y2, .int .i64 y3]) (by decide) rfl
      generalize hB11 : Act.put _ _ _ = A at HF ⊢
      refine anyC_takeD (i := 11) (v := .bool b) (some 43) rfl rfl (by kernel_rfl) (by kernel_rfl) (by kernel_rfl) (fun c a w => FINQ c a _ _ w) (M7.out.cell HQ.out) (by exact yieldsC_ext (wanted_none rfl) rfl (HF.get 2 rfl) rfl) ?_
      replace HF := HF.put 43 (.bool b) (by decide) rfl
      generalize hB12 : Act.put _ _ _ = A at HF ⊢
      refine anyC_oneK (i := 12) (some 8) (by kernel_rfl) rfl (wanted_none rfl) rfl (fun K hK => ?_)
      refine wp_alloc_mb rfl ?_
      obtain ⟨w8, e8, h8, m8, _⟩ := entry1 w7 (.cells #[.int .i64 0, .int .i64 0] 65)
      rw [e8]
      have H8 := Lib.hid h8
      have M8 := Lib.hid (M7.out.trans m8)
      have G : w.heap.size ≤ w7.heap.size := M7.out.size
      clear h8 m8 e8
      refine hK _ _ (M8.out.cell HQ.out) ?_
      clear hK K
      replace HF := HF.put 8 (.pointer (some ⟨w7.heap.size, 0, none⟩)) (by decide) rfl
      generalize hB13 : Act.put _ _ _ = A at HF ⊢
      refine anyC_takeD (i := 13) (v := .int .i64 y1) (some 7) rfl rfl (by kernel_rfl) (by kernel_rfl) (by kernel_rfl) (fun c a w => FINQ c a _ _ w) (M8.out.cell HQ.out) (by exact yieldsC_assign (wanted_none rfl) _ rfl (HF.get 3 rfl)) ?_
      replace HF := HF.put 7 (.int .i64 y1) (by decide) rfl
      generalize hB14 : Act.put _ _ _ = A at HF ⊢
      refine anyC_oneK (i := 14) none (by kernel_rfl) rfl (wanted_none rfl) rfl (fun K hK => ?_)
      refine wp_store_row 65 _ _ rfl w7.heap.size _ (HF.get 1 rfl) (HF.get 3 rfl) 65 _ H8.out (by kernel_rfl) rfl (by simp [Value.oneCell']) ?_
      have HE := Lib.hid (setRow_heap w8 w7.heap.size _ #[.int .i64 y2, .int .i64 y3] _ _ H8.out)
      have ME := Lib.hid (M8.out.setRow w7.heap.size #[.int .i64 y2, .int .i64 y3] G)
      refine hK _ _ (ME.out.cell HQ.out) ?_
      clear hK K
      change anyC _ _ _ _ _ _ _ A _
      refine anyC_takeD (i := 15) (v := .bool b) (some 9) rfl rfl (by kernel_rfl) (by kernel_rfl) (by kernel_rfl) (fun c a w => FINQ c a _ _ w) (ME.out.cell HQ.out) (by exact yieldsC_assign (wanted_none rfl) _ rfl (HF.get 2 rfl)) ?_
      replace HF := HF.put 9 (.bool b) (by decide) rfl
      generalize hB15 : Act.put _ _ _ = A at HF ⊢
      exact anyC_done (by kernel_rfl) (FINE _ _ ⟨w7.heap.size, by rw [← hB15, ← hB14, ← hB13, ← hB12, ← hB11, ← hB10, ← hB9, ← hB8, ← hB7, ← hB6, ← hB5, ← hB4, ← hB3, ← hB2, ← hB1] <;> kernel_rfl, HE.out, ME.out⟩)
    · refine wp_alloc_mb rfl ?_
      obtain ⟨w7, e7, h7, m7, _⟩ := entry1 w6 (.cells #[.int .i64 0, .int .i64 0] 65)
      rw [e7]
      have H7 := Lib.hid h7
      have M7 := Lib.hid (M6.out.trans m7)
      have G : w.heap.size ≤ w6.heap.size := M6.out.size
      clear h7 m7 e7
      refine hK _ _ (M7.out.cell HQ.out) ?_
      clear hK K
      replace HF := HF.put 8 (.pointer (some ⟨w6.heap.size, 0, none⟩)) (by decide) rfl
      generalize hB8 : Act.put _ _ _ = A at HF ⊢
      refine anyC_oneK (i := 7) (some 40) (by kernel_rfl) rfl (wanted_none rfl) rfl (fun K hK => ?_)
      refine wp_call2 rfl (HF.get 4 rfl) (HF.get 1 rfl) (enters_of Tryd.func22 (by kernel_rfl) rfl) ?_
      refine (AT.out _ M7.out).mono ?_
      rintro e w8 ⟨rfl, h8⟩
      have M8 := Lib.hid (M7.out.trans h8)
      have H8 := Lib.hid (h8.block H7.out)
      clear h8
      refine hK _ _ (M8.out.cell HQ.out) ?_
      clear hK K
      replace HF := HF.put 40 (.tuple #[.int .i64 y1, .agg #[.int .i64 y2, .int .i64 y3], .bool b]) (by decide) rfl
      generalize hB9 : Act.put _ _ _ = A at HF ⊢
      refine anyC_takeD (i := 8) (v := .tuple #[.int .i64 y1, .agg #[.int .i64 y2, .int .i64 y3], .bool b]) (some 32) rfl rfl (by kernel_rfl) (by kernel_rfl) (by kernel_rfl) (fun c a w => FINQ c a _ _ w) (M8.out.cell HQ.out) (by exact yieldsC_moveG (wanted_none rfl) _ rfl (HF.get 0 rfl)) ?_
      replace HF := HF.put 32 (.tuple #[.int .i64 y1, .agg #[.int .i64 y2, .int .i64 y3], .bool b]) (by decide) rfl
      generalize hB10 : Act.put _ _ _ = A at HF ⊢
      refine anyC_takeD (i := 9) (v := .int .i64 y1) (some 41) rfl rfl (by kernel_rfl) (by kernel_rfl) (by kernel_rfl) (fun c a w => FINQ c a _ _ w) (M8.out.cell HQ.out) (by exact yieldsC_ext (wanted_none rfl) rfl (HF.get 0 rfl) rfl) ?_
      replace HF := HF.put 41 (.int .i64 y1) (by decide) rfl
      generalize hB11 : Act.put _ _ _ = A at HF ⊢
      refine anyC_takeD (i := 10) (v := .agg #[.int .i64 y2, .int .i64 y3]) (some 42) rfl rfl (by kernel_rfl) (by kernel_rfl) (by kernel_rfl) (fun c a w => FINQ c a _ _ w) (M8.out.cell HQ.out) (by exact yieldsC_ext (wanted_none rfl) rfl (HF.get 1 rfl) rfl) ?_
      replace HF := HF.put 42 (.agg #[.int .i64 y2, .int .i64 y3]) (by decide) rfl
      generalize hB12 : Act.put _ _ _ = A at HF ⊢
      refine anyC_takeD (i := 11) (v := .bool b) (some 43) rfl rfl (by kernel_rfl) (by kernel_rfl) (by kernel_rfl) (fun c a w => FINQ c a _ _ w) (M8.out.cell HQ.out) (by exact yieldsC_ext (wanted_none rfl) rfl (HF.get 2 rfl) rfl) ?_
      replace HF := HF.put 43 (.bool b) (by decide) rfl
      generalize hB13 : Act.put _ _ _ = A at HF ⊢
      refine anyC_takeD (i := 13) (v := .int .i64 y1) (some 7) rfl rfl (by kernel_rfl) (by kernel_rfl) (by kernel_rfl) (fun c a w => FINQ c a _ _ w) (M8.out.cell HQ.out) (by exact yieldsC_assign (wanted_none rfl) _ rfl (HF.get 2 rfl)) ?_
      replace HF := HF.put 7 (.int .i64 y1) (by decide) rfl
      generalize hB14 : Act.put _ _ _ = A at HF ⊢
      refine anyC_oneK (i := 14) none (by kernel_rfl) rfl (wanted_none rfl) rfl (fun K hK => ?_)
      refine wp_store_row 65 _ _ rfl w6.heap.size _ (HF.get 6 rfl) (HF.get 2 rfl) 65 _ H8.out (by kernel_rfl) rfl (by simp [Value.oneCell']) ?_
      have HE := Lib.hid (setRow_heap w8 w6.heap.size _ #[.int .i64 y2, .int .i64 y3] _ _ H8.out)
      have ME := Lib.hid (M8.out.setRow w6.heap.size #[.int .i64 y2, .int .i64 y3] G)
      refine hK _ _ (ME.out.cell HQ.out) ?_
      clear hK K
      change anyC _ _ _ _ _ _ _ A _
      refine anyC_takeD (i := 15) (v := .bool b) (some 9) rfl rfl (by kernel_rfl) (by kernel_rfl) (by kernel_rfl) (fun c a w => FINQ c a _ _ w) (ME.out.cell HQ.out) (by exact yieldsC_assign (wanted_none rfl) _ rfl (HF.get 1 rfl)) ?_
      replace HF := HF.put 9 (.bool b) (by decide) rfl
      generalize hB15 : Act.put _ _ _ = A at HF ⊢
      exact anyC_done (by kernel_rfl) (FINE _ _ ⟨w6.heap.size, by rw [← hB15, ← hB14, ← hB13, ← hB12, ← hB11, ← hB10, ← hB9, ← hB8, ← hB7, ← hB6, ← hB5, ← hB4, ← hB3, ← hB2, ← hB1] <;> kernel_rfl, HE.out, ME.out⟩)
  · refine wp_alloc_mb rfl ?_
    obtain ⟨w6, e6, h6, m6, _⟩ := entry1 wq (.cells #[.int .i64 0, .int .i64 0] 65)
    rw [e6]
    have H6 := Lib.hid h6
    have M6 := Lib.hid (MQ.out.trans m6)
    have G : w.heap.size ≤ wq.heap.size := MQ.out.size
    clear h6 m6 e6
    refine hK _ _ (M6.out.cell HQ.out) ?_
    clear hK K
    replace HF := HF.put 8 (.pointer (some ⟨wq.heap.size, 0, none⟩)) (by decide) rfl
    generalize hB7 : Act.put _ _ _ = A at HF ⊢
    refine anyC_oneK (i := 6) (some 39) (by kernel_rfl) rfl (wanted_none rfl) rfl (fun K hK => ?_)
    refine wp_call2 rfl (HF.get 2 rfl) (HF.get 1 rfl) (enters_of Tryd.func23 (by kernel_rfl) rfl) ?_
    refine (FST.out _ M6.out).mono ?_
    rintro e w7 ⟨rfl, h7⟩
    have M7 := Lib.hid (M6.out.trans h7)
    have H7 := Lib.hid (h7.block H6.out)
    clear h7
    refine hK _ _ (M7.out.cell HQ.out) ?_
    clear hK K
    replace HF := HF.put 39 (.int .i64 (k : Int)) (by decide) rfl
    generalize hB8 : Act.put _ _ _ = A at HF ⊢
    refine anyC_oneK (i := 7) (some 40) (by kernel_rfl) rfl (wanted_none rfl) rfl (fun K hK => ?_)
    refine wp_call2 rfl (HF.get 4 rfl) (HF.get 0 rfl) (enters_of Tryd.func22 (by kernel_rfl) rfl) ?_
    refine (AT.out _ M7.out).mono ?_
    rintro e w8 ⟨rfl, h8⟩
    have M8 := Lib.hid (M7.out.trans h8)
    have H8 := Lib.hid (h8.block H7.out)
    clear h8
    refine hK _ _ (M8.out.cell HQ.out) ?_
    clear hK K
    replace HF := HF.put 40 (.tuple #[.int .i64 y1, .agg #[.int .i64 y2, .int .i64 y3], .bool b]) (by decide) rfl
    generalize hB9 : Act.put _ _ _ = A at HF ⊢
    refine anyC_takeD (i := 8) (v := .tuple #[.int .i64 y1, .agg #[.int .i64 y2, .int .i64 y3], .bool b]) (some 32) rfl rfl (by kernel_rfl) (by kernel_rfl) (by kernel_rfl) (fun c a w => FINQ c a _ _ w) (M8.out.cell HQ.out) (by exact yieldsC_moveG (wanted_none rfl) _ rfl (HF.get 0 rfl)) ?_
    replace HF := HF.put 32 (.tuple #[.int .i64 y1, .agg #[.int .i64 y2, .int .i64 y3], .bool b]) (by decide) rfl
    generalize hB10 : Act.put _ _ _ = A at HF ⊢
    refine anyC_takeD (i := 9) (v := .int .i64 y1) (some 41) rfl rfl (by kernel_rfl) (by kernel_rfl) (by kernel_rfl) (fun c a w => FINQ c a _ _ w) (M8.out.cell HQ.out) (by exact yieldsC_ext (wanted_none rfl) rfl (HF.get 0 rfl) rfl) ?_
    replace HF := HF.put 41 (.int .i64 y1) (by decide) rfl
    generalize hB11 : Act.put _ _ _ = A at HF ⊢
    refine anyC_takeD (i := 10) (v := .agg #[.int .i64 y2, .int .i64 y3]) (some 42) rfl rfl (by kernel_rfl) (by kernel_rfl) (by kernel_rfl) (fun c a w => FINQ c a _ _ w) (M8.out.cell HQ.out) (by exact yieldsC_ext (wanted_none rfl) rfl (HF.get 1 rfl) rfl) ?_
    replace HF := HF.put 42 (.agg #[.int .i64 y2, .int .i64 y3]) (by decide) rfl
    generalize hB12 : Act.put _ _ _ = A at HF ⊢
    refine anyC_takeD (i := 11) (v := .bool b) (some 43) rfl rfl (by kernel_rfl) (by kernel_rfl) (by kernel_rfl) (fun c a w => FINQ c a _ _ w) (M8.out.cell HQ.out) (by exact yieldsC_ext (wanted_none rfl) rfl (HF.get 2 rfl) rfl) ?_
    replace HF := HF.put 43 (.bool b) (by decide) rfl
    generalize hB13 : Act.put _ _ _ = A at HF ⊢
    refine anyC_takeD (i := 13) (v := .int .i64 y1) (some 7) rfl rfl (by kernel_rfl) (by kernel_rfl) (by kernel_rfl) (fun c a w => FINQ c a _ _ w) (M8.out.cell HQ.out) (by exact yieldsC_assign (wanted_none rfl) _ rfl (HF.get 2 rfl)) ?_
    replace HF := HF.put 7 (.int .i64 y1) (by decide) rfl
    generalize hB14 : Act.put _ _ _ = A at HF ⊢
    refine anyC_oneK (i := 14) none (by kernel_rfl) rfl (wanted_none rfl) rfl (fun K hK => ?_)
    refine wp_store_row 65 _ _ rfl wq.heap.size _ (HF.get 7 rfl) (HF.get 2 rfl) 65 _ H8.out (by kernel_rfl) rfl (by simp [Value.oneCell']) ?_
    have HE := Lib.hid (setRow_heap w8 wq.heap.size _ #[.int .i64 y2, .int .i64 y3] _ _ H8.out)
    have ME := Lib.hid (M8.out.setRow wq.heap.size #[.int .i64 y2, .int .i64 y3] G)
    refine hK _ _ (ME.out.cell HQ.out) ?_
    clear hK K
    change anyC _ _ _ _ _ _ _ A _
    refine anyC_takeD (i := 15) (v := .bool b) (some 9) rfl rfl (by kernel_rfl) (by kernel_rfl) (by kernel_rfl) (fun c a w => FINQ c a _ _ w) (ME.out.cell HQ.out) (by exact yieldsC_assign (wanted_none rfl) _ rfl (HF.get 1 rfl)) ?_
    replace HF := HF.put 9 (.bool b) (by decide) rfl
    generalize hB15 : Act.put _ _ _ = A at HF ⊢
    exact anyC_done (by kernel_rfl) (FINE _ _ ⟨wq.heap.size, by rw [← hB15, ← hB14, ← hB13, ← hB12, ← hB11, ← hB10, ← hB9, ← hB8, ← hB7, ← hB6, ← hB5, ← hB4, ← hB3, ← hB2, ← hB1] <;> kernel_rfl, HE.out, ME.out⟩)
end Go.Proofs.YtahejbahnhohcaaDoor
