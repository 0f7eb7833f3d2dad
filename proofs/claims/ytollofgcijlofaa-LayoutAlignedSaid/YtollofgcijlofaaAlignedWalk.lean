/-
  The walk of LayoutAligned.
-/
import Derived.Test.YtollofgcijlofaaLayLives
import Derived.Test.YtollofgcijlofaaLayWithin
namespace Go.Proofs.Ytollofgcijlofaa
open Go.RowKit
set_option linter.unusedVariables false
set_option linter.unusedSimpArgs false

variable (y0 y1 y2 y3 y4 y5 y6 y7 y8 y9 y10 wk cp pg st tr wt ck pr ca bi ba : Int) (p n : Int) (w : World)

set_option maxRecDepth 100000 in
set_option maxHeartbeats 32000000 in
theorem aligned_core0 (R : CfgOk wk cp pg st tr wt ck pr ca bi ba) (HS : Hid (∀ W, Calls Try.prog 14 #[.agg #[.int .i64 y0, .int .i64 y1, .int .i64 y2, .int .i64 y3, .int .i64 y4, .int .i64 y5, .int .i64 y6, .int .i64 y7, .int .i64 y8, .int .i64 y9, .int .i64 y10]] W (Gives W (.agg #[.int .i64 wk, .int .i64 cp, .int .i64 pg, .int .i64 st, .int .i64 tr, .int .i64 wt, .int .i64 ck, .int .i64 pr, .int .i64 ca, .int .i64 bi, .int .i64 ba])))) (P N A L : Int) (hr : P.tmod 4 = 0) (ha128 : A.tmod 128 = 0)
    (hP : IntKind.i64.wrap ((IntKind.u64.wrap p).tmod pg) = P) (hN : IntKind.i64.wrap ((IntKind.u64.wrap n).tmod 32) = N) (ha32 : A.tmod 32 = 0)
    (aN : IntKind.i64.wrap (A + N) = A + N) (lN : IntKind.i64.wrap (L + N) = L + N) (au : decide (A < userV cp pg st ca bi) = false) (aw : decide (A + N < wordsV cp pg st ca bi) = true)
    (HA : Hid (∀ W, Calls Try.prog 31 #[.agg (layArr wk cp pg st tr wt ck pr ca bi ba (startsV cp pg st ca bi)), .int .i64 P] W (Gives W (.int .i64 A))))
    (HP : Hid (∀ W, Calls Try.prog 33 #[.agg (layArr wk cp pg st tr wt ck pr ca bi ba (startsV cp pg st ca bi)), .int .i64 (A + N)] W (Gives W (.tuple #[.int .i64 P, .int .i64 N, .bool true]))))
    (HV : Hid (∀ W, Calls Try.prog 41 #[.agg (layArr wk cp pg st tr wt ck pr ca bi ba (startsV cp pg st ca bi)), .int .i64 (A + N)] W (Gives W (.int .i64 (L + N)))))
    (HV0 : Hid (∀ W, Calls Try.prog 41 #[.agg (layArr wk cp pg st tr wt ck pr ca bi ba (startsV cp pg st ca bi)), .int .i64 A] W (Gives W (.int .i64 L)))) :
    Calls Try.prog 7 #[.agg #[.int .i64 y0, .int .i64 y1, .int .i64 y2, .int .i64 y3, .int .i64 y4, .int .i64 y5, .int .i64 y6, .int .i64 y7, .int .i64 y8, .int .i64 y9, .int .i64 y10], .int .i64 p, .int .i64 n] w (Gives w (.bool true)) := by
  have g1 := R.pg1
  have g2 := R.pg2
  have g3 : IntKind.u64.wrap pg = pg := IntWalk.u64_in _ (by omega)
  have g4 : (pg == 0) = false := by simp; omega
  have HO := Lib.hid (fun W => of_right wk cp pg st tr wt ck pr ca bi ba W R)
  have HQ := Lib.hid R
  have HC := Lib.hid (row_new w #[.int .i64 y0, .int .i64 y1, .int .i64 y2, .int .i64 y3, .int .i64 y4, .int .i64 y5, .int .i64 y6, .int .i64 y7, .int .i64 y8, .int .i64 y9, .int .i64 y10] 23)
  have HM : Hid (More w (w.alloc (.cells #[.int .i64 y0, .int .i64 y1, .int .i64 y2, .int .i64 y3, .int .i64 y4, .int .i64 y5, .int .i64 y6, .int .i64 y7, .int .i64 y8, .int .i64 y9, .int .i64 y10] 23))) := (More.refl w).alloc _
  clear R
  go_enter Try.func7, Try.ntmps7
  go_wp2_with (first | refine wpList_load_row rfl 23 _ rfl _ rfl 23 _ _ _ (HC.out) Try.underlying23 rfl (by kernel_rfl) ?_ | refine wpList_load_rowG rfl 23 _ rfl _ rfl 23 _ _ _ (HC.out) Try.underlying23 rfl (by kernel_rfl) ?_)
  refine (HS.out _).mono ?_
  rintro e w1 ⟨rfl, h1⟩
  have HM1 : Hid (More w (w1.setRow w.heap.size #[.int .i64 wk, .int .i64 cp, .int .i64 pg, .int .i64 st, .int .i64 tr, .int .i64 wt, .int .i64 ck, .int .i64 pr, .int .i64 ca, .int .i64 bi, .int .i64 ba])) := (HM.out.trans h1).setRow _ _ (by omega)
  have HC1 := Lib.hid (setRow_heap w1 w.heap.size _ #[.int .i64 wk, .int .i64 cp, .int .i64 pg, .int .i64 st, .int .i64 tr, .int .i64 wt, .int .i64 ck, .int .i64 pr, .int .i64 ca, .int .i64 bi, .int .i64 ba] _ _ (h1.block HC.out))
  have HC0 := Lib.hid (h1.block HC.out)
  clear h1 HC HM
  go_wp2_with (first | (refine wpList_store_row rfl 23 _ _ rfl _ _ rfl rfl 23 _ HC0.out (by kernel_rfl) rfl (by simp [Value.oneCell']) ?_) | refine wpList_load_row rfl 23 _ rfl _ rfl 23 _ _ _ (HC1.out) Try.underlying23 rfl (by kernel_rfl) ?_ | refine wpList_load_rowG rfl 23 _ rfl _ rfl 23 _ _ _ (HC1.out) Try.underlying23 rfl (by kernel_rfl) ?_)
  refine (HO.out _).mono ?_
  rintro e w2 ⟨rfl, h2⟩
  have hsz := lt_of_heap (h2.block HC1.out)
  have HM2 : Hid (More w ((w2.alloc (.cells #[.int .i64 0, .int .i64 0, .int .i64 0, .int .i64 0, .int .i64 0, .int .i64 0, .int .i64 0, .int .i64 0, .int .i64 0, .int .i64 0, .int .i64 0, .int .i64 0, .int .i64 0, .int .i64 0, .int .i64 0, .int .i64 0, .int .i64 0, .int .i64 0, .int .i64 0, .int .i64 0, .int .i64 0, .int .i64 0, .int .i64 0, .int .i64 0] 28)).setRow w2.heap.size (layArr wk cp pg st tr wt ck pr ca bi ba (startsV cp pg st ca bi)))) := ((HM1.out.trans h2).alloc _).setRow _ _ (by omega)
  have HL2 := Lib.hid (setRow_heap _ w2.heap.size _ (layArr wk cp pg st tr wt ck pr ca bi ba (startsV cp pg st ca bi)) _ _ (row_new w2 #[.int .i64 0, .int .i64 0, .int .i64 0, .int .i64 0, .int .i64 0, .int .i64 0, .int .i64 0, .int .i64 0, .int .i64 0, .int .i64 0, .int .i64 0, .int .i64 0, .int .i64 0, .int .i64 0, .int .i64 0, .int .i64 0, .int .i64 0, .int .i64 0, .int .i64 0, .int .i64 0, .int .i64 0, .int .i64 0, .int .i64 0, .int .i64 0] 28))
  have HC2 : Hid (((w2.alloc (.cells #[.int .i64 0, .int .i64 0, .int .i64 0, .int .i64 0, .int .i64 0, .int .i64 0, .int .i64 0, .int .i64 0, .int .i64 0, .int .i64 0, .int .i64 0, .int .i64 0, .int .i64 0, .int .i64 0, .int .i64 0, .int .i64 0, .int .i64 0, .int .i64 0, .int .i64 0, .int .i64 0, .int .i64 0, .int .i64 0, .int .i64 0, .int .i64 0] 28)).setRow w2.heap.size (layArr wk cp pg st tr wt ck pr ca bi ba (startsV cp pg st ca bi))).heap[w.heap.size]? = some (.cells #[.int .i64 wk, .int .i64 cp, .int .i64 pg, .int .i64 st, .int .i64 tr, .int .i64 wt, .int .i64 ck, .int .i64 pr, .int .i64 ca, .int .i64 bi, .int .i64 ba] 23 (0, 0))) := by
    rw [setRow_other _ _ _ _ (by omega)]; exact ((More.refl _).alloc _).block (h2.block HC1.out)
  have xP : ((w2.alloc (.cells #[.int .i64 0, .int .i64 0, .int .i64 0, .int .i64 0, .int .i64 0, .int .i64 0, .int .i64 0, .int .i64 0, .int .i64 0, .int .i64 0, .int .i64 0, .int .i64 0, .int .i64 0, .int .i64 0, .int .i64 0, .int .i64 0, .int .i64 0, .int .i64 0, .int .i64 0, .int .i64 0, .int .i64 0, .int .i64 0, .int .i64 0, .int .i64 0] 28)).setRow w2.heap.size (layArr wk cp pg st tr wt ck pr ca bi ba (startsV cp pg st ca bi))).cell? ⟨w.heap.size, 2, none⟩ = some (.int .i64 pg) := by rw [cell_of_row _ _ _ _ _ _ HC2.out]; rfl
  clear h2 HC1 HM1 HC0 hsz
  go_wp2_with (first | (refine wpList_store_row rfl 28 _ _ rfl _ _ rfl rfl 28 _ (row_new w2 #[.int .i64 0, .int .i64 0, .int .i64 0, .int .i64 0, .int .i64 0, .int .i64 0, .int .i64 0, .int .i64 0, .int .i64 0, .int .i64 0, .int .i64 0, .int .i64 0, .int .i64 0, .int .i64 0, .int .i64 0, .int .i64 0, .int .i64 0, .int .i64 0, .int .i64 0, .int .i64 0, .int .i64 0, .int .i64 0, .int .i64 0, .int .i64 0] 28) (by kernel_rfl) rfl (layArr_one ..) ?_) | refine wpList_load_row rfl 23 _ rfl _ rfl 23 _ _ _ (HC2.out) Try.underlying23 rfl (by kernel_rfl) ?_ | refine wpList_load_rowG rfl 23 _ rfl _ rfl 23 _ _ _ (HC2.out) Try.underlying23 rfl (by kernel_rfl) ?_ | refine wpList_load_row rfl 28 _ rfl _ rfl 28 _ _ _ (HL2.out) Try.underlying28 rfl (by kernel_rfl) ?_ | refine wpList_load_rowG rfl 28 _ rfl _ rfl 28 _ _ _ (HL2.out) Try.underlying28 rfl (by kernel_rfl) ?_)
  refine (HA.out _).mono ?_
  rintro e w3 ⟨rfl, h3⟩
  have HM3 := Lib.hid (HM2.out.trans h3)
  have HL3 := Lib.hid (h3.block HL2.out)
  clear h3 HM2 HL2 HC2 xP
  go_wp2_with (first | refine wpList_load_row rfl 28 _ rfl _ rfl 28 _ _ _ (HL3.out) Try.underlying28 rfl (by kernel_rfl) ?_ | refine wpList_load_rowG rfl 28 _ rfl _ rfl 28 _ _ _ (HL3.out) Try.underlying28 rfl (by kernel_rfl) ?_)
  refine (HP.out _).mono ?_
  rintro e w4 ⟨rfl, h4⟩
  have HM4 := Lib.hid (HM3.out.trans h4)
  have HL4 := Lib.hid (h4.block HL3.out)
  clear h4 HM3 HL3
  go_wp2_with (first | refine wpList_load_row rfl 28 _ rfl _ rfl 28 _ _ _ (HL4.out) Try.underlying28 rfl (by kernel_rfl) ?_ | refine wpList_load_rowG rfl 28 _ rfl _ rfl 28 _ _ _ (HL4.out) Try.underlying28 rfl (by kernel_rfl) ?_)
  refine (xuser HQ.out _).mono ?_
  rintro e w5 ⟨rfl, h5⟩
  have HM5 := Lib.hid (HM4.out.trans h5)
  have HL5 := Lib.hid (h5.block HL4.out)
  clear h5 HM4 HL4
  go_wp2_with fail
  have hne : ∃ W, More w5 W := ⟨w5, More.refl _⟩
  refine wp_region_more (by kernel_rfl) (by kernel_rfl) ?_
  iterate 36
    first
    | (refine wpQuiet_load_row rfl 28 _ rfl _ rfl 28 _ _ _ (fun W hW => hW.block HL5.out) Try.underlying28 rfl (by kernel_rfl) ?_)
    | (with_reducible refine wpQuiet_step (fun K hK => ?_)
       go_simp
       first
       | (refine hK _ ?_; clear hK K)
       | (apply Exists.intro
          refine ⟨fun W hW => ?_, hK _ ?_⟩
          first
          | (go_at_call 41; first | with_reducible exact Calls.more hW (HV.out W) | with_reducible exact Calls.more hW (HV0.out W))
          | (go_at_call 12; exact Calls.more hW (xwords HQ.out W))
          | (go_at_call 13; exact Calls.more hW (lives_any W))
          | ((try go_simp); try rfl)
          clear hK K))
  refine wpQuiet_nil ?_
  intro W6 hW
  have HM6 := Lib.hid (HM5.out.trans hW)
  clear hW
  go_wp2_with fail
  go_ret
  exact ⟨rfl, HM6.out⟩

set_option maxRecDepth 100000 in
set_option maxHeartbeats 32000000 in
theorem aligned_core1 (R : CfgOk wk cp pg st tr wt ck pr ca bi ba) (HS : Hid (∀ W, Calls Try.prog 14 #[.agg #[.int .i64 y0, .int .i64 y1, .int .i64 y2, .int .i64 y3, .int .i64 y4, .int .i64 y5, .int .i64 y6, .int .i64 y7, .int .i64 y8, .int .i64 y9, .int .i64 y10]] W (Gives W (.agg #[.int .i64 wk, .int .i64 cp, .int .i64 pg, .int .i64 st, .int .i64 tr, .int .i64 wt, .int .i64 ck, .int .i64 pr, .int .i64 ca, .int .i64 bi, .int .i64 ba])))) (P N A L : Int) (r : Int) (hr : P.tmod 4 = r) (hr0 : -4 < r) (hr1 : r < 4) (hrn : r ≠ 0)
    (hP : IntKind.i64.wrap ((IntKind.u64.wrap p).tmod pg) = P) (hN : IntKind.i64.wrap ((IntKind.u64.wrap n).tmod 32) = N) (ha32 : A.tmod 32 = 0)
    (aN : IntKind.i64.wrap (A + N) = A + N) (lN : IntKind.i64.wrap (L + N) = L + N) (au : decide (A < userV cp pg st ca bi) = false) (aw : decide (A + N < wordsV cp pg st ca bi) = true)
    (HA : Hid (∀ W, Calls Try.prog 31 #[.agg (layArr wk cp pg st tr wt ck pr ca bi ba (startsV cp pg st ca bi)), .int .i64 P] W (Gives W (.int .i64 A))))
    (HP : Hid (∀ W, Calls Try.prog 33 #[.agg (layArr wk cp pg st tr wt ck pr ca bi ba (startsV cp pg st ca bi)), .int .i64 (A + N)] W (Gives W (.tuple #[.int .i64 P, .int .i64 N, .bool true]))))
    (HV : Hid (∀ W, Calls Try.prog 41 #[.agg (layArr wk cp pg st tr wt ck pr ca bi ba (startsV cp pg st ca bi)), .int .i64 (A + N)] W (Gives W (.int .i64 (L + N)))))
    (HV0 : Hid (∀ W, Calls Try.prog 41 #[.agg (layArr wk cp pg st tr wt ck pr ca bi ba (startsV cp pg st ca bi)), .int .i64 A] W (Gives W (.int .i64 L)))) :
    Calls Try.prog 7 #[.agg #[.int .i64 y0, .int .i64 y1, .int .i64 y2, .int .i64 y3, .int .i64 y4, .int .i64 y5, .int .i64 y6, .int .i64 y7, .int .i64 y8, .int .i64 y9, .int .i64 y10], .int .i64 p, .int .i64 n] w (Gives w (.bool true)) := by
  have g1 := R.pg1
  have g2 := R.pg2
  have g3 : IntKind.u64.wrap pg = pg := IntWalk.u64_in _ (by omega)
  have g4 : (pg == 0) = false := by simp; omega
  have d4 : (r == 0) = false := by simp; omega
  have d5 : decide (r = 0) = false := by simp; omega
  have d6 : IntKind.i64.wrap r = r := wrap_in (by omega) (by omega)
  have HO := Lib.hid (fun W => of_right wk cp pg st tr wt ck pr ca bi ba W R)
  have HQ := Lib.hid R
  have HC := Lib.hid (row_new w #[.int .i64 y0, .int .i64 y1, .int .i64 y2, .int .i64 y3, .int .i64 y4, .int .i64 y5, .int .i64 y6, .int .i64 y7, .int .i64 y8, .int .i64 y9, .int .i64 y10] 23)
  have HM : Hid (More w (w.alloc (.cells #[.int .i64 y0, .int .i64 y1, .int .i64 y2, .int .i64 y3, .int .i64 y4, .int .i64 y5, .int .i64 y6, .int .i64 y7, .int .i64 y8, .int .i64 y9, .int .i64 y10] 23))) := (More.refl w).alloc _
  clear R
  go_enter Try.func7, Try.ntmps7
  go_wp2_with (first | refine wpList_load_row rfl 23 _ rfl _ rfl 23 _ _ _ (HC.out) Try.underlying23 rfl (by kernel_rfl) ?_ | refine wpList_load_rowG rfl 23 _ rfl _ rfl 23 _ _ _ (HC.out) Try.underlying23 rfl (by kernel_rfl) ?_)
  refine (HS.out _).mono ?_
  rintro e w1 ⟨rfl, h1⟩
  have HM1 : Hid (More w (w1.setRow w.heap.size #[.int .i64 wk, .int .i64 cp, .int .i64 pg, .int .i64 st, .int .i64 tr, .int .i64 wt, .int .i64 ck, .int .i64 pr, .int .i64 ca, .int .i64 bi, .int .i64 ba])) := (HM.out.trans h1).setRow _ _ (by omega)
  have HC1 := Lib.hid (setRow_heap w1 w.heap.size _ #[.int .i64 wk, .int .i64 cp, .int .i64 pg, .int .i64 st, .int .i64 tr, .int .i64 wt, .int .i64 ck, .int .i64 pr, .int .i64 ca, .int .i64 bi, .int .i64 ba] _ _ (h1.block HC.out))
  have HC0 := Lib.hid (h1.block HC.out)
  clear h1 HC HM
  go_wp2_with (first | (refine wpList_store_row rfl 23 _ _ rfl _ _ rfl rfl 23 _ HC0.out (by kernel_rfl) rfl (by simp [Value.oneCell']) ?_) | refine wpList_load_row rfl 23 _ rfl _ rfl 23 _ _ _ (HC1.out) Try.underlying23 rfl (by kernel_rfl) ?_ | refine wpList_load_rowG rfl 23 _ rfl _ rfl 23 _ _ _ (HC1.out) Try.underlying23 rfl (by kernel_rfl) ?_)
  refine (HO.out _).mono ?_
  rintro e w2 ⟨rfl, h2⟩
  have hsz := lt_of_heap (h2.block HC1.out)
  have HM2 : Hid (More w ((w2.alloc (.cells #[.int .i64 0, .int .i64 0, .int .i64 0, .int .i64 0, .int .i64 0, .int .i64 0, .int .i64 0, .int .i64 0, .int .i64 0, .int .i64 0, .int .i64 0, .int .i64 0, .int .i64 0, .int .i64 0, .int .i64 0, .int .i64 0, .int .i64 0, .int .i64 0, .int .i64 0, .int .i64 0, .int .i64 0, .int .i64 0, .int .i64 0, .int .i64 0] 28)).setRow w2.heap.size (layArr wk cp pg st tr wt ck pr ca bi ba (startsV cp pg st ca bi)))) := ((HM1.out.trans h2).alloc _).setRow _ _ (by omega)
  have HL2 := Lib.hid (setRow_heap _ w2.heap.size _ (layArr wk cp pg st tr wt ck pr ca bi ba (startsV cp pg st ca bi)) _ _ (row_new w2 #[.int .i64 0, .int .i64 0, .int .i64 0, .int .i64 0, .int .i64 0, .int .i64 0, .int .i64 0, .int .i64 0, .int .i64 0, .int .i64 0, .int .i64 0, .int .i64 0, .int .i64 0, .int .i64 0, .int .i64 0, .int .i64 0, .int .i64 0, .int .i64 0, .int .i64 0, .int .i64 0, .int .i64 0, .int .i64 0, .int .i64 0, .int .i64 0] 28))
  have HC2 : Hid (((w2.alloc (.cells #[.int .i64 0, .int .i64 0, .int .i64 0, .int .i64 0, .int .i64 0, .int .i64 0, .int .i64 0, .int .i64 0, .int .i64 0, .int .i64 0, .int .i64 0, .int .i64 0, .int .i64 0, .int .i64 0, .int .i64 0, .int .i64 0, .int .i64 0, .int .i64 0, .int .i64 0, .int .i64 0, .int .i64 0, .int .i64 0, .int .i64 0, .int .i64 0] 28)).setRow w2.heap.size (layArr wk cp pg st tr wt ck pr ca bi ba (startsV cp pg st ca bi))).heap[w.heap.size]? = some (.cells #[.int .i64 wk, .int .i64 cp, .int .i64 pg, .int .i64 st, .int .i64 tr, .int .i64 wt, .int .i64 ck, .int .i64 pr, .int .i64 ca, .int .i64 bi, .int .i64 ba] 23 (0, 0))) := by
    rw [setRow_other _ _ _ _ (by omega)]; exact ((More.refl _).alloc _).block (h2.block HC1.out)
  have xP : ((w2.alloc (.cells #[.int .i64 0, .int .i64 0, .int .i64 0, .int .i64 0, .int .i64 0, .int .i64 0, .int .i64 0, .int .i64 0, .int .i64 0, .int .i64 0, .int .i64 0, .int .i64 0, .int .i64 0, .int .i64 0, .int .i64 0, .int .i64 0, .int .i64 0, .int .i64 0, .int .i64 0, .int .i64 0, .int .i64 0, .int .i64 0, .int .i64 0, .int .i64 0] 28)).setRow w2.heap.size (layArr wk cp pg st tr wt ck pr ca bi ba (startsV cp pg st ca bi))).cell? ⟨w.heap.size, 2, none⟩ = some (.int .i64 pg) := by rw [cell_of_row _ _ _ _ _ _ HC2.out]; rfl
  clear h2 HC1 HM1 HC0 hsz
  go_wp2_with (first | (refine wpList_store_row rfl 28 _ _ rfl _ _ rfl rfl 28 _ (row_new w2 #[.int .i64 0, .int .i64 0, .int .i64 0, .int .i64 0, .int .i64 0, .int .i64 0, .int .i64 0, .int .i64 0, .int .i64 0, .int .i64 0, .int .i64 0, .int .i64 0, .int .i64 0, .int .i64 0, .int .i64 0, .int .i64 0, .int .i64 0, .int .i64 0, .int .i64 0, .int .i64 0, .int .i64 0, .int .i64 0, .int .i64 0, .int .i64 0] 28) (by kernel_rfl) rfl (layArr_one ..) ?_) | refine wpList_load_row rfl 23 _ rfl _ rfl 23 _ _ _ (HC2.out) Try.underlying23 rfl (by kernel_rfl) ?_ | refine wpList_load_rowG rfl 23 _ rfl _ rfl 23 _ _ _ (HC2.out) Try.underlying23 rfl (by kernel_rfl) ?_ | refine wpList_load_row rfl 28 _ rfl _ rfl 28 _ _ _ (HL2.out) Try.underlying28 rfl (by kernel_rfl) ?_ | refine wpList_load_rowG rfl 28 _ rfl _ rfl 28 _ _ _ (HL2.out) Try.underlying28 rfl (by kernel_rfl) ?_)
  refine (HA.out _).mono ?_
  rintro e w3 ⟨rfl, h3⟩
  have HM3 := Lib.hid (HM2.out.trans h3)
  have HL3 := Lib.hid (h3.block HL2.out)
  clear h3 HM2 HL2 HC2 xP
  go_wp2_with (first | refine wpList_load_row rfl 28 _ rfl _ rfl 28 _ _ _ (HL3.out) Try.underlying28 rfl (by kernel_rfl) ?_ | refine wpList_load_rowG rfl 28 _ rfl _ rfl 28 _ _ _ (HL3.out) Try.underlying28 rfl (by kernel_rfl) ?_)
  refine (HP.out _).mono ?_
  rintro e w4 ⟨rfl, h4⟩
  have HM4 := Lib.hid (HM3.out.trans h4)
  have HL4 := Lib.hid (h4.block HL3.out)
  clear h4 HM3 HL3
  go_wp2_with (first | refine wpList_load_row rfl 28 _ rfl _ rfl 28 _ _ _ (HL4.out) Try.underlying28 rfl (by kernel_rfl) ?_ | refine wpList_load_rowG rfl 28 _ rfl _ rfl 28 _ _ _ (HL4.out) Try.underlying28 rfl (by kernel_rfl) ?_)
  refine (xuser HQ.out _).mono ?_
  rintro e w5 ⟨rfl, h5⟩
  have HM5 := Lib.hid (HM4.out.trans h5)
  have HL5 := Lib.hid (h5.block HL4.out)
  clear h5 HM4 HL4
  go_wp2_with fail
  have hne : ∃ W, More w5 W := ⟨w5, More.refl _⟩
  refine wp_region_more (by kernel_rfl) (by kernel_rfl) ?_
  iterate 36
    first
    | (refine wpQuiet_load_row rfl 28 _ rfl _ rfl 28 _ _ _ (fun W hW => hW.block HL5.out) Try.underlying28 rfl (by kernel_rfl) ?_)
    | (with_reducible refine wpQuiet_step (fun K hK => ?_)
       go_simp
       first
       | (refine hK _ ?_; clear hK K)
       | (apply Exists.intro
          refine ⟨fun W hW => ?_, hK _ ?_⟩
          first
          | (go_at_call 41; first | with_reducible exact Calls.more hW (HV.out W) | with_reducible exact Calls.more hW (HV0.out W))
          | (go_at_call 12; exact Calls.more hW (xwords HQ.out W))
          | (go_at_call 13; exact Calls.more hW (lives_any W))
          | ((try go_simp); try rfl)
          clear hK K))
  refine wpQuiet_nil ?_
  intro W6 hW
  have HM6 := Lib.hid (HM5.out.trans hW)
  clear hW
  go_wp2_with fail
  go_ret
  exact ⟨rfl, HM6.out⟩

theorem aligned_all (R : CfgOk wk cp pg st tr wt ck pr ca bi ba) (HS : Hid (∀ W, Calls Try.prog 14 #[.agg #[.int .i64 y0, .int .i64 y1, .int .i64 y2, .int .i64 y3, .int .i64 y4, .int .i64 y5, .int .i64 y6, .int .i64 y7, .int .i64 y8, .int .i64 y9, .int .i64 y10]] W (Gives W (.agg #[.int .i64 wk, .int .i64 cp, .int .i64 pg, .int .i64 st, .int .i64 tr, .int .i64 wt, .int .i64 ck, .int .i64 pr, .int .i64 ca, .int .i64 bi, .int .i64 ba])))) : Calls Try.prog 7 #[.agg #[.int .i64 y0, .int .i64 y1, .int .i64 y2, .int .i64 y3, .int .i64 y4, .int .i64 y5, .int .i64 y6, .int .i64 y7, .int .i64 y8, .int .i64 y9, .int .i64 y10], .int .i64 p, .int .i64 n] w (Gives w (.bool true)) := by
  have g1 := R.pg1
  have g2 := R.pg2
  have b1 := userB R
  have b2 := liveB R
  have b3 := wordsB R
  have bw : wordsV cp pg st ca bi = userV cp pg st ca bi + 32 * pg := rfl
  have bu : userV cp pg st ca bi % 128 = 0 := by unfold userV; omega
  have p0 := u64_nonneg p
  have n0 := u64_nonneg n
  have p1 := Int.emod_nonneg (IntKind.u64.wrap p) (show pg ≠ 0 by omega)
  have p2 := Int.emod_lt_of_pos (IntKind.u64.wrap p) (show 0 < pg by omega)
  obtain ⟨P, hP, P0, P1⟩ : ∃ P, IntKind.i64.wrap ((IntKind.u64.wrap p).tmod pg) = P ∧ 0 ≤ P ∧ P < pg := by
    refine ⟨_, rfl, ?_⟩
    rw [Int.tmod_eq_emod_of_nonneg p0, wrap_in (by omega) (by omega)]; exact ⟨p1, p2⟩
  obtain ⟨N, hN, N0, N1⟩ : ∃ N, IntKind.i64.wrap ((IntKind.u64.wrap n).tmod 32) = N ∧ 0 ≤ N ∧ N < 32 := by
    refine ⟨_, rfl, ?_⟩
    rw [Int.tmod_eq_emod_of_nonneg n0, wrap_in (by omega) (by omega)]; omega
  clear p0 n0 p1 p2
  have HA : ∀ W, Calls Try.prog 31 #[.agg (layArr wk cp pg st tr wt ck pr ca bi ba (startsV cp pg st ca bi)), .int .i64 P] W (Gives W (.int .i64 (userV cp pg st ca bi + 32 * P))) := fun W => by
    have := xaddr R W P
    rwa [show addrV cp pg st ca bi P = userV cp pg st ca bi + 32 * P from if_pos ⟨P0, P1⟩] at this
  have HV0 : ∀ W, Calls Try.prog 41 #[.agg (layArr wk cp pg st tr wt ck pr ca bi ba (startsV cp pg st ca bi)), .int .i64 (userV cp pg st ca bi + 32 * P)] W (Gives W (.int .i64 (liveV cp pg st ca bi + 32 * P))) := fun W => by
    have := xlive R W (userV cp pg st ca bi + 32 * P)
    rwa [show liveAtV cp pg st ca bi (userV cp pg st ca bi + 32 * P) = liveV cp pg st ca bi + 32 * P by unfold liveAtV; rw [if_pos (by omega)]; omega] at this
  have HV : ∀ W, Calls Try.prog 41 #[.agg (layArr wk cp pg st tr wt ck pr ca bi ba (startsV cp pg st ca bi)), .int .i64 (userV cp pg st ca bi + 32 * P + N)] W (Gives W (.int .i64 (liveV cp pg st ca bi + 32 * P + N))) := fun W => by
    have := xlive R W (userV cp pg st ca bi + 32 * P + N)
    rwa [show liveAtV cp pg st ca bi (userV cp pg st ca bi + 32 * P + N) = liveV cp pg st ca bi + 32 * P + N by unfold liveAtV; rw [if_pos (by omega)]; omega] at this
  have HP : ∀ W, Calls Try.prog 33 #[.agg (layArr wk cp pg st tr wt ck pr ca bi ba (startsV cp pg st ca bi)), .int .i64 (userV cp pg st ca bi + 32 * P + N)] W (Gives W (.tuple #[.int .i64 P, .int .i64 N, .bool true])) := fun W => by
    have := xplace_in R W (userV cp pg st ca bi + 32 * P + N) (by omega) (by omega)
    rwa [show (userV cp pg st ca bi + 32 * P + N - userV cp pg st ca bi) / 32 = P by omega, show (userV cp pg st ca bi + 32 * P + N - userV cp pg st ca bi) % 32 = N by omega] at this
  have q32 : (userV cp pg st ca bi + 32 * P).tmod 32 = 0 := by rw [Int.tmod_eq_emod_of_nonneg (by omega)]; omega
  have qr : P.tmod 4 = P % 4 := Int.tmod_eq_emod_of_nonneg P0
  by_cases h4 : P % 4 = 0
  · exact aligned_core0 y0 y1 y2 y3 y4 y5 y6 y7 y8 y9 y10 wk cp pg st tr wt ck pr ca bi ba p n w R HS P N _ _ (by rw [qr, h4]) (by rw [Int.tmod_eq_emod_of_nonneg (by omega)]; omega) hP hN q32 (wrap_in (by omega) (by omega)) (wrap_in (by omega) (by omega)) (by simp; omega) (by simp; omega) HA HP HV HV0
  · exact aligned_core1 y0 y1 y2 y3 y4 y5 y6 y7 y8 y9 y10 wk cp pg st tr wt ck pr ca bi ba p n w R HS P N _ _ _ qr (by omega) (by omega) h4 hP hN q32 (wrap_in (by omega) (by omega)) (wrap_in (by omega) (by omega)) (by simp; omega) (by simp; omega) HA HP HV HV0

end Go.Proofs.Ytollofgcijlofaa
