/-
  The walk of LayoutChecks.
-/
import Derived.Test.YtollofgcijlofaaLayLives
import Derived.Test.YtollofgcijlofaaLayRefE
namespace Go.Proofs.Ytollofgcijlofaa
open Go.RowKit
set_option linter.unusedVariables false
set_option linter.unusedSimpArgs false

variable (wk cp pg st tr wt ck pr ca bi ba : Int) (w : World)

theorem ok_of_right (h : rightB wk cp pg st tr wt ck pr ca bi ba = true) : CfgOk wk cp pg st tr wt ck pr ca bi ba := by
  simp only [rightB, btw, Bool.and_eq_true, decide_eq_true_eq] at h
  constructor <;> omega

set_option maxHeartbeats 8000000 in
theorem checks_right (h : rightB wk cp pg st tr wt ck pr ca bi ba = true) : Calls Try.prog 3 #[.agg #[.int .i64 wk, .int .i64 cp, .int .i64 pg, .int .i64 st, .int .i64 tr, .int .i64 wt, .int .i64 ck, .int .i64 pr, .int .i64 ca, .int .i64 bi, .int .i64 ba]] w (Gives w (.bool true)) := by
  have R := ok_of_right _ _ _ _ _ _ _ _ _ _ _ h
  have HK := Lib.hid (fun W => lcheck wk cp pg st tr wt ck pr ca bi ba W)
  rw [if_pos h] at HK
  have HO := Lib.hid (fun W => of_right wk cp pg st tr wt ck pr ca bi ba W R)
  have HR := Lib.hid (fun W => rright wk cp pg st tr wt ck pr ca bi ba W)
  rw [h] at HR
  have HG := Lib.hid (fun W => xconfig R W)
  have HC := Lib.hid (row_new w #[.int .i64 wk, .int .i64 cp, .int .i64 pg, .int .i64 st, .int .i64 tr, .int .i64 wt, .int .i64 ck, .int .i64 pr, .int .i64 ca, .int .i64 bi, .int .i64 ba] 23)
  have HM : Hid (More w (w.alloc (.cells #[.int .i64 wk, .int .i64 cp, .int .i64 pg, .int .i64 st, .int .i64 tr, .int .i64 wt, .int .i64 ck, .int .i64 pr, .int .i64 ca, .int .i64 bi, .int .i64 ba] 23))) := (More.refl w).alloc _
  clear h R
  go_enter Try.func3, Try.ntmps3
  go_wp2_with (first | refine wpList_load_row rfl 23 _ rfl _ rfl 23 _ _ _ (HC.out) Try.underlying23 rfl (by kernel_rfl) ?_ | refine wpList_load_rowG rfl 23 _ rfl _ rfl 23 _ _ _ (HC.out) Try.underlying23 rfl (by kernel_rfl) ?_)
  refine (HK.out _).mono ?_
  rintro e w1 ⟨rfl, h1⟩
  have HC1 := Lib.hid (h1.block HC.out)
  have HM1 := Lib.hid (HM.out.trans h1)
  clear h1 HC HM
  go_wp2_with (first | refine wpList_load_row rfl 23 _ rfl _ rfl 23 _ _ _ (HC1.out) Try.underlying23 rfl (by kernel_rfl) ?_ | refine wpList_load_rowG rfl 23 _ rfl _ rfl 23 _ _ _ (HC1.out) Try.underlying23 rfl (by kernel_rfl) ?_)
  refine (HO.out _).mono ?_
  rintro e w2 ⟨rfl, h2⟩
  have HW2 : Hid (More w ((w2.alloc (.cells #[.int .i64 0, .int .i64 0, .int .i64 0, .int .i64 0, .int .i64 0, .int .i64 0, .int .i64 0, .int .i64 0, .int .i64 0, .int .i64 0, .int .i64 0, .int .i64 0, .int .i64 0, .int .i64 0, .int .i64 0, .int .i64 0, .int .i64 0, .int .i64 0, .int .i64 0, .int .i64 0, .int .i64 0, .int .i64 0, .int .i64 0, .int .i64 0] 28)).setRow w2.heap.size (layArr wk cp pg st tr wt ck pr ca bi ba (startsV cp pg st ca bi)))) := ((HM1.out.trans h2).alloc _).setRow _ _ (by have := (HM1.out.trans h2).size; omega)
  have HL2 := Lib.hid (setRow_heap _ w2.heap.size _ (layArr wk cp pg st tr wt ck pr ca bi ba (startsV cp pg st ca bi)) _ _ (row_new w2 #[.int .i64 0, .int .i64 0, .int .i64 0, .int .i64 0, .int .i64 0, .int .i64 0, .int .i64 0, .int .i64 0, .int .i64 0, .int .i64 0, .int .i64 0, .int .i64 0, .int .i64 0, .int .i64 0, .int .i64 0, .int .i64 0, .int .i64 0, .int .i64 0, .int .i64 0, .int .i64 0, .int .i64 0, .int .i64 0, .int .i64 0, .int .i64 0] 28))
  have HC2 : Hid (((w2.alloc (.cells #[.int .i64 0, .int .i64 0, .int .i64 0, .int .i64 0, .int .i64 0, .int .i64 0, .int .i64 0, .int .i64 0, .int .i64 0, .int .i64 0, .int .i64 0, .int .i64 0, .int .i64 0, .int .i64 0, .int .i64 0, .int .i64 0, .int .i64 0, .int .i64 0, .int .i64 0, .int .i64 0, .int .i64 0, .int .i64 0, .int .i64 0, .int .i64 0] 28)).setRow w2.heap.size (layArr wk cp pg st tr wt ck pr ca bi ba (startsV cp pg st ca bi))).heap[w.heap.size]? = some (.cells #[.int .i64 wk, .int .i64 cp, .int .i64 pg, .int .i64 st, .int .i64 tr, .int .i64 wt, .int .i64 ck, .int .i64 pr, .int .i64 ca, .int .i64 bi, .int .i64 ba] 23 (0, 0))) := by
    rw [setRow_other _ _ _ _ (by have := lt_of_heap (h2.block HC1.out); omega)]; exact ((More.refl _).alloc _).block (h2.block HC1.out)
  clear h2 HC1 HM1
  go_wp2_with (first | (refine wpList_store_row rfl 28 _ _ rfl _ _ rfl rfl 28 _ (row_new w2 #[.int .i64 0, .int .i64 0, .int .i64 0, .int .i64 0, .int .i64 0, .int .i64 0, .int .i64 0, .int .i64 0, .int .i64 0, .int .i64 0, .int .i64 0, .int .i64 0, .int .i64 0, .int .i64 0, .int .i64 0, .int .i64 0, .int .i64 0, .int .i64 0, .int .i64 0, .int .i64 0, .int .i64 0, .int .i64 0, .int .i64 0, .int .i64 0] 28) (by kernel_rfl) rfl (layArr_one ..) ?_) | refine wpList_load_row rfl 23 _ rfl _ rfl 23 _ _ _ (HC2.out) Try.underlying23 rfl (by kernel_rfl) ?_ | refine wpList_load_rowG rfl 23 _ rfl _ rfl 23 _ _ _ (HC2.out) Try.underlying23 rfl (by kernel_rfl) ?_)
  refine (HR.out _).mono ?_
  rintro e w3 ⟨rfl, h3⟩
  have HM3 := Lib.hid (HW2.out.trans h3)
  have HL3 := Lib.hid (h3.block HL2.out)
  have HC3 := Lib.hid (h3.block HC2.out)
  clear h3 HW2 HL2 HC2
  go_wp2_with fail
  have hne : ∃ W, More w3 W := ⟨w3, More.refl _⟩
  refine wp_region_more (by kernel_rfl) (by kernel_rfl) ?_
  iterate 16
    first
    | (refine wpQuiet_load_row rfl 23 _ rfl _ rfl 23 _ _ _ (fun W hW => hW.block HC3.out) Try.underlying23 rfl (by kernel_rfl) ?_)
    | (refine wpQuiet_load_row rfl 28 _ rfl _ rfl 28 _ _ _ (fun W hW => hW.block HL3.out) Try.underlying28 rfl (by kernel_rfl) ?_)
    | (with_reducible refine wpQuiet_step (fun K hK => ?_)
       go_simp
       first
       | (refine hK _ ?_; clear hK K)
       | (apply Exists.intro
          refine ⟨fun W hW => ?_, hK _ ?_⟩
          first
          | (go_at_call 11; exact Calls.more hW (HG.out W))
          | (go_at_call 13; exact Calls.more hW (lives_any W))
          | ((try go_simp); try rfl)
          clear hK K))
  refine wpQuiet_nil ?_
  intro W hW
  have HX := Lib.hid (HM3.out.trans hW)
  clear hW
  go_wp2_with fail
  go_ret
  exact ⟨rfl, HX.out⟩

set_option maxHeartbeats 8000000 in
theorem checks_wrong (h : rightB wk cp pg st tr wt ck pr ca bi ba = false) : Calls Try.prog 3 #[.agg #[.int .i64 wk, .int .i64 cp, .int .i64 pg, .int .i64 st, .int .i64 tr, .int .i64 wt, .int .i64 ck, .int .i64 pr, .int .i64 ca, .int .i64 bi, .int .i64 ba]] w (Gives w (.bool true)) := by
  have HK := Lib.hid (fun W => lcheck wk cp pg st tr wt ck pr ca bi ba W)
  rw [if_neg (by rw [h]; simp)] at HK
  have HO := Lib.hid (fun W => of_wrong wk cp pg st tr wt ck pr ca bi ba W h)
  have HR := Lib.hid (fun W => rright wk cp pg st tr wt ck pr ca bi ba W)
  rw [h] at HR
  have HG := Lib.hid (fun W => lconfig 0 0 0 0 0 0 0 0 0 0 0 (fun _ => 0) W)
  have HD := Lib.hid (fun W => lwords 0 0 0 0 0 0 0 0 0 0 0 (fun _ => 0) W)
  have HC := Lib.hid (row_new w #[.int .i64 wk, .int .i64 cp, .int .i64 pg, .int .i64 st, .int .i64 tr, .int .i64 wt, .int .i64 ck, .int .i64 pr, .int .i64 ca, .int .i64 bi, .int .i64 ba] 23)
  have HM : Hid (More w (w.alloc (.cells #[.int .i64 wk, .int .i64 cp, .int .i64 pg, .int .i64 st, .int .i64 tr, .int .i64 wt, .int .i64 ck, .int .i64 pr, .int .i64 ca, .int .i64 bi, .int .i64 ba] 23))) := (More.refl w).alloc _
  clear h
  go_enter Try.func3, Try.ntmps3
  go_wp2_with (first | refine wpList_load_row rfl 23 _ rfl _ rfl 23 _ _ _ (HC.out) Try.underlying23 rfl (by kernel_rfl) ?_ | refine wpList_load_rowG rfl 23 _ rfl _ rfl 23 _ _ _ (HC.out) Try.underlying23 rfl (by kernel_rfl) ?_)
  refine (HK.out _).mono ?_
  rintro e w1 ⟨rfl, h1⟩
  have HC1 := Lib.hid (h1.block HC.out)
  have HM1 := Lib.hid (HM.out.trans h1)
  clear h1 HC HM
  go_wp2_with (first | refine wpList_load_row rfl 23 _ rfl _ rfl 23 _ _ _ (HC1.out) Try.underlying23 rfl (by kernel_rfl) ?_ | refine wpList_load_rowG rfl 23 _ rfl _ rfl 23 _ _ _ (HC1.out) Try.underlying23 rfl (by kernel_rfl) ?_)
  refine (HO.out _).mono ?_
  rintro e w2 ⟨rfl, h2⟩
  have HW2 : Hid (More w ((w2.alloc (.cells #[.int .i64 0, .int .i64 0, .int .i64 0, .int .i64 0, .int .i64 0, .int .i64 0, .int .i64 0, .int .i64 0, .int .i64 0, .int .i64 0, .int .i64 0, .int .i64 0, .int .i64 0, .int .i64 0, .int .i64 0, .int .i64 0, .int .i64 0, .int .i64 0, .int .i64 0, .int .i64 0, .int .i64 0, .int .i64 0, .int .i64 0, .int .i64 0] 28)).setRow w2.heap.size (layArr 0 0 0 0 0 0 0 0 0 0 0 (fun _ => 0)))) := ((HM1.out.trans h2).alloc _).setRow _ _ (by have := (HM1.out.trans h2).size; omega)
  have HL2 := Lib.hid (setRow_heap _ w2.heap.size _ (layArr 0 0 0 0 0 0 0 0 0 0 0 (fun _ => 0)) _ _ (row_new w2 #[.int .i64 0, .int .i64 0, .int .i64 0, .int .i64 0, .int .i64 0, .int .i64 0, .int .i64 0, .int .i64 0, .int .i64 0, .int .i64 0, .int .i64 0, .int .i64 0, .int .i64 0, .int .i64 0, .int .i64 0, .int .i64 0, .int .i64 0, .int .i64 0, .int .i64 0, .int .i64 0, .int .i64 0, .int .i64 0, .int .i64 0, .int .i64 0] 28))
  have HC2 : Hid (((w2.alloc (.cells #[.int .i64 0, .int .i64 0, .int .i64 0, .int .i64 0, .int .i64 0, .int .i64 0, .int .i64 0, .int .i64 0, .int .i64 0, .int .i64 0, .int .i64 0, .int .i64 0, .int .i64 0, .int .i64 0, .int .i64 0, .int .i64 0, .int .i64 0, .int .i64 0, .int .i64 0, .int .i64 0, .int .i64 0, .int .i64 0, .int .i64 0, .int .i64 0] 28)).setRow w2.heap.size (layArr 0 0 0 0 0 0 0 0 0 0 0 (fun _ => 0))).heap[w.heap.size]? = some (.cells #[.int .i64 wk, .int .i64 cp, .int .i64 pg, .int .i64 st, .int .i64 tr, .int .i64 wt, .int .i64 ck, .int .i64 pr, .int .i64 ca, .int .i64 bi, .int .i64 ba] 23 (0, 0))) := by
    rw [setRow_other _ _ _ _ (by have := lt_of_heap (h2.block HC1.out); omega)]; exact ((More.refl _).alloc _).block (h2.block HC1.out)
  clear h2 HC1 HM1
  go_wp2_with (first | (refine wpList_store_row rfl 28 _ _ rfl _ _ rfl rfl 28 _ (row_new w2 #[.int .i64 0, .int .i64 0, .int .i64 0, .int .i64 0, .int .i64 0, .int .i64 0, .int .i64 0, .int .i64 0, .int .i64 0, .int .i64 0, .int .i64 0, .int .i64 0, .int .i64 0, .int .i64 0, .int .i64 0, .int .i64 0, .int .i64 0, .int .i64 0, .int .i64 0, .int .i64 0, .int .i64 0, .int .i64 0, .int .i64 0, .int .i64 0] 28) (by kernel_rfl) rfl (layArr_one ..) ?_) | refine wpList_load_row rfl 23 _ rfl _ rfl 23 _ _ _ (HC2.out) Try.underlying23 rfl (by kernel_rfl) ?_ | refine wpList_load_rowG rfl 23 _ rfl _ rfl 23 _ _ _ (HC2.out) Try.underlying23 rfl (by kernel_rfl) ?_)
  refine (HR.out _).mono ?_
  rintro e w3 ⟨rfl, h3⟩
  have HM3 := Lib.hid (HW2.out.trans h3)
  have HL3 := Lib.hid (h3.block HL2.out)
  clear h3 HW2 HL2 HC2
  go_wp2_with (first | refine wpList_load_row rfl 28 _ rfl _ rfl 28 _ _ _ (HL3.out) Try.underlying28 rfl (by kernel_rfl) ?_ | refine wpList_load_rowG rfl 28 _ rfl _ rfl 28 _ _ _ (HL3.out) Try.underlying28 rfl (by kernel_rfl) ?_)
  refine (HG.out _).mono ?_
  rintro e w4 ⟨rfl, h4⟩
  have HM4 := Lib.hid (HM3.out.trans h4)
  have HL4 := Lib.hid (h4.block HL3.out)
  clear h4 HM3 HL3
  go_wp2_with (first | refine wpList_load_row rfl 28 _ rfl _ rfl 28 _ _ _ (HL4.out) Try.underlying28 rfl (by kernel_rfl) ?_ | refine wpList_load_rowG rfl 28 _ rfl _ rfl 28 _ _ _ (HL4.out) Try.underlying28 rfl (by kernel_rfl) ?_)
  refine (HD.out _).mono ?_
  rintro e w5 ⟨rfl, h5⟩
  have HM5 := Lib.hid (HM4.out.trans h5)
  clear h5 HM4 HL4
  go_wp2_with fail
  refine (lives_any _).mono ?_
  rintro e w6 ⟨rfl, h6⟩
  have HM6 := Lib.hid (HM5.out.trans h6)
  clear h6
  go_wp2_with fail
  go_ret
  exact ⟨rfl, HM6.out⟩

theorem checks_walk (wk_ : (Lit.int .i64 wk).wf = true) (cp_ : (Lit.int .i64 cp).wf = true) (pg_ : (Lit.int .i64 pg).wf = true) (st_ : (Lit.int .i64 st).wf = true) (tr_ : (Lit.int .i64 tr).wf = true) (wt_ : (Lit.int .i64 wt).wf = true) (ck_ : (Lit.int .i64 ck).wf = true) (pr_ : (Lit.int .i64 pr).wf = true) (ca_ : (Lit.int .i64 ca).wf = true) (bi_ : (Lit.int .i64 bi).wf = true) (ba_ : (Lit.int .i64 ba).wf = true) : Calls Try.prog 3 #[.agg #[.int .i64 wk, .int .i64 cp, .int .i64 pg, .int .i64 st, .int .i64 tr, .int .i64 wt, .int .i64 ck, .int .i64 pr, .int .i64 ca, .int .i64 bi, .int .i64 ba]] w (Gives w (.bool true)) := by
  cases h : rightB wk cp pg st tr wt ck pr ca bi ba with
  | true => exact checks_right _ _ _ _ _ _ _ _ _ _ _ w h
  | false => exact checks_wrong _ _ _ _ _ _ _ _ _ _ _ w h

end Go.Proofs.Ytollofgcijlofaa
