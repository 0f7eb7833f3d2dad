/-
  The walk of LayoutWords.
-/
import Derived.Test.YtollofgcijlofaaLayLives
import Derived.Test.YtollofgcijlofaaLayWithin
import Derived.Test.YtollofgcijlofaaLayRefD
import Derived.Test.YtollofgcijlofaaLayZero
namespace Go.Proofs.Ytollofgcijlofaa
open Go.RowKit
set_option linter.unusedVariables false
set_option linter.unusedSimpArgs false

variable (y0 y1 y2 y3 y4 y5 y6 y7 y8 y9 y10 wk cp pg st tr wt ck pr ca bi ba : Int) (a u c : Int) (w : World)

set_option maxRecDepth 100000 in
set_option maxHeartbeats 32000000 in
theorem words_core (R : CfgOk wk cp pg st tr wt ck pr ca bi ba) (HS : Hid (∀ W, Calls Try.prog 14 #[.agg #[.int .i64 y0, .int .i64 y1, .int .i64 y2, .int .i64 y3, .int .i64 y4, .int .i64 y5, .int .i64 y6, .int .i64 y7, .int .i64 y8, .int .i64 y9, .int .i64 y10]] W (Gives W (.agg #[.int .i64 wk, .int .i64 cp, .int .i64 pg, .int .i64 st, .int .i64 tr, .int .i64 wt, .int .i64 ck, .int .i64 pr, .int .i64 ca, .int .i64 bi, .int .i64 ba])))) (x y : Int) (b : Bool)
    (HP : Hid (∀ W, Calls Try.prog 33 #[.agg (layArr wk cp pg st tr wt ck pr ca bi ba (startsV cp pg st ca bi)), .int .i64 a] W (Gives W (.tuple #[.int .i64 x, .int .i64 y, .bool b]))))
    (HT : Hid (∀ W, Calls Try.prog 34 #[.agg #[.int .i64 wk, .int .i64 cp, .int .i64 pg, .int .i64 st, .int .i64 tr, .int .i64 wt, .int .i64 ck, .int .i64 pr, .int .i64 ca, .int .i64 bi, .int .i64 ba], .int .i64 a] W (Gives W (.tuple #[.int .i64 x, .int .i64 y, .bool b])))) :
    Calls Try.prog 5 #[.agg #[.int .i64 y0, .int .i64 y1, .int .i64 y2, .int .i64 y3, .int .i64 y4, .int .i64 y5, .int .i64 y6, .int .i64 y7, .int .i64 y8, .int .i64 y9, .int .i64 y10], .int .i64 a, .int .i64 u, .int .i64 c] w (Gives w (.bool true)) := by
  have k0 : IntKind.i64.wrap (0 + 0) = 0 := rfl
  have k1 : IntKind.i64.wrap 0 = 0 := rfl
  have HO := Lib.hid (fun W => of_right wk cp pg st tr wt ck pr ca bi ba W R)
  have HQ := Lib.hid R
  have HC := Lib.hid (row_new w #[.int .i64 y0, .int .i64 y1, .int .i64 y2, .int .i64 y3, .int .i64 y4, .int .i64 y5, .int .i64 y6, .int .i64 y7, .int .i64 y8, .int .i64 y9, .int .i64 y10] 23)
  have HM : Hid (More w (w.alloc (.cells #[.int .i64 y0, .int .i64 y1, .int .i64 y2, .int .i64 y3, .int .i64 y4, .int .i64 y5, .int .i64 y6, .int .i64 y7, .int .i64 y8, .int .i64 y9, .int .i64 y10] 23))) := (More.refl w).alloc _
  clear R
  go_enter Try.func5, Try.ntmps5
  go_wp2_with (first | refine wpList_load_row rfl 23 _ rfl _ rfl 23 _ _ _ (HC.out) Try.underlying23 rfl (by kernel_rfl) ?_ | refine wpList_load_rowG rfl 23 _ rfl _ rfl 23 _ _ _ (HC.out) Try.underlying23 rfl (by kernel_rfl) ?_)
  refine (HS.out _).mono ?_
  rintro e w1 ⟨rfl, h1⟩
  have HM1 : Hid (More w (w1.setRow w.heap.size #[.int .i64 wk, .int .i64 cp, .int .i64 pg, .int .i64 st, .int .i64 tr, .int .i64 wt, .int .i64 ck, .int .i64 pr, .int .i64 ca, .int .i64 bi, .int .i64 ba])) := (HM.out.trans h1).setRow _ _ (by omega)
  have HC1 := Lib.hid (setRow_heap w1 w.heap.size _ #[.int .i64 wk, .int .i64 cp, .int .i64 pg, .int .i64 st, .int .i64 tr, .int .i64 wt, .int .i64 ck, .int .i64 pr, .int .i64 ca, .int .i64 bi, .int .i64 ba] _ _ (h1.block HC.out))
  have HC0 := Lib.hid (h1.block HC.out)
  clear h1 HC HM
  go_wp2_with (first | (refine wpList_store_row rfl 23 _ _ rfl _ _ rfl rfl 23 _ HC0.out (by kernel_rfl) rfl (by simp [Value.oneCell']) ?_) | refine wpList_load_row rfl 23 _ rfl _ rfl 23 _ _ _ (HC1.out) Try.underlying23 rfl (by kernel_rfl) ?_ | refine wpList_load_rowG rfl 23 _ rfl _ rfl 23 _ _ _ (HC1.out) Try.underlying23 rfl (by kernel_rfl) ?_)
  refine (HO.out _).mono ?_
  rintro e w2 ⟨rfl, h2⟩
  have hsz := lt_of_heap (h2.block HC1.out)
  have HM2 : Hid (More w ((w2.alloc (.cells #[.int .i64 0, .int .i64 0, .int .i64 0, .int .i64 0, .int .i64 0, .int .i64 0, .int .i64 0, .int .i64 0, .int .i64 0, .int .i64 0, .int .i64 0, .int .i64 0, .int .i64 0, .int .i64 0, .int .i64 0, .int .i64 0, .int .i64 0, .int .i64 0, .int .i64 0, .int .i64 0, .int .i64 0, .int .i64 0, .int .i64 0, .int .i64 0] 28)).setRow w2.heap.size (layArr wk cp pg st tr wt ck pr ca bi ba (startsV cp pg st ca bi)))) := ((HM1.out.trans h2).alloc _).setRow _ _ (by omega)
  have HL2 := Lib.hid (setRow_heap _ w2.heap.size _ (layArr wk cp pg st tr wt ck pr ca bi ba (startsV cp pg st ca bi)) _ _ (row_new w2 #[.int .i64 0, .int .i64 0, .int .i64 0, .int .i64 0, .int .i64 0, .int .i64 0, .int .i64 0, .int .i64 0, .int .i64 0, .int .i64 0, .int .i64 0, .int .i64 0, .int .i64 0, .int .i64 0, .int .i64 0, .int .i64 0, .int .i64 0, .int .i64 0, .int .i64 0, .int .i64 0, .int .i64 0, .int .i64 0, .int .i64 0, .int .i64 0] 28))
  have HC2 : Hid (((w2.alloc (.cells #[.int .i64 0, .int .i64 0, .int .i64 0, .int .i64 0, .int .i64 0, .int .i64 0, .int .i64 0, .int .i64 0, .int .i64 0, .int .i64 0, .int .i64 0, .int .i64 0, .int .i64 0, .int .i64 0, .int .i64 0, .int .i64 0, .int .i64 0, .int .i64 0, .int .i64 0, .int .i64 0, .int .i64 0, .int .i64 0, .int .i64 0, .int .i64 0] 28)).setRow w2.heap.size (layArr wk cp pg st tr wt ck pr ca bi ba (startsV cp pg st ca bi))).heap[w.heap.size]? = some (.cells #[.int .i64 wk, .int .i64 cp, .int .i64 pg, .int .i64 st, .int .i64 tr, .int .i64 wt, .int .i64 ck, .int .i64 pr, .int .i64 ca, .int .i64 bi, .int .i64 ba] 23 (0, 0))) := by
    rw [setRow_other _ _ _ _ (by omega)]; exact ((More.refl _).alloc _).block (h2.block HC1.out)
  have hz : ((w2.alloc (.cells #[.int .i64 0, .int .i64 0, .int .i64 0, .int .i64 0, .int .i64 0, .int .i64 0, .int .i64 0, .int .i64 0, .int .i64 0, .int .i64 0, .int .i64 0, .int .i64 0, .int .i64 0, .int .i64 0, .int .i64 0, .int .i64 0, .int .i64 0, .int .i64 0, .int .i64 0, .int .i64 0, .int .i64 0, .int .i64 0, .int .i64 0, .int .i64 0] 28)).setRow w2.heap.size (layArr wk cp pg st tr wt ck pr ca bi ba (startsV cp pg st ca bi))).heap.size = w2.heap.size + 1 := by rw [setRow_size, World.size_alloc]
  have HN3 : Hid ((((w2.alloc (.cells #[.int .i64 0, .int .i64 0, .int .i64 0, .int .i64 0, .int .i64 0, .int .i64 0, .int .i64 0, .int .i64 0, .int .i64 0, .int .i64 0, .int .i64 0, .int .i64 0, .int .i64 0, .int .i64 0, .int .i64 0, .int .i64 0, .int .i64 0, .int .i64 0, .int .i64 0, .int .i64 0, .int .i64 0, .int .i64 0, .int .i64 0, .int .i64 0] 28)).setRow w2.heap.size (layArr wk cp pg st tr wt ck pr ca bi ba (startsV cp pg st ca bi))).alloc (.cells #[.int .i64 0, .int .i64 0, .int .i64 0, .int .i64 0, .int .i64 0, .int .i64 0, .int .i64 0, .int .i64 0, .int .i64 0, .int .i64 0, .int .i64 0] 37)).heap[w2.heap.size + 1]? = some (.cells #[.int .i64 0, .int .i64 0, .int .i64 0, .int .i64 0, .int .i64 0, .int .i64 0, .int .i64 0, .int .i64 0, .int .i64 0, .int .i64 0, .int .i64 0] 37 (0, 0))) := by
    have := row_new ((w2.alloc (.cells #[.int .i64 0, .int .i64 0, .int .i64 0, .int .i64 0, .int .i64 0, .int .i64 0, .int .i64 0, .int .i64 0, .int .i64 0, .int .i64 0, .int .i64 0, .int .i64 0, .int .i64 0, .int .i64 0, .int .i64 0, .int .i64 0, .int .i64 0, .int .i64 0, .int .i64 0, .int .i64 0, .int .i64 0, .int .i64 0, .int .i64 0, .int .i64 0] 28)).setRow w2.heap.size (layArr wk cp pg st tr wt ck pr ca bi ba (startsV cp pg st ca bi))) #[.int .i64 0, .int .i64 0, .int .i64 0, .int .i64 0, .int .i64 0, .int .i64 0, .int .i64 0, .int .i64 0, .int .i64 0, .int .i64 0, .int .i64 0] 37
    rwa [hz] at this
  have HM3 : Hid (More w ((((w2.alloc (.cells #[.int .i64 0, .int .i64 0, .int .i64 0, .int .i64 0, .int .i64 0, .int .i64 0, .int .i64 0, .int .i64 0, .int .i64 0, .int .i64 0, .int .i64 0, .int .i64 0, .int .i64 0, .int .i64 0, .int .i64 0, .int .i64 0, .int .i64 0, .int .i64 0, .int .i64 0, .int .i64 0, .int .i64 0, .int .i64 0, .int .i64 0, .int .i64 0] 28)).setRow w2.heap.size (layArr wk cp pg st tr wt ck pr ca bi ba (startsV cp pg st ca bi))).alloc (.cells #[.int .i64 0, .int .i64 0, .int .i64 0, .int .i64 0, .int .i64 0, .int .i64 0, .int .i64 0, .int .i64 0, .int .i64 0, .int .i64 0, .int .i64 0] 37)).setRow (w2.heap.size + 1) #[.int .i64 wk, .int .i64 cp, .int .i64 pg, .int .i64 st, .int .i64 tr, .int .i64 wt, .int .i64 ck, .int .i64 pr, .int .i64 ca, .int .i64 bi, .int .i64 ba])) := (HM2.out.alloc _).setRow _ _ (by omega)
  have HL3 : Hid (((((w2.alloc (.cells #[.int .i64 0, .int .i64 0, .int .i64 0, .int .i64 0, .int .i64 0, .int .i64 0, .int .i64 0, .int .i64 0, .int .i64 0, .int .i64 0, .int .i64 0, .int .i64 0, .int .i64 0, .int .i64 0, .int .i64 0, .int .i64 0, .int .i64 0, .int .i64 0, .int .i64 0, .int .i64 0, .int .i64 0, .int .i64 0, .int .i64 0, .int .i64 0] 28)).setRow w2.heap.size (layArr wk cp pg st tr wt ck pr ca bi ba (startsV cp pg st ca bi))).alloc (.cells #[.int .i64 0, .int .i64 0, .int .i64 0, .int .i64 0, .int .i64 0, .int .i64 0, .int .i64 0, .int .i64 0, .int .i64 0, .int .i64 0, .int .i64 0] 37)).setRow (w2.heap.size + 1) #[.int .i64 wk, .int .i64 cp, .int .i64 pg, .int .i64 st, .int .i64 tr, .int .i64 wt, .int .i64 ck, .int .i64 pr, .int .i64 ca, .int .i64 bi, .int .i64 ba]).heap[w2.heap.size]? = some (.cells (layArr wk cp pg st tr wt ck pr ca bi ba (startsV cp pg st ca bi)) 28 (0, 0))) := by
    rw [setRow_other _ _ _ _ (by omega)]; exact ((More.refl _).alloc _).block HL2.out
  have HR3 : Hid (((((w2.alloc (.cells #[.int .i64 0, .int .i64 0, .int .i64 0, .int .i64 0, .int .i64 0, .int .i64 0, .int .i64 0, .int .i64 0, .int .i64 0, .int .i64 0, .int .i64 0, .int .i64 0, .int .i64 0, .int .i64 0, .int .i64 0, .int .i64 0, .int .i64 0, .int .i64 0, .int .i64 0, .int .i64 0, .int .i64 0, .int .i64 0, .int .i64 0, .int .i64 0] 28)).setRow w2.heap.size (layArr wk cp pg st tr wt ck pr ca bi ba (startsV cp pg st ca bi))).alloc (.cells #[.int .i64 0, .int .i64 0, .int .i64 0, .int .i64 0, .int .i64 0, .int .i64 0, .int .i64 0, .int .i64 0, .int .i64 0, .int .i64 0, .int .i64 0] 37)).setRow (w2.heap.size + 1) #[.int .i64 wk, .int .i64 cp, .int .i64 pg, .int .i64 st, .int .i64 tr, .int .i64 wt, .int .i64 ck, .int .i64 pr, .int .i64 ca, .int .i64 bi, .int .i64 ba]).heap[w2.heap.size + 1]? = some (.cells #[.int .i64 wk, .int .i64 cp, .int .i64 pg, .int .i64 st, .int .i64 tr, .int .i64 wt, .int .i64 ck, .int .i64 pr, .int .i64 ca, .int .i64 bi, .int .i64 ba] 37 (0, 0))) := setRow_heap _ _ _ _ _ _ HN3.out
  clear h2 HC1 HM1 HC0 hsz hz HM2 HL2
  go_wp2_with (first | (refine wpList_store_row rfl 28 _ _ rfl _ _ rfl rfl 28 _ (row_new w2 #[.int .i64 0, .int .i64 0, .int .i64 0, .int .i64 0, .int .i64 0, .int .i64 0, .int .i64 0, .int .i64 0, .int .i64 0, .int .i64 0, .int .i64 0, .int .i64 0, .int .i64 0, .int .i64 0, .int .i64 0, .int .i64 0, .int .i64 0, .int .i64 0, .int .i64 0, .int .i64 0, .int .i64 0, .int .i64 0, .int .i64 0, .int .i64 0] 28) (by kernel_rfl) rfl (layArr_one ..) ?_) | refine wpList_load_row rfl 23 _ rfl _ rfl 23 _ _ _ (HC2.out) Try.underlying23 rfl (by kernel_rfl) ?_ | refine wpList_load_rowG rfl 23 _ rfl _ rfl 23 _ _ _ (HC2.out) Try.underlying23 rfl (by kernel_rfl) ?_ | (refine wpList_store_row rfl 37 _ _ rfl _ _ rfl rfl 37 _ HN3.out (by kernel_rfl) rfl (by simp [Value.oneCell']) ?_) | refine wpList_load_row rfl 28 _ rfl _ rfl 28 _ _ _ (HL3.out) Try.underlying28 rfl (by kernel_rfl) ?_ | refine wpList_load_rowG rfl 28 _ rfl _ rfl 28 _ _ _ (HL3.out) Try.underlying28 rfl (by kernel_rfl) ?_)
  generalize ((((w2.alloc (.cells #[.int .i64 0, .int .i64 0, .int .i64 0, .int .i64 0, .int .i64 0, .int .i64 0, .int .i64 0, .int .i64 0, .int .i64 0, .int .i64 0, .int .i64 0, .int .i64 0, .int .i64 0, .int .i64 0, .int .i64 0, .int .i64 0, .int .i64 0, .int .i64 0, .int .i64 0, .int .i64 0, .int .i64 0, .int .i64 0, .int .i64 0, .int .i64 0] 28)).setRow w2.heap.size (layArr wk cp pg st tr wt ck pr ca bi ba (startsV cp pg st ca bi))).alloc (.cells #[.int .i64 0, .int .i64 0, .int .i64 0, .int .i64 0, .int .i64 0, .int .i64 0, .int .i64 0, .int .i64 0, .int .i64 0, .int .i64 0, .int .i64 0] 37)).setRow (w2.heap.size + 1) #[.int .i64 wk, .int .i64 cp, .int .i64 pg, .int .i64 st, .int .i64 tr, .int .i64 wt, .int .i64 ck, .int .i64 pr, .int .i64 ca, .int .i64 bi, .int .i64 ba]) = W0 at *
  refine (HP.out _).mono ?_
  rintro e w3 ⟨rfl, h3⟩
  have HM4 := Lib.hid (HM3.out.trans h3)
  have HL4 := Lib.hid (h3.block HL3.out)
  have HR4 := Lib.hid (h3.block HR3.out)
  clear h3 HM3 HL3 HR3
  go_wp2_with (first | refine wpList_load_row rfl 37 _ rfl _ rfl 37 _ _ _ (HR4.out) Try.underlying37 rfl (by kernel_rfl) ?_ | refine wpList_load_rowG rfl 37 _ rfl _ rfl 37 _ _ _ (HR4.out) Try.underlying37 rfl (by kernel_rfl) ?_)
  refine (HT.out _).mono ?_
  rintro e w4 ⟨rfl, h4⟩
  have HM5 := Lib.hid (HM4.out.trans h4)
  have HL5 := Lib.hid (h4.block HL4.out)
  have HR5 := Lib.hid (h4.block HR4.out)
  clear h4 HM4 HL4 HR4
  go_wp2_with fail
  have hne : ∃ W, More w4 W := ⟨w4, More.refl _⟩
  refine wp_region_more (by kernel_rfl) (by kernel_rfl) ?_
  iterate 31
    first
    | (refine wpQuiet_load_row rfl 28 _ rfl _ rfl 28 _ _ _ (fun W hW => hW.block HL5.out) Try.underlying28 rfl (by kernel_rfl) ?_)
    | (refine wpQuiet_load_row rfl 37 _ rfl _ rfl 37 _ _ _ (fun W hW => hW.block HR5.out) Try.underlying37 rfl (by kernel_rfl) ?_)
    | (with_reducible refine wpQuiet_step (fun K hK => ?_)
       go_simp
       first
       | (refine hK _ ?_; clear hK K)
       | (apply Exists.intro
          refine ⟨fun W hW => ?_, hK _ ?_⟩
          first
          | (go_at_call 12; exact Calls.more hW (xwords HQ.out W))
          | (go_at_call 35; exact Calls.more hW (rwords _ _ _ _ _ _ _ _ _ _ _ W HQ.out))
          | (go_at_call 36; exact Calls.more hW (xuser HQ.out W))
          | (go_at_call 37; exact Calls.more hW (ruser _ _ _ _ _ _ _ _ _ _ _ W HQ.out))
          | ((try go_simp); try rfl)
          clear hK K))
  refine wpQuiet_nil ?_
  intro W6 hW
  have HM6 := Lib.hid (HM5.out.trans hW)
  have HL6 := Lib.hid (hW.block HL5.out)
  have HR6 := Lib.hid (hW.block HR5.out)
  have hs6 := lt_of_heap HL6.out
  have hs7 := lt_of_heap HR6.out
  have HN6 : Hid ((W6.alloc (.cells #[.int .i64 0, .int .i64 0, .int .i64 0, .int .i64 0, .int .i64 0, .int .i64 0, .int .i64 0, .int .i64 0, .int .i64 0, .int .i64 0, .int .i64 0, .int .i64 0, .int .i64 0, .int .i64 0, .int .i64 0, .int .i64 0, .int .i64 0, .int .i64 0, .int .i64 0, .int .i64 0, .int .i64 0, .int .i64 0, .int .i64 0, .int .i64 0] 28)).heap[W6.heap.size]? = some (.cells (layArr 0 0 0 0 0 0 0 0 0 0 0 (fun _ => 0)) 28 (0, 0))) := row_new W6 #[.int .i64 0, .int .i64 0, .int .i64 0, .int .i64 0, .int .i64 0, .int .i64 0, .int .i64 0, .int .i64 0, .int .i64 0, .int .i64 0, .int .i64 0, .int .i64 0, .int .i64 0, .int .i64 0, .int .i64 0, .int .i64 0, .int .i64 0, .int .i64 0, .int .i64 0, .int .i64 0, .int .i64 0, .int .i64 0, .int .i64 0, .int .i64 0] 28
  have HM7 : Hid (More w ((W6.alloc (.cells #[.int .i64 0, .int .i64 0, .int .i64 0, .int .i64 0, .int .i64 0, .int .i64 0, .int .i64 0, .int .i64 0, .int .i64 0, .int .i64 0, .int .i64 0, .int .i64 0, .int .i64 0, .int .i64 0, .int .i64 0, .int .i64 0, .int .i64 0, .int .i64 0, .int .i64 0, .int .i64 0, .int .i64 0, .int .i64 0, .int .i64 0, .int .i64 0] 28)).setRow W6.heap.size (layArr 0 0 0 0 0 0 0 0 0 0 0 (fun _ => 0)))) := (HM6.out.alloc _).setRow _ _ (by have := HM6.out.size; omega)
  have HZ7 := Lib.hid (setRow_heap _ W6.heap.size _ (layArr 0 0 0 0 0 0 0 0 0 0 0 (fun _ => 0)) _ _ HN6.out)
  have HL7 : Hid (((W6.alloc (.cells #[.int .i64 0, .int .i64 0, .int .i64 0, .int .i64 0, .int .i64 0, .int .i64 0, .int .i64 0, .int .i64 0, .int .i64 0, .int .i64 0, .int .i64 0, .int .i64 0, .int .i64 0, .int .i64 0, .int .i64 0, .int .i64 0, .int .i64 0, .int .i64 0, .int .i64 0, .int .i64 0, .int .i64 0, .int .i64 0, .int .i64 0, .int .i64 0] 28)).setRow W6.heap.size (layArr 0 0 0 0 0 0 0 0 0 0 0 (fun _ => 0))).heap[w2.heap.size]? = some (.cells (layArr wk cp pg st tr wt ck pr ca bi ba (startsV cp pg st ca bi)) 28 (0, 0))) := by
    rw [setRow_other _ _ _ _ (by omega)]; exact ((More.refl _).alloc _).block HL6.out
  have HR7 : Hid (((W6.alloc (.cells #[.int .i64 0, .int .i64 0, .int .i64 0, .int .i64 0, .int .i64 0, .int .i64 0, .int .i64 0, .int .i64 0, .int .i64 0, .int .i64 0, .int .i64 0, .int .i64 0, .int .i64 0, .int .i64 0, .int .i64 0, .int .i64 0, .int .i64 0, .int .i64 0, .int .i64 0, .int .i64 0, .int .i64 0, .int .i64 0, .int .i64 0, .int .i64 0] 28)).setRow W6.heap.size (layArr 0 0 0 0 0 0 0 0 0 0 0 (fun _ => 0))).heap[w2.heap.size + 1]? = some (.cells #[.int .i64 wk, .int .i64 cp, .int .i64 pg, .int .i64 st, .int .i64 tr, .int .i64 wt, .int .i64 ck, .int .i64 pr, .int .i64 ca, .int .i64 bi, .int .i64 ba] 37 (0, 0))) := by
    rw [setRow_other _ _ _ _ (by omega)]; exact ((More.refl _).alloc _).block HR6.out
  clear hW HM5 HL5 HR5 HM6 HL6 HR6 hs6 hs7
  go_wp2_with (first | (refine wpList_store_row rfl 28 _ _ rfl _ _ rfl rfl 28 _ HN6.out (by kernel_rfl) rfl (by simp [Value.oneCell']) ?_) | refine wpList_load_row rfl 28 _ rfl _ rfl 28 _ _ _ (HZ7.out) Try.underlying28 rfl (by kernel_rfl) ?_ | refine wpList_load_rowG rfl 28 _ rfl _ rfl 28 _ _ _ (HZ7.out) Try.underlying28 rfl (by kernel_rfl) ?_)
  refine (zplace _ a).mono ?_
  rintro e w8 ⟨rfl, h8⟩
  have HM8 := Lib.hid (HM7.out.trans h8)
  have HL8 := Lib.hid (h8.block HL7.out)
  have HR8 := Lib.hid (h8.block HR7.out)
  have HZ8 := Lib.hid (h8.block HZ7.out)
  clear h8 HM7 HL7 HR7 HZ7 HN6
  go_wp2_with fail
  have hne : ∃ W, More w8 W := ⟨w8, More.refl _⟩
  refine wp_region_more (by kernel_rfl) (by kernel_rfl) ?_
  iterate 45
    first
    | (refine wpQuiet_load_row rfl 28 _ rfl _ rfl 28 _ _ _ (fun W hW => hW.block HZ8.out) Try.underlying28 rfl (by kernel_rfl) ?_)
    | (with_reducible refine wpQuiet_step (fun K hK => ?_)
       go_simp
       first
       | (refine hK _ ?_; clear hK K)
       | (apply Exists.intro
          refine ⟨fun W hW => ?_, hK _ ?_⟩
          first
          | (go_at_call 12; exact Calls.more hW (zwords W))
          | (go_at_call 36; exact Calls.more hW (zuser W))
          | (go_at_call 15; exact Calls.more hW (zchunks W))
          | (go_at_call 38; exact Calls.more hW (zlock W a))
          | (go_at_call 17; exact Calls.more hW (ztable W c))
          | (go_at_call 21; exact Calls.more hW (zkind W c))
          | (go_at_call 19; exact Calls.more hW (zhead W c 1))
          | (go_at_call 39; exact Calls.more hW (zcache W u c))
          | (go_at_call 40; exact Calls.more hW (zbin W c))
          | (go_at_call 41; exact Calls.more hW (zlive W a))
          | (go_at_call 31; exact Calls.more hW (zaddr W c))
          | ((try go_simp); try rfl)
          clear hK K))
  refine wpQuiet_nil ?_
  intro W9 hW
  have HM9 := Lib.hid (HM8.out.trans hW)
  have HL9 := Lib.hid (hW.block HL8.out)
  have HR9 := Lib.hid (hW.block HR8.out)
  clear hW HM8 HL8 HR8 HZ8
  go_wp2_with fail
  have hne : ∃ W, More W9 W := ⟨W9, More.refl _⟩
  refine wp_region_more (by kernel_rfl) (by kernel_rfl) ?_
  iterate 40
    first
    | (refine wpQuiet_load_row rfl 28 _ rfl _ rfl 28 _ _ _ (fun W hW => hW.block HL9.out) Try.underlying28 rfl (by kernel_rfl) ?_)
    | (refine wpQuiet_load_row rfl 37 _ rfl _ rfl 37 _ _ _ (fun W hW => hW.block HR9.out) Try.underlying37 rfl (by kernel_rfl) ?_)
    | (with_reducible refine wpQuiet_step (fun K hK => ?_)
       go_simp
       first
       | (refine hK _ ?_; clear hK K)
       | (apply Exists.intro
          refine ⟨fun W hW => ?_, hK _ ?_⟩
          first
          | (go_at_call 38; exact Calls.more hW (xlock HQ.out W a))
          | (go_at_call 42; exact Calls.more hW (rlock _ _ _ _ _ _ _ _ _ _ _ W a HQ.out))
          | (go_at_call 39; exact Calls.more hW (xcache HQ.out W u c))
          | (go_at_call 43; exact Calls.more hW (rcache _ _ _ _ _ _ _ _ _ _ _ W u c HQ.out))
          | (go_at_call 40; exact Calls.more hW (xbin HQ.out W c))
          | (go_at_call 44; exact Calls.more hW (rbin _ _ _ _ _ _ _ _ _ _ _ W c HQ.out))
          | (go_at_call 41; exact Calls.more hW (xlive HQ.out W a))
          | (go_at_call 45; exact Calls.more hW (rliveAt _ _ _ _ _ _ _ _ _ _ _ W a HQ.out))
          | (go_at_call 13; exact Calls.more hW (lives_any W))
          | ((try go_simp); try rfl)
          clear hK K))
  refine wpQuiet_nil ?_
  intro W5 hW
  have HMA := Lib.hid (HM9.out.trans hW)
  clear hW
  go_wp2_with fail
  go_ret
  exact ⟨rfl, HMA.out⟩

theorem words_all (R : CfgOk wk cp pg st tr wt ck pr ca bi ba) (HS : Hid (∀ W, Calls Try.prog 14 #[.agg #[.int .i64 y0, .int .i64 y1, .int .i64 y2, .int .i64 y3, .int .i64 y4, .int .i64 y5, .int .i64 y6, .int .i64 y7, .int .i64 y8, .int .i64 y9, .int .i64 y10]] W (Gives W (.agg #[.int .i64 wk, .int .i64 cp, .int .i64 pg, .int .i64 st, .int .i64 tr, .int .i64 wt, .int .i64 ck, .int .i64 pr, .int .i64 ca, .int .i64 bi, .int .i64 ba])))) : Calls Try.prog 5 #[.agg #[.int .i64 y0, .int .i64 y1, .int .i64 y2, .int .i64 y3, .int .i64 y4, .int .i64 y5, .int .i64 y6, .int .i64 y7, .int .i64 y8, .int .i64 y9, .int .i64 y10], .int .i64 a, .int .i64 u, .int .i64 c] w (Gives w (.bool true)) := by
  by_cases h : userV cp pg st ca bi ≤ a ∧ a < wordsV cp pg st ca bi
  · exact words_core y0 y1 y2 y3 y4 y5 y6 y7 y8 y9 y10 wk cp pg st tr wt ck pr ca bi ba a u c w R HS _ _ _ (fun W => xplace_in R W a h.1 h.2) (fun W => rplace_in wk cp pg st tr wt ck pr ca bi ba W a R h.1 h.2)
  · exact words_core y0 y1 y2 y3 y4 y5 y6 y7 y8 y9 y10 wk cp pg st tr wt ck pr ca bi ba a u c w R HS _ _ _ (fun W => xplace_out R W a (by omega)) (fun W => rplace_out wk cp pg st tr wt ck pr ca bi ba W a R (by omega))

end Go.Proofs.Ytollofgcijlofaa
