/-
  The walk of LayoutPages.
-/
import Derived.Test.YtollofgcijlofaaLayLives
import Derived.Test.YtollofgcijlofaaLayWithin
import Derived.Test.YtollofgcijlofaaLayRefD
namespace Go.Proofs.Ytollofgcijlofaa
open Go.RowKit
set_option linter.unusedVariables false
set_option linter.unusedSimpArgs false

variable (y0 y1 y2 y3 y4 y5 y6 y7 y8 y9 y10 wk cp pg st tr wt ck pr ca bi ba : Int) (p q f : Int) (w : World)

set_option maxRecDepth 100000 in
set_option maxHeartbeats 16000000 in
theorem pages_core (R : CfgOk wk cp pg st tr wt ck pr ca bi ba) (HS : Hid (∀ W, Calls Try.prog 14 #[.agg #[.int .i64 y0, .int .i64 y1, .int .i64 y2, .int .i64 y3, .int .i64 y4, .int .i64 y5, .int .i64 y6, .int .i64 y7, .int .i64 y8, .int .i64 y9, .int .i64 y10]] W (Gives W (.agg #[.int .i64 wk, .int .i64 cp, .int .i64 pg, .int .i64 st, .int .i64 tr, .int .i64 wt, .int .i64 ck, .int .i64 pr, .int .i64 ca, .int .i64 bi, .int .i64 ba])))) :
    Calls Try.prog 4 #[.agg #[.int .i64 y0, .int .i64 y1, .int .i64 y2, .int .i64 y3, .int .i64 y4, .int .i64 y5, .int .i64 y6, .int .i64 y7, .int .i64 y8, .int .i64 y9, .int .i64 y10], .int .i64 p, .int .i64 q, .int .i64 f] w (Gives w (.bool true)) := by
  have HO := Lib.hid (fun W => of_right wk cp pg st tr wt ck pr ca bi ba W R)
  have HQ := Lib.hid R
  have HC := Lib.hid (row_new w #[.int .i64 y0, .int .i64 y1, .int .i64 y2, .int .i64 y3, .int .i64 y4, .int .i64 y5, .int .i64 y6, .int .i64 y7, .int .i64 y8, .int .i64 y9, .int .i64 y10] 23)
  have HM : Hid (More w (w.alloc (.cells #[.int .i64 y0, .int .i64 y1, .int .i64 y2, .int .i64 y3, .int .i64 y4, .int .i64 y5, .int .i64 y6, .int .i64 y7, .int .i64 y8, .int .i64 y9, .int .i64 y10] 23))) := (More.refl w).alloc _
  clear R
  go_enter Try.func4, Try.ntmps4
  go_wp2_with (first | refine wpList_load_row rfl 23 _ rfl _ rfl 23 _ _ _ (HC.out) Try.underlying23 rfl (by kernel_rfl) ?_ | refine wpList_load_rowG rfl 23 _ rfl _ rfl 23 _ _ _ (HC.out) Try.underlying23 rfl (by kernel_rfl) ?_)
  refine (HS.out _).mono ?_
  rintro e w1 ⟨rfl, h1⟩
  have HM1 : Hid (More w (w1.setRow w.heap.size #[.int .i64 wk, .int .i64 cp, .int .i64 pg, .int .i64 st, .int .i64 tr, .int .i64 wt, .int .i64 ck, .int .i64 pr, .int .i64 ca, .int .i64 bi, .int .i64 ba])) := (HM.out.trans h1).setRow _ _ (by omega)
  have HC1 := Lib.hid (setRow_heap w1 w.heap.size _ #[.int .i64 wk, .int .i64 cp, .int .i64 pg, .int .i64 st, .int .i64 tr, .int .i64 wt, .int .i64 ck, .int .i64 pr, .int .i64 ca, .int .i64 bi, .int .i64 ba] _ _ (h1.block HC.out))
  have HC0 := Lib.hid (h1.block HC.out)
  clear h1 HC HM
  go_wp2_with (first | (refine wpList_store_row rfl 23 _ _ rfl _ _ rfl rfl 23 _ HC0.out (by kernel_rfl) rfl (by simp [Value.oneCell']) ?_) | refine wpList_load_row rfl 23 _ rfl _ rfl 23 _ _ _ (HC1.out) Try.underlying23 rfl (by kernel_rfl) ?_ | refine wpList_load_rowG rfl 23 _ rfl _ rfl 23 _ _ _ (HC1.out) Try.underlying23 rfl (by kernel_rfl) ?_)
  refine (HO.out _).mono ?_
  rintro e w2 ⟨rfl, h2⟩
  have hsz := lt_of_heap (h2.block HC1.out)
  have HM2 : Hid (More w ((w2.alloc (.cells #[.int .i64 0, .int .i64 0, .int .i64 0, .int .i64 0, .int .i64 0, .int .i64 0, .int .i64 0, .int .i64 0, .int .i64 0, .int .i64 0, .int .i64 0, .int .i64 0, .int .i64 0, .int .i64 0, .int .i64 0, .int .i64 0, .int .i64 0, .int .i64 0, .int .i64 0, .int .i64 0, .int .i64 0, .int .i64 0, .int .i64 0, .int .i64 0] 28)).setRow w2.heap.size (layArr wk cp pg st tr wt ck pr ca bi ba (startsV cp pg st ca bi)))) := ((HM1.out.trans h2).alloc _).setRow _ _ (by omega)
  have HL2 := Lib.hid (setRow_heap _ w2.heap.size _ (layArr wk cp pg st tr wt ck pr ca bi ba (startsV cp pg st ca bi)) _ _ (row_new w2 #[.int .i64 0, .int .i64 0, .int .i64 0, .int .i64 0, .int .i64 0, .int .i64 0, .int .i64 0, .int .i64 0, .int .i64 0, .int .i64 0, .int .i64 0, .int .i64 0, .int .i64 0, .int .i64 0, .int .i64 0, .int .i64 0, .int .i64 0, .int .i64 0, .int .i64 0, .int .i64 0, .int .i64 0, .int .i64 0, .int .i64 0, .int .i64 0] 28))
  have HC2 : Hid (((w2.alloc (.cells #[.int .i64 0, .int .i64 0, .int .i64 0, .int .i64 0, .int .i64 0, .int .i64 0, .int .i64 0, .int .i64 0, .int .i64 0, .int .i64 0, .int .i64 0, .int .i64 0, .int .i64 0, .int .i64 0, .int .i64 0, .int .i64 0, .int .i64 0, .int .i64 0, .int .i64 0, .int .i64 0, .int .i64 0, .int .i64 0, .int .i64 0, .int .i64 0] 28)).setRow w2.heap.size (layArr wk cp pg st tr wt ck pr ca bi ba (startsV cp pg st ca bi))).heap[w.heap.size]? = some (.cells #[.int .i64 wk, .int .i64 cp, .int .i64 pg, .int .i64 st, .int .i64 tr, .int .i64 wt, .int .i64 ck, .int .i64 pr, .int .i64 ca, .int .i64 bi, .int .i64 ba] 23 (0, 0))) := by
    rw [setRow_other _ _ _ _ (by omega)]; exact ((More.refl _).alloc _).block (h2.block HC1.out)
  have hz : ((w2.alloc (.cells #[.int .i64 0, .int .i64 0, .int .i64 0, .int .i64 0, .int .i64 0, .int .i64 0, .int .i64 0, .int .i64 0, .int .i64 0, .int .i64 0, .int .i64 0, .int .i64 0, .int .i64 0, .int .i64 0, .int .i64 0, .int .i64 0, .int .i64 0, .int .i64 0, .int .i64 0, .int .i64 0, .int .i64 0, .int .i64 0, .int .i64 0, .int .i64 0] 28)).setRow w2.heap.size (layArr wk cp pg st tr wt ck pr ca bi ba (startsV cp pg st ca bi))).heap.size = w2.heap.size + 1 := by rw [setRow_size, World.size_alloc]
  have HN3 : Hid ((((w2.alloc (.cells #[.int .i64 0, .int .i64 0, .int .i64 0, .int .i64 0, .int .i64 0, .int .i64 0, .int .i64 0, .int .i64 0, .int .i64 0, .int .i64 0, .int .i64 0, .int .i64 0, .int .i64 0, .int .i64 0, .int .i64 0, .int .i64 0, .int .i64 0, .int .i64 0, .int .i64 0, .int .i64 0, .int .i64 0, .int .i64 0, .int .i64 0, .int .i64 0] 28)).setRow w2.heap.size (layArr wk cp pg st tr wt ck pr ca bi ba (startsV cp pg st ca bi))).alloc (.cells #[.int .i64 0, .int .i64 0, .int .i64 0, .int .i64 0, .int .i64 0, .int .i64 0, .int .i64 0, .int .i64 0, .int .i64 0, .int .i64 0, .int .i64 0] 37)).heap[w2.heap.size + 1]? = some (.cells #[.int .i64 0, .int .i64 0, .int .i64 0, .int .i64 0, .int .i64 0, .int .i64 0, .int .i64 0, .int .i64 0, .int .i64 0, .int .i64 0, .int .i64 0] 37 (0, 0))) := by
    have := row_new ((w2.alloc (.cells #[.int .i64 0, .int .i64 0, .int .i64 0, .int .i64 0, .int .i64 0, .int .i64 0, .int .i64 0, .int .i64 0, .int .i64 0, .int .i64 0, .int .i64 0, .int .i64 0, .int .i64 0, .int .i64 0, .int .i64 0, .int .i64 0, .int .i64 0, .int .i64 0, .int .i64 0, .int .i64 0, .int .i64 0, .int .i64 0, .int .i64 0, .int .i64 0] 28)).setRow w2.heap.size (layArr wk cp pg st tr wt ck pr ca bi ba (startsV cp pg st ca bi))) #[.int .i64 0, .int .i64 0, .int .i64 0, .int .i64 0, .int .i64 0, .int .i64 0, .int .i64 0, .int .i64 0, .int .i64 0, .int .i64 0, .int .i64 0] 37
    rwa [hz] at this
  have HM3 : Hid (More w ((((w2.alloc (.cells #[.int .i64 0, .int .i64 0, .int .i64 0, .int .i64 0, .int .i64 0, .int .i64 0, .int .i64 0, .int .i64 0, .int .i64 0, .int .i64 0, .int .i64 0, .int .i64 0, .int .i64 0, .int .i64 0, .int .i64 0, .int .i64 0, .int .i64 0, .int .i64 0, .int .i64 0, .int .i64 0, .int .i64 0, .int .i64 0, .int .i64 0, .int .i64 0] 28)).setRow w2.heap.size (layArr wk cp pg st tr wt ck pr ca bi ba (startsV cp pg st ca bi))).alloc (.cells #[.int .i64 0, .int .i64 0, .int .i64 0, .int .i64 0, .int .i64 0, .int .i64 0, .int .i64 0, .int .i64 0, .int .i64 0, .int .i64 0, .int .i64 0] 37)).setRow (w2.heap.size + 1) #[.int .i64 wk, .int .i64 cp, .int .i64 pg, .int .i64 st, .int .i64 tr, .int .i64 wt, .int .i64 ck, .int .i64 pr, .int .i64 ca, .int .i64 bi, .int .i64 ba])) := (HM2.out.alloc _).setRow _ _ (by omega)
  have HL3 : Hid (((((w2.alloc (.cells #[.int .i64 0, .int .i64 0, .int .i64 0, .int .i64 0, .int .i64 0, .int .i64 0, .int .i64 0, .int .i64 0, .int .i64 0, .int .i64 0, .int .i64 0, .int .i64 0, .int .i64 0, .int .i64 0, .int .i64 0, .int .i64 0, .int .i64 0, .int .i64 0, .int .i64 0, .int .i64 0, .int .i64 0, .int .i64 0, .int .i64 0, .int .i64 0] 28)).setRow w2.heap.size (layArr wk cp pg st tr wt ck pr ca bi ba (startsV cp pg st ca bi))).alloc (.cells #[.int .i64 0, .int .i64 0, .int .i64 0, .int .i64 0, .int .i64 0, .int .i64 0, .int .i64 0, .int .i64 0, .int .i64 0, .int .i64 0, .int .i64 0] 37)).setRow (w2.heap.size + 1) #[.int .i64 wk, .int .i64 cp, .int .i64 pg, .int .i64 st, .int .i64 tr, .int .i64 wt, .int .i64 ck, .int .i64 pr, .int .i64 ca, .int .i64 bi, .int .i64 ba]).heap[w2.heap.size]? = some (.cells (layArr wk cp pg st tr wt ck pr ca bi ba (startsV cp pg st ca bi)) 28 (0, 0))) := by
    rw [setRow_other _ _ _ _ (by omega)]; exact ((More.refl _).alloc _).block HL2.out
  have HR3 : Hid (((((w2.alloc (.cells #[.int .i64 0, .int .i64 0, .int .i64 0, .int .i64 0, .int .i64 0, .int .i64 0, .int .i64 0, .int .i64 0, .int .i64 0, .int .i64 0, .int .i64 0, .int .i64 0, .int .i64 0, .int .i64 0, .int .i64 0, .int .i64 0, .int .i64 0, .int .i64 0, .int .i64 0, .int .i64 0, .int .i64 0, .int .i64 0, .int .i64 0, .int .i64 0] 28)).setRow w2.heap.size (layArr wk cp pg st tr wt ck pr ca bi ba (startsV cp pg st ca bi))).alloc (.cells #[.int .i64 0, .int .i64 0, .int .i64 0, .int .i64 0, .int .i64 0, .int .i64 0, .int .i64 0, .int .i64 0, .int .i64 0, .int .i64 0, .int .i64 0] 37)).setRow (w2.heap.size + 1) #[.int .i64 wk, .int .i64 cp, .int .i64 pg, .int .i64 st, .int .i64 tr, .int .i64 wt, .int .i64 ck, .int .i64 pr, .int .i64 ca, .int .i64 bi, .int .i64 ba]).heap[w2.heap.size + 1]? = some (.cells #[.int .i64 wk, .int .i64 cp, .int .i64 pg, .int .i64 st, .int .i64 tr, .int .i64 wt, .int .i64 ck, .int .i64 pr, .int .i64 ca, .int .i64 bi, .int .i64 ba] 37 (0, 0))) := setRow_heap _ _ _ _ _ _ HN3.out
  clear h2 HC1 HM1 HC0 hsz hz HM2 HL2
  go_wp2_with (first | (refine wpList_store_row rfl 28 _ _ rfl _ _ rfl rfl 28 _ (row_new w2 #[.int .i64 0, .int .i64 0, .int .i64 0, .int .i64 0, .int .i64 0, .int .i64 0, .int .i64 0, .int .i64 0, .int .i64 0, .int .i64 0, .int .i64 0, .int .i64 0, .int .i64 0, .int .i64 0, .int .i64 0, .int .i64 0, .int .i64 0, .int .i64 0, .int .i64 0, .int .i64 0, .int .i64 0, .int .i64 0, .int .i64 0, .int .i64 0] 28) (by kernel_rfl) rfl (layArr_one ..) ?_) | refine wpList_load_row rfl 23 _ rfl _ rfl 23 _ _ _ (HC2.out) Try.underlying23 rfl (by kernel_rfl) ?_ | refine wpList_load_rowG rfl 23 _ rfl _ rfl 23 _ _ _ (HC2.out) Try.underlying23 rfl (by kernel_rfl) ?_ | (refine wpList_store_row rfl 37 _ _ rfl _ _ rfl rfl 37 _ HN3.out (by kernel_rfl) rfl (by simp [Value.oneCell']) ?_))
  generalize ((((w2.alloc (.cells #[.int .i64 0, .int .i64 0, .int .i64 0, .int .i64 0, .int .i64 0, .int .i64 0, .int .i64 0, .int .i64 0, .int .i64 0, .int .i64 0, .int .i64 0, .int .i64 0, .int .i64 0, .int .i64 0, .int .i64 0, .int .i64 0, .int .i64 0, .int .i64 0, .int .i64 0, .int .i64 0, .int .i64 0, .int .i64 0, .int .i64 0, .int .i64 0] 28)).setRow w2.heap.size (layArr wk cp pg st tr wt ck pr ca bi ba (startsV cp pg st ca bi))).alloc (.cells #[.int .i64 0, .int .i64 0, .int .i64 0, .int .i64 0, .int .i64 0, .int .i64 0, .int .i64 0, .int .i64 0, .int .i64 0, .int .i64 0, .int .i64 0] 37)).setRow (w2.heap.size + 1) #[.int .i64 wk, .int .i64 cp, .int .i64 pg, .int .i64 st, .int .i64 tr, .int .i64 wt, .int .i64 ck, .int .i64 pr, .int .i64 ca, .int .i64 bi, .int .i64 ba]) = W0 at *
  have hne : ∃ W, More W0 W := ⟨W0, More.refl _⟩
  refine wp_region_more (by kernel_rfl) (by kernel_rfl) ?_
  iterate 29
    first
    | (refine wpQuiet_load_row rfl 28 _ rfl _ rfl 28 _ _ _ (fun W hW => hW.block HL3.out) Try.underlying28 rfl (by kernel_rfl) ?_)
    | (refine wpQuiet_load_row rfl 37 _ rfl _ rfl 37 _ _ _ (fun W hW => hW.block HR3.out) Try.underlying37 rfl (by kernel_rfl) ?_)
    | (with_reducible refine wpQuiet_step (fun K hK => ?_)
       go_simp
       first
       | (refine hK _ ?_; clear hK K)
       | (apply Exists.intro
          refine ⟨fun W hW => ?_, hK _ ?_⟩
          first
          | (go_at_call 15; exact Calls.more hW (xchunks HQ.out W))
          | (go_at_call 16; exact Calls.more hW (rchunks _ _ _ _ _ _ _ _ _ _ _ W HQ.out))
          | (go_at_call 17; exact Calls.more hW (xtable HQ.out W p))
          | (go_at_call 18; exact Calls.more hW (rtbl _ _ _ _ _ _ _ _ _ _ _ W p HQ.out))
          | (go_at_call 19; exact Calls.more hW (xhead HQ.out W q f))
          | (go_at_call 20; exact Calls.more hW (rhead _ _ _ _ _ _ _ _ _ _ _ W q f HQ.out))
          | ((try go_simp); try rfl)
          clear hK K))
  refine wpQuiet_nil ?_
  intro W4 hW
  have HM4 := Lib.hid (HM3.out.trans hW)
  have HL4 := Lib.hid (hW.block HL3.out)
  have HR4 := Lib.hid (hW.block HR3.out)
  clear hW HM3 HL3 HR3
  go_wp2_with fail
  have hne : ∃ W, More W4 W := ⟨W4, More.refl _⟩
  refine wp_region_more (by kernel_rfl) (by kernel_rfl) ?_
  iterate 56
    first
    | (refine wpQuiet_load_row rfl 28 _ rfl _ rfl 28 _ _ _ (fun W hW => hW.block HL4.out) Try.underlying28 rfl (by kernel_rfl) ?_)
    | (refine wpQuiet_load_row rfl 37 _ rfl _ rfl 37 _ _ _ (fun W hW => hW.block HR4.out) Try.underlying37 rfl (by kernel_rfl) ?_)
    | (with_reducible refine wpQuiet_step (fun K hK => ?_)
       go_simp
       first
       | (refine hK _ ?_; clear hK K)
       | (apply Exists.intro
          refine ⟨fun W hW => ?_, hK _ ?_⟩
          first
          | (go_at_call 21; exact Calls.more hW (xkind HQ.out W p))
          | (go_at_call 23; exact Calls.more hW (xcount HQ.out W p))
          | (go_at_call 25; exact Calls.more hW (xbits HQ.out W p))
          | (go_at_call 27; exact Calls.more hW (xnext HQ.out W p))
          | (go_at_call 29; exact Calls.more hW (xprev HQ.out W p))
          | (go_at_call 31; exact Calls.more hW (xaddr HQ.out W p))
          | (go_at_call 22; exact Calls.more hW (rkind _ _ _ _ _ _ _ _ _ _ _ W p HQ.out))
          | (go_at_call 24; exact Calls.more hW (rcount _ _ _ _ _ _ _ _ _ _ _ W p HQ.out))
          | (go_at_call 26; exact Calls.more hW (rbits _ _ _ _ _ _ _ _ _ _ _ W p HQ.out))
          | (go_at_call 28; exact Calls.more hW (rnext _ _ _ _ _ _ _ _ _ _ _ W p HQ.out))
          | (go_at_call 30; exact Calls.more hW (rprev _ _ _ _ _ _ _ _ _ _ _ W p HQ.out))
          | (go_at_call 32; exact Calls.more hW (raddr _ _ _ _ _ _ _ _ _ _ _ W p HQ.out))
          | (go_at_call 13; exact Calls.more hW (lives_any W))
          | ((try go_simp); try rfl)
          clear hK K))
  refine wpQuiet_nil ?_
  intro W5 hW
  have HM5 := Lib.hid (HM4.out.trans hW)
  clear hW
  go_wp2_with fail
  go_ret
  exact ⟨rfl, HM5.out⟩

end Go.Proofs.Ytollofgcijlofaa
