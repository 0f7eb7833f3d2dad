/-
  The document's example run of layer 2, which every statement of this layer runs at its end.
-/
import Derived.Test.YtollofgcijlofaaLayE
namespace Go.Proofs.Ytollofgcijlofaa
open Go.RowKit
set_option linter.unusedVariables false
set_option linter.unusedSimpArgs false

theorem okEx : CfgOk 1 1 1 1 0 0 9 1 0 0 1 := by constructor <;> omega

set_option maxHeartbeats 4000000 in
theorem lives_any (w : World) : Calls Try.prog 13 #[] w (Gives w (.bool true)) := by
  have HO := Lib.hid (fun W => of_right 1 1 1 1 0 0 9 1 0 0 1 W okEx)
  go_enter Try.func13, Try.ntmps13
  go_wp2_with fail
  refine (HO.out _).mono ?_
  rintro e w1 ⟨rfl, h1⟩
  have HB0 := Lib.hid (setRow_heap _ w1.heap.size _ (layArr 1 1 1 1 0 0 9 1 0 0 1 (startsV 1 1 1 0 0)) _ _ (row_new w1 #[.int .i64 0, .int .i64 0, .int .i64 0, .int .i64 0, .int .i64 0, .int .i64 0, .int .i64 0, .int .i64 0, .int .i64 0, .int .i64 0, .int .i64 0, .int .i64 0, .int .i64 0, .int .i64 0, .int .i64 0, .int .i64 0, .int .i64 0, .int .i64 0, .int .i64 0, .int .i64 0, .int .i64 0, .int .i64 0, .int .i64 0, .int .i64 0] 28))
  have HM0 : Hid (More w ((w1.alloc (.cells #[.int .i64 0, .int .i64 0, .int .i64 0, .int .i64 0, .int .i64 0, .int .i64 0, .int .i64 0, .int .i64 0, .int .i64 0, .int .i64 0, .int .i64 0, .int .i64 0, .int .i64 0, .int .i64 0, .int .i64 0, .int .i64 0, .int .i64 0, .int .i64 0, .int .i64 0, .int .i64 0, .int .i64 0, .int .i64 0, .int .i64 0, .int .i64 0] 28)).setRow w1.heap.size (layArr 1 1 1 1 0 0 9 1 0 0 1 (startsV 1 1 1 0 0)))) := (h1.alloc _).setRow _ _ (by have := h1.size; omega)
  clear h1
  go_wp2_with (first | (refine wpList_store_row rfl 28 _ _ rfl _ _ rfl rfl 28 _ (row_new w1 #[.int .i64 0, .int .i64 0, .int .i64 0, .int .i64 0, .int .i64 0, .int .i64 0, .int .i64 0, .int .i64 0, .int .i64 0, .int .i64 0, .int .i64 0, .int .i64 0, .int .i64 0, .int .i64 0, .int .i64 0, .int .i64 0, .int .i64 0, .int .i64 0, .int .i64 0, .int .i64 0, .int .i64 0, .int .i64 0, .int .i64 0, .int .i64 0] 28) (by kernel_rfl) rfl (layArr_one ..) ?_) | (first | refine wpList_load_row rfl 28 _ rfl _ rfl 28 _ _ _ HB0.out Try.underlying28 rfl (by kernel_rfl) ?_ | refine wpList_load_rowG rfl 28 _ rfl _ rfl 28 _ _ _ HB0.out Try.underlying28 rfl (by kernel_rfl) ?_))
  refine (xplace_in okEx _ 130 (by decide) (by decide)).mono ?_
  rw [show (130 - userV 1 1 1 0 0) / 32 = 0 from by decide]
  rw [show (130 - userV 1 1 1 0 0) % 32 = 2 from by decide]
  rintro e v0 ⟨rfl, h0⟩
  have HB1 := Lib.hid (h0.block HB0.out)
  have HM1 := Lib.hid (HM0.out.trans h0)
  clear h0 HB0 HM0
  go_wp2_with (first | refine wpList_load_row rfl 28 _ rfl _ rfl 28 _ _ _ HB1.out Try.underlying28 rfl (by kernel_rfl) ?_ | refine wpList_load_rowG rfl 28 _ rfl _ rfl 28 _ _ _ HB1.out Try.underlying28 rfl (by kernel_rfl) ?_)
  refine (xtable okEx _ 0).mono ?_
  rw [show tblV 1 1 0 = 4 from by decide]
  rintro e v1 ⟨rfl, h1⟩
  have HB2 := Lib.hid (h1.block HB1.out)
  have HM2 := Lib.hid (HM1.out.trans h1)
  clear h1 HB1 HM1
  go_wp2_with (first | refine wpList_load_row rfl 28 _ rfl _ rfl 28 _ _ _ HB2.out Try.underlying28 rfl (by kernel_rfl) ?_ | refine wpList_load_rowG rfl 28 _ rfl _ rfl 28 _ _ _ HB2.out Try.underlying28 rfl (by kernel_rfl) ?_)
  refine (xkind okEx _ 0).mono ?_
  rw [show pageV 1 1 0 0 = 5 from by decide]
  rintro e v2 ⟨rfl, h2⟩
  have HB3 := Lib.hid (h2.block HB2.out)
  have HM3 := Lib.hid (HM2.out.trans h2)
  clear h2 HB2 HM2
  go_wp2_with (first | refine wpList_load_row rfl 28 _ rfl _ rfl 28 _ _ _ HB3.out Try.underlying28 rfl (by kernel_rfl) ?_ | refine wpList_load_rowG rfl 28 _ rfl _ rfl 28 _ _ _ HB3.out Try.underlying28 rfl (by kernel_rfl) ?_)
  refine (xhead okEx _ 0 1).mono ?_
  rw [show headV 1 1 0 1 = 10 from by decide]
  rintro e v3 ⟨rfl, h3⟩
  have HB4 := Lib.hid (h3.block HB3.out)
  have HM4 := Lib.hid (HM3.out.trans h3)
  clear h3 HB3 HM3
  go_wp2_with (first | refine wpList_load_row rfl 28 _ rfl _ rfl 28 _ _ _ HB4.out Try.underlying28 rfl (by kernel_rfl) ?_ | refine wpList_load_rowG rfl 28 _ rfl _ rfl 28 _ _ _ HB4.out Try.underlying28 rfl (by kernel_rfl) ?_)
  refine (xcache okEx _ 0 0).mono ?_
  rw [show cacheV 1 1 1 0 0 0 = 72 from by decide]
  rintro e v4 ⟨rfl, h4⟩
  have HB5 := Lib.hid (h4.block HB4.out)
  have HM5 := Lib.hid (HM4.out.trans h4)
  clear h4 HB4 HM4
  go_wp2_with (first | refine wpList_load_row rfl 28 _ rfl _ rfl 28 _ _ _ HB5.out Try.underlying28 rfl (by kernel_rfl) ?_ | refine wpList_load_rowG rfl 28 _ rfl _ rfl 28 _ _ _ HB5.out Try.underlying28 rfl (by kernel_rfl) ?_)
  refine (xbin okEx _ 0).mono ?_
  rw [show binV 1 1 1 0 0 0 = 77 from by decide]
  rintro e v5 ⟨rfl, h5⟩
  have HB6 := Lib.hid (h5.block HB5.out)
  have HM6 := Lib.hid (HM5.out.trans h5)
  clear h5 HB5 HM5
  go_wp2_with (first | refine wpList_load_row rfl 28 _ rfl _ rfl 28 _ _ _ HB6.out Try.underlying28 rfl (by kernel_rfl) ?_ | refine wpList_load_rowG rfl 28 _ rfl _ rfl 28 _ _ _ HB6.out Try.underlying28 rfl (by kernel_rfl) ?_)
  refine (xuser okEx _).mono ?_
  rw [show userV 1 1 1 0 0 = 128 from by decide]
  rintro e v6 ⟨rfl, h6⟩
  have HB7 := Lib.hid (h6.block HB6.out)
  have HM7 := Lib.hid (HM6.out.trans h6)
  clear h6 HB6 HM6
  go_wp2_with (first | refine wpList_load_row rfl 28 _ rfl _ rfl 28 _ _ _ HB7.out Try.underlying28 rfl (by kernel_rfl) ?_ | refine wpList_load_rowG rfl 28 _ rfl _ rfl 28 _ _ _ HB7.out Try.underlying28 rfl (by kernel_rfl) ?_)
  refine (xwords okEx _).mono ?_
  rw [show wordsV 1 1 1 0 0 = 160 from by decide]
  rintro e v7 ⟨rfl, h7⟩
  have HB8 := Lib.hid (h7.block HB7.out)
  have HM8 := Lib.hid (HM7.out.trans h7)
  clear h7 HB7 HM7
  go_wp2_with (first | refine wpList_load_row rfl 28 _ rfl _ rfl 28 _ _ _ HB8.out Try.underlying28 rfl (by kernel_rfl) ?_ | refine wpList_load_rowG rfl 28 _ rfl _ rfl 28 _ _ _ HB8.out Try.underlying28 rfl (by kernel_rfl) ?_)
  go_ret
  exact ⟨rfl, HM8.out⟩

end Go.Proofs.Ytollofgcijlofaa
