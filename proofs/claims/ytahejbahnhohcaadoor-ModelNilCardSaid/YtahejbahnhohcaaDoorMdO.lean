/-
  The walk of ModelNil.
-/
import Derived.Test.YtahejbahnhohcaaDoorMdN
import Derived.Test.YtahejbahnhohcaaDoorMdAct
namespace Go.Proofs.YtahejbahnhohcaaDoor
open Go.RowKit Go.Sort
set_option linter.unusedVariables false
set_option linter.unusedSimpArgs false

section
variable (wk cp pg st tr wt ck pr ca bi ba : Int) (w : World)
theorem md_ok_of (h : rightB wk cp pg st tr wt ck pr ca bi ba = true) : CfgOk wk cp pg st tr wt ck pr ca bi ba := by
  simp only [rightB, btw, Bool.and_eq_true, decide_eq_true_eq] at h
  constructor <;> omega
set_option maxRecDepth 100000 in
set_option maxHeartbeats 2000000 in
theorem md_new_bad (h : rightB wk cp pg st tr wt ck pr ca bi ba = false) : Calls Tryd.prog 6 #[.agg #[.int .i64 wk, .int .i64 cp, .int .i64 pg, .int .i64 st, .int .i64 tr, .int .i64 wt, .int .i64 ck, .int .i64 pr, .int .i64 ca, .int .i64 bi, .int .i64 ba]] w (Gives w (.tuple #[.pointer none, .int .i64 2])) := by
  obtain ⟨w1, e1, h1, m1, s1⟩ := entry1 w (.cells #[.int .i64 wk, .int .i64 cp, .int .i64 pg, .int .i64 st, .int .i64 tr, .int .i64 wt, .int .i64 ck, .int .i64 pr, .int .i64 ca, .int .i64 bi, .int .i64 ba] 23)
  have HC := Lib.hid h1
  have M1 := Lib.hid m1
  have HO := Lib.hid (fun W => of_wrong wk cp pg st tr wt ck pr ca bi ba W h)
  clear h1 m1 h
  go_enter Tryd.func6, Tryd.ntmps6
  go_wp2_with (refine wpList_load_row rfl 23 _ rfl _ rfl 23 _ _ _ (HC.out) Tryd.underlying23 rfl (by kernel_rfl) ?_)
  refine (HO.out _).mono ?_
  rintro e w2 ⟨rfl, h2⟩
  obtain ⟨w3, e3, h3, m3, s3⟩ := entry1 w2 (.cells #[.int .i64 0, .int .i64 0, .int .i64 0, .int .i64 0, .int .i64 0, .int .i64 0, .int .i64 0, .int .i64 0, .int .i64 0, .int .i64 0, .int .i64 0, .int .i64 0, .int .i64 0, .int .i64 0, .int .i64 0, .int .i64 0, .int .i64 0, .int .i64 0, .int .i64 0, .int .i64 0, .int .i64 0, .int .i64 0, .int .i64 0, .int .i64 0] 49)
  have HL3 := Lib.hid h3
  have M3 : Hid (∀ cs, More w (w3.setRow w2.heap.size cs)) := Lib.hid (fun cs => ((M1.out.trans h2).trans m3).setRow _ _ (Nat.le_trans M1.out.size h2.size))
  clear h2 h3 m3 s3
  go_wp2_with (refine wpList_store_row rfl 49 _ _ rfl _ _ rfl rfl 49 _ HL3.out (by kernel_rfl) rfl (layArr_one ..) ?_)
  go_ret2
  exact ⟨rfl, M3.out _⟩
end
theorem md_block_nil (a : Int) (w : World) : Calls Tryd.prog 8 #[.pointer none, .int .i64 a] w (Gives w (.tuple #[.int .i64 0, .int .i64 0, .bool false])) := by
  go_enter Tryd.func8, Tryd.ntmps8
  go_wp2_with fail
  go_ret3
  exact ⟨rfl, More.refl _⟩
theorem md_live_nil (w : World) : Calls Tryd.prog 10 #[.pointer none] w (Gives w (.slice none 0 0)) := by
  go_enter Tryd.func10, Tryd.ntmps10
  go_wp2_with fail
  go_ret
  exact ⟨rfl, More.refl _⟩
theorem md_word_nil (a : Int) (w : World) : Calls Tryd.prog 11 #[.pointer none, .int .i64 a] w (Gives w (.int .i64 0)) := by
  go_enter Tryd.func11, Tryd.ntmps11
  go_wp2_with fail
  go_ret
  exact ⟨rfl, More.refl _⟩
theorem md_copy_nil (w : World) : Calls Tryd.prog 12 #[.pointer none] w (Gives w (.pointer none)) := by
  go_enter Tryd.func12, Tryd.ntmps12
  go_wp2_with fail
  go_ret
  exact ⟨rfl, More.refl _⟩
set_option maxRecDepth 100000 in
theorem md_step_nil (x : CL) (r : RP) (w : World) : Calls Tryd.prog 9 #[.pointer none, .agg x.arr, .agg r.arr] w (Gives w (.bool false)) := by
  obtain ⟨w2, e2, h0, h1, m2, s2⟩ := entry2 w (.cells x.arr 25) (.cells r.arr 30)
  have MM := Lib.hid m2
  clear m2 h0 h1
  go_enter Tryd.func9, Tryd.ntmps9
  go_wp2_with fail
  go_ret
  exact ⟨rfl, MM.out⟩
set_option maxRecDepth 100000 in
set_option maxHeartbeats 4000000 in
theorem nil20_walk (wk cp pg st tr wt ck pr ca bi ba : Int) (x : CL) (r : RP) (a : Int) (w : World) (hs : Sizes w) (k0 : (Lit.int .i64 wk).wf = true) (k1 : (Lit.int .i64 cp).wf = true) (k2 : (Lit.int .i64 pg).wf = true) (k3 : (Lit.int .i64 st).wf = true) (k4 : (Lit.int .i64 tr).wf = true) (k5 : (Lit.int .i64 wt).wf = true) (k6 : (Lit.int .i64 ck).wf = true) (k7 : (Lit.int .i64 pr).wf = true) (k8 : (Lit.int .i64 ca).wf = true) (k9 : (Lit.int .i64 bi).wf = true) (k10 : (Lit.int .i64 ba).wf = true) (hx : ActWf x r) (ha : (Lit.int .i64 a).wf = true) :
    Calls Tryd.prog 3 #[.agg #[.int .i64 wk, .int .i64 cp, .int .i64 pg, .int .i64 st, .int .i64 tr, .int .i64 wt, .int .i64 ck, .int .i64 pr, .int .i64 ca, .int .i64 bi, .int .i64 ba], .agg (actArr x r), .int .i64 a] w (Gives w (.bool true)) := by
  obtain ⟨w2, e2, h0, h1, m2, s2⟩ := entry2 w (.cells #[.int .i64 wk, .int .i64 cp, .int .i64 pg, .int .i64 st, .int .i64 tr, .int .i64 wt, .int .i64 ck, .int .i64 pr, .int .i64 ca, .int .i64 bi, .int .i64 ba] 23) (.cells (actArr x r) 32)
  have HC := Lib.hid h0
  have HA := Lib.hid h1
  have MM := Lib.hid m2
  have HS := Lib.hid hs
  have CK := Lib.hid (fun W => lcheck wk cp pg st tr wt ck pr ca bi ba W)
  clear hs m2 h0 h1 k0 k1 k2 k3 k4 k5 k6 k7 k8 k9 k10 hx ha
  cases hb : rightB wk cp pg st tr wt ck pr ca bi ba with
  | false =>
    have NW := Lib.hid (fun W => md_new_bad wk cp pg st tr wt ck pr ca bi ba W hb)
    rw [if_neg (by rw [hb]; simp)] at CK
    clear hb
    go_enter Tryd.func3, Tryd.ntmps3
    go_wp2_with (refine wpList_load_row rfl 23 _ rfl _ rfl 23 _ _ _ (HC.out) Tryd.underlying23 rfl (by kernel_rfl) ?_)
    refine (NW.out _).mono ?_
    rintro e w3 ⟨rfl, h3⟩
    have M3 := Lib.hid (MM.out.trans h3)
    have C3 := Lib.hid (h3.block HC.out)
    have A3 := Lib.hid (h3.block HA.out)
    clear h3 HC HA MM
    go_wp2_with (refine wpList_load_row rfl 23 _ rfl _ rfl 23 _ _ _ (C3.out) Tryd.underlying23 rfl (by kernel_rfl) ?_)
    refine (CK.out _).mono ?_
    rintro e w4 ⟨rfl, h4⟩
    have M4 := Lib.hid (M3.out.trans h4)
    have A4 := Lib.hid (h4.block A3.out)
    clear h4 C3 A3 M3
    go_wp2_with fail
    refine (md_block_nil a w4).mono ?_
    rintro e w5 ⟨rfl, h5⟩
    have M5 := Lib.hid (M4.out.trans h5)
    have A5 := Lib.hid (h5.block A4.out)
    clear h5 A4 M4
    go_wp2_with (first
      | (refine wpList_load_sub rfl 25 _ rfl _ 0 rfl 32 _ x.arr _ _ A5.out (act_call x r) Tryd.underlying25 rfl (by kernel_rfl) ?_)
      | (refine wpList_load_sub rfl 30 _ rfl _ 5 rfl 32 _ r.arr _ _ A5.out (act_reply x r) Tryd.underlying30 rfl (by kernel_rfl) ?_))
    refine (md_step_nil x r w5).mono ?_
    rintro e w6 ⟨rfl, h6⟩
    have M6 := Lib.hid (M5.out.trans h6)
    clear h6 A5 M5
    go_wp2_with fail
    refine (md_live_nil w6).mono ?_
    rintro e w7 ⟨rfl, h7⟩
    have M7 := Lib.hid (M6.out.trans h7)
    clear h7 M6
    go_wp2_with fail
    refine (md_word_nil a w7).mono ?_
    rintro e w8 ⟨rfl, h8⟩
    have M8 := Lib.hid (M7.out.trans h8)
    clear h8 M7
    go_wp2_with fail
    refine (md_copy_nil w8).mono ?_
    rintro e w9 ⟨rfl, h9⟩
    have M9 := Lib.hid (M8.out.trans h9)
    clear h9 M8
    go_wp2_with fail
    refine (lives20_ok w9 (HS.out.more M9.out)).mono ?_
    rintro e wa ⟨rfl, ha⟩
    have Ma := Lib.hid (M9.out.trans ha)
    clear ha M9
    go_wp2_with fail
    go_ret
    exact ⟨rfl, Ma.out⟩
  | true =>
    have R := md_ok_of wk cp pg st tr wt ck pr ca bi ba hb
    rw [if_pos hb] at CK
    clear hb
    obtain ⟨n, hn⟩ : ∃ n : Nat, (n : Int) = 32 * pg := ⟨(32 * pg).toNat, by have := R.pg1; omega⟩
    have NW := Lib.hid (fun W => md_new (c := ⟨wk, cp, pg, st, tr, wt, ck, pr, ca, bi, ba⟩) R n hn W)
    clear R hn
    go_enter Tryd.func3, Tryd.ntmps3
    go_wp2_with (refine wpList_load_row rfl 23 _ rfl _ rfl 23 _ _ _ (HC.out) Tryd.underlying23 rfl (by kernel_rfl) ?_)
    refine (NW.out _).mono ?_
    rintro e w3 ⟨F3, p3, rfl, _, h3, _⟩
    have M3 := Lib.hid (MM.out.trans h3)
    have C3 := Lib.hid (h3.block HC.out)
    have A3 := Lib.hid (h3.block HA.out)
    clear h3 HC HA MM
    go_wp2_with (refine wpList_load_row rfl 23 _ rfl _ rfl 23 _ _ _ (C3.out) Tryd.underlying23 rfl (by kernel_rfl) ?_)
    refine (CK.out _).mono ?_
    rintro e w4 ⟨rfl, h4⟩
    have M4 := Lib.hid (M3.out.trans h4)
    have A4 := Lib.hid (h4.block A3.out)
    clear h4 C3 A3 M3
    go_wp2_with fail
    refine (md_block_nil a w4).mono ?_
    rintro e w5 ⟨rfl, h5⟩
    have M5 := Lib.hid (M4.out.trans h5)
    have A5 := Lib.hid (h5.block A4.out)
    clear h5 A4 M4
    go_wp2_with (first
      | (refine wpList_load_sub rfl 25 _ rfl _ 0 rfl 32 _ x.arr _ _ A5.out (act_call x r) Tryd.underlying25 rfl (by kernel_rfl) ?_)
      | (refine wpList_load_sub rfl 30 _ rfl _ 5 rfl 32 _ r.arr _ _ A5.out (act_reply x r) Tryd.underlying30 rfl (by kernel_rfl) ?_))
    refine (md_step_nil x r w5).mono ?_
    rintro e w6 ⟨rfl, h6⟩
    have M6 := Lib.hid (M5.out.trans h6)
    clear h6 A5 M5
    go_wp2_with fail
    refine (md_live_nil w6).mono ?_
    rintro e w7 ⟨rfl, h7⟩
    have M7 := Lib.hid (M6.out.trans h7)
    clear h7 M6
    go_wp2_with fail
    refine (md_word_nil a w7).mono ?_
    rintro e w8 ⟨rfl, h8⟩
    have M8 := Lib.hid (M7.out.trans h8)
    clear h8 M7
    go_wp2_with fail
    refine (md_copy_nil w8).mono ?_
    rintro e w9 ⟨rfl, h9⟩
    have M9 := Lib.hid (M8.out.trans h9)
    clear h9 M8
    go_wp2_with fail
    refine (lives20_ok w9 (HS.out.more M9.out)).mono ?_
    rintro e wa ⟨rfl, ha⟩
    have Ma := Lib.hid (M9.out.trans ha)
    clear ha M9
    go_wp2_with fail
    go_ret
    exact ⟨rfl, Ma.out⟩
end Go.Proofs.YtahejbahnhohcaaDoor
