/-
  Contract of package layout's Of.
-/
import Derived.Test.YtonenkgjlmcfkaaLayC
import Derived.Laws.ResultCell
namespace Go.Proofs.Ytonenkgjlmcfkaa
open Go.RowKit
set_option linter.unusedVariables false
set_option linter.unusedSimpArgs false

variable (wk cp pg st tr wt ck pr ca bi ba : Int) (w : World)

theorem results_row2 {P : Program} {fn : Func} {p u : Tmp} {ty : TypeId} (h : fn.results = #[.cell p ty, .tmp u]) (tmps : Array Value) (w : World) (g : Nat) (t : TypeId) (cs : Array Value) (fr : Nat × Nat) (d : TypeDesc)
    (hp : tmps.getD p undef = .pointer (some ⟨g, 0, none⟩)) (hg : w.heap[g]? = some (.cells cs t fr))
    (hu : P.underlying ty = some d) (hd : (match d with | .struct _ | .array _ _ => true | _ => false) = true) (hi : (P.info? ty).map (·.size) = some cs.size) :
    (results fn tmps).run P w = .ok (.tuple #[.agg cs, tmps.getD u undef]) w := by
  rw [results_cell_tmp h, hp]
  simp [asAddr, run_loadVar_row w g t ty cs fr d hg hu hd hi]

theorem rightB_ok (R : CfgOk wk cp pg st tr wt ck pr ca bi ba) : rightB wk cp pg st tr wt ck pr ca bi ba = true := by
  obtain ⟨h0, h1, h2, h3, h4, h5, h6, h7, h8, h9, h10, h11, h12, h13, h14, h15, h16, h17, h18, h19, h20, h21⟩ := R
  simp [rightB, btw, *]

theorem of_wrong (h : rightB wk cp pg st tr wt ck pr ca bi ba = false) : Calls Try.prog 15 #[.agg #[.int .i64 wk, .int .i64 cp, .int .i64 pg, .int .i64 st, .int .i64 tr, .int .i64 wt, .int .i64 ck, .int .i64 pr, .int .i64 ca, .int .i64 bi, .int .i64 ba]] w (Gives w (.tuple #[.agg (layArr 0 0 0 0 0 0 0 0 0 0 0 (fun _ => 0)), .int .i64 2])) := by
  have HC0 := Lib.hid (row_new w #[.int .i64 wk, .int .i64 cp, .int .i64 pg, .int .i64 st, .int .i64 tr, .int .i64 wt, .int .i64 ck, .int .i64 pr, .int .i64 ca, .int .i64 bi, .int .i64 ba] 23)
  have HC : Hid (((w.alloc (.cells #[.int .i64 wk, .int .i64 cp, .int .i64 pg, .int .i64 st, .int .i64 tr, .int .i64 wt, .int .i64 ck, .int .i64 pr, .int .i64 ca, .int .i64 bi, .int .i64 ba] 23)).alloc (.cells #[.int .i64 0, .int .i64 0, .int .i64 0, .int .i64 0, .int .i64 0, .int .i64 0, .int .i64 0, .int .i64 0, .int .i64 0, .int .i64 0, .int .i64 0, .int .i64 0, .int .i64 0, .int .i64 0, .int .i64 0, .int .i64 0, .int .i64 0, .int .i64 0, .int .i64 0, .int .i64 0, .int .i64 0, .int .i64 0, .int .i64 0, .int .i64 0] 28)).heap[w.heap.size]? = some (.cells #[.int .i64 wk, .int .i64 cp, .int .i64 pg, .int .i64 st, .int .i64 tr, .int .i64 wt, .int .i64 ck, .int .i64 pr, .int .i64 ca, .int .i64 bi, .int .i64 ba] 23 (0, 0))) := ((More.refl _).alloc _).block HC0.out
  have HB : Hid (((w.alloc (.cells #[.int .i64 wk, .int .i64 cp, .int .i64 pg, .int .i64 st, .int .i64 tr, .int .i64 wt, .int .i64 ck, .int .i64 pr, .int .i64 ca, .int .i64 bi, .int .i64 ba] 23)).alloc (.cells #[.int .i64 0, .int .i64 0, .int .i64 0, .int .i64 0, .int .i64 0, .int .i64 0, .int .i64 0, .int .i64 0, .int .i64 0, .int .i64 0, .int .i64 0, .int .i64 0, .int .i64 0, .int .i64 0, .int .i64 0, .int .i64 0, .int .i64 0, .int .i64 0, .int .i64 0, .int .i64 0, .int .i64 0, .int .i64 0, .int .i64 0, .int .i64 0] 28)).heap[w.heap.size + 1]? = some (.cells #[.int .i64 0, .int .i64 0, .int .i64 0, .int .i64 0, .int .i64 0, .int .i64 0, .int .i64 0, .int .i64 0, .int .i64 0, .int .i64 0, .int .i64 0, .int .i64 0, .int .i64 0, .int .i64 0, .int .i64 0, .int .i64 0, .int .i64 0, .int .i64 0, .int .i64 0, .int .i64 0, .int .i64 0, .int .i64 0, .int .i64 0, .int .i64 0] 28 (0, 0))) := by
    have := row_new (w.alloc (.cells #[.int .i64 wk, .int .i64 cp, .int .i64 pg, .int .i64 st, .int .i64 tr, .int .i64 wt, .int .i64 ck, .int .i64 pr, .int .i64 ca, .int .i64 bi, .int .i64 ba] 23)) #[.int .i64 0, .int .i64 0, .int .i64 0, .int .i64 0, .int .i64 0, .int .i64 0, .int .i64 0, .int .i64 0, .int .i64 0, .int .i64 0, .int .i64 0, .int .i64 0, .int .i64 0, .int .i64 0, .int .i64 0, .int .i64 0, .int .i64 0, .int .i64 0, .int .i64 0, .int .i64 0, .int .i64 0, .int .i64 0, .int .i64 0, .int .i64 0] 28
    rwa [World.size_alloc] at this
  have HM : Hid (More w ((w.alloc (.cells #[.int .i64 wk, .int .i64 cp, .int .i64 pg, .int .i64 st, .int .i64 tr, .int .i64 wt, .int .i64 ck, .int .i64 pr, .int .i64 ca, .int .i64 bi, .int .i64 ba] 23)).alloc (.cells #[.int .i64 0, .int .i64 0, .int .i64 0, .int .i64 0, .int .i64 0, .int .i64 0, .int .i64 0, .int .i64 0, .int .i64 0, .int .i64 0, .int .i64 0, .int .i64 0, .int .i64 0, .int .i64 0, .int .i64 0, .int .i64 0, .int .i64 0, .int .i64 0, .int .i64 0, .int .i64 0, .int .i64 0, .int .i64 0, .int .i64 0, .int .i64 0] 28))) := ((More.refl w).alloc _).alloc _
  have HK := Lib.hid (fun W => lcheck wk cp pg st tr wt ck pr ca bi ba W)
  rw [if_neg (by rw [h]; simp)] at HK
  go_enter Try.func15, Try.ntmps15
  go_wp2_with (refine wpList_load_row rfl 23 _ rfl _ rfl 23 _ _ _ (HC.out) Try.underlying23 rfl (by kernel_rfl) ?_)
  refine (HK.out _).mono ?_
  rintro e w1 ⟨rfl, h1⟩
  have H1 := Lib.hid h1
  clear h1
  go_wp2_with (refine wpList_store_row rfl 28 _ _ rfl _ _ rfl rfl 28 _ (H1.out.block HB.out) (by kernel_rfl) rfl (by simp [Value.oneCell']) ?_)
  have HR := Lib.hid (setRow_heap w1 _ _ #[.int .i64 0, .int .i64 0, .int .i64 0, .int .i64 0, .int .i64 0, .int .i64 0, .int .i64 0, .int .i64 0, .int .i64 0, .int .i64 0, .int .i64 0, .int .i64 0, .int .i64 0, .int .i64 0, .int .i64 0, .int .i64 0, .int .i64 0, .int .i64 0, .int .i64 0, .int .i64 0, .int .i64 0, .int .i64 0, .int .i64 0, .int .i64 0] _ _ (H1.out.block HB.out))
  have HY : Hid (More w (w1.setRow (w.heap.size + 1) #[.int .i64 0, .int .i64 0, .int .i64 0, .int .i64 0, .int .i64 0, .int .i64 0, .int .i64 0, .int .i64 0, .int .i64 0, .int .i64 0, .int .i64 0, .int .i64 0, .int .i64 0, .int .i64 0, .int .i64 0, .int .i64 0, .int .i64 0, .int .i64 0, .int .i64 0, .int .i64 0, .int .i64 0, .int .i64 0, .int .i64 0, .int .i64 0])) := (HM.out.trans H1.out).setRow _ _ (by omega)
  go_wp2_with fail
  refine bodyPost_ret (v := .tuple #[.agg (layArr 0 0 0 0 0 0 0 0 0 0 0 (fun _ => 0)), .int .i64 2]) (results_row2 Try.results15 _ _ _ 28 _ (0, 0) _ rfl HR.out Try.underlying28 rfl (by kernel_rfl)) rfl ⟨rfl, HY.out⟩

set_option maxHeartbeats 4000000 in
theorem of_right (R : CfgOk wk cp pg st tr wt ck pr ca bi ba) : Calls Try.prog 15 #[.agg #[.int .i64 wk, .int .i64 cp, .int .i64 pg, .int .i64 st, .int .i64 tr, .int .i64 wt, .int .i64 ck, .int .i64 pr, .int .i64 ca, .int .i64 bi, .int .i64 ba]] w (Gives w (.tuple #[.agg (layArr wk cp pg st tr wt ck pr ca bi ba (startsV cp pg st ca bi)), .int .i64 0])) := by
  have HC0 := Lib.hid (row_new w #[.int .i64 wk, .int .i64 cp, .int .i64 pg, .int .i64 st, .int .i64 tr, .int .i64 wt, .int .i64 ck, .int .i64 pr, .int .i64 ca, .int .i64 bi, .int .i64 ba] 23)
  have HC : Hid (((w.alloc (.cells #[.int .i64 wk, .int .i64 cp, .int .i64 pg, .int .i64 st, .int .i64 tr, .int .i64 wt, .int .i64 ck, .int .i64 pr, .int .i64 ca, .int .i64 bi, .int .i64 ba] 23)).alloc (.cells #[.int .i64 0, .int .i64 0, .int .i64 0, .int .i64 0, .int .i64 0, .int .i64 0, .int .i64 0, .int .i64 0, .int .i64 0, .int .i64 0, .int .i64 0, .int .i64 0, .int .i64 0, .int .i64 0, .int .i64 0, .int .i64 0, .int .i64 0, .int .i64 0, .int .i64 0, .int .i64 0, .int .i64 0, .int .i64 0, .int .i64 0, .int .i64 0] 28)).heap[w.heap.size]? = some (.cells #[.int .i64 wk, .int .i64 cp, .int .i64 pg, .int .i64 st, .int .i64 tr, .int .i64 wt, .int .i64 ck, .int .i64 pr, .int .i64 ca, .int .i64 bi, .int .i64 ba] 23 (0, 0))) := ((More.refl _).alloc _).block HC0.out
  have HB : Hid (((w.alloc (.cells #[.int .i64 wk, .int .i64 cp, .int .i64 pg, .int .i64 st, .int .i64 tr, .int .i64 wt, .int .i64 ck, .int .i64 pr, .int .i64 ca, .int .i64 bi, .int .i64 ba] 23)).alloc (.cells #[.int .i64 0, .int .i64 0, .int .i64 0, .int .i64 0, .int .i64 0, .int .i64 0, .int .i64 0, .int .i64 0, .int .i64 0, .int .i64 0, .int .i64 0, .int .i64 0, .int .i64 0, .int .i64 0, .int .i64 0, .int .i64 0, .int .i64 0, .int .i64 0, .int .i64 0, .int .i64 0, .int .i64 0, .int .i64 0, .int .i64 0, .int .i64 0] 28)).heap[w.heap.size + 1]? = some (.cells #[.int .i64 0, .int .i64 0, .int .i64 0, .int .i64 0, .int .i64 0, .int .i64 0, .int .i64 0, .int .i64 0, .int .i64 0, .int .i64 0, .int .i64 0, .int .i64 0, .int .i64 0, .int .i64 0, .int .i64 0, .int .i64 0, .int .i64 0, .int .i64 0, .int .i64 0, .int .i64 0, .int .i64 0, .int .i64 0, .int .i64 0, .int .i64 0] 28 (0, 0))) := by
    have := row_new (w.alloc (.cells #[.int .i64 wk, .int .i64 cp, .int .i64 pg, .int .i64 st, .int .i64 tr, .int .i64 wt, .int .i64 ck, .int .i64 pr, .int .i64 ca, .int .i64 bi, .int .i64 ba] 23)) #[.int .i64 0, .int .i64 0, .int .i64 0, .int .i64 0, .int .i64 0, .int .i64 0, .int .i64 0, .int .i64 0, .int .i64 0, .int .i64 0, .int .i64 0, .int .i64 0, .int .i64 0, .int .i64 0, .int .i64 0, .int .i64 0, .int .i64 0, .int .i64 0, .int .i64 0, .int .i64 0, .int .i64 0, .int .i64 0, .int .i64 0, .int .i64 0] 28
    rwa [World.size_alloc] at this
  have HM : Hid (More w ((w.alloc (.cells #[.int .i64 wk, .int .i64 cp, .int .i64 pg, .int .i64 st, .int .i64 tr, .int .i64 wt, .int .i64 ck, .int .i64 pr, .int .i64 ca, .int .i64 bi, .int .i64 ba] 23)).alloc (.cells #[.int .i64 0, .int .i64 0, .int .i64 0, .int .i64 0, .int .i64 0, .int .i64 0, .int .i64 0, .int .i64 0, .int .i64 0, .int .i64 0, .int .i64 0, .int .i64 0, .int .i64 0, .int .i64 0, .int .i64 0, .int .i64 0, .int .i64 0, .int .i64 0, .int .i64 0, .int .i64 0, .int .i64 0, .int .i64 0, .int .i64 0, .int .i64 0] 28))) := ((More.refl w).alloc _).alloc _
  have HK := Lib.hid (fun W => lcheck wk cp pg st tr wt ck pr ca bi ba W)
  rw [if_pos (rightB_ok _ _ _ _ _ _ _ _ _ _ _ R)] at HK
  have HL := Lib.hid (fun W => llengths wk cp pg st tr wt ck pr ca bi ba W R)
  have HRR := Lib.hid R
  have HS := Lib.hid (cut_none wk cp pg st tr wt ck pr ca bi ba (startsV cp pg st ca bi))
  have Hlen : Hid (((w.alloc (.cells #[.int .i64 wk, .int .i64 cp, .int .i64 pg, .int .i64 st, .int .i64 tr, .int .i64 wt, .int .i64 ck, .int .i64 pr, .int .i64 ca, .int .i64 bi, .int .i64 ba] 23)).alloc (.cells #[.int .i64 0, .int .i64 0, .int .i64 0, .int .i64 0, .int .i64 0, .int .i64 0, .int .i64 0, .int .i64 0, .int .i64 0, .int .i64 0, .int .i64 0, .int .i64 0, .int .i64 0, .int .i64 0, .int .i64 0, .int .i64 0, .int .i64 0, .int .i64 0, .int .i64 0, .int .i64 0, .int .i64 0, .int .i64 0, .int .i64 0, .int .i64 0] 28)).heap.size = w.heap.size + 1 + 1) := by rw [World.size_alloc, World.size_alloc]; exact rfl
  clear R
  go_enter Try.func15, Try.ntmps15
  go_wp2_with (refine wpList_load_row rfl 23 _ rfl _ rfl 23 _ _ _ (HC.out) Try.underlying23 rfl (by kernel_rfl) ?_)
  refine (HK.out _).mono ?_
  rintro e w1 ⟨rfl, h1⟩
  have H1 := Lib.hid h1
  have HC1 := Lib.hid (h1.block HC.out)
  have HB1 := Lib.hid (h1.block HB.out)
  have HM1 := Lib.hid (HM.out.trans h1)
  have hs1 := h1.size
  have hs1 : w.heap.size + 2 ≤ w1.heap.size := by have := Hlen.out; omega
  have Hs1 := Lib.hid hs1
  clear h1
  have HC1b : Hid (((w1.alloc (.cells #[.int .i64 0, .int .i64 0, .int .i64 0, .int .i64 0, .int .i64 0, .int .i64 0, .int .i64 0, .int .i64 0, .int .i64 0, .int .i64 0, .int .i64 0, .int .i64 0, .int .i64 0, .int .i64 0, .int .i64 0, .int .i64 0, .int .i64 0, .int .i64 0, .int .i64 0, .int .i64 0, .int .i64 0, .int .i64 0, .int .i64 0, .int .i64 0] 28)).setRow w1.heap.size #[.int .i64 wk, .int .i64 cp, .int .i64 pg, .int .i64 st, .int .i64 tr, .int .i64 wt, .int .i64 ck, .int .i64 pr, .int .i64 ca, .int .i64 bi, .int .i64 ba, .int .i64 0, .int .i64 0, .int .i64 0, .int .i64 0, .int .i64 0, .int .i64 0, .int .i64 0, .int .i64 0, .int .i64 0, .int .i64 0, .int .i64 0, .int .i64 0, .int .i64 0]).heap[w.heap.size]? = some (.cells #[.int .i64 wk, .int .i64 cp, .int .i64 pg, .int .i64 st, .int .i64 tr, .int .i64 wt, .int .i64 ck, .int .i64 pr, .int .i64 ca, .int .i64 bi, .int .i64 ba] 23 (0, 0))) := by
    rw [setRow_other _ _ _ _ (by omega)]; exact ((More.refl _).alloc _).block HC1.out
  clear hs1
  go_wp2_with (first
    | (refine wpList_load_row rfl 23 _ rfl _ rfl 23 _ _ _ (HC1.out) Try.underlying23 rfl (by kernel_rfl) ?_)
    | (refine wpList_store_row rfl 28 _ _ rfl _ _ rfl rfl 28 _ (row_new w1 #[.int .i64 0, .int .i64 0, .int .i64 0, .int .i64 0, .int .i64 0, .int .i64 0, .int .i64 0, .int .i64 0, .int .i64 0, .int .i64 0, .int .i64 0, .int .i64 0, .int .i64 0, .int .i64 0, .int .i64 0, .int .i64 0, .int .i64 0, .int .i64 0, .int .i64 0, .int .i64 0, .int .i64 0, .int .i64 0, .int .i64 0, .int .i64 0] 28) (by kernel_rfl) rfl (by simp [Value.oneCell']) ?_)
    | (refine wpList_load_row rfl 23 _ rfl _ rfl 23 _ _ _ (HC1b.out) Try.underlying23 rfl (by kernel_rfl) ?_))
  have HMA : Hid (More w ((w1.alloc (.cells #[.int .i64 0, .int .i64 0, .int .i64 0, .int .i64 0, .int .i64 0, .int .i64 0, .int .i64 0, .int .i64 0, .int .i64 0, .int .i64 0, .int .i64 0, .int .i64 0, .int .i64 0, .int .i64 0, .int .i64 0, .int .i64 0, .int .i64 0, .int .i64 0, .int .i64 0, .int .i64 0, .int .i64 0, .int .i64 0, .int .i64 0, .int .i64 0] 28)).setRow w1.heap.size #[.int .i64 wk, .int .i64 cp, .int .i64 pg, .int .i64 st, .int .i64 tr, .int .i64 wt, .int .i64 ck, .int .i64 pr, .int .i64 ca, .int .i64 bi, .int .i64 ba, .int .i64 0, .int .i64 0, .int .i64 0, .int .i64 0, .int .i64 0, .int .i64 0, .int .i64 0, .int .i64 0, .int .i64 0, .int .i64 0, .int .i64 0, .int .i64 0, .int .i64 0])) := (HM1.out.alloc _).setRow _ _ (by have := Hs1.out; omega)
  have HBA : Hid (((w1.alloc (.cells #[.int .i64 0, .int .i64 0, .int .i64 0, .int .i64 0, .int .i64 0, .int .i64 0, .int .i64 0, .int .i64 0, .int .i64 0, .int .i64 0, .int .i64 0, .int .i64 0, .int .i64 0, .int .i64 0, .int .i64 0, .int .i64 0, .int .i64 0, .int .i64 0, .int .i64 0, .int .i64 0, .int .i64 0, .int .i64 0, .int .i64 0, .int .i64 0] 28)).setRow w1.heap.size #[.int .i64 wk, .int .i64 cp, .int .i64 pg, .int .i64 st, .int .i64 tr, .int .i64 wt, .int .i64 ck, .int .i64 pr, .int .i64 ca, .int .i64 bi, .int .i64 ba, .int .i64 0, .int .i64 0, .int .i64 0, .int .i64 0, .int .i64 0, .int .i64 0, .int .i64 0, .int .i64 0, .int .i64 0, .int .i64 0, .int .i64 0, .int .i64 0, .int .i64 0]).heap[w1.heap.size]? = some (.cells (layArr wk cp pg st tr wt ck pr ca bi ba (cutS (startsV cp pg st ca bi) 0)) 28 (0, 0))) := setRow_heap _ _ _ _ _ _ (row_new w1 #[.int .i64 0, .int .i64 0, .int .i64 0, .int .i64 0, .int .i64 0, .int .i64 0, .int .i64 0, .int .i64 0, .int .i64 0, .int .i64 0, .int .i64 0, .int .i64 0, .int .i64 0, .int .i64 0, .int .i64 0, .int .i64 0, .int .i64 0, .int .i64 0, .int .i64 0, .int .i64 0, .int .i64 0, .int .i64 0, .int .i64 0, .int .i64 0] 28)
  have HRA : Hid (((w1.alloc (.cells #[.int .i64 0, .int .i64 0, .int .i64 0, .int .i64 0, .int .i64 0, .int .i64 0, .int .i64 0, .int .i64 0, .int .i64 0, .int .i64 0, .int .i64 0, .int .i64 0, .int .i64 0, .int .i64 0, .int .i64 0, .int .i64 0, .int .i64 0, .int .i64 0, .int .i64 0, .int .i64 0, .int .i64 0, .int .i64 0, .int .i64 0, .int .i64 0] 28)).setRow w1.heap.size #[.int .i64 wk, .int .i64 cp, .int .i64 pg, .int .i64 st, .int .i64 tr, .int .i64 wt, .int .i64 ck, .int .i64 pr, .int .i64 ca, .int .i64 bi, .int .i64 ba, .int .i64 0, .int .i64 0, .int .i64 0, .int .i64 0, .int .i64 0, .int .i64 0, .int .i64 0, .int .i64 0, .int .i64 0, .int .i64 0, .int .i64 0, .int .i64 0, .int .i64 0]).heap[w.heap.size + 1]? = some (.cells #[.int .i64 0, .int .i64 0, .int .i64 0, .int .i64 0, .int .i64 0, .int .i64 0, .int .i64 0, .int .i64 0, .int .i64 0, .int .i64 0, .int .i64 0, .int .i64 0, .int .i64 0, .int .i64 0, .int .i64 0, .int .i64 0, .int .i64 0, .int .i64 0, .int .i64 0, .int .i64 0, .int .i64 0, .int .i64 0, .int .i64 0, .int .i64 0] 28 (0, 0))) := by
    rw [setRow_other _ _ _ _ (by have := Hs1.out; omega)]; exact ((More.refl _).alloc _).block HB1.out
  refine (HL.out _).mono ?_
  rintro e w2 ⟨rfl, h2⟩
  have HM2 := Lib.hid (HMA.out.trans h2)
  have HB2 := Lib.hid (h2.block HBA.out)
  have HR2 := Lib.hid (h2.block HRA.out)
  clear h2
  clear HC0 HC HB HM HK HL HS Hlen H1 HC1 HB1 HC1b HMA HBA HRA HM1
  go_wp2_with fail
  go_loopw [6, 7, 8, 19] (fun nx _ _ i wr => ∃ k : Nat, k ≤ 12 ∧ i = .int .i64 k ∧ nx = .int .i64 (nextV cp pg st ca bi k) ∧ wr.heap[w1.heap.size]? = some (.cells (layArr wk cp pg st tr wt ck pr ca bi ba (cutS (startsV cp pg st ca bi) k)) 28 (0, 0)) ∧ wr.heap[w.heap.size + 1]? = some (.cells #[.int .i64 0, .int .i64 0, .int .i64 0, .int .i64 0, .int .i64 0, .int .i64 0, .int .i64 0, .int .i64 0, .int .i64 0, .int .i64 0, .int .i64 0, .int .i64 0, .int .i64 0, .int .i64 0, .int .i64 0, .int .i64 0, .int .i64 0, .int .i64 0, .int .i64 0, .int .i64 0, .int .i64 0, .int .i64 0, .int .i64 0, .int .i64 0] 28 (0, 0)) ∧ More w wr) (fun _ _ _ i _ => 12 - (intOf i).toNat)
  case atStart => exact ⟨0, by omega, rfl, rfl, HB2.out, HR2.out, HM2.out⟩
  case round =>
    clear HB2 HR2 HM2
    obtain ⟨k, hk, rfl, rfl, hb, hr, hm⟩ := hrel
    have nb := next_b HRR.out hk
    have sb := starts_b HRR.out hk
    have xc : wr.cell? ⟨w1.heap.size, 11 + k, none⟩ = some (.int .i64 (cutS (startsV cp pg st ca bi) k k)) := by rw [cell_of_row _ _ _ _ _ _ hb]; exact layArr_start wk cp pg st tr wt ck pr ca bi ba _ k hk
    have xf : wr.frozen? ⟨w1.heap.size, 11 + k, none⟩ = false := by simp [World.frozen?, hb]
    have HE := Lib.hid (setCell_eq_setRow wr w1.heap.size (11 + k) _ 28 (0, 0) (.int .i64 (startsV cp pg st ca bi k)) hb)
    have HN := Lib.hid (setRow_heap wr w1.heap.size _ ((layArr wk cp pg st tr wt ck pr ca bi ba (cutS (startsV cp pg st ca bi) k)).setIfInBounds (11 + k) (.int .i64 (startsV cp pg st ca bi k))) 28 (0, 0) hb)
    rw [cut_set wk cp pg st tr wt ck pr ca bi ba hk] at HE HN
    have HO : Hid ((wr.setRow w1.heap.size (layArr wk cp pg st tr wt ck pr ca bi ba (cutS (startsV cp pg st ca bi) (k + 1)))).heap[w.heap.size + 1]? = some (.cells #[.int .i64 0, .int .i64 0, .int .i64 0, .int .i64 0, .int .i64 0, .int .i64 0, .int .i64 0, .int .i64 0, .int .i64 0, .int .i64 0, .int .i64 0, .int .i64 0, .int .i64 0, .int .i64 0, .int .i64 0, .int .i64 0, .int .i64 0, .int .i64 0, .int .i64 0, .int .i64 0, .int .i64 0, .int .i64 0, .int .i64 0, .int .i64 0] 28 (0, 0))) := by
      rw [setRow_other _ _ _ _ (by have := Hs1.out; omega)]; exact hr
    have HP : Hid (More w (wr.setRow w1.heap.size (layArr wk cp pg st tr wt ck pr ca bi ba (cutS (startsV cp pg st ca bi) (k + 1))))) := hm.setRow _ _ (by have := Hs1.out; omega)
    clear hb hr hm
    by_cases hlt : k < 12
    · have d0 : decide ((k : Int) < 12) = true := by simp; omega
      have hl : ∀ W, (Instr.index 76 (.agg (lensArr cp pg st ca bi)) (.int .i64 k)).run Try.prog W = .ok (.int .i64 (lensV cp pg st ca bi k)) W := fun W => run_index_row W Try.underlying76 Try.underlying3 (by kernel_rfl) hlt (lensArr_at cp pg st ca bi hlt)
      have HQ := Lib.hid (next_step cp pg st ca bi hlt)
      have nb2 := next_b HRR.out (show k + 1 ≤ 12 by omega)
      have q0 : IntKind.i64.wrap (startsV cp pg st ca bi k + lensV cp pg st ca bi k) = nextV cp pg st ca bi (k + 1) := by rw [HQ.out]; exact wrap_in (by omega) (by omega)
      have r0 : (0 : Int) ≤ (k : Int) := by omega
      have r1 : (k : Int) < 13 := by omega
      by_cases h11 : k = 11
      · have d1 : decide ((k : Int) = 11) = true := by simp; omega
        have HU : Hid ((nextV cp pg st ca bi k + 127) / 128 * 128 = startsV cp pg st ca bi k) := by subst h11; exact user_of_next cp pg st ca bi
        have d2 : ((k : Int) == 11) = true := by simp; omega
        have d3 : decide (k = 11) = true := by simp; omega
        clear h11
        go_wp2_with fail
        refine (laligned _ nb.1 (by omega) _).mono ?_
        rw [HU.out]
        rintro e w3 ⟨rfl, rfl⟩
        go_wp2_with fail
        rw [HE.out]
        go_roundw
        case rel => exact ⟨k + 1, by omega, by go_num, rfl, HN.out, HO.out, HP.out⟩
        case measure => simp [intOf]; omega
      · have d1 : decide ((k : Int) = 11) = false := by simp; omega
        rw [← start_of_next cp pg st ca bi (by omega : k < 11)]
        go_wp2_with fail
        rw [HE.out]
        go_roundw
        case rel => exact ⟨k + 1, by omega, by go_num, rfl, HN.out, HO.out, HP.out⟩
        case measure => simp [intOf]; omega
    · have he : k = 12 := by omega
      subst he
      rw [show nextV cp pg st ca bi 12 = startsV cp pg st ca bi 12 from rfl]
      go_wp2_with (first
        | (refine wpList_load_row rfl 28 _ rfl _ rfl 28 _ _ _ (HN.out) Try.underlying28 rfl (by kernel_rfl) ?_)
        | (rw [HE.out]; refine wpList_load_row rfl 28 _ rfl _ rfl 28 _ _ _ (HN.out) Try.underlying28 rfl (by kernel_rfl) ?_)
        | (refine wpList_store_row rfl 28 _ _ rfl _ _ rfl rfl 28 _ HO.out (by kernel_rfl) rfl (layArr_one ..) ?_))
      have HF := Lib.hid (setRow_heap _ (w.heap.size + 1) _ (layArr wk cp pg st tr wt ck pr ca bi ba (startsV cp pg st ca bi)) _ _ HO.out)
      have HG : Hid (More w ((wr.setRow w1.heap.size (layArr wk cp pg st tr wt ck pr ca bi ba (startsV cp pg st ca bi))).setRow (w.heap.size + 1) (layArr wk cp pg st tr wt ck pr ca bi ba (startsV cp pg st ca bi)))) := HP.out.setRow _ _ (by omega)
      refine bodyPost_ret (v := .tuple #[.agg (layArr wk cp pg st tr wt ck pr ca bi ba (startsV cp pg st ca bi)), .int .i64 0]) (results_row2 Try.results15 _ _ _ 28 _ (0, 0) _ rfl HF.out Try.underlying28 rfl (by kernel_rfl)) rfl ⟨rfl, HG.out⟩

end Go.Proofs.Ytonenkgjlmcfkaa
