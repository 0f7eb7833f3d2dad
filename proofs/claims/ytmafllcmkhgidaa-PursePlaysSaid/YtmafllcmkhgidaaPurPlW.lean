/-
  Layer 13's statement of any steps: what its functions answer.
-/
import Derived.Test.YtmafllcmkhgidaaPurPlD
namespace Go.Proofs.Ytmafllcmkhgidaa
open Go.RowKit Go.Shelf
set_option linter.unusedVariables false
set_option linter.unusedSimpArgs false

theorem wp_alloc_pu {o : Oper} {a : Act} {w : World} {K : Act → World → Prop} {Q : Exit → Act → World → Prop} (ho : o.op = .alloc 27) (h : K (a.put o.dst (.pointer (some ⟨w.heap.size, 0, none⟩))) (w.alloc (.cells #[.slice none 0 0, .slice none 0 0, .slice none 0 0, .slice none 0 0, .slice none 0 0] 27))) : Oper.wp Try.prog o a w K Q := by
  unfold Oper.wp Oper.upon execOp
  simp only [ho]
  generalize a.eval = ρ
  go_simp
  exact h
theorem wp_alloc_it {o : Oper} {a : Act} {w : World} {K : Act → World → Prop} {Q : Exit → Act → World → Prop} (ho : o.op = .alloc 30) (h : K (a.put o.dst (.pointer (some ⟨w.heap.size, 0, none⟩))) (w.alloc (.cells #[.slice none 0 0] 30))) : Oper.wp Try.prog o a w K Q := by
  unfold Oper.wp Oper.upon execOp
  simp only [ho]
  generalize a.eval = ρ
  go_simp
  exact h
/-- The two boxes have the same. -/
def BothAt (w : World) (g5 g6 : Nat) (P : Nat → List Int) (k : Nat) : Prop :=
  ∃ f v its, w.heap[g5]? = some (.cells (puA f) 27 (0, 0)) ∧ w.heap[g6]? = some (.cells #[v] 30 (0, 0)) ∧ Pu w f P ∧ IR 0 w v its ∧ Eqv P its ∧ its.length ≤ k

set_option maxHeartbeats 1000000 in
theorem pl_Of (f : Nat → Value) (w : World) (hf : (puA f).all (·.oneCell') = true) : Calls Try.prog 10 #[.agg (puA f)] w (Gives w (.agg (puA f))) := by
  obtain ⟨w2, e2, hl1, hl2, m2, s2⟩ := en2 w (.cells (puA f) 27) (.cells #[.slice none 0 0, .slice none 0 0, .slice none 0 0, .slice none 0 0, .slice none 0 0] 42)
  have L1 := Lib.hid hl1
  have L2 := Lib.hid hl2
  have M2 := Lib.hid m2
  have H1 := Lib.hid hf
  have hsz : (puA f).size = 5 := rfl
  clear hl1 hl2 m2 s2 hf
  go_enter Try.func10, Try.ntmps10
  go_wp2_with (first
    | (refine wpList_load_row rfl 27 _ rfl _ rfl 27 _ _ _ L1.out Try.underlying27 rfl (by kernel_rfl) ?_)
    | (refine wpList_store_row rfl 42 _ _ rfl _ (puA f) rfl rfl 42 _ L2.out (by kernel_rfl) rfl H1.out ?_))
  refine bodyPost_ret (v := .agg (puA f)) (results_cell_row Try.results10 _ _ _ 42 _ (0, 0) _ rfl (setRow_heap _ _ _ _ _ _ L2.out) Try.underlying42 rfl (by kernel_rfl)) rfl ⟨rfl, M2.out.setRow _ _ (by omega)⟩
end Go.Proofs.Ytmafllcmkhgidaa
