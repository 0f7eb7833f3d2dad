/-
  The landed model: Block.
-/
import Derived.Test.YtahejbahnhohcaaDoorMdE
namespace Go.Proofs.YtahejbahnhohcaaDoor
open Go.RowKit Go.Sort
set_option linter.unusedVariables false
set_option linter.unusedSimpArgs false

section
variable {ops : Array Oper} {C : World → Prop} {o : Oper} {a : Act} {x : Operand}
theorem yieldsC_nilp {A : Addr} (hw : Region.wanted o (yielded ops a.tmps) = true) (ho : o.op = .nilCheck x) (hx : a.eval x = .pointer (some A)) : YieldsC Tryd.prog ops C o (.pointer (some A)) a :=
  .inl ⟨hw, fun w _ => by unfold execOp; generalize a.eval = ρ at hx ⊢; simp only [ho, hx]; go_simp⟩
theorem yieldsC_md0 {p : Nat} (hw : Region.wanted o (yielded ops a.tmps) = true) (ho : o.op = .fieldAddr 68 x 0) (hx : a.eval x = .pointer (some ⟨p, 0, none⟩)) : YieldsC Tryd.prog ops C o (.pointer (some ⟨p, 0, none⟩)) a :=
  .inl ⟨hw, fun w _ => by unfold execOp; generalize a.eval = ρ at hx ⊢; simp only [ho, hx]; go_simp⟩
theorem yieldsC_md1 {p : Nat} (hw : Region.wanted o (yielded ops a.tmps) = true) (ho : o.op = .fieldAddr 68 x 1) (hx : a.eval x = .pointer (some ⟨p, 0, none⟩)) : YieldsC Tryd.prog ops C o (.pointer (some ⟨p, 24, none⟩)) a :=
  .inl ⟨hw, fun w _ => by unfold execOp; generalize a.eval = ρ at hx ⊢; simp only [ho, hx]; go_simp⟩
theorem yieldsC_md2 {p : Nat} (hw : Region.wanted o (yielded ops a.tmps) = true) (ho : o.op = .fieldAddr 68 x 2) (hx : a.eval x = .pointer (some ⟨p, 0, none⟩)) : YieldsC Tryd.prog ops C o (.pointer (some ⟨p, 25, none⟩)) a :=
  .inl ⟨hw, fun w _ => by unfold execOp; generalize a.eval = ρ at hx ⊢; simp only [ho, hx]; go_simp⟩
theorem yieldsC_ext {vs : Array Value} {k : Nat} {v : Value} (hw : Region.wanted o (yielded ops a.tmps) = true) (ho : o.op = .extract x k) (hx : a.eval x = .tuple vs) (hv : vs[k]? = some v) : YieldsC Tryd.prog ops C o v a :=
  .inl ⟨hw, fun w _ => by unfold execOp; generalize a.eval = ρ at hx ⊢; simp only [ho, hx]; simp [go_sem, hv]⟩
theorem wp_alloc_mb {w : World} {K : Act → World → Prop} {Q : Exit → Act → World → Prop} (ho : o.op = .alloc 65) (h : K (a.put o.dst (.pointer (some ⟨w.heap.size, 0, none⟩))) (w.alloc (.cells #[.int .i64 0, .int .i64 0] 65))) : Oper.wp Tryd.prog o a w K Q := by
  unfold Oper.wp Oper.upon
  go_simp
  exact h
end
/-- What is told of the i-th block. -/
def atM (D : List BKV) (i : Nat) : BKV × Bool := match D[i]? with | some x => (x, true) | none => ((0, (0, 0)), false)
theorem b_at_any (F : Nat → Prop) (p : Nat) (D : List BKV) (i : Nat) (w : World) (h : BMapAt w F p D) :
    Calls Tryd.prog 22 #[.pointer (some ⟨p, 0, none⟩), .int .i64 i] w (Gives w (.tuple #[.int .i64 (atM D i).1.1, .agg #[.int .i64 (atM D i).1.2.1, .int .i64 (atM D i).1.2.2], .bool (atM D i).2])) := by
  unfold atM
  cases e : D[i]? with
  | some x => exact b_at_ok F p D i x w h e
  | none => exact b_at_none F p D i w h (.inr (by have := List.getElem?_eq_none_iff.1 e; omega))

set_option maxRecDepth 100000 in
set_option maxHeartbeats 4000000 in
theorem md_block {F : Nat → Prop} {p : Nat} {c : Cfg} {D : List BKV} {ws : List Int} (a : Int) (w : World) (h : MdAt w F p c D ws) :
    Calls Tryd.prog 8 #[.pointer (some ⟨p, 0, none⟩), .int .i64 a] w (Gives w (match blockM D a with | some x => .tuple #[.int .i64 x.1, .int .i64 x.2.2, .bool true] | none => .tuple #[.int .i64 0, .int .i64 0, .bool false])) := by
  obtain ⟨q, g, cap, F1, hp, hb, hr, _⟩ := h.ex
  have HB : Hid (MdB w p c q g ws.length cap) := Lib.hid hp
  have hq0 := HB.out.live
  have FST := Lib.hid (fun W (hW : More w W) => md_first a W (h.more hW))
  have AT := Lib.hid (fun W (hW : More w W) => b_at_any F1 q D (firstM D a) W (hb.more hW))
  have hbk : blockM D a = if (atM D (firstM D a)).2 = true ∧ (atM D (firstM D a)).1.1 ≤ a then some (atM D (firstM D a)).1 else none := by
    unfold blockM atM
    cases e : D[firstM D a]? with
    | none => simp
    | some x => simp [Option.filter]
  rw [hbk]
  clear hbk hp hb hr h
  have HQ := Lib.hid hq0
  generalize atM D (firstM D a) = y at AT ⊢
  generalize firstM D a = k at FST AT
  obtain ⟨⟨y1, y2, y3⟩, b⟩ := y
  simp only at AT ⊢
  obtain ⟨RV, hRV⟩ : ∃ RV, (match (if b = true ∧ y1 ≤ a then some (y1, (y2, y3)) else none : Option BKV) with | some x => (.tuple #[.int .i64 x.1, .int .i64 x.2.2, .bool true] : Value) | none => .tuple #[.int .i64 0, .int .i64 0, .bool false]) = RV := ⟨_, rfl⟩
  rw [hRV]
  have HRV : Hid ((b = true ∧ y1 ≤ a → RV = .tuple #[.int .i64 y1, .int .i64 y3, .bool true]) ∧ (¬ (b = true ∧ y1 ≤ a) → RV = .tuple #[.int .i64 0, .int .i64 0, .bool false])) := Lib.hid ⟨fun h => by rw [← hRV, if_pos h], fun h => by rw [← hRV, if_neg h]⟩
  clear hRV
  go_enter Tryd.func8, Tryd.ntmps8
  go_wp2_with fail
  refine wp_region_anyC (fun W => W.cell? ⟨p, 24, none⟩ = some (.pointer (some ⟨q, 0, none⟩))) (by kernel_rfl) ?_
  change anyC _ _ _ _ _ _ _ _ (w.drewN 1)
  have MQ : Hid (More w (w.drewN 1)) := Lib.hid ((More.refl w).drewN 1)
  generalize w.drewN 1 = wq at MQ ⊢
  generalize hA : Act.mk _ _ = A
  have HF : AG 34 A [(0, .pointer (some ⟨p, 0, none⟩)), (1, .int .i64 a)] := by
    rw [← hA]
    refine ⟨⟨Nat.le_of_ble_eq_true rfl, rfl⟩, ?_⟩
    intro z hz; simp only [List.mem_cons, List.not_mem_nil, or_false] at hz; rcases hz with rfl | rfl <;> rfl
  refine anyC_start (fun a' W => ∃ bz : Nat, a' = (Act.put (Act.put (Act.put (Act.put (Act.put (Act.put (Act.put (Act.put (Act.put (Act.put (Act.put (Act.put (Act.put (Act.put (Act.put A (some 13) (.pointer (some ⟨p, 0, none⟩))) (some 14) (.pointer (some ⟨p, 0, none⟩))) (some 15) (.pointer (some ⟨p, 24, none⟩))) (some 16) (.pointer (some ⟨q, 0, none⟩))) (some 17) (.pointer (some ⟨p, 0, none⟩))) (some 18) (.int .i64 a)) (some 19) (.int .i64 (k : Int))) (some 20) (.tuple #[.int .i64 y1, .agg #[.int .i64 y2, .int .i64 y3], .bool b])) (some 12) (.tuple #[.int .i64 y1, .agg #[.int .i64 y2, .int .i64 y3], .bool b])) (some 21) (.int .i64 y1)) (some 22) (.agg #[.int .i64 y2, .int .i64 y3])) (some 23) (.bool b)) (some 8) (.pointer (some ⟨bz, 0, none⟩))) (some 7) (.int .i64 y1)) (some 9) (.bool b)) ∧ W.heap[bz]? = some (.cells #[.int .i64 y2, .int .i64 y3] 65 (0, 0)) ∧ More w W) (fun _ => False) [] (fun a W hd h => h.elim) (fun _ _ _ _ _ h => h) ?_ ?_
  · rintro a1 W ⟨bz, rfl, hz, hM⟩
    rw [← hA]
    clear hA
    have z1 := cell_more hz (More.refl _) (j := 1) (v := .int .i64 y3) rfl
    have MM := Lib.hid hM
    clear hz hM FST AT
    by_cases hb : b = true ∧ y1 ≤ a
    · obtain ⟨rfl, hy⟩ := hb
      have d1 : decide (a < y1) = false := by simp; omega
      have HE := Lib.hid (HRV.out.1 ⟨rfl, hy⟩)
      clear hy HRV
      go_simp
      go_wp2_with fail
      go_quiet (fail)
      go_wp2_with fail
      go_ret3
      exact ⟨by rw [HE.out]; rfl, MM.out.drewN _⟩
    · have HE := Lib.hid (HRV.out.2 hb)
      clear HRV
      cases b with
      | false =>
        clear hb
        go_simp
        go_wp2_with fail
        go_ret3
        exact ⟨by rw [HE.out]; rfl, MM.out⟩
      | true =>
        have d1 : decide (a < y1) = true := by simp at hb ⊢; omega
        clear hb
        go_simp
        go_wp2_with fail
        go_ret3
        exact ⟨by rw [HE.out]; rfl, MM.out⟩
  intro QQ FINE FIND FINQ
  clear hA
  refine anyC_takeD (i := 0) (v := .pointer (some ⟨p, 0, none⟩)) (some 13) rfl rfl (by kernel_rfl) (by kernel_rfl) (by kernel_rfl) (fun c a w => FINQ c a _ _ w) (MQ.out.cell HQ.out) (by exact yieldsC_moveG (wanted_none rfl) _ rfl (HF.get 0 rfl)) ?_
  replace HF := HF.put 13 (.pointer (some ⟨p, 0, none⟩)) (by decide) rfl
  generalize hB1 : Act.put _ _ _ = A at HF ⊢
  refine anyC_takeD (i := 1) (v := .pointer (some ⟨p, 0, none⟩)) (some 14) rfl rfl (by kernel_rfl) (by kernel_rfl) (by kernel_rfl) (fun c a w => FINQ c a _ _ w) (MQ.out.cell HQ.out) (by exact yieldsC_nilp (wanted_none rfl) rfl (HF.get 0 rfl)) ?_
  replace HF := HF.put 14 (.pointer (some ⟨p, 0, none⟩)) (by decide) rfl
  generalize hB2 : Act.put _ _ _ = A at HF ⊢
  refine anyC_takeD (i := 2) (v := .pointer (some ⟨p, 24, none⟩)) (some 15) rfl rfl (by kernel_rfl) (by kernel_rfl) (by kernel_rfl) (fun c a w => FINQ c a _ _ w) (MQ.out.cell HQ.out) (by exact yieldsC_md1 (wanted_none rfl) rfl (HF.get 0 rfl)) ?_
  replace HF := HF.put 15 (.pointer (some ⟨p, 24, none⟩)) (by decide) rfl
  generalize hB3 : Act.put _ _ _ = A at HF ⊢
  refine anyC_takeD (i := 3) (v := .pointer (some ⟨q, 0, none⟩)) (some 16) rfl rfl (by kernel_rfl) (by kernel_rfl) (by kernel_rfl) (fun c a w => FINQ c a _ _ w) (MQ.out.cell HQ.out) (by exact yieldsC_cell (C := (fun W => W.cell? ⟨p, 24, none⟩ = some (.pointer (some ⟨q, 0, none⟩)))) (wanted_none rfl) _ _ rfl p 24 (HF.get 0 rfl) _ _ Tryd.underlying62 rfl (fun W hW => hW)) ?_
  replace HF := HF.put 16 (.pointer (some ⟨q, 0, none⟩)) (by decide) rfl
  generalize hB4 : Act.put _ _ _ = A at HF ⊢
  refine anyC_takeD (i := 4) (v := .pointer (some ⟨p, 0, none⟩)) (some 17) rfl rfl (by kernel_rfl) (by kernel_rfl) (by kernel_rfl) (fun c a w => FINQ c a _ _ w) (MQ.out.cell HQ.out) (by exact yieldsC_moveG (wanted_none rfl) _ rfl (HF.get 4 rfl)) ?_
  replace HF := HF.put 17 (.pointer (some ⟨p, 0, none⟩)) (by decide) rfl
  generalize hB5 : Act.put _ _ _ = A at HF ⊢
  refine anyC_takeD (i := 5) (v := .int .i64 a) (some 18) rfl rfl (by kernel_rfl) (by kernel_rfl) (by kernel_rfl) (fun c a w => FINQ c a _ _ w) (MQ.out.cell HQ.out) (by exact yieldsC_moveG (wanted_none rfl) _ rfl (HF.get 6 rfl)) ?_
  replace HF := HF.put 18 (.int .i64 a) (by decide) rfl
  generalize hB6 : Act.put _ _ _ = A at HF ⊢
  refine anyC_two (i := 6) (j := 12) (some 19) (some 8) (by kernel_rfl) rfl rfl (wanted_none rfl) (wanted_none rfl) rfl rfl (fun K hK => ?_) (fun K hK => ?_)
  · refine wp_call2 rfl (HF.get 1 rfl) (HF.get 0 rfl) (enters_of Tryd.func23 (by kernel_rfl) rfl) ?_
    refine (FST.out _ MQ.out).mono ?_
    rintro e w6 ⟨rfl, h6⟩
    have M6 := Lib.hid (MQ.out.trans h6)
    clear h6
    refine hK _ _ (M6.out.cell HQ.out) ?_
    clear hK K
    replace HF := HF.put 19 (.int .i64 (k : Int)) (by decide) rfl
    generalize hB7 : Act.put _ _ _ = A at HF ⊢
    refine anyC_two (i := 7) (j := 12) (some 20) (some 8) (by kernel_rfl) rfl rfl (wanted_none rfl) (wanted_none rfl) rfl rfl (fun K hK => ?_) (fun K hK => ?_)
    · refine wp_call2 rfl (HF.get 3 rfl) (HF.get 0 rfl) (enters_of Tryd.func22 (by kernel_rfl) rfl) ?_
      refine (AT.out _ M6.out).mono ?_
      rintro e w7 ⟨rfl, h7⟩
      have M7 := Lib.hid (M6.out.trans h7)
      clear h7
      refine hK _ _ (M7.out.cell HQ.out) ?_
      clear hK K
      replace HF := HF.put 20 (.tuple #[.int .i64 y1, .agg #[.int .i64 y2, .int .i64 y3], .bool b]) (by decide) rfl
      generalize hB8 : Act.put _ _ _ = A at HF ⊢
      refine anyC_takeD (i := 8) (v := .tuple #[.int .i64 y1, .agg #[.int .i64 y2, .int .i64 y3], .bool b]) (some 12) rfl rfl (by kernel_rfl) (by kernel_rfl) (by kernel_rfl) (fun c a w => FINQ c a _ _ w) (M7.out.cell HQ.out) (by exact yieldsC_moveG (wanted_none rfl) _ rfl (HF.get 0 rfl)) ?_
      replace HF := HF.put 12 (.tuple #[.int .i64 y1, .agg #[.int .i64 y2, .int .i64 y3], .bool b]) (by decide) rfl
      generalize hB9 : Act.put _ _ _ = A at HF ⊢
      refine anyC_takeD (i := 9) (v := .int .i64 y1) (some 21) rfl rfl (by kernel_rfl) (by kernel_rfl) (by kernel_rfl) (fun c a w => FINQ c a _ _ w) (M7.out.cell HQ.out) (by exact yieldsC_ext (wanted_none rfl) rfl (HF.get 0 rfl) rfl) ?_
      replace HF := HF.put 21 (.int .i64 y1) (by decide) rfl
      generalize hB10 : Act.put _ _ _ = A at HF ⊢
      refine anyC_takeD (i := 10) (v := .agg #[.int .i64 y2, .int .i64 y3]) (some 22) rfl rfl (by kernel_rfl) (by kernel_rfl) (by kernel_rfl) (fun c a w => FINQ c a _ _ w) (M7.out.cell HQ.out) (by exact yieldsC_ext (wanted_none rfl) rfl (HF.get 1 rfl) rfl) ?_
      replace HF := HF.put 22 (.agg #[.int .i64 y2, .int .i64 y3]) (by decide) rfl
      generalize hB11 : Act.put _ _ _ = A at HF ⊢
      refine anyC_takeD (i := 11) (v := .bool b) (some 23) rfl rfl (by kernel_rfl) (by kernel_rfl) (by kernel_rfl) (fun c a w => FINQ c a _ _ w) (M7.out.cell HQ.out) (by exact yieldsC_ext (wanted_none rfl) rfl (HF.get 2 rfl) rfl) ?_
      replace HF := HF.put 23 (.bool b) (by decide) rfl
      generalize hB12 : Act.put _ _ _ = A at HF ⊢
      refine anyC_oneK (i := 12) (some 8) (by kernel_rfl) rfl (wanted_none rfl) rfl (fun K hK => ?_)
      refine wp_alloc_mb rfl ?_
      obtain ⟨w8, e8, h8, m8, _⟩ := entry1 w7 (.cells #[.int .i64 0, .int .i64 0] 65)
      rw [e8]
      have H8 := Lib.hid h8
      have M8 := Lib.hid (M7.out.trans m8)
      have G : w.heap.size ≤ w7.heap.size := M7.out.size
      clear h8 m8 e8
      refine hK _ _ (M8.out.cell HQ.out) ?_
      clear hK K
      replace HF := HF.put 8 (.pointer (some ⟨w7.heap.size, 0, none⟩)) (by decide) rfl
      generalize hB13 : Act.put _ _ _ = A at HF ⊢
      refine anyC_takeD (i := 13) (v := .int .i64 y1) (some 7) rfl rfl (by kernel_rfl) (by kernel_rfl) (by kernel_rfl) (fun c a w => FINQ c a _ _ w) (M8.out.cell HQ.out) (by exact yieldsC_assign (wanted_none rfl) _ rfl (HF.get 3 rfl)) ?_
      replace HF := HF.put 7 (.int .i64 y1) (by decide) rfl
      generalize hB14 : Act.put _ _ _ = A at HF ⊢
      refine anyC_oneK (i := 14) none (by kernel_rfl) rfl (wanted_none rfl) rfl (fun K hK => ?_)
      refine wp_store_row 65 _ _ rfl w7.heap.size _ (HF.get 1 rfl) (HF.get 3 rfl) 65 _ H8.out (by kernel_rfl) rfl (by simp [Value.oneCell']) ?_
      have HE := Lib.hid (setRow_heap w8 w7.heap.size _ #[.int .i64 y2, .int .i64 y3] _ _ H8.out)
      have ME := Lib.hid (M8.out.setRow w7.heap.size #[.int .i64 y2, .int .i64 y3] G)
      refine hK _ _ (ME.out.cell HQ.out) ?_
      clear hK K
      change anyC _ _ _ _ _ _ _ A _
      refine anyC_takeD (i := 15) (v := .bool b) (some 9) rfl rfl (by kernel_rfl) (by kernel_rfl) (by kernel_rfl) (fun c a w => FINQ c a _ _ w) (ME.out.cell HQ.out) (by exact yieldsC_assign (wanted_none rfl) _ rfl (HF.get 2 rfl)) ?_
      replace HF := HF.put 9 (.bool b) (by decide) rfl
      generalize hB15 : Act.put _ _ _ = A at HF ⊢
      exact anyC_done (by kernel_rfl) (FINE _ _ ⟨w7.heap.size, by rw [← hB15, ← hB14, ← hB13, ← hB12, ← hB11, ← hB10, ← hB9, ← hB8, ← hB7, ← hB6, ← hB5, ← hB4, ← hB3, ← hB2, ← hB1] <;> kernel_rfl, HE.out, ME.out⟩)
    · refine wp_alloc_mb rfl ?_
      obtain ⟨w7, e7, h7, m7, _⟩ := entry1 w6 (.cells #[.int .i64 0, .int .i64 0] 65)
      rw [e7]
      have H7 := Lib.hid h7
      have M7 := Lib.hid (M6.out.trans m7)
      have G : w.heap.size ≤ w6.heap.size := M6.out.size
      clear h7 m7 e7
      refine hK _ _ (M7.out.cell HQ.out) ?_
      clear hK K
      replace HF := HF.put 8 (.pointer (some ⟨w6.heap.size, 0, none⟩)) (by decide) rfl
      generalize hB8 : Act.put _ _ _ = A at HF ⊢
      refine anyC_oneK (i := 7) (some 20) (by kernel_rfl) rfl (wanted_none rfl) rfl (fun K hK => ?_)
      refine wp_call2 rfl (HF.get 4 rfl) (HF.get 1 rfl) (enters_of Tryd.func22 (by kernel_rfl) rfl) ?_
      refine (AT.out _ M7.out).mono ?_
      rintro e w8 ⟨rfl, h8⟩
      have M8 := Lib.hid (M7.out.trans h8)
      have H8 := Lib.hid (h8.block H7.out)
      clear h8
      refine hK _ _ (M8.out.cell HQ.out) ?_
      clear hK K
      replace HF := HF.put 20 (.tuple #[.int .i64 y1, .agg #[.int .i64 y2, .int .i64 y3], .bool b]) (by decide) rfl
      generalize hB9 : Act.put _ _ _ = A at HF ⊢
      refine anyC_takeD (i := 8) (v := .tuple #[.int .i64 y1, .agg #[.int .i64 y2, .int .i64 y3], .bool b]) (some 12) rfl rfl (by kernel_rfl) (by kernel_rfl) (by kernel_rfl) (fun c a w => FINQ c a _ _ w) (M8.out.cell HQ.out) (by exact yieldsC_moveG (wanted_none rfl) _ rfl (HF.get 0 rfl)) ?_
      replace HF := HF.put 12 (.tuple #[.int .i64 y1, .agg #[.int .i64 y2, .int .i64 y3], .bool b]) (by decide) rfl
      generalize hB10 : Act.put _ _ _ = A at HF ⊢
      refine anyC_takeD (i := 9) (v := .int .i64 y1) (some 21) rfl rfl (by kernel_rfl) (by kernel_rfl) (by kernel_rfl) (fun c a w => FINQ c a _ _ w) (M8.out.cell HQ.out) (by exact yieldsC_ext (wanted_none rfl) rfl (HF.get 0 rfl) rfl) ?_
      replace HF := HF.put 21 (.int .i64 y1) (by decide) rfl
      generalize hB11 : Act.put _ _ _ = A at HF ⊢
      refine anyC_takeD (i := 10) (v := .agg #[.int .i64 y2, .int .i64 y3]) (some 22) rfl rfl (by kernel_rfl) (by kernel_rfl) (by kernel_rfl) (fun c a w => FINQ c a _ _ w) (M8.out.cell HQ.out) (by exact yieldsC_ext (wanted_none rfl) rfl (HF.get 1 rfl) rfl) ?_
      replace HF := HF.put 22 (.agg #[.int .i64 y2, .int .i64 y3]) (by decide) rfl
      generalize hB12 : Act.put _ _ _ = A at HF ⊢
      refine anyC_takeD (i := 11) (v := .bool b) (some 23) rfl rfl (by kernel_rfl) (by kernel_rfl) (by kernel_rfl) (fun c a w => FINQ c a _ _ w) (M8.out.cell HQ.out) (by exact yieldsC_ext (wanted_none rfl) rfl (HF.get 2 rfl) rfl) ?_
      replace HF := HF.put 23 (.bool b) (by decide) rfl
      generalize hB13 : Act.put _ _ _ = A at HF ⊢
      refine anyC_takeD (i := 13) (v := .int .i64 y1) (some 7) rfl rfl (by kernel_rfl) (by kernel_rfl) (by kernel_rfl) (fun c a w => FINQ c a _ _ w) (M8.out.cell HQ.out) (by exact yieldsC_assign (wanted_none rfl) _ rfl (HF.get 2 rfl)) ?_
      replace HF := HF.put 7 (.int .i64 y1) (by decide) rfl
      generalize hB14 : Act.put _ _ _ = A at HF ⊢
      refine anyC_oneK (i := 14) none (by kernel_rfl) rfl (wanted_none rfl) rfl (fun K hK => ?_)
      refine wp_store_row 65 _ _ rfl w6.heap.size _ (HF.get 6 rfl) (HF.get 2 rfl) 65 _ H8.out (by kernel_rfl) rfl (by simp [Value.oneCell']) ?_
      have HE := Lib.hid (setRow_heap w8 w6.heap.size _ #[.int .i64 y2, .int .i64 y3] _ _ H8.out)
      have ME := Lib.hid (M8.out.setRow w6.heap.size #[.int .i64 y2, .int .i64 y3] G)
      refine hK _ _ (ME.out.cell HQ.out) ?_
      clear hK K
      change anyC _ _ _ _ _ _ _ A _
      refine anyC_takeD (i := 15) (v := .bool b) (some 9) rfl rfl (by kernel_rfl) (by kernel_rfl) (by kernel_rfl) (fun c a w => FINQ c a _ _ w) (ME.out.cell HQ.out) (by exact yieldsC_assign (wanted_none rfl) _ rfl (HF.get 1 rfl)) ?_
      replace HF := HF.put 9 (.bool b) (by decide) rfl
      generalize hB15 : Act.put _ _ _ = A at HF ⊢
      exact anyC_done (by kernel_rfl) (FINE _ _ ⟨w6.heap.size, by rw [← hB15, ← hB14, ← hB13, ← hB12, ← hB11, ← hB10, ← hB9, ← hB8, ← hB7, ← hB6, ← hB5, ← hB4, ← hB3, ← hB2, ← hB1] <;> kernel_rfl, HE.out, ME.out⟩)
  · refine wp_alloc_mb rfl ?_
    obtain ⟨w6, e6, h6, m6, _⟩ := entry1 wq (.cells #[.int .i64 0, .int .i64 0] 65)
    rw [e6]
    have H6 := Lib.hid h6
    have M6 := Lib.hid (MQ.out.trans m6)
    have G : w.heap.size ≤ wq.heap.size := MQ.out.size
    clear h6 m6 e6
    refine hK _ _ (M6.out.cell HQ.out) ?_
    clear hK K
    replace HF := HF.put 8 (.pointer (some ⟨wq.heap.size, 0, none⟩)) (by decide) rfl
    generalize hB7 : Act.put _ _ _ = A at HF ⊢
    refine anyC_oneK (i := 6) (some 19) (by kernel_rfl) rfl (wanted_none rfl) rfl (fun K hK => ?_)
    refine wp_call2 rfl (HF.get 2 rfl) (HF.get 1 rfl) (enters_of Tryd.func23 (by kernel_rfl) rfl) ?_
    refine (FST.out _ M6.out).mono ?_
    rintro e w7 ⟨rfl, h7⟩
    have M7 := Lib.hid (M6.out.trans h7)
    have H7 := Lib.hid (h7.block H6.out)
    clear h7
    refine hK _ _ (M7.out.cell HQ.out) ?_
    clear hK K
    replace HF := HF.put 19 (.int .i64 (k : Int)) (by decide) rfl
    generalize hB8 : Act.put _ _ _ = A at HF ⊢
    refine anyC_oneK (i := 7) (some 20) (by kernel_rfl) rfl (wanted_none rfl) rfl (fun K hK => ?_)
    refine wp_call2 rfl (HF.get 4 rfl) (HF.get 0 rfl) (enters_of Tryd.func22 (by kernel_rfl) rfl) ?_
    refine (AT.out _ M7.out).mono ?_
    rintro e w8 ⟨rfl, h8⟩
    have M8 := Lib.hid (M7.out.trans h8)
    have H8 := Lib.hid (h8.block H7.out)
    clear h8
    refine hK _ _ (M8.out.cell HQ.out) ?_
    clear hK K
    replace HF := HF.put 20 (.tuple #[.int .i64 y1, .agg #[.int .i64 y2, .int .i64 y3], .bool b]) (by decide) rfl
    generalize hB9 : Act.put _ _ _ = A at HF ⊢
    refine anyC_takeD (i := 8) (v := .tuple #[.int .i64 y1, .agg #[.int .i64 y2, .int .i64 y3], .bool b]) (some 12) rfl rfl (by kernel_rfl) (by kernel_rfl) (by kernel_rfl) (fun c a w => FINQ c a _ _ w) (M8.out.cell HQ.out) (by exact yieldsC_moveG (wanted_none rfl) _ rfl (HF.get 0 rfl)) ?_
    replace HF := HF.put 12 (.tuple #[.int .i64 y1, .agg #[.int .i64 y2, .int .i64 y3], .bool b]) (by decide) rfl
    generalize hB10 : Act.put _ _ _ = A at HF ⊢
    refine anyC_takeD (i := 9) (v := .int .i64 y1) (some 21) rfl rfl (by kernel_rfl) (by kernel_rfl) (by kernel_rfl) (fun c a w => FINQ c a _ _ w) (M8.out.cell HQ.out) (by exact yieldsC_ext (wanted_none rfl) rfl (HF.get 0 rfl) rfl) ?_
    replace HF := HF.put 21 (.int .i64 y1) (by decide) rfl
    generalize hB11 : Act.put _ _ _ = A at HF ⊢
    refine anyC_takeD (i := 10) (v := .agg #[.int .i64 y2, .int .i64 y3]) (some 22) rfl rfl (by kernel_rfl) (by kernel_rfl) (by kernel_rfl) (fun c a w => FINQ c a _ _ w) (M8.out.cell HQ.out) (by exact yieldsC_ext (wanted_none rfl) rfl (HF.get 1 rfl) rfl) ?_
    replace HF := HF.put 22 (.agg #[.int .i64 y2, .int .i64 y3]) (by decide) rfl
    generalize hB12 : Act.put _ _ _ = A at HF ⊢
    refine anyC_takeD (i := 11) (v := .bool b) (some 23) rfl rfl (by kernel_rfl) (by kernel_rfl) (by kernel_rfl) (fun c a w => FINQ c a _ _ w) (M8.out.cell HQ.out) (by exact yieldsC_ext (wanted_none rfl) rfl (HF.get 2 rfl) rfl) ?_
    replace HF := HF.put 23 (.bool b) (by decide) rfl
    generalize hB13 : Act.put _ _ _ = A at HF ⊢
    refine anyC_takeD (i := 13) (v := .int .i64 y1) (some 7) rfl rfl (by kernel_rfl) (by kernel_rfl) (by kernel_rfl) (fun c a w => FINQ c a _ _ w) (M8.out.cell HQ.out) (by exact yieldsC_assign (wanted_none rfl) _ rfl (HF.get 2 rfl)) ?_
    replace HF := HF.put 7 (.int .i64 y1) (by decide) rfl
    generalize hB14 : Act.put _ _ _ = A at HF ⊢
    refine anyC_oneK (i := 14) none (by kernel_rfl) rfl (wanted_none rfl) rfl (fun K hK => ?_)
    refine wp_store_row 65 _ _ rfl wq.heap.size _ (HF.get 7 rfl) (HF.get 2 rfl) 65 _ H8.out (by kernel_rfl) rfl (by simp [Value.oneCell']) ?_
    have HE := Lib.hid (setRow_heap w8 wq.heap.size _ #[.int .i64 y2, .int .i64 y3] _ _ H8.out)
    have ME := Lib.hid (M8.out.setRow wq.heap.size #[.int .i64 y2, .int .i64 y3] G)
    refine hK _ _ (ME.out.cell HQ.out) ?_
    clear hK K
    change anyC _ _ _ _ _ _ _ A _
    refine anyC_takeD (i := 15) (v := .bool b) (some 9) rfl rfl (by kernel_rfl) (by kernel_rfl) (by kernel_rfl) (fun c a w => FINQ c a _ _ w) (ME.out.cell HQ.out) (by exact yieldsC_assign (wanted_none rfl) _ rfl (HF.get 1 rfl)) ?_
    replace HF := HF.put 9 (.bool b) (by decide) rfl
    generalize hB15 : Act.put _ _ _ = A at HF ⊢
    exact anyC_done (by kernel_rfl) (FINE _ _ ⟨wq.heap.size, by rw [← hB15, ← hB14, ← hB13, ← hB12, ← hB11, ← hB10, ← hB9, ← hB8, ← hB7, ← hB6, ← hB5, ← hB4, ← hB3, ← hB2, ← hB1] <;> kernel_rfl, HE.out, ME.out⟩)
end Go.Proofs.YtahejbahnhohcaaDoor
