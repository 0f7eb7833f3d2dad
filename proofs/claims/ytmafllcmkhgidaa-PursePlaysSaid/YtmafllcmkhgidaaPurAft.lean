/-
  Layer 13's statements: a purse behind some steps.
-/
import Derived.Test.YtmafllcmkhgidaaPurC
import Derived.Test.YtmafllcmkhgidaaRegI
import Derived.Test.YtmafllcmkhgidaaArgs
import Derived.Shelf.Abstract
namespace Go.Proofs.Ytmafllcmkhgidaa
open Go.RowKit Go.Shelf
set_option linter.unusedVariables false
set_option linter.unusedSimpArgs false

/-- One step: which it is, the class, the address, the limit. -/
def stepP (P : Nat → List Int) (t : Nat → Int) : Nat → List Int := if t 0 = 2 then popP P (t 1) else pushP P (t 1) (t 2) (t 3)
def aftP (f : Nat → Nat → Int) : Nat → Nat → List Int
  | 0 => fun _ => []
  | n + 1 => stepP (aftP f n) (f n)
theorem push_len (P : Nat → List Int) (c a l : Int) (k : Nat) : (pushP P c a l k).length ≤ (P k).length + 1 := by
  unfold pushP; split
  · simp only; split <;> simp
  · omega
theorem pop_len (P : Nat → List Int) (c : Int) (k : Nat) : (popP P c k).length ≤ (P k).length := by
  unfold popP; split
  · simp only; split
    · simp
    · omega
  · omega
theorem step_len (P : Nat → List Int) (t : Nat → Int) (k : Nat) : (stepP P t k).length ≤ (P k).length + 1 := by
  unfold stepP; split
  · have := pop_len P (t 1) k; omega
  · exact push_len _ _ _ _ _
theorem aft_len (f : Nat → Nat → Int) (k : Nat) : ∀ n, (aftP f n k).length ≤ n
  | 0 => by simp [aftP]
  | n + 1 => by have := aft_len f k n; have := step_len (aftP f n) (f n) k; rw [aftP]; omega

theorem IsFours.keep {w w' : World} {a : Option Addr} {n : Nat} {f : Nat → Nat → Int} (h : IsFours w a n f) {S : Nat → Prop} (t : Turned S w w') (hs : ∀ k, S k → w.heap.size ≤ k) : IsFours w' a n f := by
  rcases h with h | ⟨s, o, rfl, hl, hc⟩
  · exact .inl h
  · refine .inr ⟨s, o, rfl, Nat.lt_of_lt_of_le hl t.size, fun i hi j hj => ⟨?_, (hc i hi j hj).2⟩⟩
    rw [World.cell?_of_block (w := w) (t.block s hl (fun q => by have := hs s q; omega))]
    exact (hc i hi j hj).1
theorem IsFours.at {w : World} {a : Option Addr} {n : Nat} {f : Nat → Nat → Int} (h : IsFours w a n f) {i : Nat} (hi : i < n) : ∃ s o, a = some ⟨s, o, none⟩ ∧ s < w.heap.size ∧ w.cell? ⟨s, o + i * 4, none⟩ = some (.int .i64 (f i 0)) ∧ w.cell? ⟨s, o + i * 4 + 1, none⟩ = some (.int .i64 (f i 1)) ∧ w.cell? ⟨s, o + i * 4 + 2, none⟩ = some (.int .i64 (f i 2)) ∧ w.cell? ⟨s, o + i * 4 + 3, none⟩ = some (.int .i64 (f i 3)) := by
  rcases h with h | ⟨s, o, rfl, hl, hc⟩
  · omega
  · exact ⟨s, o, rfl, hl, (hc i hi 0 (by omega)).1, (hc i hi 1 (by omega)).1, (hc i hi 2 (by omega)).1, (hc i hi 3 (by omega)).1⟩

theorem turned_own13 {w w1 w2 : World} {S : Nat → Prop} (m : More w w1) (t : Turned S w1 w2) (hs : ∀ k, S k → w.heap.size ≤ k) : More w w2 :=
  ⟨t.os.trans m.os, t.tape.trans m.tape, t.output.trans m.output, Nat.le_trans m.size t.size, fun k hk _ => by
    rw [t.block k (Nat.lt_of_lt_of_le hk m.size) (fun q => by have := hs k q; omega)]; exact Turned.block m k hk (fun q => q)⟩
/-- The box of a purse. -/
def PuBox (w : World) (g : Nat) (P : Nat → List Int) : Prop := ∃ f, w.heap[g]? = some (.cells (puA f) 27 (0, 0)) ∧ Pu w f P
theorem PuBox.more {w w' : World} {g : Nat} {P : Nat → List Int} (h : PuBox w g P) (m : More w w') : PuBox w' g P := by
  obtain ⟨f, h1, h2⟩ := h; exact ⟨f, m.block h1, h2.more m⟩
/-- Another purse is stored in it. -/
theorem pu_put {w : World} {g : Nat} {P' : Nat → List Int} {old : Array Value} {f' : Nat → Value} (h1 : w.heap[g]? = some (.cells old 27 (0, 0))) (h' : Pu w f' P') : PuBox (w.setRow g (puA f')) g P' :=
  ⟨f', setRow_heap _ _ _ _ _ _ h1, h'.keep (S := fun k => k = g) (Turned.setRow (Turned.refl _ w) _ _ (fun _ => rfl)) (fun k q => by subst q; exact ⟨_, _, _, h1, by decide⟩)⟩
theorem pu_zero (w : World) : Pu w (fun _ => .slice none 0 0) (fun _ => []) := fun c _ => Rd.nil w

theorem yieldsC_act13 {ops : Array Oper} {C : World → Prop} {o' : Oper} {a : Act} {x y : Operand} {s o len cap j : Nat} (hw : Region.wanted o' (yielded ops a.tmps) = true) (ho : o'.op = .indexAddr 22 x y) (hx : a.eval x = .slice (some ⟨s, o, none⟩) len cap) (hy : a.eval y = .int .i64 (j : Int)) (hj : j < len) : YieldsC Try.prog ops C o' (.pointer (some ⟨s, o + j * 4, none⟩)) a := by
  have d1 : decide (j < len) = true := by simp [hj]
  refine .inl ⟨hw, fun W hW => ?_⟩
  unfold execOp
  generalize a.eval = ρ at hx hy ⊢
  simp only [ho, hx, hy]
  go_simp

set_option maxRecDepth 100000 in
set_option maxHeartbeats 2000000 in
theorem pu_after (ad : Option Addr) (n cap : Nat) (l : Nat → Nat → Int) (w : World) (h : IsFours w ad n l) (hl : n ≤ 1000) :
    Calls Try.prog 14 #[.slice ad n cap] w (GavePu w (aftP l n) (fun v => v)) := by
  obtain ⟨w2, e2, hl1, hl2, m2, s2⟩ := en2 w (.cells #[.slice none 0 0, .slice none 0 0, .slice none 0 0, .slice none 0 0, .slice none 0 0] 27) (.cells #[.slice none 0 0, .slice none 0 0, .slice none 0 0, .slice none 0 0, .slice none 0 0] 27)
  have M2 := Lib.hid m2
  have L1 := Lib.hid hl1
  have HI := Lib.hid (h.keep (S := fun b => b = w.heap.size + 1) (w' := w2) (Turned.mono m2 (fun _ _ q => q.elim)) (fun k q => by omega))
  have B0 : Hid (PuBox w2 (w.heap.size + 1) (aftP l 0)) := Lib.hid ⟨fun _ => .slice none 0 0, hl2, pu_zero w2⟩
  have S2 := Lib.hid s2
  have HH := Lib.hid h
  clear hl1 hl2 m2 s2 h
  go_enter Try.func14, Try.ntmps14
  go_wp2_with fail
  go_loopw [4] (fun i wr => ∃ k : Nat, k ≤ n ∧ i = .int .i64 k ∧ PuBox wr (w.heap.size + 1) (aftP l k) ∧ Turned (fun b => b = w.heap.size + 1) w2 wr) (fun i _ => n - (intOf i).toNat)
  case atStart => exact ⟨0, by omega, rfl, B0.out, Turned.refl _ _⟩
  case round =>
    obtain ⟨k, hk, rfl, hb, ht⟩ := hrel
    obtain ⟨f, hb1, hb2⟩ := hb
    have BX := Lib.hid hb1
    have BP := Lib.hid hb2
    have HT := Lib.hid ht
    clear hb1 hb2 ht
    by_cases hlt : k < n
    · obtain ⟨s, o, rfl, hs, c0, c1, c2, c3⟩ := HH.out.at hlt
      have ns : s ≠ w.heap.size + 1 := by omega
      have KC : Hid (∀ W, Turned (fun b => b = w.heap.size + 1) wr W → ∀ j v, w.cell? ⟨s, j, none⟩ = some v → W.cell? ⟨s, j, none⟩ = some v) := Lib.hid fun W hW j v hv => by
        have b1 : W.heap[s]? = w.heap[s]? := by
          rw [Turned.block (HT.out.trans hW) s (by have := S2.out; omega) (fun q => ns q), Turned.block M2.out s hs (fun q => q)]
        rw [World.cell?_of_block (w := w) b1]; exact hv
      have C0 := Lib.hid c0; have C1 := Lib.hid c1; have C2 := Lib.hid c2; have C3 := Lib.hid c3
      have x0 := KC.out wr (Turned.refl _ _) _ _ c0
      clear c0 c1 c2 c3 hs ns
      have HLN : Hid (∀ j, j < 5 → (aftP l k j).length ≤ 1000000) := Lib.hid (fun j _ => by have := aft_len l j k; omega)
      by_cases e : l k 0 = 2
      · have d0 : (l k 0 == 2) = true := by simp [e]
        have NEXT : Hid (∀ W g, PuBox W g (popP (aftP l k) (l k 1)) → PuBox W g (stepP (aftP l k) (l k))) := Lib.hid fun W g q => by unfold stepP; rw [if_pos e]; exact q
        clear e
        generalize hz : l k 0 = y0 at *
        clear hz
        go_wp2_with fail
        refine wp_region_anyC (fun W => Turned (fun b => b = w.heap.size + 1) wr W) (by kernel_rfl) ?_
        change anyC _ _ _ _ _ _ _ _ (wr.drewN 1)
        have MR : Hid (Turned (fun b => b = w.heap.size + 1) wr (wr.drewN 1)) := Lib.hid ((Turned.refl _ wr).drewN 1)
        have BR : Hid ((wr.drewN 1).heap[w.heap.size + 1]? = some (.cells (puA f) 27 (0, 0))) := Lib.hid BX.out
        have PR : Hid (Pu (wr.drewN 1) f (aftP l k)) := Lib.hid (BP.out.more ((More.refl wr).drewN 1))
        generalize wr.drewN 1 = wq at MR BR PR ⊢
        generalize hA : Act.mk _ _ = A
        have HF : AG 49 A [(0, .slice (some ⟨s, o, none⟩) n cap), (3, .pointer (some ⟨w.heap.size + 1, 0, none⟩)), (4, .int .i64 (k : Int))] := by
          rw [← hA]
          refine ⟨⟨Nat.le_of_ble_eq_true rfl, rfl⟩, ?_⟩
          intro z hz; simp only [List.mem_cons, List.not_mem_nil, or_false] at hz; rcases hz with rfl | rfl | rfl <;> rfl
        refine anyC_start (fun a W => ∃ (u19 u20 u21 u22 u23 u18 u24 u17 u25 u26 u27 : Value), a = (Act.put (Act.put (Act.put (Act.put (Act.put (Act.put (Act.put (Act.put (Act.put (Act.put (Act.put (Act.put A (some 19) u19) (some 20) u20) (some 21) u21) (some 22) u22) (some 23) u23) (some 18) u18) (some 24) u24) (some 17) u17) (some 25) u25) (some 26) u26) (some 27) u27) none undef) ∧ PuBox W (w.heap.size + 1) (aftP l (k + 1)) ∧ Turned (fun b => b = w.heap.size + 1) wr W) (fun _ => False) [] (fun a W hd h => h.elim) (fun _ _ _ _ _ h => h) ?_ ?_
        · skip
          rintro a9 wa ⟨u19, u20, u21, u22, u23, u18, u24, u17, u25, u26, u27, rfl, PB, MS⟩
          rw [← hA]
          replace MS := Lib.hid (HT.out.trans MS)
          replace PB := Lib.hid PB
          clear HF hA MR BR PR KC C0 C1 C2 C3 x0 d0 NEXT HLN BX BP HT
          go_simp
          go_wp2_with fail
          go_roundw
          case rel => exact ⟨k + 1, by omega, by go_num, PB.out, MS.out⟩
          case measure => simp [intOf]; omega
        intro QQ FINE FIND FINQ
        clear hA
        refine anyC_takeD (i := 1) (v := .slice (some ⟨s, o, none⟩) n cap) (some 19) rfl rfl (by kernel_rfl) (by kernel_rfl) (by kernel_rfl) (fun c a w => FINQ c a _ _ w) MR.out (by exact yieldsC_moveG (wanted_none rfl) _ rfl (HF.get 0 rfl)) ?_
        replace HF := HF.put 19 (.slice (some ⟨s, o, none⟩) n cap) (by decide) rfl
        generalize hB1_19 : Act.put _ _ _ = A at HF ⊢
        refine anyC_takeD (i := 2) (v := .int .i64 (k : Int)) (some 20) rfl rfl (by kernel_rfl) (by kernel_rfl) (by kernel_rfl) (fun c a w => FINQ c a _ _ w) MR.out (by exact yieldsC_moveG (wanted_none rfl) _ rfl (HF.get 3 rfl)) ?_
        replace HF := HF.put 20 (.int .i64 (k : Int)) (by decide) rfl
        generalize hB2_20 : Act.put _ _ _ = A at HF ⊢
        refine anyC_takeD (i := 3) (v := .pointer (some ⟨s, o + k * 4, none⟩)) (some 21) rfl rfl (by kernel_rfl) (by kernel_rfl) (by kernel_rfl) (fun c a w => FINQ c a _ _ w) MR.out (by exact yieldsC_act13 (wanted_none rfl) rfl (HF.get 1 rfl) (HF.get 0 rfl) hlt) ?_
        replace HF := HF.put 21 (.pointer (some ⟨s, o + k * 4, none⟩)) (by decide) rfl
        generalize hB3_21 : Act.put _ _ _ = A at HF ⊢
        refine anyC_takeD (i := 4) (v := .pointer (some ⟨s, o + k * 4 + 1, none⟩)) (some 22) rfl rfl (by kernel_rfl) (by kernel_rfl) (by kernel_rfl) (fun c a w => FINQ c a _ _ w) MR.out (by exact (Or.inl ⟨(wanted_none rfl), fun W hW => by have h5 := (HF.getD 0 rfl); go_simp⟩)) ?_
        replace HF := HF.put 22 (.pointer (some ⟨s, o + k * 4 + 1, none⟩)) (by decide) rfl
        generalize hB4_22 : Act.put _ _ _ = A at HF ⊢
        refine anyC_takeD (i := 5) (v := .int .i64 (l k 1)) (some 23) rfl rfl (by kernel_rfl) (by kernel_rfl) (by kernel_rfl) (fun c a w => FINQ c a _ _ w) MR.out (by exact yieldsC_cell (C := (fun W => Turned (fun b => b = w.heap.size + 1) wr W)) (wanted_none rfl) 3 _ rfl s (o + k * 4 + 1) (HF.get 0 rfl) (.int .i64 (l k 1)) _ Try.underlying3 rfl (fun W hW => KC.out W hW _ _ C1.out)) ?_
        replace HF := HF.put 23 (.int .i64 (l k 1)) (by decide) rfl
        generalize hB5_23 : Act.put _ _ _ = A at HF ⊢
        refine anyC_oneK (i := 0) (some 18) (by kernel_rfl) rfl (wanted_none rfl) rfl (fun K hK => ?_)
        refine wp_load_row 27 _ rfl (w.heap.size + 1) (HF.get 6 rfl) 27 _ _ _ BR.out Try.underlying27 rfl (by kernel_rfl) ?_
        refine hK _ _ MR.out ?_
        clear hK K
        replace HF := HF.put 18 (.agg (puA f)) (by decide) rfl
        generalize hB6_18 : Act.put _ _ _ = A at HF ⊢
        refine anyC_oneK (i := 6) (some 24) (by kernel_rfl) rfl (wanted_none rfl) rfl (fun K hK => ?_)
        refine wp_call2 (v0 := .agg (puA f)) (v1 := .int .i64 (l k 1)) rfl (HF.get 0 rfl) (HF.get 1 rfl) (enters_of Try.func6 (by kernel_rfl) rfl) ?_
        refine (p_Pop f (aftP l k) (l k 1) wq PR.out HLN.out).mono ?_
        rintro e w7 ⟨f7, rfl, h7, m7⟩
        have M7 : Hid (Turned (fun b => b = w.heap.size + 1) wr w7) := Lib.hid (MR.out.trans (Turned.mono m7 (fun _ _ q => q.elim)))
        have B7 := Lib.hid (m7.block BR.out)
        have P7 := Lib.hid h7
        clear h7 m7
        refine hK _ _ M7.out ?_
        clear hK K
        replace HF := HF.put 24 (.tuple #[.agg (puA f7), .int .i64 (popX (aftP l k) (l k 1)), .bool (popB (aftP l k) (l k 1))]) (by decide) rfl
        generalize hB7_24 : Act.put _ _ _ = A at HF ⊢
        refine anyC_takeD (i := 7) (v := .tuple #[.agg (puA f7), .int .i64 (popX (aftP l k) (l k 1)), .bool (popB (aftP l k) (l k 1))]) (some 17) rfl rfl (by kernel_rfl) (by kernel_rfl) (by kernel_rfl) (fun c a w => FINQ c a _ _ w) M7.out (by exact yieldsC_moveG (wanted_none rfl) _ rfl (HF.get 0 rfl)) ?_
        replace HF := HF.put 17 (.tuple #[.agg (puA f7), .int .i64 (popX (aftP l k) (l k 1)), .bool (popB (aftP l k) (l k 1))]) (by decide) rfl
        generalize hB8_17 : Act.put _ _ _ = A at HF ⊢
        refine anyC_takeD (i := 8) (v := .agg (puA f7)) (some 25) rfl rfl (by kernel_rfl) (by kernel_rfl) (by kernel_rfl) (fun c a w => FINQ c a _ _ w) M7.out (by exact (Or.inl ⟨(wanted_none rfl), fun W hW => by have h5 := (HF.getD 0 rfl); go_simp⟩)) ?_
        replace HF := HF.put 25 (.agg (puA f7)) (by decide) rfl
        generalize hB9_25 : Act.put _ _ _ = A at HF ⊢
        refine anyC_takeD (i := 9) (v := .int .i64 (popX (aftP l k) (l k 1))) (some 26) rfl rfl (by kernel_rfl) (by kernel_rfl) (by kernel_rfl) (fun c a w => FINQ c a _ _ w) M7.out (by exact (Or.inl ⟨(wanted_none rfl), fun W hW => by have h5 := (HF.getD 1 rfl); go_simp⟩)) ?_
        replace HF := HF.put 26 (.int .i64 (popX (aftP l k) (l k 1))) (by decide) rfl
        generalize hB10_26 : Act.put _ _ _ = A at HF ⊢
        refine anyC_takeD (i := 10) (v := .bool (popB (aftP l k) (l k 1))) (some 27) rfl rfl (by kernel_rfl) (by kernel_rfl) (by kernel_rfl) (fun c a w => FINQ c a _ _ w) M7.out (by exact (Or.inl ⟨(wanted_none rfl), fun W hW => by have h5 := (HF.getD 2 rfl); go_simp⟩)) ?_
        replace HF := HF.put 27 (.bool (popB (aftP l k) (l k 1))) (by decide) rfl
        generalize hB11_27 : Act.put _ _ _ = A at HF ⊢
        have M8 : Hid (Turned (fun b => b = w.heap.size + 1) wr (w7.setRow (w.heap.size + 1) (puA f7))) := Lib.hid (Turned.setRow M7.out _ _ (fun _ => rfl))
        refine anyC_oneK (i := 11) none (by kernel_rfl) rfl (wanted_none rfl) rfl (fun K hK => ?_)
        refine wp_store_row 27 _ _ rfl (w.heap.size + 1) _ (HF.get 12 rfl) (HF.get 2 rfl) 27 (puA f) B7.out (by kernel_rfl) rfl (Pu.all1 P7.out) ?_
        refine hK _ _ M8.out ?_
        clear hK K
        exact anyC_done (by kernel_rfl) (FINE _ _ ⟨(.slice (some ⟨s, o, none⟩) n cap), (.int .i64 (k : Int)), (.pointer (some ⟨s, o + k * 4, none⟩)), (.pointer (some ⟨s, o + k * 4 + 1, none⟩)), (.int .i64 (l k 1)), (.agg (puA f)), (.tuple #[.agg (puA f7), .int .i64 (popX (aftP l k) (l k 1)), .bool (popB (aftP l k) (l k 1))]), (.tuple #[.agg (puA f7), .int .i64 (popX (aftP l k) (l k 1)), .bool (popB (aftP l k) (l k 1))]), (.agg (puA f7)), (.int .i64 (popX (aftP l k) (l k 1))), (.bool (popB (aftP l k) (l k 1))), by rw [← hB11_27, ← hB10_26, ← hB9_25, ← hB8_17, ← hB7_24, ← hB6_18, ← hB5_23, ← hB4_22, ← hB3_21, ← hB2_20, ← hB1_19], by rw [aftP]; exact NEXT.out _ _ (pu_put B7.out P7.out), M8.out⟩)
      · have d0 : (l k 0 == 2) = false := by simp [e]
        have d1 : decide (l k 0 = 2) = false := by simp [e]
        have NEXT : Hid (∀ W g, PuBox W g (pushP (aftP l k) (l k 1) (l k 2) (l k 3)) → PuBox W g (stepP (aftP l k) (l k))) := Lib.hid fun W g q => by unfold stepP; rw [if_neg e]; exact q
        clear e
        generalize hz : l k 0 = y0 at *
        clear hz
        go_wp2_with fail
        refine wp_region_anyC (fun W => Turned (fun b => b = w.heap.size + 1) wr W) (by kernel_rfl) ?_
        change anyC _ _ _ _ _ _ _ _ (wr.drewN 1)
        have MR : Hid (Turned (fun b => b = w.heap.size + 1) wr (wr.drewN 1)) := Lib.hid ((Turned.refl _ wr).drewN 1)
        have BR : Hid ((wr.drewN 1).heap[w.heap.size + 1]? = some (.cells (puA f) 27 (0, 0))) := Lib.hid BX.out
        have PR : Hid (Pu (wr.drewN 1) f (aftP l k)) := Lib.hid (BP.out.more ((More.refl wr).drewN 1))
        generalize wr.drewN 1 = wq at MR BR PR ⊢
        generalize hA : Act.mk _ _ = A
        have HF : AG 49 A [(0, .slice (some ⟨s, o, none⟩) n cap), (3, .pointer (some ⟨w.heap.size + 1, 0, none⟩)), (4, .int .i64 (k : Int))] := by
          rw [← hA]
          refine ⟨⟨Nat.le_of_ble_eq_true rfl, rfl⟩, ?_⟩
          intro z hz; simp only [List.mem_cons, List.not_mem_nil, or_false] at hz; rcases hz with rfl | rfl | rfl <;> rfl
        refine anyC_start (fun a W => ∃ (u30 u31 u32 u33 u34 u35 u36 u37 u38 u39 u40 u41 u42 u43 u44 u29 u45 u28 u46 u47 : Value), a = (Act.put (Act.put (Act.put (Act.put (Act.put (Act.put (Act.put (Act.put (Act.put (Act.put (Act.put (Act.put (Act.put (Act.put (Act.put (Act.put (Act.put (Act.put (Act.put (Act.put (Act.put A (some 30) u30) (some 31) u31) (some 32) u32) (some 33) u33) (some 34) u34) (some 35) u35) (some 36) u36) (some 37) u37) (some 38) u38) (some 39) u39) (some 40) u40) (some 41) u41) (some 42) u42) (some 43) u43) (some 44) u44) (some 29) u29) (some 45) u45) (some 28) u28) (some 46) u46) (some 47) u47) none undef) ∧ PuBox W (w.heap.size + 1) (aftP l (k + 1)) ∧ Turned (fun b => b = w.heap.size + 1) wr W) (fun _ => False) [] (fun a W hd h => h.elim) (fun _ _ _ _ _ h => h) ?_ ?_
        · skip
          rintro a9 wa ⟨u30, u31, u32, u33, u34, u35, u36, u37, u38, u39, u40, u41, u42, u43, u44, u29, u45, u28, u46, u47, rfl, PB, MS⟩
          rw [← hA]
          replace MS := Lib.hid (HT.out.trans MS)
          replace PB := Lib.hid PB
          clear HF hA MR BR PR KC C0 C1 C2 C3 x0 d0 NEXT HLN BX BP HT
          go_simp
          go_wp2_with fail
          go_roundw
          case rel => exact ⟨k + 1, by omega, by go_num, PB.out, MS.out⟩
          case measure => simp [intOf]; omega
        intro QQ FINE FIND FINQ
        clear hA
        refine anyC_takeD (i := 1) (v := .slice (some ⟨s, o, none⟩) n cap) (some 30) rfl rfl (by kernel_rfl) (by kernel_rfl) (by kernel_rfl) (fun c a w => FINQ c a _ _ w) MR.out (by exact yieldsC_moveG (wanted_none rfl) _ rfl (HF.get 0 rfl)) ?_
        replace HF := HF.put 30 (.slice (some ⟨s, o, none⟩) n cap) (by decide) rfl
        generalize hB1_30 : Act.put _ _ _ = A at HF ⊢
        refine anyC_takeD (i := 2) (v := .int .i64 (k : Int)) (some 31) rfl rfl (by kernel_rfl) (by kernel_rfl) (by kernel_rfl) (fun c a w => FINQ c a _ _ w) MR.out (by exact yieldsC_moveG (wanted_none rfl) _ rfl (HF.get 3 rfl)) ?_
        replace HF := HF.put 31 (.int .i64 (k : Int)) (by decide) rfl
        generalize hB2_31 : Act.put _ _ _ = A at HF ⊢
        refine anyC_takeD (i := 3) (v := .pointer (some ⟨s, o + k * 4, none⟩)) (some 32) rfl rfl (by kernel_rfl) (by kernel_rfl) (by kernel_rfl) (fun c a w => FINQ c a _ _ w) MR.out (by exact yieldsC_act13 (wanted_none rfl) rfl (HF.get 1 rfl) (HF.get 0 rfl) hlt) ?_
        replace HF := HF.put 32 (.pointer (some ⟨s, o + k * 4, none⟩)) (by decide) rfl
        generalize hB3_32 : Act.put _ _ _ = A at HF ⊢
        refine anyC_takeD (i := 4) (v := .pointer (some ⟨s, o + k * 4 + 1, none⟩)) (some 33) rfl rfl (by kernel_rfl) (by kernel_rfl) (by kernel_rfl) (fun c a w => FINQ c a _ _ w) MR.out (by exact (Or.inl ⟨(wanted_none rfl), fun W hW => by have h5 := (HF.getD 0 rfl); go_simp⟩)) ?_
        replace HF := HF.put 33 (.pointer (some ⟨s, o + k * 4 + 1, none⟩)) (by decide) rfl
        generalize hB4_33 : Act.put _ _ _ = A at HF ⊢
        refine anyC_takeD (i := 5) (v := .int .i64 (l k 1)) (some 34) rfl rfl (by kernel_rfl) (by kernel_rfl) (by kernel_rfl) (fun c a w => FINQ c a _ _ w) MR.out (by exact yieldsC_cell (C := (fun W => Turned (fun b => b = w.heap.size + 1) wr W)) (wanted_none rfl) 3 _ rfl s (o + k * 4 + 1) (HF.get 0 rfl) (.int .i64 (l k 1)) _ Try.underlying3 rfl (fun W hW => KC.out W hW _ _ C1.out)) ?_
        replace HF := HF.put 34 (.int .i64 (l k 1)) (by decide) rfl
        generalize hB5_34 : Act.put _ _ _ = A at HF ⊢
        refine anyC_takeD (i := 6) (v := .slice (some ⟨s, o, none⟩) n cap) (some 35) rfl rfl (by kernel_rfl) (by kernel_rfl) (by kernel_rfl) (fun c a w => FINQ c a _ _ w) MR.out (by exact yieldsC_moveG (wanted_none rfl) _ rfl (HF.get 5 rfl)) ?_
        replace HF := HF.put 35 (.slice (some ⟨s, o, none⟩) n cap) (by decide) rfl
        generalize hB6_35 : Act.put _ _ _ = A at HF ⊢
        refine anyC_takeD (i := 7) (v := .int .i64 (k : Int)) (some 36) rfl rfl (by kernel_rfl) (by kernel_rfl) (by kernel_rfl) (fun c a w => FINQ c a _ _ w) MR.out (by exact yieldsC_moveG (wanted_none rfl) _ rfl (HF.get 8 rfl)) ?_
        replace HF := HF.put 36 (.int .i64 (k : Int)) (by decide) rfl
        generalize hB7_36 : Act.put _ _ _ = A at HF ⊢
        refine anyC_takeD (i := 8) (v := .pointer (some ⟨s, o + k * 4, none⟩)) (some 37) rfl rfl (by kernel_rfl) (by kernel_rfl) (by kernel_rfl) (fun c a w => FINQ c a _ _ w) MR.out (by exact yieldsC_act13 (wanted_none rfl) rfl (HF.get 1 rfl) (HF.get 0 rfl) hlt) ?_
        replace HF := HF.put 37 (.pointer (some ⟨s, o + k * 4, none⟩)) (by decide) rfl
        generalize hB8_37 : Act.put _ _ _ = A at HF ⊢
        refine anyC_takeD (i := 9) (v := .pointer (some ⟨s, o + k * 4 + 2, none⟩)) (some 38) rfl rfl (by kernel_rfl) (by kernel_rfl) (by kernel_rfl) (fun c a w => FINQ c a _ _ w) MR.out (by exact (Or.inl ⟨(wanted_none rfl), fun W hW => by have h5 := (HF.getD 0 rfl); go_simp⟩)) ?_
        replace HF := HF.put 38 (.pointer (some ⟨s, o + k * 4 + 2, none⟩)) (by decide) rfl
        generalize hB9_38 : Act.put _ _ _ = A at HF ⊢
        refine anyC_takeD (i := 10) (v := .int .i64 (l k 2)) (some 39) rfl rfl (by kernel_rfl) (by kernel_rfl) (by kernel_rfl) (fun c a w => FINQ c a _ _ w) MR.out (by exact yieldsC_cell (C := (fun W => Turned (fun b => b = w.heap.size + 1) wr W)) (wanted_none rfl) 3 _ rfl s (o + k * 4 + 2) (HF.get 0 rfl) (.int .i64 (l k 2)) _ Try.underlying3 rfl (fun W hW => KC.out W hW _ _ C2.out)) ?_
        replace HF := HF.put 39 (.int .i64 (l k 2)) (by decide) rfl
        generalize hB10_39 : Act.put _ _ _ = A at HF ⊢
        refine anyC_takeD (i := 11) (v := .slice (some ⟨s, o, none⟩) n cap) (some 40) rfl rfl (by kernel_rfl) (by kernel_rfl) (by kernel_rfl) (fun c a w => FINQ c a _ _ w) MR.out (by exact yieldsC_moveG (wanted_none rfl) _ rfl (HF.get 10 rfl)) ?_
        replace HF := HF.put 40 (.slice (some ⟨s, o, none⟩) n cap) (by decide) rfl
        generalize hB11_40 : Act.put _ _ _ = A at HF ⊢
        refine anyC_takeD (i := 12) (v := .int .i64 (k : Int)) (some 41) rfl rfl (by kernel_rfl) (by kernel_rfl) (by kernel_rfl) (fun c a w => FINQ c a _ _ w) MR.out (by exact yieldsC_moveG (wanted_none rfl) _ rfl (HF.get 13 rfl)) ?_
        replace HF := HF.put 41 (.int .i64 (k : Int)) (by decide) rfl
        generalize hB12_41 : Act.put _ _ _ = A at HF ⊢
        refine anyC_takeD (i := 13) (v := .pointer (some ⟨s, o + k * 4, none⟩)) (some 42) rfl rfl (by kernel_rfl) (by kernel_rfl) (by kernel_rfl) (fun c a w => FINQ c a _ _ w) MR.out (by exact yieldsC_act13 (wanted_none rfl) rfl (HF.get 1 rfl) (HF.get 0 rfl) hlt) ?_
        replace HF := HF.put 42 (.pointer (some ⟨s, o + k * 4, none⟩)) (by decide) rfl
        generalize hB13_42 : Act.put _ _ _ = A at HF ⊢
        refine anyC_takeD (i := 14) (v := .pointer (some ⟨s, o + k * 4 + 3, none⟩)) (some 43) rfl rfl (by kernel_rfl) (by kernel_rfl) (by kernel_rfl) (fun c a w => FINQ c a _ _ w) MR.out (by exact (Or.inl ⟨(wanted_none rfl), fun W hW => by have h5 := (HF.getD 0 rfl); go_simp⟩)) ?_
        replace HF := HF.put 43 (.pointer (some ⟨s, o + k * 4 + 3, none⟩)) (by decide) rfl
        generalize hB14_43 : Act.put _ _ _ = A at HF ⊢
        refine anyC_takeD (i := 15) (v := .int .i64 (l k 3)) (some 44) rfl rfl (by kernel_rfl) (by kernel_rfl) (by kernel_rfl) (fun c a w => FINQ c a _ _ w) MR.out (by exact yieldsC_cell (C := (fun W => Turned (fun b => b = w.heap.size + 1) wr W)) (wanted_none rfl) 3 _ rfl s (o + k * 4 + 3) (HF.get 0 rfl) (.int .i64 (l k 3)) _ Try.underlying3 rfl (fun W hW => KC.out W hW _ _ C3.out)) ?_
        replace HF := HF.put 44 (.int .i64 (l k 3)) (by decide) rfl
        generalize hB15_44 : Act.put _ _ _ = A at HF ⊢
        refine anyC_oneK (i := 0) (some 29) (by kernel_rfl) rfl (wanted_none rfl) rfl (fun K hK => ?_)
        refine wp_load_row 27 _ rfl (w.heap.size + 1) (HF.get 16 rfl) 27 _ _ _ BR.out Try.underlying27 rfl (by kernel_rfl) ?_
        refine hK _ _ MR.out ?_
        clear hK K
        replace HF := HF.put 29 (.agg (puA f)) (by decide) rfl
        generalize hB16_29 : Act.put _ _ _ = A at HF ⊢
        refine anyC_oneK (i := 16) (some 45) (by kernel_rfl) rfl (wanted_none rfl) rfl (fun K hK => ?_)
        refine wp_call4 (v0 := .agg (puA f)) (v1 := .int .i64 (l k 1)) (v2 := .int .i64 (l k 2)) (v3 := .int .i64 (l k 3)) rfl (HF.get 0 rfl) (HF.get 11 rfl) (HF.get 6 rfl) (HF.get 1 rfl) (enters_of Try.func8 (by kernel_rfl) rfl) ?_
        refine (p_Push f (aftP l k) (l k 1) (l k 2) (l k 3) wq PR.out HLN.out).mono ?_
        rintro e w7 ⟨f7, rfl, h7, m7⟩
        have M7 : Hid (Turned (fun b => b = w.heap.size + 1) wr w7) := Lib.hid (MR.out.trans (Turned.mono m7 (fun _ _ q => q.elim)))
        have B7 := Lib.hid (m7.block BR.out)
        have P7 := Lib.hid h7
        clear h7 m7
        refine hK _ _ M7.out ?_
        clear hK K
        replace HF := HF.put 45 (.tuple #[.agg (puA f7), .bool (pushB (aftP l k) (l k 1) (l k 3))]) (by decide) rfl
        generalize hB17_45 : Act.put _ _ _ = A at HF ⊢
        refine anyC_takeD (i := 17) (v := .tuple #[.agg (puA f7), .bool (pushB (aftP l k) (l k 1) (l k 3))]) (some 28) rfl rfl (by kernel_rfl) (by kernel_rfl) (by kernel_rfl) (fun c a w => FINQ c a _ _ w) M7.out (by exact yieldsC_moveG (wanted_none rfl) _ rfl (HF.get 0 rfl)) ?_
        replace HF := HF.put 28 (.tuple #[.agg (puA f7), .bool (pushB (aftP l k) (l k 1) (l k 3))]) (by decide) rfl
        generalize hB18_28 : Act.put _ _ _ = A at HF ⊢
        refine anyC_takeD (i := 18) (v := .agg (puA f7)) (some 46) rfl rfl (by kernel_rfl) (by kernel_rfl) (by kernel_rfl) (fun c a w => FINQ c a _ _ w) M7.out (by exact (Or.inl ⟨(wanted_none rfl), fun W hW => by have h5 := (HF.getD 0 rfl); go_simp⟩)) ?_
        replace HF := HF.put 46 (.agg (puA f7)) (by decide) rfl
        generalize hB19_46 : Act.put _ _ _ = A at HF ⊢
        refine anyC_takeD (i := 19) (v := .bool (pushB (aftP l k) (l k 1) (l k 3))) (some 47) rfl rfl (by kernel_rfl) (by kernel_rfl) (by kernel_rfl) (fun c a w => FINQ c a _ _ w) M7.out (by exact (Or.inl ⟨(wanted_none rfl), fun W hW => by have h5 := (HF.getD 1 rfl); go_simp⟩)) ?_
        replace HF := HF.put 47 (.bool (pushB (aftP l k) (l k 1) (l k 3))) (by decide) rfl
        generalize hB20_47 : Act.put _ _ _ = A at HF ⊢
        have M8 : Hid (Turned (fun b => b = w.heap.size + 1) wr (w7.setRow (w.heap.size + 1) (puA f7))) := Lib.hid (Turned.setRow M7.out _ _ (fun _ => rfl))
        refine anyC_oneK (i := 20) none (by kernel_rfl) rfl (wanted_none rfl) rfl (fun K hK => ?_)
        refine wp_store_row 27 _ _ rfl (w.heap.size + 1) _ (HF.get 21 rfl) (HF.get 1 rfl) 27 (puA f) B7.out (by kernel_rfl) rfl (Pu.all1 P7.out) ?_
        refine hK _ _ M8.out ?_
        clear hK K
        exact anyC_done (by kernel_rfl) (FINE _ _ ⟨(.slice (some ⟨s, o, none⟩) n cap), (.int .i64 (k : Int)), (.pointer (some ⟨s, o + k * 4, none⟩)), (.pointer (some ⟨s, o + k * 4 + 1, none⟩)), (.int .i64 (l k 1)), (.slice (some ⟨s, o, none⟩) n cap), (.int .i64 (k : Int)), (.pointer (some ⟨s, o + k * 4, none⟩)), (.pointer (some ⟨s, o + k * 4 + 2, none⟩)), (.int .i64 (l k 2)), (.slice (some ⟨s, o, none⟩) n cap), (.int .i64 (k : Int)), (.pointer (some ⟨s, o + k * 4, none⟩)), (.pointer (some ⟨s, o + k * 4 + 3, none⟩)), (.int .i64 (l k 3)), (.agg (puA f)), (.tuple #[.agg (puA f7), .bool (pushB (aftP l k) (l k 1) (l k 3))]), (.tuple #[.agg (puA f7), .bool (pushB (aftP l k) (l k 1) (l k 3))]), (.agg (puA f7)), (.bool (pushB (aftP l k) (l k 1) (l k 3))), by rw [← hB20_47, ← hB19_46, ← hB18_28, ← hB17_45, ← hB16_29, ← hB15_44, ← hB14_43, ← hB13_42, ← hB12_41, ← hB11_40, ← hB10_39, ← hB9_38, ← hB8_37, ← hB7_36, ← hB6_35, ← hB5_34, ← hB4_33, ← hB3_32, ← hB2_31, ← hB1_30], by rw [aftP]; exact NEXT.out _ _ (pu_put B7.out P7.out), M8.out⟩)
    · obtain rfl : k = n := by omega
      have FIN : Hid (GavePu w (aftP l k) (fun v => v) (.returned (.agg (puA f))) (wr.setRow w.heap.size (puA f))) := Lib.hid
        ⟨f, rfl, BP.out.keep (S := fun k => k = w.heap.size) (Turned.setRow (Turned.refl _ wr) _ _ (fun _ => rfl)) (fun k q => by subst q; exact ⟨_, _, _, (Turned.block HT.out w.heap.size (by have := S2.out; omega) (by omega)).trans L1.out, by decide⟩), by
          refine More.setRow ?_ _ _ (Nat.le_refl _)
          have := turned_own13 M2.out HT.out (by omega)
          exact this⟩
      have LZ : Hid (wr.heap[w.heap.size]? = _) := Lib.hid ((Turned.block HT.out w.heap.size (by have := S2.out; omega) (by omega)).trans L1.out)
      have H1 := Lib.hid BP.out.all1
      go_wp2_with (first | (refine wpList_load_row rfl 27 _ rfl _ rfl 27 _ _ _ BX.out Try.underlying27 rfl (by kernel_rfl) ?_) | (refine wpList_store_row rfl 27 _ _ rfl _ _ rfl rfl 27 _ LZ.out (by kernel_rfl) rfl H1.out ?_))
      refine bodyPost_ret (v := .agg (puA f)) (results_cell_row Try.results14 _ _ _ 27 _ (0, 0) _ rfl (setRow_heap _ _ _ _ _ _ LZ.out) Try.underlying27 rfl (by kernel_rfl)) rfl FIN.out
end Go.Proofs.Ytmafllcmkhgidaa
