/-
  Layer 13's example holds.
-/
import Derived.Test.YtmafllcmkhgidaaPurAft
namespace Go.Proofs.Ytmafllcmkhgidaa
open Go.RowKit Go.Shelf
set_option linter.unusedVariables false
set_option linter.unusedSimpArgs false

/-- A purse is stored in a new box. -/
theorem pu_box (w : World) {f : Nat → Value} {P : Nat → List Int} (h : Pu w f P) : ∃ w', (w.alloc (.cells #[.slice none 0 0, .slice none 0 0, .slice none 0 0, .slice none 0 0, .slice none 0 0] 27)).setRow w.heap.size (puA f) = w' ∧ (w.alloc (.cells #[.slice none 0 0, .slice none 0 0, .slice none 0 0, .slice none 0 0, .slice none 0 0] 27)).heap[w.heap.size]? = some (.cells #[.slice none 0 0, .slice none 0 0, .slice none 0 0, .slice none 0 0, .slice none 0 0] 27 (0, 0)) ∧ w'.heap[w.heap.size]? = some (.cells (puA f) 27 (0, 0)) ∧ More w w' ∧ (puA f).all (·.oneCell') = true :=
  ⟨_, rfl, row_new w _ _, setRow_heap _ _ _ _ _ _ (row_new w _ _), ((More.refl w).alloc _).setRow _ _ (Nat.le_refl _), h.all1⟩
theorem rw_one (w : World) (y : Int) : Rw w.heap.size (w.alloc (.cells #[.int .i64 y] 3)) (.slice (some ⟨w.heap.size, 0, none⟩) 1 1) [y] := by
  refine ⟨rfl, .inr ⟨_, 1, _, rfl, Nat.le_refl _, heap_new w _, Nat.le_refl _, by simp [maxLen], rfl, rfl⟩⟩

set_option maxRecDepth 100000 in
set_option maxHeartbeats 2000000 in
theorem lives13_ok (w : World) : Calls Try.prog 5 #[] w (Gives w (.bool true)) := by
  obtain ⟨P0, hP0⟩ : ∃ P0 : Nat → List Int, P0 = fun _ => [] := ⟨_, rfl⟩
  obtain ⟨P1, hP1⟩ : ∃ P1, P1 = pushP P0 2 7 4 := ⟨_, rfl⟩
  obtain ⟨P2, hP2⟩ : ∃ P2, P2 = pushP P1 2 8 4 := ⟨_, rfl⟩
  obtain ⟨P3, hP3⟩ : ∃ P3, P3 = popP P2 2 := ⟨_, rfl⟩
  have a1 : pushB P0 2 4 = true := by rw [hP0]; rfl
  have a2 : pushB P1 2 4 = true := by rw [hP1, hP0]; rfl
  have a3 : popB P2 2 = true := by rw [hP2, hP1, hP0]; rfl
  have a4 : popX P2 2 = 8 := by rw [hP2, hP1, hP0]; rfl
  have a5 : allTo P3 5 = [7] := by rw [hP3, hP2, hP1, hP0]; rfl
  have a6 : lenC P2 2 = 2 := by rw [hP2, hP1, hP0]; rfl
  have a7 : lenC P0 2 = 0 := by rw [hP0]; rfl
  have l0 : ∀ k, (P0 k).length ≤ 0 := by rw [hP0]; intro k; simp
  have l1 : ∀ k, (P1 k).length ≤ 1 := by rw [hP1]; intro k; have := push_len P0 2 7 4 k; have := l0 k; omega
  have l2 : ∀ k, (P2 k).length ≤ 2 := by rw [hP2]; intro k; have := push_len P1 2 8 4 k; have := l1 k; omega
  have l3 : ∀ k, (P3 k).length ≤ 2 := by rw [hP3]; intro k; have := pop_len P2 2 k; have := l2 k; omega
  have HL0 := Lib.hid l0
  have HL1 := Lib.hid l1
  have HL2 := Lib.hid l2
  have HL3 := Lib.hid l3
  obtain ⟨w1, e1, hl1, m1, s1⟩ := en1 w (.cells #[.slice none 0 0, .slice none 0 0, .slice none 0 0, .slice none 0 0, .slice none 0 0] 27)
  have B1 : Hid (w1.heap[w.heap.size]? = some (.cells (puA (fun _ => .slice none 0 0)) 27 (0, 0))) := Lib.hid hl1
  have Q1 : Hid (Pu w1 (fun _ => .slice none 0 0) P0) := Lib.hid (by rw [hP0]; exact pu_zero w1)
  have M1 := Lib.hid m1
  have C1 := Lib.hid (p_Push (fun _ => .slice none 0 0) P0 2 7 4 w1 Q1.out (fun k _ => by have := l0 k; omega))
  rw [a1, ← hP1] at C1
  have C2 := Lib.hid (fun f W (h : Pu W f P1) => p_Push f P1 2 8 4 W h (fun k _ => by have := l1 k; omega))
  rw [a2, ← hP2] at C2
  have C3 := Lib.hid (fun f W (h : Pu W f P2) => p_Pop f P2 2 W h (fun k _ => by have := l2 k; omega))
  rw [a3, a4, ← hP3] at C3
  have C4 := Lib.hid (fun f W (h : Pu W f P3) => p_All f P3 W h (fun k _ => by have := l3 k; omega))
  rw [a5] at C4
  have C5 := Lib.hid (fun f W (h : Pu W f P2) => p_Len f P2 2 W h)
  rw [a6] at C5
  have C6 := Lib.hid (fun f W (h : Pu W f P0) => p_Len f P0 2 W h)
  rw [a7] at C6
  clear a1 a2 a3 a4 a5 a6 a7 l0 l1 l2 l3 hP0 hP1 hP2 hP3 hl1 m1 s1
  go_enter Try.func5, Try.ntmps5
  go_wp2_with (refine wpList_load_row rfl 27 _ rfl _ rfl 27 _ _ _ B1.out Try.underlying27 rfl (by kernel_rfl) ?_)
  refine C1.out.mono ?_
  rintro e w2 ⟨f2, rfl, h2, m2⟩
  obtain ⟨w3, e3, r3, b3, m3, o3⟩ := pu_box w2 h2
  have R3 := Lib.hid r3
  have B3 := Lib.hid b3
  have O3 := Lib.hid o3
  have Q3 := Lib.hid (h2.more m3)
  have M3 := Lib.hid (M1.out.trans (m2.trans m3))
  have N3 := Lib.hid (m2.trans m3)
  clear r3 b3 m3 o3 h2 m2
  go_wp2_with (first
    | (refine wpList_store_row rfl 27 _ _ rfl _ _ rfl rfl 27 _ R3.out (by kernel_rfl) rfl O3.out ?_; rw [e3]; clear e3)
    | (refine wpList_load_row rfl 27 _ rfl _ rfl 27 _ _ _ B3.out Try.underlying27 rfl (by kernel_rfl) ?_))
  refine (C2.out f2 w3 Q3.out).mono ?_
  rintro e w4 ⟨f4, rfl, h4, m4⟩
  obtain ⟨w5, e5, r5, b5, m5, o5⟩ := pu_box w4 h4
  have R5 := Lib.hid r5
  have B5 := Lib.hid b5
  have O5 := Lib.hid o5
  have Q5 := Lib.hid (h4.more m5)
  have M5 := Lib.hid (M3.out.trans (m4.trans m5))
  have N5 := Lib.hid (N3.out.trans (m4.trans m5))
  clear r5 b5 m5 o5 h4 m4
  go_wp2_with (first
    | (refine wpList_store_row rfl 27 _ _ rfl _ _ rfl rfl 27 _ R5.out (by kernel_rfl) rfl O5.out ?_; rw [e5]; clear e5)
    | (refine wpList_load_row rfl 27 _ rfl _ rfl 27 _ _ _ B5.out Try.underlying27 rfl (by kernel_rfl) ?_))
  refine (C3.out f4 w5 Q5.out).mono ?_
  rintro e w6 ⟨f6, rfl, h6, m6⟩
  obtain ⟨w7, e7, r7, b7, m7, o7⟩ := pu_box w6 h6
  have R7 := Lib.hid r7
  have B7 := Lib.hid b7
  have O7 := Lib.hid o7
  have Q7 := Lib.hid (h6.more m7)
  have N7 := Lib.hid (m6.trans m7)
  have M7 := Lib.hid (M5.out.trans (m6.trans m7))
  clear r7 b7 m7 o7 h6 m6
  go_wp2_with (first
    | (refine wpList_store_row rfl 27 _ _ rfl _ _ rfl rfl 27 _ R7.out (by kernel_rfl) rfl O7.out ?_; rw [e7]; clear e7)
    | (refine wpList_load_rowG rfl 27 _ rfl _ rfl 27 _ _ _ B7.out Try.underlying27 rfl (by kernel_rfl) ?_))
  refine (C4.out f6 w7 Q7.out).mono ?_
  rintro e w8 ⟨v8, rfl, h8, m8⟩
  have R8 := Lib.hid h8
  have M8 := Lib.hid (M7.out.trans m8)
  have N8 := Lib.hid (N7.out.trans m8)
  clear h8 m8
  go_wp2_with fail
  obtain ⟨w9, e9, hl9, m9, s9⟩ := en1 w8 (.cells #[.int .i64 7] 3)
  have R9 := rw_one w8 7
  rw [e9] at R9 ⊢
  refine (rows_same [7] _ _ _ _ w9 (by simp) (R8.out.more m9) R9).mono ?_
  rintro e w10 ⟨rfl, h10⟩
  have N10 := Lib.hid (N8.out.trans (m9.trans h10))
  have M10 := Lib.hid (M8.out.trans (m9.trans h10))
  clear hl9 m9 s9 R9 h10 e9
  go_wp2_with (refine wpList_load_rowG rfl 27 _ rfl _ rfl 27 _ _ _ (N10.out.block B5.out) Try.underlying27 rfl (by kernel_rfl) ?_)
  refine (C5.out f4 w10 (Q5.out.more N10.out)).mono ?_
  rintro e w11 ⟨rfl, h11⟩
  have N11 := Lib.hid (N5.out.trans (N10.out.trans h11))
  have M11 := Lib.hid (M10.out.trans h11)
  clear h11
  go_wp2_with (refine wpList_load_rowG rfl 27 _ rfl _ rfl 27 _ _ _ (N11.out.block B1.out) Try.underlying27 rfl (by kernel_rfl) ?_)
  refine (C6.out _ w11 (Q1.out.more N11.out)).mono ?_
  rintro e w12 ⟨rfl, h12⟩
  have FIN := Lib.hid (M11.out.trans h12)
  clear h12
  go_wp2_with fail
  go_ret
  exact ⟨rfl, FIN.out⟩
end Go.Proofs.Ytmafllcmkhgidaa
