/-
  The walk of the statement on one access.
-/
import Derived.Test.YtgkibbblmfmdnaaSame
import Derived.Test.YtgkibbblmfmdnaaArgs
import Derived.Deep.Cut
import Derived.Deep.CutRange
import Derived.Deep.DeepCutAuto
import Derived.Deep.CutBlock
namespace Go.Proofs.Ytgkibbblmfmdnaa
open Go.RowKit
set_option linter.unusedVariables false
set_option linter.unusedSimpArgs false

theorem row_cells {w : World} {g : Nat} {ws : List Int} (h : w.heap[g]? = some (.cells (rowOf ws) 3 (0, 0))) (i : Nat) (hi : i < ws.length) : w.cell? ⟨g, 0 + i, none⟩ = some (.int .i64 (wordAt ws i)) := by
  simp [World.cell?, h, rowOf, hi, wordAt, List.getD]

theorem wordAt_set (ws : List Int) (i j : Nat) (x : Int) (h : j ≠ i) : wordAt (ws.set i x) j = wordAt ws j := by
  simp [wordAt, List.getD, List.getElem?_set, Ne.symm h]
theorem len_storeW (ws : List Int) (i x : Int) : (storeW ws i x).length = ws.length := by unfold storeW; split <;> simp
theorem len_swapW (ws : List Int) (i o x : Int) : (swapW ws i o x).length = ws.length := by
  unfold swapW; split
  · split <;> simp
  · rfl
theorem len_bumpW (ws : List Int) (i m : Int) : (bumpW ws i m).length = ws.length := by
  unfold bumpW; split
  · split <;> simp
  · rfl
theorem at_set (ws : List Int) (i x : Int) (j : Nat) (hi : inB ws i = true) (h : (j : Int) ≠ i) : wordAt (ws.set i.toNat x) j = wordAt ws j :=
  wordAt_set ws _ j x (by simp [inB] at hi; omega)
theorem at_storeW (ws : List Int) (i x : Int) (j : Nat) (h : (j : Int) ≠ i) : wordAt (storeW ws i x) j = wordAt ws j := by
  unfold storeW; split
  · rename_i q; exact at_set ws i x j q h
  · rfl
theorem at_swapW (ws : List Int) (i o x : Int) (j : Nat) (h : (j : Int) ≠ i) : wordAt (swapW ws i o x) j = wordAt ws j := by
  unfold swapW; split
  · rename_i q; split
    · exact at_set ws i x j q h
    · rfl
  · rfl
theorem at_bumpW (ws : List Int) (i m : Int) (j : Nat) (h : (j : Int) ≠ i) : wordAt (bumpW ws i m) j = wordAt ws j := by
  unfold bumpW; split
  · rename_i q; split
    · rfl
    · exact at_set ws i _ j q h
  · rfl
theorem int_lo {x : Int} (h : (Lit.int .i64 x).wf = true) : -9223372036854775808 ≤ x := by
  simp only [Lit.wf, Bool.and_eq_true, decide_eq_true_eq] at h
  have e : IntKind.i64.min = -9223372036854775808 := by decide
  omega
theorem int_hi {x : Int} (h : (Lit.int .i64 x).wf = true) : x ≤ 9223372036854775807 := by
  simp only [Lit.wf, Bool.and_eq_true, decide_eq_true_eq] at h
  have e : IntKind.i64.max = 9223372036854775807 := by decide
  omega
theorem low_of {ws : List Int} (h : ∀ z ∈ ws, (Lit.int .i64 z).wf = true) (j : Nat) (hj : j < ws.length) : -9223372036854775808 ≤ wordAt ws j := by
  refine int_lo (h _ ?_)
  simp [wordAt, List.getD, hj]

/-- What one access leaves: all words but the one at its address, and the count one more, if there is such a word. -/
def OneRel (a b : Nat) (ws : List Int) (x1 : Int) (w wc : World) : Prop :=
  ∃ ws' : List Int, ws'.length = ws.length ∧ (∀ j : Nat, j < ws.length → (j : Int) ≠ x1 → wordAt ws' j = wordAt ws j) ∧ At 53 wc a b ws' (cntOf ws x1 ws.length) ∧
    wc.cell? ⟨w.heap.size, 1, none⟩ = some (.int .i64 x1) ∧ Turned (fun _ => False) w wc

set_option maxRecDepth 100000 in
set_option maxHeartbeats 2000000 in
theorem one_in (s o cap : Nat) (ws : List Int) (x0 x1 x2 x3 : Int) (w : World) (h1 : 1 ≤ ws.length) (h2 : ws.length ≤ 300) (hs : s < w.heap.size)
    (hc : ∀ i, i < ws.length → w.cell? ⟨s, o + i, none⟩ = some (.int .i64 (wordAt ws i))) (hwf : ∀ z ∈ ws, (Lit.int .i64 z).wf = true)
    (q0 : (Lit.int .i64 x0).wf = true) (q1 : (Lit.int .i64 x1).wf = true) (q2 : (Lit.int .i64 x2).wf = true) (q3 : (Lit.int .i64 x3).wf = true) :
    Calls Try.prog 6 #[.slice (some ⟨s, o, none⟩) ws.length cap, .agg #[.int .i64 x0, .int .i64 x1, .int .i64 x2, .int .i64 x3]] w (YesPost w) := by
  have d1 : decide ((ws.length : Int) < 1) = false := by simp; omega
  have d2 : decide (300 < (ws.length : Int)) = false := by simp; omega
  have HC := Lib.hid hc; clear hc
  have HW := Lib.hid hwf; clear hwf
  have T0 : Turned (fun _ => False) w (w.alloc (.cells #[.int .i64 x0, .int .i64 x1, .int .i64 x2, .int .i64 x3] 31)) := (Turned.refl _ w).alloc _
  have B0 := heap_new w (.cells #[.int .i64 x0, .int .i64 x1, .int .i64 x2, .int .i64 x3] 31)
  have HB := Lib.hid B0; clear B0
  go_enter Try.func6, Try.ntmps6
  go_wp2_with fail
  refine (filled_any ws s o cap _ h1 (by omega) (fun i hi => by rw [T0.cell hs (fun q => q)]; exact HC.out i hi)).mono ?_
  rintro e w1 ⟨a, b, rfl, ha, hb, hat1, t1⟩
  have ha' : w.heap.size < a := by simp at ha; omega
  have hb' : w.heap.size < b := by simp at hb; omega
  have T1 := T0.trans t1
  have hB1 : w1.heap[w.heap.size]? = _ := (t1.block _ (by simp) (fun q => q)).trans HB.out
  have HB1 := Lib.hid hB1; clear hB1
  clear t1 T0 ha hb
  go_wp2_with fail
  refine (words_at a b ws _ _ hat1 (by omega)).mono ?_
  rintro e w2 ⟨g, rfl, hg, hrow, t2⟩
  have T2 := T1.trans t2
  go_wp2_with fail
  refine (same_yes ws g 0 _ s o cap _ (by omega) (lt_of_heap hrow) (Nat.lt_of_lt_of_le hs T2.size) (fun i hi => row_cells hrow i hi) (fun i hi => by rw [T2.cell hs (fun q => q)]; exact HC.out i hi)).mono ?_
  rintro e w3 ⟨rfl, t3⟩
  have T3 := T2.trans t3
  have hat3 := (hat1.keep t2 (fun q => q) (fun q => q)).keep t3 (fun q => q) (fun q => q)
  have hB3 : w3.heap[w.heap.size]? = _ := ((t2.trans t3).block _ (lt_of_heap HB1.out) (fun q => q)).trans HB1.out
  clear HB1 hat1 hrow t2 t3 T1 T2 hg
  have e0 : w3.cell? ⟨w.heap.size, 0, none⟩ = some (.int .i64 x0) := by simp [World.cell?, hB3]
  have e1 : w3.cell? ⟨w.heap.size, 1, none⟩ = some (.int .i64 x1) := by simp [World.cell?, hB3]
  have e2 : w3.cell? ⟨w.heap.size, 2, none⟩ = some (.int .i64 x2) := by simp [World.cell?, hB3]
  have e3 : w3.cell? ⟨w.heap.size, 3, none⟩ = some (.int .i64 x3) := by simp [World.cell?, hB3]
  have HB3 := Lib.hid hB3; clear hB3
  go_wp2_with fail
  refine (count_at a b _ _ _ hat3).mono ?_
  rintro e w4 ⟨rfl, rfl⟩
  go_upto_block 0 with (fail)
  go_cut [] (fun wc => OneRel a b ws x1 w wc)
  case first =>
    have HS : w.heap.size < w4.heap.size := lt_of_cell e1
    cases b0 : (x0 == 0) with
    | true =>
      go_wp2_with fail
      refine (load_any a b ws ws.length x1 _ hat3 (by omega) (by omega) (by omega)).mono ?_
      rintro e w5 ⟨rfl, hat5, t5⟩
      have E5 : w5.cell? ⟨w.heap.size, 1, none⟩ = some (.int .i64 x1) := (t5.cell HS (by omega) 1).trans e1
      have T5 := own_turn T3 (by omega) (by omega) t5
      go_wp2_with fail
      go_meet
      case rel => exact ⟨ws, rfl, fun _ _ _ => rfl, hat5, E5, T5⟩
    | false =>
    cases b1 : (x0 == 1) with
    | true =>
      go_wp2_with fail
      refine (store_any a b ws ws.length x1 x2 _ hat3 (by omega) (by omega) (by omega)).mono ?_
      rintro e w5 ⟨rfl, hat5, t5⟩
      have E5 : w5.cell? ⟨w.heap.size, 1, none⟩ = some (.int .i64 x1) := (t5.cell HS (by omega) 1).trans e1
      have T5 := own_turn T3 (by omega) (by omega) t5
      go_wp2_with fail
      go_meet
      case rel => exact ⟨_, len_storeW ws x1 x2, fun j _ hj => at_storeW ws x1 x2 j hj, hat5, E5, T5⟩
    | false =>
    cases b2 : (x0 == 2) with
    | true =>
      go_wp2_with fail
      refine (swap_any a b ws ws.length x1 x2 x3 _ hat3 (by omega) (by omega) (by omega)).mono ?_
      rintro e w5 ⟨rfl, hat5, t5⟩
      have E5 : w5.cell? ⟨w.heap.size, 1, none⟩ = some (.int .i64 x1) := (t5.cell HS (by omega) 1).trans e1
      have T5 := own_turn T3 (by omega) (by omega) t5
      go_wp2_with fail
      go_meet
      case rel => exact ⟨_, len_swapW ws x1 x2 x3, fun j _ hj => at_swapW ws x1 x2 x3 j hj, hat5, E5, T5⟩
    | false =>
      go_wp2_with fail
      refine (bump_any a b ws ws.length x1 x2 _ hat3 (low_of HW.out) (int_hi q2) (by omega) (by omega) (by omega)).mono ?_
      rintro e w5 ⟨rfl, hat5, t5⟩
      have E5 : w5.cell? ⟨w.heap.size, 1, none⟩ = some (.int .i64 x1) := (t5.cell HS (by omega) 1).trans e1
      have T5 := own_turn T3 (by omega) (by omega) t5
      go_wp2_with fail
      go_meet
      case rel => exact ⟨_, len_bumpW ws x1 x2, fun j _ hj => at_bumpW ws x1 x2 j hj, hat5, E5, T5⟩
  case rest =>
    clear e0 e1 e2 e3 hat3 T3
    obtain ⟨ws', hlen, hoth, hat, E1, T⟩ := hcut
    have HO := Lib.hid hoth; clear hoth
    go_wp2_with fail
    refine (words_at a b ws' _ _ hat (by omega)).mono ?_
    rintro e w6 ⟨g2, rfl, hg2, hrow, t6⟩
    rw [hlen]
    have hat6 := hat.keep t6 (fun q => q) (fun q => q)
    have E6 : w6.cell? ⟨w.heap.size, 1, none⟩ = some (.int .i64 x1) := (t6.cell (lt_of_cell E1) (fun q => q) 1).trans E1
    have T6 := T.trans t6
    have HR := Lib.hid hrow; clear hrow
    have HL := Lib.hid hlen; clear hlen
    clear t6 T hat E1
    have d3 : ((ws.length : Int) != (ws.length : Int)) = false := by simp
    go_wp2_with fail
    have Z6 : w.heap.size < w6.heap.size := lt_of_cell E6
    have G6 : g2 < w6.heap.size := lt_of_heap HR.out
    have HE6 := Lib.hid E6; clear E6
    have HA6 := Lib.hid hat6; clear hat6
    go_loopw [8] (fun i wr => ∃ k : Nat, k ≤ ws.length ∧ i = .int .i64 k ∧ Turned (fun _ => False) w6 wr) (fun i _ => ws.length - (intOf i).toNat)
    case atStart => exact ⟨0, Nat.zero_le _, rfl, Turned.refl _ _⟩
    case round =>
      obtain ⟨k, hk, rfl, ht⟩ := hrel
      have Er : wr.cell? ⟨w.heap.size, 1, none⟩ = some (.int .i64 x1) := (ht.cell Z6 (fun q => q) 1).trans HE6.out
      by_cases hlt : k < ws.length
      · have hc1 : wr.cell? ⟨g2, k, none⟩ = some (.int .i64 (wordAt ws' k)) := by
          rw [ht.cell G6 (fun q => q)]; have := row_cells HR.out k (by rw [HL.out]; exact hlt); rwa [Nat.zero_add] at this
        have hc2 : wr.cell? ⟨s, o + k, none⟩ = some (.int .i64 (wordAt ws k)) := by rw [(T6.trans ht).cell hs (fun q => q)]; exact HC.out k hlt
        cases hne : ((k : Int) != x1) with
        | true =>
          have heq : wordAt ws' k = wordAt ws k := HO.out k hlt (by simpa using hne)
          rw [heq] at hc1
          clear heq
          go_wp2_with fail
          go_quiet (fail)
          go_wp2_with fail
          go_roundw
          case rel => exact ⟨k + 1, by omega, by go_num, ht.drewN _⟩
          case measure => simp [intOf]; omega
        | false =>
          clear hc1 hc2
          go_wp2_with fail
          go_quiet (fail)
          go_wp2_with fail
          go_roundw
          case rel => exact ⟨k + 1, by omega, by go_num, ht.drewN _⟩
          case measure => simp [intOf]; omega
      · have hatr := HA6.out.keep ht (fun q => q) (fun q => q)
        have Tr := T6.trans ht
        by_cases c1 : 0 ≤ x1
        · have b1 : decide (0 ≤ x1) = true := by simp; omega
          by_cases c2 : x1 < (ws.length : Int)
          · have b2 : decide (x1 < (ws.length : Int)) = true := by simp; omega
            have HCn : Hid (cntOf ws x1 ws.length = (ws.length : Int) + 1) := by show _ = _; simp [cntOf, inB, c1, c2]
            clear ht
            go_wp2_with fail
            refine (count_at a b ws' _ _ hatr).mono ?_
            rintro e w7 ⟨rfl, rfl⟩
            rw [HCn.out]
            go_wp2_with fail
            refine (lives_any _).mono ?_
            rintro e w8 ⟨rfl, t8⟩
            go_wp2_with fail
            go_ret
            exact ⟨rfl, Tr.trans t8⟩
          · have b2 : decide (x1 < (ws.length : Int)) = false := by simp; omega
            have HCn : Hid (cntOf ws x1 ws.length = (ws.length : Int)) := by show _ = _; simp [cntOf, inB, c2]
            have hnq : ((ws.length : Int) == (ws.length : Int) + 1) = false := by simp; omega
            clear ht
            go_wp2_with fail
            refine (count_at a b ws' _ _ hatr).mono ?_
            rintro e w7 ⟨rfl, rfl⟩
            rw [HCn.out]
            go_wp2_with fail
            refine (count_at a b ws' _ _ hatr).mono ?_
            rintro e w7 ⟨rfl, rfl⟩
            rw [HCn.out]
            go_wp2_with fail
            refine (lives_any _).mono ?_
            rintro e w8 ⟨rfl, t8⟩
            go_wp2_with fail
            go_ret
            exact ⟨rfl, Tr.trans t8⟩
        · have b1 : decide (0 ≤ x1) = false := by simp; omega
          have HCn : Hid (cntOf ws x1 ws.length = (ws.length : Int)) := by show _ = _; simp [cntOf, inB, c1]
          have hnq : ((ws.length : Int) == (ws.length : Int) + 1) = false := by simp; omega
          clear ht
          go_wp2_with fail
          refine (count_at a b ws' _ _ hatr).mono ?_
          rintro e w7 ⟨rfl, rfl⟩
          rw [HCn.out]
          go_wp2_with fail
          refine (count_at a b ws' _ _ hatr).mono ?_
          rintro e w7 ⟨rfl, rfl⟩
          rw [HCn.out]
          go_wp2_with fail
          refine (lives_any _).mono ?_
          rintro e w8 ⟨rfl, t8⟩
          go_wp2_with fail
          go_ret
          exact ⟨rfl, Tr.trans t8⟩

theorem one_out (a0 : Option Addr) (len cap : Nat) (x0 x1 x2 x3 : Int) (w : World) (h : len < 1 ∨ 300 < len) (hm : len ≤ 9223372036854775807) :
    Calls Try.prog 6 #[.slice a0 len cap, .agg #[.int .i64 x0, .int .i64 x1, .int .i64 x2, .int .i64 x3]] w (YesPost w) := by
  rcases h with h | h
  · have d1 : decide ((len : Int) < 1) = true := by simp; omega
    clear h
    go_enter Try.func6, Try.ntmps6
    go_wp2_with fail
    refine (lives_any _).mono ?_
    rintro e w8 ⟨rfl, t8⟩
    go_wp2_with fail
    go_ret
    exact ⟨rfl, ((Turned.refl _ w).alloc _).trans t8⟩
  · have d1 : decide ((len : Int) < 1) = false := by simp; omega
    have d2 : decide ((300 : Int) < (len : Int)) = true := by simp; omega
    clear h
    go_enter Try.func6, Try.ntmps6
    go_wp2_with fail
    refine (lives_any _).mono ?_
    rintro e w8 ⟨rfl, t8⟩
    go_wp2_with fail
    go_ret
    exact ⟨rfl, ((Turned.refl _ w).alloc _).trans t8⟩

theorem one_walk (a0 : Option Addr) (cap : Nat) (zs : List Int) (x0 x1 x2 x3 : Int) (w : World) (hz : IsInts w a0 zs) (hm : zs.length ≤ 9223372036854775807)
    (q0 : (Lit.int .i64 x0).wf = true) (q1 : (Lit.int .i64 x1).wf = true) (q2 : (Lit.int .i64 x2).wf = true) (q3 : (Lit.int .i64 x3).wf = true) :
    Calls Try.prog 6 #[.slice a0 zs.length cap, .agg #[.int .i64 x0, .int .i64 x1, .int .i64 x2, .int .i64 x3]] w fun e w' => e = .returned (.bool true) ∧ Turned (fun _ => False) w w' := by
  by_cases h : zs.length < 1 ∨ 300 < zs.length
  · exact one_out a0 zs.length cap x0 x1 x2 x3 w h hm
  · rcases hz with rfl | ⟨s, o, rfl, hs, hc, hwf⟩
    · simp at h
    · exact one_in s o cap zs x0 x1 x2 x3 w (by omega) (by omega) hs hc hwf q0 q1 q2 q3

end Go.Proofs.Ytgkibbblmfmdnaa
