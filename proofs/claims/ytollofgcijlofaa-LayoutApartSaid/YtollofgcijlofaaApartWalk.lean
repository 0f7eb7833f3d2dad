/-
  The walk of LayoutApart: the marks.
-/
import Derived.Test.YtollofgcijlofaaNamedWalk
import Derived.Test.YtollofgcijlofaaLayLives
import Derived.Test.YtollofgcijlofaaLaySome
import Derived.Laws.MakeOwn
namespace Go.Proofs.Ytollofgcijlofaa
open Go.RowKit
set_option linter.unusedVariables false
set_option linter.unusedSimpArgs false

theorem bool_info : ∃ i : TypeInfo, Try.prog.info? 4 = some i ∧ i.zero = some (.bool false) ∧ i.size = 1 ∧ i.bytes = 1 := by
  have h1 : (Try.prog.info? 4).map (·.size) = some 1 := by kernel_rfl
  have h2 : (Try.prog.info? 4).bind (·.zero) = some (.bool false) := by kernel_rfl
  have h3 : (Try.prog.info? 4).map (·.bytes) = some 1 := by kernel_rfl
  cases q : Try.prog.info? 4 with
  | none => rw [q] at h1; simp at h1
  | some i => rw [q] at h1 h2 h3; exact ⟨i, rfl, by simpa using h2, by simpa using h1, by simpa using h3⟩

/-- A row of marks: of n, those that no name of the first k has met are not set. -/
def Marks (xs : List Int) (bs n k : Nat) (w : World) : Prop :=
  ∃ cs : Array Value, w.heap[bs]? = some (.cells cs 4 (0, 0)) ∧ cs.size = n ∧ ∀ a : Nat, a < n → (∀ j, j < k → xs.getD j 0 ≠ (a : Int)) → cs[a]? = some (.bool false)

theorem make_bools (k : Nat) (h : k ≤ 1048576) (w : World) :
    (Instr.makeSlice 43 (.int .i64 (k : Int)) (.int .i64 (k : Int))).run Try.prog w = .ok (.slice (some ⟨w.heap.size, 0, none⟩) k k) (w.alloc (.cells (madeCells (Value.bool false).cells k) 4)) := by
  obtain ⟨i, i1, i2, i3, i4⟩ := bool_info
  have := run_make (P := Try.prog) w 43 4 i (.bool false) Try.underlying43 i1 i2 .i64 .i64 (k : Int) (k : Int) (by omega) (by omega) (by rw [i4]; omega) (by omega)
  rw [i3, Int.toNat_natCast, Nat.mul_one] at this
  exact this
theorem made_false (k a : Nat) (h : a < k) : (madeCells (Value.bool false).cells k)[a]? = some (.bool false) := by
  simp [madeCells, Value.cells, h, Nat.mod_one]

theorem marks_step {xs : List Int} {bs n k m : Nat} {w : World} (h : Marks xs bs n k w) (hm : xs.getD k 0 = (m : Int)) : Marks xs bs n (k + 1) (w.setCell ⟨bs, m, none⟩ (.bool true)) := by
  obtain ⟨cs, h1, h2, h3⟩ := h
  refine ⟨cs.setIfInBounds m (.bool true), ?_, by simpa using h2, ?_⟩
  · rw [setCell_eq_setRow w bs m cs 4 (0, 0) _ h1]; exact setRow_heap _ _ _ _ _ _ h1
  · intro a ha hj
    have hne : m ≠ a := fun e => hj k (by omega) (by rw [hm, e])
    rw [Array.getElem?_setIfInBounds_ne hne]
    exact h3 a ha (fun j hjk => hj j (by omega))

variable (y0 y1 y2 y3 y4 y5 y6 y7 y8 y9 y10 wk cp pg st tr wt ck pr ca bi ba : Int) (w : World)

set_option maxRecDepth 100000 in
set_option maxHeartbeats 32000000 in
theorem apart_core (R : CfgOk wk cp pg st tr wt ck pr ca bi ba) (HS : Hid (∀ W, Calls Try.prog 14 #[.agg #[.int .i64 y0, .int .i64 y1, .int .i64 y2, .int .i64 y3, .int .i64 y4, .int .i64 y5, .int .i64 y6, .int .i64 y7, .int .i64 y8, .int .i64 y9, .int .i64 y10]] W (Gives W (.agg #[.int .i64 wk, .int .i64 cp, .int .i64 pg, .int .i64 st, .int .i64 tr, .int .i64 wt, .int .i64 ck, .int .i64 pr, .int .i64 ca, .int .i64 bi, .int .i64 ba])))) (g2 : Int) (R2 : CfgOk wk cp g2 st tr wt ck pr ca bi ba) (hg : 1 + pg % 20 = g2) (n : Nat) (hn : (n : Int) = (wordsV cp g2 st ca bi)) :
    Calls Try.prog 6 #[.agg #[.int .i64 y0, .int .i64 y1, .int .i64 y2, .int .i64 y3, .int .i64 y4, .int .i64 y5, .int .i64 y6, .int .i64 y7, .int .i64 y8, .int .i64 y9, .int .i64 y10]] w (Gives w (.bool true)) := by
  have HO := Lib.hid (fun W => of_right wk cp g2 st tr wt ck pr ca bi ba W R2)
  have HQ := Lib.hid R2
  have HWd : Hid (∀ W, Calls Try.prog 12 #[.agg (layArr wk cp g2 st tr wt ck pr ca bi ba (startsV cp g2 st ca bi))] W (Gives W (.int .i64 (n : Int)))) := fun W => by rw [hn]; exact xwords R2 W
  have HNm := Lib.hid (fun W => named_gives wk cp g2 st tr wt ck pr ca bi ba W R2)
  have hnb := wordsB R2
  rw [← hn] at hnb
  have Hfa := Lib.hid (facts_of R2)
  have Hn := Lib.hid hn
  clear hn
  have pb1 := R.pg1
  have pb2 := R.pg2
  have Hg := Lib.hid hg
  clear hg
  have HC := Lib.hid (row_new w #[.int .i64 y0, .int .i64 y1, .int .i64 y2, .int .i64 y3, .int .i64 y4, .int .i64 y5, .int .i64 y6, .int .i64 y7, .int .i64 y8, .int .i64 y9, .int .i64 y10] 23)
  have HM : Hid (More w (w.alloc (.cells #[.int .i64 y0, .int .i64 y1, .int .i64 y2, .int .i64 y3, .int .i64 y4, .int .i64 y5, .int .i64 y6, .int .i64 y7, .int .i64 y8, .int .i64 y9, .int .i64 y10] 23))) := (More.refl w).alloc _
  clear R R2
  go_enter Try.func6, Try.ntmps6
  go_wp2_with (first | refine wpList_load_row rfl 23 _ rfl _ rfl 23 _ _ _ (HC.out) Try.underlying23 rfl (by kernel_rfl) ?_ | refine wpList_load_rowG rfl 23 _ rfl _ rfl 23 _ _ _ (HC.out) Try.underlying23 rfl (by kernel_rfl) ?_)
  refine (HS.out _).mono ?_
  rintro e w1 ⟨rfl, h1⟩
  have HM1 : Hid (More w (w1.setRow w.heap.size #[.int .i64 wk, .int .i64 cp, .int .i64 g2, .int .i64 st, .int .i64 tr, .int .i64 wt, .int .i64 ck, .int .i64 pr, .int .i64 ca, .int .i64 bi, .int .i64 ba])) := (HM.out.trans h1).setRow _ _ (by omega)
  have HC0 := Lib.hid (h1.block HC.out)
  have HC1 := Lib.hid (setRow_heap w1 w.heap.size _ #[.int .i64 wk, .int .i64 cp, .int .i64 pg, .int .i64 st, .int .i64 tr, .int .i64 wt, .int .i64 ck, .int .i64 pr, .int .i64 ca, .int .i64 bi, .int .i64 ba] _ _ (h1.block HC.out))
  have xp : (w1.setRow w.heap.size #[.int .i64 wk, .int .i64 cp, .int .i64 pg, .int .i64 st, .int .i64 tr, .int .i64 wt, .int .i64 ck, .int .i64 pr, .int .i64 ca, .int .i64 bi, .int .i64 ba]).cell? ⟨w.heap.size, 2, none⟩ = some (.int .i64 pg) := by rw [cell_of_row _ _ _ _ _ _ HC1.out]; rfl
  have xf : (w1.setRow w.heap.size #[.int .i64 wk, .int .i64 cp, .int .i64 pg, .int .i64 st, .int .i64 tr, .int .i64 wt, .int .i64 ck, .int .i64 pr, .int .i64 ca, .int .i64 bi, .int .i64 ba]).frozen? ⟨w.heap.size, 2, none⟩ = false := by simp [World.frozen?, HC1.out]
  have HE : Hid ((w1.setRow w.heap.size #[.int .i64 wk, .int .i64 cp, .int .i64 pg, .int .i64 st, .int .i64 tr, .int .i64 wt, .int .i64 ck, .int .i64 pr, .int .i64 ca, .int .i64 bi, .int .i64 ba]).setCell ⟨w.heap.size, 2, none⟩ (.int .i64 (1 + pg % 20)) = w1.setRow w.heap.size #[.int .i64 wk, .int .i64 cp, .int .i64 g2, .int .i64 st, .int .i64 tr, .int .i64 wt, .int .i64 ck, .int .i64 pr, .int .i64 ca, .int .i64 bi, .int .i64 ba]) := by
    show (w1.setRow w.heap.size #[.int .i64 wk, .int .i64 cp, .int .i64 pg, .int .i64 st, .int .i64 tr, .int .i64 wt, .int .i64 ck, .int .i64 pr, .int .i64 ca, .int .i64 bi, .int .i64 ba]).setCell ⟨w.heap.size, 2, none⟩ (.int .i64 (1 + pg % 20)) = w1.setRow w.heap.size #[.int .i64 wk, .int .i64 cp, .int .i64 g2, .int .i64 st, .int .i64 tr, .int .i64 wt, .int .i64 ck, .int .i64 pr, .int .i64 ca, .int .i64 bi, .int .i64 ba]
    rw [Hg.out, setCell_eq_setRow _ _ _ _ _ _ _ HC1.out, setRow_setRow]; rfl
  have HC2 := Lib.hid (setRow_heap w1 w.heap.size _ #[.int .i64 wk, .int .i64 cp, .int .i64 g2, .int .i64 st, .int .i64 tr, .int .i64 wt, .int .i64 ck, .int .i64 pr, .int .i64 ca, .int .i64 bi, .int .i64 ba] _ _ (h1.block HC.out))
  clear h1 HC HM
  go_wp2_with (first | (refine wpList_store_row rfl 23 _ _ rfl _ _ rfl rfl 23 _ HC0.out (by kernel_rfl) rfl (by simp [Value.oneCell']) ?_) | (rw [HE.out]; refine wpList_load_row rfl 23 _ rfl _ rfl 23 _ _ _ (HC2.out) Try.underlying23 rfl (by kernel_rfl) ?_))
  refine (HO.out _).mono ?_
  rintro e w2 ⟨rfl, h2⟩
  clear xp xf HE HC1 HC0 Hg pb1 pb2
  have hsz := lt_of_heap (h2.block HC2.out)
  have HM2 : Hid (More w ((w2.alloc (.cells #[.int .i64 0, .int .i64 0, .int .i64 0, .int .i64 0, .int .i64 0, .int .i64 0, .int .i64 0, .int .i64 0, .int .i64 0, .int .i64 0, .int .i64 0, .int .i64 0, .int .i64 0, .int .i64 0, .int .i64 0, .int .i64 0, .int .i64 0, .int .i64 0, .int .i64 0, .int .i64 0, .int .i64 0, .int .i64 0, .int .i64 0, .int .i64 0] 28)).setRow w2.heap.size (layArr wk cp g2 st tr wt ck pr ca bi ba (startsV cp g2 st ca bi)))) := ((HM1.out.trans h2).alloc _).setRow _ _ (by omega)
  have HL2 := Lib.hid (setRow_heap _ w2.heap.size _ (layArr wk cp g2 st tr wt ck pr ca bi ba (startsV cp g2 st ca bi)) _ _ (row_new w2 #[.int .i64 0, .int .i64 0, .int .i64 0, .int .i64 0, .int .i64 0, .int .i64 0, .int .i64 0, .int .i64 0, .int .i64 0, .int .i64 0, .int .i64 0, .int .i64 0, .int .i64 0, .int .i64 0, .int .i64 0, .int .i64 0, .int .i64 0, .int .i64 0, .int .i64 0, .int .i64 0, .int .i64 0, .int .i64 0, .int .i64 0, .int .i64 0] 28))
  clear h2 HC2 HM1 hsz
  go_wp2_with (first | (refine wpList_store_row rfl 28 _ _ rfl _ _ rfl rfl 28 _ (row_new w2 #[.int .i64 0, .int .i64 0, .int .i64 0, .int .i64 0, .int .i64 0, .int .i64 0, .int .i64 0, .int .i64 0, .int .i64 0, .int .i64 0, .int .i64 0, .int .i64 0, .int .i64 0, .int .i64 0, .int .i64 0, .int .i64 0, .int .i64 0, .int .i64 0, .int .i64 0, .int .i64 0, .int .i64 0, .int .i64 0, .int .i64 0, .int .i64 0] 28) (by kernel_rfl) rfl (layArr_one ..) ?_) | refine wpList_load_row rfl 28 _ rfl _ rfl 28 _ _ _ (HL2.out) Try.underlying28 rfl (by kernel_rfl) ?_ | refine wpList_load_rowG rfl 28 _ rfl _ rfl 28 _ _ _ (HL2.out) Try.underlying28 rfl (by kernel_rfl) ?_)
  refine (HWd.out _).mono ?_
  rintro e w3 ⟨rfl, h3⟩
  have HM3 := Lib.hid (HM2.out.trans h3)
  have HL3 := Lib.hid (h3.block HL2.out)
  clear h3 HM2 HL2
  have d0 : decide ((n : Int) < 1) = false := by simp; omega
  have d1 : decide ((1048576 : Int) < (n : Int)) = false := by simp; omega
  have mk := make_bools n (by omega) w3
  have HM4 : Hid (More w (w3.alloc (.cells (madeCells (Value.bool false).cells n) 4))) := HM3.out.alloc _
  have HL4 : Hid ((w3.alloc (.cells (madeCells (Value.bool false).cells n) 4)).heap[w2.heap.size]? = some (.cells (layArr wk cp g2 st tr wt ck pr ca bi ba (startsV cp g2 st ca bi)) 28 (0, 0))) := ((More.refl _).alloc _).block HL3.out
  have HB4 := Lib.hid (row_new w3 (madeCells (Value.bool false).cells n) 4)
  go_wp2_with (first | refine wpList_load_row rfl 28 _ rfl _ rfl 28 _ _ _ (HL4.out) Try.underlying28 rfl (by kernel_rfl) ?_ | refine wpList_load_rowG rfl 28 _ rfl _ rfl 28 _ _ _ (HL4.out) Try.underlying28 rfl (by kernel_rfl) ?_)
  clear mk d0 d1
  refine (HNm.out _).mono ?_
  rintro e w5 ⟨v, wa, rfl, hs5, hm5, ha5, xs, ho, hnd, hin⟩
  have HM5 := Lib.hid (HM4.out.trans (hm5.trans ha5))
  have HB5 := Lib.hid ((hm5.trans ha5).block HB4.out)
  have hbs : w3.heap.size < wa.heap.size := Nat.lt_of_lt_of_le (lt_of_heap HB4.out) hs5
  have hb3 := HM3.out.size
  clear hm5 ha5 hs5 HM4 HL4 HM3 HL3
  rcases ho.2 with ⟨rfl, hz⟩ | ⟨g, cap, cur, rfl, hg1, hg2, hg3, hg4, hg5, hg6⟩
  · have hx0 : xs.length = 0 := hz
    clear ho hin hnd
    go_wp2_with fail
    go_loopw [8, 9] (fun i _ wr => i = .int .i64 0 ∧ More w wr) (fun i _ _ => 0)
    case atStart => exact ⟨rfl, HM5.out⟩
    case round =>
      obtain ⟨rfl, hm⟩ := hrel
      have HMr := Lib.hid hm
      clear hm
      go_wp2_with fail
      refine (lives_any _).mono ?_
      rintro e w9 ⟨rfl, h9⟩
      have HMf := Lib.hid (HMr.out.trans h9)
      clear h9
      go_wp2_with fail
      go_ret
      exact ⟨rfl, HMf.out⟩
  · have hall : ∀ k : Nat, k < xs.length → w5.cell? ⟨g, k, none⟩ = some (.int .i64 (xs.getD k 0)) := by
      intro k hk
      rw [cell_of_row _ _ _ _ _ _ hg2]
      have h1 : (xs.map (Value.int .i64))[k]? = some (.int .i64 (xs.getD k 0)) := by simp [hk, List.getD]
      rw [← hg6, List.getElem?_take_of_lt (by omega)] at h1
      simpa using h1
    have hnat : ∀ k : Nat, k < xs.length → ∃ m : Nat, xs.getD k 0 = (m : Int) ∧ 3 ≤ m ∧ m < n := by
      intro k hk
      have F := Hfa.out
      unfold Facts at F
      have hm : xs.getD k 0 ∈ xs := by
        rw [List.getD, List.getElem?_eq_getElem hk]; exact List.getElem_mem hk
      have h1 := hin _ hm
      have h2 := Hn.out
      unfold Ru at h1
      exact ⟨(xs.getD k 0).toNat, by omega, by omega, by omega⟩
    have hapart : ∀ j k : Nat, j < k → k < xs.length → xs.getD j 0 ≠ xs.getD k 0 := by
      intro j k hj hk e
      rw [List.getD, List.getD, List.getElem?_eq_getElem hk, List.getElem?_eq_getElem (by omega)] at e
      have := (List.getElem_inj hnd).1 (by simpa using e)
      omega
    have hNb : xs.length ≤ 20000 := nodup_len 20000 xs hnd (fun x hx => by
      have F := Hfa.out
      unfold Facts at F
      have := hin x hx
      have hn' := Hn.out
      unfold Ru at this
      omega)
    have Hall := Lib.hid hall
    have Hnat := Lib.hid hnat
    have Hap := Lib.hid hapart
    have HM0 : Hid (Marks xs w3.heap.size n 0 w5) := ⟨_, HB5.out, size_madeCells _ _, fun a ha _ => made_false n a ha⟩
    have hgl := lt_of_heap hg2
    have hbl := lt_of_heap HB5.out
    clear hall hnat hapart hg2 hg3 hg4 hg5 hg6 hin hnd ho cur HB5 HB4
    generalize xs.length = N at *
    go_wp2_with fail
    go_loopw [8, 9] (fun i _ wr => ∃ k : Nat, k ≤ N ∧ i = .int .i64 k ∧ Marks xs w3.heap.size n k wr ∧ Turned (fun b => b = w3.heap.size) w5 wr) (fun i _ _ => N - (intOf i).toNat)
    case atStart => exact ⟨0, by omega, rfl, HM0.out, Turned.refl _ _⟩
    case round =>
      clear HM0
      obtain ⟨k, hk, rfl, hmk, ht⟩ := hrel
      by_cases hlt : k < N
      · have d0 : decide ((k : Int) < (N : Int)) = true := by simp; omega
        have d0b : decide (k < N) = true := by simp; omega
        obtain ⟨m, e1, m0, m1⟩ := Hnat.out k hlt
        have x1 : wr.cell? ⟨g, k, none⟩ = some (.int .i64 (m : Int)) := by
          rw [World.cell?_of_block (w := w5) (ht.block g hgl (fun q => by have q' : g = w3.heap.size := q; omega)), Hall.out k hlt, e1]
        obtain ⟨cs, c1, c2, c3⟩ := hmk
        have x2 : wr.cell? ⟨w3.heap.size, m, none⟩ = some (.bool false) := by
          rw [cell_of_row _ _ _ _ _ _ c1]
          exact c3 m m1 (fun j hj => by rw [← e1]; exact Hap.out j k hj hlt)
        have x3 : wr.frozen? ⟨w3.heap.size, m, none⟩ = false := by simp [World.frozen?, c1]
        have HS1 := Lib.hid (marks_step ⟨cs, c1, c2, c3⟩ e1)
        have HT1 : Hid (Turned (fun b => b = w3.heap.size) w5 (wr.setCell ⟨w3.heap.size, m, none⟩ (.bool true))) := ht.setCell _ _ (fun _ => rfl)
        have d1 : decide ((m : Int) < 3) = false := by simp; omega
        have d1b : decide (m < 3) = false := by simp; omega
        have d2 : decide ((n : Int) ≤ (m : Int)) = false := by simp; omega
        have d2b : decide (n ≤ m) = false := by simp; omega
        clear c1 c2 c3 ht e1
        go_wp2_with fail
        go_roundw
        case rel => exact ⟨k + 1, by omega, by go_num, HS1.out, HT1.out⟩
        case measure => simp [intOf]; omega
      · have he : k = N := by omega
        subst he
        have d0 : decide ((k : Int) < (k : Int)) = false := by simp
        have HMe : Hid (More w wr) := ⟨ht.os.trans HM5.out.os, ht.tape.trans HM5.out.tape, ht.output.trans HM5.out.output, Nat.le_trans HM5.out.size ht.size, fun i hi _ => by
          rw [ht.block i (Nat.lt_of_lt_of_le hi HM5.out.size) (fun q => by have q' : i = w3.heap.size := q; omega)]; exact Turned.block HM5.out i hi (fun q => q)⟩
        clear ht hmk
        go_wp2_with fail
        refine (lives_any _).mono ?_
        rintro e w9 ⟨rfl, h9⟩
        have HMf := Lib.hid (HMe.out.trans h9)
        clear h9
        go_wp2_with fail
        go_ret
        exact ⟨rfl, HMf.out⟩

end Go.Proofs.Ytollofgcijlofaa
