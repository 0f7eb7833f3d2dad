/-
  The landed package purse: Push, Pop.
-/
import Derived.Test.YtmafllcmkhgidaaPurA
namespace Go.Proofs.Ytmafllcmkhgidaa
open Go.RowKit
set_option linter.unusedVariables false
set_option linter.unusedSimpArgs false

theorem pu_row2 {P : Program} {fn : Func} {p u : Tmp} {ty : TypeId} (h : fn.results = #[.cell p ty, .tmp u]) (tmps : Array Value) (w : World) (g : Nat) (t : TypeId) (cs : Array Value) (fr : Nat × Nat) (d : TypeDesc)
    (hp : tmps.getD p undef = .pointer (some ⟨g, 0, none⟩)) (hg : w.heap[g]? = some (.cells cs t fr))
    (hu : P.underlying ty = some d) (hd : (match d with | .struct _ | .array _ _ => true | _ => false) = true) (hi : (P.info? ty).map (·.size) = some cs.size) :
    (results fn tmps).run P w = .ok (.tuple #[.agg cs, tmps.getD u undef]) w := by
  rw [results_cell_tmp h, hp]
  simp [asAddr, run_loadVar_row w g t ty cs fr d hg hu hd hi]

theorem p_first (f : Nat → Value) (P : Nat → List Int) (k n : Nat) (w : World) (h : Pu w f P) (hk : k < 5) (hn : n ≤ (P k).length) (hl : (P k).length ≤ 1000000) :
    Calls Try.prog 18 #[.agg (puA f), .int .i64 k, .int .i64 n] w (fun e w' => ∃ a, e = .returned (.slice a n n) ∧ Rd w' (.slice a n n) ((P k).take n) ∧ More w w') := by
  obtain ⟨w1, e1, hl1, m1, s1⟩ := en1 w (.cells (puA f) 27)
  have M1 := Lib.hid m1
  obtain ⟨a, ⟨cap, hf, hc, h0⟩, hr⟩ := ((h k hk).more m1).first hn
  have x1 : w1.cell? ⟨w.heap.size, k, none⟩ = some (.slice a (P k).length cap) := (puA_cell hl1 hk).trans (by rw [hf])
  have HR := Lib.hid hr
  clear m1 h s1 hl1 hf hr
  have hm := hk
  generalize (P k).length = m at *
  go_enter Try.func18, Try.ntmps18
  cases a with
  | none =>
    obtain rfl := h0 rfl
    obtain rfl : n = 0 := by omega
    go_wp2_with fail
    go_ret
    exact ⟨_, rfl, HR.out, M1.out⟩
  | some p =>
    clear h0
    go_wp2_with fail
    go_ret
    exact ⟨_, rfl, HR.out, M1.out⟩

def pushB (P : Nat → List Int) (c l : Int) : Bool := clsB c && decide (lenC P c < l)
def pushP (P : Nat → List Int) (c a l : Int) : Nat → List Int := if pushB P c l then (fun k => if k = c.toNat then P k ++ [a] else P k) else P
/-- What Push and Pop hand back. -/
def GavePu (w : World) (P : Nat → List Int) (val : Value → Value) (e : Ending) (w' : World) : Prop := ∃ f, e = .returned (val (.agg (puA f))) ∧ Pu w' f P ∧ More w w'
theorem lenC_nat (P : Nat → List Int) {k : Nat} (hk : k < 5) : lenC P k = (P k).length := by simp [lenC, clsB_of hk]
theorem lenC_no (P : Nat → List Int) {c : Int} (hc : clsB c = false) : lenC P c = 0 := by simp [lenC, hc]

set_option maxHeartbeats 1000000 in
theorem p_push_no (f : Nat → Value) (P : Nat → List Int) (c a l : Int) (w : World) (h : Pu w f P) (hb : pushB P c l = false) :
    Calls Try.prog 8 #[.agg (puA f), .int .i64 c, .int .i64 a, .int .i64 l] w (GavePu w P (fun v => .tuple #[v, .bool false])) := by
  obtain ⟨z0, hz0⟩ : ∃ z : Array Value, z = #[.slice none 0 0, .slice none 0 0, .slice none 0 0, .slice none 0 0, .slice none 0 0] := ⟨_, rfl⟩
  obtain ⟨w2, e2, hl1, hl2, m2, s2⟩ := en2 w (.cells (puA f) 27) (.cells #[.slice none 0 0, .slice none 0 0, .slice none 0 0, .slice none 0 0, .slice none 0 0] 27)
  have L1 := Lib.hid hl1
  have L2 := Lib.hid hl2
  have M2 := Lib.hid m2
  have HP := Lib.hid (h.more m2)
  have HL := Lib.hid (fun W (hW : More w2 W) => p_Len f P c W (HP.out.more hW))
  have HC := Lib.hid (fun W => p_class c W)
  have H1 := Lib.hid h.all1
  have FIN : Hid (∀ W, More w2 W → GavePu w P (fun v => .tuple #[v, .bool false]) (.returned (.tuple #[.agg (puA f), .bool false])) (W.setRow (w.heap.size + 1) (puA f))) := Lib.hid fun W hW =>
    ⟨f, rfl, (HP.out.more hW).keep (S := fun k => k = w.heap.size + 1) (Turned.setRow (Turned.refl _ W) _ _ (fun _ => rfl)) (fun k q => by subst q; exact ⟨_, _, _, hW.block L2.out, by decide⟩), (M2.out.trans hW).setRow _ _ (by omega)⟩
  clear hl1 hl2 m2 h s2
  cases hc : clsB c with
  | false =>
    rw [hc] at HC
    rw [lenC_no P hc] at HL
    clear hc hb
    go_enter Try.func8, Try.ntmps8
    go_wp2_with (refine wpList_load_row rfl 27 _ rfl _ rfl 27 _ _ _ L1.out Try.underlying27 rfl (by kernel_rfl) ?_)
    refine (HL.out w2 (More.refl _)).mono ?_
    rintro e w3 ⟨rfl, h3⟩
    have M3 := Lib.hid h3
    clear h3
    go_wp2_with fail
    refine (HC.out w3).mono ?_
    rintro e w4 ⟨rfl, h4⟩
    have M4 := Lib.hid (M3.out.trans h4)
    clear h4
    go_wp2_with (first | (refine wpList_load_row rfl 27 _ rfl _ rfl 27 _ _ _ (M4.out.block L1.out) Try.underlying27 rfl (by kernel_rfl) ?_) | (refine wpList_store_row rfl 27 _ _ rfl _ _ rfl rfl 27 _ (M4.out.block L2.out) (by kernel_rfl) rfl H1.out ?_))
    refine bodyPost_ret (v := .tuple #[.agg (puA f), .bool false]) (pu_row2 Try.results8 _ _ _ 27 _ (0, 0) _ rfl (setRow_heap _ _ _ _ _ _ (M4.out.block L2.out)) Try.underlying27 rfl (by kernel_rfl)) rfl (FIN.out _ M4.out)
  | true =>
    rw [hc] at HC
    obtain ⟨n, hn⟩ : ∃ n, lenC P c = n := ⟨_, rfl⟩
    rw [hn] at HL
    have hb2 : decide (l ≤ n) = true := by simp [pushB, hc, hn] at hb; simpa using hb
    clear hc hb hn
    go_enter Try.func8, Try.ntmps8
    go_wp2_with (refine wpList_load_row rfl 27 _ rfl _ rfl 27 _ _ _ L1.out Try.underlying27 rfl (by kernel_rfl) ?_)
    refine (HL.out w2 (More.refl _)).mono ?_
    rintro e w3 ⟨rfl, h3⟩
    have M3 := Lib.hid h3
    clear h3
    go_wp2_with fail
    refine (HC.out w3).mono ?_
    rintro e w4 ⟨rfl, h4⟩
    have M4 := Lib.hid (M3.out.trans h4)
    clear h4
    go_wp2_with (first | (refine wpList_load_row rfl 27 _ rfl _ rfl 27 _ _ _ (M4.out.block L1.out) Try.underlying27 rfl (by kernel_rfl) ?_) | (refine wpList_store_row rfl 27 _ _ rfl _ _ rfl rfl 27 _ (M4.out.block L2.out) (by kernel_rfl) rfl H1.out ?_))
    refine bodyPost_ret (v := .tuple #[.agg (puA f), .bool false]) (pu_row2 Try.results8 _ _ _ 27 _ (0, 0) _ rfl (setRow_heap _ _ _ _ _ _ (M4.out.block L2.out)) Try.underlying27 rfl (by kernel_rfl)) rfl (FIN.out _ M4.out)

set_option maxHeartbeats 1000000 in
theorem p_push_yes (f : Nat → Value) (P : Nat → List Int) (k : Nat) (a l : Int) (w : World) (h : Pu w f P) (hk : k < 5) (hl : (P k).length < l) (hL : (P k).length ≤ 1000000) :
    Calls Try.prog 8 #[.agg (puA f), .int .i64 k, .int .i64 a, .int .i64 l] w (GavePu w (fun j => if j = k then P j ++ [a] else P j) (fun v => .tuple #[v, .bool true])) := by
  obtain ⟨w2, e2, hl1, hl2, m2, s2⟩ := en2 w (.cells (puA f) 27) (.cells #[.slice none 0 0, .slice none 0 0, .slice none 0 0, .slice none 0 0, .slice none 0 0] 27)
  have L1 := Lib.hid hl1
  have L2 := Lib.hid hl2
  have M2 := Lib.hid m2
  have HP := Lib.hid (h.more m2)
  have HL := Lib.hid (fun W (hW : More w2 W) => p_Len f P k W (HP.out.more hW))
  rw [lenC_nat P hk] at HL
  have HC := Lib.hid (fun W => p_class k W)
  rw [clsB_of hk] at HC
  have HF := Lib.hid (fun W (hW : More w2 W) => p_first f P k (P k).length W (HP.out.more hW) hk (Nat.le_refl _) hL)
  rw [List.take_length] at HF
  have FIN : Hid (∀ W v, More w2 W → Rd W v (P k ++ [a]) → (((W.setCell ⟨w.heap.size, k, none⟩ v).setRow (w.heap.size + 1) (puA (putF f k v))).heap[w.heap.size + 1]? = some (.cells (puA (putF f k v)) 27 (0, 0))) ∧ (W.setCell ⟨w.heap.size, k, none⟩ v).heap[w.heap.size]? = some (.cells (puA (putF f k v)) 27 (0, 0)) ∧ (W.setCell ⟨w.heap.size, k, none⟩ v).heap[w.heap.size + 1]? = W.heap[w.heap.size + 1]? ∧ (puA (putF f k v)).all (·.oneCell') = true ∧
      GavePu w (fun j => if j = k then P j ++ [a] else P j) (fun v => .tuple #[v, .bool true]) (.returned (.tuple #[.agg (puA (putF f k v)), .bool true])) ((W.setCell ⟨w.heap.size, k, none⟩ v).setRow (w.heap.size + 1) (puA (putF f k v)))) := Lib.hid fun W v hW hv => by
    have q1 := hW.block L1.out
    have q2 := hW.block L2.out
    have q3 := heap_setCell_same W _ k _ _ v q1
    rw [puA_set f hk] at q3
    have q4 : (W.setCell ⟨w.heap.size, k, none⟩ v).heap[w.heap.size + 1]? = W.heap[w.heap.size + 1]? := heap_setCell_other W _ _ v (by simp)
    have t1 : Turned (fun j => j = w.heap.size) W (W.setCell ⟨w.heap.size, k, none⟩ v) := Turned.setCell (Turned.refl _ W) _ _ (fun _ => rfl)
    have t2 : Turned (fun j => j = w.heap.size ∨ j = w.heap.size + 1) W ((W.setCell ⟨w.heap.size, k, none⟩ v).setRow (w.heap.size + 1) (puA (putF f k v))) := Turned.setRow (t1.mono fun _ _ q => .inl q) _ _ (fun _ => .inr rfl)
    have hpu : Pu W (putF f k v) (fun j => if j = k then P j ++ [a] else P j) := fun c hc => by
      unfold putF
      by_cases e : c = k
      · subst e; simpa using hv
      · simpa [e] using (HP.out.more hW) c hc
    refine ⟨setRow_heap _ _ _ _ _ _ (q4.trans q2), q3, q4, hpu.all1, _, rfl, hpu.keep t2 ?_, ?_⟩
    · rintro j (rfl | rfl)
      · exact ⟨_, _, _, q1, by decide⟩
      · exact ⟨_, _, _, q2, by decide⟩
    · exact (Turned.setCell (M2.out.trans hW) _ _ (fun q => by simp at q)).setRow _ _ (by omega)
  have hm := Lib.hid hk
  have d0 : decide (l ≤ ((P k).length : Int)) = false := by simp; omega
  obtain ⟨n, hn⟩ : ∃ n, (P k).length = n := ⟨_, rfl⟩
  have HN := Lib.hid hn
  rw [hn] at HL HF d0 hL hl
  clear hn
  clear hl1 hl2 m2 h s2
  go_enter Try.func8, Try.ntmps8
  go_wp2_with (refine wpList_load_row rfl 27 _ rfl _ rfl 27 _ _ _ L1.out Try.underlying27 rfl (by kernel_rfl) ?_)
  refine (HL.out w2 (More.refl _)).mono ?_
  rintro e w3 ⟨rfl, h3⟩
  have M3 := Lib.hid h3
  clear h3
  go_wp2_with fail
  refine (HC.out w3).mono ?_
  rintro e w4 ⟨rfl, h4⟩
  have M4 := Lib.hid (M3.out.trans h4)
  clear h4
  go_wp2_with (refine wpList_load_row rfl 27 _ rfl _ rfl 27 _ _ _ (M4.out.block L1.out) Try.underlying27 rfl (by kernel_rfl) ?_)
  refine (HF.out w4 M4.out).mono ?_
  rintro e w5 ⟨b, rfl, h5, m5⟩
  have R5 := Lib.hid h5
  have M5 := Lib.hid (M4.out.trans m5)
  clear h5 m5
  go_wp2_with (first
    | (at_builtin
       refine wpList_grow a n rfl _ _ rfl rfl R5.out (by rw [HN.out]; exact hL) HN.out rfl ?_
       intro g cap w6 hg hr hm6
       have M6 := Lib.hid (M5.out.trans hm6)
       have F6 := Lib.hid (FIN.out w6 _ M6.out hr)
       have x1 := puA_cell (M6.out.block L1.out) hk
       have x2 := frozen_of_row w6 w.heap.size k _ _ (M6.out.block L1.out)
       clear hg hr hm6 R5)
    | (refine wpList_load_row rfl 27 _ rfl _ rfl 27 _ _ _ F6.out.2.1 Try.underlying27 rfl (by kernel_rfl) ?_)
    | (refine wpList_store_row rfl 27 _ _ rfl _ _ rfl rfl 27 _ (F6.out.2.2.1.trans (M6.out.block L2.out)) (by kernel_rfl) rfl F6.out.2.2.2.1 ?_))
  refine bodyPost_ret (v := .tuple #[.agg _, .bool true]) (pu_row2 Try.results8 _ _ _ 27 _ (0, 0) _ rfl F6.out.1 Try.underlying27 rfl (by kernel_rfl)) rfl F6.out.2.2.2.2
theorem p_Push (f : Nat → Value) (P : Nat → List Int) (c a l : Int) (w : World) (h : Pu w f P) (hL : ∀ k, k < 5 → (P k).length ≤ 1000000) :
    Calls Try.prog 8 #[.agg (puA f), .int .i64 c, .int .i64 a, .int .i64 l] w (GavePu w (pushP P c a l) (fun v => .tuple #[v, .bool (pushB P c l)])) := by
  cases hb : pushB P c l with
  | false =>
    have := p_push_no f P c a l w h hb
    simpa [pushP, hb] using this
  | true =>
    have hb' := hb
    simp [pushB] at hb'
    obtain ⟨k, rfl, hk⟩ := clsB_nat hb'.1
    rw [lenC_nat P hk] at hb'
    have := p_push_yes f P k a l w h hk hb'.2 (hL k hk)
    simpa [pushP, hb] using this

/-! ### Pop -/
def popB (P : Nat → List Int) (c : Int) : Bool := decide (0 < lenC P c)
def popX (P : Nat → List Int) (c : Int) : Int := if popB P c then (P c.toNat).getD ((P c.toNat).length - 1) 0 else 0
def popP (P : Nat → List Int) (c : Int) : Nat → List Int := if popB P c then (fun k => if k = c.toNat then (P k).take ((P k).length - 1) else P k) else P
theorem pu_row3 {P : Program} {fn : Func} {p u u' : Tmp} {ty : TypeId} (h : fn.results = #[.cell p ty, .tmp u, .tmp u']) (tmps : Array Value) (w : World) (g : Nat) (t : TypeId) (cs : Array Value) (fr : Nat × Nat) (d : TypeDesc)
    (hp : tmps.getD p undef = .pointer (some ⟨g, 0, none⟩)) (hg : w.heap[g]? = some (.cells cs t fr))
    (hu : P.underlying ty = some d) (hd : (match d with | .struct _ | .array _ _ => true | _ => false) = true) (hi : (P.info? ty).map (·.size) = some cs.size) :
    (results fn tmps).run P w = .ok (.tuple #[.agg cs, tmps.getD u undef, tmps.getD u' undef]) w := by
  have hp' : tmps[p]?.getD undef = .pointer (some ⟨g, 0, none⟩) := by simpa using hp
  simp [results, h, hp', asAddr, run_loadVar_row w g t ty cs fr d hg hu hd hi]

set_option maxHeartbeats 1000000 in
theorem p_pop_no (f : Nat → Value) (P : Nat → List Int) (c : Int) (w : World) (h : Pu w f P) (hb : lenC P c = 0) :
    Calls Try.prog 6 #[.agg (puA f), .int .i64 c] w (GavePu w P (fun v => .tuple #[v, .int .i64 0, .bool false])) := by
  obtain ⟨w2, e2, hl1, hl2, m2, s2⟩ := en2 w (.cells (puA f) 27) (.cells #[.slice none 0 0, .slice none 0 0, .slice none 0 0, .slice none 0 0, .slice none 0 0] 27)
  have L1 := Lib.hid hl1
  have L2 := Lib.hid hl2
  have M2 := Lib.hid m2
  have HP := Lib.hid (h.more m2)
  have HL := Lib.hid (fun W (hW : More w2 W) => p_Len f P c W (HP.out.more hW))
  rw [hb] at HL
  have H1 := Lib.hid h.all1
  have FIN : Hid (∀ W, More w2 W → GavePu w P (fun v => .tuple #[v, .int .i64 0, .bool false]) (.returned (.tuple #[.agg (puA f), .int .i64 0, .bool false])) (W.setRow (w.heap.size + 1) (puA f))) := Lib.hid fun W hW =>
    ⟨f, rfl, (HP.out.more hW).keep (S := fun k => k = w.heap.size + 1) (Turned.setRow (Turned.refl _ W) _ _ (fun _ => rfl)) (fun k q => by subst q; exact ⟨_, _, _, hW.block L2.out, by decide⟩), (M2.out.trans hW).setRow _ _ (by omega)⟩
  clear hl1 hl2 m2 h s2 hb
  go_enter Try.func6, Try.ntmps6
  go_wp2_with (refine wpList_load_row rfl 27 _ rfl _ rfl 27 _ _ _ L1.out Try.underlying27 rfl (by kernel_rfl) ?_)
  refine (HL.out w2 (More.refl _)).mono ?_
  rintro e w3 ⟨rfl, h3⟩
  have M4 := Lib.hid h3
  clear h3
  go_wp2_with (first | (refine wpList_load_row rfl 27 _ rfl _ rfl 27 _ _ _ (M4.out.block L1.out) Try.underlying27 rfl (by kernel_rfl) ?_) | (refine wpList_store_row rfl 27 _ _ rfl _ _ rfl rfl 27 _ (M4.out.block L2.out) (by kernel_rfl) rfl H1.out ?_))
  refine bodyPost_ret (v := .tuple #[.agg (puA f), .int .i64 0, .bool false]) (pu_row3 Try.results6 _ _ _ 27 _ (0, 0) _ rfl (setRow_heap _ _ _ _ _ _ (M4.out.block L2.out)) Try.underlying27 rfl (by kernel_rfl)) rfl (FIN.out _ M4.out)

set_option maxHeartbeats 1000000 in
theorem p_pop_yes (f : Nat → Value) (P : Nat → List Int) (k m : Nat) (w : World) (h : Pu w f P) (hk : k < 5) (hm : (P k).length = m + 1) (hL : m + 1 ≤ 1000000) :
    Calls Try.prog 6 #[.agg (puA f), .int .i64 k] w (GavePu w (fun j => if j = k then (P j).take m else P j) (fun v => .tuple #[v, .int .i64 ((P k).getD m 0), .bool true])) := by
  obtain ⟨w2, e2, hl1, hl2, m2, s2⟩ := en2 w (.cells (puA f) 27) (.cells #[.slice none 0 0, .slice none 0 0, .slice none 0 0, .slice none 0 0, .slice none 0 0] 27)
  have L1 := Lib.hid hl1
  have L2 := Lib.hid hl2
  have M2 := Lib.hid m2
  have HP := Lib.hid (h.more m2)
  have HL := Lib.hid (fun W (hW : More w2 W) => p_Len f P k W (HP.out.more hW))
  rw [lenC_nat P hk, hm] at HL
  have HF := Lib.hid (fun W (hW : More w2 W) => p_first f P k m W (HP.out.more hW) hk (by omega) (by omega))
  have HX : Hid (∀ W, More w2 W → ∃ a cap, W.cell? ⟨w.heap.size, k, none⟩ = some (.slice (some ⟨a, 0, none⟩) (m + 1) cap) ∧ W.cell? ⟨a, m, none⟩ = some (.int .i64 ((P k).getD m 0))) := Lib.hid fun W hW => by
    obtain ⟨a, cap, hf, _, hc⟩ := (HP.out.more hW k hk).cell
    obtain ⟨g, rfl, hx⟩ := hc m (by omega)
    exact ⟨g, cap, (puA_cell (hW.block L1.out) hk).trans (by rw [hf, hm]), hx⟩
  have FIN : Hid (∀ W v, More w2 W → Rd W v ((P k).take m) → (((W.setCell ⟨w.heap.size, k, none⟩ v).setRow (w.heap.size + 1) (puA (putF f k v))).heap[w.heap.size + 1]? = some (.cells (puA (putF f k v)) 27 (0, 0))) ∧ (W.setCell ⟨w.heap.size, k, none⟩ v).heap[w.heap.size]? = some (.cells (puA (putF f k v)) 27 (0, 0)) ∧ (W.setCell ⟨w.heap.size, k, none⟩ v).heap[w.heap.size + 1]? = W.heap[w.heap.size + 1]? ∧ (puA (putF f k v)).all (·.oneCell') = true ∧
      GavePu w (fun j => if j = k then (P j).take m else P j) (fun v => .tuple #[v, .int .i64 ((P k).getD m 0), .bool true]) (.returned (.tuple #[.agg (puA (putF f k v)), .int .i64 ((P k).getD m 0), .bool true])) ((W.setCell ⟨w.heap.size, k, none⟩ v).setRow (w.heap.size + 1) (puA (putF f k v)))) := Lib.hid fun W v hW hv => by
    have q1 := hW.block L1.out
    have q2 := hW.block L2.out
    have q3 := heap_setCell_same W _ k _ _ v q1
    rw [puA_set f hk] at q3
    have q4 : (W.setCell ⟨w.heap.size, k, none⟩ v).heap[w.heap.size + 1]? = W.heap[w.heap.size + 1]? := heap_setCell_other W _ _ v (by simp)
    have t1 : Turned (fun j => j = w.heap.size) W (W.setCell ⟨w.heap.size, k, none⟩ v) := Turned.setCell (Turned.refl _ W) _ _ (fun _ => rfl)
    have t2 : Turned (fun j => j = w.heap.size ∨ j = w.heap.size + 1) W ((W.setCell ⟨w.heap.size, k, none⟩ v).setRow (w.heap.size + 1) (puA (putF f k v))) := Turned.setRow (t1.mono fun _ _ q => .inl q) _ _ (fun _ => .inr rfl)
    have hpu : Pu W (putF f k v) (fun j => if j = k then (P j).take m else P j) := fun c hc => by
      unfold putF
      by_cases e : c = k
      · subst e; simpa using hv
      · simpa [e] using (HP.out.more hW) c hc
    refine ⟨setRow_heap _ _ _ _ _ _ (q4.trans q2), q3, q4, hpu.all1, _, rfl, hpu.keep t2 ?_, ?_⟩
    · rintro j (rfl | rfl)
      · exact ⟨_, _, _, q1, by decide⟩
      · exact ⟨_, _, _, q2, by decide⟩
    · exact (Turned.setCell (M2.out.trans hW) _ _ (fun q => by simp at q)).setRow _ _ (by omega)
  have hm0 := Lib.hid hk
  obtain ⟨x, hx⟩ : ∃ x, (P k).getD m 0 = x := ⟨_, rfl⟩
  rw [hx] at HX FIN ⊢
  clear hl1 hl2 m2 h s2 hm hx
  go_enter Try.func6, Try.ntmps6
  go_wp2_with (refine wpList_load_row rfl 27 _ rfl _ rfl 27 _ _ _ L1.out Try.underlying27 rfl (by kernel_rfl) ?_)
  refine (HL.out w2 (More.refl _)).mono ?_
  rintro e w4 ⟨rfl, h4⟩
  have M4 := Lib.hid h4
  obtain ⟨a, cap, x1, x2⟩ := HX.out w4 h4
  clear h4
  go_wp2_with (refine wpList_load_row rfl 27 _ rfl _ rfl 27 _ _ _ (M4.out.block L1.out) Try.underlying27 rfl (by kernel_rfl) ?_)
  refine (HF.out w4 M4.out).mono ?_
  rintro e w5 ⟨b, rfl, h5, m5⟩
  have M5 := Lib.hid (M4.out.trans m5)
  have F6 := Lib.hid (FIN.out w5 _ M5.out h5)
  have x3 := puA_cell (M5.out.block L1.out) hk
  have x4 := frozen_of_row w5 w.heap.size k _ _ (M5.out.block L1.out)
  clear h5 m5 x1 x2
  go_wp2_with (first
    | (refine wpList_load_row rfl 27 _ rfl _ rfl 27 _ _ _ F6.out.2.1 Try.underlying27 rfl (by kernel_rfl) ?_)
    | (refine wpList_store_row rfl 27 _ _ rfl _ _ rfl rfl 27 _ (F6.out.2.2.1.trans (M5.out.block L2.out)) (by kernel_rfl) rfl F6.out.2.2.2.1 ?_))
  refine bodyPost_ret (v := .tuple #[.agg _, .int .i64 x, .bool true]) (pu_row3 Try.results6 _ _ _ 27 _ (0, 0) _ rfl F6.out.1 Try.underlying27 rfl (by kernel_rfl)) rfl F6.out.2.2.2.2
theorem p_Pop (f : Nat → Value) (P : Nat → List Int) (c : Int) (w : World) (h : Pu w f P) (hL : ∀ k, k < 5 → (P k).length ≤ 1000000) :
    Calls Try.prog 6 #[.agg (puA f), .int .i64 c] w (GavePu w (popP P c) (fun v => .tuple #[v, .int .i64 (popX P c), .bool (popB P c)])) := by
  cases hb : popB P c with
  | false =>
    have h0 : lenC P c = 0 := by simp [popB] at hb; unfold lenC at *; split at hb <;> simp_all
    have := p_pop_no f P c w h h0
    simpa [popP, popX, hb] using this
  | true =>
    have hb' := hb
    simp [popB] at hb'
    have hc : clsB c = true := by
      cases q : clsB c with
      | true => rfl
      | false => rw [lenC_no P q] at hb'; omega
    obtain ⟨k, rfl, hk⟩ := clsB_nat hc
    rw [lenC_nat P hk] at hb'
    obtain ⟨m, hm⟩ : ∃ m, (P k).length = m + 1 := ⟨(P k).length - 1, by omega⟩
    have := p_pop_yes f P k m w h hk hm (by have := hL k hk; omega)
    have e1 : popX P k = (P k).getD m 0 := by simp [popX, hb, hm]
    have e2 : popP P k = fun j => if j = k then (P j).take m else P j := by
      unfold popP
      rw [if_pos hb]
      funext j
      by_cases e : j = k
      · subst e; simp [hm]
      · simp [e]
    rw [e1, e2]
    exact this
end Go.Proofs.Ytmafllcmkhgidaa
