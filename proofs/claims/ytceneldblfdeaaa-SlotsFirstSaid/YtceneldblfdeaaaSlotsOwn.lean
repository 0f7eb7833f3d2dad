/-
  The landed slots that go through bits by a function to range over, under contract.
-/
import Derived.Test.YtceneldblfdeaaaSlotsRef
import Derived.RangeFuncBox
import Derived.RangeFuncLeaves
import Derived.RangeFuncCalls
import Derived.Shelf.Abstract
import Derived.OwnWalkIn
import Derived.TacticsInMore
import Derived.LoopNIn
import Derived.LoopIn
import Derived.Maps.AppendAt
namespace Go.Proofs.Ytceneldblfdeaaa
open Go.RowKit Go.Shelf
set_option linter.unusedVariables false
set_option linter.unusedSimpArgs false
attribute [local go_sem] Oper.semAt_some

theorem more_of_below {w w' : World} (h : Below w.heap.size w w') : More w w' := ⟨h.1, h.2, h.3, h.4, fun k hk _ => h.5 k hk⟩

/-- Two boxes lie as they lay. -/
def Keeps2 (a b : Nat) (w w' : World) : Prop := w'.heap[a]? = w.heap[a]? ∧ w'.heap[b]? = w.heap[b]?
theorem Keeps2.refl (a b : Nat) (w : World) : Keeps2 a b w w := ⟨rfl, rfl⟩
theorem Keeps2.trans {a b : Nat} {w w' w'' : World} (h : Keeps2 a b w w') (k : Keeps2 a b w' w'') : Keeps2 a b w w'' := ⟨k.1.trans h.1, k.2.trans h.2⟩
theorem Keeps2.cell1 {a b o : Nat} {w w' : World} {v : Value} (h : Keeps2 a b w w') (hc : w.cell? ⟨a, o, none⟩ = some v) : w'.cell? ⟨a, o, none⟩ = some v := by
  rw [World.cell?_of_block (w := w) h.1]; exact hc
theorem Keeps2.cell2 {a b o : Nat} {w w' : World} {v : Value} (h : Keeps2 a b w w') (hc : w.cell? ⟨b, o, none⟩ = some v) : w'.cell? ⟨b, o, none⟩ = some v := by
  rw [World.cell?_of_block (w := w) h.2]; exact hc
theorem Keeps2.setCell {a b : Nat} (w : World) {c o : Nat} (v : Value) (ha : a ≠ c) (hb : b ≠ c) : Keeps2 a b w (w.setCell ⟨c, o, none⟩ v) :=
  ⟨Below.heap_setCell _ _ _ _ ha, Below.heap_setCell _ _ _ _ hb⟩
theorem keeps2_put {a b n : Nat} (ha : a < n) (hb : b < n) (W : World) (l : Nat) (o o' : Obj) (hl : n ≤ l) (h : W.heap[l]? = some o) (_ : o.isCells = false) (_ : o.isWalk = false) : Keeps2 a b W (W.putObj l o') :=
  ⟨World.putObj_heap_other (by omega), World.putObj_heap_other (by omega)⟩

/-- What has come when k rounds are over. -/
def cameUpTo (x : Int) (k : Nat) : List (Nat × Bool) := (List.range k).map fun j => (j, bitB x j)
theorem came_succ (x : Int) (k : Nat) : cameUpTo x (k + 1) = cameUpTo x k ++ [(k, bitB x k)] := by simp [cameUpTo, List.range_succ]
theorem came_length (x : Int) (k : Nat) : (cameUpTo x k).length = k := by simp [cameUpTo]

set_option maxRecDepth 100000 in
set_option maxHeartbeats 2000000 in
theorem bits1_in (n : Nat) (hn : 1 ≤ n) (l Bm Bw : Nat) (x m : Int) (m0 : -9223372036854775808 ≤ m) (m1 : m ≤ 9223372036854775807) (J Jx : List (Nat × Bool) → World → Prop)
    (hY : ∀ pre y W, J pre W → pre.length < endN m → YieldAt Fence.wide (n - 1) Try.prog l #[.int .i64 (y.1 : Int), .bool y.2] W fun e W' =>
      (e = .returned (.bool true) ∧ J (pre ++ [y]) W' ∧ Keeps2 Bm Bw W W') ∨ (e = .returned (.bool false) ∧ Jx (pre ++ [y]) W'))
    (W : World) (hBm : W.cell? ⟨Bm, 0, none⟩ = some (.int .i64 m)) (hBw : W.cell? ⟨Bw, 0, none⟩ = some (.int .i64 x)) (h0 : J [] W) :
    CallsIn Fence.wide n Try.prog 27 #[.func (.yield l) #[] #[], .pointer (some ⟨Bm, 0, none⟩), .pointer (some ⟨Bw, 0, none⟩)] W fun e W' => (∃ v, e = .returned v) ∧
      ((∃ ys, ys = cameUpTo x (endN m) ∧ J ys W') ∨ (∃ pre, (∃ k, k ≤ endN m ∧ pre = cameUpTo x k) ∧ Jx pre W')) := by
  have he := endN_le m
  refine callsIn_of_wp Try.func27 rfl trivial ?_ rfl
  simp only [Try.ntmps27, List.size_toArray, List.length_cons, List.length_nil, Nat.reduceAdd, Nat.reduceSub, Array.replicate_succ, Array.replicate_zero, List.push_toArray, List.append_toArray, List.nil_append, List.cons_append]
  gi_wp2
  all_goals
    gi_loopw [7] (fun i wr => ∃ k : Nat, k ≤ endN m ∧ i = .int .i64 k ∧ J (cameUpTo x k) wr ∧ Keeps2 Bm Bw W wr) (fun i _ => endN m - (intOf i).toNat)
    case atStart => exact ⟨0, Nat.zero_le _, rfl, h0, Keeps2.refl _ _ _⟩
    case round =>
      obtain ⟨k, hk, rfl, hJs, hnx⟩ := hrel
      by_cases hlt : k < endN m
      · obtain ⟨l1, l2⟩ := end_in hlt
        have hcw : wr.cell? ⟨Bw, 0, none⟩ = some (.int .i64 x) := hnx.cell2 hBw
        have HK := Lib.hid (has_nat (x := x) (show k < 32 by omega))
        obtain ⟨fn, tmps, assign, body, hy, hR⟩ := hY _ (k, bitB x k) wr hJs (by rw [came_length]; exact hlt)
        dsimp only at hy
        gi_wp2_with (refine ⟨trivial, ?_⟩; gi_at_call 8; refine (callsIn_wide.2 (o_has x k _)).mono ?_; rw [HK.out]; rintro e w' ⟨rfl, rfl⟩)
        refine hR.mono ?_
        rintro e W3 (⟨rfl, hJ3, hk3⟩ | ⟨rfl, hJx3⟩)
        · gi_wp2
          go_roundw
          case rel => exact ⟨k + 1, by omega, by simp, by rw [came_succ]; exact hJ3, hnx.trans hk3⟩
          case measure => simp [intOf]; omega
        · gi_wp2
          refine bodyPost_ret (results_none rfl _ _ _) rfl ?_
          exact ⟨⟨_, rfl⟩, .inr ⟨_, ⟨k + 1, by omega, (came_succ _ _).symm⟩, hJx3⟩⟩
      · have l3 : k = endN m := by omega
        have l4 : (m ≤ 32 ∧ m ≤ (k : Int)) ∨ (32 ≤ m ∧ 32 ≤ (k : Int)) := by unfold endN at l3; omega
        first
        | (have l5 : m ≤ (k : Int) := by unfold endN at l3; omega
           clear l4
           gi_wp2
           go_end0
           exact ⟨⟨_, rfl⟩, .inl ⟨_, rfl, by rw [← l3]; exact hJs⟩⟩)
        | (have l5 : 32 ≤ (k : Int) := by unfold endN at l3; omega
           clear l4
           gi_wp2
           go_end0
           exact ⟨⟨_, rfl⟩, .inl ⟨_, rfl, by rw [← l3]; exact hJs⟩⟩)

set_option maxHeartbeats 1000000 in
theorem bits_in (n : Nat) (x m : Int) (w : World) :
    CallsIn Fence.wide n Try.prog 26 #[.int .i64 x, .int .i64 m] w fun e w' => e = .returned (.func (.func 27) #[] #[.pointer (some ⟨w.heap.size + 1, 0, none⟩), .pointer (some ⟨w.heap.size, 0, none⟩)]) ∧ w' = (w.alloc (.cells #[.int .i64 x] 3)).alloc (.cells #[.int .i64 m] 3) := by
  refine callsIn_of_wp Try.func26 rfl trivial ?_ rfl
  simp only [Try.ntmps26, List.size_toArray, List.length_cons, List.length_nil, Nat.reduceAdd, Nat.reduceSub, Array.replicate_succ, Array.replicate_zero, List.push_toArray, List.append_toArray, List.nil_append, List.cons_append]
  gi_wp2
  go_ret
  exact ⟨rfl, rfl⟩

theorem bits_stops (n : Nat) (hn : 1 ≤ n) (Bm Bw : Nat) (x m : Int) (m0 : -9223372036854775808 ≤ m) (m1 : m ≤ 9223372036854775807) (w : World)
    (hBm : w.cell? ⟨Bm, 0, none⟩ = some (.int .i64 m)) (hBw : w.cell? ⟨Bw, 0, none⟩ = some (.int .i64 x)) :
    SeqStopsK Fence.wide n Try.prog 27 #[.pointer (some ⟨Bm, 0, none⟩), .pointer (some ⟨Bw, 0, none⟩)] (fun y : Nat × Bool => #[Value.int .i64 (y.1 : Int), Value.bool y.2]) (Keeps2 Bm Bw) (fun ys => ys = cameUpTo x (endN m))
      (fun pre => ∃ k, k ≤ endN m ∧ pre = cameUpTo x k) (endN m) w := fun l J Jx W hW _ _ hY h0 =>
  bits1_in n hn l Bm Bw x m m0 m1 J Jx hY W ((hW.cell (p := ⟨Bm, 0, none⟩) (lt_of_cell hBm)).trans hBm) ((hW.cell (p := ⟨Bw, 0, none⟩) (lt_of_cell hBw)).trans hBw) h0

/-! The three callers. -/
theorem came_on (x : Int) (k : Nat) : ((cameUpTo x k).filter fun y => y.2).map (fun y => y.1) = onN x k := by
  induction k with
  | zero => rfl
  | succ k ih =>
    rw [came_succ, List.filter_append, List.map_append, ih, onN_succ]
    cases bitB x k <;> rfl
/-- How many were set. -/
def sumC (pre : List (Nat × Bool)) : Int := ((pre.filter fun y => y.2).length : Int)
theorem sumC_yes (pre : List (Nat × Bool)) (k : Nat) : sumC (pre ++ [(k, true)]) = sumC pre + 1 := by simp [sumC]
theorem sumC_no (pre : List (Nat × Bool)) (k : Nat) : sumC (pre ++ [(k, false)]) = sumC pre := by simp [sumC]
theorem sumC_b (pre : List (Nat × Bool)) : 0 ≤ sumC pre ∧ sumC pre ≤ pre.length := by
  have := List.length_filter_le (fun y : Nat × Bool => y.2) pre
  unfold sumC; omega
theorem sumC_all (x n : Int) : sumC (cameUpTo x (endN n)) = countV x n := by
  unfold sumC countV
  rw [← came_on, List.length_map]

set_option maxRecDepth 100000 in
set_option maxHeartbeats 2000000 in
theorem o_count (x n : Int) (n0 : -9223372036854775808 ≤ n) (n1 : n ≤ 9223372036854775807) (w : World) : Calls Try.prog 17 #[.int .i64 x, .int .i64 n] w (Gives w (.int .i64 (countV x n))) := by
  suffices H : CallsIn Fence.wide 3 Try.prog 17 #[.int .i64 x, .int .i64 n] w fun e W' => e = .returned (.int .i64 (countV x n)) ∧ Below w.heap.size w W' from
    (callsIn_wide (n := 3)).1 (H.mono fun e W' ⟨he, hb⟩ => ⟨he, more_of_below hb⟩)
  have he := endN_le n
  refine callsIn_of_wp_marks Try.func17 rfl trivial ?_ rfl
  simp only [Try.ntmps17, List.size_toArray, List.length_cons, List.length_nil, Nat.reduceAdd, Nat.reduceSub, Array.replicate_succ, Array.replicate_zero, List.push_toArray, List.append_toArray, List.nil_append, List.cons_append]
  gi_wp2_with (refine ⟨trivial, ?_⟩; gi_at_call 26; refine (bits_in _ x n _).mono ?_; rintro e w' ⟨rfl, rfl⟩)
  have bC := Boxed.new w 3 (.int .i64 0)
  have bX := Boxed.new (w.alloc (.cells #[.int .i64 0] 3)) 3 (.int .i64 x)
  have bN := Boxed.new ((w.alloc (.cells #[.int .i64 0] 3)).alloc (.cells #[.int .i64 x] 3)) 3 (.int .i64 n)
  simp only [World.size_alloc] at bX bN
  have hB0 : Below w.heap.size w (((w.alloc (.cells #[.int .i64 0] 3)).alloc (.cells #[.int .i64 x] 3)).alloc (.cells #[.int .i64 n] 3)) := (((Below.refl _ w).alloc (Nat.le_refl _) _).alloc (by simp) _).alloc (by simp; omega) _
  refine wpIn_rangeFunc_ownG rfl (by omega) (gf := 27) (lb := #[.pointer (some ⟨w.heap.size + 1 + 1, 0, none⟩), .pointer (some ⟨w.heap.size + 1, 0, none⟩)]) rfl trivial (enters_of Try.func27 (by kernel_rfl) rfl)
    (bits_stops 2 (by omega) (w.heap.size + 1 + 1) (w.heap.size + 1) x n n0 n1 _ bN.cell (bX.alloc _).cell) (fun h k => h.trans k) (keeps2_put (by simp) (by simp)) (Below.refl _ _) (fun _ => rfl)
    (fun pre W => (W.cell? ⟨w.heap.size, 0, none⟩ = some (.int .i64 (sumC pre)) ∧ W.frozen? ⟨w.heap.size, 0, none⟩ = false) ∧ Below w.heap.size w W)
    (fun _ _ _ => False)
    (OwnFrom.and (Own.from (fun s A B row hs hg hr => ⟨cell_kept hs.1 hg hr, (frozen_kept hs.1 hg hr).trans hs.2⟩) _) (ownFrom_below (Nat.le_refl _) (by simp; omega)))
    (fun _ _ _ _ _ hs _ _ => hs)
    ⟨⟨((bC.alloc _).alloc _).cell, ((bC.alloc _).alloc _).frozen⟩, hB0⟩
    (fun y => { tmps := #[.int .i64 x, .int .i64 n, undef, undef, .int .i64 0, .pointer (some ⟨w.heap.size, 0, none⟩), undef, .bool y.2, .int .i64 x, .int .i64 n, .func (.func 27) #[] #[.pointer (some ⟨w.heap.size + 1 + 1, 0, none⟩), .pointer (some ⟨w.heap.size + 1, 0, none⟩)], .int .i64 (y.1 : Int), .bool y.2, undef, undef, undef, undef], defers := [] }) ?assign ?body ?done ?stop
  case assign =>
    intro l y W K hK
    gi_wp2
    exact hK
  case body =>
    rintro l pre ⟨j, b⟩ W ⟨⟨hc, hf⟩, hB⟩ hlt
    obtain ⟨s0, s1⟩ := sumC_b pre
    cases b with
    | false =>
      gi_wp2
      exact ⟨KeepsFrom.refl _ _, Keeps2.refl _ _ _, ⟨by rw [sumC_no]; exact hc, hf⟩, hB⟩
    | true =>
      have HS := Lib.hid (sumC_yes pre j)
      generalize sumC pre = S at hc s0 s1 HS
      gi_wp2
      exact ⟨(KeepsOthers.setCell _ _ _).from _, Keeps2.setCell _ _ (by omega) (by omega), ⟨by rw [HS.out]; exact World.cell?_setCell_same' _ _ _ (by rw [hc]; rfl), by rw [World.frozen?_setCell]; exact hf⟩, hB.setCell (p := ⟨w.heap.size, 0, none⟩) (Nat.le_refl _) _⟩
  case done =>
    rintro D ys W hD rfl ⟨⟨hc, _⟩, hB⟩ hK
    rw [sumC_all] at hc
    gi_wp2
    refine ⟨by simp, .inl ⟨_, _, rfl, run_takeDeferred hK, ?_⟩⟩
    exact ⟨_, results_tmp rfl _ _ _, rfl, hB.trans (belowK_b (w := w) (Nat.le_refl _) W D _ _ (by simp at hD; omega) hK rfl rfl)⟩
  case stop =>
    rintro D c pre W _ _ h _
    exact h.elim

/-- All were set: so none is 0. -/
theorem first_none {x n : Int} (h : ∀ p ∈ cameUpTo x (endN n), p.2 = true) : firstV x n = -1 :=
  offN_none fun i hi => h (i, bitB x i) (by simp only [cameUpTo, List.mem_map, List.mem_range]; exact ⟨i, hi, rfl⟩)
/-- The last one was not set, all others were. -/
theorem first_some {x n : Int} {k : Nat} (hk : k ≤ endN n) {ini : List (Nat × Bool)} {last : Nat × Bool} (e : cameUpTo x k = ini ++ [last]) (h : ∀ p ∈ ini, p.2 = true) (hl : last.2 = false) : firstV x n = (last.1 : Int) := by
  obtain ⟨k', rfl⟩ : ∃ k', k = k' + 1 := by
    cases k with
    | zero => simp [cameUpTo] at e
    | succ k' => exact ⟨k', rfl⟩
  rw [came_succ] at e
  obtain ⟨e1, e2⟩ := List.append_inj' e rfl
  have e3 : (k', bitB x k') = last := by simpa using e2
  subst e1 e3
  exact offN_some (by omega) hl fun i hi => h (i, bitB x i) (by simp only [cameUpTo, List.mem_map, List.mem_range]; exact ⟨i, hi, rfl⟩)

set_option maxRecDepth 100000 in
set_option maxHeartbeats 2000000 in
theorem o_first (x n : Int) (n0 : -9223372036854775808 ≤ n) (n1 : n ≤ 9223372036854775807) (w : World) : Calls Try.prog 15 #[.int .i64 x, .int .i64 n] w (Gives w (.int .i64 (firstV x n))) := by
  suffices H : CallsIn Fence.wide 3 Try.prog 15 #[.int .i64 x, .int .i64 n] w fun e W' => e = .returned (.int .i64 (firstV x n)) ∧ Below w.heap.size w W' from
    (callsIn_wide (n := 3)).1 (H.mono fun e W' ⟨he, hb⟩ => ⟨he, more_of_below hb⟩)
  refine callsIn_of_wp_marks Try.func15 rfl trivial ?_ rfl
  simp only [Try.ntmps15, List.size_toArray, List.length_cons, List.length_nil, Nat.reduceAdd, Nat.reduceSub, Array.replicate_succ, Array.replicate_zero, List.push_toArray, List.append_toArray, List.nil_append, List.cons_append]
  gi_wp2_with (refine ⟨trivial, ?_⟩; gi_at_call 26; refine (bits_in _ x n _).mono ?_; rintro e w' ⟨rfl, rfl⟩)
  have bC := Boxed.new w 3 (.int .i64 0)
  have bX := Boxed.new (w.alloc (.cells #[.int .i64 0] 3)) 3 (.int .i64 x)
  have bN := Boxed.new ((w.alloc (.cells #[.int .i64 0] 3)).alloc (.cells #[.int .i64 x] 3)) 3 (.int .i64 n)
  simp only [World.size_alloc] at bX bN
  have hB0 : Below w.heap.size w (((w.alloc (.cells #[.int .i64 0] 3)).alloc (.cells #[.int .i64 x] 3)).alloc (.cells #[.int .i64 n] 3)) := (((Below.refl _ w).alloc (Nat.le_refl _) _).alloc (by simp) _).alloc (by simp; omega) _
  refine wpIn_rangeFunc_ownG rfl (by omega) (gf := 27) (lb := #[.pointer (some ⟨w.heap.size + 1 + 1, 0, none⟩), .pointer (some ⟨w.heap.size + 1, 0, none⟩)]) rfl trivial (enters_of Try.func27 (by kernel_rfl) rfl)
    (bits_stops 2 (by omega) (w.heap.size + 1 + 1) (w.heap.size + 1) x n n0 n1 _ bN.cell (bX.alloc _).cell) (fun h k => h.trans k) (keeps2_put (by simp) (by simp)) (Below.refl _ _) (fun _ => rfl)
    (fun pre W => ((∀ p ∈ pre, p.2 = true) ∧ W.cell? ⟨w.heap.size, 0, none⟩ = some (.int .i64 0) ∧ W.frozen? ⟨w.heap.size, 0, none⟩ = false) ∧ Below w.heap.size w W)
    (fun c pre W => (c = .ret ∧ ∃ ini last, pre = ini ++ [last] ∧ (∀ p ∈ ini, p.2 = true) ∧ last.2 = false ∧ W.cell? ⟨w.heap.size, 0, none⟩ = some (.int .i64 (last.1 : Int))) ∧ Below w.heap.size w W)
    (OwnFrom.and (Own.from (fun s A B row hs hg hr => ⟨hs.1, cell_kept hs.2.1 hg hr, (frozen_kept hs.2.1 hg hr).trans hs.2.2⟩) _) (ownFrom_below (Nat.le_refl _) (by simp; omega)))
    (fun c => OwnFrom.and (Own.from (fun s A B row hs hg hr => by obtain ⟨hc, ini, last, e1, e2, e3, e4⟩ := hs; exact ⟨hc, ini, last, e1, e2, e3, cell_kept e4 hg hr⟩) _) (ownFrom_below (Nat.le_refl _) (by simp; omega)))
    ⟨⟨by simp, ((bC.alloc _).alloc _).cell, ((bC.alloc _).alloc _).frozen⟩, hB0⟩
    (fun y => { tmps := #[.int .i64 x, .int .i64 n, undef, undef, .pointer (some ⟨w.heap.size, 0, none⟩), .int .i64 (y.1 : Int), .bool y.2, .int .i64 x, .int .i64 n, .func (.func 27) #[] #[.pointer (some ⟨w.heap.size + 1 + 1, 0, none⟩), .pointer (some ⟨w.heap.size + 1, 0, none⟩)], .int .i64 (y.1 : Int), .bool y.2, undef, undef, undef], defers := [] }) ?assign ?body ?done ?stop
  case assign =>
    intro l y W K hK
    gi_wp2
    exact hK
  case body =>
    rintro l pre ⟨j, b⟩ W ⟨⟨hp, hcr, hfr⟩, hB⟩ hlt
    have HP := Lib.hid hp
    clear hp
    cases b with
    | false =>
      gi_wp2
      exact ⟨(KeepsOthers.setCell _ _ _).from _, ⟨rfl, pre, (j, false), rfl, HP.out, rfl, World.cell?_setCell_same' _ _ _ (by rw [hcr]; rfl)⟩, hB.setCell (p := ⟨w.heap.size, 0, none⟩) (Nat.le_refl _) _⟩
    | true =>
      gi_wp2
      exact ⟨KeepsFrom.refl _ _, Keeps2.refl _ _ _, ⟨fun p hp' => (List.mem_append.1 hp').elim (HP.out p) (fun e => by simp at e; subst e; rfl), hcr, hfr⟩, hB⟩
  case done =>
    rintro D ys W hD rfl ⟨⟨hne, hcr, hfr⟩, hB⟩ hK
    have HF := Lib.hid (first_none hne)
    clear hne
    gi_wp2
    have hK' := (KeepsOthers.setCell W ⟨w.heap.size, 0, none⟩ (.int .i64 (-1))).same D _ hK rfl
    refine ⟨by simp, .inl ⟨_, _, rfl, run_takeDeferred hK', ?_⟩⟩
    have hc5 := cell_kept (World.cell?_setCell_same' W ⟨w.heap.size, 0, none⟩ (.int .i64 (-1)) (by rw [hcr]; rfl)) (grownBy_putObj' _ D (.deferred none)) (fun r e => by cases e; exact ⟨_, hK', rfl⟩)
    refine ⟨.int .i64 (-1), ?_, by rw [HF.out], (hB.setCell (p := ⟨w.heap.size, 0, none⟩) (Nat.le_refl _) _).trans (belowK_b (w := w) (Nat.le_refl _) _ D _ _ (by simp at hD; omega) hK' rfl rfl)⟩
    simp [results, Try.f15, go_sem, hc5]
  case stop =>
    rintro D c pre W hD ⟨k, hk, rfl⟩ ⟨⟨rfl, ini, last, e1, e2, e3, hcr⟩, hB⟩ hK
    have HF := Lib.hid (first_some hk e1 e2 e3)
    clear e1 e2 e3
    gi_wp2
    refine ⟨by simp, .inl ⟨_, _, rfl, run_takeDeferred hK, ?_⟩⟩
    have hc5 := cell_kept hcr (grownBy_putObj' _ D (.deferred none)) (fun r e => by cases e; exact ⟨_, hK, rfl⟩)
    refine ⟨.int .i64 (last.1 : Int), ?_, by rw [HF.out], hB.trans (belowK_b (w := w) (Nat.le_refl _) W D _ _ (by simp at hD; omega) hK rfl rfl)⟩
    simp [results, Try.f15, go_sem, hc5]

/-- The bits that were set. -/
def pickI (pre : List (Nat × Bool)) : List Int := (pre.filter fun y => y.2).map fun y => (y.1 : Int)
theorem pickI_yes (pre : List (Nat × Bool)) (k : Nat) : pickI (pre ++ [(k, true)]) = pickI pre ++ [(k : Int)] := by simp [pickI]
theorem pickI_no (pre : List (Nat × Bool)) (k : Nat) : pickI (pre ++ [(k, false)]) = pickI pre := by simp [pickI]
theorem pickI_le (pre : List (Nat × Bool)) : (pickI pre).length ≤ pre.length := by
  unfold pickI; rw [List.length_map]; exact List.length_filter_le _ _
theorem pickI_all (x n : Int) : pickI (cameUpTo x (endN n)) = listV x n := by
  unfold pickI listV
  rw [← came_on, List.map_map]; rfl

set_option maxRecDepth 100000 in
set_option maxHeartbeats 2000000 in
theorem o_list (x n : Int) (n0 : -9223372036854775808 ≤ n) (n1 : n ≤ 9223372036854775807) (w : World) : Calls Try.prog 19 #[.int .i64 x, .int .i64 n] w (GaveInts w (listV x n)) := by
  suffices H : CallsIn Fence.wide 3 Try.prog 19 #[.int .i64 x, .int .i64 n] w fun e W' => ∃ v, e = .returned v ∧ Rw w.heap.size W' v (listV x n) ∧ Below w.heap.size w W' from
    (callsIn_wide (n := 3)).1 (H.mono fun e W' ⟨v, he, hr, hb⟩ => ⟨v, he, hr, more_of_below hb⟩)
  obtain ⟨i0, hi, hz0, hz1, hz2⟩ := int_info
  have he := endN_le n
  refine callsIn_of_wp_marks Try.func19 rfl trivial ?_ rfl
  simp only [Try.ntmps19, List.size_toArray, List.length_cons, List.length_nil, Nat.reduceAdd, Nat.reduceSub, Array.replicate_succ, Array.replicate_zero, List.push_toArray, List.append_toArray, List.nil_append, List.cons_append]
  gi_wp2_with (refine ⟨trivial, ?_⟩; gi_at_call 26; refine (bits_in _ x n _).mono ?_; rintro e w' ⟨rfl, rfl⟩)
  have bC := Boxed.new w 25 (.slice none 0 0)
  have bX := Boxed.new (w.alloc (.cells #[.slice none 0 0] 25)) 3 (.int .i64 x)
  have bN := Boxed.new ((w.alloc (.cells #[.slice none 0 0] 25)).alloc (.cells #[.int .i64 x] 3)) 3 (.int .i64 n)
  simp only [World.size_alloc] at bX bN
  have hB0 : Below w.heap.size w (((w.alloc (.cells #[.slice none 0 0] 25)).alloc (.cells #[.int .i64 x] 3)).alloc (.cells #[.int .i64 n] 3)) := (((Below.refl _ w).alloc (Nat.le_refl _) _).alloc (by simp) _).alloc (by simp; omega) _
  refine wpIn_rangeFunc_ownG rfl (by omega) (gf := 27) (lb := #[.pointer (some ⟨w.heap.size + 1 + 1, 0, none⟩), .pointer (some ⟨w.heap.size + 1, 0, none⟩)]) rfl trivial (enters_of Try.func27 (by kernel_rfl) rfl)
    (bits_stops 2 (by omega) (w.heap.size + 1 + 1) (w.heap.size + 1) x n n0 n1 _ bN.cell (bX.alloc _).cell) (fun h k => h.trans k) (keeps2_put (by simp) (by simp)) (Below.refl _ _) (fun _ => rfl)
    (fun pre W => ((∃ v, Boxed W w.heap.size 25 v ∧ W.ownsRow (w.heap.size + 3) 3 1 v (pickI pre).length ((pickI pre).map (Value.int .i64)) ∧ True) ∧ w.heap.size + 3 ≤ W.heap.size) ∧ Below w.heap.size w W)
    (fun _ _ _ => False)
    (OwnFrom.and (OwnFrom.and (Own.from (holdsRow_own (w.heap.size + 3) w.heap.size 25 3 1 (fun pre => (pickI pre).length) (fun pre => (pickI pre).map (Value.int .i64)) (fun _ _ => True)) _) (Own.from (fun s A B row hs hg hr => Nat.le_trans hs hg.size) _)) (ownFrom_below (Nat.le_refl _) (by simp; omega)))
    (fun _ _ _ _ _ hs _ _ => hs)
    ⟨⟨⟨_, (bC.alloc _).alloc _, World.ownsRow_nil _ _ _ _, trivial⟩, by simp⟩, hB0⟩
    (fun y => { tmps := #[.int .i64 x, .int .i64 n, undef, undef, .slice none 0 0, .pointer (some ⟨w.heap.size, 0, none⟩), .int .i64 (y.1 : Int), .bool y.2, .int .i64 x, .int .i64 n, .func (.func 27) #[] #[.pointer (some ⟨w.heap.size + 1 + 1, 0, none⟩), .pointer (some ⟨w.heap.size + 1, 0, none⟩)], .int .i64 (y.1 : Int), .bool y.2, undef, undef, undef, undef, undef, undef], defers := [] }) ?assign ?body ?done ?stop
  case assign =>
    intro l y W K hK
    gi_wp2
    exact hK
  case body =>
    rintro l pre ⟨j, b⟩ W ⟨⟨⟨v, hv, hrow, _⟩, hz⟩, hB⟩ hlt
    have hc := hv.cell
    have hpl := pickI_le pre
    cases b with
    | false =>
      have HS := Lib.hid (pickI_no pre j)
      gi_wp2
      exact ⟨KeepsFrom.refl _ _, Keeps2.refl _ _ _, ⟨⟨v, hv, by rw [HS.out]; exact hrow, trivial⟩, hz⟩, hB⟩
    | true =>
      have HS := Lib.hid (pickI_yes pre j)
      gi_wp2_with (gi_at_builtin; refine wpListIn_append_own _ rfl _ _ 25 rfl (w.heap.size + 3) 3 i0 (.int .i64 0) 1 8 Try.underlying25 hi hz0 hz1 hz2 rfl (by decide) _ _ _ rfl (hrow.alloc _) ⟨W.heap.size, 0, none⟩ 1 1 [.int .i64 (j : Int)] rfl rfl (cell_one_new _ _ _) (by simp [Value.oneCell']) (by simp only [maxLen]; omega) (by omega) (by simp; omega) ?_; intro v' w1 hown' hgrow _; obtain ⟨g', cap', rfl⟩ := ownsRow_succ hown'; obtain ⟨hv1, hv2, hr2, hk2, hb2⟩ := hv.appended (by decide) (ownsRow_low hrow (show w.heap.size ≤ w.heap.size + 3 by omega)) hB.size (Nat.le_refl _) (ownsRow_low hown' (show w.heap.size ≤ w.heap.size + 3 by omega)) hgrow; have hc1 := hv1.cell; have hf1 := hv1.frozen)
      have hr3 := World.ownsRow.kept hown' (grownBy_setCell' w1 w.heap.size (.slice (some ⟨g', 0, none⟩) ((pickI pre).length + 1) cap')) (.inr (hv1.not_row (by decide) hown').symm)
      have hnb : ∀ b, b < w.heap.size + 3 → some b ≠ v.ownBlock := by
        intro b hb
        rcases hrow.2 with ⟨rfl, _⟩ | ⟨g, cap, cur, rfl, hg, _⟩
        · simp [Value.ownBlock]
        · simp only [Value.ownBlock, ne_eq, Option.some.injEq]; omega
      have hkk : ∀ b, b < w.heap.size + 3 → b ≠ w.heap.size → (w1.setCell ⟨w.heap.size, 0, none⟩ (.slice (some ⟨g', 0, none⟩) ((pickI pre).length + 1) cap')).heap[b]? = W.heap[b]? := fun b hb hne => by
        rw [Below.heap_setCell _ _ _ _ hne, hgrow.block b (by simp; omega) (hnb b hb), Below.heap_alloc _ _ _ (by omega)]
      exact ⟨hk2.from _, ⟨hkk _ (by omega) (by omega), hkk _ (by omega) (by omega)⟩, ⟨⟨_, hv2, by rw [HS.out]; simpa using hr3, trivial⟩, Nat.le_trans hz hb2.size⟩, hB.trans hb2⟩
  case done =>
    rintro D ys W hD rfl ⟨⟨⟨v, hv, hrow, _⟩, _⟩, hB⟩ hK
    have hc := hv.cell
    gi_wp2
    refine ⟨by simp, .inl ⟨_, _, rfl, run_takeDeferred hK, ?_⟩⟩
    exact ⟨_, results_tmp rfl _ _ _, v, rfl, by rw [← pickI_all]; exact ownsRow_putObj (ownsRow_low hrow (by omega)) _ hK rfl, hB.trans (belowK_b (w := w) (Nat.le_refl _) W D _ _ (by simp at hD; omega) hK rfl rfl)⟩
  case stop =>
    rintro D c pre W _ _ h _
    exact h.elim

end Go.Proofs.Ytceneldblfdeaaa
