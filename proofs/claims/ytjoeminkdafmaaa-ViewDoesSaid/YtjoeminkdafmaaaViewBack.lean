/-
  The library's Backward over a slice of pairs, under contract: a function to range over.
-/
import Derived.Test.YtjoeminkdafmaaaViewRun
import Derived.RangeFuncBox
import Derived.RangeFuncLeaves
import Derived.RangeFuncCalls
import Derived.Shelf.Abstract
import Derived.OwnWalkIn
import Derived.TacticsInMore
import Derived.LoopNIn
import Derived.LoopIn
namespace Go.Proofs.Ytjoeminkdafmaaa
open Go.RowKit Go.Sort Go.Maps Go.Shelf
set_option linter.unusedVariables false
set_option linter.unusedSimpArgs false
attribute [local go_sem] Oper.semAt_some

theorem more_of_below {w w' : World} (h : Below w.heap.size w w') : More w w' := ⟨h.1, h.2, h.3, h.4, fun k hk _ => h.5 k hk⟩

/-- Two blocks lie as they lay. -/
def Keeps2 (a b : Nat) (w w' : World) : Prop := w'.heap[a]? = w.heap[a]? ∧ w'.heap[b]? = w.heap[b]?
theorem Keeps2.refl (a b : Nat) (w : World) : Keeps2 a b w w := ⟨rfl, rfl⟩
theorem Keeps2.trans {a b : Nat} {w w' w'' : World} (h : Keeps2 a b w w') (k : Keeps2 a b w' w'') : Keeps2 a b w w'' := ⟨k.1.trans h.1, k.2.trans h.2⟩
theorem Keeps2.cell1 {a b o : Nat} {w w' : World} {v : Value} (h : Keeps2 a b w w') (hc : w.cell? ⟨a, o, none⟩ = some v) : w'.cell? ⟨a, o, none⟩ = some v := by
  rw [World.cell?_of_block (w := w) h.1]; exact hc
theorem Keeps2.cell2 {a b o : Nat} {w w' : World} {v : Value} (h : Keeps2 a b w w') (hc : w.cell? ⟨b, o, none⟩ = some v) : w'.cell? ⟨b, o, none⟩ = some v := by
  rw [World.cell?_of_block (w := w) h.2]; exact hc
theorem keeps2_put {a b n : Nat} (ha : a < n) (hb : b < n) (W : World) (l : Nat) (o o' : Obj) (hl : n ≤ l) (h : W.heap[l]? = some o) (_ : o.isCells = false) (_ : o.isWalk = false) : Keeps2 a b W (W.putObj l o') :=
  ⟨World.putObj_heap_other (by omega), World.putObj_heap_other (by omega)⟩

/-- What has come when k rounds are over: the last places first. -/
def cameBack (n k : Nat) : List Nat := (List.range k).map fun j => n - 1 - j
theorem cameBack_succ (n k : Nat) : cameBack n (k + 1) = cameBack n k ++ [n - 1 - k] := by simp [cameBack, List.range_succ]
theorem cameBack_length (n k : Nat) : (cameBack n k).length = k := by simp [cameBack]
/-- The pair at a place. -/
def pairAt (l : List KV) (i : Nat) : KV := l.getD i (0, 0)
def backEnc (l : List KV) (i : Nat) : Array Value := #[.int .i64 (i : Int), .agg #[.int .i64 (pairAt l i).1, .int .i64 (pairAt l i).2]]

set_option maxRecDepth 100000 in
set_option maxHeartbeats 2000000 in
theorem back1_in (n : Nat) (hn : 1 ≤ n) (l bs g : Nat) (a : Option Addr) (cap : Nat) (ps : List KV) (hlen : ps.length ≤ 1000000) (hg : ps ≠ [] → ∀ k, leads a k → k = g) (J Jx : List Nat → World → Prop)
    (hY : ∀ pre y W, J pre W → pre.length < ps.length → YieldAt Fence.wide (n - 1) Try.prog l (backEnc ps y) W fun e W' =>
      (e = .returned (.bool true) ∧ J (pre ++ [y]) W' ∧ Keeps2 bs g W W') ∨ (e = .returned (.bool false) ∧ Jx (pre ++ [y]) W'))
    (W : World) (hbs : W.cell? ⟨bs, 0, none⟩ = some (.slice a ps.length cap)) (hps : IsPairs W a ps) (h0 : J [] W) :
    CallsIn Fence.wide n Try.prog 40 #[.func (.yield l) #[] #[], .pointer (some ⟨bs, 0, none⟩)] W fun e W' => (∃ v, e = .returned v) ∧
      ((∃ ys, ys = cameBack ps.length ps.length ∧ J ys W') ∨ (∃ pre, (∃ k, k ≤ ps.length ∧ pre = cameBack ps.length k) ∧ Jx pre W')) := by
  have HPS := Lib.hid hps
  clear hps
  refine callsIn_of_wp Try.func40 rfl trivial ?_ rfl
  simp only [Try.ntmps40, List.size_toArray, List.length_cons, List.length_nil, Nat.reduceAdd, Nat.reduceSub, Array.replicate_succ, Array.replicate_zero, List.push_toArray, List.append_toArray, List.nil_append, List.cons_append]
  gi_wp2
  gi_loopw [3] (fun i wr => ∃ m : Nat, m ≤ ps.length ∧ i = .int .i64 ((m : Int) - 1) ∧ J (cameBack ps.length (ps.length - m)) wr ∧ Keeps2 bs g W wr) (fun i _ => (intOf i + 1).toNat)
  case atStart => exact ⟨ps.length, Nat.le_refl _, rfl, by rw [Nat.sub_self]; exact h0, Keeps2.refl _ _ _⟩
  case round =>
    obtain ⟨m, hm, rfl, hJs, hnx⟩ := hrel
    cases m with
    | zero =>
      gi_wp2
      go_end0
      exact ⟨⟨_, rfl⟩, .inl ⟨_, rfl, hJs⟩⟩
    | succ j =>
      have e : (((j + 1 : Nat)) : Int) - 1 = (j : Int) := by omega
      rw [e]
      obtain ⟨s, o, rfl, hs, hc⟩ := HPS.out.resolve_left (by intro q; rw [q] at hm; simp at hm)
      obtain rfl : s = g := hg (by intro q; rw [q] at hm; simp at hm) s rfl
      have hpj : ps[j]? = some (pairAt ps j) := by unfold pairAt; rw [List.getElem?_eq_getElem (by omega)]; simp [List.getD, show j < ps.length by omega]
      obtain ⟨c0, c1⟩ := hc j _ hpj
      have d0 := hnx.cell2 c0
      have d1 := hnx.cell2 c1
      have db := hnx.cell1 hbs
      have hs' := lt_of_cell d0
      obtain ⟨fn, tmps, assign, body, hy, hR⟩ := hY _ j wr hJs (by rw [cameBack_length]; omega)
      unfold backEnc at hy
      generalize pairAt ps j = p at d0 d1 hy
      clear hc c0 c1 hpj
      have CB := Lib.hid (show cameBack ps.length (ps.length - j) = cameBack ps.length (ps.length - (j + 1)) ++ [j] by
        rw [show ps.length - j = (ps.length - (j + 1)) + 1 by omega, cameBack_succ]; congr 2; omega)
      gi_wp2
      refine hR.mono ?_
      rintro e W3 (⟨rfl, hJ3, hk3⟩ | ⟨rfl, hJx3⟩)
      · gi_wp2
        go_roundw
        case rel => exact ⟨j, by omega, rfl, by rw [CB.out]; exact hJ3, hnx.trans hk3⟩
        case measure => simp [intOf]
      · gi_wp2
        refine bodyPost_ret (results_none rfl _ _ _) rfl ?_
        exact ⟨⟨_, rfl⟩, .inr ⟨_, ⟨ps.length - j, by omega, CB.out.symm⟩, hJx3⟩⟩

set_option maxHeartbeats 1000000 in
theorem back_in (n : Nat) (a : Option Addr) (len cap : Nat) (w : World) :
    CallsIn Fence.wide n Try.prog 32 #[.slice a len cap] w fun e w' => e = .returned (.func (.func 40) #[] #[.pointer (some ⟨w.heap.size, 0, none⟩)]) ∧ w' = w.alloc (.cells #[.slice a len cap] 22) := by
  refine callsIn_of_wp Try.func32 rfl trivial ?_ rfl
  simp only [Try.ntmps32, List.size_toArray, List.length_cons, List.length_nil, Nat.reduceAdd, Nat.reduceSub, Array.replicate_succ, Array.replicate_zero, List.push_toArray, List.append_toArray, List.nil_append, List.cons_append]
  gi_wp2
  go_ret
  exact ⟨rfl, rfl⟩

theorem back_stops (n : Nat) (hn : 1 ≤ n) (bs g : Nat) (a : Option Addr) (cap : Nat) (ps : List KV) (hlen : ps.length ≤ 1000000) (hg : ps ≠ [] → ∀ k, leads a k → k = g) (w : World) (hbs : w.cell? ⟨bs, 0, none⟩ = some (.slice a ps.length cap)) (hps : IsPairs w a ps) :
    SeqStopsK Fence.wide n Try.prog 40 #[.pointer (some ⟨bs, 0, none⟩)] (backEnc ps) (Keeps2 bs g) (fun ys => ys = cameBack ps.length ps.length)
      (fun pre => ∃ k, k ≤ ps.length ∧ pre = cameBack ps.length k) ps.length w := fun l J Jx W hW _ _ hY h0 =>
  back1_in n hn l bs g a cap ps hlen hg J Jx hY W ((hW.cell (p := ⟨bs, 0, none⟩) (lt_of_cell hbs)).trans hbs) (hps.more (more_of_below hW)) h0
end Go.Proofs.Ytjoeminkdafmaaa
