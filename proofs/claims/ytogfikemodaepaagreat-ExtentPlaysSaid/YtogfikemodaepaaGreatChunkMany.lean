/-
  The landed package chunk: Covers, Ensure and Count.
-/
import Derived.Test.YtogfikemodaepaaGreatChunkSeq
import Derived.Test.YtogfikemodaepaaGreatViewLoop
namespace Go.Proofs.YtogfikemodaepaaGreat
open Go.RowKit Go.Sort Go.Maps Go.Shelf
set_option linter.unusedVariables false
set_option linter.unusedSimpArgs false
attribute [local go_sem] Oper.semAt_some

theorem entry3 (w : World) (o0 o1 o2 : Obj) : ∃ w3, ((w.alloc o0).alloc o1).alloc o2 = w3 ∧ w3.heap[w.heap.size]? = some o0 ∧ w3.heap[w.heap.size + 1]? = some o1 ∧ w3.heap[w.heap.size + 2]? = some o2 ∧ More w w3 ∧ w3.heap.size = w.heap.size + 3 := by
  have h0 := heap_new w o0
  have s0 : (w.alloc o0).heap.size = w.heap.size + 1 := by simp
  have m0 : More w (w.alloc o0) := (More.refl _).alloc _
  generalize w.alloc o0 = w1 at h0 s0 m0 ⊢
  have h1 := heap_new w1 o1
  rw [s0] at h1
  have s1 : (w1.alloc o1).heap.size = w.heap.size + 2 := by simp [s0]
  have m1 : More w1 (w1.alloc o1) := (More.refl _).alloc _
  generalize w1.alloc o1 = w2 at h1 s1 m1 ⊢
  have h2 := heap_new w2 o2
  rw [s1] at h2
  have m2 : More w2 (w2.alloc o2) := (More.refl _).alloc _
  exact ⟨_, rfl, m2.block (m1.block h0), m2.block h1, h2, (m0.trans m1).trans m2, by simp [s1]⟩
def chkZero : Array Value := #[.int .i64 0, .int .i64 0, .int .i64 0, .int .i64 0, .int .i64 0, .int .i64 0, .int .i64 0, .int .i64 0, .int .i64 0, .int .i64 0, .int .i64 0, .int .i64 0, .int .i64 0, .int .i64 0, .int .i64 0, .int .i64 0, .int .i64 0, .int .i64 0, .int .i64 0, .int .i64 0, .int .i64 0, .int .i64 0, .int .i64 0, .int .i64 0, .int .i64 0]
theorem chk_one (c : Cfg) (k : Int) : (chkArr c k).all (·.oneCell') = true := by
  unfold chkArr
  rw [Array.all_push]
  have : c.arr.all (·.oneCell') = true := layArr_one ..
  rw [this]; rfl
theorem chk_size (c : Cfg) (k : Int) : (chkArr c k).size = 25 := by rfl
/-- A loop's variable is boxed. -/
theorem chk_boxed (W : World) (c : Cfg) (k : Int) : ((W.alloc (.cells chkZero 98)).setRow W.heap.size (chkArr c k)).heap[W.heap.size]? = some (.cells (chkArr c k) 98 (0, 0)) ∧ More W ((W.alloc (.cells chkZero 98)).setRow W.heap.size (chkArr c k)) :=
  ⟨setRow_heap _ _ _ _ _ _ (heap_new W _), ((More.refl W).alloc _).setRow _ _ (Nat.le_refl _)⟩

theorem same_more {S : Nat → Prop} {W W' : World} (m : More W W') (hS : ∀ k, S k → k < W.heap.size) : SameOn S W W' := SameOn.turned m hS (fun _ _ q => q)

end Go.Proofs.YtogfikemodaepaaGreat
