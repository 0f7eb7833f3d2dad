/-
  The example that the statements end with.
-/
import Derived.Test.YtogfikemodaepaaGreatChunkStart
namespace Go.Proofs.YtogfikemodaepaaGreat
open Go.RowKit Go.Sort Go.Maps Go.Shelf
set_option linter.unusedVariables false
set_option linter.unusedSimpArgs false

def BoxI (g : Nat) (w : World) : Prop := ∃ z : Int, w.heap[g]? = some (.cells #[.int .i64 z] 3 (0, 0))
theorem setCell_one {W : World} {g : Nat} {v : Value} {t : TypeId} (h : W.heap[g]? = some (.cells #[v] t (0, 0))) (z : Value) : (W.setCell ⟨g, 0, none⟩ z).heap[g]? = some (.cells #[z] t (0, 0)) := by
  have := heap_setCell (o := 0) z h
  simpa using this

/-- The statements' example. -/
def liveS : Cfg := ⟨withinV 0 1 64, withinV 0 1 8, withinV 4 1 256, withinV 0 1 64, withinV 0 0 16, withinV 0 0 64, withinV 0 1 1099511627776, withinV 0 1 8, withinV 0 0 8, withinV 0 0 16, withinV 0 1 8⟩
def live4 : Cfg := smallC liveS
def live5 : Cfg := ⟨2, 2, 5, 2, 0, 0, 1, 2, 0, 0, 2⟩
theorem liveS_ok : liveS.Ok := some_ok 0 0 4 0 0 0 0 0 0 0 0
theorem live4_is : live4 = ⟨2, 2, 6, 2, 0, 0, 1, 2, 0, 0, 2⟩ := by rfl
theorem live5_ok : live5.Ok := by constructor <;> decide
theorem live5_words : live5.words = (544 : Nat) := by decide
theorem live5_tbl : TblIn live5.pg live5.st 544 := by constructor <;> decide
theorem live5_one : tblV live5.pg live5.st 1 = 6 := by decide
def liveD : List KV := [(5, 1), (6, 1)]
theorem okW_zeros (n : Nat) : OkW (zeros n) := fun x hx => by
  have := List.eq_of_mem_replicate hx
  subst this; unfold W64; omega
theorem live_run : ensureP live5.pg live5.st 3 2 (allK (zeros 544)) [] = .ok 5 liveD := by kernel_rfl
theorem live_ends : ∃ K', doP (fun K => ranOf (ensureP live5.pg live5.st 3 2 (look K) [])) (zeros 544) ((zeros 544).length + 1) [] = some (applyD (zeros 544) liveD, K') := by
  have H : TblIn live5.pg live5.st (zeros 544).length := by rw [zeros_len]; exact live5_tbl
  have G : Good (zeros 544).length (fun _ => True) (ensureP live5.pg live5.st 3 2) := by
    unfold ensureP
    rw [if_pos (by decide)]
    exact good_imp (good_ensureN H _ _ 0 (by omega)) (fun _ _ => trivial)
  obtain ⟨K', _, h⟩ := doP_run (sound_ensure _ _ _ _) G (okW_zeros 544) live_run ((zeros 544).length + 1) [] (okKn_nil _) (by simp)
  exact ⟨K', h⟩
theorem live_six : (applyD (zeros 544) liveD).getD 6 0 = 1 := by kernel_rfl
theorem live_len : (applyD (zeros 544) liveD).length = 544 := by rw [len_apply, zeros_len]

theorem rows2 (w : World) (x1 x2 y1 y2 : Array Value) (t1 t2 : TypeId) : ∃ W, (((w.alloc (.cells x1 t1)).alloc (.cells x2 t2)).setRow w.heap.size y1).setRow (w.heap.size + 1) y2 = W ∧
    ((w.alloc (.cells x1 t1)).alloc (.cells x2 t2)).heap[w.heap.size]? = some (.cells x1 t1 (0, 0)) ∧ (((w.alloc (.cells x1 t1)).alloc (.cells x2 t2)).setRow w.heap.size y1).heap[w.heap.size + 1]? = some (.cells x2 t2 (0, 0)) ∧
    W.heap[w.heap.size]? = some (.cells y1 t1 (0, 0)) ∧ More w W ∧ w.heap.size + 2 ≤ W.heap.size := by
  have h0 := row_new w x1 t1
  have s0 : (w.alloc (.cells x1 t1)).heap.size = w.heap.size + 1 := by simp
  have m0 : More w (w.alloc (.cells x1 t1)) := (More.refl _).alloc _
  generalize w.alloc (.cells x1 t1) = w1 at h0 s0 m0 ⊢
  have h1 := row_new w1 x2 t2
  rw [s0] at h1
  have s1 : (w1.alloc (.cells x2 t2)).heap.size = w.heap.size + 2 := by simp [s0]
  have m1 : More w1 (w1.alloc (.cells x2 t2)) := (More.refl _).alloc _
  generalize w1.alloc (.cells x2 t2) = w2 at h1 s1 m1 ⊢
  have a0 := m1.block h0
  refine ⟨_, rfl, a0, (setRow_other _ _ _ _ (by omega)).trans h1, (setRow_other _ _ _ _ (by omega)).trans (setRow_heap _ _ _ _ _ _ a0), ((m0.trans m1).setRow _ _ (by omega)).setRow _ _ (by omega), ?_⟩
  simp [s1]

theorem zeros_row (w : World) (g k : Nat) (h : w.heap[g]? = some (.cells (rowOf (zeros k)) 3 (0, 0))) : IsWords w (some ⟨g, 0, none⟩) (zeros k) :=
  .inr ⟨g, 0, rfl, lt_of_heap h, fun i hi => by
    rw [Nat.zero_add, cell_of_row w g i _ _ _ h]
    rw [zeros_len] at hi
    simp [rowOf, zeros, hi]⟩
theorem run_make_zeros (k : Nat) (hk : k ≤ 1000000) (w : World) :
    (Instr.makeSlice 31 (.int .i64 (k : Int)) (.int .i64 (k : Int))).run Tryz.prog w = .ok (.slice (some ⟨w.heap.size, 0, none⟩) k k) (w.alloc (.cells (rowOf (zeros k)) 3)) := by
  obtain ⟨i, hi, hz, hs, hb⟩ := int_info
  have := run_make (P := Tryz.prog) w 31 3 i (.int .i64 0) Tryz.underlying31 hi hz .i64 .i64 k k (by omega) (by omega) (by rw [hb]; omega) (by omega)
  rw [this]
  simp only [Int.toNat_natCast, hs, Nat.mul_one]
  have e : madeCells (Value.int .i64 0).cells k = rowOf (zeros k) := by
    apply Array.ext
    · simp [size_madeCells, rowOf, zeros]
    · intro j h1 h2
      simp [madeCells, rowOf, zeros, Value.cells, Nat.mod_one]
  rw [e]

end Go.Proofs.YtogfikemodaepaaGreat
