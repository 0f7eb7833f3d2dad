/-
  Contracts of package arena's New, Len, Count, Words, Copy.
-/
import Derived.Test.YtgkibbblmfmdnaaAccess
import Derived.Laws.CopyOwn
import Derived.Deep.RegionWith
namespace Go.Proofs.Ytgkibbblmfmdnaa
open Go.RowKit
set_option linter.unusedVariables false
set_option linter.unusedSimpArgs false

theorem info_int : (Try.prog.info? 3).map (fun i => (i.zero, i.size, i.bytes)) = some (some (.int .i64 0), 1, 8) := by kernel_rfl

theorem run_make_words (k : Nat) (hk : k ≤ 1048576) (w : World) :
    (Instr.makeSlice 36 (.int .i64 (k : Int)) (.int .i64 (k : Int))).run Try.prog w = .ok (.slice (some ⟨w.heap.size, 0, none⟩) k k) (w.alloc (.cells (rowOf (List.replicate k 0)) 3)) := by
  obtain ⟨i, hi, hz, hs, hb⟩ := info_parts info_int
  have := run_make (P := Try.prog) w 36 3 i (.int .i64 0) Try.underlying36 hi hz .i64 .i64 k k (by omega) (by omega) (by rw [hb]; omega) (by omega)
  rw [this]
  simp only [Int.toNat_natCast, hs, Nat.mul_one]
  have e : madeCells (Value.int .i64 0).cells k = rowOf (List.replicate k 0) := by
    apply Array.ext
    · simp [size_madeCells, rowOf]
    · intro j h1 h2
      simp [madeCells, rowOf, Value.cells, Nat.mod_one]
  rw [e]

theorem new_ok (k : Nat) (h1 : 1 ≤ k) (hk : k ≤ 1048576) (w : World) :
    Calls Try.prog 9 #[.int .i64 k] w (MadeArena 53 w (List.replicate k 0) 0 (fun p => .tuple #[p, .int .i64 0])) := by
  have hmk := run_make_words k hk
  have d1 : decide ((k : Int) < 1) = false := by simp; omega
  have d2 : decide ((1048576 : Int) < (k : Int)) = false := by simp; omega
  go_enter Try.func9, Try.ntmps9
  go_wp2
  go_ret2
  have ha := at_new (T := 53) w (List.replicate k 0) 0
  rw [List.length_replicate] at ha
  exact ⟨_, _, rfl, by omega, Nat.le_refl _, ha, ((Turned.refl _ w).alloc _).alloc _⟩

theorem new_no (n : Int) (h : n < 1 ∨ 1048576 < n) (w : World) :
    Calls Try.prog 9 #[.int .i64 n] w fun e w' => e = .returned (.tuple #[.pointer none, .int .i64 2]) ∧ w' = w := by
  by_cases q : n < 1
  · have d1 : decide (n < 1) = true := by simp; omega
    clear h
    go_enter Try.func9, Try.ntmps9
    go_wp2
    go_ret2
    exact ⟨rfl, rfl⟩
  · have d1 : decide (n < 1) = false := by simp; omega
    have d2 : decide ((1048576 : Int) < n) = true := by simp; omega
    clear h
    go_enter Try.func9, Try.ntmps9
    go_wp2
    go_ret2
    exact ⟨rfl, rfl⟩

theorem len_at (a b : Nat) (ws : List Int) (c : Int) (w : World) (h : At 53 w a b ws c) :
    Calls Try.prog 15 #[.pointer (some ⟨a, 0, none⟩)] w fun e w' => e = .returned (.int .i64 ws.length) ∧ w' = w := by
  have h0 := h.c0
  go_enter Try.func15, Try.ntmps15
  go_wp2
  go_ret
  exact ⟨rfl, rfl⟩
theorem len_nil (w : World) :
    Calls Try.prog 15 #[.pointer none] w fun e w' => e = .returned (.int .i64 0) ∧ w' = w := by
  go_enter Try.func15, Try.ntmps15
  go_wp2
  go_ret
  exact ⟨rfl, rfl⟩
theorem count_at (a b : Nat) (ws : List Int) (c : Int) (w : World) (h : At 53 w a b ws c) :
    Calls Try.prog 14 #[.pointer (some ⟨a, 0, none⟩)] w fun e w' => e = .returned (.int .i64 c) ∧ w' = w := by
  have h0 := h.c1
  go_enter Try.func14, Try.ntmps14
  go_wp2
  go_ret
  exact ⟨rfl, rfl⟩
theorem count_nil (w : World) :
    Calls Try.prog 14 #[.pointer none] w fun e w' => e = .returned (.int .i64 0) ∧ w' = w := by
  go_enter Try.func14, Try.ntmps14
  go_wp2
  go_ret
  exact ⟨rfl, rfl⟩
theorem words_nil (w : World) :
    Calls Try.prog 16 #[.pointer none] w fun e w' => e = .returned (.slice none 0 0) ∧ w' = w := by
  go_enter Try.func16, Try.ntmps16
  go_wp2
  go_ret
  exact ⟨rfl, rfl⟩
theorem copy_nil (w : World) :
    Calls Try.prog 11 #[.pointer none] w fun e w' => e = .returned (.pointer none) ∧ w' = w := by
  go_enter Try.func11, Try.ntmps11
  go_wp2
  go_ret
  exact ⟨rfl, rfl⟩

theorem words_at (a b : Nat) (ws : List Int) (c : Int) (w : World) (h : At 53 w a b ws c) (hl : ws.length ≤ 1048576) :
    Calls Try.prog 16 #[.pointer (some ⟨a, 0, none⟩)] w (GaveRow w ws) := by
  have h0 := h.c0
  have hla := h.la; have hlb := h.lb
  have hmk := run_make_words ws.length hl
  go_enter Try.func16, Try.ntmps16
  have hsrc : ∀ (j : Nat) (v : Value), (ws.map (Value.int .i64))[j]? = some v → (w.alloc (.cells (rowOf (List.replicate ws.length 0)) 3)).cell? ((⟨b, 0, none⟩ : Addr).add j) = some v := by
    intro j v hj
    have hj' : j < ws.length := by
      have := (List.getElem?_eq_some_iff.1 hj).1; simpa using this
    have := (h.alloc (.cells (rowOf (List.replicate ws.length 0)) 3)).wd hj'
    rw [addr_add, Nat.zero_add, this]; rw [← hj]; simp [hj', List.getD]
  have hg0 : (w.alloc (.cells (rowOf (List.replicate ws.length 0)) 3)).heap[w.heap.size]? = some (.cells (((List.replicate ws.length 0).map (Value.int .i64)).toArray) 3 (0, 0)) := heap_new _ _
  have hone : ∀ v ∈ ws.map (Value.int .i64), v.oneCell' = true := by
    intro v hv; obtain ⟨x, _, rfl⟩ := List.mem_map.1 hv; rfl
  have hb0 : Below w.heap.size w (w.alloc (.cells (rowOf (List.replicate ws.length 0)) 3)) := (Below.refl _ _).alloc (Nat.le_refl _) _
  have HS := Lib.hid hsrc; clear hsrc
  have HG := Lib.hid hg0; clear hg0
  have HO := Lib.hid hone; clear hone
  go_wp2_with (with_reducible refine wpList_copy_splice rfl (.tmp 12) (.tmp 16) 36 36 rfl 3 Try.underlying36 (by kernel_rfl) _ _ _ _ _ _ rfl rfl w.heap.size 0 ((List.replicate ws.length 0).map (Value.int .i64)) 3 HG.out (ws.map (Value.int .i64)) (by simp) (fun _ => ⟨rfl, _, rfl, HS.out⟩) (by simp) HO.out w.heap.size w hb0 (Nat.le_refl _) ?_; intro w1 hg1 hb1)
  go_ret
  refine ⟨_, rfl, Nat.le_refl _, ?_, ⟨hb1.os, hb1.tape, hb1.output, hb1.size, fun k hk _ => hb1.block k hk⟩⟩
  rw [hg1.out]
  simp [splice, rowOf]

theorem at_over {T g : Nat} {w1 : World} {ws : List Int} {c : Int} (hg : w1.heap[g]? = some (.cells (rowOf ws) 3 (0, 0))) :
    At T (w1.alloc (.cells #[.slice (some ⟨g, 0, none⟩) ws.length ws.length, .int .i64 c] T)) w1.heap.size g ws c :=
  ⟨heap_new _ _, by rw [Below.heap_alloc _ _ _ (lt_of_heap hg)]; exact hg, by have := lt_of_heap hg; omega⟩
theorem Turned.undrew {S : Nat → Prop} {w w' : World} (h : Turned S w.drew w') : Turned S w w' := ⟨h.os, h.tape, h.output, h.size, h.block⟩

theorem copy_at (a b : Nat) (ws : List Int) (c : Int) (w : World) (h : At 53 w a b ws c) (hl : ws.length ≤ 1048576) :
    Calls Try.prog 11 #[.pointer (some ⟨a, 0, none⟩)] w (MadeArena 53 w ws c (fun p => p)) := by
  have h1 := h.c1
  have hla := h.la; have hlb := h.lb
  go_enter Try.func11, Try.ntmps11
  go_wp2_with fail
  go_region_with (go_at_call 16; refine (words_at a b ws c _ (by first | exact h | exact h.drew) hl).mono ?_; rintro e w1 ⟨g, rfl, hg, hrow, ht⟩; have h2 := (At.keep (by first | exact h | exact h.drew) ht (fun q => q) (fun q => q)).c1)
  all_goals go_wp2
  all_goals go_ret
  all_goals exact ⟨_, _, rfl, ht.size, hg, at_over hrow, (Turned.undrew ht).alloc _⟩

end Go.Proofs.Ytgkibbblmfmdnaa
