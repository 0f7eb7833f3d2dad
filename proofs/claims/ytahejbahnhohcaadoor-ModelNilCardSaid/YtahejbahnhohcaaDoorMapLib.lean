/-
  The library's BinarySearch, Insert, Delete and Clone, over rows of the call's own.
-/
import Derived.Test.YtahejbahnhohcaaDoorMapLay
import Derived.Test.YtahejbahnhohcaaDoorSeq
import Derived.Test.YtahejbahnhohcaaDoorChecked
import Derived.WalkKit
import Derived.Outline
namespace Go.Proofs.YtahejbahnhohcaaDoor
open Go.RowKit Go.Sort Go.Shelf
set_option linter.unusedVariables false
set_option linter.unusedSimpArgs false

theorem Moved.low {W w w' : World} {e : TypeId} {ys : List Value} {a a' : Option Addr} {cap' : Nat} (h : Moved W w' e ys a a' cap') (hW : More w W) (ha : ∀ k, owned a k → k < w.heap.size) : Moved w w' e ys a a' cap' :=
  ⟨h.row, (Turned.mono hW (fun _ _ q => q.elim)).trans h.turn, fun k hk => (h.from' k hk).imp id (fun q => Nat.le_trans hW.size q)⟩
theorem map_get {α : Type} {xs : List α} {enc : α → Value} {j : Nat} {v : Value} (h : (xs.map enc)[j]? = some v) : ∃ x, xs[j]? = some x ∧ v = enc x := by
  rw [List.getElem?_map] at h
  cases q : xs[j]? with
  | none => rw [q] at h; cases h
  | some x => rw [q] at h; exact ⟨x, rfl, by simpa using h.symm⟩
theorem one_get {x v : Value} {j : Nat} (h : ([x] : List Value)[j]? = some v) : j = 0 ∧ v = x := by
  cases j with
  | zero => exact ⟨rfl, by simpa using h.symm⟩
  | succ j => simp at h

/-- slices.BinarySearch over integers that rise. -/
theorem search (zs : List Int) (k : Int) (a : Option Addr) (cap : Nat) (w : World) (h : RowAt w 3 (zs.map (Value.int .i64)) a cap) (hs : zs.Pairwise (· ≤ ·)) (hl : zs.length ≤ 1000000) :
    Calls Tryd.prog 70 #[.slice a zs.length cap, .int .i64 k] w fun e w' => e = .returned (.tuple #[.int .i64 (zs.countP (· < k) : Nat), .bool (zs.contains k)]) ∧ ∃ q, w' = w.drewN q := by
  by_cases h0 : zs.length = 0
  · obtain rfl : zs = [] := List.length_eq_zero_iff.1 h0
    clear h h0 hs hl
    have E : ∃ q, w.drewN 1 = w.drewN q := ⟨_, rfl⟩
    go_enter Tryd.func70, Tryd.ntmps70
    go_wp2_with fail
    go_loop [7, 8] (fun i j => i = .int .i64 0 ∧ j = .int .i64 0) (fun _ _ => 0)
    case atStart => exact ⟨rfl, rfl⟩
    case round =>
      obtain ⟨rfl, rfl⟩ := hrel
      go_wp2_with fail
      all_goals first | (go_quiet (fail); go_wp2_with fail) | skip
      all_goals go_ret2
      all_goals exact ⟨rfl, 0, rfl⟩
  · obtain ⟨g, rfl, hg, hc, hf⟩ := h.reads (by simp; omega)
    have := AnyG.slices_BinarySearch_int Tryd.lSearch g 0 zs.length cap zs k w (Nat.le_refl _) (by omega) (fun j hj => by rw [Nat.zero_add]; exact hc j _ (by rw [List.getElem?_map, List.getElem?_eq_getElem hj]; simp [List.getD, hj])) (by rw [List.take_length]; exact hs)
    rw [List.take_length] at this
    exact this

section
theorem one_int (xs : List Int) : ∀ v ∈ xs.map (Value.int .i64), v.oneCell' = true := by
  intro v hv
  obtain ⟨x, _, rfl⟩ := List.mem_map.1 hv
  rfl
/-- slices.Insert of one. -/
theorem ins_int (xs : List Int) (i : Nat) (hi : i ≤ xs.length) (hl : xs.length ≤ 1000000) (y : Int) (a : Option Addr) (cap : Nat) (w : World) (h : RowAt w 3 (xs.map (Value.int .i64)) a cap) :
    Calls Tryd.prog 71 #[.slice a xs.length cap, .int .i64 i, .slice (some ⟨w.heap.size, 0, none⟩) 1 1] (w.alloc (.cells #[Value.int .i64 y] 3))
      fun e w' => ∃ a' cap', e = .returned (.slice a' (xs.length + 1) cap') ∧ Moved w w' 3 ((xs.map (Value.int .i64)).take i ++ Value.int .i64 y :: (xs.map (Value.int .i64)).drop i) a a' cap' := by
  have hM : More w (w.alloc (.cells #[Value.int .i64 y] 3)) := (More.refl w).alloc _
  have hN : (w.alloc (.cells #[Value.int .i64 y] 3)).heap[w.heap.size]? = some (.cells #[Value.int .i64 y] 3 (0, 0)) := heap_new w _
  have hlt := h.lt
  have h := h.keep hM (fun _ _ q => q)
  have hsz : w.heap.size < (w.alloc (.cells #[Value.int .i64 y] 3)).heap.size := by simp
  generalize w.alloc (.cells #[Value.int .i64 y] 3) = W at h hM hN hsz ⊢
  have hlen : (xs.map (Value.int .i64)).length = xs.length := by simp
  have hvs : ∀ j v, ([Value.int .i64 y] : List Value)[j]? = some v → W.cell? ⟨w.heap.size, 0 + j, none⟩ = some v := fun j v hj => by
    obtain ⟨rfl, rfl⟩ := one_get hj
    simp [World.cell?, hN]
  have h1c := one_int xs
  have h1v : ∀ v ∈ ([Value.int .i64 y] : List Value), v.oneCell' = true := by intro v hv; simp at hv; subst hv; rfl
  have hz : (Value.int .i64 0).cells.size = 1 := rfl
  have hfa : W.frozen? ⟨w.heap.size, 0, none⟩ = false := by simp [World.frozen?, hN]
  have hfe : W.frozen? ⟨w.heap.size, 1, none⟩ = false := by simp [World.frozen?, hN]
  have hsa : W.shape? w.heap.size = some (3, 1) := by simp [World.shape?, hN]
  have hG : ∀ c, xs.length + 1 ≤ grownCap W (xs.length + 1) c 3 := fun c => grownCap_ge W _ _ _
  have hGm : ∀ c, grownCap W (xs.length + 1) c 3 ≤ maxLen := fun c => grownCap_le_maxLen W _ c _ (by unfold maxLen; omega)
  by_cases hroom : xs.length + 1 ≤ cap
  · rcases h with ⟨rfl, rfl, hx⟩ | ⟨g, cur, rfl, hg, hn, hm, hs, ht⟩
    · omega
    rw [hlen] at hn
    have hgw := hlt g rfl
    have hgc : ∀ j, j < cap → W.cell? ⟨g, 0 + j, none⟩ = cur[j]? := fun j hj => by simp [World.cell?, hg]
    have hgf : ∀ j, W.frozen? ⟨g, j, none⟩ = false := fun j => by simp [World.frozen?, hg]
    have hcs : ∀ j v, (xs.map (Value.int .i64))[j]? = some v → W.cell? ⟨g, 0 + j, none⟩ = some v := fun j v hj => by
      have hj' : j < xs.length := by have := (List.getElem?_eq_some_iff.1 hj).1; omega
      rw [hgc j (by omega), ← Array.getElem?_toList]
      rw [← ht, List.getElem?_take, if_pos (by omega)] at hj
      exact hj
    by_cases hin : i < xs.length
    · refine (Any2.slices_Insert_int_shift Tryd.lInsI g 0 xs.length cap i w.heap.size 0 1 1 (xs.map (Value.int .i64)) [Value.int .i64 y] W hin (by omega) hroom (by unfold maxLen at hm; omega) (by omega) hlen rfl hcs
        (fun j hj => by rw [hgc j (by omega), Array.getElem?_eq_getElem (by omega)]; rfl) (fun j _ => hgf _) hvs h1c h1v _ 3 1 cap hsa (by simp [World.shape?, hg, hs]) (by omega) hfa hfe).mono ?_
      rintro e w' ⟨rfl, rfl⟩
      exact ⟨_, _, rfl, (moved_shift _ hg (by rw [hlen]; exact hroom) hm hs ht (by omega)).low hM hlt⟩
    · obtain rfl : i = xs.length := by omega
      refine (Any2.slices_Insert_int_end_room Tryd.lInsI g 0 xs.length cap w.heap.size 0 1 1 [Value.int .i64 y] W (by omega) hroom (by unfold maxLen at hm; omega) rfl
        (fun j hj => by rw [Nat.zero_add, ← Nat.zero_add (xs.length + j), hgc _ (by omega), Array.getElem?_eq_getElem (by omega)]; rfl) (fun j _ => hgf _) hvs h1v).mono ?_
      rintro e w' ⟨rfl, rfl⟩
      have := moved_end (Value.int .i64 y) hg (by rw [hlen]; exact hroom) hm hs ht
      rw [hlen] at this
      exact ⟨_, _, rfl, this.low hM hlt⟩
  · have hcap : xs.length ≤ cap := by
      rcases h with ⟨rfl, rfl, hx⟩ | ⟨g, cur, rfl, hg, hn, _⟩
      · have := congrArg List.length hx; simp at this; simp [this]
      · omega
    have hbig : (xs.length + 1) * 8 ≤ 140737488355328 := by omega
    by_cases hin : i < xs.length
    · rcases h with ⟨rfl, rfl, hx⟩ | ⟨g, cur, rfl, hg, hn, hm, hs, ht⟩
      · have := congrArg List.length hx; simp at this; subst this; simp at hin
      have hcs : ∀ j v, (xs.map (Value.int .i64))[j]? = some v → W.cell? ⟨g, 0 + j, none⟩ = some v := fun j v hj => by
        have hj' : j < xs.length := by have := (List.getElem?_eq_some_iff.1 hj).1; omega
        rw [← ht, List.getElem?_take, if_pos (by omega)] at hj
        simp [World.cell?, hg]
        simpa using hj
      refine (Any2.slices_Insert_int_grow Tryd.lInsI g 0 xs.length cap i w.heap.size 0 1 1 (xs.map (Value.int .i64)) [Value.int .i64 y] W hin (by omega) hcap (by omega) hbig hlen rfl hcs hvs h1c h1v).mono ?_
      rintro e w' ⟨rfl, rfl⟩
      have := moved_new (w := W) (e := 3) (xs := xs.map (Value.int .i64)) (a := some ⟨g, 0, none⟩) (i := i) (Value.int .i64 y) (Value.int .i64 0) hz (by rw [hlen]; exact hG cap) (hGm cap) (by omega)
      rw [hlen] at this
      exact ⟨_, _, rfl, this.low hM hlt⟩
    · obtain rfl : i = xs.length := by omega
      refine (Any2.slices_Insert_int_end_grow Tryd.lInsI a xs.length cap w.heap.size 0 1 1 (xs.map (Value.int .i64)) [Value.int .i64 y] W (by omega) hcap (by omega) hbig hlen rfl
        (fun ha => by
          rcases h with ⟨_, _, hx⟩ | ⟨g, cur, hh, _⟩
          · have := congrArg List.length hx; simpa using this
          · rw [ha] at hh; cases hh)
        (fun b hb j v hj => by
          have hj' : j < xs.length := by have := (List.getElem?_eq_some_iff.1 hj).1; omega
          rcases h with ⟨hh, _⟩ | ⟨g, cur, hh, hg, hn, hm, hs, ht⟩
          · rw [hb] at hh; cases hh
          · rw [hb] at hh; cases hh
            rw [← ht, List.getElem?_take, if_pos (by omega)] at hj
            rw [Addr.add_lit]
            simp [World.cell?, hg]
            simpa using hj) hvs h1v).mono ?_
      rintro e w' ⟨rfl, rfl⟩
      have := moved_new_end (w := W) (e := 3) (xs := xs.map (Value.int .i64)) (a := a) (Value.int .i64 y) (Value.int .i64 0) hz (by rw [hlen]; exact hG cap) (hGm cap)
      rw [hlen] at this
      exact ⟨_, _, rfl, this.low hM hlt⟩

theorem info_int : ∃ i : TypeInfo, Tryd.prog.info? 3 = some i ∧ i.zero = some (Value.int .i64 0) ∧ i.size = 1 ∧ i.bytes = 8 := by
  have h1 : (Tryd.prog.info? 3).map (·.size) = some 1 := by kernel_rfl
  have h2 : (Tryd.prog.info? 3).bind (·.zero) = some (Value.int .i64 0) := by kernel_rfl
  have h3 : (Tryd.prog.info? 3).map (·.bytes) = some 8 := by kernel_rfl
  cases q : Tryd.prog.info? 3 with
  | none => rw [q] at h1; simp at h1
  | some i => rw [q] at h1 h2 h3; exact ⟨i, rfl, by simpa using h2, by simpa using h1, by simpa using h3⟩

/-- slices.Delete of one. -/
theorem del_int (xs : List Int) (i : Nat) (hi : i < xs.length) (hl : xs.length ≤ 1000000) (a : Option Addr) (cap : Nat) (w : World) (h : RowAt w 3 (xs.map (Value.int .i64)) a cap) :
    Calls Tryd.prog 67 #[.slice a xs.length cap, .int .i64 i, .int .i64 ((i : Int) + 1)] w
      fun e w' => ∃ a' cap', e = .returned (.slice a' (xs.length - 1) cap') ∧ Moved w w' 3 ((xs.map (Value.int .i64)).take i ++ (xs.map (Value.int .i64)).drop (i + 1)) a a' cap' := by
  have hlen : (xs.map (Value.int .i64)).length = xs.length := by simp
  rcases h with ⟨rfl, rfl, hx⟩ | ⟨g, cur, rfl, hg, hn, hm, hs, ht⟩
  · have := congrArg List.length hx; simp at this; subst this; simp at hi
  obtain ⟨i0, hi0, hz0, hz1, _⟩ := info_int
  have hH : Holds (Value.int .i64) w g 0 xs.toArray := fun j hj => by
    have hj' : j < xs.length := by simpa using hj
    refine ⟨?_, by simp [World.frozen?, hg]⟩
    have : (xs.map (Value.int .i64))[j]? = some ((Value.int .i64) xs[j]) := by simp [hj']
    rw [← ht, List.getElem?_take, if_pos (by omega)] at this
    simp [World.cell?, hg, getElem!_pos, hj']
    simpa using this
  have := AnyE.slices_Delete Tryd.lDelI (Value.int .i64) (fun _ => rfl) (0 : Int) Tryd.zeroValue3 i0 hi0 hz1 g 0 cap i (i + 1) xs.toArray w hH (by simpa using (by omega : xs.length ≤ cap)) (by unfold maxLen at hm; omega) (by omega) (by simp; omega)
  rw [List.size_toArray, show (((i + 1 : Nat)) : Int) = (i : Int) + 1 by omega, show xs.length - (i + 1 - i) = xs.length - 1 by omega] at this
  refine this.mono ?_
  rintro e w' ⟨rfl, q, rfl⟩
  refine ⟨_, _, rfl, moved_cut (Value.int .i64) _ hg (by simp; omega) hm hs ?_⟩
  simp only [List.map_append, List.map_take, List.map_drop]
  exact take_len _ _ rfl

/-- slices.Clone. -/
theorem clone_int (xs : List Int) (hl : xs.length ≤ 1000000) (a : Option Addr) (cap : Nat) (w : World) (h : RowAt w 3 (xs.map (Value.int .i64)) a cap) :
    Calls Tryd.prog 32 #[.slice a xs.length cap] w
      fun e w' => ∃ a' cap', e = .returned (.slice a' xs.length cap') ∧ RowAt w' 3 (xs.map (Value.int .i64)) a' cap' ∧ More w w' ∧ ∀ k, owned a' k → w.heap.size ≤ k := by
  have hlen : (xs.map (Value.int .i64)).length = xs.length := by simp
  rcases h with ⟨rfl, rfl, hx⟩ | ⟨g, cur, rfl, hg, hn, hm, hs, ht⟩
  · have h0 : xs = [] := by simpa using hx
    subst h0
    refine (AnyE.slices_Clone_nil { Tryd.lCloneI with } 0 0 w).mono ?_
    rintro e w' ⟨rfl, rfl⟩
    exact ⟨_, _, rfl, RowAt.nil _ _, More.refl _, fun k hk => by cases hk⟩
  · obtain ⟨i0, hi0, hz0, hz1, hz2⟩ := info_int
    refine (AnyE.slices_Clone { Tryd.lCloneI with } i0 (Value.int .i64 0) 1 8 hi0 hz0 hz1 hz2 rfl (by omega) Tryd.sizeOf3 g 0 xs.length cap (xs.map (Value.int .i64)) w (by omega) (by unfold maxLen; omega) (by omega)
      (fun j v hj => by
        have hj' : j < xs.length := by have := (List.getElem?_eq_some_iff.1 hj).1; omega
        rw [← ht, List.getElem?_take, if_pos (by omega)] at hj
        simp [World.cell?, hg]
        simpa using hj) (one_int xs)).mono ?_
    rintro e w' ⟨v', rfl, hown, _, hB⟩
    obtain ⟨a', cap', rfl, hr, hb, _⟩ := RowAt.of_own hown
    exact ⟨_, _, rfl, hr, ⟨hB.os, hB.tape, hB.output, hB.size, fun k hk _ => hB.block k hk⟩, hb⟩
end
end Go.Proofs.YtahejbahnhohcaaDoor
