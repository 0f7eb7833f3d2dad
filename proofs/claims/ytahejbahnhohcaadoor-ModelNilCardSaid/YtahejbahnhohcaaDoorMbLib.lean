/-
  The library's Insert, Delete and Clone at rows of blocks, two numbers each.
-/
import Derived.Test.YtahejbahnhohcaaDoorTwo
import Derived.Test.YtahejbahnhohcaaDoorMapLib
import Derived.Lib.AppendZerosOnto
import Derived.Lib.Overlaps
import Derived.Shelf.Spec.SlicesInsert
namespace Go.Proofs.YtahejbahnhohcaaDoor
open Go.RowKit Go.Sort Go.Shelf Go.Lib
set_option linter.unusedVariables false
set_option linter.unusedSimpArgs false

theorem info_mb : ∃ i : TypeInfo, Tryd.prog.info? 65 = some i ∧ i.zero = some (.agg #[.int .i64 0, .int .i64 0]) ∧ i.size = 2 ∧ i.bytes = 16 := by
  have h1 : (Tryd.prog.info? 65).map (·.size) = some 2 := by kernel_rfl
  have h2 : (Tryd.prog.info? 65).bind (·.zero) = some (.agg #[.int .i64 0, .int .i64 0]) := by kernel_rfl
  have h3 : (Tryd.prog.info? 65).map (·.bytes) = some 16 := by kernel_rfl
  cases q : Tryd.prog.info? 65 with
  | none => rw [q] at h1; simp at h1
  | some i => rw [q] at h1 h2 h3; exact ⟨i, rfl, by simpa using h2, by simpa using h1, by simpa using h3⟩
theorem size_mb : (Tryd.prog.info? 65).map (·.size) = some 2 := by kernel_rfl

/-- A pair's cells. -/
def two (x y : Int) : List Value := [.int .i64 x, .int .i64 y]
theorem two_one (x y : Int) : ∀ v ∈ two x y, v.oneCell' = true := by intro v hv; simp [two] at hv; rcases hv with rfl | rfl <;> rfl
theorem two_get {x y : Int} {j : Nat} {v : Value} (h : (two x y)[j]? = some v) : j = 0 ∧ v = .int .i64 x ∨ j = 1 ∧ v = .int .i64 y := by
  match j, h with
  | 0, h => simp [two] at h; exact .inl ⟨rfl, h.symm⟩
  | 1, h => simp [two] at h; exact .inr ⟨rfl, h.symm⟩
  | j + 2, h => simp [two] at h

set_option maxHeartbeats 4000000 in
set_option maxRecDepth 100000 in
/-- Insert of one: there is room, in the midst. -/
theorem insB_shift (g n c i vb : Nat) (cs : List Value) (x y : Int) (w : World) (hi : i < n) (hroom : n + 1 ≤ c) (hc63 : c ≤ 9223372036854775807) (hvb : vb ≠ g)
    (hcl : cs.length = n * 2) (hcs : ∀ j v, cs[j]? = some v → w.cell? ⟨g, j, none⟩ = some v) (hsp : ∀ j, j < (n + 1) * 2 → (w.cell? ⟨g, j, none⟩).isSome = true) (hfz : ∀ j, w.frozen? ⟨g, j, none⟩ = false)
    (hvs : w.heap[vb]? = some (.cells #[.int .i64 x, .int .i64 y] 65 (0, 0))) (h1c : ∀ v ∈ cs, v.oneCell' = true) (kB : Nat) (hsb : w.shape? g = some (65, kB)) (hkB : kB ≠ 0) :
    Calls Tryd.prog 72 #[.slice (some ⟨g, 0, none⟩) n c, .int .i64 i, .slice (some ⟨vb, 0, none⟩) 1 1] w fun e w' =>
      e = .returned (.slice (some ⟨g, 0, none⟩) (n + 1) c) ∧ w' = (w.drew.setCells g (0 + (i + 1) * 2) (cs.drop (i * 2))).setCells g (0 + i * 2) (two x y) := by
  have hz2 : ¬ ((i : Int) = (n : Int)) := by omega
  have hvc : ∀ j v, (two x y)[j]? = some v → w.cell? ⟨vb, 0 + j, none⟩ = some v := fun j v hj => by
    rcases two_get hj with ⟨rfl, rfl⟩ | ⟨rfl, rfl⟩ <;> simp [World.cell?, hvs]
  have hfa : w.frozen? ⟨vb, 0, none⟩ = false := by simp [World.frozen?, hvs]
  have hfe : w.frozen? ⟨vb, 2, none⟩ = false := by simp [World.frozen?, hvs]
  have hsa : w.shape? vb = some (65, 2) := by simp [World.shape?, hvs]
  have hov : ∀ lb cb, (callFunc 80 #[.slice (some ⟨vb, 0, none⟩) 1 1, .slice (some ⟨g, (i + 1) * 2, none⟩) lb cb]).run Tryd.prog w = .ok (.value (.bool false)) w := fun lb cb => by
    rw [run_callFunc_extern Tryd.func80 (by kernel_rfl) (by kernel_rfl) (by kernel_rfl) (e := Extern.SlicesOverlaps.overlaps #[82, 82] #[4]) (by kernel_rfl),
      Lib.run_overlaps_apart w 82 4 65 Tryd.underlying82 2 Tryd.sizeOf65 ⟨vb, 0, none⟩ ⟨g, (i + 1) * 2, none⟩ 1 1 lb cb hvb _ _ 2 kB hsa hsb hkB hfa hfe]
    rfl
  have hdl : (cs.drop (i * 2)).length = n * 2 - i * 2 := by rw [List.length_drop, hcl]
  have hw1 : IntKind.i64.wrap ((i : Int) + 1) = (i : Int) + 1 := by rw [IntKind.wrap_i64]; omega
  have hb1 : (0 : Int) ≤ (i : Int) + 1 := by omega
  have hin : i ≤ n := by omega
  have htn : ((i : Int) + 1).toNat = i + 1 := by omega
  have hb2 : ¬ (c = i + 1) := by omega
  have hb3 : (i : Int) ≤ (n : Int) + 1 := by omega
  have hb4 : ¬ (c = i) := by omega
  have hcp1 : ∀ ty dc sc, (Builtin.copy_ #[82, 82] ty #[.slice (some ⟨g, (i + 1) * 2, none⟩) (n - i) dc, .slice (some ⟨g, i * 2, none⟩) (n + 1 - i) sc]).run Tryd.prog w.drew = .ok (goInt ((n - i : Nat) : Int)) (w.drew.setCells g ((i + 1) * 2) (cs.drop (i * 2))) := fun ty dc sc => by
    have := run_copy_two (P := Tryd.prog) w.drew 82 82 ty 65 g ((i + 1) * 2) (n - i) dc ⟨g, i * 2, none⟩ (n + 1 - i) sc (cs.drop (i * 2)) Tryd.underlying82 size_mb (by rw [hdl]; simp only [Nat.min_def]; split <;> omega)
      (fun j v hj => by rw [Addr.add_lit]; exact hcs (i * 2 + j) v (by rwa [List.getElem?_drop] at hj))
      (fun j hj => hsp _ (by rw [hdl] at hj; omega)) (fun j hj => hfz _) (fun v hv => h1c v (List.mem_of_mem_drop hv))
    rwa [show Nat.min (n + 1 - i) (n - i) = n - i by simp only [Nat.min_def]; split <;> omega] at this
  obtain ⟨W1, hW1⟩ : ∃ W1, W1 = w.drew.setCells g ((i + 1) * 2) (cs.drop (i * 2)) := ⟨_, rfl⟩
  have hsp1 : ∀ k, k < (n + 1) * 2 → (W1.cell? ⟨g, k, none⟩).isSome = true := fun k hk => by
    rw [hW1]
    exact isSome_setCells g (cs.drop (i * 2)) ((i + 1) * 2) w.drew (fun j hj => hsp _ (by rw [hdl] at hj; omega)) k (hsp k hk)
  have hcp2 : ∀ (W : World), (∀ x, W.cell? x = W1.cell? x) → (∀ x, W.frozen? x = W1.frozen? x) → ∀ ty dc, (Builtin.copy_ #[82, 82] ty #[.slice (some ⟨g, i * 2, none⟩) (n + 1 - i) dc, .slice (some ⟨vb, 0, none⟩) 1 1]).run Tryd.prog W = .ok (goInt 1) (W.setCells g (i * 2) (two x y)) := fun W hWc hWf ty dc => by
    have := run_copy_two (P := Tryd.prog) W 82 82 ty 65 g (i * 2) (n + 1 - i) dc ⟨vb, 0, none⟩ 1 1 (two x y) Tryd.underlying82 size_mb (by simp only [two, List.length_cons, List.length_nil, Nat.min_def]; split <;> omega)
      (fun j v hj => by
        rw [Addr.add_lit, hWc, hW1, World.cell?_setCells_out g _ _ _ _ (fun h _ => absurd h hvb)]
        exact hvc j v hj)
      (fun j hj => by rw [hWc]; exact hsp1 _ (by simp [two] at hj; omega)) (fun j hj => by rw [hWf, hW1, World.frozen?_setCells]; exact hfz _) (two_one x y)
    rwa [show Nat.min 1 (n + 1 - i) = 1 by simp only [Nat.min_def]; split <;> omega] at this
  rw [← hW1] at hcp1
  rw [Nat.zero_add, Nat.zero_add, ← hW1]
  have mixed : Tryd.prog.follows .mixedOrders = true := by kernel_rfl
  clear hvc hsa hsb hfa hfe hsp hcs hfz h1c hsp1 hW1 hvs hdl hcl
  go_enter Tryd.func72, Tryd.ntmps72
  go_wp2_with (simp only [hov])
  go_region_law_o (refine step_copy_runI rfl _ _ 82 82 rfl _ _ (by simp [Act.eval, Act.put]) (by simp [Act.eval, Act.put]) (hcp1 _ _ _) ?_)
  go_wp2_with (at_builtin; refine wpList_copy_runI _ rfl _ _ 82 82 rfl _ _ rfl rfl (hcp2 _ (fun _ => rfl) (fun _ => rfl) _ _) ?_)
  go_ret
  exact ⟨rfl, rfl⟩

theorem src_mb (w : World) (vb : Nat) (x y : Int) (hvs : w.heap[vb]? = some (.cells #[.int .i64 x, .int .i64 y] 65 (0, 0))) : Src Tryd.prog 2 82 (.slice (some ⟨vb, 0, none⟩) 1 1) 1 (two x y) w :=
  Src.ofSlice w Tryd.underlying82 ⟨vb, 0, none⟩ 1 1 (two x y) rfl (fun j v hj => by rw [Addr.add_lit]; rcases two_get hj with ⟨rfl, rfl⟩ | ⟨rfl, rfl⟩ <;> simp [World.cell?, hvs]) (two_one x y)

set_option maxHeartbeats 4000000 in
set_option maxRecDepth 100000 in
/-- .. at the end, there is room. -/
theorem insB_end (g n c vb : Nat) (x y : Int) (w : World) (hroom : n + 1 ≤ c) (hc63 : c ≤ 9223372036854775807)
    (hsp : ∀ j, j < (n + 1) * 2 → (w.cell? ⟨g, j, none⟩).isSome = true) (hfz : ∀ j, w.frozen? ⟨g, j, none⟩ = false)
    (hvs : w.heap[vb]? = some (.cells #[.int .i64 x, .int .i64 y] 65 (0, 0))) :
    Calls Tryd.prog 72 #[.slice (some ⟨g, 0, none⟩) n c, .int .i64 n, .slice (some ⟨vb, 0, none⟩) 1 1] w fun e w' =>
      e = .returned (.slice (some ⟨g, 0, none⟩) (n + 1) c) ∧ w' = w.setCells g (0 + n * 2) (two x y) := by
  obtain ⟨i0, hi0, hz0, hz1, hz2⟩ := info_mb
  have hrun : ∀ ty, (Builtin.append_ #[82, 82] ty #[.slice (some ⟨g, 0, none⟩) n c, .slice (some ⟨vb, 0, none⟩) 1 1]).run Tryd.prog w = .ok (.slice (some ⟨g, 0, none⟩) (n + 1) c) (w.setCells g (0 + n * 2) (two x y)) := fun ty => by
    have := run_append_room_src w 82 82 ty 65 i0 Tryd.underlying82 hi0 g 0 n c (.slice (some ⟨vb, 0, none⟩) 1 1) 1 (two x y) (by rw [hz1]; exact src_mb w vb x y hvs) hroom
      (fun j hj => by rw [hz1, Nat.zero_add]; exact hsp _ (by simp [two] at hj; omega)) (fun j hj => hfz _)
    rw [hz1] at this
    exact this
  generalize w.setCells g (0 + n * 2) (two x y) = W1 at hrun ⊢
  clear hsp hfz hvs hi0 hz0 hz1 hz2
  go_enter Tryd.func72, Tryd.ntmps72
  go_wp2_with (at_builtin; refine Lib.wpList_append_run _ rfl _ _ _ _ rfl _ _ rfl rfl _ _ (hrun _) ?_)
  go_ret
  exact ⟨rfl, rfl⟩

set_option maxHeartbeats 4000000 in
set_option maxRecDepth 100000 in
/-- .. at the end, there is none. -/
theorem insB_grow_end (base : Option Addr) (n c vb : Nat) (cs : List Value) (x y : Int) (w : World) (hnc : n ≤ c) (hroom : c < n + 1) (hbig : (n + 1) * 16 ≤ 140737488355328)
    (hcl : cs.length = n * 2) (hnil : base = none → n = 0) (hb0 : ∀ a, base = some a → ∃ g, a = ⟨g, 0, none⟩)
    (hcs : ∀ g, base = some ⟨g, 0, none⟩ → ∀ j v, cs[j]? = some v → w.cell? ⟨g, j, none⟩ = some v)
    (hvs : w.heap[vb]? = some (.cells #[.int .i64 x, .int .i64 y] 65 (0, 0))) :
    Calls Tryd.prog 72 #[.slice base n c, .int .i64 n, .slice (some ⟨vb, 0, none⟩) 1 1] w fun e w' =>
      e = .returned (.slice (some ⟨w.heap.size, 0, none⟩) (n + 1) (grownCap w (n + 1) c 65)) ∧
      w' = w.drew.alloc (.cells ((cs ++ two x y).toArray ++ Builtin.zeroCells (Value.agg #[.int .i64 0, .int .i64 0]).cells (grownCap w (n + 1) c 65 - (n + 1))) 65) := by
  obtain ⟨i0, hi0, hz0, hz1, hz2⟩ := info_mb
  have hold : (Builtin.firstCells i0.size n (.slice base n c)).run Tryd.prog w.drew = .ok cs.toArray w.drew := by
    rw [hz1]
    cases base with
    | none =>
      have h0 := hnil rfl
      subst h0
      rw [List.length_eq_zero_iff.1 hcl]
      exact run_firstCells_none w.drew 2 0 0 c
    | some a =>
      obtain ⟨g, rfl⟩ := hb0 a rfl
      exact run_firstCells_some w.drew 2 n ⟨g, 0, none⟩ n c cs hcl (fun j v hj => by rw [Addr.add_lit, Nat.zero_add]; exact hcs g rfl j v hj)
  have hrun : ∀ ty, (Builtin.append_ #[82, 82] ty #[.slice base n c, .slice (some ⟨vb, 0, none⟩) 1 1]).run Tryd.prog w = _ := fun ty =>
    run_append_grow_src w 82 82 ty 65 i0 _ Tryd.underlying82 hi0 hz0 base n c cs hold _ 1 (two x y) (by rw [hz1]; exact src_mb w vb x y hvs) hroom (by omega) (by rw [hz2]; exact growslice_fits hroom hbig)
  generalize w.drew.alloc (.cells ((cs ++ two x y).toArray ++ Builtin.zeroCells (Value.agg #[.int .i64 0, .int .i64 0]).cells (grownCap w (n + 1) c 65 - (n + 1))) 65) = W1 at hrun ⊢
  generalize grownCap w (n + 1) c 65 = G at hrun ⊢
  clear hcs hvs hi0 hz0 hz1 hz2 hold
  go_enter Tryd.func72, Tryd.ntmps72
  cases base with
  | none =>
    have h0 := hnil rfl
    subst h0
    go_wp2_with (at_builtin; refine Lib.wpList_append_run _ rfl _ _ _ _ rfl _ _ rfl rfl _ _ (hrun _) ?_)
    go_ret
    exact ⟨rfl, rfl⟩
  | some a =>
    obtain ⟨ab, rfl⟩ := hb0 a rfl
    go_wp2_with (at_builtin; refine Lib.wpList_append_run _ rfl _ _ _ _ rfl _ _ rfl rfl _ _ (hrun _) ?_)
    all_goals (go_ret; exact ⟨rfl, rfl⟩)

set_option maxHeartbeats 4000000 in
set_option maxRecDepth 100000 in
/-- .. in the midst, there is none. -/
theorem insB_grow (g n c i vb : Nat) (cs : List Value) (x y : Int) (w : World) (hi : i < n) (hnc : n ≤ c) (hroom : c < n + 1) (hbig : (n + 1) * 16 ≤ 140737488355328)
    (hcl : cs.length = n * 2) (hcs : ∀ j v, cs[j]? = some v → w.cell? ⟨g, j, none⟩ = some v) (h1c : ∀ v ∈ cs, v.oneCell' = true)
    (hvs : w.heap[vb]? = some (.cells #[.int .i64 x, .int .i64 y] 65 (0, 0))) :
    Calls Tryd.prog 72 #[.slice (some ⟨g, 0, none⟩) n c, .int .i64 i, .slice (some ⟨vb, 0, none⟩) 1 1] w fun e w' =>
      e = .returned (.slice (some ⟨w.heap.size, 0, none⟩) (n + 1) (grownCap w (n + 1) c 65)) ∧
      w' = (((w.alloc (.cells ((cs.take (i * 2)).toArray ++ Builtin.zeroCells (Value.agg #[.int .i64 0, .int .i64 0]).cells (n + 1 - i) ++ Builtin.zeroCells (Value.agg #[.int .i64 0, .int .i64 0]).cells (grownCap w (n + 1) c 65 - (n + 1))) 65)).drew.setCells w.heap.size (i * 2) (two x y)).drew).setCells w.heap.size ((i + 1) * 2) (cs.drop (i * 2)) := by
  obtain ⟨i0, hi0, hz0, hz1, hz2⟩ := info_mb
  have hz2' : ¬ ((i : Int) = (n : Int)) := by omega
  have hz3 : (c : Int) < (n : Int) + 1 := by omega
  have hgw : g < w.heap.size := block_lt_of_cell (hcs 0 _ (List.getElem?_eq_getElem (by omega)))
  have hvw : vb < w.heap.size := lt_of_heap hvs
  have hkk : (n : Int) + 1 - (i : Int) = ((n + 1 - i : Nat) : Int) := by omega
  have hik : i + (n + 1 - i) = n + 1 := by omega
  have hold : (Builtin.firstCells i0.size i (.slice (some ⟨g, 0, none⟩) i c)).run Tryd.prog w.drew = .ok (cs.take (i * 2)).toArray w.drew := by
    rw [hz1]
    exact run_firstCells_some w.drew 2 i ⟨g, 0, none⟩ i c (cs.take (i * 2)) (by rw [List.length_take]; omega) (fun j v hj => by
      rw [Addr.add_lit, Nat.zero_add]
      rw [List.getElem?_take] at hj
      split at hj
      · exact hcs j v hj
      · cases hj)
  have hrz : ∀ ty, (Builtin.append_ #[82, 3] ty #[.slice (some ⟨g, 0, none⟩) i c, .int .i64 ((n : Int) + 1 - (i : Int))]).run Tryd.prog w =
      .ok (.slice (some ⟨w.heap.size, 0, none⟩) (n + 1) (grownCap w (n + 1) c 65)) (w.drew.alloc (.cells ((cs.take (i * 2)).toArray ++ Builtin.zeroCells (Value.agg #[.int .i64 0, .int .i64 0]).cells (n + 1 - i) ++ Builtin.zeroCells (Value.agg #[.int .i64 0, .int .i64 0]).cells (grownCap w (n + 1) c 65 - (n + 1))) 65)) := fun ty => by
    have h := Lib.run_append_grow_zeros w 82 3 ty 65 i0 _ .i64 .i64 Tryd.underlying82 Tryd.underlying3 hi0 hz0 (some ⟨g, 0, none⟩) i c (cs.take (i * 2)) hold (n + 1 - i) (by omega) (by omega) (by omega) (by omega) (by rw [hz2]; omega) (by rw [hz2, hik]; exact growslice_fits hroom hbig)
    rw [hik] at h
    rw [hkk]
    exact h
  obtain ⟨G, hG⟩ : ∃ G, G = grownCap w (n + 1) c 65 := ⟨_, rfl⟩
  obtain ⟨ROW, hROW⟩ : ∃ ROW : Array Value, ROW = (cs.take (i * 2)).toArray ++ Builtin.zeroCells (Value.agg #[.int .i64 0, .int .i64 0]).cells (n + 1 - i) ++ Builtin.zeroCells (Value.agg #[.int .i64 0, .int .i64 0]).cells (G - (n + 1)) := ⟨_, rfl⟩
  rw [← hG] at hrz ⊢
  rw [← hROW] at hrz ⊢
  have hRl : (n + 1) * 2 ≤ ROW.size := by
    have hz : (Value.agg #[.int .i64 0, .int .i64 0]).cells.size = 2 := rfl
    rw [hROW]
    simp [zeroCells_size, hz]
    omega
  obtain ⟨W1, hW1⟩ : ∃ W1, W1 = w.drew.alloc (.cells ROW 65) := ⟨_, rfl⟩
  rw [← hW1] at hrz
  have hN : ∀ j, j < (n + 1) * 2 → (W1.cell? ⟨w.heap.size, j, none⟩).isSome = true := fun j hj => by
    rw [hW1, World.cell?_alloc_at (w := w.drew) ROW _ w.heap.size j rfl, Array.getElem?_eq_getElem (by omega)]; rfl
  have hNf : ∀ j, W1.frozen? ⟨w.heap.size, j, none⟩ = false := fun j => by rw [hW1]; exact World.frozen?_alloc_at (w := w.drew) ROW _ w.heap.size j rfl
  have hOb : ∀ j v, w.cell? ⟨g, j, none⟩ = some v → W1.cell? ⟨g, j, none⟩ = some v := fun j v h => by rw [hW1, World.cell?_alloc_past (w := w.drew) _ g j hgw]; exact h
  have hOv : ∀ j v, (two x y)[j]? = some v → W1.cell? ⟨vb, 0 + j, none⟩ = some v := fun j v hj => by
    rw [hW1, World.cell?_alloc_past (w := w.drew) _ vb _ hvw]
    show w.cell? _ = _
    rcases two_get hj with ⟨rfl, rfl⟩ | ⟨rfl, rfl⟩ <;> simp [World.cell?, hvs]
  have hcpA : ∀ (W : World), (∀ x, W.cell? x = W1.cell? x) → (∀ x, W.frozen? x = W1.frozen? x) → ∀ ty dc, (Builtin.copy_ #[82, 82] ty #[.slice (some ⟨w.heap.size, i * 2, none⟩) (n + 1 - i) dc, .slice (some ⟨vb, 0, none⟩) 1 1]).run Tryd.prog W = .ok (goInt 1) (W.setCells w.heap.size (i * 2) (two x y)) := fun W hWc hWf ty dc => by
    have := run_copy_two (P := Tryd.prog) W 82 82 ty 65 w.heap.size (i * 2) (n + 1 - i) dc ⟨vb, 0, none⟩ 1 1 (two x y) Tryd.underlying82 size_mb (by simp only [two, List.length_cons, List.length_nil, Nat.min_def]; split <;> omega)
      (fun j v hj => by rw [Addr.add_lit, hWc]; exact hOv j v hj)
      (fun j hj => by rw [hWc]; exact hN _ (by simp [two] at hj; omega)) (fun j hj => by rw [hWf]; exact hNf _) (two_one x y)
    rwa [show Nat.min 1 (n + 1 - i) = 1 by simp only [Nat.min_def]; split <;> omega] at this
  have hGn : n + 1 ≤ G := by rw [hG]; exact grownCap_ge w _ _ _
  have hG63 : G ≤ 9223372036854775807 := by
    have := grownCap_le_maxLen w (n + 1) c 65 (by unfold maxLen; omega)
    rw [← hG] at this
    unfold maxLen at this
    omega
  have hGi : ¬ (G = i) := by omega
  have hGim : ¬ (G = i + 1) := by omega
  have hci : ¬ (c = i) := by omega
  have hbN : g ≠ w.heap.size := by omega
  have hdl : (cs.drop (i * 2)).length = n * 2 - i * 2 := by rw [List.length_drop, hcl]
  have hcpB : ∀ (W : World), (∀ z, W.cell? z = (W1.setCells w.heap.size (i * 2) (two x y)).cell? z) → (∀ z, W.frozen? z = (W1.setCells w.heap.size (i * 2) (two x y)).frozen? z) → ∀ ty dc sc, (Builtin.copy_ #[82, 82] ty #[.slice (some ⟨w.heap.size, (i + 1) * 2, none⟩) (n - i) dc, .slice (some ⟨g, i * 2, none⟩) (n - i) sc]).run Tryd.prog W = .ok (goInt ((n - i : Nat) : Int)) (W.setCells w.heap.size ((i + 1) * 2) (cs.drop (i * 2))) := fun W hWc hWf ty dc sc => by
    have := run_copy_two (P := Tryd.prog) W 82 82 ty 65 w.heap.size ((i + 1) * 2) (n - i) dc ⟨g, i * 2, none⟩ (n - i) sc (cs.drop (i * 2)) Tryd.underlying82 size_mb (by rw [hdl]; simp only [Nat.min_def]; split <;> omega)
      (fun j v hj => by
        rw [Addr.add_lit, hWc, World.cell?_setCells_out _ _ _ _ _ (fun h _ => absurd h hbN)]
        exact hOb _ v (hcs (i * 2 + j) v (by rwa [List.getElem?_drop] at hj)))
      (fun j hj => by rw [hWc]; exact isSome_setCells _ _ _ _ (fun t ht => hN _ (by simp [two] at ht; omega)) _ (hN _ (by omega)))
      (fun j hj => by rw [hWf, World.frozen?_setCells]; exact hNf _) (fun v hv => h1c v (List.mem_of_mem_drop hv))
    rwa [show Nat.min (n - i) (n - i) = n - i by simp only [Nat.min_def]; split <;> omega] at this
  subst hW1
  have hE1 : ∀ x, ((w.alloc (.cells ROW 65)).drew).cell? x = (w.drew.alloc (.cells ROW 65)).cell? x := fun x => rfl
  have hE2 : ∀ x, ((w.alloc (.cells ROW 65)).drew).frozen? x = (w.drew.alloc (.cells ROW 65)).frozen? x := fun x => rfl
  have hF1 : ∀ z, (((w.alloc (.cells ROW 65)).drew.setCells w.heap.size (i * 2) (two x y)).drew).cell? z = ((w.drew.alloc (.cells ROW 65)).setCells w.heap.size (i * 2) (two x y)).cell? z := fun x => rfl
  have hF2 : ∀ z, (((w.alloc (.cells ROW 65)).drew.setCells w.heap.size (i * 2) (two x y)).drew).frozen? z = ((w.drew.alloc (.cells ROW 65)).setCells w.heap.size (i * 2) (two x y)).frozen? z := fun x => rfl
  have hw1 : IntKind.i64.wrap ((i : Int) + 1) = (i : Int) + 1 := by rw [IntKind.wrap_i64]; omega
  have hb1 : (0 : Int) ≤ (i : Int) + 1 := by omega
  have hin : i ≤ n := by omega
  have htn : ((i : Int) + 1).toNat = i + 1 := by omega
  have hb3 : (i : Int) ≤ (n : Int) := by omega
  have hsub : n + 1 - (i + 1) = n - i := by omega
  have mixed : Tryd.prog.follows .mixedOrders = true := by kernel_rfl
  clear hkk hik hold hROW hG hRl hOv hN hNf hOb hvs hcs h1c hi0 hz0 hz1 hz2 hdl
  go_enter Tryd.func72, Tryd.ntmps72
  go_wp2_with (first
    | (at_builtin; refine Lib.wpList_append_run _ rfl _ _ _ _ rfl _ _ rfl rfl _ _ (hrz _) ?_)
    | (at_builtin; refine wpList_copy_runI _ rfl _ _ 82 82 rfl _ _ rfl rfl (hcpA _ hE1 hE2 _ _) ?_)
    | (at_builtin; refine wpList_copy_runI _ rfl _ _ 82 82 rfl _ _ rfl rfl (hcpB _ (fun _ => rfl) (fun _ => rfl) _ _ _) ?_))
  go_region_law_o (refine step_copy_runI rfl _ _ 82 82 rfl (.slice (some ⟨w.heap.size, (i + 1) * 2, none⟩) (n - i) (G - (i + 1))) (.slice (some ⟨g, i * 2, none⟩) (n - i) (c - i)) (by simp [Act.eval, Act.put]) (by simp [Act.eval, Act.put]) (hcpB _ hF1 hF2 3 (G - (i + 1)) (c - i)) ?_)
  go_wp2
  go_ret
  exact ⟨rfl, rfl⟩

set_option maxHeartbeats 4000000 in
set_option maxRecDepth 100000 in
/-- Delete of one. -/
theorem delB_run (g n c i : Nat) (cs : List Value) (w : World) (hi : i < n) (hnc : n ≤ c) (hc63 : c ≤ 9223372036854775807) (hcl : cs.length = n * 2) (hcs : ∀ j v, cs[j]? = some v → w.cell? ⟨g, j, none⟩ = some v) (hfz : ∀ j, w.frozen? ⟨g, j, none⟩ = false) (h1c : ∀ v ∈ cs, v.oneCell' = true) :
    Calls Tryd.prog 68 #[.slice (some ⟨g, 0, none⟩) n c, .int .i64 i, .int .i64 ((i : Int) + 1)] w fun e w' =>
      e = .returned (.slice (some ⟨g, 0, none⟩) (n - 1) c) ∧ w' = (w.drew.setCells g (0 + i * 2) (cs.drop ((i + 1) * 2))).setCells g (0 + (n - 1) * 2) (two 0 0) := by
  obtain ⟨i0, hi0, hz0, hz1, hz2⟩ := info_mb
  have hsome : ∀ j, j < n * 2 → (w.cell? ⟨g, j, none⟩).isSome = true := fun j hj => by rw [hcs j _ (List.getElem?_eq_getElem (by omega))]; rfl
  have hdl : (cs.drop ((i + 1) * 2)).length = n * 2 - (i + 1) * 2 := by rw [List.length_drop, hcl]
  obtain ⟨news, hnews⟩ : ∃ news, news = cs.drop ((i + 1) * 2) := ⟨_, rfl⟩
  rw [← hnews] at hdl ⊢
  obtain ⟨A, hA, hsrc⟩ : ∃ A : Addr, (if c = i + 1 then some (⟨g, 0, none⟩ : Addr) else some ⟨g, (i + 1) * 2, none⟩) = some A ∧ Hid (∀ t u, news[t]? = some u → w.drew.cell? (A.add t) = some u) := by
    by_cases h : c = i + 1
    · refine ⟨⟨g, 0, none⟩, by simp [h], fun t u hu => ?_⟩
      have h0 : news.length = 0 := by omega
      rw [List.length_eq_zero_iff.1 h0] at hu
      simp at hu
    · refine ⟨⟨g, (i + 1) * 2, none⟩, by simp [h], fun t u hu => ?_⟩
      rw [Addr.add_lit]
      rw [hnews, List.getElem?_drop] at hu
      exact hcs _ u hu
  have s1 : Hid (news.length = (n - (i + 1)) * 2) := by show news.length = _; omega
  have s2 : Hid (∀ u ∈ news, u.oneCell' = true) := fun u hu => h1c u (List.mem_of_mem_drop (by rw [← hnews]; exact hu))
  have s3 : Hid (∀ t, t < news.length → (w.drew.cell? ⟨g, 0 + i * 2 + t, none⟩).isSome = true ∧ w.drew.frozen? ⟨g, 0 + i * 2 + t, none⟩ = false) := fun t ht => by
    rw [Nat.zero_add]
    exact ⟨hsome _ (by omega), hfz _⟩
  obtain ⟨W1, hW1⟩ : ∃ W1, W1 = w.drew.setCells g (0 + i * 2) news := ⟨_, rfl⟩
  have hsp1 : ∀ k, k < n * 2 → (W1.cell? ⟨g, k, none⟩).isSome = true := fun k hk => by
    rw [hW1]
    exact isSome_setCells g news (0 + i * 2) w.drew (fun j hj => (s3.out j hj).1) k (hsome k hk)
  have hn2 : i + (n - (i + 1)) = n - 1 := by omega
  have hcl' : ∀ ty cc, (Builtin.clear_ #[82] ty #[.slice (some ⟨g, (i + (n - (i + 1))) * 2, none⟩) (n - (i + (n - (i + 1)))) cc]).run Tryd.prog W1 = .ok (.tuple #[]) (W1.setCells g ((n - 1) * 2) (two 0 0)) := fun ty cc => by
    rw [hn2, show n - (n - 1) = 1 by omega]
    exact run_clear_two W1 _ _ ty (.agg #[.int .i64 0, .int .i64 0]) _ _ Tryd.underlying82 Tryd.zeroValue65 rfl rfl rfl g ((n - 1) * 2) cc (fun j hj => hsp1 _ (by omega)) (fun j hj => by rw [hW1, World.frozen?_setCells]; exact hfz _)
  rw [← hW1, Nat.zero_add]
  have hW : Hid (W1 = w.drew.setCells g (0 + i * 2) news) := hW1
  have hic : i ≤ c := by omega
  have hin : i + 1 ≤ n := by omega
  have hjc : i + 1 ≤ c := by omega
  have hm0 : i + (n - (i + 1)) ≤ n := by omega
  have hm1 : (i : Int) + ((n - (i + 1) : Nat) : Int) ≤ (n : Int) := by omega
  have hm2 : ¬ (c = i + (n - (i + 1))) := by omega
  have HN2 := Lib.hid hn2
  clear hn2
  have hI0 : (0 : Int) ≤ (i : Int) + 1 := by omega
  have hI1 : (i : Int) + 1 ≤ (n : Int) := by omega
  have htn : ((i : Int) + 1).toNat = i + 1 := by omega
  have mixed : Tryd.prog.follows .mixedOrders = true := by kernel_rfl
  clear hW1 hsp1 hsome hcs hfz h1c hz0 hz2 hnews hdl hcl
  go_enter Tryd.func68, Tryd.ntmps68
  go_wp2_with fail
  go_region_law_o (refine step_append_room rfl (.tmp 22) (.tmp 25) 82 rfl 65 i0 2 Tryd.underlying82 hi0 hz1 g 0 i c (by simp [Act.eval, Act.put]) A (n - (i + 1)) (c - (i + 1)) news (by simp [Act.eval, Act.put]) s1.out hsrc.out s2.out (by omega) s3.out ?_; rw [← hW.out])
  go_wp2
  go_ret
  exact ⟨by rw [HN2.out]; rfl, rfl⟩

/-- slices.Insert of one. -/
theorem ins_mb (n : Nat) (cs : List Value) (i : Nat) (hi : i ≤ n) (hl : n ≤ 1000000) (x y : Int) (a : Option Addr) (cap : Nat) (w : World) (h : RowB w 65 n cs a cap) (h1c : ∀ v ∈ cs, v.oneCell' = true) :
    Calls Tryd.prog 72 #[.slice a n cap, .int .i64 i, .slice (some ⟨w.heap.size, 0, none⟩) 1 1] (w.alloc (.cells #[.int .i64 x, .int .i64 y] 65))
      fun e w' => ∃ a' cap', e = .returned (.slice a' (n + 1) cap') ∧ MovedB w w' 65 (n + 1) (cs.take (i * 2) ++ two x y ++ cs.drop (i * 2)) a a' cap' := by
  have hM : More w (w.alloc (.cells #[.int .i64 x, .int .i64 y] 65)) := (More.refl w).alloc _
  have hN : (w.alloc (.cells #[.int .i64 x, .int .i64 y] 65)).heap[w.heap.size]? = some (.cells #[.int .i64 x, .int .i64 y] 65 (0, 0)) := heap_new w _
  have hlt := h.lt
  have h := h.keep hM (fun _ _ q => q)
  generalize w.alloc (.cells #[.int .i64 x, .int .i64 y] 65) = W at h hM hN ⊢
  have hz : (Value.agg #[.int .i64 0, .int .i64 0]).cells.size = 2 := rfl
  have hG : ∀ c, n + 1 ≤ grownCap W (n + 1) c 65 := fun c => grownCap_ge W _ _ _
  have hGm : ∀ c, grownCap W (n + 1) c 65 ≤ maxLen := fun c => grownCap_le_maxLen W _ c _ (by unfold maxLen; omega)
  have hbig : (n + 1) * 16 ≤ 140737488355328 := by omega
  obtain ⟨hcl, h⟩ := h
  by_cases hroom : n + 1 ≤ cap
  · rcases h with ⟨rfl, rfl, hx⟩ | ⟨g, cur, rfl, hg, hn, hm, hs, ht⟩
    · omega
    have hgw := hlt g rfl
    have hgc : ∀ j, j < cap * 2 → W.cell? ⟨g, j, none⟩ = cur[j]? := fun j hj => by simp [World.cell?, hg]
    have hgf : ∀ j, W.frozen? ⟨g, j, none⟩ = false := fun j => by simp [World.frozen?, hg]
    have hcs : ∀ j v, cs[j]? = some v → W.cell? ⟨g, j, none⟩ = some v := fun j v hj => by
      have hj' : j < cs.length := (List.getElem?_eq_some_iff.1 hj).1
      rw [hgc j (by omega), ← Array.getElem?_toList]
      rw [← ht, List.getElem?_take, if_pos (by omega)] at hj
      exact hj
    have hsp : ∀ j, j < (n + 1) * 2 → (W.cell? ⟨g, j, none⟩).isSome = true := fun j hj => by rw [hgc j (by omega), Array.getElem?_eq_getElem (by omega)]; rfl
    by_cases hin : i < n
    · refine (insB_shift g n cap i w.heap.size cs x y W hin hroom (by unfold maxLen at hm; omega) (by omega) hcl hcs hsp hgf hN h1c (cap * 2) (by simp [World.shape?, hg, hs]) (by omega)).mono ?_
      rintro e w' ⟨rfl, rfl⟩
      exact ⟨_, _, rfl, (movedB_shift (two x y) rfl hcl hg hroom hm hs ht hi).low hM hlt⟩
    · obtain rfl : i = n := by omega
      refine (insB_end g i cap w.heap.size x y W hroom (by unfold maxLen at hm; omega) hsp hgf hN).mono ?_
      rintro e w' ⟨rfl, rfl⟩
      exact ⟨_, _, rfl, (movedB_end (two x y) rfl hcl hg hroom hm hs ht).low hM hlt⟩
  · have hcap : n ≤ cap := by
      rcases h with ⟨rfl, rfl, hx⟩ | ⟨g, cur, rfl, hg, hn, _⟩
      · omega
      · omega
    have hcs : ∀ g, a = some ⟨g, 0, none⟩ → ∀ j v, cs[j]? = some v → W.cell? ⟨g, j, none⟩ = some v := fun g ha j v hj => by
      rcases h with ⟨rfl, _⟩ | ⟨g', cur, hh, hg, hn, hm, hs, ht⟩
      · cases ha
      · rw [ha] at hh
        cases hh
        have hj' : j < cs.length := (List.getElem?_eq_some_iff.1 hj).1
        rw [← ht, List.getElem?_take, if_pos (by omega)] at hj
        simp [World.cell?, hg]
        simpa using hj
    by_cases hin : i < n
    · rcases h with ⟨rfl, rfl, hx⟩ | ⟨g, cur, rfl, hg, hn, hm, hs, ht⟩
      · omega
      refine (insB_grow g n cap i w.heap.size cs x y W hin hcap (by omega) hbig hcl (hcs g rfl) h1c hN).mono ?_
      rintro e w' ⟨rfl, rfl⟩
      exact ⟨_, _, rfl, (movedB_new (w := W) (two x y) (Value.agg #[.int .i64 0, .int .i64 0]) rfl hcl hz (hG cap) (hGm cap) hi).low hM hlt⟩
    · obtain rfl : i = n := by omega
      refine (insB_grow_end a i cap w.heap.size cs x y W hcap (by omega) hbig hcl
        (fun ha => by
          rcases h with ⟨_, _, hx⟩ | ⟨g, cur, hh, _⟩
          · exact hx
          · rw [ha] at hh; cases hh)
        (fun b hb => by
          rcases h with ⟨hh, _⟩ | ⟨g, cur, hh, _⟩
          · rw [hb] at hh; cases hh
          · rw [hb] at hh; cases hh; exact ⟨g, rfl⟩) hcs hN).mono ?_
      rintro e w' ⟨rfl, rfl⟩
      exact ⟨_, _, rfl, (movedB_new_end (w := W) (two x y) (Value.agg #[.int .i64 0, .int .i64 0]) rfl hcl hz (hG cap) (hGm cap)).low hM hlt⟩

/-- slices.Delete of one. -/
theorem del_mb (n : Nat) (cs : List Value) (i : Nat) (hi : i < n) (a : Option Addr) (cap : Nat) (w : World) (h : RowB w 65 n cs a cap) (h1c : ∀ v ∈ cs, v.oneCell' = true) :
    Calls Tryd.prog 68 #[.slice a n cap, .int .i64 i, .int .i64 ((i : Int) + 1)] w
      fun e w' => ∃ a' cap', e = .returned (.slice a' (n - 1) cap') ∧ MovedB w w' 65 (n - 1) (cs.take (i * 2) ++ cs.drop ((i + 1) * 2)) a a' cap' := by
  obtain ⟨hcl, ⟨rfl, rfl, hx⟩ | ⟨g, cur, rfl, hg, hn, hm, hs, ht⟩⟩ := h
  · omega
  have hcs : ∀ j v, cs[j]? = some v → w.cell? ⟨g, j, none⟩ = some v := fun j v hj => by
    have hj' : j < cs.length := (List.getElem?_eq_some_iff.1 hj).1
    rw [← ht, List.getElem?_take, if_pos (by omega)] at hj
    simp [World.cell?, hg]
    simpa using hj
  refine (delB_run g n cap i cs w hi hn (by unfold maxLen at hm; omega) hcl hcs (fun j => by simp [World.frozen?, hg]) h1c).mono ?_
  rintro e w' ⟨rfl, rfl⟩
  exact ⟨_, _, rfl, movedB_cut (two 0 0) rfl hcl hg hn hm hs ht hi⟩

set_option maxHeartbeats 2000000 in
set_option maxRecDepth 100000 in
theorem clone_mb_some (g n c : Nat) (news : List Value) (w : World) (hl : news.length = n * 2) (hn : n ≤ 1000000) (hc : ∀ j u, news[j]? = some u → w.cell? ⟨g, j, none⟩ = some u) (h1 : ∀ u ∈ news, u.oneCell' = true) :
    Calls Tryd.prog 47 #[.slice (some ⟨g, 0, none⟩) n c] w fun e w' => ∃ v', e = .returned v' ∧ w'.ownsRow w.heap.size 65 2 v' n news ∧ Below w.heap.size w w' := by
  obtain ⟨i0, hi0, hz0, hz1, hz2⟩ := info_mb
  have q22 : ∀ (w : World) (a : Option Addr) (n c n' c' : Nat), (binOp .eql 82 (.slice a n c) (.slice none n' c')).run Tryd.prog w = .ok (.bool a.isNone) w := fun w a n c n' c' => Lib.run_eql_slice_nil w _ _ a n c n' c' Tryd.underlying82
  have A := Lib.hid hc
  clear hc
  go_enter Tryd.func47, Tryd.ntmps47
  go_wp2_with (at_builtin; refine wpList_append_own _ rfl _ _ 82 rfl w.heap.size 65 i0 (.agg #[.int .i64 0, .int .i64 0]) 2 16 Tryd.underlying82 hi0 hz0 hz1 hz2 rfl (by omega) _ _ _ rfl (World.ownsRow_made w #[] 0 (Nat.le_refl _) (Nat.zero_le _) (by simp)) ⟨g, 0, none⟩ n c news rfl ?qc1 ?qc2 ?qc3 ?qc4 ?qc5 ?qc6 ?_)
  case qc1 => exact hl
  case qc2 =>
    intro j u hj
    rw [Addr.add_lit, Nat.zero_add]
    exact Lib.cell?_alloc_some _ (A.out j u hj)
  case qc3 => exact h1
  case qc4 => unfold maxLen; omega
  case qc5 => omega
  case qc6 => simp
  intro v' w1 hown hgrow hnil
  go_wp2
  go_ret
  refine ⟨v', rfl, by simpa using hown, ?_⟩
  exact ((Below.refl _ w).alloc (Nat.le_refl _) _).grown hgrow (by simp) (by intro k hk; simp [Value.ownBlock] at hk; omega)
theorem clone_mb_nil (n c : Nat) (w : World) : Calls Tryd.prog 47 #[.slice none n c] w fun e w' => e = .returned (.slice none 0 0) ∧ w' = w := by
  have q22 : ∀ (w : World) (a : Option Addr) (n c n' c' : Nat), (binOp .eql 82 (.slice a n c) (.slice none n' c')).run Tryd.prog w = .ok (.bool a.isNone) w := fun w a n c n' c' => Lib.run_eql_slice_nil w _ _ a n c n' c' Tryd.underlying82
  go_enter Tryd.func47, Tryd.ntmps47
  go_wp2
  go_ret
  exact ⟨rfl, rfl⟩
/-- slices.Clone. -/
theorem clone_mb (n : Nat) (cs : List Value) (hl : n ≤ 1000000) (a : Option Addr) (cap : Nat) (w : World) (h : RowB w 65 n cs a cap) (h1c : ∀ v ∈ cs, v.oneCell' = true) :
    Calls Tryd.prog 47 #[.slice a n cap] w
      fun e w' => ∃ a' cap', e = .returned (.slice a' n cap') ∧ RowB w' 65 n cs a' cap' ∧ More w w' ∧ ∀ k, owned a' k → w.heap.size ≤ k := by
  obtain ⟨hcl, ⟨rfl, rfl, hx⟩ | ⟨g, cur, rfl, hg, hn, hm, hs, ht⟩⟩ := h
  · subst hx
    have : cs = [] := List.length_eq_zero_iff.1 (by omega)
    subst this
    refine (clone_mb_nil 0 0 w).mono ?_
    rintro e w' ⟨rfl, rfl⟩
    exact ⟨_, _, rfl, RowB.nil _ _, More.refl _, fun k hk => by cases hk⟩
  · refine (clone_mb_some g n cap cs w hcl hl (fun j v hj => by
      have hj' : j < cs.length := (List.getElem?_eq_some_iff.1 hj).1
      rw [← ht, List.getElem?_take, if_pos (by omega)] at hj
      simp [World.cell?, hg]
      simpa using hj) h1c).mono ?_
    rintro e w' ⟨v', rfl, hown, hB⟩
    obtain ⟨a', cap', rfl, hr, hb⟩ := RowB.of_own hown
    exact ⟨_, _, rfl, hr, ⟨hB.os, hB.tape, hB.output, hB.size, fun k hk _ => hB.block k hk⟩, hb⟩
end Go.Proofs.YtahejbahnhohcaaDoor
