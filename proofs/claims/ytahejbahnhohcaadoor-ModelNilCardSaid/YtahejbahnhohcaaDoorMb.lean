/-
  The landed package sorted: a map in memory, and what each of its functions makes of it.
-/
import Derived.Test.YtahejbahnhohcaaDoorMbLib
import Derived.Test.YtahejbahnhohcaaDoorMdK
import Derived.Test.YtahejbahnhohcaaDoorMbD
import Derived.Handy
namespace Go.Proofs.YtahejbahnhohcaaDoor
open Go.RowKit Go.Sort
set_option linter.unusedVariables false
set_option linter.unusedSimpArgs false

/-- The cells of a list of keys and of what they have. -/
def b_keyCells (D : List BKV) : List Value := (b_keysOf D).map (Value.int .i64)
def b_valCells (D : List BKV) : List Value := (b_valsOf D).flatMap fun v => two v.1 v.2
theorem b_keysOf_len (D : List BKV) : (b_keysOf D).length = D.length := by simp [b_keysOf]
theorem b_valsOf_len (D : List BKV) : (b_valsOf D).length = D.length := by simp [b_valsOf]
theorem b_keyCells_len (D : List BKV) : (b_keyCells D).length = D.length := by simp [b_keyCells, b_keysOf]
theorem flat_two_len : ∀ L : List (Int × Int), (L.flatMap fun v => two v.1 v.2).length = L.length * 2
  | [] => rfl
  | v :: L => by rw [List.flatMap_cons, List.length_append, flat_two_len L, List.length_cons, two, List.length_cons, List.length_cons, List.length_nil]; omega
theorem b_valCells_len (D : List BKV) : (b_valCells D).length = D.length * 2 := by rw [b_valCells, flat_two_len, b_valsOf_len]
theorem flat_two_get : ∀ (L : List (Int × Int)) (i : Nat) (v : Int × Int), L[i]? = some v → (L.flatMap fun v => two v.1 v.2)[i * 2]? = some (.int .i64 v.1) ∧ (L.flatMap fun v => two v.1 v.2)[i * 2 + 1]? = some (.int .i64 v.2)
  | [], i, v, h => by cases h
  | u :: L, 0, v, h => by
    simp at h; subst h
    exact ⟨rfl, rfl⟩
  | u :: L, i + 1, v, h => by
    have := flat_two_get L i v (by simpa using h)
    rw [List.flatMap_cons, show (i + 1) * 2 = i * 2 + 1 + 1 by omega]
    exact this
theorem b_valCells_get {D : List BKV} {i : Nat} {p : BKV} (h : D[i]? = some p) : (b_valCells D)[i * 2]? = some (.int .i64 p.2.1) ∧ (b_valCells D)[i * 2 + 1]? = some (.int .i64 p.2.2) := flat_two_get _ i p.2 (by simp [b_valsOf, h])
theorem b_valCells_one (D : List BKV) : ∀ v ∈ b_valCells D, v.oneCell' = true := by
  intro v hv
  obtain ⟨u, _, hu⟩ := List.mem_flatMap.1 hv
  exact two_one _ _ v hu

/-- At p, in the blocks F, a map of the things D. -/
structure BMapAt (w : World) (F : Nat → Prop) (p : Nat) (D : List BKV) : Prop where
  asc : BAsc D
  small : D.length ≤ 100000
  lt : ∀ k, F k → k < w.heap.size
  ex : ∃ ka kc va vc, w.heap[p]? = some (.cells #[.slice ka D.length kc, .slice va D.length vc] 84 (0, 0)) ∧ RowAt w 3 (b_keyCells D) ka kc ∧ RowB w 65 D.length (b_valCells D) va vc ∧ F p ∧
    (∀ k, owned ka k → F k ∧ k ≠ p) ∧ (∀ k, owned va k → F k ∧ k ≠ p ∧ ¬ owned ka k)

theorem BMapAt.keep {w w' : World} {F S : Nat → Prop} {p : Nat} {D : List BKV} (h : BMapAt w F p D) (ht : Turned S w w') (hs : ∀ k, F k → ¬ S k) : BMapAt w' F p D := by
  obtain ⟨ka, kc, va, vc, hp, hk, hv, fp, fk, fv⟩ := h.ex
  exact ⟨h.asc, h.small, fun k hk => Nat.lt_of_lt_of_le (h.lt k hk) ht.size, ka, kc, va, vc, by rw [Turned.block ht p (lt_of_heap hp) (hs p fp)]; exact hp,
    hk.keep ht (fun k q => hs k (fk k q).1), hv.keep ht (fun k q => hs k (fv k q).1), fp, fk, fv⟩
theorem BMapAt.more {w w' : World} {F : Nat → Prop} {p : Nat} {D : List BKV} (h : BMapAt w F p D) (ht : More w w') : BMapAt w' F p D := h.keep ht (fun _ _ q => q)
theorem more_drewN (w : World) (q : Nat) : More w (w.drewN q) := (More.refl w).drewN q

theorem b_sorted_keys {D : List BKV} (h : BAsc D) : (b_keysOf D).Pairwise (· ≤ ·) := by
  unfold b_keysOf BAsc at *
  rw [List.pairwise_map]
  exact h.imp (fun {a b} q => by omega)
theorem b_count_keys (D : List BKV) (k : Int) : (b_keysOf D).countP (· < k) = b_pos D k := by
  unfold b_keysOf b_pos
  rw [List.countP_map]; rfl
theorem b_has_keys (D : List BKV) (k : Int) : (b_keysOf D).contains k = (b_look D k).isSome := by
  rw [Bool.eq_iff_iff]
  rw [List.contains_iff_mem]
  unfold b_keysOf
  rw [List.mem_map]
  constructor
  · rintro ⟨p, hp, rfl⟩
    cases e : b_look D p.1 with
    | some v => rfl
    | none => exact absurd rfl (b_look_none_iff.1 e p hp)
  · intro h
    cases e : b_look D k with
    | none => rw [e] at h; cases h
    | some v => exact ⟨_, b_look_mem e, rfl⟩


theorem cell_of {w : World} {p : Nat} {a b : Value} {T : TypeId} (h : w.heap[p]? = some (.cells #[a, b] T (0, 0))) : w.cell? ⟨p, 0, none⟩ = some a ∧ w.cell? ⟨p, 1, none⟩ = some b ∧ (∀ j, w.frozen? ⟨p, j, none⟩ = false) ∧ p < w.heap.size :=
  ⟨by simp [World.cell?, h], by simp [World.cell?, h], fun j => by simp [World.frozen?, h], lt_of_heap h⟩

theorem b_search_map {w : World} {D : List BKV} (hD : BAsc D) (hs : D.length ≤ 100000) (k : Int) {ka : Option Addr} {kc : Nat} (hk : RowAt w 3 (b_keyCells D) ka kc) :
    Calls Tryd.prog 70 #[.slice ka D.length kc, .int .i64 k] w fun e w' => e = .returned (.tuple #[.int .i64 (b_pos D k : Nat), .bool (b_look D k).isSome]) ∧ ∃ q, w' = w.drewN q := by
  have S := search (b_keysOf D) k ka kc w hk (b_sorted_keys hD) (by rw [b_keysOf_len]; omega)
  rw [b_keysOf_len, b_count_keys, b_has_keys] at S
  exact S

set_option maxHeartbeats 1000000 in
/-- Where a key is. -/
theorem b_find_ok (F : Nat → Prop) (p : Nat) (D : List BKV) (k : Int) (w : World) (h : BMapAt w F p D) :
    Calls Tryd.prog 66 #[.pointer (some ⟨p, 0, none⟩), .int .i64 k] w fun e w' => e = .returned (.tuple #[.int .i64 (b_pos D k : Nat), .bool (b_look D k).isSome]) ∧ ∃ q, w' = w.drewN q := by
  obtain ⟨ka, kc, va, vc, hp, hk, hv, _⟩ := h.ex
  obtain ⟨c0, c1, f0, hlt⟩ := cell_of hp
  have C := Lib.hid (b_search_map h.asc h.small k hk)
  clear h hp hk hv
  generalize b_pos D k = i at C ⊢
  generalize (b_look D k).isSome = b at C ⊢
  generalize D.length = n at c0 c1 C
  go_enter Tryd.func66, Tryd.ntmps66
  go_wp2_with (go_at_call 70; refine C.out.mono ?_; rintro e w' ⟨rfl, q, rfl⟩)
  go_ret2
  exact ⟨rfl, q, rfl⟩
set_option maxHeartbeats 1000000 in
theorem b_find_nil (k : Int) (w : World) :
    Calls Tryd.prog 66 #[.pointer none, .int .i64 k] w fun e w' => e = .returned (.tuple #[.int .i64 0, .bool false]) ∧ w' = w := by
  go_enter Tryd.func66, Tryd.ntmps66
  go_wp2_with fail
  go_ret2
  exact ⟨rfl, rfl⟩
set_option maxHeartbeats 1000000 in
/-- Len. -/
theorem b_len_ok (F : Nat → Prop) (p : Nat) (D : List BKV) (w : World) (h : BMapAt w F p D) :
    Calls Tryd.prog 37 #[.pointer (some ⟨p, 0, none⟩)] w fun e w' => e = .returned (.int .i64 D.length) ∧ w' = w := by
  obtain ⟨ka, kc, va, vc, hp, hk, hv, _⟩ := h.ex
  obtain ⟨c0, c1, f0, hlt⟩ := cell_of hp
  clear h hp hk hv
  generalize D.length = n at c0 c1 ⊢
  go_enter Tryd.func37, Tryd.ntmps37
  go_wp2_with fail
  go_ret
  exact ⟨rfl, rfl⟩
theorem two_at {cur : Array Value} {i : Nat} {x y : Int} (h0 : cur[i * 2]? = some (.int .i64 x)) (h1 : cur[i * 2 + 1]? = some (.int .i64 y)) : ∀ j, j < (#[.int .i64 x, .int .i64 y] : Array Value).size → cur[i * 2 + j]? = (#[.int .i64 x, .int .i64 y] : Array Value)[j]? := by
  intro j hj
  match j, hj with
  | 0, _ => simpa using h0
  | 1, _ => simpa using h1
set_option maxHeartbeats 1000000 in
set_option maxRecDepth 100000 in
/-- Get. -/
theorem b_get_ok (F : Nat → Prop) (p : Nat) (D : List BKV) (k : Int) (w : World) (h0 : BMapAt w F p D) :
    Calls Tryd.prog 53 #[.pointer (some ⟨p, 0, none⟩), .int .i64 k] w fun e w' => e = .returned (.tuple #[.agg #[.int .i64 ((b_look D k).getD (0, 0)).1, .int .i64 ((b_look D k).getD (0, 0)).2], .bool (b_look D k).isSome]) ∧ More w w' := by
  obtain ⟨w1, e1, hb1, m1, s1⟩ := entry1 w (.cells #[.int .i64 0, .int .i64 0] 65)
  have h := h0.more m1
  have C := Lib.hid (b_find_ok F p D k w1 h)
  have hasc := h.asc
  obtain ⟨ka, kc, va, vc, hp, hk, hv, _⟩ := h.ex
  obtain ⟨c0, c1, f0, hlt⟩ := cell_of hp
  have M1 := Lib.hid m1
  have HB := Lib.hid hb1
  cases e : b_look D k with
  | none =>
    rw [e] at C
    clear h h0 hp hk hv e hasc m1 hb1 s1
    generalize D.length = n at c0 c1
    go_enter Tryd.func53, Tryd.ntmps53
    go_wp2_with fail
    refine C.out.mono ?_
    rintro e w2 ⟨rfl, q, rfl⟩
    obtain ⟨w3, e3, hb3, m3, s3⟩ := entry1 (w1.drewN q) (.cells #[.int .i64 0, .int .i64 0] 65)
    have HB3 : Hid (w3.heap[w1.heap.size]? = _) := Lib.hid hb3
    have M3 := Lib.hid ((more_drewN w1 q).trans m3)
    have HZ := Lib.hid (M3.out.block HB.out)
    clear hb3 m3 s3
    go_wp2_with (first
      | (refine wpList_load_row rfl 65 _ rfl _ rfl 65 _ _ _ HB3.out Tryd.underlying65 rfl (by kernel_rfl) ?_)
      | (refine wpList_store_row rfl 65 _ _ rfl _ _ rfl rfl 65 _ HZ.out (by kernel_rfl) rfl (by simp [Value.oneCell']) ?_))
    refine bodyPost_ret (v := .tuple #[.agg #[.int .i64 0, .int .i64 0], .bool false]) (results_row2 Tryd.results53 _ _ _ 65 _ (0, 0) _ rfl (setRow_heap _ _ _ _ _ _ HZ.out) Tryd.underlying65 rfl (by kernel_rfl)) rfl ⟨rfl, (M1.out.trans M3.out).setRow _ _ (Nat.le_refl _)⟩
  | some v =>
    rw [e] at C
    obtain ⟨A, B, hD, hl, _⟩ := hasc.with e
    have hi : b_pos D k < D.length := by rw [← hl, hD]; simp
    have hat : D[b_pos D k]? = some (k, v) := by rw [← hl, hD]; simp
    obtain ⟨g, cur, rfl, hg, hnc, hcur⟩ := hv.block (by omega)
    obtain ⟨v1, v2⟩ := v
    have HT := Lib.hid (two_at (hcur _ _ (b_valCells_get hat).1) (hcur _ _ (b_valCells_get hat).2))
    have HG := Lib.hid hg
    clear h h0 hp hk hv e hasc hcur hD hl hat m1 hb1 s1 hg
    generalize b_pos D k = i at C HT hi
    generalize D.length = n at c0 c1 hi hnc
    go_enter Tryd.func53, Tryd.ntmps53
    go_wp2_with fail
    refine C.out.mono ?_
    rintro e w2 ⟨rfl, q, rfl⟩
    have HZ := Lib.hid ((more_drewN w1 q).block HB.out)
    have HG2 := Lib.hid ((more_drewN w1 q).block HG.out)
    have M3 := Lib.hid (M1.out.trans (more_drewN w1 q))
    go_wp2_with (first
      | (refine wpList_load_sub rfl 65 _ rfl _ _ rfl 65 _ _ _ _ HG2.out HT.out Tryd.underlying65 rfl (by kernel_rfl) ?_)
      | (refine wpList_store_row rfl 65 _ _ rfl _ _ rfl rfl 65 _ HZ.out (by kernel_rfl) rfl (by simp [Value.oneCell']) ?_))
    refine bodyPost_ret (v := .tuple #[.agg #[.int .i64 v1, .int .i64 v2], .bool true]) (results_row2 Tryd.results53 _ _ _ 65 _ (0, 0) _ rfl (setRow_heap _ _ _ _ _ _ HZ.out) Tryd.underlying65 rfl (by kernel_rfl)) rfl ⟨rfl, M3.out.setRow _ _ (Nat.le_refl _)⟩

set_option maxHeartbeats 1000000 in
set_option maxRecDepth 100000 in
/-- At. -/
theorem b_at_ok (F : Nat → Prop) (p : Nat) (D : List BKV) (i : Nat) (q : BKV) (w : World) (h0 : BMapAt w F p D) (hq : D[i]? = some q) :
    Calls Tryd.prog 22 #[.pointer (some ⟨p, 0, none⟩), .int .i64 i] w fun e w' => e = .returned (.tuple #[.int .i64 q.1, .agg #[.int .i64 q.2.1, .int .i64 q.2.2], .bool true]) ∧ More w w' := by
  obtain ⟨w1, e1, hb1, m1, s1⟩ := entry1 w (.cells #[.int .i64 0, .int .i64 0] 65)
  have C := Lib.hid (b_len_ok F p D w1 (h0.more m1))
  have hi : i < D.length := (List.getElem?_eq_some_iff.1 hq).1
  obtain ⟨ka, kc, va, vc, hp, hk, hv, _⟩ := h0.ex
  obtain ⟨g, cur, rfl, hg, hnc, hcur⟩ := hv.block (by omega)
  obtain ⟨g2, rfl, hg2, hc2, hf2⟩ := hk.reads (by rw [b_keyCells_len]; omega)
  have n1 : g ≠ w.heap.size := by have := lt_of_heap hg; omega
  have n2 : g2 ≠ w.heap.size := by omega
  have n3 : p ≠ w.heap.size := by have := lt_of_heap hp; omega
  have ck : w1.cell? ⟨g2, i, none⟩ = some (.int .i64 q.1) := m1.cell (hc2 _ _ (by unfold b_keyCells b_keysOf; simp [hq]))
  obtain ⟨qk, v1, v2⟩ := q
  have HT := two_at (hcur _ _ (b_valCells_get hq).1) (hcur _ _ (b_valCells_get hq).2)
  have M1 := Lib.hid m1
  have HB := Lib.hid hb1
  have d1 : decide ((i : Int) < 0) = false := by simp
  have d2 : decide ((D.length : Int) ≤ (i : Int)) = false := by simp; omega
  have hs := h0.small
  obtain ⟨c0, c1, f0, hlt⟩ := cell_of (m1.block hp)
  have cv1 : w1.cell? ⟨g, i * 2, none⟩ = some (.int .i64 v1) := cell_more hg m1 (by have := HT 0 (by simp); simpa using this)
  have cv2 : w1.cell? ⟨g, i * 2 + 1, none⟩ = some (.int .i64 v2) := cell_more hg m1 (by have := HT 1 (by simp); simpa using this)
  have z0 : w1.cell? ⟨w.heap.size, 0, none⟩ = some (.int .i64 0) := cell_more hb1 (More.refl _) rfl
  have z1 : w1.cell? ⟨w.heap.size, 1, none⟩ = some (.int .i64 0) := cell_more hb1 (More.refl _) rfl
  have zf : ∀ j, w1.frozen? ⟨w.heap.size, j, none⟩ = false := fun j => by simp [World.frozen?, hb1]
  have mixed : Tryd.prog.follows .mixedOrders = true := by kernel_rfl
  have FIN : Hid (∀ W, W = (w1.setCell ⟨w.heap.size, 0, none⟩ (.int .i64 v1)).setCell ⟨w.heap.size, 1, none⟩ (.int .i64 v2) → W.drew.heap[w.heap.size]? = some (.cells #[.int .i64 v1, .int .i64 v2] 65 (0, 0)) ∧ More w W.drew) := Lib.hid (fun W hW => by
    subst hW
    exact ⟨heap_pair hb1, (more_pair m1 (Nat.le_refl _) _ _).drewN 1⟩)
  clear h0 hp hk hv hc2 hcur hq m1 hb1 s1 hg hg2 hf2 HT
  generalize D.length = n at c0 c1 hi C hs d2 hnc
  go_enter Tryd.func22, Tryd.ntmps22
  go_wp2_with (go_at_call 37; refine C.out.mono ?_; rintro e w' ⟨rfl, hw'⟩; obtain rfl : w1 = w' := hw'.symm; clear hw')
  go_region
  go_wp2_with fail
  obtain ⟨f1, f2⟩ := FIN.out _ rfl
  refine bodyPost_ret (v := .tuple #[.int .i64 qk, .agg #[.int .i64 v1, .int .i64 v2], .bool true]) (results_mid Tryd.results22 _ _ _ 65 _ (0, 0) _ rfl f1 Tryd.underlying65 rfl (by kernel_rfl)) rfl ⟨rfl, f2⟩

set_option maxHeartbeats 1000000 in
set_option maxRecDepth 100000 in
theorem b_at_none (F : Nat → Prop) (p : Nat) (D : List BKV) (i : Int) (w : World) (h0 : BMapAt w F p D) (hi : i < 0 ∨ (D.length : Int) ≤ i) :
    Calls Tryd.prog 22 #[.pointer (some ⟨p, 0, none⟩), .int .i64 i] w fun e w' => e = .returned (.tuple #[.int .i64 0, .agg #[.int .i64 0, .int .i64 0], .bool false]) ∧ More w w' := by
  obtain ⟨w1, e1, hb1, m1, s1⟩ := entry1 w (.cells #[.int .i64 0, .int .i64 0] 65)
  have C := Lib.hid (b_len_ok F p D w1 (h0.more m1))
  obtain ⟨w3, e3, hb3, m3, s3⟩ := entry1 w1 (.cells #[.int .i64 0, .int .i64 0] 65)
  have hs3 : w1.heap.size ≠ w.heap.size := by omega
  have z0 : w3.cell? ⟨w.heap.size, 0, none⟩ = some (.int .i64 0) := cell_more (m3.block hb1) (More.refl _) rfl
  have z1 : w3.cell? ⟨w.heap.size, 1, none⟩ = some (.int .i64 0) := cell_more (m3.block hb1) (More.refl _) rfl
  have zf : ∀ j, w3.frozen? ⟨w.heap.size, j, none⟩ = false := fun j => by simp [World.frozen?, m3.block hb1]
  have y0 : w3.cell? ⟨w1.heap.size, 0, none⟩ = some (.int .i64 0) := cell_more hb3 (More.refl _) rfl
  have y1 : w3.cell? ⟨w1.heap.size, 1, none⟩ = some (.int .i64 0) := cell_more hb3 (More.refl _) rfl
  have mixed : Tryd.prog.follows .mixedOrders = true := by kernel_rfl
  have FIN : Hid (∀ W, W = (w3.setCell ⟨w.heap.size, 0, none⟩ (.int .i64 0)).setCell ⟨w.heap.size, 1, none⟩ (.int .i64 0) → W.drew.heap[w.heap.size]? = some (.cells #[.int .i64 0, .int .i64 0] 65 (0, 0)) ∧ More w W.drew) := Lib.hid (fun W hW => by
    subst hW
    exact ⟨heap_pair (m3.block hb1), (more_pair (m1.trans m3) (Nat.le_refl _) _ _).drewN 1⟩)
  clear h0 m1 m3 hb1 hb3 s1 s3
  generalize D.length = n at C hi
  have d1 : decide (i < 0) = true ∨ (decide (i < 0) = false ∧ decide ((n : Int) ≤ i) = true) := by
    by_cases h : i < 0
    · exact .inl (by simpa using h)
    · exact .inr ⟨by simpa using h, by simp; omega⟩
  clear hi
  rcases d1 with d1 | ⟨d1, d2⟩
  all_goals
    go_enter Tryd.func22, Tryd.ntmps22
    go_wp2_with (go_at_call 37; refine C.out.mono ?_; rintro e w' ⟨rfl, hw'⟩; obtain rfl : w1 = w' := hw'.symm; clear hw')
    go_region
    go_wp2_with fail
    obtain ⟨f1, f2⟩ := FIN.out _ rfl
    refine bodyPost_ret (v := .tuple #[.int .i64 0, .agg #[.int .i64 0, .int .i64 0], .bool false]) (results_mid Tryd.results22 _ _ _ 65 _ (0, 0) _ rfl f1 Tryd.underlying65 rfl (by kernel_rfl)) rfl ⟨rfl, f2⟩
end Go.Proofs.YtahejbahnhohcaaDoor
