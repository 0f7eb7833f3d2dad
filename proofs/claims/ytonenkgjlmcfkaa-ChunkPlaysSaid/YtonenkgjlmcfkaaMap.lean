/-
  The landed package sorted: a map in memory, and what each of its functions makes of it.
-/
import Derived.Test.YtonenkgjlmcfkaaMapLib
import Derived.Test.YtonenkgjlmcfkaaMapD
import Derived.Handy
namespace Go.Proofs.Ytonenkgjlmcfkaa
open Go.RowKit Go.Sort
set_option linter.unusedVariables false
set_option linter.unusedSimpArgs false

/-- The cells of a list of keys and of what they have. -/
def keyCells (D : List KV) : List Value := (keysOf D).map (Value.int .i64)
def valCells (D : List KV) : List Value := (valsOf D).map (Value.int .i64)
theorem keysOf_len (D : List KV) : (keysOf D).length = D.length := by simp [keysOf]
theorem valsOf_len (D : List KV) : (valsOf D).length = D.length := by simp [valsOf]
theorem keyCells_len (D : List KV) : (keyCells D).length = D.length := by simp [keyCells, keysOf]
theorem valCells_len (D : List KV) : (valCells D).length = D.length := by simp [valCells, valsOf]

/-- At p, in the blocks F, a map of the things D. -/
structure MapAt (w : World) (F : Nat → Prop) (p : Nat) (D : List KV) : Prop where
  asc : Asc D
  small : D.length ≤ 100000
  lt : ∀ k, F k → k < w.heap.size
  ex : ∃ ka kc va vc, w.heap[p]? = some (.cells #[.slice ka D.length kc, .slice va D.length vc] 104 (0, 0)) ∧ RowAt w 3 (keyCells D) ka kc ∧ RowAt w 3 (valCells D) va vc ∧ F p ∧
    (∀ k, owned ka k → F k ∧ k ≠ p) ∧ (∀ k, owned va k → F k ∧ k ≠ p ∧ ¬ owned ka k)

theorem MapAt.keep {w w' : World} {F S : Nat → Prop} {p : Nat} {D : List KV} (h : MapAt w F p D) (ht : Turned S w w') (hs : ∀ k, F k → ¬ S k) : MapAt w' F p D := by
  obtain ⟨ka, kc, va, vc, hp, hk, hv, fp, fk, fv⟩ := h.ex
  exact ⟨h.asc, h.small, fun k hk => Nat.lt_of_lt_of_le (h.lt k hk) ht.size, ka, kc, va, vc, by rw [Turned.block ht p (lt_of_heap hp) (hs p fp)]; exact hp,
    hk.keep ht (fun k q => hs k (fk k q).1), hv.keep ht (fun k q => hs k (fv k q).1), fp, fk, fv⟩
theorem MapAt.more {w w' : World} {F : Nat → Prop} {p : Nat} {D : List KV} (h : MapAt w F p D) (ht : More w w') : MapAt w' F p D := h.keep ht (fun _ _ q => q)
theorem more_drewN (w : World) (q : Nat) : More w (w.drewN q) := (More.refl w).drewN q

theorem sorted_keys {D : List KV} (h : Asc D) : (keysOf D).Pairwise (· ≤ ·) := by
  unfold keysOf Asc at *
  rw [List.pairwise_map]
  exact h.imp (fun {a b} q => by omega)
theorem count_keys (D : List KV) (k : Int) : (keysOf D).countP (· < k) = pos D k := by
  unfold keysOf pos
  rw [List.countP_map]; rfl
theorem has_keys (D : List KV) (k : Int) : (keysOf D).contains k = (look D k).isSome := by
  rw [Bool.eq_iff_iff]
  rw [List.contains_iff_mem]
  unfold keysOf
  rw [List.mem_map]
  constructor
  · rintro ⟨p, hp, rfl⟩
    cases e : look D p.1 with
    | some v => rfl
    | none => exact absurd rfl (look_none_iff.1 e p hp)
  · intro h
    cases e : look D k with
    | none => rw [e] at h; cases h
    | some v => exact ⟨_, look_mem e, rfl⟩


theorem cell_of {w : World} {p : Nat} {a b : Value} {T : TypeId} (h : w.heap[p]? = some (.cells #[a, b] T (0, 0))) : w.cell? ⟨p, 0, none⟩ = some a ∧ w.cell? ⟨p, 1, none⟩ = some b ∧ (∀ j, w.frozen? ⟨p, j, none⟩ = false) ∧ p < w.heap.size :=
  ⟨by simp [World.cell?, h], by simp [World.cell?, h], fun j => by simp [World.frozen?, h], lt_of_heap h⟩

theorem search_map {w : World} {D : List KV} (hD : Asc D) (hs : D.length ≤ 100000) (k : Int) {ka : Option Addr} {kc : Nat} (hk : RowAt w 3 (keyCells D) ka kc) :
    Calls Try.prog 83 #[.slice ka D.length kc, .int .i64 k] w fun e w' => e = .returned (.tuple #[.int .i64 (pos D k : Nat), .bool (look D k).isSome]) ∧ ∃ q, w' = w.drewN q := by
  have S := search (keysOf D) k ka kc w hk (sorted_keys hD) (by rw [keysOf_len]; omega)
  rw [keysOf_len, count_keys, has_keys] at S
  exact S

set_option maxHeartbeats 1000000 in
/-- Where a key is. -/
theorem find_ok (F : Nat → Prop) (p : Nat) (D : List KV) (k : Int) (w : World) (h : MapAt w F p D) :
    Calls Try.prog 82 #[.pointer (some ⟨p, 0, none⟩), .int .i64 k] w fun e w' => e = .returned (.tuple #[.int .i64 (pos D k : Nat), .bool (look D k).isSome]) ∧ ∃ q, w' = w.drewN q := by
  obtain ⟨ka, kc, va, vc, hp, hk, hv, _⟩ := h.ex
  obtain ⟨c0, c1, f0, hlt⟩ := cell_of hp
  have C := Lib.hid (search_map h.asc h.small k hk)
  clear h hp hk hv
  generalize pos D k = i at C ⊢
  generalize (look D k).isSome = b at C ⊢
  generalize D.length = n at c0 c1 C
  go_enter Try.func82, Try.ntmps82
  go_wp2_with (go_at_call 83; refine C.out.mono ?_; rintro e w' ⟨rfl, q, rfl⟩)
  go_ret2
  exact ⟨rfl, q, rfl⟩
set_option maxHeartbeats 1000000 in
theorem find_nil (k : Int) (w : World) :
    Calls Try.prog 82 #[.pointer none, .int .i64 k] w fun e w' => e = .returned (.tuple #[.int .i64 0, .bool false]) ∧ w' = w := by
  go_enter Try.func82, Try.ntmps82
  go_wp2_with fail
  go_ret2
  exact ⟨rfl, rfl⟩
set_option maxHeartbeats 1000000 in
/-- Len. -/
theorem len_ok (F : Nat → Prop) (p : Nat) (D : List KV) (w : World) (h : MapAt w F p D) :
    Calls Try.prog 80 #[.pointer (some ⟨p, 0, none⟩)] w fun e w' => e = .returned (.int .i64 D.length) ∧ w' = w := by
  obtain ⟨ka, kc, va, vc, hp, hk, hv, _⟩ := h.ex
  obtain ⟨c0, c1, f0, hlt⟩ := cell_of hp
  clear h hp hk hv
  generalize D.length = n at c0 c1 ⊢
  go_enter Try.func80, Try.ntmps80
  go_wp2_with fail
  go_ret
  exact ⟨rfl, rfl⟩
set_option maxHeartbeats 1000000 in
/-- Get. -/
theorem get_ok (F : Nat → Prop) (p : Nat) (D : List KV) (k : Int) (w : World) (h : MapAt w F p D) :
    Calls Try.prog 76 #[.pointer (some ⟨p, 0, none⟩), .int .i64 k] w fun e w' => e = .returned (.tuple #[.int .i64 ((look D k).getD 0), .bool (look D k).isSome]) ∧ ∃ q, w' = w.drewN q := by
  have C := Lib.hid (find_ok F p D k w h)
  have hasc := h.asc
  obtain ⟨ka, kc, va, vc, hp, hk, hv, _⟩ := h.ex
  obtain ⟨c0, c1, f0, hlt⟩ := cell_of hp
  cases e : look D k with
  | none =>
    rw [e] at C
    clear h hp hk hv e hasc
    generalize D.length = n at c0 c1
    go_enter Try.func76, Try.ntmps76
    go_wp2_with (go_at_call 82; refine C.out.mono ?_; rintro e w' ⟨rfl, q, rfl⟩)
    go_ret2
    exact ⟨rfl, q, rfl⟩
  | some v =>
    rw [e] at C
    obtain ⟨A, B, hD, hl, _⟩ := hasc.with e
    have hi : pos D k < D.length := by rw [← hl, hD]; simp
    obtain ⟨g, rfl, hg, hc, hf⟩ := hv.reads (by rw [valCells_len]; omega)
    have cv : w.cell? ⟨g, pos D k, none⟩ = some (.int .i64 v) := hc _ _ (by rw [← hl]; unfold valCells valsOf; rw [hD]; simp)
    clear h hp hk hv e hasc hc hD hl
    generalize pos D k = i at C cv hi
    generalize D.length = n at c0 c1 hi
    go_enter Try.func76, Try.ntmps76
    go_wp2_with (go_at_call 82; refine C.out.mono ?_; rintro e w' ⟨rfl, q, rfl⟩)
    go_ret2
    exact ⟨rfl, q, rfl⟩
set_option maxHeartbeats 1000000 in
/-- At. -/
theorem at_ok (F : Nat → Prop) (p : Nat) (D : List KV) (i : Nat) (q : KV) (w : World) (h : MapAt w F p D) (hq : D[i]? = some q) :
    Calls Try.prog 81 #[.pointer (some ⟨p, 0, none⟩), .int .i64 i] w fun e w' => e = .returned (.tuple #[.int .i64 q.1, .int .i64 q.2, .bool true]) ∧ ∃ n, w' = w.drewN n := by
  have C := Lib.hid (len_ok F p D w h)
  have hi : i < D.length := (List.getElem?_eq_some_iff.1 hq).1
  obtain ⟨ka, kc, va, vc, hp, hk, hv, _⟩ := h.ex
  obtain ⟨c0, c1, f0, hlt⟩ := cell_of hp
  obtain ⟨g, rfl, hg, hc, hf⟩ := hv.reads (by rw [valCells_len]; omega)
  obtain ⟨g2, rfl, hg2, hc2, hf2⟩ := hk.reads (by rw [keyCells_len]; omega)
  have cv : w.cell? ⟨g, i, none⟩ = some (.int .i64 q.2) := hc _ _ (by unfold valCells valsOf; simp [hq])
  have ck : w.cell? ⟨g2, i, none⟩ = some (.int .i64 q.1) := hc2 _ _ (by unfold keyCells keysOf; simp [hq])
  have hs := h.small
  clear h hp hk hv hc hc2 hq
  have d1 : decide ((i : Int) < 0) = false := by simp
  have d2 : decide ((D.length : Int) ≤ (i : Int)) = false := by simp; omega
  generalize D.length = n at c0 c1 hi C hs d2
  obtain ⟨qk, qv⟩ := q
  simp only at cv ck ⊢
  go_enter Try.func81, Try.ntmps81
  go_wp2_with (go_at_call 80; refine C.out.mono ?_; rintro e w' ⟨rfl, rfl⟩)
  go_quiet (fail)
  go_wp2_with fail
  go_ret3
  exact ⟨rfl, _, rfl⟩
set_option maxHeartbeats 1000000 in
theorem at_none (F : Nat → Prop) (p : Nat) (D : List KV) (i : Int) (w : World) (h : MapAt w F p D) (hi : i < 0 ∨ (D.length : Int) ≤ i) :
    Calls Try.prog 81 #[.pointer (some ⟨p, 0, none⟩), .int .i64 i] w fun e w' => e = .returned (.tuple #[.int .i64 0, .int .i64 0, .bool false]) ∧ w' = w := by
  have C := Lib.hid (len_ok F p D w h)
  clear h
  by_cases h0 : i < 0
  · have d1 : decide (i < 0) = true := by simp; omega
    clear hi
    go_enter Try.func81, Try.ntmps81
    go_wp2_with fail
    go_ret3
    exact ⟨rfl, rfl⟩
  · have d1 : decide (i < 0) = false := by simp; omega
    have d2 : decide ((D.length : Int) ≤ i) = true := by simp; omega
    generalize D.length = n at C hi d2
    go_enter Try.func81, Try.ntmps81
    go_wp2_with (go_at_call 80; refine C.out.mono ?_; rintro e w' ⟨rfl, rfl⟩)
    go_ret3
    exact ⟨rfl, rfl⟩
end Go.Proofs.Ytonenkgjlmcfkaa
