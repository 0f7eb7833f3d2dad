/-
  The landed package sorted: a map in memory, and what each of its functions makes of it.
-/
import Derived.Test.YtflihdcliknggaaMapBase
import Derived.Handy
import Derived.Deep.RegionHeld3
namespace Go.Proofs.Ytflihdcliknggaa
open Go.RowKit Go.Sort
set_option linter.unusedVariables false
set_option linter.unusedSimpArgs false

/-- The cells of a list of keys and of what they have. -/
def keyCells (D : List KV) : List Value := (keysOf D).map (Value.int .i64)
def valCells (D : List KV) : List Value := (valsOf D).map (Value.int .i64)
theorem keysOf_len (D : List KV) : (keysOf D).length = D.length := by simp [keysOf]
theorem valsOf_len (D : List KV) : (valsOf D).length = D.length := by simp [valsOf]
theorem keyCells_len (D : List KV) : (keyCells D).length = D.length := by simp [keyCells, keysOf]
theorem valCells_len (D : List KV) : (valCells D).length = D.length := by simp [valCells, valsOf]

/-- At p, in the blocks F, a map of the things D. -/
structure MapAt (w : World) (F : Nat → Prop) (p : Nat) (D : List KV) : Prop where
  asc : Asc D
  small : D.length ≤ 100000
  lt : ∀ k, F k → k < w.heap.size
  ex : ∃ ka kc va vc, w.heap[p]? = some (.cells #[.slice ka D.length kc, .slice va D.length vc] 70 (0, 0)) ∧ RowAt w 3 (keyCells D) ka kc ∧ RowAt w 3 (valCells D) va vc ∧ F p ∧
    (∀ k, owned ka k → F k ∧ k ≠ p) ∧ (∀ k, owned va k → F k ∧ k ≠ p ∧ ¬ owned ka k)

theorem MapAt.keep {w w' : World} {F S : Nat → Prop} {p : Nat} {D : List KV} (h : MapAt w F p D) (ht : Turned S w w') (hs : ∀ k, F k → ¬ S k) : MapAt w' F p D := by
  obtain ⟨ka, kc, va, vc, hp, hk, hv, fp, fk, fv⟩ := h.ex
  exact ⟨h.asc, h.small, fun k hk => Nat.lt_of_lt_of_le (h.lt k hk) ht.size, ka, kc, va, vc, by rw [Turned.block ht p (lt_of_heap hp) (hs p fp)]; exact hp,
    hk.keep ht (fun k q => hs k (fk k q).1), hv.keep ht (fun k q => hs k (fv k q).1), fp, fk, fv⟩
theorem MapAt.more {w w' : World} {F : Nat → Prop} {p : Nat} {D : List KV} (h : MapAt w F p D) (ht : More w w') : MapAt w' F p D := h.keep ht (fun _ _ q => q)
theorem more_drewN (w : World) (q : Nat) : More w (w.drewN q) := (More.refl w).drewN q

theorem sorted_keys {D : List KV} (h : Asc D) : (keysOf D).Pairwise (· ≤ ·) := by
  unfold keysOf Asc at *
  rw [List.pairwise_map]
  exact h.imp (fun {a b} q => by omega)
theorem count_keys (D : List KV) (k : Int) : (keysOf D).countP (· < k) = pos D k := by
  unfold keysOf pos
  rw [List.countP_map]; rfl
theorem has_keys (D : List KV) (k : Int) : (keysOf D).contains k = (look D k).isSome := by
  rw [Bool.eq_iff_iff]
  rw [List.contains_iff_mem]
  unfold keysOf
  rw [List.mem_map]
  constructor
  · rintro ⟨p, hp, rfl⟩
    cases e : look D p.1 with
    | some v => rfl
    | none => exact absurd rfl (look_none_iff.1 e p hp)
  · intro h
    cases e : look D k with
    | none => rw [e] at h; cases h
    | some v => exact ⟨_, look_mem e, rfl⟩


theorem cell_of {w : World} {p : Nat} {a b : Value} {T : TypeId} (h : w.heap[p]? = some (.cells #[a, b] T (0, 0))) : w.cell? ⟨p, 0, none⟩ = some a ∧ w.cell? ⟨p, 1, none⟩ = some b ∧ (∀ j, w.frozen? ⟨p, j, none⟩ = false) ∧ p < w.heap.size :=
  ⟨by simp [World.cell?, h], by simp [World.cell?, h], fun j => by simp [World.frozen?, h], lt_of_heap h⟩

theorem search_map {w : World} {D : List KV} (hD : Asc D) (hs : D.length ≤ 100000) (k : Int) {ka : Option Addr} {kc : Nat} (hk : RowAt w 3 (keyCells D) ka kc) :
    Calls Try.prog 37 #[.slice ka D.length kc, .int .i64 k] w fun e w' => e = .returned (.tuple #[.int .i64 (pos D k : Nat), .bool (look D k).isSome]) ∧ ∃ q, w' = w.drewN q := by
  have S := search (keysOf D) k ka kc w hk (sorted_keys hD) (by rw [keysOf_len]; omega)
  rw [keysOf_len, count_keys, has_keys] at S
  exact S

set_option maxHeartbeats 1000000 in
/-- Where a key is. -/
theorem find_ok (F : Nat → Prop) (p : Nat) (D : List KV) (k : Int) (w : World) (h : MapAt w F p D) :
    Calls Try.prog 39 #[.pointer (some ⟨p, 0, none⟩), .int .i64 k] w fun e w' => e = .returned (.tuple #[.int .i64 (pos D k : Nat), .bool (look D k).isSome]) ∧ ∃ q, w' = w.drewN q := by
  obtain ⟨ka, kc, va, vc, hp, hk, hv, _⟩ := h.ex
  obtain ⟨c0, c1, f0, hlt⟩ := cell_of hp
  have C := Lib.hid (search_map h.asc h.small k hk)
  clear h hp hk hv
  generalize pos D k = i at C ⊢
  generalize (look D k).isSome = b at C ⊢
  generalize D.length = n at c0 c1 C
  go_enter Try.func39, Try.ntmps39
  go_wp2_with (go_at_call 37; refine C.out.mono ?_; rintro e w' ⟨rfl, q, rfl⟩)
  go_ret2
  exact ⟨rfl, q, rfl⟩
set_option maxHeartbeats 1000000 in
theorem find_nil (k : Int) (w : World) :
    Calls Try.prog 39 #[.pointer none, .int .i64 k] w fun e w' => e = .returned (.tuple #[.int .i64 0, .bool false]) ∧ w' = w := by
  go_enter Try.func39, Try.ntmps39
  go_wp2_with fail
  go_ret2
  exact ⟨rfl, rfl⟩
set_option maxHeartbeats 1000000 in
/-- Len. -/
theorem len_ok (F : Nat → Prop) (p : Nat) (D : List KV) (w : World) (h : MapAt w F p D) :
    Calls Try.prog 41 #[.pointer (some ⟨p, 0, none⟩)] w fun e w' => e = .returned (.int .i64 D.length) ∧ w' = w := by
  obtain ⟨ka, kc, va, vc, hp, hk, hv, _⟩ := h.ex
  obtain ⟨c0, c1, f0, hlt⟩ := cell_of hp
  clear h hp hk hv
  generalize D.length = n at c0 c1 ⊢
  go_enter Try.func41, Try.ntmps41
  go_wp2_with fail
  go_ret
  exact ⟨rfl, rfl⟩
set_option maxHeartbeats 1000000 in
/-- Get. -/
theorem get_ok (F : Nat → Prop) (p : Nat) (D : List KV) (k : Int) (w : World) (h : MapAt w F p D) :
    Calls Try.prog 33 #[.pointer (some ⟨p, 0, none⟩), .int .i64 k] w fun e w' => e = .returned (.tuple #[.int .i64 ((look D k).getD 0), .bool (look D k).isSome]) ∧ ∃ q, w' = w.drewN q := by
  have C := Lib.hid (find_ok F p D k w h)
  have hasc := h.asc
  obtain ⟨ka, kc, va, vc, hp, hk, hv, _⟩ := h.ex
  obtain ⟨c0, c1, f0, hlt⟩ := cell_of hp
  cases e : look D k with
  | none =>
    rw [e] at C
    clear h hp hk hv e hasc
    generalize D.length = n at c0 c1
    go_enter Try.func33, Try.ntmps33
    go_wp2_with (go_at_call 39; refine C.out.mono ?_; rintro e w' ⟨rfl, q, rfl⟩)
    go_ret2
    exact ⟨rfl, q, rfl⟩
  | some v =>
    rw [e] at C
    obtain ⟨A, B, hD, hl, _⟩ := hasc.with e
    have hi : pos D k < D.length := by rw [← hl, hD]; simp
    obtain ⟨g, rfl, hg, hc, hf⟩ := hv.reads (by rw [valCells_len]; omega)
    have cv : w.cell? ⟨g, pos D k, none⟩ = some (.int .i64 v) := hc _ _ (by rw [← hl]; unfold valCells valsOf; rw [hD]; simp)
    clear h hp hk hv e hasc hc hD hl
    generalize pos D k = i at C cv hi
    generalize D.length = n at c0 c1 hi
    go_enter Try.func33, Try.ntmps33
    go_wp2_with (go_at_call 39; refine C.out.mono ?_; rintro e w' ⟨rfl, q, rfl⟩)
    go_ret2
    exact ⟨rfl, q, rfl⟩
set_option maxHeartbeats 1000000 in
/-- At. -/
theorem at_ok (F : Nat → Prop) (p : Nat) (D : List KV) (i : Nat) (q : KV) (w : World) (h : MapAt w F p D) (hq : D[i]? = some q) :
    Calls Try.prog 42 #[.pointer (some ⟨p, 0, none⟩), .int .i64 i] w fun e w' => e = .returned (.tuple #[.int .i64 q.1, .int .i64 q.2, .bool true]) ∧ ∃ n, w' = w.drewN n := by
  have C := Lib.hid (len_ok F p D w h)
  have hi : i < D.length := (List.getElem?_eq_some_iff.1 hq).1
  obtain ⟨ka, kc, va, vc, hp, hk, hv, _⟩ := h.ex
  obtain ⟨c0, c1, f0, hlt⟩ := cell_of hp
  obtain ⟨g, rfl, hg, hc, hf⟩ := hv.reads (by rw [valCells_len]; omega)
  obtain ⟨g2, rfl, hg2, hc2, hf2⟩ := hk.reads (by rw [keyCells_len]; omega)
  have cv : w.cell? ⟨g, i, none⟩ = some (.int .i64 q.2) := hc _ _ (by unfold valCells valsOf; simp [hq])
  have ck : w.cell? ⟨g2, i, none⟩ = some (.int .i64 q.1) := hc2 _ _ (by unfold keyCells keysOf; simp [hq])
  have hs := h.small
  clear h hp hk hv hc hc2 hq
  have d1 : decide ((i : Int) < 0) = false := by simp
  have d2 : decide ((D.length : Int) ≤ (i : Int)) = false := by simp; omega
  generalize D.length = n at c0 c1 hi C hs d2
  obtain ⟨qk, qv⟩ := q
  simp only at cv ck ⊢
  go_enter Try.func42, Try.ntmps42
  go_wp2_with (go_at_call 41; refine C.out.mono ?_; rintro e w' ⟨rfl, rfl⟩)
  go_quiet (fail)
  go_wp2_with fail
  go_ret3
  exact ⟨rfl, _, rfl⟩
set_option maxHeartbeats 1000000 in
theorem at_none (F : Nat → Prop) (p : Nat) (D : List KV) (i : Int) (w : World) (h : MapAt w F p D) (hi : i < 0 ∨ (D.length : Int) ≤ i) :
    Calls Try.prog 42 #[.pointer (some ⟨p, 0, none⟩), .int .i64 i] w fun e w' => e = .returned (.tuple #[.int .i64 0, .int .i64 0, .bool false]) ∧ w' = w := by
  have C := Lib.hid (len_ok F p D w h)
  clear h
  by_cases h0 : i < 0
  · have d1 : decide (i < 0) = true := by simp; omega
    clear hi
    go_enter Try.func42, Try.ntmps42
    go_wp2_with fail
    go_ret3
    exact ⟨rfl, rfl⟩
  · have d1 : decide (i < 0) = false := by simp; omega
    have d2 : decide ((D.length : Int) ≤ i) = true := by simp; omega
    generalize D.length = n at C hi d2
    go_enter Try.func42, Try.ntmps42
    go_wp2_with (go_at_call 41; refine C.out.mono ?_; rintro e w' ⟨rfl, rfl⟩)
    go_ret3
    exact ⟨rfl, rfl⟩
end Go.Proofs.Ytflihdcliknggaa

namespace Go.Proofs.Ytflihdcliknggaa
open Go.RowKit Go.Sort
set_option linter.unusedVariables false
set_option linter.unusedSimpArgs false

/-- A map of the things D, in memory of the call's own. -/
def GaveMap (w : World) (D : List KV) (e : Ending) (w' : World) : Prop := ∃ F p, e = .returned (.pointer (some ⟨p, 0, none⟩)) ∧ MapAt w' F p D ∧ More w w' ∧ ∀ k, F k → w.heap.size ≤ k
/-- The map at p holds D now; only its own blocks have turned. -/
def DidMap (w : World) (F : Nat → Prop) (p : Nat) (D : List KV) (v : Value) (e : Ending) (w' : World) : Prop :=
  e = .returned v ∧ ∃ F', MapAt w' F' p D ∧ Turned F w w' ∧ ∀ k, F' k → F k ∨ w.heap.size ≤ k

theorem heap_setCell {w : World} {b o : Nat} {c : Array Value} {e : TypeId} {fr : Nat × Nat} (x : Value) (h : w.heap[b]? = some (.cells c e fr)) : (w.setCell ⟨b, o, none⟩ x).heap[b]? = some (.cells (c.setIfInBounds o x) e fr) := by
  rw [setCell_eq]; exact heap_mapBlock _ h
theorem turned_setCell {S : Nat → Prop} {w w' : World} (ht : Turned S w w') {b o : Nat} (hb : b < w.heap.size → S b) (x : Value) : Turned S w (w'.setCell ⟨b, o, none⟩ x) := ht.setCell _ _ hb

set_option maxHeartbeats 1000000 in
theorem new_ok (w : World) : Calls Try.prog 27 #[] w (GaveMap w []) := by
  have hh := heap_new w (.cells #[.slice none 0 0, .slice none 0 0] 70)
  have fin : GaveMap w [] (.returned (.pointer (some ⟨w.heap.size, 0, none⟩))) (w.alloc (.cells #[.slice none 0 0, .slice none 0 0] 70)) := by
    refine ⟨fun k => k = w.heap.size, w.heap.size, rfl, ⟨asc_nil, by simp, fun k hk => by subst hk; simp, none, 0, none, 0, hh, RowAt.nil _ _, RowAt.nil _ _, rfl, (fun k hk => by cases hk), (fun k hk => by cases hk)⟩, (More.refl w).alloc _, fun k hk => by omega⟩
  go_enter Try.func27, Try.ntmps27
  go_wp2_with fail
  go_ret
  exact fin
theorem ins_keys {w : World} {D : List KV} (hs : D.length ≤ 100000) {i : Nat} (hi : i ≤ D.length) (k : Int) {a : Option Addr} {cap : Nat} (h : RowAt w 3 (keyCells D) a cap) :
    Calls Try.prog 38 #[.slice a D.length cap, .int .i64 i, .slice (some ⟨w.heap.size, 0, none⟩) 1 1] (w.alloc (.cells #[.int .i64 k] 3))
      fun e w' => ∃ a' cap', e = .returned (.slice a' (D.length + 1) cap') ∧ Moved w w' 3 ((keyCells D).take i ++ .int .i64 k :: (keyCells D).drop i) a a' cap' := by
  have := ins_int (keysOf D) i (by rw [keysOf_len]; exact hi) (by rw [keysOf_len]; omega) k a cap w h
  rw [keysOf_len] at this
  exact this
theorem ins_vals {w : World} {g : Nat} (hg : g = w.heap.size) {D : List KV} (hs : D.length ≤ 100000) {i : Nat} (hi : i ≤ D.length) (v : Int) {a : Option Addr} {cap : Nat} (h : RowAt w 3 (valCells D) a cap) :
    Calls Try.prog 38 #[.slice a D.length cap, .int .i64 i, .slice (some ⟨g, 0, none⟩) 1 1] (w.alloc (.cells #[.int .i64 v] 3))
      fun e w' => ∃ a' cap', e = .returned (.slice a' (D.length + 1) cap') ∧ Moved w w' 3 ((valCells D).take i ++ .int .i64 v :: (valCells D).drop i) a a' cap' := by
  subst hg
  have := ins_int (valsOf D) i (by rw [valsOf_len]; exact hi) (by rw [valsOf_len]; omega) v a cap w h
  rw [valsOf_len] at this
  exact this
theorem cells_mid (A B : List KV) (k : Int) (v : Int) : keyCells (A ++ (k, v) :: B) = (keyCells (A ++ B)).take A.length ++ .int .i64 k :: (keyCells (A ++ B)).drop A.length ∧ valCells (A ++ (k, v) :: B) = (valCells (A ++ B)).take A.length ++ .int .i64 v :: (valCells (A ++ B)).drop A.length := by
  constructor <;> simp [keyCells, valCells, keysOf, valsOf, List.take_append, List.drop_append]

/-- Behind both inserts, or both cuts: the map stands again. -/
theorem map_again {w w2 w4 : World} {F : Nat → Prop} {p : Nat} {D D' : List KV} {ka va ka' va' : Option Addr} {kc vc kc' vc' : Nat} {ks vs : List Value} {n' : Nat} (h : MapAt w F p D)
    (hp : w.heap[p]? = some (.cells #[.slice ka D.length kc, .slice va D.length vc] 70 (0, 0))) (hv : RowAt w 3 (valCells D) va vc) (hk0 : RowAt w 3 (keyCells D) ka kc) (fp : F p) (fk : ∀ k, owned ka k → F k ∧ k ≠ p) (fv : ∀ k, owned va k → F k ∧ k ≠ p ∧ ¬ owned ka k)
    (m1 : Moved w w2 3 ks ka ka' kc') (m2 : Moved (w2.setCell ⟨p, 0, none⟩ (.slice ka' n' kc')) w4 3 vs va va' vc')
    (ha : Asc D') (hs : D'.length ≤ 100000) (e1 : ks = keyCells D') (e2 : vs = valCells D') (e3 : n' = D'.length) :
    ∃ F', MapAt (w4.setCell ⟨p, 1, none⟩ (.slice va' n' vc')) F' p D' ∧ Turned F w (w4.setCell ⟨p, 1, none⟩ (.slice va' n' vc')) ∧ ∀ k, F' k → F k ∨ w.heap.size ≤ k := by
  subst e1 e2 e3
  have hpw := lt_of_heap hp
  have hp2 : w2.heap[p]? = _ := (Turned.block m1.turn p hpw (fun q => (fk p q).2 rfl)).trans hp
  have hp3 := heap_setCell (o := 0) (.slice ka' D'.length kc') hp2
  have hp4 : w4.heap[p]? = _ := (Turned.block m2.turn p (lt_of_heap hp3) (fun q => (fv p q).2.1 rfl)).trans hp3
  have hp5 := heap_setCell (o := 1) (.slice va' D'.length vc') hp4
  have t1 : Turned F w w2 := m1.turn.mono fun k _ q => (fk k q).1
  have t2 : Turned F w (w2.setCell ⟨p, 0, none⟩ (.slice ka' D'.length kc')) := turned_setCell t1 (fun _ => fp) _
  have t3 : Turned F w w4 := t2.trans (m2.turn.mono fun k _ q => (fv k q).1)
  have t4 : Turned F w (w4.setCell ⟨p, 1, none⟩ (.slice va' D'.length vc')) := turned_setCell t3 (fun _ => fp) _
  have hs23 : (w2.setCell ⟨p, 0, none⟩ (.slice ka' D'.length kc')).heap.size = w2.heap.size := by simp
  have hs45 : (w4.setCell ⟨p, 1, none⟩ (.slice va' D'.length vc')).heap.size = w4.heap.size := by simp
  have s12 := m1.turn.size
  have s24 : w2.heap.size ≤ w4.heap.size := by have := m2.turn.size; omega
  have hva := hv.lt
  -- where the new rows are
  have fk' : ∀ k, owned ka' k → (owned ka k ∨ w.heap.size ≤ k) ∧ k < w2.heap.size := fun k q => ⟨m1.from' k q, m1.row.lt k q⟩
  have fv' : ∀ k, owned va' k → (owned va k ∨ w2.heap.size ≤ k) ∧ k < w4.heap.size := fun k q => ⟨by have := m2.from' k q; rwa [hs23] at this, m2.row.lt k q⟩
  have kp : ∀ k, owned ka' k → k ≠ p := fun k q e => by
    subst e
    rcases (fk' k q).1 with q | q
    · exact (fk k q).2 rfl
    · omega
  have vp : ∀ k, owned va' k → k ≠ p := fun k q e => by
    subst e
    rcases (fv' k q).1 with q | q
    · exact (fv k q).2.1 rfl
    · omega
  have kv : ∀ k, owned ka' k → ¬ owned va k := fun k q r => by
    rcases (fk' k q).1 with q | q
    · exact (fv k r).2.2 q
    · have := hva k r; omega
  have vk : ∀ k, owned va' k → ¬ owned ka' k := fun k q r => by
    rcases (fv' k q).1 with q | q
    · exact kv k r q
    · have := (fk' k r).2; omega
  refine ⟨fun k => (F k ∨ w.heap.size ≤ k) ∧ k < w4.heap.size, ⟨ha, hs, fun k hk => by rw [hs45]; exact hk.2, ka', kc', va', vc', ?_, ?_, ?_, ⟨.inl fp, by omega⟩, ?_, ?_⟩, t4, fun k hk => hk.1⟩
  · rw [hp5]; simp
  · have r3 : RowAt (w2.setCell ⟨p, 0, none⟩ (.slice ka' D'.length kc')) 3 (keyCells D') ka' kc' := m1.row.keep (turned_setCell (S := fun k => k = p) (Turned.refl _ w2) (fun _ => rfl) _) kp
    have r4 : RowAt w4 3 (keyCells D') ka' kc' := r3.keep m2.turn kv
    exact r4.keep (turned_setCell (S := fun k => k = p) (Turned.refl _ w4) (fun _ => rfl) _) kp
  · exact m2.row.keep (turned_setCell (S := fun k => k = p) (Turned.refl _ w4) (fun _ => rfl) _) vp
  · intro k q
    refine ⟨⟨?_, by have := (fk' k q).2; omega⟩, kp k q⟩
    rcases (fk' k q).1 with q | q
    · exact .inl (fk k q).1
    · exact .inr q
  · intro k q
    refine ⟨⟨?_, (fv' k q).2⟩, vp k q, vk k q⟩
    rcases (fv' k q).1 with q | q
    · exact .inl (fv k q).1
    · exact .inr (by omega)

set_option maxHeartbeats 1000000 in
theorem put_new (F : Nat → Prop) (p : Nat) (D : List KV) (k : Int) (v : Int) (w : World) (h0 : MapAt w F p D) (hs : D.length < 100000) (hk : look D k = none) :
    Calls Try.prog 32 #[.pointer (some ⟨p, 0, none⟩), .int .i64 k, .int .i64 v] w (DidMap w F p (putD D k v) (.bool true)) := by
  obtain ⟨ka, kc, va, vc, hp0, hk0, hv0, fp, fk, fv⟩ := h0.ex
  have C0 := search_map h0.asc h0.small k hk0
  rw [hk] at C0
  obtain ⟨A, B, hD, hl, ha, hb⟩ := h0.asc.without hk
  have hi : A.length ≤ D.length := by rw [hD]; simp
  have FIN0 : ∀ q w2 w4 ka' kc' va' vc' ks vs, Moved (w.drewN q) w2 3 ks ka ka' kc' → Moved (w2.setCell ⟨p, 0, none⟩ (.slice ka' (D.length + 1) kc')) w4 3 vs va va' vc' →
      ks = (keyCells D).take A.length ++ .int .i64 k :: (keyCells D).drop A.length → vs = (valCells D).take A.length ++ .int .i64 v :: (valCells D).drop A.length →
      DidMap w F p (putD D k v) (.bool true) (.returned (.bool true)) (w4.setCell ⟨p, 1, none⟩ (.slice va' (D.length + 1) vc')) := by
    intro q w2 w4 ka' kc' va' vc' ks vs m1 m2 e1 e2
    have hq := more_drewN w q
    have hlen : (putD D k v).length = D.length + 1 := by rw [len_putD h0.asc, hk]; rfl
    have hD' : putD D k v = A ++ (k, v) :: B := by rw [hD, putD_new ha hb]
    obtain ⟨F', hm, ht, hf⟩ := map_again (D' := putD D k v) (h0.more hq) hp0 (hv0.keep hq (fun _ _ q => q)) (hk0.keep hq (fun _ _ q => q)) fp fk fv m1 m2 (asc_putD h0.asc k v) (by omega)
      (by rw [e1, hD', (cells_mid A B k v).1, hD]) (by rw [e2, hD', (cells_mid A B k v).2, hD]) hlen.symm
    exact ⟨rfl, F', hm, (Turned.mono hq (fun _ _ q => q.elim)).trans ht, hf⟩
  have FIN := Lib.hid FIN0
  clear FIN0
  have FK := Lib.hid fk
  have FV := Lib.hid fv
  have HD := h0.small
  rw [← hl] at C0
  have C := Lib.hid C0
  clear C0
  obtain ⟨c0, c1, f0, hlt⟩ := cell_of hp0
  have HP := Lib.hid hp0
  have HK := Lib.hid hk0
  have HV := Lib.hid hv0
  clear hp0 fk fv hD hl ha hb h0 hs hk hk0 hv0 fp B
  go_enter Try.func32, Try.ntmps32
  go_wp2_with fail
  refine C.out.mono ?_
  rintro e w1 ⟨rfl, q, rfl⟩
  have hq := more_drewN w q
  go_wp2_with fail
  refine (ins_keys HD hi k (HK.out.keep hq (fun _ _ q => q))).mono ?_
  rintro e w2 ⟨ka', kc', rfl, m1⟩
  have hp2 : w2.heap[p]? = _ := (Turned.block m1.turn p (lt_of_heap HP.out) (fun q => (FK.out p q).2 rfl)).trans HP.out
  obtain ⟨d0, d1, g0, hlt2⟩ := cell_of hp2
  have hp3 := heap_setCell (o := 0) (.slice ka' (D.length + 1) kc') hp2
  obtain ⟨x0, x1, z0, hlt3⟩ := cell_of (by simpa using hp3)
  have hv3 : RowAt (w2.setCell ⟨p, 0, none⟩ (.slice ka' (D.length + 1) kc')) 3 (valCells D) va vc :=
    ((HV.out.keep hq (fun _ _ q => q)).keep m1.turn (fun k q => (FV.out k q).2.2)).keep (turned_setCell (S := fun k => k = p) (Turned.refl _ w2) (fun _ => rfl) _) (fun k q => (FV.out k q).2.1)
  have HV3 := Lib.hid hv3
  have M1 := Lib.hid m1
  clear hp2 hp3 hv3 m1
  go_wp2_with fail
  refine (ins_vals (w := w2.setCell ⟨p, 0, none⟩ (.slice ka' (D.length + 1) kc')) (by simp) HD hi v HV3.out).mono ?_
  rintro e w4 ⟨va', vc', rfl, m2⟩
  have hp3 := heap_setCell (o := 0) (.slice ka' (D.length + 1) kc') ((Turned.block M1.out.turn p (lt_of_heap HP.out) (fun q => (FK.out p q).2 rfl)).trans HP.out)
  have hp4 : w4.heap[p]? = _ := (Turned.block m2.turn p (lt_of_heap hp3) (fun q => (FV.out p q).2.1 rfl)).trans hp3
  obtain ⟨y0, y1, k0, hlt4⟩ := cell_of (by simpa using hp4)
  have M2 := Lib.hid m2
  clear hp3 hp4 m2
  go_wp2_with fail
  go_ret
  exact FIN.out _ _ _ _ _ _ _ _ _ M1.out M2.out rfl rfl

set_option maxHeartbeats 1000000 in
theorem put_old (F : Nat → Prop) (p : Nat) (D : List KV) (k : Int) (v u : Int) (w : World) (h0 : MapAt w F p D) (hk : look D k = some u) :
    Calls Try.prog 32 #[.pointer (some ⟨p, 0, none⟩), .int .i64 k, .int .i64 v] w (DidMap w F p (putD D k v) (.bool false)) := by
  obtain ⟨ka, kc, va, vc, hp0, hk0, hv0, fp, fk, fv⟩ := h0.ex
  have C0 := search_map h0.asc h0.small k hk0
  rw [hk] at C0
  obtain ⟨A, B, hD, hl, ha, hb⟩ := h0.asc.with hk
  have hi : A.length < D.length := by rw [hD]; simp
  obtain ⟨g, rfl, hg, hc, hf⟩ := hv0.reads (by rw [valCells_len]; omega)
  have cg : w.cell? ⟨g, A.length, none⟩ = some (.int .i64 u) := hc _ _ (by unfold valCells valsOf; rw [hD]; simp)
  have hfg := hf A.length
  have FIN0 : ∀ q, DidMap w F p (putD D k v) (.bool false) (.returned (.bool false)) ((w.drewN q).setCell ⟨g, A.length, none⟩ (.int .i64 v)) := by
    intro q
    have hq := more_drewN w q
    have hlen : (putD D k v).length = D.length := by rw [len_putD h0.asc, hk]; rfl
    have hD' : putD D k v = A ++ (k, v) :: B := by rw [hD, putD_old ha hb]
    have hgp := (fv g rfl).2.1
    have hh : ((w.drewN q).setCell ⟨g, A.length, none⟩ (.int .i64 v)).heap.size = w.heap.size := by simp
    have tg : Turned (fun k => k = g) w ((w.drewN q).setCell ⟨g, A.length, none⟩ (.int .i64 v)) := turned_setCell (S := fun k => k = g) ((Turned.refl _ w).drewN q) (fun _ => rfl) _
    refine ⟨rfl, F, ⟨asc_putD h0.asc k v, by rw [hlen]; exact h0.small, fun k hk => by rw [hh]; exact h0.lt k hk, ka, kc, _, vc, ?_, ?_, ?_, fp, fk, fv⟩, tg.mono fun k _ e => by subst e; exact (fv k rfl).1, fun k hk => .inl hk⟩
    · rw [hlen, Turned.block tg p (lt_of_heap hp0) (fun e => hgp e.symm)]; exact hp0
    · have : keyCells (putD D k v) = keyCells D := by rw [hD', hD]; simp [keyCells, keysOf]
      rw [this]
      exact hk0.keep tg fun x hx e => (fv g rfl).2.2 (e ▸ hx)
    · have : valCells (putD D k v) = (valCells D).set A.length (.int .i64 v) := by rw [hD', hD]; simp [valCells, valsOf, List.set_append]
      rw [this]
      exact rowAt_set _ (hv0.keep hq (fun _ _ q => q)) (by rw [valCells_len]; exact hi)
  have FIN := Lib.hid FIN0
  rw [← hl] at C0
  have C := Lib.hid C0
  have HD := h0.small
  obtain ⟨c0, c1, f0, hlt⟩ := cell_of hp0
  clear FIN0 C0 hp0 fk fv hD hl ha hb h0 hk hk0 hv0 fp B hc hf
  generalize A.length = i at *
  generalize D.length = n at *
  go_enter Try.func32, Try.ntmps32
  go_wp2_with fail
  refine C.out.mono ?_
  rintro e w1 ⟨rfl, q, rfl⟩
  go_wp2_with fail
  go_ret
  exact FIN.out q

theorem cells_cut (A B : List KV) (k : Int) (v : Int) : keyCells (A ++ B) = (keyCells (A ++ (k, v) :: B)).take A.length ++ (keyCells (A ++ (k, v) :: B)).drop (A.length + 1) ∧ valCells (A ++ B) = (valCells (A ++ (k, v) :: B)).take A.length ++ (valCells (A ++ (k, v) :: B)).drop (A.length + 1) := by
  constructor <;> simp [keyCells, valCells, keysOf, valsOf, List.take_append, List.drop_append]

/-- Put. -/
theorem put_ok (F : Nat → Prop) (p : Nat) (D : List KV) (k : Int) (v : Int) (w : World) (h : MapAt w F p D) (hs : D.length < 100000) :
    Calls Try.prog 32 #[.pointer (some ⟨p, 0, none⟩), .int .i64 k, .int .i64 v] w (DidMap w F p (putD D k v) (.bool (look D k).isNone)) := by
  cases e : look D k with
  | none => exact put_new F p D k v w h hs e
  | some u => exact put_old F p D k v u w h e
end Go.Proofs.Ytflihdcliknggaa

namespace Go.Proofs.Ytflihdcliknggaa
open Go.RowKit Go.Sort
set_option linter.unusedVariables false
set_option linter.unusedSimpArgs false

/-- A row that a call has made, from w on. -/
structure NewRow (w W W' : World) (e : TypeId) (xs : List Value) (a : Option Addr) (cap : Nat) : Prop where
  row : RowAt W' e xs a cap
  step : More W W'
  all : More w W'
  new : ∀ k, owned a k → W.heap.size ≤ k
theorem clone_keys {w : World} {D : List KV} (hs : D.length ≤ 100000) {a : Option Addr} {cap : Nat} (h : RowAt w 3 (keyCells D) a cap) (W : World) (hW : More w W) :
    Calls Try.prog 18 #[.slice a D.length cap] W fun e W' => ∃ a' cap', e = .returned (.slice a' D.length cap') ∧ NewRow w W W' 3 (keyCells D) a' cap' := by
  have := clone_int (keysOf D) (by rw [keysOf_len]; omega) a cap W (h.keep hW (fun _ _ q => q))
  rw [keysOf_len] at this
  refine this.mono ?_
  rintro e W' ⟨a', cap', rfl, hr, hm, hn⟩
  exact ⟨a', cap', rfl, hr, hm, hW.trans hm, hn⟩
theorem clone_vals {w : World} {D : List KV} (hs : D.length ≤ 100000) {a : Option Addr} {cap : Nat} (h : RowAt w 3 (valCells D) a cap) (W : World) (hW : More w W) :
    Calls Try.prog 18 #[.slice a D.length cap] W fun e W' => ∃ a' cap', e = .returned (.slice a' D.length cap') ∧ NewRow w W W' 3 (valCells D) a' cap' := by
  have := clone_int (valsOf D) (by rw [valsOf_len]; omega) a cap W (h.keep hW (fun _ _ q => q))
  rw [valsOf_len] at this
  refine this.mono ?_
  rintro e W' ⟨a', cap', rfl, hr, hm, hn⟩
  exact ⟨a', cap', rfl, hr, hm, hW.trans hm, hn⟩
theorem copy_fin {w Wk Wk' Wv Wv' W : World} {D : List KV} (ha : Asc D) (hs : D.length ≤ 100000) {ka va : Option Addr} {kc vc : Nat} (hk : NewRow w Wk Wk' 3 (keyCells D) ka kc) (hv : NewRow w Wv Wv' 3 (valCells D) va vc)
    (mk : More Wk' W) (mv : More Wv' W) (hw1 : w.heap.size ≤ Wk.heap.size) (hw2 : w.heap.size ≤ Wv.heap.size) (hd : Wk'.heap.size ≤ Wv.heap.size ∨ Wv'.heap.size ≤ Wk.heap.size) :
    GaveMap w D (.returned (.pointer (some ⟨W.heap.size, 0, none⟩))) (W.alloc (.cells #[.slice ka D.length kc, .slice va D.length vc] 70)) := by
  have m := (More.refl W).alloc (.cells #[.slice ka D.length kc, .slice va D.length vc] 70)
  have hk' := hk.row.keep mk (fun _ _ q => q)
  have hv' := hv.row.keep mv (fun _ _ q => q)
  have lk := hk.row.lt
  have lv := hv.row.lt
  have sk := mk.size
  have sv := mv.size
  refine ⟨fun k => w.heap.size ≤ k ∧ k < W.heap.size + 1, W.heap.size, rfl, ⟨ha, hs, fun k q => by simp; omega, ka, kc, va, vc, heap_new W _, hk'.keep m (fun _ _ q => q), hv'.keep m (fun _ _ q => q), ⟨by have := hk.all.size; omega, by omega⟩, ?_, ?_⟩, (hk.all.trans mk).trans m, fun k q => q.1⟩
  · intro k q
    have := hk.new k q; have := lk k q
    exact ⟨⟨by omega, by omega⟩, by omega⟩
  · intro k q
    have := hv.new k q; have := lv k q
    refine ⟨⟨by omega, by omega⟩, by omega, fun r => ?_⟩
    have := hk.new k r; have := lk k r
    omega

set_option maxRecDepth 100000 in
set_option maxHeartbeats 2000000 in
theorem copy_ok (F : Nat → Prop) (p : Nat) (D : List KV) (w : World) (h : MapAt w F p D) :
    Calls Try.prog 40 #[.pointer (some ⟨p, 0, none⟩)] w (GaveMap w D) := by
  obtain ⟨ka, kc, va, vc, hp, hk, hv, _⟩ := h.ex
  obtain ⟨c0, c1, f0, hlt⟩ := cell_of hp
  have CK := Lib.hid (clone_keys h.small hk)
  have CV := Lib.hid (clone_vals h.small hv)
  have HA := Lib.hid h.asc
  have HS := Lib.hid h.small
  have C0 := Lib.hid c0
  have C1 := Lib.hid c1
  clear h hp hk hv
  go_enter Try.func40, Try.ntmps40
  go_wp2_with fail
  go_region_held3 (fun w' => w'.cell? ⟨p, 0, none⟩ = some (.slice ka D.length kc) ∧ w'.cell? ⟨p, 1, none⟩ = some (.slice va D.length vc))
    (first | exact ⟨M40.out.cell C0.out, M40.out.cell C1.out⟩ | exact ⟨M41.out.cell C0.out, M41.out.cell C1.out⟩ | go_keep)
    (first
      | (go_at_call 18; refine (CK.out _ (by first | exact M41.out | exact M41.out.drew | exact (More.refl w).drew | exact More.refl w)).mono ?_; rintro e w40 ⟨a40, c40, rfl, h40⟩; have H40 := Lib.hid h40; have M40 := Lib.hid h40.all; clear h40)
      | (go_at_call 18; refine (CV.out _ (by first | exact M40.out | exact M40.out.drew | exact (More.refl w).drew | exact More.refl w)).mono ?_; rintro e w41 ⟨a41, c41, rfl, h41⟩; have H41 := Lib.hid h41; have M41 := Lib.hid h41.all; clear h41))
  all_goals go_wp2_with fail
  all_goals go_ret
  all_goals first
    | exact copy_fin HA.out HS.out H40.out H41.out H41.out.step (More.refl _) (by simp) M40.out.size (.inl (Nat.le_refl _))
    | exact copy_fin HA.out HS.out H40.out H41.out (More.refl _) H40.out.step M41.out.size (by simp) (.inr (Nat.le_refl _))
end Go.Proofs.Ytflihdcliknggaa

